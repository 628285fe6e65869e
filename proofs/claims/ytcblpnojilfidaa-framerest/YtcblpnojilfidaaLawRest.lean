/- The walk of FrameRest: out of the contracts. -/
import Derived.Test.YtcblpnojilfidaaBegun2
import Derived.Test.YtcblpnojilfidaaCuts
import Derived.Test.YtcblpnojilfidaaRows1
import Derived.Test.YtcblpnojilfidaaSame2
namespace Go.Proofs.Ytcblpnojilfidaa
open Go.RowKit
set_option linter.unusedVariables false

set_option maxRecDepth 100000 in
set_option maxHeartbeats 2000000 in
theorem frameRest_core (A : Option Addr) (l : List Int) (n c : Nat) (x : Int) (w : World) (h : Rd w w.heap.size A l) (hn : n = l.length) (hl : n ≤ maxLen) (hx : 0 ≤ x ∧ x ≤ 255) :
    Calls Try.prog 6 #[.slice A n c, .int .u8 x] w fun e w' => e = .returned (.bool true) ∧ Below w.heap.size w w' := by
  have HR := Lib.hid h
  have HN := Lib.hid hn
  clear h hn
  unfold maxLen at hl
  obtain ⟨hx0, hx1⟩ := hx
  by_cases h40 : 40 < n
  · have h40' : (40 : Int) < (n : Int) := by omega
    go_enter Try.func6, Try.ntmps6
    go_wp2_with fail
    refine (begun2_any w).mono ?_
    rintro e w1 ⟨rfl, hb1⟩
    have HB1 := Lib.hid hb1
    clear hb1
    go_wp2
    go_ret
    exact ⟨rfl, HB1.out⟩
  · have h40' : ¬ (40 : Int) < (n : Int) := by omega
    go_enter Try.func6, Try.ntmps6
    go_wp2_with fail
    refine (begun2_any w).mono ?_
    rintro e w1 ⟨rfl, hb1⟩
    have HB1 := Lib.hid hb1
    have HR1 := Lib.hid (HR.out.later hb1)
    clear hb1
    go_wp2_with fail
    refine (put_any2 A l n c w1 HR1.out HN.out (by omega)).mono ?_
    rintro e w2 ⟨v2, rfl, ho2, hb2⟩
    have hby : IsBytes (enF l) := fun z hz => by
      simp [enF] at hz
      rcases hz with rfl | rfl | hz
      · have := HN.out; omega
      · omega
      · exact HR.out.1 z hz
    obtain ⟨A2, c2, rfl, hn2, hm2, hr2⟩ := ho2.rdX hby
    have hlen : (enF l).length = n + 2 := by simp [enF, HN.out]
    rw [hlen] at hn2 hr2 ⊢
    unfold maxLen at hm2
    have HB2 := Lib.hid (HB1.out.trans (hb2.mono HB1.out.size))
    have H2 := Lib.hid hr2
    have HE := Lib.hid hlen
    clear ho2 hb2 hr2 hby hlen
    go_wp2_with fail
    obtain ⟨k, hk⟩ : ∃ k : Nat, x % ((n : Int) + 2) = k := ⟨(x % ((n : Int) + 2)).toNat, by have := Int.emod_nonneg x (show (n : Int) + 2 ≠ 0 by omega); omega⟩
    have hk2 : k < n + 2 := by have := Int.emod_lt_of_pos x (show (0 : Int) < (n : Int) + 2 by omega); omega
    rw [hk]
    clear hk
    obtain ⟨P1, p1, hp1, hpe1, hq1⟩ := cutB_h A2 (n + 2) c2 (k : Int) k rfl (by omega)
    obtain ⟨P2, p2, hp2, hpe2, hq2⟩ := cutB_l A2 (n + 2) c2 (k : Int) k (n + 2 - k) rfl rfl (by omega) hn2
    have HQ := Lib.hid (And.intro ((hq1 _ w2 (enF l) (by rw [HE.out]; exact hn2) H2.out).mono (Y := fun k => k < w2.heap.size) fun k hk _ => hk) ((hq2 _ w2 (enF l) (by rw [HE.out]; exact hn2) H2.out).mono (Y := fun k => k < w2.heap.size) fun k hk _ => hk))
    clear hq1 hq2 hpe1 hpe2
    refine (new_any w2).mono ?_
    intro e w3 h3
    have hb3 := h3.2.2.1
    obtain ⟨rfl, hp3⟩ := PIn.new HB2.out (Nat.le_refl _) h3
    have hQ3 := And.intro (HQ.out.1.later hb3) (HQ.out.2.later hb3)
    clear HQ hb3 h3
    generalize w2.heap.size = g at hp3 hQ3 ⊢
    have HP := Lib.hid hp3
    have HQ3 := Lib.hid hQ3
    clear hp3 hQ3
    have hne : ((n : Int) + 2 != (n : Int) + 2) = false := by simp
    go_wp2_with fail
    have hl40 : l.length ≤ 5000 := by rw [← HN.out]; omega
    have hk3 : k < l.length + 2 := by rw [← HN.out]; exact hk2
    have hlk : ((enF l).take k).length = k := by rw [List.length_take, HE.out]; omega
    have hlk2 : n + 2 - k = ((enF l).drop k).length := by rw [List.length_drop, HE.out]
    have HM := Lib.hid (And.intro (fr_part l hl40 k hk3) (And.intro hlk hlk2))
    have hfull : fr (enF l) = ([l], [], false) := by
      have := fr_enF l [] hl40
      rw [List.append_nil, fr_nil] at this
      exact this
    have HFU := Lib.hid hfull
    clear hl40 hk3 hlk hlk2 hfull
    refine (add_in g _ [] ((enF l).take k) ((enF l).take k) _ 0 P1 k p1 w3 HP.out HQ3.out.1 HM.out.2.1.symm (by simp; omega) rfl HM.out.1 rfl).mono ?_
    rintro e w4 ⟨f4, v4, rfl, hf4, hp4, hc4, -⟩
    obtain ⟨Af, cf, vs, rfl, -, -, -, -⟩ := hf4.rd
    have HP4 := Lib.hid (show PIn w.heap.size w w4 g v4 ((enF l).take k) false from hp4)
    have HQ4 := Lib.hid (HQ3.out.2.chg hc4 fun k' _ hk' e => by
      rcases e with e | e
      · omega
      · simp [Value.ownBlock] at e)
    clear hf4 hp4 hc4 HQ3 HP
    go_wp2_with fail
    refine (rest_any g v4 ((enF l).take k) false w4 HP4.out.1).mono ?_
    rintro e w5 ⟨rfl, rfl⟩
    rw [HM.out.2.1]
    go_wp2_with fail
    refine (add_in g v4 ((enF l).take k) ((enF l).drop k) (enF l) _ 0 P2 (n + 2 - k) p2 w4 HP4.out HQ4.out HM.out.2.2 (by rw [HM.out.2.1]; omega) (List.take_append_drop _ _) HFU.out rfl).mono ?_
    rintro e w6 ⟨f6, v6, rfl, hf6, hp6, -⟩
    have hrd := hf6.rd
    obtain ⟨A6, c6, vs6, rfl, -, -, -, -⟩ := hf6.rd
    obtain ⟨b, o, B6, d6, rfl, -, -, hcell, -, -, hr6⟩ := hrd.at_ (j := 0) (by simp)
    simp only [Nat.add_zero, List.getD_cons_zero] at hcell hr6
    have HP6 := Lib.hid (show PIn w.heap.size w w6 g v6 [] false from hp6)
    have hs1 : ∀ m, (convert 27 9 (.slice B6 l.length d6)).run Try.prog (w6.drewN m) = .ok (.string (strOfNums l)) (w6.drewN m) := fun m => Rd.string (w := w6.drewN m) hr6.rd d6
    have hR6 : Rd w6 w6.heap.size A l := (HR.out.below HP6.out.2.2.2.1).more HP6.out.2.2.2.1.size
    have hs2 : ∀ m, (convert 27 9 (.slice A n c)).run Try.prog (w6.drewN m) = .ok (.string (strOfNums l)) (w6.drewN m) := fun m => by rw [HN.out]; exact Rd.string (w := w6.drewN m) hR6 c
    have heq : ((strOfNums l).toList == (strOfNums l).toList) = true := by simp
    rw [← HN.out] at hcell hs1
    have hkk : ((k : Int) == (k : Int)) = true := by simp
    clear hf6 hp6 hrd hr6 hR6 HQ4 HM HFU hp1 hp2
    go_wp2
    go_quiet ((go_at_call 12; exact quietL (rest_any g v6 [] false _ HP6.out.1)))
    go_wp2
    go_ret
    exact ⟨rfl, below_drewN' HP6.out.2.2.2.1 _⟩
end Go.Proofs.Ytcblpnojilfidaa
