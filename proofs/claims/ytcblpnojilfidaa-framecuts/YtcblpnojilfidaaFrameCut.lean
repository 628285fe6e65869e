/- frame.cut: the whole frames at the front. -/
import Derived.Test.YtcblpnojilfidaaLists
import Derived.Test.YtcblpnojilfidaaFrameMath
import Derived.Test.YtcblpnojilfidaaBits
import Derived.Deep.QuietTactic
import Derived.BigQuiet
namespace Go.Proofs.Ytcblpnojilfidaa
open Go.RowKit
set_option linter.unusedVariables false

def CutPost (l : List Int) (n : Nat) (w : World) (e : Ending) (w' : World) : Prop :=
  ∃ f k, e = .returned (.tuple #[f, .int .i64 k, .int .i64 (if (fr l).2.2 then 4 else 0)]) ∧ OwnL (fun x => w.heap.size ≤ x) w' f (fr l).1 ∧ ((fr l).2.2 = false → ∃ j : Nat, k = j ∧ j ≤ n ∧ (fr l).2.1 = l.drop j) ∧ Below w.heap.size w w'

set_option maxHeartbeats 1000000 in
theorem cut_any (A : Option Addr) (l : List Int) (n c : Nat) (w : World) (h : Rd w w.heap.size A l) (hn : n = l.length) (hl : n ≤ 1000000) (hc : n ≤ c) (hcm : c ≤ maxLen) :
    Calls Try.prog 16 #[.slice A n c] w (CutPost l n w) := by
  have HR := Lib.hid h
  have HN := Lib.hid hn
  clear h hn
  unfold maxLen at hcm
  go_enter Try.func16, Try.ntmps16
  go_wp2
  go_loopw [2, 3] (fun f p wr => ∃ (fs : List (List Int)) (k : Nat), k ≤ n ∧ p = .int .i64 k ∧ Hid (OwnL (fun x => w.heap.size ≤ x) wr f fs ∧ Below w.heap.size w wr ∧ fr l = (fs ++ (fr (l.drop k)).1, (fr (l.drop k)).2) ∧ fs.length ≤ k)) (fun _ p _ => n - (intOf p).toNat)
  case atStart => exact ⟨[], 0, by omega, rfl, OwnL.nil _ _, Below.refl _ _, by simp, by simp⟩
  case round =>
    obtain ⟨fs, k, hk, rfl, HX⟩ := hrel
    by_cases h2 : (n : Int) - k < 2
    · have HQ : Hid (fr l = (fs, l.drop k, false)) := by
        have e := HX.out.2.2.1
        rw [fr_short (l := l.drop k) (by simp; rw [← HN.out]; omega)] at e
        rw [List.append_nil] at e
        exact e
      go_wp2
      go_ret3
      refine ⟨u2, k, ?_, ?_, fun _ => ⟨k, rfl, hk, ?_⟩, HX.out.2.1⟩
      · rw [HQ.out]; rfl
      · rw [HQ.out]; exact HX.out.1
      · rw [HQ.out]
    · have h2' : 2 ≤ (n : Int) - k := by omega
      have hlen : k + 2 ≤ l.length := by rw [← HN.out]; omega
      have hRr : Rd wr w.heap.size A l := HR.out.below HX.out.2.1
      obtain ⟨b, o, rfl, hb, hcell⟩ := hRr.spot (j := k) (by omega)
      have hc0 := hcell k (by omega)
      have hc1 := hcell (k + 1) (by omega)
      obtain ⟨x0, x1⟩ := hRr.byte (k := k) (by omega)
      obtain ⟨y0, y1⟩ := hRr.byte (k := k + 1) (by omega)
      have HS : Hid (szOf (l.drop k) = (l.getD k 0 * 256 + l.getD (k + 1) 0).toNat) := by simp [szOf, List.getD_eq_getElem?_getD, Hid]
      generalize l.getD k 0 = x at *
      generalize l.getD (k + 1) 0 = y at *
      have HC := Lib.hid hcell
      have HRr := Lib.hid hRr
      clear hcell hRr
      have hsz : (szOf (l.drop k) : Int) = x * 256 + y := by rw [HS.out]; omega
      generalize hsn : szOf (l.drop k) = sz at *
      have HSN := Lib.hid hsn
      have HZ := Lib.hid hsz
      clear hsn HS
      go_wp2
      go_quiet (fail)
      rw [or_bytes x y x0 x1 y0 y1, ← hsz]
      clear hsz
      have hszb : sz ≤ 65535 := by have := HZ.out; omega
      by_cases hlong : 5000 < sz
      · have HQ : Hid (fr l = (fs, [], true)) := by
          have e := HX.out.2.2.1
          rw [fr_long (l := l.drop k) (by simp; omega) (by rw [HSN.out]; exact hlong), List.append_nil] at e
          exact e
        have hlong' : (5000 : Int) < sz := by omega
        clear HZ x0 x1 y0 y1 hc0 hc1
        go_wp2
        go_ret3
        refine ⟨u2, k, ?_, ?_, fun h => ?_, ?_⟩
        · rw [HQ.out]; rfl
        · rw [HQ.out]; exact HX.out.1
        · rw [HQ.out] at h; cases h
        · exact below_drewN' HX.out.2.1 _
      · have hlong' : ¬ (5000 : Int) < sz := by omega
        by_cases hw : n < k + 2 + sz
        · have HQ : Hid (fr l = (fs, l.drop k, false)) := by
            have e := HX.out.2.2.1
            rw [fr_wait (l := l.drop k) (by simp; omega) (by rw [HSN.out]; exact hlong) (by rw [HSN.out]; simp; rw [← HN.out]; omega), List.append_nil] at e
            exact e
          have hw' : (n : Int) < k + 2 + sz := by omega
          clear HZ x0 x1 y0 y1 hc0 hc1
          go_wp2
          go_ret3
          refine ⟨u2, k, ?_, ?_, fun _ => ⟨k, rfl, hk, ?_⟩, ?_⟩
          · rw [HQ.out]; rfl
          · rw [HQ.out]; exact HX.out.1
          · rw [HQ.out]
          · exact below_drewN' HX.out.2.1 _
        · have hw' : ¬ (n : Int) < k + 2 + sz := by omega
          clear HZ x0 x1 y0 y1 hc0 hc1
          have HQ : Hid (fr l = (fs ++ ((l.drop (k + 2)).take sz :: (fr (l.drop (k + 2 + sz))).1), (fr (l.drop (k + 2 + sz))).2)) := by
            have e := HX.out.2.2.1
            rw [fr_one (l := l.drop k) (by simp; omega) (by rw [HSN.out]; exact hlong) (by rw [HSN.out]; simp; rw [← HN.out]; omega), HSN.out, List.drop_drop, List.drop_drop, show k + (sz + 2) = k + 2 + sz from by omega] at e
            exact e
          have HL : Hid (sz = ((l.drop (k + 2)).take sz).length) := by
            unfold Hid
            rw [List.length_take, List.length_drop, ← HN.out]; omega
          have HB : Hid (IsBytes ((l.drop (k + 2)).take sz)) := IsBytes.take (IsBytes.drop HRr.out.1 _) _
          have HRs : Hid (Rd (wr.drewN nq) (wr.drewN nq).heap.size (some ⟨b, o + (k + 2), none⟩) ((l.drop (k + 2)).take sz) ∧ (c = k + 2 → Rd (wr.drewN nq) (wr.drewN nq).heap.size (some ⟨b, o, none⟩) ((l.drop (k + 2)).take sz))) := by
            have h1 := (Rd.rx (w := wr.drewN nq) HRr.out).2.sub (k + 2) sz
            rw [← List.map_drop, ← List.map_take] at h1
            refine ⟨RdX.rd ⟨HB.out, h1⟩, fun e => ?_⟩
            have : (l.drop (k + 2)).take sz = [] := List.eq_nil_of_length_eq_zero (by rw [← HL.out]; omega)
            rw [this]
            exact Rd.nil _ _ _
          generalize (l.drop (k + 2)).take sz = fl at *
          by_cases hcap : c = k + 2
          · subst hcap
            have hA := HRs.out.2 rfl
            have HA := Lib.hid hA
            clear hA
            go_wp2_with fail
            refine (clone_any _ fl sz _ (wr.drewN nq) HA.out HL.out (by omega) (by simp)).mono ?_
            rintro e w1 ⟨v, rfl, ho, hbl⟩
            have HO : Hid (OwnB w1 0 v fl ∧ (∀ g, v.ownBlock = some g → w.heap.size ≤ g) ∧ OwnL (fun x => w.heap.size ≤ x) w1 u2 fs ∧ Below w.heap.size w w1) := by
              have hbl' := below_undrewN hbl
              have hs := HX.out.2.1.size
              exact ⟨ho.base (Nat.zero_le _), fun g hg => Nat.le_trans hs (owns_ge ho hg), HX.out.1.later hbl', HX.out.2.1.trans (hbl'.mono hs)⟩
            obtain ⟨A1, c1, rfl, _, _, _⟩ := ho.rdX HB.out
            clear ho hbl
            have hfs : fs.length ≤ 1000000 := by have := HX.out.2.2.2; omega
            go_wp2_with (at_builtin; refine wpList_appL1 (X := fun x => w.heap.size ≤ x) rfl (.tmp 39) (.tmp 45) rfl u2 fs rfl HO.out.2.2.1 (.slice A1 fl.length c1) fl HO.out.1 HB.out HO.out.2.1 (fun x hx => Nat.le_trans HO.out.2.2.2.size hx) rfl (by omega) ?_; intro v2 w2 hv2 hw2; have HV := Lib.hid (And.intro hv2 hw2); clear hv2 hw2)
            go_wp2
            refine ⟨⟨fs ++ [fl], k + 2 + sz, by omega, by go_num, HV.out.1, HO.out.2.2.2.trans (HV.out.2.below HO.out.2.2.2.size fun i hi e => by obtain ⟨vs, _, h2, _⟩ := HO.out.2.2.1; have := h2 i e.symm; omega), by rw [HQ.out]; simp, by have := HX.out.2.2.2; simp; omega⟩, ?_⟩
            simp [intOf]; omega
          · have hA := HRs.out.1
            have HA := Lib.hid hA
            clear hA
            go_wp2_with fail
            refine (clone_any _ fl sz _ (wr.drewN nq) HA.out HL.out (by omega) (by simp)).mono ?_
            rintro e w1 ⟨v, rfl, ho, hbl⟩
            have HO : Hid (OwnB w1 0 v fl ∧ (∀ g, v.ownBlock = some g → w.heap.size ≤ g) ∧ OwnL (fun x => w.heap.size ≤ x) w1 u2 fs ∧ Below w.heap.size w w1) := by
              have hbl' := below_undrewN hbl
              have hs := HX.out.2.1.size
              exact ⟨ho.base (Nat.zero_le _), fun g hg => Nat.le_trans hs (owns_ge ho hg), HX.out.1.later hbl', HX.out.2.1.trans (hbl'.mono hs)⟩
            obtain ⟨A1, c1, rfl, _, _, _⟩ := ho.rdX HB.out
            clear ho hbl
            have hfs : fs.length ≤ 1000000 := by have := HX.out.2.2.2; omega
            go_wp2_with (at_builtin; refine wpList_appL1 (X := fun x => w.heap.size ≤ x) rfl (.tmp 39) (.tmp 45) rfl u2 fs rfl HO.out.2.2.1 (.slice A1 fl.length c1) fl HO.out.1 HB.out HO.out.2.1 (fun x hx => Nat.le_trans HO.out.2.2.2.size hx) rfl (by omega) ?_; intro v2 w2 hv2 hw2; have HV := Lib.hid (And.intro hv2 hw2); clear hv2 hw2)
            go_wp2
            refine ⟨⟨fs ++ [fl], k + 2 + sz, by omega, by go_num, HV.out.1, HO.out.2.2.2.trans (HV.out.2.below HO.out.2.2.2.size fun i hi e => by obtain ⟨vs, _, h2, _⟩ := HO.out.2.2.1; have := h2 i e.symm; omega), by rw [HQ.out]; simp, by have := HX.out.2.2.2; simp; omega⟩, ?_⟩
            simp [intOf]; omega
end Go.Proofs.Ytcblpnojilfidaa
