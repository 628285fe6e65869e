/- The walk of FrameLong: out of the contracts. -/
import Derived.Test.YtcblpnojilfidaaBegun2
import Derived.Test.YtcblpnojilfidaaCuts
import Derived.Test.YtcblpnojilfidaaRows1
import Derived.Test.YtcblpnojilfidaaSame2
import Derived.Test.YtcblpnojilfidaaMade
import Derived.StillTailTactics
namespace Go.Proofs.Ytcblpnojilfidaa
open Go.RowKit
set_option linter.unusedVariables false

theorem enF_bytes {l : List Int} (h : IsBytes l) (hl : l.length ≤ 65535) : IsBytes (enF l) := fun z hz => by
  simp [enF] at hz
  rcases hz with rfl | rfl | hz
  · omega
  · omega
  · exact h z hz
theorem enF_len (l : List Int) : (enF l).length = l.length + 2 := by simp [enF]
theorem szOf_two (x : Int) (b : List Int) (h0 : 0 ≤ x) (h1 : x < 65536) : szOf ([x / 256, x % 256] ++ b) = x.toNat := by simp [szOf]; omega

theorem mk_zeros (n : Nat) (hn : n ≤ 1000000) (ni : Int) (h : ni = n) : ∃ o : Obj, (∀ W, (Instr.makeSlice 27 (.int .i64 ni) (.int .i64 ni)).run Try.prog W = .ok (.slice (some ⟨W.heap.size, 0, none⟩) n n) (W.alloc o)) ∧ ∀ W : World, RdX (fun k => k = W.heap.size) (W.alloc o) (some ⟨W.heap.size, 0, none⟩) (List.replicate n 0) := by
  subst h
  refine ⟨.cells (madeCells #[Value.int .u8 0] n) 5, fun W => ?_, fun W => ?_⟩
  · exact run_make_row' (P := Try.prog) 27 5 (.int .u8 0) 1 under_bytes byte_info rfl .i64 .i64 n (by omega) (by omega) W
  · rw [made_one]
    exact lit_rd W (List.replicate n 0) (fun z hz => by rw [List.mem_replicate] at hz; omega) _ (by simp)

attribute [local go_sem ↓] Go.wp_at_zero Go.wp_at_succ

set_option maxRecDepth 100000 in
set_option maxHeartbeats 4000000 in
theorem frameLong_core (A B : Option Addr) (a b : List Int) (n m c d : Nat) (x : Int) (w : World) (ha : Rd w w.heap.size A a) (hb : Rd w w.heap.size B b) (hn : n = a.length) (hm : m = b.length) (hl : n ≤ maxLen) (hl2 : m ≤ maxLen) (hx : 0 ≤ x ∧ x ≤ 65535) :
    Calls Try.prog 5 #[.slice A n c, .slice B m d, .int .u16 x] w fun e w' => e = .returned (.bool true) ∧ Below w.heap.size w w' := by
  have HR := Lib.hid (And.intro ha hb)
  have HN := Lib.hid (And.intro hn hm)
  clear ha hb hn hm
  unfold maxLen at hl hl2
  obtain ⟨hx0, hx1⟩ := hx
  by_cases h60 : 60 < n ∨ 60 < m
  · by_cases h60a : 60 < n
    · have g1 : decide ((60 : Int) < (n : Int)) = true := by simp; omega
      go_enter Try.func5, Try.ntmps5
      go_wp2_with fail
      refine (begun2_any w).mono ?_
      rintro e w1 ⟨rfl, hb1⟩
      have HB1 := Lib.hid hb1
      clear hb1
      go_wp2
      go_ret
      exact ⟨rfl, HB1.out⟩
    · have g1 : decide ((60 : Int) < (n : Int)) = false := by simp; omega
      have g2 : decide ((60 : Int) < (m : Int)) = true := by simp; omega
      go_enter Try.func5, Try.ntmps5
      go_wp2_with fail
      refine (begun2_any w).mono ?_
      rintro e w1 ⟨rfl, hb1⟩
      have HB1 := Lib.hid hb1
      clear hb1
      go_wp2
      go_ret
      exact ⟨rfl, HB1.out⟩
  · have g1 : decide ((60 : Int) < (n : Int)) = false := by simp; omega
    have g2 : decide ((60 : Int) < (m : Int)) = false := by simp; omega
    go_enter Try.func5, Try.ntmps5
    go_wp2_with fail
    refine (begun2_any w).mono ?_
    rintro e w1 ⟨rfl, hb1⟩
    have HB1 := Lib.hid hb1
    clear hb1
    go_wp2_with fail
    refine (new_any w1).mono ?_
    intro e w3 h3
    obtain ⟨rfl, hp3⟩ := PIn.new HB1.out (Nat.le_refl _) h3
    generalize w1.heap.size = g at hp3 ⊢
    have HP := Lib.hid hp3
    clear hp3 h3
    go_wp2_with fail
    have hR3 : Rd w3 w3.heap.size A a := (HR.out.1.below HP.out.2.2.2.1).more HP.out.2.2.2.1.size
    have hR4 : Rd w3 w3.heap.size B b := (HR.out.2.below HP.out.2.2.2.1).more HP.out.2.2.2.1.size
    have HR3 := Lib.hid (And.intro hR3 hR4)
    clear hR3 hR4
    refine (put_any2 A a n c w3 HR3.out.1 HN.out.1 (by omega)).mono ?_
    rintro e w4 ⟨v4, rfl, ho4, hb4⟩
    have hE : (enF a).length = n + 2 := by rw [enF_len, HN.out.1]
    obtain ⟨A4, c4, rfl, -, -, -⟩ := ho4.rdX (enF_bytes HR.out.1.1 (by rw [← HN.out.1]; omega))
    have HE := Lib.hid hE
    have H4 := Lib.hid (And.intro ho4 hb4)
    clear ho4 hb4 hE
    have hlit := fun W : World => lit_rd W [x / 256, x % 256] (fun z hz => by simp at hz; omega) #[.int .u8 (x / 256), .int .u8 (x % 256)] rfl
    have HLIT := Lib.hid hlit
    clear hlit
    obtain ⟨L, hL⟩ : ∃ L, L = enF a ++ [x / 256, x % 256] ++ b := ⟨_, rfl⟩
    have hLb : IsBytes L := by
      subst hL
      exact ((enF_bytes HR.out.1.1 (by rw [← HN.out.1]; omega)).app (fun z hz => by simp at hz; omega)).app HR.out.2.1
    have hLl : L.length = n + 2 + 2 + m := by subst hL; simp [HE.out, HN.out.2]; omega
    have HL := Lib.hid (And.intro hL (And.intro hLb hLl))
    clear hL hLb hLl
    generalize hq : (enF a).length = q at *
    have HQ := Lib.hid hq
    clear hq
    have hq2 : q = n + 2 := HE.out
    have hq3 : q ≤ 100 := by omega
    clear hq2
    go_wp2_with (first
      | (at_builtin; refine wpList_app rfl (.tmp 25) (.tmp 31) rfl w3.heap.size (.slice A4 q c4) (enF a) rfl (H4.out.1.later ((Below.refl _ _).alloc (Nat.le_refl _) _)) _ 2 2 [x / 256, x % 256] rfl rfl (HLIT.out w4).rd (by rw [HQ.out]; omega) (by have := H4.out.2.size; simp; omega) ?_; intro v5 w5 hv5 hw5; have hbb := (H4.out.2.alloc H4.out.2.size _).trans hw5; have H5 := Lib.hid (And.intro hv5 hbb); clear hv5 hw5 hbb)
      | (at_builtin; refine wpList_app rfl (.tmp 32) (.tmp 33) rfl w3.heap.size v5 _ rfl H5.out.1 B m d b rfl HN.out.2 (HR3.out.2.later H5.out.2) (by simp; rw [HQ.out]; omega) H5.out.2.size ?_; intro v6 w6 hv6 hw6; rw [← HL.out.1] at hv6; have hbb := H5.out.2.trans hw6; obtain ⟨A6, c6, rfl, -, -, hr6⟩ := hv6.rdX HL.out.2.1; have H6 := Lib.hid (And.intro hr6 hbb); clear hv6 hw6 hbb hr6))
    go_wp2_with fail
    have hfr : fr L = if 5000 < x then ([a], [], true) else (a :: (fr ([x / 256, x % 256] ++ b)).1, (fr ([x / 256, x % 256] ++ b)).2) := by
      rw [HL.out.1, List.append_assoc, fr_enF a _ (by rw [← HN.out.1]; omega)]
      by_cases h5 : 5000 < x
      · rw [if_pos h5, fr_long (l := [x / 256, x % 256] ++ b) (by simp) (by rw [szOf_two x b hx0 (by omega)]; omega)]
      · rw [if_neg h5]
    have hR6 : Rd w6 w6.heap.size A a := HR3.out.1.later H6.out.2
    have HR6 := Lib.hid (And.intro hR6 (HR3.out.2.later H6.out.2))
    have hLL : L.length ≤ 200 := by rw [HL.out.2.2]; omega
    clear hR6
    by_cases h5 : 5000 < x
    · rw [if_pos h5] at hfr
      refine (add_in g _ [] L L _ 4 A6 _ c6 w6 (HP.out.later H6.out.2) H6.out.1 rfl (by simp; omega) rfl hfr rfl).mono ?_
      rintro e w7 ⟨f7, v7, rfl, hf7, hp7, -⟩
      have HP7 := Lib.hid (show PIn w.heap.size w w7 g v7 [] true from hp7)
      have HF7 := Lib.hid (show OwnL _ w7 f7 [a] from hf7)
      obtain ⟨A7, c7, vs7, rfl, -, -, -, -⟩ := hf7.rd
      clear hf7 hp7 HLIT hLL hfr
      go_wp2_with fail
      have hR7 : Rd w7 w7.heap.size B b := (HR.out.2.below HP7.out.2.2.2.1).more HP7.out.2.2.2.1.size
      refine (put_any2 B b m d w7 hR7 HN.out.2 (by omega)).mono ?_
      rintro e w8 ⟨v8, rfl, ho8, hb8⟩
      obtain ⟨A8, c8, rfl, -, -, -⟩ := ho8.rdX (enF_bytes HR.out.2.1 (by rw [← HN.out.2]; omega))
      have HP8 := Lib.hid (HP7.out.later hb8)
      have hrd := HF7.out.rd.later hb8
      obtain ⟨b1, o1, B1, d1, he, -, -, hcell, -, -, hr1⟩ := hrd.at_ (j := 0) (by simp)
      subst he
      simp only [Nat.add_zero, List.getD_cons_zero] at hcell hr1
      have hs1 : ∀ m, (convert 27 9 (.slice B1 a.length d1)).run Try.prog (w8.drewN m) = .ok (.string (strOfNums a)) (w8.drewN m) := fun m => Rd.string (w := w8.drewN m) hr1.rd d1
      have hRa : Rd w8 w8.heap.size A a := (HR.out.1.below HP8.out.2.2.2.1).more HP8.out.2.2.2.1.size
      have hs2 : ∀ m, (convert 27 9 (.slice A n c)).run Try.prog (w8.drewN m) = .ok (.string (strOfNums a)) (w8.drewN m) := fun m => by rw [HN.out.1]; exact Rd.string (w := w8.drewN m) hRa c
      have heq : ((strOfNums a).toList == (strOfNums a).toList) = true := by simp
      rw [← HN.out.1] at hcell hs1
      generalize (enF b).length = qb at *
      clear ho8 hb8 hrd hr1 hRa hR7
      go_wp2_with fail
      refine (add_bad g v7 [] A8 qb c8 w8 HP8.out.1).mono ?_
      rintro e w9 ⟨rfl, rfl⟩
      go_wp2
      go_quiet (first | (go_at_call 12; exact quietL (rest_any g v7 [] true _ HP8.out.1)) | (go_at_call 13; exact quietL (bad_any g v7 [] true _ HP8.out.1)))
      go_wp2
      go_ret
      exact ⟨rfl, below_drewN' HP8.out.2.2.2.1 _⟩
    · rw [if_neg h5] at hfr
      generalize fr ([x / 256, x % 256] ++ b) = R at *
      obtain ⟨fs, rest, bad⟩ := R
      cases bad
      · refine (add_in g _ [] L L _ 0 A6 _ c6 w6 (HP.out.later H6.out.2) H6.out.1 rfl (by simp; omega) rfl hfr rfl).mono ?_
        rintro e w7 ⟨f7, v7, rfl, hf7, hp7, -⟩
        have HP7 := Lib.hid (show PIn w.heap.size w w7 g v7 rest false from hp7)
        have hrd := OwnL.rd (ls := a :: fs) hf7
        obtain ⟨A7, c7, vs7, rfl, -, -, -, -⟩ := hf7.rd
        obtain ⟨b1, o1, B1, d1, he, -, -, hcell, -, -, hr1⟩ := hrd.at_ (j := 0) (by simp)
        subst he
        simp only [Nat.add_zero, List.getD_cons_zero] at hcell hr1
        have hs1 : ∀ m, (convert 27 9 (.slice B1 a.length d1)).run Try.prog (w7.drewN m) = .ok (.string (strOfNums a)) (w7.drewN m) := fun m => Rd.string (w := w7.drewN m) hr1.rd d1
        have hRa : Rd w7 w7.heap.size A a := (HR.out.1.below HP7.out.2.2.2.1).more HP7.out.2.2.2.1.size
        have hs2 : ∀ m, (convert 27 9 (.slice A n c)).run Try.prog (w7.drewN m) = .ok (.string (strOfNums a)) (w7.drewN m) := fun m => by rw [HN.out.1]; exact Rd.string (w := w7.drewN m) hRa c
        have heq : ((strOfNums a).toList == (strOfNums a).toList) = true := by simp
        rw [← HN.out.1] at hcell hs1
        have hlen : 1 ≤ (a :: fs).length := by simp
        generalize hfl : (a :: fs).length = fl at *
        clear hfl hf7 hp7 hrd hr1 hRa HLIT hLL hfr
        have hfl1 : 0 < fl := by omega
        have hfl2 : (1 : Int) ≤ (fl : Int) := by omega
        obtain ⟨ob1, hk1, hz1⟩ := mk_zeros 5001 (by omega) 5001 rfl
        obtain ⟨ob2, hk2, hz2⟩ := mk_zeros 5000 (by omega) 5000 rfl
        go_wp2
        refine wp_region_still_tail 21 (by kernel_rfl) (by kernel_rfl) ?_
        simp only [List.take_succ_cons, List.take_zero, List.drop_succ_cons, List.drop_zero]
        change wpStill Try.prog _ w7.drew (fun a' => wpList Try.prog _ _ _ a' w7.drew) _ _
        have hP8 : PIn w.heap.size w w7.drew g v7 rest false := HP7.out.later ((Below.refl _ _).drew)
        have hcell8 : w7.drew.cell? ⟨b1, o1, none⟩ = some (.slice B1 n d1) := hcell
        have hs18 := hs1 1
        have hs28 := hs2 1
        change (convert 27 9 (.slice B1 n d1)).run Try.prog w7.drew = .ok (.string (strOfNums a)) w7.drew at hs18
        change (convert 27 9 (.slice A n c)).run Try.prog w7.drew = .ok (.string (strOfNums a)) w7.drew at hs28
        generalize w7.drew = W at *
        clear hs1 hs2 hcell
        have HP8 := Lib.hid hP8
        clear hP8
        repeat still_step
        refine wpStill_nil ?_
        go_wp2_with fail
        refine (put_long _ 5001 5001 _ (by omega) (by simp [maxLen])).mono ?_
        rintro e w9 ⟨rfl, rfl⟩
        go_wp2_with fail
        have hzz : (W.alloc ob1).heap.size = W.heap.size + 1 := by simp
        have hz3 := hz2 (W.alloc ob1)
        rw [hzz] at hz3
        have hrep : (List.replicate 5000 (0 : Int)).length = 5000 := List.length_replicate
        refine (put_any2 _ (List.replicate 5000 0) 5000 5000 _ hz3.rd hrep.symm (by omega)).mono ?_
        rintro e w9 ⟨v9, rfl, ho9, hb9⟩
        have hE9 : (enF (List.replicate 5000 (0 : Int))).length = 5002 := by rw [enF_len, hrep]
        obtain ⟨A9, c9, hv9, -, -, -⟩ := ho9.rdX (enF_bytes hz3.1 (by rw [hrep]; omega))
        rw [hE9] at hv9
        subst hv9
        have HF : Hid (Below w.heap.size w w9) := by
          have h1 := HP8.out.2.2.2.1
          have h2 := HP8.out.2.2.2.2
          exact h1.trans (((((Below.refl W.heap.size W).alloc (Nat.le_refl _) ob1).alloc (by simp) ob2).trans (hb9.mono (by simp; omega))).mono (Nat.le_trans h2 h1.size))
        clear ho9 hb9 hE9 hrep hz3 hzz hz1 hz2 hk1 hk2
        go_wp2
        go_ret
        exact ⟨rfl, HF.out⟩
      · refine (add_in g _ [] L L _ 4 A6 _ c6 w6 (HP.out.later H6.out.2) H6.out.1 rfl (by simp; omega) rfl hfr rfl).mono ?_
        rintro e w7 ⟨f7, v7, rfl, hf7, hp7, -⟩
        have HP7 := Lib.hid (show PIn w.heap.size w w7 g v7 rest true from hp7)
        have hrd := OwnL.rd (ls := a :: fs) hf7
        obtain ⟨A7, c7, vs7, rfl, -, -, -, -⟩ := hf7.rd
        obtain ⟨b1, o1, B1, d1, he, -, -, hcell, -, -, hr1⟩ := hrd.at_ (j := 0) (by simp)
        subst he
        simp only [Nat.add_zero, List.getD_cons_zero] at hcell hr1
        have hs1 : ∀ m, (convert 27 9 (.slice B1 a.length d1)).run Try.prog (w7.drewN m) = .ok (.string (strOfNums a)) (w7.drewN m) := fun m => Rd.string (w := w7.drewN m) hr1.rd d1
        have hRa : Rd w7 w7.heap.size A a := (HR.out.1.below HP7.out.2.2.2.1).more HP7.out.2.2.2.1.size
        have hs2 : ∀ m, (convert 27 9 (.slice A n c)).run Try.prog (w7.drewN m) = .ok (.string (strOfNums a)) (w7.drewN m) := fun m => by rw [HN.out.1]; exact Rd.string (w := w7.drewN m) hRa c
        have heq : ((strOfNums a).toList == (strOfNums a).toList) = true := by simp
        rw [← HN.out.1] at hcell hs1
        have hlen : 1 ≤ (a :: fs).length := by simp
        generalize hfl : (a :: fs).length = fl at *
        clear hfl hf7 hp7 hrd hr1 hRa HLIT hLL hfr
        have hfl1 : 0 < fl := by omega
        have hfl2 : (1 : Int) ≤ (fl : Int) := by omega
        obtain ⟨ob1, hk1, hz1⟩ := mk_zeros 5001 (by omega) 5001 rfl
        obtain ⟨ob2, hk2, hz2⟩ := mk_zeros 5000 (by omega) 5000 rfl
        go_wp2
        refine wp_region_still_tail 21 (by kernel_rfl) (by kernel_rfl) ?_
        simp only [List.take_succ_cons, List.take_zero, List.drop_succ_cons, List.drop_zero]
        change wpStill Try.prog _ w7.drew (fun a' => wpList Try.prog _ _ _ a' w7.drew) _ _
        have hP8 : PIn w.heap.size w w7.drew g v7 rest true := HP7.out.later ((Below.refl _ _).drew)
        have hcell8 : w7.drew.cell? ⟨b1, o1, none⟩ = some (.slice B1 n d1) := hcell
        have hs18 := hs1 1
        have hs28 := hs2 1
        change (convert 27 9 (.slice B1 n d1)).run Try.prog w7.drew = .ok (.string (strOfNums a)) w7.drew at hs18
        change (convert 27 9 (.slice A n c)).run Try.prog w7.drew = .ok (.string (strOfNums a)) w7.drew at hs28
        generalize w7.drew = W at *
        clear hs1 hs2 hcell
        have HP8 := Lib.hid hP8
        clear hP8
        repeat still_step
        still_call ((bad_any g v7 rest true W HP8.out.1).mono fun _ _ h => ⟨h.1, h.2.symm⟩)
        repeat still_step
        refine wpStill_nil ?_
        go_wp2_with fail
        refine (put_long _ 5001 5001 _ (by omega) (by simp [maxLen])).mono ?_
        rintro e w9 ⟨rfl, rfl⟩
        go_wp2_with fail
        have hzz : (W.alloc ob1).heap.size = W.heap.size + 1 := by simp
        have hz3 := hz2 (W.alloc ob1)
        rw [hzz] at hz3
        have hrep : (List.replicate 5000 (0 : Int)).length = 5000 := List.length_replicate
        refine (put_any2 _ (List.replicate 5000 0) 5000 5000 _ hz3.rd hrep.symm (by omega)).mono ?_
        rintro e w9 ⟨v9, rfl, ho9, hb9⟩
        have hE9 : (enF (List.replicate 5000 (0 : Int))).length = 5002 := by rw [enF_len, hrep]
        obtain ⟨A9, c9, hv9, -, -, -⟩ := ho9.rdX (enF_bytes hz3.1 (by rw [hrep]; omega))
        rw [hE9] at hv9
        subst hv9
        have HF : Hid (Below w.heap.size w w9) := by
          have h1 := HP8.out.2.2.2.1
          have h2 := HP8.out.2.2.2.2
          exact h1.trans (((((Below.refl W.heap.size W).alloc (Nat.le_refl _) ob1).alloc (by simp) ob2).trans (hb9.mono (by simp; omega))).mono (Nat.le_trans h2 h1.size))
        clear ho9 hb9 hE9 hrep hz3 hzz hz1 hz2 hk1 hk2
        go_wp2
        go_ret
        exact ⟨rfl, HF.out⟩
end Go.Proofs.Ytcblpnojilfidaa
