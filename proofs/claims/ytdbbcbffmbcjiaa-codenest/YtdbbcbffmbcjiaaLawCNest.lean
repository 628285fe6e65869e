/- The walk of CodeNest. -/
import Derived.Test.YtdbbcbffmbcjiaaBegun6
namespace Go.Proofs.Ytdbbcbffmbcjiaa
open Go.RowKit
set_option maxRecDepth 100000
set_option linter.unusedVariables false

def prs : Nat → List Int
  | 0 => []
  | k + 1 => prs k ++ [2, 64]
theorem prs_len (k : Nat) : (prs k).length = 2 * k := by
  induction k with
  | zero => rfl
  | succ k ih => simp [prs, ih]; omega
def reps (z : Int) : Nat → List Int
  | 0 => []
  | k + 1 => reps z k ++ [z]
theorem reps_len (z : Int) (k : Nat) : (reps z k).length = k := by
  induction k with
  | zero => rfl
  | succ k ih => simp [reps, ih]
theorem prs_is (k : Nat) : IsBytes (prs k) := by
  induction k with
  | zero => exact IsBytes.nil
  | succ k ih => exact ih.app fun z hz => by simp at hz; omega
theorem reps_is (z : Int) (h0 : 0 ≤ z) (h1 : z ≤ 255) (k : Nat) : IsBytes (reps z k) := by
  induction k with
  | zero => exact IsBytes.nil
  | succ k ih => exact ih.app (IsBytes.one h0 h1)
theorem nestA (k : Nat) (hk : k < 50) : tkE (pCode (prs k ++ reps 11 (k + 1))) = (if 32 < k then 4 else 0) ∧ (tkL (pCode (prs k ++ reps 11 (k + 1)))).length = (if 32 < k then 0 else 2 * k + 1) := by
  have key : ∀ k : Fin 50, tkE (pCode (prs k.val ++ reps 11 (k.val + 1))) = (if 32 < k.val then 4 else 0) ∧ (tkL (pCode (prs k.val ++ reps 11 (k.val + 1)))).length = (if 32 < k.val then 0 else 2 * k.val + 1) := by decide +kernel
  exact key ⟨k, hk⟩
theorem reps_add (z : Int) (a k : Nat) : reps z (a + k) = reps z a ++ reps z k := by
  induction k with
  | zero => simp [reps]
  | succ k ih => rw [show a + (k + 1) = a + k + 1 from rfl]; simp only [reps]; rw [ih, List.append_assoc]
theorem reps_cons (z : Int) (k : Nat) (l : List Int) : reps z (k + 1) ++ l = z :: (reps z k ++ l) := by
  induction k generalizing l with
  | zero => rfl
  | succ k ih => rw [show reps z (k + 1 + 1) = reps z (k + 1) ++ [z] from rfl, List.append_assoc, ih]; simp [reps]
theorem body_nop (n : Nat) (acc : List Ins) (l : List Int) : pBody (n + 1) [] acc (1 :: l) = pBody n [] (acc ++ [⟨1, 0, 0, 0, [], 0⟩]) l := rfl
theorem body_nops (m : Nat) : ∀ (r : Nat) (acc : List Ins) (l : List Int), ∃ ac, ac.length = acc.length + m ∧ pBody (r + m) [] acc (reps 1 m ++ l) = pBody r [] ac l := by
  induction m with
  | zero => intro r acc l; exact ⟨acc, rfl, rfl⟩
  | succ m ih =>
    intro r acc l
    rw [reps_cons, show r + (m + 1) = r + m + 1 from rfl, body_nop]
    obtain ⟨ac, h1, h2⟩ := ih r (acc ++ [⟨1, 0, 0, 0, [], 0⟩]) l
    exact ⟨ac, by rw [h1]; simp; omega, h2⟩
theorem body_end (n : Nat) (acc : List Ins) : pBody (n + 1) [] acc [11] = .ok (acc ++ [⟨11, 0, 0, 0, [], 0⟩], []) := rfl
theorem nestB (m : Nat) : tkE (pCode (reps 1 m ++ [11])) = (if 600 ≤ m then 4 else 0) ∧ (tkL (pCode (reps 1 m ++ [11]))).length = (if 600 ≤ m then 0 else m + 1) := by
  unfold pCode
  by_cases h : 600 ≤ m
  · rw [if_pos h, if_pos h]
    have e : ∀ k, reps 1 (600 + k) ++ [11] = reps 1 600 ++ (reps 1 k ++ [11]) := fun k => by rw [reps_add, List.append_assoc]
    obtain ⟨ac, h1, h2⟩ := body_nops 600 0 [] (reps 1 (m - 600) ++ [11])
    have e2 := e (m - 600)
    rw [show 600 + (m - 600) = m from by omega] at e2
    rw [e2]
    rw [Nat.zero_add] at h2
    rw [h2]
    exact ⟨rfl, rfl⟩
  · rw [if_neg h, if_neg h]
    obtain ⟨ac, h1, h2⟩ := body_nops m (600 - m) [] [11]
    rw [show 600 - m + m = 600 from by omega] at h2
    rw [h2, show 600 - m = 600 - m - 1 + 1 from by omega, body_end]
    refine ⟨rfl, ?_⟩
    simp only [tkL, List.length_append, List.length_singleton, h1, List.length_nil]
    omega
set_option maxHeartbeats 4000000 in
theorem codeNest_core (n long : Int) (w : World) (n0 : 0 ≤ n) (n1 : n ≤ 255) (g0 : 0 ≤ long) (g1 : long ≤ 65535) :
    Calls Try.prog 5 #[.int .u8 n, .int .u16 long] w fun e w' => e = .returned (.bool true) ∧ Below w.heap.size w w' := by
  obtain ⟨k, hk, hk2⟩ : ∃ k : Nat, n.tmod 50 = k ∧ k < 50 := ⟨(n.tmod 50).toNat, by have := Int.tmod_nonneg 50 n0; omega, by have := Int.tmod_nonneg 50 n0; have := Int.tmod_lt_of_pos n (show (0 : Int) < 50 by omega); omega⟩
  obtain ⟨m, hm, hm2⟩ : ∃ m : Nat, long.tmod 700 = m ∧ m < 700 := ⟨(long.tmod 700).toNat, by have := Int.tmod_nonneg 700 g0; omega, by have := Int.tmod_nonneg 700 g0; have := Int.tmod_lt_of_pos long (show (0 : Int) < 700 by omega); omega⟩
  go_enter Try.func5, Try.ntmps5
  go_wp2_with fail
  refine (begun6_any w).mono ?_
  rintro e w1 ⟨rfl, hb1⟩
  have HB1 := Lib.hid hb1
  have hs1 := hb1.size
  clear hb1
  go_wp2
  go_loopw [7, 9] (fun a i wr => ∃ (j : Nat), j ≤ k ∧ i = .int .i64 j ∧ w.heap.size ≤ wr.heap.size ∧ Hid (OwnB wr w.heap.size a (prs j) ∧ Below w.heap.size w wr)) (fun _ i _ => k - (intOf i).toNat)
  case atStart => exact ⟨0, by omega, rfl, hs1, OwnB.nil _ _, HB1.out⟩
  case round =>
    obtain ⟨j, hj, rfl, hsr, HX⟩ := hrel
    by_cases hlt : j < k
    · have hlt2 : (j : Int) < k := by omega
      have HL := Lib.hid (prs_len j)
      have HA := Lib.hid (And.intro (OwnB.later HX.out.1 (below_a wr (.cells #[.int .u8 2, .int .u8 64] 5))) (rdX_lit wr [2, 64] (fun z hz => by simp at hz; omega)))
      have HOL := Lib.hid (fun j hj => owns_lt (g := j) HX.out.1 hj)
      go_wp2_with (at_builtin; refine wpList_appXG rfl (.tmp 31) (.tmp 32) rfl w.heap.size u7 (prs j) rfl HA.out.1 (some ⟨wr.heap.size, 0, none⟩) 2 2 [2, 64] rfl rfl HA.out.2 (by have := HL.out; omega) (by simp; omega) ?_; intro v1 w3 hv1 hw1; have HV := Lib.hid (And.intro hv1 (hw1.before (below_a wr _) HOL.out)); clear hv1 hw1)
      refine ⟨⟨j + 1, by omega, by go_num, by have := HV.out.2.1.size; omega, HV.out.1, HX.out.2.trans (HV.out.2.below hsr (fun i hi => owns_ge HX.out.1 hi))⟩, ?_⟩
      simp [intOf]; omega
    · obtain rfl : j = k := by omega
      have HO1 := Lib.hid HX.out
      clear HX
      go_wp2
      go_loopw [7, 10] (fun a i wr2 => ∃ (q : Nat), q ≤ j + 1 ∧ i = .int .i64 q ∧ w.heap.size ≤ wr2.heap.size ∧ Hid (OwnB wr2 w.heap.size a (prs j ++ reps 11 q) ∧ Below w.heap.size w wr2)) (fun _ i _ => j + 1 - (intOf i).toNat)
      case atStart => exact ⟨0, by omega, rfl, hsr, by simpa [reps] using HO1.out.1, HO1.out.2⟩
      case round =>
        obtain ⟨q, hq, rfl, hsr2, HX⟩ := hrel
        by_cases hlt3 : q ≤ j
        · have hlt4 : (q : Int) ≤ j := by omega
          have HL : Hid ((prs j ++ reps 11 q).length ≤ 1000) := by unfold Hid; rw [List.length_append, prs_len, reps_len]; omega
          go_wp2_with (at_builtin; refine wpList_app1G rfl (.tmp 39) (.tmp 40) rfl w.heap.size _ (prs j ++ reps 11 q) rfl HX.out.1 11 rfl (by omega) (by omega) (by have := HL.out; omega) hsr2 ?_; intro v1 w3 hv1 hw1; rw [List.append_assoc] at hv1; have HV := Lib.hid (And.intro hv1 hw1); clear hv1 hw1)
          refine ⟨⟨q + 1, by omega, by go_num, by have := HV.out.2.1.size; omega, HV.out.1, HX.out.2.trans (HV.out.2.below hsr2 (fun i hi => owns_ge HX.out.1 hi))⟩, ?_⟩
          simp [intOf]; omega
        · obtain rfl : q = j + 1 := by omega
          have hnl : ¬ ((j : Int) + 1 ≤ j) := by omega
          have HO2 := Lib.hid HX.out
          clear HX
          rename World => W3
          rename_i v7
          have hW3 := HO2.out.2.size
          go_wp2
          go_loopw [8, 11] (fun bv i wr => ∃ (q : Nat), q ≤ m ∧ i = .int .i64 q ∧ W3.heap.size ≤ wr.heap.size ∧ Hid (OwnB wr W3.heap.size bv (reps 1 q) ∧ Below W3.heap.size W3 wr)) (fun _ i _ => m - (intOf i).toNat)
          case atStart => exact ⟨0, by omega, rfl, Nat.le_refl _, OwnB.nil _ _, Below.refl _ _⟩
          case round =>
            obtain ⟨q, hq, rfl, hsr3, HX⟩ := hrel
            by_cases hlt5 : q < m
            · have hlt6 : (q : Int) < m := by omega
              have HL : Hid ((reps 1 q).length ≤ 1000) := by unfold Hid; rw [reps_len]; omega
              go_wp2_with (at_builtin; refine wpList_app1G rfl (.tmp 47) (.tmp 48) rfl W3.heap.size _ (reps 1 q) rfl HX.out.1 1 rfl (by omega) (by omega) (by have := HL.out; omega) hsr3 ?_; intro v1 w3 hv1 hw1; have HV := Lib.hid (And.intro hv1 hw1); clear hv1 hw1)
              refine ⟨⟨q + 1, by omega, by go_num, by have := HV.out.2.1.size; omega, HV.out.1, HX.out.2.trans (HV.out.2.below hsr3 (fun i hi => owns_ge HX.out.1 hi))⟩, ?_⟩
              simp [intOf]; omega
            · obtain rfl : q = m := by omega
              have HL : Hid ((reps 1 q).length ≤ 1000) := by unfold Hid; rw [reps_len]; omega
              obtain ⟨ea, la, e1, e2, hea⟩ : ∃ ea : Int, ∃ la : Nat, tkE (pCode (prs j ++ reps 11 (j + 1))) = ea ∧ (tkL (pCode (prs j ++ reps 11 (j + 1)))).length = la ∧ ((32 < j ∧ ea = 4 ∧ la = 0) ∨ (¬ 32 < j ∧ ea = 0 ∧ la = 2 * j + 1)) := by
                obtain ⟨h1, h2⟩ := nestA j hk2
                refine ⟨_, _, h1, h2, ?_⟩
                by_cases h : 32 < j
                · exact .inl ⟨h, by rw [if_pos h], by rw [if_pos h]⟩
                · exact .inr ⟨h, by rw [if_neg h], by rw [if_neg h]⟩
              obtain ⟨eb, lb, e3, e4, heb⟩ : ∃ eb : Int, ∃ lb : Nat, tkE (pCode (reps 1 q ++ [11])) = eb ∧ (tkL (pCode (reps 1 q ++ [11]))).length = lb ∧ ((600 ≤ q ∧ eb = 4 ∧ lb = 0) ∨ (¬ 600 ≤ q ∧ eb = 0 ∧ lb = q + 1)) := by
                obtain ⟨h1, h2⟩ := nestB q
                refine ⟨_, _, h1, h2, ?_⟩
                by_cases h : 600 ≤ q
                · exact .inl ⟨h, by rw [if_pos h], by rw [if_pos h]⟩
                · exact .inr ⟨h, by rw [if_neg h], by rw [if_neg h]⟩
              have HE := Lib.hid (And.intro e1 (And.intro e2 (And.intro e3 e4)))
              have HEA := Lib.hid (And.intro hea heb)
              clear e1 e2 e3 e4 hea heb
              have HIA : Hid (IsBytes (prs j ++ reps 11 (j + 1))) := (prs_is j).app (reps_is 11 (by omega) (by omega) _)
              have HIB : Hid (IsBytes (reps 1 q ++ [11])) := (reps_is 1 (by omega) (by omega) _).app (IsBytes.one (by omega) (by omega))
              have HLA : Hid ((prs j ++ reps 11 (j + 1)).length ≤ 1000) := by unfold Hid; rw [List.length_append, prs_len, reps_len]; omega
              have HLB : Hid ((reps 1 q ++ [11]).length ≤ 1000) := by unfold Hid; rw [List.length_append, reps_len]; simp; omega
              obtain ⟨Aa, ca, rfl, ha1, ha2, har⟩ := HO2.out.1.rdX HIA.out
              have HRA := Lib.hid (And.intro har.rd (And.intro ha1 ha2))
              clear har ha1 ha2
              generalize hqa : (prs j ++ reps 11 (j + 1)).length = qa at *
              have HQA := Lib.hid hqa
              clear hqa
              go_upto_region 18 with (at_builtin; refine wpList_app1G rfl (.tmp 50) (.tmp 51) rfl W3.heap.size _ (reps 1 q) rfl HX.out.1 11 rfl (by omega) (by omega) (by have := HL.out; omega) hsr3 ?_; intro v1 w3 hv1 hw1; have HV := Lib.hid (And.intro hv1 (HX.out.2.trans (hw1.below hsr3 (fun i hi => owns_ge HX.out.1 hi)))); clear hv1 hw1)
              obtain ⟨Ab, cb, rfl, hb1, hb2, hbr⟩ := HV.out.1.rdX HIB.out
              have HRB := Lib.hid (And.intro hbr.rd (And.intro hb1 hb2))
              clear hbr hb1 hb2
              generalize hqb : (reps 1 q ++ [11]).length = qb at *
              have HQB := Lib.hid hqb
              clear hqb
              have hqam := HLA.out
              have hqbm := HLB.out
              have T1 := Lib.hid (ctake_any Aa (prs j ++ reps 11 (j + 1)) qa ca w3 (HRA.out.1.later HV.out.2) HQA.out.symm (by omega) HRA.out.2.1 HRA.out.2.2)
              go_wp2_with fail
              refine T1.out.mono ?_
              rintro e w4 ⟨v4, is, rfl, hv4, hM4, hb4, -⟩
              obtain ⟨A4, k4, rfl, -, -, -⟩ := RdV.of_own hv4.1
              have HN4 : Hid (is.length = (tkL (pCode (prs j ++ reps 11 (j + 1)))).length) := by unfold Hid; rw [← hM4]; simp
              have HB4 := Lib.hid hb4
              have T2 := Lib.hid (ctake_any Ab (reps 1 q ++ [11]) qb cb w4 (HRB.out.1.later hb4) HQB.out.symm (by omega) HRB.out.2.1 HRB.out.2.2)
              clear hv4 hM4 hb4 T1
              rw [HE.out.1]
              generalize tkN (prs j ++ reps 11 (j + 1)) (pCode (prs j ++ reps 11 (j + 1))) = t1 at *
              have hn4 := HN4.out
              rw [HE.out.2.1] at hn4
              generalize is.length = n4 at *
              go_wp2_with fail
              refine T2.out.mono ?_
              rintro e w5 ⟨v5, is5, rfl, hv5, hM5, hb5, -⟩
              obtain ⟨A5, k5, rfl, -, -, -⟩ := RdV.of_own hv5.1
              have HN5 : Hid (is5.length = (tkL (pCode (reps 1 q ++ [11]))).length) := by unfold Hid; rw [← hM5]; simp
              have hn5 := HN5.out
              rw [HE.out.2.2.1]
              rw [HE.out.2.2.2] at hn5
              have HB5 : Hid (Below w.heap.size w w5) := by
                have g1 := HO2.out.2.trans (HV.out.2.mono HO2.out.2.size)
                have g2 := g1.trans (HB4.out.mono g1.size)
                exact g2.trans (hb5.mono g2.size)
              clear hv5 hM5 hb5 T2
              generalize tkN (reps 1 q ++ [11]) (pCode (reps 1 q ++ [11])) = t2 at *
              generalize is5.length = n5 at *
              clear HN4 HN5 HE HIA HIB HLA HLB HRA HRB HV HB4 HQA HQB HO1 HO2 HX
              subst hn4 hn5
              obtain ⟨hea, heb⟩ := HEA.out
              clear HEA
              rcases hea with ⟨hk32, rfl, rfl⟩ | ⟨hk32, rfl, rfl⟩
              · have hk33 : (32 : Int) < j := by omega
                rcases heb with ⟨hm6, rfl, rfl⟩ | ⟨hm6, rfl, rfl⟩
                · have hm7 : (600 : Int) ≤ q := by omega
                  go_wp2
                  go_ret
                  exact ⟨rfl, HB5.out⟩
                · have hm7 : ¬ (600 : Int) ≤ q := by omega
                  go_wp2
                  go_ret
                  exact ⟨rfl, HB5.out⟩
              · have hk33 : ¬ (32 : Int) < j := by omega
                have hmul : ((2 * j + 1 : Nat) : Int) = 2 * (j : Int) + 1 := by omega
                rcases heb with ⟨hm6, rfl, rfl⟩ | ⟨hm6, rfl, rfl⟩
                · have hm7 : (600 : Int) ≤ q := by omega
                  go_wp2
                  go_ret
                  exact ⟨rfl, HB5.out⟩
                · have hm7 : ¬ (600 : Int) ≤ q := by omega
                  go_wp2
                  go_ret
                  exact ⟨rfl, HB5.out⟩
end Go.Proofs.Ytdbbcbffmbcjiaa
