/- code's writers: names, an instruction's number. -/
import Derived.Test.YtdbbcbffmbcjiaaCodePut
namespace Go.Proofs.Ytdbbcbffmbcjiaa
open Go.RowKit
set_option maxRecDepth 100000
set_option linter.unusedVariables false

/-- The bytes of the first k names. -/
def nmK (op : Int) (ls : List Int) : Nat → List Int
  | 0 => []
  | k + 1 => nmK op ls k ++ (if (k : Int) < nums op then encU (ls.getD k 0) else [0])
theorem nmK_is (op : Int) (ls : List Int) (h : IsU32 ls) (k : Nat) (hk : k ≤ ls.length) : IsBytes (nmK op ls k) ∧ (nmK op ls k).length ≤ 10 * k := by
  induction k with
  | zero => exact ⟨IsBytes.nil, by simp [nmK]⟩
  | succ k ih =>
    obtain ⟨h1, h2⟩ := ih (by omega)
    have hm : ls.getD k 0 ∈ ls := by rw [List.getD_eq_getElem?_getD, List.getElem?_eq_getElem (by omega)]; exact List.getElem_mem (by omega)
    have hz := h _ hm
    simp only [nmK]
    split
    · exact ⟨h1.app (encU_is _ hz.1 (by omega)), by have := (encU_len (ls.getD k 0)).2; rw [List.length_append]; omega⟩
    · exact ⟨h1.app (IsBytes.one (by omega) (by omega)), by simp; omega⟩
theorem lit1_rdQ (w : World) (z : Int) (h0 : 0 ≤ z) (h1 : z < 4294967296) {v : Value} (hv : ∀ k, v.ownBlock = some k → k < w.heap.size) : RdQ (fun k => v.ownBlock ≠ some k) (w.alloc (.cells #[.int .u32 z] 39)) (some ⟨w.heap.size, 0, none⟩) [z] :=
  (rdQ_lit w [z] (IsU32.one h0 h1)).mono fun k _ e h => by have := hv k h; omega
theorem lit2_rdQ (w : World) (z y : Int) (h0 : 0 ≤ z) (h1 : z < 4294967296) (h2 : 0 ≤ y) (h3 : y < 4294967296) {v : Value} (hv : ∀ k, v.ownBlock = some k → k < w.heap.size) : RdQ (fun k => v.ownBlock ≠ some k) (w.alloc (.cells #[.int .u32 z, .int .u32 y] 39)) (some ⟨w.heap.size, 0, none⟩) [z, y] :=
  (rdQ_lit w [z, y] (fun x hx => by simp at hx; omega)).mono fun k _ e h => by have := hv k h; omega
theorem below_a (w : World) (o : Obj) : Below w.heap.size w (w.alloc o) := (Below.refl _ _).alloc (Nat.le_refl _) _
set_option maxHeartbeats 1000000 in
theorem cputNames_any (base : Nat) (v : Value) (l : List Int) (op : Int) (A : Option Addr) (ls : List Int) (n c : Nat) (w : World) (hv : OwnB w base v l) (hI : IsBytes l) (hb : base ≤ w.heap.size) (hr : RdQ (fun k => v.ownBlock ≠ some k) w A ls) (hn : n = ls.length) (hl : l.length + 10 * n ≤ 90000000) :
    Calls Try.prog 47 #[v, .int .i64 op, .slice A n c] w (GPost base v (l ++ nmK op ls n) w) := by
  have HV := Lib.hid hv
  have HI := Lib.hid (And.intro hI hl)
  have HR := Lib.hid (And.intro hr hn)
  obtain ⟨Av, cv, rfl, -, -, -⟩ := hv.rdX hI
  have hnn : n ≤ 100000000 := by omega
  clear hv hI hr hn hl
  generalize hq : l.length = q at *
  have HQ := Lib.hid hq
  clear hq
  go_enter Try.func47, Try.ntmps47
  go_wp2
  go_loopw [0, 11] (fun u i wr => ∃ (k : Nat), k ≤ n ∧ i = .int .i64 k ∧ base ≤ wr.heap.size ∧ Hid (OwnB wr base u (l ++ nmK op ls k) ∧ Grew (.slice Av q cv) w u wr)) (fun _ i _ => n - (intOf i).toNat)
  case atStart => exact ⟨0, by omega, rfl, hb, by simpa [nmK] using HV.out, Grew.refl _ _⟩
  case round =>
    obtain ⟨k, hk, rfl, hbr, HX⟩ := hrel
    by_cases hlt : k < n
    · have hlt2 : (k : Int) < n := by omega
      have hkl : k < ls.length := by rw [← HR.out.2]; exact hlt
      have hr2 := HR.out.1.chg HX.out.2.1 fun j _ hx e => hx e
      obtain ⟨ba, oa, rfl, hca, x0, x1⟩ := hr2.at_ hkl
      have HB1 : Hid (IsBytes (l ++ nmK op ls k) ∧ (l ++ nmK op ls k).length ≤ 90000000) := by
        obtain ⟨h1, h2⟩ := nmK_is op ls HR.out.1.1 k (by omega)
        refine ⟨HI.out.1.app h1, ?_⟩
        have := HI.out.2; have := HQ.out
        simp; omega
      have HNX : Hid (l ++ nmK op ls (k + 1) = l ++ nmK op ls k ++ (if (k : Int) < nums op then encU (ls.getD k 0) else [0])) := by simp [Hid, nmK]
      generalize ls.getD k 0 = z at *
      obtain ⟨Au, cu, hu, -, -, -⟩ := HX.out.1.rdX HB1.out.1
      have HN := Lib.hid (fun W => numbers_any op W)
      clear hr2 hkl
      subst hu
      have hown := fun j hj => owns_lt (g := j) HX.out.1 hj
      have HOL := Lib.hid hown
      clear hown
      generalize hql : (l ++ nmK op ls k).length = ql at *
      have HQL := Lib.hid hql
      clear hql
      by_cases hp : (k : Int) < nums op
      · rw [if_pos hp] at HNX
        generalize nums op = y at *
        go_wp2_with (go_at_call 83; refine (HN.out _).mono ?_; rintro e w' ⟨rfl, rfl⟩)
        have HU := cputNums_any base (.slice Au ql cu) (l ++ nmK op ls k) (some ⟨wr.heap.size, 0, none⟩) [z] 1 1 _ (OwnB.later HX.out.1 (below_a wr _)) HB1.out.1 (by simp; omega) (lit1_rdQ wr z x0 x1 HOL.out) rfl (by have := HB1.out.2; have := HQL.out; omega)
        refine HU.mono ?_
        rintro e w3 ⟨v3, rfl, hv3, hw3⟩
        have H3 : Hid (OwnB w3 base v3 (l ++ nmK op ls (k + 1)) ∧ Grew (.slice Au ql cu) wr v3 w3) := ⟨by rw [HNX.out]; simpa [encs] using hv3, hw3.before (below_a wr _) HOL.out⟩
        obtain ⟨A3, c3, rfl, -, -, -⟩ := hv3.rdX (HB1.out.1.app (encs_is _ (IsU32.one x0 x1).u64))
        clear hv3 hw3
        generalize (l ++ nmK op ls k ++ encs [z]).length = q3 at *
        go_wp2
        refine ⟨⟨k + 1, by omega, by go_num, by have := H3.out.2.1.size; omega, H3.out.1, HX.out.2.trans H3.out.2⟩, ?_⟩
        simp [intOf]; omega
      · rw [if_neg hp] at HNX
        generalize nums op = y at *
        have hlk : (l ++ nmK op ls k).length + 1 ≤ 1000000000 := by have := HB1.out.2; have := HQL.out; omega
        go_wp2_with (first | (go_at_call 83; refine (HN.out _).mono ?_; rintro e w' ⟨rfl, rfl⟩) | (at_builtin; refine wpList_app1G rfl (.tmp 24) (.tmp 25) rfl base (.slice Au ql cu) _ rfl HX.out.1 0 rfl (by omega) (by omega) hlk hbr ?_; intro v1 w1 hv1 hw1; rw [← HNX.out] at hv1; have H1 := Lib.hid (And.intro hv1 hw1); clear hv1 hw1))
        refine ⟨⟨k + 1, by omega, by go_num, by have := H1.out.2.1.size; omega, H1.out.1, HX.out.2.trans H1.out.2⟩, ?_⟩
        simp [intOf]; omega
    · obtain rfl : k = n := by omega
      go_wp2
      go_ret
      exact ⟨_, rfl, HX.out.1, HX.out.2⟩

def encOp (op : Int) : List Int := if op < 64512 then [op % 256] else 252 :: encU (op - 64512)
theorem encOp_is (op : Int) (h0 : 0 ≤ op) (h1 : op ≤ 1000000) : IsBytes (encOp op) ∧ (encOp op).length ≤ 11 := by
  unfold encOp
  split
  · exact ⟨IsBytes.one (by omega) (by omega), by simp⟩
  · refine ⟨(IsBytes.one (z := 252) (by omega) (by omega)).app (encU_is _ (by omega) (by omega)), ?_⟩
    have := (encU_len (op - 64512)).2
    simp; omega
set_option maxHeartbeats 1000000 in
theorem cputOp_any (base : Nat) (v : Value) (l : List Int) (op : Int) (w : World) (hv : OwnB w base v l) (hI : IsBytes l) (hb : base ≤ w.heap.size) (hl : l.length ≤ 80000000) (h0 : 0 ≤ op) (h1 : op ≤ 1000000) :
    Calls Try.prog 29 #[v, .int .i64 op] w (GPost base v (l ++ encOp op) w) := by
  have HV := Lib.hid hv
  have HI := Lib.hid hI
  obtain ⟨Av, cv, rfl, -, -, -⟩ := hv.rdX hI
  have HOL := Lib.hid (fun j hj => owns_lt (g := j) hv hj)
  clear hv hI
  generalize hq : l.length = q at *
  have HQ := Lib.hid hq
  clear hq
  by_cases hop : op < 64512
  · have HE : Hid (encOp op = [op % 256]) := by unfold Hid encOp; rw [if_pos hop]
    go_enter Try.func29, Try.ntmps29
    go_wp2_with (at_builtin; refine wpList_app1G rfl (.tmp 7) (.tmp 10) rfl base (.slice Av q cv) l rfl HV.out (op % 256) rfl (by omega) (by omega) (by have := HQ.out; omega) hb ?_; intro v1 w1 hv1 hw1; rw [← HE.out] at hv1; have H1 := Lib.hid (And.intro hv1 hw1); clear hv1 hw1)
    go_ret
    exact ⟨_, rfl, H1.out.1, H1.out.2⟩
  · have HE : Hid (encOp op = 252 :: encU (op - 64512)) := by unfold Hid encOp; rw [if_neg hop]
    have hw1 : wrap64 (op - 64512) = op - 64512 := by unfold wrap64; omega
    have hw2 : (op - 64512) % 4294967296 = op - 64512 := by omega
    go_enter Try.func29, Try.ntmps29
    go_wp2_with (at_builtin; refine wpList_app1G rfl (.tmp 12) (.tmp 13) rfl base (.slice Av q cv) l rfl HV.out 252 rfl (by omega) (by omega) (by have := HQ.out; omega) hb ?_; intro v1 w1 hv1 hw1; have H1 := Lib.hid (And.intro hv1 hw1); have HL1 := Lib.hid (fun j hj => owns_lt (g := j) hv1 hj); obtain ⟨A1, c1, rfl, -, -, -⟩ := hv1.rdX (HI.out.app (IsBytes.one (by omega) (by omega))); clear hv1 hw1; generalize hq1 : (l ++ [252]).length = q1 at *; have HQ1 := Lib.hid hq1; clear hq1)
    have hs1 := H1.out.2.1.size
    refine (cputNums_any base (.slice A1 q1 c1) (l ++ [252]) (some ⟨w1.heap.size, 0, none⟩) [op - 64512] 1 1 _ (OwnB.later H1.out.1 (below_a w1 _)) (HI.out.app (IsBytes.one (by omega) (by omega))) (by simp; omega) (lit1_rdQ w1 _ (by omega) (by omega) HL1.out) rfl (by have := HQ.out; simp; omega)).mono ?_
    rintro e w3 ⟨v3, rfl, hv3, hw3⟩
    have H3 : Hid (OwnB w3 base v3 (l ++ encOp op) ∧ Grew (.slice Av q cv) w v3 w3) := ⟨by rw [HE.out]; simpa [encs] using hv3, H1.out.2.trans (hw3.before (below_a w1 _) HL1.out)⟩
    clear hv3 hw3
    go_wp2
    go_ret
    exact ⟨_, rfl, H3.out.1, H3.out.2⟩
end Go.Proofs.Ytdbbcbffmbcjiaa
