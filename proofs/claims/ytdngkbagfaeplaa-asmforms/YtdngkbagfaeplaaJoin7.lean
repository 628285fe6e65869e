/- Texts joined: CodePut, CodePut2. -/
import Derived.Test.YtdngkbagfaeplaaJoin5
import Derived.Test.YtdngkbagfaeplaaJoin6
/- code's writers: numbers. -/
namespace Go.Proofs.Ytdngkbagfaeplaa
open Go.RowKit
set_option maxRecDepth 100000
set_option linter.unusedVariables false

theorem IsU32.u64 {l : List Int} (h : IsU32 l) : IsU64 l := fun z hz => by have := h z hz; omega
theorem encS_len (v : Int) : 0 < (encS v).length ∧ (encS v).length ≤ 10 := by
  unfold encS; rw [bytesOf_length]; exact ⟨List.length_pos_iff.2 (dgS_ne _ _), dgS_len 9 v⟩
theorem encS_is (v : Int) : IsBytes (encS v) := bytesS_is 9 v
theorem encs_take {l : List Int} {k : Nat} (hk : k < l.length) : encs (l.take (k + 1)) = encs (l.take k) ++ encU (l.getD k 0) := by
  rw [List.take_add_one, List.getElem?_eq_getElem hk, encs_app, List.getD_eq_getElem?_getD, List.getElem?_eq_getElem hk]
  simp [encs]
set_option maxHeartbeats 1000000 in
theorem cputNums_any (base : Nat) (v : Value) (l : List Int) (A : Option Addr) (ls : List Int) (n c : Nat) (w : World) (hv : OwnB w base v l) (hI : IsBytes l) (hb : base ≤ w.heap.size) (hr : RdQ (fun k => v.ownBlock ≠ some k) w A ls) (hn : n = ls.length) (hl : l.length + 10 * n ≤ 100000000) :
    Calls Try.prog 63 #[v, .slice A n c] w (GPost base v (l ++ encs ls) w) := by
  have HV := Lib.hid hv
  have HI := Lib.hid (And.intro hI hl)
  have HR := Lib.hid (And.intro hr hn)
  obtain ⟨Av, cv, rfl, -, -, -⟩ := hv.rdX hI
  have hnn : n ≤ 100000000 := by omega
  clear hv hI hr hn hl
  generalize hq : l.length = q at *
  have HQ := Lib.hid hq
  clear hq
  go_enter Try.func63, Try.ntmps63
  go_wp2
  go_loopw [0, 9] (fun u i wr => ∃ (k : Nat), k ≤ n ∧ i = .int .i64 k ∧ base ≤ wr.heap.size ∧ Hid (OwnB wr base u (l ++ encs (ls.take k)) ∧ Grew (.slice Av q cv) w u wr)) (fun _ i _ => n - (intOf i).toNat)
  case atStart => exact ⟨0, by omega, rfl, hb, by simpa [encs] using HV.out, Grew.refl _ _⟩
  case round =>
    obtain ⟨k, hk, rfl, hbr, HX⟩ := hrel
    by_cases hlt : k < n
    · have hlt2 : (k : Int) < n := by omega
      have hkl : k < ls.length := by rw [← HR.out.2]; exact hlt
      have hr2 := HR.out.1.chg HX.out.2.1 fun j _ hx e => hx e
      obtain ⟨ba, oa, rfl, hca, x0, x1⟩ := hr2.at_ hkl
      have HT := Lib.hid (encs_take hkl)
      have HB1 : Hid (IsBytes (l ++ encs (ls.take k)) ∧ (l ++ encs (ls.take k)).length ≤ 100000000) := by
        refine ⟨HI.out.1.app (encs_is _ fun z hz => (HR.out.1.1.u64) z (List.mem_of_mem_take hz)), ?_⟩
        have h1 := encs_len (ls.take k)
        have h2 : (ls.take k).length ≤ n := by rw [HR.out.2]; simp; omega
        have := HI.out.2; have := HQ.out
        simp; omega
      generalize ls.getD k 0 = z at *
      obtain ⟨Au, cu, hu, -, -, -⟩ := HX.out.1.rdX HB1.out.1
      clear hr2 hkl
      have HU := Lib.hid (putU_any none [] 0 0 z wr (Rd.nil _ _ _) rfl (by omega) x0 (by omega))
      subst hu
      generalize hql : (l ++ encs (ls.take k)).length = ql at *
      have HQL := Lib.hid hql
      clear hql
      go_wp2_with fail
      refine HU.out.mono ?_
      rintro e w2 ⟨v2, rfl, ho2, hb2⟩
      rw [List.nil_append] at ho2
      obtain ⟨A2, c2, rfl, -, -, hr2⟩ := ho2.rdX (encU_is z x0 (by omega))
      have H2 : Hid (OwnB w2 base (.slice Au ql cu) (l ++ encs (ls.take k)) ∧ RdX (fun k => (Value.slice A2 (encU z).length c2).ownBlock = some k) w2 A2 (encU z) ∧ Below wr.heap.size wr w2) := ⟨OwnB.later HX.out.1 hb2, hr2, hb2⟩
      have hs2 := hb2.size
      clear ho2 hb2 hr2 hca
      have hel := (encU_len z).2
      generalize hqe : (encU z).length = qe at *
      have HQE := Lib.hid hqe
      clear hqe
      go_wp2_with (at_builtin; refine wpList_appXG rfl (.tmp 13) (.tmp 16) rfl base (.slice Au ql cu) (l ++ encs (ls.take k)) rfl H2.out.1 A2 qe c2 (encU z) rfl HQE.out.symm H2.out.2.1 (by have := HB1.out.2; have := HQL.out; omega) (by omega) ?_; intro v3 w3 hv3 hw3; rw [List.append_assoc, ← HT.out] at hv3; have H3 := Lib.hid (And.intro hv3 (hw3.before H2.out.2.2 (fun k hk => owns_lt HX.out.1 hk))); clear hv3 hw3)
      go_wp2
      refine ⟨⟨k + 1, by omega, by go_num, by have := H3.out.2.1.size; omega, H3.out.1, HX.out.2.trans H3.out.2⟩, ?_⟩
      simp [intOf]; omega
    · obtain rfl : k = n := by omega
      go_wp2
      go_ret
      refine ⟨_, rfl, ?_, HX.out.2⟩
      have := HX.out.1
      rwa [List.take_of_length_le (by rw [← HR.out.2]; omega)] at this
set_option maxHeartbeats 1000000 in
theorem cputSigned_any (base : Nat) (v : Value) (l : List Int) (z : Int) (w : World) (hv : OwnB w base v l) (hI : IsBytes l) (hb : base ≤ w.heap.size) (hl : l.length ≤ 100000000) (z0 : -9223372036854775808 ≤ z) (z1 : z ≤ 9223372036854775807) :
    Calls Try.prog 62 #[v, .int .i64 z] w (GPost base v (l ++ encS z) w) := by
  have HV := Lib.hid hv
  obtain ⟨Av, cv, rfl, -, -, -⟩ := hv.rdX hI
  clear hv hI
  have HU := Lib.hid (putS_any none [] 0 0 z w (Rd.nil _ _ _) rfl (by omega) z0 (by omega))
  generalize hq : l.length = q at *
  have HQ := Lib.hid hq
  clear hq
  go_enter Try.func62, Try.ntmps62
  go_wp2_with fail
  refine HU.out.mono ?_
  rintro e w2 ⟨v2, rfl, ho2, hb2⟩
  rw [List.nil_append] at ho2
  obtain ⟨A2, c2, rfl, -, -, hr2⟩ := ho2.rdX (encS_is z)
  have H2 : Hid (OwnB w2 base (.slice Av q cv) l ∧ RdX (fun k => (Value.slice A2 (encS z).length c2).ownBlock = some k) w2 A2 (encS z) ∧ Below w.heap.size w w2) := ⟨OwnB.later HV.out hb2, hr2, hb2⟩
  have hs2 := hb2.size
  clear ho2 hb2 hr2
  have hel := (encS_len z).2
  generalize hqe : (encS z).length = qe at *
  have HQE := Lib.hid hqe
  clear hqe
  go_wp2_with (at_builtin; refine wpList_appXG rfl (.tmp 5) (.tmp 7) rfl base (.slice Av q cv) l rfl H2.out.1 A2 qe c2 (encS z) rfl HQE.out.symm H2.out.2.1 (by have := HQ.out; omega) (by omega) ?_; intro v3 w3 hv3 hw3; have H3 := Lib.hid (And.intro hv3 (hw3.before H2.out.2.2 (fun k hk => owns_lt HV.out hk))); clear hv3 hw3)
  go_ret
  exact ⟨_, rfl, H3.out.1, H3.out.2⟩
end Go.Proofs.Ytdngkbagfaeplaa

/- code's writers: names, an instruction's number. -/
namespace Go.Proofs.Ytdngkbagfaeplaa
open Go.RowKit
set_option maxRecDepth 100000
set_option linter.unusedVariables false

/-- The bytes of the first k names. -/
def nmK (op : Int) (ls : List Int) : Nat → List Int
  | 0 => []
  | k + 1 => nmK op ls k ++ (if (k : Int) < nums op then encU (ls.getD k 0) else [0])
theorem nmK_is (op : Int) (ls : List Int) (h : IsU32 ls) (k : Nat) (hk : k ≤ ls.length) : IsBytes (nmK op ls k) ∧ (nmK op ls k).length ≤ 10 * k := by
  induction k with
  | zero => exact ⟨IsBytes.nil, by simp [nmK]⟩
  | succ k ih =>
    obtain ⟨h1, h2⟩ := ih (by omega)
    have hm : ls.getD k 0 ∈ ls := by rw [List.getD_eq_getElem?_getD, List.getElem?_eq_getElem (by omega)]; exact List.getElem_mem (by omega)
    have hz := h _ hm
    simp only [nmK]
    split
    · exact ⟨h1.app (encU_is _ hz.1 (by omega)), by have := (encU_len (ls.getD k 0)).2; rw [List.length_append]; omega⟩
    · exact ⟨h1.app (IsBytes.one (by omega) (by omega)), by simp; omega⟩
theorem lit1_rdQ (w : World) (z : Int) (h0 : 0 ≤ z) (h1 : z < 4294967296) {v : Value} (hv : ∀ k, v.ownBlock = some k → k < w.heap.size) : RdQ (fun k => v.ownBlock ≠ some k) (w.alloc (.cells #[.int .u32 z] 23)) (some ⟨w.heap.size, 0, none⟩) [z] :=
  (rdQ_lit w [z] (IsU32.one h0 h1)).mono fun k _ e h => by have := hv k h; omega
theorem lit2_rdQ (w : World) (z y : Int) (h0 : 0 ≤ z) (h1 : z < 4294967296) (h2 : 0 ≤ y) (h3 : y < 4294967296) {v : Value} (hv : ∀ k, v.ownBlock = some k → k < w.heap.size) : RdQ (fun k => v.ownBlock ≠ some k) (w.alloc (.cells #[.int .u32 z, .int .u32 y] 23)) (some ⟨w.heap.size, 0, none⟩) [z, y] :=
  (rdQ_lit w [z, y] (fun x hx => by simp at hx; omega)).mono fun k _ e h => by have := hv k h; omega
theorem below_a (w : World) (o : Obj) : Below w.heap.size w (w.alloc o) := (Below.refl _ _).alloc (Nat.le_refl _) _
set_option maxHeartbeats 1000000 in
theorem cputNames_any (base : Nat) (v : Value) (l : List Int) (op : Int) (A : Option Addr) (ls : List Int) (n c : Nat) (w : World) (hv : OwnB w base v l) (hI : IsBytes l) (hb : base ≤ w.heap.size) (hr : RdQ (fun k => v.ownBlock ≠ some k) w A ls) (hn : n = ls.length) (hl : l.length + 10 * n ≤ 90000000) :
    Calls Try.prog 61 #[v, .int .i64 op, .slice A n c] w (GPost base v (l ++ nmK op ls n) w) := by
  have HV := Lib.hid hv
  have HI := Lib.hid (And.intro hI hl)
  have HR := Lib.hid (And.intro hr hn)
  obtain ⟨Av, cv, rfl, -, -, -⟩ := hv.rdX hI
  have hnn : n ≤ 100000000 := by omega
  clear hv hI hr hn hl
  generalize hq : l.length = q at *
  have HQ := Lib.hid hq
  clear hq
  go_enter Try.func61, Try.ntmps61
  go_wp2
  go_loopw [0, 11] (fun u i wr => ∃ (k : Nat), k ≤ n ∧ i = .int .i64 k ∧ base ≤ wr.heap.size ∧ Hid (OwnB wr base u (l ++ nmK op ls k) ∧ Grew (.slice Av q cv) w u wr)) (fun _ i _ => n - (intOf i).toNat)
  case atStart => exact ⟨0, by omega, rfl, hb, by simpa [nmK] using HV.out, Grew.refl _ _⟩
  case round =>
    obtain ⟨k, hk, rfl, hbr, HX⟩ := hrel
    by_cases hlt : k < n
    · have hlt2 : (k : Int) < n := by omega
      have hkl : k < ls.length := by rw [← HR.out.2]; exact hlt
      have hr2 := HR.out.1.chg HX.out.2.1 fun j _ hx e => hx e
      obtain ⟨ba, oa, rfl, hca, x0, x1⟩ := hr2.at_ hkl
      have HB1 : Hid (IsBytes (l ++ nmK op ls k) ∧ (l ++ nmK op ls k).length ≤ 90000000) := by
        obtain ⟨h1, h2⟩ := nmK_is op ls HR.out.1.1 k (by omega)
        refine ⟨HI.out.1.app h1, ?_⟩
        have := HI.out.2; have := HQ.out
        simp; omega
      have HNX : Hid (l ++ nmK op ls (k + 1) = l ++ nmK op ls k ++ (if (k : Int) < nums op then encU (ls.getD k 0) else [0])) := by simp [Hid, nmK]
      generalize ls.getD k 0 = z at *
      obtain ⟨Au, cu, hu, -, -, -⟩ := HX.out.1.rdX HB1.out.1
      have HN := Lib.hid (fun W => numbers_any op W)
      clear hr2 hkl
      subst hu
      have hown := fun j hj => owns_lt (g := j) HX.out.1 hj
      have HOL := Lib.hid hown
      clear hown
      generalize hql : (l ++ nmK op ls k).length = ql at *
      have HQL := Lib.hid hql
      clear hql
      by_cases hp : (k : Int) < nums op
      · rw [if_pos hp] at HNX
        generalize nums op = y at *
        go_wp2_with (go_at_call 65; refine (HN.out _).mono ?_; rintro e w' ⟨rfl, rfl⟩)
        have HU := cputNums_any base (.slice Au ql cu) (l ++ nmK op ls k) (some ⟨wr.heap.size, 0, none⟩) [z] 1 1 _ (OwnB.later HX.out.1 (below_a wr _)) HB1.out.1 (by simp; omega) (lit1_rdQ wr z x0 x1 HOL.out) rfl (by have := HB1.out.2; have := HQL.out; omega)
        refine HU.mono ?_
        rintro e w3 ⟨v3, rfl, hv3, hw3⟩
        have H3 : Hid (OwnB w3 base v3 (l ++ nmK op ls (k + 1)) ∧ Grew (.slice Au ql cu) wr v3 w3) := ⟨by rw [HNX.out]; simpa [encs] using hv3, hw3.before (below_a wr _) HOL.out⟩
        obtain ⟨A3, c3, rfl, -, -, -⟩ := hv3.rdX (HB1.out.1.app (encs_is _ (IsU32.one x0 x1).u64))
        clear hv3 hw3
        generalize (l ++ nmK op ls k ++ encs [z]).length = q3 at *
        go_wp2
        refine ⟨⟨k + 1, by omega, by go_num, by have := H3.out.2.1.size; omega, H3.out.1, HX.out.2.trans H3.out.2⟩, ?_⟩
        simp [intOf]; omega
      · rw [if_neg hp] at HNX
        generalize nums op = y at *
        have hlk : (l ++ nmK op ls k).length + 1 ≤ 1000000000 := by have := HB1.out.2; have := HQL.out; omega
        go_wp2_with (first | (go_at_call 65; refine (HN.out _).mono ?_; rintro e w' ⟨rfl, rfl⟩) | (at_builtin; refine wpList_app1G rfl (.tmp 24) (.tmp 25) rfl base (.slice Au ql cu) _ rfl HX.out.1 0 rfl (by omega) (by omega) hlk hbr ?_; intro v1 w1 hv1 hw1; rw [← HNX.out] at hv1; have H1 := Lib.hid (And.intro hv1 hw1); clear hv1 hw1))
        refine ⟨⟨k + 1, by omega, by go_num, by have := H1.out.2.1.size; omega, H1.out.1, HX.out.2.trans H1.out.2⟩, ?_⟩
        simp [intOf]; omega
    · obtain rfl : k = n := by omega
      go_wp2
      go_ret
      exact ⟨_, rfl, HX.out.1, HX.out.2⟩

def encOp (op : Int) : List Int := if op < 64512 then [op % 256] else 252 :: encU (op - 64512)
theorem encOp_is (op : Int) (h0 : 0 ≤ op) (h1 : op ≤ 1000000) : IsBytes (encOp op) ∧ (encOp op).length ≤ 11 := by
  unfold encOp
  split
  · exact ⟨IsBytes.one (by omega) (by omega), by simp⟩
  · refine ⟨(IsBytes.one (z := 252) (by omega) (by omega)).app (encU_is _ (by omega) (by omega)), ?_⟩
    have := (encU_len (op - 64512)).2
    simp; omega
set_option maxHeartbeats 1000000 in
theorem cputOp_any (base : Nat) (v : Value) (l : List Int) (op : Int) (w : World) (hv : OwnB w base v l) (hI : IsBytes l) (hb : base ≤ w.heap.size) (hl : l.length ≤ 80000000) (h0 : 0 ≤ op) (h1 : op ≤ 1000000) :
    Calls Try.prog 55 #[v, .int .i64 op] w (GPost base v (l ++ encOp op) w) := by
  have HV := Lib.hid hv
  have HI := Lib.hid hI
  obtain ⟨Av, cv, rfl, -, -, -⟩ := hv.rdX hI
  have HOL := Lib.hid (fun j hj => owns_lt (g := j) hv hj)
  clear hv hI
  generalize hq : l.length = q at *
  have HQ := Lib.hid hq
  clear hq
  by_cases hop : op < 64512
  · have HE : Hid (encOp op = [op % 256]) := by unfold Hid encOp; rw [if_pos hop]
    go_enter Try.func55, Try.ntmps55
    go_wp2_with (at_builtin; refine wpList_app1G rfl (.tmp 7) (.tmp 10) rfl base (.slice Av q cv) l rfl HV.out (op % 256) rfl (by omega) (by omega) (by have := HQ.out; omega) hb ?_; intro v1 w1 hv1 hw1; rw [← HE.out] at hv1; have H1 := Lib.hid (And.intro hv1 hw1); clear hv1 hw1)
    go_ret
    exact ⟨_, rfl, H1.out.1, H1.out.2⟩
  · have HE : Hid (encOp op = 252 :: encU (op - 64512)) := by unfold Hid encOp; rw [if_neg hop]
    have hw1 : wrap64 (op - 64512) = op - 64512 := by unfold wrap64; omega
    have hw2 : (op - 64512) % 4294967296 = op - 64512 := by omega
    go_enter Try.func55, Try.ntmps55
    go_wp2_with (at_builtin; refine wpList_app1G rfl (.tmp 12) (.tmp 13) rfl base (.slice Av q cv) l rfl HV.out 252 rfl (by omega) (by omega) (by have := HQ.out; omega) hb ?_; intro v1 w1 hv1 hw1; have H1 := Lib.hid (And.intro hv1 hw1); have HL1 := Lib.hid (fun j hj => owns_lt (g := j) hv1 hj); obtain ⟨A1, c1, rfl, -, -, -⟩ := hv1.rdX (HI.out.app (IsBytes.one (by omega) (by omega))); clear hv1 hw1; generalize hq1 : (l ++ [252]).length = q1 at *; have HQ1 := Lib.hid hq1; clear hq1)
    have hs1 := H1.out.2.1.size
    refine (cputNums_any base (.slice A1 q1 c1) (l ++ [252]) (some ⟨w1.heap.size, 0, none⟩) [op - 64512] 1 1 _ (OwnB.later H1.out.1 (below_a w1 _)) (HI.out.app (IsBytes.one (by omega) (by omega))) (by simp; omega) (lit1_rdQ w1 _ (by omega) (by omega) HL1.out) rfl (by have := HQ.out; simp; omega)).mono ?_
    rintro e w3 ⟨v3, rfl, hv3, hw3⟩
    have H3 : Hid (OwnB w3 base v3 (l ++ encOp op) ∧ Grew (.slice Av q cv) w v3 w3) := ⟨by rw [HE.out]; simpa [encs] using hv3, H1.out.2.trans (hw3.before (below_a w1 _) HL1.out)⟩
    clear hv3 hw3
    go_wp2
    go_ret
    exact ⟨_, rfl, H3.out.1, H3.out.2⟩
end Go.Proofs.Ytdngkbagfaeplaa
