/- code's writers: what stands behind an instruction. (Written by gen_CodePut3.py.) -/
import Derived.Test.YtdngkbagfaeplaaJoin7
import Derived.Deep.RegionWith
import Derived.Deep.Cut
namespace Go.Proofs.Ytdngkbagfaeplaa
open Go.RowKit
set_option maxRecDepth 100000
set_option linter.unusedVariables false

def encBh (imm : Int) (x : Ins) : List Int :=
  if imm = 1 then nmK x.op [x.a] 1
  else if imm = 2 then nmK x.op [x.a, x.b] 2
  else if imm = 3 then encS (wrap32 x.n)
  else if imm = 4 then encS (wrap64 x.n)
  else if imm = 5 then encs [x.a, x.b]
  else if imm = 6 then encS x.t
  else if imm = 7 then encs [(x.l.length : Int)] ++ encs x.l ++ encs [x.a]
  else if imm = 8 then (if x.op = 28 then encs [1] else []) ++ [x.a % 256]
  else []
theorem wrap64_rng (u : Int) : -9223372036854775808 ≤ wrap64 u ∧ wrap64 u ≤ 9223372036854775807 := by
  unfold wrap64
  constructor <;> omega
theorem one32 {z : Int} (h0 : 0 ≤ z) (h1 : z < 4294967296) : IsU64 [z] := (IsU32.one h0 h1).u64
theorem encBh_is (imm : Int) (x : Ins) (hx : InsOk x) : IsBytes (encBh imm x) ∧ (encBh imm x).length ≤ 10020 := by
  have a1 := hx.a1
  have hl64 := hx.l.u64
  have h2 : IsU32 [x.a, x.b] := fun z hz => by simp at hz; rcases hz with rfl | rfl; exact ⟨hx.a0, hx.a1⟩; exact ⟨hx.b0, hx.b1⟩
  have h1 : IsU32 [x.a] := IsU32.one hx.a0 hx.a1
  unfold encBh
  split
  · obtain ⟨p, q⟩ := nmK_is x.op [x.a] h1 1 (by simp); exact ⟨p, by omega⟩
  split
  · obtain ⟨p, q⟩ := nmK_is x.op [x.a, x.b] h2 2 (by simp); exact ⟨p, by omega⟩
  split
  · exact ⟨encS_is _, by have := (encS_len (wrap32 x.n)).2; omega⟩
  split
  · exact ⟨encS_is _, by have := (encS_len (wrap64 x.n)).2; omega⟩
  split
  · exact ⟨encs_is _ h2.u64, by have := encs_len [x.a, x.b]; simp at this; omega⟩
  split
  · exact ⟨encS_is _, by have := (encS_len x.t).2; omega⟩
  split
  · have hm := hx.m
    refine ⟨((encs_is _ (one32 (by omega) (by omega))).app (encs_is _ hl64)).app (encs_is _ h1.u64), ?_⟩
    have p1 := encs_len [(x.l.length : Int)]
    have p2 := encs_len x.l
    have p3 := encs_len [x.a]
    simp at p1 p3
    rw [List.length_append, List.length_append]
    omega
  split
  · refine ⟨IsBytes.app ?_ (IsBytes.one (by omega) (by omega)), ?_⟩
    · split
      · exact encs_is _ (one32 (by omega) (by omega))
      · exact IsBytes.nil
    · have p1 := encs_len [(1 : Int)]
      simp at p1
      rw [List.length_append]
      split <;> simp <;> omega
  · exact ⟨IsBytes.nil, by simp⟩
theorem lit_after {w2 w3 : World} {v v3 : Value} {o : Obj} {ls : List Int} (hg : Grew v (w2.alloc o).drew v3 w3) (h : RdQ (fun k => v.ownBlock ≠ some k) w3 (some ⟨w2.heap.size, 0, none⟩) ls) : RdQ (fun k => v3.ownBlock ≠ some k) w3 (some ⟨w2.heap.size, 0, none⟩) ls := by
  refine ⟨h.1, fun j u hu => ?_⟩
  obtain ⟨ad, e1, e2, e3⟩ := h.2 j u hu
  injection e1 with e1
  subst e1
  refine ⟨_, rfl, fun e => ?_, e3⟩
  rcases hg.2 _ e with h | h
  · exact e2 h
  · simp at h
    omega
theorem Own.grew {w w' : World} {g : Nat} {t : TypeId} {L : List Value} {v v' : Value} (h : Own w g t L) (hg : Grew v w v' w') (hn : v.ownBlock ≠ some g) : Own w' g t L := h.chg hg.1 hn
section
variable (base : Nat) (v : Value) (l : List Int) (x : Ins) (A : Option Addr) (c : Nat) (w : World) (hv : OwnB w base v l) (hI : IsBytes l) (hb : base ≤ w.heap.size) (hl : l.length ≤ 70000000) (hx : LabX (fun k => v.ownBlock ≠ some k) w x A c) (ox : InsOk x)
include hv hI hb hl hx ox
set_option maxHeartbeats 2000000
theorem cpb1 : Calls Try.prog 54 #[v, .int .i64 1, insV x A c] w (GPost base v (l ++ encBh 1 x) w) := by
  have HE : Hid (encBh 1 x = nmK x.op [x.a] 1) := by unfold Hid encBh; simp
  have hgv := fun k hk => owns_lt (g := k) hv hk
  have HW : Hid (OwnB (w.alloc (.cells #[.int .i64 x.op, .int .u32 x.a, .int .u32 x.b, .int .u64 x.n, .slice A x.l.length c, .int .i64 x.t] 27)) base v l ∧ Own (w.alloc (.cells #[.int .i64 x.op, .int .u32 x.a, .int .u32 x.b, .int .u64 x.n, .slice A x.l.length c, .int .i64 x.t] 27)) w.heap.size 27 (insC x A c) ∧ LabX (fun k => v.ownBlock ≠ some k) (w.alloc (.cells #[.int .i64 x.op, .int .u32 x.a, .int .u32 x.b, .int .u64 x.n, .slice A x.l.length c, .int .i64 x.t] 27)) x A c ∧ base ≤ (w.alloc (.cells #[.int .i64 x.op, .int .u32 x.a, .int .u32 x.b, .int .u64 x.n, .slice A x.l.length c, .int .i64 x.t] 27)).heap.size ∧ Below w.heap.size w (w.alloc (.cells #[.int .i64 x.op, .int .u32 x.a, .int .u32 x.b, .int .u64 x.n, .slice A x.l.length c, .int .i64 x.t] 27)) ∧ (∀ k, v.ownBlock = some k → k < (w.alloc (.cells #[.int .i64 x.op, .int .u32 x.a, .int .u32 x.b, .int .u64 x.n, .slice A x.l.length c, .int .i64 x.t] 27)).heap.size) ∧ v.ownBlock ≠ some w.heap.size) :=
    ⟨hv.later (below_a w _), Own.new w _ _, hx.later (below_a w _), by simp; omega, below_a w _, fun k hk => by have := hgv k hk; simp; omega, fun e => by have := hgv _ e; omega⟩
  have HI := Lib.hid hI
  have HOK := Lib.hid ox
  have HGV := Lib.hid hgv
  obtain ⟨Av, cv, rfl, -, -, -⟩ := hv.rdX hI
  clear hv hI hx hgv ox
  generalize hq : l.length = q at *
  have HQ := Lib.hid hq
  clear hq
  unfold insV
  generalize hlq : x.l.length = lq at *
  have HLQ := Lib.hid hlq
  clear hlq
  go_enter Try.func54, Try.ntmps54
  go_upto_region 1 with fail
  generalize w.alloc (.cells #[.int .i64 x.op, .int .u32 x.a, .int .u32 x.b, .int .u64 x.n, .slice A lq c, .int .i64 x.t] 27) = W at *
  obtain ⟨c0, c1, c2, c3, c4, c5, f0, f1, f2, f3, f4, f5⟩ := own_cells6 HW.out.2.1
  rw [HLQ.out] at c4
  generalize hgx : w.heap.size = gx at *
  have HGX := Lib.hid hgx
  clear hgx
  go_wp2_with fail
  refine (cputNames_any base (.slice Av q cv) l x.op (some ⟨W.heap.size, 0, none⟩) [x.a] 1 1 _ (OwnB.later HW.out.1 (below_a W _)) HI.out (by have := HW.out.2.2.2.1; simp; omega) (lit1_rdQ W x.a HOK.out.a0 HOK.out.a1 HW.out.2.2.2.2.2.1) rfl (by have := HQ.out; omega)).mono ?_
  rintro e w3 ⟨v3, rfl, hv3, hw3⟩
  have H3 : Hid (OwnB w3 base v3 (l ++ encBh 1 x) ∧ Grew (.slice Av q cv) w v3 w3) := ⟨by rw [HE.out]; exact hv3, (hw3.before (below_a W _) HW.out.2.2.2.2.2.1).before (by rw [HGX.out]; exact HW.out.2.2.2.2.1) (by rw [HGX.out]; exact HGV.out)⟩
  clear hv3 hw3 c0 c1 c2 c3 c4 c5 f0 f1 f2 f3 f4 f5
  go_wp2
  go_ret
  exact ⟨_, rfl, H3.out.1, H3.out.2⟩
theorem cpb2 : Calls Try.prog 54 #[v, .int .i64 2, insV x A c] w (GPost base v (l ++ encBh 2 x) w) := by
  have HE : Hid (encBh 2 x = nmK x.op [x.a, x.b] 2) := by unfold Hid encBh; simp
  have hgv := fun k hk => owns_lt (g := k) hv hk
  have HW : Hid (OwnB (w.alloc (.cells #[.int .i64 x.op, .int .u32 x.a, .int .u32 x.b, .int .u64 x.n, .slice A x.l.length c, .int .i64 x.t] 27)) base v l ∧ Own (w.alloc (.cells #[.int .i64 x.op, .int .u32 x.a, .int .u32 x.b, .int .u64 x.n, .slice A x.l.length c, .int .i64 x.t] 27)) w.heap.size 27 (insC x A c) ∧ LabX (fun k => v.ownBlock ≠ some k) (w.alloc (.cells #[.int .i64 x.op, .int .u32 x.a, .int .u32 x.b, .int .u64 x.n, .slice A x.l.length c, .int .i64 x.t] 27)) x A c ∧ base ≤ (w.alloc (.cells #[.int .i64 x.op, .int .u32 x.a, .int .u32 x.b, .int .u64 x.n, .slice A x.l.length c, .int .i64 x.t] 27)).heap.size ∧ Below w.heap.size w (w.alloc (.cells #[.int .i64 x.op, .int .u32 x.a, .int .u32 x.b, .int .u64 x.n, .slice A x.l.length c, .int .i64 x.t] 27)) ∧ (∀ k, v.ownBlock = some k → k < (w.alloc (.cells #[.int .i64 x.op, .int .u32 x.a, .int .u32 x.b, .int .u64 x.n, .slice A x.l.length c, .int .i64 x.t] 27)).heap.size) ∧ v.ownBlock ≠ some w.heap.size) :=
    ⟨hv.later (below_a w _), Own.new w _ _, hx.later (below_a w _), by simp; omega, below_a w _, fun k hk => by have := hgv k hk; simp; omega, fun e => by have := hgv _ e; omega⟩
  have HI := Lib.hid hI
  have HOK := Lib.hid ox
  have HGV := Lib.hid hgv
  obtain ⟨Av, cv, rfl, -, -, -⟩ := hv.rdX hI
  clear hv hI hx hgv ox
  generalize hq : l.length = q at *
  have HQ := Lib.hid hq
  clear hq
  unfold insV
  generalize hlq : x.l.length = lq at *
  have HLQ := Lib.hid hlq
  clear hlq
  go_enter Try.func54, Try.ntmps54
  go_upto_region 1 with fail
  generalize w.alloc (.cells #[.int .i64 x.op, .int .u32 x.a, .int .u32 x.b, .int .u64 x.n, .slice A lq c, .int .i64 x.t] 27) = W at *
  obtain ⟨c0, c1, c2, c3, c4, c5, f0, f1, f2, f3, f4, f5⟩ := own_cells6 HW.out.2.1
  rw [HLQ.out] at c4
  generalize hgx : w.heap.size = gx at *
  have HGX := Lib.hid hgx
  clear hgx
  go_wp2_with fail
  refine (cputNames_any base (.slice Av q cv) l x.op (some ⟨W.heap.size, 0, none⟩) [x.a, x.b] 2 2 _ (OwnB.later HW.out.1 (below_a W _)) HI.out (by have := HW.out.2.2.2.1; simp; omega) (lit2_rdQ W x.a x.b HOK.out.a0 HOK.out.a1 HOK.out.b0 HOK.out.b1 HW.out.2.2.2.2.2.1) rfl (by have := HQ.out; omega)).mono ?_
  rintro e w3 ⟨v3, rfl, hv3, hw3⟩
  have H3 : Hid (OwnB w3 base v3 (l ++ encBh 2 x) ∧ Grew (.slice Av q cv) w v3 w3) := ⟨by rw [HE.out]; exact hv3, (hw3.before (below_a W _) HW.out.2.2.2.2.2.1).before (by rw [HGX.out]; exact HW.out.2.2.2.2.1) (by rw [HGX.out]; exact HGV.out)⟩
  clear hv3 hw3 c0 c1 c2 c3 c4 c5 f0 f1 f2 f3 f4 f5
  go_wp2
  go_ret
  exact ⟨_, rfl, H3.out.1, H3.out.2⟩
theorem cpb5 : Calls Try.prog 54 #[v, .int .i64 5, insV x A c] w (GPost base v (l ++ encBh 5 x) w) := by
  have HE : Hid (encBh 5 x = encs [x.a, x.b]) := by unfold Hid encBh; simp
  have hgv := fun k hk => owns_lt (g := k) hv hk
  have HW : Hid (OwnB (w.alloc (.cells #[.int .i64 x.op, .int .u32 x.a, .int .u32 x.b, .int .u64 x.n, .slice A x.l.length c, .int .i64 x.t] 27)) base v l ∧ Own (w.alloc (.cells #[.int .i64 x.op, .int .u32 x.a, .int .u32 x.b, .int .u64 x.n, .slice A x.l.length c, .int .i64 x.t] 27)) w.heap.size 27 (insC x A c) ∧ LabX (fun k => v.ownBlock ≠ some k) (w.alloc (.cells #[.int .i64 x.op, .int .u32 x.a, .int .u32 x.b, .int .u64 x.n, .slice A x.l.length c, .int .i64 x.t] 27)) x A c ∧ base ≤ (w.alloc (.cells #[.int .i64 x.op, .int .u32 x.a, .int .u32 x.b, .int .u64 x.n, .slice A x.l.length c, .int .i64 x.t] 27)).heap.size ∧ Below w.heap.size w (w.alloc (.cells #[.int .i64 x.op, .int .u32 x.a, .int .u32 x.b, .int .u64 x.n, .slice A x.l.length c, .int .i64 x.t] 27)) ∧ (∀ k, v.ownBlock = some k → k < (w.alloc (.cells #[.int .i64 x.op, .int .u32 x.a, .int .u32 x.b, .int .u64 x.n, .slice A x.l.length c, .int .i64 x.t] 27)).heap.size) ∧ v.ownBlock ≠ some w.heap.size) :=
    ⟨hv.later (below_a w _), Own.new w _ _, hx.later (below_a w _), by simp; omega, below_a w _, fun k hk => by have := hgv k hk; simp; omega, fun e => by have := hgv _ e; omega⟩
  have HI := Lib.hid hI
  have HOK := Lib.hid ox
  have HGV := Lib.hid hgv
  obtain ⟨Av, cv, rfl, -, -, -⟩ := hv.rdX hI
  clear hv hI hx hgv ox
  generalize hq : l.length = q at *
  have HQ := Lib.hid hq
  clear hq
  unfold insV
  generalize hlq : x.l.length = lq at *
  have HLQ := Lib.hid hlq
  clear hlq
  go_enter Try.func54, Try.ntmps54
  go_upto_region 1 with fail
  generalize w.alloc (.cells #[.int .i64 x.op, .int .u32 x.a, .int .u32 x.b, .int .u64 x.n, .slice A lq c, .int .i64 x.t] 27) = W at *
  obtain ⟨c0, c1, c2, c3, c4, c5, f0, f1, f2, f3, f4, f5⟩ := own_cells6 HW.out.2.1
  rw [HLQ.out] at c4
  generalize hgx : w.heap.size = gx at *
  have HGX := Lib.hid hgx
  clear hgx
  go_wp2_with fail
  refine (cputNums_any base (.slice Av q cv) l (some ⟨W.heap.size, 0, none⟩) [x.a, x.b] 2 2 _ (OwnB.later HW.out.1 (below_a W _)) HI.out (by have := HW.out.2.2.2.1; simp; omega) (lit2_rdQ W x.a x.b HOK.out.a0 HOK.out.a1 HOK.out.b0 HOK.out.b1 HW.out.2.2.2.2.2.1) rfl (by have := HQ.out; omega)).mono ?_
  rintro e w3 ⟨v3, rfl, hv3, hw3⟩
  have H3 : Hid (OwnB w3 base v3 (l ++ encBh 5 x) ∧ Grew (.slice Av q cv) w v3 w3) := ⟨by rw [HE.out]; exact hv3, (hw3.before (below_a W _) HW.out.2.2.2.2.2.1).before (by rw [HGX.out]; exact HW.out.2.2.2.2.1) (by rw [HGX.out]; exact HGV.out)⟩
  clear hv3 hw3 c0 c1 c2 c3 c4 c5 f0 f1 f2 f3 f4 f5
  go_wp2
  go_ret
  exact ⟨_, rfl, H3.out.1, H3.out.2⟩
theorem cpb3 : Calls Try.prog 54 #[v, .int .i64 3, insV x A c] w (GPost base v (l ++ encBh 3 x) w) := by
  have HE : Hid (encBh 3 x = encS (wrap32 x.n)) := by unfold Hid encBh; simp
  have hgv := fun k hk => owns_lt (g := k) hv hk
  have HW : Hid (OwnB (w.alloc (.cells #[.int .i64 x.op, .int .u32 x.a, .int .u32 x.b, .int .u64 x.n, .slice A x.l.length c, .int .i64 x.t] 27)) base v l ∧ Own (w.alloc (.cells #[.int .i64 x.op, .int .u32 x.a, .int .u32 x.b, .int .u64 x.n, .slice A x.l.length c, .int .i64 x.t] 27)) w.heap.size 27 (insC x A c) ∧ LabX (fun k => v.ownBlock ≠ some k) (w.alloc (.cells #[.int .i64 x.op, .int .u32 x.a, .int .u32 x.b, .int .u64 x.n, .slice A x.l.length c, .int .i64 x.t] 27)) x A c ∧ base ≤ (w.alloc (.cells #[.int .i64 x.op, .int .u32 x.a, .int .u32 x.b, .int .u64 x.n, .slice A x.l.length c, .int .i64 x.t] 27)).heap.size ∧ Below w.heap.size w (w.alloc (.cells #[.int .i64 x.op, .int .u32 x.a, .int .u32 x.b, .int .u64 x.n, .slice A x.l.length c, .int .i64 x.t] 27)) ∧ (∀ k, v.ownBlock = some k → k < (w.alloc (.cells #[.int .i64 x.op, .int .u32 x.a, .int .u32 x.b, .int .u64 x.n, .slice A x.l.length c, .int .i64 x.t] 27)).heap.size) ∧ v.ownBlock ≠ some w.heap.size) :=
    ⟨hv.later (below_a w _), Own.new w _ _, hx.later (below_a w _), by simp; omega, below_a w _, fun k hk => by have := hgv k hk; simp; omega, fun e => by have := hgv _ e; omega⟩
  have HI := Lib.hid hI
  have HOK := Lib.hid ox
  have HGV := Lib.hid hgv
  obtain ⟨Av, cv, rfl, -, -, -⟩ := hv.rdX hI
  clear hv hI hx hgv ox
  generalize hq : l.length = q at *
  have HQ := Lib.hid hq
  clear hq
  unfold insV
  generalize hlq : x.l.length = lq at *
  have HLQ := Lib.hid hlq
  clear hlq
  go_enter Try.func54, Try.ntmps54
  go_upto_region 1 with fail
  generalize w.alloc (.cells #[.int .i64 x.op, .int .u32 x.a, .int .u32 x.b, .int .u64 x.n, .slice A lq c, .int .i64 x.t] 27) = W at *
  obtain ⟨c0, c1, c2, c3, c4, c5, f0, f1, f2, f3, f4, f5⟩ := own_cells6 HW.out.2.1
  rw [HLQ.out] at c4
  generalize hgx : w.heap.size = gx at *
  have HGX := Lib.hid hgx
  clear hgx
  have hw32 : wrap64 (wrap32 x.n) = wrap32 x.n := by have h1 := (wrap32_rng x.n).1; have h2 := (wrap32_rng x.n).2.1; unfold wrap64; omega
  go_wp2_with fail
  refine (cputSigned_any base (.slice Av q cv) l (wrap32 x.n) _ HW.out.1 HI.out HW.out.2.2.2.1 (by have := HQ.out; omega) (by have := (wrap32_rng x.n).1; omega) (by have := (wrap32_rng x.n).2.1; omega)).mono ?_
  rintro e w3 ⟨v3, rfl, hv3, hw3⟩
  have H3 : Hid (OwnB w3 base v3 (l ++ encBh 3 x) ∧ Grew (.slice Av q cv) w v3 w3) := ⟨by rw [HE.out]; exact hv3, hw3.before (by rw [HGX.out]; exact HW.out.2.2.2.2.1) (by rw [HGX.out]; exact HGV.out)⟩
  clear hv3 hw3 c0 c1 c2 c3 c4 c5 f0 f1 f2 f3 f4 f5
  go_wp2
  go_ret
  exact ⟨_, rfl, H3.out.1, H3.out.2⟩
theorem cpb4 : Calls Try.prog 54 #[v, .int .i64 4, insV x A c] w (GPost base v (l ++ encBh 4 x) w) := by
  have HE : Hid (encBh 4 x = encS (wrap64 x.n)) := by unfold Hid encBh; simp
  have hgv := fun k hk => owns_lt (g := k) hv hk
  have HW : Hid (OwnB (w.alloc (.cells #[.int .i64 x.op, .int .u32 x.a, .int .u32 x.b, .int .u64 x.n, .slice A x.l.length c, .int .i64 x.t] 27)) base v l ∧ Own (w.alloc (.cells #[.int .i64 x.op, .int .u32 x.a, .int .u32 x.b, .int .u64 x.n, .slice A x.l.length c, .int .i64 x.t] 27)) w.heap.size 27 (insC x A c) ∧ LabX (fun k => v.ownBlock ≠ some k) (w.alloc (.cells #[.int .i64 x.op, .int .u32 x.a, .int .u32 x.b, .int .u64 x.n, .slice A x.l.length c, .int .i64 x.t] 27)) x A c ∧ base ≤ (w.alloc (.cells #[.int .i64 x.op, .int .u32 x.a, .int .u32 x.b, .int .u64 x.n, .slice A x.l.length c, .int .i64 x.t] 27)).heap.size ∧ Below w.heap.size w (w.alloc (.cells #[.int .i64 x.op, .int .u32 x.a, .int .u32 x.b, .int .u64 x.n, .slice A x.l.length c, .int .i64 x.t] 27)) ∧ (∀ k, v.ownBlock = some k → k < (w.alloc (.cells #[.int .i64 x.op, .int .u32 x.a, .int .u32 x.b, .int .u64 x.n, .slice A x.l.length c, .int .i64 x.t] 27)).heap.size) ∧ v.ownBlock ≠ some w.heap.size) :=
    ⟨hv.later (below_a w _), Own.new w _ _, hx.later (below_a w _), by simp; omega, below_a w _, fun k hk => by have := hgv k hk; simp; omega, fun e => by have := hgv _ e; omega⟩
  have HI := Lib.hid hI
  have HOK := Lib.hid ox
  have HGV := Lib.hid hgv
  obtain ⟨Av, cv, rfl, -, -, -⟩ := hv.rdX hI
  clear hv hI hx hgv ox
  generalize hq : l.length = q at *
  have HQ := Lib.hid hq
  clear hq
  unfold insV
  generalize hlq : x.l.length = lq at *
  have HLQ := Lib.hid hlq
  clear hlq
  go_enter Try.func54, Try.ntmps54
  go_upto_region 1 with fail
  generalize w.alloc (.cells #[.int .i64 x.op, .int .u32 x.a, .int .u32 x.b, .int .u64 x.n, .slice A lq c, .int .i64 x.t] 27) = W at *
  obtain ⟨c0, c1, c2, c3, c4, c5, f0, f1, f2, f3, f4, f5⟩ := own_cells6 HW.out.2.1
  rw [HLQ.out] at c4
  generalize hgx : w.heap.size = gx at *
  have HGX := Lib.hid hgx
  clear hgx
  go_wp2_with fail
  refine (cputSigned_any base (.slice Av q cv) l (wrap64 x.n) _ HW.out.1 HI.out HW.out.2.2.2.1 (by have := HQ.out; omega) (wrap64_rng x.n).1 (wrap64_rng x.n).2).mono ?_
  rintro e w3 ⟨v3, rfl, hv3, hw3⟩
  have H3 : Hid (OwnB w3 base v3 (l ++ encBh 4 x) ∧ Grew (.slice Av q cv) w v3 w3) := ⟨by rw [HE.out]; exact hv3, hw3.before (by rw [HGX.out]; exact HW.out.2.2.2.2.1) (by rw [HGX.out]; exact HGV.out)⟩
  clear hv3 hw3 c0 c1 c2 c3 c4 c5 f0 f1 f2 f3 f4 f5
  go_wp2
  go_ret
  exact ⟨_, rfl, H3.out.1, H3.out.2⟩
theorem cpb6 : Calls Try.prog 54 #[v, .int .i64 6, insV x A c] w (GPost base v (l ++ encBh 6 x) w) := by
  have HE : Hid (encBh 6 x = encS x.t) := by unfold Hid encBh; simp
  have hgv := fun k hk => owns_lt (g := k) hv hk
  have HW : Hid (OwnB (w.alloc (.cells #[.int .i64 x.op, .int .u32 x.a, .int .u32 x.b, .int .u64 x.n, .slice A x.l.length c, .int .i64 x.t] 27)) base v l ∧ Own (w.alloc (.cells #[.int .i64 x.op, .int .u32 x.a, .int .u32 x.b, .int .u64 x.n, .slice A x.l.length c, .int .i64 x.t] 27)) w.heap.size 27 (insC x A c) ∧ LabX (fun k => v.ownBlock ≠ some k) (w.alloc (.cells #[.int .i64 x.op, .int .u32 x.a, .int .u32 x.b, .int .u64 x.n, .slice A x.l.length c, .int .i64 x.t] 27)) x A c ∧ base ≤ (w.alloc (.cells #[.int .i64 x.op, .int .u32 x.a, .int .u32 x.b, .int .u64 x.n, .slice A x.l.length c, .int .i64 x.t] 27)).heap.size ∧ Below w.heap.size w (w.alloc (.cells #[.int .i64 x.op, .int .u32 x.a, .int .u32 x.b, .int .u64 x.n, .slice A x.l.length c, .int .i64 x.t] 27)) ∧ (∀ k, v.ownBlock = some k → k < (w.alloc (.cells #[.int .i64 x.op, .int .u32 x.a, .int .u32 x.b, .int .u64 x.n, .slice A x.l.length c, .int .i64 x.t] 27)).heap.size) ∧ v.ownBlock ≠ some w.heap.size) :=
    ⟨hv.later (below_a w _), Own.new w _ _, hx.later (below_a w _), by simp; omega, below_a w _, fun k hk => by have := hgv k hk; simp; omega, fun e => by have := hgv _ e; omega⟩
  have HI := Lib.hid hI
  have HOK := Lib.hid ox
  have HGV := Lib.hid hgv
  obtain ⟨Av, cv, rfl, -, -, -⟩ := hv.rdX hI
  clear hv hI hx hgv ox
  generalize hq : l.length = q at *
  have HQ := Lib.hid hq
  clear hq
  unfold insV
  generalize hlq : x.l.length = lq at *
  have HLQ := Lib.hid hlq
  clear hlq
  go_enter Try.func54, Try.ntmps54
  go_upto_region 1 with fail
  generalize w.alloc (.cells #[.int .i64 x.op, .int .u32 x.a, .int .u32 x.b, .int .u64 x.n, .slice A lq c, .int .i64 x.t] 27) = W at *
  obtain ⟨c0, c1, c2, c3, c4, c5, f0, f1, f2, f3, f4, f5⟩ := own_cells6 HW.out.2.1
  rw [HLQ.out] at c4
  generalize hgx : w.heap.size = gx at *
  have HGX := Lib.hid hgx
  clear hgx
  go_wp2_with fail
  refine (cputSigned_any base (.slice Av q cv) l x.t _ HW.out.1 HI.out HW.out.2.2.2.1 (by have := HQ.out; omega) HOK.out.t0 HOK.out.t1).mono ?_
  rintro e w3 ⟨v3, rfl, hv3, hw3⟩
  have H3 : Hid (OwnB w3 base v3 (l ++ encBh 6 x) ∧ Grew (.slice Av q cv) w v3 w3) := ⟨by rw [HE.out]; exact hv3, hw3.before (by rw [HGX.out]; exact HW.out.2.2.2.2.1) (by rw [HGX.out]; exact HGV.out)⟩
  clear hv3 hw3 c0 c1 c2 c3 c4 c5 f0 f1 f2 f3 f4 f5
  go_wp2
  go_ret
  exact ⟨_, rfl, H3.out.1, H3.out.2⟩
omit hl in
theorem cpb0 : Calls Try.prog 54 #[v, .int .i64 0, insV x A c] w (GPost base v (l ++ encBh 0 x) w) := by
  have HE : Hid (encBh 0 x = []) := by unfold Hid encBh; simp
  have hgv := fun k hk => owns_lt (g := k) hv hk
  have HW : Hid (OwnB (w.alloc (.cells #[.int .i64 x.op, .int .u32 x.a, .int .u32 x.b, .int .u64 x.n, .slice A x.l.length c, .int .i64 x.t] 27)) base v l ∧ Own (w.alloc (.cells #[.int .i64 x.op, .int .u32 x.a, .int .u32 x.b, .int .u64 x.n, .slice A x.l.length c, .int .i64 x.t] 27)) w.heap.size 27 (insC x A c) ∧ LabX (fun k => v.ownBlock ≠ some k) (w.alloc (.cells #[.int .i64 x.op, .int .u32 x.a, .int .u32 x.b, .int .u64 x.n, .slice A x.l.length c, .int .i64 x.t] 27)) x A c ∧ base ≤ (w.alloc (.cells #[.int .i64 x.op, .int .u32 x.a, .int .u32 x.b, .int .u64 x.n, .slice A x.l.length c, .int .i64 x.t] 27)).heap.size ∧ Below w.heap.size w (w.alloc (.cells #[.int .i64 x.op, .int .u32 x.a, .int .u32 x.b, .int .u64 x.n, .slice A x.l.length c, .int .i64 x.t] 27)) ∧ (∀ k, v.ownBlock = some k → k < (w.alloc (.cells #[.int .i64 x.op, .int .u32 x.a, .int .u32 x.b, .int .u64 x.n, .slice A x.l.length c, .int .i64 x.t] 27)).heap.size) ∧ v.ownBlock ≠ some w.heap.size) :=
    ⟨hv.later (below_a w _), Own.new w _ _, hx.later (below_a w _), by simp; omega, below_a w _, fun k hk => by have := hgv k hk; simp; omega, fun e => by have := hgv _ e; omega⟩
  have HI := Lib.hid hI
  have HOK := Lib.hid ox
  have HGV := Lib.hid hgv
  obtain ⟨Av, cv, rfl, -, -, -⟩ := hv.rdX hI
  clear hv hI hx hgv ox
  generalize hq : l.length = q at *
  have HQ := Lib.hid hq
  clear hq
  unfold insV
  generalize hlq : x.l.length = lq at *
  have HLQ := Lib.hid hlq
  clear hlq
  go_enter Try.func54, Try.ntmps54
  go_upto_region 1 with fail
  generalize w.alloc (.cells #[.int .i64 x.op, .int .u32 x.a, .int .u32 x.b, .int .u64 x.n, .slice A lq c, .int .i64 x.t] 27) = W at *
  obtain ⟨c0, c1, c2, c3, c4, c5, f0, f1, f2, f3, f4, f5⟩ := own_cells6 HW.out.2.1
  rw [HLQ.out] at c4
  generalize hgx : w.heap.size = gx at *
  have HGX := Lib.hid hgx
  clear hgx
  clear c0 c1 c2 c3 c4 c5 f0 f1 f2 f3 f4 f5
  go_wp2
  go_ret
  exact ⟨_, rfl, by rw [HE.out, List.append_nil]; exact HW.out.1, (Grew.refl _ _).before (by rw [HGX.out]; exact HW.out.2.2.2.2.1) (by rw [HGX.out]; exact HGV.out)⟩
theorem cpb8 : Calls Try.prog 54 #[v, .int .i64 8, insV x A c] w (GPost base v (l ++ encBh 8 x) w) := by
  have HE : Hid (encBh 8 x = (if x.op = 28 then encs [1] else []) ++ [x.a % 256]) := by unfold Hid encBh; simp
  have hgv := fun k hk => owns_lt (g := k) hv hk
  have HW : Hid (OwnB (w.alloc (.cells #[.int .i64 x.op, .int .u32 x.a, .int .u32 x.b, .int .u64 x.n, .slice A x.l.length c, .int .i64 x.t] 27)) base v l ∧ Own (w.alloc (.cells #[.int .i64 x.op, .int .u32 x.a, .int .u32 x.b, .int .u64 x.n, .slice A x.l.length c, .int .i64 x.t] 27)) w.heap.size 27 (insC x A c) ∧ LabX (fun k => v.ownBlock ≠ some k) (w.alloc (.cells #[.int .i64 x.op, .int .u32 x.a, .int .u32 x.b, .int .u64 x.n, .slice A x.l.length c, .int .i64 x.t] 27)) x A c ∧ base ≤ (w.alloc (.cells #[.int .i64 x.op, .int .u32 x.a, .int .u32 x.b, .int .u64 x.n, .slice A x.l.length c, .int .i64 x.t] 27)).heap.size ∧ Below w.heap.size w (w.alloc (.cells #[.int .i64 x.op, .int .u32 x.a, .int .u32 x.b, .int .u64 x.n, .slice A x.l.length c, .int .i64 x.t] 27)) ∧ (∀ k, v.ownBlock = some k → k < (w.alloc (.cells #[.int .i64 x.op, .int .u32 x.a, .int .u32 x.b, .int .u64 x.n, .slice A x.l.length c, .int .i64 x.t] 27)).heap.size) ∧ v.ownBlock ≠ some w.heap.size) :=
    ⟨hv.later (below_a w _), Own.new w _ _, hx.later (below_a w _), by simp; omega, below_a w _, fun k hk => by have := hgv k hk; simp; omega, fun e => by have := hgv _ e; omega⟩
  have HI := Lib.hid hI
  have HOK := Lib.hid ox
  have HGV := Lib.hid hgv
  obtain ⟨Av, cv, rfl, -, -, -⟩ := hv.rdX hI
  clear hv hI hx hgv ox
  generalize hq : l.length = q at *
  have HQ := Lib.hid hq
  clear hq
  unfold insV
  generalize hlq : x.l.length = lq at *
  have HLQ := Lib.hid hlq
  clear hlq
  go_enter Try.func54, Try.ntmps54
  go_upto_region 1 with fail
  generalize w.alloc (.cells #[.int .i64 x.op, .int .u32 x.a, .int .u32 x.b, .int .u64 x.n, .slice A lq c, .int .i64 x.t] 27) = W at *
  obtain ⟨c0, c1, c2, c3, c4, c5, f0, f1, f2, f3, f4, f5⟩ := own_cells6 HW.out.2.1
  rw [HLQ.out] at c4
  generalize hgx : w.heap.size = gx at *
  have HGX := Lib.hid hgx
  clear hgx
  by_cases h28 : x.op = 28
  · have h28b : (x.op == 28) = true := by simpa using h28
    have HE2 : Hid (encBh 8 x = encs [1] ++ [x.a % 256]) := by unfold Hid; rw [HE.out, if_pos h28]
    clear h28
    go_wp2_with fail
    refine (cputNums_any base (.slice Av q cv) l (some ⟨W.heap.size, 0, none⟩) [1] 1 1 _ (OwnB.later HW.out.1 (below_a W _)) HI.out (by have := HW.out.2.2.2.1; simp; omega) (lit1_rdQ W 1 (by omega) (by omega) HW.out.2.2.2.2.2.1) rfl (by have := HQ.out; omega)).mono ?_
    rintro e w2 ⟨v2, rfl, hv2, hw2⟩
    have hgx := HW.out.2.1.lt
    have ho2 := (HW.out.2.1.later (below_a W (.cells #[.int .u32 1] 23))).grew hw2 HW.out.2.2.2.2.2.2
    have H2 : Hid (OwnB w2 base v2 (l ++ encs [1]) ∧ Grew (.slice Av q cv) W v2 w2) := ⟨hv2, hw2.before (below_a W _) HW.out.2.2.2.2.2.1⟩
    obtain ⟨A2, k2, rfl, -, -, -⟩ := hv2.rdX (HI.out.app (encs_is _ (one32 (by omega) (by omega))))
    clear c0 c1 c2 c3 c4 c5 f0 f1 f2 f3 f4 f5 hv2 hw2
    obtain ⟨c0, c1, c2, c3, c4, c5, f0, f1, f2, f3, f4, f5⟩ := own_cells6 ho2
    rw [HLQ.out] at c4
    clear ho2
    have hs2 := H2.out.2.1.size
    have hbw := HW.out.2.2.2.1
    generalize hq2 : (l ++ encs [1]).length = q2 at *
    have HQ2 := Lib.hid hq2
    have hq2b : q2 ≤ 70000010 := by have := encs_len [(1 : Int)]; have := HQ.out; rw [← hq2, List.length_append]; simp at *; omega
    clear hq2
    go_wp2_with (at_builtin; refine wpList_app1G rfl (.tmp 83) (.tmp 87) rfl base (.slice A2 q2 k2) (l ++ encs [1]) rfl H2.out.1 (x.a % 256) rfl (by omega) (by omega) (by have := HQ2.out; omega) (by omega) ?_; intro v1 w1 hv1 hw1; rw [List.append_assoc, ← HE2.out] at hv1; have H1 := Lib.hid (And.intro hv1 hw1); clear hv1 hw1)
    go_ret
    exact ⟨_, rfl, H1.out.1, (H2.out.2.trans H1.out.2).before (by rw [HGX.out]; exact HW.out.2.2.2.2.1) (by rw [HGX.out]; exact HGV.out)⟩
  · have h28b : (x.op == 28) = false := by simpa using h28
    have HE2 : Hid (encBh 8 x = [x.a % 256]) := by unfold Hid; rw [HE.out, if_neg h28]; rfl
    clear h28
    have hbw := HW.out.2.2.2.1
    go_wp2_with (at_builtin; refine wpList_app1G rfl (.tmp 83) (.tmp 87) rfl base (.slice Av q cv) l rfl HW.out.1 (x.a % 256) rfl (by omega) (by omega) (by have := HQ.out; omega) (by omega) ?_; intro v1 w1 hv1 hw1; rw [← HE2.out] at hv1; have H1 := Lib.hid (And.intro hv1 hw1); clear hv1 hw1)
    go_ret
    exact ⟨_, rfl, H1.out.1, H1.out.2.before (by rw [HGX.out]; exact HW.out.2.2.2.2.1) (by rw [HGX.out]; exact HGV.out)⟩
theorem cpb7 : Calls Try.prog 54 #[v, .int .i64 7, insV x A c] w (GPost base v (l ++ encBh 7 x) w) := by
  have HE : Hid (encBh 7 x = encs [(x.l.length : Int)] ++ encs x.l ++ encs [x.a]) := by unfold Hid encBh; simp
  have hgv := fun k hk => owns_lt (g := k) hv hk
  have HW : Hid (OwnB (w.alloc (.cells #[.int .i64 x.op, .int .u32 x.a, .int .u32 x.b, .int .u64 x.n, .slice A x.l.length c, .int .i64 x.t] 27)) base v l ∧ Own (w.alloc (.cells #[.int .i64 x.op, .int .u32 x.a, .int .u32 x.b, .int .u64 x.n, .slice A x.l.length c, .int .i64 x.t] 27)) w.heap.size 27 (insC x A c) ∧ LabX (fun k => v.ownBlock ≠ some k) (w.alloc (.cells #[.int .i64 x.op, .int .u32 x.a, .int .u32 x.b, .int .u64 x.n, .slice A x.l.length c, .int .i64 x.t] 27)) x A c ∧ base ≤ (w.alloc (.cells #[.int .i64 x.op, .int .u32 x.a, .int .u32 x.b, .int .u64 x.n, .slice A x.l.length c, .int .i64 x.t] 27)).heap.size ∧ Below w.heap.size w (w.alloc (.cells #[.int .i64 x.op, .int .u32 x.a, .int .u32 x.b, .int .u64 x.n, .slice A x.l.length c, .int .i64 x.t] 27)) ∧ (∀ k, v.ownBlock = some k → k < (w.alloc (.cells #[.int .i64 x.op, .int .u32 x.a, .int .u32 x.b, .int .u64 x.n, .slice A x.l.length c, .int .i64 x.t] 27)).heap.size) ∧ v.ownBlock ≠ some w.heap.size) :=
    ⟨hv.later (below_a w _), Own.new w _ _, hx.later (below_a w _), by simp; omega, below_a w _, fun k hk => by have := hgv k hk; simp; omega, fun e => by have := hgv _ e; omega⟩
  have HI := Lib.hid hI
  have HOK := Lib.hid ox
  have HGV := Lib.hid hgv
  obtain ⟨Av, cv, rfl, -, -, -⟩ := hv.rdX hI
  clear hv hI hx hgv ox
  generalize hq : l.length = q at *
  have HQ := Lib.hid hq
  clear hq
  unfold insV
  generalize hlq : x.l.length = lq at *
  have HLQ := Lib.hid hlq
  clear hlq
  go_enter Try.func54, Try.ntmps54
  go_upto_region 1 with fail
  generalize w.alloc (.cells #[.int .i64 x.op, .int .u32 x.a, .int .u32 x.b, .int .u64 x.n, .slice A lq c, .int .i64 x.t] 27) = W at *
  obtain ⟨c0, c1, c2, c3, c4, c5, f0, f1, f2, f3, f4, f5⟩ := own_cells6 HW.out.2.1
  rw [HLQ.out] at c4
  generalize hgx : w.heap.size = gx at *
  have HGX := Lib.hid hgx
  clear hgx
  have hlm : lq ≤ 1000 := by have := HOK.out.m; have := HLQ.out; omega
  have hwl : (lq : Int) % 4294967296 = lq := by omega
  go_wp2_with fail
  refine (cputNums_any base (.slice Av q cv) l (some ⟨W.heap.size, 0, none⟩) [(lq : Int)] 1 1 _ (OwnB.later HW.out.1 (below_a W _)) HI.out (by have := HW.out.2.2.2.1; simp; omega) (lit1_rdQ W lq (by omega) (by omega) HW.out.2.2.2.2.2.1) rfl (by have := HQ.out; omega)).mono ?_
  rintro e w2 ⟨v2, rfl, hv2, hw2⟩
  have HL2 := Lib.hid (encs_len [(lq : Int)])
  have H2 : Hid (OwnB w2 base v2 (l ++ encs [(lq : Int)]) ∧ Grew (.slice Av q cv) W v2 w2 ∧ Own w2 gx 27 (insC x A c) ∧ LabX (fun k => v2.ownBlock ≠ some k) w2 x A c ∧ IsBytes (l ++ encs [(lq : Int)]) ∧ v2.ownBlock ≠ some gx ∧ (l ++ encs [(lq : Int)]).length ≤ 70000010) := by
    have hg := hw2.before (below_a W _) HW.out.2.2.2.2.2.1
    have hl3 : LabX (fun k => v2.ownBlock ≠ some k) W x A c := HW.out.2.2.1.mono fun k hk hx e => by
      rcases hg.2 k e with h | h
      · exact hx h
      · omega
    refine ⟨hv2, hg, HW.out.2.1.grew hg HW.out.2.2.2.2.2.2, ?_, HI.out.app (encs_is _ (one32 (by omega) (by omega))), fun e => ?_, ?_⟩
    · have hl4 : LabX (fun k => v2.ownBlock ≠ some k ∧ (Value.slice Av q cv).ownBlock ≠ some k) W x A c := ⟨fun j u hu => by
        obtain ⟨ad, e1, e2, e3⟩ := hl3.1 j u hu
        obtain ⟨ad', e1', e2', e3'⟩ := HW.out.2.2.1.1 j u hu
        rw [e1] at e1'; injection e1' with e1'; subst e1'
        exact ⟨ad, e1, ⟨e2, e2'⟩, e3⟩, hl3.2⟩
      exact (hl4.chg hg.1 fun k _ hk => hk.2).mono fun k _ hk => hk.1
    · rcases hg.2 gx e with h | h
      · exact HW.out.2.2.2.2.2.2 h
      · have := HW.out.2.1.lt; omega
    · have := HL2.out; have := HQ.out; rw [List.length_append]; simp at *; omega
  obtain ⟨A2, k2, rfl, -, -, -⟩ := hv2.rdX H2.out.2.2.2.2.1
  clear c0 c1 c2 c3 c4 c5 f0 f1 f2 f3 f4 f5 hv2 hw2
  generalize hq2 : (l ++ encs [(lq : Int)]).length = q2 at *
  have HQ2 := Lib.hid hq2
  clear hq2
  have hbw := HW.out.2.2.2.1
  have hs2 := H2.out.2.1.1.size
  obtain ⟨c0, c1, c2, c3, c4, c5, f0, f1, f2, f3, f4, f5⟩ := own_cells6 H2.out.2.2.1
  rw [HLQ.out] at c4
  have HC : Hid (∀ W', Below w2.heap.size w2 W' → Calls Try.prog 63 #[.slice A2 q2 k2, .slice A lq c] W' (GPost base (.slice A2 q2 k2) (l ++ encs [(lq : Int)] ++ encs x.l) W')) := fun W' hb' =>
    cputNums_any base (.slice A2 q2 k2) (l ++ encs [(lq : Int)]) A x.l lq c W' (OwnB.later H2.out.1 hb') H2.out.2.2.2.2.1 (by have := hb'.size; omega) ⟨HOK.out.l, (H2.out.2.2.2.1.later hb').1⟩ HLQ.out.symm (by have := H2.out.2.2.2.2.2.2; have := HQ2.out; omega)
  have HCa := Lib.hid (HC.out _ ((below_a w2 (.cells #[.int .u32 x.a] 23)).drew))
  have HCb := Lib.hid (HC.out w2.drew (Below.refl _ _).drew)
  have hgx2 := H2.out.2.2.1.lt
  have hv2l := fun k hk => owns_lt (g := k) H2.out.1 hk
  have HV2L := Lib.hid hv2l
  have HB3 : Hid (IsBytes (l ++ encs [(lq : Int)] ++ encs x.l) ∧ (l ++ encs [(lq : Int)] ++ encs x.l).length ≤ 70010010) := by
    refine ⟨H2.out.2.2.2.2.1.app (encs_is _ HOK.out.l.u64), ?_⟩
    have h1 := encs_len x.l
    have h2 := H2.out.2.2.2.2.2.2
    have h3 := HQ2.out
    have h4 := HLQ.out
    rw [List.length_append]; omega
  have HLA : Hid (RdQ (fun k => (Value.slice A2 q2 k2).ownBlock ≠ some k) (w2.alloc (.cells #[.int .u32 x.a] 23)) (some ⟨w2.heap.size, 0, none⟩) [x.a]) := lit1_rdQ w2 x.a HOK.out.a0 HOK.out.a1 hv2l
  clear hv2l HC
  have hxa0 := HOK.out.a0
  have hxa1 := HOK.out.a1
  go_wp2
  go_region_with (first | (go_at_call 63; refine (cputNums_any base (.slice A3 q3 k3) (l ++ encs [(lq : Int)] ++ encs x.l) (some ⟨w2.heap.size, 0, none⟩) [x.a] 1 1 w3 H3.out.1 HB3.out.1 H3.out.2.2.1 HLT.out rfl (by have := HB3.out.2; have := HQ3.out; omega)).mono ?_; rintro e w5 ⟨v5, rfl, hv5, hw5⟩; have H5 : Hid (OwnB w5 base v5 (l ++ encBh 7 x) ∧ Grew (.slice Av q cv) W v5 w5) := ⟨by rw [HE.out]; simpa using hv5, (H2.out.2.1.trans H3.out.2.1).trans hw5⟩; clear hv5 hw5) | (go_at_call 63; refine (cputNums_any base (.slice A3 q3 k3) (l ++ encs [(lq : Int)] ++ encs x.l) (some ⟨w3.heap.size, 0, none⟩) [x.a] 1 1 (w3.alloc (.cells #[.int .u32 x.a] 23)) (OwnB.later H3.out.1 (below_a w3 _)) HB3.out.1 (by have := H3.out.2.2.1; simp; omega) (lit1_rdQ w3 x.a hxa0 hxa1 H3.out.2.2.2) rfl (by have := HB3.out.2; have := HQ3.out; omega)).mono ?_; rintro e w5 ⟨v5, rfl, hv5, hw5⟩; have H5 : Hid (OwnB w5 base v5 (l ++ encBh 7 x) ∧ Grew (.slice Av q cv) W v5 w5) := ⟨by rw [HE.out]; simpa using hv5, (H2.out.2.1.trans H3.out.2.1).trans (hw5.before (below_a w3 _) H3.out.2.2.2)⟩; clear hv5 hw5) | (go_at_call 63; refine HCa.out.mono ?_; rintro e w3 ⟨v3, rfl, hv3, hw3⟩; have HLT0 := (HLA.out.drewN 1).chg hw3.1 (fun k _ hk e => hk e); have hg3 : Grew (.slice A2 q2 k2) w2 v3 w3 := hw3.before ((below_a w2 _).drew) HV2L.out; have H3 : Hid (OwnB w3 base v3 (l ++ encs [(lq : Int)] ++ encs x.l) ∧ Grew (.slice A2 q2 k2) w2 v3 w3 ∧ base ≤ w3.heap.size ∧ ∀ k, v3.ownBlock = some k → k < w3.heap.size) := ⟨hv3, hg3, by have := hg3.1.size; omega, fun k hk => owns_lt hv3 hk⟩; have HLT : Hid (RdQ (fun k => v3.ownBlock ≠ some k) w3 (some ⟨w2.heap.size, 0, none⟩) [x.a]) := lit_after hw3 HLT0; obtain ⟨A3, k3, rfl, -, -, -⟩ := hv3.rdX HB3.out.1; clear hv3 hw3 hg3 HLT0; generalize hq3 : (l ++ encs [(lq : Int)] ++ encs x.l).length = q3 at *; have HQ3 := Lib.hid hq3; clear hq3) | (go_at_call 63; refine HCb.out.mono ?_; rintro e w3 ⟨v3, rfl, hv3, hw3⟩; have hg3 : Grew (.slice A2 q2 k2) w2 v3 w3 := hw3.before (Below.refl _ _).drew HV2L.out; have H3 : Hid (OwnB w3 base v3 (l ++ encs [(lq : Int)] ++ encs x.l) ∧ Grew (.slice A2 q2 k2) w2 v3 w3 ∧ base ≤ w3.heap.size ∧ ∀ k, v3.ownBlock = some k → k < w3.heap.size) := ⟨hv3, hg3, by have := hg3.1.size; omega, fun k hk => owns_lt hv3 hk⟩; have d1 := (H2.out.2.2.1.grew hg3 H2.out.2.2.2.2.2.1).cell 1; simp only [insC, List.getElem?_cons_succ, List.getElem?_cons_zero] at d1; obtain ⟨A3, k3, rfl, -, -, -⟩ := hv3.rdX HB3.out.1; clear hv3 hw3 hg3; generalize hq3 : (l ++ encs [(lq : Int)] ++ encs x.l).length = q3 at *; have HQ3 := Lib.hid hq3; clear hq3))
  all_goals
    go_wp2
    go_ret
    exact ⟨_, rfl, H5.out.1, H5.out.2.before (by rw [HGX.out]; exact HW.out.2.2.2.2.1) (by rw [HGX.out]; exact HGV.out)⟩
end
end Go.Proofs.Ytdngkbagfaeplaa
