/- Texts joined: CodePut4, AsmMath, RowE, ModV, TypesPut2. -/
import Derived.Test.YtdngkbagfaeplaaJoin8
import Derived.Deep.RegionWith
import Derived.Deep.Cut
import Derived.Test.YtdngkbagfaeplaaJoin4
import Derived.Test.YtdngkbagfaeplaaJoin5
import Derived.Test.YtdngkbagfaeplaaJoin6
/- code.Put: which bytes instructions have. -/
namespace Go.Proofs.Ytdngkbagfaeplaa
open Go.RowKit
set_option maxRecDepth 100000
set_option linter.unusedVariables false

theorem cputBehind_any (base : Nat) (v : Value) (l : List Int) (x : Ins) (A : Option Addr) (c : Nat) (w : World) (hv : OwnB w base v l) (hI : IsBytes l) (hb : base ≤ w.heap.size) (hl : l.length ≤ 70000000) (hx : LabX (fun k => v.ownBlock ≠ some k) w x A c) (ox : InsOk x) (imm : Int) (h0 : 0 ≤ imm) (h8 : imm ≤ 8) :
    Calls Try.prog 54 #[v, .int .i64 imm, insV x A c] w (GPost base v (l ++ encBh imm x) w) := by
  rcases show imm = 0 ∨ imm = 1 ∨ imm = 2 ∨ imm = 3 ∨ imm = 4 ∨ imm = 5 ∨ imm = 6 ∨ imm = 7 ∨ imm = 8 from by omega with rfl | rfl | rfl | rfl | rfl | rfl | rfl | rfl | rfl
  · exact cpb0 base v l x A c w hv hI hb hx ox
  · exact cpb1 base v l x A c w hv hI hb hl hx ox
  · exact cpb2 base v l x A c w hv hI hb hl hx ox
  · exact cpb3 base v l x A c w hv hI hb hl hx ox
  · exact cpb4 base v l x A c w hv hI hb hl hx ox
  · exact cpb5 base v l x A c w hv hI hb hl hx ox
  · exact cpb6 base v l x A c w hv hI hb hl hx ox
  · exact cpb7 base v l x A c w hv hI hb hl hx ox
  · exact cpb8 base v l x A c w hv hI hb hl hx ox

theorem behind_at {x : Ins} {A : Option Addr} {c lq : Nat} {v : Value} {imm : Int} {w : World} {P : Ending → World → Prop} (h : x.l.length = lq) (hc : Calls Try.prog 54 #[v, .int .i64 imm, insV x A c] w P) :
    Calls Try.prog 54 #[v, .int .i64 imm, .agg #[.int .i64 x.op, .int .u32 x.a, .int .u32 x.b, .int .u64 x.n, .slice A lq c, .int .i64 x.t]] w P := by
  subst h; exact hc
/-- The bytes of an instruction of the profile. -/
def encIn (x : Ins) : List Int := if (kd x.op).2 = 0 then encOp x.op ++ encBh (kd x.op).1 x else []
def encB : List Ins → List Int
  | [] => []
  | x :: t => encIn x ++ encB t
theorem encB_app (a b : List Ins) : encB (a ++ b) = encB a ++ encB b := by
  induction a with
  | nil => rfl
  | cons x t ih => simp [encB, ih]
/-- An instruction whose number is one of 17 bits. -/
def OpOk (x : Ins) : Prop := 0 ≤ x.op ∧ x.op ≤ 1000000
theorem encIn_is (x : Ins) (ho : OpOk x) (hx : InsOk x) : IsBytes (encIn x) ∧ (encIn x).length ≤ 10040 := by
  unfold encIn
  split
  · obtain ⟨h1, h2⟩ := encOp_is x.op ho.1 ho.2
    obtain ⟨h3, h4⟩ := encBh_is (kd x.op).1 x hx
    exact ⟨h1.app h3, by rw [List.length_append]; omega⟩
  · exact ⟨IsBytes.nil, by simp⟩
theorem encB_is (l : List Ins) (h : ∀ x ∈ l, OpOk x ∧ InsOk x) : IsBytes (encB l) ∧ (encB l).length ≤ 10040 * l.length := by
  induction l with
  | nil => exact ⟨IsBytes.nil, by simp [encB]⟩
  | cons x t ih =>
    obtain ⟨h1, h2⟩ := ih fun y hy => h y (by simp [hy])
    obtain ⟨h3, h4⟩ := encIn_is x (h x (by simp)).1 (h x (by simp)).2
    refine ⟨h3.app h1, ?_⟩
    simp only [encB, List.length_append, List.length_cons]
    omega
theorem encB_take {is : List IV} {k : Nat} {i : IV} (h : is[k]? = some i) : encB ((is.take (k + 1)).map IV.x) = encB ((is.take k).map IV.x) ++ encIn i.x := by
  rw [List.take_add_one, h, List.map_append, encB_app]
  simp [encB]
set_option maxHeartbeats 4000000 in
theorem cput_any {X : Nat → Prop} (A : Option Addr) (b : List Int) (n c : Nat) (v : Value) (is : List IV) (w : World) (h : Rd w w.heap.size A b) (hn : n = b.length) (hl : n ≤ 1000000) (hr : RdN X w v is) (hil : is.length ≤ 5000) (hop : ∀ i ∈ is, OpOk i.x) :
    Calls Try.prog 37 #[.slice A n c, v] w fun e w' => ∃ u, e = .returned u ∧ OwnB w' w.heap.size u (b ++ encB (is.map IV.x)) ∧ Below w.heap.size w w' := by
  have HC := Lib.hid (clone_any A b n c w h hn (by omega))
  have HR := Lib.hid hr
  have HIB : Hid (IsBytes b) := h.1
  have HN := Lib.hid hn
  have HOP := Lib.hid hop
  obtain ⟨B, d, rfl, -, -, -, -⟩ := hr
  clear h hn hop
  generalize hq : is.length = q at *
  have HQ := Lib.hid hq
  clear hq
  go_enter Try.func37, Try.ntmps37
  go_wp2_with fail
  refine HC.out.mono ?_
  rintro e w1 ⟨v1, rfl, hv1, hb1⟩
  obtain ⟨A1, c1, rfl, -, -, -⟩ := hv1.rdX HIB.out
  have H1 := Lib.hid (And.intro hv1 hb1)
  have hs1 := hb1.size
  clear hv1 hb1 HC
  generalize hbl : b.length = bl at *
  have HBL := Lib.hid hbl
  clear hbl
  go_wp2
  go_loopw [0, 13] (fun u i wr => ∃ (k : Nat), k ≤ q ∧ i = .int .i64 k ∧ w.heap.size ≤ wr.heap.size ∧ Hid (OwnB wr w.heap.size u (b ++ encB ((is.take k).map IV.x)) ∧ Below w.heap.size w wr)) (fun _ i _ => q - (intOf i).toNat)
  case atStart => exact ⟨0, by omega, rfl, hs1, by simpa [encB] using H1.out.1, H1.out.2⟩
  case round =>
    obtain ⟨k, hk, rfl, hbr, HX⟩ := hrel
    by_cases hlt : k < q
    · have hlt2 : (k : Int) < q := by omega
      have hra := HR.out.later HX.out.2
      have hkl : k < is.length := by rw [HQ.out]; exact hlt
      obtain ⟨i, hi⟩ : ∃ i, is[k]? = some i := ⟨_, List.getElem?_eq_getElem hkl⟩
      have him : i ∈ is := List.mem_of_getElem? hi
      obtain ⟨ba, oa, rfl, -, hba, a0, a1, a2, a3, a4, a5⟩ := hra.at_ hi
      have HI : Hid (LabX (fun k => k < w.heap.size) wr i.x i.A i.c ∧ InsOk i.x ∧ OpOk i.x) := by
        obtain ⟨_, _, _, _, _, _, p5⟩ := HR.out
        exact ⟨((p5 i him).1.mono fun k hk _ => hk).later HX.out.2, (p5 i him).2, HOP.out i him⟩
      have HT := Lib.hid (encB_take hi)
      have HBB : Hid (IsBytes (b ++ encB ((is.take k).map IV.x)) ∧ (b ++ encB ((is.take k).map IV.x)).length ≤ 60000000) := by
        obtain ⟨_, _, _, _, _, _, p5⟩ := HR.out
        obtain ⟨h1, h2⟩ := encB_is ((is.take k).map IV.x) (fun x hx => by
          obtain ⟨j, hj, rfl⟩ := List.mem_map.1 hx
          have hj' := List.mem_of_mem_take hj
          exact ⟨HOP.out j hj', (p5 j hj').2⟩)
        refine ⟨HIB.out.app h1, ?_⟩
        have h3 := HN.out
        have h4 := HBL.out
        rw [List.length_map, List.length_take] at h2
        rw [List.length_append]
        omega
      obtain ⟨Au, cu, hu, -, -, -⟩ := HX.out.1.rdX HBB.out.1
      subst hu
      have HOG := Lib.hid (fun (j : Nat) hj => And.intro (owns_ge (g := j) HX.out.1 hj) (owns_lt (g := j) HX.out.1 hj))
      have HW : Hid (OwnB (wr.alloc (.cells #[.int .i64 i.x.op, .int .u32 i.x.a, .int .u32 i.x.b, .int .u64 i.x.n, .slice i.A i.x.l.length i.c, .int .i64 i.x.t] 27)) w.heap.size (.slice Au (b ++ encB ((is.take k).map IV.x)).length cu) (b ++ encB ((is.take k).map IV.x)) ∧ Own (wr.alloc (.cells #[.int .i64 i.x.op, .int .u32 i.x.a, .int .u32 i.x.b, .int .u64 i.x.n, .slice i.A i.x.l.length i.c, .int .i64 i.x.t] 27)) wr.heap.size 27 (insC i.x i.A i.c) ∧ LabX (fun k => k < w.heap.size) (wr.alloc (.cells #[.int .i64 i.x.op, .int .u32 i.x.a, .int .u32 i.x.b, .int .u64 i.x.n, .slice i.A i.x.l.length i.c, .int .i64 i.x.t] 27)) i.x i.A i.c ∧ Below w.heap.size w (wr.alloc (.cells #[.int .i64 i.x.op, .int .u32 i.x.a, .int .u32 i.x.b, .int .u64 i.x.n, .slice i.A i.x.l.length i.c, .int .i64 i.x.t] 27))) :=
        ⟨HX.out.1.later (below_a wr _), Own.new wr _ _, HI.out.1.later (below_a wr _), HX.out.2.trans ((below_a wr _).mono hbr)⟩
      clear hra hkl hi him
      generalize hql : (b ++ encB ((is.take k).map IV.x)).length = ql at *
      have HQL := Lib.hid hql
      clear hql
      go_upto_region 5 with fail
      clear a0 a1 a2 a3 a4 a5 hba
      generalize wr.alloc (.cells #[.int .i64 i.x.op, .int .u32 i.x.a, .int .u32 i.x.b, .int .u64 i.x.n, .slice i.A i.x.l.length i.c, .int .i64 i.x.t] 27) = W at *
      generalize wr.heap.size = gx at *
      obtain ⟨c0, c1, c2, c3, c4, c5, f0, f1, f2, f3, f4, f5⟩ := own_cells6 HW.out.2.1
      have hgw := HW.out.2.1.lt
      by_cases hkd : (kd i.x.op).2 = 0
      · have HKD : Hid (b ++ encB ((is.take (k + 1)).map IV.x) = b ++ encB ((is.take k).map IV.x) ++ encOp i.x.op ++ encBh (kd i.x.op).1 i.x) := by
          unfold Hid; rw [HT.out]; unfold encIn; rw [if_pos hkd]; simp
        have hkb := kd_imm i.x.op
        have hke : ((kd i.x.op).2 == 0) = true := by simpa using hkd
        have HOPX := Lib.hid HI.out.2.2
        have HPO := Lib.hid (cputOp_any w.heap.size (.slice Au ql cu) (b ++ encB ((is.take k).map IV.x)) i.x.op W.drew (HW.out.1.later (Below.refl _ _).drew) HBB.out.1 (show w.heap.size ≤ W.heap.size from by omega) (by have := HBB.out.2; have := HQL.out; omega) HI.out.2.2.1 HI.out.2.2.2)
        generalize hki : (kd i.x.op).1 = ki at *
        generalize hlq : i.x.l.length = lq at *
        have HLQ := Lib.hid hlq
        clear hlq
        rw [hkd] at hke
        go_upto_region 7 with (go_at_call 53; refine (kind_any i.x.op _).mono ?_; unfold pr; rw [hkd, hki]; rintro e w' ⟨rfl, rfl⟩)
        clear hkd hke
        have HKI := Lib.hid hkb
        go_region_with (first | (go_at_call 54; refine (HPB.out).mono ?_; rintro e w5 ⟨v5, rfl, hv5, hw5⟩; have H5 : Hid (OwnB w5 w.heap.size v5 (b ++ encB ((is.take (k + 1)).map IV.x)) ∧ Below w.heap.size w w5) := ⟨by rw [HKD.out]; exact hv5, H3.out.2.2.1.trans (hw5.below (by have := H3.out.2.2.1.size; omega) (fun j hj => owns_ge H3.out.1 hj))⟩; clear hv5 hw5) | (go_at_call 55; refine HPO.out.mono ?_; rintro e w3 ⟨v3, rfl, hv3, hw3⟩; have hg3 : Grew (.slice Au ql cu) W v3 w3 := hw3.before (Below.refl _ _).drew (fun j hj => by have := (HOG.out j hj).2; omega); have hO3 := HW.out.2.1.grew hg3 (fun e => by have := (HOG.out _ e).2; omega); have H3 : Hid (OwnB w3 w.heap.size v3 (b ++ encB ((is.take k).map IV.x) ++ encOp i.x.op) ∧ Own w3 gx 27 (insC i.x i.A i.c) ∧ Below w.heap.size w w3 ∧ LabX (fun k => v3.ownBlock ≠ some k) w3 i.x i.A i.c) := ⟨hv3, hO3, HW.out.2.2.2.trans (hg3.below HW.out.2.2.2.size (fun j hj => (HOG.out j hj).1)), (HW.out.2.2.1.chg hg3.1 (fun j _ hj e => by have := (HOG.out j e).1; omega)).mono (fun j _ hj e => by have := owns_ge hv3 e; omega)⟩; obtain ⟨A3, k3, rfl, -, -, -⟩ := hv3.rdX (HBB.out.1.app (encOp_is _ HOPX.out.1 HOPX.out.2).1); obtain ⟨d0, d1, d2, d3, d4, d5, -, -, -, -, -, -⟩ := own_cells6 hO3; rw [HLQ.out] at d4; have HPB : Hid (Calls Try.prog 54 #[.slice A3 (b ++ encB ((is.take k).map IV.x) ++ encOp i.x.op).length k3, .int .i64 ki, .agg #[.int .i64 i.x.op, .int .u32 i.x.a, .int .u32 i.x.b, .int .u64 i.x.n, .slice i.A lq i.c, .int .i64 i.x.t]] w3 (GPost w.heap.size (.slice A3 (b ++ encB ((is.take k).map IV.x) ++ encOp i.x.op).length k3) (b ++ encB ((is.take k).map IV.x) ++ encOp i.x.op ++ encBh ki i.x) w3)) := behind_at HLQ.out (cputBehind_any w.heap.size _ _ i.x i.A i.c w3 H3.out.1 (HBB.out.1.app (encOp_is _ HOPX.out.1 HOPX.out.2).1) H3.out.2.2.1.size (by have := (encOp_is _ HOPX.out.1 HOPX.out.2).2; have := HBB.out.2; have := HQL.out; rw [List.length_append]; omega) H3.out.2.2.2 HI.out.2.1 ki HKI.out.1 HKI.out.2.1); clear hv3 hw3 hg3 hO3; generalize hq3 : (b ++ encB ((is.take k).map IV.x) ++ encOp i.x.op).length = q3 at *; have HQ3 := Lib.hid hq3; clear hq3))
        all_goals
          go_wp2
          refine ⟨⟨k + 1, by omega, by go_num, by have := H5.out.2.size; omega, H5.out.1, H5.out.2⟩, ?_⟩
          simp [intOf]; omega
      · have HKD : Hid (encB ((is.take (k + 1)).map IV.x) = encB ((is.take k).map IV.x)) := by
          unfold Hid; rw [HT.out]; unfold encIn; rw [if_neg hkd]; simp
        have hke : ((kd i.x.op).2 == 0) = false := by simpa using hkd
        clear hkd
        generalize i.x.l.length = lq at *
        go_wp2_with (go_at_call 53; refine (kind_any i.x.op _).mono ?_; unfold pr; rintro e w' ⟨rfl, rfl⟩)
        refine ⟨⟨k + 1, by omega, by go_num, by have := HW.out.2.2.2.size; omega, by rw [HKD.out]; exact HW.out.1, HW.out.2.2.2⟩, ?_⟩
        simp [intOf]; omega
    · obtain rfl : k = q := by omega
      go_wp2
      go_ret
      refine ⟨_, rfl, ?_, HX.out.2⟩
      have := HX.out.1
      rwa [List.take_of_length_le (by rw [HQ.out]; omega)] at this
end Go.Proofs.Ytdngkbagfaeplaa

/- asm: which bytes modules have, as plain functions. No function of the program. -/
namespace Go.Proofs.Ytdngkbagfaeplaa
open Go.RowKit
set_option maxRecDepth 100000
set_option linter.unusedVariables false

/-- Their number of bytes, and they. -/
def szB (y : List Int) : List Int := encU y.length ++ y
/-- How many, and each. -/
def cntB (ys : List (List Int)) : List Int := encU ys.length ++ ys.flatten
/-- A section of these parts, nothing if there are none. -/
def lsB (id : Int) (ys : List (List Int)) : List Int := if ys = [] then [] else id :: szB (cntB ys)
def sgB (id : Int) (there : Bool) (v : Int) : List Int := if there then id :: szB (encU v) else []
def tabB (t : TabS) : List Int := t.1 :: putLim t.2
def bitB (b : Bool) : Int := if b then 1 else 0
def globB (g : GlobS) : List Int := g.1 :: bitB g.2.1 :: encB g.2.2
def expB (x : ExpS) : List Int := szB x.1 ++ (x.2.1 :: encU x.2.2)
def elemB (e : ElemS) : List Int :=
  if e.1 = 1 then 5 :: e.2.1 :: cntB (e.2.2.2.2.map encB) else if e.1 = 2 then 7 :: e.2.1 :: cntB (e.2.2.2.2.map encB)
  else if e.2.2.1 = 0 ∧ e.2.1 = 112 then 4 :: (encB e.2.2.2.1 ++ cntB (e.2.2.2.2.map encB))
  else 6 :: (encU e.2.2.1 ++ (encB e.2.2.2.1 ++ (e.2.1 :: cntB (e.2.2.2.2.map encB))))
def codeB (c : CodeS) : List Int := szB (cntB (c.1.map fun t => [1, t]) ++ encB c.2)
def dataB (d : DataS) : List Int := if d.1 = 1 then 1 :: szB d.2.2 else 0 :: (encB d.2.1 ++ szB d.2.2)
/-- A module's bytes. -/
def encMo (M : Mo) : List Int :=
  secFront ++ (lsB 1 (M.types.map putFn) ++ (lsB 3 (M.funcs.map encU) ++ (lsB 4 (M.tables.map tabB) ++ (lsB 5 (M.mems.map putLim) ++ (lsB 6 (M.globals.map globB) ++ (lsB 7 (M.exports.map expB) ++ (sgB 8 M.starts M.start ++ (lsB 9 (M.elems.map elemB) ++ (sgB 12 M.counts M.count ++ (lsB 10 (M.codes.map codeB) ++ lsB 11 (M.datas.map dataB)))))))))))
section
variable {y : List Int} {ys : List (List Int)}
theorem IsBytes.cons {x : Int} (h0 : 0 ≤ x) (h1 : x ≤ 255) (h : IsBytes y) : IsBytes (x :: y) := (IsBytes.one h0 h1).app h
theorem flat_is (h : ∀ y ∈ ys, IsBytes y) : IsBytes ys.flatten := fun z hz => by
  obtain ⟨y, hy, hzy⟩ := List.mem_flatten.1 hz
  exact h y hy z hzy
theorem szB_is (h : IsBytes y) (hl : y.length ≤ 1000000000) : IsBytes (szB y) := (encU_is _ (by omega) (by omega)).app h
theorem cntB_is (h : ∀ y ∈ ys, IsBytes y) (hl : ys.length ≤ 1000000000) : IsBytes (cntB ys) := (encU_is _ (by omega) (by omega)).app (flat_is h)
theorem szB_len : (szB y).length ≤ 10 + y.length := by unfold szB; rw [List.length_append]; have := (encU_len y.length).2; omega
theorem szB_ge : y.length ≤ (szB y).length := by unfold szB; rw [List.length_append]; omega
theorem cntB_len : (cntB ys).length ≤ 10 + ys.flatten.length := by unfold cntB; rw [List.length_append]; have := (encU_len ys.length).2; omega
theorem cntB_ge : ys.flatten.length ≤ (cntB ys).length := by unfold cntB; rw [List.length_append]; omega
theorem flat_mem (h : y ∈ ys) : y.length ≤ ys.flatten.length := by
  induction ys with
  | nil => cases h
  | cons x xs ih =>
    rw [List.flatten_cons, List.length_append]
    rcases List.mem_cons.1 h with rfl | h
    · omega
    · have := ih h; omega
theorem flat_takeL (k : Nat) : (ys.take k).flatten.length ≤ ys.flatten.length := by
  conv => rhs; rw [← List.take_append_drop k ys]
  rw [List.flatten_append, List.length_append]; omega
end
theorem lim_is {l : Lim} (h : l.Ok) : IsBytes (putLim l) := by
  obtain ⟨mn, mx, has⟩ := l
  obtain ⟨⟨a0, a1⟩, b0, b1⟩ := h
  simp only [] at a0 a1 b0 b1
  unfold putLim
  cases has
  · exact .cons (by omega) (by omega) (encU_is mn a0 (by omega))
  · exact .cons (by omega) (by omega) ((encU_is mn a0 (by omega)).app (encU_is mx b0 (by omega)))
theorem bit_rng (b : Bool) : 0 ≤ bitB b ∧ bitB b ≤ 255 := by cases b <;> simp [bitB]
end Go.Proofs.Ytdngkbagfaeplaa

/- Lists of elements of whatever kind in memory. No function of the program. -/
namespace Go.Proofs.Ytdngkbagfaeplaa
open Go.RowKit
set_option maxRecDepth 100000
set_option linter.unusedVariables false

/-- A kind of elements: their cells, and what is to hold of them (their memory in blocks of X). -/
structure El (α : Type) where
  n : Nat
  cells : α → List Value
  ok : (Nat → Prop) → World → α → Prop
  pos : 0 < n
  len : ∀ a, (cells a).length = n
  one : ∀ a, ∀ u ∈ cells a, u.oneCell' = true
  chg : ∀ {X S : Nat → Prop} {w w' : World} {a : α}, ok X w a → Chg S w w' → (∀ k, k < w.heap.size → X k → ¬ S k) → ok X w' a
  mono : ∀ {X Y : Nat → Prop} {w : World} {a : α}, ok X w a → (∀ k, k < w.heap.size → X k → Y k) → ok Y w a
section
variable {α : Type}
def flatE (K : El α) : List α → List Value
  | [] => []
  | x :: xs => K.cells x ++ flatE K xs
theorem flatE_app (K : El α) (a b : List α) : flatE K (a ++ b) = flatE K a ++ flatE K b := by
  induction a with
  | nil => rfl
  | cons i a ih => simp [flatE, ih]
theorem flatE_len (K : El α) (a : List α) : (flatE K a).length = a.length * K.n := by
  induction a with
  | nil => simp [flatE]
  | cons i a ih => rw [flatE, List.length_append, ih, K.len, List.length_cons, Nat.add_mul]; omega
theorem flatE_get (K : El α) (a : List α) : ∀ (j : Nat) (i : α), a[j]? = some i → ∀ k, k < K.n → (flatE K a)[j * K.n + k]? = (K.cells i)[k]? := by
  induction a with
  | nil => intro j i h; simp at h
  | cons y a ih =>
    intro j i h k hk
    have hl := K.len y
    cases j with
    | zero =>
      simp at h; subst h
      rw [flatE, List.getElem?_append_left (by omega)]
      congr 1; omega
    | succ j =>
      have e : (j + 1) * K.n = j * K.n + K.n := by rw [Nat.add_mul]; omega
      rw [flatE, List.getElem?_append_right (by omega), hl, show (j + 1) * K.n + k - K.n = j * K.n + k from by omega]
      exact ih j i (by simpa using h) k hk
theorem flatE_one (K : El α) (a : List α) : ∀ u ∈ flatE K a, u.oneCell' = true := by
  induction a with
  | nil => intro u hu; simp [flatE] at hu
  | cons i a ih =>
    intro u hu
    rw [flatE, List.mem_append] at hu
    rcases hu with h | h
    · exact K.one i u h
    · exact ih u h
/-- Elements (of the type e) in a row of the call's own; what they lead to in blocks of X, which has not the row's. -/
def OwnE (K : El α) (e : TypeId) (X : Nat → Prop) (w : World) (base : Nat) (v : Value) (is : List α) : Prop :=
  w.ownsRow base e K.n v is.length (flatE K is) ∧ (∀ i ∈ is, K.ok X w i) ∧ ∀ k, v.ownBlock = some k → ¬ X k
/-- Elements that are read, in blocks of X. -/
def RdE (K : El α) (X : Nat → Prop) (w : World) (v : Value) (is : List α) : Prop :=
  ∃ A c, v = .slice A is.length c ∧ is.length ≤ c ∧ c ≤ maxLen ∧ RdV X w A (flatE K is) ∧ ∀ i ∈ is, K.ok X w i
section
variable {K : El α} {X Y S : Nat → Prop} {w w' : World} {base : Nat} {v : Value} {is : List α} {e : TypeId} {i : α}
theorem El.later (K : El α) (h : K.ok X w i) (hb : Below w.heap.size w w') : K.ok X w' i := K.chg h (S := fun _ => False) (Chg.of_below hb) fun _ _ _ => id
theorem OwnE.nil (K : El α) (e : TypeId) (X : Nat → Prop) (w : World) (base : Nat) : OwnE K e X w base (.slice none 0 0) [] := ⟨World.ownsRow_nil w base _ _, fun i hi => by simp at hi, fun k hk => by simp [Value.ownBlock] at hk⟩
theorem OwnE.chg (h : OwnE K e X w base v is) (hc : Chg S w w') (hs : ∀ k, k < w.heap.size → X k → ¬ S k) (hv : ∀ k, v.ownBlock = some k → ¬ S k) : OwnE K e X w' base v is :=
  ⟨owns_chg h.1 hc hv, fun i hi => K.chg (h.2.1 i hi) hc hs, h.2.2⟩
theorem OwnE.later (h : OwnE K e X w base v is) (hb : Below w.heap.size w w') : OwnE K e X w' base v is := h.chg (S := fun _ => False) (Chg.of_below hb) (fun _ _ _ => id) fun _ _ => id
theorem OwnE.mono (h : OwnE K e X w base v is) (hx : ∀ k, k < w.heap.size → X k → Y k) (hv : ∀ k, v.ownBlock = some k → ¬ Y k) : OwnE K e Y w base v is := ⟨h.1, fun i hi => K.mono (h.2.1 i hi) hx, hv⟩
theorem OwnE.rd (h : OwnE K e X w base v is) : RdE K (fun k => X k ∨ v.ownBlock = some k) w v is := by
  obtain ⟨A, c, hv, hn, hm, hr⟩ := RdV.of_own h.1
  exact ⟨A, c, hv, hn, hm, hr.mono fun k _ e => .inr e, fun i hi => K.mono (h.2.1 i hi) fun k _ e => .inl e⟩
theorem RdE.mono (h : RdE K X w v is) (hx : ∀ k, k < w.heap.size → X k → Y k) : RdE K Y w v is := by
  obtain ⟨A, c, h1, h2, h3, h4, h5⟩ := h
  exact ⟨A, c, h1, h2, h3, h4.mono hx, fun i hi => K.mono (h5 i hi) hx⟩
theorem RdE.chg (h : RdE K X w v is) (hc : Chg S w w') (hs : ∀ k, k < w.heap.size → X k → ¬ S k) : RdE K X w' v is := by
  obtain ⟨A, c, h1, h2, h3, h4, h5⟩ := h
  exact ⟨A, c, h1, h2, h3, h4.chg hc hs, fun i hi => K.chg (h5 i hi) hc hs⟩
theorem RdE.later (h : RdE K X w v is) (hb : Below w.heap.size w w') : RdE K X w' v is := h.chg (S := fun _ => False) (Chg.of_below hb) fun _ _ _ => id
theorem RdE.nil (K : El α) (X : Nat → Prop) (w : World) : RdE K X w (.slice none 0 0) [] := ⟨none, 0, rfl, Nat.le_refl _, Nat.zero_le _, RdV.nil _ _ _, fun i hi => by simp at hi⟩
theorem RdE.form (h : RdE K X w v is) : ∃ A c, v = .slice A is.length c ∧ is.length ≤ c ∧ c ≤ maxLen := by
  obtain ⟨A, c, h1, h2, h3, -, -⟩ := h; exact ⟨A, c, h1, h2, h3⟩
/-- One element, where the walk wants it. -/
theorem RdE.at_ {A : Option Addr} {c n : Nat} (h : RdE K X w (.slice A n c) is) {j : Nat} {i : α} (hj : is[j]? = some i) : ∃ b o, A = some ⟨b, o, none⟩ ∧ X b ∧ b < w.heap.size ∧ K.ok X w i ∧ ∀ k u, (K.cells i)[k]? = some u → w.cell? ⟨b, o + j * K.n + k, none⟩ = some u := by
  obtain ⟨A', c', h1, h2, h3, h4, h5⟩ := h
  injection h1 with e1 e2 e3
  subst e1
  have hlt : j < is.length := (List.getElem?_eq_some_iff.1 hj).1
  have hp := K.pos
  obtain ⟨b, o, rfl, hX, hb, hc⟩ := h4.spot (by rw [flatE_len]; exact Nat.mul_pos (by omega) hp)
  refine ⟨b, o, rfl, hX, hb, h5 i (List.mem_of_getElem? hj), fun k u hu => ?_⟩
  have hk : k < K.n := by rw [← K.len i]; exact (List.getElem?_eq_some_iff.1 hu).1
  rw [Nat.add_assoc]
  exact hc _ _ (by rw [flatE_get K is j i hj k hk]; exact hu)
end
/-- The block that was just built for one element. -/
theorem rdV_one (K : El α) (w : World) (e : TypeId) (i : α) (cs : Array Value) (hcs : cs.toList = K.cells i) : RdV (fun k => k = w.heap.size) (w.alloc (.cells cs e)) (some ⟨w.heap.size, 0, none⟩) (flatE K [i]) := fun j u hu => by
  refine ⟨_, rfl, rfl, ?_⟩
  have h := (Own.new w e (K.cells i)).cell j
  rw [← hcs] at h
  rw [addPlain, Nat.zero_add, h, hcs]
  simpa [flatE] using hu
/-- append(s, x...), of elements. -/
theorem wpList_appE {K : El α} {X Y : Nat → Prop} {t e : TypeId} {z : Value} {by' : Nat} (hu : Try.prog.underlying t = some (.slice e)) (hinf : (Try.prog.info? e).map (fun i => (i.zero, i.size, i.bytes)) = some (some z, K.n, by')) (hz : z.cells.size = K.n) (hby : by' ≤ 100)
    {ops : Array Oper} {rest : List Oper} {o : Oper} {a : Act} {Q : Exit → Act → World → Prop} {w : World} (hgd : o.guard = none) (s x : Operand)
    (ho : o.op = .call { callee := .builtin .append, args := #[s, x], argTypes := #[t, t] }) (base : Nat) (v : Value) (is : List α) (hs : a.eval s = v) (hown : OwnE K e X w base v is)
    (A : Option Addr) (m c : Nat) (js : List α) (hx : a.eval x = .slice A m c) (hm : m = js.length) (hr : RdV Y w A (flatE K js)) (hj : ∀ i ∈ js, K.ok X w i) (hlen : is.length + m ≤ 1000000000) (hbase : base ≤ w.heap.size)
    (h : ∀ v' w', OwnE K e (fun k => X k ∧ k < w.heap.size) w' base v' (is ++ js) → Grew v w v' w' → wpList Try.prog ops Q rest (a.put o.dst v') w') : wpList Try.prog ops Q (o :: rest) a w := by
  subst hm
  have hb2 : (is.length + js.length) * by' ≤ 140737488355328 := Nat.le_trans (Nat.mul_le_mul hlen hby) (by omega)
  refine wpList_appG hu hinf hz K.pos hgd s x ho base v is.length _ hs hown.1 A js.length c (flatE K js) hx (flatE_len K js) hr (flatE_one K js) (by simp only [maxLen]; omega) hb2 hbase fun v' w' h1 h2 h3 => ?_
  have hg := Grew.of_grown h2 h3
  refine h v' w' ⟨by rw [List.length_append, flatE_app]; exact h1, fun i hi => ?_, fun k hk => ?_⟩ hg
  · have : K.ok X w i := by
      rcases List.mem_append.1 hi with h | h
      · exact hown.2.1 i h
      · exact hj i h
    exact K.chg (K.mono this (Y := fun k => X k ∧ k < w.heap.size) fun k hk hx => ⟨hx, hk⟩) hg.1 fun k _ hk e => hown.2.2 k e hk.1
  · rintro ⟨k1, k2⟩
    rcases hg.2 k hk with e | e
    · exact hown.2.2 k e k1
    · omega
/-- append(s, x): one element more, out of the block that was just built for it. -/
theorem wpList_appE1 {K : El α} {X : Nat → Prop} {t e : TypeId} {z : Value} {by' : Nat} (hu : Try.prog.underlying t = some (.slice e)) (hinf : (Try.prog.info? e).map (fun i => (i.zero, i.size, i.bytes)) = some (some z, K.n, by')) (hz : z.cells.size = K.n) (hby : by' ≤ 100)
    {ops : Array Oper} {rest : List Oper} {o : Oper} {a : Act} {Q : Exit → Act → World → Prop} {w : World} (hgd : o.guard = none) (s x : Operand)
    (ho : o.op = .call { callee := .builtin .append, args := #[s, x], argTypes := #[t, t] }) (base : Nat) (v : Value) (is : List α) (hs : a.eval s = v) (hown : OwnE K e X w base v is)
    (i : α) (cs : Array Value) (hcs : cs.toList = K.cells i) (hi : K.ok X w i) (hx : a.eval x = .slice (some ⟨w.heap.size, 0, none⟩) 1 1) (hlen : is.length + 1 ≤ 1000000000) (hbase : base ≤ w.heap.size)
    (h : ∀ v' w', OwnE K e (fun k => X k ∧ k < w.heap.size) w' base v' (is ++ [i]) → Grew v w v' w' → wpList Try.prog ops Q rest (a.put o.dst v') w') :
    wpList Try.prog ops Q (o :: rest) a (w.alloc (.cells cs e)) := by
  have hb : Below w.heap.size w (w.alloc (.cells cs e)) := (Below.refl _ _).alloc (Nat.le_refl _) _
  have hX : ∀ k, k < w.heap.size → X k → (X k ∧ k < w.heap.size) := fun k hk hx => ⟨hx, hk⟩
  have hown2 : OwnE K e (fun k => X k ∧ k < w.heap.size) w base v is := hown.mono hX fun k hk e => hown.2.2 k hk e.1
  refine wpList_appE hu hinf hz hby hgd s x ho base v is hs (hown2.later hb) _ 1 1 [i] hx rfl (rdV_one K w e i cs hcs) (fun j hj => ?_) hlen (by simp; omega) fun v' w' h1 h2 => h v' w' (h1.mono (fun k _ hk => hk.1) fun k hk e => ?_) (h2.before hb fun k hk => owns_lt hown.1 hk)
  · simp only [List.mem_singleton] at hj; subst hj; exact K.later (K.mono hi hX) hb
  · exact h1.2.2 k hk ⟨e, by simp; omega⟩
end
end Go.Proofs.Ytdngkbagfaeplaa

/- Modules in memory. No function of the program. -/
namespace Go.Proofs.Ytdngkbagfaeplaa
open Go.RowKit
set_option maxRecDepth 100000
set_option linter.unusedVariables false

/-- A number of 32 bits. -/
def K32 : El Int where
  n := 1
  cells z := [.int .u32 z]
  ok _ _ z := 0 ≤ z ∧ z < 4294967296
  pos := by omega
  len _ := rfl
  one a u hu := by simp at hu; subst hu; rfl
  chg h _ _ := h
  mono h _ := h
/-- A function's type, and where it lies. -/
structure FV where
  ps : List Int
  pA : Option Addr
  pc : Nat
  rs : List Int
  rA : Option Addr
  rc : Nat
def FV.x (f : FV) : Fn := (f.ps, f.rs)
def KFn : El FV where
  n := 2
  cells f := [.slice f.pA f.ps.length f.pc, .slice f.rA f.rs.length f.rc]
  ok X w f := RdX X w f.pA f.ps ∧ f.ps.length ≤ f.pc ∧ f.pc ≤ maxLen ∧ RdX X w f.rA f.rs ∧ f.rs.length ≤ f.rc ∧ f.rc ≤ maxLen
  pos := by omega
  len _ := rfl
  one a u hu := by simp at hu; rcases hu with rfl | rfl <;> rfl
  chg h hc hs := ⟨h.1.chg hc hs, h.2.1, h.2.2.1, h.2.2.2.1.chg hc hs, h.2.2.2.2⟩
  mono h hx := ⟨h.1.mono hx, h.2.1, h.2.2.1, h.2.2.2.1.mono hx, h.2.2.2.2⟩
/-- Limits that stand in 32 bits. -/
def Lim.In (l : Lim) : Prop := 0 ≤ l.min ∧ l.min < 4294967296 ∧ 0 ≤ l.max ∧ l.max < 4294967296
def KLim : El Lim where
  n := 3
  cells l := [.int .u32 l.min, .int .u32 l.max, .bool l.has]
  ok _ _ l := l.In
  pos := by omega
  len _ := rfl
  one a u hu := by simp at hu; rcases hu with rfl | rfl | rfl <;> rfl
  chg h _ _ := h
  mono h _ := h
def KTab : El TabS where
  n := 4
  cells t := [.int .u8 t.1, .int .u32 t.2.min, .int .u32 t.2.max, .bool t.2.has]
  ok _ _ t := 0 ≤ t.1 ∧ t.1 ≤ 255 ∧ t.2.In
  pos := by omega
  len _ := rfl
  one a u hu := by simp at hu; rcases hu with rfl | rfl | rfl | rfl <;> rfl
  chg h _ _ := h
  mono h _ := h
/-- Instructions, and where they lie. -/
structure BV where
  is : List IV
  A : Option Addr
  c : Nat
def BV.v (b : BV) : Value := .slice b.A b.is.length b.c
def BV.x (b : BV) : List Ins := b.is.map IV.x
def BV.ok (X : Nat → Prop) (w : World) (b : BV) : Prop := b.is.length ≤ b.c ∧ b.c ≤ maxLen ∧ RdV X w b.A (flat b.is) ∧ (∀ i ∈ b.is, LabX X w i.x i.A i.c ∧ InsOk i.x) ∧ b.is.length ≤ 600
def bv0 : BV := ⟨[], none, 0⟩
section
variable {X Y S : Nat → Prop} {w w' : World} {b : BV}
theorem BV.ok0 (X : Nat → Prop) (w : World) : BV.ok X w bv0 := ⟨Nat.le_refl _, Nat.zero_le _, RdV.nil _ _ _, fun i hi => by simp [bv0] at hi, by simp [bv0]⟩
theorem BV.ok.chg (h : BV.ok X w b) (hc : Chg S w w') (hs : ∀ k, k < w.heap.size → X k → ¬ S k) : BV.ok X w' b := ⟨h.1, h.2.1, h.2.2.1.chg hc hs, fun i hi => ⟨(h.2.2.2.1 i hi).1.chg hc hs, (h.2.2.2.1 i hi).2⟩, h.2.2.2.2⟩
theorem BV.ok.mono (h : BV.ok X w b) (hx : ∀ k, k < w.heap.size → X k → Y k) : BV.ok Y w b := ⟨h.1, h.2.1, h.2.2.1.mono hx, fun i hi => ⟨(h.2.2.2.1 i hi).1.mono hx, (h.2.2.2.1 i hi).2⟩, h.2.2.2.2⟩
theorem BV.ok.later (h : BV.ok X w b) (hb : Below w.heap.size w w') : BV.ok X w' b := h.chg (S := fun _ => False) (Chg.of_below hb) fun _ _ _ => id
theorem BV.ok.rd (h : BV.ok X w b) : RdN X w b.v b.is := ⟨b.A, b.c, rfl, h.1, h.2.1, h.2.2.1, h.2.2.2.1⟩
theorem BV.of_own {base : Nat} {v : Value} {is : List IV} (h : OwnN X w base v is) (hl : is.length ≤ 600) : ∃ b : BV, v = b.v ∧ b.is = is ∧ BV.ok (fun k => X k ∨ v.ownBlock = some k) w b := by
  obtain ⟨A, c, h1, h2, h3, h4, h5⟩ := h.rd
  exact ⟨⟨is, A, c⟩, h1, rfl, h2, h3, h4, h5, hl⟩
end
def KB : El BV where
  n := 1
  cells b := [b.v]
  ok := BV.ok
  pos := by omega
  len _ := rfl
  one a u hu := by simp at hu; subst hu; rfl
  chg h hc hs := h.chg hc hs
  mono h hx := h.mono hx
/-- A global. -/
structure GV where
  ty : Int
  mu : Bool
  b : BV
def GV.x (g : GV) : GlobS := (g.ty, g.mu, g.b.x)
def KGl : El GV where
  n := 3
  cells g := [.int .u8 g.ty, .bool g.mu, g.b.v]
  ok X w g := 0 ≤ g.ty ∧ g.ty ≤ 255 ∧ g.b.ok X w
  pos := by omega
  len _ := rfl
  one a u hu := by simp at hu; rcases hu with rfl | rfl | rfl <;> rfl
  chg h hc hs := ⟨h.1, h.2.1, h.2.2.chg hc hs⟩
  mono h hx := ⟨h.1, h.2.1, h.2.2.mono hx⟩
def KEx : El ExpS where
  n := 3
  cells x := [.string (strOfNums x.1), .int .u8 x.2.1, .int .u32 x.2.2]
  ok _ _ x := IsBytes x.1 ∧ x.1.length ≤ 1000000 ∧ 0 ≤ x.2.1 ∧ x.2.1 ≤ 255 ∧ 0 ≤ x.2.2 ∧ x.2.2 < 4294967296
  pos := by omega
  len _ := rfl
  one a u hu := by simp at hu; rcases hu with rfl | rfl | rfl <;> rfl
  chg h _ _ := h
  mono h _ := h
/-- A segment of elements. -/
structure EV where
  mode : Int
  ty : Int
  tb : Int
  off : BV
  is : List BV
  iA : Option Addr
  ic : Nat
def EV.iv (e : EV) : Value := .slice e.iA e.is.length e.ic
def EV.x (e : EV) : ElemS := (e.mode, e.ty, e.tb, e.off.x, e.is.map BV.x)
def KElm : El EV where
  n := 5
  cells e := [.int .u8 e.mode, .int .u8 e.ty, .int .u32 e.tb, e.off.v, e.iv]
  ok X w e := (0 ≤ e.mode ∧ e.mode ≤ 255 ∧ 0 ≤ e.ty ∧ e.ty ≤ 255 ∧ 0 ≤ e.tb ∧ e.tb < 4294967296) ∧ e.off.ok X w ∧ RdE KB X w e.iv e.is ∧ e.is.length ≤ 64
  pos := by omega
  len _ := rfl
  one a u hu := by simp at hu; rcases hu with rfl | rfl | rfl | rfl | rfl <;> rfl
  chg h hc hs := ⟨h.1, h.2.1.chg hc hs, h.2.2.1.chg hc hs, h.2.2.2⟩
  mono h hx := ⟨h.1, h.2.1.mono hx, h.2.2.1.mono hx, h.2.2.2⟩
/-- A code. -/
structure CV where
  ls : List Int
  lA : Option Addr
  lc : Nat
  b : BV
def CV.x (c : CV) : CodeS := (c.ls, c.b.x)
def KCd : El CV where
  n := 2
  cells c := [.slice c.lA c.ls.length c.lc, c.b.v]
  ok X w c := RdX X w c.lA c.ls ∧ c.ls.length ≤ c.lc ∧ c.lc ≤ maxLen ∧ c.ls.length ≤ 64 ∧ c.b.ok X w
  pos := by omega
  len _ := rfl
  one a u hu := by simp at hu; rcases hu with rfl | rfl <;> rfl
  chg h hc hs := ⟨h.1.chg hc hs, h.2.1, h.2.2.1, h.2.2.2.1, h.2.2.2.2.chg hc hs⟩
  mono h hx := ⟨h.1.mono hx, h.2.1, h.2.2.1, h.2.2.2.1, h.2.2.2.2.mono hx⟩
/-- A segment of bytes. -/
structure DV where
  mode : Int
  off : BV
  ys : List Int
  yA : Option Addr
  yc : Nat
def DV.x (d : DV) : DataS := (d.mode, d.off.x, d.ys)
def KDt : El DV where
  n := 3
  cells d := [.int .u8 d.mode, d.off.v, .slice d.yA d.ys.length d.yc]
  ok X w d := (0 ≤ d.mode ∧ d.mode ≤ 255) ∧ d.off.ok X w ∧ RdX X w d.yA d.ys ∧ d.ys.length ≤ d.yc ∧ d.yc ≤ maxLen ∧ d.ys.length ≤ 1000000
  pos := by omega
  len _ := rfl
  one a u hu := by simp at hu; rcases hu with rfl | rfl | rfl <;> rfl
  chg h hc hs := ⟨h.1, h.2.1.chg hc hs, h.2.2.1.chg hc hs, h.2.2.2⟩
  mono h hx := ⟨h.1, h.2.1.mono hx, h.2.2.1.mono hx, h.2.2.2⟩
/-- A list in a field: the value, and what it holds. -/
structure LV (α : Type) where
  A : Option Addr
  c : Nat
  l : List α
def LV.v {α : Type} (x : LV α) : Value := .slice x.A x.l.length x.c
def lv0 (α : Type) : LV α := ⟨none, 0, []⟩
/-- A module as it lies. -/
structure MV where
  t : LV FV
  f : LV Int
  b : LV TabS
  m : LV Lim
  g : LV GV
  x : LV ExpS
  s : Bool
  sn : Int
  e : LV EV
  k : Bool
  kn : Int
  c : LV CV
  d : LV DV
def MV.cells (m : MV) : List Value := [m.t.v, m.f.v, m.b.v, m.m.v, m.g.v, m.x.v, .bool m.s, .int .u32 m.sn, m.e.v, .bool m.k, .int .u32 m.kn, m.c.v, m.d.v]
def mv0 : MV := ⟨lv0 _, lv0 _, lv0 _, lv0 _, lv0 _, lv0 _, false, 0, lv0 _, false, 0, lv0 _, lv0 _⟩
def MV.mo (m : MV) : Mo := ⟨m.t.l.map FV.x, m.f.l, m.b.l, m.m.l, m.g.l.map GV.x, m.x.l, m.s, m.sn, m.e.l.map EV.x, m.k, m.kn, m.c.l.map CV.x, m.d.l.map DV.x⟩
structure MV.ok (X : Nat → Prop) (w : World) (M : MV) : Prop where
  t : RdE KFn X w M.t.v M.t.l
  f : RdE K32 X w M.f.v M.f.l
  b : RdE KTab X w M.b.v M.b.l
  m : RdE KLim X w M.m.v M.m.l
  g : RdE KGl X w M.g.v M.g.l
  x : RdE KEx X w M.x.v M.x.l
  sn : 0 ≤ M.sn ∧ M.sn < 4294967296
  e : RdE KElm X w M.e.v M.e.l
  kn : 0 ≤ M.kn ∧ M.kn < 4294967296
  c : RdE KCd X w M.c.v M.c.l
  d : RdE KDt X w M.d.v M.d.l
theorem MV.ok0 (X : Nat → Prop) (w : World) : MV.ok X w mv0 := ⟨RdE.nil _ _ _, RdE.nil _ _ _, RdE.nil _ _ _, RdE.nil _ _ _, RdE.nil _ _ _, RdE.nil _ _ _, by simp [mv0], RdE.nil _ _ _, by simp [mv0], RdE.nil _ _ _, RdE.nil _ _ _⟩
theorem MV.ok.chg {X S : Nat → Prop} {w w' : World} {m : MV} (h : MV.ok X w m) (hc : Chg S w w') (hs : ∀ k, k < w.heap.size → X k → ¬ S k) : MV.ok X w' m :=
  ⟨h.t.chg hc hs, h.f.chg hc hs, h.b.chg hc hs, h.m.chg hc hs, h.g.chg hc hs, h.x.chg hc hs, h.sn, h.e.chg hc hs, h.kn, h.c.chg hc hs, h.d.chg hc hs⟩
theorem MV.ok.mono {X Y : Nat → Prop} {w : World} {m : MV} (h : MV.ok X w m) (hx : ∀ k, k < w.heap.size → X k → Y k) : MV.ok Y w m :=
  ⟨h.t.mono hx, h.f.mono hx, h.b.mono hx, h.m.mono hx, h.g.mono hx, h.x.mono hx, h.sn, h.e.mono hx, h.kn, h.c.mono hx, h.d.mono hx⟩
theorem RdE.lv {α : Type} {K : El α} {X : Nat → Prop} {w : World} {v : Value} {is : List α} (h : RdE K X w v is) : ∃ x : LV α, v = x.v ∧ x.l = is ∧ RdE K X w x.v x.l := by
  obtain ⟨A, c, h1, h2, h3⟩ := h.form
  subst h1
  exact ⟨⟨A, c, is⟩, rfl, rfl, h⟩
/-- A list that was made: its row, and what the elements lead to, in new blocks. -/
theorem OwnE.made {α : Type} {K : El α} {e : TypeId} {w0 w : World} {v : Value} {is : List α} (h : OwnE K e (fun k => w0.heap.size ≤ k ∧ v.ownBlock ≠ some k) w w0.heap.size v is) : ∃ x : LV α, v = x.v ∧ x.l = is ∧ RdE K (fun k => w0.heap.size ≤ k) w x.v x.l := by
  refine (h.rd.mono fun k _ hk => ?_).lv
  rcases hk with hk | hk
  · exact hk.1
  · exact owns_ge h.1 hk
end Go.Proofs.Ytdngkbagfaeplaa

/- types.PutFunc and types.PutLimits: which bytes types have. -/
namespace Go.Proofs.Ytdngkbagfaeplaa
open Go.RowKit
set_option maxRecDepth 100000
set_option linter.unusedVariables false

set_option maxHeartbeats 16000000 in
theorem put_fn {X : Nat → Prop} (A0 : Option Addr) (bs : List Int) (n0 c0 : Nat) (v : Value) (f : Fn) (w : World) (h0 : Rd w w.heap.size A0 bs) (hn0 : n0 = bs.length) (hc0 : n0 ≤ c0) (hcm : c0 ≤ maxLen) (hl0 : n0 ≤ 1000000) (hf : FnV X w v f) (hl1 : f.1.length ≤ 1000000) (hl2 : f.2.length ≤ 1000000) :
    Calls Try.prog 30 #[.slice A0 n0 c0, v] w (WPost (bs ++ putFn f) w) := by
  obtain ⟨A1, c1, A2, c2, rfl, hr1, hq1, hm1, hr2, hq2, hm2⟩ := hf
  have S0 : Hid (SlV w (.slice A0 n0 c0) bs) := ⟨A0, c0, by rw [hn0], by omega, hcm, h0.rx.mono fun _ _ _ => trivial⟩
  have S3 : Hid (SlV w (.slice A1 f.1.length c1) f.1) := ⟨A1, c1, rfl, hq1, hm1, hr1.mono fun _ _ _ => trivial⟩
  have S5 : Hid (SlV w (.slice A2 f.2.length c2) f.2) := ⟨A2, c2, rfl, hq2, hm2, hr2.mono fun _ _ _ => trivial⟩
  have hk1 : f.1.length ≤ maxLen := by omega
  have hk2 : f.2.length ≤ maxLen := by omega
  have I1 := Lib.hid (encU_is f.1.length (by omega) (by omega))
  have I2 := Lib.hid (encU_is f.2.length (by omega) (by omega))
  have C1 := Lib.hid (fun W => count_any A1 f.1.length c1 W hk1)
  have C2 := Lib.hid (fun W => count_any A2 f.2.length c2 W hk2)
  have HLN : Hid ((bs ++ ([96] ++ (encU f.1.length ++ (f.1 ++ (encU f.2.length ++ f.2))))).length ≤ 100000000) := by
    have h1 := (encU_len f.1.length).2
    have h2 := (encU_len f.2.length).2
    unfold Hid
    simp only [List.length_append, List.length_cons, List.length_nil]
    omega
  have EQ : Hid (bs ++ ([96] ++ (encU f.1.length ++ (f.1 ++ (encU f.2.length ++ f.2)))) = bs ++ putFn f) := by
    unfold Hid putFn
    simp only [List.cons_append, List.nil_append]
  have KS0 : Hid (∀ W : World, Below (w.alloc (.cells #[.slice A1 f.1.length c1, .slice A2 f.2.length c2] 53)).heap.size (w.alloc (.cells #[.slice A1 f.1.length c1, .slice A2 f.2.length c2] 53)) W → W.cell? ⟨w.heap.size, 0, none⟩ = some (.slice A1 f.1.length c1) ∧ W.cell? ⟨w.heap.size, 1, none⟩ = some (.slice A2 f.2.length c2)) := fun W hW => by
    have ho := (Own.new w 53 [.slice A1 f.1.length c1, .slice A2 f.2.length c2]).later hW
    exact ⟨ho.cell 0, ho.cell 1⟩
  have hb1 : Below w.heap.size w (w.alloc (.cells #[.slice A1 f.1.length c1, .slice A2 f.2.length c2] 53)) := (Below.refl _ _).alloc (Nat.le_refl _) _
  have HB1 := Lib.hid hb1
  clear hr1 hr2 hq1 hm1 hq2 hm2 h0 hn0 hk1 hk2 hb1
  generalize hg1 : f.1.length = l1 at *
  generalize hg2 : f.2.length = l2 at *
  have HG := Lib.hid (And.intro hg1 hg2)
  clear hg1 hg2
  go_enter Try.func30, Try.ntmps30
  go_wp2_with fail
  have KS := KS0
  clear KS0
  generalize w.alloc (.cells #[.slice A1 l1 c1, .slice A2 l2 c2] 53) = w1 at *
  have S0 := Lib.hid (S0.out.later HB1.out)
  have S3 := Lib.hid (S3.out.later HB1.out)
  have S5 := Lib.hid (S5.out.later HB1.out)
  have HD : Hid (Below w1.heap.size w1 w1.drew) := (Below.refl _ _).drew
  have HDa : Hid (Below w1.heap.size w1 (w1.alloc (.cells #[.int .u8 96] 5)).drew) := ((Below.refl _ _).alloc (Nat.le_refl _) _).drew
  have HLa : Hid (SlV (w1.alloc (.cells #[.int .u8 96] 5)).drew (.slice (some ⟨w1.heap.size, 0, none⟩) 1 1) [96]) := (SlV.lit w1 [96] (IsBytes.one (by omega) (by omega)) (by simp [maxLen])).later (Below.refl _ _).drew
  have HLb : Hid (∀ W : World, SlV (W.alloc (.cells #[.int .u8 96] 5)) (.slice (some ⟨W.heap.size, 0, none⟩) 1 1) [96] ∧ Below W.heap.size W (W.alloc (.cells #[.int .u8 96] 5))) := fun W => ⟨SlV.lit W [96] (IsBytes.one (by omega) (by omega)) (by simp [maxLen]), (Below.refl _ _).alloc (Nat.le_refl _) _⟩
  have BA : Hid (∀ (W : World) (o : Obj), Below w1.heap.size w1 W → Below w1.heap.size w1 (W.alloc o)) := fun W o h => h.alloc h.size o
  go_region_held (fun (w' : World) => w'.cell? ⟨w.heap.size, 0, none⟩ = some (.slice A1 l1 c1) ∧ w'.cell? ⟨w.heap.size, 1, none⟩ = some (.slice A2 l2 c2)) (exact KS.out _ (by first | exact HB4.out | exact HB3.out | exact BA.out _ _ HB3.out | exact BA.out _ _ (BA.out _ _ HB3.out) | exact HB2.out | exact BA.out _ _ HB2.out | exact HD.out | exact HDa.out))
    (first
      | (go_at_call 7; have hL := HLa.out.later (HR2.out.trans (HR3.out.mono HR2.out.size)); refine (concat6_any w3 w3.heap.size rfl (.slice A0 n0 c0) (.slice (some ⟨w1.heap.size, 0, none⟩) 1 1) (.slice B2 q2 d2) (.slice A1 l1 c1) (.slice B3 q3 d3) (.slice A2 l2 c2) bs [96] (encU l1) f.1 (encU l2) f.2 (S0.out.later HB3.out) hL (HS2.out.later HB23.out) (S3.out.later HB3.out) HS3.out (S5.out.later HB3.out) HLN.out).mono ?_; rintro e w4 ⟨u4, rfl, ho4, hb4⟩; have HB4 := Lib.hid (HB3.out.trans (hb4.mono HB3.out.size)); have HO4 := Lib.hid (And.intro ho4 hb4); clear ho4 hb4 hL)
      | (go_at_call 7; have hL := (HLb.out w2).1.later HR3.out; refine (concat6_any w3 w3.heap.size rfl (.slice A0 n0 c0) (.slice (some ⟨w2.heap.size, 0, none⟩) 1 1) (.slice B2 q2 d2) (.slice A1 l1 c1) (.slice B3 q3 d3) (.slice A2 l2 c2) bs [96] (encU l1) f.1 (encU l2) f.2 (S0.out.later HB3.out) hL (HS2.out.later HB23.out) (S3.out.later HB3.out) HS3.out (S5.out.later HB3.out) HLN.out).mono ?_; rintro e w4 ⟨u4, rfl, ho4, hb4⟩; have HB4 := Lib.hid (HB3.out.trans (hb4.mono HB3.out.size)); have HO4 := Lib.hid (And.intro ho4 hb4); clear ho4 hb4 hL)
      | (go_at_call 7; have hL := HLb.out w3; have hB3 := BA.out _ (.cells #[.int .u8 96] 5) HB3.out; refine (concat6_any (w3.alloc (.cells #[.int .u8 96] 5)) (w3.heap.size + 1) (by simp) (.slice A0 n0 c0) (.slice (some ⟨w3.heap.size, 0, none⟩) 1 1) (.slice B2 q2 d2) (.slice A1 l1 c1) (.slice B3 q3 d3) (.slice A2 l2 c2) bs [96] (encU l1) f.1 (encU l2) f.2 (S0.out.later hB3) hL.1 ((HS2.out.later HB23.out).later hL.2) (S3.out.later hB3) (HS3.out.later hL.2) (S5.out.later hB3) HLN.out).mono ?_; rintro e w4 ⟨u4, rfl, ho4, hb4⟩; have HB4 := Lib.hid (hB3.trans (hb4.mono hB3.size)); have HO4 := Lib.hid (And.intro ho4 hb4); clear ho4 hb4 hL hB3)
      | (go_at_call 49; have hz := HB2.out; refine (C2.out _).mono ?_; rintro e w3 ⟨v3, rfl, ho3, hb3⟩; have HR3 := Lib.hid hb3; have HB23 : Hid (Below w2.heap.size w2 w3) := (by first | exact hb3 | exact (HLb.out w2).2.trans (hb3.mono (HLb.out w2).2.size)); have HB3 := Lib.hid (HB2.out.trans (HB23.out.mono HB2.out.size)); obtain ⟨B3, d3, rfl, -, -, -⟩ := ho3.rdX I2.out; have HS3 := Lib.hid (SlV.own ho3 I2.out); clear ho3 hb3 hz; generalize (encU l2).length = q3 at *)
      | (go_at_call 49; refine (C1.out _).mono ?_; rintro e w2 ⟨v2, rfl, ho2, hb2⟩; have HR2 := Lib.hid hb2; have HB2 : Hid (Below w1.heap.size w1 w2) := (by first | exact HD.out.trans (hb2.mono HD.out.size) | exact HDa.out.trans (hb2.mono HDa.out.size)); obtain ⟨B2, d2, rfl, -, -, -⟩ := ho2.rdX I1.out; have HS2 := Lib.hid (SlV.own ho2 I1.out); clear ho2 hb2; generalize (encU l1).length = q2 at *))
  all_goals go_wp2
  all_goals go_ret
  all_goals exact ⟨_, rfl, by rw [← EQ.out]; exact HO4.out.1.base (by have := HB1.out.size; have := HB3.out.size; first | omega | (simp; omega)), HB1.out.trans (HB4.out.mono HB1.out.size)⟩
end Go.Proofs.Ytdngkbagfaeplaa
