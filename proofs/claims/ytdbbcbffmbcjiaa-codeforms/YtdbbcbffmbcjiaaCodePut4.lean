/- code.Put: which bytes instructions have. -/
import Derived.Test.YtdbbcbffmbcjiaaCodePut3
import Derived.Deep.RegionWith
import Derived.Deep.Cut
namespace Go.Proofs.Ytdbbcbffmbcjiaa
open Go.RowKit
set_option maxRecDepth 100000
set_option linter.unusedVariables false

theorem cputBehind_any (base : Nat) (v : Value) (l : List Int) (x : Ins) (A : Option Addr) (c : Nat) (w : World) (hv : OwnB w base v l) (hI : IsBytes l) (hb : base ≤ w.heap.size) (hl : l.length ≤ 70000000) (hx : LabX (fun k => v.ownBlock ≠ some k) w x A c) (ox : InsOk x) (imm : Int) (h0 : 0 ≤ imm) (h8 : imm ≤ 8) :
    Calls Try.prog 28 #[v, .int .i64 imm, insV x A c] w (GPost base v (l ++ encBh imm x) w) := by
  rcases show imm = 0 ∨ imm = 1 ∨ imm = 2 ∨ imm = 3 ∨ imm = 4 ∨ imm = 5 ∨ imm = 6 ∨ imm = 7 ∨ imm = 8 from by omega with rfl | rfl | rfl | rfl | rfl | rfl | rfl | rfl | rfl
  · exact cpb0 base v l x A c w hv hI hb hx ox
  · exact cpb1 base v l x A c w hv hI hb hl hx ox
  · exact cpb2 base v l x A c w hv hI hb hl hx ox
  · exact cpb3 base v l x A c w hv hI hb hl hx ox
  · exact cpb4 base v l x A c w hv hI hb hl hx ox
  · exact cpb5 base v l x A c w hv hI hb hl hx ox
  · exact cpb6 base v l x A c w hv hI hb hl hx ox
  · exact cpb7 base v l x A c w hv hI hb hl hx ox
  · exact cpb8 base v l x A c w hv hI hb hl hx ox

theorem behind_at {x : Ins} {A : Option Addr} {c lq : Nat} {v : Value} {imm : Int} {w : World} {P : Ending → World → Prop} (h : x.l.length = lq) (hc : Calls Try.prog 28 #[v, .int .i64 imm, insV x A c] w P) :
    Calls Try.prog 28 #[v, .int .i64 imm, .agg #[.int .i64 x.op, .int .u32 x.a, .int .u32 x.b, .int .u64 x.n, .slice A lq c, .int .i64 x.t]] w P := by
  subst h; exact hc
/-- The bytes of an instruction of the profile. -/
def encIn (x : Ins) : List Int := if (kd x.op).2 = 0 then encOp x.op ++ encBh (kd x.op).1 x else []
def encB : List Ins → List Int
  | [] => []
  | x :: t => encIn x ++ encB t
theorem encB_app (a b : List Ins) : encB (a ++ b) = encB a ++ encB b := by
  induction a with
  | nil => rfl
  | cons x t ih => simp [encB, ih]
/-- An instruction whose number is one of 17 bits. -/
def OpOk (x : Ins) : Prop := 0 ≤ x.op ∧ x.op ≤ 1000000
theorem encIn_is (x : Ins) (ho : OpOk x) (hx : InsOk x) : IsBytes (encIn x) ∧ (encIn x).length ≤ 10040 := by
  unfold encIn
  split
  · obtain ⟨h1, h2⟩ := encOp_is x.op ho.1 ho.2
    obtain ⟨h3, h4⟩ := encBh_is (kd x.op).1 x hx
    exact ⟨h1.app h3, by rw [List.length_append]; omega⟩
  · exact ⟨IsBytes.nil, by simp⟩
theorem encB_is (l : List Ins) (h : ∀ x ∈ l, OpOk x ∧ InsOk x) : IsBytes (encB l) ∧ (encB l).length ≤ 10040 * l.length := by
  induction l with
  | nil => exact ⟨IsBytes.nil, by simp [encB]⟩
  | cons x t ih =>
    obtain ⟨h1, h2⟩ := ih fun y hy => h y (by simp [hy])
    obtain ⟨h3, h4⟩ := encIn_is x (h x (by simp)).1 (h x (by simp)).2
    refine ⟨h3.app h1, ?_⟩
    simp only [encB, List.length_append, List.length_cons]
    omega
theorem encB_take {is : List IV} {k : Nat} {i : IV} (h : is[k]? = some i) : encB ((is.take (k + 1)).map IV.x) = encB ((is.take k).map IV.x) ++ encIn i.x := by
  rw [List.take_add_one, h, List.map_append, encB_app]
  simp [encB]
set_option maxHeartbeats 4000000 in
theorem cput_any {X : Nat → Prop} (A : Option Addr) (b : List Int) (n c : Nat) (v : Value) (is : List IV) (w : World) (h : Rd w w.heap.size A b) (hn : n = b.length) (hl : n ≤ 1000000) (hr : RdN X w v is) (hil : is.length ≤ 5000) (hop : ∀ i ∈ is, OpOk i.x) :
    Calls Try.prog 14 #[.slice A n c, v] w fun e w' => ∃ u, e = .returned u ∧ OwnB w' w.heap.size u (b ++ encB (is.map IV.x)) ∧ Below w.heap.size w w' := by
  have HC := Lib.hid (clone_any A b n c w h hn (by omega))
  have HR := Lib.hid hr
  have HIB : Hid (IsBytes b) := h.1
  have HN := Lib.hid hn
  have HOP := Lib.hid hop
  obtain ⟨B, d, rfl, -, -, -, -⟩ := hr
  clear h hn hop
  generalize hq : is.length = q at *
  have HQ := Lib.hid hq
  clear hq
  go_enter Try.func14, Try.ntmps14
  go_wp2_with fail
  refine HC.out.mono ?_
  rintro e w1 ⟨v1, rfl, hv1, hb1⟩
  obtain ⟨A1, c1, rfl, -, -, -⟩ := hv1.rdX HIB.out
  have H1 := Lib.hid (And.intro hv1 hb1)
  have hs1 := hb1.size
  clear hv1 hb1 HC
  generalize hbl : b.length = bl at *
  have HBL := Lib.hid hbl
  clear hbl
  go_wp2
  go_loopw [0, 13] (fun u i wr => ∃ (k : Nat), k ≤ q ∧ i = .int .i64 k ∧ w.heap.size ≤ wr.heap.size ∧ Hid (OwnB wr w.heap.size u (b ++ encB ((is.take k).map IV.x)) ∧ Below w.heap.size w wr)) (fun _ i _ => q - (intOf i).toNat)
  case atStart => exact ⟨0, by omega, rfl, hs1, by simpa [encB] using H1.out.1, H1.out.2⟩
  case round =>
    obtain ⟨k, hk, rfl, hbr, HX⟩ := hrel
    by_cases hlt : k < q
    · have hlt2 : (k : Int) < q := by omega
      have hra := HR.out.later HX.out.2
      have hkl : k < is.length := by rw [HQ.out]; exact hlt
      obtain ⟨i, hi⟩ : ∃ i, is[k]? = some i := ⟨_, List.getElem?_eq_getElem hkl⟩
      have him : i ∈ is := List.mem_of_getElem? hi
      obtain ⟨ba, oa, rfl, -, hba, a0, a1, a2, a3, a4, a5⟩ := hra.at_ hi
      have HI : Hid (LabX (fun k => k < w.heap.size) wr i.x i.A i.c ∧ InsOk i.x ∧ OpOk i.x) := by
        obtain ⟨_, _, _, _, _, _, p5⟩ := HR.out
        exact ⟨((p5 i him).1.mono fun k hk _ => hk).later HX.out.2, (p5 i him).2, HOP.out i him⟩
      have HT := Lib.hid (encB_take hi)
      have HBB : Hid (IsBytes (b ++ encB ((is.take k).map IV.x)) ∧ (b ++ encB ((is.take k).map IV.x)).length ≤ 60000000) := by
        obtain ⟨_, _, _, _, _, _, p5⟩ := HR.out
        obtain ⟨h1, h2⟩ := encB_is ((is.take k).map IV.x) (fun x hx => by
          obtain ⟨j, hj, rfl⟩ := List.mem_map.1 hx
          have hj' := List.mem_of_mem_take hj
          exact ⟨HOP.out j hj', (p5 j hj').2⟩)
        refine ⟨HIB.out.app h1, ?_⟩
        have h3 := HN.out
        have h4 := HBL.out
        rw [List.length_map, List.length_take] at h2
        rw [List.length_append]
        omega
      obtain ⟨Au, cu, hu, -, -, -⟩ := HX.out.1.rdX HBB.out.1
      subst hu
      have HOG := Lib.hid (fun (j : Nat) hj => And.intro (owns_ge (g := j) HX.out.1 hj) (owns_lt (g := j) HX.out.1 hj))
      have HW : Hid (OwnB (wr.alloc (.cells #[.int .i64 i.x.op, .int .u32 i.x.a, .int .u32 i.x.b, .int .u64 i.x.n, .slice i.A i.x.l.length i.c, .int .i64 i.x.t] 43)) w.heap.size (.slice Au (b ++ encB ((is.take k).map IV.x)).length cu) (b ++ encB ((is.take k).map IV.x)) ∧ Own (wr.alloc (.cells #[.int .i64 i.x.op, .int .u32 i.x.a, .int .u32 i.x.b, .int .u64 i.x.n, .slice i.A i.x.l.length i.c, .int .i64 i.x.t] 43)) wr.heap.size 43 (insC i.x i.A i.c) ∧ LabX (fun k => k < w.heap.size) (wr.alloc (.cells #[.int .i64 i.x.op, .int .u32 i.x.a, .int .u32 i.x.b, .int .u64 i.x.n, .slice i.A i.x.l.length i.c, .int .i64 i.x.t] 43)) i.x i.A i.c ∧ Below w.heap.size w (wr.alloc (.cells #[.int .i64 i.x.op, .int .u32 i.x.a, .int .u32 i.x.b, .int .u64 i.x.n, .slice i.A i.x.l.length i.c, .int .i64 i.x.t] 43))) :=
        ⟨HX.out.1.later (below_a wr _), Own.new wr _ _, HI.out.1.later (below_a wr _), HX.out.2.trans ((below_a wr _).mono hbr)⟩
      clear hra hkl hi him
      generalize hql : (b ++ encB ((is.take k).map IV.x)).length = ql at *
      have HQL := Lib.hid hql
      clear hql
      go_upto_region 5 with fail
      clear a0 a1 a2 a3 a4 a5 hba
      generalize wr.alloc (.cells #[.int .i64 i.x.op, .int .u32 i.x.a, .int .u32 i.x.b, .int .u64 i.x.n, .slice i.A i.x.l.length i.c, .int .i64 i.x.t] 43) = W at *
      generalize wr.heap.size = gx at *
      obtain ⟨c0, c1, c2, c3, c4, c5, f0, f1, f2, f3, f4, f5⟩ := own_cells6 HW.out.2.1
      have hgw := HW.out.2.1.lt
      by_cases hkd : (kd i.x.op).2 = 0
      · have HKD : Hid (b ++ encB ((is.take (k + 1)).map IV.x) = b ++ encB ((is.take k).map IV.x) ++ encOp i.x.op ++ encBh (kd i.x.op).1 i.x) := by
          unfold Hid; rw [HT.out]; unfold encIn; rw [if_pos hkd]; simp
        have hkb := kd_imm i.x.op
        have hke : ((kd i.x.op).2 == 0) = true := by simpa using hkd
        have HOPX := Lib.hid HI.out.2.2
        have HPO := Lib.hid (cputOp_any w.heap.size (.slice Au ql cu) (b ++ encB ((is.take k).map IV.x)) i.x.op W.drew (HW.out.1.later (Below.refl _ _).drew) HBB.out.1 (show w.heap.size ≤ W.heap.size from by omega) (by have := HBB.out.2; have := HQL.out; omega) HI.out.2.2.1 HI.out.2.2.2)
        generalize hki : (kd i.x.op).1 = ki at *
        generalize hlq : i.x.l.length = lq at *
        have HLQ := Lib.hid hlq
        clear hlq
        rw [hkd] at hke
        go_upto_region 7 with (go_at_call 27; refine (kind_any i.x.op _).mono ?_; unfold pr; rw [hkd, hki]; rintro e w' ⟨rfl, rfl⟩)
        clear hkd hke
        have HKI := Lib.hid hkb
        go_region_with (first | (go_at_call 28; refine (HPB.out).mono ?_; rintro e w5 ⟨v5, rfl, hv5, hw5⟩; have H5 : Hid (OwnB w5 w.heap.size v5 (b ++ encB ((is.take (k + 1)).map IV.x)) ∧ Below w.heap.size w w5) := ⟨by rw [HKD.out]; exact hv5, H3.out.2.2.1.trans (hw5.below (by have := H3.out.2.2.1.size; omega) (fun j hj => owns_ge H3.out.1 hj))⟩; clear hv5 hw5) | (go_at_call 29; refine HPO.out.mono ?_; rintro e w3 ⟨v3, rfl, hv3, hw3⟩; have hg3 : Grew (.slice Au ql cu) W v3 w3 := hw3.before (Below.refl _ _).drew (fun j hj => by have := (HOG.out j hj).2; omega); have hO3 := HW.out.2.1.grew hg3 (fun e => by have := (HOG.out _ e).2; omega); have H3 : Hid (OwnB w3 w.heap.size v3 (b ++ encB ((is.take k).map IV.x) ++ encOp i.x.op) ∧ Own w3 gx 43 (insC i.x i.A i.c) ∧ Below w.heap.size w w3 ∧ LabX (fun k => v3.ownBlock ≠ some k) w3 i.x i.A i.c) := ⟨hv3, hO3, HW.out.2.2.2.trans (hg3.below HW.out.2.2.2.size (fun j hj => (HOG.out j hj).1)), (HW.out.2.2.1.chg hg3.1 (fun j _ hj e => by have := (HOG.out j e).1; omega)).mono (fun j _ hj e => by have := owns_ge hv3 e; omega)⟩; obtain ⟨A3, k3, rfl, -, -, -⟩ := hv3.rdX (HBB.out.1.app (encOp_is _ HOPX.out.1 HOPX.out.2).1); obtain ⟨d0, d1, d2, d3, d4, d5, -, -, -, -, -, -⟩ := own_cells6 hO3; rw [HLQ.out] at d4; have HPB : Hid (Calls Try.prog 28 #[.slice A3 (b ++ encB ((is.take k).map IV.x) ++ encOp i.x.op).length k3, .int .i64 ki, .agg #[.int .i64 i.x.op, .int .u32 i.x.a, .int .u32 i.x.b, .int .u64 i.x.n, .slice i.A lq i.c, .int .i64 i.x.t]] w3 (GPost w.heap.size (.slice A3 (b ++ encB ((is.take k).map IV.x) ++ encOp i.x.op).length k3) (b ++ encB ((is.take k).map IV.x) ++ encOp i.x.op ++ encBh ki i.x) w3)) := behind_at HLQ.out (cputBehind_any w.heap.size _ _ i.x i.A i.c w3 H3.out.1 (HBB.out.1.app (encOp_is _ HOPX.out.1 HOPX.out.2).1) H3.out.2.2.1.size (by have := (encOp_is _ HOPX.out.1 HOPX.out.2).2; have := HBB.out.2; have := HQL.out; rw [List.length_append]; omega) H3.out.2.2.2 HI.out.2.1 ki HKI.out.1 HKI.out.2.1); clear hv3 hw3 hg3 hO3; generalize hq3 : (b ++ encB ((is.take k).map IV.x) ++ encOp i.x.op).length = q3 at *; have HQ3 := Lib.hid hq3; clear hq3))
        all_goals
          go_wp2
          refine ⟨⟨k + 1, by omega, by go_num, by have := H5.out.2.size; omega, H5.out.1, H5.out.2⟩, ?_⟩
          simp [intOf]; omega
      · have HKD : Hid (encB ((is.take (k + 1)).map IV.x) = encB ((is.take k).map IV.x)) := by
          unfold Hid; rw [HT.out]; unfold encIn; rw [if_neg hkd]; simp
        have hke : ((kd i.x.op).2 == 0) = false := by simpa using hkd
        clear hkd
        generalize i.x.l.length = lq at *
        go_wp2_with (go_at_call 27; refine (kind_any i.x.op _).mono ?_; unfold pr; rintro e w' ⟨rfl, rfl⟩)
        refine ⟨⟨k + 1, by omega, by go_num, by have := HW.out.2.2.2.size; omega, by rw [HKD.out]; exact HW.out.1, HW.out.2.2.2⟩, ?_⟩
        simp [intOf]; omega
    · obtain rfl : k = q := by omega
      go_wp2
      go_ret
      refine ⟨_, rfl, ?_, HX.out.2⟩
      have := HX.out.1
      rwa [List.take_of_length_le (by rw [HQ.out]; omega)] at this
end Go.Proofs.Ytdbbcbffmbcjiaa
