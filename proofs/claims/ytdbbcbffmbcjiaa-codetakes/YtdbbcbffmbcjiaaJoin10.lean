/- Texts joined: CodePut4, Same6, CodeTake, Same6b. -/
import Derived.Test.YtdbbcbffmbcjiaaCodePut3
import Derived.Deep.RegionWith
import Derived.Deep.Cut
import Derived.Test.YtdbbcbffmbcjiaaJoin8
import Derived.Deep.QuietTactic
import Derived.BigQuiet
/- code.Put: which bytes instructions have. -/
namespace Go.Proofs.Ytdbbcbffmbcjiaa
open Go.RowKit
set_option maxRecDepth 100000
set_option linter.unusedVariables false

theorem cputBehind_any (base : Nat) (v : Value) (l : List Int) (x : Ins) (A : Option Addr) (c : Nat) (w : World) (hv : OwnB w base v l) (hI : IsBytes l) (hb : base ≤ w.heap.size) (hl : l.length ≤ 70000000) (hx : LabX (fun k => v.ownBlock ≠ some k) w x A c) (ox : InsOk x) (imm : Int) (h0 : 0 ≤ imm) (h8 : imm ≤ 8) :
    Calls Try.prog 28 #[v, .int .i64 imm, insV x A c] w (GPost base v (l ++ encBh imm x) w) := by
  rcases show imm = 0 ∨ imm = 1 ∨ imm = 2 ∨ imm = 3 ∨ imm = 4 ∨ imm = 5 ∨ imm = 6 ∨ imm = 7 ∨ imm = 8 from by omega with rfl | rfl | rfl | rfl | rfl | rfl | rfl | rfl | rfl
  · exact cpb0 base v l x A c w hv hI hb hx ox
  · exact cpb1 base v l x A c w hv hI hb hl hx ox
  · exact cpb2 base v l x A c w hv hI hb hl hx ox
  · exact cpb3 base v l x A c w hv hI hb hl hx ox
  · exact cpb4 base v l x A c w hv hI hb hl hx ox
  · exact cpb5 base v l x A c w hv hI hb hl hx ox
  · exact cpb6 base v l x A c w hv hI hb hl hx ox
  · exact cpb7 base v l x A c w hv hI hb hl hx ox
  · exact cpb8 base v l x A c w hv hI hb hl hx ox

theorem behind_at {x : Ins} {A : Option Addr} {c lq : Nat} {v : Value} {imm : Int} {w : World} {P : Ending → World → Prop} (h : x.l.length = lq) (hc : Calls Try.prog 28 #[v, .int .i64 imm, insV x A c] w P) :
    Calls Try.prog 28 #[v, .int .i64 imm, .agg #[.int .i64 x.op, .int .u32 x.a, .int .u32 x.b, .int .u64 x.n, .slice A lq c, .int .i64 x.t]] w P := by
  subst h; exact hc
/-- The bytes of an instruction of the profile. -/
def encIn (x : Ins) : List Int := if (kd x.op).2 = 0 then encOp x.op ++ encBh (kd x.op).1 x else []
def encB : List Ins → List Int
  | [] => []
  | x :: t => encIn x ++ encB t
theorem encB_app (a b : List Ins) : encB (a ++ b) = encB a ++ encB b := by
  induction a with
  | nil => rfl
  | cons x t ih => simp [encB, ih]
/-- An instruction whose number is one of 17 bits. -/
def OpOk (x : Ins) : Prop := 0 ≤ x.op ∧ x.op ≤ 1000000
theorem encIn_is (x : Ins) (ho : OpOk x) (hx : InsOk x) : IsBytes (encIn x) ∧ (encIn x).length ≤ 10040 := by
  unfold encIn
  split
  · obtain ⟨h1, h2⟩ := encOp_is x.op ho.1 ho.2
    obtain ⟨h3, h4⟩ := encBh_is (kd x.op).1 x hx
    exact ⟨h1.app h3, by rw [List.length_append]; omega⟩
  · exact ⟨IsBytes.nil, by simp⟩
theorem encB_is (l : List Ins) (h : ∀ x ∈ l, OpOk x ∧ InsOk x) : IsBytes (encB l) ∧ (encB l).length ≤ 10040 * l.length := by
  induction l with
  | nil => exact ⟨IsBytes.nil, by simp [encB]⟩
  | cons x t ih =>
    obtain ⟨h1, h2⟩ := ih fun y hy => h y (by simp [hy])
    obtain ⟨h3, h4⟩ := encIn_is x (h x (by simp)).1 (h x (by simp)).2
    refine ⟨h3.app h1, ?_⟩
    simp only [encB, List.length_append, List.length_cons]
    omega
theorem encB_take {is : List IV} {k : Nat} {i : IV} (h : is[k]? = some i) : encB ((is.take (k + 1)).map IV.x) = encB ((is.take k).map IV.x) ++ encIn i.x := by
  rw [List.take_add_one, h, List.map_append, encB_app]
  simp [encB]
set_option maxHeartbeats 4000000 in
theorem cput_any {X : Nat → Prop} (A : Option Addr) (b : List Int) (n c : Nat) (v : Value) (is : List IV) (w : World) (h : Rd w w.heap.size A b) (hn : n = b.length) (hl : n ≤ 1000000) (hr : RdN X w v is) (hil : is.length ≤ 5000) (hop : ∀ i ∈ is, OpOk i.x) :
    Calls Try.prog 14 #[.slice A n c, v] w fun e w' => ∃ u, e = .returned u ∧ OwnB w' w.heap.size u (b ++ encB (is.map IV.x)) ∧ Below w.heap.size w w' := by
  have HC := Lib.hid (clone_any A b n c w h hn (by omega))
  have HR := Lib.hid hr
  have HIB : Hid (IsBytes b) := h.1
  have HN := Lib.hid hn
  have HOP := Lib.hid hop
  obtain ⟨B, d, rfl, -, -, -, -⟩ := hr
  clear h hn hop
  generalize hq : is.length = q at *
  have HQ := Lib.hid hq
  clear hq
  go_enter Try.func14, Try.ntmps14
  go_wp2_with fail
  refine HC.out.mono ?_
  rintro e w1 ⟨v1, rfl, hv1, hb1⟩
  obtain ⟨A1, c1, rfl, -, -, -⟩ := hv1.rdX HIB.out
  have H1 := Lib.hid (And.intro hv1 hb1)
  have hs1 := hb1.size
  clear hv1 hb1 HC
  generalize hbl : b.length = bl at *
  have HBL := Lib.hid hbl
  clear hbl
  go_wp2
  go_loopw [0, 13] (fun u i wr => ∃ (k : Nat), k ≤ q ∧ i = .int .i64 k ∧ w.heap.size ≤ wr.heap.size ∧ Hid (OwnB wr w.heap.size u (b ++ encB ((is.take k).map IV.x)) ∧ Below w.heap.size w wr)) (fun _ i _ => q - (intOf i).toNat)
  case atStart => exact ⟨0, by omega, rfl, hs1, by simpa [encB] using H1.out.1, H1.out.2⟩
  case round =>
    obtain ⟨k, hk, rfl, hbr, HX⟩ := hrel
    by_cases hlt : k < q
    · have hlt2 : (k : Int) < q := by omega
      have hra := HR.out.later HX.out.2
      have hkl : k < is.length := by rw [HQ.out]; exact hlt
      obtain ⟨i, hi⟩ : ∃ i, is[k]? = some i := ⟨_, List.getElem?_eq_getElem hkl⟩
      have him : i ∈ is := List.mem_of_getElem? hi
      obtain ⟨ba, oa, rfl, -, hba, a0, a1, a2, a3, a4, a5⟩ := hra.at_ hi
      have HI : Hid (LabX (fun k => k < w.heap.size) wr i.x i.A i.c ∧ InsOk i.x ∧ OpOk i.x) := by
        obtain ⟨_, _, _, _, _, _, p5⟩ := HR.out
        exact ⟨((p5 i him).1.mono fun k hk _ => hk).later HX.out.2, (p5 i him).2, HOP.out i him⟩
      have HT := Lib.hid (encB_take hi)
      have HBB : Hid (IsBytes (b ++ encB ((is.take k).map IV.x)) ∧ (b ++ encB ((is.take k).map IV.x)).length ≤ 60000000) := by
        obtain ⟨_, _, _, _, _, _, p5⟩ := HR.out
        obtain ⟨h1, h2⟩ := encB_is ((is.take k).map IV.x) (fun x hx => by
          obtain ⟨j, hj, rfl⟩ := List.mem_map.1 hx
          have hj' := List.mem_of_mem_take hj
          exact ⟨HOP.out j hj', (p5 j hj').2⟩)
        refine ⟨HIB.out.app h1, ?_⟩
        have h3 := HN.out
        have h4 := HBL.out
        rw [List.length_map, List.length_take] at h2
        rw [List.length_append]
        omega
      obtain ⟨Au, cu, hu, -, -, -⟩ := HX.out.1.rdX HBB.out.1
      subst hu
      have HOG := Lib.hid (fun (j : Nat) hj => And.intro (owns_ge (g := j) HX.out.1 hj) (owns_lt (g := j) HX.out.1 hj))
      have HW : Hid (OwnB (wr.alloc (.cells #[.int .i64 i.x.op, .int .u32 i.x.a, .int .u32 i.x.b, .int .u64 i.x.n, .slice i.A i.x.l.length i.c, .int .i64 i.x.t] 43)) w.heap.size (.slice Au (b ++ encB ((is.take k).map IV.x)).length cu) (b ++ encB ((is.take k).map IV.x)) ∧ Own (wr.alloc (.cells #[.int .i64 i.x.op, .int .u32 i.x.a, .int .u32 i.x.b, .int .u64 i.x.n, .slice i.A i.x.l.length i.c, .int .i64 i.x.t] 43)) wr.heap.size 43 (insC i.x i.A i.c) ∧ LabX (fun k => k < w.heap.size) (wr.alloc (.cells #[.int .i64 i.x.op, .int .u32 i.x.a, .int .u32 i.x.b, .int .u64 i.x.n, .slice i.A i.x.l.length i.c, .int .i64 i.x.t] 43)) i.x i.A i.c ∧ Below w.heap.size w (wr.alloc (.cells #[.int .i64 i.x.op, .int .u32 i.x.a, .int .u32 i.x.b, .int .u64 i.x.n, .slice i.A i.x.l.length i.c, .int .i64 i.x.t] 43))) :=
        ⟨HX.out.1.later (below_a wr _), Own.new wr _ _, HI.out.1.later (below_a wr _), HX.out.2.trans ((below_a wr _).mono hbr)⟩
      clear hra hkl hi him
      generalize hql : (b ++ encB ((is.take k).map IV.x)).length = ql at *
      have HQL := Lib.hid hql
      clear hql
      go_upto_region 5 with fail
      clear a0 a1 a2 a3 a4 a5 hba
      generalize wr.alloc (.cells #[.int .i64 i.x.op, .int .u32 i.x.a, .int .u32 i.x.b, .int .u64 i.x.n, .slice i.A i.x.l.length i.c, .int .i64 i.x.t] 43) = W at *
      generalize wr.heap.size = gx at *
      obtain ⟨c0, c1, c2, c3, c4, c5, f0, f1, f2, f3, f4, f5⟩ := own_cells6 HW.out.2.1
      have hgw := HW.out.2.1.lt
      by_cases hkd : (kd i.x.op).2 = 0
      · have HKD : Hid (b ++ encB ((is.take (k + 1)).map IV.x) = b ++ encB ((is.take k).map IV.x) ++ encOp i.x.op ++ encBh (kd i.x.op).1 i.x) := by
          unfold Hid; rw [HT.out]; unfold encIn; rw [if_pos hkd]; simp
        have hkb := kd_imm i.x.op
        have hke : ((kd i.x.op).2 == 0) = true := by simpa using hkd
        have HOPX := Lib.hid HI.out.2.2
        have HPO := Lib.hid (cputOp_any w.heap.size (.slice Au ql cu) (b ++ encB ((is.take k).map IV.x)) i.x.op W.drew (HW.out.1.later (Below.refl _ _).drew) HBB.out.1 (show w.heap.size ≤ W.heap.size from by omega) (by have := HBB.out.2; have := HQL.out; omega) HI.out.2.2.1 HI.out.2.2.2)
        generalize hki : (kd i.x.op).1 = ki at *
        generalize hlq : i.x.l.length = lq at *
        have HLQ := Lib.hid hlq
        clear hlq
        rw [hkd] at hke
        go_upto_region 7 with (go_at_call 27; refine (kind_any i.x.op _).mono ?_; unfold pr; rw [hkd, hki]; rintro e w' ⟨rfl, rfl⟩)
        clear hkd hke
        have HKI := Lib.hid hkb
        go_region_with (first | (go_at_call 28; refine (HPB.out).mono ?_; rintro e w5 ⟨v5, rfl, hv5, hw5⟩; have H5 : Hid (OwnB w5 w.heap.size v5 (b ++ encB ((is.take (k + 1)).map IV.x)) ∧ Below w.heap.size w w5) := ⟨by rw [HKD.out]; exact hv5, H3.out.2.2.1.trans (hw5.below (by have := H3.out.2.2.1.size; omega) (fun j hj => owns_ge H3.out.1 hj))⟩; clear hv5 hw5) | (go_at_call 29; refine HPO.out.mono ?_; rintro e w3 ⟨v3, rfl, hv3, hw3⟩; have hg3 : Grew (.slice Au ql cu) W v3 w3 := hw3.before (Below.refl _ _).drew (fun j hj => by have := (HOG.out j hj).2; omega); have hO3 := HW.out.2.1.grew hg3 (fun e => by have := (HOG.out _ e).2; omega); have H3 : Hid (OwnB w3 w.heap.size v3 (b ++ encB ((is.take k).map IV.x) ++ encOp i.x.op) ∧ Own w3 gx 43 (insC i.x i.A i.c) ∧ Below w.heap.size w w3 ∧ LabX (fun k => v3.ownBlock ≠ some k) w3 i.x i.A i.c) := ⟨hv3, hO3, HW.out.2.2.2.trans (hg3.below HW.out.2.2.2.size (fun j hj => (HOG.out j hj).1)), (HW.out.2.2.1.chg hg3.1 (fun j _ hj e => by have := (HOG.out j e).1; omega)).mono (fun j _ hj e => by have := owns_ge hv3 e; omega)⟩; obtain ⟨A3, k3, rfl, -, -, -⟩ := hv3.rdX (HBB.out.1.app (encOp_is _ HOPX.out.1 HOPX.out.2).1); obtain ⟨d0, d1, d2, d3, d4, d5, -, -, -, -, -, -⟩ := own_cells6 hO3; rw [HLQ.out] at d4; have HPB : Hid (Calls Try.prog 28 #[.slice A3 (b ++ encB ((is.take k).map IV.x) ++ encOp i.x.op).length k3, .int .i64 ki, .agg #[.int .i64 i.x.op, .int .u32 i.x.a, .int .u32 i.x.b, .int .u64 i.x.n, .slice i.A lq i.c, .int .i64 i.x.t]] w3 (GPost w.heap.size (.slice A3 (b ++ encB ((is.take k).map IV.x) ++ encOp i.x.op).length k3) (b ++ encB ((is.take k).map IV.x) ++ encOp i.x.op ++ encBh ki i.x) w3)) := behind_at HLQ.out (cputBehind_any w.heap.size _ _ i.x i.A i.c w3 H3.out.1 (HBB.out.1.app (encOp_is _ HOPX.out.1 HOPX.out.2).1) H3.out.2.2.1.size (by have := (encOp_is _ HOPX.out.1 HOPX.out.2).2; have := HBB.out.2; have := HQL.out; rw [List.length_append]; omega) H3.out.2.2.2 HI.out.2.1 ki HKI.out.1 HKI.out.2.1); clear hv3 hw3 hg3 hO3; generalize hq3 : (b ++ encB ((is.take k).map IV.x) ++ encOp i.x.op).length = q3 at *; have HQ3 := Lib.hid hq3; clear hq3))
        all_goals
          go_wp2
          refine ⟨⟨k + 1, by omega, by go_num, by have := H5.out.2.size; omega, H5.out.1, H5.out.2⟩, ?_⟩
          simp [intOf]; omega
      · have HKD : Hid (encB ((is.take (k + 1)).map IV.x) = encB ((is.take k).map IV.x)) := by
          unfold Hid; rw [HT.out]; unfold encIn; rw [if_neg hkd]; simp
        have hke : ((kd i.x.op).2 == 0) = false := by simpa using hkd
        clear hkd
        generalize i.x.l.length = lq at *
        go_wp2_with (go_at_call 27; refine (kind_any i.x.op _).mono ?_; unfold pr; rintro e w' ⟨rfl, rfl⟩)
        refine ⟨⟨k + 1, by omega, by go_num, by have := HW.out.2.2.2.size; omega, by rw [HKD.out]; exact HW.out.1, HW.out.2.2.2⟩, ?_⟩
        simp [intOf]; omega
    · obtain rfl : k = q := by omega
      go_wp2
      go_ret
      refine ⟨_, rfl, ?_, HX.out.2⟩
      have := HX.out.1
      rwa [List.take_of_length_le (by rw [HQ.out]; omega)] at this
end Go.Proofs.Ytdbbcbffmbcjiaa

/- Two instructions, two bodies: are they the same? -/
namespace Go.Proofs.Ytdbbcbffmbcjiaa
open Go.RowKit
set_option maxRecDepth 100000
set_option linter.unusedVariables false

theorem getD_ne6 {a b : List Int} {k : Nat} (hk : k < a.length) (h : a.getD k 0 ≠ b.getD k 0) : a ≠ b := fun e => h (by rw [e])
theorem take_eq_step6 {a b : List Int} {k : Nat} (hl : a.length = b.length) (hk : k < a.length) (h : a.take k = b.take k) (he : a.getD k 0 = b.getD k 0) : a.take (k + 1) = b.take (k + 1) := by
  rw [List.take_add_one, List.take_add_one, h]
  rw [List.getD_eq_getElem?_getD, List.getD_eq_getElem?_getD, List.getElem?_eq_getElem hk, List.getElem?_eq_getElem (by omega)] at he
  simp only [Option.getD_some] at he
  rw [List.getElem?_eq_getElem hk, List.getElem?_eq_getElem (show k < b.length by omega), he]

set_option maxHeartbeats 1000000 in
theorem eqQ_any {X Y : Nat → Prop} (A B : Option Addr) (a b : List Int) (n m c d : Nat) (w : World) (ha : RdQ X w A a) (hb : RdQ Y w B b) (hn : n = a.length) (hm : m = b.length) (hnl : n ≤ maxLen) (hml : m ≤ maxLen) :
    Calls Try.prog 54 #[.slice A n c, .slice B m d] w fun e w' => e = .returned (.bool (decide (a = b))) ∧ ∃ j, w' = w.drewN j := by
  have HA := Lib.hid (And.intro ha hn)
  have HB := Lib.hid (And.intro hb hm)
  clear ha hb hn hm
  unfold maxLen at hnl hml
  by_cases hl : n = m
  · subst hl
    go_enter Try.func54, Try.ntmps54
    go_wp2
    go_loopw [13] (fun i wr => ∃ (k j : Nat), k ≤ n ∧ i = .int .i64 k ∧ Hid (a.take k = b.take k) ∧ wr = w.drewN j) (fun i _ => n - (intOf i).toNat)
    case atStart => exact ⟨0, 0, by omega, rfl, rfl, rfl⟩
    case round =>
      obtain ⟨k, j, hk, rfl, HX, rfl⟩ := hrel
      by_cases hlt : k < n
      · have hlt2 : (k : Int) < n := by omega
        have hka : k < a.length := by rw [← HA.out.2]; exact hlt
        have hkb : k < b.length := by rw [← HB.out.2]; exact hlt
        obtain ⟨ba, oa, rfl, hca, x0, x1⟩ := HA.out.1.at_ hka
        obtain ⟨bb, ob, rfl, hcb, y0, y1⟩ := HB.out.1.at_ hkb
        have HS := Lib.hid (fun he => take_eq_step6 (by rw [← HA.out.2, ← HB.out.2]) hka HX.out he)
        have HN := Lib.hid (fun (h : a.getD k 0 ≠ b.getD k 0) => getD_ne6 hka h)
        generalize a.getD k 0 = x at *
        generalize b.getD k 0 = y at *
        clear hka hkb
        by_cases hxy : x = y
        · subst hxy
          have HS2 := Lib.hid (HS.out rfl)
          have hne : (x != x) = false := by simp
          clear HS HN
          go_wp2
          go_quiet (fail)
          go_wp2
          refine ⟨⟨k + 1, j + nq, by omega, by go_num, HS2, rfl⟩, ?_⟩
          simp [intOf]; omega
        · have hne : (x != y) = true := by simpa using hxy
          have HN2 := Lib.hid (HN.out hxy)
          clear HS HN hxy
          go_wp2
          go_quiet (fail)
          go_wp2
          go_ret
          exact ⟨by simp [HN2.out], j + nq, by simp⟩
      · obtain rfl : k = n := by omega
        go_wp2
        go_ret
        refine ⟨?_, j, rfl⟩
        have := HX.out
        rw [List.take_of_length_le (by rw [← HA.out.2]; omega), List.take_of_length_le (by rw [← HB.out.2]; omega)] at this
        simp [this]
  · have hne : ((n : Int) != m) = true := by simp; omega
    have HNE : Hid (a ≠ b) := fun e => by have := HA.out.2; have := HB.out.2; rw [e] at *; omega
    clear hl
    go_enter Try.func54, Try.ntmps54
    go_wp2
    go_ret
    exact ⟨by simp [HNE.out], 0, rfl⟩


theorem ins_diff (x y : Ins) : x.op ≠ y.op ∨ (x.op = y.op ∧ x.a ≠ y.a) ∨ (x.op = y.op ∧ x.a = y.a ∧ x.b ≠ y.b) ∨ (x.op = y.op ∧ x.a = y.a ∧ x.b = y.b ∧ x.n ≠ y.n) ∨ (x.op = y.op ∧ x.a = y.a ∧ x.b = y.b ∧ x.n = y.n) := by
  by_cases h1 : x.op = y.op
  · by_cases h2 : x.a = y.a
    · by_cases h3 : x.b = y.b
      · by_cases h4 : x.n = y.n
        · exact .inr (.inr (.inr (.inr ⟨h1, h2, h3, h4⟩)))
        · exact .inr (.inr (.inr (.inl ⟨h1, h2, h3, h4⟩)))
      · exact .inr (.inr (.inl ⟨h1, h2, h3⟩))
    · exact .inr (.inl ⟨h1, h2⟩)
  · exact .inl h1
theorem LabX.rdQ {X : Nat → Prop} {w : World} {x : Ins} {A : Option Addr} {c : Nat} (h : LabX X w x A c) (hl : IsU32 x.l) : RdQ X w A x.l := ⟨hl, h.1⟩
theorem below_two (w : World) (o1 o2 : Obj) : Below w.heap.size w ((w.alloc o1).alloc o2) := (((Below.refl w.heap.size w).alloc (Nat.le_refl _) o1)).alloc (by simp) o2
theorem below_dn {w w' : World} {B : Nat} (h : Below B w w') (j : Nat) : Below B w (w'.drewN j) := below_drewN' h j
set_option maxHeartbeats 4000000 in
theorem sameIns_any {X Y : Nat → Prop} (x y : Ins) (A B : Option Addr) (c d : Nat) (w : World) (hx : LabX X w x A c) (hy : LabX Y w y B d) (ox : InsOk x) (oy : InsOk y) :
    Calls Try.prog 32 #[insV x A c, insV y B d] w fun e w' => e = .returned (.bool (decide (x = y))) ∧ Below w.heap.size w w' := by
  obtain ⟨xo, xa, xb, xn, xl, xt⟩ := x
  obtain ⟨yo, ya, yb, yn, yl, yt⟩ := y
  have HQ := Lib.hid (fun W (hb : Below w.heap.size w W) => eqQ_any A B xl yl xl.length yl.length c d W ((hx.rdQ ox.l).later hb) ((hy.rdQ oy.l).later hb) rfl rfl (Nat.le_trans hx.2.1 hx.2.2) (Nat.le_trans hy.2.1 hy.2.2))
  have HB := Lib.hid (below_two w (.cells #[.int .i64 xo, .int .u32 xa, .int .u32 xb, .int .u64 xn, .slice A xl.length c, .int .i64 xt] 43) (.cells #[.int .i64 yo, .int .u32 ya, .int .u32 yb, .int .u64 yn, .slice B yl.length d, .int .i64 yt] 43))
  clear hx hy ox oy
  have hd := ins_diff ⟨xo, xa, xb, xn, xl, xt⟩ ⟨yo, ya, yb, yn, yl, yt⟩
  simp only [] at hd
  unfold insV
  simp only []
  have HEQ : Hid (∀ P : Prop, ¬ P → ((⟨xo, xa, xb, xn, xl, xt⟩ : Ins) = ⟨yo, ya, yb, yn, yl, yt⟩ → P) → decide ((⟨xo, xa, xb, xn, xl, xt⟩ : Ins) = ⟨yo, ya, yb, yn, yl, yt⟩) = false) := fun P hn h => by simp only [decide_eq_false_iff_not]; exact fun e => hn (h e)
  generalize hlx : xl.length = lx at *
  generalize hly : yl.length = ly at *
  rcases hd with h1 | ⟨h1, h2⟩ | ⟨h1, h2, h3⟩ | ⟨h1, h2, h3, h4⟩ | ⟨h1, h2, h3, h4⟩
  · have e1 : (xo == yo) = false := by simpa using h1
    have HD := Lib.hid (HEQ.out _ h1 (fun e => congrArg Ins.op e))
    clear h1 hlx hly HQ
    go_enter Try.func32, Try.ntmps32
    go_wp2
    go_ret
    exact ⟨by rw [HD.out]; rfl, HB.out⟩
  · have e2 : (xa == ya) = false := by simpa using h2
    have HD := Lib.hid (HEQ.out _ h2 (fun e => congrArg Ins.a e))
    subst h1
    clear h2 hlx hly HQ
    go_enter Try.func32, Try.ntmps32
    go_wp2
    go_ret
    exact ⟨by rw [HD.out]; rfl, HB.out⟩
  · have e2 : (xb == yb) = false := by simpa using h3
    have HD := Lib.hid (HEQ.out _ h3 (fun e => congrArg Ins.b e))
    subst h1 h2
    clear h3 hlx hly HQ
    go_enter Try.func32, Try.ntmps32
    go_wp2
    go_ret
    exact ⟨by rw [HD.out]; rfl, HB.out⟩
  · have e2 : (xn == yn) = false := by simpa using h4
    have HD := Lib.hid (HEQ.out _ h4 (fun e => congrArg Ins.n e))
    subst h1 h2 h3
    clear h4 hlx hly HQ
    go_enter Try.func32, Try.ntmps32
    go_wp2
    go_ret
    exact ⟨by rw [HD.out]; rfl, HB.out⟩
  · subst h1 h2 h3 h4
    by_cases hl : xl = yl
    · subst hl
      have HQ2 := Lib.hid (HQ.out _ HB.out)
      have hdl : decide (xl = xl) = true := by simp
      by_cases ht : xt = yt
      · subst ht
        clear hlx hly HQ
        go_enter Try.func32, Try.ntmps32
        go_wp2_with (go_at_call 54; refine HQ2.out.mono ?_; rw [hdl]; rintro e w' ⟨rfl, j, rfl⟩)
        go_ret
        exact ⟨by simp, below_dn HB.out j⟩
      · have e2 : (xt == yt) = false := by simpa using ht
        have HD := Lib.hid (HEQ.out _ ht (fun e => congrArg Ins.t e))
        clear hlx hly HQ ht
        go_enter Try.func32, Try.ntmps32
        go_wp2_with (go_at_call 54; refine HQ2.out.mono ?_; rw [hdl]; rintro e w' ⟨rfl, j, rfl⟩)
        go_ret
        exact ⟨by rw [HD.out]; rfl, below_dn HB.out j⟩
    · have HQ2 := Lib.hid (HQ.out _ HB.out)
      have hdl : decide (xl = yl) = false := by simpa using hl
      have HD := Lib.hid (HEQ.out _ hl (fun e => congrArg Ins.l e))
      clear hlx hly HQ hl
      go_enter Try.func32, Try.ntmps32
      go_wp2_with (go_at_call 54; refine HQ2.out.mono ?_; rw [hdl]; rintro e w' ⟨rfl, j, rfl⟩)
      go_ret
      exact ⟨by rw [HD.out]; rfl, below_dn HB.out j⟩
end Go.Proofs.Ytdbbcbffmbcjiaa

/- code.Take: which body bytes are. (Written by gen_CodeTake.py.) -/
namespace Go.Proofs.Ytdbbcbffmbcjiaa
open Go.RowKit
set_option maxRecDepth 100000
set_option linter.unusedVariables false

def tkL (r : Except Int (List Ins × List Int)) : List Ins := match r with
  | .ok q => q.1
  | .error _ => []
def tkN (b : List Int) (r : Except Int (List Ins × List Int)) : Int := match r with
  | .ok q => (b.length : Int) - q.2.length
  | .error _ => 0
def tkE (r : Except Int (List Ins × List Int)) : Int := match r with
  | .ok _ => 0
  | .error e => e
def TkPost (b : List Int) (w : World) (e : Ending) (w' : World) : Prop :=
  ∃ v is, e = .returned (.tuple #[v, .int .i64 (tkN b (pCode b)), .int .i64 (tkE (pCode b))]) ∧ OwnN (fun k => w.heap.size ≤ k ∧ v.ownBlock ≠ some k) w' w.heap.size v is ∧ is.map IV.x = tkL (pCode b) ∧ Below w.heap.size w w' ∧ is.length ≤ 600
theorem RdrAt.err6 {w : World} {g : Nat} {t : TypeId} {tl : RTl} {s : St} (h : RdrAt w g t tl s) : ∀ e, s = .error e → 0 < e := fun e he => by subst he; exact h.2.1
theorem cnew_any (A : Option Addr) (n c : Nat) (w : World) : Calls Try.prog 17 #[.slice A n c] w fun e w' => e = .returned (.agg #[.slice A n c, .int .i64 0, .int .i64 0]) ∧ Below w.heap.size w w' := by
  go_enter Try.func17, Try.ntmps17
  go_wp2
  go_returns
  exact ⟨rfl, (Below.refl _ _).alloc (Nat.le_refl _) _⟩
def lenV : Value → Nat
  | .slice _ n _ => n
  | _ => 0
theorem nest_len {op : Int} {o : List Int} {r : List Int × Bool} (h : nestP op o = .ok r) (ho : o.length ≤ 32) : r.1.length ≤ 32 := by
  unfold nestP at h
  split at h
  · split at h
    · cases h
    · injection h with h; subst h; simp; omega
  · split at h
    · split at h
      · rename_i h1
        injection h with h; subst h
        have : o ≠ [] := by rintro rfl; simp at h1
        have : 0 < o.length := List.length_pos_iff.2 this
        simp; omega
      · cases h
    · split at h
      · split at h
        · injection h with h; subst h; simp
        · injection h with h; subst h; simp; omega
      · injection h with h; subst h; exact ho
theorem body_step {s : St} {k : Nat} {o : List Int} {acc : List Ins} {x : Ins} {o' : List Int} {over' : Bool} (h : ∀ r l', bd s (pSt o) = .ok (r, l') → r = (x, o', over')) :
    bd s (pBody (k + 1) o acc) = if over' then bd (nx (pSt o) s) (fun l => .ok (acc ++ [x], l)) else bd (nx (pSt o) s) (pBody k o' (acc ++ [x])) := by
  cases s with
  | error e => cases over' <;> rfl
  | ok l =>
    simp only [bd_ok, nx_ok, pBody, seq] at h ⊢
    cases hp : pSt o l with
    | error e => cases over' <;> rfl
    | ok r =>
      have := h r.1 r.2 (by rw [hp])
      simp only [bd_ok, this]
      cases over' <;> rfl
theorem step_len {s : St} {o : List Int} {x : Ins} {o' : List Int} {over' : Bool} (h : ∀ r l', bd s (pSt o) = .ok (r, l') → r = (x, o', over')) (ho : o.length ≤ 32) : ∀ l, nx (pSt o) s = .ok l → o'.length ≤ 32 := by
  intro l hl
  cases s with
  | error e => cases hl
  | ok b =>
    simp only [bd_ok, nx_ok] at h hl
    cases hp : pSt o b with
    | error e => rw [hp] at hl; cases hl
    | ok r =>
      have e := h r.1 r.2 (by rw [hp])
      simp only [pSt, seq] at hp
      cases hq : pIn b with
      | error e => rw [hq] at hp; cases hp
      | ok q =>
        rw [hq] at hp
        simp only [bd_ok] at hp
        cases hz : nestP q.1.op o with
        | error e => rw [hz] at hp; cases hp
        | ok z =>
          rw [hz] at hp
          simp only [bd_ok] at hp
          injection hp with hp
          have h1 := congrArg (fun t => t.1.2.1) hp
          simp only [e] at h1
          rw [← h1]
          exact nest_len hz ho

set_option maxHeartbeats 4000000 in
theorem ctake_any (A : Option Addr) (b : List Int) (n c : Nat) (w : World) (h : Rd w w.heap.size A b) (hn : n = b.length) (hl : n ≤ 1000000) (hc : n ≤ c) (hcm : c ≤ maxLen) :
    Calls Try.prog 9 #[.slice A n c] w (TkPost b w) := by
  have HR := Lib.hid h
  have HN := Lib.hid hn
  clear h hn
  go_enter Try.func9, Try.ntmps9
  go_wp2_with fail
  refine (cnew_any A n c _).mono ?_
  rintro e w1 ⟨rfl, hb1⟩
  have HT0 : Hid (NsAt (w1.alloc (.cells #[.slice A n c, .int .i64 0, .int .i64 0, .slice none 0 0, .bool false] 49)) w1.heap.size n (.ok b) (.slice none 0 0) [] false ∧ Below w.heap.size w (w1.alloc (.cells #[.slice A n c, .int .i64 0, .int .i64 0, .slice none 0 0, .bool false] 49))) := by
    have hs := hb1.size
    have hR1 := (HR.out.rx.later hb1).mono (Y := (· < w1.heap.size)) fun k _ hk => by have : k < w.heap.size := hk; omega
    have hA := (Below.refl w1.heap.size w1).alloc (Nat.le_refl _) (.cells #[.slice A n c, .int .i64 0, .int .i64 0, .slice none 0 0, .bool false] 49)
    refine ⟨⟨⟨A, c, 0, ?_, ?_, by rw [← HN.out]; exact hc, hcm, by rw [← HN.out]; exact hl, by have := HN.out; simp only []; omega, by have := HN.out; simp only []; omega, by simp only []; omega⟩, OwnI.nil _ _, by simp⟩, hb1.trans (hA.mono (by omega))⟩
    · rw [← HN.out]
      exact Own.new w1 49 [.slice A n c, .int .i64 0, .int .i64 0, .slice none 0 0, .bool false]
    · exact hR1.later hA
  have hwg := hb1.size
  clear hb1 hc hcm
  go_wp2_with fail
  generalize w1.alloc (.cells #[.slice A n c, .int .i64 0, .int .i64 0, .slice none 0 0, .bool false] 49) = W1 at *
  generalize w1.heap.size = g at *
  go_loopw [2] (fun v wr => ∃ (is : List IV) (sk : St) (ov : Value) (o : List Int) (over : Bool), Hid (NsAt wr g n sk ov o over ∧ OwnN (fun k => g < k ∧ ov.ownBlock ≠ some k ∧ v.ownBlock ≠ some k) wr (g + 1) v is ∧ pCode b = (if over then bd sk (fun l => .ok (is.map IV.x, l)) else bd sk (pBody (600 - is.length) o (is.map IV.x))) ∧ (∀ l, sk = .ok l → o.length ≤ 32) ∧ Below w.heap.size w wr ∧ is.length ≤ 600)) (fun v _ => 600 - lenV v)
  case atStart => exact ⟨[], _, _, _, _, HT0.out.1, OwnN.nil _ _ _, rfl, fun _ _ => by simp, HT0.out.2, by simp⟩
  case round =>
    obtain ⟨is, sk, ov, o, over, HX⟩ := hrel
    obtain ⟨Ar, nr, cr, rr, er, ho⟩ := HX.out.1.1.own
    obtain ⟨-, c4, -, f4⟩ := own_cells5 ho
    obtain ⟨A1, k1, rfl, hk1, hk2, -⟩ := RdV.of_own HX.out.2.1.1
    have hlen := HX.out.2.2.2.2.2
    have HFA := Lib.hid (rfailed_any g _ _ sk wr HX.out.1.1)
    clear ho hk1 hk2
    cases over with
    | true =>
      have HF : Hid (NsAt wr g n sk ov o true ∧ OwnN (fun k => g < k ∧ ov.ownBlock ≠ some k ∧ (Value.slice A1 is.length k1).ownBlock ≠ some k) wr (g + 1) (.slice A1 is.length k1) is ∧ pCode b = bd sk (fun l => .ok (is.map IV.x, l)) ∧ Below w.heap.size w wr ∧ is.length ≤ 600) := ⟨HX.out.1, HX.out.2.1, HX.out.2.2.1, HX.out.2.2.2.2.1, HX.out.2.2.2.2.2⟩
      clear HX HFA
      generalize hq : is.length = q at *
      have HQ := Lib.hid hq
      clear hq
      go_wp2_with fail
      refine (rstop_any g _ _ _ _ HF.out.1.1).mono ?_
      rintro e W2 ⟨rfl, hb2⟩
      have HB2 := Lib.hid hb2
      clear hb2
      rcases hsk : sk with x | l
      · have hx := HF.out.1.1.err6 x hsk
        have HS := Lib.hid hsk
        simp only [readS, errS]
        have hxne : (x != 0) = true := by simp; omega
        clear hx hsk
        go_wp2
        go_ret3
        have hE := HF.out.2.2.1
        rw [HS.out] at hE
        exact ⟨_, [], by rw [hE]; rfl, OwnN.nil _ _ _, by rw [hE]; rfl, HF.out.2.2.2.1.trans (HB2.out.mono HF.out.2.2.2.1.size), by simp⟩
      · have HS := Lib.hid hsk
        simp only [readS, errS]
        clear hsk
        go_wp2
        go_ret3
        have hE := HF.out.2.2.1
        rw [HS.out] at hE
        have hO := HF.out.2.1.later HB2.out
        refine ⟨_, is, by rw [hE, HN.out]; rfl, ⟨owns_base hO.1 (by omega), fun i hi => ⟨(hO.2.1 i hi).1.mono fun k _ hk => ⟨by have := hk.1; omega, hk.2.2⟩, (hO.2.1 i hi).2⟩, fun k hk e => e.2 hk⟩, by rw [hE]; rfl, HF.out.2.2.2.1.trans (HB2.out.mono HF.out.2.2.2.1.size), by rw [HQ.out]; exact HF.out.2.2.2.2⟩
    | false =>
      cases sk with
      | error x =>
        have HF : Hid (NsAt wr g n (.error x) ov o false ∧ OwnN (fun k => g < k ∧ ov.ownBlock ≠ some k ∧ (Value.slice A1 is.length k1).ownBlock ≠ some k) wr (g + 1) (.slice A1 is.length k1) is ∧ pCode b = bd (.error x) (fun l => .ok (is.map IV.x, l)) ∧ Below w.heap.size w wr ∧ is.length ≤ 600) := ⟨HX.out.1, HX.out.2.1, HX.out.2.2.1, HX.out.2.2.2.2.1, HX.out.2.2.2.2.2⟩
        clear HX
        generalize is.length = q at *
        go_wp2_with (go_at_call 18; refine HFA.out.mono ?_; simp only [failedS]; rintro e w' ⟨rfl, rfl⟩)
        refine (rstop_any g _ _ _ _ HF.out.1.1).mono ?_
        simp only [readS, errS]
        rintro e W2 ⟨rfl, hb2⟩
        have HB2 := Lib.hid hb2
        have hx := HF.out.1.1.err6 x rfl
        have hxne : (x != 0) = true := by simp; try omega
        clear hx hb2
        go_wp2
        go_ret3
        have hE := HF.out.2.2.1
        exact ⟨_, [], by rw [hE]; rfl, OwnN.nil _ _ _, by rw [hE]; rfl, HF.out.2.2.2.1.trans (HB2.out.mono HF.out.2.2.2.1.size), by simp⟩
      | ok lk =>
        by_cases hfull : is.length = 600
        · have HF0 := Lib.hid (rfail_any g _ _ _ 4 wr HX.out.1.1 (by omega) (by omega))
          generalize hq : is.length = q at *
          have HQ := Lib.hid hq
          clear hq
          subst hfull
          go_wp2_with (go_at_call 18; refine HFA.out.mono ?_; simp only [failedS]; rintro e w' ⟨rfl, rfl⟩)
          refine HF0.out.mono ?_
          simp only [failS]
          rintro e w2 ⟨⟨u, rfl⟩, h2, hc⟩
          have HF : Hid (NsAt w2 g n (.error 4) ov o false ∧ True ∧ pCode b = bd (.error 4) (fun l => .ok (is.map IV.x, l)) ∧ Below w.heap.size w w2 ∧ True) := by
            obtain ⟨x1, x2, x3, x4, x5, x6⟩ := HX.out
            refine ⟨⟨h2, x1.2.1.far hc, x1.2.2⟩, trivial, ?_, x5.trans (hc.below x5.size fun i hi e => by omega), trivial⟩
            rw [x3]
            rfl
          clear h2 hc HX HF0 HFA
          go_wp2_with fail
          refine (rstop_any g _ _ _ _ HF.out.1.1).mono ?_
          simp only [readS, errS]
          rintro e W2 ⟨rfl, hb2⟩
          have HB2 := Lib.hid hb2
          have hx := HF.out.1.1.err6 4 rfl
          have hxne : (4 != 0) = true := by simp; try omega
          clear hx hb2
          go_wp2
          go_ret3
          have hE := HF.out.2.2.1
          exact ⟨_, [], by rw [hE]; rfl, OwnN.nil _ _ _, by rw [hE]; rfl, HF.out.2.2.2.1.trans (HB2.out.mono HF.out.2.2.2.1.size), by simp⟩
        · have hfu : ((is.length : Int) == 600) = false := by simp; omega
          have HFU : Hid (is.length < 600) := by unfold Hid; omega
          clear hfull
          have HI := Lib.hid (cinstr_any g n _ ov o wr HX.out.1 (by have := HX.out.2.2.2.1 _ rfl; omega))
          have hgw := HX.out.1.1.lt
          have HLQ : Hid (∃ q, is.length = q) := ⟨_, rfl⟩
          generalize hq : is.length = q at *
          have HQ := Lib.hid hq
          clear hq
          go_wp2_with (go_at_call 18; refine HFA.out.mono ?_; simp only [failedS]; rintro e w' ⟨rfl, rfl⟩)
          refine HI.out.mono ?_
          rintro e w2 ⟨x, Ax, cx, ov', o', over', rfl, p1, p2, p3, p4, p5, p6⟩
          unfold insV
          have H3 : Hid (OwnN (fun k => g < k ∧ ov'.ownBlock ≠ some k ∧ (Value.slice A1 q k1).ownBlock ≠ some k) w2 (g + 1) (.slice A1 q k1) is ∧ LabX (fun k => g < k ∧ ov'.ownBlock ≠ some k ∧ (Value.slice A1 q k1).ownBlock ≠ some k) w2 x Ax cx) := by
            obtain ⟨x1, x2, x3, x4, x5, x6⟩ := HX.out
            refine ⟨?_, p1.mono fun k _ hk => ⟨by have := hk.1; omega, hk.2, fun e => by have := owns_lt x2.1 e; have := hk.1; omega⟩⟩
            have hm := x2.mono (Y := fun k => g < k ∧ ov.ownBlock ≠ some k ∧ ov'.ownBlock ≠ some k ∧ (Value.slice A1 q k1).ownBlock ≠ some k) (fun k hk hx => ⟨hx.1, hx.2.1, fun e => by
              rcases p6 k e with h | h
              · exact hx.2.1 h
              · omega, hx.2.2⟩) fun k hk e => e.2.2.2 hk
            refine (hm.chg p5 (fun k _ hk => by
              rintro (e | e)
              · have := hk.1; omega
              · exact hk.2.1 e) fun k hk => ?_).mono (fun k _ hk => ⟨hk.1, hk.2.2.1, hk.2.2.2⟩) fun k hk e => e.2.2 hk
            rintro (e | e)
            · have := owns_ge x2.1 hk; omega
            · exact owns_ne2 x2.1 x1.2.1 (by decide) hk e
          have H4 : Hid (NsAt w2 g n (nx (pSt o) (.ok lk)) ov' o' over' ∧ InsOk x ∧ pCode b = (if over' then bd (nx (pSt o) (.ok lk)) (fun l => .ok (is.map IV.x ++ [x], l)) else bd (nx (pSt o) (.ok lk)) (pBody (600 - (q + 1)) o' (is.map IV.x ++ [x]))) ∧ (∀ l, nx (pSt o) (.ok lk) = .ok l → o'.length ≤ 32) ∧ Below w.heap.size w w2 ∧ g < w2.heap.size) := by
            obtain ⟨x1, x2, x3, x4, x5, x6⟩ := HX.out
            refine ⟨p3, p2, ?_, step_len p4 (x4 _ rfl), x5.trans (p5.below x5.size fun i hi e => ?_), p3.1.lt⟩
            · rw [x3, ← body_step p4, show 600 - q = 600 - (q + 1) + 1 from by have := HFU.out; omega]
              rfl
            · rcases e with e | e
              · omega
              · have := owns_ge x1.2.1 e; omega
          have hlt2 := H4.out.2.2.2.2.2
          clear p1 p2 p3 p4 p5 p6 HX HFA HI HLQ
          go_wp2_with (at_builtin; refine wpList_appN1 rfl (.tmp 22) (.tmp 24) rfl (g + 1) (.slice A1 q k1) is rfl H3.out.1 ⟨x, Ax, cx⟩ H3.out.2 H4.out.2.1 rfl (by have := HQ.out; omega) (by omega) ?_; intro v1 w3 hv1 hw1; have HV := Lib.hid (And.intro hv1 hw1); clear hv1 hw1)
          obtain ⟨hv1, hw1⟩ := HV.out
          obtain ⟨y1, y2, y3, y4, y5, y6⟩ := H4.out
          obtain ⟨A9, k9, e9, -, -, -⟩ := RdV.of_own hv1.1
          have hvb := fun k hk => owns_ge (g := k) H3.out.1.1 hk
          have hvn := fun k hk => owns_ne2 (g := k) H3.out.1.1 y1.2.1 (by decide) hk
          refine ⟨⟨is ++ [⟨x, Ax, cx⟩], nx (pSt o) (.ok lk), ov', o', over', ⟨y1.1.chg hw1.1 (fun k hk e => by have := hvb k e; omega), y1.2.1.chg hw1.1 (fun k hk e => hvn k e hk), y1.2.2⟩, hv1.mono (fun k _ hk => ⟨hk.1.1, hk.1.2.1, fun e => hv1.2.2 k e hk⟩) (fun k hk e => e.2.2 hk), ?_, y4, y5.trans (hw1.below y5.size fun k hk => by have := hvb k hk; omega), ?_⟩, ?_⟩
          · have := HQ.out
            rw [y3, List.map_append, List.length_append, this]
            rfl
          · have := HQ.out; have := HFU.out; simp; omega
          · have := HQ.out; have := HFU.out
            rw [e9]
            simp [lenV]
            omega
end Go.Proofs.Ytdbbcbffmbcjiaa

/- Two bodies: are they the same? -/
namespace Go.Proofs.Ytdbbcbffmbcjiaa
open Go.RowKit
set_option maxRecDepth 100000
set_option linter.unusedVariables false

def bodyX (is : List IV) : List Ins := is.map IV.x
theorem bodyX_get {is : List IV} {k : Nat} (hk : k < is.length) : ∃ i, is[k]? = some i ∧ (bodyX is)[k]? = some i.x ∧ i ∈ is := by
  refine ⟨is[k], List.getElem?_eq_getElem hk, ?_, List.getElem_mem hk⟩
  unfold bodyX
  rw [List.getElem?_map, List.getElem?_eq_getElem hk]; rfl
theorem body_ne {is js : List IV} {k : Nat} {i j : IV} (hi : (bodyX is)[k]? = some i.x) (hj : (bodyX js)[k]? = some j.x) (h : i.x ≠ j.x) : bodyX is ≠ bodyX js := fun e => h (by rw [e, hj] at hi; injection hi with hi; exact hi.symm)
theorem body_eq_step {is js : List IV} {k : Nat} {i j : IV} (h : (bodyX is).take k = (bodyX js).take k) (hi : (bodyX is)[k]? = some i.x) (hj : (bodyX js)[k]? = some j.x) (he : i.x = j.x) : (bodyX is).take (k + 1) = (bodyX js).take (k + 1) := by
  rw [List.take_add_one, List.take_add_one, h, hi, hj, he]
theorem bodyX_len (is : List IV) : (bodyX is).length = is.length := by simp [bodyX]

set_option maxHeartbeats 4000000 in
theorem eqFunc_any {X Y : Nat → Prop} (v u : Value) (is js : List IV) (w : World) (ha : RdN X w v is) (hb : RdN Y w u js) :
    Calls Try.prog 31 #[v, u, .func (.func 32) #[] #[]] w fun e w' => e = .returned (.bool (decide (bodyX is = bodyX js))) ∧ Below w.heap.size w w' := by
  obtain ⟨A, c, rfl, hac, hcm, -⟩ := id ha
  obtain ⟨B, d, rfl, hbd, hdm, -⟩ := id hb
  have HA := Lib.hid ha
  have HB := Lib.hid hb
  clear ha hb
  have hnl : is.length ≤ maxLen := Nat.le_trans hac hcm
  have hml : js.length ≤ maxLen := Nat.le_trans hbd hdm
  unfold maxLen at hnl hml
  clear hac hcm hbd hdm
  generalize hq : is.length = n at *
  have HQ := Lib.hid hq
  generalize hm : js.length = m at *
  have HM := Lib.hid hm
  clear hq hm
  by_cases hl : n = m
  · subst hl
    go_enter Try.func31, Try.ntmps31
    go_wp2
    go_loopw [17] (fun i wr => ∃ (k : Nat), k ≤ n ∧ i = .int .i64 k ∧ Hid ((bodyX is).take k = (bodyX js).take k ∧ Below w.heap.size w wr)) (fun i _ => n - (intOf i).toNat)
    case atStart => exact ⟨0, by omega, rfl, by simp, Below.refl _ _⟩
    case round =>
      obtain ⟨k, hk, rfl, HX⟩ := hrel
      by_cases hlt : k < n
      · have hlt2 : (k : Int) < n := by omega
        obtain ⟨i, hi, hi2, him⟩ := bodyX_get (is := is) (k := k) (by rw [HQ.out]; exact hlt)
        obtain ⟨j, hj, hj2, hjm⟩ := bodyX_get (is := js) (k := k) (by rw [HM.out]; exact hlt)
        have hra := HA.out.later HX.out.2
        have hrb := HB.out.later HX.out.2
        obtain ⟨ba, oa, rfl, -, hba, a0, a1, a2, a3, a4, a5⟩ := hra.at_ hi
        obtain ⟨bb, ob, rfl, -, hbb, b0, b1, b2, b3, b4, b5⟩ := hrb.at_ hj
        have HI : Hid (LabX X wr i.x i.A i.c ∧ InsOk i.x ∧ LabX Y wr j.x j.A j.c ∧ InsOk j.x) := by
          obtain ⟨_, _, _, _, _, _, p5⟩ := hra
          obtain ⟨_, _, _, _, _, _, q5⟩ := hrb
          exact ⟨(p5 i him).1, (p5 i him).2, (q5 j hjm).1, (q5 j hjm).2⟩
        have HS := Lib.hid (And.intro hi2 hj2)
        have hwb := HX.out.2.size
        clear hra hrb hi hj hi2 hj2 him hjm
        go_wp2_with fail
        refine (sameIns_any i.x j.x i.A j.A i.c j.c _ (HI.out.1.later (below_two wr _ _)) (HI.out.2.2.1.later (below_two wr _ _)) HI.out.2.1 HI.out.2.2.2).mono ?_
        rintro e w2 ⟨rfl, hb2⟩
        have HB2 : Hid (Below w.heap.size w w2) := HX.out.2.trans (((below_two wr _ _).trans (hb2.mono (by simp; omega))).mono hwb)
        clear hb2 a0 a1 a2 a3 a4 a5 b0 b1 b2 b3 b4 b5
        by_cases hxy : i.x = j.x
        · have HS2 := Lib.hid (body_eq_step HX.out.1 HS.out.1 HS.out.2 hxy)
          have hde : decide (i.x = j.x) = true := by simpa using hxy
          rw [hde]
          clear hxy hde
          go_wp2
          refine ⟨⟨k + 1, by omega, by go_num, HS2.out, HB2.out⟩, ?_⟩
          simp [intOf]; omega
        · have HN2 := Lib.hid (body_ne HS.out.1 HS.out.2 hxy)
          have hde : decide (i.x = j.x) = false := by simpa using hxy
          rw [hde]
          clear hxy hde
          go_wp2
          go_ret
          exact ⟨by simp [HN2.out], HB2.out⟩
      · obtain rfl : k = n := by omega
        go_wp2
        go_ret
        refine ⟨?_, HX.out.2⟩
        have := HX.out.1
        rw [List.take_of_length_le (by rw [bodyX_len, HQ.out]; omega), List.take_of_length_le (by rw [bodyX_len, HM.out]; omega)] at this
        simp [this]
  · have hne : ((n : Int) != m) = true := by simp; omega
    have HNE : Hid (bodyX is ≠ bodyX js) := fun e => by
      have h1 := bodyX_len is
      have h2 := bodyX_len js
      have := HQ.out; have := HM.out
      rw [e] at h1; omega
    clear hl
    go_enter Try.func31, Try.ntmps31
    go_wp2
    go_ret
    exact ⟨by simp [HNE.out], Below.refl _ _⟩
theorem csame_any {X Y : Nat → Prop} (v u : Value) (is js : List IV) (w : World) (ha : RdN X w v is) (hb : RdN Y w u js) :
    Calls Try.prog 16 #[v, u] w fun e w' => e = .returned (.bool (decide (bodyX is = bodyX js))) ∧ Below w.heap.size w w' := by
  have HE := Lib.hid (eqFunc_any v u is js w ha hb)
  obtain ⟨A, c, rfl, -, -, -⟩ := id ha
  obtain ⟨B, d, rfl, -, -, -⟩ := id hb
  clear ha hb
  generalize is.length = n at *
  generalize js.length = m at *
  go_enter Try.func16, Try.ntmps16
  go_wp2_with fail
  refine HE.out.mono ?_
  rintro e w' ⟨rfl, hb⟩
  have HB := Lib.hid hb
  clear hb
  go_wp2
  go_ret
  exact ⟨rfl, HB.out⟩
end Go.Proofs.Ytdbbcbffmbcjiaa
