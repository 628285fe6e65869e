/- Two bodies: are they the same? -/
import Derived.Test.YtdbbcbffmbcjiaaSame6
import Derived.Test.YtdbbcbffmbcjiaaCodeTake
namespace Go.Proofs.Ytdbbcbffmbcjiaa
open Go.RowKit
set_option maxRecDepth 100000
set_option linter.unusedVariables false

def bodyX (is : List IV) : List Ins := is.map IV.x
theorem bodyX_get {is : List IV} {k : Nat} (hk : k < is.length) : ∃ i, is[k]? = some i ∧ (bodyX is)[k]? = some i.x ∧ i ∈ is := by
  refine ⟨is[k], List.getElem?_eq_getElem hk, ?_, List.getElem_mem hk⟩
  unfold bodyX
  rw [List.getElem?_map, List.getElem?_eq_getElem hk]; rfl
theorem body_ne {is js : List IV} {k : Nat} {i j : IV} (hi : (bodyX is)[k]? = some i.x) (hj : (bodyX js)[k]? = some j.x) (h : i.x ≠ j.x) : bodyX is ≠ bodyX js := fun e => h (by rw [e, hj] at hi; injection hi with hi; exact hi.symm)
theorem body_eq_step {is js : List IV} {k : Nat} {i j : IV} (h : (bodyX is).take k = (bodyX js).take k) (hi : (bodyX is)[k]? = some i.x) (hj : (bodyX js)[k]? = some j.x) (he : i.x = j.x) : (bodyX is).take (k + 1) = (bodyX js).take (k + 1) := by
  rw [List.take_add_one, List.take_add_one, h, hi, hj, he]
theorem bodyX_len (is : List IV) : (bodyX is).length = is.length := by simp [bodyX]

set_option maxHeartbeats 4000000 in
theorem eqFunc_any {X Y : Nat → Prop} (v u : Value) (is js : List IV) (w : World) (ha : RdN X w v is) (hb : RdN Y w u js) :
    Calls Try.prog 31 #[v, u, .func (.func 32) #[] #[]] w fun e w' => e = .returned (.bool (decide (bodyX is = bodyX js))) ∧ Below w.heap.size w w' := by
  obtain ⟨A, c, rfl, hac, hcm, -⟩ := id ha
  obtain ⟨B, d, rfl, hbd, hdm, -⟩ := id hb
  have HA := Lib.hid ha
  have HB := Lib.hid hb
  clear ha hb
  have hnl : is.length ≤ maxLen := Nat.le_trans hac hcm
  have hml : js.length ≤ maxLen := Nat.le_trans hbd hdm
  unfold maxLen at hnl hml
  clear hac hcm hbd hdm
  generalize hq : is.length = n at *
  have HQ := Lib.hid hq
  generalize hm : js.length = m at *
  have HM := Lib.hid hm
  clear hq hm
  by_cases hl : n = m
  · subst hl
    go_enter Try.func31, Try.ntmps31
    go_wp2
    go_loopw [17] (fun i wr => ∃ (k : Nat), k ≤ n ∧ i = .int .i64 k ∧ Hid ((bodyX is).take k = (bodyX js).take k ∧ Below w.heap.size w wr)) (fun i _ => n - (intOf i).toNat)
    case atStart => exact ⟨0, by omega, rfl, by simp, Below.refl _ _⟩
    case round =>
      obtain ⟨k, hk, rfl, HX⟩ := hrel
      by_cases hlt : k < n
      · have hlt2 : (k : Int) < n := by omega
        obtain ⟨i, hi, hi2, him⟩ := bodyX_get (is := is) (k := k) (by rw [HQ.out]; exact hlt)
        obtain ⟨j, hj, hj2, hjm⟩ := bodyX_get (is := js) (k := k) (by rw [HM.out]; exact hlt)
        have hra := HA.out.later HX.out.2
        have hrb := HB.out.later HX.out.2
        obtain ⟨ba, oa, rfl, -, hba, a0, a1, a2, a3, a4, a5⟩ := hra.at_ hi
        obtain ⟨bb, ob, rfl, -, hbb, b0, b1, b2, b3, b4, b5⟩ := hrb.at_ hj
        have HI : Hid (LabX X wr i.x i.A i.c ∧ InsOk i.x ∧ LabX Y wr j.x j.A j.c ∧ InsOk j.x) := by
          obtain ⟨_, _, _, _, _, _, p5⟩ := hra
          obtain ⟨_, _, _, _, _, _, q5⟩ := hrb
          exact ⟨(p5 i him).1, (p5 i him).2, (q5 j hjm).1, (q5 j hjm).2⟩
        have HS := Lib.hid (And.intro hi2 hj2)
        have hwb := HX.out.2.size
        clear hra hrb hi hj hi2 hj2 him hjm
        go_wp2_with fail
        refine (sameIns_any i.x j.x i.A j.A i.c j.c _ (HI.out.1.later (below_two wr _ _)) (HI.out.2.2.1.later (below_two wr _ _)) HI.out.2.1 HI.out.2.2.2).mono ?_
        rintro e w2 ⟨rfl, hb2⟩
        have HB2 : Hid (Below w.heap.size w w2) := HX.out.2.trans (((below_two wr _ _).trans (hb2.mono (by simp; omega))).mono hwb)
        clear hb2 a0 a1 a2 a3 a4 a5 b0 b1 b2 b3 b4 b5
        by_cases hxy : i.x = j.x
        · have HS2 := Lib.hid (body_eq_step HX.out.1 HS.out.1 HS.out.2 hxy)
          have hde : decide (i.x = j.x) = true := by simpa using hxy
          rw [hde]
          clear hxy hde
          go_wp2
          refine ⟨⟨k + 1, by omega, by go_num, HS2.out, HB2.out⟩, ?_⟩
          simp [intOf]; omega
        · have HN2 := Lib.hid (body_ne HS.out.1 HS.out.2 hxy)
          have hde : decide (i.x = j.x) = false := by simpa using hxy
          rw [hde]
          clear hxy hde
          go_wp2
          go_ret
          exact ⟨by simp [HN2.out], HB2.out⟩
      · obtain rfl : k = n := by omega
        go_wp2
        go_ret
        refine ⟨?_, HX.out.2⟩
        have := HX.out.1
        rw [List.take_of_length_le (by rw [bodyX_len, HQ.out]; omega), List.take_of_length_le (by rw [bodyX_len, HM.out]; omega)] at this
        simp [this]
  · have hne : ((n : Int) != m) = true := by simp; omega
    have HNE : Hid (bodyX is ≠ bodyX js) := fun e => by
      have h1 := bodyX_len is
      have h2 := bodyX_len js
      have := HQ.out; have := HM.out
      rw [e] at h1; omega
    clear hl
    go_enter Try.func31, Try.ntmps31
    go_wp2
    go_ret
    exact ⟨by simp [HNE.out], Below.refl _ _⟩
theorem csame_any {X Y : Nat → Prop} (v u : Value) (is js : List IV) (w : World) (ha : RdN X w v is) (hb : RdN Y w u js) :
    Calls Try.prog 16 #[v, u] w fun e w' => e = .returned (.bool (decide (bodyX is = bodyX js))) ∧ Below w.heap.size w w' := by
  have HE := Lib.hid (eqFunc_any v u is js w ha hb)
  obtain ⟨A, c, rfl, -, -, -⟩ := id ha
  obtain ⟨B, d, rfl, -, -, -⟩ := id hb
  clear ha hb
  generalize is.length = n at *
  generalize js.length = m at *
  go_enter Try.func16, Try.ntmps16
  go_wp2_with fail
  refine HE.out.mono ?_
  rintro e w' ⟨rfl, hb⟩
  have HB := Lib.hid hb
  clear hb
  go_wp2
  go_ret
  exact ⟨rfl, HB.out⟩
end Go.Proofs.Ytdbbcbffmbcjiaa
