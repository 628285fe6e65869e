/- code has begun: what each statement of layer 6 asks first. -/
import Derived.Test.YtdbbcbffmbcjiaaCodePut4
import Derived.Test.YtdbbcbffmbcjiaaSame6b
namespace Go.Proofs.Ytdbbcbffmbcjiaa
open Go.RowKit
set_option maxRecDepth 100000
set_option linter.unusedVariables false

theorem code_b1 : pCode [1, 11, 9] = .ok ([⟨1, 0, 0, 0, [], 0⟩, ⟨11, 0, 0, 0, [], 0⟩], [9]) := by kernel_rfl
theorem code_b2 : pCode [5, 11] = .error 2 := by kernel_rfl
theorem code_b3 : encB [⟨1, 0, 0, 0, [], 0⟩, ⟨11, 0, 0, 0, [], 0⟩] = [1, 11] := by decide +kernel
theorem rdX_of_lit (w : World) (l : List Int) (hl : IsBytes l) : Rd (w.alloc (.cells (l.map (Value.int .u8)).toArray 5)) (w.alloc (.cells (l.map (Value.int .u8)).toArray 5)).heap.size (some ⟨w.heap.size, 0, none⟩) l := by
  have := rd_lit w l hl
  simpa using this
set_option maxHeartbeats 2000000 in
theorem begun6_any (w : World) :
    Calls Try.prog 7 #[] w fun e w' => e = .returned (.bool true) ∧ Below w.heap.size w w' := by
  have H1 := Lib.hid (ctake_any (some ⟨w.heap.size, 0, none⟩) [1, 11, 9] 3 3 _ (rdX_of_lit w [1, 11, 9] (fun z hz => by simp at hz; omega)) rfl (by omega) (by omega) (by decide))
  have HB0 := Lib.hid (below_a w (.cells #[.int .u8 1, .int .u8 11, .int .u8 9] 5))
  go_enter Try.func7, Try.ntmps7
  go_wp2_with fail
  refine H1.out.mono ?_
  rintro e w1 ⟨v, is, rfl, hO, hM, hb, hil⟩
  rw [code_b1] at *
  simp only [tkL, tkN, tkE, List.length_cons, List.length_nil] at *
  have hlen : is.length = 2 := by have := congrArg List.length hM; simpa using this
  obtain ⟨A, c, rfl, -, -, -⟩ := RdV.of_own hO.1
  have HO := Lib.hid (And.intro hO (And.intro hM (HB0.out.trans (hb.mono (by simp)))))
  clear hO hM hb H1 HB0
  rw [hlen] at *
  have H2 := Lib.hid (ctake_any (some ⟨w1.heap.size, 0, none⟩) [5, 11] 2 2 _ (rdX_of_lit w1 [5, 11] (fun z hz => by simp at hz; omega)) rfl (by omega) (by omega) (by decide))
  go_wp2_with fail
  refine H2.out.mono ?_
  rintro e w2 ⟨v2, is2, rfl, -, -, hb, -⟩
  rw [code_b2] at *
  simp only [tkN, tkE] at *
  have HB2 := Lib.hid ((below_a w1 (.cells #[.int .u8 5, .int .u8 11] 5)).trans (hb.mono (by simp)))
  clear hb H2
  have hR := HO.out.1.rd.later HB2.out
  have HR := Lib.hid hR
  have HI : Hid (∃ i, is[0]? = some i ∧ i.x.op = 1) := by
    have hM := HO.out.2.1
    match is, hM with
    | i :: t, hM => simp only [List.map_cons, List.cons.injEq] at hM; exact ⟨i, rfl, by rw [hM.1]⟩
  obtain ⟨i, hi, hi1⟩ := HI.out
  obtain ⟨bb, ob, rfl, -, -, a0, -⟩ := hR.at_ hi
  rw [hi1] at a0
  simp only [Nat.zero_mul, Nat.add_zero] at a0
  have HP := Lib.hid (cput_any none [] 0 0 (.slice (some ⟨bb, ob, none⟩) 2 c) is w2 (Rd.nil _ _ _) rfl (by omega) HR.out (by omega) (fun j hj => by
    have hM := HO.out.2.1
    have : j.x ∈ is.map IV.x := List.mem_map_of_mem hj
    rw [hM] at this
    simp at this
    rcases this with h | h <;> rw [h] <;> simp [OpOk]))
  clear hR hi hi1
  rw [HO.out.2.1, code_b3] at HP
  rw [List.nil_append] at HP
  go_wp2_with fail
  refine HP.out.mono ?_
  rintro e w3 ⟨v, rfl, ho, hb⟩
  obtain ⟨A3, c3, rfl, -, -, hr3⟩ := ho.rdX (fun z hz => by simp at hz; omega)
  simp only [List.length_cons, List.length_nil] at *
  have hs : (convert 22 9 (.slice A3 2 c3)).run Try.prog w3 = .ok (.string (strOfNums [1, 11])) w3 := hr3.rd.string c3
  have hst : ((strOfNums [1, 11]).toList == [1, 11]) = true := by decide +kernel
  have HB3 := Lib.hid hb
  have HR3 := Lib.hid (HR.out.later hb)
  clear ho hb hr3 a0 HP
  have HS1 := Lib.hid (csame_any _ _ is is w3 HR3.out HR3.out)
  have hd1 : decide (bodyX is = bodyX is) = true := by simp
  rw [hd1] at HS1
  go_wp2_with fail
  refine HS1.out.mono ?_
  rintro e w4 ⟨rfl, hb4⟩
  have HS2 := Lib.hid (csame_any _ _ is [] w4 (HR3.out.later hb4) (RdN.nil (fun _ => True) w4))
  have hd2 : decide (bodyX is = bodyX []) = false := by
    have hM := HO.out.2.1
    unfold bodyX
    rw [hM]
    decide
  rw [hd2] at HS2
  have HB4 := Lib.hid hb4
  clear hb4 hs hst hd1 hd2 HS1
  go_wp2_with fail
  refine HS2.out.mono ?_
  rintro e w5 ⟨rfl, hb5⟩
  have HB5 := Lib.hid hb5
  clear hb5
  go_wp2
  go_ret
  refine ⟨rfl, ?_⟩
  have q1 := HO.out.2.2
  have q2 := q1.trans (HB2.out.mono q1.size)
  have q3 := q2.trans (HB3.out.mono q2.size)
  have q4 := q3.trans (HB4.out.mono q3.size)
  exact q4.trans (HB5.out.mono q4.size)
end Go.Proofs.Ytdbbcbffmbcjiaa
