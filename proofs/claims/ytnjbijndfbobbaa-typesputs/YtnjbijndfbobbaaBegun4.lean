/- Has types begun? -/
import Derived.Test.YtnjbijndfbobbaaTypesTake3
import Derived.Test.YtnjbijndfbobbaaTypesPut2
import Derived.Test.YtnjbijndfbobbaaTypesLimPut
import Derived.Test.YtnjbijndfbobbaaTypesSame
import Derived.Test.YtnjbijndfbobbaaRows1
import Derived.Deep.Cut
namespace Go.Proofs.Ytnjbijndfbobbaa
open Go.RowKit
set_option maxRecDepth 100000
set_option linter.unusedVariables false

theorem FnV.later {X : Nat → Prop} {w w' : World} {v : Value} {f : Fn} (h : FnV X w v f) (hb : Below w.heap.size w w') : FnV X w' v f := by
  obtain ⟨A, c, B, d, h1, h2, h3, h4, h5, h6⟩ := h
  exact ⟨A, c, B, d, h1, h2.later hb, h3, h4, h5.later hb, h6⟩
theorem FnV.mono {X Y : Nat → Prop} {w : World} {v : Value} {f : Fn} (h : FnV X w v f) (hx : ∀ k, k < w.heap.size → X k → Y k) : FnV Y w v f := by
  obtain ⟨A, c, B, d, h1, h2, h3, h4, h5, h6⟩ := h
  exact ⟨A, c, B, d, h1, h2.mono hx, h3, h4, h5.mono hx, h6⟩
theorem WPost.arg {l : List Int} {w w' : World} {e : Ending} (h : WPost l w e w') (hl : IsBytes l) : ∃ A c, e = .returned (.slice A l.length c) ∧ Rd w' w'.heap.size A l ∧ l.length ≤ c ∧ c ≤ maxLen ∧ Below w.heap.size w w' := by
  obtain ⟨v, rfl, ho, hb⟩ := h
  obtain ⟨A, c, rfl, hr, h1, h2⟩ := ho.form2 hl
  exact ⟨A, c, rfl, hr, h1, h2, hb⟩
theorem take_fn_lit (l : List Int) (n : Nat) (w : World) (hl : IsBytes l) (hn : n = l.length) (hm : n ≤ 1000) :
    Calls Try.prog 31 #[.slice (some ⟨w.heap.size, 0, none⟩) n n] (w.alloc (.cells (l.map (Value.int .u8)).toArray 5)) (FnPost l (w.alloc (.cells (l.map (Value.int .u8)).toArray 5))) :=
  take_fn _ l n n _ (rdX_lit w l hl).rd hn (by omega) (Nat.le_refl _) (by simp only [maxLen]; omega)
theorem take_lim_lit (l : List Int) (n : Nat) (w : World) (hl : IsBytes l) (hn : n = l.length) (hm : n ≤ 1000) :
    Calls Try.prog 33 #[.slice (some ⟨w.heap.size, 0, none⟩) n n] (w.alloc (.cells (l.map (Value.int .u8)).toArray 5)) (LimPost l (w.alloc (.cells (l.map (Value.int .u8)).toArray 5))) :=
  take_lim _ l n n _ (rdX_lit w l hl).rd hn (by omega) (Nat.le_refl _) (by simp only [maxLen]; omega)

theorem fn_one : pFn [96, 1, 127, 0] = .ok (([127], []), []) := by kernel_rfl
theorem lim_one : pLim [1, 2, 3] = .ok (⟨2, 3, true⟩, []) := by kernel_rfl
theorem putFn_one : putFn ([127], []) = [96, 1, 127, 0] := by decide
theorem putLim_one : putLim ⟨2, 3, true⟩ = [1, 2, 3] := by decide

set_option maxHeartbeats 2000000 in
theorem begun4_any (w : World) : Calls Try.prog 28 #[] w fun e w' => e = .returned (.bool true) ∧ Below w.heap.size w w' := by
  have T1 : Hid (Calls Try.prog 31 #[.slice (some ⟨w.heap.size, 0, none⟩) 4 4] (w.alloc (.cells #[.int .u8 96, .int .u8 1, .int .u8 127, .int .u8 0] 5)) (FnPost [96, 1, 127, 0] (w.alloc (.cells #[.int .u8 96, .int .u8 1, .int .u8 127, .int .u8 0] 5)))) := take_fn_lit [96, 1, 127, 0] 4 w (fun z hz => by simp at hz; omega) rfl (by omega)
  have hb0 : Below w.heap.size w (w.alloc (.cells #[.int .u8 96, .int .u8 1, .int .u8 127, .int .u8 0] 5)) := (Below.refl _ _).alloc (Nat.le_refl _) _
  have HB0 := Lib.hid hb0
  clear hb0
  go_enter Try.func28, Try.ntmps28
  go_wp2_with (go_at_call 29; refine (value_any 29 (by simp) _ w (by omega) (by omega)).mono ?_; rintro e w' ⟨rfl, rfl⟩; simp only [valT, valE])
  generalize w.alloc (.cells #[.int .u8 96, .int .u8 1, .int .u8 127, .int .u8 0] 5) = w1 at *
  refine T1.out.mono ?_
  rintro e w2 ⟨v2, rfl, hv2, hb2⟩
  rw [fn_one] at hv2 ⊢
  simp only [fnOf, codeOf, readOf] at hv2 ⊢
  obtain ⟨A2, c2, B2, d2, rfl, -⟩ := id hv2
  simp only [List.length_cons, List.length_nil, Nat.zero_add, Nat.reduceAdd] at *
  have hbA := (Below.refl w2.heap.size w2).alloc (Nat.le_refl _) (.cells #[.slice A2 1 c2, .slice B2 0 d2] 52)
  have hO2 := Own.new w2 52 [.slice A2 1 c2, .slice B2 0 d2]
  have hB2 := (HB0.out.trans (hb2.mono HB0.out.size))
  have H2 : Hid (FnV (fun _ => True) (w2.alloc (.cells #[.slice A2 1 c2, .slice B2 0 d2] 52)) (.agg #[.slice A2 1 c2, .slice B2 0 d2]) ([127], []) ∧ Own (w2.alloc (.cells #[.slice A2 1 c2, .slice B2 0 d2] 52)) w2.heap.size 52 [.slice A2 1 c2, .slice B2 0 d2] ∧ Below w.heap.size w (w2.alloc (.cells #[.slice A2 1 c2, .slice B2 0 d2] 52))) := ⟨(hv2.mono fun _ _ _ => trivial).later hbA, hO2, hB2.trans (hbA.mono hB2.size)⟩
  clear hv2 hb2 hbA hO2 hB2 T1 HB0
  go_upto_region 4 with fail
  generalize w2.alloc (.cells #[.slice A2 1 c2, .slice B2 0 d2] 52) = w3 at *
  have T2' : Hid (Calls Try.prog 33 #[.slice (some ⟨w3.heap.size, 0, none⟩) 3 3] (w3.alloc (.cells #[.int .u8 1, .int .u8 2, .int .u8 3] 5)) (LimPost [1, 2, 3] (w3.alloc (.cells #[.int .u8 1, .int .u8 2, .int .u8 3] 5)))) := take_lim_lit [1, 2, 3] 3 w3 (fun z hz => by simp at hz; omega) rfl (by omega)
  have HB3 : Hid (Below w3.heap.size w3 (w3.alloc (.cells #[.int .u8 1, .int .u8 2, .int .u8 3] 5))) := (Below.refl _ _).alloc (Nat.le_refl _) _
  go_wp2_with fail
  generalize w3.alloc (.cells #[.int .u8 1, .int .u8 2, .int .u8 3] 5) = w4 at *
  refine T2'.out.mono ?_
  rintro e w5 ⟨rfl, hb5⟩
  rw [lim_one]
  simp only [limOf, codeOf, readOf, limV, List.length_cons, List.length_nil, Nat.zero_add, Nat.reduceAdd]
  have hbL := (Below.refl w5.heap.size w5).alloc (Nat.le_refl _) (.cells #[.int .u32 2, .int .u32 3, .bool true] 57)
  have hO5 := Own.new w5 57 [.int .u32 2, .int .u32 3, .bool true]
  have h35 := HB3.out.trans (hb5.mono HB3.out.size)
  have h36 := h35.trans (hbL.mono h35.size)
  have HW : Hid (Below w3.heap.size w3 (w5.alloc (.cells #[.int .u32 2, .int .u32 3, .bool true] 57)) ∧ Own (w5.alloc (.cells #[.int .u32 2, .int .u32 3, .bool true] 57)) w5.heap.size 57 [.int .u32 2, .int .u32 3, .bool true]) := ⟨h36, hO5⟩
  clear hbL hO5 h35 h36 hb5 T2' HB3
  go_upto_region 5 with fail
  generalize w5.alloc (.cells #[.int .u32 2, .int .u32 3, .bool true] 57) = W at *
  have hcells : ∀ W', Below W.heap.size W W' → (W'.cell? ⟨w2.heap.size, 0, none⟩ = some (.slice A2 1 c2) ∧ W'.cell? ⟨w2.heap.size, 1, none⟩ = some (.slice B2 0 d2)) ∧ W'.cell? ⟨w5.heap.size, 0, none⟩ = some (.int .u32 2) ∧ W'.cell? ⟨w5.heap.size, 1, none⟩ = some (.int .u32 3) ∧ W'.cell? ⟨w5.heap.size, 2, none⟩ = some (.bool true) := fun W' h => by
    have h1 := own_cells2 ((H2.out.2.1.later HW.out.1).later h)
    have h2 := own_cells3 (HW.out.2.later h)
    exact ⟨⟨h1.1, h1.2.1⟩, h2.1, h2.2.1, h2.2.2.1⟩
  have HC := Lib.hid hcells
  obtain ⟨⟨k0, k1⟩, k2, k3, k4⟩ := hcells W (Below.refl _ _)
  clear hcells
  have SF : Hid (Calls Try.prog 42 #[.agg #[.slice A2 1 c2, .slice B2 0 d2], .agg #[.slice A2 1 c2, .slice B2 0 d2]] W fun e w' => e = .returned (.bool true) ∧ Below W.heap.size W w') := (sameFn_any _ _ ([127], []) ([127], []) W (H2.out.1.later HW.out.1) (H2.out.1.later HW.out.1)).mono fun e w' h => by simpa using h
  have PF : Hid (∀ W', Below W.heap.size W W' → Calls Try.prog 38 #[.slice none 0 0, .agg #[.slice A2 1 c2, .slice B2 0 d2]] W' (fun e w' => ∃ Ap kp, e = .returned (.slice Ap 4 kp) ∧ Below W'.heap.size W' w')) := fun W' h => (put_fn none [] 0 0 _ ([127], []) W' (Rd.nil _ _ _) rfl (by omega) (by simp [maxLen]) (by omega) ((H2.out.1.later HW.out.1).later h) (by simp) (by simp)).mono fun e w' h => by
    rw [List.nil_append, putFn_one] at h
    obtain ⟨Ap, kp, he, -, -, -, hb⟩ := h.arg (fun z hz => by simp at hz; omega)
    exact ⟨Ap, kp, he, hb⟩
  have PL : Hid (∀ W', Calls Try.prog 40 #[.slice none 0 0, .agg #[.int .u32 2, .int .u32 3, .bool true]] W' (fun e w' => ∃ Ap kp, e = .returned (.slice Ap 3 kp) ∧ Below W'.heap.size W' w')) := fun W' => (put_lim none [] 0 0 ⟨2, 3, true⟩ W' (Rd.nil _ _ _) rfl (by omega) (by simp [maxLen]) (by omega) ⟨⟨by decide, by decide⟩, by decide, by decide⟩).mono fun e w' h => by
    rw [List.nil_append, putLim_one] at h
    obtain ⟨Ap, kp, he, -, -, -, hb⟩ := h.arg (fun z hz => by simp at hz; omega)
    exact ⟨Ap, kp, he, hb⟩
  have HZ := Lib.hid (H2.out.2.2.trans (HW.out.1.mono H2.out.2.2.size))
  clear H2 HW
  go_wp2_with (first | (go_at_call 40; refine (PL.out _).mono ?_; rintro e w9 ⟨A9, k9, rfl, hb9⟩; have HB9 := Lib.hid (HB8.out.trans (hb9.mono HB8.out.size)); clear hb9) | (go_at_call 38; refine (PF.out w7 HB7.out).mono ?_; rintro e w8 ⟨A8, k8, rfl, hb8⟩; have HB8 := Lib.hid (HB7.out.trans (hb8.mono HB7.out.size)); clear hb8 k0 k1 k2 k3 k4; obtain ⟨⟨k0, k1⟩, k2, k3, k4⟩ := HC.out w8 HB8.out) | (go_at_call 42; refine SF.out.mono ?_; rintro e w7 ⟨rfl, hb7⟩; have HB7 := Lib.hid hb7; clear hb7 k0 k1 k2 k3 k4; obtain ⟨⟨k0, k1⟩, k2, k3, k4⟩ := HC.out w7 HB7.out) | (go_at_call 35; refine (ref_any 35 (by simp) _ _).mono ?_; rintro e w6 ⟨rfl, rfl⟩; simp only [isRef]))
  go_ret
  exact ⟨rfl, HZ.out.trans (HB9.out.mono HZ.out.size)⟩
end Go.Proofs.Ytnjbijndfbobbaa
