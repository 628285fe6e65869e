/- ctrl has begun. -/
import Derived.Test.YtfmncljcogijhaaCtrlSrc2
namespace Go.Proofs.Ytfmncljcogijhaa
open Go.RowKit
set_option maxRecDepth 100000
set_option linter.unusedVariables false

/-- An instruction of which just the number is set. -/
def opI (z : Int) : IV := ⟨⟨z, 0, 0, 0, [], 0⟩, none, 0⟩
theorem opI_ok (z : Int) : InsOk (opI z).x := ⟨by simp [opI], by simp [opI], by simp [opI], by simp [opI], by simp [opI], by simp [opI], by simp [opI], by simp [opI], by intro x hx; simp [opI] at hx, by simp [opI]⟩
theorem opsOf_opI (l : List Int) : opsOf (l.map opI) = l := by
  induction l with
  | nil => rfl
  | cons a l ih => unfold opsOf at *; rw [List.map_cons, List.map_cons, ih]; rfl
theorem rdN_ops (w : World) (l : List Int) (hl : l.length ≤ 5000) : RdN (· < (w.alloc (.cells (flat (l.map opI)).toArray 30)).heap.size) (w.alloc (.cells (flat (l.map opI)).toArray 30)) (.slice (some ⟨w.heap.size, 0, none⟩) l.length l.length) (l.map opI) := by
  refine ⟨_, _, by rw [List.length_map], by rw [List.length_map]; exact Nat.le_refl _, by unfold maxLen; omega, (rdV_ins w _).mono fun k hk e => hk, fun i hi => ?_⟩
  obtain ⟨z, _, rfl⟩ := List.mem_map.1 hi
  exact ⟨LabX.nil _ _ rfl, opI_ok z⟩
theorem rdN_nil (w : World) : RdN (· < w.heap.size) w (.slice none 0 0) [] := RdN.nil _ _
theorem res_if : ∃ s, resB [4, 5, 11, 11] = some s ∧ fw 0 s.f 0 = some (.agg #[.int .i64 1, .int .i64 2]) := ⟨_, rfl, rfl⟩
set_option maxHeartbeats 2000000 in
theorem begun10_any (w : World) : Calls Try.prog 7 #[] w fun e w' => e = .returned (.bool true) ∧ Below w.heap.size w w' := by
  have C1 := Lib.hid (kblocks_any (some ⟨w.heap.size, 0, none⟩) 4 4 ([4, 5, 11, 11].map opI) _ (rdN_ops w [4, 5, 11, 11] (by decide)) rfl (by omega))
  go_enter Try.func7, Try.ntmps7
  go_wp2_with fail
  refine C1.out.mono ?_
  rintro e w1 ⟨v, rfl, h1, hb⟩
  rw [opsOf_opI] at h1 ⊢
  obtain ⟨s, hs, hf⟩ := res_if
  rw [hs] at h1 ⊢
  obtain ⟨mb, rfl, h2, h3⟩ := h1
  have H1 := Lib.hid (And.intro h3 (And.intro hf hb))
  clear C1 h2 h3 hf hb hs
  simp only [Option.isSome_some]
  go_wp2_with fail
  refine (kblocks_any none 0 0 [] w1 (rdN_nil w1) rfl (by omega)).mono ?_
  rintro e w2 ⟨v, rfl, h1, hb⟩
  have hr : resB (opsOf []) = none := rfl
  rw [hr] at h1 ⊢
  simp only [BlkV] at h1
  subst h1
  simp only [Option.isSome_none]
  have hl := (H1.out.1.later hb).look under_int under_bmap (zero_block _) 0 (by decide) false
  rw [H1.out.2.1] at hl
  simp only [Bool.false_eq_true, if_false, Option.getD_some] at hl
  have C2 := Lib.hid (kdepth_any (some ⟨w2.heap.size, 0, none⟩) 3 3 ([2, 11, 11].map opI) _ (rdN_ops w2 [2, 11, 11] (by decide)) rfl (by omega))
  have HB := Lib.hid hb
  clear hb hr
  go_wp2_with fail
  refine C2.out.mono ?_
  rintro e w3 ⟨rfl, hb⟩
  rw [opsOf_opI]
  have : depB (resB [2, 11, 11]) = 1 := rfl
  rw [this]
  have HB3 := Lib.hid hb
  clear hb this C2 hl
  go_wp2
  go_ret
  refine ⟨rfl, ?_⟩
  have a1 : Below w.heap.size w w1 := ((Below.refl _ _).alloc (Nat.le_refl _) _).trans (H1.out.2.2.mono (by simp))
  have a2 : Below w.heap.size w w2 := a1.trans (HB.out.mono a1.size)
  exact a2.trans (((Below.refl _ w2).alloc a2.size _).trans (HB3.out.mono (by have := a2.size; simp; omega)))
end Go.Proofs.Ytfmncljcogijhaa
