/- code's source: blocks' types, labels, types, numbers of instructions. -/
import Derived.Test.YtfmncljcogijhaaCodeSrc
import Derived.Laws.BitsAllLaws
import Derived.Laws.BitsLemmas
namespace Go.Proofs.Ytfmncljcogijhaa
open Go.RowKit
set_option maxRecDepth 100000
set_option linter.unusedVariables false

theorem and127c (x : Int) : Go.bits .and .u8 (x % 256) 127 = x % 128 := by
  have h : 0 ≤ x % 256 ∧ x % 256 < 256 ∧ x % 256 % 128 = x % 128 := by omega
  exact (Go.bits_mask .u8 8 (by decide) Go.wraps_u8 7 (by decide) _ h.1 h.2.1).trans h.2.2
theorem RdrAt.lenS_le {w : World} {g : Nat} {t : TypeId} {tl : RTl} {s : St} (h : RdrAt w g t tl s) : lenS s ≤ 1000000 := by
  cases s with
  | error e => simp [lenS]
  | ok l => obtain ⟨A, c, r, h1, hr, hlc, hcm, hlm, -⟩ := h; exact hlm

theorem bl_key {s : St} {x : Int} (h3 : ∀ a l', bd s (pS 33) = .ok (a, l') → x = a) :
    (0 ≤ x → nx pBl s = nx (pS 33) s ∧ ∀ a l', bd s pBl = .ok (a, l') → x = a) ∧
    (¬ 0 ≤ x → 1 < (lenS s : Int) - lenS (nx (pS 33) s) → nx pBl s = failS 2 (nx (pS 33) s) ∧ ∀ a l', bd s pBl = .ok (a, l') → x = a) ∧
    (¬ 0 ≤ x → ¬ 1 < (lenS s : Int) - lenS (nx (pS 33) s) → x = -64 → nx pBl s = nx (pS 33) s ∧ ∀ a l', bd s pBl = .ok (a, l') → x = a) ∧
    (¬ 0 ≤ x → ¬ 1 < (lenS s : Int) - lenS (nx (pS 33) s) → x ≠ -64 → nx pBl s = holdS (x % 128) (nx (pS 33) s) ∧ ∀ a l', bd s pBl = .ok (a, l') → x = a) := by
  have hv : ∀ a l', bd s pBl = .ok (a, l') → x = a := fun a l' h => by
    cases s with
    | error e => cases h
    | ok l =>
      simp only [bd_ok, pBl] at h h3
      cases hp : pS 33 l with
      | error e => rw [hp] at h; cases h
      | ok r =>
        rw [hp] at h
        have e := h3 r.1 r.2 (by rw [hp])
        simp only [bd_ok] at h
        split at h
        · injection h with h; subst h; exact e
        · split at h
          · cases h
          · split at h
            · injection h with h; subst h; exact e
            · split at h
              · injection h with h; subst h; exact e
              · cases h
  refine ⟨fun h1 => ⟨?_, hv⟩, fun h1 h2 => ⟨?_, hv⟩, fun h1 h2 h4 => ⟨?_, hv⟩, fun h1 h2 h4 => ⟨?_, hv⟩⟩
  all_goals
    cases s with
    | error e => first | rfl | (simp [holdS, failS])
    | ok l =>
      simp only [nx_ok, bd_ok, pBl] at h3 ⊢
      cases hp : pS 33 l with
      | error e => first | rfl | (simp [holdS, failS])
      | ok r =>
        have := h3 r.1 r.2 (by rw [hp])
        subst this
        simp only [nx_ok, hp, bd_ok, lenS] at *
        first
          | (rw [if_pos h1]; rfl)
          | (rw [if_neg h1, if_pos (by omega)]; rfl)
          | (rw [if_neg h1, if_neg (by omega), if_pos h4]; rfl)
          | (rw [if_neg h1, if_neg (by omega), if_neg h4]; unfold holdS; split <;> simp_all [failS])
/-- An int that was read. -/
def IPostB (p : PR Int) (g : Nat) (t : TypeId) (tl : RTl) (s : St) (w : World) (e : Ending) (w' : World) : Prop :=
  ∃ x, e = .returned (.int .i64 x) ∧ -9223372036854775808 ≤ x ∧ x ≤ 9223372036854775807 ∧ RdrAt w' g t tl (nx p s) ∧ (∀ a l', bd s p = .ok (a, l') → x = a) ∧ Chg (fun k => k = g) w w'
end Go.Proofs.Ytfmncljcogijhaa
