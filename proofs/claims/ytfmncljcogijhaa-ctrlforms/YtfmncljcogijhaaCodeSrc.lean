/- code's source: what its calls come to. -/
import Derived.Test.YtfmncljcogijhaaReaderS
import Derived.Test.YtfmncljcogijhaaNums32
namespace Go.Proofs.Ytfmncljcogijhaa
open Go.RowKit
set_option maxRecDepth 100000
set_option linter.unusedVariables false

def holdS (x : Int) (s : St) : St := if valE x = 0 then s else failS (valE x) s
theorem zero_key {s : St} {x : Int} (h3 : ∀ a l', bd s pByte = .ok (a, l') → x = a) :
    (x = 0 → nx pZero s = nx pByte s ∧ ∀ a l', bd s pZero = .ok (a, l') → 0 = a) ∧ (x ≠ 0 → nx pZero s = failS 2 (nx pByte s) ∧ ∀ a l', bd s pZero ≠ .ok (a, l')) := by
  cases s with
  | error e => exact ⟨fun _ => ⟨rfl, fun a l' h => by cases h⟩, fun _ => ⟨rfl, fun a l' h => by cases h⟩⟩
  | ok l =>
    simp only [nx_ok, bd_ok, pZero, seq] at h3 ⊢
    cases hp : pByte l with
    | error e => simp [failS]
    | ok r =>
      have := h3 r.1 r.2 (by rw [hp])
      subst this
      refine ⟨fun hx => ?_, fun hx => ?_⟩
      · simp only [bd_ok, hx, if_true]; exact ⟨trivial, fun a l' h => by injection h with h; injection h⟩
      · simp [hx, failS]
theorem al_key {s : St} {x : Int} (h3 : ∀ a l', bd s (pU 32) = .ok (a, l') → x = a) :
    (¬ 31 < x → nx pAl s = nx (pU 32) s ∧ ∀ a l', bd s pAl = .ok (a, l') → x = a) ∧ (31 < x → nx pAl s = failS 2 (nx (pU 32) s) ∧ ∀ a l', bd s pAl ≠ .ok (a, l')) := by
  cases s with
  | error e => exact ⟨fun _ => ⟨rfl, fun a l' h => by cases h⟩, fun _ => ⟨rfl, fun a l' h => by cases h⟩⟩
  | ok l =>
    simp only [nx_ok, bd_ok, pAl, seq] at h3 ⊢
    cases hp : pU 32 l with
    | error e => simp [failS]
    | ok r =>
      have := h3 r.1 r.2 (by rw [hp])
      subst this
      refine ⟨fun hx => ?_, fun hx => ?_⟩
      · simp only [bd_ok]; rw [if_neg hx]; exact ⟨rfl, fun a l' h => by injection h with h; injection h⟩
      · simp [hx, failS]
end Go.Proofs.Ytfmncljcogijhaa
