/- Package reader: signed numbers, and Failed. (Written by gen_ReaderS.py.) -/
import Derived.Test.YtfmncljcogijhaaCodeMath
namespace Go.Proofs.Ytfmncljcogijhaa
open Go.RowKit
set_option maxRecDepth 100000
set_option linter.unusedVariables false

/-- A signed number that was read. -/
def SgPost (K : IntKind) (lo hi : Int) (R : Int → Int → Prop) (p : PR Int) (g : Nat) (t : TypeId) (tl : RTl) (s : St) (w : World) (e : Ending) (w' : World) : Prop :=
  ∃ x, e = .returned (.int K x) ∧ lo ≤ x ∧ x ≤ hi ∧ RdrAt w' g t tl (nx p s) ∧ (∀ a l', bd s p = .ok (a, l') → R x a) ∧ Chg (fun k => k = g) w w'
theorem wrap32_rng (u : Int) : -2147483648 ≤ wrap32 u ∧ wrap32 u ≤ 2147483647 ∧ wrap32 u % 4294967296 = u % 4294967296 := by
  unfold wrap32
  refine ⟨?_, ?_, ?_⟩ <;> omega

def failedS (s : St) : Bool := match s with
  | .error _ => true
  | .ok _ => false
end Go.Proofs.Ytfmncljcogijhaa
