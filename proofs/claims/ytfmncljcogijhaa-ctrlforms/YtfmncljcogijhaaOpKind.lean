/- op.Width, op.Kind and what they call: what an instruction is. -/
import Derived.Test.YtfmncljcogijhaaInts
namespace Go.Proofs.Ytfmncljcogijhaa
open Go.RowKit
set_option maxRecDepth 100000
set_option linter.unusedVariables false

/-- How many bytes an instruction moves. -/
def wd (x : Int) : Int :=
  if x = 44 ∨ x = 45 ∨ x = 48 ∨ x = 49 ∨ x = 58 ∨ x = 60 then 1
  else if x = 46 ∨ x = 47 ∨ x = 50 ∨ x = 51 ∨ x = 59 ∨ x = 61 then 2
  else if x = 40 ∨ x = 52 ∨ x = 53 ∨ x = 54 ∨ x = 62 then 4
  else if x = 41 ∨ x = 55 then 8 else 0
/-- Of floats and vectors. -/
def fl (x : Int) : Prop := (42 ≤ x ∧ x ≤ 43) ∨ (56 ≤ x ∧ x ≤ 57) ∨ (67 ≤ x ∧ x ≤ 68) ∨ (91 ≤ x ∧ x ≤ 102) ∨ (139 ≤ x ∧ x ≤ 166) ∨ (168 ≤ x ∧ x ≤ 171) ∨ (174 ≤ x ∧ x ≤ 191) ∨ (64512 ≤ x ∧ x ≤ 64519) ∨ x = 253 ∨ (64768 ≤ x ∧ x ≤ 65023)
/-- Of numbers from the stack alone. -/
def nu (x : Int) : Prop := (69 ≤ x ∧ x ≤ 90) ∨ (103 ≤ x ∧ x ≤ 138) ∨ x = 167 ∨ (172 ≤ x ∧ x ≤ 173) ∨ (192 ≤ x ∧ x ≤ 196)
instance (x : Int) : Decidable (fl x) := by unfold fl; infer_instance
instance (x : Int) : Decidable (nu x) := by unfold nu; infer_instance
/-- What stands behind an instruction of one byte that neither reckons nor loads nor stores. -/
def kb (x : Int) : Int × Int :=
  if x = 0 ∨ x = 1 ∨ x = 5 ∨ x = 11 ∨ x = 15 ∨ x = 26 ∨ x = 27 ∨ x = 209 then (0, 0)
  else if x = 12 ∨ x = 13 ∨ x = 16 ∨ x = 32 ∨ x = 33 ∨ x = 34 ∨ x = 35 ∨ x = 36 ∨ x = 37 ∨ x = 38 ∨ x = 63 ∨ x = 64 ∨ x = 210 then (1, 0)
  else if x = 17 then (2, 0)
  else if x = 65 then (3, 0)
  else if x = 66 then (4, 0)
  else if x = 2 ∨ x = 3 ∨ x = 4 then (6, 0)
  else if x = 14 then (7, 0)
  else if x = 28 ∨ x = 208 then (8, 0)
  else (0, 2)
/-- What stands behind an instruction behind the byte 0xfc. -/
def kf (x : Int) : Int × Int :=
  if x = 64521 ∨ x = 64523 ∨ x = 64525 ∨ x = 64527 ∨ x = 64528 ∨ x = 64529 then (1, 0)
  else if x = 64520 ∨ x = 64522 ∨ x = 64524 ∨ x = 64526 then (2, 0)
  else (0, 2)
/-- What stands behind an instruction, or why it is none. -/
def kd (x : Int) : Int × Int := if fl x then (0, 5) else if nu x then (0, 0) else if 0 < wd x then (5, 0) else if 64512 ≤ x then kf x else kb x
def pr (p : Int × Int) : Value := .tuple #[.int .i64 p.1, .int .i64 p.2]

end Go.Proofs.Ytfmncljcogijhaa
