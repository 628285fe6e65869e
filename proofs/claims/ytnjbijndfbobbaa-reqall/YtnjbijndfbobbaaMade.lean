/- Rows that are made of one value. -/
import Derived.Test.YtnjbijndfbobbaaBytes
namespace Go.Proofs.Ytnjbijndfbobbaa
open Go.RowKit
set_option maxRecDepth 100000
set_option linter.unusedVariables false

theorem made_one (v : Value) (n : Nat) : madeCells #[v] n = Array.replicate n v := by
  apply Array.ext
  · simp [madeCells]
  · intro i h1 h2
    simp [madeCells, Nat.mod_one]

end Go.Proofs.Ytnjbijndfbobbaa
