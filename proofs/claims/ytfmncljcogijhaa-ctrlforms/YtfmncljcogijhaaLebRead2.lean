/- What leb's signed readers and their like come to. -/
import Derived.Test.YtfmncljcogijhaaLebRead
namespace Go.Proofs.Ytfmncljcogijhaa
open Go.RowKit
set_option maxRecDepth 100000
set_option linter.unusedVariables false

/-- The number alone turned. -/
def on1 (f : Int → Int) (r : Int × Int × Int) : Int × Int × Int := (f r.1, r.2.1, r.2.2)

end Go.Proofs.Ytfmncljcogijhaa
