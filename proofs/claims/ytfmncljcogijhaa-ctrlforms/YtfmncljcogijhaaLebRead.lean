/- What leb's readers come to, over the given translation: each function's contract. -/
import Derived.Test.YtfmncljcogijhaaBytes
import Derived.Test.YtfmncljcogijhaaLebMath
namespace Go.Proofs.Ytfmncljcogijhaa
open Go.RowKit
set_option maxRecDepth 100000
set_option linter.unusedVariables false

/-- What 'take' hands back. -/
def three (a b c : IntKind) (r : Int × Int × Int) : Ending := .returned (.tuple #[.int a r.1, .int b r.2.1, .int c r.2.2])

end Go.Proofs.Ytfmncljcogijhaa
