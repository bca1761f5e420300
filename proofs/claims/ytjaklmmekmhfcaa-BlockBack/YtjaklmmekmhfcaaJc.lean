/- verify's stack: pop, leave, result. -/
import Derived.Test.YtjaklmmekmhfcaaJb
import Derived.Test.YtjaklmmekmhfcaaAp
namespace Go.Proofs.Ytjaklmmekmhfcaa
open Go.RowKit
set_option linter.unusedSimpArgs false
set_option linter.unusedVariables false
/-- the top, and what is left. -/
def topP (l : List Int) : Int := l.getLast?.getD 0
end Go.Proofs.Ytjaklmmekmhfcaa

