/- checkFunc and prog.Check. -/
import Derived.Test.YtjaklmmekmhfcaaVb
import Derived.Test.YtjaklmmekmhfcaaAp
namespace Go.Proofs.Ytjaklmmekmhfcaa
open Go.RowKit
set_option linter.unusedSimpArgs false
set_option linter.unusedVariables false
end Go.Proofs.Ytjaklmmekmhfcaa

