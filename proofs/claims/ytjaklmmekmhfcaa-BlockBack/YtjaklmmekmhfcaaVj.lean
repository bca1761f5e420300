/- SameProgram. -/
import Derived.Test.YtjaklmmekmhfcaaVi
import Derived.Test.YtjaklmmekmhfcaaWi
namespace Go.Proofs.Ytjaklmmekmhfcaa
open Go.RowKit
set_option linter.unusedSimpArgs false
set_option linter.unusedVariables false
end Go.Proofs.Ytjaklmmekmhfcaa

