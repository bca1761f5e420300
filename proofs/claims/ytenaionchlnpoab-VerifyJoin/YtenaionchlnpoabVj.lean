/- SameProgram. -/
import Derived.Test.YtenaionchlnpoabVi
import Derived.Test.YtenaionchlnpoabWi
namespace Go.Proofs.Ytenaionchlnpoab
open Go.RowKit
set_option linter.unusedSimpArgs false
set_option linter.unusedVariables false
end Go.Proofs.Ytenaionchlnpoab

