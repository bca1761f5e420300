/- opBegun. -/
import Derived.Test.YtjaklmmekmhfcaaWe
import Derived.Test.YtjaklmmekmhfcaaWh
import Derived.Test.YtjaklmmekmhfcaaWi
namespace Go.Proofs.Ytjaklmmekmhfcaa
open Go.RowKit
set_option linter.unusedSimpArgs false
set_option linter.unusedVariables false
/-- the ops of 'loop'. -/
def loopOps : List (Int × Int) := [(1, 3), (3, 0), (20, 0), (1, 1), (6, 0), (3, 0), (11, 8), (10, 1), (2, 0), (13, 0)]
theorem enc_fact : encStr [(1, 3), (3, 0)] = [1, 0, 0, 0, 3, 3] ∧ codeErr [(1, 3), (3, 0)] = 0 := by decide +kernel
theorem dec_fact : dec (items 6 [1, 255, 255, 255, 254, 13]) [] = ([(1, -2), (13, 0)], 0) := by decide +kernel
theorem chk_fact1 : chk 1 3 = 0 := by decide +kernel
theorem chk_fact2 : chk 2 1 = 1 := by decide +kernel
theorem wrap_fact : wrap32 2147483648 = -2147483648 := by decide +kernel
end Go.Proofs.Ytjaklmmekmhfcaa

