/- square, progBegun. -/
import Derived.Test.YtjaklmmekmhfcaaVj
import Derived.Test.YtjaklmmekmhfcaaWj
import Derived.Deep.RegionHeld3
namespace Go.Proofs.Ytjaklmmekmhfcaa
open Go.RowKit
set_option linter.unusedSimpArgs false
set_option linter.unusedVariables false
def squareFns : List Fn := [(0, [], 0, [(21, 0), (12, 1), (20, 0), (10, 0)]), (1, [1], 1, [(8, 0), (3, 0), (7, 0), (13, 0)])]
theorem intsAt_nil (W : World) : IntsAt W (.slice none 0 0) [] := ⟨none, 0, rfl, Nat.zero_le _, fun k f h => by simp at h⟩
theorem sq1 : progErr squareFns = 0 := by decide +kernel
theorem sq2 : progBytes squareFns = [2, 0, 0, 0, 0, 12, 21, 12, 0, 0, 0, 1, 20, 10, 0, 0, 0, 0, 1, 1, 1, 1, 0, 8, 8, 0, 0, 0, 0, 3, 7, 13] := by decide +kernel
theorem sq3 : decProg (progBytes squareFns) = (squareFns, 0) := dec_prog _ sq1 (by rw [sq2]; decide)
theorem sq4 : (decProg (progBytes squareFns ++ [122])).2 = 1 := by decide +kernel
end Go.Proofs.Ytjaklmmekmhfcaa

