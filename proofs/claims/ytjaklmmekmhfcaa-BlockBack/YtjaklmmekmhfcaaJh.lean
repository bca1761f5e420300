/- verify's stack: turn, call, do. -/
import Derived.Test.YtjaklmmekmhfcaaJg
import Derived.Test.YtjaklmmekmhfcaaFg
namespace Go.Proofs.Ytjaklmmekmhfcaa
open Go.RowKit
set_option linter.unusedSimpArgs false
set_option linter.unusedVariables false
theorem tk_len (s : St) (ts : List Int) : (tk s ts).1.length ≤ s.1.length := takeP_len s _
theorem popS_len (s : St) : (popS s).1.length ≤ s.1.length := by simp [popS]
/-- what 'do' makes of a stack. -/
def doS (s : St) (c : Int) : St := if (plainTL c).2 = [] then tk s (plainTL c).1 else lv (tk s (plainTL c).1) (plainTL c).2
theorem tk_nil (s : St) : tk s [] = s := rfl
end Go.Proofs.Ytjaklmmekmhfcaa

