/- Encode's closure, and IndexFunc at it. -/
import Derived.Test.YtjaklmmekmhfcaaWb
namespace Go.Proofs.Ytjaklmmekmhfcaa
open Go.RowKit
set_option linter.unusedSimpArgs false
set_option linter.unusedVariables false
/-- the first op that has an errno, or -1. -/
def isFirst (l : List (Int × Int)) (r : Int) : Prop :=
  (r = -1 ∧ ∀ o ∈ l, chk o.1 o.2 = 0) ∨ ∃ k o, r = ((k : Nat) : Int) ∧ l[k]? = some o ∧ (∀ x ∈ l.take k, chk x.1 x.2 = 0) ∧ ¬ chk o.1 o.2 = 0
end Go.Proofs.Ytjaklmmekmhfcaa

