/- Walks over code in memory: CheckOp, CheckCode, IndexFunc at Encode's closure. -/
import Derived.Test.YtjaklmmekmhfcaaWa
import Derived.Test.YtjaklmmekmhfcaaMem
namespace Go.Proofs.Ytjaklmmekmhfcaa
open Go.RowKit
set_option linter.unusedSimpArgs false
set_option linter.unusedVariables false
theorem lt_of_at {α : Type} {l : List α} {k : Nat} {o : α} (h : l[k]? = some o) : k < l.length := (List.getElem?_eq_some_iff.1 h).1
theorem at_of_lt {α : Type} {l : List α} {k : Nat} (h : k < l.length) : ∃ o, l[k]? = some o := ⟨l[k], List.getElem?_eq_some_iff.2 ⟨h, rfl⟩⟩
end Go.Proofs.Ytjaklmmekmhfcaa

