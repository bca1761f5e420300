/- prog.Decode. -/
import Derived.Test.YtjaklmmekmhfcaaVh
namespace Go.Proofs.Ytjaklmmekmhfcaa
open Go.RowKit
set_option linter.unusedSimpArgs false
set_option linter.unusedVariables false
theorem fnsAt_nil (W : World) : FnsAt W (.slice none 0 0) [] := ⟨none, 0, rfl, Nat.zero_le _, fun k f h => by simp at h⟩
end Go.Proofs.Ytjaklmmekmhfcaa

