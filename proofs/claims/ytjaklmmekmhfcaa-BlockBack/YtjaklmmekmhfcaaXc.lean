/- Arguments that came in, besides. -/
import Derived.Test.YtjaklmmekmhfcaaXb
import Derived.BigQuiet
namespace Go.Proofs.Ytjaklmmekmhfcaa
open Go.ChangeShapes Go.WideShapes Go.ChangeAt Go.RowKit
set_option linter.unusedVariables false
section
variable {H : Type} {enc : TypeId × Value → H} {W : World}
theorem open_intsV {v : Value} {d : DataW H} {p : List MemPlace} (hv : ∃ a len cap, v = .slice a len cap) (h : DataW.Trod enc Try.prog W 0 (fun _ => true) true 26 v d p) : ∃ l : List Int, IntsAt W v l := by
  obtain ⟨ao, len, cap, rfl⟩ := hv
  obtain ⟨fuel, hf⟩ := h
  exact open_intsC (by simpa [Value.cells] using hf)
end
end Go.Proofs.Ytjaklmmekmhfcaa

