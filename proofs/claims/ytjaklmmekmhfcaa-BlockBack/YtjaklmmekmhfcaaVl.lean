/- progBegun. -/
import Derived.Test.YtjaklmmekmhfcaaVk
namespace Go.Proofs.Ytjaklmmekmhfcaa
open Go.RowKit
set_option linter.unusedSimpArgs false
set_option linter.unusedVariables false
theorem FnsAt.shp {W : World} {v : Value} {l : List Fn} (h : FnsAt W v l) : ∃ p c, v = .slice p l.length c := by
  obtain ⟨p, c, rfl, _⟩ := h
  exact ⟨p, c, rfl⟩
theorem sq5 : decProg (progBytes squareFns ++ [122]) = ([], 1) := by
  rcases prog_dec (progBytes squareFns ++ [122]) with ⟨h1, h2⟩ | ⟨h1, _⟩
  · exact Prod.ext h2 sq4
  · rw [sq4] at h1; cases h1
structure Tok : Prop where
end Go.Proofs.Ytjaklmmekmhfcaa

