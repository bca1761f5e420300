/- Func, Program and Join answer just what the document says, errors too, whatever they are handed: for every program and number and slice of numbers and slice of numbers VerifyTells returns true. No condition. -/
import Derived.Test.YtgmkmlenhhhgkaaU22
import Derived.Test.YtgmkmlenhhhgkaaU15
import Derived.Test.YtgmkmlenhhhgkaaU18
import Derived.Test.YtgmkmlenhhhgkaaU16
namespace Go.Proofs.Ytgmkmlenhhhgkaa.verifyTells
open Go.ChangeShapes Go.WideShapes Go.ChangeAt Go.RowKit
set_option linter.unusedVariables false
set_option linter.unusedSimpArgs false
theorem own : ownKnob Try.prog.godebug = none := by kernel_rfl
theorem laidOut : laidOutB Try.prog = true := by kernel_rfl
theorem entsNil (W : World) : EntsRd W (.slice none 0 0) [] := ⟨none, 0, rfl, Nat.zero_le _, fun k pc s hk => by simp at hk⟩
theorem prog_one (p : List Fn) : ∃ er0 : Int, ∀ er, ProgIs p er → er = er0 := by
  by_cases h : ∃ er, ProgIs p er
  · obtain ⟨er0, h0⟩ := h
    exact ⟨er0, fun er he => progIs_one he h0⟩
  · exact ⟨0, fun er he => absurd ⟨er, he⟩ h⟩
/-- the reference's first errno. -/
noncomputable def firstE (p : List Fn) (n : Int) : Int := if progErr p = 0 ∧ (n < 0 ∨ (p.length : Int) ≤ n) then 3 else progErr p
end Go.Proofs.Ytgmkmlenhhhgkaa.verifyTells
namespace Go.Proofs.Ytgmkmlenhhhgkaa
/-- For every input the law VerifyTells returns true, and the arguments read as they did. -/
theorem verifyTells_holds : Rows.VerifyTellsSaid := verifyTells.over
end Go.Proofs.Ytgmkmlenhhhgkaa

