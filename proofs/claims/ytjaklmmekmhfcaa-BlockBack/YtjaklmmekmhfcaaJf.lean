/- verify's stack: take. -/
import Derived.Test.YtjaklmmekmhfcaaJe
namespace Go.Proofs.Ytjaklmmekmhfcaa
open Go.RowKit Go.Shelf
set_option linter.unusedSimpArgs false
set_option linter.unusedVariables false
attribute [local go_sem] Oper.semAt_some
/-- one type is taken from a stack. -/
def take1 (s : List Int × Bool) (t : Int) : List Int × Bool := (s.1.dropLast, s.2 || s.1.isEmpty || !standsB (topP s.1) t)
def takeP (s : List Int × Bool) (its : List (Nat × Int)) : List Int × Bool := its.foldl (fun s x => take1 s x.2) s
theorem takeP_snoc (s : List Int × Bool) (its : List (Nat × Int)) (x : Nat × Int) : takeP s (its ++ [x]) = take1 (takeP s its) x.2 := by simp [takeP]
theorem takeP_len (s : List Int × Bool) (its : List (Nat × Int)) : (takeP s its).1.length ≤ s.1.length := by
  induction its generalizing s with
  | nil => exact Nat.le_refl _
  | cons x r ih =>
    have h2 : (take1 s x.2).1.length ≤ s.1.length := by simp [take1]
    exact Nat.le_trans (ih (take1 s x.2)) h2
end Go.Proofs.Ytjaklmmekmhfcaa

