/- read. -/
import Derived.Test.YtjaklmmekmhfcaaPr
import Derived.RangeFuncBox
namespace Go.Proofs.Ytjaklmmekmhfcaa
open Go.RowKit
set_option linter.unusedSimpArgs false
set_option linter.unusedVariables false
abbrev FnV := Value × Value × Value × Value
def fnCells (q : List FnV) : List Value := q.flatMap fun c => [c.1, c.2.1, c.2.2.1, c.2.2.2]
theorem fnCells_length (q : List FnV) : (fnCells q).length = q.length * 4 := by
  induction q with
  | nil => rfl
  | cons x r ih => simp only [fnCells, List.flatMap_cons, List.length_append, List.length_cons, List.length_nil] at ih ⊢; omega
theorem fnCells_at (q : List FnV) : ∀ (k : Nat) (c : FnV), q[k]? = some c → (fnCells q)[k * 4]? = some c.1 ∧ (fnCells q)[k * 4 + 1]? = some c.2.1 ∧ (fnCells q)[k * 4 + 2]? = some c.2.2.1 ∧ (fnCells q)[k * 4 + 3]? = some c.2.2.2 := by
  induction q with
  | nil => intro k c h; simp at h
  | cons x r ih =>
    intro k c h
    cases k with
    | zero => simp at h; subst h; simp [fnCells]
    | succ k =>
      have := ih k c (by simpa using h)
      simp only [fnCells, List.flatMap_cons] at this ⊢
      refine ⟨?_, ?_, ?_, ?_⟩
      · rw [List.getElem?_append_right (by simp; omega)]; simpa [show (k + 1) * 4 - 4 = k * 4 from by omega] using this.1
      · rw [List.getElem?_append_right (by simp; omega)]; simpa [show (k + 1) * 4 + 1 - 4 = k * 4 + 1 from by omega] using this.2.1
      · rw [List.getElem?_append_right (by simp; omega)]; simpa [show (k + 1) * 4 + 2 - 4 = k * 4 + 2 from by omega] using this.2.2.1
      · rw [List.getElem?_append_right (by simp; omega)]; simpa [show (k + 1) * 4 + 3 - 4 = k * 4 + 3 from by omega] using this.2.2.2
end Go.Proofs.Ytjaklmmekmhfcaa

