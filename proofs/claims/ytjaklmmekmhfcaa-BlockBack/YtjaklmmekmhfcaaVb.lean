/- ContainsFunc at checkFunc's closure and at typed's; typed, checkFunc. -/
import Derived.Test.YtjaklmmekmhfcaaVa
namespace Go.Proofs.Ytjaklmmekmhfcaa
open Go.RowKit
set_option linter.unusedSimpArgs false
set_option linter.unusedVariables false
theorem all_snoc {α : Type} {p : α → Bool} {l : List α} {k : Nat} {o : α} (h : ∀ x ∈ l.take k, p x = true) (ho : l[k]? = some o) (hp : p o = true) : ∀ x ∈ l.take (k + 1), p x = true := by
  rw [take_snoc l k _ ho]; intro x hx; rcases List.mem_append.1 hx with hx | hx
  · exact h x hx
  · simp at hx; subst hx; exact hp
theorem all_true {α : Type} {p : α → Bool} {l : List α} (h : ∀ x ∈ l, p x = true) : l.all p = true := List.all_eq_true.2 h
theorem all_false {α : Type} {p : α → Bool} {l : List α} {k : Nat} {o : α} (ho : l[k]? = some o) (hp : p o = false) : l.all p = false := by
  cases h : l.all p
  · rfl
  · have := List.all_eq_true.1 h o (List.mem_of_getElem? ho); rw [hp] at this; cases this
end Go.Proofs.Ytjaklmmekmhfcaa

