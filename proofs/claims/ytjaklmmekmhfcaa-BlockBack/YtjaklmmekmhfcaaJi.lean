/- verify's stack: call; verify.behind. -/
import Derived.Test.YtjaklmmekmhfcaaJh
namespace Go.Proofs.Ytjaklmmekmhfcaa
open Go.RowKit
set_option linter.unusedSimpArgs false
set_option linter.unusedVariables false
theorem ints_take {w : World} {p : Option Addr} {q k : Nat} {L : List Int} (h : IntsAt w (.slice p L.length q) L) (hk : k ≤ L.length) : IntsAt w (.slice p k q) (L.take k) := by
  obtain ⟨p', q', he, hm, hc⟩ := h
  cases he
  refine ⟨p, q, by rw [List.length_take, Nat.min_eq_left hk], by rw [List.length_take]; omega, fun j z hj => ?_⟩
  have hj2 : j < k := by have := lt_of_at hj; rw [List.length_take] at this; omega
  rw [List.getElem?_take_of_lt hj2] at hj
  exact hc j z hj
end Go.Proofs.Ytjaklmmekmhfcaa

