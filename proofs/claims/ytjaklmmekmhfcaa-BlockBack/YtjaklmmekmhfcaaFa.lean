/- flow.isPlace, flow.check. -/
import Derived.Test.YtjaklmmekmhfcaaVd
import Derived.Test.YtjaklmmekmhfcaaVg
import Derived.Test.YtjaklmmekmhfcaaAp
import Derived.Test.YtjaklmmekmhfcaaPf
namespace Go.Proofs.Ytjaklmmekmhfcaa
open Go.RowKit
set_option linter.unusedSimpArgs false
set_option linter.unusedVariables false
/-- is there an op? -/
def isAt (n : Nat) (pc : Int) : Bool := decide (0 ≤ pc) && decide (pc < (n : Int))
/-- the box in which code lies that a closure has captured. -/
def CodeBox (w : World) (bc : Nat) (l : List (Int × Int)) : Prop := ∃ v, bc < w.heap.size ∧ w.cell? ⟨bc, 0, none⟩ = some v ∧ OpsAt w v l
theorem CodeBox.below {w w' : World} {bc : Nat} {l : List (Int × Int)} (h : CodeBox w bc l) (hb : Below w.heap.size w w') : CodeBox w' bc l := by
  obtain ⟨v, h1, h2, h3⟩ := h
  exact ⟨v, Nat.lt_of_lt_of_le h1 hb.size, (hb.cell (p := ⟨bc, 0, none⟩) h1).trans h2, h3.below hb⟩
end Go.Proofs.Ytjaklmmekmhfcaa

