/- isNumber, namesOne, checkFunc's closure, ContainsFunc at it; typed. -/
import Derived.Test.YtjaklmmekmhfcaaPq
namespace Go.Proofs.Ytjaklmmekmhfcaa
open Go.RowKit
set_option linter.unusedSimpArgs false
set_option linter.unusedVariables false
/-- the boxes that checkFunc's closure has captured. -/
def Boxes (w : World) (bf bn : Nat) (f : Fn) (n : Nat) : Prop :=
  ∃ c0 c1 c2 c3, bf < w.heap.size ∧ bn < w.heap.size ∧ w.cell? ⟨bf, 0, none⟩ = some c0 ∧ w.cell? ⟨bf, 1, none⟩ = some c1 ∧ w.cell? ⟨bf, 2, none⟩ = some c2 ∧ w.cell? ⟨bf, 3, none⟩ = some c3 ∧ w.cell? ⟨bn, 0, none⟩ = some (.int .i64 n) ∧ FnAt w c0 c1 c2 c3 f
theorem Boxes.below {w w' : World} {bf bn : Nat} {f : Fn} {n : Nat} (h : Boxes w bf bn f n) (hb : Below w.heap.size w w') : Boxes w' bf bn f n := by
  obtain ⟨c0, c1, c2, c3, h1, h2, a0, a1, a2, a3, a4, hf⟩ := h
  exact ⟨c0, c1, c2, c3, Nat.lt_of_lt_of_le h1 hb.size, Nat.lt_of_lt_of_le h2 hb.size, (hb.cell (p := ⟨bf, 0, none⟩) h1).trans a0, (hb.cell (p := ⟨bf, 1, none⟩) h1).trans a1, (hb.cell (p := ⟨bf, 2, none⟩) h1).trans a2, (hb.cell (p := ⟨bf, 3, none⟩) h1).trans a3, (hb.cell (p := ⟨bn, 0, none⟩) h2).trans a4, hf.below hb⟩
end Go.Proofs.Ytjaklmmekmhfcaa

