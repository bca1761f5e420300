/- slices.Backward at numbers: the iterator's contract. -/
import Derived.Test.YtjaklmmekmhfcaaJd
import Derived.Test.YtjaklmmekmhfcaaWh
namespace Go.Proofs.Ytjaklmmekmhfcaa
open Go.RowKit Go.Shelf
set_option linter.unusedSimpArgs false
set_option linter.unusedVariables false
attribute [local go_sem] Oper.semAt_some
/-- what comes, from the k-th place down: the place, and what lies there. -/
def itsB (ts : List Int) : Nat → List (Nat × Int)
  | 0 => []
  | k + 1 => (k, ts.getD k 0) :: itsB ts k
theorem itsB_length (ts : List Int) (k : Nat) : (itsB ts k).length = k := by
  induction k with
  | zero => rfl
  | succ k ih => simp [itsB, ih]
abbrev encsB (x : Nat × Int) : Array Value := #[.int .i64 x.1, .int .i64 x.2]
/-- the box of the slice, and what it holds, stay as they are. -/
def KpB (bs : Nat) (v : Value) (ts : List Int) (W W' : World) : Prop := (Boxed W bs 26 v ∧ IntsAt W v ts) → (Boxed W' bs 26 v ∧ IntsAt W' v ts)
theorem kpB_t {bs : Nat} {v : Value} {ts : List Int} {A B C : World} (h : KpB bs v ts A B) (k : KpB bs v ts B C) : KpB bs v ts A C := fun x => k (h x)
theorem kpB_b {bs : Nat} {v : Value} {ts : List Int} {w : World} (W : World) (l : Nat) (o o' : Obj) (_ : w.heap.size ≤ l) (h : W.heap[l]? = some o) (ho : o.isCells = false) (_ : o.isWalk = false) : KpB bs v ts W (W.putObj l o') := fun ⟨x, y⟩ => by
  refine ⟨x.kept (grownBy_putObj' W l o') (fun e => by cases e; rw [show W.heap[bs]? = _ from x] at h; cases h; cases ho), ?_⟩
  obtain ⟨p, c, rfl, hm, hc⟩ := y
  refine ⟨p, c, rfl, hm, fun k z hk => ?_⟩
  obtain ⟨b, off, rfl, hb, g⟩ := hc k z hk
  have hg := grownBy_putObj' W l o'
  have hne : b ≠ l := fun e => by
    subst e
    obtain ⟨cs, t, fz, hcs, _⟩ := Sort.cells_of_cell? g
    rw [hcs] at h; cases h; cases ho
  exact ⟨b, off, rfl, Nat.lt_of_lt_of_le hb hg.size, hg.cell g (by simpa using hne)⟩
end Go.Proofs.Ytjaklmmekmhfcaa

