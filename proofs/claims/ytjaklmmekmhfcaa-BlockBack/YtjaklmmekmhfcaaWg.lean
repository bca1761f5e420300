/- op.each and its closure: the iterator's contract. -/
import Derived.RangeFuncNested
import Derived.RangeFuncBound
import Derived.RangeFuncCalls
import Derived.RangeFuncLeaves
import Derived.Shelf.Abstract
import Derived.Shelf.RegionOpen
import Derived.WalkKit
import Derived.OwnWalkIn
import Derived.TacticsInMore
import Derived.LoopNIn
import Derived.LoopIn
import Derived.Maps.AppendAt
import Derived.Test.YtjaklmmekmhfcaaWf
namespace Go.Proofs.Ytjaklmmekmhfcaa
open Go.RowKit Go.Shelf
set_option linter.unusedSimpArgs false
set_option linter.unusedVariables false
attribute [local go_sem] Oper.semAt_some
/-- what bytes tell, op by op: each with OK; where there is none, nothing with ErrForm, and no more. -/
def items : Nat → List UInt8 → List ((Int × Int) × Int)
  | 0, _ => []
  | _ + 1, [] => []
  | f + 1, b :: r => match firstOf (b :: r) with
    | none => [((0, 0), 1)]
    | some (o, n) => (o, 0) :: items f ((b :: r).drop n)
theorem items_nil (f : Nat) : items f [] = [] := by cases f <;> rfl
theorem items_none (f : Nat) (l : List UInt8) (h0 : l ≠ []) (h : firstOf l = none) : items (f + 1) l = [((0, 0), 1)] := by
  cases l with
  | nil => exact absurd rfl h0
  | cons b r => simp [items, h]
theorem items_some (f : Nat) (l : List UInt8) (o : Int × Int) (n : Nat) (h : firstOf l = some (o, n)) : items (f + 1) l = (o, 0) :: items f (l.drop n) := by
  cases l with
  | nil => simp [firstOf] at h
  | cons b r => simp [items, h]
theorem firstOf_size (l : List UInt8) (o : Int × Int) (n : Nat) (h : firstOf l = some (o, n)) : 1 ≤ n ∧ n ≤ l.length := by
  cases l with
  | nil => simp [firstOf] at h
  | cons b r =>
    simp only [firstOf] at h
    by_cases h1 : isCode b.toNat = false
    · simp [h1] at h
    · by_cases h2 : hasA b.toNat = true
      · by_cases h3 : r.length < 4
        · simp [h1, h2, h3] at h
        · simp [h1, h2, h3] at h; obtain ⟨_, rfl⟩ := h; simp; omega
      · simp [h1, h2] at h; obtain ⟨_, rfl⟩ := h; simp
theorem grown_of_below {w w' : World} (h : Below w.heap.size w w') : w.grownBy w' none := ⟨h.os, h.tape, h.output, h.size, fun k hk _ => h.block k hk⟩
/-- the box of the text stays as it is. -/
def KpS (bs : Nat) (s : ByteArray) (W W' : World) : Prop := Boxed W bs 9 (.string s) → Boxed W' bs 9 (.string s)
abbrev encsI (x : (Int × Int) × Int) : Array Value := #[.agg #[.int .i64 x.1.1, .int .i64 x.1.2], .int .i64 x.2]
theorem kpS_t {bs : Nat} {s : ByteArray} {A B C : World} (h : KpS bs s A B) (k : KpS bs s B C) : KpS bs s A C := fun x => k (h x)
theorem kpS_b {bs : Nat} {s : ByteArray} {w : World} (W : World) (l : Nat) (o o' : Obj) (_ : w.heap.size ≤ l) (h : W.heap[l]? = some o) (ho : o.isCells = false) (_ : o.isWalk = false) : KpS bs s W (W.putObj l o') := fun x =>
  x.kept (grownBy_putObj' W l o') (fun e => by cases e; rw [show W.heap[bs]? = _ from x] at h; cases h; cases ho)
end Go.Proofs.Ytjaklmmekmhfcaa

