/- Plain functions on numbers and lists: what the ops' functions compute. Of no program. -/
import Derived.WalkKit
namespace Go.Proofs.Ytjaklmmekmhfcaa
/-- does a code name A? -/
def hasA (c : Int) : Bool := c == 1 || c == 8 || c == 9 || c == 10 || c == 11 || c == 12
/-- is there such a code? -/
def isCode (c : Int) : Bool := decide (1 ≤ c) && decide (c ≤ 21)
/-- is it a number of a machine? -/
def isI32 (a : Int) : Bool := decide (-2147483648 ≤ a) && decide (a ≤ 2147483647)
/-- A1's errno of an op. -/
def chk (c a : Int) : Int := if isCode c = false then 6 else if hasA c = false ∧ a ≠ 0 then 1 else if isI32 a = false then 3 else 0
/-- the first errno of some ops. -/
def firstErr : List (Int × Int) → Int
  | [] => 0
  | o :: r => if chk o.1 o.2 = 0 then firstErr r else chk o.1 o.2
/-- A2's errno of code. -/
def codeErr (l : List (Int × Int)) : Int := if 40 < l.length then 2 else firstErr l
theorem firstErr_all (l : List (Int × Int)) (h : ∀ o ∈ l, chk o.1 o.2 = 0) : firstErr l = 0 := by
  induction l with
  | nil => rfl
  | cons o r ih => rw [firstErr, if_pos (h o (by simp))]; exact ih fun x hx => h x (by simp [hx])
theorem firstErr_at (l : List (Int × Int)) (k : Nat) (o : Int × Int) (hk : l[k]? = some o) (h : ∀ x ∈ l.take k, chk x.1 x.2 = 0) (he : ¬ chk o.1 o.2 = 0) : firstErr l = chk o.1 o.2 := by
  induction l generalizing k with
  | nil => simp at hk
  | cons x r ih =>
    cases k with
    | zero => simp at hk; subst hk; rw [firstErr, if_neg he]
    | succ k => rw [firstErr, if_pos (h x (by simp))]; exact ih k (by simpa using hk) fun y hy => h y (by simp [hy])
theorem take_snoc {α : Type} (l : List α) (k : Nat) (o : α) (hk : l[k]? = some o) : l.take (k + 1) = l.take k ++ [o] := by
  rw [List.take_add_one, hk]; rfl
end Go.Proofs.Ytjaklmmekmhfcaa

