/- Plain functions on programs: what Check says. -/
import Derived.Test.YtjaklmmekmhfcaaMp
import Derived.Test.YtjaklmmekmhfcaaPm
namespace Go.Proofs.Ytjaklmmekmhfcaa
open Go.RowKit
set_option linter.unusedSimpArgs false
set_option linter.unusedVariables false
/-- is it the number of one of so many things? -/
def isNum (n : Int) (many : Nat) : Bool := decide (0 ≤ n) && decide (n < (many : Int))
/-- does A of an op name something that is there? -/
def namesB (o : Int × Int) (f : Fn) (funcs : Nat) : Bool :=
  if (o.1 == 8 || o.1 == 9) = true then isNum o.2 f.2.1.length else if (o.1 == 10 || o.1 == 11) = true then isNum o.2 f.2.2.2.length else if (o.1 == 12) = true then isNum o.2 funcs else true
/-- may a local have that type? -/
def okType (t : Int) : Bool := t == 1 || t == 2
/-- have locals and result types that they may have? -/
def typedB (f : Fn) : Bool := f.2.1.all okType && (decide (0 ≤ f.2.2.1) && decide (f.2.2.1 ≤ 2))
/-- B1's errno of a function of a program that has so many. -/
def fnErr (f : Fn) (funcs : Nat) : Int :=
  if 6 < f.2.1.length then 2 else if f.1 < 0 ∨ (f.2.1.length : Int) < f.1 then 3 else if typedB f = false then 6 else if f.2.2.2.length = 0 then 5 else if codeErr f.2.2.2 ≠ 0 then codeErr f.2.2.2 else if (f.2.2.2.all fun o => namesB o f funcs) = false then 3 else 0
/-- the first errno of some functions. -/
def fnsErr (funcs : Nat) : List Fn → Int
  | [] => 0
  | f :: r => if fnErr f funcs = 0 then fnsErr funcs r else fnErr f funcs
/-- has the first function params, or a result? -/
def headErr : List Fn → Int
  | [] => 0
  | f :: _ => if f.1 ≠ 0 ∨ f.2.2.1 ≠ 0 then 4 else 0
/-- B1's errno of a program. -/
def progErr (l : List Fn) : Int :=
  if l.length = 0 then 5 else if 5 < l.length then 2 else if fnsErr l.length l ≠ 0 then fnsErr l.length l else headErr l
theorem fnsErr_all (n : Nat) (l : List Fn) (h : ∀ f ∈ l, fnErr f n = 0) : fnsErr n l = 0 := by
  induction l with
  | nil => rfl
  | cons o r ih => rw [fnsErr, if_pos (h o (by simp))]; exact ih fun x hx => h x (by simp [hx])
theorem fnsErr_at (n : Nat) (l : List Fn) (k : Nat) (f : Fn) (hk : l[k]? = some f) (h : ∀ x ∈ l.take k, fnErr x n = 0) (he : ¬ fnErr f n = 0) : fnsErr n l = fnErr f n := by
  induction l generalizing k with
  | nil => simp at hk
  | cons x r ih =>
    cases k with
    | zero => simp at hk; subst hk; rw [fnsErr, if_neg he]
    | succ k => rw [fnsErr, if_pos (h x (by simp))]; exact ih k (by simpa using hk) fun y hy => h y (by simp [hy])
end Go.Proofs.Ytjaklmmekmhfcaa

