/- My texts Pq Va Vb Vc Vd Ve Vf, joined. -/
import Derived.Test.YtjaklmmekmhfcaaU2
/- Plain functions on programs: what Check says. -/
namespace Go.Proofs.Ytjaklmmekmhfcaa
open Go.RowKit
set_option linter.unusedSimpArgs false
set_option linter.unusedVariables false
/-- is it the number of one of so many things? -/
def isNum (n : Int) (many : Nat) : Bool := decide (0 ≤ n) && decide (n < (many : Int))
/-- does A of an op name something that is there? -/
def namesB (o : Int × Int) (f : Fn) (funcs : Nat) : Bool :=
  if (o.1 == 8 || o.1 == 9) = true then isNum o.2 f.2.1.length else if (o.1 == 10 || o.1 == 11) = true then isNum o.2 f.2.2.2.length else if (o.1 == 12) = true then isNum o.2 funcs else true
/-- may a local have that type? -/
def okType (t : Int) : Bool := t == 1 || t == 2
/-- have locals and result types that they may have? -/
def typedB (f : Fn) : Bool := f.2.1.all okType && (decide (0 ≤ f.2.2.1) && decide (f.2.2.1 ≤ 2))
/-- B1's errno of a function of a program that has so many. -/
def fnErr (f : Fn) (funcs : Nat) : Int :=
  if 6 < f.2.1.length then 2 else if f.1 < 0 ∨ (f.2.1.length : Int) < f.1 then 3 else if typedB f = false then 6 else if f.2.2.2.length = 0 then 5 else if codeErr f.2.2.2 ≠ 0 then codeErr f.2.2.2 else if (f.2.2.2.all fun o => namesB o f funcs) = false then 3 else 0
/-- the first errno of some functions. -/
def fnsErr (funcs : Nat) : List Fn → Int
  | [] => 0
  | f :: r => if fnErr f funcs = 0 then fnsErr funcs r else fnErr f funcs
/-- has the first function params, or a result? -/
def headErr : List Fn → Int
  | [] => 0
  | f :: _ => if f.1 ≠ 0 ∨ f.2.2.1 ≠ 0 then 4 else 0
/-- B1's errno of a program. -/
def progErr (l : List Fn) : Int :=
  if l.length = 0 then 5 else if 5 < l.length then 2 else if fnsErr l.length l ≠ 0 then fnsErr l.length l else headErr l
theorem fnsErr_all (n : Nat) (l : List Fn) (h : ∀ f ∈ l, fnErr f n = 0) : fnsErr n l = 0 := by
  induction l with
  | nil => rfl
  | cons o r ih => rw [fnsErr, if_pos (h o (by simp))]; exact ih fun x hx => h x (by simp [hx])
theorem fnsErr_at (n : Nat) (l : List Fn) (k : Nat) (f : Fn) (hk : l[k]? = some f) (h : ∀ x ∈ l.take k, fnErr x n = 0) (he : ¬ fnErr f n = 0) : fnsErr n l = fnErr f n := by
  induction l generalizing k with
  | nil => simp at hk
  | cons x r ih =>
    cases k with
    | zero => simp at hk; subst hk; rw [fnsErr, if_neg he]
    | succ k => rw [fnsErr, if_pos (h x (by simp))]; exact ih k (by simpa using hk) fun y hy => h y (by simp [hy])
end Go.Proofs.Ytjaklmmekmhfcaa
/- isNumber, namesOne, checkFunc's closure, ContainsFunc at it; typed. -/
namespace Go.Proofs.Ytjaklmmekmhfcaa
open Go.RowKit
set_option linter.unusedSimpArgs false
set_option linter.unusedVariables false
/-- the boxes that checkFunc's closure has captured. -/
def Boxes (w : World) (bf bn : Nat) (f : Fn) (n : Nat) : Prop :=
  ∃ c0 c1 c2 c3, bf < w.heap.size ∧ bn < w.heap.size ∧ w.cell? ⟨bf, 0, none⟩ = some c0 ∧ w.cell? ⟨bf, 1, none⟩ = some c1 ∧ w.cell? ⟨bf, 2, none⟩ = some c2 ∧ w.cell? ⟨bf, 3, none⟩ = some c3 ∧ w.cell? ⟨bn, 0, none⟩ = some (.int .i64 n) ∧ FnAt w c0 c1 c2 c3 f
theorem Boxes.below {w w' : World} {bf bn : Nat} {f : Fn} {n : Nat} (h : Boxes w bf bn f n) (hb : Below w.heap.size w w') : Boxes w' bf bn f n := by
  obtain ⟨c0, c1, c2, c3, h1, h2, a0, a1, a2, a3, a4, hf⟩ := h
  exact ⟨c0, c1, c2, c3, Nat.lt_of_lt_of_le h1 hb.size, Nat.lt_of_lt_of_le h2 hb.size, (hb.cell (p := ⟨bf, 0, none⟩) h1).trans a0, (hb.cell (p := ⟨bf, 1, none⟩) h1).trans a1, (hb.cell (p := ⟨bf, 2, none⟩) h1).trans a2, (hb.cell (p := ⟨bf, 3, none⟩) h1).trans a3, (hb.cell (p := ⟨bn, 0, none⟩) h2).trans a4, hf.below hb⟩
end Go.Proofs.Ytjaklmmekmhfcaa
/- ContainsFunc at checkFunc's closure and at typed's; typed, checkFunc. -/
namespace Go.Proofs.Ytjaklmmekmhfcaa
open Go.RowKit
set_option linter.unusedSimpArgs false
set_option linter.unusedVariables false
theorem all_snoc {α : Type} {p : α → Bool} {l : List α} {k : Nat} {o : α} (h : ∀ x ∈ l.take k, p x = true) (ho : l[k]? = some o) (hp : p o = true) : ∀ x ∈ l.take (k + 1), p x = true := by
  rw [take_snoc l k _ ho]; intro x hx; rcases List.mem_append.1 hx with hx | hx
  · exact h x hx
  · simp at hx; subst hx; exact hp
theorem all_true {α : Type} {p : α → Bool} {l : List α} (h : ∀ x ∈ l, p x = true) : l.all p = true := List.all_eq_true.2 h
theorem all_false {α : Type} {p : α → Bool} {l : List α} {k : Nat} {o : α} (ho : l[k]? = some o) (hp : p o = false) : l.all p = false := by
  cases h : l.all p
  · rfl
  · have := List.all_eq_true.1 h o (List.mem_of_getElem? ho); rw [hp] at this; cases this
end Go.Proofs.Ytjaklmmekmhfcaa
/- checkFunc and prog.Check. -/
namespace Go.Proofs.Ytjaklmmekmhfcaa
open Go.RowKit
set_option linter.unusedSimpArgs false
set_option linter.unusedVariables false
end Go.Proofs.Ytjaklmmekmhfcaa
/- prog.Check. -/
namespace Go.Proofs.Ytjaklmmekmhfcaa
open Go.RowKit
set_option linter.unusedSimpArgs false
set_option linter.unusedVariables false
end Go.Proofs.Ytjaklmmekmhfcaa
/- putFunc and prog.Encode. -/
namespace Go.Proofs.Ytjaklmmekmhfcaa
open Go.RowKit
set_option linter.unusedSimpArgs false
set_option linter.unusedVariables false
theorem hide {p : Prop} (h : p) : Hid p := h
/-- a function's bytes. -/
def fnBytes (f : Fn) : List UInt8 := [byteOf f.1, byteOf f.2.1.length] ++ f.2.1.map byteOf ++ [byteOf f.2.2.1, byteOf ((codeBytes f.2.2.2).length / 256), byteOf (codeBytes f.2.2.2).length] ++ codeBytes f.2.2.2
theorem kept_below {b : Option Nat} {w w' : World} (hb : Below w.heap.size w w') : Lib.OthersKept 5 b w w' := fun k o hk _ _ => (hb.block k (Array.getElem?_eq_some_iff.1 hk).1).trans hk
theorem strCells_eq {T : ByteArray} {l : List UInt8} (h : T.data.toList = l) : Lib.strCells T = Lib.byteCells l := by unfold Lib.strCells Lib.byteCells; rw [h]
/-- a program's bytes. -/
def progBytes (l : List Fn) : List UInt8 := byteOf l.length :: l.flatMap fnBytes
/-- what Encode tells. -/
def progStr (l : List Fn) : List UInt8 := if progErr l = 0 then progBytes l else []
theorem fnErr_zero {f : Fn} {n : Nat} (h : fnErr f n = 0) : f.2.1.length ≤ 6 ∧ (0 ≤ f.1 ∧ f.1 ≤ f.2.1.length) ∧ typedB f = true ∧ f.2.2.2.length ≠ 0 ∧ codeErr f.2.2.2 = 0 ∧ (f.2.2.2.all fun o => namesB o f n) = true := by
  unfold fnErr at h
  by_cases h1 : 6 < f.2.1.length
  · simp [h1] at h
  rw [if_neg h1] at h
  by_cases h2 : f.1 < 0 ∨ (f.2.1.length : Int) < f.1
  · simp [h2] at h
  rw [if_neg h2] at h
  by_cases h3 : typedB f = false
  · simp [h3] at h
  rw [if_neg h3] at h
  by_cases h4 : f.2.2.2.length = 0
  · simp [h4] at h
  rw [if_neg h4] at h
  by_cases h5 : codeErr f.2.2.2 = 0
  · rw [if_neg (by simp [h5])] at h
    by_cases h6 : (f.2.2.2.all fun o => namesB o f n) = false
    · rw [if_pos h6] at h; omega
    · exact ⟨by omega, by omega, by simpa using h3, h4, h5, by simpa using h6⟩
  · rw [if_pos h5] at h; exact absurd h h5
theorem fnsErr_zero (n : Nat) (l : List Fn) (h : fnsErr n l = 0) : ∀ f ∈ l, fnErr f n = 0 := by
  induction l with
  | nil => intro f hf; simp at hf
  | cons x r ih =>
    intro f hf
    rw [fnsErr] at h
    by_cases hx : fnErr x n = 0
    · rw [if_pos hx] at h
      rcases List.mem_cons.1 hf with rfl | hf
      · exact hx
      · exact ih h f hf
    · rw [if_neg hx] at h; exact absurd h hx
theorem progErr_zero {l : List Fn} (h : progErr l = 0) : l.length ≠ 0 ∧ l.length ≤ 5 ∧ (∀ f ∈ l, fnErr f l.length = 0) ∧ headErr l = 0 := by
  unfold progErr at h
  by_cases h0 : l.length = 0
  · simp [h0] at h
  rw [if_neg h0] at h
  by_cases h5 : 5 < l.length
  · simp [h5] at h
  rw [if_neg h5] at h
  by_cases hf : fnsErr l.length l = 0
  · rw [if_neg (by simp [hf])] at h
    exact ⟨h0, by omega, fnsErr_zero _ l hf, h⟩
  · rw [if_pos hf] at h; exact absurd h hf
theorem fnBytes_le {f : Fn} {n : Nat} (h : fnErr f n = 0) : (fnBytes f).length ≤ 211 := by
  obtain ⟨h1, _, _, _, h5, _⟩ := fnErr_zero h
  have := codeBytes_le f.2.2.2
  have := (codeErr_zero _ h5).1
  simp [fnBytes]
  omega
theorem fnsBytes_le (l : List Fn) (n : Nat) (h : ∀ f ∈ l, fnErr f n = 0) : (l.flatMap fnBytes).length ≤ 211 * l.length := by
  induction l with
  | nil => simp
  | cons x r ih =>
    have h1 := fnBytes_le (h x (by simp))
    have h2 := ih fun f hf => h f (by simp [hf])
    simp only [List.flatMap_cons, List.length_append, List.length_cons]
    omega
end Go.Proofs.Ytjaklmmekmhfcaa
/- The reader: take, number. -/
namespace Go.Proofs.Ytjaklmmekmhfcaa
open Go.RowKit
set_option linter.unusedSimpArgs false
set_option linter.unusedVariables false
/-- what a reader has left; none, once there were too few. -/
abbrev Rd := Option (List UInt8)
/-- so many bytes from the front. -/
def takeR : Rd → Nat → List UInt8 × Rd
  | none, _ => ([], none)
  | some r, n => if n ≤ r.length then (r.take n, some (r.drop n)) else ([], none)
theorem grown_set (W : World) (b j : Nat) (v : Value) : W.grownBy (W.setCell ⟨b, j, none⟩ v) (some b) :=
  ⟨rfl, rfl, rfl, by simp, fun k _ hk => Below.heap_setCell _ _ _ _ (fun e => hk (by rw [e]))⟩
theorem extract_list (X : ByteArray) (a b : Nat) : (X.extract a b).data.toList = (X.data.toList.drop a).take (b - a) := Lib.extract_data X a b
end Go.Proofs.Ytjaklmmekmhfcaa
