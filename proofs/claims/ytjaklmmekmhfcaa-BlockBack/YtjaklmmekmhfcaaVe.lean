/- putFunc and prog.Encode. -/
import Derived.Test.YtjaklmmekmhfcaaVd
namespace Go.Proofs.Ytjaklmmekmhfcaa
open Go.RowKit
set_option linter.unusedSimpArgs false
set_option linter.unusedVariables false
theorem hide {p : Prop} (h : p) : Hid p := h
/-- a function's bytes. -/
def fnBytes (f : Fn) : List UInt8 := [byteOf f.1, byteOf f.2.1.length] ++ f.2.1.map byteOf ++ [byteOf f.2.2.1, byteOf ((codeBytes f.2.2.2).length / 256), byteOf (codeBytes f.2.2.2).length] ++ codeBytes f.2.2.2
theorem kept_below {b : Option Nat} {w w' : World} (hb : Below w.heap.size w w') : Lib.OthersKept 5 b w w' := fun k o hk _ _ => (hb.block k (Array.getElem?_eq_some_iff.1 hk).1).trans hk
theorem strCells_eq {T : ByteArray} {l : List UInt8} (h : T.data.toList = l) : Lib.strCells T = Lib.byteCells l := by unfold Lib.strCells Lib.byteCells; rw [h]
/-- a program's bytes. -/
def progBytes (l : List Fn) : List UInt8 := byteOf l.length :: l.flatMap fnBytes
/-- what Encode tells. -/
def progStr (l : List Fn) : List UInt8 := if progErr l = 0 then progBytes l else []
theorem fnErr_zero {f : Fn} {n : Nat} (h : fnErr f n = 0) : f.2.1.length ≤ 6 ∧ (0 ≤ f.1 ∧ f.1 ≤ f.2.1.length) ∧ typedB f = true ∧ f.2.2.2.length ≠ 0 ∧ codeErr f.2.2.2 = 0 ∧ (f.2.2.2.all fun o => namesB o f n) = true := by
  unfold fnErr at h
  by_cases h1 : 6 < f.2.1.length
  · simp [h1] at h
  rw [if_neg h1] at h
  by_cases h2 : f.1 < 0 ∨ (f.2.1.length : Int) < f.1
  · simp [h2] at h
  rw [if_neg h2] at h
  by_cases h3 : typedB f = false
  · simp [h3] at h
  rw [if_neg h3] at h
  by_cases h4 : f.2.2.2.length = 0
  · simp [h4] at h
  rw [if_neg h4] at h
  by_cases h5 : codeErr f.2.2.2 = 0
  · rw [if_neg (by simp [h5])] at h
    by_cases h6 : (f.2.2.2.all fun o => namesB o f n) = false
    · rw [if_pos h6] at h; omega
    · exact ⟨by omega, by omega, by simpa using h3, h4, h5, by simpa using h6⟩
  · rw [if_pos h5] at h; exact absurd h h5
theorem fnsErr_zero (n : Nat) (l : List Fn) (h : fnsErr n l = 0) : ∀ f ∈ l, fnErr f n = 0 := by
  induction l with
  | nil => intro f hf; simp at hf
  | cons x r ih =>
    intro f hf
    rw [fnsErr] at h
    by_cases hx : fnErr x n = 0
    · rw [if_pos hx] at h
      rcases List.mem_cons.1 hf with rfl | hf
      · exact hx
      · exact ih h f hf
    · rw [if_neg hx] at h; exact absurd h hx
theorem progErr_zero {l : List Fn} (h : progErr l = 0) : l.length ≠ 0 ∧ l.length ≤ 5 ∧ (∀ f ∈ l, fnErr f l.length = 0) ∧ headErr l = 0 := by
  unfold progErr at h
  by_cases h0 : l.length = 0
  · simp [h0] at h
  rw [if_neg h0] at h
  by_cases h5 : 5 < l.length
  · simp [h5] at h
  rw [if_neg h5] at h
  by_cases hf : fnsErr l.length l = 0
  · rw [if_neg (by simp [hf])] at h
    exact ⟨h0, by omega, fnsErr_zero _ l hf, h⟩
  · rw [if_pos hf] at h; exact absurd h hf
theorem fnBytes_le {f : Fn} {n : Nat} (h : fnErr f n = 0) : (fnBytes f).length ≤ 211 := by
  obtain ⟨h1, _, _, _, h5, _⟩ := fnErr_zero h
  have := codeBytes_le f.2.2.2
  have := (codeErr_zero _ h5).1
  simp [fnBytes]
  omega
theorem fnsBytes_le (l : List Fn) (n : Nat) (h : ∀ f ∈ l, fnErr f n = 0) : (l.flatMap fnBytes).length ≤ 211 * l.length := by
  induction l with
  | nil => simp
  | cons x r ih =>
    have h1 := fnBytes_le (h x (by simp))
    have h2 := ih fun f hf => h f (by simp [hf])
    simp only [List.flatMap_cons, List.length_append, List.length_cons]
    omega
end Go.Proofs.Ytjaklmmekmhfcaa

