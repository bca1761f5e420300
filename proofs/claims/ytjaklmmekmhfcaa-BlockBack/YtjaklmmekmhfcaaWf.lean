/- octet.Number and op.first. -/
import Derived.Test.YtjaklmmekmhfcaaWa
import Derived.Test.YtjaklmmekmhfcaaMem
import Derived.Lib.Strings
namespace Go.Proofs.Ytjaklmmekmhfcaa
open Go.RowKit
set_option linter.unusedSimpArgs false
set_option linter.unusedVariables false
/-- the number that bytes tell, the greatest one first. -/
def numOf (l : List UInt8) : Nat := l.foldl (fun n b => 256 * n + b.toNat) 0
theorem numOf_snoc (l : List UInt8) (b : UInt8) : numOf (l ++ [b]) = 256 * numOf l + b.toNat := by simp [numOf]
theorem foldl_lt (l : List UInt8) : ∀ (n k : Nat), n < 256 ^ k → l.foldl (fun n b => 256 * n + b.toNat) n < 256 ^ (k + l.length) := by
  induction l with
  | nil => intro n k h; simpa using h
  | cons b r ih =>
    intro n k h
    have := ih (256 * n + b.toNat) (k + 1) (by have := b.toNat_lt; rw [Nat.pow_succ]; omega)
    rw [List.length_cons, show k + (r.length + 1) = k + 1 + r.length from by omega]
    exact this
theorem numOf_lt (l : List UInt8) : numOf l < 256 ^ l.length := by
  have := foldl_lt l 0 0 (by simp)
  simpa [numOf] using this
theorem numOf_small (l : List UInt8) (h : l.length ≤ 4) : numOf l < 4294967296 :=
  Nat.lt_of_lt_of_le (numOf_lt l) (by have := Nat.pow_le_pow_right (n := 256) (by omega) h; simpa using this)
theorem ofInt64 (n : Nat) (h : n < 9223372036854775808) : (BitVec.ofInt 64 (n : Int)).toNat = n := by
  rw [BitVec.toNat_ofInt]; omega
theorem or_byte (n b : Nat) (hn : n < 4294967296) (hb : b < 256) : bits .or .i64 (wrap64 ((n : Int) * 256)) (wrap64 (b : Int)) = ((256 * n + b : Nat) : Int) := by
  rw [IntWalk.wrap64_in _ (by omega), IntWalk.wrap64_in _ (by omega)]
  have e : ((n : Int) * 256) = ((n * 256 : Nat) : Int) := by omega
  rw [e]
  show IntKind.i64.wrap ((BitVec.ofInt 64 ((n * 256 : Nat) : Int) ||| BitVec.ofInt 64 (b : Int)).toNat : Int) = _
  rw [BitVec.toNat_or, ofInt64 _ (by omega), ofInt64 _ (by omega)]
  have h2 := Nat.shiftLeft_add_eq_or_of_lt (a := n) (b := b) (i := 8) (by simpa using hb)
  rw [Nat.shiftLeft_eq] at h2
  rw [show n * 256 = n * 2 ^ 8 from rfl, ← h2, IntKind.wrap_i64]
  omega
theorem bytes_snoc (s : ByteArray) (k : Nat) (h : k < s.size) : s.data.toList.take (k + 1) = s.data.toList.take k ++ [s[k]] := by
  rw [List.take_succ_eq_append_getElem (by simpa using h)]; rfl
/-- the first op that bytes tell, and how many bytes it has. -/
def firstOf : List UInt8 → Option ((Int × Int) × Nat)
  | [] => none
  | b :: r => if isCode b.toNat = false then none else if hasA b.toNat then (if r.length < 4 then none else some ((b.toNat, wrap32 (numOf (r.take 4))), 5)) else some ((b.toNat, 0), 1)
theorem firstOf_at (s : ByteArray) (h0 : 0 < s.size) : firstOf s.data.toList = if isCode (s[0].toNat : Int) = false then none else if hasA (s[0].toNat : Int) then (if s.size < 5 then none else some (((s[0].toNat : Int), wrap32 (numOf ((s.data.toList.drop 1).take 4))), 5)) else some (((s[0].toNat : Int), 0), 1) := by
  have hl : s.data.toList.length = s.size := by simp
  have hg : s.data.toList[0]'(by omega) = s[0] := rfl
  cases hs : s.data.toList with
  | nil => rw [hs] at hl; simp at hl; omega
  | cons b r =>
    have hb : b = s[0] := by rw [← hg]; simp [hs]
    rw [hs] at hl
    simp only [List.length_cons] at hl
    rw [← hb]
    simp only [firstOf, List.drop_succ_cons, List.drop_zero]
    have e : (r.length < 4) ↔ (s.size < 5) := by omega
    simp only [e]
end Go.Proofs.Ytjaklmmekmhfcaa

