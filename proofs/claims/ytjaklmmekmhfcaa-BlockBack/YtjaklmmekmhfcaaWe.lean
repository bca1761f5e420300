/- op.Encode. -/
import Derived.Test.YtjaklmmekmhfcaaWc
import Derived.Test.YtjaklmmekmhfcaaWd
namespace Go.Proofs.Ytjaklmmekmhfcaa
open Go.RowKit
set_option linter.unusedSimpArgs false
set_option linter.unusedVariables false
/-- code's bytes. -/
def codeBytes (l : List (Int × Int)) : List UInt8 := l.flatMap opBytes
/-- what Encode tells. -/
def encStr (l : List (Int × Int)) : List UInt8 := if codeErr l = 0 then codeBytes l else []
theorem opBytes_le (o : Int × Int) : (opBytes o).length ≤ 5 := by unfold opBytes; split <;> simp
theorem codeBytes_le (l : List (Int × Int)) : (codeBytes l).length ≤ 5 * l.length := by
  induction l with
  | nil => simp [codeBytes]
  | cons o r ih => have := opBytes_le o; simp [codeBytes] at *; omega
theorem codeBytes_snoc (l : List (Int × Int)) (k : Nat) (o : Int × Int) (h : l[k]? = some o) : codeBytes (l.take (k + 1)) = codeBytes (l.take k) ++ opBytes o := by
  rw [take_snoc l k o h]; simp [codeBytes]
theorem chk_pos (c a : Int) : 0 ≤ chk c a := by unfold chk; split <;> (try split) <;> (try split) <;> omega
end Go.Proofs.Ytjaklmmekmhfcaa

