/- The reader: take, number. -/
import Derived.Test.YtjaklmmekmhfcaaVe
namespace Go.Proofs.Ytjaklmmekmhfcaa
open Go.RowKit
set_option linter.unusedSimpArgs false
set_option linter.unusedVariables false
/-- what a reader has left; none, once there were too few. -/
abbrev Rd := Option (List UInt8)
/-- so many bytes from the front. -/
def takeR : Rd → Nat → List UInt8 × Rd
  | none, _ => ([], none)
  | some r, n => if n ≤ r.length then (r.take n, some (r.drop n)) else ([], none)
theorem grown_set (W : World) (b j : Nat) (v : Value) : W.grownBy (W.setCell ⟨b, j, none⟩ v) (some b) :=
  ⟨rfl, rfl, rfl, by simp, fun k _ hk => Below.heap_setCell _ _ _ _ (fun e => hk (by rw [e]))⟩
theorem extract_list (X : ByteArray) (a b : Nat) : (X.extract a b).data.toList = (X.data.toList.drop a).take (b - a) := Lib.extract_data X a b
end Go.Proofs.Ytjaklmmekmhfcaa

