/- strings.Builder at this program: copyCheck, WriteByte, WriteString (the shelf's layings of these fall here: this translation has a refused statement in the place of copyCheck's panic). -/
import Derived.Test.YtjaklmmekmhfcaaShelf
import Derived.Test.YtjaklmmekmhfcaaRows
import Derived.WalkKit
import Derived.WalkSpells
import Derived.WalkLawsBesides
namespace Go.Proofs.Ytjaklmmekmhfcaa
open Go.RowKit
set_option linter.unusedSimpArgs false
set_option linter.unusedVariables false
theorem infoByte : (Try.prog.info? 5).map (fun i => (i.zero, i.size, i.bytes)) = some (some (.int .u8 0), 1, 1) := by kernel_rfl
theorem heap_lt {w : World} {b : Nat} {o : Obj} (h : w.heap[b]? = some o) : b < w.heap.size := (Array.getElem?_eq_some_iff.1 h).1
end Go.Proofs.Ytjaklmmekmhfcaa

