/- A function more, at the end, changes nothing of the others: for every program and function and number VerifyMore returns true. No condition. -/
import Derived.Test.YtgmkmlenhhhgkaaU22
import Derived.Test.YtgmkmlenhhhgkaaU23
import Derived.Test.YtgmkmlenhhhgkaaU21
import Derived.Test.YtgmkmlenhhhgkaaU15
import Derived.Test.YtgmkmlenhhhgkaaU16
namespace Go.Proofs.Ytgmkmlenhhhgkaa.verifyMore
open Go.ChangeShapes Go.WideShapes Go.ChangeAt Go.RowKit
set_option linter.unusedVariables false
set_option linter.unusedSimpArgs false
theorem own : ownKnob Try.prog.godebug = none := by kernel_rfl
theorem laidOut : laidOutB Try.prog = true := by kernel_rfl
/-- what is left at last: the new program's functions, and where they are. -/
theorem fin {w3 W : World} {z : Nat} {u : Value} {xs : List Value} {l : List Fn} {n : Nat} (hb : Below w3.heap.size w3 W) (hz : W.heap[z]? = some (.cells #[.slice none 0 0] 24 (0, 0))) (hzg : w3.heap.size ≤ z) (ho : W.ownsRow w3.heap.size 33 4 u n xs) (hn : n = l.length) (hx : RowFns w3 xs l) {W' : World} (he : W'.heap = (W.setCell ⟨z, 0, none⟩ u).heap) (e1 : W'.os = W.os) (e2 : W'.tape = W.tape) (e3 : W'.output = W.output) :
    ∃ (z' : Nat) (q : Option Addr) (c : Nat), (Value.pointer (some ⟨z, 0, none⟩)) = .pointer (some ⟨z', 0, none⟩) ∧ W'.cell? ⟨z', 0, none⟩ = some (.slice q n c) ∧ FnsAt W' (.slice q n c) l ∧ CapAt W' (.slice q n c) ∧ Below w3.heap.size w3 W' := by
  have hb' : Below w3.heap.size w3 W' := bel_eta (hb.setCell (p := ⟨z, 0, none⟩) hzg u) he e1 e2 e3
  have ho' : W'.ownsRow w3.heap.size 33 4 u n xs := by
    refine row_same ho fun j hj => ?_
    rw [he]
    refine Below.heap_setCell W ⟨z, 0, none⟩ u j (fun e => ?_)
    exact row_not ho hz (by decide) (by rw [hj]; simp at e; rw [e])
  obtain ⟨h1, h2, _⟩ := fns_row hn ho' (Kept.rows hb'.block hx)
  obtain ⟨q, c, rfl⟩ := row_shp ho
  refine ⟨z, q, c, rfl, ?_, h1, h2, hb'⟩
  have hh := heap_setCell_same W z 0 _ _ (.slice q n c) hz
  rw [← he] at hh
  rw [cell_at' hh]
  rfl
theorem fin2 {w3 W : World} {u : Value} {xs : List Value} {l : List Fn} {n : Nat} (hb : Below w3.heap.size w3 W) (ho : W.ownsRow w3.heap.size 33 4 u n xs) (hn : n = l.length) (hx : RowFns w3 xs l) {W' : World} (he : W'.heap = (W.alloc (.cells #[u] 24)).heap) (e1 : W'.os = W.os) (e2 : W'.tape = W.tape) (e3 : W'.output = W.output) :
    ∃ (z' : Nat) (q : Option Addr) (c : Nat), (Value.pointer (some ⟨W.heap.size, 0, none⟩)) = .pointer (some ⟨z', 0, none⟩) ∧ W'.cell? ⟨z', 0, none⟩ = some (.slice q n c) ∧ FnsAt W' (.slice q n c) l ∧ CapAt W' (.slice q n c) ∧ Below w3.heap.size w3 W' := by
  have hb' : Below w3.heap.size w3 W' := bel_eta (bel_alloc hb _) he e1 e2 e3
  have ho' : W'.ownsRow w3.heap.size 33 4 u n xs := row_eta (ho.alloc _) he
  obtain ⟨h1, h2, _⟩ := fns_row hn ho' (Kept.rows hb'.block hx)
  obtain ⟨q, c, rfl⟩ := row_shp ho
  refine ⟨W.heap.size, q, c, rfl, ?_, h1, h2, hb'⟩
  have hh := heap_alloc_new W (.cells #[.slice q n c] 24)
  rw [← he] at hh
  rw [cell_at' hh]
  rfl
end Go.Proofs.Ytgmkmlenhhhgkaa.verifyMore
namespace Go.Proofs.Ytgmkmlenhhhgkaa
/-- For every input the law VerifyMore returns true, and the arguments read as they did. -/
theorem verifyMore_holds : Rows.VerifyMoreSaid := verifyMore.over
end Go.Proofs.Ytgmkmlenhhhgkaa

