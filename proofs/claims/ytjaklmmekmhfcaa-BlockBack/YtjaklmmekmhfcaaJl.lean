/- verify.fit's closure: a visit. -/
import Derived.Test.YtjaklmmekmhfcaaJk
import Derived.Deep.Cut
namespace Go.Proofs.Ytjaklmmekmhfcaa
open Go.RowKit
set_option linter.unusedSimpArgs false
set_option linter.unusedVariables false
theorem cell_set_ne {w : World} {a b : Addr} {u v : Value} (h : w.cell? b = some v) (hn : b.block ≠ a.block) : (w.setCell a u).cell? b = some v := (World.cell?_of_block (Below.heap_setCell w a u b.block hn)).trans h
theorem frozen_set_ne {w : World} {a b : Addr} {u : Value} (h : w.frozen? b = false) (hn : b.block ≠ a.block) : (w.setCell a u).frozen? b = false := (World.frozen?_of_block (Below.heap_setCell w a u b.block hn)).trans h
theorem drew_heap (w : World) : w.drew.heap = w.heap := rfl
theorem box_after {W w3 : World} {o : Obj} (h : Below (W.alloc o).drew.heap.size (W.alloc o).drew w3) : w3.heap[W.heap.size]? = some o := by
  have h1 := h.block W.heap.size (by rw [drew_heap]; simp)
  rw [h1, drew_heap]
  exact World.alloc_heap_new W o
end Go.Proofs.Ytjaklmmekmhfcaa

