/- opBegun. -/
import Derived.Test.YtenaionchlnpoabWe
import Derived.Test.YtenaionchlnpoabWh
import Derived.Test.YtenaionchlnpoabWi
namespace Go.Proofs.Ytenaionchlnpoab
open Go.RowKit
set_option linter.unusedSimpArgs false
set_option linter.unusedVariables false
/-- the ops of 'loop'. -/
def loopOps : List (Int × Int) := [(1, 3), (3, 0), (20, 0), (1, 1), (6, 0), (3, 0), (11, 8), (10, 1), (2, 0), (13, 0)]
theorem opsAt_new {w : World} {b : Nat} {l m : List (Int × Int)} {fz : Nat × Nat} (n cap : Nat) (h : w.heap[b]? = some (.cells (opCells (l ++ m)).toArray 43 fz)) (hn : n = l.length) (hm : l.length ≤ maxLen) : OpsAt w (.slice (some ⟨b, 0, none⟩) n cap) l := by
  subst hn
  refine ⟨_, cap, rfl, hm, fun k o hk => ⟨b, 0, rfl, (Array.getElem?_eq_some_iff.1 h).1, ?_, ?_⟩⟩
  · have := (opCells_at (l ++ m) k o (by rw [List.getElem?_append_left (lt_of_at' hk)]; exact hk)).1
    rw [cell_at' h]; simpa using this
  · have := (opCells_at (l ++ m) k o (by rw [List.getElem?_append_left (lt_of_at' hk)]; exact hk)).2
    rw [cell_at' h]; simpa using this
set_option maxHeartbeats 1000000 in
theorem loop_any (w : World) : Calls Try.prog 31 #[] w fun e w' => e = .returned (.slice (some ⟨w.heap.size, 0, none⟩) 10 10) ∧ w' = w.alloc (.cells (opCells loopOps).toArray 43) := by
  go_enter Try.func31, Try.ntmps31
  go_wp2
  go_ret
  exact ⟨rfl, rfl⟩
theorem enc_fact : encStr [(1, 3), (3, 0)] = [1, 0, 0, 0, 3, 3] ∧ codeErr [(1, 3), (3, 0)] = 0 := by decide +kernel
theorem dec_fact : dec (items 6 [1, 255, 255, 255, 254, 13]) [] = ([(1, -2), (13, 0)], 0) := by decide +kernel
theorem chk_fact1 : chk 1 3 = 0 := by decide +kernel
theorem chk_fact2 : chk 2 1 = 1 := by decide +kernel
theorem wrap_fact : wrap32 2147483648 = -2147483648 := by decide +kernel
end Go.Proofs.Ytenaionchlnpoab

