/- square, progBegun. -/
import Derived.Test.YtenaionchlnpoabVj
import Derived.Test.YtenaionchlnpoabWj
import Derived.Deep.RegionHeld3
namespace Go.Proofs.Ytenaionchlnpoab
open Go.RowKit
set_option linter.unusedSimpArgs false
set_option linter.unusedVariables false
def squareFns : List Fn := [(0, [], 0, [(21, 0), (12, 1), (20, 0), (10, 0)]), (1, [1], 1, [(8, 0), (3, 0), (7, 0), (13, 0)])]
theorem intsAt_nil (W : World) : IntsAt W (.slice none 0 0) [] := ⟨none, 0, rfl, Nat.zero_le _, fun k f h => by simp at h⟩
theorem square_at {w W1 W2 W3 W4 W5 : World} {o1 : Obj} (hW1 : w.alloc o1 = W1) (hW2 : W1.alloc (.cells #[.int .i64 21, .int .i64 0, .int .i64 12, .int .i64 1, .int .i64 20, .int .i64 0, .int .i64 10, .int .i64 0] 43) = W2)
    (hW3 : W2.alloc (.cells #[.int .i64 1] 3) = W3) (hW4 : W3.alloc (.cells #[.int .i64 8, .int .i64 0, .int .i64 3, .int .i64 0, .int .i64 7, .int .i64 0, .int .i64 13, .int .i64 0] 43) = W4)
    (hW5 : W4.alloc (.cells #[.int .i64 0, .slice none 0 0, .int .i64 0, .slice (some ⟨w.heap.size + 1, 0, none⟩) 4 4, .int .i64 1, .slice (some ⟨w.heap.size + 1 + 1, 0, none⟩) 1 1, .int .i64 1, .slice (some ⟨w.heap.size + 1 + 1 + 1, 0, none⟩) 4 4] 59) = W5) :
    FnsAt W5 (.slice (some ⟨w.heap.size + 1 + 1 + 1 + 1, 0, none⟩) 2 2) squareFns ∧ Below w.heap.size w W5 ∧ W5.heap[w.heap.size]? = some o1 := by
  have s1 : W1.heap.size = w.heap.size + 1 := by rw [← hW1]; simp
  have s2 : W2.heap.size = w.heap.size + 1 + 1 := by rw [← hW2]; simp; exact s1
  have s3 : W3.heap.size = w.heap.size + 1 + 1 + 1 := by rw [← hW3]; simp; exact s2
  have s4 : W4.heap.size = w.heap.size + 1 + 1 + 1 + 1 := by rw [← hW4]; simp; exact s3
  have h1 := heap_new w o1
  rw [hW1] at h1
  have h2 := heap_new W1 (.cells #[.int .i64 21, .int .i64 0, .int .i64 12, .int .i64 1, .int .i64 20, .int .i64 0, .int .i64 10, .int .i64 0] 43)
  rw [hW2, s1] at h2
  have h3 := heap_new W2 (.cells #[.int .i64 1] 3)
  rw [hW3, s2] at h3
  have h4 := heap_new W3 (.cells #[.int .i64 8, .int .i64 0, .int .i64 3, .int .i64 0, .int .i64 7, .int .i64 0, .int .i64 13, .int .i64 0] 43)
  rw [hW4, s3] at h4
  have h5 := heap_new W4 (.cells #[.int .i64 0, .slice none 0 0, .int .i64 0, .slice (some ⟨w.heap.size + 1, 0, none⟩) 4 4, .int .i64 1, .slice (some ⟨w.heap.size + 1 + 1, 0, none⟩) 1 1, .int .i64 1, .slice (some ⟨w.heap.size + 1 + 1 + 1, 0, none⟩) 4 4] 59)
  rw [hW5, s4] at h5
  have k2 : ∀ {k : Nat} {o : Obj}, W1.heap[k]? = some o → W2.heap[k]? = some o := fun h => by rw [← hW2]; exact heap_old h _
  have k3 : ∀ {k : Nat} {o : Obj}, W2.heap[k]? = some o → W3.heap[k]? = some o := fun h => by rw [← hW3]; exact heap_old h _
  have k4 : ∀ {k : Nat} {o : Obj}, W3.heap[k]? = some o → W4.heap[k]? = some o := fun h => by rw [← hW4]; exact heap_old h _
  have k5 : ∀ {k : Nat} {o : Obj}, W4.heap[k]? = some o → W5.heap[k]? = some o := fun h => by rw [← hW5]; exact heap_old h _
  have b1 : Below w.heap.size w W1 := by rw [← hW1]; exact (Below.refl _ w).alloc (Nat.le_refl _) _
  have b2 : Below w.heap.size w W2 := by rw [← hW2]; exact b1.alloc (by omega) _
  have b3 : Below w.heap.size w W3 := by rw [← hW3]; exact b2.alloc (by omega) _
  have b4 : Below w.heap.size w W4 := by rw [← hW4]; exact b3.alloc (by omega) _
  have b5 : Below w.heap.size w W5 := by rw [← hW5]; exact b4.alloc (by omega) _
  refine ⟨⟨_, 2, rfl, by unfold maxLen; decide, fun k f hk => ?_⟩, b5, k5 (k4 (k3 (k2 h1)))⟩
  have o1 : OpsAt W5 (.slice (some ⟨w.heap.size + 1, 0, none⟩) 4 4) [(21, 0), (12, 1), (20, 0), (10, 0)] := opsAt_new (l := [(21, 0), (12, 1), (20, 0), (10, 0)]) (m := []) (fz := (0, 0)) 4 4 (k5 (k4 (k3 h2))) rfl (by unfold maxLen; decide)
  have o2 : OpsAt W5 (.slice (some ⟨w.heap.size + 1 + 1 + 1, 0, none⟩) 4 4) [(8, 0), (3, 0), (7, 0), (13, 0)] := opsAt_new (l := [(8, 0), (3, 0), (7, 0), (13, 0)]) (m := []) (fz := (0, 0)) 4 4 (k5 h4) rfl (by unfold maxLen; decide)
  have i1 : IntsAt W5 (.slice (some ⟨w.heap.size + 1 + 1, 0, none⟩) 1 1) [1] := ⟨_, 1, rfl, by unfold maxLen; decide, fun k z hk => by
    match k, hk with
    | 0, hk => simp at hk; subst hk; exact ⟨_, 0, rfl, heap_lt (k5 (k4 h3)), cell_at' (k5 (k4 h3)) 0⟩
    | k + 1, hk => simp at hk⟩
  match k, hk with
  | 0, hk =>
    simp [squareFns] at hk; subst hk
    exact ⟨_, 0, _, _, _, _, rfl, heap_lt h5, cell_at' h5 0, cell_at' h5 1, cell_at' h5 2, cell_at' h5 3, rfl, intsAt_nil _, rfl, o1⟩
  | 1, hk =>
    simp [squareFns] at hk; subst hk
    exact ⟨_, 0, _, _, _, _, rfl, heap_lt h5, cell_at' h5 4, cell_at' h5 5, cell_at' h5 6, cell_at' h5 7, rfl, i1, rfl, o2⟩
  | k + 2, hk => simp [squareFns] at hk
set_option maxRecDepth 100000 in
set_option maxHeartbeats 4000000 in
theorem square_any (w : World) : Calls Try.prog 35 #[] w fun e w' => ∃ v, e = .returned (.agg #[v]) ∧ FnsAt w' v squareFns ∧ Below w.heap.size w w' := by
  go_enter Try.func35, Try.ntmps35
  go_wp2
  obtain ⟨hf, hb, hh⟩ := square_at (w := w) (o1 := .cells #[.slice (some ⟨w.heap.size + 1 + 1 + 1 + 1, 0, none⟩) 2 2] 56) rfl rfl rfl rfl rfl
  have t0 := cell_at' hh 0
  simp only [List.getElem?_toArray, List.getElem?_cons_zero] at t0
  refine bodyPost_ret (v := .agg #[.slice (some ⟨w.heap.size + 1 + 1 + 1 + 1, 0, none⟩) 2 2]) (by simp [results, Try.results35, go_sem, t0]) rfl ⟨_, rfl, hf, hb⟩
theorem sq1 : progErr squareFns = 0 := by decide +kernel
theorem sq2 : progBytes squareFns = [2, 0, 0, 0, 0, 12, 21, 12, 0, 0, 0, 1, 20, 10, 0, 0, 0, 0, 1, 1, 1, 1, 0, 8, 8, 0, 0, 0, 0, 3, 7, 13] := by decide +kernel
theorem sq3 : decProg (progBytes squareFns) = (squareFns, 0) := dec_prog _ sq1 (by rw [sq2]; decide)
theorem sq4 : (decProg (progBytes squareFns ++ [122])).2 = 1 := by decide +kernel
end Go.Proofs.Ytenaionchlnpoab

