/- counter, square, verifyBegun. -/
import Derived.Test.YtenaionchlnpoabPc
namespace Go.Proofs.Ytenaionchlnpoab
open Go.RowKit
set_option linter.unusedSimpArgs false
set_option linter.unusedVariables false
theorem cap_of {W : World} {b n cap : Nat} {cs : Array Value} {t : TypeId} {fz : Nat × Nat} (h : W.heap[b]? = some (.cells cs t fz)) (hc : ∀ (k : Nat) (p : Option Addr) (n' c' : Nat), cs[k * 4 + 1]? = some (.slice p n' c') → n' ≤ c') : CapAt W (.slice (some ⟨b, 0, none⟩) n cap) := by
  intro b' off n1 cap1 k p' n' c' hv hk hcell
  cases hv
  rw [cell_at' h, Nat.zero_add] at hcell
  exact hc k p' n' c' hcell
theorem fns_one {W : World} {b : Nat} {cv : Value} {C : List (Int × Int)} {fz : Nat × Nat} (h : W.heap[b]? = some (.cells #[.int .i64 0, .slice none 0 0, .int .i64 0, cv] 59 fz)) (hC : OpsAt W cv C) : FnsAt W (.slice (some ⟨b, 0, none⟩) 1 1) [(0, [], 0, C)] ∧ CapAt W (.slice (some ⟨b, 0, none⟩) 1 1) := by
  refine ⟨⟨_, 1, rfl, by unfold maxLen; simp, fun k f hk => ?_⟩, cap_of h ?_⟩
  · match k, hk with
    | 0, hk =>
      simp at hk
      subst hk
      exact ⟨_, 0, _, _, _, _, rfl, heap_lt h, cell_at' h 0, cell_at' h 1, cell_at' h 2, cell_at' h 3, rfl, intsAt_nil _, rfl, hC⟩
    | k + 1, hk => simp at hk
  · intro k p n' c' hk
    match k, hk with
    | 0, hk => simp at hk; omega
    | k + 1, hk =>
      have := lt_of_at (l := #[Value.int .i64 0, .slice none 0 0, .int .i64 0, cv].toList) (k := (k + 1) * 4 + 1) (o := Value.slice p n' c') (by simpa using hk)
      simp at this
      omega
set_option maxRecDepth 100000 in
set_option maxHeartbeats 2000000 in
theorem counter_any (w : World) : Calls Try.prog 33 #[] w fun e w' => ∃ v, e = .returned (.agg #[v]) ∧ FnsAt w' v counterFns ∧ CapAt w' v ∧ Below w.heap.size w w' := by
  obtain ⟨W0, hW0⟩ : ∃ W0, w.alloc (.cells #[.slice none 0 0] 56) = W0 := ⟨_, rfl⟩
  have hb0 : Below w.heap.size w W0 := by rw [← hW0]; exact (Below.refl _ w).alloc (Nat.le_refl _) _
  have x0 : W0.heap[w.heap.size]? = some (.cells #[.slice none 0 0] 56 (0, 0)) := by rw [← hW0]; exact World.alloc_heap_new w _
  have X0 := hideP x0
  clear x0
  go_enter Try.func33, Try.ntmps33
  go_wp2_with fail
  refine (loop_ops _).mono ?_
  rintro e w1 ⟨v1, rfl, ho, hb1⟩
  obtain ⟨p1, c1, hv1, _, _⟩ := id ho
  subst hv1
  have x1 := (hb1.block _ (heap_lt X0.out)).trans X0.out
  obtain ⟨W2, hW2⟩ : ∃ W2, w1.alloc (.cells #[.int .i64 0, .slice none 0 0, .int .i64 0, .slice p1 loopOps.length c1] 59) = W2 := ⟨_, rfl⟩
  have hb2 : Below w1.heap.size w1 W2 := by rw [← hW2]; exact (Below.refl _ w1).alloc (Nat.le_refl _) _
  have y2 : W2.heap[w1.heap.size]? = some (.cells #[.int .i64 0, .slice none 0 0, .int .i64 0, .slice p1 loopOps.length c1] 59 (0, 0)) := by rw [← hW2]; exact World.alloc_heap_new w1 _
  have x2 := (hb2.block _ (heap_lt x1)).trans x1
  have d2 := cell_at' x2 0
  have z2 := Lib.frozen_of_heap x2 0
  simp at d2
  have HO := hideP (ho.below hb2)
  have X2 := hideP x2
  have Y2 := hideP y2
  have hne : w1.heap.size ≠ w.heap.size := by have := heap_lt x1; omega
  have hgs := set_grown W2 ⟨w.heap.size, 0, none⟩ (.slice (some ⟨w1.heap.size, 0, none⟩) 1 1)
  have x3 := heap_setCell_same W2 w.heap.size 0 _ _ (.slice (some ⟨w1.heap.size, 0, none⟩) 1 1) x2
  have d3 := cell_at' x3 0
  simp at d3
  clear x1 x2 y2 ho x3
  go_wp2
  have hops : OpsAt (W2.setCell ⟨w.heap.size, 0, none⟩ (.slice (some ⟨w1.heap.size, 0, none⟩) 1 1)) (.slice p1 loopOps.length c1) loopOps := by
    obtain ⟨p, c, he, hm, hc⟩ := HO.out
    refine ⟨p, c, he, hm, fun k o hk => ?_⟩
    obtain ⟨b, off, hp, hlt, g0, g1⟩ := hc k o hk
    have hnb : b ≠ w.heap.size := fun e => by
      subst e
      rw [cell_at' X2.out] at g0
      match h : off + k * 2, g0 with
      | 0, g0 => simp at g0
      | j + 1, g0 => simp at g0
    exact ⟨b, off, hp, Nat.lt_of_lt_of_le hlt hgs.size, hgs.cell g0 (by simpa using hnb), hgs.cell g1 (by simpa using hnb)⟩
  have hh := (hgs.block w1.heap.size (heap_lt Y2.out) (by simpa using hne)).trans Y2.out
  obtain ⟨hF, hCp⟩ := fns_one hh hops
  have hbw : Below w.heap.size w W2 := hb0.trans ((hb1.trans (hb2.mono hb1.size)).mono hb0.size)
  refine bodyPost_ret (v := .agg #[.slice (some ⟨w1.heap.size, 0, none⟩) 1 1]) (by simp [results, Try.results33, go_sem, d3]) rfl ⟨_, rfl, hF, hCp, hbw.setCell (p := ⟨w.heap.size, 0, none⟩) (Nat.le_refl _) _⟩
set_option maxRecDepth 100000 in
set_option maxHeartbeats 4000000 in
theorem squareC_any (w : World) : Calls Try.prog 35 #[] w fun e w' => ∃ v, e = .returned (.agg #[v]) ∧ FnsAt w' v squareFns ∧ CapAt w' v ∧ Below w.heap.size w w' := by
  go_enter Try.func35, Try.ntmps35
  go_wp2
  obtain ⟨hf, hb, hh⟩ := square_at (w := w) (o1 := .cells #[.slice (some ⟨w.heap.size + 1 + 1 + 1 + 1, 0, none⟩) 2 2] 56) rfl rfl rfl rfl rfl
  have t0 := cell_at' hh 0
  simp only [List.getElem?_toArray, List.getElem?_cons_zero] at t0
  refine bodyPost_ret (v := .agg #[.slice (some ⟨w.heap.size + 1 + 1 + 1 + 1, 0, none⟩) 2 2]) (by simp [results, Try.results35, go_sem, t0]) rfl ⟨_, rfl, hf, ?_, hb⟩
  refine cap_of (cs := #[.int .i64 0, .slice none 0 0, .int .i64 0, .slice (some ⟨w.heap.size + 1, 0, none⟩) 4 4, .int .i64 1, .slice (some ⟨w.heap.size + 1 + 1, 0, none⟩) 1 1, .int .i64 1, .slice (some ⟨w.heap.size + 1 + 1 + 1, 0, none⟩) 4 4]) (t := 59) (fz := (0, 0)) ?_ ?_
  · have := World.alloc_heap_new ((((w.alloc (.cells #[.slice (some ⟨w.heap.size + 1 + 1 + 1 + 1, 0, none⟩) 2 2] 56)).alloc (.cells #[.int .i64 21, .int .i64 0, .int .i64 12, .int .i64 1, .int .i64 20, .int .i64 0, .int .i64 10, .int .i64 0] 43)).alloc (.cells #[.int .i64 1] 3)).alloc (.cells #[.int .i64 8, .int .i64 0, .int .i64 3, .int .i64 0, .int .i64 7, .int .i64 0, .int .i64 13, .int .i64 0] 43)) (.cells #[.int .i64 0, .slice none 0 0, .int .i64 0, .slice (some ⟨w.heap.size + 1, 0, none⟩) 4 4, .int .i64 1, .slice (some ⟨w.heap.size + 1 + 1, 0, none⟩) 1 1, .int .i64 1, .slice (some ⟨w.heap.size + 1 + 1 + 1, 0, none⟩) 4 4] 59)
    simpa using this
  · intro k p n' c' hk
    match k, hk with
    | 0, hk => simp at hk; omega
    | 1, hk => simp at hk; omega
    | k + 2, hk =>
      have := (Array.getElem?_eq_some_iff.1 hk).1
      simp at this
      omega
end Go.Proofs.Ytenaionchlnpoab

