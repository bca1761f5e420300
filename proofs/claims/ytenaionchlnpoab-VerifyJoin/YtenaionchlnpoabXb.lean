/- Programs that came in. -/
import Derived.Test.YtenaionchlnpoabVl
import Derived.ProofKit
import Derived.OpenShut
import Derived.ShutString
import Derived.ChangeOld
import Derived.SizedLaws
import Derived.Deep.SlicePairs
import Derived.Lib.SmallJoins
namespace Go.Proofs.Ytenaionchlnpoab
open Go.ChangeShapes Go.WideShapes Go.ChangeAt Go.RowKit
set_option linter.unusedVariables false
set_option linter.unusedSimpArgs false
section
variable {H : Type} {enc : TypeId × Value → H} {W : World} {fuel : Nat} {x : DataW H × List MemPlace}
theorem block_of_cell {W : World} {b j : Nat} {v : Value} (h : W.cell? ⟨b, j, none⟩ = some v) : b < W.heap.size := by
  rcases Nat.lt_or_ge b W.heap.size with h' | h'
  · exact h'
  · simp [World.cell?, Array.getElem?_eq_none h'] at h
theorem cells_ops : Try.prog.cellsOf 22 = 1 := by kernel_rfl
theorem cells_ints : Try.prog.cellsOf 23 = 1 := by kernel_rfl
theorem cells_int : Try.prog.cellsOf 3 = 1 := by kernel_rfl
theorem cells_fns : Try.prog.cellsOf 54 = 1 := by kernel_rfl
theorem cells_fn : Try.prog.cellsOf 59 = 4 := by kernel_rfl
theorem cells_prog : Try.prog.cellsOf 56 = 1 := by kernel_rfl
theorem open_opsC {c : Value} (h : DataW.trod enc Try.prog W 0 (fun _ => true) true fuel 22 [c] = some x) : ∃ l : List (Int × Int), OpsAt W c l := by
  rcases Deep.open_slice_pairs Try.underlying22 Try.underlying43 (by kernel_rfl) rfl rfl (by kernel_rfl) (by kernel_rfl) h with ⟨hcs, hx⟩ | ⟨a, len', cap', m, n, V0, V1, D0, D1, P0, P1, hcs, hb, hl, hm, hmm, hx, hc⟩
  · simp at hcs
    subst hcs
    exact ⟨[], none, 0, rfl, Nat.zero_le _, fun k o hk => by simp at hk⟩
  · simp at hcs
    subst hcs
    simp only [if_true] at hmm
    subst hmm
    refine ⟨(List.range len').map fun i => (intOf (V0 i), intOf (V1 i)), some a, m, by simp, by simp; omega, fun k o hk => ?_⟩
    have hk1 : k < len' := by have := lt_of_at' hk; simpa using this
    have ho : o = (intOf (V0 k), intOf (V1 k)) := by simp [hk1] at hk; exact hk.symm
    obtain ⟨c0, c1, t0, t1⟩ := hc k (by omega)
    obtain ⟨x, e0, _, wx⟩ := DataW.trod_int Try.underlying3 t0
    obtain ⟨y, e1, _, wy⟩ := DataW.trod_int Try.underlying3 t1
    simp at e0 e1
    obtain ⟨b, off, spot⟩ := a
    have hs0 := (hc 0 (by omega)).1
    have hspot : spot = none := by simpa [Addr.add] using World.cell?_spot hs0
    subst hspot
    rw [add_at] at c0 c1
    rw [e0] at c0
    rw [e1] at c1
    exact ⟨b, off, rfl, block_of_cell c0, by rw [ho, e0]; exact c0, by rw [ho, e1]; exact c1⟩
theorem open_intsC {c : Value} (h : DataW.trod enc Try.prog W 0 (fun _ => true) true fuel 23 [c] = some x) : ∃ l : List Int, IntsAt W c l := by
  rcases Deep.open_slice1 Try.underlying23 cells_int h with ⟨hcs, hx⟩ | ⟨a, len', cap', m, n, V, D, Pl, hcs, hb, hl, hm, hmm, hx, hc⟩
  · simp at hcs
    subst hcs
    exact ⟨[], none, 0, rfl, Nat.zero_le _, fun k o hk => by simp at hk⟩
  · simp at hcs
    subst hcs
    simp only [if_true] at hmm
    subst hmm
    refine ⟨(List.range len').map fun i => intOf (V i), some a, m, by simp, by simp; omega, fun k o hk => ?_⟩
    have hk1 : k < len' := by have := lt_of_at' hk; simpa using this
    have ho : o = intOf (V k) := by simp [hk1] at hk; exact hk.symm
    obtain ⟨c0, t0⟩ := hc k (by omega)
    obtain ⟨x, e0, _, wx⟩ := DataW.trod_int Try.underlying3 t0
    simp at e0
    obtain ⟨b, off, spot⟩ := a
    have hs0 := (hc 0 (by omega)).1
    have hspot : spot = none := by simpa [Addr.add] using World.cell?_spot hs0
    subst hspot
    rw [add_at] at c0
    rw [e0] at c0
    exact ⟨b, off, rfl, block_of_cell c0, by rw [ho, e0]; exact c0⟩
theorem open_fnC {c0 c1 c2 c3 : Value} (h : DataW.trod enc Try.prog W 0 (fun _ => true) true fuel 59 [c0, c1, c2, c3] = some x) : ∃ f : Fn, FnAt W c0 c1 c2 c3 f := by
  obtain ⟨y0, y1, y2, y3, n, _, _, h0, h1, h2, h3⟩ := Go.Joins.trod_struct4 Try.underlying59 h
  simp [cells_int, cells_ints, cells_ops] at h0 h1 h2 h3
  obtain ⟨P, e0, _⟩ := DataW.trod_int Try.underlying3 h0
  obtain ⟨R, e2, _⟩ := DataW.trod_int Try.underlying3 h2
  obtain ⟨L, hL⟩ := open_intsC h1
  obtain ⟨C, hC⟩ := open_opsC h3
  simp at e0 e2
  exact ⟨(P, L, R, C), e0, hL, e2, hC⟩
instance : Inhabited Fn := ⟨(0, [], 0, [])⟩
instance : Inhabited FnV := ⟨(.int .i64 0, .int .i64 0, .int .i64 0, .int .i64 0)⟩
theorem open_fnsC {c : Value} (h : DataW.trod enc Try.prog W 0 (fun _ => true) true fuel 54 [c] = some x) : ∃ l : List Fn, FnsAt W c l := by
  rcases Deep.open_slice Try.underlying54 h with ⟨hcs, hx⟩ | ⟨a, len', cap', m, n, D, Pl, hcs, hb, hl, hm, hmm, hx, hc⟩
  · simp at hcs
    subst hcs
    exact ⟨[], none, 0, rfl, Nat.zero_le _, fun k o hk => by simp at hk⟩
  · simp at hcs
    subst hcs
    simp only [if_true] at hmm
    subst hmm
    have each : ∀ i, i < m → ∃ q : FnV × Fn, W.cell? (a.add (i * 4)) = some q.1.1 ∧ W.cell? (a.add (i * 4 + 1)) = some q.1.2.1 ∧ W.cell? (a.add (i * 4 + 2)) = some q.1.2.2.1 ∧ W.cell? (a.add (i * 4 + 3)) = some q.1.2.2.2 ∧ FnAt W q.1.1 q.1.2.1 q.1.2.2.1 q.1.2.2.2 q.2 := by
      intro i hi
      obtain ⟨cs', h1, h2⟩ := hc i hi
      rw [cells_fn] at h1
      obtain ⟨_, hlen, hcell⟩ := World.cells?_some h1
      match cs', hlen with
      | [c0, c1, c2, c3], _ =>
        obtain ⟨f, hf⟩ := open_fnC h2
        have e0 := hcell 0 (by omega)
        have e1 := hcell 1 (by omega)
        have e2 := hcell 2 (by omega)
        have e3 := hcell 3 (by omega)
        rw [Deep.add_add] at e0 e1 e2 e3
        exact ⟨((c0, c1, c2, c3), f), by simpa using e0, by simpa using e1, by simpa using e2, by simpa using e3, hf⟩
    obtain ⟨q, hq⟩ := Deep.choose_lt each
    refine ⟨(List.range len').map fun i => (q i).2, some a, m, by simp, by simp; omega, fun k f hk => ?_⟩
    have hk1 : k < len' := by have := lt_of_at' hk; simpa using this
    have ho : f = (q k).2 := by simp [hk1] at hk; exact hk.symm
    obtain ⟨c0, c1, c2, c3, hf⟩ := hq k (by omega)
    obtain ⟨b, off, spot⟩ := a
    have hs0 := (hq 0 (by omega)).1
    have hspot : spot = none := by simpa [Addr.add] using World.cell?_spot hs0
    subst hspot
    rw [add_at] at c0 c1 c2 c3
    exact ⟨b, off, _, _, _, _, rfl, block_of_cell c0, c0, c1, c2, c3, by rw [ho]; exact hf⟩
set_option maxRecDepth 100000 in
/-- a program that came in. -/
theorem open_prog {base : Nat} {r : Reach} {v : Value} {d : DataW H} {p : List MemPlace} (hv : Value.okWide Try.prog W r base 56 v) (h : DataW.Trod enc Try.prog W 0 (fun _ => true) true 56 v d p) :
    ∃ (c : Value) (l : List Fn), v = .agg #[c] ∧ FnsAt W c l := by
  obtain ⟨cs, rfl, hsz⟩ := okWide_struct Try.underlying56 hv
  rw [cells_prog] at hsz
  obtain ⟨cs⟩ := cs
  match cs, hsz with
  | [c], _ =>
    obtain ⟨fuel, hf⟩ := h
    obtain ⟨y0, n, _, _, h0⟩ := trod_struct1 Try.underlying56 hf
    simp [cells_fns, Value.cells] at h0
    obtain ⟨l, hl⟩ := open_fnsC h0
    exact ⟨c, l, rfl, hl⟩
end
end Go.Proofs.Ytenaionchlnpoab

