/- read. -/
import Derived.Test.YtenaionchlnpoabPr
import Derived.RangeFuncBox
namespace Go.Proofs.Ytenaionchlnpoab
open Go.RowKit
set_option linter.unusedSimpArgs false
set_option linter.unusedVariables false
abbrev FnV := Value × Value × Value × Value
def fnCells (q : List FnV) : List Value := q.flatMap fun c => [c.1, c.2.1, c.2.2.1, c.2.2.2]
def FnRows (W : World) (B : Nat) (q : List FnV) (l : List Fn) : Prop := q.length = l.length ∧ ∀ (k : Nat) (c : FnV) (f : Fn), q[k]? = some c → l[k]? = some f → FnOwn W B c.1 c.2.1 c.2.2.1 c.2.2.2 f
theorem FnRows.kept {W W' : World} {B : Nat} {q : List FnV} {l : List Fn} {row : Option Nat} (h : FnRows W B q l) (hg : W.grownBy W' row) (he : NoRow W row) : FnRows W' B q l := ⟨h.1, fun k c f h1 h2 => (h.2 k c f h1 h2).kept hg he⟩
theorem FnRows.snoc {W : World} {B : Nat} {q : List FnV} {l : List Fn} {c : FnV} {f : Fn} (h : FnRows W B q l) (hf : FnOwn W B c.1 c.2.1 c.2.2.1 c.2.2.2 f) : FnRows W B (q ++ [c]) (l ++ [f]) := by
  refine ⟨by simp [h.1], fun k c' f' h1 h2 => ?_⟩
  by_cases hk : k < q.length
  · rw [List.getElem?_append_left hk] at h1
    rw [List.getElem?_append_left (by rw [← h.1]; exact hk)] at h2
    exact h.2 k c' f' h1 h2
  · have hk1 : k < (q ++ [c]).length := (List.getElem?_eq_some_iff.1 h1).1
    simp at hk1
    obtain rfl : k = q.length := by omega
    simp at h1
    rw [h.1] at h2
    simp at h2
    subst h1; subst h2; exact hf
theorem fnCells_length (q : List FnV) : (fnCells q).length = q.length * 4 := by
  induction q with
  | nil => rfl
  | cons x r ih => simp only [fnCells, List.flatMap_cons, List.length_append, List.length_cons, List.length_nil] at ih ⊢; omega
theorem fnCells_at (q : List FnV) : ∀ (k : Nat) (c : FnV), q[k]? = some c → (fnCells q)[k * 4]? = some c.1 ∧ (fnCells q)[k * 4 + 1]? = some c.2.1 ∧ (fnCells q)[k * 4 + 2]? = some c.2.2.1 ∧ (fnCells q)[k * 4 + 3]? = some c.2.2.2 := by
  induction q with
  | nil => intro k c h; simp at h
  | cons x r ih =>
    intro k c h
    cases k with
    | zero => simp at h; subst h; simp [fnCells]
    | succ k =>
      have := ih k c (by simpa using h)
      simp only [fnCells, List.flatMap_cons] at this ⊢
      refine ⟨?_, ?_, ?_, ?_⟩
      · rw [List.getElem?_append_right (by simp; omega)]; simpa [show (k + 1) * 4 - 4 = k * 4 from by omega] using this.1
      · rw [List.getElem?_append_right (by simp; omega)]; simpa [show (k + 1) * 4 + 1 - 4 = k * 4 + 1 from by omega] using this.2.1
      · rw [List.getElem?_append_right (by simp; omega)]; simpa [show (k + 1) * 4 + 2 - 4 = k * 4 + 2 from by omega] using this.2.2.1
      · rw [List.getElem?_append_right (by simp; omega)]; simpa [show (k + 1) * 4 + 3 - 4 = k * 4 + 3 from by omega] using this.2.2.2
theorem fnsAt_of_row {W : World} {base B : Nat} {v : Value} {q : List FnV} {l : List Fn} {n : Nat} (hn : n = l.length) (hm : n ≤ maxLen) (h : W.ownsRow base 59 4 v n (fnCells q)) (hq : FnRows W B q l) : FnsAt W v l := by
  subst hn
  rcases h.2 with ⟨rfl, h0⟩ | ⟨g, cap, cur, rfl, hb, hg, hn, hc, hs, ht⟩
  · refine ⟨none, 0, by rw [h0], hm, fun k o hk => ?_⟩
    have := lt_of_at' hk
    omega
  · refine ⟨_, cap, rfl, hm, fun k f hk => ?_⟩
    have hk2 := lt_of_at' hk
    obtain ⟨c, hc'⟩ := at_of_lt (l := q) (k := k) (by rw [hq.1]; exact hk2)
    obtain ⟨a0, a1, a2, a3⟩ := fnCells_at q k c hc'
    rw [← ht, List.getElem?_take_of_lt (by omega)] at a0 a1 a2 a3
    refine ⟨g, 0, c.1, c.2.1, c.2.2.1, c.2.2.2, rfl, heap_lt hg, ?_, ?_, ?_, ?_, (hq.2 k c f hc' hk).1⟩
    · rw [cell_at' hg]; simpa using a0
    · rw [cell_at' hg]; simpa using a1
    · rw [cell_at' hg]; simpa using a2
    · rw [cell_at' hg]; simpa using a3
/-- functions in memory of their own. -/
def FnsOwn (W : World) (B : Nat) (v : Value) (l : List Fn) : Prop := ∃ (q : List FnV) (n : Nat), n = l.length ∧ n ≤ 255 ∧ W.ownsRow B 59 4 v n (fnCells q) ∧ FnRows W B q l
theorem FnsOwn.at {W : World} {B : Nat} {v : Value} {l : List Fn} (h : FnsOwn W B v l) : FnsAt W v l := by
  obtain ⟨q, n, h1, h2, h3, h4⟩ := h
  exact fnsAt_of_row h1 (by unfold maxLen; omega) h3 h4
theorem FnsOwn.set {W : World} {B : Nat} {v : Value} {l : List Fn} (h : FnsOwn W B v l) {r j : Nat} {cs : Array Value} {fz : Nat × Nat} (hr : W.heap[r]? = some (.cells cs 56 fz)) (x : Value) : FnsOwn (W.setCell ⟨r, j, none⟩ x) B v l := by
  obtain ⟨q, n, h1, h2, h3, h4⟩ := h
  exact ⟨q, n, h1, h2, h3.kept (grown_set W r j x) (.inr (row_not h3 hr (by decide)).symm), h4.kept (grown_set W r j x) (noRow_at hr (by decide) (by decide))⟩
theorem FnsOwn.below {W W' : World} {B : Nat} {v : Value} {l : List Fn} (h : FnsOwn W B v l) (hb : Below W.heap.size W W') : FnsOwn W' B v l := by
  obtain ⟨q, n, h1, h2, h3, h4⟩ := h
  exact ⟨q, n, h1, h2, h3.kept (grown_of_below hb) (by cases hv : Value.ownBlock v <;> simp), h4.kept (grown_of_below hb) (noRow_none _)⟩
theorem infoFn : (Try.prog.info? 59).map (fun i => (i.zero, i.size, i.bytes)) = some (some (.agg #[.int .i64 0, .slice none 0 0, .int .i64 0, .slice none 0 0]), 4, 64) := by kernel_rfl
end Go.Proofs.Ytenaionchlnpoab

