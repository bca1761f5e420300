/- My texts Vh Be Bf, joined. -/
import Derived.RangeFuncBox
import Derived.Test.YtgmkmlenhhhgkaaU11
/- read. -/
namespace Go.Proofs.Ytgmkmlenhhhgkaa
open Go.RowKit
set_option linter.unusedSimpArgs false
set_option linter.unusedVariables false
abbrev FnV := Value × Value × Value × Value
def fnCells (q : List FnV) : List Value := q.flatMap fun c => [c.1, c.2.1, c.2.2.1, c.2.2.2]
def FnRows (W : World) (B : Nat) (q : List FnV) (l : List Fn) : Prop := q.length = l.length ∧ ∀ (k : Nat) (c : FnV) (f : Fn), q[k]? = some c → l[k]? = some f → FnOwn W B c.1 c.2.1 c.2.2.1 c.2.2.2 f
theorem FnRows.kept {W W' : World} {B : Nat} {q : List FnV} {l : List Fn} {row : Option Nat} (h : FnRows W B q l) (hg : W.grownBy W' row) (he : NoRow W row) : FnRows W' B q l := ⟨h.1, fun k c f h1 h2 => (h.2 k c f h1 h2).kept hg he⟩
theorem FnRows.snoc {W : World} {B : Nat} {q : List FnV} {l : List Fn} {c : FnV} {f : Fn} (h : FnRows W B q l) (hf : FnOwn W B c.1 c.2.1 c.2.2.1 c.2.2.2 f) : FnRows W B (q ++ [c]) (l ++ [f]) := by
  refine ⟨by simp [h.1], fun k c' f' h1 h2 => ?_⟩
  by_cases hk : k < q.length
  · rw [List.getElem?_append_left hk] at h1
    rw [List.getElem?_append_left (by rw [← h.1]; exact hk)] at h2
    exact h.2 k c' f' h1 h2
  · have hk1 : k < (q ++ [c]).length := (List.getElem?_eq_some_iff.1 h1).1
    simp at hk1
    obtain rfl : k = q.length := by omega
    simp at h1
    rw [h.1] at h2
    simp at h2
    subst h1; subst h2; exact hf
theorem fnCells_length (q : List FnV) : (fnCells q).length = q.length * 4 := by
  induction q with
  | nil => rfl
  | cons x r ih => simp only [fnCells, List.flatMap_cons, List.length_append, List.length_cons, List.length_nil] at ih ⊢; omega
theorem fnCells_at (q : List FnV) : ∀ (k : Nat) (c : FnV), q[k]? = some c → (fnCells q)[k * 4]? = some c.1 ∧ (fnCells q)[k * 4 + 1]? = some c.2.1 ∧ (fnCells q)[k * 4 + 2]? = some c.2.2.1 ∧ (fnCells q)[k * 4 + 3]? = some c.2.2.2 := by
  induction q with
  | nil => intro k c h; simp at h
  | cons x r ih =>
    intro k c h
    cases k with
    | zero => simp at h; subst h; simp [fnCells]
    | succ k =>
      have := ih k c (by simpa using h)
      simp only [fnCells, List.flatMap_cons] at this ⊢
      refine ⟨?_, ?_, ?_, ?_⟩
      · rw [List.getElem?_append_right (by simp; omega)]; simpa [show (k + 1) * 4 - 4 = k * 4 from by omega] using this.1
      · rw [List.getElem?_append_right (by simp; omega)]; simpa [show (k + 1) * 4 + 1 - 4 = k * 4 + 1 from by omega] using this.2.1
      · rw [List.getElem?_append_right (by simp; omega)]; simpa [show (k + 1) * 4 + 2 - 4 = k * 4 + 2 from by omega] using this.2.2.1
      · rw [List.getElem?_append_right (by simp; omega)]; simpa [show (k + 1) * 4 + 3 - 4 = k * 4 + 3 from by omega] using this.2.2.2
theorem fnsAt_of_row {W : World} {base B : Nat} {v : Value} {q : List FnV} {l : List Fn} {n : Nat} (hn : n = l.length) (hm : n ≤ maxLen) (h : W.ownsRow base 33 4 v n (fnCells q)) (hq : FnRows W B q l) : FnsAt W v l := by
  subst hn
  rcases h.2 with ⟨rfl, h0⟩ | ⟨g, cap, cur, rfl, hb, hg, hn, hc, hs, ht⟩
  · refine ⟨none, 0, by rw [h0], hm, fun k o hk => ?_⟩
    have := lt_of_at' hk
    omega
  · refine ⟨_, cap, rfl, hm, fun k f hk => ?_⟩
    have hk2 := lt_of_at' hk
    obtain ⟨c, hc'⟩ := at_of_lt (l := q) (k := k) (by rw [hq.1]; exact hk2)
    obtain ⟨a0, a1, a2, a3⟩ := fnCells_at q k c hc'
    rw [← ht, List.getElem?_take_of_lt (by omega)] at a0 a1 a2 a3
    refine ⟨g, 0, c.1, c.2.1, c.2.2.1, c.2.2.2, rfl, heap_lt hg, ?_, ?_, ?_, ?_, (hq.2 k c f hc' hk).1⟩
    · rw [cell_at' hg]; simpa using a0
    · rw [cell_at' hg]; simpa using a1
    · rw [cell_at' hg]; simpa using a2
    · rw [cell_at' hg]; simpa using a3
/-- functions in memory of their own. -/
def FnsOwn (W : World) (B : Nat) (v : Value) (l : List Fn) : Prop := ∃ (q : List FnV) (n : Nat), n = l.length ∧ n ≤ 255 ∧ W.ownsRow B 33 4 v n (fnCells q) ∧ FnRows W B q l
theorem FnsOwn.at {W : World} {B : Nat} {v : Value} {l : List Fn} (h : FnsOwn W B v l) : FnsAt W v l := by
  obtain ⟨q, n, h1, h2, h3, h4⟩ := h
  exact fnsAt_of_row h1 (by unfold maxLen; omega) h3 h4
theorem FnsOwn.set {W : World} {B : Nat} {v : Value} {l : List Fn} (h : FnsOwn W B v l) {r j : Nat} {cs : Array Value} {fz : Nat × Nat} (hr : W.heap[r]? = some (.cells cs 24 fz)) (x : Value) : FnsOwn (W.setCell ⟨r, j, none⟩ x) B v l := by
  obtain ⟨q, n, h1, h2, h3, h4⟩ := h
  exact ⟨q, n, h1, h2, h3.kept (grown_set W r j x) (.inr (row_not h3 hr (by decide)).symm), h4.kept (grown_set W r j x) (noRow_at hr (by decide) (by decide))⟩
theorem FnsOwn.below {W W' : World} {B : Nat} {v : Value} {l : List Fn} (h : FnsOwn W B v l) (hb : Below W.heap.size W W') : FnsOwn W' B v l := by
  obtain ⟨q, n, h1, h2, h3, h4⟩ := h
  exact ⟨q, n, h1, h2, h3.kept (grown_of_below hb) (by cases hv : Value.ownBlock v <;> simp), h4.kept (grown_of_below hb) (noRow_none _)⟩
theorem infoFn : (Try.prog.info? 33).map (fun i => (i.zero, i.size, i.bytes)) = some (some (.agg #[.int .i64 0, .slice none 0 0, .int .i64 0, .slice none 0 0]), 4, 64) := by kernel_rfl
end Go.Proofs.Ytgmkmlenhhhgkaa
/- block.New. -/
namespace Go.Proofs.Ytgmkmlenhhhgkaa
open Go.RowKit
set_option linter.unusedSimpArgs false
set_option linter.unusedVariables false
theorem cell_one_at {w : World} {b : Nat} {x : Value} (h : w.cell? ⟨b, 0, none⟩ = some x) : ∀ (j : Nat) (u : Value), [x][j]? = some u → w.cell? ((⟨b, 0, none⟩ : Addr).add j) = some u := by
  intro j u hj
  match j, hj with
  | 0, hj => simp at hj; subst hj; exact h
  | j + 1, hj => simp at hj
theorem new_end {w2 w3 w4 : World} {B Bc Br m n nn : Nat} {q q' : List Value} {L : List (List Int)} {u : Value} (hrs : BRows w2 Bc q L) (hBc : B ≤ Bc) (h23 : Below w2.heap.size w2 w3) (hm : w3.heap[m]? = some (.cells ((List.replicate n (0 : Int)).map (Value.int .i64)).toArray 3 (0, 0))) (hBm : B ≤ m) (hap : m < Bc ∨ w2.heap.size ≤ m)
    (hrow : w2.ownsRow Br 30 1 u nn q') (hg : w3.grownBy w4 u.ownBlock) (hn : n ≤ 40) : BRows w4 B (q ++ [.slice (some ⟨m, 0, none⟩) n n]) (L ++ [List.replicate n 0]) := by
  have hty : ∀ (g : Nat) (cs : Array Value), w3.heap[g]? = some (.cells cs 3 (0, 0)) → some g ≠ u.ownBlock := fun g cs hg1 e => by
    have hgl := (hrow.lt g e.symm).2
    have hg2 := (h23.block g hgl).symm.trans hg1
    exact row_not hrow hg2 (by decide) e
  have h3 := hrs.below h23
  have h4 : BRows w4 Bc q L := h3.same fun k x g h1 hg1 => by
    obtain ⟨_, h5, cs, h6⟩ := h3.lt h1 hg1
    exact hg.block g h5 (hty g cs h6)
  have hm4 : w4.heap[m]? = _ := (hg.block m (heap_lt hm) (hty m _ hm)).trans hm
  refine (h4.low hBc).snoc' ?_ (fun k y g h1 hg1 e => ?_) (by simp; omega)
  · refine ⟨by simp, .inr ⟨m, n, _, by simp, hBm, hm4, by simp, by unfold maxLen; omega, by simp, by simp⟩⟩
  · have e' : m = g := by simpa [Value.ownBlock] using e
    obtain ⟨h5, h6, _⟩ := hrs.lt h1 hg1
    omega
theorem newErr_ge {L : List (List Int)} {size : Int} (h : newErr L size = 0) : 0 ≤ size := by
  unfold newErr at h
  by_cases hb : blkErr L = 0
  · rw [if_neg (by simpa using hb)] at h
    by_cases h0 : size < 0
    · rw [if_pos h0] at h; cases h
    · omega
  · rw [if_pos hb] at h; exact absurd h hb
end Go.Proofs.Ytgmkmlenhhhgkaa
/- block.Keep. -/
namespace Go.Proofs.Ytgmkmlenhhhgkaa
open Go.RowKit
set_option linter.unusedSimpArgs false
set_option linter.unusedVariables false
def LBox (bl : Nat) (v : Value) (W : World) : Prop := bl < W.heap.size ∧ W.cell? ⟨bl, 0, none⟩ = some v
theorem LBox.below {bl : Nat} {v : Value} {W W' : World} (h : LBox bl v W) (hb : Below W.heap.size W W') : LBox bl v W' := ⟨Nat.lt_of_lt_of_le h.1 hb.size, (hb.cell (p := ⟨bl, 0, none⟩) h.1).trans h.2⟩
/-- what stands at j behind k rounds. -/
def thenAt (refs : List Int) (k j : Nat) : Int := if 1 ≤ j ∧ j ≤ k ∧ (j : Int) ∈ refs then ((stays refs j).length : Int) else 0
def thenRow (refs : List Int) (n k : Nat) : List Int := (List.range (n + 1)).map (thenAt refs k)
theorem thenRow_zero (refs : List Int) (n : Nat) : thenRow refs n 0 = List.replicate (n + 1) 0 := by
  apply List.ext_getElem?
  intro j
  unfold thenRow
  by_cases hj : j < n + 1
  · have h0 : thenAt refs 0 j = 0 := by unfold thenAt; rw [if_neg (by omega)]
    simp [hj, h0]
  · simp [hj]
theorem thenRow_true {refs : List Int} {n k : Nat} (hk : k < n) (h : (k : Int) + 1 ∈ refs) : (thenRow refs n k).set (k + 1) ((stays refs (k + 1)).length : Int) = thenRow refs n (k + 1) := by
  apply List.ext_getElem?
  intro j
  unfold thenRow
  by_cases hj : j < n + 1
  · by_cases he : k + 1 = j
    · subst he
      rw [List.getElem?_set_self (by simp; omega)]
      have h2 : 1 ≤ k + 1 ∧ k + 1 ≤ k + 1 ∧ (((k + 1 : Nat) : Int)) ∈ refs := ⟨by omega, by omega, by simpa using h⟩
      simp [hj, thenAt, h]
    · rw [List.getElem?_set_ne he]
      have h2 : thenAt refs k j = thenAt refs (k + 1) j := by
        unfold thenAt
        by_cases hc : 1 ≤ j ∧ j ≤ k ∧ (j : Int) ∈ refs
        · rw [if_pos hc, if_pos ⟨hc.1, by omega, hc.2.2⟩]
        · rw [if_neg hc, if_neg (fun h => hc ⟨h.1, by omega, h.2.2⟩)]
      simp [hj, h2]
  · rw [List.getElem?_eq_none (by simp; omega), List.getElem?_eq_none (by simp; omega)]
theorem thenRow_false {refs : List Int} {n k : Nat} (h : ¬ (k : Int) + 1 ∈ refs) : thenRow refs n k = thenRow refs n (k + 1) := by
  unfold thenRow
  apply List.map_congr_left
  intro j _
  unfold thenAt
  by_cases hc : 1 ≤ j ∧ j ≤ k ∧ (j : Int) ∈ refs
  · rw [if_pos hc, if_pos ⟨hc.1, by omega, hc.2.2⟩]
  · rw [if_neg hc, if_neg]
    intro h2
    by_cases he : j = k + 1
    · subst he; exact h (by simpa using h2.2.2)
    · exact hc ⟨h2.1, by omega, h2.2.2⟩
theorem thenRow_at {refs : List Int} {n r : Nat} (hr : r ≤ n) (h : (r : Int) ∈ refs) : (thenRow refs n n)[r]? = some (thenOf refs r) := by
  unfold thenRow
  have hr' : r < n + 1 := by omega
  rw [List.getElem?_map, List.getElem?_range hr']
  unfold thenAt thenOf
  by_cases h0 : r = 0
  · subst h0; simp [stays]
  · have : 1 ≤ r ∧ r ≤ n ∧ (r : Int) ∈ refs := ⟨by omega, hr, h⟩
    simp [this]
theorem thenRow_length (refs : List Int) (n k : Nat) : (thenRow refs n k).length = n + 1 := by simp [thenRow]
theorem row_cell_ex {W : World} {b k : Nat} {cs : List Int} {t : TypeId} {fz : Nat × Nat} (hk : k < cs.length) (h : W.heap[b]? = some (.cells (cs.map (Value.int .i64)).toArray t fz)) : ∃ z, cs[k]? = some z ∧ W.cell? ⟨b, k, none⟩ = some (.int .i64 z) := by
  obtain ⟨z, hz⟩ := at_of_lt hk
  exact ⟨z, hz, by rw [cell_at' h]; simp [hz]⟩
end Go.Proofs.Ytgmkmlenhhhgkaa
