/- verify's stack: pop, leave, result. -/
import Derived.Test.YtenaionchlnpoabJb
import Derived.Test.YtenaionchlnpoabAp
namespace Go.Proofs.Ytenaionchlnpoab
open Go.RowKit
set_option linter.unusedSimpArgs false
set_option linter.unusedVariables false
/-- a stack at block b: its types lie in memory of the call's own. -/
def StAt (W : World) (b B : Nat) (l : List Int) (wr : Bool) : Prop := ∃ v, W.heap[b]? = some (.cells #[v, .bool wr] 98 (0, 0)) ∧ W.ownsRow B 3 1 v l.length (l.map (Value.int .i64))
theorem StAt.lt {W : World} {b B : Nat} {l : List Int} {wr : Bool} (h : StAt W b B l wr) : b < W.heap.size := by
  obtain ⟨v, h, _⟩ := h
  exact heap_lt h
theorem StAt.kept {W W' : World} {b B : Nat} {l : List Int} {wr : Bool} (h : StAt W b B l wr) (hb : Below W.heap.size W W') : StAt W' b B l wr := by
  obtain ⟨v, h1, h2⟩ := h
  exact ⟨v, (hb.block _ (heap_lt h1)).trans h1, row_same h2 fun j hj => hb.block j (h2.lt j hj).2⟩
theorem stack_not_row {W : World} {b B : Nat} {v v' : Value} {wr : Bool} {n : Nat} {xs : List Value} (h : W.heap[b]? = some (.cells #[v, .bool wr] 98 (0, 0))) (hr : W.ownsRow B 3 1 v' n xs) : v'.ownBlock ≠ some b := (row_not hr h (by decide)).symm
theorem StAt.set {W : World} {b B : Nat} {v v' : Value} {wr wr' : Bool} {l : List Int} (h : W.heap[b]? = some (.cells #[v, .bool wr] 98 (0, 0))) {W' : World} (hW : W'.heap[b]? = some (.cells #[v', .bool wr'] 98 (0, 0))) (hr : W.ownsRow B 3 1 v' l.length (l.map (Value.int .i64))) (hg : W.grownBy W' (some b)) : StAt W' b B l wr' :=
  ⟨v', hW, hr.kept hg (.inr (stack_not_row h hr))⟩
/-- the top, and what is left. -/
def topP (l : List Int) : Int := l.getLast?.getD 0
set_option maxRecDepth 100000 in
set_option maxHeartbeats 2000000 in
theorem pop_any (l : List Int) (wr : Bool) (b B : Nat) (w : World) (h : StAt w b B l wr) (hl : l.length ≤ 100) : Calls Try.prog 93 #[.pointer (some ⟨b, 0, none⟩)] w fun e w' => e = .returned (.int .i64 (topP l)) ∧ StAt w' b B l.dropLast (wr || l.isEmpty) ∧ w.grownBy w' (some b) := by
  obtain ⟨v, h1, h2⟩ := h
  have c0 := cell_at' h1 0
  have c1 := cell_at' h1 1
  have z0 := Lib.frozen_of_heap h1 0
  have z1 := Lib.frozen_of_heap h1 1
  simp at c0 c1
  have H1 := hideP h1
  have H2 := hideP h2
  rcases List.eq_nil_or_concat l with rfl | ⟨r, x, hlx⟩
  · obtain ⟨p, c, rfl⟩ := row_shp h2
    clear h1 h2
    simp only [List.length_nil] at c0
    go_enter Try.func93, Try.ntmps93
    go_wp2
    go_ret
    refine ⟨rfl, ?_, set_grown _ _ _⟩
    have := heap_setCell_same w b 1 _ _ (.bool true) H1.out
    exact StAt.set (l := []) H1.out (by simpa using this) H2.out (set_grown _ _ _)
  · rw [List.concat_eq_append] at hlx
    subst hlx
    have hlen : (r ++ [x]).length = r.length + 1 := by simp
    rw [hlen] at h2
    rcases h2.2 with ⟨_, h0⟩ | ⟨g, cap, cur, rfl, hBg, hg, hn, hm, hs, ht⟩
    · omega
    · have hcell : w.cell? ⟨g, r.length, none⟩ = some (.int .i64 x) := by
        rw [cell_at' hg]
        have : (cur.toList.take ((r.length + 1) * 1))[r.length]? = some (.int .i64 x) := by rw [ht]; simp
        rw [List.getElem?_take_of_lt (by omega)] at this
        simpa using this
      have hrow' : w.ownsRow B 3 1 (.slice (some ⟨g, 0, none⟩) r.length cap) r.length (r.map (Value.int .i64)) := by
        refine ⟨by simp, .inr ⟨g, cap, cur, rfl, hBg, hg, by omega, hm, hs, ?_⟩⟩
        have h3 : (cur.toList.take ((r.length + 1) * 1)).take (r.length * 1) = r.map (Value.int .i64) := by
          rw [ht, List.map_append, List.take_append_of_le_length (by simp)]
          exact List.take_of_length_le (by simp)
        rw [List.take_take, Nat.min_eq_left (by omega)] at h3
        exact h3
      have HR := hideP hrow'
      have hwm : (r.length : Int) + 1 - 1 = (r.length : Int) := by omega
      have hnn : ¬ (r.length : Int) < 0 := by omega
      have hcap : r.length ≤ cap := by omega
      have e1 : topP (r ++ [x]) = x := by simp [topP]
      have e2 : (r ++ [x]).dropLast = r := by simp
      have e3 : (wr || (r ++ [x]).isEmpty) = wr := by simp
      rw [e1, e2, e3]
      have hrl : r.length ≤ 100 := by omega
      unfold maxLen at hm
      clear h1 h2 hlen hrow' hg hs ht e1 e2 e3 hl
      go_enter Try.func93, Try.ntmps93
      go_wp2
      go_ret
      refine ⟨rfl, ?_, set_grown _ _ _⟩
      have := heap_setCell_same w b 0 _ _ (.slice (some ⟨g, 0, none⟩) r.length cap) H1.out
      exact StAt.set H1.out (by simpa using this) HR.out (set_grown _ _ _)
end Go.Proofs.Ytenaionchlnpoab

