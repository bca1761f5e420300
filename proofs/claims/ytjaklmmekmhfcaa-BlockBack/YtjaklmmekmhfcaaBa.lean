/- Blocks in memory. -/
import Derived.Test.YtjaklmmekmhfcaaJd
import Derived.Test.YtjaklmmekmhfcaaFg
import Derived.Test.YtjaklmmekmhfcaaPb
namespace Go.Proofs.Ytjaklmmekmhfcaa
open Go.RowKit
set_option linter.unusedSimpArgs false
set_option linter.unusedVariables false
/-- the slice 'v' holds the blocks 'L'. -/
def BlksAt (w : World) (v : Value) (L : List (List Int)) : Prop :=
  ∃ (p : Option Addr) (cap : Nat), v = .slice p L.length cap ∧ L.length ≤ maxLen ∧ ∀ k b, L[k]? = some b →
    ∃ g off c, p = some ⟨g, off, none⟩ ∧ g < w.heap.size ∧ w.cell? ⟨g, off + k, none⟩ = some c ∧ IntsAt w c b ∧ NilOk c ∧ b.length ≤ 17592186044416
theorem BlksAt.below {w w' : World} {v : Value} {L : List (List Int)} (h : BlksAt w v L) (hb : Below w.heap.size w w') : BlksAt w' v L := by
  obtain ⟨p, cap, rfl, hm, hc⟩ := h
  refine ⟨p, cap, rfl, hm, fun k b hk => ?_⟩
  obtain ⟨g, off, c, rfl, hlt, h0, h1, h2, h3⟩ := hc k b hk
  exact ⟨g, off, c, rfl, Nat.lt_of_lt_of_le hlt hb.size, (hb.cell (p := ⟨g, off + k, none⟩) hlt).trans h0, h1.below hb, h2, h3⟩
/-- rows of numbers in memory of the call's own, no two of them one. -/
structure BRows (W : World) (B : Nat) (q : List Value) (L : List (List Int)) : Prop where
  len : q.length = L.length
  each : ∀ (k : Nat) (x : Value) (b : List Int), q[k]? = some x → L[k]? = some b → W.ownsRow B 3 1 x b.length (b.map (Value.int .i64))
  apart : ∀ (i j : Nat) (x y : Value) (g : Nat), q[i]? = some x → q[j]? = some y → x.ownBlock = some g → y.ownBlock = some g → i = j
  small : ∀ b ∈ L, b.length ≤ 17592186044416
/-- blocks in memory of the call's own. -/
def BlksOwn (W : World) (B : Nat) (v : Value) (L : List (List Int)) : Prop := ∃ q, W.ownsRow B 26 1 v q.length q ∧ BRows W B q L
theorem bRows_nil (W : World) (B : Nat) : BRows W B [] [] := ⟨rfl, fun k x b h => by simp at h, fun i j x y g h => by simp at h, fun b h => by simp at h⟩
theorem blksOwn_nil (W : World) (B : Nat) : BlksOwn W B (.slice none 0 0) [] := ⟨[], World.ownsRow_nil _ _ _ _, bRows_nil W B⟩
theorem BRows.low {W : World} {B B' : Nat} {q : List Value} {L : List (List Int)} (h : BRows W B q L) (hB : B' ≤ B) : BRows W B' q L :=
  ⟨h.len, fun k x b h1 h2 => row_low (h.each k x b h1 h2) hB, h.apart, h.small⟩
theorem BlksOwn.low {W : World} {B B' : Nat} {v : Value} {L : List (List Int)} (h : BlksOwn W B v L) (hB : B' ≤ B) : BlksOwn W B' v L := by
  obtain ⟨q, h1, h2⟩ := h
  exact ⟨q, row_low h1 hB, h2.low hB⟩
theorem BRows.same {W W' : World} {B : Nat} {q : List Value} {L : List (List Int)} (h : BRows W B q L) (hk : ∀ (k : Nat) (x : Value) (g : Nat), q[k]? = some x → x.ownBlock = some g → W'.heap[g]? = W.heap[g]?) : BRows W' B q L :=
  ⟨h.len, fun k x b h1 h2 => row_same (h.each k x b h1 h2) fun g hg => hk k x g h1 hg, h.apart, h.small⟩
theorem BRows.below {W W' : World} {B : Nat} {q : List Value} {L : List (List Int)} (h : BRows W B q L) (hb : Below W.heap.size W W') : BRows W' B q L :=
  h.same fun k x g h1 hg => by
    obtain ⟨b, h2⟩ := at_of_lt (l := L) (k := k) (by rw [← h.len]; exact lt_of_at h1)
    exact hb.block g ((h.each k x b h1 h2).lt g hg).2
theorem BRows.lt {W : World} {B : Nat} {q : List Value} {L : List (List Int)} (h : BRows W B q L) {k : Nat} {x : Value} {g : Nat} (hx : q[k]? = some x) (hg : x.ownBlock = some g) : B ≤ g ∧ g < W.heap.size ∧ ∃ cs, W.heap[g]? = some (.cells cs 3 (0, 0)) := by
  obtain ⟨b, h2⟩ := at_of_lt (l := L) (k := k) (by rw [← h.len]; exact lt_of_at hx)
  have hr := h.each k x b hx h2
  refine ⟨(hr.lt g hg).1, (hr.lt g hg).2, ?_⟩
  rcases hr.2 with ⟨rfl, _⟩ | ⟨g', cap, cur, rfl, _, hh, _⟩
  · cases hg
  · cases hg; exact ⟨_, hh⟩
theorem BRows.snoc' {W : World} {B : Nat} {q : List Value} {L : List (List Int)} {x : Value} {b : List Int} (h : BRows W B q L) (hx : W.ownsRow B 3 1 x b.length (b.map (Value.int .i64))) (hn : ∀ (k : Nat) (y : Value) (g : Nat), q[k]? = some y → y.ownBlock = some g → x.ownBlock ≠ some g) (hs : b.length ≤ 17592186044416) : BRows W B (q ++ [x]) (L ++ [b]) := by
  have key : ∀ (k : Nat) (y : Value), (q ++ [x])[k]? = some y → (k < q.length ∧ q[k]? = some y) ∨ (k = q.length ∧ y = x) := by
    intro k y hk
    by_cases hl : k < q.length
    · rw [List.getElem?_append_left hl] at hk; exact .inl ⟨hl, hk⟩
    · rw [List.getElem?_append_right (by omega)] at hk
      have h0 : k - q.length = 0 := by have := lt_of_at hk; simp at this; omega
      rw [h0] at hk; simp at hk
      exact .inr ⟨by omega, hk.symm⟩
  refine ⟨by simp [h.len], fun k y c hy hc => ?_, fun i j y z g hy hz gy gz => ?_, fun c hc => ?_⟩
  · rcases key k y hy with ⟨h1, h2⟩ | ⟨rfl, rfl⟩
    · rw [List.getElem?_append_left (by rw [← h.len]; exact h1)] at hc
      exact h.each k y c h2 hc
    · rw [List.getElem?_append_right (by rw [h.len]; omega), h.len, Nat.sub_self] at hc
      simp at hc; subst hc
      exact hx
  · rcases key i y hy with ⟨h1, h2⟩ | ⟨rfl, rfl⟩
    · rcases key j z hz with ⟨h3, h4⟩ | ⟨rfl, rfl⟩
      · exact h.apart i j y z g h2 h4 gy gz
      · exact absurd gz (hn i y g h2 gy)
    · rcases key j z hz with ⟨h3, h4⟩ | ⟨rfl, rfl⟩
      · exact absurd gy (hn j z g h4 gz)
      · rfl
  · rcases List.mem_append.1 hc with hc | hc
    · exact h.small c hc
    · simp at hc; subst hc; exact hs
theorem BRows.snoc {W : World} {B B' : Nat} {q : List Value} {L : List (List Int)} {x : Value} {b : List Int} (h : BRows W B q L) (hx : W.ownsRow B' 3 1 x b.length (b.map (Value.int .i64))) (hB : B ≤ B') (hn : ∀ (k : Nat) (y : Value) (g : Nat), q[k]? = some y → y.ownBlock = some g → g < B') (hs : b.length ≤ 17592186044416) : BRows W B (q ++ [x]) (L ++ [b]) :=
  h.snoc' (row_low hx hB) (fun k y g h1 h2 h3 => by
    have := hn k y g h1 h2
    have := (hx.lt g h3).1
    omega) hs
theorem BlksOwn.below {W W' : World} {B : Nat} {v : Value} {L : List (List Int)} (h : BlksOwn W B v L) (hb : Below W.heap.size W W') : BlksOwn W' B v L := by
  obtain ⟨q, h1, h2⟩ := h
  exact ⟨q, row_same h1 fun g hg => hb.block g (h1.lt g hg).2, h2.below hb⟩
theorem blksAt_of_rows {W : World} {B : Nat} {p : Option Addr} {cap : Nat} {q : List Value} {L : List (List Int)} (hr : BRows W B q L) (hm : L.length ≤ maxLen) (hp : ∀ k x, q[k]? = some x → ∃ g off, p = some ⟨g, off, none⟩ ∧ g < W.heap.size ∧ W.cell? ⟨g, off + k, none⟩ = some x) : BlksAt W (.slice p L.length cap) L := by
  refine ⟨p, cap, rfl, hm, fun k b hk => ?_⟩
  obtain ⟨x, hx⟩ := at_of_lt (l := q) (k := k) (by rw [hr.len]; exact lt_of_at hk)
  obtain ⟨g, off, h1, h2, h3⟩ := hp k x hx
  have h4 := hr.each k x b hx hk
  exact ⟨g, off, x, h1, h2, h3, intsAt_of_row rfl h4, nilOk_row h4, hr.small b (List.mem_of_getElem? hk)⟩
theorem blksAt_of_own {W : World} {B : Nat} {v : Value} {L : List (List Int)} (h : BlksOwn W B v L) : BlksAt W v L := by
  obtain ⟨q, h1, h2⟩ := h
  rcases h1.2 with ⟨rfl, h0⟩ | ⟨g, cap, cur, rfl, hb, hg, hn, hc, hs, ht⟩
  · have hL : L = [] := List.eq_nil_of_length_eq_zero (by rw [← h2.len]; exact h0)
    subst hL
    exact ⟨none, 0, rfl, Nat.zero_le _, fun k b hk => by simp at hk⟩
  · rw [h2.len]
    refine blksAt_of_rows h2 (by rw [← h2.len]; omega) fun k x hx => ⟨g, 0, rfl, heap_lt hg, ?_⟩
    have hk := lt_of_at hx
    rw [← ht, List.getElem?_take_of_lt (by omega)] at hx
    rw [cell_at' hg]; simpa using hx
theorem BlksOwn.shp {W : World} {B : Nat} {v : Value} {L : List (List Int)} (h : BlksOwn W B v L) : ∃ p c, v = .slice p L.length c := by
  obtain ⟨q, h1, h2⟩ := h
  obtain ⟨p, c, hv⟩ := row_shp h1
  exact ⟨p, c, by rw [hv, h2.len]⟩

theorem bthen0 {a b c : World} (h : Below a.heap.size a b) (k : Below b.heap.size b c) : Below a.heap.size a c := h.trans (k.mono h.size)
end Go.Proofs.Ytjaklmmekmhfcaa

