/- verifyBegun. -/
import Derived.Test.YtenaionchlnpoabJq
namespace Go.Proofs.Ytenaionchlnpoab
open Go.RowKit
set_option linter.unusedSimpArgs false
set_option linter.unusedVariables false
theorem bthen {a b c : World} (h : Below a.heap.size a b) (k : Below b.heap.size b c) : Below a.heap.size a c := h.trans (k.mono h.size)
theorem entCells_at (q : List (Nat × Value)) : ∀ (k : Nat) (x : Nat × Value), q[k]? = some x → (entCells q)[k * 2]? = some (.int .i64 x.1) ∧ (entCells q)[k * 2 + 1]? = some x.2 := by
  induction q with
  | nil => intro k x h; simp at h
  | cons y r ih =>
    intro k x h
    cases k with
    | zero => simp at h; subst h; simp [entCells]
    | succ k =>
      have := ih k x (by simpa using h)
      rw [show (k + 1) * 2 = k * 2 + 1 + 1 from by omega]
      simpa [entCells] using this
theorem ents_at {W : World} {B : Nat} {v : Value} {l : List (Nat × List Int)} (h : EntsOwn W B v l) {k pc : Nat} {s : List Int} (hk : l[k]? = some (pc, s)) : ∃ g cap p n c, v = .slice (some ⟨g, 0, none⟩) l.length cap ∧ g < W.heap.size ∧ W.cell? ⟨g, k * 2, none⟩ = some (.int .i64 pc) ∧ W.cell? ⟨g, k * 2 + 1, none⟩ = some (.slice p n c) ∧ IntsAt W (.slice p n c) s := by
  obtain ⟨q, hr, hlen, hq⟩ := h
  have hkl := lt_of_at hk
  obtain ⟨⟨pc', u⟩, hx⟩ := at_of_lt (l := q) (k := k) (by omega)
  obtain ⟨h1, h2⟩ := hq k _ _ hx hk
  simp only at h1 h2
  subst h1
  obtain ⟨p, c, hu⟩ := row_shp h2
  subst hu
  rcases hr.2 with ⟨rfl, h0⟩ | ⟨g, cap, cur, rfl, hb, hg, hn, hc, hs, ht⟩
  · omega
  · have hcl := entCells_at q k _ hx
    refine ⟨g, cap, p, s.length, c, by rw [hlen], heap_lt hg, ?_, ?_, intsAt_of_row rfl h2⟩
    · have := hcl.1
      rw [← ht, List.getElem?_take_of_lt (by omega)] at this
      rw [cell_at' hg]; simpa using this
    · have := hcl.2
      rw [← ht, List.getElem?_take_of_lt (by omega)] at this
      rw [cell_at' hg]; simpa using this
theorem jn1 : joinErr [3, 1] [2, 1] = 0 ∧ joinR [3, 1] [2, 1] = [2, 1] ∧ joinErr [1] [2] = 4 := by decide +kernel
set_option maxRecDepth 100000 in
set_option maxHeartbeats 4000000 in
theorem verifyBegun_any (w : World) : Calls Try.prog 16 #[] w fun e w' => e = .returned (.bool true) ∧ Below w.heap.size w w' := by
  have hS : ∀ (W : World) (v u : Value) (l : List Int), IntsAt W v l → IntsAt W u l → Calls Try.prog 18 #[v, u] W fun e w' => e = .returned (.bool true) ∧ Below W.heap.size W w' := by
    intro W v u l h1 h2
    have := sameInts_any l l v u W h1 h2
    rw [decide_eq_true rfl] at this
    exact this
  have hF : ∀ (W : World) (v : Value), FnsAt W v counterFns → CapAt W v → Calls Try.prog 32 #[.agg #[v], .int .i64 0] W fun e w' => ∃ g cap p n c, e = .returned (.tuple #[.slice (some ⟨g, 0, none⟩) 10 cap, .int .i64 0]) ∧ g < w'.heap.size ∧ w'.cell? ⟨g, 7, none⟩ = some (.slice p n c) ∧ IntsAt w' (.slice p n c) [1] ∧ Below W.heap.size W w' := by
    intro W v h1 h2
    refine (vFunc_any counterFns 0 v W h1 h2).mono ?_
    rintro e w' ⟨v', er, l, rfl, hi, ho, hb⟩
    obtain ⟨rfl, hl, h3⟩ := counter_func hi
    obtain ⟨g, cap, p, n, c, rfl, hg, _, hc, hI⟩ := ents_at ho h3
    rw [hl]
    exact ⟨g, cap, p, n, c, rfl, hg, hc, hI, hb⟩
  have hJ1 : ∀ (W : World) (v u : Value), IntsAt W v [3, 1] → IntsAt W u [2, 1] → Calls Try.prog 17 #[v, u] W fun e w' => ∃ p n c, e = .returned (.tuple #[.slice p n c, .int .i64 0]) ∧ IntsAt w' (.slice p n c) [2, 1] ∧ Below W.heap.size W w' := by
    intro W v u h1 h2
    have := vJoin_any [3, 1] [2, 1] v u W h1 h2
    rw [jn1.1, jn1.2.1] at this
    refine this.mono ?_
    rintro e w' ⟨x, rfl, hr, hb⟩
    obtain ⟨p, c, rfl⟩ := row_shp hr
    exact ⟨_, _, _, rfl, intsAt_of_row rfl hr, hb⟩
  have hJ2 : ∀ (W : World) (v u : Value), IntsAt W v [1] → IntsAt W u [2] → Calls Try.prog 17 #[v, u] W fun e w' => ∃ p n c, e = .returned (.tuple #[.slice p n c, .int .i64 4]) ∧ Below W.heap.size W w' := by
    intro W v u h1 h2
    have := vJoin_any [1] [2] v u W h1 h2
    rw [jn1.2.2] at this
    refine this.mono ?_
    rintro e w' ⟨x, rfl, hr, hb⟩
    obtain ⟨p, c, rfl⟩ := row_shp hr
    exact ⟨_, _, _, rfl, hb⟩
  have hP1 : ∀ (W : World) (v : Value), FnsAt W v squareFns → CapAt W v → Calls Try.prog 34 #[.agg #[v]] W fun e w' => e = .returned (.int .i64 0) ∧ Below W.heap.size W w' := by
    intro W v h1 h2
    refine (vProgram_any squareFns v W h1 h2).mono ?_
    rintro e w' ⟨er, rfl, hi, hb⟩
    rw [square_prog hi]
    exact ⟨rfl, hb⟩
  have hP2 : ∀ (W : World) (v : Value), FnsAt W v badFns → CapAt W v → Calls Try.prog 34 #[.agg #[v]] W fun e w' => e = .returned (.int .i64 4) ∧ Below W.heap.size W w' := by
    intro W v h1 h2
    refine (vProgram_any badFns v W h1 h2).mono ?_
    rintro e w' ⟨er, rfl, hi, hb⟩
    rw [bad_prog hi]
    exact ⟨rfl, hb⟩
  have HS := hideP hS
  have HF := hideP hF
  have HJ1 := hideP hJ1
  have HJ2 := hideP hJ2
  have HP1 := hideP hP1
  have HP2 := hideP hP2
  clear hS hF hJ1 hJ2 hP1 hP2
  go_enter Try.func16, Try.ntmps16
  go_wp2_with fail
  refine (counter_any _).mono ?_
  rintro e w1 ⟨v1, rfl, f1, k1, b1⟩
  go_wp2_with fail
  refine (HF.out _ _ f1 k1).mono ?_
  rintro e w2 ⟨g, cap, pe, ne, ce, rfl, hg2, ce2, ie2, hb2⟩
  have B2 := bthen b1 hb2
  clear f1 k1 b1 hb2
  go_wp2_with fail
  have a1 := (Below.refl w2.heap.size w2).alloc (Nat.le_refl _) (.cells #[.int .i64 3, .int .i64 1] 3)
  have a2 := a1.alloc a1.size (.cells #[.int .i64 2, .int .i64 1] 3)
  refine (HJ1.out _ _ _ (ints_lit 2 2 (heap_old (World.alloc_heap_new w2 (.cells #[.int .i64 3, .int .i64 1] 3)) (.cells #[.int .i64 2, .int .i64 1] 3)) rfl (by unfold maxLen; decide)) (ints_lit 2 2 (new_two w2 _ _) rfl (by unfold maxLen; decide))).mono ?_
  rintro e w3 ⟨pj, nj, cj, rfl, ij3, hb3⟩
  have b23 := bthen a2 hb3
  have B3 := bthen B2 b23
  have hg3 := Nat.lt_of_lt_of_le hg2 b23.size
  have ce3 := (b23.cell (p := ⟨g, 7, none⟩) hg2).trans ce2
  have ie3 := ie2.below b23
  clear a1 a2 hb3 b23 B2 hg2 ce2 ie2
  go_wp2_with fail
  have a1 := (Below.refl w3.heap.size w3).alloc (Nat.le_refl _) (.cells #[.int .i64 1] 3)
  have a2 := a1.alloc a1.size (.cells #[.int .i64 2] 3)
  refine (HJ2.out _ _ _ (ints_lit 1 1 (heap_old (World.alloc_heap_new w3 (.cells #[.int .i64 1] 3)) (.cells #[.int .i64 2] 3)) rfl (by unfold maxLen; decide)) (ints_lit 1 1 (new_two w3 _ _) rfl (by unfold maxLen; decide))).mono ?_
  rintro e w4 ⟨pk, nk, ck, rfl, hb4⟩
  have b34 := bthen a2 hb4
  have B4 := bthen B3 b34
  have hg4 := Nat.lt_of_lt_of_le hg3 b34.size
  have ce4 := (b34.cell (p := ⟨g, 7, none⟩) hg3).trans ce3
  have ie4 := ie3.below b34
  have ij4 := ij3.below b34
  clear a1 a2 hb4 b34 B3 hg3 ce3 ie3 ij3
  obtain ⟨W7, hW7⟩ : ∃ W7, ((w4.alloc (.cells #[.int .i64 2, .int .i64 0, .int .i64 13, .int .i64 0] 43)).alloc (.cells #[.int .i64 0, .slice none 0 0, .int .i64 0, .slice (some ⟨w4.heap.size, 0, none⟩) 2 2] 59)).alloc (.cells #[.slice (some ⟨w4.heap.size + 1, 0, none⟩) 1 1] 56) = W7 := ⟨_, rfl⟩
  have b47 : Below w4.heap.size w4 W7 := by rw [← hW7]; exact (((Below.refl _ w4).alloc (Nat.le_refl _) _).alloc (by simp) _).alloc (by simp; omega) _
  have x0 : W7.heap[w4.heap.size]? = some (.cells #[.int .i64 2, .int .i64 0, .int .i64 13, .int .i64 0] 43 (0, 0)) := by rw [← hW7]; exact heap_old (heap_old (World.alloc_heap_new w4 _) _) _
  have x1 : W7.heap[w4.heap.size + 1]? = some (.cells #[.int .i64 0, .slice none 0 0, .int .i64 0, .slice (some ⟨w4.heap.size, 0, none⟩) 2 2] 59 (0, 0)) := by rw [← hW7]; exact heap_old (new_two w4 _ _) _
  have x2 : W7.heap[w4.heap.size + 1 + 1]? = some (.cells #[.slice (some ⟨w4.heap.size + 1, 0, none⟩) 1 1] 56 (0, 0)) := by
    rw [← hW7]
    have := World.alloc_heap_new ((w4.alloc (.cells #[.int .i64 2, .int .i64 0, .int .i64 13, .int .i64 0] 43)).alloc (.cells #[.int .i64 0, .slice none 0 0, .int .i64 0, .slice (some ⟨w4.heap.size, 0, none⟩) 2 2] 59)) (.cells #[.slice (some ⟨w4.heap.size + 1, 0, none⟩) 1 1] 56)
    simpa using this
  obtain ⟨fb, kb⟩ := fns_one x1 (opsAt_new (l := [(2, 0), (13, 0)]) (m := []) (fz := (0, 0)) 2 2 x0 rfl (by unfold maxLen; decide))
  have cb7 := cell_at' x2 0
  simp at cb7
  have lb7 := heap_lt x2
  have B7 := bthen B4 b47
  have hg7 := Nat.lt_of_lt_of_le hg4 b47.size
  have ce7 := (b47.cell (p := ⟨g, 7, none⟩) hg4).trans ce4
  have ie7 := ie4.below b47
  have ij7 := ij4.below b47
  have HW7 := hideP hW7
  clear x0 x1 x2 b47 hg4 ce4 ie4 ij4 B4
  have ce4a := ce7
  go_wp2_with fail
  have q8 := World.alloc_heap_new W7 (.cells #[.int .i64 1] 3)
  have a8 := (Below.refl W7.heap.size W7).alloc (Nat.le_refl _) (.cells #[.int .i64 1] 3)
  refine (HS.out _ _ _ [1] (ie7.below a8) (ints_lit 1 1 q8 rfl (by unfold maxLen; decide))).mono ?_
  rintro e w8 ⟨rfl, hb8⟩
  have b78 := bthen a8 hb8
  have ij8 := ij7.below b78
  clear q8 a8 hb8 ie7 ij7 ce7 ce4a hW7
  go_wp2_with fail
  have q9 := World.alloc_heap_new w8 (.cells #[.int .i64 2, .int .i64 1] 3)
  have a9 := (Below.refl w8.heap.size w8).alloc (Nat.le_refl _) (.cells #[.int .i64 2, .int .i64 1] 3)
  refine (HS.out _ _ _ [2, 1] (ij8.below a9) (ints_lit 2 2 q9 rfl (by unfold maxLen; decide))).mono ?_
  rintro e w9 ⟨rfl, hb9⟩
  have b79 := bthen b78 (bthen a9 hb9)
  clear q9 a9 hb9 ij8 b78
  go_wp2_with fail
  refine (squareC_any _).mono ?_
  rintro e w10 ⟨v10, rfl, f10, k10, hb10⟩
  go_wp2_with fail
  refine (HP1.out _ _ f10 k10).mono ?_
  rintro e w11 ⟨rfl, hb11⟩
  have b711 := bthen b79 (bthen hb10 hb11)
  have cb11 := (b711.cell (p := ⟨w4.heap.size + 1 + 1, 0, none⟩) lb7).trans cb7
  have fb11 := fb.below b711
  have kb11 := kb.below fb b711
  clear f10 k10 hb10 hb11 b79
  go_wp2_with fail
  refine (HP2.out _ _ fb11 kb11).mono ?_
  rintro e w12 ⟨rfl, hb12⟩
  go_wp2
  go_ret
  exact ⟨rfl, bthen B7 (bthen b711 hb12)⟩
end Go.Proofs.Ytenaionchlnpoab

