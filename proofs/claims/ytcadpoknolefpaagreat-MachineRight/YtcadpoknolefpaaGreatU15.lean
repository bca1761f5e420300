/- My texts Jr Pbb Pbc Pw Vl Wk Wl, joined. -/
import Derived.Laws.IdiomStrings
import Derived.Test.YtcadpoknolefpaaGreatU2
import Derived.Test.YtcadpoknolefpaaGreatU3
import Derived.Test.YtcadpoknolefpaaGreatU6
import Derived.Test.YtcadpoknolefpaaGreatU11
import Derived.Test.YtcadpoknolefpaaGreatU14
/- verifyBegun. -/
namespace Go.Proofs.YtcadpoknolefpaaGreat
open Go.RowKit
set_option linter.unusedSimpArgs false
set_option linter.unusedVariables false
theorem bthen {a b c : World} (h : Below a.heap.size a b) (k : Below b.heap.size b c) : Below a.heap.size a c := h.trans (k.mono h.size)
theorem entCells_at (q : List (Nat × Value)) : ∀ (k : Nat) (x : Nat × Value), q[k]? = some x → (entCells q)[k * 2]? = some (.int .i64 x.1) ∧ (entCells q)[k * 2 + 1]? = some x.2 := by
  induction q with
  | nil => intro k x h; simp at h
  | cons y r ih =>
    intro k x h
    cases k with
    | zero => simp at h; subst h; simp [entCells]
    | succ k =>
      have := ih k x (by simpa using h)
      rw [show (k + 1) * 2 = k * 2 + 1 + 1 from by omega]
      simpa [entCells] using this
theorem ents_at {W : World} {B : Nat} {v : Value} {l : List (Nat × List Int)} (h : EntsOwn W B v l) {k pc : Nat} {s : List Int} (hk : l[k]? = some (pc, s)) : ∃ g cap p n c, v = .slice (some ⟨g, 0, none⟩) l.length cap ∧ g < W.heap.size ∧ W.cell? ⟨g, k * 2, none⟩ = some (.int .i64 pc) ∧ W.cell? ⟨g, k * 2 + 1, none⟩ = some (.slice p n c) ∧ IntsAt W (.slice p n c) s := by
  obtain ⟨q, hr, hlen, hq⟩ := h
  have hkl := lt_of_at hk
  obtain ⟨⟨pc', u⟩, hx⟩ := at_of_lt (l := q) (k := k) (by omega)
  obtain ⟨h1, h2⟩ := hq k _ _ hx hk
  simp only at h1 h2
  subst h1
  obtain ⟨p, c, hu⟩ := row_shp h2
  subst hu
  rcases hr.2 with ⟨rfl, h0⟩ | ⟨g, cap, cur, rfl, hb, hg, hn, hc, hs, ht⟩
  · omega
  · have hcl := entCells_at q k _ hx
    refine ⟨g, cap, p, s.length, c, by rw [hlen], heap_lt hg, ?_, ?_, intsAt_of_row rfl h2⟩
    · have := hcl.1
      rw [← ht, List.getElem?_take_of_lt (by omega)] at this
      rw [cell_at' hg]; simpa using this
    · have := hcl.2
      rw [← ht, List.getElem?_take_of_lt (by omega)] at this
      rw [cell_at' hg]; simpa using this
theorem jn1 : joinErr [3, 1] [2, 1] = 0 ∧ joinR [3, 1] [2, 1] = [2, 1] ∧ joinErr [1] [2] = 4 := by decide +kernel
set_option maxRecDepth 100000 in
set_option maxHeartbeats 4000000 in
theorem verifyBegun_any (w : World) : Calls Tryz.prog 23 #[] w fun e w' => e = .returned (.bool true) ∧ Below w.heap.size w w' := by
  have hS : ∀ (W : World) (v u : Value) (l : List Int), IntsAt W v l → IntsAt W u l → Calls Tryz.prog 26 #[v, u] W fun e w' => e = .returned (.bool true) ∧ Below W.heap.size W w' := by
    intro W v u l h1 h2
    have := sameInts_any l l v u W h1 h2
    rw [decide_eq_true rfl] at this
    exact this
  have hF : ∀ (W : World) (v : Value), FnsAt W v counterFns → CapAt W v → Calls Tryz.prog 62 #[.agg #[v], .int .i64 0] W fun e w' => ∃ g cap p n c, e = .returned (.tuple #[.slice (some ⟨g, 0, none⟩) 10 cap, .int .i64 0]) ∧ g < w'.heap.size ∧ w'.cell? ⟨g, 7, none⟩ = some (.slice p n c) ∧ IntsAt w' (.slice p n c) [1] ∧ Below W.heap.size W w' := by
    intro W v h1 h2
    refine (vFunc_any counterFns 0 v W h1 h2).mono ?_
    rintro e w' ⟨v', er, l, rfl, hi, ho, hb⟩
    obtain ⟨rfl, hl, h3⟩ := counter_func hi
    obtain ⟨g, cap, p, n, c, rfl, hg, _, hc, hI⟩ := ents_at ho h3
    rw [hl]
    exact ⟨g, cap, p, n, c, rfl, hg, hc, hI, hb⟩
  have hJ1 : ∀ (W : World) (v u : Value), IntsAt W v [3, 1] → IntsAt W u [2, 1] → Calls Tryz.prog 63 #[v, u] W fun e w' => ∃ p n c, e = .returned (.tuple #[.slice p n c, .int .i64 0]) ∧ IntsAt w' (.slice p n c) [2, 1] ∧ Below W.heap.size W w' := by
    intro W v u h1 h2
    have := vJoin_any [3, 1] [2, 1] v u W h1 h2
    rw [jn1.1, jn1.2.1] at this
    refine this.mono ?_
    rintro e w' ⟨x, rfl, hr, hb⟩
    obtain ⟨p, c, rfl⟩ := row_shp hr
    exact ⟨_, _, _, rfl, intsAt_of_row rfl hr, hb⟩
  have hJ2 : ∀ (W : World) (v u : Value), IntsAt W v [1] → IntsAt W u [2] → Calls Tryz.prog 63 #[v, u] W fun e w' => ∃ p n c, e = .returned (.tuple #[.slice p n c, .int .i64 4]) ∧ Below W.heap.size W w' := by
    intro W v u h1 h2
    have := vJoin_any [1] [2] v u W h1 h2
    rw [jn1.2.2] at this
    refine this.mono ?_
    rintro e w' ⟨x, rfl, hr, hb⟩
    obtain ⟨p, c, rfl⟩ := row_shp hr
    exact ⟨_, _, _, rfl, hb⟩
  have hP1 : ∀ (W : World) (v : Value), FnsAt W v squareFns → CapAt W v → Calls Tryz.prog 42 #[.agg #[v]] W fun e w' => e = .returned (.int .i64 0) ∧ Below W.heap.size W w' := by
    intro W v h1 h2
    refine (vProgram_any squareFns v W h1 h2).mono ?_
    rintro e w' ⟨er, rfl, hi, hb⟩
    rw [square_prog hi]
    exact ⟨rfl, hb⟩
  have hP2 : ∀ (W : World) (v : Value), FnsAt W v badFns → CapAt W v → Calls Tryz.prog 42 #[.agg #[v]] W fun e w' => e = .returned (.int .i64 4) ∧ Below W.heap.size W w' := by
    intro W v h1 h2
    refine (vProgram_any badFns v W h1 h2).mono ?_
    rintro e w' ⟨er, rfl, hi, hb⟩
    rw [bad_prog hi]
    exact ⟨rfl, hb⟩
  have HS := hideP hS
  have HF := hideP hF
  have HJ1 := hideP hJ1
  have HJ2 := hideP hJ2
  have HP1 := hideP hP1
  have HP2 := hideP hP2
  clear hS hF hJ1 hJ2 hP1 hP2
  go_enter Tryz.func23, Tryz.ntmps23
  go_wp2_with fail
  refine (counter_any _).mono ?_
  rintro e w1 ⟨v1, rfl, f1, k1, b1⟩
  go_wp2_with fail
  refine (HF.out _ _ f1 k1).mono ?_
  rintro e w2 ⟨g, cap, pe, ne, ce, rfl, hg2, ce2, ie2, hb2⟩
  have B2 := bthen b1 hb2
  clear f1 k1 b1 hb2
  go_wp2_with fail
  have a1 := (Below.refl w2.heap.size w2).alloc (Nat.le_refl _) (.cells #[.int .i64 3, .int .i64 1] 3)
  have a2 := a1.alloc a1.size (.cells #[.int .i64 2, .int .i64 1] 3)
  refine (HJ1.out _ _ _ (ints_lit 2 2 (heap_old (World.alloc_heap_new w2 (.cells #[.int .i64 3, .int .i64 1] 3)) (.cells #[.int .i64 2, .int .i64 1] 3)) rfl (by unfold maxLen; decide)) (ints_lit 2 2 (new_two w2 _ _) rfl (by unfold maxLen; decide))).mono ?_
  rintro e w3 ⟨pj, nj, cj, rfl, ij3, hb3⟩
  have b23 := bthen a2 hb3
  have B3 := bthen B2 b23
  have hg3 := Nat.lt_of_lt_of_le hg2 b23.size
  have ce3 := (b23.cell (p := ⟨g, 7, none⟩) hg2).trans ce2
  have ie3 := ie2.below b23
  clear a1 a2 hb3 b23 B2 hg2 ce2 ie2
  go_wp2_with fail
  have a1 := (Below.refl w3.heap.size w3).alloc (Nat.le_refl _) (.cells #[.int .i64 1] 3)
  have a2 := a1.alloc a1.size (.cells #[.int .i64 2] 3)
  refine (HJ2.out _ _ _ (ints_lit 1 1 (heap_old (World.alloc_heap_new w3 (.cells #[.int .i64 1] 3)) (.cells #[.int .i64 2] 3)) rfl (by unfold maxLen; decide)) (ints_lit 1 1 (new_two w3 _ _) rfl (by unfold maxLen; decide))).mono ?_
  rintro e w4 ⟨pk, nk, ck, rfl, hb4⟩
  have b34 := bthen a2 hb4
  have B4 := bthen B3 b34
  have hg4 := Nat.lt_of_lt_of_le hg3 b34.size
  have ce4 := (b34.cell (p := ⟨g, 7, none⟩) hg3).trans ce3
  have ie4 := ie3.below b34
  have ij4 := ij3.below b34
  clear a1 a2 hb4 b34 B3 hg3 ce3 ie3 ij3
  obtain ⟨W7, hW7⟩ : ∃ W7, ((w4.alloc (.cells #[.int .i64 2, .int .i64 0, .int .i64 13, .int .i64 0] 43)).alloc (.cells #[.int .i64 0, .slice none 0 0, .int .i64 0, .slice (some ⟨w4.heap.size, 0, none⟩) 2 2] 78)).alloc (.cells #[.slice (some ⟨w4.heap.size + 1, 0, none⟩) 1 1] 24) = W7 := ⟨_, rfl⟩
  have b47 : Below w4.heap.size w4 W7 := by rw [← hW7]; exact (((Below.refl _ w4).alloc (Nat.le_refl _) _).alloc (by simp) _).alloc (by simp; omega) _
  have x0 : W7.heap[w4.heap.size]? = some (.cells #[.int .i64 2, .int .i64 0, .int .i64 13, .int .i64 0] 43 (0, 0)) := by rw [← hW7]; exact heap_old (heap_old (World.alloc_heap_new w4 _) _) _
  have x1 : W7.heap[w4.heap.size + 1]? = some (.cells #[.int .i64 0, .slice none 0 0, .int .i64 0, .slice (some ⟨w4.heap.size, 0, none⟩) 2 2] 78 (0, 0)) := by rw [← hW7]; exact heap_old (new_two w4 _ _) _
  have x2 : W7.heap[w4.heap.size + 1 + 1]? = some (.cells #[.slice (some ⟨w4.heap.size + 1, 0, none⟩) 1 1] 24 (0, 0)) := by
    rw [← hW7]
    have := World.alloc_heap_new ((w4.alloc (.cells #[.int .i64 2, .int .i64 0, .int .i64 13, .int .i64 0] 43)).alloc (.cells #[.int .i64 0, .slice none 0 0, .int .i64 0, .slice (some ⟨w4.heap.size, 0, none⟩) 2 2] 78)) (.cells #[.slice (some ⟨w4.heap.size + 1, 0, none⟩) 1 1] 24)
    simpa using this
  obtain ⟨fb, kb⟩ := fns_one x1 (opsAt_new (l := [(2, 0), (13, 0)]) (m := []) (fz := (0, 0)) 2 2 x0 rfl (by unfold maxLen; decide))
  have cb7 := cell_at' x2 0
  simp at cb7
  have lb7 := heap_lt x2
  have B7 := bthen B4 b47
  have hg7 := Nat.lt_of_lt_of_le hg4 b47.size
  have ce7 := (b47.cell (p := ⟨g, 7, none⟩) hg4).trans ce4
  have ie7 := ie4.below b47
  have ij7 := ij4.below b47
  have HW7 := hideP hW7
  clear x0 x1 x2 b47 hg4 ce4 ie4 ij4 B4
  have ce4a := ce7
  go_wp2_with fail
  have q8 := World.alloc_heap_new W7 (.cells #[.int .i64 1] 3)
  have a8 := (Below.refl W7.heap.size W7).alloc (Nat.le_refl _) (.cells #[.int .i64 1] 3)
  refine (HS.out _ _ _ [1] (ie7.below a8) (ints_lit 1 1 q8 rfl (by unfold maxLen; decide))).mono ?_
  rintro e w8 ⟨rfl, hb8⟩
  have b78 := bthen a8 hb8
  have ij8 := ij7.below b78
  clear q8 a8 hb8 ie7 ij7 ce7 ce4a hW7
  go_wp2_with fail
  have q9 := World.alloc_heap_new w8 (.cells #[.int .i64 2, .int .i64 1] 3)
  have a9 := (Below.refl w8.heap.size w8).alloc (Nat.le_refl _) (.cells #[.int .i64 2, .int .i64 1] 3)
  refine (HS.out _ _ _ [2, 1] (ij8.below a9) (ints_lit 2 2 q9 rfl (by unfold maxLen; decide))).mono ?_
  rintro e w9 ⟨rfl, hb9⟩
  have b79 := bthen b78 (bthen a9 hb9)
  clear q9 a9 hb9 ij8 b78
  go_wp2_with fail
  refine (squareC_any _).mono ?_
  rintro e w10 ⟨v10, rfl, f10, k10, hb10⟩
  go_wp2_with fail
  refine (HP1.out _ _ f10 k10).mono ?_
  rintro e w11 ⟨rfl, hb11⟩
  have b711 := bthen b79 (bthen hb10 hb11)
  have cb11 := (b711.cell (p := ⟨w4.heap.size + 1 + 1, 0, none⟩) lb7).trans cb7
  have fb11 := fb.below b711
  have kb11 := kb.below fb b711
  clear f10 k10 hb10 hb11 b79
  go_wp2_with fail
  refine (HP2.out _ _ fb11 kb11).mono ?_
  rintro e w12 ⟨rfl, hb12⟩
  go_wp2
  go_ret
  exact ⟨rfl, bthen B7 (bthen b711 hb12)⟩
end Go.Proofs.YtcadpoknolefpaaGreat
/- Plain laws on blocks (chapter 5): what is set is got; a new block is all noughts; what is kept is as it was. -/
namespace Go.Proofs.YtcadpoknolefpaaGreat
open Go.RowKit
set_option linter.unusedSimpArgs false
set_option linter.unusedVariables false
theorem place_mk {L : List (List Int)} {j k : Nat} {b : List Int} {z : Int} (he : blkErr L = 0) (hb : L[j]? = some b) (hz : b[k]? = some z) : placeErr L ((j : Int) + 1) k = 0 ∧ getR L ((j : Int) + 1) k = z := by
  have hba := blkAt_some hb (ref := (j : Int) + 1) rfl
  have h1 := lt_of_at hb
  have h2 := lt_of_at hz
  have hp : placeErr L ((j : Int) + 1) k = 0 := by
    unfold placeErr
    rw [if_neg (by simpa using he), if_neg (by omega), hba, if_neg (by omega)]
  refine ⟨hp, ?_⟩
  rw [getR, if_pos hp, getL, hba, Int.toNat_natCast, hz]; rfl
theorem place_past {L : List (List Int)} {j k : Nat} {b : List Int} (he : blkErr L = 0) (hb : L[j]? = some b) (hk : b.length ≤ k) : placeErr L ((j : Int) + 1) k = 3 := by
  have hba := blkAt_some hb (ref := (j : Int) + 1) rfl
  unfold placeErr
  rw [if_neg (by simpa using he), if_neg (by omega), hba, if_pos (by omega)]
theorem set_facts {L : List (List Int)} {ref at_ n : Int} (h : setErr L ref at_ n = 0) : placeErr L ref at_ = 0 ∧ isI32 n = true := by
  unfold setErr at h
  by_cases hp : placeErr L ref at_ = 0
  · rw [if_neg (by simpa using hp)] at h
    cases hn : isI32 n
    · rw [hn] at h; cases h
    · exact ⟨hp, rfl⟩
  · rw [if_pos hp] at h; exact absurd h hp
theorem cellsN_set {L : List (List Int)} {j : Nat} {b c : List Int} (hb : L[j]? = some b) (hl : c.length = b.length) : cellsN (L.set j c) = cellsN L := by
  induction L generalizing j with
  | nil => simp at hb
  | cons x r ih =>
    cases j with
    | zero => simp at hb; subst hb; simp [cellsN, hl]
    | succ j =>
      have := ih (j := j) (by simpa using hb)
      simp [cellsN] at this ⊢
      exact this
theorem set_blk {L : List (List Int)} {ref at_ n : Int} (h : setErr L ref at_ n = 0) : ∃ (j k : Nat) (b : List Int) (z : Int), ref = (j : Int) + 1 ∧ at_ = (k : Int) ∧ L[j]? = some b ∧ b[k]? = some z ∧ setR L ref at_ n = L.set j (b.set k n) ∧ blkErr (L.set j (b.set k n)) = 0 := by
  obtain ⟨hp, hn⟩ := set_facts h
  obtain ⟨he, j, k, b, z, hj, hk, hb, hz⟩ := place_zero hp
  obtain ⟨h8, h40, hi⟩ := blkErr_zero he
  refine ⟨j, k, b, z, hj, hk, hb, hz, ?_, blkErr_mk (by simpa using h8) (by rw [cellsN_set hb (by simp)]; exact h40) fun c hc y hy => ?_⟩
  · rw [setR, if_pos h, setL, blkAt_some hb hj, hk, hj, show ((j : Int) + 1 - 1).toNat = j by omega, Int.toNat_natCast]
  · rcases List.mem_or_eq_of_mem_set hc with hc | rfl
    · exact hi c hc y hy
    · rcases List.mem_or_eq_of_mem_set hy with hy | rfl
      · exact hi b (List.mem_of_getElem? hb) y hy
      · exact hn
/-- what is set is got, and nothing else is other. -/
theorem set_got {L : List (List Int)} {ref at_ n : Int} (h : setErr L ref at_ n = 0) {i m : Nat} {c : List Int} {y : Int} (hc : L[i]? = some c) (hy : c[m]? = some y) : placeErr (setR L ref at_ n) ((i : Int) + 1) m = 0 ∧ getR (setR L ref at_ n) ((i : Int) + 1) m = if (i : Int) + 1 = ref ∧ (m : Int) = at_ then n else y := by
  obtain ⟨j, k, b, z, hj, hk, hb, hz, hr, hbe⟩ := set_blk h
  rw [hr]
  by_cases e : i = j
  · subst e
    have hcb : b = c := by rw [hb] at hc; exact Option.some.inj hc
    subst hcb
    have h1 : (L.set i (b.set k n))[i]? = some (b.set k n) := List.getElem?_set_self (lt_of_at hb)
    by_cases e2 : m = k
    · subst e2
      have h2 : (b.set m n)[m]? = some n := List.getElem?_set_self (lt_of_at hy)
      rw [if_pos ⟨hj.symm, hk.symm⟩]
      exact place_mk hbe h1 h2
    · have h2 : (b.set k n)[m]? = some y := by rw [List.getElem?_set_ne (fun x => e2 x.symm)]; exact hy
      rw [if_neg (by omega)]
      exact place_mk hbe h1 h2
  · have h1 : (L.set j (b.set k n))[i]? = some c := by rw [List.getElem?_set_ne (fun x => e x.symm)]; exact hc
    rw [if_neg (by omega)]
    exact place_mk hbe h1 hy
theorem new_facts {L : List (List Int)} {n : Nat} (h : newErr L n = 0) : blkErr L = 0 ∧ L.length < 8 ∧ cellsN L + n ≤ 40 ∧ newR L n = L ++ [List.replicate n 0] ∧ newRef L n = (L.length : Int) + 1 ∧ blkErr (L ++ [List.replicate n 0]) = 0 := by
  have he : blkErr L = 0 := by
    by_cases hb : blkErr L = 0
    · exact hb
    · unfold newErr at h; rw [if_pos hb] at h; exact absurd h hb
  obtain ⟨h8, h40, hi⟩ := blkErr_zero he
  have hsp : L.length ≠ 8 ∧ (n : Int) ≤ 40 - (cellsN L : Int) := by
    unfold newErr at h
    rw [if_neg (by simpa using he), if_neg (by omega)] at h
    by_cases hc : L.length = 8 ∨ 40 - (cellsN L : Int) < (n : Int)
    · rw [if_pos hc] at h; cases h
    · omega
  refine ⟨he, by omega, by omega, by rw [newR, if_pos h, newL, Int.toNat_natCast], by rw [newRef, if_pos h], blkErr_mk (by simp; omega) (by rw [cellsN_append]; simp [cellsN] at *; omega) fun b hb y hy => ?_⟩
  rcases List.mem_append.1 hb with hb | hb
  · exact hi b hb y hy
  · simp at hb; subst hb
    have := List.eq_of_mem_replicate hy
    subst this; decide
theorem new_got {L : List (List Int)} {n k : Nat} (h : newErr L n = 0) (hk : k < n) : placeErr (newR L n) ((L.length : Int) + 1) k = 0 ∧ getR (newR L n) ((L.length : Int) + 1) k = 0 := by
  obtain ⟨_, _, _, h1, _, h2⟩ := new_facts h
  rw [h1]
  exact place_mk h2 (b := List.replicate n 0) (by simp) (by simp [hk])
theorem new_past {L : List (List Int)} {n : Nat} (h : newErr L n = 0) : placeErr (newR L n) ((L.length : Int) + 1) n = 3 := by
  obtain ⟨_, _, _, h1, _, h2⟩ := new_facts h
  rw [h1]
  exact place_past h2 (b := List.replicate n 0) (by simp) (by simp)
end Go.Proofs.YtcadpoknolefpaaGreat
/- Plain laws on blocks: Keep. -/
namespace Go.Proofs.YtcadpoknolefpaaGreat
open Go.RowKit
set_option linter.unusedSimpArgs false
set_option linter.unusedVariables false
theorem keep_facts {L : List (List Int)} {refs : List Int} (h : keepErr L refs = 0) : blkErr L = 0 ∧ ∀ r ∈ refs, 0 ≤ r ∧ r ≤ (L.length : Int) := by
  unfold keepErr at h
  by_cases hb : blkErr L = 0
  · rw [if_neg (by simpa using hb)] at h
    cases hc : refs.all (refOk L.length)
    · rw [hc] at h; cases h
    · exact ⟨hb, fun r hr => by simpa [refOk] using List.all_eq_true.1 hc r hr⟩
  · rw [if_pos hb] at h; exact absurd h hb
theorem mem_stays {refs : List Int} {n i : Nat} : i ∈ stays refs n ↔ i < n ∧ (i : Int) + 1 ∈ refs := by simp [stays]
/-- the r-th of those that stay. -/
theorem stays_pos {refs : List Int} {n j : Nat} (hj : j < n) (h : (j : Int) + 1 ∈ refs) : (stays refs n)[(stays refs j).length]? = some j := by
  have hs : stays refs n = stays refs j ++ ((List.range n).drop j).filter (fun i : Nat => decide ((i : Int) + 1 ∈ refs)) := by
    unfold stays
    rw [← List.filter_append]
    congr 1
    have : List.range j = (List.range n).take j := by
      rw [List.take_range]; congr 1; omega
    rw [this, List.take_append_drop]
  rw [hs, List.getElem?_append_right (Nat.le_refl _), Nat.sub_self]
  have hd : (List.range n).drop j = j :: (List.range n).drop (j + 1) := by
    rw [List.drop_eq_getElem_cons (by simpa using hj)]
    simp
  rw [hd]
  simp [h]
theorem keptL_at {L : List (List Int)} {refs : List Int} {j : Nat} {b : List Int} (hb : L[j]? = some b) (h : (j : Int) + 1 ∈ refs) : (keptL L refs L.length)[(stays refs j).length]? = some b := by
  unfold keptL
  rw [List.getElem?_map, stays_pos (lt_of_at hb) h]
  simp [hb]
/-- of a ref that was handed in, not 0: what it is then is the number of a block that is as it was. -/
theorem keep_at {L : List (List Int)} {refs : List Int} (h : keepErr L refs = 0) {r : Int} (hr : r ∈ refs) (h0 : r ≠ 0) : ∃ (j : Nat) (b : List Int), r = (j : Int) + 1 ∧ L[j]? = some b ∧ thenOf refs r = ((stays refs j).length : Int) + 1 ∧ (keptL L refs L.length)[(stays refs j).length]? = some b := by
  obtain ⟨_, hk⟩ := keep_facts h
  obtain ⟨h1, h2⟩ := hk r hr
  obtain ⟨j, hj⟩ : ∃ j : Nat, r = (j : Int) + 1 := ⟨(r - 1).toNat, by omega⟩
  obtain ⟨b, hb⟩ := at_of_lt (l := L) (k := j) (by omega)
  refine ⟨j, b, hj, hb, ?_, keptL_at hb (hj ▸ hr)⟩
  unfold thenOf
  rw [show r.toNat = j + 1 from by omega, stays_true (hj ▸ hr), List.length_append, List.length_singleton]
  omega
theorem thenOf_zero (refs : List Int) : thenOf refs 0 = 0 := rfl
/-- each block that is there is that of a ref that was handed in. -/
theorem keep_has {L : List (List Int)} {refs : List Int} (h : keepErr L refs = 0) {r : Nat} (hr : r < (keptL L refs L.length).length) : ((r : Int) + 1) ∈ refs.map (thenOf refs) := by
  rw [keptL_length] at hr
  obtain ⟨j, hj⟩ := at_of_lt hr
  obtain ⟨hjl, hm⟩ := mem_stays.1 (List.mem_of_getElem? hj)
  refine List.mem_map.2 ⟨(j : Int) + 1, hm, ?_⟩
  obtain ⟨j', b, e1, _, e3, _⟩ := keep_at h hm (by omega)
  obtain rfl : j = j' := by omega
  rw [e3]
  have hp := stays_pos hjl hm
  have hnd : (stays refs L.length).Pairwise (· < ·) := List.Pairwise.filter _ List.pairwise_lt_range
  have hlt1 := lt_of_at hp
  have : (stays refs j).length = r := by
    have h1 : (stays refs L.length)[(stays refs j).length] = j := (List.getElem?_eq_some_iff.1 hp).2
    have h2 : (stays refs L.length)[r] = j := (List.getElem?_eq_some_iff.1 hj).2
    have hp2 := List.pairwise_iff_getElem.1 hnd
    rcases Nat.lt_trichotomy (stays refs j).length r with h3 | h3 | h3
    · have := hp2 _ _ hlt1 hr h3; omega
    · exact h3
    · have := hp2 _ _ hr hlt1 h3; omega
  omega
theorem kept_err {L : List (List Int)} {refs : List Int} (h : keepErr L refs = 0) : blkErr (keptL L refs L.length) = 0 := by
  obtain ⟨hb, _⟩ := keep_facts h
  obtain ⟨h8, h40, hi⟩ := blkErr_zero hb
  have hcount : ∀ k, k ≤ L.length → cellsN (keptL L refs k) ≤ cellsN (L.take k) := by
    intro k
    induction k with
    | zero => intro _; simp [keptL, stays, cellsN]
    | succ k ih =>
      intro hk
      obtain ⟨b, hb⟩ := at_of_lt (l := L) (k := k) (by omega)
      rw [cellsN_take L k b hb]
      by_cases hm : (k : Int) + 1 ∈ refs
      · rw [keptL_true hm hb, cellsN_append]
        have := ih (by omega)
        simp [cellsN] at this ⊢
        omega
      · rw [keptL_false hm]
        have := ih (by omega)
        omega
  refine blkErr_mk ?_ ?_ fun b hb y hy => ?_
  · rw [keptL_length]; have := stays_le refs L.length; omega
  · have h1 := hcount L.length (Nat.le_refl _)
    have h2 := cellsN_le L L.length
    omega
  · unfold keptL at hb
    obtain ⟨i, hi1, rfl⟩ := List.mem_map.1 hb
    obtain ⟨hil, _⟩ := mem_stays.1 hi1
    obtain ⟨c, hc⟩ := at_of_lt hil
    rw [hc] at hy
    exact hi c (List.mem_of_getElem? hc) y hy
/-- all of them are handed in. -/
theorem stays_all {refs : List Int} {n : Nat} (h : ∀ i, i < n → (i : Int) + 1 ∈ refs) : stays refs n = List.range n := by
  unfold stays
  rw [List.filter_eq_self]
  intro i hi
  simpa using h i (List.mem_range.1 hi)
theorem keptL_all {L : List (List Int)} {refs : List Int} (h : ∀ i, i < L.length → (i : Int) + 1 ∈ refs) : keptL L refs L.length = L := by
  unfold keptL
  rw [stays_all h]
  apply List.ext_getElem?
  intro i
  by_cases hi : i < L.length
  · simp [hi]
  · rw [List.getElem?_eq_none (by simp; omega), List.getElem?_eq_none (by omega)]
theorem stays_mono {refs : List Int} {a b : Nat} (h : a ≤ b) : (stays refs a).length ≤ (stays refs b).length := by
  unfold stays
  exact (List.Sublist.filter _ (List.range_sublist.2 h)).length_le
/-- kept again it is the same. -/
theorem keep_again {L : List (List Int)} {refs : List Int} (h : keepErr L refs = 0) : keepErr (keptL L refs L.length) (refs.map (thenOf refs)) = 0 ∧ keptR (keptL L refs L.length) (refs.map (thenOf refs)) = keptL L refs L.length ∧ thenR (keptL L refs L.length) (refs.map (thenOf refs)) = refs.map (thenOf refs) := by
  obtain ⟨_, hk⟩ := keep_facts h
  have hrange : ∀ r ∈ refs, 0 ≤ thenOf refs r ∧ thenOf refs r ≤ ((keptL L refs L.length).length : Int) := fun r hr => by
    obtain ⟨h1, h2⟩ := hk r hr
    refine ⟨by unfold thenOf; omega, ?_⟩
    rw [keptL_length]
    unfold thenOf
    have := stays_mono (refs := refs) (a := r.toNat) (b := L.length) (by omega)
    omega
  have hall : ∀ i, i < (keptL L refs L.length).length → (i : Int) + 1 ∈ refs.map (thenOf refs) := fun i hi => keep_has h hi
  have he : keepErr (keptL L refs L.length) (refs.map (thenOf refs)) = 0 := by
    unfold keepErr
    rw [if_neg (by simpa using kept_err h), if_pos]
    refine List.all_eq_true.2 fun t ht => ?_
    obtain ⟨r, hr, rfl⟩ := List.mem_map.1 ht
    have := hrange r hr
    simp [refOk, this]
  refine ⟨he, by rw [keptR, if_pos he, keptL_all hall], ?_⟩
  rw [thenR, if_pos he]
  have key : ∀ t ∈ refs.map (thenOf refs), thenOf (refs.map (thenOf refs)) t = t := fun t ht => by
    obtain ⟨r, hr, rfl⟩ := List.mem_map.1 ht
    have := hrange r hr
    obtain ⟨m, hm⟩ : ∃ m : Nat, thenOf refs r = m := ⟨(thenOf refs r).toNat, by omega⟩
    rw [hm]
    show ((stays (refs.map (thenOf refs)) (m : Int).toNat).length : Int) = m
    rw [Int.toNat_natCast, stays_all (fun i hi => hall i (by omega)), List.length_range]
  conv => rhs; rw [← List.map_id (refs.map (thenOf refs))]
  exact List.map_congr_left key
/-- the numbers 1 .. n. -/
def oneTo (n : Nat) : List Int := (List.range n).map fun i : Nat => (i : Int) + 1
theorem oneTo_succ (n : Nat) : oneTo (n + 1) = oneTo n ++ [(n : Int) + 1] := by simp [oneTo, List.range_succ]
theorem oneTo_length (n : Nat) : (oneTo n).length = n := by simp [oneTo]
/-- a block that is made, and not kept, has never been. -/
theorem room_kept {L : List (List Int)} {n : Nat} (hb : blkErr (L ++ [List.replicate n 0]) = 0) : keepErr (L ++ [List.replicate n 0]) (oneTo L.length) = 0 ∧ keptR (L ++ [List.replicate n 0]) (oneTo L.length) = L := by
  have he : keepErr (L ++ [List.replicate n 0]) (oneTo L.length) = 0 := by
    unfold keepErr
    rw [if_neg (by simpa using hb), if_pos]
    refine List.all_eq_true.2 fun t ht => ?_
    obtain ⟨i, hi, rfl⟩ := List.mem_map.1 ht
    have := List.mem_range.1 hi
    simp [refOk]; omega
  refine ⟨he, ?_⟩
  rw [keptR, if_pos he, List.length_append, List.length_singleton]
  have hno : ¬ ((L.length : Int) + 1) ∈ oneTo L.length := fun h => by
    obtain ⟨i, hi, e⟩ := List.mem_map.1 h
    have := List.mem_range.1 hi
    omega
  rw [keptL_false hno]
  have hall : ∀ i, i < L.length → (i : Int) + 1 ∈ oneTo L.length := fun i hi => List.mem_map.2 ⟨i, List.mem_range.2 hi, rfl⟩
  unfold keptL
  rw [stays_all hall]
  apply List.ext_getElem?
  intro i
  by_cases hi : i < L.length
  · simp [hi, List.getElem?_append_left hi]
  · rw [List.getElem?_eq_none (by simp; omega), List.getElem?_eq_none (by omega)]
/-- there is room for one as great as what is left. -/
theorem room_left {L : List (List Int)} (hb : blkErr L = 0) : newErr L (40 - (cellsN L : Int) + 1) = 7 ∧ decide (newErr L (40 - (cellsN L : Int)) = 0) = decide (L.length < 8) := by
  obtain ⟨h8, h40, _⟩ := blkErr_zero hb
  constructor
  · unfold newErr
    rw [if_neg (by simpa using hb), if_neg (by omega), if_pos (by omega)]
  · unfold newErr
    rw [if_neg (by simpa using hb), if_neg (by omega)]
    by_cases hl : L.length = 8
    · rw [if_pos (.inl hl)]; simp; omega
    · rw [if_neg (by omega)]; simp; omega
end Go.Proofs.YtcadpoknolefpaaGreat
/- Plain laws on least entries, ahead of stage 2: a function more at the end, and an op that is never come to, change none. -/
namespace Go.Proofs.YtcadpoknolefpaaGreat
open Go.RowKit
set_option linter.unusedSimpArgs false
set_option linter.unusedVariables false
/-- two ways to read ops that agree wherever it is come to have the same entries that fit. -/
theorem fits_carry {p p' : List Fn} {f f' : Fn} {e : Nat → Option (List Int)} (hf : FitsBy p f e)
    (hop : ∀ pc s o, e pc = some s → f.2.2.2[pc]? = some o → ∃ o', f'.2.2.2[pc]? = some o' ∧ tryOp p' f' o' s = tryOp p f o s) (hgo : ∀ pc s to, e pc = some s → goesOn f'.2.2.2 pc to = goesOn f.2.2.2 pc to) (hlen : f'.2.2.2.length = f.2.2.2.length) : FitsBy p' f' e := by
  refine ⟨hf.first, fun pc s hs => ?_⟩
  obtain ⟨o, out, h1, h2, h3⟩ := hf.on pc s hs
  obtain ⟨o', h4, h5⟩ := hop pc s o hs h1
  refine ⟨o', out, h4, h5.trans h2, fun to hto => ?_⟩
  rw [hgo pc s to hs] at hto
  rw [hlen]
  exact h3 to hto
open Classical in
/-- only what may be come to. -/
noncomputable def onCome (code : List (Int × Int)) (e : Nat → Option (List Int)) : Nat → Option (List Int) := fun x => if Come code x then e x else none
open Classical in
theorem onCome_some {code : List (Int × Int)} {e : Nat → Option (List Int)} {x : Nat} {s : List Int} (h : onCome code e x = some s) : Come code x ∧ e x = some s := by
  unfold onCome at h
  by_cases hc : Come code x
  · rw [if_pos hc] at h; exact ⟨hc, h⟩
  · rw [if_neg hc] at h; cases h
open Classical in
theorem onCome_mk {code : List (Int × Int)} {e : Nat → Option (List Int)} {x : Nat} {s : List Int} (hc : Come code x) (h : e x = some s) : onCome code e x = some s := by
  unfold onCome
  rw [if_pos hc]; exact h
theorem fits_onCome {p : List Fn} {f : Fn} {e : Nat → Option (List Int)} (hf : FitsBy p f e) : FitsBy p f (onCome f.2.2.2 e) := by
  refine ⟨onCome_mk .zero hf.first, fun pc s hs => ?_⟩
  obtain ⟨hc, hs'⟩ := onCome_some hs
  obtain ⟨o, out, h1, h2, h3⟩ := hf.on pc s hs'
  refine ⟨o, out, h1, h2, fun to hto => ?_⟩
  obtain ⟨h4, s', h5, h6⟩ := h3 to hto
  exact ⟨h4, s', onCome_mk (.step hc hto) h5, h6⟩
/-- the least have just the places that may be come to. -/
theorem least_come {p : List Fn} {f : Fn} {e : Nat → Option (List Int)} (h : Least p f (some e)) (x : Nat) : (∃ s, e x = some s) ↔ Come f.2.2.2 x := by
  constructor
  · rintro ⟨s, hs⟩
    obtain ⟨s', h1, _⟩ := h.2 _ (fits_onCome h.1) x s hs
    exact (onCome_some h1).1
  · intro hc
    exact fits_come h.1 hc
/-- two programs whose ops agree wherever it may be come to have the same least entries. -/
theorem least_carry {p p' : List Fn} {f f' : Fn} {r : Option (Nat → Option (List Int))} (h : Least p f r)
    (hop : ∀ pc s o, Come f.2.2.2 pc → f.2.2.2[pc]? = some o → ∃ o', f'.2.2.2[pc]? = some o' ∧ tryOp p' f' o' s = tryOp p f o s)
    (hop' : ∀ pc s o, Come f.2.2.2 pc → f'.2.2.2[pc]? = some o → ∃ o', f.2.2.2[pc]? = some o' ∧ tryOp p f o' s = tryOp p' f' o s)
    (hgo : ∀ pc to, Come f.2.2.2 pc → goesOn f'.2.2.2 pc to = goesOn f.2.2.2 pc to) (hlen : f'.2.2.2.length = f.2.2.2.length) : Least p' f' r := by
  have hcome : ∀ x, Come f'.2.2.2 x ↔ Come f.2.2.2 x := by
    intro x
    constructor
    · intro hx
      induction hx with
      | zero => exact .zero
      | step _ h2 ih => exact .step ih (by rw [← hgo _ _ ih]; exact h2)
    · intro hx
      induction hx with
      | zero => exact .zero
      | step h1 h2 ih => exact .step ih (by rw [hgo _ _ h1]; exact h2)
  have back : ∀ e', FitsBy p' f' e' → FitsBy p f (onCome f'.2.2.2 e') := fun e' he' => by
    refine fits_carry (fits_onCome he') (fun pc s o hs ho => ?_) (fun pc s to hs => ?_) hlen.symm
    · exact hop' pc s o ((hcome pc).1 (onCome_some hs).1) ho
    · exact (hgo pc to ((hcome pc).1 (onCome_some hs).1)).symm
  cases r with
  | none => exact fun e he => h _ (back e he)
  | some e =>
    refine ⟨fits_carry h.1 (fun pc s o hs ho => ?_) (fun pc s to hs => ?_) hlen, fun e' he' pc s hs => ?_⟩
    · exact hop pc s o ((least_come h pc).1 ⟨s, hs⟩) ho
    · exact hgo pc to ((least_come h pc).1 ⟨s, hs⟩)
    · obtain ⟨s', h1, h2⟩ := h.2 _ (back e' he') pc s hs
      exact ⟨s', (onCome_some h1).2, h2⟩
theorem takesLeaves_more {p : List Fn} (g : Fn) {f : Fn} {o : Int × Int} (ho : o.1 = 12 → o.2.toNat < p.length) (s : List Int) : takesLeaves (p ++ [g]) f o s = takesLeaves p f o s := by
  unfold takesLeaves
  by_cases c12 : o.1 = 12
  · have := ho c12
    simp only [c12]
    rw [List.getElem?_append_left this]
  · simp [c12]
/-- a function more, at the end, changes nothing of the others. -/
theorem least_more {p : List Fn} (g : Fn) {f : Fn} {r : Option (Nat → Option (List Int))} (ho : ∀ o ∈ f.2.2.2, o.1 = 12 → o.2.toNat < p.length) (h : Least p f r) : Least (p ++ [g]) f r := by
  have ht : ∀ (pc : Nat) (s : List Int) (o : Int × Int), f.2.2.2[pc]? = some o → tryOp (p ++ [g]) f o s = tryOp p f o s := fun pc s o hpc => by
    unfold tryOp
    rw [takesLeaves_more g (ho o (List.mem_of_getElem? hpc)) s]
  exact least_carry h (fun pc s o _ hpc => ⟨o, hpc, ht pc s o hpc⟩) (fun pc s o _ hpc => ⟨o, hpc, (ht pc s o hpc).symm⟩) (fun _ _ _ => rfl) rfl
theorem takesLeaves_code (p p' : List Fn) (f f' : Fn) (o : Int × Int) (s : List Int) (h1 : f'.2.1 = f.2.1) (h2 : f'.2.2.1 = f.2.2.1) (hp : ∀ i : Nat, (p'[i]?).map (fun g : Fn => (g.1, g.2.1, g.2.2.1)) = (p[i]?).map (fun g : Fn => (g.1, g.2.1, g.2.2.1))) : takesLeaves p' f' o s = takesLeaves p f o s := by
  unfold takesLeaves
  rw [h1, h2]
  have h3 : (p'[o.2.toNat]?).map (fun g : Fn => (g.2.1.take g.1.toNat, if 0 < g.2.2.1 then [g.2.2.1] else [])) = (p[o.2.toNat]?).map (fun g : Fn => (g.2.1.take g.1.toNat, if 0 < g.2.2.1 then [g.2.2.1] else [])) := by
    have h4 := congrArg (Option.map fun x : Int × List Int × Int => (x.2.1.take x.1.toNat, if 0 < x.2.2 then [x.2.2] else [])) (hp o.2.toNat)
    simpa [Option.map_map, Function.comp_def] using h4
  rw [h3]
/-- what is never come to does not matter. -/
theorem least_dead {p p' : List Fn} {f f' : Fn} {r : Option (Nat → Option (List Int))} (h : Least p f r) (h1 : f'.2.1 = f.2.1) (h2 : f'.2.2.1 = f.2.2.1) (hp : ∀ i : Nat, (p'[i]?).map (fun g : Fn => (g.1, g.2.1, g.2.2.1)) = (p[i]?).map (fun g : Fn => (g.1, g.2.1, g.2.2.1)))
    (hlen : f'.2.2.2.length = f.2.2.2.length) (hc : ∀ pc, Come f.2.2.2 pc → f'.2.2.2[pc]? = f.2.2.2[pc]?) : Least p' f' r := by
  have ht : ∀ (o : Int × Int) (s : List Int), tryOp p' f' o s = tryOp p f o s := fun o s => by
    unfold tryOp
    rw [takesLeaves_code p p' f f' o s h1 h2 hp]
  refine least_carry h (fun pc s o hpc ho => ⟨o, (hc pc hpc).trans ho, ht o s⟩) (fun pc s o hpc ho => ⟨o, (hc pc hpc).symm.trans ho, (ht o s).symm⟩) (fun pc to hpc => ?_) hlen
  unfold goesOn
  rw [hc pc hpc]
end Go.Proofs.YtcadpoknolefpaaGreat
/- progBegun. -/
namespace Go.Proofs.YtcadpoknolefpaaGreat
open Go.RowKit
set_option linter.unusedSimpArgs false
set_option linter.unusedVariables false
theorem FnsAt.shp {W : World} {v : Value} {l : List Fn} (h : FnsAt W v l) : ∃ p c, v = .slice p l.length c := by
  obtain ⟨p, c, rfl, _⟩ := h
  exact ⟨p, c, rfl⟩
theorem sq5 : decProg (progBytes squareFns ++ [122]) = ([], 1) := by
  rcases prog_dec (progBytes squareFns ++ [122]) with ⟨h1, h2⟩ | ⟨h1, _⟩
  · exact Prod.ext h2 sq4
  · rw [sq4] at h1; cases h1
structure Tok : Prop where
end Go.Proofs.YtcadpoknolefpaaGreat
/- The reference's FourOf, CodeBytes, NumberAt, CodeOf. -/
namespace Go.Proofs.YtcadpoknolefpaaGreat
open Go.RowKit
set_option linter.unusedSimpArgs false
set_option linter.unusedVariables false
theorem conv_new (w : World) (zs : List UInt8) : (convert 138 9 (.slice (some ⟨w.heap.size, 0, none⟩) zs.length zs.length)).run Tryz.prog (w.alloc (.cells (zs.map (fun b => Value.int .u8 b.toNat)).toArray 5)) = .ok (.string ⟨zs.toArray⟩) (w.alloc (.cells (zs.map (fun b => Value.int .u8 b.toNat)).toArray 5)) := by
  refine run_convert_bytes_back _ _ _ 5 _ _ zs Tryz.underlying138 Tryz.underlying5 Tryz.underlying9 (fun j hj => ?_)
  rw [add_at, World.cell?_alloc_mark]
  simp [hj]
theorem conv4 (w : World) (x0 x1 x2 x3 : Int) (b0 b1 b2 b3 : UInt8) (h0 : x0 = (b0.toNat : Int)) (h1 : x1 = (b1.toNat : Int)) (h2 : x2 = (b2.toNat : Int)) (h3 : x3 = (b3.toNat : Int)) :
    (convert 138 9 (.slice (some ⟨w.heap.size, 0, none⟩) 4 4)).run Tryz.prog (w.alloc (.cells #[.int .u8 x0, .int .u8 x1, .int .u8 x2, .int .u8 x3] 5)) = .ok (.string ⟨#[b0, b1, b2, b3]⟩) (w.alloc (.cells #[.int .u8 x0, .int .u8 x1, .int .u8 x2, .int .u8 x3] 5)) := by
  subst h0 h1 h2 h3
  exact conv_new w [b0, b1, b2, b3]
theorem conv1 (w : World) (x0 : Int) (b0 : UInt8) (h0 : x0 = (b0.toNat : Int)) :
    (convert 138 9 (.slice (some ⟨w.heap.size, 0, none⟩) 1 1)).run Tryz.prog (w.alloc (.cells #[.int .u8 x0] 5)) = .ok (.string ⟨#[b0]⟩) (w.alloc (.cells #[.int .u8 x0] 5)) := by
  subst h0
  exact conv_new w [b0]
theorem size_of_list {X : ByteArray} {l : List UInt8} (h : X.data.toList = l) : X.size = l.length := by rw [← h]; simp
end Go.Proofs.YtcadpoknolefpaaGreat
/- The reference's CodeOf. -/
namespace Go.Proofs.YtcadpoknolefpaaGreat
open Go.RowKit
set_option linter.unusedSimpArgs false
set_option linter.unusedVariables false
theorem firstOf_drop (s : ByteArray) (k : Nat) (h : k < s.size) : firstOf (s.data.toList.drop k) = if isCode (s[k].toNat : Int) = false then none else if hasA (s[k].toNat : Int) then (if s.size < k + 5 then none else some (((s[k].toNat : Int), wrap32 (numOf ((s.data.toList.drop (k + 1)).take 4))), 5)) else some (((s[k].toNat : Int), 0), 1) := by
  have hl : s.data.toList.length = s.size := by simp
  rw [List.drop_eq_getElem_cons (by omega)]
  have hg : s.data.toList[k]'(by omega) = s[k] := rfl
  rw [hg]
  simp only [firstOf]
  have e : ((s.data.toList.drop (k + 1)).length < 4) ↔ (s.size < k + 5) := by rw [List.length_drop]; omega
  simp only [e]
theorem row_shape {w : World} {base : Nat} {e : TypeId} {size : Nat} {v : Value} {n : Nat} {xs : List Value} (h : w.ownsRow base e size v n xs) : ∃ p cap, v = .slice p n cap := by
  rcases h.2 with ⟨rfl, h0⟩ | ⟨g, cap, cur, rfl, _⟩
  · exact ⟨none, 0, by rw [h0]⟩
  · exact ⟨_, _, rfl⟩
theorem cells2_new (W : World) (c a : Int) : ∀ (j : Nat) (u : Value), [Value.int .i64 c, Value.int .i64 a][j]? = some u → (W.alloc (.cells #[.int .i64 c, .int .i64 a] 43)).cell? ((⟨W.heap.size, 0, none⟩ : Addr).add j) = some u := by
  intro j u hj
  have hn := World.alloc_heap_new W (.cells #[.int .i64 c, .int .i64 a] 43)
  match j, hj with
  | 0, hj => simp at hj; subst hj; exact cell_at' hn 0
  | 1, hj => simp at hj; subst hj; exact cell_at' hn 1
  | k + 2, hj => simp at hj
theorem cells2_one (c a : Int) : ∀ u ∈ [Value.int .i64 c, Value.int .i64 a], u.oneCell' = true := by
  intro u hu; simp at hu; rcases hu with rfl | rfl <;> rfl
theorem opCells_snoc (l : List (Int × Int)) (o : Int × Int) : opCells (l ++ [o]) = opCells l ++ [.int .i64 o.1, .int .i64 o.2] := by simp [opCells]
theorem row_low' {w : World} {base : Nat} {e : TypeId} {size : Nat} {v : Value} {n : Nat} {xs : List Value} (h : w.ownsRow base e size v n xs) : ∀ k, v.ownBlock = some k → base ≤ k := fun k hk => (h.lt k hk).1
end Go.Proofs.YtcadpoknolefpaaGreat
