/- My texts Vh Be Bf, joined. -/
import Derived.RangeFuncBox
import Derived.Test.YtcadpoknolefpaaGreatU11
/- read. -/
namespace Go.Proofs.YtcadpoknolefpaaGreat
open Go.RowKit
set_option linter.unusedSimpArgs false
set_option linter.unusedVariables false
abbrev FnV := Value × Value × Value × Value
def fnCells (q : List FnV) : List Value := q.flatMap fun c => [c.1, c.2.1, c.2.2.1, c.2.2.2]
def FnRows (W : World) (B : Nat) (q : List FnV) (l : List Fn) : Prop := q.length = l.length ∧ ∀ (k : Nat) (c : FnV) (f : Fn), q[k]? = some c → l[k]? = some f → FnOwn W B c.1 c.2.1 c.2.2.1 c.2.2.2 f
theorem FnRows.kept {W W' : World} {B : Nat} {q : List FnV} {l : List Fn} {row : Option Nat} (h : FnRows W B q l) (hg : W.grownBy W' row) (he : NoRow W row) : FnRows W' B q l := ⟨h.1, fun k c f h1 h2 => (h.2 k c f h1 h2).kept hg he⟩
theorem FnRows.snoc {W : World} {B : Nat} {q : List FnV} {l : List Fn} {c : FnV} {f : Fn} (h : FnRows W B q l) (hf : FnOwn W B c.1 c.2.1 c.2.2.1 c.2.2.2 f) : FnRows W B (q ++ [c]) (l ++ [f]) := by
  refine ⟨by simp [h.1], fun k c' f' h1 h2 => ?_⟩
  by_cases hk : k < q.length
  · rw [List.getElem?_append_left hk] at h1
    rw [List.getElem?_append_left (by rw [← h.1]; exact hk)] at h2
    exact h.2 k c' f' h1 h2
  · have hk1 : k < (q ++ [c]).length := (List.getElem?_eq_some_iff.1 h1).1
    simp at hk1
    obtain rfl : k = q.length := by omega
    simp at h1
    rw [h.1] at h2
    simp at h2
    subst h1; subst h2; exact hf
theorem fnCells_length (q : List FnV) : (fnCells q).length = q.length * 4 := by
  induction q with
  | nil => rfl
  | cons x r ih => simp only [fnCells, List.flatMap_cons, List.length_append, List.length_cons, List.length_nil] at ih ⊢; omega
theorem fnCells_at (q : List FnV) : ∀ (k : Nat) (c : FnV), q[k]? = some c → (fnCells q)[k * 4]? = some c.1 ∧ (fnCells q)[k * 4 + 1]? = some c.2.1 ∧ (fnCells q)[k * 4 + 2]? = some c.2.2.1 ∧ (fnCells q)[k * 4 + 3]? = some c.2.2.2 := by
  induction q with
  | nil => intro k c h; simp at h
  | cons x r ih =>
    intro k c h
    cases k with
    | zero => simp at h; subst h; simp [fnCells]
    | succ k =>
      have := ih k c (by simpa using h)
      simp only [fnCells, List.flatMap_cons] at this ⊢
      refine ⟨?_, ?_, ?_, ?_⟩
      · rw [List.getElem?_append_right (by simp; omega)]; simpa [show (k + 1) * 4 - 4 = k * 4 from by omega] using this.1
      · rw [List.getElem?_append_right (by simp; omega)]; simpa [show (k + 1) * 4 + 1 - 4 = k * 4 + 1 from by omega] using this.2.1
      · rw [List.getElem?_append_right (by simp; omega)]; simpa [show (k + 1) * 4 + 2 - 4 = k * 4 + 2 from by omega] using this.2.2.1
      · rw [List.getElem?_append_right (by simp; omega)]; simpa [show (k + 1) * 4 + 3 - 4 = k * 4 + 3 from by omega] using this.2.2.2
theorem fnsAt_of_row {W : World} {base B : Nat} {v : Value} {q : List FnV} {l : List Fn} {n : Nat} (hn : n = l.length) (hm : n ≤ maxLen) (h : W.ownsRow base 78 4 v n (fnCells q)) (hq : FnRows W B q l) : FnsAt W v l := by
  subst hn
  rcases h.2 with ⟨rfl, h0⟩ | ⟨g, cap, cur, rfl, hb, hg, hn, hc, hs, ht⟩
  · refine ⟨none, 0, by rw [h0], hm, fun k o hk => ?_⟩
    have := lt_of_at' hk
    omega
  · refine ⟨_, cap, rfl, hm, fun k f hk => ?_⟩
    have hk2 := lt_of_at' hk
    obtain ⟨c, hc'⟩ := at_of_lt (l := q) (k := k) (by rw [hq.1]; exact hk2)
    obtain ⟨a0, a1, a2, a3⟩ := fnCells_at q k c hc'
    rw [← ht, List.getElem?_take_of_lt (by omega)] at a0 a1 a2 a3
    refine ⟨g, 0, c.1, c.2.1, c.2.2.1, c.2.2.2, rfl, heap_lt hg, ?_, ?_, ?_, ?_, (hq.2 k c f hc' hk).1⟩
    · rw [cell_at' hg]; simpa using a0
    · rw [cell_at' hg]; simpa using a1
    · rw [cell_at' hg]; simpa using a2
    · rw [cell_at' hg]; simpa using a3
/-- functions in memory of their own. -/
def FnsOwn (W : World) (B : Nat) (v : Value) (l : List Fn) : Prop := ∃ (q : List FnV) (n : Nat), n = l.length ∧ n ≤ 255 ∧ W.ownsRow B 78 4 v n (fnCells q) ∧ FnRows W B q l
theorem FnsOwn.at {W : World} {B : Nat} {v : Value} {l : List Fn} (h : FnsOwn W B v l) : FnsAt W v l := by
  obtain ⟨q, n, h1, h2, h3, h4⟩ := h
  exact fnsAt_of_row h1 (by unfold maxLen; omega) h3 h4
theorem FnsOwn.set {W : World} {B : Nat} {v : Value} {l : List Fn} (h : FnsOwn W B v l) {r j : Nat} {cs : Array Value} {fz : Nat × Nat} (hr : W.heap[r]? = some (.cells cs 24 fz)) (x : Value) : FnsOwn (W.setCell ⟨r, j, none⟩ x) B v l := by
  obtain ⟨q, n, h1, h2, h3, h4⟩ := h
  exact ⟨q, n, h1, h2, h3.kept (grown_set W r j x) (.inr (row_not h3 hr (by decide)).symm), h4.kept (grown_set W r j x) (noRow_at hr (by decide) (by decide))⟩
theorem FnsOwn.below {W W' : World} {B : Nat} {v : Value} {l : List Fn} (h : FnsOwn W B v l) (hb : Below W.heap.size W W') : FnsOwn W' B v l := by
  obtain ⟨q, n, h1, h2, h3, h4⟩ := h
  exact ⟨q, n, h1, h2, h3.kept (grown_of_below hb) (by cases hv : Value.ownBlock v <;> simp), h4.kept (grown_of_below hb) (noRow_none _)⟩
theorem infoFn : (Tryz.prog.info? 78).map (fun i => (i.zero, i.size, i.bytes)) = some (some (.agg #[.int .i64 0, .slice none 0 0, .int .i64 0, .slice none 0 0]), 4, 64) := by kernel_rfl
end Go.Proofs.YtcadpoknolefpaaGreat
/- block.New. -/
namespace Go.Proofs.YtcadpoknolefpaaGreat
open Go.RowKit
set_option linter.unusedSimpArgs false
set_option linter.unusedVariables false
theorem cell_one_at {w : World} {b : Nat} {x : Value} (h : w.cell? ⟨b, 0, none⟩ = some x) : ∀ (j : Nat) (u : Value), [x][j]? = some u → w.cell? ((⟨b, 0, none⟩ : Addr).add j) = some u := by
  intro j u hj
  match j, hj with
  | 0, hj => simp at hj; subst hj; exact h
  | j + 1, hj => simp at hj
theorem new_end {w2 w3 w4 : World} {B Bc Br m n nn : Nat} {q q' : List Value} {L : List (List Int)} {u : Value} (hrs : BRows w2 Bc q L) (hBc : B ≤ Bc) (h23 : Below w2.heap.size w2 w3) (hm : w3.heap[m]? = some (.cells ((List.replicate n (0 : Int)).map (Value.int .i64)).toArray 3 (0, 0))) (hBm : B ≤ m) (hap : m < Bc ∨ w2.heap.size ≤ m)
    (hrow : w2.ownsRow Br 27 1 u nn q') (hg : w3.grownBy w4 u.ownBlock) (hn : n ≤ 40) : BRows w4 B (q ++ [.slice (some ⟨m, 0, none⟩) n n]) (L ++ [List.replicate n 0]) := by
  have hty : ∀ (g : Nat) (cs : Array Value), w3.heap[g]? = some (.cells cs 3 (0, 0)) → some g ≠ u.ownBlock := fun g cs hg1 e => by
    have hgl := (hrow.lt g e.symm).2
    have hg2 := (h23.block g hgl).symm.trans hg1
    exact row_not hrow hg2 (by decide) e
  have h3 := hrs.below h23
  have h4 : BRows w4 Bc q L := h3.same fun k x g h1 hg1 => by
    obtain ⟨_, h5, cs, h6⟩ := h3.lt h1 hg1
    exact hg.block g h5 (hty g cs h6)
  have hm4 : w4.heap[m]? = _ := (hg.block m (heap_lt hm) (hty m _ hm)).trans hm
  refine (h4.low hBc).snoc' ?_ (fun k y g h1 hg1 e => ?_) (by simp; omega)
  · refine ⟨by simp, .inr ⟨m, n, _, by simp, hBm, hm4, by simp, by unfold maxLen; omega, by simp, by simp⟩⟩
  · have e' : m = g := by simpa [Value.ownBlock] using e
    obtain ⟨h5, h6, _⟩ := hrs.lt h1 hg1
    omega
set_option maxRecDepth 100000 in
set_option maxHeartbeats 4000000 in
theorem bNew_ok (L : List (List Int)) (n : Nat) (v : Value) (w : World) (h : BlksAt w v L) (he : newErr L n = 0) : Calls Tryz.prog 223 #[v, .int .i64 n] w fun e w' => ∃ u, e = .returned (.tuple #[u, .int .i64 ((L.length : Int) + 1), .int .i64 0]) ∧ BlksOwn w' w.heap.size u (L ++ [List.replicate n 0]) ∧ Below w.heap.size w w' := by
  obtain ⟨i0, hi, hz0, hz1, hz2⟩ := info_parts infoInt
  obtain ⟨i1, hj, hy0, hy1, hy2⟩ := info_parts infoInts
  have hbe : blkErr L = 0 := by
    unfold newErr at he
    by_cases hb : blkErr L = 0
    · exact hb
    · rw [if_pos hb] at he; exact absurd he hb
  obtain ⟨h8, h40, _⟩ := blkErr_zero hbe
  have hsm : ∀ b ∈ L, b.length ≤ 40 := fun b hb => by
    obtain ⟨i, hi⟩ := List.getElem?_of_mem hb
    have := cellsN_mem hi
    omega
  unfold newErr at he
  rw [if_neg (by simpa using hbe), if_neg (by omega)] at he
  have hsp : L.length ≠ 8 ∧ (n : Int) ≤ 40 - (cellsN L : Int) := by
    by_cases hc : L.length = 8 ∨ 40 - (cellsN L : Int) < (n : Int)
    · rw [if_pos hc] at he; cases he
    · omega
  have hCK := bCheck_any L v w h
  rw [hbe] at hCK
  have HCK := hideP hCK
  obtain ⟨p, cap, hv, _, _⟩ := id h
  subst hv
  have hl8 : ((L.length : Int) == 8) = false := by simp; omega
  have hn0 : ¬ (n : Int) < 0 := by omega
  have hng : ¬ (40 - (cellsN L : Int) < (n : Int)) := by omega
  have hn40 : n ≤ 40 := by omega
  obtain ⟨AZ, hAZ⟩ : ∃ AZ, ((List.replicate n (0 : Int)).map (Value.int .i64)).toArray = AZ := ⟨_, rfl⟩
  have mS := make_is 27 3 i0 (.int .i64 0) Tryz.underlying27 hi hz0 hz1 n (by rw [hz2]; omega) (by unfold maxLen; omega) AZ (by rw [made_ints, ← hAZ])
  have H := hideP h
  have HSM := hideP hsm
  have HAZ := hideP hAZ
  clear hCK h he hbe hsm hAZ hi hz0 hz1 hz2
  go_enter Tryz.func223, Tryz.ntmps223
  go_wp2_with (first | (go_at_call 120; refine HCK.out.mono ?_; rintro e w1 ⟨rfl, hb1⟩) | (go_at_call 167; refine (cells_any L _ _ (H.out.below hb1) h8).mono ?_; rintro e w' ⟨rfl, hw⟩; have hw := hw.symm; subst hw))
  have hFB : ∀ W, Below w1.heap.size w1 W → Calls Tryz.prog 85 #[.slice p L.length cap] W fun e w' => ∃ q pu cu, e = .returned (.slice pu q.length cu) ∧ q.length = L.length ∧ w'.ownsRow W.heap.size 27 1 (.slice pu q.length cu) q.length q ∧ BRows w' W.heap.size q L ∧ Below W.heap.size W w' := fun W hW => by
    refine (freshBlocks_any L _ W ((H.out.below hb1).below hW) h8 HSM.out).mono ?_
    rintro e w' ⟨u, rfl, ⟨q, h1, h2⟩, h3⟩
    obtain ⟨pu, cu, rfl⟩ := row_shp h1
    exact ⟨q, pu, cu, rfl, h2.len, h1, h2, h3⟩
  have HFB := hideP hFB
  clear hFB HCK
  have hs1 := hb1.size
  go_region_law
    (first
      | (refine step_append_row rfl _ _ 26 rfl w.heap.size 27 i1 (.slice none 0 0) 1 24 Tryz.underlying26 hj hy0 hy1 hy2 rfl (by decide) _ _ _ rfl (row_low ((HROW.out.alloc _).alloc _) (by simp; omega)) ⟨w2.heap.size + 1, 0, none⟩ 1 1 [.slice (some ⟨w2.heap.size, 0, none⟩) n n] rfl rfl (cell_one_at (by rw [cell_at' (new_two w2 (.cells AZ 3) (.cells #[.slice (some ⟨w2.heap.size, 0, none⟩) n n] 27)) 0]; rfl)) (by simp [Value.oneCell']) (by unfold maxLen; omega) (by omega) (by simp; omega) ?_; intro v' w4 hown4 hg4; obtain ⟨g4, cap4, hv4⟩ := ownsRow_succ hown4; subst hv4)
      | (refine step_append_row rfl _ _ 26 rfl w.heap.size 27 i1 (.slice none 0 0) 1 24 Tryz.underlying26 hj hy0 hy1 hy2 rfl (by decide) _ _ _ rfl (row_low (HROW.out.alloc _) (by simp; omega)) ⟨w2.heap.size, 0, none⟩ 1 1 [.slice (some ⟨w1.heap.size, 0, none⟩) n n] rfl rfl (cell_one_at (by rw [cell_at' (World.alloc_heap_new w2 (.cells #[.slice (some ⟨w1.heap.size, 0, none⟩) n n] 27)) 0]; rfl)) (by simp [Value.oneCell']) (by unfold maxLen; omega) (by omega) (by simp; omega) ?_; intro v' w4 hown4 hg4; obtain ⟨g4, cap4, hv4⟩ := ownsRow_succ hown4; subst hv4)
      | (refine step_append_row rfl _ _ 26 rfl w.heap.size 27 i1 (.slice none 0 0) 1 24 Tryz.underlying26 hj hy0 hy1 hy2 rfl (by decide) _ _ _ rfl (row_low HROW.out (by simp; omega)) ⟨w1.heap.size + 1, 0, none⟩ 1 1 [.slice (some ⟨w1.heap.size, 0, none⟩) n n] rfl rfl (cell_one_at ((hb2.cell (p := ⟨w1.heap.size + 1, 0, none⟩) (by simp)).trans (by exact cell_at' (k := w1.heap.size + 1) (new_two w1 (.cells AZ 3) (.cells #[.slice (some ⟨w1.heap.size, 0, none⟩) n n] 27)) 0))) (by simp [Value.oneCell']) (by unfold maxLen; omega) (by omega) (by omega) ?_; intro v' w4 hown4 hg4; obtain ⟨g4, cap4, hv4⟩ := ownsRow_succ hown4; subst hv4)
      | (go_simp; go_at_call 85; refine (HFB.out _ (by first | exact (Below.refl _ w1).drew | exact ((Below.refl _ w1).drew).alloc (by simp) _ | exact (((Below.refl _ w1).drew).alloc (by simp) _).alloc (by simp) _)).mono ?_; rintro e w2 ⟨q, pu, cu, rfl, hql, hrow, hrs, hb2⟩; have HROW := hideP hrow; have HRS := hideP hrs; have HQL := hideP hql; have hq7 : q.length ≤ 7 := (by omega); have hs2 := hb2.size; simp at hs2; clear hrow hrs hql))
  · go_wp2
    go_ret3
    have hA : ((w2.alloc (.cells AZ 3)).alloc (.cells #[.slice (some ⟨w2.heap.size, 0, none⟩) n n] 27)).heap[w2.heap.size]? = some (.cells ((List.replicate n (0 : Int)).map (Value.int .i64)).toArray 3 (0, 0)) := by rw [HAZ.out]; exact heap_old (World.alloc_heap_new w2 _) _
    have h23 : Below w2.heap.size w2 ((w2.alloc (.cells AZ 3)).alloc (.cells #[.slice (some ⟨w2.heap.size, 0, none⟩) n n] 27)) := ((Below.refl _ w2).alloc (Nat.le_refl _) _).alloc (by simp) _
    have hend := new_end (B := w.heap.size) HRS.out hs1 h23 hA (by omega) (.inr (Nat.le_refl _)) HROW.out hg4 hn40
    refine ⟨_, by rw [← HQL.out]; rfl, ⟨_, by rw [List.length_append, List.length_singleton]; exact hown4, hend⟩, ?_⟩
    exact ((bthen0 hb1 (((Below.refl _ w1).drew).trans (show Below w1.heap.size w1.drew w2 from hb2))).trans (h23.mono (by omega))).grown hg4 (by simp; omega) (fun k hk => by have := (HROW.out.lt k hk).1; simp at this; omega)
  · go_wp2
    go_ret3
    have hx : w2.heap[w1.heap.size]? = some (.cells AZ 3 (0, 0)) := (hb2.block _ (by simp)).trans (World.alloc_heap_new w1 (.cells AZ 3))
    have hA : (w2.alloc (.cells #[.slice (some ⟨w1.heap.size, 0, none⟩) n n] 27)).heap[w1.heap.size]? = some (.cells ((List.replicate n (0 : Int)).map (Value.int .i64)).toArray 3 (0, 0)) := by rw [HAZ.out]; exact heap_old hx _
    have h23 : Below w2.heap.size w2 (w2.alloc (.cells #[.slice (some ⟨w1.heap.size, 0, none⟩) n n] 27)) := (Below.refl _ w2).alloc (Nat.le_refl _) _
    have hend := new_end (B := w.heap.size) HRS.out (by simp; omega) h23 hA (by omega) (.inl (by simp)) HROW.out hg4 hn40
    refine ⟨_, by rw [← HQL.out]; rfl, ⟨_, by rw [List.length_append, List.length_singleton]; exact hown4, hend⟩, ?_⟩
    have hb12 : Below w1.heap.size w1 w2 := (((Below.refl _ w1).alloc (Nat.le_refl _) _).drew).trans (hb2.mono (by simp))
    exact ((bthen0 hb1 hb12).trans (h23.mono (by omega))).grown hg4 (by simp; omega) (fun k hk => by have := (HROW.out.lt k hk).1; simp at this; omega)
  · go_wp2
    go_ret3
    have hx : w2.heap[w1.heap.size]? = some (.cells AZ 3 (0, 0)) := (hb2.block _ (by simp; omega)).trans (heap_old (World.alloc_heap_new w1 (.cells AZ 3)) _)
    have hA : w2.heap[w1.heap.size]? = some (.cells ((List.replicate n (0 : Int)).map (Value.int .i64)).toArray 3 (0, 0)) := by rw [HAZ.out]; exact hx
    have hend := new_end (B := w.heap.size) HRS.out (by simp; omega) (Below.refl _ w2) hA (by omega) (.inl (by simp; omega)) HROW.out hg4 hn40
    refine ⟨_, by rw [← HQL.out]; rfl, ⟨_, by rw [List.length_append, List.length_singleton]; exact hown4, hend⟩, ?_⟩
    have hb12 : Below w1.heap.size w1 w2 := ((((Below.refl _ w1).alloc (Nat.le_refl _) _).alloc (by simp) _).drew).trans (hb2.mono (by simp; omega))
    exact (bthen0 hb1 hb12).grown hg4 (by omega) (fun k hk => by have := (HROW.out.lt k hk).1; simp at this; omega)
theorem newErr_ge {L : List (List Int)} {size : Int} (h : newErr L size = 0) : 0 ≤ size := by
  unfold newErr at h
  by_cases hb : blkErr L = 0
  · rw [if_neg (by simpa using hb)] at h
    by_cases h0 : size < 0
    · rw [if_pos h0] at h; cases h
    · omega
  · rw [if_pos hb] at h; exact absurd h hb
set_option maxRecDepth 100000 in
set_option maxHeartbeats 1000000 in
theorem bNew_any (L : List (List Int)) (size : Int) (hsz : -9223372036854775808 ≤ size ∧ size ≤ 9223372036854775807) (v : Value) (w : World) (h : BlksAt w v L) : Calls Tryz.prog 223 #[v, .int .i64 size] w fun e w' => ∃ u, e = .returned (.tuple #[u, .int .i64 (newRef L size), .int .i64 (newErr L size)]) ∧ BlksOwn w' w.heap.size u (newR L size) ∧ Below w.heap.size w w' := by
  by_cases he : newErr L size = 0
  · obtain ⟨n, rfl⟩ : ∃ n : Nat, size = n := ⟨size.toNat, by have := newErr_ge he; omega⟩
    rw [he, newRef, if_pos he, newR, if_pos he, newL, Int.toNat_natCast]
    exact bNew_ok L n v w h he
  · rw [newRef, if_neg he, newR, if_neg he]
    have HCK := hideP (bCheck_any L v w h)
    obtain ⟨p, cap, hv, hm, _⟩ := id h
    unfold maxLen at hm
    subst hv
    by_cases hb : blkErr L = 0
    · rw [hb] at HCK
      obtain ⟨h8, h40, _⟩ := blkErr_zero hb
      have hne : newErr L size = if size < 0 then 3 else if L.length = 8 ∨ 40 - (cellsN L : Int) < size then 7 else 0 := by unfold newErr; rw [if_neg (by simpa using hb)]
      have H := hideP h
      clear h hb
      by_cases h0 : size < 0
      · rw [hne, if_pos h0]
        clear hne he
        go_enter Tryz.func223, Tryz.ntmps223
        go_wp2_with (go_at_call 120; refine HCK.out.mono ?_; rintro e w1 ⟨rfl, hb1⟩)
        go_ret3
        exact ⟨_, rfl, blksOwn_nil _ _, hb1⟩
      · have hc : L.length = 8 ∨ 40 - (cellsN L : Int) < size := by
          by_cases hc : L.length = 8 ∨ 40 - (cellsN L : Int) < size
          · exact hc
          · exfalso; apply he; rw [hne, if_neg h0, if_neg hc]
        rw [hne, if_neg h0, if_pos hc]
        clear hne he
        by_cases hl : L.length = 8
        · have hl8 : ((L.length : Int) == 8) = true := by simp; omega
          clear hl hc
          go_enter Tryz.func223, Tryz.ntmps223
          go_wp2_with (go_at_call 120; refine HCK.out.mono ?_; rintro e w1 ⟨rfl, hb1⟩)
          go_ret3
          exact ⟨_, rfl, blksOwn_nil _ _, hb1⟩
        · have hl8 : ((L.length : Int) == 8) = false := by simp; omega
          have hgt : 40 - (cellsN L : Int) < size := by omega
          clear hl hc
          go_enter Tryz.func223, Tryz.ntmps223
          go_wp2_with (first | (go_at_call 120; refine HCK.out.mono ?_; rintro e w1 ⟨rfl, hb1⟩) | (go_at_call 167; refine (cells_any L _ _ (H.out.below hb1) h8).mono ?_; rintro e w' ⟨rfl, hw⟩; have hw := hw.symm; subst hw))
          go_ret3
          exact ⟨_, rfl, blksOwn_nil _ _, hb1⟩
    · have hne : newErr L size = blkErr L := by unfold newErr; rw [if_pos hb]
      have he' : (blkErr L != 0) = true := by simp [hb]
      rw [hne]
      clear hne he hb h
      go_enter Tryz.func223, Tryz.ntmps223
      go_wp2_with (go_at_call 120; refine HCK.out.mono ?_; rintro e w1 ⟨rfl, hb1⟩)
      go_ret3
      exact ⟨_, rfl, blksOwn_nil _ _, hb1⟩
end Go.Proofs.YtcadpoknolefpaaGreat
/- block.Keep. -/
namespace Go.Proofs.YtcadpoknolefpaaGreat
open Go.RowKit
set_option linter.unusedSimpArgs false
set_option linter.unusedVariables false
def LBox (bl : Nat) (v : Value) (W : World) : Prop := bl < W.heap.size ∧ W.cell? ⟨bl, 0, none⟩ = some v
theorem LBox.below {bl : Nat} {v : Value} {W W' : World} (h : LBox bl v W) (hb : Below W.heap.size W W') : LBox bl v W' := ⟨Nat.lt_of_lt_of_le h.1 hb.size, (hb.cell (p := ⟨bl, 0, none⟩) h.1).trans h.2⟩
set_option maxHeartbeats 1000000 in
theorem bKeep1_any (L : List (List Int)) (ref : Int) (p : Option Addr) (cap bl : Nat) (w : World) (h : LBox bl (.slice p L.length cap) w) : Calls Tryz.prog 121 #[.int .i64 ref, .pointer (some ⟨bl, 0, none⟩)] w fun e w' => e = .returned (.bool (!refOk L.length ref)) ∧ Below w.heap.size w w' := by
  obtain ⟨_, c0⟩ := h
  go_enter Tryz.func121, Tryz.ntmps121
  go_wp2_with (go_at_call 122; refine (bIsRef_any L ref _ _ _).mono ?_; rintro e w2 ⟨rfl, hw⟩; have hw := hw.symm; subst hw)
  go_ret
  exact ⟨rfl, Below.refl _ _⟩
theorem ent_keep1 : Ent 121 := ent_mk Tryz.func121 (by kernel_rfl) rfl
theorem containsNoRef_any (L : List (List Int)) (refs : List Int) (v : Value) (p : Option Addr) (cap bl : Nat) (w : World) (hv : IntsAt w v refs) (h : LBox bl (.slice p L.length cap) w) : Calls Tryz.prog 106 #[v, .func (.func 121) #[] #[.pointer (some ⟨bl, 0, none⟩)]] w fun e w' => e = .returned (.bool (!refs.all (refOk L.length))) ∧ Below w.heap.size w w' :=
  containsInts_gen 121 #[.pointer (some ⟨bl, 0, none⟩)] (LBox bl (.slice p L.length cap)) (refOk L.length) refs v w hv h (fun _ _ h hb => h.below hb) ent_keep1 (fun z W hW => bKeep1_any L z p cap bl W hW)
/-- what stands at j behind k rounds. -/
def thenAt (refs : List Int) (k j : Nat) : Int := if 1 ≤ j ∧ j ≤ k ∧ (j : Int) ∈ refs then ((stays refs j).length : Int) else 0
def thenRow (refs : List Int) (n k : Nat) : List Int := (List.range (n + 1)).map (thenAt refs k)
theorem thenRow_zero (refs : List Int) (n : Nat) : thenRow refs n 0 = List.replicate (n + 1) 0 := by
  apply List.ext_getElem?
  intro j
  unfold thenRow
  by_cases hj : j < n + 1
  · have h0 : thenAt refs 0 j = 0 := by unfold thenAt; rw [if_neg (by omega)]
    simp [hj, h0]
  · simp [hj]
theorem thenRow_true {refs : List Int} {n k : Nat} (hk : k < n) (h : (k : Int) + 1 ∈ refs) : (thenRow refs n k).set (k + 1) ((stays refs (k + 1)).length : Int) = thenRow refs n (k + 1) := by
  apply List.ext_getElem?
  intro j
  unfold thenRow
  by_cases hj : j < n + 1
  · by_cases he : k + 1 = j
    · subst he
      rw [List.getElem?_set_self (by simp; omega)]
      have h2 : 1 ≤ k + 1 ∧ k + 1 ≤ k + 1 ∧ (((k + 1 : Nat) : Int)) ∈ refs := ⟨by omega, by omega, by simpa using h⟩
      simp [hj, thenAt, h]
    · rw [List.getElem?_set_ne he]
      have h2 : thenAt refs k j = thenAt refs (k + 1) j := by
        unfold thenAt
        by_cases hc : 1 ≤ j ∧ j ≤ k ∧ (j : Int) ∈ refs
        · rw [if_pos hc, if_pos ⟨hc.1, by omega, hc.2.2⟩]
        · rw [if_neg hc, if_neg (fun h => hc ⟨h.1, by omega, h.2.2⟩)]
      simp [hj, h2]
  · rw [List.getElem?_eq_none (by simp; omega), List.getElem?_eq_none (by simp; omega)]
theorem thenRow_false {refs : List Int} {n k : Nat} (h : ¬ (k : Int) + 1 ∈ refs) : thenRow refs n k = thenRow refs n (k + 1) := by
  unfold thenRow
  apply List.map_congr_left
  intro j _
  unfold thenAt
  by_cases hc : 1 ≤ j ∧ j ≤ k ∧ (j : Int) ∈ refs
  · rw [if_pos hc, if_pos ⟨hc.1, by omega, hc.2.2⟩]
  · rw [if_neg hc, if_neg]
    intro h2
    by_cases he : j = k + 1
    · subst he; exact h (by simpa using h2.2.2)
    · exact hc ⟨h2.1, by omega, h2.2.2⟩
theorem thenRow_at {refs : List Int} {n r : Nat} (hr : r ≤ n) (h : (r : Int) ∈ refs) : (thenRow refs n n)[r]? = some (thenOf refs r) := by
  unfold thenRow
  have hr' : r < n + 1 := by omega
  rw [List.getElem?_map, List.getElem?_range hr']
  unfold thenAt thenOf
  by_cases h0 : r = 0
  · subst h0; simp [stays]
  · have : 1 ≤ r ∧ r ≤ n ∧ (r : Int) ∈ refs := ⟨by omega, hr, h⟩
    simp [this]
theorem thenRow_length (refs : List Int) (n k : Nat) : (thenRow refs n k).length = n + 1 := by simp [thenRow]
theorem row_cell_ex {W : World} {b k : Nat} {cs : List Int} {t : TypeId} {fz : Nat × Nat} (hk : k < cs.length) (h : W.heap[b]? = some (.cells (cs.map (Value.int .i64)).toArray t fz)) : ∃ z, cs[k]? = some z ∧ W.cell? ⟨b, k, none⟩ = some (.int .i64 z) := by
  obtain ⟨z, hz⟩ := at_of_lt hk
  exact ⟨z, hz, by rw [cell_at' h]; simp [hz]⟩
set_option maxRecDepth 100000 in
set_option maxHeartbeats 4000000 in
theorem bKeep_ok (L : List (List Int)) (refs : List Int) (v u : Value) (w : World) (h : BlksAt w v L) (hu : IntsAt w u refs) (hrl : refs.length ≤ 17592186044416) (he : keepErr L refs = 0) : Calls Tryz.prog 78 #[v, u] w fun e w' => ∃ x y, e = .returned (.tuple #[x, y, .int .i64 0]) ∧ BlksOwn w' w.heap.size x (keptL L refs L.length) ∧ w'.ownsRow w.heap.size 3 1 y refs.length ((refs.map (thenOf refs)).map (Value.int .i64)) ∧ Below w.heap.size w w' := by
  obtain ⟨i0, hi, hz0, hz1, hz2⟩ := info_parts infoInt
  obtain ⟨i1, hj, hy0, hy1, hy2⟩ := info_parts infoInts
  have hbe : blkErr L = 0 := by
    unfold keepErr at he
    by_cases hb : blkErr L = 0
    · exact hb
    · rw [if_pos hb] at he; exact absurd he hb
  obtain ⟨h8, h40, -⟩ := blkErr_zero hbe
  have hsm : ∀ b ∈ L, b.length ≤ 40 := fun b hb => by
    obtain ⟨i, hi⟩ := List.getElem?_of_mem hb
    have := cellsN_mem hi
    omega
  have hall : refs.all (refOk L.length) = true := by
    unfold keepErr at he
    rw [if_neg (by simpa using hbe)] at he
    cases hc : refs.all (refOk L.length)
    · rw [hc] at he; cases he
    · rfl
  have hrk : ∀ (k : Nat) (r : Int), refs[k]? = some r → 0 ≤ r ∧ r ≤ (L.length : Int) := fun k r hr => by
    have := List.all_eq_true.1 hall r (List.mem_of_getElem? hr)
    simpa [refOk] using this
  obtain ⟨p, cap, hv, -, -⟩ := id h
  obtain ⟨pu, capu, huv, -, -⟩ := id hu
  subst hv huv
  obtain ⟨W1, hW1⟩ : ∃ W1, w.alloc (.cells #[.slice p L.length cap] 26) = W1 := ⟨_, rfl⟩
  have hb1 : Below w.heap.size w W1 := by rw [← hW1]; exact (Below.refl _ w).alloc (Nat.le_refl _) _
  have x1 : W1.heap[w.heap.size]? = some (.cells #[.slice p L.length cap] 26 (0, 0)) := by rw [← hW1]; exact World.alloc_heap_new w _
  have c1 := cell_at' x1 0
  simp at c1
  have lx := heap_lt x1
  have HCK := hideP (bCheck_any L _ W1 (h.below hb1))
  rw [hbe] at HCK
  have H := hideP h
  have HU := hideP hu
  have HSM := hideP hsm
  have HRK := hideP hrk
  have HX := hideP x1
  clear h hu he hbe hsm hrk x1
  go_enter Tryz.func78, Tryz.ntmps78
  go_wp2_with fail
  refine HCK.out.mono ?_
  rintro e w2 ⟨rfl, hb2⟩
  have B2 := hb1.trans (hb2.mono hb1.size)
  have c2 := (hb2.cell (p := ⟨w.heap.size, 0, none⟩) lx).trans c1
  have lx2 := Nat.lt_of_lt_of_le lx hb2.size
  go_wp2_with fail
  refine (containsNoRef_any L refs _ p cap w.heap.size w2 (HU.out.below B2) ⟨lx2, c2⟩).mono ?_
  rw [hall]
  rintro e w3 ⟨rfl, hb3⟩
  have B3 := B2.trans (hb3.mono B2.size)
  have c3 := (hb3.cell (p := ⟨w.heap.size, 0, none⟩) lx2).trans c2
  have lx3 := Nat.lt_of_lt_of_le lx2 hb3.size
  clear c1 c2 hall
  go_wp2_with (at_make; refine wpList_make_full _ rfl _ _ 27 rfl w3.heap.size 3 i0 (.int .i64 0) 1 Tryz.underlying27 hi hz0 hz1 _ _ _ _ (L.length + 1) rfl rfl (by omega) (by omega) (by rw [hz2]; omega) (by unfold maxLen; omega) (Nat.le_refl _) ?_; intro w4 hown4 hg4; rw [made_ints] at hown4; have hT4 := row_full hown4 (by simp); have b34 : Below w3.heap.size w3 w4 := (Below.refl _ w3).grown hg4 (Nat.le_refl _) (fun k hk => by cases hk); have c4 := (b34.cell (p := ⟨w.heap.size, 0, none⟩) lx3).trans c3; have HT4 := hideP hT4; clear hown4 hT4 hg4)
  have B4 := B3.trans (b34.mono B3.size)
  have lT4 := heap_lt HT4.out
  have lx4 := Nat.lt_of_lt_of_le lx3 b34.size
  have hT0 := HT4.out
  rw [← thenRow_zero refs L.length] at hT0
  have HT0 := hideP hT0
  clear hT0 c3
  go_loopw [8, 10, 11, 12, 30] (fun v8 _ _ _ i wr => ∃ (k : Nat) (q : List Value), k ≤ L.length ∧ i = .int .i64 k ∧ wr.ownsRow w4.heap.size 27 1 v8 q.length q ∧ BRows wr w4.heap.size q (keptL L refs k) ∧ wr.heap[w3.heap.size]? = some (.cells ((thenRow refs L.length k).map (Value.int .i64)).toArray 3 (0, 0)) ∧ Below w3.heap.size w3 wr ∧ w4.heap.size ≤ wr.heap.size) (fun _ _ _ _ i _ => L.length - (intOf i).toNat)
  case atStart => exact ⟨0, [], Nat.zero_le _, rfl, World.ownsRow_nil _ _ _ _, bRows_nil _ _, HT0.out, b34, Nat.le_refl _⟩
  case round =>
    rename World => w5
    obtain ⟨k, q, hk, rfl, hrow, hrs, hT, hb5, hs5⟩ := hrel
    obtain ⟨p8, c8, hv8⟩ := row_shp hrow
    subst hv8
    have B5 := B3.trans (hb5.mono B3.size)
    have hql : q.length ≤ 8 := by
      have := hrs.len
      rw [keptL_length] at this
      have := stays_le refs k
      omega
    have lT5 := heap_lt hT
    by_cases hlt : k < L.length
    · have hlti : (k : Int) < (L.length : Int) := by omega
      obtain ⟨b, hb⟩ := at_of_lt hlt
      obtain ⟨p5, q5, he5, _, hc5⟩ := H.out.below B5
      cases he5
      obtain ⟨g, off, c, hp, hg, g0, g1, gn, _⟩ := hc5 k b hb
      subst hp
      obtain ⟨p6, c6, hc6, _, _⟩ := id g1
      subst hc6
      have hbl := HSM.out b (List.mem_of_getElem? hb)
      have HCI := hideP (containsInt_any refs ((k : Int) + 1) _ w5 (HU.out.below B5))
      have HCL := hideP (cloneInt_any b _ w5 g1 gn (by omega))
      have HB := hideP hb
      have HT := hideP hT
      have HRS := hideP hrs
      have HROW := hideP hrow
      clear hc5 hb g1 gn hT hrs hrow
      by_cases hin : (k : Int) + 1 ∈ refs
      · rw [decide_eq_true hin] at HCI
        have HIN := hideP hin
        clear hin
        go_wp2_with fail
        refine HCI.out.mono ?_
        rintro e w6 ⟨rfl, hw6⟩
        have hw6 := hw6.symm
        subst hw6
        go_wp2_with fail
        refine HCL.out.mono ?_
        rintro e w6 ⟨u6, rfl, r6, hb6⟩
        obtain ⟨p7, c7, hu6⟩ := row_shp r6
        subst hu6
        have s6 := hb6.size
        have hrow6 := row_same HROW.out (W' := w6) fun j hj => hb6.block j (HROW.out.lt j hj).2
        have hrs6 := HRS.out.below hb6
        have hT6 := (hb6.block _ lT5).trans HT.out
        have HROW7 := hideP (hrow6.alloc (.cells #[.slice p7 b.length c7] 27))
        have HRS6 := hideP hrs6
        have HT6 := hideP hT6
        have HR6 := hideP r6
        clear hrow6 hrs6 hT6 r6
        have hk1 : (k : Int) + 1 < (L.length : Int) + 1 := by omega
        go_wp2_with (at_builtin; refine wpList_append_own _ rfl _ _ 26 rfl w4.heap.size 27 i1 (.slice none 0 0) 1 24 Tryz.underlying26 hj hy0 hy1 hy2 rfl (by decide) _ _ _ rfl HROW7.out ⟨w6.heap.size, 0, none⟩ 1 1 [.slice p7 b.length c7] rfl rfl (cell_one_at (by rw [cell_at' (World.alloc_heap_new w6 (.cells #[.slice p7 b.length c7] 27)) 0]; rfl)) (by simp [Value.oneCell']) (by unfold maxLen; omega) (by omega) (by simp; omega) ?_; intro v9 w9 hown9 hg9 _; obtain ⟨g9, cap9, hv9⟩ := ownsRow_succ hown9; subst hv9; have hT9 := (hg9.block w3.heap.size (by simp; omega) (row_not HROW7.out (heap_old HT6.out _) (by decide))).trans (heap_old HT6.out _); have z9 := Lib.frozen_of_heap hT9 (k + 1); obtain ⟨y9, _, c9⟩ := row_cell_ex (k := k + 1) (by rw [thenRow_length]; omega) hT9; have HT9 := hideP hT9; have HOWN9 := hideP hown9; clear hT9 hown9)
        go_wp2
        go_roundw
        case rel =>
          have hb6' : Below w3.heap.size w3 (w6.alloc (.cells #[.slice p7 b.length c7] 27)) := (hb5.trans (hb6.mono hb5.size)).alloc (by have := hb5.size; omega) _
          have h34 : w3.heap.size < w4.heap.size := lT4
          have hb9 : Below w3.heap.size w3 w9 := hb6'.grown hg9 (by simp; omega) (fun j hj => by have := (HROW7.out.lt j hj).1; omega)
          have hs9 : w4.heap.size ≤ w9.heap.size := by have := hg9.size; simp at this; omega
          have hrs9 : BRows w9 w4.heap.size (q ++ [.slice p7 b.length c7]) (keptL L refs (k + 1)) := by
            rw [keptL_true HIN.out HB.out]
            have hA := HRS6.out.below ((Below.refl w6.heap.size w6).alloc (Nat.le_refl _) (.cells #[.slice p7 b.length c7] 27))
            have hne : ∀ (g : Nat) (cs : Array Value), (w6.alloc (.cells #[.slice p7 b.length c7] 27)).heap[g]? = some (.cells cs 3 (0, 0)) → some g ≠ Value.ownBlock (.slice p8 q.length c8) := fun g cs h1 => row_not HROW7.out h1 (by decide)
            have hB9 : BRows w9 w4.heap.size q (keptL L refs k) := hA.same fun i x g h1 h2 => by
              obtain ⟨_, h5, cs, h6⟩ := hA.lt h1 h2
              exact hg9.block g h5 (hne g cs h6)
            have hr7 := HR6.out.alloc (.cells #[.slice p7 b.length c7] 27)
            have hr9 : w9.ownsRow w5.heap.size 3 1 (.slice p7 b.length c7) b.length (b.map (Value.int .i64)) := row_same hr7 fun g h2 => by
              rcases hr7.2 with ⟨h3, _⟩ | ⟨g', cap', cur, h3, _, h6, _⟩
              · rw [h3] at h2; cases h2
              · rw [h3] at h2; cases h2
                exact hg9.block g' (heap_lt h6) (hne g' _ h6)
            exact hB9.snoc hr9 hs5 (fun i y g h1 h2 => (HRS.out.lt h1 h2).2.1) (by omega)
          have hsT := heap_setCell_same w9 w3.heap.size (k + 1) _ _ (.int .i64 ((q.length : Int) + 1)) HT9.out
          have hgT := set_grown w9 ⟨w3.heap.size, k + 1, none⟩ (.int .i64 ((q.length : Int) + 1))
          have hql2 : (q.length : Int) + 1 = ((stays refs (k + 1)).length : Int) := by
            have := HRS.out.len
            rw [keptL_length] at this
            rw [stays_true HIN.out, List.length_append, List.length_singleton]
            omega
          rw [hql2] at hsT hgT
          rw [set_ints, thenRow_true hlt HIN.out] at hsT
          refine ⟨k + 1, q ++ [.slice p7 b.length c7], by omega, by go_num, ?_, ?_, ?_, ?_, ?_⟩
          · rw [hql2, List.length_append, List.length_singleton]
            exact HOWN9.out.kept hgT (.inr (row_not HOWN9.out HT9.out (by decide)).symm)
          · rw [hql2]
            exact hrs9.same fun i x g h1 h2 => hgT.block g (hrs9.lt h1 h2).2.1 (fun e => by have := (hrs9.lt h1 h2).1; simp at e; omega)
          · rw [hql2]
            exact hsT
          · exact hb9.setCell (Nat.le_refl _) _
          · simpa using hs9
        case measure => simp [intOf]; omega
      · rw [decide_eq_false hin] at HCI
        have HIN := hideP hin
        clear hin
        go_wp2_with fail
        refine HCI.out.mono ?_
        rintro e w6 ⟨rfl, hw6⟩
        have hw6 := hw6.symm
        subst hw6
        go_wp2
        go_roundw
        case rel => exact ⟨k + 1, q, by omega, by go_num, HROW.out, by rw [keptL_false HIN.out]; exact HRS.out, by rw [← thenRow_false HIN.out]; exact HT.out, hb5, hs5⟩
        case measure => simp [intOf]; omega
    · have hlti : ¬ (k : Int) < (L.length : Int) := by omega
      have hkl : k = L.length := by omega
      subst hkl
      have HT := hideP hT
      have HRS := hideP hrs
      have HROW := hideP hrow
      have hUr := HU.out.below B5
      clear hT hrs hrow
      go_wp2_with (at_make; refine wpList_make_full _ rfl _ _ 27 rfl w5.heap.size 3 i0 (.int .i64 0) 1 Tryz.underlying27 hi hz0 hz1 _ _ _ _ refs.length rfl rfl rfl rfl (by rw [hz2]; omega) (by unfold maxLen; omega) (Nat.le_refl _) ?_; intro w6 hown6 hg6)
      rw [made_ints] at hown6
      have hO6 := row_full hown6 (by simp)
      have b56 : Below w5.heap.size w5 w6 := (Below.refl _ w5).grown hg6 (Nat.le_refl _) (fun k hk => by cases hk)
      have lO6 := heap_lt hO6
      have HO6 := hideP hO6
      have HUr := hideP hUr
      clear hown6 hg6 hO6 hUr
      go_loopw [14, 15, 56] (fun _ _ i wr => ∃ j : Nat, j ≤ refs.length ∧ i = .int .i64 j ∧ wr.heap[w5.heap.size]? = some (.cells (((refs.take j).map (thenOf refs) ++ List.replicate (refs.length - j) (0 : Int)).map (Value.int .i64)).toArray 3 (0, 0)) ∧ Below w5.heap.size w5 wr) (fun _ _ i _ => refs.length - (intOf i).toNat)
      case atStart => exact ⟨0, Nat.zero_le _, rfl, by simpa using HO6.out, b56⟩
      case round =>
        rename World => w7
        obtain ⟨j, hj1, rfl, hO7, hb7⟩ := hrel
        have B7 := B5.trans (hb7.mono B5.size)
        by_cases hlj : j < refs.length
        · have hlji : (j : Int) < (refs.length : Int) := by omega
          obtain ⟨r, hr⟩ := at_of_lt hlj
          obtain ⟨hr0, hr1⟩ := HRK.out j r hr
          obtain ⟨m, rfl⟩ : ∃ m : Nat, r = m := ⟨r.toNat, by omega⟩
          obtain ⟨p7, q7, he7, _, hc7⟩ := HUr.out.below hb7
          cases he7
          obtain ⟨g, off, hp, hg, g0⟩ := hc7 j _ hr
          subst hp
          have hT7 := (hb7.block _ lT5).trans HT.out
          have cT : w7.cell? ⟨w3.heap.size, m, none⟩ = some (.int .i64 (thenOf refs m)) := by
            rw [cell_at' hT7]
            have := thenRow_at (n := L.length) (by omega) (List.mem_of_getElem? hr)
            simp [this]
          obtain ⟨yO, -, cO⟩ := row_cell_ex (k := j) (by simp; omega) hO7
          have zO := Lib.frozen_of_heap hO7 j
          have hmi : (m : Int) < (L.length : Int) + 1 := by omega
          have HO7 := hideP hO7
          have HR := hideP hr
          clear hc7 hr hT7 hO7
          have HTO := hideP (rfl : thenOf refs m = thenOf refs m)
          obtain ⟨t, ht⟩ : ∃ t, thenOf refs m = t := ⟨_, rfl⟩
          rw [ht] at cT
          have HTT := hideP ht
          clear HTO ht
          go_wp2
          go_roundw
          case rel =>
            have hs := heap_setCell_same w7 w5.heap.size j _ _ (.int .i64 t) HO7.out
            rw [set_ints] at hs
            have hlen : ((refs.take j).map (thenOf refs)).length = j := by simp; omega
            have hset := set_mid ((refs.take j).map (thenOf refs)) refs.length (0 : Int) t (by rw [hlen]; exact hlj)
            rw [List.length_append, List.length_singleton, hlen] at hset
            rw [hset] at hs
            refine ⟨j + 1, by omega, by go_num, ?_, hb7.setCell (Nat.le_refl _) _⟩
            have e1 : (refs.take (j + 1)).map (thenOf refs) = (refs.take j).map (thenOf refs) ++ [t] := by rw [take_snoc refs j _ HR.out, List.map_append, ← HTT.out]; rfl
            rw [e1]
            exact hs
          case measure => simp [intOf]; omega
        · have hlji : ¬ (j : Int) < (refs.length : Int) := by omega
          have hje : j = refs.length := by omega
          subst hje
          have HO7 := hideP hO7
          clear hO7
          go_wp2
          go_ret3
          have hO := HO7.out
          rw [List.take_of_length_le (Nat.le_refl _), Nat.sub_self, List.replicate_zero, List.append_nil] at hO
          refine ⟨_, _, rfl, ?_, ?_, B7⟩
          · have h1 : BlksOwn w5 w4.heap.size (.slice p8 q.length c8) (keptL L refs L.length) := ⟨q, HROW.out, HRS.out⟩
            exact (h1.below hb7).low (by have := B4.size; omega)
          · exact ⟨by simp, .inr ⟨w5.heap.size, refs.length, _, rfl, by have := B5.size; omega, hO, Nat.le_refl _, by unfold maxLen; omega, by simp, by simp [List.take_of_length_le]⟩⟩
set_option maxRecDepth 100000 in
set_option maxHeartbeats 1000000 in
theorem bKeep_any (L : List (List Int)) (refs : List Int) (v u : Value) (w : World) (h : BlksAt w v L) (hu : IntsAt w u refs) (hrl : refs.length ≤ 17592186044416) : Calls Tryz.prog 78 #[v, u] w fun e w' => ∃ x y, e = .returned (.tuple #[x, y, .int .i64 (keepErr L refs)]) ∧ BlksOwn w' w.heap.size x (keptR L refs) ∧ w'.ownsRow w.heap.size 3 1 y (thenR L refs).length ((thenR L refs).map (Value.int .i64)) ∧ Below w.heap.size w w' := by
  by_cases he : keepErr L refs = 0
  · rw [he, keptR, if_pos he, thenR, if_pos he, List.length_map]
    exact bKeep_ok L refs v u w h hu hrl he
  · rw [keptR, if_neg he, thenR, if_neg he]
    obtain ⟨p, cap, hv, -, -⟩ := id h
    obtain ⟨pu, capu, huv, -, -⟩ := id hu
    subst hv huv
    obtain ⟨W1, hW1⟩ : ∃ W1, w.alloc (.cells #[.slice p L.length cap] 26) = W1 := ⟨_, rfl⟩
    have hb1 : Below w.heap.size w W1 := by rw [← hW1]; exact (Below.refl _ w).alloc (Nat.le_refl _) _
    have x1 : W1.heap[w.heap.size]? = some (.cells #[.slice p L.length cap] 26 (0, 0)) := by rw [← hW1]; exact World.alloc_heap_new w _
    have c1 := cell_at' x1 0
    simp at c1
    have lx := heap_lt x1
    have HCK := hideP (bCheck_any L _ W1 (h.below hb1))
    by_cases hb : blkErr L = 0
    · have hall : refs.all (refOk L.length) = false := by
        cases hc : refs.all (refOk L.length)
        · rfl
        · exfalso; apply he; unfold keepErr; rw [if_neg (by simpa using hb), if_pos hc]
      have hk : keepErr L refs = 3 := by unfold keepErr; rw [if_neg (by simpa using hb), hall]; rfl
      rw [hk]
      rw [hb] at HCK
      have HU := hideP hu
      clear h hu he hb hk x1
      go_enter Tryz.func78, Tryz.ntmps78
      go_wp2_with fail
      refine HCK.out.mono ?_
      rintro e w2 ⟨rfl, hb2⟩
      have B2 := hb1.trans (hb2.mono hb1.size)
      have c2 := (hb2.cell (p := ⟨w.heap.size, 0, none⟩) lx).trans c1
      have lx2 := Nat.lt_of_lt_of_le lx hb2.size
      go_wp2_with fail
      refine (containsNoRef_any L refs _ p cap w.heap.size w2 (HU.out.below B2) ⟨lx2, c2⟩).mono ?_
      rw [hall]
      rintro e w3 ⟨rfl, hb3⟩
      clear hall
      go_wp2
      go_ret3
      exact ⟨_, _, rfl, blksOwn_nil _ _, World.ownsRow_nil _ _ _ _, B2.trans (hb3.mono B2.size)⟩
    · have hk : keepErr L refs = blkErr L := by unfold keepErr; rw [if_pos hb]
      have he' : (blkErr L != 0) = true := by simp [hb]
      rw [hk]
      clear h hu he hb hk x1
      go_enter Tryz.func78, Tryz.ntmps78
      go_wp2_with fail
      refine HCK.out.mono ?_
      rintro e w2 ⟨rfl, hb2⟩
      go_wp2
      go_ret3
      exact ⟨_, _, rfl, blksOwn_nil _ _, World.ownsRow_nil _ _ _ _, hb1.trans (hb2.mono hb1.size)⟩
end Go.Proofs.YtcadpoknolefpaaGreat
