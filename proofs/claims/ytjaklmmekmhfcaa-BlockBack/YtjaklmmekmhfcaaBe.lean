/- block.New. -/
import Derived.Test.YtjaklmmekmhfcaaBd
import Derived.Test.YtjaklmmekmhfcaaVh
namespace Go.Proofs.Ytjaklmmekmhfcaa
open Go.RowKit
set_option linter.unusedSimpArgs false
set_option linter.unusedVariables false
theorem cell_one_at {w : World} {b : Nat} {x : Value} (h : w.cell? ⟨b, 0, none⟩ = some x) : ∀ (j : Nat) (u : Value), [x][j]? = some u → w.cell? ((⟨b, 0, none⟩ : Addr).add j) = some u := by
  intro j u hj
  match j, hj with
  | 0, hj => simp at hj; subst hj; exact h
  | j + 1, hj => simp at hj
theorem new_end {w2 w3 w4 : World} {B Bc Br m n nn : Nat} {q q' : List Value} {L : List (List Int)} {u : Value} (hrs : BRows w2 Bc q L) (hBc : B ≤ Bc) (h23 : Below w2.heap.size w2 w3) (hm : w3.heap[m]? = some (.cells ((List.replicate n (0 : Int)).map (Value.int .i64)).toArray 3 (0, 0))) (hBm : B ≤ m) (hap : m < Bc ∨ w2.heap.size ≤ m)
    (hrow : w2.ownsRow Br 26 1 u nn q') (hg : w3.grownBy w4 u.ownBlock) (hn : n ≤ 40) : BRows w4 B (q ++ [.slice (some ⟨m, 0, none⟩) n n]) (L ++ [List.replicate n 0]) := by
  have hty : ∀ (g : Nat) (cs : Array Value), w3.heap[g]? = some (.cells cs 3 (0, 0)) → some g ≠ u.ownBlock := fun g cs hg1 e => by
    have hgl := (hrow.lt g e.symm).2
    have hg2 := (h23.block g hgl).symm.trans hg1
    exact row_not hrow hg2 (by decide) e
  have h3 := hrs.below h23
  have h4 : BRows w4 Bc q L := h3.same fun k x g h1 hg1 => by
    obtain ⟨_, h5, cs, h6⟩ := h3.lt h1 hg1
    exact hg.block g h5 (hty g cs h6)
  have hm4 : w4.heap[m]? = _ := (hg.block m (heap_lt hm) (hty m _ hm)).trans hm
  refine (h4.low hBc).snoc' ?_ (fun k y g h1 hg1 e => ?_) (by simp; omega)
  · refine ⟨by simp, .inr ⟨m, n, _, by simp, hBm, hm4, by simp, by unfold maxLen; omega, by simp, by simp⟩⟩
  · have e' : m = g := by simpa [Value.ownBlock] using e
    obtain ⟨h5, h6, _⟩ := hrs.lt h1 hg1
    omega
set_option maxRecDepth 100000 in
set_option maxHeartbeats 4000000 in
theorem bNew_ok (L : List (List Int)) (n : Nat) (v : Value) (w : World) (h : BlksAt w v L) (he : newErr L n = 0) : Calls Try.prog 9 #[v, .int .i64 n] w fun e w' => ∃ u, e = .returned (.tuple #[u, .int .i64 ((L.length : Int) + 1), .int .i64 0]) ∧ BlksOwn w' w.heap.size u (L ++ [List.replicate n 0]) ∧ Below w.heap.size w w' := by
  obtain ⟨i0, hi, hz0, hz1, hz2⟩ := info_parts infoInt
  obtain ⟨i1, hj, hy0, hy1, hy2⟩ := info_parts infoInts
  have hbe : blkErr L = 0 := by
    unfold newErr at he
    by_cases hb : blkErr L = 0
    · exact hb
    · rw [if_pos hb] at he; exact absurd he hb
  obtain ⟨h8, h40, _⟩ := blkErr_zero hbe
  have hsm : ∀ b ∈ L, b.length ≤ 40 := fun b hb => by
    obtain ⟨i, hi⟩ := List.getElem?_of_mem hb
    have := cellsN_mem hi
    omega
  unfold newErr at he
  rw [if_neg (by simpa using hbe), if_neg (by omega)] at he
  have hsp : L.length ≠ 8 ∧ (n : Int) ≤ 40 - (cellsN L : Int) := by
    by_cases hc : L.length = 8 ∨ 40 - (cellsN L : Int) < (n : Int)
    · rw [if_pos hc] at he; cases he
    · omega
  have hCK := bCheck_any L v w h
  rw [hbe] at hCK
  have HCK := hideP hCK
  obtain ⟨p, cap, hv, _, _⟩ := id h
  subst hv
  have hl8 : ((L.length : Int) == 8) = false := by simp; omega
  have hn0 : ¬ (n : Int) < 0 := by omega
  have hng : ¬ (40 - (cellsN L : Int) < (n : Int)) := by omega
  have hn40 : n ≤ 40 := by omega
  obtain ⟨AZ, hAZ⟩ : ∃ AZ, ((List.replicate n (0 : Int)).map (Value.int .i64)).toArray = AZ := ⟨_, rfl⟩
  have mS := make_is 26 3 i0 (.int .i64 0) Try.underlying26 hi hz0 hz1 n (by rw [hz2]; omega) (by unfold maxLen; omega) AZ (by rw [made_ints, ← hAZ])
  have H := hideP h
  have HSM := hideP hsm
  have HAZ := hideP hAZ
  clear hCK h he hbe hsm hAZ hi hz0 hz1 hz2
  go_enter Try.func9, Try.ntmps9
  go_wp2_with (first | (go_at_call 8; refine HCK.out.mono ?_; rintro e w1 ⟨rfl, hb1⟩) | (go_at_call 23; refine (cells_any L _ _ (H.out.below hb1) h8).mono ?_; rintro e w' ⟨rfl, hw⟩; have hw := hw.symm; subst hw))
  have hFB : ∀ W, Below w1.heap.size w1 W → Calls Try.prog 29 #[.slice p L.length cap] W fun e w' => ∃ q pu cu, e = .returned (.slice pu q.length cu) ∧ q.length = L.length ∧ w'.ownsRow W.heap.size 26 1 (.slice pu q.length cu) q.length q ∧ BRows w' W.heap.size q L ∧ Below W.heap.size W w' := fun W hW => by
    refine (freshBlocks_any L _ W ((H.out.below hb1).below hW) h8 HSM.out).mono ?_
    rintro e w' ⟨u, rfl, ⟨q, h1, h2⟩, h3⟩
    obtain ⟨pu, cu, rfl⟩ := row_shp h1
    exact ⟨q, pu, cu, rfl, h2.len, h1, h2, h3⟩
  have HFB := hideP hFB
  clear hFB HCK
  have hs1 := hb1.size
  go_region_law
    (first
      | (refine step_append_row rfl _ _ 22 rfl w.heap.size 26 i1 (.slice none 0 0) 1 24 Try.underlying22 hj hy0 hy1 hy2 rfl (by decide) _ _ _ rfl (row_low ((HROW.out.alloc _).alloc _) (by simp; omega)) ⟨w2.heap.size + 1, 0, none⟩ 1 1 [.slice (some ⟨w2.heap.size, 0, none⟩) n n] rfl rfl (cell_one_at (by rw [cell_at' (new_two w2 (.cells AZ 3) (.cells #[.slice (some ⟨w2.heap.size, 0, none⟩) n n] 26)) 0]; rfl)) (by simp [Value.oneCell']) (by unfold maxLen; omega) (by omega) (by simp; omega) ?_; intro v' w4 hown4 hg4; obtain ⟨g4, cap4, hv4⟩ := ownsRow_succ hown4; subst hv4)
      | (refine step_append_row rfl _ _ 22 rfl w.heap.size 26 i1 (.slice none 0 0) 1 24 Try.underlying22 hj hy0 hy1 hy2 rfl (by decide) _ _ _ rfl (row_low (HROW.out.alloc _) (by simp; omega)) ⟨w2.heap.size, 0, none⟩ 1 1 [.slice (some ⟨w1.heap.size, 0, none⟩) n n] rfl rfl (cell_one_at (by rw [cell_at' (World.alloc_heap_new w2 (.cells #[.slice (some ⟨w1.heap.size, 0, none⟩) n n] 26)) 0]; rfl)) (by simp [Value.oneCell']) (by unfold maxLen; omega) (by omega) (by simp; omega) ?_; intro v' w4 hown4 hg4; obtain ⟨g4, cap4, hv4⟩ := ownsRow_succ hown4; subst hv4)
      | (refine step_append_row rfl _ _ 22 rfl w.heap.size 26 i1 (.slice none 0 0) 1 24 Try.underlying22 hj hy0 hy1 hy2 rfl (by decide) _ _ _ rfl (row_low HROW.out (by simp; omega)) ⟨w1.heap.size + 1, 0, none⟩ 1 1 [.slice (some ⟨w1.heap.size, 0, none⟩) n n] rfl rfl (cell_one_at ((hb2.cell (p := ⟨w1.heap.size + 1, 0, none⟩) (by simp)).trans (by exact cell_at' (k := w1.heap.size + 1) (new_two w1 (.cells AZ 3) (.cells #[.slice (some ⟨w1.heap.size, 0, none⟩) n n] 26)) 0))) (by simp [Value.oneCell']) (by unfold maxLen; omega) (by omega) (by omega) ?_; intro v' w4 hown4 hg4; obtain ⟨g4, cap4, hv4⟩ := ownsRow_succ hown4; subst hv4)
      | (go_simp; go_at_call 29; refine (HFB.out _ (by first | exact (Below.refl _ w1).drew | exact ((Below.refl _ w1).drew).alloc (by simp) _ | exact (((Below.refl _ w1).drew).alloc (by simp) _).alloc (by simp) _)).mono ?_; rintro e w2 ⟨q, pu, cu, rfl, hql, hrow, hrs, hb2⟩; have HROW := hideP hrow; have HRS := hideP hrs; have HQL := hideP hql; have hq7 : q.length ≤ 7 := (by omega); have hs2 := hb2.size; simp at hs2; clear hrow hrs hql))
  · go_wp2
    go_ret3
    have hA : ((w2.alloc (.cells AZ 3)).alloc (.cells #[.slice (some ⟨w2.heap.size, 0, none⟩) n n] 26)).heap[w2.heap.size]? = some (.cells ((List.replicate n (0 : Int)).map (Value.int .i64)).toArray 3 (0, 0)) := by rw [HAZ.out]; exact heap_old (World.alloc_heap_new w2 _) _
    have h23 : Below w2.heap.size w2 ((w2.alloc (.cells AZ 3)).alloc (.cells #[.slice (some ⟨w2.heap.size, 0, none⟩) n n] 26)) := ((Below.refl _ w2).alloc (Nat.le_refl _) _).alloc (by simp) _
    have hend := new_end (B := w.heap.size) HRS.out hs1 h23 hA (by omega) (.inr (Nat.le_refl _)) HROW.out hg4 hn40
    refine ⟨_, by rw [← HQL.out]; rfl, ⟨_, by rw [List.length_append, List.length_singleton]; exact hown4, hend⟩, ?_⟩
    exact ((bthen0 hb1 (((Below.refl _ w1).drew).trans (show Below w1.heap.size w1.drew w2 from hb2))).trans (h23.mono (by omega))).grown hg4 (by simp; omega) (fun k hk => by have := (HROW.out.lt k hk).1; simp at this; omega)
  · go_wp2
    go_ret3
    have hx : w2.heap[w1.heap.size]? = some (.cells AZ 3 (0, 0)) := (hb2.block _ (by simp)).trans (World.alloc_heap_new w1 (.cells AZ 3))
    have hA : (w2.alloc (.cells #[.slice (some ⟨w1.heap.size, 0, none⟩) n n] 26)).heap[w1.heap.size]? = some (.cells ((List.replicate n (0 : Int)).map (Value.int .i64)).toArray 3 (0, 0)) := by rw [HAZ.out]; exact heap_old hx _
    have h23 : Below w2.heap.size w2 (w2.alloc (.cells #[.slice (some ⟨w1.heap.size, 0, none⟩) n n] 26)) := (Below.refl _ w2).alloc (Nat.le_refl _) _
    have hend := new_end (B := w.heap.size) HRS.out (by simp; omega) h23 hA (by omega) (.inl (by simp)) HROW.out hg4 hn40
    refine ⟨_, by rw [← HQL.out]; rfl, ⟨_, by rw [List.length_append, List.length_singleton]; exact hown4, hend⟩, ?_⟩
    have hb12 : Below w1.heap.size w1 w2 := (((Below.refl _ w1).alloc (Nat.le_refl _) _).drew).trans (hb2.mono (by simp))
    exact ((bthen0 hb1 hb12).trans (h23.mono (by omega))).grown hg4 (by simp; omega) (fun k hk => by have := (HROW.out.lt k hk).1; simp at this; omega)
  · go_wp2
    go_ret3
    have hx : w2.heap[w1.heap.size]? = some (.cells AZ 3 (0, 0)) := (hb2.block _ (by simp; omega)).trans (heap_old (World.alloc_heap_new w1 (.cells AZ 3)) _)
    have hA : w2.heap[w1.heap.size]? = some (.cells ((List.replicate n (0 : Int)).map (Value.int .i64)).toArray 3 (0, 0)) := by rw [HAZ.out]; exact hx
    have hend := new_end (B := w.heap.size) HRS.out (by simp; omega) (Below.refl _ w2) hA (by omega) (.inl (by simp; omega)) HROW.out hg4 hn40
    refine ⟨_, by rw [← HQL.out]; rfl, ⟨_, by rw [List.length_append, List.length_singleton]; exact hown4, hend⟩, ?_⟩
    have hb12 : Below w1.heap.size w1 w2 := ((((Below.refl _ w1).alloc (Nat.le_refl _) _).alloc (by simp) _).drew).trans (hb2.mono (by simp; omega))
    exact (bthen0 hb1 hb12).grown hg4 (by omega) (fun k hk => by have := (HROW.out.lt k hk).1; simp at this; omega)
theorem newErr_ge {L : List (List Int)} {size : Int} (h : newErr L size = 0) : 0 ≤ size := by
  unfold newErr at h
  by_cases hb : blkErr L = 0
  · rw [if_neg (by simpa using hb)] at h
    by_cases h0 : size < 0
    · rw [if_pos h0] at h; cases h
    · omega
  · rw [if_pos hb] at h; exact absurd h hb
set_option maxRecDepth 100000 in
set_option maxHeartbeats 1000000 in
theorem bNew_any (L : List (List Int)) (size : Int) (hsz : -9223372036854775808 ≤ size ∧ size ≤ 9223372036854775807) (v : Value) (w : World) (h : BlksAt w v L) : Calls Try.prog 9 #[v, .int .i64 size] w fun e w' => ∃ u, e = .returned (.tuple #[u, .int .i64 (newRef L size), .int .i64 (newErr L size)]) ∧ BlksOwn w' w.heap.size u (newR L size) ∧ Below w.heap.size w w' := by
  by_cases he : newErr L size = 0
  · obtain ⟨n, rfl⟩ : ∃ n : Nat, size = n := ⟨size.toNat, by have := newErr_ge he; omega⟩
    rw [he, newRef, if_pos he, newR, if_pos he, newL, Int.toNat_natCast]
    exact bNew_ok L n v w h he
  · rw [newRef, if_neg he, newR, if_neg he]
    have HCK := hideP (bCheck_any L v w h)
    obtain ⟨p, cap, hv, hm, _⟩ := id h
    unfold maxLen at hm
    subst hv
    by_cases hb : blkErr L = 0
    · rw [hb] at HCK
      obtain ⟨h8, h40, _⟩ := blkErr_zero hb
      have hne : newErr L size = if size < 0 then 3 else if L.length = 8 ∨ 40 - (cellsN L : Int) < size then 7 else 0 := by unfold newErr; rw [if_neg (by simpa using hb)]
      have H := hideP h
      clear h hb
      by_cases h0 : size < 0
      · rw [hne, if_pos h0]
        clear hne he
        go_enter Try.func9, Try.ntmps9
        go_wp2_with (go_at_call 8; refine HCK.out.mono ?_; rintro e w1 ⟨rfl, hb1⟩)
        go_ret3
        exact ⟨_, rfl, blksOwn_nil _ _, hb1⟩
      · have hc : L.length = 8 ∨ 40 - (cellsN L : Int) < size := by
          by_cases hc : L.length = 8 ∨ 40 - (cellsN L : Int) < size
          · exact hc
          · exfalso; apply he; rw [hne, if_neg h0, if_neg hc]
        rw [hne, if_neg h0, if_pos hc]
        clear hne he
        by_cases hl : L.length = 8
        · have hl8 : ((L.length : Int) == 8) = true := by simp; omega
          clear hl hc
          go_enter Try.func9, Try.ntmps9
          go_wp2_with (go_at_call 8; refine HCK.out.mono ?_; rintro e w1 ⟨rfl, hb1⟩)
          go_ret3
          exact ⟨_, rfl, blksOwn_nil _ _, hb1⟩
        · have hl8 : ((L.length : Int) == 8) = false := by simp; omega
          have hgt : 40 - (cellsN L : Int) < size := by omega
          clear hl hc
          go_enter Try.func9, Try.ntmps9
          go_wp2_with (first | (go_at_call 8; refine HCK.out.mono ?_; rintro e w1 ⟨rfl, hb1⟩) | (go_at_call 23; refine (cells_any L _ _ (H.out.below hb1) h8).mono ?_; rintro e w' ⟨rfl, hw⟩; have hw := hw.symm; subst hw))
          go_ret3
          exact ⟨_, rfl, blksOwn_nil _ _, hb1⟩
    · have hne : newErr L size = blkErr L := by unfold newErr; rw [if_pos hb]
      have he' : (blkErr L != 0) = true := by simp [hb]
      rw [hne]
      clear hne he hb h
      go_enter Try.func9, Try.ntmps9
      go_wp2_with (go_at_call 8; refine HCK.out.mono ?_; rintro e w1 ⟨rfl, hb1⟩)
      go_ret3
      exact ⟨_, rfl, blksOwn_nil _ _, hb1⟩
end Go.Proofs.Ytjaklmmekmhfcaa

