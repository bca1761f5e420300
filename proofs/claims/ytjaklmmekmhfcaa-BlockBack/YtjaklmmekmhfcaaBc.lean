/- fresh.Blocks; block.find, Get, Set. -/
import Derived.Test.YtjaklmmekmhfcaaBb
import Derived.Test.YtjaklmmekmhfcaaJm
namespace Go.Proofs.Ytjaklmmekmhfcaa
open Go.RowKit
set_option linter.unusedSimpArgs false
set_option linter.unusedVariables false
theorem set_list (q : List Value) (k : Nat) (x : Value) : q.toArray.setIfInBounds k x = (q.set k x).toArray := by
  apply Array.ext'
  simp
theorem set_mid {α : Type} (q : List α) (n : Nat) (z x : α) (hk : q.length < n) : (q ++ List.replicate (n - q.length) z).set q.length x = (q ++ [x]) ++ List.replicate (n - (q ++ [x]).length) z := by
  obtain ⟨m, hm⟩ : ∃ m, n - q.length = m + 1 := ⟨n - q.length - 1, by omega⟩
  have h2 : n - (q ++ [x]).length = m := by simp; omega
  rw [hm, h2, List.set_append_right _ _ (Nat.le_refl _), Nat.sub_self, List.replicate_succ, List.set_cons_zero, List.append_assoc]
  rfl
set_option maxRecDepth 100000 in
set_option maxHeartbeats 2000000 in
theorem freshBlocks_any (L : List (List Int)) (v : Value) (w : World) (h : BlksAt w v L) (h8 : L.length ≤ 8) (h40 : ∀ b ∈ L, b.length ≤ 40) : Calls Try.prog 29 #[v] w fun e w' => ∃ u, e = .returned u ∧ BlksOwn w' w.heap.size u L ∧ Below w.heap.size w w' := by
  obtain ⟨i1, hj, hy0, hy1, hy2⟩ := info_parts infoInts
  obtain ⟨p, cap, hv, hm, hc⟩ := id h
  subst hv
  have H := hideP h
  have H40 := hideP h40
  clear h h40 hm hc
  go_enter Try.func29, Try.ntmps29
  go_wp2_with (at_make; refine wpList_make_full _ rfl _ _ 22 rfl w.heap.size 26 i1 (.slice none 0 0) 1 Try.underlying22 hj hy0 hy1 _ _ _ _ L.length rfl rfl rfl rfl (by rw [hy2]; omega) (by unfold maxLen; omega) (Nat.le_refl _) ?_; intro w1 hown1 hg1)
  rw [made_slices] at hown1
  have hR1 := row_full hown1 (by simp)
  have hB1 : Below w.heap.size w w1 := (Below.refl _ w).grown hg1 (Nat.le_refl _) (fun k hk => by cases hk)
  have hlt1 := heap_lt hR1
  clear hown1 hg1 hj hy0 hy1 hy2
  have HR1 := hideP hR1
  clear hR1
  go_loopw [4, 5, 11] (fun _ _ i wr => ∃ q : List Value, q.length ≤ L.length ∧ i = .int .i64 q.length ∧ wr.heap[w.heap.size]? = some (.cells (q ++ List.replicate (L.length - q.length) (Value.slice none 0 0)).toArray 26 (0, 0)) ∧ BRows wr w.heap.size q (L.take q.length) ∧ Below w.heap.size w wr) (fun _ _ i _ => L.length - (intOf i).toNat)
  case atStart => exact ⟨[], Nat.zero_le _, rfl, by simpa using HR1.out, bRows_nil _ _, hB1⟩
  case round =>
    rename World => w2
    obtain ⟨q, hq, rfl, hR2, hr2, hb2⟩ := hrel
    have HR2 := hideP hR2
    have HRW := hideP hr2
    have hlt2 := heap_lt hR2
    have hz : ∀ k, w2.frozen? ⟨w.heap.size, k, none⟩ = false := fun k => Lib.frozen_of_heap hR2 k
    clear hR2 hr2
    by_cases hlt : q.length < L.length
    · have hlti : (q.length : Int) < (L.length : Int) := by omega
      obtain ⟨b, hb⟩ := at_of_lt hlt
      have h2 := H.out.below hb2
      obtain ⟨p2, c2, he, _, hc⟩ := h2
      cases he
      obtain ⟨g, off, c, hp, hg, h0, h1, hn, _⟩ := hc _ b hb
      subst hp
      obtain ⟨p1, q1, hc1, _, _⟩ := id h1
      subst hc1
      have hbl := H40.out b (List.mem_of_getElem? hb)
      have HCL := hideP (cloneInt_any b _ w2 h1 hn (by omega))
      have HB := hideP hb
      clear hc hb h1 hn
      go_wp2_with fail
      refine HCL.out.mono ?_
      rintro e w3 ⟨u3, rfl, r3, hb3⟩
      obtain ⟨p3, c3, hu3⟩ := row_shp r3
      subst hu3
      have hR3 := (hb3.block _ hlt2).trans HR2.out
      have hz3 : ∀ k, w3.frozen? ⟨w.heap.size, k, none⟩ = false := fun k => Lib.frozen_of_heap hR3 k
      have hw3 : ∀ k, k < L.length → ∃ u, w3.cell? ⟨w.heap.size, k, none⟩ = some u := fun k hk => by
        rw [cell_at' hR3]
        have : k < (q ++ List.replicate (L.length - q.length) (Value.slice none 0 0)).length := by simp; omega
        obtain ⟨u, hu⟩ := at_of_lt this
        exact ⟨u, by simpa using hu⟩
      obtain ⟨u9, hu9⟩ := hw3 q.length hlt
      have hz9 := hz3 q.length
      have HR3 := hideP hR3
      have HR := hideP r3
      clear hR3 r3 hz3 hw3 hz
      go_wp2
      go_roundw
      case rel =>
        have hs := heap_setCell_same w3 w.heap.size q.length _ _ (.slice p3 b.length c3) HR3.out
        rw [set_list, set_mid q L.length _ _ hlt] at hs
        have hgs := set_grown w3 ⟨w.heap.size, q.length, none⟩ (.slice p3 b.length c3)
        have hb23 := hb2.trans (hb3.mono hb2.size)
        have hrow : (w3.setCell ⟨w.heap.size, q.length, none⟩ (.slice p3 b.length c3)).ownsRow w2.heap.size 3 1 (.slice p3 b.length c3) b.length (b.map (Value.int .i64)) := HR.out.kept hgs (.inr (row_not HR.out HR3.out (by decide)).symm)
        have hrows : BRows (w3.setCell ⟨w.heap.size, q.length, none⟩ (.slice p3 b.length c3)) w.heap.size q (L.take q.length) := (HRW.out.below hb3).same fun k x g h1 hg => by
          obtain ⟨_, hg2, cs, hg3⟩ := (HRW.out.below hb3).lt h1 hg
          exact hgs.block g hg2 (fun e => by cases e; rw [HR3.out] at hg3; simp at hg3)
        refine ⟨q ++ [.slice p3 b.length c3], by simp; omega, by rw [List.length_append, List.length_singleton]; go_num, hs, ?_, hb23.setCell (Nat.le_refl _) _⟩
        rw [List.length_append, List.length_singleton, take_snoc L q.length b HB.out]
        exact hrows.snoc hrow (by have := hb2.size; omega) (fun k y g h1 hg => (HRW.out.lt h1 hg).2.1) (by omega)
      case measure => simp [intOf]; omega
    · have hlti : ¬ (q.length : Int) < (L.length : Int) := by omega
      have hql : q.length = L.length := by omega
      have HQL := hideP hql
      clear hql
      go_wp2
      go_ret
      have hr := HRW.out
      have hh := HR2.out
      rw [HQL.out, Nat.sub_self] at hh
      rw [HQL.out, List.take_of_length_le (Nat.le_refl _)] at hr
      refine ⟨_, rfl, ⟨q, ?_, hr⟩, hb2⟩
      rw [HQL.out]
      exact ⟨by rw [HQL.out]; simp, .inr ⟨w.heap.size, L.length, _, rfl, Nat.le_refl _, hh, Nat.le_refl _, by unfold maxLen; omega, by simp [HQL.out], by simp; rw [← HQL.out]; simp⟩⟩
theorem get_at {α : Type} {l : List α} {k : Nat} {d o : α} (h : l[k]? = some o) : (l[k]?).getD d = o := by rw [h]; rfl
set_option maxRecDepth 100000 in
set_option maxHeartbeats 1000000 in
theorem find_any (L : List (List Int)) (ref at_ : Int) (hr : -9223372036854775808 ≤ ref ∧ ref ≤ 9223372036854775807) (v : Value) (w : World) (h : BlksAt w v L) : Calls Try.prog 34 #[v, .int .i64 ref, .int .i64 at_] w fun e w' => e = .returned (.int .i64 (placeErr L ref at_)) ∧ Below w.heap.size w w' := by
  obtain ⟨p, cap, hv, _, _⟩ := id h
  subst hv
  have HCK := hideP (bCheck_any L _ w h)
  by_cases he : blkErr L = 0
  · have hp : placeErr L ref at_ = if ref = 0 then 5 else if ref < 0 ∨ (L.length : Int) < ref ∨ at_ < 0 ∨ ((blkAt L ref).length : Int) ≤ at_ then 3 else 0 := by unfold placeErr; rw [if_neg (by simpa using he)]
    rw [he] at HCK
    obtain ⟨h8, _, _⟩ := blkErr_zero he
    rw [hp]
    clear he hp
    by_cases h0 : ref = 0
    · subst h0
      rw [if_pos rfl]
      clear h
      go_enter Try.func34, Try.ntmps34
      go_wp2_with (go_at_call 8; refine HCK.out.mono ?_; rintro e w1 ⟨rfl, hb1⟩)
      go_ret
      exact ⟨rfl, hb1⟩
    rw [if_neg h0]
    have h0' : (ref == 0) = false := by simp [h0]
    cases hro : refOk L.length ref
    · have hbad : ref < 0 ∨ (L.length : Int) < ref := by
        unfold refOk at hro
        simp at hro
        omega
      rw [if_pos (by omega)]
      clear hbad h h0
      go_enter Try.func34, Try.ntmps34
      go_wp2_with (first | (go_at_call 8; refine HCK.out.mono ?_; rintro e w1 ⟨rfl, hb1⟩) | (go_at_call 31; refine (bIsRef_any L ref _ _ _).mono ?_; rw [hro]; rintro e w2 ⟨rfl, hw⟩; have hw := hw.symm; subst hw))
      go_ret
      exact ⟨rfl, hb1⟩
    · have hgood : 0 ≤ ref ∧ ref ≤ (L.length : Int) := by
        unfold refOk at hro
        simpa using hro
      obtain ⟨j, hj⟩ : ∃ j : Nat, ref = (j : Int) + 1 := ⟨(ref - 1).toNat, by omega⟩
      have hjl : j < L.length := by omega
      obtain ⟨b, hb⟩ := at_of_lt hjl
      have hba := blkAt_some hb hj
      rw [hba]
      by_cases ha : at_ < 0
      · rw [if_pos (by omega)]
        clear h h0 hj hb hba
        have hd : decide (at_ < 0) = true := by simpa using ha
        go_enter Try.func34, Try.ntmps34
        go_wp2_with (first | (go_at_call 8; refine HCK.out.mono ?_; rintro e w1 ⟨rfl, hb1⟩) | (go_at_call 31; refine (bIsRef_any L ref _ _ _).mono ?_; rw [hro]; rintro e w2 ⟨rfl, hw⟩; have hw := hw.symm; subst hw))
        go_ret
        exact ⟨rfl, hb1⟩
      · have hd : decide (at_ < 0) = false := by simpa using ha
        have H := hideP h
        have HB := hideP hb
        subst hj
        clear h h0 hb hba
        have hw1 : wrap64 ((j : Int) + 1 - 1) = (j : Int) := by unfold wrap64; omega
        have hw2 : (j : Int) + 1 - 1 = (j : Int) := by omega
        have hji : (j : Int) < (L.length : Int) := by omega
        by_cases hge : ((b.length : Nat) : Int) ≤ at_
        all_goals
          first
            | rw [if_pos (by omega)]
            | rw [if_neg (by omega)]
          go_enter Try.func34, Try.ntmps34
          go_wp2_with fail
          refine HCK.out.mono ?_
          rintro e w1 ⟨rfl, hb1⟩
          obtain ⟨p2, c2, hee, _, hc⟩ := H.out.below hb1
          cases hee
          obtain ⟨g, off, c, hp, hg, g0, g1, _, _⟩ := hc j b HB.out
          subst hp
          obtain ⟨p3, c3, hc3, _, _⟩ := g1
          subst hc3
          clear hc
          go_wp2_with (go_at_call 31; refine (bIsRef_any L _ _ _ _).mono ?_; rw [hro]; rintro e w2 ⟨rfl, hw⟩; have hw := hw.symm; subst hw)
          go_ret
          exact ⟨rfl, hb1⟩
  · have hp : placeErr L ref at_ = blkErr L := by unfold placeErr; rw [if_pos he]
    have he' : (blkErr L != 0) = true := by simp [he]
    rw [hp]
    clear h hp he
    go_enter Try.func34, Try.ntmps34
    go_wp2_with (go_at_call 8; refine HCK.out.mono ?_; rintro e w1 ⟨rfl, hb1⟩)
    go_ret
    exact ⟨rfl, hb1⟩
end Go.Proofs.Ytjaklmmekmhfcaa

