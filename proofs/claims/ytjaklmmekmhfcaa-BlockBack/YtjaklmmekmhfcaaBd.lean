/- block.Get, Set, New. -/
import Derived.Test.YtjaklmmekmhfcaaBc
namespace Go.Proofs.Ytjaklmmekmhfcaa
open Go.RowKit
set_option linter.unusedSimpArgs false
set_option linter.unusedVariables false
theorem place_zero {L : List (List Int)} {ref at_ : Int} (h : placeErr L ref at_ = 0) : blkErr L = 0 ∧ ∃ (j k : Nat) (b : List Int) (z : Int), ref = (j : Int) + 1 ∧ at_ = (k : Int) ∧ L[j]? = some b ∧ b[k]? = some z := by
  unfold placeErr at h
  by_cases he : blkErr L = 0
  · rw [if_neg (by simpa using he)] at h
    by_cases h0 : ref = 0
    · rw [if_pos h0] at h; cases h
    rw [if_neg h0] at h
    by_cases h1 : ref < 0 ∨ (L.length : Int) < ref ∨ at_ < 0 ∨ ((blkAt L ref).length : Int) ≤ at_
    · rw [if_pos h1] at h; cases h
    obtain ⟨j, hj⟩ : ∃ j : Nat, ref = (j : Int) + 1 := ⟨(ref - 1).toNat, by omega⟩
    obtain ⟨k, hk⟩ : ∃ k : Nat, at_ = (k : Int) := ⟨at_.toNat, by omega⟩
    obtain ⟨b, hb⟩ := at_of_lt (l := L) (k := j) (by omega)
    have hba := blkAt_some hb hj
    rw [hba] at h1
    obtain ⟨z, hz⟩ := at_of_lt (l := b) (k := k) (by omega)
    exact ⟨he, j, k, b, z, hj, hk, hb, hz⟩
  · rw [if_pos he] at h; exact absurd h he
set_option maxRecDepth 100000 in
set_option maxHeartbeats 1000000 in
theorem bGet_any (L : List (List Int)) (ref at_ : Int) (hr : -9223372036854775808 ≤ ref ∧ ref ≤ 9223372036854775807) (v : Value) (w : World) (h : BlksAt w v L) : Calls Try.prog 13 #[v, .int .i64 ref, .int .i64 at_] w fun e w' => e = .returned (.tuple #[.int .i64 (getR L ref at_), .int .i64 (placeErr L ref at_)]) ∧ Below w.heap.size w w' := by
  obtain ⟨p, cap, hv, _, _⟩ := id h
  subst hv
  have HF := hideP (find_any L ref at_ hr _ w h)
  by_cases he : placeErr L ref at_ = 0
  · obtain ⟨_, j, k, b, z, hj, hk, hb, hz⟩ := place_zero he
    have hg : getR L ref at_ = z := by
      rw [getR, if_pos he, getL, blkAt_some hb hj, hk]
      simp [hz]
    rw [he] at HF
    rw [he, hg]
    have hjl := lt_of_at hb
    have hkl := lt_of_at hz
    have hm : (L.length : Int) ≤ 9223372036854775807 := by obtain ⟨_, _, _, hm, _⟩ := h; unfold maxLen at hm; omega
    have H := hideP h
    have HB := hideP hb
    have HZ := hideP hz
    subst hj hk
    clear h hb hz he hg
    have hw1 : wrap64 ((j : Int) + 1 - 1) = (j : Int) := by unfold wrap64; omega
    have hw2 : (j : Int) + 1 - 1 = (j : Int) := by omega
    have hji : (j : Int) < (L.length : Int) := by omega
    have hki : (k : Int) < (b.length : Int) := by omega
    go_enter Try.func13, Try.ntmps13
    go_wp2_with fail
    refine HF.out.mono ?_
    rintro e w1 ⟨rfl, hb1⟩
    obtain ⟨p2, c2, hee, _, hc⟩ := H.out.below hb1
    cases hee
    obtain ⟨g, off, c, hp, hg, g0, g1, _, _⟩ := hc j b HB.out
    subst hp
    obtain ⟨p3, c3, hc3, _, hc4⟩ := g1
    subst hc3
    obtain ⟨g', off', hp', _, g2⟩ := hc4 k z HZ.out
    subst hp'
    clear hc hc4
    go_wp2
    go_ret2
    exact ⟨rfl, hb1⟩
  · have he' : (placeErr L ref at_ != 0) = true := by simp [he]
    have hg : getR L ref at_ = 0 := by rw [getR, if_neg he]
    rw [hg]
    clear h hg he
    go_enter Try.func13, Try.ntmps13
    go_wp2_with (go_at_call 34; refine HF.out.mono ?_; rintro e w1 ⟨rfl, hb1⟩)
    go_ret2
    exact ⟨rfl, hb1⟩
/-- one number of one row is set. -/
theorem BRows.put {W : World} {B : Nat} {q : List Value} {L : List (List Int)} (h : BRows W B q L) {j k g : Nat} {b : List Int} {n cap : Nat} (hq : q[j]? = some (.slice (some ⟨g, 0, none⟩) n cap)) (hb : L[j]? = some b) (hk : k < b.length) (z : Int) : BRows (W.setCell ⟨g, k, none⟩ (.int .i64 z)) B q (L.set j (b.set k z)) := by
  have hgs := set_grown W ⟨g, k, none⟩ (.int .i64 z)
  refine ⟨by simp [h.len], fun i x c hx hc => ?_, h.apart, fun c hc => ?_⟩
  · by_cases e : j = i
    · subst e
      rw [hq] at hx; cases hx
      rw [List.getElem?_set_self (lt_of_at hb)] at hc
      cases hc
      have hr := h.each j _ b hq hb
      rcases hr.2 with ⟨h1, _⟩ | ⟨g', cap', cur, h1, h2, h3, h4, h5, h6, h7⟩
      · cases h1
      · cases h1
        have hs := heap_setCell_same W g k _ _ (.int .i64 z) h3
        refine ⟨by simp, .inr ⟨g, cap, _, by simp, h2, hs, by simpa using h4, h5, by simpa using h6, ?_⟩⟩
        have e1 : (cur.setIfInBounds k (Value.int .i64 z)).toList = cur.toList.set k (.int .i64 z) := by simp
        rw [e1, List.length_set, List.take_set, h7, List.map_set]
    · rw [List.getElem?_set_ne e] at hc
      refine (h.each i x c hx hc).kept hgs ?_
      cases ho : x.ownBlock with
      | none => exact .inl rfl
      | some y =>
        right
        intro e2
        simp at e2
        exact e (h.apart j i _ x g hq hx rfl (by rw [ho, e2]))
  · rcases List.mem_or_eq_of_mem_set hc with hc | rfl
    · exact h.small c hc
    · rw [List.length_set]; exact h.small b (List.mem_of_getElem? hb)
set_option maxRecDepth 100000 in
set_option maxHeartbeats 1000000 in
theorem bSet_any (L : List (List Int)) (ref at_ n : Int) (hr : -9223372036854775808 ≤ ref ∧ ref ≤ 9223372036854775807) (v : Value) (w : World) (h : BlksAt w v L) : Calls Try.prog 14 #[v, .int .i64 ref, .int .i64 at_, .int .i64 n] w fun e w' => ∃ u, e = .returned (.tuple #[u, .int .i64 (setErr L ref at_ n)]) ∧ BlksOwn w' w.heap.size u (setR L ref at_ n) ∧ Below w.heap.size w w' := by
  obtain ⟨p, cap, hv, _, _⟩ := id h
  subst hv
  have HF := hideP (find_any L ref at_ hr _ w h)
  by_cases he : placeErr L ref at_ = 0
  · rw [he] at HF
    have hse : setErr L ref at_ n = if isI32 n = true then 0 else 3 := by unfold setErr; rw [if_neg (by simpa using he)]
    cases hn : isI32 n
    · have hse2 : setErr L ref at_ n = 3 := by rw [hse, hn]; rfl
      have hsr : setR L ref at_ n = [] := by rw [setR, if_neg (by rw [hse2]; decide)]
      rw [hse2, hsr]
      clear h he hse hse2 hsr
      go_enter Try.func14, Try.ntmps14
      go_wp2_with (first | (go_at_call 34; refine HF.out.mono ?_; rintro e w1 ⟨rfl, hb1⟩) | (go_at_call 25; refine (bNumber_any n _).mono ?_; rw [hn]; rintro e w2 ⟨rfl, hw⟩; have hw := hw.symm; subst hw))
      go_ret2
      exact ⟨_, rfl, blksOwn_nil _ _, hb1⟩
    · have hse2 : setErr L ref at_ n = 0 := by rw [hse, hn]; rfl
      obtain ⟨hbe, j, k, b, z, hj, hk, hb, hz⟩ := place_zero he
      have hsr : setR L ref at_ n = L.set j (b.set k n) := by
        rw [setR, if_pos hse2, setL, blkAt_some hb hj, hk, hj, show ((j : Int) + 1 - 1).toNat = j by omega, Int.toNat_natCast]
      rw [hse2, hsr]
      obtain ⟨h8, h40, _⟩ := blkErr_zero hbe
      have hsm : ∀ b ∈ L, b.length ≤ 40 := fun b hb => by
        obtain ⟨i, hi⟩ := List.getElem?_of_mem hb
        have := cellsN_mem hi
        omega
      have hjl := lt_of_at hb
      have hkl := lt_of_at hz
      have H := hideP h
      have HB := hideP hb
      have HSM := hideP hsm
      subst hj hk
      clear h hb hz he hse hse2 hsr hbe hsm
      have hw1 : wrap64 ((j : Int) + 1 - 1) = (j : Int) := by unfold wrap64; omega
      have hw2 : (j : Int) + 1 - 1 = (j : Int) := by omega
      have hji : (j : Int) < (L.length : Int) := by omega
      have hki : (k : Int) < (b.length : Int) := by omega
      go_enter Try.func14, Try.ntmps14
      go_wp2_with (first | (go_at_call 34; refine HF.out.mono ?_; rintro e w1 ⟨rfl, hb1⟩) | (go_at_call 25; refine (bNumber_any n _).mono ?_; rw [hn]; rintro e w2 ⟨rfl, hw⟩; have hw := hw.symm; subst hw) | fail)
      refine (freshBlocks_any L _ _ (H.out.below hb1) h8 HSM.out).mono ?_
      rintro e w2 ⟨u, rfl, ⟨q, hrow, hrs⟩, hb2⟩
      obtain ⟨x, hx⟩ := at_of_lt (l := q) (k := j) (by rw [hrs.len]; exact hjl)
      have hbx := hrs.each j x b hx HB.out
      rcases hrow.2 with ⟨hu, h0⟩ | ⟨R, capR, cur, hu, hBR, hR, hn1, hn2, hn3, hn4⟩
      · have := hrs.len; omega
      rcases hbx.2 with ⟨hxv, h0⟩ | ⟨g, capg, curg, hxv, hBg, hg, hm1, hm2, hm3, hm4⟩
      · omega
      subst hu hxv
      have c0 : w2.cell? ⟨R, j, none⟩ = some (.slice (some ⟨g, 0, none⟩) b.length capg) := by
        have hq := hx
        rw [← hn4, List.getElem?_take_of_lt (by have := hrs.len; omega)] at hq
        rw [cell_at' hR]; simpa using hq
      have c1 : ∃ y, w2.cell? ⟨g, k, none⟩ = some y := by
        rw [cell_at' hg]
        obtain ⟨y, hy⟩ := at_of_lt (l := curg.toList) (k := k) (by simp; omega)
        exact ⟨y, by simpa using hy⟩
      obtain ⟨y, c1⟩ := c1
      have z1 := Lib.frozen_of_heap hg k
      have hqL := hrs.len
      have hRg : R ≠ g := fun e => by rw [e, hg] at hR; simp at hR
      have HRS := hideP hrs
      have HROW := hideP hrow
      have HX := hideP hx
      have hjq : (j : Int) < (q.length : Int) := by omega
      have HQL := hideP hqL
      clear hrs hrow hx hbx hR hg hn1 hn2 hn3 hn4 hm1 hm2 hm3 hm4 hqL
      go_wp2
      go_ret2
      refine ⟨.slice (some ⟨R, 0, none⟩) q.length capR, rfl, ⟨q, ?_, (HRS.out.put HX.out HB.out hkl n).low hb1.size⟩, (bthen0 hb1 hb2).setCell ?_ _⟩
      · exact row_same (row_low HROW.out hb1.size) fun r hr => by
          cases hr
          exact (set_grown w2 ⟨g, k, none⟩ (.int .i64 n)).block R (HROW.out.lt R rfl).2 (fun e => hRg (by simpa using e))
      · show w.heap.size ≤ g
        have := hb1.size
        omega
  · have he' : (placeErr L ref at_ != 0) = true := by simp [he]
    have hse : setErr L ref at_ n = placeErr L ref at_ := by unfold setErr; rw [if_pos he]
    have hg : setR L ref at_ n = [] := by rw [setR, if_neg (by rw [hse]; exact he)]
    rw [hse, hg]
    clear h hg he hse
    go_enter Try.func14, Try.ntmps14
    go_wp2_with (go_at_call 34; refine HF.out.mono ?_; rintro e w1 ⟨rfl, hb1⟩)
    go_ret2
    exact ⟨_, rfl, blksOwn_nil _ _, hb1⟩
end Go.Proofs.Ytjaklmmekmhfcaa

