/- flow.Reach: the closure that visits. -/
import Derived.Test.YtenaionchlnpoabFd
namespace Go.Proofs.Ytenaionchlnpoab
open Go.RowKit
set_option linter.unusedSimpArgs false
set_option linter.unusedVariables false
/-- how many are not marked. -/
def cf : List Bool → Nat
  | [] => 0
  | b :: r => (if b = true then 0 else 1) + cf r
theorem cf_set : ∀ (M : List Bool) (k : Nat), M[k]? = some false → cf (M.set k true) + 1 = cf M
  | [], k, h => by simp at h
  | b :: r, 0, h => by simp at h; subst h; simp [cf]; omega
  | b :: r, k + 1, h => by
    have := cf_set r k (by simpa using h)
    simp only [List.set_cons_succ, cf]
    omega
theorem cf_mono : ∀ (M M' : List Bool), M'.length = M.length → (∀ x, M.getD x false = true → M'.getD x false = true) → cf M' ≤ cf M
  | [], M', h, _ => by
    have : M' = [] := List.eq_nil_of_length_eq_zero (by simpa using h)
    subst this; simp [cf]
  | b :: r, [], h, _ => by simp at h
  | b :: r, c :: s, h, hx => by
    have := cf_mono r s (by simpa using h) (fun x hxx => by have := hx (x + 1) (by simpa using hxx); simpa using this)
    have h0 := hx 0
    simp at h0
    simp only [cf]
    cases b <;> cases c <;> simp_all <;> omega
theorem getD_set (M : List Bool) (k x : Nat) (hk : k < M.length) : (M.set k true).getD x false = if x = k then true else M.getD x false := by
  by_cases h : x = k
  · subst h; simp [List.getD_eq_getElem?_getD, hk]
  · rw [if_neg h, List.getD_eq_getElem?_getD, List.getD_eq_getElem?_getD, List.getElem?_set_ne (fun e => h e.symm)]
/-- what a visit at k makes of the marks. -/
structure Grew (l : List (Int × Int)) (M M' : List Bool) : Prop where
  len : M'.length = M.length
  more : ∀ x, M.getD x false = true → M'.getD x false = true
  come : ∀ x, M'.getD x false = true → M.getD x false = true ∨ Come l x
  shut : ∀ x y, M'.getD x false = true → M.getD x false = false → goesOn l x y = true → M'.getD y false = true
theorem Grew.refl (l : List (Int × Int)) (M : List Bool) : Grew l M M := ⟨rfl, fun _ h => h, fun _ h => .inl h, fun x y h1 h2 => by rw [h1] at h2; cases h2⟩
theorem Grew.trans {l : List (Int × Int)} {M M' M'' : List Bool} (h : Grew l M M') (k : Grew l M' M'') : Grew l M M'' := by
  refine ⟨k.len.trans h.len, fun x hx => k.more x (h.more x hx), fun x hx => ?_, fun x y h1 h2 h3 => ?_⟩
  · rcases k.come x hx with h1 | h1
    · exact h.come x h1
    · exact .inr h1
  · cases hm : M'.getD x false
    · exact k.shut x y h1 hm h3
    · exact k.more y (h.shut x y hm h2 h3)
/-- the boxes and the marks. -/
structure Vis (W0 w : World) (v : Value) (l : List (Int × Int)) (bR bC bV R : Nat) (M : List Bool) : Prop where
  bel : Below W0.heap.size W0 w
  hR : w.heap[R]? = some (.cells (M.map Value.bool).toArray 4 (0, 0))
  hbR : w.heap[bR]? = some (.cells #[.slice (some ⟨R, 0, none⟩) M.length M.length] 44 (0, 0))
  hbC : w.heap[bC]? = some (.cells #[v] 22 (0, 0))
  hbV : w.heap[bV]? = some (.cells #[.func (.func 23) #[] #[.pointer (some ⟨bR, 0, none⟩), .pointer (some ⟨bC, 0, none⟩), .pointer (some ⟨bV, 0, none⟩)]] 45 (0, 0))
theorem Vis.kept {W0 w w' : World} {v : Value} {l : List (Int × Int)} {bR bC bV R : Nat} {M : List Bool} (h : Vis W0 w v l bR bC bV R M) (hb : Below w.heap.size w w') : Vis W0 w' v l bR bC bV R M :=
  ⟨h.bel.trans (hb.mono h.bel.size), (hb.block _ (heap_lt h.hR)).trans h.hR, (hb.block _ (heap_lt h.hbR)).trans h.hbR, (hb.block _ (heap_lt h.hbC)).trans h.hbC, (hb.block _ (heap_lt h.hbV)).trans h.hbV⟩
theorem marks_cells {M : List Bool} {k : Nat} {b : Bool} (h : M[k]? = some b) : (M.map Value.bool).toArray[k]? = some (.bool b) := by
  simp [h]
theorem set_marks (M : List Bool) (k : Nat) : (M.map Value.bool).toArray.setIfInBounds k (.bool true) = ((M.set k true).map Value.bool).toArray := by
  apply Array.ext'
  simp
theorem Vis.mark {W0 w : World} {v : Value} {l : List (Int × Int)} {bR bC bV R : Nat} {M : List Bool} (h : Vis W0 w v l bR bC bV R M) (hR0 : W0.heap.size ≤ R) (k : Nat) : Vis W0 (w.setCell ⟨R, k, none⟩ (.bool true)) v l bR bC bV R (M.set k true) := by
  have n1 : bR ≠ R := fun e => by have := h.hbR; rw [e, h.hR] at this; simp at this
  have n2 : bC ≠ R := fun e => by have := h.hbC; rw [e, h.hR] at this; simp at this
  have n3 : bV ≠ R := fun e => by have := h.hbV; rw [e, h.hR] at this; simp at this
  refine ⟨h.bel.setCell hR0 _, ?_, ?_, ?_, ?_⟩
  · have := heap_setCell_same w R k _ _ (.bool true) h.hR
    rw [set_marks] at this
    exact this
  · rw [heap_setCell_other w _ _ _ (by simpa using n1), h.hbR]; simp
  · rw [heap_setCell_other w _ _ _ (by simpa using n2), h.hbC]
  · rw [heap_setCell_other w _ _ _ (by simpa using n3), h.hbV]
theorem set_grown (w : World) (a : Addr) (u : Value) : w.grownBy (w.setCell a u) (some a.block) :=
  ⟨rfl, rfl, rfl, by simp [World.setCell], fun k hk hne => Below.heap_setCell _ _ _ _ (fun e => hne (by rw [e]))⟩
theorem below_grown {w w' : World} (h : Below w.heap.size w w') (row : Option Nat) : w.grownBy w' row := ⟨h.os, h.tape, h.output, h.size, fun k hk _ => h.block k hk⟩
/-- what a visit answers. -/
def VisP (W0 : World) (v : Value) (l : List (Int × Int)) (bR bC bV R : Nat) (M : List Bool) (k : Nat) (w : World) (e : Ending) (w' : World) : Prop :=
  e = .returned (.tuple #[]) ∧ ∃ M', Vis W0 w' v l bR bC bV R M' ∧ w.grownBy w' (some R) ∧ Grew l M M' ∧ M'.getD k false = true
set_option maxHeartbeats 2000000 in
theorem visit_marked (W0 : World) (v : Value) (l : List (Int × Int)) (bR bC bV R : Nat) (M : List Bool) (k : Nat) (w : World) (h41 : M.length ≤ 41) (hM : M[k]? = some true) (hv : Vis W0 w v l bR bC bV R M) :
    Calls Try.prog 23 #[.int .i64 k, .pointer (some ⟨bR, 0, none⟩), .pointer (some ⟨bC, 0, none⟩), .pointer (some ⟨bV, 0, none⟩)] w (VisP W0 v l bR bC bV R M k w) := by
  have hk := lt_of_at hM
  have c1 := cell_at' hv.hbR 0
  have c2 : w.cell? ⟨R, k, none⟩ = some (.bool true) := (cell_at' hv.hR k).trans (marks_cells hM)
  simp at c1
  have hlti : (k : Int) < (M.length : Int) := by omega
  have HV := hideP hv
  have HM := hideP hM
  clear hv hM
  go_enter Try.func23, Try.ntmps23
  go_wp2
  refine bodyPost_ret (v := .tuple #[]) (by simp [results, Try.results23, go_sem]) rfl ?_
  exact ⟨rfl, M, HV.out, World.grownBy.refl _ _, Grew.refl _ _, by rw [List.getD_eq_getElem?_getD, HM.out]; rfl⟩
theorem grew_mark {l : List (Int × Int)} {M M' : List Bool} {k : Nat} (hk : M[k]? = some false) (hc : Come l k) (h : Grew l (M.set k true) M') (hs : ∀ y, goesOn l k y = true → M'.getD y false = true) : Grew l M M' ∧ M'.getD k false = true := by
  have hlt := lt_of_at hk
  have hg := fun x => getD_set M k x hlt
  have hkk : M'.getD k false = true := h.more k (by rw [hg, if_pos rfl])
  refine ⟨⟨h.len.trans (by simp), fun x hx => h.more x ?_, fun x hx => ?_, fun x y h1 h2 h3 => ?_⟩, hkk⟩
  · rw [hg]; split
    · rfl
    · exact hx
  · rcases h.come x hx with h1 | h1
    · rw [hg] at h1
      by_cases e : x = k
      · subst e; exact .inr hc
      · rw [if_neg e] at h1; exact .inl h1
    · exact .inr h1
  · by_cases e : x = k
    · subst e; exact hs y h3
    · exact h.shut x y h1 (by rw [hg, if_neg e]; exact h2) h3
set_option maxHeartbeats 8000000 in
theorem visit_any (W0 : World) (v : Value) (l : List (Int × Int)) (bR bC bV R : Nat) (hl : OpsAt W0 v l) (hf : flowErr l = 0) (hR0 : W0.heap.size ≤ R) (n : Nat) :
    ∀ (M : List Bool) (k : Nat) (w : World), cf M ≤ n → M.length = l.length + 1 → k < M.length → Come l k → Vis W0 w v l bR bC bV R M →
      Calls Try.prog 23 #[.int .i64 k, .pointer (some ⟨bR, 0, none⟩), .pointer (some ⟨bC, 0, none⟩), .pointer (some ⟨bV, 0, none⟩)] w (VisP W0 v l bR bC bV R M k w) := by
  have h40 := flowErr_40 hf
  induction n with
  | zero =>
    intro M k w hn hlen hk hcome hv
    have hM : M[k]? = some true := by
      obtain ⟨b, hb⟩ := at_of_lt hk
      cases b
      · have := cf_set M k hb; omega
      · exact hb
    exact visit_marked W0 v l bR bC bV R M k w (by omega) hM hv
  | succ n ih =>
    intro M k w hn hlen hk hcome hv
    obtain ⟨b, hM⟩ := at_of_lt hk
    cases b with
    | true => exact visit_marked W0 v l bR bC bV R M k w (by omega) hM hv
    | false =>
      have hcf := cf_set M k hM
      have c1 := cell_at' hv.hbR 0
      have c2 : w.cell? ⟨R, k, none⟩ = some (.bool false) := (cell_at' hv.hR k).trans (marks_cells hM)
      have z2 := Lib.frozen_of_heap hv.hR k
      have hv1 := hv.mark hR0 k
      obtain ⟨w1, hw1⟩ : ∃ w1, w.setCell ⟨R, k, none⟩ (.bool true) = w1 := ⟨_, rfl⟩
      rw [hw1] at hv1
      have hg1 : w.grownBy w1 (some R) := by rw [← hw1]; exact set_grown _ _ _
      have d1 := cell_at' hv1.hbC 0
      have hl1 := hl.below hv1.bel
      simp at c1 d1 z2
      have hlti : (k : Int) < (M.length : Int) := by omega
      have HV := hideP hv
      have HV1 := hideP hv1
      have HM := hideP hM
      have IH := hideP ih
      clear hv hv1 hM ih
      by_cases hlt : k < l.length
      · have hq : isAt l.length (k : Int) = true := by simp [isAt]; omega
        obtain ⟨⟨c, a⟩, ho⟩ := at_of_lt hlt
        have hl' := hl1
        obtain ⟨p, q, rfl, hm, hc⟩ := hl'
        obtain ⟨b, off, rfl, hbl, g0, g1⟩ := hc k _ ho
        simp only at g0 g1
        unfold maxLen at hm
        have hlti2 : (k : Int) < (l.length : Int) := by omega
        have hnx := nextI_eq hf ho
        obtain ⟨L, hL⟩ : ∃ L, nextI c a k = L := ⟨_, rfl⟩
        have hx1 : ∀ W : World, Calls Try.prog 22 #[.agg #[.int .i64 c, .int .i64 a], .int .i64 k] W fun e w' => ∃ v, e = .returned v ∧ w'.ownsRow W.heap.size 3 1 v L.length (L.map (Value.int .i64)) ∧ Below W.heap.size W w' := by
          intro W; rw [← hL]; exact flowNext1_any c a k W (by omega)
        rw [hL] at hnx
        have HX1 := hideP hx1
        have HO := hideP ho
        have HNX := hideP hnx
        clear hc ho hnx hx1 hL
        go_enter Try.func23, Try.ntmps23
        go_wp2_with (first
          | (go_at_call 21; refine (isPlace_any (k : Int) l _ _ hl1).mono ?_; rw [hq]; rintro e w2 ⟨rfl, hw2⟩; have hw2 := hw2.symm; subst hw2)
          | (go_at_call 22; refine (HX1.out _).mono ?_; rintro e w3 ⟨v3, rfl, hr3, hb3⟩; obtain ⟨p3, q3, rfl⟩ := row_shp hr3; have HR3 := hideP hr3; clear hr3))
        have hv3 := HV1.out.kept hb3
        have hLl : L.length ≤ 41 := by
          rw [HNX.out]
          have := List.length_filter_le (goesOn l k) (List.range (l.length + 1))
          simp [nextL] at *
          omega
        have hLz : ∀ z ∈ L, ∃ y : Nat, z = (y : Int) ∧ goesOn l k y = true := by
          intro z hz
          rw [HNX.out] at hz
          obtain ⟨y, h1, rfl⟩ := List.mem_map.1 hz
          exact ⟨y, rfl, (mem_nextL (flowErr_zero hf).2.2).1 h1⟩
        have hLy : ∀ y : Nat, goesOn l k y = true → (y : Int) ∈ L := by
          intro y hy
          rw [HNX.out]
          exact List.mem_map.2 ⟨y, (mem_nextL (flowErr_zero hf).2.2).2 hy, rfl⟩
        have HLZ := hideP hLz
        have HLY := hideP hLy
        have hRlt : R < w1.heap.size := heap_lt HV1.out.hR
        have hrne : Value.ownBlock (.slice p3 L.length q3) ≠ some R := fun e => by
          have := (HR3.out.lt R e).1
          omega
        clear hLz hLy
        go_loopw [6, 25] (fun _ i wr => ∃ (j : Nat) (Mj : List Bool), j ≤ L.length ∧ i = .int .i64 j ∧ Vis W0 wr (.slice (some ⟨b, off, none⟩) l.length q) l bR bC bV R Mj ∧ w3.grownBy wr (some R) ∧ Grew l (M.set k true) Mj ∧ ∀ i z, i < j → L[i]? = some z → Mj.getD z.toNat false = true) (fun _ i _ => L.length - (intOf i).toNat)
        case atStart => exact ⟨0, _, Nat.zero_le _, rfl, hv3, World.grownBy.refl _ _, Grew.refl _ _, fun i z hi => by omega⟩
        case round =>
          rename World => w4
          obtain ⟨j, Mj, hj, rfl, hv4, hg4, hgr, hin⟩ := hrel
          have HIN := hideP hin
          clear hin
          by_cases hjl : j < L.length
          · obtain ⟨z, hz⟩ := at_of_lt hjl
            have hI4 := intsAt_of_row rfl (HR3.out.kept hg4 (.inr hrne))
            obtain ⟨p5, cap5, he5, hm5, hc5⟩ := hI4
            obtain ⟨b5, o5, hp5, hb5, g5⟩ := hc5 j z hz
            cases he5
            subst hp5
            obtain ⟨y, rfl, hy⟩ := HLZ.out z (List.mem_of_getElem? hz)
            have hyl := goesOn_le (flowErr_zero hf).2.2 hy
            have e4 := cell_at' hv4.hbV 0
            simp at e4
            have hlti5 : (j : Int) < (L.length : Int) := by omega
            have hih := IH.out Mj y w4 (by have := cf_mono _ _ hgr.len hgr.more; omega) (by rw [hgr.len]; simpa using hlen) (by rw [hgr.len]; simp; omega) (Come.step hcome hy) hv4
            have HIH := hideP hih
            have HZ := hideP hz
            have HV4 := hideP hv4
            clear hih hc5 hz hv4
            go_wp2_with (go_at_call 23; refine HIH.out.mono ?_; rintro e w5 ⟨rfl, M5, hv5, hg5, hgr5, hk5⟩)
            go_roundw
            case rel =>
              refine ⟨j + 1, M5, by omega, by go_num, hv5, hg4.trans hg5, hgr.trans hgr5, fun i z hi hz => ?_⟩
              rcases Nat.lt_succ_iff_lt_or_eq.1 hi with h | rfl
              · exact hgr5.more _ (HIN.out i z h hz)
              · rw [HZ.out] at hz
                cases hz
                simpa using hk5
            case measure => simp [intOf]; omega
          · have hjl' : ¬ (j : Int) < (L.length : Int) := by omega
            have HV4 := hideP hv4
            clear hv4
            go_wp2
            refine bodyPost_ret (v := .tuple #[]) (by simp [results, Try.results23, go_sem]) rfl ?_
            have hall : ∀ y, goesOn l k y = true → Mj.getD y false = true := by
              intro y hy
              obtain ⟨i, hi⟩ := List.getElem?_of_mem (HLY.out y hy)
              have := HIN.out i _ (by have := lt_of_at hi; omega) hi
              simpa using this
            have := grew_mark HM.out hcome hgr hall
            exact ⟨rfl, Mj, HV4.out, (hg1.trans (below_grown hb3 _)).trans hg4, this.1, this.2⟩
      · have hq : isAt l.length (k : Int) = false := by simp [isAt]; omega
        go_enter Try.func23, Try.ntmps23
        go_wp2_with (go_at_call 21; refine (isPlace_any (k : Int) l _ _ hl1).mono ?_; rw [hq]; rintro e w2 ⟨rfl, hw2⟩; have hw2 := hw2.symm; subst hw2)
        refine bodyPost_ret (v := .tuple #[]) (by simp [results, Try.results23, go_sem]) rfl ?_
        have := grew_mark HM.out hcome (Grew.refl l _) (fun y hy => absurd (goesOn_lt hy) hlt)
        exact ⟨rfl, _, HV1.out, hg1, this.1, this.2⟩
end Go.Proofs.Ytenaionchlnpoab

