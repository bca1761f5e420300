/- verify.Join. -/
import Derived.Test.YtenaionchlnpoabJa
namespace Go.Proofs.Ytenaionchlnpoab
open Go.RowKit
set_option linter.unusedSimpArgs false
set_option linter.unusedVariables false
def joinR (a b : List Int) : List Int := if joinErr a b = 0 then (joinL a b).getD [] else []
theorem joinErr_kind {a b : List Int} (h : (a.all isType && b.all isType) = false) : joinErr a b = 6 := by
  unfold joinErr
  rw [if_pos]
  rw [List.any_append, Bool.or_eq_true]
  rcases Bool.and_eq_false_iff.1 h with h | h
  · left; rw [← List.not_all_eq_any_not, h]; rfl
  · right; rw [← List.not_all_eq_any_not, h]; rfl
theorem joinErr_many {a b : List Int} (ha : a.all isType = true) (hb : b.all isType = true) (h : 8 < a.length ∨ 8 < b.length) : joinErr a b = 2 := by
  unfold joinErr
  rw [if_neg (by rw [List.any_append, ← List.not_all_eq_any_not, ← List.not_all_eq_any_not, ha, hb]; decide), if_pos h]
theorem joinErr_rest {a b : List Int} (ha : a.all isType = true) (hb : b.all isType = true) (h1 : a.length ≤ 8) (h2 : b.length ≤ 8) : joinErr a b = if (joinL a b).isNone = true then 4 else 0 := by
  unfold joinErr
  rw [if_neg (by rw [List.any_append, ← List.not_all_eq_any_not, ← List.not_all_eq_any_not, ha, hb]; decide), if_neg (by omega)]
theorem joinL_lens {a b : List Int} (h : a.length ≠ b.length) : joinL a b = none := by
  cases e : joinL a b with
  | none => rfl
  | some l => exact absurd (joinL_length _ _ _ e).2 h
theorem ints_at_full {w : World} {R n : Nat} {J : List Int} (h : w.heap[R]? = some (.cells (J.map (Value.int .i64)).toArray 3 (0, 0))) (hn : J.length = n) (hm : n ≤ maxLen := by unfold maxLen; omega) : IntsAt w (.slice (some ⟨R, 0, none⟩) n n) J := by
  subst hn
  refine ⟨_, _, rfl, hm, fun k z hk => ⟨R, 0, rfl, heap_lt h, ?_⟩⟩
  rw [cell_at' h]
  simp [hk]
set_option maxRecDepth 100000 in
set_option maxHeartbeats 4000000 in
theorem vJoin_any (a b : List Int) (v u : Value) (w : World) (ha : IntsAt w v a) (hb : IntsAt w u b) : Calls Try.prog 17 #[v, u] w fun e w' => ∃ x, e = .returned (.tuple #[x, .int .i64 (joinErr a b)]) ∧ w'.ownsRow w.heap.size 3 1 x (joinR a b).length ((joinR a b).map (Value.int .i64)) ∧ Below w.heap.size w w' := by
  have ha' := ha
  have hb' := hb
  obtain ⟨pa, ca, rfl, hma, hca⟩ := ha'
  obtain ⟨pb, cb, rfl, hmb, hcb⟩ := hb'
  unfold maxLen at hma hmb
  have HCA := hideP hca
  have HCB := hideP hcb
  have HA := hideP ha
  have HB := hideP hb
  clear hca hcb ha hb
  cases ka : a.all isType
  · have he : joinErr a b = 6 := joinErr_kind (by rw [ka]; rfl)
    have hr : joinR a b = [] := by rw [joinR, if_neg (by rw [he]; decide)]
    rw [he, hr]
    clear he hr
    go_enter Try.func17, Try.ntmps17
    go_wp2_with fail
    refine (containsNoType_any a _ _ HA.out).mono ?_
    rw [ka]
    rintro e w1 ⟨rfl, hw⟩
    have hw := hw.symm
    subst hw
    go_wp2
    go_ret2
    exact ⟨_, rfl, World.ownsRow_nil _ _ _ _, Below.refl _ _⟩
  · cases kb : b.all isType
    · have he : joinErr a b = 6 := joinErr_kind (by rw [ka, kb]; rfl)
      have hr : joinR a b = [] := by rw [joinR, if_neg (by rw [he]; decide)]
      rw [he, hr]
      clear he hr
      go_enter Try.func17, Try.ntmps17
      go_wp2_with fail
      refine (containsNoType_any a _ _ HA.out).mono ?_
      rw [ka]
      rintro e w1 ⟨rfl, hw⟩
      have hw := hw.symm
      subst hw
      go_wp2_with fail
      refine (containsNoType_any b _ _ HB.out).mono ?_
      rw [kb]
      rintro e w1 ⟨rfl, hw⟩
      have hw := hw.symm
      subst hw
      go_wp2
      go_ret2
      exact ⟨_, rfl, World.ownsRow_nil _ _ _ _, Below.refl _ _⟩
    · go_enter Try.func17, Try.ntmps17
      go_wp2_with fail
      refine (containsNoType_any a _ _ HA.out).mono ?_
      rw [ka]
      rintro e w1 ⟨rfl, hw⟩
      have hw := hw.symm
      subst hw
      go_wp2_with fail
      refine (containsNoType_any b _ _ HB.out).mono ?_
      rw [kb]
      rintro e w1 ⟨rfl, hw⟩
      have hw := hw.symm
      subst hw
      by_cases la : 8 < a.length
      · have he : joinErr a b = 2 := joinErr_many ka kb (.inl la)
        have hr : joinR a b = [] := by rw [joinR, if_neg (by rw [he]; decide)]
        have HE := hideP he
        have HR := hideP hr
        have la' : (a.length : Int) > 8 := by omega
        clear he hr ka kb
        go_wp2
        go_ret2
        rw [HE.out, HR.out]
        exact ⟨_, rfl, World.ownsRow_nil _ _ _ _, Below.refl _ _⟩
      · have la' : ¬ (a.length : Int) > 8 := by omega
        by_cases lb : 8 < b.length
        · have he : joinErr a b = 2 := joinErr_many ka kb (.inr lb)
          have hr : joinR a b = [] := by rw [joinR, if_neg (by rw [he]; decide)]
          have HE := hideP he
          have HR := hideP hr
          have lb' : (b.length : Int) > 8 := by omega
          clear he hr ka kb
          go_wp2
          go_ret2
          rw [HE.out, HR.out]
          exact ⟨_, rfl, World.ownsRow_nil _ _ _ _, Below.refl _ _⟩
        · have lb' : ¬ (b.length : Int) > 8 := by omega
          have hrest := joinErr_rest ka kb (by omega) (by omega)
          by_cases hl : a.length = b.length
          · rw [← hl]
            have hz := jt_zero hl (List.all_eq_true.1 ka) (List.all_eq_true.1 kb)
            have hjl : (List.zipWith jt a b).length = a.length := by simp; omega
            have hjt := fun l (h : joinL a b = some l) => jt_list h
            obtain ⟨J, hJ⟩ : ∃ J, List.zipWith jt a b = J := ⟨_, rfl⟩
            have hJk : ∀ (k : Nat) (x y : Int), a[k]? = some x → b[k]? = some y → J[k]? = some (jt x y) := by
              intro k x y h1 h2
              rw [← hJ, List.getElem?_zipWith, h1, h2]
            rw [hJ] at hz hjl hjt
            have HJK := hideP hJk
            have HZ := hideP hz
            have HJT := hideP hjt
            have HRE := hideP hrest
            have HLL := hideP hl
            obtain ⟨i0, hi, hz0, hz1, hz2⟩ := info_parts infoInt
            have hla2 : a.length ≤ 8 := by omega
            have HBL := hideP hl.symm
            clear hz hjt hrest ka kb hJk hJ hl lb lb' hmb
            go_wp2_with (at_make; go_must (refine wpList_make_full _ rfl _ _ 23 rfl w.heap.size 3 i0 (.int .i64 0) 1 Try.underlying23 hi hz0 hz1 _ _ _ _ a.length rfl rfl (by omega) (by omega) (by rw [hz2]; omega) (by unfold maxLen; omega) (Nat.le_refl _) ?_; intro w2 hown2 hg2; rw [made_ints] at hown2; have Q2 := hideP (row_full hown2 (by simp)); clear hown2))
            have hB2 : Below w.heap.size w w2 := (Below.refl w.heap.size w).grown hg2 (Nat.le_refl _) (fun k hk => by cases hk)
            go_loopw [8, 38] (fun _ i wr => ∃ k : Nat, k ≤ a.length ∧ i = .int .i64 k ∧ wr.heap[w.heap.size]? = some (.cells ((upTo J k).map (Value.int .i64)).toArray 3 (0, 0)) ∧ Below w.heap.size w wr) (fun _ i _ => a.length - (intOf i).toNat)
            case atStart =>
              refine ⟨0, Nat.zero_le _, rfl, ?_, hB2⟩
              rw [upTo_none, hjl]
              exact Q2.out
            case round =>
              rename World => w3
              obtain ⟨k, hk, rfl, hq3, hB3⟩ := hrel
              by_cases hlt : k < a.length
              · have hlti : (k : Int) < (a.length : Int) := by omega
                obtain ⟨x, hx⟩ := at_of_lt hlt
                obtain ⟨y, hy⟩ := at_of_lt (show k < b.length by rw [HBL.out]; omega)
                obtain ⟨b1, o1, hp1, hb1, g1⟩ := HCA.out k x hx
                obtain ⟨b2, o2, hp2, hb2, g2⟩ := HCB.out k y hy
                subst hp1 hp2
                have d1 := (hB3.cell (p := ⟨b1, o1 + k, none⟩) hb1).trans g1
                have d2 := (hB3.cell (p := ⟨b2, o2 + k, none⟩) hb2).trans g2
                have z3 := Lib.frozen_of_heap hq3 k
                have hu : (upTo J k).length = J.length := by simp [upTo]; omega
                have d3 : ∃ v3, w3.cell? ⟨w.heap.size, k, none⟩ = some v3 := by
                  rw [cell_at' hq3]
                  refine ⟨_, Array.getElem?_eq_getElem (by simp; omega)⟩
                obtain ⟨v3, d3⟩ := d3
                have hset := upTo_set (HJK.out k x y hx hy)
                have HSET := hideP hset
                have Q3 := hideP hq3
                clear g1 g2 hx hy hset hq3 hu
                go_wp2
                go_region_law (go_simp; go_at_call 38; refine (joinType_any x y _).mono ?_; rintro e w4 ⟨rfl, hw4⟩; have hw4 := hw4.symm; subst hw4)
                all_goals
                  go_wp2
                  go_roundw
                  case rel =>
                    refine ⟨k + 1, by omega, by go_num, ?_, ?_⟩
                    · have := heap_setCell_same w3 w.heap.size k _ _ (.int .i64 (jt x y)) Q3.out
                      rw [set_ints, HSET.out] at this
                      exact this
                    · first
                      | exact (hB3.setCell (p := ⟨w.heap.size, k, none⟩) (Nat.le_refl _) _).drew
                      | exact hB3.setCell (p := ⟨w.heap.size, k, none⟩) (Nat.le_refl _) _
                  case measure => simp [intOf]; omega
              · have hlti : ¬ (k : Int) < (a.length : Int) := by omega
                obtain rfl : k = a.length := by omega
                rw [← hjl, upTo_all] at hq3
                have hI3 : IntsAt w3 (.slice (some ⟨w.heap.size, 0, none⟩) a.length a.length) J := ints_at_full hq3 hjl
                have Q3 := hideP hq3
                clear hq3
                by_cases h0 : (0 : Int) ∈ J
                · have hjn := HZ.out.1 h0
                  have he : joinErr a b = 4 := by rw [HRE.out, hjn]; rfl
                  have hr : joinR a b = [] := by rw [joinR, if_neg (by rw [he]; decide)]
                  have HE := hideP he
                  have HR := hideP hr
                  have HD := hideP (decide_eq_true h0)
                  clear he hr hjn h0
                  go_wp2_with fail
                  refine (containsInt_any J 0 _ _ hI3).mono ?_
                  rw [HD.out]
                  rintro e w4 ⟨rfl, hw4⟩
                  have hw4 := hw4.symm
                  subst hw4
                  go_wp2
                  go_ret2
                  rw [HE.out, HR.out]
                  exact ⟨_, rfl, World.ownsRow_nil _ _ _ _, hB3⟩
                · have hjs : ∃ l, joinL a b = some l := by
                    cases e : joinL a b with
                    | none => exact absurd (HZ.out.2 e) h0
                    | some l => exact ⟨l, rfl⟩
                  obtain ⟨l, hjs⟩ := hjs
                  have he : joinErr a b = 0 := by rw [HRE.out, hjs]; rfl
                  have hr : joinR a b = J := by rw [joinR, if_pos he, hjs, HJT.out l hjs]; rfl
                  have HE := hideP he
                  have HR := hideP hr
                  have HD := hideP (decide_eq_false h0)
                  clear he hr hjs h0
                  go_wp2_with fail
                  refine (containsInt_any J 0 _ _ hI3).mono ?_
                  rw [HD.out]
                  rintro e w4 ⟨rfl, hw4⟩
                  have hw4 := hw4.symm
                  subst hw4
                  go_wp2
                  go_ret2
                  rw [HE.out, HR.out]
                  refine ⟨_, rfl, ?_, hB3⟩
                  refine ⟨by simp, .inr ⟨w.heap.size, a.length, _, ?_, Nat.le_refl _, Q3.out, by omega, by unfold maxLen; omega, by simp [hjl], by rw [Nat.mul_one]; exact List.take_of_length_le (by simp)⟩⟩
                  rw [hjl]
                  rfl
          · have he : joinErr a b = 4 := by rw [hrest, joinL_lens hl]; rfl
            have hr : joinR a b = [] := by rw [joinR, if_neg (by rw [he]; decide)]
            have HE := hideP he
            have HR := hideP hr
            have hl' : ((a.length : Int) != (b.length : Int)) = true := by simp; omega
            clear he hr ka kb hrest hl
            go_wp2
            go_ret2
            rw [HE.out, HR.out]
            exact ⟨_, rfl, World.ownsRow_nil _ _ _ _, Below.refl _ _⟩
end Go.Proofs.Ytenaionchlnpoab

