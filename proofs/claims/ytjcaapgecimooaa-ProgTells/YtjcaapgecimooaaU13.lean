/- My texts Bg Ga Gb Jn, joined. -/
import Derived.Test.YtjcaapgecimooaaU1
import Derived.Test.YtjcaapgecimooaaU7
import Derived.Test.YtjcaapgecimooaaU11
import Derived.Test.YtjcaapgecimooaaU12
/- the reference's SameBlocks, CellsOf; blockBegun. -/
namespace Go.Proofs.Ytjcaapgecimooaa
open Go.RowKit
set_option linter.unusedSimpArgs false
set_option linter.unusedVariables false
theorem bf1 : newErr [[7]] 2 = 0 ∧ newR [[7]] 2 = [[7], [0, 0]] ∧ newRef [[7]] 2 = 2 ∧ setErr [[7], [0, 0]] 2 1 5 = 0 ∧ setR [[7], [0, 0]] 2 1 5 = [[7], [0, 5]] := by decide +kernel
theorem bf2 : placeErr [[7], [0, 5]] 2 1 = 0 ∧ getR [[7], [0, 5]] 2 1 = 5 ∧ placeErr [[7], [0, 5]] 0 0 = 5 ∧ getR [[7], [0, 5]] 0 0 = 0 ∧ blkErr [[7], [0, 5]] = 0 := by decide +kernel
theorem bf3 : keepErr [[7], [0, 5]] [2, 0] = 0 ∧ keptR [[7], [0, 5]] [2, 0] = [[0, 5]] ∧ thenR [[7], [0, 5]] [2, 0] = [1, 0] := by decide +kernel
/-- one block that a literal made. -/
theorem blks_lit {W : World} {g B : Nat} {b : List Int} {n : Nat} (hB : W.heap[B]? = some (.cells #[.slice (some ⟨g, 0, none⟩) n n] 49 (0, 0))) (hg : W.heap[g]? = some (.cells (b.map (Value.int .i64)).toArray 3 (0, 0))) (hn : n = b.length) (h40 : b.length ≤ 40) : BlksAt W (.slice (some ⟨B, 0, none⟩) 1 1) [b] := by
  refine ⟨_, 1, rfl, by unfold maxLen; simp, fun k c hk => ?_⟩
  match k, hk with
  | 0, hk =>
    simp at hk; subst hk
    exact ⟨B, 0, _, rfl, heap_lt hB, by rw [cell_at' hB]; rfl, ints_lit n n hg hn (by unfold maxLen; omega), nilOk_some _ _ _, by omega⟩
  | k + 1, hk => simp at hk
end Go.Proofs.Ytjcaapgecimooaa
/- The reference's flow: CheckFlow, GoesOn, NextOf, BackOf. -/
namespace Go.Proofs.Ytjcaapgecimooaa
open Go.RowKit
set_option linter.unusedSimpArgs false
set_option linter.unusedVariables false
set_option maxHeartbeats 2000000 in
theorem goesOn_any (l : List (Int × Int)) (k t : Nat) (v : Value) (w : World) (h : OpsAt w v l) (hk : k < l.length) : Calls Try.prog 74 #[v, .int .i64 k, .int .i64 t] w fun e w' => e = .returned (.bool (goesOn l k t)) ∧ w' = w := by
  obtain ⟨p, cap, rfl, hm, hc⟩ := h
  obtain ⟨⟨c, a⟩, ho⟩ := at_of_lt hk
  obtain ⟨b, off, rfl, hbl, g0, g1⟩ := hc k _ ho
  simp only at g0 g1
  unfold maxLen at hm
  have hlti : (k : Int) < (l.length : Int) := by omega
  have hg : goesOn l k t = if c = 13 then false else if c = 10 then decide ((t : Int) = a) else if c = 11 then decide (t = k + 1) || decide ((t : Int) = a) else decide (t = k + 1) := by simp [goesOn, ho]
  rw [hg]
  clear hc ho hg
  have hwr : wrap64 ((k : Int) + 1) = (k : Int) + 1 := by unfold wrap64; omega
  by_cases h13 : c = 13
  · subst h13
    go_enter Try.func74, Try.ntmps74
    go_wp2
    go_ret
    exact ⟨rfl, rfl⟩
  have h13' : (c == 13) = false := by simp [h13]
  by_cases h10 : c = 10
  · subst h10
    by_cases ha : (t : Int) = a
    · have ha' : ((t : Int) == a) = true := by simp [ha]
      go_enter Try.func74, Try.ntmps74
      go_wp2
      go_ret
      exact ⟨by simp, rfl⟩
    · have ha' : ((t : Int) == a) = false := by simp [ha]
      go_enter Try.func74, Try.ntmps74
      go_wp2
      go_ret
      exact ⟨by simp [ha], rfl⟩
  have h10' : (c == 10) = false := by simp [h10]
  by_cases h11 : c = 11
  · subst h11
    by_cases hp : t = k + 1
    · have hp' : ((t : Int) == (k : Int) + 1) = true := by simp [hp]
      have hp2 : decide (t = k + 1) = true := by simp [hp]
      clear hp
      go_enter Try.func74, Try.ntmps74
      go_wp2
      go_ret
      exact ⟨by simp, rfl⟩
    · have hp' : ((t : Int) == (k : Int) + 1) = false := by simp; omega
      have hp2 : decide (t = k + 1) = false := by simp [hp]
      clear hp
      by_cases ha : (t : Int) = a
      · have ha' : ((t : Int) == a) = true := by simp [ha]
        have ha2 : decide ((t : Int) = a) = true := by simp [ha]
        clear ha
        go_enter Try.func74, Try.ntmps74
        go_wp2
        go_ret
        exact ⟨by simp, rfl⟩
      · have ha' : ((t : Int) == a) = false := by simp [ha]
        have ha2 : decide ((t : Int) = a) = false := by simp [ha]
        clear ha
        go_enter Try.func74, Try.ntmps74
        go_wp2
        go_ret
        exact ⟨by simp, rfl⟩
  have h11' : (c == 11) = false := by simp [h11]
  have hif : (if c = 13 then false else if c = 10 then decide ((t : Int) = a) else if c = 11 then decide (t = k + 1) || decide ((t : Int) = a) else decide (t = k + 1)) = decide (t = k + 1) := by rw [if_neg h13, if_neg h10, if_neg h11]
  rw [hif]
  clear hif
  by_cases hp : t = k + 1
  · have hp' : ((t : Int) == (k : Int) + 1) = true := by simp [hp]
    have hp2 : decide (t = k + 1) = true := by simp [hp]
    rw [hp2]
    clear hp hp2 h13 h10 h11
    go_enter Try.func74, Try.ntmps74
    go_wp2
    go_ret
    exact ⟨by simp, rfl⟩
  · have hp' : ((t : Int) == (k : Int) + 1) = false := by simp; omega
    have hp2 : decide (t = k + 1) = false := by simp [hp]
    rw [hp2]
    clear hp hp2 h13 h10 h11
    go_enter Try.func74, Try.ntmps74
    go_wp2
    go_ret
    exact ⟨by simp, rfl⟩
set_option maxHeartbeats 2000000 in
theorem nextOf_any (l : List (Int × Int)) (t : Nat) (v : Value) (w : World) (h : OpsAt w v l) (h40 : l.length ≤ 40) (ht : t < l.length) : Calls Try.prog 37 #[v, .int .i64 t] w fun e w' => ∃ u, e = .returned u ∧ w'.ownsRow w.heap.size 3 1 u (placesL (fun to => goesOn l t to) (l.length + 1)).length ((placesL (fun to => goesOn l t to) (l.length + 1)).map (Value.int .i64)) ∧ Below w.heap.size w w' := by
  obtain ⟨i0, hi, hz0, hz1, hz2⟩ := info_parts infoInt
  have hcall : ∀ (k : Nat) (W : World), k < l.length + 1 → Below w.heap.size w W → Calls Try.prog 74 #[v, .int .i64 t, .int .i64 k] W fun e w' => e = .returned (.bool ((fun to => goesOn l t to) k)) ∧ w' = W := by
    intro k W hk hb
    exact goesOn_any l t k v W (h.below hb) (by omega)
  obtain ⟨P, hP⟩ : ∃ P : Nat → Bool, (fun to => goesOn l t to) = P := ⟨_, rfl⟩
  rw [hP] at hcall ⊢
  have HCALL := hideP hcall
  obtain ⟨p, cap, rfl, hm, _⟩ := h
  unfold maxLen at hm
  clear hcall hP
  go_enter Try.func37, Try.ntmps37
  go_wp2
  go_loopw [5, 6] (fun v5 i wr => ∃ k : Nat, k ≤ l.length + 1 ∧ i = .int .i64 k ∧ wr.ownsRow w.heap.size 3 1 v5 (placesL P k).length ((placesL P k).map (Value.int .i64)) ∧ Below w.heap.size w wr) (fun _ i _ => l.length + 1 - (intOf i).toNat)
  case atStart => exact ⟨0, Nat.zero_le _, rfl, World.ownsRow_nil _ _ _ _, Below.refl _ _⟩
  case round =>
    rename World => w2
    obtain ⟨k, hk, rfl, hrow, hbw⟩ := hrel
    obtain ⟨p5, c5, rfl⟩ := row_shp hrow
    by_cases hlt : k < l.length + 1
    · have hlti : (k : Int) ≤ (l.length : Int) := by omega
      have hle := placesL_le P k
      have HROW := hideP hrow
      clear hrow
      cases hp : P k
      · go_wp2_with (go_at_call 74; refine (HCALL.out k _ hlt hbw).mono ?_; rw [hp]; rintro e w3 ⟨rfl, hw3⟩; have hw3 := hw3.symm; subst hw3)
        go_roundw
        case rel =>
          refine ⟨k + 1, by omega, by go_num, ?_, hbw⟩
          rw [placesL_succ_false hp]
          exact HROW.out
        case measure => simp [intOf]; omega
      · have hrow3 := hideP (HROW.out.alloc (.cells #[.int .i64 k] 3))
        go_wp2_with (first
          | (go_at_call 74; refine (HCALL.out k _ hlt hbw).mono ?_; rw [hp]; rintro e w3 ⟨rfl, hw3⟩; have hw3 := hw3.symm; subst hw3)
          | (at_builtin; refine wpList_append_own _ rfl _ _ 49 rfl w.heap.size 3 i0 (.int .i64 0) 1 8 Try.underlying49 hi hz0 hz1 hz2 rfl (by decide) _ _ _ rfl hrow3.out ⟨w2.heap.size, 0, none⟩ 1 1 [.int .i64 k] rfl rfl (cell_one_new _ _ _) (by simp [Value.oneCell']) (by unfold maxLen; omega) (by omega) (by have := hbw.size; simp; omega) ?_; intro v' w4 hown4 hg4 _; obtain ⟨g', cap', rfl⟩ := ownsRow_succ hown4))
        go_roundw
        case rel =>
          refine ⟨k + 1, by omega, by go_num, ?_, ?_⟩
          · rw [placesL_succ_true hp]
            simpa using hown4
          · have h4 := hbw.alloc hbw.size (.cells #[.int .i64 k] 3)
            exact h4.grown hg4 (by have := hbw.size; simp; omega) (fun j hj => (hrow3.out.lt j hj).1)
        case measure => simp [intOf]; omega
    · have hlt' : ¬ (k : Int) ≤ (l.length : Int) := by omega
      have hkn := hideP (show k = l.length + 1 by omega)
      clear hlt hk
      go_wp2
      go_ret
      have hkn := hkn.out
      subst hkn
      exact ⟨_, rfl, hrow, hbw⟩
set_option maxHeartbeats 2000000 in
theorem backOf_any (l : List (Int × Int)) (t : Nat) (v : Value) (w : World) (h : OpsAt w v l) (h40 : l.length ≤ 40) (ht : t ≤ l.length) : Calls Try.prog 39 #[v, .int .i64 t] w fun e w' => ∃ u, e = .returned u ∧ w'.ownsRow w.heap.size 3 1 u (placesL (fun pc => goesOn l pc t) (l.length)).length ((placesL (fun pc => goesOn l pc t) (l.length)).map (Value.int .i64)) ∧ Below w.heap.size w w' := by
  obtain ⟨i0, hi, hz0, hz1, hz2⟩ := info_parts infoInt
  have hcall : ∀ (k : Nat) (W : World), k < l.length → Below w.heap.size w W → Calls Try.prog 74 #[v, .int .i64 k, .int .i64 t] W fun e w' => e = .returned (.bool ((fun pc => goesOn l pc t) k)) ∧ w' = W := by
    intro k W hk hb
    exact goesOn_any l k t v W (h.below hb) (by omega)
  obtain ⟨P, hP⟩ : ∃ P : Nat → Bool, (fun pc => goesOn l pc t) = P := ⟨_, rfl⟩
  rw [hP] at hcall ⊢
  have HCALL := hideP hcall
  obtain ⟨p, cap, rfl, hm, _⟩ := h
  unfold maxLen at hm
  clear hcall hP
  go_enter Try.func39, Try.ntmps39
  go_wp2
  go_loopw [5, 6] (fun v5 i wr => ∃ k : Nat, k ≤ l.length ∧ i = .int .i64 k ∧ wr.ownsRow w.heap.size 3 1 v5 (placesL P k).length ((placesL P k).map (Value.int .i64)) ∧ Below w.heap.size w wr) (fun _ i _ => l.length - (intOf i).toNat)
  case atStart => exact ⟨0, Nat.zero_le _, rfl, World.ownsRow_nil _ _ _ _, Below.refl _ _⟩
  case round =>
    rename World => w2
    obtain ⟨k, hk, rfl, hrow, hbw⟩ := hrel
    obtain ⟨p5, c5, rfl⟩ := row_shp hrow
    by_cases hlt : k < l.length
    · have hlti : (k : Int) < (l.length : Int) := by omega
      have hle := placesL_le P k
      have HROW := hideP hrow
      clear hrow
      cases hp : P k
      · go_wp2_with (go_at_call 74; refine (HCALL.out k _ hlt hbw).mono ?_; rw [hp]; rintro e w3 ⟨rfl, hw3⟩; have hw3 := hw3.symm; subst hw3)
        go_roundw
        case rel =>
          refine ⟨k + 1, by omega, by go_num, ?_, hbw⟩
          rw [placesL_succ_false hp]
          exact HROW.out
        case measure => simp [intOf]; omega
      · have hrow3 := hideP (HROW.out.alloc (.cells #[.int .i64 k] 3))
        go_wp2_with (first
          | (go_at_call 74; refine (HCALL.out k _ hlt hbw).mono ?_; rw [hp]; rintro e w3 ⟨rfl, hw3⟩; have hw3 := hw3.symm; subst hw3)
          | (at_builtin; refine wpList_append_own _ rfl _ _ 49 rfl w.heap.size 3 i0 (.int .i64 0) 1 8 Try.underlying49 hi hz0 hz1 hz2 rfl (by decide) _ _ _ rfl hrow3.out ⟨w2.heap.size, 0, none⟩ 1 1 [.int .i64 k] rfl rfl (cell_one_new _ _ _) (by simp [Value.oneCell']) (by unfold maxLen; omega) (by omega) (by have := hbw.size; simp; omega) ?_; intro v' w4 hown4 hg4 _; obtain ⟨g', cap', rfl⟩ := ownsRow_succ hown4))
        go_roundw
        case rel =>
          refine ⟨k + 1, by omega, by go_num, ?_, ?_⟩
          · rw [placesL_succ_true hp]
            simpa using hown4
          · have h4 := hbw.alloc hbw.size (.cells #[.int .i64 k] 3)
            exact h4.grown hg4 (by have := hbw.size; simp; omega) (fun j hj => (hrow3.out.lt j hj).1)
        case measure => simp [intOf]; omega
    · have hlt' : ¬ (k : Int) < (l.length : Int) := by omega
      have hkn := hideP (show k = l.length by omega)
      clear hlt hk
      go_wp2
      go_ret
      have hkn := hkn.out
      subst hkn
      exact ⟨_, rfl, hrow, hbw⟩
set_option maxHeartbeats 4000000 in
theorem checkFlow_any (l : List (Int × Int)) (v : Value) (w : World) (h : OpsAt w v l) : Calls Try.prog 36 #[v] w fun e w' => e = .returned (.int .i64 (flowErr l)) ∧ Below w.heap.size w w' := by
  have h' := h
  obtain ⟨p, cap, rfl, hm, hc⟩ := h'
  unfold maxLen at hm
  have HC := hideP hc
  clear hc
  by_cases hce : codeErr l = 0
  · have hck : ∀ W : World, OpsAt W (.slice p l.length cap) l → Calls Try.prog 14 #[.slice p l.length cap] W fun e w' => e = .returned (.int .i64 0) ∧ Below W.heap.size W w' := by
      intro W hW
      have := checkCode_any l _ W hW
      rw [hce] at this
      exact this
    have HCK := hideP hck
    have HCE := hideP hce
    clear hck hce
    by_cases hl : l.length = 0
    · obtain rfl : l = [] := List.eq_nil_of_length_eq_zero hl
      go_enter Try.func36, Try.ntmps36
      go_wp2_with (go_at_call 14; refine (HCK.out _ h).mono ?_; rintro e w1 ⟨rfl, hb1⟩)
      go_loopw [3, 4] (fun x i wr => x = .int .i64 5 ∧ i = .int .i64 0 ∧ wr = w1) (fun _ _ _ => 0)
      case atStart => exact ⟨rfl, rfl, rfl⟩
      case round =>
        obtain ⟨rfl, rfl, hw⟩ := hrel
        subst hw
        go_wp2
        go_ret
        exact ⟨by rw [flowErr, if_neg (by simp [HCE.out]), if_pos hl]; rfl, hb1⟩
    · have hl' : ((l.length : Int) == 0) = false := by simp; simpa using hl
      have HL := hideP hl
      have hl2 : 0 < l.length := by omega
      clear hl
      go_enter Try.func36, Try.ntmps36
      go_wp2_with (go_at_call 14; refine (HCK.out _ h).mono ?_; rintro e w1 ⟨rfl, hb1⟩)
      go_loopw [3, 4] (fun x i wr => ∃ k : Nat, k ≤ l.length ∧ i = .int .i64 k ∧ wr = w1 ∧ ((x = .int .i64 0 ∧ ∀ o ∈ l.take k, (!badTo l.length o) = true) ∨ (x = .int .i64 3 ∧ l.any (badTo l.length) = true))) (fun _ i _ => l.length - (intOf i).toNat)
      case atStart => exact ⟨0, Nat.zero_le _, rfl, rfl, .inl ⟨rfl, by simp⟩⟩
      case round =>
        obtain ⟨k, hk, rfl, hw, hx⟩ := hrel
        subst hw
        rcases hx with ⟨rfl, hok⟩ | ⟨rfl, hany⟩
        · have HK := hideP hok
          clear hok
          by_cases hlt : k < l.length
          · obtain ⟨⟨c, a⟩, ho⟩ := at_of_lt hlt
            obtain ⟨b, off, rfl, hbl, g0, g1⟩ := HC.out k _ ho
            simp only at g0 g1
            have hlti : (k : Int) < (l.length : Int) := by omega
            have d0 := (hb1.cell (p := ⟨b, off + k * 2, none⟩) hbl).trans g0
            have d1 := (hb1.cell (p := ⟨b, off + k * 2 + 1, none⟩) hbl).trans g1
            have HO := hideP ho
            have hwr : wrap64 ((l.length : Int) - 1) = (l.length : Int) - 1 := by unfold wrap64; omega
            clear ho g0 g1
            have hbe : badTo l.length (c, a) = ((c == 10 || c == 11) && !(decide (0 ≤ a) && decide (a ≤ (l.length : Int) - 1))) := by
              have e1 : decide (a < (l.length : Int)) = decide (a ≤ (l.length : Int) - 1) := by
                rw [Bool.eq_iff_iff, decide_eq_true_iff, decide_eq_true_iff]; omega
              simp only [badTo, e1]
            by_cases hj : (c == 10 || c == 11) = true
            · cases hb : (decide (0 ≤ a) && decide (a ≤ (l.length : Int) - 1))
              · have hbad : badTo l.length (c, a) = true := by rw [hbe, hj, hb]; rfl
                have HB := hideP hbad
                clear hbad hbe
                rcases Decidable.em (c = 10) with hc10 | hc10
                · subst hc10
                  clear hj
                  go_wp2_with (go_at_call 53; refine (between_any a 0 ((l.length : Int) - 1) _).mono ?_; rw [hb]; rintro e w3 ⟨rfl, hw3⟩; have hw3 := hw3.symm; subst hw3)
                  go_roundw
                  case rel => exact ⟨k + 1, by omega, by go_num, trivial, .inr ⟨rfl, List.any_eq_true.2 ⟨_, List.mem_of_getElem? HO.out, HB.out⟩⟩⟩
                  case measure => simp [intOf]; omega
                · have h10' : (c == 10) = false := by simp [hc10]
                  obtain rfl : c = 11 := by simpa [hc10] using hj
                  clear hj hc10
                  go_wp2_with (go_at_call 53; refine (between_any a 0 ((l.length : Int) - 1) _).mono ?_; rw [hb]; rintro e w3 ⟨rfl, hw3⟩; have hw3 := hw3.symm; subst hw3)
                  go_roundw
                  case rel => exact ⟨k + 1, by omega, by go_num, trivial, .inr ⟨rfl, List.any_eq_true.2 ⟨_, List.mem_of_getElem? HO.out, HB.out⟩⟩⟩
                  case measure => simp [intOf]; omega
              · have hbad : badTo l.length (c, a) = false := by rw [hbe, hb]; simp
                have HB := hideP hbad
                clear hbad hbe
                rcases Decidable.em (c = 10) with hc10 | hc10
                · subst hc10
                  clear hj
                  go_wp2_with (go_at_call 53; refine (between_any a 0 ((l.length : Int) - 1) _).mono ?_; rw [hb]; rintro e w3 ⟨rfl, hw3⟩; have hw3 := hw3.symm; subst hw3)
                  go_roundw
                  case rel => exact ⟨k + 1, by omega, by go_num, trivial, .inl ⟨rfl, all_snoc HK.out HO.out (by rw [HB.out]; rfl)⟩⟩
                  case measure => simp [intOf]; omega
                · have h10' : (c == 10) = false := by simp [hc10]
                  obtain rfl : c = 11 := by simpa [hc10] using hj
                  clear hj hc10
                  go_wp2_with (go_at_call 53; refine (between_any a 0 ((l.length : Int) - 1) _).mono ?_; rw [hb]; rintro e w3 ⟨rfl, hw3⟩; have hw3 := hw3.symm; subst hw3)
                  go_roundw
                  case rel => exact ⟨k + 1, by omega, by go_num, trivial, .inl ⟨rfl, all_snoc HK.out HO.out (by rw [HB.out]; rfl)⟩⟩
                  case measure => simp [intOf]; omega
            · have hbad : badTo l.length (c, a) = false := by rw [hbe]; rw [Bool.not_eq_true] at hj; rw [hj]; rfl
              have HB := hideP hbad
              have h10 : (c == 10) = false := by cases h : (c == 10); rfl; simp [h] at hj
              have h11 : (c == 11) = false := by cases h : (c == 11); rfl; simp [h] at hj
              clear hbad hbe hj
              go_wp2
              go_roundw
              case rel => exact ⟨k + 1, by omega, by go_num, trivial, .inl ⟨rfl, all_snoc HK.out HO.out (by rw [HB.out]; rfl)⟩⟩
              case measure => simp [intOf]; omega
          · have hlt' : ¬ (k : Int) < (l.length : Int) := by omega
            have hany : l.any (badTo l.length) = false := by
              have := HK.out
              rw [List.take_of_length_le (by omega)] at this
              rw [Bool.eq_false_iff]
              intro h
              obtain ⟨o, h1, h2⟩ := List.any_eq_true.1 h
              have := this o h1
              rw [h2] at this
              cases this
            have HA := hideP hany
            clear hany
            go_wp2
            go_ret
            exact ⟨by rw [flowErr, if_neg (by simp [HCE.out]), if_neg HL.out, if_neg (by rw [HA.out]; decide)]; rfl, hb1⟩
        · have HA := hideP hany
          clear hany
          by_cases hlt : k < l.length
          · have hlti : (k : Int) < (l.length : Int) := by omega
            go_wp2
            go_ret
            exact ⟨by rw [flowErr, if_neg (by simp [HCE.out]), if_neg HL.out, if_pos HA.out]; rfl, hb1⟩
          · have hlt' : ¬ (k : Int) < (l.length : Int) := by omega
            go_wp2
            go_ret
            exact ⟨by rw [flowErr, if_neg (by simp [HCE.out]), if_neg HL.out, if_pos HA.out]; rfl, hb1⟩
  · have hne : (codeErr l == 0) = false := by simp [hce]
    have HCE := hideP hce
    clear hce
    go_enter Try.func36, Try.ntmps36
    go_wp2_with (go_at_call 14; refine (checkCode_any l _ _ h).mono ?_; rintro e w1 ⟨rfl, hb1⟩)
    go_loopw [3, 4] (fun x i wr => x = .int .i64 (codeErr l) ∧ i = .int .i64 0 ∧ wr = w1) (fun _ _ _ => 0)
    case atStart => exact ⟨rfl, rfl, rfl⟩
    case round =>
      obtain ⟨rfl, rfl, hw⟩ := hrel
      subst hw
      by_cases hlt : 0 < l.length
      · have hlti : (0 : Int) < (l.length : Int) := by omega
        go_wp2
        go_ret
        exact ⟨by rw [flowErr, if_pos HCE.out]; rfl, hb1⟩
      · have hlti : ¬ (0 : Int) < (l.length : Int) := by omega
        go_wp2
        go_ret
        exact ⟨by rw [flowErr, if_pos HCE.out]; rfl, hb1⟩
end Go.Proofs.Ytjcaapgecimooaa
/- The reference's ReachOf. -/
namespace Go.Proofs.Ytjcaapgecimooaa
open Go.RowKit
set_option linter.unusedSimpArgs false
set_option linter.unusedVariables false
/-- the marks in block R. -/
def boolOf : Value → Bool | .bool b => b | _ => false
def marksOf (w : World) (R : Nat) : List Bool := match w.heap[R]? with | some (.cells c _ _) => c.toList.map boolOf | _ => []
theorem marksOf_eq {w : World} {R : Nat} {M : List Bool} {t : TypeId} {fz : Nat × Nat} (h : w.heap[R]? = some (.cells (M.map Value.bool).toArray t fz)) : marksOf w R = M := by
  simp [marksOf, h, Function.comp_def, boolOf]
def moreOf : Value → Nat | .bool true => 1 | _ => 0
/-- marks that only have what may be come to, place 0 too. -/
structure MarkI (w : World) (l : List (Int × Int)) (R : Nat) (M : List Bool) (wr : World) : Prop where
  at_ : wr.heap[R]? = some (.cells (M.map Value.bool).toArray 4 (0, 0))
  len : M.length = l.length + 1
  zero : M.getD 0 false = true
  come : ∀ x, M.getD x false = true → Come l x
  bel : Below w.heap.size w wr
theorem MarkI.mark {w wr : World} {l : List (Int × Int)} {R : Nat} {M : List Bool} (h : MarkI w l R M wr) (hR : w.heap.size ≤ R) {k j : Nat} (hk : M.getD k false = true) (hg : goesOn l k j = true) (hj : j < M.length) : MarkI w l R (M.set j true) (wr.setCell ⟨R, j, none⟩ (.bool true)) := by
  refine ⟨?_, by rw [List.length_set]; exact h.len, ?_, fun x hx => ?_, h.bel.setCell hR _⟩
  · have := heap_setCell_same wr R j _ _ (.bool true) h.at_
    rw [set_marks] at this
    exact this
  · rw [getD_set _ _ _ hj]; split
    · rfl
    · exact h.zero
  · rw [getD_set _ _ _ hj] at hx
    by_cases e : x = j
    · subst e; exact Come.step (h.come k hk) hg
    · rw [if_neg e] at hx; exact h.come x hx
/-- what a round over all has done so far: something was marked, or all is as it was. -/
def Done (l : List (Int × Int)) (Ms M : List Bool) (more : Value) (P : Prop) : Prop := (more = .bool true ∧ cf M < cf Ms) ∨ (more = .bool false ∧ M = Ms ∧ P)
theorem getD_at {M : List Bool} {k : Nat} {b : Bool} (h : M[k]? = some b) : M.getD k false = b := by rw [List.getD_eq_getElem?_getD, h]; rfl
set_option maxHeartbeats 16000000 in
theorem reachOf_any (l : List (Int × Int)) (v : Value) (w : World) (h : OpsAt w v l) (hf : flowErr l = 0) : Calls Try.prog 38 #[v] w fun e w' => ∃ u, e = .returned u ∧ w'.ownsRow w.heap.size 3 1 u (reachR l).length ((reachR l).map (Value.int .i64)) ∧ Below w.heap.size w w' := by
  have h40 := flowErr_40 hf
  obtain ⟨i0, hi, hz0, hz1, hz2⟩ := info_parts infoBool
  obtain ⟨i1, hj, hy0, hy1, hy2⟩ := info_parts infoInt
  have hrr : reachR l = (reachL l).map Int.ofNat := by rw [reachR, if_pos hf]
  have hcall : ∀ (k t : Nat) (W : World), k < l.length → Below w.heap.size w W → Calls Try.prog 74 #[v, .int .i64 k, .int .i64 t] W fun e w' => e = .returned (.bool (goesOn l k t)) ∧ w' = W := fun k t W hk hb => goesOn_any l k t v W (h.below hb) hk
  have hbad := (flowErr_zero hf).2.2
  have HCALL := hideP hcall
  have HRR := hideP hrr
  have HBAD := hideP hbad
  obtain ⟨p, cap, rfl, hm, _⟩ := h
  unfold maxLen at hm
  clear hcall hrr hf hbad
  have hwr : wrap64 ((l.length : Int) + 1) = (l.length : Int) + 1 := by unfold wrap64; omega
  obtain ⟨M0, hM0⟩ : ∃ M0, (List.replicate (l.length + 1) false).set 0 true = M0 := ⟨_, rfl⟩
  go_enter Try.func38, Try.ntmps38
  go_wp2_with (at_make; refine wpList_make_full _ rfl _ _ 92 rfl w.heap.size 4 i0 (.bool false) 1 Try.underlying92 hi hz0 hz1 _ _ _ _ (l.length + 1) rfl rfl (by omega) (by omega) (by rw [hz2]; omega) (by unfold maxLen; omega) (Nat.le_refl _) ?_; intro w1 hown1 hg1; rw [made_bools] at hown1; have q1 := row_full hown1 (by simp); have c1 := cell_at' q1 0; have z1 := Lib.frozen_of_heap q1 0; have Q1 := hideP q1; clear q1 hown1; simp at c1 z1)
  have hI0 : MarkI w l w.heap.size M0 (w1.setCell ⟨w.heap.size, 0, none⟩ (.bool true)) := by
    have hb1 : Below w.heap.size w w1 := (Below.refl w.heap.size w).grown hg1 (Nat.le_refl _) (fun k hk => by cases hk)
    refine ⟨?_, by rw [← hM0]; simp, ?_, fun x hx => ?_, hb1.setCell (Nat.le_refl _) _⟩
    · have := heap_setCell_same w1 w.heap.size 0 _ _ (.bool true) Q1.out
      rw [set_marks, hM0] at this
      exact this
    · rw [← hM0, getD_set _ _ _ (by simp)]; rfl
    · rw [← hM0, getD_set _ _ _ (by simp)] at hx
      by_cases e : x = 0
      · subst e; exact .zero
      · rw [if_neg e, List.getD_eq_getElem?_getD, List.getElem?_replicate] at hx
        split at hx <;> cases hx
  clear c1 z1
  go_loopw [4, 5, 6] (fun v4 _ _ wr => ∃ M, MarkI w l w.heap.size M wr ∧ (v4 = .bool true ∨ (v4 = .bool false ∧ ∀ x y, M.getD x false = true → goesOn l x y = true → M.getD y false = true))) (fun v4 _ _ wr => 2 * cf (marksOf wr w.heap.size) + moreOf v4)
  case atStart => exact ⟨M0, hI0, .inl rfl⟩
  case round =>
    rename World => w2
    obtain ⟨Ms, hIs, hmore⟩ := hrel
    have hcf := marksOf_eq hIs.at_
    rcases hmore with rfl | ⟨rfl, hshut⟩
    · go_wp2
      go_loopw [4, 5, 6] (fun v4 v5 _ wr => ∃ (M : List Bool) (k : Nat), MarkI w l w.heap.size M wr ∧ k ≤ l.length ∧ v5 = .int .i64 k ∧ Done l Ms M v4 (∀ x y, x < k → M.getD x false = true → goesOn l x y = true → M.getD y false = true)) (fun _ v5 _ _ => l.length - (intOf v5).toNat)
      case atStart => exact ⟨Ms, 0, hIs, Nat.zero_le _, rfl, .inr ⟨rfl, rfl, fun x y hx => by omega⟩⟩
      case round =>
        rename World => w3
        obtain ⟨M3, k, hI3, hk, rfl, hdone⟩ := hrel
        by_cases hlt : k < l.length
        · have hlti : (k : Int) < (l.length : Int) := by omega
          have hsh : ∃ b4, u4 = Value.bool b4 := by rcases hdone with ⟨h, _⟩ | ⟨h, _⟩ <;> exact ⟨_, h⟩
          obtain ⟨b4, rfl⟩ := hsh
          have hdone2 : Done l Ms M3 (.bool b4) ((∀ x y, x < k → M3.getD x false = true → goesOn l x y = true → M3.getD y false = true) ∧ ∀ y, y < 0 → M3.getD k false = true → goesOn l k y = true → M3.getD y false = true) := by
            rcases hdone with h | ⟨h1, h2, h3⟩
            · exact .inl h
            · exact .inr ⟨h1, h2, h3, fun y hy => by omega⟩
          have HD3 := hideP hdone2
          have HI3 := hideP hI3
          clear hdone hdone2 hI3
          go_wp2
          go_loopw [4, 6] (fun v4 v6 wr => ∃ (M : List Bool) (j : Nat), MarkI w l w.heap.size M wr ∧ j ≤ l.length + 1 ∧ v6 = .int .i64 j ∧ (∃ b, v4 = .bool b) ∧ Done l Ms M v4 ((∀ x y, x < k → M.getD x false = true → goesOn l x y = true → M.getD y false = true) ∧ ∀ y, y < j → M.getD k false = true → goesOn l k y = true → M.getD y false = true)) (fun _ v6 _ => l.length + 1 - (intOf v6).toNat)
          case atStart => exact ⟨M3, 0, HI3.out, Nat.zero_le _, rfl, ⟨_, rfl⟩, HD3.out⟩
          case round =>
            rename World => w4
            obtain ⟨M, j, hI, hj, rfl, ⟨c4, rfl⟩, hdn⟩ := hrel
            by_cases hjl : j ≤ l.length
            · have hjli : (j : Int) ≤ (l.length : Int) := by omega
              have hkM : k < M.length := by rw [hI.len]; omega
              have hjM : j < M.length := by rw [hI.len]; omega
              obtain ⟨bk, hbk⟩ := at_of_lt hkM
              obtain ⟨bj, hbj⟩ := at_of_lt hjM
              have ck : w4.cell? ⟨w.heap.size, k, none⟩ = some (.bool bk) := (cell_at' hI.at_ k).trans (marks_cells hbk)
              have cj : w4.cell? ⟨w.heap.size, j, none⟩ = some (.bool bj) := (cell_at' hI.at_ j).trans (marks_cells hbj)
              have zj := Lib.frozen_of_heap hI.at_ j
              have hb4 := hI.bel
              have hk1 : (k : Int) < (l.length : Int) + 1 := by omega
              have hj1 : (j : Int) < (l.length : Int) + 1 := by omega
              have HK := hideP (getD_at hbk)
              have HJ := hideP (getD_at hbj)
              have HBJ := hideP hbj
              have HI := hideP hI
              have HDN := hideP hdn
              have keep : (M.getD k false = true → goesOn l k j = true → M.getD j false = true) → Done l Ms M (.bool c4) ((∀ x y, x < k → M.getD x false = true → goesOn l x y = true → M.getD y false = true) ∧ ∀ y, y < j + 1 → M.getD k false = true → goesOn l k y = true → M.getD y false = true) := by
                intro hnew
                rcases hdn with h | ⟨h1, h2, h3, h4⟩
                · exact .inl h
                · refine .inr ⟨h1, h2, h3, fun y hy => ?_⟩
                  rcases Nat.lt_succ_iff_lt_or_eq.1 hy with h | rfl
                  · exact h4 y h
                  · exact hnew
              have KEEP := hideP keep
              clear hbk hbj hI hdn keep hkM hjM
              cases bk
              · go_wp2
                go_roundw
                case rel => exact ⟨M, j + 1, HI.out, by omega, by go_num, ⟨_, rfl⟩, KEEP.out (fun h => by rw [HK.out] at h; cases h)⟩
                case measure => simp [intOf]; omega
              · cases bj
                · cases hgo : goesOn l k j
                  · go_wp2_with (go_at_call 74; refine (HCALL.out k j _ hlt hb4).mono ?_; rw [hgo]; rintro e w5 ⟨rfl, hw5⟩; have hw5 := hw5.symm; subst hw5)
                    go_roundw
                    case rel => exact ⟨M, j + 1, HI.out, by omega, by go_num, ⟨_, rfl⟩, KEEP.out (fun _ h => by rw [hgo] at h; cases h)⟩
                    case measure => simp [intOf]; omega
                  · go_wp2_with (go_at_call 74; refine (HCALL.out k j _ hlt hb4).mono ?_; rw [hgo]; rintro e w5 ⟨rfl, hw5⟩; have hw5 := hw5.symm; subst hw5)
                    go_roundw
                    case rel =>
                      refine ⟨M.set j true, j + 1, HI.out.mark (Nat.le_refl _) HK.out hgo (by rw [HI.out.len]; omega), by omega, by go_num, ⟨_, rfl⟩, .inl ⟨rfl, ?_⟩⟩
                      have := cf_set M j HBJ.out
                      rcases HDN.out with ⟨_, h2⟩ | ⟨_, h2, _⟩
                      · omega
                      · subst h2; omega
                    case measure => simp [intOf]; omega
                · go_wp2
                  go_roundw
                  case rel => exact ⟨M, j + 1, HI.out, by omega, by go_num, ⟨_, rfl⟩, KEEP.out (fun _ _ => HJ.out)⟩
                  case measure => simp [intOf]; omega
            · have hjli : ¬ (j : Int) ≤ (l.length : Int) := by omega
              have HI := hideP hI
              have HDN := hideP hdn
              clear hI hdn
              go_wp2
              go_roundw
              case rel =>
                refine ⟨M, k + 1, HI.out, by omega, by go_num, ?_⟩
                rcases HDN.out with h | ⟨h1, h2, h3, h4⟩
                · exact .inl h
                · refine .inr ⟨h1, h2, fun x y hx hm hg => ?_⟩
                  rcases Nat.lt_succ_iff_lt_or_eq.1 hx with h | rfl
                  · exact h3 x y h hm hg
                  · exact h4 y (by have := goesOn_le HBAD.out hg; omega) hm hg
              case measure => simp [intOf]; omega
        · have hlti : ¬ (k : Int) < (l.length : Int) := by omega
          have hsh : ∃ b4, u4 = Value.bool b4 := by rcases hdone with ⟨h, _⟩ | ⟨h, _⟩ <;> exact ⟨_, h⟩
          obtain ⟨b4, rfl⟩ := hsh
          have HD3 := hideP hdone
          have HI3 := hideP hI3
          have hcf3 := marksOf_eq hI3.at_
          have HCF := hideP hcf
          have HCF3 := hideP hcf3
          clear hdone hI3 hcf hcf3
          go_wp2
          go_roundw
          case rel =>
            refine ⟨M3, HI3.out, ?_⟩
            rcases HD3.out with ⟨h1, _⟩ | ⟨h1, _, h3⟩
            · exact .inl h1
            · exact .inr ⟨h1, fun x y hm hg => h3 x y (by have := goesOn_lt hg; omega) hm hg⟩
          case measure =>
            have e1 := HCF.out
            have e2 := HCF3.out
            rcases HD3.out with ⟨h1, h2⟩ | ⟨h1, h2, _⟩
            · cases h1
              simp only [e1, e2, moreOf]; omega
            · cases h1
              subst h2
              simp only [e1, e2, moreOf]; omega
    · have hpl : placesL (fun pc => Ms.getD pc false) (l.length + 1) = (reachL l).map Int.ofNat := by
        unfold placesL
        rw [reachL_eq (code := l) (fun pc => Ms.getD pc false) hIs.zero hIs.come hshut]
      have hb2 := hIs.bel
      have hcell : ∀ k b, Ms[k]? = some b → ∀ W : World, W.grownBy w2 none ∨ True → w2.cell? ⟨w.heap.size, k, none⟩ = some (.bool b) := fun k b hb _ _ => (cell_at' hIs.at_ k).trans (marks_cells hb)
      have HI := hideP hIs
      obtain ⟨P, hP⟩ : ∃ P : Nat → Bool, (fun pc => Ms.getD pc false) = P := ⟨_, rfl⟩
      rw [hP] at hpl
      have HP := hideP hP
      have HPL := hideP (HRR.out.trans hpl.symm)
      have hlen := hIs.len
      clear hcell hIs hshut hpl hP hcf
      go_wp2
      go_loopw [7, 8] (fun v7 i wr => ∃ k : Nat, k ≤ l.length + 1 ∧ i = .int .i64 k ∧ wr.ownsRow (w.heap.size + 1) 3 1 v7 (placesL P k).length ((placesL P k).map (Value.int .i64)) ∧ Below (w.heap.size + 1) w2 wr ∧ w.heap.size + 1 ≤ wr.heap.size) (fun _ i _ => l.length + 1 - (intOf i).toNat)
      case atStart => exact ⟨0, Nat.zero_le _, rfl, World.ownsRow_nil _ _ _ _, Below.refl _ _, heap_lt HI.out.at_⟩
      case round =>
        rename World => w3
        obtain ⟨k, hk, rfl, hrow, hbw, hsz⟩ := hrel
        obtain ⟨p7, c7, rfl⟩ := row_shp hrow
        by_cases hlt : k < l.length + 1
        · have hlti : (k : Int) ≤ (l.length : Int) := by omega
          have hlti2 : (k : Int) < (l.length : Int) + 1 := by omega
          have hle := placesL_le P k
          obtain ⟨b, hb⟩ := at_of_lt (l := Ms) (k := k) (by omega)
          have ck : w3.cell? ⟨w.heap.size, k, none⟩ = some (.bool b) := (hbw.cell (p := ⟨w.heap.size, k, none⟩) (by simp)).trans ((cell_at' HI.out.at_ k).trans (marks_cells hb))
          have hp : P k = b := by rw [← HP.out]; exact getD_at hb
          have HPK := hideP hp
          have HROW := hideP hrow
          have hrow3 := hideP (hrow.alloc (.cells #[.int .i64 k] 3))
          clear hrow hb hp
          cases b
          · go_wp2
            go_roundw
            case rel =>
              refine ⟨k + 1, by omega, by go_num, ?_, hbw, hsz⟩
              rw [placesL_succ_false HPK.out]
              exact HROW.out
            case measure => simp [intOf]; omega
          · go_wp2_with (at_builtin; refine wpList_append_own _ rfl _ _ 49 rfl (w.heap.size + 1) 3 i1 (.int .i64 0) 1 8 Try.underlying49 hj hy0 hy1 hy2 rfl (by decide) _ _ _ rfl hrow3.out ⟨w3.heap.size, 0, none⟩ 1 1 [.int .i64 k] rfl rfl (cell_one_new _ _ _) (by simp [Value.oneCell']) (by unfold maxLen; omega) (by omega) (by simp; omega) ?_; intro v' w4 hown4 hg4 _; obtain ⟨g', cap', rfl⟩ := ownsRow_succ hown4)
            go_roundw
            case rel =>
              refine ⟨k + 1, by omega, by go_num, ?_, ?_, ?_⟩
              · rw [placesL_succ_true HPK.out]
                simpa using hown4
              · have h4 := hbw.alloc hsz (.cells #[.int .i64 k] 3)
                exact h4.grown hg4 (by simp; omega) (fun j hj => (hrow3.out.lt j hj).1)
              · have := hg4.size
                simp at this
                omega
            case measure => simp [intOf]; omega
        · have hlti : ¬ (k : Int) ≤ (l.length : Int) := by omega
          have hkn := hideP (show k = l.length + 1 by omega)
          clear hlt hk
          go_wp2
          go_ret
          have hkn := hkn.out
          subst hkn
          rw [HPL.out]
          exact ⟨_, rfl, row_low hrow (by omega), hb2.trans (hbw.mono (by omega))⟩
end Go.Proofs.Ytjcaapgecimooaa
/- verify.entries. -/
namespace Go.Proofs.Ytjcaapgecimooaa
open Go.RowKit
set_option linter.unusedSimpArgs false
set_option linter.unusedVariables false
theorem infoEntry : (Try.prog.info? 97).map (fun i => (i.zero, i.size, i.bytes)) = some (some (.agg #[.int .i64 0, .slice none 0 0]), 2, 32) := by kernel_rfl
/-- the cells of entries. -/
def entCells (q : List (Nat × Value)) : List Value := q.flatMap fun x => [.int .i64 x.1, x.2]
def EntRows (W : World) (B : Nat) (q : List (Nat × Value)) (l : List (Nat × List Int)) : Prop :=
  q.length = l.length ∧ ∀ (k : Nat) (x : Nat × Value) (y : Nat × List Int), q[k]? = some x → l[k]? = some y → x.1 = y.1 ∧ W.ownsRow B 3 1 x.2 y.2.length (y.2.map (Value.int .i64))
theorem EntRows.kept {W W' : World} {B : Nat} {q : List (Nat × Value)} {l : List (Nat × List Int)} {row : Option Nat} (h : EntRows W B q l) (hg : W.grownBy W' row) (hr : ∀ r, row = some r → ∃ cs t fz, W.heap[r]? = some (.cells cs t fz) ∧ t ≠ 3) : EntRows W' B q l := by
  refine ⟨h.1, fun k x y hx hy => ?_⟩
  obtain ⟨h1, h2⟩ := h.2 k x y hx hy
  refine ⟨h1, row_same h2 fun j hj => hg.block j (h2.lt j hj).2 (fun e => ?_)⟩
  obtain ⟨cs, t, fz, h3, h4⟩ := hr j e.symm
  exact row_not h2 h3 h4 hj.symm
theorem EntRows.snoc {W : World} {B : Nat} {q : List (Nat × Value)} {l : List (Nat × List Int)} {pc : Nat} {u : Value} {s : List Int} (h : EntRows W B q l) (hu : W.ownsRow B 3 1 u s.length (s.map (Value.int .i64))) : EntRows W B (q ++ [(pc, u)]) (l ++ [(pc, s)]) := by
  refine ⟨by simp [h.1], fun k x y hx hy => ?_⟩
  by_cases hk : k < q.length
  · rw [List.getElem?_append_left hk] at hx
    rw [List.getElem?_append_left (by rw [← h.1]; exact hk)] at hy
    exact h.2 k x y hx hy
  · rw [List.getElem?_append_right (by omega)] at hx
    rw [List.getElem?_append_right (by rw [← h.1]; omega)] at hy
    have hk0 : k - q.length = 0 := by
      have := lt_of_at hx
      simp at this
      omega
    rw [hk0] at hx
    rw [← h.1, hk0] at hy
    simp at hx hy
    subst hx hy
    exact ⟨rfl, hu⟩
/-- a slice of entries comes back, in memory of the call's own. -/
def EntsP (w : World) (l : List (Nat × List Int)) (e : Ending) (w' : World) : Prop := ∃ v q, e = .returned v ∧ w'.ownsRow w.heap.size 97 2 v q.length (entCells q) ∧ EntRows w' w.heap.size q l ∧ Below w.heap.size w w'
set_option maxRecDepth 100000 in
set_option maxHeartbeats 4000000 in
theorem entries_any (C : List (Int × Int)) (E : Ents) (V : List Value) (Rs : Nat) (vC : Value) (w : World) (hC : OpsAt w vC C) (hfl : flowErr C = 0) (hE : E.length = C.length) (hV : V.length = E.length) (hRs : w.heap[Rs]? = some (.cells V.toArray 49 (0, 0)))
    (hall : ∀ (k : Nat) (s : List Int), E[k]? = some (some s) → s.length ≤ 8 ∧ ∃ v, V[k]? = some v ∧ IntsAt w v s ∧ NilOk v) (hre : ∀ pc, Come C pc → pc < C.length ∧ ∃ s, ent E pc = some s) :
    Calls Try.prog 98 #[vC, .slice (some ⟨Rs, 0, none⟩) E.length E.length] w (EntsP w ((reachL C).map fun pc => (pc, (ent E pc).getD []))) := by
  obtain ⟨i0, hi, hz0, hz1, hz2⟩ := info_parts infoEntry
  have h40 := flowErr_40 hfl
  have hR := flowReach_any C vC w hC
  have hrr : reachR C = (reachL C).map Int.ofNat := by rw [reachR, if_pos hfl]
  rw [hfl, hrr] at hR
  have hlr : (reachL C).length ≤ 41 := by
    unfold reachL
    have := List.length_filter_le (fun x => @decide (Come C x) (Classical.propDecidable _)) (List.range (C.length + 1))
    rw [List.length_range] at this
    omega
  have hmem : ∀ pc, pc ∈ reachL C → Come C pc := fun pc h => (mem_reachL (flowErr_zero hfl).2.2).1 h
  obtain ⟨p0, c0, hvC, _, _⟩ := id hC
  subst hvC
  have HALL := hideP hall
  have HRE := hideP hre
  have HMEM := hideP hmem
  have HR := hideP hR
  have HRS := hideP hRs
  generalize reachL C = R at *
  clear hall hre hmem hR hrr hRs hC hfl
  go_enter Try.func98, Try.ntmps98
  go_wp2_with fail
  refine HR.out.mono ?_
  rintro e w1 ⟨u1, rfl, r1, hb1⟩
  obtain ⟨p1, c1, hu1⟩ := row_shp r1
  rw [List.length_map] at hu1
  subst hu1
  have R1 := hideP (intsAt_of_row rfl r1)
  clear r1
  go_wp2
  go_loopw [7, 9, 17] (fun v7 _ i wr => ∃ (k : Nat) (q : List (Nat × Value)), k ≤ R.length ∧ i = .int .i64 k ∧ wr.ownsRow w1.heap.size 97 2 v7 q.length (entCells q) ∧ EntRows wr w.heap.size q ((R.take k).map fun pc => (pc, (ent E pc).getD [])) ∧ Below w1.heap.size w1 wr) (fun _ _ i _ => R.length - (intOf i).toNat)
  case atStart => exact ⟨0, [], Nat.zero_le _, rfl, World.ownsRow_nil _ _ _ _, ⟨rfl, fun k x y hx => by simp at hx⟩, Below.refl _ _⟩
  case round =>
    rename World => w2
    obtain ⟨k, q, hk, rfl, hrow, hq, hb2⟩ := hrel
    obtain ⟨p7, c7, hv7⟩ := row_shp hrow
    subst hv7
    have hB2 := hb1.trans (hb2.mono hb1.size)
    have hql : q.length = k := by rw [hq.1]; simp; omega
    by_cases hlt : k < R.length
    · have hlti : (k : Int) < (R.length : Int) := by omega
      obtain ⟨pc, hpc⟩ := at_of_lt hlt
      obtain ⟨hpl, s, hes⟩ := HRE.out pc (HMEM.out pc (List.mem_of_getElem? hpc))
      obtain ⟨h8, v, hv1, hv2, hv3⟩ := HALL.out pc s (ent_some hes)
      have i2 := R1.out.below hb2
      obtain ⟨pr, cr, her, _, hcr⟩ := i2
      obtain ⟨br, or_, hpr, hbr, gr⟩ := hcr k (Int.ofNat pc) (by rw [List.getElem?_map, hpc]; rfl)
      rw [List.length_map] at her
      cases her
      subst hpr
      have gr' : w2.cell? ⟨br, or_ + k, none⟩ = some (.int .i64 (pc : Int)) := gr
      have gs : w2.cell? ⟨Rs, pc, none⟩ = some v := by
        rw [hB2.cell (p := ⟨Rs, pc, none⟩) (heap_lt HRS.out), cell_at' HRS.out]
        simp [hv1]
      have hpE : (pc : Int) < (E.length : Int) := by omega
      obtain ⟨ps, cs, hvs, _, _⟩ := id hv2
      subst hvs
      have HCL := hideP (cloneInt_any s _ w2 (hv2.below hB2) hv3 (by omega))
      have HES := hideP hes
      have HPC := hideP hpc
      have HQ := hideP hq
      have HROW := hideP hrow
      have HQL := hideP hql
      clear hcr gr hv1 hv2 hv3 hes hpc hq hrow hql
      go_wp2_with fail
      refine HCL.out.mono ?_
      rintro e w3 ⟨u3, rfl, r3, hb3⟩
      obtain ⟨p3, c3, hu3⟩ := row_shp r3
      subst hu3
      have hB3 := hB2.trans (hb3.mono hB2.size)
      have hrow3 := row_same HROW.out (W' := w3) fun j hj => hb3.block j (HROW.out.lt j hj).2
      have hq3 : EntRows w3 w.heap.size q ((R.take k).map fun pc => (pc, (ent E pc).getD [])) := ⟨HQ.out.1, fun a x y hx hy => by
        obtain ⟨h1, h2⟩ := HQ.out.2 a x y hx hy
        exact ⟨h1, row_same h2 fun j hj => hb3.block j (h2.lt j hj).2⟩⟩
      have hu3 := row_low r3 hB2.size
      have hrow4 := hrow3.alloc (.cells #[.int .i64 pc, .slice p3 s.length c3] 97)
      have HROW4 := hideP hrow4
      have HQ3 := hideP hq3
      have HU3 := hideP hu3
      have hqk : q.length ≤ 41 := by rw [HQL.out]; omega
      have hnews : ∀ (j : Nat) (u : Value), [Value.int .i64 pc, .slice p3 s.length c3][j]? = some u → (w3.alloc (.cells #[.int .i64 pc, .slice p3 s.length c3] 97)).cell? ((⟨w3.heap.size, 0, none⟩ : Addr).add j) = some u := by
        intro j u hj
        have hn := World.alloc_heap_new w3 (.cells #[.int .i64 pc, .slice p3 s.length c3] 97)
        match j, hj with
        | 0, hj => simp at hj; subst hj; exact cell_at' hn 0
        | 1, hj => simp at hj; subst hj; exact cell_at' hn 1
        | k + 2, hj => simp at hj
      have HNEWS := hideP hnews
      clear r3 hrow3 hq3 hu3 hrow4 hnews
      go_wp2_with (at_builtin; refine wpList_append_own _ rfl _ _ 93 rfl w1.heap.size 97 i0 (.agg #[.int .i64 0, .slice none 0 0]) 2 32 Try.underlying93 hi hz0 hz1 hz2 rfl (by decide) _ _ _ rfl HROW4.out ⟨w3.heap.size, 0, none⟩ 1 1 [.int .i64 pc, .slice p3 s.length c3] rfl rfl HNEWS.out (by intro u hu; simp at hu; rcases hu with rfl | rfl <;> rfl) (by unfold maxLen; omega) (by omega) (by have := hb3.size; have := hb2.size; simp; omega) ?_; intro v' w4 hown4 hg4 _; obtain ⟨g', cap', rfl⟩ := ownsRow_succ hown4)
      go_roundw
      case rel =>
        have hga := World.grownBy_alloc w3 (.cells #[.int .i64 pc, .slice p3 s.length c3] 97) none
        have hq4 := HQ3.out.kept hga (fun r h => by cases h)
        have hne4 : ∀ r, Value.ownBlock (.slice p7 q.length c7) = some r → ∃ cs t fz, (w3.alloc (.cells #[.int .i64 pc, .slice p3 s.length c3] 97)).heap[r]? = some (.cells cs t fz) ∧ t ≠ 3 := by
          intro r hr
          rcases HROW4.out.2 with ⟨hv, _⟩ | ⟨g, cap, cur, hv, _, hg, _⟩
          · rw [hv] at hr; cases hr
          · rw [hv] at hr; cases hr; exact ⟨_, _, _, hg, by decide⟩
        have hq5 := hq4.kept hg4 hne4
        have hu4 := (HU3.out.alloc (.cells #[.int .i64 pc, .slice p3 s.length c3] 97))
        have hu5 := row_same hu4 (W' := w4) fun j hj => hg4.block j (hu4.lt j hj).2 (fun e => by
          obtain ⟨cs, t, fz, h3, h4⟩ := hne4 j e.symm
          exact row_not hu4 h3 h4 hj.symm)
        refine ⟨k + 1, q ++ [(pc, .slice p3 s.length c3)], by omega, by go_num, ?_, ?_, ?_⟩
        · have e1 : entCells (q ++ [(pc, .slice p3 s.length c3)]) = entCells q ++ [.int .i64 pc, .slice p3 s.length c3] := by simp [entCells]
          rw [e1, List.length_append, List.length_singleton]
          exact hown4
        · rw [take_snoc R k pc HPC.out, List.map_append]
          have e2 : (List.map (fun pc => (pc, (ent E pc).getD [])) [pc]) = [(pc, s)] := by simp [HES.out]
          rw [e2]
          exact hq5.snoc hu5
        · have hbA := (hb2.trans (hb3.mono hb2.size)).alloc (Nat.le_trans hb2.size hb3.size) (.cells #[.int .i64 pc, .slice p3 s.length c3] 97)
          exact hbA.grown hg4 (by have := hb3.size; have := hb2.size; simp; omega) (fun j hj => (HROW4.out.lt j hj).1)
      case measure => simp [intOf]; omega
    · have hlti : ¬ (k : Int) < (R.length : Int) := by omega
      have HQ := hideP hq
      have HROW := hideP hrow
      clear hq hrow hql
      go_wp2
      go_ret
      have h1 := HQ.out
      rw [List.take_of_length_le (by omega)] at h1
      exact ⟨_, q, rfl, row_low HROW.out hb1.size, h1, hB2⟩
end Go.Proofs.Ytjcaapgecimooaa
