/- The reference's flow: CheckFlow, GoesOn, NextOf, BackOf. -/
import Derived.Test.YtenaionchlnpoabFg
import Derived.Test.YtenaionchlnpoabWb
namespace Go.Proofs.Ytenaionchlnpoab
open Go.RowKit
set_option linter.unusedSimpArgs false
set_option linter.unusedVariables false
set_option maxHeartbeats 2000000 in
theorem goesOn_any (l : List (Int × Int)) (k t : Nat) (v : Value) (w : World) (h : OpsAt w v l) (hk : k < l.length) : Calls Try.prog 30 #[v, .int .i64 k, .int .i64 t] w fun e w' => e = .returned (.bool (goesOn l k t)) ∧ w' = w := by
  obtain ⟨p, cap, rfl, hm, hc⟩ := h
  obtain ⟨⟨c, a⟩, ho⟩ := at_of_lt hk
  obtain ⟨b, off, rfl, hbl, g0, g1⟩ := hc k _ ho
  simp only at g0 g1
  unfold maxLen at hm
  have hlti : (k : Int) < (l.length : Int) := by omega
  have hg : goesOn l k t = if c = 13 then false else if c = 10 then decide ((t : Int) = a) else if c = 11 then decide (t = k + 1) || decide ((t : Int) = a) else decide (t = k + 1) := by simp [goesOn, ho]
  rw [hg]
  clear hc ho hg
  have hwr : wrap64 ((k : Int) + 1) = (k : Int) + 1 := by unfold wrap64; omega
  by_cases h13 : c = 13
  · subst h13
    go_enter Try.func30, Try.ntmps30
    go_wp2
    go_ret
    exact ⟨rfl, rfl⟩
  have h13' : (c == 13) = false := by simp [h13]
  by_cases h10 : c = 10
  · subst h10
    by_cases ha : (t : Int) = a
    · have ha' : ((t : Int) == a) = true := by simp [ha]
      go_enter Try.func30, Try.ntmps30
      go_wp2
      go_ret
      exact ⟨by simp, rfl⟩
    · have ha' : ((t : Int) == a) = false := by simp [ha]
      go_enter Try.func30, Try.ntmps30
      go_wp2
      go_ret
      exact ⟨by simp [ha], rfl⟩
  have h10' : (c == 10) = false := by simp [h10]
  by_cases h11 : c = 11
  · subst h11
    by_cases hp : t = k + 1
    · have hp' : ((t : Int) == (k : Int) + 1) = true := by simp [hp]
      have hp2 : decide (t = k + 1) = true := by simp [hp]
      clear hp
      go_enter Try.func30, Try.ntmps30
      go_wp2
      go_ret
      exact ⟨by simp, rfl⟩
    · have hp' : ((t : Int) == (k : Int) + 1) = false := by simp; omega
      have hp2 : decide (t = k + 1) = false := by simp [hp]
      clear hp
      by_cases ha : (t : Int) = a
      · have ha' : ((t : Int) == a) = true := by simp [ha]
        have ha2 : decide ((t : Int) = a) = true := by simp [ha]
        clear ha
        go_enter Try.func30, Try.ntmps30
        go_wp2
        go_ret
        exact ⟨by simp, rfl⟩
      · have ha' : ((t : Int) == a) = false := by simp [ha]
        have ha2 : decide ((t : Int) = a) = false := by simp [ha]
        clear ha
        go_enter Try.func30, Try.ntmps30
        go_wp2
        go_ret
        exact ⟨by simp, rfl⟩
  have h11' : (c == 11) = false := by simp [h11]
  have hif : (if c = 13 then false else if c = 10 then decide ((t : Int) = a) else if c = 11 then decide (t = k + 1) || decide ((t : Int) = a) else decide (t = k + 1)) = decide (t = k + 1) := by rw [if_neg h13, if_neg h10, if_neg h11]
  rw [hif]
  clear hif
  by_cases hp : t = k + 1
  · have hp' : ((t : Int) == (k : Int) + 1) = true := by simp [hp]
    have hp2 : decide (t = k + 1) = true := by simp [hp]
    rw [hp2]
    clear hp hp2 h13 h10 h11
    go_enter Try.func30, Try.ntmps30
    go_wp2
    go_ret
    exact ⟨by simp, rfl⟩
  · have hp' : ((t : Int) == (k : Int) + 1) = false := by simp; omega
    have hp2 : decide (t = k + 1) = false := by simp [hp]
    rw [hp2]
    clear hp hp2 h13 h10 h11
    go_enter Try.func30, Try.ntmps30
    go_wp2
    go_ret
    exact ⟨by simp, rfl⟩
set_option maxHeartbeats 2000000 in
theorem nextOf_any (l : List (Int × Int)) (t : Nat) (v : Value) (w : World) (h : OpsAt w v l) (h40 : l.length ≤ 40) (ht : t < l.length) : Calls Try.prog 10 #[v, .int .i64 t] w fun e w' => ∃ u, e = .returned u ∧ w'.ownsRow w.heap.size 3 1 u (placesL (fun to => goesOn l t to) (l.length + 1)).length ((placesL (fun to => goesOn l t to) (l.length + 1)).map (Value.int .i64)) ∧ Below w.heap.size w w' := by
  obtain ⟨i0, hi, hz0, hz1, hz2⟩ := info_parts infoInt
  have hcall : ∀ (k : Nat) (W : World), k < l.length + 1 → Below w.heap.size w W → Calls Try.prog 30 #[v, .int .i64 t, .int .i64 k] W fun e w' => e = .returned (.bool ((fun to => goesOn l t to) k)) ∧ w' = W := by
    intro k W hk hb
    exact goesOn_any l t k v W (h.below hb) (by omega)
  obtain ⟨P, hP⟩ : ∃ P : Nat → Bool, (fun to => goesOn l t to) = P := ⟨_, rfl⟩
  rw [hP] at hcall ⊢
  have HCALL := hideP hcall
  obtain ⟨p, cap, rfl, hm, _⟩ := h
  unfold maxLen at hm
  clear hcall hP
  go_enter Try.func10, Try.ntmps10
  go_wp2
  go_loopw [5, 6] (fun v5 i wr => ∃ k : Nat, k ≤ l.length + 1 ∧ i = .int .i64 k ∧ wr.ownsRow w.heap.size 3 1 v5 (placesL P k).length ((placesL P k).map (Value.int .i64)) ∧ Below w.heap.size w wr) (fun _ i _ => l.length + 1 - (intOf i).toNat)
  case atStart => exact ⟨0, Nat.zero_le _, rfl, World.ownsRow_nil _ _ _ _, Below.refl _ _⟩
  case round =>
    rename World => w2
    obtain ⟨k, hk, rfl, hrow, hbw⟩ := hrel
    obtain ⟨p5, c5, rfl⟩ := row_shp hrow
    by_cases hlt : k < l.length + 1
    · have hlti : (k : Int) ≤ (l.length : Int) := by omega
      have hle := placesL_le P k
      have HROW := hideP hrow
      clear hrow
      cases hp : P k
      · go_wp2_with (go_at_call 30; refine (HCALL.out k _ hlt hbw).mono ?_; rw [hp]; rintro e w3 ⟨rfl, hw3⟩; have hw3 := hw3.symm; subst hw3)
        go_roundw
        case rel =>
          refine ⟨k + 1, by omega, by go_num, ?_, hbw⟩
          rw [placesL_succ_false hp]
          exact HROW.out
        case measure => simp [intOf]; omega
      · have hrow3 := hideP (HROW.out.alloc (.cells #[.int .i64 k] 3))
        go_wp2_with (first
          | (go_at_call 30; refine (HCALL.out k _ hlt hbw).mono ?_; rw [hp]; rintro e w3 ⟨rfl, hw3⟩; have hw3 := hw3.symm; subst hw3)
          | (at_builtin; refine wpList_append_own _ rfl _ _ 23 rfl w.heap.size 3 i0 (.int .i64 0) 1 8 Try.underlying23 hi hz0 hz1 hz2 rfl (by decide) _ _ _ rfl hrow3.out ⟨w2.heap.size, 0, none⟩ 1 1 [.int .i64 k] rfl rfl (cell_one_new _ _ _) (by simp [Value.oneCell']) (by unfold maxLen; omega) (by omega) (by have := hbw.size; simp; omega) ?_; intro v' w4 hown4 hg4 _; obtain ⟨g', cap', rfl⟩ := ownsRow_succ hown4))
        go_roundw
        case rel =>
          refine ⟨k + 1, by omega, by go_num, ?_, ?_⟩
          · rw [placesL_succ_true hp]
            simpa using hown4
          · have h4 := hbw.alloc hbw.size (.cells #[.int .i64 k] 3)
            exact h4.grown hg4 (by have := hbw.size; simp; omega) (fun j hj => (hrow3.out.lt j hj).1)
        case measure => simp [intOf]; omega
    · have hlt' : ¬ (k : Int) ≤ (l.length : Int) := by omega
      have hkn := hideP (show k = l.length + 1 by omega)
      clear hlt hk
      go_wp2
      go_ret
      have hkn := hkn.out
      subst hkn
      exact ⟨_, rfl, hrow, hbw⟩
set_option maxHeartbeats 2000000 in
theorem backOf_any (l : List (Int × Int)) (t : Nat) (v : Value) (w : World) (h : OpsAt w v l) (h40 : l.length ≤ 40) (ht : t ≤ l.length) : Calls Try.prog 12 #[v, .int .i64 t] w fun e w' => ∃ u, e = .returned u ∧ w'.ownsRow w.heap.size 3 1 u (placesL (fun pc => goesOn l pc t) (l.length)).length ((placesL (fun pc => goesOn l pc t) (l.length)).map (Value.int .i64)) ∧ Below w.heap.size w w' := by
  obtain ⟨i0, hi, hz0, hz1, hz2⟩ := info_parts infoInt
  have hcall : ∀ (k : Nat) (W : World), k < l.length → Below w.heap.size w W → Calls Try.prog 30 #[v, .int .i64 k, .int .i64 t] W fun e w' => e = .returned (.bool ((fun pc => goesOn l pc t) k)) ∧ w' = W := by
    intro k W hk hb
    exact goesOn_any l k t v W (h.below hb) (by omega)
  obtain ⟨P, hP⟩ : ∃ P : Nat → Bool, (fun pc => goesOn l pc t) = P := ⟨_, rfl⟩
  rw [hP] at hcall ⊢
  have HCALL := hideP hcall
  obtain ⟨p, cap, rfl, hm, _⟩ := h
  unfold maxLen at hm
  clear hcall hP
  go_enter Try.func12, Try.ntmps12
  go_wp2
  go_loopw [5, 6] (fun v5 i wr => ∃ k : Nat, k ≤ l.length ∧ i = .int .i64 k ∧ wr.ownsRow w.heap.size 3 1 v5 (placesL P k).length ((placesL P k).map (Value.int .i64)) ∧ Below w.heap.size w wr) (fun _ i _ => l.length - (intOf i).toNat)
  case atStart => exact ⟨0, Nat.zero_le _, rfl, World.ownsRow_nil _ _ _ _, Below.refl _ _⟩
  case round =>
    rename World => w2
    obtain ⟨k, hk, rfl, hrow, hbw⟩ := hrel
    obtain ⟨p5, c5, rfl⟩ := row_shp hrow
    by_cases hlt : k < l.length
    · have hlti : (k : Int) < (l.length : Int) := by omega
      have hle := placesL_le P k
      have HROW := hideP hrow
      clear hrow
      cases hp : P k
      · go_wp2_with (go_at_call 30; refine (HCALL.out k _ hlt hbw).mono ?_; rw [hp]; rintro e w3 ⟨rfl, hw3⟩; have hw3 := hw3.symm; subst hw3)
        go_roundw
        case rel =>
          refine ⟨k + 1, by omega, by go_num, ?_, hbw⟩
          rw [placesL_succ_false hp]
          exact HROW.out
        case measure => simp [intOf]; omega
      · have hrow3 := hideP (HROW.out.alloc (.cells #[.int .i64 k] 3))
        go_wp2_with (first
          | (go_at_call 30; refine (HCALL.out k _ hlt hbw).mono ?_; rw [hp]; rintro e w3 ⟨rfl, hw3⟩; have hw3 := hw3.symm; subst hw3)
          | (at_builtin; refine wpList_append_own _ rfl _ _ 23 rfl w.heap.size 3 i0 (.int .i64 0) 1 8 Try.underlying23 hi hz0 hz1 hz2 rfl (by decide) _ _ _ rfl hrow3.out ⟨w2.heap.size, 0, none⟩ 1 1 [.int .i64 k] rfl rfl (cell_one_new _ _ _) (by simp [Value.oneCell']) (by unfold maxLen; omega) (by omega) (by have := hbw.size; simp; omega) ?_; intro v' w4 hown4 hg4 _; obtain ⟨g', cap', rfl⟩ := ownsRow_succ hown4))
        go_roundw
        case rel =>
          refine ⟨k + 1, by omega, by go_num, ?_, ?_⟩
          · rw [placesL_succ_true hp]
            simpa using hown4
          · have h4 := hbw.alloc hbw.size (.cells #[.int .i64 k] 3)
            exact h4.grown hg4 (by have := hbw.size; simp; omega) (fun j hj => (hrow3.out.lt j hj).1)
        case measure => simp [intOf]; omega
    · have hlt' : ¬ (k : Int) < (l.length : Int) := by omega
      have hkn := hideP (show k = l.length by omega)
      clear hlt hk
      go_wp2
      go_ret
      have hkn := hkn.out
      subst hkn
      exact ⟨_, rfl, hrow, hbw⟩
set_option maxHeartbeats 4000000 in
theorem checkFlow_any (l : List (Int × Int)) (v : Value) (w : World) (h : OpsAt w v l) : Calls Try.prog 9 #[v] w fun e w' => e = .returned (.int .i64 (flowErr l)) ∧ Below w.heap.size w w' := by
  have h' := h
  obtain ⟨p, cap, rfl, hm, hc⟩ := h'
  unfold maxLen at hm
  have HC := hideP hc
  clear hc
  by_cases hce : codeErr l = 0
  · have hck : ∀ W : World, OpsAt W (.slice p l.length cap) l → Calls Try.prog 28 #[.slice p l.length cap] W fun e w' => e = .returned (.int .i64 0) ∧ Below W.heap.size W w' := by
      intro W hW
      have := checkCode_any l _ W hW
      rw [hce] at this
      exact this
    have HCK := hideP hck
    have HCE := hideP hce
    clear hck hce
    by_cases hl : l.length = 0
    · obtain rfl : l = [] := List.eq_nil_of_length_eq_zero hl
      go_enter Try.func9, Try.ntmps9
      go_wp2_with (go_at_call 28; refine (HCK.out _ h).mono ?_; rintro e w1 ⟨rfl, hb1⟩)
      go_loopw [3, 4] (fun x i wr => x = .int .i64 5 ∧ i = .int .i64 0 ∧ wr = w1) (fun _ _ _ => 0)
      case atStart => exact ⟨rfl, rfl, rfl⟩
      case round =>
        obtain ⟨rfl, rfl, hw⟩ := hrel
        subst hw
        go_wp2
        go_ret
        exact ⟨by rw [flowErr, if_neg (by simp [HCE.out]), if_pos hl]; rfl, hb1⟩
    · have hl' : ((l.length : Int) == 0) = false := by simp; simpa using hl
      have HL := hideP hl
      have hl2 : 0 < l.length := by omega
      clear hl
      go_enter Try.func9, Try.ntmps9
      go_wp2_with (go_at_call 28; refine (HCK.out _ h).mono ?_; rintro e w1 ⟨rfl, hb1⟩)
      go_loopw [3, 4] (fun x i wr => ∃ k : Nat, k ≤ l.length ∧ i = .int .i64 k ∧ wr = w1 ∧ ((x = .int .i64 0 ∧ ∀ o ∈ l.take k, (!badTo l.length o) = true) ∨ (x = .int .i64 3 ∧ l.any (badTo l.length) = true))) (fun _ i _ => l.length - (intOf i).toNat)
      case atStart => exact ⟨0, Nat.zero_le _, rfl, rfl, .inl ⟨rfl, by simp⟩⟩
      case round =>
        obtain ⟨k, hk, rfl, hw, hx⟩ := hrel
        subst hw
        rcases hx with ⟨rfl, hok⟩ | ⟨rfl, hany⟩
        · have HK := hideP hok
          clear hok
          by_cases hlt : k < l.length
          · obtain ⟨⟨c, a⟩, ho⟩ := at_of_lt hlt
            obtain ⟨b, off, rfl, hbl, g0, g1⟩ := HC.out k _ ho
            simp only at g0 g1
            have hlti : (k : Int) < (l.length : Int) := by omega
            have d0 := (hb1.cell (p := ⟨b, off + k * 2, none⟩) hbl).trans g0
            have d1 := (hb1.cell (p := ⟨b, off + k * 2 + 1, none⟩) hbl).trans g1
            have HO := hideP ho
            have hwr : wrap64 ((l.length : Int) - 1) = (l.length : Int) - 1 := by unfold wrap64; omega
            clear ho g0 g1
            have hbe : badTo l.length (c, a) = ((c == 10 || c == 11) && !(decide (0 ≤ a) && decide (a ≤ (l.length : Int) - 1))) := by
              have e1 : decide (a < (l.length : Int)) = decide (a ≤ (l.length : Int) - 1) := by
                rw [Bool.eq_iff_iff, decide_eq_true_iff, decide_eq_true_iff]; omega
              simp only [badTo, e1]
            by_cases hj : (c == 10 || c == 11) = true
            · cases hb : (decide (0 ≤ a) && decide (a ≤ (l.length : Int) - 1))
              · have hbad : badTo l.length (c, a) = true := by rw [hbe, hj, hb]; rfl
                have HB := hideP hbad
                clear hbad hbe
                rcases Decidable.em (c = 10) with hc10 | hc10
                · subst hc10
                  clear hj
                  go_wp2_with (go_at_call 29; refine (between_any a 0 ((l.length : Int) - 1) _).mono ?_; rw [hb]; rintro e w3 ⟨rfl, hw3⟩; have hw3 := hw3.symm; subst hw3)
                  go_roundw
                  case rel => exact ⟨k + 1, by omega, by go_num, trivial, .inr ⟨rfl, List.any_eq_true.2 ⟨_, List.mem_of_getElem? HO.out, HB.out⟩⟩⟩
                  case measure => simp [intOf]; omega
                · have h10' : (c == 10) = false := by simp [hc10]
                  obtain rfl : c = 11 := by simpa [hc10] using hj
                  clear hj hc10
                  go_wp2_with (go_at_call 29; refine (between_any a 0 ((l.length : Int) - 1) _).mono ?_; rw [hb]; rintro e w3 ⟨rfl, hw3⟩; have hw3 := hw3.symm; subst hw3)
                  go_roundw
                  case rel => exact ⟨k + 1, by omega, by go_num, trivial, .inr ⟨rfl, List.any_eq_true.2 ⟨_, List.mem_of_getElem? HO.out, HB.out⟩⟩⟩
                  case measure => simp [intOf]; omega
              · have hbad : badTo l.length (c, a) = false := by rw [hbe, hb]; simp
                have HB := hideP hbad
                clear hbad hbe
                rcases Decidable.em (c = 10) with hc10 | hc10
                · subst hc10
                  clear hj
                  go_wp2_with (go_at_call 29; refine (between_any a 0 ((l.length : Int) - 1) _).mono ?_; rw [hb]; rintro e w3 ⟨rfl, hw3⟩; have hw3 := hw3.symm; subst hw3)
                  go_roundw
                  case rel => exact ⟨k + 1, by omega, by go_num, trivial, .inl ⟨rfl, all_snoc HK.out HO.out (by rw [HB.out]; rfl)⟩⟩
                  case measure => simp [intOf]; omega
                · have h10' : (c == 10) = false := by simp [hc10]
                  obtain rfl : c = 11 := by simpa [hc10] using hj
                  clear hj hc10
                  go_wp2_with (go_at_call 29; refine (between_any a 0 ((l.length : Int) - 1) _).mono ?_; rw [hb]; rintro e w3 ⟨rfl, hw3⟩; have hw3 := hw3.symm; subst hw3)
                  go_roundw
                  case rel => exact ⟨k + 1, by omega, by go_num, trivial, .inl ⟨rfl, all_snoc HK.out HO.out (by rw [HB.out]; rfl)⟩⟩
                  case measure => simp [intOf]; omega
            · have hbad : badTo l.length (c, a) = false := by rw [hbe]; rw [Bool.not_eq_true] at hj; rw [hj]; rfl
              have HB := hideP hbad
              have h10 : (c == 10) = false := by cases h : (c == 10); rfl; simp [h] at hj
              have h11 : (c == 11) = false := by cases h : (c == 11); rfl; simp [h] at hj
              clear hbad hbe hj
              go_wp2
              go_roundw
              case rel => exact ⟨k + 1, by omega, by go_num, trivial, .inl ⟨rfl, all_snoc HK.out HO.out (by rw [HB.out]; rfl)⟩⟩
              case measure => simp [intOf]; omega
          · have hlt' : ¬ (k : Int) < (l.length : Int) := by omega
            have hany : l.any (badTo l.length) = false := by
              have := HK.out
              rw [List.take_of_length_le (by omega)] at this
              rw [Bool.eq_false_iff]
              intro h
              obtain ⟨o, h1, h2⟩ := List.any_eq_true.1 h
              have := this o h1
              rw [h2] at this
              cases this
            have HA := hideP hany
            clear hany
            go_wp2
            go_ret
            exact ⟨by rw [flowErr, if_neg (by simp [HCE.out]), if_neg HL.out, if_neg (by rw [HA.out]; decide)]; rfl, hb1⟩
        · have HA := hideP hany
          clear hany
          by_cases hlt : k < l.length
          · have hlti : (k : Int) < (l.length : Int) := by omega
            go_wp2
            go_ret
            exact ⟨by rw [flowErr, if_neg (by simp [HCE.out]), if_neg HL.out, if_pos HA.out]; rfl, hb1⟩
          · have hlt' : ¬ (k : Int) < (l.length : Int) := by omega
            go_wp2
            go_ret
            exact ⟨by rw [flowErr, if_neg (by simp [HCE.out]), if_neg HL.out, if_pos HA.out]; rfl, hb1⟩
  · have hne : (codeErr l == 0) = false := by simp [hce]
    have HCE := hideP hce
    clear hce
    go_enter Try.func9, Try.ntmps9
    go_wp2_with (go_at_call 28; refine (checkCode_any l _ _ h).mono ?_; rintro e w1 ⟨rfl, hb1⟩)
    go_loopw [3, 4] (fun x i wr => x = .int .i64 (codeErr l) ∧ i = .int .i64 0 ∧ wr = w1) (fun _ _ _ => 0)
    case atStart => exact ⟨rfl, rfl, rfl⟩
    case round =>
      obtain ⟨rfl, rfl, hw⟩ := hrel
      subst hw
      by_cases hlt : 0 < l.length
      · have hlti : (0 : Int) < (l.length : Int) := by omega
        go_wp2
        go_ret
        exact ⟨by rw [flowErr, if_pos HCE.out]; rfl, hb1⟩
      · have hlti : ¬ (0 : Int) < (l.length : Int) := by omega
        go_wp2
        go_ret
        exact ⟨by rw [flowErr, if_pos HCE.out]; rfl, hb1⟩
end Go.Proofs.Ytenaionchlnpoab

