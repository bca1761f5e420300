/- CheckProgram. -/
import Derived.Test.YtenaionchlnpoaaVl
import Derived.Test.YtenaionchlnpoaaWb
namespace Go.Proofs.Ytenaionchlnpoaa
open Go.RowKit
set_option linter.unusedSimpArgs false
set_option linter.unusedVariables false
theorem progErr_at {l : List Fn} {k : Nat} {f : Fn} (h0 : ¬ l.length = 0) (h5 : ¬ 5 < l.length) (hk : l[k]? = some f) (hpre : ∀ x ∈ l.take k, fnErr x l.length = 0) {r : Int} (hr : fnErr f l.length = r) (he : ¬ r = 0) : progErr l = r := by
  have h1 := fnsErr_at l.length l k f hk hpre (by rw [hr]; exact he)
  unfold progErr
  rw [if_neg h0, if_neg h5, h1, hr, if_pos he]
theorem okType_eq (z : Int) : okType z = (decide (1 ≤ z) && decide (z ≤ 2)) := by
  unfold okType
  rw [Bool.eq_iff_iff]
  simp
  omega
/-- are the result and the locals so far of types that they may have? -/
def kindsB (R : Int) (L : List Int) (j : Nat) : Bool := (decide (0 ≤ R) && decide (R ≤ 2)) && (L.take j).all okType
theorem kindsB_zero (R : Int) (L : List Int) : kindsB R L 0 = (decide (0 ≤ R) && decide (R ≤ 2)) := by simp [kindsB]
theorem kindsB_succ (R : Int) (L : List Int) (j : Nat) (z : Int) (h : L[j]? = some z) : kindsB R L (j + 1) = (kindsB R L j && (decide (1 ≤ z) && decide (z ≤ 2))) := by
  unfold kindsB
  rw [take_snoc L j z h, List.all_append, ← okType_eq]
  simp [Bool.and_assoc]
theorem kindsB_all (P R : Int) (L : List Int) (C : List (Int × Int)) : kindsB R L L.length = typedB (P, L, R, C) := by
  simp [kindsB, typedB, Bool.and_comm]
set_option maxRecDepth 100000 in
set_option maxHeartbeats 16000000 in
theorem checkProgram_any (l : List Fn) (v : Value) (w : World) (h : FnsAt w v l) : Calls Try.prog 22 #[.agg #[v]] w fun e w' => e = .returned (.int .i64 (progErr l)) ∧ Below w.heap.size w w' := by
  obtain ⟨p, cap, rfl, hm, hc⟩ := h
  unfold maxLen at hm
  have n1 := heap_new w (.cells #[.slice p l.length cap] 41)
  have hw : Below w.heap.size w (w.alloc (.cells #[.slice p l.length cap] 41)) := (Below.refl _ w).alloc (Nat.le_refl _) _
  obtain ⟨W1, hW1⟩ : ∃ W, w.alloc (.cells #[.slice p l.length cap] 41) = W := ⟨_, rfl⟩
  rw [hW1] at n1 hw
  have hz1 := heap_lt n1
  have a1 := cell_at' n1 0
  simp only [List.getElem?_toArray, List.getElem?_cons_zero] at a1
  have HC := hideP hc
  clear hc n1
  by_cases h0 : l.length = 0
  · have h0' : ((l.length : Int) == 0) = true := beq_iff_eq.2 (by omega)
    have HE : Hid (progErr l = 5) := by show _ = _; simp [progErr, h0]
    clear h0
    go_enter Try.func22, Try.ntmps22
    go_wp2
    go_ret
    exact ⟨by rw [HE.out]; rfl, hw⟩
  have h0' : ((l.length : Int) == 0) = false := beq_eq_false_iff_ne.2 (by omega)
  by_cases h5 : 5 < l.length
  · have h5' : (5 : Int) < (l.length : Int) := by omega
    have HE : Hid (progErr l = 2) := by show _ = _; simp [progErr, h0, h5]
    clear h0
    go_enter Try.func22, Try.ntmps22
    go_wp2
    go_ret
    exact ⟨by rw [HE.out]; rfl, hw⟩
  have h5' : ¬ (5 : Int) < (l.length : Int) := by omega
  have hl5 : l.length ≤ 5 := by omega
  have hpos : 0 < l.length := by omega
  have H0 := hideP h0
  have H5 := hideP h5
  clear h0 h5
  go_enter Try.func22, Try.ntmps22
  go_wp2
  go_loopw [3] (fun i wr => ∃ k : Nat, k ≤ l.length ∧ i = .int .i64 k ∧ (∀ f ∈ l.take k, fnErr f l.length = 0) ∧ Below W1.heap.size W1 wr) (fun i _ => l.length - (intOf i).toNat)
  case atStart => exact ⟨0, Nat.zero_le _, rfl, by simp, Below.refl _ _⟩
  case round =>
    rename World => w2
    obtain ⟨k, hk, rfl, hok, hbw1⟩ := hrel
    have HK := hideP hok
    clear hok
    have hbw := hw.trans (hbw1.mono hw.size)
    have b1 := (hbw1.cell (p := ⟨w.heap.size, 0, none⟩) hz1).trans a1
    have hzr := hbw1.size
    by_cases hlt : k < l.length
    · have hlti : (k : Int) < (l.length : Int) := by omega
      obtain ⟨⟨P, L, R, C⟩, ho⟩ := at_of_lt hlt
      obtain ⟨b, off, c0, c1, c2, c3, rfl, hb, x0, x1, x2, x3, hF⟩ := HC.out k _ ho
      have g0 := (hbw.cell (p := ⟨b, off + k * 4, none⟩) hb).trans x0
      have g1 := (hbw.cell (p := ⟨b, off + k * 4 + 1, none⟩) hb).trans x1
      have g2 := (hbw.cell (p := ⟨b, off + k * 4 + 2, none⟩) hb).trans x2
      have g3 := (hbw.cell (p := ⟨b, off + k * 4 + 3, none⟩) hb).trans x3
      have hFr := hF.below hbw
      have HO := hideP ho
      clear ho x0 x1 x2 x3
      obtain ⟨rfl, ⟨p1, q1, rfl, hLm, _⟩, rfl, ⟨p3, q3, rfl, hCm, _⟩⟩ := hF
      simp only at g0 g1 g2 g3 hFr hLm hCm
      unfold maxLen at hLm hCm
      have nF := heap_new w2 (.cells #[.int .i64 P, .slice p1 L.length q1, .int .i64 R, .slice p3 C.length q3] 72)
      have bF : Below w2.heap.size w2 (w2.alloc (.cells #[.int .i64 P, .slice p1 L.length q1, .int .i64 R, .slice p3 C.length q3] 72)) := (Below.refl _ w2).alloc (Nat.le_refl _) _
      obtain ⟨WF, hWF⟩ : ∃ W, w2.alloc (.cells #[.int .i64 P, .slice p1 L.length q1, .int .i64 R, .slice p3 C.length q3] 72) = W := ⟨_, rfl⟩
      rw [hWF] at nF bF
      have hzF := heap_lt nF
      have hFF := hFr.below bF
      have e0 := cell_at' nF 0
      have e1 := cell_at' nF 1
      have e2 := cell_at' nF 2
      have e3 := cell_at' nF 3
      have e4 := (bF.cell (p := ⟨w.heap.size, 0, none⟩) (by simp; omega)).trans b1
      simp at e0 e1 e2 e3
      have hBF1 := hbw1.trans (bF.mono hbw1.size)
      have hBF := hbw.trans (bF.mono hbw.size)
      by_cases h6 : 6 < L.length
      · have h6' : (6 : Int) < (L.length : Int) := by omega
        go_wp2
        go_ret
        exact ⟨by rw [progErr_at H0.out H5.out HO.out HK.out (r := 2) (by simp [fnErr, h6]) (by decide)]; rfl, hBF⟩
      have h6' : ¬ (6 : Int) < (L.length : Int) := by omega
      obtain ⟨x1, hx1⟩ : ∃ x, (decide (0 ≤ P) && decide (P ≤ (L.length : Int))) = x := ⟨_, rfl⟩
      cases x1
      · have hP : P < 0 ∨ (L.length : Int) < P := by simp at hx1; omega
        have HX := hideP hx1
        have HP := hideP hP
        clear hx1 hP
        go_wp2_with fail
        refine (between_any _ _ _ _).mono ?_
        rintro e w' ⟨rfl, hw'⟩
        have hw' := hw'.symm
        subst hw'
        rw [HX.out]
        go_wp2
        go_ret
        exact ⟨by rw [progErr_at H0.out H5.out HO.out HK.out (r := 3) (by simp only [fnErr]; rw [if_neg h6, if_pos HP.out]) (by decide)]; rfl, hBF⟩
      have hP : ¬ (P < 0 ∨ (L.length : Int) < P) := by simp at hx1; omega
      have HX := hideP hx1
      have HP := hideP hP
      clear hx1 hP
      go_wp2_with fail
      refine (between_any _ _ _ _).mono ?_
      rintro e w' ⟨rfl, hw'⟩
      have hw' := hw'.symm
      subst hw'
      rw [HX.out]
      go_wp2_with fail
      refine (between_any _ _ _ _).mono ?_
      rintro e w' ⟨rfl, hw'⟩
      have hw' := hw'.symm
      subst hw'
      rw [← kindsB_zero R L]
      go_wp2
      go_loopw [5, 6] (fun a i wr => ∃ j : Nat, j ≤ L.length ∧ i = .int .i64 j ∧ a = .bool (kindsB R L j) ∧ wr = WF) (fun _ i _ => L.length - (intOf i).toNat)
      case atStart => exact ⟨0, Nat.zero_le _, rfl, rfl, rfl⟩
      case round =>
        rename World => w3
        obtain ⟨j, hj, rfl, rfl, hw3⟩ := hrel
        subst hw3
        obtain ⟨kb, hkb⟩ : ∃ x, kindsB R L j = x := ⟨_, rfl⟩
        rw [hkb]
        have HKB := hideP hkb
        clear hkb
        by_cases hjl : j < L.length
        · have hji : (j : Int) < (L.length : Int) := by omega
          cases kb
          · go_wp2
            go_roundw
            case rel =>
              obtain ⟨z, hz⟩ := at_of_lt hjl
              exact ⟨j + 1, by omega, by go_num, by rw [kindsB_succ R L j z hz, HKB.out]; rfl, trivial⟩
            case measure => simp [intOf]; omega
          · obtain ⟨z, hz⟩ := at_of_lt hjl
            obtain ⟨_, _, hpp, _, hcc⟩ := hFF.2.1
            obtain ⟨bL, oL, hpe, _, cz⟩ := hcc j z hz
            cases hpp
            subst hpe
            have HZ := hideP hz
            clear hz hcc
            go_wp2_with fail
            refine (between_any _ _ _ _).mono ?_
            rintro e w' ⟨rfl, hw'⟩
            have hw' := hw'.symm
            subst hw'
            go_wp2
            go_roundw
            case rel => exact ⟨j + 1, by omega, by go_num, by rw [kindsB_succ R L j z HZ.out, HKB.out]; rfl, trivial⟩
            case measure => simp [intOf]; omega
        · have hji : ¬ (j : Int) < (L.length : Int) := by omega
          obtain rfl : j = L.length := by omega
          have HT : Hid (typedB (P, L, R, C) = kb) := by show _ = _; rw [← HKB.out, kindsB_all P R L C]
          clear HKB
          cases kb
          · go_wp2
            go_ret
            exact ⟨by rw [progErr_at H0.out H5.out HO.out HK.out (r := 6) (by simp only [fnErr]; rw [if_neg h6, if_neg HP.out, if_pos HT.out]) (by decide)]; rfl, hBF⟩
          by_cases hC0 : C.length = 0
          · have hC0' : ((C.length : Int) == 0) = true := beq_iff_eq.2 (by omega)
            have HC0 := hideP hC0
            clear hC0
            go_wp2
            go_ret
            exact ⟨by rw [progErr_at H0.out H5.out HO.out HK.out (r := 5) (by simp only [fnErr]; rw [if_neg h6, if_neg HP.out, if_neg (by rw [HT.out]; decide), if_pos HC0.out]) (by decide)]; rfl, hBF⟩
          have hC0' : ((C.length : Int) == 0) = false := beq_eq_false_iff_ne.2 (by omega)
          have HC0 := hideP hC0
          obtain ⟨ce, hce⟩ : ∃ x, codeErr C = x := ⟨_, rfl⟩
          have hck := checkCode_any C _ _ hFF.2.2.2
          rw [hce] at hck
          have HCK := hideP hck
          have HCE := hideP hce
          clear hck hce hC0
          go_wp2_with fail
          refine HCK.out.mono ?_
          rintro e w4 ⟨rfl, hb4⟩
          have hB4 := hBF.trans (hb4.mono hBF.size)
          have hB41 := hBF1.trans (hb4.mono hBF1.size)
          clear HCK
          by_cases hce : ce = 0
          · subst hce
            have hF4 := hFF.below hb4
            have n4 := (hb4.block _ hzF).trans nF
            have hz4 := heap_lt n4
            go_wp2
            go_loopw [8] (fun i wr => ∃ j : Nat, j ≤ C.length ∧ i = .int .i64 j ∧ (∀ o ∈ C.take j, namesB o (P, L, R, C) l.length = true) ∧ Below w4.heap.size w4 wr) (fun i _ => C.length - (intOf i).toNat)
            case atStart => exact ⟨0, Nat.zero_le _, rfl, by simp, Below.refl _ _⟩
            case round =>
              rename World => w5
              obtain ⟨j, hj, rfl, hok, hb5⟩ := hrel
              have HNB := hideP hok
              clear hok
              have n5 := (hb5.block _ hz4).trans n4
              have f1 := cell_at' n5 1
              have f3 := cell_at' n5 3
              have f0 := (hb5.cell (p := ⟨w.heap.size, 0, none⟩) (by simp; omega)).trans ((hb4.cell (p := ⟨w.heap.size, 0, none⟩) (by simp; omega)).trans e4)
              simp at f1 f3
              have hB5 := hB4.trans (hb5.mono hB4.size)
              have hB51 := hB41.trans (hb5.mono hB41.size)
              have hz5 := heap_lt n5
              by_cases hjl : j < C.length
              · skip
                obtain ⟨⟨c, a⟩, hz⟩ := at_of_lt hjl
                have hji : (j : Int) < (C.length : Int) := by omega
                have hO5 := hF4.2.2.2.below hb5
                obtain ⟨_, _, hpp, _, hcc⟩ := hO5
                obtain ⟨bC, oC, hpe, hbC, cz0, cz1⟩ := hcc j (c, a) hz
                cases hpp
                subst hpe
                simp only at cz0 cz1
                have HZ := hideP hz
                have hC40 : C.length ≤ 40 := (codeErr_zero _ HCE.out).1
                clear hz hcc
                have n6 := heap_old n5 (.cells #[.int .i64 c, .int .i64 a] 23)
                have m6 := heap_new w5 (.cells #[.int .i64 c, .int .i64 a] 23)
                have hb6 : Below w5.heap.size w5 (w5.alloc (.cells #[.int .i64 c, .int .i64 a] 23)) := (Below.refl _ w5).alloc (Nat.le_refl _) _
                have i0 := cell_old f0 (.cells #[.int .i64 c, .int .i64 a] 23)
                obtain ⟨W6, hW6⟩ : ∃ W, w5.alloc (.cells #[.int .i64 c, .int .i64 a] 23) = W := ⟨_, rfl⟩
                rw [hW6] at n6 m6 hb6 i0
                have i1 := cell_at' n6 1
                have i3 := cell_at' n6 3
                have k0 := cell_at' m6 0
                have k1 := cell_at' m6 1
                simp at i1 i3 k0 k1
                have hb46 := hb5.trans (hb6.mono hb5.size)
                have hB6 := hB5.trans (hb6.mono hB5.size)
                have hbad : namesB (c, a) (P, L, R, C) l.length = false → fnErr (P, L, R, C) l.length = 3 := fun hn => by
                  simp only [fnErr]
                  rw [if_neg h6, if_neg HP.out, if_neg (by rw [HT.out]; decide), if_neg HC0.out, if_neg (by rw [HCE.out]; decide), if_pos]
                  rw [List.all_eq_false]
                  exact ⟨(c, a), List.mem_of_getElem? HZ.out, by rw [hn]; decide⟩
                have hgood : namesB (c, a) (P, L, R, C) l.length = true → ∀ o ∈ C.take (j + 1), namesB o (P, L, R, C) l.length = true := fun hn => by
                  rw [take_snoc C j _ HZ.out]; intro x hx; rcases List.mem_append.1 hx with hx | hx
                  · exact HNB.out x hx
                  · simp at hx; subst hx; exact hn
                have HBAD := hideP hbad
                have HGOOD := hideP hgood
                clear hbad hgood n6 m6
                have hcase : (c = 8 ∨ c = 9) ∨ (c = 10 ∨ c = 11) ∨ c = 12 ∨ (¬ c = 8 ∧ ¬ c = 9 ∧ ¬ c = 10 ∧ ¬ c = 11 ∧ ¬ c = 12) := by omega
                rcases hcase with hcc | hcc | hcc | hcc
                · skip
                  obtain ⟨x, hx⟩ : ∃ x, (decide (0 ≤ a) && decide (a ≤ ((L.length : Int) : Int) - 1)) = x := ⟨_, rfl⟩
                  have HX := hideP hx
                  have HNM : Hid (namesB (c, a) (P, L, R, C) l.length = x) := by
                    show _ = _
                    rw [← hx]
                    have e9 : isNum a L.length = (decide (0 ≤ a) && decide (a ≤ ((L.length : Int) : Int) - 1)) := by unfold isNum; congr 1; simp only [decide_eq_decide]; omega
                    rw [← e9]
                    rcases hcc with rfl | rfl <;> simp [namesB]
                  clear hx
                  rcases hcc with rfl | rfl
                  all_goals
                    cases x
                    · go_wp2_with (go_at_call 39; refine (between_any _ _ _ _).mono ?_; rintro e w' ⟨rfl, hw'⟩; have hw' := hw'.symm; subst hw'; rw [HX.out])
                      go_ret
                      exact ⟨by rw [progErr_at H0.out H5.out HO.out HK.out (r := 3) (HBAD.out HNM.out) (by decide)]; rfl, hB6⟩
                    · go_wp2_with (go_at_call 39; refine (between_any _ _ _ _).mono ?_; rintro e w' ⟨rfl, hw'⟩; have hw' := hw'.symm; subst hw'; rw [HX.out])
                      go_roundw
                      case rel => exact ⟨j + 1, by omega, by go_num, HGOOD.out HNM.out, hb46⟩
                      case measure => simp [intOf]; omega
                · skip
                  obtain ⟨x, hx⟩ : ∃ x, (decide (0 ≤ a) && decide (a ≤ ((C.length : Int) : Int) - 1)) = x := ⟨_, rfl⟩
                  have HX := hideP hx
                  have HNM : Hid (namesB (c, a) (P, L, R, C) l.length = x) := by
                    show _ = _
                    rw [← hx]
                    have e9 : isNum a C.length = (decide (0 ≤ a) && decide (a ≤ ((C.length : Int) : Int) - 1)) := by unfold isNum; congr 1; simp only [decide_eq_decide]; omega
                    rw [← e9]
                    rcases hcc with rfl | rfl <;> simp [namesB]
                  clear hx
                  rcases hcc with rfl | rfl
                  all_goals
                    cases x
                    · go_wp2_with (go_at_call 39; refine (between_any _ _ _ _).mono ?_; rintro e w' ⟨rfl, hw'⟩; have hw' := hw'.symm; subst hw'; rw [HX.out])
                      go_ret
                      exact ⟨by rw [progErr_at H0.out H5.out HO.out HK.out (r := 3) (HBAD.out HNM.out) (by decide)]; rfl, hB6⟩
                    · go_wp2_with (go_at_call 39; refine (between_any _ _ _ _).mono ?_; rintro e w' ⟨rfl, hw'⟩; have hw' := hw'.symm; subst hw'; rw [HX.out])
                      go_roundw
                      case rel => exact ⟨j + 1, by omega, by go_num, HGOOD.out HNM.out, hb46⟩
                      case measure => simp [intOf]; omega
                · have hcc : c = 12 ∨ c = 12 := .inl hcc
                  obtain ⟨x, hx⟩ : ∃ x, (decide (0 ≤ a) && decide (a ≤ ((l.length : Int) : Int) - 1)) = x := ⟨_, rfl⟩
                  have HX := hideP hx
                  have HNM : Hid (namesB (c, a) (P, L, R, C) l.length = x) := by
                    show _ = _
                    rw [← hx]
                    have e9 : isNum a l.length = (decide (0 ≤ a) && decide (a ≤ ((l.length : Int) : Int) - 1)) := by unfold isNum; congr 1; simp only [decide_eq_decide]; omega
                    rw [← e9]
                    rcases hcc with rfl | rfl <;> simp [namesB]
                  clear hx
                  rcases hcc with rfl | rfl
                  all_goals
                    cases x
                    · go_wp2_with (go_at_call 39; refine (between_any _ _ _ _).mono ?_; rintro e w' ⟨rfl, hw'⟩; have hw' := hw'.symm; subst hw'; rw [HX.out])
                      go_ret
                      exact ⟨by rw [progErr_at H0.out H5.out HO.out HK.out (r := 3) (HBAD.out HNM.out) (by decide)]; rfl, hB6⟩
                    · go_wp2_with (go_at_call 39; refine (between_any _ _ _ _).mono ?_; rintro e w' ⟨rfl, hw'⟩; have hw' := hw'.symm; subst hw'; rw [HX.out])
                      go_roundw
                      case rel => exact ⟨j + 1, by omega, by go_num, HGOOD.out HNM.out, hb46⟩
                      case measure => simp [intOf]; omega
                · obtain ⟨c8, c9, c10, c11, c12⟩ := hcc
                  have b8 : (c == 8) = false := beq_eq_false_iff_ne.2 c8
                  have b9 : (c == 9) = false := beq_eq_false_iff_ne.2 c9
                  have b10 : (c == 10) = false := beq_eq_false_iff_ne.2 c10
                  have b11 : (c == 11) = false := beq_eq_false_iff_ne.2 c11
                  have b12 : (c == 12) = false := beq_eq_false_iff_ne.2 c12
                  have HNM : Hid (namesB (c, a) (P, L, R, C) l.length = true) := by show _ = _; simp [namesB, c8, c9, c10, c11, c12]
                  clear c8 c9 c10 c11 c12
                  go_wp2
                  go_roundw
                  case rel => exact ⟨j + 1, by omega, by go_num, HGOOD.out HNM.out, hb46⟩
                  case measure => simp [intOf]; omega
              · have hji : ¬ (j : Int) < (C.length : Int) := by omega
                obtain rfl : j = C.length := by omega
                have hfe : fnErr (P, L, R, C) l.length = 0 := by
                  have := HNB.out
                  rw [List.take_of_length_le (Nat.le_refl _)] at this
                  simp only [fnErr]
                  rw [if_neg h6, if_neg HP.out, if_neg (by rw [HT.out]; decide), if_neg HC0.out, if_neg (by rw [HCE.out]; decide), if_neg (by rw [List.all_eq_true.2 this]; decide)]
                have HFE := hideP hfe
                clear hfe
                go_wp2
                go_roundw
                case rel => exact ⟨k + 1, by omega, by go_num, by
                  rw [take_snoc l k _ HO.out]; intro x hx; rcases List.mem_append.1 hx with hx | hx
                  · exact HK.out x hx
                  · simp at hx; subst hx; exact HFE.out, hB51⟩
                case measure => simp [intOf]; omega
          · have hce' : (ce != 0) = true := by simpa using hce
            go_wp2
            go_ret
            exact ⟨by rw [progErr_at H0.out H5.out HO.out HK.out (r := ce) (by simp only [fnErr]; rw [if_neg h6, if_neg HP.out, if_neg (by rw [HT.out]; decide), if_neg HC0.out, if_pos (by rw [HCE.out]; exact hce)]; exact HCE.out) hce]; rfl, hB4⟩
    · have hlti : ¬ (k : Int) < (l.length : Int) := by omega
      have hall := HK.out
      rw [List.take_of_length_le (by omega)] at hall
      obtain ⟨⟨P, L, R, C⟩, ho⟩ := at_of_lt hpos
      obtain ⟨b, off, c0, c1, c2, c3, rfl, hb, x0, x1, x2, x3, hF⟩ := HC.out 0 _ ho
      have g0 := (hbw.cell (p := ⟨b, off + 0 * 4, none⟩) hb).trans x0
      have g2 := (hbw.cell (p := ⟨b, off + 0 * 4 + 2, none⟩) hb).trans x2
      simp only [Nat.zero_mul, Nat.add_zero] at g0 g2
      obtain ⟨rfl, _, rfl, _⟩ := hF
      simp only at g0 g2
      have hfz := fnsErr_all l.length l hall
      obtain ⟨_, hPr, hTy, _⟩ := fnErr_zero (hall _ (List.mem_of_getElem? ho))
      simp only [typedB, Bool.and_eq_true, decide_eq_true_eq] at hPr hTy
      have HE2 : Hid (progErr l = if P ≠ 0 ∨ R ≠ 0 then 4 else 0) := by
        show _ = _
        unfold progErr
        rw [if_neg H0.out, if_neg H5.out, hfz]
        cases l with
        | nil => simp at ho
        | cons x r => simp at ho; subst ho; simp [headErr]
      have hpi : (0 : Int) < (l.length : Int) := by omega
      have hP0 : 0 ≤ P := hPr.1
      have hR0 : 0 ≤ R := hTy.2.1
      clear hall hfz ho x0 x1 x2 x3 hPr hTy
      by_cases hP : 0 < P
      · have HEE : Hid (progErr l = 4) := by show _ = _; rw [HE2.out]; simp; omega
        go_wp2
        go_ret
        exact ⟨by rw [HEE.out]; rfl, hbw⟩
      · by_cases hR : 0 < R
        · have HEE : Hid (progErr l = 4) := by show _ = _; rw [HE2.out]; simp; omega
          go_wp2
          go_ret
          exact ⟨by rw [HEE.out]; rfl, hbw⟩
        · have HEE : Hid (progErr l = 0) := by
            show _ = _
            rw [HE2.out, if_neg (by omega)]
          go_wp2
          go_ret
          exact ⟨by rw [HEE.out]; rfl, hbw⟩
end Go.Proofs.Ytenaionchlnpoaa

