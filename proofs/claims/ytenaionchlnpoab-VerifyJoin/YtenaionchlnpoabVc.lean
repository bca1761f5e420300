/- checkFunc and prog.Check. -/
import Derived.Test.YtenaionchlnpoabVb
import Derived.Test.YtenaionchlnpoabAp
namespace Go.Proofs.Ytenaionchlnpoab
open Go.RowKit
set_option linter.unusedSimpArgs false
set_option linter.unusedVariables false
set_option maxHeartbeats 4000000 in
theorem checkFunc_any (f : Fn) (n : Nat) (c0 c1 c2 c3 : Value) (w : World) (h : FnAt w c0 c1 c2 c3 f) : Calls Try.prog 59 #[.agg #[c0, c1, c2, c3], .int .i64 n] w fun e w' => e = .returned (.int .i64 (fnErr f n)) ∧ Below w.heap.size w w' := by
  obtain ⟨P, L, R, C⟩ := f
  have hF0 := h
  obtain ⟨rfl, hI, rfl, hO⟩ := h
  simp only at hI hO
  obtain ⟨p1, q1, rfl, hm1, _⟩ := hI
  obtain ⟨p3, q3, rfl, hm3, _⟩ := hO
  simp only at hF0
  unfold maxLen at hm1 hm3
  have hw1 : Below w.heap.size w (w.alloc (.cells #[.int .i64 P, .slice p1 L.length q1, .int .i64 R, .slice p3 C.length q3] 59)) := (Below.refl _ w).alloc (Nat.le_refl _) _
  have hw : Below w.heap.size w ((w.alloc (.cells #[.int .i64 P, .slice p1 L.length q1, .int .i64 R, .slice p3 C.length q3] 59)).alloc (.cells #[.int .i64 n] 3)) := hw1.alloc (by simp) _
  have hhf : ((w.alloc (.cells #[.int .i64 P, .slice p1 L.length q1, .int .i64 R, .slice p3 C.length q3] 59)).alloc (.cells #[.int .i64 n] 3)).heap[w.heap.size]? = some (.cells #[.int .i64 P, .slice p1 L.length q1, .int .i64 R, .slice p3 C.length q3] 59 (0, 0)) := heap_old (World.alloc_heap_new w _) _
  have hhn : ((w.alloc (.cells #[.int .i64 P, .slice p1 L.length q1, .int .i64 R, .slice p3 C.length q3] 59)).alloc (.cells #[.int .i64 n] 3)).heap[w.heap.size + 1]? = some (.cells #[.int .i64 n] 3 (0, 0)) := by
    have := World.alloc_heap_new (w.alloc (.cells #[.int .i64 P, .slice p1 L.length q1, .int .i64 R, .slice p3 C.length q3] 59)) (.cells #[.int .i64 n] 3)
    rwa [World.size_alloc] at this
  have hB : Boxes ((w.alloc (.cells #[.int .i64 P, .slice p1 L.length q1, .int .i64 R, .slice p3 C.length q3] 59)).alloc (.cells #[.int .i64 n] 3)) w.heap.size (w.heap.size + 1) (P, L, R, C) n :=
    ⟨_, _, _, _, heap_lt hhf, heap_lt hhn, cell_at' hhf 0, cell_at' hhf 1, cell_at' hhf 2, cell_at' hhf 3, cell_at' hhn 0, hF0.below hw⟩
  have HB : Hid (Boxes ((w.alloc (.cells #[.int .i64 P, .slice p1 L.length q1, .int .i64 R, .slice p3 C.length q3] 59)).alloc (.cells #[.int .i64 n] 3)) w.heap.size (w.heap.size + 1) (P, L, R, C) n) := hB
  have HF : Hid (FnAt ((w.alloc (.cells #[.int .i64 P, .slice p1 L.length q1, .int .i64 R, .slice p3 C.length q3] 59)).alloc (.cells #[.int .i64 n] 3)) (.int .i64 P) (.slice p1 L.length q1) (.int .i64 R) (.slice p3 C.length q3) (P, L, R, C)) := hF0.below hw
  have HK : Hid (∀ w2, Below ((w.alloc (.cells #[.int .i64 P, .slice p1 L.length q1, .int .i64 R, .slice p3 C.length q3] 59)).alloc (.cells #[.int .i64 n] 3)).heap.size ((w.alloc (.cells #[.int .i64 P, .slice p1 L.length q1, .int .i64 R, .slice p3 C.length q3] 59)).alloc (.cells #[.int .i64 n] 3)) w2 → w2.cell? ⟨w.heap.size, 3, none⟩ = some (.slice p3 C.length q3)) := fun w2 hb => (hb.cell (p := ⟨w.heap.size, 3, none⟩) (heap_lt hhf)).trans (cell_at' hhf 3)
  clear hB hhf hhn hF0 hw1
  by_cases h6 : 6 < L.length
  · have h6' : (6 : Int) < (L.length : Int) := by omega
    go_enter Try.func59, Try.ntmps59
    go_wp2
    go_ret
    exact ⟨by simp [fnErr, h6], hw⟩
  have h6' : ¬ (6 : Int) < (L.length : Int) := by omega
  by_cases hp0 : P < 0
  · go_enter Try.func59, Try.ntmps59
    go_wp2
    go_ret
    exact ⟨by simp [fnErr, h6, hp0], hw⟩
  have hp0' : decide (P < 0) = false := by simpa using hp0
  by_cases hp1 : (L.length : Int) < P
  · go_enter Try.func59, Try.ntmps59
    go_wp2
    go_ret
    exact ⟨by simp [fnErr, h6, hp1], hw⟩
  have hfe : fnErr (P, L, R, C) n = if typedB (P, L, R, C) = false then 6 else if C.length = 0 then 5 else if codeErr C ≠ 0 then codeErr C else if (C.all fun o => namesB o (P, L, R, C) n) = false then 3 else 0 := by
    simp only [fnErr]
    rw [if_neg h6, if_neg (show ¬ (P < 0 ∨ (L.length : Int) < P) from by omega)]
  rw [hfe]
  clear hfe
  cases ht : typedB (P, L, R, C)
  · go_enter Try.func59, Try.ntmps59
    go_wp2_with fail
    refine (typed_any _ _ _ _ _ _ HF.out).mono ?_
    rw [ht]
    rintro e w2 ⟨rfl, hb2⟩
    go_wp2
    go_ret
    exact ⟨rfl, hw.trans (hb2.mono hw.size)⟩
  rw [if_neg (by simp)]
  by_cases hc0 : C.length = 0
  · have hc0' : ((C.length : Int) == 0) = true := beq_iff_eq.2 (by omega)
    rw [if_pos hc0]
    have HC0 : Hid (C.length = 0) := hc0
    clear hc0
    go_enter Try.func59, Try.ntmps59
    go_wp2_with fail
    refine (typed_any _ _ _ _ _ _ HF.out).mono ?_
    rw [ht]
    rintro e w2 ⟨rfl, hb2⟩
    have a3 := HK.out w2 hb2
    go_wp2
    go_ret
    exact ⟨rfl, hw.trans (hb2.mono hw.size)⟩
  have hc0' : ((C.length : Int) == 0) = false := beq_eq_false_iff_ne.2 (by omega)
  rw [if_neg hc0]
  clear hc0
  by_cases hce : codeErr C = 0
  · rw [if_neg (by simp [hce])]
    have HCE : Hid (codeErr C = 0) := hce
    clear hce
    cases hn : (C.all fun o => namesB o (P, L, R, C) n)
    all_goals
      go_enter Try.func59, Try.ntmps59
      go_wp2_with fail
      refine (typed_any _ _ _ _ _ _ HF.out).mono ?_
      rw [ht]
      rintro e w2 ⟨rfl, hb2⟩
      have a3 := HK.out w2 hb2
      go_wp2_with fail
      refine (encode_ex C _ w2 ((HF.out.below hb2).2.2.2)).mono ?_
      rw [HCE.out]
      rintro e w3 ⟨T3, rfl, _, hb3⟩
      have hb23 := hb2.trans (hb3.mono hb2.size)
      have b3 := HK.out w3 hb23
      clear a3
      go_wp2_with fail
      refine (containsNames_any C _ (P, L, R, C) n w.heap.size (w.heap.size + 1) w3 ((HF.out.below hb23).2.2.2) (HB.out.below hb23)).mono ?_
      rw [hn]
      rintro e w4 ⟨rfl, hb4⟩
      have hb4' := hb23.trans (hb4.mono hb23.size)
      go_wp2
      go_ret
      exact ⟨rfl, hw.trans (hb4'.mono hw.size)⟩
  · rw [if_pos hce]
    have hce' : (codeErr C != 0) = true := by simp [hce]
    clear hce
    go_enter Try.func59, Try.ntmps59
    go_wp2_with fail
    refine (typed_any _ _ _ _ _ _ HF.out).mono ?_
    rw [ht]
    rintro e w2 ⟨rfl, hb2⟩
    have a3 := HK.out w2 hb2
    go_wp2_with fail
    refine (encode_ex C _ w2 ((HF.out.below hb2).2.2.2)).mono ?_
    rintro e w3 ⟨T3, rfl, _, hb3⟩
    have hb23 := hb2.trans (hb3.mono hb2.size)
    go_wp2
    go_ret
    exact ⟨rfl, hw.trans (hb23.mono hw.size)⟩
end Go.Proofs.Ytenaionchlnpoab

