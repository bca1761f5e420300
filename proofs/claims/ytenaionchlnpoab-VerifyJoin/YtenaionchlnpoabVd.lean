/- prog.Check. -/
import Derived.Test.YtenaionchlnpoabVc
namespace Go.Proofs.Ytenaionchlnpoab
open Go.RowKit
set_option linter.unusedSimpArgs false
set_option linter.unusedVariables false
set_option maxHeartbeats 4000000 in
theorem progCheck_any (l : List Fn) (v : Value) (w : World) (h : FnsAt w v l) : Calls Try.prog 45 #[.agg #[v]] w fun e w' => e = .returned (.int .i64 (progErr l)) ∧ Below w.heap.size w w' := by
  have hF := h
  obtain ⟨p, cap, rfl, hm, hc⟩ := h
  unfold maxLen at hm
  have hw : Below w.heap.size w (w.alloc (.cells #[.slice p l.length cap] 56)) := (Below.refl _ w).alloc (Nat.le_refl _) _
  have HBX : Hid (∀ w2, Below (w.alloc (.cells #[.slice p l.length cap] 56)).heap.size (w.alloc (.cells #[.slice p l.length cap] 56)) w2 → w2.cell? ⟨w.heap.size, 0, none⟩ = some (.slice p l.length cap)) := fun w2 hb => (hb.cell (p := ⟨w.heap.size, 0, none⟩) (by simp)).trans (cell_at' (World.alloc_heap_new w _) 0)
  have HC : Hid (∀ k f, l[k]? = some f → ∃ b off c0 c1 c2 c3, p = some ⟨b, off, none⟩ ∧ b < w.heap.size ∧ w.cell? ⟨b, off + k * 4, none⟩ = some c0 ∧ w.cell? ⟨b, off + k * 4 + 1, none⟩ = some c1 ∧ w.cell? ⟨b, off + k * 4 + 2, none⟩ = some c2 ∧ w.cell? ⟨b, off + k * 4 + 3, none⟩ = some c3 ∧ FnAt w c0 c1 c2 c3 f) := hc
  clear hc hF
  by_cases h0 : l.length = 0
  · have h0' : ((l.length : Int) == 0) = true := beq_iff_eq.2 (by omega)
    have HE : Hid (progErr l = 5) := by show _ = _; simp [progErr, h0]
    clear h0
    go_enter Try.func45, Try.ntmps45
    go_wp2
    go_ret
    exact ⟨by rw [HE.out]; rfl, hw⟩
  have h0' : ((l.length : Int) == 0) = false := beq_eq_false_iff_ne.2 (by omega)
  by_cases h5 : 5 < l.length
  · have h5' : (5 : Int) < (l.length : Int) := by omega
    have HE : Hid (progErr l = 2) := by show _ = _; simp [progErr, h0, h5]
    clear h0
    go_enter Try.func45, Try.ntmps45
    go_wp2
    go_ret
    exact ⟨by rw [HE.out]; rfl, hw⟩
  have h5' : ¬ (5 : Int) < (l.length : Int) := by omega
  have HE : Hid (progErr l = if fnsErr l.length l ≠ 0 then fnsErr l.length l else headErr l) := by
    show _ = _
    unfold progErr
    rw [if_neg h0, if_neg h5]
  have hpos : 0 < l.length := by omega
  clear h0
  go_enter Try.func45, Try.ntmps45
  go_wp2
  go_loopw [4, 5, 19] (fun _ _ i wr => ∃ k : Nat, k ≤ l.length ∧ i = .int .i64 k ∧ (∀ f ∈ l.take k, fnErr f l.length = 0) ∧ Below (w.alloc (.cells #[.slice p l.length cap] 56)).heap.size (w.alloc (.cells #[.slice p l.length cap] 56)) wr) (fun _ _ i _ => l.length - (intOf i).toNat)
  case atStart => exact ⟨0, Nat.zero_le _, rfl, by simp, Below.refl _ _⟩
  case round =>
    obtain ⟨k, hk, rfl, hok, hbw⟩ := hrel
    have HK : Hid (∀ f ∈ l.take k, fnErr f l.length = 0) := hok
    clear hok
    have hbw0 := hw.trans (hbw.mono hw.size)
    have gb := HBX.out wr hbw
    have hsz : w.heap.size < wr.heap.size := by have := hbw.size; simp at this; omega
    by_cases hlt : k < l.length
    · obtain ⟨f, ho⟩ := at_of_lt hlt
      obtain ⟨b, off, c0, c1, c2, c3, rfl, hb, a0, a1, a2, a3, hf⟩ := HC.out k _ ho
      have g0 := (hbw0.cell (p := ⟨b, off + k * 4, none⟩) hb).trans a0
      have g1 := (hbw0.cell (p := ⟨b, off + k * 4 + 1, none⟩) hb).trans a1
      have g2 := (hbw0.cell (p := ⟨b, off + k * 4 + 2, none⟩) hb).trans a2
      have g3 := (hbw0.cell (p := ⟨b, off + k * 4 + 3, none⟩) hb).trans a3
      have hf2 := hf.below hbw0
      have HO : Hid (l[k]? = some f) := ho
      clear ho a0 a1 a2 a3
      have hff := hf
      obtain ⟨P, L, R, C⟩ := f
      obtain ⟨rfl, ⟨p1, q1, rfl, _, _⟩, rfl, ⟨p3, q3, rfl, _, _⟩⟩ := hff
      clear hf
      have hal : Below wr.heap.size wr (wr.alloc (.cells #[.int .i64 P, .slice p1 L.length q1, .int .i64 R, .slice p3 C.length q3] 59)) := (Below.refl _ wr).alloc (Nat.le_refl _) _
      have hf3 := hf2.below hal
      simp only at hf3
      by_cases he : fnErr (P, L, R, C) l.length = 0
      · have he' : (fnErr (P, L, R, C) l.length != 0) = false := by simp [he]
        have HEE : Hid (fnErr (P, L, R, C) l.length = 0) := he
        clear he
        go_wp2_with fail
        refine (checkFunc_any (P, L, R, C) l.length _ _ _ _ _ hf3).mono ?_
        rintro e w2 ⟨rfl, hb2⟩
        have hb3 := hbw.trans ((hal.trans (hb2.mono hal.size)).mono hbw.size)
        go_wp2
        go_roundw
        case rel => exact ⟨k + 1, by omega, by go_num, by
          rw [take_snoc l k _ HO.out]; intro x hx; rcases List.mem_append.1 hx with hx | hx
          · exact HK.out x hx
          · simp at hx; subst hx; exact HEE.out, hb3⟩
        case measure => simp [intOf]; omega
      · have he' : (fnErr (P, L, R, C) l.length != 0) = true := by simp [he]
        go_wp2_with fail
        refine (checkFunc_any (P, L, R, C) l.length _ _ _ _ _ hf3).mono ?_
        rintro e w2 ⟨rfl, hb2⟩
        have hb3 := hbw.trans ((hal.trans (hb2.mono hal.size)).mono hbw.size)
        go_wp2
        go_ret
        refine ⟨?_, hw.trans (hb3.mono hw.size)⟩
        have := fnsErr_at l.length l k _ HO.out HK.out he
        rw [HE.out, this, if_pos he]
        rfl
    · have hlt' : ¬ (k : Int) < (l.length : Int) := by omega
      have hall := HK.out
      rw [List.take_of_length_le (by omega)] at hall
      have hfz := fnsErr_all l.length l hall
      obtain ⟨⟨P, L, R, C⟩, ho⟩ := at_of_lt hpos
      obtain ⟨b, off, c0, c1, c2, c3, rfl, hb, a0, a1, a2, a3, hf⟩ := HC.out 0 _ ho
      have g0 := (hbw0.cell (p := ⟨b, off + 0 * 4, none⟩) hb).trans a0
      have g2 := (hbw0.cell (p := ⟨b, off + 0 * 4 + 2, none⟩) hb).trans a2
      simp only [Nat.zero_mul, Nat.add_zero] at g0 g2
      obtain ⟨rfl, _, rfl, _⟩ := hf
      simp only at g0 g2
      have HE2 : Hid (progErr l = if P ≠ 0 ∨ R ≠ 0 then 4 else 0) := by
        show _ = _
        rw [HE.out, hfz]
        cases l with
        | nil => simp at ho
        | cons x r => simp at ho; subst ho; simp [headErr]
      have hpi : (0 : Int) < (l.length : Int) := by omega
      clear hall hfz ho a0 a1 a2 a3
      by_cases hP : P = 0
      · have hP' : (P != 0) = false := by simp [hP]
        by_cases hR : R = 0
        · have hR' : (R != 0) = false := by simp [hR]
          have HEE : Hid (progErr l = 0) := by show _ = _; rw [HE2.out]; simp [hP, hR]
          clear hP hR
          go_wp2
          go_ret
          exact ⟨by rw [HEE.out]; rfl, hbw0⟩
        · have hR' : (R != 0) = true := by simp [hR]
          have HEE : Hid (progErr l = 4) := by show _ = _; rw [HE2.out]; simp [hR]
          clear hP hR
          go_wp2
          go_ret
          exact ⟨by rw [HEE.out]; rfl, hbw0⟩
      · have hP' : (P != 0) = true := by simp [hP]
        have HEE : Hid (progErr l = 4) := by show _ = _; rw [HE2.out]; simp [hP]
        clear hP
        go_wp2
        go_ret
        exact ⟨by rw [HEE.out]; rfl, hbw0⟩
end Go.Proofs.Ytenaionchlnpoab

