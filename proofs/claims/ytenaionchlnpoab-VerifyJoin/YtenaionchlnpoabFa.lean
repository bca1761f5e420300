/- flow.isPlace, flow.check. -/
import Derived.Test.YtenaionchlnpoabVd
import Derived.Test.YtenaionchlnpoabVg
import Derived.Test.YtenaionchlnpoabAp
import Derived.Test.YtenaionchlnpoabPf
namespace Go.Proofs.Ytenaionchlnpoab
open Go.RowKit
set_option linter.unusedSimpArgs false
set_option linter.unusedVariables false
/-- is there an op? -/
def isAt (n : Nat) (pc : Int) : Bool := decide (0 ≤ pc) && decide (pc < (n : Int))
set_option maxHeartbeats 1000000 in
theorem isPlace_any (pc : Int) (l : List (Int × Int)) (v : Value) (w : World) (h : OpsAt w v l) : Calls Try.prog 21 #[.int .i64 pc, v] w fun e w' => e = .returned (.bool (isAt l.length pc)) ∧ w' = w := by
  obtain ⟨p, cap, rfl, hm, hc⟩ := h
  unfold maxLen at hm
  clear hc
  by_cases h0 : 0 ≤ pc
  · have h0' : decide (pc ≥ 0) = true := by simpa using h0
    by_cases h1 : pc < (l.length : Int)
    all_goals
      go_enter Try.func21, Try.ntmps21
      go_wp2
      go_ret
      exact ⟨by simp [isAt, h0, h1], rfl⟩
  · have h0' : decide (pc ≥ 0) = false := by simpa using h0
    go_enter Try.func21, Try.ntmps21
    go_wp2
    go_ret
    exact ⟨by simp only [isAt]; rw [decide_eq_false (by omega)]; rfl, rfl⟩
/-- the box in which code lies that a closure has captured. -/
def CodeBox (w : World) (bc : Nat) (l : List (Int × Int)) : Prop := ∃ v, bc < w.heap.size ∧ w.cell? ⟨bc, 0, none⟩ = some v ∧ OpsAt w v l
theorem CodeBox.below {w w' : World} {bc : Nat} {l : List (Int × Int)} (h : CodeBox w bc l) (hb : Below w.heap.size w w') : CodeBox w' bc l := by
  obtain ⟨v, h1, h2, h3⟩ := h
  exact ⟨v, Nat.lt_of_lt_of_le h1 hb.size, (hb.cell (p := ⟨bc, 0, none⟩) h1).trans h2, h3.below hb⟩
set_option maxHeartbeats 2000000 in
theorem flowCheck1_any (c a : Int) (l : List (Int × Int)) (bc : Nat) (w : World) (h : CodeBox w bc l) : Calls Try.prog 40 #[.agg #[.int .i64 c, .int .i64 a], .pointer (some ⟨bc, 0, none⟩)] w fun e w' => e = .returned (.bool (badTo l.length (c, a))) ∧ Below w.heap.size w w' := by
  have hw : Below w.heap.size w (w.alloc (.cells #[.int .i64 c, .int .i64 a] 43)) := (Below.refl _ w).alloc (Nat.le_refl _) _
  obtain ⟨v, h1, h2, h3⟩ := h.below hw
  have h3' := h3
  obtain ⟨p, q, rfl, _, _⟩ := h3'
  by_cases h10 : c = 10
  · subst h10
    go_enter Try.func40, Try.ntmps40
    go_wp2_with (go_at_call 21; refine (isPlace_any a l _ _ h3).mono ?_; rintro e w2 ⟨rfl, hw2⟩; have hw2 := hw2.symm; subst hw2)
    go_ret
    exact ⟨by simp [badTo, isAt], hw⟩
  · have h10' : (c == 10) = false := by simp [h10]
    by_cases h11 : c = 11
    · subst h11
      go_enter Try.func40, Try.ntmps40
      go_wp2_with (go_at_call 21; refine (isPlace_any a l _ _ h3).mono ?_; rintro e w2 ⟨rfl, hw2⟩; have hw2 := hw2.symm; subst hw2)
      go_ret
      exact ⟨by simp [badTo, isAt], hw⟩
    · have h11' : (c == 11) = false := by simp [h11]
      go_enter Try.func40, Try.ntmps40
      go_wp2
      go_ret
      exact ⟨by simp [badTo, h10, h11], hw⟩
set_option maxHeartbeats 1000000 in
theorem indexBad_any (l : List (Int × Int)) (v : Value) (m : List (Int × Int)) (bc : Nat) (w : World) (h : OpsAt w v l) (hB : CodeBox w bc m) : Calls Try.prog 50 #[v, .func (.func 40) #[] #[.pointer (some ⟨bc, 0, none⟩)]] w fun e w' => ∃ r, e = .returned (.int .i64 r) ∧ decide (0 ≤ r) = (!l.all fun o => !badTo m.length o) ∧ Below w.heap.size w w' := by
  obtain ⟨p, cap, rfl, hm, hc⟩ := h
  unfold maxLen at hm
  go_enter Try.func50, Try.ntmps50
  go_wp2
  go_loopw [5, 8] (fun _ i wr => ∃ k : Nat, k ≤ l.length ∧ i = .int .i64 k ∧ (∀ o ∈ l.take k, (!badTo m.length o) = true) ∧ Below w.heap.size w wr) (fun _ i _ => l.length - (intOf i).toNat)
  case atStart => exact ⟨0, Nat.zero_le _, rfl, by simp, Below.refl _ _⟩
  case round =>
    obtain ⟨k, hk, rfl, hok, hbw⟩ := hrel
    have HK : Hid (∀ o ∈ l.take k, (!badTo m.length o) = true) := hok
    clear hok
    have HC : Hid (∀ k o, l[k]? = some o → ∃ b off, p = some ⟨b, off, none⟩ ∧ b < w.heap.size ∧ w.cell? ⟨b, off + k * 2, none⟩ = some (.int .i64 o.1) ∧ w.cell? ⟨b, off + k * 2 + 1, none⟩ = some (.int .i64 o.2)) := hc
    clear hc
    by_cases hlt : k < l.length
    · obtain ⟨⟨c, a⟩, ho⟩ := at_of_lt hlt
      obtain ⟨b, off, rfl, hb, h0, h1⟩ := HC.out k _ ho
      have g0 := (hbw.cell (p := ⟨b, off + k * 2, none⟩) hb).trans h0
      have g1 := (hbw.cell (p := ⟨b, off + k * 2 + 1, none⟩) hb).trans h1
      have hBr := hB.below hbw
      have HO : Hid (l[k]? = some (c, a)) := ho
      clear ho h0 h1
      cases hnb : badTo m.length (c, a)
      · go_wp2_with (go_at_call 40; refine (flowCheck1_any c a m bc _ hBr).mono ?_; rintro e w2 ⟨rfl, hb2⟩)
        go_roundw
        case rel => exact ⟨k + 1, by omega, by go_num, all_snoc HK.out HO.out (by rw [hnb]; rfl), hbw.trans (hb2.mono hbw.size)⟩
        case measure => simp [intOf]; omega
      · go_wp2_with (go_at_call 40; refine (flowCheck1_any c a m bc _ hBr).mono ?_; rintro e w2 ⟨rfl, hb2⟩)
        go_ret
        exact ⟨k, rfl, by rw [all_false HO.out (by rw [hnb]; rfl)]; simp, hbw.trans (hb2.mono hbw.size)⟩
    · have hlt' : ¬ (k : Int) < (l.length : Int) := by omega
      go_wp2
      go_ret
      refine ⟨-1, rfl, ?_, hbw⟩
      have := HK.out
      rw [List.take_of_length_le (by omega)] at this
      rw [all_true this]; decide
set_option maxHeartbeats 1000000 in
theorem containsBad_any (l : List (Int × Int)) (v : Value) (bc : Nat) (w : World) (h : OpsAt w v l) (hB : CodeBox w bc l) : Calls Try.prog 41 #[v, .func (.func 40) #[] #[.pointer (some ⟨bc, 0, none⟩)]] w fun e w' => e = .returned (.bool (l.any (badTo l.length))) ∧ Below w.heap.size w w' := by
  go_enter Try.func41, Try.ntmps41
  go_wp2_with fail
  refine (indexBad_any l v l bc _ h hB).mono ?_
  rintro e w2 ⟨r, rfl, hr, hb2⟩
  have hr2 : decide (0 ≤ r) = l.any (badTo l.length) := by rw [hr, List.not_all_eq_any_not]; simp
  have HR := hideP hr2
  clear hr hr2
  go_wp2
  go_ret
  exact ⟨by rw [← HR.out]; rfl, hb2⟩
set_option maxHeartbeats 2000000 in
theorem flowCheck_any (l : List (Int × Int)) (v : Value) (w : World) (h : OpsAt w v l) : Calls Try.prog 20 #[v] w fun e w' => e = .returned (.int .i64 (flowErr l)) ∧ Below w.heap.size w w' := by
  have h' := h
  obtain ⟨p, cap, rfl, hm, _⟩ := h'
  unfold maxLen at hm
  obtain ⟨W1, hW1⟩ : ∃ W1, w.alloc (.cells #[.slice p l.length cap] 22) = W1 := ⟨_, rfl⟩
  have hw : Below w.heap.size w W1 := by rw [← hW1]; exact (Below.refl _ w).alloc (Nat.le_refl _) _
  have hh : W1.heap[w.heap.size]? = some (.cells #[.slice p l.length cap] 22 (0, 0)) := by rw [← hW1]; exact World.alloc_heap_new w _
  have hB : CodeBox W1 w.heap.size l := ⟨_, heap_lt hh, by have := cell_at' hh 0; simpa using this, h.below hw⟩
  have c1 : W1.cell? ⟨w.heap.size, 0, none⟩ = some (.slice p l.length cap) := by have := cell_at' hh 0; simpa using this
  have HH := hideP hh
  clear hh
  by_cases hc : codeErr l = 0
  · go_enter Try.func20, Try.ntmps20
    go_wp2_with fail
    refine (encode_ex l _ _ (h.below hw)).mono ?_
    rintro e w2 ⟨T, rfl, hT, hb2⟩
    have hB2 := hB.below hb2
    have hb02 := hw.trans (hb2.mono hw.size)
    have c2 : w2.cell? ⟨w.heap.size, 0, none⟩ = some (.slice p l.length cap) := (hb2.cell (p := ⟨w.heap.size, 0, none⟩) (heap_lt HH.out)).trans c1
    clear hT
    rw [hc]
    by_cases hl : l.length = 0
    · have hl' : (l.length : Int) = 0 := by omega
      go_wp2
      go_ret
      exact ⟨by simp [flowErr, hc, hl], hb02⟩
    · have hl' : ((l.length : Int) == 0) = false := by simp; simpa using hl
      have HL := hideP hl
      clear hl
      cases ha : l.any (badTo l.length)
      · go_wp2_with (go_at_call 41; refine (containsBad_any l _ _ _ (h.below hb02) hB2).mono ?_; rw [ha]; rintro e w3 ⟨rfl, hb3⟩)
        go_ret
        exact ⟨by simp only [flowErr, hc, HL.out, ha]; rfl, hb02.trans (hb3.mono hb02.size)⟩
      · go_wp2_with (go_at_call 41; refine (containsBad_any l _ _ _ (h.below hb02) hB2).mono ?_; rw [ha]; rintro e w3 ⟨rfl, hb3⟩)
        go_ret
        exact ⟨by simp only [flowErr, hc, HL.out, ha]; rfl, hb02.trans (hb3.mono hb02.size)⟩
  · have hc' : (codeErr l != 0) = true := by simp [hc]
    go_enter Try.func20, Try.ntmps20
    go_wp2_with fail
    refine (encode_ex l _ _ (h.below hw)).mono ?_
    rintro e w2 ⟨T, rfl, hT, hb2⟩
    have HC := hideP hc
    clear hc hT
    go_wp2
    go_ret
    exact ⟨by rw [flowErr, if_pos HC.out]; rfl, hw.trans (hb2.mono hw.size)⟩
end Go.Proofs.Ytenaionchlnpoab

