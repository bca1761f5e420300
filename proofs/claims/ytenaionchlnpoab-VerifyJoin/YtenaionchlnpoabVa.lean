/- isNumber, namesOne, checkFunc's closure, ContainsFunc at it; typed. -/
import Derived.Test.YtenaionchlnpoabPq
namespace Go.Proofs.Ytenaionchlnpoab
open Go.RowKit
set_option linter.unusedSimpArgs false
set_option linter.unusedVariables false
set_option maxHeartbeats 400000 in
theorem isNumber_any (n : Int) (m : Nat) (w : World) : Calls Try.prog 92 #[.int .i64 n, .int .i64 m] w fun e w' => e = .returned (.bool (isNum n m)) ∧ w' = w := by
  by_cases h1 : 0 ≤ n
  · by_cases h2 : n < (m : Int)
    · go_enter Try.func92, Try.ntmps92
      go_wp2
      go_ret
      exact ⟨by simp [isNum, h1, h2], rfl⟩
    · go_enter Try.func92, Try.ntmps92
      go_wp2
      go_ret
      exact ⟨by simp [isNum, h1, h2], rfl⟩
  · have hd : decide (0 ≤ n) = false := by simpa using h1
    go_enter Try.func92, Try.ntmps92
    go_wp2
    go_ret
    exact ⟨by simp [isNum, hd], rfl⟩
set_option maxHeartbeats 2000000 in
theorem namesOne_any (c a : Int) (f : Fn) (c0 c1 c2 c3 : Value) (n : Nat) (w : World) (h : FnAt w c0 c1 c2 c3 f) : Calls Try.prog 72 #[.agg #[.int .i64 c, .int .i64 a], .agg #[c0, c1, c2, c3], .int .i64 n] w fun e w' => e = .returned (.bool (namesB (c, a) f n)) ∧ Below w.heap.size w w' := by
  obtain ⟨rfl, ⟨p1, q1, rfl, _, _⟩, rfl, ⟨p3, q3, rfl, _, _⟩⟩ := h
  have hb : ∀ o o', Below w.heap.size w ((w.alloc o).alloc o') := fun o o' => ((Below.refl _ w).alloc (Nat.le_refl _) _).alloc (by simp) _
  cases h8 : (c == 8)
  · cases h9 : (c == 9)
    · cases h10 : (c == 10)
      · cases h11 : (c == 11)
        · cases h12 : (c == 12)
          all_goals
            go_enter Try.func72, Try.ntmps72
            go_wp2_with (go_at_call 92; refine (isNumber_any _ _ _).mono ?_; rintro e w' ⟨rfl, hw⟩; have hw := hw.symm; subst hw)
            go_ret
            exact ⟨by simp [namesB, h8, h9, h10, h11, h12], hb _ _⟩
        · go_enter Try.func72, Try.ntmps72
          go_wp2_with (go_at_call 92; refine (isNumber_any _ _ _).mono ?_; rintro e w' ⟨rfl, hw⟩; have hw := hw.symm; subst hw)
          go_ret
          exact ⟨by simp [namesB, h8, h9, h10, h11], hb _ _⟩
      · go_enter Try.func72, Try.ntmps72
        go_wp2_with (go_at_call 92; refine (isNumber_any _ _ _).mono ?_; rintro e w' ⟨rfl, hw⟩; have hw := hw.symm; subst hw)
        go_ret
        exact ⟨by simp [namesB, h8, h9, h10], hb _ _⟩
    · go_enter Try.func72, Try.ntmps72
      go_wp2_with (go_at_call 92; refine (isNumber_any _ _ _).mono ?_; rintro e w' ⟨rfl, hw⟩; have hw := hw.symm; subst hw)
      go_ret
      exact ⟨by simp [namesB, h8, h9], hb _ _⟩
  · go_enter Try.func72, Try.ntmps72
    go_wp2_with (go_at_call 92; refine (isNumber_any _ _ _).mono ?_; rintro e w' ⟨rfl, hw⟩; have hw := hw.symm; subst hw)
    go_ret
    exact ⟨by simp [namesB, h8], hb _ _⟩
/-- the boxes that checkFunc's closure has captured. -/
def Boxes (w : World) (bf bn : Nat) (f : Fn) (n : Nat) : Prop :=
  ∃ c0 c1 c2 c3, bf < w.heap.size ∧ bn < w.heap.size ∧ w.cell? ⟨bf, 0, none⟩ = some c0 ∧ w.cell? ⟨bf, 1, none⟩ = some c1 ∧ w.cell? ⟨bf, 2, none⟩ = some c2 ∧ w.cell? ⟨bf, 3, none⟩ = some c3 ∧ w.cell? ⟨bn, 0, none⟩ = some (.int .i64 n) ∧ FnAt w c0 c1 c2 c3 f
theorem Boxes.below {w w' : World} {bf bn : Nat} {f : Fn} {n : Nat} (h : Boxes w bf bn f n) (hb : Below w.heap.size w w') : Boxes w' bf bn f n := by
  obtain ⟨c0, c1, c2, c3, h1, h2, a0, a1, a2, a3, a4, hf⟩ := h
  exact ⟨c0, c1, c2, c3, Nat.lt_of_lt_of_le h1 hb.size, Nat.lt_of_lt_of_le h2 hb.size, (hb.cell (p := ⟨bf, 0, none⟩) h1).trans a0, (hb.cell (p := ⟨bf, 1, none⟩) h1).trans a1, (hb.cell (p := ⟨bf, 2, none⟩) h1).trans a2, (hb.cell (p := ⟨bf, 3, none⟩) h1).trans a3, (hb.cell (p := ⟨bn, 0, none⟩) h2).trans a4, hf.below hb⟩
set_option maxHeartbeats 2000000 in
theorem checkFn1_any (c a : Int) (f : Fn) (n bf bn : Nat) (w : World) (h : Boxes w bf bn f n) : Calls Try.prog 71 #[.agg #[.int .i64 c, .int .i64 a], .pointer (some ⟨bf, 0, none⟩), .pointer (some ⟨bn, 0, none⟩)] w fun e w' => e = .returned (.bool (!namesB (c, a) f n)) ∧ Below w.heap.size w w' := by
  have hw : Below w.heap.size w (w.alloc (.cells #[.int .i64 c, .int .i64 a] 43)) := (Below.refl _ w).alloc (Nat.le_refl _) _
  obtain ⟨c0, c1, c2, c3, h1, h2, a0, a1, a2, a3, a4, hf⟩ := h.below hw
  have hf' := hf
  obtain ⟨rfl, ⟨p1, q1, rfl, _, _⟩, rfl, ⟨p3, q3, rfl, _, _⟩⟩ := hf'
  go_enter Try.func71, Try.ntmps71
  go_wp2_with (go_at_call 72; refine (namesOne_any c a f _ _ _ _ n _ hf).mono ?_; rintro e w2 ⟨rfl, hb2⟩)
  go_ret
  exact ⟨rfl, hw.trans (hb2.mono (by simp))⟩
end Go.Proofs.Ytenaionchlnpoab

