/- Walks of the leaf functions of package op and of the reference: each returns what the plain function says. -/
import Derived.Test.YtenaionchlnpoabRows
import Derived.Test.YtenaionchlnpoabPl
import Derived.WalkKit
import Derived.WalkSpells
import Derived.WalkLawsBesides
namespace Go.Proofs.Ytenaionchlnpoab
open Go.RowKit
set_option linter.unusedSimpArgs false
set_option linter.unusedVariables false
set_option maxHeartbeats 400000 in
theorem known_any (c : Int) (w : World) : Calls Try.prog 65 #[.int .i64 c] w fun e w' => e = .returned (.bool (isCode c)) ∧ w' = w := by
  by_cases h1 : 1 ≤ c
  · by_cases h2 : c ≤ 21
    · go_enter Try.func65, Try.ntmps65
      go_wp2
      go_ret
      exact ⟨by simp [isCode, h1, h2], rfl⟩
    · go_enter Try.func65, Try.ntmps65
      go_wp2
      go_ret
      exact ⟨by simp [isCode, h1, h2], rfl⟩
  · have hd : decide (1 ≤ c) = false := by simpa using h1
    go_enter Try.func65, Try.ntmps65
    go_wp2
    go_ret
    exact ⟨by simp [isCode, hd], rfl⟩
set_option maxHeartbeats 400000 in
theorem namesA_any (c : Int) (w : World) : Calls Try.prog 66 #[.int .i64 c] w fun e w' => e = .returned (.bool (hasA c)) ∧ w' = w := by
  go_enter Try.func66, Try.ntmps66
  go_wp2
  all_goals
    go_ret
    exact ⟨by simp [hasA, *], rfl⟩
theorem ret_int {k : IntKind} {a b : Int} (h : a = b) : Ending.returned (.int k a) = .returned (.int k b) := by rw [h]
theorem tmod_is (n : Int) : (0 ≤ n ∧ n.tmod 4294967296 = n % 4294967296) ∨ (n < 0 ∧ n.tmod 4294967296 = -((-n) % 4294967296)) := by
  by_cases h : 0 ≤ n
  · exact .inl ⟨h, Int.tmod_eq_emod_of_nonneg h⟩
  · refine .inr ⟨by omega, ?_⟩
    have := Int.tmod_eq_emod_of_nonneg (a := -n) (b := 4294967296) (by omega)
    rw [Int.neg_tmod] at this
    omega
theorem wrap_wrap (n : Int) : wrap64 (wrap32 n) = wrap32 n := by unfold wrap64 wrap32; omega
set_option maxHeartbeats 400000 in
theorem between_any (n a b : Int) (w : World) : Calls Try.prog 29 #[.int .i64 n, .int .i64 a, .int .i64 b] w fun e w' => e = .returned (.bool (decide (a ≤ n) && decide (n ≤ b))) ∧ w' = w := by
  by_cases h1 : a ≤ n
  · by_cases h2 : n ≤ b
    · go_enter Try.func29, Try.ntmps29
      go_wp2
      go_ret
      exact ⟨by simp [h1, h2], rfl⟩
    · go_enter Try.func29, Try.ntmps29
      go_wp2
      go_ret
      exact ⟨by simp [h1, h2], rfl⟩
  · have hd : decide (a ≤ n) = false := by simpa using h1
    go_enter Try.func29, Try.ntmps29
    go_wp2
    go_ret
    exact ⟨by simp [hd], rfl⟩
set_option maxHeartbeats 400000 in
theorem isInt_any (n : Int) (w : World) : Calls Try.prog 58 #[.int .i64 n] w fun e w' => e = .returned (.bool (isI32 n)) ∧ w' = w := by
  go_enter Try.func58, Try.ntmps58
  go_wp2_with (go_at_call 29; refine (between_any _ _ _ _).mono ?_; rintro e w' ⟨rfl, rfl⟩)
  go_ret
  exact ⟨rfl, rfl⟩
set_option maxHeartbeats 1000000 in
theorem hasA_any (c : Int) (w : World) : Calls Try.prog 57 #[.int .i64 c] w fun e w' => e = .returned (.bool (hasA c)) ∧ w' = w := by
  by_cases h1 : (c == 1) = true
  · go_enter Try.func57, Try.ntmps57
    go_wp2
    go_ret
    exact ⟨by simp [hasA, *], rfl⟩
  simp only [Bool.not_eq_true] at h1
  by_cases h2 : (c == 8) = true
  · go_enter Try.func57, Try.ntmps57
    go_wp2
    go_ret
    exact ⟨by simp [hasA, *], rfl⟩
  simp only [Bool.not_eq_true] at h2
  by_cases h3 : (c == 9) = true
  · go_enter Try.func57, Try.ntmps57
    go_wp2
    go_ret
    exact ⟨by simp [hasA, *], rfl⟩
  simp only [Bool.not_eq_true] at h3
  by_cases h4 : (c == 10) = true
  · go_enter Try.func57, Try.ntmps57
    go_wp2
    go_ret
    exact ⟨by simp [hasA, *], rfl⟩
  simp only [Bool.not_eq_true] at h4
  by_cases h5 : (c == 11) = true
  · go_enter Try.func57, Try.ntmps57
    go_wp2
    go_ret
    exact ⟨by simp [hasA, *], rfl⟩
  simp only [Bool.not_eq_true] at h5
  go_enter Try.func57, Try.ntmps57
  go_wp2
  go_ret
  exact ⟨by simp [hasA, *], rfl⟩
set_option maxHeartbeats 1000000 in
theorem check_any (c a : Int) (w : World) : Calls Try.prog 52 #[.agg #[.int .i64 c, .int .i64 a]] w fun e w' => e = .returned (.int .i64 (chk c a)) ∧ Below w.heap.size w w' := by
  have hb : ∀ o, Below w.heap.size w (w.alloc o) := fun o => (Below.refl _ _).alloc (Nat.le_refl _) _
  cases hk : isCode c
  · go_enter Try.func52, Try.ntmps52
    go_wp2_with (first | (go_at_call 65; refine (known_any _ _).mono ?_; rintro e w' ⟨rfl, rfl⟩) | (go_at_call 66; refine (namesA_any _ _).mono ?_; rintro e w' ⟨rfl, rfl⟩))
    go_ret
    exact ⟨by simp [chk, hk], hb _⟩
  cases hh : hasA c
  · cases h0 : (a != 0)
    · by_cases h1 : a < -2147483648
      · simp at h0; omega
      by_cases h2 : 2147483647 < a
      · simp at h0; omega
      go_enter Try.func52, Try.ntmps52
      go_wp2_with (first | (go_at_call 65; refine (known_any _ _).mono ?_; rintro e w' ⟨rfl, rfl⟩) | (go_at_call 66; refine (namesA_any _ _).mono ?_; rintro e w' ⟨rfl, rfl⟩))
      go_ret
      exact ⟨by simp at h0; simp [chk, hk, hh, isI32, h0], hb _⟩
    · go_enter Try.func52, Try.ntmps52
      go_wp2_with (first | (go_at_call 65; refine (known_any _ _).mono ?_; rintro e w' ⟨rfl, rfl⟩) | (go_at_call 66; refine (namesA_any _ _).mono ?_; rintro e w' ⟨rfl, rfl⟩))
      go_ret
      exact ⟨by simp at h0; simp [chk, hk, hh, h0], hb _⟩
  · by_cases h1 : a < -2147483648
    · go_enter Try.func52, Try.ntmps52
      go_wp2_with (first | (go_at_call 65; refine (known_any _ _).mono ?_; rintro e w' ⟨rfl, rfl⟩) | (go_at_call 66; refine (namesA_any _ _).mono ?_; rintro e w' ⟨rfl, rfl⟩))
      go_ret
      exact ⟨by have : ¬ -2147483648 ≤ a := by omega
                simp [chk, hk, hh, isI32, this], hb _⟩
    · have hd : decide (a < -2147483648) = false := by simpa using h1
      by_cases h2 : 2147483647 < a
      · go_enter Try.func52, Try.ntmps52
        go_wp2_with (first | (go_at_call 65; refine (known_any _ _).mono ?_; rintro e w' ⟨rfl, rfl⟩) | (go_at_call 66; refine (namesA_any _ _).mono ?_; rintro e w' ⟨rfl, rfl⟩))
        go_ret
        exact ⟨by have : ¬ a ≤ 2147483647 := by omega
                  simp [chk, hk, hh, isI32, this], hb _⟩
      · go_enter Try.func52, Try.ntmps52
        go_wp2_with (first | (go_at_call 65; refine (known_any _ _).mono ?_; rintro e w' ⟨rfl, rfl⟩) | (go_at_call 66; refine (namesA_any _ _).mono ?_; rintro e w' ⟨rfl, rfl⟩))
        go_ret
        exact ⟨by have h3 : -2147483648 ≤ a := by omega
                  have h4 : a ≤ 2147483647 := by omega
                  simp [chk, hk, hh, isI32, h3, h4], hb _⟩
end Go.Proofs.Ytenaionchlnpoab

