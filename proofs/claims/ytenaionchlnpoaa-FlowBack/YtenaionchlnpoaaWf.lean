/- octet.Number and op.first. -/
import Derived.Test.YtenaionchlnpoaaWa
import Derived.Test.YtenaionchlnpoaaMem
import Derived.Lib.Strings
namespace Go.Proofs.Ytenaionchlnpoaa
open Go.RowKit
set_option linter.unusedSimpArgs false
set_option linter.unusedVariables false
/-- the number that bytes tell, the greatest one first. -/
def numOf (l : List UInt8) : Nat := l.foldl (fun n b => 256 * n + b.toNat) 0
theorem numOf_snoc (l : List UInt8) (b : UInt8) : numOf (l ++ [b]) = 256 * numOf l + b.toNat := by simp [numOf]
theorem foldl_lt (l : List UInt8) : ∀ (n k : Nat), n < 256 ^ k → l.foldl (fun n b => 256 * n + b.toNat) n < 256 ^ (k + l.length) := by
  induction l with
  | nil => intro n k h; simpa using h
  | cons b r ih =>
    intro n k h
    have := ih (256 * n + b.toNat) (k + 1) (by have := b.toNat_lt; rw [Nat.pow_succ]; omega)
    rw [List.length_cons, show k + (r.length + 1) = k + 1 + r.length from by omega]
    exact this
theorem numOf_lt (l : List UInt8) : numOf l < 256 ^ l.length := by
  have := foldl_lt l 0 0 (by simp)
  simpa [numOf] using this
theorem numOf_small (l : List UInt8) (h : l.length ≤ 4) : numOf l < 4294967296 :=
  Nat.lt_of_lt_of_le (numOf_lt l) (by have := Nat.pow_le_pow_right (n := 256) (by omega) h; simpa using this)
theorem ofInt64 (n : Nat) (h : n < 9223372036854775808) : (BitVec.ofInt 64 (n : Int)).toNat = n := by
  rw [BitVec.toNat_ofInt]; omega
theorem or_byte (n b : Nat) (hn : n < 4294967296) (hb : b < 256) : bits .or .i64 (wrap64 ((n : Int) * 256)) (wrap64 (b : Int)) = ((256 * n + b : Nat) : Int) := by
  rw [IntWalk.wrap64_in _ (by omega), IntWalk.wrap64_in _ (by omega)]
  have e : ((n : Int) * 256) = ((n * 256 : Nat) : Int) := by omega
  rw [e]
  show IntKind.i64.wrap ((BitVec.ofInt 64 ((n * 256 : Nat) : Int) ||| BitVec.ofInt 64 (b : Int)).toNat : Int) = _
  rw [BitVec.toNat_or, ofInt64 _ (by omega), ofInt64 _ (by omega)]
  have h2 := Nat.shiftLeft_add_eq_or_of_lt (a := n) (b := b) (i := 8) (by simpa using hb)
  rw [Nat.shiftLeft_eq] at h2
  rw [show n * 256 = n * 2 ^ 8 from rfl, ← h2, IntKind.wrap_i64]
  omega
theorem bytes_snoc (s : ByteArray) (k : Nat) (h : k < s.size) : s.data.toList.take (k + 1) = s.data.toList.take k ++ [s[k]] := by
  rw [List.take_succ_eq_append_getElem (by simpa using h)]; rfl
set_option maxHeartbeats 1000000 in
theorem number_any (s : ByteArray) (w : World) (hs : s.size ≤ 4) : Calls Try.prog 75 #[.string s] w fun e w' => e = .returned (.int .i64 (numOf s.data.toList)) ∧ w' = w := by
  go_enter Try.func75, Try.ntmps75
  go_wp2
  go_loop [3, 4, 7] (fun n _ i => ∃ k : Nat, k ≤ s.size ∧ i = .int .i64 k ∧ n = .int .i64 (numOf (s.data.toList.take k))) (fun _ _ i => s.size - (intOf i).toNat)
  case atStart => exact ⟨0, Nat.zero_le _, rfl, rfl⟩
  case round =>
    obtain ⟨k, hk, rfl, rfl⟩ := hrel
    by_cases hlt : k < s.size
    · have HE : Hid (bits BinOp.or IntKind.i64 (wrap64 ((numOf (List.take k s.data.toList) : Int) * 256)) (wrap64 (s[k].toNat : Int)) = ((numOf (s.data.toList.take (k + 1)) : Nat) : Int)) := by
        have hl := numOf_small (s.data.toList.take k) (by rw [List.length_take]; simp; omega)
        show _ = _
        rw [or_byte _ _ hl (s[k].toNat_lt), bytes_snoc s k hlt, numOf_snoc]
      go_wp2
      go_round
      case rel => exact ⟨k + 1, by omega, by go_num, by rw [HE.out]⟩
      case measure => simp [intOf]; omega
    · have hlt' : ¬ (k : Int) < (s.size : Int) := by omega
      go_wp2
      go_ret
      exact ⟨ret_int (by rw [List.take_of_length_le (by simp; omega)]), rfl⟩
/-- the first op that bytes tell, and how many bytes it has. -/
def firstOf : List UInt8 → Option ((Int × Int) × Nat)
  | [] => none
  | b :: r => if isCode b.toNat = false then none else if hasA b.toNat then (if r.length < 4 then none else some ((b.toNat, wrap32 (numOf (r.take 4))), 5)) else some ((b.toNat, 0), 1)
theorem firstOf_at (s : ByteArray) (h0 : 0 < s.size) : firstOf s.data.toList = if isCode (s[0].toNat : Int) = false then none else if hasA (s[0].toNat : Int) then (if s.size < 5 then none else some (((s[0].toNat : Int), wrap32 (numOf ((s.data.toList.drop 1).take 4))), 5)) else some (((s[0].toNat : Int), 0), 1) := by
  have hl : s.data.toList.length = s.size := by simp
  have hg : s.data.toList[0]'(by omega) = s[0] := rfl
  cases hs : s.data.toList with
  | nil => rw [hs] at hl; simp at hl; omega
  | cons b r =>
    have hb : b = s[0] := by rw [← hg]; simp [hs]
    rw [hs] at hl
    simp only [List.length_cons] at hl
    rw [← hb]
    simp only [firstOf, List.drop_succ_cons, List.drop_zero]
    have e : (r.length < 4) ↔ (s.size < 5) := by omega
    simp only [e]
set_option maxHeartbeats 1000000 in
theorem first_none (s : ByteArray) (w : World) (h0 : 0 < s.size) (hm : s.size ≤ maxLen) (h : firstOf s.data.toList = none) : Calls Try.prog 61 #[.string s] w fun e w' => e = .returned (.tuple #[.agg #[.int .i64 0, .int .i64 0], .int .i64 0, .int .i64 1]) ∧ Below w.heap.size w w' := by
  unfold maxLen at hm
  rw [firstOf_at s h0] at h
  obtain ⟨c, hc⟩ : ∃ c : Int, (s[0].toNat : Int) = c := ⟨_, rfl⟩
  have hc0 : 0 ≤ c := by omega
  have hc1 : c ≤ 255 := by have := s[0].toNat_lt; omega
  rw [hc] at h
  have hW : ∀ o1 o2 (p : Addr) u, w.heap.size ≤ p.block → Below w.heap.size w (((w.alloc o1).alloc o2).setCell p u) := fun o1 o2 p u hp => (((Below.refl _ w).alloc (Nat.le_refl _) _).alloc (by simp) _).setCell hp _
  cases hk : isCode c
  · clear h
    cases hh : hasA c
    all_goals
      go_enter Try.func61, Try.ntmps61
      go_wp2_with (first | (go_at_call 42; refine (known_any _ _).mono ?_; rintro e w' ⟨rfl, hw⟩; have hw := hw.symm; subst hw) | (go_at_call 43; refine (namesA_any _ _).mono ?_; rintro e w' ⟨rfl, hw⟩; have hw := hw.symm; subst hw) | (go_at_call 75; refine (number_any _ _ (by simp)).mono ?_; rintro e w' ⟨rfl, hw⟩; have hw := hw.symm; subst hw) | (go_at_call 17; refine (wrap_any _ _).mono ?_; rintro e w' ⟨rfl, hw⟩; have hw := hw.symm; subst hw))
      exact bodyPost_ret (v := .tuple #[.agg #[.int .i64 0, .int .i64 0], .int .i64 0, .int .i64 1]) (by simp [results, Try.results61, go_sem]) rfl ⟨rfl, ((Below.refl _ w).alloc (Nat.le_refl _) _).alloc (by simp) _⟩
  · rw [hk] at h
    cases hh : hasA c
    · simp [hh] at h
    · rw [hh] at h
      have h5 : s.size < 5 := by
        by_cases h5 : s.size < 5
        · exact h5
        · simp [h5] at h
      clear h
      have h5' : (s.size : Int) < 5 := by omega
      go_enter Try.func61, Try.ntmps61
      go_wp2_with (first | (go_at_call 42; refine (known_any _ _).mono ?_; rintro e w' ⟨rfl, hw⟩; have hw := hw.symm; subst hw) | (go_at_call 43; refine (namesA_any _ _).mono ?_; rintro e w' ⟨rfl, hw⟩; have hw := hw.symm; subst hw) | (go_at_call 75; refine (number_any _ _ (by simp)).mono ?_; rintro e w' ⟨rfl, hw⟩; have hw := hw.symm; subst hw) | (go_at_call 17; refine (wrap_any _ _).mono ?_; rintro e w' ⟨rfl, hw⟩; have hw := hw.symm; subst hw))
      exact bodyPost_ret (v := .tuple #[.agg #[.int .i64 0, .int .i64 0], .int .i64 0, .int .i64 1]) (by simp [results, Try.results61, go_sem]) rfl ⟨rfl, ((Below.refl _ w).alloc (Nat.le_refl _) _).alloc (by simp) _⟩
set_option maxHeartbeats 1000000 in
theorem first_some (s : ByteArray) (w : World) (c a : Int) (n : Nat) (h0 : 0 < s.size) (hm : s.size ≤ maxLen) (h : firstOf s.data.toList = some ((c, a), n)) : Calls Try.prog 61 #[.string s] w fun e w' => e = .returned (.tuple #[.agg #[.int .i64 c, .int .i64 a], .int .i64 n, .int .i64 0]) ∧ Below w.heap.size w w' := by
  unfold maxLen at hm
  rw [firstOf_at s h0] at h
  obtain ⟨d, hc⟩ : ∃ d : Int, (s[0].toNat : Int) = d := ⟨_, rfl⟩
  have hc0 : 0 ≤ d := by omega
  have hc1 : d ≤ 255 := by have := s[0].toNat_lt; omega
  rw [hc] at h
  cases hk : isCode d
  · simp [hk] at h
  · rw [hk] at h
    cases hh : hasA d
    · simp [hh] at h
      obtain ⟨⟨rfl, rfl⟩, rfl⟩ := h
      have hlt' : ¬ (s.size : Int) < 1 := by omega
      go_enter Try.func61, Try.ntmps61
      go_wp2_with (first | (go_at_call 42; refine (known_any _ _).mono ?_; rintro e w' ⟨rfl, hw⟩; have hw := hw.symm; subst hw) | (go_at_call 43; refine (namesA_any _ _).mono ?_; rintro e w' ⟨rfl, hw⟩; have hw := hw.symm; subst hw))
      refine (number_any _ _ (by simp)).mono ?_
      rintro e w' ⟨rfl, hw⟩
      have hw := hw.symm
      subst hw
      have hn : numOf ByteArray.empty.data.toList = 0 := by decide
      rw [hn]
      go_wp2_with (go_at_call 17; refine (wrap_any _ _).mono ?_; rintro e w' ⟨rfl, hw⟩; have hw := hw.symm; subst hw)
      have hz : wrap32 ((0 : Nat) : Int) = 0 := by unfold wrap32; omega
      exact bodyPost_ret (v := .tuple #[.agg #[.int .i64 d, .int .i64 0], .int .i64 ((1 : Nat) : Int), .int .i64 0]) (by simp [results, Try.results61, go_sem]; try (exact hz)) rfl ⟨rfl, ((Below.refl _ w).alloc (Nat.le_refl _) _).alloc (by simp) _⟩
    · rw [hh] at h
      have h5 : ¬ s.size < 5 := by
        intro h5
        simp [h5] at h
      simp [h5] at h
      obtain ⟨⟨rfl, rfl⟩, rfl⟩ := h
      have h5' : ¬ (s.size : Int) < 5 := by omega
      go_enter Try.func61, Try.ntmps61
      go_wp2_with (first | (go_at_call 42; refine (known_any _ _).mono ?_; rintro e w' ⟨rfl, hw⟩; have hw := hw.symm; subst hw) | (go_at_call 43; refine (namesA_any _ _).mono ?_; rintro e w' ⟨rfl, hw⟩; have hw := hw.symm; subst hw))
      have hx : (s.extract 1 5).data.toList = s.data.toList.tail.take 4 := by
        rw [Lib.extract_data, List.drop_one]
      refine (number_any _ _ (by simp; omega)).mono ?_
      rintro e w' ⟨rfl, hw⟩
      have hw := hw.symm
      subst hw
      rw [hx]
      go_wp2_with (go_at_call 17; refine (wrap_any _ _).mono ?_; rintro e w' ⟨rfl, hw⟩; have hw := hw.symm; subst hw)
      exact bodyPost_ret (v := .tuple #[.agg #[.int .i64 d, .int .i64 (wrap32 (numOf (s.data.toList.tail.take 4)))], .int .i64 ((5 : Nat) : Int), .int .i64 0]) (by simp [results, Try.results61, go_sem]) rfl ⟨rfl, ((Below.refl _ w).alloc (Nat.le_refl _) _).alloc (by simp) _⟩
end Go.Proofs.Ytenaionchlnpoaa

