/- Plain laws on blocks (chapter 5): what is set is got; a new block is all noughts; what is kept is as it was. -/
import Derived.Test.YtjaklmmekmhfcaaBd
namespace Go.Proofs.Ytjaklmmekmhfcaa
open Go.RowKit
set_option linter.unusedSimpArgs false
set_option linter.unusedVariables false
theorem place_mk {L : List (List Int)} {j k : Nat} {b : List Int} {z : Int} (he : blkErr L = 0) (hb : L[j]? = some b) (hz : b[k]? = some z) : placeErr L ((j : Int) + 1) k = 0 ∧ getR L ((j : Int) + 1) k = z := by
  have hba := blkAt_some hb (ref := (j : Int) + 1) rfl
  have h1 := lt_of_at hb
  have h2 := lt_of_at hz
  have hp : placeErr L ((j : Int) + 1) k = 0 := by
    unfold placeErr
    rw [if_neg (by simpa using he), if_neg (by omega), hba, if_neg (by omega)]
  refine ⟨hp, ?_⟩
  rw [getR, if_pos hp, getL, hba, Int.toNat_natCast, hz]; rfl
theorem place_past {L : List (List Int)} {j k : Nat} {b : List Int} (he : blkErr L = 0) (hb : L[j]? = some b) (hk : b.length ≤ k) : placeErr L ((j : Int) + 1) k = 3 := by
  have hba := blkAt_some hb (ref := (j : Int) + 1) rfl
  unfold placeErr
  rw [if_neg (by simpa using he), if_neg (by omega), hba, if_pos (by omega)]
theorem set_facts {L : List (List Int)} {ref at_ n : Int} (h : setErr L ref at_ n = 0) : placeErr L ref at_ = 0 ∧ isI32 n = true := by
  unfold setErr at h
  by_cases hp : placeErr L ref at_ = 0
  · rw [if_neg (by simpa using hp)] at h
    cases hn : isI32 n
    · rw [hn] at h; cases h
    · exact ⟨hp, rfl⟩
  · rw [if_pos hp] at h; exact absurd h hp
theorem cellsN_set {L : List (List Int)} {j : Nat} {b c : List Int} (hb : L[j]? = some b) (hl : c.length = b.length) : cellsN (L.set j c) = cellsN L := by
  induction L generalizing j with
  | nil => simp at hb
  | cons x r ih =>
    cases j with
    | zero => simp at hb; subst hb; simp [cellsN, hl]
    | succ j =>
      have := ih (j := j) (by simpa using hb)
      simp [cellsN] at this ⊢
      exact this
theorem set_blk {L : List (List Int)} {ref at_ n : Int} (h : setErr L ref at_ n = 0) : ∃ (j k : Nat) (b : List Int) (z : Int), ref = (j : Int) + 1 ∧ at_ = (k : Int) ∧ L[j]? = some b ∧ b[k]? = some z ∧ setR L ref at_ n = L.set j (b.set k n) ∧ blkErr (L.set j (b.set k n)) = 0 := by
  obtain ⟨hp, hn⟩ := set_facts h
  obtain ⟨he, j, k, b, z, hj, hk, hb, hz⟩ := place_zero hp
  obtain ⟨h8, h40, hi⟩ := blkErr_zero he
  refine ⟨j, k, b, z, hj, hk, hb, hz, ?_, blkErr_mk (by simpa using h8) (by rw [cellsN_set hb (by simp)]; exact h40) fun c hc y hy => ?_⟩
  · rw [setR, if_pos h, setL, blkAt_some hb hj, hk, hj, show ((j : Int) + 1 - 1).toNat = j by omega, Int.toNat_natCast]
  · rcases List.mem_or_eq_of_mem_set hc with hc | rfl
    · exact hi c hc y hy
    · rcases List.mem_or_eq_of_mem_set hy with hy | rfl
      · exact hi b (List.mem_of_getElem? hb) y hy
      · exact hn
/-- what is set is got, and nothing else is other. -/
theorem set_got {L : List (List Int)} {ref at_ n : Int} (h : setErr L ref at_ n = 0) {i m : Nat} {c : List Int} {y : Int} (hc : L[i]? = some c) (hy : c[m]? = some y) : placeErr (setR L ref at_ n) ((i : Int) + 1) m = 0 ∧ getR (setR L ref at_ n) ((i : Int) + 1) m = if (i : Int) + 1 = ref ∧ (m : Int) = at_ then n else y := by
  obtain ⟨j, k, b, z, hj, hk, hb, hz, hr, hbe⟩ := set_blk h
  rw [hr]
  by_cases e : i = j
  · subst e
    have hcb : b = c := by rw [hb] at hc; exact Option.some.inj hc
    subst hcb
    have h1 : (L.set i (b.set k n))[i]? = some (b.set k n) := List.getElem?_set_self (lt_of_at hb)
    by_cases e2 : m = k
    · subst e2
      have h2 : (b.set m n)[m]? = some n := List.getElem?_set_self (lt_of_at hy)
      rw [if_pos ⟨hj.symm, hk.symm⟩]
      exact place_mk hbe h1 h2
    · have h2 : (b.set k n)[m]? = some y := by rw [List.getElem?_set_ne (fun x => e2 x.symm)]; exact hy
      rw [if_neg (by omega)]
      exact place_mk hbe h1 h2
  · have h1 : (L.set j (b.set k n))[i]? = some c := by rw [List.getElem?_set_ne (fun x => e x.symm)]; exact hc
    rw [if_neg (by omega)]
    exact place_mk hbe h1 hy
theorem new_facts {L : List (List Int)} {n : Nat} (h : newErr L n = 0) : blkErr L = 0 ∧ L.length < 8 ∧ cellsN L + n ≤ 40 ∧ newR L n = L ++ [List.replicate n 0] ∧ newRef L n = (L.length : Int) + 1 ∧ blkErr (L ++ [List.replicate n 0]) = 0 := by
  have he : blkErr L = 0 := by
    by_cases hb : blkErr L = 0
    · exact hb
    · unfold newErr at h; rw [if_pos hb] at h; exact absurd h hb
  obtain ⟨h8, h40, hi⟩ := blkErr_zero he
  have hsp : L.length ≠ 8 ∧ (n : Int) ≤ 40 - (cellsN L : Int) := by
    unfold newErr at h
    rw [if_neg (by simpa using he), if_neg (by omega)] at h
    by_cases hc : L.length = 8 ∨ 40 - (cellsN L : Int) < (n : Int)
    · rw [if_pos hc] at h; cases h
    · omega
  refine ⟨he, by omega, by omega, by rw [newR, if_pos h, newL, Int.toNat_natCast], by rw [newRef, if_pos h], blkErr_mk (by simp; omega) (by rw [cellsN_append]; simp [cellsN] at *; omega) fun b hb y hy => ?_⟩
  rcases List.mem_append.1 hb with hb | hb
  · exact hi b hb y hy
  · simp at hb; subst hb
    have := List.eq_of_mem_replicate hy
    subst this; decide
theorem new_got {L : List (List Int)} {n k : Nat} (h : newErr L n = 0) (hk : k < n) : placeErr (newR L n) ((L.length : Int) + 1) k = 0 ∧ getR (newR L n) ((L.length : Int) + 1) k = 0 := by
  obtain ⟨_, _, _, h1, _, h2⟩ := new_facts h
  rw [h1]
  exact place_mk h2 (b := List.replicate n 0) (by simp) (by simp [hk])
theorem new_past {L : List (List Int)} {n : Nat} (h : newErr L n = 0) : placeErr (newR L n) ((L.length : Int) + 1) n = 3 := by
  obtain ⟨_, _, _, h1, _, h2⟩ := new_facts h
  rw [h1]
  exact place_past h2 (b := List.replicate n 0) (by simp) (by simp)
end Go.Proofs.Ytjaklmmekmhfcaa

