/- flow.Next, flow.Back. -/
import Derived.Test.YtjaklmmekmhfcaaFc
namespace Go.Proofs.Ytjaklmmekmhfcaa
open Go.RowKit
set_option linter.unusedSimpArgs false
set_option linter.unusedVariables false
/-- lists that rise, and have the same numbers, are the same. -/
theorem rising_ext {L K : List Nat} (h1 : L.Pairwise (· < ·)) (h2 : K.Pairwise (· < ·)) (h : ∀ x, x ∈ L ↔ x ∈ K) : L = K := by
  have n1 : L.Nodup := h1.imp (fun h e => by omega)
  have n2 : K.Nodup := h2.imp (fun h e => by omega)
  have hp : L.Perm K := (List.perm_ext_iff_of_nodup n1 n2).2 h
  exact hp.eq_of_pairwise (fun a b _ _ h1 h2 => absurd h1 (by omega)) h1 h2
theorem filt_eq {L : List Nat} {m : Nat} {p : Nat → Bool} (hL : L.Pairwise (· < ·)) (hm : ∀ x ∈ L, x < m) (hp : ∀ x, x < m → (p x = true ↔ x ∈ L)) : (List.range m).filter p = L := by
  refine rising_ext (List.pairwise_lt_range.filter _) hL fun x => ?_
  rw [List.mem_filter, List.mem_range]
  exact ⟨fun h => (hp x h.1).1 h.2, fun h => ⟨hm x h, (hp x (hm x h)).2 h⟩⟩
theorem nextI_eq {l : List (Int × Int)} (hf : flowErr l = 0) {k : Nat} {c a : Int} (ho : l[k]? = some (c, a)) : nextI c a k = (nextL l k).map Int.ofNat := by
  obtain ⟨_, _, hb⟩ := flowErr_zero hf
  have hk := lt_of_at ho
  have hbo := hb _ (List.mem_of_getElem? ho)
  unfold nextI nextL
  have hg : ∀ x : Nat, goesOn l k x = if c = 13 then false else if c = 10 then decide ((x : Int) = a) else if c = 11 then decide (x = k + 1) || decide ((x : Int) = a) else decide (x = k + 1) := by
    intro x; simp [goesOn, ho]
  by_cases h13 : c = 13
  · rw [if_pos h13, filt_eq (L := []) (by simp) (by simp) (by intro x _; rw [hg]; simp [h13])]; rfl
  rw [if_neg h13]
  by_cases h10 : c = 10
  · simp [badTo, h10] at hbo
    rw [if_pos h10, filt_eq (L := [a.toNat]) (by simp) (by simp; omega) (by intro x _; rw [hg]; simp [h13, h10]; omega)]
    simp; omega
  rw [if_neg h10]
  by_cases h11 : c = 11
  · simp [badTo, h11] at hbo
    rw [if_pos h11]
    unfold rise
    by_cases e1 : a = (k : Int) + 1
    · rw [if_pos e1, filt_eq (L := [k + 1]) (by simp) (by simp; omega) (by intro x _; rw [hg]; simp [h13, h10, h11]; omega)]
      simp [e1]
    rw [if_neg e1]
    by_cases e2 : a < (k : Int) + 1
    · rw [if_pos e2, filt_eq (L := [a.toNat, k + 1]) (by simp; omega) (by simp; omega) (by intro x _; rw [hg]; simp [h13, h10, h11]; omega)]
      simp; omega
    · rw [if_neg e2, filt_eq (L := [k + 1, a.toNat]) (by simp; omega) (by simp; omega) (by intro x _; rw [hg]; simp [h13, h10, h11]; omega)]
      simp; omega
  · rw [if_neg h11, filt_eq (L := [k + 1]) (by simp) (by simp; omega) (by intro x _; rw [hg]; simp [h13, h10, h11])]
    simp
theorem comes_eq {l : List (Int × Int)} (hf : flowErr l = 0) (to k : Nat) : comes l to k = goesOn l k to := by
  obtain ⟨_, _, hb⟩ := flowErr_zero hf
  unfold comes
  cases ho : l[k]? with
  | none => simp [goesOn, ho]
  | some o =>
    show decide ((to : Int) ∈ nextI o.1 o.2 k) = _
    rw [nextI_eq hf (c := o.1) (a := o.2) (by rw [ho])]
    rw [Bool.eq_iff_iff, decide_eq_true_iff, ← mem_nextL hb, List.mem_map]
    refine ⟨fun ⟨x, h1, h2⟩ => ?_, fun h => ⟨to, h, rfl⟩⟩
    obtain rfl : x = to := Int.ofNat.inj h2
    exact h1
def nextR (l : List (Int × Int)) (pc : Int) : List Int := if nextErr l pc = 0 then (nextL l pc.toNat).map Int.ofNat else []
def backR (l : List (Int × Int)) (pc : Int) : List Int := if backErr l pc = 0 then (backL l pc.toNat).map Int.ofNat else []
theorem flowErr_40 {l : List (Int × Int)} (hf : flowErr l = 0) : l.length ≤ 40 := by
  have := (flowErr_zero hf).1
  unfold codeErr at this
  rcases Nat.lt_or_ge 40 l.length with h | h
  · rw [if_pos h] at this; cases this
  · exact h
theorem backL_row {l : List (Int × Int)} (hf : flowErr l = 0) (to : Nat) : placesL (fun pc => comes l to pc) l.length = (backL l to).map Int.ofNat := by
  rw [placesL_congr (q := fun pc => goesOn l pc to) (fun k _ => comes_eq hf to k)]
  rfl
end Go.Proofs.Ytjaklmmekmhfcaa

