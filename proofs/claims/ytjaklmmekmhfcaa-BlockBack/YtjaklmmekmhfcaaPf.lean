/- Plain functions on where code goes on (chapter 3), ahead of stage 2: what Next, Back and Reach should tell, and how a set of places is known to be Reach's. -/
import Derived.Test.YtjaklmmekmhfcaaPm
namespace Go.Proofs.Ytjaklmmekmhfcaa
open Go.RowKit
set_option linter.unusedSimpArgs false
set_option linter.unusedVariables false
/-- may it go on at 'to' behind the op at pc? -/
def goesOn (code : List (Int × Int)) (pc to : Nat) : Bool :=
  match code[pc]? with
  | none => false
  | some o => if o.1 = 13 then false else if o.1 = 10 then decide ((to : Int) = o.2) else if o.1 = 11 then decide (to = pc + 1) || decide ((to : Int) = o.2) else decide (to = pc + 1)
/-- is A of a jump or a zero no op's place? -/
def badTo (n : Nat) (o : Int × Int) : Bool := (o.1 == 10 || o.1 == 11) && !(decide (0 ≤ o.2) && decide (o.2 < (n : Int)))
/-- C1's errno of code. -/
def flowErr (code : List (Int × Int)) : Int := if codeErr code ≠ 0 then codeErr code else if code.length = 0 then 5 else if code.any (badTo code.length) = true then 3 else 0
def nextErr (code : List (Int × Int)) (pc : Int) : Int := if flowErr code ≠ 0 then flowErr code else if pc < 0 ∨ (code.length : Int) ≤ pc then 3 else 0
def backErr (code : List (Int × Int)) (pc : Int) : Int := if flowErr code ≠ 0 then flowErr code else if pc < 0 ∨ (code.length : Int) < pc then 3 else 0
def nextL (code : List (Int × Int)) (pc : Nat) : List Nat := (List.range (code.length + 1)).filter (goesOn code pc)
def backL (code : List (Int × Int)) (to : Nat) : List Nat := (List.range code.length).filter fun pc => goesOn code pc to
/-- may a place be come to? -/
inductive Come (code : List (Int × Int)) : Nat → Prop
  | zero : Come code 0
  | step {pc to : Nat} : Come code pc → goesOn code pc to = true → Come code to
open Classical in
noncomputable def reachL (code : List (Int × Int)) : List Nat := (List.range (code.length + 1)).filter fun x => decide (Come code x)
theorem goesOn_lt {code : List (Int × Int)} {pc to : Nat} (h : goesOn code pc to = true) : pc < code.length := by
  rcases Nat.lt_or_ge pc code.length with h' | h'
  · exact h'
  · simp [goesOn, List.getElem?_eq_none h'] at h
theorem flowErr_zero {code : List (Int × Int)} (h : flowErr code = 0) : codeErr code = 0 ∧ code.length ≠ 0 ∧ ∀ o ∈ code, badTo code.length o = false := by
  unfold flowErr at h
  by_cases h1 : codeErr code = 0
  · rw [if_neg (by simp [h1])] at h
    by_cases h2 : code.length = 0
    · rw [if_pos h2] at h; cases h
    · rw [if_neg h2] at h
      by_cases h3 : code.any (badTo code.length) = true
      · rw [if_pos h3] at h; cases h
      · refine ⟨h1, h2, fun o ho => ?_⟩
        cases hb : badTo code.length o
        · rfl
        · exact absurd (List.any_eq_true.2 ⟨o, ho, hb⟩) h3
  · rw [if_pos h1] at h; exact absurd h h1
/-- it goes on within the code, or at its end. -/
theorem goesOn_le {code : List (Int × Int)} (hc : ∀ o ∈ code, badTo code.length o = false) {pc to : Nat} (h : goesOn code pc to = true) : to ≤ code.length := by
  have hp := goesOn_lt h
  have ho := List.getElem?_eq_getElem hp
  have hb := hc _ (List.getElem_mem hp)
  simp only [goesOn, ho] at h
  by_cases h13 : code[pc].1 = 13
  · simp [h13] at h
  rw [if_neg h13] at h
  by_cases h10 : code[pc].1 = 10
  · rw [if_pos h10] at h
    simp [badTo, h10] at hb h
    omega
  rw [if_neg h10] at h
  by_cases h11 : code[pc].1 = 11
  · rw [if_pos h11] at h
    simp [badTo, h11] at hb h
    omega
  · rw [if_neg h11] at h
    simp at h
    omega
theorem come_le {code : List (Int × Int)} (hc : ∀ o ∈ code, badTo code.length o = false) {x : Nat} (h : Come code x) : x ≤ code.length := by
  cases h with
  | zero => omega
  | step _ h2 => exact goesOn_le hc h2
/-- a set of places that has 0, that only has what may be come to, and that is left nowhere, has all. -/
theorem come_iff {code : List (Int × Int)} (M : Nat → Prop) (h0 : M 0) (hs : ∀ x, M x → Come code x) (hc : ∀ pc to, M pc → goesOn code pc to = true → M to) (x : Nat) : M x ↔ Come code x := by
  refine ⟨hs x, fun h => ?_⟩
  induction h with
  | zero => exact h0
  | step _ h2 ih => exact hc _ _ ih h2
/-- C2. -/
theorem come_from {code : List (Int × Int)} {x : Nat} (h : Come code x) : x = 0 ∨ ∃ pc, Come code pc ∧ goesOn code pc x = true := by
  cases h with
  | zero => exact .inl rfl
  | step h1 h2 => exact .inr ⟨_, h1, h2⟩
theorem mem_nextL {code : List (Int × Int)} (hc : ∀ o ∈ code, badTo code.length o = false) {pc to : Nat} : to ∈ nextL code pc ↔ goesOn code pc to = true := by
  simp only [nextL, List.mem_filter, List.mem_range]
  exact ⟨fun h => h.2, fun h => ⟨by have := goesOn_le hc h; omega, h⟩⟩
theorem mem_backL {code : List (Int × Int)} {pc to : Nat} : pc ∈ backL code to ↔ goesOn code pc to = true := by
  simp only [backL, List.mem_filter, List.mem_range]
  exact ⟨fun h => h.2, fun h => ⟨goesOn_lt h, h⟩⟩
theorem mem_reachL {code : List (Int × Int)} (hc : ∀ o ∈ code, badTo code.length o = false) {x : Nat} : x ∈ reachL code ↔ Come code x := by
  simp only [reachL, List.mem_filter, List.mem_range, decide_eq_true_eq]
  exact ⟨fun h => h.2, fun h => ⟨by have := come_le hc h; omega, h⟩⟩
open Classical in
/-- .. as lists: what tells the places of a set, rising, is Reach's. -/
theorem reachL_eq {code : List (Int × Int)} (M : Nat → Bool) (h0 : M 0 = true) (hs : ∀ x, M x = true → Come code x) (hc : ∀ pc to, M pc = true → goesOn code pc to = true → M to = true) : (List.range (code.length + 1)).filter M = reachL code := by
  unfold reachL
  refine List.filter_congr fun x _ => ?_
  have := come_iff (fun x => M x = true) h0 hs hc x
  rw [Bool.eq_iff_iff, decide_eq_true_iff]
  exact this
end Go.Proofs.Ytjaklmmekmhfcaa

