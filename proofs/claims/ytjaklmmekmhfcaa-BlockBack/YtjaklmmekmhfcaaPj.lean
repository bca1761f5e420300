/- Plain functions on types that stand for others (chapter 4), ahead of stage 2: Join, and its laws. -/
import Derived.Test.YtjaklmmekmhfcaaPm
namespace Go.Proofs.Ytjaklmmekmhfcaa
open Go.RowKit
set_option linter.unusedSimpArgs false
set_option linter.unusedVariables false
/-- does a type stand for another one? -/
def standsB (t other : Int) : Bool := decide (t = other) || (decide (t = 3) && decide (other = 2))
/-- the narrowest one that both stand for. -/
def joinT (a b : Int) : Option Int := if a = b then some a else if (a = 2 ∧ b = 3) ∨ (a = 3 ∧ b = 2) then some 2 else none
def joinL : List Int → List Int → Option (List Int)
  | [], [] => some []
  | a :: r, b :: q => (joinT a b).bind fun t => (joinL r q).map fun l => t :: l
  | _, _ => none
def isType (t : Int) : Bool := decide (1 ≤ t) && decide (t ≤ 3)
def joinErr (a b : List Int) : Int := if (a ++ b).any (fun t => !isType t) = true then 6 else if 8 < a.length ∨ 8 < b.length then 2 else if (joinL a b).isNone = true then 4 else 0
theorem joinT_comm (a b : Int) : joinT a b = joinT b a := by
  unfold joinT
  by_cases h : a = b
  · subst h; rfl
  · rw [if_neg h, if_neg (show ¬ b = a from fun e => h e.symm)]
    by_cases h2 : (a = 2 ∧ b = 3) ∨ (a = 3 ∧ b = 2)
    · rw [if_pos h2, if_pos (by omega)]
    · rw [if_neg h2, if_neg (by omega)]
theorem joinT_same (a : Int) : joinT a a = some a := by simp [joinT]
theorem joinT_stands {a b t : Int} (h : joinT a b = some t) : standsB a t = true ∧ standsB b t = true := by
  unfold joinT at h
  by_cases h1 : a = b
  · rw [if_pos h1] at h; cases h; subst h1; simp [standsB]
  · rw [if_neg h1] at h
    by_cases h2 : (a = 2 ∧ b = 3) ∨ (a = 3 ∧ b = 2)
    · rw [if_pos h2] at h; cases h
      rcases h2 with ⟨rfl, rfl⟩ | ⟨rfl, rfl⟩ <;> decide
    · rw [if_neg h2] at h; cases h
theorem joinT_assoc (a b c : Int) : ((joinT a b).bind fun x => joinT x c) = (joinT b c).bind fun r => joinT a r := by
  by_cases h1 : a = b
  · subst h1
    rw [joinT_same]
    by_cases h2 : a = c
    · subst h2; simp [joinT_same]
    · unfold joinT
      by_cases h3 : (a = 2 ∧ c = 3) ∨ (a = 3 ∧ c = 2)
      · rcases h3 with ⟨rfl, rfl⟩ | ⟨rfl, rfl⟩ <;> decide
      · simp [h2, h3]
  · by_cases h2 : (a = 2 ∧ b = 3) ∨ (a = 3 ∧ b = 2)
    · have e : joinT a b = some 2 := by unfold joinT; rw [if_neg h1, if_pos h2]
      rw [e]
      by_cases hc2 : c = 2
      · subst hc2
        rcases h2 with ⟨rfl, rfl⟩ | ⟨rfl, rfl⟩ <;> decide
      · by_cases hc3 : c = 3
        · subst hc3
          rcases h2 with ⟨rfl, rfl⟩ | ⟨rfl, rfl⟩ <;> decide
        · have e1 : joinT 2 c = none := by unfold joinT; rw [if_neg (fun e => hc2 e.symm), if_neg (by omega)]
          have e2 : joinT 3 c = none := by unfold joinT; rw [if_neg (fun e => hc3 e.symm), if_neg (by omega)]
          rcases h2 with ⟨rfl, rfl⟩ | ⟨rfl, rfl⟩ <;> simp [e1, e2]
    · have e : joinT a b = none := by unfold joinT; rw [if_neg h1, if_neg h2]
      rw [e]
      cases hbc : joinT b c with
      | none => rfl
      | some r =>
        simp only [Option.bind_none, Option.bind_some]
        unfold joinT at hbc
        by_cases h3 : b = c
        · rw [if_pos h3] at hbc; cases hbc; exact e.symm
        · rw [if_neg h3] at hbc
          by_cases h4 : (b = 2 ∧ c = 3) ∨ (b = 3 ∧ c = 2)
          · rw [if_pos h4] at hbc; cases hbc
            unfold joinT
            rw [if_neg (by omega), if_neg (by omega)]
          · rw [if_neg h4] at hbc; cases hbc
theorem joinL_comm : ∀ a b : List Int, joinL a b = joinL b a
  | [], [] => rfl
  | [], _ :: _ => rfl
  | _ :: _, [] => rfl
  | a :: r, b :: q => by simp only [joinL]; rw [joinT_comm a b, joinL_comm r q]
theorem joinL_same : ∀ a : List Int, joinL a a = some a
  | [] => rfl
  | a :: r => by simp only [joinL]; rw [joinT_same, joinL_same r]; rfl
theorem joinL_length : ∀ (a b l : List Int), joinL a b = some l → l.length = a.length ∧ a.length = b.length
  | [], [], l, h => by cases h; exact ⟨rfl, rfl⟩
  | [], _ :: _, l, h => by cases h
  | _ :: _, [], l, h => by cases h
  | a :: r, b :: q, l, h => by
    simp only [joinL] at h
    obtain ⟨t, ht, h2⟩ := Option.bind_eq_some_iff.1 h
    obtain ⟨l', hl', rfl⟩ := Option.map_eq_some_iff.1 h2
    obtain ⟨h3, h4⟩ := joinL_length r q l' hl'
    simp [h3, h4]
theorem joinL_assoc : ∀ a b c : List Int, ((joinL a b).bind fun x => joinL x c) = (joinL b c).bind fun r => joinL a r
  | [], [], [] => rfl
  | [], [], _ :: _ => rfl
  | [], _ :: _, [] => rfl
  | [], b :: q, c :: s => by
    show none = _
    cases h : joinL (b :: q) (c :: s) with
    | none => rfl
    | some l =>
      have := (joinL_length _ _ _ h).1
      cases l with
      | nil => simp at this
      | cons _ _ => rfl
  | _ :: _, [], [] => rfl
  | _ :: _, [], _ :: _ => rfl
  | a :: r, b :: q, [] => by
    show _ = none
    cases h : joinL (a :: r) (b :: q) with
    | none => rfl
    | some l =>
      have := (joinL_length _ _ _ h).1
      cases l with
      | nil => simp at this
      | cons _ _ => rfl
  | a :: r, b :: q, c :: s => by
    have h1 := joinT_assoc a b c
    have h2 := joinL_assoc r q s
    simp only [joinL]
    cases e1 : joinT a b with
    | none =>
      rw [e1] at h1
      simp only [Option.bind_none] at h1 ⊢
      cases e2 : joinT b c with
      | none => rfl
      | some y =>
        rw [e2] at h1
        simp only [Option.bind_some] at h1
        cases e3 : joinL q s with
        | none => rfl
        | some m => simp [joinL, ← h1]
    | some x =>
      rw [e1] at h1
      simp only [Option.bind_some] at h1
      cases e4 : joinL r q with
      | none =>
        rw [e4] at h2
        simp only [Option.bind_none, Option.map_none, Option.bind_some] at h2 ⊢
        cases e2 : joinT b c with
        | none => rfl
        | some y =>
          cases e3 : joinL q s with
          | none => rfl
          | some m =>
            rw [e3] at h2
            simp only [Option.bind_some] at h2
            simp [joinL, ← h2]
      | some l =>
        rw [e4] at h2
        simp only [Option.bind_some, Option.map_some, joinL] at h2 ⊢
        rw [h1]
        cases e2 : joinT b c with
        | none => rfl
        | some y =>
          cases e3 : joinL q s with
          | none =>
            rw [e3] at h2
            simp only [Option.bind_none] at h2
            rw [h2]
            simp
          | some m =>
            rw [e3] at h2
            simp only [Option.bind_some] at h2
            simp [joinL, h2]
end Go.Proofs.Ytjaklmmekmhfcaa

