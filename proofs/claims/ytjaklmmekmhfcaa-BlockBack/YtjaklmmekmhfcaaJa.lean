/- verify: standsFor, joinType, Join. -/
import Derived.Test.YtjaklmmekmhfcaaFf
import Derived.Test.YtjaklmmekmhfcaaPv
import Derived.Deep.RegionLaw
import Derived.BigQuiet
namespace Go.Proofs.Ytjaklmmekmhfcaa
open Go.RowKit
set_option linter.unusedSimpArgs false
set_option linter.unusedVariables false
/-- joinType. -/
def jt (a b : Int) : Int := if standsB a b = true then b else if standsB b a = true then a else 0
theorem jt_none {a b : Int} (ha : isType a = true) (hb : isType b = true) : jt a b = 0 ↔ joinT a b = none := by
  simp only [isType, Bool.and_eq_true, decide_eq_true_eq] at ha hb
  unfold jt joinT standsB
  by_cases h : a = b
  · subst h; simp; omega
  · by_cases h1 : a = 3 ∧ b = 2
    · obtain ⟨rfl, rfl⟩ := h1; simp
    · by_cases h2 : a = 2 ∧ b = 3
      · obtain ⟨rfl, rfl⟩ := h2; simp
      · have e1 : (decide (a = b) || decide (a = 3) && decide (b = 2)) = false := by simp [h]; omega
        have e2 : (decide (b = a) || decide (b = 3) && decide (a = 2)) = false := by simp [fun e : b = a => h e.symm]; omega
        rw [e1, e2]
        simp [h]
        omega
theorem jt_some {a b t : Int} (h : joinT a b = some t) : jt a b = t := by
  unfold joinT at h
  by_cases h1 : a = b
  · rw [if_pos h1] at h; cases h; subst h1; simp [jt, standsB]
  · rw [if_neg h1] at h
    split at h
    · rename_i h2
      cases h
      rcases h2 with ⟨rfl, rfl⟩ | ⟨rfl, rfl⟩ <;> simp [jt, standsB]
    · cases h
theorem jt_list : ∀ {a b l : List Int}, joinL a b = some l → List.zipWith jt a b = l
  | [], [], l, h => by cases h; rfl
  | [], _ :: _, l, h => by cases h
  | _ :: _, [], l, h => by cases h
  | a :: r, b :: q, l, h => by
    simp only [joinL] at h
    obtain ⟨t, ht, h2⟩ := Option.bind_eq_some_iff.1 h
    obtain ⟨l', hl', rfl⟩ := Option.map_eq_some_iff.1 h2
    simp [jt_some ht, jt_list hl']
theorem jt_zero : ∀ {a b : List Int}, a.length = b.length → (∀ x ∈ a, isType x = true) → (∀ x ∈ b, isType x = true) → ((0 : Int) ∈ List.zipWith jt a b ↔ joinL a b = none)
  | [], [], _, _, _ => by simp [joinL]
  | [], _ :: _, h, _, _ => by simp at h
  | _ :: _, [], h, _, _ => by simp at h
  | a :: r, b :: q, h, ha, hb => by
    have ih := jt_zero (a := r) (b := q) (by simpa using h) (fun x hx => ha x (by simp [hx])) (fun x hx => hb x (by simp [hx]))
    have h1 := jt_none (ha a (by simp)) (hb b (by simp))
    simp only [List.zipWith_cons_cons, List.mem_cons, ih, joinL]
    cases e : joinT a b with
    | none => simp [h1.2 e]
    | some t =>
      have hne : ¬ 0 = jt a b := fun h0 => by have := h1.1 h0.symm; rw [e] at this; cases this
      simp [hne]
/-- numbers so far, then noughts. -/
def upTo (l : List Int) (k : Nat) : List Int := l.take k ++ List.replicate (l.length - k) 0
theorem upTo_set {l : List Int} {k : Nat} {x : Int} (h : l[k]? = some x) : (upTo l k).set k x = upTo l (k + 1) := by
  have hk := lt_of_at h
  apply List.ext_getElem?
  intro i
  rw [List.getElem?_set]
  have hlen : (upTo l k).length = l.length := by simp [upTo]; omega
  by_cases e : k = i
  · subst e
    rw [if_pos rfl, if_pos (by omega)]
    unfold upTo
    rw [List.getElem?_append_left (by simp; omega), List.getElem?_take_of_lt (by omega), h]
  · rw [if_neg e]
    unfold upTo
    by_cases hi : i < k
    · rw [List.getElem?_append_left (by simp; omega), List.getElem?_append_left (by simp; omega), List.getElem?_take_of_lt hi, List.getElem?_take_of_lt (by omega)]
    · rw [List.getElem?_append_right (by simp; omega), List.getElem?_append_right (by simp; omega)]
      simp only [List.getElem?_replicate, List.length_take]
      rw [Nat.min_eq_left (by omega), Nat.min_eq_left (by omega)]
      by_cases hl : i < l.length
      · rw [if_pos (by omega), if_pos (by omega)]
      · rw [if_neg (by omega), if_neg (by omega)]
theorem upTo_all (l : List Int) : upTo l l.length = l := by simp [upTo]
theorem upTo_none (l : List Int) : upTo l 0 = List.replicate l.length 0 := by simp [upTo]
theorem set_ints (l : List Int) (k : Nat) (x : Int) : (l.map (Value.int .i64)).toArray.setIfInBounds k (.int .i64 x) = ((l.set k x).map (Value.int .i64)).toArray := by
  apply Array.ext'
  simp
theorem made_ints (n : Nat) : (madeCells (Value.int .i64 0).cells (n * 1)).toList = (List.replicate n (0 : Int)).map (Value.int .i64) := by
  have h : (Value.int .i64 0).cells = #[.int .i64 0] := rfl
  rw [h]
  apply List.ext_getElem?
  intro k
  by_cases hk : k < n
  · simp [madeCells, hk, Nat.mod_one]
  · simp [madeCells, hk]
end Go.Proofs.Ytjaklmmekmhfcaa

