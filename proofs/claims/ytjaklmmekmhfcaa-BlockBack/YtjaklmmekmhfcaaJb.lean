/- verify.Join. -/
import Derived.Test.YtjaklmmekmhfcaaJa
namespace Go.Proofs.Ytjaklmmekmhfcaa
open Go.RowKit
set_option linter.unusedSimpArgs false
set_option linter.unusedVariables false
def joinR (a b : List Int) : List Int := if joinErr a b = 0 then (joinL a b).getD [] else []
theorem joinErr_kind {a b : List Int} (h : (a.all isType && b.all isType) = false) : joinErr a b = 6 := by
  unfold joinErr
  rw [if_pos]
  rw [List.any_append, Bool.or_eq_true]
  rcases Bool.and_eq_false_iff.1 h with h | h
  · left; rw [← List.not_all_eq_any_not, h]; rfl
  · right; rw [← List.not_all_eq_any_not, h]; rfl
theorem joinErr_many {a b : List Int} (ha : a.all isType = true) (hb : b.all isType = true) (h : 8 < a.length ∨ 8 < b.length) : joinErr a b = 2 := by
  unfold joinErr
  rw [if_neg (by rw [List.any_append, ← List.not_all_eq_any_not, ← List.not_all_eq_any_not, ha, hb]; decide), if_pos h]
theorem joinErr_rest {a b : List Int} (ha : a.all isType = true) (hb : b.all isType = true) (h1 : a.length ≤ 8) (h2 : b.length ≤ 8) : joinErr a b = if (joinL a b).isNone = true then 4 else 0 := by
  unfold joinErr
  rw [if_neg (by rw [List.any_append, ← List.not_all_eq_any_not, ← List.not_all_eq_any_not, ha, hb]; decide), if_neg (by omega)]
theorem joinL_lens {a b : List Int} (h : a.length ≠ b.length) : joinL a b = none := by
  cases e : joinL a b with
  | none => rfl
  | some l => exact absurd (joinL_length _ _ _ e).2 h
theorem ints_at_full {w : World} {R n : Nat} {J : List Int} (h : w.heap[R]? = some (.cells (J.map (Value.int .i64)).toArray 3 (0, 0))) (hn : J.length = n) (hm : n ≤ maxLen := by unfold maxLen; omega) : IntsAt w (.slice (some ⟨R, 0, none⟩) n n) J := by
  subst hn
  refine ⟨_, _, rfl, hm, fun k z hk => ⟨R, 0, rfl, heap_lt h, ?_⟩⟩
  rw [cell_at' h]
  simp [hk]
end Go.Proofs.Ytjaklmmekmhfcaa

