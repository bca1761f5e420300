/- flow.Reach: the closure that visits. -/
import Derived.Test.YtjaklmmekmhfcaaFd
namespace Go.Proofs.Ytjaklmmekmhfcaa
open Go.RowKit
set_option linter.unusedSimpArgs false
set_option linter.unusedVariables false
/-- how many are not marked. -/
def cf : List Bool → Nat
  | [] => 0
  | b :: r => (if b = true then 0 else 1) + cf r
theorem cf_set : ∀ (M : List Bool) (k : Nat), M[k]? = some false → cf (M.set k true) + 1 = cf M
  | [], k, h => by simp at h
  | b :: r, 0, h => by simp at h; subst h; simp [cf]; omega
  | b :: r, k + 1, h => by
    have := cf_set r k (by simpa using h)
    simp only [List.set_cons_succ, cf]
    omega
theorem cf_mono : ∀ (M M' : List Bool), M'.length = M.length → (∀ x, M.getD x false = true → M'.getD x false = true) → cf M' ≤ cf M
  | [], M', h, _ => by
    have : M' = [] := List.eq_nil_of_length_eq_zero (by simpa using h)
    subst this; simp [cf]
  | b :: r, [], h, _ => by simp at h
  | b :: r, c :: s, h, hx => by
    have := cf_mono r s (by simpa using h) (fun x hxx => by have := hx (x + 1) (by simpa using hxx); simpa using this)
    have h0 := hx 0
    simp at h0
    simp only [cf]
    cases b <;> cases c <;> simp_all <;> omega
theorem getD_set (M : List Bool) (k x : Nat) (hk : k < M.length) : (M.set k true).getD x false = if x = k then true else M.getD x false := by
  by_cases h : x = k
  · subst h; simp [List.getD_eq_getElem?_getD, hk]
  · rw [if_neg h, List.getD_eq_getElem?_getD, List.getD_eq_getElem?_getD, List.getElem?_set_ne (fun e => h e.symm)]
/-- what a visit at k makes of the marks. -/
structure Grew (l : List (Int × Int)) (M M' : List Bool) : Prop where
  len : M'.length = M.length
  more : ∀ x, M.getD x false = true → M'.getD x false = true
  come : ∀ x, M'.getD x false = true → M.getD x false = true ∨ Come l x
  shut : ∀ x y, M'.getD x false = true → M.getD x false = false → goesOn l x y = true → M'.getD y false = true
theorem Grew.refl (l : List (Int × Int)) (M : List Bool) : Grew l M M := ⟨rfl, fun _ h => h, fun _ h => .inl h, fun x y h1 h2 => by rw [h1] at h2; cases h2⟩
theorem Grew.trans {l : List (Int × Int)} {M M' M'' : List Bool} (h : Grew l M M') (k : Grew l M' M'') : Grew l M M'' := by
  refine ⟨k.len.trans h.len, fun x hx => k.more x (h.more x hx), fun x hx => ?_, fun x y h1 h2 h3 => ?_⟩
  · rcases k.come x hx with h1 | h1
    · exact h.come x h1
    · exact .inr h1
  · cases hm : M'.getD x false
    · exact k.shut x y h1 hm h3
    · exact k.more y (h.shut x y hm h2 h3)
theorem marks_cells {M : List Bool} {k : Nat} {b : Bool} (h : M[k]? = some b) : (M.map Value.bool).toArray[k]? = some (.bool b) := by
  simp [h]
theorem set_marks (M : List Bool) (k : Nat) : (M.map Value.bool).toArray.setIfInBounds k (.bool true) = ((M.set k true).map Value.bool).toArray := by
  apply Array.ext'
  simp
theorem set_grown (w : World) (a : Addr) (u : Value) : w.grownBy (w.setCell a u) (some a.block) :=
  ⟨rfl, rfl, rfl, by simp [World.setCell], fun k hk hne => Below.heap_setCell _ _ _ _ (fun e => hne (by rw [e]))⟩
theorem below_grown {w w' : World} (h : Below w.heap.size w w') (row : Option Nat) : w.grownBy w' row := ⟨h.os, h.tape, h.output, h.size, fun k hk _ => h.block k hk⟩
theorem grew_mark {l : List (Int × Int)} {M M' : List Bool} {k : Nat} (hk : M[k]? = some false) (hc : Come l k) (h : Grew l (M.set k true) M') (hs : ∀ y, goesOn l k y = true → M'.getD y false = true) : Grew l M M' ∧ M'.getD k false = true := by
  have hlt := lt_of_at hk
  have hg := fun x => getD_set M k x hlt
  have hkk : M'.getD k false = true := h.more k (by rw [hg, if_pos rfl])
  refine ⟨⟨h.len.trans (by simp), fun x hx => h.more x ?_, fun x hx => ?_, fun x y h1 h2 h3 => ?_⟩, hkk⟩
  · rw [hg]; split
    · rfl
    · exact hx
  · rcases h.come x hx with h1 | h1
    · rw [hg] at h1
      by_cases e : x = k
      · subst e; exact .inr hc
      · rw [if_neg e] at h1; exact .inl h1
    · exact .inr h1
  · by_cases e : x = k
    · subst e; exact hs y h3
    · exact h.shut x y h1 (by rw [hg, if_neg e]; exact h2) h3
end Go.Proofs.Ytjaklmmekmhfcaa

