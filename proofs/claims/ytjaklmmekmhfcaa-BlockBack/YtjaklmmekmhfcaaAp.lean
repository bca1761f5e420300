/- append of code in memory onto a row of the call's own; Encode once more, its text under a name. -/
import Derived.Test.YtjaklmmekmhfcaaWj
import Derived.Laws.AppendOwnNone
namespace Go.Proofs.Ytjaklmmekmhfcaa
open Go.RowKit
set_option linter.unusedSimpArgs false
set_option linter.unusedVariables false
/-- a slice without memory has no room. -/
def NilOk (v : Value) : Prop := ∀ n c, v = .slice none n c → c = 0
theorem add_at (b off j : Nat) : (⟨b, off, none⟩ : Addr).add j = ⟨b, off + j, none⟩ := by
  unfold Addr.add; split <;> simp_all
theorem ops_cells {w : World} {p : Option Addr} {n cap : Nat} {l : List (Int × Int)} (h : OpsAt w (.slice p n cap) l) (ad : Addr) (hp : p = some ad) : ∀ (j : Nat) (u : Value), (opCells l)[j]? = some u → w.cell? (ad.add j) = some u := by
  obtain ⟨q, c, he, _, hc⟩ := h
  cases he
  intro j u hj
  have hlt := lt_of_at' hj
  rw [opCells_length] at hlt
  obtain ⟨o, ho⟩ : ∃ o, l[j / 2]? = some o := ⟨l[j / 2]'(by omega), List.getElem?_eq_some_iff.2 ⟨by omega, rfl⟩⟩
  obtain ⟨b, off, hp2, _, h0, h1⟩ := hc _ o ho
  rw [hp] at hp2
  cases hp2
  have hx := opCells_at l _ o ho
  rcases Nat.mod_two_eq_zero_or_one j with hm | hm
  · have e : j / 2 * 2 = j := by omega
    rw [e] at h0 hx
    rw [hx.1] at hj
    cases hj
    rw [add_at]; exact h0
  · have e : j / 2 * 2 + 1 = j := by omega
    have e' : off + j / 2 * 2 + 1 = off + j := by omega
    rw [e] at hx
    rw [e'] at h1
    rw [hx.2] at hj
    cases hj
    rw [add_at]; exact h1
theorem opCells_one (l : List (Int × Int)) : ∀ u ∈ opCells l, u.oneCell' = true := by
  intro u hu
  obtain ⟨o, _, ho⟩ := List.mem_flatMap.1 hu
  simp at ho
  rcases ho with rfl | rfl <;> rfl
end Go.Proofs.Ytjaklmmekmhfcaa

