/- flow.Reach. -/
import Derived.Test.YtjaklmmekmhfcaaFe
import Derived.Laws.EntriesVeiled
namespace Go.Proofs.Ytjaklmmekmhfcaa
open Go.RowKit
set_option linter.unusedSimpArgs false
set_option linter.unusedVariables false
noncomputable def reachR (l : List (Int × Int)) : List Int := if flowErr l = 0 then (reachL l).map Int.ofNat else []
theorem infoBool : (Try.prog.info? 4).map (fun i => (i.zero, i.size, i.bytes)) = some (some (.bool false), 1, 1) := by kernel_rfl
theorem made_bools (n : Nat) : (madeCells (Value.bool false).cells (n * 1)).toList = (List.replicate n false).map Value.bool := by
  have h : (Value.bool false).cells = #[.bool false] := rfl
  rw [h]
  apply List.ext_getElem?
  intro k
  by_cases hk : k < n
  · simp [madeCells, hk, Nat.mod_one]
  · simp [madeCells, hk]
theorem grew_reach {l : List (Int × Int)} {M : List Bool} (h : Grew l (List.replicate (l.length + 1) false) M) (h0 : M.getD 0 false = true) : placesL (fun pc => M.getD pc false) M.length = (reachL l).map Int.ofNat := by
  have hn : ∀ x, (List.replicate (l.length + 1) false).getD x false = false := by
    intro x
    rw [List.getD_eq_getElem?_getD, List.getElem?_replicate]
    split <;> rfl
  have hlen : M.length = l.length + 1 := by rw [h.len]; simp
  rw [hlen]
  unfold placesL
  rw [reachL_eq (code := l) (fun pc => M.getD pc false) h0 (fun x hx => ?_) (fun pc to hp hg => h.shut pc to hp (hn pc) hg)]
  rcases h.come x hx with h1 | h1
  · rw [hn] at h1; cases h1
  · exact h1
theorem row_full {w : World} {base : Nat} {e : TypeId} {R n : Nat} {xs : List Value} (h : w.ownsRow base e 1 (.slice (some ⟨R, 0, none⟩) n n) n xs) (hx : xs.length = n) : w.heap[R]? = some (.cells xs.toArray e (0, 0)) := by
  rcases h.2 with ⟨h1, _⟩ | ⟨g, cap, cur, hv, hb, hg, hn, hc, hs, ht⟩
  · cases h1
  · cases hv
    rw [hg]
    have : cur.toList = xs := by rw [← ht, List.take_of_length_le (by simp; omega)]
    rw [← this]
end Go.Proofs.Ytjaklmmekmhfcaa

