/- flow.places at the closures of Back and Reach. -/
import Derived.Test.YtjaklmmekmhfcaaFb
namespace Go.Proofs.Ytjaklmmekmhfcaa
open Go.RowKit
set_option linter.unusedSimpArgs false
set_option linter.unusedVariables false
/-- places below n that are wanted, rising, as numbers. -/
def placesL (p : Nat → Bool) (n : Nat) : List Int := ((List.range n).filter p).map Int.ofNat
theorem placesL_succ_true {p : Nat → Bool} {n : Nat} (h : p n = true) : placesL p (n + 1) = placesL p n ++ [(n : Int)] := by
  simp [placesL, List.range_succ, List.filter_append, h]
theorem placesL_succ_false {p : Nat → Bool} {n : Nat} (h : p n = false) : placesL p (n + 1) = placesL p n := by
  simp [placesL, List.range_succ, List.filter_append, h]
theorem placesL_le (p : Nat → Bool) (n : Nat) : (placesL p n).length ≤ n := by
  have := List.length_filter_le p (List.range n)
  simpa [placesL] using this
theorem placesL_congr {p q : Nat → Bool} {n : Nat} (h : ∀ k, k < n → p k = q k) : placesL p n = placesL q n := by
  unfold placesL
  rw [List.filter_congr fun x hx => h x (by simpa using hx)]
/-- may it come from a place to 'to'? -/
def comes (l : List (Int × Int)) (to : Int) (pc : Nat) : Bool := match l[pc]? with | some o => decide (to ∈ nextI o.1 o.2 pc) | none => false
/-- what Back's closure has captured. -/
def BackBox (w : World) (bc bp : Nat) (l : List (Int × Int)) (to : Int) : Prop := CodeBox w bc l ∧ bp < w.heap.size ∧ w.cell? ⟨bp, 0, none⟩ = some (.int .i64 to)
theorem BackBox.below {w w' : World} {bc bp : Nat} {l : List (Int × Int)} {to : Int} (h : BackBox w bc bp l to) (hb : Below w.heap.size w w') : BackBox w' bc bp l to :=
  ⟨h.1.below hb, Nat.lt_of_lt_of_le h.2.1 hb.size, (hb.cell (p := ⟨bp, 0, none⟩) h.2.1).trans h.2.2⟩
/-- what Reach's second closure has captured: the box of the slice, and the slice's block. -/
def ReachBox (w : World) (bR R : Nat) (M : List Bool) : Prop := bR < w.heap.size ∧ R < w.heap.size ∧ w.cell? ⟨bR, 0, none⟩ = some (.slice (some ⟨R, 0, none⟩) M.length M.length) ∧ ∀ k b, M[k]? = some b → w.cell? ⟨R, k, none⟩ = some (.bool b)
theorem ReachBox.below {w w' : World} {bR R : Nat} {M : List Bool} (h : ReachBox w bR R M) (hb : Below w.heap.size w w') : ReachBox w' bR R M :=
  ⟨Nat.lt_of_lt_of_le h.1 hb.size, Nat.lt_of_lt_of_le h.2.1 hb.size, (hb.cell (p := ⟨bR, 0, none⟩) h.1).trans h.2.2.1, fun k b hk => (hb.cell (p := ⟨R, k, none⟩) h.2.1).trans (h.2.2.2 k b hk)⟩
end Go.Proofs.Ytjaklmmekmhfcaa

