/- Code in memory: a slice value and the cells behind it. -/
import Derived.Test.YtjaklmmekmhfcaaRows
import Derived.Test.YtjaklmmekmhfcaaPl
import Derived.WalkKit
import Derived.WalkSpells
import Derived.WalkLawsBesides
namespace Go.Proofs.Ytjaklmmekmhfcaa
open Go.RowKit
/-- The slice 'v' holds the ops 'l'. -/
def OpsAt (w : World) (v : Value) (l : List (Int × Int)) : Prop :=
  ∃ (p : Option Addr) (cap : Nat), v = .slice p l.length cap ∧ l.length ≤ maxLen ∧ ∀ k o, l[k]? = some o →
    ∃ b off, p = some ⟨b, off, none⟩ ∧ b < w.heap.size ∧ w.cell? ⟨b, off + k * 2, none⟩ = some (.int .i64 o.1) ∧ w.cell? ⟨b, off + k * 2 + 1, none⟩ = some (.int .i64 o.2)
theorem OpsAt.below {w w' : World} {v : Value} {l : List (Int × Int)} (h : OpsAt w v l) (hb : Below w.heap.size w w') : OpsAt w' v l := by
  obtain ⟨p, cap, rfl, hm, hc⟩ := h
  refine ⟨p, cap, rfl, hm, fun k o hk => ?_⟩
  obtain ⟨b, off, rfl, hlt, h0, h1⟩ := hc k o hk
  exact ⟨b, off, rfl, Nat.lt_of_lt_of_le hlt hb.size, (hb.cell (p := ⟨b, off + k * 2, none⟩) hlt).trans h0, (hb.cell (p := ⟨b, off + k * 2 + 1, none⟩) hlt).trans h1⟩
end Go.Proofs.Ytjaklmmekmhfcaa

