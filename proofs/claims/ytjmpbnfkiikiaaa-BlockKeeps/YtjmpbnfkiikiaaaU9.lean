/- My texts Jj, joined. -/
import Derived.Test.YtjmpbnfkiikiaaaU8
/- verify.behind. -/
namespace Go.Proofs.Ytjmpbnfkiikiaaa
open Go.RowKit
set_option linter.unusedSimpArgs false
set_option linter.unusedVariables false
/-- no function's locals are longer than their room. -/
def CapAt (W : World) (v : Value) : Prop := ∀ (b off n cap k : Nat) (p' : Option Addr) (n' c' : Nat), v = .slice (some ⟨b, off, none⟩) n cap → k < n → W.cell? ⟨b, off + k * 4 + 1, none⟩ = some (.slice p' n' c') → n' ≤ c'
theorem CapAt.below {W W' : World} {v : Value} {l : List Fn} (h : CapAt W v) (hf : FnsAt W v l) (hb : Below W.heap.size W W') : CapAt W' v := by
  intro b off n cap k p' n' c' hv hk hc
  obtain ⟨p, cap2, rfl, hm, hcc⟩ := hf
  cases hv
  obtain ⟨f, hf⟩ := at_of_lt hk
  obtain ⟨b2, off2, c0, c1, c2, c3, hp, hlt, _⟩ := hcc k f hf
  cases hp
  rw [hb.cell (p := ⟨b, off + k * 4 + 1, none⟩) hlt] at hc
  exact h b off l.length cap k p' n' c' rfl hk hc
end Go.Proofs.Ytjmpbnfkiikiaaa
