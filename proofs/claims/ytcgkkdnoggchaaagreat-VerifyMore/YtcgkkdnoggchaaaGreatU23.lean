/- My texts Xf, joined. -/
import Derived.Lib.SmallJoins
import Derived.Test.YtcgkkdnoggchaaaGreatU18
/- A function, an op that came in. -/
namespace Go.Proofs.YtcgkkdnoggchaaaGreat
open Go.ChangeShapes Go.WideShapes Go.ChangeAt Go.RowKit
set_option linter.unusedVariables false
set_option linter.unusedSimpArgs false
section
variable {H : Type} {enc : TypeId × Value → H} {W : World}
set_option maxRecDepth 100000 in
theorem open_funcV {base : Nat} {r : Reach} {v : Value} {d : DataW H} {p : List MemPlace} (hv : Value.okWide Tryz.prog W r base 44 v) (h : DataW.Trod enc Tryz.prog W 0 (fun _ => true) true 44 v d p) (hs : ∀ n ∈ d.weights Tryz.prog 44, n ≤ reachBytes) :
    ∃ (c0 c1 c2 c3 : Value) (f : Fn), v = .agg #[c0, c1, c2, c3] ∧ FnAt W c0 c1 c2 c3 f ∧ FnFull c1 c3 := by
  obtain ⟨cs, rfl, hsz⟩ := okWide_struct Tryz.underlying44 hv
  rw [cells_fn] at hsz
  obtain ⟨cs⟩ := cs
  match cs, hsz with
  | [c0, c1, c2, c3], _ =>
    obtain ⟨fuel, hf⟩ := h
    obtain ⟨f, h1, h2⟩ := open_fnN (x := (d, p)) (c0 := c0) (c1 := c1) (c2 := c2) (c3 := c3) (by simpa [Value.cells] using hf) hs
    exact ⟨c0, c1, c2, c3, f, rfl, h1, h2⟩
set_option maxRecDepth 100000 in
theorem open_opV {base : Nat} {r : Reach} {v : Value} {d : DataW H} {p : List MemPlace} (hv : Value.okWide Tryz.prog W r base 47 v) (h : DataW.Trod enc Tryz.prog W 0 (fun _ => true) true 47 v d p) : ∃ c a : Int, v = .agg #[.int .i64 c, .int .i64 a] := by
  obtain ⟨c0, c1, y0, y1, m, rfl, hd0, hp0, hy0, hy1⟩ := Joins.open_agg2 Tryz.underlying47 (by kernel_rfl) (by kernel_rfl) hv h
  obtain ⟨c, e0, _, wc⟩ := DataW.trod_int Tryz.underlying3 hy0
  obtain ⟨a, e1, _, wa⟩ := DataW.trod_int Tryz.underlying3 hy1
  simp at e0 e1
  subst e0 e1
  exact ⟨c, a, rfl⟩
end
end Go.Proofs.YtcgkkdnoggchaaaGreat
