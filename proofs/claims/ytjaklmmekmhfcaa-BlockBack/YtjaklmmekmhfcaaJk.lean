/- verify.fit's closures: what lies in memory, and the round over the next places. -/
import Derived.Test.YtjaklmmekmhfcaaJj
import Derived.Test.YtjaklmmekmhfcaaPk
import Derived.Laws.EntriesVeiled
namespace Go.Proofs.Ytjaklmmekmhfcaa
open Go.RowKit
set_option linter.unusedSimpArgs false
set_option linter.unusedVariables false
/-- the two rows are written, nothing else. -/
structure Wr (Rs Rm : Nat) (w w' : World) : Prop where
  os : w'.os = w.os
  tape : w'.tape = w.tape
  output : w'.output = w.output
  size : w.heap.size ≤ w'.heap.size
  block : ∀ k, k < w.heap.size → k ≠ Rs → k ≠ Rm → w'.heap[k]? = w.heap[k]?
theorem Wr.refl (Rs Rm : Nat) (w : World) : Wr Rs Rm w w := ⟨rfl, rfl, rfl, Nat.le_refl _, fun _ _ _ _ => rfl⟩
theorem Wr.trans {Rs Rm : Nat} {a b c : World} (h : Wr Rs Rm a b) (k : Wr Rs Rm b c) : Wr Rs Rm a c :=
  ⟨k.os.trans h.os, k.tape.trans h.tape, k.output.trans h.output, Nat.le_trans h.size k.size, fun j hj h1 h2 => (k.block j (Nat.lt_of_lt_of_le hj h.size) h1 h2).trans (h.block j hj h1 h2)⟩
theorem Wr.of_below {Rs Rm : Nat} {w w' : World} (h : Below w.heap.size w w') : Wr Rs Rm w w' := ⟨h.os, h.tape, h.output, h.size, fun k hk _ _ => h.block k hk⟩
theorem Wr.of_grown {Rs Rm r : Nat} {w w' : World} (h : w.grownBy w' (some r)) (hr : r = Rs ∨ r = Rm) : Wr Rs Rm w w' :=
  ⟨h.os, h.tape, h.output, h.size, fun k hk h1 h2 => h.block k hk (fun e => by cases e; rcases hr with h | h <;> omega)⟩
/-- what fit has laid: the boxes, the marks, the stacks. -/
structure FB where
  pv : Value
  c0 : Value
  c1 : Value
  c2 : Value
  c3 : Value
  bf : Nat
  bm : Nat
  bs : Nat
  bp : Nat
  bc : Nat
  Rs : Nat
  Rm : Nat
abbrev caps (x : FB) : Array Value := #[.pointer (some ⟨x.bf, 0, none⟩), .pointer (some ⟨x.bm, 0, none⟩), .pointer (some ⟨x.bs, 0, none⟩), .pointer (some ⟨x.bp, 0, none⟩), .pointer (some ⟨x.bc, 0, none⟩)]
/-- numbers stay where only the two rows are written. -/
theorem IntsAt.wr {Rs Rm : Nat} {w w' : World} {v : Value} {l : List Int} {V : List Value} {B : List Bool} {t t' : TypeId} {fz fz' : Nat × Nat} (h : IntsAt w v l) (hs : w.heap[Rs]? = some (.cells V.toArray t fz)) (hV : ∀ v ∈ V, ∃ p n c, v = .slice p n c) (hm : w.heap[Rm]? = some (.cells (B.map Value.bool).toArray t' fz')) (hw : Wr Rs Rm w w') : IntsAt w' v l := by
  obtain ⟨p, c, rfl, hl, hc⟩ := h
  refine ⟨p, c, rfl, hl, fun k z hk => ?_⟩
  obtain ⟨b, off, rfl, hb, g⟩ := hc k z hk
  have n1 : b ≠ Rs := fun e => by
    subst e
    rw [cell_at' hs] at g
    have g2 : V[off + k]? = some (Value.int .i64 z) := by simpa using g
    obtain ⟨_, _, _, h⟩ := hV _ (List.mem_of_getElem? g2)
    cases h
  have n2 : b ≠ Rm := fun e => by
    subst e
    rw [cell_at' hm] at g
    simp at g
  exact ⟨b, off, rfl, Nat.lt_of_lt_of_le hb hw.size, (World.cell?_of_block (hw.block b hb n1 n2)).trans g⟩
end Go.Proofs.Ytjaklmmekmhfcaa

