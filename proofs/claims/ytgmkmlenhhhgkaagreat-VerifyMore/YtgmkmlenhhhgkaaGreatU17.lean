/- My texts Ye Bh, joined. -/
import Derived.Test.YtgmkmlenhhhgkaaGreatU13
import Derived.Test.YtgmkmlenhhhgkaaGreatU16
/- ProgramOf. -/
namespace Go.Proofs.YtgmkmlenhhhgkaaGreat
open Go.RowKit
set_option linter.unusedSimpArgs false
set_option linter.unusedVariables false
theorem Wrote.block {A O : Nat} {W W' : World} (h : Wrote A O W W') {k : Nat} (hk : k < W.heap.size) (h1 : k ≠ A) (h2 : k ≠ O) : W'.heap[k]? = W.heap[k]? := by
  obtain ⟨r, hr, hg⟩ := h
  exact hg.block k hk (fun e => by cases e; rcases hr with h | h <;> omega)
theorem Wrote.kl {A O F : Nat} {W W' W'' : World} (h : Wrote A O W' W'') (k : KL A O F W W') (hF : F ≤ W'.heap.size) : KL A O F W W'' := by
  obtain ⟨r, hr, hg⟩ := h
  exact k.grown hg hF (fun r' e => by cases e; rcases hr with h | h <;> simp [h])
theorem Wrote.size {A O : Nat} {W W' : World} (h : Wrote A O W W') : W.heap.size ≤ W'.heap.size := by
  obtain ⟨r, hr, hg⟩ := h
  exact hg.size
theorem Wrote.row {A O : Nat} {W W' : World} (h : Wrote A O W W') {base : Nat} {e : TypeId} {size : Nat} {v : Value} {n : Nat} {xs : List Value} (hr : W.ownsRow base e size v n xs) (h1 : A < base) (h2 : O < base) : W'.ownsRow base e size v n xs :=
  ownsRow_same hr fun k hk => h.block (hr.lt k hk).2 (by have := (hr.lt k hk).1; omega) (by have := (hr.lt k hk).1; omega)
theorem Wrote.drew {A O : Nat} {W W' : World} (h : Wrote A O W.drew W') : Wrote A O W W' := by
  obtain ⟨r, hr, hg⟩ := h
  exact ⟨r, hr, (drew_grown' W r).trans hg⟩
theorem Wrote.below {A O B0 : Nat} {w W W' : World} (h : Wrote A O W W') (hB : Below B0 w W) (hW : B0 ≤ W.heap.size) (hA : B0 ≤ A) (hO : B0 ≤ O) : Below B0 w W' := by
  obtain ⟨r, hr, hg⟩ := h
  exact hB.grown hg hW (fun k e => by cases e; rcases hr with h | h <;> omega)
/-- what the loop over functions keeps. -/
def ProgI (w : World) (s : ByteArray) (st : Rd) (k : Nat) (wr : World) : Prop :=
  ∃ vF q, RO wr (w.heap.size + 1 + 1) w.heap.size (w.heap.size + 1 + 1 + 1) s (stAt k st) ∧ wr.heap[w.heap.size + 1]? = some (.cells #[.slice none 0 0] 24 (0, 0)) ∧ wr.heap[w.heap.size + 1 + 1 + 1 + 1]? = some (.cells #[vF] 24 (0, 0)) ∧
    wr.ownsRow (w.heap.size + 1 + 1 + 1 + 1 + 1) 28 4 vF k (fnCells q) ∧ FnRows wr (w.heap.size + 1 + 1 + 1 + 1 + 1) q (fnsTo k st) ∧ (∀ i, i < k → (readFn (stAt i st)).2.1 = true) ∧ Below w.heap.size w wr
/-- what the loop over locals keeps. -/
def LocK (A S O F : Nat) (s : ByteArray) (P : Int) (st : Rd) (j : Nat) (w2 wr : World) : Prop :=
  ∃ vL, RO wr A S O s (readLocs j st).2 ∧ wr.heap[F]? = some (.cells #[.int .i64 P, vL, .int .i64 0, .slice none 0 0] 28 (0, 0)) ∧ wr.ownsRow F 3 1 vL j ((readLocs j st).1.map (Value.int .i64)) ∧ KL A O F w2 wr
end Go.Proofs.YtgmkmlenhhhgkaaGreat
/- The reference on blocks: CheckBlocks, CheckPlace, CopyBlocks; blocksAre. -/
namespace Go.Proofs.YtgmkmlenhhhgkaaGreat
open Go.RowKit
set_option linter.unusedSimpArgs false
set_option linter.unusedVariables false
theorem blkErr_stray {L : List (List Int)} {i k : Nat} {b : List Int} {z : Int} (h8 : L.length ≤ 8) (h40 : cellsN L ≤ 40) (hb : L[i]? = some b) (hz : b[k]? = some z) (hn : isI32 z = false) : blkErr L = 3 := by
  unfold blkErr
  rw [if_neg (by omega), if_neg]
  intro h
  have := List.all_eq_true.1 (List.all_eq_true.1 h b (List.mem_of_getElem? hb)) z (List.mem_of_getElem? hz)
  rw [hn] at this; cases this
/-- the place alone, of blocks that are right. -/
theorem placeErr_right {L : List (List Int)} {ref at_ : Int} (hb : blkErr L = 0) : placeErr L ref at_ = if ref = 0 then 5 else if ref < 0 ∨ (L.length : Int) < ref ∨ at_ < 0 ∨ ((blkAt L ref).length : Int) ≤ at_ then 3 else 0 := by unfold placeErr; rw [if_neg (by simpa using hb)]
end Go.Proofs.YtgmkmlenhhhgkaaGreat
