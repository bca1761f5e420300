/- op.Decode. -/
import Derived.Test.YtjaklmmekmhfcaaWg
namespace Go.Proofs.Ytjaklmmekmhfcaa
open Go.RowKit Go.Shelf
set_option linter.unusedSimpArgs false
set_option linter.unusedVariables false
attribute [local go_sem] Oper.semAt_some
/-- what Decode makes of what comes. -/
def dec : List ((Int × Int) × Int) → List (Int × Int) → List (Int × Int) × Int
  | [], acc => (acc, 0)
  | x :: r, acc => if x.2 = 0 then (if acc.length = 40 then ([], 2) else dec r (acc ++ [x.1])) else ([], x.2)
theorem dec_ok (p : List ((Int × Int) × Int)) : ∀ (r : List ((Int × Int) × Int)) (acc : List (Int × Int)), (∀ x ∈ p, x.2 = 0) → acc.length + p.length ≤ 40 → dec (p ++ r) acc = dec r (acc ++ p.map Prod.fst) := by
  induction p with
  | nil => intro r acc _ _; simp
  | cons x q ih =>
    intro r acc h hl
    simp only [List.length_cons] at hl
    rw [List.cons_append, dec, if_pos (h x (by simp)), if_neg (by omega), ih r _ (fun y hy => h y (by simp [hy])) (by simp; omega)]
    simp
/-- where a round has left, and with which errno. -/
def stopErr (pre : List ((Int × Int) × Int)) (er : Int) : Prop := ∃ p x, pre = p ++ [x] ∧ (∀ y ∈ p, y.2 = 0) ∧ p.length ≤ 40 ∧ ((¬ x.2 = 0 ∧ er = x.2) ∨ (x.2 = 0 ∧ p.length = 40 ∧ er = 2))
theorem dec_stop {pre its : List ((Int × Int) × Int)} {er : Int} (h : stopErr pre er) (hp : pre <+: its) : dec its [] = ([], er) := by
  obtain ⟨p, x, rfl, hok, hl, hx⟩ := h
  obtain ⟨t, rfl⟩ := hp
  rw [List.append_assoc, dec_ok p _ _ hok (by simpa using hl)]
  rcases hx with ⟨h1, rfl⟩ | ⟨h1, h2, rfl⟩
  · simp [dec, h1]
  · simp [dec, h1, h2]
/-- the cells of ops. -/
def opCells (l : List (Int × Int)) : List Value := l.flatMap fun o => [.int .i64 o.1, .int .i64 o.2]
theorem opCells_length (l : List (Int × Int)) : (opCells l).length = l.length * 2 := by
  induction l with
  | nil => rfl
  | cons o r ih => simp [opCells] at *; omega
theorem opCells_at (l : List (Int × Int)) : ∀ (k : Nat) (o : Int × Int), l[k]? = some o → (opCells l)[k * 2]? = some (.int .i64 o.1) ∧ (opCells l)[k * 2 + 1]? = some (.int .i64 o.2) := by
  induction l with
  | nil => intro k o h; simp at h
  | cons x r ih =>
    intro k o h
    cases k with
    | zero => simp at h; subst h; simp [opCells]
    | succ k =>
      have := ih k o (by simpa using h)
      rw [show (k + 1) * 2 = k * 2 + 1 + 1 from by omega]
      simpa [opCells] using this
theorem lt_of_at' {α : Type} {l : List α} {k : Nat} {o : α} (h : l[k]? = some o) : k < l.length := (List.getElem?_eq_some_iff.1 h).1
/-- a slice whose memory is from block B on. -/
def NewSl (W : World) (B : Nat) (e : TypeId) (v : Value) : Prop := ∀ a n c, v = .slice (some a) n c → B ≤ a.block ∧ ∃ cs fz, W.heap[a.block]? = some (.cells cs e fz)
theorem newSl_of_row {W : World} {base : Nat} {e : TypeId} {size : Nat} {v : Value} {n : Nat} {xs : List Value} (h : W.ownsRow base e size v n xs) : NewSl W base e v := fun a m c hv => by
  rcases h.2 with ⟨rfl, _⟩ | ⟨g, cap, cur, rfl, hb, hg, _⟩
  · cases hv
  · cases hv; exact ⟨hb, _, _, hg⟩
theorem cell_at' {w : World} {k : Nat} {c : Array Value} {t : TypeId} {fz : Nat × Nat} (h : w.heap[k]? = some (.cells c t fz)) (j : Nat) : w.cell? ⟨k, j, none⟩ = c[j]? := by
  unfold World.cell?; rw [h]; rfl
end Go.Proofs.Ytjaklmmekmhfcaa

