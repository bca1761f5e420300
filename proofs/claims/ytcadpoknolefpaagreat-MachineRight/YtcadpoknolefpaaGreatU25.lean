/- My texts Mc Md Me, joined. -/
import Derived.Deep.RegionHeld3
import Derived.Test.YtcadpoknolefpaaGreatU12
import Derived.Test.YtcadpoknolefpaaGreatU14
import Derived.Test.YtcadpoknolefpaaGreatU24
/- stride's doer: the machine that it does an op of; its innermost frame, take and put. -/
namespace Go.Proofs.YtcadpoknolefpaaGreat
open Go.RowKit
set_option linter.unusedSimpArgs false
set_option linter.unusedVariables false
/-- a doer in memory, since w0. -/
structure DAt (w0 W : World) (b : Nat) (pv fv bv iv ov : Value) (q : List FV) (qb : List Value) (M : Mach) : Prop where
  cell : W.heap[b]? = some (.cells #[fv, bv, iv, ov, .int .i64 M.status, .int .i64 M.trap, pv] 120 (0, 0))
  own : MOwn W w0.heap.size fv bv iv ov q qb M
  bel : Below w0.heap.size w0 W
  lo : w0.heap.size ≤ b
def Doer (w0 W : World) (b : Nat) (pv : Value) (M : Mach) : Prop := ∃ fv bv iv ov q qb, DAt w0 W b pv fv bv iv ov q qb M
theorem DAt.lt {w0 W : World} {b : Nat} {pv fv bv iv ov : Value} {q : List FV} {qb : List Value} {M : Mach} (h : DAt w0 W b pv fv bv iv ov q qb M) : b < W.heap.size := heap_lt h.cell
theorem DAt.below {w0 W W' : World} {b : Nat} {pv fv bv iv ov : Value} {q : List FV} {qb : List Value} {M : Mach} (h : DAt w0 W b pv fv bv iv ov q qb M) (hb : Below W.heap.size W W') : DAt w0 W' b pv fv bv iv ov q qb M :=
  ⟨(hb.block b h.lt).trans h.cell, h.own.below hb, h.bel.trans (hb.mono h.bel.size), h.lo⟩
theorem Doer.below {w0 W W' : World} {b : Nat} {pv : Value} {M : Mach} (h : Doer w0 W b pv M) (hb : Below W.heap.size W W') : Doer w0 W' b pv M := by
  obtain ⟨fv, bv, iv, ov, q, qb, h⟩ := h
  exact ⟨fv, bv, iv, ov, q, qb, h.below hb⟩
theorem Doer.bel {w0 W : World} {b : Nat} {pv : Value} {M : Mach} (h : Doer w0 W b pv M) : Below w0.heap.size w0 W := by
  obtain ⟨fv, bv, iv, ov, q, qb, h⟩ := h
  exact h.bel
/-- what is known of a doer whose machine has a last frame. -/
structure DIn (w0 W : World) (b : Nat) (pv : Value) (M : Mach) (D : List Frm) (x : Frm) (g cap : Nat) (bv iv ov : Value) (q : List FV) (c : FV) (qb : List Value) : Prop where
  at_ : DAt w0 W b pv (.slice (some ⟨g, 0, none⟩) (D.length + 1) cap) bv iv ov (q ++ [c]) qb M
  fr : M.frames = D ++ [x]
  len : q.length = D.length
  fn : c.fn = x.fn
  pc : c.pc = x.pc
  c0 : W.cell? ⟨g, D.length * 4, none⟩ = some (.int .i64 x.fn)
  c1 : W.cell? ⟨g, D.length * 4 + 1, none⟩ = some (.int .i64 x.pc)
  c2 : W.cell? ⟨g, D.length * 4 + 2, none⟩ = some c.lv
  c3 : W.cell? ⟨g, D.length * 4 + 3, none⟩ = some c.sv
  gb : ∃ cur, W.heap[g]? = some (.cells cur 48 (0, 0))
  loc : W.ownsRow w0.heap.size 50 2 c.lv x.loc.length (valCells x.loc)
  stk : W.ownsRow w0.heap.size 50 2 c.sv x.stk.length (valCells x.stk)
theorem Doer.open {w0 W : World} {b : Nat} {pv : Value} {M : Mach} {D : List Frm} {x : Frm} (h : Doer w0 W b pv M) (hF : M.frames = D ++ [x]) : ∃ g cap bv iv ov q c qb, DIn w0 W b pv M D x g cap bv iv ov q c qb := by
  obtain ⟨fv, bv, iv, ov, q', qb, h⟩ := h
  have hl := h.own.frs.len
  rw [hF] at hl
  obtain ⟨q, c, rfl⟩ : ∃ q c, q' = q ++ [c] := by
    rcases List.eq_nil_or_concat q' with h0 | ⟨q, c, h0⟩
    · subst h0; simp at hl
    · exact ⟨q, c, by simpa using h0⟩
  have hlen : q.length = D.length := by simpa using hl
  have hrow := h.own.fr
  have hn : (q ++ [c]).length = D.length + 1 := by simp [hlen]
  rcases hrow.2 with ⟨_, h0⟩ | ⟨g, cap, cur, hv, hB, hg, h1, h2, h3, h4⟩
  · omega
  have hfrs := h.own.frs
  rw [hF] at hfrs
  have hx : (D ++ [x])[q.length]? = some x := by rw [hlen]; exact snoc_last _ _
  obtain ⟨e1, e2⟩ := hfrs.nums q.length c x (snoc_last _ _) hx
  obtain ⟨a0, a1, a2, a3⟩ := fCells_at (q ++ [c]) q.length c (snoc_last _ _)
  obtain ⟨r1, r2⟩ := fRows_at (q ++ [c]) q.length c (snoc_last _ _)
  obtain ⟨v1, v2⟩ := fVals_at (D ++ [x]) q.length x hx
  have o1 := hfrs.rows.each _ _ _ r1 v1
  have o2 := hfrs.rows.each _ _ _ r2 v2
  rw [← h4, List.getElem?_take_of_lt (by omega)] at a0 a1 a2 a3
  rw [hn] at hv
  subst hv
  refine ⟨g, cap, bv, iv, ov, q, c, qb, h, hF, hlen, e1, e2, ?_, ?_, ?_, ?_, ⟨_, hg⟩, o1, o2⟩
  · rw [cell_at' hg, ← e1, ← hlen]; simpa using a0
  · rw [cell_at' hg, ← e2, ← hlen]; simpa using a1
  · rw [cell_at' hg, ← hlen]; simpa using a2
  · rw [cell_at' hg, ← hlen]; simpa using a3
section
variable {w0 W : World} {b : Nat} {pv : Value} {M : Mach} {D : List Frm} {x : Frm} {g cap : Nat} {bv iv ov : Value} {q : List FV} {c : FV} {qb : List Value}
theorem DIn.below (h : DIn w0 W b pv M D x g cap bv iv ov q c qb) {W' : World} (hb : Below W.heap.size W W') : DIn w0 W' b pv M D x g cap bv iv ov q c qb := by
  obtain ⟨cur, hg⟩ := h.gb
  have hlt := heap_lt hg
  exact ⟨h.at_.below hb, h.fr, h.len, h.fn, h.pc, (hb.cell (p := ⟨g, _, none⟩) hlt).trans h.c0, (hb.cell (p := ⟨g, _, none⟩) hlt).trans h.c1, (hb.cell (p := ⟨g, _, none⟩) hlt).trans h.c2, (hb.cell (p := ⟨g, _, none⟩) hlt).trans h.c3, ⟨cur, (hb.block g hlt).trans hg⟩, row_same h.loc fun k hk => hb.block k (h.loc.lt k hk).2, row_same h.stk fun k hk => hb.block k (h.stk.lt k hk).2⟩
theorem DIn.glo (h : DIn w0 W b pv M D x g cap bv iv ov q c qb) : w0.heap.size ≤ g := (h.at_.own.fr.lt g rfl).1
theorem DIn.gne (h : DIn w0 W b pv M D x g cap bv iv ov q c qb) : b ≠ g := fun e => by
  obtain ⟨cur, hg⟩ := h.gb
  have := h.at_.cell
  rw [e, hg] at this
  simp at this
theorem DIn.doer (h : DIn w0 W b pv M D x g cap bv iv ov q c qb) : Doer w0 W b pv M := ⟨_, _, _, _, _, _, h.at_⟩
theorem DIn.fr_row (h : DIn w0 W b pv M D x g cap bv iv ov q c qb) : W.ownsRow w0.heap.size 48 4 (.slice (some ⟨g, 0, none⟩) (D.length + 1) cap) (D.length + 1) (fCells (q ++ [c])) := by
  have := h.at_.own.fr
  rw [show (q ++ [c]).length = D.length + 1 by simp [h.len]] at this
  exact this
/-- the frame's stack is another one: the row first, then the slice. -/
theorem DIn.setStk (h : DIn w0 W b pv M D x g cap bv iv ov q c qb) {W2 : World} {sv : Value} {s : List Val} (hg : W.grownBy W2 c.sv.ownBlock) (hr : W2.ownsRow w0.heap.size 50 2 sv s.length (valCells s)) (hat : ∀ z, sv.ownBlock = some z → c.sv.ownBlock = some z ∨ W.heap.size ≤ z) : Doer w0 (W2.setCell ⟨g, D.length * 4 + 3, none⟩ sv) b pv { M with frames := D ++ [{ x with stk := s }] } := by
  have hty : TyRow W c.sv.ownBlock 50 := tyRow_row h.stk
  have hA := h.at_
  have hfr2 := row_keep h.fr_row hg hty (by decide)
  have hgs := set_grown W2 ⟨g, D.length * 4 + 3, none⟩ sv
  obtain ⟨cur, hcur⟩ := h.gb
  have hg2 : W2.heap[g]? = some (.cells cur 48 (0, 0)) := (hg.block g (heap_lt hcur) (fun e => by
    obtain ⟨cs, fz, hh⟩ := hty g e.symm
    rw [hcur] at hh; simp at hh)).trans hcur
  have hty2 : TyRow W2 (some g) 48 := tyRow_at hg2
  have hcell2 : W2.heap[b]? = _ := (hg.block b hA.lt (fun e => by
    obtain ⟨cs, fz, hh⟩ := hty b e.symm
    rw [hA.cell] at hh; simp at hh)).trans hA.cell
  have hfrs := hA.own.frs
  rw [h.fr] at hfrs
  have hrow := row_set hfr2 (D.length * 4 + 3) sv
  have e1 : (fCells (q ++ [c])).set (D.length * 4 + 3) sv = fCells (q ++ [{ c with sv := sv }]) := by
    rw [fCells_append, fCells_append, List.set_append_right _ _ (by rw [fCells_length, h.len]; omega), fCells_length, h.len]
    simp [fCells]
  rw [e1] at hrow
  refine ⟨.slice (some ⟨g, 0, none⟩) (D.length + 1) cap, bv, iv, ov, q ++ [{ c with sv := sv }], qb, ⟨(hgs.block b (heap_lt hcell2) (fun e => h.gne (by simpa using e))).trans hcell2, ⟨?_, ?_, ?_, ?_⟩, ?_, hA.lo⟩⟩
  · have e9 : (q ++ [{ c with sv := sv }]).length = D.length + 1 := by simp [h.len]
    rw [e9]
    exact hrow
  · exact (hfrs.stk hg hr hat).keep hgs hty2 (by decide)
  · exact row_keep (row_keep hA.own.bl hg hty (by decide)) hgs hty2 (by decide)
  · exact (hA.own.rows.keep hg hty (by decide)).keep hgs hty2 (by decide)
  · exact (hA.bel.grown hg hA.bel.size (fun k hk => (h.stk.lt k hk).1)).setCell h.glo _
/-- the frame is elsewhere. -/
theorem DIn.setPc (h : DIn w0 W b pv M D x g cap bv iv ov q c qb) (n : Int) : Doer w0 (W.setCell ⟨g, D.length * 4 + 1, none⟩ (.int .i64 n)) b pv { M with frames := D ++ [{ x with pc := n }] } := by
  have hA := h.at_
  have hgs := set_grown W ⟨g, D.length * 4 + 1, none⟩ (.int .i64 n)
  obtain ⟨cur, hcur⟩ := h.gb
  have hty2 : TyRow W (some g) 48 := tyRow_at hcur
  have hfrs := hA.own.frs
  rw [h.fr] at hfrs
  have hrow := row_set h.fr_row (D.length * 4 + 1) (.int .i64 n)
  have e1 : (fCells (q ++ [c])).set (D.length * 4 + 1) (.int .i64 n) = fCells (q ++ [{ c with pc := n }]) := by
    rw [fCells_append, fCells_append, List.set_append_right _ _ (by rw [fCells_length, h.len]; omega), fCells_length, h.len]
    simp [fCells]
  rw [e1] at hrow
  refine ⟨.slice (some ⟨g, 0, none⟩) (D.length + 1) cap, bv, iv, ov, q ++ [{ c with pc := n }], qb, ⟨(hgs.block b hA.lt (fun e => h.gne (by simpa using e))).trans hA.cell, ⟨?_, ?_, ?_, ?_⟩, ?_, hA.lo⟩⟩
  · have e9 : (q ++ [{ c with pc := n }]).length = D.length + 1 := by simp [h.len]
    rw [e9]
    exact hrow
  · exact (hfrs.pc n).keep hgs hty2 (by decide)
  · exact row_keep hA.own.bl hgs hty2 (by decide)
  · exact hA.own.rows.keep hgs hty2 (by decide)
  · exact hA.bel.setCell h.glo _
/-- a local is another one. -/
theorem DIn.setLoc (h : DIn w0 W b pv M D x g cap bv iv ov q c qb) {W2 : World} {s : List Val} (hg : W.grownBy W2 c.lv.ownBlock) (hr : W2.ownsRow w0.heap.size 50 2 c.lv s.length (valCells s)) : Doer w0 W2 b pv { M with frames := D ++ [{ x with loc := s }] } := by
  have hty : TyRow W c.lv.ownBlock 50 := tyRow_row h.loc
  have hA := h.at_
  have hcell2 : W2.heap[b]? = _ := (hg.block b hA.lt (fun e => by
    obtain ⟨cs, fz, hh⟩ := hty b e.symm
    rw [hA.cell] at hh; simp at hh)).trans hA.cell
  have hfrs := hA.own.frs
  rw [h.fr] at hfrs
  refine ⟨_, bv, iv, ov, q ++ [c], qb, ⟨hcell2, ⟨row_keep hA.own.fr hg hty (by decide), hfrs.loc hg hr, row_keep hA.own.bl hg hty (by decide), hA.own.rows.keep hg hty (by decide)⟩, hA.bel.grown hg hA.bel.size (fun k hk => (h.loc.lt k hk).1), hA.lo⟩⟩
end
set_option maxHeartbeats 1000000 in
theorem innermost_raw (b g n cap : Nat) (w : World) (h0 : w.cell? ⟨b, 0, none⟩ = some (.slice (some ⟨g, 0, none⟩) (n + 1) cap)) (hn : n ≤ 100) : Calls Tryz.prog 125 #[.pointer (some ⟨b, 0, none⟩)] w fun e w' => e = .returned (.pointer (some ⟨g, n * 4, none⟩)) ∧ Below w.heap.size w w' := by
  have h1 : (n : Int) < ((n + 1 : Nat) : Int) := by omega
  go_enter Tryz.func125, Tryz.ntmps125
  go_wp2_with fail
  go_quiet (fail)
  go_wp2
  go_ret
  exact ⟨rfl, rfl, rfl, rfl, Nat.le_refl _, fun _ _ => rfl⟩
theorem vals_new {W : World} {b : Nat} {l : List Val} {n cap : Nat} {t : TypeId} {fz : Nat × Nat} (h : W.heap[b]? = some (.cells (valCells l).toArray t fz)) (hn : n = l.length) (hm : l.length ≤ maxLen) : ValsAt W (.slice (some ⟨b, 0, none⟩) n cap) l := by
  subst hn
  refine ⟨_, cap, rfl, hm, fun k o hk => ⟨b, 0, rfl, heap_lt h, ?_, ?_⟩⟩
  · rw [cell_at' h]; simpa using (valCells_at l k o hk).1
  · rw [cell_at' h]; simpa using (valCells_at l k o hk).2
theorem DIn.fcell {w0 W : World} {b : Nat} {pv : Value} {M : Mach} {D : List Frm} {x : Frm} {g cap : Nat} {bv iv ov : Value} {q : List FV} {c : FV} {qb : List Value} (h : DIn w0 W b pv M D x g cap bv iv ov q c qb) : W.cell? ⟨b, 0, none⟩ = some (.slice (some ⟨g, 0, none⟩) (D.length + 1) cap) := by
  rw [cell_at' h.at_.cell]; rfl
theorem bel_set {B : Nat} {w W : World} (h : Below B w W) (a : Addr) (u : Value) : Below B (w.setCell a u) (W.setCell a u) := by
  refine ⟨h.os, h.tape, h.output, by simpa [World.setCell] using h.size, fun k hk => ?_⟩
  simp only [World.setCell, Array.getElem?_modify]
  rw [h.block k hk]
/-- nothing but the frames' row is other. -/
def OnlyFr (b : Nat) (w w' : World) : Prop := ∀ g n c, w.cell? ⟨b, 0, none⟩ = some (.slice (some ⟨g, 0, none⟩) n c) → w.grownBy w' (some g) ∧ ∀ j, j ≠ (n - 1) * 4 + 3 → w'.cell? ⟨g, j, none⟩ = w.cell? ⟨g, j, none⟩
/-- the innermost stack's slice is one shorter. -/
def StkCut (b : Nat) (w w' : World) : Prop := ∀ g n c gs m cs, w.cell? ⟨b, 0, none⟩ = some (.slice (some ⟨g, 0, none⟩) n c) → w.cell? ⟨g, (n - 1) * 4 + 3, none⟩ = some (.slice (some ⟨gs, 0, none⟩) m cs) → w'.cell? ⟨g, (n - 1) * 4 + 3, none⟩ = some (.slice (some ⟨gs, 0, none⟩) (m - 1) cs)
/-- nothing but frames and values is other. -/
def Oth (w w' : World) : Prop := ∀ (k : Nat) (cs : Array Value) (t : TypeId) (fz : Nat × Nat), w.heap[k]? = some (Obj.cells cs t fz) → t ≠ 48 → t ≠ 50 → w'.heap[k]? = some (Obj.cells cs t fz)
/-- nothing but the stack's row, and the slice that tells it, is other. -/
def OnlyFS (b : Nat) (w w' : World) : Prop := ∀ g n c sv, w.cell? ⟨b, 0, none⟩ = some (.slice (some ⟨g, 0, none⟩) n c) → w.cell? ⟨g, (n - 1) * 4 + 3, none⟩ = some sv → (∀ k : Nat, k < w.heap.size → k ≠ g → some k ≠ sv.ownBlock → w'.heap[k]? = w.heap[k]?) ∧ ∀ j, j ≠ (n - 1) * 4 + 3 → w'.cell? ⟨g, j, none⟩ = w.cell? ⟨g, j, none⟩
theorem row_heap {W : World} {B : Nat} {e : TypeId} {size n g : Nat} {v : Value} {xs : List Value} (h : W.ownsRow B e size v n xs) (hg : v.ownBlock = some g) : ∃ cur, W.heap[g]? = some (.cells cur e (0, 0)) := by
  rcases h.2 with ⟨rfl, _⟩ | ⟨g', cap, cur, rfl, _, hh, _⟩
  · cases hg
  · cases hg; exact ⟨_, hh⟩
theorem DIn.ap {w0 W : World} {b : Nat} {pv : Value} {M : Mach} {D : List Frm} {x : Frm} {g cap : Nat} {bv iv ov : Value} {q : List FV} {c : FV} {qb : List Value} (h : DIn w0 W b pv M D x g cap bv iv ov q c qb) {z : Nat} (hz : c.lv.ownBlock = some z) : some z ≠ c.sv.ownBlock := fun e => by
  obtain ⟨r1, r2⟩ := fRows_at (q ++ [c]) q.length c (snoc_last _ _)
  have := h.at_.own.frs.rows.apart _ _ _ _ z r1 r2 hz e.symm
  omega
set_option maxRecDepth 100000 in
set_option maxHeartbeats 2000000 in
theorem dTake_more (w0 : World) (b : Nat) (pv : Value) (M : Mach) (D : List Frm) (x : Frm) (s : List Val) (v : Val) (w : World) (h : Doer w0 w b pv M) (hF : M.frames = D ++ [x]) (hs : x.stk = s ++ [v]) (hD : D.length ≤ 100) (hl : s.length ≤ 100) : Calls Tryz.prog 178 #[.pointer (some ⟨b, 0, none⟩)] w fun e w' => e = .returned (.agg #[.bool v.1, .int .i64 v.2]) ∧ Doer w0 w' b pv { M with frames := D ++ [{ x with stk := s }] } ∧ OnlyFr b w w' ∧ StkCut b w w' := by
  obtain ⟨g, cap, bv, iv, ov, q, c, qb, H⟩ := h.open hF
  obtain ⟨W1, hW1⟩ : ∃ W1, w.alloc (.cells #[.bool false, .int .i64 0] 50) = W1 := ⟨_, rfl⟩
  have b1 : Below w.heap.size w W1 := by rw [← hW1]; exact (Below.refl _ w).alloc (Nat.le_refl _) _
  have x1 : W1.heap[w.heap.size]? = some (.cells #[.bool false, .int .i64 0] 50 (0, 0)) := by rw [← hW1]; exact World.alloc_heap_new w _
  have HI := hideP (innermost_raw b g D.length cap W1 (H.below b1).fcell hD)
  have hbw : g < w.heap.size := by obtain ⟨cur, hg⟩ := H.gb; exact heap_lt hg
  go_enter Tryz.func178, Tryz.ntmps178
  go_wp2_with fail
  refine HI.out.mono ?_
  rintro e w2 ⟨rfl, b2⟩
  have b12 := bthen0 b1 b2
  have H2 := H.below b12
  have x2 := (b2.block _ (heap_lt x1)).trans x1
  have c0 := cell_at' x2 0
  have c1 := cell_at' x2 1
  simp at c0 c1
  have z0 := Lib.frozen_of_heap x2 0
  have z1 := Lib.frozen_of_heap x2 1
  have hst := H2.stk
  rw [hs] at hst
  have hn : (s ++ [v]).length = s.length + 1 := by simp
  rw [hn] at hst
  obtain ⟨gs, caps, hsv⟩ := ownsRow_succ hst
  rw [hsv] at hst
  have c3 := H2.c3
  rw [hsv] at c3
  obtain ⟨cur, hg⟩ := H2.gb
  have z3 := Lib.frozen_of_heap hg (D.length * 4 + 3)
  obtain ⟨ps, cps, hps, hpm, hpc⟩ := valsAt_of_row (l := s ++ [v]) (by rw [hn]; exact hst)
  rw [hn] at hps
  cases hps
  obtain ⟨gb, off, hpp, hgl, d0, d1⟩ := hpc s.length v (snoc_last _ _)
  cases hpp
  have hcap : s.length + 1 ≤ caps := by
    rcases hst.2 with ⟨h1, _⟩ | ⟨g', cap', cur', h1, _, _, h4, _⟩
    · cases h1
    · cases h1; exact h4
  have hne : ¬ g = w.heap.size := by omega
  have hgsw : gs < w.heap.size := by
    have := (H.stk.lt gs (by rw [hsv]; rfl)).2
    exact this
  have HX2 := hideP x2
  have HST := hideP hst
  have HH := hideP H
  have HG := hideP hg
  simp only [Nat.zero_add] at d0 d1
  have hsl : (s.length : Int) < ((s.length + 1 : Nat) : Int) := by omega
  have hne' : ¬ w.heap.size = g := by omega
  have y0 := fun o => cell_old c0 o
  have y1 := fun o => cell_old c1 o
  have y3 := fun o => cell_old c3 o
  have u0 := fun o => Lib.frozen_of_heap (heap_old x2 o) 0
  have u1 := fun o => Lib.frozen_of_heap (heap_old x2 o) 1
  have u3 := fun o => Lib.frozen_of_heap (heap_old hg o) (D.length * 4 + 3)
  clear HI H x1 x2 hst H2 hg hpc hpm h hF hsl
  go_wp2
  refine bodyPost_ret (v := .agg #[.bool v.1, .int .i64 v.2]) (by simp [results, Tryz.results178, go_sem, y0, y1, hne, hne']) rfl ⟨rfl, ?_, ?_, ?_⟩
  rotate_right
  · intro g' n' c' gs' m' cs' h1 h2
    rw [HH.out.fcell] at h1
    cases h1
    rw [Nat.add_sub_cancel, HH.out.c3, hsv] at h2
    cases h2
    rw [Nat.add_sub_cancel, Nat.add_sub_cancel]
    have hgl : g < (w2.alloc (.cells #[.bool v.1, .int .i64 v.2] 50)).heap.size := by have := b12.size; simp; omega
    have e1 : (((w2.alloc (.cells #[.bool v.1, .int .i64 v.2] 50)).setCell ⟨g, D.length * 4 + 3, none⟩ (.slice (some ⟨gs, 0, none⟩) s.length caps)).cell? ⟨g, D.length * 4 + 3, none⟩) = some (.slice (some ⟨gs, 0, none⟩) s.length caps) := World.cell?_setCell_same _ _ _ (y3 _)
    exact ((World.cell?_of_block (Below.heap_setCell _ _ _ g hne)).trans ((World.cell?_of_block (Below.heap_setCell _ _ _ g hne)))).trans e1
  rotate_left
  · intro g' n' c' hg'
    rw [HH.out.fcell] at hg'
    cases hg'
    refine ⟨?_, fun j hj => ?_⟩
    rotate_left
    · have hj' : j ≠ D.length * 4 + 3 := by simpa using hj
      have e1 : (((w2.alloc (.cells #[.bool v.1, .int .i64 v.2] 50)).setCell ⟨g, D.length * 4 + 3, none⟩ (.slice (some ⟨gs, 0, none⟩) s.length caps)).cell? ⟨g, j, none⟩) = w.cell? ⟨g, j, none⟩ := by
        rw [World.cell?_setCell_other _ _ _ _ (fun e => hj' (by cases e; rfl))]
        exact (b12.alloc b12.size _).cell (p := ⟨g, j, none⟩) hbw
      exact ((World.cell?_of_block (Below.heap_setCell _ _ _ g hne)).trans ((World.cell?_of_block (Below.heap_setCell _ _ _ g hne)))).trans e1
    refine grown_high (grown_high ((below_grown (b12.alloc b12.size _) (some g)).trans (set_grown _ ⟨g, D.length * 4 + 3, none⟩ _)) (set_grown _ ⟨w.heap.size, 0, none⟩ _) (fun j hj => ?_)) (set_grown _ ⟨w.heap.size, 1, none⟩ _) (fun j hj => ?_)
    · cases hj; exact Nat.le_refl _
    · cases hj; exact Nat.le_refl _
  have hst0 := HH.out.stk
  rw [hs, hn, hsv] at hst0
  have hcut := row_cut hst0 s.length (by omega)
  rw [valCells_take, List.take_append_of_le_length (Nat.le_refl _), List.take_of_length_le (Nat.le_refl _)] at hcut
  have hD1 := HH.out.setStk (W2 := w) (World.grownBy.refl _ _) hcut (fun z hz => .inl (by rw [hsv]; exact hz))
  refine hD1.below ?_
  have hsz : (w.setCell ⟨g, D.length * 4 + 3, none⟩ (.slice (some ⟨gs, 0, none⟩) s.length caps)).heap.size = w.heap.size := by simp [World.setCell]
  rw [hsz]
  exact ((bel_set (b12.alloc b12.size _) _ _).setCell (p := ⟨w.heap.size, 0, none⟩) (Nat.le_refl _) _).setCell (p := ⟨w.heap.size, 1, none⟩) (Nat.le_refl _) _
theorem dTake_any (w0 : World) (b : Nat) (pv : Value) (M : Mach) (D : List Frm) (x : Frm) (s : List Val) (v : Val) (w : World) (h : Doer w0 w b pv M) (hF : M.frames = D ++ [x]) (hs : x.stk = s ++ [v]) (hD : D.length ≤ 100) (hl : s.length ≤ 100) : Calls Tryz.prog 178 #[.pointer (some ⟨b, 0, none⟩)] w fun e w' => e = .returned (.agg #[.bool v.1, .int .i64 v.2]) ∧ Doer w0 w' b pv { M with frames := D ++ [{ x with stk := s }] } ∧ OnlyFr b w w' :=
  (dTake_more w0 b pv M D x s v w h hF hs hD hl).mono fun _ _ h => ⟨h.1, h.2.1, h.2.2.1⟩
set_option maxRecDepth 100000 in
set_option maxHeartbeats 2000000 in
theorem dPut_any (w0 : World) (b : Nat) (pv : Value) (M : Mach) (D : List Frm) (x : Frm) (u : Value) (l : List Val) (w : World) (h : Doer w0 w b pv M) (hF : M.frames = D ++ [x]) (hu : ValsAt w u l) (hnl : NilOk u) (hD : D.length ≤ 100) (hl : x.stk.length ≤ 100) (hll : l.length ≤ 100) : Calls Tryz.prog 179 #[.pointer (some ⟨b, 0, none⟩), u] w fun e w' => e = .returned (.tuple #[]) ∧ Doer w0 w' b pv { M with frames := D ++ [{ x with stk := x.stk ++ l }] } ∧ Oth w w' ∧ OnlyFS b w w' := by
  obtain ⟨g, cap, bv, iv, ov, q, c, qb, H⟩ := h.open hF
  have HI := hideP (innermost_raw b g D.length cap w H.fcell hD)
  obtain ⟨p', c', hu1, _, _⟩ := id hu
  subst hu1
  go_enter Tryz.func179, Tryz.ntmps179
  go_wp2_with fail
  refine HI.out.mono ?_
  rintro e w2 ⟨rfl, b2⟩
  have H2 := H.below b2
  have HU := hideP (hu.below b2)
  have c3 := H2.c3
  obtain ⟨cur, hg⟩ := H2.gb
  have hst := H2.stk
  obtain ⟨ps, cs, hsv⟩ := row_shp hst
  rw [hsv] at c3
  have hst' := hst
  rw [hsv] at hst'
  have HST := hideP hst'
  have HH := hideP H2
  have HG := hideP hg
  have hb2 := H2.at_.bel.size
  have HF0 := hideP H.fcell
  have HC0 := hideP H.c3
  have HGW : Hid (g < w.heap.size) := by obtain ⟨cur, hg⟩ := H.gb; exact heap_lt hg
  clear HI H hst hst' H2 hg hu h hF
  go_wp2_with (at_builtin; refine wpList_append_vals rfl _ _ rfl w0.heap.size _ _ _ rfl HST.out _ l rfl HU.out hnl (by unfold maxLen; omega) (by omega) hb2 ?_; intro v3 w3 hown3 hg3 hat3; obtain ⟨p3, c3', hv3⟩ := row_shp hown3; subst hv3; have hgg := (hg3.block g (heap_lt HG.out) (fun e => by have := row_not HST.out HG.out (by decide); exact this e)).trans HG.out; have f3 := Lib.frozen_of_heap hgg (D.length * 4 + 3); have c4 := (cell_at' hgg (D.length * 4 + 3)).trans ((cell_at' HG.out (D.length * 4 + 3)).symm.trans c3); have HO3 := hideP hown3; have HG3 := hideP hg3; have HAT := hideP hat3; clear hown3 hg3 hat3 hgg)
  go_end0
  refine ⟨rfl, HH.out.setStk (by rw [hsv]; exact HG3.out) ?_ (fun z hz => ?_), ?_, ?_⟩
  rotate_right
  · intro g' n' c' sv' h1 h2
    rw [HF0.out] at h1
    cases h1
    rw [Nat.add_sub_cancel, HC0.out] at h2
    cases h2
    have hgl := heap_lt HG.out
    refine ⟨fun k hk hkg hks => ?_, fun j hj => ?_⟩
    · have k3 := (HG3.out.block k (Nat.lt_of_lt_of_le hk b2.size) (by rw [hsv] at hks; exact hks)).trans (b2.block k hk)
      exact ((set_grown w3 ⟨g, D.length * 4 + 3, none⟩ _).block k (Nat.lt_of_lt_of_le (Nat.lt_of_lt_of_le hk b2.size) HG3.out.size) (fun e => hkg (by simpa using e))).trans k3
    · have hj' : j ≠ D.length * 4 + 3 := by simpa using hj
      rw [World.cell?_setCell_other _ _ _ _ (fun e => hj' (by cases e; rfl))]
      exact (World.cell?_of_block (a := ⟨g, j, none⟩) (HG3.out.block g hgl (row_not HST.out HG.out (by decide)))).trans (b2.cell (p := ⟨g, j, none⟩) HGW.out)
  rotate_right
  · intro k cs t fz hk t1 t2
    have k2 := (b2.block k (heap_lt hk)).trans hk
    have k3 := (HG3.out.block k (heap_lt k2) (row_not HST.out k2 t2)).trans k2
    refine ((set_grown w3 ⟨g, D.length * 4 + 3, none⟩ _).block k (heap_lt k3) (fun e => ?_)).trans k3
    have e' : k = g := by simpa using e
    rw [e', HG.out] at k2
    simp at k2
    exact t1 k2.2.1.symm
  · have := HO3.out
    rw [List.length_append, valCells_append]
    exact this
  · rcases HAT.out with h1 | h1
    · exact .inl (by rw [hsv]; exact h1.symm.trans hz)
    · right
      rw [h1] at hz
      cases hz
      exact Nat.le_refl _
set_option maxHeartbeats 1000000 in
theorem dPutNumber_any (w0 : World) (b : Nat) (pv : Value) (M : Mach) (D : List Frm) (x : Frm) (n : Int) (w : World) (h : Doer w0 w b pv M) (hF : M.frames = D ++ [x]) (hD : D.length ≤ 100) (hl : x.stk.length ≤ 100) : Calls Tryz.prog 176 #[.pointer (some ⟨b, 0, none⟩), .int .i64 n] w fun e w' => e = .returned (.tuple #[]) ∧ Doer w0 w' b pv { M with frames := D ++ [{ x with stk := x.stk ++ [(false, n)] }] } ∧ Oth w w' := by
  have hb : Below w.heap.size w (w.alloc (.cells #[.bool false, .int .i64 n] 50)) := (Below.refl _ w).alloc (Nat.le_refl _) _
  have HP := hideP (dPut_any w0 b pv M D x (.slice (some ⟨w.heap.size, 0, none⟩) 1 1) [(false, n)] _ (h.below hb) hF (vals_new (World.alloc_heap_new w _) rfl (by unfold maxLen; simp)) (nilOk_some _ _ _) hD hl (by simp))
  clear h
  go_enter Tryz.func176, Tryz.ntmps176
  go_wp2_with (go_at_call 179; refine HP.out.mono ?_; rintro e w2 ⟨rfl, h2, o2, -⟩; have H2 := hideP h2; have O2 := hideP o2; clear h2 o2)
  go_end0
  exact ⟨rfl, H2.out, fun k cs t fz hk t1 t2 => O2.out k cs t fz (heap_old hk _) t1 t2⟩
set_option maxHeartbeats 1000000 in
theorem dPutRef_any (w0 : World) (b : Nat) (pv : Value) (M : Mach) (D : List Frm) (x : Frm) (n : Int) (w : World) (h : Doer w0 w b pv M) (hF : M.frames = D ++ [x]) (hD : D.length ≤ 100) (hl : x.stk.length ≤ 100) : Calls Tryz.prog 177 #[.pointer (some ⟨b, 0, none⟩), .int .i64 n] w fun e w' => e = .returned (.tuple #[]) ∧ Doer w0 w' b pv { M with frames := D ++ [{ x with stk := x.stk ++ [(true, n)] }] } ∧ Oth w w' := by
  have hb : Below w.heap.size w (w.alloc (.cells #[.bool true, .int .i64 n] 50)) := (Below.refl _ w).alloc (Nat.le_refl _) _
  have HP := hideP (dPut_any w0 b pv M D x (.slice (some ⟨w.heap.size, 0, none⟩) 1 1) [(true, n)] _ (h.below hb) hF (vals_new (World.alloc_heap_new w _) rfl (by unfold maxLen; simp)) (nilOk_some _ _ _) hD hl (by simp))
  clear h
  go_enter Tryz.func177, Tryz.ntmps177
  go_wp2_with (go_at_call 179; refine HP.out.mono ?_; rintro e w2 ⟨rfl, h2, o2, -⟩; have H2 := hideP h2; have O2 := hideP o2; clear h2 o2)
  go_end0
  exact ⟨rfl, H2.out, fun k cs t fz hk t1 t2 => O2.out k cs t fz (heap_old hk _) t1 t2⟩
end Go.Proofs.YtcadpoknolefpaaGreat
/- fresh.Machine: a machine's own copy. -/
namespace Go.Proofs.YtcadpoknolefpaaGreat
open Go.RowKit
set_option linter.unusedSimpArgs false
set_option linter.unusedVariables false
set_option maxRecDepth 100000 in
set_option maxHeartbeats 1000000 in
theorem cloneVal_any (l : List Val) (v : Value) (w : World) (h : ValsAt w v l) (hn : NilOk v) (hl : l.length ≤ 100) : Calls Tryz.prog 124 #[v] w fun e w' => ∃ u, e = .returned u ∧ w'.ownsRow w.heap.size 50 2 u l.length (valCells l) ∧ Below w.heap.size w w' := by
  have h' := h
  obtain ⟨p, c, rfl, hm, hc⟩ := h'
  cases p with
  | none =>
    have hl0 : l = [] := by
      cases l with
      | nil => rfl
      | cons o r => obtain ⟨b, off, hb, _⟩ := hc 0 o rfl; cases hb
    subst hl0
    clear hc h
    have heq := fun W => Lib.run_eql_slice_nil (P := Tryz.prog) W 46 50 none 0 c 0 0 Tryz.underlying46
    go_enter Tryz.func124, Tryz.ntmps124
    go_wp2
    go_ret
    exact ⟨_, rfl, World.ownsRow_nil _ _ _ _, Below.refl _ _⟩
  | some ad =>
    have hB := (Below.refl w.heap.size w).alloc (Nat.le_refl _) (.cells #[] 50)
    have hrow := World.ownsRow_made (base := w.heap.size) (e := 50) (size := 2) w #[] 0 (Nat.le_refl _) (by unfold maxLen; omega) rfl
    have HU := hideP (h.below hB)
    have heq := fun W => Lib.run_eql_slice_nil (P := Tryz.prog) W 46 50 (some ad) l.length c 0 0 Tryz.underlying46
    clear hc h
    go_enter Tryz.func124, Tryz.ntmps124
    go_wp2_with (at_builtin; refine wpList_append_vals rfl _ _ rfl w.heap.size _ _ _ rfl hrow _ l rfl HU.out (nilOk_some _ _ _) (by unfold maxLen; omega) (by omega) (by simp) ?_; intro v2 w2 hown2 hg2 hat2; have HO2 := hideP hown2; clear hown2)
    go_ret
    refine ⟨_, rfl, ?_, hB.grown hg2 (by simp) (fun k hk => (hrow.lt k hk).1)⟩
    have := HO2.out
    simpa using this
def zFV : FV := ⟨0, 0, .slice none 0 0, .slice none 0 0⟩
theorem infoFrm : (Tryz.prog.info? 48).map (fun i => (i.zero, i.size, i.bytes)) = some (some (.agg #[.int .i64 0, .int .i64 0, .slice none 0 0, .slice none 0 0]), 4, 64) := by kernel_rfl
theorem made_frames (n : Nat) : (madeCells (Value.agg #[.int .i64 0, .int .i64 0, .slice none 0 0, .slice none 0 0]).cells (n * 4)).toList = fCells (List.replicate n zFV) := by
  have h : (Value.agg #[.int .i64 0, .int .i64 0, .slice none 0 0, .slice none 0 0]).cells = #[.int .i64 0, .int .i64 0, .slice none 0 0, .slice none 0 0] := rfl
  rw [h]
  apply List.ext_getElem?
  intro k
  by_cases hk : k < n * 4
  · have hq : k / 4 < n := by omega
    obtain ⟨a0, a1, a2, a3⟩ := fCells_at (List.replicate n zFV) (k / 4) zFV (by simp [hq])
    have hm : k % 4 = 0 ∨ k % 4 = 1 ∨ k % 4 = 2 ∨ k % 4 = 3 := by omega
    rcases hm with hm | hm | hm | hm
    · rw [show k / 4 * 4 = k by omega] at a0
      rw [a0]; simp [madeCells, hk, hm, zFV]
    · rw [show k / 4 * 4 + 1 = k by omega] at a1
      rw [a1]; simp [madeCells, hk, hm, zFV]
    · rw [show k / 4 * 4 + 2 = k by omega] at a2
      rw [a2]; simp [madeCells, hk, hm, zFV]
    · rw [show k / 4 * 4 + 3 = k by omega] at a3
      rw [a3]; simp [madeCells, hk, hm, zFV]
  · rw [List.getElem?_eq_none (by simp [madeCells]; omega), List.getElem?_eq_none (by rw [fCells_length]; simp; omega)]
theorem fCells_set (q r : List FV) (d c : FV) : ((((fCells (q ++ d :: r)).set (q.length * 4) (.int .i64 c.fn)).set (q.length * 4 + 1) (.int .i64 c.pc)).set (q.length * 4 + 2) c.lv).set (q.length * 4 + 3) c.sv = fCells (q ++ c :: r) := by
  have e : ∀ (l : List Value) (i : Nat) (u : Value), (fCells q ++ l).set (q.length * 4 + i) u = fCells q ++ l.set i u := fun l i u => by
    rw [List.set_append_right _ _ (by rw [fCells_length]; omega), fCells_length, Nat.add_sub_cancel_left]
  have e0 : ∀ (l : List Value) (u : Value), (fCells q ++ l).set (q.length * 4) u = fCells q ++ l.set 0 u := fun l u => e l 0 u
  rw [fCells_append, fCells_append, e0, e, e, e]
  simp [fCells]
theorem four_set {W : World} {B R n : Nat} {q r : List FV} {d c : FV} (h : W.ownsRow B 48 4 (.slice (some ⟨R, 0, none⟩) n n) n (fCells (q ++ d :: r))) : ((((W.setCell ⟨R, q.length * 4, none⟩ (.int .i64 c.fn)).setCell ⟨R, q.length * 4 + 1, none⟩ (.int .i64 c.pc)).setCell ⟨R, q.length * 4 + 2, none⟩ c.lv).setCell ⟨R, q.length * 4 + 3, none⟩ c.sv).ownsRow B 48 4 (.slice (some ⟨R, 0, none⟩) n n) n (fCells (q ++ c :: r)) := by
  rw [← fCells_set q r d c]
  exact row_set (row_set (row_set (row_set h _ _) _ _) _ _) _ _
theorem four_grown (W : World) (R i : Nat) (a b c d : Value) : W.grownBy ((((W.setCell ⟨R, i, none⟩ a).setCell ⟨R, i + 1, none⟩ b).setCell ⟨R, i + 2, none⟩ c).setCell ⟨R, i + 3, none⟩ d) (some R) :=
  (((set_grown W ⟨R, i, none⟩ a).trans (set_grown _ ⟨R, i + 1, none⟩ b)).trans (set_grown _ ⟨R, i + 2, none⟩ c)).trans (set_grown _ ⟨R, i + 3, none⟩ d)
theorem four_cell {w : World} {R i : Nat} {a b c d v : Value} {p : Addr} (h : w.cell? p = some v) (hn : ¬ p.block = R) : ((((w.setCell ⟨R, i, none⟩ a).setCell ⟨R, i + 1, none⟩ b).setCell ⟨R, i + 2, none⟩ c).setCell ⟨R, i + 3, none⟩ d).cell? p = some v := by
  have key : ∀ (W : World) (j : Nat) (u : Value), W.cell? p = some v → (W.setCell ⟨R, j, none⟩ u).cell? p = some v := fun W j u h => (World.cell?_of_block (Below.heap_setCell W _ u p.block hn)).trans h
  exact key _ _ _ (key _ _ _ (key _ _ _ (key _ _ _ h)))
set_option maxRecDepth 100000 in
set_option maxHeartbeats 4000000 in
theorem freshFrames_any (F : List Frm) (v : Value) (w : World) (h : FrmsAt w v F) (h6 : F.length ≤ 6) (hsm : ∀ x ∈ F, x.loc.length ≤ 20 ∧ x.stk.length ≤ 20) : Calls Tryz.prog 84 #[v] w fun e w' => ∃ u, e = .returned u ∧ ∃ q, w'.ownsRow w.heap.size 48 4 u q.length (fCells q) ∧ FRows w' w.heap.size q F ∧ Below w.heap.size w w' := by
  obtain ⟨i0, hi, hz0, hz1, hz2⟩ := info_parts infoFrm
  obtain ⟨p, cap, hv, -, -, -⟩ := id h
  subst hv
  have H := hideP h
  have HSM := hideP hsm
  clear h hsm
  go_enter Tryz.func84, Tryz.ntmps84
  go_wp2_with (at_make; refine wpList_make_full _ rfl _ _ 25 rfl w.heap.size 48 i0 (.agg #[.int .i64 0, .int .i64 0, .slice none 0 0, .slice none 0 0]) 4 Tryz.underlying25 hi hz0 hz1 _ _ _ _ F.length rfl rfl (by omega) (by omega) (by rw [hz2]; omega) (by unfold maxLen; omega) (Nat.le_refl _) ?_; intro w1 hown1 hg1; rw [made_frames] at hown1; have b1 : Below w.heap.size w w1 := (Below.refl _ w).grown hg1 (Nat.le_refl _) (fun k hk => by cases hk); have HOWN1 := hideP hown1; clear hown1 hg1)
  go_loopw [4, 5, 11] (fun _ _ i wr => ∃ (k : Nat) (q : List FV), k ≤ F.length ∧ i = .int .i64 k ∧ q.length = k ∧ wr.ownsRow w.heap.size 48 4 (.slice (some ⟨w.heap.size, 0, none⟩) F.length F.length) F.length (fCells (q ++ List.replicate (F.length - k) zFV)) ∧ FRows wr w.heap.size q (F.take k) ∧ Below w.heap.size w wr) (fun _ _ i _ => F.length - (intOf i).toNat)
  case atStart => exact ⟨0, [], Nat.zero_le _, rfl, rfl, by simpa using HOWN1.out, by simpa using fRows_nil w1 w.heap.size, b1⟩
  case round =>
    rename World => w2
    obtain ⟨k, q, hk, rfl, hql, hrow, hrs, b2⟩ := hrel
    by_cases hlt : k < F.length
    · have hlti : (k : Int) < (F.length : Int) := by omega
      obtain ⟨x, hx⟩ := at_of_lt hlt
      obtain ⟨p2, q2, he2, _, _, hc2⟩ := H.out.below b2
      cases he2
      obtain ⟨g, off, lv, sv, hp, hg, g0, g1, g2, g3, gl, gln, gs, gsn⟩ := hc2 k x hx
      subst hp
      obtain ⟨hl20, hs20⟩ := HSM.out x (List.mem_of_getElem? hx)
      obtain ⟨pl, cl, hlv, -, -⟩ := id gl
      obtain ⟨ps, cs, hsv, -, -⟩ := id gs
      subst hlv hsv
      obtain ⟨W3, hW3⟩ : ∃ W3, w2.alloc (.cells #[.int .i64 x.fn, .int .i64 x.pc, .slice pl x.loc.length cl, .slice ps x.stk.length cs] 48) = W3 := ⟨_, rfl⟩
      have b3 : Below w2.heap.size w2 W3 := by rw [← hW3]; exact (Below.refl _ w2).alloc (Nat.le_refl _) _
      have x3 : W3.heap[w2.heap.size]? = some (.cells #[.int .i64 x.fn, .int .i64 x.pc, .slice pl x.loc.length cl, .slice ps x.stk.length cs] 48 (0, 0)) := by rw [← hW3]; exact World.alloc_heap_new w2 _
      have l3 := heap_lt x3
      have d0 : W3.cell? ⟨w2.heap.size, 0, none⟩ = some (.int .i64 x.fn) := cell_at' x3 0
      have d1 : W3.cell? ⟨w2.heap.size, 1, none⟩ = some (.int .i64 x.pc) := cell_at' x3 1
      have d2 : W3.cell? ⟨w2.heap.size, 2, none⟩ = some (.slice pl x.loc.length cl) := cell_at' x3 2
      have d3 : W3.cell? ⟨w2.heap.size, 3, none⟩ = some (.slice ps x.stk.length cs) := cell_at' x3 3
      have HCL : Hid (∀ W, Below W3.heap.size W3 W → Calls Tryz.prog 124 #[.slice pl x.loc.length cl] W fun e w' => ∃ u, e = .returned u ∧ w'.ownsRow W.heap.size 50 2 u x.loc.length (valCells x.loc) ∧ Below W.heap.size W w') := fun W hW => cloneVal_any x.loc _ W ((gl.below b3).below hW) gln (by omega)
      have HCS : Hid (∀ W, Below W3.heap.size W3 W → Calls Tryz.prog 124 #[.slice ps x.stk.length cs] W fun e w' => ∃ u, e = .returned u ∧ w'.ownsRow W.heap.size 50 2 u x.stk.length (valCells x.stk) ∧ Below W.heap.size W w') := fun W hW => cloneVal_any x.stk _ W ((gs.below b3).below hW) gsn (by omega)
      have HROW := hideP hrow
      have HRS := hideP hrs
      have HX := hideP hx
      have HQL := hideP hql
      clear hc2 gl gln gs gsn hx hrow hrs hql x3
      have hrep : List.replicate (F.length - k) zFV = zFV :: List.replicate (F.length - k - 1) zFV := by
        obtain ⟨m, hm⟩ : ∃ m, F.length - k = m + 1 := ⟨F.length - k - 1, by omega⟩
        rw [hm]; rfl
      have hrow3 := row_same HROW.out (W' := W3) fun j hj => b3.block j (HROW.out.lt j hj).2
      rw [hrep] at hrow3
      have HROW3 := hideP hrow3
      have hR3 : ∃ cur, W3.heap[w.heap.size]? = some (.cells cur 48 (0, 0)) ∧ ∀ (j : Nat) (u : Value), (fCells (q ++ zFV :: List.replicate (F.length - k - 1) zFV))[j]? = some u → cur[j]? = some u := by
        rcases hrow3.2 with ⟨h1, _⟩ | ⟨g', cap', cur, h1, _, h3, _, _, _, h7⟩
        · cases h1
        · cases h1
          refine ⟨cur, h3, fun j u hj => ?_⟩
          rw [← h7, List.getElem?_take] at hj
          split at hj
          · simpa using hj
          · cases hj
      obtain ⟨cur3, hR3, hcur3⟩ := hR3
      obtain ⟨a0, a1, a2, a3⟩ := fCells_at (q ++ zFV :: List.replicate (F.length - k - 1) zFV) q.length zFV (by simp)
      have hRl : w.heap.size < W3.heap.size := heap_lt hR3
      have hRne : ¬ w2.heap.size = w.heap.size := by have := heap_lt hR3; have h9 := (HROW.out.lt w.heap.size rfl).2; omega
      have r0 : W3.cell? ⟨w.heap.size, k * 4, none⟩ = some (.int .i64 0) := by rw [cell_at' hR3, ← HQL.out]; exact hcur3 _ _ a0
      have r1 : W3.cell? ⟨w.heap.size, k * 4 + 1, none⟩ = some (.int .i64 0) := by rw [cell_at' hR3, ← HQL.out]; exact hcur3 _ _ a1
      have r2 : W3.cell? ⟨w.heap.size, k * 4 + 2, none⟩ = some (.slice none 0 0) := by rw [cell_at' hR3, ← HQL.out]; exact hcur3 _ _ a2
      have r3 : W3.cell? ⟨w.heap.size, k * 4 + 3, none⟩ = some (.slice none 0 0) := by rw [cell_at' hR3, ← HQL.out]; exact hcur3 _ _ a3
      have HR3 := hideP hR3
      clear hrow3 hR3 hcur3 a0 a1 a2 a3 hrep
      go_wp2_with fail
      clear g0 g1 g2 g3
      go_region_held3 (fun W => W.cell? ⟨w2.heap.size, 0, none⟩ = some (.int .i64 x.fn) ∧ W.cell? ⟨w2.heap.size, 1, none⟩ = some (.int .i64 x.pc) ∧ W.cell? ⟨w2.heap.size, 2, none⟩ = some (.slice pl x.loc.length cl) ∧ W.cell? ⟨w2.heap.size, 3, none⟩ = some (.slice ps x.stk.length cs)) (first | go_keep | exact ⟨four_cell h0 hRne, four_cell h1 hRne, four_cell h2 hRne, four_cell h3 hRne⟩)
        (first
          | (go_at_call 124; (with_reducible refine (HCL.out _ ((Below.refl _ W3).drew)).mono ?_); rintro e w5 ⟨u5, rfl, r5, b5⟩; have b35 : Below W3.heap.size W3 w5 := ((Below.refl _ W3).drew).trans b5; obtain ⟨p5, c5, hu5⟩ := row_shp r5; subst hu5; have R5 := hideP r5; clear r5; have f0 := (b35.cell (p := ⟨w2.heap.size, 0, none⟩) l3).trans d0; have f1 := (b35.cell (p := ⟨w2.heap.size, 1, none⟩) l3).trans d1; have f2 := (b35.cell (p := ⟨w2.heap.size, 2, none⟩) l3).trans d2; have f3 := (b35.cell (p := ⟨w2.heap.size, 3, none⟩) l3).trans d3)
          | (go_at_call 124; (with_reducible refine (HCS.out _ b35).mono ?_); rintro e w6 ⟨u6, rfl, r6, b6⟩; have b36 : Below W3.heap.size W3 w6 := b35.trans (b6.mono b35.size); obtain ⟨p6, c6, hu6⟩ := row_shp r6; subst hu6; have R6 := hideP r6; clear r6; have h0 := (b36.cell (p := ⟨w2.heap.size, 0, none⟩) l3).trans d0; have h1 := (b36.cell (p := ⟨w2.heap.size, 1, none⟩) l3).trans d1; have h2 := (b36.cell (p := ⟨w2.heap.size, 2, none⟩) l3).trans d2; have h3 := (b36.cell (p := ⟨w2.heap.size, 3, none⟩) l3).trans d3; have s0 := (b36.cell (p := ⟨w.heap.size, k * 4, none⟩) hRl).trans r0; have s1 := (b36.cell (p := ⟨w.heap.size, k * 4 + 1, none⟩) hRl).trans r1; have s2 := (b36.cell (p := ⟨w.heap.size, k * 4 + 2, none⟩) hRl).trans r2; have s3 := (b36.cell (p := ⟨w.heap.size, k * 4 + 3, none⟩) hRl).trans r3; have y := Lib.frozen_of_heap ((b36.block _ hRl).trans HR3.out); have y0 := y (k * 4); have y1 := y (k * 4 + 1); have y2 := y (k * 4 + 2); have y3 := y (k * 4 + 3); clear y))
      go_wp2
      go_roundw
      case rel =>
        have hF4 := HROW3.out
        have hrow6 := row_same hF4 (W' := w6) fun j hj => b36.block j (hF4.lt j hj).2
        have hset := four_set (c := ⟨x.fn, x.pc, .slice p5 x.loc.length c5, .slice p6 x.stk.length c6⟩) hrow6
        have hgr := four_grown w6 w.heap.size (q.length * 4) (.int .i64 x.fn) (.int .i64 x.pc) (.slice p5 x.loc.length c5) (.slice p6 x.stk.length c6)
        have hty : TyRow w6 (some w.heap.size) 48 := tyRow_at ((b36.block _ hRl).trans HR3.out)
        have hs3 := b3.size
        have hs5 := b35.size
        have hs6 := b6.size
        have hrs6 : FRows w6 w.heap.size (q ++ [⟨x.fn, x.pc, .slice p5 x.loc.length c5, .slice p6 x.stk.length c6⟩]) (F.take (k + 1)) := by
          rw [take_snoc F k x HX.out]
          refine ((HRS.out.below b3).below b36).snoc (B' := W3.heap.size) rfl rfl (row_same R5.out fun j hj => b6.block j (R5.out.lt j hj).2) (row_low R6.out hs5) (by have := b2.size; omega) (fun i y g h1 h2 => ?_) (fun g h1 h2 => ?_)
          · have := (HRS.out.rows.lt h1 h2).2.1; omega
          · have := (R5.out.lt g h1).2
            have := (R6.out.lt g h2).1
            omega
        refine ⟨k + 1, q ++ [⟨x.fn, x.pc, .slice p5 x.loc.length c5, .slice p6 x.stk.length c6⟩], by omega, by go_num, by rw [List.length_append, HQL.out]; rfl, ?_, ?_, ?_⟩
        · rw [HQL.out] at hset
          rw [List.append_assoc, List.singleton_append, show F.length - (k + 1) = F.length - k - 1 by omega]
          exact hset
        · rw [HQL.out] at hgr
          exact hrs6.keep hgr hty (by decide)
        · rw [HQL.out] at hgr
          exact (b2.trans ((bthen0 b3 b36).mono b2.size)).grown hgr (by have := b2.size; omega) (fun j hj => by cases hj; exact Nat.le_refl _)
      case measure => simp [intOf]; omega
    · have hlti : ¬ (k : Int) < (F.length : Int) := by omega
      have hkl : k = F.length := by omega
      subst hkl
      have HRS := hideP hrs
      have HROW := hideP hrow
      have HQL := hideP hql
      clear hrs hrow hql
      go_wp2
      go_ret
      have h1 := HRS.out
      rw [List.take_of_length_le (Nat.le_refl _)] at h1
      have h2 := HROW.out
      rw [Nat.sub_self, List.replicate_zero, List.append_nil] at h2
      exact ⟨_, rfl, q, by rw [HQL.out]; exact h2, h1, b2⟩
end Go.Proofs.YtcadpoknolefpaaGreat
/- fresh.Machine: a machine's own copy. -/
namespace Go.Proofs.YtcadpoknolefpaaGreat
open Go.RowKit
set_option linter.unusedSimpArgs false
set_option linter.unusedVariables false
/-- a machine that is as small as a right one is. -/
structure SmallM (M : Mach) : Prop where
  fr : M.frames.length ≤ 6
  each : ∀ x ∈ M.frames, x.loc.length ≤ 20 ∧ x.stk.length ≤ 20
  bl : M.blocks.length ≤ 8
  cells : ∀ b ∈ M.blocks, b.length ≤ 40
  inp : M.inp.length ≤ 10
  out : M.out.length ≤ 10
theorem BRows.cons {W : World} {B : Nat} {q : List Value} {L : List (List Int)} {x : Value} {b : List Int} (h : BRows W B q L) (hx : W.ownsRow B 3 1 x b.length (b.map (Value.int .i64))) (hn : ∀ (k : Nat) (y : Value) (g : Nat), q[k]? = some y → y.ownBlock = some g → x.ownBlock ≠ some g) (hs : b.length ≤ 17592186044416) : BRows W B (x :: q) (b :: L) := by
  refine ⟨by simp [h.len], fun k y c hy hc => ?_, fun i j y z g hy hz gy gz => ?_, fun c hc => ?_⟩
  · cases k with
    | zero => simp at hy hc; subst hy hc; exact hx
    | succ k => exact h.each k y c (by simpa using hy) (by simpa using hc)
  · cases i with
    | zero =>
      cases j with
      | zero => rfl
      | succ j => simp at hy; subst hy; exact absurd gy (hn j z g (by simpa using hz) gz)
    | succ i =>
      cases j with
      | zero => simp at hz; subst hz; exact absurd gz (hn i y g (by simpa using hy) gy)
      | succ j => rw [h.apart i j y z g (by simpa using hy) (by simpa using hz) gy gz]
  · rcases List.mem_cons.1 hc with rfl | hc
    · exact hs
    · exact h.small c hc
theorem six_cell {w : World} {R : Nat} {a b c d e f v : Value} {p : Addr} (h : w.cell? p = some v) (hn : ¬ p.block = R) : ((((((w.setCell ⟨R, 0, none⟩ a).setCell ⟨R, 1, none⟩ b).setCell ⟨R, 2, none⟩ c).setCell ⟨R, 3, none⟩ d).setCell ⟨R, 4, none⟩ e).setCell ⟨R, 5, none⟩ f).cell? p = some v := by
  have key : ∀ (W : World) (j : Nat) (u : Value), W.cell? p = some v → (W.setCell ⟨R, j, none⟩ u).cell? p = some v := fun W j u h => (World.cell?_of_block (Below.heap_setCell W _ u p.block hn)).trans h
  exact key _ _ _ (key _ _ _ (key _ _ _ (key _ _ _ (key _ _ _ (key _ _ _ h)))))
theorem six_grown (W : World) (R : Nat) (a b c d e f : Value) : W.grownBy ((((((W.setCell ⟨R, 0, none⟩ a).setCell ⟨R, 1, none⟩ b).setCell ⟨R, 2, none⟩ c).setCell ⟨R, 3, none⟩ d).setCell ⟨R, 4, none⟩ e).setCell ⟨R, 5, none⟩ f) (some R) :=
  (((((set_grown W ⟨R, 0, none⟩ a).trans (set_grown _ ⟨R, 1, none⟩ b)).trans (set_grown _ ⟨R, 2, none⟩ c)).trans (set_grown _ ⟨R, 3, none⟩ d)).trans (set_grown _ ⟨R, 4, none⟩ e)).trans (set_grown _ ⟨R, 5, none⟩ f)
set_option maxRecDepth 100000 in
set_option maxHeartbeats 4000000 in
theorem freshMachine_any (M : Mach) (fv bv iv ov : Value) (w : World) (h : MachAt w fv bv iv ov M) (hsm : SmallM M) : Calls Tryz.prog 44 #[.agg #[fv, bv, iv, ov, .int .i64 M.status, .int .i64 M.trap]] w fun e w' => ∃ fv' bv' iv' ov', e = .returned (.agg #[fv', bv', iv', ov', .int .i64 M.status, .int .i64 M.trap]) ∧ ∃ q qb, MOwn w' w.heap.size fv' bv' iv' ov' q qb M ∧ Below w.heap.size w w' := by
  obtain ⟨pf, cf, hfv, -, -, -⟩ := id h.fr
  obtain ⟨pb, cb, hbv, -, -⟩ := id h.bl
  obtain ⟨pi, ci, hiv, -⟩ := h.inp.shp
  obtain ⟨po, co, hov, -⟩ := h.out.shp
  subst hfv hbv hiv hov
  obtain ⟨W1, hW1⟩ : ∃ W1, (w.alloc (.cells #[.slice pf M.frames.length cf, .slice pb M.blocks.length cb, .slice pi M.inp.length ci, .slice po M.out.length co, .int .i64 M.status, .int .i64 M.trap] 29)).alloc (.cells #[.slice none 0 0, .slice none 0 0, .slice none 0 0, .slice none 0 0, .int .i64 0, .int .i64 0] 29) = W1 := ⟨_, rfl⟩
  have b1 : Below w.heap.size w W1 := by rw [← hW1]; exact ((Below.refl _ w).alloc (Nat.le_refl _) _).alloc (by simp) _
  have x1 : W1.heap[w.heap.size]? = some (.cells #[.slice pf M.frames.length cf, .slice pb M.blocks.length cb, .slice pi M.inp.length ci, .slice po M.out.length co, .int .i64 M.status, .int .i64 M.trap] 29 (0, 0)) := by rw [← hW1]; exact heap_old (World.alloc_heap_new w _) _
  have y1 : W1.heap[w.heap.size + 1]? = some (.cells #[.slice none 0 0, .slice none 0 0, .slice none 0 0, .slice none 0 0, .int .i64 0, .int .i64 0] 29 (0, 0)) := by rw [← hW1]; exact new_two w _ _
  have lx := heap_lt x1
  have ly := heap_lt y1
  have d0 : W1.cell? ⟨w.heap.size, 0, none⟩ = some (.slice pf M.frames.length cf) := cell_at' x1 0
  have d1 : W1.cell? ⟨w.heap.size, 1, none⟩ = some (.slice pb M.blocks.length cb) := cell_at' x1 1
  have d2 : W1.cell? ⟨w.heap.size, 2, none⟩ = some (.slice pi M.inp.length ci) := cell_at' x1 2
  have d3 : W1.cell? ⟨w.heap.size, 3, none⟩ = some (.slice po M.out.length co) := cell_at' x1 3
  have d4 : W1.cell? ⟨w.heap.size, 4, none⟩ = some (.int .i64 M.status) := cell_at' x1 4
  have d5 : W1.cell? ⟨w.heap.size, 5, none⟩ = some (.int .i64 M.trap) := cell_at' x1 5
  have h1 := h.below b1
  have HFR : Hid (∀ W, Below W1.heap.size W1 W → Calls Tryz.prog 84 #[.slice pf M.frames.length cf] W fun e w' => ∃ u, e = .returned u ∧ ∃ q, w'.ownsRow W.heap.size 48 4 u q.length (fCells q) ∧ FRows w' W.heap.size q M.frames ∧ Below W.heap.size W w') := fun W hW => freshFrames_any M.frames _ W (h1.fr.below hW) hsm.fr hsm.each
  have HBL : Hid (∀ W, Below W1.heap.size W1 W → Calls Tryz.prog 85 #[.slice pb M.blocks.length cb] W fun e w' => ∃ u, e = .returned u ∧ BlksOwn w' W.heap.size u M.blocks ∧ Below W.heap.size W w') := fun W hW => freshBlocks_any M.blocks _ W (h1.bl.below hW) hsm.bl hsm.cells
  have HIN : Hid (∀ W, Below W1.heap.size W1 W → Calls Tryz.prog 86 #[.slice pi M.inp.length ci] W fun e w' => ∃ u, e = .returned u ∧ w'.ownsRow W.heap.size 3 1 u M.inp.length (M.inp.map (Value.int .i64)) ∧ Below W.heap.size W w') := fun W hW => cloneInt_any M.inp _ W (h1.inp.at_.below hW) h1.inp.nil (by have := hsm.inp; omega)
  have HOU : Hid (∀ W, Below W1.heap.size W1 W → Calls Tryz.prog 86 #[.slice po M.out.length co] W fun e w' => ∃ u, e = .returned u ∧ w'.ownsRow W.heap.size 3 1 u M.out.length (M.out.map (Value.int .i64)) ∧ Below W.heap.size W w') := fun W hW => cloneInt_any M.out _ W (h1.out.at_.below hW) h1.out.nil (by have := hsm.out; omega)
  have hRne : ¬ w.heap.size = w.heap.size + 1 := by omega
  have HY1 := hideP y1
  have HX1 := hideP x1
  have HSM := hideP hsm
  clear h h1 x1 y1 hsm
  go_enter Tryz.func44, Tryz.ntmps44
  go_wp2_with fail
  go_region_held3 (fun W => W.cell? ⟨w.heap.size, 0, none⟩ = some (.slice pf M.frames.length cf) ∧ W.cell? ⟨w.heap.size, 1, none⟩ = some (.slice pb M.blocks.length cb) ∧ W.cell? ⟨w.heap.size, 2, none⟩ = some (.slice pi M.inp.length ci) ∧ W.cell? ⟨w.heap.size, 3, none⟩ = some (.slice po M.out.length co) ∧ W.cell? ⟨w.heap.size, 4, none⟩ = some (.int .i64 M.status) ∧ W.cell? ⟨w.heap.size, 5, none⟩ = some (.int .i64 M.trap)) (first | go_keep | exact ⟨six_cell k0 hRne, six_cell k1 hRne, six_cell k2 hRne, six_cell k3 hRne, six_cell k4 hRne, six_cell k5 hRne⟩)
    (first
      | (go_at_call 84; (with_reducible refine (HFR.out _ ((Below.refl _ W1).drew)).mono ?_); rintro e w2 ⟨u2, rfl, q2, r2, hr2, b2'⟩; have b2 : Below W1.heap.size W1 w2 := ((Below.refl _ W1).drew).trans b2'; have s2 : w2.heap.size = w2.heap.size := rfl; obtain ⟨p2, c2, hu2⟩ := row_shp r2; subst hu2; have R2 := hideP r2; have HR2 := hideP hr2; clear r2 hr2; have f0 := (b2.cell (p := ⟨w.heap.size, 0, none⟩) lx).trans d0; have f1 := (b2.cell (p := ⟨w.heap.size, 1, none⟩) lx).trans d1; have f2 := (b2.cell (p := ⟨w.heap.size, 2, none⟩) lx).trans d2; have f3 := (b2.cell (p := ⟨w.heap.size, 3, none⟩) lx).trans d3; have f4 := (b2.cell (p := ⟨w.heap.size, 4, none⟩) lx).trans d4; have f5 := (b2.cell (p := ⟨w.heap.size, 5, none⟩) lx).trans d5)
      | (go_at_call 85; (with_reducible refine (HBL.out _ b2).mono ?_); rintro e w3 ⟨u3, rfl, ⟨qb, r3, hr3⟩, b3'⟩; have b3 : Below W1.heap.size W1 w3 := b2.trans (b3'.mono b2.size); obtain ⟨p3, c3, hu3⟩ := row_shp r3; subst hu3; have R3 := hideP r3; have HR3 := hideP hr3; clear r3 hr3; have g0 := (b3.cell (p := ⟨w.heap.size, 0, none⟩) lx).trans d0; have g1 := (b3.cell (p := ⟨w.heap.size, 1, none⟩) lx).trans d1; have g2 := (b3.cell (p := ⟨w.heap.size, 2, none⟩) lx).trans d2; have g3 := (b3.cell (p := ⟨w.heap.size, 3, none⟩) lx).trans d3; have g4 := (b3.cell (p := ⟨w.heap.size, 4, none⟩) lx).trans d4; have g5 := (b3.cell (p := ⟨w.heap.size, 5, none⟩) lx).trans d5)
      | (go_at_call 86; (with_reducible refine (HIN.out _ b3).mono ?_); rintro e w4 ⟨u4, rfl, r4, b4'⟩; have b4 : Below W1.heap.size W1 w4 := b3.trans (b4'.mono b3.size); obtain ⟨p4, c4, hu4⟩ := row_shp r4; subst hu4; have R4 := hideP r4; clear r4; have h0 := (b4.cell (p := ⟨w.heap.size, 0, none⟩) lx).trans d0; have h1 := (b4.cell (p := ⟨w.heap.size, 1, none⟩) lx).trans d1; have h2 := (b4.cell (p := ⟨w.heap.size, 2, none⟩) lx).trans d2; have h3 := (b4.cell (p := ⟨w.heap.size, 3, none⟩) lx).trans d3; have h4 := (b4.cell (p := ⟨w.heap.size, 4, none⟩) lx).trans d4; have h5 := (b4.cell (p := ⟨w.heap.size, 5, none⟩) lx).trans d5)
      | (go_at_call 86; (with_reducible refine (HOU.out _ b4).mono ?_); rintro e w5 ⟨u5, rfl, r5, b5'⟩; have b5 : Below W1.heap.size W1 w5 := b4.trans (b5'.mono b4.size); obtain ⟨p5, c5, hu5⟩ := row_shp r5; subst hu5; have R5 := hideP r5; clear r5; have k0 := (b5.cell (p := ⟨w.heap.size, 0, none⟩) lx).trans d0; have k1 := (b5.cell (p := ⟨w.heap.size, 1, none⟩) lx).trans d1; have k2 := (b5.cell (p := ⟨w.heap.size, 2, none⟩) lx).trans d2; have k3 := (b5.cell (p := ⟨w.heap.size, 3, none⟩) lx).trans d3; have k4 := (b5.cell (p := ⟨w.heap.size, 4, none⟩) lx).trans d4; have k5 := (b5.cell (p := ⟨w.heap.size, 5, none⟩) lx).trans d5; have yy := (b5.block _ ly).trans HY1.out; have m0 := cell_at' yy 0; have m1 := cell_at' yy 1; have m2 := cell_at' yy 2; have m3 := cell_at' yy 3; have m4 := cell_at' yy 4; have m5 := cell_at' yy 5; simp at m0 m1 m2 m3 m4 m5; have z := Lib.frozen_of_heap yy; have z0 := z 0; have z1 := z 1; have z2 := z 2; have z3 := z 3; have z4 := z 4; have z5 := z 5; have YY := hideP yy; clear yy z))
  go_wp2
  refine bodyPost_ret (v := .agg #[.slice p2 q2.length c2, .slice p3 qb.length c3, .slice p4 M.inp.length c4, .slice p5 M.out.length c5, .int .i64 M.status, .int .i64 M.trap]) (by simp [results, Tryz.results44, go_sem, m0, m1, m2, m3, m4, m5]) rfl ⟨_, _, _, _, rfl, q2, qb, ?_, ?_⟩
  · have hs1 := b1.size
    have hs2 := b2.size
    have hs3 := b3'.size
    have hs4 := b4'.size
    have hs5 := b5'.size
    have hb25 : Below w2.heap.size w2 w5 := bthen0 (bthen0 b3' b4') b5'
    have hb35 : Below w3.heap.size w3 w5 := bthen0 b4' b5'
    have hR2l : W1.heap.size ≤ w2.heap.size := hs2
    refine MOwn.keep (t := 29) ?_ (six_grown w5 (w.heap.size + 1) _ _ _ _ _ _) (tyRow_at YY.out) (by decide) (by decide) (by decide) (by decide)
    have hB1 : w.heap.size ≤ W1.drew.heap.size := hs1
    refine ⟨row_low (row_same R2.out fun j hj => hb25.block j (R2.out.lt j hj).2) hB1, (HR2.out.below hb25).low hB1, row_low (row_same R3.out fun j hj => hb35.block j (R3.out.lt j hj).2) (by omega), ?_⟩
    have hq5 := (HR3.out.below hb35).low (B' := w.heap.size) (by omega)
    have ho := row_low (B' := w.heap.size) R5.out (by omega)
    have hi := row_low (B' := w.heap.size) (row_same R4.out fun j hj => b5'.block j (R4.out.lt j hj).2) (by omega)
    refine (hq5.cons ho (fun i y g h1 h2 h3 => ?_) (by have := HSM.out.out; omega)).cons hi (fun i y g h1 h2 h3 => ?_) (by have := HSM.out.inp; omega)
    · have a1 := (HR3.out.lt h1 h2).2.1
      have a2 := (R5.out.lt g h3).1
      omega
    · cases i with
      | zero =>
        simp at h1
        subst h1
        have a1 := (R5.out.lt g h2).1
        have a2 := (R4.out.lt g h3).2
        omega
      | succ i =>
        have a1 := (HR3.out.lt (k := i) (by simpa using h1) h2).2.1
        have a2 := (R4.out.lt g h3).1
        omega
  · exact (bthen0 b1 b5).grown (six_grown w5 (w.heap.size + 1) _ _ _ _ _ _) (by have := (bthen0 b1 b5).size; omega) (fun j hj => by cases hj; omega)
end Go.Proofs.YtcadpoknolefpaaGreat
