/- My texts Mc Mf: what of them is needed, joined. -/
import Derived.Deep.RegionHeld3
import Derived.Test.YtmjjkenblfndgaaGreatD9
import Derived.Test.YtmjjkenblfndgaaGreatD10
set_option maxRecDepth 100000
set_option maxHeartbeats 8000000
/- stride's doer: the machine that it does an op of; its innermost frame, take and put. -/
namespace Go.Proofs.YtmjjkenblfndgaaGreat
open Go.RowKit
set_option linter.unusedSimpArgs false
set_option linter.unusedVariables false
structure DAt (w0 W : World) (b : Nat) (pv fv bv iv ov : Value) (q : List FV) (qb : List Value) (M : Mach) : Prop where
  cell : W.heap[b]? = some (.cells #[fv, bv, iv, ov, .int .i64 M.status, .int .i64 M.trap, pv] 162 (0, 0))
  own : MOwn W w0.heap.size fv bv iv ov q qb M
  bel : Below w0.heap.size w0 W
  lo : w0.heap.size ≤ b
def Doer (w0 W : World) (b : Nat) (pv : Value) (M : Mach) : Prop := ∃ fv bv iv ov q qb, DAt w0 W b pv fv bv iv ov q qb M
theorem DAt.lt {w0 W : World} {b : Nat} {pv fv bv iv ov : Value} {q : List FV} {qb : List Value} {M : Mach} (h : DAt w0 W b pv fv bv iv ov q qb M) : b < W.heap.size := xacZ h.cell
theorem DAt.below {w0 W W' : World} {b : Nat} {pv fv bv iv ov : Value} {q : List FV} {qb : List Value} {M : Mach} (h : DAt w0 W b pv fv bv iv ov q qb M) (hb : Below W.heap.size W W') : DAt w0 W' b pv fv bv iv ov q qb M :=
  ⟨(hb.block b h.lt).trans h.cell, h.own.below hb, h.bel.trans (hb.mono h.bel.size), h.lo⟩
theorem Doer.below {w0 W W' : World} {b : Nat} {pv : Value} {M : Mach} (h : Doer w0 W b pv M) (hb : Below W.heap.size W W') : Doer w0 W' b pv M := by
  obtain ⟨fv, bv, iv, ov, q, qb, h⟩ := h
  exact ⟨fv, bv, iv, ov, q, qb, h.below hb⟩
theorem Doer.bel {w0 W : World} {b : Nat} {pv : Value} {M : Mach} (h : Doer w0 W b pv M) : Below w0.heap.size w0 W := by
  obtain ⟨fv, bv, iv, ov, q, qb, h⟩ := h
  exact h.bel
structure DIn (w0 W : World) (b : Nat) (pv : Value) (M : Mach) (D : List Frm) (x : Frm) (g cap : Nat) (bv iv ov : Value) (q : List FV) (c : FV) (qb : List Value) : Prop where
  at_ : DAt w0 W b pv (.slice (some ⟨g, 0, none⟩) (D.length + 1) cap) bv iv ov (q ++ [c]) qb M
  fr : M.frames = D ++ [x]
  len : q.length = D.length
  fn : c.fn = x.fn
  pc : c.pc = x.pc
  c0 : W.cell? ⟨g, D.length * 4, none⟩ = some (.int .i64 x.fn)
  c1 : W.cell? ⟨g, D.length * 4 + 1, none⟩ = some (.int .i64 x.pc)
  c2 : W.cell? ⟨g, D.length * 4 + 2, none⟩ = some c.lv
  c3 : W.cell? ⟨g, D.length * 4 + 3, none⟩ = some c.sv
  gb : ∃ cur, W.heap[g]? = some (.cells cur 89 (0, 0))
  loc : W.ownsRow w0.heap.size 113 2 c.lv x.loc.length (valCells x.loc)
  stk : W.ownsRow w0.heap.size 113 2 c.sv x.stk.length (valCells x.stk)
theorem Doer.open {w0 W : World} {b : Nat} {pv : Value} {M : Mach} {D : List Frm} {x : Frm} (h : Doer w0 W b pv M) (hF : M.frames = D ++ [x]) : ∃ g cap bv iv ov q c qb, DIn w0 W b pv M D x g cap bv iv ov q c qb := by
  obtain ⟨fv, bv, iv, ov, q', qb, h⟩ := h
  have hl := h.own.frs.len
  rw [hF] at hl
  obtain ⟨q, c, rfl⟩ : ∃ q c, q' = q ++ [c] := by
    rcases List.eq_nil_or_concat q' with h0 | ⟨q, c, h0⟩
    · subst h0; simp at hl
    · exact ⟨q, c, by simpa using h0⟩
  have hlen : q.length = D.length := by simpa using hl
  have hrow := h.own.fr
  have hn : (q ++ [c]).length = D.length + 1 := by simp [hlen]
  rcases hrow.2 with ⟨_, h0⟩ | ⟨g, cap, cur, hv, hB, hg, h1, h2, h3, h4⟩
  · omega
  have hfrs := h.own.frs
  rw [hF] at hfrs
  have hx : (D ++ [x])[q.length]? = some x := by rw [hlen]; exact xbjZ _ _
  obtain ⟨e1, e2⟩ := hfrs.nums q.length c x (xbjZ _ _) hx
  obtain ⟨a0, a1, a2, a3⟩ := xejZ (q ++ [c]) q.length c (xbjZ _ _)
  obtain ⟨r1, r2⟩ := xekZ (q ++ [c]) q.length c (xbjZ _ _)
  obtain ⟨v1, v2⟩ := xkgZ (D ++ [x]) q.length x hx
  have o1 := hfrs.rows.each _ _ _ r1 v1
  have o2 := hfrs.rows.each _ _ _ r2 v2
  rw [← h4, List.getElem?_take_of_lt (by omega)] at a0 a1 a2 a3
  rw [hn] at hv
  subst hv
  refine ⟨g, cap, bv, iv, ov, q, c, qb, h, hF, hlen, e1, e2, ?_, ?_, ?_, ?_, ⟨_, hg⟩, o1, o2⟩
  · rw [xaaZ hg, ← e1, ← hlen]; simpa using a0
  · rw [xaaZ hg, ← e2, ← hlen]; simpa using a1
  · rw [xaaZ hg, ← hlen]; simpa using a2
  · rw [xaaZ hg, ← hlen]; simpa using a3
section
variable {w0 W : World} {b : Nat} {pv : Value} {M : Mach} {D : List Frm} {x : Frm} {g cap : Nat} {bv iv ov : Value} {q : List FV} {c : FV} {qb : List Value}
theorem DIn.below (h : DIn w0 W b pv M D x g cap bv iv ov q c qb) {W' : World} (hb : Below W.heap.size W W') : DIn w0 W' b pv M D x g cap bv iv ov q c qb := by
  obtain ⟨cur, hg⟩ := h.gb
  have hlt := xacZ hg
  exact ⟨h.at_.below hb, h.fr, h.len, h.fn, h.pc, (hb.cell (p := ⟨g, _, none⟩) hlt).trans h.c0, (hb.cell (p := ⟨g, _, none⟩) hlt).trans h.c1, (hb.cell (p := ⟨g, _, none⟩) hlt).trans h.c2, (hb.cell (p := ⟨g, _, none⟩) hlt).trans h.c3, ⟨cur, (hb.block g hlt).trans hg⟩, xayZ h.loc fun k hk => hb.block k (h.loc.lt k hk).2, xayZ h.stk fun k hk => hb.block k (h.stk.lt k hk).2⟩
theorem DIn.glo (h : DIn w0 W b pv M D x g cap bv iv ov q c qb) : w0.heap.size ≤ g := (h.at_.own.fr.lt g rfl).1
theorem DIn.gne (h : DIn w0 W b pv M D x g cap bv iv ov q c qb) : b ≠ g := fun e => by
  obtain ⟨cur, hg⟩ := h.gb
  have := h.at_.cell
  rw [e, hg] at this
  simp at this
theorem DIn.doer (h : DIn w0 W b pv M D x g cap bv iv ov q c qb) : Doer w0 W b pv M := ⟨_, _, _, _, _, _, h.at_⟩
theorem DIn.fr_row (h : DIn w0 W b pv M D x g cap bv iv ov q c qb) : W.ownsRow w0.heap.size 89 4 (.slice (some ⟨g, 0, none⟩) (D.length + 1) cap) (D.length + 1) (fCells (q ++ [c])) := by
  have := h.at_.own.fr
  rw [show (q ++ [c]).length = D.length + 1 by simp [h.len]] at this
  exact this
theorem DIn.setStk (h : DIn w0 W b pv M D x g cap bv iv ov q c qb) {W2 : World} {sv : Value} {s : List Val} (hg : W.grownBy W2 c.sv.ownBlock) (hr : W2.ownsRow w0.heap.size 113 2 sv s.length (valCells s)) (hat : ∀ z, sv.ownBlock = some z → c.sv.ownBlock = some z ∨ W.heap.size ≤ z) : Doer w0 (W2.setCell ⟨g, D.length * 4 + 3, none⟩ sv) b pv { M with frames := D ++ [{ x with stk := s }] } := by
  have hty : TyRow W c.sv.ownBlock 113 := xd1Z h.stk
  have hA := h.at_
  have hfr2 := xarZ h.fr_row hg hty (by decide)
  have hgs := xamZ W2 ⟨g, D.length * 4 + 3, none⟩ sv
  obtain ⟨cur, hcur⟩ := h.gb
  have hg2 : W2.heap[g]? = some (.cells cur 89 (0, 0)) := (hg.block g (xacZ hcur) (fun e => by
    obtain ⟨cs, fz, hh⟩ := hty g e.symm
    rw [hcur] at hh; simp at hh)).trans hcur
  have hty2 : TyRow W2 (some g) 89 := xa5Z hg2
  have hcell2 : W2.heap[b]? = _ := (hg.block b hA.lt (fun e => by
    obtain ⟨cs, fz, hh⟩ := hty b e.symm
    rw [hA.cell] at hh; simp at hh)).trans hA.cell
  have hfrs := hA.own.frs
  rw [h.fr] at hfrs
  have hrow := xdwZ hfr2 (D.length * 4 + 3) sv
  have e1 : (fCells (q ++ [c])).set (D.length * 4 + 3) sv = fCells (q ++ [{ c with sv := sv }]) := by
    rw [xb3Z, xb3Z, List.set_append_right _ _ (by rw [xb4Z, h.len]; omega), xb4Z, h.len]
    simp [fCells]
  rw [e1] at hrow
  refine ⟨.slice (some ⟨g, 0, none⟩) (D.length + 1) cap, bv, iv, ov, q ++ [{ c with sv := sv }], qb, ⟨(hgs.block b (xacZ hcell2) (fun e => h.gne (by simpa using e))).trans hcell2, ⟨?_, ?_, ?_, ?_⟩, ?_, hA.lo⟩⟩
  · have e9 : (q ++ [{ c with sv := sv }]).length = D.length + 1 := by simp [h.len]
    rw [e9]
    exact hrow
  · exact (hfrs.stk hg hr hat).keep hgs hty2 (by decide)
  · exact xarZ (xarZ hA.own.bl hg hty (by decide)) hgs hty2 (by decide)
  · exact (hA.own.rows.keep hg hty (by decide)).keep hgs hty2 (by decide)
  · exact (hA.bel.grown hg hA.bel.size (fun k hk => (h.stk.lt k hk).1)).setCell h.glo _
theorem DIn.setPc (h : DIn w0 W b pv M D x g cap bv iv ov q c qb) (n : Int) : Doer w0 (W.setCell ⟨g, D.length * 4 + 1, none⟩ (.int .i64 n)) b pv { M with frames := D ++ [{ x with pc := n }] } := by
  have hA := h.at_
  have hgs := xamZ W ⟨g, D.length * 4 + 1, none⟩ (.int .i64 n)
  obtain ⟨cur, hcur⟩ := h.gb
  have hty2 : TyRow W (some g) 89 := xa5Z hcur
  have hfrs := hA.own.frs
  rw [h.fr] at hfrs
  have hrow := xdwZ h.fr_row (D.length * 4 + 1) (.int .i64 n)
  have e1 : (fCells (q ++ [c])).set (D.length * 4 + 1) (.int .i64 n) = fCells (q ++ [{ c with pc := n }]) := by
    rw [xb3Z, xb3Z, List.set_append_right _ _ (by rw [xb4Z, h.len]; omega), xb4Z, h.len]
    simp [fCells]
  rw [e1] at hrow
  refine ⟨.slice (some ⟨g, 0, none⟩) (D.length + 1) cap, bv, iv, ov, q ++ [{ c with pc := n }], qb, ⟨(hgs.block b hA.lt (fun e => h.gne (by simpa using e))).trans hA.cell, ⟨?_, ?_, ?_, ?_⟩, ?_, hA.lo⟩⟩
  · have e9 : (q ++ [{ c with pc := n }]).length = D.length + 1 := by simp [h.len]
    rw [e9]
    exact hrow
  · exact (hfrs.pc n).keep hgs hty2 (by decide)
  · exact xarZ hA.own.bl hgs hty2 (by decide)
  · exact hA.own.rows.keep hgs hty2 (by decide)
  · exact hA.bel.setCell h.glo _
theorem DIn.setLoc (h : DIn w0 W b pv M D x g cap bv iv ov q c qb) {W2 : World} {s : List Val} (hg : W.grownBy W2 c.lv.ownBlock) (hr : W2.ownsRow w0.heap.size 113 2 c.lv s.length (valCells s)) : Doer w0 W2 b pv { M with frames := D ++ [{ x with loc := s }] } := by
  have hty : TyRow W c.lv.ownBlock 113 := xd1Z h.loc
  have hA := h.at_
  have hcell2 : W2.heap[b]? = _ := (hg.block b hA.lt (fun e => by
    obtain ⟨cs, fz, hh⟩ := hty b e.symm
    rw [hA.cell] at hh; simp at hh)).trans hA.cell
  have hfrs := hA.own.frs
  rw [h.fr] at hfrs
  refine ⟨_, bv, iv, ov, q ++ [c], qb, ⟨hcell2, ⟨xarZ hA.own.fr hg hty (by decide), hfrs.loc hg hr, xarZ hA.own.bl hg hty (by decide), hA.own.rows.keep hg hty (by decide)⟩, hA.bel.grown hg hA.bel.size (fun k hk => (h.loc.lt k hk).1), hA.lo⟩⟩
end
theorem xalZ (b g n cap : Nat) (w : World) (h0 : w.cell? ⟨b, 0, none⟩ = some (.slice (some ⟨g, 0, none⟩) (n + 1) cap)) (hn : n ≤ 100) : Calls Tryz.prog 144 #[.pointer (some ⟨b, 0, none⟩)] w fun e w' => e = .returned (.pointer (some ⟨g, n * 4, none⟩)) ∧ Below w.heap.size w w' := by
  have h1 : (n : Int) < ((n + 1 : Nat) : Int) := by omega
  go_enter Tryz.func144, Tryz.ntmps144
  go_wp2_with fail
  go_quiet (fail)
  go_wp2
  go_ret
  exact ⟨rfl, rfl, rfl, rfl, Nat.le_refl _, fun _ _ => rfl⟩
theorem xgyZ {W : World} {b : Nat} {l : List Val} {n cap : Nat} {t : TypeId} {fz : Nat × Nat} (h : W.heap[b]? = some (.cells (valCells l).toArray t fz)) (hn : n = l.length) (hm : l.length ≤ maxLen) : ValsAt W (.slice (some ⟨b, 0, none⟩) n cap) l := by
  subst hn
  refine ⟨_, cap, rfl, hm, fun k o hk => ⟨b, 0, rfl, xacZ h, ?_, ?_⟩⟩
  · rw [xaaZ h]; simpa using (xcxZ l k o hk).1
  · rw [xaaZ h]; simpa using (xcxZ l k o hk).2
theorem DIn.fcell {w0 W : World} {b : Nat} {pv : Value} {M : Mach} {D : List Frm} {x : Frm} {g cap : Nat} {bv iv ov : Value} {q : List FV} {c : FV} {qb : List Value} (h : DIn w0 W b pv M D x g cap bv iv ov q c qb) : W.cell? ⟨b, 0, none⟩ = some (.slice (some ⟨g, 0, none⟩) (D.length + 1) cap) := by
  rw [xaaZ h.at_.cell]; rfl
theorem bel_set {B : Nat} {w W : World} (h : Below B w W) (a : Addr) (u : Value) : Below B (w.setCell a u) (W.setCell a u) := by
  refine ⟨h.os, h.tape, h.output, by simpa [World.setCell] using h.size, fun k hk => ?_⟩
  simp only [World.setCell, Array.getElem?_modify]
  rw [h.block k hk]
def xhrZ (b : Nat) (w w' : World) : Prop := ∀ g n c, w.cell? ⟨b, 0, none⟩ = some (.slice (some ⟨g, 0, none⟩) n c) → w.grownBy w' (some g) ∧ ∀ j, j ≠ (n - 1) * 4 + 3 → w'.cell? ⟨g, j, none⟩ = w.cell? ⟨g, j, none⟩
def StkCut (b : Nat) (w w' : World) : Prop := ∀ g n c gs m cs, w.cell? ⟨b, 0, none⟩ = some (.slice (some ⟨g, 0, none⟩) n c) → w.cell? ⟨g, (n - 1) * 4 + 3, none⟩ = some (.slice (some ⟨gs, 0, none⟩) m cs) → w'.cell? ⟨g, (n - 1) * 4 + 3, none⟩ = some (.slice (some ⟨gs, 0, none⟩) (m - 1) cs)
def Oth (w w' : World) : Prop := ∀ (k : Nat) (cs : Array Value) (t : TypeId) (fz : Nat × Nat), w.heap[k]? = some (Obj.cells cs t fz) → t ≠ 89 → t ≠ 113 → w'.heap[k]? = some (Obj.cells cs t fz)
def OnlyFS (b : Nat) (w w' : World) : Prop := ∀ g n c sv, w.cell? ⟨b, 0, none⟩ = some (.slice (some ⟨g, 0, none⟩) n c) → w.cell? ⟨g, (n - 1) * 4 + 3, none⟩ = some sv → (∀ k : Nat, k < w.heap.size → k ≠ g → some k ≠ sv.ownBlock → w'.heap[k]? = w.heap[k]?) ∧ ∀ j, j ≠ (n - 1) * 4 + 3 → w'.cell? ⟨g, j, none⟩ = w.cell? ⟨g, j, none⟩
theorem xd8Z {W : World} {B : Nat} {e : TypeId} {size n g : Nat} {v : Value} {xs : List Value} (h : W.ownsRow B e size v n xs) (hg : v.ownBlock = some g) : ∃ cur, W.heap[g]? = some (.cells cur e (0, 0)) := by
  rcases h.2 with ⟨rfl, _⟩ | ⟨g', cap, cur, rfl, _, hh, _⟩
  · cases hg
  · cases hg; exact ⟨_, hh⟩
theorem DIn.ap {w0 W : World} {b : Nat} {pv : Value} {M : Mach} {D : List Frm} {x : Frm} {g cap : Nat} {bv iv ov : Value} {q : List FV} {c : FV} {qb : List Value} (h : DIn w0 W b pv M D x g cap bv iv ov q c qb) {z : Nat} (hz : c.lv.ownBlock = some z) : some z ≠ c.sv.ownBlock := fun e => by
  obtain ⟨r1, r2⟩ := xekZ (q ++ [c]) q.length c (xbjZ _ _)
  have := h.at_.own.frs.rows.apart _ _ _ _ z r1 r2 hz e.symm
  omega
theorem xkxZ (w0 : World) (b : Nat) (pv : Value) (M : Mach) (D : List Frm) (x : Frm) (s : List Val) (v : Val) (w : World) (h : Doer w0 w b pv M) (hF : M.frames = D ++ [x]) (hs : x.stk = s ++ [v]) (hD : D.length ≤ 100) (hl : s.length ≤ 100) : Calls Tryz.prog 186 #[.pointer (some ⟨b, 0, none⟩)] w fun e w' => e = .returned (.agg #[.bool v.1, .int .i64 v.2]) ∧ Doer w0 w' b pv { M with frames := D ++ [{ x with stk := s }] } ∧ xhrZ b w w' ∧ StkCut b w w' := by
  obtain ⟨g, cap, bv, iv, ov, q, c, qb, H⟩ := h.open hF
  obtain ⟨W1, hW1⟩ : ∃ W1, w.alloc (.cells #[.bool false, .int .i64 0] 113) = W1 := ⟨_, rfl⟩
  have b1 : Below w.heap.size w W1 := by rw [← hW1]; exact (Below.refl _ w).alloc (Nat.le_refl _) _
  have x1 : W1.heap[w.heap.size]? = some (.cells #[.bool false, .int .i64 0] 113 (0, 0)) := by rw [← hW1]; exact World.alloc_heap_new w _
  have HI := hideP (xalZ b g D.length cap W1 (H.below b1).fcell hD)
  have hbw : g < w.heap.size := by obtain ⟨cur, hg⟩ := H.gb; exact xacZ hg
  go_enter Tryz.func186, Tryz.ntmps186
  go_wp2_with fail
  refine HI.out.mono ?_
  rintro e w2 ⟨rfl, b2⟩
  have b12 := xadZ b1 b2
  have H2 := H.below b12
  have x2 := (b2.block _ (xacZ x1)).trans x1
  have c0 := xaaZ x2 0
  have c1 := xaaZ x2 1
  simp at c0 c1
  have z0 := Lib.frozen_of_heap x2 0
  have z1 := Lib.frozen_of_heap x2 1
  have hst := H2.stk
  rw [hs] at hst
  have hn : (s ++ [v]).length = s.length + 1 := by simp
  rw [hn] at hst
  obtain ⟨gs, caps, hsv⟩ := ownsRow_succ hst
  rw [hsv] at hst
  have c3 := H2.c3
  rw [hsv] at c3
  obtain ⟨cur, hg⟩ := H2.gb
  have z3 := Lib.frozen_of_heap hg (D.length * 4 + 3)
  obtain ⟨ps, cps, hps, hpm, hpc⟩ := xcdZ (l := s ++ [v]) (by rw [hn]; exact hst)
  rw [hn] at hps
  cases hps
  obtain ⟨gb, off, hpp, hgl, d0, d1⟩ := hpc s.length v (xbjZ _ _)
  cases hpp
  have hcap : s.length + 1 ≤ caps := by
    rcases hst.2 with ⟨h1, _⟩ | ⟨g', cap', cur', h1, _, _, h4, _⟩
    · cases h1
    · cases h1; exact h4
  have hne : ¬ g = w.heap.size := by omega
  have hgsw : gs < w.heap.size := by
    have := (H.stk.lt gs (by rw [hsv]; rfl)).2
    exact this
  have HX2 := hideP x2
  have HST := hideP hst
  have HH := hideP H
  have HG := hideP hg
  simp only [Nat.zero_add] at d0 d1
  have hsl : (s.length : Int) < ((s.length + 1 : Nat) : Int) := by omega
  have hne' : ¬ w.heap.size = g := by omega
  have y0 := fun o => xabZ c0 o
  have y1 := fun o => xabZ c1 o
  have y3 := fun o => xabZ c3 o
  have u0 := fun o => Lib.frozen_of_heap (xajZ x2 o) 0
  have u1 := fun o => Lib.frozen_of_heap (xajZ x2 o) 1
  have u3 := fun o => Lib.frozen_of_heap (xajZ hg o) (D.length * 4 + 3)
  clear HI H x1 x2 hst H2 hg hpc hpm h hF hsl
  go_wp2
  refine bodyPost_ret (v := .agg #[.bool v.1, .int .i64 v.2]) (by simp [results, Tryz.results186, go_sem, y0, y1, hne, hne']) rfl ⟨rfl, ?_, ?_, ?_⟩
  rotate_right
  · intro g' n' c' gs' m' cs' h1 h2
    rw [HH.out.fcell] at h1
    cases h1
    rw [Nat.add_sub_cancel, HH.out.c3, hsv] at h2
    cases h2
    rw [Nat.add_sub_cancel, Nat.add_sub_cancel]
    have hgl : g < (w2.alloc (.cells #[.bool v.1, .int .i64 v.2] 113)).heap.size := by have := b12.size; simp; omega
    have e1 : (((w2.alloc (.cells #[.bool v.1, .int .i64 v.2] 113)).setCell ⟨g, D.length * 4 + 3, none⟩ (.slice (some ⟨gs, 0, none⟩) s.length caps)).cell? ⟨g, D.length * 4 + 3, none⟩) = some (.slice (some ⟨gs, 0, none⟩) s.length caps) := World.cell?_setCell_same _ _ _ (y3 _)
    exact ((World.cell?_of_block (Below.heap_setCell _ _ _ g hne)).trans ((World.cell?_of_block (Below.heap_setCell _ _ _ g hne)))).trans e1
  rotate_left
  · intro g' n' c' hg'
    rw [HH.out.fcell] at hg'
    cases hg'
    refine ⟨?_, fun j hj => ?_⟩
    rotate_left
    · have hj' : j ≠ D.length * 4 + 3 := by simpa using hj
      have e1 : (((w2.alloc (.cells #[.bool v.1, .int .i64 v.2] 113)).setCell ⟨g, D.length * 4 + 3, none⟩ (.slice (some ⟨gs, 0, none⟩) s.length caps)).cell? ⟨g, j, none⟩) = w.cell? ⟨g, j, none⟩ := by
        rw [World.cell?_setCell_other _ _ _ _ (fun e => hj' (by cases e; rfl))]
        exact (b12.alloc b12.size _).cell (p := ⟨g, j, none⟩) hbw
      exact ((World.cell?_of_block (Below.heap_setCell _ _ _ g hne)).trans ((World.cell?_of_block (Below.heap_setCell _ _ _ g hne)))).trans e1
    refine xk3Z (xk3Z ((xhgZ (b12.alloc b12.size _) (some g)).trans (xamZ _ ⟨g, D.length * 4 + 3, none⟩ _)) (xamZ _ ⟨w.heap.size, 0, none⟩ _) (fun j hj => ?_)) (xamZ _ ⟨w.heap.size, 1, none⟩ _) (fun j hj => ?_)
    · cases hj; exact Nat.le_refl _
    · cases hj; exact Nat.le_refl _
  have hst0 := HH.out.stk
  rw [hs, hn, hsv] at hst0
  have hcut := row_cut hst0 s.length (by omega)
  rw [xnnZ, List.take_append_of_le_length (Nat.le_refl _), List.take_of_length_le (Nat.le_refl _)] at hcut
  have hD1 := HH.out.setStk (W2 := w) (World.grownBy.refl _ _) hcut (fun z hz => .inl (by rw [hsv]; exact hz))
  refine hD1.below ?_
  have hsz : (w.setCell ⟨g, D.length * 4 + 3, none⟩ (.slice (some ⟨gs, 0, none⟩) s.length caps)).heap.size = w.heap.size := by simp [World.setCell]
  rw [hsz]
  exact ((bel_set (b12.alloc b12.size _) _ _).setCell (p := ⟨w.heap.size, 0, none⟩) (Nat.le_refl _) _).setCell (p := ⟨w.heap.size, 1, none⟩) (Nat.le_refl _) _
theorem xaxZ (w0 : World) (b : Nat) (pv : Value) (M : Mach) (D : List Frm) (x : Frm) (s : List Val) (v : Val) (w : World) (h : Doer w0 w b pv M) (hF : M.frames = D ++ [x]) (hs : x.stk = s ++ [v]) (hD : D.length ≤ 100) (hl : s.length ≤ 100) : Calls Tryz.prog 186 #[.pointer (some ⟨b, 0, none⟩)] w fun e w' => e = .returned (.agg #[.bool v.1, .int .i64 v.2]) ∧ Doer w0 w' b pv { M with frames := D ++ [{ x with stk := s }] } ∧ xhrZ b w w' :=
  (xkxZ w0 b pv M D x s v w h hF hs hD hl).mono fun _ _ h => ⟨h.1, h.2.1, h.2.2.1⟩
theorem xfqZ (w0 : World) (b : Nat) (pv : Value) (M : Mach) (D : List Frm) (x : Frm) (u : Value) (l : List Val) (w : World) (h : Doer w0 w b pv M) (hF : M.frames = D ++ [x]) (hu : ValsAt w u l) (hnl : NilOk u) (hD : D.length ≤ 100) (hl : x.stk.length ≤ 100) (hll : l.length ≤ 100) : Calls Tryz.prog 187 #[.pointer (some ⟨b, 0, none⟩), u] w fun e w' => e = .returned (.tuple #[]) ∧ Doer w0 w' b pv { M with frames := D ++ [{ x with stk := x.stk ++ l }] } ∧ Oth w w' ∧ OnlyFS b w w' := by
  obtain ⟨g, cap, bv, iv, ov, q, c, qb, H⟩ := h.open hF
  have HI := hideP (xalZ b g D.length cap w H.fcell hD)
  obtain ⟨p', c', hu1, _, _⟩ := id hu
  subst hu1
  go_enter Tryz.func187, Tryz.ntmps187
  go_wp2_with fail
  refine HI.out.mono ?_
  rintro e w2 ⟨rfl, b2⟩
  have H2 := H.below b2
  have HU := hideP (hu.below b2)
  have c3 := H2.c3
  obtain ⟨cur, hg⟩ := H2.gb
  have hst := H2.stk
  obtain ⟨ps, cs, hsv⟩ := xagZ hst
  rw [hsv] at c3
  have hst' := hst
  rw [hsv] at hst'
  have HST := hideP hst'
  have HH := hideP H2
  have HG := hideP hg
  have hb2 := H2.at_.bel.size
  have HF0 := hideP H.fcell
  have HC0 := hideP H.c3
  have HGW : Hid (g < w.heap.size) := by obtain ⟨cur, hg⟩ := H.gb; exact xacZ hg
  clear HI H hst hst' H2 hg hu h hF
  go_wp2_with (at_builtin; refine xeuZ rfl _ _ rfl w0.heap.size _ _ _ rfl HST.out _ l rfl HU.out hnl (by unfold maxLen; omega) (by omega) hb2 ?_; intro v3 w3 hown3 hg3 hat3; obtain ⟨p3, c3', hv3⟩ := xagZ hown3; subst hv3; have hgg := (hg3.block g (xacZ HG.out) (fun e => by have := xcyZ HST.out HG.out (by decide); exact this e)).trans HG.out; have f3 := Lib.frozen_of_heap hgg (D.length * 4 + 3); have c4 := (xaaZ hgg (D.length * 4 + 3)).trans ((xaaZ HG.out (D.length * 4 + 3)).symm.trans c3); have HO3 := hideP hown3; have HG3 := hideP hg3; have HAT := hideP hat3; clear hown3 hg3 hat3 hgg)
  go_end0
  refine ⟨rfl, HH.out.setStk (by rw [hsv]; exact HG3.out) ?_ (fun z hz => ?_), ?_, ?_⟩
  rotate_right
  · intro g' n' c' sv' h1 h2
    rw [HF0.out] at h1
    cases h1
    rw [Nat.add_sub_cancel, HC0.out] at h2
    cases h2
    have hgl := xacZ HG.out
    refine ⟨fun k hk hkg hks => ?_, fun j hj => ?_⟩
    · have k3 := (HG3.out.block k (Nat.lt_of_lt_of_le hk b2.size) (by rw [hsv] at hks; exact hks)).trans (b2.block k hk)
      exact ((xamZ w3 ⟨g, D.length * 4 + 3, none⟩ _).block k (Nat.lt_of_lt_of_le (Nat.lt_of_lt_of_le hk b2.size) HG3.out.size) (fun e => hkg (by simpa using e))).trans k3
    · have hj' : j ≠ D.length * 4 + 3 := by simpa using hj
      rw [World.cell?_setCell_other _ _ _ _ (fun e => hj' (by cases e; rfl))]
      exact (World.cell?_of_block (a := ⟨g, j, none⟩) (HG3.out.block g hgl (xcyZ HST.out HG.out (by decide)))).trans (b2.cell (p := ⟨g, j, none⟩) HGW.out)
  rotate_right
  · intro k cs t fz hk t1 t2
    have k2 := (b2.block k (xacZ hk)).trans hk
    have k3 := (HG3.out.block k (xacZ k2) (xcyZ HST.out k2 t2)).trans k2
    refine ((xamZ w3 ⟨g, D.length * 4 + 3, none⟩ _).block k (xacZ k3) (fun e => ?_)).trans k3
    have e' : k = g := by simpa using e
    rw [e', HG.out] at k2
    simp at k2
    exact t1 k2.2.1.symm
  · have := HO3.out
    rw [List.length_append, xheZ]
    exact this
  · rcases HAT.out with h1 | h1
    · exact .inl (by rw [hsv]; exact h1.symm.trans hz)
    · right
      rw [h1] at hz
      cases hz
      exact Nat.le_refl _
theorem xbzZ (w0 : World) (b : Nat) (pv : Value) (M : Mach) (D : List Frm) (x : Frm) (n : Int) (w : World) (h : Doer w0 w b pv M) (hF : M.frames = D ++ [x]) (hD : D.length ≤ 100) (hl : x.stk.length ≤ 100) : Calls Tryz.prog 184 #[.pointer (some ⟨b, 0, none⟩), .int .i64 n] w fun e w' => e = .returned (.tuple #[]) ∧ Doer w0 w' b pv { M with frames := D ++ [{ x with stk := x.stk ++ [(false, n)] }] } ∧ Oth w w' := by
  have hb : Below w.heap.size w (w.alloc (.cells #[.bool false, .int .i64 n] 113)) := (Below.refl _ w).alloc (Nat.le_refl _) _
  have HP := hideP (xfqZ w0 b pv M D x (.slice (some ⟨w.heap.size, 0, none⟩) 1 1) [(false, n)] _ (h.below hb) hF (xgyZ (World.alloc_heap_new w _) rfl (by unfold maxLen; simp)) (xazZ _ _ _) hD hl (by simp))
  clear h
  go_enter Tryz.func184, Tryz.ntmps184
  go_wp2_with (go_at_call 187; refine HP.out.mono ?_; rintro e w2 ⟨rfl, h2, o2, -⟩; have H2 := hideP h2; have O2 := hideP o2; clear h2 o2)
  go_end0
  exact ⟨rfl, H2.out, fun k cs t fz hk t1 t2 => O2.out k cs t fz (xajZ hk _) t1 t2⟩
theorem xjzZ (w0 : World) (b : Nat) (pv : Value) (M : Mach) (D : List Frm) (x : Frm) (n : Int) (w : World) (h : Doer w0 w b pv M) (hF : M.frames = D ++ [x]) (hD : D.length ≤ 100) (hl : x.stk.length ≤ 100) : Calls Tryz.prog 185 #[.pointer (some ⟨b, 0, none⟩), .int .i64 n] w fun e w' => e = .returned (.tuple #[]) ∧ Doer w0 w' b pv { M with frames := D ++ [{ x with stk := x.stk ++ [(true, n)] }] } ∧ Oth w w' := by
  have hb : Below w.heap.size w (w.alloc (.cells #[.bool true, .int .i64 n] 113)) := (Below.refl _ w).alloc (Nat.le_refl _) _
  have HP := hideP (xfqZ w0 b pv M D x (.slice (some ⟨w.heap.size, 0, none⟩) 1 1) [(true, n)] _ (h.below hb) hF (xgyZ (World.alloc_heap_new w _) rfl (by unfold maxLen; simp)) (xazZ _ _ _) hD hl (by simp))
  clear h
  go_enter Tryz.func185, Tryz.ntmps185
  go_wp2_with (go_at_call 187; refine HP.out.mono ?_; rintro e w2 ⟨rfl, h2, o2, -⟩; have H2 := hideP h2; have O2 := hideP o2; clear h2 o2)
  go_end0
  exact ⟨rfl, H2.out, fun k cs t fz hk t1 t2 => O2.out k cs t fz (xajZ hk _) t1 t2⟩
end Go.Proofs.YtmjjkenblfndgaaGreat


/- stride's ops: move, reckon, goOn without calls and returns. -/
namespace Go.Proofs.YtmjjkenblfndgaaGreat
open Go.RowKit
set_option linter.unusedSimpArgs false
set_option linter.unusedVariables false
theorem boxOp (w : World) (o : Obj) : Below w.heap.size w (w.alloc o) := (Below.refl _ w).alloc (Nat.le_refl _) o
theorem xcsZ (a : Bool) (n : Int) (w : World) : (Instr.field 113 (.agg #[.bool a, .int .i64 n]) 1).run Tryz.prog w = .ok (.int .i64 n) w := by kernel_rfl
theorem new3 (w : World) (a b c : Obj) : (((w.alloc a).alloc b).alloc c).heap[w.heap.size + 1 + 1]? = some c := by
  have := World.alloc_heap_new ((w.alloc a).alloc b) c
  simpa using this
theorem xbmZ {r : List Val} {v : Val} {s : List Val} (h : s = r ++ [v]) : r.length + 1 = s.length := by rw [h]; simp
theorem mv1 (w0 : World) (b : Nat) (pv : Value) (M : Mach) (D : List Frm) (x : Frm) (A : Int) (w : World) (h : Doer w0 w b pv M) (hF : M.frames = D ++ [x]) (hD : D.length ≤ 100) (hl : x.stk.length ≤ 90)  : Calls Tryz.prog 145 #[.pointer (some ⟨b, 0, none⟩), .agg #[.int .i64 1, .int .i64 A]] w fun e w' => e = .returned (.tuple #[]) ∧ Doer w0 w' b pv { M with frames := D ++ [{ x with stk := x.stk ++ [(false, A)] }] } := by
  have H1 := hideP (h.below (boxOp w (.cells #[.int .i64 1, .int .i64 A] 86)))
  clear h
  go_enter Tryz.func145, Tryz.ntmps145
  go_wp2_with (go_at_call 184; refine (xbzZ w0 b pv M D x A _ H1.out hF hD (by omega)).mono ?_; rintro e w2 ⟨rfl, h2, -⟩; have H2 := hideP h2; clear h2)
  go_end0
  exact ⟨rfl, H2.out⟩
theorem mv18 (w0 : World) (b : Nat) (pv : Value) (M : Mach) (D : List Frm) (x : Frm) (A : Int) (w : World) (h : Doer w0 w b pv M) (hF : M.frames = D ++ [x]) (hD : D.length ≤ 100) (hl : x.stk.length ≤ 90)  : Calls Tryz.prog 145 #[.pointer (some ⟨b, 0, none⟩), .agg #[.int .i64 18, .int .i64 A]] w fun e w' => e = .returned (.tuple #[]) ∧ Doer w0 w' b pv { M with frames := D ++ [{ x with stk := x.stk ++ [(true, 0)] }] } := by
  have H1 := hideP (h.below (boxOp w (.cells #[.int .i64 18, .int .i64 A] 86)))
  clear h
  go_enter Tryz.func145, Tryz.ntmps145
  go_wp2_with (go_at_call 185; refine (xjzZ w0 b pv M D x 0 _ H1.out hF hD (by omega)).mono ?_; rintro e w2 ⟨rfl, h2, -⟩; have H2 := hideP h2; clear h2)
  go_end0
  exact ⟨rfl, H2.out⟩
theorem mv2 (w0 : World) (b : Nat) (pv : Value) (M : Mach) (D : List Frm) (x : Frm) (r : List Val) (v : Val) (A : Int) (w : World) (h : Doer w0 w b pv M) (hF : M.frames = D ++ [x]) (hD : D.length ≤ 100) (hl : x.stk.length ≤ 90) (hs : x.stk = r ++ [v]) : Calls Tryz.prog 145 #[.pointer (some ⟨b, 0, none⟩), .agg #[.int .i64 2, .int .i64 A]] w fun e w' => e = .returned (.tuple #[]) ∧ Doer w0 w' b pv { M with frames := D ++ [{ x with stk := r }] } := by
  have H1 := hideP (h.below (boxOp w (.cells #[.int .i64 2, .int .i64 A] 86)))
  have hrl := xbmZ hs
  clear h
  go_enter Tryz.func145, Tryz.ntmps145
  go_wp2_with (go_at_call 186; refine (xaxZ w0 b pv M D x r v _ H1.out hF hs hD (by omega)).mono ?_; rintro e w2 ⟨rfl, h2, o2⟩; have H2 := hideP h2; have O2 := hideP o2; clear h2 o2)
  go_end0
  exact ⟨rfl, H2.out⟩
theorem mv3 (w0 : World) (b : Nat) (pv : Value) (M : Mach) (D : List Frm) (x : Frm) (r : List Val) (v : Val) (A : Int) (w : World) (h : Doer w0 w b pv M) (hF : M.frames = D ++ [x]) (hD : D.length ≤ 100) (hl : x.stk.length ≤ 90) (hs : x.stk = r ++ [v]) : Calls Tryz.prog 145 #[.pointer (some ⟨b, 0, none⟩), .agg #[.int .i64 3, .int .i64 A]] w fun e w' => e = .returned (.tuple #[]) ∧ Doer w0 w' b pv { M with frames := D ++ [{ x with stk := r ++ [v, v] }] } := by
  have H1 := hideP (h.below (boxOp w (.cells #[.int .i64 3, .int .i64 A] 86)))
  have hrl := xbmZ hs
  clear h
  go_enter Tryz.func145, Tryz.ntmps145
  go_wp2_with (first
    | (go_at_call 186; refine (xaxZ w0 b pv M D x r v _ H1.out hF hs hD (by omega)).mono ?_; rintro e w2 ⟨rfl, h2, o2⟩; have H2 := hideP h2; have O2 := hideP o2; clear h2 o2)
    | fail)
  refine (xfqZ w0 b pv _ D _ _ [v, v] _ (H2.out.below (((Below.refl _ w2).alloc (Nat.le_refl _) _).alloc (by simp) _)) rfl (xgyZ (xa9Z w2 _ _) rfl (by unfold maxLen; simp)) (xazZ _ _ _) hD (by simp; omega) (by simp)).mono ?_
  rintro e w3 ⟨rfl, h3, -, -⟩
  have H3 := hideP h3
  clear h3
  go_wp2
  go_end0
  exact ⟨rfl, H3.out⟩
theorem mv4 (w0 : World) (b : Nat) (pv : Value) (M : Mach) (D : List Frm) (x : Frm) (r : List Val) (a v : Val) (A : Int) (w : World) (h : Doer w0 w b pv M) (hF : M.frames = D ++ [x]) (hD : D.length ≤ 100) (hl : x.stk.length ≤ 90) (hs : x.stk = r ++ [a, v]) : Calls Tryz.prog 145 #[.pointer (some ⟨b, 0, none⟩), .agg #[.int .i64 4, .int .i64 A]] w fun e w' => e = .returned (.tuple #[]) ∧ Doer w0 w' b pv { M with frames := D ++ [{ x with stk := r ++ [v, a] }] } := by
  have H1 := hideP (h.below (boxOp w (.cells #[.int .i64 4, .int .i64 A] 86)))
  have hs1 : x.stk = (r ++ [a]) ++ [v] := by rw [hs]; simp
  have hrl := xbmZ hs1
  simp at hrl
  clear h hs
  go_enter Tryz.func145, Tryz.ntmps145
  go_wp2_with (first
    | (go_at_call 186; refine (xaxZ w0 b pv M D x (r ++ [a]) v _ H1.out hF hs1 hD (by simp; omega)).mono ?_; rintro e w2 ⟨rfl, h2, o2⟩; have H2 := hideP h2; have O2 := hideP o2; clear h2 o2)
    | (go_at_call 186; refine (xaxZ w0 b pv _ D _ r a _ H2.out rfl rfl hD (by omega)).mono ?_; rintro e w3 ⟨rfl, h3, o3⟩; have H3 := hideP h3; have O3 := hideP o3; clear h3 o3)
    | fail)
  refine (xfqZ w0 b pv _ D _ _ [v, a] _ (H3.out.below ((((Below.refl _ w3).alloc (Nat.le_refl _) _).alloc (by simp) _).alloc (by simp; omega) _)) rfl (xgyZ (new3 w3 _ _ _) rfl (by unfold maxLen; simp)) (xazZ _ _ _) hD (by simp; omega) (by simp)).mono ?_
  rintro e w4 ⟨rfl, h4, -, -⟩
  have H4 := hideP h4
  clear h4
  go_wp2
  go_end0
  exact ⟨rfl, H4.out⟩
theorem reck1_any (a t : Int) (w : World) : Calls Tryz.prog 189 #[.int .i64 a, .int .i64 t] w fun e w' => e = .returned (.int .i64 (wrap64 (a + t))) ∧ w' = w := by
  go_enter Tryz.func189, Tryz.ntmps189
  go_wp2
  go_ret
  exact ⟨rfl, rfl⟩
theorem reck2_any (a t : Int) (w : World) : Calls Tryz.prog 190 #[.int .i64 a, .int .i64 t] w fun e w' => e = .returned (.int .i64 (wrap64 (a - t))) ∧ w' = w := by
  go_enter Tryz.func190, Tryz.ntmps190
  go_wp2
  go_ret
  exact ⟨rfl, rfl⟩
theorem reck3_any (a t : Int) (w : World) : Calls Tryz.prog 191 #[.int .i64 a, .int .i64 t] w fun e w' => e = .returned (.int .i64 (wrap64 (a * t))) ∧ w' = w := by
  go_enter Tryz.func191, Tryz.ntmps191
  go_wp2
  go_ret
  exact ⟨rfl, rfl⟩
theorem wrap32_64 (n : Int) : wrap32 (wrap64 n) = wrap32 n := by unfold wrap64 wrap32; omega
theorem xhhZ (w0 : World) (b : Nat) (pv : Value) (M : Mach) (D : List Frm) (x : Frm) (r : List Val) (a v : Val) (F : Nat) (k : Int → Int → Int) (w : World) (h : Doer w0 w b pv M) (hF : M.frames = D ++ [x]) (hD : D.length ≤ 100) (hl : x.stk.length ≤ 90) (hs : x.stk = r ++ [a, v]) (hE : Ent F) (hk : ∀ (a t : Int) (w : World), Calls Tryz.prog F #[.int .i64 a, .int .i64 t] w fun e w' => e = .returned (.int .i64 (wrap64 (k a t))) ∧ w' = w) : Calls Tryz.prog 188 #[.pointer (some ⟨b, 0, none⟩), .func (.func F) #[] #[]] w fun e w' => e = .returned (.tuple #[]) ∧ Doer w0 w' b pv { M with frames := D ++ [{ x with stk := r ++ [(false, wrap32 (k a.2 v.2))] }] } := by
  have hs1 : x.stk = (r ++ [a]) ++ [v] := by rw [hs]; simp
  have hrl := xbmZ hs1
  simp at hrl
  have H1 := hideP h
  have HK := hideP hk
  have hen := fun args W => hE args W
  have hfd := xcsZ
  clear h hs hk hE
  go_enter Tryz.func188, Tryz.ntmps188
  go_wp2_with (first
    | (go_at_call 186; refine (xaxZ w0 b pv M D x (r ++ [a]) v _ H1.out hF hs1 hD (by simp; omega)).mono ?_; rintro e w2 ⟨rfl, h2, o2⟩; have H2 := hideP h2; have O2 := hideP o2; clear h2 o2)
    | (go_at_call 186; refine (xaxZ w0 b pv _ D _ r a _ H2.out rfl rfl hD (by omega)).mono ?_; rintro e w3 ⟨rfl, h3, o3⟩; have H3 := hideP h3; have O3 := hideP o3; clear h3 o3)
    | fail)
  refine (HK.out _ _ _).mono ?_
  rintro e w4 ⟨rfl, hw4⟩
  have hw4 := hw4.symm
  subst hw4
  go_wp2_with (first
    | (go_at_call 41; refine (xigZ _ _).mono ?_; rintro e w4 ⟨rfl, hw4⟩; have hw4 := hw4.symm; subst hw4)
    | (go_at_call 184; refine (xbzZ w0 b pv _ D _ _ _ H3.out rfl hD (by simp; omega)).mono ?_; rintro e w5 ⟨rfl, h5, -⟩; have H5 := hideP h5; clear h5))
  go_end0
  rw [wrap32_64] at H5
  exact ⟨rfl, H5.out⟩
theorem two_cell {w : World} {R i : Nat} {a c v : Value} {p : Addr} (h : w.cell? p = some v) (hn : ¬ p.block = R) : ((w.setCell ⟨R, i, none⟩ a).setCell ⟨R, i + 1, none⟩ c).cell? p = some v := by
  have key : ∀ (W : World) (j : Nat) (u : Value), W.cell? p = some v → (W.setCell ⟨R, j, none⟩ u).cell? p = some v := fun W j u h => (World.cell?_of_block (Below.heap_setCell W _ u p.block hn)).trans h
  exact key _ _ _ (key _ _ _ h)
theorem xciZ {w : World} {R i : Nat} {a v : Value} {p : Addr} (h : w.cell? p = some v) (hn : ¬ p.block = R) : (w.setCell ⟨R, i, none⟩ a).cell? p = some v := (World.cell?_of_block (Below.heap_setCell w _ a p.block hn)).trans h
theorem DIn.one {w0 W : World} {b : Nat} {pv : Value} {M : Mach} {D : List Frm} {x : Frm} {g cap : Nat} {bv iv ov : Value} {q : List FV} {c : FV} {qb : List Value} (h : DIn w0 W b pv M D x g cap bv iv ov q c qb) {g' cap' n : Nat} (hc : W.cell? ⟨b, 0, none⟩ = some (.slice (some ⟨g', 0, none⟩) n cap')) : g = g' := by
  rw [h.fcell] at hc
  cases hc; rfl
theorem mv8 (w0 : World) (b : Nat) (pv : Value) (M : Mach) (D : List Frm) (x : Frm) (k : Nat) (v0 : Val) (w : World) (h : Doer w0 w b pv M) (hF : M.frames = D ++ [x]) (hD : D.length ≤ 100) (hl : x.stk.length ≤ 90) (hv : x.loc[k]? = some v0) : Calls Tryz.prog 145 #[.pointer (some ⟨b, 0, none⟩), .agg #[.int .i64 8, .int .i64 k]] w fun e w' => e = .returned (.tuple #[]) ∧ Doer w0 w' b pv { M with frames := D ++ [{ x with stk := x.stk ++ [v0] }] } := by
  obtain ⟨g, cap, bv, iv, ov, q, c, qb, H0⟩ := h.open hF
  obtain ⟨W1, hW1⟩ : ∃ W1, w.alloc (.cells #[.int .i64 8, .int .i64 (k : Int)] 86) = W1 := ⟨_, rfl⟩
  have b1 : Below w.heap.size w W1 := by rw [← hW1]; exact (Below.refl _ w).alloc (Nat.le_refl _) _
  have x1 : W1.heap[w.heap.size]? = some (.cells #[.int .i64 8, .int .i64 (k : Int)] 86 (0, 0)) := by rw [← hW1]; exact World.alloc_heap_new w _
  have lx := xacZ x1
  have e0 : W1.cell? ⟨w.heap.size, 0, none⟩ = some (.int .i64 8) := xaaZ x1 0
  have e1 : W1.cell? ⟨w.heap.size, 1, none⟩ = some (.int .i64 (k : Int)) := xaaZ x1 1
  have H1 := H0.below b1
  have hgl : g < w.heap.size := by obtain ⟨cur, hg⟩ := H0.gb; exact xacZ hg
  have hgne : ¬ w.heap.size = g := by omega
  have HI : Hid (∀ W, Below W1.heap.size W1 W → Calls Tryz.prog 144 #[.pointer (some ⟨b, 0, none⟩)] W fun e w' => e = .returned (.pointer (some ⟨g, D.length * 4, none⟩)) ∧ Below W.heap.size W w') := fun W hW => xalZ b g D.length cap W (H1.below hW).fcell hD
  obtain ⟨pl, cl, hlv⟩ := xagZ H1.loc
  obtain ⟨pl', cl', hlv', -, hlc⟩ := xcdZ H1.loc
  rw [hlv] at hlv'
  cases hlv'
  obtain ⟨gl, ol, hpl, hgll, l0, l1⟩ := hlc k v0 hv
  subst hpl
  have hol : ol = 0 := by
    rcases H1.loc.2 with ⟨h1, _⟩ | ⟨g', cap', cur', h1, _⟩
    · rw [hlv] at h1; cases h1
    · rw [hlv] at h1; cases h1; rfl
  subst hol
  simp only [Nat.zero_add] at l0 l1
  have hkl := xaeZ hv
  have hkli : (k : Int) < (x.loc.length : Int) := by omega
  have hll := (H0.loc.lt gl (by rw [hlv]; rfl)).2
  have f2 := H1.c2
  rw [hlv] at f2
  have hgg : ¬ g = gl := fun e => by
    obtain ⟨cur, hg⟩ := H1.gb
    have := xd1Z H1.loc gl (by rw [hlv]; rfl)
    obtain ⟨cs, fz, hh⟩ := this
    rw [← e, hg] at hh
    simp at hh
  have HLV := hideP hlv
  have HX1 := hideP x1
  have HH1 := hideP H1
  have HV := hideP hv
  clear h x1 H0 H1 hlc hv hlv
  go_enter Tryz.func145, Tryz.ntmps145
  go_wp2_with fail
  go_region_held3 (fun W => W.cell? ⟨w.heap.size, 1, none⟩ = some (.int .i64 (k : Int)) ∧ W.cell? ⟨g, D.length * 4 + 2, none⟩ = some (.slice (some ⟨gl, 0, none⟩) x.loc.length cl) ∧ W.cell? ⟨gl, k * 2, none⟩ = some (.bool v0.1) ∧ W.cell? ⟨gl, k * 2 + 1, none⟩ = some (.int .i64 v0.2)) (go_keep)
    (first
      | (go_at_call 144; (with_reducible refine (HI.out _ ((Below.refl _ W1).drew)).mono ?_); rintro e w2 ⟨rfl, b2'⟩; have b2 : Below W1.heap.size W1 w2 := ((Below.refl _ W1).drew).trans b2'; have k1 := (b2.cell (p := ⟨w.heap.size, 1, none⟩) lx).trans e1; have kk := fun o => xabZ k1 o; have m0 := (b2.cell (p := ⟨gl, k * 2, none⟩) hgll).trans l0; have m1 := (b2.cell (p := ⟨gl, k * 2 + 1, none⟩) hgll).trans l1; have m2 := (b2.cell (p := ⟨g, D.length * 4 + 2, none⟩) (by have := b1.size; show g < W1.heap.size; omega)).trans f2; have mm0 := fun o => xabZ m0 o; have mm1 := fun o => xabZ m1 o; have mm2 := fun o => xabZ m2 o)
      | (go_at_call 187; (refine (xfqZ w0 b pv M D x _ [v0] _ ((HH1.out.below b2).doer.below ((Below.refl _ w2).alloc (Nat.le_refl _) _)) hF (xgyZ (World.alloc_heap_new w2 _) rfl (by unfold maxLen; simp)) (xazZ _ _ _) hD (by omega) (by simp)).mono ?_); rintro e w3 ⟨rfl, h3, o3, s3⟩; obtain ⟨sg, sj⟩ := s3 _ _ _ _ ((HH1.out.below b2).below ((Below.refl _ w2).alloc (Nat.le_refl _) _)).fcell ((HH1.out.below b2).below ((Below.refl _ w2).alloc (Nat.le_refl _) _)).c3; have n2 := (sj (D.length * 4 + 2) (by omega)).trans (xabZ m2 _); have nb := sg gl (by have := b2.size; simp; omega) (fun e => hgg e.symm) ((HH1.out.below b2).ap (by rw [HLV.out]; rfl)); have n0 := (World.cell?_of_block (a := ⟨gl, k * 2, none⟩) nb).trans (xabZ m0 _); have n3 := (World.cell?_of_block (a := ⟨gl, k * 2 + 1, none⟩) nb).trans (xabZ m1 _); have n1 : w3.cell? ⟨w.heap.size, 1, none⟩ = some (.int .i64 (k : Int)) := xaaZ (o3 _ _ _ _ (xajZ ((b2.block _ lx).trans HX1.out) _) (by decide) (by decide)) 1; have H3 := hideP h3; clear h3 o3 s3 sg sj nb))
  go_wp2
  go_end0
  exact ⟨rfl, H3.out⟩
theorem mv9 (w0 : World) (b : Nat) (pv : Value) (M : Mach) (D : List Frm) (x : Frm) (k : Nat) (v0 v : Val) (r : List Val) (w : World) (h : Doer w0 w b pv M) (hF : M.frames = D ++ [x]) (hD : D.length ≤ 100) (hl : x.stk.length ≤ 90) (hv : x.loc[k]? = some v0) (hs : x.stk = r ++ [v]) : Calls Tryz.prog 145 #[.pointer (some ⟨b, 0, none⟩), .agg #[.int .i64 9, .int .i64 k]] w fun e w' => e = .returned (.tuple #[]) ∧ Doer w0 w' b pv { M with frames := D ++ [{ x with loc := x.loc.set k v, stk := r }] } := by
  obtain ⟨g, cap, bv, iv, ov, q, c, qb, H0⟩ := h.open hF
  obtain ⟨W1, hW1⟩ : ∃ W1, w.alloc (.cells #[.int .i64 9, .int .i64 (k : Int)] 86) = W1 := ⟨_, rfl⟩
  have b1 : Below w.heap.size w W1 := by rw [← hW1]; exact (Below.refl _ w).alloc (Nat.le_refl _) _
  have x1 : W1.heap[w.heap.size]? = some (.cells #[.int .i64 9, .int .i64 (k : Int)] 86 (0, 0)) := by rw [← hW1]; exact World.alloc_heap_new w _
  have lx := xacZ x1
  have e0 : W1.cell? ⟨w.heap.size, 0, none⟩ = some (.int .i64 9) := xaaZ x1 0
  have e1 : W1.cell? ⟨w.heap.size, 1, none⟩ = some (.int .i64 (k : Int)) := xaaZ x1 1
  have H1 := H0.below b1
  have hgl : g < w.heap.size := by obtain ⟨cur, hg⟩ := H0.gb; exact xacZ hg
  have hgne : ¬ w.heap.size = g := by omega
  have HI : Hid (∀ W, Below W1.heap.size W1 W → Calls Tryz.prog 144 #[.pointer (some ⟨b, 0, none⟩)] W fun e w' => e = .returned (.pointer (some ⟨g, D.length * 4, none⟩)) ∧ Below W.heap.size W w') := fun W hW => xalZ b g D.length cap W (H1.below hW).fcell hD
  obtain ⟨pl, cl, hlv⟩ := xagZ H1.loc
  obtain ⟨pl', cl', hlv', -, hlc⟩ := xcdZ H1.loc
  rw [hlv] at hlv'
  cases hlv'
  obtain ⟨gl, ol, hpl, hgll, l0, l1⟩ := hlc k v0 hv
  subst hpl
  have hol : ol = 0 := by
    rcases H1.loc.2 with ⟨h1, _⟩ | ⟨g', cap', cur', h1, _⟩
    · rw [hlv] at h1; cases h1
    · rw [hlv] at h1; cases h1; rfl
  subst hol
  simp only [Nat.zero_add] at l0 l1
  have hkl := xaeZ hv
  have hkli : (k : Int) < (x.loc.length : Int) := by omega
  have hll := (H0.loc.lt gl (by rw [hlv]; rfl)).2
  have f2 := H1.c2
  rw [hlv] at f2
  have hrl := xbmZ hs
  have hgg : ¬ g = gl := fun e => by
    obtain ⟨cur, hg⟩ := H1.gb
    have := xd1Z H1.loc gl (by rw [hlv]; rfl)
    obtain ⟨cs, fz, hh⟩ := this
    rw [← e, hg] at hh
    simp at hh
  have hlg : ¬ w.heap.size = gl := by omega
  have HX1 := hideP x1
  have HH1 := hideP H1
  have HV := hideP hv
  have HLV := hideP hlv
  clear h x1 H0 H1 hlc hv hlv
  go_enter Tryz.func145, Tryz.ntmps145
  go_wp2_with fail
  go_region_held3 (fun W => W.cell? ⟨w.heap.size, 1, none⟩ = some (.int .i64 (k : Int)) ∧ W.cell? ⟨g, D.length * 4 + 2, none⟩ = some (.slice (some ⟨gl, 0, none⟩) x.loc.length cl)) (first | go_keep | exact ⟨two_cell n1 hlg, two_cell n2 hgg⟩)
    (first
      | (go_at_call 144; (with_reducible refine (HI.out _ ((Below.refl _ W1).drew)).mono ?_); rintro e w2 ⟨rfl, b2'⟩; have b2 : Below W1.heap.size W1 w2 := ((Below.refl _ W1).drew).trans b2'; have k1 := (b2.cell (p := ⟨w.heap.size, 1, none⟩) lx).trans e1; have m0 := (b2.cell (p := ⟨gl, k * 2, none⟩) hgll).trans l0; have m1 := (b2.cell (p := ⟨gl, k * 2 + 1, none⟩) hgll).trans l1; have m2 := (b2.cell (p := ⟨g, D.length * 4 + 2, none⟩) (by have := b1.size; show g < W1.heap.size; omega)).trans f2)
      | (go_at_call 186; (refine (xaxZ w0 b pv M D x r v _ (HH1.out.below b2).doer hF hs hD (by omega)).mono ?_); rintro e w3 ⟨rfl, h3, o3⟩; obtain ⟨og, oj⟩ := o3 _ _ _ (HH1.out.below b2).fcell; have n1 := og.cell k1 (by simpa using hgne); have n2 := (oj (D.length * 4 + 2) (by omega)).trans m2; have n0 := og.cell m0 (by simpa using fun e => hgg e.symm); have n3 := og.cell m1 (by simpa using fun e => hgg e.symm); have zz : ∀ j, w3.frozen? ⟨gl, j, none⟩ = false := (fun j => by obtain ⟨cs, hh⟩ := xd8Z (g := gl) (HH1.out.below b2).loc (by rw [HLV.out]; rfl); exact Lib.frozen_of_heap ((og.block gl (xacZ hh) (fun e => hgg (by simpa using e.symm))).trans hh) j); have z0 := zz (k * 2); have z1 := zz (k * 2 + 1); have H3 := hideP h3; have OG := hideP og; have OJ := hideP oj; clear h3 o3 og oj zz))
  go_wp2
  go_end0
  obtain ⟨g', cap', bv', iv', ov', q', c', qb', H3'⟩ := H3.out.open rfl
  have hb0 := OG.out.cell (HH1.out.below b2).fcell (fun e => (HH1.out.below b2).gne (by simpa using e))
  have hgg' := H3'.one hb0
  subst hgg'
  have hlv' : c'.lv = .slice (some ⟨gl, 0, none⟩) x.loc.length cl := by have := H3'.c2; rw [n2] at this; exact (Option.some.inj this).symm
  have hrow := H3'.loc
  simp only at hrow
  rw [hlv'] at hrow
  have hrow2 := xdwZ (xdwZ hrow (k * 2) (.bool v.1)) (k * 2 + 1) (.int .i64 v.2)
  rw [xjjZ] at hrow2
  refine ⟨rfl, H3'.setLoc ?_ ?_⟩
  · rw [hlv']
    exact (xamZ w3 ⟨gl, k * 2, none⟩ (.bool v.1)).trans (xamZ _ ⟨gl, k * 2 + 1, none⟩ (.int .i64 v.2))
  · rw [hlv', List.length_set]
    exact hrow2
theorem go10 (w0 : World) (b : Nat) (pv : Value) (M : Mach) (D : List Frm) (x : Frm) (A : Int) (w : World) (h : Doer w0 w b pv M) (hF : M.frames = D ++ [x]) (hD : D.length ≤ 100) (hl : x.stk.length ≤ 90)  : Calls Tryz.prog 147 #[.pointer (some ⟨b, 0, none⟩), .agg #[.int .i64 10, .int .i64 A]] w fun e w' => e = .returned (.tuple #[]) ∧ Doer w0 w' b pv { M with frames := D ++ [{ x with pc := A }] } := by
  obtain ⟨g, cap, bv, iv, ov, q, c, qb, H0⟩ := h.open hF
  obtain ⟨W1, hW1⟩ : ∃ W1, w.alloc (.cells #[.int .i64 10, .int .i64 A] 86) = W1 := ⟨_, rfl⟩
  have b1 : Below w.heap.size w W1 := by rw [← hW1]; exact (Below.refl _ w).alloc (Nat.le_refl _) _
  have x1 : W1.heap[w.heap.size]? = some (.cells #[.int .i64 10, .int .i64 A] 86 (0, 0)) := by rw [← hW1]; exact World.alloc_heap_new w _
  have lx := xacZ x1
  have e0 : W1.cell? ⟨w.heap.size, 0, none⟩ = some (.int .i64 10) := xaaZ x1 0
  have e1 : W1.cell? ⟨w.heap.size, 1, none⟩ = some (.int .i64 A) := xaaZ x1 1
  have H1 := H0.below b1
  have hgl : g < w.heap.size := by obtain ⟨cur, hg⟩ := H0.gb; exact xacZ hg
  have hgne : ¬ w.heap.size = g := by omega
  have HI : Hid (∀ W, Below W1.heap.size W1 W → Calls Tryz.prog 144 #[.pointer (some ⟨b, 0, none⟩)] W fun e w' => e = .returned (.pointer (some ⟨g, D.length * 4, none⟩)) ∧ Below W.heap.size W w') := fun W hW => xalZ b g D.length cap W (H1.below hW).fcell hD
  have HH1 := hideP H1
  clear h x1 H0 H1
  go_enter Tryz.func147, Tryz.ntmps147
  go_wp2_with fail
  go_region_held3 (fun W => W.cell? ⟨w.heap.size, 1, none⟩ = some (.int .i64 A)) (first | go_keep | exact xciZ k1 hgne)
    (first
      | (go_at_call 144; (with_reducible refine (HI.out _ ((Below.refl _ W1).drew)).mono ?_); rintro e w2 ⟨rfl, b2'⟩; have b2 : Below W1.heap.size W1 w2 := ((Below.refl _ W1).drew).trans b2'; have k1 := (b2.cell (p := ⟨w.heap.size, 1, none⟩) lx).trans e1; have H2 := HH1.out.below b2; have m1 := H2.c1; have z1 : w2.frozen? ⟨g, D.length * 4 + 1, none⟩ = false := (by obtain ⟨cur, hh⟩ := H2.gb; exact Lib.frozen_of_heap hh _); have HH2 := hideP H2; clear H2))
  go_wp2
  go_end0
  exact ⟨rfl, HH2.out.setPc A⟩
theorem go11z (w0 : World) (b : Nat) (pv : Value) (M : Mach) (D : List Frm) (x : Frm) (A : Int) (r : List Val) (v : Val) (w : World) (h : Doer w0 w b pv M) (hF : M.frames = D ++ [x]) (hD : D.length ≤ 100) (hl : x.stk.length ≤ 90) (hs : x.stk = r ++ [v]) (hz : v.2 = 0) : Calls Tryz.prog 147 #[.pointer (some ⟨b, 0, none⟩), .agg #[.int .i64 11, .int .i64 A]] w fun e w' => e = .returned (.tuple #[]) ∧ Doer w0 w' b pv { M with frames := D ++ [{ x with pc := A, stk := r }] } := by
  obtain ⟨g, cap, bv, iv, ov, q, c, qb, H0⟩ := h.open hF
  obtain ⟨W1, hW1⟩ : ∃ W1, w.alloc (.cells #[.int .i64 11, .int .i64 A] 86) = W1 := ⟨_, rfl⟩
  have b1 : Below w.heap.size w W1 := by rw [← hW1]; exact (Below.refl _ w).alloc (Nat.le_refl _) _
  have x1 : W1.heap[w.heap.size]? = some (.cells #[.int .i64 11, .int .i64 A] 86 (0, 0)) := by rw [← hW1]; exact World.alloc_heap_new w _
  have lx := xacZ x1
  have e0 : W1.cell? ⟨w.heap.size, 0, none⟩ = some (.int .i64 11) := xaaZ x1 0
  have e1 : W1.cell? ⟨w.heap.size, 1, none⟩ = some (.int .i64 A) := xaaZ x1 1
  have H1 := H0.below b1
  have hgl : g < w.heap.size := by obtain ⟨cur, hg⟩ := H0.gb; exact xacZ hg
  have hgne : ¬ w.heap.size = g := by omega
  have HI : Hid (∀ W, Below W1.heap.size W1 W → Calls Tryz.prog 144 #[.pointer (some ⟨b, 0, none⟩)] W fun e w' => e = .returned (.pointer (some ⟨g, D.length * 4, none⟩)) ∧ Below W.heap.size W w') := fun W hW => xalZ b g D.length cap W (H1.below hW).fcell hD
  have hrl := xbmZ hs
  have hfd := xcsZ
  have hz' : (v.2 == 0) = true := by simp [hz]
  have HH1 := hideP H1
  clear h x1 H0 H1 HI hz
  go_enter Tryz.func147, Tryz.ntmps147
  go_wp2_with (first
    | (go_at_call 186; (refine (xaxZ w0 b pv M D x r v _ HH1.out.doer hF hs hD (by omega)).mono ?_); rintro e wt ⟨rfl, ht, ot⟩; obtain ⟨og, oj⟩ := ot _ _ _ HH1.out.fcell; have et := og.cell e1 (by simpa using hgne); have bt := og.cell HH1.out.fcell (fun e => HH1.out.gne (by simpa using e)); have HT := hideP ht; have lt : w.heap.size < wt.heap.size := Nat.lt_of_lt_of_le lx og.size; clear ht ot oj og)
    | fail)
  obtain ⟨g', cap', bv', iv', ov', q', c', qb', HT'⟩ := HT.out.open rfl
  have hgg' := HT'.one bt
  subst hgg'
  have HI : Hid (∀ W, Below wt.heap.size wt W → Calls Tryz.prog 144 #[.pointer (some ⟨b, 0, none⟩)] W fun e w' => e = .returned (.pointer (some ⟨g', D.length * 4, none⟩)) ∧ Below W.heap.size W w') := fun W hW => xalZ b g' D.length cap' W (HT'.below hW).fcell hD
  have HHT := hideP HT'
  clear HT'
  go_region_held3 (fun W => W.cell? ⟨w.heap.size, 1, none⟩ = some (.int .i64 A)) (first | go_keep | exact xciZ k1 hgne)
    (first
      | (go_at_call 144; (with_reducible refine (HI.out _ ((Below.refl _ wt).drew)).mono ?_); rintro e w2 ⟨rfl, b2'⟩; have b2 : Below wt.heap.size wt w2 := ((Below.refl _ wt).drew).trans b2'; have k1 := (b2.cell (p := ⟨w.heap.size, 1, none⟩) lt).trans et; have H2 := HHT.out.below b2; have m1 := H2.c1; have z1 : w2.frozen? ⟨g', D.length * 4 + 1, none⟩ = false := (by obtain ⟨cur, hh⟩ := H2.gb; exact Lib.frozen_of_heap hh _); have HH2 := hideP H2; clear H2))
  go_wp2
  go_end0
  exact ⟨rfl, HH2.out.setPc A⟩
theorem go11n (w0 : World) (b : Nat) (pv : Value) (M : Mach) (D : List Frm) (x : Frm) (A : Int) (r : List Val) (v : Val) (w : World) (h : Doer w0 w b pv M) (hF : M.frames = D ++ [x]) (hD : D.length ≤ 100) (hl : x.stk.length ≤ 90) (hs : x.stk = r ++ [v]) (hz : v.2 ≠ 0) : Calls Tryz.prog 147 #[.pointer (some ⟨b, 0, none⟩), .agg #[.int .i64 11, .int .i64 A]] w fun e w' => e = .returned (.tuple #[]) ∧ Doer w0 w' b pv { M with frames := D ++ [{ x with stk := r }] } := by
  obtain ⟨g, cap, bv, iv, ov, q, c, qb, H0⟩ := h.open hF
  obtain ⟨W1, hW1⟩ : ∃ W1, w.alloc (.cells #[.int .i64 11, .int .i64 A] 86) = W1 := ⟨_, rfl⟩
  have b1 : Below w.heap.size w W1 := by rw [← hW1]; exact (Below.refl _ w).alloc (Nat.le_refl _) _
  have x1 : W1.heap[w.heap.size]? = some (.cells #[.int .i64 11, .int .i64 A] 86 (0, 0)) := by rw [← hW1]; exact World.alloc_heap_new w _
  have lx := xacZ x1
  have e0 : W1.cell? ⟨w.heap.size, 0, none⟩ = some (.int .i64 11) := xaaZ x1 0
  have e1 : W1.cell? ⟨w.heap.size, 1, none⟩ = some (.int .i64 A) := xaaZ x1 1
  have H1 := H0.below b1
  have hgl : g < w.heap.size := by obtain ⟨cur, hg⟩ := H0.gb; exact xacZ hg
  have hgne : ¬ w.heap.size = g := by omega
  have HI : Hid (∀ W, Below W1.heap.size W1 W → Calls Tryz.prog 144 #[.pointer (some ⟨b, 0, none⟩)] W fun e w' => e = .returned (.pointer (some ⟨g, D.length * 4, none⟩)) ∧ Below W.heap.size W w') := fun W hW => xalZ b g D.length cap W (H1.below hW).fcell hD
  have hrl := xbmZ hs
  have hfd := xcsZ
  have hz' : (v.2 == 0) = false := by simp [hz]
  have HH1 := hideP H1
  clear h x1 H0 H1 HI hz
  go_enter Tryz.func147, Tryz.ntmps147
  go_wp2_with (first
    | (go_at_call 186; (refine (xaxZ w0 b pv M D x r v _ HH1.out.doer hF hs hD (by omega)).mono ?_); rintro e wt ⟨rfl, ht, ot⟩; have HT := hideP ht; clear ht ot))
  go_end0
  exact ⟨rfl, HT.out⟩
theorem rk5 (w0 : World) (b : Nat) (pv : Value) (M : Mach) (D : List Frm) (x : Frm) (r : List Val) (a v : Val) (w : World) (h : Doer w0 w b pv M) (hF : M.frames = D ++ [x]) (hD : D.length ≤ 100) (hl : x.stk.length ≤ 90) (hs : x.stk = r ++ [a, v]) : Calls Tryz.prog 146 #[.pointer (some ⟨b, 0, none⟩), .int .i64 5] w fun e w' => e = .returned (.tuple #[]) ∧ Doer w0 w' b pv { M with frames := D ++ [{ x with stk := r ++ [(false, wrap32 (a.2 + v.2))] }] } := by
  have HC := hideP (xhhZ w0 b pv M D x r a v 189 (fun a t => a + t) w h hF hD hl hs (xb1Z Tryz.func189 (by kernel_rfl) rfl) reck1_any)
  clear h
  go_enter Tryz.func146, Tryz.ntmps146
  go_wp2_with (go_at_call 188; refine HC.out.mono ?_; rintro e w2 ⟨rfl, h2⟩; have H2 := hideP h2; clear h2)
  go_end0
  exact ⟨rfl, H2.out⟩
theorem rk6 (w0 : World) (b : Nat) (pv : Value) (M : Mach) (D : List Frm) (x : Frm) (r : List Val) (a v : Val) (w : World) (h : Doer w0 w b pv M) (hF : M.frames = D ++ [x]) (hD : D.length ≤ 100) (hl : x.stk.length ≤ 90) (hs : x.stk = r ++ [a, v]) : Calls Tryz.prog 146 #[.pointer (some ⟨b, 0, none⟩), .int .i64 6] w fun e w' => e = .returned (.tuple #[]) ∧ Doer w0 w' b pv { M with frames := D ++ [{ x with stk := r ++ [(false, wrap32 (a.2 - v.2))] }] } := by
  have HC := hideP (xhhZ w0 b pv M D x r a v 190 (fun a t => a - t) w h hF hD hl hs (xb1Z Tryz.func190 (by kernel_rfl) rfl) reck2_any)
  clear h
  go_enter Tryz.func146, Tryz.ntmps146
  go_wp2_with (go_at_call 188; refine HC.out.mono ?_; rintro e w2 ⟨rfl, h2⟩; have H2 := hideP h2; clear h2)
  go_end0
  exact ⟨rfl, H2.out⟩
theorem rk7 (w0 : World) (b : Nat) (pv : Value) (M : Mach) (D : List Frm) (x : Frm) (r : List Val) (a v : Val) (w : World) (h : Doer w0 w b pv M) (hF : M.frames = D ++ [x]) (hD : D.length ≤ 100) (hl : x.stk.length ≤ 90) (hs : x.stk = r ++ [a, v]) : Calls Tryz.prog 146 #[.pointer (some ⟨b, 0, none⟩), .int .i64 7] w fun e w' => e = .returned (.tuple #[]) ∧ Doer w0 w' b pv { M with frames := D ++ [{ x with stk := r ++ [(false, wrap32 (a.2 * v.2))] }] } := by
  have HC := hideP (xhhZ w0 b pv M D x r a v 191 (fun a t => a * t) w h hF hD hl hs (xb1Z Tryz.func191 (by kernel_rfl) rfl) reck3_any)
  clear h
  go_enter Tryz.func146, Tryz.ntmps146
  go_wp2_with (go_at_call 188; refine HC.out.mono ?_; rintro e w2 ⟨rfl, h2⟩; have H2 := hideP h2; clear h2)
  go_end0
  exact ⟨rfl, H2.out⟩
end Go.Proofs.YtmjjkenblfndgaaGreat


