/- My texts Me Mg Mh: what of them is needed, joined. -/

import Derived.Test.YtcadpoknolefpaaGreatF13
/- fresh.Machine: a machine's own copy. -/
namespace Go.Proofs.YtcadpoknolefpaaGreat
open Go.RowKit
set_option linter.unusedSimpArgs false
set_option linter.unusedVariables false
structure SmallM (M : Mach) : Prop where
  fr : M.frames.length ≤ 6
  each : ∀ x ∈ M.frames, x.loc.length ≤ 20 ∧ x.stk.length ≤ 20
  bl : M.blocks.length ≤ 8
  cells : ∀ b ∈ M.blocks, b.length ≤ 40
  inp : M.inp.length ≤ 10
  out : M.out.length ≤ 10
theorem BRows.cons {W : World} {B : Nat} {q : List Value} {L : List (List Int)} {x : Value} {b : List Int} (h : BRows W B q L) (hx : W.ownsRow B 3 1 x b.length (b.map (Value.int .i64))) (hn : ∀ (k : Nat) (y : Value) (g : Nat), q[k]? = some y → y.ownBlock = some g → x.ownBlock ≠ some g) (hs : b.length ≤ 17592186044416) : BRows W B (x :: q) (b :: L) := by
  refine ⟨by simp [h.len], fun k y c hy hc => ?_, fun i j y z g hy hz gy gz => ?_, fun c hc => ?_⟩
  · cases k with
    | zero => simp at hy hc; subst hy hc; exact hx
    | succ k => exact h.each k y c (by simpa using hy) (by simpa using hc)
  · cases i with
    | zero =>
      cases j with
      | zero => rfl
      | succ j => simp at hy; subst hy; exact absurd gy (hn j z g (by simpa using hz) gz)
    | succ i =>
      cases j with
      | zero => simp at hz; subst hz; exact absurd gz (hn i y g (by simpa using hy) gy)
      | succ j => rw [h.apart i j y z g (by simpa using hy) (by simpa using hz) gy gz]
  · rcases List.mem_cons.1 hc with rfl | hc
    · exact hs
    · exact h.small c hc
theorem six_cell {w : World} {R : Nat} {a b c d e f v : Value} {p : Addr} (h : w.cell? p = some v) (hn : ¬ p.block = R) : ((((((w.setCell ⟨R, 0, none⟩ a).setCell ⟨R, 1, none⟩ b).setCell ⟨R, 2, none⟩ c).setCell ⟨R, 3, none⟩ d).setCell ⟨R, 4, none⟩ e).setCell ⟨R, 5, none⟩ f).cell? p = some v := by
  have key : ∀ (W : World) (j : Nat) (u : Value), W.cell? p = some v → (W.setCell ⟨R, j, none⟩ u).cell? p = some v := fun W j u h => (World.cell?_of_block (Below.heap_setCell W _ u p.block hn)).trans h
  exact key _ _ _ (key _ _ _ (key _ _ _ (key _ _ _ (key _ _ _ (key _ _ _ h)))))
theorem six_grown (W : World) (R : Nat) (a b c d e f : Value) : W.grownBy ((((((W.setCell ⟨R, 0, none⟩ a).setCell ⟨R, 1, none⟩ b).setCell ⟨R, 2, none⟩ c).setCell ⟨R, 3, none⟩ d).setCell ⟨R, 4, none⟩ e).setCell ⟨R, 5, none⟩ f) (some R) :=
  (((((set_grown W ⟨R, 0, none⟩ a).trans (set_grown _ ⟨R, 1, none⟩ b)).trans (set_grown _ ⟨R, 2, none⟩ c)).trans (set_grown _ ⟨R, 3, none⟩ d)).trans (set_grown _ ⟨R, 4, none⟩ e)).trans (set_grown _ ⟨R, 5, none⟩ f)
set_option maxRecDepth 100000 in
set_option maxHeartbeats 4000000 in
theorem freshMachine_any (M : Mach) (fv bv iv ov : Value) (w : World) (h : MachAt w fv bv iv ov M) (hsm : SmallM M) : Calls Tryz.prog 44 #[.agg #[fv, bv, iv, ov, .int .i64 M.status, .int .i64 M.trap]] w fun e w' => ∃ fv' bv' iv' ov', e = .returned (.agg #[fv', bv', iv', ov', .int .i64 M.status, .int .i64 M.trap]) ∧ ∃ q qb, MOwn w' w.heap.size fv' bv' iv' ov' q qb M ∧ Below w.heap.size w w' := by
  obtain ⟨pf, cf, hfv, -, -, -⟩ := id h.fr
  obtain ⟨pb, cb, hbv, -, -⟩ := id h.bl
  obtain ⟨pi, ci, hiv, -⟩ := h.inp.shp
  obtain ⟨po, co, hov, -⟩ := h.out.shp
  subst hfv hbv hiv hov
  obtain ⟨W1, hW1⟩ : ∃ W1, (w.alloc (.cells #[.slice pf M.frames.length cf, .slice pb M.blocks.length cb, .slice pi M.inp.length ci, .slice po M.out.length co, .int .i64 M.status, .int .i64 M.trap] 29)).alloc (.cells #[.slice none 0 0, .slice none 0 0, .slice none 0 0, .slice none 0 0, .int .i64 0, .int .i64 0] 29) = W1 := ⟨_, rfl⟩
  have b1 : Below w.heap.size w W1 := by rw [← hW1]; exact ((Below.refl _ w).alloc (Nat.le_refl _) _).alloc (by simp) _
  have x1 : W1.heap[w.heap.size]? = some (.cells #[.slice pf M.frames.length cf, .slice pb M.blocks.length cb, .slice pi M.inp.length ci, .slice po M.out.length co, .int .i64 M.status, .int .i64 M.trap] 29 (0, 0)) := by rw [← hW1]; exact heap_old (World.alloc_heap_new w _) _
  have y1 : W1.heap[w.heap.size + 1]? = some (.cells #[.slice none 0 0, .slice none 0 0, .slice none 0 0, .slice none 0 0, .int .i64 0, .int .i64 0] 29 (0, 0)) := by rw [← hW1]; exact new_two w _ _
  have lx := heap_lt x1
  have ly := heap_lt y1
  have d0 : W1.cell? ⟨w.heap.size, 0, none⟩ = some (.slice pf M.frames.length cf) := cell_at' x1 0
  have d1 : W1.cell? ⟨w.heap.size, 1, none⟩ = some (.slice pb M.blocks.length cb) := cell_at' x1 1
  have d2 : W1.cell? ⟨w.heap.size, 2, none⟩ = some (.slice pi M.inp.length ci) := cell_at' x1 2
  have d3 : W1.cell? ⟨w.heap.size, 3, none⟩ = some (.slice po M.out.length co) := cell_at' x1 3
  have d4 : W1.cell? ⟨w.heap.size, 4, none⟩ = some (.int .i64 M.status) := cell_at' x1 4
  have d5 : W1.cell? ⟨w.heap.size, 5, none⟩ = some (.int .i64 M.trap) := cell_at' x1 5
  have h1 := h.below b1
  have HFR : Hid (∀ W, Below W1.heap.size W1 W → Calls Tryz.prog 84 #[.slice pf M.frames.length cf] W fun e w' => ∃ u, e = .returned u ∧ ∃ q, w'.ownsRow W.heap.size 48 4 u q.length (fCells q) ∧ FRows w' W.heap.size q M.frames ∧ Below W.heap.size W w') := fun W hW => freshFrames_any M.frames _ W (h1.fr.below hW) hsm.fr hsm.each
  have HBL : Hid (∀ W, Below W1.heap.size W1 W → Calls Tryz.prog 85 #[.slice pb M.blocks.length cb] W fun e w' => ∃ u, e = .returned u ∧ BlksOwn w' W.heap.size u M.blocks ∧ Below W.heap.size W w') := fun W hW => freshBlocks_any M.blocks _ W (h1.bl.below hW) hsm.bl hsm.cells
  have HIN : Hid (∀ W, Below W1.heap.size W1 W → Calls Tryz.prog 86 #[.slice pi M.inp.length ci] W fun e w' => ∃ u, e = .returned u ∧ w'.ownsRow W.heap.size 3 1 u M.inp.length (M.inp.map (Value.int .i64)) ∧ Below W.heap.size W w') := fun W hW => cloneInt_any M.inp _ W (h1.inp.at_.below hW) h1.inp.nil (by have := hsm.inp; omega)
  have HOU : Hid (∀ W, Below W1.heap.size W1 W → Calls Tryz.prog 86 #[.slice po M.out.length co] W fun e w' => ∃ u, e = .returned u ∧ w'.ownsRow W.heap.size 3 1 u M.out.length (M.out.map (Value.int .i64)) ∧ Below W.heap.size W w') := fun W hW => cloneInt_any M.out _ W (h1.out.at_.below hW) h1.out.nil (by have := hsm.out; omega)
  have hRne : ¬ w.heap.size = w.heap.size + 1 := by omega
  have HY1 := hideP y1
  have HX1 := hideP x1
  have HSM := hideP hsm
  clear h h1 x1 y1 hsm
  go_enter Tryz.func44, Tryz.ntmps44
  go_wp2_with fail
  go_region_held3 (fun W => W.cell? ⟨w.heap.size, 0, none⟩ = some (.slice pf M.frames.length cf) ∧ W.cell? ⟨w.heap.size, 1, none⟩ = some (.slice pb M.blocks.length cb) ∧ W.cell? ⟨w.heap.size, 2, none⟩ = some (.slice pi M.inp.length ci) ∧ W.cell? ⟨w.heap.size, 3, none⟩ = some (.slice po M.out.length co) ∧ W.cell? ⟨w.heap.size, 4, none⟩ = some (.int .i64 M.status) ∧ W.cell? ⟨w.heap.size, 5, none⟩ = some (.int .i64 M.trap)) (first | go_keep | exact ⟨six_cell k0 hRne, six_cell k1 hRne, six_cell k2 hRne, six_cell k3 hRne, six_cell k4 hRne, six_cell k5 hRne⟩)
    (first
      | (go_at_call 84; (with_reducible refine (HFR.out _ ((Below.refl _ W1).drew)).mono ?_); rintro e w2 ⟨u2, rfl, q2, r2, hr2, b2'⟩; have b2 : Below W1.heap.size W1 w2 := ((Below.refl _ W1).drew).trans b2'; have s2 : w2.heap.size = w2.heap.size := rfl; obtain ⟨p2, c2, hu2⟩ := row_shp r2; subst hu2; have R2 := hideP r2; have HR2 := hideP hr2; clear r2 hr2; have f0 := (b2.cell (p := ⟨w.heap.size, 0, none⟩) lx).trans d0; have f1 := (b2.cell (p := ⟨w.heap.size, 1, none⟩) lx).trans d1; have f2 := (b2.cell (p := ⟨w.heap.size, 2, none⟩) lx).trans d2; have f3 := (b2.cell (p := ⟨w.heap.size, 3, none⟩) lx).trans d3; have f4 := (b2.cell (p := ⟨w.heap.size, 4, none⟩) lx).trans d4; have f5 := (b2.cell (p := ⟨w.heap.size, 5, none⟩) lx).trans d5)
      | (go_at_call 85; (with_reducible refine (HBL.out _ b2).mono ?_); rintro e w3 ⟨u3, rfl, ⟨qb, r3, hr3⟩, b3'⟩; have b3 : Below W1.heap.size W1 w3 := b2.trans (b3'.mono b2.size); obtain ⟨p3, c3, hu3⟩ := row_shp r3; subst hu3; have R3 := hideP r3; have HR3 := hideP hr3; clear r3 hr3; have g0 := (b3.cell (p := ⟨w.heap.size, 0, none⟩) lx).trans d0; have g1 := (b3.cell (p := ⟨w.heap.size, 1, none⟩) lx).trans d1; have g2 := (b3.cell (p := ⟨w.heap.size, 2, none⟩) lx).trans d2; have g3 := (b3.cell (p := ⟨w.heap.size, 3, none⟩) lx).trans d3; have g4 := (b3.cell (p := ⟨w.heap.size, 4, none⟩) lx).trans d4; have g5 := (b3.cell (p := ⟨w.heap.size, 5, none⟩) lx).trans d5)
      | (go_at_call 86; (with_reducible refine (HIN.out _ b3).mono ?_); rintro e w4 ⟨u4, rfl, r4, b4'⟩; have b4 : Below W1.heap.size W1 w4 := b3.trans (b4'.mono b3.size); obtain ⟨p4, c4, hu4⟩ := row_shp r4; subst hu4; have R4 := hideP r4; clear r4; have h0 := (b4.cell (p := ⟨w.heap.size, 0, none⟩) lx).trans d0; have h1 := (b4.cell (p := ⟨w.heap.size, 1, none⟩) lx).trans d1; have h2 := (b4.cell (p := ⟨w.heap.size, 2, none⟩) lx).trans d2; have h3 := (b4.cell (p := ⟨w.heap.size, 3, none⟩) lx).trans d3; have h4 := (b4.cell (p := ⟨w.heap.size, 4, none⟩) lx).trans d4; have h5 := (b4.cell (p := ⟨w.heap.size, 5, none⟩) lx).trans d5)
      | (go_at_call 86; (with_reducible refine (HOU.out _ b4).mono ?_); rintro e w5 ⟨u5, rfl, r5, b5'⟩; have b5 : Below W1.heap.size W1 w5 := b4.trans (b5'.mono b4.size); obtain ⟨p5, c5, hu5⟩ := row_shp r5; subst hu5; have R5 := hideP r5; clear r5; have k0 := (b5.cell (p := ⟨w.heap.size, 0, none⟩) lx).trans d0; have k1 := (b5.cell (p := ⟨w.heap.size, 1, none⟩) lx).trans d1; have k2 := (b5.cell (p := ⟨w.heap.size, 2, none⟩) lx).trans d2; have k3 := (b5.cell (p := ⟨w.heap.size, 3, none⟩) lx).trans d3; have k4 := (b5.cell (p := ⟨w.heap.size, 4, none⟩) lx).trans d4; have k5 := (b5.cell (p := ⟨w.heap.size, 5, none⟩) lx).trans d5; have yy := (b5.block _ ly).trans HY1.out; have m0 := cell_at' yy 0; have m1 := cell_at' yy 1; have m2 := cell_at' yy 2; have m3 := cell_at' yy 3; have m4 := cell_at' yy 4; have m5 := cell_at' yy 5; simp at m0 m1 m2 m3 m4 m5; have z := Lib.frozen_of_heap yy; have z0 := z 0; have z1 := z 1; have z2 := z 2; have z3 := z 3; have z4 := z 4; have z5 := z 5; have YY := hideP yy; clear yy z))
  go_wp2
  refine bodyPost_ret (v := .agg #[.slice p2 q2.length c2, .slice p3 qb.length c3, .slice p4 M.inp.length c4, .slice p5 M.out.length c5, .int .i64 M.status, .int .i64 M.trap]) (by simp [results, Tryz.results44, go_sem, m0, m1, m2, m3, m4, m5]) rfl ⟨_, _, _, _, rfl, q2, qb, ?_, ?_⟩
  · have hs1 := b1.size
    have hs2 := b2.size
    have hs3 := b3'.size
    have hs4 := b4'.size
    have hs5 := b5'.size
    have hb25 : Below w2.heap.size w2 w5 := bthen0 (bthen0 b3' b4') b5'
    have hb35 : Below w3.heap.size w3 w5 := bthen0 b4' b5'
    have hR2l : W1.heap.size ≤ w2.heap.size := hs2
    refine MOwn.keep (t := 29) ?_ (six_grown w5 (w.heap.size + 1) _ _ _ _ _ _) (tyRow_at YY.out) (by decide) (by decide) (by decide) (by decide)
    have hB1 : w.heap.size ≤ W1.drew.heap.size := hs1
    refine ⟨row_low (row_same R2.out fun j hj => hb25.block j (R2.out.lt j hj).2) hB1, (HR2.out.below hb25).low hB1, row_low (row_same R3.out fun j hj => hb35.block j (R3.out.lt j hj).2) (by omega), ?_⟩
    have hq5 := (HR3.out.below hb35).low (B' := w.heap.size) (by omega)
    have ho := row_low (B' := w.heap.size) R5.out (by omega)
    have hi := row_low (B' := w.heap.size) (row_same R4.out fun j hj => b5'.block j (R4.out.lt j hj).2) (by omega)
    refine (hq5.cons ho (fun i y g h1 h2 h3 => ?_) (by have := HSM.out.out; omega)).cons hi (fun i y g h1 h2 h3 => ?_) (by have := HSM.out.inp; omega)
    · have a1 := (HR3.out.lt h1 h2).2.1
      have a2 := (R5.out.lt g h3).1
      omega
    · cases i with
      | zero =>
        simp at h1
        subst h1
        have a1 := (R5.out.lt g h2).1
        have a2 := (R4.out.lt g h3).2
        omega
      | succ i =>
        have a1 := (HR3.out.lt (k := i) (by simpa using h1) h2).2.1
        have a2 := (R4.out.lt g h3).1
        omega
  · exact (bthen0 b1 b5).grown (six_grown w5 (w.heap.size + 1) _ _ _ _ _ _) (by have := (bthen0 b1 b5).size; omega) (fun j hj => by cases hj; omega)
end Go.Proofs.YtcadpoknolefpaaGreat


/- stride's ops: blocks, boxes, returns. -/
namespace Go.Proofs.YtcadpoknolefpaaGreat
open Go.RowKit
set_option linter.unusedSimpArgs false
set_option linter.unusedVariables false
theorem blksOwn_shp {W : World} {B : Nat} {u : Value} {L : List (List Int)} (h : BlksOwn W B u L) : ∃ p n cap, u = .slice p n cap := by
  obtain ⟨qq, h1, -⟩ := h
  obtain ⟨p, c, h2⟩ := row_shp h1
  exact ⟨p, _, c, h2⟩
theorem DAt.cells {w0 W : World} {b : Nat} {pv fv bv iv ov : Value} {q : List FV} {qb : List Value} {M : Mach} (h : DAt w0 W b pv fv bv iv ov q qb M) : W.cell? ⟨b, 0, none⟩ = some fv ∧ W.cell? ⟨b, 1, none⟩ = some bv ∧ W.cell? ⟨b, 2, none⟩ = some iv ∧ W.cell? ⟨b, 3, none⟩ = some ov ∧ W.cell? ⟨b, 4, none⟩ = some (.int .i64 M.status) ∧ W.cell? ⟨b, 5, none⟩ = some (.int .i64 M.trap) ∧ W.cell? ⟨b, 6, none⟩ = some pv := by
  refine ⟨?_, ?_, ?_, ?_, ?_, ?_, ?_⟩ <;> rw [cell_at' h.cell] <;> rfl
theorem DAt.setBl {w0 W : World} {b : Nat} {pv fv bv iv ov : Value} {q : List FV} {qb : List Value} {M : Mach} (h : DAt w0 W b pv fv bv iv ov q qb M) {W2 : World} {u : Value} {L : List (List Int)} (hb : Below W.heap.size W W2) (hu : BlksOwn W2 W.heap.size u L) : Doer w0 (W2.setCell ⟨b, 1, none⟩ u) b pv { M with blocks := L } := by
  obtain ⟨qb', h1, h2⟩ := hu
  have h' := h.below hb
  have hgs := set_grown W2 ⟨b, 1, none⟩ u
  have hty : TyRow W2 (some b) 120 := tyRow_at h'.cell
  have hs := heap_setCell_same W2 b 1 _ _ u h'.cell
  have hlo : w0.heap.size ≤ W.heap.size := h.bel.size
  refine ⟨fv, u, iv, ov, q, qb', ⟨by simpa using hs, ⟨row_keep h'.own.fr hgs hty (by decide), h'.own.frs.keep hgs hty (by decide), row_keep (row_low h1 hlo) hgs hty (by decide), ?_⟩, h'.bel.setCell h'.lo _, h'.lo⟩⟩
  refine BRows.keep ?_ hgs hty (by decide)
  refine ((h2.low hlo).cons (h'.own.out) (fun k y g h3 h4 h5 => ?_) (h'.own.rows.small _ (by simp))).cons (h'.own.inp) (fun k y g h3 h4 h5 => ?_) (h'.own.rows.small _ (by simp))
  · have a1 := (h.own.out.lt g h5).2
    have a2 := (h2.lt h3 h4).1
    omega
  · cases k with
    | zero =>
      simp at h3
      subst h3
      have := h'.own.rows.apart 0 1 iv ov g rfl rfl h5 h4
      omega
    | succ k =>
      have a1 := (h.own.inp.lt g h5).2
      have a2 := (h2.lt (k := k) (by simpa using h3) h4).1
      omega
theorem DAt.setSt {w0 W : World} {b : Nat} {pv fv bv iv ov : Value} {q : List FV} {qb : List Value} {M : Mach} (h : DAt w0 W b pv fv bv iv ov q qb M) (n : Int) : Doer w0 (W.setCell ⟨b, 4, none⟩ (.int .i64 n)) b pv { M with status := n } := by
  have hgs := set_grown W ⟨b, 4, none⟩ (.int .i64 n)
  have hty : TyRow W (some b) 120 := tyRow_at h.cell
  have hs := heap_setCell_same W b 4 _ _ (.int .i64 n) h.cell
  have hk := h.own.keep hgs hty (by decide) (by decide) (by decide) (by decide)
  exact ⟨fv, bv, iv, ov, q, qb, ⟨by simpa using hs, ⟨hk.fr, hk.frs, hk.bl, hk.rows⟩, h.bel.setCell h.lo _, h.lo⟩⟩
set_option maxHeartbeats 400000 in
theorem trapIf_ok (n : Int) (hn : n = 0) (w : World) : Calls Tryz.prog 188 #[.int .i64 n] w fun e w' => e = .returned (.tuple #[]) ∧ w' = w := by
  subst hn
  go_enter Tryz.func188, Tryz.ntmps188
  go_wp2
  exact bodyPost_ret (results_none rfl _ _ _) rfl ⟨rfl, rfl⟩
set_option maxHeartbeats 400000 in
theorem trapIf_none (n : Int) (hn : n = 5) (w : World) : Calls Tryz.prog 188 #[.int .i64 n] w fun e w' => e = .panicked [{ v := .iface 117 (.int .i64 1), recovered := false }] ∧ w' = w := by
  subst hn
  go_enter Tryz.func188, Tryz.ntmps188
  go_wp2
  exact ⟨rfl, rfl, rfl⟩
set_option maxHeartbeats 400000 in
theorem trapIf_else (n : Int) (h0 : n ≠ 0) (h5 : n ≠ 5) (w : World) : Calls Tryz.prog 188 #[.int .i64 n] w fun e w' => e = .panicked [{ v := .iface 117 (.int .i64 2), recovered := false }] ∧ w' = w := by
  have h0' : (n == 0) = false := by simp [h0]
  have h5' : (n == 5) = false := by simp [h5]
  go_enter Tryz.func188, Tryz.ntmps188
  go_wp2
  exact ⟨rfl, rfl, rfl⟩
set_option maxRecDepth 100000 in
set_option maxHeartbeats 2000000 in
theorem ub19z (w0 : World) (b : Nat) (pv : Value) (M : Mach) (D : List Frm) (x : Frm) (r : List Val) (v : Val) (w : World) (h : Doer w0 w b pv M) (hF : M.frames = D ++ [x]) (hD : D.length ≤ 100) (hl : x.stk.length ≤ 90) (hs : x.stk = r ++ [v]) (hz : v.2 = 0) : Calls Tryz.prog 129 #[.pointer (some ⟨b, 0, none⟩), .int .i64 19] w fun e w' => e = .returned (.tuple #[]) ∧ Doer w0 w' b pv { M with frames := D ++ [{ x with stk := r ++ [(false, 1)] }] } := by
  have hrl := last_val hs
  have hfd := fieldN
  have hz' : (v.2 == 0) = true := by simp [hz]
  have H1 := hideP h
  clear h hz
  go_enter Tryz.func129, Tryz.ntmps129
  go_wp2_with (first
    | (go_at_call 178; refine (dTake_any w0 b pv M D x r v _ H1.out hF hs hD (by omega)).mono ?_; rintro e w2 ⟨rfl, h2, o2⟩; have H2 := hideP h2; have O2 := hideP o2; clear h2 o2)
    | (go_at_call 176; refine (dPutNumber_any w0 b pv _ D _ _ _ H2.out rfl hD (by simp; omega)).mono ?_; rintro e w5 ⟨rfl, h5, -⟩; have H5 := hideP h5; clear h5))
  go_end0
  exact ⟨rfl, H5.out⟩
set_option maxRecDepth 100000 in
set_option maxHeartbeats 2000000 in
theorem ub19n (w0 : World) (b : Nat) (pv : Value) (M : Mach) (D : List Frm) (x : Frm) (r : List Val) (v : Val) (w : World) (h : Doer w0 w b pv M) (hF : M.frames = D ++ [x]) (hD : D.length ≤ 100) (hl : x.stk.length ≤ 90) (hs : x.stk = r ++ [v]) (hz : v.2 ≠ 0) : Calls Tryz.prog 129 #[.pointer (some ⟨b, 0, none⟩), .int .i64 19] w fun e w' => e = .returned (.tuple #[]) ∧ Doer w0 w' b pv { M with frames := D ++ [{ x with stk := r ++ [(false, 0)] }] } := by
  have hrl := last_val hs
  have hfd := fieldN
  have hz' : (v.2 == 0) = false := by simp [hz]
  have H1 := hideP h
  clear h hz
  go_enter Tryz.func129, Tryz.ntmps129
  go_wp2_with (first
    | (go_at_call 178; refine (dTake_any w0 b pv M D x r v _ H1.out hF hs hD (by omega)).mono ?_; rintro e w2 ⟨rfl, h2, o2⟩; have H2 := hideP h2; have O2 := hideP o2; clear h2 o2)
    | (go_at_call 176; refine (dPutNumber_any w0 b pv _ D _ _ _ H2.out rfl hD (by simp; omega)).mono ?_; rintro e w5 ⟨rfl, h5, -⟩; have H5 := hideP h5; clear h5))
  go_end0
  exact ⟨rfl, H5.out⟩
set_option maxRecDepth 100000 in
set_option maxHeartbeats 2000000 in
theorem ms_trap (w0 : World) (b : Nat) (pv : Value) (M : Mach) (D : List Frm) (x : Frm) (r : List Val) (v : Val) (w : World) (h : Doer w0 w b pv M) (hF : M.frames = D ++ [x]) (hD : D.length ≤ 100) (hl : x.stk.length ≤ 90) (hs : x.stk = r ++ [v]) (hz : v.2 = 0) : Calls Tryz.prog 190 #[.pointer (some ⟨b, 0, none⟩)] w fun e w' => e = .panicked [{ v := .iface 117 (.int .i64 1), recovered := false }] ∧ Below w0.heap.size w0 w' := by
  have hrl := last_val hs
  have hfd := fieldN
  have hz' : (v.2 == 0) = true := by simp [hz]
  have H1 := hideP h
  clear h hz
  go_enter Tryz.func190, Tryz.ntmps190
  go_wp2_with (first
    | (go_at_call 178; refine (dTake_any w0 b pv M D x r v _ H1.out hF hs hD (by omega)).mono ?_; rintro e w2 ⟨rfl, h2, o2⟩; have H2 := hideP h2; have O2 := hideP o2; clear h2 o2))
  exact ⟨rfl, rfl, H2.out.bel⟩
set_option maxRecDepth 100000 in
set_option maxHeartbeats 2000000 in
theorem ms_ok (w0 : World) (b : Nat) (pv : Value) (M : Mach) (D : List Frm) (x : Frm) (r : List Val) (v : Val) (j : Nat) (bb : List Int) (w : World) (h : Doer w0 w b pv M) (hF : M.frames = D ++ [x]) (hD : D.length ≤ 100) (hl : x.stk.length ≤ 90) (hs : x.stk = r ++ [v]) (hz : v.2 = (j : Int) + 1) (hj : M.blocks[j]? = some bb) (hb8 : M.blocks.length ≤ 8) : Calls Tryz.prog 190 #[.pointer (some ⟨b, 0, none⟩)] w fun e w' => e = .returned (.tuple #[]) ∧ Doer w0 w' b pv { M with frames := D ++ [{ x with stk := r ++ [(false, (bb.length : Int))] }] } := by
  have hrl := last_val hs
  have hfd := fieldN
  have hjl := lt_of_at hj
  have hz' : (v.2 == 0) = false := by simp [hz]; omega
  have hz2 : wrap64 (v.2 - 1) = (j : Int) := by rw [hz]; unfold wrap64; omega
  have hz3 : v.2 - 1 = (j : Int) := by omega
  have hji : (j : Int) < (M.blocks.length : Int) := by omega
  have H1 := hideP h
  have HZ := hideP hz
  clear h hz
  go_enter Tryz.func190, Tryz.ntmps190
  go_wp2_with (first
    | (go_at_call 178; refine (dTake_any w0 b pv M D x r v _ H1.out hF hs hD (by omega)).mono ?_; rintro e w2 ⟨rfl, h2, -⟩; obtain ⟨fv2, bv2, iv2, ov2, q2, qb2, D2⟩ := h2; obtain ⟨pb, cb, hbv, -, hbc⟩ := blksAt_of_own D2.own.blks; obtain ⟨gb, ob, cc, hpb, hgb, y0, ⟨pc, cc', hcc, -, -⟩, -, -⟩ := hbc j bb hj; have k1 := D2.cells.2.1; have k2 := y0; simp only at hbv; rw [hbv, hpb] at k1; rw [hcc] at k2; clear hbc hbv hpb hcc y0; have HD2 := hideP D2; clear D2)
    | (go_at_call 176; refine (dPutNumber_any w0 b pv _ D _ _ _ ⟨_, _, _, _, _, _, HD2.out⟩ rfl hD (by simp; omega)).mono ?_; rintro e w5 ⟨rfl, h5, -⟩; have H5 := hideP h5; clear h5))
  go_end0
  exact ⟨rfl, H5.out⟩
set_option maxRecDepth 100000 in
set_option maxHeartbeats 2000000 in
theorem ub17t (w0 : World) (b : Nat) (pv : Value) (M : Mach) (D : List Frm) (x : Frm) (r : List Val) (v : Val) (w : World) (h : Doer w0 w b pv M) (hF : M.frames = D ++ [x]) (hD : D.length ≤ 100) (hl : x.stk.length ≤ 90) (hs : x.stk = r ++ [v]) (hz : v.2 = 0) : Calls Tryz.prog 129 #[.pointer (some ⟨b, 0, none⟩), .int .i64 17] w fun e w' => e = .panicked [{ v := .iface 117 (.int .i64 1), recovered := false }] ∧ Below w0.heap.size w0 w' := by
  have HC := hideP (ms_trap w0 b pv M D x r v w h hF hD hl hs hz)
  clear h
  go_enter Tryz.func129, Tryz.ntmps129
  go_wp2_with (go_at_call 190; refine HC.out.mono ?_; rintro e w2 ⟨rfl, h2⟩)
  exact ⟨rfl, rfl, h2⟩
set_option maxRecDepth 100000 in
set_option maxHeartbeats 2000000 in
theorem ub17o (w0 : World) (b : Nat) (pv : Value) (M : Mach) (D : List Frm) (x : Frm) (r : List Val) (v : Val) (j : Nat) (bb : List Int) (w : World) (h : Doer w0 w b pv M) (hF : M.frames = D ++ [x]) (hD : D.length ≤ 100) (hl : x.stk.length ≤ 90) (hs : x.stk = r ++ [v]) (hz : v.2 = (j : Int) + 1) (hj : M.blocks[j]? = some bb) (hb8 : M.blocks.length ≤ 8) : Calls Tryz.prog 129 #[.pointer (some ⟨b, 0, none⟩), .int .i64 17] w fun e w' => e = .returned (.tuple #[]) ∧ Doer w0 w' b pv { M with frames := D ++ [{ x with stk := r ++ [(false, (bb.length : Int))] }] } := by
  have HC := hideP (ms_ok w0 b pv M D x r v j bb w h hF hD hl hs hz hj hb8)
  clear h
  go_enter Tryz.func129, Tryz.ntmps129
  go_wp2_with (go_at_call 190; refine HC.out.mono ?_; rintro e w2 ⟨rfl, h2⟩; have H2 := hideP h2; clear h2)
  go_end0
  exact ⟨rfl, H2.out⟩
set_option maxRecDepth 100000 in
set_option maxHeartbeats 2000000 in
theorem ub15o (w0 : World) (b : Nat) (pv : Value) (M : Mach) (D : List Frm) (x : Frm) (r : List Val) (a v : Val) (w : World) (h : Doer w0 w b pv M) (hF : M.frames = D ++ [x]) (hD : D.length ≤ 100) (hl : x.stk.length ≤ 90) (hs : x.stk = r ++ [a, v]) (hr2 : -9223372036854775808 ≤ a.2 ∧ a.2 ≤ 9223372036854775807) (he : placeErr M.blocks a.2 v.2 = 0) : Calls Tryz.prog 129 #[.pointer (some ⟨b, 0, none⟩), .int .i64 15] w fun e w' => e = .returned (.tuple #[]) ∧ Doer w0 w' b pv { M with frames := D ++ [{ x with stk := r ++ [(false, getR M.blocks a.2 v.2)] }] } := by
  have hs1 : x.stk = (r ++ [a]) ++ [v] := by rw [hs]; simp
  have hrl := last_val hs1
  simp at hrl
  have hfd := fieldN
  have H1 := hideP h
  have HE := hideP he
  clear h hs he
  go_enter Tryz.func129, Tryz.ntmps129
  go_wp2_with (first
    | (go_at_call 178; refine (dTake_any w0 b pv M D x (r ++ [a]) v _ H1.out hF hs1 hD (by simp; omega)).mono ?_; rintro e w2 ⟨rfl, h2, o2⟩; have H2 := hideP h2; have O2 := hideP o2; clear h2 o2)
    | (go_at_call 178; refine (dTake_any w0 b pv _ D _ r a _ H2.out rfl rfl hD (by omega)).mono ?_; rintro e w3 ⟨rfl, h3, -⟩; obtain ⟨fv3, bv3, iv3, ov3, q3, qb3, D3⟩ := h3; have k1 := D3.cells.2.1; have HB := hideP (blksAt_of_own D3.own.blks); have HD3 := hideP D3; clear D3)
    | (go_at_call 187; refine (bGet_any M.blocks a.2 v.2 hr2 _ _ HB.out).mono ?_; rintro e w4 ⟨rfl, b4⟩; have H4 := hideP (HD3.out.below b4); clear HD3 b4 k1)
    | (go_at_call 188; refine (trapIf_ok _ HE.out _).mono ?_; rintro e w5 ⟨rfl, hw5⟩; have hw5 := hw5.symm; subst hw5)
    | (go_at_call 176; refine (dPutNumber_any w0 b pv _ D _ _ _ ⟨_, _, _, _, _, _, H4.out⟩ rfl hD (by simp; omega)).mono ?_; rintro e w6 ⟨rfl, h6, -⟩; have H6 := hideP h6; clear h6))
  go_end0
  exact ⟨rfl, H6.out⟩
set_option maxRecDepth 100000 in
set_option maxHeartbeats 2000000 in
theorem ub15n (w0 : World) (b : Nat) (pv : Value) (M : Mach) (D : List Frm) (x : Frm) (r : List Val) (a v : Val) (w : World) (h : Doer w0 w b pv M) (hF : M.frames = D ++ [x]) (hD : D.length ≤ 100) (hl : x.stk.length ≤ 90) (hs : x.stk = r ++ [a, v]) (hr2 : -9223372036854775808 ≤ a.2 ∧ a.2 ≤ 9223372036854775807) (he : placeErr M.blocks a.2 v.2 = 5) : Calls Tryz.prog 129 #[.pointer (some ⟨b, 0, none⟩), .int .i64 15] w fun e w' => e = .panicked [{ v := .iface 117 (.int .i64 1), recovered := false }] ∧ Below w0.heap.size w0 w' := by
  have hs1 : x.stk = (r ++ [a]) ++ [v] := by rw [hs]; simp
  have hrl := last_val hs1
  simp at hrl
  have hfd := fieldN
  have H1 := hideP h
  have HE := hideP he
  clear h hs he
  go_enter Tryz.func129, Tryz.ntmps129
  go_wp2_with (first
    | (go_at_call 178; refine (dTake_any w0 b pv M D x (r ++ [a]) v _ H1.out hF hs1 hD (by simp; omega)).mono ?_; rintro e w2 ⟨rfl, h2, o2⟩; have H2 := hideP h2; have O2 := hideP o2; clear h2 o2)
    | (go_at_call 178; refine (dTake_any w0 b pv _ D _ r a _ H2.out rfl rfl hD (by omega)).mono ?_; rintro e w3 ⟨rfl, h3, -⟩; obtain ⟨fv3, bv3, iv3, ov3, q3, qb3, D3⟩ := h3; have k1 := D3.cells.2.1; have HB := hideP (blksAt_of_own D3.own.blks); have HD3 := hideP D3; clear D3)
    | (go_at_call 187; refine (bGet_any M.blocks a.2 v.2 hr2 _ _ HB.out).mono ?_; rintro e w4 ⟨rfl, b4⟩; have H4 := hideP (HD3.out.below b4); clear HD3 b4 k1)
    | (go_at_call 188; refine (trapIf_none _ HE.out _).mono ?_; rintro e w5 ⟨rfl, hw5⟩; have hw5 := hw5.symm; subst hw5)
    | (go_at_call 176; refine (dPutNumber_any w0 b pv _ D _ _ _ ⟨_, _, _, _, _, _, H4.out⟩ rfl hD (by simp; omega)).mono ?_; rintro e w6 ⟨rfl, h6, -⟩; have H6 := hideP h6; clear h6))
  exact ⟨rfl, rfl, H4.out.bel⟩
set_option maxRecDepth 100000 in
set_option maxHeartbeats 2000000 in
theorem ub15i (w0 : World) (b : Nat) (pv : Value) (M : Mach) (D : List Frm) (x : Frm) (r : List Val) (a v : Val) (w : World) (h : Doer w0 w b pv M) (hF : M.frames = D ++ [x]) (hD : D.length ≤ 100) (hl : x.stk.length ≤ 90) (hs : x.stk = r ++ [a, v]) (hr2 : -9223372036854775808 ≤ a.2 ∧ a.2 ≤ 9223372036854775807) (he : placeErr M.blocks a.2 v.2 ≠ 0 ∧ placeErr M.blocks a.2 v.2 ≠ 5) : Calls Tryz.prog 129 #[.pointer (some ⟨b, 0, none⟩), .int .i64 15] w fun e w' => e = .panicked [{ v := .iface 117 (.int .i64 2), recovered := false }] ∧ Below w0.heap.size w0 w' := by
  have hs1 : x.stk = (r ++ [a]) ++ [v] := by rw [hs]; simp
  have hrl := last_val hs1
  simp at hrl
  have hfd := fieldN
  have H1 := hideP h
  have HE := hideP he
  clear h hs he
  go_enter Tryz.func129, Tryz.ntmps129
  go_wp2_with (first
    | (go_at_call 178; refine (dTake_any w0 b pv M D x (r ++ [a]) v _ H1.out hF hs1 hD (by simp; omega)).mono ?_; rintro e w2 ⟨rfl, h2, o2⟩; have H2 := hideP h2; have O2 := hideP o2; clear h2 o2)
    | (go_at_call 178; refine (dTake_any w0 b pv _ D _ r a _ H2.out rfl rfl hD (by omega)).mono ?_; rintro e w3 ⟨rfl, h3, -⟩; obtain ⟨fv3, bv3, iv3, ov3, q3, qb3, D3⟩ := h3; have k1 := D3.cells.2.1; have HB := hideP (blksAt_of_own D3.own.blks); have HD3 := hideP D3; clear D3)
    | (go_at_call 187; refine (bGet_any M.blocks a.2 v.2 hr2 _ _ HB.out).mono ?_; rintro e w4 ⟨rfl, b4⟩; have H4 := hideP (HD3.out.below b4); clear HD3 b4 k1)
    | (go_at_call 188; refine (trapIf_else _ HE.out.1 HE.out.2 _).mono ?_; rintro e w5 ⟨rfl, hw5⟩; have hw5 := hw5.symm; subst hw5)
    | (go_at_call 176; refine (dPutNumber_any w0 b pv _ D _ _ _ ⟨_, _, _, _, _, _, H4.out⟩ rfl hD (by simp; omega)).mono ?_; rintro e w6 ⟨rfl, h6, -⟩; have H6 := hideP h6; clear h6))
  exact ⟨rfl, rfl, H4.out.bel⟩
set_option maxRecDepth 100000 in
set_option maxHeartbeats 2000000 in
theorem ub16o (w0 : World) (b : Nat) (pv : Value) (M : Mach) (D : List Frm) (x : Frm) (r : List Val) (c a v : Val) (w : World) (h : Doer w0 w b pv M) (hF : M.frames = D ++ [x]) (hD : D.length ≤ 100) (hl : x.stk.length ≤ 90) (hs : x.stk = r ++ [c, a, v]) (hr2 : -9223372036854775808 ≤ c.2 ∧ c.2 ≤ 9223372036854775807) (he : setErr M.blocks c.2 a.2 v.2 = 0) : Calls Tryz.prog 129 #[.pointer (some ⟨b, 0, none⟩), .int .i64 16] w fun e w' => e = .returned (.tuple #[]) ∧ Doer w0 w' b pv { M with frames := D ++ [{ x with stk := r }], blocks := setR M.blocks c.2 a.2 v.2 } := by
  have hs1 : x.stk = (r ++ [c, a]) ++ [v] := by rw [hs]; simp
  have hs2 : r ++ [c, a] = (r ++ [c]) ++ [a] := by simp
  have hrl := last_val hs1
  simp at hrl
  have hfd := fieldN
  have H1 := hideP h
  have HE := hideP he
  clear h hs he
  go_enter Tryz.func129, Tryz.ntmps129
  go_wp2_with (first
    | (go_at_call 178; refine (dTake_any w0 b pv M D x (r ++ [c, a]) v _ H1.out hF hs1 hD (by simp; omega)).mono ?_; rintro e w2 ⟨rfl, h2, o2⟩; have H2 := hideP h2; have O2 := hideP o2; clear h2 o2)
    | (go_at_call 178; refine (dTake_any w0 b pv _ D _ (r ++ [c]) a _ H2.out rfl hs2 hD (by simp; omega)).mono ?_; rintro e w3 ⟨rfl, h3, o3⟩; have H3 := hideP h3; have O3 := hideP o3; clear h3 o3)
    | (go_at_call 178; refine (dTake_any w0 b pv _ D _ r c _ H3.out rfl rfl hD (by omega)).mono ?_; rintro e w4 ⟨rfl, h4, -⟩; obtain ⟨fv4, bv4, iv4, ov4, q4, qb4, D4⟩ := h4; have k1 := D4.cells.2.1; have HB := hideP (blksAt_of_own D4.own.blks); have HD4 := hideP D4; clear D4)
    | (go_at_call 189; refine (bSet_any M.blocks c.2 a.2 v.2 hr2 _ _ HB.out).mono ?_; rintro e w5 ⟨u, rfl, u5, b5⟩; obtain ⟨pu, nu, cu, hpu⟩ := blksOwn_shp u5; subst hpu; have U5 := hideP u5; have B5 := hideP b5; have HD5 := hideP (HD4.out.below b5); have m1 := HD5.out.cells.2.1; have z1 : w5.frozen? ⟨b, 1, none⟩ = false := Lib.frozen_of_heap HD5.out.cell 1; clear u5 b5 k1)
    | (go_at_call 188; refine (trapIf_ok _ HE.out _).mono ?_; rintro e w6 ⟨rfl, hw6⟩; have hw6 := hw6.symm; subst hw6))
  go_end0
  exact ⟨rfl, HD4.out.setBl B5.out U5.out⟩
set_option maxRecDepth 100000 in
set_option maxHeartbeats 2000000 in
theorem ub16n (w0 : World) (b : Nat) (pv : Value) (M : Mach) (D : List Frm) (x : Frm) (r : List Val) (c a v : Val) (w : World) (h : Doer w0 w b pv M) (hF : M.frames = D ++ [x]) (hD : D.length ≤ 100) (hl : x.stk.length ≤ 90) (hs : x.stk = r ++ [c, a, v]) (hr2 : -9223372036854775808 ≤ c.2 ∧ c.2 ≤ 9223372036854775807) (he : setErr M.blocks c.2 a.2 v.2 = 5) : Calls Tryz.prog 129 #[.pointer (some ⟨b, 0, none⟩), .int .i64 16] w fun e w' => e = .panicked [{ v := .iface 117 (.int .i64 1), recovered := false }] ∧ Below w0.heap.size w0 w' := by
  have hs1 : x.stk = (r ++ [c, a]) ++ [v] := by rw [hs]; simp
  have hs2 : r ++ [c, a] = (r ++ [c]) ++ [a] := by simp
  have hrl := last_val hs1
  simp at hrl
  have hfd := fieldN
  have H1 := hideP h
  have HE := hideP he
  clear h hs he
  go_enter Tryz.func129, Tryz.ntmps129
  go_wp2_with (first
    | (go_at_call 178; refine (dTake_any w0 b pv M D x (r ++ [c, a]) v _ H1.out hF hs1 hD (by simp; omega)).mono ?_; rintro e w2 ⟨rfl, h2, o2⟩; have H2 := hideP h2; have O2 := hideP o2; clear h2 o2)
    | (go_at_call 178; refine (dTake_any w0 b pv _ D _ (r ++ [c]) a _ H2.out rfl hs2 hD (by simp; omega)).mono ?_; rintro e w3 ⟨rfl, h3, o3⟩; have H3 := hideP h3; have O3 := hideP o3; clear h3 o3)
    | (go_at_call 178; refine (dTake_any w0 b pv _ D _ r c _ H3.out rfl rfl hD (by omega)).mono ?_; rintro e w4 ⟨rfl, h4, -⟩; obtain ⟨fv4, bv4, iv4, ov4, q4, qb4, D4⟩ := h4; have k1 := D4.cells.2.1; have HB := hideP (blksAt_of_own D4.own.blks); have HD4 := hideP D4; clear D4)
    | (go_at_call 189; refine (bSet_any M.blocks c.2 a.2 v.2 hr2 _ _ HB.out).mono ?_; rintro e w5 ⟨u, rfl, u5, b5⟩; obtain ⟨pu, nu, cu, hpu⟩ := blksOwn_shp u5; subst hpu; have U5 := hideP u5; have B5 := hideP b5; have HD5 := hideP (HD4.out.below b5); have m1 := HD5.out.cells.2.1; have z1 : w5.frozen? ⟨b, 1, none⟩ = false := Lib.frozen_of_heap HD5.out.cell 1; clear u5 b5 k1)
    | (go_at_call 188; refine (trapIf_none _ HE.out _).mono ?_; rintro e w6 ⟨rfl, hw6⟩; have hw6 := hw6.symm; subst hw6))
  exact ⟨rfl, rfl, HD5.out.bel⟩
set_option maxRecDepth 100000 in
set_option maxHeartbeats 2000000 in
theorem ub16i (w0 : World) (b : Nat) (pv : Value) (M : Mach) (D : List Frm) (x : Frm) (r : List Val) (c a v : Val) (w : World) (h : Doer w0 w b pv M) (hF : M.frames = D ++ [x]) (hD : D.length ≤ 100) (hl : x.stk.length ≤ 90) (hs : x.stk = r ++ [c, a, v]) (hr2 : -9223372036854775808 ≤ c.2 ∧ c.2 ≤ 9223372036854775807) (he : setErr M.blocks c.2 a.2 v.2 ≠ 0 ∧ setErr M.blocks c.2 a.2 v.2 ≠ 5) : Calls Tryz.prog 129 #[.pointer (some ⟨b, 0, none⟩), .int .i64 16] w fun e w' => e = .panicked [{ v := .iface 117 (.int .i64 2), recovered := false }] ∧ Below w0.heap.size w0 w' := by
  have hs1 : x.stk = (r ++ [c, a]) ++ [v] := by rw [hs]; simp
  have hs2 : r ++ [c, a] = (r ++ [c]) ++ [a] := by simp
  have hrl := last_val hs1
  simp at hrl
  have hfd := fieldN
  have H1 := hideP h
  have HE := hideP he
  clear h hs he
  go_enter Tryz.func129, Tryz.ntmps129
  go_wp2_with (first
    | (go_at_call 178; refine (dTake_any w0 b pv M D x (r ++ [c, a]) v _ H1.out hF hs1 hD (by simp; omega)).mono ?_; rintro e w2 ⟨rfl, h2, o2⟩; have H2 := hideP h2; have O2 := hideP o2; clear h2 o2)
    | (go_at_call 178; refine (dTake_any w0 b pv _ D _ (r ++ [c]) a _ H2.out rfl hs2 hD (by simp; omega)).mono ?_; rintro e w3 ⟨rfl, h3, o3⟩; have H3 := hideP h3; have O3 := hideP o3; clear h3 o3)
    | (go_at_call 178; refine (dTake_any w0 b pv _ D _ r c _ H3.out rfl rfl hD (by omega)).mono ?_; rintro e w4 ⟨rfl, h4, -⟩; obtain ⟨fv4, bv4, iv4, ov4, q4, qb4, D4⟩ := h4; have k1 := D4.cells.2.1; have HB := hideP (blksAt_of_own D4.own.blks); have HD4 := hideP D4; clear D4)
    | (go_at_call 189; refine (bSet_any M.blocks c.2 a.2 v.2 hr2 _ _ HB.out).mono ?_; rintro e w5 ⟨u, rfl, u5, b5⟩; obtain ⟨pu, nu, cu, hpu⟩ := blksOwn_shp u5; subst hpu; have U5 := hideP u5; have B5 := hideP b5; have HD5 := hideP (HD4.out.below b5); have m1 := HD5.out.cells.2.1; have z1 : w5.frozen? ⟨b, 1, none⟩ = false := Lib.frozen_of_heap HD5.out.cell 1; clear u5 b5 k1)
    | (go_at_call 188; refine (trapIf_else _ HE.out.1 HE.out.2 _).mono ?_; rintro e w6 ⟨rfl, hw6⟩; have hw6 := hw6.symm; subst hw6))
  exact ⟨rfl, rfl, HD5.out.bel⟩
end Go.Proofs.YtcadpoknolefpaaGreat


/- stride's ops: new blocks, boxes, returns. -/
namespace Go.Proofs.YtcadpoknolefpaaGreat
open Go.RowKit
set_option linter.unusedSimpArgs false
set_option linter.unusedVariables false
structure FAt (w0 W : World) (b : Nat) (pv fv bv iv ov : Value) (q : List FV) (qb : List Value) (M : Mach) (k : Nat) (iw : Value) (I : List Int) : Prop where
  cell : W.heap[b]? = some (.cells #[fv, bv, iv, ov, .int .i64 M.status, .int .i64 M.trap, pv] 120 (0, 0))
  own : MOwn W w0.heap.size fv bv iw ov q qb { M with inp := I }
  bel : Below w0.heap.size w0 W
  rest : M.inp = I.drop k
  val : (k = 0 ∧ iv = iw) ∨ ∃ g n cap j c, iw = .slice (some ⟨g, 0, none⟩) n cap ∧ iv = .slice (some ⟨g, j, none⟩) (n - k) c ∧ (j = k ∨ n - k = 0) ∧ n - k ≤ c
def Fin (w0 W : World) (b : Nat) (pv : Value) (M : Mach) : Prop := ∃ fv bv iv ov q qb k iw I, FAt w0 W b pv fv bv iv ov q qb M k iw I
theorem Doer.fin {w0 W : World} {b : Nat} {pv : Value} {M : Mach} (h : Doer w0 W b pv M) : Fin w0 W b pv M := by
  obtain ⟨fv, bv, iv, ov, q, qb, h⟩ := h
  exact ⟨fv, bv, iv, ov, q, qb, 0, iv, M.inp, h.cell, h.own, h.bel, rfl, .inl ⟨rfl, rfl⟩⟩
theorem row_cap {W : World} {B : Nat} {e : TypeId} {size n m cap : Nat} {p : Option Addr} {xs : List Value} (h : W.ownsRow B e size (.slice p m cap) n xs) (hn : 0 < n) : ∃ g, p = some ⟨g, 0, none⟩ ∧ m = n ∧ n ≤ cap := by
  rcases h.2 with ⟨h1, h0⟩ | ⟨g, cap', cur, h1, _, _, h2, h3, _⟩
  · omega
  · cases h1
    exact ⟨g, rfl, rfl, by omega⟩
set_option maxRecDepth 100000 in
set_option maxHeartbeats 2000000 in
theorem rc_any (w0 : World) (b : Nat) (pv : Value) (M : Mach) (D : List Frm) (x : Frm) (n : Int) (I : List Int) (w : World) (h : Doer w0 w b pv M) (hF : M.frames = D ++ [x]) (hD : D.length ≤ 100) (hl : x.stk.length ≤ 90) (hi : M.inp = n :: I) (hil : M.inp.length ≤ 100) : Calls Tryz.prog 131 #[.pointer (some ⟨b, 0, none⟩)] w fun e w' => e = .returned (.tuple #[]) ∧ Fin w0 w' b pv { M with frames := D ++ [{ x with stk := x.stk ++ [(false, n)] }], inp := I } := by
  obtain ⟨fv, bv, iv, ov, q, qb, D0⟩ := h
  obtain ⟨p, cap, hiv⟩ := row_shp D0.own.inp
  have hin := D0.own.inp
  rw [hiv] at hin
  obtain ⟨g, hp, -, hcap⟩ := row_cap hin (by rw [hi]; simp)
  have hin2 := intsAt_of_row rfl hin
  subst hp
  have hlen : M.inp.length = I.length + 1 := by rw [hi]; simp
  have k2 := D0.cells.2.2.1
  rw [hiv] at k2
  obtain ⟨p', cap', hv', -, hcc⟩ := hin2
  obtain ⟨b', off', hb', hbl, e0⟩ := hcc 0 n (by rw [hi]; rfl)
  cases hv'
  cases hb'
  simp only [Nat.add_zero] at e0
  rw [hlen] at k2
  have HD0 := hideP D0
  have HI := hideP hi
  have HV := hideP hiv
  have hc0 : (0 : Int) ≤ (cap : Int) - 1 := by omega
  have hgb : g ≠ b := fun e => by
    obtain ⟨cs, hh⟩ := row_heap (g := g) hin rfl
    rw [e, D0.cell] at hh
    simp at hh
  clear D0 hcc hin hi hiv
  go_enter Tryz.func131, Tryz.ntmps131
  go_wp2_with (go_at_call 176; refine (dPutNumber_any w0 b pv M D x _ _ ⟨_, _, _, _, _, _, HD0.out⟩ hF hD (by omega)).mono ?_; rintro e w2 ⟨rfl, h2, o2⟩; obtain ⟨fv2, bv2, iv2, ov2, q2, qb2, D2⟩ := h2; have j2 := D2.cells.2.2.1; have hiv2 : iv2 = .slice (some ⟨g, 0, none⟩) (I.length + 1) cap := (by have := (cell_at' (o2 _ _ _ _ HD0.out.cell (by decide) (by decide)) 2).symm.trans (D2.cells.2.2.1); rw [HV.out, hlen] at this; simpa using this.symm); rw [hiv2] at j2; have z2 := Lib.frozen_of_heap D2.cell 2; have HD2 := hideP D2; have HV2 := hideP hiv2; clear D2 o2 hiv2)
  · first | go_end0 | refine bodyPost_ret (results_none rfl _ _ _) rfl ?_
    have D2 := HD2.out
    have hgs := set_grown w2 ⟨b, 2, none⟩ (.slice (some ⟨g, 0, none⟩) I.length 0)
    have hty : TyRow w2 (some b) 120 := tyRow_at D2.cell
    have hs := heap_setCell_same w2 b 2 _ _ (.slice (some ⟨g, 0, none⟩) I.length 0) D2.cell
    have hk := D2.own.keep hgs hty (by decide) (by decide) (by decide) (by decide)
    have hrows := hk.rows
    simp only at hrows
    rw [HI.out] at hrows
    exact ⟨rfl, fv2, bv2, .slice (some ⟨g, 0, none⟩) I.length 0, ov2, q2, qb2, 1, iv2, n :: I, by simpa using hs, ⟨hk.fr, hk.frs, hk.bl, hrows⟩, D2.bel.setCell D2.lo _, rfl, .inr ⟨g, I.length + 1, cap, 0, 0, HV2.out, by simp, by omega, by omega⟩⟩
  · first | go_end0 | refine bodyPost_ret (results_none rfl _ _ _) rfl ?_
    have D2 := HD2.out
    have hgs := set_grown w2 ⟨b, 2, none⟩ (.slice (some ⟨g, 1, none⟩) I.length (cap - 1))
    have hty : TyRow w2 (some b) 120 := tyRow_at D2.cell
    have hs := heap_setCell_same w2 b 2 _ _ (.slice (some ⟨g, 1, none⟩) I.length (cap - 1)) D2.cell
    have hk := D2.own.keep hgs hty (by decide) (by decide) (by decide) (by decide)
    have hrows := hk.rows
    simp only at hrows
    rw [HI.out] at hrows
    exact ⟨rfl, fv2, bv2, .slice (some ⟨g, 1, none⟩) I.length (cap - 1), ov2, q2, qb2, 1, iv2, n :: I, by simpa using hs, ⟨hk.fr, hk.frs, hk.bl, hrows⟩, D2.bel.setCell D2.lo _, rfl, .inr ⟨g, I.length + 1, cap, 1, (cap - 1), HV2.out, by simp, by omega, by omega⟩⟩
set_option maxRecDepth 100000 in
set_option maxHeartbeats 2000000 in
theorem nb_trap (w0 : World) (b : Nat) (pv : Value) (M : Mach) (D : List Frm) (x : Frm) (r : List Val) (v : Val) (w : World) (h : Doer w0 w b pv M) (hF : M.frames = D ++ [x]) (hD : D.length ≤ 100) (hl : x.stk.length ≤ 90) (hs : x.stk = r ++ [v]) (hsz : -9223372036854775808 ≤ v.2 ∧ v.2 ≤ 9223372036854775807) (he : newErr M.blocks v.2 ≠ 0) : Calls Tryz.prog 186 #[.pointer (some ⟨b, 0, none⟩)] w fun e w' => e = .panicked [{ v := .iface 117 (.int .i64 3), recovered := false }] ∧ Below w0.heap.size w0 w' := by
  have hrl := last_val hs
  have hfd := fieldN
  obtain ⟨g, cap, bv, iv, ov, q, c, qb, H0⟩ := h.open hF
  have k1 := H0.at_.cells.2.1
  obtain ⟨pb, nb, cb, hbv⟩ := blksOwn_shp H0.at_.own.blks
  rw [hbv] at k1
  have HV := hideP hbv
  have H1 := hideP H0
  have HE := hideP he
  clear h H0 he hbv
  go_enter Tryz.func186, Tryz.ntmps186
  go_wp2_with fail
  go_region_held3 (fun W => W.cell? ⟨b, 1, none⟩ = some (.slice pb nb cb)) (first | go_keep | exact n1)
    (first
      | (go_at_call 178; (refine (dTake_any w0 b pv M D x r v _ (H1.out.below ((Below.refl _ w).drew)).doer hF hs hD (by omega)).mono ?_); rintro e w2 ⟨rfl, h2, o2⟩; obtain ⟨og, oj⟩ := o2 _ _ _ (H1.out.below ((Below.refl _ w).drew)).fcell; have n1 := og.cell (H1.out.below ((Below.refl _ w).drew)).at_.cells.2.1 (fun e => (H1.out.below ((Below.refl _ w).drew)).gne (by simpa using e)); obtain ⟨fv2, bv2, iv2, ov2, q2, qb2, D2⟩ := h2; have hbv2 : bv2 = .slice pb nb cb := (by have := n1.symm.trans D2.cells.2.1; rw [HV.out] at this; simpa using this.symm); rw [HV.out] at n1; subst hbv2; have HD2 := hideP D2; clear D2 o2 og oj)
      | (go_at_call 223; (refine (bNew_any M.blocks v.2 hsz _ _ (blksAt_of_own HD2.out.own.blks)).mono ?_); rintro e w3 ⟨u, rfl, u3, b3⟩; obtain ⟨pu, nu, cu, hpu⟩ := blksOwn_shp u3; subst hpu; have HD3 := hideP (HD2.out.below b3); have n1 := HD3.out.cells.2.1; have z1 := Lib.frozen_of_heap HD3.out.cell 1; have U3 := hideP u3; have B3 := hideP b3; clear u3 b3))
  have he' : (newErr M.blocks v.2 != 0) = true := by simpa using HE.out
  go_wp2
  exact ⟨rfl, rfl, HD3.out.bel⟩
set_option maxRecDepth 100000 in
set_option maxHeartbeats 2000000 in
theorem nb_ok (w0 : World) (b : Nat) (pv : Value) (M : Mach) (D : List Frm) (x : Frm) (r : List Val) (v : Val) (w : World) (h : Doer w0 w b pv M) (hF : M.frames = D ++ [x]) (hD : D.length ≤ 100) (hl : x.stk.length ≤ 90) (hs : x.stk = r ++ [v]) (hsz : -9223372036854775808 ≤ v.2 ∧ v.2 ≤ 9223372036854775807) (he : newErr M.blocks v.2 = 0) : Calls Tryz.prog 186 #[.pointer (some ⟨b, 0, none⟩)] w fun e w' => e = .returned (.tuple #[]) ∧ Doer w0 w' b pv { M with frames := D ++ [{ x with stk := r ++ [(true, newRef M.blocks v.2)] }], blocks := newR M.blocks v.2 } := by
  have hrl := last_val hs
  have hfd := fieldN
  obtain ⟨g, cap, bv, iv, ov, q, c, qb, H0⟩ := h.open hF
  have k1 := H0.at_.cells.2.1
  obtain ⟨pb, nb, cb, hbv⟩ := blksOwn_shp H0.at_.own.blks
  rw [hbv] at k1
  have HV := hideP hbv
  have H1 := hideP H0
  have HE := hideP he
  clear h H0 he hbv
  go_enter Tryz.func186, Tryz.ntmps186
  go_wp2_with fail
  go_region_held3 (fun W => W.cell? ⟨b, 1, none⟩ = some (.slice pb nb cb)) (first | go_keep | exact n1)
    (first
      | (go_at_call 178; (refine (dTake_any w0 b pv M D x r v _ (H1.out.below ((Below.refl _ w).drew)).doer hF hs hD (by omega)).mono ?_); rintro e w2 ⟨rfl, h2, o2⟩; obtain ⟨og, oj⟩ := o2 _ _ _ (H1.out.below ((Below.refl _ w).drew)).fcell; have n1 := og.cell (H1.out.below ((Below.refl _ w).drew)).at_.cells.2.1 (fun e => (H1.out.below ((Below.refl _ w).drew)).gne (by simpa using e)); obtain ⟨fv2, bv2, iv2, ov2, q2, qb2, D2⟩ := h2; have hbv2 : bv2 = .slice pb nb cb := (by have := n1.symm.trans D2.cells.2.1; rw [HV.out] at this; simpa using this.symm); rw [HV.out] at n1; subst hbv2; have HD2 := hideP D2; clear D2 o2 og oj)
      | (go_at_call 223; (refine (bNew_any M.blocks v.2 hsz _ _ (blksAt_of_own HD2.out.own.blks)).mono ?_); rintro e w3 ⟨u, rfl, u3, b3⟩; obtain ⟨pu, nu, cu, hpu⟩ := blksOwn_shp u3; subst hpu; have HD3 := hideP (HD2.out.below b3); have n1 := HD3.out.cells.2.1; have z1 := Lib.frozen_of_heap HD3.out.cell 1; have U3 := hideP u3; have B3 := hideP b3; clear u3 b3))
  rw [HE.out]
  go_wp2_with (go_at_call 177; refine (dPutRef_any w0 b pv _ D _ _ _ (HD2.out.setBl B3.out U3.out) rfl hD (by simp; omega)).mono ?_; rintro e w5 ⟨rfl, h5, -⟩; have H5 := hideP h5; clear h5)
  go_end0
  have := H5.out
  exact ⟨rfl, this⟩
theorem step_append_at {P : Program} {ops : Array Oper} {o : Oper} {a : Act} {w : World} {K : Act → World → Prop} {Q : Exit → Act → World → Prop} {E : Prop}
    (hg : o.guard = none) (s x : Operand) (t : TypeId) (hop : o.op = Op.call { callee := Callee.builtin Builtin.append, args := #[s, x], argTypes := #[t, t] })
    (base : Nat) (e : TypeId) (i : TypeInfo) (z : Value) (size bytes : Nat) (h1 : P.underlying t = some (.slice e)) (h2 : P.info? e = some i) (h3 : i.zero = some z) (h4 : i.size = size) (h5 : i.bytes = bytes) (h6 : z.cells.size = size) (h7 : 0 < size)
    (v : Value) (n : Nat) (xs : List Value) (hs : a.eval s = v) (hown : w.ownsRow base e size v n xs)
    (ad : Addr) (m c : Nat) (news : List Value) (hx : a.eval x = .slice (some ad) m c) (hn : news.length = m * size) (hc : ∀ j u, news[j]? = some u → w.cell? (ad.add j) = some u) (h1c : ∀ u ∈ news, u.oneCell' = true)
    (b1 : n + m ≤ maxLen) (b2 : (n + m) * bytes ≤ 140737488355328) (hbase : base ≤ w.heap.size)
    (hK : ∀ v' w', w'.ownsRow base e size v' (n + m) (xs ++ news) → w.grownBy w' v.ownBlock → (v'.ownBlock = v.ownBlock ∨ v'.ownBlock = some w.heap.size) → K (a.put o.dst v') w') :
    if Region.wanted o (yielded ops a.tmps) = true then Oper.wp P o a w K Q else E := by
  have hw : Region.wanted o (yielded ops a.tmps) = true := by simp [Region.wanted, hg]
  rw [if_pos hw]
  obtain ⟨v', w', hrun, r1, r2, _, r3⟩ := run_append_own_at (P := P) w base t o.type e i z size bytes h1 h2 h3 h4 h5 h6 h7 v n xs hown ad m c news hn hc h1c b1 b2 hbase
  unfold Oper.wp
  simp [execOp, hop, resolve, invoke, builtin, hs, hx, hrun, Result.andThen]
  exact hK v' w' r1 r2 r3
theorem BRows.swap {W W' : World} {B : Nat} {q : List Value} {L : List (List Int)} {k : Nat} {x y : Value} {b : List Int} (h : BRows W B q L) (hk : q[k]? = some x) (hg : W.grownBy W' x.ownBlock) (hy : W'.ownsRow B 3 1 y b.length (b.map (Value.int .i64))) (hat : ∀ g, y.ownBlock = some g → x.ownBlock = some g ∨ W.heap.size ≤ g) (hb : b.length ≤ 17592186044416) : BRows W' B (q.set k y) (L.set k b) := by
  have hlt := lt_of_at hk
  refine ⟨by simp [h.len], fun i z c hz hc => ?_, fun i j z u g hz hu gz gu => ?_, fun c hc => ?_⟩
  · by_cases e : k = i
    · subst e
      rw [List.getElem?_set_self hlt] at hz
      rw [List.getElem?_set_self (by rw [← h.len]; exact hlt)] at hc
      cases hz; cases hc
      exact hy
    · rw [List.getElem?_set_ne e] at hz hc
      refine row_same (h.each i z c hz hc) fun g hgz => hg.block g (h.lt hz hgz).2.1 fun e2 => ?_
      exact e (h.apart k i x z g hk hz e2.symm hgz)
  · by_cases e : k = i
    · by_cases e' : k = j
      · omega
      · subst e
        rw [List.getElem?_set_self hlt] at hz
        rw [List.getElem?_set_ne e'] at hu
        cases hz
        rcases hat g gz with h1 | h1
        · exact h.apart k j x u g hk hu h1 gu
        · have := (h.lt hu gu).2.1; omega
    · rw [List.getElem?_set_ne e] at hz
      by_cases e' : k = j
      · subst e'
        rw [List.getElem?_set_self hlt] at hu
        cases hu
        rcases hat g gu with h1 | h1
        · exact h.apart i k z x g hz hk gz h1
        · have := (h.lt hz gz).2.1; omega
      · rw [List.getElem?_set_ne e'] at hu
        exact h.apart i j z u g hz hu gz gu
  · rcases List.mem_or_eq_of_mem_set hc with h1 | rfl
    · exact h.small c h1
    · exact hb
theorem DAt.setOut {w0 W : World} {b : Nat} {pv fv bv iv ov : Value} {q : List FV} {qb : List Value} {M : Mach} (h : DAt w0 W b pv fv bv iv ov q qb M) {W2 : World} {u : Value} {O : List Int} (hg : W.grownBy W2 ov.ownBlock) (hr : W2.ownsRow w0.heap.size 3 1 u O.length (O.map (Value.int .i64))) (hat : ∀ z, u.ownBlock = some z → ov.ownBlock = some z ∨ W.heap.size ≤ z) (hO : O.length ≤ 40) : Doer w0 (W2.setCell ⟨b, 3, none⟩ u) b pv { M with out := O } := by
  have hty : TyRow W ov.ownBlock 3 := tyRow_row h.own.out
  have hcell2 : W2.heap[b]? = _ := (hg.block b h.lt (fun e => by
    obtain ⟨cs, fz, hh⟩ := hty b e.symm
    rw [h.cell] at hh; simp at hh)).trans h.cell
  have hgs := set_grown W2 ⟨b, 3, none⟩ u
  have hty2 : TyRow W2 (some b) 120 := tyRow_at hcell2
  have hs := heap_setCell_same W2 b 3 _ _ u hcell2
  have hrows := h.own.rows.swap (k := 1) rfl hg hr hat (by omega)
  refine ⟨fv, bv, iv, u, q, qb, ⟨by simpa using hs, ⟨row_keep (row_keep h.own.fr hg hty (by decide)) hgs hty2 (by decide), (h.own.frs.keep hg hty (by decide)).keep hgs hty2 (by decide), row_keep (row_keep h.own.bl hg hty (by decide)) hgs hty2 (by decide), BRows.keep hrows hgs hty2 (by decide)⟩, (h.bel.grown hg h.bel.size (fun k hk => (h.own.out.lt k hk).1)).setCell h.lo _, h.lo⟩⟩
set_option maxRecDepth 100000 in
set_option maxHeartbeats 2000000 in
theorem sd_trap (w0 : World) (b : Nat) (pv : Value) (M : Mach) (D : List Frm) (x : Frm)  (w : World) (h : Doer w0 w b pv M) (hF : M.frames = D ++ [x]) (hD : D.length ≤ 100) (hl : x.stk.length ≤ 90) (ho : M.out.length = 10) : Calls Tryz.prog 130 #[.pointer (some ⟨b, 0, none⟩)] w fun e w' => e = .panicked [{ v := .iface 117 (.int .i64 5), recovered := false }] ∧ Below w0.heap.size w0 w' := by
  obtain ⟨fv, bv, iv, ov, q, qb, D0⟩ := h
  have k3 := D0.cells.2.2.2.1
  obtain ⟨po, co, hov⟩ := row_shp D0.own.out
  rw [hov, ho] at k3
  have HD0 := hideP D0
  clear D0
  go_enter Tryz.func130, Tryz.ntmps130
  go_wp2
  exact ⟨rfl, rfl, HD0.out.bel⟩
set_option maxRecDepth 100000 in
set_option maxHeartbeats 2000000 in
theorem sd_ok (w0 : World) (b : Nat) (pv : Value) (M : Mach) (D : List Frm) (x : Frm) (r : List Val) (v : Val) (w : World) (h : Doer w0 w b pv M) (hF : M.frames = D ++ [x]) (hD : D.length ≤ 100) (hl : x.stk.length ≤ 90) (hs : x.stk = r ++ [v]) (ho : M.out.length < 10) : Calls Tryz.prog 130 #[.pointer (some ⟨b, 0, none⟩)] w fun e w' => e = .returned (.tuple #[]) ∧ Doer w0 w' b pv { M with frames := D ++ [{ x with stk := r }], out := M.out ++ [v.2] } := by
  have hrl := last_val hs
  have hfd := fieldN
  obtain ⟨i0, hi, hz0, hz1, hz2⟩ := info_parts infoInt
  obtain ⟨g, cap, bv, iv, ov, q, c, qb, H0⟩ := h.open hF
  have k3 := H0.at_.cells.2.2.2.1
  obtain ⟨po, co, hov⟩ := row_shp H0.at_.own.out
  rw [hov] at k3
  have ho' : ((M.out.length : Int) == 10) = false := by simp; omega
  have HV := hideP hov
  have H1 := hideP H0
  clear h H0 hov
  go_enter Tryz.func130, Tryz.ntmps130
  go_wp2_with fail
  go_region_law
    (first
      | (refine step_append_at rfl _ _ 27 rfl w0.heap.size 3 i0 (.int .i64 0) 1 8 Tryz.underlying27 hi hz0 hz1 hz2 rfl (by decide) _ _ _ rfl (HROW.out.alloc _) ⟨w2.heap.size, 0, none⟩ 1 1 [.int .i64 v.2] rfl rfl (cell_one_at (by rw [cell_at' (World.alloc_heap_new w2 (.cells #[.int .i64 v.2] 3)) 0]; rfl)) (by simp [Value.oneCell']) (by unfold maxLen; omega) (by omega) (by have := HD2.out.bel.size; simp; omega) ?_; intro v' w4 hown4 hg4 hat4; obtain ⟨g4, cap4, hv4⟩ := ownsRow_succ hown4; subst hv4; have hb4 := (hg4.block b (heap_lt (heap_old HD2.out.cell _)) (row_not HROW.out HD2.out.cell (by decide))).trans (heap_old HD2.out.cell _); have m4 := cell_at' hb4 3; have z4 := Lib.frozen_of_heap hb4 3; simp at m4; have HO4 := hideP hown4; have HG4 := hideP hg4; have HAT4 := hideP hat4; clear hown4 hg4 hb4 hat4)
      | (go_simp; go_at_call 178; (refine (dTake_any w0 b pv M D x r v _ (H1.out.below ((Below.refl _ w).drew)).doer hF hs hD (by omega)).mono ?_); rintro e w2 ⟨rfl, h2, o2⟩; obtain ⟨og, oj⟩ := o2 _ _ _ (H1.out.below ((Below.refl _ w).drew)).fcell; have n3 := og.cell (H1.out.below ((Below.refl _ w).drew)).at_.cells.2.2.2.1 (fun e => (H1.out.below ((Below.refl _ w).drew)).gne (by simpa using e)); obtain ⟨fv2, bv2, iv2, ov2, q2, qb2, D2⟩ := h2; have hov2 : ov2 = .slice po M.out.length co := (by have := n3.symm.trans D2.cells.2.2.2.1; rw [HV.out] at this; simpa using this.symm); rw [HV.out] at n3; subst hov2; have HD2 := hideP D2; have HROW : Hid (w2.ownsRow w0.heap.size 3 1 (.slice po M.out.length co) M.out.length (M.out.map (Value.int .i64))) := D2.own.out; have z3 := Lib.frozen_of_heap D2.cell 3; have zz3 := fun o => Lib.frozen_of_heap (heap_old D2.cell o) 3; have n33 := fun o => cell_old n3 o; clear D2 o2 og oj))
  all_goals
    go_wp2
    go_end0
    have hO := HO4.out
    refine ⟨rfl, (HD2.out.below ((Below.refl _ w2).alloc (Nat.le_refl _) _)).setOut HG4.out (by simpa using hO) (fun z hz => ?_) (by simp; omega)⟩
    rcases HAT4.out with h1 | h1
    · exact .inl (h1.symm.trans hz)
    · rw [h1] at hz; cases hz; exact .inr (Nat.le_refl _)
end Go.Proofs.YtcadpoknolefpaaGreat


