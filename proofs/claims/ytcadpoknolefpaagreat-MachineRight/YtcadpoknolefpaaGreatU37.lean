/- My texts Nk Nm Nn Nq, joined. -/
import Derived.Test.YtcadpoknolefpaaGreatU15
import Derived.Test.YtcadpoknolefpaaGreatU33
import Derived.Test.YtcadpoknolefpaaGreatU36
/- machine.Step, machine.Start. -/
namespace Go.Proofs.YtcadpoknolefpaaGreat
open Go.RowKit
set_option linter.unusedSimpArgs false
set_option linter.unusedVariables false
/-- a machine, and an errno. -/
def MRet (R : Mach) (er : Int) (w : World) (e : Ending) (w' : World) : Prop := ∃ fv bv iv ov, e = .returned (.tuple #[.agg #[fv, bv, iv, ov, .int .i64 R.status, .int .i64 R.trap], .int .i64 er]) ∧ MRes w' w.heap.size fv bv iv ov R ∧ Below w.heap.size w w'
theorem mres_zero (W : World) (B : Nat) : MRes W B (.slice none 0 0) (.slice none 0 0) (.slice none 0 0) (.slice none 0 0) zeroM := by
  refine MOwn.res (q := []) (qb := []) ⟨World.ownsRow_nil _ _ _ _, fRows_nil W B, World.ownsRow_nil _ _ _ _, ?_⟩
  refine ⟨rfl, fun k x b h1 h2 => ?_, fun i j x y g h1 h2 g1 g2 => ?_, fun b hb => ?_⟩
  · match k with
    | 0 => simp at h1 h2; subst h1; subst h2; exact World.ownsRow_nil _ _ _ _
    | 1 => simp at h1 h2; subst h1; subst h2; exact World.ownsRow_nil _ _ _ _
    | k + 2 => simp at h1
  · match i with
    | 0 => simp at h1; subst h1; cases g1
    | 1 => simp at h1; subst h1; cases g1
    | i + 2 => simp at h1
  · simp [zeroM] at hb
    subst hb
    simp
theorem mres_shp {W : World} {B : Nat} {fv bv iv ov : Value} {M : Mach} (h : MRes W B fv bv iv ov M) : (∃ p n c, fv = .slice p n c) ∧ (∃ p n c, bv = .slice p n c) ∧ (∃ p n c, iv = .slice p n c) ∧ ∃ p n c, ov = .slice p n c := by
  obtain ⟨q, qb, k, iw, I, h1, h2, h3⟩ := h
  obtain ⟨a, b, e1⟩ := row_shp h1.fr
  obtain ⟨c, d, e2⟩ := row_shp h1.bl
  obtain ⟨x, y, e3⟩ := row_shp h1.out
  refine ⟨⟨_, _, _, e1⟩, ⟨_, _, _, e2⟩, ?_, ⟨_, _, _, e3⟩⟩
  rcases h3 with ⟨_, h4⟩ | ⟨g, n, cap, j, c, _, h4, _⟩
  · obtain ⟨p, c, e4⟩ := row_shp h1.inp
    exact ⟨_, _, _, h4.trans e4⟩
  · exact ⟨_, _, _, h4⟩
/-- a machine that came is stored into a variable of the call's own. -/
theorem mres_store {w w3 : World} {R : Nat} {fv bv iv ov : Value} {M : Mach} {cs : Array Value} {fz : Nat × Nat} (h : MRes w3 w.heap.size fv bv iv ov M) (hb : Below w.heap.size w w3) (hr : w3.heap[R]? = some (.cells cs 29 fz)) (hR : w.heap.size ≤ R) : MRes ((((((w3.setCell ⟨R, 0, none⟩ fv).setCell ⟨R, 1, none⟩ bv).setCell ⟨R, 2, none⟩ iv).setCell ⟨R, 3, none⟩ ov).setCell ⟨R, 4, none⟩ (.int .i64 M.status)).setCell ⟨R, 5, none⟩ (.int .i64 M.trap)) w.heap.size fv bv iv ov M ∧ Below w.heap.size w ((((((w3.setCell ⟨R, 0, none⟩ fv).setCell ⟨R, 1, none⟩ bv).setCell ⟨R, 2, none⟩ iv).setCell ⟨R, 3, none⟩ ov).setCell ⟨R, 4, none⟩ (.int .i64 M.status)).setCell ⟨R, 5, none⟩ (.int .i64 M.trap)) := by
  have hg6 := six_grown w3 R fv bv iv ov (.int .i64 M.status) (.int .i64 M.trap)
  exact ⟨h.keep hg6 (tyRow_at hr) (by decide) (by decide) (by decide) (by decide), hb.grown hg6 hb.size (fun k hk => by cases hk; exact hR)⟩
theorem right_pc {p : List Fn} {e : Nat → Nat → Option (List Int)} {m : Mach} (hp : progErr p = 0) (he : AllFit p e) (h : RightM p e m) : PcOk m := fun x hx => by
  obtain ⟨i, hi⟩ := List.getElem?_of_mem hx
  obtain ⟨k, f, hr⟩ := h.each i x hi
  have hcl := (entsOk_at hp he hr.at_).2
  cases hn : (m.frames[i + 1]?).map Frm.fn with
  | none =>
    rw [hn] at hr
    obtain ⟨pc, s, o, out, h1, h2, h3, h4, _⟩ := inner_go he hr
    have := lt_of_at h4
    omega
  | some g =>
    rw [hn] at hr
    obtain ⟨pc, s0, s, hh, h3, h4, h5, h6, h7, h8, h9⟩ := hr.outer g rfl
    have := lt_of_at h6
    omega
set_option maxRecDepth 100000 in
set_option maxHeartbeats 8000000 in
theorem mStep_any (M : Mach) (p : List Fn) (pv fv bv iv ov : Value) (w : World) (h : CkAt w p pv fv bv iv ov M) (hpc : PcOk M) : Calls Tryz.prog 15 #[.agg #[pv], .agg #[fv, bv, iv, ov, .int .i64 M.status, .int .i64 M.trap]] w (MRet (if checkE p M = 0 then stepM p M else zeroM) (checkE p M) w) := by
  obtain ⟨⟨pp, qp, hpv⟩, ⟨pf, cf, hfv⟩, ⟨pb, cb, hbv⟩, ⟨pi, ci, hiv⟩, ⟨po, co, hov⟩⟩ := h.shp
  subst hpv hfv hbv hiv hov
  obtain ⟨W1, hW1⟩ : ∃ W1, ((w.alloc (.cells #[.slice pp p.length qp] 24)).alloc (.cells #[.slice pf M.frames.length cf, .slice pb M.blocks.length cb, .slice pi M.inp.length ci, .slice po M.out.length co, .int .i64 M.status, .int .i64 M.trap] 29)).alloc (.cells #[.slice none 0 0, .slice none 0 0, .slice none 0 0, .slice none 0 0, .int .i64 0, .int .i64 0] 29) = W1 := ⟨_, rfl⟩
  have b1 : Below w.heap.size w W1 := by rw [← hW1]; exact (((Below.refl _ w).alloc (Nat.le_refl _) _).alloc (by simp) _).alloc (by simp; omega) _
  have u1 : W1.heap[w.heap.size]? = some (.cells #[.slice pp p.length qp] 24 (0, 0)) := by rw [← hW1]; exact new_three _ _ _ _
  have u2 : W1.heap[w.heap.size + 1]? = some (.cells #[.slice pf M.frames.length cf, .slice pb M.blocks.length cb, .slice pi M.inp.length ci, .slice po M.out.length co, .int .i64 M.status, .int .i64 M.trap] 29 (0, 0)) := by rw [← hW1]; exact new_three1 _ _ _ _
  have u3 : W1.heap[w.heap.size + 1 + 1]? = some (.cells #[.slice none 0 0, .slice none 0 0, .slice none 0 0, .slice none 0 0, .int .i64 0, .int .i64 0] 29 (0, 0)) := by rw [← hW1]; exact new3 _ _ _ _
  have l1 := heap_lt u1
  have l2 := heap_lt u2
  have l3 := heap_lt u3
  have a0 : W1.cell? ⟨w.heap.size, 0, none⟩ = some (.slice pp p.length qp) := cell_at' u1 0
  have KC : Hid (∀ W, Below W1.heap.size W1 W → W.cell? ⟨w.heap.size, 0, none⟩ = some (.slice pp p.length qp) ∧ W.cell? ⟨w.heap.size + 1, 0, none⟩ = some (.slice pf M.frames.length cf) ∧ W.cell? ⟨w.heap.size + 1, 1, none⟩ = some (.slice pb M.blocks.length cb) ∧ W.cell? ⟨w.heap.size + 1, 2, none⟩ = some (.slice pi M.inp.length ci) ∧ W.cell? ⟨w.heap.size + 1, 3, none⟩ = some (.slice po M.out.length co) ∧ W.cell? ⟨w.heap.size + 1, 4, none⟩ = some (.int .i64 M.status) ∧ W.cell? ⟨w.heap.size + 1, 5, none⟩ = some (.int .i64 M.trap)) := fun W hW => by
    have h1 := (hW.block _ l1).trans u1
    have h2 := (hW.block _ l2).trans u2
    exact ⟨cell_at' h1 0, cell_at' h2 0, cell_at' h2 1, cell_at' h2 2, cell_at' h2 3, cell_at' h2 4, cell_at' h2 5⟩
  have KR : Hid (∀ W, Below W1.heap.size W1 W → W.heap[w.heap.size + 1 + 1]? = some (.cells #[.slice none 0 0, .slice none 0 0, .slice none 0 0, .slice none 0 0, .int .i64 0, .int .i64 0] 29 (0, 0))) := fun W hW => (hW.block _ l3).trans u3
  obtain ⟨-, d0, d1, d2, d3, d4, d5⟩ := KC.out W1 (Below.refl _ _)
  have H1 := h.below b1
  have HCK := hideP (mCheck_any M p _ _ _ _ _ W1 H1 hpc)
  have HH := hideP H1
  clear h H1 u1 u2 u3 hpc
  by_cases hc : checkE p M = 0
  rotate_left
  · rw [if_neg hc]
    have hc' : (checkE p M != 0) = true := by simpa using hc
    generalize checkE p M = er at *
    clear hc
    go_enter Tryz.func15, Tryz.ntmps15
    go_wp2_with fail
    refine HCK.out.mono ?_
    rintro e' w2 ⟨rfl, b2⟩
    obtain ⟨e0, g0, g1, g2, g3, g4, g5⟩ := KC.out w2 b2
    have hr2 := KR.out w2 b2
    have r0 := cell_at' hr2 0
    have r1 := cell_at' hr2 1
    have r2 := cell_at' hr2 2
    have r3 := cell_at' hr2 3
    have r4 := cell_at' hr2 4
    have r5 := cell_at' hr2 5
    simp at r0 r1 r2 r3 r4 r5
    have zz := Lib.frozen_of_heap hr2
    have z0 := zz 0
    have z1 := zz 1
    have z2 := zz 2
    have z3 := zz 3
    have z4 := zz 4
    have z5 := zz 5
    have HR2 := hideP hr2
    clear zz hr2
    go_wp2
    refine bodyPost_ret (v := .tuple #[.agg #[.slice none 0 0, .slice none 0 0, .slice none 0 0, .slice none 0 0, .int .i64 0, .int .i64 0], .int .i64 er]) (by simp [results, Tryz.results15, go_sem, r0, r1, r2, r3, r4, r5]) rfl ?_
    have hg6 := six_grown w2 (w.heap.size + 1 + 1) (.slice none 0 0) (.slice none 0 0) (.slice none 0 0) (.slice none 0 0) (.int .i64 0) (.int .i64 0)
    exact ⟨_, _, _, _, rfl, mres_zero _ _, (bthen0 b1 b2).grown hg6 (bthen0 b1 b2).size (fun k hk => by cases hk; omega)⟩
  rw [if_pos hc]
  rw [hc] at HCK ⊢
  obtain ⟨hp, he, hR⟩ := checkE_zero.1 hc
  have hst := hR.status
  have hsm := (right_small hp he hR).1
  have HPP := hideP hp
  have HEE := hideP he
  have HRR := hideP hR
  clear hp he hR hc
  by_cases h23 : M.status = 2 ∨ M.status = 3
  · have hs : stepM p M = M := by
      unfold stepM
      rw [if_neg (by omega)]
    rw [hs]
    clear hs
    have HSM := hideP hsm
    clear hsm
    obtain ⟨t, ht⟩ : ∃ t : Bool, (M.status == 2) = t := ⟨_, rfl⟩
    have ht3 : t = false → (M.status == 3) = true := fun h => by
      rw [h] at ht
      have h2 : ¬ M.status = 2 := by simpa using ht
      have : M.status = 3 := by omega
      simpa using this
    clear hst h23
    cases t
    · have ht4 := ht3 rfl
      clear ht3
      go_enter Tryz.func15, Tryz.ntmps15
      go_wp2_with fail
      refine HCK.out.mono ?_
      rintro e' w2 ⟨rfl, b2⟩
      obtain ⟨e0, g0, g1, g2, g3, g4, g5⟩ := KC.out w2 b2
      have hr2 := KR.out w2 b2
      have r0 := cell_at' hr2 0
      have r1 := cell_at' hr2 1
      have r2 := cell_at' hr2 2
      have r3 := cell_at' hr2 3
      have r4 := cell_at' hr2 4
      have r5 := cell_at' hr2 5
      simp at r0 r1 r2 r3 r4 r5
      have zz := Lib.frozen_of_heap hr2
      have z0 := zz 0
      have z1 := zz 1
      have z2 := zz 2
      have z3 := zz 3
      have z4 := zz 4
      have z5 := zz 5
      have HR2 := hideP hr2
      clear zz hr2
      have HFM := hideP (freshMachine_any M _ _ _ _ w2 (HH.out.below b2).mach HSM.out)
      go_wp2_with fail
      refine HFM.out.mono ?_
      rintro e' w3 ⟨fv', bv', iv', ov', rfl, q, qb, hown, b3⟩
      have hres := hown.res
      clear hown
      have hsh := mres_shp hres
      obtain ⟨⟨pf3, nf3, cf3, hf3⟩, ⟨pb3, nb3, cb3, hb3⟩, ⟨pi3, ni3, ci3, hi3⟩, ⟨po3, no3, co3, ho3⟩⟩ := hsh
      subst hf3 hb3 hi3 ho3
      have l3' : w.heap.size + 1 + 1 < w2.heap.size := heap_lt HR2.out
      have hr3 := (b3.block _ l3').trans HR2.out
      have s0 := cell_at' hr3 0
      have s1 := cell_at' hr3 1
      have s2 := cell_at' hr3 2
      have s3 := cell_at' hr3 3
      have s4 := cell_at' hr3 4
      have s5 := cell_at' hr3 5
      simp at s0 s1 s2 s3 s4 s5
      have yy := Lib.frozen_of_heap hr3
      have y0 := yy 0
      have y1 := yy 1
      have y2 := yy 2
      have y3 := yy 3
      have y4 := yy 4
      have y5 := yy 5
      have HST := hideP (mres_store (w := w) (hres.low (Nat.le_trans b1.size b2.size)) (bthen0 (bthen0 b1 b2) b3) hr3 (by omega))
      clear yy hr3 hres r0 r1 r2 r3 r4 r5 z0 z1 z2 z3 z4 z5
      go_wp2
      refine bodyPost_ret (v := .tuple #[.agg #[.slice pf3 nf3 cf3, .slice pb3 nb3 cb3, .slice pi3 ni3 ci3, .slice po3 no3 co3, .int .i64 M.status, .int .i64 M.trap], .int .i64 0]) (by simp [results, Tryz.results15, go_sem, s0, s1, s2, s3, s4, s5]) rfl ?_
      exact ⟨_, _, _, _, rfl, HST.out.1, HST.out.2⟩
    · clear ht3
      go_enter Tryz.func15, Tryz.ntmps15
      go_wp2_with fail
      refine HCK.out.mono ?_
      rintro e' w2 ⟨rfl, b2⟩
      obtain ⟨e0, g0, g1, g2, g3, g4, g5⟩ := KC.out w2 b2
      have hr2 := KR.out w2 b2
      have r0 := cell_at' hr2 0
      have r1 := cell_at' hr2 1
      have r2 := cell_at' hr2 2
      have r3 := cell_at' hr2 3
      have r4 := cell_at' hr2 4
      have r5 := cell_at' hr2 5
      simp at r0 r1 r2 r3 r4 r5
      have zz := Lib.frozen_of_heap hr2
      have z0 := zz 0
      have z1 := zz 1
      have z2 := zz 2
      have z3 := zz 3
      have z4 := zz 4
      have z5 := zz 5
      have HR2 := hideP hr2
      clear zz hr2
      have HFM := hideP (freshMachine_any M _ _ _ _ w2 (HH.out.below b2).mach HSM.out)
      go_wp2_with fail
      refine HFM.out.mono ?_
      rintro e' w3 ⟨fv', bv', iv', ov', rfl, q, qb, hown, b3⟩
      have hres := hown.res
      clear hown
      have hsh := mres_shp hres
      obtain ⟨⟨pf3, nf3, cf3, hf3⟩, ⟨pb3, nb3, cb3, hb3⟩, ⟨pi3, ni3, ci3, hi3⟩, ⟨po3, no3, co3, ho3⟩⟩ := hsh
      subst hf3 hb3 hi3 ho3
      have l3' : w.heap.size + 1 + 1 < w2.heap.size := heap_lt HR2.out
      have hr3 := (b3.block _ l3').trans HR2.out
      have s0 := cell_at' hr3 0
      have s1 := cell_at' hr3 1
      have s2 := cell_at' hr3 2
      have s3 := cell_at' hr3 3
      have s4 := cell_at' hr3 4
      have s5 := cell_at' hr3 5
      simp at s0 s1 s2 s3 s4 s5
      have yy := Lib.frozen_of_heap hr3
      have y0 := yy 0
      have y1 := yy 1
      have y2 := yy 2
      have y3 := yy 3
      have y4 := yy 4
      have y5 := yy 5
      have HST := hideP (mres_store (w := w) (hres.low (Nat.le_trans b1.size b2.size)) (bthen0 (bthen0 b1 b2) b3) hr3 (by omega))
      clear yy hr3 hres r0 r1 r2 r3 r4 r5 z0 z1 z2 z3 z4 z5
      go_wp2
      refine bodyPost_ret (v := .tuple #[.agg #[.slice pf3 nf3 cf3, .slice pb3 nb3 cb3, .slice pi3 ni3 ci3, .slice po3 no3 co3, .int .i64 M.status, .int .i64 M.trap], .int .i64 0]) (by simp [results, Tryz.results15, go_sem, s0, s1, s2, s3, s4, s5]) rfl ?_
      exact ⟨_, _, _, _, rfl, HST.out.1, HST.out.2⟩
  · have h01 : M.status = 0 ∨ M.status = 1 := by omega
    obtain ⟨x, k, f, o, n1, n2, n3, n4, n5, n6, n7, n8⟩ := next_op HPP.out HEE.out HRR.out h01
    have HDO : Hid (∀ W, Below W1.heap.size W1 W → Calls Tryz.prog 45 #[.agg #[.slice pp p.length qp], .agg #[.slice pf M.frames.length cf, .slice pb M.blocks.length cb, .slice pi M.inp.length ci, .slice po M.out.length co, .int .i64 M.status, .int .i64 M.trap]] W fun e w' => ∃ fv' bv' iv' ov', e = .returned (.agg #[fv', bv', iv', ov', .int .i64 (doOp p M x o).status, .int .i64 (doOp p M x o).trap]) ∧ MRes w' W.heap.size fv' bv' iv' ov' (doOp p M x o) ∧ Below W.heap.size W w') := fun W hW =>
      strideDo_any p (entP p) M _ _ _ _ _ W HPP.out HEE.out HRR.out h01 (HH.out.below hW).fns (HH.out.below hW).mach n1 n2 n3 n5
    rw [n7]
    clear n1 n2 n3 n4 n5 n6 n7 n8 hsm
    have t2 : (M.status == 2) = false := by simp; omega
    have t3 : (M.status == 3) = false := by simp; omega
    clear h23 h01 hst
    generalize doOp p M x o = R at *
    go_enter Tryz.func15, Tryz.ntmps15
    go_wp2_with fail
    refine HCK.out.mono ?_
    rintro e' w2 ⟨rfl, b2⟩
    obtain ⟨e0, g0, g1, g2, g3, g4, g5⟩ := KC.out w2 b2
    have hr2 := KR.out w2 b2
    have r0 := cell_at' hr2 0
    have r1 := cell_at' hr2 1
    have r2 := cell_at' hr2 2
    have r3 := cell_at' hr2 3
    have r4 := cell_at' hr2 4
    have r5 := cell_at' hr2 5
    simp at r0 r1 r2 r3 r4 r5
    have zz := Lib.frozen_of_heap hr2
    have z0 := zz 0
    have z1 := zz 1
    have z2 := zz 2
    have z3 := zz 3
    have z4 := zz 4
    have z5 := zz 5
    have HR2 := hideP hr2
    clear zz hr2
    go_wp2_with fail
    refine (HDO.out w2 b2).mono ?_
    rintro e' w3 ⟨fv', bv', iv', ov', rfl, hres, b3⟩
    have hsh := mres_shp hres
    obtain ⟨⟨pf3, nf3, cf3, hf3⟩, ⟨pb3, nb3, cb3, hb3⟩, ⟨pi3, ni3, ci3, hi3⟩, ⟨po3, no3, co3, ho3⟩⟩ := hsh
    subst hf3 hb3 hi3 ho3
    have l3' : w.heap.size + 1 + 1 < w2.heap.size := heap_lt HR2.out
    have hr3 := (b3.block _ l3').trans HR2.out
    have s0 := cell_at' hr3 0
    have s1 := cell_at' hr3 1
    have s2 := cell_at' hr3 2
    have s3 := cell_at' hr3 3
    have s4 := cell_at' hr3 4
    have s5 := cell_at' hr3 5
    simp at s0 s1 s2 s3 s4 s5
    have yy := Lib.frozen_of_heap hr3
    have y0 := yy 0
    have y1 := yy 1
    have y2 := yy 2
    have y3 := yy 3
    have y4 := yy 4
    have y5 := yy 5
    have HST := hideP (mres_store (w := w) (hres.low (Nat.le_trans b1.size b2.size)) (bthen0 (bthen0 b1 b2) b3) hr3 (by omega))
    clear yy hr3 hres r0 r1 r2 r3 r4 r5 z0 z1 z2 z3 z4 z5
    go_wp2
    refine bodyPost_ret (v := .tuple #[.agg #[.slice pf3 nf3 cf3, .slice pb3 nb3 cb3, .slice pi3 ni3 ci3, .slice po3 no3 co3, .int .i64 R.status, .int .i64 R.trap], .int .i64 0]) (by simp [results, Tryz.results15, go_sem, s0, s1, s2, s3, s4, s5]) rfl ?_
    exact ⟨_, _, _, _, rfl, HST.out.1, HST.out.2⟩
end Go.Proofs.YtcadpoknolefpaaGreat
/- machine.Start. -/
namespace Go.Proofs.YtcadpoknolefpaaGreat
open Go.RowKit
set_option linter.unusedSimpArgs false
set_option linter.unusedVariables false
/-- a machine of one frame that begins. -/
theorem mres_start {W : World} {B gl bf L : Nat} {l : List Val} (hl : W.ownsRow B 50 2 (.slice (some ⟨gl, 0, none⟩) L L) L (valCells l)) (hL : L = l.length) (hf : W.heap[bf]? = some (.cells #[.int .i64 0, .int .i64 0, .slice (some ⟨gl, 0, none⟩) L L, .slice none 0 0] 48 (0, 0))) (hB : B ≤ bf) : MRes W B (.slice (some ⟨bf, 0, none⟩) 1 1) (.slice none 0 0) (.slice none 0 0) (.slice none 0 0) { zeroM with frames := [{ fn := 0, pc := 0, loc := l, stk := [] }] } := by
  subst hL
  refine MOwn.res (q := [⟨0, 0, .slice (some ⟨gl, 0, none⟩) l.length l.length, .slice none 0 0⟩]) (qb := []) ⟨?_, ?_, World.ownsRow_nil _ _ _ _, ?_⟩
  · exact ⟨rfl, .inr ⟨bf, 1, _, rfl, hB, hf, Nat.le_refl _, (by unfold maxLen; decide), rfl, rfl⟩⟩
  · refine (FRows.snoc (fRows_nil W B) (c := ⟨0, 0, .slice (some ⟨gl, 0, none⟩) l.length l.length, .slice none 0 0⟩) (x := { fn := 0, pc := 0, loc := l, stk := [] }) rfl rfl hl (by simpa [valCells] using World.ownsRow_nil W B 50 2) (Nat.le_refl _) (fun k y g h => by simp [fRows] at h) fun g _ h => by cases h)
  · refine ⟨rfl, fun k x b h1 h2 => ?_, fun i j x y g h1 h2 g1 g2 => ?_, fun b hb => ?_⟩
    · match k with
      | 0 => simp [zeroM] at h1 h2; subst h1; subst h2; exact World.ownsRow_nil _ _ _ _
      | 1 => simp [zeroM] at h1 h2; subst h1; subst h2; exact World.ownsRow_nil _ _ _ _
      | k + 2 => simp at h1
    · match i with
      | 0 => simp at h1; subst h1; cases g1
      | 1 => simp at h1; subst h1; cases g1
      | i + 2 => simp at h1
    · simp [zeroM] at hb
      subst hb
      simp
set_option maxRecDepth 100000 in
set_option maxHeartbeats 4000000 in
theorem mStart_any (p : List Fn) (pv : Value) (w : World) (hp : FnsAt w pv p) (hcp : CapAt w pv) : Calls Tryz.prog 14 #[.agg #[pv]] w (MRet (if fitsE p = 0 then startM p else zeroM) (fitsE p) w) := by
  obtain ⟨pp, qp, hpv, -, -⟩ := id hp
  subst hpv
  obtain ⟨W1, hW1⟩ : ∃ W1, (w.alloc (.cells #[.slice pp p.length qp] 24)).alloc (.cells #[.slice none 0 0, .slice none 0 0, .slice none 0 0, .slice none 0 0, .int .i64 0, .int .i64 0] 29) = W1 := ⟨_, rfl⟩
  have b1 : Below w.heap.size w W1 := by rw [← hW1]; exact ((Below.refl _ w).alloc (Nat.le_refl _) _).alloc (by simp) _
  have u1 : W1.heap[w.heap.size]? = some (.cells #[.slice pp p.length qp] 24 (0, 0)) := by rw [← hW1]; exact heap_old (World.alloc_heap_new w _) _
  have u3 : W1.heap[w.heap.size + 1]? = some (.cells #[.slice none 0 0, .slice none 0 0, .slice none 0 0, .slice none 0 0, .int .i64 0, .int .i64 0] 29 (0, 0)) := by rw [← hW1]; exact new_two _ _ _
  have l1 := heap_lt u1
  have l3 := heap_lt u3
  have a0 : W1.cell? ⟨w.heap.size, 0, none⟩ = some (.slice pp p.length qp) := cell_at' u1 0
  have KC : Hid (∀ W, Below W1.heap.size W1 W → W.cell? ⟨w.heap.size, 0, none⟩ = some (.slice pp p.length qp)) := fun W hW => cell_at' ((hW.block _ l1).trans u1) 0
  have KR : Hid (∀ W, Below W1.heap.size W1 W → W.heap[w.heap.size + 1]? = some (.cells #[.slice none 0 0, .slice none 0 0, .slice none 0 0, .slice none 0 0, .int .i64 0, .int .i64 0] 29 (0, 0))) := fun W hW => (hW.block _ l3).trans u3
  have H1 := hp.below b1
  have HP : Hid (Calls Tryz.prog 42 #[.agg #[.slice pp p.length qp]] W1 fun e w' => e = .returned (.int .i64 (fitsE p)) ∧ Below W1.heap.size W1 w') := (vProgram_any p _ W1 H1 (hcp.below hp b1)).mono fun e w' ⟨er, h1, h2, h3⟩ => ⟨by rw [h1, progIs_fitsE h2], h3⟩
  have HH := hideP H1
  clear hp hcp H1 u1 u3
  by_cases hc : fitsE p = 0
  rotate_left
  · rw [if_neg hc]
    have hc' : (fitsE p != 0) = true := by simpa using hc
    generalize fitsE p = er at *
    clear hc
    go_enter Tryz.func14, Tryz.ntmps14
    go_wp2_with fail
    refine HP.out.mono ?_
    rintro e' w2 ⟨rfl, b2⟩
    have e0 := KC.out w2 b2
    have hr2 := KR.out w2 b2
    have r0 := cell_at' hr2 0
    have r1 := cell_at' hr2 1
    have r2 := cell_at' hr2 2
    have r3 := cell_at' hr2 3
    have r4 := cell_at' hr2 4
    have r5 := cell_at' hr2 5
    simp at r0 r1 r2 r3 r4 r5
    have zz := Lib.frozen_of_heap hr2
    have z0 := zz 0
    have z1 := zz 1
    have z2 := zz 2
    have z3 := zz 3
    have z4 := zz 4
    have z5 := zz 5
    have HR2 := hideP hr2
    clear zz hr2
    go_wp2
    refine bodyPost_ret (v := .tuple #[.agg #[.slice none 0 0, .slice none 0 0, .slice none 0 0, .slice none 0 0, .int .i64 0, .int .i64 0], .int .i64 er]) (by simp [results, Tryz.results14, go_sem, r0, r1, r2, r3, r4, r5]) rfl ?_
    have hg6 := six_grown w2 (w.heap.size + 1) (.slice none 0 0) (.slice none 0 0) (.slice none 0 0) (.slice none 0 0) (.int .i64 0) (.int .i64 0)
    exact ⟨_, _, _, _, rfl, mres_zero _ _, (bthen0 b1 b2).grown hg6 (bthen0 b1 b2).size (fun k hk => by cases hk; omega)⟩
  rw [if_pos hc]
  rw [hc] at HP ⊢
  obtain ⟨hpe, he⟩ := fitsE_zero.1 hc
  obtain ⟨f, hf, hst, hR⟩ := startM_right hpe he
  have hL : f.2.1.length ≤ 20 := (right_small hpe he hR).1.each _ (by rw [hst]; exact List.mem_cons_self) |>.1 |> fun h => by simpa [freshL] using h
  have HB : Hid (∀ W, Below W1.heap.size W1 W → Calls Tryz.prog 43 #[.agg #[.slice pp p.length qp], .int .i64 0] W fun e w' => ∃ gl, e = .returned (.agg #[.int .i64 0, .int .i64 0, .slice (some ⟨gl, 0, none⟩) f.2.1.length f.2.1.length, .slice none 0 0]) ∧ w'.ownsRow W.heap.size 50 2 (.slice (some ⟨gl, 0, none⟩) f.2.1.length f.2.1.length) f.2.1.length (valCells (freshL f.2.1)) ∧ Below W.heap.size W w') := fun W hW => begin_any p _ 0 f W (HH.out.below hW) hf (by omega)
  rw [hst]
  have HFL := hideP (freshL_length f.2.1)
  clear hc hpe he hst hR hL hf
  go_enter Tryz.func14, Tryz.ntmps14
  go_wp2_with fail
  refine HP.out.mono ?_
  rintro e' w2 ⟨rfl, b2⟩
  have e0 := KC.out w2 b2
  go_wp2_with fail
  refine (HB.out w2 b2).mono ?_
  rintro e' w3 ⟨gl, rfl, hrow, b3⟩
  have b23 := bthen0 b2 b3
  have hr3 := KR.out w3 b23
  obtain ⟨W4, hW4⟩ : ∃ W4, w3.alloc (.cells #[.int .i64 0, .int .i64 0, .slice (some ⟨gl, 0, none⟩) f.2.1.length f.2.1.length, .slice none 0 0] 48) = W4 := ⟨_, rfl⟩
  have b4 : Below w3.heap.size w3 W4 := by rw [← hW4]; exact (Below.refl _ w3).alloc (Nat.le_refl _) _
  have v4 : W4.heap[w3.heap.size]? = some (.cells #[.int .i64 0, .int .i64 0, .slice (some ⟨gl, 0, none⟩) f.2.1.length f.2.1.length, .slice none 0 0] 48 (0, 0)) := by rw [← hW4]; exact World.alloc_heap_new w3 _
  have hr4 := (b4.block _ (heap_lt hr3)).trans hr3
  have s0 := cell_at' hr4 0
  have s1 := cell_at' hr4 1
  have s2 := cell_at' hr4 2
  have s3 := cell_at' hr4 3
  have s4 := cell_at' hr4 4
  have s5 := cell_at' hr4 5
  simp at s0 s1 s2 s3 s4 s5
  have yy := Lib.frozen_of_heap hr4
  have y0 := yy 0
  have y1 := yy 1
  have y2 := yy 2
  have y3 := yy 3
  have y4 := yy 4
  have y5 := yy 5
  have hrow4 : W4.ownsRow w2.heap.size 50 2 (.slice (some ⟨gl, 0, none⟩) f.2.1.length f.2.1.length) f.2.1.length (valCells (freshL f.2.1)) := row_same hrow fun j hj => b4.block j (hrow.lt j hj).2
  have hs12 := b2.size
  have hs23 := b3.size
  have hs01 := b1.size
  have hres : MRes W4 w.heap.size _ _ _ _ _ := mres_start (row_low hrow4 (by omega)) HFL.out.symm v4 (by omega)
  have HST := hideP (mres_store (w := w) hres (bthen0 b1 (bthen0 b23 b4)) hr4 (by omega))
  clear yy hr3 hr4 v4 hrow hrow4 hres b4 hs12 hs23 hs01
  go_wp2
  refine bodyPost_ret (v := .tuple #[.agg #[.slice (some ⟨w3.heap.size, 0, none⟩) 1 1, .slice none 0 0, .slice none 0 0, .slice none 0 0, .int .i64 0, .int .i64 0], .int .i64 0]) (by simp [results, Tryz.results14, go_sem, s0, s1, s2, s3, s4, s5]) rfl ?_
  exact ⟨_, _, _, _, rfl, HST.out.1, HST.out.2⟩
end Go.Proofs.YtcadpoknolefpaaGreat
/- The reference's OpOf. -/
namespace Go.Proofs.YtcadpoknolefpaaGreat
open Go.RowKit
set_option linter.unusedSimpArgs false
set_option linter.unusedVariables false
theorem two_cellD {w : World} {R : Nat} {a b v : Value} {p : Addr} (h : w.cell? p = some v) (hn : ¬ p.block = R) : ((w.setCell ⟨R, 0, none⟩ a).setCell ⟨R, 1, none⟩ b).drew.cell? p = some v := two_cell h hn
set_option maxRecDepth 100000 in
set_option maxHeartbeats 4000000 in
theorem opOf_any (M : Mach) (p : List Fn) (pv fv bv iv ov : Value) (w : World) (h : CkAt w p pv fv bv iv ov M) (h6 : M.frames.length ≤ 1000) (x : Frm) (kk pc : Nat) (f : Fn) (o : Int × Int) (hx : M.frames.getLast? = some x) (hkk : x.fn = (kk : Int)) (hf : p[kk]? = some f) (hxp : x.pc = (pc : Int)) (ho : f.2.2.2[pc]? = some o) (hcl : f.2.2.2.length ≤ 1000) (hpl : p.length ≤ 1000) : Calls Tryz.prog 25 #[.agg #[pv], .agg #[fv, bv, iv, ov, .int .i64 M.status, .int .i64 M.trap]] w fun e w' => e = .returned (.agg #[.int .i64 o.1, .int .i64 o.2]) ∧ Below w.heap.size w w' := by
  obtain ⟨⟨pp, qp, hpv⟩, -, ⟨pb, cb, hbv⟩, ⟨pi, ci, hiv⟩, ⟨po, co, hov⟩⟩ := h.shp
  subst hpv hbv hiv hov
  obtain ⟨W1, hW1⟩ : ∃ W1, ((w.alloc (.cells #[.slice pp p.length qp] 24)).alloc (.cells #[fv, .slice pb M.blocks.length cb, .slice pi M.inp.length ci, .slice po M.out.length co, .int .i64 M.status, .int .i64 M.trap] 29)).alloc (.cells #[.int .i64 0, .int .i64 0] 43) = W1 := ⟨_, rfl⟩
  have b1 : Below w.heap.size w W1 := by rw [← hW1]; exact (((Below.refl _ w).alloc (Nat.le_refl _) _).alloc (by simp) _).alloc (by simp; omega) _
  have u1 : W1.heap[w.heap.size]? = some (.cells #[.slice pp p.length qp] 24 (0, 0)) := by rw [← hW1]; exact new_three _ _ _ _
  have u2 : W1.heap[w.heap.size + 1]? = some (.cells #[fv, .slice pb M.blocks.length cb, .slice pi M.inp.length ci, .slice po M.out.length co, .int .i64 M.status, .int .i64 M.trap] 29 (0, 0)) := by rw [← hW1]; exact new_three1 _ _ _ _
  have u3 : W1.heap[w.heap.size + 1 + 1]? = some (.cells #[.int .i64 0, .int .i64 0] 43 (0, 0)) := by rw [← hW1]; exact new3 _ _ _ _
  obtain ⟨pf, cf, hfv, hfm, -, hfc⟩ := id h.mach.fr
  subst hfv
  obtain ⟨c, A⟩ := o
  obtain ⟨n, hn⟩ : ∃ n, M.frames.length = n + 1 := by
    cases hm : M.frames with
    | nil => rw [hm] at hx; simp at hx
    | cons a r => exact ⟨r.length, by simp⟩
  have hxn : M.frames[n]? = some x := by rw [← hx, List.getLast?_eq_getElem?, hn]; rfl
  obtain ⟨g, off, lv1, sv1, rfl, hg, x0, x1, x2, x3, hL, -, hS, -⟩ := hfc n x hxn
  obtain ⟨pl1, cl1, hlv1, hlm1, -⟩ := id hL
  obtain ⟨ps1, cs1, hsv1, hsm1, -⟩ := id hS
  subst hlv1 hsv1
  obtain ⟨pp', qp', hpe, -, hpc⟩ := id h.fns
  cases hpe
  obtain ⟨fb, fo, c0, c1, c2, c3, hpp, hplt, -, -, -, z3, hfn⟩ := hpc kk f hf
  subst hpp
  obtain ⟨-, -, -, hops⟩ := hfn
  obtain ⟨p3, q3, he3, -, hoc⟩ := id hops
  subst he3
  obtain ⟨ob, oo, hob, holt, o0, o1⟩ := hoc pc _ ho
  subst hob
  simp only at o0 o1
  have hkl := lt_of_at hf
  have hpl' := lt_of_at ho
  have hkli : (kk : Int) < (p.length : Int) := by omega
  have hpcli : (pc : Int) < (f.2.2.2.length : Int) := by omega
  rw [hkk] at x0
  rw [hxp] at x1
  replace x0 := (b1.cell (p := ⟨g, off + n * 4, none⟩) hg).trans x0
  replace x1 := (b1.cell (p := ⟨g, off + n * 4 + 1, none⟩) hg).trans x1
  replace x2 := (b1.cell (p := ⟨g, off + n * 4 + 2, none⟩) hg).trans x2
  replace x3 := (b1.cell (p := ⟨g, off + n * 4 + 3, none⟩) hg).trans x3
  replace z3 := (b1.cell (p := ⟨fb, fo + kk * 4 + 3, none⟩) hplt).trans z3
  replace o0 := (b1.cell (p := ⟨ob, oo + pc * 2, none⟩) holt).trans o0
  replace o1 := (b1.cell (p := ⟨ob, oo + pc * 2 + 1, none⟩) holt).trans o1
  have a0 : W1.cell? ⟨w.heap.size, 0, none⟩ = some (.slice (some ⟨fb, fo, none⟩) p.length qp) := cell_at' u1 0
  have d0 : W1.cell? ⟨w.heap.size + 1, 0, none⟩ = some (.slice (some ⟨g, off, none⟩) M.frames.length cf) := cell_at' u2 0
  have r0 := cell_at' u3 0
  have r1 := cell_at' u3 1
  simp at r0 r1
  rw [hn] at d0 hW1
  have hnlt : (n : Int) < ((n + 1 : Nat) : Int) := by omega
  have hn6 : n ≤ 1000 := by omega
  have hsz : w.heap.size + 1 + 1 < W1.heap.size := heap_lt u3
  have hne : ∀ q : Addr, W1.cell? q = W1.cell? q := fun _ => rfl
  have a0a := fun o => cell_old a0 o
  have z3a := fun o => cell_old z3 o
  have o0a := fun o => cell_old o0 o
  have o1a := fun o => cell_old o1 o
  have zz := Lib.frozen_of_heap u3
  have z0 := zz 0
  have z1 := zz 1
  have HU3 := hideP u3
  have HB1 := hideP b1
  clear zz h h6 hx hkk hf hxp ho hxn hfc hpc hoc hops hL hS u1 u2 u3 b1
  rw [hn]
  go_enter Tryz.func25, Tryz.ntmps25
  go_wp2_with fail
  obtain ⟨X, hX⟩ : ∃ X, W1.alloc (.cells #[.int .i64 kk, .int .i64 pc, .slice pl1 x.loc.length cl1, .slice ps1 x.stk.length cs1] 48) = X := ⟨_, rfl⟩
  have bX : Below W1.heap.size W1 X := by rw [← hX]; exact (Below.refl _ W1).alloc (Nat.le_refl _) _
  have uX : X.heap[W1.heap.size]? = some (.cells #[.int .i64 kk, .int .i64 pc, .slice pl1 x.loc.length cl1, .slice ps1 x.stk.length cs1] 48 (0, 0)) := by rw [← hX]; exact World.alloc_heap_new W1 _
  have q0 := cell_at' uX 0
  have q1 := cell_at' uX 1
  simp at q0 q1
  have s0 : X.cell? ⟨w.heap.size, 0, none⟩ = some (.slice (some ⟨fb, fo, none⟩) p.length qp) := by rw [← hX]; exact a0a _
  have s1 : X.cell? ⟨fb, fo + kk * 4 + 3, none⟩ = some (.slice (some ⟨ob, oo, none⟩) f.2.2.2.length q3) := by rw [← hX]; exact z3a _
  have s2 : X.cell? ⟨ob, oo + pc * 2, none⟩ = some (.int .i64 c) := by rw [← hX]; exact o0a _
  have s3 : X.cell? ⟨ob, oo + pc * 2 + 1, none⟩ = some (.int .i64 A) := by rw [← hX]; exact o1a _
  have v3 := (bX.block _ hsz).trans HU3.out
  have r0' := cell_at' v3 0
  have r1' := cell_at' v3 1
  simp at r0' r1'
  have vz := Lib.frozen_of_heap v3
  have vz0 := vz 0
  have vz1 := vz 1
  have HV3 := hideP v3
  have HBX := hideP bX
  have g1 : ¬ w.heap.size = w.heap.size + 1 + 1 := by omega
  have g2 : ¬ fb = w.heap.size + 1 + 1 := by omega
  have g3 : ¬ ob = w.heap.size + 1 + 1 := fun e => by omega
  have g4 : ¬ W1.heap.size = w.heap.size + 1 + 1 := by omega
  rw [hX]
  clear vz v3 bX uX hX a0a z3a o0a o1a r0 r1 z0 z1
  have T0 := two_cellD (a := .int .i64 c) (b := .int .i64 A) s0 g1
  have T1 := two_cellD (a := .int .i64 c) (b := .int .i64 A) s1 g2
  have T2 := two_cellD (a := .int .i64 c) (b := .int .i64 A) s2 g3
  have T3 := two_cellD (a := .int .i64 c) (b := .int .i64 A) s3 g3
  have T4 := two_cellD (a := .int .i64 c) (b := .int .i64 A) q0 g4
  have T5 := two_cellD (a := .int .i64 c) (b := .int .i64 A) q1 g4
  go_region_held3 (fun X => X.cell? ⟨w.heap.size, 0, none⟩ = some (.slice (some ⟨fb, fo, none⟩) p.length qp) ∧ X.cell? ⟨fb, fo + kk * 4 + 3, none⟩ = some (.slice (some ⟨ob, oo, none⟩) f.2.2.2.length q3) ∧ X.cell? ⟨ob, oo + pc * 2, none⟩ = some (.int .i64 c) ∧ X.cell? ⟨ob, oo + pc * 2 + 1, none⟩ = some (.int .i64 A) ∧ X.cell? ⟨W1.heap.size, 0, none⟩ = some (.int .i64 kk) ∧ X.cell? ⟨W1.heap.size, 1, none⟩ = some (.int .i64 pc)) (first | go_keep | exact ⟨T0, T1, T2, T3, T4, T5⟩) (fail)
  go_wp2
  refine bodyPost_ret (v := .agg #[.int .i64 c, .int .i64 A]) (by simp [results, Tryz.results25, go_sem, r0', r1', vz0, vz1, s0]) rfl ⟨rfl, ?_⟩
  exact (((bthen0 HB1.out HBX.out).setCell (p := ⟨w.heap.size + 1 + 1, 0, none⟩) (by simp; omega) _).setCell (p := ⟨w.heap.size + 1 + 1, 1, none⟩) (by simp; omega) _).drew
end Go.Proofs.YtcadpoknolefpaaGreat
/- What must be in any case of machines. -/
namespace Go.Proofs.YtcadpoknolefpaaGreat
open Go.RowKit
set_option linter.unusedSimpArgs false
set_option linter.unusedVariables false
theorem progIs_some {p : List Fn} {pv : Value} {w : World} (hp : FnsAt w pv p) (hcp : CapAt w pv) : ∃ er, ProgIs p er := by
  obtain ⟨e, w', fr, ⟨er, _, h, _⟩, _⟩ := vProgram_any p pv w hp hcp []
  exact ⟨er, h⟩
theorem counter_prog {er : Int} (h : ProgIs counterFns er) : er = 0 := by
  rcases h with ⟨a, _⟩ | ⟨_, h, _⟩ | ⟨_, _, f, hf, hl⟩
  · exact absurd ct1.1 a
  · exact h
  · have hf' : f = (0, [], 0, loopOps) := by simpa [counterFns] using hf
    subst hf'
    exact absurd (fitsB_sound ct1.2.1 ct1.2.2) (hl _)
theorem counter_fits {pv : Value} {w : World} (hp : FnsAt w pv counterFns) (hcp : CapAt w pv) : fitsE counterFns = 0 := by
  obtain ⟨er, h⟩ := progIs_some hp hcp
  rw [← progIs_fitsE h]
  exact counter_prog h
theorem square_fits {pv : Value} {w : World} (hp : FnsAt w pv squareFns) (hcp : CapAt w pv) : fitsE squareFns = 0 := by
  obtain ⟨er, h⟩ := progIs_some hp hcp
  rw [← progIs_fitsE h]
  exact square_prog h
/-- machines that begin: of counter, and behind its first op; of square, and behind its first op. -/
def beginM : Mach := { zeroM with frames := [{ fn := 0, pc := 0, loc := [], stk := [] }] }
def secondM : Mach := { zeroM with frames := [{ fn := 0, pc := 1, loc := [], stk := [(false, 3)] }] }
def waitsM : Mach := { beginM with status := 1 }
theorem cb1 : startM counterFns = beginM ∧ stepM counterFns beginM = secondM := ⟨rfl, by simp [stepM, beginM, zeroM, lastOp, counterFns, loopOps, doOp, onF, putF, secondM]⟩
theorem cb2 : startM squareFns = beginM ∧ stepM squareFns beginM = waitsM := ⟨rfl, by simp [stepM, beginM, zeroM, lastOp, squareFns, doOp, waitsM]⟩
theorem begin_ok {p : List Fn} (hf : fitsE p = 0) (hs : startM p = beginM) : checkE p beginM = 0 ∧ checkE p (stepM p beginM) = 0 := by
  obtain ⟨hp, he⟩ := fitsE_zero.1 hf
  obtain ⟨f, _, _, hR⟩ := startM_right hp he
  rw [hs] at hR
  exact ⟨checkE_zero.2 ⟨hp, he, hR⟩, checkE_zero.2 ⟨hp, he, stepM_right hp he hR⟩⟩
/-- Start and Step of them. -/
theorem start_begin {p : List Fn} {pv : Value} {w : World} (hp : FnsAt w pv p) (hcp : CapAt w pv) (hf : fitsE p = 0) (hs : startM p = beginM) : Calls Tryz.prog 14 #[.agg #[pv]] w (MRet beginM 0 w) := by
  have := mStart_any p pv w hp hcp
  rw [hf, if_pos rfl, hs] at this
  exact this
theorem pcOk_begin : PcOk beginM := fun x hx => by simp [beginM, zeroM] at hx; subst hx; simp
theorem pcOk_second : PcOk secondM := fun x hx => by simp [secondM, zeroM] at hx; subst hx; simp
theorem step_begin {p : List Fn} {pv fv bv iv ov : Value} {w : World} (h : CkAt w p pv fv bv iv ov beginM) (hf : fitsE p = 0) (hs : startM p = beginM) : Calls Tryz.prog 15 #[.agg #[pv], .agg #[fv, bv, iv, ov, .int .i64 beginM.status, .int .i64 beginM.trap]] w (MRet (stepM p beginM) 0 w) := by
  have := mStep_any beginM p pv fv bv iv ov w h pcOk_begin
  rw [(begin_ok hf hs).1, if_pos rfl] at this
  exact this
/-- what can be read of a machine that came. -/
theorem mres_shpN {W : World} {B : Nat} {fv bv iv ov : Value} {M : Mach} (h : MRes W B fv bv iv ov M) : (∃ p c, fv = .slice p M.frames.length c) ∧ (∃ p c, bv = .slice p M.blocks.length c) ∧ (∃ p c, iv = .slice p M.inp.length c) ∧ ∃ p c, ov = .slice p M.out.length c := by
  obtain ⟨q, qb, k, iw, I, h1, h2, h3⟩ := h
  obtain ⟨a, b, e1⟩ := row_shp h1.fr
  obtain ⟨c, d, e2⟩ := row_shp h1.bl
  obtain ⟨x, y, e3⟩ := row_shp h1.out
  refine ⟨⟨_, _, by rw [e1, h1.frs.len]⟩, ⟨_, _, by rw [e2]; have := h1.rows.len; simp at this; rw [this]⟩, ?_, ⟨_, _, e3⟩⟩
  rcases h3 with ⟨h0, h4⟩ | ⟨g, n, cap, j, c, h5, h4, _⟩
  · obtain ⟨p, c, e4⟩ := row_shp h1.inp
    subst h0
    refine ⟨p, c, ?_⟩
    rw [h4, e4, h2]
    simp
  · obtain ⟨p, c', e4⟩ := row_shp h1.inp
    rw [h5] at e4
    cases e4
    refine ⟨some ⟨g, j, none⟩, c, ?_⟩
    rw [h4, h2, List.length_drop]
end Go.Proofs.YtcadpoknolefpaaGreat
