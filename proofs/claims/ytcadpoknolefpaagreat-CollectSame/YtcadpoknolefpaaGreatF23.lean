/- My texts Tc Bf Bg: what of them is needed, joined. -/
import Derived.Deep.RegionHeld3
import Derived.Test.YtcadpoknolefpaaGreatF12
import Derived.Test.YtcadpoknolefpaaGreatF22
set_option maxRecDepth 100000
set_option maxHeartbeats 8000000
/- meter.Run. -/
namespace Go.Proofs.YtcadpoknolefpaaGreat
open Go.RowKit
set_option linter.unusedSimpArgs false
set_option linter.unusedVariables false
theorem xrxZ {W : World} {R : Nat} {t : TypeId} {a0 a1 a2 a3 a4 a5 a6 a7 a b c d e f g h : Value} (hh : W.heap[R]? = some (.cells #[a0, a1, a2, a3, a4, a5, a6, a7] t (0, 0))) : ((((((((W.setCell ⟨R, 0, none⟩ a).setCell ⟨R, 1, none⟩ b).setCell ⟨R, 2, none⟩ c).setCell ⟨R, 3, none⟩ d).setCell ⟨R, 4, none⟩ e).setCell ⟨R, 5, none⟩ f).setCell ⟨R, 6, none⟩ g).setCell ⟨R, 7, none⟩ h).heap[R]? = some (.cells #[a, b, c, d, e, f, g, h] t (0, 0)) := by
  have h1 := heap_setCell_same W R 0 _ _ a hh
  have h2 := heap_setCell_same _ R 1 _ _ b h1
  have h3 := heap_setCell_same _ R 2 _ _ c h2
  have h4 := heap_setCell_same _ R 3 _ _ d h3
  have h5 := heap_setCell_same _ R 4 _ _ e h4
  have h6 := heap_setCell_same _ R 5 _ _ f h5
  have h7 := heap_setCell_same _ R 6 _ _ g h6
  have h8 := heap_setCell_same _ R 7 _ _ h h7
  simpa using h8
theorem xpiZ (W : World) (R : Nat) (a b c d e f g h : Value) : W.grownBy ((((((((W.setCell ⟨R, 0, none⟩ a).setCell ⟨R, 1, none⟩ b).setCell ⟨R, 2, none⟩ c).setCell ⟨R, 3, none⟩ d).setCell ⟨R, 4, none⟩ e).setCell ⟨R, 5, none⟩ f).setCell ⟨R, 6, none⟩ g).setCell ⟨R, 7, none⟩ h) (some R) := xh8Z W R a b c d e f g |>.trans (xalZ _ ⟨R, 7, none⟩ h)
theorem xdyZ {W : World} {R : Nat} {a b c d e f g h v : Value} {p : Addr} (hc : W.cell? p = some v) (hn : ¬ p.block = R) : ((((((((W.setCell ⟨R, 0, none⟩ a).setCell ⟨R, 1, none⟩ b).setCell ⟨R, 2, none⟩ c).setCell ⟨R, 3, none⟩ d).setCell ⟨R, 4, none⟩ e).setCell ⟨R, 5, none⟩ f).setCell ⟨R, 6, none⟩ g).setCell ⟨R, 7, none⟩ h).cell? p = some v := by
  rw [World.cell?_setCell_far _ _ _ _ (fun e => hn e.symm)]
  exact xbuZ hc hn
theorem drew_cellE (w : World) (p : Addr) : w.drew.cell? p = w.cell? p := rfl
theorem xb4Z {w : World} {R : Nat} {a b c d e f v : Value} {p : Addr} (h : w.cell? p = some v) (hn : ¬ p.block = R) : ((((((w.setCell ⟨R, 0, none⟩ a).setCell ⟨R, 1, none⟩ b).setCell ⟨R, 2, none⟩ c).setCell ⟨R, 3, none⟩ d).setCell ⟨R, 4, none⟩ e).setCell ⟨R, 5, none⟩ f).drew.cell? p = some v := (drew_cellE _ _).trans (xauZ h hn)
noncomputable def runE (p : List Fn) (M : Mach) (n : Int) : Int := if xaqZ p M ≠ 0 then xaqZ p M else if n < 0 ∨ 10000 < n then 3 else 0
def RunRes (p : List Fn) (M : Mach) (n : Int) (t : MF) : Prop := (runE p M n = 0 → RunIs p M n t) ∧ (runE p M n ≠ 0 → t = (zeroM, 0))
def RunRet (p : List Fn) (M : Mach) (n : Int) (w : World) (e : Ending) (w' : World) : Prop := ∃ t : MF, RunRes p M n t ∧ ∃ fv bv iv ov, e = .returned (.tuple #[.agg #[fv, bv, iv, ov, .int .i64 t.1.status, .int .i64 t.1.trap], .int .i64 t.2, .int .i64 (runE p M n)]) ∧ MRes w' w.heap.size fv bv iv ov t.1 ∧ Below w.heap.size w w'
theorem xgwZ {p : List Fn} {M : Mach} {n : Int} : runE p M n = 0 ↔ xaqZ p M = 0 ∧ 0 ≤ n ∧ n ≤ 10000 := by
  unfold runE
  constructor
  · intro h
    split at h
    · rename_i h1; exact absurd h h1
    · rename_i h1
      split at h
      · cases h
      · exact ⟨by simpa using h1, by omega, by omega⟩
  · rintro ⟨h1, h2, h3⟩
    rw [if_neg (by simp [h1]), if_neg (by omega)]
theorem xiyZ (M : Mach) (p : List Fn) (n : Int) (pv fv bv iv ov : Value) (w : World) (h : CkAt w p pv fv bv iv ov M) (hpc : PcOk M) : Calls Tryz.prog 29 #[.agg #[pv], .agg #[fv, bv, iv, ov, .int .i64 M.status, .int .i64 M.trap], .int .i64 n] w (RunRet p M n w) := by
  obtain ⟨⟨pp, qp, hpv⟩, ⟨pf, cf, hfv⟩, ⟨pb, cb, hbv⟩, ⟨pi, ci, hiv⟩, ⟨po, co, hov⟩⟩ := h.shp
  subst hpv hfv hbv hiv hov
  obtain ⟨W1, hW1⟩ : ∃ W1, ((w.alloc (.cells #[.slice pp p.length qp] 24)).alloc (.cells #[.slice pf M.frames.length cf, .slice pb M.blocks.length cb, .slice pi M.inp.length ci, .slice po M.out.length co, .int .i64 M.status, .int .i64 M.trap] 29)).alloc (.cells #[.slice none 0 0, .slice none 0 0, .slice none 0 0, .slice none 0 0, .int .i64 0, .int .i64 0] 29) = W1 := ⟨_, rfl⟩
  have b1 : Below w.heap.size w W1 := by rw [← hW1]; exact (((Below.refl _ w).alloc (Nat.le_refl _) _).alloc (by simp) _).alloc (by simp; omega) _
  have u1 : W1.heap[w.heap.size]? = some (.cells #[.slice pp p.length qp] 24 (0, 0)) := by rw [← hW1]; exact xftZ _ _ _ _
  have u2 : W1.heap[w.heap.size + 1]? = some (.cells #[.slice pf M.frames.length cf, .slice pb M.blocks.length cb, .slice pi M.inp.length ci, .slice po M.out.length co, .int .i64 M.status, .int .i64 M.trap] 29 (0, 0)) := by rw [← hW1]; exact xfcZ _ _ _ _
  have u3 : W1.heap[w.heap.size + 1 + 1]? = some (.cells #[.slice none 0 0, .slice none 0 0, .slice none 0 0, .slice none 0 0, .int .i64 0, .int .i64 0] 29 (0, 0)) := by rw [← hW1]; exact new3 _ _ _ _
  have l1 := xacZ u1
  have l2 := xacZ u2
  have l3 := xacZ u3
  have KC : Hid (∀ W, Below W1.heap.size W1 W → W.cell? ⟨w.heap.size, 0, none⟩ = some (.slice pp p.length qp) ∧ W.cell? ⟨w.heap.size + 1, 0, none⟩ = some (.slice pf M.frames.length cf) ∧ W.cell? ⟨w.heap.size + 1, 1, none⟩ = some (.slice pb M.blocks.length cb) ∧ W.cell? ⟨w.heap.size + 1, 2, none⟩ = some (.slice pi M.inp.length ci) ∧ W.cell? ⟨w.heap.size + 1, 3, none⟩ = some (.slice po M.out.length co) ∧ W.cell? ⟨w.heap.size + 1, 4, none⟩ = some (.int .i64 M.status) ∧ W.cell? ⟨w.heap.size + 1, 5, none⟩ = some (.int .i64 M.trap)) := fun W hW => by
    have h1 := (hW.block _ l1).trans u1
    have h2 := (hW.block _ l2).trans u2
    exact ⟨xaaZ h1 0, xaaZ h2 0, xaaZ h2 1, xaaZ h2 2, xaaZ h2 3, xaaZ h2 4, xaaZ h2 5⟩
  have KR : Hid (∀ W, Below W1.heap.size W1 W → W.heap[w.heap.size + 1 + 1]? = some (.cells #[.slice none 0 0, .slice none 0 0, .slice none 0 0, .slice none 0 0, .int .i64 0, .int .i64 0] 29 (0, 0))) := fun W hW => (hW.block _ l3).trans u3
  obtain ⟨a0, d0, d1, d2, d3, d4, d5⟩ := KC.out W1 (Below.refl _ _)
  have H1 := h.below b1
  have HCK := hideP (xgcZ M p _ _ _ _ _ W1 H1 hpc)
  have HH := hideP H1
  clear h H1 u1 u2 u3 hpc
  by_cases hc : xaqZ p M = 0
  rotate_left
  · have hc' : (xaqZ p M != 0) = true := by simpa using hc
    have hE : runE p M n = xaqZ p M := by unfold runE; rw [if_pos hc]
    have HFIN : Hid (RunRes p M n (zeroM, 0)) := ⟨fun h0 => absurd (hE.symm.trans h0) hc, fun _ => rfl⟩
    unfold RunRet
    rw [hE]
    generalize xaqZ p M = er at *
    clear hc hE
    go_enter Tryz.func29, Tryz.ntmps29
    go_wp2_with fail
    refine HCK.out.mono ?_
    rintro e' w2 ⟨rfl, b2⟩
    obtain ⟨e0, g0, g1, g2, g3, g4, g5⟩ := KC.out w2 b2
    have hr2 := KR.out w2 b2
    have r0 := xaaZ hr2 0
    have r1 := xaaZ hr2 1
    have r2 := xaaZ hr2 2
    have r3 := xaaZ hr2 3
    have r4 := xaaZ hr2 4
    have r5 := xaaZ hr2 5
    simp at r0 r1 r2 r3 r4 r5
    have zq := Lib.frozen_of_heap hr2
    have z0 := zq 0
    have z1 := zq 1
    have z2 := zq 2
    have z3 := zq 3
    have z4 := zq 4
    have z5 := zq 5
    clear zq
    have HR2 := hideP hr2
    clear hr2
    go_wp2
    refine bodyPost_ret (v := .tuple #[.agg #[.slice none 0 0, .slice none 0 0, .slice none 0 0, .slice none 0 0, .int .i64 0, .int .i64 0], .int .i64 0, .int .i64 er]) (by simp [results, Tryz.results29, go_sem, r0, r1, r2, r3, r4, r5]) rfl ?_
    have hg6 := xbyZ w2 (w.heap.size + 1 + 1) (.slice none 0 0) (.slice none 0 0) (.slice none 0 0) (.slice none 0 0) (.int .i64 0) (.int .i64 0)
    exact ⟨(zeroM, 0), HFIN.out, _, _, _, _, rfl, xf0Z _ _, (xadZ b1 b2).grown hg6 (xadZ b1 b2).size (fun k hk => by cases hk; omega)⟩
  rw [hc] at HCK
  by_cases hn : n < 0 ∨ 10000 < n
  · have hE : runE p M n = 3 := by unfold runE; rw [if_neg (by simp [hc]), if_pos hn]
    have HFIN : Hid (RunRes p M n (zeroM, 0)) := ⟨fun h0 => (by rw [hE] at h0; cases h0), fun _ => rfl⟩
    unfold RunRet
    rw [hE]
    clear hE
    by_cases hneg : n < 0
    · have t1 : decide (n < 0) = true := by simpa using hneg
      clear hn hc hneg
      go_enter Tryz.func29, Tryz.ntmps29
      go_wp2_with fail
      refine HCK.out.mono ?_
      rintro e' w2 ⟨rfl, b2⟩
      obtain ⟨e0, g0, g1, g2, g3, g4, g5⟩ := KC.out w2 b2
      have hr2 := KR.out w2 b2
      have r0 := xaaZ hr2 0
      have r1 := xaaZ hr2 1
      have r2 := xaaZ hr2 2
      have r3 := xaaZ hr2 3
      have r4 := xaaZ hr2 4
      have r5 := xaaZ hr2 5
      simp at r0 r1 r2 r3 r4 r5
      have zq := Lib.frozen_of_heap hr2
      have z0 := zq 0
      have z1 := zq 1
      have z2 := zq 2
      have z3 := zq 3
      have z4 := zq 4
      have z5 := zq 5
      clear zq
      have HR2 := hideP hr2
      clear hr2
      go_wp2
      refine bodyPost_ret (v := .tuple #[.agg #[.slice none 0 0, .slice none 0 0, .slice none 0 0, .slice none 0 0, .int .i64 0, .int .i64 0], .int .i64 0, .int .i64 3]) (by simp [results, Tryz.results29, go_sem, r0, r1, r2, r3, r4, r5]) rfl ?_
      have hg6 := xbyZ w2 (w.heap.size + 1 + 1) (.slice none 0 0) (.slice none 0 0) (.slice none 0 0) (.slice none 0 0) (.int .i64 0) (.int .i64 0)
      exact ⟨(zeroM, 0), HFIN.out, _, _, _, _, rfl, xf0Z _ _, (xadZ b1 b2).grown hg6 (xadZ b1 b2).size (fun k hk => by cases hk; omega)⟩
    · have t1 : decide (n < 0) = false := by simpa using hneg
      have t2 : decide (n > 10000) = true := by simp; omega
      clear hn hc hneg
      go_enter Tryz.func29, Tryz.ntmps29
      go_wp2_with fail
      refine HCK.out.mono ?_
      rintro e' w2 ⟨rfl, b2⟩
      obtain ⟨e0, g0, g1, g2, g3, g4, g5⟩ := KC.out w2 b2
      have hr2 := KR.out w2 b2
      have r0 := xaaZ hr2 0
      have r1 := xaaZ hr2 1
      have r2 := xaaZ hr2 2
      have r3 := xaaZ hr2 3
      have r4 := xaaZ hr2 4
      have r5 := xaaZ hr2 5
      simp at r0 r1 r2 r3 r4 r5
      have zq := Lib.frozen_of_heap hr2
      have z0 := zq 0
      have z1 := zq 1
      have z2 := zq 2
      have z3 := zq 3
      have z4 := zq 4
      have z5 := zq 5
      clear zq
      have HR2 := hideP hr2
      clear hr2
      go_wp2
      refine bodyPost_ret (v := .tuple #[.agg #[.slice none 0 0, .slice none 0 0, .slice none 0 0, .slice none 0 0, .int .i64 0, .int .i64 0], .int .i64 0, .int .i64 3]) (by simp [results, Tryz.results29, go_sem, r0, r1, r2, r3, r4, r5]) rfl ?_
      have hg6 := xbyZ w2 (w.heap.size + 1 + 1) (.slice none 0 0) (.slice none 0 0) (.slice none 0 0) (.slice none 0 0) (.int .i64 0) (.int .i64 0)
      exact ⟨(zeroM, 0), HFIN.out, _, _, _, _, rfl, xf0Z _ _, (xadZ b1 b2).grown hg6 (xadZ b1 b2).size (fun k hk => by cases hk; omega)⟩
  have hE : runE p M n = 0 := xgwZ.2 ⟨hc, by omega, by omega⟩
  have HE0 := hideP hE
  unfold RunRet
  rw [hE]
  clear hE
  obtain ⟨hp, he, hR⟩ := xa1Z.1 hc
  have hsm := (xb1Z hp he hR).1
  have t1 : decide (n < 0) = false := by simp; omega
  have t2 : decide (n > 10000) = false := by simp; omega
  have HNN : Hid (0 ≤ n ∧ n ≤ 100000) := ⟨by omega, by omega⟩
  have HS := hideP (And.intro hp (And.intro he hR))
  have HFM : Hid (∀ W, Below W1.heap.size W1 W → Calls Tryz.prog 44 #[.agg #[.slice pf M.frames.length cf, .slice pb M.blocks.length cb, .slice pi M.inp.length ci, .slice po M.out.length co, .int .i64 M.status, .int .i64 M.trap]] W fun e w' => ∃ fv' bv' iv' ov', e = .returned (.agg #[fv', bv', iv', ov', .int .i64 M.status, .int .i64 M.trap]) ∧ ∃ q qb, MOwn w' W.heap.size fv' bv' iv' ov' q qb M ∧ Below W.heap.size W w') := fun W hW => xb8Z M _ _ _ _ W (HH.out.below hW).mach hsm
  clear hn hc hp he hR hsm
  go_enter Tryz.func29, Tryz.ntmps29
  go_wp2_with fail
  refine HCK.out.mono ?_
  rintro e' w2 ⟨rfl, b2⟩
  clear a0 d0 d1 d2 d3 d4 d5
  obtain ⟨x0, g0, g1, g2, g3, g4, g5⟩ := KC.out w2 b2
  have hz1 : ¬ w.heap.size = w2.heap.size := by have := b2.size; omega
  have hz2 : ¬ w.heap.size + 1 = w2.heap.size := by have := b2.size; omega
  have hdA : ∀ o, Below w2.heap.size w2 (w2.alloc o).drew := fun o => ((Below.refl _ w2).alloc (Nat.le_refl _) o).drew
  go_upto_region 6 with fail
  go_cut [10] from 25 (fun s10 wx => ∃ bR : Nat, s10 = .pointer (some ⟨bR, 0, none⟩) ∧ Runs W1 wx bR (.slice pp p.length qp) (M, n))
  case first =>
    go_region_held3 (fun X => X.cell? ⟨w.heap.size, 0, none⟩ = some (.slice pp p.length qp) ∧ X.cell? ⟨w.heap.size + 1, 0, none⟩ = some (.slice pf M.frames.length cf) ∧ X.cell? ⟨w.heap.size + 1, 1, none⟩ = some (.slice pb M.blocks.length cb) ∧ X.cell? ⟨w.heap.size + 1, 2, none⟩ = some (.slice pi M.inp.length ci) ∧ X.cell? ⟨w.heap.size + 1, 3, none⟩ = some (.slice po M.out.length co) ∧ X.cell? ⟨w.heap.size + 1, 4, none⟩ = some (.int .i64 M.status) ∧ X.cell? ⟨w.heap.size + 1, 5, none⟩ = some (.int .i64 M.trap)) (first | go_keep | exact ⟨xdyZ k0 hz1, xdyZ k1 hz2, xdyZ k2 hz2, xdyZ k3 hz2, xdyZ k4 hz2, xdyZ k5 hz2, xdyZ k6 hz2⟩)
      (first
        | (go_at_call 44; (with_reducible refine (HFM.out _ (xadZ b2 (Below.refl _ w2).drew)).mono ?_); rintro e w3 ⟨f3, b3, i3, o3, rfl, q3, qb3, r3, b3'⟩; have b23 : Below w2.heap.size w2 w3 := xadZ (Below.refl _ w2).drew b3'; have b13 := xadZ b2 b23; obtain ⟨pf3, cf3, hf3⟩ := xahZ r3.fr; obtain ⟨pb3, cb3, hb3⟩ := xahZ r3.bl; obtain ⟨pi3, ci3, hi3⟩ := xahZ r3.inp; obtain ⟨po3, co3, ho3⟩ := xahZ r3.out; subst hf3 hb3 hi3 ho3; have R3 := hideP r3; clear r3; obtain ⟨k0, k1, k2, k3, k4, k5, k6⟩ := KC.out w3 b13)
        | (go_at_call 44; (with_reducible refine (HFM.out _ (xadZ b2 (hdA _))).mono ?_); rintro e w3 ⟨f3, b3, i3, o3, rfl, q3, qb3, r3, b3'⟩; have b23 : Below w2.heap.size w2 w3 := xadZ (hdA _) b3'; have b13 := xadZ b2 b23; have q0 := (b3'.block w2.heap.size (xacZ (World.alloc_heap_new w2 _))).trans (World.alloc_heap_new w2 _); have Q0 := hideP q0; have m0 := xaaZ q0 0; have m1 := xaaZ q0 1; have m2 := xaaZ q0 2; have m3 := xaaZ q0 3; have m4 := xaaZ q0 4; have m5 := xaaZ q0 5; have m6 := xaaZ q0 6; have m7 := xaaZ q0 7; simp at m0 m1 m2 m3 m4 m5 m6 m7; have nn := Lib.frozen_of_heap q0; have n0 := nn 0; have n1 := nn 1; have n2 := nn 2; have n3 := nn 3; have n4 := nn 4; have n5 := nn 5; have n6 := nn 6; have n7 := nn 7; clear nn q0; obtain ⟨pf3, cf3, hf3⟩ := xahZ r3.fr; obtain ⟨pb3, cb3, hb3⟩ := xahZ r3.bl; obtain ⟨pi3, ci3, hi3⟩ := xahZ r3.inp; obtain ⟨po3, co3, ho3⟩ := xahZ r3.out; subst hf3 hb3 hi3 ho3; have R3 := hideP r3; clear r3; obtain ⟨k0, k1, k2, k3, k4, k5, k6⟩ := KC.out w3 b13))
    all_goals
      go_wp2_with fail
      go_meet
    · have h8 := World.alloc_heap_new w3 (.cells (runCells (.slice pf3 q3.length cf3) (.slice pb3 qb3.length cb3) (.slice pi3 M.inp.length ci3) (.slice po3 M.out.length co3) (.slice pp p.length qp) M n) 104)
      refine ⟨_, rfl, _, _, _, _, ⟨h8, ?_, b13.alloc b13.size _, b13.size⟩⟩
      exact (R3.out.res.low (by have := b2.size; simpa using this)).below ((Below.refl _ w3).alloc (Nat.le_refl _) _)
    · have hg8 := xpiZ w3 w2.heap.size (.slice pf3 q3.length cf3) (.slice pb3 qb3.length cb3) (.slice pi3 M.inp.length ci3) (.slice po3 M.out.length co3) (.int .i64 M.status) (.int .i64 M.trap) (.slice pp p.length qp) (.int .i64 n)
      refine ⟨_, rfl, _, _, _, _, ⟨xrxZ Q0.out, ?_, b13.grown hg8 b13.size (fun k hk => by cases hk; exact b2.size), b2.size⟩⟩
      exact (R3.out.res.low (by have := b2.size; simp; omega)).keep hg8 (xbcZ Q0.out) (by decide) (by decide) (by decide) (by decide)
  case rest =>
    obtain ⟨bR, rfl, hruns⟩ := hcut
    have HRUN := hideP (rLoop_any W1 wc bR p (entP p) _ M n HS.out.1 HS.out.2.1 HS.out.2.2 HNN.out HH.out.fns HH.out.cap hruns)
    clear hruns x0 g0 g1 g2 g3 g4 g5
    go_wp2_with fail
    refine HRUN.out.mono ?_
    rintro e' w5 ⟨rfl, t, ht, f5, b5, i5, o5, hq⟩
    obtain ⟨⟨pf5, nf5, cf5, hf5⟩, ⟨pb5, nb5, cb5, hb5⟩, ⟨pi5, ni5, ci5, hi5⟩, ⟨po5, no5, co5, ho5⟩⟩ := xgjZ hq.res
    subst hf5 hb5 hi5 ho5
    have hr5 := KR.out w5 hq.bel
    have HR5 := hideP hr5
    have s0 := xaaZ hr5 0
    have s1 := xaaZ hr5 1
    have s2 := xaaZ hr5 2
    have s3 := xaaZ hr5 3
    have s4 := xaaZ hr5 4
    have s5 := xaaZ hr5 5
    simp at s0 s1 s2 s3 s4 s5
    have yq := Lib.frozen_of_heap hr5
    have y0 := yq 0
    have y1 := yq 1
    have y2 := yq 2
    have y3 := yq 3
    have y4 := yq 4
    have y5 := yq 5
    clear yq
    have c0 := xaaZ hq.cell 0
    have c1 := xaaZ hq.cell 1
    have c2 := xaaZ hq.cell 2
    have c3 := xaaZ hq.cell 3
    have c4 := xaaZ hq.cell 4
    have c5 := xaaZ hq.cell 5
    have c7 := xaaZ hq.cell 7
    simp at c0 c1 c2 c3 c4 c5 c7
    have hne : ¬ bR = w.heap.size + 1 + 1 := fun e => by
      have h1 := hq.cell
      rw [e, hr5] at h1
      simp at h1
    have HST := hideP (xehZ (w := w) (hq.res.low b1.size) (b1.trans (hq.bel.mono b1.size)) hr5 (by omega))
    have HT := hideP ht
    clear hq hr5 ht
    go_wp2_with fail
    have T0 := xb4Z (a := .slice pf5 nf5 cf5) (b := .slice pb5 nb5 cb5) (c := .slice pi5 ni5 ci5) (d := .slice po5 no5 co5) (e := .int .i64 t.1.status) (f := .int .i64 t.1.trap) c0 hne
    have T1 := xb4Z (a := .slice pf5 nf5 cf5) (b := .slice pb5 nb5 cb5) (c := .slice pi5 ni5 ci5) (d := .slice po5 no5 co5) (e := .int .i64 t.1.status) (f := .int .i64 t.1.trap) c1 hne
    have T2 := xb4Z (a := .slice pf5 nf5 cf5) (b := .slice pb5 nb5 cb5) (c := .slice pi5 ni5 ci5) (d := .slice po5 no5 co5) (e := .int .i64 t.1.status) (f := .int .i64 t.1.trap) c2 hne
    have T3 := xb4Z (a := .slice pf5 nf5 cf5) (b := .slice pb5 nb5 cb5) (c := .slice pi5 ni5 ci5) (d := .slice po5 no5 co5) (e := .int .i64 t.1.status) (f := .int .i64 t.1.trap) c3 hne
    have T4 := xb4Z (a := .slice pf5 nf5 cf5) (b := .slice pb5 nb5 cb5) (c := .slice pi5 ni5 ci5) (d := .slice po5 no5 co5) (e := .int .i64 t.1.status) (f := .int .i64 t.1.trap) c4 hne
    have T5 := xb4Z (a := .slice pf5 nf5 cf5) (b := .slice pb5 nb5 cb5) (c := .slice pi5 ni5 ci5) (d := .slice po5 no5 co5) (e := .int .i64 t.1.status) (f := .int .i64 t.1.trap) c5 hne
    have T7 := xb4Z (a := .slice pf5 nf5 cf5) (b := .slice pb5 nb5 cb5) (c := .slice pi5 ni5 ci5) (d := .slice po5 no5 co5) (e := .int .i64 t.1.status) (f := .int .i64 t.1.trap) c7 hne
    go_region_held3 (fun X => X.cell? ⟨bR, 0, none⟩ = some (.slice pf5 nf5 cf5) ∧ X.cell? ⟨bR, 1, none⟩ = some (.slice pb5 nb5 cb5) ∧ X.cell? ⟨bR, 2, none⟩ = some (.slice pi5 ni5 ci5) ∧ X.cell? ⟨bR, 3, none⟩ = some (.slice po5 no5 co5) ∧ X.cell? ⟨bR, 4, none⟩ = some (.int .i64 t.1.status) ∧ X.cell? ⟨bR, 5, none⟩ = some (.int .i64 t.1.trap) ∧ X.cell? ⟨bR, 7, none⟩ = some (.int .i64 t.2)) (first | go_keep | exact ⟨T0, T1, T2, T3, T4, T5, T7⟩) (fail)
    clear T0 T1 T2 T3 T4 T5 T7
    go_wp2
    refine bodyPost_ret (v := .tuple #[.agg #[.slice pf5 nf5 cf5, .slice pb5 nb5 cb5, .slice pi5 ni5 ci5, .slice po5 no5 co5, .int .i64 t.1.status, .int .i64 t.1.trap], .int .i64 t.2, .int .i64 0]) (by simp [results, Tryz.results29, go_sem, s0, s1, s2, s3, s4, s5]) rfl ?_
    exact ⟨t, ⟨fun _ => HT.out, fun h => absurd HE0.out h⟩, _, _, _, _, rfl, HST.out.1.below (Below.refl _ _).drew, HST.out.2.drew⟩
end Go.Proofs.YtcadpoknolefpaaGreat


/- block.Keep. -/
namespace Go.Proofs.YtcadpoknolefpaaGreat
open Go.RowKit
set_option linter.unusedSimpArgs false
set_option linter.unusedVariables false
def LBox (bl : Nat) (v : Value) (W : World) : Prop := bl < W.heap.size ∧ W.cell? ⟨bl, 0, none⟩ = some v
theorem LBox.below {bl : Nat} {v : Value} {W W' : World} (h : LBox bl v W) (hb : Below W.heap.size W W') : LBox bl v W' := ⟨Nat.lt_of_lt_of_le h.1 hb.size, (hb.cell (p := ⟨bl, 0, none⟩) h.1).trans h.2⟩
theorem bKeep1_any (L : List (List Int)) (ref : Int) (p : Option Addr) (cap bl : Nat) (w : World) (h : LBox bl (.slice p L.length cap) w) : Calls Tryz.prog 121 #[.int .i64 ref, .pointer (some ⟨bl, 0, none⟩)] w fun e w' => e = .returned (.bool (!refOk L.length ref)) ∧ Below w.heap.size w w' := by
  obtain ⟨_, c0⟩ := h
  go_enter Tryz.func121, Tryz.ntmps121
  go_wp2_with (go_at_call 122; refine (xhaZ L ref _ _ _).mono ?_; rintro e w2 ⟨rfl, hw⟩; have hw := hw.symm; subst hw)
  go_ret
  exact ⟨rfl, Below.refl _ _⟩
theorem ent_keep1 : Ent 121 := xceZ Tryz.func121 (by kernel_rfl) rfl
theorem xg6Z (L : List (List Int)) (refs : List Int) (v : Value) (p : Option Addr) (cap bl : Nat) (w : World) (hv : IntsAt w v refs) (h : LBox bl (.slice p L.length cap) w) : Calls Tryz.prog 106 #[v, .func (.func 121) #[] #[.pointer (some ⟨bl, 0, none⟩)]] w fun e w' => e = .returned (.bool (!refs.all (refOk L.length))) ∧ Below w.heap.size w w' :=
  xfpZ 121 #[.pointer (some ⟨bl, 0, none⟩)] (LBox bl (.slice p L.length cap)) (refOk L.length) refs v w hv h (fun _ _ h hb => h.below hb) ent_keep1 (fun z W hW => bKeep1_any L z p cap bl W hW)
def xgfZ (refs : List Int) (k j : Nat) : Int := if 1 ≤ j ∧ j ≤ k ∧ (j : Int) ∈ refs then ((stays refs j).length : Int) else 0
def xdgZ (refs : List Int) (n k : Nat) : List Int := (List.range (n + 1)).map (xgfZ refs k)
theorem xpzZ (refs : List Int) (n : Nat) : xdgZ refs n 0 = List.replicate (n + 1) 0 := by
  apply List.ext_getElem?
  intro j
  unfold xdgZ
  by_cases hj : j < n + 1
  · have h0 : xgfZ refs 0 j = 0 := by unfold xgfZ; rw [if_neg (by omega)]
    simp [hj, h0]
  · simp [hj]
theorem xq3Z {refs : List Int} {n k : Nat} (hk : k < n) (h : (k : Int) + 1 ∈ refs) : (xdgZ refs n k).set (k + 1) ((stays refs (k + 1)).length : Int) = xdgZ refs n (k + 1) := by
  apply List.ext_getElem?
  intro j
  unfold xdgZ
  by_cases hj : j < n + 1
  · by_cases he : k + 1 = j
    · subst he
      rw [List.getElem?_set_self (by simp; omega)]
      have h2 : 1 ≤ k + 1 ∧ k + 1 ≤ k + 1 ∧ (((k + 1 : Nat) : Int)) ∈ refs := ⟨by omega, by omega, by simpa using h⟩
      simp [hj, xgfZ, h]
    · rw [List.getElem?_set_ne he]
      have h2 : xgfZ refs k j = xgfZ refs (k + 1) j := by
        unfold xgfZ
        by_cases hc : 1 ≤ j ∧ j ≤ k ∧ (j : Int) ∈ refs
        · rw [if_pos hc, if_pos ⟨hc.1, by omega, hc.2.2⟩]
        · rw [if_neg hc, if_neg (fun h => hc ⟨h.1, by omega, h.2.2⟩)]
      simp [hj, h2]
  · rw [List.getElem?_eq_none (by simp; omega), List.getElem?_eq_none (by simp; omega)]
theorem xozZ {refs : List Int} {n k : Nat} (h : ¬ (k : Int) + 1 ∈ refs) : xdgZ refs n k = xdgZ refs n (k + 1) := by
  unfold xdgZ
  apply List.map_congr_left
  intro j _
  unfold xgfZ
  by_cases hc : 1 ≤ j ∧ j ≤ k ∧ (j : Int) ∈ refs
  · rw [if_pos hc, if_pos ⟨hc.1, by omega, hc.2.2⟩]
  · rw [if_neg hc, if_neg]
    intro h2
    by_cases he : j = k + 1
    · subst he; exact h (by simpa using h2.2.2)
    · exact hc ⟨h2.1, by omega, h2.2.2⟩
theorem thenRow_at {refs : List Int} {n r : Nat} (hr : r ≤ n) (h : (r : Int) ∈ refs) : (xdgZ refs n n)[r]? = some (xaoZ refs r) := by
  unfold xdgZ
  have hr' : r < n + 1 := by omega
  rw [List.getElem?_map, List.getElem?_range hr']
  unfold xgfZ xaoZ
  by_cases h0 : r = 0
  · subst h0; simp [stays]
  · have : 1 ≤ r ∧ r ≤ n ∧ (r : Int) ∈ refs := ⟨by omega, hr, h⟩
    simp [this]
theorem xncZ (refs : List Int) (n k : Nat) : (xdgZ refs n k).length = n + 1 := by simp [xdgZ]
theorem xk6Z {W : World} {b k : Nat} {cs : List Int} {t : TypeId} {fz : Nat × Nat} (hk : k < cs.length) (h : W.heap[b]? = some (.cells (cs.map (Value.int .i64)).toArray t fz)) : ∃ z, cs[k]? = some z ∧ W.cell? ⟨b, k, none⟩ = some (.int .i64 z) := by
  obtain ⟨z, hz⟩ := xaiZ hk
  exact ⟨z, hz, by rw [xaaZ h]; simp [hz]⟩
theorem bKeep_ok (L : List (List Int)) (refs : List Int) (v u : Value) (w : World) (h : BlksAt w v L) (hu : IntsAt w u refs) (hrl : refs.length ≤ 17592186044416) (he : xckZ L refs = 0) : Calls Tryz.prog 78 #[v, u] w fun e w' => ∃ x y, e = .returned (.tuple #[x, y, .int .i64 0]) ∧ BlksOwn w' w.heap.size x (keptL L refs L.length) ∧ w'.ownsRow w.heap.size 3 1 y refs.length ((refs.map (xaoZ refs)).map (Value.int .i64)) ∧ Below w.heap.size w w' := by
  obtain ⟨i0, hi, hz0, hz1, hz2⟩ := info_parts xgnZ
  obtain ⟨i1, hj, hy0, hy1, hy2⟩ := info_parts xitZ
  have hbe : blkErr L = 0 := by
    unfold xckZ at he
    by_cases hb : blkErr L = 0
    · exact hb
    · rw [if_pos hb] at he; exact absurd he hb
  obtain ⟨h8, h40, -⟩ := xbzZ hbe
  have hsm : ∀ b ∈ L, b.length ≤ 40 := fun b hb => by
    obtain ⟨i, hi⟩ := List.getElem?_of_mem hb
    have := xgbZ hi
    omega
  have hall : refs.all (refOk L.length) = true := by
    unfold xckZ at he
    rw [if_neg (by simpa using hbe)] at he
    cases hc : refs.all (refOk L.length)
    · rw [hc] at he; cases he
    · rfl
  have hrk : ∀ (k : Nat) (r : Int), refs[k]? = some r → 0 ≤ r ∧ r ≤ (L.length : Int) := fun k r hr => by
    have := List.all_eq_true.1 hall r (List.mem_of_getElem? hr)
    simpa [refOk] using this
  obtain ⟨p, cap, hv, -, -⟩ := id h
  obtain ⟨pu, capu, huv, -, -⟩ := id hu
  subst hv huv
  obtain ⟨W1, hW1⟩ : ∃ W1, w.alloc (.cells #[.slice p L.length cap] 26) = W1 := ⟨_, rfl⟩
  have hb1 : Below w.heap.size w W1 := by rw [← hW1]; exact (Below.refl _ w).alloc (Nat.le_refl _) _
  have x1 : W1.heap[w.heap.size]? = some (.cells #[.slice p L.length cap] 26 (0, 0)) := by rw [← hW1]; exact World.alloc_heap_new w _
  have c1 := xaaZ x1 0
  simp at c1
  have lx := xacZ x1
  have HCK := hideP (xfeZ L _ W1 (h.below hb1))
  rw [hbe] at HCK
  have H := hideP h
  have HU := hideP hu
  have HSM := hideP hsm
  have HRK := hideP hrk
  have HX := hideP x1
  clear h hu he hbe hsm hrk x1
  go_enter Tryz.func78, Tryz.ntmps78
  go_wp2_with fail
  refine HCK.out.mono ?_
  rintro e w2 ⟨rfl, hb2⟩
  have B2 := hb1.trans (hb2.mono hb1.size)
  have c2 := (hb2.cell (p := ⟨w.heap.size, 0, none⟩) lx).trans c1
  have lx2 := Nat.lt_of_lt_of_le lx hb2.size
  go_wp2_with fail
  refine (xg6Z L refs _ p cap w.heap.size w2 (HU.out.below B2) ⟨lx2, c2⟩).mono ?_
  rw [hall]
  rintro e w3 ⟨rfl, hb3⟩
  have B3 := B2.trans (hb3.mono B2.size)
  have c3 := (hb3.cell (p := ⟨w.heap.size, 0, none⟩) lx2).trans c2
  have lx3 := Nat.lt_of_lt_of_le lx2 hb3.size
  clear c1 c2 hall
  go_wp2_with (at_make; refine wpList_make_full _ rfl _ _ 27 rfl w3.heap.size 3 i0 (.int .i64 0) 1 Tryz.underlying27 hi hz0 hz1 _ _ _ _ (L.length + 1) rfl rfl (by omega) (by omega) (by rw [hz2]; omega) (by unfold maxLen; omega) (Nat.le_refl _) ?_; intro w4 hown4 hg4; rw [xh1Z] at hown4; have hT4 := xhjZ hown4 (by simp); have b34 : Below w3.heap.size w3 w4 := (Below.refl _ w3).grown hg4 (Nat.le_refl _) (fun k hk => by cases hk); have c4 := (b34.cell (p := ⟨w.heap.size, 0, none⟩) lx3).trans c3; have HT4 := hideP hT4; clear hown4 hT4 hg4)
  have B4 := B3.trans (b34.mono B3.size)
  have lT4 := xacZ HT4.out
  have lx4 := Nat.lt_of_lt_of_le lx3 b34.size
  have hT0 := HT4.out
  rw [← xpzZ refs L.length] at hT0
  have HT0 := hideP hT0
  clear hT0 c3
  go_loopw [8, 10, 11, 12, 30] (fun v8 _ _ _ i wr => ∃ (k : Nat) (q : List Value), k ≤ L.length ∧ i = .int .i64 k ∧ wr.ownsRow w4.heap.size 27 1 v8 q.length q ∧ BRows wr w4.heap.size q (keptL L refs k) ∧ wr.heap[w3.heap.size]? = some (.cells ((xdgZ refs L.length k).map (Value.int .i64)).toArray 3 (0, 0)) ∧ Below w3.heap.size w3 wr ∧ w4.heap.size ≤ wr.heap.size) (fun _ _ _ _ i _ => L.length - (intOf i).toNat)
  case atStart => exact ⟨0, [], Nat.zero_le _, rfl, World.ownsRow_nil _ _ _ _, xj5Z _ _, HT0.out, b34, Nat.le_refl _⟩
  case round =>
    rename World => w5
    obtain ⟨k, q, hk, rfl, hrow, hrs, hT, hb5, hs5⟩ := hrel
    obtain ⟨p8, c8, hv8⟩ := xahZ hrow
    subst hv8
    have B5 := B3.trans (hb5.mono B3.size)
    have hql : q.length ≤ 8 := by
      have := hrs.len
      rw [xciZ] at this
      have := stays_le refs k
      omega
    have lT5 := xacZ hT
    by_cases hlt : k < L.length
    · have hlti : (k : Int) < (L.length : Int) := by omega
      obtain ⟨b, hb⟩ := xaiZ hlt
      obtain ⟨p5, q5, he5, _, hc5⟩ := H.out.below B5
      cases he5
      obtain ⟨g, off, c, hp, hg, g0, g1, gn, _⟩ := hc5 k b hb
      subst hp
      obtain ⟨p6, c6, hc6, _, _⟩ := id g1
      subst hc6
      have hbl := HSM.out b (List.mem_of_getElem? hb)
      have HCI := hideP (xf5Z refs ((k : Int) + 1) _ w5 (HU.out.below B5))
      have HCL := hideP (xbqZ b _ w5 g1 gn (by omega))
      have HB := hideP hb
      have HT := hideP hT
      have HRS := hideP hrs
      have HROW := hideP hrow
      clear hc5 hb g1 gn hT hrs hrow
      by_cases hin : (k : Int) + 1 ∈ refs
      · rw [decide_eq_true hin] at HCI
        have HIN := hideP hin
        clear hin
        go_wp2_with fail
        refine HCI.out.mono ?_
        rintro e w6 ⟨rfl, hw6⟩
        have hw6 := hw6.symm
        subst hw6
        go_wp2_with fail
        refine HCL.out.mono ?_
        rintro e w6 ⟨u6, rfl, r6, hb6⟩
        obtain ⟨p7, c7, hu6⟩ := xahZ r6
        subst hu6
        have s6 := hb6.size
        have hrow6 := xavZ HROW.out (W' := w6) fun j hj => hb6.block j (HROW.out.lt j hj).2
        have hrs6 := HRS.out.below hb6
        have hT6 := (hb6.block _ lT5).trans HT.out
        have HROW7 := hideP (hrow6.alloc (.cells #[.slice p7 b.length c7] 27))
        have HRS6 := hideP hrs6
        have HT6 := hideP hT6
        have HR6 := hideP r6
        clear hrow6 hrs6 hT6 r6
        have hk1 : (k : Int) + 1 < (L.length : Int) + 1 := by omega
        go_wp2_with (at_builtin; refine wpList_append_own _ rfl _ _ 26 rfl w4.heap.size 27 i1 (.slice none 0 0) 1 24 Tryz.underlying26 hj hy0 hy1 hy2 rfl (by decide) _ _ _ rfl HROW7.out ⟨w6.heap.size, 0, none⟩ 1 1 [.slice p7 b.length c7] rfl rfl (xepZ (by rw [xaaZ (World.alloc_heap_new w6 (.cells #[.slice p7 b.length c7] 27)) 0]; rfl)) (by simp [Value.oneCell']) (by unfold maxLen; omega) (by omega) (by simp; omega) ?_; intro v9 w9 hown9 hg9 _; obtain ⟨g9, cap9, hv9⟩ := ownsRow_succ hown9; subst hv9; have hT9 := (hg9.block w3.heap.size (by simp; omega) (xcgZ HROW7.out (xakZ HT6.out _) (by decide))).trans (xakZ HT6.out _); have z9 := Lib.frozen_of_heap hT9 (k + 1); obtain ⟨y9, _, c9⟩ := xk6Z (k := k + 1) (by rw [xncZ]; omega) hT9; have HT9 := hideP hT9; have HOWN9 := hideP hown9; clear hT9 hown9)
        go_wp2
        go_roundw
        case rel =>
          have hb6' : Below w3.heap.size w3 (w6.alloc (.cells #[.slice p7 b.length c7] 27)) := (hb5.trans (hb6.mono hb5.size)).alloc (by have := hb5.size; omega) _
          have h34 : w3.heap.size < w4.heap.size := lT4
          have hb9 : Below w3.heap.size w3 w9 := hb6'.grown hg9 (by simp; omega) (fun j hj => by have := (HROW7.out.lt j hj).1; omega)
          have hs9 : w4.heap.size ≤ w9.heap.size := by have := hg9.size; simp at this; omega
          have hrs9 : BRows w9 w4.heap.size (q ++ [.slice p7 b.length c7]) (keptL L refs (k + 1)) := by
            rw [xgeZ HIN.out HB.out]
            have hA := HRS6.out.below ((Below.refl w6.heap.size w6).alloc (Nat.le_refl _) (.cells #[.slice p7 b.length c7] 27))
            have hne : ∀ (g : Nat) (cs : Array Value), (w6.alloc (.cells #[.slice p7 b.length c7] 27)).heap[g]? = some (.cells cs 3 (0, 0)) → some g ≠ Value.ownBlock (.slice p8 q.length c8) := fun g cs h1 => xcgZ HROW7.out h1 (by decide)
            have hB9 : BRows w9 w4.heap.size q (keptL L refs k) := hA.same fun i x g h1 h2 => by
              obtain ⟨_, h5, cs, h6⟩ := hA.lt h1 h2
              exact hg9.block g h5 (hne g cs h6)
            have hr7 := HR6.out.alloc (.cells #[.slice p7 b.length c7] 27)
            have hr9 : w9.ownsRow w5.heap.size 3 1 (.slice p7 b.length c7) b.length (b.map (Value.int .i64)) := xavZ hr7 fun g h2 => by
              rcases hr7.2 with ⟨h3, _⟩ | ⟨g', cap', cur, h3, _, h6, _⟩
              · rw [h3] at h2; cases h2
              · rw [h3] at h2; cases h2
                exact hg9.block g' (xacZ h6) (hne g' _ h6)
            exact hB9.snoc hr9 hs5 (fun i y g h1 h2 => (HRS.out.lt h1 h2).2.1) (by omega)
          have hsT := heap_setCell_same w9 w3.heap.size (k + 1) _ _ (.int .i64 ((q.length : Int) + 1)) HT9.out
          have hgT := xalZ w9 ⟨w3.heap.size, k + 1, none⟩ (.int .i64 ((q.length : Int) + 1))
          have hql2 : (q.length : Int) + 1 = ((stays refs (k + 1)).length : Int) := by
            have := HRS.out.len
            rw [xciZ] at this
            rw [xedZ HIN.out, List.length_append, List.length_singleton]
            omega
          rw [hql2] at hsT hgT
          rw [xlqZ, xq3Z hlt HIN.out] at hsT
          refine ⟨k + 1, q ++ [.slice p7 b.length c7], by omega, by go_num, ?_, ?_, ?_, ?_, ?_⟩
          · rw [hql2, List.length_append, List.length_singleton]
            exact HOWN9.out.kept hgT (.inr (xcgZ HOWN9.out HT9.out (by decide)).symm)
          · rw [hql2]
            exact hrs9.same fun i x g h1 h2 => hgT.block g (hrs9.lt h1 h2).2.1 (fun e => by have := (hrs9.lt h1 h2).1; simp at e; omega)
          · rw [hql2]
            exact hsT
          · exact hb9.setCell (Nat.le_refl _) _
          · simpa using hs9
        case measure => simp [intOf]; omega
      · rw [decide_eq_false hin] at HCI
        have HIN := hideP hin
        clear hin
        go_wp2_with fail
        refine HCI.out.mono ?_
        rintro e w6 ⟨rfl, hw6⟩
        have hw6 := hw6.symm
        subst hw6
        go_wp2
        go_roundw
        case rel => exact ⟨k + 1, q, by omega, by go_num, HROW.out, by rw [xguZ HIN.out]; exact HRS.out, by rw [← xozZ HIN.out]; exact HT.out, hb5, hs5⟩
        case measure => simp [intOf]; omega
    · have hlti : ¬ (k : Int) < (L.length : Int) := by omega
      have hkl : k = L.length := by omega
      subst hkl
      have HT := hideP hT
      have HRS := hideP hrs
      have HROW := hideP hrow
      have hUr := HU.out.below B5
      clear hT hrs hrow
      go_wp2_with (at_make; refine wpList_make_full _ rfl _ _ 27 rfl w5.heap.size 3 i0 (.int .i64 0) 1 Tryz.underlying27 hi hz0 hz1 _ _ _ _ refs.length rfl rfl rfl rfl (by rw [hz2]; omega) (by unfold maxLen; omega) (Nat.le_refl _) ?_; intro w6 hown6 hg6)
      rw [xh1Z] at hown6
      have hO6 := xhjZ hown6 (by simp)
      have b56 : Below w5.heap.size w5 w6 := (Below.refl _ w5).grown hg6 (Nat.le_refl _) (fun k hk => by cases hk)
      have lO6 := xacZ hO6
      have HO6 := hideP hO6
      have HUr := hideP hUr
      clear hown6 hg6 hO6 hUr
      go_loopw [14, 15, 56] (fun _ _ i wr => ∃ j : Nat, j ≤ refs.length ∧ i = .int .i64 j ∧ wr.heap[w5.heap.size]? = some (.cells (((refs.take j).map (xaoZ refs) ++ List.replicate (refs.length - j) (0 : Int)).map (Value.int .i64)).toArray 3 (0, 0)) ∧ Below w5.heap.size w5 wr) (fun _ _ i _ => refs.length - (intOf i).toNat)
      case atStart => exact ⟨0, Nat.zero_le _, rfl, by simpa using HO6.out, b56⟩
      case round =>
        rename World => w7
        obtain ⟨j, hj1, rfl, hO7, hb7⟩ := hrel
        have B7 := B5.trans (hb7.mono B5.size)
        by_cases hlj : j < refs.length
        · have hlji : (j : Int) < (refs.length : Int) := by omega
          obtain ⟨r, hr⟩ := xaiZ hlj
          obtain ⟨hr0, hr1⟩ := HRK.out j r hr
          obtain ⟨m, rfl⟩ : ∃ m : Nat, r = m := ⟨r.toNat, by omega⟩
          obtain ⟨p7, q7, he7, _, hc7⟩ := HUr.out.below hb7
          cases he7
          obtain ⟨g, off, hp, hg, g0⟩ := hc7 j _ hr
          subst hp
          have hT7 := (hb7.block _ lT5).trans HT.out
          have cT : w7.cell? ⟨w3.heap.size, m, none⟩ = some (.int .i64 (xaoZ refs m)) := by
            rw [xaaZ hT7]
            have := thenRow_at (n := L.length) (by omega) (List.mem_of_getElem? hr)
            simp [this]
          obtain ⟨yO, -, cO⟩ := xk6Z (k := j) (by simp; omega) hO7
          have zO := Lib.frozen_of_heap hO7 j
          have hmi : (m : Int) < (L.length : Int) + 1 := by omega
          have HO7 := hideP hO7
          have HR := hideP hr
          clear hc7 hr hT7 hO7
          have HTO := hideP (rfl : xaoZ refs m = xaoZ refs m)
          obtain ⟨t, ht⟩ : ∃ t, xaoZ refs m = t := ⟨_, rfl⟩
          rw [ht] at cT
          have HTT := hideP ht
          clear HTO ht
          go_wp2
          go_roundw
          case rel =>
            have hs := heap_setCell_same w7 w5.heap.size j _ _ (.int .i64 t) HO7.out
            rw [xlqZ] at hs
            have hlen : ((refs.take j).map (xaoZ refs)).length = j := by simp; omega
            have hset := set_mid ((refs.take j).map (xaoZ refs)) refs.length (0 : Int) t (by rw [hlen]; exact hlj)
            rw [List.length_append, List.length_singleton, hlen] at hset
            rw [hset] at hs
            refine ⟨j + 1, by omega, by go_num, ?_, hb7.setCell (Nat.le_refl _) _⟩
            have e1 : (refs.take (j + 1)).map (xaoZ refs) = (refs.take j).map (xaoZ refs) ++ [t] := by rw [xa5Z refs j _ HR.out, List.map_append, ← HTT.out]; rfl
            rw [e1]
            exact hs
          case measure => simp [intOf]; omega
        · have hlji : ¬ (j : Int) < (refs.length : Int) := by omega
          have hje : j = refs.length := by omega
          subst hje
          have HO7 := hideP hO7
          clear hO7
          go_wp2
          go_ret3
          have hO := HO7.out
          rw [List.take_of_length_le (Nat.le_refl _), Nat.sub_self, List.replicate_zero, List.append_nil] at hO
          refine ⟨_, _, rfl, ?_, ?_, B7⟩
          · have h1 : BlksOwn w5 w4.heap.size (.slice p8 q.length c8) (keptL L refs L.length) := ⟨q, HROW.out, HRS.out⟩
            exact (h1.below hb7).low (by have := B4.size; omega)
          · exact ⟨by simp, .inr ⟨w5.heap.size, refs.length, _, rfl, by have := B5.size; omega, hO, Nat.le_refl _, by unfold maxLen; omega, by simp, by simp [List.take_of_length_le]⟩⟩
theorem bKeep_any (L : List (List Int)) (refs : List Int) (v u : Value) (w : World) (h : BlksAt w v L) (hu : IntsAt w u refs) (hrl : refs.length ≤ 17592186044416) : Calls Tryz.prog 78 #[v, u] w fun e w' => ∃ x y, e = .returned (.tuple #[x, y, .int .i64 (xckZ L refs)]) ∧ BlksOwn w' w.heap.size x (keptR L refs) ∧ w'.ownsRow w.heap.size 3 1 y (thenR L refs).length ((thenR L refs).map (Value.int .i64)) ∧ Below w.heap.size w w' := by
  by_cases he : xckZ L refs = 0
  · rw [he, keptR, if_pos he, thenR, if_pos he, List.length_map]
    exact bKeep_ok L refs v u w h hu hrl he
  · rw [keptR, if_neg he, thenR, if_neg he]
    obtain ⟨p, cap, hv, -, -⟩ := id h
    obtain ⟨pu, capu, huv, -, -⟩ := id hu
    subst hv huv
    obtain ⟨W1, hW1⟩ : ∃ W1, w.alloc (.cells #[.slice p L.length cap] 26) = W1 := ⟨_, rfl⟩
    have hb1 : Below w.heap.size w W1 := by rw [← hW1]; exact (Below.refl _ w).alloc (Nat.le_refl _) _
    have x1 : W1.heap[w.heap.size]? = some (.cells #[.slice p L.length cap] 26 (0, 0)) := by rw [← hW1]; exact World.alloc_heap_new w _
    have c1 := xaaZ x1 0
    simp at c1
    have lx := xacZ x1
    have HCK := hideP (xfeZ L _ W1 (h.below hb1))
    by_cases hb : blkErr L = 0
    · have hall : refs.all (refOk L.length) = false := by
        cases hc : refs.all (refOk L.length)
        · rfl
        · exfalso; apply he; unfold xckZ; rw [if_neg (by simpa using hb), if_pos hc]
      have hk : xckZ L refs = 3 := by unfold xckZ; rw [if_neg (by simpa using hb), hall]; rfl
      rw [hk]
      rw [hb] at HCK
      have HU := hideP hu
      clear h hu he hb hk x1
      go_enter Tryz.func78, Tryz.ntmps78
      go_wp2_with fail
      refine HCK.out.mono ?_
      rintro e w2 ⟨rfl, hb2⟩
      have B2 := hb1.trans (hb2.mono hb1.size)
      have c2 := (hb2.cell (p := ⟨w.heap.size, 0, none⟩) lx).trans c1
      have lx2 := Nat.lt_of_lt_of_le lx hb2.size
      go_wp2_with fail
      refine (xg6Z L refs _ p cap w.heap.size w2 (HU.out.below B2) ⟨lx2, c2⟩).mono ?_
      rw [hall]
      rintro e w3 ⟨rfl, hb3⟩
      clear hall
      go_wp2
      go_ret3
      exact ⟨_, _, rfl, xddZ _ _, World.ownsRow_nil _ _ _ _, B2.trans (hb3.mono B2.size)⟩
    · have hk : xckZ L refs = blkErr L := by unfold xckZ; rw [if_pos hb]
      have he' : (blkErr L != 0) = true := by simp [hb]
      rw [hk]
      clear h hu he hb hk x1
      go_enter Tryz.func78, Tryz.ntmps78
      go_wp2_with fail
      refine HCK.out.mono ?_
      rintro e w2 ⟨rfl, hb2⟩
      go_wp2
      go_ret3
      exact ⟨_, _, rfl, xddZ _ _, World.ownsRow_nil _ _ _ _, hb1.trans (hb2.mono hb1.size)⟩
end Go.Proofs.YtcadpoknolefpaaGreat


/- the reference's SameBlocks, CellsOf; blockBegun. -/
namespace Go.Proofs.YtcadpoknolefpaaGreat
open Go.RowKit
set_option linter.unusedSimpArgs false
set_option linter.unusedVariables false
theorem xm4Z (L M : List (List Int)) (v u : Value) (w : World) (hL : BlksAt w v L) (hM : BlksAt w u M) : Calls Tryz.prog 64 #[v, u] w fun e w' => e = .returned (.bool (decide (L = M))) ∧ Below w.heap.size w w' := by
  obtain ⟨p, cap, rfl, hlm, hc⟩ := hL
  obtain ⟨q, cap', rfl, hmm, hd⟩ := hM
  unfold maxLen at hlm hmm
  by_cases hlen : L.length = M.length
  · have hlen' : ((L.length : Int) != (M.length : Int)) = false := by simp; omega
    have HLEN := hideP hlen
    have HC := hideP hc
    have HD := hideP hd
    clear hc hd hlen
    go_enter Tryz.func64, Tryz.ntmps64
    go_wp2
    go_loopw [5] (fun i wr => ∃ k : Nat, k ≤ L.length ∧ i = .int .i64 k ∧ L.take k = M.take k ∧ Below w.heap.size w wr) (fun i _ => L.length - (intOf i).toNat)
    case atStart => exact ⟨0, Nat.zero_le _, rfl, by simp, Below.refl _ _⟩
    case round =>
      rename World => w1
      obtain ⟨k, hk, rfl, htk, hbw⟩ := hrel
      have HT := hideP htk
      clear htk
      by_cases hlt : k < L.length
      · have hlt2 : k < M.length := by have := HLEN.out; omega
        obtain ⟨x, ho⟩ := xaiZ hlt
        obtain ⟨y, ho'⟩ := xaiZ hlt2
        obtain ⟨b, off, c, rfl, hb, h0, h1, _, _⟩ := HC.out k _ ho
        obtain ⟨b', off', c', rfl, hb', h0', h1', _, _⟩ := HD.out k _ ho'
        have g0 := (hbw.cell (p := ⟨b, off + k, none⟩) hb).trans h0
        have g0' := (hbw.cell (p := ⟨b', off' + k, none⟩) hb').trans h0'
        have hlti : (k : Int) < (L.length : Int) := by omega
        have hlti2 : (k : Int) < (M.length : Int) := by omega
        obtain ⟨p1, c1, hc1, _, _⟩ := id h1
        obtain ⟨p2, c2, hc2, _, _⟩ := id h1'
        subst hc1 hc2
        have HS := hideP (xczZ x y _ _ w1.drew ((h1.below hbw).below (Below.refl _ w1).drew) ((h1'.below hbw).below (Below.refl _ w1).drew))
        have HO := hideP ho
        have HO' := hideP ho'
        clear ho ho' h0 h0' h1 h1'
        by_cases he : x = y
        · rw [decide_eq_true he] at HS
          have HE := hideP he
          clear he
          go_wp2_with fail
          go_region_held3 (fun W => W.cell? ⟨b, off + k, none⟩ = some (.slice p1 x.length c1) ∧ W.cell? ⟨b', off' + k, none⟩ = some (.slice p2 y.length c2)) (go_keep)
            (first
            | (go_at_call 26; refine HS.out.mono ?_; rintro e w2 ⟨rfl, hb2⟩; have g2 := (hb2.cell (p := ⟨b, off + k, none⟩) (Nat.lt_of_lt_of_le hb hbw.size)).trans g0; have g2' := (hb2.cell (p := ⟨b', off' + k, none⟩) (Nat.lt_of_lt_of_le hb' hbw.size)).trans g0'))
          go_wp2
          go_roundw
          case rel => exact ⟨k + 1, by omega, by go_num, by rw [xa5Z L k _ HO.out, xa5Z M k _ HO'.out, HT.out, HE.out], hbw.trans ((((Below.refl w1.heap.size w1).drew).trans hb2).mono hbw.size)⟩
          case measure => simp [intOf]; omega
        · rw [decide_eq_false he] at HS
          have HE := hideP he
          clear he
          go_wp2_with fail
          go_region_held3 (fun W => W.cell? ⟨b, off + k, none⟩ = some (.slice p1 x.length c1) ∧ W.cell? ⟨b', off' + k, none⟩ = some (.slice p2 y.length c2)) (go_keep)
            (first
            | (go_at_call 26; refine HS.out.mono ?_; rintro e w2 ⟨rfl, hb2⟩; have g2 := (hb2.cell (p := ⟨b, off + k, none⟩) (Nat.lt_of_lt_of_le hb hbw.size)).trans g0; have g2' := (hb2.cell (p := ⟨b', off' + k, none⟩) (Nat.lt_of_lt_of_le hb' hbw.size)).trans g0'))
          go_wp2
          go_ret
          refine ⟨?_, hbw.trans ((((Below.refl w1.heap.size w1).drew).trans hb2).mono hbw.size)⟩
          have : ¬ L = M := fun h => by
            have h1 := HO.out
            rw [h, HO'.out] at h1
            simp at h1
            exact HE.out h1.symm
          simp [this]
      · have hlt' : ¬ (k : Int) < (L.length : Int) := by omega
        go_wp2
        go_ret
        refine ⟨?_, hbw⟩
        have : L = M := by
          have h := HT.out
          rwa [List.take_of_length_le (by omega), List.take_of_length_le (by have := HLEN.out; omega)] at h
        simp [this]
  · have hlen' : ((L.length : Int) != (M.length : Int)) = true := by simp; omega
    have hne : ¬ L = M := fun h => hlen (by rw [h])
    clear hc hd
    have HN := hideP hne
    clear hne hlen
    go_enter Tryz.func64, Tryz.ntmps64
    go_wp2
    go_ret
    exact ⟨by simp [HN.out], Below.refl _ _⟩
end Go.Proofs.YtcadpoknolefpaaGreat


