/- My texts Tc Bg Td Ue: what of them is needed, joined. -/
import Derived.Deep.RegionHeld3
import Derived.Test.YtmjjkenblfndgaaGreatD9
import Derived.Test.YtmjjkenblfndgaaGreatD12
import Derived.Test.YtmjjkenblfndgaaGreatD22
set_option maxRecDepth 100000
set_option maxHeartbeats 8000000
/- meter.Run. -/
namespace Go.Proofs.YtmjjkenblfndgaaGreat
open Go.RowKit
set_option linter.unusedSimpArgs false
set_option linter.unusedVariables false
theorem xpsZ {W : World} {R : Nat} {t : TypeId} {a0 a1 a2 a3 a4 a5 a6 a7 a b c d e f g h : Value} (hh : W.heap[R]? = some (.cells #[a0, a1, a2, a3, a4, a5, a6, a7] t (0, 0))) : ((((((((W.setCell ⟨R, 0, none⟩ a).setCell ⟨R, 1, none⟩ b).setCell ⟨R, 2, none⟩ c).setCell ⟨R, 3, none⟩ d).setCell ⟨R, 4, none⟩ e).setCell ⟨R, 5, none⟩ f).setCell ⟨R, 6, none⟩ g).setCell ⟨R, 7, none⟩ h).heap[R]? = some (.cells #[a, b, c, d, e, f, g, h] t (0, 0)) := by
  have h1 := heap_setCell_same W R 0 _ _ a hh
  have h2 := heap_setCell_same _ R 1 _ _ b h1
  have h3 := heap_setCell_same _ R 2 _ _ c h2
  have h4 := heap_setCell_same _ R 3 _ _ d h3
  have h5 := heap_setCell_same _ R 4 _ _ e h4
  have h6 := heap_setCell_same _ R 5 _ _ f h5
  have h7 := heap_setCell_same _ R 6 _ _ g h6
  have h8 := heap_setCell_same _ R 7 _ _ h h7
  simpa using h8
theorem xn7Z (W : World) (R : Nat) (a b c d e f g h : Value) : W.grownBy ((((((((W.setCell ⟨R, 0, none⟩ a).setCell ⟨R, 1, none⟩ b).setCell ⟨R, 2, none⟩ c).setCell ⟨R, 3, none⟩ d).setCell ⟨R, 4, none⟩ e).setCell ⟨R, 5, none⟩ f).setCell ⟨R, 6, none⟩ g).setCell ⟨R, 7, none⟩ h) (some R) := xhoZ W R a b c d e f g |>.trans (xamZ _ ⟨R, 7, none⟩ h)
theorem xdhZ {W : World} {R : Nat} {a b c d e f g h v : Value} {p : Addr} (hc : W.cell? p = some v) (hn : ¬ p.block = R) : ((((((((W.setCell ⟨R, 0, none⟩ a).setCell ⟨R, 1, none⟩ b).setCell ⟨R, 2, none⟩ c).setCell ⟨R, 3, none⟩ d).setCell ⟨R, 4, none⟩ e).setCell ⟨R, 5, none⟩ f).setCell ⟨R, 6, none⟩ g).setCell ⟨R, 7, none⟩ h).cell? p = some v := by
  rw [World.cell?_setCell_far _ _ _ _ (fun e => hn e.symm)]
  exact xboZ hc hn
theorem drew_cellE (w : World) (p : Addr) : w.drew.cell? p = w.cell? p := rfl
theorem xepZ {w : World} {R : Nat} {a b c d e f v : Value} {p : Addr} (h : w.cell? p = some v) (hn : ¬ p.block = R) : ((((((w.setCell ⟨R, 0, none⟩ a).setCell ⟨R, 1, none⟩ b).setCell ⟨R, 2, none⟩ c).setCell ⟨R, 3, none⟩ d).setCell ⟨R, 4, none⟩ e).setCell ⟨R, 5, none⟩ f).drew.cell? p = some v := (drew_cellE _ _).trans (xa3Z h hn)
noncomputable def runE (p : List Fn) (M : Mach) (n : Int) : Int := if xaoZ p M ≠ 0 then xaoZ p M else if n < 0 ∨ 10000 < n then 3 else 0
def xhtZ (p : List Fn) (M : Mach) (n : Int) (t : MF) : Prop := (runE p M n = 0 → RunIs p M n t) ∧ (runE p M n ≠ 0 → t = (zeroM, 0))
def RunRet (p : List Fn) (M : Mach) (n : Int) (w : World) (e : Ending) (w' : World) : Prop := ∃ t : MF, xhtZ p M n t ∧ ∃ fv bv iv ov, e = .returned (.tuple #[.agg #[fv, bv, iv, ov, .int .i64 t.1.status, .int .i64 t.1.trap], .int .i64 t.2, .int .i64 (runE p M n)]) ∧ MRes w' w.heap.size fv bv iv ov t.1 ∧ Below w.heap.size w w'
theorem xjeZ {p : List Fn} {M : Mach} {n : Int} : runE p M n = 0 ↔ xaoZ p M = 0 ∧ 0 ≤ n ∧ n ≤ 10000 := by
  unfold runE
  constructor
  · intro h
    split at h
    · rename_i h1; exact absurd h h1
    · rename_i h1
      split at h
      · cases h
      · exact ⟨by simpa using h1, by omega, by omega⟩
  · rintro ⟨h1, h2, h3⟩
    rw [if_neg (by simp [h1]), if_neg (by omega)]
theorem xkkZ (M : Mach) (p : List Fn) (n : Int) (pv fv bv iv ov : Value) (w : World) (h : CkAt w p pv fv bv iv ov M) (hpc : PcOk M) : Calls Tryz.prog 23 #[.agg #[pv], .agg #[fv, bv, iv, ov, .int .i64 M.status, .int .i64 M.trap], .int .i64 n] w (RunRet p M n w) := by
  obtain ⟨⟨pp, qp, hpv⟩, ⟨pf, cf, hfv⟩, ⟨pb, cb, hbv⟩, ⟨pi, ci, hiv⟩, ⟨po, co, hov⟩⟩ := h.shp
  subst hpv hfv hbv hiv hov
  obtain ⟨W1, hW1⟩ : ∃ W1, ((w.alloc (.cells #[.slice pp p.length qp] 24)).alloc (.cells #[.slice pf M.frames.length cf, .slice pb M.blocks.length cb, .slice pi M.inp.length ci, .slice po M.out.length co, .int .i64 M.status, .int .i64 M.trap] 48)).alloc (.cells #[.slice none 0 0, .slice none 0 0, .slice none 0 0, .slice none 0 0, .int .i64 0, .int .i64 0] 48) = W1 := ⟨_, rfl⟩
  have b1 : Below w.heap.size w W1 := by rw [← hW1]; exact (((Below.refl _ w).alloc (Nat.le_refl _) _).alloc (by simp) _).alloc (by simp; omega) _
  have u1 : W1.heap[w.heap.size]? = some (.cells #[.slice pp p.length qp] 24 (0, 0)) := by rw [← hW1]; exact xc9Z _ _ _ _
  have u2 : W1.heap[w.heap.size + 1]? = some (.cells #[.slice pf M.frames.length cf, .slice pb M.blocks.length cb, .slice pi M.inp.length ci, .slice po M.out.length co, .int .i64 M.status, .int .i64 M.trap] 48 (0, 0)) := by rw [← hW1]; exact xcuZ _ _ _ _
  have u3 : W1.heap[w.heap.size + 1 + 1]? = some (.cells #[.slice none 0 0, .slice none 0 0, .slice none 0 0, .slice none 0 0, .int .i64 0, .int .i64 0] 48 (0, 0)) := by rw [← hW1]; exact new3 _ _ _ _
  have l1 := xacZ u1
  have l2 := xacZ u2
  have l3 := xacZ u3
  have KC : Hid (∀ W, Below W1.heap.size W1 W → W.cell? ⟨w.heap.size, 0, none⟩ = some (.slice pp p.length qp) ∧ W.cell? ⟨w.heap.size + 1, 0, none⟩ = some (.slice pf M.frames.length cf) ∧ W.cell? ⟨w.heap.size + 1, 1, none⟩ = some (.slice pb M.blocks.length cb) ∧ W.cell? ⟨w.heap.size + 1, 2, none⟩ = some (.slice pi M.inp.length ci) ∧ W.cell? ⟨w.heap.size + 1, 3, none⟩ = some (.slice po M.out.length co) ∧ W.cell? ⟨w.heap.size + 1, 4, none⟩ = some (.int .i64 M.status) ∧ W.cell? ⟨w.heap.size + 1, 5, none⟩ = some (.int .i64 M.trap)) := fun W hW => by
    have h1 := (hW.block _ l1).trans u1
    have h2 := (hW.block _ l2).trans u2
    exact ⟨xaaZ h1 0, xaaZ h2 0, xaaZ h2 1, xaaZ h2 2, xaaZ h2 3, xaaZ h2 4, xaaZ h2 5⟩
  have KR : Hid (∀ W, Below W1.heap.size W1 W → W.heap[w.heap.size + 1 + 1]? = some (.cells #[.slice none 0 0, .slice none 0 0, .slice none 0 0, .slice none 0 0, .int .i64 0, .int .i64 0] 48 (0, 0))) := fun W hW => (hW.block _ l3).trans u3
  obtain ⟨a0, d0, d1, d2, d3, d4, d5⟩ := KC.out W1 (Below.refl _ _)
  have H1 := h.below b1
  have HCK := hideP (xd6Z M p _ _ _ _ _ W1 H1 hpc)
  have HH := hideP H1
  clear h H1 u1 u2 u3 hpc
  by_cases hc : xaoZ p M = 0
  rotate_left
  · have hc' : (xaoZ p M != 0) = true := by simpa using hc
    have hE : runE p M n = xaoZ p M := by unfold runE; rw [if_pos hc]
    have HFIN : Hid (xhtZ p M n (zeroM, 0)) := ⟨fun h0 => absurd (hE.symm.trans h0) hc, fun _ => rfl⟩
    unfold RunRet
    rw [hE]
    generalize xaoZ p M = er at *
    clear hc hE
    go_enter Tryz.func23, Tryz.ntmps23
    go_wp2_with fail
    refine HCK.out.mono ?_
    rintro e' w2 ⟨rfl, b2⟩
    obtain ⟨e0, g0, g1, g2, g3, g4, g5⟩ := KC.out w2 b2
    have hr2 := KR.out w2 b2
    have r0 := xaaZ hr2 0
    have r1 := xaaZ hr2 1
    have r2 := xaaZ hr2 2
    have r3 := xaaZ hr2 3
    have r4 := xaaZ hr2 4
    have r5 := xaaZ hr2 5
    simp at r0 r1 r2 r3 r4 r5
    have zq := Lib.frozen_of_heap hr2
    have z0 := zq 0
    have z1 := zq 1
    have z2 := zq 2
    have z3 := zq 3
    have z4 := zq 4
    have z5 := zq 5
    clear zq
    have HR2 := hideP hr2
    clear hr2
    go_wp2
    refine bodyPost_ret (v := .tuple #[.agg #[.slice none 0 0, .slice none 0 0, .slice none 0 0, .slice none 0 0, .int .i64 0, .int .i64 0], .int .i64 0, .int .i64 er]) (by simp [results, Tryz.results23, go_sem, r0, r1, r2, r3, r4, r5]) rfl ?_
    have hg6 := xbfZ w2 (w.heap.size + 1 + 1) (.slice none 0 0) (.slice none 0 0) (.slice none 0 0) (.slice none 0 0) (.int .i64 0) (.int .i64 0)
    exact ⟨(zeroM, 0), HFIN.out, _, _, _, _, rfl, xdzZ _ _, (xadZ b1 b2).grown hg6 (xadZ b1 b2).size (fun k hk => by cases hk; omega)⟩
  rw [hc] at HCK
  by_cases hn : n < 0 ∨ 10000 < n
  · have hE : runE p M n = 3 := by unfold runE; rw [if_neg (by simp [hc]), if_pos hn]
    have HFIN : Hid (xhtZ p M n (zeroM, 0)) := ⟨fun h0 => (by rw [hE] at h0; cases h0), fun _ => rfl⟩
    unfold RunRet
    rw [hE]
    clear hE
    by_cases hneg : n < 0
    · have t1 : decide (n < 0) = true := by simpa using hneg
      clear hn hc hneg
      go_enter Tryz.func23, Tryz.ntmps23
      go_wp2_with fail
      refine HCK.out.mono ?_
      rintro e' w2 ⟨rfl, b2⟩
      obtain ⟨e0, g0, g1, g2, g3, g4, g5⟩ := KC.out w2 b2
      have hr2 := KR.out w2 b2
      have r0 := xaaZ hr2 0
      have r1 := xaaZ hr2 1
      have r2 := xaaZ hr2 2
      have r3 := xaaZ hr2 3
      have r4 := xaaZ hr2 4
      have r5 := xaaZ hr2 5
      simp at r0 r1 r2 r3 r4 r5
      have zq := Lib.frozen_of_heap hr2
      have z0 := zq 0
      have z1 := zq 1
      have z2 := zq 2
      have z3 := zq 3
      have z4 := zq 4
      have z5 := zq 5
      clear zq
      have HR2 := hideP hr2
      clear hr2
      go_wp2
      refine bodyPost_ret (v := .tuple #[.agg #[.slice none 0 0, .slice none 0 0, .slice none 0 0, .slice none 0 0, .int .i64 0, .int .i64 0], .int .i64 0, .int .i64 3]) (by simp [results, Tryz.results23, go_sem, r0, r1, r2, r3, r4, r5]) rfl ?_
      have hg6 := xbfZ w2 (w.heap.size + 1 + 1) (.slice none 0 0) (.slice none 0 0) (.slice none 0 0) (.slice none 0 0) (.int .i64 0) (.int .i64 0)
      exact ⟨(zeroM, 0), HFIN.out, _, _, _, _, rfl, xdzZ _ _, (xadZ b1 b2).grown hg6 (xadZ b1 b2).size (fun k hk => by cases hk; omega)⟩
    · have t1 : decide (n < 0) = false := by simpa using hneg
      have t2 : decide (n > 10000) = true := by simp; omega
      clear hn hc hneg
      go_enter Tryz.func23, Tryz.ntmps23
      go_wp2_with fail
      refine HCK.out.mono ?_
      rintro e' w2 ⟨rfl, b2⟩
      obtain ⟨e0, g0, g1, g2, g3, g4, g5⟩ := KC.out w2 b2
      have hr2 := KR.out w2 b2
      have r0 := xaaZ hr2 0
      have r1 := xaaZ hr2 1
      have r2 := xaaZ hr2 2
      have r3 := xaaZ hr2 3
      have r4 := xaaZ hr2 4
      have r5 := xaaZ hr2 5
      simp at r0 r1 r2 r3 r4 r5
      have zq := Lib.frozen_of_heap hr2
      have z0 := zq 0
      have z1 := zq 1
      have z2 := zq 2
      have z3 := zq 3
      have z4 := zq 4
      have z5 := zq 5
      clear zq
      have HR2 := hideP hr2
      clear hr2
      go_wp2
      refine bodyPost_ret (v := .tuple #[.agg #[.slice none 0 0, .slice none 0 0, .slice none 0 0, .slice none 0 0, .int .i64 0, .int .i64 0], .int .i64 0, .int .i64 3]) (by simp [results, Tryz.results23, go_sem, r0, r1, r2, r3, r4, r5]) rfl ?_
      have hg6 := xbfZ w2 (w.heap.size + 1 + 1) (.slice none 0 0) (.slice none 0 0) (.slice none 0 0) (.slice none 0 0) (.int .i64 0) (.int .i64 0)
      exact ⟨(zeroM, 0), HFIN.out, _, _, _, _, rfl, xdzZ _ _, (xadZ b1 b2).grown hg6 (xadZ b1 b2).size (fun k hk => by cases hk; omega)⟩
  have hE : runE p M n = 0 := xjeZ.2 ⟨hc, by omega, by omega⟩
  have HE0 := hideP hE
  unfold RunRet
  rw [hE]
  clear hE
  obtain ⟨hp, he, hR⟩ := xa8Z.1 hc
  have hsm := (xclZ hp he hR).1
  have t1 : decide (n < 0) = false := by simp; omega
  have t2 : decide (n > 10000) = false := by simp; omega
  have HNN : Hid (0 ≤ n ∧ n ≤ 100000) := ⟨by omega, by omega⟩
  have HS := hideP (And.intro hp (And.intro he hR))
  have HFM : Hid (∀ W, Below W1.heap.size W1 W → Calls Tryz.prog 53 #[.agg #[.slice pf M.frames.length cf, .slice pb M.blocks.length cb, .slice pi M.inp.length ci, .slice po M.out.length co, .int .i64 M.status, .int .i64 M.trap]] W fun e w' => ∃ fv' bv' iv' ov', e = .returned (.agg #[fv', bv', iv', ov', .int .i64 M.status, .int .i64 M.trap]) ∧ ∃ q qb, MOwn w' W.heap.size fv' bv' iv' ov' q qb M ∧ Below W.heap.size W w') := fun W hW => xcgZ M _ _ _ _ W (HH.out.below hW).mach hsm
  clear hn hc hp he hR hsm
  go_enter Tryz.func23, Tryz.ntmps23
  go_wp2_with fail
  refine HCK.out.mono ?_
  rintro e' w2 ⟨rfl, b2⟩
  clear a0 d0 d1 d2 d3 d4 d5
  obtain ⟨x0, g0, g1, g2, g3, g4, g5⟩ := KC.out w2 b2
  have hz1 : ¬ w.heap.size = w2.heap.size := by have := b2.size; omega
  have hz2 : ¬ w.heap.size + 1 = w2.heap.size := by have := b2.size; omega
  have hdA : ∀ o, Below w2.heap.size w2 (w2.alloc o).drew := fun o => ((Below.refl _ w2).alloc (Nat.le_refl _) o).drew
  go_upto_region 6 with fail
  go_cut [10] from 25 (fun s10 wx => ∃ bR : Nat, s10 = .pointer (some ⟨bR, 0, none⟩) ∧ Runs W1 wx bR (.slice pp p.length qp) (M, n))
  case first =>
    go_region_held3 (fun X => X.cell? ⟨w.heap.size, 0, none⟩ = some (.slice pp p.length qp) ∧ X.cell? ⟨w.heap.size + 1, 0, none⟩ = some (.slice pf M.frames.length cf) ∧ X.cell? ⟨w.heap.size + 1, 1, none⟩ = some (.slice pb M.blocks.length cb) ∧ X.cell? ⟨w.heap.size + 1, 2, none⟩ = some (.slice pi M.inp.length ci) ∧ X.cell? ⟨w.heap.size + 1, 3, none⟩ = some (.slice po M.out.length co) ∧ X.cell? ⟨w.heap.size + 1, 4, none⟩ = some (.int .i64 M.status) ∧ X.cell? ⟨w.heap.size + 1, 5, none⟩ = some (.int .i64 M.trap)) (first | go_keep | exact ⟨xdhZ k0 hz1, xdhZ k1 hz2, xdhZ k2 hz2, xdhZ k3 hz2, xdhZ k4 hz2, xdhZ k5 hz2, xdhZ k6 hz2⟩)
      (first
        | (go_at_call 53; (with_reducible refine (HFM.out _ (xadZ b2 (Below.refl _ w2).drew)).mono ?_); rintro e w3 ⟨f3, b3, i3, o3, rfl, q3, qb3, r3, b3'⟩; have b23 : Below w2.heap.size w2 w3 := xadZ (Below.refl _ w2).drew b3'; have b13 := xadZ b2 b23; obtain ⟨pf3, cf3, hf3⟩ := xagZ r3.fr; obtain ⟨pb3, cb3, hb3⟩ := xagZ r3.bl; obtain ⟨pi3, ci3, hi3⟩ := xagZ r3.inp; obtain ⟨po3, co3, ho3⟩ := xagZ r3.out; subst hf3 hb3 hi3 ho3; have R3 := hideP r3; clear r3; obtain ⟨k0, k1, k2, k3, k4, k5, k6⟩ := KC.out w3 b13)
        | (go_at_call 53; (with_reducible refine (HFM.out _ (xadZ b2 (hdA _))).mono ?_); rintro e w3 ⟨f3, b3, i3, o3, rfl, q3, qb3, r3, b3'⟩; have b23 : Below w2.heap.size w2 w3 := xadZ (hdA _) b3'; have b13 := xadZ b2 b23; have q0 := (b3'.block w2.heap.size (xacZ (World.alloc_heap_new w2 _))).trans (World.alloc_heap_new w2 _); have Q0 := hideP q0; have m0 := xaaZ q0 0; have m1 := xaaZ q0 1; have m2 := xaaZ q0 2; have m3 := xaaZ q0 3; have m4 := xaaZ q0 4; have m5 := xaaZ q0 5; have m6 := xaaZ q0 6; have m7 := xaaZ q0 7; simp at m0 m1 m2 m3 m4 m5 m6 m7; have nn := Lib.frozen_of_heap q0; have n0 := nn 0; have n1 := nn 1; have n2 := nn 2; have n3 := nn 3; have n4 := nn 4; have n5 := nn 5; have n6 := nn 6; have n7 := nn 7; clear nn q0; obtain ⟨pf3, cf3, hf3⟩ := xagZ r3.fr; obtain ⟨pb3, cb3, hb3⟩ := xagZ r3.bl; obtain ⟨pi3, ci3, hi3⟩ := xagZ r3.inp; obtain ⟨po3, co3, ho3⟩ := xagZ r3.out; subst hf3 hb3 hi3 ho3; have R3 := hideP r3; clear r3; obtain ⟨k0, k1, k2, k3, k4, k5, k6⟩ := KC.out w3 b13))
    all_goals
      go_wp2_with fail
      go_meet
    · have h8 := World.alloc_heap_new w3 (.cells (runCells (.slice pf3 q3.length cf3) (.slice pb3 qb3.length cb3) (.slice pi3 M.inp.length ci3) (.slice po3 M.out.length co3) (.slice pp p.length qp) M n) 92)
      refine ⟨_, rfl, _, _, _, _, ⟨h8, ?_, b13.alloc b13.size _, b13.size⟩⟩
      exact (R3.out.res.low (by have := b2.size; simpa using this)).below ((Below.refl _ w3).alloc (Nat.le_refl _) _)
    · have hg8 := xn7Z w3 w2.heap.size (.slice pf3 q3.length cf3) (.slice pb3 qb3.length cb3) (.slice pi3 M.inp.length ci3) (.slice po3 M.out.length co3) (.int .i64 M.status) (.int .i64 M.trap) (.slice pp p.length qp) (.int .i64 n)
      refine ⟨_, rfl, _, _, _, _, ⟨xpsZ Q0.out, ?_, b13.grown hg8 b13.size (fun k hk => by cases hk; exact b2.size), b2.size⟩⟩
      exact (R3.out.res.low (by have := b2.size; simp; omega)).keep hg8 (xa5Z Q0.out) (by decide) (by decide) (by decide) (by decide)
  case rest =>
    obtain ⟨bR, rfl, hruns⟩ := hcut
    have HRUN := hideP (rLoop_any W1 wc bR p (entP p) _ M n HS.out.1 HS.out.2.1 HS.out.2.2 HNN.out HH.out.fns HH.out.cap hruns)
    clear hruns x0 g0 g1 g2 g3 g4 g5
    go_wp2_with fail
    refine HRUN.out.mono ?_
    rintro e' w5 ⟨rfl, t, ht, f5, b5, i5, o5, hq⟩
    obtain ⟨⟨pf5, nf5, cf5, hf5⟩, ⟨pb5, nb5, cb5, hb5⟩, ⟨pi5, ni5, ci5, hi5⟩, ⟨po5, no5, co5, ho5⟩⟩ := xftZ hq.res
    subst hf5 hb5 hi5 ho5
    have hr5 := KR.out w5 hq.bel
    have HR5 := hideP hr5
    have s0 := xaaZ hr5 0
    have s1 := xaaZ hr5 1
    have s2 := xaaZ hr5 2
    have s3 := xaaZ hr5 3
    have s4 := xaaZ hr5 4
    have s5 := xaaZ hr5 5
    simp at s0 s1 s2 s3 s4 s5
    have yq := Lib.frozen_of_heap hr5
    have y0 := yq 0
    have y1 := yq 1
    have y2 := yq 2
    have y3 := yq 3
    have y4 := yq 4
    have y5 := yq 5
    clear yq
    have c0 := xaaZ hq.cell 0
    have c1 := xaaZ hq.cell 1
    have c2 := xaaZ hq.cell 2
    have c3 := xaaZ hq.cell 3
    have c4 := xaaZ hq.cell 4
    have c5 := xaaZ hq.cell 5
    have c7 := xaaZ hq.cell 7
    simp at c0 c1 c2 c3 c4 c5 c7
    have hne : ¬ bR = w.heap.size + 1 + 1 := fun e => by
      have h1 := hq.cell
      rw [e, hr5] at h1
      simp at h1
    have HST := hideP (xd7Z (w := w) (hq.res.low b1.size) (b1.trans (hq.bel.mono b1.size)) hr5 (by omega))
    have HT := hideP ht
    clear hq hr5 ht
    go_wp2_with fail
    have T0 := xepZ (a := .slice pf5 nf5 cf5) (b := .slice pb5 nb5 cb5) (c := .slice pi5 ni5 ci5) (d := .slice po5 no5 co5) (e := .int .i64 t.1.status) (f := .int .i64 t.1.trap) c0 hne
    have T1 := xepZ (a := .slice pf5 nf5 cf5) (b := .slice pb5 nb5 cb5) (c := .slice pi5 ni5 ci5) (d := .slice po5 no5 co5) (e := .int .i64 t.1.status) (f := .int .i64 t.1.trap) c1 hne
    have T2 := xepZ (a := .slice pf5 nf5 cf5) (b := .slice pb5 nb5 cb5) (c := .slice pi5 ni5 ci5) (d := .slice po5 no5 co5) (e := .int .i64 t.1.status) (f := .int .i64 t.1.trap) c2 hne
    have T3 := xepZ (a := .slice pf5 nf5 cf5) (b := .slice pb5 nb5 cb5) (c := .slice pi5 ni5 ci5) (d := .slice po5 no5 co5) (e := .int .i64 t.1.status) (f := .int .i64 t.1.trap) c3 hne
    have T4 := xepZ (a := .slice pf5 nf5 cf5) (b := .slice pb5 nb5 cb5) (c := .slice pi5 ni5 ci5) (d := .slice po5 no5 co5) (e := .int .i64 t.1.status) (f := .int .i64 t.1.trap) c4 hne
    have T5 := xepZ (a := .slice pf5 nf5 cf5) (b := .slice pb5 nb5 cb5) (c := .slice pi5 ni5 ci5) (d := .slice po5 no5 co5) (e := .int .i64 t.1.status) (f := .int .i64 t.1.trap) c5 hne
    have T7 := xepZ (a := .slice pf5 nf5 cf5) (b := .slice pb5 nb5 cb5) (c := .slice pi5 ni5 ci5) (d := .slice po5 no5 co5) (e := .int .i64 t.1.status) (f := .int .i64 t.1.trap) c7 hne
    go_region_held3 (fun X => X.cell? ⟨bR, 0, none⟩ = some (.slice pf5 nf5 cf5) ∧ X.cell? ⟨bR, 1, none⟩ = some (.slice pb5 nb5 cb5) ∧ X.cell? ⟨bR, 2, none⟩ = some (.slice pi5 ni5 ci5) ∧ X.cell? ⟨bR, 3, none⟩ = some (.slice po5 no5 co5) ∧ X.cell? ⟨bR, 4, none⟩ = some (.int .i64 t.1.status) ∧ X.cell? ⟨bR, 5, none⟩ = some (.int .i64 t.1.trap) ∧ X.cell? ⟨bR, 7, none⟩ = some (.int .i64 t.2)) (first | go_keep | exact ⟨T0, T1, T2, T3, T4, T5, T7⟩) (fail)
    clear T0 T1 T2 T3 T4 T5 T7
    go_wp2
    refine bodyPost_ret (v := .tuple #[.agg #[.slice pf5 nf5 cf5, .slice pb5 nb5 cb5, .slice pi5 ni5 ci5, .slice po5 no5 co5, .int .i64 t.1.status, .int .i64 t.1.trap], .int .i64 t.2, .int .i64 0]) (by simp [results, Tryz.results23, go_sem, s0, s1, s2, s3, s4, s5]) rfl ?_
    exact ⟨t, ⟨fun _ => HT.out, fun h => absurd HE0.out h⟩, _, _, _, _, rfl, HST.out.1.below (Below.refl _ _).drew, HST.out.2.drew⟩
end Go.Proofs.YtmjjkenblfndgaaGreat


/- the reference's SameBlocks, CellsOf; blockBegun. -/
namespace Go.Proofs.YtmjjkenblfndgaaGreat
open Go.RowKit
set_option linter.unusedSimpArgs false
set_option linter.unusedVariables false
theorem xl5Z (L M : List (List Int)) (v u : Value) (w : World) (hL : BlksAt w v L) (hM : BlksAt w u M) : Calls Tryz.prog 55 #[v, u] w fun e w' => e = .returned (.bool (decide (L = M))) ∧ Below w.heap.size w w' := by
  obtain ⟨p, cap, rfl, hlm, hc⟩ := hL
  obtain ⟨q, cap', rfl, hmm, hd⟩ := hM
  unfold maxLen at hlm hmm
  by_cases hlen : L.length = M.length
  · have hlen' : ((L.length : Int) != (M.length : Int)) = false := by simp; omega
    have HLEN := hideP hlen
    have HC := hideP hc
    have HD := hideP hd
    clear hc hd hlen
    go_enter Tryz.func55, Tryz.ntmps55
    go_wp2
    go_loopw [5] (fun i wr => ∃ k : Nat, k ≤ L.length ∧ i = .int .i64 k ∧ L.take k = M.take k ∧ Below w.heap.size w wr) (fun i _ => L.length - (intOf i).toNat)
    case atStart => exact ⟨0, Nat.zero_le _, rfl, by simp, Below.refl _ _⟩
    case round =>
      rename World => w1
      obtain ⟨k, hk, rfl, htk, hbw⟩ := hrel
      have HT := hideP htk
      clear htk
      by_cases hlt : k < L.length
      · have hlt2 : k < M.length := by have := HLEN.out; omega
        obtain ⟨x, ho⟩ := xaiZ hlt
        obtain ⟨y, ho'⟩ := xaiZ hlt2
        obtain ⟨b, off, c, rfl, hb, h0, h1, _, _⟩ := HC.out k _ ho
        obtain ⟨b', off', c', rfl, hb', h0', h1', _, _⟩ := HD.out k _ ho'
        have g0 := (hbw.cell (p := ⟨b, off + k, none⟩) hb).trans h0
        have g0' := (hbw.cell (p := ⟨b', off' + k, none⟩) hb').trans h0'
        have hlti : (k : Int) < (L.length : Int) := by omega
        have hlti2 : (k : Int) < (M.length : Int) := by omega
        obtain ⟨p1, c1, hc1, _, _⟩ := id h1
        obtain ⟨p2, c2, hc2, _, _⟩ := id h1'
        subst hc1 hc2
        have HS := hideP (xfjZ x y _ _ w1.drew ((h1.below hbw).below (Below.refl _ w1).drew) ((h1'.below hbw).below (Below.refl _ w1).drew))
        have HO := hideP ho
        have HO' := hideP ho'
        clear ho ho' h0 h0' h1 h1'
        by_cases he : x = y
        · rw [decide_eq_true he] at HS
          have HE := hideP he
          clear he
          go_wp2_with fail
          go_region_held3 (fun W => W.cell? ⟨b, off + k, none⟩ = some (.slice p1 x.length c1) ∧ W.cell? ⟨b', off' + k, none⟩ = some (.slice p2 y.length c2)) (go_keep)
            (first
            | (go_at_call 25; refine HS.out.mono ?_; rintro e w2 ⟨rfl, hb2⟩; have g2 := (hb2.cell (p := ⟨b, off + k, none⟩) (Nat.lt_of_lt_of_le hb hbw.size)).trans g0; have g2' := (hb2.cell (p := ⟨b', off' + k, none⟩) (Nat.lt_of_lt_of_le hb' hbw.size)).trans g0'))
          go_wp2
          go_roundw
          case rel => exact ⟨k + 1, by omega, by go_num, by rw [xa7Z L k _ HO.out, xa7Z M k _ HO'.out, HT.out, HE.out], hbw.trans ((((Below.refl w1.heap.size w1).drew).trans hb2).mono hbw.size)⟩
          case measure => simp [intOf]; omega
        · rw [decide_eq_false he] at HS
          have HE := hideP he
          clear he
          go_wp2_with fail
          go_region_held3 (fun W => W.cell? ⟨b, off + k, none⟩ = some (.slice p1 x.length c1) ∧ W.cell? ⟨b', off' + k, none⟩ = some (.slice p2 y.length c2)) (go_keep)
            (first
            | (go_at_call 25; refine HS.out.mono ?_; rintro e w2 ⟨rfl, hb2⟩; have g2 := (hb2.cell (p := ⟨b, off + k, none⟩) (Nat.lt_of_lt_of_le hb hbw.size)).trans g0; have g2' := (hb2.cell (p := ⟨b', off' + k, none⟩) (Nat.lt_of_lt_of_le hb' hbw.size)).trans g0'))
          go_wp2
          go_ret
          refine ⟨?_, hbw.trans ((((Below.refl w1.heap.size w1).drew).trans hb2).mono hbw.size)⟩
          have : ¬ L = M := fun h => by
            have h1 := HO.out
            rw [h, HO'.out] at h1
            simp at h1
            exact HE.out h1.symm
          simp [this]
      · have hlt' : ¬ (k : Int) < (L.length : Int) := by omega
        go_wp2
        go_ret
        refine ⟨?_, hbw⟩
        have : L = M := by
          have h := HT.out
          rwa [List.take_of_length_le (by omega), List.take_of_length_le (by have := HLEN.out; omega)] at h
        simp [this]
  · have hlen' : ((L.length : Int) != (M.length : Int)) = true := by simp; omega
    have hne : ¬ L = M := fun h => hlen (by rw [h])
    clear hc hd
    have HN := hideP hne
    clear hne hlen
    go_enter Tryz.func55, Tryz.ntmps55
    go_wp2
    go_ret
    exact ⟨by simp [HN.out], Below.refl _ _⟩
end Go.Proofs.YtmjjkenblfndgaaGreat


/- What must be in any case of fuel: meterBegun. -/
namespace Go.Proofs.YtmjjkenblfndgaaGreat
open Go.RowKit
set_option linter.unusedSimpArgs false
set_option linter.unusedVariables false
def runF (p : List Fn) : Nat → MF → MF
  | 0, s => s
  | k + 1, s => if s.1.status = 0 then (match pay p s with
    | none => s
    | some s' => runF p k s') else s
theorem xg6Z {p : List Fn} : ∀ (k : Nat) (s : MF), ((runF p k s).1.status ≠ 0 ∨ pay p (runF p k s) = none) → Ends p s (runF p k s)
  | 0, s, h => by
    rcases h with h | h
    · exact .stop h
    · exact .poor h
  | k + 1, s, h => by
    unfold runF at h ⊢
    by_cases h0 : s.1.status = 0
    · rw [if_pos h0] at h ⊢
      cases hp : pay p s with
      | none => exact .poor hp
      | some s' => rw [hp] at h; exact .on h0 hp (xg6Z k s' h)
    · rw [if_neg h0]
      exact .stop h0
def doneM : Mach := ⟨[], [], [], [3, 2, 1], 2, 0⟩
def fiveM : Mach := ⟨[⟨0, 5, [], [(false, 2)]⟩], [], [], [3], 0, 0⟩
theorem run100 : runF xavZ 60 (beginM, 100) = (doneM, 77) := by kernel_rfl
theorem run5 : runF xavZ 60 (beginM, 5) = (fiveM, 0) ∧ pay xavZ (fiveM, 0) = none := ⟨by kernel_rfl, by kernel_rfl⟩
theorem is100 : RunIs xavZ beginM 100 (doneM, 77) := by
  unfold RunIs
  rw [xf7Z (by decide), ← run100]
  exact xg6Z 60 _ (.inl (by rw [run100]; decide))
theorem is5 : RunIs xavZ beginM 5 (fiveM, 0) := by
  unfold RunIs
  rw [xf7Z (by decide), ← run5.1]
  exact xg6Z 60 _ (.inr (by rw [run5.1]; exact run5.2))
def MRet3 (R : Mach) (k : Int) (w : World) (e : Ending) (w' : World) : Prop := ∃ fv bv iv ov, e = .returned (.tuple #[.agg #[fv, bv, iv, ov, .int .i64 R.status, .int .i64 R.trap], .int .i64 k, .int .i64 0]) ∧ MRes w' w.heap.size fv bv iv ov R ∧ Below w.heap.size w w'
theorem xmwZ {n k : Int} {R : Mach} (hr : RunIs xavZ beginM n (R, k)) (hn : 0 ≤ n ∧ n ≤ 10000) {pv fv bv iv ov : Value} {w : World} (h : CkAt w xavZ pv fv bv iv ov beginM) (hf : fitsE xavZ = 0) : Calls Tryz.prog 23 #[.agg #[pv], .agg #[fv, bv, iv, ov, .int .i64 beginM.status, .int .i64 beginM.trap], .int .i64 n] w (MRet3 R k w) := by
  have hE : runE xavZ beginM n = 0 := xjeZ.2 ⟨(xj8Z hf cb1.1).1, hn⟩
  refine (xkkZ beginM xavZ n pv fv bv iv ov w h xlhZ).mono ?_
  rintro e w' ⟨t, ht, f', b', i', o', h1, h2, h3⟩
  have := xmvZ (ht.1 hE) hr
  subst this
  rw [hE] at h1
  exact ⟨_, _, _, _, h1, h2, h3⟩
theorem run_100 {pv fv bv iv ov : Value} {w : World} (h : CkAt w xavZ pv fv bv iv ov beginM) (hf : fitsE xavZ = 0) : Calls Tryz.prog 23 #[.agg #[pv], .agg #[fv, bv, iv, ov, .int .i64 beginM.status, .int .i64 beginM.trap], .int .i64 100] w (MRet3 doneM 77 w) := xmwZ is100 (by decide) h hf
theorem run_5 {pv fv bv iv ov : Value} {w : World} (h : CkAt w xavZ pv fv bv iv ov beginM) (hf : fitsE xavZ = 0) : Calls Tryz.prog 23 #[.agg #[pv], .agg #[fv, bv, iv, ov, .int .i64 beginM.status, .int .i64 beginM.trap], .int .i64 5] w (MRet3 fiveM 0 w) := xmwZ is5 (by decide) h hf
theorem xlzZ (w : World) : Calls Tryz.prog 22 #[] w fun e w' => e = .returned (.bool true) ∧ Below w.heap.size w w' := by
  go_enter Tryz.func22, Tryz.ntmps22
  go_wp2_with fail
  refine (xcjZ _).mono ?_
  rintro e w1 ⟨v1, rfl, f1, k1, b1⟩
  have hcf := xiwZ f1 k1
  have HST := hideP (xhqZ f1 k1 hcf cb1.1)
  go_wp2_with fail
  refine HST.out.mono ?_
  rintro e w2 ⟨xf, xb, xi, xo, rfl, r2, b2⟩
  have B2 := xadZ b1 b2
  have HCF := hideP hcf
  obtain ⟨⟨pf, kf, hf⟩, ⟨pb, kb, hb⟩, ⟨pi, ki, hi⟩, ⟨po, ko, ho⟩⟩ := xbbZ r2
  subst hf hb hi ho
  have A2 : MachAt w2 _ _ _ _ beginM := r2.at_ (by decide)
  obtain ⟨W3, hW3⟩ : ∃ W3, w2.alloc (.cells #[.slice pf beginM.frames.length kf, .slice pb beginM.blocks.length kb, .slice pi beginM.inp.length ki, .slice po beginM.out.length ko, .int .i64 beginM.status, .int .i64 beginM.trap] 48) = W3 := ⟨_, rfl⟩
  have b3 : Below w2.heap.size w2 W3 := by rw [← hW3]; exact (Below.refl _ w2).alloc (Nat.le_refl _) _
  have u3 : W3.heap[w2.heap.size]? = some (.cells #[.slice pf beginM.frames.length kf, .slice pb beginM.blocks.length kb, .slice pi beginM.inp.length ki, .slice po beginM.out.length ko, .int .i64 beginM.status, .int .i64 beginM.trap] 48 (0, 0)) := by rw [← hW3]; exact World.alloc_heap_new w2 _
  have B3 := xadZ B2 b3
  have A3 := hideP (A2.below b3)
  have l3 := xacZ u3
  have a0 := xaaZ u3 0
  have a1 := xaaZ u3 1
  have a2 := xaaZ u3 2
  have a3 := xaaZ u3 3
  have a4 := xaaZ u3 4
  have a5 := xaaZ u3 5
  simp at a0 a1 a2 a3 a4 a5
  have HB3 := hideP B3
  clear f1 k1 hcf HST b1 b2 B2 r2 A2 b3 u3 B3
  go_upto_region 2 with fail
  go_cut [3, 4, 5] from 16 (fun sa sb sc wx => ∃ (z : Nat) (fv bv iv ov : Value), sa = .pointer (some ⟨z, 0, none⟩) ∧ sb = .int .i64 (77) ∧ sc = .int .i64 0 ∧ wx.heap[z]? = some (.cells #[fv, bv, iv, ov, .int .i64 (doneM).status, .int .i64 (doneM).trap] 48 (0, 0)) ∧ MachAt wx fv bv iv ov doneM ∧ Below W3.heap.size W3 wx)
  case first =>
    have hdA : ∀ o, Below W3.heap.size W3 (W3.alloc o).drew := fun o => ((Below.refl _ W3).alloc (Nat.le_refl _) o).drew
    go_region_held3 (fun W => W.cell? ⟨w2.heap.size, 0, none⟩ = some (.slice pf beginM.frames.length kf) ∧ W.cell? ⟨w2.heap.size, 1, none⟩ = some (.slice pb beginM.blocks.length kb) ∧ W.cell? ⟨w2.heap.size, 2, none⟩ = some (.slice pi beginM.inp.length ki) ∧ W.cell? ⟨w2.heap.size, 3, none⟩ = some (.slice po beginM.out.length ko) ∧ W.cell? ⟨w2.heap.size, 4, none⟩ = some (.int .i64 beginM.status) ∧ W.cell? ⟨w2.heap.size, 5, none⟩ = some (.int .i64 beginM.trap)) (first | go_keep | exact ⟨xa3Z g0 nz, xa3Z g1 nz, xa3Z g2 nz, xa3Z g3 nz, xa3Z g4 nz, xa3Z g5 nz⟩)
      (first
        | (go_at_call 51; (with_reducible refine (xcjZ _).mono ?_); rintro e w5 ⟨v5, rfl, f5, k5, b5'⟩; have b5 : Below W3.heap.size W3 w5 := xadZ ((Below.refl _ W3).drew) b5'; clear b5'; have h0 := (b5.cell (p := ⟨w2.heap.size, 0, none⟩) l3).trans a0; have h1 := (b5.cell (p := ⟨w2.heap.size, 1, none⟩) l3).trans a1; have h2 := (b5.cell (p := ⟨w2.heap.size, 2, none⟩) l3).trans a2; have h3 := (b5.cell (p := ⟨w2.heap.size, 3, none⟩) l3).trans a3; have h4 := (b5.cell (p := ⟨w2.heap.size, 4, none⟩) l3).trans a4; have h5 := (b5.cell (p := ⟨w2.heap.size, 5, none⟩) l3).trans a5; have hd5 : ∀ o, Below w5.heap.size w5 (w5.alloc o) := fun o => (Below.refl _ w5).alloc (Nat.le_refl _) o)
        | (go_at_call 51; (with_reducible refine (xcjZ _).mono ?_); rintro e w5 ⟨v5, rfl, f5, k5, b5'⟩; have b5 : Below W3.heap.size W3 w5 := xadZ (hdA _) b5'; have q5 := (b5'.block W3.heap.size (xacZ (World.alloc_heap_new W3 _))).trans (World.alloc_heap_new W3 _); have Q5 := hideP q5; have m0 := xaaZ q5 0; have m1 := xaaZ q5 1; have m2 := xaaZ q5 2; have m3 := xaaZ q5 3; have m4 := xaaZ q5 4; have m5 := xaaZ q5 5; simp at m0 m1 m2 m3 m4 m5; have mz := Lib.frozen_of_heap q5; have mz0 := mz 0; have mz1 := mz 1; have mz2 := mz 2; have mz3 := mz 3; have mz4 := mz 4; have mz5 := mz 5; clear mz; clear b5' q5; have h0 := (b5.cell (p := ⟨w2.heap.size, 0, none⟩) l3).trans a0; have h1 := (b5.cell (p := ⟨w2.heap.size, 1, none⟩) l3).trans a1; have h2 := (b5.cell (p := ⟨w2.heap.size, 2, none⟩) l3).trans a2; have h3 := (b5.cell (p := ⟨w2.heap.size, 3, none⟩) l3).trans a3; have h4 := (b5.cell (p := ⟨w2.heap.size, 4, none⟩) l3).trans a4; have h5 := (b5.cell (p := ⟨w2.heap.size, 5, none⟩) l3).trans a5)
        | (go_at_call 23; (with_reducible refine (run_100 (w := w5) ⟨f5, k5, A3.out.below b5⟩ HCF.out).mono ?_); rintro e w6 ⟨nf, nb, ni, no, rfl, r6, b6'⟩; have b6 : Below W3.heap.size W3 w6 := xadZ b5 b6'; have nz : ¬ w2.heap.size = W3.heap.size := (by omega); have q6 := (b6'.block W3.heap.size (xacZ Q5.out)).trans Q5.out; have Q6 := hideP q6; clear m0 m1 m2 m3 m4 m5 mz0 mz1 mz2 mz3 mz4 mz5; have m0 := xaaZ q6 0; have m1 := xaaZ q6 1; have m2 := xaaZ q6 2; have m3 := xaaZ q6 3; have m4 := xaaZ q6 4; have m5 := xaaZ q6 5; simp at m0 m1 m2 m3 m4 m5; have mz := Lib.frozen_of_heap q6; have mz0 := mz 0; have mz1 := mz 1; have mz2 := mz 2; have mz3 := mz 3; have mz4 := mz 4; have mz5 := mz 5; clear mz; clear q6; have R6b : Hid (MRes w6 W3.heap.size _ _ _ _ _) := hideP (r6.low b5.size); obtain ⟨⟨qf, jf, hqf⟩, ⟨qb, jb, hqb⟩, ⟨qi, ji, hqi⟩, ⟨qo, jo, hqo⟩⟩ := xbbZ r6; subst hqf hqb hqi hqo; have R6 := hideP r6; clear r6; have g0 := (b6.cell (p := ⟨w2.heap.size, 0, none⟩) l3).trans a0; have g1 := (b6.cell (p := ⟨w2.heap.size, 1, none⟩) l3).trans a1; have g2 := (b6.cell (p := ⟨w2.heap.size, 2, none⟩) l3).trans a2; have g3 := (b6.cell (p := ⟨w2.heap.size, 3, none⟩) l3).trans a3; have g4 := (b6.cell (p := ⟨w2.heap.size, 4, none⟩) l3).trans a4; have g5 := (b6.cell (p := ⟨w2.heap.size, 5, none⟩) l3).trans a5)
        | (go_at_call 23; (with_reducible refine (run_100 (w := w5) ⟨f5, k5, A3.out.below b5⟩ HCF.out).mono ?_); rintro e w6 ⟨nf, nb, ni, no, rfl, r6, b6'⟩; have b6 : Below W3.heap.size W3 w6 := xadZ b5 b6'; have nz : ¬ w2.heap.size = w6.heap.size := (by have := b6.size; omega); have R6b : Hid (MRes w6 W3.heap.size _ _ _ _ _) := hideP (r6.low b5.size); obtain ⟨⟨qf, jf, hqf⟩, ⟨qb, jb, hqb⟩, ⟨qi, ji, hqi⟩, ⟨qo, jo, hqo⟩⟩ := xbbZ r6; subst hqf hqb hqi hqo; have R6 := hideP r6; clear r6; have g0 := (b6.cell (p := ⟨w2.heap.size, 0, none⟩) l3).trans a0; have g1 := (b6.cell (p := ⟨w2.heap.size, 1, none⟩) l3).trans a1; have g2 := (b6.cell (p := ⟨w2.heap.size, 2, none⟩) l3).trans a2; have g3 := (b6.cell (p := ⟨w2.heap.size, 3, none⟩) l3).trans a3; have g4 := (b6.cell (p := ⟨w2.heap.size, 4, none⟩) l3).trans a4; have g5 := (b6.cell (p := ⟨w2.heap.size, 5, none⟩) l3).trans a5)
        | (go_at_call 23; (with_reducible refine (run_100 (w := w5.alloc _) ⟨f5.below (hd5 _), k5.below f5 (hd5 _), A3.out.below (xadZ b5 (hd5 _))⟩ HCF.out).mono ?_); rintro e w6 ⟨nf, nb, ni, no, rfl, r6, b6'⟩; have b6 : Below W3.heap.size W3 w6 := xadZ (xadZ b5 (hd5 _)) b6'; have nz : ¬ w2.heap.size = w5.heap.size := (by have := b5.size; omega); have q6 := (b6'.block w5.heap.size (xacZ (World.alloc_heap_new w5 _))).trans (World.alloc_heap_new w5 _); have Q6 := hideP q6; have m0 := xaaZ q6 0; have m1 := xaaZ q6 1; have m2 := xaaZ q6 2; have m3 := xaaZ q6 3; have m4 := xaaZ q6 4; have m5 := xaaZ q6 5; simp at m0 m1 m2 m3 m4 m5; have mz := Lib.frozen_of_heap q6; have mz0 := mz 0; have mz1 := mz 1; have mz2 := mz 2; have mz3 := mz 3; have mz4 := mz 4; have mz5 := mz 5; clear mz; clear q6; have R6b : Hid (MRes w6 W3.heap.size _ _ _ _ _) := hideP (r6.low (Nat.le_trans b5.size (hd5 _).size)); obtain ⟨⟨qf, jf, hqf⟩, ⟨qb, jb, hqb⟩, ⟨qi, ji, hqi⟩, ⟨qo, jo, hqo⟩⟩ := xbbZ r6; subst hqf hqb hqi hqo; have R6 := hideP r6; clear r6; have g0 := (b6.cell (p := ⟨w2.heap.size, 0, none⟩) l3).trans a0; have g1 := (b6.cell (p := ⟨w2.heap.size, 1, none⟩) l3).trans a1; have g2 := (b6.cell (p := ⟨w2.heap.size, 2, none⟩) l3).trans a2; have g3 := (b6.cell (p := ⟨w2.heap.size, 3, none⟩) l3).trans a3; have g4 := (b6.cell (p := ⟨w2.heap.size, 4, none⟩) l3).trans a4; have g5 := (b6.cell (p := ⟨w2.heap.size, 5, none⟩) l3).trans a5))
    all_goals
      go_wp2_with fail
      go_meet
    · have hF := xgfZ R6b.out (by decide) b6
      exact ⟨_, _, _, _, _, rfl, rfl, rfl, hF⟩
    · have hF := xdyZ R6b.out (by decide) b6 Q6.out b5.size
      exact ⟨_, _, _, _, _, rfl, rfl, rfl, hF⟩
    · have hF := xdyZ R6b.out (by decide) b6 Q6.out (Nat.le_refl _)
      exact ⟨_, _, _, _, _, rfl, rfl, rfl, hF⟩
  case rest =>
    obtain ⟨z, cf, cb, ci, co, rfl, rfl, rfl, hz, hA, hb⟩ := hcut
    have B4 := hideP (xadZ HB3.out hb)
    have lz := xacZ hz
    have HZ := hideP hz
    have HA := hideP hA
    replace A3 := hideP (A3.out.below hb)
    have s4 := hb.size
    replace a0 := (hb.cell (p := ⟨w2.heap.size, 0, none⟩) l3).trans a0
    replace a1 := (hb.cell (p := ⟨w2.heap.size, 1, none⟩) l3).trans a1
    replace a2 := (hb.cell (p := ⟨w2.heap.size, 2, none⟩) l3).trans a2
    replace a3 := (hb.cell (p := ⟨w2.heap.size, 3, none⟩) l3).trans a3
    replace a4 := (hb.cell (p := ⟨w2.heap.size, 4, none⟩) l3).trans a4
    replace a5 := (hb.cell (p := ⟨w2.heap.size, 5, none⟩) l3).trans a5
    replace l3 : w2.heap.size < wc.heap.size := by omega
    clear hz hA hb HB3
    go_upto_region 3 with fail
    go_cut [6, 7, 8] from 23 (fun sa sb sc wx => ∃ (z : Nat) (fv bv iv ov : Value), sa = .pointer (some ⟨z, 0, none⟩) ∧ sb = .int .i64 (0) ∧ sc = .int .i64 0 ∧ wx.heap[z]? = some (.cells #[fv, bv, iv, ov, .int .i64 (fiveM).status, .int .i64 (fiveM).trap] 48 (0, 0)) ∧ MachAt wx fv bv iv ov fiveM ∧ Below wc.heap.size wc wx)
    case first =>
      have hdA : ∀ o, Below wc.heap.size wc (wc.alloc o).drew := fun o => ((Below.refl _ wc).alloc (Nat.le_refl _) o).drew
      go_region_held3 (fun W => W.cell? ⟨w2.heap.size, 0, none⟩ = some (.slice pf beginM.frames.length kf) ∧ W.cell? ⟨w2.heap.size, 1, none⟩ = some (.slice pb beginM.blocks.length kb) ∧ W.cell? ⟨w2.heap.size, 2, none⟩ = some (.slice pi beginM.inp.length ki) ∧ W.cell? ⟨w2.heap.size, 3, none⟩ = some (.slice po beginM.out.length ko) ∧ W.cell? ⟨w2.heap.size, 4, none⟩ = some (.int .i64 beginM.status) ∧ W.cell? ⟨w2.heap.size, 5, none⟩ = some (.int .i64 beginM.trap)) (first | go_keep | exact ⟨xa3Z g0 nz, xa3Z g1 nz, xa3Z g2 nz, xa3Z g3 nz, xa3Z g4 nz, xa3Z g5 nz⟩)
        (first
          | (go_at_call 51; (with_reducible refine (xcjZ _).mono ?_); rintro e w5 ⟨v5, rfl, f5, k5, b5'⟩; have b5 : Below wc.heap.size wc w5 := xadZ ((Below.refl _ wc).drew) b5'; clear b5'; have h0 := (b5.cell (p := ⟨w2.heap.size, 0, none⟩) l3).trans a0; have h1 := (b5.cell (p := ⟨w2.heap.size, 1, none⟩) l3).trans a1; have h2 := (b5.cell (p := ⟨w2.heap.size, 2, none⟩) l3).trans a2; have h3 := (b5.cell (p := ⟨w2.heap.size, 3, none⟩) l3).trans a3; have h4 := (b5.cell (p := ⟨w2.heap.size, 4, none⟩) l3).trans a4; have h5 := (b5.cell (p := ⟨w2.heap.size, 5, none⟩) l3).trans a5; have hd5 : ∀ o, Below w5.heap.size w5 (w5.alloc o) := fun o => (Below.refl _ w5).alloc (Nat.le_refl _) o)
          | (go_at_call 51; (with_reducible refine (xcjZ _).mono ?_); rintro e w5 ⟨v5, rfl, f5, k5, b5'⟩; have b5 : Below wc.heap.size wc w5 := xadZ (hdA _) b5'; have q5 := (b5'.block wc.heap.size (xacZ (World.alloc_heap_new wc _))).trans (World.alloc_heap_new wc _); have Q5 := hideP q5; have m0 := xaaZ q5 0; have m1 := xaaZ q5 1; have m2 := xaaZ q5 2; have m3 := xaaZ q5 3; have m4 := xaaZ q5 4; have m5 := xaaZ q5 5; simp at m0 m1 m2 m3 m4 m5; have mz := Lib.frozen_of_heap q5; have mz0 := mz 0; have mz1 := mz 1; have mz2 := mz 2; have mz3 := mz 3; have mz4 := mz 4; have mz5 := mz 5; clear mz; clear b5' q5; have h0 := (b5.cell (p := ⟨w2.heap.size, 0, none⟩) l3).trans a0; have h1 := (b5.cell (p := ⟨w2.heap.size, 1, none⟩) l3).trans a1; have h2 := (b5.cell (p := ⟨w2.heap.size, 2, none⟩) l3).trans a2; have h3 := (b5.cell (p := ⟨w2.heap.size, 3, none⟩) l3).trans a3; have h4 := (b5.cell (p := ⟨w2.heap.size, 4, none⟩) l3).trans a4; have h5 := (b5.cell (p := ⟨w2.heap.size, 5, none⟩) l3).trans a5)
          | (go_at_call 23; (with_reducible refine (run_5 (w := w5) ⟨f5, k5, A3.out.below b5⟩ HCF.out).mono ?_); rintro e w6 ⟨nf, nb, ni, no, rfl, r6, b6'⟩; have b6 : Below wc.heap.size wc w6 := xadZ b5 b6'; have nz : ¬ w2.heap.size = wc.heap.size := (by omega); have q6 := (b6'.block wc.heap.size (xacZ Q5.out)).trans Q5.out; have Q6 := hideP q6; clear m0 m1 m2 m3 m4 m5 mz0 mz1 mz2 mz3 mz4 mz5; have m0 := xaaZ q6 0; have m1 := xaaZ q6 1; have m2 := xaaZ q6 2; have m3 := xaaZ q6 3; have m4 := xaaZ q6 4; have m5 := xaaZ q6 5; simp at m0 m1 m2 m3 m4 m5; have mz := Lib.frozen_of_heap q6; have mz0 := mz 0; have mz1 := mz 1; have mz2 := mz 2; have mz3 := mz 3; have mz4 := mz 4; have mz5 := mz 5; clear mz; clear q6; have R6b : Hid (MRes w6 wc.heap.size _ _ _ _ _) := hideP (r6.low b5.size); obtain ⟨⟨qf, jf, hqf⟩, ⟨qb, jb, hqb⟩, ⟨qi, ji, hqi⟩, ⟨qo, jo, hqo⟩⟩ := xbbZ r6; subst hqf hqb hqi hqo; have R6 := hideP r6; clear r6; have g0 := (b6.cell (p := ⟨w2.heap.size, 0, none⟩) l3).trans a0; have g1 := (b6.cell (p := ⟨w2.heap.size, 1, none⟩) l3).trans a1; have g2 := (b6.cell (p := ⟨w2.heap.size, 2, none⟩) l3).trans a2; have g3 := (b6.cell (p := ⟨w2.heap.size, 3, none⟩) l3).trans a3; have g4 := (b6.cell (p := ⟨w2.heap.size, 4, none⟩) l3).trans a4; have g5 := (b6.cell (p := ⟨w2.heap.size, 5, none⟩) l3).trans a5)
          | (go_at_call 23; (with_reducible refine (run_5 (w := w5) ⟨f5, k5, A3.out.below b5⟩ HCF.out).mono ?_); rintro e w6 ⟨nf, nb, ni, no, rfl, r6, b6'⟩; have b6 : Below wc.heap.size wc w6 := xadZ b5 b6'; have nz : ¬ w2.heap.size = w6.heap.size := (by have := b6.size; omega); have R6b : Hid (MRes w6 wc.heap.size _ _ _ _ _) := hideP (r6.low b5.size); obtain ⟨⟨qf, jf, hqf⟩, ⟨qb, jb, hqb⟩, ⟨qi, ji, hqi⟩, ⟨qo, jo, hqo⟩⟩ := xbbZ r6; subst hqf hqb hqi hqo; have R6 := hideP r6; clear r6; have g0 := (b6.cell (p := ⟨w2.heap.size, 0, none⟩) l3).trans a0; have g1 := (b6.cell (p := ⟨w2.heap.size, 1, none⟩) l3).trans a1; have g2 := (b6.cell (p := ⟨w2.heap.size, 2, none⟩) l3).trans a2; have g3 := (b6.cell (p := ⟨w2.heap.size, 3, none⟩) l3).trans a3; have g4 := (b6.cell (p := ⟨w2.heap.size, 4, none⟩) l3).trans a4; have g5 := (b6.cell (p := ⟨w2.heap.size, 5, none⟩) l3).trans a5)
          | (go_at_call 23; (with_reducible refine (run_5 (w := w5.alloc _) ⟨f5.below (hd5 _), k5.below f5 (hd5 _), A3.out.below (xadZ b5 (hd5 _))⟩ HCF.out).mono ?_); rintro e w6 ⟨nf, nb, ni, no, rfl, r6, b6'⟩; have b6 : Below wc.heap.size wc w6 := xadZ (xadZ b5 (hd5 _)) b6'; have nz : ¬ w2.heap.size = w5.heap.size := (by have := b5.size; omega); have q6 := (b6'.block w5.heap.size (xacZ (World.alloc_heap_new w5 _))).trans (World.alloc_heap_new w5 _); have Q6 := hideP q6; have m0 := xaaZ q6 0; have m1 := xaaZ q6 1; have m2 := xaaZ q6 2; have m3 := xaaZ q6 3; have m4 := xaaZ q6 4; have m5 := xaaZ q6 5; simp at m0 m1 m2 m3 m4 m5; have mz := Lib.frozen_of_heap q6; have mz0 := mz 0; have mz1 := mz 1; have mz2 := mz 2; have mz3 := mz 3; have mz4 := mz 4; have mz5 := mz 5; clear mz; clear q6; have R6b : Hid (MRes w6 wc.heap.size _ _ _ _ _) := hideP (r6.low (Nat.le_trans b5.size (hd5 _).size)); obtain ⟨⟨qf, jf, hqf⟩, ⟨qb, jb, hqb⟩, ⟨qi, ji, hqi⟩, ⟨qo, jo, hqo⟩⟩ := xbbZ r6; subst hqf hqb hqi hqo; have R6 := hideP r6; clear r6; have g0 := (b6.cell (p := ⟨w2.heap.size, 0, none⟩) l3).trans a0; have g1 := (b6.cell (p := ⟨w2.heap.size, 1, none⟩) l3).trans a1; have g2 := (b6.cell (p := ⟨w2.heap.size, 2, none⟩) l3).trans a2; have g3 := (b6.cell (p := ⟨w2.heap.size, 3, none⟩) l3).trans a3; have g4 := (b6.cell (p := ⟨w2.heap.size, 4, none⟩) l3).trans a4; have g5 := (b6.cell (p := ⟨w2.heap.size, 5, none⟩) l3).trans a5))
      all_goals
        go_wp2_with fail
        go_meet
      · have hF := xgfZ R6b.out (by decide) b6
        exact ⟨_, _, _, _, _, rfl, rfl, rfl, hF⟩
      · have hF := xdyZ R6b.out (by decide) b6 Q6.out b5.size
        exact ⟨_, _, _, _, _, rfl, rfl, rfl, hF⟩
      · have hF := xdyZ R6b.out (by decide) b6 Q6.out (Nat.le_refl _)
        exact ⟨_, _, _, _, _, rfl, rfl, rfl, hF⟩
    case rest =>
      obtain ⟨z5, ef, eb, ei, eo, rfl, rfl, rfl, hz5, hA5, hb5⟩ := hcut
      have hz := (hb5.block z lz).trans HZ.out
      have hA := HA.out.below hb5
      have B5 := hideP (xadZ B4.out hb5)
      have lz' := xacZ hz
      have lz5 := xacZ hz5
      obtain ⟨pe, ce, hpe, -, -, hfe⟩ := hA5.fr
      obtain ⟨ge, oe, le, se, rfl, hge, -, g1, -⟩ := hfe 0 _ rfl
      subst hpe
      simp at g1
      have x3 := xaaZ hz 3
      have x4 := xaaZ hz 4
      have y0 := xaaZ hz5 0
      have y4 := xaaZ hz5 4
      simp at x3 x4 y0 y4
      have HO := hideP hA.out
      have HCO : Hid (Calls Tryz.prog 52 #[.agg #[.int .i64 14, .int .i64 0]] wc fun e w' => e = .returned (.tuple #[.int .i64 3, .int .i64 0]) ∧ Below wc.heap.size wc w') := by
        have := xmoZ 14 0 wc
        rw [show chk 14 0 = 0 by decide, if_pos rfl, show costM 14 = 3 by decide] at this
        exact this
      have KX : Hid (∀ W, Below wc.heap.size wc W → W.cell? ⟨z, 3, none⟩ = some co ∧ W.cell? ⟨z, 4, none⟩ = some (.int .i64 doneM.status) ∧ W.cell? ⟨z5, 0, none⟩ = some (.slice (some ⟨ge, oe, none⟩) fiveM.frames.length ce) ∧ W.cell? ⟨z5, 4, none⟩ = some (.int .i64 fiveM.status) ∧ W.cell? ⟨ge, oe + 1, none⟩ = some (.int .i64 5)) := fun W hW => ⟨(hW.cell (p := ⟨z, 3, none⟩) lz').trans x3, (hW.cell (p := ⟨z, 4, none⟩) lz').trans x4, (hW.cell (p := ⟨z5, 0, none⟩) lz5).trans y0, (hW.cell (p := ⟨z5, 4, none⟩) lz5).trans y4, (hW.cell (p := ⟨ge, oe + 1, none⟩) hge).trans g1⟩
      clear hz hA hz5 hA5 hfe g1 x3 x4 y0 y4 HZ HA hb5 A3 a0 a1 a2 a3 a4 a5
      go_wp2_with fail
      refine HCO.out.mono ?_
      rintro e w7 ⟨rfl, b7⟩
      obtain ⟨x3, x4, y0, y4, g1⟩ := KX.out w7 b7
      have e1 : doneM.status = 2 := rfl
      have e2 : fiveM.status = 0 := rfl
      have e3 : fiveM.frames.length = 1 := rfl
      rw [e1] at x4
      rw [e2] at y4
      rw [e3] at y0
      clear e1 e2 e3
      have q9 := World.alloc_heap_new w7 (.cells #[.int .i64 3, .int .i64 2, .int .i64 1] 3)
      have a9 := (Below.refl w7.heap.size w7).alloc (Nat.le_refl _) (.cells #[.int .i64 3, .int .i64 2, .int .i64 1] 3)
      have HSI := hideP (xfjZ [3, 2, 1] [3, 2, 1] co _ (w7.alloc (.cells #[.int .i64 3, .int .i64 2, .int .i64 1] 3)) ((HO.out.at_.below b7).below a9) (xbgZ 3 3 q9 rfl (by unfold maxLen; decide)))
      have HQ9 := hideP a9
      clear q9 a9
      go_wp2_with fail
      refine HSI.out.mono ?_
      rintro e w8 ⟨rfl, b8⟩
      have b78 := xadZ b7 (xadZ HQ9.out b8)
      obtain ⟨x3', x4', y0', y4', g1'⟩ := KX.out w8 b78
      have e2 : fiveM.status = 0 := rfl
      have e3 : fiveM.frames.length = 1 := rfl
      rw [e2] at y4'
      rw [e3] at y0'
      clear e2 e3 x3 x4 y0 y4 g1
      go_wp2
      go_ret
      exact ⟨by simp, xadZ B5.out b78⟩
end Go.Proofs.YtmjjkenblfndgaaGreat


/- The program that holds a block, plainly. -/
namespace Go.Proofs.YtmjjkenblfndgaaGreat
open Go.RowKit
set_option linter.unusedSimpArgs false
set_option linter.unusedVariables false
def holderOps : List (Int × Int) := [(1, 2), (14, 0), (2, 0), (1, 1), (14, 0), (9, 0), (8, 0), (1, 0), (15, 0), (20, 0), (13, 0)]
def xaqZ : List Fn := [(0, [2], 0, holderOps)]
def holderE : Ents := [some [], some [1], some [2], some [], some [1], some [2], some [], some [2], some [2, 1], some [1], some []]
theorem hd1 : xanZ xaqZ = 0 ∧ flowErr holderOps = 0 ∧ fitsB xaqZ (0, [2], 0, holderOps) holderE = true := by decide +kernel
theorem xp3Z {er : Int} (h : xhsZ xaqZ er) : er = 0 := by
  rcases h with ⟨a, _⟩ | ⟨_, h, _⟩ | ⟨_, _, f, hf, hl⟩
  · exact absurd hd1.1 a
  · exact h
  · have hf' : f = (0, [2], 0, holderOps) := by simpa [xaqZ] using hf
    subst hf'
    exact absurd (xf1Z hd1.2.1 hd1.2.2) (hl _)
def hBeginM : Mach := ⟨[⟨0, 0, [(true, 0)], []⟩], [], [], [], 0, 0⟩
def hRanM : Mach := ⟨[⟨0, 6, [(true, 2)], []⟩], [[0, 0], [0]], [], [], 0, 0⟩
theorem hb1 : xeqZ xaqZ = hBeginM := by kernel_rfl
theorem hrun10 : runF xaqZ 60 (hBeginM, 10) = (hRanM, 0) ∧ pay xaqZ (hRanM, 0) = none := ⟨by kernel_rfl, by kernel_rfl⟩
theorem his10 : RunIs xaqZ hBeginM 10 (hRanM, 0) := by
  unfold RunIs
  rw [xf7Z (by decide), ← hrun10.1]
  exact xg6Z 60 _ (.inr (by rw [hrun10.1]; exact hrun10.2))
end Go.Proofs.YtmjjkenblfndgaaGreat


