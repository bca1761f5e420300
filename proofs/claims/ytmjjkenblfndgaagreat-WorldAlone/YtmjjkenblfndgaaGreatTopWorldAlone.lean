/- WHAT A MACHINE DOES IN A TURN HANGS ON NOTHING BUT ITSELF: for every program and world and number WorldAlone returns true. No condition. -/
import Derived.Test.YtmjjkenblfndgaaGreatB27
import Derived.Test.YtmjjkenblfndgaaGreatB18
import Derived.Deep.RegionHeld3
import Derived.Test.YtmjjkenblfndgaaGreatB17
import Derived.Test.YtmjjkenblfndgaaGreatB6
import Derived.Test.YtmjjkenblfndgaaGreatB26
import Derived.Deep.CutRange
set_option maxRecDepth 100000
set_option maxHeartbeats 8000000
namespace Go.Proofs.YtmjjkenblfndgaaGreat.worldAlone
open Go.ChangeShapes Go.WideShapes Go.ChangeAt Go.RowKit
set_option linter.unusedVariables false
set_option linter.unusedSimpArgs false
theorem own : ownKnob Tryz.prog.godebug = none := by kernel_rfl
theorem laidOut : laidOutB Tryz.prog = true := by kernel_rfl
theorem run_fin0 {w0 w7 : World} {B : Nat} {fv bv iv ov : Value} {r : MR} {M : Mach} (hm : MHas w7 B ⟨fv, bv, iv, ov, M.status, M.trap⟩ r M) (hb : Below w0.heap.size w0 w7) :
    (w7.alloc (.cells #[fv, bv, iv, ov, .int .i64 M.status, .int .i64 M.trap] 48)).heap[w7.heap.size]? = some (.cells #[fv, bv, iv, ov, .int .i64 M.status, .int .i64 M.trap] 48 (0, 0)) ∧ MHas (w7.alloc (.cells #[fv, bv, iv, ov, .int .i64 M.status, .int .i64 M.trap] 48)) B ⟨fv, bv, iv, ov, M.status, M.trap⟩ r M ∧ Below w0.heap.size w0 (w7.alloc (.cells #[fv, bv, iv, ov, .int .i64 M.status, .int .i64 M.trap] 48)) :=
  ⟨World.alloc_heap_new w7 _, hm.below ((Below.refl _ w7).alloc (Nat.le_refl _) _), hb.alloc hb.size _⟩
theorem run_fin {w0 w7 : World} {B z : Nat} {fv bv iv ov a0 a1 a2 a3 a4 a5 : Value} {r : MR} {M : Mach} (hm : MHas w7 B ⟨fv, bv, iv, ov, M.status, M.trap⟩ r M) (hb : Below w0.heap.size w0 w7) (hz : w7.heap[z]? = some (.cells #[a0, a1, a2, a3, a4, a5] 48 (0, 0))) (hzb : w0.heap.size ≤ z) :
    (((((((w7.setCell ⟨z, 0, none⟩ fv).setCell ⟨z, 1, none⟩ bv).setCell ⟨z, 2, none⟩ iv).setCell ⟨z, 3, none⟩ ov).setCell ⟨z, 4, none⟩ (.int .i64 M.status)).setCell ⟨z, 5, none⟩ (.int .i64 M.trap))).heap[z]? = some (.cells #[fv, bv, iv, ov, .int .i64 M.status, .int .i64 M.trap] 48 (0, 0)) ∧ MHas (((((((w7.setCell ⟨z, 0, none⟩ fv).setCell ⟨z, 1, none⟩ bv).setCell ⟨z, 2, none⟩ iv).setCell ⟨z, 3, none⟩ ov).setCell ⟨z, 4, none⟩ (.int .i64 M.status)).setCell ⟨z, 5, none⟩ (.int .i64 M.trap))) B ⟨fv, bv, iv, ov, M.status, M.trap⟩ r M ∧ Below w0.heap.size w0 (((((((w7.setCell ⟨z, 0, none⟩ fv).setCell ⟨z, 1, none⟩ bv).setCell ⟨z, 2, none⟩ iv).setCell ⟨z, 3, none⟩ ov).setCell ⟨z, 4, none⟩ (.int .i64 M.status)).setCell ⟨z, 5, none⟩ (.int .i64 M.trap))) := by
  have hg := xbwZ w7 z fv bv iv ov (.int .i64 M.status) (.int .i64 M.trap)
  have ht : TyRow w7 (some z) 48 := xaqZ hz
  exact ⟨six_heap hz, hm.keep hg ht (by decide) (by decide) (by decide) (by decide), hb.grown hg hb.size (fun k hk => by cases hk; exact hzb)⟩
theorem xexZ (W : World) (z : Nat) (a b c d : Value) : W.grownBy ((((W.setCell ⟨z, 4, none⟩ a).setCell ⟨z, 5, none⟩ b).setCell ⟨z, 2, none⟩ c).setCell ⟨z, 3, none⟩ d) (some z) :=
  (((xajZ W ⟨z, 4, none⟩ a).trans (xajZ _ ⟨z, 5, none⟩ b)).trans (xajZ _ ⟨z, 2, none⟩ c)).trans (xajZ _ ⟨z, 3, none⟩ d)
def bareM (M : Mach) : Mach := ⟨M.frames, M.blocks, [], [], 0, 0⟩
theorem walk (w : World) (p : List Fn) (pv : Value) (hpf : ProgFull w pv p) (L : List Mach) (wv : Value) (hW : MachsAt w wv L) (hWL : ∀ M ∈ L, MachLong M) (n : Int) (hn : -9223372036854775808 ≤ n ∧ n ≤ 9223372036854775807) :
    Calls Tryz.prog 4 #[.agg #[pv], .agg #[wv], .int .i64 n] w fun e w' => e = .returned (.bool true) ∧ Below w.heap.size w w' := by
  have hpc : ∀ M ∈ L, PcOk M := fun M hM x hx => ((hWL M hM).fr.2 x hx).2.2
  have hcp := hpf.cap
  have hpp := hpf.at_
  obtain ⟨pp, qp, hpv, -⟩ := id hpp
  subst hpv
  obtain ⟨pw, cw, hwv, -⟩ := hW.shp
  subst hwv
  obtain ⟨W1, hW1⟩ : ∃ W1, (w.alloc (.cells #[.slice pp p.length qp] 24)).alloc (.cells #[.slice pw L.length cw] 27) = W1 := ⟨_, rfl⟩
  have b1 : Below w.heap.size w W1 := by rw [← hW1]; exact ((Below.refl _ w).alloc (Nat.le_refl _) _).alloc (by simp) _
  have u1 : W1.heap[w.heap.size]? = some (.cells #[.slice pp p.length qp] 24 (0, 0)) := by rw [← hW1]; exact xalZ (World.alloc_heap_new w _) _
  have u2 : W1.heap[w.heap.size + 1]? = some (.cells #[.slice pw L.length cw] 27 (0, 0)) := by rw [← hW1]; exact xa3Z _ _ _
  have KC : Hid (∀ W, Below W1.heap.size W1 W → W.cell? ⟨w.heap.size, 0, none⟩ = some (.slice pp p.length qp) ∧ W.cell? ⟨w.heap.size + 1, 0, none⟩ = some (.slice pw L.length cw)) := fun W hW => ⟨xaaZ ((hW.block _ (xacZ u1)).trans u1) 0, xaaZ ((hW.block _ (xacZ u2)).trans u2) 0⟩
  have HP := hideP (And.intro (hpp.below b1) (hcp.below hpp b1))
  have HM := hideP (hW.below b1)
  have HPC := hideP hpc
  have HB1 := hideP b1
  obtain ⟨e0, e1⟩ := KC.out W1 (Below.refl _ _)
  clear hpf hW hWL hpc hcp hpp u1 u2 b1
  go_enter Tryz.func4, Tryz.ntmps4
  go_wp2_with fail
  refine (xlwZ W1).mono ?_
  rintro e w2 ⟨rfl, b2⟩
  have HB2 := hideP b2
  clear b2
  go_wp2_with fail
  refine (xloZ w2).mono ?_
  rintro e w3 ⟨rfl, b3⟩
  obtain ⟨e0', e1'⟩ := KC.out w3 (xaeZ HB2.out b3)
  have HB3 := hideP (xaeZ HB2.out b3)
  clear b3 e0 e1
  go_wp2_with fail
  refine (xivZ L p n _ _ w3 (HP.out.1.below HB3.out) (HP.out.2.below HP.out.1 HB3.out) (HM.out.below HB3.out) HPC.out).mono ?_
  rintro e w4 ⟨T, u4, hT, rfl, o4⟩
  obtain ⟨p4, c4, hu4⟩ := o4.shp
  subst hu4
  obtain ⟨V4, hV4⟩ : ∃ V4, w4.alloc (.cells #[.slice p4 (T).length c4] 27) = V4 := ⟨_, rfl⟩
  have d4 : Below w4.heap.size w4 V4 := by rw [← hV4]; exact (Below.refl _ w4).alloc (Nat.le_refl _) _
  have x4 : V4.heap[w4.heap.size]? = some (.cells #[.slice p4 (T).length c4] 27 (0, 0)) := by rw [← hV4]; exact World.alloc_heap_new w4 _
  have A4 := hideP (o4.at_.below d4)
  have F4 := hideP (xaeZ o4.bel d4)
  have K4 : Hid (∀ W, Below V4.heap.size V4 W → W.cell? ⟨w4.heap.size, 0, none⟩ = some (.slice p4 (T).length c4)) := fun W hW => xaaZ ((hW.block _ (xacZ x4)).trans x4) 0
  clear o4 d4 x4
  obtain ⟨e0, e1⟩ := KC.out V4 (xaeZ HB3.out F4.out)
  have k4 := K4.out V4 (Below.refl _ _)
  clear e0' e1'
  by_cases hE : turnE p L n = 0
  rotate_left
  · have t1 : ((T.length : Int) == 0) = true := by rw [hT.2 hE]; rfl
    have t2 : (T.length == 0) = true := by rw [hT.2 hE]; rfl
    have t0 : (turnE p L n != 0) = true := by simpa using hE
    generalize turnE p L n = er at *
    clear hE hT
    go_wp2
    go_ret
    exact ⟨rfl, xaeZ HB1.out (xaeZ HB3.out F4.out)⟩
  obtain ⟨V, hV, rfl⟩ := hT.1 hE
  obtain ⟨hwe, hn0, hn1⟩ := xf6Z.1 hE
  obtain ⟨r1, r2, r3, r4, r5⟩ := xfqZ hwe
  have hVr := xhtZ (xe4Z r3 r4 r5 hn0 hV)
  have hTl : (mailW V).length = L.length := (xilZ V).trans hV.1
  have hL0 : 0 < L.length := List.length_pos_iff.2 r1
  have hT0 : xa7Z p (mailW V) = 0 := xldZ (fun h => by rw [h] at hTl; simp at hTl; omega) (by omega) r3 r4 hVr
  have HCK := hideP (xfaZ (mailW V) p _ _ V4 (HP.out.1.below (xaeZ HB3.out F4.out)) (HP.out.2.below HP.out.1 (xaeZ HB3.out F4.out)) A4.out (fun M hM => right_pc r3 r4 (hVr M hM)))
  rw [hT0] at HCK
  rw [hE]
  have HV := hideP hV
  have HR := hideP r5
  have HF := hideP r4
  have HTL := hideP hTl
  have t5 : (((mailW V).length : Int) != (L.length : Int)) = false := by rw [hTl]; simp
  have t6 : (((mailW V).length : Int) == (L.length : Int)) = true := by rw [hTl]; simp
  have t7 : ((mailW V).length == L.length) = true := by rw [hTl]; simp
  have t8 : ((mailW V).length != L.length) = false := by rw [hTl]; simp
  clear hE hT hwe r1 hVr hT0 hV r5 r4 hTl
  go_wp2_with fail
  refine HCK.out.mono ?_
  rintro e w5 ⟨rfl, b5⟩
  obtain ⟨e0', e1'⟩ := KC.out w5 (xaeZ (xaeZ HB3.out F4.out) b5)
  have HB5 := hideP b5
  clear b5 e0 e1 k4
  go_wp2
  go_loopw [9, 10, 11, 12, 13] (fun v9 _ _ _ _ wr => ∃ i : Nat, i ≤ L.length ∧ v9 = .int .i64 i ∧ Below w5.heap.size w5 wr) (fun v9 _ _ _ _ _ => L.length - (intOf v9).toNat)
  case atStart => exact ⟨0, Nat.zero_le _, rfl, Below.refl _ _⟩
  case round =>
    rename World => w6
    obtain ⟨i, hil, rfl, b6⟩ := hrel
    have b46 := xaeZ HB5.out b6
    have b16 := xaeZ (xaeZ HB3.out F4.out) b46
    obtain ⟨x0, x1⟩ := KC.out w6 b16
    have k6 := K4.out w6 b46
    clear e0' e1'
    by_cases hlt : i < L.length
    rotate_left
    · have hlti : ¬ (i : Int) < (L.length : Int) := by omega
      go_wp2
      go_ret
      exact ⟨rfl, xaeZ HB1.out b16⟩
    have hlti : (i : Int) < (L.length : Int) := by omega
    obtain ⟨M, hM⟩ := xahZ hlt
    obtain ⟨t, hrun, hVt⟩ := HV.out.2 i M hM
    obtain ⟨b, hb, hbf, hbb, hbt, hbs⟩ := turn_alone hVt
    obtain ⟨p9, c9, he9, -, -, hf⟩ := (HM.out.below b16)
    cases he9
    obtain ⟨g, off, fv, bv, iv, ov, hpw, hg, m0, m1, m2, m3, m4, m5, hMA⟩ := hf i M hM
    subst hpw
    obtain ⟨⟨pf, cf, hfv⟩, ⟨pb, cb, hbv⟩, ⟨pi, ci, hiv⟩, ⟨po, co, hov⟩⟩ := hMA.shp
    subst hfv hbv hiv hov
    have HB16 := hideP b16
    have HB46 := hideP b46
    have HB6 := hideP b6
    have HRU : Hid (∀ W, Below w6.heap.size w6 W → Calls Tryz.prog 23 #[.agg #[.slice pp p.length qp], .agg #[.slice pf M.frames.length cf, .slice pb M.blocks.length cb, .slice pi M.inp.length ci, .slice po M.out.length co, .int .i64 M.status, .int .i64 M.trap], .int .i64 n] W (RunRet p M n W)) := fun W hW => xj1Z M p n _ _ _ _ _ W ⟨HP.out.1.below (xaeZ HB16.out hW), HP.out.2.below HP.out.1 (xaeZ HB16.out hW), hMA.below hW⟩ (HPC.out M (List.mem_of_getElem? hM))
    have hRM := HR.out M (List.mem_of_getElem? hM)
    have hRE := hideP (xgwZ.2 ⟨xc6Z.2 ⟨r3, HF.out, hRM⟩, hn0, hn1⟩)
    have hRT := (xirZ r3 HF.out hRM hn0 hrun).1
    have HRT := hideP hRT.inp
    have HRUN := hideP hrun
    have HBB := hideP (And.intro hb (And.intro hbf (And.intro hbb (And.intro hbt hbs))))
    clear hf hM hrun hVt hb hbf hbb hbt hbs hMA b16 b46 b6 hRM hRT
    go_upto_region 11 with fail
    have lx0 := xbzZ x0
    have lx1 := xbzZ x1
    have HT1000 : t.1.inp.length ≤ 1000 := by have := HRT.out.1; omega
    go_cut [10, 11, 12] from 53 to 114 (fun sa sb sc wx => ∃ (z B : Nat) (qf qb qi qo : Option Addr) (jf jb ji jo : Nat) (r : MR), sa = .pointer (some ⟨z, 0, none⟩) ∧ sb = .int .i64 t.2 ∧ sc = .int .i64 (runE p M n) ∧ wx.heap[z]? = some (.cells #[.slice qf t.1.frames.length jf, .slice qb t.1.blocks.length jb, .slice qi t.1.inp.length ji, .slice qo t.1.out.length jo, .int .i64 t.1.status, .int .i64 t.1.trap] 48 (0, 0)) ∧ MHas wx B ⟨.slice qf t.1.frames.length jf, .slice qb t.1.blocks.length jb, .slice qi t.1.inp.length ji, .slice qo t.1.out.length jo, t.1.status, t.1.trap⟩ r t.1 ∧ w6.heap.size ≤ z ∧ Below w6.heap.size w6 wx)
    case first =>
      have hdA : ∀ o, Below w6.heap.size w6 (w6.alloc o).drew := fun o => ((Below.refl _ w6).alloc (Nat.le_refl _) o).drew
      go_region_held3 (fun W => W.cell? ⟨w.heap.size, 0, none⟩ = some (.slice pp p.length qp) ∧ W.cell? ⟨w.heap.size + 1, 0, none⟩ = some (.slice (some ⟨g, off, none⟩) L.length cw) ∧ W.cell? ⟨g, off + i * 6, none⟩ = some (.slice pf M.frames.length cf) ∧ W.cell? ⟨g, off + i * 6 + 1, none⟩ = some (.slice pb M.blocks.length cb) ∧ W.cell? ⟨g, off + i * 6 + 2, none⟩ = some (.slice pi M.inp.length ci) ∧ W.cell? ⟨g, off + i * 6 + 3, none⟩ = some (.slice po M.out.length co) ∧ W.cell? ⟨g, off + i * 6 + 4, none⟩ = some (.int .i64 M.status) ∧ W.cell? ⟨g, off + i * 6 + 5, none⟩ = some (.int .i64 M.trap)) (first | go_keep | exact ⟨xa5Z g0 nz0, xa5Z g1 nz1, xa5Z g2 nzg, xa5Z g3 nzg, xa5Z g4 nzg, xa5Z g5 nzg, xa5Z g6 nzg, xa5Z g7 nzg⟩)
        (first
          | (go_at_call 23; (with_reducible refine (HRU.out _ ((Below.refl _ w6).drew)).mono ?_); rintro e w7 ⟨t', ht', nf, nb, ni, no, rfl, r7, b7'⟩; have htt : t = t' := xfwZ HRUN.out (ht'.1 hRE.out); subst htt; obtain ⟨⟨qf, jf, hqf⟩, ⟨qb, jb, hqb⟩, ⟨qi, ji, hqi⟩, ⟨qo, jo, hqo⟩⟩ := xb8Z r7; subst hqf hqb hqi hqo; obtain ⟨r, hm7, -⟩ := r7.has HT1000; have HM7 := hideP hm7; clear hm7 r7 ht'; have b7 : Below w6.heap.size w6 w7 := xaeZ ((Below.refl _ w6).drew) b7'; have nz0 : ¬ w.heap.size = w7.heap.size := (by have := b7.size; omega); have nz1 : ¬ w.heap.size + 1 = w7.heap.size := (by have := b7.size; omega); have nzg : ¬ g = w7.heap.size := (by have := b7.size; omega); have g0 := (b7.cell (p := ⟨w.heap.size, 0, none⟩) lx0).trans x0; have g1 := (b7.cell (p := ⟨w.heap.size + 1, 0, none⟩) lx1).trans x1; have g2 := (b7.cell (p := ⟨g, off + i * 6, none⟩) hg).trans m0; have g3 := (b7.cell (p := ⟨g, off + i * 6 + 1, none⟩) hg).trans m1; have g4 := (b7.cell (p := ⟨g, off + i * 6 + 2, none⟩) hg).trans m2; have g5 := (b7.cell (p := ⟨g, off + i * 6 + 3, none⟩) hg).trans m3; have g6 := (b7.cell (p := ⟨g, off + i * 6 + 4, none⟩) hg).trans m4; have g7 := (b7.cell (p := ⟨g, off + i * 6 + 5, none⟩) hg).trans m5)
          | (go_at_call 23; (with_reducible refine (HRU.out _ (hdA _)).mono ?_); rintro e w7 ⟨t', ht', nf, nb, ni, no, rfl, r7, b7'⟩; have htt : t = t' := xfwZ HRUN.out (ht'.1 hRE.out); subst htt; obtain ⟨⟨qf, jf, hqf⟩, ⟨qb, jb, hqb⟩, ⟨qi, ji, hqi⟩, ⟨qo, jo, hqo⟩⟩ := xb8Z r7; subst hqf hqb hqi hqo; obtain ⟨r, hm7, -⟩ := r7.has HT1000; have HM7 := hideP hm7; clear hm7 r7 ht'; have b7 : Below w6.heap.size w6 w7 := xaeZ (hdA _) b7'; have nz0 : ¬ w.heap.size = w6.heap.size := (by omega); have nz1 : ¬ w.heap.size + 1 = w6.heap.size := (by omega); have nzg : ¬ g = w6.heap.size := (by omega); have q7 := (b7'.block w6.heap.size (xacZ (World.alloc_heap_new w6 _))).trans (World.alloc_heap_new w6 _); have Q7 := hideP q7; have z0 := xaaZ q7 0; have z1 := xaaZ q7 1; have z2 := xaaZ q7 2; have z3 := xaaZ q7 3; have z4 := xaaZ q7 4; have z5 := xaaZ q7 5; simp at z0 z1 z2 z3 z4 z5; have y := Lib.frozen_of_heap q7; have y0 := y 0; have y1 := y 1; have y2 := y 2; have y3 := y 3; have y4 := y 4; have y5 := y 5; clear y q7; have g0 := (b7.cell (p := ⟨w.heap.size, 0, none⟩) lx0).trans x0; have g1 := (b7.cell (p := ⟨w.heap.size + 1, 0, none⟩) lx1).trans x1; have g2 := (b7.cell (p := ⟨g, off + i * 6, none⟩) hg).trans m0; have g3 := (b7.cell (p := ⟨g, off + i * 6 + 1, none⟩) hg).trans m1; have g4 := (b7.cell (p := ⟨g, off + i * 6 + 2, none⟩) hg).trans m2; have g5 := (b7.cell (p := ⟨g, off + i * 6 + 3, none⟩) hg).trans m3; have g6 := (b7.cell (p := ⟨g, off + i * 6 + 4, none⟩) hg).trans m4; have g7 := (b7.cell (p := ⟨g, off + i * 6 + 5, none⟩) hg).trans m5))
      all_goals
        go_wp2_with fail
        go_meet
      · have hF := run_fin0 HM7.out b7
        exact ⟨_, _, _, _, _, _, _, _, _, _, _, rfl, rfl, rfl, hF.1, hF.2.1, b7.size, hF.2.2⟩
      · have hF := run_fin HM7.out b7 Q7.out (Nat.le_refl _)
        exact ⟨_, _, _, _, _, _, _, _, _, _, _, rfl, rfl, rfl, hF.1, hF.2.1, Nat.le_refl _, hF.2.2⟩
    case rest =>
      obtain ⟨z, B, qf, qb, qi, qo, jf, jb, ji, jo, r, rfl, rfl, rfl, hz, hm, hzb, hb⟩ := hcut
      rename World => wx
      have b4x := xaeZ HB46.out hb
      have b1x := xaeZ HB16.out hb
      obtain ⟨bM, hbf, hbb, hbt, hbs⟩ := HBB.out
      have hiV := xadZ bM
      have hiVi : (i : Int) < ((mailW V).length : Int) := by omega
      obtain ⟨p5, c5, he5, -, -, hf5⟩ := A4.out
      cases he5
      obtain ⟨g5, o5, fv5, bv5, iv5, ov5, hp5, hg5, k0, k1, k2, k3, k4, k5, hMB⟩ := hf5 i b bM
      subst hp5
      replace k0 := (b4x.cell (p := ⟨g5, o5 + i * 6, none⟩) hg5).trans k0
      replace k1 := (b4x.cell (p := ⟨g5, o5 + i * 6 + 1, none⟩) hg5).trans k1
      replace k2 := (b4x.cell (p := ⟨g5, o5 + i * 6 + 2, none⟩) hg5).trans k2
      replace k3 := (b4x.cell (p := ⟨g5, o5 + i * 6 + 3, none⟩) hg5).trans k3
      replace k4 := (b4x.cell (p := ⟨g5, o5 + i * 6 + 4, none⟩) hg5).trans k4
      replace k5 := (b4x.cell (p := ⟨g5, o5 + i * 6 + 5, none⟩) hg5).trans k5
      obtain ⟨⟨pf5, cf5, hfv5⟩, ⟨pb5, cb5, hbv5⟩, ⟨pi5, ci5, hiv5⟩, ⟨po5, co5, hov5⟩⟩ := hMB.shp
      subst hfv5 hbv5 hiv5 hov5
      obtain ⟨y0, y1⟩ := KC.out wx b1x
      have y4 := K4.out wx b4x
      obtain ⟨W8, hW8⟩ : ∃ W8, wx.alloc (.cells #[.slice pf5 b.frames.length cf5, .slice pb5 b.blocks.length cb5, .slice pi5 b.inp.length ci5, .slice po5 b.out.length co5, .int .i64 b.status, .int .i64 b.trap] 48) = W8 := ⟨_, rfl⟩
      have d8 : Below wx.heap.size wx W8 := by rw [← hW8]; exact (Below.refl _ wx).alloc (Nat.le_refl _) _
      have x8 : W8.heap[wx.heap.size]? = some (.cells #[.slice pf5 b.frames.length cf5, .slice pb5 b.blocks.length cb5, .slice pi5 b.inp.length ci5, .slice po5 b.out.length co5, .int .i64 b.status, .int .i64 b.trap] 48 (0, 0)) := by rw [← hW8]; exact World.alloc_heap_new wx _
      have hz8 := (d8.block _ (xacZ hz)).trans hz
      have lz := xacZ hz
      have nzx : ¬ z = wx.heap.size := by omega
      have nxz : ¬ wx.heap.size = z := by omega
      have u0 : W8.cell? ⟨z, 0, none⟩ = some (.slice qf t.1.frames.length jf) := xaaZ hz8 0
      have u1 : W8.cell? ⟨z, 1, none⟩ = some (.slice qb t.1.blocks.length jb) := xaaZ hz8 1
      have u2 : W8.cell? ⟨z, 2, none⟩ = some (.slice qi t.1.inp.length ji) := xaaZ hz8 2
      have u3 : W8.cell? ⟨z, 3, none⟩ = some (.slice qo t.1.out.length jo) := xaaZ hz8 3
      have u4 : W8.cell? ⟨z, 4, none⟩ = some (.int .i64 t.1.status) := xaaZ hz8 4
      have u5 : W8.cell? ⟨z, 5, none⟩ = some (.int .i64 t.1.trap) := xaaZ hz8 5
      have v0 : W8.cell? ⟨wx.heap.size, 0, none⟩ = some (.slice pf5 b.frames.length cf5) := xaaZ x8 0
      have v1 : W8.cell? ⟨wx.heap.size, 1, none⟩ = some (.slice pb5 b.blocks.length cb5) := xaaZ x8 1
      have v2 : W8.cell? ⟨wx.heap.size, 2, none⟩ = some (.slice pi5 b.inp.length ci5) := xaaZ x8 2
      have v3 : W8.cell? ⟨wx.heap.size, 3, none⟩ = some (.slice po5 b.out.length co5) := xaaZ x8 3
      have v4 : W8.cell? ⟨wx.heap.size, 4, none⟩ = some (.int .i64 b.status) := xaaZ x8 4
      have v5 : W8.cell? ⟨wx.heap.size, 5, none⟩ = some (.int .i64 b.trap) := xaaZ x8 5
      have fz := Lib.frozen_of_heap hz8
      have fz2 := fz 2
      have fz3 := fz 3
      have fz4 := fz 4
      have fz5 := fz 5
      have fx := Lib.frozen_of_heap x8
      have fx2 := fx 2
      have fx3 := fx 3
      have fx4 := fx 4
      have fx5 := fx 5
      rw [hbt] at v5
      have hg1 := xexZ W8 z (.int .i64 0) (.int .i64 0) (.slice none 0 0) (.slice none 0 0)
      have tz : TyRow W8 (some z) 48 := xaqZ hz8
      have hx9 := (hg1.block _ (xacZ x8) (fun e => nxz (Option.some.inj e))).trans x8
      have hmz := (hm.below d8).keep hg1 tz (by decide) (by decide) (by decide) (by decide)
      have b68 : Below w6.heap.size w6 W8 := xaeZ hb d8
      have b69 := b68.grown hg1 b68.size (fun k hk => by cases hk; exact hzb)
      generalize hW9 : (((W8.setCell ⟨z, 4, none⟩ (.int .i64 0)).setCell ⟨z, 5, none⟩ (.int .i64 0)).setCell ⟨z, 2, none⟩ (.slice none 0 0)).setCell ⟨z, 3, none⟩ (.slice none 0 0) = W9 at hx9 hmz b69
      have hg2 := xexZ W9 wx.heap.size (.int .i64 0) (.int .i64 0) (.slice none 0 0) (.slice none 0 0)
      have tx : TyRow W9 (some wx.heap.size) 48 := xaqZ hx9
      have hmz2 := hmz.keep hg2 tx (by decide) (by decide) (by decide) (by decide)
      have b6A := b69.grown hg2 b69.size (fun k hk => by cases hk; exact hb.size)
      have a1 := hmz2.at_
      have a2 := hMB.below (xaeZ HB46.out b6A)
      have hSM := xk9Z (bareM t.1) (bareM b) _ _ (.slice none 0 0) (.slice none 0 0) _ _ (.slice none 0 0) (.slice none 0 0) _ ⟨a1.fr, a1.bl, xezZ _, xezZ _⟩ ⟨a2.fr, a2.bl, xezZ _, xezZ _⟩
      subst hW9
      have HSM := hideP hSM
      have HBA := hideP (xaeZ HB16.out b6A)
      have HB6A := hideP (HB6.out.trans (b6A.mono HB6.out.size))
      have hsame : bareM t.1 = bareM b := by unfold bareM; rw [hbf, hbb]
      have HSE := hideP hsame
      have t9 : (runE p M n != 0) = false := by rw [hRE.out]; rfl
      have HBN := hideP hbs
      clear hSM b6A b69 hmz hmz2 a1 a2 hg1 hg2 tz tx hx9 b68 x8 hz8 hz hm hb b4x b1x hsame fz fx hbf hbb hbt bM hbs x0 x1 k6 m0 m1 m2 m3 m4 m5
      rcases HBN.out with hs | ⟨hs1, hs0, hne⟩
      · rw [hs] at v4
        clear hs
        go_wp2_with fail
        refine HSM.out.mono ?_
        rintro e wz ⟨rr, rfl, hrr, bz⟩
        have hrt : rr = true := hrr.2 HSE.out
        subst hrt
        go_wp2
        exact ⟨⟨i + 1, by omega, by go_num, xaeZ HB6A.out bz⟩, by simp [intOf]; omega⟩
      · rw [hs1] at u4
        rw [hs0] at v4
        have hpos : 0 < b.inp.length := by
          rcases Nat.eq_zero_or_pos b.inp.length with h | h
          · exact absurd (List.length_eq_zero_iff.1 h) hne
          · exact h
        have hposi : (0 : Int) < (b.inp.length : Int) := by omega
        have tp : decide ((b.inp.length : Int) > 0) = true := by simp; omega
        clear hs1 hs0 hne
        go_wp2_with fail
        refine HSM.out.mono ?_
        rintro e wz ⟨rr, rfl, hrr, bz⟩
        have hrt : rr = true := hrr.2 HSE.out
        subst hrt
        go_wp2
        exact ⟨⟨i + 1, by omega, by go_num, xaeZ HB6A.out bz⟩, by simp [intOf]; omega⟩
theorem lifted (os : Os) (started : os.Started) (H : Type) (enc : TypeId × Value → H) :
    ReturnsInHanded {} Tryz.checked os 4 .any (Rows.worldAloneSpec.pre6 enc Tryz.prog Tryz.f4 Rows.worldAloneRow.domain false) (Rows.worldAloneSpec.post enc Tryz.prog Tryz.f4 false true false false) := by
  refine returnsInHanded_of_change_sized (C := Tryz.checked) own started (by kernel_rfl) Tryz.func4
    (ChangeSpec.witness6 (enc := enc) (C := Tryz.checked) false ⟨#[], #[.agg #[.slice none 0 0], .agg #[.slice none 0 0], .int .i64 0], []⟩ 8 (by kernel_rfl) (by kernel_rfl) (by kernel_rfl) (by kernel_rfl)) ?_
  intro W base args ds gs before hval0 hW hcnd hsz0 hholds
  have hval : ∀ (j : Nat) t v, Tryz.f4.params[j]? = some t → args[j]? = some v → Value.okWide Tryz.prog W .any base t v := hval0
  have hsz : (DataW.weightsEach Tryz.prog (Tryz.f4.params.toList ++ Rows.worldAloneSpec.plain.varTypes Tryz.prog) (ds ++ gs)).all (· ≤ reachBytes) = true := hsz0
  have hW' := hW
  obtain ⟨p, q, hA0, hV, rfl, hfz, hnd⟩ := hW
  have hA : DataW.TrodAll enc Tryz.prog W 0 (fun _ => true) true Tryz.f4.params.toList args.toList ds p := hA0
  rw [Tryz.params4] at hA hval hsz
  obtain ⟨v0, vs0, d0, ds0, p0, q0, hargs, rfl, rfl, h0, r0⟩ := trodAll_cons hA
  obtain ⟨v1, vs1, d1, ds1, p1, q1, rfl, rfl, rfl, h1, r1⟩ := trodAll_cons r0
  obtain ⟨v2, vs2, d2, ds2, p2, q2, rfl, rfl, rfl, h2, r2⟩ := trodAll_cons r1
  obtain ⟨rfl, rfl, rfl⟩ := trodAll_nil r2
  obtain rfl : args = #[v0, v1, v2] := by cases args; simp_all
  obtain ⟨rfl, rfl⟩ := trodVars_none hV
  have k0 := h0
  have k1 := h1
  have k2 := h2
  have lt0 : ∀ x ∈ p0, x.block < W.heap.size := by obtain ⟨m, hm⟩ := k0; exact DataW.trod_lt m _ _ _ hm
  have lt1 : ∀ x ∈ p1, x.block < W.heap.size := by obtain ⟨m, hm⟩ := k1; exact DataW.trod_lt m _ _ _ hm
  have lt2 : ∀ x ∈ p2, x.block < W.heap.size := by obtain ⟨m, hm⟩ := k2; exact DataW.trod_lt m _ _ _ hm
  have hw0 : ∀ n ∈ d0.weights Tryz.prog 24, n ≤ reachBytes := fun n hn => by have := List.all_eq_true.1 hsz n (DataW.weights_mem_each (j := 0) rfl rfl n hn); simpa using this
  obtain ⟨c0, l0, rfl, hl0⟩ := open_progC (hval 0 24 v0 rfl rfl) h0 hw0
  have hw1 : ∀ n ∈ d1.weights Tryz.prog 27, n ≤ reachBytes := fun n hn => by have := List.all_eq_true.1 hsz n (DataW.weights_mem_each (j := 1) rfl rfl n hn); simpa using this
  obtain ⟨c1, L1, rfl, hM1, hL1⟩ := xp4Z (hval 1 27 v1 rfl rfl) h1 hw1
  obtain ⟨x2, rfl, hd2, hp2, wx2⟩ := open_int Tryz.underlying3 (hval 2 3 v2 rfl rfl) h2
  have hx2 : -9223372036854775808 ≤ x2 ∧ x2 ≤ 9223372036854775807 := by simpa [Lit.wf, IntKind.min, IntKind.max, IntKind.bits, IntKind.signed] using wx2
  clear hA0 hval0 hsz0
  refine (walk W l0 c0 hl0 L1 c1 hM1 hL1 x2 hx2).mono fun e W' ⟨he, bel⟩ => ?_
  subst he
  exact ⟨_, rfl, _, _, _, [], _, [], hW', trodAll_mk1 (shut_bool Tryz.underlying4 _), (trodAll_cons_mk (Below.trod laidOut (by kernel_rfl) (of_decide_eq_true (by kernel_rfl)) k0 bel lt0) (trodAll_cons_mk (Below.trod laidOut (by kernel_rfl) (of_decide_eq_true (by kernel_rfl)) k1 bel lt1) (trodAll_cons_mk (Below.trod laidOut (by kernel_rfl) (of_decide_eq_true (by kernel_rfl)) k2 bel lt2) trodAll_mk0))), rfl, bel.frame _, fun h => by cases h⟩
theorem over : Rows.worldAloneRow.holds Tryz.pinned (OpenSpec.ofChange Rows.worldAloneSpec) :=
  OpenClaim.holds_of_wide 4 Tryz.f4 rfl rfl rfl rfl rfl rfl rfl ⟨rfl, rfl, rfl, rfl, rfl⟩ rfl rfl rfl rfl rfl (by kernel_rfl) Tryz.func4 (by kernel_rfl)
    (of_decide_eq_true (by kernel_rfl)) (by unfold Func.isWrapper; first | (rw [if_pos (by decide +kernel)]; kernel_rfl) | (rw [if_neg (by decide +kernel)]; exact ⟨rfl, rfl⟩))
    (fun os started H enc _ => lifted os started H enc)
end Go.Proofs.YtmjjkenblfndgaaGreat.worldAlone
namespace Go.Proofs.YtmjjkenblfndgaaGreat
/-- For every input the law WorldAlone returns true, and the arguments read as they did. -/
theorem worldAlone_holds : Rows.WorldAloneSaid := worldAlone.over
end Go.Proofs.YtmjjkenblfndgaaGreat

