/- A STEP OF A RIGHT MACHINE IS A RIGHT MACHINE: it never finds what it does not take; it traps for a reason that its op has, and is otherwise as it was: for every program and machine MachineRight returns true. No condition. -/
import Derived.Test.YtcadpoknolefpaaGreatA24
import Derived.Test.YtcadpoknolefpaaGreatA23
import Derived.Test.YtcadpoknolefpaaGreatA25
import Derived.Test.YtcadpoknolefpaaGreatA18
import Derived.Test.YtcadpoknolefpaaGreatA11
import Derived.Test.YtcadpoknolefpaaGreatA22
namespace Go.Proofs.YtcadpoknolefpaaGreat.machineRight
open Go.ChangeShapes Go.WideShapes Go.ChangeAt Go.RowKit
set_option linter.unusedVariables false
set_option linter.unusedSimpArgs false
theorem own : ownKnob Tryz.prog.godebug = none := by kernel_rfl
theorem laidOut : laidOutB Tryz.prog = true := by kernel_rfl
theorem fieldOp (a n : Int) (w : World) : (Instr.field 43 (.agg #[.int .i64 a, .int .i64 n]) 0).run Tryz.prog w = .ok (.int .i64 a) w := by kernel_rfl
set_option maxRecDepth 100000 in
set_option maxHeartbeats 8000000 in
theorem walk (w : World) (p : List Fn) (pv : Value) (hpf : ProgFull w pv p) (M : Mach) (fv bv iv ov : Value) (hM : MachAt w fv bv iv ov M) (hML : MachLong M) :
    Calls Tryz.prog 4 #[.agg #[pv], .agg #[fv, bv, iv, ov, .int .i64 M.status, .int .i64 M.trap]] w fun e w' => e = .returned (.bool true) ∧ Below w.heap.size w w' := by
  have hCk : CkAt w p pv fv bv iv ov M := ⟨hpf.at_, hpf.cap, hM⟩
  have hpc : PcOk M := fun x hx => (hML.fr.2 x hx).2.2
  obtain ⟨⟨pp, qp, hpv⟩, ⟨pf, cf, hfv⟩, ⟨pb, cb, hbv⟩, ⟨pi, ci, hiv⟩, ⟨po, co, hov⟩⟩ := hCk.shp
  subst hpv hfv hbv hiv hov
  obtain ⟨W1, hW1⟩ : ∃ W1, (w.alloc (.cells #[.slice pp p.length qp] 24)).alloc (.cells #[.slice pf M.frames.length cf, .slice pb M.blocks.length cb, .slice pi M.inp.length ci, .slice po M.out.length co, .int .i64 M.status, .int .i64 M.trap] 29) = W1 := ⟨_, rfl⟩
  have b1 : Below w.heap.size w W1 := by rw [← hW1]; exact ((Below.refl _ w).alloc (Nat.le_refl _) _).alloc (by simp) _
  have u1 : W1.heap[w.heap.size]? = some (.cells #[.slice pp p.length qp] 24 (0, 0)) := by rw [← hW1]; exact heap_old (World.alloc_heap_new w _) _
  have u2 : W1.heap[w.heap.size + 1]? = some (.cells #[.slice pf M.frames.length cf, .slice pb M.blocks.length cb, .slice pi M.inp.length ci, .slice po M.out.length co, .int .i64 M.status, .int .i64 M.trap] 29 (0, 0)) := by rw [← hW1]; exact new_two _ _ _
  have l1 := heap_lt u1
  have l2 := heap_lt u2
  have KC : Hid (∀ W, Below W1.heap.size W1 W → W.cell? ⟨w.heap.size, 0, none⟩ = some (.slice pp p.length qp) ∧ W.cell? ⟨w.heap.size + 1, 0, none⟩ = some (.slice pf M.frames.length cf) ∧ W.cell? ⟨w.heap.size + 1, 1, none⟩ = some (.slice pb M.blocks.length cb) ∧ W.cell? ⟨w.heap.size + 1, 2, none⟩ = some (.slice pi M.inp.length ci) ∧ W.cell? ⟨w.heap.size + 1, 3, none⟩ = some (.slice po M.out.length co) ∧ W.cell? ⟨w.heap.size + 1, 4, none⟩ = some (.int .i64 M.status) ∧ W.cell? ⟨w.heap.size + 1, 5, none⟩ = some (.int .i64 M.trap)) := fun W hW => by
    have h1 := (hW.block _ l1).trans u1
    have h2 := (hW.block _ l2).trans u2
    exact ⟨cell_at' h1 0, cell_at' h2 0, cell_at' h2 1, cell_at' h2 2, cell_at' h2 3, cell_at' h2 4, cell_at' h2 5⟩
  have HH := hideP (hCk.below b1)
  have HPC := hideP hpc
  have HB1 := hideP b1
  clear hpf hML hM hCk hpc u1 u2 b1
  go_enter Tryz.func4, Tryz.ntmps4
  go_wp2_with fail
  refine (machineBegun_any _).mono ?_
  rintro e w2 ⟨rfl, b2⟩
  go_wp2_with fail
  refine (verifyBegun_any _).mono ?_
  rintro e w3 ⟨rfl, b3'⟩
  have b3 := bthen0 b2 b3'
  clear b2 b3'
  obtain ⟨e0, d0, d1, d2, d3, d4, d5⟩ := KC.out w3 b3
  have HST := hideP (mStep_any M p _ _ _ _ _ w3 (HH.out.below b3) HPC.out)
  go_wp2_with fail
  refine HST.out.mono ?_
  rintro e w4 ⟨nf, nb, ni, no, rfl, hres, b4⟩
  clear e0 d0 d1 d2 d3 d4 d5 HST
  have b34 := bthen0 b3 b4
  obtain ⟨⟨qf, kf, hqf⟩, ⟨qb, kb, hqb⟩, ⟨qi, ki, hqi⟩, ⟨qo, ko, hqo⟩⟩ := mres_shpN hres
  subst hqf hqb hqi hqo
  by_cases hc : checkE p M = 0
  rotate_left
  · rw [if_neg hc] at hres ⊢
    have hc' : (checkE p M != 0) = true := by simpa using hc
    have hce : (checkE p M == checkE p M) = true := by simp
    have HCK := hideP (fun W (hW : Below W1.heap.size W1 W) => mCheck_any M p _ _ _ _ _ W (HH.out.below hW) HPC.out)
    generalize checkE p M = er at *
    obtain ⟨W5, hW5⟩ : ∃ W5, w4.alloc (.cells #[.slice qf zeroM.frames.length kf, .slice qb zeroM.blocks.length kb, .slice qi zeroM.inp.length ki, .slice qo zeroM.out.length ko, .int .i64 zeroM.status, .int .i64 zeroM.trap] 29) = W5 := ⟨_, rfl⟩
    have b5 : Below w4.heap.size w4 W5 := by rw [← hW5]; exact (Below.refl _ w4).alloc (Nat.le_refl _) _
    have u5 : W5.heap[w4.heap.size]? = some (.cells #[.slice qf zeroM.frames.length kf, .slice qb zeroM.blocks.length kb, .slice qi zeroM.inp.length ki, .slice qo zeroM.out.length ko, .int .i64 zeroM.status, .int .i64 zeroM.trap] 29 (0, 0)) := by rw [← hW5]; exact World.alloc_heap_new w4 _
    have b35 := bthen0 b34 b5
    obtain ⟨e0, d0, d1, d2, d3, d4, d5⟩ := KC.out W5 b35
    have KN : Hid (∀ W, Below W5.heap.size W5 W → W.cell? ⟨w4.heap.size, 0, none⟩ = some (.slice qf 0 kf) ∧ W.cell? ⟨w4.heap.size, 1, none⟩ = some (.slice qb 0 kb)) := fun W hW => by
      have h1 := (hW.block _ (heap_lt u5)).trans u5
      exact ⟨cell_at' h1 0, cell_at' h1 1⟩
    have HCL := hideP (HCK.out W5 b35)
    clear hres hc u5 HCK hce
    go_wp2_with fail
    refine HCL.out.mono ?_
    rintro e w6 ⟨rfl, b6⟩
    obtain ⟨n0, n1⟩ := KN.out w6 b6
    go_wp2
    go_ret
    exact ⟨by simp, bthen0 HB1.out (bthen0 b35 b6)⟩
  rw [if_pos hc] at hres ⊢
  rw [hc]
  obtain ⟨hpe, he, hR⟩ := checkE_zero.1 hc
  have hRR := stepM_right hpe he hR
  have hsm := (right_small hpe he hRR).1
  have hchk : checkE p (stepM p M) = 0 := checkE_zero.2 ⟨hpe, he, hRR⟩
  have hat : MachAt w4 _ _ _ _ (stepM p M) := hres.at_ (by have := hsm.inp; omega)
  have hpcR : PcOk (stepM p M) := right_pc hpe he hRR
  obtain ⟨W5, hW5⟩ : ∃ W5, w4.alloc (.cells #[.slice qf (stepM p M).frames.length kf, .slice qb (stepM p M).blocks.length kb, .slice qi (stepM p M).inp.length ki, .slice qo (stepM p M).out.length ko, .int .i64 (stepM p M).status, .int .i64 (stepM p M).trap] 29) = W5 := ⟨_, rfl⟩
  have b5 : Below w4.heap.size w4 W5 := by rw [← hW5]; exact (Below.refl _ w4).alloc (Nat.le_refl _) _
  have u5 : W5.heap[w4.heap.size]? = some (.cells #[.slice qf (stepM p M).frames.length kf, .slice qb (stepM p M).blocks.length kb, .slice qi (stepM p M).inp.length ki, .slice qo (stepM p M).out.length ko, .int .i64 (stepM p M).status, .int .i64 (stepM p M).trap] 29 (0, 0)) := by rw [← hW5]; exact World.alloc_heap_new w4 _
  have b35 := bthen0 b34 b5
  have hat5 := hat.below b5
  have HCR := hideP (mCheck_any (stepM p M) p _ _ _ _ _ W5 ⟨(HH.out.below b35).fns, (HH.out.below b35).cap, hat5⟩ hpcR)
  rw [hchk] at HCR
  have KN : Hid (∀ W, Below W5.heap.size W5 W → W.heap[w4.heap.size]? = some (.cells #[.slice qf (stepM p M).frames.length kf, .slice qb (stepM p M).blocks.length kb, .slice qi (stepM p M).inp.length ki, .slice qo (stepM p M).out.length ko, .int .i64 (stepM p M).status, .int .i64 (stepM p M).trap] 29 (0, 0))) := fun W hW => (hW.block _ (heap_lt u5)).trans u5
  have m0 := cell_at' u5 0
  have m1 := cell_at' u5 1
  have m2 := cell_at' u5 2
  have m3 := cell_at' u5 3
  have m4 := cell_at' u5 4
  have m5 := cell_at' u5 5
  simp at m0 m1 m2 m3 m4 m5
  obtain ⟨e0, d0, d1, d2, d3, d4, d5⟩ := KC.out W5 b35
  have hst := hR.status
  have HA := hideP hat5
  have HRES := hideP hres
  have HS := hideP (And.intro hpe (And.intro he hR))
  clear hres hat hat5 u5 hchk hpcR hRR
  go_wp2_with fail
  refine HCR.out.mono ?_
  rintro e w6 ⟨rfl, b6⟩
  clear e0 d0 d1 d2 d3 d4 d5 m0 m1 m2 m3 m4 m5 HCR
  have b36 := bthen0 b35 b6
  obtain ⟨e0, d0, d1, d2, d3, d4, d5⟩ := KC.out w6 b36
  have hn6 := KN.out w6 b6
  have m0 := cell_at' hn6 0
  have m1 := cell_at' hn6 1
  have m2 := cell_at' hn6 2
  have m3 := cell_at' hn6 3
  have m4 := cell_at' hn6 4
  have m5 := cell_at' hn6 5
  simp at m0 m1 m2 m3 m4 m5
  have HN6 := hideP hn6
  have HA6 := hideP (HA.out.below b6)
  clear hn6 KN
  by_cases h23 : M.status = 2 ∨ M.status = 3
  · have hSM : stepM p M = M := by unfold stepM; rw [if_neg (by omega)]
    have HSAME : Hid (Calls Tryz.prog 24 #[.agg #[.slice pf M.frames.length cf, .slice pb M.blocks.length cb, .slice pi M.inp.length ci, .slice po M.out.length co, .int .i64 M.status, .int .i64 M.trap], .agg #[.slice qf (stepM p M).frames.length kf, .slice qb (stepM p M).blocks.length kb, .slice qi (stepM p M).inp.length ki, .slice qo (stepM p M).out.length ko, .int .i64 (stepM p M).status, .int .i64 (stepM p M).trap]] w6 fun e w' => e = .returned (.bool true) ∧ Below w6.heap.size w6 w') := (sameMachine_any M (stepM p M) _ _ _ _ _ _ _ _ w6 (HH.out.below b36).mach HA6.out).mono fun e w' ⟨r, h1, h2, h3⟩ => ⟨by rw [h1, h2.2 hSM.symm], h3⟩
    have HBB := hideP (bthen0 HB1.out b36)
    clear HS hSM hst
    by_cases h2 : M.status = 2
    · have t2 : (M.status == 2) = true := by simpa using h2
      clear h2 h23
      go_wp2_with fail
      refine HSAME.out.mono ?_
      rintro e w7 ⟨rfl, b7⟩
      go_wp2
      go_ret
      exact ⟨rfl, bthen0 HBB.out b7⟩
    · have t2 : (M.status == 2) = false := by simpa using h2
      have t3 : (M.status == 3) = true := by simp; omega
      clear h2 h23
      go_wp2_with fail
      refine HSAME.out.mono ?_
      rintro e w7 ⟨rfl, b7⟩
      go_wp2
      go_ret
      exact ⟨rfl, bthen0 HBB.out b7⟩
  have t2 : (M.status == 2) = false := by simp; omega
  have t3 : (M.status == 3) = false := by simp; omega
  have h01 : M.status = 0 ∨ M.status = 1 := by omega
  by_cases h3 : (stepM p M).status = 3
  rotate_left
  · have t4 : ((stepM p M).status != 3) = true := by simpa using h3
    have HBB := hideP (bthen0 HB1.out b36)
    clear h3 h23 h01 hst
    go_wp2
    go_ret
    exact ⟨rfl, HBB.out⟩
  have t4 : ((stepM p M).status != 3) = false := by simpa using h3
  obtain ⟨x, kk, pc, f, o, n1, n2, n3, n4, n5, n6, n7, n8, n9, n10⟩ := next_small HS.out.1 HS.out.2.1 HS.out.2.2 h01
  have htr := traps_step (p := p) (x := x) (o := o) (m := M) (by omega)
  rw [← n10] at htr
  obtain ⟨why, hwhy, hok⟩ := htr h3
  have hfr6 := (right_small HS.out.1 HS.out.2.1 HS.out.2.2).1.fr
  have HOP := hideP (fun (W : World) (hW : Below W1.heap.size W1 W) => opOf_any M p _ _ _ _ _ W (HH.out.below hW) (by omega) x kk pc f o n1 n2 n3 n4 n5 n6 n7)
  rw [hwhy] at m0 m1 m2 m3 m4 m5 HN6 HA6
  change w6.cell? ⟨w4.heap.size, 5, none⟩ = some (.int .i64 why) at m5
  have HOK := hideP hok
  obtain ⟨c, A⟩ := o
  have HBB := hideP (bthen0 HB1.out b36)
  clear HS n1 n2 n3 n4 n5 n6 n7 n8 n9 n10 htr h3 h23 h01 hst hok hfr6
  rw [hwhy] at t4 ⊢
  go_wp2_with fail
  have hne : ¬ w4.heap.size = w.heap.size + 1 := by have := b34.size; omega
  have hne' : ¬ w.heap.size + 1 = w4.heap.size := by omega
  have htw := two_grown w6 w4.heap.size 4 (.int .i64 M.status) (.int .i64 M.trap)
  have hr6 : MRes w6 w3.heap.size _ _ _ _ _ := HRES.out.below (bthen0 b5 b6)
  rw [hwhy] at hr6
  have hr7 := hr6.keep htw (tyRow_at HN6.out) (by decide) (by decide) (by decide) (by decide)
  have ha7 := hr7.at_ (by have := hsm.inp; rw [hwhy] at this; omega)
  have hb7 : Below W1.heap.size W1 ((w6.setCell ⟨w4.heap.size, 4, none⟩ (.int .i64 M.status)).setCell ⟨w4.heap.size, 4 + 1, none⟩ (.int .i64 M.trap)) := (b36.setCell (p := ⟨w4.heap.size, 4, none⟩) b34.size _).setCell (p := ⟨w4.heap.size, 4 + 1, none⟩) b34.size _
  have HSAME : Hid (∀ W, Below ((w6.setCell ⟨w4.heap.size, 4, none⟩ (.int .i64 M.status)).setCell ⟨w4.heap.size, 4 + 1, none⟩ (.int .i64 M.trap)).heap.size ((w6.setCell ⟨w4.heap.size, 4, none⟩ (.int .i64 M.status)).setCell ⟨w4.heap.size, 4 + 1, none⟩ (.int .i64 M.trap)) W → Calls Tryz.prog 24 #[.agg #[.slice pf M.frames.length cf, .slice pb M.blocks.length cb, .slice pi M.inp.length ci, .slice po M.out.length co, .int .i64 M.status, .int .i64 M.trap], .agg #[.slice qf (trapM M why).frames.length kf, .slice qb (trapM M why).blocks.length kb, .slice qi (trapM M why).inp.length ki, .slice qo (trapM M why).out.length ko, .int .i64 M.status, .int .i64 M.trap]] W fun e w' => e = .returned (.bool true) ∧ Below W.heap.size W w') := fun W hW => (sameMachine_any M M _ _ _ _ _ _ _ _ W ((HH.out.below (bthen0 hb7 hW)).mach) (MachAt.below ⟨ha7.fr, ha7.bl, ha7.inp, ha7.out⟩ hW)).mono fun e w' ⟨r, h1, h2, h3⟩ => ⟨by rw [h1, h2.2 rfl], h3⟩
  have HB7 := hideP hb7
  have HB34 := hideP b34.size
  clear htw hr6 hr7 ha7 hb7 HRES hwhy hsm
  have zq := Lib.frozen_of_heap HN6.out
  have zq4 := zq 4
  have zq5 := zq 5
  clear zq
  have S4 : ((w6.setCell ⟨w4.heap.size, 4, none⟩ (.int .i64 M.status))).cell? ⟨w.heap.size + 1, 5, none⟩ = some (.int .i64 M.trap) := one_cell d5 hne'
  go_region_held3 (fun X => X.cell? ⟨w.heap.size + 1, 4, none⟩ = some (.int .i64 M.status) ∧ X.cell? ⟨w.heap.size + 1, 5, none⟩ = some (.int .i64 M.trap)) (go_keep) (fail)
  obtain ⟨W7, hW7⟩ : ∃ W7, ((w6.setCell ⟨w4.heap.size, 4, none⟩ (.int .i64 M.status)).setCell ⟨w4.heap.size, 5, none⟩ (.int .i64 M.trap)).drew = W7 := ⟨_, rfl⟩
  have b7 : Below W1.heap.size W1 W7 := by rw [← hW7]; exact HB7.out.drew
  have hS7 := HSAME.out W7 (by rw [← hW7]; exact (Below.refl _ _).drew)
  have hn7 : W7.heap[w4.heap.size]? = some (.cells #[.slice qf (trapM M why).frames.length kf, .slice qb (trapM M why).blocks.length kb, .slice qi (trapM M why).inp.length ki, .slice qo (trapM M why).out.length ko, .int .i64 M.status, .int .i64 M.trap] 29 (0, 0)) := by
    rw [← hW7]
    have h1 := heap_setCell_same w6 w4.heap.size 4 _ _ (.int .i64 M.status) HN6.out
    have h2 := heap_setCell_same _ w4.heap.size 5 _ _ (.int .i64 M.trap) h1
    simp at h2
    exact h2
  have HS7 := hideP hS7
  have HB77 := hideP b7
  obtain ⟨e0', d0', d1', d2', d3', d4', d5'⟩ := KC.out W7 b7
  have q0 := cell_at' hn7 0
  have q1 := cell_at' hn7 1
  have q2 := cell_at' hn7 2
  have q3 := cell_at' hn7 3
  have q4 := cell_at' hn7 4
  have q5 := cell_at' hn7 5
  simp at q0 q1 q2 q3 q4 q5
  clear hS7 hn7 b7 HSAME e0 d0 d1 d2 d3 d4 d5 m0 m1 m2 m3 m4 m5 zq4 zq5 S4 hne hne'
  rw [hW7]
  clear hW7
  go_wp2_with fail
  refine HS7.out.mono ?_
  rintro e w8 ⟨rfl, b8⟩
  have b18 := bthen0 HB77.out b8
  obtain ⟨e0, d0, d1, d2, d3, d4, d5⟩ := KC.out w8 b18
  clear e0' d0' d1' d2' d3' d4' d5' q0 q1 q2 q3 q4 q5 HS7
  go_wp2_with fail
  refine (HOP.out w8 b18).mono ?_
  rintro e w9 ⟨rfl, b9⟩
  have b19 := bthen0 b18 b9
  obtain ⟨e0', d0', d1', d2', d3', d4', d5'⟩ := KC.out w9 b19
  have HB9 := hideP (bthen0 HB1.out b19)
  clear e0 d0 d1 d2 d3 d4 d5 b18 b19 b9 b8 HOP t4
  have hfd := fieldOp
  have hok := HOK.out
  simp only at hok ⊢
  rcases hok with ⟨rfl | rfl, rfl | rfl⟩ | ⟨rfl, rfl⟩ | ⟨rfl, rfl⟩ | ⟨rfl, rfl, h6⟩ | ⟨rfl, rfl, h10⟩
  · go_wp2
    go_ret
    exact ⟨rfl, HB9.out⟩
  · go_wp2
    go_ret
    exact ⟨rfl, HB9.out⟩
  · go_wp2
    go_ret
    exact ⟨rfl, HB9.out⟩
  · go_wp2
    go_ret
    exact ⟨rfl, HB9.out⟩
  · go_wp2
    go_ret
    exact ⟨rfl, HB9.out⟩
  · go_wp2
    go_ret
    exact ⟨rfl, HB9.out⟩
  · rw [h6] at d0'
    clear h6
    go_wp2
    go_ret
    exact ⟨rfl, HB9.out⟩
  · rw [h10] at d3'
    clear h10
    go_wp2
    go_ret
    exact ⟨rfl, HB9.out⟩
set_option maxRecDepth 100000 in
theorem lifted (os : Os) (started : os.Started) (H : Type) (enc : TypeId × Value → H) :
    ReturnsInHanded {} Tryz.checked os 4 .any (Rows.machineRightSpec.pre6 enc Tryz.prog Tryz.f4 Rows.machineRightRow.domain false) (Rows.machineRightSpec.post enc Tryz.prog Tryz.f4 false true false false) := by
  refine returnsInHanded_of_change_sized (C := Tryz.checked) own started (by kernel_rfl) Tryz.func4
    (ChangeSpec.witness6 (enc := enc) (C := Tryz.checked) false ⟨#[], #[.agg #[.slice none 0 0], .agg #[.slice none 0 0, .slice none 0 0, .slice none 0 0, .slice none 0 0, .int .i64 0, .int .i64 0]], []⟩ 8 (by kernel_rfl) (by kernel_rfl) (by kernel_rfl) (by kernel_rfl)) ?_
  intro W base args ds gs before hval0 hW hcnd hsz0 hholds
  have hval : ∀ (j : Nat) t v, Tryz.f4.params[j]? = some t → args[j]? = some v → Value.okWide Tryz.prog W .any base t v := hval0
  have hsz : (DataW.weightsEach Tryz.prog (Tryz.f4.params.toList ++ Rows.machineRightSpec.plain.varTypes Tryz.prog) (ds ++ gs)).all (· ≤ reachBytes) = true := hsz0
  have hW' := hW
  obtain ⟨p, q, hA0, hV, rfl, hfz, hnd⟩ := hW
  have hA : DataW.TrodAll enc Tryz.prog W 0 (fun _ => true) true Tryz.f4.params.toList args.toList ds p := hA0
  rw [Tryz.params4] at hA hval hsz
  obtain ⟨v0, vs0, d0, ds0, p0, q0, hargs, rfl, rfl, h0, r0⟩ := trodAll_cons hA
  obtain ⟨v1, vs1, d1, ds1, p1, q1, rfl, rfl, rfl, h1, r1⟩ := trodAll_cons r0
  obtain ⟨rfl, rfl, rfl⟩ := trodAll_nil r1
  obtain rfl : args = #[v0, v1] := by cases args; simp_all
  obtain ⟨rfl, rfl⟩ := trodVars_none hV
  have k0 := h0
  have k1 := h1
  have lt0 : ∀ x ∈ p0, x.block < W.heap.size := by obtain ⟨m, hm⟩ := k0; exact DataW.trod_lt m _ _ _ hm
  have lt1 : ∀ x ∈ p1, x.block < W.heap.size := by obtain ⟨m, hm⟩ := k1; exact DataW.trod_lt m _ _ _ hm
  have hw0 : ∀ n ∈ d0.weights Tryz.prog 24, n ≤ reachBytes := fun n hn => by have := List.all_eq_true.1 hsz n (DataW.weights_mem_each (j := 0) rfl rfl n hn); simpa using this
  obtain ⟨c0, l0, rfl, hl0⟩ := open_progC (hval 0 24 v0 rfl rfl) h0 hw0
  have hw1 : ∀ n ∈ d1.weights Tryz.prog 29, n ≤ reachBytes := fun n hn => by have := List.all_eq_true.1 hsz n (DataW.weights_mem_each (j := 1) rfl rfl n hn); simpa using this
  obtain ⟨e10, e11, e12, e13, M1, rfl, hM1, hL1⟩ := open_machV (hval 1 29 v1 rfl rfl) h1 hw1
  clear hA0 hval0 hsz0
  refine (walk W l0 c0 hl0 M1 e10 e11 e12 e13 hM1 hL1).mono fun e W' ⟨he, bel⟩ => ?_
  subst he
  exact ⟨_, rfl, _, _, _, [], _, [], hW', trodAll_mk1 (shut_bool Tryz.underlying4 _), (trodAll_cons_mk (Below.trod laidOut (by kernel_rfl) (of_decide_eq_true (by kernel_rfl)) k0 bel lt0) (trodAll_cons_mk (Below.trod laidOut (by kernel_rfl) (of_decide_eq_true (by kernel_rfl)) k1 bel lt1) trodAll_mk0)), rfl, bel.frame _, fun h => by cases h⟩
theorem over : Rows.machineRightRow.holds Tryz.pinned (OpenSpec.ofChange Rows.machineRightSpec) :=
  OpenClaim.holds_of_wide 4 Tryz.f4 rfl rfl rfl rfl rfl rfl rfl ⟨rfl, rfl, rfl, rfl, rfl⟩ rfl rfl rfl rfl rfl (by kernel_rfl) Tryz.func4 (by kernel_rfl)
    (of_decide_eq_true (by kernel_rfl)) (by unfold Func.isWrapper; first | (rw [if_pos (by decide +kernel)]; kernel_rfl) | (rw [if_neg (by decide +kernel)]; exact ⟨rfl, rfl⟩))
    (fun os started H enc _ => lifted os started H enc)
end Go.Proofs.YtcadpoknolefpaaGreat.machineRight
namespace Go.Proofs.YtcadpoknolefpaaGreat
/-- For every input the law MachineRight returns true, and the arguments read as they did. -/
theorem machineRight_holds : Rows.MachineRightSaid := machineRight.over
end Go.Proofs.YtcadpoknolefpaaGreat

