/- A MACHINE THAT IS COLLECTED DOES AS IT DID: it steps the same, but where there was no room; collected again nothing is gone; what comes is right: for every program and machine CollectSame returns true. No condition. -/
import Derived.Test.YtcadpoknolefpaaGreatF28
import Derived.Test.YtcadpoknolefpaaGreatF27
import Derived.Test.YtcadpoknolefpaaGreatF22
import Derived.Test.YtcadpoknolefpaaGreatF16
import Derived.Test.YtcadpoknolefpaaGreatF6
set_option maxRecDepth 100000
set_option maxHeartbeats 8000000
namespace Go.Proofs.YtcadpoknolefpaaGreat.collectSame
open Go.ChangeShapes Go.WideShapes Go.ChangeAt Go.RowKit
set_option linter.unusedVariables false
set_option linter.unusedSimpArgs false
theorem own : ownKnob Tryz.prog.godebug = none := by kernel_rfl
theorem laidOut : laidOutB Tryz.prog = true := by kernel_rfl
theorem coll_again {p : List Fn} {M : Mach} (h : xaqZ p M = 0) : xaqZ p (xajZ M) = 0 ∧ CollR p (xajZ M) = xajZ M ∧ goneR p (xajZ M) = 0 ∧ PcOk (xajZ M) := by
  obtain ⟨hp, he, hR⟩ := xa1Z.1 h
  have hR2 : RightM p (entP p) (xajZ M) := xflZ _ hR
  have h2 : xaqZ p (xajZ M) = 0 := xa1Z.2 ⟨hp, he, hR2⟩
  have h3 := xjlZ (xfbZ hR)
  refine ⟨h2, ?_, ?_, xi6Z hp he hR2⟩
  · unfold CollR; rw [if_pos h2, h3]
  · unfold goneR; rw [if_pos h2, h3]; omega
theorem step_again {p : List Fn} {M : Mach} (h : xaqZ p M = 0) : xaqZ p (stepM p M) = 0 ∧ CollR p (stepM p M) = xajZ (stepM p M) ∧ PcOk (stepM p M) := by
  obtain ⟨hp, he, hR⟩ := xa1Z.1 h
  have hR2 := xcxZ hp he hR
  have h2 : xaqZ p (stepM p M) = 0 := xa1Z.2 ⟨hp, he, hR2⟩
  exact ⟨h2, by unfold CollR; rw [if_pos h2], xi6Z hp he hR2⟩
theorem few_in {p : List Fn} {M : Mach} (h : xaqZ p M = 0) : M.inp.length ≤ 100 := by
  obtain ⟨hp, he, hR⟩ := xa1Z.1 h
  have := (xb1Z hp he hR).1.inp
  omega
theorem walk (w : World) (p : List Fn) (pv : Value) (hpf : ProgFull w pv p) (M : Mach) (fv bv iv ov : Value) (hM : MachAt w fv bv iv ov M) (hML : MachLong M) :
    Calls Tryz.prog 12 #[.agg #[pv], .agg #[fv, bv, iv, ov, .int .i64 M.status, .int .i64 M.trap]] w fun e w' => e = .returned (.bool true) ∧ Below w.heap.size w w' := by
  have hCk : CkAt w p pv fv bv iv ov M := ⟨hpf.at_, hpf.cap, hM⟩
  have hpc : PcOk M := fun x hx => (hML.fr.2 x hx).2.2
  obtain ⟨⟨pp, qp, hpv⟩, ⟨pf, cf, hfv⟩, ⟨pb, cb, hbv⟩, ⟨pi, ci, hiv⟩, ⟨po, co, hov⟩⟩ := hCk.shp
  subst hpv hfv hbv hiv hov
  obtain ⟨W1, hW1⟩ : ∃ W1, (w.alloc (.cells #[.slice pp p.length qp] 24)).alloc (.cells #[.slice pf M.frames.length cf, .slice pb M.blocks.length cb, .slice pi M.inp.length ci, .slice po M.out.length co, .int .i64 M.status, .int .i64 M.trap] 29) = W1 := ⟨_, rfl⟩
  have b1 : Below w.heap.size w W1 := by rw [← hW1]; exact ((Below.refl _ w).alloc (Nat.le_refl _) _).alloc (by simp) _
  have u1 : W1.heap[w.heap.size]? = some (.cells #[.slice pp p.length qp] 24 (0, 0)) := by rw [← hW1]; exact xakZ (World.alloc_heap_new w _) _
  have u2 : W1.heap[w.heap.size + 1]? = some (.cells #[.slice pf M.frames.length cf, .slice pb M.blocks.length cb, .slice pi M.inp.length ci, .slice po M.out.length co, .int .i64 M.status, .int .i64 M.trap] 29 (0, 0)) := by rw [← hW1]; exact xbaZ _ _ _
  have l1 := xacZ u1
  have l2 := xacZ u2
  have KC : Hid (∀ W, Below W1.heap.size W1 W → W.cell? ⟨w.heap.size, 0, none⟩ = some (.slice pp p.length qp) ∧ W.cell? ⟨w.heap.size + 1, 0, none⟩ = some (.slice pf M.frames.length cf) ∧ W.cell? ⟨w.heap.size + 1, 1, none⟩ = some (.slice pb M.blocks.length cb) ∧ W.cell? ⟨w.heap.size + 1, 2, none⟩ = some (.slice pi M.inp.length ci) ∧ W.cell? ⟨w.heap.size + 1, 3, none⟩ = some (.slice po M.out.length co) ∧ W.cell? ⟨w.heap.size + 1, 4, none⟩ = some (.int .i64 M.status) ∧ W.cell? ⟨w.heap.size + 1, 5, none⟩ = some (.int .i64 M.trap)) := fun W hW => by
    have h1 := (hW.block _ l1).trans u1
    have h2 := (hW.block _ l2).trans u2
    exact ⟨xaaZ h1 0, xaaZ h2 0, xaaZ h2 1, xaaZ h2 2, xaaZ h2 3, xaaZ h2 4, xaaZ h2 5⟩
  have HH := hideP (hCk.below b1)
  have HPC := hideP hpc
  have HB1 := hideP b1
  clear hpf hML hM hCk hpc u1 u2 b1
  go_enter Tryz.func12, Tryz.ntmps12
  have HCOL := hideP (fun (W : World) (hW : Below W1.heap.size W1 W) => xd0Z M p _ _ _ _ _ W (HH.out.below hW) HPC.out)
  have HSTM := hideP (fun (W : World) (hW : Below W1.heap.size W1 W) => xjoZ M p _ _ _ _ _ W (HH.out.below hW) HPC.out)
  have HCKS : Hid (∀ (X : Mach) (fv bv iv ov : Value) (W : World), Below W1.heap.size W1 W → MachAt W fv bv iv ov X → CkAt W p (.slice pp p.length qp) fv bv iv ov X) := fun X fv bv iv ov W hW hX => ⟨(HH.out.below hW).fns, (HH.out.below hW).cap, hX⟩
  go_wp2_with fail
  refine (xhmZ _).mono ?_
  rintro e u2 ⟨rfl, bu2⟩
  have Fu2 := hideP bu2
  clear bu2
  have BBu2 := hideP (xadZ (Below.refl W1.heap.size W1) Fu2.out)
  go_wp2_with fail
  refine (xlsZ _).mono ?_
  rintro e u3 ⟨rfl, bu3⟩
  have Fu3 := hideP bu3
  clear bu3
  have BBu3 := hideP (xadZ BBu2.out Fu3.out)
  obtain ⟨e0, d0, d1, d2, d3, d4, d5⟩ := KC.out u3 BBu3.out
  by_cases hc : xaqZ p M = 0
  rotate_left
  · have hC : CollR p M = zeroM := by unfold CollR; rw [if_neg hc]
    have hG : goneR p M = 0 := by unfold goneR; rw [if_neg hc]
    have hc' : (xaqZ p M != 0) = true := by simpa using hc
    have HC1 := hideP (HCOL.out u3 BBu3.out)
    have HC1 : Hid (Calls Tryz.prog 37 #[.agg #[.slice pp p.length qp], .agg #[.slice pf M.frames.length cf, .slice pb M.blocks.length cb, .slice pi M.inp.length ci, .slice po M.out.length co, .int .i64 M.status, .int .i64 M.trap]] u3 fun e w' => ∃ fv bv iv ov, e = .returned (.tuple #[.agg #[fv, bv, iv, ov, .int .i64 zeroM.status, .int .i64 zeroM.trap], .int .i64 0, .int .i64 (xaqZ p M)]) ∧ MRes w' u3.heap.size fv bv iv ov zeroM ∧ Below u3.heap.size u3 w') := by have h := HC1.out; unfold xemZ at h; rw [hC, hG] at h; exact h
    generalize xaqZ p M = er at *
    clear hc hC hG HCOL HSTM HCKS
    go_wp2_with fail
    refine (HC1.out).mono ?_
    rintro e w3 ⟨nf3, nb3, ni3, no3, rfl, hr3, b3'⟩
    obtain ⟨⟨qf3, kf3, hqf3⟩, ⟨qb3, kb3, hqb3⟩, ⟨qi3, ki3, hqi3⟩, ⟨qo3, ko3, hqo3⟩⟩ := xaxZ hr3
    subst hqf3 hqb3 hqi3 hqo3
    obtain ⟨V3, hV3⟩ : ∃ V3, w3.alloc (.cells #[.slice qf3 zeroM.frames.length kf3, .slice qb3 zeroM.blocks.length kb3, .slice qi3 zeroM.inp.length ki3, .slice qo3 zeroM.out.length ko3, .int .i64 zeroM.status, .int .i64 zeroM.trap] 29) = V3 := ⟨_, rfl⟩
    have c3 : Below w3.heap.size w3 V3 := by rw [← hV3]; exact (Below.refl _ w3).alloc (Nat.le_refl _) _
    have u3 : V3.heap[w3.heap.size]? = some (.cells #[.slice qf3 zeroM.frames.length kf3, .slice qb3 zeroM.blocks.length kb3, .slice qi3 zeroM.inp.length ki3, .slice qo3 zeroM.out.length ko3, .int .i64 zeroM.status, .int .i64 zeroM.trap] 29 (0, 0)) := by rw [← hV3]; exact World.alloc_heap_new w3 _
    have R3 := hideP (hr3.below c3)
    have FV3 := hideP (xadZ b3' c3)
    have K3 : Hid (∀ W, Below V3.heap.size V3 W → W.cell? ⟨w3.heap.size, 0, none⟩ = some (.slice qf3 zeroM.frames.length kf3) ∧ W.cell? ⟨w3.heap.size, 1, none⟩ = some (.slice qb3 zeroM.blocks.length kb3) ∧ W.cell? ⟨w3.heap.size, 2, none⟩ = some (.slice qi3 zeroM.inp.length ki3) ∧ W.cell? ⟨w3.heap.size, 3, none⟩ = some (.slice qo3 zeroM.out.length ko3) ∧ W.cell? ⟨w3.heap.size, 4, none⟩ = some (.int .i64 zeroM.status) ∧ W.cell? ⟨w3.heap.size, 5, none⟩ = some (.int .i64 zeroM.trap)) := fun W hW => by
      have h1 := (hW.block _ (xacZ u3)).trans u3
      exact ⟨xaaZ h1 0, xaaZ h1 1, xaaZ h1 2, xaaZ h1 3, xaaZ h1 4, xaaZ h1 5⟩
    clear u3 hr3 b3' c3
    clear e0 d0 d1 d2 d3 d4 d5 
    have BBV3 := hideP (xadZ BBu3.out FV3.out)
    have RR3V3 := hideP (Below.refl V3.heap.size V3)
    obtain ⟨g0, g1, g2, g3, g4, g5⟩ := K3.out V3 RR3V3.out
    change V3.cell? ⟨w3.heap.size, 0, none⟩ = some (.slice qf3 0 kf3) at g0
    have HFIN := hideP (xadZ HB1.out BBV3.out)
    go_wp2
    go_ret
    exact ⟨by simp, HFIN.out⟩
  obtain ⟨hp, he, hR⟩ := xa1Z.1 hc
  obtain ⟨cc1, cc2, cc3, cc4⟩ := coll_again hc
  obtain ⟨sc1, sc2, sc3⟩ := step_again hc
  obtain ⟨tc1, tc2, tc3⟩ := step_again cc1
  have hsame := xpyZ hp he hR
  have hC : CollR p M = xajZ M := by unfold CollR; rw [if_pos hc]
  obtain ⟨n0, hn0⟩ : ∃ n0, goneR p M = n0 := ⟨_, rfl⟩
  have HCOL0 := hideP (HCOL.out u3 BBu3.out)
  have HSTM0 : Hid (∀ W, Below W1.heap.size W1 W → Calls Tryz.prog 15 #[.agg #[.slice pp p.length qp], .agg #[.slice pf M.frames.length cf, .slice pb M.blocks.length cb, .slice pi M.inp.length ci, .slice po M.out.length co, .int .i64 M.status, .int .i64 M.trap]] W (MRet (stepM p M) 0 W)) := fun W hW => by have h := HSTM.out W hW; rw [hc, if_pos rfl] at h; exact h
  have q100 : (xajZ M).inp.length ≤ 100 := few_in cc1
  have x100 : (stepM p M).inp.length ≤ 100 := few_in sc1
  have y100 : (stepM p (xajZ M)).inp.length ≤ 100 := few_in tc1
  have HCOLC : Hid (∀ fv bv iv ov W, Below W1.heap.size W1 W → MachAt W fv bv iv ov (xajZ M) → Calls Tryz.prog 37 #[.agg #[.slice pp p.length qp], .agg #[fv, bv, iv, ov, .int .i64 (xajZ M).status, .int .i64 (xajZ M).trap]] W fun e w' => ∃ fv bv iv ov, e = .returned (.tuple #[.agg #[fv, bv, iv, ov, .int .i64 (xajZ M).status, .int .i64 (xajZ M).trap], .int .i64 0, .int .i64 0]) ∧ MRes w' W.heap.size fv bv iv ov (xajZ M) ∧ Below W.heap.size W w') := fun fv bv iv ov W hW hX => by
    have h := xd0Z (xajZ M) p _ _ _ _ _ W (HCKS.out _ _ _ _ _ W hW hX) cc4
    unfold xemZ at h
    rw [cc2, cc3, cc1] at h
    exact h
  have HCHKC : Hid (∀ fv bv iv ov W, Below W1.heap.size W1 W → MachAt W fv bv iv ov (xajZ M) → Calls Tryz.prog 21 #[.agg #[.slice pp p.length qp], .agg #[fv, bv, iv, ov, .int .i64 (xajZ M).status, .int .i64 (xajZ M).trap]] W fun e w' => e = .returned (.int .i64 0) ∧ Below W.heap.size W w') := fun fv bv iv ov W hW hX => by
    have h := xgcZ (xajZ M) p _ _ _ _ _ W (HCKS.out _ _ _ _ _ W hW hX) cc4
    rw [cc1] at h
    exact h
  have HSTC : Hid (∀ fv bv iv ov W, Below W1.heap.size W1 W → MachAt W fv bv iv ov (xajZ M) → Calls Tryz.prog 15 #[.agg #[.slice pp p.length qp], .agg #[fv, bv, iv, ov, .int .i64 (xajZ M).status, .int .i64 (xajZ M).trap]] W (MRet (stepM p (xajZ M)) 0 W)) := fun fv bv iv ov W hW hX => by
    have h := xjoZ (xajZ M) p _ _ _ _ _ W (HCKS.out _ _ _ _ _ W hW hX) cc4
    rw [cc1, if_pos rfl] at h
    exact h
  have HCOLX : Hid (∀ fv bv iv ov W, Below W1.heap.size W1 W → MachAt W fv bv iv ov (stepM p M) → Calls Tryz.prog 37 #[.agg #[.slice pp p.length qp], .agg #[fv, bv, iv, ov, .int .i64 (stepM p M).status, .int .i64 (stepM p M).trap]] W fun e w' => ∃ fv bv iv ov, e = .returned (.tuple #[.agg #[fv, bv, iv, ov, .int .i64 (xajZ (stepM p M)).status, .int .i64 (xajZ (stepM p M)).trap], .int .i64 (goneR p (stepM p M)), .int .i64 0]) ∧ MRes w' W.heap.size fv bv iv ov (xajZ (stepM p M)) ∧ Below W.heap.size W w') := fun fv bv iv ov W hW hX => by
    have h := xd0Z (stepM p M) p _ _ _ _ _ W (HCKS.out _ _ _ _ _ W hW hX) sc3
    unfold xemZ at h
    rw [sc2, sc1] at h
    exact h
  have HCOLY : Hid (∀ fv bv iv ov W, Below W1.heap.size W1 W → MachAt W fv bv iv ov (stepM p (xajZ M)) → Calls Tryz.prog 37 #[.agg #[.slice pp p.length qp], .agg #[fv, bv, iv, ov, .int .i64 (stepM p (xajZ M)).status, .int .i64 (stepM p (xajZ M)).trap]] W fun e w' => ∃ fv bv iv ov, e = .returned (.tuple #[.agg #[fv, bv, iv, ov, .int .i64 (xajZ (stepM p (xajZ M))).status, .int .i64 (xajZ (stepM p (xajZ M))).trap], .int .i64 (goneR p (stepM p (xajZ M))), .int .i64 0]) ∧ MRes w' W.heap.size fv bv iv ov (xajZ (stepM p (xajZ M))) ∧ Below W.heap.size W w') := fun fv bv iv ov W hW hX => by
    have h := xd0Z (stepM p (xajZ M)) p _ _ _ _ _ W (HCKS.out _ _ _ _ _ W hW hX) tc3
    unfold xemZ at h
    rw [tc2, tc1] at h
    exact h
  have HCOLM : Hid (Calls Tryz.prog 37 #[.agg #[.slice pp p.length qp], .agg #[.slice pf M.frames.length cf, .slice pb M.blocks.length cb, .slice pi M.inp.length ci, .slice po M.out.length co, .int .i64 M.status, .int .i64 M.trap]] u3 fun e w' => ∃ fv bv iv ov, e = .returned (.tuple #[.agg #[fv, bv, iv, ov, .int .i64 (xajZ M).status, .int .i64 (xajZ M).trap], .int .i64 n0, .int .i64 0]) ∧ MRes w' u3.heap.size fv bv iv ov (xajZ M) ∧ Below u3.heap.size u3 w') := by
    have h := HCOL0.out
    unfold xemZ at h
    rw [hC, hn0, hc] at h
    exact h
  generalize goneR p (stepM p M) = n1 at *
  generalize goneR p (stepM p (xajZ M)) = n2 at *
  have HSAME := hideP hsame
  have HAB : Hid ((xajZ (stepM p M)).inp.length ≤ 100 ∧ (xajZ (stepM p (xajZ M))).inp.length ≤ 100) := ⟨x100, y100⟩
  generalize hC9 : xajZ M = C at *
  generalize hX9 : stepM p M = X at *
  generalize hY9 : stepM p C = Y at *
  generalize hA9 : xajZ X = A at *
  generalize hB9 : xajZ Y = Bm at *
  clear hp he hR cc1 cc2 cc3 cc4 sc1 sc2 sc3 tc1 tc2 tc3 hsame hC hn0 hc HCOL HCOL0 HSTM hC9 hX9 hY9 hA9 hB9
  go_wp2_with fail
  refine (HCOLM.out).mono ?_
  rintro e w3 ⟨nf3, nb3, ni3, no3, rfl, hr3, b3'⟩
  obtain ⟨⟨qf3, kf3, hqf3⟩, ⟨qb3, kb3, hqb3⟩, ⟨qi3, ki3, hqi3⟩, ⟨qo3, ko3, hqo3⟩⟩ := xaxZ hr3
  subst hqf3 hqb3 hqi3 hqo3
  obtain ⟨V3, hV3⟩ : ∃ V3, w3.alloc (.cells #[.slice qf3 C.frames.length kf3, .slice qb3 C.blocks.length kb3, .slice qi3 C.inp.length ki3, .slice qo3 C.out.length ko3, .int .i64 C.status, .int .i64 C.trap] 29) = V3 := ⟨_, rfl⟩
  have c3 : Below w3.heap.size w3 V3 := by rw [← hV3]; exact (Below.refl _ w3).alloc (Nat.le_refl _) _
  have u3 : V3.heap[w3.heap.size]? = some (.cells #[.slice qf3 C.frames.length kf3, .slice qb3 C.blocks.length kb3, .slice qi3 C.inp.length ki3, .slice qo3 C.out.length ko3, .int .i64 C.status, .int .i64 C.trap] 29 (0, 0)) := by rw [← hV3]; exact World.alloc_heap_new w3 _
  have R3 := hideP (hr3.below c3)
  have FV3 := hideP (xadZ b3' c3)
  have K3 : Hid (∀ W, Below V3.heap.size V3 W → W.cell? ⟨w3.heap.size, 0, none⟩ = some (.slice qf3 C.frames.length kf3) ∧ W.cell? ⟨w3.heap.size, 1, none⟩ = some (.slice qb3 C.blocks.length kb3) ∧ W.cell? ⟨w3.heap.size, 2, none⟩ = some (.slice qi3 C.inp.length ki3) ∧ W.cell? ⟨w3.heap.size, 3, none⟩ = some (.slice qo3 C.out.length ko3) ∧ W.cell? ⟨w3.heap.size, 4, none⟩ = some (.int .i64 C.status) ∧ W.cell? ⟨w3.heap.size, 5, none⟩ = some (.int .i64 C.trap)) := fun W hW => by
    have h1 := (hW.block _ (xacZ u3)).trans u3
    exact ⟨xaaZ h1 0, xaaZ h1 1, xaaZ h1 2, xaaZ h1 3, xaaZ h1 4, xaaZ h1 5⟩
  clear u3 hr3 b3' c3
  clear e0 d0 d1 d2 d3 d4 d5 
  have BBV3 := hideP (xadZ BBu3.out FV3.out)
  have RR3V3 := hideP (Below.refl V3.heap.size V3)
  obtain ⟨e0, d0, d1, d2, d3, d4, d5⟩ := KC.out V3 BBV3.out
  obtain ⟨g0, g1, g2, g3, g4, g5⟩ := K3.out V3 RR3V3.out
  have HA3 := hideP (R3.out.at_ q100)
  go_wp2_with fail
  refine (HCOLC.out _ _ _ _ V3 BBV3.out HA3.out).mono ?_
  rintro e w4 ⟨nf4, nb4, ni4, no4, rfl, hr4, b4'⟩
  obtain ⟨⟨qf4, kf4, hqf4⟩, ⟨qb4, kb4, hqb4⟩, ⟨qi4, ki4, hqi4⟩, ⟨qo4, ko4, hqo4⟩⟩ := xaxZ hr4
  subst hqf4 hqb4 hqi4 hqo4
  obtain ⟨V4, hV4⟩ : ∃ V4, w4.alloc (.cells #[.slice qf4 C.frames.length kf4, .slice qb4 C.blocks.length kb4, .slice qi4 C.inp.length ki4, .slice qo4 C.out.length ko4, .int .i64 C.status, .int .i64 C.trap] 29) = V4 := ⟨_, rfl⟩
  have c4 : Below w4.heap.size w4 V4 := by rw [← hV4]; exact (Below.refl _ w4).alloc (Nat.le_refl _) _
  have u4 : V4.heap[w4.heap.size]? = some (.cells #[.slice qf4 C.frames.length kf4, .slice qb4 C.blocks.length kb4, .slice qi4 C.inp.length ki4, .slice qo4 C.out.length ko4, .int .i64 C.status, .int .i64 C.trap] 29 (0, 0)) := by rw [← hV4]; exact World.alloc_heap_new w4 _
  have R4 := hideP (hr4.below c4)
  have FV4 := hideP (xadZ b4' c4)
  have K4 : Hid (∀ W, Below V4.heap.size V4 W → W.cell? ⟨w4.heap.size, 0, none⟩ = some (.slice qf4 C.frames.length kf4) ∧ W.cell? ⟨w4.heap.size, 1, none⟩ = some (.slice qb4 C.blocks.length kb4) ∧ W.cell? ⟨w4.heap.size, 2, none⟩ = some (.slice qi4 C.inp.length ki4) ∧ W.cell? ⟨w4.heap.size, 3, none⟩ = some (.slice qo4 C.out.length ko4) ∧ W.cell? ⟨w4.heap.size, 4, none⟩ = some (.int .i64 C.status) ∧ W.cell? ⟨w4.heap.size, 5, none⟩ = some (.int .i64 C.trap)) := fun W hW => by
    have h1 := (hW.block _ (xacZ u4)).trans u4
    exact ⟨xaaZ h1 0, xaaZ h1 1, xaaZ h1 2, xaaZ h1 3, xaaZ h1 4, xaaZ h1 5⟩
  clear u4 hr4 b4' c4
  clear e0 d0 d1 d2 d3 d4 d5 g0 g1 g2 g3 g4 g5 
  have BBV4 := hideP (xadZ BBV3.out FV4.out)
  have RR3V4 := hideP (xadZ RR3V3.out FV4.out)
  have RR4V4 := hideP (Below.refl V4.heap.size V4)
  obtain ⟨e0, d0, d1, d2, d3, d4, d5⟩ := KC.out V4 BBV4.out
  obtain ⟨g0, g1, g2, g3, g4, g5⟩ := K3.out V4 RR3V4.out
  obtain ⟨h0, h1, h2, h3, h4, h5⟩ := K4.out V4 RR4V4.out
  have HA4 := hideP (R4.out.at_ q100)
  have HS34 : Hid (Calls Tryz.prog 24 #[.agg #[.slice qf3 C.frames.length kf3, .slice qb3 C.blocks.length kb3, .slice qi3 C.inp.length ki3, .slice qo3 C.out.length ko3, .int .i64 C.status, .int .i64 C.trap], .agg #[.slice qf4 C.frames.length kf4, .slice qb4 C.blocks.length kb4, .slice qi4 C.inp.length ki4, .slice qo4 C.out.length ko4, .int .i64 C.status, .int .i64 C.trap]] V4 fun e w' => e = .returned (.bool true) ∧ Below V4.heap.size V4 w') := (xhxZ C C _ _ _ _ _ _ _ _ _ (HA3.out.below RR3V4.out) HA4.out).mono fun e w' ⟨r, z1, z2, z3⟩ => ⟨by rw [z1, z2.2 rfl], z3⟩
  go_wp2_with fail
  refine (HS34.out).mono ?_
  rintro e u4 ⟨rfl, bu4⟩
  have Fu4 := hideP bu4
  clear bu4
  clear e0 d0 d1 d2 d3 d4 d5 g0 g1 g2 g3 g4 g5 h0 h1 h2 h3 h4 h5 
  have BBu4 := hideP (xadZ BBV4.out Fu4.out)
  have RR3u4 := hideP (xadZ RR3V4.out Fu4.out)
  have RR4u4 := hideP (xadZ RR4V4.out Fu4.out)
  obtain ⟨e0, d0, d1, d2, d3, d4, d5⟩ := KC.out u4 BBu4.out
  obtain ⟨g0, g1, g2, g3, g4, g5⟩ := K3.out u4 RR3u4.out
  go_wp2_with fail
  refine (HCHKC.out _ _ _ _ u4 BBu4.out (HA3.out.below RR3u4.out)).mono ?_
  rintro e u5 ⟨rfl, bu5⟩
  have Fu5 := hideP bu5
  clear bu5
  clear e0 d0 d1 d2 d3 d4 d5 g0 g1 g2 g3 g4 g5 
  have BBu5 := hideP (xadZ BBu4.out Fu5.out)
  have RR3u5 := hideP (xadZ RR3u4.out Fu5.out)
  have RR4u5 := hideP (xadZ RR4u4.out Fu5.out)
  obtain ⟨e0, d0, d1, d2, d3, d4, d5⟩ := KC.out u5 BBu5.out
  go_wp2_with fail
  refine (HSTM0.out u5 BBu5.out).mono ?_
  rintro e w7 ⟨nf7, nb7, ni7, no7, rfl, hr7, b7'⟩
  obtain ⟨⟨qf7, kf7, hqf7⟩, ⟨qb7, kb7, hqb7⟩, ⟨qi7, ki7, hqi7⟩, ⟨qo7, ko7, hqo7⟩⟩ := xaxZ hr7
  subst hqf7 hqb7 hqi7 hqo7
  obtain ⟨V7, hV7⟩ : ∃ V7, w7.alloc (.cells #[.slice qf7 X.frames.length kf7, .slice qb7 X.blocks.length kb7, .slice qi7 X.inp.length ki7, .slice qo7 X.out.length ko7, .int .i64 X.status, .int .i64 X.trap] 29) = V7 := ⟨_, rfl⟩
  have c7 : Below w7.heap.size w7 V7 := by rw [← hV7]; exact (Below.refl _ w7).alloc (Nat.le_refl _) _
  have u7 : V7.heap[w7.heap.size]? = some (.cells #[.slice qf7 X.frames.length kf7, .slice qb7 X.blocks.length kb7, .slice qi7 X.inp.length ki7, .slice qo7 X.out.length ko7, .int .i64 X.status, .int .i64 X.trap] 29 (0, 0)) := by rw [← hV7]; exact World.alloc_heap_new w7 _
  have R7 := hideP (hr7.below c7)
  have FV7 := hideP (xadZ b7' c7)
  have K7 : Hid (∀ W, Below V7.heap.size V7 W → W.cell? ⟨w7.heap.size, 0, none⟩ = some (.slice qf7 X.frames.length kf7) ∧ W.cell? ⟨w7.heap.size, 1, none⟩ = some (.slice qb7 X.blocks.length kb7) ∧ W.cell? ⟨w7.heap.size, 2, none⟩ = some (.slice qi7 X.inp.length ki7) ∧ W.cell? ⟨w7.heap.size, 3, none⟩ = some (.slice qo7 X.out.length ko7) ∧ W.cell? ⟨w7.heap.size, 4, none⟩ = some (.int .i64 X.status) ∧ W.cell? ⟨w7.heap.size, 5, none⟩ = some (.int .i64 X.trap)) := fun W hW => by
    have h1 := (hW.block _ (xacZ u7)).trans u7
    exact ⟨xaaZ h1 0, xaaZ h1 1, xaaZ h1 2, xaaZ h1 3, xaaZ h1 4, xaaZ h1 5⟩
  clear u7 hr7 b7' c7
  clear e0 d0 d1 d2 d3 d4 d5 
  have BBV7 := hideP (xadZ BBu5.out FV7.out)
  have RR3V7 := hideP (xadZ RR3u5.out FV7.out)
  have RR4V7 := hideP (xadZ RR4u5.out FV7.out)
  have RR7V7 := hideP (Below.refl V7.heap.size V7)
  have HA7 := hideP (R7.out.at_ x100)
  obtain ⟨e0, d0, d1, d2, d3, d4, d5⟩ := KC.out V7 BBV7.out
  obtain ⟨g0, g1, g2, g3, g4, g5⟩ := K3.out V7 RR3V7.out
  go_wp2_with fail
  refine (HSTC.out _ _ _ _ V7 BBV7.out (HA3.out.below RR3V7.out)).mono ?_
  rintro e w8 ⟨nf8, nb8, ni8, no8, rfl, hr8, b8'⟩
  obtain ⟨⟨qf8, kf8, hqf8⟩, ⟨qb8, kb8, hqb8⟩, ⟨qi8, ki8, hqi8⟩, ⟨qo8, ko8, hqo8⟩⟩ := xaxZ hr8
  subst hqf8 hqb8 hqi8 hqo8
  obtain ⟨V8, hV8⟩ : ∃ V8, w8.alloc (.cells #[.slice qf8 Y.frames.length kf8, .slice qb8 Y.blocks.length kb8, .slice qi8 Y.inp.length ki8, .slice qo8 Y.out.length ko8, .int .i64 Y.status, .int .i64 Y.trap] 29) = V8 := ⟨_, rfl⟩
  have c8 : Below w8.heap.size w8 V8 := by rw [← hV8]; exact (Below.refl _ w8).alloc (Nat.le_refl _) _
  have u8 : V8.heap[w8.heap.size]? = some (.cells #[.slice qf8 Y.frames.length kf8, .slice qb8 Y.blocks.length kb8, .slice qi8 Y.inp.length ki8, .slice qo8 Y.out.length ko8, .int .i64 Y.status, .int .i64 Y.trap] 29 (0, 0)) := by rw [← hV8]; exact World.alloc_heap_new w8 _
  have R8 := hideP (hr8.below c8)
  have FV8 := hideP (xadZ b8' c8)
  have K8 : Hid (∀ W, Below V8.heap.size V8 W → W.cell? ⟨w8.heap.size, 0, none⟩ = some (.slice qf8 Y.frames.length kf8) ∧ W.cell? ⟨w8.heap.size, 1, none⟩ = some (.slice qb8 Y.blocks.length kb8) ∧ W.cell? ⟨w8.heap.size, 2, none⟩ = some (.slice qi8 Y.inp.length ki8) ∧ W.cell? ⟨w8.heap.size, 3, none⟩ = some (.slice qo8 Y.out.length ko8) ∧ W.cell? ⟨w8.heap.size, 4, none⟩ = some (.int .i64 Y.status) ∧ W.cell? ⟨w8.heap.size, 5, none⟩ = some (.int .i64 Y.trap)) := fun W hW => by
    have h1 := (hW.block _ (xacZ u8)).trans u8
    exact ⟨xaaZ h1 0, xaaZ h1 1, xaaZ h1 2, xaaZ h1 3, xaaZ h1 4, xaaZ h1 5⟩
  clear u8 hr8 b8' c8
  clear e0 d0 d1 d2 d3 d4 d5 g0 g1 g2 g3 g4 g5 
  have BBV8 := hideP (xadZ BBV7.out FV8.out)
  have RR3V8 := hideP (xadZ RR3V7.out FV8.out)
  have RR4V8 := hideP (xadZ RR4V7.out FV8.out)
  have RR7V8 := hideP (xadZ RR7V7.out FV8.out)
  have RR8V8 := hideP (Below.refl V8.heap.size V8)
  have HA8 := hideP (R8.out.at_ y100)
  obtain ⟨e0, d0, d1, d2, d3, d4, d5⟩ := KC.out V8 BBV8.out
  obtain ⟨x0, x1, x2, x3, x4, x5⟩ := K7.out V8 RR7V8.out
  obtain ⟨y0, y1, y2, y3, y4, y5⟩ := K8.out V8 RR8V8.out
  have HFIN := hideP (xadZ HB1.out BBV8.out)
  by_cases ht : xliZ M X
  · have hy := HSAME.out.1 ht
    have t1 : (M.status == 0) = true := by simpa using ht.1
    have t2 : (X.status == 3) = true := by simpa using ht.2.1
    have t3 : (X.trap == 3) = true := by simpa using ht.2.2
    by_cases hy0 : Y.status = 0
    · have t4 : (Y.status == 0) = true := by simpa using hy0
      clear ht hy hy0 HSAME
      go_wp2
      go_ret
      exact ⟨rfl, HFIN.out⟩
    · have t4 : (Y.status == 0) = false := by simpa using hy0
      have t5 : (Y.trap == 3) = true := by simpa using hy.resolve_left hy0
      clear ht hy hy0 HSAME
      go_wp2
      go_ret
      exact ⟨rfl, HFIN.out⟩
  have HABE : Hid (A = Bm) := HSAME.out.2 ht
  have HG : Hid (((M.status == 0) = false) ∨ ((M.status == 0) = true ∧ (X.status == 3) = false) ∨ ((M.status == 0) = true ∧ (X.status == 3) = true ∧ (X.trap == 3) = false)) := by
    by_cases h1 : M.status = 0
    · by_cases h2 : X.status = 3
      · by_cases h3 : X.trap = 3
        · exact absurd ⟨h1, h2, h3⟩ ht
        · exact .inr (.inr ⟨by simpa using h1, by simpa using h2, by simpa using h3⟩)
      · exact .inr (.inl ⟨by simpa using h1, by simpa using h2⟩)
    · exact .inl (by simpa using h1)
  clear ht HSAME
  rcases HG.out with t1 | ⟨t1, t2⟩ | ⟨t1, t2, t3⟩
  all_goals
    go_wp2_with fail
    refine (HCOLX.out _ _ _ _ V8 BBV8.out (HA7.out.below RR7V8.out)).mono ?_
    rintro e w9 ⟨nf9, nb9, ni9, no9, rfl, hr9, b9'⟩
    obtain ⟨⟨qf9, kf9, hqf9⟩, ⟨qb9, kb9, hqb9⟩, ⟨qi9, ki9, hqi9⟩, ⟨qo9, ko9, hqo9⟩⟩ := xaxZ hr9
    subst hqf9 hqb9 hqi9 hqo9
    obtain ⟨V9, hV9⟩ : ∃ V9, w9.alloc (.cells #[.slice qf9 A.frames.length kf9, .slice qb9 A.blocks.length kb9, .slice qi9 A.inp.length ki9, .slice qo9 A.out.length ko9, .int .i64 A.status, .int .i64 A.trap] 29) = V9 := ⟨_, rfl⟩
    have c9 : Below w9.heap.size w9 V9 := by rw [← hV9]; exact (Below.refl _ w9).alloc (Nat.le_refl _) _
    have u9 : V9.heap[w9.heap.size]? = some (.cells #[.slice qf9 A.frames.length kf9, .slice qb9 A.blocks.length kb9, .slice qi9 A.inp.length ki9, .slice qo9 A.out.length ko9, .int .i64 A.status, .int .i64 A.trap] 29 (0, 0)) := by rw [← hV9]; exact World.alloc_heap_new w9 _
    have R9 := hideP (hr9.below c9)
    have FV9 := hideP (xadZ b9' c9)
    have K9 : Hid (∀ W, Below V9.heap.size V9 W → W.cell? ⟨w9.heap.size, 0, none⟩ = some (.slice qf9 A.frames.length kf9) ∧ W.cell? ⟨w9.heap.size, 1, none⟩ = some (.slice qb9 A.blocks.length kb9) ∧ W.cell? ⟨w9.heap.size, 2, none⟩ = some (.slice qi9 A.inp.length ki9) ∧ W.cell? ⟨w9.heap.size, 3, none⟩ = some (.slice qo9 A.out.length ko9) ∧ W.cell? ⟨w9.heap.size, 4, none⟩ = some (.int .i64 A.status) ∧ W.cell? ⟨w9.heap.size, 5, none⟩ = some (.int .i64 A.trap)) := fun W hW => by
      have h1 := (hW.block _ (xacZ u9)).trans u9
      exact ⟨xaaZ h1 0, xaaZ h1 1, xaaZ h1 2, xaaZ h1 3, xaaZ h1 4, xaaZ h1 5⟩
    clear u9 hr9 b9' c9
    clear e0 d0 d1 d2 d3 d4 d5 x0 x1 x2 x3 x4 x5 y0 y1 y2 y3 y4 y5 
    have BBV9 := hideP (xadZ BBV8.out FV9.out)
    have RR3V9 := hideP (xadZ RR3V8.out FV9.out)
    have RR4V9 := hideP (xadZ RR4V8.out FV9.out)
    have RR7V9 := hideP (xadZ RR7V8.out FV9.out)
    have RR8V9 := hideP (xadZ RR8V8.out FV9.out)
    have RR9V9 := hideP (Below.refl V9.heap.size V9)
    obtain ⟨e0, d0, d1, d2, d3, d4, d5⟩ := KC.out V9 BBV9.out
    obtain ⟨y0, y1, y2, y3, y4, y5⟩ := K8.out V9 RR8V9.out
    go_wp2_with fail
    refine (HCOLY.out _ _ _ _ V9 BBV9.out (HA8.out.below RR8V9.out)).mono ?_
    rintro e w10 ⟨nf10, nb10, ni10, no10, rfl, hr10, b10'⟩
    obtain ⟨⟨qf10, kf10, hqf10⟩, ⟨qb10, kb10, hqb10⟩, ⟨qi10, ki10, hqi10⟩, ⟨qo10, ko10, hqo10⟩⟩ := xaxZ hr10
    subst hqf10 hqb10 hqi10 hqo10
    obtain ⟨V10, hV10⟩ : ∃ V10, w10.alloc (.cells #[.slice qf10 Bm.frames.length kf10, .slice qb10 Bm.blocks.length kb10, .slice qi10 Bm.inp.length ki10, .slice qo10 Bm.out.length ko10, .int .i64 Bm.status, .int .i64 Bm.trap] 29) = V10 := ⟨_, rfl⟩
    have c10 : Below w10.heap.size w10 V10 := by rw [← hV10]; exact (Below.refl _ w10).alloc (Nat.le_refl _) _
    have u10 : V10.heap[w10.heap.size]? = some (.cells #[.slice qf10 Bm.frames.length kf10, .slice qb10 Bm.blocks.length kb10, .slice qi10 Bm.inp.length ki10, .slice qo10 Bm.out.length ko10, .int .i64 Bm.status, .int .i64 Bm.trap] 29 (0, 0)) := by rw [← hV10]; exact World.alloc_heap_new w10 _
    have R10 := hideP (hr10.below c10)
    have FV10 := hideP (xadZ b10' c10)
    have K10 : Hid (∀ W, Below V10.heap.size V10 W → W.cell? ⟨w10.heap.size, 0, none⟩ = some (.slice qf10 Bm.frames.length kf10) ∧ W.cell? ⟨w10.heap.size, 1, none⟩ = some (.slice qb10 Bm.blocks.length kb10) ∧ W.cell? ⟨w10.heap.size, 2, none⟩ = some (.slice qi10 Bm.inp.length ki10) ∧ W.cell? ⟨w10.heap.size, 3, none⟩ = some (.slice qo10 Bm.out.length ko10) ∧ W.cell? ⟨w10.heap.size, 4, none⟩ = some (.int .i64 Bm.status) ∧ W.cell? ⟨w10.heap.size, 5, none⟩ = some (.int .i64 Bm.trap)) := fun W hW => by
      have h1 := (hW.block _ (xacZ u10)).trans u10
      exact ⟨xaaZ h1 0, xaaZ h1 1, xaaZ h1 2, xaaZ h1 3, xaaZ h1 4, xaaZ h1 5⟩
    clear u10 hr10 b10' c10
    clear e0 d0 d1 d2 d3 d4 d5 y0 y1 y2 y3 y4 y5 
    have BBV10 := hideP (xadZ BBV9.out FV10.out)
    have RR3V10 := hideP (xadZ RR3V9.out FV10.out)
    have RR4V10 := hideP (xadZ RR4V9.out FV10.out)
    have RR7V10 := hideP (xadZ RR7V9.out FV10.out)
    have RR8V10 := hideP (xadZ RR8V9.out FV10.out)
    have RR9V10 := hideP (xadZ RR9V9.out FV10.out)
    have RR10V10 := hideP (Below.refl V10.heap.size V10)
    obtain ⟨g0, g1, g2, g3, g4, g5⟩ := K9.out V10 RR9V10.out
    obtain ⟨h0, h1, h2, h3, h4, h5⟩ := K10.out V10 RR10V10.out
    have HS9 : Hid (Calls Tryz.prog 24 #[.agg #[.slice qf9 A.frames.length kf9, .slice qb9 A.blocks.length kb9, .slice qi9 A.inp.length ki9, .slice qo9 A.out.length ko9, .int .i64 A.status, .int .i64 A.trap], .agg #[.slice qf10 Bm.frames.length kf10, .slice qb10 Bm.blocks.length kb10, .slice qi10 Bm.inp.length ki10, .slice qo10 Bm.out.length ko10, .int .i64 Bm.status, .int .i64 Bm.trap]] V10 fun e w' => e = .returned (.bool true) ∧ Below V10.heap.size V10 w') := (xhxZ A Bm _ _ _ _ _ _ _ _ _ ((R9.out.at_ HAB.out.1).below RR9V10.out) (R10.out.at_ HAB.out.2)).mono fun e w' ⟨r, z1, z2, z3⟩ => ⟨by rw [z1, z2.2 HABE.out], z3⟩
    have HFIN2 := hideP (xadZ HB1.out BBV10.out)
    go_wp2_with fail
    refine HS9.out.mono ?_
    rintro e wz ⟨rfl, bz⟩
    go_wp2
    go_ret
    exact ⟨rfl, xadZ HFIN2.out bz⟩
theorem lifted (os : Os) (started : os.Started) (H : Type) (enc : TypeId × Value → H) :
    ReturnsInHanded {} Tryz.checked os 12 .any (Rows.collectSameSpec.pre6 enc Tryz.prog Tryz.f12 Rows.collectSameRow.domain false) (Rows.collectSameSpec.post enc Tryz.prog Tryz.f12 false true false false) := by
  refine returnsInHanded_of_change_sized (C := Tryz.checked) own started (by kernel_rfl) Tryz.func12
    (ChangeSpec.witness6 (enc := enc) (C := Tryz.checked) false ⟨#[], #[.agg #[.slice none 0 0], .agg #[.slice none 0 0, .slice none 0 0, .slice none 0 0, .slice none 0 0, .int .i64 0, .int .i64 0]], []⟩ 8 (by kernel_rfl) (by kernel_rfl) (by kernel_rfl) (by kernel_rfl)) ?_
  intro W base args ds gs before hval0 hW hcnd hsz0 hholds
  have hval : ∀ (j : Nat) t v, Tryz.f12.params[j]? = some t → args[j]? = some v → Value.okWide Tryz.prog W .any base t v := hval0
  have hsz : (DataW.weightsEach Tryz.prog (Tryz.f12.params.toList ++ Rows.collectSameSpec.plain.varTypes Tryz.prog) (ds ++ gs)).all (· ≤ reachBytes) = true := hsz0
  have hW' := hW
  obtain ⟨p, q, hA0, hV, rfl, hfz, hnd⟩ := hW
  have hA : DataW.TrodAll enc Tryz.prog W 0 (fun _ => true) true Tryz.f12.params.toList args.toList ds p := hA0
  rw [Tryz.params12] at hA hval hsz
  obtain ⟨v0, vs0, d0, ds0, p0, q0, hargs, rfl, rfl, h0, r0⟩ := trodAll_cons hA
  obtain ⟨v1, vs1, d1, ds1, p1, q1, rfl, rfl, rfl, h1, r1⟩ := trodAll_cons r0
  obtain ⟨rfl, rfl, rfl⟩ := trodAll_nil r1
  obtain rfl : args = #[v0, v1] := by cases args; simp_all
  obtain ⟨rfl, rfl⟩ := trodVars_none hV
  have k0 := h0
  have k1 := h1
  have lt0 : ∀ x ∈ p0, x.block < W.heap.size := by obtain ⟨m, hm⟩ := k0; exact DataW.trod_lt m _ _ _ hm
  have lt1 : ∀ x ∈ p1, x.block < W.heap.size := by obtain ⟨m, hm⟩ := k1; exact DataW.trod_lt m _ _ _ hm
  have hw0 : ∀ n ∈ d0.weights Tryz.prog 24, n ≤ reachBytes := fun n hn => by have := List.all_eq_true.1 hsz n (DataW.weights_mem_each (j := 0) rfl rfl n hn); simpa using this
  obtain ⟨c0, l0, rfl, hl0⟩ := xmfZ (hval 0 24 v0 rfl rfl) h0 hw0
  have hw1 : ∀ n ∈ d1.weights Tryz.prog 29, n ≤ reachBytes := fun n hn => by have := List.all_eq_true.1 hsz n (DataW.weights_mem_each (j := 1) rfl rfl n hn); simpa using this
  obtain ⟨e10, e11, e12, e13, M1, rfl, hM1, hL1⟩ := xmlZ (hval 1 29 v1 rfl rfl) h1 hw1
  clear hA0 hval0 hsz0
  refine (walk W l0 c0 hl0 M1 e10 e11 e12 e13 hM1 hL1).mono fun e W' ⟨he, bel⟩ => ?_
  subst he
  exact ⟨_, rfl, _, _, _, [], _, [], hW', trodAll_mk1 (shut_bool Tryz.underlying4 _), (trodAll_cons_mk (Below.trod laidOut (by kernel_rfl) (of_decide_eq_true (by kernel_rfl)) k0 bel lt0) (trodAll_cons_mk (Below.trod laidOut (by kernel_rfl) (of_decide_eq_true (by kernel_rfl)) k1 bel lt1) trodAll_mk0)), rfl, bel.frame _, fun h => by cases h⟩
theorem over : Rows.collectSameRow.holds Tryz.pinned (OpenSpec.ofChange Rows.collectSameSpec) :=
  OpenClaim.holds_of_wide 12 Tryz.f12 rfl rfl rfl rfl rfl rfl rfl ⟨rfl, rfl, rfl, rfl, rfl⟩ rfl rfl rfl rfl rfl (by kernel_rfl) Tryz.func12 (by kernel_rfl)
    (of_decide_eq_true (by kernel_rfl)) (by unfold Func.isWrapper; first | (rw [if_pos (by decide +kernel)]; kernel_rfl) | (rw [if_neg (by decide +kernel)]; exact ⟨rfl, rfl⟩))
    (fun os started H enc _ => lifted os started H enc)
end Go.Proofs.YtcadpoknolefpaaGreat.collectSame
namespace Go.Proofs.YtcadpoknolefpaaGreat
/-- For every input the law CollectSame returns true, and the arguments read as they did. -/
theorem collectSame_holds : Rows.CollectSameSaid := collectSame.over
end Go.Proofs.YtcadpoknolefpaaGreat

