/- IT SENDS AND ENDS THE SAME, however far it runs, if there is room: for every program and machine and number CollectRuns returns true. No condition. -/
import Derived.Test.YtcadpoknolefpaaGreatF28
import Derived.Test.YtcadpoknolefpaaGreatF27
import Derived.Test.YtcadpoknolefpaaGreatF22
import Derived.Test.YtcadpoknolefpaaGreatF24
import Derived.Test.YtcadpoknolefpaaGreatF6
import Derived.Test.YtcadpoknolefpaaGreatF16
set_option maxRecDepth 100000
set_option maxHeartbeats 8000000
namespace Go.Proofs.YtcadpoknolefpaaGreat.collectRuns
open Go.ChangeShapes Go.WideShapes Go.ChangeAt Go.RowKit
set_option linter.unusedVariables false
set_option linter.unusedSimpArgs false
theorem own : ownKnob Tryz.prog.godebug = none := by kernel_rfl
theorem laidOut : laidOutB Tryz.prog = true := by kernel_rfl
theorem coll_again {p : List Fn} {M : Mach} (h : xaqZ p M = 0) : xaqZ p (xajZ M) = 0 ∧ CollR p (xajZ M) = xajZ M ∧ goneR p (xajZ M) = 0 ∧ PcOk (xajZ M) := by
  obtain ⟨hp, he, hR⟩ := xa1Z.1 h
  have hR2 : RightM p (entP p) (xajZ M) := xflZ _ hR
  have h2 : xaqZ p (xajZ M) = 0 := xa1Z.2 ⟨hp, he, hR2⟩
  have h3 := xjlZ (xfbZ hR)
  refine ⟨h2, ?_, ?_, xi6Z hp he hR2⟩
  · unfold CollR; rw [if_pos h2, h3]
  · unfold goneR; rw [if_pos h2, h3]; omega
theorem step_again {p : List Fn} {M : Mach} (h : xaqZ p M = 0) : xaqZ p (stepM p M) = 0 ∧ CollR p (stepM p M) = xajZ (stepM p M) ∧ PcOk (stepM p M) := by
  obtain ⟨hp, he, hR⟩ := xa1Z.1 h
  have hR2 := xcxZ hp he hR
  have h2 : xaqZ p (stepM p M) = 0 := xa1Z.2 ⟨hp, he, hR2⟩
  exact ⟨h2, by unfold CollR; rw [if_pos h2], xi6Z hp he hR2⟩
theorem few_in {p : List Fn} {M : Mach} (h : xaqZ p M = 0) : M.inp.length ≤ 100 := by
  obtain ⟨hp, he, hR⟩ := xa1Z.1 h
  have := (xb1Z hp he hR).1.inp
  omega
theorem run_some {p : List Fn} {M : Mach} {n : Int} (h : xaqZ p M = 0) (h0 : 0 ≤ n) : ∃ t, RunIs p M n t := by
  obtain ⟨hp, he, hR⟩ := xa1Z.1 h
  unfold RunIs
  have hf : (xgzZ p M n).2 ≤ (n.toNat : Int) := by
    unfold xgzZ
    split
    · cases hp2 : pay p (M, n) with
      | none => simp; omega
      | some s' => have := (xfqZ hp2); simp; simp only at this; omega
    · simp; omega
  exact xn6Z p n.toNat _ hf
theorem run_at {p : List Fn} {M : Mach} {n : Int} {t : MF} (h : xaqZ p M = 0) (hn : 0 ≤ n ∧ n ≤ 10000) (ht : RunIs p M n t) {pv fv bv iv ov : Value} {W : World} (hW : CkAt W p pv fv bv iv ov M) (hpc : PcOk M) : Calls Tryz.prog 29 #[.agg #[pv], .agg #[fv, bv, iv, ov, .int .i64 M.status, .int .i64 M.trap], .int .i64 n] W (MRet3 t.1 t.2 W) := by
  have hE : runE p M n = 0 := xgwZ.2 ⟨h, hn⟩
  refine (xiyZ M p n pv fv bv iv ov W hW hpc).mono ?_
  rintro e w' ⟨u, hu, f', b', i', o', h1, h2, h3⟩
  have := xkgZ (hu.1 hE) ht
  subst this
  rw [hE] at h1
  exact ⟨_, _, _, _, h1, h2, h3⟩
theorem run_no {p : List Fn} {M : Mach} {n : Int} (h : runE p M n ≠ 0) {pv fv bv iv ov : Value} {W : World} (hW : CkAt W p pv fv bv iv ov M) (hpc : PcOk M) : Calls Tryz.prog 29 #[.agg #[pv], .agg #[fv, bv, iv, ov, .int .i64 M.status, .int .i64 M.trap], .int .i64 n] W fun e w' => ∃ fv bv iv ov, e = .returned (.tuple #[.agg #[fv, bv, iv, ov, .int .i64 zeroM.status, .int .i64 zeroM.trap], .int .i64 0, .int .i64 (runE p M n)]) ∧ MRes w' W.heap.size fv bv iv ov zeroM ∧ Below W.heap.size W w' := by
  refine (xiyZ M p n pv fv bv iv ov W hW hpc).mono ?_
  rintro e w' ⟨u, hu, f', b', i', o', h1, h2, h3⟩
  have := hu.2 h
  subst this
  exact ⟨_, _, _, _, h1, h2, h3⟩
theorem coll_no {p : List Fn} {M : Mach} (h : xaqZ p M ≠ 0) {pv fv bv iv ov : Value} {W : World} (hW : CkAt W p pv fv bv iv ov M) (hpc : PcOk M) : Calls Tryz.prog 37 #[.agg #[pv], .agg #[fv, bv, iv, ov, .int .i64 M.status, .int .i64 M.trap]] W fun e w' => ∃ fv bv iv ov, e = .returned (.tuple #[.agg #[fv, bv, iv, ov, .int .i64 zeroM.status, .int .i64 zeroM.trap], .int .i64 0, .int .i64 (xaqZ p M)]) ∧ MRes w' W.heap.size fv bv iv ov zeroM ∧ Below W.heap.size W w' := by
  have h1 := xd0Z M p pv fv bv iv ov W hW hpc
  have hC : CollR p M = zeroM := by unfold CollR; rw [if_neg h]
  have hG : goneR p M = 0 := by unfold goneR; rw [if_neg h]
  unfold xemZ at h1
  rw [hC, hG] at h1
  exact h1
theorem coll_yes {p : List Fn} {M : Mach} (h : xaqZ p M = 0) {pv fv bv iv ov : Value} {W : World} (hW : CkAt W p pv fv bv iv ov M) (hpc : PcOk M) : Calls Tryz.prog 37 #[.agg #[pv], .agg #[fv, bv, iv, ov, .int .i64 M.status, .int .i64 M.trap]] W fun e w' => ∃ fv bv iv ov, e = .returned (.tuple #[.agg #[fv, bv, iv, ov, .int .i64 (xajZ M).status, .int .i64 (xajZ M).trap], .int .i64 (goneR p M), .int .i64 0]) ∧ MRes w' W.heap.size fv bv iv ov (xajZ M) ∧ Below W.heap.size W w' := by
  have h1 := xd0Z M p pv fv bv iv ov W hW hpc
  have hC : CollR p M = xajZ M := by unfold CollR; rw [if_pos h]
  unfold xemZ at h1
  rw [hC, h] at h1
  exact h1
theorem walk (w : World) (p : List Fn) (pv : Value) (hpf : ProgFull w pv p) (M : Mach) (fv bv iv ov : Value) (hM : MachAt w fv bv iv ov M) (hML : MachLong M) (n : Int) (hn : -9223372036854775808 ≤ n ∧ n ≤ 9223372036854775807) :
    Calls Tryz.prog 13 #[.agg #[pv], .agg #[fv, bv, iv, ov, .int .i64 M.status, .int .i64 M.trap], .int .i64 n] w fun e w' => e = .returned (.bool true) ∧ Below w.heap.size w w' := by
  have hCk : CkAt w p pv fv bv iv ov M := ⟨hpf.at_, hpf.cap, hM⟩
  have hpc : PcOk M := fun x hx => (hML.fr.2 x hx).2.2
  obtain ⟨⟨pp, qp, hpv⟩, ⟨pf, cf, hfv⟩, ⟨pb, cb, hbv⟩, ⟨pi, ci, hiv⟩, ⟨po, co, hov⟩⟩ := hCk.shp
  subst hpv hfv hbv hiv hov
  obtain ⟨W1, hW1⟩ : ∃ W1, (w.alloc (.cells #[.slice pp p.length qp] 24)).alloc (.cells #[.slice pf M.frames.length cf, .slice pb M.blocks.length cb, .slice pi M.inp.length ci, .slice po M.out.length co, .int .i64 M.status, .int .i64 M.trap] 29) = W1 := ⟨_, rfl⟩
  have b1 : Below w.heap.size w W1 := by rw [← hW1]; exact ((Below.refl _ w).alloc (Nat.le_refl _) _).alloc (by simp) _
  have u1 : W1.heap[w.heap.size]? = some (.cells #[.slice pp p.length qp] 24 (0, 0)) := by rw [← hW1]; exact xakZ (World.alloc_heap_new w _) _
  have u2 : W1.heap[w.heap.size + 1]? = some (.cells #[.slice pf M.frames.length cf, .slice pb M.blocks.length cb, .slice pi M.inp.length ci, .slice po M.out.length co, .int .i64 M.status, .int .i64 M.trap] 29 (0, 0)) := by rw [← hW1]; exact xbaZ _ _ _
  have l1 := xacZ u1
  have l2 := xacZ u2
  have KC : Hid (∀ W, Below W1.heap.size W1 W → W.cell? ⟨w.heap.size, 0, none⟩ = some (.slice pp p.length qp) ∧ W.cell? ⟨w.heap.size + 1, 0, none⟩ = some (.slice pf M.frames.length cf) ∧ W.cell? ⟨w.heap.size + 1, 1, none⟩ = some (.slice pb M.blocks.length cb) ∧ W.cell? ⟨w.heap.size + 1, 2, none⟩ = some (.slice pi M.inp.length ci) ∧ W.cell? ⟨w.heap.size + 1, 3, none⟩ = some (.slice po M.out.length co) ∧ W.cell? ⟨w.heap.size + 1, 4, none⟩ = some (.int .i64 M.status) ∧ W.cell? ⟨w.heap.size + 1, 5, none⟩ = some (.int .i64 M.trap)) := fun W hW => by
    have h1 := (hW.block _ l1).trans u1
    have h2 := (hW.block _ l2).trans u2
    exact ⟨xaaZ h1 0, xaaZ h2 0, xaaZ h2 1, xaaZ h2 2, xaaZ h2 3, xaaZ h2 4, xaaZ h2 5⟩
  have HH := hideP (hCk.below b1)
  have HPC := hideP hpc
  have HB1 := hideP b1
  clear hpf hML hM hCk hpc u1 u2 b1
  go_enter Tryz.func13, Tryz.ntmps13
  have HCKS : Hid (∀ (X : Mach) (fv bv iv ov : Value) (W : World), Below W1.heap.size W1 W → MachAt W fv bv iv ov X → CkAt W p (.slice pp p.length qp) fv bv iv ov X) := fun X fv bv iv ov W hW hX => ⟨(HH.out.below hW).fns, (HH.out.below hW).cap, hX⟩
  go_wp2_with fail
  refine (xhmZ _).mono ?_
  rintro e u2 ⟨rfl, bu2⟩
  have Fu2 := hideP bu2
  clear bu2
  have BBu2 := hideP (xadZ (Below.refl W1.heap.size W1) Fu2.out)
  go_wp2_with fail
  refine (xngZ _).mono ?_
  rintro e u3 ⟨rfl, bu3⟩
  have Fu3 := hideP bu3
  clear bu3
  have BBu3 := hideP (xadZ BBu2.out Fu3.out)
  obtain ⟨e0, d0, d1, d2, d3, d4, d5⟩ := KC.out u3 BBu3.out
  by_cases hc : xaqZ p M = 0
  rotate_left
  · have hE : runE p M n = xaqZ p M := by unfold runE; rw [if_pos hc]
    have hr : runE p M n ≠ 0 := by rw [hE]; exact hc
    have hc' : (xaqZ p M != 0) = true := by simpa using hc
    have hc'' : (xaqZ p M == 0) = false := by simpa using hc
    have HC1 := hideP (coll_no hc (HH.out.below BBu3.out) HPC.out)
    have HR1 := hideP (fun (W : World) (hW : Below W1.heap.size W1 W) => run_no hr (HH.out.below hW) HPC.out)
    rw [hE] at HR1
    generalize xaqZ p M = er at *
    clear hc hE hr HCKS
    go_wp2_with fail
    refine (HC1.out).mono ?_
    rintro e w3 ⟨nf3, nb3, ni3, no3, rfl, hr3, b3'⟩
    obtain ⟨⟨qf3, kf3, hqf3⟩, ⟨qb3, kb3, hqb3⟩, ⟨qi3, ki3, hqi3⟩, ⟨qo3, ko3, hqo3⟩⟩ := xaxZ hr3
    subst hqf3 hqb3 hqi3 hqo3
    obtain ⟨V3, hV3⟩ : ∃ V3, w3.alloc (.cells #[.slice qf3 zeroM.frames.length kf3, .slice qb3 zeroM.blocks.length kb3, .slice qi3 zeroM.inp.length ki3, .slice qo3 zeroM.out.length ko3, .int .i64 zeroM.status, .int .i64 zeroM.trap] 29) = V3 := ⟨_, rfl⟩
    have c3 : Below w3.heap.size w3 V3 := by rw [← hV3]; exact (Below.refl _ w3).alloc (Nat.le_refl _) _
    have u3 : V3.heap[w3.heap.size]? = some (.cells #[.slice qf3 zeroM.frames.length kf3, .slice qb3 zeroM.blocks.length kb3, .slice qi3 zeroM.inp.length ki3, .slice qo3 zeroM.out.length ko3, .int .i64 zeroM.status, .int .i64 zeroM.trap] 29 (0, 0)) := by rw [← hV3]; exact World.alloc_heap_new w3 _
    have R3 := hideP (hr3.below c3)
    have FV3 := hideP (xadZ b3' c3)
    have K3 : Hid (∀ W, Below V3.heap.size V3 W → W.cell? ⟨w3.heap.size, 0, none⟩ = some (.slice qf3 zeroM.frames.length kf3) ∧ W.cell? ⟨w3.heap.size, 1, none⟩ = some (.slice qb3 zeroM.blocks.length kb3) ∧ W.cell? ⟨w3.heap.size, 2, none⟩ = some (.slice qi3 zeroM.inp.length ki3) ∧ W.cell? ⟨w3.heap.size, 3, none⟩ = some (.slice qo3 zeroM.out.length ko3) ∧ W.cell? ⟨w3.heap.size, 4, none⟩ = some (.int .i64 zeroM.status) ∧ W.cell? ⟨w3.heap.size, 5, none⟩ = some (.int .i64 zeroM.trap)) := fun W hW => by
      have h1 := (hW.block _ (xacZ u3)).trans u3
      exact ⟨xaaZ h1 0, xaaZ h1 1, xaaZ h1 2, xaaZ h1 3, xaaZ h1 4, xaaZ h1 5⟩
    clear u3 hr3 b3' c3
    clear e0 d0 d1 d2 d3 d4 d5 
    have BBV3 := hideP (xadZ BBu3.out FV3.out)
    have RR3V3 := hideP (Below.refl V3.heap.size V3)
    obtain ⟨e0, d0, d1, d2, d3, d4, d5⟩ := KC.out V3 BBV3.out
    go_wp2_with fail
    refine (HR1.out V3 BBV3.out).mono ?_
    rintro e w4 ⟨nf4, nb4, ni4, no4, rfl, hr4, b4'⟩
    obtain ⟨⟨qf4, kf4, hqf4⟩, ⟨qb4, kb4, hqb4⟩, ⟨qi4, ki4, hqi4⟩, ⟨qo4, ko4, hqo4⟩⟩ := xaxZ hr4
    subst hqf4 hqb4 hqi4 hqo4
    obtain ⟨V4, hV4⟩ : ∃ V4, w4.alloc (.cells #[.slice qf4 zeroM.frames.length kf4, .slice qb4 zeroM.blocks.length kb4, .slice qi4 zeroM.inp.length ki4, .slice qo4 zeroM.out.length ko4, .int .i64 zeroM.status, .int .i64 zeroM.trap] 29) = V4 := ⟨_, rfl⟩
    have c4 : Below w4.heap.size w4 V4 := by rw [← hV4]; exact (Below.refl _ w4).alloc (Nat.le_refl _) _
    have u4 : V4.heap[w4.heap.size]? = some (.cells #[.slice qf4 zeroM.frames.length kf4, .slice qb4 zeroM.blocks.length kb4, .slice qi4 zeroM.inp.length ki4, .slice qo4 zeroM.out.length ko4, .int .i64 zeroM.status, .int .i64 zeroM.trap] 29 (0, 0)) := by rw [← hV4]; exact World.alloc_heap_new w4 _
    have R4 := hideP (hr4.below c4)
    have FV4 := hideP (xadZ b4' c4)
    have K4 : Hid (∀ W, Below V4.heap.size V4 W → W.cell? ⟨w4.heap.size, 0, none⟩ = some (.slice qf4 zeroM.frames.length kf4) ∧ W.cell? ⟨w4.heap.size, 1, none⟩ = some (.slice qb4 zeroM.blocks.length kb4) ∧ W.cell? ⟨w4.heap.size, 2, none⟩ = some (.slice qi4 zeroM.inp.length ki4) ∧ W.cell? ⟨w4.heap.size, 3, none⟩ = some (.slice qo4 zeroM.out.length ko4) ∧ W.cell? ⟨w4.heap.size, 4, none⟩ = some (.int .i64 zeroM.status) ∧ W.cell? ⟨w4.heap.size, 5, none⟩ = some (.int .i64 zeroM.trap)) := fun W hW => by
      have h1 := (hW.block _ (xacZ u4)).trans u4
      exact ⟨xaaZ h1 0, xaaZ h1 1, xaaZ h1 2, xaaZ h1 3, xaaZ h1 4, xaaZ h1 5⟩
    clear u4 hr4 b4' c4
    clear e0 d0 d1 d2 d3 d4 d5 
    have BBV4 := hideP (xadZ BBV3.out FV4.out)
    have RR3V4 := hideP (xadZ RR3V3.out FV4.out)
    have RR4V4 := hideP (Below.refl V4.heap.size V4)
    have HFIN := hideP (xadZ HB1.out BBV4.out)
    go_wp2
    go_ret
    exact ⟨by simp, HFIN.out⟩
  have HC1 := hideP (coll_yes hc (HH.out.below BBu3.out) HPC.out)
  by_cases hr : runE p M n = 0
  rotate_left
  · have hr' : (runE p M n != 0) = true := by simpa using hr
    have HR1 := hideP (fun (W : World) (hW : Below W1.heap.size W1 W) => run_no hr (HH.out.below hW) HPC.out)
    generalize runE p M n = er at *
    generalize goneR p M = n0 at *
    generalize xajZ M = C at *
    clear hc hr HCKS
    go_wp2_with fail
    refine (HC1.out).mono ?_
    rintro e w3 ⟨nf3, nb3, ni3, no3, rfl, hr3, b3'⟩
    obtain ⟨⟨qf3, kf3, hqf3⟩, ⟨qb3, kb3, hqb3⟩, ⟨qi3, ki3, hqi3⟩, ⟨qo3, ko3, hqo3⟩⟩ := xaxZ hr3
    subst hqf3 hqb3 hqi3 hqo3
    obtain ⟨V3, hV3⟩ : ∃ V3, w3.alloc (.cells #[.slice qf3 C.frames.length kf3, .slice qb3 C.blocks.length kb3, .slice qi3 C.inp.length ki3, .slice qo3 C.out.length ko3, .int .i64 C.status, .int .i64 C.trap] 29) = V3 := ⟨_, rfl⟩
    have c3 : Below w3.heap.size w3 V3 := by rw [← hV3]; exact (Below.refl _ w3).alloc (Nat.le_refl _) _
    have u3 : V3.heap[w3.heap.size]? = some (.cells #[.slice qf3 C.frames.length kf3, .slice qb3 C.blocks.length kb3, .slice qi3 C.inp.length ki3, .slice qo3 C.out.length ko3, .int .i64 C.status, .int .i64 C.trap] 29 (0, 0)) := by rw [← hV3]; exact World.alloc_heap_new w3 _
    have R3 := hideP (hr3.below c3)
    have FV3 := hideP (xadZ b3' c3)
    have K3 : Hid (∀ W, Below V3.heap.size V3 W → W.cell? ⟨w3.heap.size, 0, none⟩ = some (.slice qf3 C.frames.length kf3) ∧ W.cell? ⟨w3.heap.size, 1, none⟩ = some (.slice qb3 C.blocks.length kb3) ∧ W.cell? ⟨w3.heap.size, 2, none⟩ = some (.slice qi3 C.inp.length ki3) ∧ W.cell? ⟨w3.heap.size, 3, none⟩ = some (.slice qo3 C.out.length ko3) ∧ W.cell? ⟨w3.heap.size, 4, none⟩ = some (.int .i64 C.status) ∧ W.cell? ⟨w3.heap.size, 5, none⟩ = some (.int .i64 C.trap)) := fun W hW => by
      have h1 := (hW.block _ (xacZ u3)).trans u3
      exact ⟨xaaZ h1 0, xaaZ h1 1, xaaZ h1 2, xaaZ h1 3, xaaZ h1 4, xaaZ h1 5⟩
    clear u3 hr3 b3' c3
    clear e0 d0 d1 d2 d3 d4 d5 
    have BBV3 := hideP (xadZ BBu3.out FV3.out)
    have RR3V3 := hideP (Below.refl V3.heap.size V3)
    obtain ⟨e0, d0, d1, d2, d3, d4, d5⟩ := KC.out V3 BBV3.out
    go_wp2_with fail
    refine (HR1.out V3 BBV3.out).mono ?_
    rintro e w4 ⟨nf4, nb4, ni4, no4, rfl, hr4, b4'⟩
    obtain ⟨⟨qf4, kf4, hqf4⟩, ⟨qb4, kb4, hqb4⟩, ⟨qi4, ki4, hqi4⟩, ⟨qo4, ko4, hqo4⟩⟩ := xaxZ hr4
    subst hqf4 hqb4 hqi4 hqo4
    obtain ⟨V4, hV4⟩ : ∃ V4, w4.alloc (.cells #[.slice qf4 zeroM.frames.length kf4, .slice qb4 zeroM.blocks.length kb4, .slice qi4 zeroM.inp.length ki4, .slice qo4 zeroM.out.length ko4, .int .i64 zeroM.status, .int .i64 zeroM.trap] 29) = V4 := ⟨_, rfl⟩
    have c4 : Below w4.heap.size w4 V4 := by rw [← hV4]; exact (Below.refl _ w4).alloc (Nat.le_refl _) _
    have u4 : V4.heap[w4.heap.size]? = some (.cells #[.slice qf4 zeroM.frames.length kf4, .slice qb4 zeroM.blocks.length kb4, .slice qi4 zeroM.inp.length ki4, .slice qo4 zeroM.out.length ko4, .int .i64 zeroM.status, .int .i64 zeroM.trap] 29 (0, 0)) := by rw [← hV4]; exact World.alloc_heap_new w4 _
    have R4 := hideP (hr4.below c4)
    have FV4 := hideP (xadZ b4' c4)
    have K4 : Hid (∀ W, Below V4.heap.size V4 W → W.cell? ⟨w4.heap.size, 0, none⟩ = some (.slice qf4 zeroM.frames.length kf4) ∧ W.cell? ⟨w4.heap.size, 1, none⟩ = some (.slice qb4 zeroM.blocks.length kb4) ∧ W.cell? ⟨w4.heap.size, 2, none⟩ = some (.slice qi4 zeroM.inp.length ki4) ∧ W.cell? ⟨w4.heap.size, 3, none⟩ = some (.slice qo4 zeroM.out.length ko4) ∧ W.cell? ⟨w4.heap.size, 4, none⟩ = some (.int .i64 zeroM.status) ∧ W.cell? ⟨w4.heap.size, 5, none⟩ = some (.int .i64 zeroM.trap)) := fun W hW => by
      have h1 := (hW.block _ (xacZ u4)).trans u4
      exact ⟨xaaZ h1 0, xaaZ h1 1, xaaZ h1 2, xaaZ h1 3, xaaZ h1 4, xaaZ h1 5⟩
    clear u4 hr4 b4' c4
    clear e0 d0 d1 d2 d3 d4 d5 
    have BBV4 := hideP (xadZ BBV3.out FV4.out)
    have RR3V4 := hideP (xadZ RR3V3.out FV4.out)
    have RR4V4 := hideP (Below.refl V4.heap.size V4)
    have HFIN := hideP (xadZ HB1.out BBV4.out)
    go_wp2
    go_ret
    exact ⟨by simp, HFIN.out⟩
  obtain ⟨-, hn0, hn1⟩ := xgwZ.1 hr
  obtain ⟨hp, he, hR⟩ := xa1Z.1 hc
  obtain ⟨cc1, cc2, cc3, cc4⟩ := coll_again hc
  obtain ⟨⟨T, tn⟩, hT⟩ := run_some hc hn0
  obtain ⟨⟨U, un⟩, hU⟩ := run_some cc1 hn0
  have HCR := hideP (xp0Z hp he hR hT hU)
  have q100 : (xajZ M).inp.length ≤ 100 := few_in cc1
  have t100 : T.inp.length ≤ 100 := few_in (p := p) (xa1Z.2 ⟨hp, he, (xg3Z hp he hR hn0 hT).1⟩)
  have u100 : U.inp.length ≤ 100 := few_in (p := p) (xa1Z.2 ⟨hp, he, (xg3Z hp he (xa1Z.1 cc1).2.2 hn0 hU).1⟩)
  have tsm := (xb1Z hp he (xg3Z hp he hR hn0 hT).1).1
  have usm := (xb1Z hp he (xg3Z hp he (xa1Z.1 cc1).2.2 hn0 hU).1).1
  have HRT := hideP (fun (W : World) (hW : Below W1.heap.size W1 W) => run_at hc ⟨hn0, hn1⟩ hT (HH.out.below hW) HPC.out)
  have HRU : Hid (∀ fv bv iv ov W, Below W1.heap.size W1 W → MachAt W fv bv iv ov (xajZ M) → Calls Tryz.prog 29 #[.agg #[.slice pp p.length qp], .agg #[fv, bv, iv, ov, .int .i64 (xajZ M).status, .int .i64 (xajZ M).trap], .int .i64 n] W (MRet3 U un W)) := fun fv bv iv ov W hW hX => run_at cc1 ⟨hn0, hn1⟩ hU (HCKS.out _ _ _ _ _ W hW hX) cc4
  have to10 : T.out.length ≤ 10 := tsm.out
  have uo10 : U.out.length ≤ 10 := usm.out
  simp only at HRT HCR
  generalize goneR p M = n0 at *
  generalize xajZ M = C at *
  clear hp he hR cc1 cc2 cc3 cc4 hT hU hc hr tsm usm HCKS hn0 hn1
  go_wp2_with fail
  refine (HC1.out).mono ?_
  rintro e w3 ⟨nf3, nb3, ni3, no3, rfl, hr3, b3'⟩
  obtain ⟨⟨qf3, kf3, hqf3⟩, ⟨qb3, kb3, hqb3⟩, ⟨qi3, ki3, hqi3⟩, ⟨qo3, ko3, hqo3⟩⟩ := xaxZ hr3
  subst hqf3 hqb3 hqi3 hqo3
  obtain ⟨V3, hV3⟩ : ∃ V3, w3.alloc (.cells #[.slice qf3 C.frames.length kf3, .slice qb3 C.blocks.length kb3, .slice qi3 C.inp.length ki3, .slice qo3 C.out.length ko3, .int .i64 C.status, .int .i64 C.trap] 29) = V3 := ⟨_, rfl⟩
  have c3 : Below w3.heap.size w3 V3 := by rw [← hV3]; exact (Below.refl _ w3).alloc (Nat.le_refl _) _
  have u3 : V3.heap[w3.heap.size]? = some (.cells #[.slice qf3 C.frames.length kf3, .slice qb3 C.blocks.length kb3, .slice qi3 C.inp.length ki3, .slice qo3 C.out.length ko3, .int .i64 C.status, .int .i64 C.trap] 29 (0, 0)) := by rw [← hV3]; exact World.alloc_heap_new w3 _
  have R3 := hideP (hr3.below c3)
  have FV3 := hideP (xadZ b3' c3)
  have K3 : Hid (∀ W, Below V3.heap.size V3 W → W.cell? ⟨w3.heap.size, 0, none⟩ = some (.slice qf3 C.frames.length kf3) ∧ W.cell? ⟨w3.heap.size, 1, none⟩ = some (.slice qb3 C.blocks.length kb3) ∧ W.cell? ⟨w3.heap.size, 2, none⟩ = some (.slice qi3 C.inp.length ki3) ∧ W.cell? ⟨w3.heap.size, 3, none⟩ = some (.slice qo3 C.out.length ko3) ∧ W.cell? ⟨w3.heap.size, 4, none⟩ = some (.int .i64 C.status) ∧ W.cell? ⟨w3.heap.size, 5, none⟩ = some (.int .i64 C.trap)) := fun W hW => by
    have h1 := (hW.block _ (xacZ u3)).trans u3
    exact ⟨xaaZ h1 0, xaaZ h1 1, xaaZ h1 2, xaaZ h1 3, xaaZ h1 4, xaaZ h1 5⟩
  clear u3 hr3 b3' c3
  clear e0 d0 d1 d2 d3 d4 d5 
  have BBV3 := hideP (xadZ BBu3.out FV3.out)
  have RR3V3 := hideP (Below.refl V3.heap.size V3)
  have HA3 := hideP (R3.out.at_ q100)
  obtain ⟨e0, d0, d1, d2, d3, d4, d5⟩ := KC.out V3 BBV3.out
  go_wp2_with fail
  refine (HRT.out V3 BBV3.out).mono ?_
  rintro e w4 ⟨nf4, nb4, ni4, no4, rfl, hr4, b4'⟩
  obtain ⟨⟨qf4, kf4, hqf4⟩, ⟨qb4, kb4, hqb4⟩, ⟨qi4, ki4, hqi4⟩, ⟨qo4, ko4, hqo4⟩⟩ := xaxZ hr4
  subst hqf4 hqb4 hqi4 hqo4
  obtain ⟨V4, hV4⟩ : ∃ V4, w4.alloc (.cells #[.slice qf4 T.frames.length kf4, .slice qb4 T.blocks.length kb4, .slice qi4 T.inp.length ki4, .slice qo4 T.out.length ko4, .int .i64 T.status, .int .i64 T.trap] 29) = V4 := ⟨_, rfl⟩
  have c4 : Below w4.heap.size w4 V4 := by rw [← hV4]; exact (Below.refl _ w4).alloc (Nat.le_refl _) _
  have u4 : V4.heap[w4.heap.size]? = some (.cells #[.slice qf4 T.frames.length kf4, .slice qb4 T.blocks.length kb4, .slice qi4 T.inp.length ki4, .slice qo4 T.out.length ko4, .int .i64 T.status, .int .i64 T.trap] 29 (0, 0)) := by rw [← hV4]; exact World.alloc_heap_new w4 _
  have R4 := hideP (hr4.below c4)
  have FV4 := hideP (xadZ b4' c4)
  have K4 : Hid (∀ W, Below V4.heap.size V4 W → W.cell? ⟨w4.heap.size, 0, none⟩ = some (.slice qf4 T.frames.length kf4) ∧ W.cell? ⟨w4.heap.size, 1, none⟩ = some (.slice qb4 T.blocks.length kb4) ∧ W.cell? ⟨w4.heap.size, 2, none⟩ = some (.slice qi4 T.inp.length ki4) ∧ W.cell? ⟨w4.heap.size, 3, none⟩ = some (.slice qo4 T.out.length ko4) ∧ W.cell? ⟨w4.heap.size, 4, none⟩ = some (.int .i64 T.status) ∧ W.cell? ⟨w4.heap.size, 5, none⟩ = some (.int .i64 T.trap)) := fun W hW => by
    have h1 := (hW.block _ (xacZ u4)).trans u4
    exact ⟨xaaZ h1 0, xaaZ h1 1, xaaZ h1 2, xaaZ h1 3, xaaZ h1 4, xaaZ h1 5⟩
  clear u4 hr4 b4' c4
  clear e0 d0 d1 d2 d3 d4 d5 
  have BBV4 := hideP (xadZ BBV3.out FV4.out)
  have RR3V4 := hideP (xadZ RR3V3.out FV4.out)
  have RR4V4 := hideP (Below.refl V4.heap.size V4)
  have HA4 := hideP (R4.out.at_ t100)
  obtain ⟨e0, d0, d1, d2, d3, d4, d5⟩ := KC.out V4 BBV4.out
  obtain ⟨g0, g1, g2, g3, g4, g5⟩ := K3.out V4 RR3V4.out
  go_wp2_with fail
  refine (HRU.out _ _ _ _ V4 BBV4.out (HA3.out.below RR3V4.out)).mono ?_
  rintro e w5 ⟨nf5, nb5, ni5, no5, rfl, hr5, b5'⟩
  obtain ⟨⟨qf5, kf5, hqf5⟩, ⟨qb5, kb5, hqb5⟩, ⟨qi5, ki5, hqi5⟩, ⟨qo5, ko5, hqo5⟩⟩ := xaxZ hr5
  subst hqf5 hqb5 hqi5 hqo5
  obtain ⟨V5, hV5⟩ : ∃ V5, w5.alloc (.cells #[.slice qf5 U.frames.length kf5, .slice qb5 U.blocks.length kb5, .slice qi5 U.inp.length ki5, .slice qo5 U.out.length ko5, .int .i64 U.status, .int .i64 U.trap] 29) = V5 := ⟨_, rfl⟩
  have c5 : Below w5.heap.size w5 V5 := by rw [← hV5]; exact (Below.refl _ w5).alloc (Nat.le_refl _) _
  have u5 : V5.heap[w5.heap.size]? = some (.cells #[.slice qf5 U.frames.length kf5, .slice qb5 U.blocks.length kb5, .slice qi5 U.inp.length ki5, .slice qo5 U.out.length ko5, .int .i64 U.status, .int .i64 U.trap] 29 (0, 0)) := by rw [← hV5]; exact World.alloc_heap_new w5 _
  have R5 := hideP (hr5.below c5)
  have FV5 := hideP (xadZ b5' c5)
  have K5 : Hid (∀ W, Below V5.heap.size V5 W → W.cell? ⟨w5.heap.size, 0, none⟩ = some (.slice qf5 U.frames.length kf5) ∧ W.cell? ⟨w5.heap.size, 1, none⟩ = some (.slice qb5 U.blocks.length kb5) ∧ W.cell? ⟨w5.heap.size, 2, none⟩ = some (.slice qi5 U.inp.length ki5) ∧ W.cell? ⟨w5.heap.size, 3, none⟩ = some (.slice qo5 U.out.length ko5) ∧ W.cell? ⟨w5.heap.size, 4, none⟩ = some (.int .i64 U.status) ∧ W.cell? ⟨w5.heap.size, 5, none⟩ = some (.int .i64 U.trap)) := fun W hW => by
    have h1 := (hW.block _ (xacZ u5)).trans u5
    exact ⟨xaaZ h1 0, xaaZ h1 1, xaaZ h1 2, xaaZ h1 3, xaaZ h1 4, xaaZ h1 5⟩
  clear u5 hr5 b5' c5
  clear e0 d0 d1 d2 d3 d4 d5 g0 g1 g2 g3 g4 g5 
  have BBV5 := hideP (xadZ BBV4.out FV5.out)
  have RR3V5 := hideP (xadZ RR3V4.out FV5.out)
  have RR4V5 := hideP (xadZ RR4V4.out FV5.out)
  have RR5V5 := hideP (Below.refl V5.heap.size V5)
  have HA5 := hideP (R5.out.at_ u100)
  obtain ⟨e0, d0, d1, d2, d3, d4, d5⟩ := KC.out V5 BBV5.out
  obtain ⟨x0, x1, x2, x3, x4, x5⟩ := K4.out V5 RR4V5.out
  obtain ⟨y0, y1, y2, y3, y4, y5⟩ := K5.out V5 RR5V5.out
  have HFIN := hideP (xadZ HB1.out BBV5.out)
  by_cases ht : M.status ≠ 3 ∧ T.status = 3 ∧ T.trap = 3
  · have hpre : T.out <+: U.out := by
      rcases HCR.out with h | h
      · exact h.2.2.2
      · rw [h.2.2.2.2.1]; exact List.prefix_rfl
    have t1 : (M.status != 3) = true := by simpa using ht.1
    have t2 : (T.status == 3) = true := by simpa using ht.2.1
    have t3 : (T.trap == 3) = true := by simpa using ht.2.2
    have hl1 : T.out.length ≤ U.out.length := hpre.length_le
    have s1 : decide ((U.out.length : Int) ≥ (T.out.length : Int)) = true := by simp; omega
    have s1' : decide (T.out.length ≤ U.out.length) = true := by simp; omega
    have hcapU := HA5.out.out.cap _ _ _ rfl
    have s5 : (T.out.length : Int) ≤ (ko5 : Int) := by omega
    have s5' : T.out.length ≤ ko5 := by omega
    have s3 : (0 : Int) ≤ (T.out.length : Int) := by omega
    have s4 : (T.out.length : Int) ≤ (U.out.length : Int) := by omega
    have htk : U.out.take T.out.length = T.out := (List.prefix_iff_eq_take.1 hpre).symm
    have HSI : Hid (∀ W, Below V5.heap.size V5 W → Calls Tryz.prog 26 #[.slice qo5 T.out.length ko5, .slice qo4 T.out.length ko4] W fun e w' => e = .returned (.bool true) ∧ Below W.heap.size W w') := fun W hW => by
      have h1 := xn1Z (HA5.out.out.at_.below hW) hl1
      rw [htk] at h1
      have := xczZ T.out T.out _ _ W h1 (HA4.out.out.at_.below (xadZ RR4V5.out hW))
      rw [decide_eq_true rfl] at this
      exact this
    clear ht hpre htk HCR
    go_wp2_with fail
    try simp only [List.append_eq, List.cons_append, List.nil_append]
    go_region_held3 (fun X => X.cell? ⟨w5.heap.size, 3, none⟩ = some (.slice qo5 U.out.length ko5) ∧ X.cell? ⟨w4.heap.size, 3, none⟩ = some (.slice qo4 T.out.length ko4)) (go_keep)
      (first
        | (go_at_call 26; (with_reducible refine (HSI.out _ (Below.refl _ V5).drew).mono ?_); rintro e w7 ⟨rfl, b7'⟩; have b7 : Below V5.heap.size V5 w7 := xadZ (Below.refl _ V5).drew b7'; clear b7'; obtain ⟨x0', x1', x2', x3', x4', x5'⟩ := K4.out w7 (xadZ RR4V5.out b7); obtain ⟨y0', y1', y2', y3', y4', y5'⟩ := K5.out w7 b7))
    all_goals
      go_wp2
      go_ret
      exact ⟨rfl, xadZ HFIN.out b7⟩
  obtain ⟨f1, f2, f3, f4, f5, f6⟩ := HCR.out.resolve_left (fun h => ht ⟨h.1, h.2.1, h.2.2.1⟩)
  have HG : Hid (((M.status != 3) = false) ∨ ((M.status != 3) = true ∧ (T.status == 3) = false) ∨ ((M.status != 3) = true ∧ (T.status == 3) = true ∧ (T.trap == 3) = false)) := by
    by_cases h1 : M.status = 3
    · exact .inl (by simpa using h1)
    · by_cases h2 : T.status = 3
      · by_cases h3 : T.trap = 3
        · exact absurd ⟨h1, h2, h3⟩ ht
        · exact .inr (.inr ⟨by simpa using h1, by simpa using h2, by simpa using h3⟩)
      · exact .inr (.inl ⟨by simpa using h1, by simpa using h2⟩)
  have g1 : (tn == un) = true := by simp [f1]
  have g2 : (T.status == U.status) = true := by simp [f2]
  have g3 : (T.trap == U.trap) = true := by simp [f3]
  have g4 : ((T.frames.length : Int) == (U.frames.length : Int)) = true := by simp [f4]
  have g4' : (T.frames.length == U.frames.length) = true := by simp [f4]
  have HS1 : Hid (∀ W, Below V5.heap.size V5 W → Calls Tryz.prog 26 #[.slice qo4 T.out.length ko4, .slice qo5 U.out.length ko5] W fun e w' => e = .returned (.bool true) ∧ Below W.heap.size W w') := fun W hW => by
    have := xczZ T.out U.out _ _ W (HA4.out.out.at_.below (xadZ RR4V5.out hW)) (HA5.out.out.at_.below hW)
    rw [decide_eq_true f5.symm] at this
    exact this
  have HS2 : Hid (∀ W, Below V5.heap.size V5 W → Calls Tryz.prog 26 #[.slice qi4 T.inp.length ki4, .slice qi5 U.inp.length ki5] W fun e w' => e = .returned (.bool true) ∧ Below W.heap.size W w') := fun W hW => by
    have := xczZ T.inp U.inp _ _ W (HA4.out.inp.at_.below (xadZ RR4V5.out hW)) (HA5.out.inp.at_.below hW)
    rw [decide_eq_true f6.symm] at this
    exact this
  clear ht HCR f1 f2 f3 f4 f5 f6
  rcases HG.out with t1 | ⟨t1, t2⟩ | ⟨t1, t2, t3⟩
  all_goals
    go_wp2_with fail
    refine (HS1.out _ (Below.refl _ _)).mono ?_
    rintro e w7 ⟨rfl, b7⟩
    have HB7 := hideP b7
    obtain ⟨x0', x1', x2', x3', x4', x5'⟩ := K4.out w7 (xadZ RR4V5.out b7)
    obtain ⟨y0', y1', y2', y3', y4', y5'⟩ := K5.out w7 b7
    clear b7 x0 x1 x2 x3 x4 x5 y0 y1 y2 y3 y4 y5
    go_wp2_with fail
    refine (HS2.out w7 HB7.out).mono ?_
    rintro e w8 ⟨rfl, b8⟩
    go_wp2
    go_ret
    exact ⟨rfl, xadZ HFIN.out (xadZ HB7.out b8)⟩
theorem lifted (os : Os) (started : os.Started) (H : Type) (enc : TypeId × Value → H) :
    ReturnsInHanded {} Tryz.checked os 13 .any (Rows.collectRunsSpec.pre6 enc Tryz.prog Tryz.f13 Rows.collectRunsRow.domain false) (Rows.collectRunsSpec.post enc Tryz.prog Tryz.f13 false true false false) := by
  refine returnsInHanded_of_change_sized (C := Tryz.checked) own started (by kernel_rfl) Tryz.func13
    (ChangeSpec.witness6 (enc := enc) (C := Tryz.checked) false ⟨#[], #[.agg #[.slice none 0 0], .agg #[.slice none 0 0, .slice none 0 0, .slice none 0 0, .slice none 0 0, .int .i64 0, .int .i64 0], .int .i64 0], []⟩ 8 (by kernel_rfl) (by kernel_rfl) (by kernel_rfl) (by kernel_rfl)) ?_
  intro W base args ds gs before hval0 hW hcnd hsz0 hholds
  have hval : ∀ (j : Nat) t v, Tryz.f13.params[j]? = some t → args[j]? = some v → Value.okWide Tryz.prog W .any base t v := hval0
  have hsz : (DataW.weightsEach Tryz.prog (Tryz.f13.params.toList ++ Rows.collectRunsSpec.plain.varTypes Tryz.prog) (ds ++ gs)).all (· ≤ reachBytes) = true := hsz0
  have hW' := hW
  obtain ⟨p, q, hA0, hV, rfl, hfz, hnd⟩ := hW
  have hA : DataW.TrodAll enc Tryz.prog W 0 (fun _ => true) true Tryz.f13.params.toList args.toList ds p := hA0
  rw [Tryz.params13] at hA hval hsz
  obtain ⟨v0, vs0, d0, ds0, p0, q0, hargs, rfl, rfl, h0, r0⟩ := trodAll_cons hA
  obtain ⟨v1, vs1, d1, ds1, p1, q1, rfl, rfl, rfl, h1, r1⟩ := trodAll_cons r0
  obtain ⟨v2, vs2, d2, ds2, p2, q2, rfl, rfl, rfl, h2, r2⟩ := trodAll_cons r1
  obtain ⟨rfl, rfl, rfl⟩ := trodAll_nil r2
  obtain rfl : args = #[v0, v1, v2] := by cases args; simp_all
  obtain ⟨rfl, rfl⟩ := trodVars_none hV
  have k0 := h0
  have k1 := h1
  have k2 := h2
  have lt0 : ∀ x ∈ p0, x.block < W.heap.size := by obtain ⟨m, hm⟩ := k0; exact DataW.trod_lt m _ _ _ hm
  have lt1 : ∀ x ∈ p1, x.block < W.heap.size := by obtain ⟨m, hm⟩ := k1; exact DataW.trod_lt m _ _ _ hm
  have lt2 : ∀ x ∈ p2, x.block < W.heap.size := by obtain ⟨m, hm⟩ := k2; exact DataW.trod_lt m _ _ _ hm
  have hw0 : ∀ n ∈ d0.weights Tryz.prog 24, n ≤ reachBytes := fun n hn => by have := List.all_eq_true.1 hsz n (DataW.weights_mem_each (j := 0) rfl rfl n hn); simpa using this
  obtain ⟨c0, l0, rfl, hl0⟩ := xmfZ (hval 0 24 v0 rfl rfl) h0 hw0
  have hw1 : ∀ n ∈ d1.weights Tryz.prog 29, n ≤ reachBytes := fun n hn => by have := List.all_eq_true.1 hsz n (DataW.weights_mem_each (j := 1) rfl rfl n hn); simpa using this
  obtain ⟨e10, e11, e12, e13, M1, rfl, hM1, hL1⟩ := xmlZ (hval 1 29 v1 rfl rfl) h1 hw1
  obtain ⟨x2, rfl, hd2, hp2, wx2⟩ := open_int Tryz.underlying3 (hval 2 3 v2 rfl rfl) h2
  have hx2 : -9223372036854775808 ≤ x2 ∧ x2 ≤ 9223372036854775807 := by simpa [Lit.wf, IntKind.min, IntKind.max, IntKind.bits, IntKind.signed] using wx2
  clear hA0 hval0 hsz0
  refine (walk W l0 c0 hl0 M1 e10 e11 e12 e13 hM1 hL1 x2 hx2).mono fun e W' ⟨he, bel⟩ => ?_
  subst he
  exact ⟨_, rfl, _, _, _, [], _, [], hW', trodAll_mk1 (shut_bool Tryz.underlying4 _), (trodAll_cons_mk (Below.trod laidOut (by kernel_rfl) (of_decide_eq_true (by kernel_rfl)) k0 bel lt0) (trodAll_cons_mk (Below.trod laidOut (by kernel_rfl) (of_decide_eq_true (by kernel_rfl)) k1 bel lt1) (trodAll_cons_mk (Below.trod laidOut (by kernel_rfl) (of_decide_eq_true (by kernel_rfl)) k2 bel lt2) trodAll_mk0))), rfl, bel.frame _, fun h => by cases h⟩
theorem over : Rows.collectRunsRow.holds Tryz.pinned (OpenSpec.ofChange Rows.collectRunsSpec) :=
  OpenClaim.holds_of_wide 13 Tryz.f13 rfl rfl rfl rfl rfl rfl rfl ⟨rfl, rfl, rfl, rfl, rfl⟩ rfl rfl rfl rfl rfl (by kernel_rfl) Tryz.func13 (by kernel_rfl)
    (of_decide_eq_true (by kernel_rfl)) (by unfold Func.isWrapper; first | (rw [if_pos (by decide +kernel)]; kernel_rfl) | (rw [if_neg (by decide +kernel)]; exact ⟨rfl, rfl⟩))
    (fun os started H enc _ => lifted os started H enc)
end Go.Proofs.YtcadpoknolefpaaGreat.collectRuns
namespace Go.Proofs.YtcadpoknolefpaaGreat
/-- For every input the law CollectRuns returns true, and the arguments read as they did. -/
theorem collectRuns_holds : Rows.CollectRunsSaid := collectRuns.over
end Go.Proofs.YtcadpoknolefpaaGreat

