/- A RUN IS STEPS, ONE BY ONE, each paid; what comes is right: for every program and machine and number MeterSteps returns true. No condition. -/
import Derived.Test.YtcadpoknolefpaaGreatE26
import Derived.Test.YtcadpoknolefpaaGreatE25
import Derived.Test.YtcadpoknolefpaaGreatE24
import Derived.Test.YtcadpoknolefpaaGreatE18
import Derived.Test.YtcadpoknolefpaaGreatE7
namespace Go.Proofs.YtcadpoknolefpaaGreat.meterSteps
open Go.ChangeShapes Go.WideShapes Go.ChangeAt Go.RowKit
set_option linter.unusedVariables false
set_option linter.unusedSimpArgs false
theorem own : ownKnob Tryz.prog.godebug = none := by kernel_rfl
theorem laidOut : laidOutB Tryz.prog = true := by kernel_rfl
set_option maxRecDepth 100000 in
set_option maxHeartbeats 8000000 in
theorem walk (w : World) (p : List Fn) (pv : Value) (hpf : ProgFull w pv p) (M : Mach) (fv bv iv ov : Value) (hM : MachAt w fv bv iv ov M) (hML : MachLong M) (n : Int) (hn : -9223372036854775808 ≤ n ∧ n ≤ 9223372036854775807) :
    Calls Tryz.prog 9 #[.agg #[pv], .agg #[fv, bv, iv, ov, .int .i64 M.status, .int .i64 M.trap], .int .i64 n] w fun e w' => e = .returned (.bool true) ∧ Below w.heap.size w w' := by
  have hCk : CkAt w p pv fv bv iv ov M := ⟨hpf.at_, hpf.cap, hM⟩
  have hpc : PcOk M := fun x hx => (hML.fr.2 x hx).2.2
  obtain ⟨⟨pp, qp, hpv⟩, ⟨pf, cf, hfv⟩, ⟨pb, cb, hbv⟩, ⟨pi, ci, hiv⟩, ⟨po, co, hov⟩⟩ := hCk.shp
  subst hpv hfv hbv hiv hov
  obtain ⟨W1, hW1⟩ : ∃ W1, (w.alloc (.cells #[.slice pp p.length qp] 24)).alloc (.cells #[.slice pf M.frames.length cf, .slice pb M.blocks.length cb, .slice pi M.inp.length ci, .slice po M.out.length co, .int .i64 M.status, .int .i64 M.trap] 29) = W1 := ⟨_, rfl⟩
  have b1 : Below w.heap.size w W1 := by rw [← hW1]; exact ((Below.refl _ w).alloc (Nat.le_refl _) _).alloc (by simp) _
  have u1 : W1.heap[w.heap.size]? = some (.cells #[.slice pp p.length qp] 24 (0, 0)) := by rw [← hW1]; exact heap_old (World.alloc_heap_new w _) _
  have u2 : W1.heap[w.heap.size + 1]? = some (.cells #[.slice pf M.frames.length cf, .slice pb M.blocks.length cb, .slice pi M.inp.length ci, .slice po M.out.length co, .int .i64 M.status, .int .i64 M.trap] 29 (0, 0)) := by rw [← hW1]; exact new_two _ _ _
  have l1 := heap_lt u1
  have l2 := heap_lt u2
  have KC : Hid (∀ W, Below W1.heap.size W1 W → W.cell? ⟨w.heap.size, 0, none⟩ = some (.slice pp p.length qp) ∧ W.cell? ⟨w.heap.size + 1, 0, none⟩ = some (.slice pf M.frames.length cf) ∧ W.cell? ⟨w.heap.size + 1, 1, none⟩ = some (.slice pb M.blocks.length cb) ∧ W.cell? ⟨w.heap.size + 1, 2, none⟩ = some (.slice pi M.inp.length ci) ∧ W.cell? ⟨w.heap.size + 1, 3, none⟩ = some (.slice po M.out.length co) ∧ W.cell? ⟨w.heap.size + 1, 4, none⟩ = some (.int .i64 M.status) ∧ W.cell? ⟨w.heap.size + 1, 5, none⟩ = some (.int .i64 M.trap)) := fun W hW => by
    have h1 := (hW.block _ l1).trans u1
    have h2 := (hW.block _ l2).trans u2
    exact ⟨cell_at' h1 0, cell_at' h2 0, cell_at' h2 1, cell_at' h2 2, cell_at' h2 3, cell_at' h2 4, cell_at' h2 5⟩
  have HH := hideP (hCk.below b1)
  have HPC := hideP hpc
  have HB1 := hideP b1
  clear hpf hML hM hCk hpc u1 u2 b1
  go_enter Tryz.func9, Tryz.ntmps9
  have HRUN := hideP (fun (k : Int) (W : World) (hW : Below W1.heap.size W1 W) => mRun_any M p k _ _ _ _ _ W (HH.out.below hW) HPC.out)
  obtain ⟨e0, d0, d1, d2, d3, d4, d5⟩ := KC.out W1 (Below.refl _ _)
  go_wp2_with fail
  refine (HRUN.out n W1 (Below.refl _ _)).mono ?_
  rintro e w3 ⟨t3, ht3, nf3, nb3, ni3, no3, rfl, hr3, b3'⟩
  have b3 := bthen0 (Below.refl W1.heap.size W1) b3'
  obtain ⟨⟨qf3, kf3, hqf3⟩, ⟨qb3, kb3, hqb3⟩, ⟨qi3, ki3, hqi3⟩, ⟨qo3, ko3, hqo3⟩⟩ := mres_shpN hr3
  subst hqf3 hqb3 hqi3 hqo3
  obtain ⟨V3, hV3⟩ : ∃ V3, w3.alloc (.cells #[.slice qf3 t3.1.frames.length kf3, .slice qb3 t3.1.blocks.length kb3, .slice qi3 t3.1.inp.length ki3, .slice qo3 t3.1.out.length ko3, .int .i64 t3.1.status, .int .i64 t3.1.trap] 29) = V3 := ⟨_, rfl⟩
  have c3 : Below w3.heap.size w3 V3 := by rw [← hV3]; exact (Below.refl _ w3).alloc (Nat.le_refl _) _
  have u3 : V3.heap[w3.heap.size]? = some (.cells #[.slice qf3 t3.1.frames.length kf3, .slice qb3 t3.1.blocks.length kb3, .slice qi3 t3.1.inp.length ki3, .slice qo3 t3.1.out.length ko3, .int .i64 t3.1.status, .int .i64 t3.1.trap] 29 (0, 0)) := by rw [← hV3]; exact World.alloc_heap_new w3 _
  have B3 := hideP (bthen0 b3 c3)
  have R3 := hideP (hr3.below c3)
  have F3 := hideP (bthen0 b3' c3)
  have K3 : Hid (∀ W, Below V3.heap.size V3 W → W.cell? ⟨w3.heap.size, 0, none⟩ = some (.slice qf3 t3.1.frames.length kf3) ∧ W.cell? ⟨w3.heap.size, 1, none⟩ = some (.slice qb3 t3.1.blocks.length kb3) ∧ W.cell? ⟨w3.heap.size, 2, none⟩ = some (.slice qi3 t3.1.inp.length ki3) ∧ W.cell? ⟨w3.heap.size, 3, none⟩ = some (.slice qo3 t3.1.out.length ko3) ∧ W.cell? ⟨w3.heap.size, 4, none⟩ = some (.int .i64 t3.1.status) ∧ W.cell? ⟨w3.heap.size, 5, none⟩ = some (.int .i64 t3.1.trap)) := fun W hW => by
    have h1 := (hW.block _ (heap_lt u3)).trans u3
    exact ⟨cell_at' h1 0, cell_at' h1 1, cell_at' h1 2, cell_at' h1 3, cell_at' h1 4, cell_at' h1 5⟩
  clear u3 hr3 b3 b3' c3
  clear e0 d0 d1 d2 d3 d4 d5
  go_wp2_with fail
  refine (meterBegun_any _).mono ?_
  rintro e w4 ⟨rfl, b4⟩
  go_wp2_with fail
  refine (machineBegun_any _).mono ?_
  rintro e w5 ⟨rfl, b5⟩
  have F5 := hideP (bthen0 b4 b5)
  have B5 := hideP (bthen0 B3.out F5.out)
  clear b4 b5
  by_cases hE : runE p M n = 0
  rotate_left
  · have t1 : (runE p M n != 0) = true := by simpa using hE
    have HFIN := hideP (bthen0 HB1.out B5.out)
    clear hE HRUN ht3
    go_wp2
    go_ret
    exact ⟨rfl, HFIN.out⟩
  have t1 : (runE p M n != 0) = false := by simpa using hE
  by_cases hn60 : n > 60
  · have t2 : decide (n > 60) = true := by simpa using hn60
    have HFIN := hideP (bthen0 HB1.out B5.out)
    clear hE HRUN ht3
    go_wp2
    go_ret
    exact ⟨rfl, HFIN.out⟩
  have t2 : decide (n > 60) = false := by simpa using hn60
  have hn60' : n ≤ 60 := by omega
  obtain ⟨hce, hn0, -⟩ := runE_zero.1 hE
  obtain ⟨hp, he, hR⟩ := checkE_zero.1 hce
  have HR3 := hideP (ht3.1 hE)
  have hR3 := (run_right hp he hR hn0 HR3.out).1
  have hsm3 := (right_small hp he hR3).1
  have HA3 := hideP (R3.out.at_ (by have := hsm3.inp; omega))
  have HBEG := hideP (steps_begin (p := p) (F := n) (t := t3) hR hn0)
  have HS := hideP (And.intro hp (And.intro he hR))
  obtain ⟨e0, d0, d1, d2, d3, d4, d5⟩ := KC.out w5 B5.out
  clear hE hce hp he hR hR3 hsm3 ht3 HRUN hn60
  obtain ⟨V6, hV6⟩ : ∃ V6, w5.alloc (.cells #[.slice pf M.frames.length cf, .slice pb M.blocks.length cb, .slice pi M.inp.length ci, .slice po M.out.length co, .int .i64 M.status, .int .i64 M.trap] 29) = V6 := ⟨_, rfl⟩
  have c6 : Below w5.heap.size w5 V6 := by rw [← hV6]; exact (Below.refl _ w5).alloc (Nat.le_refl _) _
  have u6 : V6.heap[w5.heap.size]? = some (.cells #[.slice pf M.frames.length cf, .slice pb M.blocks.length cb, .slice pi M.inp.length ci, .slice po M.out.length co, .int .i64 M.status, .int .i64 M.trap] 29 (0, 0)) := by rw [← hV6]; exact World.alloc_heap_new w5 _
  have HAT := hideP (And.intro u6 (And.intro (HH.out.below (bthen0 B5.out c6)).mach c6))
  clear u6
  go_wp2_with fail
  clear e0 d0 d1 d2 d3 d4 d5
  go_loopw [11, 12, 13, 14, 15, 16] (fun v8 v9 _ _ _ _ wr => ∃ (i : Nat) (X : Mach) (k : Int) (xf : Option Addr) (hf9 : Nat) (xb : Option Addr) (hb9 : Nat) (xi : Option Addr) (hi9 : Nat) (xo : Option Addr) (ho9 : Nat), i ≤ 61 ∧ v9 = .int .i64 i ∧ v8 = .int .i64 k ∧ StepsTo p (entP p) M n t3 i X k ∧ wr.heap[w5.heap.size]? = some (.cells #[.slice xf X.frames.length hf9, .slice xb X.blocks.length hb9, .slice xi X.inp.length hi9, .slice xo X.out.length ho9, .int .i64 X.status, .int .i64 X.trap] 29 (0, 0)) ∧ MachAt wr (.slice xf X.frames.length hf9) (.slice xb X.blocks.length hb9) (.slice xi X.inp.length hi9) (.slice xo X.out.length ho9) X ∧ Below w5.heap.size w5 wr) (fun _ v9 _ _ _ _ _ => 61 - (intOf v9).toNat)
  case atStart => exact ⟨0, M, n, pf, cf, pb, cb, pi, ci, po, co, Nat.zero_le _, rfl, rfl, HBEG.out, HAT.out.1, HAT.out.2.1, HAT.out.2.2⟩
  case round =>
    rename World => wr
    obtain ⟨i, X, k, xf, hf9, xb, hb9, xi, hi9, xo, ho9, hi, rfl, rfl, hst, hx, hm, hb⟩ := hrel
    obtain ⟨e0, -, -, -, -, -, -⟩ := KC.out wr (bthen0 B5.out hb)
    have d0 := cell_at' hx 0
    have d1 := cell_at' hx 1
    have d2 := cell_at' hx 2
    have d3 := cell_at' hx 3
    have d4 := cell_at' hx 4
    have d5 := cell_at' hx 5
    simp at d0 d1 d2 d3 d4 d5
    have hstat := hst.right.status
    have hi61 : i < 61 := by have := hst.paid; have := hst.low; omega
    have hi61' : (i : Int) < 61 := by omega
    have hi61'' : decide ((i : Int) < 61) = true := by simpa using hi61'
    by_cases s2 : X.status = 2
    · have e2 : (X.status == 2) = true := by simpa using s2
      have heq : t3 = (X, k) := steps_stop HR3.out hst (.inl s2)
      have HX2 := hideP hm
      have hrt := (hst.right)
      have hce : checkE p X = 0 := checkE_zero.2 ⟨HS.out.1, HS.out.2.1, hrt⟩
      have HSAME : Hid (Calls Tryz.prog 24 #[.agg #[.slice xf X.frames.length hf9, .slice xb X.blocks.length hb9, .slice xi X.inp.length hi9, .slice xo X.out.length ho9, .int .i64 X.status, .int .i64 X.trap], .agg #[.slice qf3 t3.1.frames.length kf3, .slice qb3 t3.1.blocks.length kb3, .slice qi3 t3.1.inp.length ki3, .slice qo3 t3.1.out.length ko3, .int .i64 t3.1.status, .int .i64 t3.1.trap]] wr fun e w' => e = .returned (.bool true) ∧ Below wr.heap.size wr w') := (sameMachine_any X t3.1 _ _ _ _ _ _ _ _ wr hm (HA3.out.below (bthen0 F5.out (bthen0 (Below.refl _ w5) hb)))).mono fun e w' ⟨r, z1, z2, z3⟩ => ⟨by rw [z1, z2.2 (by rw [heq])], z3⟩
      have HCHK : Hid (∀ W, Below wr.heap.size wr W → Calls Tryz.prog 21 #[.agg #[.slice pp p.length qp], .agg #[.slice qf3 t3.1.frames.length kf3, .slice qb3 t3.1.blocks.length kb3, .slice qi3 t3.1.inp.length ki3, .slice qo3 t3.1.out.length ko3, .int .i64 t3.1.status, .int .i64 t3.1.trap]] W fun e w' => e = .returned (.int .i64 0) ∧ Below W.heap.size W w') := fun W hW => by
        have h1 := HA3.out.below (bthen0 F5.out (bthen0 (Below.refl _ w5) (bthen0 hb hW)))
        have hr3 : RightM p (entP p) t3.1 := by rw [heq]; exact hrt
        have h2 := mCheck_any t3.1 p _ _ _ _ _ W ⟨(HH.out.below (bthen0 B5.out (bthen0 hb hW))).fns, (HH.out.below (bthen0 B5.out (bthen0 hb hW))).cap, h1⟩ (right_pc HS.out.1 HS.out.2.1 hr3)
        have h3 : checkE p t3.1 = 0 := by rw [heq]; exact hce
        rw [h3] at h2
        exact h2
      have hk2 : t3.2 = k := by rw [heq]
      have HFIN := hideP (bthen0 HB1.out (bthen0 B5.out hb))
      have K3R : Hid (∀ W, Below wr.heap.size wr W → W.cell? ⟨w3.heap.size, 0, none⟩ = some (.slice qf3 t3.1.frames.length kf3) ∧ W.cell? ⟨w3.heap.size, 1, none⟩ = some (.slice qb3 t3.1.blocks.length kb3) ∧ W.cell? ⟨w3.heap.size, 2, none⟩ = some (.slice qi3 t3.1.inp.length ki3) ∧ W.cell? ⟨w3.heap.size, 3, none⟩ = some (.slice qo3 t3.1.out.length ko3) ∧ W.cell? ⟨w3.heap.size, 4, none⟩ = some (.int .i64 t3.1.status) ∧ W.cell? ⟨w3.heap.size, 5, none⟩ = some (.int .i64 t3.1.trap)) := fun W hW => K3.out W (bthen0 F5.out (bthen0 (Below.refl _ w5) (bthen0 hb hW)))
      have KCR : Hid (∀ W, Below wr.heap.size wr W → W.cell? ⟨w.heap.size, 0, none⟩ = some (.slice pp p.length qp)) := fun W hW => (KC.out W (bthen0 B5.out (bthen0 hb hW))).1
      obtain ⟨y0, y1, y2, y3, y4, y5⟩ := K3R.out wr (Below.refl _ _)
      clear heq hst hm hx hb hrt hce s2
      go_wp2_with fail
      refine HSAME.out.mono ?_
      rintro e w8 ⟨rfl, b8⟩
      obtain ⟨y0', y1', y2', y3', y4', y5'⟩ := K3R.out w8 b8
      have e0' := KCR.out w8 b8
      have B8 := hideP b8
      clear b8 y0 y1 y2 y3 y4 y5 d0 d1 d2 d3 d4 d5 e0
      go_wp2_with fail
      refine (HCHK.out w8 B8.out).mono ?_
      rintro e w9 ⟨rfl, b9⟩
      go_wp2
      go_ret
      exact ⟨by simp [hk2], bthen0 HFIN.out (bthen0 B8.out b9)⟩
    have e2 : (X.status == 2) = false := by simpa using s2
    by_cases s3 : X.status = 3
    · have e3 : (X.status == 3) = true := by simpa using s3
      have heq : t3 = (X, k) := steps_stop HR3.out hst (.inr (.inl s3))
      have HX2 := hideP hm
      have hrt := (hst.right)
      have hce : checkE p X = 0 := checkE_zero.2 ⟨HS.out.1, HS.out.2.1, hrt⟩
      have HSAME : Hid (Calls Tryz.prog 24 #[.agg #[.slice xf X.frames.length hf9, .slice xb X.blocks.length hb9, .slice xi X.inp.length hi9, .slice xo X.out.length ho9, .int .i64 X.status, .int .i64 X.trap], .agg #[.slice qf3 t3.1.frames.length kf3, .slice qb3 t3.1.blocks.length kb3, .slice qi3 t3.1.inp.length ki3, .slice qo3 t3.1.out.length ko3, .int .i64 t3.1.status, .int .i64 t3.1.trap]] wr fun e w' => e = .returned (.bool true) ∧ Below wr.heap.size wr w') := (sameMachine_any X t3.1 _ _ _ _ _ _ _ _ wr hm (HA3.out.below (bthen0 F5.out (bthen0 (Below.refl _ w5) hb)))).mono fun e w' ⟨r, z1, z2, z3⟩ => ⟨by rw [z1, z2.2 (by rw [heq])], z3⟩
      have HCHK : Hid (∀ W, Below wr.heap.size wr W → Calls Tryz.prog 21 #[.agg #[.slice pp p.length qp], .agg #[.slice qf3 t3.1.frames.length kf3, .slice qb3 t3.1.blocks.length kb3, .slice qi3 t3.1.inp.length ki3, .slice qo3 t3.1.out.length ko3, .int .i64 t3.1.status, .int .i64 t3.1.trap]] W fun e w' => e = .returned (.int .i64 0) ∧ Below W.heap.size W w') := fun W hW => by
        have h1 := HA3.out.below (bthen0 F5.out (bthen0 (Below.refl _ w5) (bthen0 hb hW)))
        have hr3 : RightM p (entP p) t3.1 := by rw [heq]; exact hrt
        have h2 := mCheck_any t3.1 p _ _ _ _ _ W ⟨(HH.out.below (bthen0 B5.out (bthen0 hb hW))).fns, (HH.out.below (bthen0 B5.out (bthen0 hb hW))).cap, h1⟩ (right_pc HS.out.1 HS.out.2.1 hr3)
        have h3 : checkE p t3.1 = 0 := by rw [heq]; exact hce
        rw [h3] at h2
        exact h2
      have hk2 : t3.2 = k := by rw [heq]
      have HFIN := hideP (bthen0 HB1.out (bthen0 B5.out hb))
      have K3R : Hid (∀ W, Below wr.heap.size wr W → W.cell? ⟨w3.heap.size, 0, none⟩ = some (.slice qf3 t3.1.frames.length kf3) ∧ W.cell? ⟨w3.heap.size, 1, none⟩ = some (.slice qb3 t3.1.blocks.length kb3) ∧ W.cell? ⟨w3.heap.size, 2, none⟩ = some (.slice qi3 t3.1.inp.length ki3) ∧ W.cell? ⟨w3.heap.size, 3, none⟩ = some (.slice qo3 t3.1.out.length ko3) ∧ W.cell? ⟨w3.heap.size, 4, none⟩ = some (.int .i64 t3.1.status) ∧ W.cell? ⟨w3.heap.size, 5, none⟩ = some (.int .i64 t3.1.trap)) := fun W hW => K3.out W (bthen0 F5.out (bthen0 (Below.refl _ w5) (bthen0 hb hW)))
      have KCR : Hid (∀ W, Below wr.heap.size wr W → W.cell? ⟨w.heap.size, 0, none⟩ = some (.slice pp p.length qp)) := fun W hW => (KC.out W (bthen0 B5.out (bthen0 hb hW))).1
      obtain ⟨y0, y1, y2, y3, y4, y5⟩ := K3R.out wr (Below.refl _ _)
      clear heq hst hm hx hb hrt hce s3
      go_wp2_with fail
      refine HSAME.out.mono ?_
      rintro e w8 ⟨rfl, b8⟩
      obtain ⟨y0', y1', y2', y3', y4', y5'⟩ := K3R.out w8 b8
      have e0' := KCR.out w8 b8
      have B8 := hideP b8
      clear b8 y0 y1 y2 y3 y4 y5 d0 d1 d2 d3 d4 d5 e0
      go_wp2_with fail
      refine (HCHK.out w8 B8.out).mono ?_
      rintro e w9 ⟨rfl, b9⟩
      go_wp2
      go_ret
      exact ⟨by simp [hk2], bthen0 HFIN.out (bthen0 B8.out b9)⟩
    have e3 : (X.status == 3) = false := by simpa using s3
    by_cases s1 : 0 < i ∧ X.status = 1
    · have e4 : decide ((i : Int) > 0) = true := by simpa using s1.1
      have e4' : decide (i > 0) = true := by simpa using s1.1
      have e4'' : decide (0 < i) = true := by simpa using s1.1
      have e5 : (X.status == 1) = true := by simpa using s1.2
      have heq : t3 = (X, k) := steps_stop HR3.out hst (.inr (.inr s1))
      have HX2 := hideP hm
      have hrt := (hst.right)
      have hce : checkE p X = 0 := checkE_zero.2 ⟨HS.out.1, HS.out.2.1, hrt⟩
      have HSAME : Hid (Calls Tryz.prog 24 #[.agg #[.slice xf X.frames.length hf9, .slice xb X.blocks.length hb9, .slice xi X.inp.length hi9, .slice xo X.out.length ho9, .int .i64 X.status, .int .i64 X.trap], .agg #[.slice qf3 t3.1.frames.length kf3, .slice qb3 t3.1.blocks.length kb3, .slice qi3 t3.1.inp.length ki3, .slice qo3 t3.1.out.length ko3, .int .i64 t3.1.status, .int .i64 t3.1.trap]] wr fun e w' => e = .returned (.bool true) ∧ Below wr.heap.size wr w') := (sameMachine_any X t3.1 _ _ _ _ _ _ _ _ wr hm (HA3.out.below (bthen0 F5.out (bthen0 (Below.refl _ w5) hb)))).mono fun e w' ⟨r, z1, z2, z3⟩ => ⟨by rw [z1, z2.2 (by rw [heq])], z3⟩
      have HCHK : Hid (∀ W, Below wr.heap.size wr W → Calls Tryz.prog 21 #[.agg #[.slice pp p.length qp], .agg #[.slice qf3 t3.1.frames.length kf3, .slice qb3 t3.1.blocks.length kb3, .slice qi3 t3.1.inp.length ki3, .slice qo3 t3.1.out.length ko3, .int .i64 t3.1.status, .int .i64 t3.1.trap]] W fun e w' => e = .returned (.int .i64 0) ∧ Below W.heap.size W w') := fun W hW => by
        have h1 := HA3.out.below (bthen0 F5.out (bthen0 (Below.refl _ w5) (bthen0 hb hW)))
        have hr3 : RightM p (entP p) t3.1 := by rw [heq]; exact hrt
        have h2 := mCheck_any t3.1 p _ _ _ _ _ W ⟨(HH.out.below (bthen0 B5.out (bthen0 hb hW))).fns, (HH.out.below (bthen0 B5.out (bthen0 hb hW))).cap, h1⟩ (right_pc HS.out.1 HS.out.2.1 hr3)
        have h3 : checkE p t3.1 = 0 := by rw [heq]; exact hce
        rw [h3] at h2
        exact h2
      have hk2 : t3.2 = k := by rw [heq]
      have HFIN := hideP (bthen0 HB1.out (bthen0 B5.out hb))
      have K3R : Hid (∀ W, Below wr.heap.size wr W → W.cell? ⟨w3.heap.size, 0, none⟩ = some (.slice qf3 t3.1.frames.length kf3) ∧ W.cell? ⟨w3.heap.size, 1, none⟩ = some (.slice qb3 t3.1.blocks.length kb3) ∧ W.cell? ⟨w3.heap.size, 2, none⟩ = some (.slice qi3 t3.1.inp.length ki3) ∧ W.cell? ⟨w3.heap.size, 3, none⟩ = some (.slice qo3 t3.1.out.length ko3) ∧ W.cell? ⟨w3.heap.size, 4, none⟩ = some (.int .i64 t3.1.status) ∧ W.cell? ⟨w3.heap.size, 5, none⟩ = some (.int .i64 t3.1.trap)) := fun W hW => K3.out W (bthen0 F5.out (bthen0 (Below.refl _ w5) (bthen0 hb hW)))
      have KCR : Hid (∀ W, Below wr.heap.size wr W → W.cell? ⟨w.heap.size, 0, none⟩ = some (.slice pp p.length qp)) := fun W hW => (KC.out W (bthen0 B5.out (bthen0 hb hW))).1
      obtain ⟨y0, y1, y2, y3, y4, y5⟩ := K3R.out wr (Below.refl _ _)
      clear heq hst hm hx hb hrt hce s1
      go_wp2_with fail
      refine HSAME.out.mono ?_
      rintro e w8 ⟨rfl, b8⟩
      obtain ⟨y0', y1', y2', y3', y4', y5'⟩ := K3R.out w8 b8
      have e0' := KCR.out w8 b8
      have B8 := hideP b8
      clear b8 y0 y1 y2 y3 y4 y5 d0 d1 d2 d3 d4 d5 e0
      go_wp2_with fail
      refine (HCHK.out w8 B8.out).mono ?_
      rintro e w9 ⟨rfl, b9⟩
      go_wp2
      go_ret
      exact ⟨by simp [hk2], bthen0 HFIN.out (bthen0 B8.out b9)⟩
    have hst9 : ¬ (X.status = 2 ∨ X.status = 3 ∨ (0 < i ∧ X.status = 1)) := by omega
    have hs01 : X.status = 0 ∨ X.status = 1 := by omega
    by_cases i0 : i = 0
    · have e4 : decide ((i : Int) > 0) = false := by simp; omega
      have e4' : decide (i > 0) = false := by simp; omega
      have e4'' : decide (0 < i) = false := by simp; omega
      obtain ⟨x, kk, pc, f, o, h1, h2, h4x, h4y, h5, h6, h7, h8, h9, h10⟩ := next_small HS.out.1 HS.out.2.1 hst.right hs01
      have hsmX := (right_small HS.out.1 HS.out.2.1 hst.right).1
      have hck : CkAt wr p (.slice pp p.length qp) _ _ _ _ X := ⟨(HH.out.below (bthen0 B5.out hb)).fns, (HH.out.below (bthen0 B5.out hb)).cap, hm⟩
      have HOP : Hid (Calls Tryz.prog 25 #[.agg #[.slice pp p.length qp], .agg #[.slice xf X.frames.length hf9, .slice xb X.blocks.length hb9, .slice xi X.inp.length hi9, .slice xo X.out.length ho9, .int .i64 X.status, .int .i64 X.trap]] wr fun e w' => e = .returned (.agg #[.int .i64 o.1, .int .i64 o.2]) ∧ Below wr.heap.size wr w') := opOf_any X p _ _ _ _ _ wr hck (by have := hsmX.fr; omega) x kk pc f o h1 h2 h4x h4y h5 h6 h7
      have HCO : Hid (∀ W, Calls Tryz.prog 30 #[.agg #[.int .i64 o.1, .int .i64 o.2]] W fun e w' => e = .returned (.tuple #[.int .i64 (costM o.1), .int .i64 0]) ∧ Below W.heap.size W w') := fun W => by have := mCost_any o.1 o.2 W; rw [h8, if_pos rfl] at this; exact this
      have hce : checkE p X = 0 := checkE_zero.2 ⟨HS.out.1, HS.out.2.1, hst.right⟩
      have HSTEP : Hid (∀ W, Below wr.heap.size wr W → Calls Tryz.prog 15 #[.agg #[.slice pp p.length qp], .agg #[.slice xf X.frames.length hf9, .slice xb X.blocks.length hb9, .slice xi X.inp.length hi9, .slice xo X.out.length ho9, .int .i64 X.status, .int .i64 X.trap]] W (MRet (stepM p X) 0 W)) := fun W hW => by
        have := mStep_any X p _ _ _ _ _ W (hck.below hW) (right_pc HS.out.1 HS.out.2.1 hst.right)
        rw [hce, if_pos rfl] at this
        exact this
      have HST := hideP hst
      have HLO := hideP h9
      have HXA := hideP hm
      have HXX := hideP hx
      have HBR := hideP hb
      have hcm := costM_le o.1
      have hlow := hst.low
      have hpd := hst.paid
      have KXR : Hid (∀ W, Below wr.heap.size wr W → W.cell? ⟨w5.heap.size, 0, none⟩ = some (.slice xf X.frames.length hf9) ∧ W.cell? ⟨w5.heap.size, 1, none⟩ = some (.slice xb X.blocks.length hb9) ∧ W.cell? ⟨w5.heap.size, 2, none⟩ = some (.slice xi X.inp.length hi9) ∧ W.cell? ⟨w5.heap.size, 3, none⟩ = some (.slice xo X.out.length ho9) ∧ W.cell? ⟨w5.heap.size, 4, none⟩ = some (.int .i64 X.status) ∧ W.cell? ⟨w5.heap.size, 5, none⟩ = some (.int .i64 X.trap)) := fun W hW => by
        have h1 := (hW.block _ (heap_lt hx)).trans hx
        exact ⟨cell_at' h1 0, cell_at' h1 1, cell_at' h1 2, cell_at' h1 3, cell_at' h1 4, cell_at' h1 5⟩
      have KCR : Hid (∀ W, Below wr.heap.size wr W → W.cell? ⟨w.heap.size, 0, none⟩ = some (.slice pp p.length qp)) := fun W hW => (KC.out W (bthen0 B5.out (bthen0 hb hW))).1
      clear hst hm hx hb hck hce h1 h2 h4x h4y h5 h6 h7 h8 h9 h10 hsmX hs01
      go_wp2_with fail
      refine HOP.out.mono ?_
      rintro e w8 ⟨rfl, b8⟩
      have hco8 := HCO.out w8
      have B8 := hideP b8
      generalize hcg : costM o.1 = c at *
      have HCG := hideP hcg
      clear b8 hcg
      go_wp2_with fail
      refine hco8.mono ?_
      rintro e w9 ⟨rfl, b9⟩
      have B9 := hideP (bthen0 B8.out b9)
      clear b9 B8 hco8
      obtain ⟨x0', x1', x2', x3', x4', x5'⟩ := KXR.out w9 B9.out
      have e0' := KCR.out w9 B9.out
      clear d0 d1 d2 d3 d4 d5 e0
      by_cases hlt : k < c
      · have u1 : decide (c > k) = true := by simpa using hlt
        have u1' : decide (k < c) = true := by simpa using hlt
        have heq : t3 = (X, k) := steps_poor HR3.out HST.out HLO.out (by rw [HCG.out]; exact hlt)
        have hm := HXA.out.below B9.out
        have hb := bthen0 HBR.out B9.out
        have hrt := (HST.out.right)
        have hce : checkE p X = 0 := checkE_zero.2 ⟨HS.out.1, HS.out.2.1, hrt⟩
        have HSAME : Hid (Calls Tryz.prog 24 #[.agg #[.slice xf X.frames.length hf9, .slice xb X.blocks.length hb9, .slice xi X.inp.length hi9, .slice xo X.out.length ho9, .int .i64 X.status, .int .i64 X.trap], .agg #[.slice qf3 t3.1.frames.length kf3, .slice qb3 t3.1.blocks.length kb3, .slice qi3 t3.1.inp.length ki3, .slice qo3 t3.1.out.length ko3, .int .i64 t3.1.status, .int .i64 t3.1.trap]] w9 fun e w' => e = .returned (.bool true) ∧ Below w9.heap.size w9 w') := (sameMachine_any X t3.1 _ _ _ _ _ _ _ _ w9 hm (HA3.out.below (bthen0 F5.out (bthen0 (Below.refl _ w5) hb)))).mono fun e w' ⟨r, z1, z2, z3⟩ => ⟨by rw [z1, z2.2 (by rw [heq])], z3⟩
        have HCHK : Hid (∀ W, Below w9.heap.size w9 W → Calls Tryz.prog 21 #[.agg #[.slice pp p.length qp], .agg #[.slice qf3 t3.1.frames.length kf3, .slice qb3 t3.1.blocks.length kb3, .slice qi3 t3.1.inp.length ki3, .slice qo3 t3.1.out.length ko3, .int .i64 t3.1.status, .int .i64 t3.1.trap]] W fun e w' => e = .returned (.int .i64 0) ∧ Below W.heap.size W w') := fun W hW => by
          have h1 := HA3.out.below (bthen0 F5.out (bthen0 (Below.refl _ w5) (bthen0 hb hW)))
          have hr3 : RightM p (entP p) t3.1 := by rw [heq]; exact hrt
          have h2 := mCheck_any t3.1 p _ _ _ _ _ W ⟨(HH.out.below (bthen0 B5.out (bthen0 hb hW))).fns, (HH.out.below (bthen0 B5.out (bthen0 hb hW))).cap, h1⟩ (right_pc HS.out.1 HS.out.2.1 hr3)
          have h3 : checkE p t3.1 = 0 := by rw [heq]; exact hce
          rw [h3] at h2
          exact h2
        have hk2 : t3.2 = k := by rw [heq]
        have HFIN := hideP (bthen0 HB1.out (bthen0 B5.out hb))
        have K3R : Hid (∀ W, Below w9.heap.size w9 W → W.cell? ⟨w3.heap.size, 0, none⟩ = some (.slice qf3 t3.1.frames.length kf3) ∧ W.cell? ⟨w3.heap.size, 1, none⟩ = some (.slice qb3 t3.1.blocks.length kb3) ∧ W.cell? ⟨w3.heap.size, 2, none⟩ = some (.slice qi3 t3.1.inp.length ki3) ∧ W.cell? ⟨w3.heap.size, 3, none⟩ = some (.slice qo3 t3.1.out.length ko3) ∧ W.cell? ⟨w3.heap.size, 4, none⟩ = some (.int .i64 t3.1.status) ∧ W.cell? ⟨w3.heap.size, 5, none⟩ = some (.int .i64 t3.1.trap)) := fun W hW => K3.out W (bthen0 F5.out (bthen0 (Below.refl _ w5) (bthen0 hb hW)))
        have KCR : Hid (∀ W, Below w9.heap.size w9 W → W.cell? ⟨w.heap.size, 0, none⟩ = some (.slice pp p.length qp)) := fun W hW => (KC.out W (bthen0 B5.out (bthen0 hb hW))).1
        obtain ⟨y0, y1, y2, y3, y4, y5⟩ := K3R.out w9 (Below.refl _ _)
        clear heq hrt hce hm hb
        go_wp2_with fail
        refine HSAME.out.mono ?_
        rintro e w8 ⟨rfl, b8⟩
        obtain ⟨y0', y1', y2', y3', y4', y5'⟩ := K3R.out w8 b8
        have e0' := KCR.out w8 b8
        have B8 := hideP b8
        clear b8 y0 y1 y2 y3 y4 y5
        go_wp2_with fail
        refine (HCHK.out w8 B8.out).mono ?_
        rintro e w9 ⟨rfl, b9⟩
        go_wp2
        go_ret
        exact ⟨by simp [hk2], bthen0 HFIN.out (bthen0 B8.out b9)⟩
      have u1 : decide (c > k) = false := by simp; omega
      have u1' : decide (k < c) = false := by simp; omega
      go_wp2_with fail
      refine (HSTEP.out w9 B9.out).mono ?_
      rintro e w10 ⟨nf, nb, ni, no, rfl, hres, b10⟩
      have b10w := bthen0 HBR.out (bthen0 B9.out b10)
      have hx10 := ((bthen0 B9.out b10).block _ (heap_lt HXX.out)).trans HXX.out
      obtain ⟨⟨qf, kf, hqf⟩, ⟨qb, kb, hqb⟩, ⟨qi, ki, hqi⟩, ⟨qo, ko, hqo⟩⟩ := mres_shpN hres
      subst hqf hqb hqi hqo
      obtain ⟨Y, hY⟩ : ∃ Y, stepM p X = Y := ⟨_, rfl⟩
      have hright := (steps_on HS.out.1 HS.out.2.1 HR3.out HST.out HLO.out (by rw [HCG.out]; omega) hst9)
      rw [hY] at hres hright ⊢
      rw [HCG.out] at hright
      have hi100 : Y.inp.length ≤ 100 := by have := (right_small HS.out.1 HS.out.2.1 hright.right).1.inp; omega
      obtain ⟨V10, hV10⟩ : ∃ V10, w10.alloc (.cells #[.slice qf Y.frames.length kf, .slice qb Y.blocks.length kb, .slice qi Y.inp.length ki, .slice qo Y.out.length ko, .int .i64 Y.status, .int .i64 Y.trap] 29) = V10 := ⟨_, rfl⟩
      have a10 : Below w10.heap.size w10 V10 := by rw [← hV10]; exact (Below.refl _ w10).alloc (Nat.le_refl _) _
      have v10 : V10.heap[w10.heap.size]? = some (.cells #[.slice qf Y.frames.length kf, .slice qb Y.blocks.length kb, .slice qi Y.inp.length ki, .slice qo Y.out.length ko, .int .i64 Y.status, .int .i64 Y.trap] 29 (0, 0)) := by rw [← hV10]; exact World.alloc_heap_new w10 _
      have q0 := cell_at' v10 0
      have q1 := cell_at' v10 1
      have q2 := cell_at' v10 2
      have q3 := cell_at' v10 3
      have q4 := cell_at' v10 4
      have q5 := cell_at' v10 5
      simp at q0 q1 q2 q3 q4 q5
      have hxV := (a10.block _ (heap_lt hx10)).trans hx10
      have zq := Lib.frozen_of_heap hxV
      have z0 := zq 0
      have z1 := zq 1
      have z2 := zq 2
      have z3 := zq 3
      have z4 := zq 4
      have z5 := zq 5
      obtain ⟨r0, r1, r2, r3, r4, r5⟩ : V10.cell? ⟨w5.heap.size, 0, none⟩ = some (.slice xf X.frames.length hf9) ∧ V10.cell? ⟨w5.heap.size, 1, none⟩ = some (.slice xb X.blocks.length hb9) ∧ V10.cell? ⟨w5.heap.size, 2, none⟩ = some (.slice xi X.inp.length hi9) ∧ V10.cell? ⟨w5.heap.size, 3, none⟩ = some (.slice xo X.out.length ho9) ∧ V10.cell? ⟨w5.heap.size, 4, none⟩ = some (.int .i64 X.status) ∧ V10.cell? ⟨w5.heap.size, 5, none⟩ = some (.int .i64 X.trap) := ⟨cell_at' hxV 0, cell_at' hxV 1, cell_at' hxV 2, cell_at' hxV 3, cell_at' hxV 4, cell_at' hxV 5⟩
      have hlow10 := bthen0 b10w a10
      have hs5 : w5.heap.size ≤ w9.heap.size := (bthen0 HBR.out B9.out).size
      have HFB := hideP (begin_fin (w0 := w5) (z := w5.heap.size) ((hres.below a10).low hs5) hi100 hlow10 hxV (Nat.le_refl _))
      have HRIGHT := hideP hright
      have hwk : IntKind.i64.wrap (k - c) = k - c := by rw [IntKind.wrap_i64]; omega
      have hwi : IntKind.i64.wrap ((i : Int) + 1) = (i : Int) + 1 := by rw [IntKind.wrap_i64]; omega
      clear zq hx10 hxV v10 a10 hres b10 b10w hlow10 hright hY x0' x1' x2' x3' x4' x5' HST HLO HXX HBR hs5
      go_wp2
      go_roundw
      case rel =>
        obtain ⟨f1, f2, f3⟩ := HFB.out
        exact ⟨i + 1, Y, k - c, _, _, _, _, _, _, _, _, by omega, by go_num, rfl, HRIGHT.out, f1, f2, f3⟩
      case measure => simp [intOf]; omega
    · have e4 : decide ((i : Int) > 0) = true := by simp; omega
      have e4' : decide (i > 0) = true := by simp; omega
      have e4'' : decide (0 < i) = true := by simp; omega
      have e5 : (X.status == 1) = false := by simp; omega
      obtain ⟨x, kk, pc, f, o, h1, h2, h4x, h4y, h5, h6, h7, h8, h9, h10⟩ := next_small HS.out.1 HS.out.2.1 hst.right hs01
      have hsmX := (right_small HS.out.1 HS.out.2.1 hst.right).1
      have hck : CkAt wr p (.slice pp p.length qp) _ _ _ _ X := ⟨(HH.out.below (bthen0 B5.out hb)).fns, (HH.out.below (bthen0 B5.out hb)).cap, hm⟩
      have HOP : Hid (Calls Tryz.prog 25 #[.agg #[.slice pp p.length qp], .agg #[.slice xf X.frames.length hf9, .slice xb X.blocks.length hb9, .slice xi X.inp.length hi9, .slice xo X.out.length ho9, .int .i64 X.status, .int .i64 X.trap]] wr fun e w' => e = .returned (.agg #[.int .i64 o.1, .int .i64 o.2]) ∧ Below wr.heap.size wr w') := opOf_any X p _ _ _ _ _ wr hck (by have := hsmX.fr; omega) x kk pc f o h1 h2 h4x h4y h5 h6 h7
      have HCO : Hid (∀ W, Calls Tryz.prog 30 #[.agg #[.int .i64 o.1, .int .i64 o.2]] W fun e w' => e = .returned (.tuple #[.int .i64 (costM o.1), .int .i64 0]) ∧ Below W.heap.size W w') := fun W => by have := mCost_any o.1 o.2 W; rw [h8, if_pos rfl] at this; exact this
      have hce : checkE p X = 0 := checkE_zero.2 ⟨HS.out.1, HS.out.2.1, hst.right⟩
      have HSTEP : Hid (∀ W, Below wr.heap.size wr W → Calls Tryz.prog 15 #[.agg #[.slice pp p.length qp], .agg #[.slice xf X.frames.length hf9, .slice xb X.blocks.length hb9, .slice xi X.inp.length hi9, .slice xo X.out.length ho9, .int .i64 X.status, .int .i64 X.trap]] W (MRet (stepM p X) 0 W)) := fun W hW => by
        have := mStep_any X p _ _ _ _ _ W (hck.below hW) (right_pc HS.out.1 HS.out.2.1 hst.right)
        rw [hce, if_pos rfl] at this
        exact this
      have HST := hideP hst
      have HLO := hideP h9
      have HXA := hideP hm
      have HXX := hideP hx
      have HBR := hideP hb
      have hcm := costM_le o.1
      have hlow := hst.low
      have hpd := hst.paid
      have KXR : Hid (∀ W, Below wr.heap.size wr W → W.cell? ⟨w5.heap.size, 0, none⟩ = some (.slice xf X.frames.length hf9) ∧ W.cell? ⟨w5.heap.size, 1, none⟩ = some (.slice xb X.blocks.length hb9) ∧ W.cell? ⟨w5.heap.size, 2, none⟩ = some (.slice xi X.inp.length hi9) ∧ W.cell? ⟨w5.heap.size, 3, none⟩ = some (.slice xo X.out.length ho9) ∧ W.cell? ⟨w5.heap.size, 4, none⟩ = some (.int .i64 X.status) ∧ W.cell? ⟨w5.heap.size, 5, none⟩ = some (.int .i64 X.trap)) := fun W hW => by
        have h1 := (hW.block _ (heap_lt hx)).trans hx
        exact ⟨cell_at' h1 0, cell_at' h1 1, cell_at' h1 2, cell_at' h1 3, cell_at' h1 4, cell_at' h1 5⟩
      have KCR : Hid (∀ W, Below wr.heap.size wr W → W.cell? ⟨w.heap.size, 0, none⟩ = some (.slice pp p.length qp)) := fun W hW => (KC.out W (bthen0 B5.out (bthen0 hb hW))).1
      clear hst hm hx hb hck hce h1 h2 h4x h4y h5 h6 h7 h8 h9 h10 hsmX hs01
      go_wp2_with fail
      refine HOP.out.mono ?_
      rintro e w8 ⟨rfl, b8⟩
      have hco8 := HCO.out w8
      have B8 := hideP b8
      generalize hcg : costM o.1 = c at *
      have HCG := hideP hcg
      clear b8 hcg
      go_wp2_with fail
      refine hco8.mono ?_
      rintro e w9 ⟨rfl, b9⟩
      have B9 := hideP (bthen0 B8.out b9)
      clear b9 B8 hco8
      obtain ⟨x0', x1', x2', x3', x4', x5'⟩ := KXR.out w9 B9.out
      have e0' := KCR.out w9 B9.out
      clear d0 d1 d2 d3 d4 d5 e0
      by_cases hlt : k < c
      · have u1 : decide (c > k) = true := by simpa using hlt
        have u1' : decide (k < c) = true := by simpa using hlt
        have heq : t3 = (X, k) := steps_poor HR3.out HST.out HLO.out (by rw [HCG.out]; exact hlt)
        have hm := HXA.out.below B9.out
        have hb := bthen0 HBR.out B9.out
        have hrt := (HST.out.right)
        have hce : checkE p X = 0 := checkE_zero.2 ⟨HS.out.1, HS.out.2.1, hrt⟩
        have HSAME : Hid (Calls Tryz.prog 24 #[.agg #[.slice xf X.frames.length hf9, .slice xb X.blocks.length hb9, .slice xi X.inp.length hi9, .slice xo X.out.length ho9, .int .i64 X.status, .int .i64 X.trap], .agg #[.slice qf3 t3.1.frames.length kf3, .slice qb3 t3.1.blocks.length kb3, .slice qi3 t3.1.inp.length ki3, .slice qo3 t3.1.out.length ko3, .int .i64 t3.1.status, .int .i64 t3.1.trap]] w9 fun e w' => e = .returned (.bool true) ∧ Below w9.heap.size w9 w') := (sameMachine_any X t3.1 _ _ _ _ _ _ _ _ w9 hm (HA3.out.below (bthen0 F5.out (bthen0 (Below.refl _ w5) hb)))).mono fun e w' ⟨r, z1, z2, z3⟩ => ⟨by rw [z1, z2.2 (by rw [heq])], z3⟩
        have HCHK : Hid (∀ W, Below w9.heap.size w9 W → Calls Tryz.prog 21 #[.agg #[.slice pp p.length qp], .agg #[.slice qf3 t3.1.frames.length kf3, .slice qb3 t3.1.blocks.length kb3, .slice qi3 t3.1.inp.length ki3, .slice qo3 t3.1.out.length ko3, .int .i64 t3.1.status, .int .i64 t3.1.trap]] W fun e w' => e = .returned (.int .i64 0) ∧ Below W.heap.size W w') := fun W hW => by
          have h1 := HA3.out.below (bthen0 F5.out (bthen0 (Below.refl _ w5) (bthen0 hb hW)))
          have hr3 : RightM p (entP p) t3.1 := by rw [heq]; exact hrt
          have h2 := mCheck_any t3.1 p _ _ _ _ _ W ⟨(HH.out.below (bthen0 B5.out (bthen0 hb hW))).fns, (HH.out.below (bthen0 B5.out (bthen0 hb hW))).cap, h1⟩ (right_pc HS.out.1 HS.out.2.1 hr3)
          have h3 : checkE p t3.1 = 0 := by rw [heq]; exact hce
          rw [h3] at h2
          exact h2
        have hk2 : t3.2 = k := by rw [heq]
        have HFIN := hideP (bthen0 HB1.out (bthen0 B5.out hb))
        have K3R : Hid (∀ W, Below w9.heap.size w9 W → W.cell? ⟨w3.heap.size, 0, none⟩ = some (.slice qf3 t3.1.frames.length kf3) ∧ W.cell? ⟨w3.heap.size, 1, none⟩ = some (.slice qb3 t3.1.blocks.length kb3) ∧ W.cell? ⟨w3.heap.size, 2, none⟩ = some (.slice qi3 t3.1.inp.length ki3) ∧ W.cell? ⟨w3.heap.size, 3, none⟩ = some (.slice qo3 t3.1.out.length ko3) ∧ W.cell? ⟨w3.heap.size, 4, none⟩ = some (.int .i64 t3.1.status) ∧ W.cell? ⟨w3.heap.size, 5, none⟩ = some (.int .i64 t3.1.trap)) := fun W hW => K3.out W (bthen0 F5.out (bthen0 (Below.refl _ w5) (bthen0 hb hW)))
        have KCR : Hid (∀ W, Below w9.heap.size w9 W → W.cell? ⟨w.heap.size, 0, none⟩ = some (.slice pp p.length qp)) := fun W hW => (KC.out W (bthen0 B5.out (bthen0 hb hW))).1
        obtain ⟨y0, y1, y2, y3, y4, y5⟩ := K3R.out w9 (Below.refl _ _)
        clear heq hrt hce hm hb
        go_wp2_with fail
        refine HSAME.out.mono ?_
        rintro e w8 ⟨rfl, b8⟩
        obtain ⟨y0', y1', y2', y3', y4', y5'⟩ := K3R.out w8 b8
        have e0' := KCR.out w8 b8
        have B8 := hideP b8
        clear b8 y0 y1 y2 y3 y4 y5
        go_wp2_with fail
        refine (HCHK.out w8 B8.out).mono ?_
        rintro e w9 ⟨rfl, b9⟩
        go_wp2
        go_ret
        exact ⟨by simp [hk2], bthen0 HFIN.out (bthen0 B8.out b9)⟩
      have u1 : decide (c > k) = false := by simp; omega
      have u1' : decide (k < c) = false := by simp; omega
      go_wp2_with fail
      refine (HSTEP.out w9 B9.out).mono ?_
      rintro e w10 ⟨nf, nb, ni, no, rfl, hres, b10⟩
      have b10w := bthen0 HBR.out (bthen0 B9.out b10)
      have hx10 := ((bthen0 B9.out b10).block _ (heap_lt HXX.out)).trans HXX.out
      obtain ⟨⟨qf, kf, hqf⟩, ⟨qb, kb, hqb⟩, ⟨qi, ki, hqi⟩, ⟨qo, ko, hqo⟩⟩ := mres_shpN hres
      subst hqf hqb hqi hqo
      obtain ⟨Y, hY⟩ : ∃ Y, stepM p X = Y := ⟨_, rfl⟩
      have hright := (steps_on HS.out.1 HS.out.2.1 HR3.out HST.out HLO.out (by rw [HCG.out]; omega) hst9)
      rw [hY] at hres hright ⊢
      rw [HCG.out] at hright
      have hi100 : Y.inp.length ≤ 100 := by have := (right_small HS.out.1 HS.out.2.1 hright.right).1.inp; omega
      obtain ⟨V10, hV10⟩ : ∃ V10, w10.alloc (.cells #[.slice qf Y.frames.length kf, .slice qb Y.blocks.length kb, .slice qi Y.inp.length ki, .slice qo Y.out.length ko, .int .i64 Y.status, .int .i64 Y.trap] 29) = V10 := ⟨_, rfl⟩
      have a10 : Below w10.heap.size w10 V10 := by rw [← hV10]; exact (Below.refl _ w10).alloc (Nat.le_refl _) _
      have v10 : V10.heap[w10.heap.size]? = some (.cells #[.slice qf Y.frames.length kf, .slice qb Y.blocks.length kb, .slice qi Y.inp.length ki, .slice qo Y.out.length ko, .int .i64 Y.status, .int .i64 Y.trap] 29 (0, 0)) := by rw [← hV10]; exact World.alloc_heap_new w10 _
      have q0 := cell_at' v10 0
      have q1 := cell_at' v10 1
      have q2 := cell_at' v10 2
      have q3 := cell_at' v10 3
      have q4 := cell_at' v10 4
      have q5 := cell_at' v10 5
      simp at q0 q1 q2 q3 q4 q5
      have hxV := (a10.block _ (heap_lt hx10)).trans hx10
      have zq := Lib.frozen_of_heap hxV
      have z0 := zq 0
      have z1 := zq 1
      have z2 := zq 2
      have z3 := zq 3
      have z4 := zq 4
      have z5 := zq 5
      obtain ⟨r0, r1, r2, r3, r4, r5⟩ : V10.cell? ⟨w5.heap.size, 0, none⟩ = some (.slice xf X.frames.length hf9) ∧ V10.cell? ⟨w5.heap.size, 1, none⟩ = some (.slice xb X.blocks.length hb9) ∧ V10.cell? ⟨w5.heap.size, 2, none⟩ = some (.slice xi X.inp.length hi9) ∧ V10.cell? ⟨w5.heap.size, 3, none⟩ = some (.slice xo X.out.length ho9) ∧ V10.cell? ⟨w5.heap.size, 4, none⟩ = some (.int .i64 X.status) ∧ V10.cell? ⟨w5.heap.size, 5, none⟩ = some (.int .i64 X.trap) := ⟨cell_at' hxV 0, cell_at' hxV 1, cell_at' hxV 2, cell_at' hxV 3, cell_at' hxV 4, cell_at' hxV 5⟩
      have hlow10 := bthen0 b10w a10
      have hs5 : w5.heap.size ≤ w9.heap.size := (bthen0 HBR.out B9.out).size
      have HFB := hideP (begin_fin (w0 := w5) (z := w5.heap.size) ((hres.below a10).low hs5) hi100 hlow10 hxV (Nat.le_refl _))
      have HRIGHT := hideP hright
      have hwk : IntKind.i64.wrap (k - c) = k - c := by rw [IntKind.wrap_i64]; omega
      have hwi : IntKind.i64.wrap ((i : Int) + 1) = (i : Int) + 1 := by rw [IntKind.wrap_i64]; omega
      clear zq hx10 hxV v10 a10 hres b10 b10w hlow10 hright hY x0' x1' x2' x3' x4' x5' HST HLO HXX HBR hs5
      go_wp2
      go_roundw
      case rel =>
        obtain ⟨f1, f2, f3⟩ := HFB.out
        exact ⟨i + 1, Y, k - c, _, _, _, _, _, _, _, _, by omega, by go_num, rfl, HRIGHT.out, f1, f2, f3⟩
      case measure => simp [intOf]; omega
set_option maxRecDepth 100000 in
theorem lifted (os : Os) (started : os.Started) (H : Type) (enc : TypeId × Value → H) :
    ReturnsInHanded {} Tryz.checked os 9 .any (Rows.meterStepsSpec.pre6 enc Tryz.prog Tryz.f9 Rows.meterStepsRow.domain false) (Rows.meterStepsSpec.post enc Tryz.prog Tryz.f9 false true false false) := by
  refine returnsInHanded_of_change_sized (C := Tryz.checked) own started (by kernel_rfl) Tryz.func9
    (ChangeSpec.witness6 (enc := enc) (C := Tryz.checked) false ⟨#[], #[.agg #[.slice none 0 0], .agg #[.slice none 0 0, .slice none 0 0, .slice none 0 0, .slice none 0 0, .int .i64 0, .int .i64 0], .int .i64 0], []⟩ 8 (by kernel_rfl) (by kernel_rfl) (by kernel_rfl) (by kernel_rfl)) ?_
  intro W base args ds gs before hval0 hW hcnd hsz0 hholds
  have hval : ∀ (j : Nat) t v, Tryz.f9.params[j]? = some t → args[j]? = some v → Value.okWide Tryz.prog W .any base t v := hval0
  have hsz : (DataW.weightsEach Tryz.prog (Tryz.f9.params.toList ++ Rows.meterStepsSpec.plain.varTypes Tryz.prog) (ds ++ gs)).all (· ≤ reachBytes) = true := hsz0
  have hW' := hW
  obtain ⟨p, q, hA0, hV, rfl, hfz, hnd⟩ := hW
  have hA : DataW.TrodAll enc Tryz.prog W 0 (fun _ => true) true Tryz.f9.params.toList args.toList ds p := hA0
  rw [Tryz.params9] at hA hval hsz
  obtain ⟨v0, vs0, d0, ds0, p0, q0, hargs, rfl, rfl, h0, r0⟩ := trodAll_cons hA
  obtain ⟨v1, vs1, d1, ds1, p1, q1, rfl, rfl, rfl, h1, r1⟩ := trodAll_cons r0
  obtain ⟨v2, vs2, d2, ds2, p2, q2, rfl, rfl, rfl, h2, r2⟩ := trodAll_cons r1
  obtain ⟨rfl, rfl, rfl⟩ := trodAll_nil r2
  obtain rfl : args = #[v0, v1, v2] := by cases args; simp_all
  obtain ⟨rfl, rfl⟩ := trodVars_none hV
  have k0 := h0
  have k1 := h1
  have k2 := h2
  have lt0 : ∀ x ∈ p0, x.block < W.heap.size := by obtain ⟨m, hm⟩ := k0; exact DataW.trod_lt m _ _ _ hm
  have lt1 : ∀ x ∈ p1, x.block < W.heap.size := by obtain ⟨m, hm⟩ := k1; exact DataW.trod_lt m _ _ _ hm
  have lt2 : ∀ x ∈ p2, x.block < W.heap.size := by obtain ⟨m, hm⟩ := k2; exact DataW.trod_lt m _ _ _ hm
  have hw0 : ∀ n ∈ d0.weights Tryz.prog 24, n ≤ reachBytes := fun n hn => by have := List.all_eq_true.1 hsz n (DataW.weights_mem_each (j := 0) rfl rfl n hn); simpa using this
  obtain ⟨c0, l0, rfl, hl0⟩ := open_progC (hval 0 24 v0 rfl rfl) h0 hw0
  have hw1 : ∀ n ∈ d1.weights Tryz.prog 29, n ≤ reachBytes := fun n hn => by have := List.all_eq_true.1 hsz n (DataW.weights_mem_each (j := 1) rfl rfl n hn); simpa using this
  obtain ⟨e10, e11, e12, e13, M1, rfl, hM1, hL1⟩ := open_machV (hval 1 29 v1 rfl rfl) h1 hw1
  obtain ⟨x2, rfl, hd2, hp2, wx2⟩ := open_int Tryz.underlying3 (hval 2 3 v2 rfl rfl) h2
  have hx2 : -9223372036854775808 ≤ x2 ∧ x2 ≤ 9223372036854775807 := by simpa [Lit.wf, IntKind.min, IntKind.max, IntKind.bits, IntKind.signed] using wx2
  clear hA0 hval0 hsz0
  refine (walk W l0 c0 hl0 M1 e10 e11 e12 e13 hM1 hL1 x2 hx2).mono fun e W' ⟨he, bel⟩ => ?_
  subst he
  exact ⟨_, rfl, _, _, _, [], _, [], hW', trodAll_mk1 (shut_bool Tryz.underlying4 _), (trodAll_cons_mk (Below.trod laidOut (by kernel_rfl) (of_decide_eq_true (by kernel_rfl)) k0 bel lt0) (trodAll_cons_mk (Below.trod laidOut (by kernel_rfl) (of_decide_eq_true (by kernel_rfl)) k1 bel lt1) (trodAll_cons_mk (Below.trod laidOut (by kernel_rfl) (of_decide_eq_true (by kernel_rfl)) k2 bel lt2) trodAll_mk0))), rfl, bel.frame _, fun h => by cases h⟩
theorem over : Rows.meterStepsRow.holds Tryz.pinned (OpenSpec.ofChange Rows.meterStepsSpec) :=
  OpenClaim.holds_of_wide 9 Tryz.f9 rfl rfl rfl rfl rfl rfl rfl ⟨rfl, rfl, rfl, rfl, rfl⟩ rfl rfl rfl rfl rfl (by kernel_rfl) Tryz.func9 (by kernel_rfl)
    (of_decide_eq_true (by kernel_rfl)) (by unfold Func.isWrapper; first | (rw [if_pos (by decide +kernel)]; kernel_rfl) | (rw [if_neg (by decide +kernel)]; exact ⟨rfl, rfl⟩))
    (fun os started H enc _ => lifted os started H enc)
end Go.Proofs.YtcadpoknolefpaaGreat.meterSteps
namespace Go.Proofs.YtcadpoknolefpaaGreat
/-- For every input the law MeterSteps returns true, and the arguments read as they did. -/
theorem meterSteps_holds : Rows.MeterStepsSaid := meterSteps.over
end Go.Proofs.YtcadpoknolefpaaGreat

