/- WITHOUT FUEL NOTHING IS DONE; what is Done or Trapped takes none; more fuel is never less far: for every program and machine and number and number MeterFree returns true. No condition. -/
import Derived.Test.YtcadpoknolefpaaGreatB25
import Derived.Test.YtcadpoknolefpaaGreatB24
import Derived.Test.YtcadpoknolefpaaGreatB18
import Derived.Test.YtcadpoknolefpaaGreatB7
namespace Go.Proofs.YtcadpoknolefpaaGreat.meterFree
open Go.ChangeShapes Go.WideShapes Go.ChangeAt Go.RowKit
set_option linter.unusedVariables false
set_option linter.unusedSimpArgs false
theorem own : ownKnob Tryz.prog.godebug = none := by kernel_rfl
theorem laidOut : laidOutB Tryz.prog = true := by kernel_rfl
theorem run_farther {p : List Fn} {e : Nat → Nat → Option (List Int)} {M : Mach} {n m : Int} {t u : MF} (hp : progErr p = 0) (he : AllFit p e) (hR : RightM p e M) (h0 : 0 ≤ n) (hnm : n ≤ m) (h : RunIs p M n t) (k : RunIs p M m u) : FartherM t.1 u.1 := by
  by_cases h1 : M.status = 1
  · have a := run_wait hp he hR h1 h
    have b := run_wait hp he hR h1 k
    subst a b
    exact farther_refl _
  · have hr := (run_right hp he hR h0 h).1
    unfold RunIs at h k
    rw [firstS_on h1] at h k
    obtain ⟨d, hd⟩ : ∃ d : Int, m = n + d := ⟨m - n, by omega⟩
    subst hd
    have hm := ends_more h (d := d) (by omega)
    have hb := ends_bounds h h0
    obtain ⟨v, hv⟩ := ends_some p (t.2 + d).toNat (t.1, t.2 + d) (by simp only; simp only at hb; omega)
    have := ends_one k (hm.2 v hv)
    subst this
    exact ends_farther (s := (t.1, t.2 + d)) hp he hv hr
theorem run_done {p : List Fn} {M : Mach} {n : Int} {t : MF} (h : RunIs p M n t) (hs : M.status = 2 ∨ M.status = 3) : t = (M, n) := by
  unfold RunIs at h
  rw [firstS_on (by omega)] at h
  exact ends_one h (.stop (by simp only; omega))
set_option maxRecDepth 100000 in
set_option maxHeartbeats 8000000 in
theorem walk (w : World) (p : List Fn) (pv : Value) (hpf : ProgFull w pv p) (M : Mach) (fv bv iv ov : Value) (hM : MachAt w fv bv iv ov M) (hML : MachLong M) (n : Int) (hn : -9223372036854775808 ≤ n ∧ n ≤ 9223372036854775807) (d : Int) (hd : -9223372036854775808 ≤ d ∧ d ≤ 9223372036854775807) :
    Calls Tryz.prog 10 #[.agg #[pv], .agg #[fv, bv, iv, ov, .int .i64 M.status, .int .i64 M.trap], .int .i64 n, .int .i64 d] w fun e w' => e = .returned (.bool true) ∧ Below w.heap.size w w' := by
  have hCk : CkAt w p pv fv bv iv ov M := ⟨hpf.at_, hpf.cap, hM⟩
  have hpc : PcOk M := fun x hx => (hML.fr.2 x hx).2.2
  obtain ⟨⟨pp, qp, hpv⟩, ⟨pf, cf, hfv⟩, ⟨pb, cb, hbv⟩, ⟨pi, ci, hiv⟩, ⟨po, co, hov⟩⟩ := hCk.shp
  subst hpv hfv hbv hiv hov
  obtain ⟨W1, hW1⟩ : ∃ W1, (w.alloc (.cells #[.slice pp p.length qp] 24)).alloc (.cells #[.slice pf M.frames.length cf, .slice pb M.blocks.length cb, .slice pi M.inp.length ci, .slice po M.out.length co, .int .i64 M.status, .int .i64 M.trap] 29) = W1 := ⟨_, rfl⟩
  have b1 : Below w.heap.size w W1 := by rw [← hW1]; exact ((Below.refl _ w).alloc (Nat.le_refl _) _).alloc (by simp) _
  have u1 : W1.heap[w.heap.size]? = some (.cells #[.slice pp p.length qp] 24 (0, 0)) := by rw [← hW1]; exact heap_old (World.alloc_heap_new w _) _
  have u2 : W1.heap[w.heap.size + 1]? = some (.cells #[.slice pf M.frames.length cf, .slice pb M.blocks.length cb, .slice pi M.inp.length ci, .slice po M.out.length co, .int .i64 M.status, .int .i64 M.trap] 29 (0, 0)) := by rw [← hW1]; exact new_two _ _ _
  have l1 := heap_lt u1
  have l2 := heap_lt u2
  have KC : Hid (∀ W, Below W1.heap.size W1 W → W.cell? ⟨w.heap.size, 0, none⟩ = some (.slice pp p.length qp) ∧ W.cell? ⟨w.heap.size + 1, 0, none⟩ = some (.slice pf M.frames.length cf) ∧ W.cell? ⟨w.heap.size + 1, 1, none⟩ = some (.slice pb M.blocks.length cb) ∧ W.cell? ⟨w.heap.size + 1, 2, none⟩ = some (.slice pi M.inp.length ci) ∧ W.cell? ⟨w.heap.size + 1, 3, none⟩ = some (.slice po M.out.length co) ∧ W.cell? ⟨w.heap.size + 1, 4, none⟩ = some (.int .i64 M.status) ∧ W.cell? ⟨w.heap.size + 1, 5, none⟩ = some (.int .i64 M.trap)) := fun W hW => by
    have h1 := (hW.block _ l1).trans u1
    have h2 := (hW.block _ l2).trans u2
    exact ⟨cell_at' h1 0, cell_at' h2 0, cell_at' h2 1, cell_at' h2 2, cell_at' h2 3, cell_at' h2 4, cell_at' h2 5⟩
  have HH := hideP (hCk.below b1)
  have HPC := hideP hpc
  have HB1 := hideP b1
  clear hpf hML hM hCk hpc u1 u2 b1
  go_enter Tryz.func10, Tryz.ntmps10
  go_wp2_with fail
  refine (meterBegun_any _).mono ?_
  rintro e w2 ⟨rfl, b2⟩
  obtain ⟨e0, d0, d1, d2, d3, d4, d5⟩ := KC.out w2 b2
  have HB2 := hideP b2
  have HRUN := hideP (fun (k : Int) (W : World) (hW : Below W1.heap.size W1 W) => mRun_any M p k _ _ _ _ _ W (HH.out.below hW) HPC.out)
  clear b2
  go_wp2_with fail
  refine (HRUN.out 0 w2 HB2.out).mono ?_
  rintro e w3 ⟨t3, ht3, nf3, nb3, ni3, no3, rfl, hr3, b3'⟩
  have b3 := bthen0 HB2.out b3'
  obtain ⟨⟨qf3, kf3, hqf3⟩, ⟨qb3, kb3, hqb3⟩, ⟨qi3, ki3, hqi3⟩, ⟨qo3, ko3, hqo3⟩⟩ := mres_shpN hr3
  subst hqf3 hqb3 hqi3 hqo3
  obtain ⟨V3, hV3⟩ : ∃ V3, w3.alloc (.cells #[.slice qf3 t3.1.frames.length kf3, .slice qb3 t3.1.blocks.length kb3, .slice qi3 t3.1.inp.length ki3, .slice qo3 t3.1.out.length ko3, .int .i64 t3.1.status, .int .i64 t3.1.trap] 29) = V3 := ⟨_, rfl⟩
  have c3 : Below w3.heap.size w3 V3 := by rw [← hV3]; exact (Below.refl _ w3).alloc (Nat.le_refl _) _
  have u3 : V3.heap[w3.heap.size]? = some (.cells #[.slice qf3 t3.1.frames.length kf3, .slice qb3 t3.1.blocks.length kb3, .slice qi3 t3.1.inp.length ki3, .slice qo3 t3.1.out.length ko3, .int .i64 t3.1.status, .int .i64 t3.1.trap] 29 (0, 0)) := by rw [← hV3]; exact World.alloc_heap_new w3 _
  have B3 := hideP (bthen0 b3 c3)
  have R3 := hideP (hr3.below c3)
  have F3 := hideP (bthen0 b3' c3)
  have K3 : Hid (∀ W, Below V3.heap.size V3 W → W.cell? ⟨w3.heap.size, 0, none⟩ = some (.slice qf3 t3.1.frames.length kf3) ∧ W.cell? ⟨w3.heap.size, 1, none⟩ = some (.slice qb3 t3.1.blocks.length kb3) ∧ W.cell? ⟨w3.heap.size, 2, none⟩ = some (.slice qi3 t3.1.inp.length ki3) ∧ W.cell? ⟨w3.heap.size, 3, none⟩ = some (.slice qo3 t3.1.out.length ko3) ∧ W.cell? ⟨w3.heap.size, 4, none⟩ = some (.int .i64 t3.1.status) ∧ W.cell? ⟨w3.heap.size, 5, none⟩ = some (.int .i64 t3.1.trap)) := fun W hW => by
    have h1 := (hW.block _ (heap_lt u3)).trans u3
    exact ⟨cell_at' h1 0, cell_at' h1 1, cell_at' h1 2, cell_at' h1 3, cell_at' h1 4, cell_at' h1 5⟩
  clear u3 hr3 b3 b3' c3
  clear e0 d0 d1 d2 d3 d4 d5
  obtain ⟨e0, d0, d1, d2, d3, d4, d5⟩ := KC.out V3 B3.out
  obtain ⟨x0, x1, x2, x3, x4, x5⟩ := K3.out V3 (Below.refl _ _)
  by_cases hc : checkE p M = 0
  rotate_left
  · have hE : runE p M 0 = checkE p M := by unfold runE; rw [if_pos hc]
    have hc' : (runE p M 0 != 0) = true := by rw [hE]; simpa using hc
    have hz := ht3.2 (by rw [hE]; exact hc)
    subst hz
    have HFIN := hideP (bthen0 HB1.out B3.out)
    clear hc hE HRUN ht3
    change V3.cell? ⟨w3.heap.size, 0, none⟩ = some (.slice qf3 0 kf3) at x0
    go_wp2
    go_ret
    exact ⟨by simp, HFIN.out⟩
  have hE : ∀ k : Int, 0 ≤ k → k ≤ 10000 → runE p M k = 0 := fun k ha hb => runE_zero.2 ⟨hc, ha, hb⟩
  have hE1 := hE 0 (by omega) (by omega)
  obtain ⟨hp, he, hR⟩ := checkE_zero.1 hc
  have hrun := ht3.1 hE1
  have hz := run_zero hp he hR hrun
  subst hz
  have sm := (right_small hp he hR).1
  have hi100 : M.inp.length ≤ 100 := by have := sm.inp; omega
  have HSAME : Hid (∀ W, Below V3.heap.size V3 W → Calls Tryz.prog 24 #[.agg #[.slice qf3 (M, (0 : Int)).1.frames.length kf3, .slice qb3 (M, (0 : Int)).1.blocks.length kb3, .slice qi3 (M, (0 : Int)).1.inp.length ki3, .slice qo3 (M, (0 : Int)).1.out.length ko3, .int .i64 (M, (0 : Int)).1.status, .int .i64 (M, (0 : Int)).1.trap], .agg #[.slice pf M.frames.length cf, .slice pb M.blocks.length cb, .slice pi M.inp.length ci, .slice po M.out.length co, .int .i64 M.status, .int .i64 M.trap]] W fun e w' => e = .returned (.bool true) ∧ Below W.heap.size W w') := fun W hW => (sameMachine_any (M, (0 : Int)).1 M _ _ _ _ _ _ _ _ W (MachAt.below (R3.out.at_ hi100) hW) (MachAt.below ((HH.out.below B3.out).mach) hW)).mono fun e w' ⟨r, z1, z2, z3⟩ => ⟨by rw [z1, z2.2 rfl], z3⟩
  have HS := hideP (And.intro hp (And.intro he hR))
  have HCE := hideP hc
  rw [hE1]
  clear hE1 hp he hR hrun ht3 hc sm
  go_wp2_with fail
  refine (HSAME.out V3 (Below.refl _ _)).mono ?_
  rintro e w4 ⟨rfl, b4⟩
  have F4 := hideP b4
  have B4 := hideP (bthen0 B3.out b4)
  clear e0 d0 d1 d2 d3 d4 d5 x0 x1 x2 x3 x4 x5 HSAME
  by_cases hx : n < 0 ∨ d < n ∨ 10000 < d
  · have hfin := bthen0 HB1.out B4.out
    clear b4
    by_cases h1 : n < 0
    · have t1 : decide (n < 0) = true := by simpa using h1
      clear hx h1
      go_wp2
      go_ret
      exact ⟨rfl, hfin⟩
    · have t1 : decide (n < 0) = false := by simpa using h1
      by_cases h2 : d < n
      · have t2 : decide (d < n) = true := by simpa using h2
        clear hx h1 h2
        go_wp2
        go_ret
        exact ⟨rfl, hfin⟩
      · have t2 : decide (d < n) = false := by simpa using h2
        have t3 : decide (d > 10000) = true := by simp; omega
        clear hx h1 h2
        go_wp2
        go_ret
        exact ⟨rfl, hfin⟩
  have t1 : decide (n < 0) = false := by simp; omega
  have t2 : decide (d < n) = false := by simp; omega
  have t3 : decide (d > 10000) = false := by simp; omega
  have h0 : 0 ≤ n := by omega
  have h4 : n ≤ 10000 := by omega
  have h5 : n ≤ d := by omega
  have h6 : d ≤ 10000 := by omega
  clear hx b4
  obtain ⟨e0, d0, d1, d2, d3, d4, d5⟩ := KC.out w4 B4.out
  have HEn := hideP (hE n h0 h4)
  have HEd := hideP (hE d (by omega) h6)
  clear hE
  go_wp2_with fail
  refine (HRUN.out n w4 B4.out).mono ?_
  rintro e w5 ⟨t5, ht5, nf5, nb5, ni5, no5, rfl, hr5, b5'⟩
  have b5 := bthen0 B4.out b5'
  obtain ⟨⟨qf5, kf5, hqf5⟩, ⟨qb5, kb5, hqb5⟩, ⟨qi5, ki5, hqi5⟩, ⟨qo5, ko5, hqo5⟩⟩ := mres_shpN hr5
  subst hqf5 hqb5 hqi5 hqo5
  obtain ⟨V5, hV5⟩ : ∃ V5, w5.alloc (.cells #[.slice qf5 t5.1.frames.length kf5, .slice qb5 t5.1.blocks.length kb5, .slice qi5 t5.1.inp.length ki5, .slice qo5 t5.1.out.length ko5, .int .i64 t5.1.status, .int .i64 t5.1.trap] 29) = V5 := ⟨_, rfl⟩
  have c5 : Below w5.heap.size w5 V5 := by rw [← hV5]; exact (Below.refl _ w5).alloc (Nat.le_refl _) _
  have u5 : V5.heap[w5.heap.size]? = some (.cells #[.slice qf5 t5.1.frames.length kf5, .slice qb5 t5.1.blocks.length kb5, .slice qi5 t5.1.inp.length ki5, .slice qo5 t5.1.out.length ko5, .int .i64 t5.1.status, .int .i64 t5.1.trap] 29 (0, 0)) := by rw [← hV5]; exact World.alloc_heap_new w5 _
  have B5 := hideP (bthen0 b5 c5)
  have R5 := hideP (hr5.below c5)
  have F5 := hideP (bthen0 b5' c5)
  have K5 : Hid (∀ W, Below V5.heap.size V5 W → W.cell? ⟨w5.heap.size, 0, none⟩ = some (.slice qf5 t5.1.frames.length kf5) ∧ W.cell? ⟨w5.heap.size, 1, none⟩ = some (.slice qb5 t5.1.blocks.length kb5) ∧ W.cell? ⟨w5.heap.size, 2, none⟩ = some (.slice qi5 t5.1.inp.length ki5) ∧ W.cell? ⟨w5.heap.size, 3, none⟩ = some (.slice qo5 t5.1.out.length ko5) ∧ W.cell? ⟨w5.heap.size, 4, none⟩ = some (.int .i64 t5.1.status) ∧ W.cell? ⟨w5.heap.size, 5, none⟩ = some (.int .i64 t5.1.trap)) := fun W hW => by
    have h1 := (hW.block _ (heap_lt u5)).trans u5
    exact ⟨cell_at' h1 0, cell_at' h1 1, cell_at' h1 2, cell_at' h1 3, cell_at' h1 4, cell_at' h1 5⟩
  clear u5 hr5 b5 b5' c5
  clear e0 d0 d1 d2 d3 d4 d5
  obtain ⟨e0, d0, d1, d2, d3, d4, d5⟩ := KC.out V5 B5.out
  rw [HEn.out]
  go_wp2_with fail
  refine (HRUN.out d V5 B5.out).mono ?_
  rintro e w6 ⟨t6, ht6, nf6, nb6, ni6, no6, rfl, hr6, b6'⟩
  have b6 := bthen0 B5.out b6'
  obtain ⟨⟨qf6, kf6, hqf6⟩, ⟨qb6, kb6, hqb6⟩, ⟨qi6, ki6, hqi6⟩, ⟨qo6, ko6, hqo6⟩⟩ := mres_shpN hr6
  subst hqf6 hqb6 hqi6 hqo6
  obtain ⟨V6, hV6⟩ : ∃ V6, w6.alloc (.cells #[.slice qf6 t6.1.frames.length kf6, .slice qb6 t6.1.blocks.length kb6, .slice qi6 t6.1.inp.length ki6, .slice qo6 t6.1.out.length ko6, .int .i64 t6.1.status, .int .i64 t6.1.trap] 29) = V6 := ⟨_, rfl⟩
  have c6 : Below w6.heap.size w6 V6 := by rw [← hV6]; exact (Below.refl _ w6).alloc (Nat.le_refl _) _
  have u6 : V6.heap[w6.heap.size]? = some (.cells #[.slice qf6 t6.1.frames.length kf6, .slice qb6 t6.1.blocks.length kb6, .slice qi6 t6.1.inp.length ki6, .slice qo6 t6.1.out.length ko6, .int .i64 t6.1.status, .int .i64 t6.1.trap] 29 (0, 0)) := by rw [← hV6]; exact World.alloc_heap_new w6 _
  have B6 := hideP (bthen0 b6 c6)
  have R6 := hideP (hr6.below c6)
  have F6 := hideP (bthen0 b6' c6)
  have K6 : Hid (∀ W, Below V6.heap.size V6 W → W.cell? ⟨w6.heap.size, 0, none⟩ = some (.slice qf6 t6.1.frames.length kf6) ∧ W.cell? ⟨w6.heap.size, 1, none⟩ = some (.slice qb6 t6.1.blocks.length kb6) ∧ W.cell? ⟨w6.heap.size, 2, none⟩ = some (.slice qi6 t6.1.inp.length ki6) ∧ W.cell? ⟨w6.heap.size, 3, none⟩ = some (.slice qo6 t6.1.out.length ko6) ∧ W.cell? ⟨w6.heap.size, 4, none⟩ = some (.int .i64 t6.1.status) ∧ W.cell? ⟨w6.heap.size, 5, none⟩ = some (.int .i64 t6.1.trap)) := fun W hW => by
    have h1 := (hW.block _ (heap_lt u6)).trans u6
    exact ⟨cell_at' h1 0, cell_at' h1 1, cell_at' h1 2, cell_at' h1 3, cell_at' h1 4, cell_at' h1 5⟩
  clear u6 hr6 b6 b6' c6
  clear e0 d0 d1 d2 d3 d4 d5
  rw [HEd.out]
  obtain ⟨e0, d0, d1, d2, d3, d4, d5⟩ := KC.out V6 B6.out
  obtain ⟨x0, x1, x2, x3, x4, x5⟩ := K5.out V6 F6.out
  obtain ⟨y0, y1, y2, y3, y4, y5⟩ := K6.out V6 (Below.refl _ _)
  have hrun5 := ht5.1 HEn.out
  have hrun6 := ht6.1 HEd.out
  have hR5 := (run_right HS.out.1 HS.out.2.1 HS.out.2.2 h0 hrun5).1
  have hR6 := (run_right HS.out.1 HS.out.2.1 HS.out.2.2 (by omega) hrun6).1
  have sm5 := (right_small HS.out.1 HS.out.2.1 hR5).1
  have sm6 := (right_small HS.out.1 HS.out.2.1 hR6).1
  have hfar := run_farther HS.out.1 HS.out.2.1 HS.out.2.2 h0 h5 hrun5 hrun6
  have HA5 := hideP ((R5.out.below F6.out).at_ (by have := sm5.inp; omega))
  have HA6 := hideP (R6.out.at_ (by have := sm6.inp; omega))
  have hl1 : t5.1.out.length ≤ t6.1.out.length := hfar.1.length_le
  have s1 : decide ((t6.1.out.length : Int) < (t5.1.out.length : Int)) = false := by simp; omega
  have s2 : decide ((t6.1.inp.length : Int) > (t5.1.inp.length : Int)) = false := by have := hfar.2; simp; omega
  have s1' : decide (t6.1.out.length < t5.1.out.length) = false := by simp; omega
  have s2' : decide (t5.1.inp.length < t6.1.inp.length) = false := by have := hfar.2; simp; omega
  have hcap6 := HA6.out.out.cap _ _ _ rfl
  have s5 : (t5.1.out.length : Int) ≤ (ko6 : Int) := by omega
  have s5' : t5.1.out.length ≤ ko6 := by omega
  have s3 : (0 : Int) ≤ (t5.1.out.length : Int) := by omega
  have s4 : (t5.1.out.length : Int) ≤ (t6.1.out.length : Int) := by omega
  have hfar1 := hideP hfar
  have htk : t6.1.out.take t5.1.out.length = t5.1.out := (List.prefix_iff_eq_take.1 hfar.1).symm
  have HSI : Hid (∀ W, Below V6.heap.size V6 W → Calls Tryz.prog 26 #[.slice qo6 t5.1.out.length ko6, .slice qo5 t5.1.out.length ko5] W fun e w' => e = .returned (.bool true) ∧ Below W.heap.size W w') := fun W hW => by
    have h1 := ints_take (HA6.out.out.at_.below hW) hl1
    rw [htk] at h1
    have := sameInts_any t5.1.out t5.1.out _ _ W h1 (HA5.out.out.at_.below hW)
    rw [decide_eq_true rfl] at this
    exact this
  clear hfar sm5 sm6 hR5 hR6 htk
  go_wp2_with fail
  try simp only [List.append_eq, List.cons_append, List.nil_append]
  go_region_held3 (fun X => X.cell? ⟨w6.heap.size, 3, none⟩ = some (.slice qo6 t6.1.out.length ko6) ∧ X.cell? ⟨w5.heap.size, 3, none⟩ = some (.slice qo5 t5.1.out.length ko5) ∧ X.cell? ⟨w6.heap.size, 2, none⟩ = some (.slice qi6 t6.1.inp.length ki6) ∧ X.cell? ⟨w5.heap.size, 2, none⟩ = some (.slice qi5 t5.1.inp.length ki5)) (go_keep)
    (first
      | (go_at_call 26; (with_reducible refine (HSI.out _ (Below.refl _ V6).drew).mono ?_); rintro e w7 ⟨rfl, b7'⟩; have b7 : Below V6.heap.size V6 w7 := bthen0 (Below.refl _ V6).drew b7'; clear b7'; obtain ⟨x0', x1', x2', x3', x4', x5'⟩ := K5.out w7 (bthen0 F6.out b7); obtain ⟨y0', y1', y2', y3', y4', y5'⟩ := K6.out w7 b7))
  obtain ⟨e0', d0', d1', d2', d3', d4', d5'⟩ := KC.out w7 (bthen0 B6.out b7)
  have HB7 := hideP b7
  have HFIN := hideP (bthen0 HB1.out (bthen0 B6.out b7))
  clear b7 e0 d0 d1 d2 d3 d4 d5 x0 x1 x2 x3 x4 x5 y0 y1 y2 y3 y4 y5
  by_cases hs : M.status = 2 ∨ M.status = 3
  · have q5 := run_done hrun5 hs
    have q6 := run_done hrun6 hs
    subst q5 q6
    have HSAME : Hid (Calls Tryz.prog 24 #[.agg #[.slice qf5 (M, n).1.frames.length kf5, .slice qb5 (M, n).1.blocks.length kb5, .slice qi5 (M, n).1.inp.length ki5, .slice qo5 (M, n).1.out.length ko5, .int .i64 (M, n).1.status, .int .i64 (M, n).1.trap], .agg #[.slice pf M.frames.length cf, .slice pb M.blocks.length cb, .slice pi M.inp.length ci, .slice po M.out.length co, .int .i64 M.status, .int .i64 M.trap]] w7 fun e w' => e = .returned (.bool true) ∧ Below w7.heap.size w7 w') := (sameMachine_any M M _ _ _ _ _ _ _ _ w7 (MachAt.below HA5.out HB7.out) ((HH.out.below (bthen0 B6.out HB7.out)).mach)).mono fun e w' ⟨r, z1, z2, z3⟩ => ⟨by rw [z1, z2.2 rfl], z3⟩
    have hA5 := HA5.out
    clear hrun5 hrun6 ht5 ht6 hA5
    by_cases h2 : M.status = 2
    · have t7 : (M.status != 2) = false := by simpa using h2
      clear h2 hs
      go_wp2_with fail
      refine HSAME.out.mono ?_
      rintro e w8 ⟨rfl, b8⟩
      go_wp2
      go_ret
      exact ⟨by simp, bthen0 HFIN.out b8⟩
    · have t7 : (M.status != 2) = true := by simpa using h2
      have t8 : (M.status != 3) = false := by simp; omega
      clear h2 hs
      go_wp2_with fail
      refine HSAME.out.mono ?_
      rintro e w8 ⟨rfl, b8⟩
      go_wp2
      go_ret
      exact ⟨by simp, bthen0 HFIN.out b8⟩
  · have t7 : (M.status != 2) = true := by simp; omega
    have t8 : (M.status != 3) = true := by simp; omega
    clear hs
    go_wp2
    go_ret
    exact ⟨by simp, HFIN.out⟩
set_option maxRecDepth 100000 in
theorem lifted (os : Os) (started : os.Started) (H : Type) (enc : TypeId × Value → H) :
    ReturnsInHanded {} Tryz.checked os 10 .any (Rows.meterFreeSpec.pre6 enc Tryz.prog Tryz.f10 Rows.meterFreeRow.domain false) (Rows.meterFreeSpec.post enc Tryz.prog Tryz.f10 false true false false) := by
  refine returnsInHanded_of_change_sized (C := Tryz.checked) own started (by kernel_rfl) Tryz.func10
    (ChangeSpec.witness6 (enc := enc) (C := Tryz.checked) false ⟨#[], #[.agg #[.slice none 0 0], .agg #[.slice none 0 0, .slice none 0 0, .slice none 0 0, .slice none 0 0, .int .i64 0, .int .i64 0], .int .i64 0, .int .i64 0], []⟩ 8 (by kernel_rfl) (by kernel_rfl) (by kernel_rfl) (by kernel_rfl)) ?_
  intro W base args ds gs before hval0 hW hcnd hsz0 hholds
  have hval : ∀ (j : Nat) t v, Tryz.f10.params[j]? = some t → args[j]? = some v → Value.okWide Tryz.prog W .any base t v := hval0
  have hsz : (DataW.weightsEach Tryz.prog (Tryz.f10.params.toList ++ Rows.meterFreeSpec.plain.varTypes Tryz.prog) (ds ++ gs)).all (· ≤ reachBytes) = true := hsz0
  have hW' := hW
  obtain ⟨p, q, hA0, hV, rfl, hfz, hnd⟩ := hW
  have hA : DataW.TrodAll enc Tryz.prog W 0 (fun _ => true) true Tryz.f10.params.toList args.toList ds p := hA0
  rw [Tryz.params10] at hA hval hsz
  obtain ⟨v0, vs0, d0, ds0, p0, q0, hargs, rfl, rfl, h0, r0⟩ := trodAll_cons hA
  obtain ⟨v1, vs1, d1, ds1, p1, q1, rfl, rfl, rfl, h1, r1⟩ := trodAll_cons r0
  obtain ⟨v2, vs2, d2, ds2, p2, q2, rfl, rfl, rfl, h2, r2⟩ := trodAll_cons r1
  obtain ⟨v3, vs3, d3, ds3, p3, q3, rfl, rfl, rfl, h3, r3⟩ := trodAll_cons r2
  obtain ⟨rfl, rfl, rfl⟩ := trodAll_nil r3
  obtain rfl : args = #[v0, v1, v2, v3] := by cases args; simp_all
  obtain ⟨rfl, rfl⟩ := trodVars_none hV
  have k0 := h0
  have k1 := h1
  have k2 := h2
  have k3 := h3
  have lt0 : ∀ x ∈ p0, x.block < W.heap.size := by obtain ⟨m, hm⟩ := k0; exact DataW.trod_lt m _ _ _ hm
  have lt1 : ∀ x ∈ p1, x.block < W.heap.size := by obtain ⟨m, hm⟩ := k1; exact DataW.trod_lt m _ _ _ hm
  have lt2 : ∀ x ∈ p2, x.block < W.heap.size := by obtain ⟨m, hm⟩ := k2; exact DataW.trod_lt m _ _ _ hm
  have lt3 : ∀ x ∈ p3, x.block < W.heap.size := by obtain ⟨m, hm⟩ := k3; exact DataW.trod_lt m _ _ _ hm
  have hw0 : ∀ n ∈ d0.weights Tryz.prog 24, n ≤ reachBytes := fun n hn => by have := List.all_eq_true.1 hsz n (DataW.weights_mem_each (j := 0) rfl rfl n hn); simpa using this
  obtain ⟨c0, l0, rfl, hl0⟩ := open_progC (hval 0 24 v0 rfl rfl) h0 hw0
  have hw1 : ∀ n ∈ d1.weights Tryz.prog 29, n ≤ reachBytes := fun n hn => by have := List.all_eq_true.1 hsz n (DataW.weights_mem_each (j := 1) rfl rfl n hn); simpa using this
  obtain ⟨e10, e11, e12, e13, M1, rfl, hM1, hL1⟩ := open_machV (hval 1 29 v1 rfl rfl) h1 hw1
  obtain ⟨x2, rfl, hd2, hp2, wx2⟩ := open_int Tryz.underlying3 (hval 2 3 v2 rfl rfl) h2
  have hx2 : -9223372036854775808 ≤ x2 ∧ x2 ≤ 9223372036854775807 := by simpa [Lit.wf, IntKind.min, IntKind.max, IntKind.bits, IntKind.signed] using wx2
  obtain ⟨x3, rfl, hd3, hp3, wx3⟩ := open_int Tryz.underlying3 (hval 3 3 v3 rfl rfl) h3
  have hx3 : -9223372036854775808 ≤ x3 ∧ x3 ≤ 9223372036854775807 := by simpa [Lit.wf, IntKind.min, IntKind.max, IntKind.bits, IntKind.signed] using wx3
  clear hA0 hval0 hsz0
  refine (walk W l0 c0 hl0 M1 e10 e11 e12 e13 hM1 hL1 x2 hx2 x3 hx3).mono fun e W' ⟨he, bel⟩ => ?_
  subst he
  exact ⟨_, rfl, _, _, _, [], _, [], hW', trodAll_mk1 (shut_bool Tryz.underlying4 _), (trodAll_cons_mk (Below.trod laidOut (by kernel_rfl) (of_decide_eq_true (by kernel_rfl)) k0 bel lt0) (trodAll_cons_mk (Below.trod laidOut (by kernel_rfl) (of_decide_eq_true (by kernel_rfl)) k1 bel lt1) (trodAll_cons_mk (Below.trod laidOut (by kernel_rfl) (of_decide_eq_true (by kernel_rfl)) k2 bel lt2) (trodAll_cons_mk (Below.trod laidOut (by kernel_rfl) (of_decide_eq_true (by kernel_rfl)) k3 bel lt3) trodAll_mk0)))), rfl, bel.frame _, fun h => by cases h⟩
theorem over : Rows.meterFreeRow.holds Tryz.pinned (OpenSpec.ofChange Rows.meterFreeSpec) :=
  OpenClaim.holds_of_wide 10 Tryz.f10 rfl rfl rfl rfl rfl rfl rfl ⟨rfl, rfl, rfl, rfl, rfl⟩ rfl rfl rfl rfl rfl (by kernel_rfl) Tryz.func10 (by kernel_rfl)
    (of_decide_eq_true (by kernel_rfl)) (by unfold Func.isWrapper; first | (rw [if_pos (by decide +kernel)]; kernel_rfl) | (rw [if_neg (by decide +kernel)]; exact ⟨rfl, rfl⟩))
    (fun os started H enc _ => lifted os started H enc)
end Go.Proofs.YtcadpoknolefpaaGreat.meterFree
namespace Go.Proofs.YtcadpoknolefpaaGreat
/-- For every input the law MeterFree returns true, and the arguments read as they did. -/
theorem meterFree_holds : Rows.MeterFreeSaid := meterFree.over
end Go.Proofs.YtcadpoknolefpaaGreat

