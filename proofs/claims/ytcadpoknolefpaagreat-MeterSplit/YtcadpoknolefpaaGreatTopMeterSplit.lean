/- WHAT IS DONE WITH FUEL IS WHAT IS DONE WITH A PART OF IT, AND THEN WITH THE REST; fuel that a machine does not take is left: for every program and machine and number and number MeterSplit returns true. No condition. -/
import Derived.Test.YtcadpoknolefpaaGreatB25
import Derived.Test.YtcadpoknolefpaaGreatB24
import Derived.Test.YtcadpoknolefpaaGreatB18
namespace Go.Proofs.YtcadpoknolefpaaGreat.meterSplit
open Go.ChangeShapes Go.WideShapes Go.ChangeAt Go.RowKit
set_option linter.unusedVariables false
set_option linter.unusedSimpArgs false
theorem own : ownKnob Tryz.prog.godebug = none := by kernel_rfl
theorem laidOut : laidOutB Tryz.prog = true := by kernel_rfl
theorem run_split_done {p : List Fn} {e : Nat → Nat → Option (List Int)} {M : Mach} {n d : Int} {t u : MF} (hp : progErr p = 0) (he : AllFit p e) (hR : RightM p e M) (h0 : 0 ≤ n) (hd : 0 ≤ d) (h : RunIs p M n t) (k : RunIs p M (n + d) u) (hs : t.1.status ≠ 0) : u.1 = t.1 ∧ (u.2 = t.2 + d ∨ (M.status = 1 ∧ n = 0)) := by
  by_cases h1 : M.status = 1
  · have a := run_wait hp he hR h1 h
    have b := run_wait hp he hR h1 k
    subst a b
    refine ⟨rfl, ?_⟩
    by_cases hn : n = 0
    · exact .inr ⟨h1, hn⟩
    · left
      simp only
      rw [if_neg (by omega), if_neg (by omega)]
      omega
  · unfold RunIs at h k
    rw [firstS_on h1] at h k
    have := (ends_more h hd).1 hs
    have := ends_one k this
    subst this
    exact ⟨rfl, .inl rfl⟩
theorem run_split_on {p : List Fn} {e : Nat → Nat → Option (List Int)} {M : Mach} {n d : Int} {t u c : MF} (hp : progErr p = 0) (he : AllFit p e) (hR : RightM p e M) (hd : 0 ≤ d) (h : RunIs p M n t) (k : RunIs p M (n + d) u) (hs : t.1.status = 0) (hc : RunIs p t.1 (t.2 + d) c) : u = c := by
  by_cases h1 : M.status = 1
  · have a := run_wait hp he hR h1 h
    subst a
    simp only at hs
    omega
  · unfold RunIs at h k hc
    rw [firstS_on h1] at h k
    rw [firstS_on (by rw [hs]; decide)] at hc
    exact ends_one k ((ends_more h hd).2 c hc)
set_option maxRecDepth 100000 in
set_option maxHeartbeats 8000000 in
theorem walk (w : World) (p : List Fn) (pv : Value) (hpf : ProgFull w pv p) (M : Mach) (fv bv iv ov : Value) (hM : MachAt w fv bv iv ov M) (hML : MachLong M) (n : Int) (hn : -9223372036854775808 ≤ n ∧ n ≤ 9223372036854775807) (d : Int) (hd : -9223372036854775808 ≤ d ∧ d ≤ 9223372036854775807) :
    Calls Tryz.prog 8 #[.agg #[pv], .agg #[fv, bv, iv, ov, .int .i64 M.status, .int .i64 M.trap], .int .i64 n, .int .i64 d] w fun e w' => e = .returned (.bool true) ∧ Below w.heap.size w w' := by
  have hCk : CkAt w p pv fv bv iv ov M := ⟨hpf.at_, hpf.cap, hM⟩
  have hpc : PcOk M := fun x hx => (hML.fr.2 x hx).2.2
  obtain ⟨⟨pp, qp, hpv⟩, ⟨pf, cf, hfv⟩, ⟨pb, cb, hbv⟩, ⟨pi, ci, hiv⟩, ⟨po, co, hov⟩⟩ := hCk.shp
  subst hpv hfv hbv hiv hov
  obtain ⟨W1, hW1⟩ : ∃ W1, (w.alloc (.cells #[.slice pp p.length qp] 24)).alloc (.cells #[.slice pf M.frames.length cf, .slice pb M.blocks.length cb, .slice pi M.inp.length ci, .slice po M.out.length co, .int .i64 M.status, .int .i64 M.trap] 29) = W1 := ⟨_, rfl⟩
  have b1 : Below w.heap.size w W1 := by rw [← hW1]; exact ((Below.refl _ w).alloc (Nat.le_refl _) _).alloc (by simp) _
  have u1 : W1.heap[w.heap.size]? = some (.cells #[.slice pp p.length qp] 24 (0, 0)) := by rw [← hW1]; exact heap_old (World.alloc_heap_new w _) _
  have u2 : W1.heap[w.heap.size + 1]? = some (.cells #[.slice pf M.frames.length cf, .slice pb M.blocks.length cb, .slice pi M.inp.length ci, .slice po M.out.length co, .int .i64 M.status, .int .i64 M.trap] 29 (0, 0)) := by rw [← hW1]; exact new_two _ _ _
  have l1 := heap_lt u1
  have l2 := heap_lt u2
  have KC : Hid (∀ W, Below W1.heap.size W1 W → W.cell? ⟨w.heap.size, 0, none⟩ = some (.slice pp p.length qp) ∧ W.cell? ⟨w.heap.size + 1, 0, none⟩ = some (.slice pf M.frames.length cf) ∧ W.cell? ⟨w.heap.size + 1, 1, none⟩ = some (.slice pb M.blocks.length cb) ∧ W.cell? ⟨w.heap.size + 1, 2, none⟩ = some (.slice pi M.inp.length ci) ∧ W.cell? ⟨w.heap.size + 1, 3, none⟩ = some (.slice po M.out.length co) ∧ W.cell? ⟨w.heap.size + 1, 4, none⟩ = some (.int .i64 M.status) ∧ W.cell? ⟨w.heap.size + 1, 5, none⟩ = some (.int .i64 M.trap)) := fun W hW => by
    have h1 := (hW.block _ l1).trans u1
    have h2 := (hW.block _ l2).trans u2
    exact ⟨cell_at' h1 0, cell_at' h2 0, cell_at' h2 1, cell_at' h2 2, cell_at' h2 3, cell_at' h2 4, cell_at' h2 5⟩
  have HH := hideP (hCk.below b1)
  have HPC := hideP hpc
  have HB1 := hideP b1
  clear hpf hML hM hCk hpc u1 u2 b1
  go_enter Tryz.func8, Tryz.ntmps8
  go_wp2_with fail
  refine (meterBegun_any _).mono ?_
  rintro e w2 ⟨rfl, b2⟩
  by_cases hx : n < 0 ∨ d < 0 ∨ 10000 < n ∨ 10000 - n < d
  · have hfin := bthen0 HB1.out b2
    by_cases h1 : n < 0
    · have t1 : decide (n < 0) = true := by simpa using h1
      clear hx h1
      go_wp2
      go_ret
      exact ⟨rfl, hfin⟩
    · have t1 : decide (n < 0) = false := by simpa using h1
      by_cases h2 : d < 0
      · have t2 : decide (d < 0) = true := by simpa using h2
        clear hx h1 h2
        go_wp2
        go_ret
        exact ⟨rfl, hfin⟩
      · have t2 : decide (d < 0) = false := by simpa using h2
        by_cases h3 : 10000 < n
        · have t3 : decide (n > 10000) = true := by simpa using h3
          clear hx h1 h2 h3
          go_wp2
          go_ret
          exact ⟨rfl, hfin⟩
        · have t3 : decide (n > 10000) = false := by simp; omega
          have t4 : decide (d > 10000 - n) = true := by simp; omega
          have h0 : 0 ≤ n := by omega
          have h4 : n ≤ 10000 := by omega
          clear hx h1 h2 h3
          go_wp2
          go_ret
          exact ⟨rfl, hfin⟩
  have t1 : decide (n < 0) = false := by simp; omega
  have t2 : decide (d < 0) = false := by simp; omega
  have t3 : decide (n > 10000) = false := by simp; omega
  have t4 : decide (d > 10000 - n) = false := by simp; omega
  have h0 : 0 ≤ n := by omega
  have h4 : n ≤ 10000 := by omega
  have h5 : 0 ≤ d := by omega
  have h6 : d ≤ 10000 := by omega
  have h7 : n + d ≤ 10000 := by omega
  clear hx
  obtain ⟨e0, d0, d1, d2, d3, d4, d5⟩ := KC.out w2 b2
  have HB2 := hideP b2
  have HRUN := hideP (fun (k : Int) (W : World) (hW : Below W1.heap.size W1 W) => mRun_any M p k _ _ _ _ _ W (HH.out.below hW) HPC.out)
  clear b2
  go_wp2_with fail
  refine (HRUN.out n w2 HB2.out).mono ?_
  rintro e w3 ⟨t3, ht3, nf3, nb3, ni3, no3, rfl, hr3, b3'⟩
  have b3 := bthen0 HB2.out b3'
  obtain ⟨⟨qf3, kf3, hqf3⟩, ⟨qb3, kb3, hqb3⟩, ⟨qi3, ki3, hqi3⟩, ⟨qo3, ko3, hqo3⟩⟩ := mres_shpN hr3
  subst hqf3 hqb3 hqi3 hqo3
  obtain ⟨V3, hV3⟩ : ∃ V3, w3.alloc (.cells #[.slice qf3 t3.1.frames.length kf3, .slice qb3 t3.1.blocks.length kb3, .slice qi3 t3.1.inp.length ki3, .slice qo3 t3.1.out.length ko3, .int .i64 t3.1.status, .int .i64 t3.1.trap] 29) = V3 := ⟨_, rfl⟩
  have c3 : Below w3.heap.size w3 V3 := by rw [← hV3]; exact (Below.refl _ w3).alloc (Nat.le_refl _) _
  have u3 : V3.heap[w3.heap.size]? = some (.cells #[.slice qf3 t3.1.frames.length kf3, .slice qb3 t3.1.blocks.length kb3, .slice qi3 t3.1.inp.length ki3, .slice qo3 t3.1.out.length ko3, .int .i64 t3.1.status, .int .i64 t3.1.trap] 29 (0, 0)) := by rw [← hV3]; exact World.alloc_heap_new w3 _
  have B3 := hideP (bthen0 b3 c3)
  have R3 := hideP (hr3.below c3)
  have F3 := hideP (bthen0 b3' c3)
  have K3 : Hid (∀ W, Below V3.heap.size V3 W → W.cell? ⟨w3.heap.size, 0, none⟩ = some (.slice qf3 t3.1.frames.length kf3) ∧ W.cell? ⟨w3.heap.size, 1, none⟩ = some (.slice qb3 t3.1.blocks.length kb3) ∧ W.cell? ⟨w3.heap.size, 2, none⟩ = some (.slice qi3 t3.1.inp.length ki3) ∧ W.cell? ⟨w3.heap.size, 3, none⟩ = some (.slice qo3 t3.1.out.length ko3) ∧ W.cell? ⟨w3.heap.size, 4, none⟩ = some (.int .i64 t3.1.status) ∧ W.cell? ⟨w3.heap.size, 5, none⟩ = some (.int .i64 t3.1.trap)) := fun W hW => by
    have h1 := (hW.block _ (heap_lt u3)).trans u3
    exact ⟨cell_at' h1 0, cell_at' h1 1, cell_at' h1 2, cell_at' h1 3, cell_at' h1 4, cell_at' h1 5⟩
  clear u3 hr3 b3 b3' c3
  clear e0 d0 d1 d2 d3 d4 d5
  obtain ⟨e0, d0, d1, d2, d3, d4, d5⟩ := KC.out V3 B3.out
  obtain ⟨x0, x1, x2, x3, x4, x5⟩ := K3.out V3 (Below.refl _ _)
  by_cases hc : checkE p M = 0
  rotate_left
  · have hE : runE p M n = checkE p M := by unfold runE; rw [if_pos hc]
    have hc' : (runE p M n != 0) = true := by rw [hE]; simpa using hc
    have hz := ht3.2 (by rw [hE]; exact hc)
    subst hz
    have HFIN := hideP (bthen0 HB1.out B3.out)
    clear hc hE HRUN ht3
    change V3.cell? ⟨w3.heap.size, 0, none⟩ = some (.slice qf3 0 kf3) at x0
    go_wp2
    go_ret
    exact ⟨by simp, HFIN.out⟩
  have hE : ∀ k : Int, 0 ≤ k → k ≤ 10000 → runE p M k = 0 := fun k ha hb => runE_zero.2 ⟨hc, ha, hb⟩
  have hE1 := hE n h0 h4
  have hE2 := hE (n + d) (by omega) h7
  obtain ⟨hp, he, hR⟩ := checkE_zero.1 hc
  have hrun := ht3.1 hE1
  obtain ⟨hR3, g0, g1, -⟩ := run_right hp he hR h0 hrun
  have HS := hideP (And.intro hp (And.intro he hR))
  have HRUN3 := hideP hrun
  have HR3 := hideP hR3
  have s1 : decide (t3.2 < 0) = false := by simp; omega
  have s2 : decide (t3.2 > n) = false := by simp; omega
  rw [hE1]
  have hwn : IntKind.i64.wrap (n + d) = n + d := by rw [IntKind.wrap_i64]; omega
  have HC2 := HRUN.out (n + d)
  rw [show RunRet p M (n + d) = RunRet p M (n + d) from rfl] at HC2
  have HC2 := hideP HC2
  have HE2 := hideP hE2
  have HCE := hideP hc
  clear hE hE1 hE2 hp he hR hrun hR3 ht3 hc HRUN
  go_wp2_with fail
  refine (HC2.out V3 B3.out).mono ?_
  rintro e w4 ⟨t4, ht4, nf4, nb4, ni4, no4, rfl, hr4, b4'⟩
  have b4 := bthen0 B3.out b4'
  obtain ⟨⟨qf4, kf4, hqf4⟩, ⟨qb4, kb4, hqb4⟩, ⟨qi4, ki4, hqi4⟩, ⟨qo4, ko4, hqo4⟩⟩ := mres_shpN hr4
  subst hqf4 hqb4 hqi4 hqo4
  obtain ⟨V4, hV4⟩ : ∃ V4, w4.alloc (.cells #[.slice qf4 t4.1.frames.length kf4, .slice qb4 t4.1.blocks.length kb4, .slice qi4 t4.1.inp.length ki4, .slice qo4 t4.1.out.length ko4, .int .i64 t4.1.status, .int .i64 t4.1.trap] 29) = V4 := ⟨_, rfl⟩
  have c4 : Below w4.heap.size w4 V4 := by rw [← hV4]; exact (Below.refl _ w4).alloc (Nat.le_refl _) _
  have u4 : V4.heap[w4.heap.size]? = some (.cells #[.slice qf4 t4.1.frames.length kf4, .slice qb4 t4.1.blocks.length kb4, .slice qi4 t4.1.inp.length ki4, .slice qo4 t4.1.out.length ko4, .int .i64 t4.1.status, .int .i64 t4.1.trap] 29 (0, 0)) := by rw [← hV4]; exact World.alloc_heap_new w4 _
  have B4 := hideP (bthen0 b4 c4)
  have R4 := hideP (hr4.below c4)
  have F4 := hideP (bthen0 b4' c4)
  have K4 : Hid (∀ W, Below V4.heap.size V4 W → W.cell? ⟨w4.heap.size, 0, none⟩ = some (.slice qf4 t4.1.frames.length kf4) ∧ W.cell? ⟨w4.heap.size, 1, none⟩ = some (.slice qb4 t4.1.blocks.length kb4) ∧ W.cell? ⟨w4.heap.size, 2, none⟩ = some (.slice qi4 t4.1.inp.length ki4) ∧ W.cell? ⟨w4.heap.size, 3, none⟩ = some (.slice qo4 t4.1.out.length ko4) ∧ W.cell? ⟨w4.heap.size, 4, none⟩ = some (.int .i64 t4.1.status) ∧ W.cell? ⟨w4.heap.size, 5, none⟩ = some (.int .i64 t4.1.trap)) := fun W hW => by
    have h1 := (hW.block _ (heap_lt u4)).trans u4
    exact ⟨cell_at' h1 0, cell_at' h1 1, cell_at' h1 2, cell_at' h1 3, cell_at' h1 4, cell_at' h1 5⟩
  clear u4 hr4 b4 b4' c4
  clear e0 d0 d1 d2 d3 d4 d5 x0 x1 x2 x3 x4 x5
  obtain ⟨e0, d0, d1, d2, d3, d4, d5⟩ := KC.out V4 B4.out
  obtain ⟨x0, x1, x2, x3, x4, x5⟩ := K3.out V4 F4.out
  obtain ⟨y0, y1, y2, y3, y4, y5⟩ := K4.out V4 (Below.refl _ _)
  rw [HE2.out]
  have hrun4 := ht4.1 HE2.out
  have sm3 := (right_small HS.out.1 HS.out.2.1 HR3.out).1
  have hR4 := (run_right HS.out.1 HS.out.2.1 HS.out.2.2 (by omega) hrun4).1
  have sm4 := (right_small HS.out.1 HS.out.2.1 hR4).1
  have HA3 := hideP ((R3.out.below F4.out).at_ (by have := sm3.inp; omega))
  have HA4 := hideP (R4.out.at_ (by have := sm4.inp; omega))
  by_cases hs : t3.1.status = 0
  rotate_left
  · obtain ⟨q1, q2⟩ := run_split_done HS.out.1 HS.out.2.1 HS.out.2.2 h0 h5 HRUN3.out hrun4 hs
    have HSAME : Hid (Calls Tryz.prog 24 #[.agg #[.slice qf3 t3.1.frames.length kf3, .slice qb3 t3.1.blocks.length kb3, .slice qi3 t3.1.inp.length ki3, .slice qo3 t3.1.out.length ko3, .int .i64 t3.1.status, .int .i64 t3.1.trap], .agg #[.slice qf4 t4.1.frames.length kf4, .slice qb4 t4.1.blocks.length kb4, .slice qi4 t4.1.inp.length ki4, .slice qo4 t4.1.out.length ko4, .int .i64 t4.1.status, .int .i64 t4.1.trap]] V4 fun e w' => e = .returned (.bool true) ∧ Below V4.heap.size V4 w') := (sameMachine_any t3.1 t4.1 _ _ _ _ _ _ _ _ V4 HA3.out HA4.out).mono fun e w' ⟨r, z1, z2, z3⟩ => ⟨by rw [z1, z2.2 q1.symm], z3⟩
    have t5 : (t3.1.status != 0) = true := by simpa using hs
    have HFIN := hideP (bthen0 HB1.out B4.out)
    have hw2 : IntKind.i64.wrap (t3.2 + d) = t3.2 + d := by rw [IntKind.wrap_i64]; omega
    by_cases hq : t4.2 = t3.2 + d
    · have t6 : (t4.2 == t3.2 + d) = true := by simpa using hq
      clear hs hq q1 q2 sm3 sm4 hR4 hrun4 ht4
      go_wp2_with fail
      refine HSAME.out.mono ?_
      rintro e w5 ⟨rfl, b5⟩
      go_wp2
      go_ret
      exact ⟨by simp, bthen0 HFIN.out b5⟩
    · have t6 : (t4.2 == t3.2 + d) = false := by simpa using hq
      obtain ⟨q3, q4⟩ := q2.resolve_left hq
      subst q4
      have t7 : (M.status == 1) = true := by simpa using q3
      clear hs hq q1 q2 sm3 sm4 hR4 hrun4 ht4 q3
      go_wp2_with fail
      refine HSAME.out.mono ?_
      rintro e w5 ⟨rfl, b5⟩
      obtain ⟨e0', d0', d1', d2', d3', d4', d5'⟩ := KC.out w5 (bthen0 B4.out b5)
      clear e0 d0 d1 d2 d3 d4 d5 x0 x1 x2 x3 x4 x5 y0 y1 y2 y3 y4 y5
      go_wp2
      go_ret
      exact ⟨by simp, bthen0 HFIN.out b5⟩
  have t5 : (t3.1.status != 0) = false := by simpa using hs
  have hw2 : IntKind.i64.wrap (t3.2 + d) = t3.2 + d := by rw [IntKind.wrap_i64]; omega
  have hck3 : checkE p t3.1 = 0 := checkE_zero.2 ⟨HS.out.1, HS.out.2.1, HR3.out⟩
  have HE5 := hideP (runE_zero.2 ⟨hck3, (by omega : 0 ≤ t3.2 + d), (by omega : t3.2 + d ≤ 10000)⟩)
  have HC5 := hideP (mRun_any t3.1 p (t3.2 + d) _ _ _ _ _ V4 ⟨(HH.out.below B4.out).fns, (HH.out.below B4.out).cap, HA3.out⟩ (right_pc HS.out.1 HS.out.2.1 HR3.out))
  have HS0 := hideP hs
  have HRUN4 := hideP hrun4
  clear hs sm3 sm4 hR4 hrun4 ht4 hck3
  go_wp2_with fail
  refine (HC5.out).mono ?_
  rintro e w5 ⟨t5, ht5, nf5, nb5, ni5, no5, rfl, hr5, b5'⟩
  have b5 := bthen0 B4.out b5'
  obtain ⟨⟨qf5, kf5, hqf5⟩, ⟨qb5, kb5, hqb5⟩, ⟨qi5, ki5, hqi5⟩, ⟨qo5, ko5, hqo5⟩⟩ := mres_shpN hr5
  subst hqf5 hqb5 hqi5 hqo5
  obtain ⟨V5, hV5⟩ : ∃ V5, w5.alloc (.cells #[.slice qf5 t5.1.frames.length kf5, .slice qb5 t5.1.blocks.length kb5, .slice qi5 t5.1.inp.length ki5, .slice qo5 t5.1.out.length ko5, .int .i64 t5.1.status, .int .i64 t5.1.trap] 29) = V5 := ⟨_, rfl⟩
  have c5 : Below w5.heap.size w5 V5 := by rw [← hV5]; exact (Below.refl _ w5).alloc (Nat.le_refl _) _
  have u5 : V5.heap[w5.heap.size]? = some (.cells #[.slice qf5 t5.1.frames.length kf5, .slice qb5 t5.1.blocks.length kb5, .slice qi5 t5.1.inp.length ki5, .slice qo5 t5.1.out.length ko5, .int .i64 t5.1.status, .int .i64 t5.1.trap] 29 (0, 0)) := by rw [← hV5]; exact World.alloc_heap_new w5 _
  have B5 := hideP (bthen0 b5 c5)
  have R5 := hideP (hr5.below c5)
  have F5 := hideP (bthen0 b5' c5)
  have K5 : Hid (∀ W, Below V5.heap.size V5 W → W.cell? ⟨w5.heap.size, 0, none⟩ = some (.slice qf5 t5.1.frames.length kf5) ∧ W.cell? ⟨w5.heap.size, 1, none⟩ = some (.slice qb5 t5.1.blocks.length kb5) ∧ W.cell? ⟨w5.heap.size, 2, none⟩ = some (.slice qi5 t5.1.inp.length ki5) ∧ W.cell? ⟨w5.heap.size, 3, none⟩ = some (.slice qo5 t5.1.out.length ko5) ∧ W.cell? ⟨w5.heap.size, 4, none⟩ = some (.int .i64 t5.1.status) ∧ W.cell? ⟨w5.heap.size, 5, none⟩ = some (.int .i64 t5.1.trap)) := fun W hW => by
    have h1 := (hW.block _ (heap_lt u5)).trans u5
    exact ⟨cell_at' h1 0, cell_at' h1 1, cell_at' h1 2, cell_at' h1 3, cell_at' h1 4, cell_at' h1 5⟩
  clear u5 hr5 b5 b5' c5
  clear e0 d0 d1 d2 d3 d4 d5 x0 x1 x2 x3 x4 x5 y0 y1 y2 y3 y4 y5
  obtain ⟨y0, y1, y2, y3, y4, y5⟩ := K4.out V5 F5.out
  obtain ⟨x0, x1, x2, x3, x4, x5⟩ := K5.out V5 (Below.refl _ _)
  rw [HE5.out]
  have hrun5 := ht5.1 HE5.out
  have heq := run_split_on HS.out.1 HS.out.2.1 HS.out.2.2 h5 HRUN3.out HRUN4.out HS0.out hrun5
  have hR5 := (run_right HS.out.1 HS.out.2.1 HR3.out (by omega) hrun5).1
  have sm5 := (right_small HS.out.1 HS.out.2.1 hR5).1
  have HSAME : Hid (Calls Tryz.prog 24 #[.agg #[.slice qf4 t4.1.frames.length kf4, .slice qb4 t4.1.blocks.length kb4, .slice qi4 t4.1.inp.length ki4, .slice qo4 t4.1.out.length ko4, .int .i64 t4.1.status, .int .i64 t4.1.trap], .agg #[.slice qf5 t5.1.frames.length kf5, .slice qb5 t5.1.blocks.length kb5, .slice qi5 t5.1.inp.length ki5, .slice qo5 t5.1.out.length ko5, .int .i64 t5.1.status, .int .i64 t5.1.trap]] V5 fun e w' => e = .returned (.bool true) ∧ Below V5.heap.size V5 w') := (sameMachine_any t4.1 t5.1 _ _ _ _ _ _ _ _ V5 (HA4.out.below F5.out) (R5.out.at_ (by have := sm5.inp; omega))).mono fun e w' ⟨r, z1, z2, z3⟩ => ⟨by rw [z1, z2.2 (by rw [heq])], z3⟩
  have t8 : (t4.2 == t5.2) = true := by rw [heq]; simp
  have HFIN := hideP (bthen0 HB1.out B5.out)
  clear heq hR5 sm5 hrun5 ht5
  go_wp2_with fail
  refine HSAME.out.mono ?_
  rintro e w6 ⟨rfl, b6⟩
  go_wp2
  go_ret
  exact ⟨by simp, bthen0 HFIN.out b6⟩
set_option maxRecDepth 100000 in
theorem lifted (os : Os) (started : os.Started) (H : Type) (enc : TypeId × Value → H) :
    ReturnsInHanded {} Tryz.checked os 8 .any (Rows.meterSplitSpec.pre6 enc Tryz.prog Tryz.f8 Rows.meterSplitRow.domain false) (Rows.meterSplitSpec.post enc Tryz.prog Tryz.f8 false true false false) := by
  refine returnsInHanded_of_change_sized (C := Tryz.checked) own started (by kernel_rfl) Tryz.func8
    (ChangeSpec.witness6 (enc := enc) (C := Tryz.checked) false ⟨#[], #[.agg #[.slice none 0 0], .agg #[.slice none 0 0, .slice none 0 0, .slice none 0 0, .slice none 0 0, .int .i64 0, .int .i64 0], .int .i64 0, .int .i64 0], []⟩ 8 (by kernel_rfl) (by kernel_rfl) (by kernel_rfl) (by kernel_rfl)) ?_
  intro W base args ds gs before hval0 hW hcnd hsz0 hholds
  have hval : ∀ (j : Nat) t v, Tryz.f8.params[j]? = some t → args[j]? = some v → Value.okWide Tryz.prog W .any base t v := hval0
  have hsz : (DataW.weightsEach Tryz.prog (Tryz.f8.params.toList ++ Rows.meterSplitSpec.plain.varTypes Tryz.prog) (ds ++ gs)).all (· ≤ reachBytes) = true := hsz0
  have hW' := hW
  obtain ⟨p, q, hA0, hV, rfl, hfz, hnd⟩ := hW
  have hA : DataW.TrodAll enc Tryz.prog W 0 (fun _ => true) true Tryz.f8.params.toList args.toList ds p := hA0
  rw [Tryz.params8] at hA hval hsz
  obtain ⟨v0, vs0, d0, ds0, p0, q0, hargs, rfl, rfl, h0, r0⟩ := trodAll_cons hA
  obtain ⟨v1, vs1, d1, ds1, p1, q1, rfl, rfl, rfl, h1, r1⟩ := trodAll_cons r0
  obtain ⟨v2, vs2, d2, ds2, p2, q2, rfl, rfl, rfl, h2, r2⟩ := trodAll_cons r1
  obtain ⟨v3, vs3, d3, ds3, p3, q3, rfl, rfl, rfl, h3, r3⟩ := trodAll_cons r2
  obtain ⟨rfl, rfl, rfl⟩ := trodAll_nil r3
  obtain rfl : args = #[v0, v1, v2, v3] := by cases args; simp_all
  obtain ⟨rfl, rfl⟩ := trodVars_none hV
  have k0 := h0
  have k1 := h1
  have k2 := h2
  have k3 := h3
  have lt0 : ∀ x ∈ p0, x.block < W.heap.size := by obtain ⟨m, hm⟩ := k0; exact DataW.trod_lt m _ _ _ hm
  have lt1 : ∀ x ∈ p1, x.block < W.heap.size := by obtain ⟨m, hm⟩ := k1; exact DataW.trod_lt m _ _ _ hm
  have lt2 : ∀ x ∈ p2, x.block < W.heap.size := by obtain ⟨m, hm⟩ := k2; exact DataW.trod_lt m _ _ _ hm
  have lt3 : ∀ x ∈ p3, x.block < W.heap.size := by obtain ⟨m, hm⟩ := k3; exact DataW.trod_lt m _ _ _ hm
  have hw0 : ∀ n ∈ d0.weights Tryz.prog 24, n ≤ reachBytes := fun n hn => by have := List.all_eq_true.1 hsz n (DataW.weights_mem_each (j := 0) rfl rfl n hn); simpa using this
  obtain ⟨c0, l0, rfl, hl0⟩ := open_progC (hval 0 24 v0 rfl rfl) h0 hw0
  have hw1 : ∀ n ∈ d1.weights Tryz.prog 29, n ≤ reachBytes := fun n hn => by have := List.all_eq_true.1 hsz n (DataW.weights_mem_each (j := 1) rfl rfl n hn); simpa using this
  obtain ⟨e10, e11, e12, e13, M1, rfl, hM1, hL1⟩ := open_machV (hval 1 29 v1 rfl rfl) h1 hw1
  obtain ⟨x2, rfl, hd2, hp2, wx2⟩ := open_int Tryz.underlying3 (hval 2 3 v2 rfl rfl) h2
  have hx2 : -9223372036854775808 ≤ x2 ∧ x2 ≤ 9223372036854775807 := by simpa [Lit.wf, IntKind.min, IntKind.max, IntKind.bits, IntKind.signed] using wx2
  obtain ⟨x3, rfl, hd3, hp3, wx3⟩ := open_int Tryz.underlying3 (hval 3 3 v3 rfl rfl) h3
  have hx3 : -9223372036854775808 ≤ x3 ∧ x3 ≤ 9223372036854775807 := by simpa [Lit.wf, IntKind.min, IntKind.max, IntKind.bits, IntKind.signed] using wx3
  clear hA0 hval0 hsz0
  refine (walk W l0 c0 hl0 M1 e10 e11 e12 e13 hM1 hL1 x2 hx2 x3 hx3).mono fun e W' ⟨he, bel⟩ => ?_
  subst he
  exact ⟨_, rfl, _, _, _, [], _, [], hW', trodAll_mk1 (shut_bool Tryz.underlying4 _), (trodAll_cons_mk (Below.trod laidOut (by kernel_rfl) (of_decide_eq_true (by kernel_rfl)) k0 bel lt0) (trodAll_cons_mk (Below.trod laidOut (by kernel_rfl) (of_decide_eq_true (by kernel_rfl)) k1 bel lt1) (trodAll_cons_mk (Below.trod laidOut (by kernel_rfl) (of_decide_eq_true (by kernel_rfl)) k2 bel lt2) (trodAll_cons_mk (Below.trod laidOut (by kernel_rfl) (of_decide_eq_true (by kernel_rfl)) k3 bel lt3) trodAll_mk0)))), rfl, bel.frame _, fun h => by cases h⟩
theorem over : Rows.meterSplitRow.holds Tryz.pinned (OpenSpec.ofChange Rows.meterSplitSpec) :=
  OpenClaim.holds_of_wide 8 Tryz.f8 rfl rfl rfl rfl rfl rfl rfl ⟨rfl, rfl, rfl, rfl, rfl⟩ rfl rfl rfl rfl rfl (by kernel_rfl) Tryz.func8 (by kernel_rfl)
    (of_decide_eq_true (by kernel_rfl)) (by unfold Func.isWrapper; first | (rw [if_pos (by decide +kernel)]; kernel_rfl) | (rw [if_neg (by decide +kernel)]; exact ⟨rfl, rfl⟩))
    (fun os started H enc _ => lifted os started H enc)
end Go.Proofs.YtcadpoknolefpaaGreat.meterSplit
namespace Go.Proofs.YtcadpoknolefpaaGreat
/-- For every input the law MeterSplit returns true, and the arguments read as they did. -/
theorem meterSplit_holds : Rows.MeterSplitSaid := meterSplit.over
end Go.Proofs.YtcadpoknolefpaaGreat

