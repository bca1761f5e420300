/- WHAT IS SENT IS BEHIND ALL THAT CAME, and nobody else has it; who waited runs: for every program and world and number and number WorldSends returns true. No condition. -/
import Derived.Test.YtmjjkenblfndgaaGreatC27
import Derived.Test.YtmjjkenblfndgaaGreatC17
import Derived.Deep.RegionHeld3
import Derived.Test.YtmjjkenblfndgaaGreatC6
import Derived.Deep.CutRange
set_option maxRecDepth 100000
set_option maxHeartbeats 8000000
namespace Go.Proofs.YtmjjkenblfndgaaGreat.worldSends
open Go.ChangeShapes Go.WideShapes Go.ChangeAt Go.RowKit
set_option linter.unusedVariables false
set_option linter.unusedSimpArgs false
theorem own : ownKnob Tryz.prog.godebug = none := by kernel_rfl
theorem laidOut : laidOutB Tryz.prog = true := by kernel_rfl
theorem sendE_zero {p : List Fn} {L : List Mach} {k n : Int} (h : sendE p L k n = 0) : xa4Z p L = 0 ∧ 0 ≤ k ∧ k < (L.length : Int) ∧ isI32 n = true ∧ ¬ fullAt L k.toNat := by
  unfold sendE at h
  split at h
  · contradiction
  · rename_i h1
    split at h
    · exact absurd h (by decide)
    · rename_i h2
      split at h
      · exact absurd h (by decide)
      · rename_i h3
        have h4 : wrap32 n = n := by
          by_cases hh : wrap32 n = n
          · exact hh
          · exact absurd (.inr (.inr hh)) h2
        exact ⟨by simpa using h1, by omega, by omega, by first | exact isI32_wrap h4 | (unfold isI32; unfold wrap32 at h4; simp; omega), h3⟩
theorem walk (w : World) (p : List Fn) (pv : Value) (hpf : ProgFull w pv p) (L : List Mach) (wv : Value) (hW : MachsAt w wv L) (hWL : ∀ M ∈ L, MachLong M) (k : Int) (hk : -9223372036854775808 ≤ k ∧ k ≤ 9223372036854775807) (n : Int) (hn : -9223372036854775808 ≤ n ∧ n ≤ 9223372036854775807) :
    Calls Tryz.prog 7 #[.agg #[pv], .agg #[wv], .int .i64 k, .int .i64 n] w fun e w' => e = .returned (.bool true) ∧ Below w.heap.size w w' := by
  have hpc : ∀ M ∈ L, PcOk M := fun M hM x hx => ((hWL M hM).fr.2 x hx).2.2
  have hcp := hpf.cap
  have hpp := hpf.at_
  obtain ⟨pp, qp, hpv, -⟩ := id hpp
  subst hpv
  obtain ⟨pw, cw, hwv, -⟩ := hW.shp
  subst hwv
  obtain ⟨W1, hW1⟩ : ∃ W1, (w.alloc (.cells #[.slice pp p.length qp] 24)).alloc (.cells #[.slice pw L.length cw] 27) = W1 := ⟨_, rfl⟩
  have b1 : Below w.heap.size w W1 := by rw [← hW1]; exact ((Below.refl _ w).alloc (Nat.le_refl _) _).alloc (by simp) _
  have u1 : W1.heap[w.heap.size]? = some (.cells #[.slice pp p.length qp] 24 (0, 0)) := by rw [← hW1]; exact xalZ (World.alloc_heap_new w _) _
  have u2 : W1.heap[w.heap.size + 1]? = some (.cells #[.slice pw L.length cw] 27 (0, 0)) := by rw [← hW1]; exact xazZ _ _ _
  have KC : Hid (∀ W, Below W1.heap.size W1 W → W.cell? ⟨w.heap.size, 0, none⟩ = some (.slice pp p.length qp) ∧ W.cell? ⟨w.heap.size + 1, 0, none⟩ = some (.slice pw L.length cw)) := fun W hW => ⟨xaaZ ((hW.block _ (xacZ u1)).trans u1) 0, xaaZ ((hW.block _ (xacZ u2)).trans u2) 0⟩
  have HP := hideP (And.intro (hpp.below b1) (hcp.below hpp b1))
  have HM := hideP (hW.below b1)
  have HPC := hideP hpc
  have HB1 := hideP b1
  obtain ⟨e0, e1⟩ := KC.out W1 (Below.refl _ _)
  clear hpf hW hWL hpc hcp hpp u1 u2 b1
  go_enter Tryz.func7, Tryz.ntmps7
  go_wp2_with fail
  refine (xmlZ L p k n hk _ _ W1 HP.out.1 HP.out.2 HM.out HPC.out).mono ?_
  rintro e w2 ⟨u2, rfl, o2⟩
  obtain ⟨T, hT⟩ : ∃ T, sendL p L k n = T := ⟨_, rfl⟩
  rw [hT] at o2
  obtain ⟨p2, c2, hu2⟩ := o2.shp
  subst hu2
  obtain ⟨V2, hV2⟩ : ∃ V2, w2.alloc (.cells #[.slice p2 (T).length c2] 27) = V2 := ⟨_, rfl⟩
  have d2 : Below w2.heap.size w2 V2 := by rw [← hV2]; exact (Below.refl _ w2).alloc (Nat.le_refl _) _
  have x2 : V2.heap[w2.heap.size]? = some (.cells #[.slice p2 (T).length c2] 27 (0, 0)) := by rw [← hV2]; exact World.alloc_heap_new w2 _
  have A2 := hideP (o2.at_.below d2)
  have F2 := hideP (xafZ o2.bel d2)
  have K2 : Hid (∀ W, Below V2.heap.size V2 W → W.cell? ⟨w2.heap.size, 0, none⟩ = some (.slice p2 (T).length c2)) := fun W hW => xaaZ ((hW.block _ (xacZ x2)).trans x2) 0
  clear o2 d2 x2
  obtain ⟨e0', e1'⟩ := KC.out V2 F2.out
  clear e0 e1
  go_wp2_with fail
  refine (xlkZ V2).mono ?_
  rintro e w3 ⟨rfl, b3⟩
  obtain ⟨e0, e1⟩ := KC.out w3 (xafZ F2.out b3)
  have k3 := K2.out w3 b3
  have HB3 := hideP b3
  clear e0' e1' b3
  by_cases hE : sendE p L k n = 0
  rotate_left
  · have hT0 : T = [] := by rw [← hT]; exact if_neg hE
    have t1 : ((T.length : Int) == 0) = true := by rw [hT0]; rfl
    have t2 : (T.length == 0) = true := by rw [hT0]; rfl
    have t0 : (sendE p L k n != 0) = true := by simpa using hE
    generalize sendE p L k n = er at *
    clear hE hT hT0
    go_wp2
    go_ret
    exact ⟨rfl, xafZ HB1.out (xafZ F2.out HB3.out)⟩
  obtain ⟨hwe, hk0, hkl, h32, hful⟩ := sendE_zero hE
  obtain ⟨K, rfl⟩ : ∃ K : Nat, k = K := ⟨k.toNat, by omega⟩
  have hKl : K < L.length := by omega
  obtain ⟨N, hN⟩ := xagZ hKl
  have hTs : T = L.set K (giveM N [n]) := by
    rw [← hT]
    unfold sendL
    rw [if_pos hE]
    exact xfwZ hN
  rw [hE]
  obtain ⟨r1, r2, r3, r4, r5⟩ := xfiZ hwe
  have hNR := r5 N (List.mem_of_getElem? hN)
  have hN10 : N.inp.length + 1 ≤ 10 := by
    have h1 := hNR.inp.1
    have h2 : N.inp.length ≠ 10 := fun h => hful ⟨N, hN, h⟩
    omega
  have hTr : ∀ M ∈ T, RightM p (entP p) M := fun M hM => by
    rw [hTs] at hM
    rcases List.mem_or_eq_of_mem_set hM with h | h
    · exact r5 M h
    · subst h
      exact xhkZ hNR (by simpa using hN10) (fun m hm => by simp at hm; subst hm; exact h32)
  have hTl : T.length = L.length := by rw [hTs]; exact List.length_set
  have hL0 : 0 < L.length := by omega
  have hT0 : xa4Z p T = 0 := xk3Z (fun h => by rw [h] at hTl; simp at hTl; omega) (by omega) r3 r4 hTr
  have HCK := hideP (xe3Z T p _ _ w3 (HP.out.1.below (xafZ F2.out HB3.out)) (HP.out.2.below HP.out.1 (xafZ F2.out HB3.out)) (A2.out.below HB3.out) (fun M hM => right_pc r3 r4 (hTr M hM)))
  rw [hT0] at HCK
  have t5 : ((T.length : Int) != (L.length : Int)) = false := by rw [hTl]; simp
  have t6 : ((T.length : Int) == (L.length : Int)) = true := by rw [hTl]; simp
  have t7 : (T.length == L.length) = true := by rw [hTl]; simp
  have t8 : (T.length != L.length) = false := by rw [hTl]; simp
  have HTS := hideP hTs
  have HTL := hideP hTl
  have HN := hideP hN
  have HR := hideP r5
  clear hE hT hwe r1 hTr hT0 r4 hTs hTl hN hful r5 hNR
  go_wp2_with fail
  refine HCK.out.mono ?_
  rintro e w4 ⟨rfl, b4⟩
  have HB4 := hideP (xafZ HB3.out b4)
  clear b4 e0 e1 k3 HCK
  go_wp2
  go_loopw [11, 12, 13] (fun v11 _ _ wr => ∃ i : Nat, i ≤ L.length ∧ v11 = .int .i64 i ∧ Below V2.heap.size V2 wr) (fun v11 _ _ _ => L.length - (intOf v11).toNat)
  case atStart => exact ⟨0, Nat.zero_le _, rfl, HB4.out⟩
  case round =>
    rename World => w6
    obtain ⟨i, hil, rfl, b6⟩ := hrel
    have b16 := xafZ F2.out b6
    obtain ⟨x0, x1⟩ := KC.out w6 b16
    have k6 := K2.out w6 b6
    by_cases hlt : i < L.length
    rotate_left
    · have hlti : ¬ (i : Int) < (L.length : Int) := by omega
      go_wp2
      go_ret
      exact ⟨rfl, xafZ HB1.out b16⟩
    have hlti : (i : Int) < (L.length : Int) := by omega
    have hltT : (i : Int) < (T.length : Int) := by rw [HTL.out]; exact hlti
    have hltTn : i < T.length := by omega
    obtain ⟨M, hM⟩ := xagZ hlt
    obtain ⟨b, hb⟩ := xagZ hltTn
    obtain ⟨p9, c9, he9, -, -, hf⟩ := (HM.out.below b16)
    cases he9
    obtain ⟨g, off, fv, bv, iv, ov, hpw, hg, m0, m1, m2, m3, m4, m5, hMA⟩ := hf i M hM
    subst hpw
    obtain ⟨⟨pf, cf, hfv⟩, ⟨pb, cb, hbv⟩, ⟨pi, ci, hiv⟩, ⟨po, co, hov⟩⟩ := hMA.shp
    subst hfv hbv hiv hov
    obtain ⟨p5, c5, he5, -, -, hf5⟩ := (A2.out.below b6)
    cases he5
    obtain ⟨g5, o5, fv5, bv5, iv5, ov5, hp5, hg5, k0, k1, k2, k3, k4, k5, hMB⟩ := hf5 i b hb
    subst hp5
    obtain ⟨⟨pf5, cf5, hfv5⟩, ⟨pb5, cb5, hbv5⟩, ⟨pi5, ci5, hiv5⟩, ⟨po5, co5, hov5⟩⟩ := hMB.shp
    subst hfv5 hbv5 hiv5 hov5
    have HMA := hideP hMA
    have HMB := hideP hMB
    have HMM := hideP (And.intro hM hb)
    have HB6 := hideP b6
    have HB16 := hideP b16
    clear hf hf5 hMA hMB hM hb b6 b16
    go_upto_region 11 with fail
    have lx1 := xbwZ x1
    have lk6 := xbwZ k6
    go_cut [12, 13] from 50 to 92 (fun sa sb wx => ∃ z z' : Nat, sa = .pointer (some ⟨z, 0, none⟩) ∧ sb = .pointer (some ⟨z', 0, none⟩) ∧ wx.heap[z]? = some (.cells #[.slice pf M.frames.length cf, .slice pb M.blocks.length cb, .slice pi M.inp.length ci, .slice po M.out.length co, .int .i64 M.status, .int .i64 M.trap] 48 (0, 0)) ∧ wx.heap[z']? = some (.cells #[.slice pf5 b.frames.length cf5, .slice pb5 b.blocks.length cb5, .slice pi5 b.inp.length ci5, .slice po5 b.out.length co5, .int .i64 b.status, .int .i64 b.trap] 48 (0, 0)) ∧ z ≠ z' ∧ w6.heap.size ≤ z ∧ w6.heap.size ≤ z' ∧ Below w6.heap.size w6 wx)
    case first =>
      go_region_held3 (fun W => W.cell? ⟨w.heap.size + 1, 0, none⟩ = some (.slice (some ⟨g, off, none⟩) L.length cw) ∧ W.cell? ⟨w2.heap.size, 0, none⟩ = some (.slice (some ⟨g5, o5, none⟩) T.length c2) ∧ W.cell? ⟨g, off + i * 6, none⟩ = some (.slice pf M.frames.length cf) ∧ W.cell? ⟨g, off + i * 6 + 1, none⟩ = some (.slice pb M.blocks.length cb) ∧ W.cell? ⟨g, off + i * 6 + 2, none⟩ = some (.slice pi M.inp.length ci) ∧ W.cell? ⟨g, off + i * 6 + 3, none⟩ = some (.slice po M.out.length co) ∧ W.cell? ⟨g, off + i * 6 + 4, none⟩ = some (.int .i64 M.status) ∧ W.cell? ⟨g, off + i * 6 + 5, none⟩ = some (.int .i64 M.trap) ∧ W.cell? ⟨g5, o5 + i * 6, none⟩ = some (.slice pf5 b.frames.length cf5) ∧ W.cell? ⟨g5, o5 + i * 6 + 1, none⟩ = some (.slice pb5 b.blocks.length cb5) ∧ W.cell? ⟨g5, o5 + i * 6 + 2, none⟩ = some (.slice pi5 b.inp.length ci5) ∧ W.cell? ⟨g5, o5 + i * 6 + 3, none⟩ = some (.slice po5 b.out.length co5) ∧ W.cell? ⟨g5, o5 + i * 6 + 4, none⟩ = some (.int .i64 b.status) ∧ W.cell? ⟨g5, o5 + i * 6 + 5, none⟩ = some (.int .i64 b.trap)) (first | go_keep) (fail)
      all_goals
        go_wp2_with fail
        go_meet
      · have hb : Below w6.heap.size w6 (((w6.alloc (.cells #[.slice pf M.frames.length cf, .slice pb M.blocks.length cb, .slice pi M.inp.length ci, .slice po M.out.length co, .int .i64 M.status, .int .i64 M.trap] 48)).alloc (.cells #[.slice pf5 b.frames.length cf5, .slice pb5 b.blocks.length cb5, .slice pi5 b.inp.length ci5, .slice po5 b.out.length co5, .int .i64 b.status, .int .i64 b.trap] 48)).drew) := (((Below.refl _ w6).alloc (Nat.le_refl _) _).alloc (by simp) _).drew
        exact ⟨_, _, rfl, rfl, xalZ (World.alloc_heap_new w6 (.cells #[.slice pf M.frames.length cf, .slice pb M.blocks.length cb, .slice pi M.inp.length ci, .slice po M.out.length co, .int .i64 M.status, .int .i64 M.trap] 48)) (.cells #[.slice pf5 b.frames.length cf5, .slice pb5 b.blocks.length cb5, .slice pi5 b.inp.length ci5, .slice po5 b.out.length co5, .int .i64 b.status, .int .i64 b.trap] 48), xazZ w6 (.cells #[.slice pf M.frames.length cf, .slice pb M.blocks.length cb, .slice pi M.inp.length ci, .slice po M.out.length co, .int .i64 M.status, .int .i64 M.trap] 48) (.cells #[.slice pf5 b.frames.length cf5, .slice pb5 b.blocks.length cb5, .slice pi5 b.inp.length ci5, .slice po5 b.out.length co5, .int .i64 b.status, .int .i64 b.trap] 48), by omega, by omega, by omega, hb⟩
      · have hb : Below w6.heap.size w6 (((w6.alloc (.cells #[.slice pf5 b.frames.length cf5, .slice pb5 b.blocks.length cb5, .slice pi5 b.inp.length ci5, .slice po5 b.out.length co5, .int .i64 b.status, .int .i64 b.trap] 48)).alloc (.cells #[.slice pf M.frames.length cf, .slice pb M.blocks.length cb, .slice pi M.inp.length ci, .slice po M.out.length co, .int .i64 M.status, .int .i64 M.trap] 48)).drew) := (((Below.refl _ w6).alloc (Nat.le_refl _) _).alloc (by simp) _).drew
        exact ⟨_, _, rfl, rfl, xazZ w6 (.cells #[.slice pf5 b.frames.length cf5, .slice pb5 b.blocks.length cb5, .slice pi5 b.inp.length ci5, .slice po5 b.out.length co5, .int .i64 b.status, .int .i64 b.trap] 48) (.cells #[.slice pf M.frames.length cf, .slice pb M.blocks.length cb, .slice pi M.inp.length ci, .slice po M.out.length co, .int .i64 M.status, .int .i64 M.trap] 48), xalZ (World.alloc_heap_new w6 (.cells #[.slice pf5 b.frames.length cf5, .slice pb5 b.blocks.length cb5, .slice pi5 b.inp.length ci5, .slice po5 b.out.length co5, .int .i64 b.status, .int .i64 b.trap] 48)) (.cells #[.slice pf M.frames.length cf, .slice pb M.blocks.length cb, .slice pi M.inp.length ci, .slice po M.out.length co, .int .i64 M.status, .int .i64 M.trap] 48), by omega, by omega, by omega, hb⟩
    case rest =>
      obtain ⟨z, z', rfl, rfl, hz, hz', hzz, hlz, hlz', hb⟩ := hcut
      rename World => wx
      obtain ⟨hM, hbT⟩ := HMM.out
      have u0 : wx.cell? ⟨z, 0, none⟩ = some (.slice pf M.frames.length cf) := xaaZ hz 0
      have u1 : wx.cell? ⟨z, 1, none⟩ = some (.slice pb M.blocks.length cb) := xaaZ hz 1
      have u2 : wx.cell? ⟨z, 2, none⟩ = some (.slice pi M.inp.length ci) := xaaZ hz 2
      have u3 : wx.cell? ⟨z, 3, none⟩ = some (.slice po M.out.length co) := xaaZ hz 3
      have u4 : wx.cell? ⟨z, 4, none⟩ = some (.int .i64 M.status) := xaaZ hz 4
      have u5 : wx.cell? ⟨z, 5, none⟩ = some (.int .i64 M.trap) := xaaZ hz 5
      have v0 : wx.cell? ⟨z', 0, none⟩ = some (.slice pf5 b.frames.length cf5) := xaaZ hz' 0
      have v1 : wx.cell? ⟨z', 1, none⟩ = some (.slice pb5 b.blocks.length cb5) := xaaZ hz' 1
      have v2 : wx.cell? ⟨z', 2, none⟩ = some (.slice pi5 b.inp.length ci5) := xaaZ hz' 2
      have v3 : wx.cell? ⟨z', 3, none⟩ = some (.slice po5 b.out.length co5) := xaaZ hz' 3
      have v4 : wx.cell? ⟨z', 4, none⟩ = some (.int .i64 b.status) := xaaZ hz' 4
      have v5 : wx.cell? ⟨z', 5, none⟩ = some (.int .i64 b.trap) := xaaZ hz' 5
      have HBX := hideP (xafZ HB6.out hb)
      have HBW := hideP (xafZ HB16.out hb)
      have hA := HMA.out.below hb
      have hB := HMB.out.below hb
      have HSM := hideP (xgpZ M b _ _ _ _ _ _ _ _ wx hA hB)
      by_cases hiK : i = K
      rotate_left
      · have tk : ((i : Int) != (K : Int)) = true := by simp; omega
        have hMb : M = b := by
          have h1 := hbT
          rw [HTS.out, List.getElem?_set, if_neg (by omega), hM] at h1
          cases h1
          rfl
        have HMb := hideP hMb
        clear hMb hz hz' hA hB hM hbT hb
        go_wp2_with fail
        refine HSM.out.mono ?_
        rintro e wz ⟨rr, rfl, hrr, bz⟩
        have hrt : rr = true := hrr.2 HMb.out
        subst hrt
        go_wp2
        exact ⟨⟨i + 1, by omega, by go_num, xafZ HBX.out bz⟩, by simp [intOf]; omega⟩
      subst hiK
      have hbN : b = giveM M [n] := by
        have h1 := hbT
        rw [HTS.out, List.getElem?_set, if_pos rfl, if_pos hlt] at h1
        rw [HN.out] at hM
        cases hM
        cases h1
        rfl
      have HbN := hideP hbN
      have hM0 := hM
      clear hbN hM hbT
      have tk : ((i : Int) != (i : Int)) = false := by simp
      go_upto_region 15 with fail
      have lz := xacZ hz
      have lz' := xacZ hz'
      have HIN := hideP hA.inp
      have hin10 : M.inp.length ≤ 10 := by exact (HR.out M (List.mem_of_getElem? hM0)).inp.1
      have HIB := hideP hB.inp
      have HDEC := hideP (show decide (b.inp = M.inp ++ [n]) = true by rw [HbN.out]; simp [giveM])
      have bst : (b.status == 1) = false := by
        rw [HbN.out]
        unfold giveM
        by_cases h1 : M.status = 1 <;> simp [h1]
      have BR := Below.refl wx.heap.size wx
      go_cut [82] from 67 to 92 (fun sa wx2 => sa = .bool false ∧ Below wx.heap.size wx wx2)
      case first =>
        go_region_held3 (fun W => W.cell? ⟨z, 2, none⟩ = some (.slice pi M.inp.length ci) ∧ W.cell? ⟨z', 2, none⟩ = some (.slice pi5 b.inp.length ci5) ∧ W.cell? ⟨z', 4, none⟩ = some (.int .i64 b.status)) (first | go_keep)
          (first
            | (refine xgaZ (by rfl) _ _ (by rfl) wx.heap.size _ M.inp (by rfl) (by first | exact row_etaN ho1 rfl | exact row_etaN (ho1.alloc _) rfl) _ [n] (by rfl) (xmwZ (by first | exact World.alloc_heap_new _ _ | exact kB0 | exact kB1)) (by simp; omega) (by have := kp1.size; simp; omega) ?_; intro u2x w2x ho2 hg2; rw [List.length_append, List.length_singleton] at ho2; obtain ⟨q2, cc2, hu2⟩ := xaiZ ho2; subst hu2; have kp2 : Below wx.heap.size wx w2x := xj4Z (by first | exact xd0Z kp1 rfl rfl rfl rfl | exact xd0Z (xdiZ kp1 _) rfl rfl rfl rfl) hg2 (fun k hk => (ho1.lt k hk).1); have r0 := (kp2.cell (p := ⟨z, 2, none⟩) lz).trans u2; have r1 := (kp2.cell (p := ⟨z', 2, none⟩) lz').trans v2; have r2 := (kp2.cell (p := ⟨z', 4, none⟩) lz').trans v4)
            | (go_at_call 25; (refine (xdeZ b.inp (M.inp ++ [n]) _ _ w2x (HIB.out.below kp2).at_ (xbkZ (by simp) ho2)).mono ?_); rintro e w3x ⟨rfl, b3x⟩; rw [HDEC.out]; have kp3 := xafZ kp2 b3x; have o0 := (kp3.cell (p := ⟨z, 2, none⟩) lz).trans u2; have o1 := (kp3.cell (p := ⟨z', 2, none⟩) lz').trans v2; have o2 := (kp3.cell (p := ⟨z', 4, none⟩) lz').trans v4)
            | (refine xgaZ (by rfl) _ _ (by rfl) wx.heap.size _ [] (by rfl) (nums_empty (by first | exact World.alloc_heap_new _ _ | exact xalZ (World.alloc_heap_new _ _) _ | exact xazZ _ _ _) (by omega)) _ M.inp (by rfl) (HIN.out.below (by first | exact xd0Z BR rfl rfl rfl rfl | exact xd0Z (xdiZ BR _) rfl rfl rfl rfl | exact xd0Z (xdiZ (xdiZ BR _) _) rfl rfl rfl rfl)) (by simp; omega) (by first | (simp; done) | (simp; omega)) ?_; intro u1 w1 ho1 hg1; simp only [List.nil_append] at ho1; obtain ⟨q1, cc1, hu1⟩ := xaiZ ho1; subst hu1; have kp1 : Below wx.heap.size wx w1 := xj4Z (by first | exact xd0Z BR rfl rfl rfl rfl | exact xd0Z (xdiZ BR _) rfl rfl rfl rfl | exact xd0Z (xdiZ (xdiZ BR _) _) rfl rfl rfl rfl) hg1 (by intro k e; simp [Value.ownBlock] at e; omega); have s0 := (kp1.cell (p := ⟨z, 2, none⟩) lz).trans u2; have s1 := (kp1.cell (p := ⟨z', 2, none⟩) lz').trans v2; have s2 := (kp1.cell (p := ⟨z', 4, none⟩) lz').trans v4; (try have kB0 : w1.heap[wx.heap.size]? = some (.cells #[.int .i64 n] 3 (0, 0)) := (hg1.block _ (by simp <;> omega) (by simp [Value.ownBlock])).trans (by first | exact xalZ (World.alloc_heap_new _ _) _ | exact World.alloc_heap_new _ _)); (try have kB1 : w1.heap[wx.heap.size + 1]? = some (.cells #[.int .i64 n] 3 (0, 0)) := (hg1.block _ (by simp <;> omega) (by simp [Value.ownBlock])).trans (xazZ _ _ _))))
        all_goals
          go_wp2_with fail
          go_meet
          first | exact ⟨rfl, kp3⟩ | exact ⟨rfl, kp3.drew⟩
      case rest =>
        obtain ⟨rfl, hb2⟩ := hcut
        rename World => wy
        replace u0 := (hb2.cell (p := ⟨z, 0, none⟩) lz).trans u0
        replace v0 := (hb2.cell (p := ⟨z', 0, none⟩) lz').trans v0
        replace u1 := (hb2.cell (p := ⟨z, 1, none⟩) lz).trans u1
        replace v1 := (hb2.cell (p := ⟨z', 1, none⟩) lz').trans v1
        replace u2 := (hb2.cell (p := ⟨z, 2, none⟩) lz).trans u2
        replace v2 := (hb2.cell (p := ⟨z', 2, none⟩) lz').trans v2
        replace u3 := (hb2.cell (p := ⟨z, 3, none⟩) lz).trans u3
        replace v3 := (hb2.cell (p := ⟨z', 3, none⟩) lz').trans v3
        replace u4 := (hb2.cell (p := ⟨z, 4, none⟩) lz).trans u4
        replace v4 := (hb2.cell (p := ⟨z', 4, none⟩) lz').trans v4
        replace u5 := (hb2.cell (p := ⟨z, 5, none⟩) lz).trans u5
        replace v5 := (hb2.cell (p := ⟨z', 5, none⟩) lz').trans v5
        have hz'y := (hb2.block _ lz').trans hz'
        have fy := Lib.frozen_of_heap hz'y
        have fy2 := fy 2
        have fy4 := fy 4
        have nzz : ¬ z = z' := hzz
        have nzz' : ¬ z' = z := fun e => hzz e.symm
        have HB2 := hideP (xafZ hb hb2)
        clear hz hz' hz'y fy hA hB hb hb2 hzz HDEC bst HIN HIB
        go_wp2
        go_region
        all_goals
          go_wp2_with fail
          have hbn := HbN.out
          have b6F : Below w6.heap.size w6 ((wy.setCell ⟨z', 2, none⟩ (.slice pi M.inp.length ci)).setCell ⟨z', 4, none⟩ (.int .i64 M.status)).drew := ((HB2.out.setCell (p := ⟨z', 2, none⟩) hlz' _).setCell (p := ⟨z', 4, none⟩) hlz' _).drew
          have a1 := HMA.out.below b6F
          have a2 := HMB.out.below b6F
          have hSY := xgpZ M ⟨b.frames, b.blocks, M.inp, b.out, M.status, b.trap⟩ _ _ _ _ _ _ _ _ _ a1 ⟨a2.fr, a2.bl, a1.inp, a2.out⟩
          have hYM : M = ⟨b.frames, b.blocks, M.inp, b.out, M.status, b.trap⟩ := by rw [hbn]; rfl
          refine hSY.mono ?_
          rintro e wz ⟨rr, rfl, hrr, bz⟩
          have hrt : rr = true := hrr.2 hYM
          subst hrt
          have HE := hideP (xafZ (xafZ HB6.out b6F) bz)
          clear hbn hYM hSY hrr a1 a2 b6F bz
          go_wp2
          exact ⟨⟨i + 1, by omega, by go_num, HE.out⟩, by simp [intOf]; omega⟩
theorem lifted (os : Os) (started : os.Started) (H : Type) (enc : TypeId × Value → H) :
    ReturnsInHanded {} Tryz.checked os 7 .any (Rows.worldSendsSpec.pre6 enc Tryz.prog Tryz.f7 Rows.worldSendsRow.domain false) (Rows.worldSendsSpec.post enc Tryz.prog Tryz.f7 false true false false) := by
  refine returnsInHanded_of_change_sized (C := Tryz.checked) own started (by kernel_rfl) Tryz.func7
    (ChangeSpec.witness6 (enc := enc) (C := Tryz.checked) false ⟨#[], #[.agg #[.slice none 0 0], .agg #[.slice none 0 0], .int .i64 0, .int .i64 0], []⟩ 8 (by kernel_rfl) (by kernel_rfl) (by kernel_rfl) (by kernel_rfl)) ?_
  intro W base args ds gs before hval0 hW hcnd hsz0 hholds
  have hval : ∀ (j : Nat) t v, Tryz.f7.params[j]? = some t → args[j]? = some v → Value.okWide Tryz.prog W .any base t v := hval0
  have hsz : (DataW.weightsEach Tryz.prog (Tryz.f7.params.toList ++ Rows.worldSendsSpec.plain.varTypes Tryz.prog) (ds ++ gs)).all (· ≤ reachBytes) = true := hsz0
  have hW' := hW
  obtain ⟨p, q, hA0, hV, rfl, hfz, hnd⟩ := hW
  have hA : DataW.TrodAll enc Tryz.prog W 0 (fun _ => true) true Tryz.f7.params.toList args.toList ds p := hA0
  rw [Tryz.params7] at hA hval hsz
  obtain ⟨v0, vs0, d0, ds0, p0, q0, hargs, rfl, rfl, h0, r0⟩ := trodAll_cons hA
  obtain ⟨v1, vs1, d1, ds1, p1, q1, rfl, rfl, rfl, h1, r1⟩ := trodAll_cons r0
  obtain ⟨v2, vs2, d2, ds2, p2, q2, rfl, rfl, rfl, h2, r2⟩ := trodAll_cons r1
  obtain ⟨v3, vs3, d3, ds3, p3, q3, rfl, rfl, rfl, h3, r3⟩ := trodAll_cons r2
  obtain ⟨rfl, rfl, rfl⟩ := trodAll_nil r3
  obtain rfl : args = #[v0, v1, v2, v3] := by cases args; simp_all
  obtain ⟨rfl, rfl⟩ := trodVars_none hV
  have k0 := h0
  have k1 := h1
  have k2 := h2
  have k3 := h3
  have lt0 : ∀ x ∈ p0, x.block < W.heap.size := by obtain ⟨m, hm⟩ := k0; exact DataW.trod_lt m _ _ _ hm
  have lt1 : ∀ x ∈ p1, x.block < W.heap.size := by obtain ⟨m, hm⟩ := k1; exact DataW.trod_lt m _ _ _ hm
  have lt2 : ∀ x ∈ p2, x.block < W.heap.size := by obtain ⟨m, hm⟩ := k2; exact DataW.trod_lt m _ _ _ hm
  have lt3 : ∀ x ∈ p3, x.block < W.heap.size := by obtain ⟨m, hm⟩ := k3; exact DataW.trod_lt m _ _ _ hm
  have hw0 : ∀ n ∈ d0.weights Tryz.prog 24, n ≤ reachBytes := fun n hn => by have := List.all_eq_true.1 hsz n (DataW.weights_mem_each (j := 0) rfl rfl n hn); simpa using this
  obtain ⟨c0, l0, rfl, hl0⟩ := open_progC (hval 0 24 v0 rfl rfl) h0 hw0
  have hw1 : ∀ n ∈ d1.weights Tryz.prog 27, n ≤ reachBytes := fun n hn => by have := List.all_eq_true.1 hsz n (DataW.weights_mem_each (j := 1) rfl rfl n hn); simpa using this
  obtain ⟨c1, L1, rfl, hM1, hL1⟩ := xpvZ (hval 1 27 v1 rfl rfl) h1 hw1
  obtain ⟨x2, rfl, hd2, hp2, wx2⟩ := open_int Tryz.underlying3 (hval 2 3 v2 rfl rfl) h2
  have hx2 : -9223372036854775808 ≤ x2 ∧ x2 ≤ 9223372036854775807 := by simpa [Lit.wf, IntKind.min, IntKind.max, IntKind.bits, IntKind.signed] using wx2
  obtain ⟨x3, rfl, hd3, hp3, wx3⟩ := open_int Tryz.underlying3 (hval 3 3 v3 rfl rfl) h3
  have hx3 : -9223372036854775808 ≤ x3 ∧ x3 ≤ 9223372036854775807 := by simpa [Lit.wf, IntKind.min, IntKind.max, IntKind.bits, IntKind.signed] using wx3
  clear hA0 hval0 hsz0
  refine (walk W l0 c0 hl0 L1 c1 hM1 hL1 x2 hx2 x3 hx3).mono fun e W' ⟨he, bel⟩ => ?_
  subst he
  exact ⟨_, rfl, _, _, _, [], _, [], hW', trodAll_mk1 (shut_bool Tryz.underlying4 _), (trodAll_cons_mk (Below.trod laidOut (by kernel_rfl) (of_decide_eq_true (by kernel_rfl)) k0 bel lt0) (trodAll_cons_mk (Below.trod laidOut (by kernel_rfl) (of_decide_eq_true (by kernel_rfl)) k1 bel lt1) (trodAll_cons_mk (Below.trod laidOut (by kernel_rfl) (of_decide_eq_true (by kernel_rfl)) k2 bel lt2) (trodAll_cons_mk (Below.trod laidOut (by kernel_rfl) (of_decide_eq_true (by kernel_rfl)) k3 bel lt3) trodAll_mk0)))), rfl, bel.frame _, fun h => by cases h⟩
theorem over : Rows.worldSendsRow.holds Tryz.pinned (OpenSpec.ofChange Rows.worldSendsSpec) :=
  OpenClaim.holds_of_wide 7 Tryz.f7 rfl rfl rfl rfl rfl rfl rfl ⟨rfl, rfl, rfl, rfl, rfl⟩ rfl rfl rfl rfl rfl (by kernel_rfl) Tryz.func7 (by kernel_rfl)
    (of_decide_eq_true (by kernel_rfl)) (by unfold Func.isWrapper; first | (rw [if_pos (by decide +kernel)]; kernel_rfl) | (rw [if_neg (by decide +kernel)]; exact ⟨rfl, rfl⟩))
    (fun os started H enc _ => lifted os started H enc)
end Go.Proofs.YtmjjkenblfndgaaGreat.worldSends
namespace Go.Proofs.YtmjjkenblfndgaaGreat
/-- For every input the law WorldSends returns true, and the arguments read as they did. -/
theorem worldSends_holds : Rows.WorldSendsSaid := worldSends.over
end Go.Proofs.YtmjjkenblfndgaaGreat

