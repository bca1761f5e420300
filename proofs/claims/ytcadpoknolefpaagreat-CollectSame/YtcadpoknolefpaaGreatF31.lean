/- My texts Ui: what of them is needed, joined. -/

import Derived.Test.YtcadpoknolefpaaGreatF25
import Derived.Test.YtcadpoknolefpaaGreatF27
import Derived.Test.YtcadpoknolefpaaGreatF29
import Derived.Test.YtcadpoknolefpaaGreatF30
/- What must be in any case of collecting: holder, collectBegun. -/
namespace Go.Proofs.YtcadpoknolefpaaGreat
open Go.RowKit
set_option linter.unusedSimpArgs false
set_option linter.unusedVariables false
theorem holder_at {w W1 W2 W3 W4 : World} {o1 : Obj} (hW1 : w.alloc o1 = W1) (hW2 : W1.alloc (.cells #[.int .i64 2] 3) = W2)
    (hW3 : W2.alloc (.cells #[.int .i64 1, .int .i64 2, .int .i64 14, .int .i64 0, .int .i64 2, .int .i64 0, .int .i64 1, .int .i64 1, .int .i64 14, .int .i64 0, .int .i64 9, .int .i64 0, .int .i64 8, .int .i64 0, .int .i64 1, .int .i64 0, .int .i64 15, .int .i64 0, .int .i64 20, .int .i64 0, .int .i64 13, .int .i64 0] 43) = W3) (hW4 : W3.alloc (.cells #[.int .i64 0, .slice (some ⟨w.heap.size + 1, 0, none⟩) 1 1, .int .i64 0, .slice (some ⟨w.heap.size + 1 + 1, 0, none⟩) 11 11] 78) = W4) :
    FnsAt W4 (.slice (some ⟨w.heap.size + 1 + 1 + 1, 0, none⟩) 1 1) holderFns ∧ Below w.heap.size w W4 ∧ W4.heap[w.heap.size]? = some o1 ∧ W4.heap[w.heap.size + 1 + 1 + 1]? = some (.cells #[.int .i64 0, .slice (some ⟨w.heap.size + 1, 0, none⟩) 1 1, .int .i64 0, .slice (some ⟨w.heap.size + 1 + 1, 0, none⟩) 11 11] 78 (0, 0)) := by
  have s1 : W1.heap.size = w.heap.size + 1 := by rw [← hW1]; simp
  have s2 : W2.heap.size = w.heap.size + 1 + 1 := by rw [← hW2]; simp; exact s1
  have s3 : W3.heap.size = w.heap.size + 1 + 1 + 1 := by rw [← hW3]; simp; exact s2
  have h1 := heap_new w o1
  rw [hW1] at h1
  have h2 := heap_new W1 (.cells #[.int .i64 2] 3)
  rw [hW2, s1] at h2
  have h3 := heap_new W2 (.cells #[.int .i64 1, .int .i64 2, .int .i64 14, .int .i64 0, .int .i64 2, .int .i64 0, .int .i64 1, .int .i64 1, .int .i64 14, .int .i64 0, .int .i64 9, .int .i64 0, .int .i64 8, .int .i64 0, .int .i64 1, .int .i64 0, .int .i64 15, .int .i64 0, .int .i64 20, .int .i64 0, .int .i64 13, .int .i64 0] 43)
  rw [hW3, s2] at h3
  have h4 := heap_new W3 (.cells #[.int .i64 0, .slice (some ⟨w.heap.size + 1, 0, none⟩) 1 1, .int .i64 0, .slice (some ⟨w.heap.size + 1 + 1, 0, none⟩) 11 11] 78)
  rw [hW4, s3] at h4
  have k2 : ∀ {k : Nat} {o : Obj}, W1.heap[k]? = some o → W2.heap[k]? = some o := fun h => by rw [← hW2]; exact heap_old h _
  have k3 : ∀ {k : Nat} {o : Obj}, W2.heap[k]? = some o → W3.heap[k]? = some o := fun h => by rw [← hW3]; exact heap_old h _
  have k4 : ∀ {k : Nat} {o : Obj}, W3.heap[k]? = some o → W4.heap[k]? = some o := fun h => by rw [← hW4]; exact heap_old h _
  have b1 : Below w.heap.size w W1 := by rw [← hW1]; exact (Below.refl _ w).alloc (Nat.le_refl _) _
  have b2 : Below w.heap.size w W2 := by rw [← hW2]; exact b1.alloc (by omega) _
  have b3 : Below w.heap.size w W3 := by rw [← hW3]; exact b2.alloc (by omega) _
  have b4 : Below w.heap.size w W4 := by rw [← hW4]; exact b3.alloc (by omega) _
  refine ⟨⟨_, 1, rfl, by unfold maxLen; decide, fun k f hk => ?_⟩, b4, k4 (k3 (k2 h1)), h4⟩
  have o1 : OpsAt W4 (.slice (some ⟨w.heap.size + 1 + 1, 0, none⟩) 11 11) holderOps := opsAt_new (l := holderOps) (m := []) (fz := (0, 0)) 11 11 (k4 h3) rfl (by unfold maxLen; decide)
  have i1 : IntsAt W4 (.slice (some ⟨w.heap.size + 1, 0, none⟩) 1 1) [2] := ⟨_, 1, rfl, by unfold maxLen; decide, fun k z hk => by
    match k, hk with
    | 0, hk => simp at hk; subst hk; exact ⟨_, 0, rfl, heap_lt (k4 (k3 h2)), cell_at' (k4 (k3 h2)) 0⟩
    | k + 1, hk => simp at hk⟩
  match k, hk with
  | 0, hk =>
    simp [holderFns] at hk; subst hk
    exact ⟨_, 0, _, _, _, _, rfl, heap_lt h4, cell_at' h4 0, cell_at' h4 1, cell_at' h4 2, cell_at' h4 3, rfl, i1, rfl, o1⟩
  | k + 1, hk => simp [holderFns] at hk
set_option maxRecDepth 100000 in
set_option maxHeartbeats 4000000 in
theorem holder_any (w : World) : Calls Tryz.prog 82 #[] w fun e w' => ∃ v, e = .returned (.agg #[v]) ∧ FnsAt w' v holderFns ∧ CapAt w' v ∧ Below w.heap.size w w' := by
  go_enter Tryz.func82, Tryz.ntmps82
  go_wp2
  obtain ⟨hf, hb, hh, hh4⟩ := holder_at (w := w) (o1 := .cells #[.slice (some ⟨w.heap.size + 1 + 1 + 1, 0, none⟩) 1 1] 24) rfl rfl rfl rfl
  have t0 := cell_at' hh 0
  simp only [List.getElem?_toArray, List.getElem?_cons_zero] at t0
  refine bodyPost_ret (v := .agg #[.slice (some ⟨w.heap.size + 1 + 1 + 1, 0, none⟩) 1 1]) (by simp [results, Tryz.results82, go_sem, t0]) rfl ⟨_, rfl, hf, ?_, hb⟩
  refine cap_of hh4 ?_
  intro k p n' c' hk
  match k, hk with
  | 0, hk => simp at hk; omega
  | k + 1, hk =>
    have := (Array.getElem?_eq_some_iff.1 hk).1
    simp at this
    omega
theorem holder_fits {pv : Value} {w : World} (hp : FnsAt w pv holderFns) (hcp : CapAt w pv) : fitsE holderFns = 0 := by
  obtain ⟨er, h⟩ := progIs_some hp hcp
  rw [← progIs_fitsE h]
  exact holder_prog h
theorem hb_right (hf : fitsE holderFns = 0) : progErr holderFns = 0 ∧ AllFit holderFns (entP holderFns) ∧ RightM holderFns (entP holderFns) hBeginM := by
  obtain ⟨hp, he⟩ := fitsE_zero.1 hf
  obtain ⟨f, _, _, hR⟩ := startM_right hp he
  rw [hb1] at hR
  exact ⟨hp, he, hR⟩
theorem hb_ok (hf : fitsE holderFns = 0) : checkE holderFns hBeginM = 0 ∧ checkE holderFns hRanM = 0 := by
  obtain ⟨hp, he, hR⟩ := hb_right hf
  exact ⟨checkE_zero.2 ⟨hp, he, hR⟩, checkE_zero.2 ⟨hp, he, (run_right hp he hR (by decide) his10).1⟩⟩
theorem pcOk_hb : PcOk hBeginM := fun x hx => by simp [hBeginM] at hx; subst hx; simp
theorem pcOk_hr : PcOk hRanM := fun x hx => by simp [hRanM] at hx; subst hx; simp
theorem holder_start {pv : Value} {w : World} (hp : FnsAt w pv holderFns) (hcp : CapAt w pv) (hf : fitsE holderFns = 0) : Calls Tryz.prog 14 #[.agg #[pv]] w (MRet hBeginM 0 w) := by
  have := mStart_any holderFns pv w hp hcp
  rw [hf, if_pos rfl, hb1] at this
  exact this
theorem holder_run {pv fv bv iv ov : Value} {w : World} (h : CkAt w holderFns pv fv bv iv ov hBeginM) (hf : fitsE holderFns = 0) : Calls Tryz.prog 29 #[.agg #[pv], .agg #[fv, bv, iv, ov, .int .i64 hBeginM.status, .int .i64 hBeginM.trap], .int .i64 10] w (MRet3 hRanM 0 w) := by
  have hE : runE holderFns hBeginM 10 = 0 := runE_zero.2 ⟨(hb_ok hf).1, by decide⟩
  refine (mRun_any hBeginM holderFns 10 pv fv bv iv ov w h pcOk_hb).mono ?_
  rintro e w' ⟨t, ht, f', b', i', o', h1, h2, h3⟩
  have := runIs_one (ht.1 hE) his10
  subst this
  rw [hE] at h1
  exact ⟨_, _, _, _, h1, h2, h3⟩
theorem hroots : rootsL hRanM = [2] := by
  unfold rootsL
  rw [hkept.2]
  simp [sortI, Lib.compact, Lib.compactUpTo, Lib.keeps, List.range_succ]
theorem holder_roots {pv fv bv iv ov : Value} {w : World} (h : CkAt w holderFns pv fv bv iv ov hRanM) (hf : fitsE holderFns = 0) : Calls Tryz.prog 36 #[.agg #[pv], .agg #[fv, bv, iv, ov, .int .i64 hRanM.status, .int .i64 hRanM.trap]] w fun e w' => ∃ u, e = .returned (.tuple #[u, .int .i64 0]) ∧ IntsAt w' u [2] ∧ Below w.heap.size w w' := by
  refine (roots_any hRanM holderFns pv fv bv iv ov w h pcOk_hr).mono ?_
  rintro e w' ⟨u, rfl, h1, h2⟩
  have hE := (hb_ok hf).2
  have hR : rootsR holderFns hRanM = [2] := by unfold rootsR; rw [if_pos hE, hroots]
  rw [hR] at h1
  exact ⟨u, by rw [hE], intsAt_of_row rfl h1, h2⟩
theorem holder_coll {pv fv bv iv ov : Value} {w : World} (h : CkAt w holderFns pv fv bv iv ov hRanM) (hf : fitsE holderFns = 0) : Calls Tryz.prog 37 #[.agg #[pv], .agg #[fv, bv, iv, ov, .int .i64 hRanM.status, .int .i64 hRanM.trap]] w (MRet3 hKeptM 1 w) := by
  refine (collect_any hRanM holderFns pv fv bv iv ov w h pcOk_hr).mono ?_
  rintro e w' ⟨f', b', i', o', h1, h2, h3⟩
  have hE := (hb_ok hf).2
  have hC : CollR holderFns hRanM = hKeptM := by unfold CollR; rw [if_pos hE, hkept.1]
  have hG : goneR holderFns hRanM = 1 := by unfold goneR; rw [if_pos hE, hkept.1]; rfl
  rw [hC, hG, hE] at h1
  rw [hC] at h2
  exact ⟨_, _, _, _, h1, h2, h3⟩
theorem eql_val (c : Bool) (a : Int) (c' : Bool) (a' : Int) (w : World) : (binOp .eql 50 (.agg #[.bool c, .int .i64 a]) (.agg #[.bool c', .int .i64 a'])).run Tryz.prog w = .ok (.bool (c == c' && a == a')) w := by
  have u3 := Tryz.underlying3
  have a3 := Tryz.isAgg3
  have z3 := Tryz.sizeOf3
  have u4 := Tryz.underlying4
  have a4 := Tryz.isAgg4
  have z4 := Tryz.sizeOf4
  have hS : Tryz.prog.underlying 50 = some (.struct (Tryz.prog.fieldsOf 50)) := by kernel_rfl
  have hp : Tryz.prog.stoodInHeld 50 = false := by kernel_rfl
  rw [run_eql_struct, show (10000 : Nat) = 9999 + 1 from rfl, run_equalIn_agg w 9999 50 _ _ hS hp]
  simp only [Program.fieldsOf, Tryz.underlying50]
  go_simp
  by_cases h1 : c = c' <;> by_cases h2 : a = a' <;> simp [h1, h2]
set_option maxRecDepth 100000 in
set_option maxHeartbeats 8000000 in
theorem collectBegun_any (w : World) : Calls Tryz.prog 40 #[] w fun e w' => e = .returned (.bool true) ∧ Below w.heap.size w w' := by
  go_enter Tryz.func40, Tryz.ntmps40
  go_wp2_with fail
  refine (holder_any _).mono ?_
  rintro e w1 ⟨v1, rfl, f1, k1, b1⟩
  have hcf := holder_fits f1 k1
  have HST := hideP (holder_start f1 k1 hcf)
  go_wp2_with fail
  refine HST.out.mono ?_
  rintro e w2 ⟨xf, xb, xi, xo, rfl, r2, b2⟩
  have B2 := bthen0 b1 b2
  have HCF := hideP hcf
  obtain ⟨⟨pf, kf, hf⟩, ⟨pb, kb, hb⟩, ⟨pi, ki, hi⟩, ⟨po, ko, ho⟩⟩ := mres_shpN r2
  subst hf hb hi ho
  have A2 : MachAt w2 _ _ _ _ hBeginM := r2.at_ (by decide)
  obtain ⟨W3, hW3⟩ : ∃ W3, w2.alloc (.cells #[.slice pf hBeginM.frames.length kf, .slice pb hBeginM.blocks.length kb, .slice pi hBeginM.inp.length ki, .slice po hBeginM.out.length ko, .int .i64 hBeginM.status, .int .i64 hBeginM.trap] 29) = W3 := ⟨_, rfl⟩
  have b3 : Below w2.heap.size w2 W3 := by rw [← hW3]; exact (Below.refl _ w2).alloc (Nat.le_refl _) _
  have u3 : W3.heap[w2.heap.size]? = some (.cells #[.slice pf hBeginM.frames.length kf, .slice pb hBeginM.blocks.length kb, .slice pi hBeginM.inp.length ki, .slice po hBeginM.out.length ko, .int .i64 hBeginM.status, .int .i64 hBeginM.trap] 29 (0, 0)) := by rw [← hW3]; exact World.alloc_heap_new w2 _
  have B3 := bthen0 B2 b3
  have A3 := hideP (A2.below b3)
  have l3 := heap_lt u3
  have a0 := cell_at' u3 0
  have a1 := cell_at' u3 1
  have a2 := cell_at' u3 2
  have a3 := cell_at' u3 3
  have a4 := cell_at' u3 4
  have a5 := cell_at' u3 5
  simp at a0 a1 a2 a3 a4 a5
  have HB3 := hideP B3
  clear f1 k1 hcf HST b1 b2 B2 r2 A2 b3 u3 B3
  go_upto_region 2 with fail
  go_cut [3, 4, 5] from 16 (fun sa sb sc wx => ∃ (z : Nat) (fv bv iv ov : Value), sa = .pointer (some ⟨z, 0, none⟩) ∧ sb = .int .i64 (0) ∧ sc = .int .i64 0 ∧ wx.heap[z]? = some (.cells #[fv, bv, iv, ov, .int .i64 (hRanM).status, .int .i64 (hRanM).trap] 29 (0, 0)) ∧ MachAt wx fv bv iv ov hRanM ∧ Below W3.heap.size W3 wx)
  case first =>
    have hdA : ∀ o, Below W3.heap.size W3 (W3.alloc o).drew := fun o => ((Below.refl _ W3).alloc (Nat.le_refl _) o).drew
    go_region_held3 (fun W => W.cell? ⟨w2.heap.size, 0, none⟩ = some (.slice pf hBeginM.frames.length kf) ∧ W.cell? ⟨w2.heap.size, 1, none⟩ = some (.slice pb hBeginM.blocks.length kb) ∧ W.cell? ⟨w2.heap.size, 2, none⟩ = some (.slice pi hBeginM.inp.length ki) ∧ W.cell? ⟨w2.heap.size, 3, none⟩ = some (.slice po hBeginM.out.length ko) ∧ W.cell? ⟨w2.heap.size, 4, none⟩ = some (.int .i64 hBeginM.status) ∧ W.cell? ⟨w2.heap.size, 5, none⟩ = some (.int .i64 hBeginM.trap)) (first | go_keep | exact ⟨six_cell g0 nz, six_cell g1 nz, six_cell g2 nz, six_cell g3 nz, six_cell g4 nz, six_cell g5 nz⟩)
      (first
        | (go_at_call 82; (with_reducible refine (holder_any _).mono ?_); rintro e w5 ⟨v5, rfl, f5, k5, b5'⟩; have b5 : Below W3.heap.size W3 w5 := bthen0 ((Below.refl _ W3).drew) b5'; clear b5'; have h0 := (b5.cell (p := ⟨w2.heap.size, 0, none⟩) l3).trans a0; have h1 := (b5.cell (p := ⟨w2.heap.size, 1, none⟩) l3).trans a1; have h2 := (b5.cell (p := ⟨w2.heap.size, 2, none⟩) l3).trans a2; have h3 := (b5.cell (p := ⟨w2.heap.size, 3, none⟩) l3).trans a3; have h4 := (b5.cell (p := ⟨w2.heap.size, 4, none⟩) l3).trans a4; have h5 := (b5.cell (p := ⟨w2.heap.size, 5, none⟩) l3).trans a5; have hd5 : ∀ o, Below w5.heap.size w5 (w5.alloc o) := fun o => (Below.refl _ w5).alloc (Nat.le_refl _) o)
        | (go_at_call 82; (with_reducible refine (holder_any _).mono ?_); rintro e w5 ⟨v5, rfl, f5, k5, b5'⟩; have b5 : Below W3.heap.size W3 w5 := bthen0 (hdA _) b5'; have q5 := (b5'.block W3.heap.size (heap_lt (World.alloc_heap_new W3 _))).trans (World.alloc_heap_new W3 _); have Q5 := hideP q5; have m0 := cell_at' q5 0; have m1 := cell_at' q5 1; have m2 := cell_at' q5 2; have m3 := cell_at' q5 3; have m4 := cell_at' q5 4; have m5 := cell_at' q5 5; simp at m0 m1 m2 m3 m4 m5; have mz := Lib.frozen_of_heap q5; have mz0 := mz 0; have mz1 := mz 1; have mz2 := mz 2; have mz3 := mz 3; have mz4 := mz 4; have mz5 := mz 5; clear mz; clear b5' q5; have h0 := (b5.cell (p := ⟨w2.heap.size, 0, none⟩) l3).trans a0; have h1 := (b5.cell (p := ⟨w2.heap.size, 1, none⟩) l3).trans a1; have h2 := (b5.cell (p := ⟨w2.heap.size, 2, none⟩) l3).trans a2; have h3 := (b5.cell (p := ⟨w2.heap.size, 3, none⟩) l3).trans a3; have h4 := (b5.cell (p := ⟨w2.heap.size, 4, none⟩) l3).trans a4; have h5 := (b5.cell (p := ⟨w2.heap.size, 5, none⟩) l3).trans a5)
        | (go_at_call 29; (with_reducible refine (holder_run (w := w5) ⟨f5, k5, A3.out.below b5⟩ HCF.out).mono ?_); rintro e w6 ⟨nf, nb, ni, no, rfl, r6, b6'⟩; have b6 : Below W3.heap.size W3 w6 := bthen0 b5 b6'; have nz : ¬ w2.heap.size = W3.heap.size := (by omega); have q6 := (b6'.block W3.heap.size (heap_lt Q5.out)).trans Q5.out; have Q6 := hideP q6; clear m0 m1 m2 m3 m4 m5 mz0 mz1 mz2 mz3 mz4 mz5; have m0 := cell_at' q6 0; have m1 := cell_at' q6 1; have m2 := cell_at' q6 2; have m3 := cell_at' q6 3; have m4 := cell_at' q6 4; have m5 := cell_at' q6 5; simp at m0 m1 m2 m3 m4 m5; have mz := Lib.frozen_of_heap q6; have mz0 := mz 0; have mz1 := mz 1; have mz2 := mz 2; have mz3 := mz 3; have mz4 := mz 4; have mz5 := mz 5; clear mz; clear q6; have R6b : Hid (MRes w6 W3.heap.size _ _ _ _ _) := hideP (r6.low b5.size); obtain ⟨⟨qf, jf, hqf⟩, ⟨qb, jb, hqb⟩, ⟨qi, ji, hqi⟩, ⟨qo, jo, hqo⟩⟩ := mres_shpN r6; subst hqf hqb hqi hqo; have R6 := hideP r6; clear r6; have g0 := (b6.cell (p := ⟨w2.heap.size, 0, none⟩) l3).trans a0; have g1 := (b6.cell (p := ⟨w2.heap.size, 1, none⟩) l3).trans a1; have g2 := (b6.cell (p := ⟨w2.heap.size, 2, none⟩) l3).trans a2; have g3 := (b6.cell (p := ⟨w2.heap.size, 3, none⟩) l3).trans a3; have g4 := (b6.cell (p := ⟨w2.heap.size, 4, none⟩) l3).trans a4; have g5 := (b6.cell (p := ⟨w2.heap.size, 5, none⟩) l3).trans a5)
        | (go_at_call 29; (with_reducible refine (holder_run (w := w5) ⟨f5, k5, A3.out.below b5⟩ HCF.out).mono ?_); rintro e w6 ⟨nf, nb, ni, no, rfl, r6, b6'⟩; have b6 : Below W3.heap.size W3 w6 := bthen0 b5 b6'; have nz : ¬ w2.heap.size = w6.heap.size := (by have := b6.size; omega); have R6b : Hid (MRes w6 W3.heap.size _ _ _ _ _) := hideP (r6.low b5.size); obtain ⟨⟨qf, jf, hqf⟩, ⟨qb, jb, hqb⟩, ⟨qi, ji, hqi⟩, ⟨qo, jo, hqo⟩⟩ := mres_shpN r6; subst hqf hqb hqi hqo; have R6 := hideP r6; clear r6; have g0 := (b6.cell (p := ⟨w2.heap.size, 0, none⟩) l3).trans a0; have g1 := (b6.cell (p := ⟨w2.heap.size, 1, none⟩) l3).trans a1; have g2 := (b6.cell (p := ⟨w2.heap.size, 2, none⟩) l3).trans a2; have g3 := (b6.cell (p := ⟨w2.heap.size, 3, none⟩) l3).trans a3; have g4 := (b6.cell (p := ⟨w2.heap.size, 4, none⟩) l3).trans a4; have g5 := (b6.cell (p := ⟨w2.heap.size, 5, none⟩) l3).trans a5)
        | (go_at_call 29; (with_reducible refine (holder_run (w := w5.alloc _) ⟨f5.below (hd5 _), k5.below f5 (hd5 _), A3.out.below (bthen0 b5 (hd5 _))⟩ HCF.out).mono ?_); rintro e w6 ⟨nf, nb, ni, no, rfl, r6, b6'⟩; have b6 : Below W3.heap.size W3 w6 := bthen0 (bthen0 b5 (hd5 _)) b6'; have nz : ¬ w2.heap.size = w5.heap.size := (by have := b5.size; omega); have q6 := (b6'.block w5.heap.size (heap_lt (World.alloc_heap_new w5 _))).trans (World.alloc_heap_new w5 _); have Q6 := hideP q6; have m0 := cell_at' q6 0; have m1 := cell_at' q6 1; have m2 := cell_at' q6 2; have m3 := cell_at' q6 3; have m4 := cell_at' q6 4; have m5 := cell_at' q6 5; simp at m0 m1 m2 m3 m4 m5; have mz := Lib.frozen_of_heap q6; have mz0 := mz 0; have mz1 := mz 1; have mz2 := mz 2; have mz3 := mz 3; have mz4 := mz 4; have mz5 := mz 5; clear mz; clear q6; have R6b : Hid (MRes w6 W3.heap.size _ _ _ _ _) := hideP (r6.low (Nat.le_trans b5.size (hd5 _).size)); obtain ⟨⟨qf, jf, hqf⟩, ⟨qb, jb, hqb⟩, ⟨qi, ji, hqi⟩, ⟨qo, jo, hqo⟩⟩ := mres_shpN r6; subst hqf hqb hqi hqo; have R6 := hideP r6; clear r6; have g0 := (b6.cell (p := ⟨w2.heap.size, 0, none⟩) l3).trans a0; have g1 := (b6.cell (p := ⟨w2.heap.size, 1, none⟩) l3).trans a1; have g2 := (b6.cell (p := ⟨w2.heap.size, 2, none⟩) l3).trans a2; have g3 := (b6.cell (p := ⟨w2.heap.size, 3, none⟩) l3).trans a3; have g4 := (b6.cell (p := ⟨w2.heap.size, 4, none⟩) l3).trans a4; have g5 := (b6.cell (p := ⟨w2.heap.size, 5, none⟩) l3).trans a5))
    all_goals
      go_wp2_with fail
      go_meet
    · have hF := begin_fin0 R6b.out (by decide) b6
      exact ⟨_, _, _, _, _, rfl, rfl, rfl, hF⟩
    · have hF := begin_fin R6b.out (by decide) b6 Q6.out b5.size
      exact ⟨_, _, _, _, _, rfl, rfl, rfl, hF⟩
    · have hF := begin_fin R6b.out (by decide) b6 Q6.out (Nat.le_refl _)
      exact ⟨_, _, _, _, _, rfl, rfl, rfl, hF⟩
  case rest =>
    obtain ⟨z, cf, cb, ci, co, rfl, rfl, rfl, hz, hA, hb⟩ := hcut
    have B4 := hideP (bthen0 HB3.out hb)
    have lz := heap_lt hz
    have HZ := hideP hz
    have HA := hideP hA
    obtain ⟨pf, kf, hpf, -⟩ := id hA.fr
    obtain ⟨pb, kb, hpb, -⟩ := id hA.bl
    obtain ⟨pi, ki, hpi, -⟩ := hA.inp.shp
    obtain ⟨po, ko, hpo, -⟩ := hA.out.shp
    subst hpf hpb hpi hpo
    clear a0 a1 a2 a3 a4 a5 A3 l3
    have a0 := cell_at' hz 0
    have a1 := cell_at' hz 1
    have a2 := cell_at' hz 2
    have a3 := cell_at' hz 3
    have a4 := cell_at' hz 4
    have a5 := cell_at' hz 5
    simp at a0 a1 a2 a3 a4 a5
    clear hz hA hb HB3
    go_upto_region 3 with fail
    go_cut [6, 7] from 23 (fun sa sb wx => sb = .int .i64 0 ∧ IntsAt wx sa [2] ∧ Below wc.heap.size wc wx)
    case first =>
      go_region_held3 (fun W => W.cell? ⟨z, 0, none⟩ = some (.slice pf hRanM.frames.length kf) ∧ W.cell? ⟨z, 1, none⟩ = some (.slice pb hRanM.blocks.length kb) ∧ W.cell? ⟨z, 2, none⟩ = some (.slice pi hRanM.inp.length ki) ∧ W.cell? ⟨z, 3, none⟩ = some (.slice po hRanM.out.length ko) ∧ W.cell? ⟨z, 4, none⟩ = some (.int .i64 hRanM.status) ∧ W.cell? ⟨z, 5, none⟩ = some (.int .i64 hRanM.trap)) (go_keep)
        (first
          | (go_at_call 82; (with_reducible refine (holder_any _).mono ?_); rintro e w5 ⟨v5, rfl, f5, k5, b5'⟩; have b5 : Below wc.heap.size wc w5 := bthen0 ((Below.refl _ wc).drew) b5'; clear b5'; have h0 := (b5.cell (p := ⟨z, 0, none⟩) lz).trans a0; have h1 := (b5.cell (p := ⟨z, 1, none⟩) lz).trans a1; have h2 := (b5.cell (p := ⟨z, 2, none⟩) lz).trans a2; have h3 := (b5.cell (p := ⟨z, 3, none⟩) lz).trans a3; have h4 := (b5.cell (p := ⟨z, 4, none⟩) lz).trans a4; have h5 := (b5.cell (p := ⟨z, 5, none⟩) lz).trans a5)
          | (go_at_call 36; (with_reducible refine (holder_roots (w := w5) ⟨f5, k5, HA.out.below b5⟩ HCF.out).mono ?_); rintro e w6 ⟨u6, rfl, hu6, b6'⟩; have b6 : Below wc.heap.size wc w6 := bthen0 b5 b6'; have HU6 := hideP hu6; clear hu6; have g0 := (b6.cell (p := ⟨z, 0, none⟩) lz).trans a0; have g1 := (b6.cell (p := ⟨z, 1, none⟩) lz).trans a1; have g2 := (b6.cell (p := ⟨z, 2, none⟩) lz).trans a2; have g3 := (b6.cell (p := ⟨z, 3, none⟩) lz).trans a3; have g4 := (b6.cell (p := ⟨z, 4, none⟩) lz).trans a4; have g5 := (b6.cell (p := ⟨z, 5, none⟩) lz).trans a5))
      all_goals
        go_wp2_with fail
        go_meet
        exact ⟨rfl, HU6.out, b6⟩
    case rest =>
      rename World => wd
      obtain ⟨rfl, hu, hb⟩ := hcut
      have HB4 := hideP (bthen0 B4.out hb)
      have lzd : z < wd.heap.size := Nat.lt_of_lt_of_le lz hb.size
      have HAd := hideP (HA.out.below hb)
      have HZd := hideP ((hb.block z lz).trans HZ.out)
      have HU := hideP hu
      obtain ⟨pu, cu, hpu, -⟩ := id hu
      subst hpu
      replace a0 := (hb.cell (p := ⟨z, 0, none⟩) lz).trans a0
      replace a1 := (hb.cell (p := ⟨z, 1, none⟩) lz).trans a1
      replace a2 := (hb.cell (p := ⟨z, 2, none⟩) lz).trans a2
      replace a3 := (hb.cell (p := ⟨z, 3, none⟩) lz).trans a3
      replace a4 := (hb.cell (p := ⟨z, 4, none⟩) lz).trans a4
      replace a5 := (hb.cell (p := ⟨z, 5, none⟩) lz).trans a5
      clear hu hb HZ B4 HA
      go_upto_region 4 with fail
      go_cut [8, 9, 10] from 29 (fun sa sb sc wx => ∃ (z : Nat) (fv bv iv ov : Value), sa = .pointer (some ⟨z, 0, none⟩) ∧ sb = .int .i64 (1) ∧ sc = .int .i64 0 ∧ wx.heap[z]? = some (.cells #[fv, bv, iv, ov, .int .i64 (hKeptM).status, .int .i64 (hKeptM).trap] 29 (0, 0)) ∧ MachAt wx fv bv iv ov hKeptM ∧ Below wd.heap.size wd wx)
      case first =>
        have hdA : ∀ o, Below wd.heap.size wd (wd.alloc o).drew := fun o => ((Below.refl _ wd).alloc (Nat.le_refl _) o).drew
        go_region_held3 (fun W => W.cell? ⟨z, 0, none⟩ = some (.slice pf hRanM.frames.length kf) ∧ W.cell? ⟨z, 1, none⟩ = some (.slice pb hRanM.blocks.length kb) ∧ W.cell? ⟨z, 2, none⟩ = some (.slice pi hRanM.inp.length ki) ∧ W.cell? ⟨z, 3, none⟩ = some (.slice po hRanM.out.length ko) ∧ W.cell? ⟨z, 4, none⟩ = some (.int .i64 hRanM.status) ∧ W.cell? ⟨z, 5, none⟩ = some (.int .i64 hRanM.trap)) (first | go_keep | exact ⟨six_cell g0 nz, six_cell g1 nz, six_cell g2 nz, six_cell g3 nz, six_cell g4 nz, six_cell g5 nz⟩)
          (first
            | (go_at_call 82; (with_reducible refine (holder_any _).mono ?_); rintro e w5 ⟨v5, rfl, f5, k5, b5'⟩; have b5 : Below wd.heap.size wd w5 := bthen0 ((Below.refl _ wd).drew) b5'; clear b5'; have h0 := (b5.cell (p := ⟨z, 0, none⟩) lzd).trans a0; have h1 := (b5.cell (p := ⟨z, 1, none⟩) lzd).trans a1; have h2 := (b5.cell (p := ⟨z, 2, none⟩) lzd).trans a2; have h3 := (b5.cell (p := ⟨z, 3, none⟩) lzd).trans a3; have h4 := (b5.cell (p := ⟨z, 4, none⟩) lzd).trans a4; have h5 := (b5.cell (p := ⟨z, 5, none⟩) lzd).trans a5; have hd5 : ∀ o, Below w5.heap.size w5 (w5.alloc o) := fun o => (Below.refl _ w5).alloc (Nat.le_refl _) o)
            | (go_at_call 82; (with_reducible refine (holder_any _).mono ?_); rintro e w5 ⟨v5, rfl, f5, k5, b5'⟩; have b5 : Below wd.heap.size wd w5 := bthen0 (hdA _) b5'; have q5 := (b5'.block wd.heap.size (heap_lt (World.alloc_heap_new wd _))).trans (World.alloc_heap_new wd _); have Q5 := hideP q5; have m0 := cell_at' q5 0; have m1 := cell_at' q5 1; have m2 := cell_at' q5 2; have m3 := cell_at' q5 3; have m4 := cell_at' q5 4; have m5 := cell_at' q5 5; simp at m0 m1 m2 m3 m4 m5; have mz := Lib.frozen_of_heap q5; have mz0 := mz 0; have mz1 := mz 1; have mz2 := mz 2; have mz3 := mz 3; have mz4 := mz 4; have mz5 := mz 5; clear mz; clear b5' q5; have h0 := (b5.cell (p := ⟨z, 0, none⟩) lzd).trans a0; have h1 := (b5.cell (p := ⟨z, 1, none⟩) lzd).trans a1; have h2 := (b5.cell (p := ⟨z, 2, none⟩) lzd).trans a2; have h3 := (b5.cell (p := ⟨z, 3, none⟩) lzd).trans a3; have h4 := (b5.cell (p := ⟨z, 4, none⟩) lzd).trans a4; have h5 := (b5.cell (p := ⟨z, 5, none⟩) lzd).trans a5)
            | (go_at_call 37; (with_reducible refine (holder_coll (w := w5) ⟨f5, k5, HAd.out.below b5⟩ HCF.out).mono ?_); rintro e w6 ⟨nf, nb, ni, no, rfl, r6, b6'⟩; have b6 : Below wd.heap.size wd w6 := bthen0 b5 b6'; have nz : ¬ z = wd.heap.size := (by omega); have q6 := (b6'.block wd.heap.size (heap_lt Q5.out)).trans Q5.out; have Q6 := hideP q6; clear m0 m1 m2 m3 m4 m5 mz0 mz1 mz2 mz3 mz4 mz5; have m0 := cell_at' q6 0; have m1 := cell_at' q6 1; have m2 := cell_at' q6 2; have m3 := cell_at' q6 3; have m4 := cell_at' q6 4; have m5 := cell_at' q6 5; simp at m0 m1 m2 m3 m4 m5; have mz := Lib.frozen_of_heap q6; have mz0 := mz 0; have mz1 := mz 1; have mz2 := mz 2; have mz3 := mz 3; have mz4 := mz 4; have mz5 := mz 5; clear mz; clear q6; have R6b : Hid (MRes w6 wd.heap.size _ _ _ _ _) := hideP (r6.low b5.size); obtain ⟨⟨qf, jf, hqf⟩, ⟨qb, jb, hqb⟩, ⟨qi, ji, hqi⟩, ⟨qo, jo, hqo⟩⟩ := mres_shpN r6; subst hqf hqb hqi hqo; have R6 := hideP r6; clear r6; have g0 := (b6.cell (p := ⟨z, 0, none⟩) lzd).trans a0; have g1 := (b6.cell (p := ⟨z, 1, none⟩) lzd).trans a1; have g2 := (b6.cell (p := ⟨z, 2, none⟩) lzd).trans a2; have g3 := (b6.cell (p := ⟨z, 3, none⟩) lzd).trans a3; have g4 := (b6.cell (p := ⟨z, 4, none⟩) lzd).trans a4; have g5 := (b6.cell (p := ⟨z, 5, none⟩) lzd).trans a5)
            | (go_at_call 37; (with_reducible refine (holder_coll (w := w5) ⟨f5, k5, HAd.out.below b5⟩ HCF.out).mono ?_); rintro e w6 ⟨nf, nb, ni, no, rfl, r6, b6'⟩; have b6 : Below wd.heap.size wd w6 := bthen0 b5 b6'; have nz : ¬ z = w6.heap.size := (by have := b6.size; omega); have R6b : Hid (MRes w6 wd.heap.size _ _ _ _ _) := hideP (r6.low b5.size); obtain ⟨⟨qf, jf, hqf⟩, ⟨qb, jb, hqb⟩, ⟨qi, ji, hqi⟩, ⟨qo, jo, hqo⟩⟩ := mres_shpN r6; subst hqf hqb hqi hqo; have R6 := hideP r6; clear r6; have g0 := (b6.cell (p := ⟨z, 0, none⟩) lzd).trans a0; have g1 := (b6.cell (p := ⟨z, 1, none⟩) lzd).trans a1; have g2 := (b6.cell (p := ⟨z, 2, none⟩) lzd).trans a2; have g3 := (b6.cell (p := ⟨z, 3, none⟩) lzd).trans a3; have g4 := (b6.cell (p := ⟨z, 4, none⟩) lzd).trans a4; have g5 := (b6.cell (p := ⟨z, 5, none⟩) lzd).trans a5)
            | (go_at_call 37; (with_reducible refine (holder_coll (w := w5.alloc _) ⟨f5.below (hd5 _), k5.below f5 (hd5 _), HAd.out.below (bthen0 b5 (hd5 _))⟩ HCF.out).mono ?_); rintro e w6 ⟨nf, nb, ni, no, rfl, r6, b6'⟩; have b6 : Below wd.heap.size wd w6 := bthen0 (bthen0 b5 (hd5 _)) b6'; have nz : ¬ z = w5.heap.size := (by have := b5.size; omega); have q6 := (b6'.block w5.heap.size (heap_lt (World.alloc_heap_new w5 _))).trans (World.alloc_heap_new w5 _); have Q6 := hideP q6; have m0 := cell_at' q6 0; have m1 := cell_at' q6 1; have m2 := cell_at' q6 2; have m3 := cell_at' q6 3; have m4 := cell_at' q6 4; have m5 := cell_at' q6 5; simp at m0 m1 m2 m3 m4 m5; have mz := Lib.frozen_of_heap q6; have mz0 := mz 0; have mz1 := mz 1; have mz2 := mz 2; have mz3 := mz 3; have mz4 := mz 4; have mz5 := mz 5; clear mz; clear q6; have R6b : Hid (MRes w6 wd.heap.size _ _ _ _ _) := hideP (r6.low (Nat.le_trans b5.size (hd5 _).size)); obtain ⟨⟨qf, jf, hqf⟩, ⟨qb, jb, hqb⟩, ⟨qi, ji, hqi⟩, ⟨qo, jo, hqo⟩⟩ := mres_shpN r6; subst hqf hqb hqi hqo; have R6 := hideP r6; clear r6; have g0 := (b6.cell (p := ⟨z, 0, none⟩) lzd).trans a0; have g1 := (b6.cell (p := ⟨z, 1, none⟩) lzd).trans a1; have g2 := (b6.cell (p := ⟨z, 2, none⟩) lzd).trans a2; have g3 := (b6.cell (p := ⟨z, 3, none⟩) lzd).trans a3; have g4 := (b6.cell (p := ⟨z, 4, none⟩) lzd).trans a4; have g5 := (b6.cell (p := ⟨z, 5, none⟩) lzd).trans a5))
        all_goals
          go_wp2_with fail
          go_meet
        · have hF := begin_fin0 R6b.out (by decide) b6
          exact ⟨_, _, _, _, _, rfl, rfl, rfl, hF⟩
        · have hF := begin_fin R6b.out (by decide) b6 Q6.out b5.size
          exact ⟨_, _, _, _, _, rfl, rfl, rfl, hF⟩
        · have hF := begin_fin R6b.out (by decide) b6 Q6.out (Nat.le_refl _)
          exact ⟨_, _, _, _, _, rfl, rfl, rfl, hF⟩
      case rest =>
        rename World => we
        obtain ⟨zb, ef, eb, ei, eo, rfl, rfl, rfl, hzb, hAb, hb5⟩ := hcut
        have HB5 := hideP (bthen0 HB4.out hb5)
        have hz := (hb5.block z lzd).trans HZd.out
        have a1 := cell_at' hz 1
        obtain ⟨pe, ce, hpe, -, -, hfe⟩ := hAb.fr
        obtain ⟨ge, oe, le, se, rfl, hge, -, -, g2, -, hvl, -⟩ := hfe 0 _ rfl
        subst hpe
        obtain ⟨bl, ol, cl, o9, hlv, ho9, hbl, v0, v1⟩ := vals_at hvl (j := 0) (by decide)
        subst hlv
        have ho9' : o9 = (true, 1) := by simpa [hKeptM] using ho9.symm
        subst ho9'
        obtain ⟨pbk, kbk, hpbk, -⟩ := id hAb.bl
        subst hpbk
        have y0 := cell_at' hzb 0
        have y1 := cell_at' hzb 1
        simp at a1 y0 y1 g2 v0 v1
        have e1 : hRanM.blocks.length = 2 := rfl
        have e2 : hKeptM.frames.length = 1 := rfl
        have e3 : hKeptM.blocks.length = 1 := rfl
        rw [e1] at a1
        rw [e2] at y0
        rw [e3] at y1
        clear e1 e2 e3
        have q9 := World.alloc_heap_new we (.cells #[.int .i64 2] 3)
        have a9 := (Below.refl we.heap.size we).alloc (Nat.le_refl _) (.cells #[.int .i64 2] 3)
        have HSI := hideP (sameInts_any [2] [2] _ _ (we.alloc (.cells #[.int .i64 2] 3)) ((HU.out.below hb5).below a9) (ints_lit 1 1 q9 rfl (by unfold maxLen; decide)))
        have HQ9 := hideP a9
        have hg := guard_val
        have heq := eql_val true 1 true 1
        have hlz := heap_lt hz
        have hlzb := heap_lt hzb
        have KX : Hid (∀ W, Below we.heap.size we W → W.cell? ⟨zb, 0, none⟩ = some (.slice (some ⟨ge, oe, none⟩) 1 ce) ∧ W.cell? ⟨zb, 1, none⟩ = some (.slice pbk 1 kbk) ∧ W.cell? ⟨ge, oe + 2, none⟩ = some (.slice (some ⟨bl, ol, none⟩) 1 cl) ∧ W.cell? ⟨bl, ol, none⟩ = some (.bool true) ∧ W.cell? ⟨bl, ol + 1, none⟩ = some (.int .i64 1)) := fun W hW => ⟨(hW.cell (p := ⟨zb, 0, none⟩) hlzb).trans y0, (hW.cell (p := ⟨zb, 1, none⟩) hlzb).trans y1, (hW.cell (p := ⟨ge, oe + 2, none⟩) hge).trans g2, (hW.cell (p := ⟨bl, ol, none⟩) hbl).trans v0, (hW.cell (p := ⟨bl, ol + 1, none⟩) hbl).trans v1⟩
        clear hz hzb hAb hfe hvl hb5 y0 y1 g2 v0 v1 HU HAd HZd a0 a2 a3 a4 a5 q9 a9 ho9
        go_wp2_with fail
        refine HSI.out.mono ?_
        rintro e w8 ⟨rfl, b8⟩
        have b89 := bthen0 HQ9.out b8
        obtain ⟨y0, y1, g2, v0, v1⟩ := KX.out w8 b89
        have HBB := hideP b89
        have hdt : decide (([2] : List Int) = [2]) = true := rfl
        clear b8 b89 a1
        go_wp2
        go_ret
        exact ⟨rfl, bthen0 HB5.out HBB.out⟩
end Go.Proofs.YtcadpoknolefpaaGreat


