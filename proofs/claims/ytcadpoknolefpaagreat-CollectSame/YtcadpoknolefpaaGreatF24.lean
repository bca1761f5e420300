/- My texts Td Qn: what of them is needed, joined. -/

import Derived.Test.YtcadpoknolefpaaGreatF15
import Derived.Test.YtcadpoknolefpaaGreatF22
import Derived.Test.YtcadpoknolefpaaGreatF23
set_option maxRecDepth 100000
set_option maxHeartbeats 8000000
/- What must be in any case of fuel: meterBegun. -/
namespace Go.Proofs.YtcadpoknolefpaaGreat
open Go.RowKit
set_option linter.unusedSimpArgs false
set_option linter.unusedVariables false
def runF (p : List Fn) : Nat → MF → MF
  | 0, s => s
  | k + 1, s => if s.1.status = 0 then (match pay p s with
    | none => s
    | some s' => runF p k s') else s
theorem xh6Z {p : List Fn} : ∀ (k : Nat) (s : MF), ((runF p k s).1.status ≠ 0 ∨ pay p (runF p k s) = none) → Ends p s (runF p k s)
  | 0, s, h => by
    rcases h with h | h
    · exact .stop h
    · exact .poor h
  | k + 1, s, h => by
    unfold runF at h ⊢
    by_cases h0 : s.1.status = 0
    · rw [if_pos h0] at h ⊢
      cases hp : pay p s with
      | none => exact .poor hp
      | some s' => rw [hp] at h; exact .on h0 hp (xh6Z k s' h)
    · rw [if_neg h0]
      exact .stop h0
def doneM : Mach := ⟨[], [], [], [3, 2, 1], 2, 0⟩
def fiveM : Mach := ⟨[⟨0, 5, [], [(false, 2)]⟩], [], [], [3], 0, 0⟩
theorem run100 : runF xa0Z 60 (beginM, 100) = (doneM, 77) := by kernel_rfl
theorem run5 : runF xa0Z 60 (beginM, 5) = (fiveM, 0) ∧ pay xa0Z (fiveM, 0) = none := ⟨by kernel_rfl, by kernel_rfl⟩
theorem is100 : RunIs xa0Z beginM 100 (doneM, 77) := by
  unfold RunIs
  rw [xeyZ (by decide), ← run100]
  exact xh6Z 60 _ (.inl (by rw [run100]; decide))
theorem is5 : RunIs xa0Z beginM 5 (fiveM, 0) := by
  unfold RunIs
  rw [xeyZ (by decide), ← run5.1]
  exact xh6Z 60 _ (.inr (by rw [run5.1]; exact run5.2))
def MRet3 (R : Mach) (k : Int) (w : World) (e : Ending) (w' : World) : Prop := ∃ fv bv iv ov, e = .returned (.tuple #[.agg #[fv, bv, iv, ov, .int .i64 R.status, .int .i64 R.trap], .int .i64 k, .int .i64 0]) ∧ MRes w' w.heap.size fv bv iv ov R ∧ Below w.heap.size w w'
theorem xoqZ {n k : Int} {R : Mach} (hr : RunIs xa0Z beginM n (R, k)) (hn : 0 ≤ n ∧ n ≤ 10000) {pv fv bv iv ov : Value} {w : World} (h : CkAt w xa0Z pv fv bv iv ov beginM) (hf : fitsE xa0Z = 0) : Calls Tryz.prog 29 #[.agg #[pv], .agg #[fv, bv, iv, ov, .int .i64 beginM.status, .int .i64 beginM.trap], .int .i64 n] w (MRet3 R k w) := by
  have hE : runE xa0Z beginM n = 0 := xgwZ.2 ⟨(xlpZ hf cb1.1).1, hn⟩
  refine (xiyZ beginM xa0Z n pv fv bv iv ov w h xlvZ).mono ?_
  rintro e w' ⟨t, ht, f', b', i', o', h1, h2, h3⟩
  have := xkgZ (ht.1 hE) hr
  subst this
  rw [hE] at h1
  exact ⟨_, _, _, _, h1, h2, h3⟩
theorem run_100 {pv fv bv iv ov : Value} {w : World} (h : CkAt w xa0Z pv fv bv iv ov beginM) (hf : fitsE xa0Z = 0) : Calls Tryz.prog 29 #[.agg #[pv], .agg #[fv, bv, iv, ov, .int .i64 beginM.status, .int .i64 beginM.trap], .int .i64 100] w (MRet3 doneM 77 w) := xoqZ is100 (by decide) h hf
theorem run_5 {pv fv bv iv ov : Value} {w : World} (h : CkAt w xa0Z pv fv bv iv ov beginM) (hf : fitsE xa0Z = 0) : Calls Tryz.prog 29 #[.agg #[pv], .agg #[fv, bv, iv, ov, .int .i64 beginM.status, .int .i64 beginM.trap], .int .i64 5] w (MRet3 fiveM 0 w) := xoqZ is5 (by decide) h hf
theorem xngZ (w : World) : Calls Tryz.prog 35 #[] w fun e w' => e = .returned (.bool true) ∧ Below w.heap.size w w' := by
  go_enter Tryz.func35, Tryz.ntmps35
  go_wp2_with fail
  refine (xcvZ _).mono ?_
  rintro e w1 ⟨v1, rfl, f1, k1, b1⟩
  have hcf := xjvZ f1 k1
  have HST := hideP (xibZ f1 k1 hcf cb1.1)
  go_wp2_with fail
  refine HST.out.mono ?_
  rintro e w2 ⟨xf, xb, xi, xo, rfl, r2, b2⟩
  have B2 := xadZ b1 b2
  have HCF := hideP hcf
  obtain ⟨⟨pf, kf, hf⟩, ⟨pb, kb, hb⟩, ⟨pi, ki, hi⟩, ⟨po, ko, ho⟩⟩ := xaxZ r2
  subst hf hb hi ho
  have A2 : MachAt w2 _ _ _ _ beginM := r2.at_ (by decide)
  obtain ⟨W3, hW3⟩ : ∃ W3, w2.alloc (.cells #[.slice pf beginM.frames.length kf, .slice pb beginM.blocks.length kb, .slice pi beginM.inp.length ki, .slice po beginM.out.length ko, .int .i64 beginM.status, .int .i64 beginM.trap] 29) = W3 := ⟨_, rfl⟩
  have b3 : Below w2.heap.size w2 W3 := by rw [← hW3]; exact (Below.refl _ w2).alloc (Nat.le_refl _) _
  have u3 : W3.heap[w2.heap.size]? = some (.cells #[.slice pf beginM.frames.length kf, .slice pb beginM.blocks.length kb, .slice pi beginM.inp.length ki, .slice po beginM.out.length ko, .int .i64 beginM.status, .int .i64 beginM.trap] 29 (0, 0)) := by rw [← hW3]; exact World.alloc_heap_new w2 _
  have B3 := xadZ B2 b3
  have A3 := hideP (A2.below b3)
  have l3 := xacZ u3
  have a0 := xaaZ u3 0
  have a1 := xaaZ u3 1
  have a2 := xaaZ u3 2
  have a3 := xaaZ u3 3
  have a4 := xaaZ u3 4
  have a5 := xaaZ u3 5
  simp at a0 a1 a2 a3 a4 a5
  have HB3 := hideP B3
  clear f1 k1 hcf HST b1 b2 B2 r2 A2 b3 u3 B3
  go_upto_region 2 with fail
  go_cut [3, 4, 5] from 16 (fun sa sb sc wx => ∃ (z : Nat) (fv bv iv ov : Value), sa = .pointer (some ⟨z, 0, none⟩) ∧ sb = .int .i64 (77) ∧ sc = .int .i64 0 ∧ wx.heap[z]? = some (.cells #[fv, bv, iv, ov, .int .i64 (doneM).status, .int .i64 (doneM).trap] 29 (0, 0)) ∧ MachAt wx fv bv iv ov doneM ∧ Below W3.heap.size W3 wx)
  case first =>
    have hdA : ∀ o, Below W3.heap.size W3 (W3.alloc o).drew := fun o => ((Below.refl _ W3).alloc (Nat.le_refl _) o).drew
    go_region_held3 (fun W => W.cell? ⟨w2.heap.size, 0, none⟩ = some (.slice pf beginM.frames.length kf) ∧ W.cell? ⟨w2.heap.size, 1, none⟩ = some (.slice pb beginM.blocks.length kb) ∧ W.cell? ⟨w2.heap.size, 2, none⟩ = some (.slice pi beginM.inp.length ki) ∧ W.cell? ⟨w2.heap.size, 3, none⟩ = some (.slice po beginM.out.length ko) ∧ W.cell? ⟨w2.heap.size, 4, none⟩ = some (.int .i64 beginM.status) ∧ W.cell? ⟨w2.heap.size, 5, none⟩ = some (.int .i64 beginM.trap)) (first | go_keep | exact ⟨xauZ g0 nz, xauZ g1 nz, xauZ g2 nz, xauZ g3 nz, xauZ g4 nz, xauZ g5 nz⟩)
      (first
        | (go_at_call 59; (with_reducible refine (xcvZ _).mono ?_); rintro e w5 ⟨v5, rfl, f5, k5, b5'⟩; have b5 : Below W3.heap.size W3 w5 := xadZ ((Below.refl _ W3).drew) b5'; clear b5'; have h0 := (b5.cell (p := ⟨w2.heap.size, 0, none⟩) l3).trans a0; have h1 := (b5.cell (p := ⟨w2.heap.size, 1, none⟩) l3).trans a1; have h2 := (b5.cell (p := ⟨w2.heap.size, 2, none⟩) l3).trans a2; have h3 := (b5.cell (p := ⟨w2.heap.size, 3, none⟩) l3).trans a3; have h4 := (b5.cell (p := ⟨w2.heap.size, 4, none⟩) l3).trans a4; have h5 := (b5.cell (p := ⟨w2.heap.size, 5, none⟩) l3).trans a5; have hd5 : ∀ o, Below w5.heap.size w5 (w5.alloc o) := fun o => (Below.refl _ w5).alloc (Nat.le_refl _) o)
        | (go_at_call 59; (with_reducible refine (xcvZ _).mono ?_); rintro e w5 ⟨v5, rfl, f5, k5, b5'⟩; have b5 : Below W3.heap.size W3 w5 := xadZ (hdA _) b5'; have q5 := (b5'.block W3.heap.size (xacZ (World.alloc_heap_new W3 _))).trans (World.alloc_heap_new W3 _); have Q5 := hideP q5; have m0 := xaaZ q5 0; have m1 := xaaZ q5 1; have m2 := xaaZ q5 2; have m3 := xaaZ q5 3; have m4 := xaaZ q5 4; have m5 := xaaZ q5 5; simp at m0 m1 m2 m3 m4 m5; have mz := Lib.frozen_of_heap q5; have mz0 := mz 0; have mz1 := mz 1; have mz2 := mz 2; have mz3 := mz 3; have mz4 := mz 4; have mz5 := mz 5; clear mz; clear b5' q5; have h0 := (b5.cell (p := ⟨w2.heap.size, 0, none⟩) l3).trans a0; have h1 := (b5.cell (p := ⟨w2.heap.size, 1, none⟩) l3).trans a1; have h2 := (b5.cell (p := ⟨w2.heap.size, 2, none⟩) l3).trans a2; have h3 := (b5.cell (p := ⟨w2.heap.size, 3, none⟩) l3).trans a3; have h4 := (b5.cell (p := ⟨w2.heap.size, 4, none⟩) l3).trans a4; have h5 := (b5.cell (p := ⟨w2.heap.size, 5, none⟩) l3).trans a5)
        | (go_at_call 29; (with_reducible refine (run_100 (w := w5) ⟨f5, k5, A3.out.below b5⟩ HCF.out).mono ?_); rintro e w6 ⟨nf, nb, ni, no, rfl, r6, b6'⟩; have b6 : Below W3.heap.size W3 w6 := xadZ b5 b6'; have nz : ¬ w2.heap.size = W3.heap.size := (by omega); have q6 := (b6'.block W3.heap.size (xacZ Q5.out)).trans Q5.out; have Q6 := hideP q6; clear m0 m1 m2 m3 m4 m5 mz0 mz1 mz2 mz3 mz4 mz5; have m0 := xaaZ q6 0; have m1 := xaaZ q6 1; have m2 := xaaZ q6 2; have m3 := xaaZ q6 3; have m4 := xaaZ q6 4; have m5 := xaaZ q6 5; simp at m0 m1 m2 m3 m4 m5; have mz := Lib.frozen_of_heap q6; have mz0 := mz 0; have mz1 := mz 1; have mz2 := mz 2; have mz3 := mz 3; have mz4 := mz 4; have mz5 := mz 5; clear mz; clear q6; have R6b : Hid (MRes w6 W3.heap.size _ _ _ _ _) := hideP (r6.low b5.size); obtain ⟨⟨qf, jf, hqf⟩, ⟨qb, jb, hqb⟩, ⟨qi, ji, hqi⟩, ⟨qo, jo, hqo⟩⟩ := xaxZ r6; subst hqf hqb hqi hqo; have R6 := hideP r6; clear r6; have g0 := (b6.cell (p := ⟨w2.heap.size, 0, none⟩) l3).trans a0; have g1 := (b6.cell (p := ⟨w2.heap.size, 1, none⟩) l3).trans a1; have g2 := (b6.cell (p := ⟨w2.heap.size, 2, none⟩) l3).trans a2; have g3 := (b6.cell (p := ⟨w2.heap.size, 3, none⟩) l3).trans a3; have g4 := (b6.cell (p := ⟨w2.heap.size, 4, none⟩) l3).trans a4; have g5 := (b6.cell (p := ⟨w2.heap.size, 5, none⟩) l3).trans a5)
        | (go_at_call 29; (with_reducible refine (run_100 (w := w5) ⟨f5, k5, A3.out.below b5⟩ HCF.out).mono ?_); rintro e w6 ⟨nf, nb, ni, no, rfl, r6, b6'⟩; have b6 : Below W3.heap.size W3 w6 := xadZ b5 b6'; have nz : ¬ w2.heap.size = w6.heap.size := (by have := b6.size; omega); have R6b : Hid (MRes w6 W3.heap.size _ _ _ _ _) := hideP (r6.low b5.size); obtain ⟨⟨qf, jf, hqf⟩, ⟨qb, jb, hqb⟩, ⟨qi, ji, hqi⟩, ⟨qo, jo, hqo⟩⟩ := xaxZ r6; subst hqf hqb hqi hqo; have R6 := hideP r6; clear r6; have g0 := (b6.cell (p := ⟨w2.heap.size, 0, none⟩) l3).trans a0; have g1 := (b6.cell (p := ⟨w2.heap.size, 1, none⟩) l3).trans a1; have g2 := (b6.cell (p := ⟨w2.heap.size, 2, none⟩) l3).trans a2; have g3 := (b6.cell (p := ⟨w2.heap.size, 3, none⟩) l3).trans a3; have g4 := (b6.cell (p := ⟨w2.heap.size, 4, none⟩) l3).trans a4; have g5 := (b6.cell (p := ⟨w2.heap.size, 5, none⟩) l3).trans a5)
        | (go_at_call 29; (with_reducible refine (run_100 (w := w5.alloc _) ⟨f5.below (hd5 _), k5.below f5 (hd5 _), A3.out.below (xadZ b5 (hd5 _))⟩ HCF.out).mono ?_); rintro e w6 ⟨nf, nb, ni, no, rfl, r6, b6'⟩; have b6 : Below W3.heap.size W3 w6 := xadZ (xadZ b5 (hd5 _)) b6'; have nz : ¬ w2.heap.size = w5.heap.size := (by have := b5.size; omega); have q6 := (b6'.block w5.heap.size (xacZ (World.alloc_heap_new w5 _))).trans (World.alloc_heap_new w5 _); have Q6 := hideP q6; have m0 := xaaZ q6 0; have m1 := xaaZ q6 1; have m2 := xaaZ q6 2; have m3 := xaaZ q6 3; have m4 := xaaZ q6 4; have m5 := xaaZ q6 5; simp at m0 m1 m2 m3 m4 m5; have mz := Lib.frozen_of_heap q6; have mz0 := mz 0; have mz1 := mz 1; have mz2 := mz 2; have mz3 := mz 3; have mz4 := mz 4; have mz5 := mz 5; clear mz; clear q6; have R6b : Hid (MRes w6 W3.heap.size _ _ _ _ _) := hideP (r6.low (Nat.le_trans b5.size (hd5 _).size)); obtain ⟨⟨qf, jf, hqf⟩, ⟨qb, jb, hqb⟩, ⟨qi, ji, hqi⟩, ⟨qo, jo, hqo⟩⟩ := xaxZ r6; subst hqf hqb hqi hqo; have R6 := hideP r6; clear r6; have g0 := (b6.cell (p := ⟨w2.heap.size, 0, none⟩) l3).trans a0; have g1 := (b6.cell (p := ⟨w2.heap.size, 1, none⟩) l3).trans a1; have g2 := (b6.cell (p := ⟨w2.heap.size, 2, none⟩) l3).trans a2; have g3 := (b6.cell (p := ⟨w2.heap.size, 3, none⟩) l3).trans a3; have g4 := (b6.cell (p := ⟨w2.heap.size, 4, none⟩) l3).trans a4; have g5 := (b6.cell (p := ⟨w2.heap.size, 5, none⟩) l3).trans a5))
    all_goals
      go_wp2_with fail
      go_meet
    · have hF := xffZ R6b.out (by decide) b6
      exact ⟨_, _, _, _, _, rfl, rfl, rfl, hF⟩
    · have hF := xcnZ R6b.out (by decide) b6 Q6.out b5.size
      exact ⟨_, _, _, _, _, rfl, rfl, rfl, hF⟩
    · have hF := xcnZ R6b.out (by decide) b6 Q6.out (Nat.le_refl _)
      exact ⟨_, _, _, _, _, rfl, rfl, rfl, hF⟩
  case rest =>
    obtain ⟨z, cf, cb, ci, co, rfl, rfl, rfl, hz, hA, hb⟩ := hcut
    have B4 := hideP (xadZ HB3.out hb)
    have lz := xacZ hz
    have HZ := hideP hz
    have HA := hideP hA
    replace A3 := hideP (A3.out.below hb)
    have s4 := hb.size
    replace a0 := (hb.cell (p := ⟨w2.heap.size, 0, none⟩) l3).trans a0
    replace a1 := (hb.cell (p := ⟨w2.heap.size, 1, none⟩) l3).trans a1
    replace a2 := (hb.cell (p := ⟨w2.heap.size, 2, none⟩) l3).trans a2
    replace a3 := (hb.cell (p := ⟨w2.heap.size, 3, none⟩) l3).trans a3
    replace a4 := (hb.cell (p := ⟨w2.heap.size, 4, none⟩) l3).trans a4
    replace a5 := (hb.cell (p := ⟨w2.heap.size, 5, none⟩) l3).trans a5
    replace l3 : w2.heap.size < wc.heap.size := by omega
    clear hz hA hb HB3
    go_upto_region 3 with fail
    go_cut [6, 7, 8] from 23 (fun sa sb sc wx => ∃ (z : Nat) (fv bv iv ov : Value), sa = .pointer (some ⟨z, 0, none⟩) ∧ sb = .int .i64 (0) ∧ sc = .int .i64 0 ∧ wx.heap[z]? = some (.cells #[fv, bv, iv, ov, .int .i64 (fiveM).status, .int .i64 (fiveM).trap] 29 (0, 0)) ∧ MachAt wx fv bv iv ov fiveM ∧ Below wc.heap.size wc wx)
    case first =>
      have hdA : ∀ o, Below wc.heap.size wc (wc.alloc o).drew := fun o => ((Below.refl _ wc).alloc (Nat.le_refl _) o).drew
      go_region_held3 (fun W => W.cell? ⟨w2.heap.size, 0, none⟩ = some (.slice pf beginM.frames.length kf) ∧ W.cell? ⟨w2.heap.size, 1, none⟩ = some (.slice pb beginM.blocks.length kb) ∧ W.cell? ⟨w2.heap.size, 2, none⟩ = some (.slice pi beginM.inp.length ki) ∧ W.cell? ⟨w2.heap.size, 3, none⟩ = some (.slice po beginM.out.length ko) ∧ W.cell? ⟨w2.heap.size, 4, none⟩ = some (.int .i64 beginM.status) ∧ W.cell? ⟨w2.heap.size, 5, none⟩ = some (.int .i64 beginM.trap)) (first | go_keep | exact ⟨xauZ g0 nz, xauZ g1 nz, xauZ g2 nz, xauZ g3 nz, xauZ g4 nz, xauZ g5 nz⟩)
        (first
          | (go_at_call 59; (with_reducible refine (xcvZ _).mono ?_); rintro e w5 ⟨v5, rfl, f5, k5, b5'⟩; have b5 : Below wc.heap.size wc w5 := xadZ ((Below.refl _ wc).drew) b5'; clear b5'; have h0 := (b5.cell (p := ⟨w2.heap.size, 0, none⟩) l3).trans a0; have h1 := (b5.cell (p := ⟨w2.heap.size, 1, none⟩) l3).trans a1; have h2 := (b5.cell (p := ⟨w2.heap.size, 2, none⟩) l3).trans a2; have h3 := (b5.cell (p := ⟨w2.heap.size, 3, none⟩) l3).trans a3; have h4 := (b5.cell (p := ⟨w2.heap.size, 4, none⟩) l3).trans a4; have h5 := (b5.cell (p := ⟨w2.heap.size, 5, none⟩) l3).trans a5; have hd5 : ∀ o, Below w5.heap.size w5 (w5.alloc o) := fun o => (Below.refl _ w5).alloc (Nat.le_refl _) o)
          | (go_at_call 59; (with_reducible refine (xcvZ _).mono ?_); rintro e w5 ⟨v5, rfl, f5, k5, b5'⟩; have b5 : Below wc.heap.size wc w5 := xadZ (hdA _) b5'; have q5 := (b5'.block wc.heap.size (xacZ (World.alloc_heap_new wc _))).trans (World.alloc_heap_new wc _); have Q5 := hideP q5; have m0 := xaaZ q5 0; have m1 := xaaZ q5 1; have m2 := xaaZ q5 2; have m3 := xaaZ q5 3; have m4 := xaaZ q5 4; have m5 := xaaZ q5 5; simp at m0 m1 m2 m3 m4 m5; have mz := Lib.frozen_of_heap q5; have mz0 := mz 0; have mz1 := mz 1; have mz2 := mz 2; have mz3 := mz 3; have mz4 := mz 4; have mz5 := mz 5; clear mz; clear b5' q5; have h0 := (b5.cell (p := ⟨w2.heap.size, 0, none⟩) l3).trans a0; have h1 := (b5.cell (p := ⟨w2.heap.size, 1, none⟩) l3).trans a1; have h2 := (b5.cell (p := ⟨w2.heap.size, 2, none⟩) l3).trans a2; have h3 := (b5.cell (p := ⟨w2.heap.size, 3, none⟩) l3).trans a3; have h4 := (b5.cell (p := ⟨w2.heap.size, 4, none⟩) l3).trans a4; have h5 := (b5.cell (p := ⟨w2.heap.size, 5, none⟩) l3).trans a5)
          | (go_at_call 29; (with_reducible refine (run_5 (w := w5) ⟨f5, k5, A3.out.below b5⟩ HCF.out).mono ?_); rintro e w6 ⟨nf, nb, ni, no, rfl, r6, b6'⟩; have b6 : Below wc.heap.size wc w6 := xadZ b5 b6'; have nz : ¬ w2.heap.size = wc.heap.size := (by omega); have q6 := (b6'.block wc.heap.size (xacZ Q5.out)).trans Q5.out; have Q6 := hideP q6; clear m0 m1 m2 m3 m4 m5 mz0 mz1 mz2 mz3 mz4 mz5; have m0 := xaaZ q6 0; have m1 := xaaZ q6 1; have m2 := xaaZ q6 2; have m3 := xaaZ q6 3; have m4 := xaaZ q6 4; have m5 := xaaZ q6 5; simp at m0 m1 m2 m3 m4 m5; have mz := Lib.frozen_of_heap q6; have mz0 := mz 0; have mz1 := mz 1; have mz2 := mz 2; have mz3 := mz 3; have mz4 := mz 4; have mz5 := mz 5; clear mz; clear q6; have R6b : Hid (MRes w6 wc.heap.size _ _ _ _ _) := hideP (r6.low b5.size); obtain ⟨⟨qf, jf, hqf⟩, ⟨qb, jb, hqb⟩, ⟨qi, ji, hqi⟩, ⟨qo, jo, hqo⟩⟩ := xaxZ r6; subst hqf hqb hqi hqo; have R6 := hideP r6; clear r6; have g0 := (b6.cell (p := ⟨w2.heap.size, 0, none⟩) l3).trans a0; have g1 := (b6.cell (p := ⟨w2.heap.size, 1, none⟩) l3).trans a1; have g2 := (b6.cell (p := ⟨w2.heap.size, 2, none⟩) l3).trans a2; have g3 := (b6.cell (p := ⟨w2.heap.size, 3, none⟩) l3).trans a3; have g4 := (b6.cell (p := ⟨w2.heap.size, 4, none⟩) l3).trans a4; have g5 := (b6.cell (p := ⟨w2.heap.size, 5, none⟩) l3).trans a5)
          | (go_at_call 29; (with_reducible refine (run_5 (w := w5) ⟨f5, k5, A3.out.below b5⟩ HCF.out).mono ?_); rintro e w6 ⟨nf, nb, ni, no, rfl, r6, b6'⟩; have b6 : Below wc.heap.size wc w6 := xadZ b5 b6'; have nz : ¬ w2.heap.size = w6.heap.size := (by have := b6.size; omega); have R6b : Hid (MRes w6 wc.heap.size _ _ _ _ _) := hideP (r6.low b5.size); obtain ⟨⟨qf, jf, hqf⟩, ⟨qb, jb, hqb⟩, ⟨qi, ji, hqi⟩, ⟨qo, jo, hqo⟩⟩ := xaxZ r6; subst hqf hqb hqi hqo; have R6 := hideP r6; clear r6; have g0 := (b6.cell (p := ⟨w2.heap.size, 0, none⟩) l3).trans a0; have g1 := (b6.cell (p := ⟨w2.heap.size, 1, none⟩) l3).trans a1; have g2 := (b6.cell (p := ⟨w2.heap.size, 2, none⟩) l3).trans a2; have g3 := (b6.cell (p := ⟨w2.heap.size, 3, none⟩) l3).trans a3; have g4 := (b6.cell (p := ⟨w2.heap.size, 4, none⟩) l3).trans a4; have g5 := (b6.cell (p := ⟨w2.heap.size, 5, none⟩) l3).trans a5)
          | (go_at_call 29; (with_reducible refine (run_5 (w := w5.alloc _) ⟨f5.below (hd5 _), k5.below f5 (hd5 _), A3.out.below (xadZ b5 (hd5 _))⟩ HCF.out).mono ?_); rintro e w6 ⟨nf, nb, ni, no, rfl, r6, b6'⟩; have b6 : Below wc.heap.size wc w6 := xadZ (xadZ b5 (hd5 _)) b6'; have nz : ¬ w2.heap.size = w5.heap.size := (by have := b5.size; omega); have q6 := (b6'.block w5.heap.size (xacZ (World.alloc_heap_new w5 _))).trans (World.alloc_heap_new w5 _); have Q6 := hideP q6; have m0 := xaaZ q6 0; have m1 := xaaZ q6 1; have m2 := xaaZ q6 2; have m3 := xaaZ q6 3; have m4 := xaaZ q6 4; have m5 := xaaZ q6 5; simp at m0 m1 m2 m3 m4 m5; have mz := Lib.frozen_of_heap q6; have mz0 := mz 0; have mz1 := mz 1; have mz2 := mz 2; have mz3 := mz 3; have mz4 := mz 4; have mz5 := mz 5; clear mz; clear q6; have R6b : Hid (MRes w6 wc.heap.size _ _ _ _ _) := hideP (r6.low (Nat.le_trans b5.size (hd5 _).size)); obtain ⟨⟨qf, jf, hqf⟩, ⟨qb, jb, hqb⟩, ⟨qi, ji, hqi⟩, ⟨qo, jo, hqo⟩⟩ := xaxZ r6; subst hqf hqb hqi hqo; have R6 := hideP r6; clear r6; have g0 := (b6.cell (p := ⟨w2.heap.size, 0, none⟩) l3).trans a0; have g1 := (b6.cell (p := ⟨w2.heap.size, 1, none⟩) l3).trans a1; have g2 := (b6.cell (p := ⟨w2.heap.size, 2, none⟩) l3).trans a2; have g3 := (b6.cell (p := ⟨w2.heap.size, 3, none⟩) l3).trans a3; have g4 := (b6.cell (p := ⟨w2.heap.size, 4, none⟩) l3).trans a4; have g5 := (b6.cell (p := ⟨w2.heap.size, 5, none⟩) l3).trans a5))
      all_goals
        go_wp2_with fail
        go_meet
      · have hF := xffZ R6b.out (by decide) b6
        exact ⟨_, _, _, _, _, rfl, rfl, rfl, hF⟩
      · have hF := xcnZ R6b.out (by decide) b6 Q6.out b5.size
        exact ⟨_, _, _, _, _, rfl, rfl, rfl, hF⟩
      · have hF := xcnZ R6b.out (by decide) b6 Q6.out (Nat.le_refl _)
        exact ⟨_, _, _, _, _, rfl, rfl, rfl, hF⟩
    case rest =>
      obtain ⟨z5, ef, eb, ei, eo, rfl, rfl, rfl, hz5, hA5, hb5⟩ := hcut
      have hz := (hb5.block z lz).trans HZ.out
      have hA := HA.out.below hb5
      have B5 := hideP (xadZ B4.out hb5)
      have lz' := xacZ hz
      have lz5 := xacZ hz5
      obtain ⟨pe, ce, hpe, -, -, hfe⟩ := hA5.fr
      obtain ⟨ge, oe, le, se, rfl, hge, -, g1, -⟩ := hfe 0 _ rfl
      subst hpe
      simp at g1
      have x3 := xaaZ hz 3
      have x4 := xaaZ hz 4
      have y0 := xaaZ hz5 0
      have y4 := xaaZ hz5 4
      simp at x3 x4 y0 y4
      have HO := hideP hA.out
      have HCO : Hid (Calls Tryz.prog 30 #[.agg #[.int .i64 14, .int .i64 0]] wc fun e w' => e = .returned (.tuple #[.int .i64 3, .int .i64 0]) ∧ Below wc.heap.size wc w') := by
        have := xodZ 14 0 wc
        rw [show chk 14 0 = 0 by decide, if_pos rfl, show costM 14 = 3 by decide] at this
        exact this
      have KX : Hid (∀ W, Below wc.heap.size wc W → W.cell? ⟨z, 3, none⟩ = some co ∧ W.cell? ⟨z, 4, none⟩ = some (.int .i64 doneM.status) ∧ W.cell? ⟨z5, 0, none⟩ = some (.slice (some ⟨ge, oe, none⟩) fiveM.frames.length ce) ∧ W.cell? ⟨z5, 4, none⟩ = some (.int .i64 fiveM.status) ∧ W.cell? ⟨ge, oe + 1, none⟩ = some (.int .i64 5)) := fun W hW => ⟨(hW.cell (p := ⟨z, 3, none⟩) lz').trans x3, (hW.cell (p := ⟨z, 4, none⟩) lz').trans x4, (hW.cell (p := ⟨z5, 0, none⟩) lz5).trans y0, (hW.cell (p := ⟨z5, 4, none⟩) lz5).trans y4, (hW.cell (p := ⟨ge, oe + 1, none⟩) hge).trans g1⟩
      clear hz hA hz5 hA5 hfe g1 x3 x4 y0 y4 HZ HA hb5 A3 a0 a1 a2 a3 a4 a5
      go_wp2_with fail
      refine HCO.out.mono ?_
      rintro e w7 ⟨rfl, b7⟩
      obtain ⟨x3, x4, y0, y4, g1⟩ := KX.out w7 b7
      have e1 : doneM.status = 2 := rfl
      have e2 : fiveM.status = 0 := rfl
      have e3 : fiveM.frames.length = 1 := rfl
      rw [e1] at x4
      rw [e2] at y4
      rw [e3] at y0
      clear e1 e2 e3
      have q9 := World.alloc_heap_new w7 (.cells #[.int .i64 3, .int .i64 2, .int .i64 1] 3)
      have a9 := (Below.refl w7.heap.size w7).alloc (Nat.le_refl _) (.cells #[.int .i64 3, .int .i64 2, .int .i64 1] 3)
      have HSI := hideP (xczZ [3, 2, 1] [3, 2, 1] co _ (w7.alloc (.cells #[.int .i64 3, .int .i64 2, .int .i64 1] 3)) ((HO.out.at_.below b7).below a9) (xbdZ 3 3 q9 rfl (by unfold maxLen; decide)))
      have HQ9 := hideP a9
      clear q9 a9
      go_wp2_with fail
      refine HSI.out.mono ?_
      rintro e w8 ⟨rfl, b8⟩
      have b78 := xadZ b7 (xadZ HQ9.out b8)
      obtain ⟨x3', x4', y0', y4', g1'⟩ := KX.out w8 b78
      have e2 : fiveM.status = 0 := rfl
      have e3 : fiveM.frames.length = 1 := rfl
      rw [e2] at y4'
      rw [e3] at y0'
      clear e2 e3 x3 x4 y0 y4 g1
      go_wp2
      go_ret
      exact ⟨by simp, xadZ B5.out b78⟩
end Go.Proofs.YtcadpoknolefpaaGreat


/- Blocks that nobody has, plainly (chapter 8): what collecting makes of a machine. -/
namespace Go.Proofs.YtcadpoknolefpaaGreat
open Go.RowKit
set_option linter.unusedSimpArgs false
set_option linter.unusedVariables false
def mvV (S : List Int) (v : Val) : Val := if v.1 = true then (true, xaoZ S v.2) else v
def mvF (S : List Int) (x : Frm) : Frm := { x with loc := x.loc.map (mvV S), stk := x.stk.map (mvV S) }
def restr (S : List Int) (m : Mach) : Mach := { m with frames := m.frames.map (mvF S), blocks := keptL m.blocks S m.blocks.length }
def refsV (l : List Val) : List Int := (l.filter fun v => v.1 && decide (v.2 ≠ 0)).map Prod.snd
def refsM (m : Mach) : List Int := refsV (m.frames.flatMap fun x => x.loc ++ x.stk)
def xajZ (m : Mach) : Mach := restr (refsM m) m
theorem mem_refsV {l : List Val} {r : Int} : r ∈ refsV l ↔ r ≠ 0 ∧ (true, r) ∈ l := by
  unfold refsV
  simp only [List.mem_map, List.mem_filter, Bool.and_eq_true, decide_eq_true_eq]
  constructor
  · rintro ⟨⟨b, n⟩, ⟨h1, h2, h3⟩, rfl⟩
    simp only at h2 h3 ⊢
    subst h2
    exact ⟨h3, h1⟩
  · rintro ⟨h1, h2⟩
    exact ⟨(true, r), ⟨h2, rfl, h1⟩, rfl⟩
theorem xdfZ {m : Mach} {r : Int} : r ∈ refsM m ↔ r ≠ 0 ∧ ∃ x ∈ m.frames, (true, r) ∈ x.loc ∨ (true, r) ∈ x.stk := by
  unfold refsM
  rw [mem_refsV]
  simp only [List.mem_flatMap, List.mem_append]
def xhiZ (m : Mach) : Prop := ∀ r ∈ refsM m, 1 ≤ r ∧ r ≤ (m.blocks.length : Int)
theorem xfbZ {p : List Fn} {e : Nat → Nat → Option (List Int)} {m : Mach} (h : RightM p e m) : xhiZ m := fun r hr => by
  obtain ⟨h0, x, hx, hv⟩ := xdfZ.1 hr
  obtain ⟨i, hi⟩ := List.getElem?_of_mem hx
  obtain ⟨k, f, hf⟩ := h.each i x hi
  have : okV m.blocks.length (true, r) = true := by
    rcases hv with hv | hv
    · exact hf.okl _ hv
    · exact hf.oks _ hv
  simp [okV] at this
  omega
theorem xihZ {S T : List Int} {n : Nat} (h : ∀ r : Int, 1 ≤ r → r ≤ (n : Int) → (r ∈ S ↔ r ∈ T)) : stays S n = stays T n := by
  unfold stays
  apply List.filter_congr
  intro i hi
  have := List.mem_range.1 hi
  have := h ((i : Int) + 1) (by omega) (by omega)
  simp [this]
theorem xqdZ {S T : List Int} {r : Int} (h : ∀ q : Int, 1 ≤ q → q ≤ r → (q ∈ S ↔ q ∈ T)) : xaoZ S r = xaoZ T r := by
  unfold xaoZ
  rw [xihZ fun q h1 h2 => h q h1 (by omega)]
theorem xeoZ {S : List Int} {j : Nat} (h : (j : Int) + 1 ∈ S) : xaoZ S ((j : Int) + 1) = ((stays S j).length : Int) + 1 := by
  unfold xaoZ
  rw [show ((j : Int) + 1).toNat = j + 1 by omega, xedZ h]
  simp
theorem xi3Z {S : List Int} {i j : Nat} (h : (i : Int) + 1 ∈ S) (hij : i < j) : (stays S i).length < (stays S j).length := by
  have := xmgZ (refs := S) (show i + 1 ≤ j by omega)
  rw [xedZ h] at this
  simp at this
  omega
theorem thenOf_inj {S : List Int} {i j : Nat} (hi : (i : Int) + 1 ∈ S) (hj : (j : Int) + 1 ∈ S) (h : (stays S i).length = (stays S j).length) : i = j := by
  rcases Nat.lt_trichotomy i j with h1 | h1 | h1
  · have := xi3Z hi h1; omega
  · exact h1
  · have := xi3Z hj h1; omega
theorem xg5Z {S : List Int} {r : Int} {n : Nat} (h1 : 1 ≤ r) (hr : r ≤ (n : Int)) (hS : r ∈ S) : 1 ≤ xaoZ S r ∧ xaoZ S r ≤ ((stays S n).length : Int) := by
  obtain ⟨j, rfl⟩ : ∃ j : Nat, r = (j : Int) + 1 := ⟨(r - 1).toNat, by omega⟩
  rw [xeoZ hS]
  have := xi3Z (j := n) hS (by omega)
  omega
theorem thenOf_le {S : List Int} {r : Int} {n : Nat} (hr : r ≤ (n : Int)) : 0 ≤ xaoZ S r ∧ xaoZ S r ≤ ((stays S n).length : Int) := by
  unfold xaoZ
  have := xmgZ (refs := S) (show r.toNat ≤ n by omega)
  omega
theorem xl0Z {S R : List Int} (hsub : ∀ r ∈ R, r ∈ S ∧ 1 ≤ r) (n : Nat) : stays (R.map (xaoZ S)) (stays S n).length = (stays R n).map fun j => (stays S j).length := by
  induction n with
  | zero => simp [xi9Z]
  | succ n ih =>
    by_cases hS : (n : Int) + 1 ∈ S
    · rw [xedZ hS, List.length_append]
      by_cases hR : (n : Int) + 1 ∈ R
      · have h1 : ((stays S n).length : Int) + 1 ∈ R.map (xaoZ S) := List.mem_map.2 ⟨_, hR, xeoZ hS⟩
        rw [show (stays S n).length + [n].length = (stays S n).length + 1 from rfl, xedZ h1, ih, xedZ hR, List.map_append]
        rfl
      · have h1 : ¬ ((stays S n).length : Int) + 1 ∈ R.map (xaoZ S) := fun h => by
          obtain ⟨r, hr, e⟩ := List.mem_map.1 h
          obtain ⟨a, b⟩ := hsub r hr
          obtain ⟨j, rfl⟩ : ∃ j : Nat, r = (j : Int) + 1 := ⟨(r - 1).toNat, by omega⟩
          rw [xeoZ a] at e
          have := thenOf_inj a hS (by omega)
          subst this
          exact hR hr
        rw [show (stays S n).length + [n].length = (stays S n).length + 1 from rfl, xfiZ h1, ih, xfiZ hR]
    · have hR : ¬ (n : Int) + 1 ∈ R := fun h => hS (hsub _ h).1
      rw [xfiZ hS, xfiZ hR, ih]
theorem xrpZ {S R : List Int} (hsub : ∀ r ∈ R, r ∈ S ∧ 1 ≤ r) (r : Int) : xaoZ (R.map (xaoZ S)) (xaoZ S r) = xaoZ R r := by
  have := congrArg List.length (xl0Z hsub r.toNat)
  rw [List.length_map] at this
  unfold xaoZ at this ⊢
  rw [show (((stays S r.toNat).length : Int)).toNat = (stays S r.toNat).length by omega, this]
theorem keptL_comp {L : List (List Int)} {S R : List Int} (hsub : ∀ r ∈ R, r ∈ S ∧ 1 ≤ r) : keptL (keptL L S L.length) (R.map (xaoZ S)) (keptL L S L.length).length = keptL L R L.length := by
  conv => lhs; unfold keptL
  rw [show (List.map (fun i => (L[i]?).getD []) (stays S L.length)).length = (stays S L.length).length by simp, xl0Z hsub, List.map_map]
  unfold keptL
  apply List.map_congr_left
  intro j hj
  obtain ⟨a, b⟩ := xnlZ.1 hj
  obtain ⟨c, hc⟩ := xaiZ a
  have := keptL_at hc (hsub _ b).1
  unfold keptL at this
  simp only [Function.comp, this, hc]
theorem xrkZ {L : List (List Int)} {S T : List Int} {n : Nat} (h : ∀ r : Int, 1 ≤ r → r ≤ (n : Int) → (r ∈ S ↔ r ∈ T)) : keptL L S n = keptL L T n := by
  unfold keptL
  rw [xihZ h]
theorem xopZ {S T : List Int} {v : Val} (h : v.1 = true → xaoZ S v.2 = xaoZ T v.2) : mvV S v = mvV T v := by
  unfold mvV
  split
  · rename_i hv; rw [h hv]
  · rfl
theorem mvV_fst (S : List Int) (v : Val) : (mvV S v).1 = v.1 := by
  unfold mvV
  split
  · rename_i h; rw [h]
  · rfl
theorem xfuZ {S : List Int} {v : Val} (h : v.1 = false) : mvV S v = v := by simp [mvV, h]
theorem xdhZ {S : List Int} {v : Val} (h : v.1 = true) : mvV S v = (true, xaoZ S v.2) := by simp [mvV, h]
def xbeZ (S : List Int) (m : Mach) : Prop := ∀ r ∈ refsM m, r ∈ S
theorem xiuZ (m : Mach) : xbeZ (refsM m) m := fun _ h => h
theorem xexZ {x y : Frm} (h1 : x.fn = y.fn) (h2 : x.pc = y.pc) (h3 : x.loc = y.loc) (h4 : x.stk = y.stk) : x = y := by
  cases x; cases y; simp at h1 h2 h3 h4; subst h1 h2 h3 h4; rfl
theorem xfxZ {x y : Mach} (h1 : x.frames = y.frames) (h2 : x.blocks = y.blocks) (h3 : x.inp = y.inp) (h4 : x.out = y.out) (h5 : x.status = y.status) (h6 : x.trap = y.trap) : x = y := by
  cases x; cases y; simp at h1 h2 h3 h4 h5 h6; subst h1 h2 h3 h4 h5 h6; rfl
theorem xntZ {S T : List Int} {x : Frm} (h : ∀ v ∈ x.loc ++ x.stk, v.1 = true → xaoZ S v.2 = xaoZ T v.2) : mvF S x = mvF T x := by
  refine xexZ rfl rfl (List.map_congr_left fun v hv => xopZ (h v (by simp [hv]))) (List.map_congr_left fun v hv => xopZ (h v (by simp [hv])))
theorem xk0Z {S T : List Int} {m : Mach} (hok : xhiZ m) (h : ∀ r : Int, 1 ≤ r → r ≤ (m.blocks.length : Int) → (r ∈ S ↔ r ∈ T)) : restr S m = restr T m := by
  refine xfxZ (List.map_congr_left fun x hx => xntZ fun v hv h1 => ?_) (xrkZ h) rfl rfl rfl rfl
  obtain ⟨b, r⟩ := v
  simp only at h1 ⊢
  subst h1
  by_cases h0 : r = 0
  · rw [h0]; rfl
  · have := hok r (xdfZ.2 ⟨h0, x, hx, by simpa using hv⟩)
    exact xqdZ fun q h1 h2 => h q h1 (by omega)
theorem xlwZ {S : List Int} {m : Mach} (hok : xhiZ m) (hS : xbeZ S m) (r : Int) : r ∈ refsM (restr S m) ↔ r ∈ (refsM m).map (xaoZ S) := by
  rw [xdfZ, List.mem_map]
  constructor
  · rintro ⟨h0, x, hx, hv⟩
    simp only [restr, List.mem_map] at hx
    obtain ⟨y, hy, rfl⟩ := hx
    have hv' : ∃ v, (v ∈ y.loc ∨ v ∈ y.stk) ∧ mvV S v = (true, r) := by
      rcases hv with hv | hv
      · obtain ⟨v, h1, h2⟩ := List.mem_map.1 hv; exact ⟨v, .inl h1, h2⟩
      · obtain ⟨v, h1, h2⟩ := List.mem_map.1 hv; exact ⟨v, .inr h1, h2⟩
    obtain ⟨⟨b, q⟩, h1, h2⟩ := hv'
    have hb : b = true := by have := mvV_fst S (b, q); rw [h2] at this; exact this.symm
    subst hb
    rw [xdhZ rfl] at h2
    simp only [Prod.mk.injEq, true_and] at h2
    refine ⟨q, xdfZ.2 ⟨fun hq => h0 ?_, y, hy, h1⟩, h2⟩
    rw [← h2, hq]; rfl
  · rintro ⟨q, hq, rfl⟩
    have hb := hok q hq
    obtain ⟨h0, y, hy, hv⟩ := xdfZ.1 hq
    have := xg5Z hb.1 hb.2 (hS q hq)
    refine ⟨by omega, mvF S y, List.mem_map.2 ⟨y, hy, rfl⟩, ?_⟩
    rcases hv with hv | hv
    · exact .inl (List.mem_map.2 ⟨_, hv, xdhZ rfl⟩)
    · exact .inr (List.mem_map.2 ⟨_, hv, xdhZ rfl⟩)
theorem xqnZ {S : List Int} {m : Mach} (hok : xhiZ m) (hS : xbeZ S m) : xhiZ (restr S m) := fun r hr => by
  obtain ⟨q, hq, rfl⟩ := List.mem_map.1 ((xlwZ hok hS r).1 hr)
  have hb := hok q hq
  have := xg5Z hb.1 hb.2 (hS q hq)
  show 1 ≤ xaoZ S q ∧ xaoZ S q ≤ ((keptL m.blocks S m.blocks.length).length : Int)
  rw [xciZ]
  exact this
theorem xjiZ {S : List Int} {m : Mach} (hok : xhiZ m) (hS : xbeZ S m) : xajZ (restr S m) = xajZ m := by
  have hsub : ∀ r ∈ refsM m, r ∈ S ∧ 1 ≤ r := fun r hr => ⟨hS r hr, (hok r hr).1⟩
  unfold xajZ
  rw [xk0Z (T := (refsM m).map (xaoZ S)) (xqnZ hok hS) fun r _ _ => xlwZ hok hS r]
  refine xfxZ ?_ (keptL_comp hsub) rfl rfl rfl rfl
  simp only [restr, List.map_map]
  apply List.map_congr_left
  intro x hx
  have key : ∀ v : Val, mvV ((refsM m).map (xaoZ S)) (mvV S v) = mvV (refsM m) v := fun v => by
    obtain ⟨b, r⟩ := v
    cases b with
    | false => rfl
    | true => rw [xdhZ (S := S) rfl, xdhZ rfl, xdhZ rfl]; simp only [xrpZ hsub]
  refine xexZ rfl rfl ?_ ?_
  · simp only [Function.comp, mvF, List.map_map]
    exact List.map_congr_left fun v _ => key v
  · simp only [Function.comp, mvF, List.map_map]
    exact List.map_congr_left fun v _ => key v
theorem xjlZ {m : Mach} (hok : xhiZ m) : xajZ (xajZ m) = xajZ m := xjiZ hok (xiuZ m)
theorem keep_refs {p : List Fn} {e : Nat → Nat → Option (List Int)} {m : Mach} (h : RightM p e m) : xckZ m.blocks (refsM m) = 0 := by
  unfold xckZ
  rw [if_neg (by simp [h.blocks]), if_pos]
  rw [List.all_eq_true]
  intro r hr
  have := xfbZ h r hr
  simp [refOk]
  omega
theorem asT_mv (S : List Int) {v : Val} {t : Int} (h : asT v t = true) : asT (mvV S v) t = true := by
  obtain ⟨b, r⟩ := v
  cases b with
  | false => exact h
  | true =>
    rw [xdhZ rfl]
    simp only [asT, Bool.and_eq_true, Bool.or_eq_true, decide_eq_true_eq] at h ⊢
    refine ⟨h.1, h.2.imp id fun h0 => ?_⟩
    rw [h0]; rfl
theorem xiqZ (S : List Int) : ∀ {l : List Val} {s : List Int}, areOf l s = true → areOf (l.map (mvV S)) s = true
  | [], [], _ => rfl
  | [], _ :: _, h => by simp [areOf] at h
  | _ :: _, [], h => by simp [areOf] at h
  | v :: r, t :: q, h => by
    simp only [areOf, Bool.and_eq_true, List.map_cons] at h ⊢
    exact ⟨asT_mv S h.1, xiqZ S h.2⟩
theorem okV_mv {S : List Int} {n : Nat} {v : Val} (h : okV n v = true) : okV (stays S n).length (mvV S v) = true := by
  obtain ⟨b, r⟩ := v
  cases b with
  | false => exact h
  | true =>
    rw [xdhZ rfl]
    simp only [okV, if_true, Bool.and_eq_true, decide_eq_true_eq] at h ⊢
    exact thenOf_le h.2
theorem xnqZ (L : List (List Int)) (S : List Int) : ∀ n, n ≤ L.length → (keptL L S n).length ≤ n ∧ xazZ (keptL L S n) ≤ xazZ (L.take n) ∧ ∀ b ∈ keptL L S n, b ∈ L
  | 0, _ => by simp [keptL, xi9Z, xazZ]
  | n + 1, hn => by
    obtain ⟨h1, h2, h3⟩ := xnqZ L S n (by omega)
    obtain ⟨b, hb⟩ := xaiZ (l := L) (k := n) (by omega)
    have := xiaZ L n b hb
    by_cases h : (n : Int) + 1 ∈ S
    · rw [xgeZ h hb]
      refine ⟨by simp; omega, ?_, fun c hc => ?_⟩
      · rw [xfnZ, this]
        simp [xazZ] at h2 ⊢
        omega
      · rcases List.mem_append.1 hc with hc | hc
        · exact h3 c hc
        · simp at hc; subst hc; exact List.mem_of_getElem? hb
    · rw [xguZ h]
      exact ⟨by omega, by omega, h3⟩
theorem xgtZ {L : List (List Int)} (S : List Int) (h : blkErr L = 0) : blkErr (keptL L S L.length) = 0 ∧ (keptL L S L.length).length ≤ L.length ∧ xazZ (keptL L S L.length) ≤ xazZ L := by
  obtain ⟨a, b, c⟩ := xbzZ h
  obtain ⟨h1, h2, h3⟩ := xnqZ L S L.length (Nat.le_refl _)
  rw [List.take_length] at h2
  exact ⟨xjpZ (by omega) (by omega) fun x hx => c x (h3 x hx), h1, h2⟩
theorem rightF_mv {p : List Fn} {e : Nat → Nat → Option (List Int)} {nb : Nat} {next : Option Int} {x : Frm} {k : Nat} {f : Fn} (S : List Int) (h : RightF p e nb next x k f) : RightF p e (stays S nb).length next (mvF S x) k f := by
  refine ⟨h.fn, h.at_, xiqZ S h.loc, fun v hv => ?_, fun v hv => ?_, fun hn => ?_, fun g hg => ?_⟩
  · obtain ⟨u, hu, rfl⟩ := List.mem_map.1 hv; exact okV_mv (h.okl u hu)
  · obtain ⟨u, hu, rfl⟩ := List.mem_map.1 hv; exact okV_mv (h.oks u hu)
  · obtain ⟨pc, s, h1, h2, h3⟩ := h.inner hn; exact ⟨pc, s, h1, h2, xiqZ S h3⟩
  · obtain ⟨pc, s0, s, hh, h1, h2, h3, h4, h5, h6, h7⟩ := h.outer g hg; exact ⟨pc, s0, s, hh, h1, h2, h3, h4, h5, h6, xiqZ S h7⟩
theorem xflZ {p : List Fn} {e : Nat → Nat → Option (List Int)} {m : Mach} (S : List Int) (h : RightM p e m) : RightM p e (restr S m) := by
  refine ⟨h.status, h.trap, (xgtZ S h.blocks).1, h.inp, h.out, ?_, ?_, ?_, fun hw => ?_⟩
  · simp only [restr, List.length_map, List.map_eq_nil_iff]; exact h.depth
  · intro x hx
    simp only [restr, List.getElem?_map, Option.map_eq_some_iff] at hx
    obtain ⟨y, hy, rfl⟩ := hx
    exact h.first y hy
  · intro i x hx
    simp only [restr, List.getElem?_map, Option.map_eq_some_iff] at hx ⊢
    obtain ⟨y, hy, rfl⟩ := hx
    obtain ⟨k, f, hr⟩ := h.each i y hy
    refine ⟨k, f, ?_⟩
    rw [xciZ, Option.map_map]
    exact rightF_mv S hr
  · obtain ⟨h1, x, k, f, o, h2, h3, h4, h5, h6⟩ := h.wait hw
    exact ⟨h1, mvF S x, k, f, o, by simp [restr, List.getLast?_map, h2], h3, h4, h5, h6⟩
theorem xhgZ (p : List Fn) (S : List Int) (m : Mach) : xbtZ p (restr S m) = xbtZ p m := by
  unfold xbtZ
  simp only [restr, List.getLast?_map]
  cases m.frames.getLast? with
  | none => rfl
  | some x => rfl
end Go.Proofs.YtcadpoknolefpaaGreat


