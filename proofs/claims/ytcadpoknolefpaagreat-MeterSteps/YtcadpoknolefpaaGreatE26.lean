/- My texts Td My Ub: what of them is needed, joined. -/
import Derived.Laws.StructEq
import Derived.Deep.QuietTactic
import Derived.BigQuiet
import Derived.Test.YtcadpoknolefpaaGreatE11
import Derived.Test.YtcadpoknolefpaaGreatE24
import Derived.Test.YtcadpoknolefpaaGreatE25
/- What must be in any case of fuel: meterBegun. -/
namespace Go.Proofs.YtcadpoknolefpaaGreat
open Go.RowKit
set_option linter.unusedSimpArgs false
set_option linter.unusedVariables false
def runF (p : List Fn) : Nat → MF → MF
  | 0, s => s
  | k + 1, s => if s.1.status = 0 then (match pay p s with
    | none => s
    | some s' => runF p k s') else s
theorem ends_runF {p : List Fn} : ∀ (k : Nat) (s : MF), ((runF p k s).1.status ≠ 0 ∨ pay p (runF p k s) = none) → Ends p s (runF p k s)
  | 0, s, h => by
    rcases h with h | h
    · exact .stop h
    · exact .poor h
  | k + 1, s, h => by
    unfold runF at h ⊢
    by_cases h0 : s.1.status = 0
    · rw [if_pos h0] at h ⊢
      cases hp : pay p s with
      | none => exact .poor hp
      | some s' => rw [hp] at h; exact .on h0 hp (ends_runF k s' h)
    · rw [if_neg h0]
      exact .stop h0
def doneM : Mach := ⟨[], [], [], [3, 2, 1], 2, 0⟩
def fiveM : Mach := ⟨[⟨0, 5, [], [(false, 2)]⟩], [], [], [3], 0, 0⟩
theorem run100 : runF counterFns 60 (beginM, 100) = (doneM, 77) := by kernel_rfl
theorem run5 : runF counterFns 60 (beginM, 5) = (fiveM, 0) ∧ pay counterFns (fiveM, 0) = none := ⟨by kernel_rfl, by kernel_rfl⟩
theorem is100 : RunIs counterFns beginM 100 (doneM, 77) := by
  unfold RunIs
  rw [firstS_on (by decide), ← run100]
  exact ends_runF 60 _ (.inl (by rw [run100]; decide))
theorem is5 : RunIs counterFns beginM 5 (fiveM, 0) := by
  unfold RunIs
  rw [firstS_on (by decide), ← run5.1]
  exact ends_runF 60 _ (.inr (by rw [run5.1]; exact run5.2))
def MRet3 (R : Mach) (k : Int) (w : World) (e : Ending) (w' : World) : Prop := ∃ fv bv iv ov, e = .returned (.tuple #[.agg #[fv, bv, iv, ov, .int .i64 R.status, .int .i64 R.trap], .int .i64 k, .int .i64 0]) ∧ MRes w' w.heap.size fv bv iv ov R ∧ Below w.heap.size w w'
theorem run_known {n k : Int} {R : Mach} (hr : RunIs counterFns beginM n (R, k)) (hn : 0 ≤ n ∧ n ≤ 10000) {pv fv bv iv ov : Value} {w : World} (h : CkAt w counterFns pv fv bv iv ov beginM) (hf : fitsE counterFns = 0) : Calls Tryz.prog 29 #[.agg #[pv], .agg #[fv, bv, iv, ov, .int .i64 beginM.status, .int .i64 beginM.trap], .int .i64 n] w (MRet3 R k w) := by
  have hE : runE counterFns beginM n = 0 := runE_zero.2 ⟨(begin_ok hf cb1.1).1, hn⟩
  refine (mRun_any beginM counterFns n pv fv bv iv ov w h pcOk_begin).mono ?_
  rintro e w' ⟨t, ht, f', b', i', o', h1, h2, h3⟩
  have := runIs_one (ht.1 hE) hr
  subst this
  rw [hE] at h1
  exact ⟨_, _, _, _, h1, h2, h3⟩
theorem run_100 {pv fv bv iv ov : Value} {w : World} (h : CkAt w counterFns pv fv bv iv ov beginM) (hf : fitsE counterFns = 0) : Calls Tryz.prog 29 #[.agg #[pv], .agg #[fv, bv, iv, ov, .int .i64 beginM.status, .int .i64 beginM.trap], .int .i64 100] w (MRet3 doneM 77 w) := run_known is100 (by decide) h hf
theorem run_5 {pv fv bv iv ov : Value} {w : World} (h : CkAt w counterFns pv fv bv iv ov beginM) (hf : fitsE counterFns = 0) : Calls Tryz.prog 29 #[.agg #[pv], .agg #[fv, bv, iv, ov, .int .i64 beginM.status, .int .i64 beginM.trap], .int .i64 5] w (MRet3 fiveM 0 w) := run_known is5 (by decide) h hf
set_option maxRecDepth 100000 in
set_option maxHeartbeats 8000000 in
theorem meterBegun_any (w : World) : Calls Tryz.prog 35 #[] w fun e w' => e = .returned (.bool true) ∧ Below w.heap.size w w' := by
  go_enter Tryz.func35, Tryz.ntmps35
  go_wp2_with fail
  refine (counter_any _).mono ?_
  rintro e w1 ⟨v1, rfl, f1, k1, b1⟩
  have hcf := counter_fits f1 k1
  have HST := hideP (start_begin f1 k1 hcf cb1.1)
  go_wp2_with fail
  refine HST.out.mono ?_
  rintro e w2 ⟨xf, xb, xi, xo, rfl, r2, b2⟩
  have B2 := bthen0 b1 b2
  have HCF := hideP hcf
  obtain ⟨⟨pf, kf, hf⟩, ⟨pb, kb, hb⟩, ⟨pi, ki, hi⟩, ⟨po, ko, ho⟩⟩ := mres_shpN r2
  subst hf hb hi ho
  have A2 : MachAt w2 _ _ _ _ beginM := r2.at_ (by decide)
  obtain ⟨W3, hW3⟩ : ∃ W3, w2.alloc (.cells #[.slice pf beginM.frames.length kf, .slice pb beginM.blocks.length kb, .slice pi beginM.inp.length ki, .slice po beginM.out.length ko, .int .i64 beginM.status, .int .i64 beginM.trap] 29) = W3 := ⟨_, rfl⟩
  have b3 : Below w2.heap.size w2 W3 := by rw [← hW3]; exact (Below.refl _ w2).alloc (Nat.le_refl _) _
  have u3 : W3.heap[w2.heap.size]? = some (.cells #[.slice pf beginM.frames.length kf, .slice pb beginM.blocks.length kb, .slice pi beginM.inp.length ki, .slice po beginM.out.length ko, .int .i64 beginM.status, .int .i64 beginM.trap] 29 (0, 0)) := by rw [← hW3]; exact World.alloc_heap_new w2 _
  have B3 := bthen0 B2 b3
  have A3 := hideP (A2.below b3)
  have l3 := heap_lt u3
  have a0 := cell_at' u3 0
  have a1 := cell_at' u3 1
  have a2 := cell_at' u3 2
  have a3 := cell_at' u3 3
  have a4 := cell_at' u3 4
  have a5 := cell_at' u3 5
  simp at a0 a1 a2 a3 a4 a5
  have HB3 := hideP B3
  clear f1 k1 hcf HST b1 b2 B2 r2 A2 b3 u3 B3
  go_upto_region 2 with fail
  go_cut [3, 4, 5] from 16 (fun sa sb sc wx => ∃ (z : Nat) (fv bv iv ov : Value), sa = .pointer (some ⟨z, 0, none⟩) ∧ sb = .int .i64 (77) ∧ sc = .int .i64 0 ∧ wx.heap[z]? = some (.cells #[fv, bv, iv, ov, .int .i64 (doneM).status, .int .i64 (doneM).trap] 29 (0, 0)) ∧ MachAt wx fv bv iv ov doneM ∧ Below W3.heap.size W3 wx)
  case first =>
    have hdA : ∀ o, Below W3.heap.size W3 (W3.alloc o).drew := fun o => ((Below.refl _ W3).alloc (Nat.le_refl _) o).drew
    go_region_held3 (fun W => W.cell? ⟨w2.heap.size, 0, none⟩ = some (.slice pf beginM.frames.length kf) ∧ W.cell? ⟨w2.heap.size, 1, none⟩ = some (.slice pb beginM.blocks.length kb) ∧ W.cell? ⟨w2.heap.size, 2, none⟩ = some (.slice pi beginM.inp.length ki) ∧ W.cell? ⟨w2.heap.size, 3, none⟩ = some (.slice po beginM.out.length ko) ∧ W.cell? ⟨w2.heap.size, 4, none⟩ = some (.int .i64 beginM.status) ∧ W.cell? ⟨w2.heap.size, 5, none⟩ = some (.int .i64 beginM.trap)) (first | go_keep | exact ⟨six_cell g0 nz, six_cell g1 nz, six_cell g2 nz, six_cell g3 nz, six_cell g4 nz, six_cell g5 nz⟩)
      (first
        | (go_at_call 59; (with_reducible refine (counter_any _).mono ?_); rintro e w5 ⟨v5, rfl, f5, k5, b5'⟩; have b5 : Below W3.heap.size W3 w5 := bthen0 ((Below.refl _ W3).drew) b5'; clear b5'; have h0 := (b5.cell (p := ⟨w2.heap.size, 0, none⟩) l3).trans a0; have h1 := (b5.cell (p := ⟨w2.heap.size, 1, none⟩) l3).trans a1; have h2 := (b5.cell (p := ⟨w2.heap.size, 2, none⟩) l3).trans a2; have h3 := (b5.cell (p := ⟨w2.heap.size, 3, none⟩) l3).trans a3; have h4 := (b5.cell (p := ⟨w2.heap.size, 4, none⟩) l3).trans a4; have h5 := (b5.cell (p := ⟨w2.heap.size, 5, none⟩) l3).trans a5; have hd5 : ∀ o, Below w5.heap.size w5 (w5.alloc o) := fun o => (Below.refl _ w5).alloc (Nat.le_refl _) o)
        | (go_at_call 59; (with_reducible refine (counter_any _).mono ?_); rintro e w5 ⟨v5, rfl, f5, k5, b5'⟩; have b5 : Below W3.heap.size W3 w5 := bthen0 (hdA _) b5'; have q5 := (b5'.block W3.heap.size (heap_lt (World.alloc_heap_new W3 _))).trans (World.alloc_heap_new W3 _); have Q5 := hideP q5; have m0 := cell_at' q5 0; have m1 := cell_at' q5 1; have m2 := cell_at' q5 2; have m3 := cell_at' q5 3; have m4 := cell_at' q5 4; have m5 := cell_at' q5 5; simp at m0 m1 m2 m3 m4 m5; have mz := Lib.frozen_of_heap q5; have mz0 := mz 0; have mz1 := mz 1; have mz2 := mz 2; have mz3 := mz 3; have mz4 := mz 4; have mz5 := mz 5; clear mz; clear b5' q5; have h0 := (b5.cell (p := ⟨w2.heap.size, 0, none⟩) l3).trans a0; have h1 := (b5.cell (p := ⟨w2.heap.size, 1, none⟩) l3).trans a1; have h2 := (b5.cell (p := ⟨w2.heap.size, 2, none⟩) l3).trans a2; have h3 := (b5.cell (p := ⟨w2.heap.size, 3, none⟩) l3).trans a3; have h4 := (b5.cell (p := ⟨w2.heap.size, 4, none⟩) l3).trans a4; have h5 := (b5.cell (p := ⟨w2.heap.size, 5, none⟩) l3).trans a5)
        | (go_at_call 29; (with_reducible refine (run_100 (w := w5) ⟨f5, k5, A3.out.below b5⟩ HCF.out).mono ?_); rintro e w6 ⟨nf, nb, ni, no, rfl, r6, b6'⟩; have b6 : Below W3.heap.size W3 w6 := bthen0 b5 b6'; have nz : ¬ w2.heap.size = W3.heap.size := (by omega); have q6 := (b6'.block W3.heap.size (heap_lt Q5.out)).trans Q5.out; have Q6 := hideP q6; clear m0 m1 m2 m3 m4 m5 mz0 mz1 mz2 mz3 mz4 mz5; have m0 := cell_at' q6 0; have m1 := cell_at' q6 1; have m2 := cell_at' q6 2; have m3 := cell_at' q6 3; have m4 := cell_at' q6 4; have m5 := cell_at' q6 5; simp at m0 m1 m2 m3 m4 m5; have mz := Lib.frozen_of_heap q6; have mz0 := mz 0; have mz1 := mz 1; have mz2 := mz 2; have mz3 := mz 3; have mz4 := mz 4; have mz5 := mz 5; clear mz; clear q6; have R6b : Hid (MRes w6 W3.heap.size _ _ _ _ _) := hideP (r6.low b5.size); obtain ⟨⟨qf, jf, hqf⟩, ⟨qb, jb, hqb⟩, ⟨qi, ji, hqi⟩, ⟨qo, jo, hqo⟩⟩ := mres_shpN r6; subst hqf hqb hqi hqo; have R6 := hideP r6; clear r6; have g0 := (b6.cell (p := ⟨w2.heap.size, 0, none⟩) l3).trans a0; have g1 := (b6.cell (p := ⟨w2.heap.size, 1, none⟩) l3).trans a1; have g2 := (b6.cell (p := ⟨w2.heap.size, 2, none⟩) l3).trans a2; have g3 := (b6.cell (p := ⟨w2.heap.size, 3, none⟩) l3).trans a3; have g4 := (b6.cell (p := ⟨w2.heap.size, 4, none⟩) l3).trans a4; have g5 := (b6.cell (p := ⟨w2.heap.size, 5, none⟩) l3).trans a5)
        | (go_at_call 29; (with_reducible refine (run_100 (w := w5) ⟨f5, k5, A3.out.below b5⟩ HCF.out).mono ?_); rintro e w6 ⟨nf, nb, ni, no, rfl, r6, b6'⟩; have b6 : Below W3.heap.size W3 w6 := bthen0 b5 b6'; have nz : ¬ w2.heap.size = w6.heap.size := (by have := b6.size; omega); have R6b : Hid (MRes w6 W3.heap.size _ _ _ _ _) := hideP (r6.low b5.size); obtain ⟨⟨qf, jf, hqf⟩, ⟨qb, jb, hqb⟩, ⟨qi, ji, hqi⟩, ⟨qo, jo, hqo⟩⟩ := mres_shpN r6; subst hqf hqb hqi hqo; have R6 := hideP r6; clear r6; have g0 := (b6.cell (p := ⟨w2.heap.size, 0, none⟩) l3).trans a0; have g1 := (b6.cell (p := ⟨w2.heap.size, 1, none⟩) l3).trans a1; have g2 := (b6.cell (p := ⟨w2.heap.size, 2, none⟩) l3).trans a2; have g3 := (b6.cell (p := ⟨w2.heap.size, 3, none⟩) l3).trans a3; have g4 := (b6.cell (p := ⟨w2.heap.size, 4, none⟩) l3).trans a4; have g5 := (b6.cell (p := ⟨w2.heap.size, 5, none⟩) l3).trans a5)
        | (go_at_call 29; (with_reducible refine (run_100 (w := w5.alloc _) ⟨f5.below (hd5 _), k5.below f5 (hd5 _), A3.out.below (bthen0 b5 (hd5 _))⟩ HCF.out).mono ?_); rintro e w6 ⟨nf, nb, ni, no, rfl, r6, b6'⟩; have b6 : Below W3.heap.size W3 w6 := bthen0 (bthen0 b5 (hd5 _)) b6'; have nz : ¬ w2.heap.size = w5.heap.size := (by have := b5.size; omega); have q6 := (b6'.block w5.heap.size (heap_lt (World.alloc_heap_new w5 _))).trans (World.alloc_heap_new w5 _); have Q6 := hideP q6; have m0 := cell_at' q6 0; have m1 := cell_at' q6 1; have m2 := cell_at' q6 2; have m3 := cell_at' q6 3; have m4 := cell_at' q6 4; have m5 := cell_at' q6 5; simp at m0 m1 m2 m3 m4 m5; have mz := Lib.frozen_of_heap q6; have mz0 := mz 0; have mz1 := mz 1; have mz2 := mz 2; have mz3 := mz 3; have mz4 := mz 4; have mz5 := mz 5; clear mz; clear q6; have R6b : Hid (MRes w6 W3.heap.size _ _ _ _ _) := hideP (r6.low (Nat.le_trans b5.size (hd5 _).size)); obtain ⟨⟨qf, jf, hqf⟩, ⟨qb, jb, hqb⟩, ⟨qi, ji, hqi⟩, ⟨qo, jo, hqo⟩⟩ := mres_shpN r6; subst hqf hqb hqi hqo; have R6 := hideP r6; clear r6; have g0 := (b6.cell (p := ⟨w2.heap.size, 0, none⟩) l3).trans a0; have g1 := (b6.cell (p := ⟨w2.heap.size, 1, none⟩) l3).trans a1; have g2 := (b6.cell (p := ⟨w2.heap.size, 2, none⟩) l3).trans a2; have g3 := (b6.cell (p := ⟨w2.heap.size, 3, none⟩) l3).trans a3; have g4 := (b6.cell (p := ⟨w2.heap.size, 4, none⟩) l3).trans a4; have g5 := (b6.cell (p := ⟨w2.heap.size, 5, none⟩) l3).trans a5))
    all_goals
      go_wp2_with fail
      go_meet
    · have hF := begin_fin0 R6b.out (by decide) b6
      exact ⟨_, _, _, _, _, rfl, rfl, rfl, hF⟩
    · have hF := begin_fin R6b.out (by decide) b6 Q6.out b5.size
      exact ⟨_, _, _, _, _, rfl, rfl, rfl, hF⟩
    · have hF := begin_fin R6b.out (by decide) b6 Q6.out (Nat.le_refl _)
      exact ⟨_, _, _, _, _, rfl, rfl, rfl, hF⟩
  case rest =>
    obtain ⟨z, cf, cb, ci, co, rfl, rfl, rfl, hz, hA, hb⟩ := hcut
    have B4 := hideP (bthen0 HB3.out hb)
    have lz := heap_lt hz
    have HZ := hideP hz
    have HA := hideP hA
    replace A3 := hideP (A3.out.below hb)
    have s4 := hb.size
    replace a0 := (hb.cell (p := ⟨w2.heap.size, 0, none⟩) l3).trans a0
    replace a1 := (hb.cell (p := ⟨w2.heap.size, 1, none⟩) l3).trans a1
    replace a2 := (hb.cell (p := ⟨w2.heap.size, 2, none⟩) l3).trans a2
    replace a3 := (hb.cell (p := ⟨w2.heap.size, 3, none⟩) l3).trans a3
    replace a4 := (hb.cell (p := ⟨w2.heap.size, 4, none⟩) l3).trans a4
    replace a5 := (hb.cell (p := ⟨w2.heap.size, 5, none⟩) l3).trans a5
    replace l3 : w2.heap.size < wc.heap.size := by omega
    clear hz hA hb HB3
    go_upto_region 3 with fail
    go_cut [6, 7, 8] from 23 (fun sa sb sc wx => ∃ (z : Nat) (fv bv iv ov : Value), sa = .pointer (some ⟨z, 0, none⟩) ∧ sb = .int .i64 (0) ∧ sc = .int .i64 0 ∧ wx.heap[z]? = some (.cells #[fv, bv, iv, ov, .int .i64 (fiveM).status, .int .i64 (fiveM).trap] 29 (0, 0)) ∧ MachAt wx fv bv iv ov fiveM ∧ Below wc.heap.size wc wx)
    case first =>
      have hdA : ∀ o, Below wc.heap.size wc (wc.alloc o).drew := fun o => ((Below.refl _ wc).alloc (Nat.le_refl _) o).drew
      go_region_held3 (fun W => W.cell? ⟨w2.heap.size, 0, none⟩ = some (.slice pf beginM.frames.length kf) ∧ W.cell? ⟨w2.heap.size, 1, none⟩ = some (.slice pb beginM.blocks.length kb) ∧ W.cell? ⟨w2.heap.size, 2, none⟩ = some (.slice pi beginM.inp.length ki) ∧ W.cell? ⟨w2.heap.size, 3, none⟩ = some (.slice po beginM.out.length ko) ∧ W.cell? ⟨w2.heap.size, 4, none⟩ = some (.int .i64 beginM.status) ∧ W.cell? ⟨w2.heap.size, 5, none⟩ = some (.int .i64 beginM.trap)) (first | go_keep | exact ⟨six_cell g0 nz, six_cell g1 nz, six_cell g2 nz, six_cell g3 nz, six_cell g4 nz, six_cell g5 nz⟩)
        (first
          | (go_at_call 59; (with_reducible refine (counter_any _).mono ?_); rintro e w5 ⟨v5, rfl, f5, k5, b5'⟩; have b5 : Below wc.heap.size wc w5 := bthen0 ((Below.refl _ wc).drew) b5'; clear b5'; have h0 := (b5.cell (p := ⟨w2.heap.size, 0, none⟩) l3).trans a0; have h1 := (b5.cell (p := ⟨w2.heap.size, 1, none⟩) l3).trans a1; have h2 := (b5.cell (p := ⟨w2.heap.size, 2, none⟩) l3).trans a2; have h3 := (b5.cell (p := ⟨w2.heap.size, 3, none⟩) l3).trans a3; have h4 := (b5.cell (p := ⟨w2.heap.size, 4, none⟩) l3).trans a4; have h5 := (b5.cell (p := ⟨w2.heap.size, 5, none⟩) l3).trans a5; have hd5 : ∀ o, Below w5.heap.size w5 (w5.alloc o) := fun o => (Below.refl _ w5).alloc (Nat.le_refl _) o)
          | (go_at_call 59; (with_reducible refine (counter_any _).mono ?_); rintro e w5 ⟨v5, rfl, f5, k5, b5'⟩; have b5 : Below wc.heap.size wc w5 := bthen0 (hdA _) b5'; have q5 := (b5'.block wc.heap.size (heap_lt (World.alloc_heap_new wc _))).trans (World.alloc_heap_new wc _); have Q5 := hideP q5; have m0 := cell_at' q5 0; have m1 := cell_at' q5 1; have m2 := cell_at' q5 2; have m3 := cell_at' q5 3; have m4 := cell_at' q5 4; have m5 := cell_at' q5 5; simp at m0 m1 m2 m3 m4 m5; have mz := Lib.frozen_of_heap q5; have mz0 := mz 0; have mz1 := mz 1; have mz2 := mz 2; have mz3 := mz 3; have mz4 := mz 4; have mz5 := mz 5; clear mz; clear b5' q5; have h0 := (b5.cell (p := ⟨w2.heap.size, 0, none⟩) l3).trans a0; have h1 := (b5.cell (p := ⟨w2.heap.size, 1, none⟩) l3).trans a1; have h2 := (b5.cell (p := ⟨w2.heap.size, 2, none⟩) l3).trans a2; have h3 := (b5.cell (p := ⟨w2.heap.size, 3, none⟩) l3).trans a3; have h4 := (b5.cell (p := ⟨w2.heap.size, 4, none⟩) l3).trans a4; have h5 := (b5.cell (p := ⟨w2.heap.size, 5, none⟩) l3).trans a5)
          | (go_at_call 29; (with_reducible refine (run_5 (w := w5) ⟨f5, k5, A3.out.below b5⟩ HCF.out).mono ?_); rintro e w6 ⟨nf, nb, ni, no, rfl, r6, b6'⟩; have b6 : Below wc.heap.size wc w6 := bthen0 b5 b6'; have nz : ¬ w2.heap.size = wc.heap.size := (by omega); have q6 := (b6'.block wc.heap.size (heap_lt Q5.out)).trans Q5.out; have Q6 := hideP q6; clear m0 m1 m2 m3 m4 m5 mz0 mz1 mz2 mz3 mz4 mz5; have m0 := cell_at' q6 0; have m1 := cell_at' q6 1; have m2 := cell_at' q6 2; have m3 := cell_at' q6 3; have m4 := cell_at' q6 4; have m5 := cell_at' q6 5; simp at m0 m1 m2 m3 m4 m5; have mz := Lib.frozen_of_heap q6; have mz0 := mz 0; have mz1 := mz 1; have mz2 := mz 2; have mz3 := mz 3; have mz4 := mz 4; have mz5 := mz 5; clear mz; clear q6; have R6b : Hid (MRes w6 wc.heap.size _ _ _ _ _) := hideP (r6.low b5.size); obtain ⟨⟨qf, jf, hqf⟩, ⟨qb, jb, hqb⟩, ⟨qi, ji, hqi⟩, ⟨qo, jo, hqo⟩⟩ := mres_shpN r6; subst hqf hqb hqi hqo; have R6 := hideP r6; clear r6; have g0 := (b6.cell (p := ⟨w2.heap.size, 0, none⟩) l3).trans a0; have g1 := (b6.cell (p := ⟨w2.heap.size, 1, none⟩) l3).trans a1; have g2 := (b6.cell (p := ⟨w2.heap.size, 2, none⟩) l3).trans a2; have g3 := (b6.cell (p := ⟨w2.heap.size, 3, none⟩) l3).trans a3; have g4 := (b6.cell (p := ⟨w2.heap.size, 4, none⟩) l3).trans a4; have g5 := (b6.cell (p := ⟨w2.heap.size, 5, none⟩) l3).trans a5)
          | (go_at_call 29; (with_reducible refine (run_5 (w := w5) ⟨f5, k5, A3.out.below b5⟩ HCF.out).mono ?_); rintro e w6 ⟨nf, nb, ni, no, rfl, r6, b6'⟩; have b6 : Below wc.heap.size wc w6 := bthen0 b5 b6'; have nz : ¬ w2.heap.size = w6.heap.size := (by have := b6.size; omega); have R6b : Hid (MRes w6 wc.heap.size _ _ _ _ _) := hideP (r6.low b5.size); obtain ⟨⟨qf, jf, hqf⟩, ⟨qb, jb, hqb⟩, ⟨qi, ji, hqi⟩, ⟨qo, jo, hqo⟩⟩ := mres_shpN r6; subst hqf hqb hqi hqo; have R6 := hideP r6; clear r6; have g0 := (b6.cell (p := ⟨w2.heap.size, 0, none⟩) l3).trans a0; have g1 := (b6.cell (p := ⟨w2.heap.size, 1, none⟩) l3).trans a1; have g2 := (b6.cell (p := ⟨w2.heap.size, 2, none⟩) l3).trans a2; have g3 := (b6.cell (p := ⟨w2.heap.size, 3, none⟩) l3).trans a3; have g4 := (b6.cell (p := ⟨w2.heap.size, 4, none⟩) l3).trans a4; have g5 := (b6.cell (p := ⟨w2.heap.size, 5, none⟩) l3).trans a5)
          | (go_at_call 29; (with_reducible refine (run_5 (w := w5.alloc _) ⟨f5.below (hd5 _), k5.below f5 (hd5 _), A3.out.below (bthen0 b5 (hd5 _))⟩ HCF.out).mono ?_); rintro e w6 ⟨nf, nb, ni, no, rfl, r6, b6'⟩; have b6 : Below wc.heap.size wc w6 := bthen0 (bthen0 b5 (hd5 _)) b6'; have nz : ¬ w2.heap.size = w5.heap.size := (by have := b5.size; omega); have q6 := (b6'.block w5.heap.size (heap_lt (World.alloc_heap_new w5 _))).trans (World.alloc_heap_new w5 _); have Q6 := hideP q6; have m0 := cell_at' q6 0; have m1 := cell_at' q6 1; have m2 := cell_at' q6 2; have m3 := cell_at' q6 3; have m4 := cell_at' q6 4; have m5 := cell_at' q6 5; simp at m0 m1 m2 m3 m4 m5; have mz := Lib.frozen_of_heap q6; have mz0 := mz 0; have mz1 := mz 1; have mz2 := mz 2; have mz3 := mz 3; have mz4 := mz 4; have mz5 := mz 5; clear mz; clear q6; have R6b : Hid (MRes w6 wc.heap.size _ _ _ _ _) := hideP (r6.low (Nat.le_trans b5.size (hd5 _).size)); obtain ⟨⟨qf, jf, hqf⟩, ⟨qb, jb, hqb⟩, ⟨qi, ji, hqi⟩, ⟨qo, jo, hqo⟩⟩ := mres_shpN r6; subst hqf hqb hqi hqo; have R6 := hideP r6; clear r6; have g0 := (b6.cell (p := ⟨w2.heap.size, 0, none⟩) l3).trans a0; have g1 := (b6.cell (p := ⟨w2.heap.size, 1, none⟩) l3).trans a1; have g2 := (b6.cell (p := ⟨w2.heap.size, 2, none⟩) l3).trans a2; have g3 := (b6.cell (p := ⟨w2.heap.size, 3, none⟩) l3).trans a3; have g4 := (b6.cell (p := ⟨w2.heap.size, 4, none⟩) l3).trans a4; have g5 := (b6.cell (p := ⟨w2.heap.size, 5, none⟩) l3).trans a5))
      all_goals
        go_wp2_with fail
        go_meet
      · have hF := begin_fin0 R6b.out (by decide) b6
        exact ⟨_, _, _, _, _, rfl, rfl, rfl, hF⟩
      · have hF := begin_fin R6b.out (by decide) b6 Q6.out b5.size
        exact ⟨_, _, _, _, _, rfl, rfl, rfl, hF⟩
      · have hF := begin_fin R6b.out (by decide) b6 Q6.out (Nat.le_refl _)
        exact ⟨_, _, _, _, _, rfl, rfl, rfl, hF⟩
    case rest =>
      obtain ⟨z5, ef, eb, ei, eo, rfl, rfl, rfl, hz5, hA5, hb5⟩ := hcut
      have hz := (hb5.block z lz).trans HZ.out
      have hA := HA.out.below hb5
      have B5 := hideP (bthen0 B4.out hb5)
      have lz' := heap_lt hz
      have lz5 := heap_lt hz5
      obtain ⟨pe, ce, hpe, -, -, hfe⟩ := hA5.fr
      obtain ⟨ge, oe, le, se, rfl, hge, -, g1, -⟩ := hfe 0 _ rfl
      subst hpe
      simp at g1
      have x3 := cell_at' hz 3
      have x4 := cell_at' hz 4
      have y0 := cell_at' hz5 0
      have y4 := cell_at' hz5 4
      simp at x3 x4 y0 y4
      have HO := hideP hA.out
      have HCO : Hid (Calls Tryz.prog 30 #[.agg #[.int .i64 14, .int .i64 0]] wc fun e w' => e = .returned (.tuple #[.int .i64 3, .int .i64 0]) ∧ Below wc.heap.size wc w') := by
        have := mCost_any 14 0 wc
        rw [show chk 14 0 = 0 by decide, if_pos rfl, show costM 14 = 3 by decide] at this
        exact this
      have KX : Hid (∀ W, Below wc.heap.size wc W → W.cell? ⟨z, 3, none⟩ = some co ∧ W.cell? ⟨z, 4, none⟩ = some (.int .i64 doneM.status) ∧ W.cell? ⟨z5, 0, none⟩ = some (.slice (some ⟨ge, oe, none⟩) fiveM.frames.length ce) ∧ W.cell? ⟨z5, 4, none⟩ = some (.int .i64 fiveM.status) ∧ W.cell? ⟨ge, oe + 1, none⟩ = some (.int .i64 5)) := fun W hW => ⟨(hW.cell (p := ⟨z, 3, none⟩) lz').trans x3, (hW.cell (p := ⟨z, 4, none⟩) lz').trans x4, (hW.cell (p := ⟨z5, 0, none⟩) lz5).trans y0, (hW.cell (p := ⟨z5, 4, none⟩) lz5).trans y4, (hW.cell (p := ⟨ge, oe + 1, none⟩) hge).trans g1⟩
      clear hz hA hz5 hA5 hfe g1 x3 x4 y0 y4 HZ HA hb5 A3 a0 a1 a2 a3 a4 a5
      go_wp2_with fail
      refine HCO.out.mono ?_
      rintro e w7 ⟨rfl, b7⟩
      obtain ⟨x3, x4, y0, y4, g1⟩ := KX.out w7 b7
      have e1 : doneM.status = 2 := rfl
      have e2 : fiveM.status = 0 := rfl
      have e3 : fiveM.frames.length = 1 := rfl
      rw [e1] at x4
      rw [e2] at y4
      rw [e3] at y0
      clear e1 e2 e3
      have q9 := World.alloc_heap_new w7 (.cells #[.int .i64 3, .int .i64 2, .int .i64 1] 3)
      have a9 := (Below.refl w7.heap.size w7).alloc (Nat.le_refl _) (.cells #[.int .i64 3, .int .i64 2, .int .i64 1] 3)
      have HSI := hideP (sameInts_any [3, 2, 1] [3, 2, 1] co _ (w7.alloc (.cells #[.int .i64 3, .int .i64 2, .int .i64 1] 3)) ((HO.out.at_.below b7).below a9) (ints_lit 3 3 q9 rfl (by unfold maxLen; decide)))
      have HQ9 := hideP a9
      clear q9 a9
      go_wp2_with fail
      refine HSI.out.mono ?_
      rintro e w8 ⟨rfl, b8⟩
      have b78 := bthen0 b7 (bthen0 HQ9.out b8)
      obtain ⟨x3', x4', y0', y4', g1'⟩ := KX.out w8 b78
      have e2 : fiveM.status = 0 := rfl
      have e3 : fiveM.frames.length = 1 := rfl
      rw [e2] at y4'
      rw [e3] at y0'
      clear e2 e3 x3 x4 y0 y4 g1
      go_wp2
      go_ret
      exact ⟨by simp, bthen0 B5.out b78⟩
end Go.Proofs.YtcadpoknolefpaaGreat


/- the reference's SameMachine, OpOf. -/
namespace Go.Proofs.YtcadpoknolefpaaGreat
open Go.RowKit
set_option linter.unusedSimpArgs false
set_option linter.unusedVariables false
theorem neq_val (c : Bool) (a : Int) (c' : Bool) (a' : Int) (w : World) : (binOp .neq 50 (.agg #[.bool c, .int .i64 a]) (.agg #[.bool c', .int .i64 a'])).run Tryz.prog w = .ok (.bool (!(c == c' && a == a'))) w := by
  have u3 := Tryz.underlying3
  have a3 := Tryz.isAgg3
  have z3 := Tryz.sizeOf3
  have u4 := Tryz.underlying4
  have a4 := Tryz.isAgg4
  have z4 := Tryz.sizeOf4
  have hS : Tryz.prog.underlying 50 = some (.struct (Tryz.prog.fieldsOf 50)) := by kernel_rfl
  have hp : Tryz.prog.stoodInHeld 50 = false := by kernel_rfl
  rw [run_neq_struct, show (10000 : Nat) = 9999 + 1 from rfl, run_equalIn_agg w 9999 50 _ _ hS hp]
  simp only [Program.fieldsOf, Tryz.underlying50]
  go_simp
  by_cases h1 : c = c' <;> by_cases h2 : a = a' <;> simp [h1, h2]
theorem guard_val : Tryz.prog.eqGuardType Tryz.prog.depth 50 = false := by kernel_rfl
set_option maxHeartbeats 1000000 in
theorem sameVals_any (l m : List Val) (v u : Value) (w : World) (hl : ValsAt w v l) (hm : ValsAt w u m) : Calls Tryz.prog 65 #[v, u] w fun e w' => e = .returned (.bool (decide (l = m))) ∧ Below w.heap.size w w' := by
  obtain ⟨p, cap, rfl, hlm, hc⟩ := hl
  obtain ⟨q, cap', rfl, hmm, hd⟩ := hm
  unfold maxLen at hlm hmm
  by_cases hlen : l.length = m.length
  · have hlen' : ((l.length : Int) != (m.length : Int)) = false := by simp; omega
    have HLEN : Hid (l.length = m.length) := hlen
    have HC : Hid (∀ k o, l[k]? = some o → ∃ b off, p = some ⟨b, off, none⟩ ∧ b < w.heap.size ∧ w.cell? ⟨b, off + k * 2, none⟩ = some (.bool o.1) ∧ w.cell? ⟨b, off + k * 2 + 1, none⟩ = some (.int .i64 o.2)) := hc
    have HD : Hid (∀ k o, m[k]? = some o → ∃ b off, q = some ⟨b, off, none⟩ ∧ b < w.heap.size ∧ w.cell? ⟨b, off + k * 2, none⟩ = some (.bool o.1) ∧ w.cell? ⟨b, off + k * 2 + 1, none⟩ = some (.int .i64 o.2)) := hd
    clear hc hd hlen
    go_enter Tryz.func65, Tryz.ntmps65
    go_wp2
    go_loopw [5] (fun i wr => ∃ k : Nat, k ≤ l.length ∧ i = .int .i64 k ∧ l.take k = m.take k ∧ Below w.heap.size w wr) (fun i _ => l.length - (intOf i).toNat)
    case atStart => exact ⟨0, Nat.zero_le _, rfl, by simp, Below.refl _ _⟩
    case round =>
      obtain ⟨k, hk, rfl, htk, hbw⟩ := hrel
      have HT : Hid (l.take k = m.take k) := htk
      clear htk
      by_cases hlt : k < l.length
      · have hlt2 : k < m.length := by have := HLEN.out; omega
        obtain ⟨⟨c, a⟩, ho⟩ : ∃ o, l[k]? = some o := ⟨l[k], List.getElem?_eq_some_iff.2 ⟨hlt, rfl⟩⟩
        obtain ⟨⟨c', a'⟩, ho'⟩ : ∃ o, m[k]? = some o := ⟨m[k], List.getElem?_eq_some_iff.2 ⟨hlt2, rfl⟩⟩
        obtain ⟨b, off, rfl, hb, h0, h1⟩ := HC.out k _ ho
        obtain ⟨b', off', rfl, hb', h0', h1'⟩ := HD.out k _ ho'
        have g0 := (hbw.cell (p := ⟨b, off + k * 2, none⟩) hb).trans h0
        have g1 := (hbw.cell (p := ⟨b, off + k * 2 + 1, none⟩) hb).trans h1
        have g0' := (hbw.cell (p := ⟨b', off' + k * 2, none⟩) hb').trans h0'
        have g1' := (hbw.cell (p := ⟨b', off' + k * 2 + 1, none⟩) hb').trans h1'
        have hlti : (k : Int) < (l.length : Int) := by omega
        have hlti2 : (k : Int) < (m.length : Int) := by omega
        have hg := guard_val
        have HO : Hid (l[k]? = some (c, a)) := ho
        have HO' : Hid (m[k]? = some (c', a')) := ho'
        clear ho ho' h0 h1 h0' h1'
        by_cases he : c = c' ∧ a = a'
        · have hneq : ∀ w, (binOp .neq 50 (.agg #[.bool c, .int .i64 a]) (.agg #[.bool c', .int .i64 a'])).run Tryz.prog w = .ok (.bool false) w := fun w => by rw [neq_val]; simp [he]
          have HE : Hid (c = c' ∧ a = a') := he
          clear he
          go_wp2
          go_quiet (fail)
          go_wp2
          go_roundw
          case rel => exact ⟨k + 1, by omega, by go_num, by rw [take_snoc l k _ HO.out, take_snoc m k _ HO'.out, HT.out, HE.out.1, HE.out.2], below_drewN hbw _⟩
          case measure => simp [intOf]; omega
        · have hneq : ∀ w, (binOp .neq 50 (.agg #[.bool c, .int .i64 a]) (.agg #[.bool c', .int .i64 a'])).run Tryz.prog w = .ok (.bool true) w := fun w => by rw [neq_val]; by_cases h1 : c = c' <;> by_cases h2 : a = a' <;> simp [h1, h2] <;> exact he ⟨h1, h2⟩
          have HE : Hid (¬ (c = c' ∧ a = a')) := he
          clear he
          go_wp2
          go_quiet (fail)
          go_wp2
          go_ret
          refine ⟨?_, below_drewN hbw _⟩
          have : ¬ l = m := fun h => by
            have h1 := HO.out
            rw [h, HO'.out] at h1
            simp at h1
            exact HE.out ⟨h1.1.symm, h1.2.symm⟩
          simp [this]
      · have hlt' : ¬ (k : Int) < (l.length : Int) := by omega
        go_wp2
        go_ret
        refine ⟨?_, hbw⟩
        have : l = m := by
          have h := HT.out
          rwa [List.take_of_length_le (by omega), List.take_of_length_le (by have := HLEN.out; omega)] at h
        simp [this]
  · have hlen' : ((l.length : Int) != (m.length : Int)) = true := by simp; omega
    have hne : ¬ l = m := fun h => hlen (by rw [h])
    clear hc hd
    have HN : Hid (¬ l = m) := hne
    clear hne hlen
    go_enter Tryz.func65, Tryz.ntmps65
    go_wp2
    go_ret
    exact ⟨by simp [HN.out], Below.refl _ _⟩
theorem frm_ext {x y : Frm} (h1 : x.fn = y.fn) (h2 : x.pc = y.pc) (h3 : x.loc = y.loc) (h4 : x.stk = y.stk) : x = y := by
  cases x; cases y; simp_all
theorem mach_ext {x y : Mach} (h1 : x.frames = y.frames) (h2 : x.blocks = y.blocks) (h3 : x.inp = y.inp) (h4 : x.out = y.out) (h5 : x.status = y.status) (h6 : x.trap = y.trap) : x = y := by
  cases x; cases y; simp_all
def SameIs {α : Type} (a b : α) (w : World) (e : Ending) (w' : World) : Prop := ∃ r, e = .returned (.bool r) ∧ (r = true ↔ a = b) ∧ Below w.heap.size w w'
theorem same_no {α : Type} {a b : α} {w w' : World} (h : ¬ a = b) (hb : Below w.heap.size w w') : SameIs a b w (.returned (.bool false)) w' := ⟨false, rfl, by simp [h], hb⟩
theorem same_yes {α : Type} {a b : α} {w w' : World} (h : a = b) (hb : Below w.heap.size w w') : SameIs a b w (.returned (.bool true)) w' := ⟨true, rfl, by simp [h], hb⟩
set_option maxRecDepth 100000 in
set_option maxHeartbeats 8000000 in
theorem sameMachine_any (A B : Mach) (fv bv iv ov fv' bv' iv' ov' : Value) (w : World) (hA : MachAt w fv bv iv ov A) (hB : MachAt w fv' bv' iv' ov' B) : Calls Tryz.prog 24 #[.agg #[fv, bv, iv, ov, .int .i64 A.status, .int .i64 A.trap], .agg #[fv', bv', iv', ov', .int .i64 B.status, .int .i64 B.trap]] w (SameIs A B w) := by
  obtain ⟨pf, cf, hfv, hfm, -, hfc⟩ := id hA.fr
  obtain ⟨pb, cb, hbv, -, -⟩ := id hA.bl
  obtain ⟨pi, ci, hiv, -⟩ := hA.inp.shp
  obtain ⟨po, co, hov, -⟩ := hA.out.shp
  obtain ⟨pf', cf', hfv', hfm', -, hfc'⟩ := id hB.fr
  obtain ⟨pb', cb', hbv', -, -⟩ := id hB.bl
  obtain ⟨pi', ci', hiv', -⟩ := hB.inp.shp
  obtain ⟨po', co', hov', -⟩ := hB.out.shp
  subst hfv hbv hiv hov hfv' hbv' hiv' hov'
  unfold maxLen at hfm hfm'
  obtain ⟨W2, hW2⟩ : ∃ W2, (w.alloc (.cells #[.slice pf A.frames.length cf, .slice pb A.blocks.length cb, .slice pi A.inp.length ci, .slice po A.out.length co, .int .i64 A.status, .int .i64 A.trap] 29)).alloc (.cells #[.slice pf' B.frames.length cf', .slice pb' B.blocks.length cb', .slice pi' B.inp.length ci', .slice po' B.out.length co', .int .i64 B.status, .int .i64 B.trap] 29) = W2 := ⟨_, rfl⟩
  have hb2 : Below w.heap.size w W2 := by rw [← hW2]; exact ((Below.refl _ w).alloc (Nat.le_refl _) _).alloc (by simp) _
  have x1 : W2.heap[w.heap.size]? = some (.cells #[.slice pf A.frames.length cf, .slice pb A.blocks.length cb, .slice pi A.inp.length ci, .slice po A.out.length co, .int .i64 A.status, .int .i64 A.trap] 29 (0, 0)) := by rw [← hW2]; exact heap_old (World.alloc_heap_new w _) _
  have x2 : W2.heap[w.heap.size + 1]? = some (.cells #[.slice pf' B.frames.length cf', .slice pb' B.blocks.length cb', .slice pi' B.inp.length ci', .slice po' B.out.length co', .int .i64 B.status, .int .i64 B.trap] 29 (0, 0)) := by rw [← hW2]; exact new_two w _ _
  have l1 := heap_lt x1
  have l2 := heap_lt x2
  have a0 := cell_at' x1 0
  have a1 := cell_at' x1 1
  have a2 := cell_at' x1 2
  have a3 := cell_at' x1 3
  have a4 := cell_at' x1 4
  have a5 := cell_at' x1 5
  have b0 := cell_at' x2 0
  have b1 := cell_at' x2 1
  have b3 := cell_at' x2 3
  have b4 := cell_at' x2 4
  have b5 := cell_at' x2 5
  simp at a0 a1 a2 a3 a4 a5
  have bb2 := cell_at' x2 2
  simp at b0 b1 bb2 b3 b4 b5
  have HSB : Hid (∀ W, Below W2.heap.size W2 W → Calls Tryz.prog 64 #[.slice pb A.blocks.length cb, .slice pb' B.blocks.length cb'] W fun e w' => e = .returned (.bool (decide (A.blocks = B.blocks))) ∧ Below W.heap.size W w') := fun W hW => sameBlocks_any _ _ _ _ W ((hA.bl.below hb2).below hW) ((hB.bl.below hb2).below hW)
  have HSI : Hid (∀ W, Below W2.heap.size W2 W → Calls Tryz.prog 26 #[.slice pi A.inp.length ci, .slice pi' B.inp.length ci'] W fun e w' => e = .returned (.bool (decide (A.inp = B.inp))) ∧ Below W.heap.size W w') := fun W hW => sameInts_any _ _ _ _ W ((hA.inp.at_.below hb2).below hW) ((hB.inp.at_.below hb2).below hW)
  have HSO : Hid (∀ W, Below W2.heap.size W2 W → Calls Tryz.prog 26 #[.slice po A.out.length co, .slice po' B.out.length co'] W fun e w' => e = .returned (.bool (decide (A.out = B.out))) ∧ Below W.heap.size W w') := fun W hW => sameInts_any _ _ _ _ W ((hA.out.at_.below hb2).below hW) ((hB.out.at_.below hb2).below hW)
  have HX1 := hideP x1
  have HX2 := hideP x2
  have HFC := hideP hfc
  have HFC' := hideP hfc'
  clear hA hB x1 x2 hfc hfc'
  by_cases hst : A.status = B.status
  rotate_left
  · have hst' := neq_int_true hst
    have HN := hideP hst
    clear hst
    go_enter Tryz.func24, Tryz.ntmps24
    go_wp2
    go_ret
    exact same_no (fun h => HN.out (by rw [h])) (hb2)
  have hst' := neq_int_false hst
  have HST := hideP hst
  clear hst
  by_cases htr : A.trap = B.trap
  rotate_left
  · have htr' := neq_int_true htr
    have HN := hideP htr
    clear htr
    go_enter Tryz.func24, Tryz.ntmps24
    go_wp2
    go_ret
    exact same_no (fun h => HN.out (by rw [h])) (hb2)
  have htr' := neq_int_false htr
  have HTR := hideP htr
  clear htr
  by_cases hbl : A.blocks = B.blocks
  rotate_left
  · have HN := hideP hbl
    clear hbl
    go_enter Tryz.func24, Tryz.ntmps24
    go_wp2_with fail
    refine (HSB.out W2 (Below.refl _ _)).mono ?_
    rintro e w3 ⟨rfl, hb3⟩
    rw [decide_eq_false HN.out]
    have c2 := (hb3.cell (p := ⟨w.heap.size, 2, none⟩) l1).trans a2
    have d2 := (hb3.cell (p := ⟨w.heap.size + 1, 2, none⟩) l2).trans bb2
    have c3 := (hb3.cell (p := ⟨w.heap.size, 3, none⟩) l1).trans a3
    have d3 := (hb3.cell (p := ⟨w.heap.size + 1, 3, none⟩) l2).trans b3
    have c0 := (hb3.cell (p := ⟨w.heap.size, 0, none⟩) l1).trans a0
    have d0 := (hb3.cell (p := ⟨w.heap.size + 1, 0, none⟩) l2).trans b0
    go_wp2
    go_ret
    exact same_no (fun h => HN.out (by rw [h])) (bthen0 hb2 hb3)
  have HBL := hideP hbl
  clear hbl
  by_cases hin : A.inp = B.inp
  rotate_left
  · have HN := hideP hin
    clear hin
    go_enter Tryz.func24, Tryz.ntmps24
    go_wp2_with fail
    refine (HSB.out W2 (Below.refl _ _)).mono ?_
    rintro e w3 ⟨rfl, hb3⟩
    rw [decide_eq_true HBL.out]
    have c2 := (hb3.cell (p := ⟨w.heap.size, 2, none⟩) l1).trans a2
    have d2 := (hb3.cell (p := ⟨w.heap.size + 1, 2, none⟩) l2).trans bb2
    have c3 := (hb3.cell (p := ⟨w.heap.size, 3, none⟩) l1).trans a3
    have d3 := (hb3.cell (p := ⟨w.heap.size + 1, 3, none⟩) l2).trans b3
    have c0 := (hb3.cell (p := ⟨w.heap.size, 0, none⟩) l1).trans a0
    have d0 := (hb3.cell (p := ⟨w.heap.size + 1, 0, none⟩) l2).trans b0
    go_wp2_with fail
    refine (HSI.out w3 hb3).mono ?_
    rintro e w4 ⟨rfl, hb4'⟩
    rw [decide_eq_false HN.out]
    have hb4 := hb3.trans (hb4'.mono hb3.size)
    clear hb4'
    have f3 := (hb4.cell (p := ⟨w.heap.size, 3, none⟩) l1).trans a3
    have g3 := (hb4.cell (p := ⟨w.heap.size + 1, 3, none⟩) l2).trans b3
    have f0 := (hb4.cell (p := ⟨w.heap.size, 0, none⟩) l1).trans a0
    have g0 := (hb4.cell (p := ⟨w.heap.size + 1, 0, none⟩) l2).trans b0
    go_wp2
    go_ret
    exact same_no (fun h => HN.out (by rw [h])) (bthen0 hb2 hb4)
  have HIN := hideP hin
  clear hin
  by_cases hou : A.out = B.out
  rotate_left
  · have HN := hideP hou
    clear hou
    go_enter Tryz.func24, Tryz.ntmps24
    go_wp2_with fail
    refine (HSB.out W2 (Below.refl _ _)).mono ?_
    rintro e w3 ⟨rfl, hb3⟩
    rw [decide_eq_true HBL.out]
    have c2 := (hb3.cell (p := ⟨w.heap.size, 2, none⟩) l1).trans a2
    have d2 := (hb3.cell (p := ⟨w.heap.size + 1, 2, none⟩) l2).trans bb2
    have c3 := (hb3.cell (p := ⟨w.heap.size, 3, none⟩) l1).trans a3
    have d3 := (hb3.cell (p := ⟨w.heap.size + 1, 3, none⟩) l2).trans b3
    have c0 := (hb3.cell (p := ⟨w.heap.size, 0, none⟩) l1).trans a0
    have d0 := (hb3.cell (p := ⟨w.heap.size + 1, 0, none⟩) l2).trans b0
    go_wp2_with fail
    refine (HSI.out w3 hb3).mono ?_
    rintro e w4 ⟨rfl, hb4'⟩
    rw [decide_eq_true HIN.out]
    have hb4 := hb3.trans (hb4'.mono hb3.size)
    clear hb4'
    have f3 := (hb4.cell (p := ⟨w.heap.size, 3, none⟩) l1).trans a3
    have g3 := (hb4.cell (p := ⟨w.heap.size + 1, 3, none⟩) l2).trans b3
    have f0 := (hb4.cell (p := ⟨w.heap.size, 0, none⟩) l1).trans a0
    have g0 := (hb4.cell (p := ⟨w.heap.size + 1, 0, none⟩) l2).trans b0
    go_wp2_with fail
    refine (HSO.out w4 hb4).mono ?_
    rintro e w5 ⟨rfl, hb5'⟩
    rw [decide_eq_false HN.out]
    have hb5 := hb4.trans (hb5'.mono hb4.size)
    clear hb5'
    have m0 := (hb5.cell (p := ⟨w.heap.size, 0, none⟩) l1).trans a0
    have n0 := (hb5.cell (p := ⟨w.heap.size + 1, 0, none⟩) l2).trans b0
    go_wp2
    go_ret
    exact same_no (fun h => HN.out (by rw [h])) (bthen0 hb2 hb5)
  have HOU := hideP hou
  clear hou
  by_cases hfl : A.frames.length = B.frames.length
  rotate_left
  · have hfl' : ((A.frames.length : Int) != (B.frames.length : Int)) = true := by simp; omega
    have HN := hideP hfl
    clear hfl
    go_enter Tryz.func24, Tryz.ntmps24
    go_wp2_with fail
    refine (HSB.out W2 (Below.refl _ _)).mono ?_
    rintro e w3 ⟨rfl, hb3⟩
    rw [decide_eq_true HBL.out]
    have c2 := (hb3.cell (p := ⟨w.heap.size, 2, none⟩) l1).trans a2
    have d2 := (hb3.cell (p := ⟨w.heap.size + 1, 2, none⟩) l2).trans bb2
    have c3 := (hb3.cell (p := ⟨w.heap.size, 3, none⟩) l1).trans a3
    have d3 := (hb3.cell (p := ⟨w.heap.size + 1, 3, none⟩) l2).trans b3
    have c0 := (hb3.cell (p := ⟨w.heap.size, 0, none⟩) l1).trans a0
    have d0 := (hb3.cell (p := ⟨w.heap.size + 1, 0, none⟩) l2).trans b0
    go_wp2_with fail
    refine (HSI.out w3 hb3).mono ?_
    rintro e w4 ⟨rfl, hb4'⟩
    rw [decide_eq_true HIN.out]
    have hb4 := hb3.trans (hb4'.mono hb3.size)
    clear hb4'
    have f3 := (hb4.cell (p := ⟨w.heap.size, 3, none⟩) l1).trans a3
    have g3 := (hb4.cell (p := ⟨w.heap.size + 1, 3, none⟩) l2).trans b3
    have f0 := (hb4.cell (p := ⟨w.heap.size, 0, none⟩) l1).trans a0
    have g0 := (hb4.cell (p := ⟨w.heap.size + 1, 0, none⟩) l2).trans b0
    go_wp2_with fail
    refine (HSO.out w4 hb4).mono ?_
    rintro e w5 ⟨rfl, hb5'⟩
    rw [decide_eq_true HOU.out]
    have hb5 := hb4.trans (hb5'.mono hb4.size)
    clear hb5'
    have m0 := (hb5.cell (p := ⟨w.heap.size, 0, none⟩) l1).trans a0
    have n0 := (hb5.cell (p := ⟨w.heap.size + 1, 0, none⟩) l2).trans b0
    go_wp2
    go_ret
    exact same_no (fun h => HN.out (by rw [h])) (bthen0 hb2 hb5)
  have hfl' : ((A.frames.length : Int) != (B.frames.length : Int)) = false := by simp; omega
  have HFL := hideP hfl
  clear hfl
  go_enter Tryz.func24, Tryz.ntmps24
  go_wp2_with fail
  refine (HSB.out W2 (Below.refl _ _)).mono ?_
  rintro e w3 ⟨rfl, hb3⟩
  rw [decide_eq_true HBL.out]
  have c2 := (hb3.cell (p := ⟨w.heap.size, 2, none⟩) l1).trans a2
  have d2 := (hb3.cell (p := ⟨w.heap.size + 1, 2, none⟩) l2).trans bb2
  have c3 := (hb3.cell (p := ⟨w.heap.size, 3, none⟩) l1).trans a3
  have d3 := (hb3.cell (p := ⟨w.heap.size + 1, 3, none⟩) l2).trans b3
  have c0 := (hb3.cell (p := ⟨w.heap.size, 0, none⟩) l1).trans a0
  have d0 := (hb3.cell (p := ⟨w.heap.size + 1, 0, none⟩) l2).trans b0
  go_wp2_with fail
  refine (HSI.out w3 hb3).mono ?_
  rintro e w4 ⟨rfl, hb4'⟩
  rw [decide_eq_true HIN.out]
  have hb4 := hb3.trans (hb4'.mono hb3.size)
  clear hb4'
  have f3 := (hb4.cell (p := ⟨w.heap.size, 3, none⟩) l1).trans a3
  have g3 := (hb4.cell (p := ⟨w.heap.size + 1, 3, none⟩) l2).trans b3
  have f0 := (hb4.cell (p := ⟨w.heap.size, 0, none⟩) l1).trans a0
  have g0 := (hb4.cell (p := ⟨w.heap.size + 1, 0, none⟩) l2).trans b0
  go_wp2_with fail
  refine (HSO.out w4 hb4).mono ?_
  rintro e w5 ⟨rfl, hb5'⟩
  rw [decide_eq_true HOU.out]
  have hb5 := hb4.trans (hb5'.mono hb4.size)
  clear hb5'
  have m0 := (hb5.cell (p := ⟨w.heap.size, 0, none⟩) l1).trans a0
  have n0 := (hb5.cell (p := ⟨w.heap.size + 1, 0, none⟩) l2).trans b0
  go_wp2
  go_loopw [5] (fun i wr => ∃ k : Nat, k ≤ A.frames.length ∧ i = .int .i64 k ∧ A.frames.take k = B.frames.take k ∧ Below W2.heap.size W2 wr) (fun i _ => A.frames.length - (intOf i).toNat)
  case atStart => exact ⟨0, Nat.zero_le _, rfl, by simp, hb5⟩
  case round =>
    obtain ⟨k, hk, rfl, htk, hbw2⟩ := hrel
    have HT := hideP htk
    clear htk
    have hbw := hb2.trans (hbw2.mono hb2.size)
    have r0 := (hbw2.cell (p := ⟨w.heap.size, 0, none⟩) l1).trans a0
    have s0 := (hbw2.cell (p := ⟨w.heap.size + 1, 0, none⟩) l2).trans b0
    have hszr := hbw2.size
    by_cases hlt : k < A.frames.length
    · have hlt2 : k < B.frames.length := by have := HFL.out; omega
      obtain ⟨x, ho⟩ := at_of_lt hlt
      obtain ⟨y, ho'⟩ := at_of_lt hlt2
      obtain ⟨b, off, lv, sv, rfl, hb, x0, x1, x2, x3, hL, -, hS, -⟩ := HFC.out k _ ho
      obtain ⟨b', off', lv', sv', rfl, hb', x0', x1', x2', x3', hL', -, hS', -⟩ := HFC'.out k _ ho'
      have g0 := (hbw.cell (p := ⟨b, off + k * 4, none⟩) hb).trans x0
      have g1 := (hbw.cell (p := ⟨b, off + k * 4 + 1, none⟩) hb).trans x1
      have g2 := (hbw.cell (p := ⟨b, off + k * 4 + 2, none⟩) hb).trans x2
      have g3 := (hbw.cell (p := ⟨b, off + k * 4 + 3, none⟩) hb).trans x3
      have g0' := (hbw.cell (p := ⟨b', off' + k * 4, none⟩) hb').trans x0'
      have g1' := (hbw.cell (p := ⟨b', off' + k * 4 + 1, none⟩) hb').trans x1'
      have g2' := (hbw.cell (p := ⟨b', off' + k * 4 + 2, none⟩) hb').trans x2'
      have g3' := (hbw.cell (p := ⟨b', off' + k * 4 + 3, none⟩) hb').trans x3'
      have hLr := hL.below hbw
      have hLr' := hL'.below hbw
      have hSr := hS.below hbw
      have hSr' := hS'.below hbw
      have HO := hideP ho
      have HO' := hideP ho'
      clear ho ho' x0 x1 x2 x3 x0' x1' x2' x3'
      obtain ⟨p1, q1, rfl, -, -⟩ := hL
      obtain ⟨p2, q2, rfl, -, -⟩ := hS
      obtain ⟨p1', q1', rfl, -, -⟩ := hL'
      obtain ⟨p2', q2', rfl, -, -⟩ := hS'
      have hlti : (k : Int) < (A.frames.length : Int) := by omega
      have hlti2 : (k : Int) < (B.frames.length : Int) := by omega
      have y0 := fun o => cell_old g0 o
      have yy0 := fun o o' => cell_old (cell_old g0 o) o'
      have y1 := fun o => cell_old g1 o
      have yy1 := fun o o' => cell_old (cell_old g1 o) o'
      have y2 := fun o => cell_old g2 o
      have yy2 := fun o o' => cell_old (cell_old g2 o) o'
      have y3 := fun o => cell_old g3 o
      have yy3 := fun o o' => cell_old (cell_old g3 o) o'
      have y4 := fun o => cell_old g0' o
      have yy4 := fun o o' => cell_old (cell_old g0' o) o'
      have y5 := fun o => cell_old g1' o
      have yy5 := fun o o' => cell_old (cell_old g1' o) o'
      have y6 := fun o => cell_old g2' o
      have yy6 := fun o o' => cell_old (cell_old g2' o) o'
      have y7 := fun o => cell_old g3' o
      have yy7 := fun o o' => cell_old (cell_old g3' o) o'
      have y8 := fun o => cell_old r0 o
      have yy8 := fun o o' => cell_old (cell_old r0 o) o'
      have y9 := fun o => cell_old s0 o
      have yy9 := fun o o' => cell_old (cell_old s0 o) o'
      have hn0 : ¬ b = wr.heap.size := by omega
      have hn1 : ¬ b' = wr.heap.size := by omega
      have hn2 : ¬ b = wr.heap.size + 1 := by omega
      have hn3 : ¬ b' = wr.heap.size + 1 := by omega
      have hn4 : ¬ w.heap.size = wr.heap.size := by omega
      have hn5 : ¬ w.heap.size = wr.heap.size + 1 := by omega
      have hn6 : ¬ w.heap.size + 1 = wr.heap.size := by omega
      obtain ⟨WA, hWA⟩ : ∃ W, ((wr.alloc (.cells #[.int .i64 x.fn, .int .i64 x.pc, .slice p1 x.loc.length q1, .slice p2 x.stk.length q2] 48)).alloc (.cells #[.int .i64 y.fn, .int .i64 y.pc, .slice p1' y.loc.length q1', .slice p2' y.stk.length q2'] 48)).drew = W := ⟨_, rfl⟩
      have hbA : Below wr.heap.size wr WA := by rw [← hWA]; exact (((Below.refl _ wr).alloc (Nat.le_refl _) _).alloc (by simp) _).drew
      have h1A : WA.heap[wr.heap.size]? = some (.cells #[.int .i64 x.fn, .int .i64 x.pc, .slice p1 x.loc.length q1, .slice p2 x.stk.length q2] 48 (0, 0)) := by rw [← hWA]; exact heap_old (World.alloc_heap_new wr _) _
      have h2A : WA.heap[wr.heap.size + 1]? = some (.cells #[.int .i64 y.fn, .int .i64 y.pc, .slice p1' y.loc.length q1', .slice p2' y.stk.length q2'] 48 (0, 0)) := by rw [← hWA]; exact new_two wr _ _
      have l1A := heap_lt h1A
      have l2A := heap_lt h2A
      have e0A := cell_at' h1A 0
      have f0A := cell_at' h2A 0
      have e1A := cell_at' h1A 1
      have f1A := cell_at' h2A 1
      have e2A := cell_at' h1A 2
      have f2A := cell_at' h2A 2
      have e3A := cell_at' h1A 3
      have f3A := cell_at' h2A 3
      simp at e0A f0A e1A f1A e2A f2A e3A f3A
      clear h1A h2A
      obtain ⟨WB, hWB⟩ : ∃ W, ((wr.alloc (.cells #[.int .i64 y.fn, .int .i64 y.pc, .slice p1' y.loc.length q1', .slice p2' y.stk.length q2'] 48)).alloc (.cells #[.int .i64 x.fn, .int .i64 x.pc, .slice p1 x.loc.length q1, .slice p2 x.stk.length q2] 48)).drew = W := ⟨_, rfl⟩
      have hbB : Below wr.heap.size wr WB := by rw [← hWB]; exact (((Below.refl _ wr).alloc (Nat.le_refl _) _).alloc (by simp) _).drew
      have h1B : WB.heap[wr.heap.size]? = some (.cells #[.int .i64 y.fn, .int .i64 y.pc, .slice p1' y.loc.length q1', .slice p2' y.stk.length q2'] 48 (0, 0)) := by rw [← hWB]; exact heap_old (World.alloc_heap_new wr _) _
      have h2B : WB.heap[wr.heap.size + 1]? = some (.cells #[.int .i64 x.fn, .int .i64 x.pc, .slice p1 x.loc.length q1, .slice p2 x.stk.length q2] 48 (0, 0)) := by rw [← hWB]; exact new_two wr _ _
      have l1B := heap_lt h1B
      have l2B := heap_lt h2B
      have e0B := cell_at' h1B 0
      have f0B := cell_at' h2B 0
      have e1B := cell_at' h1B 1
      have f1B := cell_at' h2B 1
      have e2B := cell_at' h1B 2
      have f2B := cell_at' h2B 2
      have e3B := cell_at' h1B 3
      have f3B := cell_at' h2B 3
      simp at e0B f0B e1B f1B e2B f2B e3B f3B
      clear h1B h2B
      have HLr := hideP hLr
      have HLr' := hideP hLr'
      have HSr := hideP hSr
      have HSr' := hideP hSr'
      clear hLr hLr' hSr hSr'
      go_wp2
      go_region
      · skip
        by_cases h1 : x.fn = y.fn
        rotate_left
        · have h1' := neq_int_true h1
          have HN := hideP h1
          clear h1
          go_wp2
          go_ret
          refine same_no (fun h => HN.out ?_) (hbw.trans ((hbA).mono hbw.size))
          have h1 := HO.out
          rw [h, HO'.out] at h1
          cases h1
          rfl
        have h1' := neq_int_false h1
        have H1 := hideP h1
        clear h1
        by_cases h2 : x.pc = y.pc
        rotate_left
        · have h2' := neq_int_true h2
          have HN := hideP h2
          clear h2
          go_wp2
          go_ret
          refine same_no (fun h => HN.out ?_) (hbw.trans ((hbA).mono hbw.size))
          have h1 := HO.out
          rw [h, HO'.out] at h1
          cases h1
          rfl
        have h2' := neq_int_false h2
        have H2 := hideP h2
        clear h2
        by_cases h3 : x.loc = y.loc
        rotate_left
        · have HN := hideP h3
          clear h3
          go_wp2_with fail
          refine (sameVals_any x.loc y.loc _ _ WA (HLr.out.below hbA) (HLr'.out.below hbA)).mono ?_
          rintro e w6 ⟨rfl, hb6⟩
          rw [decide_eq_false HN.out]
          have k6 := (hb6.cell (p := ⟨wr.heap.size, 3, none⟩) l1A).trans e3A
          have k7 := (hb6.cell (p := ⟨wr.heap.size + 1, 3, none⟩) l2A).trans f3A
          have hb7 := hbA.trans (hb6.mono hbA.size)
          go_wp2
          go_ret
          refine same_no (fun h => HN.out ?_) (hbw.trans ((hb7).mono hbw.size))
          have h1 := HO.out
          rw [h, HO'.out] at h1
          cases h1
          rfl
        have H3 := hideP h3
        clear h3
        by_cases h4 : x.stk = y.stk
        rotate_left
        · have HN := hideP h4
          clear h4
          go_wp2_with fail
          refine (sameVals_any x.loc y.loc _ _ WA (HLr.out.below hbA) (HLr'.out.below hbA)).mono ?_
          rintro e w6 ⟨rfl, hb6⟩
          rw [decide_eq_true H3.out]
          have k6 := (hb6.cell (p := ⟨wr.heap.size, 3, none⟩) l1A).trans e3A
          have k7 := (hb6.cell (p := ⟨wr.heap.size + 1, 3, none⟩) l2A).trans f3A
          have hb7 := hbA.trans (hb6.mono hbA.size)
          go_wp2_with fail
          refine (sameVals_any x.stk y.stk _ _ w6 (HSr.out.below hb7) (HSr'.out.below hb7)).mono ?_
          rintro e w8 ⟨rfl, hb8⟩
          rw [decide_eq_false HN.out]
          have hb9 := hb7.trans (hb8.mono hb7.size)
          go_wp2
          go_ret
          refine same_no (fun h => HN.out ?_) (hbw.trans ((hb9).mono hbw.size))
          have h1 := HO.out
          rw [h, HO'.out] at h1
          cases h1
          rfl
        have H4 := hideP h4
        clear h4
        go_wp2_with fail
        refine (sameVals_any x.loc y.loc _ _ WA (HLr.out.below hbA) (HLr'.out.below hbA)).mono ?_
        rintro e w6 ⟨rfl, hb6⟩
        rw [decide_eq_true H3.out]
        have k6 := (hb6.cell (p := ⟨wr.heap.size, 3, none⟩) l1A).trans e3A
        have k7 := (hb6.cell (p := ⟨wr.heap.size + 1, 3, none⟩) l2A).trans f3A
        have hb7 := hbA.trans (hb6.mono hbA.size)
        go_wp2_with fail
        refine (sameVals_any x.stk y.stk _ _ w6 (HSr.out.below hb7) (HSr'.out.below hb7)).mono ?_
        rintro e w8 ⟨rfl, hb8⟩
        rw [decide_eq_true H4.out]
        have hb9 := hb7.trans (hb8.mono hb7.size)
        go_wp2
        go_roundw
        case rel => exact ⟨k + 1, by omega, by go_num, by rw [take_snoc _ k _ HO.out, take_snoc _ k _ HO'.out, HT.out, frm_ext H1.out H2.out H3.out H4.out], hbw2.trans (hb9.mono hbw2.size)⟩
        case measure => simp [intOf]; omega
      · skip
        by_cases h1 : x.fn = y.fn
        rotate_left
        · have h1' := neq_int_true h1
          have HN := hideP h1
          clear h1
          go_wp2
          go_ret
          refine same_no (fun h => HN.out ?_) (hbw.trans ((hbB).mono hbw.size))
          have h1 := HO.out
          rw [h, HO'.out] at h1
          cases h1
          rfl
        have h1' := neq_int_false h1
        have H1 := hideP h1
        clear h1
        by_cases h2 : x.pc = y.pc
        rotate_left
        · have h2' := neq_int_true h2
          have HN := hideP h2
          clear h2
          go_wp2
          go_ret
          refine same_no (fun h => HN.out ?_) (hbw.trans ((hbB).mono hbw.size))
          have h1 := HO.out
          rw [h, HO'.out] at h1
          cases h1
          rfl
        have h2' := neq_int_false h2
        have H2 := hideP h2
        clear h2
        by_cases h3 : x.loc = y.loc
        rotate_left
        · have HN := hideP h3
          clear h3
          go_wp2_with fail
          refine (sameVals_any x.loc y.loc _ _ WB (HLr.out.below hbB) (HLr'.out.below hbB)).mono ?_
          rintro e w6 ⟨rfl, hb6⟩
          rw [decide_eq_false HN.out]
          have k6 := (hb6.cell (p := ⟨wr.heap.size + 1, 3, none⟩) l2B).trans f3B
          have k7 := (hb6.cell (p := ⟨wr.heap.size, 3, none⟩) l1B).trans e3B
          have hb7 := hbB.trans (hb6.mono hbB.size)
          go_wp2
          go_ret
          refine same_no (fun h => HN.out ?_) (hbw.trans ((hb7).mono hbw.size))
          have h1 := HO.out
          rw [h, HO'.out] at h1
          cases h1
          rfl
        have H3 := hideP h3
        clear h3
        by_cases h4 : x.stk = y.stk
        rotate_left
        · have HN := hideP h4
          clear h4
          go_wp2_with fail
          refine (sameVals_any x.loc y.loc _ _ WB (HLr.out.below hbB) (HLr'.out.below hbB)).mono ?_
          rintro e w6 ⟨rfl, hb6⟩
          rw [decide_eq_true H3.out]
          have k6 := (hb6.cell (p := ⟨wr.heap.size + 1, 3, none⟩) l2B).trans f3B
          have k7 := (hb6.cell (p := ⟨wr.heap.size, 3, none⟩) l1B).trans e3B
          have hb7 := hbB.trans (hb6.mono hbB.size)
          go_wp2_with fail
          refine (sameVals_any x.stk y.stk _ _ w6 (HSr.out.below hb7) (HSr'.out.below hb7)).mono ?_
          rintro e w8 ⟨rfl, hb8⟩
          rw [decide_eq_false HN.out]
          have hb9 := hb7.trans (hb8.mono hb7.size)
          go_wp2
          go_ret
          refine same_no (fun h => HN.out ?_) (hbw.trans ((hb9).mono hbw.size))
          have h1 := HO.out
          rw [h, HO'.out] at h1
          cases h1
          rfl
        have H4 := hideP h4
        clear h4
        go_wp2_with fail
        refine (sameVals_any x.loc y.loc _ _ WB (HLr.out.below hbB) (HLr'.out.below hbB)).mono ?_
        rintro e w6 ⟨rfl, hb6⟩
        rw [decide_eq_true H3.out]
        have k6 := (hb6.cell (p := ⟨wr.heap.size + 1, 3, none⟩) l2B).trans f3B
        have k7 := (hb6.cell (p := ⟨wr.heap.size, 3, none⟩) l1B).trans e3B
        have hb7 := hbB.trans (hb6.mono hbB.size)
        go_wp2_with fail
        refine (sameVals_any x.stk y.stk _ _ w6 (HSr.out.below hb7) (HSr'.out.below hb7)).mono ?_
        rintro e w8 ⟨rfl, hb8⟩
        rw [decide_eq_true H4.out]
        have hb9 := hb7.trans (hb8.mono hb7.size)
        go_wp2
        go_roundw
        case rel => exact ⟨k + 1, by omega, by go_num, by rw [take_snoc _ k _ HO.out, take_snoc _ k _ HO'.out, HT.out, frm_ext H1.out H2.out H3.out H4.out], hbw2.trans (hb9.mono hbw2.size)⟩
        case measure => simp [intOf]; omega
    · have hlt' : ¬ (k : Int) < (A.frames.length : Int) := by omega
      go_wp2
      go_ret
      refine same_yes (mach_ext ?_ HBL.out HIN.out HOU.out HST.out HTR.out) hbw
      have h := HT.out
      rwa [List.take_of_length_le (by omega), List.take_of_length_le (by have := HFL.out; omega)] at h
end Go.Proofs.YtcadpoknolefpaaGreat


/- A run is steps, one by one, each paid: plainly. -/
namespace Go.Proofs.YtcadpoknolefpaaGreat
open Go.RowKit
set_option linter.unusedSimpArgs false
set_option linter.unusedVariables false
structure StepsTo (p : List Fn) (e : Nat → Nat → Option (List Int)) (M : Mach) (F : Int) (t : MF) (i : Nat) (X : Mach) (n : Int) : Prop where
  first : i = 0 → X = M ∧ n = F
  next : 0 < i → Ends p (X, n) t
  right : RightM p e X
  low : 0 ≤ n
  paid : n + i ≤ F
theorem steps_begin {p : List Fn} {e : Nat → Nat → Option (List Int)} {M : Mach} {F : Int} {t : MF} (hR : RightM p e M) (h0 : 0 ≤ F) : StepsTo p e M F t 0 M F := ⟨fun _ => ⟨rfl, rfl⟩, fun h => absurd h (by omega), hR, h0, by omega⟩
theorem steps_stop {p : List Fn} {e : Nat → Nat → Option (List Int)} {M X : Mach} {F n : Int} {t : MF} {i : Nat} (hr : RunIs p M F t) (h : StepsTo p e M F t i X n) (hs : X.status = 2 ∨ X.status = 3 ∨ (0 < i ∧ X.status = 1)) : t = (X, n) := by
  by_cases hi : i = 0
  · obtain ⟨rfl, rfl⟩ := h.first hi
    unfold RunIs at hr
    rw [firstS_on (by omega)] at hr
    exact ends_one hr (.stop (by simp only; omega))
  · exact ends_one (h.next (by omega)) (.stop (by simp only; omega))
theorem steps_poor {p : List Fn} {e : Nat → Nat → Option (List Int)} {M X : Mach} {F n : Int} {t : MF} {i : Nat} {o : Int × Int} (hr : RunIs p M F t) (h : StepsTo p e M F t i X n) (ho : lastOp p X = some o) (hn : n < costM o.1) : t = (X, n) := by
  have hp : pay p (X, n) = none := by unfold pay; simp only [ho]; rw [if_pos hn]
  by_cases hi : i = 0
  · obtain ⟨rfl, rfl⟩ := h.first hi
    unfold RunIs at hr
    have : firstS p X n = (X, n) := by unfold firstS; split <;> simp [hp]
    rw [this] at hr
    exact ends_one hr (.poor hp)
  · exact ends_one (h.next (by omega)) (.poor hp)
theorem steps_on {p : List Fn} {e : Nat → Nat → Option (List Int)} {M X : Mach} {F n : Int} {t : MF} {i : Nat} {o : Int × Int} (hp : progErr p = 0) (he : AllFit p e) (hr : RunIs p M F t) (h : StepsTo p e M F t i X n) (ho : lastOp p X = some o) (hn : ¬ n < costM o.1) (hs : ¬ (X.status = 2 ∨ X.status = 3 ∨ (0 < i ∧ X.status = 1))) : StepsTo p e M F t (i + 1) (stepM p X) (n - costM o.1) := by
  have hpay : pay p (X, n) = some (stepM p X, n - costM o.1) := by unfold pay; simp only [ho]; rw [if_neg hn]
  have hc := costM_le o.1
  refine ⟨fun h => absurd h (by omega), fun _ => ?_, stepM_right hp he h.right, by omega, by have := h.paid; simp; omega⟩
  have hst := h.right.status
  by_cases hi : i = 0
  · obtain ⟨rfl, rfl⟩ := h.first hi
    unfold RunIs at hr
    by_cases h1 : X.status = 1
    · have : firstS p X n = (stepM p X, n - costM o.1) := by unfold firstS; rw [if_pos h1, hpay]; rfl
      rwa [this] at hr
    · rw [firstS_on h1] at hr
      cases hr with
      | stop hq => exact absurd hq (by simp only; omega)
      | poor hq => rw [hpay] at hq; cases hq
      | on _ hq ht => rw [hpay] at hq; cases hq; exact ht
  · have h2 := h.next (by omega)
    cases h2 with
    | stop hq => exact absurd hq (by simp only; omega)
    | poor hq => rw [hpay] at hq; cases hq
    | on _ hq ht => rw [hpay] at hq; cases hq; exact ht
end Go.Proofs.YtcadpoknolefpaaGreat


