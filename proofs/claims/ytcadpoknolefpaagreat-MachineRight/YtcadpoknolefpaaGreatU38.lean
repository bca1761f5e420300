/- My texts Nr Qm Qn, joined. -/
import Derived.Deep.RegionWith
import Derived.Test.YtcadpoknolefpaaGreatU15
import Derived.Test.YtcadpoknolefpaaGreatU35
import Derived.Test.YtcadpoknolefpaaGreatU37
/- What must be in any case of machines: machineBegun. -/
namespace Go.Proofs.YtcadpoknolefpaaGreat
open Go.RowKit
set_option linter.unusedSimpArgs false
set_option linter.unusedVariables false
theorem six_heap {W : World} {R : Nat} {t : TypeId} {a0 a1 a2 a3 a4 a5 : Value} (h : W.heap[R]? = some (.cells #[a0, a1, a2, a3, a4, a5] t (0, 0))) {a b c d e f : Value} : ((((((W.setCell ⟨R, 0, none⟩ a).setCell ⟨R, 1, none⟩ b).setCell ⟨R, 2, none⟩ c).setCell ⟨R, 3, none⟩ d).setCell ⟨R, 4, none⟩ e).setCell ⟨R, 5, none⟩ f).heap[R]? = some (.cells #[a, b, c, d, e, f] t (0, 0)) := by
  have h1 := heap_setCell_same W R 0 _ _ a h
  have h2 := heap_setCell_same _ R 1 _ _ b h1
  have h3 := heap_setCell_same _ R 2 _ _ c h2
  have h4 := heap_setCell_same _ R 3 _ _ d h3
  have h5 := heap_setCell_same _ R 4 _ _ e h4
  have h6 := heap_setCell_same _ R 5 _ _ f h5
  simpa using h6
/-- a machine that came lies in a variable: of cells that were there, or of new ones. -/
theorem begin_fin {w0 w6 : World} {z : Nat} {fv bv iv ov a0 a1 a2 a3 a4 a5 : Value} {M : Mach} (hr : MRes w6 w0.heap.size fv bv iv ov M) (h100 : M.inp.length ≤ 100) (hb : Below w0.heap.size w0 w6) (hz : w6.heap[z]? = some (.cells #[a0, a1, a2, a3, a4, a5] 29 (0, 0))) (hzb : w0.heap.size ≤ z) :
    ((((((w6.setCell ⟨z, 0, none⟩ fv).setCell ⟨z, 1, none⟩ bv).setCell ⟨z, 2, none⟩ iv).setCell ⟨z, 3, none⟩ ov).setCell ⟨z, 4, none⟩ (.int .i64 M.status)).setCell ⟨z, 5, none⟩ (.int .i64 M.trap)).heap[z]? = some (.cells #[fv, bv, iv, ov, .int .i64 M.status, .int .i64 M.trap] 29 (0, 0)) ∧ MachAt ((((((w6.setCell ⟨z, 0, none⟩ fv).setCell ⟨z, 1, none⟩ bv).setCell ⟨z, 2, none⟩ iv).setCell ⟨z, 3, none⟩ ov).setCell ⟨z, 4, none⟩ (.int .i64 M.status)).setCell ⟨z, 5, none⟩ (.int .i64 M.trap)) fv bv iv ov M ∧ Below w0.heap.size w0 ((((((w6.setCell ⟨z, 0, none⟩ fv).setCell ⟨z, 1, none⟩ bv).setCell ⟨z, 2, none⟩ iv).setCell ⟨z, 3, none⟩ ov).setCell ⟨z, 4, none⟩ (.int .i64 M.status)).setCell ⟨z, 5, none⟩ (.int .i64 M.trap)) := by
  obtain ⟨h1, h2⟩ := mres_store hr hb hz hzb
  exact ⟨six_heap hz, h1.at_ h100, h2⟩
theorem begin_fin0 {w0 w6 : World} {fv bv iv ov : Value} {M : Mach} (hr : MRes w6 w0.heap.size fv bv iv ov M) (h100 : M.inp.length ≤ 100) (hb : Below w0.heap.size w0 w6) :
    (w6.alloc (.cells #[fv, bv, iv, ov, .int .i64 M.status, .int .i64 M.trap] 29)).heap[w6.heap.size]? = some (.cells #[fv, bv, iv, ov, .int .i64 M.status, .int .i64 M.trap] 29 (0, 0)) ∧ MachAt (w6.alloc (.cells #[fv, bv, iv, ov, .int .i64 M.status, .int .i64 M.trap] 29)) fv bv iv ov M ∧ Below w0.heap.size w0 (w6.alloc (.cells #[fv, bv, iv, ov, .int .i64 M.status, .int .i64 M.trap] 29)) :=
  ⟨World.alloc_heap_new w6 _, (hr.at_ h100).below ((Below.refl _ w6).alloc (Nat.le_refl _) _), hb.alloc hb.size _⟩
set_option maxRecDepth 100000 in
set_option maxHeartbeats 8000000 in
theorem machineBegun_any (w : World) : Calls Tryz.prog 20 #[] w fun e w' => e = .returned (.bool true) ∧ Below w.heap.size w w' := by
  go_enter Tryz.func20, Tryz.ntmps20
  go_wp2_with fail
  refine (counter_any _).mono ?_
  rintro e w1 ⟨v1, rfl, f1, k1, b1⟩
  have hcf := counter_fits f1 k1
  have HST := hideP (start_begin f1 k1 hcf cb1.1)
  go_wp2_with fail
  refine HST.out.mono ?_
  rintro e w2 ⟨xf, xb, xi, xo, rfl, r2, b2⟩
  have B2 := bthen0 b1 b2
  have HCF := hideP hcf
  obtain ⟨⟨pf, kf, hf⟩, ⟨pb, kb, hb⟩, ⟨pi, ki, hi⟩, ⟨po, ko, ho⟩⟩ := mres_shpN r2
  subst hf hb hi ho
  have A2 : MachAt w2 _ _ _ _ beginM := r2.at_ (by decide)
  obtain ⟨W3, hW3⟩ : ∃ W3, w2.alloc (.cells #[.slice pf beginM.frames.length kf, .slice pb beginM.blocks.length kb, .slice pi beginM.inp.length ki, .slice po beginM.out.length ko, .int .i64 beginM.status, .int .i64 beginM.trap] 29) = W3 := ⟨_, rfl⟩
  have b3 : Below w2.heap.size w2 W3 := by rw [← hW3]; exact (Below.refl _ w2).alloc (Nat.le_refl _) _
  have u3 : W3.heap[w2.heap.size]? = some (.cells #[.slice pf beginM.frames.length kf, .slice pb beginM.blocks.length kb, .slice pi beginM.inp.length ki, .slice po beginM.out.length ko, .int .i64 beginM.status, .int .i64 beginM.trap] 29 (0, 0)) := by rw [← hW3]; exact World.alloc_heap_new w2 _
  have B3 := bthen0 B2 b3
  have A3 := hideP (A2.below b3)
  have l3 := heap_lt u3
  have a0 := cell_at' u3 0
  have a1 := cell_at' u3 1
  have a2 := cell_at' u3 2
  have a3 := cell_at' u3 3
  have a4 := cell_at' u3 4
  have a5 := cell_at' u3 5
  simp at a0 a1 a2 a3 a4 a5
  have HB3 := hideP B3
  clear f1 k1 hcf HST b1 b2 B2 r2 A2 b3 u3 B3
  go_upto_region 2 with fail
  go_cut [3, 4] from 14 (fun s3 s4 wx => ∃ (z : Nat) (fv bv iv ov : Value), s3 = .pointer (some ⟨z, 0, none⟩) ∧ s4 = .int .i64 0 ∧ wx.heap[z]? = some (.cells #[fv, bv, iv, ov, .int .i64 (stepM counterFns beginM).status, .int .i64 (stepM counterFns beginM).trap] 29 (0, 0)) ∧ MachAt wx fv bv iv ov (stepM counterFns beginM) ∧ Below W3.heap.size W3 wx)
  case first =>
    have hdA : ∀ o, Below W3.heap.size W3 (W3.alloc o).drew := fun o => ((Below.refl _ W3).alloc (Nat.le_refl _) o).drew
    go_region_held3 (fun W => W.cell? ⟨w2.heap.size, 0, none⟩ = some (.slice pf beginM.frames.length kf) ∧ W.cell? ⟨w2.heap.size, 1, none⟩ = some (.slice pb beginM.blocks.length kb) ∧ W.cell? ⟨w2.heap.size, 2, none⟩ = some (.slice pi beginM.inp.length ki) ∧ W.cell? ⟨w2.heap.size, 3, none⟩ = some (.slice po beginM.out.length ko) ∧ W.cell? ⟨w2.heap.size, 4, none⟩ = some (.int .i64 beginM.status) ∧ W.cell? ⟨w2.heap.size, 5, none⟩ = some (.int .i64 beginM.trap)) (first | go_keep | exact ⟨six_cell g0 nz, six_cell g1 nz, six_cell g2 nz, six_cell g3 nz, six_cell g4 nz, six_cell g5 nz⟩)
      (first
        | (go_at_call 59; (with_reducible refine (counter_any _).mono ?_); rintro e w5 ⟨v5, rfl, f5, k5, b5'⟩; have b5 : Below W3.heap.size W3 w5 := bthen0 ((Below.refl _ W3).drew) b5'; clear b5'; have h0 := (b5.cell (p := ⟨w2.heap.size, 0, none⟩) l3).trans a0; have h1 := (b5.cell (p := ⟨w2.heap.size, 1, none⟩) l3).trans a1; have h2 := (b5.cell (p := ⟨w2.heap.size, 2, none⟩) l3).trans a2; have h3 := (b5.cell (p := ⟨w2.heap.size, 3, none⟩) l3).trans a3; have h4 := (b5.cell (p := ⟨w2.heap.size, 4, none⟩) l3).trans a4; have h5 := (b5.cell (p := ⟨w2.heap.size, 5, none⟩) l3).trans a5; have hd5 : ∀ o, Below w5.heap.size w5 (w5.alloc o) := fun o => (Below.refl _ w5).alloc (Nat.le_refl _) o)
        | (go_at_call 59; (with_reducible refine (counter_any _).mono ?_); rintro e w5 ⟨v5, rfl, f5, k5, b5'⟩; have b5 : Below W3.heap.size W3 w5 := bthen0 (hdA _) b5'; have q5 := (b5'.block W3.heap.size (heap_lt (World.alloc_heap_new W3 _))).trans (World.alloc_heap_new W3 _); have Q5 := hideP q5; have m0 := cell_at' q5 0; have m1 := cell_at' q5 1; have m2 := cell_at' q5 2; have m3 := cell_at' q5 3; have m4 := cell_at' q5 4; have m5 := cell_at' q5 5; simp at m0 m1 m2 m3 m4 m5; have mz := Lib.frozen_of_heap q5; have mz0 := mz 0; have mz1 := mz 1; have mz2 := mz 2; have mz3 := mz 3; have mz4 := mz 4; have mz5 := mz 5; clear mz; clear b5' q5; have h0 := (b5.cell (p := ⟨w2.heap.size, 0, none⟩) l3).trans a0; have h1 := (b5.cell (p := ⟨w2.heap.size, 1, none⟩) l3).trans a1; have h2 := (b5.cell (p := ⟨w2.heap.size, 2, none⟩) l3).trans a2; have h3 := (b5.cell (p := ⟨w2.heap.size, 3, none⟩) l3).trans a3; have h4 := (b5.cell (p := ⟨w2.heap.size, 4, none⟩) l3).trans a4; have h5 := (b5.cell (p := ⟨w2.heap.size, 5, none⟩) l3).trans a5)
        | (go_at_call 15; (with_reducible refine (step_begin (w := w5) ⟨f5, k5, A3.out.below b5⟩ HCF.out cb1.1).mono ?_); rintro e w6 ⟨nf, nb, ni, no, rfl, r6, b6'⟩; have b6 : Below W3.heap.size W3 w6 := bthen0 b5 b6'; have nz : ¬ w2.heap.size = W3.heap.size := (by omega); have q6 := (b6'.block W3.heap.size (heap_lt Q5.out)).trans Q5.out; have Q6 := hideP q6; clear m0 m1 m2 m3 m4 m5 mz0 mz1 mz2 mz3 mz4 mz5; have m0 := cell_at' q6 0; have m1 := cell_at' q6 1; have m2 := cell_at' q6 2; have m3 := cell_at' q6 3; have m4 := cell_at' q6 4; have m5 := cell_at' q6 5; simp at m0 m1 m2 m3 m4 m5; have mz := Lib.frozen_of_heap q6; have mz0 := mz 0; have mz1 := mz 1; have mz2 := mz 2; have mz3 := mz 3; have mz4 := mz 4; have mz5 := mz 5; clear mz; clear q6; have R6b : Hid (MRes w6 W3.heap.size _ _ _ _ _) := hideP (r6.low b5.size); obtain ⟨⟨qf, jf, hqf⟩, ⟨qb, jb, hqb⟩, ⟨qi, ji, hqi⟩, ⟨qo, jo, hqo⟩⟩ := mres_shpN r6; subst hqf hqb hqi hqo; have R6 := hideP r6; clear r6; have g0 := (b6.cell (p := ⟨w2.heap.size, 0, none⟩) l3).trans a0; have g1 := (b6.cell (p := ⟨w2.heap.size, 1, none⟩) l3).trans a1; have g2 := (b6.cell (p := ⟨w2.heap.size, 2, none⟩) l3).trans a2; have g3 := (b6.cell (p := ⟨w2.heap.size, 3, none⟩) l3).trans a3; have g4 := (b6.cell (p := ⟨w2.heap.size, 4, none⟩) l3).trans a4; have g5 := (b6.cell (p := ⟨w2.heap.size, 5, none⟩) l3).trans a5)
        | (go_at_call 15; (with_reducible refine (step_begin (w := w5) ⟨f5, k5, A3.out.below b5⟩ HCF.out cb1.1).mono ?_); rintro e w6 ⟨nf, nb, ni, no, rfl, r6, b6'⟩; have b6 : Below W3.heap.size W3 w6 := bthen0 b5 b6'; have nz : ¬ w2.heap.size = w6.heap.size := (by have := b6.size; omega); have R6b : Hid (MRes w6 W3.heap.size _ _ _ _ _) := hideP (r6.low b5.size); obtain ⟨⟨qf, jf, hqf⟩, ⟨qb, jb, hqb⟩, ⟨qi, ji, hqi⟩, ⟨qo, jo, hqo⟩⟩ := mres_shpN r6; subst hqf hqb hqi hqo; have R6 := hideP r6; clear r6; have g0 := (b6.cell (p := ⟨w2.heap.size, 0, none⟩) l3).trans a0; have g1 := (b6.cell (p := ⟨w2.heap.size, 1, none⟩) l3).trans a1; have g2 := (b6.cell (p := ⟨w2.heap.size, 2, none⟩) l3).trans a2; have g3 := (b6.cell (p := ⟨w2.heap.size, 3, none⟩) l3).trans a3; have g4 := (b6.cell (p := ⟨w2.heap.size, 4, none⟩) l3).trans a4; have g5 := (b6.cell (p := ⟨w2.heap.size, 5, none⟩) l3).trans a5)
        | (go_at_call 15; (with_reducible refine (step_begin (w := w5.alloc _) ⟨f5.below (hd5 _), k5.below f5 (hd5 _), A3.out.below (bthen0 b5 (hd5 _))⟩ HCF.out cb1.1).mono ?_); rintro e w6 ⟨nf, nb, ni, no, rfl, r6, b6'⟩; have b6 : Below W3.heap.size W3 w6 := bthen0 (bthen0 b5 (hd5 _)) b6'; have nz : ¬ w2.heap.size = w5.heap.size := (by have := b5.size; omega); have q6 := (b6'.block w5.heap.size (heap_lt (World.alloc_heap_new w5 _))).trans (World.alloc_heap_new w5 _); have Q6 := hideP q6; have m0 := cell_at' q6 0; have m1 := cell_at' q6 1; have m2 := cell_at' q6 2; have m3 := cell_at' q6 3; have m4 := cell_at' q6 4; have m5 := cell_at' q6 5; simp at m0 m1 m2 m3 m4 m5; have mz := Lib.frozen_of_heap q6; have mz0 := mz 0; have mz1 := mz 1; have mz2 := mz 2; have mz3 := mz 3; have mz4 := mz 4; have mz5 := mz 5; clear mz; clear q6; have R6b : Hid (MRes w6 W3.heap.size _ _ _ _ _) := hideP (r6.low (Nat.le_trans b5.size (hd5 _).size)); obtain ⟨⟨qf, jf, hqf⟩, ⟨qb, jb, hqb⟩, ⟨qi, ji, hqi⟩, ⟨qo, jo, hqo⟩⟩ := mres_shpN r6; subst hqf hqb hqi hqo; have R6 := hideP r6; clear r6; have g0 := (b6.cell (p := ⟨w2.heap.size, 0, none⟩) l3).trans a0; have g1 := (b6.cell (p := ⟨w2.heap.size, 1, none⟩) l3).trans a1; have g2 := (b6.cell (p := ⟨w2.heap.size, 2, none⟩) l3).trans a2; have g3 := (b6.cell (p := ⟨w2.heap.size, 3, none⟩) l3).trans a3; have g4 := (b6.cell (p := ⟨w2.heap.size, 4, none⟩) l3).trans a4; have g5 := (b6.cell (p := ⟨w2.heap.size, 5, none⟩) l3).trans a5))
    all_goals
      go_wp2_with fail
      go_meet
    · have hF := begin_fin0 R6b.out (by rw [cb1.2]; decide) b6
      exact ⟨_, _, _, _, _, rfl, rfl, hF⟩
    · have hF := begin_fin R6b.out (by rw [cb1.2]; decide) b6 Q6.out b5.size
      exact ⟨_, _, _, _, _, rfl, rfl, hF⟩
    · have hF := begin_fin R6b.out (by rw [cb1.2]; decide) b6 Q6.out (Nat.le_refl _)
      exact ⟨_, _, _, _, _, rfl, rfl, hF⟩
  case rest =>
    obtain ⟨z, cf, cb, ci, co, rfl, rfl, hz, hA, hb⟩ := hcut
    rw [cb1.2] at hz hA
    have HA := hideP hA
    have HZ := hideP hz
    have B4 := hideP (bthen0 HB3.out hb)
    have lz := heap_lt hz
    clear hz hA hb A3 HB3 a0 a1 a2 a3 a4 a5 l3 hW3
    go_wp2_with fail
    refine (squareC_any _).mono ?_
    rintro e y1 ⟨v2, rfl, f2, k2, c1⟩
    have hsf := square_fits f2 k2
    have HSF := hideP hsf
    have HST := hideP (start_begin f2 k2 hsf cb2.1)
    go_wp2_with fail
    refine HST.out.mono ?_
    rintro e y2 ⟨xf2, xb2, xi2, xo2, rfl, r2, c2⟩
    have C2 := bthen0 c1 c2
    obtain ⟨⟨pf2, kf2, hf2⟩, ⟨pb2, kb2, hb2⟩, ⟨pi2, ki2, hi2⟩, ⟨po2, ko2, ho2⟩⟩ := mres_shpN r2
    subst hf2 hb2 hi2 ho2
    have A2 : MachAt y2 _ _ _ _ beginM := r2.at_ (by decide)
    obtain ⟨Y3, hY3⟩ : ∃ Y3, y2.alloc (.cells #[.slice pf2 beginM.frames.length kf2, .slice pb2 beginM.blocks.length kb2, .slice pi2 beginM.inp.length ki2, .slice po2 beginM.out.length ko2, .int .i64 beginM.status, .int .i64 beginM.trap] 29) = Y3 := ⟨_, rfl⟩
    have c3 : Below y2.heap.size y2 Y3 := by rw [← hY3]; exact (Below.refl _ y2).alloc (Nat.le_refl _) _
    have u3 : Y3.heap[y2.heap.size]? = some (.cells #[.slice pf2 beginM.frames.length kf2, .slice pb2 beginM.blocks.length kb2, .slice pi2 beginM.inp.length ki2, .slice po2 beginM.out.length ko2, .int .i64 beginM.status, .int .i64 beginM.trap] 29 (0, 0)) := by rw [← hY3]; exact World.alloc_heap_new y2 _
    have C3 := bthen0 C2 c3
    have A3 := hideP (A2.below c3)
    have l3 := heap_lt u3
    have a0 := cell_at' u3 0
    have a1 := cell_at' u3 1
    have a2 := cell_at' u3 2
    have a3 := cell_at' u3 3
    have a4 := cell_at' u3 4
    have a5 := cell_at' u3 5
    simp at a0 a1 a2 a3 a4 a5
    have HC3 := hideP C3
    have HA3 := hideP (HA.out.below C3)
    have hz3 := (C3.block z lz).trans HZ.out
    have lz3 := heap_lt hz3
    have HZ3 := hideP hz3
    clear f2 k2 hsf HST c1 c2 C2 r2 A2 c3 u3 C3 hz3 HA HZ
    obtain ⟨pz, cz, hcf, -, -, hfz⟩ := HA3.out.fr
    obtain ⟨gz, oz, lvz, svz, rfl, hgz, y0, y1, y2, y3, -, -, hSz, -⟩ := hfz 0 _ rfl
    obtain ⟨ps, cs, hsv, -, hsc⟩ := hSz
    obtain ⟨gs, os, rfl, hgs, s0, s1⟩ := hsc 0 _ rfl
    subst hsv hcf
    simp at y1 y3 s1
    have KZ : Hid (∀ W, Below Y3.heap.size Y3 W → W.cell? ⟨z, 0, none⟩ = some (.slice (some ⟨gz, oz, none⟩) 1 cz) ∧ W.cell? ⟨z, 1, none⟩ = some cb ∧ W.cell? ⟨z, 2, none⟩ = some ci ∧ W.cell? ⟨z, 3, none⟩ = some co ∧ W.cell? ⟨z, 4, none⟩ = some (.int .i64 secondM.status) ∧ W.cell? ⟨z, 5, none⟩ = some (.int .i64 secondM.trap) ∧ W.cell? ⟨gz, oz + 1, none⟩ = some (.int .i64 1) ∧ W.cell? ⟨gz, oz + 3, none⟩ = some (.slice (some ⟨gs, os, none⟩) 1 cs) ∧ W.cell? ⟨gs, os + 1, none⟩ = some (.int .i64 3)) := fun W hW => by
      have h1 := (hW.block _ lz3).trans HZ3.out
      exact ⟨cell_at' h1 0, cell_at' h1 1, cell_at' h1 2, cell_at' h1 3, cell_at' h1 4, cell_at' h1 5, (hW.cell (p := ⟨gz, oz + 1, none⟩) hgz).trans y1, (hW.cell (p := ⟨gz, oz + 3, none⟩) hgz).trans y3, (hW.cell (p := ⟨gs, os + 1, none⟩) hgs).trans s1⟩
    have HCK : Hid (∀ (W : World) (v : Value), FnsAt W v counterFns → CapAt W v → Below Y3.heap.size Y3 W → Calls Tryz.prog 21 #[.agg #[v], .agg #[.slice (some ⟨gz, oz, none⟩) 1 cz, cb, ci, co, .int .i64 secondM.status, .int .i64 secondM.trap]] W fun e w' => e = .returned (.int .i64 0) ∧ Below W.heap.size W w') := fun W v h1 h2 h3 => by
      have := mCheck_any secondM counterFns v _ cb ci co W ⟨h1, h2, HA3.out.below h3⟩ pcOk_second
      have hz := (begin_ok HCF.out cb1.1).2
      rw [cb1.2] at hz
      rw [hz] at this
      exact this
    clear y0 y1 y2 y3 s0 s1 hfz hsc
    go_upto_region 4 with fail
    go_cut [7, 8] from 25 (fun s3 s4 wx => ∃ (z : Nat) (fv bv iv ov : Value), s3 = .pointer (some ⟨z, 0, none⟩) ∧ s4 = .int .i64 0 ∧ wx.heap[z]? = some (.cells #[fv, bv, iv, ov, .int .i64 (stepM squareFns beginM).status, .int .i64 (stepM squareFns beginM).trap] 29 (0, 0)) ∧ MachAt wx fv bv iv ov (stepM squareFns beginM) ∧ Below Y3.heap.size Y3 wx)
    case first =>
      have hdA : ∀ o, Below Y3.heap.size Y3 (Y3.alloc o).drew := fun o => ((Below.refl _ Y3).alloc (Nat.le_refl _) o).drew
      go_region_held3 (fun W => W.cell? ⟨y2.heap.size, 0, none⟩ = some (.slice pf2 beginM.frames.length kf2) ∧ W.cell? ⟨y2.heap.size, 1, none⟩ = some (.slice pb2 beginM.blocks.length kb2) ∧ W.cell? ⟨y2.heap.size, 2, none⟩ = some (.slice pi2 beginM.inp.length ki2) ∧ W.cell? ⟨y2.heap.size, 3, none⟩ = some (.slice po2 beginM.out.length ko2) ∧ W.cell? ⟨y2.heap.size, 4, none⟩ = some (.int .i64 beginM.status) ∧ W.cell? ⟨y2.heap.size, 5, none⟩ = some (.int .i64 beginM.trap)) (first | go_keep | exact ⟨six_cell g0 nz, six_cell g1 nz, six_cell g2 nz, six_cell g3 nz, six_cell g4 nz, six_cell g5 nz⟩)
        (first
          | (go_at_call 60; (with_reducible refine (squareC_any _).mono ?_); rintro e w5 ⟨v5, rfl, f5, k5, b5'⟩; have b5 : Below Y3.heap.size Y3 w5 := bthen0 ((Below.refl _ Y3).drew) b5'; clear b5'; have h0 := (b5.cell (p := ⟨y2.heap.size, 0, none⟩) l3).trans a0; have h1 := (b5.cell (p := ⟨y2.heap.size, 1, none⟩) l3).trans a1; have h2 := (b5.cell (p := ⟨y2.heap.size, 2, none⟩) l3).trans a2; have h3 := (b5.cell (p := ⟨y2.heap.size, 3, none⟩) l3).trans a3; have h4 := (b5.cell (p := ⟨y2.heap.size, 4, none⟩) l3).trans a4; have h5 := (b5.cell (p := ⟨y2.heap.size, 5, none⟩) l3).trans a5; have hd5 : ∀ o, Below w5.heap.size w5 (w5.alloc o) := fun o => (Below.refl _ w5).alloc (Nat.le_refl _) o)
          | (go_at_call 60; (with_reducible refine (squareC_any _).mono ?_); rintro e w5 ⟨v5, rfl, f5, k5, b5'⟩; have b5 : Below Y3.heap.size Y3 w5 := bthen0 (hdA _) b5'; have q5 := (b5'.block Y3.heap.size (heap_lt (World.alloc_heap_new Y3 _))).trans (World.alloc_heap_new Y3 _); have Q5 := hideP q5; have m0 := cell_at' q5 0; have m1 := cell_at' q5 1; have m2 := cell_at' q5 2; have m3 := cell_at' q5 3; have m4 := cell_at' q5 4; have m5 := cell_at' q5 5; simp at m0 m1 m2 m3 m4 m5; have mz := Lib.frozen_of_heap q5; have mz0 := mz 0; have mz1 := mz 1; have mz2 := mz 2; have mz3 := mz 3; have mz4 := mz 4; have mz5 := mz 5; clear mz; clear b5' q5; have h0 := (b5.cell (p := ⟨y2.heap.size, 0, none⟩) l3).trans a0; have h1 := (b5.cell (p := ⟨y2.heap.size, 1, none⟩) l3).trans a1; have h2 := (b5.cell (p := ⟨y2.heap.size, 2, none⟩) l3).trans a2; have h3 := (b5.cell (p := ⟨y2.heap.size, 3, none⟩) l3).trans a3; have h4 := (b5.cell (p := ⟨y2.heap.size, 4, none⟩) l3).trans a4; have h5 := (b5.cell (p := ⟨y2.heap.size, 5, none⟩) l3).trans a5)
          | (go_at_call 15; (with_reducible refine (step_begin (w := w5) ⟨f5, k5, A3.out.below b5⟩ HSF.out cb2.1).mono ?_); rintro e w6 ⟨nf, nb, ni, no, rfl, r6, b6'⟩; have b6 : Below Y3.heap.size Y3 w6 := bthen0 b5 b6'; have nz : ¬ y2.heap.size = Y3.heap.size := (by omega); have q6 := (b6'.block Y3.heap.size (heap_lt Q5.out)).trans Q5.out; have Q6 := hideP q6; clear m0 m1 m2 m3 m4 m5 mz0 mz1 mz2 mz3 mz4 mz5; have m0 := cell_at' q6 0; have m1 := cell_at' q6 1; have m2 := cell_at' q6 2; have m3 := cell_at' q6 3; have m4 := cell_at' q6 4; have m5 := cell_at' q6 5; simp at m0 m1 m2 m3 m4 m5; have mz := Lib.frozen_of_heap q6; have mz0 := mz 0; have mz1 := mz 1; have mz2 := mz 2; have mz3 := mz 3; have mz4 := mz 4; have mz5 := mz 5; clear mz; clear q6; have R6b : Hid (MRes w6 Y3.heap.size _ _ _ _ _) := hideP (r6.low b5.size); obtain ⟨⟨qf, jf, hqf⟩, ⟨qb, jb, hqb⟩, ⟨qi, ji, hqi⟩, ⟨qo, jo, hqo⟩⟩ := mres_shpN r6; subst hqf hqb hqi hqo; have R6 := hideP r6; clear r6; have g0 := (b6.cell (p := ⟨y2.heap.size, 0, none⟩) l3).trans a0; have g1 := (b6.cell (p := ⟨y2.heap.size, 1, none⟩) l3).trans a1; have g2 := (b6.cell (p := ⟨y2.heap.size, 2, none⟩) l3).trans a2; have g3 := (b6.cell (p := ⟨y2.heap.size, 3, none⟩) l3).trans a3; have g4 := (b6.cell (p := ⟨y2.heap.size, 4, none⟩) l3).trans a4; have g5 := (b6.cell (p := ⟨y2.heap.size, 5, none⟩) l3).trans a5)
          | (go_at_call 15; (with_reducible refine (step_begin (w := w5) ⟨f5, k5, A3.out.below b5⟩ HSF.out cb2.1).mono ?_); rintro e w6 ⟨nf, nb, ni, no, rfl, r6, b6'⟩; have b6 : Below Y3.heap.size Y3 w6 := bthen0 b5 b6'; have nz : ¬ y2.heap.size = w6.heap.size := (by have := b6.size; omega); have R6b : Hid (MRes w6 Y3.heap.size _ _ _ _ _) := hideP (r6.low b5.size); obtain ⟨⟨qf, jf, hqf⟩, ⟨qb, jb, hqb⟩, ⟨qi, ji, hqi⟩, ⟨qo, jo, hqo⟩⟩ := mres_shpN r6; subst hqf hqb hqi hqo; have R6 := hideP r6; clear r6; have g0 := (b6.cell (p := ⟨y2.heap.size, 0, none⟩) l3).trans a0; have g1 := (b6.cell (p := ⟨y2.heap.size, 1, none⟩) l3).trans a1; have g2 := (b6.cell (p := ⟨y2.heap.size, 2, none⟩) l3).trans a2; have g3 := (b6.cell (p := ⟨y2.heap.size, 3, none⟩) l3).trans a3; have g4 := (b6.cell (p := ⟨y2.heap.size, 4, none⟩) l3).trans a4; have g5 := (b6.cell (p := ⟨y2.heap.size, 5, none⟩) l3).trans a5)
          | (go_at_call 15; (with_reducible refine (step_begin (w := w5.alloc _) ⟨f5.below (hd5 _), k5.below f5 (hd5 _), A3.out.below (bthen0 b5 (hd5 _))⟩ HSF.out cb2.1).mono ?_); rintro e w6 ⟨nf, nb, ni, no, rfl, r6, b6'⟩; have b6 : Below Y3.heap.size Y3 w6 := bthen0 (bthen0 b5 (hd5 _)) b6'; have nz : ¬ y2.heap.size = w5.heap.size := (by have := b5.size; omega); have q6 := (b6'.block w5.heap.size (heap_lt (World.alloc_heap_new w5 _))).trans (World.alloc_heap_new w5 _); have Q6 := hideP q6; have m0 := cell_at' q6 0; have m1 := cell_at' q6 1; have m2 := cell_at' q6 2; have m3 := cell_at' q6 3; have m4 := cell_at' q6 4; have m5 := cell_at' q6 5; simp at m0 m1 m2 m3 m4 m5; have mz := Lib.frozen_of_heap q6; have mz0 := mz 0; have mz1 := mz 1; have mz2 := mz 2; have mz3 := mz 3; have mz4 := mz 4; have mz5 := mz 5; clear mz; clear q6; have R6b : Hid (MRes w6 Y3.heap.size _ _ _ _ _) := hideP (r6.low (Nat.le_trans b5.size (hd5 _).size)); obtain ⟨⟨qf, jf, hqf⟩, ⟨qb, jb, hqb⟩, ⟨qi, ji, hqi⟩, ⟨qo, jo, hqo⟩⟩ := mres_shpN r6; subst hqf hqb hqi hqo; have R6 := hideP r6; clear r6; have g0 := (b6.cell (p := ⟨y2.heap.size, 0, none⟩) l3).trans a0; have g1 := (b6.cell (p := ⟨y2.heap.size, 1, none⟩) l3).trans a1; have g2 := (b6.cell (p := ⟨y2.heap.size, 2, none⟩) l3).trans a2; have g3 := (b6.cell (p := ⟨y2.heap.size, 3, none⟩) l3).trans a3; have g4 := (b6.cell (p := ⟨y2.heap.size, 4, none⟩) l3).trans a4; have g5 := (b6.cell (p := ⟨y2.heap.size, 5, none⟩) l3).trans a5))
      all_goals
        go_wp2_with fail
        go_meet
      · have hF := begin_fin0 R6b.out (by rw [cb2.2]; decide) b6
        exact ⟨_, _, _, _, _, rfl, rfl, hF⟩
      · have hF := begin_fin R6b.out (by rw [cb2.2]; decide) b6 Q6.out b5.size
        exact ⟨_, _, _, _, _, rfl, rfl, hF⟩
      · have hF := begin_fin R6b.out (by rw [cb2.2]; decide) b6 Q6.out (Nat.le_refl _)
        exact ⟨_, _, _, _, _, rfl, rfl, hF⟩
    case rest =>
      obtain ⟨z7, wf, wb, wi, wo, rfl, rfl, hz7, hA7, hb7⟩ := hcut
      rw [cb2.2] at hz7 hA7
      obtain ⟨pw, cw, hpw, -, -, hfw⟩ := hA7.fr
      obtain ⟨gw, ow, lw, sw, rfl, hgw, -, g1, -⟩ := hfw 0 _ rfl
      subst hpw
      simp at g1
      have lz7 := heap_lt hz7
      have m0 := cell_at' hz7 0
      have m4 := cell_at' hz7 4
      simp at m0 m4
      have K7 : Hid (∀ W, Below wc.heap.size wc W → W.cell? ⟨z7, 0, none⟩ = some (.slice (some ⟨gw, ow, none⟩) 1 cw) ∧ W.cell? ⟨z7, 4, none⟩ = some (.int .i64 1) ∧ W.cell? ⟨gw, ow + 1, none⟩ = some (.int .i64 0)) := fun W hW => ⟨(hW.cell (p := ⟨z7, 0, none⟩) lz7).trans m0, (hW.cell (p := ⟨z7, 4, none⟩) lz7).trans m4, (hW.cell (p := ⟨gw, ow + 1, none⟩) hgw).trans g1⟩
      have HB7 := hideP hb7
      obtain ⟨x0, x1, x2, x3, x4, x5, x6, x7, x8⟩ := KZ.out wc hb7
      obtain ⟨x9, x10, x11⟩ := K7.out wc (Below.refl _ _)
      clear hz7 hA7 hfw g1 m0 m4 hb7
      go_wp2_with fail
      simp only [List.append_eq, List.cons_append, List.nil_append]
      go_region_held3 (fun X => X.cell? ⟨z, 0, none⟩ = some (.slice (some ⟨gz, oz, none⟩) 1 cz) ∧ X.cell? ⟨z, 1, none⟩ = some cb ∧ X.cell? ⟨z, 2, none⟩ = some ci ∧ X.cell? ⟨z, 3, none⟩ = some co ∧ X.cell? ⟨z, 4, none⟩ = some (.int .i64 secondM.status) ∧ X.cell? ⟨z, 5, none⟩ = some (.int .i64 secondM.trap) ∧ X.cell? ⟨gz, oz + 1, none⟩ = some (.int .i64 1) ∧ X.cell? ⟨gz, oz + 3, none⟩ = some (.slice (some ⟨gs, os, none⟩) 1 cs) ∧ X.cell? ⟨gs, os + 1, none⟩ = some (.int .i64 3) ∧ X.cell? ⟨z7, 0, none⟩ = some (.slice (some ⟨gw, ow, none⟩) 1 cw) ∧ X.cell? ⟨z7, 4, none⟩ = some (.int .i64 1) ∧ X.cell? ⟨gw, ow + 1, none⟩ = some (.int .i64 0)) (go_keep)
        (first
          | (go_at_call 59; (with_reducible refine (counter_any _).mono ?_); rintro e w9 ⟨v9, rfl, f9, k9, b9'⟩; have b9 : Below wc.heap.size wc w9 := bthen0 ((Below.refl _ wc).drew) b9'; have c9 := bthen0 HB7.out b9; clear b9'; obtain ⟨e0, e1, e2, e3, e4, e5, e6, e7, e8⟩ := KZ.out w9 c9; obtain ⟨e9, e10, e11⟩ := K7.out w9 b9)
          | (go_at_call 21; (with_reducible refine (HCK.out w9 v9 f9 k9 c9).mono ?_); rintro e w10 ⟨rfl, b10⟩; have b10' := bthen0 b9 b10; have c10 := bthen0 c9 b10; obtain ⟨i0, i1, i2, i3, i4, i5, i6, i7, i8⟩ := KZ.out w10 c10; obtain ⟨i9, i10, i11⟩ := K7.out w10 b10'))
      go_wp2
      go_ret
      exact ⟨rfl, bthen0 B4.out (bthen0 HC3.out c10)⟩
end Go.Proofs.YtcadpoknolefpaaGreat
/- Fuel, plainly (chapter 7): a run is steps, each paid. -/
namespace Go.Proofs.YtcadpoknolefpaaGreat
open Go.RowKit
set_option linter.unusedSimpArgs false
set_option linter.unusedVariables false
def costM (c : Int) : Int := if c = 14 then 3 else if c = 12 then 2 else 1
theorem costM_le (c : Int) : 1 ≤ costM c ∧ costM c ≤ 3 := by
  unfold costM
  split
  · omega
  · split <;> omega
abbrev MF := Mach × Int
/-- a step that is paid, if it can be. -/
def pay (p : List Fn) (s : MF) : Option MF := match lastOp p s.1 with
  | none => none
  | some o => if s.2 < costM o.1 then none else some (stepM p s.1, s.2 - costM o.1)
/-- where a run from here ends. -/
inductive Ends (p : List Fn) : MF → MF → Prop
  | stop {s : MF} (h : s.1.status ≠ 0) : Ends p s s
  | poor {s : MF} (h : pay p s = none) : Ends p s s
  | on {s s' t : MF} (h0 : s.1.status = 0) (h : pay p s = some s') (ht : Ends p s' t) : Ends p s t
theorem pay_less {p : List Fn} {s s' : MF} (h : pay p s = some s') : 0 ≤ s'.2 ∧ s'.2 + 1 ≤ s.2 ∧ s'.1 = stepM p s.1 := by
  unfold pay at h
  cases hl : lastOp p s.1 with
  | none => rw [hl] at h; cases h
  | some o =>
    rw [hl] at h
    simp only at h
    have := costM_le o.1
    split at h
    · cases h
    · cases h
      exact ⟨by simp only; omega, by simp only; omega, rfl⟩
theorem ends_one {p : List Fn} {s t u : MF} (h : Ends p s t) (k : Ends p s u) : t = u := by
  induction h with
  | stop h => cases k with
    | stop _ => rfl
    | poor _ => rfl
    | on h0 _ _ => exact absurd h0 h
  | poor h => cases k with
    | stop _ => rfl
    | poor _ => rfl
    | on _ h1 _ => rw [h] at h1; cases h1
  | on h0 h _ ih => cases k with
    | stop h1 => exact absurd h0 h1
    | poor h1 => rw [h] at h1; cases h1
    | on _ h1 h2 =>
      rw [h] at h1
      cases h1
      exact ih h2
theorem ends_some (p : List Fn) : ∀ (n : Nat) (s : MF), s.2 ≤ (n : Int) → ∃ t, Ends p s t
  | n, s, hn => by
    by_cases h0 : s.1.status = 0
    · cases h : pay p s with
      | none => exact ⟨s, .poor h⟩
      | some s' =>
        obtain ⟨h1, h2, _⟩ := pay_less h
        cases n with
        | zero => omega
        | succ n =>
          obtain ⟨t, ht⟩ := ends_some p n s' (by omega)
          exact ⟨t, .on h0 h ht⟩
    · exact ⟨s, .stop h0⟩
/-- as far as it is known ahead. -/
theorem ends_bounds {p : List Fn} {s t : MF} (h : Ends p s t) (h0 : 0 ≤ s.2) : 0 ≤ t.2 ∧ t.2 ≤ s.2 := by
  induction h with
  | stop _ => exact ⟨h0, Int.le_refl _⟩
  | poor _ => exact ⟨h0, Int.le_refl _⟩
  | on _ h _ ih =>
    obtain ⟨h1, h2, _⟩ := pay_less h
    have := ih h1
    omega
theorem ends_right {p : List Fn} {e : Nat → Nat → Option (List Int)} {s t : MF} (hp : progErr p = 0) (he : AllFit p e) (h : Ends p s t) (hr : RightM p e s.1) : RightM p e t.1 := by
  induction h with
  | stop _ => exact hr
  | poor _ => exact hr
  | on _ h _ ih =>
    obtain ⟨_, _, h3⟩ := pay_less h
    exact ih (by rw [h3]; exact stepM_right hp he hr)
theorem pay_more {p : List Fn} {m : Mach} {f d : Int} {s' : MF} (h : pay p (m, f) = some s') (hd : 0 ≤ d) : pay p (m, f + d) = some (s'.1, s'.2 + d) := by
  unfold pay at h ⊢
  simp only at h ⊢
  cases hl : lastOp p m with
  | none => rw [hl] at h; cases h
  | some o =>
    rw [hl] at h
    simp only at h ⊢
    split at h
    · cases h
    · cases h
      rw [if_neg (by omega)]
      simp only [Option.some.injEq, Prod.mk.injEq, true_and]
      omega
/-- what is done with fuel is what is done with a part of it, and then with the rest. -/
theorem ends_more {p : List Fn} {s t : MF} (h : Ends p s t) {d : Int} (hd : 0 ≤ d) : (t.1.status ≠ 0 → Ends p (s.1, s.2 + d) (t.1, t.2 + d)) ∧ ∀ u, Ends p (t.1, t.2 + d) u → Ends p (s.1, s.2 + d) u := by
  induction h with
  | stop h => exact ⟨fun _ => .stop h, fun u hu => hu⟩
  | poor h => exact ⟨fun hn => .stop hn, fun u hu => hu⟩
  | @on s s' t h0 h _ ih =>
    have hm := pay_more (m := s.1) (f := s.2) h hd
    exact ⟨fun hn => .on h0 hm (ih.1 hn), fun u hu => .on h0 hm (ih.2 u hu)⟩
/-- out grows, in shrinks. -/
def FartherM (m n : Mach) : Prop := m.out <+: n.out ∧ n.inp.length ≤ m.inp.length
theorem farther_refl (m : Mach) : FartherM m m := ⟨List.prefix_rfl, Nat.le_refl _⟩
theorem FartherM.trans {a b c : Mach} (h : FartherM a b) (k : FartherM b c) : FartherM a c := ⟨h.1.trans k.1, Nat.le_trans k.2 h.2⟩
theorem farther_outer {m n : Mach} (h : OuterM m n) : FartherM m n := ⟨by rw [← h.out.2]; exact List.take_prefix _ _, h.inp.1⟩
theorem ends_farther {p : List Fn} {e : Nat → Nat → Option (List Int)} {s t : MF} (hp : progErr p = 0) (he : AllFit p e) (h : Ends p s t) (hr : RightM p e s.1) : FartherM s.1 t.1 := by
  induction h with
  | stop _ => exact farther_refl _
  | poor _ => exact farther_refl _
  | on _ h _ ih =>
    obtain ⟨_, _, h3⟩ := pay_less h
    have h4 := farther_outer (stepM_outer hp he hr)
    rw [← h3] at h4
    exact h4.trans (ih (by rw [h3]; exact stepM_right hp he hr))
/-- where a run ends: one that waits pays for finding that out. -/
def firstS (p : List Fn) (m : Mach) (f : Int) : MF := if m.status = 1 then (pay p (m, f)).getD (m, f) else (m, f)
def RunIs (p : List Fn) (m : Mach) (f : Int) (t : MF) : Prop := Ends p (firstS p m f) t
theorem runIs_one {p : List Fn} {m : Mach} {f : Int} {t u : MF} (h : RunIs p m f t) (k : RunIs p m f u) : t = u := ends_one h k
theorem firstS_on {p : List Fn} {m : Mach} {f : Int} (h : m.status ≠ 1) : firstS p m f = (m, f) := by simp [firstS, h]
/-- one that waits, with fuel: it is as it was. -/
theorem waits_pay {p : List Fn} {e : Nat → Nat → Option (List Int)} {m : Mach} {f : Int} (hp : progErr p = 0) (he : AllFit p e) (hr : RightM p e m) (h1 : m.status = 1) : pay p (m, f) = if f < 1 then none else some (m, f - 1) := by
  obtain ⟨x, k, fn, o, a1, a2, a3, a4, a5, a6, a7, a8⟩ := next_op hp he hr (.inr h1)
  obtain ⟨w1, x', k', f', o', w2, w3, w4, w5, w6⟩ := hr.wait h1
  rw [a1] at w2
  cases w2
  have e1 : k = k' := by omega
  subst e1
  rw [a3] at w4
  cases w4
  rw [a5] at w5
  cases w5
  have hs : stepM p m = m := by
    rw [a7]
    have : doOp p m x o = { m with status := 1 } := by simp [doOp, w6, w1]
    rw [this, ← h1]
  unfold pay
  simp only
  rw [a6]
  simp only [hs, show costM o.1 = 1 by rw [w6]; decide]
theorem firstS_wait {p : List Fn} {e : Nat → Nat → Option (List Int)} {m : Mach} {f : Int} (hp : progErr p = 0) (he : AllFit p e) (hr : RightM p e m) (h1 : m.status = 1) : firstS p m f = (m, if f < 1 then f else f - 1) := by
  unfold firstS
  rw [if_pos h1, waits_pay hp he hr h1]
  split <;> simp [*]
theorem run_wait {p : List Fn} {e : Nat → Nat → Option (List Int)} {m : Mach} {f : Int} {t : MF} (hp : progErr p = 0) (he : AllFit p e) (hr : RightM p e m) (h1 : m.status = 1) (h : RunIs p m f t) : t = (m, if f < 1 then f else f - 1) := by
  unfold RunIs at h
  rw [firstS_wait hp he hr h1] at h
  exact ends_one h (.stop (by simp [h1]))
theorem run_right {p : List Fn} {e : Nat → Nat → Option (List Int)} {m : Mach} {f : Int} {t : MF} (hp : progErr p = 0) (he : AllFit p e) (hr : RightM p e m) (h0 : 0 ≤ f) (h : RunIs p m f t) : RightM p e t.1 ∧ 0 ≤ t.2 ∧ t.2 ≤ f ∧ FartherM m t.1 := by
  by_cases h1 : m.status = 1
  · have := run_wait hp he hr h1 h
    subst this
    refine ⟨hr, ?_, ?_, farther_refl _⟩ <;> simp only <;> split <;> omega
  · unfold RunIs at h
    rw [firstS_on h1] at h
    have := ends_bounds h h0
    exact ⟨ends_right hp he h hr, this.1, this.2, ends_farther hp he h hr⟩
/-- without fuel nothing is done. -/
theorem run_zero {p : List Fn} {e : Nat → Nat → Option (List Int)} {m : Mach} {t : MF} (hp : progErr p = 0) (he : AllFit p e) (hr : RightM p e m) (h : RunIs p m 0 t) : t = (m, 0) := by
  by_cases h1 : m.status = 1
  · exact run_wait hp he hr h1 h
  · unfold RunIs at h
    rw [firstS_on h1] at h
    refine ends_one h ?_
    by_cases h0 : m.status = 0
    · refine .poor ?_
      cases hc : pay p (m, 0) with
      | none => rfl
      | some s' => have := pay_less hc; simp only at this; omega
    · exact .stop h0
end Go.Proofs.YtcadpoknolefpaaGreat
/- Blocks that nobody has, plainly (chapter 8): what collecting makes of a machine. -/
namespace Go.Proofs.YtcadpoknolefpaaGreat
open Go.RowKit
set_option linter.unusedSimpArgs false
set_option linter.unusedVariables false
/-- a value, its ref as it is then. -/
def mvV (S : List Int) (v : Val) : Val := if v.1 = true then (true, thenOf S v.2) else v
def mvF (S : List Int) (x : Frm) : Frm := { x with loc := x.loc.map (mvV S), stk := x.stk.map (mvV S) }
/-- only the blocks of these refs are kept. -/
def restr (S : List Int) (m : Mach) : Mach := { m with frames := m.frames.map (mvF S), blocks := keptL m.blocks S m.blocks.length }
def refsV (l : List Val) : List Int := (l.filter fun v => v.1 && decide (v.2 ≠ 0)).map Prod.snd
def refsM (m : Mach) : List Int := refsV (m.frames.flatMap fun x => x.loc ++ x.stk)
def collectM (m : Mach) : Mach := restr (refsM m) m
theorem mem_refsV {l : List Val} {r : Int} : r ∈ refsV l ↔ r ≠ 0 ∧ (true, r) ∈ l := by
  unfold refsV
  simp only [List.mem_map, List.mem_filter, Bool.and_eq_true, decide_eq_true_eq]
  constructor
  · rintro ⟨⟨b, n⟩, ⟨h1, h2, h3⟩, rfl⟩
    simp only at h2 h3 ⊢
    subst h2
    exact ⟨h3, h1⟩
  · rintro ⟨h1, h2⟩
    exact ⟨(true, r), ⟨h2, rfl, h1⟩, rfl⟩
theorem mem_refsM {m : Mach} {r : Int} : r ∈ refsM m ↔ r ≠ 0 ∧ ∃ x ∈ m.frames, (true, r) ∈ x.loc ∨ (true, r) ∈ x.stk := by
  unfold refsM
  rw [mem_refsV]
  simp only [List.mem_flatMap, List.mem_append]
/-- refs of a machine are refs of its blocks. -/
def RefsOk (m : Mach) : Prop := ∀ r ∈ refsM m, 1 ≤ r ∧ r ≤ (m.blocks.length : Int)
theorem refs_right {p : List Fn} {e : Nat → Nat → Option (List Int)} {m : Mach} (h : RightM p e m) : RefsOk m := fun r hr => by
  obtain ⟨h0, x, hx, hv⟩ := mem_refsM.1 hr
  obtain ⟨i, hi⟩ := List.getElem?_of_mem hx
  obtain ⟨k, f, hf⟩ := h.each i x hi
  have : okV m.blocks.length (true, r) = true := by
    rcases hv with hv | hv
    · exact hf.okl _ hv
    · exact hf.oks _ hv
  simp [okV] at this
  omega
theorem stays_congr {S T : List Int} {n : Nat} (h : ∀ r : Int, 1 ≤ r → r ≤ (n : Int) → (r ∈ S ↔ r ∈ T)) : stays S n = stays T n := by
  unfold stays
  apply List.filter_congr
  intro i hi
  have := List.mem_range.1 hi
  have := h ((i : Int) + 1) (by omega) (by omega)
  simp [this]
theorem thenOf_congr {S T : List Int} {r : Int} (h : ∀ q : Int, 1 ≤ q → q ≤ r → (q ∈ S ↔ q ∈ T)) : thenOf S r = thenOf T r := by
  unfold thenOf
  rw [stays_congr fun q h1 h2 => h q h1 (by omega)]
theorem thenOf_succ {S : List Int} {j : Nat} (h : (j : Int) + 1 ∈ S) : thenOf S ((j : Int) + 1) = ((stays S j).length : Int) + 1 := by
  unfold thenOf
  rw [show ((j : Int) + 1).toNat = j + 1 by omega, stays_true h]
  simp
theorem stays_lt {S : List Int} {i j : Nat} (h : (i : Int) + 1 ∈ S) (hij : i < j) : (stays S i).length < (stays S j).length := by
  have := stays_mono (refs := S) (show i + 1 ≤ j by omega)
  rw [stays_true h] at this
  simp at this
  omega
theorem thenOf_inj {S : List Int} {i j : Nat} (hi : (i : Int) + 1 ∈ S) (hj : (j : Int) + 1 ∈ S) (h : (stays S i).length = (stays S j).length) : i = j := by
  rcases Nat.lt_trichotomy i j with h1 | h1 | h1
  · have := stays_lt hi h1; omega
  · exact h1
  · have := stays_lt hj h1; omega
theorem thenOf_bounds {S : List Int} {r : Int} {n : Nat} (h1 : 1 ≤ r) (hr : r ≤ (n : Int)) (hS : r ∈ S) : 1 ≤ thenOf S r ∧ thenOf S r ≤ ((stays S n).length : Int) := by
  obtain ⟨j, rfl⟩ : ∃ j : Nat, r = (j : Int) + 1 := ⟨(r - 1).toNat, by omega⟩
  rw [thenOf_succ hS]
  have := stays_lt (j := n) hS (by omega)
  omega
theorem thenOf_le {S : List Int} {r : Int} {n : Nat} (hr : r ≤ (n : Int)) : 0 ≤ thenOf S r ∧ thenOf S r ≤ ((stays S n).length : Int) := by
  unfold thenOf
  have := stays_mono (refs := S) (show r.toNat ≤ n by omega)
  omega
theorem stays_comp {S R : List Int} (hsub : ∀ r ∈ R, r ∈ S ∧ 1 ≤ r) (n : Nat) : stays (R.map (thenOf S)) (stays S n).length = (stays R n).map fun j => (stays S j).length := by
  induction n with
  | zero => simp [stays_zero]
  | succ n ih =>
    by_cases hS : (n : Int) + 1 ∈ S
    · rw [stays_true hS, List.length_append]
      by_cases hR : (n : Int) + 1 ∈ R
      · have h1 : ((stays S n).length : Int) + 1 ∈ R.map (thenOf S) := List.mem_map.2 ⟨_, hR, thenOf_succ hS⟩
        rw [show (stays S n).length + [n].length = (stays S n).length + 1 from rfl, stays_true h1, ih, stays_true hR, List.map_append]
        rfl
      · have h1 : ¬ ((stays S n).length : Int) + 1 ∈ R.map (thenOf S) := fun h => by
          obtain ⟨r, hr, e⟩ := List.mem_map.1 h
          obtain ⟨a, b⟩ := hsub r hr
          obtain ⟨j, rfl⟩ : ∃ j : Nat, r = (j : Int) + 1 := ⟨(r - 1).toNat, by omega⟩
          rw [thenOf_succ a] at e
          have := thenOf_inj a hS (by omega)
          subst this
          exact hR hr
        rw [show (stays S n).length + [n].length = (stays S n).length + 1 from rfl, stays_false h1, ih, stays_false hR]
    · have hR : ¬ (n : Int) + 1 ∈ R := fun h => hS (hsub _ h).1
      rw [stays_false hS, stays_false hR, ih]
theorem thenOf_comp {S R : List Int} (hsub : ∀ r ∈ R, r ∈ S ∧ 1 ≤ r) (r : Int) : thenOf (R.map (thenOf S)) (thenOf S r) = thenOf R r := by
  have := congrArg List.length (stays_comp hsub r.toNat)
  rw [List.length_map] at this
  unfold thenOf at this ⊢
  rw [show (((stays S r.toNat).length : Int)).toNat = (stays S r.toNat).length by omega, this]
theorem keptL_comp {L : List (List Int)} {S R : List Int} (hsub : ∀ r ∈ R, r ∈ S ∧ 1 ≤ r) : keptL (keptL L S L.length) (R.map (thenOf S)) (keptL L S L.length).length = keptL L R L.length := by
  conv => lhs; unfold keptL
  rw [show (List.map (fun i => (L[i]?).getD []) (stays S L.length)).length = (stays S L.length).length by simp, stays_comp hsub, List.map_map]
  unfold keptL
  apply List.map_congr_left
  intro j hj
  obtain ⟨a, b⟩ := mem_stays.1 hj
  obtain ⟨c, hc⟩ := at_of_lt a
  have := keptL_at hc (hsub _ b).1
  unfold keptL at this
  simp only [Function.comp, this, hc]
theorem keptL_congr {L : List (List Int)} {S T : List Int} {n : Nat} (h : ∀ r : Int, 1 ≤ r → r ≤ (n : Int) → (r ∈ S ↔ r ∈ T)) : keptL L S n = keptL L T n := by
  unfold keptL
  rw [stays_congr h]
theorem mvV_zero (S : List Int) : mvV S (false, 0) = (false, 0) := rfl
theorem mvV_congr {S T : List Int} {v : Val} (h : v.1 = true → thenOf S v.2 = thenOf T v.2) : mvV S v = mvV T v := by
  unfold mvV
  split
  · rename_i hv; rw [h hv]
  · rfl
theorem mvV_fst (S : List Int) (v : Val) : (mvV S v).1 = v.1 := by
  unfold mvV
  split
  · rename_i h; rw [h]
  · rfl
theorem mvV_int {S : List Int} {v : Val} (h : v.1 = false) : mvV S v = v := by simp [mvV, h]
theorem mvV_ref {S : List Int} {v : Val} (h : v.1 = true) : mvV S v = (true, thenOf S v.2) := by simp [mvV, h]
/-- these refs are all that a machine has. -/
def HoldsS (S : List Int) (m : Mach) : Prop := ∀ r ∈ refsM m, r ∈ S
theorem holds_refs (m : Mach) : HoldsS (refsM m) m := fun _ h => h
theorem frm_eq {x y : Frm} (h1 : x.fn = y.fn) (h2 : x.pc = y.pc) (h3 : x.loc = y.loc) (h4 : x.stk = y.stk) : x = y := by
  cases x; cases y; simp at h1 h2 h3 h4; subst h1 h2 h3 h4; rfl
theorem mach_eq {x y : Mach} (h1 : x.frames = y.frames) (h2 : x.blocks = y.blocks) (h3 : x.inp = y.inp) (h4 : x.out = y.out) (h5 : x.status = y.status) (h6 : x.trap = y.trap) : x = y := by
  cases x; cases y; simp at h1 h2 h3 h4 h5 h6; subst h1 h2 h3 h4 h5 h6; rfl
theorem mvF_congr {S T : List Int} {x : Frm} (h : ∀ v ∈ x.loc ++ x.stk, v.1 = true → thenOf S v.2 = thenOf T v.2) : mvF S x = mvF T x := by
  refine frm_eq rfl rfl (List.map_congr_left fun v hv => mvV_congr (h v (by simp [hv]))) (List.map_congr_left fun v hv => mvV_congr (h v (by simp [hv])))
theorem restr_congr {S T : List Int} {m : Mach} (hok : RefsOk m) (h : ∀ r : Int, 1 ≤ r → r ≤ (m.blocks.length : Int) → (r ∈ S ↔ r ∈ T)) : restr S m = restr T m := by
  refine mach_eq (List.map_congr_left fun x hx => mvF_congr fun v hv h1 => ?_) (keptL_congr h) rfl rfl rfl rfl
  obtain ⟨b, r⟩ := v
  simp only at h1 ⊢
  subst h1
  by_cases h0 : r = 0
  · rw [h0]; rfl
  · have := hok r (mem_refsM.2 ⟨h0, x, hx, by simpa using hv⟩)
    exact thenOf_congr fun q h1 h2 => h q h1 (by omega)
/-- refs of one that is collected. -/
theorem refs_restr {S : List Int} {m : Mach} (hok : RefsOk m) (hS : HoldsS S m) (r : Int) : r ∈ refsM (restr S m) ↔ r ∈ (refsM m).map (thenOf S) := by
  rw [mem_refsM, List.mem_map]
  constructor
  · rintro ⟨h0, x, hx, hv⟩
    simp only [restr, List.mem_map] at hx
    obtain ⟨y, hy, rfl⟩ := hx
    have hv' : ∃ v, (v ∈ y.loc ∨ v ∈ y.stk) ∧ mvV S v = (true, r) := by
      rcases hv with hv | hv
      · obtain ⟨v, h1, h2⟩ := List.mem_map.1 hv; exact ⟨v, .inl h1, h2⟩
      · obtain ⟨v, h1, h2⟩ := List.mem_map.1 hv; exact ⟨v, .inr h1, h2⟩
    obtain ⟨⟨b, q⟩, h1, h2⟩ := hv'
    have hb : b = true := by have := mvV_fst S (b, q); rw [h2] at this; exact this.symm
    subst hb
    rw [mvV_ref rfl] at h2
    simp only [Prod.mk.injEq, true_and] at h2
    refine ⟨q, mem_refsM.2 ⟨fun hq => h0 ?_, y, hy, h1⟩, h2⟩
    rw [← h2, hq]; rfl
  · rintro ⟨q, hq, rfl⟩
    have hb := hok q hq
    obtain ⟨h0, y, hy, hv⟩ := mem_refsM.1 hq
    have := thenOf_bounds hb.1 hb.2 (hS q hq)
    refine ⟨by omega, mvF S y, List.mem_map.2 ⟨y, hy, rfl⟩, ?_⟩
    rcases hv with hv | hv
    · exact .inl (List.mem_map.2 ⟨_, hv, mvV_ref rfl⟩)
    · exact .inr (List.mem_map.2 ⟨_, hv, mvV_ref rfl⟩)
theorem refsOk_restr {S : List Int} {m : Mach} (hok : RefsOk m) (hS : HoldsS S m) : RefsOk (restr S m) := fun r hr => by
  obtain ⟨q, hq, rfl⟩ := List.mem_map.1 ((refs_restr hok hS r).1 hr)
  have hb := hok q hq
  have := thenOf_bounds hb.1 hb.2 (hS q hq)
  show 1 ≤ thenOf S q ∧ thenOf S q ≤ ((keptL m.blocks S m.blocks.length).length : Int)
  rw [keptL_length]
  exact this
/-- what is collected of a part is what is collected of the whole. -/
theorem collect_restr {S : List Int} {m : Mach} (hok : RefsOk m) (hS : HoldsS S m) : collectM (restr S m) = collectM m := by
  have hsub : ∀ r ∈ refsM m, r ∈ S ∧ 1 ≤ r := fun r hr => ⟨hS r hr, (hok r hr).1⟩
  unfold collectM
  rw [restr_congr (T := (refsM m).map (thenOf S)) (refsOk_restr hok hS) fun r _ _ => refs_restr hok hS r]
  refine mach_eq ?_ (keptL_comp hsub) rfl rfl rfl rfl
  simp only [restr, List.map_map]
  apply List.map_congr_left
  intro x hx
  have key : ∀ v : Val, mvV ((refsM m).map (thenOf S)) (mvV S v) = mvV (refsM m) v := fun v => by
    obtain ⟨b, r⟩ := v
    cases b with
    | false => rfl
    | true => rw [mvV_ref (S := S) rfl, mvV_ref rfl, mvV_ref rfl]; simp only [thenOf_comp hsub]
  refine frm_eq rfl rfl ?_ ?_
  · simp only [Function.comp, mvF, List.map_map]
    exact List.map_congr_left fun v _ => key v
  · simp only [Function.comp, mvF, List.map_map]
    exact List.map_congr_left fun v _ => key v
theorem collect_again {m : Mach} (hok : RefsOk m) : collectM (collectM m) = collectM m := collect_restr hok (holds_refs m)
theorem keep_refs {p : List Fn} {e : Nat → Nat → Option (List Int)} {m : Mach} (h : RightM p e m) : keepErr m.blocks (refsM m) = 0 := by
  unfold keepErr
  rw [if_neg (by simp [h.blocks]), if_pos]
  rw [List.all_eq_true]
  intro r hr
  have := refs_right h r hr
  simp [refOk]
  omega
theorem asT_mv (S : List Int) {v : Val} {t : Int} (h : asT v t = true) : asT (mvV S v) t = true := by
  obtain ⟨b, r⟩ := v
  cases b with
  | false => exact h
  | true =>
    rw [mvV_ref rfl]
    simp only [asT, Bool.and_eq_true, Bool.or_eq_true, decide_eq_true_eq] at h ⊢
    refine ⟨h.1, h.2.imp id fun h0 => ?_⟩
    rw [h0]; rfl
theorem areOf_mv (S : List Int) : ∀ {l : List Val} {s : List Int}, areOf l s = true → areOf (l.map (mvV S)) s = true
  | [], [], _ => rfl
  | [], _ :: _, h => by simp [areOf] at h
  | _ :: _, [], h => by simp [areOf] at h
  | v :: r, t :: q, h => by
    simp only [areOf, Bool.and_eq_true, List.map_cons] at h ⊢
    exact ⟨asT_mv S h.1, areOf_mv S h.2⟩
theorem okV_mv {S : List Int} {n : Nat} {v : Val} (h : okV n v = true) : okV (stays S n).length (mvV S v) = true := by
  obtain ⟨b, r⟩ := v
  cases b with
  | false => exact h
  | true =>
    rw [mvV_ref rfl]
    simp only [okV, if_true, Bool.and_eq_true, decide_eq_true_eq] at h ⊢
    exact thenOf_le h.2
theorem kept_sums (L : List (List Int)) (S : List Int) : ∀ n, n ≤ L.length → (keptL L S n).length ≤ n ∧ cellsN (keptL L S n) ≤ cellsN (L.take n) ∧ ∀ b ∈ keptL L S n, b ∈ L
  | 0, _ => by simp [keptL, stays_zero, cellsN]
  | n + 1, hn => by
    obtain ⟨h1, h2, h3⟩ := kept_sums L S n (by omega)
    obtain ⟨b, hb⟩ := at_of_lt (l := L) (k := n) (by omega)
    have := cellsN_take L n b hb
    by_cases h : (n : Int) + 1 ∈ S
    · rw [keptL_true h hb]
      refine ⟨by simp; omega, ?_, fun c hc => ?_⟩
      · rw [cellsN_append, this]
        simp [cellsN] at h2 ⊢
        omega
      · rcases List.mem_append.1 hc with hc | hc
        · exact h3 c hc
        · simp at hc; subst hc; exact List.mem_of_getElem? hb
    · rw [keptL_false h]
      exact ⟨by omega, by omega, h3⟩
theorem blkErr_kept {L : List (List Int)} (S : List Int) (h : blkErr L = 0) : blkErr (keptL L S L.length) = 0 ∧ (keptL L S L.length).length ≤ L.length ∧ cellsN (keptL L S L.length) ≤ cellsN L := by
  obtain ⟨a, b, c⟩ := blkErr_zero h
  obtain ⟨h1, h2, h3⟩ := kept_sums L S L.length (Nat.le_refl _)
  rw [List.take_length] at h2
  exact ⟨blkErr_mk (by omega) (by omega) fun x hx => c x (h3 x hx), h1, h2⟩
theorem rightF_mv {p : List Fn} {e : Nat → Nat → Option (List Int)} {nb : Nat} {next : Option Int} {x : Frm} {k : Nat} {f : Fn} (S : List Int) (h : RightF p e nb next x k f) : RightF p e (stays S nb).length next (mvF S x) k f := by
  refine ⟨h.fn, h.at_, areOf_mv S h.loc, fun v hv => ?_, fun v hv => ?_, fun hn => ?_, fun g hg => ?_⟩
  · obtain ⟨u, hu, rfl⟩ := List.mem_map.1 hv; exact okV_mv (h.okl u hu)
  · obtain ⟨u, hu, rfl⟩ := List.mem_map.1 hv; exact okV_mv (h.oks u hu)
  · obtain ⟨pc, s, h1, h2, h3⟩ := h.inner hn; exact ⟨pc, s, h1, h2, areOf_mv S h3⟩
  · obtain ⟨pc, s0, s, hh, h1, h2, h3, h4, h5, h6, h7⟩ := h.outer g hg; exact ⟨pc, s0, s, hh, h1, h2, h3, h4, h5, h6, areOf_mv S h7⟩
/-- what is collected of a right machine is right. -/
theorem restr_right {p : List Fn} {e : Nat → Nat → Option (List Int)} {m : Mach} (S : List Int) (h : RightM p e m) : RightM p e (restr S m) := by
  refine ⟨h.status, h.trap, (blkErr_kept S h.blocks).1, h.inp, h.out, ?_, ?_, ?_, fun hw => ?_⟩
  · simp only [restr, List.length_map, List.map_eq_nil_iff]; exact h.depth
  · intro x hx
    simp only [restr, List.getElem?_map, Option.map_eq_some_iff] at hx
    obtain ⟨y, hy, rfl⟩ := hx
    exact h.first y hy
  · intro i x hx
    simp only [restr, List.getElem?_map, Option.map_eq_some_iff] at hx ⊢
    obtain ⟨y, hy, rfl⟩ := hx
    obtain ⟨k, f, hr⟩ := h.each i y hy
    refine ⟨k, f, ?_⟩
    rw [keptL_length, Option.map_map]
    exact rightF_mv S hr
  · obtain ⟨h1, x, k, f, o, h2, h3, h4, h5, h6⟩ := h.wait hw
    exact ⟨h1, mvF S x, k, f, o, by simp [restr, List.getLast?_map, h2], h3, h4, h5, h6⟩
theorem lastOp_restr (p : List Fn) (S : List Int) (m : Mach) : lastOp p (restr S m) = lastOp p m := by
  unfold lastOp
  simp only [restr, List.getLast?_map]
  cases m.frames.getLast? with
  | none => rfl
  | some x => rfl
end Go.Proofs.YtcadpoknolefpaaGreat
