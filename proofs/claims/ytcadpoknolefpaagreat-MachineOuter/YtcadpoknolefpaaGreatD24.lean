/- My texts Nr Bf Bg: what of them is needed, joined. -/
import Derived.Deep.RegionWith
import Derived.Test.YtcadpoknolefpaaGreatD13
import Derived.Test.YtcadpoknolefpaaGreatD23
/- What must be in any case of machines: machineBegun. -/
namespace Go.Proofs.YtcadpoknolefpaaGreat
open Go.RowKit
set_option linter.unusedSimpArgs false
set_option linter.unusedVariables false
theorem six_heap {W : World} {R : Nat} {t : TypeId} {a0 a1 a2 a3 a4 a5 : Value} (h : W.heap[R]? = some (.cells #[a0, a1, a2, a3, a4, a5] t (0, 0))) {a b c d e f : Value} : ((((((W.setCell ⟨R, 0, none⟩ a).setCell ⟨R, 1, none⟩ b).setCell ⟨R, 2, none⟩ c).setCell ⟨R, 3, none⟩ d).setCell ⟨R, 4, none⟩ e).setCell ⟨R, 5, none⟩ f).heap[R]? = some (.cells #[a, b, c, d, e, f] t (0, 0)) := by
  have h1 := heap_setCell_same W R 0 _ _ a h
  have h2 := heap_setCell_same _ R 1 _ _ b h1
  have h3 := heap_setCell_same _ R 2 _ _ c h2
  have h4 := heap_setCell_same _ R 3 _ _ d h3
  have h5 := heap_setCell_same _ R 4 _ _ e h4
  have h6 := heap_setCell_same _ R 5 _ _ f h5
  simpa using h6
theorem begin_fin {w0 w6 : World} {z : Nat} {fv bv iv ov a0 a1 a2 a3 a4 a5 : Value} {M : Mach} (hr : MRes w6 w0.heap.size fv bv iv ov M) (h100 : M.inp.length ≤ 100) (hb : Below w0.heap.size w0 w6) (hz : w6.heap[z]? = some (.cells #[a0, a1, a2, a3, a4, a5] 29 (0, 0))) (hzb : w0.heap.size ≤ z) :
    ((((((w6.setCell ⟨z, 0, none⟩ fv).setCell ⟨z, 1, none⟩ bv).setCell ⟨z, 2, none⟩ iv).setCell ⟨z, 3, none⟩ ov).setCell ⟨z, 4, none⟩ (.int .i64 M.status)).setCell ⟨z, 5, none⟩ (.int .i64 M.trap)).heap[z]? = some (.cells #[fv, bv, iv, ov, .int .i64 M.status, .int .i64 M.trap] 29 (0, 0)) ∧ MachAt ((((((w6.setCell ⟨z, 0, none⟩ fv).setCell ⟨z, 1, none⟩ bv).setCell ⟨z, 2, none⟩ iv).setCell ⟨z, 3, none⟩ ov).setCell ⟨z, 4, none⟩ (.int .i64 M.status)).setCell ⟨z, 5, none⟩ (.int .i64 M.trap)) fv bv iv ov M ∧ Below w0.heap.size w0 ((((((w6.setCell ⟨z, 0, none⟩ fv).setCell ⟨z, 1, none⟩ bv).setCell ⟨z, 2, none⟩ iv).setCell ⟨z, 3, none⟩ ov).setCell ⟨z, 4, none⟩ (.int .i64 M.status)).setCell ⟨z, 5, none⟩ (.int .i64 M.trap)) := by
  obtain ⟨h1, h2⟩ := mres_store hr hb hz hzb
  exact ⟨six_heap hz, h1.at_ h100, h2⟩
theorem begin_fin0 {w0 w6 : World} {fv bv iv ov : Value} {M : Mach} (hr : MRes w6 w0.heap.size fv bv iv ov M) (h100 : M.inp.length ≤ 100) (hb : Below w0.heap.size w0 w6) :
    (w6.alloc (.cells #[fv, bv, iv, ov, .int .i64 M.status, .int .i64 M.trap] 29)).heap[w6.heap.size]? = some (.cells #[fv, bv, iv, ov, .int .i64 M.status, .int .i64 M.trap] 29 (0, 0)) ∧ MachAt (w6.alloc (.cells #[fv, bv, iv, ov, .int .i64 M.status, .int .i64 M.trap] 29)) fv bv iv ov M ∧ Below w0.heap.size w0 (w6.alloc (.cells #[fv, bv, iv, ov, .int .i64 M.status, .int .i64 M.trap] 29)) :=
  ⟨World.alloc_heap_new w6 _, (hr.at_ h100).below ((Below.refl _ w6).alloc (Nat.le_refl _) _), hb.alloc hb.size _⟩
set_option maxRecDepth 100000 in
set_option maxHeartbeats 8000000 in
theorem machineBegun_any (w : World) : Calls Tryz.prog 20 #[] w fun e w' => e = .returned (.bool true) ∧ Below w.heap.size w w' := by
  go_enter Tryz.func20, Tryz.ntmps20
  go_wp2_with fail
  refine (counter_any _).mono ?_
  rintro e w1 ⟨v1, rfl, f1, k1, b1⟩
  have hcf := counter_fits f1 k1
  have HST := hideP (start_begin f1 k1 hcf cb1.1)
  go_wp2_with fail
  refine HST.out.mono ?_
  rintro e w2 ⟨xf, xb, xi, xo, rfl, r2, b2⟩
  have B2 := bthen0 b1 b2
  have HCF := hideP hcf
  obtain ⟨⟨pf, kf, hf⟩, ⟨pb, kb, hb⟩, ⟨pi, ki, hi⟩, ⟨po, ko, ho⟩⟩ := mres_shpN r2
  subst hf hb hi ho
  have A2 : MachAt w2 _ _ _ _ beginM := r2.at_ (by decide)
  obtain ⟨W3, hW3⟩ : ∃ W3, w2.alloc (.cells #[.slice pf beginM.frames.length kf, .slice pb beginM.blocks.length kb, .slice pi beginM.inp.length ki, .slice po beginM.out.length ko, .int .i64 beginM.status, .int .i64 beginM.trap] 29) = W3 := ⟨_, rfl⟩
  have b3 : Below w2.heap.size w2 W3 := by rw [← hW3]; exact (Below.refl _ w2).alloc (Nat.le_refl _) _
  have u3 : W3.heap[w2.heap.size]? = some (.cells #[.slice pf beginM.frames.length kf, .slice pb beginM.blocks.length kb, .slice pi beginM.inp.length ki, .slice po beginM.out.length ko, .int .i64 beginM.status, .int .i64 beginM.trap] 29 (0, 0)) := by rw [← hW3]; exact World.alloc_heap_new w2 _
  have B3 := bthen0 B2 b3
  have A3 := hideP (A2.below b3)
  have l3 := heap_lt u3
  have a0 := cell_at' u3 0
  have a1 := cell_at' u3 1
  have a2 := cell_at' u3 2
  have a3 := cell_at' u3 3
  have a4 := cell_at' u3 4
  have a5 := cell_at' u3 5
  simp at a0 a1 a2 a3 a4 a5
  have HB3 := hideP B3
  clear f1 k1 hcf HST b1 b2 B2 r2 A2 b3 u3 B3
  go_upto_region 2 with fail
  go_cut [3, 4] from 14 (fun s3 s4 wx => ∃ (z : Nat) (fv bv iv ov : Value), s3 = .pointer (some ⟨z, 0, none⟩) ∧ s4 = .int .i64 0 ∧ wx.heap[z]? = some (.cells #[fv, bv, iv, ov, .int .i64 (stepM counterFns beginM).status, .int .i64 (stepM counterFns beginM).trap] 29 (0, 0)) ∧ MachAt wx fv bv iv ov (stepM counterFns beginM) ∧ Below W3.heap.size W3 wx)
  case first =>
    have hdA : ∀ o, Below W3.heap.size W3 (W3.alloc o).drew := fun o => ((Below.refl _ W3).alloc (Nat.le_refl _) o).drew
    go_region_held3 (fun W => W.cell? ⟨w2.heap.size, 0, none⟩ = some (.slice pf beginM.frames.length kf) ∧ W.cell? ⟨w2.heap.size, 1, none⟩ = some (.slice pb beginM.blocks.length kb) ∧ W.cell? ⟨w2.heap.size, 2, none⟩ = some (.slice pi beginM.inp.length ki) ∧ W.cell? ⟨w2.heap.size, 3, none⟩ = some (.slice po beginM.out.length ko) ∧ W.cell? ⟨w2.heap.size, 4, none⟩ = some (.int .i64 beginM.status) ∧ W.cell? ⟨w2.heap.size, 5, none⟩ = some (.int .i64 beginM.trap)) (first | go_keep | exact ⟨six_cell g0 nz, six_cell g1 nz, six_cell g2 nz, six_cell g3 nz, six_cell g4 nz, six_cell g5 nz⟩)
      (first
        | (go_at_call 59; (with_reducible refine (counter_any _).mono ?_); rintro e w5 ⟨v5, rfl, f5, k5, b5'⟩; have b5 : Below W3.heap.size W3 w5 := bthen0 ((Below.refl _ W3).drew) b5'; clear b5'; have h0 := (b5.cell (p := ⟨w2.heap.size, 0, none⟩) l3).trans a0; have h1 := (b5.cell (p := ⟨w2.heap.size, 1, none⟩) l3).trans a1; have h2 := (b5.cell (p := ⟨w2.heap.size, 2, none⟩) l3).trans a2; have h3 := (b5.cell (p := ⟨w2.heap.size, 3, none⟩) l3).trans a3; have h4 := (b5.cell (p := ⟨w2.heap.size, 4, none⟩) l3).trans a4; have h5 := (b5.cell (p := ⟨w2.heap.size, 5, none⟩) l3).trans a5; have hd5 : ∀ o, Below w5.heap.size w5 (w5.alloc o) := fun o => (Below.refl _ w5).alloc (Nat.le_refl _) o)
        | (go_at_call 59; (with_reducible refine (counter_any _).mono ?_); rintro e w5 ⟨v5, rfl, f5, k5, b5'⟩; have b5 : Below W3.heap.size W3 w5 := bthen0 (hdA _) b5'; have q5 := (b5'.block W3.heap.size (heap_lt (World.alloc_heap_new W3 _))).trans (World.alloc_heap_new W3 _); have Q5 := hideP q5; have m0 := cell_at' q5 0; have m1 := cell_at' q5 1; have m2 := cell_at' q5 2; have m3 := cell_at' q5 3; have m4 := cell_at' q5 4; have m5 := cell_at' q5 5; simp at m0 m1 m2 m3 m4 m5; have mz := Lib.frozen_of_heap q5; have mz0 := mz 0; have mz1 := mz 1; have mz2 := mz 2; have mz3 := mz 3; have mz4 := mz 4; have mz5 := mz 5; clear mz; clear b5' q5; have h0 := (b5.cell (p := ⟨w2.heap.size, 0, none⟩) l3).trans a0; have h1 := (b5.cell (p := ⟨w2.heap.size, 1, none⟩) l3).trans a1; have h2 := (b5.cell (p := ⟨w2.heap.size, 2, none⟩) l3).trans a2; have h3 := (b5.cell (p := ⟨w2.heap.size, 3, none⟩) l3).trans a3; have h4 := (b5.cell (p := ⟨w2.heap.size, 4, none⟩) l3).trans a4; have h5 := (b5.cell (p := ⟨w2.heap.size, 5, none⟩) l3).trans a5)
        | (go_at_call 15; (with_reducible refine (step_begin (w := w5) ⟨f5, k5, A3.out.below b5⟩ HCF.out cb1.1).mono ?_); rintro e w6 ⟨nf, nb, ni, no, rfl, r6, b6'⟩; have b6 : Below W3.heap.size W3 w6 := bthen0 b5 b6'; have nz : ¬ w2.heap.size = W3.heap.size := (by omega); have q6 := (b6'.block W3.heap.size (heap_lt Q5.out)).trans Q5.out; have Q6 := hideP q6; clear m0 m1 m2 m3 m4 m5 mz0 mz1 mz2 mz3 mz4 mz5; have m0 := cell_at' q6 0; have m1 := cell_at' q6 1; have m2 := cell_at' q6 2; have m3 := cell_at' q6 3; have m4 := cell_at' q6 4; have m5 := cell_at' q6 5; simp at m0 m1 m2 m3 m4 m5; have mz := Lib.frozen_of_heap q6; have mz0 := mz 0; have mz1 := mz 1; have mz2 := mz 2; have mz3 := mz 3; have mz4 := mz 4; have mz5 := mz 5; clear mz; clear q6; have R6b : Hid (MRes w6 W3.heap.size _ _ _ _ _) := hideP (r6.low b5.size); obtain ⟨⟨qf, jf, hqf⟩, ⟨qb, jb, hqb⟩, ⟨qi, ji, hqi⟩, ⟨qo, jo, hqo⟩⟩ := mres_shpN r6; subst hqf hqb hqi hqo; have R6 := hideP r6; clear r6; have g0 := (b6.cell (p := ⟨w2.heap.size, 0, none⟩) l3).trans a0; have g1 := (b6.cell (p := ⟨w2.heap.size, 1, none⟩) l3).trans a1; have g2 := (b6.cell (p := ⟨w2.heap.size, 2, none⟩) l3).trans a2; have g3 := (b6.cell (p := ⟨w2.heap.size, 3, none⟩) l3).trans a3; have g4 := (b6.cell (p := ⟨w2.heap.size, 4, none⟩) l3).trans a4; have g5 := (b6.cell (p := ⟨w2.heap.size, 5, none⟩) l3).trans a5)
        | (go_at_call 15; (with_reducible refine (step_begin (w := w5) ⟨f5, k5, A3.out.below b5⟩ HCF.out cb1.1).mono ?_); rintro e w6 ⟨nf, nb, ni, no, rfl, r6, b6'⟩; have b6 : Below W3.heap.size W3 w6 := bthen0 b5 b6'; have nz : ¬ w2.heap.size = w6.heap.size := (by have := b6.size; omega); have R6b : Hid (MRes w6 W3.heap.size _ _ _ _ _) := hideP (r6.low b5.size); obtain ⟨⟨qf, jf, hqf⟩, ⟨qb, jb, hqb⟩, ⟨qi, ji, hqi⟩, ⟨qo, jo, hqo⟩⟩ := mres_shpN r6; subst hqf hqb hqi hqo; have R6 := hideP r6; clear r6; have g0 := (b6.cell (p := ⟨w2.heap.size, 0, none⟩) l3).trans a0; have g1 := (b6.cell (p := ⟨w2.heap.size, 1, none⟩) l3).trans a1; have g2 := (b6.cell (p := ⟨w2.heap.size, 2, none⟩) l3).trans a2; have g3 := (b6.cell (p := ⟨w2.heap.size, 3, none⟩) l3).trans a3; have g4 := (b6.cell (p := ⟨w2.heap.size, 4, none⟩) l3).trans a4; have g5 := (b6.cell (p := ⟨w2.heap.size, 5, none⟩) l3).trans a5)
        | (go_at_call 15; (with_reducible refine (step_begin (w := w5.alloc _) ⟨f5.below (hd5 _), k5.below f5 (hd5 _), A3.out.below (bthen0 b5 (hd5 _))⟩ HCF.out cb1.1).mono ?_); rintro e w6 ⟨nf, nb, ni, no, rfl, r6, b6'⟩; have b6 : Below W3.heap.size W3 w6 := bthen0 (bthen0 b5 (hd5 _)) b6'; have nz : ¬ w2.heap.size = w5.heap.size := (by have := b5.size; omega); have q6 := (b6'.block w5.heap.size (heap_lt (World.alloc_heap_new w5 _))).trans (World.alloc_heap_new w5 _); have Q6 := hideP q6; have m0 := cell_at' q6 0; have m1 := cell_at' q6 1; have m2 := cell_at' q6 2; have m3 := cell_at' q6 3; have m4 := cell_at' q6 4; have m5 := cell_at' q6 5; simp at m0 m1 m2 m3 m4 m5; have mz := Lib.frozen_of_heap q6; have mz0 := mz 0; have mz1 := mz 1; have mz2 := mz 2; have mz3 := mz 3; have mz4 := mz 4; have mz5 := mz 5; clear mz; clear q6; have R6b : Hid (MRes w6 W3.heap.size _ _ _ _ _) := hideP (r6.low (Nat.le_trans b5.size (hd5 _).size)); obtain ⟨⟨qf, jf, hqf⟩, ⟨qb, jb, hqb⟩, ⟨qi, ji, hqi⟩, ⟨qo, jo, hqo⟩⟩ := mres_shpN r6; subst hqf hqb hqi hqo; have R6 := hideP r6; clear r6; have g0 := (b6.cell (p := ⟨w2.heap.size, 0, none⟩) l3).trans a0; have g1 := (b6.cell (p := ⟨w2.heap.size, 1, none⟩) l3).trans a1; have g2 := (b6.cell (p := ⟨w2.heap.size, 2, none⟩) l3).trans a2; have g3 := (b6.cell (p := ⟨w2.heap.size, 3, none⟩) l3).trans a3; have g4 := (b6.cell (p := ⟨w2.heap.size, 4, none⟩) l3).trans a4; have g5 := (b6.cell (p := ⟨w2.heap.size, 5, none⟩) l3).trans a5))
    all_goals
      go_wp2_with fail
      go_meet
    · have hF := begin_fin0 R6b.out (by rw [cb1.2]; decide) b6
      exact ⟨_, _, _, _, _, rfl, rfl, hF⟩
    · have hF := begin_fin R6b.out (by rw [cb1.2]; decide) b6 Q6.out b5.size
      exact ⟨_, _, _, _, _, rfl, rfl, hF⟩
    · have hF := begin_fin R6b.out (by rw [cb1.2]; decide) b6 Q6.out (Nat.le_refl _)
      exact ⟨_, _, _, _, _, rfl, rfl, hF⟩
  case rest =>
    obtain ⟨z, cf, cb, ci, co, rfl, rfl, hz, hA, hb⟩ := hcut
    rw [cb1.2] at hz hA
    have HA := hideP hA
    have HZ := hideP hz
    have B4 := hideP (bthen0 HB3.out hb)
    have lz := heap_lt hz
    clear hz hA hb A3 HB3 a0 a1 a2 a3 a4 a5 l3 hW3
    go_wp2_with fail
    refine (squareC_any _).mono ?_
    rintro e y1 ⟨v2, rfl, f2, k2, c1⟩
    have hsf := square_fits f2 k2
    have HSF := hideP hsf
    have HST := hideP (start_begin f2 k2 hsf cb2.1)
    go_wp2_with fail
    refine HST.out.mono ?_
    rintro e y2 ⟨xf2, xb2, xi2, xo2, rfl, r2, c2⟩
    have C2 := bthen0 c1 c2
    obtain ⟨⟨pf2, kf2, hf2⟩, ⟨pb2, kb2, hb2⟩, ⟨pi2, ki2, hi2⟩, ⟨po2, ko2, ho2⟩⟩ := mres_shpN r2
    subst hf2 hb2 hi2 ho2
    have A2 : MachAt y2 _ _ _ _ beginM := r2.at_ (by decide)
    obtain ⟨Y3, hY3⟩ : ∃ Y3, y2.alloc (.cells #[.slice pf2 beginM.frames.length kf2, .slice pb2 beginM.blocks.length kb2, .slice pi2 beginM.inp.length ki2, .slice po2 beginM.out.length ko2, .int .i64 beginM.status, .int .i64 beginM.trap] 29) = Y3 := ⟨_, rfl⟩
    have c3 : Below y2.heap.size y2 Y3 := by rw [← hY3]; exact (Below.refl _ y2).alloc (Nat.le_refl _) _
    have u3 : Y3.heap[y2.heap.size]? = some (.cells #[.slice pf2 beginM.frames.length kf2, .slice pb2 beginM.blocks.length kb2, .slice pi2 beginM.inp.length ki2, .slice po2 beginM.out.length ko2, .int .i64 beginM.status, .int .i64 beginM.trap] 29 (0, 0)) := by rw [← hY3]; exact World.alloc_heap_new y2 _
    have C3 := bthen0 C2 c3
    have A3 := hideP (A2.below c3)
    have l3 := heap_lt u3
    have a0 := cell_at' u3 0
    have a1 := cell_at' u3 1
    have a2 := cell_at' u3 2
    have a3 := cell_at' u3 3
    have a4 := cell_at' u3 4
    have a5 := cell_at' u3 5
    simp at a0 a1 a2 a3 a4 a5
    have HC3 := hideP C3
    have HA3 := hideP (HA.out.below C3)
    have hz3 := (C3.block z lz).trans HZ.out
    have lz3 := heap_lt hz3
    have HZ3 := hideP hz3
    clear f2 k2 hsf HST c1 c2 C2 r2 A2 c3 u3 C3 hz3 HA HZ
    obtain ⟨pz, cz, hcf, -, -, hfz⟩ := HA3.out.fr
    obtain ⟨gz, oz, lvz, svz, rfl, hgz, y0, y1, y2, y3, -, -, hSz, -⟩ := hfz 0 _ rfl
    obtain ⟨ps, cs, hsv, -, hsc⟩ := hSz
    obtain ⟨gs, os, rfl, hgs, s0, s1⟩ := hsc 0 _ rfl
    subst hsv hcf
    simp at y1 y3 s1
    have KZ : Hid (∀ W, Below Y3.heap.size Y3 W → W.cell? ⟨z, 0, none⟩ = some (.slice (some ⟨gz, oz, none⟩) 1 cz) ∧ W.cell? ⟨z, 1, none⟩ = some cb ∧ W.cell? ⟨z, 2, none⟩ = some ci ∧ W.cell? ⟨z, 3, none⟩ = some co ∧ W.cell? ⟨z, 4, none⟩ = some (.int .i64 secondM.status) ∧ W.cell? ⟨z, 5, none⟩ = some (.int .i64 secondM.trap) ∧ W.cell? ⟨gz, oz + 1, none⟩ = some (.int .i64 1) ∧ W.cell? ⟨gz, oz + 3, none⟩ = some (.slice (some ⟨gs, os, none⟩) 1 cs) ∧ W.cell? ⟨gs, os + 1, none⟩ = some (.int .i64 3)) := fun W hW => by
      have h1 := (hW.block _ lz3).trans HZ3.out
      exact ⟨cell_at' h1 0, cell_at' h1 1, cell_at' h1 2, cell_at' h1 3, cell_at' h1 4, cell_at' h1 5, (hW.cell (p := ⟨gz, oz + 1, none⟩) hgz).trans y1, (hW.cell (p := ⟨gz, oz + 3, none⟩) hgz).trans y3, (hW.cell (p := ⟨gs, os + 1, none⟩) hgs).trans s1⟩
    have HCK : Hid (∀ (W : World) (v : Value), FnsAt W v counterFns → CapAt W v → Below Y3.heap.size Y3 W → Calls Tryz.prog 21 #[.agg #[v], .agg #[.slice (some ⟨gz, oz, none⟩) 1 cz, cb, ci, co, .int .i64 secondM.status, .int .i64 secondM.trap]] W fun e w' => e = .returned (.int .i64 0) ∧ Below W.heap.size W w') := fun W v h1 h2 h3 => by
      have := mCheck_any secondM counterFns v _ cb ci co W ⟨h1, h2, HA3.out.below h3⟩ pcOk_second
      have hz := (begin_ok HCF.out cb1.1).2
      rw [cb1.2] at hz
      rw [hz] at this
      exact this
    clear y0 y1 y2 y3 s0 s1 hfz hsc
    go_upto_region 4 with fail
    go_cut [7, 8] from 25 (fun s3 s4 wx => ∃ (z : Nat) (fv bv iv ov : Value), s3 = .pointer (some ⟨z, 0, none⟩) ∧ s4 = .int .i64 0 ∧ wx.heap[z]? = some (.cells #[fv, bv, iv, ov, .int .i64 (stepM squareFns beginM).status, .int .i64 (stepM squareFns beginM).trap] 29 (0, 0)) ∧ MachAt wx fv bv iv ov (stepM squareFns beginM) ∧ Below Y3.heap.size Y3 wx)
    case first =>
      have hdA : ∀ o, Below Y3.heap.size Y3 (Y3.alloc o).drew := fun o => ((Below.refl _ Y3).alloc (Nat.le_refl _) o).drew
      go_region_held3 (fun W => W.cell? ⟨y2.heap.size, 0, none⟩ = some (.slice pf2 beginM.frames.length kf2) ∧ W.cell? ⟨y2.heap.size, 1, none⟩ = some (.slice pb2 beginM.blocks.length kb2) ∧ W.cell? ⟨y2.heap.size, 2, none⟩ = some (.slice pi2 beginM.inp.length ki2) ∧ W.cell? ⟨y2.heap.size, 3, none⟩ = some (.slice po2 beginM.out.length ko2) ∧ W.cell? ⟨y2.heap.size, 4, none⟩ = some (.int .i64 beginM.status) ∧ W.cell? ⟨y2.heap.size, 5, none⟩ = some (.int .i64 beginM.trap)) (first | go_keep | exact ⟨six_cell g0 nz, six_cell g1 nz, six_cell g2 nz, six_cell g3 nz, six_cell g4 nz, six_cell g5 nz⟩)
        (first
          | (go_at_call 60; (with_reducible refine (squareC_any _).mono ?_); rintro e w5 ⟨v5, rfl, f5, k5, b5'⟩; have b5 : Below Y3.heap.size Y3 w5 := bthen0 ((Below.refl _ Y3).drew) b5'; clear b5'; have h0 := (b5.cell (p := ⟨y2.heap.size, 0, none⟩) l3).trans a0; have h1 := (b5.cell (p := ⟨y2.heap.size, 1, none⟩) l3).trans a1; have h2 := (b5.cell (p := ⟨y2.heap.size, 2, none⟩) l3).trans a2; have h3 := (b5.cell (p := ⟨y2.heap.size, 3, none⟩) l3).trans a3; have h4 := (b5.cell (p := ⟨y2.heap.size, 4, none⟩) l3).trans a4; have h5 := (b5.cell (p := ⟨y2.heap.size, 5, none⟩) l3).trans a5; have hd5 : ∀ o, Below w5.heap.size w5 (w5.alloc o) := fun o => (Below.refl _ w5).alloc (Nat.le_refl _) o)
          | (go_at_call 60; (with_reducible refine (squareC_any _).mono ?_); rintro e w5 ⟨v5, rfl, f5, k5, b5'⟩; have b5 : Below Y3.heap.size Y3 w5 := bthen0 (hdA _) b5'; have q5 := (b5'.block Y3.heap.size (heap_lt (World.alloc_heap_new Y3 _))).trans (World.alloc_heap_new Y3 _); have Q5 := hideP q5; have m0 := cell_at' q5 0; have m1 := cell_at' q5 1; have m2 := cell_at' q5 2; have m3 := cell_at' q5 3; have m4 := cell_at' q5 4; have m5 := cell_at' q5 5; simp at m0 m1 m2 m3 m4 m5; have mz := Lib.frozen_of_heap q5; have mz0 := mz 0; have mz1 := mz 1; have mz2 := mz 2; have mz3 := mz 3; have mz4 := mz 4; have mz5 := mz 5; clear mz; clear b5' q5; have h0 := (b5.cell (p := ⟨y2.heap.size, 0, none⟩) l3).trans a0; have h1 := (b5.cell (p := ⟨y2.heap.size, 1, none⟩) l3).trans a1; have h2 := (b5.cell (p := ⟨y2.heap.size, 2, none⟩) l3).trans a2; have h3 := (b5.cell (p := ⟨y2.heap.size, 3, none⟩) l3).trans a3; have h4 := (b5.cell (p := ⟨y2.heap.size, 4, none⟩) l3).trans a4; have h5 := (b5.cell (p := ⟨y2.heap.size, 5, none⟩) l3).trans a5)
          | (go_at_call 15; (with_reducible refine (step_begin (w := w5) ⟨f5, k5, A3.out.below b5⟩ HSF.out cb2.1).mono ?_); rintro e w6 ⟨nf, nb, ni, no, rfl, r6, b6'⟩; have b6 : Below Y3.heap.size Y3 w6 := bthen0 b5 b6'; have nz : ¬ y2.heap.size = Y3.heap.size := (by omega); have q6 := (b6'.block Y3.heap.size (heap_lt Q5.out)).trans Q5.out; have Q6 := hideP q6; clear m0 m1 m2 m3 m4 m5 mz0 mz1 mz2 mz3 mz4 mz5; have m0 := cell_at' q6 0; have m1 := cell_at' q6 1; have m2 := cell_at' q6 2; have m3 := cell_at' q6 3; have m4 := cell_at' q6 4; have m5 := cell_at' q6 5; simp at m0 m1 m2 m3 m4 m5; have mz := Lib.frozen_of_heap q6; have mz0 := mz 0; have mz1 := mz 1; have mz2 := mz 2; have mz3 := mz 3; have mz4 := mz 4; have mz5 := mz 5; clear mz; clear q6; have R6b : Hid (MRes w6 Y3.heap.size _ _ _ _ _) := hideP (r6.low b5.size); obtain ⟨⟨qf, jf, hqf⟩, ⟨qb, jb, hqb⟩, ⟨qi, ji, hqi⟩, ⟨qo, jo, hqo⟩⟩ := mres_shpN r6; subst hqf hqb hqi hqo; have R6 := hideP r6; clear r6; have g0 := (b6.cell (p := ⟨y2.heap.size, 0, none⟩) l3).trans a0; have g1 := (b6.cell (p := ⟨y2.heap.size, 1, none⟩) l3).trans a1; have g2 := (b6.cell (p := ⟨y2.heap.size, 2, none⟩) l3).trans a2; have g3 := (b6.cell (p := ⟨y2.heap.size, 3, none⟩) l3).trans a3; have g4 := (b6.cell (p := ⟨y2.heap.size, 4, none⟩) l3).trans a4; have g5 := (b6.cell (p := ⟨y2.heap.size, 5, none⟩) l3).trans a5)
          | (go_at_call 15; (with_reducible refine (step_begin (w := w5) ⟨f5, k5, A3.out.below b5⟩ HSF.out cb2.1).mono ?_); rintro e w6 ⟨nf, nb, ni, no, rfl, r6, b6'⟩; have b6 : Below Y3.heap.size Y3 w6 := bthen0 b5 b6'; have nz : ¬ y2.heap.size = w6.heap.size := (by have := b6.size; omega); have R6b : Hid (MRes w6 Y3.heap.size _ _ _ _ _) := hideP (r6.low b5.size); obtain ⟨⟨qf, jf, hqf⟩, ⟨qb, jb, hqb⟩, ⟨qi, ji, hqi⟩, ⟨qo, jo, hqo⟩⟩ := mres_shpN r6; subst hqf hqb hqi hqo; have R6 := hideP r6; clear r6; have g0 := (b6.cell (p := ⟨y2.heap.size, 0, none⟩) l3).trans a0; have g1 := (b6.cell (p := ⟨y2.heap.size, 1, none⟩) l3).trans a1; have g2 := (b6.cell (p := ⟨y2.heap.size, 2, none⟩) l3).trans a2; have g3 := (b6.cell (p := ⟨y2.heap.size, 3, none⟩) l3).trans a3; have g4 := (b6.cell (p := ⟨y2.heap.size, 4, none⟩) l3).trans a4; have g5 := (b6.cell (p := ⟨y2.heap.size, 5, none⟩) l3).trans a5)
          | (go_at_call 15; (with_reducible refine (step_begin (w := w5.alloc _) ⟨f5.below (hd5 _), k5.below f5 (hd5 _), A3.out.below (bthen0 b5 (hd5 _))⟩ HSF.out cb2.1).mono ?_); rintro e w6 ⟨nf, nb, ni, no, rfl, r6, b6'⟩; have b6 : Below Y3.heap.size Y3 w6 := bthen0 (bthen0 b5 (hd5 _)) b6'; have nz : ¬ y2.heap.size = w5.heap.size := (by have := b5.size; omega); have q6 := (b6'.block w5.heap.size (heap_lt (World.alloc_heap_new w5 _))).trans (World.alloc_heap_new w5 _); have Q6 := hideP q6; have m0 := cell_at' q6 0; have m1 := cell_at' q6 1; have m2 := cell_at' q6 2; have m3 := cell_at' q6 3; have m4 := cell_at' q6 4; have m5 := cell_at' q6 5; simp at m0 m1 m2 m3 m4 m5; have mz := Lib.frozen_of_heap q6; have mz0 := mz 0; have mz1 := mz 1; have mz2 := mz 2; have mz3 := mz 3; have mz4 := mz 4; have mz5 := mz 5; clear mz; clear q6; have R6b : Hid (MRes w6 Y3.heap.size _ _ _ _ _) := hideP (r6.low (Nat.le_trans b5.size (hd5 _).size)); obtain ⟨⟨qf, jf, hqf⟩, ⟨qb, jb, hqb⟩, ⟨qi, ji, hqi⟩, ⟨qo, jo, hqo⟩⟩ := mres_shpN r6; subst hqf hqb hqi hqo; have R6 := hideP r6; clear r6; have g0 := (b6.cell (p := ⟨y2.heap.size, 0, none⟩) l3).trans a0; have g1 := (b6.cell (p := ⟨y2.heap.size, 1, none⟩) l3).trans a1; have g2 := (b6.cell (p := ⟨y2.heap.size, 2, none⟩) l3).trans a2; have g3 := (b6.cell (p := ⟨y2.heap.size, 3, none⟩) l3).trans a3; have g4 := (b6.cell (p := ⟨y2.heap.size, 4, none⟩) l3).trans a4; have g5 := (b6.cell (p := ⟨y2.heap.size, 5, none⟩) l3).trans a5))
      all_goals
        go_wp2_with fail
        go_meet
      · have hF := begin_fin0 R6b.out (by rw [cb2.2]; decide) b6
        exact ⟨_, _, _, _, _, rfl, rfl, hF⟩
      · have hF := begin_fin R6b.out (by rw [cb2.2]; decide) b6 Q6.out b5.size
        exact ⟨_, _, _, _, _, rfl, rfl, hF⟩
      · have hF := begin_fin R6b.out (by rw [cb2.2]; decide) b6 Q6.out (Nat.le_refl _)
        exact ⟨_, _, _, _, _, rfl, rfl, hF⟩
    case rest =>
      obtain ⟨z7, wf, wb, wi, wo, rfl, rfl, hz7, hA7, hb7⟩ := hcut
      rw [cb2.2] at hz7 hA7
      obtain ⟨pw, cw, hpw, -, -, hfw⟩ := hA7.fr
      obtain ⟨gw, ow, lw, sw, rfl, hgw, -, g1, -⟩ := hfw 0 _ rfl
      subst hpw
      simp at g1
      have lz7 := heap_lt hz7
      have m0 := cell_at' hz7 0
      have m4 := cell_at' hz7 4
      simp at m0 m4
      have K7 : Hid (∀ W, Below wc.heap.size wc W → W.cell? ⟨z7, 0, none⟩ = some (.slice (some ⟨gw, ow, none⟩) 1 cw) ∧ W.cell? ⟨z7, 4, none⟩ = some (.int .i64 1) ∧ W.cell? ⟨gw, ow + 1, none⟩ = some (.int .i64 0)) := fun W hW => ⟨(hW.cell (p := ⟨z7, 0, none⟩) lz7).trans m0, (hW.cell (p := ⟨z7, 4, none⟩) lz7).trans m4, (hW.cell (p := ⟨gw, ow + 1, none⟩) hgw).trans g1⟩
      have HB7 := hideP hb7
      obtain ⟨x0, x1, x2, x3, x4, x5, x6, x7, x8⟩ := KZ.out wc hb7
      obtain ⟨x9, x10, x11⟩ := K7.out wc (Below.refl _ _)
      clear hz7 hA7 hfw g1 m0 m4 hb7
      go_wp2_with fail
      simp only [List.append_eq, List.cons_append, List.nil_append]
      go_region_held3 (fun X => X.cell? ⟨z, 0, none⟩ = some (.slice (some ⟨gz, oz, none⟩) 1 cz) ∧ X.cell? ⟨z, 1, none⟩ = some cb ∧ X.cell? ⟨z, 2, none⟩ = some ci ∧ X.cell? ⟨z, 3, none⟩ = some co ∧ X.cell? ⟨z, 4, none⟩ = some (.int .i64 secondM.status) ∧ X.cell? ⟨z, 5, none⟩ = some (.int .i64 secondM.trap) ∧ X.cell? ⟨gz, oz + 1, none⟩ = some (.int .i64 1) ∧ X.cell? ⟨gz, oz + 3, none⟩ = some (.slice (some ⟨gs, os, none⟩) 1 cs) ∧ X.cell? ⟨gs, os + 1, none⟩ = some (.int .i64 3) ∧ X.cell? ⟨z7, 0, none⟩ = some (.slice (some ⟨gw, ow, none⟩) 1 cw) ∧ X.cell? ⟨z7, 4, none⟩ = some (.int .i64 1) ∧ X.cell? ⟨gw, ow + 1, none⟩ = some (.int .i64 0)) (go_keep)
        (first
          | (go_at_call 59; (with_reducible refine (counter_any _).mono ?_); rintro e w9 ⟨v9, rfl, f9, k9, b9'⟩; have b9 : Below wc.heap.size wc w9 := bthen0 ((Below.refl _ wc).drew) b9'; have c9 := bthen0 HB7.out b9; clear b9'; obtain ⟨e0, e1, e2, e3, e4, e5, e6, e7, e8⟩ := KZ.out w9 c9; obtain ⟨e9, e10, e11⟩ := K7.out w9 b9)
          | (go_at_call 21; (with_reducible refine (HCK.out w9 v9 f9 k9 c9).mono ?_); rintro e w10 ⟨rfl, b10⟩; have b10' := bthen0 b9 b10; have c10 := bthen0 c9 b10; obtain ⟨i0, i1, i2, i3, i4, i5, i6, i7, i8⟩ := KZ.out w10 c10; obtain ⟨i9, i10, i11⟩ := K7.out w10 b10'))
      go_wp2
      go_ret
      exact ⟨rfl, bthen0 B4.out (bthen0 HC3.out c10)⟩
end Go.Proofs.YtcadpoknolefpaaGreat


/- block.Keep. -/
namespace Go.Proofs.YtcadpoknolefpaaGreat
open Go.RowKit
set_option linter.unusedSimpArgs false
set_option linter.unusedVariables false
def LBox (bl : Nat) (v : Value) (W : World) : Prop := bl < W.heap.size ∧ W.cell? ⟨bl, 0, none⟩ = some v
theorem LBox.below {bl : Nat} {v : Value} {W W' : World} (h : LBox bl v W) (hb : Below W.heap.size W W') : LBox bl v W' := ⟨Nat.lt_of_lt_of_le h.1 hb.size, (hb.cell (p := ⟨bl, 0, none⟩) h.1).trans h.2⟩
end Go.Proofs.YtcadpoknolefpaaGreat


/- the reference's SameBlocks, CellsOf; blockBegun. -/
namespace Go.Proofs.YtcadpoknolefpaaGreat
open Go.RowKit
set_option linter.unusedSimpArgs false
set_option linter.unusedVariables false
set_option maxHeartbeats 1000000 in
theorem sameBlocks_any (L M : List (List Int)) (v u : Value) (w : World) (hL : BlksAt w v L) (hM : BlksAt w u M) : Calls Tryz.prog 64 #[v, u] w fun e w' => e = .returned (.bool (decide (L = M))) ∧ Below w.heap.size w w' := by
  obtain ⟨p, cap, rfl, hlm, hc⟩ := hL
  obtain ⟨q, cap', rfl, hmm, hd⟩ := hM
  unfold maxLen at hlm hmm
  by_cases hlen : L.length = M.length
  · have hlen' : ((L.length : Int) != (M.length : Int)) = false := by simp; omega
    have HLEN := hideP hlen
    have HC := hideP hc
    have HD := hideP hd
    clear hc hd hlen
    go_enter Tryz.func64, Tryz.ntmps64
    go_wp2
    go_loopw [5] (fun i wr => ∃ k : Nat, k ≤ L.length ∧ i = .int .i64 k ∧ L.take k = M.take k ∧ Below w.heap.size w wr) (fun i _ => L.length - (intOf i).toNat)
    case atStart => exact ⟨0, Nat.zero_le _, rfl, by simp, Below.refl _ _⟩
    case round =>
      rename World => w1
      obtain ⟨k, hk, rfl, htk, hbw⟩ := hrel
      have HT := hideP htk
      clear htk
      by_cases hlt : k < L.length
      · have hlt2 : k < M.length := by have := HLEN.out; omega
        obtain ⟨x, ho⟩ := at_of_lt hlt
        obtain ⟨y, ho'⟩ := at_of_lt hlt2
        obtain ⟨b, off, c, rfl, hb, h0, h1, _, _⟩ := HC.out k _ ho
        obtain ⟨b', off', c', rfl, hb', h0', h1', _, _⟩ := HD.out k _ ho'
        have g0 := (hbw.cell (p := ⟨b, off + k, none⟩) hb).trans h0
        have g0' := (hbw.cell (p := ⟨b', off' + k, none⟩) hb').trans h0'
        have hlti : (k : Int) < (L.length : Int) := by omega
        have hlti2 : (k : Int) < (M.length : Int) := by omega
        obtain ⟨p1, c1, hc1, _, _⟩ := id h1
        obtain ⟨p2, c2, hc2, _, _⟩ := id h1'
        subst hc1 hc2
        have HS := hideP (sameInts_any x y _ _ w1.drew ((h1.below hbw).below (Below.refl _ w1).drew) ((h1'.below hbw).below (Below.refl _ w1).drew))
        have HO := hideP ho
        have HO' := hideP ho'
        clear ho ho' h0 h0' h1 h1'
        by_cases he : x = y
        · rw [decide_eq_true he] at HS
          have HE := hideP he
          clear he
          go_wp2_with fail
          go_region_held3 (fun W => W.cell? ⟨b, off + k, none⟩ = some (.slice p1 x.length c1) ∧ W.cell? ⟨b', off' + k, none⟩ = some (.slice p2 y.length c2)) (go_keep)
            (first
            | (go_at_call 26; refine HS.out.mono ?_; rintro e w2 ⟨rfl, hb2⟩; have g2 := (hb2.cell (p := ⟨b, off + k, none⟩) (Nat.lt_of_lt_of_le hb hbw.size)).trans g0; have g2' := (hb2.cell (p := ⟨b', off' + k, none⟩) (Nat.lt_of_lt_of_le hb' hbw.size)).trans g0'))
          go_wp2
          go_roundw
          case rel => exact ⟨k + 1, by omega, by go_num, by rw [take_snoc L k _ HO.out, take_snoc M k _ HO'.out, HT.out, HE.out], hbw.trans ((((Below.refl w1.heap.size w1).drew).trans hb2).mono hbw.size)⟩
          case measure => simp [intOf]; omega
        · rw [decide_eq_false he] at HS
          have HE := hideP he
          clear he
          go_wp2_with fail
          go_region_held3 (fun W => W.cell? ⟨b, off + k, none⟩ = some (.slice p1 x.length c1) ∧ W.cell? ⟨b', off' + k, none⟩ = some (.slice p2 y.length c2)) (go_keep)
            (first
            | (go_at_call 26; refine HS.out.mono ?_; rintro e w2 ⟨rfl, hb2⟩; have g2 := (hb2.cell (p := ⟨b, off + k, none⟩) (Nat.lt_of_lt_of_le hb hbw.size)).trans g0; have g2' := (hb2.cell (p := ⟨b', off' + k, none⟩) (Nat.lt_of_lt_of_le hb' hbw.size)).trans g0'))
          go_wp2
          go_ret
          refine ⟨?_, hbw.trans ((((Below.refl w1.heap.size w1).drew).trans hb2).mono hbw.size)⟩
          have : ¬ L = M := fun h => by
            have h1 := HO.out
            rw [h, HO'.out] at h1
            simp at h1
            exact HE.out h1.symm
          simp [this]
      · have hlt' : ¬ (k : Int) < (L.length : Int) := by omega
        go_wp2
        go_ret
        refine ⟨?_, hbw⟩
        have : L = M := by
          have h := HT.out
          rwa [List.take_of_length_le (by omega), List.take_of_length_le (by have := HLEN.out; omega)] at h
        simp [this]
  · have hlen' : ((L.length : Int) != (M.length : Int)) = true := by simp; omega
    have hne : ¬ L = M := fun h => hlen (by rw [h])
    clear hc hd
    have HN := hideP hne
    clear hne hlen
    go_enter Tryz.func64, Tryz.ntmps64
    go_wp2
    go_ret
    exact ⟨by simp [HN.out], Below.refl _ _⟩
end Go.Proofs.YtcadpoknolefpaaGreat


