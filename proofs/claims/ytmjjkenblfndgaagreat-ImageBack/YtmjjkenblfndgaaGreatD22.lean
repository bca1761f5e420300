/- My texts Nr Qm Ta Tb: what of them is needed, joined. -/
import Derived.Deep.RegionWith
import Derived.Test.YtmjjkenblfndgaaGreatD16
import Derived.Test.YtmjjkenblfndgaaGreatD17
import Derived.Test.YtmjjkenblfndgaaGreatD21
set_option maxRecDepth 100000
set_option maxHeartbeats 8000000
/- What must be in any case of machines: machineBegun. -/
namespace Go.Proofs.YtmjjkenblfndgaaGreat
open Go.RowKit
set_option linter.unusedSimpArgs false
set_option linter.unusedVariables false
theorem six_heap {W : World} {R : Nat} {t : TypeId} {a0 a1 a2 a3 a4 a5 : Value} (h : W.heap[R]? = some (.cells #[a0, a1, a2, a3, a4, a5] t (0, 0))) {a b c d e f : Value} : ((((((W.setCell ⟨R, 0, none⟩ a).setCell ⟨R, 1, none⟩ b).setCell ⟨R, 2, none⟩ c).setCell ⟨R, 3, none⟩ d).setCell ⟨R, 4, none⟩ e).setCell ⟨R, 5, none⟩ f).heap[R]? = some (.cells #[a, b, c, d, e, f] t (0, 0)) := by
  have h1 := heap_setCell_same W R 0 _ _ a h
  have h2 := heap_setCell_same _ R 1 _ _ b h1
  have h3 := heap_setCell_same _ R 2 _ _ c h2
  have h4 := heap_setCell_same _ R 3 _ _ d h3
  have h5 := heap_setCell_same _ R 4 _ _ e h4
  have h6 := heap_setCell_same _ R 5 _ _ f h5
  simpa using h6
theorem xdyZ {w0 w6 : World} {z : Nat} {fv bv iv ov a0 a1 a2 a3 a4 a5 : Value} {M : Mach} (hr : MRes w6 w0.heap.size fv bv iv ov M) (h100 : M.inp.length ≤ 100) (hb : Below w0.heap.size w0 w6) (hz : w6.heap[z]? = some (.cells #[a0, a1, a2, a3, a4, a5] 48 (0, 0))) (hzb : w0.heap.size ≤ z) :
    ((((((w6.setCell ⟨z, 0, none⟩ fv).setCell ⟨z, 1, none⟩ bv).setCell ⟨z, 2, none⟩ iv).setCell ⟨z, 3, none⟩ ov).setCell ⟨z, 4, none⟩ (.int .i64 M.status)).setCell ⟨z, 5, none⟩ (.int .i64 M.trap)).heap[z]? = some (.cells #[fv, bv, iv, ov, .int .i64 M.status, .int .i64 M.trap] 48 (0, 0)) ∧ MachAt ((((((w6.setCell ⟨z, 0, none⟩ fv).setCell ⟨z, 1, none⟩ bv).setCell ⟨z, 2, none⟩ iv).setCell ⟨z, 3, none⟩ ov).setCell ⟨z, 4, none⟩ (.int .i64 M.status)).setCell ⟨z, 5, none⟩ (.int .i64 M.trap)) fv bv iv ov M ∧ Below w0.heap.size w0 ((((((w6.setCell ⟨z, 0, none⟩ fv).setCell ⟨z, 1, none⟩ bv).setCell ⟨z, 2, none⟩ iv).setCell ⟨z, 3, none⟩ ov).setCell ⟨z, 4, none⟩ (.int .i64 M.status)).setCell ⟨z, 5, none⟩ (.int .i64 M.trap)) := by
  obtain ⟨h1, h2⟩ := xd7Z hr hb hz hzb
  exact ⟨six_heap hz, h1.at_ h100, h2⟩
theorem xgfZ {w0 w6 : World} {fv bv iv ov : Value} {M : Mach} (hr : MRes w6 w0.heap.size fv bv iv ov M) (h100 : M.inp.length ≤ 100) (hb : Below w0.heap.size w0 w6) :
    (w6.alloc (.cells #[fv, bv, iv, ov, .int .i64 M.status, .int .i64 M.trap] 48)).heap[w6.heap.size]? = some (.cells #[fv, bv, iv, ov, .int .i64 M.status, .int .i64 M.trap] 48 (0, 0)) ∧ MachAt (w6.alloc (.cells #[fv, bv, iv, ov, .int .i64 M.status, .int .i64 M.trap] 48)) fv bv iv ov M ∧ Below w0.heap.size w0 (w6.alloc (.cells #[fv, bv, iv, ov, .int .i64 M.status, .int .i64 M.trap] 48)) :=
  ⟨World.alloc_heap_new w6 _, (hr.at_ h100).below ((Below.refl _ w6).alloc (Nat.le_refl _) _), hb.alloc hb.size _⟩
theorem xklZ (w : World) : Calls Tryz.prog 37 #[] w fun e w' => e = .returned (.bool true) ∧ Below w.heap.size w w' := by
  go_enter Tryz.func37, Tryz.ntmps37
  go_wp2_with fail
  refine (xcjZ _).mono ?_
  rintro e w1 ⟨v1, rfl, f1, k1, b1⟩
  have hcf := xiwZ f1 k1
  have HST := hideP (xhqZ f1 k1 hcf cb1.1)
  go_wp2_with fail
  refine HST.out.mono ?_
  rintro e w2 ⟨xf, xb, xi, xo, rfl, r2, b2⟩
  have B2 := xadZ b1 b2
  have HCF := hideP hcf
  obtain ⟨⟨pf, kf, hf⟩, ⟨pb, kb, hb⟩, ⟨pi, ki, hi⟩, ⟨po, ko, ho⟩⟩ := xbbZ r2
  subst hf hb hi ho
  have A2 : MachAt w2 _ _ _ _ beginM := r2.at_ (by decide)
  obtain ⟨W3, hW3⟩ : ∃ W3, w2.alloc (.cells #[.slice pf beginM.frames.length kf, .slice pb beginM.blocks.length kb, .slice pi beginM.inp.length ki, .slice po beginM.out.length ko, .int .i64 beginM.status, .int .i64 beginM.trap] 48) = W3 := ⟨_, rfl⟩
  have b3 : Below w2.heap.size w2 W3 := by rw [← hW3]; exact (Below.refl _ w2).alloc (Nat.le_refl _) _
  have u3 : W3.heap[w2.heap.size]? = some (.cells #[.slice pf beginM.frames.length kf, .slice pb beginM.blocks.length kb, .slice pi beginM.inp.length ki, .slice po beginM.out.length ko, .int .i64 beginM.status, .int .i64 beginM.trap] 48 (0, 0)) := by rw [← hW3]; exact World.alloc_heap_new w2 _
  have B3 := xadZ B2 b3
  have A3 := hideP (A2.below b3)
  have l3 := xacZ u3
  have a0 := xaaZ u3 0
  have a1 := xaaZ u3 1
  have a2 := xaaZ u3 2
  have a3 := xaaZ u3 3
  have a4 := xaaZ u3 4
  have a5 := xaaZ u3 5
  simp at a0 a1 a2 a3 a4 a5
  have HB3 := hideP B3
  clear f1 k1 hcf HST b1 b2 B2 r2 A2 b3 u3 B3
  go_upto_region 2 with fail
  go_cut [3, 4] from 14 (fun s3 s4 wx => ∃ (z : Nat) (fv bv iv ov : Value), s3 = .pointer (some ⟨z, 0, none⟩) ∧ s4 = .int .i64 0 ∧ wx.heap[z]? = some (.cells #[fv, bv, iv, ov, .int .i64 (stepM xavZ beginM).status, .int .i64 (stepM xavZ beginM).trap] 48 (0, 0)) ∧ MachAt wx fv bv iv ov (stepM xavZ beginM) ∧ Below W3.heap.size W3 wx)
  case first =>
    have hdA : ∀ o, Below W3.heap.size W3 (W3.alloc o).drew := fun o => ((Below.refl _ W3).alloc (Nat.le_refl _) o).drew
    go_region_held3 (fun W => W.cell? ⟨w2.heap.size, 0, none⟩ = some (.slice pf beginM.frames.length kf) ∧ W.cell? ⟨w2.heap.size, 1, none⟩ = some (.slice pb beginM.blocks.length kb) ∧ W.cell? ⟨w2.heap.size, 2, none⟩ = some (.slice pi beginM.inp.length ki) ∧ W.cell? ⟨w2.heap.size, 3, none⟩ = some (.slice po beginM.out.length ko) ∧ W.cell? ⟨w2.heap.size, 4, none⟩ = some (.int .i64 beginM.status) ∧ W.cell? ⟨w2.heap.size, 5, none⟩ = some (.int .i64 beginM.trap)) (first | go_keep | exact ⟨xa3Z g0 nz, xa3Z g1 nz, xa3Z g2 nz, xa3Z g3 nz, xa3Z g4 nz, xa3Z g5 nz⟩)
      (first
        | (go_at_call 51; (with_reducible refine (xcjZ _).mono ?_); rintro e w5 ⟨v5, rfl, f5, k5, b5'⟩; have b5 : Below W3.heap.size W3 w5 := xadZ ((Below.refl _ W3).drew) b5'; clear b5'; have h0 := (b5.cell (p := ⟨w2.heap.size, 0, none⟩) l3).trans a0; have h1 := (b5.cell (p := ⟨w2.heap.size, 1, none⟩) l3).trans a1; have h2 := (b5.cell (p := ⟨w2.heap.size, 2, none⟩) l3).trans a2; have h3 := (b5.cell (p := ⟨w2.heap.size, 3, none⟩) l3).trans a3; have h4 := (b5.cell (p := ⟨w2.heap.size, 4, none⟩) l3).trans a4; have h5 := (b5.cell (p := ⟨w2.heap.size, 5, none⟩) l3).trans a5; have hd5 : ∀ o, Below w5.heap.size w5 (w5.alloc o) := fun o => (Below.refl _ w5).alloc (Nat.le_refl _) o)
        | (go_at_call 51; (with_reducible refine (xcjZ _).mono ?_); rintro e w5 ⟨v5, rfl, f5, k5, b5'⟩; have b5 : Below W3.heap.size W3 w5 := xadZ (hdA _) b5'; have q5 := (b5'.block W3.heap.size (xacZ (World.alloc_heap_new W3 _))).trans (World.alloc_heap_new W3 _); have Q5 := hideP q5; have m0 := xaaZ q5 0; have m1 := xaaZ q5 1; have m2 := xaaZ q5 2; have m3 := xaaZ q5 3; have m4 := xaaZ q5 4; have m5 := xaaZ q5 5; simp at m0 m1 m2 m3 m4 m5; have mz := Lib.frozen_of_heap q5; have mz0 := mz 0; have mz1 := mz 1; have mz2 := mz 2; have mz3 := mz 3; have mz4 := mz 4; have mz5 := mz 5; clear mz; clear b5' q5; have h0 := (b5.cell (p := ⟨w2.heap.size, 0, none⟩) l3).trans a0; have h1 := (b5.cell (p := ⟨w2.heap.size, 1, none⟩) l3).trans a1; have h2 := (b5.cell (p := ⟨w2.heap.size, 2, none⟩) l3).trans a2; have h3 := (b5.cell (p := ⟨w2.heap.size, 3, none⟩) l3).trans a3; have h4 := (b5.cell (p := ⟨w2.heap.size, 4, none⟩) l3).trans a4; have h5 := (b5.cell (p := ⟨w2.heap.size, 5, none⟩) l3).trans a5)
        | (go_at_call 38; (with_reducible refine (xewZ (w := w5) ⟨f5, k5, A3.out.below b5⟩ HCF.out cb1.1).mono ?_); rintro e w6 ⟨nf, nb, ni, no, rfl, r6, b6'⟩; have b6 : Below W3.heap.size W3 w6 := xadZ b5 b6'; have nz : ¬ w2.heap.size = W3.heap.size := (by omega); have q6 := (b6'.block W3.heap.size (xacZ Q5.out)).trans Q5.out; have Q6 := hideP q6; clear m0 m1 m2 m3 m4 m5 mz0 mz1 mz2 mz3 mz4 mz5; have m0 := xaaZ q6 0; have m1 := xaaZ q6 1; have m2 := xaaZ q6 2; have m3 := xaaZ q6 3; have m4 := xaaZ q6 4; have m5 := xaaZ q6 5; simp at m0 m1 m2 m3 m4 m5; have mz := Lib.frozen_of_heap q6; have mz0 := mz 0; have mz1 := mz 1; have mz2 := mz 2; have mz3 := mz 3; have mz4 := mz 4; have mz5 := mz 5; clear mz; clear q6; have R6b : Hid (MRes w6 W3.heap.size _ _ _ _ _) := hideP (r6.low b5.size); obtain ⟨⟨qf, jf, hqf⟩, ⟨qb, jb, hqb⟩, ⟨qi, ji, hqi⟩, ⟨qo, jo, hqo⟩⟩ := xbbZ r6; subst hqf hqb hqi hqo; have R6 := hideP r6; clear r6; have g0 := (b6.cell (p := ⟨w2.heap.size, 0, none⟩) l3).trans a0; have g1 := (b6.cell (p := ⟨w2.heap.size, 1, none⟩) l3).trans a1; have g2 := (b6.cell (p := ⟨w2.heap.size, 2, none⟩) l3).trans a2; have g3 := (b6.cell (p := ⟨w2.heap.size, 3, none⟩) l3).trans a3; have g4 := (b6.cell (p := ⟨w2.heap.size, 4, none⟩) l3).trans a4; have g5 := (b6.cell (p := ⟨w2.heap.size, 5, none⟩) l3).trans a5)
        | (go_at_call 38; (with_reducible refine (xewZ (w := w5) ⟨f5, k5, A3.out.below b5⟩ HCF.out cb1.1).mono ?_); rintro e w6 ⟨nf, nb, ni, no, rfl, r6, b6'⟩; have b6 : Below W3.heap.size W3 w6 := xadZ b5 b6'; have nz : ¬ w2.heap.size = w6.heap.size := (by have := b6.size; omega); have R6b : Hid (MRes w6 W3.heap.size _ _ _ _ _) := hideP (r6.low b5.size); obtain ⟨⟨qf, jf, hqf⟩, ⟨qb, jb, hqb⟩, ⟨qi, ji, hqi⟩, ⟨qo, jo, hqo⟩⟩ := xbbZ r6; subst hqf hqb hqi hqo; have R6 := hideP r6; clear r6; have g0 := (b6.cell (p := ⟨w2.heap.size, 0, none⟩) l3).trans a0; have g1 := (b6.cell (p := ⟨w2.heap.size, 1, none⟩) l3).trans a1; have g2 := (b6.cell (p := ⟨w2.heap.size, 2, none⟩) l3).trans a2; have g3 := (b6.cell (p := ⟨w2.heap.size, 3, none⟩) l3).trans a3; have g4 := (b6.cell (p := ⟨w2.heap.size, 4, none⟩) l3).trans a4; have g5 := (b6.cell (p := ⟨w2.heap.size, 5, none⟩) l3).trans a5)
        | (go_at_call 38; (with_reducible refine (xewZ (w := w5.alloc _) ⟨f5.below (hd5 _), k5.below f5 (hd5 _), A3.out.below (xadZ b5 (hd5 _))⟩ HCF.out cb1.1).mono ?_); rintro e w6 ⟨nf, nb, ni, no, rfl, r6, b6'⟩; have b6 : Below W3.heap.size W3 w6 := xadZ (xadZ b5 (hd5 _)) b6'; have nz : ¬ w2.heap.size = w5.heap.size := (by have := b5.size; omega); have q6 := (b6'.block w5.heap.size (xacZ (World.alloc_heap_new w5 _))).trans (World.alloc_heap_new w5 _); have Q6 := hideP q6; have m0 := xaaZ q6 0; have m1 := xaaZ q6 1; have m2 := xaaZ q6 2; have m3 := xaaZ q6 3; have m4 := xaaZ q6 4; have m5 := xaaZ q6 5; simp at m0 m1 m2 m3 m4 m5; have mz := Lib.frozen_of_heap q6; have mz0 := mz 0; have mz1 := mz 1; have mz2 := mz 2; have mz3 := mz 3; have mz4 := mz 4; have mz5 := mz 5; clear mz; clear q6; have R6b : Hid (MRes w6 W3.heap.size _ _ _ _ _) := hideP (r6.low (Nat.le_trans b5.size (hd5 _).size)); obtain ⟨⟨qf, jf, hqf⟩, ⟨qb, jb, hqb⟩, ⟨qi, ji, hqi⟩, ⟨qo, jo, hqo⟩⟩ := xbbZ r6; subst hqf hqb hqi hqo; have R6 := hideP r6; clear r6; have g0 := (b6.cell (p := ⟨w2.heap.size, 0, none⟩) l3).trans a0; have g1 := (b6.cell (p := ⟨w2.heap.size, 1, none⟩) l3).trans a1; have g2 := (b6.cell (p := ⟨w2.heap.size, 2, none⟩) l3).trans a2; have g3 := (b6.cell (p := ⟨w2.heap.size, 3, none⟩) l3).trans a3; have g4 := (b6.cell (p := ⟨w2.heap.size, 4, none⟩) l3).trans a4; have g5 := (b6.cell (p := ⟨w2.heap.size, 5, none⟩) l3).trans a5))
    all_goals
      go_wp2_with fail
      go_meet
    · have hF := xgfZ R6b.out (by rw [cb1.2]; decide) b6
      exact ⟨_, _, _, _, _, rfl, rfl, hF⟩
    · have hF := xdyZ R6b.out (by rw [cb1.2]; decide) b6 Q6.out b5.size
      exact ⟨_, _, _, _, _, rfl, rfl, hF⟩
    · have hF := xdyZ R6b.out (by rw [cb1.2]; decide) b6 Q6.out (Nat.le_refl _)
      exact ⟨_, _, _, _, _, rfl, rfl, hF⟩
  case rest =>
    obtain ⟨z, cf, cb, ci, co, rfl, rfl, hz, hA, hb⟩ := hcut
    rw [cb1.2] at hz hA
    have HA := hideP hA
    have HZ := hideP hz
    have B4 := hideP (xadZ HB3.out hb)
    have lz := xacZ hz
    clear hz hA hb A3 HB3 a0 a1 a2 a3 a4 a5 l3 hW3
    go_wp2_with fail
    refine (xhpZ _).mono ?_
    rintro e y1 ⟨v2, rfl, f2, k2, c1⟩
    have hsf := xqiZ f2 k2
    have HSF := hideP hsf
    have HST := hideP (xhqZ f2 k2 hsf cb2.1)
    go_wp2_with fail
    refine HST.out.mono ?_
    rintro e y2 ⟨xf2, xb2, xi2, xo2, rfl, r2, c2⟩
    have C2 := xadZ c1 c2
    obtain ⟨⟨pf2, kf2, hf2⟩, ⟨pb2, kb2, hb2⟩, ⟨pi2, ki2, hi2⟩, ⟨po2, ko2, ho2⟩⟩ := xbbZ r2
    subst hf2 hb2 hi2 ho2
    have A2 : MachAt y2 _ _ _ _ beginM := r2.at_ (by decide)
    obtain ⟨Y3, hY3⟩ : ∃ Y3, y2.alloc (.cells #[.slice pf2 beginM.frames.length kf2, .slice pb2 beginM.blocks.length kb2, .slice pi2 beginM.inp.length ki2, .slice po2 beginM.out.length ko2, .int .i64 beginM.status, .int .i64 beginM.trap] 48) = Y3 := ⟨_, rfl⟩
    have c3 : Below y2.heap.size y2 Y3 := by rw [← hY3]; exact (Below.refl _ y2).alloc (Nat.le_refl _) _
    have u3 : Y3.heap[y2.heap.size]? = some (.cells #[.slice pf2 beginM.frames.length kf2, .slice pb2 beginM.blocks.length kb2, .slice pi2 beginM.inp.length ki2, .slice po2 beginM.out.length ko2, .int .i64 beginM.status, .int .i64 beginM.trap] 48 (0, 0)) := by rw [← hY3]; exact World.alloc_heap_new y2 _
    have C3 := xadZ C2 c3
    have A3 := hideP (A2.below c3)
    have l3 := xacZ u3
    have a0 := xaaZ u3 0
    have a1 := xaaZ u3 1
    have a2 := xaaZ u3 2
    have a3 := xaaZ u3 3
    have a4 := xaaZ u3 4
    have a5 := xaaZ u3 5
    simp at a0 a1 a2 a3 a4 a5
    have HC3 := hideP C3
    have HA3 := hideP (HA.out.below C3)
    have hz3 := (C3.block z lz).trans HZ.out
    have lz3 := xacZ hz3
    have HZ3 := hideP hz3
    clear f2 k2 hsf HST c1 c2 C2 r2 A2 c3 u3 C3 hz3 HA HZ
    obtain ⟨pz, cz, hcf, -, -, hfz⟩ := HA3.out.fr
    obtain ⟨gz, oz, lvz, svz, rfl, hgz, y0, y1, y2, y3, -, -, hSz, -⟩ := hfz 0 _ rfl
    obtain ⟨ps, cs, hsv, -, hsc⟩ := hSz
    obtain ⟨gs, os, rfl, hgs, s0, s1⟩ := hsc 0 _ rfl
    subst hsv hcf
    simp at y1 y3 s1
    have KZ : Hid (∀ W, Below Y3.heap.size Y3 W → W.cell? ⟨z, 0, none⟩ = some (.slice (some ⟨gz, oz, none⟩) 1 cz) ∧ W.cell? ⟨z, 1, none⟩ = some cb ∧ W.cell? ⟨z, 2, none⟩ = some ci ∧ W.cell? ⟨z, 3, none⟩ = some co ∧ W.cell? ⟨z, 4, none⟩ = some (.int .i64 secondM.status) ∧ W.cell? ⟨z, 5, none⟩ = some (.int .i64 secondM.trap) ∧ W.cell? ⟨gz, oz + 1, none⟩ = some (.int .i64 1) ∧ W.cell? ⟨gz, oz + 3, none⟩ = some (.slice (some ⟨gs, os, none⟩) 1 cs) ∧ W.cell? ⟨gs, os + 1, none⟩ = some (.int .i64 3)) := fun W hW => by
      have h1 := (hW.block _ lz3).trans HZ3.out
      exact ⟨xaaZ h1 0, xaaZ h1 1, xaaZ h1 2, xaaZ h1 3, xaaZ h1 4, xaaZ h1 5, (hW.cell (p := ⟨gz, oz + 1, none⟩) hgz).trans y1, (hW.cell (p := ⟨gz, oz + 3, none⟩) hgz).trans y3, (hW.cell (p := ⟨gs, os + 1, none⟩) hgs).trans s1⟩
    have HCK : Hid (∀ (W : World) (v : Value), FnsAt W v xavZ → CapAt W v → Below Y3.heap.size Y3 W → Calls Tryz.prog 36 #[.agg #[v], .agg #[.slice (some ⟨gz, oz, none⟩) 1 cz, cb, ci, co, .int .i64 secondM.status, .int .i64 secondM.trap]] W fun e w' => e = .returned (.int .i64 0) ∧ Below W.heap.size W w') := fun W v h1 h2 h3 => by
      have := xd6Z secondM xavZ v _ cb ci co W ⟨h1, h2, HA3.out.below h3⟩ xqeZ
      have hz := (xj8Z HCF.out cb1.1).2
      rw [cb1.2] at hz
      rw [hz] at this
      exact this
    clear y0 y1 y2 y3 s0 s1 hfz hsc
    go_upto_region 4 with fail
    go_cut [7, 8] from 25 (fun s3 s4 wx => ∃ (z : Nat) (fv bv iv ov : Value), s3 = .pointer (some ⟨z, 0, none⟩) ∧ s4 = .int .i64 0 ∧ wx.heap[z]? = some (.cells #[fv, bv, iv, ov, .int .i64 (stepM xbkZ beginM).status, .int .i64 (stepM xbkZ beginM).trap] 48 (0, 0)) ∧ MachAt wx fv bv iv ov (stepM xbkZ beginM) ∧ Below Y3.heap.size Y3 wx)
    case first =>
      have hdA : ∀ o, Below Y3.heap.size Y3 (Y3.alloc o).drew := fun o => ((Below.refl _ Y3).alloc (Nat.le_refl _) o).drew
      go_region_held3 (fun W => W.cell? ⟨y2.heap.size, 0, none⟩ = some (.slice pf2 beginM.frames.length kf2) ∧ W.cell? ⟨y2.heap.size, 1, none⟩ = some (.slice pb2 beginM.blocks.length kb2) ∧ W.cell? ⟨y2.heap.size, 2, none⟩ = some (.slice pi2 beginM.inp.length ki2) ∧ W.cell? ⟨y2.heap.size, 3, none⟩ = some (.slice po2 beginM.out.length ko2) ∧ W.cell? ⟨y2.heap.size, 4, none⟩ = some (.int .i64 beginM.status) ∧ W.cell? ⟨y2.heap.size, 5, none⟩ = some (.int .i64 beginM.trap)) (first | go_keep | exact ⟨xa3Z g0 nz, xa3Z g1 nz, xa3Z g2 nz, xa3Z g3 nz, xa3Z g4 nz, xa3Z g5 nz⟩)
        (first
          | (go_at_call 47; (with_reducible refine (xhpZ _).mono ?_); rintro e w5 ⟨v5, rfl, f5, k5, b5'⟩; have b5 : Below Y3.heap.size Y3 w5 := xadZ ((Below.refl _ Y3).drew) b5'; clear b5'; have h0 := (b5.cell (p := ⟨y2.heap.size, 0, none⟩) l3).trans a0; have h1 := (b5.cell (p := ⟨y2.heap.size, 1, none⟩) l3).trans a1; have h2 := (b5.cell (p := ⟨y2.heap.size, 2, none⟩) l3).trans a2; have h3 := (b5.cell (p := ⟨y2.heap.size, 3, none⟩) l3).trans a3; have h4 := (b5.cell (p := ⟨y2.heap.size, 4, none⟩) l3).trans a4; have h5 := (b5.cell (p := ⟨y2.heap.size, 5, none⟩) l3).trans a5; have hd5 : ∀ o, Below w5.heap.size w5 (w5.alloc o) := fun o => (Below.refl _ w5).alloc (Nat.le_refl _) o)
          | (go_at_call 47; (with_reducible refine (xhpZ _).mono ?_); rintro e w5 ⟨v5, rfl, f5, k5, b5'⟩; have b5 : Below Y3.heap.size Y3 w5 := xadZ (hdA _) b5'; have q5 := (b5'.block Y3.heap.size (xacZ (World.alloc_heap_new Y3 _))).trans (World.alloc_heap_new Y3 _); have Q5 := hideP q5; have m0 := xaaZ q5 0; have m1 := xaaZ q5 1; have m2 := xaaZ q5 2; have m3 := xaaZ q5 3; have m4 := xaaZ q5 4; have m5 := xaaZ q5 5; simp at m0 m1 m2 m3 m4 m5; have mz := Lib.frozen_of_heap q5; have mz0 := mz 0; have mz1 := mz 1; have mz2 := mz 2; have mz3 := mz 3; have mz4 := mz 4; have mz5 := mz 5; clear mz; clear b5' q5; have h0 := (b5.cell (p := ⟨y2.heap.size, 0, none⟩) l3).trans a0; have h1 := (b5.cell (p := ⟨y2.heap.size, 1, none⟩) l3).trans a1; have h2 := (b5.cell (p := ⟨y2.heap.size, 2, none⟩) l3).trans a2; have h3 := (b5.cell (p := ⟨y2.heap.size, 3, none⟩) l3).trans a3; have h4 := (b5.cell (p := ⟨y2.heap.size, 4, none⟩) l3).trans a4; have h5 := (b5.cell (p := ⟨y2.heap.size, 5, none⟩) l3).trans a5)
          | (go_at_call 38; (with_reducible refine (xewZ (w := w5) ⟨f5, k5, A3.out.below b5⟩ HSF.out cb2.1).mono ?_); rintro e w6 ⟨nf, nb, ni, no, rfl, r6, b6'⟩; have b6 : Below Y3.heap.size Y3 w6 := xadZ b5 b6'; have nz : ¬ y2.heap.size = Y3.heap.size := (by omega); have q6 := (b6'.block Y3.heap.size (xacZ Q5.out)).trans Q5.out; have Q6 := hideP q6; clear m0 m1 m2 m3 m4 m5 mz0 mz1 mz2 mz3 mz4 mz5; have m0 := xaaZ q6 0; have m1 := xaaZ q6 1; have m2 := xaaZ q6 2; have m3 := xaaZ q6 3; have m4 := xaaZ q6 4; have m5 := xaaZ q6 5; simp at m0 m1 m2 m3 m4 m5; have mz := Lib.frozen_of_heap q6; have mz0 := mz 0; have mz1 := mz 1; have mz2 := mz 2; have mz3 := mz 3; have mz4 := mz 4; have mz5 := mz 5; clear mz; clear q6; have R6b : Hid (MRes w6 Y3.heap.size _ _ _ _ _) := hideP (r6.low b5.size); obtain ⟨⟨qf, jf, hqf⟩, ⟨qb, jb, hqb⟩, ⟨qi, ji, hqi⟩, ⟨qo, jo, hqo⟩⟩ := xbbZ r6; subst hqf hqb hqi hqo; have R6 := hideP r6; clear r6; have g0 := (b6.cell (p := ⟨y2.heap.size, 0, none⟩) l3).trans a0; have g1 := (b6.cell (p := ⟨y2.heap.size, 1, none⟩) l3).trans a1; have g2 := (b6.cell (p := ⟨y2.heap.size, 2, none⟩) l3).trans a2; have g3 := (b6.cell (p := ⟨y2.heap.size, 3, none⟩) l3).trans a3; have g4 := (b6.cell (p := ⟨y2.heap.size, 4, none⟩) l3).trans a4; have g5 := (b6.cell (p := ⟨y2.heap.size, 5, none⟩) l3).trans a5)
          | (go_at_call 38; (with_reducible refine (xewZ (w := w5) ⟨f5, k5, A3.out.below b5⟩ HSF.out cb2.1).mono ?_); rintro e w6 ⟨nf, nb, ni, no, rfl, r6, b6'⟩; have b6 : Below Y3.heap.size Y3 w6 := xadZ b5 b6'; have nz : ¬ y2.heap.size = w6.heap.size := (by have := b6.size; omega); have R6b : Hid (MRes w6 Y3.heap.size _ _ _ _ _) := hideP (r6.low b5.size); obtain ⟨⟨qf, jf, hqf⟩, ⟨qb, jb, hqb⟩, ⟨qi, ji, hqi⟩, ⟨qo, jo, hqo⟩⟩ := xbbZ r6; subst hqf hqb hqi hqo; have R6 := hideP r6; clear r6; have g0 := (b6.cell (p := ⟨y2.heap.size, 0, none⟩) l3).trans a0; have g1 := (b6.cell (p := ⟨y2.heap.size, 1, none⟩) l3).trans a1; have g2 := (b6.cell (p := ⟨y2.heap.size, 2, none⟩) l3).trans a2; have g3 := (b6.cell (p := ⟨y2.heap.size, 3, none⟩) l3).trans a3; have g4 := (b6.cell (p := ⟨y2.heap.size, 4, none⟩) l3).trans a4; have g5 := (b6.cell (p := ⟨y2.heap.size, 5, none⟩) l3).trans a5)
          | (go_at_call 38; (with_reducible refine (xewZ (w := w5.alloc _) ⟨f5.below (hd5 _), k5.below f5 (hd5 _), A3.out.below (xadZ b5 (hd5 _))⟩ HSF.out cb2.1).mono ?_); rintro e w6 ⟨nf, nb, ni, no, rfl, r6, b6'⟩; have b6 : Below Y3.heap.size Y3 w6 := xadZ (xadZ b5 (hd5 _)) b6'; have nz : ¬ y2.heap.size = w5.heap.size := (by have := b5.size; omega); have q6 := (b6'.block w5.heap.size (xacZ (World.alloc_heap_new w5 _))).trans (World.alloc_heap_new w5 _); have Q6 := hideP q6; have m0 := xaaZ q6 0; have m1 := xaaZ q6 1; have m2 := xaaZ q6 2; have m3 := xaaZ q6 3; have m4 := xaaZ q6 4; have m5 := xaaZ q6 5; simp at m0 m1 m2 m3 m4 m5; have mz := Lib.frozen_of_heap q6; have mz0 := mz 0; have mz1 := mz 1; have mz2 := mz 2; have mz3 := mz 3; have mz4 := mz 4; have mz5 := mz 5; clear mz; clear q6; have R6b : Hid (MRes w6 Y3.heap.size _ _ _ _ _) := hideP (r6.low (Nat.le_trans b5.size (hd5 _).size)); obtain ⟨⟨qf, jf, hqf⟩, ⟨qb, jb, hqb⟩, ⟨qi, ji, hqi⟩, ⟨qo, jo, hqo⟩⟩ := xbbZ r6; subst hqf hqb hqi hqo; have R6 := hideP r6; clear r6; have g0 := (b6.cell (p := ⟨y2.heap.size, 0, none⟩) l3).trans a0; have g1 := (b6.cell (p := ⟨y2.heap.size, 1, none⟩) l3).trans a1; have g2 := (b6.cell (p := ⟨y2.heap.size, 2, none⟩) l3).trans a2; have g3 := (b6.cell (p := ⟨y2.heap.size, 3, none⟩) l3).trans a3; have g4 := (b6.cell (p := ⟨y2.heap.size, 4, none⟩) l3).trans a4; have g5 := (b6.cell (p := ⟨y2.heap.size, 5, none⟩) l3).trans a5))
      all_goals
        go_wp2_with fail
        go_meet
      · have hF := xgfZ R6b.out (by rw [cb2.2]; decide) b6
        exact ⟨_, _, _, _, _, rfl, rfl, hF⟩
      · have hF := xdyZ R6b.out (by rw [cb2.2]; decide) b6 Q6.out b5.size
        exact ⟨_, _, _, _, _, rfl, rfl, hF⟩
      · have hF := xdyZ R6b.out (by rw [cb2.2]; decide) b6 Q6.out (Nat.le_refl _)
        exact ⟨_, _, _, _, _, rfl, rfl, hF⟩
    case rest =>
      obtain ⟨z7, wf, wb, wi, wo, rfl, rfl, hz7, hA7, hb7⟩ := hcut
      rw [cb2.2] at hz7 hA7
      obtain ⟨pw, cw, hpw, -, -, hfw⟩ := hA7.fr
      obtain ⟨gw, ow, lw, sw, rfl, hgw, -, g1, -⟩ := hfw 0 _ rfl
      subst hpw
      simp at g1
      have lz7 := xacZ hz7
      have m0 := xaaZ hz7 0
      have m4 := xaaZ hz7 4
      simp at m0 m4
      have K7 : Hid (∀ W, Below wc.heap.size wc W → W.cell? ⟨z7, 0, none⟩ = some (.slice (some ⟨gw, ow, none⟩) 1 cw) ∧ W.cell? ⟨z7, 4, none⟩ = some (.int .i64 1) ∧ W.cell? ⟨gw, ow + 1, none⟩ = some (.int .i64 0)) := fun W hW => ⟨(hW.cell (p := ⟨z7, 0, none⟩) lz7).trans m0, (hW.cell (p := ⟨z7, 4, none⟩) lz7).trans m4, (hW.cell (p := ⟨gw, ow + 1, none⟩) hgw).trans g1⟩
      have HB7 := hideP hb7
      obtain ⟨x0, x1, x2, x3, x4, x5, x6, x7, x8⟩ := KZ.out wc hb7
      obtain ⟨x9, x10, x11⟩ := K7.out wc (Below.refl _ _)
      clear hz7 hA7 hfw g1 m0 m4 hb7
      go_wp2_with fail
      simp only [List.append_eq, List.cons_append, List.nil_append]
      go_region_held3 (fun X => X.cell? ⟨z, 0, none⟩ = some (.slice (some ⟨gz, oz, none⟩) 1 cz) ∧ X.cell? ⟨z, 1, none⟩ = some cb ∧ X.cell? ⟨z, 2, none⟩ = some ci ∧ X.cell? ⟨z, 3, none⟩ = some co ∧ X.cell? ⟨z, 4, none⟩ = some (.int .i64 secondM.status) ∧ X.cell? ⟨z, 5, none⟩ = some (.int .i64 secondM.trap) ∧ X.cell? ⟨gz, oz + 1, none⟩ = some (.int .i64 1) ∧ X.cell? ⟨gz, oz + 3, none⟩ = some (.slice (some ⟨gs, os, none⟩) 1 cs) ∧ X.cell? ⟨gs, os + 1, none⟩ = some (.int .i64 3) ∧ X.cell? ⟨z7, 0, none⟩ = some (.slice (some ⟨gw, ow, none⟩) 1 cw) ∧ X.cell? ⟨z7, 4, none⟩ = some (.int .i64 1) ∧ X.cell? ⟨gw, ow + 1, none⟩ = some (.int .i64 0)) (go_keep)
        (first
          | (go_at_call 51; (with_reducible refine (xcjZ _).mono ?_); rintro e w9 ⟨v9, rfl, f9, k9, b9'⟩; have b9 : Below wc.heap.size wc w9 := xadZ ((Below.refl _ wc).drew) b9'; have c9 := xadZ HB7.out b9; clear b9'; obtain ⟨e0, e1, e2, e3, e4, e5, e6, e7, e8⟩ := KZ.out w9 c9; obtain ⟨e9, e10, e11⟩ := K7.out w9 b9)
          | (go_at_call 36; (with_reducible refine (HCK.out w9 v9 f9 k9 c9).mono ?_); rintro e w10 ⟨rfl, b10⟩; have b10' := xadZ b9 b10; have c10 := xadZ c9 b10; obtain ⟨i0, i1, i2, i3, i4, i5, i6, i7, i8⟩ := KZ.out w10 c10; obtain ⟨i9, i10, i11⟩ := K7.out w10 b10'))
      go_wp2
      go_ret
      exact ⟨rfl, xadZ B4.out (xadZ HC3.out c10)⟩
end Go.Proofs.YtmjjkenblfndgaaGreat


/- Fuel, plainly (chapter 7): a run is steps, each paid. -/
namespace Go.Proofs.YtmjjkenblfndgaaGreat
open Go.RowKit
set_option linter.unusedSimpArgs false
set_option linter.unusedVariables false
def costM (c : Int) : Int := if c = 14 then 3 else if c = 12 then 2 else 1
theorem costM_le (c : Int) : 1 ≤ costM c ∧ costM c ≤ 3 := by
  unfold costM
  split
  · omega
  · split <;> omega
abbrev MF := Mach × Int
def pay (p : List Fn) (s : MF) : Option MF := match xcfZ p s.1 with
  | none => none
  | some o => if s.2 < costM o.1 then none else some (stepM p s.1, s.2 - costM o.1)
inductive Ends (p : List Fn) : MF → MF → Prop
  | stop {s : MF} (h : s.1.status ≠ 0) : Ends p s s
  | poor {s : MF} (h : pay p s = none) : Ends p s s
  | on {s s' t : MF} (h0 : s.1.status = 0) (h : pay p s = some s') (ht : Ends p s' t) : Ends p s t
theorem xibZ {p : List Fn} {s s' : MF} (h : pay p s = some s') : 0 ≤ s'.2 ∧ s'.2 + 1 ≤ s.2 ∧ s'.1 = stepM p s.1 := by
  unfold pay at h
  cases hl : xcfZ p s.1 with
  | none => rw [hl] at h; cases h
  | some o =>
    rw [hl] at h
    simp only at h
    have := costM_le o.1
    split at h
    · cases h
    · cases h
      exact ⟨by simp only; omega, by simp only; omega, rfl⟩
theorem ends_one {p : List Fn} {s t u : MF} (h : Ends p s t) (k : Ends p s u) : t = u := by
  induction h with
  | stop h => cases k with
    | stop _ => rfl
    | poor _ => rfl
    | on h0 _ _ => exact absurd h0 h
  | poor h => cases k with
    | stop _ => rfl
    | poor _ => rfl
    | on _ h1 _ => rw [h] at h1; cases h1
  | on h0 h _ ih => cases k with
    | stop h1 => exact absurd h0 h1
    | poor h1 => rw [h] at h1; cases h1
    | on _ h1 h2 =>
      rw [h] at h1
      cases h1
      exact ih h2
theorem xptZ {p : List Fn} {s t : MF} (h : Ends p s t) (h0 : 0 ≤ s.2) : 0 ≤ t.2 ∧ t.2 ≤ s.2 := by
  induction h with
  | stop _ => exact ⟨h0, Int.le_refl _⟩
  | poor _ => exact ⟨h0, Int.le_refl _⟩
  | on _ h _ ih =>
    obtain ⟨h1, h2, _⟩ := xibZ h
    have := ih h1
    omega
theorem ends_right {p : List Fn} {e : Nat → Nat → Option (List Int)} {s t : MF} (hp : xanZ p = 0) (he : xa1Z p e) (h : Ends p s t) (hr : RightM p e s.1) : RightM p e t.1 := by
  induction h with
  | stop _ => exact hr
  | poor _ => exact hr
  | on _ h _ ih =>
    obtain ⟨_, _, h3⟩ := xibZ h
    exact ih (by rw [h3]; exact xdmZ hp he hr)
def FartherM (m n : Mach) : Prop := m.out <+: n.out ∧ n.inp.length ≤ m.inp.length
theorem xgsZ (m : Mach) : FartherM m m := ⟨List.prefix_rfl, Nat.le_refl _⟩
theorem FartherM.trans {a b c : Mach} (h : FartherM a b) (k : FartherM b c) : FartherM a c := ⟨h.1.trans k.1, Nat.le_trans k.2 h.2⟩
theorem xnaZ {m n : Mach} (h : OuterM m n) : FartherM m n := ⟨by rw [← h.out.2]; exact List.take_prefix _ _, h.inp.1⟩
theorem xn8Z {p : List Fn} {e : Nat → Nat → Option (List Int)} {s t : MF} (hp : xanZ p = 0) (he : xa1Z p e) (h : Ends p s t) (hr : RightM p e s.1) : FartherM s.1 t.1 := by
  induction h with
  | stop _ => exact xgsZ _
  | poor _ => exact xgsZ _
  | on _ h _ ih =>
    obtain ⟨_, _, h3⟩ := xibZ h
    have h4 := xnaZ (xqkZ hp he hr)
    rw [← h3] at h4
    exact h4.trans (ih (by rw [h3]; exact xdmZ hp he hr))
def xhuZ (p : List Fn) (m : Mach) (f : Int) : MF := if m.status = 1 then (pay p (m, f)).getD (m, f) else (m, f)
def RunIs (p : List Fn) (m : Mach) (f : Int) (t : MF) : Prop := Ends p (xhuZ p m f) t
theorem xmvZ {p : List Fn} {m : Mach} {f : Int} {t u : MF} (h : RunIs p m f t) (k : RunIs p m f u) : t = u := ends_one h k
theorem xf7Z {p : List Fn} {m : Mach} {f : Int} (h : m.status ≠ 1) : xhuZ p m f = (m, f) := by simp [xhuZ, h]
theorem waits_pay {p : List Fn} {e : Nat → Nat → Option (List Int)} {m : Mach} {f : Int} (hp : xanZ p = 0) (he : xa1Z p e) (hr : RightM p e m) (h1 : m.status = 1) : pay p (m, f) = if f < 1 then none else some (m, f - 1) := by
  obtain ⟨x, k, fn, o, a1, a2, a3, a4, a5, a6, a7, a8⟩ := xhzZ hp he hr (.inr h1)
  obtain ⟨w1, x', k', f', o', w2, w3, w4, w5, w6⟩ := hr.wait h1
  rw [a1] at w2
  cases w2
  have e1 : k = k' := by omega
  subst e1
  rw [a3] at w4
  cases w4
  rw [a5] at w5
  cases w5
  have hs : stepM p m = m := by
    rw [a7]
    have : doOp p m x o = { m with status := 1 } := by simp [doOp, w6, w1]
    rw [this, ← h1]
  unfold pay
  simp only
  rw [a6]
  simp only [hs, show costM o.1 = 1 by rw [w6]; decide]
theorem xj1Z {p : List Fn} {e : Nat → Nat → Option (List Int)} {m : Mach} {f : Int} (hp : xanZ p = 0) (he : xa1Z p e) (hr : RightM p e m) (h1 : m.status = 1) : xhuZ p m f = (m, if f < 1 then f else f - 1) := by
  unfold xhuZ
  rw [if_pos h1, waits_pay hp he hr h1]
  split <;> simp [*]
theorem run_wait {p : List Fn} {e : Nat → Nat → Option (List Int)} {m : Mach} {f : Int} {t : MF} (hp : xanZ p = 0) (he : xa1Z p e) (hr : RightM p e m) (h1 : m.status = 1) (h : RunIs p m f t) : t = (m, if f < 1 then f else f - 1) := by
  unfold RunIs at h
  rw [xj1Z hp he hr h1] at h
  exact ends_one h (.stop (by simp [h1]))
theorem xmxZ {p : List Fn} {e : Nat → Nat → Option (List Int)} {m : Mach} {f : Int} {t : MF} (hp : xanZ p = 0) (he : xa1Z p e) (hr : RightM p e m) (h0 : 0 ≤ f) (h : RunIs p m f t) : RightM p e t.1 ∧ 0 ≤ t.2 ∧ t.2 ≤ f ∧ FartherM m t.1 := by
  by_cases h1 : m.status = 1
  · have := run_wait hp he hr h1 h
    subst this
    refine ⟨hr, ?_, ?_, xgsZ _⟩ <;> simp only <;> split <;> omega
  · unfold RunIs at h
    rw [xf7Z h1] at h
    have := xptZ h h0
    exact ⟨ends_right hp he h hr, this.1, this.2, xn8Z hp he h hr⟩
end Go.Proofs.YtmjjkenblfndgaaGreat


/- meter.Cost, and the cost of the op that is next. -/
namespace Go.Proofs.YtmjjkenblfndgaaGreat
open Go.RowKit
set_option linter.unusedSimpArgs false
set_option linter.unusedVariables false
theorem xmoZ (c a : Int) (w : World) : Calls Tryz.prog 52 #[.agg #[.int .i64 c, .int .i64 a]] w fun e w' => e = .returned (.tuple #[.int .i64 (if chk c a = 0 then costM c else 0), .int .i64 (chk c a)]) ∧ Below w.heap.size w w' := by
  obtain ⟨W1, hW1⟩ : ∃ W1, w.alloc (.cells #[.int .i64 c, .int .i64 a] 86) = W1 := ⟨_, rfl⟩
  have b1 : Below w.heap.size w W1 := by rw [← hW1]; exact (Below.refl _ w).alloc (Nat.le_refl _) _
  have u1 : W1.heap[w.heap.size]? = some (.cells #[.int .i64 c, .int .i64 a] 86 (0, 0)) := by rw [← hW1]; exact World.alloc_heap_new w _
  have l1 := xacZ u1
  have a0 : W1.cell? ⟨w.heap.size, 0, none⟩ = some (.int .i64 c) := xaaZ u1 0
  have a1 : W1.cell? ⟨w.heap.size, 1, none⟩ = some (.int .i64 a) := xaaZ u1 1
  by_cases h0 : chk c a = 0
  · have HC : Hid (Calls Tryz.prog 85 #[.agg #[.int .i64 c, .int .i64 a]] W1 fun e w' => e = .returned (.int .i64 0) ∧ Below W1.heap.size W1 w') := by have := xg1Z c a W1; rw [h0] at this; exact this
    rw [if_pos h0, h0]
    clear h0 u1
    by_cases h14 : c = 14
    · have e1 : (c == 14) = true := by simpa using h14
      have e2 : costM c = 3 := by simp [costM, h14]
      rw [e2]
      clear e2 h14
      go_enter Tryz.func52, Tryz.ntmps52
      go_wp2_with fail
      refine HC.out.mono ?_
      rintro e w2 ⟨rfl, b2⟩
      have d0 := (b2.cell (p := ⟨w.heap.size, 0, none⟩) l1).trans a0
      go_wp2
      go_ret2
      exact ⟨rfl, xadZ b1 b2⟩
    · have e1 : (c == 14) = false := by simpa using h14
      by_cases h12 : c = 12
      · have e3 : (c == 12) = true := by simpa using h12
        have e2 : costM c = 2 := by simp [costM, h14, h12]
        rw [e2]
        clear e2 h14 h12
        go_enter Tryz.func52, Tryz.ntmps52
        go_wp2_with fail
        refine HC.out.mono ?_
        rintro e w2 ⟨rfl, b2⟩
        have d0 := (b2.cell (p := ⟨w.heap.size, 0, none⟩) l1).trans a0
        go_wp2
        go_ret2
        exact ⟨rfl, xadZ b1 b2⟩
      · have e3 : (c == 12) = false := by simpa using h12
        have e2 : costM c = 1 := by simp [costM, h14, h12]
        rw [e2]
        clear e2 h14 h12
        go_enter Tryz.func52, Tryz.ntmps52
        go_wp2_with fail
        refine HC.out.mono ?_
        rintro e w2 ⟨rfl, b2⟩
        have d0 := (b2.cell (p := ⟨w.heap.size, 0, none⟩) l1).trans a0
        go_wp2
        go_ret2
        exact ⟨rfl, xadZ b1 b2⟩
  · rw [if_neg h0]
    have e1 : (chk c a != 0) = true := by simpa using h0
    have HC := hideP (xg1Z c a W1)
    clear h0 u1
    generalize chk c a = er at *
    go_enter Tryz.func52, Tryz.ntmps52
    go_wp2_with fail
    refine HC.out.mono ?_
    rintro e w2 ⟨rfl, b2⟩
    go_wp2
    go_ret2
    exact ⟨rfl, xadZ b1 b2⟩
abbrev runCells (fv bv iv ov pv : Value) (M : Mach) (n : Int) : Array Value := #[fv, bv, iv, ov, .int .i64 M.status, .int .i64 M.trap, pv, .int .i64 n]
theorem rCost_any (M : Mach) (p : List Fn) (pv fv bv iv ov : Value) (n : Int) (b : Nat) (w : World) (h : CkAt w p pv fv bv iv ov M) (hc : w.heap[b]? = some (.cells (runCells fv bv iv ov pv M n) 92 (0, 0))) (h6 : M.frames.length ≤ 1000) (x : Frm) (kk pc : Nat) (f : Fn) (o : Int × Int) (hx : M.frames.getLast? = some x) (hkk : x.fn = (kk : Int)) (hf : p[kk]? = some f) (hxp : x.pc = (pc : Int)) (ho : f.2.2.2[pc]? = some o) (hcl : f.2.2.2.length ≤ 1000) (hpl : p.length ≤ 1000) (hck : chk o.1 o.2 = 0) : Calls Tryz.prog 123 #[.pointer (some ⟨b, 0, none⟩)] w fun e w' => e = .returned (.int .i64 (costM o.1)) ∧ Below w.heap.size w w' := by
  obtain ⟨⟨pp, qp, hpv⟩, -, ⟨pb, cb, hbv⟩, ⟨pi, ci, hiv⟩, ⟨po, co, hov⟩⟩ := h.shp
  subst hpv hbv hiv hov
  obtain ⟨pf, cf, hfv, hfm, -, hfc⟩ := id h.mach.fr
  subst hfv
  obtain ⟨c, A⟩ := o
  obtain ⟨m, hm⟩ : ∃ m, M.frames.length = m + 1 := by
    cases hm : M.frames with
    | nil => rw [hm] at hx; simp at hx
    | cons a r => exact ⟨r.length, by simp⟩
  have hxn : M.frames[m]? = some x := by rw [← hx, List.getLast?_eq_getElem?, hm]; rfl
  obtain ⟨g, off, lv1, sv1, rfl, hg, x0, x1, x2, x3, hL, -, hS, -⟩ := hfc m x hxn
  obtain ⟨pl1, cl1, hlv1, hlm1, -⟩ := id hL
  obtain ⟨ps1, cs1, hsv1, hsm1, -⟩ := id hS
  subst hlv1 hsv1
  obtain ⟨pp', qp', hpe, -, hpc⟩ := id h.fns
  cases hpe
  obtain ⟨fb, fo, c0, c1, c2, c3, hpp, hplt, -, -, -, z3, hfn⟩ := hpc kk f hf
  subst hpp
  obtain ⟨-, -, -, hops⟩ := hfn
  obtain ⟨p3, q3, he3, -, hoc⟩ := id hops
  subst he3
  obtain ⟨ob, oo, hob, holt, o0, o1⟩ := hoc pc _ ho
  subst hob
  simp only at o0 o1 hck
  have hkl := xaeZ hf
  have hpl' := xaeZ ho
  have hkli : (kk : Int) < (p.length : Int) := by omega
  have hpcli : (pc : Int) < (f.2.2.2.length : Int) := by omega
  rw [hkk] at x0
  rw [hxp] at x1
  have d0 : w.cell? ⟨b, 0, none⟩ = some (.slice (some ⟨g, off, none⟩) M.frames.length cf) := xaaZ hc 0
  have d6 : w.cell? ⟨b, 6, none⟩ = some (.slice (some ⟨fb, fo, none⟩) p.length qp) := xaaZ hc 6
  generalize M.frames.length = L at *
  have hm1 : (m : Int) < (L : Int) := by omega
  have hm0 : (0 : Int) ≤ (m : Int) := by omega
  have hn6 : m ≤ 1000 := by omega
  have hm2 : IntKind.i64.wrap ((L : Int) - 1) = (m : Int) := by rw [IntKind.wrap_i64]; omega
  have hlb := xacZ hc
  have y0 := fun o => xabZ d0 o
  have y6 := fun o => xabZ d6 o
  have w0 := fun o => xabZ x0 o
  have w1 := fun o => xabZ x1 o
  have w2 := fun o => xabZ x2 o
  have w3 := fun o => xabZ x3 o
  have z3a := fun o => xabZ z3 o
  have o0a := fun o => xabZ o0 o
  have o1a := fun o => xabZ o1 o
  have HCO : Hid (∀ W, Calls Tryz.prog 52 #[.agg #[.int .i64 c, .int .i64 A]] W fun e w' => e = .returned (.tuple #[.int .i64 (costM c), .int .i64 0]) ∧ Below W.heap.size W w') := fun W => by have := xmoZ c A W; rw [hck, if_pos rfl] at this; exact this
  clear h hc h6 hm hx hkk hf hxp ho hxn hfc hpc hoc hops hL hS hck
  go_enter Tryz.func123, Tryz.ntmps123
  go_wp2_with fail
  go_region_held3 (fun X => X.cell? ⟨b, 0, none⟩ = some (.slice (some ⟨g, off, none⟩) L cf) ∧ X.cell? ⟨g, off + m * 4, none⟩ = some (.int .i64 kk) ∧ X.cell? ⟨g, off + m * 4 + 1, none⟩ = some (.int .i64 pc) ∧ X.cell? ⟨g, off + m * 4 + 2, none⟩ = some (.slice pl1 x.loc.length cl1) ∧ X.cell? ⟨g, off + m * 4 + 3, none⟩ = some (.slice ps1 x.stk.length cs1)) (go_keep) (fail)
  obtain ⟨X, hX⟩ : ∃ X, w.alloc (.cells #[.int .i64 kk, .int .i64 pc, .slice pl1 x.loc.length cl1, .slice ps1 x.stk.length cs1] 89) = X := ⟨_, rfl⟩
  have bX : Below w.heap.size w X := by rw [← hX]; exact (Below.refl _ w).alloc (Nat.le_refl _) _
  have uX : X.heap[w.heap.size]? = some (.cells #[.int .i64 kk, .int .i64 pc, .slice pl1 x.loc.length cl1, .slice ps1 x.stk.length cs1] 89 (0, 0)) := by rw [← hX]; exact World.alloc_heap_new w _
  have lX := xacZ uX
  have q0 := xaaZ uX 0
  have q1 := xaaZ uX 1
  simp at q0 q1
  have s6 : X.cell? ⟨b, 6, none⟩ = some (.slice (some ⟨fb, fo, none⟩) p.length qp) := by rw [← hX]; exact y6 _
  have s1 : X.cell? ⟨fb, fo + kk * 4 + 3, none⟩ = some (.slice (some ⟨ob, oo, none⟩) f.2.2.2.length q3) := by rw [← hX]; exact z3a _
  have s2 : X.cell? ⟨ob, oo + pc * 2, none⟩ = some (.int .i64 c) := by rw [← hX]; exact o0a _
  have s3 : X.cell? ⟨ob, oo + pc * 2 + 1, none⟩ = some (.int .i64 A) := by rw [← hX]; exact o1a _
  have HBX := hideP bX
  rw [hX]
  clear d0 d6 x0 x1 x2 x3 z3 o0 o1 y0 y6 w0 w1 w2 w3 z3a o0a o1a hX uX bX
  go_wp2_with fail
  go_region_held3 (fun W => W.cell? ⟨b, 6, none⟩ = some (.slice (some ⟨fb, fo, none⟩) p.length qp) ∧ W.cell? ⟨fb, fo + kk * 4 + 3, none⟩ = some (.slice (some ⟨ob, oo, none⟩) f.2.2.2.length q3) ∧ W.cell? ⟨ob, oo + pc * 2, none⟩ = some (.int .i64 c) ∧ W.cell? ⟨ob, oo + pc * 2 + 1, none⟩ = some (.int .i64 A) ∧ W.cell? ⟨w.heap.size, 0, none⟩ = some (.int .i64 kk) ∧ W.cell? ⟨w.heap.size, 1, none⟩ = some (.int .i64 pc)) (go_keep)
    (first
      | (go_at_call 52; (with_reducible refine (HCO.out _).mono ?_); rintro e w5 ⟨rfl, b5'⟩; have b5 : Below X.heap.size X w5 := xadZ ((Below.refl _ X).drew.drew) b5'; clear b5'; have t6 := (b5.cell (p := ⟨b, 6, none⟩) (Nat.lt_of_lt_of_le hlb HBX.out.size)).trans s6; have t1 := (b5.cell (p := ⟨fb, fo + kk * 4 + 3, none⟩) (Nat.lt_of_lt_of_le hplt HBX.out.size)).trans s1; have t2 := (b5.cell (p := ⟨ob, oo + pc * 2, none⟩) (Nat.lt_of_lt_of_le holt HBX.out.size)).trans s2; have t3 := (b5.cell (p := ⟨ob, oo + pc * 2 + 1, none⟩) (Nat.lt_of_lt_of_le holt HBX.out.size)).trans s3; have u0 := (b5.cell (p := ⟨w.heap.size, 0, none⟩) lX).trans q0; have u1 := (b5.cell (p := ⟨w.heap.size, 1, none⟩) lX).trans q1))
  go_wp2
  go_ret
  exact ⟨rfl, xadZ HBX.out b5⟩
end Go.Proofs.YtmjjkenblfndgaaGreat


/- A runner's step, and its run. -/
namespace Go.Proofs.YtmjjkenblfndgaaGreat
open Go.RowKit
set_option linter.unusedSimpArgs false
set_option linter.unusedVariables false
structure RunAt (w0 W : World) (b : Nat) (pv : Value) (M : Mach) (n : Int) (fv bv iv ov : Value) : Prop where
  cell : W.heap[b]? = some (.cells (runCells fv bv iv ov pv M n) 92 (0, 0))
  res : MRes W w0.heap.size fv bv iv ov M
  bel : Below w0.heap.size w0 W
  lo : w0.heap.size ≤ b
def Runs (w0 W : World) (b : Nat) (pv : Value) (s : MF) : Prop := ∃ fv bv iv ov, RunAt w0 W b pv s.1 s.2 fv bv iv ov
theorem RunAt.below {w0 W W' : World} {b : Nat} {pv fv bv iv ov : Value} {M : Mach} {n : Int} (h : RunAt w0 W b pv M n fv bv iv ov) (hb : Below W.heap.size W W') : RunAt w0 W' b pv M n fv bv iv ov :=
  ⟨(hb.block b (xacZ h.cell)).trans h.cell, h.res.below hb, h.bel.trans (hb.mono h.bel.size), h.lo⟩
theorem RunAt.fuel {w0 W : World} {b : Nat} {pv fv bv iv ov : Value} {M : Mach} {n : Int} (h : RunAt w0 W b pv M n fv bv iv ov) (k : Int) : RunAt w0 (W.setCell ⟨b, 7, none⟩ (.int .i64 k)) b pv M k fv bv iv ov := by
  have hg := xamZ W ⟨b, 7, none⟩ (.int .i64 k)
  refine ⟨?_, h.res.keep hg (xa5Z h.cell) (by decide) (by decide) (by decide) (by decide), h.bel.setCell h.lo _, h.lo⟩
  have := heap_setCell_same W b 7 _ _ (.int .i64 k) h.cell
  simpa using this
theorem six_heap8 {W : World} {R : Nat} {t : TypeId} {a0 a1 a2 a3 a4 a5 a6 a7 : Value} (h : W.heap[R]? = some (.cells #[a0, a1, a2, a3, a4, a5, a6, a7] t (0, 0))) {a b c d e f : Value} : ((((((W.setCell ⟨R, 0, none⟩ a).setCell ⟨R, 1, none⟩ b).setCell ⟨R, 2, none⟩ c).setCell ⟨R, 3, none⟩ d).setCell ⟨R, 4, none⟩ e).setCell ⟨R, 5, none⟩ f).heap[R]? = some (.cells #[a, b, c, d, e, f, a6, a7] t (0, 0)) := by
  have h1 := heap_setCell_same W R 0 _ _ a h
  have h2 := heap_setCell_same _ R 1 _ _ b h1
  have h3 := heap_setCell_same _ R 2 _ _ c h2
  have h4 := heap_setCell_same _ R 3 _ _ d h3
  have h5 := heap_setCell_same _ R 4 _ _ e h4
  have h6 := heap_setCell_same _ R 5 _ _ f h5
  simpa using h6
theorem RunAt.machine {w0 W : World} {b : Nat} {pv fv bv iv ov fv' bv' iv' ov' : Value} {M R : Mach} {n : Int} {a0 a1 a2 a3 a4 a5 : Value} (hc : W.heap[b]? = some (.cells #[a0, a1, a2, a3, a4, a5, pv, .int .i64 n] 92 (0, 0))) (hr : MRes W w0.heap.size fv' bv' iv' ov' R) (hb : Below w0.heap.size w0 W) (hlo : w0.heap.size ≤ b) : RunAt w0 ((((((W.setCell ⟨b, 0, none⟩ fv').setCell ⟨b, 1, none⟩ bv').setCell ⟨b, 2, none⟩ iv').setCell ⟨b, 3, none⟩ ov').setCell ⟨b, 4, none⟩ (.int .i64 R.status)).setCell ⟨b, 5, none⟩ (.int .i64 R.trap)) b pv R n fv' bv' iv' ov' := by
  have hg := xbfZ W b fv' bv' iv' ov' (.int .i64 R.status) (.int .i64 R.trap)
  exact ⟨six_heap8 hc, hr.keep hg (xa5Z hc) (by decide) (by decide) (by decide) (by decide), hb.grown hg hb.size (fun k hk => by cases hk; exact hlo), hlo⟩
theorem pay_is {p : List Fn} {M : Mach} {n : Int} {o : Int × Int} (h : xcfZ p M = some o) : pay p (M, n) = if n < costM o.1 then none else some (stepM p M, n - costM o.1) := by
  unfold pay
  simp only [h]
theorem next_small {p : List Fn} {e : Nat → Nat → Option (List Int)} {m : Mach} (hp : xanZ p = 0) (he : xa1Z p e) (h : RightM p e m) (hs : m.status = 0 ∨ m.status = 1) : ∃ (x : Frm) (kk pc : Nat) (f : Fn) (o : Int × Int), m.frames.getLast? = some x ∧ x.fn = (kk : Int) ∧ p[kk]? = some f ∧ x.pc = (pc : Int) ∧ f.2.2.2[pc]? = some o ∧ f.2.2.2.length ≤ 1000 ∧ p.length ≤ 1000 ∧ chk o.1 o.2 = 0 ∧ xcfZ p m = some o ∧ stepM p m = doOp p m x o := by
  obtain ⟨x, k, f, o, h1, h2, h3, h4, h5, h6, h7, _⟩ := xhzZ hp he h hs
  have hmem := List.mem_of_getElem? h3
  have hom := List.mem_of_getElem? h5
  obtain ⟨hce, _, _⟩ := xblZ (okFn hp hmem).flow
  have hl := (xeoZ hp)
  refine ⟨x, k, x.pc.toNat, f, o, h1, h2, h3, by omega, h5, ?_, by omega, (xehZ _ hce).2 o hom, h6, h7⟩
  have := (okFn_at hp hmem hom).2.1
  omega
theorem rStep_any (w0 W : World) (b : Nat) (p : List Fn) (e : Nat → Nat → Option (List Int)) (pv : Value) (M : Mach) (n : Int) (hp : xanZ p = 0) (he : xa1Z p e) (hR : RightM p e M) (hs : M.status = 0 ∨ M.status = 1) (hn : 0 ≤ n ∧ n ≤ 100000) (hf0 : FnsAt w0 pv p) (hcp0 : CapAt w0 pv) (h : Runs w0 W b pv (M, n)) : Calls Tryz.prog 89 #[.pointer (some ⟨b, 0, none⟩)] W fun e w' => e = .returned (.bool (pay p (M, n)).isSome) ∧ Runs w0 w' b pv ((pay p (M, n)).getD (M, n)) := by
  obtain ⟨fv, bv, iv, ov, h⟩ := h
  have h : RunAt w0 W b pv M n fv bv iv ov := h
  have hf := hf0.below h.bel
  have hcp := hcp0.below hf0 h.bel
  obtain ⟨x, kk, pc, f, o, h1, h2, h3x, h4, h5n, h6, h7, h8, h9, h10⟩ := next_small hp he hR hs
  have h5 : f.2.2.2[x.pc.toNat]? = some o := by rw [h4]; exact h5n
  have hsm := (xclZ hp he hR).1
  have hi100 : M.inp.length ≤ 100 := by have := hsm.inp; omega
  have hat := h.res.at_ hi100
  have hCO := rCost_any M p pv fv bv iv ov n b W ⟨hf, hcp, hat⟩ h.cell (by have := hsm.fr; omega) x kk pc f o h1 h2 h3x h4 h5n h6 h7 h8
  have hcm := costM_le o.1
  have hst : xcfZ p M = some o := h9
  rw [pay_is h9]
  generalize costM o.1 = c at *
  obtain ⟨⟨pf, nf, cf, hf1⟩, ⟨pb, nb, cb, hb1⟩, ⟨pi, ni, ci, hi1⟩, ⟨po, no, co, ho1⟩⟩ := xftZ h.res
  obtain ⟨pp, qp, hpv, -, -⟩ := id hf0
  subst hf1 hb1 hi1 ho1 hpv
  have HCO := hideP hCO
  have HH := hideP h
  have HF := hideP hf0
  have HP := hideP hcp0
  have HR := hideP (And.intro hp (And.intro he hR))
  have hlb := xacZ h.cell
  by_cases hlt : n < c
  · rw [if_pos hlt]
    clear hCO h hf hcp hf0 hcp0 hat hst hp he hR
    go_enter Tryz.func89, Tryz.ntmps89
    go_wp2_with fail
    refine HCO.out.mono ?_
    rintro e w2 ⟨rfl, b2⟩
    have h2' := HH.out.below b2
    have d7 := xaaZ h2'.cell 7
    simp at d7
    have HH2 := hideP h2'
    clear h2'
    go_wp2
    go_ret
    exact ⟨rfl, ⟨_, _, _, _, HH2.out⟩⟩
  · rw [if_neg hlt]
    have hmm : 0 ≤ n - c ∧ n - c ≤ 100000 := by omega
    clear hCO h hf hcp hf0 hcp0 hat hst hp he hR
    go_enter Tryz.func89, Tryz.ntmps89
    go_wp2_with fail
    refine HCO.out.mono ?_
    rintro e w2 ⟨rfl, b2⟩
    have h2' := HH.out.below b2
    have d7 := xaaZ h2'.cell 7
    simp at d7
    have z := Lib.frozen_of_heap h2'.cell
    have z7 := z 7
    have HH2 := hideP h2'
    clear h2' z
    go_wp2_with fail
    obtain ⟨W3, hW3⟩ : ∃ W3, w2.setCell ⟨b, 7, none⟩ (.int .i64 (n - c)) = W3 := ⟨_, rfl⟩
    have hW3' := hW3
    have h3 : RunAt w0 W3 b (.slice pp p.length qp) M (n - c) (.slice pf nf cf) (.slice pb nb cb) (.slice pi ni ci) (.slice po no co) := by rw [← hW3]; exact HH2.out.fuel (n - c)
    have hf3 := HF.out.below h3.bel
    have HDO := hideP (xjhZ p e M _ _ _ _ _ W3.drew HR.out.1 HR.out.2.1 HR.out.2.2 hs (hf3.below (Below.refl _ W3).drew) ((h3.res.at_ hi100).below (Below.refl _ W3).drew) h1 h2 h3x h5)
    rw [← h10] at HDO
    clear h10
    have c0 := xaaZ h3.cell 0
    have c1 := xaaZ h3.cell 1
    have c2 := xaaZ h3.cell 2
    have c3 := xaaZ h3.cell 3
    have c4 := xaaZ h3.cell 4
    have c5 := xaaZ h3.cell 5
    have c6 := xaaZ h3.cell 6
    simp at c0 c1 c2 c3 c4 c5 c6
    have HH3 := hideP h3
    clear h3 hf3 hW3
    rw [hW3']
    clear hW3'
    go_region_with (first
      | (go_at_call 76; refine HDO.out.mono ?_; rintro e' w5 ⟨fv5, bv5, iv5, ov5, rfl, r5, b5'⟩; have b5 : Below W3.heap.size W3 w5 := xadZ (Below.refl _ W3).drew b5'; clear b5'; obtain ⟨⟨pf5, nf5, cf5, hf5⟩, ⟨pb5, nb5, cb5, hb5⟩, ⟨pi5, ni5, ci5, hi5⟩, ⟨po5, no5, co5, ho5⟩⟩ := xftZ r5; subst hf5 hb5 hi5 ho5; have h5' := (b5.block b (xacZ HH3.out.cell)).trans HH3.out.cell; have t0 := xaaZ h5' 0; have t1 := xaaZ h5' 1; have t2 := xaaZ h5' 2; have t3 := xaaZ h5' 3; have t4 := xaaZ h5' 4; have t5 := xaaZ h5' 5; simp at t0 t1 t2 t3 t4 t5; have tz := Lib.frozen_of_heap h5'; have tz0 := tz 0; have tz1 := tz 1; have tz2 := tz 2; have tz3 := tz 3; have tz4 := tz 4; have tz5 := tz 5; have R5 := hideP r5; have H5 := hideP h5'; clear tz r5 h5'))
    all_goals
      go_wp2
      go_ret
      have hs3 := HH3.out.bel.size
      have hfin := RunAt.machine (w0 := w0) (n := n - c) (R := stepM p M) (M := M) (fv := .slice pf nf cf) (bv := .slice pb nb cb) (iv := .slice pi ni ci) (ov := .slice po no co) H5.out (R5.out.low hs3) (HH3.out.bel.trans (b5.mono hs3)) HH3.out.lo
      refine ⟨rfl, ?_⟩
      show Runs w0 _ b _ (stepM p M, n - c)
      exact ⟨_, _, _, _, hfin⟩
def OnWay (p : List Fn) (e : Nat → Nat → Option (List Int)) (w0 : World) (b : Nat) (pv : Value) (s0 : MF) (W : World) : Prop := ∃ s : MF, Runs w0 W b pv s ∧ RightM p e s.1 ∧ 0 ≤ s.2 ∧ s.2 ≤ 100000 ∧ ∀ t, Ends p s t → Ends p s0 t
theorem rLoop_any (w0 W : World) (b : Nat) (p : List Fn) (e : Nat → Nat → Option (List Int)) (pv : Value) (M : Mach) (n : Int) (hp : xanZ p = 0) (he : xa1Z p e) (hR : RightM p e M) (hn : 0 ≤ n ∧ n ≤ 100000) (hf0 : FnsAt w0 pv p) (hcp0 : CapAt w0 pv) (h : Runs w0 W b pv (M, n)) : Calls Tryz.prog 54 #[.pointer (some ⟨b, 0, none⟩)] W fun e' w' => e' = .returned (.tuple #[]) ∧ ∃ t : MF, RunIs p M n t ∧ Runs w0 w' b pv t := by
  have HSTEP : Hid (∀ (W : World) (M : Mach) (n : Int), RightM p e M → (M.status = 0 ∨ M.status = 1) → 0 ≤ n → n ≤ 100000 → Runs w0 W b pv (M, n) → Calls Tryz.prog 89 #[.pointer (some ⟨b, 0, none⟩)] W fun e w' => e = .returned (.bool (pay p (M, n)).isSome) ∧ Runs w0 w' b pv ((pay p (M, n)).getD (M, n))) := fun W M n h1 h2 h3 h4 h5 => rStep_any w0 W b p e pv M n hp he h1 h2 ⟨h3, h4⟩ hf0 hcp0 h5
  have HH := hideP h
  have HR := hideP hR
  have HP := hideP hp
  have HE := hideP he
  have HN := hideP hn
  obtain ⟨fv, bv, iv, ov, hq⟩ := id h
  have c4 := xaaZ hq.cell 4
  simp at c4
  clear hp he hR hf0 hcp0 h hq hn
  by_cases h1 : M.status = 1
  · have t1 : (M.status == 1) = true := by simpa using h1
    have t0 : (M.status == 0) = false := by simp [h1]
    have hfirst := xj1Z (f := n) HP.out HE.out HR.out h1
    have hS := HSTEP.out W M n HR.out (.inr h1) HN.out.1 HN.out.2 HH.out
    have hg : (pay p (M, n)).getD (M, n) = (M, if n < 1 then n else n - 1) := by
      rw [← hfirst]; unfold xhuZ; rw [if_pos h1]
    rw [hg] at hS
    have HF := hideP hfirst
    have HS := hideP hS
    have H1 := hideP h1
    generalize (if n < 1 then n else n - 1) = k at *
    generalize (pay p (M, n)).isSome = bb at *
    clear hS hfirst hg h1
    go_enter Tryz.func54, Tryz.ntmps54
    go_wp2_with fail
    refine HS.out.mono ?_
    rintro e' w3 ⟨rfl, h3⟩
    have H3 := hideP h3
    clear h3 c4
    go_wp2_with fail
    go_loopw [] (fun wr => Runs w0 wr b pv (M, k)) (fun wr => 0)
    case atStart => exact H3.out
    case round =>
      obtain ⟨fv', bv', iv', ov', hq⟩ := id hrel
      have d4 := xaaZ hq.cell 4
      simp at d4
      have HRR := hideP hrel
      clear hrel hq
      go_wp2
      go_end0
      exact ⟨rfl, (M, k), by unfold RunIs; rw [HF.out]; exact .stop (by have := H1.out; simp [this]), HRR.out⟩
  · have t1 : (M.status == 1) = false := by simpa using h1
    go_enter Tryz.func54, Tryz.ntmps54
    go_wp2_with fail
    have hEq : ∀ t, Ends p (M, n) t → RunIs p M n t := fun t ht => by unfold RunIs; rw [xf7Z h1]; exact ht
    go_loopw [] (fun wr => OnWay p e w0 b pv (M, n) wr) (fun wr => (intOf ((wr.cell? ⟨b, 7, none⟩).getD (.int .i64 0))).toNat)
    case atStart => exact ⟨(M, n), HH.out, HR.out, HN.out.1, HN.out.2, fun t h => h⟩
    case round =>
      obtain ⟨⟨m, k⟩, hr, hm, hk0, hk1, hw⟩ := hrel
      simp only at hm hk0 hk1
      obtain ⟨fv', bv', iv', ov', hq⟩ := id hr
      have d4 := xaaZ hq.cell 4
      have d7 := xaaZ hq.cell 7
      simp at d4 d7
      have HRR := hideP hr
      have HM := hideP hm
      have HW := hideP hw
      have D7 := hideP d7
      clear hr hq hm hw d7 c4
      by_cases h0 : m.status = 0
      · have t0 : (m.status == 0) = true := by simpa using h0
        have HS := hideP (HSTEP.out _ m k HM.out (.inl h0) hk0 hk1 HRR.out)
        cases hpay : pay p (m, k) with
        | none =>
          rw [hpay] at HS
          go_wp2_with fail
          refine HS.out.mono ?_
          rintro e' w3 ⟨rfl, h3⟩
          have H3 := hideP h3
          clear h3
          go_wp2
          go_end0
          exact ⟨rfl, (m, k), hEq _ (HW.out _ (.poor hpay)), H3.out⟩
        | some s' =>
          rw [hpay] at HS
          have hl := xibZ hpay
          have hR' : RightM p e s'.1 := by rw [hl.2.2]; exact xdmZ HP.out HE.out HM.out
          have HL := hideP hl
          have HR' := hideP hR'
          clear hl hR'
          go_wp2_with fail
          refine HS.out.mono ?_
          rintro e' w3 ⟨rfl, h3⟩
          obtain ⟨fv5, bv5, iv5, ov5, hq5⟩ := id h3
          have e7 := xaaZ hq5.cell 7
          have H3 := hideP h3
          have E7 := hideP e7
          clear h3 hq5 e7
          go_wp2_with fail
          go_roundw
          case rel => exact ⟨s', H3.out, HR'.out, HL.out.1, (by have hk2 : s'.2 + 1 ≤ k := HL.out.2.1; omega), fun t ht => HW.out t (.on h0 hpay ht)⟩
          case measure =>
            have h1 := HL.out.1
            have h2 : s'.2 + 1 ≤ k := HL.out.2.1
            have h7 := E7.out
            rw [h7, D7.out]
            simp [intOf]
            omega
      · have t0 : (m.status == 0) = false := by simpa using h0
        go_wp2_with fail
        go_wp2
        go_end0
        exact ⟨rfl, (m, k), hEq _ (HW.out _ (.stop h0)), HRR.out⟩
end Go.Proofs.YtmjjkenblfndgaaGreat


