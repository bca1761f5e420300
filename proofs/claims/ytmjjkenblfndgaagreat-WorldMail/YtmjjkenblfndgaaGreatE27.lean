/- My texts Zn Zo Zr: what of them is needed, joined. -/

import Derived.Test.YtmjjkenblfndgaaGreatE11
import Derived.Test.YtmjjkenblfndgaaGreatE18
import Derived.Test.YtmjjkenblfndgaaGreatE19
import Derived.Test.YtmjjkenblfndgaaGreatE26
set_option maxRecDepth 100000
set_option maxHeartbeats 8000000
/- What must be in any case of worlds: worldBegun. -/
namespace Go.Proofs.YtmjjkenblfndgaaGreat
open Go.RowKit
set_option linter.unusedSimpArgs false
set_option linter.unusedVariables false
theorem xitZ {w : World} {R : Nat} {a v : Value} {p : Addr} (h : w.cell? p = some v) (hn : ¬ p.block = R) : (w.setCell ⟨R, 0, none⟩ a).cell? p = some v :=
  (World.cell?_of_block (Below.heap_setCell w _ a p.block hn)).trans h
theorem MachsAt.shp' {W : World} {v : Value} {L : List Mach} (h : MachsAt W v L) : ∃ p c, v = .slice p L.length c := by
  obtain ⟨p, c, h1, -⟩ := h
  exact ⟨p, c, h1⟩
theorem wfin0 {T : List Mach} {WW w5 w6 : World} {u : Value} (hb5 : Below WW.heap.size WW w5) (h : WOut T 1040 w5 u w6) : (w6.alloc (.cells #[u] 27)).heap[w6.heap.size]? = some (.cells #[u] 27 (0, 0)) ∧ MachsAt (w6.alloc (.cells #[u] 27)) u T ∧ Below WW.heap.size WW (w6.alloc (.cells #[u] 27)) := by
  have hb : Below w6.heap.size w6 (w6.alloc (.cells #[u] 27)) := (Below.refl _ w6).alloc (Nat.le_refl _) _
  exact ⟨World.alloc_heap_new w6 _, h.at_.below hb, xaeZ (xaeZ hb5 h.bel) hb⟩
theorem wfin {T : List Mach} {WW w5 w6 : World} {u a0 : Value} {z : Nat} (hb5 : Below WW.heap.size WW w5) (h : WOut T 1040 w5 u w6) (hz : w6.heap[z]? = some (.cells #[a0] 27 (0, 0))) (hzb : WW.heap.size ≤ z) : (w6.setCell ⟨z, 0, none⟩ u).heap[z]? = some (.cells #[u] 27 (0, 0)) ∧ MachsAt (w6.setCell ⟨z, 0, none⟩ u) u T ∧ Below WW.heap.size WW (w6.setCell ⟨z, 0, none⟩ u) := by
  have hk := heap_setCell_same w6 z 0 _ _ u hz
  obtain ⟨ms, rs, h1, h2, -, h4⟩ := h.keep hb5 (Below.refl _ w6)
  have hg := xakZ w6 ⟨z, 0, none⟩ u
  have ht : TyRow w6 (some z) 27 := xatZ hz
  exact ⟨by simpa using hk, (h2.keep hg ht (by decide) (by decide) (by decide) (by decide)).at_ (xasZ h1 hg ht (by decide)), h4.setCell (p := ⟨z, 0, none⟩) hzb u⟩
theorem xlsZ (w : World) : Calls Tryz.prog 19 #[] w fun e w' => e = .returned (.bool true) ∧ Below w.heap.size w w' := by
  go_enter Tryz.func19, Tryz.ntmps19
  go_wp2_with fail
  refine (xb3Z _).mono ?_
  rintro e w1 ⟨v1, rfl, f1, k1, b1⟩
  have hcf := xjfZ f1 k1
  go_wp2_with fail
  refine (pair_any _).mono ?_
  rintro e w2 ⟨u2, rfl, m2, b2⟩
  have HCF := hideP hcf
  have HSE := hideP (sq_send (f1.below b2) (k1.below f1 b2) m2 hcf)
  go_wp2_with fail
  refine HSE.out.mono ?_
  rintro e w3 ⟨u3, rfl, o3⟩
  obtain ⟨p3, c3, (hu3 : u3 = .slice p3 2 c3)⟩ := o3.shp
  subst hu3
  obtain ⟨W3, hW3⟩ : ∃ W3, w3.alloc (.cells #[.slice p3 2 c3] 27) = W3 := ⟨_, rfl⟩
  have b3 : Below w3.heap.size w3 W3 := by rw [← hW3]; exact (Below.refl _ w3).alloc (Nat.le_refl _) _
  have x3 : W3.heap[w3.heap.size]? = some (.cells #[.slice p3 2 c3] 27 (0, 0)) := by rw [← hW3]; exact World.alloc_heap_new w3 _
  have a0 := xaaZ x3 0
  simp at a0
  have l3 := xacZ x3
  have HB3 := hideP (xaeZ (xaeZ (xaeZ b1 b2) o3.bel) b3)
  have HA := hideP (o3.at_.below b3)
  clear f1 k1 b1 b2 m2 o3 b3 x3 HSE hcf
  go_upto_region 2 with fail
  go_cut [3, 4] from 16 (fun sa sb wx => ∃ (z : Nat) (u : Value), sa = .pointer (some ⟨z, 0, none⟩) ∧ sb = .int .i64 0 ∧ wx.heap[z]? = some (.cells #[u] 27 (0, 0)) ∧ MachsAt wx u [wW0, wB1] ∧ Below W3.heap.size W3 wx)
  case first =>
    have hdA : ∀ o, Below W3.heap.size W3 (W3.alloc o).drew := fun o => ((Below.refl _ W3).alloc (Nat.le_refl _) o).drew
    go_region_held3 (fun W => W.cell? ⟨w3.heap.size, 0, none⟩ = some (.slice p3 2 c3)) (first | go_keep | exact xitZ g0 nz)
      (first
        | (go_at_call 47; (with_reducible refine (xb3Z _).mono ?_); rintro e w5 ⟨v5, rfl, f5, k5, b5'⟩; have b5 : Below W3.heap.size W3 w5 := xaeZ ((Below.refl _ W3).drew) b5'; clear b5'; have h0 := (b5.cell (p := ⟨w3.heap.size, 0, none⟩) l3).trans a0; have hd5 : ∀ o, Below w5.heap.size w5 (w5.alloc o) := fun o => (Below.refl _ w5).alloc (Nat.le_refl _) o)
        | (go_at_call 47; (with_reducible refine (xb3Z _).mono ?_); rintro e w5 ⟨v5, rfl, f5, k5, b5'⟩; have b5 : Below W3.heap.size W3 w5 := xaeZ (hdA _) b5'; have q5 := (b5'.block W3.heap.size (xacZ (World.alloc_heap_new W3 _))).trans (World.alloc_heap_new W3 _); have Q5 := hideP q5; have m0 := xaaZ q5 0; simp at m0; have mz0 := Lib.frozen_of_heap q5 0; clear b5' q5; have h0 := (b5.cell (p := ⟨w3.heap.size, 0, none⟩) l3).trans a0)
        | (go_at_call 12; (with_reducible refine (xj1Z (w := w5) f5 k5 HCF.out (HA.out.below b5)).mono ?_); rintro e w6 ⟨u6, rfl, r6⟩; obtain ⟨q6, j6, (hu6 : u6 = .slice q6 2 j6)⟩ := r6.shp; subst hu6; have R6 := hideP r6; have b6' := r6.bel; clear r6; have b6 : Below W3.heap.size W3 w6 := xaeZ b5 b6'; have nz : ¬ w3.heap.size = W3.heap.size := (by omega); have q6' := (b6'.block W3.heap.size (xacZ Q5.out)).trans Q5.out; have Q6 := hideP q6'; clear m0 mz0; have m0 := xaaZ q6' 0; simp at m0; have mz0 := Lib.frozen_of_heap q6' 0; clear q6'; have g0 := (b6.cell (p := ⟨w3.heap.size, 0, none⟩) l3).trans a0)
        | (go_at_call 12; (with_reducible refine (xj1Z (w := w5) f5 k5 HCF.out (HA.out.below b5)).mono ?_); rintro e w6 ⟨u6, rfl, r6⟩; obtain ⟨q6, j6, (hu6 : u6 = .slice q6 2 j6)⟩ := r6.shp; subst hu6; have R6 := hideP r6; have b6' := r6.bel; clear r6; have b6 : Below W3.heap.size W3 w6 := xaeZ b5 b6'; have nz : ¬ w3.heap.size = w6.heap.size := (by have := b6.size; omega); have g0 := (b6.cell (p := ⟨w3.heap.size, 0, none⟩) l3).trans a0)
        | (go_at_call 12; (with_reducible refine (xj1Z (w := (w5.alloc _)) (f5.below (hd5 _)) (k5.below f5 (hd5 _)) HCF.out (HA.out.below (xaeZ b5 (hd5 _)))).mono ?_); rintro e w6 ⟨u6, rfl, r6⟩; obtain ⟨q6, j6, (hu6 : u6 = .slice q6 2 j6)⟩ := r6.shp; subst hu6; have R6 := hideP r6; have b6' := r6.bel; clear r6; have b6 : Below W3.heap.size W3 w6 := xaeZ (xaeZ b5 (hd5 _)) b6'; have nz : ¬ w3.heap.size = w5.heap.size := (by have := b5.size; omega); have q6' := (b6'.block w5.heap.size (xacZ (World.alloc_heap_new w5 _))).trans (World.alloc_heap_new w5 _); have Q6 := hideP q6'; have m0 := xaaZ q6' 0; simp at m0; have mz0 := Lib.frozen_of_heap q6' 0; clear q6'; have g0 := (b6.cell (p := ⟨w3.heap.size, 0, none⟩) l3).trans a0))
    all_goals
      go_wp2_with fail
      go_meet
    · have hF := wfin0 b5 R6.out
      exact ⟨_, _, rfl, rfl, hF.1, hF.2.1, hF.2.2⟩
    · have hF := wfin (xaeZ b5 (hd5 _)) R6.out Q6.out b5.size
      exact ⟨_, _, rfl, rfl, hF.1, hF.2.1, hF.2.2⟩
    · have hF := wfin b5 R6.out Q6.out (Nat.le_refl _)
      exact ⟨_, _, rfl, rfl, hF.1, hF.2.1, hF.2.2⟩
  case rest =>
    obtain ⟨z4, u4, rfl, rfl, hz4, hA4, hb4⟩ := hcut
    rename World => wv4
    obtain ⟨p4, c4, (hu4 : u4 = .slice p4 2 c4)⟩ := hA4.shp'
    subst hu4
    have l4 := xacZ hz4
    have a4 := xaaZ hz4 0
    simp at a4
    have HB4 := hideP hb4
    have HZ4 := hideP hz4
    have HA4 := hideP hA4
    clear hz4 hA4 hb4
    go_upto_region 3 with fail
    go_cut [5, 6] from 22 (fun sa sb wx => ∃ (z : Nat) (u : Value), sa = .pointer (some ⟨z, 0, none⟩) ∧ sb = .int .i64 0 ∧ wx.heap[z]? = some (.cells #[u] 27 (0, 0)) ∧ MachsAt wx u [giveM wW0 [81], wW0] ∧ Below wv4.heap.size wv4 wx ∧ ∀ M ∈ [giveM wW0 [81], wW0], RightM xajZ (entP xajZ) M)
    case first =>
      have hdA : ∀ o, Below wv4.heap.size wv4 (wv4.alloc o).drew := fun o => ((Below.refl _ wv4).alloc (Nat.le_refl _) o).drew
      go_region_held3 (fun W => W.cell? ⟨z4, 0, none⟩ = some (.slice p4 2 c4)) (first | go_keep | exact xitZ g0 nz)
        (first
          | (go_at_call 47; (with_reducible refine (xb3Z _).mono ?_); rintro e w5 ⟨v5, rfl, f5, k5, b5'⟩; have b5 : Below wv4.heap.size wv4 w5 := xaeZ ((Below.refl _ wv4).drew) b5'; clear b5'; have h0 := (b5.cell (p := ⟨z4, 0, none⟩) l4).trans a4; have hd5 : ∀ o, Below w5.heap.size w5 (w5.alloc o) := fun o => (Below.refl _ w5).alloc (Nat.le_refl _) o)
          | (go_at_call 47; (with_reducible refine (xb3Z _).mono ?_); rintro e w5 ⟨v5, rfl, f5, k5, b5'⟩; have b5 : Below wv4.heap.size wv4 w5 := xaeZ (hdA _) b5'; have q5 := (b5'.block wv4.heap.size (xacZ (World.alloc_heap_new wv4 _))).trans (World.alloc_heap_new wv4 _); have Q5 := hideP q5; have m0 := xaaZ q5 0; simp at m0; have mz0 := Lib.frozen_of_heap q5 0; clear b5' q5; have h0 := (b5.cell (p := ⟨z4, 0, none⟩) l4).trans a4)
          | (go_at_call 12; (with_reducible refine (xj2Z (w := w5) f5 k5 HCF.out (HA4.out.below b5)).mono ?_); rintro e w6 ⟨⟨u6, rfl, r6⟩, hr6⟩; obtain ⟨q6, j6, (hu6 : u6 = .slice q6 2 j6)⟩ := r6.shp; subst hu6; have R6 := hideP r6; have b6' := r6.bel; clear r6; have b6 : Below wv4.heap.size wv4 w6 := xaeZ b5 b6'; have nz : ¬ z4 = wv4.heap.size := (by omega); have q6' := (b6'.block wv4.heap.size (xacZ Q5.out)).trans Q5.out; have Q6 := hideP q6'; clear m0 mz0; have m0 := xaaZ q6' 0; simp at m0; have mz0 := Lib.frozen_of_heap q6' 0; clear q6'; have g0 := (b6.cell (p := ⟨z4, 0, none⟩) l4).trans a4)
          | (go_at_call 12; (with_reducible refine (xj2Z (w := w5) f5 k5 HCF.out (HA4.out.below b5)).mono ?_); rintro e w6 ⟨⟨u6, rfl, r6⟩, hr6⟩; obtain ⟨q6, j6, (hu6 : u6 = .slice q6 2 j6)⟩ := r6.shp; subst hu6; have R6 := hideP r6; have b6' := r6.bel; clear r6; have b6 : Below wv4.heap.size wv4 w6 := xaeZ b5 b6'; have nz : ¬ z4 = w6.heap.size := (by have := b6.size; omega); have g0 := (b6.cell (p := ⟨z4, 0, none⟩) l4).trans a4)
          | (go_at_call 12; (with_reducible refine (xj2Z (w := (w5.alloc _)) (f5.below (hd5 _)) (k5.below f5 (hd5 _)) HCF.out (HA4.out.below (xaeZ b5 (hd5 _)))).mono ?_); rintro e w6 ⟨⟨u6, rfl, r6⟩, hr6⟩; obtain ⟨q6, j6, (hu6 : u6 = .slice q6 2 j6)⟩ := r6.shp; subst hu6; have R6 := hideP r6; have b6' := r6.bel; clear r6; have b6 : Below wv4.heap.size wv4 w6 := xaeZ (xaeZ b5 (hd5 _)) b6'; have nz : ¬ z4 = w5.heap.size := (by have := b5.size; omega); have q6' := (b6'.block w5.heap.size (xacZ (World.alloc_heap_new w5 _))).trans (World.alloc_heap_new w5 _); have Q6 := hideP q6'; have m0 := xaaZ q6' 0; simp at m0; have mz0 := Lib.frozen_of_heap q6' 0; clear q6'; have g0 := (b6.cell (p := ⟨z4, 0, none⟩) l4).trans a4))
      all_goals
        go_wp2_with fail
        go_meet
      · have hF := wfin0 b5 R6.out
        exact ⟨_, _, rfl, rfl, hF.1, hF.2.1, hF.2.2, hr6⟩
      · have hF := wfin (xaeZ b5 (hd5 _)) R6.out Q6.out b5.size
        exact ⟨_, _, rfl, rfl, hF.1, hF.2.1, hF.2.2, hr6⟩
      · have hF := wfin b5 R6.out Q6.out (Nat.le_refl _)
        exact ⟨_, _, rfl, rfl, hF.1, hF.2.1, hF.2.2, hr6⟩
    case rest =>
      obtain ⟨z5, u5, rfl, rfl, hz5, hA5, hb5, hr5⟩ := hcut
      rename World => wv5
      obtain ⟨p5, c5, (hu5 : u5 = .slice p5 2 c5)⟩ := hA5.shp'
      subst hu5
      have l5 := xacZ hz5
      have a5 := xaaZ hz5 0
      simp at a5
      have HB5 := hideP hb5
      have HZ5 := hideP hz5
      have HA5 := hideP hA5
      clear hz5 hA5 hb5
      have HR5 := hideP hr5
      clear hr5
      go_upto_region 4 with fail
      go_cut [7, 8, 9] from 28 (fun sa sb sc wx => ∃ (z : Nat) (u : Value), sa = .pointer (some ⟨z, 0, none⟩) ∧ sb = .int .i64 0 ∧ sc = .int .i64 0 ∧ wx.heap[z]? = some (.cells #[u] 27 (0, 0)) ∧ MachsAt wx u [giveM wW0 [81], wW0] ∧ Below wv5.heap.size wv5 wx)
      case first =>
        have hdA : ∀ o, Below wv5.heap.size wv5 (wv5.alloc o).drew := fun o => ((Below.refl _ wv5).alloc (Nat.le_refl _) o).drew
        go_region_held3 (fun W => W.cell? ⟨z5, 0, none⟩ = some (.slice p5 2 c5)) (first | go_keep | exact xitZ g0 nz)
          (first
            | (go_at_call 47; (with_reducible refine (xb3Z _).mono ?_); rintro e w5 ⟨v5, rfl, f5, k5, b5'⟩; have b5 : Below wv5.heap.size wv5 w5 := xaeZ ((Below.refl _ wv5).drew) b5'; clear b5'; have h0 := (b5.cell (p := ⟨z5, 0, none⟩) l5).trans a5; have hd5 : ∀ o, Below w5.heap.size w5 (w5.alloc o) := fun o => (Below.refl _ w5).alloc (Nat.le_refl _) o)
            | (go_at_call 47; (with_reducible refine (xb3Z _).mono ?_); rintro e w5 ⟨v5, rfl, f5, k5, b5'⟩; have b5 : Below wv5.heap.size wv5 w5 := xaeZ (hdA _) b5'; have q5 := (b5'.block wv5.heap.size (xacZ (World.alloc_heap_new wv5 _))).trans (World.alloc_heap_new wv5 _); have Q5 := hideP q5; have m0 := xaaZ q5 0; simp at m0; have mz0 := Lib.frozen_of_heap q5 0; clear b5' q5; have h0 := (b5.cell (p := ⟨z5, 0, none⟩) l5).trans a5)
            | (go_at_call 11; (with_reducible refine (sq_mail (w := w5) f5 k5 HCF.out HR5.out (HA5.out.below b5)).mono ?_); rintro e w6 ⟨u6, rfl, r6⟩; obtain ⟨q6, j6, (hu6 : u6 = .slice q6 2 j6)⟩ := r6.shp; subst hu6; have R6 := hideP r6; have b6' := r6.bel; clear r6; have b6 : Below wv5.heap.size wv5 w6 := xaeZ b5 b6'; have nz : ¬ z5 = wv5.heap.size := (by omega); have q6' := (b6'.block wv5.heap.size (xacZ Q5.out)).trans Q5.out; have Q6 := hideP q6'; clear m0 mz0; have m0 := xaaZ q6' 0; simp at m0; have mz0 := Lib.frozen_of_heap q6' 0; clear q6'; have g0 := (b6.cell (p := ⟨z5, 0, none⟩) l5).trans a5)
            | (go_at_call 11; (with_reducible refine (sq_mail (w := w5) f5 k5 HCF.out HR5.out (HA5.out.below b5)).mono ?_); rintro e w6 ⟨u6, rfl, r6⟩; obtain ⟨q6, j6, (hu6 : u6 = .slice q6 2 j6)⟩ := r6.shp; subst hu6; have R6 := hideP r6; have b6' := r6.bel; clear r6; have b6 : Below wv5.heap.size wv5 w6 := xaeZ b5 b6'; have nz : ¬ z5 = w6.heap.size := (by have := b6.size; omega); have g0 := (b6.cell (p := ⟨z5, 0, none⟩) l5).trans a5)
            | (go_at_call 11; (with_reducible refine (sq_mail (w := (w5.alloc _)) (f5.below (hd5 _)) (k5.below f5 (hd5 _)) HCF.out HR5.out (HA5.out.below (xaeZ b5 (hd5 _)))).mono ?_); rintro e w6 ⟨u6, rfl, r6⟩; obtain ⟨q6, j6, (hu6 : u6 = .slice q6 2 j6)⟩ := r6.shp; subst hu6; have R6 := hideP r6; have b6' := r6.bel; clear r6; have b6 : Below wv5.heap.size wv5 w6 := xaeZ (xaeZ b5 (hd5 _)) b6'; have nz : ¬ z5 = w5.heap.size := (by have := b5.size; omega); have q6' := (b6'.block w5.heap.size (xacZ (World.alloc_heap_new w5 _))).trans (World.alloc_heap_new w5 _); have Q6 := hideP q6'; have m0 := xaaZ q6' 0; simp at m0; have mz0 := Lib.frozen_of_heap q6' 0; clear q6'; have g0 := (b6.cell (p := ⟨z5, 0, none⟩) l5).trans a5))
        all_goals
          go_wp2_with fail
          go_meet
        · have hF := wfin0 b5 R6.out
          exact ⟨_, _, rfl, rfl, rfl, hF.1, hF.2.1, hF.2.2⟩
        · have hF := wfin (xaeZ b5 (hd5 _)) R6.out Q6.out b5.size
          exact ⟨_, _, rfl, rfl, rfl, hF.1, hF.2.1, hF.2.2⟩
        · have hF := wfin b5 R6.out Q6.out (Nat.le_refl _)
          exact ⟨_, _, rfl, rfl, rfl, hF.1, hF.2.1, hF.2.2⟩
      case rest =>
        obtain ⟨z6, u6, rfl, rfl, rfl, hz6, hA6, hb6⟩ := hcut
        rename World => wv6
        obtain ⟨p6, c6, (hu6 : u6 = .slice p6 2 c6)⟩ := hA6.shp'
        subst hu6
        have l6 := xacZ hz6
        have a6 := xaaZ hz6 0
        simp at a6
        have HB6 := hideP hb6
        have HZ6 := hideP hz6
        have HA6 := hideP hA6
        clear hz6 hA6 hb6
        have b56 := HB6.out
        have b46 := xaeZ HB5.out b56
        have hz4' := (b46.block _ l4).trans HZ4.out
        have hz5' := (b56.block _ l5).trans HZ5.out
        have hM4 := HA4.out.below b46
        have hM5 := HA5.out.below b56
        have HBB := hideP (xaeZ HB3.out (xaeZ HB4.out b46))
        
        obtain ⟨px, cx, hpx, -, -, hfx⟩ := hM4
        injection hpx with hpx1 hpx2 hpx3
        obtain ⟨g4, o4, fv4, bv4, iv4, ov4, hp4, hg4, -, -, m4, -, -, -, hAM4⟩ := hfx 1 wB1 rfl
        rw [← hpx1] at hp4
        subst hp4
        obtain ⟨pi4, ci4, (hiv4 : iv4 = .slice pi4 1 ci4)⟩ := hAM4.shp.2.2.1
        subst hiv4
        clear hpx1 hpx2 hpx3 hfx
        
        obtain ⟨px, cx, hpx, -, -, hfx⟩ := hM5
        injection hpx with hpx1 hpx2 hpx3
        obtain ⟨g5, o5, fv5, bv5, iv5, ov5, hp5, hg5, -, -, m5, -, -, -, hAM5⟩ := hfx 0 (giveM wW0 [81]) rfl
        rw [← hpx1] at hp5
        subst hp5
        obtain ⟨pi5, ci5, (hiv5 : iv5 = .slice pi5 1 ci5)⟩ := hAM5.shp.2.2.1
        subst hiv5
        clear hpx1 hpx2 hpx3 hfx
        
        have KX : Hid (∀ W, Below wv6.heap.size wv6 W → W.cell? ⟨z4, 0, none⟩ = some (.slice (some ⟨g4, o4, none⟩) 2 c4) ∧ W.cell? ⟨z5, 0, none⟩ = some (.slice (some ⟨g5, o5, none⟩) 2 c5) ∧ W.cell? ⟨z6, 0, none⟩ = some (.slice p6 2 c6) ∧ W.cell? ⟨g4, o4 + 6 + 2, none⟩ = some (.slice pi4 1 ci4) ∧ W.cell? ⟨g5, o5 + 2, none⟩ = some (.slice pi5 1 ci5)) := fun W hW => ⟨xaaZ ((hW.block _ (xacZ hz4')).trans hz4') 0, xaaZ ((hW.block _ (xacZ hz5')).trans hz5') 0, xaaZ ((hW.block _ l6).trans HZ6.out) 0, (hW.cell (p := ⟨g4, o4 + 6 + 2, none⟩) hg4).trans (by simpa using m4), (hW.cell (p := ⟨g5, o5 + 2, none⟩) hg5).trans (by simpa using m5)⟩
        have HI4 := hideP hAM4.inp
        have HI5 := hideP hAM5.inp
        clear b56 b46 hz4' hz5' hg4 hg5 m4 m5 hAM4 hAM5 a0 a4 a5 a6
        go_wp2_with fail
        refine (xb3Z _).mono ?_
        rintro e w7 ⟨v7, rfl, f7, k7, b7⟩
        go_wp2_with fail
        refine (pair_any _).mono ?_
        rintro e w8 ⟨u8, rfl, m8, b8⟩
        have HCK := hideP (sq_check (f7.below b8) (k7.below f7 b8) m8 HCF.out)
        have b68 := xaeZ b7 b8
        clear f7 k7 m8 b7 b8
        go_wp2_with fail
        refine HCK.out.mono ?_
        rintro e w9 ⟨rfl, b9⟩
        have HB9 := hideP (xaeZ b68 b9)
        obtain ⟨x4, x5, x6, y4, y5⟩ := KX.out w9 HB9.out
        clear b68 b9 HCK
        have qs1 := World.alloc_heap_new w9 (.cells #[.int .i64 9] 3)
        have as1 := (Below.refl w9.heap.size w9).alloc (Nat.le_refl _) (.cells #[.int .i64 9] 3)
        have HSs1 := hideP (xdfZ [9] [9] _ _ (w9.alloc (.cells #[.int .i64 9] 3)) ((HI4.out.below (HB9.out)).below as1).at_ (xa8Z 1 1 qs1 rfl (by unfold maxLen; decide)))
        have HQs1 := hideP as1
        clear qs1 as1
        go_wp2_with fail
        refine HSs1.out.mono ?_
        rintro e w10 ⟨rfl, b10⟩
        have HB10 := hideP (xaeZ HB9.out (xaeZ HQs1.out b10))
        obtain ⟨x4', x5', x6', y4', y5'⟩ := KX.out w10 HB10.out
        clear x4 x5 x6 y4 y5 b10
        have qs2 := World.alloc_heap_new w10 (.cells #[.int .i64 81] 3)
        have as2 := (Below.refl w10.heap.size w10).alloc (Nat.le_refl _) (.cells #[.int .i64 81] 3)
        have HSs2 := hideP (xdfZ [81] [81] _ _ (w10.alloc (.cells #[.int .i64 81] 3)) ((HI5.out.below (HB10.out)).below as2).at_ (xa8Z 1 1 qs2 rfl (by unfold maxLen; decide)))
        have HQs2 := hideP as2
        clear qs2 as2
        go_wp2_with fail
        refine HSs2.out.mono ?_
        rintro e w11 ⟨rfl, b11⟩
        have b611 := xaeZ HB10.out (xaeZ HQs2.out b11)
        go_wp2
        go_ret
        exact ⟨by simp, xaeZ HBB.out b611⟩
end Go.Proofs.YtmjjkenblfndgaaGreat


/- Worlds that came in. -/
namespace Go.Proofs.YtmjjkenblfndgaaGreat
open Go.ChangeShapes Go.WideShapes Go.ChangeAt Go.RowKit
set_option linter.unusedVariables false
set_option linter.unusedSimpArgs false
section
variable {H : Type} {enc : TypeId × Value → H} {W : World} {fuel : Nat} {x : DataW H × List MemPlace}
theorem bytes_mach : Tryz.prog.bytesOf 48 = 112 := by kernel_rfl
theorem xphZ : Tryz.prog.cellsOf 25 = 1 := by kernel_rfl
theorem xpiZ : Tryz.prog.cellsOf 27 = 1 := by kernel_rfl
instance : Inhabited Mach := ⟨⟨[], [], [], [], 0, 0⟩⟩
theorem open_machN {c0 c1 c2 c3 c4 c5 : Value} (hf : DataW.trod enc Tryz.prog W 0 (fun _ => true) true fuel 48 [c0, c1, c2, c3, c4, c5] = some x) (hs : ∀ n ∈ x.1.weights Tryz.prog 48, n ≤ reachBytes) :
    ∃ M : Mach, c4 = .int .i64 M.status ∧ c5 = .int .i64 M.trap ∧ MachAt W c0 c1 c2 c3 M ∧ MachLong M := by
  obtain ⟨xs, n, _, hx, hl, hlen, hg⟩ := DataW.trod_struct Tryz.underlying48 hf
  match xs, hlen with
  | [y0, y1, y2, y3, y4, y5], _ =>
    have h0 := hg 0 _ rfl
    have h1 := hg 1 _ rfl
    have h2 := hg 2 _ rfl
    have h3 := hg 3 _ rfl
    have h4 := hg 4 _ rfl
    have h5 := hg 5 _ rfl
    simp [cells_frms, cells_blks, xhdZ, xgiZ, Value.cells] at h0 h1 h2 h3 h4 h5
    have hx1 := congrArg Prod.fst hx
    simp only at hx1
    rw [hx1] at hs
    simp only [DataW.weights, Tryz.underlying48] at hs
    obtain ⟨F, hF, nF, zF⟩ := open_frmsC h0 (fun n hn => hs n (by simp [DataW.weightsEach, hn]))
    obtain ⟨B, hB⟩ := open_blksC h1 (fun n hn => hs n (by simp [DataW.weightsEach, hn]))
    obtain ⟨I, hI, zI⟩ := xh0Z h2 (fun n hn => hs n (by simp [DataW.weightsEach, hn]))
    obtain ⟨O, hO, zO⟩ := xh0Z h3 (fun n hn => hs n (by simp [DataW.weightsEach, hn]))
    obtain ⟨st, e4, _⟩ := DataW.trod_int Tryz.underlying3 h4
    obtain ⟨tr, e5, _⟩ := DataW.trod_int Tryz.underlying3 h5
    simp at e4 e5
    subst e4 e5
    exact ⟨⟨F, B, I, O, st, tr⟩, rfl, rfl, ⟨hF, hB, hI, hO⟩, zF, zI, zO⟩
theorem xp0Z {c : Value} (h : DataW.trod enc Tryz.prog W 0 (fun _ => true) true fuel 25 [c] = some x) (hs : ∀ n ∈ x.1.weights Tryz.prog 25, n ≤ reachBytes) : ∃ L : List Mach, MachsAt W c L ∧ ∀ M ∈ L, MachLong M := by
  rcases Deep.open_slice Tryz.underlying25 h with ⟨hcs, hx⟩ | ⟨a, len', cap', m, n, D, Pl, hcs, hb, hl, hm, hmm, hx, hc⟩
  · simp at hcs
    subst hcs
    exact ⟨[], ⟨none, 0, rfl, Nat.zero_le _, Nat.zero_le _, fun k o hk => by simp at hk⟩, by simp⟩
  · simp at hcs
    subst hcs
    simp only [if_true] at hmm
    subst hmm
    rw [hx] at hs
    simp only [DataW.weights, Tryz.underlying25] at hs
    have hlen : len' ≤ 2199023255488 := by
      have h1 := hs _ (List.mem_cons_self ..)
      rw [bytes_mach] at h1
      simp [reachBytes] at h1
      omega
    have each : ∀ i, i < len' → ∃ q : ((Value × Value) × Value × Value) × Mach, W.cell? (a.add (i * 6)) = some q.1.1.1 ∧ W.cell? (a.add (i * 6 + 1)) = some q.1.1.2 ∧ W.cell? (a.add (i * 6 + 2)) = some q.1.2.1 ∧ W.cell? (a.add (i * 6 + 3)) = some q.1.2.2 ∧ W.cell? (a.add (i * 6 + 4)) = some (.int .i64 q.2.status) ∧ W.cell? (a.add (i * 6 + 5)) = some (.int .i64 q.2.trap) ∧ MachAt W q.1.1.1 q.1.1.2 q.1.2.1 q.1.2.2 q.2 ∧ MachLong q.2 := by
      intro i hi
      obtain ⟨cs', h1, h2⟩ := hc i (by omega)
      rw [cells_mach] at h1
      obtain ⟨_, hlen, hcell⟩ := World.cells?_some h1
      match cs', hlen with
      | [c0, c1, c2, c3, c4, c5], _ =>
        obtain ⟨M, rfl, rfl, g2, g3⟩ := open_machN (x := (D i, Pl i)) h2 (fun n hn => hs n (List.mem_cons_of_mem _ (List.mem_append_left _ (xdhZ (List.mem_map.2 ⟨i, List.mem_range.2 hi, rfl⟩) n hn))))
        have e0 := hcell 0 (by omega)
        have e1 := hcell 1 (by omega)
        have e2 := hcell 2 (by omega)
        have e3 := hcell 3 (by omega)
        have e4 := hcell 4 (by omega)
        have e5 := hcell 5 (by omega)
        rw [Deep.add_add] at e0 e1 e2 e3 e4 e5
        exact ⟨(((c0, c1), c2, c3), M), by simpa using e0, by simpa using e1, by simpa using e2, by simpa using e3, by simpa using e4, by simpa using e5, g2, g3⟩
    obtain ⟨q, hq⟩ := Deep.choose_lt each
    refine ⟨(List.range len').map fun i => (q i).2, ⟨some a, m, by simp, by unfold maxLen; simp; omega, by simpa using hl, fun k M hk => ?_⟩, fun M hM => ?_⟩
    · have hk1 : k < len' := by have := xciZ hk; simpa using this
      have ho : M = (q k).2 := by simp [hk1] at hk; exact hk.symm
      obtain ⟨c0, c1, c2, c3, c4, c5, f1, f2⟩ := hq k (by omega)
      obtain ⟨b, off, spot⟩ := a
      have hs0 := (hq 0 (by omega)).1
      have hspot : spot = none := by simpa [Addr.add] using World.cell?_spot hs0
      subst hspot
      rw [xdsZ] at c0 c1 c2 c3 c4 c5
      rw [ho]
      exact ⟨b, off, _, _, _, _, rfl, xbkZ c0, c0, c1, c2, c3, c4, c5, f1⟩
    · obtain ⟨i, hi, rfl⟩ := List.mem_map.1 hM
      obtain ⟨_, _, _, _, _, _, _, g⟩ := hq i (List.mem_range.1 hi)
      exact g
theorem xp1Z {base : Nat} {r : Reach} {v : Value} {d : DataW H} {p : List MemPlace} (hv : Value.okWide Tryz.prog W r base 27 v) (h : DataW.Trod enc Tryz.prog W 0 (fun _ => true) true 27 v d p) (hs : ∀ n ∈ d.weights Tryz.prog 27, n ≤ reachBytes) :
    ∃ (c : Value) (L : List Mach), v = .agg #[c] ∧ MachsAt W c L ∧ ∀ M ∈ L, MachLong M := by
  obtain ⟨cs, rfl, hsz⟩ := okWide_struct Tryz.underlying27 hv
  rw [xpiZ] at hsz
  obtain ⟨cs⟩ := cs
  match cs, hsz with
  | [c0], _ =>
    obtain ⟨fuel, hf⟩ := h
    obtain ⟨xs, n, _, hx, hl, hlen, hg⟩ := DataW.trod_struct Tryz.underlying27 hf
    match xs, hlen with
    | [y0], _ =>
      have h0 := hg 0 _ rfl
      simp [xphZ, Value.cells] at h0
      have hx1 := congrArg Prod.fst hx
      simp only at hx1
      rw [hx1] at hs
      simp only [DataW.weights, Tryz.underlying27] at hs
      obtain ⟨L, hL, zL⟩ := xp0Z h0 (fun n hn => hs n (by simp [DataW.weightsEach, hn]))
      exact ⟨c0, L, rfl, hL, zL⟩
end
end Go.Proofs.YtmjjkenblfndgaaGreat


/- append of numbers, as a step of a region that draws. -/
namespace Go.Proofs.YtmjjkenblfndgaaGreat
open Go.RowKit
set_option linter.unusedSimpArgs false
set_option linter.unusedVariables false
theorem xdpZ {ops : Array Oper} {o : Oper} {a : Act} {w : World} {K : Act → World → Prop} {Q : Exit → Act → World → Prop} {E : Prop}
    (hg : o.guard = none) (s x : Operand) (hop : o.op = Op.call { callee := Callee.builtin Builtin.append, args := #[s, x], argTypes := #[46, 46] })
    (base : Nat) (v : Value) (I : List Int) (hs : a.eval s = v) (hown : w.ownsRow base 3 1 v I.length (I.map (Value.int .i64)))
    (u : Value) (l : List Int) (hx : a.eval x = u) (hu : FullInts w u l) (b1 : I.length + l.length ≤ 100000) (hbase : base ≤ w.heap.size)
    (hK : ∀ v' w', w'.ownsRow base 3 1 v' (I ++ l).length ((I ++ l).map (Value.int .i64)) → w.grownBy w' v.ownBlock → K (a.put o.dst v') w') :
    if Region.wanted o (yielded ops a.tmps) = true then Oper.wp Tryz.prog o a w K Q else E := by
  obtain ⟨i0, hi, hz0, hz1, hz2⟩ := info_parts xe9Z
  obtain ⟨p, c', hu1, -, hcells⟩ := id hu.at_
  subst hu1
  cases p with
  | none =>
    have hl : l = [] := by
      cases l with
      | nil => rfl
      | cons f r => obtain ⟨b, off, hb, _⟩ := hcells 0 f rfl; cases hb
    subst hl
    have hc0 : c' = 0 := hu.nil _ _ rfl
    subst hc0
    have hw : Region.wanted o (yielded ops a.tmps) = true := by simp [Region.wanted, hg]
    rw [if_pos hw]
    have hrun := run_append_owned_none (P := Tryz.prog) (w := w) base 46 o.type 3 i0 1 Tryz.underlying46 hi v I.length _ hown
    have hx' : a.eval x = .slice none 0 0 := hx
    unfold Oper.wp
    simp [execOp, hop, resolve, invoke, builtin, hs, hx', hrun, Result.andThen]
    exact hK v w (by simpa using hown) (World.grownBy.refl _ _)
  | some ad =>
    exact xd0Z hg s x 46 hop base 3 i0 _ 1 8 Tryz.underlying46 hi hz0 hz1 hz2 rfl (by decide) v I.length _ hs hown ad l.length c' (l.map (Value.int .i64)) hx (by simp) (xeeZ hu.at_) (xejZ l) (by unfold maxLen; omega) (by omega) hbase (fun v' w' r1 r2 => hK v' w' (by rw [List.length_append, List.map_append]; exact r1) r2)
theorem xkwZ {W : World} {B g : Nat} (h : W.heap[g]? = some (.cells #[] 3 (0, 0))) (hB : B ≤ g) : W.ownsRow B 3 1 (.slice (some ⟨g, 0, none⟩) 0 0) 0 [] := ⟨by simp, .inr ⟨g, 0, #[], rfl, hB, h, Nat.le_refl _, Nat.zero_le _, by simp, by simp⟩⟩
theorem xb4Z {w W W' : World} (h : Below w.heap.size w W) (e : W'.heap = W.heap) (e1 : W'.os = W.os) (e2 : W'.tape = W.tape) (e3 : W'.output = W.output) : Below w.heap.size w W' := ⟨e1.trans h.os, e2.trans h.tape, e3.trans h.output, by rw [e]; exact h.size, fun k hk => by rw [e]; exact h.block k hk⟩
theorem xfvZ {w W : World} (h : Below w.heap.size w W) (o : Obj) : Below w.heap.size w (W.alloc o) := h.alloc h.size o
theorem xfwZ {w W W' : World} (h : Below w.heap.size w W) {g : Option Nat} (hg : W.grownBy W' g) (hb : ∀ k, g = some k → w.heap.size ≤ k) : Below w.heap.size w W' := h.grown hg h.size hb
theorem xhsZ {W W' : World} {B n k : Nat} {e : TypeId} {v : Value} {xs : List Value} (h : W.ownsRow B e k v n xs) (he : W'.heap = W.heap) : W'.ownsRow B e k v n xs := xaoZ h fun j _ => by rw [he]
end Go.Proofs.YtmjjkenblfndgaaGreat


