/- My texts Zm Zn Zo: what of them is needed, joined. -/
import Derived.Deep.RegionHeld3
import Derived.Test.YtmjjkenblfndgaaGreatB11
import Derived.Test.YtmjjkenblfndgaaGreatB18
import Derived.Test.YtmjjkenblfndgaaGreatB26
set_option maxRecDepth 100000
set_option maxHeartbeats 8000000
/- What must be in any case of worlds: pair, worldBegun. -/
namespace Go.Proofs.YtmjjkenblfndgaaGreat
open Go.RowKit
set_option linter.unusedSimpArgs false
set_option linter.unusedVariables false
def wV0 : Mach := ⟨[⟨0, 0, [], []⟩], [], [], [9], 1, 0⟩
def wW0 : Mach := ⟨[⟨0, 0, [], []⟩], [], [], [], 1, 0⟩
def wB1 : Mach := ⟨[⟨0, 0, [], []⟩], [], [9], [], 0, 0⟩
def wU1 : Mach := ⟨[⟨0, 0, [], []⟩], [], [], [81], 1, 0⟩
theorem wrun1 : (runF xakZ 60 (giveM beginM [3], 50)).1 = wV0 := by kernel_rfl
theorem wrun2 : (runF xakZ 60 (beginM, 50)).1 = wW0 := by kernel_rfl
theorem wrun3 : (runF xakZ 60 (wB1, 50)).1 = wU1 := by kernel_rfl
theorem wmail1 : mailW [wV0, wW0] = [wW0, wB1] := by kernel_rfl
theorem wmail2 : mailW [wW0, wU1] = [giveM wW0 [81], wW0] := by kernel_rfl
theorem wmail3 : mailW [giveM wW0 [81], wW0] = [giveM wW0 [81], wW0] := by kernel_rfl
theorem wwent3 : wentW [giveM wW0 [81], wW0] = 0 := by kernel_rfl
theorem xfiZ (hf : fitsE xakZ = 0) : xanZ xakZ = 0 ∧ xaxZ xakZ (entP xakZ) ∧ RightM xakZ (entP xakZ) beginM := by
  obtain ⟨hp, he⟩ := xcyZ.1 hf
  obtain ⟨f, _, _, hR⟩ := xghZ hp he
  rw [cb2.1] at hR
  exact ⟨hp, he, hR⟩
theorem sq_runs1 : xfrZ xakZ [giveM beginM [3], beginM] 50 [wV0, wW0] := by
  refine ⟨rfl, fun i m hm => ?_⟩
  match i, hm with
  | 0, hm =>
    cases hm
    refine ⟨runF xakZ 60 (giveM beginM [3], 50), ?_, by rw [wrun1]; rfl⟩
    unfold RunIs
    rw [xd6Z (by decide)]
    exact xenZ 60 _ (.inl (by rw [wrun1]; decide))
  | 1, hm =>
    cases hm
    refine ⟨runF xakZ 60 (beginM, 50), ?_, by rw [wrun2]; rfl⟩
    unfold RunIs
    rw [xd6Z (by decide)]
    exact xenZ 60 _ (.inl (by rw [wrun2]; decide))
  | k + 2, hm => simp at hm
theorem xggZ {L : List Mach} (hf : fitsE xakZ = 0) (h1 : L ≠ []) (h2 : L.length ≤ 4) (h3 : ∀ M ∈ L, RightM xakZ (entP xakZ) M) : xa7Z xakZ L = 0 ∧ ∀ M ∈ L, PcOk M := by
  obtain ⟨hp, he, -⟩ := xfiZ hf
  exact ⟨xldZ h1 h2 hp he h3, fun M hM => right_pc hp he (h3 M hM)⟩
theorem sq_r0 (hf : fitsE xakZ = 0) : ∀ M ∈ [beginM, beginM], RightM xakZ (entP xakZ) M := fun M hM => by
  have := (xfiZ hf).2.2
  simp at hM
  subst hM
  exact this
theorem sq_r1 (hf : fitsE xakZ = 0) : ∀ M ∈ [giveM beginM [3], beginM], RightM xakZ (entP xakZ) M := fun M hM => by
  have h := (xfiZ hf).2.2
  simp at hM
  rcases hM with rfl | rfl
  · exact xk6Z h (by decide) (by decide)
  · exact h
theorem sq_r2 (hf : fitsE xakZ = 0) : ∀ M ∈ [wW0, wB1], RightM xakZ (entP xakZ) M := by
  obtain ⟨hp, he, -⟩ := xfiZ hf
  have := xhtZ (xe4Z hp he (sq_r1 hf) (by decide) sq_runs1)
  rw [wmail1] at this
  exact this
theorem sq_runs2 (hf : fitsE xakZ = 0) {V : List Mach} (h : xfrZ xakZ [wW0, wB1] 50 V) : V = [wW0, wU1] := by
  obtain ⟨hp, he, -⟩ := xfiZ hf
  have hl := h.1
  obtain ⟨t, h1, h2⟩ := h.2 0 wW0 rfl
  obtain ⟨u, h3, h4⟩ := h.2 1 wB1 rfl
  have e1 := run_wait hp he (sq_r2 hf wW0 (by simp)) rfl h1
  have e2 : u = runF xakZ 60 (wB1, 50) := by
    refine xfwZ h3 ?_
    unfold RunIs
    rw [xd6Z (by decide)]
    exact xenZ 60 _ (.inl (by rw [wrun3]; decide))
  rw [e1] at h2
  rw [e2, wrun3] at h4
  match V, hl, h2, h4 with
  | [a, b], _, h2, h4 => simp at h2 h4; rw [h2, h4]
theorem sq_r3 (hf : fitsE xakZ = 0) {V : List Mach} (h : xfrZ xakZ [wW0, wB1] 50 V) : ∀ M ∈ [giveM wW0 [81], wW0], RightM xakZ (entP xakZ) M := by
  obtain ⟨hp, he, -⟩ := xfiZ hf
  have := xhtZ (xe4Z hp he (sq_r2 hf) (by decide) h)
  rw [sq_runs2 hf h, wmail2] at this
  exact this
def WRet (T : List Mach) (w : World) (e : Ending) (w' : World) : Prop := ∃ u, e = .returned (.tuple #[.agg #[u], .int .i64 0]) ∧ WOut T 1040 w u w'
theorem sq_send {pv wv : Value} {w : World} (hp : FnsAt w pv xakZ) (hcp : CapAt w pv) (h : MachsAt w wv [beginM, beginM]) (hf : fitsE xakZ = 0) : Calls Tryz.prog 13 #[.agg #[pv], .agg #[wv], .int .i64 0, .int .i64 3] w (WRet [giveM beginM [3], beginM] w) := by
  obtain ⟨h1, h2⟩ := xggZ hf (by simp) (by decide) (sq_r0 hf)
  have hE : sendE xakZ [beginM, beginM] 0 3 = 0 := by
    unfold sendE
    rw [if_neg (by simpa using h1), if_neg (by rw [show wrap32 3 = 3 from by first | decide +kernel | (unfold wrap32; omega)]; decide)]
    refine if_neg ?_
    rintro ⟨M, hM, h10⟩
    cases hM
    exact absurd h10 (by decide)
  have hS : sendL xakZ [beginM, beginM] 0 3 = [giveM beginM [3], beginM] := by
    unfold sendL
    rw [if_pos hE]
    rfl
  have := wSend_any [beginM, beginM] xakZ 0 3 (by decide) pv wv w hp hcp h h2
  rw [hE, hS] at this
  exact this
theorem sq_check {pv wv : Value} {w : World} (hp : FnsAt w pv xakZ) (hcp : CapAt w pv) (h : MachsAt w wv [beginM, beginM]) (hf : fitsE xakZ = 0) : Calls Tryz.prog 20 #[.agg #[pv], .agg #[wv]] w fun e w' => e = .returned (.int .i64 0) ∧ Below w.heap.size w w' := by
  obtain ⟨h1, h2⟩ := xggZ hf (by simp) (by decide) (sq_r0 hf)
  have := xfaZ [beginM, beginM] xakZ pv wv w hp hcp h h2
  rw [h1] at this
  exact this
theorem xj6Z {pv wv : Value} {w : World} (hp : FnsAt w pv xakZ) (hcp : CapAt w pv) (hf : fitsE xakZ = 0) (h : MachsAt w wv [giveM beginM [3], beginM]) : Calls Tryz.prog 12 #[.agg #[pv], .agg #[wv], .int .i64 50] w (WRet [wW0, wB1] w) := by
  obtain ⟨h1, h2⟩ := xggZ hf (by simp) (by decide) (sq_r1 hf)
  have hE : turnE xakZ [giveM beginM [3], beginM] 50 = 0 := xf6Z.2 ⟨h1, by decide, by decide⟩
  refine (xivZ _ xakZ 50 pv wv w hp hcp h h2).mono ?_
  rintro e w' ⟨T, u, hT, rfl, hW⟩
  obtain ⟨V, hV, rfl⟩ := hT.1 hE
  rw [runsIs_one hV sq_runs1, wmail1] at hW
  exact ⟨u, by rw [hE], hW⟩
theorem xj7Z {pv wv : Value} {w : World} (hp : FnsAt w pv xakZ) (hcp : CapAt w pv) (hf : fitsE xakZ = 0) (h : MachsAt w wv [wW0, wB1]) : Calls Tryz.prog 12 #[.agg #[pv], .agg #[wv], .int .i64 50] w fun e w' => WRet [giveM wW0 [81], wW0] w e w' ∧ ∀ M ∈ [giveM wW0 [81], wW0], RightM xakZ (entP xakZ) M := by
  obtain ⟨h1, h2⟩ := xggZ hf (by simp) (by decide) (sq_r2 hf)
  have hE : turnE xakZ [wW0, wB1] 50 = 0 := xf6Z.2 ⟨h1, by decide, by decide⟩
  refine (xivZ _ xakZ 50 pv wv w hp hcp h h2).mono ?_
  rintro e w' ⟨T, u, hT, rfl, hW⟩
  obtain ⟨V, hV, rfl⟩ := hT.1 hE
  rw [sq_runs2 hf hV, wmail2] at hW
  exact ⟨⟨u, by rw [hE], hW⟩, sq_r3 hf hV⟩
theorem sq_mail {pv wv : Value} {w : World} (hp : FnsAt w pv xakZ) (hcp : CapAt w pv) (hf : fitsE xakZ = 0) (hr : ∀ M ∈ [giveM wW0 [81], wW0], RightM xakZ (entP xakZ) M) (h : MachsAt w wv [giveM wW0 [81], wW0]) : Calls Tryz.prog 11 #[.agg #[pv], .agg #[wv]] w fun e w' => ∃ u, e = .returned (.tuple #[.agg #[u], .int .i64 0, .int .i64 0]) ∧ WOut [giveM wW0 [81], wW0] 1040 w u w' := by
  obtain ⟨h1, h2⟩ := xggZ hf (by simp) (by decide) hr
  have hN : mailN xakZ [giveM wW0 [81], wW0] = 0 := by unfold mailN; rw [if_pos h1, wwent3]
  have hL : mailL xakZ [giveM wW0 [81], wW0] = [giveM wW0 [81], wW0] := by unfold mailL; rw [if_pos h1, wmail3]
  have := wMail_any _ xakZ pv wv w hp hcp h h2
  rw [hN, hL, h1] at this
  exact this
theorem pair_any (w : World) : Calls Tryz.prog 48 #[] w fun e w' => ∃ u, e = .returned (.agg #[u]) ∧ MachsAt w' u [beginM, beginM] ∧ Below w.heap.size w w' := by
  obtain ⟨W0, hW0⟩ : ∃ W0, w.alloc (.cells #[.slice none 0 0] 27) = W0 := ⟨_, rfl⟩
  go_enter Tryz.func48, Tryz.ntmps48
  go_wp2_with fail
  refine (xb5Z _).mono ?_
  rintro e w1 ⟨v1, rfl, f1, k1, b1⟩
  have hf := xjkZ f1 k1
  have HST := hideP (xg7Z f1 k1 hf cb2.1)
  go_wp2_with fail
  refine HST.out.mono ?_
  rintro e w2 ⟨xf, xb, xi, xo, rfl, r2, b2⟩
  obtain ⟨⟨p1f, k1f, hf1⟩, ⟨p1b, k1b, hb1⟩, ⟨p1i, k1i, hi1⟩, ⟨p1o, k1o, ho1⟩⟩ := xb8Z r2
  subst hf1 hb1 hi1 ho1
  have A1 : MachAt w2 _ _ _ _ beginM := r2.at_ (by decide)
  obtain ⟨W3, hW3⟩ : ∃ W3, w2.alloc (.cells #[.slice p1f beginM.frames.length k1f, .slice p1b beginM.blocks.length k1b, .slice p1i beginM.inp.length k1i, .slice p1o beginM.out.length k1o, .int .i64 beginM.status, .int .i64 beginM.trap] 48) = W3 := ⟨_, rfl⟩
  have c1 : Below w2.heap.size w2 W3 := by rw [← hW3]; exact (Below.refl _ w2).alloc (Nat.le_refl _) _
  have u1 : W3.heap[w2.heap.size]? = some (.cells #[.slice p1f beginM.frames.length k1f, .slice p1b beginM.blocks.length k1b, .slice p1i beginM.inp.length k1i, .slice p1o beginM.out.length k1o, .int .i64 beginM.status, .int .i64 beginM.trap] 48 (0, 0)) := by rw [← hW3]; exact World.alloc_heap_new w2 _
  have z1 : W0.heap[w.heap.size]? = some (.cells #[.slice none 0 0] 27 (0, 0)) := by rw [← hW0]; exact World.alloc_heap_new w _
  have bW0 : Below w.heap.size w W0 := by rw [← hW0]; exact (Below.refl _ w).alloc (Nat.le_refl _) _
  have B3 := xaeZ (xaeZ b1 b2) c1
  have HF := hideP hf
  clear f1 k1 HST hf
  go_wp2_with fail
  refine (xb5Z _).mono ?_
  rintro e w4 ⟨v4, rfl, f4, k4, b4⟩
  have HST := hideP (xg7Z f4 k4 HF.out cb2.1)
  clear f4 k4
  go_wp2_with fail
  refine HST.out.mono ?_
  rintro e w5 ⟨yf, yb, yi, yo, rfl, r5, b5⟩
  obtain ⟨⟨p2f, k2f, hf1⟩, ⟨p2b, k2b, hb1⟩, ⟨p2i, k2i, hi1⟩, ⟨p2o, k2o, ho1⟩⟩ := xb8Z r5
  subst hf1 hb1 hi1 ho1
  have A2 : MachAt w5 _ _ _ _ beginM := r5.at_ (by decide)
  obtain ⟨W6, hW6⟩ : ∃ W6, w5.alloc (.cells #[.slice p2f beginM.frames.length k2f, .slice p2b beginM.blocks.length k2b, .slice p2i beginM.inp.length k2i, .slice p2o beginM.out.length k2o, .int .i64 beginM.status, .int .i64 beginM.trap] 48) = W6 := ⟨_, rfl⟩
  have c2 : Below w5.heap.size w5 W6 := by rw [← hW6]; exact (Below.refl _ w5).alloc (Nat.le_refl _) _
  have u2 : W6.heap[w5.heap.size]? = some (.cells #[.slice p2f beginM.frames.length k2f, .slice p2b beginM.blocks.length k2b, .slice p2i beginM.inp.length k2i, .slice p2o beginM.out.length k2o, .int .i64 beginM.status, .int .i64 beginM.trap] 48 (0, 0)) := by rw [← hW6]; exact World.alloc_heap_new w5 _
  have b36 := xaeZ (xaeZ b4 b5) c2
  have b06 := xaeZ B3 b36
  have u1' := (b36.block _ (xacZ u1)).trans u1
  have u0' := (b06.block _ (xacZ z1)).trans z1
  have d0 : W6.cell? ⟨w2.heap.size, 0, none⟩ = some (.slice p1f beginM.frames.length k1f) := xaaZ u1' 0
  have d1 : W6.cell? ⟨w2.heap.size, 1, none⟩ = some (.slice p1b beginM.blocks.length k1b) := xaaZ u1' 1
  have d2 : W6.cell? ⟨w2.heap.size, 2, none⟩ = some (.slice p1i beginM.inp.length k1i) := xaaZ u1' 2
  have d3 : W6.cell? ⟨w2.heap.size, 3, none⟩ = some (.slice p1o beginM.out.length k1o) := xaaZ u1' 3
  have d4 : W6.cell? ⟨w2.heap.size, 4, none⟩ = some (.int .i64 beginM.status) := xaaZ u1' 4
  have d5 : W6.cell? ⟨w2.heap.size, 5, none⟩ = some (.int .i64 beginM.trap) := xaaZ u1' 5
  have g0 : W6.cell? ⟨w5.heap.size, 0, none⟩ = some (.slice p2f beginM.frames.length k2f) := xaaZ u2 0
  have g1 : W6.cell? ⟨w5.heap.size, 1, none⟩ = some (.slice p2b beginM.blocks.length k2b) := xaaZ u2 1
  have g2 : W6.cell? ⟨w5.heap.size, 2, none⟩ = some (.slice p2i beginM.inp.length k2i) := xaaZ u2 2
  have g3 : W6.cell? ⟨w5.heap.size, 3, none⟩ = some (.slice p2o beginM.out.length k2o) := xaaZ u2 3
  have g4 : W6.cell? ⟨w5.heap.size, 4, none⟩ = some (.int .i64 beginM.status) := xaaZ u2 4
  have g5 : W6.cell? ⟨w5.heap.size, 5, none⟩ = some (.int .i64 beginM.trap) := xaaZ u2 5
  have y0 := Lib.frozen_of_heap u0' 0
  have z0 := xaaZ u0' 0
  simp at z0
  have HB := hideP (xaeZ bW0 b06)
  obtain ⟨q1, hm1, -⟩ := r2.has (by decide)
  obtain ⟨q2, hm2, -⟩ := r5.has (by decide)
  have H1 := hideP (hm1.below (xaeZ c1 b36))
  have H2 := hideP (hm2.below c2)
  have HZ := hideP u0'
  have ltz := xacZ u0'
  clear HST u1 u2 u1' u0' z1 b1 b2 b4 b5 B3 b36 b06 A1 A2 r2 r5 c1 c2 bW0 hm1 hm2
  go_wp2
  have hg := xajZ W6 ⟨w.heap.size, 0, none⟩ (.slice (some ⟨W6.heap.size, 0, none⟩) 2 2)
  have ht : TyRow W6 (some w.heap.size) 27 := xaqZ HZ.out
  have hz7 := heap_setCell_same W6 w.heap.size 0 _ _ (.slice (some ⟨W6.heap.size, 0, none⟩) 2 2) HZ.out
  have b7 := HB.out.setCell (p := ⟨w.heap.size, 0, none⟩) (Nat.le_refl _) (.slice (some ⟨W6.heap.size, 0, none⟩) 2 2)
  have h1 := H1.out.keep hg ht (by decide) (by decide) (by decide) (by decide)
  have h2 := H2.out.keep hg ht (by decide) (by decide) (by decide) (by decide)
  have hs7 : (W6.setCell ⟨w.heap.size, 0, none⟩ (.slice (some ⟨W6.heap.size, 0, none⟩) 2 2)).heap.size = W6.heap.size := by simp
  generalize W6.setCell ⟨w.heap.size, 0, none⟩ (.slice (some ⟨W6.heap.size, 0, none⟩) 2 2) = W7 at *
  have b8 : Below W7.heap.size W7 (W7.alloc (.cells #[.slice p1f beginM.frames.length k1f, .slice p1b beginM.blocks.length k1b, .slice p1i beginM.inp.length k1i, .slice p1o beginM.out.length k1o, .int .i64 beginM.status, .int .i64 beginM.trap, .slice p2f beginM.frames.length k2f, .slice p2b beginM.blocks.length k2b, .slice p2i beginM.inp.length k2i, .slice p2o beginM.out.length k2o, .int .i64 beginM.status, .int .i64 beginM.trap] 48)) := (Below.refl _ W7).alloc (Nat.le_refl _) _
  have hx8 := World.alloc_heap_new W7 (.cells #[.slice p1f beginM.frames.length k1f, .slice p1b beginM.blocks.length k1b, .slice p1i beginM.inp.length k1i, .slice p1o beginM.out.length k1o, .int .i64 beginM.status, .int .i64 beginM.trap, .slice p2f beginM.frames.length k2f, .slice p2b beginM.blocks.length k2b, .slice p2i beginM.inp.length k2i, .slice p2o beginM.out.length k2o, .int .i64 beginM.status, .int .i64 beginM.trap] 48)
  have m1 := (h1.below b8).at_
  have m2 := (h2.below b8).at_
  have hz8 := (b8.block _ (xacZ hz7)).trans hz7
  have b08 := xaeZ b7 b8
  rw [hs7] at hx8
  generalize W7.alloc (.cells #[.slice p1f beginM.frames.length k1f, .slice p1b beginM.blocks.length k1b, .slice p1i beginM.inp.length k1i, .slice p1o beginM.out.length k1o, .int .i64 beginM.status, .int .i64 beginM.trap, .slice p2f beginM.frames.length k2f, .slice p2b beginM.blocks.length k2b, .slice p2i beginM.inp.length k2i, .slice p2o beginM.out.length k2o, .int .i64 beginM.status, .int .i64 beginM.trap] 48) = W8 at *
  have t0 := xaaZ hz8 0
  simp at t0
  refine bodyPost_ret (v := .agg #[.slice (some ⟨W6.heap.size, 0, none⟩) 2 2]) (by simp [results, Tryz.results48, go_sem, t0]) rfl ⟨_, rfl, ?_, b08⟩
  refine ⟨some ⟨W6.heap.size, 0, none⟩, 2, rfl, by unfold maxLen; decide, Nat.le_refl _, fun k M hk => ?_⟩
  match k, hk with
  | 0, hk =>
    cases hk
    exact ⟨W6.heap.size, 0, _, _, _, _, rfl, xacZ hx8, xaaZ hx8 0, xaaZ hx8 1, xaaZ hx8 2, xaaZ hx8 3, xaaZ hx8 4, xaaZ hx8 5, m1⟩
  | 1, hk =>
    cases hk
    exact ⟨W6.heap.size, 0, _, _, _, _, rfl, xacZ hx8, xaaZ hx8 6, xaaZ hx8 7, xaaZ hx8 8, xaaZ hx8 9, xaaZ hx8 10, xaaZ hx8 11, m2⟩
  | k + 2, hk => simp at hk
end Go.Proofs.YtmjjkenblfndgaaGreat


/- What must be in any case of worlds: worldBegun. -/
namespace Go.Proofs.YtmjjkenblfndgaaGreat
open Go.RowKit
set_option linter.unusedSimpArgs false
set_option linter.unusedVariables false
theorem xixZ {w : World} {R : Nat} {a v : Value} {p : Addr} (h : w.cell? p = some v) (hn : ¬ p.block = R) : (w.setCell ⟨R, 0, none⟩ a).cell? p = some v :=
  (World.cell?_of_block (Below.heap_setCell w _ a p.block hn)).trans h
theorem MachsAt.shp' {W : World} {v : Value} {L : List Mach} (h : MachsAt W v L) : ∃ p c, v = .slice p L.length c := by
  obtain ⟨p, c, h1, -⟩ := h
  exact ⟨p, c, h1⟩
theorem wfin0 {T : List Mach} {WW w5 w6 : World} {u : Value} (hb5 : Below WW.heap.size WW w5) (h : WOut T 1040 w5 u w6) : (w6.alloc (.cells #[u] 27)).heap[w6.heap.size]? = some (.cells #[u] 27 (0, 0)) ∧ MachsAt (w6.alloc (.cells #[u] 27)) u T ∧ Below WW.heap.size WW (w6.alloc (.cells #[u] 27)) := by
  have hb : Below w6.heap.size w6 (w6.alloc (.cells #[u] 27)) := (Below.refl _ w6).alloc (Nat.le_refl _) _
  exact ⟨World.alloc_heap_new w6 _, h.at_.below hb, xaeZ (xaeZ hb5 h.bel) hb⟩
theorem wfin {T : List Mach} {WW w5 w6 : World} {u a0 : Value} {z : Nat} (hb5 : Below WW.heap.size WW w5) (h : WOut T 1040 w5 u w6) (hz : w6.heap[z]? = some (.cells #[a0] 27 (0, 0))) (hzb : WW.heap.size ≤ z) : (w6.setCell ⟨z, 0, none⟩ u).heap[z]? = some (.cells #[u] 27 (0, 0)) ∧ MachsAt (w6.setCell ⟨z, 0, none⟩ u) u T ∧ Below WW.heap.size WW (w6.setCell ⟨z, 0, none⟩ u) := by
  have hk := heap_setCell_same w6 z 0 _ _ u hz
  obtain ⟨ms, rs, h1, h2, -, h4⟩ := h.keep hb5 (Below.refl _ w6)
  have hg := xajZ w6 ⟨z, 0, none⟩ u
  have ht : TyRow w6 (some z) 27 := xaqZ hz
  exact ⟨by simpa using hk, (h2.keep hg ht (by decide) (by decide) (by decide) (by decide)).at_ (xatZ h1 hg ht (by decide)), h4.setCell (p := ⟨z, 0, none⟩) hzb u⟩
theorem xlwZ (w : World) : Calls Tryz.prog 19 #[] w fun e w' => e = .returned (.bool true) ∧ Below w.heap.size w w' := by
  go_enter Tryz.func19, Tryz.ntmps19
  go_wp2_with fail
  refine (xb5Z _).mono ?_
  rintro e w1 ⟨v1, rfl, f1, k1, b1⟩
  have hcf := xjkZ f1 k1
  go_wp2_with fail
  refine (pair_any _).mono ?_
  rintro e w2 ⟨u2, rfl, m2, b2⟩
  have HCF := hideP hcf
  have HSE := hideP (sq_send (f1.below b2) (k1.below f1 b2) m2 hcf)
  go_wp2_with fail
  refine HSE.out.mono ?_
  rintro e w3 ⟨u3, rfl, o3⟩
  obtain ⟨p3, c3, (hu3 : u3 = .slice p3 2 c3)⟩ := o3.shp
  subst hu3
  obtain ⟨W3, hW3⟩ : ∃ W3, w3.alloc (.cells #[.slice p3 2 c3] 27) = W3 := ⟨_, rfl⟩
  have b3 : Below w3.heap.size w3 W3 := by rw [← hW3]; exact (Below.refl _ w3).alloc (Nat.le_refl _) _
  have x3 : W3.heap[w3.heap.size]? = some (.cells #[.slice p3 2 c3] 27 (0, 0)) := by rw [← hW3]; exact World.alloc_heap_new w3 _
  have a0 := xaaZ x3 0
  simp at a0
  have l3 := xacZ x3
  have HB3 := hideP (xaeZ (xaeZ (xaeZ b1 b2) o3.bel) b3)
  have HA := hideP (o3.at_.below b3)
  clear f1 k1 b1 b2 m2 o3 b3 x3 HSE hcf
  go_upto_region 2 with fail
  go_cut [3, 4] from 16 (fun sa sb wx => ∃ (z : Nat) (u : Value), sa = .pointer (some ⟨z, 0, none⟩) ∧ sb = .int .i64 0 ∧ wx.heap[z]? = some (.cells #[u] 27 (0, 0)) ∧ MachsAt wx u [wW0, wB1] ∧ Below W3.heap.size W3 wx)
  case first =>
    have hdA : ∀ o, Below W3.heap.size W3 (W3.alloc o).drew := fun o => ((Below.refl _ W3).alloc (Nat.le_refl _) o).drew
    go_region_held3 (fun W => W.cell? ⟨w3.heap.size, 0, none⟩ = some (.slice p3 2 c3)) (first | go_keep | exact xixZ g0 nz)
      (first
        | (go_at_call 47; (with_reducible refine (xb5Z _).mono ?_); rintro e w5 ⟨v5, rfl, f5, k5, b5'⟩; have b5 : Below W3.heap.size W3 w5 := xaeZ ((Below.refl _ W3).drew) b5'; clear b5'; have h0 := (b5.cell (p := ⟨w3.heap.size, 0, none⟩) l3).trans a0; have hd5 : ∀ o, Below w5.heap.size w5 (w5.alloc o) := fun o => (Below.refl _ w5).alloc (Nat.le_refl _) o)
        | (go_at_call 47; (with_reducible refine (xb5Z _).mono ?_); rintro e w5 ⟨v5, rfl, f5, k5, b5'⟩; have b5 : Below W3.heap.size W3 w5 := xaeZ (hdA _) b5'; have q5 := (b5'.block W3.heap.size (xacZ (World.alloc_heap_new W3 _))).trans (World.alloc_heap_new W3 _); have Q5 := hideP q5; have m0 := xaaZ q5 0; simp at m0; have mz0 := Lib.frozen_of_heap q5 0; clear b5' q5; have h0 := (b5.cell (p := ⟨w3.heap.size, 0, none⟩) l3).trans a0)
        | (go_at_call 12; (with_reducible refine (xj6Z (w := w5) f5 k5 HCF.out (HA.out.below b5)).mono ?_); rintro e w6 ⟨u6, rfl, r6⟩; obtain ⟨q6, j6, (hu6 : u6 = .slice q6 2 j6)⟩ := r6.shp; subst hu6; have R6 := hideP r6; have b6' := r6.bel; clear r6; have b6 : Below W3.heap.size W3 w6 := xaeZ b5 b6'; have nz : ¬ w3.heap.size = W3.heap.size := (by omega); have q6' := (b6'.block W3.heap.size (xacZ Q5.out)).trans Q5.out; have Q6 := hideP q6'; clear m0 mz0; have m0 := xaaZ q6' 0; simp at m0; have mz0 := Lib.frozen_of_heap q6' 0; clear q6'; have g0 := (b6.cell (p := ⟨w3.heap.size, 0, none⟩) l3).trans a0)
        | (go_at_call 12; (with_reducible refine (xj6Z (w := w5) f5 k5 HCF.out (HA.out.below b5)).mono ?_); rintro e w6 ⟨u6, rfl, r6⟩; obtain ⟨q6, j6, (hu6 : u6 = .slice q6 2 j6)⟩ := r6.shp; subst hu6; have R6 := hideP r6; have b6' := r6.bel; clear r6; have b6 : Below W3.heap.size W3 w6 := xaeZ b5 b6'; have nz : ¬ w3.heap.size = w6.heap.size := (by have := b6.size; omega); have g0 := (b6.cell (p := ⟨w3.heap.size, 0, none⟩) l3).trans a0)
        | (go_at_call 12; (with_reducible refine (xj6Z (w := (w5.alloc _)) (f5.below (hd5 _)) (k5.below f5 (hd5 _)) HCF.out (HA.out.below (xaeZ b5 (hd5 _)))).mono ?_); rintro e w6 ⟨u6, rfl, r6⟩; obtain ⟨q6, j6, (hu6 : u6 = .slice q6 2 j6)⟩ := r6.shp; subst hu6; have R6 := hideP r6; have b6' := r6.bel; clear r6; have b6 : Below W3.heap.size W3 w6 := xaeZ (xaeZ b5 (hd5 _)) b6'; have nz : ¬ w3.heap.size = w5.heap.size := (by have := b5.size; omega); have q6' := (b6'.block w5.heap.size (xacZ (World.alloc_heap_new w5 _))).trans (World.alloc_heap_new w5 _); have Q6 := hideP q6'; have m0 := xaaZ q6' 0; simp at m0; have mz0 := Lib.frozen_of_heap q6' 0; clear q6'; have g0 := (b6.cell (p := ⟨w3.heap.size, 0, none⟩) l3).trans a0))
    all_goals
      go_wp2_with fail
      go_meet
    · have hF := wfin0 b5 R6.out
      exact ⟨_, _, rfl, rfl, hF.1, hF.2.1, hF.2.2⟩
    · have hF := wfin (xaeZ b5 (hd5 _)) R6.out Q6.out b5.size
      exact ⟨_, _, rfl, rfl, hF.1, hF.2.1, hF.2.2⟩
    · have hF := wfin b5 R6.out Q6.out (Nat.le_refl _)
      exact ⟨_, _, rfl, rfl, hF.1, hF.2.1, hF.2.2⟩
  case rest =>
    obtain ⟨z4, u4, rfl, rfl, hz4, hA4, hb4⟩ := hcut
    rename World => wv4
    obtain ⟨p4, c4, (hu4 : u4 = .slice p4 2 c4)⟩ := hA4.shp'
    subst hu4
    have l4 := xacZ hz4
    have a4 := xaaZ hz4 0
    simp at a4
    have HB4 := hideP hb4
    have HZ4 := hideP hz4
    have HA4 := hideP hA4
    clear hz4 hA4 hb4
    go_upto_region 3 with fail
    go_cut [5, 6] from 22 (fun sa sb wx => ∃ (z : Nat) (u : Value), sa = .pointer (some ⟨z, 0, none⟩) ∧ sb = .int .i64 0 ∧ wx.heap[z]? = some (.cells #[u] 27 (0, 0)) ∧ MachsAt wx u [giveM wW0 [81], wW0] ∧ Below wv4.heap.size wv4 wx ∧ ∀ M ∈ [giveM wW0 [81], wW0], RightM xakZ (entP xakZ) M)
    case first =>
      have hdA : ∀ o, Below wv4.heap.size wv4 (wv4.alloc o).drew := fun o => ((Below.refl _ wv4).alloc (Nat.le_refl _) o).drew
      go_region_held3 (fun W => W.cell? ⟨z4, 0, none⟩ = some (.slice p4 2 c4)) (first | go_keep | exact xixZ g0 nz)
        (first
          | (go_at_call 47; (with_reducible refine (xb5Z _).mono ?_); rintro e w5 ⟨v5, rfl, f5, k5, b5'⟩; have b5 : Below wv4.heap.size wv4 w5 := xaeZ ((Below.refl _ wv4).drew) b5'; clear b5'; have h0 := (b5.cell (p := ⟨z4, 0, none⟩) l4).trans a4; have hd5 : ∀ o, Below w5.heap.size w5 (w5.alloc o) := fun o => (Below.refl _ w5).alloc (Nat.le_refl _) o)
          | (go_at_call 47; (with_reducible refine (xb5Z _).mono ?_); rintro e w5 ⟨v5, rfl, f5, k5, b5'⟩; have b5 : Below wv4.heap.size wv4 w5 := xaeZ (hdA _) b5'; have q5 := (b5'.block wv4.heap.size (xacZ (World.alloc_heap_new wv4 _))).trans (World.alloc_heap_new wv4 _); have Q5 := hideP q5; have m0 := xaaZ q5 0; simp at m0; have mz0 := Lib.frozen_of_heap q5 0; clear b5' q5; have h0 := (b5.cell (p := ⟨z4, 0, none⟩) l4).trans a4)
          | (go_at_call 12; (with_reducible refine (xj7Z (w := w5) f5 k5 HCF.out (HA4.out.below b5)).mono ?_); rintro e w6 ⟨⟨u6, rfl, r6⟩, hr6⟩; obtain ⟨q6, j6, (hu6 : u6 = .slice q6 2 j6)⟩ := r6.shp; subst hu6; have R6 := hideP r6; have b6' := r6.bel; clear r6; have b6 : Below wv4.heap.size wv4 w6 := xaeZ b5 b6'; have nz : ¬ z4 = wv4.heap.size := (by omega); have q6' := (b6'.block wv4.heap.size (xacZ Q5.out)).trans Q5.out; have Q6 := hideP q6'; clear m0 mz0; have m0 := xaaZ q6' 0; simp at m0; have mz0 := Lib.frozen_of_heap q6' 0; clear q6'; have g0 := (b6.cell (p := ⟨z4, 0, none⟩) l4).trans a4)
          | (go_at_call 12; (with_reducible refine (xj7Z (w := w5) f5 k5 HCF.out (HA4.out.below b5)).mono ?_); rintro e w6 ⟨⟨u6, rfl, r6⟩, hr6⟩; obtain ⟨q6, j6, (hu6 : u6 = .slice q6 2 j6)⟩ := r6.shp; subst hu6; have R6 := hideP r6; have b6' := r6.bel; clear r6; have b6 : Below wv4.heap.size wv4 w6 := xaeZ b5 b6'; have nz : ¬ z4 = w6.heap.size := (by have := b6.size; omega); have g0 := (b6.cell (p := ⟨z4, 0, none⟩) l4).trans a4)
          | (go_at_call 12; (with_reducible refine (xj7Z (w := (w5.alloc _)) (f5.below (hd5 _)) (k5.below f5 (hd5 _)) HCF.out (HA4.out.below (xaeZ b5 (hd5 _)))).mono ?_); rintro e w6 ⟨⟨u6, rfl, r6⟩, hr6⟩; obtain ⟨q6, j6, (hu6 : u6 = .slice q6 2 j6)⟩ := r6.shp; subst hu6; have R6 := hideP r6; have b6' := r6.bel; clear r6; have b6 : Below wv4.heap.size wv4 w6 := xaeZ (xaeZ b5 (hd5 _)) b6'; have nz : ¬ z4 = w5.heap.size := (by have := b5.size; omega); have q6' := (b6'.block w5.heap.size (xacZ (World.alloc_heap_new w5 _))).trans (World.alloc_heap_new w5 _); have Q6 := hideP q6'; have m0 := xaaZ q6' 0; simp at m0; have mz0 := Lib.frozen_of_heap q6' 0; clear q6'; have g0 := (b6.cell (p := ⟨z4, 0, none⟩) l4).trans a4))
      all_goals
        go_wp2_with fail
        go_meet
      · have hF := wfin0 b5 R6.out
        exact ⟨_, _, rfl, rfl, hF.1, hF.2.1, hF.2.2, hr6⟩
      · have hF := wfin (xaeZ b5 (hd5 _)) R6.out Q6.out b5.size
        exact ⟨_, _, rfl, rfl, hF.1, hF.2.1, hF.2.2, hr6⟩
      · have hF := wfin b5 R6.out Q6.out (Nat.le_refl _)
        exact ⟨_, _, rfl, rfl, hF.1, hF.2.1, hF.2.2, hr6⟩
    case rest =>
      obtain ⟨z5, u5, rfl, rfl, hz5, hA5, hb5, hr5⟩ := hcut
      rename World => wv5
      obtain ⟨p5, c5, (hu5 : u5 = .slice p5 2 c5)⟩ := hA5.shp'
      subst hu5
      have l5 := xacZ hz5
      have a5 := xaaZ hz5 0
      simp at a5
      have HB5 := hideP hb5
      have HZ5 := hideP hz5
      have HA5 := hideP hA5
      clear hz5 hA5 hb5
      have HR5 := hideP hr5
      clear hr5
      go_upto_region 4 with fail
      go_cut [7, 8, 9] from 28 (fun sa sb sc wx => ∃ (z : Nat) (u : Value), sa = .pointer (some ⟨z, 0, none⟩) ∧ sb = .int .i64 0 ∧ sc = .int .i64 0 ∧ wx.heap[z]? = some (.cells #[u] 27 (0, 0)) ∧ MachsAt wx u [giveM wW0 [81], wW0] ∧ Below wv5.heap.size wv5 wx)
      case first =>
        have hdA : ∀ o, Below wv5.heap.size wv5 (wv5.alloc o).drew := fun o => ((Below.refl _ wv5).alloc (Nat.le_refl _) o).drew
        go_region_held3 (fun W => W.cell? ⟨z5, 0, none⟩ = some (.slice p5 2 c5)) (first | go_keep | exact xixZ g0 nz)
          (first
            | (go_at_call 47; (with_reducible refine (xb5Z _).mono ?_); rintro e w5 ⟨v5, rfl, f5, k5, b5'⟩; have b5 : Below wv5.heap.size wv5 w5 := xaeZ ((Below.refl _ wv5).drew) b5'; clear b5'; have h0 := (b5.cell (p := ⟨z5, 0, none⟩) l5).trans a5; have hd5 : ∀ o, Below w5.heap.size w5 (w5.alloc o) := fun o => (Below.refl _ w5).alloc (Nat.le_refl _) o)
            | (go_at_call 47; (with_reducible refine (xb5Z _).mono ?_); rintro e w5 ⟨v5, rfl, f5, k5, b5'⟩; have b5 : Below wv5.heap.size wv5 w5 := xaeZ (hdA _) b5'; have q5 := (b5'.block wv5.heap.size (xacZ (World.alloc_heap_new wv5 _))).trans (World.alloc_heap_new wv5 _); have Q5 := hideP q5; have m0 := xaaZ q5 0; simp at m0; have mz0 := Lib.frozen_of_heap q5 0; clear b5' q5; have h0 := (b5.cell (p := ⟨z5, 0, none⟩) l5).trans a5)
            | (go_at_call 11; (with_reducible refine (sq_mail (w := w5) f5 k5 HCF.out HR5.out (HA5.out.below b5)).mono ?_); rintro e w6 ⟨u6, rfl, r6⟩; obtain ⟨q6, j6, (hu6 : u6 = .slice q6 2 j6)⟩ := r6.shp; subst hu6; have R6 := hideP r6; have b6' := r6.bel; clear r6; have b6 : Below wv5.heap.size wv5 w6 := xaeZ b5 b6'; have nz : ¬ z5 = wv5.heap.size := (by omega); have q6' := (b6'.block wv5.heap.size (xacZ Q5.out)).trans Q5.out; have Q6 := hideP q6'; clear m0 mz0; have m0 := xaaZ q6' 0; simp at m0; have mz0 := Lib.frozen_of_heap q6' 0; clear q6'; have g0 := (b6.cell (p := ⟨z5, 0, none⟩) l5).trans a5)
            | (go_at_call 11; (with_reducible refine (sq_mail (w := w5) f5 k5 HCF.out HR5.out (HA5.out.below b5)).mono ?_); rintro e w6 ⟨u6, rfl, r6⟩; obtain ⟨q6, j6, (hu6 : u6 = .slice q6 2 j6)⟩ := r6.shp; subst hu6; have R6 := hideP r6; have b6' := r6.bel; clear r6; have b6 : Below wv5.heap.size wv5 w6 := xaeZ b5 b6'; have nz : ¬ z5 = w6.heap.size := (by have := b6.size; omega); have g0 := (b6.cell (p := ⟨z5, 0, none⟩) l5).trans a5)
            | (go_at_call 11; (with_reducible refine (sq_mail (w := (w5.alloc _)) (f5.below (hd5 _)) (k5.below f5 (hd5 _)) HCF.out HR5.out (HA5.out.below (xaeZ b5 (hd5 _)))).mono ?_); rintro e w6 ⟨u6, rfl, r6⟩; obtain ⟨q6, j6, (hu6 : u6 = .slice q6 2 j6)⟩ := r6.shp; subst hu6; have R6 := hideP r6; have b6' := r6.bel; clear r6; have b6 : Below wv5.heap.size wv5 w6 := xaeZ (xaeZ b5 (hd5 _)) b6'; have nz : ¬ z5 = w5.heap.size := (by have := b5.size; omega); have q6' := (b6'.block w5.heap.size (xacZ (World.alloc_heap_new w5 _))).trans (World.alloc_heap_new w5 _); have Q6 := hideP q6'; have m0 := xaaZ q6' 0; simp at m0; have mz0 := Lib.frozen_of_heap q6' 0; clear q6'; have g0 := (b6.cell (p := ⟨z5, 0, none⟩) l5).trans a5))
        all_goals
          go_wp2_with fail
          go_meet
        · have hF := wfin0 b5 R6.out
          exact ⟨_, _, rfl, rfl, rfl, hF.1, hF.2.1, hF.2.2⟩
        · have hF := wfin (xaeZ b5 (hd5 _)) R6.out Q6.out b5.size
          exact ⟨_, _, rfl, rfl, rfl, hF.1, hF.2.1, hF.2.2⟩
        · have hF := wfin b5 R6.out Q6.out (Nat.le_refl _)
          exact ⟨_, _, rfl, rfl, rfl, hF.1, hF.2.1, hF.2.2⟩
      case rest =>
        obtain ⟨z6, u6, rfl, rfl, rfl, hz6, hA6, hb6⟩ := hcut
        rename World => wv6
        obtain ⟨p6, c6, (hu6 : u6 = .slice p6 2 c6)⟩ := hA6.shp'
        subst hu6
        have l6 := xacZ hz6
        have a6 := xaaZ hz6 0
        simp at a6
        have HB6 := hideP hb6
        have HZ6 := hideP hz6
        have HA6 := hideP hA6
        clear hz6 hA6 hb6
        have b56 := HB6.out
        have b46 := xaeZ HB5.out b56
        have hz4' := (b46.block _ l4).trans HZ4.out
        have hz5' := (b56.block _ l5).trans HZ5.out
        have hM4 := HA4.out.below b46
        have hM5 := HA5.out.below b56
        have HBB := hideP (xaeZ HB3.out (xaeZ HB4.out b46))
        
        obtain ⟨px, cx, hpx, -, -, hfx⟩ := hM4
        injection hpx with hpx1 hpx2 hpx3
        obtain ⟨g4, o4, fv4, bv4, iv4, ov4, hp4, hg4, -, -, m4, -, -, -, hAM4⟩ := hfx 1 wB1 rfl
        rw [← hpx1] at hp4
        subst hp4
        obtain ⟨pi4, ci4, (hiv4 : iv4 = .slice pi4 1 ci4)⟩ := hAM4.shp.2.2.1
        subst hiv4
        clear hpx1 hpx2 hpx3 hfx
        
        obtain ⟨px, cx, hpx, -, -, hfx⟩ := hM5
        injection hpx with hpx1 hpx2 hpx3
        obtain ⟨g5, o5, fv5, bv5, iv5, ov5, hp5, hg5, -, -, m5, -, -, -, hAM5⟩ := hfx 0 (giveM wW0 [81]) rfl
        rw [← hpx1] at hp5
        subst hp5
        obtain ⟨pi5, ci5, (hiv5 : iv5 = .slice pi5 1 ci5)⟩ := hAM5.shp.2.2.1
        subst hiv5
        clear hpx1 hpx2 hpx3 hfx
        
        have KX : Hid (∀ W, Below wv6.heap.size wv6 W → W.cell? ⟨z4, 0, none⟩ = some (.slice (some ⟨g4, o4, none⟩) 2 c4) ∧ W.cell? ⟨z5, 0, none⟩ = some (.slice (some ⟨g5, o5, none⟩) 2 c5) ∧ W.cell? ⟨z6, 0, none⟩ = some (.slice p6 2 c6) ∧ W.cell? ⟨g4, o4 + 6 + 2, none⟩ = some (.slice pi4 1 ci4) ∧ W.cell? ⟨g5, o5 + 2, none⟩ = some (.slice pi5 1 ci5)) := fun W hW => ⟨xaaZ ((hW.block _ (xacZ hz4')).trans hz4') 0, xaaZ ((hW.block _ (xacZ hz5')).trans hz5') 0, xaaZ ((hW.block _ l6).trans HZ6.out) 0, (hW.cell (p := ⟨g4, o4 + 6 + 2, none⟩) hg4).trans (by simpa using m4), (hW.cell (p := ⟨g5, o5 + 2, none⟩) hg5).trans (by simpa using m5)⟩
        have HI4 := hideP hAM4.inp
        have HI5 := hideP hAM5.inp
        clear b56 b46 hz4' hz5' hg4 hg5 m4 m5 hAM4 hAM5 a0 a4 a5 a6
        go_wp2_with fail
        refine (xb5Z _).mono ?_
        rintro e w7 ⟨v7, rfl, f7, k7, b7⟩
        go_wp2_with fail
        refine (pair_any _).mono ?_
        rintro e w8 ⟨u8, rfl, m8, b8⟩
        have HCK := hideP (sq_check (f7.below b8) (k7.below f7 b8) m8 HCF.out)
        have b68 := xaeZ b7 b8
        clear f7 k7 m8 b7 b8
        go_wp2_with fail
        refine HCK.out.mono ?_
        rintro e w9 ⟨rfl, b9⟩
        have HB9 := hideP (xaeZ b68 b9)
        obtain ⟨x4, x5, x6, y4, y5⟩ := KX.out w9 HB9.out
        clear b68 b9 HCK
        have qs1 := World.alloc_heap_new w9 (.cells #[.int .i64 9] 3)
        have as1 := (Below.refl w9.heap.size w9).alloc (Nat.le_refl _) (.cells #[.int .i64 9] 3)
        have HSs1 := hideP (xdjZ [9] [9] _ _ (w9.alloc (.cells #[.int .i64 9] 3)) ((HI4.out.below (HB9.out)).below as1).at_ (xa8Z 1 1 qs1 rfl (by unfold maxLen; decide)))
        have HQs1 := hideP as1
        clear qs1 as1
        go_wp2_with fail
        refine HSs1.out.mono ?_
        rintro e w10 ⟨rfl, b10⟩
        have HB10 := hideP (xaeZ HB9.out (xaeZ HQs1.out b10))
        obtain ⟨x4', x5', x6', y4', y5'⟩ := KX.out w10 HB10.out
        clear x4 x5 x6 y4 y5 b10
        have qs2 := World.alloc_heap_new w10 (.cells #[.int .i64 81] 3)
        have as2 := (Below.refl w10.heap.size w10).alloc (Nat.le_refl _) (.cells #[.int .i64 81] 3)
        have HSs2 := hideP (xdjZ [81] [81] _ _ (w10.alloc (.cells #[.int .i64 81] 3)) ((HI5.out.below (HB10.out)).below as2).at_ (xa8Z 1 1 qs2 rfl (by unfold maxLen; decide)))
        have HQs2 := hideP as2
        clear qs2 as2
        go_wp2_with fail
        refine HSs2.out.mono ?_
        rintro e w11 ⟨rfl, b11⟩
        have b611 := xaeZ HB10.out (xaeZ HQs2.out b11)
        go_wp2
        go_ret
        exact ⟨by simp, xaeZ HBB.out b611⟩
end Go.Proofs.YtmjjkenblfndgaaGreat


/- Worlds that came in. -/
namespace Go.Proofs.YtmjjkenblfndgaaGreat
open Go.ChangeShapes Go.WideShapes Go.ChangeAt Go.RowKit
set_option linter.unusedVariables false
set_option linter.unusedSimpArgs false
section
variable {H : Type} {enc : TypeId × Value → H} {W : World} {fuel : Nat} {x : DataW H × List MemPlace}
theorem bytes_mach : Tryz.prog.bytesOf 48 = 112 := by kernel_rfl
theorem xpkZ : Tryz.prog.cellsOf 25 = 1 := by kernel_rfl
theorem xplZ : Tryz.prog.cellsOf 27 = 1 := by kernel_rfl
instance : Inhabited Mach := ⟨⟨[], [], [], [], 0, 0⟩⟩
theorem open_machN {c0 c1 c2 c3 c4 c5 : Value} (hf : DataW.trod enc Tryz.prog W 0 (fun _ => true) true fuel 48 [c0, c1, c2, c3, c4, c5] = some x) (hs : ∀ n ∈ x.1.weights Tryz.prog 48, n ≤ reachBytes) :
    ∃ M : Mach, c4 = .int .i64 M.status ∧ c5 = .int .i64 M.trap ∧ MachAt W c0 c1 c2 c3 M ∧ MachLong M := by
  obtain ⟨xs, n, _, hx, hl, hlen, hg⟩ := DataW.trod_struct Tryz.underlying48 hf
  match xs, hlen with
  | [y0, y1, y2, y3, y4, y5], _ =>
    have h0 := hg 0 _ rfl
    have h1 := hg 1 _ rfl
    have h2 := hg 2 _ rfl
    have h3 := hg 3 _ rfl
    have h4 := hg 4 _ rfl
    have h5 := hg 5 _ rfl
    simp [cells_frms, cells_blks, xhhZ, xgmZ, Value.cells] at h0 h1 h2 h3 h4 h5
    have hx1 := congrArg Prod.fst hx
    simp only at hx1
    rw [hx1] at hs
    simp only [DataW.weights, Tryz.underlying48] at hs
    obtain ⟨F, hF, nF, zF⟩ := open_frmsC h0 (fun n hn => hs n (by simp [DataW.weightsEach, hn]))
    obtain ⟨B, hB⟩ := open_blksC h1 (fun n hn => hs n (by simp [DataW.weightsEach, hn]))
    obtain ⟨I, hI, zI⟩ := xh0Z h2 (fun n hn => hs n (by simp [DataW.weightsEach, hn]))
    obtain ⟨O, hO, zO⟩ := xh0Z h3 (fun n hn => hs n (by simp [DataW.weightsEach, hn]))
    obtain ⟨st, e4, _⟩ := DataW.trod_int Tryz.underlying3 h4
    obtain ⟨tr, e5, _⟩ := DataW.trod_int Tryz.underlying3 h5
    simp at e4 e5
    subst e4 e5
    exact ⟨⟨F, B, I, O, st, tr⟩, rfl, rfl, ⟨hF, hB, hI, hO⟩, zF, zI, zO⟩
theorem xp3Z {c : Value} (h : DataW.trod enc Tryz.prog W 0 (fun _ => true) true fuel 25 [c] = some x) (hs : ∀ n ∈ x.1.weights Tryz.prog 25, n ≤ reachBytes) : ∃ L : List Mach, MachsAt W c L ∧ ∀ M ∈ L, MachLong M := by
  rcases Deep.open_slice Tryz.underlying25 h with ⟨hcs, hx⟩ | ⟨a, len', cap', m, n, D, Pl, hcs, hb, hl, hm, hmm, hx, hc⟩
  · simp at hcs
    subst hcs
    exact ⟨[], ⟨none, 0, rfl, Nat.zero_le _, Nat.zero_le _, fun k o hk => by simp at hk⟩, by simp⟩
  · simp at hcs
    subst hcs
    simp only [if_true] at hmm
    subst hmm
    rw [hx] at hs
    simp only [DataW.weights, Tryz.underlying25] at hs
    have hlen : len' ≤ 2199023255488 := by
      have h1 := hs _ (List.mem_cons_self ..)
      rw [bytes_mach] at h1
      simp [reachBytes] at h1
      omega
    have each : ∀ i, i < len' → ∃ q : ((Value × Value) × Value × Value) × Mach, W.cell? (a.add (i * 6)) = some q.1.1.1 ∧ W.cell? (a.add (i * 6 + 1)) = some q.1.1.2 ∧ W.cell? (a.add (i * 6 + 2)) = some q.1.2.1 ∧ W.cell? (a.add (i * 6 + 3)) = some q.1.2.2 ∧ W.cell? (a.add (i * 6 + 4)) = some (.int .i64 q.2.status) ∧ W.cell? (a.add (i * 6 + 5)) = some (.int .i64 q.2.trap) ∧ MachAt W q.1.1.1 q.1.1.2 q.1.2.1 q.1.2.2 q.2 ∧ MachLong q.2 := by
      intro i hi
      obtain ⟨cs', h1, h2⟩ := hc i (by omega)
      rw [cells_mach] at h1
      obtain ⟨_, hlen, hcell⟩ := World.cells?_some h1
      match cs', hlen with
      | [c0, c1, c2, c3, c4, c5], _ =>
        obtain ⟨M, rfl, rfl, g2, g3⟩ := open_machN (x := (D i, Pl i)) h2 (fun n hn => hs n (List.mem_cons_of_mem _ (List.mem_append_left _ (xdlZ (List.mem_map.2 ⟨i, List.mem_range.2 hi, rfl⟩) n hn))))
        have e0 := hcell 0 (by omega)
        have e1 := hcell 1 (by omega)
        have e2 := hcell 2 (by omega)
        have e3 := hcell 3 (by omega)
        have e4 := hcell 4 (by omega)
        have e5 := hcell 5 (by omega)
        rw [Deep.add_add] at e0 e1 e2 e3 e4 e5
        exact ⟨(((c0, c1), c2, c3), M), by simpa using e0, by simpa using e1, by simpa using e2, by simpa using e3, by simpa using e4, by simpa using e5, g2, g3⟩
    obtain ⟨q, hq⟩ := Deep.choose_lt each
    refine ⟨(List.range len').map fun i => (q i).2, ⟨some a, m, by simp, by unfold maxLen; simp; omega, by simpa using hl, fun k M hk => ?_⟩, fun M hM => ?_⟩
    · have hk1 : k < len' := by have := xcjZ hk; simpa using this
      have ho : M = (q k).2 := by simp [hk1] at hk; exact hk.symm
      obtain ⟨c0, c1, c2, c3, c4, c5, f1, f2⟩ := hq k (by omega)
      obtain ⟨b, off, spot⟩ := a
      have hs0 := (hq 0 (by omega)).1
      have hspot : spot = none := by simpa [Addr.add] using World.cell?_spot hs0
      subst hspot
      rw [xduZ] at c0 c1 c2 c3 c4 c5
      rw [ho]
      exact ⟨b, off, _, _, _, _, rfl, xbzZ c0, c0, c1, c2, c3, c4, c5, f1⟩
    · obtain ⟨i, hi, rfl⟩ := List.mem_map.1 hM
      obtain ⟨_, _, _, _, _, _, _, g⟩ := hq i (List.mem_range.1 hi)
      exact g
theorem xp4Z {base : Nat} {r : Reach} {v : Value} {d : DataW H} {p : List MemPlace} (hv : Value.okWide Tryz.prog W r base 27 v) (h : DataW.Trod enc Tryz.prog W 0 (fun _ => true) true 27 v d p) (hs : ∀ n ∈ d.weights Tryz.prog 27, n ≤ reachBytes) :
    ∃ (c : Value) (L : List Mach), v = .agg #[c] ∧ MachsAt W c L ∧ ∀ M ∈ L, MachLong M := by
  obtain ⟨cs, rfl, hsz⟩ := okWide_struct Tryz.underlying27 hv
  rw [xplZ] at hsz
  obtain ⟨cs⟩ := cs
  match cs, hsz with
  | [c0], _ =>
    obtain ⟨fuel, hf⟩ := h
    obtain ⟨xs, n, _, hx, hl, hlen, hg⟩ := DataW.trod_struct Tryz.underlying27 hf
    match xs, hlen with
    | [y0], _ =>
      have h0 := hg 0 _ rfl
      simp [xpkZ, Value.cells] at h0
      have hx1 := congrArg Prod.fst hx
      simp only at hx1
      rw [hx1] at hs
      simp only [DataW.weights, Tryz.underlying27] at hs
      obtain ⟨L, hL, zL⟩ := xp3Z h0 (fun n hn => hs n (by simp [DataW.weightsEach, hn]))
      exact ⟨c0, L, rfl, hL, zL⟩
end
end Go.Proofs.YtmjjkenblfndgaaGreat


