/- My texts Ze Zg Zh Zi Mv: what of them is needed, joined. -/
import Derived.Deep.RegionHeld3
import Derived.Test.YtmjjkenblfndgaaGreatC13
import Derived.Test.YtmjjkenblfndgaaGreatC18
set_option maxRecDepth 100000
set_option maxHeartbeats 8000000
/- fresh.World. -/
namespace Go.Proofs.YtmjjkenblfndgaaGreat
open Go.RowKit
set_option linter.unusedSimpArgs false
set_option linter.unusedVariables false
def zMV : MV := ⟨.slice none 0 0, .slice none 0 0, .slice none 0 0, .slice none 0 0, 0, 0⟩
theorem infoMach : (Tryz.prog.info? 48).map (fun i => (i.zero, i.size, i.bytes)) = some (some (.agg #[.slice none 0 0, .slice none 0 0, .slice none 0 0, .slice none 0 0, .int .i64 0, .int .i64 0]), 6, 112) := by kernel_rfl
theorem made_machs (n : Nat) : (madeCells (Value.agg #[.slice none 0 0, .slice none 0 0, .slice none 0 0, .slice none 0 0, .int .i64 0, .int .i64 0]).cells (n * 6)).toList = mvCells (List.replicate n zMV) := by
  have h : (Value.agg #[.slice none 0 0, .slice none 0 0, .slice none 0 0, .slice none 0 0, .int .i64 0, .int .i64 0]).cells = #[.slice none 0 0, .slice none 0 0, .slice none 0 0, .slice none 0 0, .int .i64 0, .int .i64 0] := rfl
  rw [h]
  apply List.ext_getElem?
  intro k
  by_cases hk : k < n * 6
  · have hq : k / 6 < n := by omega
    obtain ⟨a0, a1, a2, a3, a4, a5⟩ := xfxZ (List.replicate n zMV) (k / 6) zMV (by simp [hq])
    have hm : k % 6 = 0 ∨ k % 6 = 1 ∨ k % 6 = 2 ∨ k % 6 = 3 ∨ k % 6 = 4 ∨ k % 6 = 5 := by omega
    rcases hm with hm | hm | hm | hm | hm | hm
    · rw [show k / 6 * 6 = k by omega] at a0
      rw [a0]; simp [madeCells, hk, hm, zMV]
    · rw [show k / 6 * 6 + 1 = k by omega] at a1
      rw [a1]; simp [madeCells, hk, hm, zMV]
    · rw [show k / 6 * 6 + 2 = k by omega] at a2
      rw [a2]; simp [madeCells, hk, hm, zMV]
    · rw [show k / 6 * 6 + 3 = k by omega] at a3
      rw [a3]; simp [madeCells, hk, hm, zMV]
    · rw [show k / 6 * 6 + 4 = k by omega] at a4
      rw [a4]; simp [madeCells, hk, hm, zMV]
    · rw [show k / 6 * 6 + 5 = k by omega] at a5
      rw [a5]; simp [madeCells, hk, hm, zMV]
  · rw [List.getElem?_eq_none (by simp [madeCells]; omega), List.getElem?_eq_none (by rw [xe9Z]; simp; omega)]
theorem sixAt_set {W : World} {B R n : Nat} {q r : List MV} {d c : MV} (h : W.ownsRow B 48 6 (.slice (some ⟨R, 0, none⟩) n n) n (mvCells (q ++ d :: r))) : ((((((W.setCell ⟨R, q.length * 6, none⟩ c.fv).setCell ⟨R, q.length * 6 + 1, none⟩ c.bv).setCell ⟨R, q.length * 6 + 2, none⟩ c.iv).setCell ⟨R, q.length * 6 + 3, none⟩ c.ov).setCell ⟨R, q.length * 6 + 4, none⟩ (.int .i64 c.st)).setCell ⟨R, q.length * 6 + 5, none⟩ (.int .i64 c.tr)).ownsRow B 48 6 (.slice (some ⟨R, 0, none⟩) n n) n (mvCells (q ++ c :: r)) := by
  rw [← xptZ q r d c]
  exact xbnZ (xbnZ (xbnZ (xbnZ (xbnZ (xbnZ h _ _) _ _) _ _) _ _) _ _) _ _
theorem xp1Z (W : World) (R i : Nat) (a b c d e f : Value) : W.grownBy ((((((W.setCell ⟨R, i, none⟩ a).setCell ⟨R, i + 1, none⟩ b).setCell ⟨R, i + 2, none⟩ c).setCell ⟨R, i + 3, none⟩ d).setCell ⟨R, i + 4, none⟩ e).setCell ⟨R, i + 5, none⟩ f) (some R) :=
  (((((xakZ W ⟨R, i, none⟩ a).trans (xakZ _ ⟨R, i + 1, none⟩ b)).trans (xakZ _ ⟨R, i + 2, none⟩ c)).trans (xakZ _ ⟨R, i + 3, none⟩ d)).trans (xakZ _ ⟨R, i + 4, none⟩ e)).trans (xakZ _ ⟨R, i + 5, none⟩ f)
theorem xdoZ {W : World} {R i : Nat} {a b c d e f v : Value} {p : Addr} (h : W.cell? p = some v) (hn : ¬ p.block = R) : ((((((W.setCell ⟨R, i, none⟩ a).setCell ⟨R, i + 1, none⟩ b).setCell ⟨R, i + 2, none⟩ c).setCell ⟨R, i + 3, none⟩ d).setCell ⟨R, i + 4, none⟩ e).setCell ⟨R, i + 5, none⟩ f).cell? p = some v := by
  have key : ∀ (W : World) (j : Nat) (u : Value), W.cell? p = some v → (W.setCell ⟨R, j, none⟩ u).cell? p = some v := fun W j u h => (World.cell?_of_block (Below.heap_setCell W _ u p.block hn)).trans h
  exact key _ _ _ (key _ _ _ (key _ _ _ (key _ _ _ (key _ _ _ (key _ _ _ h)))))
def WNew (L : List Mach) (w : World) (u : Value) (w' : World) : Prop := ∃ ms rs, w'.ownsRow w.heap.size 48 6 u ms.length (mvCells ms) ∧ WRes w' w.heap.size ms rs L ∧ (∀ (k : Nat) (r : MR), rs[k]? = some r → r.I.length ≤ 1000) ∧ Below w.heap.size w w'
theorem xg3Z (L : List Mach) (v : Value) (w : World) (h : MachsAt w v L) (h4 : L.length ≤ 4) (hsm : ∀ M ∈ L, SmallM M) : Calls Tryz.prog 39 #[.agg #[v]] w fun e w' => ∃ u, e = .returned (.agg #[u]) ∧ WNew L w u w' := by
  obtain ⟨i0, hi, hz0, hz1, hz2⟩ := info_parts infoMach
  obtain ⟨pw, cw, hv, hcw⟩ := h.shp
  subst hv
  obtain ⟨W1, hW1⟩ : ∃ W1, (w.alloc (.cells #[.slice pw L.length cw] 27)).alloc (.cells #[.slice none 0 0] 27) = W1 := ⟨_, rfl⟩
  have b1 : Below w.heap.size w W1 := by rw [← hW1]; exact ((Below.refl _ w).alloc (Nat.le_refl _) _).alloc (by simp) _
  have u1 : W1.heap[w.heap.size]? = some (.cells #[.slice pw L.length cw] 27 (0, 0)) := by rw [← hW1]; exact xalZ (World.alloc_heap_new w _) _
  have u2 : W1.heap[w.heap.size + 1]? = some (.cells #[.slice none 0 0] 27 (0, 0)) := by rw [← hW1]; exact xazZ _ _ _
  have sW1 : W1.heap.size = w.heap.size + 1 + 1 := by rw [← hW1]; simp
  have KC : Hid (∀ W, Below W1.heap.size W1 W → W.cell? ⟨w.heap.size, 0, none⟩ = some (.slice pw L.length cw) ∧ W.heap[w.heap.size + 1]? = some (.cells #[.slice none 0 0] 27 (0, 0))) := fun W hW => ⟨xaaZ ((hW.block _ (xacZ u1)).trans u1) 0, (hW.block _ (xacZ u2)).trans u2⟩
  have H := hideP (h.below b1)
  have HSM := hideP hsm
  have HB1 := hideP b1
  have HSW := hideP sW1
  obtain ⟨e0, e1⟩ := KC.out W1 (Below.refl _ _)
  clear h hsm u1 u2 b1 sW1
  go_enter Tryz.func39, Tryz.ntmps39
  go_wp2_with (at_make; refine wpList_make_full _ rfl _ _ 25 rfl W1.heap.size 48 i0 (.agg #[.slice none 0 0, .slice none 0 0, .slice none 0 0, .slice none 0 0, .int .i64 0, .int .i64 0]) 6 Tryz.underlying25 hi hz0 hz1 _ _ _ _ L.length rfl rfl (by omega) (by omega) (by rw [hz2]; omega) (by unfold maxLen; omega) (Nat.le_refl _) ?_; intro w1 hown1 hg1; rw [made_machs] at hown1; have bw1 : Below W1.heap.size W1 w1 := (Below.refl _ W1).grown hg1 (Nat.le_refl _) (fun k hk => by cases hk); have HOWN1 := hideP hown1; obtain ⟨W2, hW2⟩ : ∃ W2, w1.alloc (.cells #[.slice (some ⟨W1.heap.size, 0, none⟩) L.length L.length] 27) = W2 := ⟨_, rfl⟩; have bw2 : Below w1.heap.size w1 W2 := (by rw [← hW2]; exact (Below.refl _ w1).alloc (Nat.le_refl _) _); have hz2w : W2.heap[w1.heap.size]? = some (.cells #[.slice (some ⟨W1.heap.size, 0, none⟩) L.length L.length] 27 (0, 0)) := (by rw [← hW2]; exact World.alloc_heap_new w1 _); have e0' := (KC.out W2 (xafZ bw1 bw2)).1; have hsz1 : W1.heap.size < w1.heap.size ∨ L.length = 0 := (by rcases hown1.2 with ⟨h1, h2⟩ | ⟨g, cap, cur, h1, h2, h3, h4⟩; exact .inr h2; cases h1; exact .inl (xacZ h3)); have BW2 := hideP (xafZ bw1 bw2); have HZ2 := hideP hz2w; have z0' := xaaZ hz2w 0; have ROW2 := hideP (xaoZ hown1 (W' := W2) fun j hj => bw2.block j (hown1.lt j hj).2); simp at z0'; have lt1 := xacZ hz2w; clear hown1 hg1 hz2w bw2 bw1)
  go_loopw [4, 5, 14] (fun _ _ v14 wr => ∃ (k : Nat) (ms : List MV) (rs : List MR), k ≤ L.length ∧ v14 = .int .i64 k ∧ ms.length = k ∧ wr.ownsRow W1.heap.size 48 6 (.slice (some ⟨W1.heap.size, 0, none⟩) L.length L.length) L.length (mvCells (ms ++ List.replicate (L.length - k) zMV)) ∧ WRes wr W1.heap.size ms rs (L.take k) ∧ (∀ (i : Nat) (r : MR), rs[i]? = some r → r.I.length ≤ 1000) ∧ wr.heap[w1.heap.size]? = some (.cells #[.slice (some ⟨W1.heap.size, 0, none⟩) L.length L.length] 27 (0, 0)) ∧ Below W1.heap.size W1 wr) (fun _ _ v14 _ => L.length - (intOf v14).toNat)
  case atStart => exact ⟨0, [], [], Nat.zero_le _, rfl, rfl, by simpa using ROW2.out, by simpa using xjyZ W2 W1.heap.size, fun i r h => by simp at h, HZ2.out, BW2.out⟩
  case round =>
    rename World => w2
    obtain ⟨k, ms, rs, hk, rfl, hql, hrow, hrs, hfi, hzb, b2⟩ := hrel
    have HFI := hideP hfi
    clear hfi
    by_cases hlt : k < L.length
    rotate_left
    · have hlti : ¬ (k : Int) < (L.length : Int) := by omega
      have hkl : k = L.length := by omega
      subst hkl
      have HRS := hideP hrs
      have HROW := hideP hrow
      have HQL := hideP hql
      have HZB := hideP hzb
      have HBB := hideP b2
      have z0 := xaaZ hzb 0
      simp at z0
      have hres := (KC.out w2 b2).2
      have HRB := hideP hres
      have s0 := xaaZ hres 0
      simp at s0
      have y0 := Lib.frozen_of_heap hres 0
      clear hrs hrow hql hzb b2 hres
      go_wp2
      refine bodyPost_ret (v := .agg #[.slice (some ⟨W1.heap.size, 0, none⟩) L.length L.length]) (by simp [results, Tryz.results39, go_sem, s0]) rfl ?_
      have h1 := HRS.out
      rw [List.take_of_length_le (Nat.le_refl _)] at h1
      have h2 := HROW.out
      rw [Nat.sub_self, List.replicate_zero, List.append_nil] at h2
      have hg := xakZ w2 ⟨w.heap.size + 1, 0, none⟩ (.slice (some ⟨W1.heap.size, 0, none⟩) L.length L.length)
      have hty : TyRow w2 (some (w.heap.size + 1)) 27 := xatZ HRB.out
      have hs := HSW.out
      refine ⟨_, rfl, ms, rs, ?_, (h1.low (by omega)).keep hg hty (by decide) (by decide) (by decide) (by decide), HFI.out, ((HB1.out.trans (HBB.out.mono HB1.out.size))).grown hg (by have := (HB1.out.trans (HBB.out.mono HB1.out.size)).size; exact this) (fun k hk => by cases hk; exact Nat.le_succ _)⟩
      rw [HQL.out]
      exact xasZ (xapZ h2 (by omega)) hg hty (by decide)
    have hlti : (k : Int) < (L.length : Int) := by omega
    obtain ⟨M, hM⟩ := xagZ hlt
    obtain ⟨p9, c9, he9, -, -, hf⟩ := (H.out.below b2)
    cases he9
    obtain ⟨g, off, fv, bv, iv, ov, hpw, hg, m0, m1, m2, m3, m4, m5, hMA⟩ := hf k M hM
    subst hpw
    obtain ⟨⟨pf, cf, hfv⟩, ⟨pb, cb, hbv⟩, ⟨pi, ci, hiv⟩, ⟨po, co, hov⟩⟩ := hMA.shp
    subst hfv hbv hiv hov
    obtain ⟨W3, hW3⟩ : ∃ W3, w2.alloc (.cells #[.slice pf M.frames.length cf, .slice pb M.blocks.length cb, .slice pi M.inp.length ci, .slice po M.out.length co, .int .i64 M.status, .int .i64 M.trap] 48) = W3 := ⟨_, rfl⟩
    have b3 : Below w2.heap.size w2 W3 := by rw [← hW3]; exact (Below.refl _ w2).alloc (Nat.le_refl _) _
    have x3 : W3.heap[w2.heap.size]? = some (.cells #[.slice pf M.frames.length cf, .slice pb M.blocks.length cb, .slice pi M.inp.length ci, .slice po M.out.length co, .int .i64 M.status, .int .i64 M.trap] 48 (0, 0)) := by rw [← hW3]; exact World.alloc_heap_new w2 _
    have l3 := xacZ x3
    have d0 : W3.cell? ⟨w2.heap.size, 0, none⟩ = some (.slice pf M.frames.length cf) := xaaZ x3 0
    have d1 : W3.cell? ⟨w2.heap.size, 1, none⟩ = some (.slice pb M.blocks.length cb) := xaaZ x3 1
    have d2 : W3.cell? ⟨w2.heap.size, 2, none⟩ = some (.slice pi M.inp.length ci) := xaaZ x3 2
    have d3 : W3.cell? ⟨w2.heap.size, 3, none⟩ = some (.slice po M.out.length co) := xaaZ x3 3
    have d4 : W3.cell? ⟨w2.heap.size, 4, none⟩ = some (.int .i64 M.status) := xaaZ x3 4
    have d5 : W3.cell? ⟨w2.heap.size, 5, none⟩ = some (.int .i64 M.trap) := xaaZ x3 5
    have HFM : Hid (∀ W, Below W3.heap.size W3 W → Calls Tryz.prog 53 #[.agg #[.slice pf M.frames.length cf, .slice pb M.blocks.length cb, .slice pi M.inp.length ci, .slice po M.out.length co, .int .i64 M.status, .int .i64 M.trap]] W fun e w' => ∃ fv' bv' iv' ov', e = .returned (.agg #[fv', bv', iv', ov', .int .i64 M.status, .int .i64 M.trap]) ∧ ∃ q qb, MOwn w' W.heap.size fv' bv' iv' ov' q qb M ∧ Below W.heap.size W w') := fun W hW => xcpZ M _ _ _ _ W ((hMA.below b3).below hW) (HSM.out M (List.mem_of_getElem? hM))
    have HROW := hideP hrow
    have HRS := hideP hrs
    have HM := hideP hM
    have HQL := hideP hql
    have hzb3 := (b3.block _ (xacZ hzb)).trans hzb
    have lz := xacZ hzb3
    have o0 := xaaZ hzb3 0
    simp at o0
    have HZB3 := hideP hzb3
    have hrep : List.replicate (L.length - k) zMV = zMV :: List.replicate (L.length - k - 1) zMV := by
      obtain ⟨m, hm⟩ : ∃ m, L.length - k = m + 1 := ⟨L.length - k - 1, by omega⟩
      rw [hm]; rfl
    have hrow3 := xaoZ HROW.out (W' := W3) fun j hj => b3.block j (HROW.out.lt j hj).2
    rw [hrep] at hrow3
    have HROW3 := hideP hrow3
    obtain ⟨a0, a1, a2, a3, a4, a5⟩ := xfxZ (ms ++ zMV :: List.replicate (L.length - k - 1) zMV) ms.length zMV (by simp)
    have hRl : W1.heap.size < W3.heap.size := (hrow3.lt W1.heap.size rfl).2
    obtain ⟨cur3, hR3⟩ : ∃ cur, W3.heap[W1.heap.size]? = some (.cells cur 48 (0, 0)) := by
      rcases hrow3.2 with ⟨h1, _⟩ | ⟨g', cap', cur, h1, _, h3, _⟩
      · cases h1
      · cases h1; exact ⟨cur, h3⟩
    have hRne : ¬ w2.heap.size = W1.heap.size := by have h9 := (HROW.out.lt W1.heap.size rfl).2; omega
    have hZne : ¬ w1.heap.size = W1.heap.size := fun e => by
      have h9 := HZB3.out
      rw [e, hR3] at h9
      simp at h9
    have r0 : W3.cell? ⟨W1.heap.size, k * 6, none⟩ = some (.slice none 0 0) := by rw [← HQL.out]; exact xa3Z hrow3 _ _ a0
    have r1 : W3.cell? ⟨W1.heap.size, k * 6 + 1, none⟩ = some (.slice none 0 0) := by rw [← HQL.out]; exact xa3Z hrow3 _ _ a1
    have r2 : W3.cell? ⟨W1.heap.size, k * 6 + 2, none⟩ = some (.slice none 0 0) := by rw [← HQL.out]; exact xa3Z hrow3 _ _ a2
    have r3 : W3.cell? ⟨W1.heap.size, k * 6 + 3, none⟩ = some (.slice none 0 0) := by rw [← HQL.out]; exact xa3Z hrow3 _ _ a3
    have r4 : W3.cell? ⟨W1.heap.size, k * 6 + 4, none⟩ = some (.int .i64 0) := by rw [← HQL.out]; exact xa3Z hrow3 _ _ a4
    have r5 : W3.cell? ⟨W1.heap.size, k * 6 + 5, none⟩ = some (.int .i64 0) := by rw [← HQL.out]; exact xa3Z hrow3 _ _ a5
    have HR3 := hideP hR3
    clear hf hMA hM hrow hrs hql hzb hzb3 x3 hrow3 hR3 a0 a1 a2 a3 a4 a5 hrep
    go_wp2_with fail
    clear m0 m1 m2 m3 m4 m5
    go_region_held3 (fun W => W.cell? ⟨w1.heap.size, 0, none⟩ = some (.slice (some ⟨W1.heap.size, 0, none⟩) L.length L.length) ∧ W.cell? ⟨w2.heap.size, 0, none⟩ = some (.slice pf M.frames.length cf) ∧ W.cell? ⟨w2.heap.size, 1, none⟩ = some (.slice pb M.blocks.length cb) ∧ W.cell? ⟨w2.heap.size, 2, none⟩ = some (.slice pi M.inp.length ci) ∧ W.cell? ⟨w2.heap.size, 3, none⟩ = some (.slice po M.out.length co) ∧ W.cell? ⟨w2.heap.size, 4, none⟩ = some (.int .i64 M.status) ∧ W.cell? ⟨w2.heap.size, 5, none⟩ = some (.int .i64 M.trap)) (first | go_keep | exact ⟨xdoZ ho hZne, xdoZ h0 hRne, xdoZ h1 hRne, xdoZ h2 hRne, xdoZ h3 hRne, xdoZ h4 hRne, xdoZ h5 hRne⟩)
      (first
        | (go_at_call 53; (with_reducible refine (HFM.out _ ((Below.refl _ W3).drew)).mono ?_); rintro e w5 ⟨f5, b5v, i5, o5, rfl, q5, qb5, r5, b5'⟩; have b35 : Below W3.heap.size W3 w5 := ((Below.refl _ W3).drew).trans b5'; obtain ⟨p5, c5, hf5⟩ := xaiZ r5.fr; obtain ⟨p6, c6, hb5⟩ := xaiZ r5.bl; obtain ⟨p7, c7, hi5⟩ := xaiZ r5.inp; obtain ⟨p8, c8, ho5⟩ := xaiZ r5.out; subst hf5 hb5 hi5 ho5; have R5 := hideP r5; clear r5 b5'; have ho := (b35.cell (p := ⟨w1.heap.size, 0, none⟩) lz).trans o0; have h0 := (b35.cell (p := ⟨w2.heap.size, 0, none⟩) l3).trans d0; have h1 := (b35.cell (p := ⟨w2.heap.size, 1, none⟩) l3).trans d1; have h2 := (b35.cell (p := ⟨w2.heap.size, 2, none⟩) l3).trans d2; have h3 := (b35.cell (p := ⟨w2.heap.size, 3, none⟩) l3).trans d3; have h4 := (b35.cell (p := ⟨w2.heap.size, 4, none⟩) l3).trans d4; have h5 := (b35.cell (p := ⟨w2.heap.size, 5, none⟩) l3).trans d5; have s0 := (b35.cell (p := ⟨W1.heap.size, k * 6, none⟩) hRl).trans r0; have s1 := (b35.cell (p := ⟨W1.heap.size, k * 6 + 1, none⟩) hRl).trans r1; have s2 := (b35.cell (p := ⟨W1.heap.size, k * 6 + 2, none⟩) hRl).trans r2; have s3 := (b35.cell (p := ⟨W1.heap.size, k * 6 + 3, none⟩) hRl).trans r3; have s4 := (b35.cell (p := ⟨W1.heap.size, k * 6 + 4, none⟩) hRl).trans r4; have s5 := (b35.cell (p := ⟨W1.heap.size, k * 6 + 5, none⟩) hRl).trans r5; have y := Lib.frozen_of_heap ((b35.block _ hRl).trans HR3.out); have y0 := y (k * 6); have y1 := y (k * 6 + 1); have y2 := y (k * 6 + 2); have y3 := y (k * 6 + 3); have y4 := y (k * 6 + 4); have y5 := y (k * 6 + 5); clear y))
    go_wp2
    go_roundw
    case rel =>
      have hF4 := HROW3.out
      have hrow6 := xaoZ hF4 (W' := w5) fun j hj => b35.block j (hF4.lt j hj).2
      have hset := sixAt_set (c := ⟨.slice p5 q5.length c5, .slice p6 qb5.length c6, .slice p7 M.inp.length c7, .slice p8 M.out.length c8, M.status, M.trap⟩) hrow6
      have hgr := xp1Z w5 W1.heap.size (ms.length * 6) (.slice p5 q5.length c5) (.slice p6 qb5.length c6) (.slice p7 M.inp.length c7) (.slice p8 M.out.length c8) (.int .i64 M.status) (.int .i64 M.trap)
      have hty : TyRow w5 (some W1.heap.size) 48 := xatZ ((b35.block _ hRl).trans HR3.out)
      have hs3 := b3.size
      have hs5 := b35.size
      have hs2 := b2.size
      have hsn := ((HRS.out.below b3).below b35).snoc (B' := W3.heap.size) R5.out.has (by omega) (fun i s x g h1 h2 h3 => by
        have := HRS.out.lt h1 h2 h3
        omega)
      have hzb5 := (b35.block _ lz).trans HZB3.out
      rw [HQL.out] at hset hgr
      refine ⟨k + 1, ms ++ [⟨.slice p5 q5.length c5, .slice p6 qb5.length c6, .slice p7 M.inp.length c7, .slice p8 M.out.length c8, M.status, M.trap⟩], rs ++ [⟨q5, qb5, .slice p7 M.inp.length c7, .slice p8 M.out.length c8, M.inp, M.out⟩], by omega, by go_num, by rw [List.length_append, HQL.out]; rfl, ?_, ?_, (fun i r h => by
        rcases xbaZ h with ⟨_, h2⟩ | ⟨_, rfl⟩
        · exact HFI.out i r h2
        · show M.inp.length ≤ 1000
          have := (HSM.out M (List.mem_of_getElem? HM.out)).inp
          omega), ?_, ?_⟩
      · rw [List.append_assoc, List.singleton_append, show L.length - (k + 1) = L.length - k - 1 by omega]
        exact hset
      · rw [xa1Z L k M HM.out]
        exact hsn.keep hgr hty (by decide) (by decide) (by decide) (by decide)
      · exact (hgr.block _ (xacZ hzb5) (fun e => hZne (Option.some.inj e))).trans hzb5
      · exact (b2.trans ((xafZ b3 b35).mono b2.size)).grown hgr (by have := b2.size; omega) (fun j hj => by cases hj; exact Nat.le_refl _)
    case measure => simp [intOf]; omega
end Go.Proofs.YtmjjkenblfndgaaGreat


/- carriers: room, hand. -/
namespace Go.Proofs.YtmjjkenblfndgaaGreat
open Go.RowKit
set_option linter.unusedSimpArgs false
set_option linter.unusedVariables false
structure Carr (W0 W : World) (cb : Nat) (u : Value) (ms : List MV) (rs : List MR) (L : List Mach) (went : Nat) : Prop where
  cell : W.heap[cb]? = some (.cells #[u, .int .i64 went] 73 (0, 0))
  row : W.ownsRow W0.heap.size 48 6 u ms.length (mvCells ms)
  res : WRes W W0.heap.size ms rs L
  bel : Below W0.heap.size W0 W
  lo : W0.heap.size ≤ cb
def Carries (W0 W : World) (cb : Nat) (L : List Mach) (went : Nat) : Prop := ∃ u ms rs, Carr W0 W cb u ms rs L went
theorem Carr.below {W0 W W' : World} {cb : Nat} {u : Value} {ms : List MV} {rs : List MR} {L : List Mach} {went : Nat} (h : Carr W0 W cb u ms rs L went) (hb : Below W.heap.size W W') : Carr W0 W' cb u ms rs L went :=
  ⟨(hb.block _ (xacZ h.cell)).trans h.cell, xaoZ h.row fun k hk => hb.block k (h.row.lt k hk).2, h.res.below hb, h.bel.trans (hb.mono h.bel.size), h.lo⟩
theorem Carr.mach {W0 W : World} {cb : Nat} {u : Value} {ms : List MV} {rs : List MR} {L : List Mach} {went k : Nat} {M : Mach} (h : Carr W0 W cb u ms rs L went) (hM : L[k]? = some M) : ∃ R cap c r, u = .slice (some ⟨R, 0, none⟩) L.length cap ∧ ms[k]? = some c ∧ rs[k]? = some r ∧ MHas W W0.heap.size c r M ∧ W.cell? ⟨R, k * 6, none⟩ = some c.fv ∧ W.cell? ⟨R, k * 6 + 1, none⟩ = some c.bv ∧ W.cell? ⟨R, k * 6 + 2, none⟩ = some c.iv ∧ W.cell? ⟨R, k * 6 + 3, none⟩ = some c.ov ∧ W.cell? ⟨R, k * 6 + 4, none⟩ = some (.int .i64 M.status) ∧ W.cell? ⟨R, k * 6 + 5, none⟩ = some (.int .i64 M.trap) ∧ (∃ cs, W.heap[R]? = some (.cells cs 48 (0, 0))) ∧ W0.heap.size ≤ R := by
  have hkl := xadZ hM
  obtain ⟨c, hc⟩ := xagZ (l := ms) (k := k) (by rw [h.res.lenM]; exact hkl)
  obtain ⟨r, hr⟩ := xagZ (l := rs) (k := k) (by rw [h.res.lenR]; exact hkl)
  have hm := h.res.each k c r M hc hr hM
  have hrow := h.row
  rcases hrow.2 with ⟨_, h0⟩ | ⟨R, cap, cur, rfl, hb, hg, h1, h2, h3, h4⟩
  · have := h.res.lenM; omega
  · obtain ⟨a0, a1, a2, a3, a4, a5⟩ := xfxZ ms k c hc
    refine ⟨R, cap, c, r, by rw [h.res.lenM], hc, hr, hm, xa3Z hrow _ _ a0, xa3Z hrow _ _ a1, xa3Z hrow _ _ a2, xa3Z hrow _ _ a3, ?_, ?_, ⟨cur, hg⟩, hb⟩
    · rw [← hm.st]; exact xa3Z hrow _ _ a4
    · rw [← hm.tr]; exact xa3Z hrow _ _ a5
theorem xjsZ (W0 W : World) (cb : Nat) (L : List Mach) (went k : Nat) (M : Mach) (h : Carries W0 W cb L went) (hM : L[k]? = some M) (h10 : M.inp.length ≤ 10) : Calls Tryz.prog 42 #[.pointer (some ⟨cb, 0, none⟩), .int .i64 k] W fun e w' => e = .returned (.int .i64 (10 - (M.inp.length : Int))) ∧ w' = W := by
  obtain ⟨u, ms, rs, h⟩ := h
  obtain ⟨R, cap, c, r, hu, hc, hr, hm, c0, c1, c2, c3, c4, c5, -, -⟩ := h.mach hM
  have hlt := xadZ hM
  have hlti : (k : Int) < (L.length : Int) := by omega
  obtain ⟨-, -, ⟨pi, ci, hiv⟩, -⟩ := hm.at_.shp
  rw [hiv] at c2
  have d0 := xaaZ h.cell 0
  simp at d0
  rw [hu] at d0
  have hw : IntKind.i64.wrap (10 - (M.inp.length : Int)) = 10 - (M.inp.length : Int) := by rw [IntKind.wrap_i64]; omega
  clear h hM hm hc hr hu c0 c1 c3 c4 c5 hiv
  go_enter Tryz.func42, Tryz.ntmps42
  go_wp2
  go_ret
  exact ⟨rfl, rfl⟩
theorem row_grown {W W' : World} {B : Nat} {e : TypeId} {size n : Nat} {v : Value} {xs : List Value} {b : Option Nat} (h : W.ownsRow B e size v n xs) (hg : W.grownBy W' b) (hne : ∀ g, v.ownBlock = some g → b ≠ some g) : W'.ownsRow B e size v n xs :=
  xaoZ h fun k hk => hg.block k (h.lt k hk).2 fun e => hne k hk e.symm
theorem xmnZ {W w2 : World} {B N k k' : Nat} (hN : N ≤ 1000000) {ms : List MV} {rs : List MR} {L : List Mach} {c : MV} {r : MR} {M : Mach} {l I' : List Int} {iv' iw' : Value} (h : WRes W B ms rs L) (hc : ms[k]? = some c) (hr : rs[k]? = some r) (hM : L[k]? = some M) (hA : AppV W w2 B N r.iw (M.inp ++ l) iv' iw' k' I') :
    WRes w2 B (ms.set k { c with iv := iv', st := (giveM M l).status }) (rs.set k { r with iw := iw', I := I' }) (L.set k (giveM M l)) := by
  have hm := h.each k c r M hc hr hM
  have hrow := hm.ints.each 0 _ _ rfl rfl
  have hty : TyRow W r.iw.ownBlock 3 := xcmZ hrow
  have hgr := hA.grown
  refine ⟨by simp [h.lenM], by simp [h.lenR], fun i d s N h1 h2 h3 => ?_, fun i j s t x y g h1 h2 hx hy gx gy => ?_⟩
  · rw [List.getElem?_set] at h1 h2 h3
    by_cases hik : k = i
    · subst hik
      rw [if_pos rfl, if_pos (xadZ hc)] at h1
      rw [if_pos rfl, if_pos (xadZ hr)] at h2
      rw [if_pos rfl, if_pos (xadZ hM)] at h3
      cases h1
      cases h2
      cases h3
      obtain ⟨ko, ho1, ho2⟩ := hm.out
      exact ⟨rfl, hm.tr, xasZ hm.fr hgr hty (by decide), hm.frs.keep hgr hty (by decide), xasZ hm.bl hgr hty (by decide), hm.ints.swap (k := 0) rfl hgr hA.row hA.at_ (by have := hA.few; show I'.length ≤ _; omega), ⟨k', hA.is_.symm, hA.rest⟩, ⟨ko, ho1, ho2⟩⟩
    · rw [if_neg hik] at h1 h2 h3
      have hn := h.each i d s N h1 h2 h3
      refine ⟨hn.st, hn.tr, xasZ hn.fr hgr hty (by decide), hn.frs.keep hgr hty (by decide), xasZ hn.bl hgr hty (by decide), ⟨hn.ints.len, fun q x b hq hb => ?_, hn.ints.apart, hn.ints.small⟩, hn.inp, hn.out⟩
      refine row_grown (hn.ints.each q x b hq hb) hgr fun g hg e => ?_
      exact hik (h.apart k i r s r.iw x g hr h2 (by simp [MR.rows]) (List.mem_of_getElem? hq) e hg)
  · have key : ∀ (i : Nat) (s : MR) (x : Value) (g : Nat), (rs.set k { r with iw := iw', I := I' })[i]? = some s → x ∈ s.rows → x.ownBlock = some g → (∃ s' x', rs[i]? = some s' ∧ x' ∈ s'.rows ∧ x'.ownBlock = some g) ∨ (i = k ∧ W.heap.size ≤ g) := fun i s x g h1 hx gx => by
      rw [List.getElem?_set] at h1
      by_cases hik : k = i
      · subst hik
        rw [if_pos rfl, if_pos (xadZ hr)] at h1
        cases h1
        rcases List.mem_cons.1 hx with rfl | hx
        · rcases hA.at_ g gx with h5 | h5
          · exact .inl ⟨r, r.iw, hr, by simp [MR.rows], h5⟩
          · exact .inr ⟨rfl, h5⟩
        · exact .inl ⟨r, x, hr, List.mem_cons_of_mem _ hx, gx⟩
      · rw [if_neg hik] at h1
        exact .inl ⟨s, x, h1, hx, gx⟩
    rcases key i s x g h1 hx gx with ⟨s', x', a1, a2, a3⟩ | ⟨a1, a2⟩
    · rcases key j t y g h2 hy gy with ⟨t', y', b1, b2, b3⟩ | ⟨b1, b2⟩
      · exact h.apart i j s' t' x' y' g a1 b1 a2 b2 a3 b3
      · have := h.lt a1 a2 a3; omega
    · rcases key j t y g h2 hy gy with ⟨t', y', b1, b2, b3⟩ | ⟨b1, b2⟩
      · have := h.lt b1 b2 b3; omega
      · omega
theorem carr_hand {W0 W w2 : World} {cb R cap k k' went N : Nat} (hN : N ≤ 1000000) {ms : List MV} {rs : List MR} {L : List Mach} {c : MV} {r : MR} {M : Mach} {l I' : List Int} {iv' iw' : Value} (h : Carr W0 W cb (.slice (some ⟨R, 0, none⟩) L.length cap) ms rs L went) (hc : ms[k]? = some c) (hr : rs[k]? = some r) (hM : L[k]? = some M) (hA : AppV W w2 W0.heap.size N r.iw (M.inp ++ l) iv' iw' k' I') (went' : Nat) :
    Carr W0 (((w2.setCell ⟨R, k * 6 + 2, none⟩ iv').setCell ⟨R, k * 6 + 4, none⟩ (.int .i64 (giveM M l).status)).setCell ⟨cb, 1, none⟩ (.int .i64 went')) cb (.slice (some ⟨R, 0, none⟩) L.length cap) (ms.set k { c with iv := iv', st := (giveM M l).status }) (rs.set k { r with iw := iw', I := I' }) (L.set k (giveM M l)) went' := by
  have hm := h.res.each k c r M hc hr hM
  have hrow := hm.ints.each 0 _ _ rfl rfl
  have hty : TyRow W r.iw.ownBlock 3 := xcmZ hrow
  have hres := xmnZ hN h.res hc hr hM hA
  have hR : ∃ cs, W.heap[R]? = some (.cells cs 48 (0, 0)) := by
    rcases h.row.2 with ⟨h1, h2⟩ | ⟨g, cp, cur, h1, _, h3, _⟩
    · cases h1
    · have e := congrArg Value.ownBlock h1
      simp only [Value.ownBlock, Option.some.injEq] at e
      subst e
      exact ⟨cur, h3⟩
  obtain ⟨cs, hR⟩ := hR
  have hR2 : w2.heap[R]? = some (.cells cs 48 (0, 0)) := (hA.grown.block _ (xacZ hR) (xbmZ hrow hR (by decide))).trans hR
  have hcb2 : w2.heap[cb]? = _ := (hA.grown.block _ (xacZ h.cell) (xbmZ hrow h.cell (by decide))).trans h.cell
  have hRB : W0.heap.size ≤ R := (h.row.lt R rfl).1
  have hne : R ≠ cb := fun e => by rw [e, hcb2] at hR2; simp at hR2
  have hg1 := xakZ w2 ⟨R, k * 6 + 2, none⟩ iv'
  have hR3 := heap_setCell_same w2 R (k * 6 + 2) _ _ iv' hR2
  have hg2 := xakZ (w2.setCell ⟨R, k * 6 + 2, none⟩ iv') ⟨R, k * 6 + 4, none⟩ (.int .i64 (giveM M l).status)
  have hR4 := heap_setCell_same _ R (k * 6 + 4) _ _ (.int .i64 (giveM M l).status) hR3
  have hg3 := xakZ ((w2.setCell ⟨R, k * 6 + 2, none⟩ iv').setCell ⟨R, k * 6 + 4, none⟩ (.int .i64 (giveM M l).status)) ⟨cb, 1, none⟩ (.int .i64 went')
  have hcb3 := (hg1.block cb (xacZ hcb2) (fun e => hne (Option.some.inj e).symm)).trans hcb2
  have hcb4 := (hg2.block cb (xacZ hcb3) (fun e => hne (Option.some.inj e).symm)).trans hcb3
  have t2 : TyRow w2 (some R) 48 := xatZ hR2
  have t3 : TyRow (w2.setCell ⟨R, k * 6 + 2, none⟩ iv') (some R) 48 := xatZ hR3
  have t4 : TyRow ((w2.setCell ⟨R, k * 6 + 2, none⟩ iv').setCell ⟨R, k * 6 + 4, none⟩ (.int .i64 (giveM M l).status)) (some cb) 73 := xatZ hcb4
  have hrow2 : w2.ownsRow W0.heap.size 48 6 (.slice (some ⟨R, 0, none⟩) L.length cap) ms.length (mvCells ms) := xasZ h.row hA.grown hty (by decide)
  have hml := h.res.lenM
  rw [← hml] at hrow2
  have hrow4 := xbnZ (xbnZ hrow2 (k * 6 + 2) iv') (k * 6 + 4) (.int .i64 (giveM M l).status)
  rw [xkoZ ms k c iv' hc, mvCells_st _ k { c with iv := iv' } (giveM M l).status (by rw [List.getElem?_set_self (xadZ hc)]), List.set_set] at hrow4
  refine ⟨?_, ?_, (((hres.keep hg1 t2 (by decide) (by decide) (by decide) (by decide)).keep hg2 t3 (by decide) (by decide) (by decide) (by decide)).keep hg3 t4 (by decide) (by decide) (by decide) (by decide)), ?_, h.lo⟩
  · have := heap_setCell_same _ cb 1 _ _ (.int .i64 (went' : Int)) hcb4
    simpa using this
  · have := xasZ hrow4 hg3 t4 (by decide)
    rw [← hml, List.length_set]
    exact this
  · exact (((h.bel.grown hA.grown h.bel.size (fun z hz => (hrow.lt z hz).1)).setCell (p := ⟨R, k * 6 + 2, none⟩) hRB _).setCell (p := ⟨R, k * 6 + 4, none⟩) hRB _).setCell (p := ⟨cb, 1, none⟩) h.lo _
theorem xj5Z {W0 W w2 : World} {cb R cap k k' went N : Nat} (hN : N ≤ 1000000) {ms : List MV} {rs : List MR} {L : List Mach} {c : MV} {r : MR} {M : Mach} {l I' : List Int} {iv' iw' : Value} (h : Carr W0 W cb (.slice (some ⟨R, 0, none⟩) L.length cap) ms rs L went) (hc : ms[k]? = some c) (hr : rs[k]? = some r) (hM : L[k]? = some M) (hA : AppV W w2 W0.heap.size N r.iw (M.inp ++ l) iv' iw' k' I') (went' : Nat) (hst : (giveM M l).status = M.status) :
    Carr W0 ((w2.setCell ⟨R, k * 6 + 2, none⟩ iv').setCell ⟨cb, 1, none⟩ (.int .i64 went')) cb (.slice (some ⟨R, 0, none⟩) L.length cap) (ms.set k { c with iv := iv', st := (giveM M l).status }) (rs.set k { r with iw := iw', I := I' }) (L.set k (giveM M l)) went' := by
  have hm := h.res.each k c r M hc hr hM
  have hrow := hm.ints.each 0 _ _ rfl rfl
  have hty : TyRow W r.iw.ownBlock 3 := xcmZ hrow
  have hres := xmnZ hN h.res hc hr hM hA
  have hR : ∃ cs, W.heap[R]? = some (.cells cs 48 (0, 0)) := by
    rcases h.row.2 with ⟨h1, h2⟩ | ⟨g, cp, cur, h1, _, h3, _⟩
    · cases h1
    · have e := congrArg Value.ownBlock h1
      simp only [Value.ownBlock, Option.some.injEq] at e
      subst e
      exact ⟨cur, h3⟩
  obtain ⟨cs, hR⟩ := hR
  have hR2 : w2.heap[R]? = some (.cells cs 48 (0, 0)) := (hA.grown.block _ (xacZ hR) (xbmZ hrow hR (by decide))).trans hR
  have hcb2 : w2.heap[cb]? = _ := (hA.grown.block _ (xacZ h.cell) (xbmZ hrow h.cell (by decide))).trans h.cell
  have hRB : W0.heap.size ≤ R := (h.row.lt R rfl).1
  have hne : R ≠ cb := fun e => by rw [e, hcb2] at hR2; simp at hR2
  have hg1 := xakZ w2 ⟨R, k * 6 + 2, none⟩ iv'
  have hR3 := heap_setCell_same w2 R (k * 6 + 2) _ _ iv' hR2
  have hg3 := xakZ (w2.setCell ⟨R, k * 6 + 2, none⟩ iv') ⟨cb, 1, none⟩ (.int .i64 went')
  have hcb3 := (hg1.block cb (xacZ hcb2) (fun e => hne (Option.some.inj e).symm)).trans hcb2
  have t2 : TyRow w2 (some R) 48 := xatZ hR2
  have t3 : TyRow (w2.setCell ⟨R, k * 6 + 2, none⟩ iv') (some R) 48 := xatZ hR3
  have t4 : TyRow (w2.setCell ⟨R, k * 6 + 2, none⟩ iv') (some cb) 73 := xatZ hcb3
  have hrow2 : w2.ownsRow W0.heap.size 48 6 (.slice (some ⟨R, 0, none⟩) L.length cap) ms.length (mvCells ms) := xasZ h.row hA.grown hty (by decide)
  have hml := h.res.lenM
  rw [← hml] at hrow2
  have hrow4 := xbnZ hrow2 (k * 6 + 2) iv'
  rw [xkoZ ms k c iv' hc] at hrow4
  have hse : ({ c with iv := iv' } : MV) = { c with iv := iv', st := (giveM M l).status } := by rw [hst, ← hm.st]
  rw [hse] at hrow4
  refine ⟨?_, ?_, ((hres.keep hg1 t2 (by decide) (by decide) (by decide) (by decide)).keep hg3 t4 (by decide) (by decide) (by decide) (by decide)), ?_, h.lo⟩
  · have := heap_setCell_same _ cb 1 _ _ (.int .i64 (went' : Int)) hcb3
    simpa using this
  · have := xasZ hrow4 hg3 t4 (by decide)
    rw [← hml, List.length_set]
    exact this
  · exact ((h.bel.grown hA.grown h.bel.size (fun z hz => (hrow.lt z hz).1)).setCell (p := ⟨R, k * 6 + 2, none⟩) hRB _).setCell (p := ⟨cb, 1, none⟩) h.lo _
def HandP (W0 W : World) (cb : Nat) (u : Value) (ms : List MV) (rs : List MR) (L : List Mach) (went k : Nat) (c : MV) (r : MR) (M : Mach) (l : List Int) (w' : World) : Prop := ∃ iv' iw' I', I'.length ≤ r.I.length + l.length ∧ Carr W0 w' cb u (ms.set k { c with iv := iv', st := (giveM M l).status }) (rs.set k { r with iw := iw', I := I' }) (L.set k (giveM M l)) (went + l.length) ∧ (∀ z, iw'.ownBlock = some z → r.iw.ownBlock = some z ∨ W.heap.size ≤ z) ∧ W.heap.size ≤ w'.heap.size
theorem hand_any (W0 W : World) (cb : Nat) (u : Value) (ms : List MV) (rs : List MR) (L : List Mach) (went k : Nat) (c : MV) (r : MR) (M : Mach) (l : List Int) (lv : Value) (h : Carr W0 W cb u ms rs L went) (hc : ms[k]? = some c) (hr : rs[k]? = some r) (hM : L[k]? = some M) (hl : FullInts W lv l) (h10 : r.I.length ≤ 50000) (hl10 : l.length ≤ 10) (hst : 0 ≤ M.status ∧ M.status ≤ 3) (hw : went ≤ 1000) (h4 : L.length ≤ 4) :
    Calls Tryz.prog 43 #[.pointer (some ⟨cb, 0, none⟩), .int .i64 k, lv] W fun e w' => e = .returned (.tuple #[]) ∧ HandP W0 W cb u ms rs L went k c r M l w' := by
  obtain ⟨R, cap, c', r', hu, hc', hr', hm, c0, c1, c2, c3, c4, c5, ⟨cs, hR⟩, hRB⟩ := h.mach hM
  rw [hc] at hc'
  cases hc'
  rw [hr] at hr'
  cases hr'
  subst hu
  obtain ⟨ki, hi1, hi2⟩ := hm.inp
  have hrow := hm.ints.each 0 _ _ rfl rfl
  obtain ⟨pv, mv, cv, hive, hmv, hmv2⟩ := xjrZ hi2 hrow
  subst hmv2
  have hq1 : RestV (.slice pv (r.I.length - ki) cv) r.iw ki r.I.length := by rw [← hive]; exact hi2
  have HQ1 := hideP hq1
  clear hq1
  obtain ⟨pl, cl, hlv, hlc⟩ := hl.shp
  have hlt := xadZ hM
  have hlti : (k : Int) < (L.length : Int) := by omega
  have d0 := xaaZ h.cell 0
  have d1 := xaaZ h.cell 1
  simp at d0 d1
  have hls := h.bel.size
  have H := hideP h
  have HC := hideP (And.intro hc (And.intro hr hM))
  have HROW := hideP hrow
  have HI := hideP (And.intro hi1 hi2)
  have HL := hideP hl
  have HRR := hideP hR
  have HIV := hideP hive
  have hlR := xacZ hR
  have hlcb := xacZ h.cell
  have hneB : R ≠ cb := fun e => by
    have h1 := h.cell
    rw [← e, hR] at h1
    simp at h1
  clear h hc hr hM hm hi1 hi2 hrow hl hR c0 c1 c3 c5
  rw [hive] at c2
  subst hlv
  go_enter Tryz.func43, Tryz.ntmps43
  go_wp2_with (at_builtin; refine xinZ rfl _ _ rfl rfl HROW.out HQ1.out rfl HL.out (by omega) hls ?_; intro iv2 w2 iw2 k2 I2 hA2; have HA := hideP hA2; obtain ⟨p2, m2, cc2, hiv2, -, -⟩ := xjrZ hA2.rest hA2.row; subst hiv2; have hR2 := (hA2.grown.block _ hlR (xbmZ HROW.out HRR.out (by decide))).trans HRR.out; have g2 := hA2.grown.cell c2 (fun e => xbmZ HROW.out HRR.out (by decide) e); have g4 := hA2.grown.cell c4 (fun e => xbmZ HROW.out HRR.out (by decide) e); have hcb2 := (hA2.grown.block _ hlcb (xbmZ HROW.out H.out.cell (by decide))).trans H.out.cell; have e0 := xaaZ hcb2 0; have e1 := xaaZ hcb2 1; simp at e0 e1; have z2 := Lib.frozen_of_heap hR2 (k * 6 + 2); have z4 := Lib.frozen_of_heap hR2 (k * 6 + 4); have zc := Lib.frozen_of_heap hcb2 1; clear hA2 hR2 hcb2)
  · go_end0
    have hs : (giveM M l).status = 0 := by
      have hs1 : M.status = 1 := by assumption
      have hs2 : 0 < l.length := by assumption
      have hne : l ≠ [] := fun e => by rw [e] at hs2; simp at hs2
      unfold giveM
      exact if_pos ⟨hs1, hne⟩
    have hA := HA.out
    rw [← HI.out.1] at hA
    have h9 := carr_hand (by omega) H.out HC.out.1 HC.out.2.1 HC.out.2.2 hA (went + l.length)
    rw [hs] at h9
    refine ⟨rfl, .slice p2 m2 cc2, iw2, I2, hA.few, ?_, hA.at_, by simpa using hA.grown.size⟩
    rw [hs]
    exact h9
  · go_end0
    have hs : (giveM M l).status = M.status := by
      unfold giveM
      refine if_neg ?_
      rintro ⟨e1, e2⟩
      have h0 : ¬ 0 < l.length := by assumption
      cases l with
      | nil => exact e2 rfl
      | cons a r => simp at h0
    have hA := HA.out
    rw [← HI.out.1] at hA
    exact ⟨rfl, .slice p2 m2 cc2, iw2, I2, hA.few, xj5Z (by omega) H.out HC.out.1 HC.out.2.1 HC.out.2.2 hA (went + l.length) hs, hA.at_, by simpa using hA.grown.size⟩
  · go_end0
    have hs : (giveM M l).status = M.status := by
      unfold giveM
      refine if_neg ?_
      rintro ⟨e1, e2⟩
      have h0 : ¬ M.status = 1 := by assumption
      exact h0 e1
    have hA := HA.out
    rw [← HI.out.1] at hA
    exact ⟨rfl, .slice p2 m2 cc2, iw2, I2, hA.few, xj5Z (by omega) H.out HC.out.1 HC.out.2.1 HC.out.2.2 hA (went + l.length) hs, hA.at_, by simpa using hA.grown.size⟩
end Go.Proofs.YtmjjkenblfndgaaGreat


/- carry. -/
namespace Go.Proofs.YtmjjkenblfndgaaGreat
open Go.RowKit
set_option linter.unusedSimpArgs false
set_option linter.unusedVariables false
theorem rest_more {p : Option Addr} {m c k n q : Nat} {w : Value} {W : World} {B : Nat} {xs : List Value} (h : RestV (.slice p m c) w k n) (hr : W.ownsRow B 3 1 w n xs) (hq : q ≤ m) (hc : m ≤ c) : ∃ k', RestV (.slice (if c = q then p else Option.map (fun x => x.add q) p) (m - q) (c - q)) w k' n ∧ ∀ O : List Int, O.length = n → O.drop k' = (O.drop k).drop q := by
  rcases h with ⟨rfl, rfl⟩ | ⟨g, cap, j, c', rfl, he, hj, hc1, hjc⟩
  · rcases hr.2 with ⟨e1, h0⟩ | ⟨g, cap, cur, e1, _, _, h1, _⟩
    · cases e1
      have : q = 0 := by omega
      subst this
      exact ⟨0, .inl ⟨rfl, by simp⟩, fun O _ => by simp⟩
    · injection e1 with e2 e3 e4
      subst e2 e3 e4
      refine ⟨q, .inr ⟨g, c, if c = q then 0 else q, c - q, rfl, ?_, ?_, by omega, ?_⟩, fun O _ => by simp⟩
      · by_cases hcq : c = q
        · simp [hcq]
        · simp [hcq, Addr.add]
          try omega
      · by_cases hcq : c = q
        · rw [if_pos hcq]; exact .inr ⟨by omega, by omega⟩
        · rw [if_neg hcq]; exact .inl ⟨rfl, hq⟩
      · split <;> omega
  · injection he with e2 e3 e4
    subst e2 e3 e4
    by_cases hcq : c = q
    · refine ⟨k + q, .inr ⟨g, cap, j, 0, rfl, ?_, .inr ⟨by omega, rfl⟩, by omega, by omega⟩, fun O _ => by rw [List.drop_drop]⟩
      rw [if_pos hcq, show n - k - q = n - (k + q) by omega, show c - q = 0 by omega]
    · rcases hj with ⟨rfl, hkn⟩ | ⟨h0, hc0⟩
      · refine ⟨j + q, .inr ⟨g, cap, j + q, c - q, rfl, ?_, .inl ⟨rfl, by omega⟩, by omega, by omega⟩, fun O _ => by rw [List.drop_drop]⟩
        rw [if_neg hcq, show n - j - q = n - (j + q) by omega]
        simp [Addr.add]
      · omega
theorem wres_left {W : World} {B k q : Nat} {ms : List MV} {rs : List MR} {L : List Mach} {c : MV} {r : MR} {M : Mach} {ov' : Value} {k' : Nat} (h : WRes W B ms rs L) (hc : ms[k]? = some c) (hr : rs[k]? = some r) (hM : L[k]? = some M) (ho : M.out.drop q = r.O.drop k') (hv : RestV ov' r.ow k' r.O.length) : WRes W B (ms.set k { c with ov := ov' }) rs (L.set k (leftM M q)) := by
  have hm := h.each k c r M hc hr hM
  refine ⟨by simp [h.lenM], by simp [h.lenR], fun i d s N h1 h2 h3 => ?_, h.apart⟩
  rw [List.getElem?_set] at h1 h3
  by_cases hik : k = i
  · subst hik
    rw [if_pos rfl, if_pos (xadZ hc)] at h1
    rw [if_pos rfl, if_pos (xadZ hM)] at h3
    cases h1
    cases h3
    rw [hr] at h2
    cases h2
    exact ⟨hm.st, hm.tr, hm.fr, hm.frs, hm.bl, hm.ints, hm.inp, ⟨k', ho, hv⟩⟩
  · rw [if_neg hik] at h1 h3
    exact h.each i d s N h1 h2 h3
theorem carr_left {W0 W : World} {cb R cap k q went k' : Nat} {ms : List MV} {rs : List MR} {L : List Mach} {c : MV} {r : MR} {M : Mach} {ov' : Value} (h : Carr W0 W cb (.slice (some ⟨R, 0, none⟩) L.length cap) ms rs L went) (hc : ms[k]? = some c) (hr : rs[k]? = some r) (hM : L[k]? = some M) (ho : M.out.drop q = r.O.drop k') (hv : RestV ov' r.ow k' r.O.length) :
    Carr W0 (W.setCell ⟨R, k * 6 + 3, none⟩ ov') cb (.slice (some ⟨R, 0, none⟩) L.length cap) (ms.set k { c with ov := ov' }) rs (L.set k (leftM M q)) went := by
  have hres := wres_left h.res hc hr hM ho hv
  have hml := h.res.lenM
  have hR : ∃ cs, W.heap[R]? = some (.cells cs 48 (0, 0)) := by
    rcases h.row.2 with ⟨h1, h2⟩ | ⟨g, cp, cur, h1, _, h3, _⟩
    · cases h1
    · have e := congrArg Value.ownBlock h1
      simp only [Value.ownBlock, Option.some.injEq] at e
      subst e
      exact ⟨cur, h3⟩
  obtain ⟨cs, hR⟩ := hR
  have hRB : W0.heap.size ≤ R := (h.row.lt R rfl).1
  have hne : R ≠ cb := fun e => by
    have h1 := h.cell
    rw [← e, hR] at h1
    simp at h1
  have hg := xakZ W ⟨R, k * 6 + 3, none⟩ ov'
  have t : TyRow W (some R) 48 := xatZ hR
  have hrow := h.row
  rw [← hml] at hrow
  have hrow2 := xbnZ hrow (k * 6 + 3) ov'
  rw [mvCells_ov ms k c ov' hc] at hrow2
  refine ⟨(hg.block cb (xacZ h.cell) (fun e => hne (Option.some.inj e).symm)).trans h.cell, ?_, hres.keep hg t (by decide) (by decide) (by decide) (by decide), h.bel.setCell (p := ⟨R, k * 6 + 3, none⟩) hRB _, h.lo⟩
  rw [← hml, List.length_set]
  exact hrow2
theorem xfwZ {α : Type} {l : List α} {i : Nat} {x : α} {f : α → α} (h : l[i]? = some x) : l.modify i f = l.set i (f x) := by
  apply List.ext_getElem?
  intro j
  rw [List.getElem?_modify, List.getElem?_set]
  by_cases hij : i = j
  · subst hij
    rw [if_pos rfl, if_pos (xadZ h), h]
    simp
  · simp [hij]
theorem carry1_set {N : List Mach} {i : Nat} {a b d : Mach} (ha : N[i]? = some a) (hb : N[nextW N.length i]? = some b) (hd : (N.set (nextW N.length i) (giveM b (a.out.take (xbqZ N i))))[i]? = some d) :
    xf3Z N i = (N.set (nextW N.length i) (giveM b (a.out.take (xbqZ N i)))).set i (leftM d (xbqZ N i)) := by
  unfold xf3Z
  rw [xkrZ ha, xfwZ hb, xfwZ hd]
end Go.Proofs.YtmjjkenblfndgaaGreat


/- carry. -/
namespace Go.Proofs.YtmjjkenblfndgaaGreat
open Go.RowKit
set_option linter.unusedSimpArgs false
set_option linter.unusedVariables false
theorem mix_status {W : List Mach} {n j : Nat} {m : Mach} (h : n ≤ predW W.length j) : (mixAt W n j m).status = m.status := by
  unfold mixAt
  simp only
  rw [if_neg (show ¬ predW W.length j < n by omega)]
  split <;> rfl
theorem wentN_le (W : List Mach) (h10 : ∀ m ∈ W, m.out.length ≤ 10) : ∀ n, n ≤ W.length → wentN W n ≤ 10 * n
  | 0, _ => Nat.le_refl _
  | n + 1, h => by
    have ih := wentN_le W h10 n (by omega)
    rw [wentN, (xgcZ W (n + 1) h).2 n (by omega)]
    obtain ⟨a, ha⟩ := xagZ (l := W) (k := n) (by omega)
    obtain ⟨b, hb⟩ := xagZ (l := W) (k := nextW W.length n) (xitZ (by omega))
    rw [xgwZ ha hb]
    have := h10 a (List.mem_of_getElem? ha)
    omega
theorem xpaZ {W : List Mach} {n : Nat} (hn : n < W.length) : ∃ a b a0 b0 : Mach, (xbhZ W n)[n]? = some a ∧ (xbhZ W n)[nextW W.length n]? = some b ∧ W[n]? = some a0 ∧ W[nextW W.length n]? = some b0 ∧ a.out = a0.out ∧ b.inp = b0.inp ∧ b.status = b0.status := by
  obtain ⟨a0, ha⟩ := xagZ hn
  have hnl : nextW W.length n < W.length := xitZ (by omega)
  obtain ⟨b0, hb⟩ := xagZ hnl
  have hat := (xgcZ W n (by omega)).1
  have hp : predW W.length (nextW W.length n) = n := xifZ hn
  exact ⟨_, _, a0, b0, hat n a0 ha, hat _ b0 hb, ha, hb, mix_out (Nat.le_refl n), mix_inp (by omega), mix_status (by omega)⟩
theorem xmxZ {W : World} {p : Option Addr} {m c n : Nat} {s : List Int} (h : FullInts W (.slice p m c) s) (hn : n ≤ m) : FullInts W (.slice p n c) (s.take n) := by
  obtain ⟨q, c', hv, hm, hc⟩ := h.at_
  injection hv with e1 e2 e3
  subst e1
  have hl : (s.take n).length = n := by rw [List.length_take]; omega
  refine ⟨⟨p, c, by rw [hl], by omega, fun k z hk => ?_⟩, fun n' c' e => ?_, fun p' n' c' e => ?_⟩
  · rw [List.getElem?_take] at hk
    split at hk
    · exact hc k z hk
    · cases hk
  · cases e
    have := h.nil m c rfl
    omega
  · cases e
    have := h.cap _ _ _ rfl
    omega
def xf1Z (W0 W : World) (cb : Nat) (L : List Mach) (went n : Nat) : Prop := ∃ u ms rs, Carr W0 W cb u ms rs L went ∧ ∀ (i : Nat) (r : MR), rs[i]? = some r → r.I.length ≤ n
theorem xlqZ (W0 W : World) (cb : Nat) (L : List Mach) (h : xf1Z W0 W cb L 0 1000) (h4 : L.length ≤ 4) (ho10 : ∀ m ∈ L, m.out.length ≤ 10) (hi10 : ∀ m ∈ L, m.inp.length ≤ 10) (hst : ∀ m ∈ L, 0 ≤ m.status ∧ m.status ≤ 3) :
    Calls Tryz.prog 40 #[.pointer (some ⟨cb, 0, none⟩)] W fun e w' => e = .returned (.tuple #[]) ∧ xf1Z W0 w' cb (mailW L) (wentW L) (1000 + 10 * L.length) := by
  have H := hideP h
  obtain ⟨u, ms, rs, hC, hI⟩ := h
  have d0 := xaaZ hC.cell 0
  simp at d0
  obtain ⟨pu, cu, hu⟩ := xaiZ hC.row
  rw [hu, hC.res.lenM] at d0
  have HO := hideP ho10
  have HI := hideP hi10
  have HS := hideP hst
  clear hC hI hu ho10 hi10 hst
  go_enter Tryz.func40, Tryz.ntmps40
  go_wp2
  go_loopw [2, 3, 4, 5, 12] (fun _ _ _ _ v12 wr => ∃ i : Nat, i ≤ L.length ∧ v12 = .int .i64 i ∧ xf1Z W0 wr cb (xbhZ L i) (wentN L i) (1000 + 10 * i)) (fun _ _ _ _ v12 _ => L.length - (intOf v12).toNat)
  case atStart => exact ⟨0, Nat.zero_le _, rfl, H.out⟩
  case round =>
    rename World => w2
    obtain ⟨i, hi, rfl, hcar⟩ := hrel
    by_cases hlt : i < L.length
    rotate_left
    · have hlti : ¬ (i : Int) < (L.length : Int) := by omega
      have hil : i = L.length := by omega
      subst hil
      have HC := hideP hcar
      clear hcar
      go_wp2
      go_end0
      exact ⟨rfl, HC.out⟩
    have hlti : (i : Int) < (L.length : Int) := by omega
    obtain ⟨u2, ms2, rs2, hC, hI⟩ := hcar
    obtain ⟨a, b, a0, b0, ha, hb, ha0, hb0, eo, ei, es⟩ := xpaZ hlt
    have hnl : nextW L.length i < L.length := xitZ (by omega)
    have hln := xeiZ L i
    obtain ⟨R, cap, ca, ra, hu, hca, hra, hma, -, -, -, m3, -, -, ⟨cs, hR⟩, hRB⟩ := hC.mach ha
    obtain ⟨R', cap', cx, rx, hu', hcx, hrx, hmx, -⟩ := hC.mach hb
    subst hu
    have o10 := HO.out a0 (List.mem_of_getElem? ha0)
    have i10 := HI.out b0 (List.mem_of_getElem? hb0)
    have s10 := HS.out b0 (List.mem_of_getElem? hb0)
    rw [← eo] at o10
    rw [← ei] at i10
    rw [← es] at s10
    obtain ⟨-, -, -, ⟨po, co, hov⟩⟩ := hma.at_.shp
    have c0 := xaaZ hC.cell 0
    simp at c0
    rw [hov] at m3
    have hm1 : ((i : Int) + 1) % (L.length : Int) = ((nextW L.length i : Nat) : Int) := by simp [nextW]
    rw [hln] at c0
    clear hu'
    obtain ⟨q, hq⟩ : ∃ q, xbqZ (xbhZ L i) i = q := ⟨_, rfl⟩
    have hqv := xgwZ ha (by rw [hln]; exact hb)
    rw [hq] at hqv
    have hqa : q ≤ a.out.length := by omega
    have hq10 : q ≤ 10 := by omega
    have hfull : FullInts w2 (.slice po q co) (a.out.take q) := xmxZ (by rw [← hov]; exact hma.at_.out) hqa
    have hwl := wentN_le L HO.out i hi
    have hmin : min (a.out.length : Int) (10 - (b.inp.length : Int)) = (q : Int) := by omega
    have HC := hideP hC
    have HI2 := hideP hI
    have HA := hideP (And.intro hca (And.intro hra ha))
    have HB := hideP (And.intro hcx (And.intro hrx hb))
    have HF := hideP hfull
    have HOV := hideP hov
    have HMA := hideP hma
    have HR := hideP hR
    have HQ := hideP (And.intro hq hqv)
    have hlR := xacZ hR
    have HCB := hideP hC.cell
    have hac : a.out.length ≤ co := by
      have h9 := hma.at_.out
      rw [hov] at h9
      exact h9.cap _ _ _ rfl
    have hqc : q ≤ co := by omega
    have hqci : (q : Int) ≤ (co : Int) := by omega
    have hs50 : rx.I.length ≤ 50000 := by
      have := hI _ _ hrx
      omega
    have hlt10 : (a.out.take q).length ≤ 10 := by rw [List.length_take]; omega
    have hw1000 : wentN L i ≤ 1000 := by omega
    have hiN : i < ((xbhZ L i).set (nextW L.length i) (giveM b (a.out.take q))).length := by rw [List.length_set]; omega
    have hN4 : (xbhZ L i).length ≤ 4 := by omega
    clear eo ei es hca hra ha hcx hrx hb hC hI hov hma hmx hR hfull ha0 hb0 hq hqv
    go_wp2_with (go_at_call 42; refine (xjsZ W0 w2 cb (xbhZ L i) (wentN L i) (nextW L.length i) b ⟨_, ms2, rs2, HC.out⟩ HB.out.2.2 i10).mono ?_; rintro e w3 ⟨rfl, rfl⟩)
    go_at_call 43
    refine (hand_any W0 _ cb (.slice (some ⟨R, 0, none⟩) (xbhZ L i).length cap) ms2 rs2 (xbhZ L i) (wentN L i) (nextW L.length i) cx rx b (a.out.take q) (.slice po q co) HC.out HB.out.1 HB.out.2.1 HB.out.2.2 HF.out hs50 hlt10 s10 hw1000 hN4).mono ?_
    rintro e w4 ⟨rfl, iv', iw', I', hIl, hC4, hrw, hsz⟩
    obtain ⟨d, hd⟩ := xagZ (l := (xbhZ L i).set (nextW L.length i) (giveM b (a.out.take q))) (k := i) hiN
    obtain ⟨R4, cap4, c4, r4, hu4, hc4, hr4, hm4, -, -, -, n3, -, -, ⟨cs4, hR4⟩, -⟩ := hC4.mach hd
    rw [List.length_set] at hu4
    injection hu4 with e1 e2 e3
    injection e1 with e1
    injection e1 with e1
    subst e1
    have f3 := Lib.frozen_of_heap hR4 (i * 6 + 3)
    have k0 := xaaZ hC4.cell 0
    simp at k0
    rw [hln] at k0
    have HC4 := hideP hC4
    have HD := hideP (And.intro hd (And.intro hc4 hr4))
    have HIL := hideP hIl
    have HM4 := hideP hm4
    clear hd hc4 hr4 hC4 hR4 hm4 hIl hrw
    go_wp2
    go_region
    all_goals go_wp2
    obtain ⟨hq, hqv⟩ := HQ.out
    obtain ⟨hca, hra, ha⟩ := HA.out
    obtain ⟨hcx, hrx, hb⟩ := HB.out
    obtain ⟨hd, hc4, hr4⟩ := HD.out
    have hC4 := HC4.out
    have hov := HOV.out
    have hdo : d.out = a.out ∧ c4.ov = ca.ov ∧ r4.O = ra.O ∧ r4.ow = ra.ow := by
      rw [List.getElem?_set] at hd hc4 hr4
      by_cases hni : nextW L.length i = i
      · rw [hni] at hd hc4 hr4 hb hcx hrx
        rw [if_pos rfl, if_pos (xadZ ha)] at hd
        rw [if_pos rfl, if_pos (xadZ hca)] at hc4
        rw [if_pos rfl, if_pos (xadZ hra)] at hr4
        rw [ha] at hb
        rw [hca] at hcx
        rw [hra] at hrx
        cases hb
        cases hcx
        cases hrx
        cases hd
        cases hc4
        cases hr4
        exact ⟨rfl, rfl, rfl, rfl⟩
      · rw [if_neg hni] at hd hc4 hr4
        rw [ha] at hd
        rw [hca] at hc4
        rw [hra] at hr4
        cases hd
        cases hc4
        cases hr4
        exact ⟨rfl, rfl, rfl, rfl⟩
    obtain ⟨ho1, ho2, ho3, ho4⟩ := hdo
    obtain ⟨j, hj1, hj2⟩ := HMA.out.out
    rw [hov] at hj2
    obtain ⟨k', hv, hdr⟩ := rest_more (q := q) hj2 (HMA.out.ints.each 1 _ _ rfl rfl) hqa hac
    have hlen : ((xbhZ L i).set (nextW L.length i) (giveM b (a.out.take q))).length = (xbhZ L i).length := List.length_set
    rw [← hlen] at hC4
    have hfin := carr_left (q := q) hC4 hc4 hr4 hd (by rw [ho1, ho3, hdr _ rfl, ← hj1]) (by rw [ho3, ho4]; exact hv)
    have hcn : xbhZ L (i + 1) = ((xbhZ L i).set (nextW L.length i) (giveM b (a.out.take q))).set i (leftM d q) := by
      have h9 := carry1_set (d := d) ha (by rw [hln]; exact hb) (by rw [hln, hq]; exact hd)
      rw [hln, hq] at h9
      exact h9
    have hwn : wentN L (i + 1) = wentN L i + (a.out.take q).length := by
      rw [wentN, hq, List.length_take]
      omega
    refine ⟨⟨i + 1, by omega, by go_num, ?_⟩, by simp [intOf]; omega⟩
    rw [hcn, hwn]
    refine ⟨_, _, _, hfin.below ((Below.refl _ _).drew), fun z r hz => ?_⟩
    rw [List.getElem?_set] at hz
    split at hz
    · rename_i he
      subst he
      rw [if_pos (xadZ hrx)] at hz
      cases hz
      have h1 := HI2.out _ _ hrx
      have h2 := HIL.out
      show I'.length ≤ _
      omega
    · have := HI2.out _ _ hz
      omega
end Go.Proofs.YtmjjkenblfndgaaGreat


/- stride's do where it waits. -/
namespace Go.Proofs.YtmjjkenblfndgaaGreat
open Go.RowKit
set_option linter.unusedSimpArgs false
set_option linter.unusedVariables false
theorem do21w (w0 : World) (b : Nat) (pv : Value) (M : Mach) (D : List Frm) (x : Frm) (p : List Fn) (k pc : Nat) (f : Fn) (A : Int) (w : World) (h : Doer w0 w b pv M) (hF : M.frames = D ++ [x]) (hD : D.length ≤ 100) (hp : FnsAt w0 pv p) (hk : p[k]? = some f) (hfn : x.fn = (k : Int)) (hpc : x.pc = (pc : Int)) (hpl : f.2.2.2.length ≤ 1000) (ho : f.2.2.2[pc]? = some (21, A)) (hin : M.inp = []) : Calls Tryz.prog 111 #[.pointer (some ⟨b, 0, none⟩)] w fun e w' => e = .returned (.tuple #[]) ∧ Doer w0 w' b pv { M with status := 1 } := by
  obtain ⟨g, cap, bv, iv, ov, q, c, qb, H⟩ := h.open hF
  have HI := hideP (xamZ b g D.length cap w H.fcell hD)
  have hin' : ((M.inp.length : Int) == 0) = true := by simp [hin]
  obtain ⟨pin, cin, hinv⟩ := xaiZ H.at_.own.inp
  have HH0 := hideP H
  obtain ⟨pp, qp, hpv, hpm, -⟩ := id hp
  subst hpv
  have HP := hideP hp
  have hpcl := xadZ ho
  have hkl := xadZ hk
  have HO := hideP ho
  have HK := hideP hk
  have HFN := hideP hfn
  have HPC := hideP hpc
  clear h hF H hp ho hin hk hfn hpc
  go_enter Tryz.func111, Tryz.ntmps111
  go_wp2_with fail
  refine HI.out.mono ?_
  rintro e w2 ⟨rfl, b2⟩
  have H2 := HH0.out.below b2
  have c0 := H2.c0
  have c1 := H2.c1
  rw [HFN.out] at c0
  rw [HPC.out] at c1
  have c6 := H2.at_.cells.2.2.2.2.2.2
  obtain ⟨pp', qp', hpe, -, hpc⟩ := id (HP.out.below H2.at_.bel)
  cases hpe
  obtain ⟨pb, po, f0, f1, f2, f3, hpp, hplt, -, -, -, y3, hfn⟩ := hpc k f HK.out
  subst hpp
  obtain ⟨-, -, -, hops⟩ := hfn
  obtain ⟨p3, q3, he3, -, hoc⟩ := id hops
  subst he3
  obtain ⟨ob, oo, hob, holt, o0, o1⟩ := hoc pc _ HO.out
  subst hob
  have hkli : (k : Int) < (p.length : Int) := by omega
  have hpcli : (pc : Int) < (f.2.2.2.length : Int) := by omega
  have c0a := fun o => xabZ c0 o
  have c1a := fun o => xabZ c1 o
  have c6a := fun o => xabZ c6 o
  have y3a := fun o => xabZ y3 o
  have o0a := fun o => xabZ o0 o
  have o1a := fun o => xabZ o1 o
  clear hpc hoc hops
  go_wp2_with fail
  go_region
  obtain ⟨W3, hW3⟩ : ∃ W3, (w2.alloc (.cells #[.int .i64 21, .int .i64 A] 86)).drew = W3 := ⟨_, rfl⟩
  have b3 : Below w2.heap.size w2 W3 := by rw [← hW3]; exact ((Below.refl _ w2).alloc (Nat.le_refl _) _).drew
  have x3 : W3.heap[w2.heap.size]? = some (.cells #[.int .i64 21, .int .i64 A] 86 (0, 0)) := by rw [← hW3]; exact World.alloc_heap_new w2 _
  rw [hW3]
  clear hW3 c0 c1 c6 y3 o0 o1 c0a c1a c6a y3a o0a o1a
  have H3 := H2.below b3
  have e0 : W3.cell? ⟨w2.heap.size, 0, none⟩ = some (.int .i64 21) := xaaZ x3 0
  have e1 : W3.cell? ⟨w2.heap.size, 1, none⟩ = some (.int .i64 A) := xaaZ x3 1
  have d1 := H3.c1
  rw [HPC.out] at d1
  have z1 : W3.frozen? ⟨g, D.length * 4 + 1, none⟩ = false := by obtain ⟨cur, hh⟩ := H3.gb; exact Lib.frozen_of_heap hh _
  have hne : ¬ w2.heap.size = g := by obtain ⟨cur, hh⟩ := H2.gb; have := xacZ hh; omega
  have hne' : ¬ g = w2.heap.size := fun e => hne e.symm
  have i2 := H3.at_.cells.2.2.1
  rw [hinv] at i2
  have z4 := Lib.frozen_of_heap H3.at_.cell 4
  have j4 := H3.at_.cells.2.2.2.2.1
  have HS := hideP H3
  clear H2 H3 x3
  go_wp2_with fail
  first | go_end0 | refine bodyPost_ret (results_none rfl _ _ _) rfl ?_
  exact ⟨rfl, HS.out.at_.setSt 1⟩
end Go.Proofs.YtmjjkenblfndgaaGreat


