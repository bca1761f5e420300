/- My texts Nc Ng Nh Qc Qd Qe: what of them is needed, joined. -/

import Derived.Test.YtmjjkenblfndgaaGreatD5
import Derived.Test.YtmjjkenblfndgaaGreatD9
import Derived.Test.YtmjjkenblfndgaaGreatD14
set_option maxRecDepth 100000
set_option maxHeartbeats 8000000
/- machine's checker: what is to be on a frame's stack. -/
namespace Go.Proofs.YtmjjkenblfndgaaGreat
open Go.RowKit
set_option linter.unusedSimpArgs false
set_option linter.unusedVariables false
theorem ents_ix {p : List Fn} {f : Fn} {e : Nat → Option (List Int)} {l : List (Nat × List Int)} (h : EntsOk p f e l) {pc : Nat} {s : List Int} (hs : e pc = some s) : ∃ k : Nat, entIx l (pc : Int) = (k : Int) ∧ l[k]? = some (pc, s) := by
  obtain ⟨j, hj⟩ := h.all pc s hs
  rcases xggZ l (pc : Int) with ⟨h1, h2⟩ | ⟨k, z, h1, h2, h3⟩
  · exact absurd rfl (h2 _ (List.mem_of_getElem? hj))
  · obtain ⟨a, b⟩ := z
    have e1 : a = pc := by have h4 : (a : Int) = (pc : Int) := h3; omega
    subst e1
    have := (h.on k a b h2).1
    rw [hs] at this
    cases this
    exact ⟨k, h1, h2⟩
theorem xlvZ {W : World} {p : Option Addr} {n c : Nat} {s : List Int} (h : FullInts W (.slice p (n + 1) c) s) : FullInts W (.slice p n c) s.dropLast := by
  obtain ⟨q, c', hv, hm, hc⟩ := h.at_
  injection hv with e1 e2 e3
  subst e1
  have hl : s.dropLast.length = n := by rw [List.length_dropLast]; omega
  refine ⟨⟨p, c, by rw [hl], by omega, fun k z hk => ?_⟩, fun n' c' e => ?_, fun p' n' c' e => ?_⟩
  · rw [List.getElem?_dropLast] at hk
    split at hk
    · exact hc k z hk
    · cases hk
  · cases e
    exact h.nil (n + 1) c rfl
  · cases e
    have := h.cap _ _ _ rfl
    omega
/-- the entry's stack, of the innermost frame. -/
theorem stack_last (M : Mach) (p : List Fn) (e : Nat → Nat → Option (List Int)) (pv fv bv iv ov lv : Value) (l : List (Nat × List Int)) (i k pc : Nat) (s : List Int) (x : Frm) (f : Fn) (w : World) (h : CkAt w p pv fv bv iv ov M) (hx : M.frames[i]? = some x) (hi : i + 1 = M.frames.length) (hl : EntsRd w lv l) (ho : EntsOk p f (e k) l) (hpc : x.pc = (pc : Int)) (hs : e k pc = some s) (h6 : M.frames.length ≤ 1000) : Calls Tryz.prog 183 #[chkV pv fv bv iv ov M, .int .i64 i, lv] w fun e' w' => ∃ u, e' = .returned u ∧ FullInts w' u s ∧ Below w.heap.size w w' := by
  obtain ⟨⟨pp, qp, hpv⟩, -, ⟨pb, cb, hbv⟩, ⟨pi, ci, hiv⟩, ⟨po, co, hov⟩⟩ := h.shp
  obtain ⟨pf, cf, hfv, hfm, -, hfc⟩ := id h.mach.fr
  obtain ⟨k2, hix, hlk⟩ := ents_ix ho hs
  obtain ⟨pl, cl, hlv, hlm, hlc⟩ := id hl
  unfold maxLen at hlm
  subst hpv hfv hbv hiv hov hlv
  obtain ⟨g, off, lv1, sv1, rfl, hg, x0, x1, x2, x3, -, -, -, -⟩ := hfc i x hx
  obtain ⟨gb, go, u, rfl, hgl, e0, e1, hu⟩ := hlc k2 pc s hlk
  obtain ⟨pu, cu, hus, hcu⟩ := hu.shp
  have hil := xaeZ hx
  have hk2l := xaeZ hlk
  have hiin : ¬ ((i : Int) < (M.frames.length : Int) - 1) := by omega
  have hii : decide ((i : Int) < (M.frames.length : Int) - 1) = false := by simpa using hiin
  have hili : (i : Int) < (M.frames.length : Int) := by omega
  have hk2i : (k2 : Int) < (l.length : Int) := by omega
  have hb1 : ∀ o, Below w.heap.size w (w.alloc o) := fun o => (Below.refl _ w).alloc (Nat.le_refl _) _
  have x1a := fun o => xabZ x1 o
  rw [hpc] at x1a
  have HE : Hid (∀ W, Below w.heap.size w W → Calls Tryz.prog 224 #[.slice (some ⟨gb, go, none⟩) l.length cl, .int .i64 (pc : Int)] W fun e w' => e = .returned (.int .i64 (k2 : Int)) ∧ Below W.heap.size W w') := fun W hW => by
    rw [← hix]; exact xe0Z l _ _ W (hl.below hW)
  subst hus
  have HU := hideP hu
  have HPC := hideP hpc
  clear h hx hl ho hfc hlc hix hlk hu hs hpc x0 x1 x2 x3 hi
  go_enter Tryz.func183, Tryz.ntmps183
  go_wp2_with (go_at_call 224; refine (HE.out _ (hb1 _)).mono ?_; rintro e' w2 ⟨rfl, b2⟩; have bb2 := xadZ (hb1 _) b2; have m1 := (bb2.cell (p := ⟨gb, go + k2 * 2 + 1, none⟩) hgl).trans e1; have m0 := (b2.cell (p := ⟨w.heap.size, 0, none⟩) (by simp)).trans (xaaZ (World.alloc_heap_new w _) 0); simp at m0)
  go_quiet (fail)
  go_wp2
  go_ret
  exact ⟨_, rfl, HU.out.below (below_drewN bb2 _), below_drewN bb2 _⟩
/-- the entry's stack, of a frame that has called one without a result. -/
theorem stack_mid0 (M : Mach) (p : List Fn) (e : Nat → Nat → Option (List Int)) (pv fv bv iv ov lv : Value) (l : List (Nat × List Int)) (i k pc j : Nat) (s : List Int) (x y : Frm) (f hh : Fn) (w : World) (h : CkAt w p pv fv bv iv ov M) (hx : M.frames[i]? = some x) (hy : M.frames[i + 1]? = some y) (hj : y.fn = (j : Int)) (hhj : p[j]? = some hh) (hr : hh.2.2.1 = 0) (hl : EntsRd w lv l) (ho : EntsOk p f (e k) l) (hpc : x.pc = (pc : Int)) (hs : e k pc = some s) (h6 : M.frames.length ≤ 1000) (hpl : p.length ≤ 1000) : Calls Tryz.prog 183 #[chkV pv fv bv iv ov M, .int .i64 i, lv] w fun e' w' => ∃ u, e' = .returned u ∧ FullInts w' u s ∧ Below w.heap.size w w' := by
  obtain ⟨⟨pp, qp, hpv⟩, -, ⟨pb, cb, hbv⟩, ⟨pi, ci, hiv⟩, ⟨po, co, hov⟩⟩ := h.shp
  obtain ⟨pf, cf, hfv, hfm, -, hfc⟩ := id h.mach.fr
  obtain ⟨k2, hix, hlk⟩ := ents_ix ho hs
  obtain ⟨pl, cl, hlv, hlm, hlc⟩ := id hl
  unfold maxLen at hlm
  subst hpv hfv hbv hiv hov hlv
  obtain ⟨g, off, lv1, sv1, rfl, hg, x0, x1, x2, x3, -, -, -, -⟩ := hfc i x hx
  obtain ⟨g', off', lv2, sv2, he', hg', y0, -, -, -, -⟩ := hfc (i + 1) y hy
  cases he'
  rw [hj] at y0
  obtain ⟨pp', qp', hpe, -, hpc'⟩ := id h.fns
  cases hpe
  obtain ⟨fb, fo, c0, c1, c2, c3, hpp, hplt, -, -, z2, -, hfn⟩ := hpc' j hh hhj
  subst hpp
  have hz2 := hfn.2.2.1
  rw [hr] at hz2
  subst hz2
  have hjl := xaeZ hhj
  have hjli : (j : Int) < (p.length : Int) := by omega
  obtain ⟨gb, go, u, rfl, hgl, e0, e1, hu⟩ := hlc k2 pc s hlk
  obtain ⟨pu, cu, hus, hcu⟩ := hu.shp
  have hil := xaeZ hy
  have hk2l := xaeZ hlk
  have hiin : (i : Int) < (M.frames.length : Int) - 1 := by omega
  have hii : decide ((i : Int) < (M.frames.length : Int) - 1) = true := by simpa using hiin
  have hili : (i : Int) < (M.frames.length : Int) := by omega
  have hili2 : (i : Int) + 1 < (M.frames.length : Int) := by omega
  have hwi : IntKind.i64.wrap ((i : Int) + 1) = (i : Int) + 1 := by rw [IntKind.wrap_i64]; omega
  have hti : ((i : Int) + 1).toNat = i + 1 := by omega
  have hk2i : (k2 : Int) < (l.length : Int) := by omega
  have hb1 : ∀ o, Below w.heap.size w (w.alloc o) := fun o => (Below.refl _ w).alloc (Nat.le_refl _) _
  have x1a := fun o => xabZ x1 o
  rw [hpc] at x1a
  have HE : Hid (∀ W, Below w.heap.size w W → Calls Tryz.prog 224 #[.slice (some ⟨gb, go, none⟩) l.length cl, .int .i64 (pc : Int)] W fun e w' => e = .returned (.int .i64 (k2 : Int)) ∧ Below W.heap.size W w') := fun W hW => by
    rw [← hix]; exact xe0Z l _ _ W (hl.below hW)
  subst hus
  have HU := hideP hu
  have HPC := hideP hpc
  clear h hx hy hl ho hfc hlc hix hlk hu hs hpc hpc' hfn x0 x1 x2 x3 hhj hj
  go_enter Tryz.func183, Tryz.ntmps183
  go_wp2_with (go_at_call 224; refine (HE.out _ (hb1 _)).mono ?_; rintro e' w2 ⟨rfl, b2⟩; have bb2 := xadZ (hb1 _) b2; have m1 := (bb2.cell (p := ⟨gb, go + k2 * 2 + 1, none⟩) hgl).trans e1; have m0 := (b2.cell (p := ⟨w.heap.size, 0, none⟩) (by simp)).trans (xaaZ (World.alloc_heap_new w _) 0); have m6 := (b2.cell (p := ⟨w.heap.size, 6, none⟩) (by simp)).trans (xaaZ (World.alloc_heap_new w _) 6); simp at m0 m6; have my := (bb2.cell (p := ⟨g, off + (i + 1) * 4, none⟩) hg').trans y0; have mz := (bb2.cell (p := ⟨fb, fo + j * 4 + 2, none⟩) hplt).trans z2)
  go_quiet (fail)
  go_wp2
  go_ret
  exact ⟨_, rfl, HU.out.below (below_drewN bb2 _), below_drewN bb2 _⟩
/-- the entry's stack but the result, of a frame that has called one with a result. -/
theorem stack_mid1 (M : Mach) (p : List Fn) (e : Nat → Nat → Option (List Int)) (pv fv bv iv ov lv : Value) (l : List (Nat × List Int)) (i k pc j n : Nat) (s : List Int) (x y : Frm) (f hh : Fn) (w : World) (h : CkAt w p pv fv bv iv ov M) (hx : M.frames[i]? = some x) (hy : M.frames[i + 1]? = some y) (hj : y.fn = (j : Int)) (hhj : p[j]? = some hh) (hr : hh.2.2.1 ≠ 0) (hl : EntsRd w lv l) (ho : EntsOk p f (e k) l) (hpc : x.pc = (pc : Int)) (hs : e k pc = some s) (hsn : s.length = n + 1) (h6 : M.frames.length ≤ 1000) (hpl : p.length ≤ 1000) : Calls Tryz.prog 183 #[chkV pv fv bv iv ov M, .int .i64 i, lv] w fun e' w' => ∃ u, e' = .returned u ∧ FullInts w' u s.dropLast ∧ Below w.heap.size w w' := by
  obtain ⟨⟨pp, qp, hpv⟩, -, ⟨pb, cb, hbv⟩, ⟨pi, ci, hiv⟩, ⟨po, co, hov⟩⟩ := h.shp
  obtain ⟨pf, cf, hfv, hfm, -, hfc⟩ := id h.mach.fr
  obtain ⟨k2, hix, hlk⟩ := ents_ix ho hs
  obtain ⟨pl, cl, hlv, hlm, hlc⟩ := id hl
  unfold maxLen at hlm
  subst hpv hfv hbv hiv hov hlv
  obtain ⟨g, off, lv1, sv1, rfl, hg, x0, x1, x2, x3, -, -, -, -⟩ := hfc i x hx
  obtain ⟨g', off', lv2, sv2, he', hg', y0, -, -, -, -⟩ := hfc (i + 1) y hy
  cases he'
  rw [hj] at y0
  obtain ⟨pp', qp', hpe, -, hpc'⟩ := id h.fns
  cases hpe
  obtain ⟨fb, fo, c0, c1, c2, c3, hpp, hplt, -, -, z2, -, hfn⟩ := hpc' j hh hhj
  subst hpp
  have hz2 := hfn.2.2.1
  subst hz2
  have hrb : (hh.2.2.1 != 0) = true := by simpa using hr
  have hjl := xaeZ hhj
  have hjli : (j : Int) < (p.length : Int) := by omega
  obtain ⟨gb, go, u, rfl, hgl, e0, e1, hu⟩ := hlc k2 pc s hlk
  obtain ⟨pu, cu, hus, hcu⟩ := hu.shp
  rw [hsn] at hus hcu
  have hn8 : n ≤ 7 := by have h8 := (ho.on k2 pc s hlk).2.1; rw [hsn] at h8; omega
  have hil := xaeZ hy
  have hk2l := xaeZ hlk
  have hiin : (i : Int) < (M.frames.length : Int) - 1 := by omega
  have hii : decide ((i : Int) < (M.frames.length : Int) - 1) = true := by simpa using hiin
  have hili : (i : Int) < (M.frames.length : Int) := by omega
  have hili2 : (i : Int) + 1 < (M.frames.length : Int) := by omega
  have hwi : IntKind.i64.wrap ((i : Int) + 1) = (i : Int) + 1 := by rw [IntKind.wrap_i64]; omega
  have hti : ((i : Int) + 1).toNat = i + 1 := by omega
  have hk2i : (k2 : Int) < (l.length : Int) := by omega
  have hb1 : ∀ o, Below w.heap.size w (w.alloc o) := fun o => (Below.refl _ w).alloc (Nat.le_refl _) _
  have x1a := fun o => xabZ x1 o
  rw [hpc] at x1a
  have HE : Hid (∀ W, Below w.heap.size w W → Calls Tryz.prog 224 #[.slice (some ⟨gb, go, none⟩) l.length cl, .int .i64 (pc : Int)] W fun e w' => e = .returned (.int .i64 (k2 : Int)) ∧ Below W.heap.size W w') := fun W hW => by
    rw [← hix]; exact xe0Z l _ _ W (hl.below hW)
  subst hus
  have HU := hideP hu
  have HPC := hideP hpc
  clear h hx hy hl ho hfc hlc hix hlk hu hs hpc hpc' hfn x0 x1 x2 x3 hhj hj hr hsn
  go_enter Tryz.func183, Tryz.ntmps183
  go_wp2_with (go_at_call 224; refine (HE.out _ (hb1 _)).mono ?_; rintro e' w2 ⟨rfl, b2⟩; have bb2 := xadZ (hb1 _) b2; have m1 := (bb2.cell (p := ⟨gb, go + k2 * 2 + 1, none⟩) hgl).trans e1; have m0 := (b2.cell (p := ⟨w.heap.size, 0, none⟩) (by simp)).trans (xaaZ (World.alloc_heap_new w _) 0); have m6 := (b2.cell (p := ⟨w.heap.size, 6, none⟩) (by simp)).trans (xaaZ (World.alloc_heap_new w _) 6); simp at m0 m6; have my := (bb2.cell (p := ⟨g, off + (i + 1) * 4, none⟩) hg').trans y0; have mz := (bb2.cell (p := ⟨fb, fo + j * 4 + 2, none⟩) hplt).trans z2)
  go_quiet (fail)
  go_wp2
  go_ret
  exact ⟨_, rfl, (xlvZ HU.out).below (below_drewN bb2 _), below_drewN bb2 _⟩
end Go.Proofs.YtmjjkenblfndgaaGreat


/- machine's checker: whether a frame fits. -/
namespace Go.Proofs.YtmjjkenblfndgaaGreat
open Go.RowKit
set_option linter.unusedSimpArgs false
set_option linter.unusedVariables false
theorem vFunc_fit (p : List Fn) (e : Nat → Nat → Option (List Int)) (hp : xanZ p = 0) (he : xa1Z p e) (k : Nat) (f : Fn) (hf : p[k]? = some f) (pv : Value) (w : World) (hA : FnsAt w pv p) (hC : CapAt w pv) : Calls Tryz.prog 82 #[.agg #[pv], .int .i64 (k : Int)] w fun e' w' => ∃ lv, e' = .returned (.tuple #[lv, .int .i64 0]) ∧ EntsRd w' lv (xd9Z f.2.2.2 (e k)) ∧ Below w.heap.size w w' := by
  refine (xm4Z p (k : Int) pv w hA hC).mono ?_
  rintro e' w' ⟨v, er, l, rfl, hi, ho, hb⟩
  rcases hi with ⟨a1, _⟩ | ⟨_, a2, _⟩ | ⟨_, n, g, r, hn, hg, hl, h3⟩
  · exact absurd hp a1
  · have := xaeZ hf; omega
  · have e1 : n = k := by omega
    subst e1
    rw [hf] at hg
    cases hg
    have e2 := xmnZ hl (he n f hf)
    subst e2
    rcases h3 with ⟨h4, _⟩ | ⟨e3, h4, h5, h6⟩
    · cases h4
    · cases h4
      subst h5 h6
      exact ⟨v, rfl, entsRd_own ho, hb⟩
theorem progFn {p : List Fn} {x : Frm} (h : xb7Z p x = true) : ∃ (k : Nat) (f : Fn), x.fn = (k : Int) ∧ p[k]? = some f := by
  simp only [xb7Z, Bool.and_eq_true, decide_eq_true_eq] at h
  obtain ⟨f, hf⟩ := xaiZ (l := p) (k := x.fn.toNat) (by omega)
  exact ⟨x.fn.toNat, f, by omega, hf⟩
theorem xg7Z {p : List Fn} {e : Nat → Nat → Option (List Int)} (hp : xanZ p = 0) (he : xa1Z p e) {k : Nat} {f : Fn} (hf : p[k]? = some f) : EntsOk p f (e k) (xd9Z f.2.2.2 (e k)) ∧ f.2.2.2.length ≤ 1000 := by
  have hfl := (okFn hp (List.mem_of_getElem? hf)).flow
  refine ⟨entsOk hfl (he k f hf), ?_⟩
  have := xd3Z hfl
  omega
theorem xieZ {p : List Fn} (hp : xanZ p = 0) : p.length ≤ 5 := (xeoZ hp).2.1
theorem placed_any (M : Mach) (p : List Fn) (e : Nat → Nat → Option (List Int)) (pv fv bv iv ov lv : Value) (i k : Nat) (x : Frm) (f : Fn) (w : World) (hp : xanZ p = 0) (he : xa1Z p e) (h : CkAt w p pv fv bv iv ov M) (hx : M.frames[i]? = some x) (hf : p[k]? = some f) (hk : x.fn = (k : Int)) (hl : EntsRd w lv (xd9Z f.2.2.2 (e k))) (h6 : M.frames.length ≤ 6) (hp1 : -9223372036854775808 ≤ x.pc) (hp2 : x.pc ≤ 9223372036854775807) : Calls Tryz.prog 182 #[chkV pv fv bv iv ov M, .int .i64 i, lv] w fun e' w' => e' = .returned (.bool (xccZ e ((M.frames[i + 1]?).map Frm.fn) x k f)) ∧ Below w.heap.size w w' := by
  obtain ⟨ho, hcl⟩ := xg7Z hp he hf
  have hpl := xieZ hp
  have hil := xaeZ hx
  cases hy : M.frames[i + 1]? with
  | none =>
    have := List.getElem?_eq_none_iff.1 hy
    exact xqfZ M p e pv fv bv iv ov lv _ i k x f w h hx (by omega) hf hl ho
  | some y => exact placed_mid M p e pv fv bv iv ov lv _ i k x y f w h hx hy hf hk hl ho hcl (by omega) (by omega) hp1 hp2
theorem stack_any (M : Mach) (p : List Fn) (e : Nat → Nat → Option (List Int)) (pv fv bv iv ov lv : Value) (i k : Nat) (x : Frm) (f : Fn) (w : World) (hp : xanZ p = 0) (he : xa1Z p e) (h : CkAt w p pv fv bv iv ov M) (hall : M.frames.all (xb7Z p) = true) (hx : M.frames[i]? = some x) (hf : p[k]? = some f) (hk : x.fn = (k : Int)) (hl : EntsRd w lv (xd9Z f.2.2.2 (e k))) (h6 : M.frames.length ≤ 6) (hpl : xccZ e ((M.frames[i + 1]?).map Frm.fn) x k f = true) : Calls Tryz.prog 183 #[chkV pv fv bv iv ov M, .int .i64 i, lv] w fun e' w' => ∃ u, e' = .returned u ∧ FullInts w' u (xc1Z p e ((M.frames[i + 1]?).map Frm.fn) x k) ∧ Below w.heap.size w w' := by
  obtain ⟨ho, hcl⟩ := xg7Z hp he hf
  have hpl5 := xieZ hp
  have hil := xaeZ hx
  cases hy : M.frames[i + 1]? with
  | none =>
    rw [hy] at hpl
    simp only [Option.map_none, xccZ, Bool.and_eq_true, decide_eq_true_eq, Option.isSome_iff_exists] at hpl
    obtain ⟨h0, s, hs⟩ := hpl
    have := List.getElem?_eq_none_iff.1 hy
    have e1 : xc1Z p e none x k = s := by simp [xc1Z, hs]
    simp only [Option.map_none]
    rw [e1]
    exact stack_last M p e pv fv bv iv ov lv _ i k x.pc.toNat s x f w h hx (by omega) hl ho (by omega) hs (by omega)
  | some y =>
    rw [hy] at hpl
    simp only [Option.map_some, xccZ, Bool.and_eq_true, decide_eq_true_eq, Option.isSome_iff_exists, beq_iff_eq] at hpl
    obtain ⟨⟨h0, s0, hs0⟩, hop⟩ := hpl
    obtain ⟨s, hs⟩ := xlgZ he hf hs0 hop
    have hpc1 : (x.pc - 1).toNat + 1 = x.pc.toNat := by omega
    rw [hpc1] at hs
    have hyp : xb7Z p y = true := List.all_eq_true.1 hall y (List.mem_of_getElem? hy)
    obtain ⟨j, hh, hj, hhj⟩ := progFn hyp
    have hjt : y.fn.toNat = j := by omega
    simp only [Option.map_some]
    by_cases hr : hh.2.2.1 = 0
    · have e1 : xc1Z p e (some y.fn) x k = s := by simp [xc1Z, hs, hjt, hhj, hr]
      rw [e1]
      exact stack_mid0 M p e pv fv bv iv ov lv _ i k x.pc.toNat j s x y f hh w h hx hy hj hhj hr hl ho (by omega) hs (by omega) (by omega)
    · have e1 : xc1Z p e (some y.fn) x k = s.dropLast := by simp [xc1Z, hs, hjt, hhj, hr]
      rw [e1]
      have hne : s.length ≠ 0 := by
        obtain ⟨o, out, h4, h5, h7⟩ := (he k f hf).1.on (x.pc - 1).toNat s0 hs0
        rw [hop] at h4
        cases h4
        obtain ⟨_, s', h8, h9⟩ := h7 ((x.pc - 1).toNat + 1) (xdjZ hop (by simp) (by simp))
        rw [hpc1, hs] at h8
        cases h8
        rw [← xd5Z h9]
        obtain ⟨t', l', q1, q2, q3, hout⟩ := xfaZ h5
        unfold xafZ at q1
        rw [if_neg (by simp), if_neg (by simp), if_neg (by simp), if_pos rfl] at q1
        simp only [hjt, hhj] at q1
        have hr0 := ((okFn hp (List.mem_of_getElem? hf)).res hh (List.mem_of_getElem? hhj)).1
        simp at q1
        rw [hout, ← q1.2, if_pos (by omega)]
        simp
      exact stack_mid1 M p e pv fv bv iv ov lv _ i k x.pc.toNat j (s.length - 1) s x y f hh w h hx hy hj hhj hr hl ho (by omega) hs (by omega) (by omega) (by omega)
end Go.Proofs.YtmjjkenblfndgaaGreat


/- machine's checker: a frame. -/
namespace Go.Proofs.YtmjjkenblfndgaaGreat
open Go.RowKit
set_option linter.unusedSimpArgs false
set_option linter.unusedVariables false
theorem fits_any (M : Mach) (p : List Fn) (e : Nat → Nat → Option (List Int)) (pv fv bv iv ov : Value) (i k : Nat) (x : Frm) (f : Fn) (w : World) (hp : xanZ p = 0) (he : xa1Z p e) (h : CkAt w p pv fv bv iv ov M) (hall : M.frames.all (xb7Z p) = true) (hx : M.frames[i]? = some x) (hf : p[k]? = some f) (hk : x.fn = (k : Int)) (h6 : M.frames.length ≤ 6) (hp1 : -9223372036854775808 ≤ x.pc) (hp2 : x.pc ≤ 9223372036854775807) : Calls Tryz.prog 143 #[chkV pv fv bv iv ov M, .int .i64 i] w (Says (xceZ p e M.blocks.length ((M.frames[i + 1]?).map Frm.fn) x k f) w) := by
  obtain ⟨⟨pp, qp, hpv⟩, -, ⟨pb, cb, hbv⟩, ⟨pi, ci, hiv⟩, ⟨po, co, hov⟩⟩ := h.shp
  obtain ⟨pf, cf, hfv, hfm, -, hfc⟩ := id h.mach.fr
  subst hpv hfv hbv hiv hov
  obtain ⟨g, off, lv1, sv1, rfl, hg, x0, x1, x2, x3, hL, -, hS, -⟩ := hfc i x hx
  obtain ⟨pl1, cl1, hlv1, hlm1, -⟩ := id hL
  obtain ⟨ps1, cs1, hsv1, hsm1, -⟩ := id hS
  subst hlv1 hsv1
  have hil := xaeZ hx
  have hili : (i : Int) < (M.frames.length : Int) := by omega
  obtain ⟨pp', qp', hpe, -, hpc⟩ := id h.fns
  cases hpe
  obtain ⟨fb, fo, c0, c1, c2, c3, hpp, hplt, -, z1, -, -, hfn⟩ := hpc k f hf
  subst hpp
  obtain ⟨-, hty, -, -⟩ := hfn
  obtain ⟨pt, qt, htv, htm, -⟩ := id hty
  subst htv
  have hkl := xaeZ hf
  have hkli : (k : Int) < (p.length : Int) := by omega
  rw [hk] at x0
  have x0a := fun o => xabZ x0 o
  have x1a := fun o => xabZ x1 o
  have x2a := fun o => xabZ x2 o
  have x3a := fun o => xabZ x3 o
  obtain ⟨W2, hW2⟩ : ∃ W2, (w.alloc (.cells #[.slice (some ⟨g, off, none⟩) M.frames.length cf, .slice pb M.blocks.length cb, .slice pi M.inp.length ci, .slice po M.out.length co, .int .i64 M.status, .int .i64 M.trap, .slice (some ⟨fb, fo, none⟩) p.length qp] 121)).alloc (.cells #[.int .i64 k, .int .i64 x.pc, .slice pl1 x.loc.length cl1, .slice ps1 x.stk.length cs1] 89) = W2 := ⟨_, rfl⟩
  have b2 : Below w.heap.size w W2 := by rw [← hW2]; exact ((Below.refl _ w).alloc (Nat.le_refl _) _).alloc (by simp) _
  have u1 : W2.heap[w.heap.size]? = some (.cells #[.slice (some ⟨g, off, none⟩) M.frames.length cf, .slice pb M.blocks.length cb, .slice pi M.inp.length ci, .slice po M.out.length co, .int .i64 M.status, .int .i64 M.trap, .slice (some ⟨fb, fo, none⟩) p.length qp] 121 (0, 0)) := by rw [← hW2]; exact xajZ (World.alloc_heap_new w _) _
  have u2 : W2.heap[w.heap.size + 1]? = some (.cells #[.int .i64 k, .int .i64 x.pc, .slice pl1 x.loc.length cl1, .slice ps1 x.stk.length cs1] 89 (0, 0)) := by rw [← hW2]; exact xa9Z w _ _
  have l1 := xacZ u1
  have l2 := xacZ u2
  have a0 : W2.cell? ⟨w.heap.size, 0, none⟩ = some (.slice (some ⟨g, off, none⟩) M.frames.length cf) := xaaZ u1 0
  have a1 : W2.cell? ⟨w.heap.size, 1, none⟩ = some (.slice pb M.blocks.length cb) := xaaZ u1 1
  have a2 : W2.cell? ⟨w.heap.size, 2, none⟩ = some (.slice pi M.inp.length ci) := xaaZ u1 2
  have a3 : W2.cell? ⟨w.heap.size, 3, none⟩ = some (.slice po M.out.length co) := xaaZ u1 3
  have a4 : W2.cell? ⟨w.heap.size, 4, none⟩ = some (.int .i64 M.status) := xaaZ u1 4
  have a5 : W2.cell? ⟨w.heap.size, 5, none⟩ = some (.int .i64 M.trap) := xaaZ u1 5
  have a6 : W2.cell? ⟨w.heap.size, 6, none⟩ = some (.slice (some ⟨fb, fo, none⟩) p.length qp) := xaaZ u1 6
  have f0 : W2.cell? ⟨w.heap.size + 1, 0, none⟩ = some (.int .i64 k) := xaaZ u2 0
  have f2 : W2.cell? ⟨w.heap.size + 1, 2, none⟩ = some (.slice pl1 x.loc.length cl1) := xaaZ u2 2
  have f3 : W2.cell? ⟨w.heap.size + 1, 3, none⟩ = some (.slice ps1 x.stk.length cs1) := xaaZ u2 3
  have z1' := (b2.cell (p := ⟨fb, fo + k * 4 + 1, none⟩) hplt).trans z1
  have KC : Hid (∀ W, Below W2.heap.size W2 W → (W.cell? ⟨w.heap.size, 0, none⟩ = some (.slice (some ⟨g, off, none⟩) M.frames.length cf) ∧ W.cell? ⟨w.heap.size, 1, none⟩ = some (.slice pb M.blocks.length cb) ∧ W.cell? ⟨w.heap.size, 2, none⟩ = some (.slice pi M.inp.length ci) ∧ W.cell? ⟨w.heap.size, 3, none⟩ = some (.slice po M.out.length co) ∧ W.cell? ⟨w.heap.size, 4, none⟩ = some (.int .i64 M.status) ∧ W.cell? ⟨w.heap.size, 5, none⟩ = some (.int .i64 M.trap) ∧ W.cell? ⟨w.heap.size, 6, none⟩ = some (.slice (some ⟨fb, fo, none⟩) p.length qp)) ∧ W.cell? ⟨w.heap.size + 1, 2, none⟩ = some (.slice pl1 x.loc.length cl1) ∧ W.cell? ⟨w.heap.size + 1, 3, none⟩ = some (.slice ps1 x.stk.length cs1)) := fun W hW =>
    ⟨⟨(hW.cell (p := ⟨w.heap.size, 0, none⟩) l1).trans a0, (hW.cell (p := ⟨w.heap.size, 1, none⟩) l1).trans a1, (hW.cell (p := ⟨w.heap.size, 2, none⟩) l1).trans a2, (hW.cell (p := ⟨w.heap.size, 3, none⟩) l1).trans a3, (hW.cell (p := ⟨w.heap.size, 4, none⟩) l1).trans a4, (hW.cell (p := ⟨w.heap.size, 5, none⟩) l1).trans a5, (hW.cell (p := ⟨w.heap.size, 6, none⟩) l1).trans a6⟩, (hW.cell (p := ⟨w.heap.size + 1, 2, none⟩) l2).trans f2, (hW.cell (p := ⟨w.heap.size + 1, 3, none⟩) l2).trans f3⟩
  have H2 := h.below b2
  have hshp : (∃ q n c, Value.slice (some ⟨fb, fo, none⟩) p.length qp = .slice q n c) ∧ (∃ q n c, Value.slice (some ⟨g, off, none⟩) M.frames.length cf = .slice q n c) ∧ (∃ q c, Value.slice pb M.blocks.length cb = .slice q M.blocks.length c) ∧ (∃ q n c, Value.slice pi M.inp.length ci = .slice q n c) ∧ ∃ q n c, Value.slice po M.out.length co = .slice q n c := ⟨⟨_, _, _, rfl⟩, ⟨_, _, _, rfl⟩, ⟨_, _, rfl⟩, ⟨_, _, _, rfl⟩, ⟨_, _, _, rfl⟩⟩
  have HVF := hideP (vFunc_fit p e hp he k f hf _ W2 H2.fns H2.cap)
  have HH2 := hideP H2
  have HOK : Hid (∀ (l : List Val) (v : Value) (W : World), ValsAt W v l → Calls Tryz.prog 179 #[v, .func (.func 180) #[chkV (.slice (some ⟨fb, fo, none⟩) p.length qp) (.slice (some ⟨g, off, none⟩) M.frames.length cf) (.slice pb M.blocks.length cb) (.slice pi M.inp.length ci) (.slice po M.out.length co) M] #[]] W fun e w' => e = .returned (.bool (!l.all (okV M.blocks.length))) ∧ Below W.heap.size W w') := fun l v W hv => allOk_any M _ _ _ _ _ l v W hv hshp.1 hshp.2.1 hshp.2.2.1 hshp.2.2.2.1 hshp.2.2.2.2
  have HL := hideP (hL.below b2)
  have HS := hideP (hS.below b2)
  have HTY := hideP (hty.below b2)
  have HX := hideP hx
  have HF := hideP hf
  have HK := hideP hk
  have HALL := hideP hall
  have HP := hideP hp
  have HE := hideP he
  generalize hnx : (M.frames[i + 1]?).map Frm.fn = nx
  have HNX := hideP hnx
  clear h hx hf hall hfc hpc hL hS hty H2 x0 x1 x2 x3 u1 u2 hp he hshp hnx z1 hk
  go_enter Tryz.func143, Tryz.ntmps143
  by_cases c1 : x.loc.length = f.2.1.length
  rotate_left
  · have c1' : ((x.loc.length : Int) != (f.2.1.length : Int)) = true := by simp; omega
    have HC1 := hideP c1
    clear c1
    go_wp2_with fail
    refine HVF.out.mono ?_
    rintro e' w3 ⟨lv, rfl, hents, b3⟩
    obtain ⟨⟨q0, q1, q2, q3, q4, q5, q6⟩, q7, q8⟩ := KC.out w3 b3
    obtain ⟨pl, cl, hlv⟩ := hents.shp
    subst hlv
    go_wp2
    go_ret
    exact ⟨by unfold xceZ; rw [if_pos HC1.out]; rfl, xadZ b2 b3⟩
  have c1' : ((x.loc.length : Int) != (f.2.1.length : Int)) = false := by simp; omega
  have HC1 := hideP c1
  clear c1
  go_wp2_with fail
  refine HVF.out.mono ?_
  rintro e' w3 ⟨lv, rfl, hents, b3⟩
  obtain ⟨⟨q0, q1, q2, q3, q4, q5, q6⟩, q7, q8⟩ := KC.out w3 b3
  obtain ⟨pl, cl, hlv⟩ := hents.shp
  subst hlv
  have HENT := hideP hents
  clear hents
  go_wp2_with fail
  refine (HOK.out x.loc _ w3 (HL.out.below b3)).mono ?_
  rintro e' w4 ⟨rfl, b4'⟩
  have b4 := b3.trans (b4'.mono b3.size)
  have HENT4 := hideP (HENT.out.below b4')
  clear b4' HENT q0 q1 q2 q3 q4 q5 q6 q7 q8
  obtain ⟨⟨q0, q1, q2, q3, q4, q5, q6⟩, q7, q8⟩ := KC.out w4 b4
  cases k1 : x.loc.all (okV M.blocks.length)
  · go_wp2
    go_ret
    exact ⟨by unfold xceZ; rw [if_neg (by simpa using HC1.out), if_pos (by rw [k1]; rfl)]; rfl, xadZ b2 b4⟩
  have K1 := hideP k1
  clear k1
  go_wp2_with fail
  refine (HOK.out x.stk _ w4 (HS.out.below b4)).mono ?_
  rintro e' w5 ⟨rfl, b5'⟩
  have b5 := b4.trans (b5'.mono b4.size)
  have HENT5 := hideP (HENT4.out.below b5')
  clear b5' HENT4 q0 q1 q2 q3 q4 q5 q6 q7 q8
  obtain ⟨⟨q0, q1, q2, q3, q4, q5, q6⟩, q7, q8⟩ := KC.out w5 b5
  cases k2 : x.stk.all (okV M.blocks.length)
  · go_wp2
    go_ret
    exact ⟨by unfold xceZ; rw [if_neg (by simpa using HC1.out), if_pos (by rw [K1.out, k2]; rfl)]; rfl, xadZ b2 b5⟩
  have K2 := hideP k2
  clear k2
  go_wp2_with fail
  refine (xl6Z x.loc f.2.1 _ _ w5 (HL.out.below b5) (HTY.out.below b5)).mono ?_
  rintro e' w6 ⟨rfl, b6'⟩
  have b6 := b5.trans (b6'.mono b5.size)
  have HENT6 := hideP (HENT5.out.below b6')
  clear b6' HENT5 q0 q1 q2 q3 q4 q5 q6 q7 q8
  obtain ⟨⟨q0, q1, q2, q3, q4, q5, q6⟩, q7, q8⟩ := KC.out w6 b6
  cases k3 : areOf x.loc f.2.1
  · go_wp2
    go_ret
    exact ⟨by unfold xceZ; rw [if_neg (by simpa using HC1.out), if_neg (by rw [K1.out, K2.out]; decide), if_pos k3]; rfl, xadZ b2 b6⟩
  have K3 := hideP k3
  clear k3
  go_wp2_with fail
  refine (placed_any M p e _ _ _ _ _ _ i k x f w6 HP.out HE.out (HH2.out.below b6) HX.out HF.out HK.out HENT6.out h6 hp1 hp2).mono ?_
  rw [HNX.out]
  rintro e' w7 ⟨rfl, b7'⟩
  have b7 := b6.trans (b7'.mono b6.size)
  have HENT7 := hideP (HENT6.out.below b7')
  clear b7' HENT6 q0 q1 q2 q3 q4 q5 q6 q7 q8
  obtain ⟨⟨q0, q1, q2, q3, q4, q5, q6⟩, q7, q8⟩ := KC.out w7 b7
  cases k4 : xccZ e nx x k f
  · go_wp2
    go_ret
    exact ⟨by unfold xceZ; rw [if_neg (by simpa using HC1.out), if_neg (by rw [K1.out, K2.out]; decide), if_neg (by rw [K3.out]; decide), if_pos k4]; rfl, xadZ b2 b7⟩
  have K4 := hideP k4
  clear k4
  have HST : Hid (∀ W, Below w7.heap.size w7 W → Calls Tryz.prog 183 #[chkV (.slice (some ⟨fb, fo, none⟩) p.length qp) (.slice (some ⟨g, off, none⟩) M.frames.length cf) (.slice pb M.blocks.length cb) (.slice pi M.inp.length ci) (.slice po M.out.length co) M, .int .i64 i, .slice pl (xd9Z f.2.2.2 (e k)).length cl] W fun e' w' => ∃ u, e' = .returned u ∧ FullInts w' u (xc1Z p e nx x k) ∧ Below W.heap.size W w') := fun W hW => by
    have := stack_any M p e _ _ _ _ _ (.slice pl (xd9Z f.2.2.2 (e k)).length cl) i k x f W HP.out HE.out ((HH2.out.below b7).below hW) HALL.out HX.out HF.out HK.out (HENT7.out.below hW) h6 (by rw [HNX.out]; exact K4.out)
    rw [HNX.out] at this
    exact this
  go_wp2_with fail
  go_region_held3 (fun X => (X.cell? ⟨w.heap.size, 0, none⟩ = some (.slice (some ⟨g, off, none⟩) M.frames.length cf) ∧ X.cell? ⟨w.heap.size, 1, none⟩ = some (.slice pb M.blocks.length cb) ∧ X.cell? ⟨w.heap.size, 2, none⟩ = some (.slice pi M.inp.length ci) ∧ X.cell? ⟨w.heap.size, 3, none⟩ = some (.slice po M.out.length co) ∧ X.cell? ⟨w.heap.size, 4, none⟩ = some (.int .i64 M.status) ∧ X.cell? ⟨w.heap.size, 5, none⟩ = some (.int .i64 M.trap) ∧ X.cell? ⟨w.heap.size, 6, none⟩ = some (.slice (some ⟨fb, fo, none⟩) p.length qp)) ∧ X.cell? ⟨w.heap.size + 1, 3, none⟩ = some (.slice ps1 x.stk.length cs1)) (first | go_keep | exact ⟨(KC.out _ b8).1, (KC.out _ b8).2.2⟩ | exact ⟨(KC.out _ b9).1, (KC.out _ b9).2.2⟩)
    (first
      | (go_at_call 183; (with_reducible refine (HST.out _ ((Below.refl _ w7).drew)).mono ?_); rintro e' w8 ⟨u, rfl, hu, b8'⟩; have b8 : Below W2.heap.size W2 w8 := b7.trans ((((Below.refl _ w7).drew).trans b8').mono b7.size); obtain ⟨pu, cu, hus, -⟩ := hu.shp; subst hus; have HU := hideP hu; clear hu b8')
      | (go_at_call 181; (with_reducible refine (xl6Z x.stk (xc1Z p e nx x k) _ _ _ (HS.out.below b8) HU.out.at_).mono ?_); rintro e' w9 ⟨rfl, b9'⟩; have b9 : Below W2.heap.size W2 w9 := b8.trans (b9'.mono b8.size)))
  cases k5 : areOf x.stk (xc1Z p e nx x k)
  · go_wp2
    go_ret
    exact ⟨by unfold xceZ; rw [if_neg (by simpa using HC1.out), if_neg (by rw [K1.out, K2.out]; decide), if_neg (by rw [K3.out]; decide), if_neg (by rw [K4.out]; decide), if_pos k5]; rfl, xadZ b2 b9⟩
  · go_wp2
    go_ret
    exact ⟨by unfold xceZ; rw [if_neg (by simpa using HC1.out), if_neg (by rw [K1.out, K2.out]; decide), if_neg (by rw [K3.out]; decide), if_neg (by rw [K4.out]; decide), if_neg (by rw [k5]; decide)]; rfl, xadZ b2 b9⟩
end Go.Proofs.YtmjjkenblfndgaaGreat


/- A step of a right machine is a right machine: the ops that go on within their frame. -/
namespace Go.Proofs.YtmjjkenblfndgaaGreat
open Go.RowKit
set_option linter.unusedSimpArgs false
set_option linter.unusedVariables false
structure AtOp (p : List Fn) (e : Nat → Nat → Option (List Int)) (m : Mach) (x : Frm) (k : Nat) (f : Fn) (pc : Nat) (s out : List Int) (o : Int × Int) : Prop where
  right : RightM p e m
  run : m.status = 0
  last : m.frames.getLast? = some x
  frame : RightF p e m.blocks.length none x k f
  pcx : x.pc = (pc : Int)
  ent : e k pc = some s
  stk : areOf x.stk s = true
  op : f.2.2.2[pc]? = some o
  try_ : tryOp p f o s = some out
  on : ∀ to, goesOn f.2.2.2 pc to = true → to < f.2.2.2.length ∧ ∃ s', e k to = some s' ∧ leS out s' = true
  i32 : isI32 o.2 = true
theorem xf4Z (l : List Val) : cutV l 0 = l := by simp [cutV]
theorem AtOp.go {p : List Fn} {e : Nat → Nat → Option (List Int)} {m : Mach} {x : Frm} {k : Nat} {f : Fn} {pc : Nat} {s out : List Int} {o : Int × Int} (h : AtOp p e m x k f pc s out o) {t l : List Int} {res loc' : List Val} {B : List (List Int)} {I O : List Int} {to : Nat} {pc' : Int} (htl : xafZ p f o s = some (t, l)) (hto : goesOn f.2.2.2 pc to = true) (hpc : pc' = (to : Int)) (hres : areOf res l = true) (hok : ∀ v ∈ res, okV B.length v = true) (hloc : areOf loc' f.2.1 = true) (hokl : ∀ v ∈ loc', okV B.length v = true) (hB : blkErr B = 0) (hnb : m.blocks.length ≤ B.length) (hI : I.length ≤ 10 ∧ ∀ n ∈ I, isI32 n = true) (hO : O.length ≤ 10 ∧ ∀ n ∈ O, isI32 n = true) {st : List Val} (hst : st = cutV x.stk t.length ++ res) :
    RightM p e { m with frames := m.frames.dropLast ++ [{ x with pc := pc', loc := loc', stk := st }], blocks := B, inp := I, out := O } := by
  subst hst
  exact right_put (x' := { x with pc := pc', loc := loc', stk := cutV x.stk t.length ++ res }) h.right h.run h.last rfl hB hnb hI hO (plain_case h.frame hnb h.stk h.try_ htl (h.on to hto).2 hres hok hloc hokl hpc)
theorem AtOp.next {p : List Fn} {e : Nat → Nat → Option (List Int)} {m : Mach} {x : Frm} {k : Nat} {f : Fn} {pc : Nat} {s out : List Int} {o : Int × Int} (h : AtOp p e m x k f pc s out o) (h13 : o.1 ≠ 13) (h10 : o.1 ≠ 10) {t l : List Int} {res : List Val} {B : List (List Int)} {I O : List Int} (htl : xafZ p f o s = some (t, l)) (hres : areOf res l = true) (hok : ∀ v ∈ res, okV B.length v = true) (hB : blkErr B = 0) (hnb : m.blocks.length ≤ B.length) (hI : I.length ≤ 10 ∧ ∀ n ∈ I, isI32 n = true) (hO : O.length ≤ 10 ∧ ∀ n ∈ O, isI32 n = true) {st : List Val} (hst : st = cutV x.stk t.length ++ res) :
    RightM p e { onF m x st with blocks := B, inp := I, out := O } :=
  h.go htl (xdjZ h.op h13 h10) (by rw [h.pcx]; rfl) hres hok h.frame.loc (fun v hv => xh8Z hnb (h.frame.okl v hv)) hB hnb hI hO hst
theorem AtOp.plain {p : List Fn} {e : Nat → Nat → Option (List Int)} {m : Mach} {x : Frm} {k : Nat} {f : Fn} {pc : Nat} {s out : List Int} {o : Int × Int} (h : AtOp p e m x k f pc s out o) (h13 : o.1 ≠ 13) (h10 : o.1 ≠ 10) {t l : List Int} {res : List Val} (htl : xafZ p f o s = some (t, l)) (hres : areOf res l = true) (hok : ∀ v ∈ res, okV m.blocks.length v = true) {st : List Val} (hst : st = cutV x.stk t.length ++ res) : RightM p e (onF m x st) :=
  h.next h13 h10 htl hres hok h.right.blocks (Nat.le_refl _) h.right.inp h.right.out hst
section
variable {p : List Fn} {e : Nat → Nat → Option (List Int)} {m : Mach} {x : Frm} {k : Nat} {f : Fn} {pc : Nat} {s out : List Int} {o : Int × Int}
theorem op1 (h : AtOp p e m x k f pc s out o) (hc : o.1 = 1) : RightM p e (doOp p m x o) := by
  have hd : doOp p m x o = onF m x (x.stk ++ [(false, o.2)]) := by simp [doOp, hc]
  rw [hd]
  exact h.plain (by omega) (by omega) (t := []) (l := [1]) (res := [(false, o.2)]) (by simp [xafZ, hc, xasZ, xawZ]) (by simp [areOf, asT]) (by simpa using xgpZ h.i32) (by simp [xf4Z])
theorem op18 (h : AtOp p e m x k f pc s out o) (hc : o.1 = 18) : RightM p e (doOp p m x o) := by
  have hd : doOp p m x o = onF m x (x.stk ++ [(true, 0)]) := by simp [doOp, hc]
  rw [hd]
  exact h.plain (by omega) (by omega) (t := []) (l := [3]) (res := [(true, 0)]) (by simp [xafZ, hc, xasZ, xawZ]) (by simp [areOf, asT]) (by simpa using okV_ref (Int.le_refl 0) (by omega)) (by simp [xf4Z])
theorem op567 (h : AtOp p e m x k f pc s out o) (hc : o.1 = 5 ∨ o.1 = 6 ∨ o.1 = 7) : RightM p e (doOp p m x o) := by
  obtain ⟨n, hd⟩ : ∃ n, doOp p m x o = onF m x (cutV x.stk 2 ++ [(false, wrap32 n)]) := by
    rcases hc with hc | hc | hc
    · exact ⟨(topV x.stk 1).2 + (topV x.stk 0).2, by simp [doOp, hc]⟩
    · exact ⟨(topV x.stk 1).2 - (topV x.stk 0).2, by simp [doOp, hc]⟩
    · exact ⟨(topV x.stk 1).2 * (topV x.stk 0).2, by simp [doOp, hc]⟩
  rw [hd]
  exact h.plain (by omega) (by omega) (t := [1, 1]) (l := [1]) (res := [(false, wrap32 n)]) (by rcases hc with hc | hc | hc <;> simp [xafZ, hc, xasZ, xawZ]) (by simp [areOf, asT]) (by simpa using xgpZ (wrap_i32 n)) rfl
theorem op19 (h : AtOp p e m x k f pc s out o) (hc : o.1 = 19) : RightM p e (doOp p m x o) := by
  have hd : doOp p m x o = onF m x (cutV x.stk 1 ++ [(false, if (topV x.stk 0).2 = 0 then 1 else 0)]) := by simp [doOp, hc]
  rw [hd]
  exact h.plain (by omega) (by omega) (t := [2]) (l := [1]) (res := [(false, if (topV x.stk 0).2 = 0 then 1 else 0)]) (by simp [xafZ, hc, xasZ, xawZ]) (by simp [areOf, asT]) (by intro v hv; simp at hv; subst hv; apply xgpZ; split <;> rfl) rfl
theorem op21 (h : AtOp p e m x k f pc s out o) (hc : o.1 = 21) (hin : m.inp ≠ []) : RightM p e (doOp p m x o) := by
  have hd : doOp p m x o = { onF m x (x.stk ++ [(false, m.inp.headD 0)]) with inp := m.inp.tail } := by simp [doOp, hc, hin]
  rw [hd]
  have hI := h.right.inp
  have hh : isI32 (m.inp.headD 0) = true := by
    cases hi : m.inp with
    | nil => exact absurd hi hin
    | cons a r => exact hI.2 a (by rw [hi]; simp)
  exact h.next (by omega) (by omega) (t := []) (l := [1]) (res := [(false, m.inp.headD 0)]) (by simp [xafZ, hc, xasZ, xawZ]) (by simp [areOf, asT]) (by simpa using xgpZ hh) h.right.blocks (Nat.le_refl _) ⟨by simp; omega, fun n hn => hI.2 n (List.mem_of_mem_tail hn)⟩ h.right.out (by simp [xf4Z])
theorem op10 (h : AtOp p e m x k f pc s out o) (hc : o.1 = 10) (hbad : ∀ o ∈ f.2.2.2, badTo f.2.2.2.length o = false) : RightM p e (doOp p m x o) := by
  have hd : doOp p m x o = putF m { x with pc := o.2 } := by simp [doOp, hc]
  rw [hd]
  have hb := hbad o (List.mem_of_getElem? h.op)
  have h0 : 0 ≤ o.2 := by simp [badTo, hc] at hb; omega
  have hgo : goesOn f.2.2.2 pc o.2.toNat = true := by
    unfold goesOn
    rw [h.op]
    simp [hc]
    omega
  exact h.go (t := []) (l := []) (res := []) (by simp [xafZ, hc, xasZ, xawZ]) hgo (by omega) rfl (by simp) h.frame.loc h.frame.okl h.right.blocks (Nat.le_refl _) h.right.inp h.right.out (by simp [xf4Z])
theorem op11 (h : AtOp p e m x k f pc s out o) (hc : o.1 = 11) (hbad : ∀ o ∈ f.2.2.2, badTo f.2.2.2.length o = false) : RightM p e (doOp p m x o) := by
  have hd : doOp p m x o = putF m { x with pc := if (topV x.stk 0).2 = 0 then o.2 else x.pc + 1, stk := cutV x.stk 1 } := by simp [doOp, hc]
  rw [hd]
  have hb := hbad o (List.mem_of_getElem? h.op)
  have h0 : 0 ≤ o.2 := by simp [badTo, hc] at hb; omega
  have htl : xafZ p f o s = some ([1], []) := by simp [xafZ, hc, xasZ, xawZ]
  by_cases hz : (topV x.stk 0).2 = 0
  · rw [if_pos hz]
    have hgo : goesOn f.2.2.2 pc o.2.toNat = true := by
      unfold goesOn
      rw [h.op]
      simp [hc]
      omega
    exact h.go htl hgo (by omega) (res := []) rfl (by simp) h.frame.loc h.frame.okl h.right.blocks (Nat.le_refl _) h.right.inp h.right.out (by simp)
  · rw [if_neg hz]
    exact h.go htl (xdjZ h.op (by omega) (by omega)) (by rw [h.pcx]; rfl) (res := []) rfl (by simp) h.frame.loc h.frame.okl h.right.blocks (Nat.le_refl _) h.right.inp h.right.out (by simp)
theorem op20 (h : AtOp p e m x k f pc s out o) (hc : o.1 = 20) : RightM p e (doOp p m x o) := by
  have htl : xafZ p f o s = some ([1], []) := by simp [xafZ, hc, xasZ, xawZ]
  by_cases h10 : m.out.length = 10
  · have hd : doOp p m x o = trapM m 5 := by simp [doOp, hc, h10]
    rw [hd]
    exact xdaZ h.right h.run (by omega)
  · have hd : doOp p m x o = { onF m x (cutV x.stk 1) with out := m.out ++ [(topV x.stk 0).2] } := by simp [doOp, hc, h10]
    rw [hd]
    obtain ⟨h1, h2⟩ := xbiZ h.stk h.try_ htl
    obtain ⟨hm, u, hu, hv⟩ := xjuZ h2 h1 0 (by simp)
    simp at hu
    subst hu
    have hi : isI32 (topV x.stk 0).2 = true := by
      have := h.frame.oks _ hm
      rw [okV, if_neg (by simp [asT_int hv])] at this
      exact this
    have hO := h.right.out
    exact h.next (by omega) (by omega) htl (res := []) rfl (by simp) h.right.blocks (Nat.le_refl _) h.right.inp ⟨by simp; omega, fun n hn => by
      rcases List.mem_append.1 hn with hn | hn
      · exact hO.2 n hn
      · simp at hn; subst hn; exact hi⟩ (by simp)
end
end Go.Proofs.YtmjjkenblfndgaaGreat


/- A step of a right machine is a right machine: ops that turn what is on top, locals, blocks. -/
namespace Go.Proofs.YtmjjkenblfndgaaGreat
open Go.RowKit
set_option linter.unusedSimpArgs false
set_option linter.unusedVariables false
section
variable {p : List Fn} {e : Nat → Nat → Option (List Int)} {m : Mach} {x : Frm} {k : Nat} {f : Fn} {pc : Nat} {s out : List Int} {o : Int × Int}
theorem drop_one {l : List Val} (h : 1 ≤ l.length) : l.drop (l.length - 1) = [topV l 0] := by
  apply List.ext_getElem?
  intro i
  rw [List.getElem?_drop]
  cases i with
  | zero =>
    unfold topV
    rw [List.getD_eq_getElem?_getD, List.getElem?_eq_getElem (by omega)]
    simp [List.getElem?_eq_getElem (show l.length - 1 < l.length by omega)]
  | succ i => rw [List.getElem?_eq_none (by omega)]; simp
theorem drop_two {l : List Val} (h : 2 ≤ l.length) : l.drop (l.length - 2) = [topV l 1, topV l 0] := by
  apply List.ext_getElem?
  intro i
  rw [List.getElem?_drop]
  match i with
  | 0 =>
    unfold topV
    simp [List.getD_eq_getElem?_getD, List.getElem?_eq_getElem (show l.length - 2 < l.length by omega), List.getElem?_eq_getElem (show l.length - 1 - 1 < l.length by omega), show l.length - 1 - 1 = l.length - 2 by omega]
  | 1 =>
    unfold topV
    simp [List.getD_eq_getElem?_getD, List.getElem?_eq_getElem (show l.length - 1 < l.length by omega), show l.length - 2 + 1 = l.length - 1 by omega]
  | i + 2 => rw [List.getElem?_eq_none (by omega)]; simp
theorem xkoZ {l : List Val} {j : Nat} (h : j < l.length) : topV l j ∈ l := by
  unfold topV
  rw [List.getD_eq_getElem?_getD, List.getElem?_eq_getElem (show l.length - 1 - j < l.length by omega)]
  exact List.getElem_mem _
theorem op2 (h : AtOp p e m x k f pc s out o) (hc : o.1 = 2) : RightM p e (doOp p m x o) := by
  have hd : doOp p m x o = onF m x (cutV x.stk 1) := by simp [doOp, hc]
  rw [hd]
  have hn : ¬ s.length < 1 := fun hl => by have := h.try_; simp [tryOp, xafZ, hc, hl] at this
  exact h.plain (by omega) (by omega) (t := s.drop (s.length - 1)) (l := []) (res := []) (by unfold xafZ; rw [if_pos hc, if_neg hn]) rfl (by simp) (by simp; congr 1; omega)
theorem op3 (h : AtOp p e m x k f pc s out o) (hc : o.1 = 3) : RightM p e (doOp p m x o) := by
  have hd : doOp p m x o = onF m x (cutV x.stk 1 ++ [topV x.stk 0, topV x.stk 0]) := by simp [doOp, hc]
  rw [hd]
  have hn : ¬ s.length < 1 := fun hl => by have := h.try_; simp [tryOp, xafZ, hc, hl] at this
  have hl := xbaZ h.stk
  have ha := xfdZ (x.stk.length - 1) h.stk
  rw [drop_one (by omega), hl] at ha
  have hm := h.frame.oks _ (xkoZ (l := x.stk) (j := 0) (by omega))
  exact h.plain (by omega) (by omega) (t := s.drop (s.length - 1)) (l := s.drop (s.length - 1) ++ s.drop (s.length - 1)) (res := [topV x.stk 0, topV x.stk 0]) (by unfold xafZ; rw [if_neg (by omega), if_pos hc, if_neg hn]) (xdnZ ha ha) (by intro v hv; simp at hv; subst hv; exact hm) (by congr 2; simp; omega)
theorem op4 (h : AtOp p e m x k f pc s out o) (hc : o.1 = 4) : RightM p e (doOp p m x o) := by
  have hd : doOp p m x o = onF m x (cutV x.stk 2 ++ [topV x.stk 0, topV x.stk 1]) := by simp [doOp, hc]
  rw [hd]
  have hn : ¬ s.length < 2 := fun hl => by have := h.try_; simp [tryOp, xafZ, hc, hl] at this
  have hl := xbaZ h.stk
  have ha := xm6Z (xfdZ (x.stk.length - 2) h.stk)
  rw [drop_two (by omega), hl] at ha
  have h0 := h.frame.oks _ (xkoZ (l := x.stk) (j := 0) (by omega))
  have h1 := h.frame.oks _ (xkoZ (l := x.stk) (j := 1) (by omega))
  exact h.plain (by omega) (by omega) (t := s.drop (s.length - 2)) (l := (s.drop (s.length - 2)).reverse) (res := [topV x.stk 0, topV x.stk 1]) (by simp [xafZ, hc]; omega) ha (by intro v hv; simp at hv; rcases hv with rfl | rfl <;> assumption) (by congr 2; simp; omega)
theorem op8 (h : AtOp p e m x k f pc s out o) (hc : o.1 = 8) (ho : 0 ≤ o.2 ∧ o.2 < (f.2.1.length : Int)) (hty : ∀ t ∈ f.2.1, 1 ≤ t ∧ t ≤ 2) : RightM p e (doOp p m x o) := by
  have hd : doOp p m x o = onF m x (x.stk ++ [x.loc.getD o.2.toNat (false, 0)]) := by simp [doOp, hc]
  rw [hd]
  have hll := xbaZ h.frame.loc
  obtain ⟨t, ht⟩ := xaiZ (l := f.2.1) (k := o.2.toNat) (by omega)
  obtain ⟨v, hv⟩ := xaiZ (l := x.loc) (k := o.2.toNat) (by omega)
  have ha := xgqZ h.frame.loc _ _ _ hv ht
  have ht0 := hty t (List.mem_of_getElem? ht)
  rw [List.getD_eq_getElem?_getD, hv, Option.getD_some]
  exact h.plain (by omega) (by omega) (t := []) (l := [t]) (res := [v]) (by simp [xafZ, hc, xasZ, xawZ, List.getD_eq_getElem?_getD, ht]) (by simp [areOf, ha]) (by intro u hu; simp at hu; subst hu; exact h.frame.okl _ (List.mem_of_getElem? hv)) (by simp [xf4Z])
theorem op9 (h : AtOp p e m x k f pc s out o) (hc : o.1 = 9) (ho : 0 ≤ o.2 ∧ o.2 < (f.2.1.length : Int)) (hty : ∀ t ∈ f.2.1, 1 ≤ t ∧ t ≤ 2) : RightM p e (doOp p m x o) := by
  have hd : doOp p m x o = putF m { x with pc := x.pc + 1, loc := x.loc.set o.2.toNat (topV x.stk 0), stk := cutV x.stk 1 } := by simp [doOp, hc]
  rw [hd]
  obtain ⟨t, ht⟩ := xaiZ (l := f.2.1) (k := o.2.toNat) (by omega)
  have htl : xafZ p f o s = some ([t], []) := by simp [xafZ, hc, xasZ, xawZ, List.getD_eq_getElem?_getD, ht]
  obtain ⟨h1, h2⟩ := xbiZ h.stk h.try_ htl
  obtain ⟨hm, u, hu, hv⟩ := xjuZ h2 h1 0 (by simp)
  simp at hu
  subst hu
  refine h.go htl (xdjZ h.op (by omega) (by omega)) (by rw [h.pcx]; rfl) (res := []) rfl (by simp) (xl7Z h.frame.loc _ _ _ ht hv) (fun w hw => ?_) h.right.blocks (Nat.le_refl _) h.right.inp h.right.out (by simp)
  rcases List.mem_or_eq_of_mem_set hw with hw | hw
  · exact h.frame.okl w hw
  · subst hw; exact h.frame.oks _ hm
theorem num_at (h : AtOp p e m x k f pc s out o) {t l : List Int} (htl : xafZ p f o s = some (t, l)) (j : Nat) (hj : j < t.length) (h1 : t[t.length - 1 - j]? = some 1) : isI32 (topV x.stk j).2 = true := by
  obtain ⟨a, b⟩ := xbiZ h.stk h.try_ htl
  obtain ⟨hm, u, hu, hv⟩ := xjuZ b a j hj
  rw [h1] at hu
  cases hu
  have := h.frame.oks _ hm
  rw [okV, if_neg (by simp [asT_int hv])] at this
  exact this
theorem ref_at (h : AtOp p e m x k f pc s out o) {t l : List Int} (htl : xafZ p f o s = some (t, l)) (j : Nat) (hj : j < t.length) (h1 : t[t.length - 1 - j]? = some 2) : 0 ≤ (topV x.stk j).2 ∧ (topV x.stk j).2 ≤ (m.blocks.length : Int) := by
  obtain ⟨a, b⟩ := xbiZ h.stk h.try_ htl
  obtain ⟨hm, u, hu, hv⟩ := xjuZ b a j hj
  rw [h1] at hu
  cases hu
  have := h.frame.oks _ hm
  rw [okV, if_pos (asT_ref hv)] at this
  simpa using this
theorem op17 (h : AtOp p e m x k f pc s out o) (hc : o.1 = 17) : RightM p e (doOp p m x o) := by
  have htl : xafZ p f o s = some ([2], [1]) := by simp [xafZ, hc, xasZ, xawZ]
  have hr := ref_at h htl 0 (by simp) rfl
  by_cases hz : (topV x.stk 0).2 = 0
  · have hd : doOp p m x o = trapM m 1 := by simp [doOp, hc, hz]
    rw [hd]
    exact xdaZ h.right h.run (by omega)
  · have hd : doOp p m x o = onF m x (cutV x.stk 1 ++ [(false, ((blkAt m.blocks (topV x.stk 0).2).length : Int))]) := by simp [doOp, hc, hz]
    rw [hd]
    obtain ⟨b, hb⟩ := xaiZ (l := m.blocks) (k := ((topV x.stk 0).2 - 1).toNat) (by omega)
    have hbl : (blkAt m.blocks (topV x.stk 0).2).length ≤ 40 := by
      rw [xd2Z hb (by omega)]
      have := xfeZ hb
      have := (xb9Z h.right.blocks).2.1
      omega
    exact h.plain (by omega) (by omega) htl (res := [(false, ((blkAt m.blocks (topV x.stk 0).2).length : Int))]) (by simp [areOf, asT]) (by intro v hv; simp at hv; subst hv; apply xgpZ; simp [isI32]; omega) rfl
theorem op15 (h : AtOp p e m x k f pc s out o) (hc : o.1 = 15) : RightM p e (doOp p m x o) := by
  have htl : xafZ p f o s = some ([2, 1], [1]) := by simp [xafZ, hc, xasZ, xawZ]
  by_cases h5 : xa2Z m.blocks (topV x.stk 1).2 (topV x.stk 0).2 = 5
  · have hd : doOp p m x o = trapM m 1 := by simp [doOp, hc, h5]
    rw [hd]
    exact xdaZ h.right h.run (by omega)
  · by_cases h0 : xa2Z m.blocks (topV x.stk 1).2 (topV x.stk 0).2 = 0
    · have hd : doOp p m x o = onF m x (cutV x.stk 2 ++ [(false, getL m.blocks (topV x.stk 1).2 (topV x.stk 0).2)]) := by simp [doOp, hc, h0]
      rw [hd]
      have hi : isI32 (getL m.blocks (topV x.stk 1).2 (topV x.stk 0).2) = true := by
        unfold getL blkAt
        cases hb : m.blocks[((topV x.stk 1).2 - 1).toNat]? with
        | none => simp [isI32]
        | some b =>
          simp only [Option.getD_some]
          cases hn : b[(topV x.stk 0).2.toNat]? with
          | none => rfl
          | some n => exact (xb9Z h.right.blocks).2.2 b (List.mem_of_getElem? hb) n (List.mem_of_getElem? hn)
      exact h.plain (by omega) (by omega) htl (res := [(false, getL m.blocks (topV x.stk 1).2 (topV x.stk 0).2)]) (by simp [areOf, asT]) (by simpa using xgpZ hi) rfl
    · have hd : doOp p m x o = trapM m 2 := by simp [doOp, hc, h5, h0]
      rw [hd]
      exact xdaZ h.right h.run (by omega)
end
end Go.Proofs.YtmjjkenblfndgaaGreat


/- A step of a right machine is a right machine: blocks that are made and set, calls and returns; all ops. -/
namespace Go.Proofs.YtmjjkenblfndgaaGreat
open Go.RowKit
set_option linter.unusedSimpArgs false
set_option linter.unusedVariables false
section
variable {p : List Fn} {e : Nat → Nat → Option (List Int)} {m : Mach} {x : Frm} {k : Nat} {f : Fn} {pc : Nat} {s out : List Int} {o : Int × Int}
theorem xo1Z {L : List (List Int)} {n : Int} (h : xbwZ L n = 0) : blkErr L = 0 ∧ 0 ≤ n ∧ L.length ≠ 8 ∧ n ≤ 40 - (xa0Z L : Int) := by
  unfold xbwZ at h
  by_cases h1 : blkErr L ≠ 0
  · rw [if_pos h1] at h; exact absurd h h1
  rw [if_neg h1] at h
  by_cases h2 : n < 0
  · rw [if_pos h2] at h; cases h
  rw [if_neg h2] at h
  by_cases h3 : L.length = 8 ∨ 40 - (xa0Z L : Int) < n
  · rw [if_pos h3] at h; cases h
  · exact ⟨by simpa using h1, by omega, by omega, by omega⟩
theorem op14 (h : AtOp p e m x k f pc s out o) (hc : o.1 = 14) : RightM p e (doOp p m x o) := by
  have htl : xafZ p f o s = some ([1], [2]) := by simp [xafZ, hc, xasZ, xawZ]
  by_cases h0 : xbwZ m.blocks (topV x.stk 0).2 = 0
  · have hd : doOp p m x o = { onF m x (cutV x.stk 1 ++ [(true, (m.blocks.length : Int) + 1)]) with blocks := newL m.blocks (topV x.stk 0).2 } := by simp [doOp, hc, h0]
    rw [hd]
    obtain ⟨h1, h2, h3, h4⟩ := xo1Z h0
    obtain ⟨b1, b2, b3⟩ := xb9Z h1
    have hlen : (newL m.blocks (topV x.stk 0).2).length = m.blocks.length + 1 := by simp [newL]
    refine h.next (by omega) (by omega) htl (res := [(true, (m.blocks.length : Int) + 1)]) (by simp [areOf, asT]) (by intro v hv; simp at hv; subst hv; exact okV_ref (by omega) (by rw [hlen]; omega)) (xl9Z (by omega) ?_ ?_) (by omega) h.right.inp h.right.out rfl
    · unfold newL
      rw [xgcZ]
      simp [xa0Z]
      simp [xa0Z] at h4
      omega
    · intro b hb n hn
      rcases List.mem_append.1 hb with hb | hb
      · exact b3 b hb n hn
      · simp at hb
        subst hb
        rw [List.mem_replicate] at hn
        rw [hn.2]; rfl
  · have hd : doOp p m x o = trapM m 3 := by simp [doOp, hc, h0]
    rw [hd]
    exact xdaZ h.right h.run (by omega)
theorem sum_set : ∀ (L : List (List Int)) (k : Nat) (b c : List Int), L[k]? = some b → c.length = b.length → xa0Z (L.set k c) = xa0Z L
  | [], k, b, c, h, _ => by simp at h
  | a :: r, 0, b, c, h, hl => by simp at h; subst h; simp [xa0Z, hl]
  | a :: r, k + 1, b, c, h, hl => by
    have := sum_set r k b c (by simpa using h) hl
    simp [xa0Z] at this ⊢
    exact this
theorem xo6Z {L : List (List Int)} {r a n : Int} (h : xbuZ L r a n = 0) : blkErr L = 0 ∧ r ≠ 0 ∧ 0 ≤ r ∧ r ≤ (L.length : Int) ∧ isI32 n = true := by
  unfold xbuZ at h
  by_cases h1 : xa2Z L r a ≠ 0
  · rw [if_pos h1] at h; exact absurd h h1
  rw [if_neg h1] at h
  have hn : isI32 n = true := by
    by_cases hn : isI32 n = true
    · exact hn
    · rw [if_neg hn] at h; cases h
  simp only [ne_eq, Decidable.not_not] at h1
  unfold xa2Z at h1
  by_cases h2 : blkErr L ≠ 0
  · rw [if_pos h2] at h1; exact absurd h1 h2
  rw [if_neg h2] at h1
  by_cases h3 : r = 0
  · rw [if_pos h3] at h1; cases h1
  rw [if_neg h3] at h1
  by_cases h4 : r < 0 ∨ (L.length : Int) < r ∨ a < 0 ∨ ((blkAt L r).length : Int) ≤ a
  · rw [if_pos h4] at h1; cases h1
  · exact ⟨by simpa using h2, h3, by omega, by omega, hn⟩
theorem op16 (h : AtOp p e m x k f pc s out o) (hc : o.1 = 16) : RightM p e (doOp p m x o) := by
  have htl : xafZ p f o s = some ([2, 1, 1], []) := by simp [xafZ, hc, xasZ, xawZ]
  by_cases h5 : xbuZ m.blocks (topV x.stk 2).2 (topV x.stk 1).2 (topV x.stk 0).2 = 5
  · have hd : doOp p m x o = trapM m 1 := by simp [doOp, hc, h5]
    rw [hd]
    exact xdaZ h.right h.run (by omega)
  · by_cases h0 : xbuZ m.blocks (topV x.stk 2).2 (topV x.stk 1).2 (topV x.stk 0).2 = 0
    · have hd : doOp p m x o = { onF m x (cutV x.stk 3) with blocks := setL m.blocks (topV x.stk 2).2 (topV x.stk 1).2 (topV x.stk 0).2 } := by simp [doOp, hc, h0]
      rw [hd]
      obtain ⟨h1, h2, h3, h4, h6⟩ := xo6Z h0
      obtain ⟨b1, b2, b3⟩ := xb9Z h1
      obtain ⟨b, hb⟩ := xaiZ (l := m.blocks) (k := ((topV x.stk 2).2 - 1).toNat) (by omega)
      have hba := xd2Z hb (ref := (topV x.stk 2).2) (by omega)
      have hlen : (setL m.blocks (topV x.stk 2).2 (topV x.stk 1).2 (topV x.stk 0).2).length = m.blocks.length := by simp [setL]
      refine h.next (by omega) (by omega) htl (res := []) rfl (by simp) (xl9Z (by omega) ?_ ?_) (by omega) h.right.inp h.right.out (by simp)
      · unfold setL
        rw [sum_set _ _ b _ hb (by rw [hba]; simp)]
        exact b2
      · intro c hcm n hn
        rcases List.mem_or_eq_of_mem_set hcm with hcm | hcm
        · exact b3 c hcm n hn
        · subst hcm
          rw [hba] at hn
          rcases List.mem_or_eq_of_mem_set hn with hn | hn
          · exact b3 b (List.mem_of_getElem? hb) n hn
          · subst hn; exact h6
    · have hd : doOp p m x o = trapM m 2 := by simp [doOp, hc, h5, h0]
      rw [hd]
      exact xdaZ h.right h.run (by omega)
end
end Go.Proofs.YtmjjkenblfndgaaGreat


