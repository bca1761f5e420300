/- My texts Nc Ng Nh Ne Nf Xb Xd Xe: what of them is needed, joined. -/
import Derived.ProofKit
import Derived.OpenShut
import Derived.ShutString
import Derived.ChangeOld
import Derived.SizedLaws
import Derived.Deep.SlicePairs
import Derived.Lib.SmallJoins
import Derived.BigQuiet
import Derived.Test.YtmjjkenblfndgaaGreatE4
import Derived.Test.YtmjjkenblfndgaaGreatE7
import Derived.Test.YtmjjkenblfndgaaGreatE9
import Derived.Test.YtmjjkenblfndgaaGreatE14
import Derived.Test.YtmjjkenblfndgaaGreatE15
import Derived.Test.YtmjjkenblfndgaaGreatE16
set_option maxRecDepth 100000
set_option maxHeartbeats 8000000
/- machine's checker: what is to be on a frame's stack. -/
namespace Go.Proofs.YtmjjkenblfndgaaGreat
open Go.RowKit
set_option linter.unusedSimpArgs false
set_option linter.unusedVariables false
theorem ents_ix {p : List Fn} {f : Fn} {e : Nat → Option (List Int)} {l : List (Nat × List Int)} (h : EntsOk p f e l) {pc : Nat} {s : List Int} (hs : e pc = some s) : ∃ k : Nat, entIx l (pc : Int) = (k : Int) ∧ l[k]? = some (pc, s) := by
  obtain ⟨j, hj⟩ := h.all pc s hs
  rcases xfzZ l (pc : Int) with ⟨h1, h2⟩ | ⟨k, z, h1, h2, h3⟩
  · exact absurd rfl (h2 _ (List.mem_of_getElem? hj))
  · obtain ⟨a, b⟩ := z
    have e1 : a = pc := by have h4 : (a : Int) = (pc : Int) := h3; omega
    subst e1
    have := (h.on k a b h2).1
    rw [hs] at this
    cases this
    exact ⟨k, h1, h2⟩
theorem xliZ {W : World} {p : Option Addr} {n c : Nat} {s : List Int} (h : FullInts W (.slice p (n + 1) c) s) : FullInts W (.slice p n c) s.dropLast := by
  obtain ⟨q, c', hv, hm, hc⟩ := h.at_
  injection hv with e1 e2 e3
  subst e1
  have hl : s.dropLast.length = n := by rw [List.length_dropLast]; omega
  refine ⟨⟨p, c, by rw [hl], by omega, fun k z hk => ?_⟩, fun n' c' e => ?_, fun p' n' c' e => ?_⟩
  · rw [List.getElem?_dropLast] at hk
    split at hk
    · exact hc k z hk
    · cases hk
  · cases e
    exact h.nil (n + 1) c rfl
  · cases e
    have := h.cap _ _ _ rfl
    omega
/-- the entry's stack, of the innermost frame. -/
theorem stack_last (M : Mach) (p : List Fn) (e : Nat → Nat → Option (List Int)) (pv fv bv iv ov lv : Value) (l : List (Nat × List Int)) (i k pc : Nat) (s : List Int) (x : Frm) (f : Fn) (w : World) (h : CkAt w p pv fv bv iv ov M) (hx : M.frames[i]? = some x) (hi : i + 1 = M.frames.length) (hl : EntsRd w lv l) (ho : EntsOk p f (e k) l) (hpc : x.pc = (pc : Int)) (hs : e k pc = some s) (h6 : M.frames.length ≤ 1000) : Calls Tryz.prog 183 #[chkV pv fv bv iv ov M, .int .i64 i, lv] w fun e' w' => ∃ u, e' = .returned u ∧ FullInts w' u s ∧ Below w.heap.size w w' := by
  obtain ⟨⟨pp, qp, hpv⟩, -, ⟨pb, cb, hbv⟩, ⟨pi, ci, hiv⟩, ⟨po, co, hov⟩⟩ := h.shp
  obtain ⟨pf, cf, hfv, hfm, -, hfc⟩ := id h.mach.fr
  obtain ⟨k2, hix, hlk⟩ := ents_ix ho hs
  obtain ⟨pl, cl, hlv, hlm, hlc⟩ := id hl
  unfold maxLen at hlm
  subst hpv hfv hbv hiv hov hlv
  obtain ⟨g, off, lv1, sv1, rfl, hg, x0, x1, x2, x3, -, -, -, -⟩ := hfc i x hx
  obtain ⟨gb, go, u, rfl, hgl, e0, e1, hu⟩ := hlc k2 pc s hlk
  obtain ⟨pu, cu, hus, hcu⟩ := hu.shp
  have hil := xadZ hx
  have hk2l := xadZ hlk
  have hiin : ¬ ((i : Int) < (M.frames.length : Int) - 1) := by omega
  have hii : decide ((i : Int) < (M.frames.length : Int) - 1) = false := by simpa using hiin
  have hili : (i : Int) < (M.frames.length : Int) := by omega
  have hk2i : (k2 : Int) < (l.length : Int) := by omega
  have hb1 : ∀ o, Below w.heap.size w (w.alloc o) := fun o => (Below.refl _ w).alloc (Nat.le_refl _) _
  have x1a := fun o => xabZ x1 o
  rw [hpc] at x1a
  have HE : Hid (∀ W, Below w.heap.size w W → Calls Tryz.prog 224 #[.slice (some ⟨gb, go, none⟩) l.length cl, .int .i64 (pc : Int)] W fun e w' => e = .returned (.int .i64 (k2 : Int)) ∧ Below W.heap.size W w') := fun W hW => by
    rw [← hix]; exact xehZ l _ _ W (hl.below hW)
  subst hus
  have HU := hideP hu
  have HPC := hideP hpc
  clear h hx hl ho hfc hlc hix hlk hu hs hpc x0 x1 x2 x3 hi
  go_enter Tryz.func183, Tryz.ntmps183
  go_wp2_with (go_at_call 224; refine (HE.out _ (hb1 _)).mono ?_; rintro e' w2 ⟨rfl, b2⟩; have bb2 := xaeZ (hb1 _) b2; have m1 := (bb2.cell (p := ⟨gb, go + k2 * 2 + 1, none⟩) hgl).trans e1; have m0 := (b2.cell (p := ⟨w.heap.size, 0, none⟩) (by simp)).trans (xaaZ (World.alloc_heap_new w _) 0); simp at m0)
  go_quiet (fail)
  go_wp2
  go_ret
  exact ⟨_, rfl, HU.out.below (below_drewN bb2 _), below_drewN bb2 _⟩
/-- the entry's stack, of a frame that has called one without a result. -/
theorem stack_mid0 (M : Mach) (p : List Fn) (e : Nat → Nat → Option (List Int)) (pv fv bv iv ov lv : Value) (l : List (Nat × List Int)) (i k pc j : Nat) (s : List Int) (x y : Frm) (f hh : Fn) (w : World) (h : CkAt w p pv fv bv iv ov M) (hx : M.frames[i]? = some x) (hy : M.frames[i + 1]? = some y) (hj : y.fn = (j : Int)) (hhj : p[j]? = some hh) (hr : hh.2.2.1 = 0) (hl : EntsRd w lv l) (ho : EntsOk p f (e k) l) (hpc : x.pc = (pc : Int)) (hs : e k pc = some s) (h6 : M.frames.length ≤ 1000) (hpl : p.length ≤ 1000) : Calls Tryz.prog 183 #[chkV pv fv bv iv ov M, .int .i64 i, lv] w fun e' w' => ∃ u, e' = .returned u ∧ FullInts w' u s ∧ Below w.heap.size w w' := by
  obtain ⟨⟨pp, qp, hpv⟩, -, ⟨pb, cb, hbv⟩, ⟨pi, ci, hiv⟩, ⟨po, co, hov⟩⟩ := h.shp
  obtain ⟨pf, cf, hfv, hfm, -, hfc⟩ := id h.mach.fr
  obtain ⟨k2, hix, hlk⟩ := ents_ix ho hs
  obtain ⟨pl, cl, hlv, hlm, hlc⟩ := id hl
  unfold maxLen at hlm
  subst hpv hfv hbv hiv hov hlv
  obtain ⟨g, off, lv1, sv1, rfl, hg, x0, x1, x2, x3, -, -, -, -⟩ := hfc i x hx
  obtain ⟨g', off', lv2, sv2, he', hg', y0, -, -, -, -⟩ := hfc (i + 1) y hy
  cases he'
  rw [hj] at y0
  obtain ⟨pp', qp', hpe, -, hpc'⟩ := id h.fns
  cases hpe
  obtain ⟨fb, fo, c0, c1, c2, c3, hpp, hplt, -, -, z2, -, hfn⟩ := hpc' j hh hhj
  subst hpp
  have hz2 := hfn.2.2.1
  rw [hr] at hz2
  subst hz2
  have hjl := xadZ hhj
  have hjli : (j : Int) < (p.length : Int) := by omega
  obtain ⟨gb, go, u, rfl, hgl, e0, e1, hu⟩ := hlc k2 pc s hlk
  obtain ⟨pu, cu, hus, hcu⟩ := hu.shp
  have hil := xadZ hy
  have hk2l := xadZ hlk
  have hiin : (i : Int) < (M.frames.length : Int) - 1 := by omega
  have hii : decide ((i : Int) < (M.frames.length : Int) - 1) = true := by simpa using hiin
  have hili : (i : Int) < (M.frames.length : Int) := by omega
  have hili2 : (i : Int) + 1 < (M.frames.length : Int) := by omega
  have hwi : IntKind.i64.wrap ((i : Int) + 1) = (i : Int) + 1 := by rw [IntKind.wrap_i64]; omega
  have hti : ((i : Int) + 1).toNat = i + 1 := by omega
  have hk2i : (k2 : Int) < (l.length : Int) := by omega
  have hb1 : ∀ o, Below w.heap.size w (w.alloc o) := fun o => (Below.refl _ w).alloc (Nat.le_refl _) _
  have x1a := fun o => xabZ x1 o
  rw [hpc] at x1a
  have HE : Hid (∀ W, Below w.heap.size w W → Calls Tryz.prog 224 #[.slice (some ⟨gb, go, none⟩) l.length cl, .int .i64 (pc : Int)] W fun e w' => e = .returned (.int .i64 (k2 : Int)) ∧ Below W.heap.size W w') := fun W hW => by
    rw [← hix]; exact xehZ l _ _ W (hl.below hW)
  subst hus
  have HU := hideP hu
  have HPC := hideP hpc
  clear h hx hy hl ho hfc hlc hix hlk hu hs hpc hpc' hfn x0 x1 x2 x3 hhj hj
  go_enter Tryz.func183, Tryz.ntmps183
  go_wp2_with (go_at_call 224; refine (HE.out _ (hb1 _)).mono ?_; rintro e' w2 ⟨rfl, b2⟩; have bb2 := xaeZ (hb1 _) b2; have m1 := (bb2.cell (p := ⟨gb, go + k2 * 2 + 1, none⟩) hgl).trans e1; have m0 := (b2.cell (p := ⟨w.heap.size, 0, none⟩) (by simp)).trans (xaaZ (World.alloc_heap_new w _) 0); have m6 := (b2.cell (p := ⟨w.heap.size, 6, none⟩) (by simp)).trans (xaaZ (World.alloc_heap_new w _) 6); simp at m0 m6; have my := (bb2.cell (p := ⟨g, off + (i + 1) * 4, none⟩) hg').trans y0; have mz := (bb2.cell (p := ⟨fb, fo + j * 4 + 2, none⟩) hplt).trans z2)
  go_quiet (fail)
  go_wp2
  go_ret
  exact ⟨_, rfl, HU.out.below (below_drewN bb2 _), below_drewN bb2 _⟩
/-- the entry's stack but the result, of a frame that has called one with a result. -/
theorem stack_mid1 (M : Mach) (p : List Fn) (e : Nat → Nat → Option (List Int)) (pv fv bv iv ov lv : Value) (l : List (Nat × List Int)) (i k pc j n : Nat) (s : List Int) (x y : Frm) (f hh : Fn) (w : World) (h : CkAt w p pv fv bv iv ov M) (hx : M.frames[i]? = some x) (hy : M.frames[i + 1]? = some y) (hj : y.fn = (j : Int)) (hhj : p[j]? = some hh) (hr : hh.2.2.1 ≠ 0) (hl : EntsRd w lv l) (ho : EntsOk p f (e k) l) (hpc : x.pc = (pc : Int)) (hs : e k pc = some s) (hsn : s.length = n + 1) (h6 : M.frames.length ≤ 1000) (hpl : p.length ≤ 1000) : Calls Tryz.prog 183 #[chkV pv fv bv iv ov M, .int .i64 i, lv] w fun e' w' => ∃ u, e' = .returned u ∧ FullInts w' u s.dropLast ∧ Below w.heap.size w w' := by
  obtain ⟨⟨pp, qp, hpv⟩, -, ⟨pb, cb, hbv⟩, ⟨pi, ci, hiv⟩, ⟨po, co, hov⟩⟩ := h.shp
  obtain ⟨pf, cf, hfv, hfm, -, hfc⟩ := id h.mach.fr
  obtain ⟨k2, hix, hlk⟩ := ents_ix ho hs
  obtain ⟨pl, cl, hlv, hlm, hlc⟩ := id hl
  unfold maxLen at hlm
  subst hpv hfv hbv hiv hov hlv
  obtain ⟨g, off, lv1, sv1, rfl, hg, x0, x1, x2, x3, -, -, -, -⟩ := hfc i x hx
  obtain ⟨g', off', lv2, sv2, he', hg', y0, -, -, -, -⟩ := hfc (i + 1) y hy
  cases he'
  rw [hj] at y0
  obtain ⟨pp', qp', hpe, -, hpc'⟩ := id h.fns
  cases hpe
  obtain ⟨fb, fo, c0, c1, c2, c3, hpp, hplt, -, -, z2, -, hfn⟩ := hpc' j hh hhj
  subst hpp
  have hz2 := hfn.2.2.1
  subst hz2
  have hrb : (hh.2.2.1 != 0) = true := by simpa using hr
  have hjl := xadZ hhj
  have hjli : (j : Int) < (p.length : Int) := by omega
  obtain ⟨gb, go, u, rfl, hgl, e0, e1, hu⟩ := hlc k2 pc s hlk
  obtain ⟨pu, cu, hus, hcu⟩ := hu.shp
  rw [hsn] at hus hcu
  have hn8 : n ≤ 7 := by have h8 := (ho.on k2 pc s hlk).2.1; rw [hsn] at h8; omega
  have hil := xadZ hy
  have hk2l := xadZ hlk
  have hiin : (i : Int) < (M.frames.length : Int) - 1 := by omega
  have hii : decide ((i : Int) < (M.frames.length : Int) - 1) = true := by simpa using hiin
  have hili : (i : Int) < (M.frames.length : Int) := by omega
  have hili2 : (i : Int) + 1 < (M.frames.length : Int) := by omega
  have hwi : IntKind.i64.wrap ((i : Int) + 1) = (i : Int) + 1 := by rw [IntKind.wrap_i64]; omega
  have hti : ((i : Int) + 1).toNat = i + 1 := by omega
  have hk2i : (k2 : Int) < (l.length : Int) := by omega
  have hb1 : ∀ o, Below w.heap.size w (w.alloc o) := fun o => (Below.refl _ w).alloc (Nat.le_refl _) _
  have x1a := fun o => xabZ x1 o
  rw [hpc] at x1a
  have HE : Hid (∀ W, Below w.heap.size w W → Calls Tryz.prog 224 #[.slice (some ⟨gb, go, none⟩) l.length cl, .int .i64 (pc : Int)] W fun e w' => e = .returned (.int .i64 (k2 : Int)) ∧ Below W.heap.size W w') := fun W hW => by
    rw [← hix]; exact xehZ l _ _ W (hl.below hW)
  subst hus
  have HU := hideP hu
  have HPC := hideP hpc
  clear h hx hy hl ho hfc hlc hix hlk hu hs hpc hpc' hfn x0 x1 x2 x3 hhj hj hr hsn
  go_enter Tryz.func183, Tryz.ntmps183
  go_wp2_with (go_at_call 224; refine (HE.out _ (hb1 _)).mono ?_; rintro e' w2 ⟨rfl, b2⟩; have bb2 := xaeZ (hb1 _) b2; have m1 := (bb2.cell (p := ⟨gb, go + k2 * 2 + 1, none⟩) hgl).trans e1; have m0 := (b2.cell (p := ⟨w.heap.size, 0, none⟩) (by simp)).trans (xaaZ (World.alloc_heap_new w _) 0); have m6 := (b2.cell (p := ⟨w.heap.size, 6, none⟩) (by simp)).trans (xaaZ (World.alloc_heap_new w _) 6); simp at m0 m6; have my := (bb2.cell (p := ⟨g, off + (i + 1) * 4, none⟩) hg').trans y0; have mz := (bb2.cell (p := ⟨fb, fo + j * 4 + 2, none⟩) hplt).trans z2)
  go_quiet (fail)
  go_wp2
  go_ret
  exact ⟨_, rfl, (xliZ HU.out).below (below_drewN bb2 _), below_drewN bb2 _⟩
end Go.Proofs.YtmjjkenblfndgaaGreat


/- machine's checker: whether a frame fits. -/
namespace Go.Proofs.YtmjjkenblfndgaaGreat
open Go.RowKit
set_option linter.unusedSimpArgs false
set_option linter.unusedVariables false
theorem vFunc_fit (p : List Fn) (e : Nat → Nat → Option (List Int)) (hp : xanZ p = 0) (he : xaxZ p e) (k : Nat) (f : Fn) (hf : p[k]? = some f) (pv : Value) (w : World) (hA : FnsAt w pv p) (hC : CapAt w pv) : Calls Tryz.prog 82 #[.agg #[pv], .int .i64 (k : Int)] w fun e' w' => ∃ lv, e' = .returned (.tuple #[lv, .int .i64 0]) ∧ EntsRd w' lv (xdtZ f.2.2.2 (e k)) ∧ Below w.heap.size w w' := by
  refine (xmsZ p (k : Int) pv w hA hC).mono ?_
  rintro e' w' ⟨v, er, l, rfl, hi, ho, hb⟩
  rcases hi with ⟨a1, _⟩ | ⟨_, a2, _⟩ | ⟨_, n, g, r, hn, hg, hl, h3⟩
  · exact absurd hp a1
  · have := xadZ hf; omega
  · have e1 : n = k := by omega
    subst e1
    rw [hf] at hg
    cases hg
    have e2 := xmbZ hl (he n f hf)
    subst e2
    rcases h3 with ⟨h4, _⟩ | ⟨e3, h4, h5, h6⟩
    · cases h4
    · cases h4
      subst h5 h6
      exact ⟨v, rfl, entsRd_own ho, hb⟩
theorem progFn {p : List Fn} {x : Frm} (h : xb0Z p x = true) : ∃ (k : Nat) (f : Fn), x.fn = (k : Int) ∧ p[k]? = some f := by
  simp only [xb0Z, Bool.and_eq_true, decide_eq_true_eq] at h
  obtain ⟨f, hf⟩ := xagZ (l := p) (k := x.fn.toNat) (by omega)
  exact ⟨x.fn.toNat, f, by omega, hf⟩
theorem xgpZ {p : List Fn} {e : Nat → Nat → Option (List Int)} (hp : xanZ p = 0) (he : xaxZ p e) {k : Nat} {f : Fn} (hf : p[k]? = some f) : EntsOk p f (e k) (xdtZ f.2.2.2 (e k)) ∧ f.2.2.2.length ≤ 1000 := by
  have hfl := (okFn hp (List.mem_of_getElem? hf)).flow
  refine ⟨entsOk hfl (he k f hf), ?_⟩
  have := xdlZ hfl
  omega
theorem xhpZ {p : List Fn} (hp : xanZ p = 0) : p.length ≤ 5 := (xe1Z hp).2.1
theorem placed_any (M : Mach) (p : List Fn) (e : Nat → Nat → Option (List Int)) (pv fv bv iv ov lv : Value) (i k : Nat) (x : Frm) (f : Fn) (w : World) (hp : xanZ p = 0) (he : xaxZ p e) (h : CkAt w p pv fv bv iv ov M) (hx : M.frames[i]? = some x) (hf : p[k]? = some f) (hk : x.fn = (k : Int)) (hl : EntsRd w lv (xdtZ f.2.2.2 (e k))) (h6 : M.frames.length ≤ 6) (hp1 : -9223372036854775808 ≤ x.pc) (hp2 : x.pc ≤ 9223372036854775807) : Calls Tryz.prog 182 #[chkV pv fv bv iv ov M, .int .i64 i, lv] w fun e' w' => e' = .returned (.bool (xb5Z e ((M.frames[i + 1]?).map Frm.fn) x k f)) ∧ Below w.heap.size w w' := by
  obtain ⟨ho, hcl⟩ := xgpZ hp he hf
  have hpl := xhpZ hp
  have hil := xadZ hx
  cases hy : M.frames[i + 1]? with
  | none =>
    have := List.getElem?_eq_none_iff.1 hy
    exact xp2Z M p e pv fv bv iv ov lv _ i k x f w h hx (by omega) hf hl ho
  | some y => exact placed_mid M p e pv fv bv iv ov lv _ i k x y f w h hx hy hf hk hl ho hcl (by omega) (by omega) hp1 hp2
theorem stack_any (M : Mach) (p : List Fn) (e : Nat → Nat → Option (List Int)) (pv fv bv iv ov lv : Value) (i k : Nat) (x : Frm) (f : Fn) (w : World) (hp : xanZ p = 0) (he : xaxZ p e) (h : CkAt w p pv fv bv iv ov M) (hall : M.frames.all (xb0Z p) = true) (hx : M.frames[i]? = some x) (hf : p[k]? = some f) (hk : x.fn = (k : Int)) (hl : EntsRd w lv (xdtZ f.2.2.2 (e k))) (h6 : M.frames.length ≤ 6) (hpl : xb5Z e ((M.frames[i + 1]?).map Frm.fn) x k f = true) : Calls Tryz.prog 183 #[chkV pv fv bv iv ov M, .int .i64 i, lv] w fun e' w' => ∃ u, e' = .returned u ∧ FullInts w' u (xcsZ p e ((M.frames[i + 1]?).map Frm.fn) x k) ∧ Below w.heap.size w w' := by
  obtain ⟨ho, hcl⟩ := xgpZ hp he hf
  have hpl5 := xhpZ hp
  have hil := xadZ hx
  cases hy : M.frames[i + 1]? with
  | none =>
    rw [hy] at hpl
    simp only [Option.map_none, xb5Z, Bool.and_eq_true, decide_eq_true_eq, Option.isSome_iff_exists] at hpl
    obtain ⟨h0, s, hs⟩ := hpl
    have := List.getElem?_eq_none_iff.1 hy
    have e1 : xcsZ p e none x k = s := by simp [xcsZ, hs]
    simp only [Option.map_none]
    rw [e1]
    exact stack_last M p e pv fv bv iv ov lv _ i k x.pc.toNat s x f w h hx (by omega) hl ho (by omega) hs (by omega)
  | some y =>
    rw [hy] at hpl
    simp only [Option.map_some, xb5Z, Bool.and_eq_true, decide_eq_true_eq, Option.isSome_iff_exists, beq_iff_eq] at hpl
    obtain ⟨⟨h0, s0, hs0⟩, hop⟩ := hpl
    obtain ⟨s, hs⟩ := xkzZ he hf hs0 hop
    have hpc1 : (x.pc - 1).toNat + 1 = x.pc.toNat := by omega
    rw [hpc1] at hs
    have hyp : xb0Z p y = true := List.all_eq_true.1 hall y (List.mem_of_getElem? hy)
    obtain ⟨j, hh, hj, hhj⟩ := progFn hyp
    have hjt : y.fn.toNat = j := by omega
    simp only [Option.map_some]
    by_cases hr : hh.2.2.1 = 0
    · have e1 : xcsZ p e (some y.fn) x k = s := by simp [xcsZ, hs, hjt, hhj, hr]
      rw [e1]
      exact stack_mid0 M p e pv fv bv iv ov lv _ i k x.pc.toNat j s x y f hh w h hx hy hj hhj hr hl ho (by omega) hs (by omega) (by omega)
    · have e1 : xcsZ p e (some y.fn) x k = s.dropLast := by simp [xcsZ, hs, hjt, hhj, hr]
      rw [e1]
      have hne : s.length ≠ 0 := by
        obtain ⟨o, out, h4, h5, h7⟩ := (he k f hf).1.on (x.pc - 1).toNat s0 hs0
        rw [hop] at h4
        cases h4
        obtain ⟨_, s', h8, h9⟩ := h7 ((x.pc - 1).toNat + 1) (xc6Z hop (by simp) (by simp))
        rw [hpc1, hs] at h8
        cases h8
        rw [← xdmZ h9]
        obtain ⟨t', l', q1, q2, q3, hout⟩ := xerZ h5
        unfold xafZ at q1
        rw [if_neg (by simp), if_neg (by simp), if_neg (by simp), if_pos rfl] at q1
        simp only [hjt, hhj] at q1
        have hr0 := ((okFn hp (List.mem_of_getElem? hf)).res hh (List.mem_of_getElem? hhj)).1
        simp at q1
        rw [hout, ← q1.2, if_pos (by omega)]
        simp
      exact stack_mid1 M p e pv fv bv iv ov lv _ i k x.pc.toNat j (s.length - 1) s x y f hh w h hx hy hj hhj hr hl ho (by omega) hs (by omega) (by omega) (by omega)
end Go.Proofs.YtmjjkenblfndgaaGreat


/- machine's checker: a frame. -/
namespace Go.Proofs.YtmjjkenblfndgaaGreat
open Go.RowKit
set_option linter.unusedSimpArgs false
set_option linter.unusedVariables false
theorem fits_any (M : Mach) (p : List Fn) (e : Nat → Nat → Option (List Int)) (pv fv bv iv ov : Value) (i k : Nat) (x : Frm) (f : Fn) (w : World) (hp : xanZ p = 0) (he : xaxZ p e) (h : CkAt w p pv fv bv iv ov M) (hall : M.frames.all (xb0Z p) = true) (hx : M.frames[i]? = some x) (hf : p[k]? = some f) (hk : x.fn = (k : Int)) (h6 : M.frames.length ≤ 6) (hp1 : -9223372036854775808 ≤ x.pc) (hp2 : x.pc ≤ 9223372036854775807) : Calls Tryz.prog 143 #[chkV pv fv bv iv ov M, .int .i64 i] w (Says (xcaZ p e M.blocks.length ((M.frames[i + 1]?).map Frm.fn) x k f) w) := by
  obtain ⟨⟨pp, qp, hpv⟩, -, ⟨pb, cb, hbv⟩, ⟨pi, ci, hiv⟩, ⟨po, co, hov⟩⟩ := h.shp
  obtain ⟨pf, cf, hfv, hfm, -, hfc⟩ := id h.mach.fr
  subst hpv hfv hbv hiv hov
  obtain ⟨g, off, lv1, sv1, rfl, hg, x0, x1, x2, x3, hL, -, hS, -⟩ := hfc i x hx
  obtain ⟨pl1, cl1, hlv1, hlm1, -⟩ := id hL
  obtain ⟨ps1, cs1, hsv1, hsm1, -⟩ := id hS
  subst hlv1 hsv1
  have hil := xadZ hx
  have hili : (i : Int) < (M.frames.length : Int) := by omega
  obtain ⟨pp', qp', hpe, -, hpc⟩ := id h.fns
  cases hpe
  obtain ⟨fb, fo, c0, c1, c2, c3, hpp, hplt, -, z1, -, -, hfn⟩ := hpc k f hf
  subst hpp
  obtain ⟨-, hty, -, -⟩ := hfn
  obtain ⟨pt, qt, htv, htm, -⟩ := id hty
  subst htv
  have hkl := xadZ hf
  have hkli : (k : Int) < (p.length : Int) := by omega
  rw [hk] at x0
  have x0a := fun o => xabZ x0 o
  have x1a := fun o => xabZ x1 o
  have x2a := fun o => xabZ x2 o
  have x3a := fun o => xabZ x3 o
  obtain ⟨W2, hW2⟩ : ∃ W2, (w.alloc (.cells #[.slice (some ⟨g, off, none⟩) M.frames.length cf, .slice pb M.blocks.length cb, .slice pi M.inp.length ci, .slice po M.out.length co, .int .i64 M.status, .int .i64 M.trap, .slice (some ⟨fb, fo, none⟩) p.length qp] 121)).alloc (.cells #[.int .i64 k, .int .i64 x.pc, .slice pl1 x.loc.length cl1, .slice ps1 x.stk.length cs1] 89) = W2 := ⟨_, rfl⟩
  have b2 : Below w.heap.size w W2 := by rw [← hW2]; exact ((Below.refl _ w).alloc (Nat.le_refl _) _).alloc (by simp) _
  have u1 : W2.heap[w.heap.size]? = some (.cells #[.slice (some ⟨g, off, none⟩) M.frames.length cf, .slice pb M.blocks.length cb, .slice pi M.inp.length ci, .slice po M.out.length co, .int .i64 M.status, .int .i64 M.trap, .slice (some ⟨fb, fo, none⟩) p.length qp] 121 (0, 0)) := by rw [← hW2]; exact xalZ (World.alloc_heap_new w _) _
  have u2 : W2.heap[w.heap.size + 1]? = some (.cells #[.int .i64 k, .int .i64 x.pc, .slice pl1 x.loc.length cl1, .slice ps1 x.stk.length cs1] 89 (0, 0)) := by rw [← hW2]; exact xa1Z w _ _
  have l1 := xacZ u1
  have l2 := xacZ u2
  have a0 : W2.cell? ⟨w.heap.size, 0, none⟩ = some (.slice (some ⟨g, off, none⟩) M.frames.length cf) := xaaZ u1 0
  have a1 : W2.cell? ⟨w.heap.size, 1, none⟩ = some (.slice pb M.blocks.length cb) := xaaZ u1 1
  have a2 : W2.cell? ⟨w.heap.size, 2, none⟩ = some (.slice pi M.inp.length ci) := xaaZ u1 2
  have a3 : W2.cell? ⟨w.heap.size, 3, none⟩ = some (.slice po M.out.length co) := xaaZ u1 3
  have a4 : W2.cell? ⟨w.heap.size, 4, none⟩ = some (.int .i64 M.status) := xaaZ u1 4
  have a5 : W2.cell? ⟨w.heap.size, 5, none⟩ = some (.int .i64 M.trap) := xaaZ u1 5
  have a6 : W2.cell? ⟨w.heap.size, 6, none⟩ = some (.slice (some ⟨fb, fo, none⟩) p.length qp) := xaaZ u1 6
  have f0 : W2.cell? ⟨w.heap.size + 1, 0, none⟩ = some (.int .i64 k) := xaaZ u2 0
  have f2 : W2.cell? ⟨w.heap.size + 1, 2, none⟩ = some (.slice pl1 x.loc.length cl1) := xaaZ u2 2
  have f3 : W2.cell? ⟨w.heap.size + 1, 3, none⟩ = some (.slice ps1 x.stk.length cs1) := xaaZ u2 3
  have z1' := (b2.cell (p := ⟨fb, fo + k * 4 + 1, none⟩) hplt).trans z1
  have KC : Hid (∀ W, Below W2.heap.size W2 W → (W.cell? ⟨w.heap.size, 0, none⟩ = some (.slice (some ⟨g, off, none⟩) M.frames.length cf) ∧ W.cell? ⟨w.heap.size, 1, none⟩ = some (.slice pb M.blocks.length cb) ∧ W.cell? ⟨w.heap.size, 2, none⟩ = some (.slice pi M.inp.length ci) ∧ W.cell? ⟨w.heap.size, 3, none⟩ = some (.slice po M.out.length co) ∧ W.cell? ⟨w.heap.size, 4, none⟩ = some (.int .i64 M.status) ∧ W.cell? ⟨w.heap.size, 5, none⟩ = some (.int .i64 M.trap) ∧ W.cell? ⟨w.heap.size, 6, none⟩ = some (.slice (some ⟨fb, fo, none⟩) p.length qp)) ∧ W.cell? ⟨w.heap.size + 1, 2, none⟩ = some (.slice pl1 x.loc.length cl1) ∧ W.cell? ⟨w.heap.size + 1, 3, none⟩ = some (.slice ps1 x.stk.length cs1)) := fun W hW =>
    ⟨⟨(hW.cell (p := ⟨w.heap.size, 0, none⟩) l1).trans a0, (hW.cell (p := ⟨w.heap.size, 1, none⟩) l1).trans a1, (hW.cell (p := ⟨w.heap.size, 2, none⟩) l1).trans a2, (hW.cell (p := ⟨w.heap.size, 3, none⟩) l1).trans a3, (hW.cell (p := ⟨w.heap.size, 4, none⟩) l1).trans a4, (hW.cell (p := ⟨w.heap.size, 5, none⟩) l1).trans a5, (hW.cell (p := ⟨w.heap.size, 6, none⟩) l1).trans a6⟩, (hW.cell (p := ⟨w.heap.size + 1, 2, none⟩) l2).trans f2, (hW.cell (p := ⟨w.heap.size + 1, 3, none⟩) l2).trans f3⟩
  have H2 := h.below b2
  have hshp : (∃ q n c, Value.slice (some ⟨fb, fo, none⟩) p.length qp = .slice q n c) ∧ (∃ q n c, Value.slice (some ⟨g, off, none⟩) M.frames.length cf = .slice q n c) ∧ (∃ q c, Value.slice pb M.blocks.length cb = .slice q M.blocks.length c) ∧ (∃ q n c, Value.slice pi M.inp.length ci = .slice q n c) ∧ ∃ q n c, Value.slice po M.out.length co = .slice q n c := ⟨⟨_, _, _, rfl⟩, ⟨_, _, _, rfl⟩, ⟨_, _, rfl⟩, ⟨_, _, _, rfl⟩, ⟨_, _, _, rfl⟩⟩
  have HVF := hideP (vFunc_fit p e hp he k f hf _ W2 H2.fns H2.cap)
  have HH2 := hideP H2
  have HOK : Hid (∀ (l : List Val) (v : Value) (W : World), ValsAt W v l → Calls Tryz.prog 179 #[v, .func (.func 180) #[chkV (.slice (some ⟨fb, fo, none⟩) p.length qp) (.slice (some ⟨g, off, none⟩) M.frames.length cf) (.slice pb M.blocks.length cb) (.slice pi M.inp.length ci) (.slice po M.out.length co) M] #[]] W fun e w' => e = .returned (.bool (!l.all (okV M.blocks.length))) ∧ Below W.heap.size W w') := fun l v W hv => allOk_any M _ _ _ _ _ l v W hv hshp.1 hshp.2.1 hshp.2.2.1 hshp.2.2.2.1 hshp.2.2.2.2
  have HL := hideP (hL.below b2)
  have HS := hideP (hS.below b2)
  have HTY := hideP (hty.below b2)
  have HX := hideP hx
  have HF := hideP hf
  have HK := hideP hk
  have HALL := hideP hall
  have HP := hideP hp
  have HE := hideP he
  generalize hnx : (M.frames[i + 1]?).map Frm.fn = nx
  have HNX := hideP hnx
  clear h hx hf hall hfc hpc hL hS hty H2 x0 x1 x2 x3 u1 u2 hp he hshp hnx z1 hk
  go_enter Tryz.func143, Tryz.ntmps143
  by_cases c1 : x.loc.length = f.2.1.length
  rotate_left
  · have c1' : ((x.loc.length : Int) != (f.2.1.length : Int)) = true := by simp; omega
    have HC1 := hideP c1
    clear c1
    go_wp2_with fail
    refine HVF.out.mono ?_
    rintro e' w3 ⟨lv, rfl, hents, b3⟩
    obtain ⟨⟨q0, q1, q2, q3, q4, q5, q6⟩, q7, q8⟩ := KC.out w3 b3
    obtain ⟨pl, cl, hlv⟩ := hents.shp
    subst hlv
    go_wp2
    go_ret
    exact ⟨by unfold xcaZ; rw [if_pos HC1.out]; rfl, xaeZ b2 b3⟩
  have c1' : ((x.loc.length : Int) != (f.2.1.length : Int)) = false := by simp; omega
  have HC1 := hideP c1
  clear c1
  go_wp2_with fail
  refine HVF.out.mono ?_
  rintro e' w3 ⟨lv, rfl, hents, b3⟩
  obtain ⟨⟨q0, q1, q2, q3, q4, q5, q6⟩, q7, q8⟩ := KC.out w3 b3
  obtain ⟨pl, cl, hlv⟩ := hents.shp
  subst hlv
  have HENT := hideP hents
  clear hents
  go_wp2_with fail
  refine (HOK.out x.loc _ w3 (HL.out.below b3)).mono ?_
  rintro e' w4 ⟨rfl, b4'⟩
  have b4 := b3.trans (b4'.mono b3.size)
  have HENT4 := hideP (HENT.out.below b4')
  clear b4' HENT q0 q1 q2 q3 q4 q5 q6 q7 q8
  obtain ⟨⟨q0, q1, q2, q3, q4, q5, q6⟩, q7, q8⟩ := KC.out w4 b4
  cases k1 : x.loc.all (okV M.blocks.length)
  · go_wp2
    go_ret
    exact ⟨by unfold xcaZ; rw [if_neg (by simpa using HC1.out), if_pos (by rw [k1]; rfl)]; rfl, xaeZ b2 b4⟩
  have K1 := hideP k1
  clear k1
  go_wp2_with fail
  refine (HOK.out x.stk _ w4 (HS.out.below b4)).mono ?_
  rintro e' w5 ⟨rfl, b5'⟩
  have b5 := b4.trans (b5'.mono b4.size)
  have HENT5 := hideP (HENT4.out.below b5')
  clear b5' HENT4 q0 q1 q2 q3 q4 q5 q6 q7 q8
  obtain ⟨⟨q0, q1, q2, q3, q4, q5, q6⟩, q7, q8⟩ := KC.out w5 b5
  cases k2 : x.stk.all (okV M.blocks.length)
  · go_wp2
    go_ret
    exact ⟨by unfold xcaZ; rw [if_neg (by simpa using HC1.out), if_pos (by rw [K1.out, k2]; rfl)]; rfl, xaeZ b2 b5⟩
  have K2 := hideP k2
  clear k2
  go_wp2_with fail
  refine (xltZ x.loc f.2.1 _ _ w5 (HL.out.below b5) (HTY.out.below b5)).mono ?_
  rintro e' w6 ⟨rfl, b6'⟩
  have b6 := b5.trans (b6'.mono b5.size)
  have HENT6 := hideP (HENT5.out.below b6')
  clear b6' HENT5 q0 q1 q2 q3 q4 q5 q6 q7 q8
  obtain ⟨⟨q0, q1, q2, q3, q4, q5, q6⟩, q7, q8⟩ := KC.out w6 b6
  cases k3 : areOf x.loc f.2.1
  · go_wp2
    go_ret
    exact ⟨by unfold xcaZ; rw [if_neg (by simpa using HC1.out), if_neg (by rw [K1.out, K2.out]; decide), if_pos k3]; rfl, xaeZ b2 b6⟩
  have K3 := hideP k3
  clear k3
  go_wp2_with fail
  refine (placed_any M p e _ _ _ _ _ _ i k x f w6 HP.out HE.out (HH2.out.below b6) HX.out HF.out HK.out HENT6.out h6 hp1 hp2).mono ?_
  rw [HNX.out]
  rintro e' w7 ⟨rfl, b7'⟩
  have b7 := b6.trans (b7'.mono b6.size)
  have HENT7 := hideP (HENT6.out.below b7')
  clear b7' HENT6 q0 q1 q2 q3 q4 q5 q6 q7 q8
  obtain ⟨⟨q0, q1, q2, q3, q4, q5, q6⟩, q7, q8⟩ := KC.out w7 b7
  cases k4 : xb5Z e nx x k f
  · go_wp2
    go_ret
    exact ⟨by unfold xcaZ; rw [if_neg (by simpa using HC1.out), if_neg (by rw [K1.out, K2.out]; decide), if_neg (by rw [K3.out]; decide), if_pos k4]; rfl, xaeZ b2 b7⟩
  have K4 := hideP k4
  clear k4
  have HST : Hid (∀ W, Below w7.heap.size w7 W → Calls Tryz.prog 183 #[chkV (.slice (some ⟨fb, fo, none⟩) p.length qp) (.slice (some ⟨g, off, none⟩) M.frames.length cf) (.slice pb M.blocks.length cb) (.slice pi M.inp.length ci) (.slice po M.out.length co) M, .int .i64 i, .slice pl (xdtZ f.2.2.2 (e k)).length cl] W fun e' w' => ∃ u, e' = .returned u ∧ FullInts w' u (xcsZ p e nx x k) ∧ Below W.heap.size W w') := fun W hW => by
    have := stack_any M p e _ _ _ _ _ (.slice pl (xdtZ f.2.2.2 (e k)).length cl) i k x f W HP.out HE.out ((HH2.out.below b7).below hW) HALL.out HX.out HF.out HK.out (HENT7.out.below hW) h6 (by rw [HNX.out]; exact K4.out)
    rw [HNX.out] at this
    exact this
  go_wp2_with fail
  go_region_held3 (fun X => (X.cell? ⟨w.heap.size, 0, none⟩ = some (.slice (some ⟨g, off, none⟩) M.frames.length cf) ∧ X.cell? ⟨w.heap.size, 1, none⟩ = some (.slice pb M.blocks.length cb) ∧ X.cell? ⟨w.heap.size, 2, none⟩ = some (.slice pi M.inp.length ci) ∧ X.cell? ⟨w.heap.size, 3, none⟩ = some (.slice po M.out.length co) ∧ X.cell? ⟨w.heap.size, 4, none⟩ = some (.int .i64 M.status) ∧ X.cell? ⟨w.heap.size, 5, none⟩ = some (.int .i64 M.trap) ∧ X.cell? ⟨w.heap.size, 6, none⟩ = some (.slice (some ⟨fb, fo, none⟩) p.length qp)) ∧ X.cell? ⟨w.heap.size + 1, 3, none⟩ = some (.slice ps1 x.stk.length cs1)) (first | go_keep | exact ⟨(KC.out _ b8).1, (KC.out _ b8).2.2⟩ | exact ⟨(KC.out _ b9).1, (KC.out _ b9).2.2⟩)
    (first
      | (go_at_call 183; (with_reducible refine (HST.out _ ((Below.refl _ w7).drew)).mono ?_); rintro e' w8 ⟨u, rfl, hu, b8'⟩; have b8 : Below W2.heap.size W2 w8 := b7.trans ((((Below.refl _ w7).drew).trans b8').mono b7.size); obtain ⟨pu, cu, hus, -⟩ := hu.shp; subst hus; have HU := hideP hu; clear hu b8')
      | (go_at_call 181; (with_reducible refine (xltZ x.stk (xcsZ p e nx x k) _ _ _ (HS.out.below b8) HU.out.at_).mono ?_); rintro e' w9 ⟨rfl, b9'⟩; have b9 : Below W2.heap.size W2 w9 := b8.trans (b9'.mono b8.size)))
  cases k5 : areOf x.stk (xcsZ p e nx x k)
  · go_wp2
    go_ret
    exact ⟨by unfold xcaZ; rw [if_neg (by simpa using HC1.out), if_neg (by rw [K1.out, K2.out]; decide), if_neg (by rw [K3.out]; decide), if_neg (by rw [K4.out]; decide), if_pos k5]; rfl, xaeZ b2 b9⟩
  · go_wp2
    go_ret
    exact ⟨by unfold xcaZ; rw [if_neg (by simpa using HC1.out), if_neg (by rw [K1.out, K2.out]; decide), if_neg (by rw [K3.out]; decide), if_neg (by rw [K4.out]; decide), if_neg (by rw [k5]; decide)]; rfl, xaeZ b2 b9⟩
end Go.Proofs.YtmjjkenblfndgaaGreat


/- machine's checker: functions of frames, one that waits; all of them in order. -/
namespace Go.Proofs.YtmjjkenblfndgaaGreat
open Go.RowKit
set_option linter.unusedSimpArgs false
set_option linter.unusedVariables false
theorem xpmZ (M : Mach) (p : List Fn) (fv bv iv ov : Value) (pp : Option Addr) (qp : Nat) (w : World) (hf : FrmsAt w fv M.frames) (h3 : ∃ p n c, bv = .slice p n c) (h4 : ∃ p n c, iv = .slice p n c) (h5 : ∃ p n c, ov = .slice p n c) : Calls Tryz.prog 107 #[chkV (.slice pp p.length qp) fv bv iv ov M] w (Says (xccZ p M) w) := by
  obtain ⟨p3, n3, c3, rfl⟩ := h3
  obtain ⟨p4, n4, c4, rfl⟩ := h4
  obtain ⟨p5, n5, c5, rfl⟩ := h5
  obtain ⟨pf, cf, hfv, hfm, -, hfc⟩ := id hf
  subst hfv
  unfold maxLen at hfm
  obtain ⟨W1, hW1⟩ : ∃ W1, w.alloc (.cells #[.slice pf M.frames.length cf, .slice p3 n3 c3, .slice p4 n4 c4, .slice p5 n5 c5, .int .i64 M.status, .int .i64 M.trap, .slice pp p.length qp] 121) = W1 := ⟨_, rfl⟩
  have b1 : Below w.heap.size w W1 := by rw [← hW1]; exact (Below.refl _ w).alloc (Nat.le_refl _) _
  have x1 : W1.heap[w.heap.size]? = some (.cells #[.slice pf M.frames.length cf, .slice p3 n3 c3, .slice p4 n4 c4, .slice p5 n5 c5, .int .i64 M.status, .int .i64 M.trap, .slice pp p.length qp] 121 (0, 0)) := by rw [← hW1]; exact World.alloc_heap_new w _
  have lx := xacZ x1
  have d0 : W1.cell? ⟨w.heap.size, 0, none⟩ = some (.slice pf M.frames.length cf) := xaaZ x1 0
  have d6 : W1.cell? ⟨w.heap.size, 6, none⟩ = some (.slice pp p.length qp) := xaaZ x1 6
  have HC := hideP (xjpZ 141 #[.pointer (some ⟨w.heap.size, 0, none⟩)] (fun W => W.cell? ⟨w.heap.size, 6, none⟩ = some (.slice pp p.length qp) ∧ w.heap.size < W.heap.size) (xb0Z p) M.frames _ W1 (hf.below b1) ⟨d6, lx⟩ (fun W W' hI hb => ⟨(hb.cell (p := ⟨w.heap.size, 6, none⟩) hI.2).trans hI.1, Nat.lt_of_lt_of_le hI.2 hb.size⟩) (xchZ Tryz.func141 (by kernel_rfl) rfl) (fun z lv sv W hI h1 h2 => xplZ p z lv sv pp qp w.heap.size W h1 h2 hI.1))
  have HFC := hideP hfc
  have hmf : ∀ (fn : Go.Fn) (first cap : Array Value) (w : World), (Instr.makeFunc fn first cap).run Tryz.prog w = .ok (.func fn first cap) w := fun _ _ _ _ => rfl
  clear hf hfc x1
  cases hall : M.frames.all (xb0Z p)
  · rw [hall] at HC
    go_enter Tryz.func107, Tryz.ntmps107
    go_wp2_with (go_at_call 142; refine HC.out.mono ?_; rintro e w2 ⟨rfl, b2⟩)
    go_ret
    exact ⟨by simp [xccZ, hall], xaeZ b1 b2⟩
  · rw [hall] at HC
    obtain hM | ⟨x, r, hM⟩ : M.frames = [] ∨ ∃ x r, M.frames = x :: r := by
      cases M.frames with
      | nil => exact .inl rfl
      | cons x r => exact .inr ⟨x, r, rfl⟩
    · have h0len : ¬ (0 : Int) < (M.frames.length : Int) := by rw [hM]; simp
      have h0d : decide ((M.frames.length : Int) > 0) = false := by simpa using h0len
      have HM := hideP hM
      have HALL := hideP hall
      clear hM hall
      go_enter Tryz.func107, Tryz.ntmps107
      go_wp2_with (go_at_call 142; refine HC.out.mono ?_; rintro e w2 ⟨rfl, b2⟩; have k0 := (b2.cell (p := ⟨w.heap.size, 0, none⟩) lx).trans d0)
      go_ret
      refine ⟨?_, xaeZ b1 b2⟩
      unfold xccZ
      rw [HALL.out, HM.out]
      simp
    · obtain ⟨g, off, lv, sv, rfl, hg, y0, -⟩ := HFC.out 0 x (by rw [hM]; rfl)
      have hpos : (0 : Int) < (M.frames.length : Int) := by rw [hM]; simp
      have hposd : decide ((M.frames.length : Int) > 0) = true := by simpa using hpos
      have HM := hideP hM
      have HALL := hideP hall
      clear hM hall
      have g0 := (b1.cell (p := ⟨g, off + 0 * 4, none⟩) hg).trans y0
      simp only [Nat.zero_mul, Nat.add_zero] at g0
      have hg1 := Nat.lt_of_lt_of_le hg b1.size
      by_cases h0 : x.fn = 0
      · have h0' : (x.fn != 0) = false := by simpa using h0
        go_enter Tryz.func107, Tryz.ntmps107
        go_wp2_with (go_at_call 142; refine HC.out.mono ?_; rintro e w2 ⟨rfl, b2⟩; have k0 := (b2.cell (p := ⟨w.heap.size, 0, none⟩) lx).trans d0; have k1 := (b2.cell (p := ⟨g, off, none⟩) hg1).trans g0)
        go_ret
        refine ⟨?_, xaeZ b1 b2⟩
        unfold xccZ
        rw [HALL.out, HM.out]
        simp [h0]
      · have h0' : (x.fn != 0) = true := by simpa using h0
        go_enter Tryz.func107, Tryz.ntmps107
        go_wp2_with (go_at_call 142; refine HC.out.mono ?_; rintro e w2 ⟨rfl, b2⟩; have k0 := (b2.cell (p := ⟨w.heap.size, 0, none⟩) lx).trans d0; have k1 := (b2.cell (p := ⟨g, off, none⟩) hg1).trans g0)
        go_ret
        refine ⟨?_, xaeZ b1 b2⟩
        unfold xccZ
        rw [HALL.out, HM.out]
        simp [h0]
theorem xl2Z : ∀ {es : List Int} {k : Nat} {a : Int}, es[k]? = some a → (∀ b ∈ es.take k, b = 0) → a ≠ 0 → xexZ es = a
  | [], k, a, h, _, _ => by simp at h
  | b :: r, 0, a, h, _, ha => by
    simp at h
    subst h
    simp [xexZ, ha]
  | b :: r, k + 1, a, h, hk, ha => by
    have h0 : b = 0 := hk b (by simp)
    simp only [xexZ]
    rw [if_neg (by simp [h0])]
    exact xl2Z (by simpa using h) (fun c hc => hk c (by simp [hc])) ha
def ckFns : List Nat := [103, 104, 105, 106, 107, 108, 109]
theorem ckFns_ent : ∀ F ∈ ckFns, Ent F := by
  intro F hF
  simp only [ckFns, List.mem_cons, List.not_mem_nil, or_false] at hF
  rcases hF with rfl | rfl | rfl | rfl | rfl | rfl | rfl
  · exact xchZ Tryz.func103 (by kernel_rfl) rfl
  · exact xchZ Tryz.func104 (by kernel_rfl) rfl
  · exact xchZ Tryz.func105 (by kernel_rfl) rfl
  · exact xchZ Tryz.func106 (by kernel_rfl) rfl
  · exact xchZ Tryz.func107 (by kernel_rfl) rfl
  · exact xchZ Tryz.func108 (by kernel_rfl) rfl
  · exact xchZ Tryz.func109 (by kernel_rfl) rfl
end Go.Proofs.YtmjjkenblfndgaaGreat


/- machine's checker: one thing behind the other; Check. -/
namespace Go.Proofs.YtmjjkenblfndgaaGreat
open Go.RowKit
set_option linter.unusedSimpArgs false
set_option linter.unusedVariables false
def ckRow (c : Value) : List Value := ckFns.map fun F => .func (.func F) #[c] #[]
theorem ckRow_at (c : Value) {k F : Nat} (h : ckFns[k]? = some F) : (ckRow c)[k]? = some (.func (.func F) #[c] #[]) := by
  unfold ckRow
  rw [List.getElem?_map, h]
  rfl
theorem check_gen (M : Mach) (pv fv bv iv ov : Value) (es : List Int) (w : World) (h1 : ∃ p n c, pv = .slice p n c) (h2 : ∃ p n c, fv = .slice p n c) (h3 : ∃ p n c, bv = .slice p n c) (h4 : ∃ p n c, iv = .slice p n c) (h5 : ∃ p n c, ov = .slice p n c) (hes : es.length = 7)
    (hF : ∀ (k F : Nat) (a : Int), ckFns[k]? = some F → es[k]? = some a → (∀ b ∈ es.take k, b = 0) → ∀ W, Below w.heap.size w W → Calls Tryz.prog F #[chkV pv fv bv iv ov M] W (Says a W)) : Calls Tryz.prog 75 #[chkV pv fv bv iv ov M] w (Says (xexZ es) w) := by
  obtain ⟨p1, n1, c1, rfl⟩ := h1
  obtain ⟨p2, n2, c2, rfl⟩ := h2
  obtain ⟨p3, n3, c3, rfl⟩ := h3
  obtain ⟨p4, n4, c4, rfl⟩ := h4
  obtain ⟨p5, n5, c5, rfl⟩ := h5
  have HF := hideP hF
  have HEE := hideP ckFns_ent
  have HES := hideP hes
  have hmf : ∀ (fn : Go.Fn) (first cap : Array Value) (w : World), (Instr.makeFunc fn first cap).run Tryz.prog w = .ok (.func fn first cap) w := fun _ _ _ _ => rfl
  obtain ⟨c, hc⟩ : ∃ c, chkV (.slice p1 n1 c1) (.slice p2 n2 c2) (.slice p3 n3 c3) (.slice p4 n4 c4) (.slice p5 n5 c5) M = c := ⟨_, rfl⟩
  have hb2 : ∀ o o', Below w.heap.size w ((w.alloc o).alloc o') := fun o o' => ((Below.refl _ w).alloc (Nat.le_refl _) _).alloc (by simp) _
  have hx2 : ∀ o o', ((w.alloc o).alloc o').heap[w.heap.size + 1]? = some o' := fun o o' => xa1Z w o o'
  have HC := hideP hc
  clear hF hes hc
  go_enter Tryz.func75, Tryz.ntmps75
  go_wp2_with fail
  go_loopw [5, 24] (fun _ i wr => ∃ k : Nat, k ≤ 7 ∧ i = .int .i64 k ∧ (∀ b ∈ es.take k, b = 0) ∧ Below w.heap.size w wr ∧ wr.heap[w.heap.size + 1]? = some (.cells (ckRow c).toArray 122 (0, 0))) (fun _ i _ => 7 - (intOf i).toNat)
  case atStart => exact ⟨0, Nat.zero_le _, rfl, by simp, hb2 _ _, by rw [← HC.out]; exact hx2 _ _⟩
  case round =>
    obtain ⟨k, hk, rfl, hok, hbw, hrow⟩ := hrel
    have HK := hideP hok
    clear hok
    by_cases hlt : k < 7
    · obtain ⟨F, hFk⟩ := xagZ (l := ckFns) (k := k) hlt
      obtain ⟨a, ha⟩ := xagZ (l := es) (k := k) (by rw [HES.out]; exact hlt)
      have hcell : wr.cell? ⟨w.heap.size + 1, k, none⟩ = some (.func (.func F) #[c] #[]) := by
        rw [xaaZ hrow]
        simpa using ckRow_at c hFk
      have hlti : (k : Int) < (7 : Int) := by omega
      have hent := HEE.out F (List.mem_of_getElem? hFk)
      have hEE : ∀ (args : Array Value) (W : World), (callFunc F args).run Tryz.prog W = .ok (.enter F args) W := hent
      have hlx := xacZ hrow
      have HROW := hideP hrow
      have hcall := HF.out k F a hFk ha HK.out wr hbw
      rw [HC.out] at hcall
      have HCALL := hideP hcall
      have HA := hideP ha
      clear hrow hent hcall hFk ha
      by_cases h0 : a = 0
      · subst h0
        go_wp2_with fail
        refine HCALL.out.mono ?_
        rintro e w2 ⟨rfl, b2⟩
        go_wp2
        go_roundw
        case rel =>
          refine ⟨k + 1, by omega, by go_num, fun b hb => ?_, hbw.trans (b2.mono hbw.size), (b2.block _ hlx).trans HROW.out⟩
          rw [xazZ es k _ HA.out] at hb
          rcases List.mem_append.1 hb with hb | hb
          · exact HK.out b hb
          · simpa using hb
        case measure => simp [intOf]; omega
      · have h0' : (a != 0) = true := by simpa using h0
        have HN := hideP h0
        clear h0
        go_wp2_with fail
        refine HCALL.out.mono ?_
        rintro e w2 ⟨rfl, b2⟩
        go_wp2
        go_ret
        exact ⟨by rw [xl2Z HA.out HK.out HN.out]; rfl, hbw.trans (b2.mono hbw.size)⟩
    · have hlt' : ¬ (k : Int) < (7 : Int) := by omega
      go_wp2
      go_ret
      refine ⟨?_, hbw⟩
      have h := HK.out
      rw [List.take_of_length_le (by rw [HES.out]; omega)] at h
      rw [xi8Z.2 h]; rfl
end Go.Proofs.YtmjjkenblfndgaaGreat


/- Programs that came in. -/
namespace Go.Proofs.YtmjjkenblfndgaaGreat
open Go.ChangeShapes Go.WideShapes Go.ChangeAt Go.RowKit
set_option linter.unusedVariables false
set_option linter.unusedSimpArgs false
section
variable {H : Type} {enc : TypeId × Value → H} {W : World} {fuel : Nat} {x : DataW H × List MemPlace}
theorem xbkZ {W : World} {b j : Nat} {v : Value} (h : W.cell? ⟨b, j, none⟩ = some v) : b < W.heap.size := by
  rcases Nat.lt_or_ge b W.heap.size with h' | h'
  · exact h'
  · simp [World.cell?, Array.getElem?_eq_none h'] at h
theorem cells_ops : Tryz.prog.cellsOf 117 = 1 := by kernel_rfl
theorem xhdZ : Tryz.prog.cellsOf 46 = 1 := by kernel_rfl
theorem xgiZ : Tryz.prog.cellsOf 3 = 1 := by kernel_rfl
theorem cells_fns : Tryz.prog.cellsOf 22 = 1 := by kernel_rfl
theorem cells_fn : Tryz.prog.cellsOf 119 = 4 := by kernel_rfl
theorem cells_prog : Tryz.prog.cellsOf 24 = 1 := by kernel_rfl
instance : Inhabited Fn := ⟨(0, [], 0, [])⟩
instance : Inhabited FnV := ⟨(.int .i64 0, .int .i64 0, .int .i64 0, .int .i64 0)⟩
end
end Go.Proofs.YtmjjkenblfndgaaGreat


/- Blocks that came in. -/
namespace Go.Proofs.YtmjjkenblfndgaaGreat
open Go.ChangeShapes Go.WideShapes Go.ChangeAt Go.RowKit
set_option linter.unusedVariables false
set_option linter.unusedSimpArgs false
section
variable {H : Type} {enc : TypeId × Value → H} {W : World} {fuel : Nat} {x : DataW H × List MemPlace}
theorem xdhZ {P : Program} {e : TypeId} : ∀ {ds : List (DataW H)} {d : DataW H}, d ∈ ds → ∀ n ∈ d.weights P e, n ∈ DataW.weightsAll P e ds
  | [], _, h, _, _ => by simp at h
  | d0 :: r, d, h, n, hn => by
    simp only [DataW.weightsAll, List.mem_append]
    rcases List.mem_cons.1 h with rfl | h
    · exact .inl hn
    · exact .inr (xdhZ h n hn)
theorem bytes_int : Tryz.prog.bytesOf 3 = 8 := by kernel_rfl
theorem xhkZ {c : Value} (h : DataW.trod enc Tryz.prog W 0 (fun _ => true) true fuel 46 [c] = some x) (hs : ∀ n ∈ x.1.weights Tryz.prog 46, n ≤ reachBytes) : ∃ l : List Int, IntsAt W c l ∧ NilOk c ∧ l.length ≤ 17592186044416 ∧ ∃ p n cap, c = .slice p n cap ∧ n ≤ cap := by
  rcases Deep.open_slice1 Tryz.underlying46 xgiZ h with ⟨hcs, hx⟩ | ⟨a, len', cap', m, n, V, D, Pl, hcs, hb, hl, hm, hmm, hx, hc⟩
  · simp at hcs
    subst hcs
    exact ⟨[], ⟨none, 0, rfl, Nat.zero_le _, fun k o hk => by simp at hk⟩, xeqZ, by simp, none, 0, 0, rfl, Nat.le_refl _⟩
  · simp at hcs
    subst hcs
    simp only [if_true] at hmm
    subst hmm
    have hlen : len' ≤ 17592186044416 := by
      have h1 := hs ((((List.range len').map D).length + ((List.range (m - len')).map fun j => D (len' + j)).length) * Tryz.prog.bytesOf 3) (by
        rw [hx]
        simp only [DataW.weights, Tryz.underlying46]
        exact List.mem_cons_self ..)
      rw [bytes_int] at h1
      simp [reachBytes] at h1
      omega
    refine ⟨(List.range len').map fun i => intOf (V i), ⟨some a, m, by simp, by simp; omega, fun k o hk => ?_⟩, xavZ _ _ _, by simpa using hlen, _, _, _, rfl, hl⟩
    have hk1 : k < len' := by have := xciZ hk; simpa using this
    have ho : o = intOf (V k) := by simp [hk1] at hk; exact hk.symm
    obtain ⟨c0, t0⟩ := hc k (by omega)
    obtain ⟨y, e0, _, wx⟩ := DataW.trod_int Tryz.underlying3 t0
    simp at e0
    obtain ⟨b, off, spot⟩ := a
    have hs0 := (hc 0 (by omega)).1
    have hspot : spot = none := by simpa [Addr.add] using World.cell?_spot hs0
    subst hspot
    rw [xdsZ] at c0
    rw [e0] at c0
    exact ⟨b, off, rfl, xbkZ c0, by rw [ho, e0]; exact c0⟩
theorem open_blksC {c : Value} (h : DataW.trod enc Tryz.prog W 0 (fun _ => true) true fuel 45 [c] = some x) (hs : ∀ n ∈ x.1.weights Tryz.prog 45, n ≤ reachBytes) : ∃ L : List (List Int), BlksAt W c L := by
  rcases Deep.open_slice Tryz.underlying45 h with ⟨hcs, hx⟩ | ⟨a, len', cap', m, n, D, Pl, hcs, hb, hl, hm, hmm, hx, hc⟩
  · simp at hcs
    subst hcs
    exact ⟨[], none, 0, rfl, Nat.zero_le _, fun k o hk => by simp at hk⟩
  · simp at hcs
    subst hcs
    simp only [if_true] at hmm
    subst hmm
    have each : ∀ i, i < len' → ∃ q : Value × List Int, W.cell? (a.add (i * 1)) = some q.1 ∧ IntsAt W q.1 q.2 ∧ NilOk q.1 ∧ q.2.length ≤ 17592186044416 := by
      intro i hi
      obtain ⟨cs', h1, h2⟩ := hc i (by omega)
      rw [xhdZ] at h1
      obtain ⟨_, hlen, hcell⟩ := World.cells?_some h1
      match cs', hlen with
      | [c0], _ =>
        obtain ⟨l, g1, g2, g3, _⟩ := xhkZ (x := (D i, Pl i)) h2 (fun n hn => hs n (by
          rw [hx]
          simp only [DataW.weights, Tryz.underlying45]
          refine List.mem_cons_of_mem _ (List.mem_append_left _ ?_)
          exact xdhZ (List.mem_map.2 ⟨i, List.mem_range.2 hi, rfl⟩) n hn))
        have e0 := hcell 0 (by omega)
        rw [Deep.add_add] at e0
        exact ⟨(c0, l), by simpa using e0, g1, g2, g3⟩
    obtain ⟨q, hq⟩ := Deep.choose_lt each
    refine ⟨(List.range len').map fun i => (q i).2, some a, m, by simp, by simp; omega, fun k f hk => ?_⟩
    have hk1 : k < len' := by have := xciZ hk; simpa using this
    have ho : f = (q k).2 := by simp [hk1] at hk; exact hk.symm
    obtain ⟨c0, c1, c2, c3⟩ := hq k hk1
    obtain ⟨b, off, spot⟩ := a
    have hs0 := (hq 0 (by omega)).1
    have hspot : spot = none := by simpa [Addr.add] using World.cell?_spot hs0
    subst hspot
    rw [xdsZ, Nat.mul_one] at c0
    exact ⟨b, off, _, rfl, xbkZ c0, c0, by rw [ho]; exact c1, c2, by rw [ho]; exact c3⟩
end
end Go.Proofs.YtmjjkenblfndgaaGreat


/- Programs that came in, whole: room, nil or not, lengths. -/
namespace Go.Proofs.YtmjjkenblfndgaaGreat
open Go.ChangeShapes Go.WideShapes Go.ChangeAt Go.RowKit
set_option linter.unusedVariables false
set_option linter.unusedSimpArgs false
section
variable {H : Type} {enc : TypeId × Value → H} {W : World} {fuel : Nat} {x : DataW H × List MemPlace}
theorem bytes_op : Tryz.prog.bytesOf 86 = 16 := by kernel_rfl
theorem bytes_fn : Tryz.prog.bytesOf 119 = 64 := by kernel_rfl
theorem open_opsN {c : Value} (h : DataW.trod enc Tryz.prog W 0 (fun _ => true) true fuel 117 [c] = some x) (hs : ∀ n ∈ x.1.weights Tryz.prog 117, n ≤ reachBytes) : ∃ l : List (Int × Int), OpsAt W c l ∧ NilOk c ∧ l.length ≤ 8796093022208 := by
  rcases Deep.open_slice_pairs Tryz.underlying117 Tryz.underlying86 (by kernel_rfl) rfl rfl (by kernel_rfl) (by kernel_rfl) h with ⟨hcs, hx⟩ | ⟨a, len', cap', m, n, V0, V1, D0, D1, P0, P1, hcs, hb, hl, hm, hmm, hx, hc⟩
  · simp at hcs
    subst hcs
    exact ⟨[], ⟨none, 0, rfl, Nat.zero_le _, fun k o hk => by simp at hk⟩, xeqZ, by simp⟩
  · simp at hcs
    subst hcs
    simp only [if_true] at hmm
    subst hmm
    have hlen : len' ≤ 8796093022208 := by
      have hx1 := congrArg Prod.fst hx
      simp only at hx1
      rw [hx1] at hs
      simp only [DataW.weights, Tryz.underlying117] at hs
      have h1 := hs _ (List.mem_cons_self ..)
      rw [bytes_op] at h1
      simp [reachBytes] at h1
      omega
    refine ⟨(List.range len').map fun i => (intOf (V0 i), intOf (V1 i)), ⟨some a, m, by simp, by simp; omega, fun k o hk => ?_⟩, xavZ _ _ _, by simpa using hlen⟩
    have hk1 : k < len' := by have := xciZ hk; simpa using this
    have ho : o = (intOf (V0 k), intOf (V1 k)) := by simp [hk1] at hk; exact hk.symm
    obtain ⟨c0, c1, t0, t1⟩ := hc k (by omega)
    obtain ⟨x, e0, _, wx⟩ := DataW.trod_int Tryz.underlying3 t0
    obtain ⟨y, e1, _, wy⟩ := DataW.trod_int Tryz.underlying3 t1
    simp at e0 e1
    obtain ⟨b, off, spot⟩ := a
    have hs0 := (hc 0 (by omega)).1
    have hspot : spot = none := by simpa [Addr.add] using World.cell?_spot hs0
    subst hspot
    rw [xdsZ] at c0 c1
    rw [e0] at c0
    rw [e1] at c1
    exact ⟨b, off, rfl, xbkZ c0, by rw [ho, e0]; exact c0, by rw [ho, e1]; exact c1⟩
def FnFull (c1 c3 : Value) : Prop := NilOk c1 ∧ NilOk c3 ∧ (∃ p n cap, c1 = .slice p n cap ∧ n ≤ cap ∧ n ≤ 17592186044416) ∧ ∃ p n cap, c3 = .slice p n cap ∧ n ≤ 8796093022208
theorem open_fnN {c0 c1 c2 c3 : Value} (h : DataW.trod enc Tryz.prog W 0 (fun _ => true) true fuel 119 [c0, c1, c2, c3] = some x) (hs : ∀ n ∈ x.1.weights Tryz.prog 119, n ≤ reachBytes) : ∃ f : Fn, FnAt W c0 c1 c2 c3 f ∧ FnFull c1 c3 := by
  obtain ⟨y0, y1, y2, y3, n, hx, _, h0, h1, h2, h3⟩ := Go.Joins.trod_struct4 Tryz.underlying119 h
  simp [xgiZ, xhdZ, cells_ops] at h0 h1 h2 h3
  have hx1 := congrArg Prod.fst hx
  simp only at hx1
  rw [hx1] at hs
  simp only [DataW.weights, Tryz.underlying119] at hs
  obtain ⟨P, e0, _⟩ := DataW.trod_int Tryz.underlying3 h0
  obtain ⟨R, e2, _⟩ := DataW.trod_int Tryz.underlying3 h2
  obtain ⟨L, hL, nL, zL, pL, qL, capL, eL, lL⟩ := xhkZ h1 (fun n hn => hs n (by simp [DataW.weightsEach, hn]))
  obtain ⟨C, hC, nC, zC⟩ := open_opsN h3 (fun n hn => hs n (by simp [DataW.weightsEach, hn]))
  simp at e0 e2
  have hLs : qL = L.length := by obtain ⟨_, _, e, _⟩ := hL; rw [eL] at e; cases e; rfl
  obtain ⟨pC, capC, eC, _, _⟩ := id hC
  exact ⟨(P, L, R, C), ⟨e0, hL, e2, hC⟩, nL, nC, ⟨pL, qL, capL, eL, lL, by rw [hLs]; exact zL⟩, ⟨pC, _, capC, eC, zC⟩⟩
structure ProgFull (W : World) (v : Value) (l : List Fn) : Prop where
  at_ : FnsAt W v l
  nil : NilOk v
  len : l.length ≤ 2199023255488
  each : ∀ (b off n cap k : Nat) (c1 c3 : Value), v = .slice (some ⟨b, off, none⟩) n cap → k < n → W.cell? ⟨b, off + k * 4 + 1, none⟩ = some c1 → W.cell? ⟨b, off + k * 4 + 3, none⟩ = some c3 → FnFull c1 c3
theorem ProgFull.cap {W : World} {v : Value} {l : List Fn} (h : ProgFull W v l) : CapAt W v := by
  intro b off n cap k p' n' c' hv hk hc
  obtain ⟨p, cap2, hv2, hm, hcc⟩ := h.at_
  rw [hv] at hv2
  cases hv2
  obtain ⟨f, hf⟩ := xagZ (l := l) hk
  obtain ⟨b2, off2, c0, c1, c2, c3, hp, hlt, _, _, _, g3, _⟩ := hcc k f hf
  cases hp
  obtain ⟨_, _, ⟨p1, n1, cap1, e1, h1, _⟩, _⟩ := h.each b off l.length cap k _ _ hv hk hc g3
  cases e1
  exact h1
theorem open_fnsD {c : Value} (h : DataW.trod enc Tryz.prog W 0 (fun _ => true) true fuel 22 [c] = some x) (hs : ∀ n ∈ x.1.weights Tryz.prog 22, n ≤ reachBytes) : ∃ l : List Fn, ProgFull W c l := by
  rcases Deep.open_slice Tryz.underlying22 h with ⟨hcs, hx⟩ | ⟨a, len', cap', m, n, D, Pl, hcs, hb, hl, hm, hmm, hx, hc⟩
  · simp at hcs
    subst hcs
    exact ⟨[], ⟨none, 0, rfl, Nat.zero_le _, fun k o hk => by simp at hk⟩, xeqZ, by simp, fun b off n cap k c1 c3 hv => by cases hv⟩
  · simp at hcs
    subst hcs
    simp only [if_true] at hmm
    subst hmm
    rw [hx] at hs
    simp only [DataW.weights, Tryz.underlying22] at hs
    have hlen : len' ≤ 2199023255488 := by
      have h1 := hs _ (List.mem_cons_self ..)
      rw [bytes_fn] at h1
      simp [reachBytes] at h1
      omega
    have each : ∀ i, i < len' → ∃ q : FnV × Fn, W.cell? (a.add (i * 4)) = some q.1.1 ∧ W.cell? (a.add (i * 4 + 1)) = some q.1.2.1 ∧ W.cell? (a.add (i * 4 + 2)) = some q.1.2.2.1 ∧ W.cell? (a.add (i * 4 + 3)) = some q.1.2.2.2 ∧ FnAt W q.1.1 q.1.2.1 q.1.2.2.1 q.1.2.2.2 q.2 ∧ FnFull q.1.2.1 q.1.2.2.2 := by
      intro i hi
      obtain ⟨cs', h1, h2⟩ := hc i (by omega)
      rw [cells_fn] at h1
      obtain ⟨_, hlen, hcell⟩ := World.cells?_some h1
      match cs', hlen with
      | [c0, c1, c2, c3], _ =>
        obtain ⟨f, hf, hff⟩ := open_fnN (x := (D i, Pl i)) h2 (fun n hn => hs n (List.mem_cons_of_mem _ (List.mem_append_left _ (xdhZ (List.mem_map.2 ⟨i, List.mem_range.2 hi, rfl⟩) n hn))))
        have e0 := hcell 0 (by omega)
        have e1 := hcell 1 (by omega)
        have e2 := hcell 2 (by omega)
        have e3 := hcell 3 (by omega)
        rw [Deep.add_add] at e0 e1 e2 e3
        exact ⟨((c0, c1, c2, c3), f), by simpa using e0, by simpa using e1, by simpa using e2, by simpa using e3, hf, hff⟩
    obtain ⟨q, hq⟩ := Deep.choose_lt each
    obtain ⟨b, off, spot⟩ := a
    refine ⟨(List.range len').map fun i => (q i).2, ⟨some ⟨b, off, spot⟩, m, by simp, by simp; omega, fun k f hk => ?_⟩, xavZ _ _ _, by simpa using hlen, ?_⟩
    · have hk1 : k < len' := by have := xciZ hk; simpa using this
      have ho : f = (q k).2 := by simp [hk1] at hk; exact hk.symm
      obtain ⟨c0, c1, c2, c3, hf, _⟩ := hq k hk1
      have hs0 := (hq 0 (by omega)).1
      have hspot : spot = none := by simpa [Addr.add] using World.cell?_spot hs0
      subst hspot
      rw [xdsZ] at c0 c1 c2 c3
      exact ⟨b, off, _, _, _, _, rfl, xbkZ c0, c0, c1, c2, c3, by rw [ho]; exact hf⟩
    · intro b' off' n' cap' k c1 c3 hv hk g1 g3
      cases hv
      obtain ⟨_, d1, _, d3, _, hff⟩ := hq k hk
      rw [xdsZ] at d1 d3
      rw [show off + (k * 4 + 1) = off + k * 4 + 1 by omega, g1] at d1
      rw [show off + (k * 4 + 3) = off + k * 4 + 3 by omega, g3] at d3
      cases d1
      cases d3
      exact hff
theorem open_progC {base : Nat} {r : Reach} {v : Value} {d : DataW H} {p : List MemPlace} (hv : Value.okWide Tryz.prog W r base 24 v) (h : DataW.Trod enc Tryz.prog W 0 (fun _ => true) true 24 v d p) (hs : ∀ n ∈ d.weights Tryz.prog 24, n ≤ reachBytes) :
    ∃ (c : Value) (l : List Fn), v = .agg #[c] ∧ ProgFull W c l := by
  obtain ⟨cs, rfl, hsz⟩ := okWide_struct Tryz.underlying24 hv
  rw [cells_prog] at hsz
  obtain ⟨cs⟩ := cs
  match cs, hsz with
  | [c], _ =>
    obtain ⟨fuel, hf⟩ := h
    obtain ⟨y0, n, hx, _, h0⟩ := trod_struct1 Tryz.underlying24 hf
    simp [cells_fns, Value.cells] at h0
    have hx1 := congrArg Prod.fst hx
    simp only at hx1
    rw [hx1] at hs
    simp only [DataW.weights, Tryz.underlying24] at hs
    obtain ⟨l, hl⟩ := open_fnsD h0 (fun n hn => hs n (by simp [DataW.weightsEach, hn]))
    exact ⟨c, l, rfl, hl⟩
end
end Go.Proofs.YtmjjkenblfndgaaGreat


