/- My texts Mr Nb: what of them is needed, joined. -/
import Derived.Deep.RegionWith
import Derived.Test.YtmjjkenblfndgaaGreatE1
import Derived.Test.YtmjjkenblfndgaaGreatE12
import Derived.Test.YtmjjkenblfndgaaGreatE13
import Derived.Test.YtmjjkenblfndgaaGreatE15
set_option maxRecDepth 100000
set_option maxHeartbeats 8000000
/- stride.Do. -/
namespace Go.Proofs.YtmjjkenblfndgaaGreat
open Go.RowKit
set_option linter.unusedSimpArgs false
set_option linter.unusedVariables false
theorem xiwZ {P : Program} {c : Code} {Q : Exit → Act → World → Prop} {a : Act} {w : World} (h : c.wp P (Exit.then (Q .normal) (fun _ _ _ => False)) a w) : c.wp P Q a w :=
  wp_mono h (fun e a' w' hq => by cases e <;> first | exact hq | exact hq.elim)
theorem xbiZ {w : World} {R : Nat} {a b c d e f g v : Value} {p : Addr} (h : w.cell? p = some v) (hn : ¬ p.block = R) : (((((((w.setCell ⟨R, 0, none⟩ a).setCell ⟨R, 1, none⟩ b).setCell ⟨R, 2, none⟩ c).setCell ⟨R, 3, none⟩ d).setCell ⟨R, 4, none⟩ e).setCell ⟨R, 5, none⟩ f).setCell ⟨R, 6, none⟩ g).cell? p = some v :=
  xcdZ (i := 6) (xd9Z h hn) hn
theorem xg1Z (W : World) (R : Nat) (a b c d e f g : Value) : W.grownBy (((((((W.setCell ⟨R, 0, none⟩ a).setCell ⟨R, 1, none⟩ b).setCell ⟨R, 2, none⟩ c).setCell ⟨R, 3, none⟩ d).setCell ⟨R, 4, none⟩ e).setCell ⟨R, 5, none⟩ f).setCell ⟨R, 6, none⟩ g) (some R) := (xb2Z W R a b c d e f).trans (xakZ _ ⟨R, 6, none⟩ g)
theorem xk8Z {W : World} {R : Nat} {t : TypeId} {a0 a1 a2 a3 a4 a5 a6 : Value} (h : W.heap[R]? = some (.cells #[a0, a1, a2, a3, a4, a5, a6] t (0, 0))) {a b c d e f g : Value} : (((((((W.setCell ⟨R, 0, none⟩ a).setCell ⟨R, 1, none⟩ b).setCell ⟨R, 2, none⟩ c).setCell ⟨R, 3, none⟩ d).setCell ⟨R, 4, none⟩ e).setCell ⟨R, 5, none⟩ f).setCell ⟨R, 6, none⟩ g).heap[R]? = some (.cells #[a, b, c, d, e, f, g] t (0, 0)) := by
  have h0 := heap_setCell_same W R 0 _ _ a h
  have h1 := heap_setCell_same _ R 1 _ _ b h0
  have h2 := heap_setCell_same _ R 2 _ _ c h1
  have h3 := heap_setCell_same _ R 3 _ _ d h2
  have h4 := heap_setCell_same _ R 4 _ _ e h3
  have h5 := heap_setCell_same _ R 5 _ _ f h4
  have h6 := heap_setCell_same _ R 6 _ _ g h5
  simpa using h6
theorem xkhZ {W : World} {R : Nat} {t : TypeId} {a0 a1 a2 a3 a4 a5 : Value} (h : W.heap[R]? = some (.cells #[a0, a1, a2, a3, a4, a5] t (0, 0))) {a b c d e f g g' : Value} : ((((((((W.setCell ⟨R, 0, none⟩ a).setCell ⟨R, 1, none⟩ b).setCell ⟨R, 2, none⟩ c).setCell ⟨R, 3, none⟩ d).setCell ⟨R, 4, none⟩ e).setCell ⟨R, 5, none⟩ f).setCell ⟨R, 4, none⟩ g).setCell ⟨R, 5, none⟩ g').heap[R]? = some (.cells #[a, b, c, d, g, g'] t (0, 0)) := by
  have h0 := heap_setCell_same W R 0 _ _ a h
  have h1 := heap_setCell_same _ R 1 _ _ b h0
  have h2 := heap_setCell_same _ R 2 _ _ c h1
  have h3 := heap_setCell_same _ R 3 _ _ d h2
  have h4 := heap_setCell_same _ R 4 _ _ e h3
  have h5 := heap_setCell_same _ R 5 _ _ f h4
  have h6 := heap_setCell_same _ R 4 _ _ g h5
  have h7 := heap_setCell_same _ R 5 _ _ g' h6
  simpa using h7
theorem fin_in {w0 W : World} {b : Nat} {pv fv bv iv ov iw : Value} {q : List FV} {qb : List Value} {M : Mach} {k : Nat} {I : List Int} (h : FAt w0 W b pv fv bv iv ov q qb M k iw I) : ∃ p n c, iv = .slice p n c := by
  rcases h.val with ⟨_, h1⟩ | ⟨g, n, cap, j, c, _, h1, _⟩
  · obtain ⟨p, c, h2⟩ := xaiZ h.own.inp
    exact ⟨_, _, _, h1.trans h2⟩
  · exact ⟨_, _, _, h1⟩
theorem xepZ (w : World) (a b c : Obj) : (((w.alloc a).alloc b).alloc c).heap[w.heap.size]? = some a := xalZ (xalZ (World.alloc_heap_new w a) b) c
theorem xedZ (w : World) (a b c : Obj) : (((w.alloc a).alloc b).alloc c).heap[w.heap.size + 1]? = some b := xalZ (xa1Z w a b) c
theorem xo3Z (p : List Fn) (pv : Value) (M R : Mach) (fv bv iv ov : Value) (w : World) (hp : FnsAt w pv p) (hM : MachAt w fv bv iv ov M) (hsm : SmallM M)
    (HD : ∀ (w0 W : World) (b : Nat), FnsAt w0 pv p → Doer w0 W b pv M → Calls Tryz.prog 111 #[.pointer (some ⟨b, 0, none⟩)] W fun e w' => e = .returned (.tuple #[]) ∧ Fin w0 w' b pv R) :
    Calls Tryz.prog 76 #[.agg #[pv], .agg #[fv, bv, iv, ov, .int .i64 M.status, .int .i64 M.trap]] w fun e w' => ∃ fv' bv' iv' ov', e = .returned (.agg #[fv', bv', iv', ov', .int .i64 R.status, .int .i64 R.trap]) ∧ MRes w' w.heap.size fv' bv' iv' ov' R ∧ Below w.heap.size w w' := by
  have hmf : ∀ (fn : Go.Fn) (first cap : Array Value) (w : World), (Instr.makeFunc fn first cap).run Tryz.prog w = .ok (.func fn first cap) w := fun _ _ _ _ => rfl
  obtain ⟨pp, qp, hpv, -, -⟩ := id hp
  obtain ⟨pf, cf, hfv, -, -, -⟩ := id hM.fr
  obtain ⟨pb, cb, hbv, -, -⟩ := id hM.bl
  obtain ⟨pi, ci, hiv, -⟩ := hM.inp.shp
  obtain ⟨po, co, hov, -⟩ := hM.out.shp
  subst hpv hfv hbv hiv hov
  obtain ⟨W1, hW1⟩ : ∃ W1, ((w.alloc (.cells #[.slice pp p.length qp] 24)).alloc (.cells #[.slice pf M.frames.length cf, .slice pb M.blocks.length cb, .slice pi M.inp.length ci, .slice po M.out.length co, .int .i64 M.status, .int .i64 M.trap] 48)).alloc (.cells #[.slice none 0 0, .slice none 0 0, .slice none 0 0, .slice none 0 0, .int .i64 0, .int .i64 0] 48) = W1 := ⟨_, rfl⟩
  have b1 : Below w.heap.size w W1 := by rw [← hW1]; exact (((Below.refl _ w).alloc (Nat.le_refl _) _).alloc (by simp) _).alloc (by simp; omega) _
  have x1 : W1.heap[w.heap.size]? = some (.cells #[.slice pp p.length qp] 24 (0, 0)) := by rw [← hW1]; exact xepZ _ _ _ _
  have y1 : W1.heap[w.heap.size + 1]? = some (.cells #[.slice pf M.frames.length cf, .slice pb M.blocks.length cb, .slice pi M.inp.length ci, .slice po M.out.length co, .int .i64 M.status, .int .i64 M.trap] 48 (0, 0)) := by rw [← hW1]; exact xedZ _ _ _ _
  have u1 : W1.heap[w.heap.size + 1 + 1]? = some (.cells #[.slice none 0 0, .slice none 0 0, .slice none 0 0, .slice none 0 0, .int .i64 0, .int .i64 0] 48 (0, 0)) := by rw [← hW1]; exact new3 _ _ _ _
  have lx := xacZ x1
  have ly := xacZ y1
  have lu := xacZ u1
  have k0 : W1.cell? ⟨w.heap.size, 0, none⟩ = some (.slice pp p.length qp) := xaaZ x1 0
  have d0 : W1.cell? ⟨w.heap.size + 1, 0, none⟩ = some (.slice pf M.frames.length cf) := xaaZ y1 0
  have d1 : W1.cell? ⟨w.heap.size + 1, 1, none⟩ = some (.slice pb M.blocks.length cb) := xaaZ y1 1
  have d2 : W1.cell? ⟨w.heap.size + 1, 2, none⟩ = some (.slice pi M.inp.length ci) := xaaZ y1 2
  have d3 : W1.cell? ⟨w.heap.size + 1, 3, none⟩ = some (.slice po M.out.length co) := xaaZ y1 3
  have d4 : W1.cell? ⟨w.heap.size + 1, 4, none⟩ = some (.int .i64 M.status) := xaaZ y1 4
  have d5 : W1.cell? ⟨w.heap.size + 1, 5, none⟩ = some (.int .i64 M.trap) := xaaZ y1 5
  have hdA : ∀ o, Below W1.heap.size W1 (W1.alloc o).drew := fun o => ((Below.refl _ W1).alloc (Nat.le_refl _) o).drew
  have hn1 : ¬ w.heap.size = W1.heap.size := by omega
  have hn2 : ¬ w.heap.size + 1 = W1.heap.size := by omega
  have HFM : Hid (∀ W, Below W1.heap.size W1 W → Calls Tryz.prog 53 #[.agg #[.slice pf M.frames.length cf, .slice pb M.blocks.length cb, .slice pi M.inp.length ci, .slice po M.out.length co, .int .i64 M.status, .int .i64 M.trap]] W fun e w' => ∃ fv' bv' iv' ov', e = .returned (.agg #[fv', bv', iv', ov', .int .i64 M.status, .int .i64 M.trap]) ∧ ∃ q qb, MOwn w' W.heap.size fv' bv' iv' ov' q qb M ∧ Below W.heap.size W w') := fun W hW => xcqZ M _ _ _ _ W ((hM.below b1).below hW) hsm
  have HP := hideP (hp.below b1)
  have HDD := hideP HD
  have HX := hideP x1
  have HY := hideP y1
  have HU := hideP u1
  clear hp hM hsm HD x1 y1 u1
  go_enter_defers Tryz.func76, Tryz.ntmps76
  go_wp2_with fail
  refine xiwZ ?_
  go_region_held3 (fun W => W.cell? ⟨w.heap.size, 0, none⟩ = some (.slice pp p.length qp) ∧ W.cell? ⟨w.heap.size + 1, 0, none⟩ = some (.slice pf M.frames.length cf) ∧ W.cell? ⟨w.heap.size + 1, 1, none⟩ = some (.slice pb M.blocks.length cb) ∧ W.cell? ⟨w.heap.size + 1, 2, none⟩ = some (.slice pi M.inp.length ci) ∧ W.cell? ⟨w.heap.size + 1, 3, none⟩ = some (.slice po M.out.length co) ∧ W.cell? ⟨w.heap.size + 1, 4, none⟩ = some (.int .i64 M.status) ∧ W.cell? ⟨w.heap.size + 1, 5, none⟩ = some (.int .i64 M.trap)) (first | go_keep | exact ⟨xbiZ h0 hn1, xbiZ g0 hn2, xbiZ g1 hn2, xbiZ g2 hn2, xbiZ g3 hn2, xbiZ g4 hn2, xbiZ g5 hn2⟩)
    (first
      | (go_at_call 53; (with_reducible refine (HFM.out _ ((Below.refl _ W1).drew)).mono ?_); rintro e w2 ⟨fv2, bv2, iv2, ov2, rfl, q2, qb2, r2, b2'⟩; have b2 : Below W1.heap.size W1 w2 := ((Below.refl _ W1).drew).trans b2'; obtain ⟨pf2, cf2, hfv2⟩ := xaiZ r2.fr; obtain ⟨pb2, cb2, hbv2⟩ := xaiZ r2.bl; obtain ⟨pi2, ci2, hiv2⟩ := xaiZ r2.inp; obtain ⟨po2, co2, hov2⟩ := xaiZ r2.out; subst hfv2 hbv2 hiv2 hov2; have R2 := hideP r2; clear r2; have h0 := (b2.cell (p := ⟨w.heap.size, 0, none⟩) lx).trans k0; have g0 := (b2.cell (p := ⟨w.heap.size + 1, 0, none⟩) ly).trans d0; have g1 := (b2.cell (p := ⟨w.heap.size + 1, 1, none⟩) ly).trans d1; have g2 := (b2.cell (p := ⟨w.heap.size + 1, 2, none⟩) ly).trans d2; have g3 := (b2.cell (p := ⟨w.heap.size + 1, 3, none⟩) ly).trans d3; have g4 := (b2.cell (p := ⟨w.heap.size + 1, 4, none⟩) ly).trans d4; have g5 := (b2.cell (p := ⟨w.heap.size + 1, 5, none⟩) ly).trans d5)
      | (go_at_call 53; (with_reducible refine (HFM.out _ (hdA _)).mono ?_); rintro e w2 ⟨fv2, bv2, iv2, ov2, rfl, q2, qb2, r2, b2'⟩; have b2 : Below W1.heap.size W1 w2 := (hdA _).trans (b2'.mono (hdA _).size); have q0 := (b2'.block W1.heap.size (xacZ (World.alloc_heap_new W1 _))).trans (World.alloc_heap_new W1 _); have Q0 := hideP q0; have m0 := xaaZ q0 0; have m1 := xaaZ q0 1; have m2 := xaaZ q0 2; have m3 := xaaZ q0 3; have m4 := xaaZ q0 4; have m5 := xaaZ q0 5; have m6 := xaaZ q0 6; simp at m0 m1 m2 m3 m4 m5 m6; have n := Lib.frozen_of_heap q0; have n0 := n 0; have n1 := n 1; have n2 := n 2; have n3 := n 3; have n4 := n 4; have n5 := n 5; have n6 := n 6; clear n q0; obtain ⟨pf2, cf2, hfv2⟩ := xaiZ r2.fr; obtain ⟨pb2, cb2, hbv2⟩ := xaiZ r2.bl; obtain ⟨pi2, ci2, hiv2⟩ := xaiZ r2.inp; obtain ⟨po2, co2, hov2⟩ := xaiZ r2.out; subst hfv2 hbv2 hiv2 hov2; have R2 := hideP r2; clear r2; have h0 := (b2.cell (p := ⟨w.heap.size, 0, none⟩) lx).trans k0; have g0 := (b2.cell (p := ⟨w.heap.size + 1, 0, none⟩) ly).trans d0; have g1 := (b2.cell (p := ⟨w.heap.size + 1, 1, none⟩) ly).trans d1; have g2 := (b2.cell (p := ⟨w.heap.size + 1, 2, none⟩) ly).trans d2; have g3 := (b2.cell (p := ⟨w.heap.size + 1, 3, none⟩) ly).trans d3; have g4 := (b2.cell (p := ⟨w.heap.size + 1, 4, none⟩) ly).trans d4; have g5 := (b2.cell (p := ⟨w.heap.size + 1, 5, none⟩) ly).trans d5))
  · have hDo : Doer W1 (w2.alloc (.cells #[.slice pf2 q2.length cf2, .slice pb2 qb2.length cb2, .slice pi2 M.inp.length ci2, .slice po2 M.out.length co2, .int .i64 M.status, .int .i64 M.trap, .slice pp p.length qp] 162)) w2.heap.size (.slice pp p.length qp) M :=
      ⟨_, _, _, _, q2, qb2, World.alloc_heap_new w2 _, (R2.out.low (Nat.le_refl _)).below ((Below.refl _ w2).alloc (Nat.le_refl _) _), b2.alloc b2.size _, b2.size⟩
    have HC := hideP (HDD.out W1 _ _ HP.out hDo)
    clear hDo
    go_wp2_with (go_at_call 111; refine HC.out.mono ?_; rintro e w6 ⟨rfl, fv6, bv6, iv6, ov6, q6, qb6, k6, iw6, I6, F6⟩; have v0 := xaaZ F6.cell 0; have v1 := xaaZ F6.cell 1; have v2 := xaaZ F6.cell 2; have v3 := xaaZ F6.cell 3; have v4 := xaaZ F6.cell 4; have v5 := xaaZ F6.cell 5; simp at v0 v1 v2 v3 v4 v5; have hu6 := (F6.bel.block _ lu).trans HU.out; have a0 := xaaZ hu6 0; have a1 := xaaZ hu6 1; have a2 := xaaZ hu6 2; have a3 := xaaZ hu6 3; have a4 := xaaZ hu6 4; have a5 := xaaZ hu6 5; simp at a0 a1 a2 a3 a4 a5; have z := Lib.frozen_of_heap hu6; have z0 := z 0; have z1 := z 1; have z2 := z 2; have z3 := z 3; have z4 := z 4; have z5 := z 5; obtain ⟨pf6, cf6, hf6⟩ := xaiZ F6.own.fr; obtain ⟨pb6, cb6, hb6⟩ := xaiZ F6.own.bl; obtain ⟨po6, co6, ho6⟩ := xaiZ F6.own.out; obtain ⟨pi6, ni6, ci6, hi6⟩ := fin_in F6; subst hf6 hb6 ho6 hi6; have HF6 := hideP F6; have HU6 := hideP hu6; clear F6 z hu6)
    refine leaves_cons (f := 110) (args := #[.pointer (some ⟨w.heap.size + 1, 0, none⟩), .pointer (some ⟨w.heap.size + 1 + 1, 0, none⟩)]) (by simp) (by simp [go_sem]) ?_
    refine (xkdZ _ _ _).mono ?_
    rintro e u' w'' ⟨rfl, rfl, rfl⟩
    have hg6 := xb2Z w6 (w.heap.size + 1 + 1) (.slice pf6 q6.length cf6) (.slice pb6 qb6.length cb6) (.slice pi6 ni6 ci6) (.slice po6 R.out.length co6) (.int .i64 R.status) (.int .i64 R.trap)
    have hty6 : TyRow w6 (some (w.heap.size + 1 + 1)) 48 := xatZ HU6.out
    have hres : MRes w6 W1.heap.size (.slice pf6 q6.length cf6) (.slice pb6 qb6.length cb6) (.slice pi6 ni6 ci6) (.slice po6 R.out.length co6) R := ⟨q6, qb6, k6, iw6, I6, HF6.out.own, HF6.out.rest, HF6.out.val⟩
    have hres2 := (hres.low b1.size).keep hg6 hty6 (by decide) (by decide) (by decide) (by decide)
    have hb7 : Below w.heap.size w _ := (b1.trans (HF6.out.bel.mono b1.size)).grown hg6 (Nat.le_trans b1.size HF6.out.bel.size) (fun k hk => by cases hk; omega)
    have HRES := hideP hres2
    have HB7 := hideP hb7
    clear hres hres2 hb7 hg6 hty6
    simp [Leaves, settle, results, Tryz.results76, go_sem, a0, a1, a2, a3, a4, a5]
    exact ⟨_, _, _, _, ⟨rfl, rfl, rfl, rfl⟩, HRES.out, HB7.out⟩
  · have hgr := xg1Z w2 W1.heap.size (.slice pf2 q2.length cf2) (.slice pb2 qb2.length cb2) (.slice pi2 M.inp.length ci2) (.slice po2 M.out.length co2) (.int .i64 M.status) (.int .i64 M.trap) (.slice pp p.length qp)
    have hDo : Doer W1 (((((((w2.setCell ⟨W1.heap.size, 0, none⟩ (.slice pf2 q2.length cf2)).setCell ⟨W1.heap.size, 1, none⟩ (.slice pb2 qb2.length cb2)).setCell ⟨W1.heap.size, 2, none⟩ (.slice pi2 M.inp.length ci2)).setCell ⟨W1.heap.size, 3, none⟩ (.slice po2 M.out.length co2)).setCell ⟨W1.heap.size, 4, none⟩ (.int .i64 M.status)).setCell ⟨W1.heap.size, 5, none⟩ (.int .i64 M.trap)).setCell ⟨W1.heap.size, 6, none⟩ (.slice pp p.length qp)) W1.heap.size (.slice pp p.length qp) M :=
      ⟨_, _, _, _, q2, qb2, xk8Z Q0.out, (R2.out.low (hdA _).size).keep hgr (xatZ Q0.out) (by decide) (by decide) (by decide) (by decide), b2.grown hgr b2.size (fun k hk => by cases hk; exact Nat.le_refl _), Nat.le_refl _⟩
    have HC := hideP (HDD.out W1 _ _ HP.out hDo)
    clear hDo
    go_wp2_with (go_at_call 111; refine HC.out.mono ?_; rintro e w6 ⟨rfl, fv6, bv6, iv6, ov6, q6, qb6, k6, iw6, I6, F6⟩; have v0 := xaaZ F6.cell 0; have v1 := xaaZ F6.cell 1; have v2 := xaaZ F6.cell 2; have v3 := xaaZ F6.cell 3; have v4 := xaaZ F6.cell 4; have v5 := xaaZ F6.cell 5; simp at v0 v1 v2 v3 v4 v5; have hu6 := (F6.bel.block _ lu).trans HU.out; have a0 := xaaZ hu6 0; have a1 := xaaZ hu6 1; have a2 := xaaZ hu6 2; have a3 := xaaZ hu6 3; have a4 := xaaZ hu6 4; have a5 := xaaZ hu6 5; simp at a0 a1 a2 a3 a4 a5; have z := Lib.frozen_of_heap hu6; have z0 := z 0; have z1 := z 1; have z2 := z 2; have z3 := z 3; have z4 := z 4; have z5 := z 5; obtain ⟨pf6, cf6, hf6⟩ := xaiZ F6.own.fr; obtain ⟨pb6, cb6, hb6⟩ := xaiZ F6.own.bl; obtain ⟨po6, co6, ho6⟩ := xaiZ F6.own.out; obtain ⟨pi6, ni6, ci6, hi6⟩ := fin_in F6; subst hf6 hb6 ho6 hi6; have HF6 := hideP F6; have HU6 := hideP hu6; clear F6 z hu6)
    refine leaves_cons (f := 110) (args := #[.pointer (some ⟨w.heap.size + 1, 0, none⟩), .pointer (some ⟨w.heap.size + 1 + 1, 0, none⟩)]) (by simp) (by simp [go_sem]) ?_
    refine (xkdZ _ _ _).mono ?_
    rintro e u' w'' ⟨rfl, rfl, rfl⟩
    have hg6 := xb2Z w6 (w.heap.size + 1 + 1) (.slice pf6 q6.length cf6) (.slice pb6 qb6.length cb6) (.slice pi6 ni6 ci6) (.slice po6 R.out.length co6) (.int .i64 R.status) (.int .i64 R.trap)
    have hty6 : TyRow w6 (some (w.heap.size + 1 + 1)) 48 := xatZ HU6.out
    have hres : MRes w6 W1.heap.size (.slice pf6 q6.length cf6) (.slice pb6 qb6.length cb6) (.slice pi6 ni6 ci6) (.slice po6 R.out.length co6) R := ⟨q6, qb6, k6, iw6, I6, HF6.out.own, HF6.out.rest, HF6.out.val⟩
    have hres2 := (hres.low b1.size).keep hg6 hty6 (by decide) (by decide) (by decide) (by decide)
    have hb7 : Below w.heap.size w _ := (b1.trans (HF6.out.bel.mono b1.size)).grown hg6 (Nat.le_trans b1.size HF6.out.bel.size) (fun k hk => by cases hk; omega)
    have HRES := hideP hres2
    have HB7 := hideP hb7
    clear hres hres2 hb7 hg6 hty6
    simp [Leaves, settle, results, Tryz.results76, go_sem, a0, a1, a2, a3, a4, a5]
    exact ⟨_, _, _, _, ⟨rfl, rfl, rfl, rfl⟩, HRES.out, HB7.out⟩
theorem xnfZ (p : List Fn) (pv : Value) (M : Mach) (why : Int) (fv bv iv ov : Value) (w : World) (hp : FnsAt w pv p) (hM : MachAt w fv bv iv ov M) (hsm : SmallM M)
    (HD : ∀ (w0 W : World) (b : Nat), FnsAt w0 pv p → Doer w0 W b pv M → Calls Tryz.prog 111 #[.pointer (some ⟨b, 0, none⟩)] W fun e w' => e = .panicked [{ v := .iface 159 (.int .i64 why), recovered := false }] ∧ Below w0.heap.size w0 w') :
    Calls Tryz.prog 76 #[.agg #[pv], .agg #[fv, bv, iv, ov, .int .i64 M.status, .int .i64 M.trap]] w fun e w' => ∃ fv' bv' iv' ov', e = .returned (.agg #[fv', bv', iv', ov', .int .i64 3, .int .i64 why]) ∧ MRes w' w.heap.size fv' bv' iv' ov' (trapM M why) ∧ Below w.heap.size w w' := by
  have hmf : ∀ (fn : Go.Fn) (first cap : Array Value) (w : World), (Instr.makeFunc fn first cap).run Tryz.prog w = .ok (.func fn first cap) w := fun _ _ _ _ => rfl
  obtain ⟨pp, qp, hpv, -, -⟩ := id hp
  obtain ⟨pf, cf, hfv, -, -, -⟩ := id hM.fr
  obtain ⟨pb, cb, hbv, -, -⟩ := id hM.bl
  obtain ⟨pi, ci, hiv, -⟩ := hM.inp.shp
  obtain ⟨po, co, hov, -⟩ := hM.out.shp
  subst hpv hfv hbv hiv hov
  obtain ⟨W1, hW1⟩ : ∃ W1, ((w.alloc (.cells #[.slice pp p.length qp] 24)).alloc (.cells #[.slice pf M.frames.length cf, .slice pb M.blocks.length cb, .slice pi M.inp.length ci, .slice po M.out.length co, .int .i64 M.status, .int .i64 M.trap] 48)).alloc (.cells #[.slice none 0 0, .slice none 0 0, .slice none 0 0, .slice none 0 0, .int .i64 0, .int .i64 0] 48) = W1 := ⟨_, rfl⟩
  have b1 : Below w.heap.size w W1 := by rw [← hW1]; exact (((Below.refl _ w).alloc (Nat.le_refl _) _).alloc (by simp) _).alloc (by simp; omega) _
  have x1 : W1.heap[w.heap.size]? = some (.cells #[.slice pp p.length qp] 24 (0, 0)) := by rw [← hW1]; exact xepZ _ _ _ _
  have y1 : W1.heap[w.heap.size + 1]? = some (.cells #[.slice pf M.frames.length cf, .slice pb M.blocks.length cb, .slice pi M.inp.length ci, .slice po M.out.length co, .int .i64 M.status, .int .i64 M.trap] 48 (0, 0)) := by rw [← hW1]; exact xedZ _ _ _ _
  have u1 : W1.heap[w.heap.size + 1 + 1]? = some (.cells #[.slice none 0 0, .slice none 0 0, .slice none 0 0, .slice none 0 0, .int .i64 0, .int .i64 0] 48 (0, 0)) := by rw [← hW1]; exact new3 _ _ _ _
  have lx := xacZ x1
  have ly := xacZ y1
  have lu := xacZ u1
  have k0 : W1.cell? ⟨w.heap.size, 0, none⟩ = some (.slice pp p.length qp) := xaaZ x1 0
  have d0 : W1.cell? ⟨w.heap.size + 1, 0, none⟩ = some (.slice pf M.frames.length cf) := xaaZ y1 0
  have d1 : W1.cell? ⟨w.heap.size + 1, 1, none⟩ = some (.slice pb M.blocks.length cb) := xaaZ y1 1
  have d2 : W1.cell? ⟨w.heap.size + 1, 2, none⟩ = some (.slice pi M.inp.length ci) := xaaZ y1 2
  have d3 : W1.cell? ⟨w.heap.size + 1, 3, none⟩ = some (.slice po M.out.length co) := xaaZ y1 3
  have d4 : W1.cell? ⟨w.heap.size + 1, 4, none⟩ = some (.int .i64 M.status) := xaaZ y1 4
  have d5 : W1.cell? ⟨w.heap.size + 1, 5, none⟩ = some (.int .i64 M.trap) := xaaZ y1 5
  have hdA : ∀ o, Below W1.heap.size W1 (W1.alloc o).drew := fun o => ((Below.refl _ W1).alloc (Nat.le_refl _) o).drew
  have hn1 : ¬ w.heap.size = W1.heap.size := by omega
  have hn2 : ¬ w.heap.size + 1 = W1.heap.size := by omega
  have HFM : Hid (∀ W, Below W1.heap.size W1 W → Calls Tryz.prog 53 #[.agg #[.slice pf M.frames.length cf, .slice pb M.blocks.length cb, .slice pi M.inp.length ci, .slice po M.out.length co, .int .i64 M.status, .int .i64 M.trap]] W fun e w' => ∃ fv' bv' iv' ov', e = .returned (.agg #[fv', bv', iv', ov', .int .i64 M.status, .int .i64 M.trap]) ∧ ∃ q qb, MOwn w' W.heap.size fv' bv' iv' ov' q qb M ∧ Below W.heap.size W w') := fun W hW => xcqZ M _ _ _ _ W ((hM.below b1).below hW) hsm
  have HP := hideP (hp.below b1)
  have HM := hideP (hM.below b1)
  have HSM := hideP hsm
  have HDD := hideP HD
  have HX := hideP x1
  have HY := hideP y1
  have HU := hideP u1
  clear hp hM hsm HD x1 y1 u1
  go_enter_defers Tryz.func76, Tryz.ntmps76
  go_wp2_with fail
  refine xiwZ ?_
  go_region_held3 (fun W => W.cell? ⟨w.heap.size, 0, none⟩ = some (.slice pp p.length qp) ∧ W.cell? ⟨w.heap.size + 1, 0, none⟩ = some (.slice pf M.frames.length cf) ∧ W.cell? ⟨w.heap.size + 1, 1, none⟩ = some (.slice pb M.blocks.length cb) ∧ W.cell? ⟨w.heap.size + 1, 2, none⟩ = some (.slice pi M.inp.length ci) ∧ W.cell? ⟨w.heap.size + 1, 3, none⟩ = some (.slice po M.out.length co) ∧ W.cell? ⟨w.heap.size + 1, 4, none⟩ = some (.int .i64 M.status) ∧ W.cell? ⟨w.heap.size + 1, 5, none⟩ = some (.int .i64 M.trap)) (first | go_keep | exact ⟨xbiZ h0 hn1, xbiZ g0 hn2, xbiZ g1 hn2, xbiZ g2 hn2, xbiZ g3 hn2, xbiZ g4 hn2, xbiZ g5 hn2⟩)
    (first
      | (go_at_call 53; (with_reducible refine (HFM.out _ ((Below.refl _ W1).drew)).mono ?_); rintro e w2 ⟨fv2, bv2, iv2, ov2, rfl, q2, qb2, r2, b2'⟩; have b2 : Below W1.heap.size W1 w2 := ((Below.refl _ W1).drew).trans b2'; obtain ⟨pf2, cf2, hfv2⟩ := xaiZ r2.fr; obtain ⟨pb2, cb2, hbv2⟩ := xaiZ r2.bl; obtain ⟨pi2, ci2, hiv2⟩ := xaiZ r2.inp; obtain ⟨po2, co2, hov2⟩ := xaiZ r2.out; subst hfv2 hbv2 hiv2 hov2; have R2 := hideP r2; clear r2; have h0 := (b2.cell (p := ⟨w.heap.size, 0, none⟩) lx).trans k0; have g0 := (b2.cell (p := ⟨w.heap.size + 1, 0, none⟩) ly).trans d0; have g1 := (b2.cell (p := ⟨w.heap.size + 1, 1, none⟩) ly).trans d1; have g2 := (b2.cell (p := ⟨w.heap.size + 1, 2, none⟩) ly).trans d2; have g3 := (b2.cell (p := ⟨w.heap.size + 1, 3, none⟩) ly).trans d3; have g4 := (b2.cell (p := ⟨w.heap.size + 1, 4, none⟩) ly).trans d4; have g5 := (b2.cell (p := ⟨w.heap.size + 1, 5, none⟩) ly).trans d5)
      | (go_at_call 53; (with_reducible refine (HFM.out _ (hdA _)).mono ?_); rintro e w2 ⟨fv2, bv2, iv2, ov2, rfl, q2, qb2, r2, b2'⟩; have b2 : Below W1.heap.size W1 w2 := (hdA _).trans (b2'.mono (hdA _).size); have q0 := (b2'.block W1.heap.size (xacZ (World.alloc_heap_new W1 _))).trans (World.alloc_heap_new W1 _); have Q0 := hideP q0; have m0 := xaaZ q0 0; have m1 := xaaZ q0 1; have m2 := xaaZ q0 2; have m3 := xaaZ q0 3; have m4 := xaaZ q0 4; have m5 := xaaZ q0 5; have m6 := xaaZ q0 6; simp at m0 m1 m2 m3 m4 m5 m6; have n := Lib.frozen_of_heap q0; have n0 := n 0; have n1 := n 1; have n2 := n 2; have n3 := n 3; have n4 := n 4; have n5 := n 5; have n6 := n 6; clear n q0; obtain ⟨pf2, cf2, hfv2⟩ := xaiZ r2.fr; obtain ⟨pb2, cb2, hbv2⟩ := xaiZ r2.bl; obtain ⟨pi2, ci2, hiv2⟩ := xaiZ r2.inp; obtain ⟨po2, co2, hov2⟩ := xaiZ r2.out; subst hfv2 hbv2 hiv2 hov2; have R2 := hideP r2; clear r2; have h0 := (b2.cell (p := ⟨w.heap.size, 0, none⟩) lx).trans k0; have g0 := (b2.cell (p := ⟨w.heap.size + 1, 0, none⟩) ly).trans d0; have g1 := (b2.cell (p := ⟨w.heap.size + 1, 1, none⟩) ly).trans d1; have g2 := (b2.cell (p := ⟨w.heap.size + 1, 2, none⟩) ly).trans d2; have g3 := (b2.cell (p := ⟨w.heap.size + 1, 3, none⟩) ly).trans d3; have g4 := (b2.cell (p := ⟨w.heap.size + 1, 4, none⟩) ly).trans d4; have g5 := (b2.cell (p := ⟨w.heap.size + 1, 5, none⟩) ly).trans d5))
  · have hDo : Doer W1 (w2.alloc (.cells #[.slice pf2 q2.length cf2, .slice pb2 qb2.length cb2, .slice pi2 M.inp.length ci2, .slice po2 M.out.length co2, .int .i64 M.status, .int .i64 M.trap, .slice pp p.length qp] 162)) w2.heap.size (.slice pp p.length qp) M :=
      ⟨_, _, _, _, q2, qb2, World.alloc_heap_new w2 _, (R2.out.low (Nat.le_refl _)).below ((Below.refl _ w2).alloc (Nat.le_refl _) _), b2.alloc b2.size _, b2.size⟩
    have HC := hideP (HDD.out W1 _ _ HP.out hDo)
    clear hDo
    go_wp2_with (go_at_call 111; refine HC.out.mono ?_; rintro e w6 ⟨rfl, b6⟩; have hy6 := (b6.block _ ly).trans HY.out; have hu6 := (b6.block _ lu).trans HU.out; have HY6 := hideP hy6; have HU6 := hideP hu6; have B6 := hideP b6; clear hy6 hu6 b6)
    refine leaves_cons (f := 110) (args := #[.pointer (some ⟨w.heap.size + 1, 0, none⟩), .pointer (some ⟨w.heap.size + 1 + 1, 0, none⟩)]) (by simp) (by simp [go_sem]) ?_
    refine (xkeZ M _ _ _ _ _ _ why _ (HM.out.below B6.out) HSM.out HY6.out HU6.out).mono ?_
    rintro e u' w'' ⟨rfl, rfl, fv', bv', iv', ov', q7, qb7, w7, hown, b7, hw8⟩
    have hu7 := (b7.block _ (xacZ HU6.out)).trans HU6.out
    have h8 : w''.heap[w.heap.size + 1 + 1]? = some (.cells #[fv', bv', iv', ov', .int .i64 3, .int .i64 why] 48 (0, 0)) := by rw [hw8]; exact xkhZ hu7
    have a0 := xaaZ h8 0
    have a1 := xaaZ h8 1
    have a2 := xaaZ h8 2
    have a3 := xaaZ h8 3
    have a4 := xaaZ h8 4
    have a5 := xaaZ h8 5
    simp at a0 a1 a2 a3 a4 a5
    have hg7 := ((xb2Z w7 (w.heap.size + 1 + 1) fv' bv' iv' ov' (.int .i64 M.status) (.int .i64 M.trap)).trans (xakZ _ ⟨w.heap.size + 1 + 1, 4, none⟩ (.int .i64 3))).trans (xakZ _ ⟨w.heap.size + 1 + 1, 5, none⟩ (.int .i64 why))
    have hty7 : TyRow w7 (some (w.heap.size + 1 + 1)) 48 := xatZ hu7
    have hl6 : w.heap.size ≤ w6.heap.size := Nat.le_trans b1.size B6.out.size
    have hres : MRes w7 w.heap.size fv' bv' iv' ov' (trapM M why) := ⟨q7, qb7, 0, iv', M.inp, ⟨xapZ hown.fr hl6, hown.frs.low hl6, xapZ hown.bl hl6, hown.rows.low hl6⟩, rfl, .inl ⟨rfl, rfl⟩⟩
    have hres2 := hres.keep hg7 hty7 (by decide) (by decide) (by decide) (by decide)
    have hb7 : Below w.heap.size w _ := ((b1.trans (B6.out.mono b1.size)).trans (b7.mono hl6)).grown hg7 (Nat.le_trans hl6 b7.size) (fun k hk => by cases hk; omega)
    rw [← hw8] at hres2 hb7
    have HRES := hideP hres2
    have HB7 := hideP hb7
    obtain ⟨pf7, cf7, hf7⟩ := xaiZ hown.fr
    obtain ⟨pb7, cb7, hb7'⟩ := xaiZ hown.bl
    obtain ⟨pi7, ci7, hi7⟩ := xaiZ hown.inp
    obtain ⟨po7, co7, ho7⟩ := xaiZ hown.out
    subst hf7 hb7' hi7 ho7
    clear hres hres2 hb7 hg7 hty7 hown hu7 h8 hw8
    simp [Leaves, settle, results, Tryz.results76, go_sem, a0, a1, a2, a3, a4, a5]
    exact ⟨_, _, _, _, ⟨rfl, rfl, rfl, rfl⟩, HRES.out, HB7.out⟩
  · have hgr := xg1Z w2 W1.heap.size (.slice pf2 q2.length cf2) (.slice pb2 qb2.length cb2) (.slice pi2 M.inp.length ci2) (.slice po2 M.out.length co2) (.int .i64 M.status) (.int .i64 M.trap) (.slice pp p.length qp)
    have hDo : Doer W1 (((((((w2.setCell ⟨W1.heap.size, 0, none⟩ (.slice pf2 q2.length cf2)).setCell ⟨W1.heap.size, 1, none⟩ (.slice pb2 qb2.length cb2)).setCell ⟨W1.heap.size, 2, none⟩ (.slice pi2 M.inp.length ci2)).setCell ⟨W1.heap.size, 3, none⟩ (.slice po2 M.out.length co2)).setCell ⟨W1.heap.size, 4, none⟩ (.int .i64 M.status)).setCell ⟨W1.heap.size, 5, none⟩ (.int .i64 M.trap)).setCell ⟨W1.heap.size, 6, none⟩ (.slice pp p.length qp)) W1.heap.size (.slice pp p.length qp) M :=
      ⟨_, _, _, _, q2, qb2, xk8Z Q0.out, (R2.out.low (hdA _).size).keep hgr (xatZ Q0.out) (by decide) (by decide) (by decide) (by decide), b2.grown hgr b2.size (fun k hk => by cases hk; exact Nat.le_refl _), Nat.le_refl _⟩
    have HC := hideP (HDD.out W1 _ _ HP.out hDo)
    clear hDo
    go_wp2_with (go_at_call 111; refine HC.out.mono ?_; rintro e w6 ⟨rfl, b6⟩; have hy6 := (b6.block _ ly).trans HY.out; have hu6 := (b6.block _ lu).trans HU.out; have HY6 := hideP hy6; have HU6 := hideP hu6; have B6 := hideP b6; clear hy6 hu6 b6)
    refine leaves_cons (f := 110) (args := #[.pointer (some ⟨w.heap.size + 1, 0, none⟩), .pointer (some ⟨w.heap.size + 1 + 1, 0, none⟩)]) (by simp) (by simp [go_sem]) ?_
    refine (xkeZ M _ _ _ _ _ _ why _ (HM.out.below B6.out) HSM.out HY6.out HU6.out).mono ?_
    rintro e u' w'' ⟨rfl, rfl, fv', bv', iv', ov', q7, qb7, w7, hown, b7, hw8⟩
    have hu7 := (b7.block _ (xacZ HU6.out)).trans HU6.out
    have h8 : w''.heap[w.heap.size + 1 + 1]? = some (.cells #[fv', bv', iv', ov', .int .i64 3, .int .i64 why] 48 (0, 0)) := by rw [hw8]; exact xkhZ hu7
    have a0 := xaaZ h8 0
    have a1 := xaaZ h8 1
    have a2 := xaaZ h8 2
    have a3 := xaaZ h8 3
    have a4 := xaaZ h8 4
    have a5 := xaaZ h8 5
    simp at a0 a1 a2 a3 a4 a5
    have hg7 := ((xb2Z w7 (w.heap.size + 1 + 1) fv' bv' iv' ov' (.int .i64 M.status) (.int .i64 M.trap)).trans (xakZ _ ⟨w.heap.size + 1 + 1, 4, none⟩ (.int .i64 3))).trans (xakZ _ ⟨w.heap.size + 1 + 1, 5, none⟩ (.int .i64 why))
    have hty7 : TyRow w7 (some (w.heap.size + 1 + 1)) 48 := xatZ hu7
    have hl6 : w.heap.size ≤ w6.heap.size := Nat.le_trans b1.size B6.out.size
    have hres : MRes w7 w.heap.size fv' bv' iv' ov' (trapM M why) := ⟨q7, qb7, 0, iv', M.inp, ⟨xapZ hown.fr hl6, hown.frs.low hl6, xapZ hown.bl hl6, hown.rows.low hl6⟩, rfl, .inl ⟨rfl, rfl⟩⟩
    have hres2 := hres.keep hg7 hty7 (by decide) (by decide) (by decide) (by decide)
    have hb7 : Below w.heap.size w _ := ((b1.trans (B6.out.mono b1.size)).trans (b7.mono hl6)).grown hg7 (Nat.le_trans hl6 b7.size) (fun k hk => by cases hk; omega)
    rw [← hw8] at hres2 hb7
    have HRES := hideP hres2
    have HB7 := hideP hb7
    obtain ⟨pf7, cf7, hf7⟩ := xaiZ hown.fr
    obtain ⟨pb7, cb7, hb7'⟩ := xaiZ hown.bl
    obtain ⟨pi7, ci7, hi7⟩ := xaiZ hown.inp
    obtain ⟨po7, co7, ho7⟩ := xaiZ hown.out
    subst hf7 hb7' hi7 ho7
    clear hres hres2 hb7 hg7 hty7 hown hu7 h8 hw8
    simp [Leaves, settle, results, Tryz.results76, go_sem, a0, a1, a2, a3, a4, a5]
    exact ⟨_, _, _, _, ⟨rfl, rfl, rfl, rfl⟩, HRES.out, HB7.out⟩
end Go.Proofs.YtmjjkenblfndgaaGreat


/- machine's checker: where a frame is, and what is to be on its stack. -/
namespace Go.Proofs.YtmjjkenblfndgaaGreat
open Go.RowKit
set_option linter.unusedSimpArgs false
set_option linter.unusedVariables false
structure CkAt (w : World) (p : List Fn) (pv fv bv iv ov : Value) (M : Mach) : Prop where
  fns : FnsAt w pv p
  cap : CapAt w pv
  mach : MachAt w fv bv iv ov M
theorem CkAt.below {w w' : World} {p : List Fn} {pv fv bv iv ov : Value} {M : Mach} (h : CkAt w p pv fv bv iv ov M) (hb : Below w.heap.size w w') : CkAt w' p pv fv bv iv ov M := ⟨h.fns.below hb, h.cap.below h.fns hb, h.mach.below hb⟩
theorem CkAt.shp {w : World} {p : List Fn} {pv fv bv iv ov : Value} {M : Mach} (h : CkAt w p pv fv bv iv ov M) : (∃ q c, pv = .slice q p.length c) ∧ (∃ q c, fv = .slice q M.frames.length c) ∧ (∃ q c, bv = .slice q M.blocks.length c) ∧ (∃ q c, iv = .slice q M.inp.length c) ∧ ∃ q c, ov = .slice q M.out.length c := by
  obtain ⟨pp, qp, h1, -, -⟩ := h.fns
  obtain ⟨pf, cf, h2, -, -, -⟩ := h.mach.fr
  obtain ⟨pb, cb, h3, -, -⟩ := h.mach.bl
  obtain ⟨pi, ci, h4, -⟩ := h.mach.inp.shp
  obtain ⟨po, co, h5, -⟩ := h.mach.out.shp
  exact ⟨⟨_, _, h1⟩, ⟨_, _, h2⟩, ⟨_, _, h3⟩, ⟨_, _, h4⟩, ⟨_, _, h5⟩⟩
theorem ent_ix {p : List Fn} {f : Fn} {e : Nat → Option (List Int)} {l : List (Nat × List Int)} (h : EntsOk p f e l) (n : Int) : decide (entIx l n ≥ 0) = (decide (0 ≤ n) && (e n.toNat).isSome) := by
  rcases xfzZ l n with ⟨h1, h2⟩ | ⟨k, z, h1, h2, h3⟩
  · rw [h1]
    cases hs : e n.toNat with
    | none => simp
    | some s =>
      by_cases h0 : 0 ≤ n
      · obtain ⟨k, hk⟩ := h.all n.toNat s hs
        have := h2 _ (List.mem_of_getElem? hk)
        simp at this
        omega
      · simp [h0]
  · rw [h1]
    obtain ⟨h4, _, _⟩ := h.on k z.1 z.2 h2
    have : n.toNat = z.1 := by omega
    rw [this, h4]
    simp
    omega
theorem eql_op (c a c' a' : Int) (w : World) : (binOp .eql 86 (.agg #[.int .i64 c, .int .i64 a]) (.agg #[.int .i64 c', .int .i64 a'])).run Tryz.prog w = .ok (.bool (c == c' && a == a')) w := by
  have u3 := Tryz.underlying3
  have a3 := Tryz.isAgg3
  have z3 := Tryz.sizeOf3
  have hS : Tryz.prog.underlying 86 = some (.struct (Tryz.prog.fieldsOf 86)) := by kernel_rfl
  have hp : Tryz.prog.stoodInHeld 86 = false := by kernel_rfl
  rw [run_eql_struct, show (10000 : Nat) = 9999 + 1 from rfl, run_equalIn_agg w 9999 86 _ _ hS hp]
  simp only [Program.fieldsOf, Tryz.underlying86]
  go_simp
  by_cases h1 : c = c' <;> by_cases h2 : a = a' <;> simp [h1, h2]
theorem xp2Z (M : Mach) (p : List Fn) (e : Nat → Nat → Option (List Int)) (pv fv bv iv ov lv : Value) (l : List (Nat × List Int)) (i k : Nat) (x : Frm) (f : Fn) (w : World) (h : CkAt w p pv fv bv iv ov M) (hx : M.frames[i]? = some x) (hi : i + 1 = M.frames.length) (hf : p[k]? = some f) (hl : EntsRd w lv l) (ho : EntsOk p f (e k) l) : Calls Tryz.prog 182 #[chkV pv fv bv iv ov M, .int .i64 i, lv] w fun e' w' => e' = .returned (.bool (xb5Z e none x k f)) ∧ Below w.heap.size w w' := by
  obtain ⟨⟨pp, qp, hpv⟩, -, ⟨pb, cb, hbv⟩, ⟨pi, ci, hiv⟩, ⟨po, co, hov⟩⟩ := h.shp
  obtain ⟨pf, cf, hfv, hfm, -, hfc⟩ := id h.mach.fr
  unfold maxLen at hfm
  obtain ⟨pl, cl, hlv⟩ := hl.shp
  subst hpv hfv hbv hiv hov hlv
  obtain ⟨g, off, lv1, sv1, rfl, hg, x0, x1, x2, x3, hL, -, hS, -⟩ := hfc i x hx
  obtain ⟨pl1, cl1, hlv1, -, -⟩ := hL
  obtain ⟨ps1, cs1, hsv1, -, -⟩ := hS
  subst hlv1 hsv1
  have hii : ((i : Int) == (M.frames.length : Int) - 1) = true := by simp; omega
  have hil := xadZ hx
  have hili : (i : Int) < (M.frames.length : Int) := by omega
  have x0a := fun o => xabZ x0 o
  have x1a := fun o => xabZ x1 o
  have x2a := fun o => xabZ x2 o
  have x3a := fun o => xabZ x3 o
  have HE : Hid (∀ W, Below w.heap.size w W → Calls Tryz.prog 224 #[.slice pl l.length cl, .int .i64 x.pc] W fun e w' => e = .returned (.int .i64 (entIx l x.pc)) ∧ Below W.heap.size W w') := fun W hW => xehZ l _ x.pc W (hl.below hW)
  have hix := ent_ix ho x.pc
  have HIX := hideP hix
  clear h hx hf hl ho hfc hix hi
  have hb2 : ∀ o o', Below w.heap.size w ((w.alloc o).alloc o') := fun o o' => ((Below.refl _ w).alloc (Nat.le_refl _) _).alloc (by simp) _
  go_enter Tryz.func182, Tryz.ntmps182
  go_wp2_with (go_at_call 224; refine (HE.out _ (hb2 _ _)).mono ?_; rintro e' w2 ⟨rfl, b2⟩)
  go_ret
  exact ⟨by simp only [HIX.out]; rfl, xaeZ (hb2 _ _) b2⟩
theorem ent_before {p : List Fn} {f : Fn} {e : Nat → Option (List Int)} {l : List (Nat × List Int)} (h : EntsOk p f e l) (hc : f.2.2.2.length ≤ 1000) {n : Int} (h0 : -9223372036854775808 ≤ n) (h1 : n ≤ 9223372036854775807) : decide (entIx l (IntKind.i64.wrap (n - 1)) ≥ 0) = (decide (1 ≤ n) && (e (n - 1).toNat).isSome) := by
  rw [ent_ix h]
  by_cases hm : n = -9223372036854775808
  · subst hm
    have e1 : IntKind.i64.wrap (-9223372036854775808 - 1) = 9223372036854775807 := by rw [IntKind.wrap_i64]; decide
    rw [e1]
    cases hs : e (9223372036854775807 : Int).toNat with
    | none => simp
    | some s =>
      obtain ⟨k, hk⟩ := h.all _ s hs
      have := (h.on k _ s hk).2.2
      omega
  · have e1 : IntKind.i64.wrap (n - 1) = n - 1 := by rw [IntKind.wrap_i64]; omega
    rw [e1]
    congr 1
    by_cases h3 : 1 ≤ n
    · simp [h3]
    · simp [h3]
theorem placed_mid (M : Mach) (p : List Fn) (e : Nat → Nat → Option (List Int)) (pv fv bv iv ov lv : Value) (l : List (Nat × List Int)) (i k : Nat) (x y : Frm) (f : Fn) (w : World) (h : CkAt w p pv fv bv iv ov M) (hx : M.frames[i]? = some x) (hy : M.frames[i + 1]? = some y) (hf : p[k]? = some f) (hk : x.fn = (k : Int)) (hl : EntsRd w lv l) (ho : EntsOk p f (e k) l) (hcl : f.2.2.2.length ≤ 1000) (hpl : p.length ≤ 1000) (h6 : M.frames.length ≤ 1000) (hp1 : -9223372036854775808 ≤ x.pc) (hp2 : x.pc ≤ 9223372036854775807) : Calls Tryz.prog 182 #[chkV pv fv bv iv ov M, .int .i64 i, lv] w fun e' w' => e' = .returned (.bool (xb5Z e (some y.fn) x k f)) ∧ Below w.heap.size w w' := by
  obtain ⟨⟨pp, qp, hpv⟩, -, ⟨pb, cb, hbv⟩, ⟨pi, ci, hiv⟩, ⟨po, co, hov⟩⟩ := h.shp
  obtain ⟨pf, cf, hfv, hfm, -, hfc⟩ := id h.mach.fr
  obtain ⟨pl, cl, hlv⟩ := hl.shp
  subst hpv hfv hbv hiv hov hlv
  obtain ⟨g, off, lv1, sv1, rfl, hg, x0, x1, x2, x3, hL, -, hS, -⟩ := hfc i x hx
  obtain ⟨g', off', lv2, sv2, he', hg', y0, -, -, -, -⟩ := hfc (i + 1) y hy
  cases he'
  obtain ⟨pl1, cl1, hlv1, -, -⟩ := hL
  obtain ⟨ps1, cs1, hsv1, -, -⟩ := hS
  subst hlv1 hsv1
  have hil := xadZ hy
  have hii : ((i : Int) == (M.frames.length : Int) - 1) = false := by simp; omega
  have hili : (i : Int) < (M.frames.length : Int) := by omega
  have hili2 : (i : Int) + 1 < (M.frames.length : Int) := by omega
  have x0a := fun o => xabZ x0 o
  have x1a := fun o => xabZ x1 o
  have x2a := fun o => xabZ x2 o
  have x3a := fun o => xabZ x3 o
  rw [show off + (i + 1) * 4 = off + (i + 1) * 4 from rfl] at y0
  have y0b := fun o o' => xabZ (xabZ y0 o) o'
  have HE : Hid (∀ W, Below w.heap.size w W → Calls Tryz.prog 224 #[.slice pl l.length cl, .int .i64 (IntKind.i64.wrap (x.pc - 1))] W fun e w' => e = .returned (.int .i64 (entIx l (IntKind.i64.wrap (x.pc - 1)))) ∧ Below W.heap.size W w') := fun W hW => xehZ l _ _ W (hl.below hW)
  have hix := ent_before ho hcl hp1 hp2
  obtain ⟨pp', qp', hpe, -, hpc⟩ := id h.fns
  cases hpe
  obtain ⟨fb, fo, c0, c1, c2, c3, hpp, hplt, -, -, -, z3, hfn⟩ := hpc k f hf
  subst hpp
  obtain ⟨-, -, -, hops⟩ := hfn
  obtain ⟨p3, q3, he3, -, hoc⟩ := id hops
  subst he3
  have hkl := xadZ hf
  have hkli : (k : Int) < (p.length : Int) := by omega
  have HOC := hideP hoc
  have HIX := hideP hix
  have HO := hideP ho
  have HK := hideP hk
  obtain ⟨W3, hW3⟩ : ∃ W3, ((w.alloc (.cells #[.slice (some ⟨g, off, none⟩) M.frames.length cf, .slice pb M.blocks.length cb, .slice pi M.inp.length ci, .slice po M.out.length co, .int .i64 M.status, .int .i64 M.trap, .slice (some ⟨fb, fo, none⟩) p.length qp] 121)).alloc (.cells #[.int .i64 x.fn, .int .i64 x.pc, .slice pl1 x.loc.length cl1, .slice ps1 x.stk.length cs1] 89)).alloc (.cells #[.int .i64 12, .int .i64 y.fn] 86) = W3 := ⟨_, rfl⟩
  have b3 : Below w.heap.size w W3 := by rw [← hW3]; exact (((Below.refl _ w).alloc (Nat.le_refl _) _).alloc (by simp) _).alloc (by simp; omega) _
  have u1 : W3.heap[w.heap.size]? = some (.cells #[.slice (some ⟨g, off, none⟩) M.frames.length cf, .slice pb M.blocks.length cb, .slice pi M.inp.length ci, .slice po M.out.length co, .int .i64 M.status, .int .i64 M.trap, .slice (some ⟨fb, fo, none⟩) p.length qp] 121 (0, 0)) := by rw [← hW3]; exact xepZ _ _ _ _
  have u2 : W3.heap[w.heap.size + 1]? = some (.cells #[.int .i64 x.fn, .int .i64 x.pc, .slice pl1 x.loc.length cl1, .slice ps1 x.stk.length cs1] 89 (0, 0)) := by rw [← hW3]; exact xedZ _ _ _ _
  have u3 : W3.heap[w.heap.size + 1 + 1]? = some (.cells #[.int .i64 12, .int .i64 y.fn] 86 (0, 0)) := by rw [← hW3]; exact new3 _ _ _ _
  have l1 := xacZ u1
  have l2 := xacZ u2
  have l3 := xacZ u3
  have v6 : W3.cell? ⟨w.heap.size, 6, none⟩ = some (.slice (some ⟨fb, fo, none⟩) p.length qp) := xaaZ u1 6
  have v0 : W3.cell? ⟨w.heap.size + 1, 0, none⟩ = some (.int .i64 k) := by have := xaaZ u2 0; rw [hk] at this; exact this
  have v1 : W3.cell? ⟨w.heap.size + 1, 1, none⟩ = some (.int .i64 x.pc) := xaaZ u2 1
  have t0 : W3.cell? ⟨w.heap.size + 1 + 1, 0, none⟩ = some (.int .i64 12) := xaaZ u3 0
  have t1 : W3.cell? ⟨w.heap.size + 1 + 1, 1, none⟩ = some (.int .i64 y.fn) := xaaZ u3 1
  have q3' := (b3.cell (p := ⟨fb, fo + k * 4 + 3, none⟩) hplt).trans z3
  have hfb3 := Nat.lt_of_lt_of_le hplt b3.size
  have hgu := guard_op
  clear h hx hy hf hl ho hfc hpc hoc hops hix hk u1 u2 u3
  have hspec := xfzZ l (IntKind.i64.wrap (x.pc - 1))
  rcases hspec with ⟨hE, -⟩ | ⟨k2, z2, hE, hz2, hz3⟩
  · have hres : xb5Z e (some y.fn) x k f = false := by
      have := HIX.out
      rw [hE] at this
      simp only [xb5Z, ← this]
      simp
    have HRES := hideP hres
    rw [hE] at HE
    clear hres hE
    go_enter Tryz.func182, Tryz.ntmps182
    go_wp2_with fail
    refine wp_region_held_drew (S := fun X => X.cell? ⟨w.heap.size + 1, 1, none⟩ = some (.int .i64 x.pc)) (by kernel_rfl) v1 (fun hHeld => ?_)
    refine wpAnyH_take (i := 0) (oi := { dst := some 36, op := Op.move (Operand.tmp 2), type := 103, pos := "check.go:136", after := #[], guard := none }) (v := ?_) rfl (by kernel_rfl) (by kernel_rfl) (by kernel_rfl) (fun _ _ _ h => h) (Or.inl ⟨by rfl, ?_⟩) (by assumption) ?_
    rotate_left
    · (intro wS hSw; (try dsimp only at hSw); go_simp) <;> (first | done | with_reducible rfl)
    try simp only [Act.put, List.setIfInBounds_toArray, List.set_cons_zero, List.set_cons_succ]
    refine wpAnyH_take (i := 1) (oi := { dst := some 37, op := Op.fieldAddr 89 (Operand.tmp 7) 1, type := 0, pos := "check.go:136", after := #[], guard := none }) (v := ?_) rfl (by kernel_rfl) (by kernel_rfl) (by kernel_rfl) (fun _ _ _ h => h) (Or.inl ⟨by rfl, ?_⟩) (by assumption) ?_
    rotate_left
    · (intro wS hSw; (try dsimp only at hSw); go_simp) <;> (first | done | with_reducible rfl)
    try simp only [Act.put, List.setIfInBounds_toArray, List.set_cons_zero, List.set_cons_succ]
    refine wpAnyH_take (i := 2) (oi := { dst := some 38, op := Op.load 3 (Operand.tmp 37), type := 3, pos := "check.go:136", after := #[{ on := 1, ground := Ground.data }], guard := none }) (v := ?_) rfl (by kernel_rfl) (by kernel_rfl) (by kernel_rfl) (fun _ _ _ h => h) (Or.inl ⟨by rfl, ?_⟩) (by assumption) ?_
    rotate_left
    · (intro wS hSw; (try dsimp only at hSw); go_simp) <;> (first | done | with_reducible rfl)
    try simp only [Act.put, List.setIfInBounds_toArray, List.set_cons_zero, List.set_cons_succ]
    refine wpAnyH_take (i := 3) (oi := { dst := some 39, op := Op.binOp BinOp.sub 3 (Operand.tmp 38) (Operand.const (Value.int IntKind.i64 1)) 3, type := 3, pos := "check.go:136", after := #[{ on := 2, ground := Ground.data }], guard := none }) (v := ?_) rfl (by kernel_rfl) (by kernel_rfl) (by kernel_rfl) (fun _ _ _ h => h) (Or.inl ⟨by rfl, ?_⟩) (by assumption) ?_
    rotate_left
    · (intro wS hSw; (try dsimp only at hSw); go_simp) <;> (first | done | with_reducible rfl)
    try simp only [Act.put, List.setIfInBounds_toArray, List.set_cons_zero, List.set_cons_succ]
    refine wpAnyH_ready (rs := [4]) (by kernel_rfl) (by simp) ?_
    refine AllReadyH.cons (o := { dst := some 40, op := Op.call { callee := Callee.value (Operand.func 224), args := #[Operand.tmp 36, Operand.tmp 39], argTypes := #[103, 3] }, type := 3, pos := "check.go:136", after := #[{ on := 0, ground := Ground.data }, { on := 3, ground := Ground.data }], guard := none }) rfl (fun K hK => ?_) AllReadyH.nil
    go_simp
    go_at_call 224; refine (HE.out _ (b3.trans (((Below.refl _ W3).drew).mono b3.size))).mono ?_; rintro e' w4 ⟨rfl, b4'⟩; have b4 : Below W3.heap.size W3 w4 := ((Below.refl _ W3).drew).trans b4'; have r1 := (b4.cell (p := ⟨w.heap.size + 1, 1, none⟩) l2).trans v1
    refine hK.out _ _ ?_ (fun hHeld => ?_)
    · exact r1
    clear hK K
    try simp only [Act.put, List.setIfInBounds_toArray, List.set_cons_zero, List.set_cons_succ]
    refine wpAnyH_take (i := 5) (oi := { dst := some 41, op := Op.binOp BinOp.geq 3 (Operand.tmp 40) (Operand.const (Value.int IntKind.i64 0)) 3, type := 4, pos := "check.go:136", after := #[{ on := 4, ground := Ground.data }], guard := none }) (v := ?_) rfl (by kernel_rfl) (by kernel_rfl) (by kernel_rfl) (fun _ _ _ h => h) (Or.inl ⟨by rfl, ?_⟩) (by assumption) ?_
    rotate_left
    · (intro wS hSw; (try dsimp only at hSw); go_simp) <;> (first | done | with_reducible rfl)
    try simp only [Act.put, List.setIfInBounds_toArray, List.set_cons_zero, List.set_cons_succ]
    refine wpAnyH_take (i := 6) (oi := { dst := some 42, op := Op.move (Operand.tmp 41), type := 4, pos := "check.go:136", after := #[{ on := 5, ground := Ground.data }, { on := 4, ground := Ground.chain }], guard := none }) (v := ?_) rfl (by kernel_rfl) (by kernel_rfl) (by kernel_rfl) (fun _ _ _ h => h) (Or.inl ⟨by rfl, ?_⟩) (by assumption) ?_
    rotate_left
    · (intro wS hSw; (try dsimp only at hSw); go_simp) <;> (first | done | with_reducible rfl)
    try simp only [Act.put, List.setIfInBounds_toArray, List.set_cons_zero, List.set_cons_succ]
    refine wpAnyH_take (i := 7) (oi := { dst := some 43, op := Op.fieldAddr 121 (Operand.tmp 3) 1, type := 0, pos := "check.go:136", after := #[{ on := 6, ground := Ground.guard }], guard := some (6, true) }) (v := undef) rfl (by kernel_rfl) (by kernel_rfl) (by kernel_rfl) (fun _ _ _ h => h) (Or.inr ⟨by rfl, rfl⟩) (by assumption) ?_
    try simp only [Act.put, List.setIfInBounds_toArray, List.set_cons_zero, List.set_cons_succ]
    refine wpAnyH_take (i := 8) (oi := { dst := some 44, op := Op.fieldAddr 24 (Operand.tmp 43) 0, type := 0, pos := "check.go:136", after := #[{ on := 7, ground := Ground.data }, { on := 6, ground := Ground.guard }], guard := some (6, true) }) (v := undef) rfl (by kernel_rfl) (by kernel_rfl) (by kernel_rfl) (fun _ _ _ h => h) (Or.inr ⟨by rfl, rfl⟩) (by assumption) ?_
    try simp only [Act.put, List.setIfInBounds_toArray, List.set_cons_zero, List.set_cons_succ]
    refine wpAnyH_take (i := 9) (oi := { dst := some 45, op := Op.load 22 (Operand.tmp 44), type := 22, pos := "check.go:136", after := #[{ on := 8, ground := Ground.data }, { on := 6, ground := Ground.guard }], guard := some (6, true) }) (v := undef) rfl (by kernel_rfl) (by kernel_rfl) (by kernel_rfl) (fun _ _ _ h => h) (Or.inr ⟨by rfl, rfl⟩) (by assumption) ?_
    try simp only [Act.put, List.setIfInBounds_toArray, List.set_cons_zero, List.set_cons_succ]
    refine wpAnyH_take (i := 10) (oi := { dst := some 46, op := Op.fieldAddr 89 (Operand.tmp 7) 0, type := 0, pos := "check.go:136", after := #[{ on := 6, ground := Ground.guard }], guard := some (6, true) }) (v := undef) rfl (by kernel_rfl) (by kernel_rfl) (by kernel_rfl) (fun _ _ _ h => h) (Or.inr ⟨by rfl, rfl⟩) (by assumption) ?_
    try simp only [Act.put, List.setIfInBounds_toArray, List.set_cons_zero, List.set_cons_succ]
    refine wpAnyH_take (i := 11) (oi := { dst := some 47, op := Op.load 3 (Operand.tmp 46), type := 3, pos := "check.go:136", after := #[{ on := 10, ground := Ground.data }, { on := 6, ground := Ground.guard }], guard := some (6, true) }) (v := undef) rfl (by kernel_rfl) (by kernel_rfl) (by kernel_rfl) (fun _ _ _ h => h) (Or.inr ⟨by rfl, rfl⟩) (by assumption) ?_
    try simp only [Act.put, List.setIfInBounds_toArray, List.set_cons_zero, List.set_cons_succ]
    refine wpAnyH_take (i := 12) (oi := { dst := some 48, op := Op.indexAddr 22 (Operand.tmp 45) (Operand.tmp 47), type := 0, pos := "check.go:136", after := #[{ on := 9, ground := Ground.data }, { on := 11, ground := Ground.data }, { on := 6, ground := Ground.guard }], guard := some (6, true) }) (v := undef) rfl (by kernel_rfl) (by kernel_rfl) (by kernel_rfl) (fun _ _ _ h => h) (Or.inr ⟨by rfl, rfl⟩) (by assumption) ?_
    try simp only [Act.put, List.setIfInBounds_toArray, List.set_cons_zero, List.set_cons_succ]
    refine wpAnyH_take (i := 13) (oi := { dst := some 49, op := Op.fieldAddr 119 (Operand.tmp 48) 3, type := 0, pos := "check.go:136", after := #[{ on := 12, ground := Ground.data }, { on := 6, ground := Ground.guard }], guard := some (6, true) }) (v := undef) rfl (by kernel_rfl) (by kernel_rfl) (by kernel_rfl) (fun _ _ _ h => h) (Or.inr ⟨by rfl, rfl⟩) (by assumption) ?_
    try simp only [Act.put, List.setIfInBounds_toArray, List.set_cons_zero, List.set_cons_succ]
    refine wpAnyH_take (i := 14) (oi := { dst := some 50, op := Op.load 117 (Operand.tmp 49), type := 117, pos := "check.go:136", after := #[{ on := 13, ground := Ground.data }, { on := 6, ground := Ground.guard }], guard := some (6, true) }) (v := undef) rfl (by kernel_rfl) (by kernel_rfl) (by kernel_rfl) (fun _ _ _ h => h) (Or.inr ⟨by rfl, rfl⟩) (by assumption) ?_
    try simp only [Act.put, List.setIfInBounds_toArray, List.set_cons_zero, List.set_cons_succ]
    refine wpAnyH_take (i := 15) (oi := { dst := some 51, op := Op.fieldAddr 89 (Operand.tmp 7) 1, type := 0, pos := "check.go:136", after := #[{ on := 6, ground := Ground.guard }], guard := some (6, true) }) (v := undef) rfl (by kernel_rfl) (by kernel_rfl) (by kernel_rfl) (fun _ _ _ h => h) (Or.inr ⟨by rfl, rfl⟩) (by assumption) ?_
    try simp only [Act.put, List.setIfInBounds_toArray, List.set_cons_zero, List.set_cons_succ]
    refine wpAnyH_take (i := 16) (oi := { dst := some 52, op := Op.load 3 (Operand.tmp 51), type := 3, pos := "check.go:136", after := #[{ on := 15, ground := Ground.data }, { on := 6, ground := Ground.guard }], guard := some (6, true) }) (v := undef) rfl (by kernel_rfl) (by kernel_rfl) (by kernel_rfl) (fun _ _ _ h => h) (Or.inr ⟨by rfl, rfl⟩) (by assumption) ?_
    try simp only [Act.put, List.setIfInBounds_toArray, List.set_cons_zero, List.set_cons_succ]
    refine wpAnyH_take (i := 17) (oi := { dst := some 53, op := Op.binOp BinOp.sub 3 (Operand.tmp 52) (Operand.const (Value.int IntKind.i64 1)) 3, type := 3, pos := "check.go:136", after := #[{ on := 16, ground := Ground.data }, { on := 6, ground := Ground.guard }], guard := some (6, true) }) (v := undef) rfl (by kernel_rfl) (by kernel_rfl) (by kernel_rfl) (fun _ _ _ h => h) (Or.inr ⟨by rfl, rfl⟩) (by assumption) ?_
    try simp only [Act.put, List.setIfInBounds_toArray, List.set_cons_zero, List.set_cons_succ]
    refine wpAnyH_take (i := 18) (oi := { dst := some 54, op := Op.indexAddr 117 (Operand.tmp 50) (Operand.tmp 53), type := 0, pos := "check.go:136", after := #[{ on := 14, ground := Ground.data }, { on := 17, ground := Ground.data }, { on := 6, ground := Ground.guard }], guard := some (6, true) }) (v := undef) rfl (by kernel_rfl) (by kernel_rfl) (by kernel_rfl) (fun _ _ _ h => h) (Or.inr ⟨by rfl, rfl⟩) (by assumption) ?_
    try simp only [Act.put, List.setIfInBounds_toArray, List.set_cons_zero, List.set_cons_succ]
    refine wpAnyH_take (i := 19) (oi := { dst := some 55, op := Op.load 86 (Operand.tmp 54), type := 86, pos := "check.go:136", after := #[{ on := 18, ground := Ground.data }, { on := 6, ground := Ground.guard }], guard := some (6, true) }) (v := undef) rfl (by kernel_rfl) (by kernel_rfl) (by kernel_rfl) (fun _ _ _ h => h) (Or.inr ⟨by rfl, rfl⟩) (by assumption) ?_
    try simp only [Act.put, List.setIfInBounds_toArray, List.set_cons_zero, List.set_cons_succ]
    refine wpAnyH_take (i := 20) (oi := { dst := some 56, op := Op.load 86 (Operand.tmp 8), type := 86, pos := "check.go:136", after := #[{ on := 6, ground := Ground.guard }], guard := some (6, true) }) (v := undef) rfl (by kernel_rfl) (by kernel_rfl) (by kernel_rfl) (fun _ _ _ h => h) (Or.inr ⟨by rfl, rfl⟩) (by assumption) ?_
    try simp only [Act.put, List.setIfInBounds_toArray, List.set_cons_zero, List.set_cons_succ]
    refine wpAnyH_take (i := 21) (oi := { dst := some 57, op := Op.binOp BinOp.eql 86 (Operand.tmp 55) (Operand.tmp 56) 86, type := 4, pos := "check.go:136", after := #[{ on := 19, ground := Ground.data }, { on := 20, ground := Ground.data }, { on := 6, ground := Ground.guard }], guard := some (6, true) }) (v := undef) rfl (by kernel_rfl) (by kernel_rfl) (by kernel_rfl) (fun _ _ _ h => h) (Or.inr ⟨by rfl, rfl⟩) (by assumption) ?_
    try simp only [Act.put, List.setIfInBounds_toArray, List.set_cons_zero, List.set_cons_succ]
    refine wpAnyH_take (i := 22) (oi := { dst := some 58, op := Op.pick (Operand.tmp 42) (Operand.tmp 57) (Operand.const (Value.bool false)), type := 4, pos := "check.go:136", after := #[{ on := 6, ground := Ground.data }, { on := 21, ground := Ground.data }], guard := none }) (v := ?_) rfl (by kernel_rfl) (by kernel_rfl) (by kernel_rfl) (fun _ _ _ h => h) (Or.inl ⟨by rfl, ?_⟩) (by assumption) ?_
    rotate_left
    · (intro wS hSw; (try dsimp only at hSw); go_simp) <;> (first | done | with_reducible rfl)
    try simp only [Act.put, List.setIfInBounds_toArray, List.set_cons_zero, List.set_cons_succ]
    refine wpAnyH_take (i := 23) (oi := { dst := some 6, op := Op.assign (Operand.tmp 58), type := 4, pos := "check.go:136", after := #[{ on := 22, ground := Ground.data }, { on := 6, ground := Ground.chain }, { on := 0, ground := Ground.phase }, { on := 1, ground := Ground.phase }, { on := 2, ground := Ground.phase }, { on := 3, ground := Ground.phase }, { on := 4, ground := Ground.phase }, { on := 5, ground := Ground.phase }, { on := 6, ground := Ground.phase }, { on := 7, ground := Ground.phase }, { on := 8, ground := Ground.phase }, { on := 9, ground := Ground.phase }, { on := 10, ground := Ground.phase }, { on := 11, ground := Ground.phase }, { on := 12, ground := Ground.phase }, { on := 13, ground := Ground.phase }, { on := 14, ground := Ground.phase }, { on := 15, ground := Ground.phase }, { on := 16, ground := Ground.phase }, { on := 17, ground := Ground.phase }, { on := 18, ground := Ground.phase }, { on := 19, ground := Ground.phase }, { on := 20, ground := Ground.phase }, { on := 21, ground := Ground.phase }, { on := 22, ground := Ground.phase }], guard := none }) (v := ?_) rfl (by kernel_rfl) (by kernel_rfl) (by kernel_rfl) (fun _ _ _ h => h) (Or.inl ⟨by rfl, ?_⟩) (by assumption) ?_
    rotate_left
    · (intro wS hSw; (try dsimp only at hSw); go_simp) <;> (first | done | with_reducible rfl)
    try simp only [Act.put, List.setIfInBounds_toArray, List.set_cons_zero, List.set_cons_succ]
    refine wpAnyH_done (by kernel_rfl) ?_ _
    go_wp2
    go_ret
    exact ⟨by rw [HRES.out]; rfl, xaeZ b3 b4⟩
  · have hpe := HIX.out
    rw [hE] at hpe
    have hge : decide ((k2 : Int) ≥ 0) = true := by simp
    rw [hge] at hpe
    have hpe2 := hpe.symm
    simp only [Bool.and_eq_true, decide_eq_true_eq, Option.isSome_iff_exists] at hpe2
    obtain ⟨hpos, s0, hs0⟩ := hpe2
    obtain ⟨n, hn⟩ : ∃ n : Nat, x.pc = (n : Int) + 1 := ⟨(x.pc - 1).toNat, by omega⟩
    have hn1 : (x.pc - 1).toNat = n := by omega
    rw [hn1] at hs0
    obtain ⟨k3, hk3⟩ := HO.out.all n s0 hs0
    have hnl := (HO.out.on k3 n s0 hk3).2.2
    obtain ⟨⟨oc, oa⟩, hop⟩ := xagZ (l := f.2.2.2) (k := n) hnl
    obtain ⟨ob, oo, hob, holt, o0, o1⟩ := HOC.out n _ hop
    cases hob
    simp only at o0 o1
    have j0 := (b3.cell (p := ⟨ob, oo + n * 2, none⟩) holt).trans o0
    have j1 := (b3.cell (p := ⟨ob, oo + n * 2 + 1, none⟩) holt).trans o1
    have hob3 := Nat.lt_of_lt_of_le holt b3.size
    have hnli : (n : Int) < (f.2.2.2.length : Int) := by omega
    have hsub : IntKind.i64.wrap (x.pc - 1) = (n : Int) := by rw [IntKind.wrap_i64]; omega
    have hres : xb5Z e (some y.fn) x k f = (oc == 12 && oa == y.fn) := by
      simp only [xb5Z]
      rw [← hpe, hn1, hop]
      have e1 : ((some (oc, oa) : Option (Int × Int)) == some (12, y.fn)) = ((oc, oa) == ((12 : Int), y.fn)) := rfl
      rw [e1, Bool.true_and]
      rfl
    have HRES := hideP hres
    have heq : ∀ W, (binOp .eql 86 (.agg #[.int .i64 oc, .int .i64 oa]) (.agg #[.int .i64 12, .int .i64 y.fn])).run Tryz.prog W = .ok (.bool (oc == 12 && oa == y.fn)) W := fun W => eql_op _ _ _ _ W
    rw [hE, hsub] at HE
    have HN := hideP hn
    clear hres hpe hs0 hk3 hop o0 o1 hE hz2 hz3 HIX hn1 hpos hn
    go_enter Tryz.func182, Tryz.ntmps182
    go_wp2_with fail
    go_region_held3 (fun X => X.cell? ⟨w.heap.size + 1, 1, none⟩ = some (.int .i64 x.pc) ∧ X.cell? ⟨w.heap.size + 1, 0, none⟩ = some (.int .i64 k) ∧ X.cell? ⟨w.heap.size, 6, none⟩ = some (.slice (some ⟨fb, fo, none⟩) p.length qp) ∧ X.cell? ⟨fb, fo + k * 4 + 3, none⟩ = some (.slice (some ⟨ob, oo, none⟩) f.2.2.2.length q3) ∧ X.cell? ⟨ob, oo + n * 2, none⟩ = some (.int .i64 oc) ∧ X.cell? ⟨ob, oo + n * 2 + 1, none⟩ = some (.int .i64 oa) ∧ X.cell? ⟨w.heap.size + 1 + 1, 0, none⟩ = some (.int .i64 12) ∧ X.cell? ⟨w.heap.size + 1 + 1, 1, none⟩ = some (.int .i64 y.fn)) (go_keep)
      (first | (go_at_call 224; (with_reducible refine (HE.out _ (b3.trans (((Below.refl _ W3).drew).mono b3.size))).mono ?_); rintro e' w4 ⟨rfl, b4'⟩; have b4 : Below W3.heap.size W3 w4 := ((Below.refl _ W3).drew).trans b4'; have r1 := (b4.cell (p := ⟨w.heap.size + 1, 1, none⟩) l2).trans v1; have r2 := (b4.cell (p := ⟨w.heap.size + 1, 0, none⟩) l2).trans v0; have r3 := (b4.cell (p := ⟨w.heap.size, 6, none⟩) l1).trans v6; have r4 := (b4.cell (p := ⟨fb, fo + k * 4 + 3, none⟩) hfb3).trans q3'; have r5 := (b4.cell (p := ⟨ob, oo + n * 2, none⟩) hob3).trans j0; have r6 := (b4.cell (p := ⟨ob, oo + n * 2 + 1, none⟩) hob3).trans j1; have r7 := (b4.cell (p := ⟨w.heap.size + 1 + 1, 0, none⟩) l3).trans t0; have r8 := (b4.cell (p := ⟨w.heap.size + 1 + 1, 1, none⟩) l3).trans t1))
    go_wp2
    go_ret
    exact ⟨by rw [HRES.out]; rfl, xaeZ b3 b4⟩
end Go.Proofs.YtmjjkenblfndgaaGreat


