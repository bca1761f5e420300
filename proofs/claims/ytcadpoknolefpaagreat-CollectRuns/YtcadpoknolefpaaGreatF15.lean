/- My texts Mq Mr: what of them is needed, joined. -/
import Derived.Defers
import Derived.Recover
import Derived.Laws.Pointers
import Derived.Test.YtcadpoknolefpaaGreatF13
import Derived.Test.YtcadpoknolefpaaGreatF14
/- stride.Do: what is recovered. -/
namespace Go.Proofs.YtcadpoknolefpaaGreat
open Go.RowKit
set_option linter.unusedSimpArgs false
set_option linter.unusedVariables false
theorem ta_nil (w : World) : (Instr.typeAssert Value.nilIface 20 117 true).run Tryz.prog w = .ok (.tuple #[.int .i64 0, .bool false]) w := by kernel_rfl
theorem ta_trap (why : Int) (w : World) : (Instr.typeAssert (.iface 117 (.int .i64 why)) 20 117 true).run Tryz.prog w = .ok (.tuple #[.int .i64 why, .bool true]) w := by kernel_rfl
set_option maxRecDepth 100000 in
theorem catch_idle (bm ba : Nat) (w : World) :
    CallsD Tryz.prog 87 #[.pointer (some ⟨bm, 0, none⟩), .pointer (some ⟨ba, 0, none⟩)] .returning w fun e u' w' => e = .returned (.tuple #[]) ∧ u' = .returning ∧ w' = w := by
  refine callsD_of_wpS Tryz.func87 rfl fun c₀ cs hu => ?_
  apply wpS_seq
  apply wpS_region
  simp [wpOpsS, go_sem, recoverD, hu, Tryz.ntmps87, Exit.thenS, ta_nil, Array.replicate_succ]
  refine wpS_of_wp ?_
  go_wp2
  refine ⟨rfl, .returning, ?_, .tuple #[], results_none rfl _ _ _, rfl, rfl, rfl⟩
  cases c₀
  simp_all
set_option maxRecDepth 100000 in
theorem catch_trap (M : Mach) (fv bv iv ov : Value) (bm ba : Nat) (why : Int) (w : World) (h : MachAt w fv bv iv ov M) (hsm : SmallM M) (hm : w.heap[bm]? = some (.cells #[fv, bv, iv, ov, .int .i64 M.status, .int .i64 M.trap] 29 (0, 0))) (ha : w.heap[ba]? = some (.cells #[.slice none 0 0, .slice none 0 0, .slice none 0 0, .slice none 0 0, .int .i64 0, .int .i64 0] 29 (0, 0))) :
    CallsD Tryz.prog 87 #[.pointer (some ⟨bm, 0, none⟩), .pointer (some ⟨ba, 0, none⟩)] (.panicking [{ v := .iface 117 (.int .i64 why), recovered := false }]) w fun e u' w' =>
      e = .returned (.tuple #[]) ∧ u' = .panicking [{ v := .iface 117 (.int .i64 why), recovered := true }] ∧ ∃ fv' bv' iv' ov' q qb w2, MOwn w2 w.heap.size fv' bv' iv' ov' q qb M ∧ Below w.heap.size w w2 ∧ w' = ((((((((w2.setCell ⟨ba, 0, none⟩ fv').setCell ⟨ba, 1, none⟩ bv').setCell ⟨ba, 2, none⟩ iv').setCell ⟨ba, 3, none⟩ ov').setCell ⟨ba, 4, none⟩ (.int .i64 M.status)).setCell ⟨ba, 5, none⟩ (.int .i64 M.trap)).setCell ⟨ba, 4, none⟩ (.int .i64 3)).setCell ⟨ba, 5, none⟩ (.int .i64 why)) := by
  have HF := hideP (freshMachine_any M fv bv iv ov w h hsm)
  have la := heap_lt ha
  obtain ⟨pf, cf, hfv, -, -, -⟩ := id h.fr
  obtain ⟨pb, cb, hbv, -, -⟩ := id h.bl
  obtain ⟨pi, ci, hiv, -⟩ := h.inp.shp
  obtain ⟨po, co, hov, -⟩ := h.out.shp
  subst hfv hbv hiv hov
  have d0 : w.cell? ⟨bm, 0, none⟩ = some (.slice pf M.frames.length cf) := cell_at' hm 0
  have d1 : w.cell? ⟨bm, 1, none⟩ = some (.slice pb M.blocks.length cb) := cell_at' hm 1
  have d2 : w.cell? ⟨bm, 2, none⟩ = some (.slice pi M.inp.length ci) := cell_at' hm 2
  have d3 : w.cell? ⟨bm, 3, none⟩ = some (.slice po M.out.length co) := cell_at' hm 3
  have d4 : w.cell? ⟨bm, 4, none⟩ = some (.int .i64 M.status) := cell_at' hm 4
  have d5 : w.cell? ⟨bm, 5, none⟩ = some (.int .i64 M.trap) := cell_at' hm 5
  have HA := hideP ha
  clear h hsm hm ha
  generalize hR : (fun e u' w' => e = Ending.returned (.tuple #[]) ∧ u' = FrameMode.panicking [{ v := .iface 117 (.int .i64 why), recovered := true }] ∧ ∃ fv' bv' iv' ov' q qb w2, MOwn w2 w.heap.size fv' bv' iv' ov' q qb M ∧ Below w.heap.size w w2 ∧ w' = ((((((((w2.setCell ⟨ba, 0, none⟩ fv').setCell ⟨ba, 1, none⟩ bv').setCell ⟨ba, 2, none⟩ iv').setCell ⟨ba, 3, none⟩ ov').setCell ⟨ba, 4, none⟩ (.int .i64 M.status)).setCell ⟨ba, 5, none⟩ (.int .i64 M.trap)).setCell ⟨ba, 4, none⟩ (.int .i64 3)).setCell ⟨ba, 5, none⟩ (.int .i64 why))) = R
  have HR := hideP hR
  clear hR
  refine callsD_of_wpS Tryz.func87 rfl fun c₀ cs hu => ?_
  apply wpS_seq
  apply wpS_region
  simp [wpOpsS, go_sem, recoverD, hu, Tryz.ntmps87, Exit.thenS, ta_trap, Array.replicate_succ]
  refine wpS_of_wp ?_
  go_wp2_with fail
  refine HF.out.mono ?_
  rintro e w2 ⟨fv', bv', iv', ov', rfl, q, qb, hown, b2⟩
  obtain ⟨pf2, cf2, hfv⟩ := row_shp hown.fr
  obtain ⟨pb2, cb2, hbv⟩ := row_shp hown.bl
  obtain ⟨pi2, ci2, hiv⟩ := row_shp hown.inp
  obtain ⟨po2, co2, hov⟩ := row_shp hown.out
  subst hfv hbv hiv hov
  have ha2 := (b2.block _ la).trans HA.out
  have a0 := cell_at' ha2 0
  have a1 := cell_at' ha2 1
  have a2 := cell_at' ha2 2
  have a3 := cell_at' ha2 3
  have a4 := cell_at' ha2 4
  have a5 := cell_at' ha2 5
  simp at a0 a1 a2 a3 a4 a5
  have z := Lib.frozen_of_heap ha2
  have z0 := z 0
  have z1 := z 1
  have z2 := z 2
  have z3 := z 3
  have z4 := z 4
  have z5 := z 5
  have HO := hideP hown
  clear z hown ha2
  go_wp2
  refine ⟨rfl, _, rfl, .tuple #[], results_none rfl _ _ _, ?_⟩
  rw [← HR.out]
  exact ⟨rfl, rfl, _, _, _, _, q, qb, w2, HO.out, b2, rfl⟩
def MRes (W : World) (B : Nat) (fv bv iv ov : Value) (M : Mach) : Prop := ∃ q qb k iw I, MOwn W B fv bv iw ov q qb { M with inp := I } ∧ M.inp = I.drop k ∧ ((k = 0 ∧ iv = iw) ∨ ∃ g n cap j c, iw = .slice (some ⟨g, 0, none⟩) n cap ∧ iv = .slice (some ⟨g, j, none⟩) (n - k) c ∧ (j = k ∨ n - k = 0) ∧ n - k ≤ c)
theorem MOwn.res {W : World} {B : Nat} {fv bv iv ov : Value} {q : List FV} {qb : List Value} {M : Mach} (h : MOwn W B fv bv iv ov q qb M) : MRes W B fv bv iv ov M := ⟨q, qb, 0, iv, M.inp, h, rfl, .inl ⟨rfl, rfl⟩⟩
theorem MRes.below {W W' : World} {B : Nat} {fv bv iv ov : Value} {M : Mach} (h : MRes W B fv bv iv ov M) (hb : Below W.heap.size W W') : MRes W' B fv bv iv ov M := by
  obtain ⟨q, qb, k, iw, I, h1, h2, h3⟩ := h
  exact ⟨q, qb, k, iw, I, h1.below hb, h2, h3⟩
theorem MRes.low {W : World} {B B' : Nat} {fv bv iv ov : Value} {M : Mach} (h : MRes W B fv bv iv ov M) (hB : B' ≤ B) : MRes W B' fv bv iv ov M := by
  obtain ⟨q, qb, k, iw, I, h1, h2, h3⟩ := h
  exact ⟨q, qb, k, iw, I, h1.low hB, h2, h3⟩
theorem MRes.keep {W W' : World} {B : Nat} {t : TypeId} {fv bv iv ov : Value} {M : Mach} {row : Option Nat} (h : MRes W B fv bv iv ov M) (hg : W.grownBy W' row) (ht : TyRow W row t) (h1 : t ≠ 48) (h2 : t ≠ 50) (h3 : t ≠ 27) (h4 : t ≠ 3) : MRes W' B fv bv iv ov M := by
  obtain ⟨q, qb, k, iw, I, a1, a2, a3⟩ := h
  exact ⟨q, qb, k, iw, I, a1.keep hg ht h1 h2 h3 h4, a2, a3⟩
theorem MRes.at_ {W : World} {B : Nat} {fv bv iv ov : Value} {M : Mach} (h : MRes W B fv bv iv ov M) (h100 : M.inp.length ≤ 100) : MachAt W fv bv iv ov M := by
  obtain ⟨q, qb, k, iw, I, h1, h2, h3⟩ := h
  have hA := h1.at_
  refine ⟨hA.fr, hA.bl, ?_, hA.out⟩
  rcases h3 with ⟨rfl, rfl⟩ | ⟨g, n, cap, j, c, rfl, rfl, hj, hc⟩
  · rw [h2]; exact hA.inp
  · have hin := h1.inp
    obtain ⟨p, cc, hv⟩ := row_shp hin
    simp only at hv hin
    injection hv with _ hn _
    subst hn
    have hlen : M.inp.length = I.length - k := by rw [h2, List.length_drop]
    refine ⟨⟨_, c, by rw [hlen], by unfold maxLen; omega, fun i z hz => ?_⟩, nilOk_some _ _ _, fun p' n' c' e => by injection e with _ e2 e3; omega⟩
    have hil := lt_of_at hz
    rw [h2, List.getElem?_drop] at hz
    have hjk : j = k := by rcases hj with h | h <;> omega
    subst hjk
    refine ⟨g, j, rfl, (hin.lt g rfl).2, ?_⟩
    rcases hin.2 with ⟨h4, _⟩ | ⟨g', cap', cur, h4, h5, h6, h7, h8, h9, h10⟩
    · cases h4
    · injection h4 with e1 _ _
      cases e1
      rw [cell_at' h6]
      have hm : (I.map (Value.int .i64))[j + i]? = some (.int .i64 z) := by rw [List.getElem?_map, hz]; rfl
      rw [← h10, List.getElem?_take] at hm
      split at hm
      · simpa using hm
      · cases hm
end Go.Proofs.YtcadpoknolefpaaGreat


/- stride.Do. -/
namespace Go.Proofs.YtcadpoknolefpaaGreat
open Go.RowKit
set_option linter.unusedSimpArgs false
set_option linter.unusedVariables false
theorem wp_normal {P : Program} {c : Code} {Q : Exit → Act → World → Prop} {a : Act} {w : World} (h : c.wp P (Exit.then (Q .normal) (fun _ _ _ => False)) a w) : c.wp P Q a w :=
  wp_mono h (fun e a' w' hq => by cases e <;> first | exact hq | exact hq.elim)
theorem seven_cell {w : World} {R : Nat} {a b c d e f g v : Value} {p : Addr} (h : w.cell? p = some v) (hn : ¬ p.block = R) : (((((((w.setCell ⟨R, 0, none⟩ a).setCell ⟨R, 1, none⟩ b).setCell ⟨R, 2, none⟩ c).setCell ⟨R, 3, none⟩ d).setCell ⟨R, 4, none⟩ e).setCell ⟨R, 5, none⟩ f).setCell ⟨R, 6, none⟩ g).cell? p = some v :=
  one_cell (i := 6) (six_cell h hn) hn
theorem seven_grown (W : World) (R : Nat) (a b c d e f g : Value) : W.grownBy (((((((W.setCell ⟨R, 0, none⟩ a).setCell ⟨R, 1, none⟩ b).setCell ⟨R, 2, none⟩ c).setCell ⟨R, 3, none⟩ d).setCell ⟨R, 4, none⟩ e).setCell ⟨R, 5, none⟩ f).setCell ⟨R, 6, none⟩ g) (some R) := (six_grown W R a b c d e f).trans (set_grown _ ⟨R, 6, none⟩ g)
theorem seven_heap {W : World} {R : Nat} {t : TypeId} {a0 a1 a2 a3 a4 a5 a6 : Value} (h : W.heap[R]? = some (.cells #[a0, a1, a2, a3, a4, a5, a6] t (0, 0))) {a b c d e f g : Value} : (((((((W.setCell ⟨R, 0, none⟩ a).setCell ⟨R, 1, none⟩ b).setCell ⟨R, 2, none⟩ c).setCell ⟨R, 3, none⟩ d).setCell ⟨R, 4, none⟩ e).setCell ⟨R, 5, none⟩ f).setCell ⟨R, 6, none⟩ g).heap[R]? = some (.cells #[a, b, c, d, e, f, g] t (0, 0)) := by
  have h0 := heap_setCell_same W R 0 _ _ a h
  have h1 := heap_setCell_same _ R 1 _ _ b h0
  have h2 := heap_setCell_same _ R 2 _ _ c h1
  have h3 := heap_setCell_same _ R 3 _ _ d h2
  have h4 := heap_setCell_same _ R 4 _ _ e h3
  have h5 := heap_setCell_same _ R 5 _ _ f h4
  have h6 := heap_setCell_same _ R 6 _ _ g h5
  simpa using h6
theorem eight_heap {W : World} {R : Nat} {t : TypeId} {a0 a1 a2 a3 a4 a5 : Value} (h : W.heap[R]? = some (.cells #[a0, a1, a2, a3, a4, a5] t (0, 0))) {a b c d e f g g' : Value} : ((((((((W.setCell ⟨R, 0, none⟩ a).setCell ⟨R, 1, none⟩ b).setCell ⟨R, 2, none⟩ c).setCell ⟨R, 3, none⟩ d).setCell ⟨R, 4, none⟩ e).setCell ⟨R, 5, none⟩ f).setCell ⟨R, 4, none⟩ g).setCell ⟨R, 5, none⟩ g').heap[R]? = some (.cells #[a, b, c, d, g, g'] t (0, 0)) := by
  have h0 := heap_setCell_same W R 0 _ _ a h
  have h1 := heap_setCell_same _ R 1 _ _ b h0
  have h2 := heap_setCell_same _ R 2 _ _ c h1
  have h3 := heap_setCell_same _ R 3 _ _ d h2
  have h4 := heap_setCell_same _ R 4 _ _ e h3
  have h5 := heap_setCell_same _ R 5 _ _ f h4
  have h6 := heap_setCell_same _ R 4 _ _ g h5
  have h7 := heap_setCell_same _ R 5 _ _ g' h6
  simpa using h7
theorem fin_in {w0 W : World} {b : Nat} {pv fv bv iv ov iw : Value} {q : List FV} {qb : List Value} {M : Mach} {k : Nat} {I : List Int} (h : FAt w0 W b pv fv bv iv ov q qb M k iw I) : ∃ p n c, iv = .slice p n c := by
  rcases h.val with ⟨_, h1⟩ | ⟨g, n, cap, j, c, _, h1, _⟩
  · obtain ⟨p, c, h2⟩ := row_shp h.own.inp
    exact ⟨_, _, _, h1.trans h2⟩
  · exact ⟨_, _, _, h1⟩
theorem new_three (w : World) (a b c : Obj) : (((w.alloc a).alloc b).alloc c).heap[w.heap.size]? = some a := heap_old (heap_old (World.alloc_heap_new w a) b) c
theorem new_three1 (w : World) (a b c : Obj) : (((w.alloc a).alloc b).alloc c).heap[w.heap.size + 1]? = some b := heap_old (new_two w a b) c
set_option maxRecDepth 100000 in
set_option maxHeartbeats 4000000 in
theorem strideDo_ret (p : List Fn) (pv : Value) (M R : Mach) (fv bv iv ov : Value) (w : World) (hp : FnsAt w pv p) (hM : MachAt w fv bv iv ov M) (hsm : SmallM M)
    (HD : ∀ (w0 W : World) (b : Nat), FnsAt w0 pv p → Doer w0 W b pv M → Calls Tryz.prog 88 #[.pointer (some ⟨b, 0, none⟩)] W fun e w' => e = .returned (.tuple #[]) ∧ Fin w0 w' b pv R) :
    Calls Tryz.prog 45 #[.agg #[pv], .agg #[fv, bv, iv, ov, .int .i64 M.status, .int .i64 M.trap]] w fun e w' => ∃ fv' bv' iv' ov', e = .returned (.agg #[fv', bv', iv', ov', .int .i64 R.status, .int .i64 R.trap]) ∧ MRes w' w.heap.size fv' bv' iv' ov' R ∧ Below w.heap.size w w' := by
  have hmf : ∀ (fn : Go.Fn) (first cap : Array Value) (w : World), (Instr.makeFunc fn first cap).run Tryz.prog w = .ok (.func fn first cap) w := fun _ _ _ _ => rfl
  obtain ⟨pp, qp, hpv, -, -⟩ := id hp
  obtain ⟨pf, cf, hfv, -, -, -⟩ := id hM.fr
  obtain ⟨pb, cb, hbv, -, -⟩ := id hM.bl
  obtain ⟨pi, ci, hiv, -⟩ := hM.inp.shp
  obtain ⟨po, co, hov, -⟩ := hM.out.shp
  subst hpv hfv hbv hiv hov
  obtain ⟨W1, hW1⟩ : ∃ W1, ((w.alloc (.cells #[.slice pp p.length qp] 24)).alloc (.cells #[.slice pf M.frames.length cf, .slice pb M.blocks.length cb, .slice pi M.inp.length ci, .slice po M.out.length co, .int .i64 M.status, .int .i64 M.trap] 29)).alloc (.cells #[.slice none 0 0, .slice none 0 0, .slice none 0 0, .slice none 0 0, .int .i64 0, .int .i64 0] 29) = W1 := ⟨_, rfl⟩
  have b1 : Below w.heap.size w W1 := by rw [← hW1]; exact (((Below.refl _ w).alloc (Nat.le_refl _) _).alloc (by simp) _).alloc (by simp; omega) _
  have x1 : W1.heap[w.heap.size]? = some (.cells #[.slice pp p.length qp] 24 (0, 0)) := by rw [← hW1]; exact new_three _ _ _ _
  have y1 : W1.heap[w.heap.size + 1]? = some (.cells #[.slice pf M.frames.length cf, .slice pb M.blocks.length cb, .slice pi M.inp.length ci, .slice po M.out.length co, .int .i64 M.status, .int .i64 M.trap] 29 (0, 0)) := by rw [← hW1]; exact new_three1 _ _ _ _
  have u1 : W1.heap[w.heap.size + 1 + 1]? = some (.cells #[.slice none 0 0, .slice none 0 0, .slice none 0 0, .slice none 0 0, .int .i64 0, .int .i64 0] 29 (0, 0)) := by rw [← hW1]; exact new3 _ _ _ _
  have lx := heap_lt x1
  have ly := heap_lt y1
  have lu := heap_lt u1
  have k0 : W1.cell? ⟨w.heap.size, 0, none⟩ = some (.slice pp p.length qp) := cell_at' x1 0
  have d0 : W1.cell? ⟨w.heap.size + 1, 0, none⟩ = some (.slice pf M.frames.length cf) := cell_at' y1 0
  have d1 : W1.cell? ⟨w.heap.size + 1, 1, none⟩ = some (.slice pb M.blocks.length cb) := cell_at' y1 1
  have d2 : W1.cell? ⟨w.heap.size + 1, 2, none⟩ = some (.slice pi M.inp.length ci) := cell_at' y1 2
  have d3 : W1.cell? ⟨w.heap.size + 1, 3, none⟩ = some (.slice po M.out.length co) := cell_at' y1 3
  have d4 : W1.cell? ⟨w.heap.size + 1, 4, none⟩ = some (.int .i64 M.status) := cell_at' y1 4
  have d5 : W1.cell? ⟨w.heap.size + 1, 5, none⟩ = some (.int .i64 M.trap) := cell_at' y1 5
  have hdA : ∀ o, Below W1.heap.size W1 (W1.alloc o).drew := fun o => ((Below.refl _ W1).alloc (Nat.le_refl _) o).drew
  have hn1 : ¬ w.heap.size = W1.heap.size := by omega
  have hn2 : ¬ w.heap.size + 1 = W1.heap.size := by omega
  have HFM : Hid (∀ W, Below W1.heap.size W1 W → Calls Tryz.prog 44 #[.agg #[.slice pf M.frames.length cf, .slice pb M.blocks.length cb, .slice pi M.inp.length ci, .slice po M.out.length co, .int .i64 M.status, .int .i64 M.trap]] W fun e w' => ∃ fv' bv' iv' ov', e = .returned (.agg #[fv', bv', iv', ov', .int .i64 M.status, .int .i64 M.trap]) ∧ ∃ q qb, MOwn w' W.heap.size fv' bv' iv' ov' q qb M ∧ Below W.heap.size W w') := fun W hW => freshMachine_any M _ _ _ _ W ((hM.below b1).below hW) hsm
  have HP := hideP (hp.below b1)
  have HDD := hideP HD
  have HX := hideP x1
  have HY := hideP y1
  have HU := hideP u1
  clear hp hM hsm HD x1 y1 u1
  go_enter_defers Tryz.func45, Tryz.ntmps45
  go_wp2_with fail
  refine wp_normal ?_
  go_region_held3 (fun W => W.cell? ⟨w.heap.size, 0, none⟩ = some (.slice pp p.length qp) ∧ W.cell? ⟨w.heap.size + 1, 0, none⟩ = some (.slice pf M.frames.length cf) ∧ W.cell? ⟨w.heap.size + 1, 1, none⟩ = some (.slice pb M.blocks.length cb) ∧ W.cell? ⟨w.heap.size + 1, 2, none⟩ = some (.slice pi M.inp.length ci) ∧ W.cell? ⟨w.heap.size + 1, 3, none⟩ = some (.slice po M.out.length co) ∧ W.cell? ⟨w.heap.size + 1, 4, none⟩ = some (.int .i64 M.status) ∧ W.cell? ⟨w.heap.size + 1, 5, none⟩ = some (.int .i64 M.trap)) (first | go_keep | exact ⟨seven_cell h0 hn1, seven_cell g0 hn2, seven_cell g1 hn2, seven_cell g2 hn2, seven_cell g3 hn2, seven_cell g4 hn2, seven_cell g5 hn2⟩)
    (first
      | (go_at_call 44; (with_reducible refine (HFM.out _ ((Below.refl _ W1).drew)).mono ?_); rintro e w2 ⟨fv2, bv2, iv2, ov2, rfl, q2, qb2, r2, b2'⟩; have b2 : Below W1.heap.size W1 w2 := ((Below.refl _ W1).drew).trans b2'; obtain ⟨pf2, cf2, hfv2⟩ := row_shp r2.fr; obtain ⟨pb2, cb2, hbv2⟩ := row_shp r2.bl; obtain ⟨pi2, ci2, hiv2⟩ := row_shp r2.inp; obtain ⟨po2, co2, hov2⟩ := row_shp r2.out; subst hfv2 hbv2 hiv2 hov2; have R2 := hideP r2; clear r2; have h0 := (b2.cell (p := ⟨w.heap.size, 0, none⟩) lx).trans k0; have g0 := (b2.cell (p := ⟨w.heap.size + 1, 0, none⟩) ly).trans d0; have g1 := (b2.cell (p := ⟨w.heap.size + 1, 1, none⟩) ly).trans d1; have g2 := (b2.cell (p := ⟨w.heap.size + 1, 2, none⟩) ly).trans d2; have g3 := (b2.cell (p := ⟨w.heap.size + 1, 3, none⟩) ly).trans d3; have g4 := (b2.cell (p := ⟨w.heap.size + 1, 4, none⟩) ly).trans d4; have g5 := (b2.cell (p := ⟨w.heap.size + 1, 5, none⟩) ly).trans d5)
      | (go_at_call 44; (with_reducible refine (HFM.out _ (hdA _)).mono ?_); rintro e w2 ⟨fv2, bv2, iv2, ov2, rfl, q2, qb2, r2, b2'⟩; have b2 : Below W1.heap.size W1 w2 := (hdA _).trans (b2'.mono (hdA _).size); have q0 := (b2'.block W1.heap.size (heap_lt (World.alloc_heap_new W1 _))).trans (World.alloc_heap_new W1 _); have Q0 := hideP q0; have m0 := cell_at' q0 0; have m1 := cell_at' q0 1; have m2 := cell_at' q0 2; have m3 := cell_at' q0 3; have m4 := cell_at' q0 4; have m5 := cell_at' q0 5; have m6 := cell_at' q0 6; simp at m0 m1 m2 m3 m4 m5 m6; have n := Lib.frozen_of_heap q0; have n0 := n 0; have n1 := n 1; have n2 := n 2; have n3 := n 3; have n4 := n 4; have n5 := n 5; have n6 := n 6; clear n q0; obtain ⟨pf2, cf2, hfv2⟩ := row_shp r2.fr; obtain ⟨pb2, cb2, hbv2⟩ := row_shp r2.bl; obtain ⟨pi2, ci2, hiv2⟩ := row_shp r2.inp; obtain ⟨po2, co2, hov2⟩ := row_shp r2.out; subst hfv2 hbv2 hiv2 hov2; have R2 := hideP r2; clear r2; have h0 := (b2.cell (p := ⟨w.heap.size, 0, none⟩) lx).trans k0; have g0 := (b2.cell (p := ⟨w.heap.size + 1, 0, none⟩) ly).trans d0; have g1 := (b2.cell (p := ⟨w.heap.size + 1, 1, none⟩) ly).trans d1; have g2 := (b2.cell (p := ⟨w.heap.size + 1, 2, none⟩) ly).trans d2; have g3 := (b2.cell (p := ⟨w.heap.size + 1, 3, none⟩) ly).trans d3; have g4 := (b2.cell (p := ⟨w.heap.size + 1, 4, none⟩) ly).trans d4; have g5 := (b2.cell (p := ⟨w.heap.size + 1, 5, none⟩) ly).trans d5))
  · have hDo : Doer W1 (w2.alloc (.cells #[.slice pf2 q2.length cf2, .slice pb2 qb2.length cb2, .slice pi2 M.inp.length ci2, .slice po2 M.out.length co2, .int .i64 M.status, .int .i64 M.trap, .slice pp p.length qp] 120)) w2.heap.size (.slice pp p.length qp) M :=
      ⟨_, _, _, _, q2, qb2, World.alloc_heap_new w2 _, (R2.out.low (Nat.le_refl _)).below ((Below.refl _ w2).alloc (Nat.le_refl _) _), b2.alloc b2.size _, b2.size⟩
    have HC := hideP (HDD.out W1 _ _ HP.out hDo)
    clear hDo
    go_wp2_with (go_at_call 88; refine HC.out.mono ?_; rintro e w6 ⟨rfl, fv6, bv6, iv6, ov6, q6, qb6, k6, iw6, I6, F6⟩; have v0 := cell_at' F6.cell 0; have v1 := cell_at' F6.cell 1; have v2 := cell_at' F6.cell 2; have v3 := cell_at' F6.cell 3; have v4 := cell_at' F6.cell 4; have v5 := cell_at' F6.cell 5; simp at v0 v1 v2 v3 v4 v5; have hu6 := (F6.bel.block _ lu).trans HU.out; have a0 := cell_at' hu6 0; have a1 := cell_at' hu6 1; have a2 := cell_at' hu6 2; have a3 := cell_at' hu6 3; have a4 := cell_at' hu6 4; have a5 := cell_at' hu6 5; simp at a0 a1 a2 a3 a4 a5; have z := Lib.frozen_of_heap hu6; have z0 := z 0; have z1 := z 1; have z2 := z 2; have z3 := z 3; have z4 := z 4; have z5 := z 5; obtain ⟨pf6, cf6, hf6⟩ := row_shp F6.own.fr; obtain ⟨pb6, cb6, hb6⟩ := row_shp F6.own.bl; obtain ⟨po6, co6, ho6⟩ := row_shp F6.own.out; obtain ⟨pi6, ni6, ci6, hi6⟩ := fin_in F6; subst hf6 hb6 ho6 hi6; have HF6 := hideP F6; have HU6 := hideP hu6; clear F6 z hu6)
    refine leaves_cons (f := 87) (args := #[.pointer (some ⟨w.heap.size + 1, 0, none⟩), .pointer (some ⟨w.heap.size + 1 + 1, 0, none⟩)]) (by simp) (by simp [go_sem]) ?_
    refine (catch_idle _ _ _).mono ?_
    rintro e u' w'' ⟨rfl, rfl, rfl⟩
    have hg6 := six_grown w6 (w.heap.size + 1 + 1) (.slice pf6 q6.length cf6) (.slice pb6 qb6.length cb6) (.slice pi6 ni6 ci6) (.slice po6 R.out.length co6) (.int .i64 R.status) (.int .i64 R.trap)
    have hty6 : TyRow w6 (some (w.heap.size + 1 + 1)) 29 := tyRow_at HU6.out
    have hres : MRes w6 W1.heap.size (.slice pf6 q6.length cf6) (.slice pb6 qb6.length cb6) (.slice pi6 ni6 ci6) (.slice po6 R.out.length co6) R := ⟨q6, qb6, k6, iw6, I6, HF6.out.own, HF6.out.rest, HF6.out.val⟩
    have hres2 := (hres.low b1.size).keep hg6 hty6 (by decide) (by decide) (by decide) (by decide)
    have hb7 : Below w.heap.size w _ := (b1.trans (HF6.out.bel.mono b1.size)).grown hg6 (Nat.le_trans b1.size HF6.out.bel.size) (fun k hk => by cases hk; omega)
    have HRES := hideP hres2
    have HB7 := hideP hb7
    clear hres hres2 hb7 hg6 hty6
    simp [Leaves, settle, results, Tryz.results45, go_sem, a0, a1, a2, a3, a4, a5]
    exact ⟨_, _, _, _, ⟨rfl, rfl, rfl, rfl⟩, HRES.out, HB7.out⟩
  · have hgr := seven_grown w2 W1.heap.size (.slice pf2 q2.length cf2) (.slice pb2 qb2.length cb2) (.slice pi2 M.inp.length ci2) (.slice po2 M.out.length co2) (.int .i64 M.status) (.int .i64 M.trap) (.slice pp p.length qp)
    have hDo : Doer W1 (((((((w2.setCell ⟨W1.heap.size, 0, none⟩ (.slice pf2 q2.length cf2)).setCell ⟨W1.heap.size, 1, none⟩ (.slice pb2 qb2.length cb2)).setCell ⟨W1.heap.size, 2, none⟩ (.slice pi2 M.inp.length ci2)).setCell ⟨W1.heap.size, 3, none⟩ (.slice po2 M.out.length co2)).setCell ⟨W1.heap.size, 4, none⟩ (.int .i64 M.status)).setCell ⟨W1.heap.size, 5, none⟩ (.int .i64 M.trap)).setCell ⟨W1.heap.size, 6, none⟩ (.slice pp p.length qp)) W1.heap.size (.slice pp p.length qp) M :=
      ⟨_, _, _, _, q2, qb2, seven_heap Q0.out, (R2.out.low (hdA _).size).keep hgr (tyRow_at Q0.out) (by decide) (by decide) (by decide) (by decide), b2.grown hgr b2.size (fun k hk => by cases hk; exact Nat.le_refl _), Nat.le_refl _⟩
    have HC := hideP (HDD.out W1 _ _ HP.out hDo)
    clear hDo
    go_wp2_with (go_at_call 88; refine HC.out.mono ?_; rintro e w6 ⟨rfl, fv6, bv6, iv6, ov6, q6, qb6, k6, iw6, I6, F6⟩; have v0 := cell_at' F6.cell 0; have v1 := cell_at' F6.cell 1; have v2 := cell_at' F6.cell 2; have v3 := cell_at' F6.cell 3; have v4 := cell_at' F6.cell 4; have v5 := cell_at' F6.cell 5; simp at v0 v1 v2 v3 v4 v5; have hu6 := (F6.bel.block _ lu).trans HU.out; have a0 := cell_at' hu6 0; have a1 := cell_at' hu6 1; have a2 := cell_at' hu6 2; have a3 := cell_at' hu6 3; have a4 := cell_at' hu6 4; have a5 := cell_at' hu6 5; simp at a0 a1 a2 a3 a4 a5; have z := Lib.frozen_of_heap hu6; have z0 := z 0; have z1 := z 1; have z2 := z 2; have z3 := z 3; have z4 := z 4; have z5 := z 5; obtain ⟨pf6, cf6, hf6⟩ := row_shp F6.own.fr; obtain ⟨pb6, cb6, hb6⟩ := row_shp F6.own.bl; obtain ⟨po6, co6, ho6⟩ := row_shp F6.own.out; obtain ⟨pi6, ni6, ci6, hi6⟩ := fin_in F6; subst hf6 hb6 ho6 hi6; have HF6 := hideP F6; have HU6 := hideP hu6; clear F6 z hu6)
    refine leaves_cons (f := 87) (args := #[.pointer (some ⟨w.heap.size + 1, 0, none⟩), .pointer (some ⟨w.heap.size + 1 + 1, 0, none⟩)]) (by simp) (by simp [go_sem]) ?_
    refine (catch_idle _ _ _).mono ?_
    rintro e u' w'' ⟨rfl, rfl, rfl⟩
    have hg6 := six_grown w6 (w.heap.size + 1 + 1) (.slice pf6 q6.length cf6) (.slice pb6 qb6.length cb6) (.slice pi6 ni6 ci6) (.slice po6 R.out.length co6) (.int .i64 R.status) (.int .i64 R.trap)
    have hty6 : TyRow w6 (some (w.heap.size + 1 + 1)) 29 := tyRow_at HU6.out
    have hres : MRes w6 W1.heap.size (.slice pf6 q6.length cf6) (.slice pb6 qb6.length cb6) (.slice pi6 ni6 ci6) (.slice po6 R.out.length co6) R := ⟨q6, qb6, k6, iw6, I6, HF6.out.own, HF6.out.rest, HF6.out.val⟩
    have hres2 := (hres.low b1.size).keep hg6 hty6 (by decide) (by decide) (by decide) (by decide)
    have hb7 : Below w.heap.size w _ := (b1.trans (HF6.out.bel.mono b1.size)).grown hg6 (Nat.le_trans b1.size HF6.out.bel.size) (fun k hk => by cases hk; omega)
    have HRES := hideP hres2
    have HB7 := hideP hb7
    clear hres hres2 hb7 hg6 hty6
    simp [Leaves, settle, results, Tryz.results45, go_sem, a0, a1, a2, a3, a4, a5]
    exact ⟨_, _, _, _, ⟨rfl, rfl, rfl, rfl⟩, HRES.out, HB7.out⟩
set_option maxRecDepth 100000 in
set_option maxHeartbeats 4000000 in
theorem strideDo_trap (p : List Fn) (pv : Value) (M : Mach) (why : Int) (fv bv iv ov : Value) (w : World) (hp : FnsAt w pv p) (hM : MachAt w fv bv iv ov M) (hsm : SmallM M)
    (HD : ∀ (w0 W : World) (b : Nat), FnsAt w0 pv p → Doer w0 W b pv M → Calls Tryz.prog 88 #[.pointer (some ⟨b, 0, none⟩)] W fun e w' => e = .panicked [{ v := .iface 117 (.int .i64 why), recovered := false }] ∧ Below w0.heap.size w0 w') :
    Calls Tryz.prog 45 #[.agg #[pv], .agg #[fv, bv, iv, ov, .int .i64 M.status, .int .i64 M.trap]] w fun e w' => ∃ fv' bv' iv' ov', e = .returned (.agg #[fv', bv', iv', ov', .int .i64 3, .int .i64 why]) ∧ MRes w' w.heap.size fv' bv' iv' ov' (trapM M why) ∧ Below w.heap.size w w' := by
  have hmf : ∀ (fn : Go.Fn) (first cap : Array Value) (w : World), (Instr.makeFunc fn first cap).run Tryz.prog w = .ok (.func fn first cap) w := fun _ _ _ _ => rfl
  obtain ⟨pp, qp, hpv, -, -⟩ := id hp
  obtain ⟨pf, cf, hfv, -, -, -⟩ := id hM.fr
  obtain ⟨pb, cb, hbv, -, -⟩ := id hM.bl
  obtain ⟨pi, ci, hiv, -⟩ := hM.inp.shp
  obtain ⟨po, co, hov, -⟩ := hM.out.shp
  subst hpv hfv hbv hiv hov
  obtain ⟨W1, hW1⟩ : ∃ W1, ((w.alloc (.cells #[.slice pp p.length qp] 24)).alloc (.cells #[.slice pf M.frames.length cf, .slice pb M.blocks.length cb, .slice pi M.inp.length ci, .slice po M.out.length co, .int .i64 M.status, .int .i64 M.trap] 29)).alloc (.cells #[.slice none 0 0, .slice none 0 0, .slice none 0 0, .slice none 0 0, .int .i64 0, .int .i64 0] 29) = W1 := ⟨_, rfl⟩
  have b1 : Below w.heap.size w W1 := by rw [← hW1]; exact (((Below.refl _ w).alloc (Nat.le_refl _) _).alloc (by simp) _).alloc (by simp; omega) _
  have x1 : W1.heap[w.heap.size]? = some (.cells #[.slice pp p.length qp] 24 (0, 0)) := by rw [← hW1]; exact new_three _ _ _ _
  have y1 : W1.heap[w.heap.size + 1]? = some (.cells #[.slice pf M.frames.length cf, .slice pb M.blocks.length cb, .slice pi M.inp.length ci, .slice po M.out.length co, .int .i64 M.status, .int .i64 M.trap] 29 (0, 0)) := by rw [← hW1]; exact new_three1 _ _ _ _
  have u1 : W1.heap[w.heap.size + 1 + 1]? = some (.cells #[.slice none 0 0, .slice none 0 0, .slice none 0 0, .slice none 0 0, .int .i64 0, .int .i64 0] 29 (0, 0)) := by rw [← hW1]; exact new3 _ _ _ _
  have lx := heap_lt x1
  have ly := heap_lt y1
  have lu := heap_lt u1
  have k0 : W1.cell? ⟨w.heap.size, 0, none⟩ = some (.slice pp p.length qp) := cell_at' x1 0
  have d0 : W1.cell? ⟨w.heap.size + 1, 0, none⟩ = some (.slice pf M.frames.length cf) := cell_at' y1 0
  have d1 : W1.cell? ⟨w.heap.size + 1, 1, none⟩ = some (.slice pb M.blocks.length cb) := cell_at' y1 1
  have d2 : W1.cell? ⟨w.heap.size + 1, 2, none⟩ = some (.slice pi M.inp.length ci) := cell_at' y1 2
  have d3 : W1.cell? ⟨w.heap.size + 1, 3, none⟩ = some (.slice po M.out.length co) := cell_at' y1 3
  have d4 : W1.cell? ⟨w.heap.size + 1, 4, none⟩ = some (.int .i64 M.status) := cell_at' y1 4
  have d5 : W1.cell? ⟨w.heap.size + 1, 5, none⟩ = some (.int .i64 M.trap) := cell_at' y1 5
  have hdA : ∀ o, Below W1.heap.size W1 (W1.alloc o).drew := fun o => ((Below.refl _ W1).alloc (Nat.le_refl _) o).drew
  have hn1 : ¬ w.heap.size = W1.heap.size := by omega
  have hn2 : ¬ w.heap.size + 1 = W1.heap.size := by omega
  have HFM : Hid (∀ W, Below W1.heap.size W1 W → Calls Tryz.prog 44 #[.agg #[.slice pf M.frames.length cf, .slice pb M.blocks.length cb, .slice pi M.inp.length ci, .slice po M.out.length co, .int .i64 M.status, .int .i64 M.trap]] W fun e w' => ∃ fv' bv' iv' ov', e = .returned (.agg #[fv', bv', iv', ov', .int .i64 M.status, .int .i64 M.trap]) ∧ ∃ q qb, MOwn w' W.heap.size fv' bv' iv' ov' q qb M ∧ Below W.heap.size W w') := fun W hW => freshMachine_any M _ _ _ _ W ((hM.below b1).below hW) hsm
  have HP := hideP (hp.below b1)
  have HM := hideP (hM.below b1)
  have HSM := hideP hsm
  have HDD := hideP HD
  have HX := hideP x1
  have HY := hideP y1
  have HU := hideP u1
  clear hp hM hsm HD x1 y1 u1
  go_enter_defers Tryz.func45, Tryz.ntmps45
  go_wp2_with fail
  refine wp_normal ?_
  go_region_held3 (fun W => W.cell? ⟨w.heap.size, 0, none⟩ = some (.slice pp p.length qp) ∧ W.cell? ⟨w.heap.size + 1, 0, none⟩ = some (.slice pf M.frames.length cf) ∧ W.cell? ⟨w.heap.size + 1, 1, none⟩ = some (.slice pb M.blocks.length cb) ∧ W.cell? ⟨w.heap.size + 1, 2, none⟩ = some (.slice pi M.inp.length ci) ∧ W.cell? ⟨w.heap.size + 1, 3, none⟩ = some (.slice po M.out.length co) ∧ W.cell? ⟨w.heap.size + 1, 4, none⟩ = some (.int .i64 M.status) ∧ W.cell? ⟨w.heap.size + 1, 5, none⟩ = some (.int .i64 M.trap)) (first | go_keep | exact ⟨seven_cell h0 hn1, seven_cell g0 hn2, seven_cell g1 hn2, seven_cell g2 hn2, seven_cell g3 hn2, seven_cell g4 hn2, seven_cell g5 hn2⟩)
    (first
      | (go_at_call 44; (with_reducible refine (HFM.out _ ((Below.refl _ W1).drew)).mono ?_); rintro e w2 ⟨fv2, bv2, iv2, ov2, rfl, q2, qb2, r2, b2'⟩; have b2 : Below W1.heap.size W1 w2 := ((Below.refl _ W1).drew).trans b2'; obtain ⟨pf2, cf2, hfv2⟩ := row_shp r2.fr; obtain ⟨pb2, cb2, hbv2⟩ := row_shp r2.bl; obtain ⟨pi2, ci2, hiv2⟩ := row_shp r2.inp; obtain ⟨po2, co2, hov2⟩ := row_shp r2.out; subst hfv2 hbv2 hiv2 hov2; have R2 := hideP r2; clear r2; have h0 := (b2.cell (p := ⟨w.heap.size, 0, none⟩) lx).trans k0; have g0 := (b2.cell (p := ⟨w.heap.size + 1, 0, none⟩) ly).trans d0; have g1 := (b2.cell (p := ⟨w.heap.size + 1, 1, none⟩) ly).trans d1; have g2 := (b2.cell (p := ⟨w.heap.size + 1, 2, none⟩) ly).trans d2; have g3 := (b2.cell (p := ⟨w.heap.size + 1, 3, none⟩) ly).trans d3; have g4 := (b2.cell (p := ⟨w.heap.size + 1, 4, none⟩) ly).trans d4; have g5 := (b2.cell (p := ⟨w.heap.size + 1, 5, none⟩) ly).trans d5)
      | (go_at_call 44; (with_reducible refine (HFM.out _ (hdA _)).mono ?_); rintro e w2 ⟨fv2, bv2, iv2, ov2, rfl, q2, qb2, r2, b2'⟩; have b2 : Below W1.heap.size W1 w2 := (hdA _).trans (b2'.mono (hdA _).size); have q0 := (b2'.block W1.heap.size (heap_lt (World.alloc_heap_new W1 _))).trans (World.alloc_heap_new W1 _); have Q0 := hideP q0; have m0 := cell_at' q0 0; have m1 := cell_at' q0 1; have m2 := cell_at' q0 2; have m3 := cell_at' q0 3; have m4 := cell_at' q0 4; have m5 := cell_at' q0 5; have m6 := cell_at' q0 6; simp at m0 m1 m2 m3 m4 m5 m6; have n := Lib.frozen_of_heap q0; have n0 := n 0; have n1 := n 1; have n2 := n 2; have n3 := n 3; have n4 := n 4; have n5 := n 5; have n6 := n 6; clear n q0; obtain ⟨pf2, cf2, hfv2⟩ := row_shp r2.fr; obtain ⟨pb2, cb2, hbv2⟩ := row_shp r2.bl; obtain ⟨pi2, ci2, hiv2⟩ := row_shp r2.inp; obtain ⟨po2, co2, hov2⟩ := row_shp r2.out; subst hfv2 hbv2 hiv2 hov2; have R2 := hideP r2; clear r2; have h0 := (b2.cell (p := ⟨w.heap.size, 0, none⟩) lx).trans k0; have g0 := (b2.cell (p := ⟨w.heap.size + 1, 0, none⟩) ly).trans d0; have g1 := (b2.cell (p := ⟨w.heap.size + 1, 1, none⟩) ly).trans d1; have g2 := (b2.cell (p := ⟨w.heap.size + 1, 2, none⟩) ly).trans d2; have g3 := (b2.cell (p := ⟨w.heap.size + 1, 3, none⟩) ly).trans d3; have g4 := (b2.cell (p := ⟨w.heap.size + 1, 4, none⟩) ly).trans d4; have g5 := (b2.cell (p := ⟨w.heap.size + 1, 5, none⟩) ly).trans d5))
  · have hDo : Doer W1 (w2.alloc (.cells #[.slice pf2 q2.length cf2, .slice pb2 qb2.length cb2, .slice pi2 M.inp.length ci2, .slice po2 M.out.length co2, .int .i64 M.status, .int .i64 M.trap, .slice pp p.length qp] 120)) w2.heap.size (.slice pp p.length qp) M :=
      ⟨_, _, _, _, q2, qb2, World.alloc_heap_new w2 _, (R2.out.low (Nat.le_refl _)).below ((Below.refl _ w2).alloc (Nat.le_refl _) _), b2.alloc b2.size _, b2.size⟩
    have HC := hideP (HDD.out W1 _ _ HP.out hDo)
    clear hDo
    go_wp2_with (go_at_call 88; refine HC.out.mono ?_; rintro e w6 ⟨rfl, b6⟩; have hy6 := (b6.block _ ly).trans HY.out; have hu6 := (b6.block _ lu).trans HU.out; have HY6 := hideP hy6; have HU6 := hideP hu6; have B6 := hideP b6; clear hy6 hu6 b6)
    refine leaves_cons (f := 87) (args := #[.pointer (some ⟨w.heap.size + 1, 0, none⟩), .pointer (some ⟨w.heap.size + 1 + 1, 0, none⟩)]) (by simp) (by simp [go_sem]) ?_
    refine (catch_trap M _ _ _ _ _ _ why _ (HM.out.below B6.out) HSM.out HY6.out HU6.out).mono ?_
    rintro e u' w'' ⟨rfl, rfl, fv', bv', iv', ov', q7, qb7, w7, hown, b7, hw8⟩
    have hu7 := (b7.block _ (heap_lt HU6.out)).trans HU6.out
    have h8 : w''.heap[w.heap.size + 1 + 1]? = some (.cells #[fv', bv', iv', ov', .int .i64 3, .int .i64 why] 29 (0, 0)) := by rw [hw8]; exact eight_heap hu7
    have a0 := cell_at' h8 0
    have a1 := cell_at' h8 1
    have a2 := cell_at' h8 2
    have a3 := cell_at' h8 3
    have a4 := cell_at' h8 4
    have a5 := cell_at' h8 5
    simp at a0 a1 a2 a3 a4 a5
    have hg7 := ((six_grown w7 (w.heap.size + 1 + 1) fv' bv' iv' ov' (.int .i64 M.status) (.int .i64 M.trap)).trans (set_grown _ ⟨w.heap.size + 1 + 1, 4, none⟩ (.int .i64 3))).trans (set_grown _ ⟨w.heap.size + 1 + 1, 5, none⟩ (.int .i64 why))
    have hty7 : TyRow w7 (some (w.heap.size + 1 + 1)) 29 := tyRow_at hu7
    have hl6 : w.heap.size ≤ w6.heap.size := Nat.le_trans b1.size B6.out.size
    have hres : MRes w7 w.heap.size fv' bv' iv' ov' (trapM M why) := ⟨q7, qb7, 0, iv', M.inp, ⟨row_low hown.fr hl6, hown.frs.low hl6, row_low hown.bl hl6, hown.rows.low hl6⟩, rfl, .inl ⟨rfl, rfl⟩⟩
    have hres2 := hres.keep hg7 hty7 (by decide) (by decide) (by decide) (by decide)
    have hb7 : Below w.heap.size w _ := ((b1.trans (B6.out.mono b1.size)).trans (b7.mono hl6)).grown hg7 (Nat.le_trans hl6 b7.size) (fun k hk => by cases hk; omega)
    rw [← hw8] at hres2 hb7
    have HRES := hideP hres2
    have HB7 := hideP hb7
    obtain ⟨pf7, cf7, hf7⟩ := row_shp hown.fr
    obtain ⟨pb7, cb7, hb7'⟩ := row_shp hown.bl
    obtain ⟨pi7, ci7, hi7⟩ := row_shp hown.inp
    obtain ⟨po7, co7, ho7⟩ := row_shp hown.out
    subst hf7 hb7' hi7 ho7
    clear hres hres2 hb7 hg7 hty7 hown hu7 h8 hw8
    simp [Leaves, settle, results, Tryz.results45, go_sem, a0, a1, a2, a3, a4, a5]
    exact ⟨_, _, _, _, ⟨rfl, rfl, rfl, rfl⟩, HRES.out, HB7.out⟩
  · have hgr := seven_grown w2 W1.heap.size (.slice pf2 q2.length cf2) (.slice pb2 qb2.length cb2) (.slice pi2 M.inp.length ci2) (.slice po2 M.out.length co2) (.int .i64 M.status) (.int .i64 M.trap) (.slice pp p.length qp)
    have hDo : Doer W1 (((((((w2.setCell ⟨W1.heap.size, 0, none⟩ (.slice pf2 q2.length cf2)).setCell ⟨W1.heap.size, 1, none⟩ (.slice pb2 qb2.length cb2)).setCell ⟨W1.heap.size, 2, none⟩ (.slice pi2 M.inp.length ci2)).setCell ⟨W1.heap.size, 3, none⟩ (.slice po2 M.out.length co2)).setCell ⟨W1.heap.size, 4, none⟩ (.int .i64 M.status)).setCell ⟨W1.heap.size, 5, none⟩ (.int .i64 M.trap)).setCell ⟨W1.heap.size, 6, none⟩ (.slice pp p.length qp)) W1.heap.size (.slice pp p.length qp) M :=
      ⟨_, _, _, _, q2, qb2, seven_heap Q0.out, (R2.out.low (hdA _).size).keep hgr (tyRow_at Q0.out) (by decide) (by decide) (by decide) (by decide), b2.grown hgr b2.size (fun k hk => by cases hk; exact Nat.le_refl _), Nat.le_refl _⟩
    have HC := hideP (HDD.out W1 _ _ HP.out hDo)
    clear hDo
    go_wp2_with (go_at_call 88; refine HC.out.mono ?_; rintro e w6 ⟨rfl, b6⟩; have hy6 := (b6.block _ ly).trans HY.out; have hu6 := (b6.block _ lu).trans HU.out; have HY6 := hideP hy6; have HU6 := hideP hu6; have B6 := hideP b6; clear hy6 hu6 b6)
    refine leaves_cons (f := 87) (args := #[.pointer (some ⟨w.heap.size + 1, 0, none⟩), .pointer (some ⟨w.heap.size + 1 + 1, 0, none⟩)]) (by simp) (by simp [go_sem]) ?_
    refine (catch_trap M _ _ _ _ _ _ why _ (HM.out.below B6.out) HSM.out HY6.out HU6.out).mono ?_
    rintro e u' w'' ⟨rfl, rfl, fv', bv', iv', ov', q7, qb7, w7, hown, b7, hw8⟩
    have hu7 := (b7.block _ (heap_lt HU6.out)).trans HU6.out
    have h8 : w''.heap[w.heap.size + 1 + 1]? = some (.cells #[fv', bv', iv', ov', .int .i64 3, .int .i64 why] 29 (0, 0)) := by rw [hw8]; exact eight_heap hu7
    have a0 := cell_at' h8 0
    have a1 := cell_at' h8 1
    have a2 := cell_at' h8 2
    have a3 := cell_at' h8 3
    have a4 := cell_at' h8 4
    have a5 := cell_at' h8 5
    simp at a0 a1 a2 a3 a4 a5
    have hg7 := ((six_grown w7 (w.heap.size + 1 + 1) fv' bv' iv' ov' (.int .i64 M.status) (.int .i64 M.trap)).trans (set_grown _ ⟨w.heap.size + 1 + 1, 4, none⟩ (.int .i64 3))).trans (set_grown _ ⟨w.heap.size + 1 + 1, 5, none⟩ (.int .i64 why))
    have hty7 : TyRow w7 (some (w.heap.size + 1 + 1)) 29 := tyRow_at hu7
    have hl6 : w.heap.size ≤ w6.heap.size := Nat.le_trans b1.size B6.out.size
    have hres : MRes w7 w.heap.size fv' bv' iv' ov' (trapM M why) := ⟨q7, qb7, 0, iv', M.inp, ⟨row_low hown.fr hl6, hown.frs.low hl6, row_low hown.bl hl6, hown.rows.low hl6⟩, rfl, .inl ⟨rfl, rfl⟩⟩
    have hres2 := hres.keep hg7 hty7 (by decide) (by decide) (by decide) (by decide)
    have hb7 : Below w.heap.size w _ := ((b1.trans (B6.out.mono b1.size)).trans (b7.mono hl6)).grown hg7 (Nat.le_trans hl6 b7.size) (fun k hk => by cases hk; omega)
    rw [← hw8] at hres2 hb7
    have HRES := hideP hres2
    have HB7 := hideP hb7
    obtain ⟨pf7, cf7, hf7⟩ := row_shp hown.fr
    obtain ⟨pb7, cb7, hb7'⟩ := row_shp hown.bl
    obtain ⟨pi7, ci7, hi7⟩ := row_shp hown.inp
    obtain ⟨po7, co7, ho7⟩ := row_shp hown.out
    subst hf7 hb7' hi7 ho7
    clear hres hres2 hb7 hg7 hty7 hown hu7 h8 hw8
    simp [Leaves, settle, results, Tryz.results45, go_sem, a0, a1, a2, a3, a4, a5]
    exact ⟨_, _, _, _, ⟨rfl, rfl, rfl, rfl⟩, HRES.out, HB7.out⟩
end Go.Proofs.YtcadpoknolefpaaGreat


