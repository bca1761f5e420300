/- My texts Tb Tc Bf Bg: what of them is needed, joined. -/
import Derived.Deep.RegionWith
import Derived.Deep.RegionHeld3
import Derived.Test.YtcadpoknolefpaaGreatE13
import Derived.Test.YtcadpoknolefpaaGreatE23
import Derived.Test.YtcadpoknolefpaaGreatE24
/- A runner's step, and its run. -/
namespace Go.Proofs.YtcadpoknolefpaaGreat
open Go.RowKit
set_option linter.unusedSimpArgs false
set_option linter.unusedVariables false
structure RunAt (w0 W : World) (b : Nat) (pv : Value) (M : Mach) (n : Int) (fv bv iv ov : Value) : Prop where
  cell : W.heap[b]? = some (.cells (runCells fv bv iv ov pv M n) 104 (0, 0))
  res : MRes W w0.heap.size fv bv iv ov M
  bel : Below w0.heap.size w0 W
  lo : w0.heap.size ≤ b
def Runs (w0 W : World) (b : Nat) (pv : Value) (s : MF) : Prop := ∃ fv bv iv ov, RunAt w0 W b pv s.1 s.2 fv bv iv ov
theorem RunAt.below {w0 W W' : World} {b : Nat} {pv fv bv iv ov : Value} {M : Mach} {n : Int} (h : RunAt w0 W b pv M n fv bv iv ov) (hb : Below W.heap.size W W') : RunAt w0 W' b pv M n fv bv iv ov :=
  ⟨(hb.block b (heap_lt h.cell)).trans h.cell, h.res.below hb, h.bel.trans (hb.mono h.bel.size), h.lo⟩
theorem Runs.below {w0 W W' : World} {b : Nat} {pv : Value} {s : MF} (h : Runs w0 W b pv s) (hb : Below W.heap.size W W') : Runs w0 W' b pv s := by
  obtain ⟨fv, bv, iv, ov, h⟩ := h
  exact ⟨fv, bv, iv, ov, h.below hb⟩
theorem RunAt.fuel {w0 W : World} {b : Nat} {pv fv bv iv ov : Value} {M : Mach} {n : Int} (h : RunAt w0 W b pv M n fv bv iv ov) (k : Int) : RunAt w0 (W.setCell ⟨b, 7, none⟩ (.int .i64 k)) b pv M k fv bv iv ov := by
  have hg := set_grown W ⟨b, 7, none⟩ (.int .i64 k)
  refine ⟨?_, h.res.keep hg (tyRow_at h.cell) (by decide) (by decide) (by decide) (by decide), h.bel.setCell h.lo _, h.lo⟩
  have := heap_setCell_same W b 7 _ _ (.int .i64 k) h.cell
  simpa using this
theorem six_heap8 {W : World} {R : Nat} {t : TypeId} {a0 a1 a2 a3 a4 a5 a6 a7 : Value} (h : W.heap[R]? = some (.cells #[a0, a1, a2, a3, a4, a5, a6, a7] t (0, 0))) {a b c d e f : Value} : ((((((W.setCell ⟨R, 0, none⟩ a).setCell ⟨R, 1, none⟩ b).setCell ⟨R, 2, none⟩ c).setCell ⟨R, 3, none⟩ d).setCell ⟨R, 4, none⟩ e).setCell ⟨R, 5, none⟩ f).heap[R]? = some (.cells #[a, b, c, d, e, f, a6, a7] t (0, 0)) := by
  have h1 := heap_setCell_same W R 0 _ _ a h
  have h2 := heap_setCell_same _ R 1 _ _ b h1
  have h3 := heap_setCell_same _ R 2 _ _ c h2
  have h4 := heap_setCell_same _ R 3 _ _ d h3
  have h5 := heap_setCell_same _ R 4 _ _ e h4
  have h6 := heap_setCell_same _ R 5 _ _ f h5
  simpa using h6
theorem RunAt.machine {w0 W : World} {b : Nat} {pv fv bv iv ov fv' bv' iv' ov' : Value} {M R : Mach} {n : Int} {a0 a1 a2 a3 a4 a5 : Value} (hc : W.heap[b]? = some (.cells #[a0, a1, a2, a3, a4, a5, pv, .int .i64 n] 104 (0, 0))) (hr : MRes W w0.heap.size fv' bv' iv' ov' R) (hb : Below w0.heap.size w0 W) (hlo : w0.heap.size ≤ b) : RunAt w0 ((((((W.setCell ⟨b, 0, none⟩ fv').setCell ⟨b, 1, none⟩ bv').setCell ⟨b, 2, none⟩ iv').setCell ⟨b, 3, none⟩ ov').setCell ⟨b, 4, none⟩ (.int .i64 R.status)).setCell ⟨b, 5, none⟩ (.int .i64 R.trap)) b pv R n fv' bv' iv' ov' := by
  have hg := six_grown W b fv' bv' iv' ov' (.int .i64 R.status) (.int .i64 R.trap)
  exact ⟨six_heap8 hc, hr.keep hg (tyRow_at hc) (by decide) (by decide) (by decide) (by decide), hb.grown hg hb.size (fun k hk => by cases hk; exact hlo), hlo⟩
theorem pay_is {p : List Fn} {M : Mach} {n : Int} {o : Int × Int} (h : lastOp p M = some o) : pay p (M, n) = if n < costM o.1 then none else some (stepM p M, n - costM o.1) := by
  unfold pay
  simp only [h]
theorem next_small {p : List Fn} {e : Nat → Nat → Option (List Int)} {m : Mach} (hp : progErr p = 0) (he : AllFit p e) (h : RightM p e m) (hs : m.status = 0 ∨ m.status = 1) : ∃ (x : Frm) (kk pc : Nat) (f : Fn) (o : Int × Int), m.frames.getLast? = some x ∧ x.fn = (kk : Int) ∧ p[kk]? = some f ∧ x.pc = (pc : Int) ∧ f.2.2.2[pc]? = some o ∧ f.2.2.2.length ≤ 1000 ∧ p.length ≤ 1000 ∧ chk o.1 o.2 = 0 ∧ lastOp p m = some o ∧ stepM p m = doOp p m x o := by
  obtain ⟨x, k, f, o, h1, h2, h3, h4, h5, h6, h7, _⟩ := next_op hp he h hs
  have hmem := List.mem_of_getElem? h3
  have hom := List.mem_of_getElem? h5
  obtain ⟨hce, _, _⟩ := flowErr_zero (okFn hp hmem).flow
  have hl := (progErr_zero hp)
  refine ⟨x, k, x.pc.toNat, f, o, h1, h2, h3, by omega, h5, ?_, by omega, (codeErr_zero _ hce).2 o hom, h6, h7⟩
  have := (okFn_at hp hmem hom).2.1
  omega
set_option maxRecDepth 100000 in
set_option maxHeartbeats 4000000 in
theorem rStep_any (w0 W : World) (b : Nat) (p : List Fn) (e : Nat → Nat → Option (List Int)) (pv : Value) (M : Mach) (n : Int) (hp : progErr p = 0) (he : AllFit p e) (hR : RightM p e M) (hs : M.status = 0 ∨ M.status = 1) (hn : 0 ≤ n ∧ n ≤ 100000) (hf0 : FnsAt w0 pv p) (hcp0 : CapAt w0 pv) (h : Runs w0 W b pv (M, n)) : Calls Tryz.prog 117 #[.pointer (some ⟨b, 0, none⟩)] W fun e w' => e = .returned (.bool (pay p (M, n)).isSome) ∧ Runs w0 w' b pv ((pay p (M, n)).getD (M, n)) := by
  obtain ⟨fv, bv, iv, ov, h⟩ := h
  have h : RunAt w0 W b pv M n fv bv iv ov := h
  have hf := hf0.below h.bel
  have hcp := hcp0.below hf0 h.bel
  obtain ⟨x, kk, pc, f, o, h1, h2, h3x, h4, h5n, h6, h7, h8, h9, h10⟩ := next_small hp he hR hs
  have h5 : f.2.2.2[x.pc.toNat]? = some o := by rw [h4]; exact h5n
  have hsm := (right_small hp he hR).1
  have hi100 : M.inp.length ≤ 100 := by have := hsm.inp; omega
  have hat := h.res.at_ hi100
  have hCO := rCost_any M p pv fv bv iv ov n b W ⟨hf, hcp, hat⟩ h.cell (by have := hsm.fr; omega) x kk pc f o h1 h2 h3x h4 h5n h6 h7 h8
  have hcm := costM_le o.1
  have hst : lastOp p M = some o := h9
  rw [pay_is h9]
  generalize costM o.1 = c at *
  obtain ⟨⟨pf, nf, cf, hf1⟩, ⟨pb, nb, cb, hb1⟩, ⟨pi, ni, ci, hi1⟩, ⟨po, no, co, ho1⟩⟩ := mres_shp h.res
  obtain ⟨pp, qp, hpv, -, -⟩ := id hf0
  subst hf1 hb1 hi1 ho1 hpv
  have HCO := hideP hCO
  have HH := hideP h
  have HF := hideP hf0
  have HP := hideP hcp0
  have HR := hideP (And.intro hp (And.intro he hR))
  have hlb := heap_lt h.cell
  by_cases hlt : n < c
  · rw [if_pos hlt]
    clear hCO h hf hcp hf0 hcp0 hat hst hp he hR
    go_enter Tryz.func117, Tryz.ntmps117
    go_wp2_with fail
    refine HCO.out.mono ?_
    rintro e w2 ⟨rfl, b2⟩
    have h2' := HH.out.below b2
    have d7 := cell_at' h2'.cell 7
    simp at d7
    have HH2 := hideP h2'
    clear h2'
    go_wp2
    go_ret
    exact ⟨rfl, ⟨_, _, _, _, HH2.out⟩⟩
  · rw [if_neg hlt]
    have hmm : 0 ≤ n - c ∧ n - c ≤ 100000 := by omega
    clear hCO h hf hcp hf0 hcp0 hat hst hp he hR
    go_enter Tryz.func117, Tryz.ntmps117
    go_wp2_with fail
    refine HCO.out.mono ?_
    rintro e w2 ⟨rfl, b2⟩
    have h2' := HH.out.below b2
    have d7 := cell_at' h2'.cell 7
    simp at d7
    have z := Lib.frozen_of_heap h2'.cell
    have z7 := z 7
    have HH2 := hideP h2'
    clear h2' z
    go_wp2_with fail
    obtain ⟨W3, hW3⟩ : ∃ W3, w2.setCell ⟨b, 7, none⟩ (.int .i64 (n - c)) = W3 := ⟨_, rfl⟩
    have hW3' := hW3
    have h3 : RunAt w0 W3 b (.slice pp p.length qp) M (n - c) (.slice pf nf cf) (.slice pb nb cb) (.slice pi ni ci) (.slice po no co) := by rw [← hW3]; exact HH2.out.fuel (n - c)
    have hf3 := HF.out.below h3.bel
    have HDO := hideP (strideDo_any p e M _ _ _ _ _ W3.drew HR.out.1 HR.out.2.1 HR.out.2.2 hs (hf3.below (Below.refl _ W3).drew) ((h3.res.at_ hi100).below (Below.refl _ W3).drew) h1 h2 h3x h5)
    rw [← h10] at HDO
    clear h10
    have c0 := cell_at' h3.cell 0
    have c1 := cell_at' h3.cell 1
    have c2 := cell_at' h3.cell 2
    have c3 := cell_at' h3.cell 3
    have c4 := cell_at' h3.cell 4
    have c5 := cell_at' h3.cell 5
    have c6 := cell_at' h3.cell 6
    simp at c0 c1 c2 c3 c4 c5 c6
    have HH3 := hideP h3
    clear h3 hf3 hW3
    rw [hW3']
    clear hW3'
    go_region_with (first
      | (go_at_call 45; refine HDO.out.mono ?_; rintro e' w5 ⟨fv5, bv5, iv5, ov5, rfl, r5, b5'⟩; have b5 : Below W3.heap.size W3 w5 := bthen0 (Below.refl _ W3).drew b5'; clear b5'; obtain ⟨⟨pf5, nf5, cf5, hf5⟩, ⟨pb5, nb5, cb5, hb5⟩, ⟨pi5, ni5, ci5, hi5⟩, ⟨po5, no5, co5, ho5⟩⟩ := mres_shp r5; subst hf5 hb5 hi5 ho5; have h5' := (b5.block b (heap_lt HH3.out.cell)).trans HH3.out.cell; have t0 := cell_at' h5' 0; have t1 := cell_at' h5' 1; have t2 := cell_at' h5' 2; have t3 := cell_at' h5' 3; have t4 := cell_at' h5' 4; have t5 := cell_at' h5' 5; simp at t0 t1 t2 t3 t4 t5; have tz := Lib.frozen_of_heap h5'; have tz0 := tz 0; have tz1 := tz 1; have tz2 := tz 2; have tz3 := tz 3; have tz4 := tz 4; have tz5 := tz 5; have R5 := hideP r5; have H5 := hideP h5'; clear tz r5 h5'))
    all_goals
      go_wp2
      go_ret
      have hs3 := HH3.out.bel.size
      have hfin := RunAt.machine (w0 := w0) (n := n - c) (R := stepM p M) (M := M) (fv := .slice pf nf cf) (bv := .slice pb nb cb) (iv := .slice pi ni ci) (ov := .slice po no co) H5.out (R5.out.low hs3) (HH3.out.bel.trans (b5.mono hs3)) HH3.out.lo
      refine ⟨rfl, ?_⟩
      show Runs w0 _ b _ (stepM p M, n - c)
      exact ⟨_, _, _, _, hfin⟩
def OnWay (p : List Fn) (e : Nat → Nat → Option (List Int)) (w0 : World) (b : Nat) (pv : Value) (s0 : MF) (W : World) : Prop := ∃ s : MF, Runs w0 W b pv s ∧ RightM p e s.1 ∧ 0 ≤ s.2 ∧ s.2 ≤ 100000 ∧ ∀ t, Ends p s t → Ends p s0 t
set_option maxRecDepth 100000 in
set_option maxHeartbeats 4000000 in
theorem rLoop_any (w0 W : World) (b : Nat) (p : List Fn) (e : Nat → Nat → Option (List Int)) (pv : Value) (M : Mach) (n : Int) (hp : progErr p = 0) (he : AllFit p e) (hR : RightM p e M) (hn : 0 ≤ n ∧ n ≤ 100000) (hf0 : FnsAt w0 pv p) (hcp0 : CapAt w0 pv) (h : Runs w0 W b pv (M, n)) : Calls Tryz.prog 71 #[.pointer (some ⟨b, 0, none⟩)] W fun e' w' => e' = .returned (.tuple #[]) ∧ ∃ t : MF, RunIs p M n t ∧ Runs w0 w' b pv t := by
  have HSTEP : Hid (∀ (W : World) (M : Mach) (n : Int), RightM p e M → (M.status = 0 ∨ M.status = 1) → 0 ≤ n → n ≤ 100000 → Runs w0 W b pv (M, n) → Calls Tryz.prog 117 #[.pointer (some ⟨b, 0, none⟩)] W fun e w' => e = .returned (.bool (pay p (M, n)).isSome) ∧ Runs w0 w' b pv ((pay p (M, n)).getD (M, n))) := fun W M n h1 h2 h3 h4 h5 => rStep_any w0 W b p e pv M n hp he h1 h2 ⟨h3, h4⟩ hf0 hcp0 h5
  have HH := hideP h
  have HR := hideP hR
  have HP := hideP hp
  have HE := hideP he
  have HN := hideP hn
  obtain ⟨fv, bv, iv, ov, hq⟩ := id h
  have c4 := cell_at' hq.cell 4
  simp at c4
  clear hp he hR hf0 hcp0 h hq hn
  by_cases h1 : M.status = 1
  · have t1 : (M.status == 1) = true := by simpa using h1
    have t0 : (M.status == 0) = false := by simp [h1]
    have hfirst := firstS_wait (f := n) HP.out HE.out HR.out h1
    have hS := HSTEP.out W M n HR.out (.inr h1) HN.out.1 HN.out.2 HH.out
    have hg : (pay p (M, n)).getD (M, n) = (M, if n < 1 then n else n - 1) := by
      rw [← hfirst]; unfold firstS; rw [if_pos h1]
    rw [hg] at hS
    have HF := hideP hfirst
    have HS := hideP hS
    have H1 := hideP h1
    generalize (if n < 1 then n else n - 1) = k at *
    generalize (pay p (M, n)).isSome = bb at *
    clear hS hfirst hg h1
    go_enter Tryz.func71, Tryz.ntmps71
    go_wp2_with fail
    refine HS.out.mono ?_
    rintro e' w3 ⟨rfl, h3⟩
    have H3 := hideP h3
    clear h3 c4
    go_wp2_with fail
    go_loopw [] (fun wr => Runs w0 wr b pv (M, k)) (fun wr => 0)
    case atStart => exact H3.out
    case round =>
      obtain ⟨fv', bv', iv', ov', hq⟩ := id hrel
      have d4 := cell_at' hq.cell 4
      simp at d4
      have HRR := hideP hrel
      clear hrel hq
      go_wp2
      go_end0
      exact ⟨rfl, (M, k), by unfold RunIs; rw [HF.out]; exact .stop (by have := H1.out; simp [this]), HRR.out⟩
  · have t1 : (M.status == 1) = false := by simpa using h1
    go_enter Tryz.func71, Tryz.ntmps71
    go_wp2_with fail
    have hEq : ∀ t, Ends p (M, n) t → RunIs p M n t := fun t ht => by unfold RunIs; rw [firstS_on h1]; exact ht
    go_loopw [] (fun wr => OnWay p e w0 b pv (M, n) wr) (fun wr => (intOf ((wr.cell? ⟨b, 7, none⟩).getD (.int .i64 0))).toNat)
    case atStart => exact ⟨(M, n), HH.out, HR.out, HN.out.1, HN.out.2, fun t h => h⟩
    case round =>
      obtain ⟨⟨m, k⟩, hr, hm, hk0, hk1, hw⟩ := hrel
      simp only at hm hk0 hk1
      obtain ⟨fv', bv', iv', ov', hq⟩ := id hr
      have d4 := cell_at' hq.cell 4
      have d7 := cell_at' hq.cell 7
      simp at d4 d7
      have HRR := hideP hr
      have HM := hideP hm
      have HW := hideP hw
      have D7 := hideP d7
      clear hr hq hm hw d7 c4
      by_cases h0 : m.status = 0
      · have t0 : (m.status == 0) = true := by simpa using h0
        have HS := hideP (HSTEP.out _ m k HM.out (.inl h0) hk0 hk1 HRR.out)
        cases hpay : pay p (m, k) with
        | none =>
          rw [hpay] at HS
          go_wp2_with fail
          refine HS.out.mono ?_
          rintro e' w3 ⟨rfl, h3⟩
          have H3 := hideP h3
          clear h3
          go_wp2
          go_end0
          exact ⟨rfl, (m, k), hEq _ (HW.out _ (.poor hpay)), H3.out⟩
        | some s' =>
          rw [hpay] at HS
          have hl := pay_less hpay
          have hR' : RightM p e s'.1 := by rw [hl.2.2]; exact stepM_right HP.out HE.out HM.out
          have HL := hideP hl
          have HR' := hideP hR'
          clear hl hR'
          go_wp2_with fail
          refine HS.out.mono ?_
          rintro e' w3 ⟨rfl, h3⟩
          obtain ⟨fv5, bv5, iv5, ov5, hq5⟩ := id h3
          have e7 := cell_at' hq5.cell 7
          have H3 := hideP h3
          have E7 := hideP e7
          clear h3 hq5 e7
          go_wp2_with fail
          go_roundw
          case rel => exact ⟨s', H3.out, HR'.out, HL.out.1, (by have hk2 : s'.2 + 1 ≤ k := HL.out.2.1; omega), fun t ht => HW.out t (.on h0 hpay ht)⟩
          case measure =>
            have h1 := HL.out.1
            have h2 : s'.2 + 1 ≤ k := HL.out.2.1
            have h7 := E7.out
            rw [h7, D7.out]
            simp [intOf]
            omega
      · have t0 : (m.status == 0) = false := by simpa using h0
        go_wp2_with fail
        go_wp2
        go_end0
        exact ⟨rfl, (m, k), hEq _ (HW.out _ (.stop h0)), HRR.out⟩
end Go.Proofs.YtcadpoknolefpaaGreat


/- meter.Run. -/
namespace Go.Proofs.YtcadpoknolefpaaGreat
open Go.RowKit
set_option linter.unusedSimpArgs false
set_option linter.unusedVariables false
theorem eight_heap8 {W : World} {R : Nat} {t : TypeId} {a0 a1 a2 a3 a4 a5 a6 a7 a b c d e f g h : Value} (hh : W.heap[R]? = some (.cells #[a0, a1, a2, a3, a4, a5, a6, a7] t (0, 0))) : ((((((((W.setCell ⟨R, 0, none⟩ a).setCell ⟨R, 1, none⟩ b).setCell ⟨R, 2, none⟩ c).setCell ⟨R, 3, none⟩ d).setCell ⟨R, 4, none⟩ e).setCell ⟨R, 5, none⟩ f).setCell ⟨R, 6, none⟩ g).setCell ⟨R, 7, none⟩ h).heap[R]? = some (.cells #[a, b, c, d, e, f, g, h] t (0, 0)) := by
  have h1 := heap_setCell_same W R 0 _ _ a hh
  have h2 := heap_setCell_same _ R 1 _ _ b h1
  have h3 := heap_setCell_same _ R 2 _ _ c h2
  have h4 := heap_setCell_same _ R 3 _ _ d h3
  have h5 := heap_setCell_same _ R 4 _ _ e h4
  have h6 := heap_setCell_same _ R 5 _ _ f h5
  have h7 := heap_setCell_same _ R 6 _ _ g h6
  have h8 := heap_setCell_same _ R 7 _ _ h h7
  simpa using h8
theorem eight_grown8 (W : World) (R : Nat) (a b c d e f g h : Value) : W.grownBy ((((((((W.setCell ⟨R, 0, none⟩ a).setCell ⟨R, 1, none⟩ b).setCell ⟨R, 2, none⟩ c).setCell ⟨R, 3, none⟩ d).setCell ⟨R, 4, none⟩ e).setCell ⟨R, 5, none⟩ f).setCell ⟨R, 6, none⟩ g).setCell ⟨R, 7, none⟩ h) (some R) := seven_grown W R a b c d e f g |>.trans (set_grown _ ⟨R, 7, none⟩ h)
theorem eight_cell8 {W : World} {R : Nat} {a b c d e f g h v : Value} {p : Addr} (hc : W.cell? p = some v) (hn : ¬ p.block = R) : ((((((((W.setCell ⟨R, 0, none⟩ a).setCell ⟨R, 1, none⟩ b).setCell ⟨R, 2, none⟩ c).setCell ⟨R, 3, none⟩ d).setCell ⟨R, 4, none⟩ e).setCell ⟨R, 5, none⟩ f).setCell ⟨R, 6, none⟩ g).setCell ⟨R, 7, none⟩ h).cell? p = some v := by
  rw [World.cell?_setCell_far _ _ _ _ (fun e => hn e.symm)]
  exact seven_cell hc hn
theorem drew_cellE (w : World) (p : Addr) : w.drew.cell? p = w.cell? p := rfl
theorem six_cellD {w : World} {R : Nat} {a b c d e f v : Value} {p : Addr} (h : w.cell? p = some v) (hn : ¬ p.block = R) : ((((((w.setCell ⟨R, 0, none⟩ a).setCell ⟨R, 1, none⟩ b).setCell ⟨R, 2, none⟩ c).setCell ⟨R, 3, none⟩ d).setCell ⟨R, 4, none⟩ e).setCell ⟨R, 5, none⟩ f).drew.cell? p = some v := (drew_cellE _ _).trans (six_cell h hn)
noncomputable def runE (p : List Fn) (M : Mach) (n : Int) : Int := if checkE p M ≠ 0 then checkE p M else if n < 0 ∨ 10000 < n then 3 else 0
def RunRes (p : List Fn) (M : Mach) (n : Int) (t : MF) : Prop := (runE p M n = 0 → RunIs p M n t) ∧ (runE p M n ≠ 0 → t = (zeroM, 0))
def RunRet (p : List Fn) (M : Mach) (n : Int) (w : World) (e : Ending) (w' : World) : Prop := ∃ t : MF, RunRes p M n t ∧ ∃ fv bv iv ov, e = .returned (.tuple #[.agg #[fv, bv, iv, ov, .int .i64 t.1.status, .int .i64 t.1.trap], .int .i64 t.2, .int .i64 (runE p M n)]) ∧ MRes w' w.heap.size fv bv iv ov t.1 ∧ Below w.heap.size w w'
theorem runE_zero {p : List Fn} {M : Mach} {n : Int} : runE p M n = 0 ↔ checkE p M = 0 ∧ 0 ≤ n ∧ n ≤ 10000 := by
  unfold runE
  constructor
  · intro h
    split at h
    · rename_i h1; exact absurd h h1
    · rename_i h1
      split at h
      · cases h
      · exact ⟨by simpa using h1, by omega, by omega⟩
  · rintro ⟨h1, h2, h3⟩
    rw [if_neg (by simp [h1]), if_neg (by omega)]
set_option maxRecDepth 100000 in
set_option maxHeartbeats 8000000 in
theorem mRun_any (M : Mach) (p : List Fn) (n : Int) (pv fv bv iv ov : Value) (w : World) (h : CkAt w p pv fv bv iv ov M) (hpc : PcOk M) : Calls Tryz.prog 29 #[.agg #[pv], .agg #[fv, bv, iv, ov, .int .i64 M.status, .int .i64 M.trap], .int .i64 n] w (RunRet p M n w) := by
  obtain ⟨⟨pp, qp, hpv⟩, ⟨pf, cf, hfv⟩, ⟨pb, cb, hbv⟩, ⟨pi, ci, hiv⟩, ⟨po, co, hov⟩⟩ := h.shp
  subst hpv hfv hbv hiv hov
  obtain ⟨W1, hW1⟩ : ∃ W1, ((w.alloc (.cells #[.slice pp p.length qp] 24)).alloc (.cells #[.slice pf M.frames.length cf, .slice pb M.blocks.length cb, .slice pi M.inp.length ci, .slice po M.out.length co, .int .i64 M.status, .int .i64 M.trap] 29)).alloc (.cells #[.slice none 0 0, .slice none 0 0, .slice none 0 0, .slice none 0 0, .int .i64 0, .int .i64 0] 29) = W1 := ⟨_, rfl⟩
  have b1 : Below w.heap.size w W1 := by rw [← hW1]; exact (((Below.refl _ w).alloc (Nat.le_refl _) _).alloc (by simp) _).alloc (by simp; omega) _
  have u1 : W1.heap[w.heap.size]? = some (.cells #[.slice pp p.length qp] 24 (0, 0)) := by rw [← hW1]; exact new_three _ _ _ _
  have u2 : W1.heap[w.heap.size + 1]? = some (.cells #[.slice pf M.frames.length cf, .slice pb M.blocks.length cb, .slice pi M.inp.length ci, .slice po M.out.length co, .int .i64 M.status, .int .i64 M.trap] 29 (0, 0)) := by rw [← hW1]; exact new_three1 _ _ _ _
  have u3 : W1.heap[w.heap.size + 1 + 1]? = some (.cells #[.slice none 0 0, .slice none 0 0, .slice none 0 0, .slice none 0 0, .int .i64 0, .int .i64 0] 29 (0, 0)) := by rw [← hW1]; exact new3 _ _ _ _
  have l1 := heap_lt u1
  have l2 := heap_lt u2
  have l3 := heap_lt u3
  have KC : Hid (∀ W, Below W1.heap.size W1 W → W.cell? ⟨w.heap.size, 0, none⟩ = some (.slice pp p.length qp) ∧ W.cell? ⟨w.heap.size + 1, 0, none⟩ = some (.slice pf M.frames.length cf) ∧ W.cell? ⟨w.heap.size + 1, 1, none⟩ = some (.slice pb M.blocks.length cb) ∧ W.cell? ⟨w.heap.size + 1, 2, none⟩ = some (.slice pi M.inp.length ci) ∧ W.cell? ⟨w.heap.size + 1, 3, none⟩ = some (.slice po M.out.length co) ∧ W.cell? ⟨w.heap.size + 1, 4, none⟩ = some (.int .i64 M.status) ∧ W.cell? ⟨w.heap.size + 1, 5, none⟩ = some (.int .i64 M.trap)) := fun W hW => by
    have h1 := (hW.block _ l1).trans u1
    have h2 := (hW.block _ l2).trans u2
    exact ⟨cell_at' h1 0, cell_at' h2 0, cell_at' h2 1, cell_at' h2 2, cell_at' h2 3, cell_at' h2 4, cell_at' h2 5⟩
  have KR : Hid (∀ W, Below W1.heap.size W1 W → W.heap[w.heap.size + 1 + 1]? = some (.cells #[.slice none 0 0, .slice none 0 0, .slice none 0 0, .slice none 0 0, .int .i64 0, .int .i64 0] 29 (0, 0))) := fun W hW => (hW.block _ l3).trans u3
  obtain ⟨a0, d0, d1, d2, d3, d4, d5⟩ := KC.out W1 (Below.refl _ _)
  have H1 := h.below b1
  have HCK := hideP (mCheck_any M p _ _ _ _ _ W1 H1 hpc)
  have HH := hideP H1
  clear h H1 u1 u2 u3 hpc
  by_cases hc : checkE p M = 0
  rotate_left
  · have hc' : (checkE p M != 0) = true := by simpa using hc
    have hE : runE p M n = checkE p M := by unfold runE; rw [if_pos hc]
    have HFIN : Hid (RunRes p M n (zeroM, 0)) := ⟨fun h0 => absurd (hE.symm.trans h0) hc, fun _ => rfl⟩
    unfold RunRet
    rw [hE]
    generalize checkE p M = er at *
    clear hc hE
    go_enter Tryz.func29, Tryz.ntmps29
    go_wp2_with fail
    refine HCK.out.mono ?_
    rintro e' w2 ⟨rfl, b2⟩
    obtain ⟨e0, g0, g1, g2, g3, g4, g5⟩ := KC.out w2 b2
    have hr2 := KR.out w2 b2
    have r0 := cell_at' hr2 0
    have r1 := cell_at' hr2 1
    have r2 := cell_at' hr2 2
    have r3 := cell_at' hr2 3
    have r4 := cell_at' hr2 4
    have r5 := cell_at' hr2 5
    simp at r0 r1 r2 r3 r4 r5
    have zq := Lib.frozen_of_heap hr2
    have z0 := zq 0
    have z1 := zq 1
    have z2 := zq 2
    have z3 := zq 3
    have z4 := zq 4
    have z5 := zq 5
    clear zq
    have HR2 := hideP hr2
    clear hr2
    go_wp2
    refine bodyPost_ret (v := .tuple #[.agg #[.slice none 0 0, .slice none 0 0, .slice none 0 0, .slice none 0 0, .int .i64 0, .int .i64 0], .int .i64 0, .int .i64 er]) (by simp [results, Tryz.results29, go_sem, r0, r1, r2, r3, r4, r5]) rfl ?_
    have hg6 := six_grown w2 (w.heap.size + 1 + 1) (.slice none 0 0) (.slice none 0 0) (.slice none 0 0) (.slice none 0 0) (.int .i64 0) (.int .i64 0)
    exact ⟨(zeroM, 0), HFIN.out, _, _, _, _, rfl, mres_zero _ _, (bthen0 b1 b2).grown hg6 (bthen0 b1 b2).size (fun k hk => by cases hk; omega)⟩
  rw [hc] at HCK
  by_cases hn : n < 0 ∨ 10000 < n
  · have hE : runE p M n = 3 := by unfold runE; rw [if_neg (by simp [hc]), if_pos hn]
    have HFIN : Hid (RunRes p M n (zeroM, 0)) := ⟨fun h0 => (by rw [hE] at h0; cases h0), fun _ => rfl⟩
    unfold RunRet
    rw [hE]
    clear hE
    by_cases hneg : n < 0
    · have t1 : decide (n < 0) = true := by simpa using hneg
      clear hn hc hneg
      go_enter Tryz.func29, Tryz.ntmps29
      go_wp2_with fail
      refine HCK.out.mono ?_
      rintro e' w2 ⟨rfl, b2⟩
      obtain ⟨e0, g0, g1, g2, g3, g4, g5⟩ := KC.out w2 b2
      have hr2 := KR.out w2 b2
      have r0 := cell_at' hr2 0
      have r1 := cell_at' hr2 1
      have r2 := cell_at' hr2 2
      have r3 := cell_at' hr2 3
      have r4 := cell_at' hr2 4
      have r5 := cell_at' hr2 5
      simp at r0 r1 r2 r3 r4 r5
      have zq := Lib.frozen_of_heap hr2
      have z0 := zq 0
      have z1 := zq 1
      have z2 := zq 2
      have z3 := zq 3
      have z4 := zq 4
      have z5 := zq 5
      clear zq
      have HR2 := hideP hr2
      clear hr2
      go_wp2
      refine bodyPost_ret (v := .tuple #[.agg #[.slice none 0 0, .slice none 0 0, .slice none 0 0, .slice none 0 0, .int .i64 0, .int .i64 0], .int .i64 0, .int .i64 3]) (by simp [results, Tryz.results29, go_sem, r0, r1, r2, r3, r4, r5]) rfl ?_
      have hg6 := six_grown w2 (w.heap.size + 1 + 1) (.slice none 0 0) (.slice none 0 0) (.slice none 0 0) (.slice none 0 0) (.int .i64 0) (.int .i64 0)
      exact ⟨(zeroM, 0), HFIN.out, _, _, _, _, rfl, mres_zero _ _, (bthen0 b1 b2).grown hg6 (bthen0 b1 b2).size (fun k hk => by cases hk; omega)⟩
    · have t1 : decide (n < 0) = false := by simpa using hneg
      have t2 : decide (n > 10000) = true := by simp; omega
      clear hn hc hneg
      go_enter Tryz.func29, Tryz.ntmps29
      go_wp2_with fail
      refine HCK.out.mono ?_
      rintro e' w2 ⟨rfl, b2⟩
      obtain ⟨e0, g0, g1, g2, g3, g4, g5⟩ := KC.out w2 b2
      have hr2 := KR.out w2 b2
      have r0 := cell_at' hr2 0
      have r1 := cell_at' hr2 1
      have r2 := cell_at' hr2 2
      have r3 := cell_at' hr2 3
      have r4 := cell_at' hr2 4
      have r5 := cell_at' hr2 5
      simp at r0 r1 r2 r3 r4 r5
      have zq := Lib.frozen_of_heap hr2
      have z0 := zq 0
      have z1 := zq 1
      have z2 := zq 2
      have z3 := zq 3
      have z4 := zq 4
      have z5 := zq 5
      clear zq
      have HR2 := hideP hr2
      clear hr2
      go_wp2
      refine bodyPost_ret (v := .tuple #[.agg #[.slice none 0 0, .slice none 0 0, .slice none 0 0, .slice none 0 0, .int .i64 0, .int .i64 0], .int .i64 0, .int .i64 3]) (by simp [results, Tryz.results29, go_sem, r0, r1, r2, r3, r4, r5]) rfl ?_
      have hg6 := six_grown w2 (w.heap.size + 1 + 1) (.slice none 0 0) (.slice none 0 0) (.slice none 0 0) (.slice none 0 0) (.int .i64 0) (.int .i64 0)
      exact ⟨(zeroM, 0), HFIN.out, _, _, _, _, rfl, mres_zero _ _, (bthen0 b1 b2).grown hg6 (bthen0 b1 b2).size (fun k hk => by cases hk; omega)⟩
  have hE : runE p M n = 0 := runE_zero.2 ⟨hc, by omega, by omega⟩
  have HE0 := hideP hE
  unfold RunRet
  rw [hE]
  clear hE
  obtain ⟨hp, he, hR⟩ := checkE_zero.1 hc
  have hsm := (right_small hp he hR).1
  have t1 : decide (n < 0) = false := by simp; omega
  have t2 : decide (n > 10000) = false := by simp; omega
  have HNN : Hid (0 ≤ n ∧ n ≤ 100000) := ⟨by omega, by omega⟩
  have HS := hideP (And.intro hp (And.intro he hR))
  have HFM : Hid (∀ W, Below W1.heap.size W1 W → Calls Tryz.prog 44 #[.agg #[.slice pf M.frames.length cf, .slice pb M.blocks.length cb, .slice pi M.inp.length ci, .slice po M.out.length co, .int .i64 M.status, .int .i64 M.trap]] W fun e w' => ∃ fv' bv' iv' ov', e = .returned (.agg #[fv', bv', iv', ov', .int .i64 M.status, .int .i64 M.trap]) ∧ ∃ q qb, MOwn w' W.heap.size fv' bv' iv' ov' q qb M ∧ Below W.heap.size W w') := fun W hW => freshMachine_any M _ _ _ _ W (HH.out.below hW).mach hsm
  clear hn hc hp he hR hsm
  go_enter Tryz.func29, Tryz.ntmps29
  go_wp2_with fail
  refine HCK.out.mono ?_
  rintro e' w2 ⟨rfl, b2⟩
  clear a0 d0 d1 d2 d3 d4 d5
  obtain ⟨x0, g0, g1, g2, g3, g4, g5⟩ := KC.out w2 b2
  have hz1 : ¬ w.heap.size = w2.heap.size := by have := b2.size; omega
  have hz2 : ¬ w.heap.size + 1 = w2.heap.size := by have := b2.size; omega
  have hdA : ∀ o, Below w2.heap.size w2 (w2.alloc o).drew := fun o => ((Below.refl _ w2).alloc (Nat.le_refl _) o).drew
  go_upto_region 6 with fail
  go_cut [10] from 25 (fun s10 wx => ∃ bR : Nat, s10 = .pointer (some ⟨bR, 0, none⟩) ∧ Runs W1 wx bR (.slice pp p.length qp) (M, n))
  case first =>
    go_region_held3 (fun X => X.cell? ⟨w.heap.size, 0, none⟩ = some (.slice pp p.length qp) ∧ X.cell? ⟨w.heap.size + 1, 0, none⟩ = some (.slice pf M.frames.length cf) ∧ X.cell? ⟨w.heap.size + 1, 1, none⟩ = some (.slice pb M.blocks.length cb) ∧ X.cell? ⟨w.heap.size + 1, 2, none⟩ = some (.slice pi M.inp.length ci) ∧ X.cell? ⟨w.heap.size + 1, 3, none⟩ = some (.slice po M.out.length co) ∧ X.cell? ⟨w.heap.size + 1, 4, none⟩ = some (.int .i64 M.status) ∧ X.cell? ⟨w.heap.size + 1, 5, none⟩ = some (.int .i64 M.trap)) (first | go_keep | exact ⟨eight_cell8 k0 hz1, eight_cell8 k1 hz2, eight_cell8 k2 hz2, eight_cell8 k3 hz2, eight_cell8 k4 hz2, eight_cell8 k5 hz2, eight_cell8 k6 hz2⟩)
      (first
        | (go_at_call 44; (with_reducible refine (HFM.out _ (bthen0 b2 (Below.refl _ w2).drew)).mono ?_); rintro e w3 ⟨f3, b3, i3, o3, rfl, q3, qb3, r3, b3'⟩; have b23 : Below w2.heap.size w2 w3 := bthen0 (Below.refl _ w2).drew b3'; have b13 := bthen0 b2 b23; obtain ⟨pf3, cf3, hf3⟩ := row_shp r3.fr; obtain ⟨pb3, cb3, hb3⟩ := row_shp r3.bl; obtain ⟨pi3, ci3, hi3⟩ := row_shp r3.inp; obtain ⟨po3, co3, ho3⟩ := row_shp r3.out; subst hf3 hb3 hi3 ho3; have R3 := hideP r3; clear r3; obtain ⟨k0, k1, k2, k3, k4, k5, k6⟩ := KC.out w3 b13)
        | (go_at_call 44; (with_reducible refine (HFM.out _ (bthen0 b2 (hdA _))).mono ?_); rintro e w3 ⟨f3, b3, i3, o3, rfl, q3, qb3, r3, b3'⟩; have b23 : Below w2.heap.size w2 w3 := bthen0 (hdA _) b3'; have b13 := bthen0 b2 b23; have q0 := (b3'.block w2.heap.size (heap_lt (World.alloc_heap_new w2 _))).trans (World.alloc_heap_new w2 _); have Q0 := hideP q0; have m0 := cell_at' q0 0; have m1 := cell_at' q0 1; have m2 := cell_at' q0 2; have m3 := cell_at' q0 3; have m4 := cell_at' q0 4; have m5 := cell_at' q0 5; have m6 := cell_at' q0 6; have m7 := cell_at' q0 7; simp at m0 m1 m2 m3 m4 m5 m6 m7; have nn := Lib.frozen_of_heap q0; have n0 := nn 0; have n1 := nn 1; have n2 := nn 2; have n3 := nn 3; have n4 := nn 4; have n5 := nn 5; have n6 := nn 6; have n7 := nn 7; clear nn q0; obtain ⟨pf3, cf3, hf3⟩ := row_shp r3.fr; obtain ⟨pb3, cb3, hb3⟩ := row_shp r3.bl; obtain ⟨pi3, ci3, hi3⟩ := row_shp r3.inp; obtain ⟨po3, co3, ho3⟩ := row_shp r3.out; subst hf3 hb3 hi3 ho3; have R3 := hideP r3; clear r3; obtain ⟨k0, k1, k2, k3, k4, k5, k6⟩ := KC.out w3 b13))
    all_goals
      go_wp2_with fail
      go_meet
    · have h8 := World.alloc_heap_new w3 (.cells (runCells (.slice pf3 q3.length cf3) (.slice pb3 qb3.length cb3) (.slice pi3 M.inp.length ci3) (.slice po3 M.out.length co3) (.slice pp p.length qp) M n) 104)
      refine ⟨_, rfl, _, _, _, _, ⟨h8, ?_, b13.alloc b13.size _, b13.size⟩⟩
      exact (R3.out.res.low (by have := b2.size; simpa using this)).below ((Below.refl _ w3).alloc (Nat.le_refl _) _)
    · have hg8 := eight_grown8 w3 w2.heap.size (.slice pf3 q3.length cf3) (.slice pb3 qb3.length cb3) (.slice pi3 M.inp.length ci3) (.slice po3 M.out.length co3) (.int .i64 M.status) (.int .i64 M.trap) (.slice pp p.length qp) (.int .i64 n)
      refine ⟨_, rfl, _, _, _, _, ⟨eight_heap8 Q0.out, ?_, b13.grown hg8 b13.size (fun k hk => by cases hk; exact b2.size), b2.size⟩⟩
      exact (R3.out.res.low (by have := b2.size; simp; omega)).keep hg8 (tyRow_at Q0.out) (by decide) (by decide) (by decide) (by decide)
  case rest =>
    obtain ⟨bR, rfl, hruns⟩ := hcut
    have HRUN := hideP (rLoop_any W1 wc bR p (entP p) _ M n HS.out.1 HS.out.2.1 HS.out.2.2 HNN.out HH.out.fns HH.out.cap hruns)
    clear hruns x0 g0 g1 g2 g3 g4 g5
    go_wp2_with fail
    refine HRUN.out.mono ?_
    rintro e' w5 ⟨rfl, t, ht, f5, b5, i5, o5, hq⟩
    obtain ⟨⟨pf5, nf5, cf5, hf5⟩, ⟨pb5, nb5, cb5, hb5⟩, ⟨pi5, ni5, ci5, hi5⟩, ⟨po5, no5, co5, ho5⟩⟩ := mres_shp hq.res
    subst hf5 hb5 hi5 ho5
    have hr5 := KR.out w5 hq.bel
    have HR5 := hideP hr5
    have s0 := cell_at' hr5 0
    have s1 := cell_at' hr5 1
    have s2 := cell_at' hr5 2
    have s3 := cell_at' hr5 3
    have s4 := cell_at' hr5 4
    have s5 := cell_at' hr5 5
    simp at s0 s1 s2 s3 s4 s5
    have yq := Lib.frozen_of_heap hr5
    have y0 := yq 0
    have y1 := yq 1
    have y2 := yq 2
    have y3 := yq 3
    have y4 := yq 4
    have y5 := yq 5
    clear yq
    have c0 := cell_at' hq.cell 0
    have c1 := cell_at' hq.cell 1
    have c2 := cell_at' hq.cell 2
    have c3 := cell_at' hq.cell 3
    have c4 := cell_at' hq.cell 4
    have c5 := cell_at' hq.cell 5
    have c7 := cell_at' hq.cell 7
    simp at c0 c1 c2 c3 c4 c5 c7
    have hne : ¬ bR = w.heap.size + 1 + 1 := fun e => by
      have h1 := hq.cell
      rw [e, hr5] at h1
      simp at h1
    have HST := hideP (mres_store (w := w) (hq.res.low b1.size) (b1.trans (hq.bel.mono b1.size)) hr5 (by omega))
    have HT := hideP ht
    clear hq hr5 ht
    go_wp2_with fail
    have T0 := six_cellD (a := .slice pf5 nf5 cf5) (b := .slice pb5 nb5 cb5) (c := .slice pi5 ni5 ci5) (d := .slice po5 no5 co5) (e := .int .i64 t.1.status) (f := .int .i64 t.1.trap) c0 hne
    have T1 := six_cellD (a := .slice pf5 nf5 cf5) (b := .slice pb5 nb5 cb5) (c := .slice pi5 ni5 ci5) (d := .slice po5 no5 co5) (e := .int .i64 t.1.status) (f := .int .i64 t.1.trap) c1 hne
    have T2 := six_cellD (a := .slice pf5 nf5 cf5) (b := .slice pb5 nb5 cb5) (c := .slice pi5 ni5 ci5) (d := .slice po5 no5 co5) (e := .int .i64 t.1.status) (f := .int .i64 t.1.trap) c2 hne
    have T3 := six_cellD (a := .slice pf5 nf5 cf5) (b := .slice pb5 nb5 cb5) (c := .slice pi5 ni5 ci5) (d := .slice po5 no5 co5) (e := .int .i64 t.1.status) (f := .int .i64 t.1.trap) c3 hne
    have T4 := six_cellD (a := .slice pf5 nf5 cf5) (b := .slice pb5 nb5 cb5) (c := .slice pi5 ni5 ci5) (d := .slice po5 no5 co5) (e := .int .i64 t.1.status) (f := .int .i64 t.1.trap) c4 hne
    have T5 := six_cellD (a := .slice pf5 nf5 cf5) (b := .slice pb5 nb5 cb5) (c := .slice pi5 ni5 ci5) (d := .slice po5 no5 co5) (e := .int .i64 t.1.status) (f := .int .i64 t.1.trap) c5 hne
    have T7 := six_cellD (a := .slice pf5 nf5 cf5) (b := .slice pb5 nb5 cb5) (c := .slice pi5 ni5 ci5) (d := .slice po5 no5 co5) (e := .int .i64 t.1.status) (f := .int .i64 t.1.trap) c7 hne
    go_region_held3 (fun X => X.cell? ⟨bR, 0, none⟩ = some (.slice pf5 nf5 cf5) ∧ X.cell? ⟨bR, 1, none⟩ = some (.slice pb5 nb5 cb5) ∧ X.cell? ⟨bR, 2, none⟩ = some (.slice pi5 ni5 ci5) ∧ X.cell? ⟨bR, 3, none⟩ = some (.slice po5 no5 co5) ∧ X.cell? ⟨bR, 4, none⟩ = some (.int .i64 t.1.status) ∧ X.cell? ⟨bR, 5, none⟩ = some (.int .i64 t.1.trap) ∧ X.cell? ⟨bR, 7, none⟩ = some (.int .i64 t.2)) (first | go_keep | exact ⟨T0, T1, T2, T3, T4, T5, T7⟩) (fail)
    clear T0 T1 T2 T3 T4 T5 T7
    go_wp2
    refine bodyPost_ret (v := .tuple #[.agg #[.slice pf5 nf5 cf5, .slice pb5 nb5 cb5, .slice pi5 ni5 ci5, .slice po5 no5 co5, .int .i64 t.1.status, .int .i64 t.1.trap], .int .i64 t.2, .int .i64 0]) (by simp [results, Tryz.results29, go_sem, s0, s1, s2, s3, s4, s5]) rfl ?_
    exact ⟨t, ⟨fun _ => HT.out, fun h => absurd HE0.out h⟩, _, _, _, _, rfl, HST.out.1.below (Below.refl _ _).drew, HST.out.2.drew⟩
end Go.Proofs.YtcadpoknolefpaaGreat


/- block.Keep. -/
namespace Go.Proofs.YtcadpoknolefpaaGreat
open Go.RowKit
set_option linter.unusedSimpArgs false
set_option linter.unusedVariables false
def LBox (bl : Nat) (v : Value) (W : World) : Prop := bl < W.heap.size ∧ W.cell? ⟨bl, 0, none⟩ = some v
theorem LBox.below {bl : Nat} {v : Value} {W W' : World} (h : LBox bl v W) (hb : Below W.heap.size W W') : LBox bl v W' := ⟨Nat.lt_of_lt_of_le h.1 hb.size, (hb.cell (p := ⟨bl, 0, none⟩) h.1).trans h.2⟩
end Go.Proofs.YtcadpoknolefpaaGreat


/- the reference's SameBlocks, CellsOf; blockBegun. -/
namespace Go.Proofs.YtcadpoknolefpaaGreat
open Go.RowKit
set_option linter.unusedSimpArgs false
set_option linter.unusedVariables false
set_option maxHeartbeats 1000000 in
theorem sameBlocks_any (L M : List (List Int)) (v u : Value) (w : World) (hL : BlksAt w v L) (hM : BlksAt w u M) : Calls Tryz.prog 64 #[v, u] w fun e w' => e = .returned (.bool (decide (L = M))) ∧ Below w.heap.size w w' := by
  obtain ⟨p, cap, rfl, hlm, hc⟩ := hL
  obtain ⟨q, cap', rfl, hmm, hd⟩ := hM
  unfold maxLen at hlm hmm
  by_cases hlen : L.length = M.length
  · have hlen' : ((L.length : Int) != (M.length : Int)) = false := by simp; omega
    have HLEN := hideP hlen
    have HC := hideP hc
    have HD := hideP hd
    clear hc hd hlen
    go_enter Tryz.func64, Tryz.ntmps64
    go_wp2
    go_loopw [5] (fun i wr => ∃ k : Nat, k ≤ L.length ∧ i = .int .i64 k ∧ L.take k = M.take k ∧ Below w.heap.size w wr) (fun i _ => L.length - (intOf i).toNat)
    case atStart => exact ⟨0, Nat.zero_le _, rfl, by simp, Below.refl _ _⟩
    case round =>
      rename World => w1
      obtain ⟨k, hk, rfl, htk, hbw⟩ := hrel
      have HT := hideP htk
      clear htk
      by_cases hlt : k < L.length
      · have hlt2 : k < M.length := by have := HLEN.out; omega
        obtain ⟨x, ho⟩ := at_of_lt hlt
        obtain ⟨y, ho'⟩ := at_of_lt hlt2
        obtain ⟨b, off, c, rfl, hb, h0, h1, _, _⟩ := HC.out k _ ho
        obtain ⟨b', off', c', rfl, hb', h0', h1', _, _⟩ := HD.out k _ ho'
        have g0 := (hbw.cell (p := ⟨b, off + k, none⟩) hb).trans h0
        have g0' := (hbw.cell (p := ⟨b', off' + k, none⟩) hb').trans h0'
        have hlti : (k : Int) < (L.length : Int) := by omega
        have hlti2 : (k : Int) < (M.length : Int) := by omega
        obtain ⟨p1, c1, hc1, _, _⟩ := id h1
        obtain ⟨p2, c2, hc2, _, _⟩ := id h1'
        subst hc1 hc2
        have HS := hideP (sameInts_any x y _ _ w1.drew ((h1.below hbw).below (Below.refl _ w1).drew) ((h1'.below hbw).below (Below.refl _ w1).drew))
        have HO := hideP ho
        have HO' := hideP ho'
        clear ho ho' h0 h0' h1 h1'
        by_cases he : x = y
        · rw [decide_eq_true he] at HS
          have HE := hideP he
          clear he
          go_wp2_with fail
          go_region_held3 (fun W => W.cell? ⟨b, off + k, none⟩ = some (.slice p1 x.length c1) ∧ W.cell? ⟨b', off' + k, none⟩ = some (.slice p2 y.length c2)) (go_keep)
            (first
            | (go_at_call 26; refine HS.out.mono ?_; rintro e w2 ⟨rfl, hb2⟩; have g2 := (hb2.cell (p := ⟨b, off + k, none⟩) (Nat.lt_of_lt_of_le hb hbw.size)).trans g0; have g2' := (hb2.cell (p := ⟨b', off' + k, none⟩) (Nat.lt_of_lt_of_le hb' hbw.size)).trans g0'))
          go_wp2
          go_roundw
          case rel => exact ⟨k + 1, by omega, by go_num, by rw [take_snoc L k _ HO.out, take_snoc M k _ HO'.out, HT.out, HE.out], hbw.trans ((((Below.refl w1.heap.size w1).drew).trans hb2).mono hbw.size)⟩
          case measure => simp [intOf]; omega
        · rw [decide_eq_false he] at HS
          have HE := hideP he
          clear he
          go_wp2_with fail
          go_region_held3 (fun W => W.cell? ⟨b, off + k, none⟩ = some (.slice p1 x.length c1) ∧ W.cell? ⟨b', off' + k, none⟩ = some (.slice p2 y.length c2)) (go_keep)
            (first
            | (go_at_call 26; refine HS.out.mono ?_; rintro e w2 ⟨rfl, hb2⟩; have g2 := (hb2.cell (p := ⟨b, off + k, none⟩) (Nat.lt_of_lt_of_le hb hbw.size)).trans g0; have g2' := (hb2.cell (p := ⟨b', off' + k, none⟩) (Nat.lt_of_lt_of_le hb' hbw.size)).trans g0'))
          go_wp2
          go_ret
          refine ⟨?_, hbw.trans ((((Below.refl w1.heap.size w1).drew).trans hb2).mono hbw.size)⟩
          have : ¬ L = M := fun h => by
            have h1 := HO.out
            rw [h, HO'.out] at h1
            simp at h1
            exact HE.out h1.symm
          simp [this]
      · have hlt' : ¬ (k : Int) < (L.length : Int) := by omega
        go_wp2
        go_ret
        refine ⟨?_, hbw⟩
        have : L = M := by
          have h := HT.out
          rwa [List.take_of_length_le (by omega), List.take_of_length_le (by have := HLEN.out; omega)] at h
        simp [this]
  · have hlen' : ((L.length : Int) != (M.length : Int)) = true := by simp; omega
    have hne : ¬ L = M := fun h => hlen (by rw [h])
    clear hc hd
    have HN := hideP hne
    clear hne hlen
    go_enter Tryz.func64, Tryz.ntmps64
    go_wp2
    go_ret
    exact ⟨by simp [HN.out], Below.refl _ _⟩
end Go.Proofs.YtcadpoknolefpaaGreat


