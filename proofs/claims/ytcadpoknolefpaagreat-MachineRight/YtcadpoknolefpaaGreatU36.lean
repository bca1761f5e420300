/- My texts Ng Nh Xg Ni Nj, joined. -/
import Derived.Lib.SmallJoins
import Derived.Test.YtcadpoknolefpaaGreatU14
import Derived.Test.YtcadpoknolefpaaGreatU18
import Derived.Test.YtcadpoknolefpaaGreatU24
import Derived.Test.YtcadpoknolefpaaGreatU28
import Derived.Test.YtcadpoknolefpaaGreatU35
/- machine's checker: whether a frame fits. -/
namespace Go.Proofs.YtcadpoknolefpaaGreat
open Go.RowKit
set_option linter.unusedSimpArgs false
set_option linter.unusedVariables false
/-- the entries of a function that fits, as Func tells them. -/
theorem vFunc_fit (p : List Fn) (e : Nat → Nat → Option (List Int)) (hp : progErr p = 0) (he : AllFit p e) (k : Nat) (f : Fn) (hf : p[k]? = some f) (pv : Value) (w : World) (hA : FnsAt w pv p) (hC : CapAt w pv) : Calls Tryz.prog 62 #[.agg #[pv], .int .i64 (k : Int)] w fun e' w' => ∃ lv, e' = .returned (.tuple #[lv, .int .i64 0]) ∧ EntsRd w' lv (entsOf f.2.2.2 (e k)) ∧ Below w.heap.size w w' := by
  refine (vFunc_any p (k : Int) pv w hA hC).mono ?_
  rintro e' w' ⟨v, er, l, rfl, hi, ho, hb⟩
  rcases hi with ⟨a1, _⟩ | ⟨_, a2, _⟩ | ⟨_, n, g, r, hn, hg, hl, h3⟩
  · exact absurd hp a1
  · have := lt_of_at hf; omega
  · have e1 : n = k := by omega
    subst e1
    rw [hf] at hg
    cases hg
    have e2 := least_one hl (he n f hf)
    subst e2
    rcases h3 with ⟨h4, _⟩ | ⟨e3, h4, h5, h6⟩
    · cases h4
    · cases h4
      subst h5 h6
      exact ⟨v, rfl, entsRd_own ho, hb⟩
theorem progFn {p : List Fn} {x : Frm} (h : inProg p x = true) : ∃ (k : Nat) (f : Fn), x.fn = (k : Int) ∧ p[k]? = some f := by
  simp only [inProg, Bool.and_eq_true, decide_eq_true_eq] at h
  obtain ⟨f, hf⟩ := at_of_lt (l := p) (k := x.fn.toNat) (by omega)
  exact ⟨x.fn.toNat, f, by omega, hf⟩
theorem entsOk_at {p : List Fn} {e : Nat → Nat → Option (List Int)} (hp : progErr p = 0) (he : AllFit p e) {k : Nat} {f : Fn} (hf : p[k]? = some f) : EntsOk p f (e k) (entsOf f.2.2.2 (e k)) ∧ f.2.2.2.length ≤ 1000 := by
  have hfl := (okFn hp (List.mem_of_getElem? hf)).flow
  refine ⟨entsOk hfl (he k f hf), ?_⟩
  have := flowErr_40 hfl
  omega
theorem prog_short {p : List Fn} (hp : progErr p = 0) : p.length ≤ 5 := (progErr_zero hp).2.1
/-- where a frame is, whichever it is. -/
theorem placed_any (M : Mach) (p : List Fn) (e : Nat → Nat → Option (List Int)) (pv fv bv iv ov lv : Value) (i k : Nat) (x : Frm) (f : Fn) (w : World) (hp : progErr p = 0) (he : AllFit p e) (h : CkAt w p pv fv bv iv ov M) (hx : M.frames[i]? = some x) (hf : p[k]? = some f) (hk : x.fn = (k : Int)) (hl : EntsRd w lv (entsOf f.2.2.2 (e k))) (h6 : M.frames.length ≤ 6) (hp1 : -9223372036854775808 ≤ x.pc) (hp2 : x.pc ≤ 9223372036854775807) : Calls Tryz.prog 195 #[chkV pv fv bv iv ov M, .int .i64 i, lv] w fun e' w' => e' = .returned (.bool (placedB e ((M.frames[i + 1]?).map Frm.fn) x k f)) ∧ Below w.heap.size w w' := by
  obtain ⟨ho, hcl⟩ := entsOk_at hp he hf
  have hpl := prog_short hp
  have hil := lt_of_at hx
  cases hy : M.frames[i + 1]? with
  | none =>
    have := List.getElem?_eq_none_iff.1 hy
    exact placed_last M p e pv fv bv iv ov lv _ i k x f w h hx (by omega) hf hl ho
  | some y => exact placed_mid M p e pv fv bv iv ov lv _ i k x y f w h hx hy hf hk hl ho hcl (by omega) (by omega) hp1 hp2
/-- what is to be on its stack, where it is placed. -/
theorem stack_any (M : Mach) (p : List Fn) (e : Nat → Nat → Option (List Int)) (pv fv bv iv ov lv : Value) (i k : Nat) (x : Frm) (f : Fn) (w : World) (hp : progErr p = 0) (he : AllFit p e) (h : CkAt w p pv fv bv iv ov M) (hall : M.frames.all (inProg p) = true) (hx : M.frames[i]? = some x) (hf : p[k]? = some f) (hk : x.fn = (k : Int)) (hl : EntsRd w lv (entsOf f.2.2.2 (e k))) (h6 : M.frames.length ≤ 6) (hpl : placedB e ((M.frames[i + 1]?).map Frm.fn) x k f = true) : Calls Tryz.prog 196 #[chkV pv fv bv iv ov M, .int .i64 i, lv] w fun e' w' => ∃ u, e' = .returned u ∧ FullInts w' u (stackT p e ((M.frames[i + 1]?).map Frm.fn) x k) ∧ Below w.heap.size w w' := by
  obtain ⟨ho, hcl⟩ := entsOk_at hp he hf
  have hpl5 := prog_short hp
  have hil := lt_of_at hx
  cases hy : M.frames[i + 1]? with
  | none =>
    rw [hy] at hpl
    simp only [Option.map_none, placedB, Bool.and_eq_true, decide_eq_true_eq, Option.isSome_iff_exists] at hpl
    obtain ⟨h0, s, hs⟩ := hpl
    have := List.getElem?_eq_none_iff.1 hy
    have e1 : stackT p e none x k = s := by simp [stackT, hs]
    simp only [Option.map_none]
    rw [e1]
    exact stack_last M p e pv fv bv iv ov lv _ i k x.pc.toNat s x f w h hx (by omega) hl ho (by omega) hs (by omega)
  | some y =>
    rw [hy] at hpl
    simp only [Option.map_some, placedB, Bool.and_eq_true, decide_eq_true_eq, Option.isSome_iff_exists, beq_iff_eq] at hpl
    obtain ⟨⟨h0, s0, hs0⟩, hop⟩ := hpl
    obtain ⟨s, hs⟩ := outer_more he hf hs0 hop
    have hpc1 : (x.pc - 1).toNat + 1 = x.pc.toNat := by omega
    rw [hpc1] at hs
    have hyp : inProg p y = true := List.all_eq_true.1 hall y (List.mem_of_getElem? hy)
    obtain ⟨j, hh, hj, hhj⟩ := progFn hyp
    have hjt : y.fn.toNat = j := by omega
    simp only [Option.map_some]
    by_cases hr : hh.2.2.1 = 0
    · have e1 : stackT p e (some y.fn) x k = s := by simp [stackT, hs, hjt, hhj, hr]
      rw [e1]
      exact stack_mid0 M p e pv fv bv iv ov lv _ i k x.pc.toNat j s x y f hh w h hx hy hj hhj hr hl ho (by omega) hs (by omega) (by omega)
    · have e1 : stackT p e (some y.fn) x k = s.dropLast := by simp [stackT, hs, hjt, hhj, hr]
      rw [e1]
      have hne : s.length ≠ 0 := by
        obtain ⟨o, out, h4, h5, h7⟩ := (he k f hf).1.on (x.pc - 1).toNat s0 hs0
        rw [hop] at h4
        cases h4
        obtain ⟨_, s', h8, h9⟩ := h7 ((x.pc - 1).toNat + 1) (goesOn_next hop (by simp) (by simp))
        rw [hpc1, hs] at h8
        cases h8
        rw [← leS_length h9]
        obtain ⟨t', l', q1, q2, q3, hout⟩ := try_parts h5
        unfold takesLeaves at q1
        rw [if_neg (by simp), if_neg (by simp), if_neg (by simp), if_pos rfl] at q1
        simp only [hjt, hhj] at q1
        have hr0 := ((okFn hp (List.mem_of_getElem? hf)).res hh (List.mem_of_getElem? hhj)).1
        simp at q1
        rw [hout, ← q1.2, if_pos (by omega)]
        simp
      exact stack_mid1 M p e pv fv bv iv ov lv _ i k x.pc.toNat j (s.length - 1) s x y f hh w h hx hy hj hhj hr hl ho (by omega) hs (by omega) (by omega) (by omega)
end Go.Proofs.YtcadpoknolefpaaGreat
/- machine's checker: a frame. -/
namespace Go.Proofs.YtcadpoknolefpaaGreat
open Go.RowKit
set_option linter.unusedSimpArgs false
set_option linter.unusedVariables false
set_option maxRecDepth 100000 in
set_option maxHeartbeats 8000000 in
theorem fits_any (M : Mach) (p : List Fn) (e : Nat → Nat → Option (List Int)) (pv fv bv iv ov : Value) (i k : Nat) (x : Frm) (f : Fn) (w : World) (hp : progErr p = 0) (he : AllFit p e) (h : CkAt w p pv fv bv iv ov M) (hall : M.frames.all (inProg p) = true) (hx : M.frames[i]? = some x) (hf : p[k]? = some f) (hk : x.fn = (k : Int)) (h6 : M.frames.length ≤ 6) (hp1 : -9223372036854775808 ≤ x.pc) (hp2 : x.pc ≤ 9223372036854775807) : Calls Tryz.prog 140 #[chkV pv fv bv iv ov M, .int .i64 i] w (Says (fitErr p e M.blocks.length ((M.frames[i + 1]?).map Frm.fn) x k f) w) := by
  obtain ⟨⟨pp, qp, hpv⟩, -, ⟨pb, cb, hbv⟩, ⟨pi, ci, hiv⟩, ⟨po, co, hov⟩⟩ := h.shp
  obtain ⟨pf, cf, hfv, hfm, -, hfc⟩ := id h.mach.fr
  subst hpv hfv hbv hiv hov
  obtain ⟨g, off, lv1, sv1, rfl, hg, x0, x1, x2, x3, hL, -, hS, -⟩ := hfc i x hx
  obtain ⟨pl1, cl1, hlv1, hlm1, -⟩ := id hL
  obtain ⟨ps1, cs1, hsv1, hsm1, -⟩ := id hS
  subst hlv1 hsv1
  have hil := lt_of_at hx
  have hili : (i : Int) < (M.frames.length : Int) := by omega
  obtain ⟨pp', qp', hpe, -, hpc⟩ := id h.fns
  cases hpe
  obtain ⟨fb, fo, c0, c1, c2, c3, hpp, hplt, -, z1, -, -, hfn⟩ := hpc k f hf
  subst hpp
  obtain ⟨-, hty, -, -⟩ := hfn
  obtain ⟨pt, qt, htv, htm, -⟩ := id hty
  subst htv
  have hkl := lt_of_at hf
  have hkli : (k : Int) < (p.length : Int) := by omega
  rw [hk] at x0
  have x0a := fun o => cell_old x0 o
  have x1a := fun o => cell_old x1 o
  have x2a := fun o => cell_old x2 o
  have x3a := fun o => cell_old x3 o
  obtain ⟨W2, hW2⟩ : ∃ W2, (w.alloc (.cells #[.slice (some ⟨g, off, none⟩) M.frames.length cf, .slice pb M.blocks.length cb, .slice pi M.inp.length ci, .slice po M.out.length co, .int .i64 M.status, .int .i64 M.trap, .slice (some ⟨fb, fo, none⟩) p.length qp] 88)).alloc (.cells #[.int .i64 k, .int .i64 x.pc, .slice pl1 x.loc.length cl1, .slice ps1 x.stk.length cs1] 48) = W2 := ⟨_, rfl⟩
  have b2 : Below w.heap.size w W2 := by rw [← hW2]; exact ((Below.refl _ w).alloc (Nat.le_refl _) _).alloc (by simp) _
  have u1 : W2.heap[w.heap.size]? = some (.cells #[.slice (some ⟨g, off, none⟩) M.frames.length cf, .slice pb M.blocks.length cb, .slice pi M.inp.length ci, .slice po M.out.length co, .int .i64 M.status, .int .i64 M.trap, .slice (some ⟨fb, fo, none⟩) p.length qp] 88 (0, 0)) := by rw [← hW2]; exact heap_old (World.alloc_heap_new w _) _
  have u2 : W2.heap[w.heap.size + 1]? = some (.cells #[.int .i64 k, .int .i64 x.pc, .slice pl1 x.loc.length cl1, .slice ps1 x.stk.length cs1] 48 (0, 0)) := by rw [← hW2]; exact new_two w _ _
  have l1 := heap_lt u1
  have l2 := heap_lt u2
  have a0 : W2.cell? ⟨w.heap.size, 0, none⟩ = some (.slice (some ⟨g, off, none⟩) M.frames.length cf) := cell_at' u1 0
  have a1 : W2.cell? ⟨w.heap.size, 1, none⟩ = some (.slice pb M.blocks.length cb) := cell_at' u1 1
  have a2 : W2.cell? ⟨w.heap.size, 2, none⟩ = some (.slice pi M.inp.length ci) := cell_at' u1 2
  have a3 : W2.cell? ⟨w.heap.size, 3, none⟩ = some (.slice po M.out.length co) := cell_at' u1 3
  have a4 : W2.cell? ⟨w.heap.size, 4, none⟩ = some (.int .i64 M.status) := cell_at' u1 4
  have a5 : W2.cell? ⟨w.heap.size, 5, none⟩ = some (.int .i64 M.trap) := cell_at' u1 5
  have a6 : W2.cell? ⟨w.heap.size, 6, none⟩ = some (.slice (some ⟨fb, fo, none⟩) p.length qp) := cell_at' u1 6
  have f0 : W2.cell? ⟨w.heap.size + 1, 0, none⟩ = some (.int .i64 k) := cell_at' u2 0
  have f2 : W2.cell? ⟨w.heap.size + 1, 2, none⟩ = some (.slice pl1 x.loc.length cl1) := cell_at' u2 2
  have f3 : W2.cell? ⟨w.heap.size + 1, 3, none⟩ = some (.slice ps1 x.stk.length cs1) := cell_at' u2 3
  have z1' := (b2.cell (p := ⟨fb, fo + k * 4 + 1, none⟩) hplt).trans z1
  have KC : Hid (∀ W, Below W2.heap.size W2 W → (W.cell? ⟨w.heap.size, 0, none⟩ = some (.slice (some ⟨g, off, none⟩) M.frames.length cf) ∧ W.cell? ⟨w.heap.size, 1, none⟩ = some (.slice pb M.blocks.length cb) ∧ W.cell? ⟨w.heap.size, 2, none⟩ = some (.slice pi M.inp.length ci) ∧ W.cell? ⟨w.heap.size, 3, none⟩ = some (.slice po M.out.length co) ∧ W.cell? ⟨w.heap.size, 4, none⟩ = some (.int .i64 M.status) ∧ W.cell? ⟨w.heap.size, 5, none⟩ = some (.int .i64 M.trap) ∧ W.cell? ⟨w.heap.size, 6, none⟩ = some (.slice (some ⟨fb, fo, none⟩) p.length qp)) ∧ W.cell? ⟨w.heap.size + 1, 2, none⟩ = some (.slice pl1 x.loc.length cl1) ∧ W.cell? ⟨w.heap.size + 1, 3, none⟩ = some (.slice ps1 x.stk.length cs1)) := fun W hW =>
    ⟨⟨(hW.cell (p := ⟨w.heap.size, 0, none⟩) l1).trans a0, (hW.cell (p := ⟨w.heap.size, 1, none⟩) l1).trans a1, (hW.cell (p := ⟨w.heap.size, 2, none⟩) l1).trans a2, (hW.cell (p := ⟨w.heap.size, 3, none⟩) l1).trans a3, (hW.cell (p := ⟨w.heap.size, 4, none⟩) l1).trans a4, (hW.cell (p := ⟨w.heap.size, 5, none⟩) l1).trans a5, (hW.cell (p := ⟨w.heap.size, 6, none⟩) l1).trans a6⟩, (hW.cell (p := ⟨w.heap.size + 1, 2, none⟩) l2).trans f2, (hW.cell (p := ⟨w.heap.size + 1, 3, none⟩) l2).trans f3⟩
  have H2 := h.below b2
  have hshp : (∃ q n c, Value.slice (some ⟨fb, fo, none⟩) p.length qp = .slice q n c) ∧ (∃ q n c, Value.slice (some ⟨g, off, none⟩) M.frames.length cf = .slice q n c) ∧ (∃ q c, Value.slice pb M.blocks.length cb = .slice q M.blocks.length c) ∧ (∃ q n c, Value.slice pi M.inp.length ci = .slice q n c) ∧ ∃ q n c, Value.slice po M.out.length co = .slice q n c := ⟨⟨_, _, _, rfl⟩, ⟨_, _, _, rfl⟩, ⟨_, _, rfl⟩, ⟨_, _, _, rfl⟩, ⟨_, _, _, rfl⟩⟩
  have HVF := hideP (vFunc_fit p e hp he k f hf _ W2 H2.fns H2.cap)
  have HH2 := hideP H2
  have HOK : Hid (∀ (l : List Val) (v : Value) (W : World), ValsAt W v l → Calls Tryz.prog 192 #[v, .func (.func 193) #[chkV (.slice (some ⟨fb, fo, none⟩) p.length qp) (.slice (some ⟨g, off, none⟩) M.frames.length cf) (.slice pb M.blocks.length cb) (.slice pi M.inp.length ci) (.slice po M.out.length co) M] #[]] W fun e w' => e = .returned (.bool (!l.all (okV M.blocks.length))) ∧ Below W.heap.size W w') := fun l v W hv => allOk_any M _ _ _ _ _ l v W hv hshp.1 hshp.2.1 hshp.2.2.1 hshp.2.2.2.1 hshp.2.2.2.2
  have HL := hideP (hL.below b2)
  have HS := hideP (hS.below b2)
  have HTY := hideP (hty.below b2)
  have HX := hideP hx
  have HF := hideP hf
  have HK := hideP hk
  have HALL := hideP hall
  have HP := hideP hp
  have HE := hideP he
  generalize hnx : (M.frames[i + 1]?).map Frm.fn = nx
  have HNX := hideP hnx
  clear h hx hf hall hfc hpc hL hS hty H2 x0 x1 x2 x3 u1 u2 hp he hshp hnx z1 hk
  go_enter Tryz.func140, Tryz.ntmps140
  by_cases c1 : x.loc.length = f.2.1.length
  rotate_left
  · have c1' : ((x.loc.length : Int) != (f.2.1.length : Int)) = true := by simp; omega
    have HC1 := hideP c1
    clear c1
    go_wp2_with fail
    refine HVF.out.mono ?_
    rintro e' w3 ⟨lv, rfl, hents, b3⟩
    obtain ⟨⟨q0, q1, q2, q3, q4, q5, q6⟩, q7, q8⟩ := KC.out w3 b3
    obtain ⟨pl, cl, hlv⟩ := hents.shp
    subst hlv
    go_wp2
    go_ret
    exact ⟨by unfold fitErr; rw [if_pos HC1.out]; rfl, bthen0 b2 b3⟩
  have c1' : ((x.loc.length : Int) != (f.2.1.length : Int)) = false := by simp; omega
  have HC1 := hideP c1
  clear c1
  go_wp2_with fail
  refine HVF.out.mono ?_
  rintro e' w3 ⟨lv, rfl, hents, b3⟩
  obtain ⟨⟨q0, q1, q2, q3, q4, q5, q6⟩, q7, q8⟩ := KC.out w3 b3
  obtain ⟨pl, cl, hlv⟩ := hents.shp
  subst hlv
  have HENT := hideP hents
  clear hents
  go_wp2_with fail
  refine (HOK.out x.loc _ w3 (HL.out.below b3)).mono ?_
  rintro e' w4 ⟨rfl, b4'⟩
  have b4 := b3.trans (b4'.mono b3.size)
  have HENT4 := hideP (HENT.out.below b4')
  clear b4' HENT q0 q1 q2 q3 q4 q5 q6 q7 q8
  obtain ⟨⟨q0, q1, q2, q3, q4, q5, q6⟩, q7, q8⟩ := KC.out w4 b4
  cases k1 : x.loc.all (okV M.blocks.length)
  · go_wp2
    go_ret
    exact ⟨by unfold fitErr; rw [if_neg (by simpa using HC1.out), if_pos (by rw [k1]; rfl)]; rfl, bthen0 b2 b4⟩
  have K1 := hideP k1
  clear k1
  go_wp2_with fail
  refine (HOK.out x.stk _ w4 (HS.out.below b4)).mono ?_
  rintro e' w5 ⟨rfl, b5'⟩
  have b5 := b4.trans (b5'.mono b4.size)
  have HENT5 := hideP (HENT4.out.below b5')
  clear b5' HENT4 q0 q1 q2 q3 q4 q5 q6 q7 q8
  obtain ⟨⟨q0, q1, q2, q3, q4, q5, q6⟩, q7, q8⟩ := KC.out w5 b5
  cases k2 : x.stk.all (okV M.blocks.length)
  · go_wp2
    go_ret
    exact ⟨by unfold fitErr; rw [if_neg (by simpa using HC1.out), if_pos (by rw [K1.out, k2]; rfl)]; rfl, bthen0 b2 b5⟩
  have K2 := hideP k2
  clear k2
  go_wp2_with fail
  refine (areOf_any x.loc f.2.1 _ _ w5 (HL.out.below b5) (HTY.out.below b5)).mono ?_
  rintro e' w6 ⟨rfl, b6'⟩
  have b6 := b5.trans (b6'.mono b5.size)
  have HENT6 := hideP (HENT5.out.below b6')
  clear b6' HENT5 q0 q1 q2 q3 q4 q5 q6 q7 q8
  obtain ⟨⟨q0, q1, q2, q3, q4, q5, q6⟩, q7, q8⟩ := KC.out w6 b6
  cases k3 : areOf x.loc f.2.1
  · go_wp2
    go_ret
    exact ⟨by unfold fitErr; rw [if_neg (by simpa using HC1.out), if_neg (by rw [K1.out, K2.out]; decide), if_pos k3]; rfl, bthen0 b2 b6⟩
  have K3 := hideP k3
  clear k3
  go_wp2_with fail
  refine (placed_any M p e _ _ _ _ _ _ i k x f w6 HP.out HE.out (HH2.out.below b6) HX.out HF.out HK.out HENT6.out h6 hp1 hp2).mono ?_
  rw [HNX.out]
  rintro e' w7 ⟨rfl, b7'⟩
  have b7 := b6.trans (b7'.mono b6.size)
  have HENT7 := hideP (HENT6.out.below b7')
  clear b7' HENT6 q0 q1 q2 q3 q4 q5 q6 q7 q8
  obtain ⟨⟨q0, q1, q2, q3, q4, q5, q6⟩, q7, q8⟩ := KC.out w7 b7
  cases k4 : placedB e nx x k f
  · go_wp2
    go_ret
    exact ⟨by unfold fitErr; rw [if_neg (by simpa using HC1.out), if_neg (by rw [K1.out, K2.out]; decide), if_neg (by rw [K3.out]; decide), if_pos k4]; rfl, bthen0 b2 b7⟩
  have K4 := hideP k4
  clear k4
  have HST : Hid (∀ W, Below w7.heap.size w7 W → Calls Tryz.prog 196 #[chkV (.slice (some ⟨fb, fo, none⟩) p.length qp) (.slice (some ⟨g, off, none⟩) M.frames.length cf) (.slice pb M.blocks.length cb) (.slice pi M.inp.length ci) (.slice po M.out.length co) M, .int .i64 i, .slice pl (entsOf f.2.2.2 (e k)).length cl] W fun e' w' => ∃ u, e' = .returned u ∧ FullInts w' u (stackT p e nx x k) ∧ Below W.heap.size W w') := fun W hW => by
    have := stack_any M p e _ _ _ _ _ (.slice pl (entsOf f.2.2.2 (e k)).length cl) i k x f W HP.out HE.out ((HH2.out.below b7).below hW) HALL.out HX.out HF.out HK.out (HENT7.out.below hW) h6 (by rw [HNX.out]; exact K4.out)
    rw [HNX.out] at this
    exact this
  go_wp2_with fail
  go_region_held3 (fun X => (X.cell? ⟨w.heap.size, 0, none⟩ = some (.slice (some ⟨g, off, none⟩) M.frames.length cf) ∧ X.cell? ⟨w.heap.size, 1, none⟩ = some (.slice pb M.blocks.length cb) ∧ X.cell? ⟨w.heap.size, 2, none⟩ = some (.slice pi M.inp.length ci) ∧ X.cell? ⟨w.heap.size, 3, none⟩ = some (.slice po M.out.length co) ∧ X.cell? ⟨w.heap.size, 4, none⟩ = some (.int .i64 M.status) ∧ X.cell? ⟨w.heap.size, 5, none⟩ = some (.int .i64 M.trap) ∧ X.cell? ⟨w.heap.size, 6, none⟩ = some (.slice (some ⟨fb, fo, none⟩) p.length qp)) ∧ X.cell? ⟨w.heap.size + 1, 3, none⟩ = some (.slice ps1 x.stk.length cs1)) (first | go_keep | exact ⟨(KC.out _ b8).1, (KC.out _ b8).2.2⟩ | exact ⟨(KC.out _ b9).1, (KC.out _ b9).2.2⟩)
    (first
      | (go_at_call 196; (with_reducible refine (HST.out _ ((Below.refl _ w7).drew)).mono ?_); rintro e' w8 ⟨u, rfl, hu, b8'⟩; have b8 : Below W2.heap.size W2 w8 := b7.trans ((((Below.refl _ w7).drew).trans b8').mono b7.size); obtain ⟨pu, cu, hus, -⟩ := hu.shp; subst hus; have HU := hideP hu; clear hu b8')
      | (go_at_call 194; (with_reducible refine (areOf_any x.stk (stackT p e nx x k) _ _ _ (HS.out.below b8) HU.out.at_).mono ?_); rintro e' w9 ⟨rfl, b9'⟩; have b9 : Below W2.heap.size W2 w9 := b8.trans (b9'.mono b8.size)))
  cases k5 : areOf x.stk (stackT p e nx x k)
  · go_wp2
    go_ret
    exact ⟨by unfold fitErr; rw [if_neg (by simpa using HC1.out), if_neg (by rw [K1.out, K2.out]; decide), if_neg (by rw [K3.out]; decide), if_neg (by rw [K4.out]; decide), if_pos k5]; rfl, bthen0 b2 b9⟩
  · go_wp2
    go_ret
    exact ⟨by unfold fitErr; rw [if_neg (by simpa using HC1.out), if_neg (by rw [K1.out, K2.out]; decide), if_neg (by rw [K3.out]; decide), if_neg (by rw [K4.out]; decide), if_neg (by rw [k5]; decide)]; rfl, bthen0 b2 b9⟩
end Go.Proofs.YtcadpoknolefpaaGreat
/- Machines that came in. -/
namespace Go.Proofs.YtcadpoknolefpaaGreat
open Go.ChangeShapes Go.WideShapes Go.ChangeAt Go.RowKit
set_option linter.unusedVariables false
set_option linter.unusedSimpArgs false
section
variable {H : Type} {enc : TypeId × Value → H} {W : World} {fuel : Nat} {x : DataW H × List MemPlace}
theorem bytes_val : Tryz.prog.bytesOf 50 = 16 := by kernel_rfl
theorem bytes_frm : Tryz.prog.bytesOf 48 = 64 := by kernel_rfl
theorem bytes_ints : Tryz.prog.bytesOf 27 = 24 := by kernel_rfl
theorem cells_vals : Tryz.prog.cellsOf 46 = 1 := by kernel_rfl
theorem cells_frm : Tryz.prog.cellsOf 48 = 4 := by kernel_rfl
theorem cells_frms : Tryz.prog.cellsOf 25 = 1 := by kernel_rfl
theorem cells_blks : Tryz.prog.cellsOf 26 = 1 := by kernel_rfl
theorem cells_mach : Tryz.prog.cellsOf 29 = 6 := by kernel_rfl
def boolOf : Value → Bool
  | .bool b => b
  | _ => false
theorem open_valsN {c : Value} (h : DataW.trod enc Tryz.prog W 0 (fun _ => true) true fuel 46 [c] = some x) (hs : ∀ n ∈ x.1.weights Tryz.prog 46, n ≤ reachBytes) : ∃ l : List Val, ValsAt W c l ∧ NilOk c ∧ l.length ≤ 8796093022208 := by
  rcases Deep.open_slice_pairs Tryz.underlying46 Tryz.underlying50 (by kernel_rfl) rfl rfl (by kernel_rfl) (by kernel_rfl) h with ⟨hcs, hx⟩ | ⟨a, len', cap', m, n, V0, V1, D0, D1, P0, P1, hcs, hb, hl, hm, hmm, hx, hc⟩
  · simp at hcs
    subst hcs
    exact ⟨[], ⟨none, 0, rfl, Nat.zero_le _, fun k o hk => by simp at hk⟩, nilOk_nil, by simp⟩
  · simp at hcs
    subst hcs
    simp only [if_true] at hmm
    subst hmm
    have hlen : len' ≤ 8796093022208 := by
      have hx1 := congrArg Prod.fst hx
      simp only at hx1
      rw [hx1] at hs
      simp only [DataW.weights, Tryz.underlying46] at hs
      have h1 := hs _ (List.mem_cons_self ..)
      rw [bytes_val] at h1
      simp [reachBytes] at h1
      omega
    refine ⟨(List.range len').map fun i => (boolOf (V0 i), intOf (V1 i)), ⟨some a, m, by simp, by simp; omega, fun k o hk => ?_⟩, nilOk_some _ _ _, by simpa using hlen⟩
    have hk1 : k < len' := by have := lt_of_at' hk; simpa using this
    have ho : o = (boolOf (V0 k), intOf (V1 k)) := by simp [hk1] at hk; exact hk.symm
    obtain ⟨c0, c1, t0, t1⟩ := hc k (by omega)
    obtain ⟨x, e0, _⟩ := DataW.trod_bool Tryz.underlying4 t0
    obtain ⟨y, e1, _, wy⟩ := DataW.trod_int Tryz.underlying3 t1
    simp at e0 e1
    obtain ⟨b, off, spot⟩ := a
    have hs0 := (hc 0 (by omega)).1
    have hspot : spot = none := by simpa [Addr.add] using World.cell?_spot hs0
    subst hspot
    rw [add_at] at c0 c1
    rw [e0] at c0
    rw [e1] at c1
    exact ⟨b, off, rfl, block_of_cell c0, by rw [ho, e0]; exact c0, by rw [ho, e1]; exact c1⟩
instance : Inhabited Frm := ⟨⟨0, 0, [], []⟩⟩
theorem open_frmN {c0 c1 c2 c3 : Value} (h : DataW.trod enc Tryz.prog W 0 (fun _ => true) true fuel 48 [c0, c1, c2, c3] = some x) (hs : ∀ n ∈ x.1.weights Tryz.prog 48, n ≤ reachBytes) : ∃ f : Frm, c0 = .int .i64 f.fn ∧ c1 = .int .i64 f.pc ∧ ValsAt W c2 f.loc ∧ NilOk c2 ∧ ValsAt W c3 f.stk ∧ NilOk c3 ∧ f.loc.length ≤ 8796093022208 ∧ f.stk.length ≤ 8796093022208 ∧ -9223372036854775808 ≤ f.pc ∧ f.pc ≤ 9223372036854775807 := by
  obtain ⟨y0, y1, y2, y3, n, hx, _, h0, h1, h2, h3⟩ := Go.Joins.trod_struct4 Tryz.underlying48 h
  simp [cells_int, cells_vals] at h0 h1 h2 h3
  have hx1 := congrArg Prod.fst hx
  simp only at hx1
  rw [hx1] at hs
  simp only [DataW.weights, Tryz.underlying48] at hs
  obtain ⟨P, e0, _⟩ := DataW.trod_int Tryz.underlying3 h0
  obtain ⟨R, e1, _, wR⟩ := DataW.trod_int Tryz.underlying3 h1
  have hR : -9223372036854775808 ≤ R ∧ R ≤ 9223372036854775807 := by simpa [Lit.wf, IntKind.min, IntKind.max, IntKind.bits, IntKind.signed] using wR
  obtain ⟨L, hL, nL, zL⟩ := open_valsN h2 (fun n hn => hs n (by simp [DataW.weightsEach, hn]))
  obtain ⟨C, hC, nC, zC⟩ := open_valsN h3 (fun n hn => hs n (by simp [DataW.weightsEach, hn]))
  simp at e0 e1
  exact ⟨⟨P, R, L, C⟩, e0, e1, hL, nL, hC, nC, zL, zC, hR.1, hR.2⟩
/-- lists that came are no longer than may be. -/
def FrmsLong (F : List Frm) : Prop := F.length ≤ 2199023255488 ∧ ∀ x ∈ F, x.loc.length ≤ 8796093022208 ∧ x.stk.length ≤ 8796093022208 ∧ -9223372036854775808 ≤ x.pc ∧ x.pc ≤ 9223372036854775807
theorem open_frmsC {c : Value} (h : DataW.trod enc Tryz.prog W 0 (fun _ => true) true fuel 25 [c] = some x) (hs : ∀ n ∈ x.1.weights Tryz.prog 25, n ≤ reachBytes) : ∃ F : List Frm, FrmsAt W c F ∧ NilOk c ∧ FrmsLong F := by
  rcases Deep.open_slice Tryz.underlying25 h with ⟨hcs, hx⟩ | ⟨a, len', cap', m, n, D, Pl, hcs, hb, hl, hm, hmm, hx, hc⟩
  · simp at hcs
    subst hcs
    exact ⟨[], ⟨none, 0, rfl, Nat.zero_le _, Nat.zero_le _, fun k o hk => by simp at hk⟩, nilOk_nil, by simp [FrmsLong]⟩
  · simp at hcs
    subst hcs
    simp only [if_true] at hmm
    subst hmm
    rw [hx] at hs
    simp only [DataW.weights, Tryz.underlying25] at hs
    have hlen : len' ≤ 2199023255488 := by
      have h1 := hs _ (List.mem_cons_self ..)
      rw [bytes_frm] at h1
      simp [reachBytes] at h1
      omega
    have each : ∀ i, i < len' → ∃ q : (Value × Value) × Frm, W.cell? (a.add (i * 4)) = some (.int .i64 q.2.fn) ∧ W.cell? (a.add (i * 4 + 1)) = some (.int .i64 q.2.pc) ∧ W.cell? (a.add (i * 4 + 2)) = some q.1.1 ∧ W.cell? (a.add (i * 4 + 3)) = some q.1.2 ∧ ValsAt W q.1.1 q.2.loc ∧ NilOk q.1.1 ∧ ValsAt W q.1.2 q.2.stk ∧ NilOk q.1.2 ∧ q.2.loc.length ≤ 8796093022208 ∧ q.2.stk.length ≤ 8796093022208 ∧ -9223372036854775808 ≤ q.2.pc ∧ q.2.pc ≤ 9223372036854775807 := by
      intro i hi
      obtain ⟨cs', h1, h2⟩ := hc i (by omega)
      rw [cells_frm] at h1
      obtain ⟨_, hlen, hcell⟩ := World.cells?_some h1
      match cs', hlen with
      | [c0, c1, c2, c3], _ =>
        obtain ⟨f, rfl, rfl, g2, g3, g4, g5, g6, g7⟩ := open_frmN (x := (D i, Pl i)) h2 (fun n hn => hs n (List.mem_cons_of_mem _ (List.mem_append_left _ (weightsAll_mem (List.mem_map.2 ⟨i, List.mem_range.2 hi, rfl⟩) n hn))))
        have e0 := hcell 0 (by omega)
        have e1 := hcell 1 (by omega)
        have e2 := hcell 2 (by omega)
        have e3 := hcell 3 (by omega)
        rw [Deep.add_add] at e0 e1 e2 e3
        exact ⟨((c2, c3), f), by simpa using e0, by simpa using e1, by simpa using e2, by simpa using e3, g2, g3, g4, g5, g6, g7⟩
    obtain ⟨q, hq⟩ := Deep.choose_lt each
    refine ⟨(List.range len').map fun i => (q i).2, ⟨some a, m, by simp, by simp; omega, by simpa using hl, fun k f hk => ?_⟩, nilOk_some _ _ _, by simpa using hlen, fun f hf => ?_⟩
    · have hk1 : k < len' := by have := lt_of_at' hk; simpa using this
      have ho : f = (q k).2 := by simp [hk1] at hk; exact hk.symm
      obtain ⟨c0, c1, c2, c3, f1, f2, f3, f4, _⟩ := hq k (by omega)
      obtain ⟨b, off, spot⟩ := a
      have hs0 := (hq 0 (by omega)).1
      have hspot : spot = none := by simpa [Addr.add] using World.cell?_spot hs0
      subst hspot
      rw [add_at] at c0 c1 c2 c3
      rw [ho]
      exact ⟨b, off, _, _, rfl, block_of_cell c0, c0, c1, c2, c3, f1, f2, f3, f4⟩
    · obtain ⟨i, hi, rfl⟩ := List.mem_map.1 hf
      obtain ⟨_, _, _, _, _, _, _, _, g6, g7⟩ := hq i (List.mem_range.1 hi)
      exact ⟨g6, g7⟩
/-- a machine that came in, its lists no longer than may be. -/
structure MachLong (M : Mach) : Prop where
  fr : FrmsLong M.frames
  inp : M.inp.length ≤ 17592186044416
  out : M.out.length ≤ 17592186044416
theorem open_fullInts {c : Value} (h : DataW.trod enc Tryz.prog W 0 (fun _ => true) true fuel 27 [c] = some x) (hs : ∀ n ∈ x.1.weights Tryz.prog 27, n ≤ reachBytes) : ∃ l : List Int, FullInts W c l ∧ l.length ≤ 17592186044416 := by
  obtain ⟨L, hL, nL, zL, pL, qL, capL, eL, lL⟩ := open_intsN h hs
  refine ⟨L, ⟨hL, nL, fun p n c e => ?_⟩, zL⟩
  rw [eL] at e
  cases e
  exact lL
set_option maxRecDepth 100000 in
theorem open_machV {base : Nat} {r : Reach} {v : Value} {d : DataW H} {p : List MemPlace} (hv : Value.okWide Tryz.prog W r base 29 v) (h : DataW.Trod enc Tryz.prog W 0 (fun _ => true) true 29 v d p) (hs : ∀ n ∈ d.weights Tryz.prog 29, n ≤ reachBytes) :
    ∃ (fv bv iv ov : Value) (M : Mach), v = .agg #[fv, bv, iv, ov, .int .i64 M.status, .int .i64 M.trap] ∧ MachAt W fv bv iv ov M ∧ MachLong M := by
  obtain ⟨cs, rfl, hsz⟩ := okWide_struct Tryz.underlying29 hv
  rw [cells_mach] at hsz
  obtain ⟨cs⟩ := cs
  match cs, hsz with
  | [c0, c1, c2, c3, c4, c5], _ =>
    obtain ⟨fuel, hf⟩ := h
    obtain ⟨xs, n, _, hx, hl, hlen, hg⟩ := DataW.trod_struct Tryz.underlying29 hf
    match xs, hlen with
    | [y0, y1, y2, y3, y4, y5], _ =>
      have h0 := hg 0 _ rfl
      have h1 := hg 1 _ rfl
      have h2 := hg 2 _ rfl
      have h3 := hg 3 _ rfl
      have h4 := hg 4 _ rfl
      have h5 := hg 5 _ rfl
      simp [cells_frms, cells_blks, cells_ints, cells_int, Value.cells] at h0 h1 h2 h3 h4 h5
      have hx1 := congrArg Prod.fst hx
      simp only at hx1
      rw [hx1] at hs
      simp only [DataW.weights, Tryz.underlying29] at hs
      obtain ⟨F, hF, nF, zF⟩ := open_frmsC h0 (fun n hn => hs n (by simp [DataW.weightsEach, hn]))
      obtain ⟨B, hB⟩ := open_blksC h1 (fun n hn => hs n (by simp [DataW.weightsEach, hn]))
      obtain ⟨I, hI, zI⟩ := open_fullInts h2 (fun n hn => hs n (by simp [DataW.weightsEach, hn]))
      obtain ⟨O, hO, zO⟩ := open_fullInts h3 (fun n hn => hs n (by simp [DataW.weightsEach, hn]))
      obtain ⟨st, e4, _⟩ := DataW.trod_int Tryz.underlying3 h4
      obtain ⟨tr, e5, _⟩ := DataW.trod_int Tryz.underlying3 h5
      simp at e4 e5
      subst e4 e5
      exact ⟨c0, c1, c2, c3, ⟨F, B, I, O, st, tr⟩, rfl, ⟨hF, hB, hI, hO⟩, zF, zI, zO⟩
end
end Go.Proofs.YtcadpoknolefpaaGreat
/- machine's checker: all frames, one that waits; Check. -/
namespace Go.Proofs.YtcadpoknolefpaaGreat
open Go.RowKit
set_option linter.unusedSimpArgs false
set_option linter.unusedVariables false
/-- where a frame is a number that Go has. -/
def PcOk (M : Mach) : Prop := ∀ x ∈ M.frames, -9223372036854775808 ≤ x.pc ∧ x.pc ≤ 9223372036854775807
theorem framesErr_at {p : List Fn} {e : Nat → Nat → Option (List Int)} {nb k kk : Nat} {F : List Frm} {x : Frm} {f : Fn} (hx : F[k]? = some x) (hk : x.fn = (kk : Int)) (hf : p[kk]? = some f) : framesErr p e nb (F.drop k) = if fitErr p e nb ((F[k + 1]?).map Frm.fn) x kk f ≠ 0 then fitErr p e nb ((F[k + 1]?).map Frm.fn) x kk f else framesErr p e nb (F.drop (k + 1)) := by
  have hd : F.drop k = x :: F.drop (k + 1) := by
    rw [List.drop_eq_getElem_cons (lt_of_at hx)]
    congr 1
    exact Option.some.inj ((List.getElem?_eq_getElem (lt_of_at hx)).symm.trans hx)
  rw [hd]
  have hkt : x.fn.toNat = kk := by omega
  simp only [framesErr]
  rw [hkt, hf]
  simp only
  have hh : (F.drop (k + 1)).head?.map Frm.fn = (F[k + 1]?).map Frm.fn := by rw [List.head?_drop]
  rw [hh]
set_option maxRecDepth 100000 in
set_option maxHeartbeats 4000000 in
theorem ckFrames_any (M : Mach) (p : List Fn) (e : Nat → Nat → Option (List Int)) (pv fv bv iv ov : Value) (w : World) (hp : progErr p = 0) (he : AllFit p e) (h : CkAt w p pv fv bv iv ov M) (hall : M.frames.all (inProg p) = true) (h6 : M.frames.length ≤ 6) (hpc : PcOk M) : Calls Tryz.prog 101 #[chkV pv fv bv iv ov M] w (Says (framesErr p e M.blocks.length M.frames) w) := by
  obtain ⟨⟨pp, qp, hpv⟩, ⟨pf, cf, hfv⟩, ⟨pb, cb, hbv⟩, ⟨pi, ci, hiv⟩, ⟨po, co, hov⟩⟩ := h.shp
  subst hpv hfv hbv hiv hov
  obtain ⟨W1, hW1⟩ : ∃ W1, w.alloc (.cells #[.slice pf M.frames.length cf, .slice pb M.blocks.length cb, .slice pi M.inp.length ci, .slice po M.out.length co, .int .i64 M.status, .int .i64 M.trap, .slice pp p.length qp] 88) = W1 := ⟨_, rfl⟩
  have b1 : Below w.heap.size w W1 := by rw [← hW1]; exact (Below.refl _ w).alloc (Nat.le_refl _) _
  have u1 : W1.heap[w.heap.size]? = some (.cells #[.slice pf M.frames.length cf, .slice pb M.blocks.length cb, .slice pi M.inp.length ci, .slice po M.out.length co, .int .i64 M.status, .int .i64 M.trap, .slice pp p.length qp] 88 (0, 0)) := by rw [← hW1]; exact World.alloc_heap_new w _
  have l1 := heap_lt u1
  have a0 : W1.cell? ⟨w.heap.size, 0, none⟩ = some (.slice pf M.frames.length cf) := cell_at' u1 0
  have KC : Hid (∀ W, Below W1.heap.size W1 W → W.cell? ⟨w.heap.size, 0, none⟩ = some (.slice pf M.frames.length cf) ∧ W.cell? ⟨w.heap.size, 1, none⟩ = some (.slice pb M.blocks.length cb) ∧ W.cell? ⟨w.heap.size, 2, none⟩ = some (.slice pi M.inp.length ci) ∧ W.cell? ⟨w.heap.size, 3, none⟩ = some (.slice po M.out.length co) ∧ W.cell? ⟨w.heap.size, 4, none⟩ = some (.int .i64 M.status) ∧ W.cell? ⟨w.heap.size, 5, none⟩ = some (.int .i64 M.trap) ∧ W.cell? ⟨w.heap.size, 6, none⟩ = some (.slice pp p.length qp)) := fun W hW => by
    have hu := (hW.block _ l1).trans u1
    exact ⟨cell_at' hu 0, cell_at' hu 1, cell_at' hu 2, cell_at' hu 3, cell_at' hu 4, cell_at' hu 5, cell_at' hu 6⟩
  have HH := hideP h
  have HALL := hideP hall
  have HPC := hideP hpc
  have HP := hideP hp
  have HE := hideP he
  clear h hall hpc hp he u1
  go_enter Tryz.func101, Tryz.ntmps101
  go_wp2
  go_loopw [3, 9] (fun _ i wr => ∃ k : Nat, k ≤ M.frames.length ∧ i = .int .i64 k ∧ framesErr p e M.blocks.length M.frames = framesErr p e M.blocks.length (M.frames.drop k) ∧ Below W1.heap.size W1 wr) (fun _ i _ => M.frames.length - (intOf i).toNat)
  case atStart => exact ⟨0, Nat.zero_le _, rfl, by simp, Below.refl _ _⟩
  case round =>
    obtain ⟨k, hk, rfl, hfe, hbw⟩ := hrel
    have HFE := hideP hfe
    clear hfe
    by_cases hlt : k < M.frames.length
    · obtain ⟨x, hx⟩ := at_of_lt hlt
      obtain ⟨kk, f, hkk, hf⟩ := progFn (List.all_eq_true.1 HALL.out x (List.mem_of_getElem? hx))
      have hpcx := HPC.out x (List.mem_of_getElem? hx)
      have hbw1 := b1.trans (hbw.mono b1.size)
      obtain ⟨q0, q1, q2, q3, q4, q5, q6⟩ := KC.out wr hbw
      have HC := hideP (fits_any M p e _ _ _ _ _ k kk x f wr HP.out HE.out (HH.out.below hbw1) HALL.out hx hf hkk h6 hpcx.1 hpcx.2)
      have HAT := hideP (framesErr_at (e := e) (nb := M.blocks.length) hx hkk hf)
      have hlti : (k : Int) < (M.frames.length : Int) := by omega
      generalize fitErr p e M.blocks.length ((M.frames[k + 1]?).map Frm.fn) x kk f = a at HC HAT
      clear hx hkk hf hpcx
      by_cases h0 : a = 0
      · subst h0
        go_wp2_with fail
        refine HC.out.mono ?_
        rintro e' w2 ⟨rfl, b2⟩
        go_wp2
        go_roundw
        case rel => exact ⟨k + 1, by omega, by go_num, by rw [HFE.out, HAT.out, if_neg (by simp)], hbw.trans (b2.mono hbw.size)⟩
        case measure => simp [intOf]; omega
      · have h0' : (a != 0) = true := by simpa using h0
        have HN := hideP h0
        clear h0
        go_wp2_with fail
        refine HC.out.mono ?_
        rintro e' w2 ⟨rfl, b2⟩
        go_wp2
        go_ret
        exact ⟨by rw [HFE.out, HAT.out, if_pos HN.out]; rfl, hbw1.trans (b2.mono hbw1.size)⟩
    · have hlt' : ¬ (k : Int) < (M.frames.length : Int) := by omega
      go_wp2
      go_ret
      refine ⟨?_, b1.trans (hbw.mono b1.size)⟩
      rw [HFE.out, List.drop_of_length_le (by omega)]
      rfl
set_option maxRecDepth 100000 in
set_option maxHeartbeats 4000000 in
theorem ckWaiting_any (M : Mach) (p : List Fn) (pv fv bv iv ov : Value) (w : World) (h : CkAt w p pv fv bv iv ov M) (hpl : p.length ≤ 1000) (h6 : M.frames.length ≤ 1000) (hi10 : M.inp.length ≤ 1000)
    (hw : M.status = 1 → ∃ (x : Frm) (kk pc : Nat) (f : Fn) (o : Int × Int), M.frames.getLast? = some x ∧ x.fn = (kk : Int) ∧ p[kk]? = some f ∧ x.pc = (pc : Int) ∧ f.2.2.2[pc]? = some o ∧ f.2.2.2.length ≤ 1000) : Calls Tryz.prog 102 #[chkV pv fv bv iv ov M] w (Says (waitErr p M) w) := by
  obtain ⟨⟨pp, qp, hpv⟩, -, ⟨pb, cb, hbv⟩, ⟨pi, ci, hiv⟩, ⟨po, co, hov⟩⟩ := h.shp
  obtain ⟨pf, cf, hfv, hfm, -, hfc⟩ := id h.mach.fr
  subst hpv hfv hbv hiv hov
  by_cases h1 : M.status = 1
  rotate_left
  · have h1' : (M.status != 1) = true := by simpa using h1
    have HN := hideP h1
    clear h1 hw hfc h
    go_enter Tryz.func102, Tryz.ntmps102
    go_wp2
    go_ret
    exact says_box (by unfold waitErr; rw [if_pos HN.out])
  obtain ⟨x, kk, pc, f, o, hx, hkk, hf, hxp, ho, hcl⟩ := hw h1
  obtain ⟨c, A⟩ := o
  have hlo : lastOp p M = some (c, A) := by
    unfold lastOp
    rw [hx]
    simp only [Option.bind_some, show x.fn.toNat = kk by omega, hf, show x.pc.toNat = pc by omega, ho]
  have h1' : (M.status != 1) = false := by simpa using h1
  have hwe : waitErr p M = if c ≠ 21 ∨ 0 < M.inp.length then 4 else 0 := by
    unfold waitErr
    rw [if_neg (by simpa using h1), hlo]
  obtain ⟨n, hn⟩ : ∃ n, M.frames.length = n + 1 := by
    cases hm : M.frames with
    | nil => rw [hm] at hx; simp at hx
    | cons a r => exact ⟨r.length, by simp⟩
  have hxn : M.frames[n]? = some x := by rw [← hx, List.getLast?_eq_getElem?, hn]; rfl
  obtain ⟨g, off, lv1, sv1, rfl, hg, x0, x1, x2, x3, hL, -, hS, -⟩ := hfc n x hxn
  obtain ⟨pl1, cl1, hlv1, hlm1, -⟩ := id hL
  obtain ⟨ps1, cs1, hsv1, hsm1, -⟩ := id hS
  subst hlv1 hsv1
  obtain ⟨pp', qp', hpe, -, hpc⟩ := id h.fns
  cases hpe
  obtain ⟨fb, fo, c0, c1, c2, c3, hpp, hplt, -, -, -, z3, hfn⟩ := hpc kk f hf
  subst hpp
  obtain ⟨-, -, -, hops⟩ := hfn
  obtain ⟨p3, q3, he3, -, hoc⟩ := id hops
  subst he3
  obtain ⟨ob, oo, hob, holt, o0, o1⟩ := hoc pc _ ho
  subst hob
  simp only at o0
  have hkl := lt_of_at hf
  have hpl' := lt_of_at ho
  have hkli : (kk : Int) < (p.length : Int) := by omega
  have hpcli : (pc : Int) < (f.2.2.2.length : Int) := by omega
  rw [hkk] at x0
  rw [hxp] at x1
  have x0a := fun o => cell_old x0 o
  have x1a := fun o => cell_old x1 o
  have x2a := fun o => cell_old x2 o
  have x3a := fun o => cell_old x3 o
  have z3b := fun o o' => cell_old (cell_old z3 o) o'
  have o0b := fun o o' => cell_old (cell_old o0 o) o'
  rw [hn]
  have hnlt : (n : Int) < ((n + 1 : Nat) : Int) := by omega
  have hn6 : n ≤ 1000 := by omega
  have hb2 : ∀ o o', Below w.heap.size w ((w.alloc o).alloc o') := fun o o' => ((Below.refl _ w).alloc (Nat.le_refl _) _).alloc (by simp) _
  have HWE := hideP hwe
  have HST := hideP h1
  clear hw h hx hkk hf hxp ho hlo hwe hn hxn hfc hpc hoc hops hL hS x0 x1 x2 x3 h1
  by_cases hc : c = 21
  · have hc' : (c != 21) = false := by simpa using hc
    have HC := hideP hc
    clear hc
    by_cases hi : 0 < M.inp.length
    · have hi' : (0 : Int) < (M.inp.length : Int) := by omega
      have hid : decide ((M.inp.length : Int) > 0) = true := by simpa using hi'
      go_enter Tryz.func102, Tryz.ntmps102
      go_wp2
      go_quiet (fail)
      go_wp2
      go_ret
      exact ⟨by rw [HWE.out, if_pos (.inr hi)]; rfl, below_drewN (hb2 _ _) _⟩
    · have hi' : ¬ (0 : Int) < (M.inp.length : Int) := by omega
      have hid : decide ((M.inp.length : Int) > 0) = false := by simpa using hi'
      go_enter Tryz.func102, Tryz.ntmps102
      go_wp2
      go_quiet (fail)
      go_wp2
      go_ret
      exact ⟨by rw [HWE.out, if_neg (by have := HC.out; omega)]; rfl, below_drewN (hb2 _ _) _⟩
  · have hc' : (c != 21) = true := by simpa using hc
    have HC := hideP hc
    clear hc
    go_enter Tryz.func102, Tryz.ntmps102
    go_wp2
    go_quiet (fail)
    go_wp2
    go_ret
    exact ⟨by rw [HWE.out, if_pos (.inl HC.out)]; rfl, below_drewN (hb2 _ _) _⟩
end Go.Proofs.YtcadpoknolefpaaGreat
/- machine.Check. -/
namespace Go.Proofs.YtcadpoknolefpaaGreat
open Go.RowKit
set_option linter.unusedSimpArgs false
set_option linter.unusedVariables false
theorem funcsErr_all {p : List Fn} {M : Mach} (h : funcsErr p M = 0) : M.frames.all (inProg p) = true := by
  unfold funcsErr at h
  split at h
  · cases h
  · rename_i a; simpa using a
theorem depthErr_zero {M : Mach} (h : depthErr M = 0) : M.frames.length ≤ 6 ∧ (M.frames.length = 0 → M.status = 2) := by
  unfold depthErr at h
  split at h
  · cases h
  split at h
  · cases h
  · omega
theorem boxErr_zero {M : Mach} (h : boxErr M = 0) : M.inp.length ≤ 10 := by
  unfold boxErr at h
  split at h
  · cases h
  · omega
set_option maxRecDepth 100000 in
theorem ckAll_any (M : Mach) (p : List Fn) (e : Nat → Nat → Option (List Int)) (pv fv bv iv ov : Value) (w : World) (hp : progErr p = 0) (he : AllFit p e) (h : CkAt w p pv fv bv iv ov M) (hpc : PcOk M) : Calls Tryz.prog 61 #[chkV pv fv bv iv ov M] w (Says (machErr p e M) w) := by
  obtain ⟨⟨pp, qp, hpv⟩, ⟨pf, cf, hfv⟩, ⟨pb, cb, hbv⟩, ⟨pi, ci, hiv⟩, ⟨po, co, hov⟩⟩ := h.shp
  have s1 : ∃ q n c, pv = .slice q n c := ⟨_, _, _, hpv⟩
  have s2 : ∃ q n c, fv = .slice q n c := ⟨_, _, _, hfv⟩
  have s3 : ∃ q n c, bv = .slice q n c := ⟨_, _, _, hbv⟩
  have s4 : ∃ q n c, iv = .slice q n c := ⟨_, _, _, hiv⟩
  have s5 : ∃ q n c, ov = .slice q n c := ⟨_, _, _, hov⟩
  refine check_gen M pv fv bv iv ov [stErr M, blkErr M.blocks, boxErr M, depthErr M, funcsErr p M, framesErr p e M.blocks.length M.frames, waitErr p M] w s1 s2 s3 s4 s5 rfl (fun k F a hF ha hz W hW => ?_)
  have hW' := h.below hW
  rcases k with _ | _ | _ | _ | _ | _ | _ | k
  · cases hF
    cases ha
    exact ckStatus_any M pv fv bv iv ov W s1 s2 s3 s4 s5
  · cases hF
    cases ha
    exact ckBlocks_any M pv fv bv iv ov W s1 s2 hW'.mach.bl s4 s5
  · cases hF
    cases ha
    exact ckBoxes_any M pv fv bv iv ov W s1 s2 s3 hW'.mach.inp.at_ hW'.mach.out.at_
  · cases hF
    cases ha
    rw [hfv]
    exact ckDepth_any M pv bv iv ov pf cf W s1 s3 s4 s5
  · cases hF
    cases ha
    rw [hpv]
    exact ckFuncs_any M p fv bv iv ov pp qp W hW'.mach.fr s3 s4 s5
  · cases hF
    cases ha
    have h4 : funcsErr p M = 0 := hz _ (by simp)
    have h3 : depthErr M = 0 := hz _ (by simp)
    exact ckFrames_any M p e pv fv bv iv ov W hp he hW' (funcsErr_all h4) (depthErr_zero h3).1 hpc
  · cases hF
    cases ha
    have h5 : framesErr p e M.blocks.length M.frames = 0 := hz _ (by simp)
    have h4 : funcsErr p M = 0 := hz _ (by simp)
    have h3 : depthErr M = 0 := hz _ (by simp)
    have h2 : boxErr M = 0 := hz _ (by simp)
    obtain ⟨d6, d0⟩ := depthErr_zero h3
    have hb := boxErr_zero h2
    have hps := prog_short hp
    refine ckWaiting_any M p pv fv bv iv ov W hW' (by omega) (by omega) (by omega) (fun hst => ?_)
    have hne : M.frames ≠ [] := fun h0 => by have := d0 (by rw [h0]; rfl); omega
    obtain ⟨x, hx⟩ : ∃ x, M.frames.getLast? = some x := ⟨_, List.getLast?_eq_some_getLast hne⟩
    have hi : M.frames[M.frames.length - 1]? = some x := by rw [← hx, List.getLast?_eq_getElem?]
    obtain ⟨k, f, hr⟩ := (frames_right he (funcsErr_all h4)).1 h5 _ x hi
    have hpos := List.length_pos_iff.2 hne
    rw [show M.frames[M.frames.length - 1 + 1]? = none from List.getElem?_eq_none (by omega)] at hr
    obtain ⟨pc, s, o, out, g1, g2, g3, g4, _⟩ := inner_go he hr
    exact ⟨x, k, pc, f, o, hx, hr.fn, hr.at_, g1, g4, (entsOk_at hp he hr.at_).2⟩
  · simp [ckFns] at hF
set_option maxRecDepth 100000 in
set_option maxHeartbeats 4000000 in
theorem mCheck_any (M : Mach) (p : List Fn) (pv fv bv iv ov : Value) (w : World) (h : CkAt w p pv fv bv iv ov M) (hpc : PcOk M) : Calls Tryz.prog 21 #[.agg #[pv], .agg #[fv, bv, iv, ov, .int .i64 M.status, .int .i64 M.trap]] w (Says (checkE p M) w) := by
  obtain ⟨⟨pp, qp, hpv⟩, ⟨pf, cf, hfv⟩, ⟨pb, cb, hbv⟩, ⟨pi, ci, hiv⟩, ⟨po, co, hov⟩⟩ := h.shp
  subst hpv hfv hbv hiv hov
  obtain ⟨W1, hW1⟩ : ∃ W1, (w.alloc (.cells #[.slice pp p.length qp] 24)).alloc (.cells #[.slice pf M.frames.length cf, .slice pb M.blocks.length cb, .slice pi M.inp.length ci, .slice po M.out.length co, .int .i64 M.status, .int .i64 M.trap] 29) = W1 := ⟨_, rfl⟩
  have b1 : Below w.heap.size w W1 := by rw [← hW1]; exact ((Below.refl _ w).alloc (Nat.le_refl _) _).alloc (by simp) _
  have u1 : W1.heap[w.heap.size]? = some (.cells #[.slice pp p.length qp] 24 (0, 0)) := by rw [← hW1]; exact heap_old (World.alloc_heap_new w _) _
  have u2 : W1.heap[w.heap.size + 1]? = some (.cells #[.slice pf M.frames.length cf, .slice pb M.blocks.length cb, .slice pi M.inp.length ci, .slice po M.out.length co, .int .i64 M.status, .int .i64 M.trap] 29 (0, 0)) := by rw [← hW1]; exact new_two w _ _
  have l1 := heap_lt u1
  have l2 := heap_lt u2
  have a0 : W1.cell? ⟨w.heap.size, 0, none⟩ = some (.slice pp p.length qp) := cell_at' u1 0
  have H1 := h.below b1
  have HV := hideP (vProgram_any p _ W1 H1.fns H1.cap)
  have HH := hideP H1
  have HU1 := hideP u1
  have HU2 := hideP u2
  have HPC := hideP hpc
  clear h H1 u1 u2 hpc
  go_enter Tryz.func21, Tryz.ntmps21
  go_wp2_with fail
  refine HV.out.mono ?_
  rintro e' w2 ⟨er, rfl, hpi, b2⟩
  have hfe := progIs_fitsE hpi
  have v1 := (b2.block _ l1).trans HU1.out
  have v2 := (b2.block _ l2).trans HU2.out
  have c0 : w2.cell? ⟨w.heap.size, 0, none⟩ = some (.slice pp p.length qp) := cell_at' v1 0
  have d0 : w2.cell? ⟨w.heap.size + 1, 0, none⟩ = some (.slice pf M.frames.length cf) := cell_at' v2 0
  have d1 : w2.cell? ⟨w.heap.size + 1, 1, none⟩ = some (.slice pb M.blocks.length cb) := cell_at' v2 1
  have d2 : w2.cell? ⟨w.heap.size + 1, 2, none⟩ = some (.slice pi M.inp.length ci) := cell_at' v2 2
  have d3 : w2.cell? ⟨w.heap.size + 1, 3, none⟩ = some (.slice po M.out.length co) := cell_at' v2 3
  have d4 : w2.cell? ⟨w.heap.size + 1, 4, none⟩ = some (.int .i64 M.status) := cell_at' v2 4
  have d5 : w2.cell? ⟨w.heap.size + 1, 5, none⟩ = some (.int .i64 M.trap) := cell_at' v2 5
  have HFE := hideP hfe
  clear v1 v2 hfe hpi
  by_cases h0 : er = 0
  · subst h0
    obtain ⟨hp, he⟩ := fitsE_zero.1 HFE.out.symm
    have HC := hideP (ckAll_any M p (entP p) _ _ _ _ _ w2 hp he (HH.out.below b2) HPC.out)
    clear hp he
    go_wp2_with fail
    refine HC.out.mono ?_
    rintro e' w3 ⟨rfl, b3⟩
    go_wp2
    go_ret
    exact ⟨by unfold checkE; rw [if_neg (by rw [← HFE.out]; simp)]; rfl, bthen0 (bthen0 b1 b2) b3⟩
  · have h0' : (er != 0) = true := by simpa using h0
    have HN := hideP h0
    clear h0
    go_wp2
    go_ret
    exact ⟨by unfold checkE; rw [if_pos (by rw [← HFE.out]; exact HN.out), HFE.out]; rfl, bthen0 b1 b2⟩
end Go.Proofs.YtcadpoknolefpaaGreat
