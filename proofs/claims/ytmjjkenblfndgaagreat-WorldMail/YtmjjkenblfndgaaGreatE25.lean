/- My texts Ta Nm Tb Tc Nq: what of them is needed, joined. -/
import Derived.Deep.RegionWith
import Derived.Deep.RegionHeld3
import Derived.Test.YtmjjkenblfndgaaGreatE9
import Derived.Test.YtmjjkenblfndgaaGreatE14
import Derived.Test.YtmjjkenblfndgaaGreatE18
import Derived.Test.YtmjjkenblfndgaaGreatE24
set_option maxRecDepth 100000
set_option maxHeartbeats 8000000
/- meter.Cost, and the cost of the op that is next. -/
namespace Go.Proofs.YtmjjkenblfndgaaGreat
open Go.RowKit
set_option linter.unusedSimpArgs false
set_option linter.unusedVariables false
theorem mCost_any (c a : Int) (w : World) : Calls Tryz.prog 52 #[.agg #[.int .i64 c, .int .i64 a]] w fun e w' => e = .returned (.tuple #[.int .i64 (if chk c a = 0 then costM c else 0), .int .i64 (chk c a)]) ∧ Below w.heap.size w w' := by
  obtain ⟨W1, hW1⟩ : ∃ W1, w.alloc (.cells #[.int .i64 c, .int .i64 a] 86) = W1 := ⟨_, rfl⟩
  have b1 : Below w.heap.size w W1 := by rw [← hW1]; exact (Below.refl _ w).alloc (Nat.le_refl _) _
  have u1 : W1.heap[w.heap.size]? = some (.cells #[.int .i64 c, .int .i64 a] 86 (0, 0)) := by rw [← hW1]; exact World.alloc_heap_new w _
  have l1 := xacZ u1
  have a0 : W1.cell? ⟨w.heap.size, 0, none⟩ = some (.int .i64 c) := xaaZ u1 0
  have a1 : W1.cell? ⟨w.heap.size, 1, none⟩ = some (.int .i64 a) := xaaZ u1 1
  by_cases h0 : chk c a = 0
  · have HC : Hid (Calls Tryz.prog 85 #[.agg #[.int .i64 c, .int .i64 a]] W1 fun e w' => e = .returned (.int .i64 0) ∧ Below W1.heap.size W1 w') := by have := xgjZ c a W1; rw [h0] at this; exact this
    rw [if_pos h0, h0]
    clear h0 u1
    by_cases h14 : c = 14
    · have e1 : (c == 14) = true := by simpa using h14
      have e2 : costM c = 3 := by simp [costM, h14]
      rw [e2]
      clear e2 h14
      go_enter Tryz.func52, Tryz.ntmps52
      go_wp2_with fail
      refine HC.out.mono ?_
      rintro e w2 ⟨rfl, b2⟩
      have d0 := (b2.cell (p := ⟨w.heap.size, 0, none⟩) l1).trans a0
      go_wp2
      go_ret2
      exact ⟨rfl, xaeZ b1 b2⟩
    · have e1 : (c == 14) = false := by simpa using h14
      by_cases h12 : c = 12
      · have e3 : (c == 12) = true := by simpa using h12
        have e2 : costM c = 2 := by simp [costM, h14, h12]
        rw [e2]
        clear e2 h14 h12
        go_enter Tryz.func52, Tryz.ntmps52
        go_wp2_with fail
        refine HC.out.mono ?_
        rintro e w2 ⟨rfl, b2⟩
        have d0 := (b2.cell (p := ⟨w.heap.size, 0, none⟩) l1).trans a0
        go_wp2
        go_ret2
        exact ⟨rfl, xaeZ b1 b2⟩
      · have e3 : (c == 12) = false := by simpa using h12
        have e2 : costM c = 1 := by simp [costM, h14, h12]
        rw [e2]
        clear e2 h14 h12
        go_enter Tryz.func52, Tryz.ntmps52
        go_wp2_with fail
        refine HC.out.mono ?_
        rintro e w2 ⟨rfl, b2⟩
        have d0 := (b2.cell (p := ⟨w.heap.size, 0, none⟩) l1).trans a0
        go_wp2
        go_ret2
        exact ⟨rfl, xaeZ b1 b2⟩
  · rw [if_neg h0]
    have e1 : (chk c a != 0) = true := by simpa using h0
    have HC := hideP (xgjZ c a W1)
    clear h0 u1
    generalize chk c a = er at *
    go_enter Tryz.func52, Tryz.ntmps52
    go_wp2_with fail
    refine HC.out.mono ?_
    rintro e w2 ⟨rfl, b2⟩
    go_wp2
    go_ret2
    exact ⟨rfl, xaeZ b1 b2⟩
abbrev runCells (fv bv iv ov pv : Value) (M : Mach) (n : Int) : Array Value := #[fv, bv, iv, ov, .int .i64 M.status, .int .i64 M.trap, pv, .int .i64 n]
theorem rCost_any (M : Mach) (p : List Fn) (pv fv bv iv ov : Value) (n : Int) (b : Nat) (w : World) (h : CkAt w p pv fv bv iv ov M) (hc : w.heap[b]? = some (.cells (runCells fv bv iv ov pv M n) 92 (0, 0))) (h6 : M.frames.length ≤ 1000) (x : Frm) (kk pc : Nat) (f : Fn) (o : Int × Int) (hx : M.frames.getLast? = some x) (hkk : x.fn = (kk : Int)) (hf : p[kk]? = some f) (hxp : x.pc = (pc : Int)) (ho : f.2.2.2[pc]? = some o) (hcl : f.2.2.2.length ≤ 1000) (hpl : p.length ≤ 1000) (hck : chk o.1 o.2 = 0) : Calls Tryz.prog 123 #[.pointer (some ⟨b, 0, none⟩)] w fun e w' => e = .returned (.int .i64 (costM o.1)) ∧ Below w.heap.size w w' := by
  obtain ⟨⟨pp, qp, hpv⟩, -, ⟨pb, cb, hbv⟩, ⟨pi, ci, hiv⟩, ⟨po, co, hov⟩⟩ := h.shp
  subst hpv hbv hiv hov
  obtain ⟨pf, cf, hfv, hfm, -, hfc⟩ := id h.mach.fr
  subst hfv
  obtain ⟨c, A⟩ := o
  obtain ⟨m, hm⟩ : ∃ m, M.frames.length = m + 1 := by
    cases hm : M.frames with
    | nil => rw [hm] at hx; simp at hx
    | cons a r => exact ⟨r.length, by simp⟩
  have hxn : M.frames[m]? = some x := by rw [← hx, List.getLast?_eq_getElem?, hm]; rfl
  obtain ⟨g, off, lv1, sv1, rfl, hg, x0, x1, x2, x3, hL, -, hS, -⟩ := hfc m x hxn
  obtain ⟨pl1, cl1, hlv1, hlm1, -⟩ := id hL
  obtain ⟨ps1, cs1, hsv1, hsm1, -⟩ := id hS
  subst hlv1 hsv1
  obtain ⟨pp', qp', hpe, -, hpc⟩ := id h.fns
  cases hpe
  obtain ⟨fb, fo, c0, c1, c2, c3, hpp, hplt, -, -, -, z3, hfn⟩ := hpc kk f hf
  subst hpp
  obtain ⟨-, -, -, hops⟩ := hfn
  obtain ⟨p3, q3, he3, -, hoc⟩ := id hops
  subst he3
  obtain ⟨ob, oo, hob, holt, o0, o1⟩ := hoc pc _ ho
  subst hob
  simp only at o0 o1 hck
  have hkl := xadZ hf
  have hpl' := xadZ ho
  have hkli : (kk : Int) < (p.length : Int) := by omega
  have hpcli : (pc : Int) < (f.2.2.2.length : Int) := by omega
  rw [hkk] at x0
  rw [hxp] at x1
  have d0 : w.cell? ⟨b, 0, none⟩ = some (.slice (some ⟨g, off, none⟩) M.frames.length cf) := xaaZ hc 0
  have d6 : w.cell? ⟨b, 6, none⟩ = some (.slice (some ⟨fb, fo, none⟩) p.length qp) := xaaZ hc 6
  generalize M.frames.length = L at *
  have hm1 : (m : Int) < (L : Int) := by omega
  have hm0 : (0 : Int) ≤ (m : Int) := by omega
  have hn6 : m ≤ 1000 := by omega
  have hm2 : IntKind.i64.wrap ((L : Int) - 1) = (m : Int) := by rw [IntKind.wrap_i64]; omega
  have hlb := xacZ hc
  have y0 := fun o => xabZ d0 o
  have y6 := fun o => xabZ d6 o
  have w0 := fun o => xabZ x0 o
  have w1 := fun o => xabZ x1 o
  have w2 := fun o => xabZ x2 o
  have w3 := fun o => xabZ x3 o
  have z3a := fun o => xabZ z3 o
  have o0a := fun o => xabZ o0 o
  have o1a := fun o => xabZ o1 o
  have HCO : Hid (∀ W, Calls Tryz.prog 52 #[.agg #[.int .i64 c, .int .i64 A]] W fun e w' => e = .returned (.tuple #[.int .i64 (costM c), .int .i64 0]) ∧ Below W.heap.size W w') := fun W => by have := mCost_any c A W; rw [hck, if_pos rfl] at this; exact this
  clear h hc h6 hm hx hkk hf hxp ho hxn hfc hpc hoc hops hL hS hck
  go_enter Tryz.func123, Tryz.ntmps123
  go_wp2_with fail
  go_region_held3 (fun X => X.cell? ⟨b, 0, none⟩ = some (.slice (some ⟨g, off, none⟩) L cf) ∧ X.cell? ⟨g, off + m * 4, none⟩ = some (.int .i64 kk) ∧ X.cell? ⟨g, off + m * 4 + 1, none⟩ = some (.int .i64 pc) ∧ X.cell? ⟨g, off + m * 4 + 2, none⟩ = some (.slice pl1 x.loc.length cl1) ∧ X.cell? ⟨g, off + m * 4 + 3, none⟩ = some (.slice ps1 x.stk.length cs1)) (go_keep) (fail)
  obtain ⟨X, hX⟩ : ∃ X, w.alloc (.cells #[.int .i64 kk, .int .i64 pc, .slice pl1 x.loc.length cl1, .slice ps1 x.stk.length cs1] 89) = X := ⟨_, rfl⟩
  have bX : Below w.heap.size w X := by rw [← hX]; exact (Below.refl _ w).alloc (Nat.le_refl _) _
  have uX : X.heap[w.heap.size]? = some (.cells #[.int .i64 kk, .int .i64 pc, .slice pl1 x.loc.length cl1, .slice ps1 x.stk.length cs1] 89 (0, 0)) := by rw [← hX]; exact World.alloc_heap_new w _
  have lX := xacZ uX
  have q0 := xaaZ uX 0
  have q1 := xaaZ uX 1
  simp at q0 q1
  have s6 : X.cell? ⟨b, 6, none⟩ = some (.slice (some ⟨fb, fo, none⟩) p.length qp) := by rw [← hX]; exact y6 _
  have s1 : X.cell? ⟨fb, fo + kk * 4 + 3, none⟩ = some (.slice (some ⟨ob, oo, none⟩) f.2.2.2.length q3) := by rw [← hX]; exact z3a _
  have s2 : X.cell? ⟨ob, oo + pc * 2, none⟩ = some (.int .i64 c) := by rw [← hX]; exact o0a _
  have s3 : X.cell? ⟨ob, oo + pc * 2 + 1, none⟩ = some (.int .i64 A) := by rw [← hX]; exact o1a _
  have HBX := hideP bX
  rw [hX]
  clear d0 d6 x0 x1 x2 x3 z3 o0 o1 y0 y6 w0 w1 w2 w3 z3a o0a o1a hX uX bX
  go_wp2_with fail
  go_region_held3 (fun W => W.cell? ⟨b, 6, none⟩ = some (.slice (some ⟨fb, fo, none⟩) p.length qp) ∧ W.cell? ⟨fb, fo + kk * 4 + 3, none⟩ = some (.slice (some ⟨ob, oo, none⟩) f.2.2.2.length q3) ∧ W.cell? ⟨ob, oo + pc * 2, none⟩ = some (.int .i64 c) ∧ W.cell? ⟨ob, oo + pc * 2 + 1, none⟩ = some (.int .i64 A) ∧ W.cell? ⟨w.heap.size, 0, none⟩ = some (.int .i64 kk) ∧ W.cell? ⟨w.heap.size, 1, none⟩ = some (.int .i64 pc)) (go_keep)
    (first
      | (go_at_call 52; (with_reducible refine (HCO.out _).mono ?_); rintro e w5 ⟨rfl, b5'⟩; have b5 : Below X.heap.size X w5 := xaeZ ((Below.refl _ X).drew.drew) b5'; clear b5'; have t6 := (b5.cell (p := ⟨b, 6, none⟩) (Nat.lt_of_lt_of_le hlb HBX.out.size)).trans s6; have t1 := (b5.cell (p := ⟨fb, fo + kk * 4 + 3, none⟩) (Nat.lt_of_lt_of_le hplt HBX.out.size)).trans s1; have t2 := (b5.cell (p := ⟨ob, oo + pc * 2, none⟩) (Nat.lt_of_lt_of_le holt HBX.out.size)).trans s2; have t3 := (b5.cell (p := ⟨ob, oo + pc * 2 + 1, none⟩) (Nat.lt_of_lt_of_le holt HBX.out.size)).trans s3; have u0 := (b5.cell (p := ⟨w.heap.size, 0, none⟩) lX).trans q0; have u1 := (b5.cell (p := ⟨w.heap.size, 1, none⟩) lX).trans q1))
  go_wp2
  go_ret
  exact ⟨rfl, xaeZ HBX.out b5⟩
end Go.Proofs.YtmjjkenblfndgaaGreat


/- machine.Start. -/
namespace Go.Proofs.YtmjjkenblfndgaaGreat
open Go.RowKit
set_option linter.unusedSimpArgs false
set_option linter.unusedVariables false
theorem mres_start {W : World} {B gl bf L : Nat} {l : List Val} (hl : W.ownsRow B 113 2 (.slice (some ⟨gl, 0, none⟩) L L) L (valCells l)) (hL : L = l.length) (hf : W.heap[bf]? = some (.cells #[.int .i64 0, .int .i64 0, .slice (some ⟨gl, 0, none⟩) L L, .slice none 0 0] 89 (0, 0))) (hB : B ≤ bf) : MRes W B (.slice (some ⟨bf, 0, none⟩) 1 1) (.slice none 0 0) (.slice none 0 0) (.slice none 0 0) { zeroM with frames := [{ fn := 0, pc := 0, loc := l, stk := [] }] } := by
  subst hL
  refine MOwn.res (q := [⟨0, 0, .slice (some ⟨gl, 0, none⟩) l.length l.length, .slice none 0 0⟩]) (qb := []) ⟨?_, ?_, World.ownsRow_nil _ _ _ _, ?_⟩
  · exact ⟨rfl, .inr ⟨bf, 1, _, rfl, hB, hf, Nat.le_refl _, (by unfold maxLen; decide), rfl, rfl⟩⟩
  · refine (FRows.snoc (xiaZ W B) (c := ⟨0, 0, .slice (some ⟨gl, 0, none⟩) l.length l.length, .slice none 0 0⟩) (x := { fn := 0, pc := 0, loc := l, stk := [] }) rfl rfl hl (by simpa [valCells] using World.ownsRow_nil W B 113 2) (Nat.le_refl _) (fun k y g h => by simp [fRows] at h) fun g _ h => by cases h)
  · refine ⟨rfl, fun k x b h1 h2 => ?_, fun i j x y g h1 h2 g1 g2 => ?_, fun b hb => ?_⟩
    · match k with
      | 0 => simp [zeroM] at h1 h2; subst h1; subst h2; exact World.ownsRow_nil _ _ _ _
      | 1 => simp [zeroM] at h1 h2; subst h1; subst h2; exact World.ownsRow_nil _ _ _ _
      | k + 2 => simp at h1
    · match i with
      | 0 => simp at h1; subst h1; cases g1
      | 1 => simp at h1; subst h1; cases g1
      | i + 2 => simp at h1
    · simp [zeroM] at hb
      subst hb
      simp
theorem mStart_any (p : List Fn) (pv : Value) (w : World) (hp : FnsAt w pv p) (hcp : CapAt w pv) : Calls Tryz.prog 50 #[.agg #[pv]] w (MRet (if fitsE p = 0 then xfrZ p else zeroM) (fitsE p) w) := by
  obtain ⟨pp, qp, hpv, -, -⟩ := id hp
  subst hpv
  obtain ⟨W1, hW1⟩ : ∃ W1, (w.alloc (.cells #[.slice pp p.length qp] 24)).alloc (.cells #[.slice none 0 0, .slice none 0 0, .slice none 0 0, .slice none 0 0, .int .i64 0, .int .i64 0] 48) = W1 := ⟨_, rfl⟩
  have b1 : Below w.heap.size w W1 := by rw [← hW1]; exact ((Below.refl _ w).alloc (Nat.le_refl _) _).alloc (by simp) _
  have u1 : W1.heap[w.heap.size]? = some (.cells #[.slice pp p.length qp] 24 (0, 0)) := by rw [← hW1]; exact xalZ (World.alloc_heap_new w _) _
  have u3 : W1.heap[w.heap.size + 1]? = some (.cells #[.slice none 0 0, .slice none 0 0, .slice none 0 0, .slice none 0 0, .int .i64 0, .int .i64 0] 48 (0, 0)) := by rw [← hW1]; exact xa1Z _ _ _
  have l1 := xacZ u1
  have l3 := xacZ u3
  have a0 : W1.cell? ⟨w.heap.size, 0, none⟩ = some (.slice pp p.length qp) := xaaZ u1 0
  have KC : Hid (∀ W, Below W1.heap.size W1 W → W.cell? ⟨w.heap.size, 0, none⟩ = some (.slice pp p.length qp)) := fun W hW => xaaZ ((hW.block _ l1).trans u1) 0
  have KR : Hid (∀ W, Below W1.heap.size W1 W → W.heap[w.heap.size + 1]? = some (.cells #[.slice none 0 0, .slice none 0 0, .slice none 0 0, .slice none 0 0, .int .i64 0, .int .i64 0] 48 (0, 0))) := fun W hW => (hW.block _ l3).trans u3
  have H1 := hp.below b1
  have HP : Hid (Calls Tryz.prog 49 #[.agg #[.slice pp p.length qp]] W1 fun e w' => e = .returned (.int .i64 (fitsE p)) ∧ Below W1.heap.size W1 w') := (xe4Z p _ W1 H1 (hcp.below hp b1)).mono fun e w' ⟨er, h1, h2, h3⟩ => ⟨by rw [h1, xe2Z h2], h3⟩
  have HH := hideP H1
  clear hp hcp H1 u1 u3
  by_cases hc : fitsE p = 0
  rotate_left
  · rw [if_neg hc]
    have hc' : (fitsE p != 0) = true := by simpa using hc
    generalize fitsE p = er at *
    clear hc
    go_enter Tryz.func50, Tryz.ntmps50
    go_wp2_with fail
    refine HP.out.mono ?_
    rintro e' w2 ⟨rfl, b2⟩
    have e0 := KC.out w2 b2
    have hr2 := KR.out w2 b2
    have r0 := xaaZ hr2 0
    have r1 := xaaZ hr2 1
    have r2 := xaaZ hr2 2
    have r3 := xaaZ hr2 3
    have r4 := xaaZ hr2 4
    have r5 := xaaZ hr2 5
    simp at r0 r1 r2 r3 r4 r5
    have zz := Lib.frozen_of_heap hr2
    have z0 := zz 0
    have z1 := zz 1
    have z2 := zz 2
    have z3 := zz 3
    have z4 := zz 4
    have z5 := zz 5
    have HR2 := hideP hr2
    clear zz hr2
    go_wp2
    refine bodyPost_ret (v := .tuple #[.agg #[.slice none 0 0, .slice none 0 0, .slice none 0 0, .slice none 0 0, .int .i64 0, .int .i64 0], .int .i64 er]) (by simp [results, Tryz.results50, go_sem, r0, r1, r2, r3, r4, r5]) rfl ?_
    have hg6 := xb2Z w2 (w.heap.size + 1) (.slice none 0 0) (.slice none 0 0) (.slice none 0 0) (.slice none 0 0) (.int .i64 0) (.int .i64 0)
    exact ⟨_, _, _, _, rfl, xgsZ _ _, (xaeZ b1 b2).grown hg6 (xaeZ b1 b2).size (fun k hk => by cases hk; omega)⟩
  rw [if_pos hc]
  rw [hc] at HP ⊢
  obtain ⟨hpe, he⟩ := xdkZ.1 hc
  obtain ⟨f, hf, hst, hR⟩ := xinZ hpe he
  have hL : f.2.1.length ≤ 20 := (xc8Z hpe he hR).1.each _ (by rw [hst]; exact List.mem_cons_self) |>.1 |> fun h => by simpa [xa7Z] using h
  have HB : Hid (∀ W, Below W1.heap.size W1 W → Calls Tryz.prog 83 #[.agg #[.slice pp p.length qp], .int .i64 0] W fun e w' => ∃ gl, e = .returned (.agg #[.int .i64 0, .int .i64 0, .slice (some ⟨gl, 0, none⟩) f.2.1.length f.2.1.length, .slice none 0 0]) ∧ w'.ownsRow W.heap.size 113 2 (.slice (some ⟨gl, 0, none⟩) f.2.1.length f.2.1.length) f.2.1.length (valCells (xa7Z f.2.1)) ∧ Below W.heap.size W w') := fun W hW => xlwZ p _ 0 f W (HH.out.below hW) hf (by omega)
  rw [hst]
  have HFL := hideP (xelZ f.2.1)
  clear hc hpe he hst hR hL hf
  go_enter Tryz.func50, Tryz.ntmps50
  go_wp2_with fail
  refine HP.out.mono ?_
  rintro e' w2 ⟨rfl, b2⟩
  have e0 := KC.out w2 b2
  go_wp2_with fail
  refine (HB.out w2 b2).mono ?_
  rintro e' w3 ⟨gl, rfl, hrow, b3⟩
  have b23 := xaeZ b2 b3
  have hr3 := KR.out w3 b23
  obtain ⟨W4, hW4⟩ : ∃ W4, w3.alloc (.cells #[.int .i64 0, .int .i64 0, .slice (some ⟨gl, 0, none⟩) f.2.1.length f.2.1.length, .slice none 0 0] 89) = W4 := ⟨_, rfl⟩
  have b4 : Below w3.heap.size w3 W4 := by rw [← hW4]; exact (Below.refl _ w3).alloc (Nat.le_refl _) _
  have v4 : W4.heap[w3.heap.size]? = some (.cells #[.int .i64 0, .int .i64 0, .slice (some ⟨gl, 0, none⟩) f.2.1.length f.2.1.length, .slice none 0 0] 89 (0, 0)) := by rw [← hW4]; exact World.alloc_heap_new w3 _
  have hr4 := (b4.block _ (xacZ hr3)).trans hr3
  have s0 := xaaZ hr4 0
  have s1 := xaaZ hr4 1
  have s2 := xaaZ hr4 2
  have s3 := xaaZ hr4 3
  have s4 := xaaZ hr4 4
  have s5 := xaaZ hr4 5
  simp at s0 s1 s2 s3 s4 s5
  have yy := Lib.frozen_of_heap hr4
  have y0 := yy 0
  have y1 := yy 1
  have y2 := yy 2
  have y3 := yy 3
  have y4 := yy 4
  have y5 := yy 5
  have hrow4 : W4.ownsRow w2.heap.size 113 2 (.slice (some ⟨gl, 0, none⟩) f.2.1.length f.2.1.length) f.2.1.length (valCells (xa7Z f.2.1)) := xaoZ hrow fun j hj => b4.block j (hrow.lt j hj).2
  have hs12 := b2.size
  have hs23 := b3.size
  have hs01 := b1.size
  have hres : MRes W4 w.heap.size _ _ _ _ _ := mres_start (xapZ hrow4 (by omega)) HFL.out.symm v4 (by omega)
  have HST := hideP (xkuZ (w := w) hres (xaeZ b1 (xaeZ b23 b4)) hr4 (by omega))
  clear yy hr3 hr4 v4 hrow hrow4 hres b4 hs12 hs23 hs01
  go_wp2
  refine bodyPost_ret (v := .tuple #[.agg #[.slice (some ⟨w3.heap.size, 0, none⟩) 1 1, .slice none 0 0, .slice none 0 0, .slice none 0 0, .int .i64 0, .int .i64 0], .int .i64 0]) (by simp [results, Tryz.results50, go_sem, s0, s1, s2, s3, s4, s5]) rfl ?_
  exact ⟨_, _, _, _, rfl, HST.out.1, HST.out.2⟩
end Go.Proofs.YtmjjkenblfndgaaGreat


/- A runner's step, and its run. -/
namespace Go.Proofs.YtmjjkenblfndgaaGreat
open Go.RowKit
set_option linter.unusedSimpArgs false
set_option linter.unusedVariables false
structure RunAt (w0 W : World) (b : Nat) (pv : Value) (M : Mach) (n : Int) (fv bv iv ov : Value) : Prop where
  cell : W.heap[b]? = some (.cells (runCells fv bv iv ov pv M n) 92 (0, 0))
  res : MRes W w0.heap.size fv bv iv ov M
  bel : Below w0.heap.size w0 W
  lo : w0.heap.size ≤ b
def Runs (w0 W : World) (b : Nat) (pv : Value) (s : MF) : Prop := ∃ fv bv iv ov, RunAt w0 W b pv s.1 s.2 fv bv iv ov
theorem RunAt.below {w0 W W' : World} {b : Nat} {pv fv bv iv ov : Value} {M : Mach} {n : Int} (h : RunAt w0 W b pv M n fv bv iv ov) (hb : Below W.heap.size W W') : RunAt w0 W' b pv M n fv bv iv ov :=
  ⟨(hb.block b (xacZ h.cell)).trans h.cell, h.res.below hb, h.bel.trans (hb.mono h.bel.size), h.lo⟩
theorem RunAt.fuel {w0 W : World} {b : Nat} {pv fv bv iv ov : Value} {M : Mach} {n : Int} (h : RunAt w0 W b pv M n fv bv iv ov) (k : Int) : RunAt w0 (W.setCell ⟨b, 7, none⟩ (.int .i64 k)) b pv M k fv bv iv ov := by
  have hg := xakZ W ⟨b, 7, none⟩ (.int .i64 k)
  refine ⟨?_, h.res.keep hg (xatZ h.cell) (by decide) (by decide) (by decide) (by decide), h.bel.setCell h.lo _, h.lo⟩
  have := heap_setCell_same W b 7 _ _ (.int .i64 k) h.cell
  simpa using this
theorem six_heap8 {W : World} {R : Nat} {t : TypeId} {a0 a1 a2 a3 a4 a5 a6 a7 : Value} (h : W.heap[R]? = some (.cells #[a0, a1, a2, a3, a4, a5, a6, a7] t (0, 0))) {a b c d e f : Value} : ((((((W.setCell ⟨R, 0, none⟩ a).setCell ⟨R, 1, none⟩ b).setCell ⟨R, 2, none⟩ c).setCell ⟨R, 3, none⟩ d).setCell ⟨R, 4, none⟩ e).setCell ⟨R, 5, none⟩ f).heap[R]? = some (.cells #[a, b, c, d, e, f, a6, a7] t (0, 0)) := by
  have h1 := heap_setCell_same W R 0 _ _ a h
  have h2 := heap_setCell_same _ R 1 _ _ b h1
  have h3 := heap_setCell_same _ R 2 _ _ c h2
  have h4 := heap_setCell_same _ R 3 _ _ d h3
  have h5 := heap_setCell_same _ R 4 _ _ e h4
  have h6 := heap_setCell_same _ R 5 _ _ f h5
  simpa using h6
theorem RunAt.machine {w0 W : World} {b : Nat} {pv fv bv iv ov fv' bv' iv' ov' : Value} {M R : Mach} {n : Int} {a0 a1 a2 a3 a4 a5 : Value} (hc : W.heap[b]? = some (.cells #[a0, a1, a2, a3, a4, a5, pv, .int .i64 n] 92 (0, 0))) (hr : MRes W w0.heap.size fv' bv' iv' ov' R) (hb : Below w0.heap.size w0 W) (hlo : w0.heap.size ≤ b) : RunAt w0 ((((((W.setCell ⟨b, 0, none⟩ fv').setCell ⟨b, 1, none⟩ bv').setCell ⟨b, 2, none⟩ iv').setCell ⟨b, 3, none⟩ ov').setCell ⟨b, 4, none⟩ (.int .i64 R.status)).setCell ⟨b, 5, none⟩ (.int .i64 R.trap)) b pv R n fv' bv' iv' ov' := by
  have hg := xb2Z W b fv' bv' iv' ov' (.int .i64 R.status) (.int .i64 R.trap)
  exact ⟨six_heap8 hc, hr.keep hg (xatZ hc) (by decide) (by decide) (by decide) (by decide), hb.grown hg hb.size (fun k hk => by cases hk; exact hlo), hlo⟩
theorem pay_is {p : List Fn} {M : Mach} {n : Int} {o : Int × Int} (h : xcbZ p M = some o) : pay p (M, n) = if n < costM o.1 then none else some (stepM p M, n - costM o.1) := by
  unfold pay
  simp only [h]
theorem next_small {p : List Fn} {e : Nat → Nat → Option (List Int)} {m : Mach} (hp : xanZ p = 0) (he : xaxZ p e) (h : RightM p e m) (hs : m.status = 0 ∨ m.status = 1) : ∃ (x : Frm) (kk pc : Nat) (f : Fn) (o : Int × Int), m.frames.getLast? = some x ∧ x.fn = (kk : Int) ∧ p[kk]? = some f ∧ x.pc = (pc : Int) ∧ f.2.2.2[pc]? = some o ∧ f.2.2.2.length ≤ 1000 ∧ p.length ≤ 1000 ∧ chk o.1 o.2 = 0 ∧ xcbZ p m = some o ∧ stepM p m = doOp p m x o := by
  obtain ⟨x, k, f, o, h1, h2, h3, h4, h5, h6, h7, _⟩ := xi1Z hp he h hs
  have hmem := List.mem_of_getElem? h3
  have hom := List.mem_of_getElem? h5
  obtain ⟨hce, _, _⟩ := xbfZ (okFn hp hmem).flow
  have hl := (xe1Z hp)
  refine ⟨x, k, x.pc.toNat, f, o, h1, h2, h3, by omega, h5, ?_, by omega, (xevZ _ hce).2 o hom, h6, h7⟩
  have := (okFn_at hp hmem hom).2.1
  omega
theorem rStep_any (w0 W : World) (b : Nat) (p : List Fn) (e : Nat → Nat → Option (List Int)) (pv : Value) (M : Mach) (n : Int) (hp : xanZ p = 0) (he : xaxZ p e) (hR : RightM p e M) (hs : M.status = 0 ∨ M.status = 1) (hn : 0 ≤ n ∧ n ≤ 100000) (hf0 : FnsAt w0 pv p) (hcp0 : CapAt w0 pv) (h : Runs w0 W b pv (M, n)) : Calls Tryz.prog 89 #[.pointer (some ⟨b, 0, none⟩)] W fun e w' => e = .returned (.bool (pay p (M, n)).isSome) ∧ Runs w0 w' b pv ((pay p (M, n)).getD (M, n)) := by
  obtain ⟨fv, bv, iv, ov, h⟩ := h
  have h : RunAt w0 W b pv M n fv bv iv ov := h
  have hf := hf0.below h.bel
  have hcp := hcp0.below hf0 h.bel
  obtain ⟨x, kk, pc, f, o, h1, h2, h3x, h4, h5n, h6, h7, h8, h9, h10⟩ := next_small hp he hR hs
  have h5 : f.2.2.2[x.pc.toNat]? = some o := by rw [h4]; exact h5n
  have hsm := (xc8Z hp he hR).1
  have hi100 : M.inp.length ≤ 100 := by have := hsm.inp; omega
  have hat := h.res.at_ hi100
  have hCO := rCost_any M p pv fv bv iv ov n b W ⟨hf, hcp, hat⟩ h.cell (by have := hsm.fr; omega) x kk pc f o h1 h2 h3x h4 h5n h6 h7 h8
  have hcm := costM_le o.1
  have hst : xcbZ p M = some o := h9
  rw [pay_is h9]
  generalize costM o.1 = c at *
  obtain ⟨⟨pf, nf, cf, hf1⟩, ⟨pb, nb, cb, hb1⟩, ⟨pi, ni, ci, hi1⟩, ⟨po, no, co, ho1⟩⟩ := xjxZ h.res
  obtain ⟨pp, qp, hpv, -, -⟩ := id hf0
  subst hf1 hb1 hi1 ho1 hpv
  have HCO := hideP hCO
  have HH := hideP h
  have HF := hideP hf0
  have HP := hideP hcp0
  have HR := hideP (And.intro hp (And.intro he hR))
  have hlb := xacZ h.cell
  by_cases hlt : n < c
  · rw [if_pos hlt]
    clear hCO h hf hcp hf0 hcp0 hat hst hp he hR
    go_enter Tryz.func89, Tryz.ntmps89
    go_wp2_with fail
    refine HCO.out.mono ?_
    rintro e w2 ⟨rfl, b2⟩
    have h2' := HH.out.below b2
    have d7 := xaaZ h2'.cell 7
    simp at d7
    have HH2 := hideP h2'
    clear h2'
    go_wp2
    go_ret
    exact ⟨rfl, ⟨_, _, _, _, HH2.out⟩⟩
  · rw [if_neg hlt]
    have hmm : 0 ≤ n - c ∧ n - c ≤ 100000 := by omega
    clear hCO h hf hcp hf0 hcp0 hat hst hp he hR
    go_enter Tryz.func89, Tryz.ntmps89
    go_wp2_with fail
    refine HCO.out.mono ?_
    rintro e w2 ⟨rfl, b2⟩
    have h2' := HH.out.below b2
    have d7 := xaaZ h2'.cell 7
    simp at d7
    have z := Lib.frozen_of_heap h2'.cell
    have z7 := z 7
    have HH2 := hideP h2'
    clear h2' z
    go_wp2_with fail
    obtain ⟨W3, hW3⟩ : ∃ W3, w2.setCell ⟨b, 7, none⟩ (.int .i64 (n - c)) = W3 := ⟨_, rfl⟩
    have hW3' := hW3
    have h3 : RunAt w0 W3 b (.slice pp p.length qp) M (n - c) (.slice pf nf cf) (.slice pb nb cb) (.slice pi ni ci) (.slice po no co) := by rw [← hW3]; exact HH2.out.fuel (n - c)
    have hf3 := HF.out.below h3.bel
    have HDO := hideP (xo2Z p e M _ _ _ _ _ W3.drew HR.out.1 HR.out.2.1 HR.out.2.2 hs (hf3.below (Below.refl _ W3).drew) ((h3.res.at_ hi100).below (Below.refl _ W3).drew) h1 h2 h3x h5)
    rw [← h10] at HDO
    clear h10
    have c0 := xaaZ h3.cell 0
    have c1 := xaaZ h3.cell 1
    have c2 := xaaZ h3.cell 2
    have c3 := xaaZ h3.cell 3
    have c4 := xaaZ h3.cell 4
    have c5 := xaaZ h3.cell 5
    have c6 := xaaZ h3.cell 6
    simp at c0 c1 c2 c3 c4 c5 c6
    have HH3 := hideP h3
    clear h3 hf3 hW3
    rw [hW3']
    clear hW3'
    go_region_with (first
      | (go_at_call 76; refine HDO.out.mono ?_; rintro e' w5 ⟨fv5, bv5, iv5, ov5, rfl, r5, b5'⟩; have b5 : Below W3.heap.size W3 w5 := xaeZ (Below.refl _ W3).drew b5'; clear b5'; obtain ⟨⟨pf5, nf5, cf5, hf5⟩, ⟨pb5, nb5, cb5, hb5⟩, ⟨pi5, ni5, ci5, hi5⟩, ⟨po5, no5, co5, ho5⟩⟩ := xjxZ r5; subst hf5 hb5 hi5 ho5; have h5' := (b5.block b (xacZ HH3.out.cell)).trans HH3.out.cell; have t0 := xaaZ h5' 0; have t1 := xaaZ h5' 1; have t2 := xaaZ h5' 2; have t3 := xaaZ h5' 3; have t4 := xaaZ h5' 4; have t5 := xaaZ h5' 5; simp at t0 t1 t2 t3 t4 t5; have tz := Lib.frozen_of_heap h5'; have tz0 := tz 0; have tz1 := tz 1; have tz2 := tz 2; have tz3 := tz 3; have tz4 := tz 4; have tz5 := tz 5; have R5 := hideP r5; have H5 := hideP h5'; clear tz r5 h5'))
    all_goals
      go_wp2
      go_ret
      have hs3 := HH3.out.bel.size
      have hfin := RunAt.machine (w0 := w0) (n := n - c) (R := stepM p M) (M := M) (fv := .slice pf nf cf) (bv := .slice pb nb cb) (iv := .slice pi ni ci) (ov := .slice po no co) H5.out (R5.out.low hs3) (HH3.out.bel.trans (b5.mono hs3)) HH3.out.lo
      refine ⟨rfl, ?_⟩
      show Runs w0 _ b _ (stepM p M, n - c)
      exact ⟨_, _, _, _, hfin⟩
def OnWay (p : List Fn) (e : Nat → Nat → Option (List Int)) (w0 : World) (b : Nat) (pv : Value) (s0 : MF) (W : World) : Prop := ∃ s : MF, Runs w0 W b pv s ∧ RightM p e s.1 ∧ 0 ≤ s.2 ∧ s.2 ≤ 100000 ∧ ∀ t, Ends p s t → Ends p s0 t
theorem rLoop_any (w0 W : World) (b : Nat) (p : List Fn) (e : Nat → Nat → Option (List Int)) (pv : Value) (M : Mach) (n : Int) (hp : xanZ p = 0) (he : xaxZ p e) (hR : RightM p e M) (hn : 0 ≤ n ∧ n ≤ 100000) (hf0 : FnsAt w0 pv p) (hcp0 : CapAt w0 pv) (h : Runs w0 W b pv (M, n)) : Calls Tryz.prog 54 #[.pointer (some ⟨b, 0, none⟩)] W fun e' w' => e' = .returned (.tuple #[]) ∧ ∃ t : MF, RunIs p M n t ∧ Runs w0 w' b pv t := by
  have HSTEP : Hid (∀ (W : World) (M : Mach) (n : Int), RightM p e M → (M.status = 0 ∨ M.status = 1) → 0 ≤ n → n ≤ 100000 → Runs w0 W b pv (M, n) → Calls Tryz.prog 89 #[.pointer (some ⟨b, 0, none⟩)] W fun e w' => e = .returned (.bool (pay p (M, n)).isSome) ∧ Runs w0 w' b pv ((pay p (M, n)).getD (M, n))) := fun W M n h1 h2 h3 h4 h5 => rStep_any w0 W b p e pv M n hp he h1 h2 ⟨h3, h4⟩ hf0 hcp0 h5
  have HH := hideP h
  have HR := hideP hR
  have HP := hideP hp
  have HE := hideP he
  have HN := hideP hn
  obtain ⟨fv, bv, iv, ov, hq⟩ := id h
  have c4 := xaaZ hq.cell 4
  simp at c4
  clear hp he hR hf0 hcp0 h hq hn
  by_cases h1 : M.status = 1
  · have t1 : (M.status == 1) = true := by simpa using h1
    have t0 : (M.status == 0) = false := by simp [h1]
    have hfirst := xi9Z (f := n) HP.out HE.out HR.out h1
    have hS := HSTEP.out W M n HR.out (.inr h1) HN.out.1 HN.out.2 HH.out
    have hg : (pay p (M, n)).getD (M, n) = (M, if n < 1 then n else n - 1) := by
      rw [← hfirst]; unfold xg4Z; rw [if_pos h1]
    rw [hg] at hS
    have HF := hideP hfirst
    have HS := hideP hS
    have H1 := hideP h1
    generalize (if n < 1 then n else n - 1) = k at *
    generalize (pay p (M, n)).isSome = bb at *
    clear hS hfirst hg h1
    go_enter Tryz.func54, Tryz.ntmps54
    go_wp2_with fail
    refine HS.out.mono ?_
    rintro e' w3 ⟨rfl, h3⟩
    have H3 := hideP h3
    clear h3 c4
    go_wp2_with fail
    go_loopw [] (fun wr => Runs w0 wr b pv (M, k)) (fun wr => 0)
    case atStart => exact H3.out
    case round =>
      obtain ⟨fv', bv', iv', ov', hq⟩ := id hrel
      have d4 := xaaZ hq.cell 4
      simp at d4
      have HRR := hideP hrel
      clear hrel hq
      go_wp2
      go_end0
      exact ⟨rfl, (M, k), by unfold RunIs; rw [HF.out]; exact .stop (by have := H1.out; simp [this]), HRR.out⟩
  · have t1 : (M.status == 1) = false := by simpa using h1
    go_enter Tryz.func54, Tryz.ntmps54
    go_wp2_with fail
    have hEq : ∀ t, Ends p (M, n) t → RunIs p M n t := fun t ht => by unfold RunIs; rw [xfoZ h1]; exact ht
    go_loopw [] (fun wr => OnWay p e w0 b pv (M, n) wr) (fun wr => (intOf ((wr.cell? ⟨b, 7, none⟩).getD (.int .i64 0))).toNat)
    case atStart => exact ⟨(M, n), HH.out, HR.out, HN.out.1, HN.out.2, fun t h => h⟩
    case round =>
      obtain ⟨⟨m, k⟩, hr, hm, hk0, hk1, hw⟩ := hrel
      simp only at hm hk0 hk1
      obtain ⟨fv', bv', iv', ov', hq⟩ := id hr
      have d4 := xaaZ hq.cell 4
      have d7 := xaaZ hq.cell 7
      simp at d4 d7
      have HRR := hideP hr
      have HM := hideP hm
      have HW := hideP hw
      have D7 := hideP d7
      clear hr hq hm hw d7 c4
      by_cases h0 : m.status = 0
      · have t0 : (m.status == 0) = true := by simpa using h0
        have HS := hideP (HSTEP.out _ m k HM.out (.inl h0) hk0 hk1 HRR.out)
        cases hpay : pay p (m, k) with
        | none =>
          rw [hpay] at HS
          go_wp2_with fail
          refine HS.out.mono ?_
          rintro e' w3 ⟨rfl, h3⟩
          have H3 := hideP h3
          clear h3
          go_wp2
          go_end0
          exact ⟨rfl, (m, k), hEq _ (HW.out _ (.poor hpay)), H3.out⟩
        | some s' =>
          rw [hpay] at HS
          have hl := xhmZ hpay
          have hR' : RightM p e s'.1 := by rw [hl.2.2]; exact xg2Z HP.out HE.out HM.out
          have HL := hideP hl
          have HR' := hideP hR'
          clear hl hR'
          go_wp2_with fail
          refine HS.out.mono ?_
          rintro e' w3 ⟨rfl, h3⟩
          obtain ⟨fv5, bv5, iv5, ov5, hq5⟩ := id h3
          have e7 := xaaZ hq5.cell 7
          have H3 := hideP h3
          have E7 := hideP e7
          clear h3 hq5 e7
          go_wp2_with fail
          go_roundw
          case rel => exact ⟨s', H3.out, HR'.out, HL.out.1, (by have hk2 : s'.2 + 1 ≤ k := HL.out.2.1; omega), fun t ht => HW.out t (.on h0 hpay ht)⟩
          case measure =>
            have h1 := HL.out.1
            have h2 : s'.2 + 1 ≤ k := HL.out.2.1
            have h7 := E7.out
            rw [h7, D7.out]
            simp [intOf]
            omega
      · have t0 : (m.status == 0) = false := by simpa using h0
        go_wp2_with fail
        go_wp2
        go_end0
        exact ⟨rfl, (m, k), hEq _ (HW.out _ (.stop h0)), HRR.out⟩
end Go.Proofs.YtmjjkenblfndgaaGreat


/- meter.Run. -/
namespace Go.Proofs.YtmjjkenblfndgaaGreat
open Go.RowKit
set_option linter.unusedSimpArgs false
set_option linter.unusedVariables false
theorem xpoZ {W : World} {R : Nat} {t : TypeId} {a0 a1 a2 a3 a4 a5 a6 a7 a b c d e f g h : Value} (hh : W.heap[R]? = some (.cells #[a0, a1, a2, a3, a4, a5, a6, a7] t (0, 0))) : ((((((((W.setCell ⟨R, 0, none⟩ a).setCell ⟨R, 1, none⟩ b).setCell ⟨R, 2, none⟩ c).setCell ⟨R, 3, none⟩ d).setCell ⟨R, 4, none⟩ e).setCell ⟨R, 5, none⟩ f).setCell ⟨R, 6, none⟩ g).setCell ⟨R, 7, none⟩ h).heap[R]? = some (.cells #[a, b, c, d, e, f, g, h] t (0, 0)) := by
  have h1 := heap_setCell_same W R 0 _ _ a hh
  have h2 := heap_setCell_same _ R 1 _ _ b h1
  have h3 := heap_setCell_same _ R 2 _ _ c h2
  have h4 := heap_setCell_same _ R 3 _ _ d h3
  have h5 := heap_setCell_same _ R 4 _ _ e h4
  have h6 := heap_setCell_same _ R 5 _ _ f h5
  have h7 := heap_setCell_same _ R 6 _ _ g h6
  have h8 := heap_setCell_same _ R 7 _ _ h h7
  simpa using h8
theorem xn0Z (W : World) (R : Nat) (a b c d e f g h : Value) : W.grownBy ((((((((W.setCell ⟨R, 0, none⟩ a).setCell ⟨R, 1, none⟩ b).setCell ⟨R, 2, none⟩ c).setCell ⟨R, 3, none⟩ d).setCell ⟨R, 4, none⟩ e).setCell ⟨R, 5, none⟩ f).setCell ⟨R, 6, none⟩ g).setCell ⟨R, 7, none⟩ h) (some R) := xg1Z W R a b c d e f g |>.trans (xakZ _ ⟨R, 7, none⟩ h)
theorem xc4Z {W : World} {R : Nat} {a b c d e f g h v : Value} {p : Addr} (hc : W.cell? p = some v) (hn : ¬ p.block = R) : ((((((((W.setCell ⟨R, 0, none⟩ a).setCell ⟨R, 1, none⟩ b).setCell ⟨R, 2, none⟩ c).setCell ⟨R, 3, none⟩ d).setCell ⟨R, 4, none⟩ e).setCell ⟨R, 5, none⟩ f).setCell ⟨R, 6, none⟩ g).setCell ⟨R, 7, none⟩ h).cell? p = some v := by
  rw [World.cell?_setCell_far _ _ _ _ (fun e => hn e.symm)]
  exact xbiZ hc hn
theorem drew_cellE (w : World) (p : Addr) : w.drew.cell? p = w.cell? p := rfl
theorem xeaZ {w : World} {R : Nat} {a b c d e f v : Value} {p : Addr} (h : w.cell? p = some v) (hn : ¬ p.block = R) : ((((((w.setCell ⟨R, 0, none⟩ a).setCell ⟨R, 1, none⟩ b).setCell ⟨R, 2, none⟩ c).setCell ⟨R, 3, none⟩ d).setCell ⟨R, 4, none⟩ e).setCell ⟨R, 5, none⟩ f).drew.cell? p = some v := (drew_cellE _ _).trans (xd9Z h hn)
noncomputable def runE (p : List Fn) (M : Mach) (n : Int) : Int := if xblZ p M ≠ 0 then xblZ p M else if n < 0 ∨ 10000 < n then 3 else 0
def RunRes (p : List Fn) (M : Mach) (n : Int) (t : MF) : Prop := (runE p M n = 0 → RunIs p M n t) ∧ (runE p M n ≠ 0 → t = (zeroM, 0))
def RunRet (p : List Fn) (M : Mach) (n : Int) (w : World) (e : Ending) (w' : World) : Prop := ∃ t : MF, RunRes p M n t ∧ ∃ fv bv iv ov, e = .returned (.tuple #[.agg #[fv, bv, iv, ov, .int .i64 t.1.status, .int .i64 t.1.trap], .int .i64 t.2, .int .i64 (runE p M n)]) ∧ MRes w' w.heap.size fv bv iv ov t.1 ∧ Below w.heap.size w w'
theorem xmjZ {p : List Fn} {M : Mach} {n : Int} : runE p M n = 0 ↔ xblZ p M = 0 ∧ 0 ≤ n ∧ n ≤ 10000 := by
  unfold runE
  constructor
  · intro h
    split at h
    · rename_i h1; exact absurd h h1
    · rename_i h1
      split at h
      · cases h
      · exact ⟨by simpa using h1, by omega, by omega⟩
  · rintro ⟨h1, h2, h3⟩
    rw [if_neg (by simp [h1]), if_neg (by omega)]
theorem mRun_any (M : Mach) (p : List Fn) (n : Int) (pv fv bv iv ov : Value) (w : World) (h : CkAt w p pv fv bv iv ov M) (hpc : PcOk M) : Calls Tryz.prog 23 #[.agg #[pv], .agg #[fv, bv, iv, ov, .int .i64 M.status, .int .i64 M.trap], .int .i64 n] w (RunRet p M n w) := by
  obtain ⟨⟨pp, qp, hpv⟩, ⟨pf, cf, hfv⟩, ⟨pb, cb, hbv⟩, ⟨pi, ci, hiv⟩, ⟨po, co, hov⟩⟩ := h.shp
  subst hpv hfv hbv hiv hov
  obtain ⟨W1, hW1⟩ : ∃ W1, ((w.alloc (.cells #[.slice pp p.length qp] 24)).alloc (.cells #[.slice pf M.frames.length cf, .slice pb M.blocks.length cb, .slice pi M.inp.length ci, .slice po M.out.length co, .int .i64 M.status, .int .i64 M.trap] 48)).alloc (.cells #[.slice none 0 0, .slice none 0 0, .slice none 0 0, .slice none 0 0, .int .i64 0, .int .i64 0] 48) = W1 := ⟨_, rfl⟩
  have b1 : Below w.heap.size w W1 := by rw [← hW1]; exact (((Below.refl _ w).alloc (Nat.le_refl _) _).alloc (by simp) _).alloc (by simp; omega) _
  have u1 : W1.heap[w.heap.size]? = some (.cells #[.slice pp p.length qp] 24 (0, 0)) := by rw [← hW1]; exact xepZ _ _ _ _
  have u2 : W1.heap[w.heap.size + 1]? = some (.cells #[.slice pf M.frames.length cf, .slice pb M.blocks.length cb, .slice pi M.inp.length ci, .slice po M.out.length co, .int .i64 M.status, .int .i64 M.trap] 48 (0, 0)) := by rw [← hW1]; exact xedZ _ _ _ _
  have u3 : W1.heap[w.heap.size + 1 + 1]? = some (.cells #[.slice none 0 0, .slice none 0 0, .slice none 0 0, .slice none 0 0, .int .i64 0, .int .i64 0] 48 (0, 0)) := by rw [← hW1]; exact new3 _ _ _ _
  have l1 := xacZ u1
  have l2 := xacZ u2
  have l3 := xacZ u3
  have KC : Hid (∀ W, Below W1.heap.size W1 W → W.cell? ⟨w.heap.size, 0, none⟩ = some (.slice pp p.length qp) ∧ W.cell? ⟨w.heap.size + 1, 0, none⟩ = some (.slice pf M.frames.length cf) ∧ W.cell? ⟨w.heap.size + 1, 1, none⟩ = some (.slice pb M.blocks.length cb) ∧ W.cell? ⟨w.heap.size + 1, 2, none⟩ = some (.slice pi M.inp.length ci) ∧ W.cell? ⟨w.heap.size + 1, 3, none⟩ = some (.slice po M.out.length co) ∧ W.cell? ⟨w.heap.size + 1, 4, none⟩ = some (.int .i64 M.status) ∧ W.cell? ⟨w.heap.size + 1, 5, none⟩ = some (.int .i64 M.trap)) := fun W hW => by
    have h1 := (hW.block _ l1).trans u1
    have h2 := (hW.block _ l2).trans u2
    exact ⟨xaaZ h1 0, xaaZ h2 0, xaaZ h2 1, xaaZ h2 2, xaaZ h2 3, xaaZ h2 4, xaaZ h2 5⟩
  have KR : Hid (∀ W, Below W1.heap.size W1 W → W.heap[w.heap.size + 1 + 1]? = some (.cells #[.slice none 0 0, .slice none 0 0, .slice none 0 0, .slice none 0 0, .int .i64 0, .int .i64 0] 48 (0, 0))) := fun W hW => (hW.block _ l3).trans u3
  obtain ⟨a0, d0, d1, d2, d3, d4, d5⟩ := KC.out W1 (Below.refl _ _)
  have H1 := h.below b1
  have HCK := hideP (xkqZ M p _ _ _ _ _ W1 H1 hpc)
  have HH := hideP H1
  clear h H1 u1 u2 u3 hpc
  by_cases hc : xblZ p M = 0
  rotate_left
  · have hc' : (xblZ p M != 0) = true := by simpa using hc
    have hE : runE p M n = xblZ p M := by unfold runE; rw [if_pos hc]
    have HFIN : Hid (RunRes p M n (zeroM, 0)) := ⟨fun h0 => absurd (hE.symm.trans h0) hc, fun _ => rfl⟩
    unfold RunRet
    rw [hE]
    generalize xblZ p M = er at *
    clear hc hE
    go_enter Tryz.func23, Tryz.ntmps23
    go_wp2_with fail
    refine HCK.out.mono ?_
    rintro e' w2 ⟨rfl, b2⟩
    obtain ⟨e0, g0, g1, g2, g3, g4, g5⟩ := KC.out w2 b2
    have hr2 := KR.out w2 b2
    have r0 := xaaZ hr2 0
    have r1 := xaaZ hr2 1
    have r2 := xaaZ hr2 2
    have r3 := xaaZ hr2 3
    have r4 := xaaZ hr2 4
    have r5 := xaaZ hr2 5
    simp at r0 r1 r2 r3 r4 r5
    have zq := Lib.frozen_of_heap hr2
    have z0 := zq 0
    have z1 := zq 1
    have z2 := zq 2
    have z3 := zq 3
    have z4 := zq 4
    have z5 := zq 5
    clear zq
    have HR2 := hideP hr2
    clear hr2
    go_wp2
    refine bodyPost_ret (v := .tuple #[.agg #[.slice none 0 0, .slice none 0 0, .slice none 0 0, .slice none 0 0, .int .i64 0, .int .i64 0], .int .i64 0, .int .i64 er]) (by simp [results, Tryz.results23, go_sem, r0, r1, r2, r3, r4, r5]) rfl ?_
    have hg6 := xb2Z w2 (w.heap.size + 1 + 1) (.slice none 0 0) (.slice none 0 0) (.slice none 0 0) (.slice none 0 0) (.int .i64 0) (.int .i64 0)
    exact ⟨(zeroM, 0), HFIN.out, _, _, _, _, rfl, xgsZ _ _, (xaeZ b1 b2).grown hg6 (xaeZ b1 b2).size (fun k hk => by cases hk; omega)⟩
  rw [hc] at HCK
  by_cases hn : n < 0 ∨ 10000 < n
  · have hE : runE p M n = 3 := by unfold runE; rw [if_neg (by simp [hc]), if_pos hn]
    have HFIN : Hid (RunRes p M n (zeroM, 0)) := ⟨fun h0 => (by rw [hE] at h0; cases h0), fun _ => rfl⟩
    unfold RunRet
    rw [hE]
    clear hE
    by_cases hneg : n < 0
    · have t1 : decide (n < 0) = true := by simpa using hneg
      clear hn hc hneg
      go_enter Tryz.func23, Tryz.ntmps23
      go_wp2_with fail
      refine HCK.out.mono ?_
      rintro e' w2 ⟨rfl, b2⟩
      obtain ⟨e0, g0, g1, g2, g3, g4, g5⟩ := KC.out w2 b2
      have hr2 := KR.out w2 b2
      have r0 := xaaZ hr2 0
      have r1 := xaaZ hr2 1
      have r2 := xaaZ hr2 2
      have r3 := xaaZ hr2 3
      have r4 := xaaZ hr2 4
      have r5 := xaaZ hr2 5
      simp at r0 r1 r2 r3 r4 r5
      have zq := Lib.frozen_of_heap hr2
      have z0 := zq 0
      have z1 := zq 1
      have z2 := zq 2
      have z3 := zq 3
      have z4 := zq 4
      have z5 := zq 5
      clear zq
      have HR2 := hideP hr2
      clear hr2
      go_wp2
      refine bodyPost_ret (v := .tuple #[.agg #[.slice none 0 0, .slice none 0 0, .slice none 0 0, .slice none 0 0, .int .i64 0, .int .i64 0], .int .i64 0, .int .i64 3]) (by simp [results, Tryz.results23, go_sem, r0, r1, r2, r3, r4, r5]) rfl ?_
      have hg6 := xb2Z w2 (w.heap.size + 1 + 1) (.slice none 0 0) (.slice none 0 0) (.slice none 0 0) (.slice none 0 0) (.int .i64 0) (.int .i64 0)
      exact ⟨(zeroM, 0), HFIN.out, _, _, _, _, rfl, xgsZ _ _, (xaeZ b1 b2).grown hg6 (xaeZ b1 b2).size (fun k hk => by cases hk; omega)⟩
    · have t1 : decide (n < 0) = false := by simpa using hneg
      have t2 : decide (n > 10000) = true := by simp; omega
      clear hn hc hneg
      go_enter Tryz.func23, Tryz.ntmps23
      go_wp2_with fail
      refine HCK.out.mono ?_
      rintro e' w2 ⟨rfl, b2⟩
      obtain ⟨e0, g0, g1, g2, g3, g4, g5⟩ := KC.out w2 b2
      have hr2 := KR.out w2 b2
      have r0 := xaaZ hr2 0
      have r1 := xaaZ hr2 1
      have r2 := xaaZ hr2 2
      have r3 := xaaZ hr2 3
      have r4 := xaaZ hr2 4
      have r5 := xaaZ hr2 5
      simp at r0 r1 r2 r3 r4 r5
      have zq := Lib.frozen_of_heap hr2
      have z0 := zq 0
      have z1 := zq 1
      have z2 := zq 2
      have z3 := zq 3
      have z4 := zq 4
      have z5 := zq 5
      clear zq
      have HR2 := hideP hr2
      clear hr2
      go_wp2
      refine bodyPost_ret (v := .tuple #[.agg #[.slice none 0 0, .slice none 0 0, .slice none 0 0, .slice none 0 0, .int .i64 0, .int .i64 0], .int .i64 0, .int .i64 3]) (by simp [results, Tryz.results23, go_sem, r0, r1, r2, r3, r4, r5]) rfl ?_
      have hg6 := xb2Z w2 (w.heap.size + 1 + 1) (.slice none 0 0) (.slice none 0 0) (.slice none 0 0) (.slice none 0 0) (.int .i64 0) (.int .i64 0)
      exact ⟨(zeroM, 0), HFIN.out, _, _, _, _, rfl, xgsZ _ _, (xaeZ b1 b2).grown hg6 (xaeZ b1 b2).size (fun k hk => by cases hk; omega)⟩
  have hE : runE p M n = 0 := xmjZ.2 ⟨hc, by omega, by omega⟩
  have HE0 := hideP hE
  unfold RunRet
  rw [hE]
  clear hE
  obtain ⟨hp, he, hR⟩ := xfiZ.1 hc
  have hsm := (xc8Z hp he hR).1
  have t1 : decide (n < 0) = false := by simp; omega
  have t2 : decide (n > 10000) = false := by simp; omega
  have HNN : Hid (0 ≤ n ∧ n ≤ 100000) := ⟨by omega, by omega⟩
  have HS := hideP (And.intro hp (And.intro he hR))
  have HFM : Hid (∀ W, Below W1.heap.size W1 W → Calls Tryz.prog 53 #[.agg #[.slice pf M.frames.length cf, .slice pb M.blocks.length cb, .slice pi M.inp.length ci, .slice po M.out.length co, .int .i64 M.status, .int .i64 M.trap]] W fun e w' => ∃ fv' bv' iv' ov', e = .returned (.agg #[fv', bv', iv', ov', .int .i64 M.status, .int .i64 M.trap]) ∧ ∃ q qb, MOwn w' W.heap.size fv' bv' iv' ov' q qb M ∧ Below W.heap.size W w') := fun W hW => xcqZ M _ _ _ _ W (HH.out.below hW).mach hsm
  clear hn hc hp he hR hsm
  go_enter Tryz.func23, Tryz.ntmps23
  go_wp2_with fail
  refine HCK.out.mono ?_
  rintro e' w2 ⟨rfl, b2⟩
  clear a0 d0 d1 d2 d3 d4 d5
  obtain ⟨x0, g0, g1, g2, g3, g4, g5⟩ := KC.out w2 b2
  have hz1 : ¬ w.heap.size = w2.heap.size := by have := b2.size; omega
  have hz2 : ¬ w.heap.size + 1 = w2.heap.size := by have := b2.size; omega
  have hdA : ∀ o, Below w2.heap.size w2 (w2.alloc o).drew := fun o => ((Below.refl _ w2).alloc (Nat.le_refl _) o).drew
  go_upto_region 6 with fail
  go_cut [10] from 25 (fun s10 wx => ∃ bR : Nat, s10 = .pointer (some ⟨bR, 0, none⟩) ∧ Runs W1 wx bR (.slice pp p.length qp) (M, n))
  case first =>
    go_region_held3 (fun X => X.cell? ⟨w.heap.size, 0, none⟩ = some (.slice pp p.length qp) ∧ X.cell? ⟨w.heap.size + 1, 0, none⟩ = some (.slice pf M.frames.length cf) ∧ X.cell? ⟨w.heap.size + 1, 1, none⟩ = some (.slice pb M.blocks.length cb) ∧ X.cell? ⟨w.heap.size + 1, 2, none⟩ = some (.slice pi M.inp.length ci) ∧ X.cell? ⟨w.heap.size + 1, 3, none⟩ = some (.slice po M.out.length co) ∧ X.cell? ⟨w.heap.size + 1, 4, none⟩ = some (.int .i64 M.status) ∧ X.cell? ⟨w.heap.size + 1, 5, none⟩ = some (.int .i64 M.trap)) (first | go_keep | exact ⟨xc4Z k0 hz1, xc4Z k1 hz2, xc4Z k2 hz2, xc4Z k3 hz2, xc4Z k4 hz2, xc4Z k5 hz2, xc4Z k6 hz2⟩)
      (first
        | (go_at_call 53; (with_reducible refine (HFM.out _ (xaeZ b2 (Below.refl _ w2).drew)).mono ?_); rintro e w3 ⟨f3, b3, i3, o3, rfl, q3, qb3, r3, b3'⟩; have b23 : Below w2.heap.size w2 w3 := xaeZ (Below.refl _ w2).drew b3'; have b13 := xaeZ b2 b23; obtain ⟨pf3, cf3, hf3⟩ := xaiZ r3.fr; obtain ⟨pb3, cb3, hb3⟩ := xaiZ r3.bl; obtain ⟨pi3, ci3, hi3⟩ := xaiZ r3.inp; obtain ⟨po3, co3, ho3⟩ := xaiZ r3.out; subst hf3 hb3 hi3 ho3; have R3 := hideP r3; clear r3; obtain ⟨k0, k1, k2, k3, k4, k5, k6⟩ := KC.out w3 b13)
        | (go_at_call 53; (with_reducible refine (HFM.out _ (xaeZ b2 (hdA _))).mono ?_); rintro e w3 ⟨f3, b3, i3, o3, rfl, q3, qb3, r3, b3'⟩; have b23 : Below w2.heap.size w2 w3 := xaeZ (hdA _) b3'; have b13 := xaeZ b2 b23; have q0 := (b3'.block w2.heap.size (xacZ (World.alloc_heap_new w2 _))).trans (World.alloc_heap_new w2 _); have Q0 := hideP q0; have m0 := xaaZ q0 0; have m1 := xaaZ q0 1; have m2 := xaaZ q0 2; have m3 := xaaZ q0 3; have m4 := xaaZ q0 4; have m5 := xaaZ q0 5; have m6 := xaaZ q0 6; have m7 := xaaZ q0 7; simp at m0 m1 m2 m3 m4 m5 m6 m7; have nn := Lib.frozen_of_heap q0; have n0 := nn 0; have n1 := nn 1; have n2 := nn 2; have n3 := nn 3; have n4 := nn 4; have n5 := nn 5; have n6 := nn 6; have n7 := nn 7; clear nn q0; obtain ⟨pf3, cf3, hf3⟩ := xaiZ r3.fr; obtain ⟨pb3, cb3, hb3⟩ := xaiZ r3.bl; obtain ⟨pi3, ci3, hi3⟩ := xaiZ r3.inp; obtain ⟨po3, co3, ho3⟩ := xaiZ r3.out; subst hf3 hb3 hi3 ho3; have R3 := hideP r3; clear r3; obtain ⟨k0, k1, k2, k3, k4, k5, k6⟩ := KC.out w3 b13))
    all_goals
      go_wp2_with fail
      go_meet
    · have h8 := World.alloc_heap_new w3 (.cells (runCells (.slice pf3 q3.length cf3) (.slice pb3 qb3.length cb3) (.slice pi3 M.inp.length ci3) (.slice po3 M.out.length co3) (.slice pp p.length qp) M n) 92)
      refine ⟨_, rfl, _, _, _, _, ⟨h8, ?_, b13.alloc b13.size _, b13.size⟩⟩
      exact (R3.out.res.low (by have := b2.size; simpa using this)).below ((Below.refl _ w3).alloc (Nat.le_refl _) _)
    · have hg8 := xn0Z w3 w2.heap.size (.slice pf3 q3.length cf3) (.slice pb3 qb3.length cb3) (.slice pi3 M.inp.length ci3) (.slice po3 M.out.length co3) (.int .i64 M.status) (.int .i64 M.trap) (.slice pp p.length qp) (.int .i64 n)
      refine ⟨_, rfl, _, _, _, _, ⟨xpoZ Q0.out, ?_, b13.grown hg8 b13.size (fun k hk => by cases hk; exact b2.size), b2.size⟩⟩
      exact (R3.out.res.low (by have := b2.size; simp; omega)).keep hg8 (xatZ Q0.out) (by decide) (by decide) (by decide) (by decide)
  case rest =>
    obtain ⟨bR, rfl, hruns⟩ := hcut
    have HRUN := hideP (rLoop_any W1 wc bR p (entP p) _ M n HS.out.1 HS.out.2.1 HS.out.2.2 HNN.out HH.out.fns HH.out.cap hruns)
    clear hruns x0 g0 g1 g2 g3 g4 g5
    go_wp2_with fail
    refine HRUN.out.mono ?_
    rintro e' w5 ⟨rfl, t, ht, f5, b5, i5, o5, hq⟩
    obtain ⟨⟨pf5, nf5, cf5, hf5⟩, ⟨pb5, nb5, cb5, hb5⟩, ⟨pi5, ni5, ci5, hi5⟩, ⟨po5, no5, co5, ho5⟩⟩ := xjxZ hq.res
    subst hf5 hb5 hi5 ho5
    have hr5 := KR.out w5 hq.bel
    have HR5 := hideP hr5
    have s0 := xaaZ hr5 0
    have s1 := xaaZ hr5 1
    have s2 := xaaZ hr5 2
    have s3 := xaaZ hr5 3
    have s4 := xaaZ hr5 4
    have s5 := xaaZ hr5 5
    simp at s0 s1 s2 s3 s4 s5
    have yq := Lib.frozen_of_heap hr5
    have y0 := yq 0
    have y1 := yq 1
    have y2 := yq 2
    have y3 := yq 3
    have y4 := yq 4
    have y5 := yq 5
    clear yq
    have c0 := xaaZ hq.cell 0
    have c1 := xaaZ hq.cell 1
    have c2 := xaaZ hq.cell 2
    have c3 := xaaZ hq.cell 3
    have c4 := xaaZ hq.cell 4
    have c5 := xaaZ hq.cell 5
    have c7 := xaaZ hq.cell 7
    simp at c0 c1 c2 c3 c4 c5 c7
    have hne : ¬ bR = w.heap.size + 1 + 1 := fun e => by
      have h1 := hq.cell
      rw [e, hr5] at h1
      simp at h1
    have HST := hideP (xkuZ (w := w) (hq.res.low b1.size) (b1.trans (hq.bel.mono b1.size)) hr5 (by omega))
    have HT := hideP ht
    clear hq hr5 ht
    go_wp2_with fail
    have T0 := xeaZ (a := .slice pf5 nf5 cf5) (b := .slice pb5 nb5 cb5) (c := .slice pi5 ni5 ci5) (d := .slice po5 no5 co5) (e := .int .i64 t.1.status) (f := .int .i64 t.1.trap) c0 hne
    have T1 := xeaZ (a := .slice pf5 nf5 cf5) (b := .slice pb5 nb5 cb5) (c := .slice pi5 ni5 ci5) (d := .slice po5 no5 co5) (e := .int .i64 t.1.status) (f := .int .i64 t.1.trap) c1 hne
    have T2 := xeaZ (a := .slice pf5 nf5 cf5) (b := .slice pb5 nb5 cb5) (c := .slice pi5 ni5 ci5) (d := .slice po5 no5 co5) (e := .int .i64 t.1.status) (f := .int .i64 t.1.trap) c2 hne
    have T3 := xeaZ (a := .slice pf5 nf5 cf5) (b := .slice pb5 nb5 cb5) (c := .slice pi5 ni5 ci5) (d := .slice po5 no5 co5) (e := .int .i64 t.1.status) (f := .int .i64 t.1.trap) c3 hne
    have T4 := xeaZ (a := .slice pf5 nf5 cf5) (b := .slice pb5 nb5 cb5) (c := .slice pi5 ni5 ci5) (d := .slice po5 no5 co5) (e := .int .i64 t.1.status) (f := .int .i64 t.1.trap) c4 hne
    have T5 := xeaZ (a := .slice pf5 nf5 cf5) (b := .slice pb5 nb5 cb5) (c := .slice pi5 ni5 ci5) (d := .slice po5 no5 co5) (e := .int .i64 t.1.status) (f := .int .i64 t.1.trap) c5 hne
    have T7 := xeaZ (a := .slice pf5 nf5 cf5) (b := .slice pb5 nb5 cb5) (c := .slice pi5 ni5 ci5) (d := .slice po5 no5 co5) (e := .int .i64 t.1.status) (f := .int .i64 t.1.trap) c7 hne
    go_region_held3 (fun X => X.cell? ⟨bR, 0, none⟩ = some (.slice pf5 nf5 cf5) ∧ X.cell? ⟨bR, 1, none⟩ = some (.slice pb5 nb5 cb5) ∧ X.cell? ⟨bR, 2, none⟩ = some (.slice pi5 ni5 ci5) ∧ X.cell? ⟨bR, 3, none⟩ = some (.slice po5 no5 co5) ∧ X.cell? ⟨bR, 4, none⟩ = some (.int .i64 t.1.status) ∧ X.cell? ⟨bR, 5, none⟩ = some (.int .i64 t.1.trap) ∧ X.cell? ⟨bR, 7, none⟩ = some (.int .i64 t.2)) (first | go_keep | exact ⟨T0, T1, T2, T3, T4, T5, T7⟩) (fail)
    clear T0 T1 T2 T3 T4 T5 T7
    go_wp2
    refine bodyPost_ret (v := .tuple #[.agg #[.slice pf5 nf5 cf5, .slice pb5 nb5 cb5, .slice pi5 ni5 ci5, .slice po5 no5 co5, .int .i64 t.1.status, .int .i64 t.1.trap], .int .i64 t.2, .int .i64 0]) (by simp [results, Tryz.results23, go_sem, s0, s1, s2, s3, s4, s5]) rfl ?_
    exact ⟨t, ⟨fun _ => HT.out, fun h => absurd HE0.out h⟩, _, _, _, _, rfl, HST.out.1.below (Below.refl _ _).drew, HST.out.2.drew⟩
end Go.Proofs.YtmjjkenblfndgaaGreat


/- What must be in any case of machines. -/
namespace Go.Proofs.YtmjjkenblfndgaaGreat
open Go.RowKit
set_option linter.unusedSimpArgs false
set_option linter.unusedVariables false
theorem xp3Z {p : List Fn} {pv : Value} {w : World} (hp : FnsAt w pv p) (hcp : CapAt w pv) : ∃ er, ProgIs p er := by
  obtain ⟨e, w', fr, ⟨er, _, h, _⟩, _⟩ := xe4Z p pv w hp hcp []
  exact ⟨er, h⟩
theorem xjfZ {pv : Value} {w : World} (hp : FnsAt w pv xajZ) (hcp : CapAt w pv) : fitsE xajZ = 0 := by
  obtain ⟨er, h⟩ := xp3Z hp hcp
  rw [← xe2Z h]
  exact xp8Z h
def beginM : Mach := { zeroM with frames := [{ fn := 0, pc := 0, loc := [], stk := [] }] }
def secondM : Mach := { zeroM with frames := [{ fn := 0, pc := 1, loc := [], stk := [(false, 3)] }] }
def waitsM : Mach := { beginM with status := 1 }
theorem cb1 : xfrZ xheZ = beginM ∧ stepM xheZ beginM = secondM := ⟨rfl, by simp [stepM, beginM, zeroM, xcbZ, xheZ, loopOps, doOp, onF, putF, secondM]⟩
theorem cb2 : xfrZ xajZ = beginM ∧ stepM xajZ beginM = waitsM := ⟨rfl, by simp [stepM, beginM, zeroM, xcbZ, xajZ, doOp, waitsM]⟩
theorem xjgZ {p : List Fn} {pv : Value} {w : World} (hp : FnsAt w pv p) (hcp : CapAt w pv) (hf : fitsE p = 0) (hs : xfrZ p = beginM) : Calls Tryz.prog 50 #[.agg #[pv]] w (MRet beginM 0 w) := by
  have := mStart_any p pv w hp hcp
  rw [hf, if_pos rfl, hs] at this
  exact this
theorem xikZ {W : World} {B : Nat} {fv bv iv ov : Value} {M : Mach} (h : MRes W B fv bv iv ov M) : (∃ p c, fv = .slice p M.frames.length c) ∧ (∃ p c, bv = .slice p M.blocks.length c) ∧ (∃ p c, iv = .slice p M.inp.length c) ∧ ∃ p c, ov = .slice p M.out.length c := by
  obtain ⟨q, qb, k, iw, I, h1, h2, h3⟩ := h
  obtain ⟨a, b, e1⟩ := xaiZ h1.fr
  obtain ⟨c, d, e2⟩ := xaiZ h1.bl
  obtain ⟨x, y, e3⟩ := xaiZ h1.out
  refine ⟨⟨_, _, by rw [e1, h1.frs.len]⟩, ⟨_, _, by rw [e2]; have := h1.rows.len; simp at this; rw [this]⟩, ?_, ⟨_, _, e3⟩⟩
  rcases h3 with ⟨h0, h4⟩ | ⟨g, n, cap, j, c, h5, h4, _⟩
  · obtain ⟨p, c, e4⟩ := xaiZ h1.inp
    subst h0
    refine ⟨p, c, ?_⟩
    rw [h4, e4, h2]
    simp
  · obtain ⟨p, c', e4⟩ := xaiZ h1.inp
    rw [h5] at e4
    cases e4
    refine ⟨some ⟨g, j, none⟩, c, ?_⟩
    rw [h4, h2, List.length_drop]
end Go.Proofs.YtmjjkenblfndgaaGreat


