/- My texts Qf Qg Qj Qk Qm Qr: what of them is needed, joined. -/

import Derived.Test.YtmjjkenblfndgaaGreatE9
import Derived.Test.YtmjjkenblfndgaaGreatE13
set_option maxRecDepth 100000
set_option maxHeartbeats 8000000
/- A step of a right machine is a right machine: calls and returns; all ops. -/
namespace Go.Proofs.YtmjjkenblfndgaaGreat
open Go.RowKit
set_option linter.unusedSimpArgs false
set_option linter.unusedVariables false
theorem xmaZ {a s : List Int} {r : Int} (h : leS (a ++ [r]) s = true) : leS a s.dropLast = true ∧ ∃ z, s = s.dropLast ++ [z] ∧ xarZ r z = true := by
  have hl := xdmZ h
  simp at hl
  have h1 := xjwZ a.length h
  rw [List.take_append_of_le_length (Nat.le_refl _), List.take_of_length_le (Nat.le_refl _)] at h1
  have hd : s.dropLast = s.take a.length := by rw [List.dropLast_eq_take]; congr 1; omega
  have h2 := xjvZ a.length h
  rw [List.drop_append_of_le_length (Nat.le_refl _), List.drop_of_length_le (Nat.le_refl _), List.nil_append] at h2
  have hl2 : (s.drop a.length).length = 1 := by simp; omega
  obtain ⟨z, hz⟩ := List.length_eq_one_iff.1 hl2
  rw [hz] at h2
  simp [leS] at h2
  refine ⟨by rw [hd]; exact h1, z, ?_, h2⟩
  rw [hd, ← hz, List.take_append_drop]
theorem xgzZ : ∀ (ts : List Int), (∀ t ∈ ts, 1 ≤ t ∧ t ≤ 2) → areOf (xa7Z ts) ts = true
  | [], _ => rfl
  | t :: r, h => by
    have ht := h t (by simp)
    have ih := xgzZ r (fun u hu => h u (by simp [hu]))
    have : t = 1 ∨ t = 2 := by omega
    simp only [xa7Z, List.map_cons, areOf, Bool.and_eq_true]
    refine ⟨?_, ih⟩
    rcases this with rfl | rfl <;> simp [asT]
theorem fresh_ok {ts : List Int} {nb : Nat} {v : Val} (h : v ∈ xa7Z ts) : okV nb v = true := by
  obtain ⟨t, _, rfl⟩ := List.mem_map.1 h
  unfold okV
  split
  · simp
  · rfl
section
variable {p : List Fn} {e : Nat → Nat → Option (List Int)} {m : Mach} {x : Frm} {k : Nat} {f : Fn} {pc : Nat} {s out : List Int} {o : Int × Int}
theorem op12 (h : AtOp p e m x k f pc s out o) (hc : o.1 = 12) (he : xaxZ p e) (hok : OkOp p f o) (hty : ∀ g ∈ p, ∀ t ∈ g.2.1, 1 ≤ t ∧ t ≤ 2) : RightM p e (doOp p m x o) := by
  by_cases h6 : m.frames.length = 6
  · have hd : doOp p m x o = trapM m 4 := by simp [doOp, hc, h6]
    rw [hd]
    exact xczZ h.right h.run (by omega)
  obtain ⟨c0, c1⟩ := hok.call hc
  obtain ⟨g, hg⟩ := xagZ (l := p) (k := o.2.toNat) (by omega)
  have hgf := hok.fns g (List.mem_of_getElem? hg)
  have hd : doOp p m x o = { m with frames := m.frames.dropLast ++ [{ x with pc := x.pc + 1, stk := cutV x.stk g.1.toNat }, { fn := o.2, pc := 0, loc := x.stk.drop (x.stk.length - g.1.toNat) ++ (xa7Z g.2.1).drop g.1.toNat, stk := [] }] } := by simp [doOp, hc, h6, hg]
  rw [hd]
  have htl : xafZ p f o s = some (g.2.1.take g.1.toNat, if 0 < g.2.2.1 then [g.2.2.1] else []) := by
    unfold xafZ
    rw [if_neg (by omega), if_neg (by omega), if_neg (by omega), if_pos hc, hg]
    rfl
  have htn : (g.2.1.take g.1.toNat).length = g.1.toNat := by rw [List.length_take]; omega
  obtain ⟨a1, a2⟩ := xbdZ h.stk h.try_ htl
  rw [htn] at a1 a2
  obtain ⟨t', l', q1, q2, q3, hout⟩ := xerZ h.try_
  rw [htl] at q1
  cases q1
  rw [htn] at hout
  obtain ⟨_, s', n1, n2⟩ := h.on (pc + 1) (xc6Z h.op (by omega) (by omega))
  have hs := xcfZ h.last
  generalize hD : m.frames.dropLast = D at *
  have hlen : m.frames.length = D.length + 1 := by rw [hs]; simp
  have hoe : o = (12, o.2) := by rw [← hc]
  have hx1 : RightF p e m.blocks.length (some o.2) { x with pc := x.pc + 1, stk := cutV x.stk g.1.toNat } k f := by
    refine ⟨h.frame.fn, h.frame.at_, h.frame.loc, h.frame.okl, fun v hv => h.frame.oks v (mem_cutV hv), fun hn => (by cases hn), fun g' hg' => ?_⟩
    cases hg'
    refine ⟨pc, s, s', g, by show x.pc + 1 = _; rw [h.pcx]; rfl, c0, h.ent, by rw [h.op, hoe], n1, hg, ?_⟩
    have hcut := xkfZ h.stk g.1.toNat
    by_cases hr : g.2.2.1 = 0
    · rw [if_neg (by simp [hr])]
      rw [if_neg (by omega), List.append_nil] at hout
      exact xe6Z hcut (by rw [← hout]; exact n2)
    · rw [if_pos hr]
      rw [if_pos (by omega)] at hout
      rw [hout] at n2
      exact xe6Z hcut (xmaZ n2).1
  have hy : RightF p e m.blocks.length none { fn := o.2, pc := 0, loc := x.stk.drop (x.stk.length - g.1.toNat) ++ (xa7Z g.2.1).drop g.1.toNat, stk := [] } o.2.toNat g := by
    refine ⟨by show o.2 = _; omega, hg, ?_, fun v hv => ?_, fun v hv => by simp at hv, fun _ => ⟨0, [], rfl, (he _ g hg).1.first, rfl⟩, fun g' hg' => by cases hg'⟩
    · have := xc9Z a2 (xeuZ g.1.toNat (xgzZ g.2.1 (hty g (List.mem_of_getElem? hg))))
      rwa [List.take_append_drop] at this
    · rcases List.mem_append.1 hv with hv | hv
      · exact h.frame.oks v (List.mem_of_mem_drop hv)
      · exact fresh_ok (List.mem_of_mem_drop hv)
  have hat : ∀ i z, i < D.length → (m.frames[i]? = some z ↔ (D ++ [{ x with pc := x.pc + 1, stk := cutV x.stk g.1.toNat }, { fn := o.2, pc := 0, loc := x.stk.drop (x.stk.length - g.1.toNat) ++ (xa7Z g.2.1).drop g.1.toNat, stk := [] }])[i]? = some z) := by
    intro i z hi
    rw [hs, List.getElem?_append_left hi, List.getElem?_append_left hi]
  have hst := h.run
  refine ⟨h.right.status, h.right.trap, h.right.blocks, h.right.inp, h.right.out, ⟨by simp; have := h.right.depth.1; omega, by simp [hst]⟩, ?_, ?_, fun hw => by simp only [hst] at hw; cases hw⟩
  · intro z hz
    simp only at hz
    cases D with
    | nil =>
      simp at hz
      subst hz
      exact h.right.first x (by rw [hs]; rfl)
    | cons d r => exact h.right.first z ((hat 0 z (by simp)).2 hz)
  · intro i z hz
    simp only at hz ⊢
    by_cases hi : i < D.length
    · obtain ⟨k', f', hr'⟩ := h.right.each i z ((hat i z hi).2 hz)
      refine ⟨k', f', ?_⟩
      have hnext : (m.frames[i + 1]?).map Frm.fn = ((D ++ [{ x with pc := x.pc + 1, stk := cutV x.stk g.1.toNat }, { fn := o.2, pc := 0, loc := x.stk.drop (x.stk.length - g.1.toNat) ++ (xa7Z g.2.1).drop g.1.toNat, stk := [] }])[i + 1]?).map Frm.fn := by
        by_cases hi2 : i + 1 < D.length
        · rw [hs, List.getElem?_append_left hi2, List.getElem?_append_left hi2]
        · have : i + 1 = D.length := by omega
          rw [hs, this]
          simp
      rw [← hnext]
      exact hr'
    · by_cases hi2 : i = D.length
      · subst hi2
        simp at hz
        subst hz
        exact ⟨k, f, by simpa using hx1⟩
      · have hi3 : i = D.length + 1 := by have := xadZ hz; simp at this; omega
        subst hi3
        simp at hz
        subst hz
        exact ⟨_, g, by simpa using hy⟩
theorem op13 (h : AtOp p e m x k f pc s out o) (hc : o.1 = 13) (he : xaxZ p e) (hres : ∀ g ∈ p, 0 ≤ g.2.2.1) : RightM p e (doOp p m x o) := by
  have hst := h.run
  have htr := h.right.trap.2 (by omega)
  cases hy : m.frames.dropLast.getLast? with
  | none =>
    have hd : doOp p m x o = { m with frames := [], status := 2 } := by simp [doOp, hc, hy]
    rw [hd]
    exact ⟨by simp, ⟨fun hn => by simp at hn, fun _ => htr⟩, h.right.blocks, h.right.inp, h.right.out, ⟨by simp, by simp⟩, fun z hz => by simp at hz, fun i z hz => by simp at hz, fun hw => by simp at hw⟩
  | some y =>
    have hd : doOp p m x o = { m with frames := m.frames.dropLast.dropLast ++ [{ y with stk := y.stk ++ x.stk }] } := by simp [doOp, hc, hy]
    rw [hd]
    have hs1 := xcfZ h.last
    have hs2 := xcfZ hy
    generalize hD : m.frames.dropLast.dropLast = D at *
    generalize hD1 : m.frames.dropLast = D1 at *
    have hfr : m.frames = D ++ [y, x] := by rw [hs1, hs2]; simp
    have hyi : m.frames[D.length]? = some y := by rw [hfr]; simp
    have hxi : m.frames[D.length + 1]? = some x := by rw [hfr]; simp
    obtain ⟨ky, fy, hry⟩ := h.right.each D.length y hyi
    rw [hxi] at hry
    obtain ⟨pc', s0, s1, h1, w1, w2, w3, w4, w5, w6, w7⟩ := hry.outer x.fn rfl
    have hh1 : h1 = f := by
      have := h.frame.at_
      rw [h.frame.fn] at w6
      simp at w6
      rw [this] at w6
      exact (Option.some.inj w6).symm
    subst hh1
    have hmem := List.mem_of_getElem? h.frame.at_
    have hr0 := hres h1 hmem
    have hlen : s.length = (if 0 < h1.2.2.1 then [h1.2.2.1] else []).length := by
      have := h.try_
      obtain ⟨t', l', q1, _⟩ := xerZ this
      unfold xafZ at q1
      rw [if_neg (by omega), if_neg (by omega), if_neg (by omega), if_neg (by omega), if_pos hc] at q1
      by_cases hl : s.length = (if 0 < h1.2.2.1 then [h1.2.2.1] else []).length
      · exact hl
      · rw [if_neg hl] at q1; cases q1
    have htl : xafZ p h1 o s = some (if 0 < h1.2.2.1 then [h1.2.2.1] else [], []) := by
      unfold xafZ
      rw [if_neg (by omega), if_neg (by omega), if_neg (by omega), if_neg (by omega), if_pos hc, if_pos hlen]
    obtain ⟨a1, a2⟩ := xbdZ h.stk h.try_ htl
    have hxl := xa6Z h.stk
    rw [← hlen, ← hxl, Nat.sub_self, List.drop_zero] at a2
    have hy' : RightF p e m.blocks.length none { y with stk := y.stk ++ x.stk } ky fy := by
      refine ⟨hry.fn, hry.at_, hry.loc, hry.okl, fun v hv => ?_, fun _ => ⟨pc' + 1, s1, w1, w5, ?_⟩, fun g' hg' => by cases hg'⟩
      · rcases List.mem_append.1 hv with hv | hv
        · exact hry.oks v hv
        · exact h.frame.oks v hv
      · show areOf (y.stk ++ x.stk) s1 = true
        by_cases hz : h1.2.2.1 = 0
        · rw [if_neg (by simp [hz])] at w7
          rw [if_neg (by omega)] at a2
          have : x.stk = [] := List.eq_nil_of_length_eq_zero (by rw [xa6Z a2]; rfl)
          rw [this, List.append_nil]
          exact w7
        · rw [if_pos hz] at w7
          rw [if_pos (by omega)] at a2
          obtain ⟨o', out', v1, v2, v3⟩ := (he ky fy hry.at_).1.on pc' s0 w3
          rw [w4] at v1
          cases v1
          obtain ⟨_, s1', v4, v5⟩ := v3 (pc' + 1) (xc6Z w4 (by simp) (by simp))
          rw [w5] at v4
          cases v4
          obtain ⟨t', l', q1, q2, q3, hout⟩ := xerZ v2
          unfold xafZ at q1
          rw [if_neg (by simp), if_neg (by simp), if_neg (by simp), if_pos rfl, w6] at q1
          simp at q1
          obtain ⟨_, hl'⟩ := q1
          rw [if_pos (by omega)] at hl'
          rw [hout, ← hl'] at v5
          obtain ⟨_, z, hzs, hsz⟩ := xmaZ v5
          rw [hzs]
          exact xc9Z w7 (xe6Z a2 (by simp [leS, hsz]))
    have hat : ∀ i z, i < D.length → (m.frames[i]? = some z ↔ (D ++ [{ y with stk := y.stk ++ x.stk }])[i]? = some z) := by
      intro i z hi
      rw [hfr, List.getElem?_append_left hi, List.getElem?_append_left hi]
    refine ⟨h.right.status, h.right.trap, h.right.blocks, h.right.inp, h.right.out, ⟨by have := h.right.depth.1; rw [hfr] at this; simp at this ⊢; omega, by simp [hst]⟩, ?_, ?_, fun hw => by simp only [hst] at hw; cases hw⟩
    · intro z hz
      simp only at hz
      cases D with
      | nil =>
        simp at hz
        subst hz
        exact h.right.first y (by rw [hfr]; rfl)
      | cons d r => exact h.right.first z ((hat 0 z (by simp)).2 hz)
    · intro i z hz
      simp only at hz ⊢
      by_cases hi : i < D.length
      · obtain ⟨k', f', hr'⟩ := h.right.each i z ((hat i z hi).2 hz)
        refine ⟨k', f', ?_⟩
        have hnext : (m.frames[i + 1]?).map Frm.fn = ((D ++ [{ y with stk := y.stk ++ x.stk }])[i + 1]?).map Frm.fn := by
          by_cases hi2 : i + 1 < D.length
          · rw [hfr, List.getElem?_append_left hi2, List.getElem?_append_left hi2]
          · have : i + 1 = D.length := by omega
            rw [hfr, this]
            simp
        rw [← hnext]
        exact hr'
      · have hi2 : i = D.length := by have := xadZ hz; simp at this; omega
        subst hi2
        simp at hz
        subst hz
        exact ⟨ky, fy, by simpa using hy'⟩
end
theorem right_step {p : List Fn} {e : Nat → Nat → Option (List Int)} {m : Mach} (hp : xanZ p = 0) (he : xaxZ p e) (h : RightM p e m) (hs : m.status = 0 ∨ m.status = 1) : ∃ (x : Frm) (k : Nat) (f : Fn) (o : Int × Int), m.frames.getLast? = some x ∧ x.fn = (k : Int) ∧ p[k]? = some f ∧ 0 ≤ x.pc ∧ f.2.2.2[x.pc.toNat]? = some o ∧ RightM p e (doOp p m x o) := by
  have hne : m.frames ≠ [] := fun hf => by have := h.depth.2.1 hf; omega
  obtain ⟨x, hx⟩ : ∃ x, m.frames.getLast? = some x := by
    cases hl : m.frames.getLast? with
    | none => exact absurd (List.getLast?_eq_none_iff.1 hl) hne
    | some x => exact ⟨x, rfl⟩
  have hsp := xcfZ hx
  have hxi : m.frames[m.frames.length - 1]? = some x := by rw [← List.getLast?_eq_getElem?]; exact hx
  have hpos : 0 < m.frames.length := List.length_pos_iff.2 hne
  obtain ⟨k, f, hr⟩ := h.each _ x hxi
  rw [List.getElem?_eq_none (by omega), Option.map_none] at hr
  obtain ⟨pc, s, o, out, h1, h2, h3, h4, h5, h6⟩ := xfaZ he hr
  have hpc : x.pc.toNat = pc := by rw [h1]; simp
  refine ⟨x, k, f, o, hx, hr.fn, hr.at_, by omega, by rw [hpc]; exact h4, ?_⟩
  have hmem := List.mem_of_getElem? hr.at_
  have hfn := okFn hp hmem
  have hom := List.mem_of_getElem? h4
  have hok := hfn.ops o hom
  obtain ⟨hce, _, hbad⟩ := xbfZ hfn.flow
  have hchk := xjmZ ((xevZ _ hce).2 o hom)
  have hty : ∀ g ∈ p, ∀ t ∈ g.2.1, 1 ≤ t ∧ t ≤ 2 := fun g hg => (okFn hp hg).loc
  have hres : ∀ g ∈ p, 0 ≤ g.2.2.1 := fun g hg => (hfn.res g hg).1
  by_cases hw : o.1 = 21 ∧ m.inp = []
  · have hd : doOp p m x o = { m with status := 1 } := by simp [doOp, hw]
    rw [hd]
    refine ⟨by simp, ⟨fun hn => by simp at hn, fun _ => h.trap.2 (by omega)⟩, h.blocks, h.inp, h.out, ⟨h.depth.1, ?_⟩, h.first, h.each, fun _ => ⟨hw.2, x, k, f, o, hx, hr.fn, hr.at_, by rw [hpc]; exact h4, hw.1⟩⟩
    simp [hne]
  · have hst : m.status = 0 := by
      rcases hs with hs | hs
      · exact hs
      · obtain ⟨w1, x', k', f', o', w2, w3, w4, w5, w6⟩ := h.wait hs
        rw [hx] at w2
        cases w2
        have : k = k' := by have := hr.fn; omega
        subst this
        rw [hr.at_] at w4
        cases w4
        rw [hpc, h4] at w5
        cases w5
        exact absurd ⟨w6, w1⟩ hw
    have hA : AtOp p e m x k f pc s out o := ⟨h, hst, hx, hr, h1, h2, h3, h4, h5, h6, by simp [isI32]; omega⟩
    have hcode := hok.code
    have : o.1 = 1 ∨ o.1 = 2 ∨ o.1 = 3 ∨ o.1 = 4 ∨ (o.1 = 5 ∨ o.1 = 6 ∨ o.1 = 7) ∨ o.1 = 8 ∨ o.1 = 9 ∨ o.1 = 10 ∨ o.1 = 11 ∨ o.1 = 12 ∨ o.1 = 13 ∨ o.1 = 14 ∨ o.1 = 15 ∨ o.1 = 16 ∨ o.1 = 17 ∨ o.1 = 18 ∨ o.1 = 19 ∨ o.1 = 20 ∨ o.1 = 21 := by omega
    rcases this with c | c | c | c | c | c | c | c | c | c | c | c | c | c | c | c | c | c | c
    · exact op1 hA c
    · exact op2 hA c
    · exact op3 hA c
    · exact op4 hA c
    · exact op567 hA c
    · exact op8 hA c (hok.loc (.inl c)) hfn.loc
    · exact op9 hA c (hok.loc (.inr c)) hfn.loc
    · exact op10 hA c hbad
    · exact op11 hA c hbad
    · exact op12 hA c he hok hty
    · exact op13 hA c he hres
    · exact op14 hA c
    · exact op15 hA c
    · exact op16 hA c
    · exact op17 hA c
    · exact op18 hA c
    · exact op19 hA c
    · exact op20 hA c
    · exact op21 hA c (fun hi => hw ⟨c, hi⟩)
end Go.Proofs.YtmjjkenblfndgaaGreat


/- Only the innermost frame is other behind a step, plainly. -/
namespace Go.Proofs.YtmjjkenblfndgaaGreat
open Go.RowKit
set_option linter.unusedSimpArgs false
set_option linter.unusedVariables false
structure OuterM (m n : Mach) : Prop where
  few : m.frames.length ≤ n.frames.length + 1
  many : n.frames.length ≤ m.frames.length + 1
  blocks : m.blocks.length ≤ n.blocks.length
  each : ∀ (i : Nat) (b : List Int), m.blocks[i]? = some b → ∃ b' : List Int, n.blocks[i]? = some b' ∧ b'.length = b.length
  out : m.out.length ≤ n.out.length ∧ n.out.take m.out.length = m.out
  inp : n.inp.length ≤ m.inp.length ∧ n.inp = m.inp.drop (m.inp.length - n.inp.length)
  frames : ∀ i, (i + 2 < m.frames.length ∨ (i + 1 < m.frames.length ∧ m.frames.length ≤ n.frames.length)) → n.frames[i]? = m.frames[i]?
theorem xd1Z (L : List (List Int)) : ∀ (i : Nat) (b : List Int), L[i]? = some b → ∃ b' : List Int, L[i]? = some b' ∧ b'.length = b.length := fun i b h => ⟨b, h, rfl⟩
theorem xf2Z (m : Mach) (st tr : Int) : OuterM m { m with status := st, trap := tr } := ⟨by simp, by simp, by simp, xd1Z _, by simp, by simp, fun i _ => rfl⟩
theorem xdeZ {m : Mach} {x : Frm} (hl : m.frames.getLast? = some x) {ys : List Frm} (h1 : 1 ≤ ys.length) (h2 : ys.length ≤ 2) {B : List (List Int)} {I O : List Int} (hb : m.blocks.length ≤ B.length) (he : ∀ (i : Nat) (b : List Int), m.blocks[i]? = some b → ∃ b' : List Int, B[i]? = some b' ∧ b'.length = b.length) (ho : m.out.length ≤ O.length ∧ O.take m.out.length = m.out) (hi : I.length ≤ m.inp.length ∧ I = m.inp.drop (m.inp.length - I.length)) :
    OuterM m { m with frames := m.frames.dropLast ++ ys, blocks := B, inp := I, out := O } := by
  have hs := xcfZ hl
  have hlen : m.frames.length = m.frames.dropLast.length + 1 := by rw [hs]; simp
  refine ⟨by simp; omega, by simp; omega, hb, he, ho, hi, fun i h => ?_⟩
  simp only [List.length_append] at h
  have hi2 : i < m.frames.dropLast.length := by omega
  show (m.frames.dropLast ++ ys)[i]? = _
  rw [List.getElem?_append_left hi2]
  conv => rhs; rw [hs]
  rw [List.getElem?_append_left hi2]
theorem xemZ (l : List Int) : l.length ≤ l.length ∧ l.take l.length = l := by simp
theorem xe8Z (l : List Int) : l.length ≤ l.length ∧ l = l.drop (l.length - l.length) := by simp
theorem outer_ite {m : Mach} {c : Prop} [Decidable c] {a b : Mach} (h1 : OuterM m a) (h2 : OuterM m b) : OuterM m (if c then a else b) := by
  split
  · exact h1
  · exact h2
theorem outer_step {p : List Fn} {m : Mach} {x : Frm} {o : Int × Int} (hl : m.frames.getLast? = some x) : OuterM m (doOp p m x o) := by
  have hput : ∀ x' : Frm, OuterM m (putF m x') := fun x' => xdeZ hl (ys := [x']) (by simp) (by simp) (Nat.le_refl _) (xd1Z _) (xemZ _) (xe8Z _)
  have htrap : ∀ why, OuterM m (trapM m why) := fun why => xf2Z m 3 why
  have hself : OuterM m m := xf2Z m m.status m.trap
  unfold doOp
  repeat' refine outer_ite ?_ ?_
  all_goals first
    | exact hput _
    | exact htrap _
    | exact hself
    | exact xf2Z m 1 m.trap
    | skip
  · cases p[o.2.toNat]? with
    | none => exact hself
    | some g => exact xdeZ hl (by simp) (by simp) (Nat.le_refl _) (xd1Z _) (xemZ _) (xe8Z _)
  · have hs := xcfZ hl
    have hlen : m.frames.length = m.frames.dropLast.length + 1 := by rw [hs]; simp
    cases hy : m.frames.dropLast.getLast? with
    | none =>
      have hd : m.frames.dropLast = [] := List.getLast?_eq_none_iff.1 hy
      rw [hd] at hlen
      exact ⟨by simp; simp at hlen; omega, by simp, by simp, xd1Z _, xemZ _, xe8Z _, fun i h => by simp at h hlen; omega⟩
    | some y =>
      have hs2 := xcfZ hy
      have hlen2 : m.frames.dropLast.length = m.frames.dropLast.dropLast.length + 1 := by rw [hs2]; simp
      refine ⟨by simp at hlen2 ⊢; omega, by simp at hlen2 ⊢; omega, by simp, xd1Z _, xemZ _, xe8Z _, fun i h => ?_⟩
      simp only [List.length_append, List.length_singleton] at h
      have hi2 : i < m.frames.dropLast.dropLast.length := by omega
      show (m.frames.dropLast.dropLast ++ _)[i]? = _
      rw [List.getElem?_append_left hi2]
      conv => rhs; rw [hs, hs2]
      rw [List.append_assoc, List.getElem?_append_left hi2]
  · exact xdeZ hl (ys := [_]) (by simp) (by simp) (by simp [newL]) (fun i b h => ⟨b, by unfold newL; rw [List.getElem?_append_left (xadZ h)]; exact h, rfl⟩) (xemZ _) (xe8Z _)
  · refine xdeZ hl (ys := [_]) (by simp) (by simp) (by simp [setL]) (fun i b h => ?_) (xemZ _) (xe8Z _)
    unfold setL
    by_cases hi : i = ((topV x.stk 2).2 - 1).toNat
    · refine ⟨_, by rw [hi, List.getElem?_set_self (by rw [← hi]; exact xadZ h)], ?_⟩
      rw [List.length_set, blkAt, ← hi, h]
      rfl
    · exact ⟨b, by rw [List.getElem?_set_ne (fun e => hi e.symm)]; exact h, rfl⟩
  · exact xdeZ hl (ys := [_]) (by simp) (by simp) (Nat.le_refl _) (xd1Z _) ⟨by simp, by simp⟩ (xe8Z _)
  · refine xdeZ hl (ys := [_]) (by simp) (by simp) (Nat.le_refl _) (xd1Z _) (xemZ _) ⟨by simp, ?_⟩
    cases hi : m.inp with
    | nil => simp
    | cons a r => simp
end Go.Proofs.YtmjjkenblfndgaaGreat


/- What Check says of a machine of a program that fits, plainly; nothing just if it is right. -/
namespace Go.Proofs.YtmjjkenblfndgaaGreat
open Go.RowKit
set_option linter.unusedSimpArgs false
set_option linter.unusedVariables false
def stErr (m : Mach) : Int := if m.status < 0 ∨ 3 < m.status then 6 else if (m.status = 3 ∧ (m.trap < 1 ∨ 5 < m.trap)) ∨ (m.status ≠ 3 ∧ m.trap ≠ 0) then 1 else 0
def xdaZ (m : Mach) : Int := if 10 < m.inp.length ∨ 10 < m.out.length then 2 else if (m.inp.all isI32 && m.out.all isI32) = true then 0 else 3
def xc3Z (m : Mach) : Int := if 6 < m.frames.length then 2 else if m.frames.length = 0 ∧ m.status ≠ 2 then 5 else if 0 < m.frames.length ∧ m.status = 2 then 1 else 0
def xb0Z (p : List Fn) (x : Frm) : Bool := decide (0 ≤ x.fn) && decide (x.fn < (p.length : Int))
def xccZ (p : List Fn) (m : Mach) : Int := if m.frames.all (xb0Z p) = false then 3 else match m.frames with
  | [] => 0
  | x :: _ => if x.fn ≠ 0 then 4 else 0
def xb5Z (e : Nat → Nat → Option (List Int)) (next : Option Int) (x : Frm) (k : Nat) (f : Fn) : Bool := match next with
  | none => decide (0 ≤ x.pc) && (e k x.pc.toNat).isSome
  | some g => decide (1 ≤ x.pc) && (e k (x.pc - 1).toNat).isSome && (f.2.2.2[(x.pc - 1).toNat]? == some (12, g))
def xcsZ (p : List Fn) (e : Nat → Nat → Option (List Int)) (next : Option Int) (x : Frm) (k : Nat) : List Int := match next with
  | none => (e k x.pc.toNat).getD []
  | some g => match p[g.toNat]? with
    | none => (e k x.pc.toNat).getD []
    | some h => if h.2.2.1 ≠ 0 then ((e k x.pc.toNat).getD []).dropLast else (e k x.pc.toNat).getD []
def xcaZ (p : List Fn) (e : Nat → Nat → Option (List Int)) (nb : Nat) (next : Option Int) (x : Frm) (k : Nat) (f : Fn) : Int :=
  if x.loc.length ≠ f.2.1.length then 1 else if (x.loc.all (okV nb) && x.stk.all (okV nb)) = false then 3 else if areOf x.loc f.2.1 = false then 6
  else if xb5Z e next x k f = false then 5 else if areOf x.stk (xcsZ p e next x k) = false then 4 else 0
def xbzZ (p : List Fn) (e : Nat → Nat → Option (List Int)) (nb : Nat) : List Frm → Int
  | [] => 0
  | x :: r => match p[x.fn.toNat]? with
    | none => 0
    | some f => if xcaZ p e nb (r.head?.map Frm.fn) x x.fn.toNat f ≠ 0 then xcaZ p e nb (r.head?.map Frm.fn) x x.fn.toNat f else xbzZ p e nb r
def xcbZ (p : List Fn) (m : Mach) : Option (Int × Int) := m.frames.getLast?.bind fun x => (p[x.fn.toNat]?).bind fun f => f.2.2.2[x.pc.toNat]?
def xesZ (p : List Fn) (m : Mach) : Int := if m.status ≠ 1 then 0 else match xcbZ p m with
  | none => 0
  | some o => if o.1 ≠ 21 ∨ 0 < m.inp.length then 4 else 0
def xexZ : List Int → Int
  | [] => 0
  | a :: r => if a ≠ 0 then a else xexZ r
def xi0Z (p : List Fn) (e : Nat → Nat → Option (List Int)) (m : Mach) : Int := xexZ [stErr m, blkErr m.blocks, xdaZ m, xc3Z m, xccZ p m, xbzZ p e m.blocks.length m.frames, xesZ p m]
theorem xi8Z {l : List Int} : xexZ l = 0 ↔ ∀ a ∈ l, a = 0 := by
  induction l with
  | nil => simp [xexZ]
  | cons a r ih =>
    unfold xexZ
    by_cases h : a = 0
    · rw [if_neg (by simpa using h), ih]; simp [h]
    · rw [if_pos h]; simp [h]
theorem xkzZ {p : List Fn} {e : Nat → Nat → Option (List Int)} (he : xaxZ p e) {k : Nat} {f : Fn} (hf : p[k]? = some f) {pc : Nat} {s0 : List Int} {g : Int} (hs : e k pc = some s0) (hc : f.2.2.2[pc]? = some (12, g)) : ∃ s, e k (pc + 1) = some s := by
  obtain ⟨o, out, h4, h5, h6⟩ := (he k f hf).1.on pc s0 hs
  rw [hc] at h4
  cases h4
  obtain ⟨_, s', h7, _⟩ := h6 (pc + 1) (xc6Z hc (by simp) (by simp))
  exact ⟨s', h7⟩
theorem fit_right {p : List Fn} {e : Nat → Nat → Option (List Int)} (he : xaxZ p e) {nb k : Nat} {f : Fn} {x : Frm} {next : Option Int} (hf : p[k]? = some f) (hx : x.fn = (k : Int)) (hn : ∀ g, next = some g → 0 ≤ g ∧ g < (p.length : Int)) : xcaZ p e nb next x k f = 0 ↔ RightF p e nb next x k f := by
  constructor
  · intro h
    unfold xcaZ at h
    split at h
    · cases h
    rename_i h1
    split at h
    · cases h
    rename_i h2
    split at h
    · cases h
    rename_i h3
    split at h
    · cases h
    rename_i h4
    split at h
    · cases h
    rename_i h5
    simp only [Bool.not_eq_false, Bool.and_eq_true, List.all_eq_true] at h2 h3 h4 h5
    refine ⟨hx, hf, h3, h2.1, h2.2, fun hnn => ?_, fun g hg => ?_⟩
    · subst hnn
      simp only [xb5Z, Bool.and_eq_true, decide_eq_true_eq, Option.isSome_iff_exists] at h4
      obtain ⟨h6, s, h7⟩ := h4
      refine ⟨x.pc.toNat, s, by omega, h7, ?_⟩
      simpa [xcsZ, h7] using h5
    · subst hg
      simp only [xb5Z, Bool.and_eq_true, decide_eq_true_eq, Option.isSome_iff_exists, beq_iff_eq] at h4
      obtain ⟨⟨h6, s0, h7⟩, h8⟩ := h4
      obtain ⟨s, h9⟩ := xkzZ he hf h7 h8
      obtain ⟨g0, g1⟩ := hn g rfl
      obtain ⟨h, hh⟩ := xagZ (l := p) (k := g.toNat) (by omega)
      have e1 : (x.pc - 1).toNat + 1 = x.pc.toNat := by omega
      refine ⟨(x.pc - 1).toNat, s0, s, h, by omega, g0, h7, h8, h9, hh, ?_⟩
      rw [e1] at h9
      simpa [xcsZ, hh, h9] using h5
  · intro h
    unfold xcaZ
    have h1 := xa6Z h.loc
    rw [if_neg (by simpa using h1)]
    have h2 : (x.loc.all (okV nb) && x.stk.all (okV nb)) = true := by
      rw [Bool.and_eq_true, List.all_eq_true, List.all_eq_true]
      exact ⟨h.okl, h.oks⟩
    rw [if_neg (by rw [h2]; decide), if_neg (by rw [h.loc]; decide)]
    cases next with
    | none =>
      obtain ⟨pc, s, h3, h4, h5⟩ := h.inner rfl
      have e1 : x.pc.toNat = pc := by omega
      rw [if_neg (by simp [xb5Z, e1, h4]; omega), if_neg (by simp [xcsZ, e1, h4, h5])]
    | some g =>
      obtain ⟨pc, s0, s, hh, h3, h4, h5, h6, h7, h8, h9⟩ := h.outer g rfl
      have e1 : x.pc.toNat = pc + 1 := by omega
      have e2 : (x.pc - 1).toNat = pc := by omega
      rw [if_neg (by simp [xb5Z, e2, h5, h6]; omega), if_neg]
      simp only [xcsZ, e1, h8, h7, Option.getD_some]
      rw [h9]
      decide
theorem head_at {α : Type} (l : List α) : l.head? = l[0]? := by cases l <;> rfl
theorem xd5Z {p : List Fn} {e : Nat → Nat → Option (List Int)} (he : xaxZ p e) {nb : Nat} : ∀ {F : List Frm}, F.all (xb0Z p) = true → (xbzZ p e nb F = 0 ↔ ∀ (i : Nat) (x : Frm), F[i]? = some x → ∃ k f, RightF p e nb ((F[i + 1]?).map Frm.fn) x k f)
  | [], _ => by simp [xbzZ]
  | x :: r, h => by
    simp only [List.all_cons, Bool.and_eq_true] at h
    obtain ⟨hx, hr⟩ := h
    have hx' := hx
    simp only [xb0Z, Bool.and_eq_true, decide_eq_true_eq] at hx
    obtain ⟨f, hf⟩ := xagZ (l := p) (k := x.fn.toNat) (by omega)
    have hn : ∀ g, r.head?.map Frm.fn = some g → 0 ≤ g ∧ g < (p.length : Int) := by
      intro g hg
      cases r with
      | nil => simp at hg
      | cons y q =>
        simp at hg
        subst hg
        simp only [List.all_cons, Bool.and_eq_true, xb0Z, decide_eq_true_eq] at hr
        exact hr.1
    have key := fit_right (nb := nb) he hf (x := x) (by omega) hn
    have ih := xd5Z (nb := nb) he hr
    unfold xbzZ
    rw [hf]
    simp only
    constructor
    · intro h
      by_cases h0 : xcaZ p e nb (r.head?.map Frm.fn) x x.fn.toNat f = 0
      · rw [if_neg (by simpa using h0)] at h
        intro i y hy
        cases i with
        | zero =>
          simp at hy
          subst hy
          refine ⟨x.fn.toNat, f, ?_⟩
          have := key.1 h0
          rw [head_at] at this
          simpa using this
        | succ i => simpa using ih.1 h i y (by simpa using hy)
      · rw [if_pos h0] at h
        exact absurd h h0
    · intro h
      obtain ⟨k, f', h1⟩ := h 0 x rfl
      have e1 : k = x.fn.toNat := by have := h1.fn; omega
      subst e1
      have e2 : f' = f := by have := h1.at_; rw [hf] at this; exact (Option.some.inj this).symm
      subst e2
      have h2 : xcaZ p e nb (r.head?.map Frm.fn) x x.fn.toNat f' = 0 := key.2 (by rw [head_at]; simpa using h1)
      rw [if_neg (by simpa using h2)]
      exact ih.2 fun i y hy => by simpa using h (i + 1) y (by simpa using hy)
theorem xkrZ {p : List Fn} {e : Nat → Nat → Option (List Int)} (he : xaxZ p e) {m : Mach} : xi0Z p e m = 0 ↔ RightM p e m := by
  unfold xi0Z
  rw [xi8Z]
  simp only [List.mem_cons, List.not_mem_nil, or_false, forall_eq_or_imp, forall_eq]
  constructor
  · rintro ⟨h1, h2, h3, h4, h5, h6, h7⟩
    have hst : 0 ≤ m.status ∧ m.status ≤ 3 ∧ ((m.status = 3 → 1 ≤ m.trap ∧ m.trap ≤ 5) ∧ (m.status ≠ 3 → m.trap = 0)) := by
      unfold stErr at h1
      split at h1
      · cases h1
      split at h1
      · cases h1
      omega
    have hbx : (m.inp.length ≤ 10 ∧ ∀ n ∈ m.inp, isI32 n = true) ∧ (m.out.length ≤ 10 ∧ ∀ n ∈ m.out, isI32 n = true) := by
      unfold xdaZ at h3
      split at h3
      · cases h3
      split at h3
      · rename_i a b
        simp only [Bool.and_eq_true, List.all_eq_true] at b
        exact ⟨⟨by omega, b.1⟩, ⟨by omega, b.2⟩⟩
      · cases h3
    have hdp : m.frames.length ≤ 6 ∧ (m.frames = [] ↔ m.status = 2) := by
      unfold xc3Z at h4
      rw [← List.length_eq_zero_iff]
      split at h4
      · cases h4
      split at h4
      · cases h4
      split at h4
      · cases h4
      omega
    have hfa : m.frames.all (xb0Z p) = true ∧ ∀ x, m.frames[0]? = some x → x.fn = 0 := by
      unfold xccZ at h5
      split at h5
      · cases h5
      rename_i a
      refine ⟨by simpa using a, fun x hx => ?_⟩
      cases hm : m.frames with
      | nil => rw [hm] at hx; simp at hx
      | cons y r =>
        rw [hm] at hx h5
        simp at hx h5
        subst hx
        exact h5
    refine ⟨⟨hst.1, hst.2.1⟩, hst.2.2, h2, hbx.1, hbx.2, hdp, hfa.2, (xd5Z he hfa.1).1 h6, fun hw => ?_⟩
    unfold xesZ at h7
    rw [if_neg (by simpa using hw)] at h7
    have hne : m.frames ≠ [] := fun h0 => by have := hdp.2.1 h0; omega
    obtain ⟨x, hx⟩ : ∃ x, m.frames.getLast? = some x := ⟨_, List.getLast?_eq_some_getLast hne⟩
    have hi : m.frames[m.frames.length - 1]? = some x := by rw [← hx, List.getLast?_eq_getElem?]
    obtain ⟨k, f, hr⟩ := (xd5Z he hfa.1).1 h6 _ x hi
    rw [show m.frames[m.frames.length - 1 + 1]? = none from List.getElem?_eq_none (by omega)] at hr
    obtain ⟨pc, s, o, out, g1, g2, g3, g4, _⟩ := xfaZ he hr
    have hk : x.fn.toNat = k := by have := hr.fn; omega
    have hlo : xcbZ p m = some o := by
      unfold xcbZ
      rw [hx]
      simp only [Option.bind_some, hk, hr.at_]
      rw [show x.pc.toNat = pc by omega]
      exact g4
    rw [hlo] at h7
    simp only at h7
    split at h7
    · cases h7
    rename_i a
    refine ⟨List.length_eq_zero_iff.1 (by omega), x, k, f, o, hx, hr.fn, hr.at_, by rw [show x.pc.toNat = pc by omega]; exact g4, by omega⟩
  · intro h
    have hfa : m.frames.all (xb0Z p) = true := by
      rw [List.all_eq_true]
      intro x hx
      obtain ⟨i, hi⟩ := List.getElem?_of_mem hx
      obtain ⟨k, f, hr⟩ := h.each i x hi
      have := xadZ hr.at_
      have := hr.fn
      simp [xb0Z]
      omega
    refine ⟨?_, h.blocks, ?_, ?_, ?_, (xd5Z he hfa).2 h.each, ?_⟩
    · unfold stErr
      have := h.status
      have := h.trap
      rw [if_neg (by omega), if_neg (by omega)]
    · unfold xdaZ
      have a := h.inp
      have b := h.out
      rw [if_neg (by omega), if_pos]
      rw [Bool.and_eq_true, List.all_eq_true, List.all_eq_true]
      exact ⟨a.2, b.2⟩
    · unfold xc3Z
      have := h.depth
      rw [← List.length_eq_zero_iff] at this
      rw [if_neg (by omega), if_neg (by omega), if_neg (by omega)]
    · unfold xccZ
      rw [if_neg (by rw [hfa]; decide)]
      cases hm : m.frames with
      | nil => rfl
      | cons x r =>
        simp only
        rw [if_neg]
        simpa using h.first x (by rw [hm]; rfl)
    · unfold xesZ
      by_cases hw : m.status = 1
      · rw [if_neg (by simpa using hw)]
        obtain ⟨h1, x, k, f, o, h2, h3, h4, h5, h6⟩ := h.wait hw
        have hlo : xcbZ p m = some o := by
          unfold xcbZ
          rw [h2]
          simp only [Option.bind_some, show x.fn.toNat = k by omega, h4, h5]
        rw [hlo]
        simp only
        rw [if_neg]
        rw [h1]
        simp [h6]
      · rw [if_pos hw]
end Go.Proofs.YtmjjkenblfndgaaGreat


/- What Check, Start and Step of machines answer, plainly. -/
namespace Go.Proofs.YtmjjkenblfndgaaGreat
open Go.RowKit
set_option linter.unusedSimpArgs false
set_option linter.unusedVariables false
open Classical in
/-- the entries of all functions, if the program fits. -/
noncomputable def entP (p : List Fn) : Nat → Nat → Option (List Int) := if h : ∃ e, xaxZ p e then Classical.choose h else fun _ _ => none
theorem entP_fit {p : List Fn} (h : ∃ e, xaxZ p e) : xaxZ p (entP p) := by
  unfold entP
  rw [dif_pos h]
  exact Classical.choose_spec h
open Classical in
noncomputable def fitsE (p : List Fn) : Int := if xanZ p ≠ 0 then xanZ p else if ∃ e, xaxZ p e then 0 else 4
theorem allFit_of {p : List Fn} (h : ∀ f ∈ p, ∃ e, Least p f (some e)) : ∃ e, xaxZ p e := by
  have each : ∀ k : Nat, ∃ e : Nat → Option (List Int), ∀ f, p[k]? = some f → Least p f (some e) := fun k => by
    cases hk : p[k]? with
    | none => exact ⟨fun _ => none, fun f hf => by cases hf⟩
    | some f =>
      obtain ⟨e, he⟩ := h f (List.mem_of_getElem? hk)
      exact ⟨e, fun g hg => by cases hg; exact he⟩
  exact ⟨fun k => Classical.choose (each k), fun k f hf => Classical.choose_spec (each k) f hf⟩
theorem xe2Z {p : List Fn} {er : Int} (h : ProgIs p er) : er = fitsE p := by
  unfold fitsE
  rcases h with ⟨a1, a2⟩ | ⟨a1, a2, a3⟩ | ⟨a1, a2, f, hf, hl⟩
  · rw [if_pos a1, a2]
  · rw [if_neg (by simp [a1]), if_pos (allFit_of a3), a2]
  · rw [if_neg (by simp [a1]), if_neg, a2]
    rintro ⟨e, he⟩
    obtain ⟨k, hk⟩ := List.getElem?_of_mem hf
    exact absurd (xmbZ hl (he k f hk)) (by simp)
theorem xdkZ {p : List Fn} : fitsE p = 0 ↔ xanZ p = 0 ∧ xaxZ p (entP p) := by
  unfold fitsE
  constructor
  · intro h
    split at h
    · rename_i h1; exact absurd h h1
    · rename_i h1
      split at h
      · rename_i h2; exact ⟨by simpa using h1, entP_fit h2⟩
      · cases h
  · rintro ⟨h1, h2⟩
    rw [if_neg (by simp [h1]), if_pos ⟨_, h2⟩]
noncomputable def xblZ (p : List Fn) (M : Mach) : Int := if fitsE p ≠ 0 then fitsE p else xi0Z p (entP p) M
theorem xfiZ {p : List Fn} {M : Mach} : xblZ p M = 0 ↔ xanZ p = 0 ∧ xaxZ p (entP p) ∧ RightM p (entP p) M := by
  unfold xblZ
  constructor
  · intro h
    split at h
    · rename_i h1; exact absurd h h1
    · rename_i h1
      obtain ⟨h2, h3⟩ := xdkZ.1 (by simpa using h1)
      exact ⟨h2, h3, (xkrZ h3).1 h⟩
  · rintro ⟨h1, h2, h3⟩
    rw [if_neg (by simp [xdkZ.2 ⟨h1, h2⟩])]
    exact (xkrZ h2).2 h3
def zeroM : Mach := ⟨[], [], [], [], 0, 0⟩
def xfrZ (p : List Fn) : Mach := { zeroM with frames := [{ fn := 0, pc := 0, loc := xa7Z ((p[0]?.map fun f => f.2.1).getD []), stk := [] }] }
def stepM (p : List Fn) (m : Mach) : Mach := if m.status = 0 ∨ m.status = 1 then (match m.frames.getLast?, xcbZ p m with
    | some x, some o => doOp p m x o
    | _, _ => m) else m
theorem lastOp_mk {p : List Fn} {m : Mach} {x : Frm} {k : Nat} {f : Fn} {o : Int × Int} (hx : m.frames.getLast? = some x) (hk : x.fn = (k : Int)) (hf : p[k]? = some f) (ho : f.2.2.2[x.pc.toNat]? = some o) : xcbZ p m = some o := by
  unfold xcbZ
  rw [hx]
  simp only [Option.bind_some, hk, Int.toNat_natCast, hf]
  exact ho
theorem xi1Z {p : List Fn} {e : Nat → Nat → Option (List Int)} {m : Mach} (hp : xanZ p = 0) (he : xaxZ p e) (h : RightM p e m) (hs : m.status = 0 ∨ m.status = 1) : ∃ (x : Frm) (k : Nat) (f : Fn) (o : Int × Int), m.frames.getLast? = some x ∧ x.fn = (k : Int) ∧ p[k]? = some f ∧ 0 ≤ x.pc ∧ f.2.2.2[x.pc.toNat]? = some o ∧ xcbZ p m = some o ∧ stepM p m = doOp p m x o ∧ RightM p e (doOp p m x o) := by
  obtain ⟨x, k, f, o, h1, h2, h3, h4, h5, h6⟩ := right_step hp he h hs
  have hl := lastOp_mk h1 h2 h3 h5
  refine ⟨x, k, f, o, h1, h2, h3, h4, h5, hl, ?_, h6⟩
  unfold stepM
  rw [if_pos hs, h1, hl]
theorem xg2Z {p : List Fn} {e : Nat → Nat → Option (List Int)} {m : Mach} (hp : xanZ p = 0) (he : xaxZ p e) (h : RightM p e m) : RightM p e (stepM p m) := by
  by_cases hs : m.status = 0 ∨ m.status = 1
  · obtain ⟨x, k, f, o, _, _, _, _, _, _, h1, h2⟩ := xi1Z hp he h hs
    rw [h1]
    exact h2
  · unfold stepM
    rw [if_neg hs]
    exact h
theorem xp9Z {p : List Fn} {e : Nat → Nat → Option (List Int)} {m : Mach} (hp : xanZ p = 0) (he : xaxZ p e) (h : RightM p e m) : OuterM m (stepM p m) := by
  by_cases hs : m.status = 0 ∨ m.status = 1
  · obtain ⟨x, k, f, o, h0, _, _, _, _, _, h1, h2⟩ := xi1Z hp he h hs
    rw [h1]
    exact outer_step h0
  · unfold stepM
    rw [if_neg hs]
    exact xf2Z m m.status m.trap
theorem xinZ {p : List Fn} {e : Nat → Nat → Option (List Int)} (hp : xanZ p = 0) (he : xaxZ p e) : ∃ f, p[0]? = some f ∧ xfrZ p = { zeroM with frames := [{ fn := 0, pc := 0, loc := xa7Z f.2.1, stk := [] }] } ∧ RightM p e (xfrZ p) := by
  obtain ⟨h1, h2, _⟩ := xe1Z hp
  obtain ⟨f, hf⟩ := xagZ (l := p) (k := 0) (by omega)
  have hs : xfrZ p = { zeroM with frames := [{ fn := 0, pc := 0, loc := xa7Z f.2.1, stk := [] }] } := by simp [xfrZ, hf]
  refine ⟨f, hf, hs, ?_⟩
  rw [hs]
  refine ⟨by simp [zeroM], by simp [zeroM], (by show blkErr [] = 0; decide), by simp [zeroM], by simp [zeroM], by simp [zeroM], fun x hx => ?_, fun i x hx => ?_, fun hw => by simp [zeroM] at hw⟩
  · simp at hx
    subst hx
    rfl
  · cases i with
    | succ i => simp at hx
    | zero =>
      simp at hx
      subst hx
      refine ⟨0, f, rfl, hf, xgzZ f.2.1 (okFn hp (List.mem_of_getElem? hf)).loc, fun v hv => fresh_ok hv, fun v hv => by simp at hv, fun _ => ⟨0, [], rfl, (he 0 f hf).1.first, rfl⟩, fun g hg => by simp at hg⟩
end Go.Proofs.YtmjjkenblfndgaaGreat


/- Fuel, plainly (chapter 7): a run is steps, each paid. -/
namespace Go.Proofs.YtmjjkenblfndgaaGreat
open Go.RowKit
set_option linter.unusedSimpArgs false
set_option linter.unusedVariables false
def costM (c : Int) : Int := if c = 14 then 3 else if c = 12 then 2 else 1
theorem costM_le (c : Int) : 1 ≤ costM c ∧ costM c ≤ 3 := by
  unfold costM
  split
  · omega
  · split <;> omega
abbrev MF := Mach × Int
def pay (p : List Fn) (s : MF) : Option MF := match xcbZ p s.1 with
  | none => none
  | some o => if s.2 < costM o.1 then none else some (stepM p s.1, s.2 - costM o.1)
inductive Ends (p : List Fn) : MF → MF → Prop
  | stop {s : MF} (h : s.1.status ≠ 0) : Ends p s s
  | poor {s : MF} (h : pay p s = none) : Ends p s s
  | on {s s' t : MF} (h0 : s.1.status = 0) (h : pay p s = some s') (ht : Ends p s' t) : Ends p s t
theorem xhmZ {p : List Fn} {s s' : MF} (h : pay p s = some s') : 0 ≤ s'.2 ∧ s'.2 + 1 ≤ s.2 ∧ s'.1 = stepM p s.1 := by
  unfold pay at h
  cases hl : xcbZ p s.1 with
  | none => rw [hl] at h; cases h
  | some o =>
    rw [hl] at h
    simp only at h
    have := costM_le o.1
    split at h
    · cases h
    · cases h
      exact ⟨by simp only; omega, by simp only; omega, rfl⟩
theorem ends_one {p : List Fn} {s t u : MF} (h : Ends p s t) (k : Ends p s u) : t = u := by
  induction h with
  | stop h => cases k with
    | stop _ => rfl
    | poor _ => rfl
    | on h0 _ _ => exact absurd h0 h
  | poor h => cases k with
    | stop _ => rfl
    | poor _ => rfl
    | on _ h1 _ => rw [h] at h1; cases h1
  | on h0 h _ ih => cases k with
    | stop h1 => exact absurd h0 h1
    | poor h1 => rw [h] at h1; cases h1
    | on _ h1 h2 =>
      rw [h] at h1
      cases h1
      exact ih h2
theorem xppZ {p : List Fn} {s t : MF} (h : Ends p s t) (h0 : 0 ≤ s.2) : 0 ≤ t.2 ∧ t.2 ≤ s.2 := by
  induction h with
  | stop _ => exact ⟨h0, Int.le_refl _⟩
  | poor _ => exact ⟨h0, Int.le_refl _⟩
  | on _ h _ ih =>
    obtain ⟨h1, h2, _⟩ := xhmZ h
    have := ih h1
    omega
theorem ends_right {p : List Fn} {e : Nat → Nat → Option (List Int)} {s t : MF} (hp : xanZ p = 0) (he : xaxZ p e) (h : Ends p s t) (hr : RightM p e s.1) : RightM p e t.1 := by
  induction h with
  | stop _ => exact hr
  | poor _ => exact hr
  | on _ h _ ih =>
    obtain ⟨_, _, h3⟩ := xhmZ h
    exact ih (by rw [h3]; exact xg2Z hp he hr)
def FartherM (m n : Mach) : Prop := m.out <+: n.out ∧ n.inp.length ≤ m.inp.length
theorem xgbZ (m : Mach) : FartherM m m := ⟨List.prefix_rfl, Nat.le_refl _⟩
theorem FartherM.trans {a b c : Mach} (h : FartherM a b) (k : FartherM b c) : FartherM a c := ⟨h.1.trans k.1, Nat.le_trans k.2 h.2⟩
theorem xm2Z {m n : Mach} (h : OuterM m n) : FartherM m n := ⟨by rw [← h.out.2]; exact List.take_prefix _ _, h.inp.1⟩
theorem xn1Z {p : List Fn} {e : Nat → Nat → Option (List Int)} {s t : MF} (hp : xanZ p = 0) (he : xaxZ p e) (h : Ends p s t) (hr : RightM p e s.1) : FartherM s.1 t.1 := by
  induction h with
  | stop _ => exact xgbZ _
  | poor _ => exact xgbZ _
  | on _ h _ ih =>
    obtain ⟨_, _, h3⟩ := xhmZ h
    have h4 := xm2Z (xp9Z hp he hr)
    rw [← h3] at h4
    exact h4.trans (ih (by rw [h3]; exact xg2Z hp he hr))
def xg4Z (p : List Fn) (m : Mach) (f : Int) : MF := if m.status = 1 then (pay p (m, f)).getD (m, f) else (m, f)
def RunIs (p : List Fn) (m : Mach) (f : Int) (t : MF) : Prop := Ends p (xg4Z p m f) t
theorem xmkZ {p : List Fn} {m : Mach} {f : Int} {t u : MF} (h : RunIs p m f t) (k : RunIs p m f u) : t = u := ends_one h k
theorem xfoZ {p : List Fn} {m : Mach} {f : Int} (h : m.status ≠ 1) : xg4Z p m f = (m, f) := by simp [xg4Z, h]
theorem waits_pay {p : List Fn} {e : Nat → Nat → Option (List Int)} {m : Mach} {f : Int} (hp : xanZ p = 0) (he : xaxZ p e) (hr : RightM p e m) (h1 : m.status = 1) : pay p (m, f) = if f < 1 then none else some (m, f - 1) := by
  obtain ⟨x, k, fn, o, a1, a2, a3, a4, a5, a6, a7, a8⟩ := xi1Z hp he hr (.inr h1)
  obtain ⟨w1, x', k', f', o', w2, w3, w4, w5, w6⟩ := hr.wait h1
  rw [a1] at w2
  cases w2
  have e1 : k = k' := by omega
  subst e1
  rw [a3] at w4
  cases w4
  rw [a5] at w5
  cases w5
  have hs : stepM p m = m := by
    rw [a7]
    have : doOp p m x o = { m with status := 1 } := by simp [doOp, w6, w1]
    rw [this, ← h1]
  unfold pay
  simp only
  rw [a6]
  simp only [hs, show costM o.1 = 1 by rw [w6]; decide]
theorem xi9Z {p : List Fn} {e : Nat → Nat → Option (List Int)} {m : Mach} {f : Int} (hp : xanZ p = 0) (he : xaxZ p e) (hr : RightM p e m) (h1 : m.status = 1) : xg4Z p m f = (m, if f < 1 then f else f - 1) := by
  unfold xg4Z
  rw [if_pos h1, waits_pay hp he hr h1]
  split <;> simp [*]
theorem run_wait {p : List Fn} {e : Nat → Nat → Option (List Int)} {m : Mach} {f : Int} {t : MF} (hp : xanZ p = 0) (he : xaxZ p e) (hr : RightM p e m) (h1 : m.status = 1) (h : RunIs p m f t) : t = (m, if f < 1 then f else f - 1) := by
  unfold RunIs at h
  rw [xi9Z hp he hr h1] at h
  exact ends_one h (.stop (by simp [h1]))
theorem xmlZ {p : List Fn} {e : Nat → Nat → Option (List Int)} {m : Mach} {f : Int} {t : MF} (hp : xanZ p = 0) (he : xaxZ p e) (hr : RightM p e m) (h0 : 0 ≤ f) (h : RunIs p m f t) : RightM p e t.1 ∧ 0 ≤ t.2 ∧ t.2 ≤ f ∧ FartherM m t.1 := by
  by_cases h1 : m.status = 1
  · have := run_wait hp he hr h1 h
    subst this
    refine ⟨hr, ?_, ?_, xgbZ _⟩ <;> simp only <;> split <;> omega
  · unfold RunIs at h
    rw [xfoZ h1] at h
    have := xppZ h h0
    exact ⟨ends_right hp he h hr, this.1, this.2, xn1Z hp he h hr⟩
end Go.Proofs.YtmjjkenblfndgaaGreat


/- Machines side by side, plainly (chapter 9): mail, a turn, what is sent. -/
namespace Go.Proofs.YtmjjkenblfndgaaGreat
open Go.RowKit
set_option linter.unusedSimpArgs false
set_option linter.unusedVariables false
def giveM (m : Mach) (l : List Int) : Mach := { m with inp := m.inp ++ l, status := if m.status = 1 ∧ l ≠ [] then 0 else m.status }
def leftM (m : Mach) (k : Nat) : Mach := { m with out := m.out.drop k }
def nextW (L i : Nat) : Nat := (i + 1) % L
def xa4Z (W : List Mach) (i : Nat) : Nat := match W[i]?, W[nextW W.length i]? with
  | some a, some b => min a.out.length (10 - b.inp.length)
  | _, _ => 0
def outAt (W : List Mach) (i : Nat) : List Int := ((W[i]?).map Mach.out).getD []
def xf9Z (W : List Mach) (i : Nat) : List Mach := (W.modify (nextW W.length i) fun m => giveM m ((outAt W i).take (xa4Z W i))).modify i fun m => leftM m (xa4Z W i)
def xbhZ (W : List Mach) : Nat → List Mach
  | 0 => W
  | n + 1 => xf9Z (xbhZ W n) n
def wentN (W : List Mach) : Nat → Nat
  | 0 => 0
  | n + 1 => wentN W n + xa4Z (xbhZ W n) n
def mailW (W : List Mach) : List Mach := xbhZ W W.length
def wentW (W : List Mach) : Nat := wentN W W.length
theorem xmzZ (W : List Mach) (i : Nat) : (xf9Z W i).length = W.length := by simp [xf9Z]
theorem xekZ (W : List Mach) (n : Nat) : (xbhZ W n).length = W.length := by
  induction n with
  | zero => rfl
  | succ n ih => rw [xbhZ, xmzZ, ih]
def predW (L j : Nat) : Nat := if j = 0 then L - 1 else j - 1
theorem xmeZ {L j : Nat} (h : j < L) : nextW L (predW L j) = j := by
  unfold nextW predW
  by_cases h0 : j = 0
  · rw [if_pos h0, show L - 1 + 1 = L by omega, Nat.mod_self, h0]
  · rw [if_neg h0, show j - 1 + 1 = j by omega, Nat.mod_eq_of_lt h]
theorem xgtZ {L i : Nat} (h : i < L) : predW L (nextW L i) = i := by
  unfold nextW predW
  by_cases h0 : i + 1 = L
  · rw [h0, Nat.mod_self, if_pos rfl]; omega
  · rw [Nat.mod_eq_of_lt (by omega), if_neg (by omega)]; omega
theorem xf5Z {L i : Nat} (h : 0 < L) : nextW L i < L := Nat.mod_lt _ h
theorem pred_lt {L j : Nat} (h : j < L) : predW L j < L := by unfold predW; split <;> omega
theorem pred_eq {L i j : Nat} (hi : i < L) (hj : j < L) : predW L j = i ↔ j = nextW L i :=
  ⟨fun h => by rw [← h, xmeZ hj], fun h => by rw [h, xgtZ hi]⟩
def mixAt (W : List Mach) (n j : Nat) (m : Mach) : Mach :=
  let m1 := if predW W.length j < n then giveM m ((outAt W (predW W.length j)).take (xa4Z W (predW W.length j))) else m
  if j < n then leftM m1 (xa4Z W j) else m1
theorem mix_out {W : List Mach} {n j : Nat} {m : Mach} (h : n ≤ j) : (mixAt W n j m).out = m.out := by
  unfold mixAt
  simp only
  rw [if_neg (by omega)]
  split <;> rfl
theorem mix_inp {W : List Mach} {n j : Nat} {m : Mach} (h : n ≤ predW W.length j) : (mixAt W n j m).inp = m.inp := by
  unfold mixAt
  simp only
  rw [if_neg (show ¬ predW W.length j < n by omega)]
  split <;> rfl
theorem xenZ (W : List Mach) : ∀ (n : Nat), n ≤ W.length → (∀ (j : Nat) (m : Mach), W[j]? = some m → (xbhZ W n)[j]? = some (mixAt W n j m)) ∧ ∀ i, i < n → xa4Z (xbhZ W i) i = xa4Z W i
  | 0, _ => ⟨fun j m h => by simpa [xbhZ, mixAt] using h, fun i hi => by omega⟩
  | n + 1, hn => by
    obtain ⟨ih, ihm⟩ := xenZ W n (by omega)
    obtain ⟨a, ha⟩ : ∃ a, W[n]? = some a := ⟨W[n], List.getElem?_eq_getElem (by omega)⟩
    have hnl : nextW W.length n < W.length := xf5Z (by omega)
    obtain ⟨b, hb⟩ : ∃ b, W[nextW W.length n]? = some b := ⟨W[nextW W.length n], List.getElem?_eq_getElem hnl⟩
    have ha' := ih n a ha
    have hb' := ih _ b hb
    have hpn : predW W.length (nextW W.length n) = n := xgtZ (by omega)
    have hk : xa4Z (xbhZ W n) n = xa4Z W n := by
      unfold xa4Z
      rw [xekZ, ha', hb', ha, hb]
      simp only
      rw [mix_out (Nat.le_refl n), mix_inp (by omega)]
    have ho : outAt (xbhZ W n) n = outAt W n := by
      unfold outAt
      rw [ha', ha]
      simp only [Option.map_some, Option.getD_some]
      exact mix_out (Nat.le_refl n)
    refine ⟨fun j m hj => ?_, fun i hi => ?_⟩
    · have hjl : j < W.length := by
        rcases Nat.lt_or_ge j W.length with h | h
        · exact h
        · rw [List.getElem?_eq_none h] at hj; cases hj
      have hj' := ih j m hj
      have hp := pred_eq (L := W.length) (i := n) (j := j) (by omega) hjl
      show (xf9Z (xbhZ W n) n)[j]? = _
      unfold xf9Z
      rw [xekZ, hk, ho, List.getElem?_modify, List.getElem?_modify, hj']
      by_cases hjn : nextW W.length n = j
      · have hpj : predW W.length j = n := hp.2 hjn.symm
        have e1 : mixAt W n j m = if j < n then leftM m (xa4Z W j) else m := by
          unfold mixAt; simp only; rw [hpj, if_neg (Nat.lt_irrefl n)]
        have e2 : mixAt W (n + 1) j m = if j < n + 1 then leftM (giveM m ((outAt W n).take (xa4Z W n))) (xa4Z W j) else giveM m ((outAt W n).take (xa4Z W n)) := by
          unfold mixAt; simp only; rw [hpj, if_pos (Nat.lt_succ_self n)]
        rw [e1, e2]
        show some _ = some _
        simp only [if_pos hjn]
        by_cases h1 : j < n
        · have h3 : ¬ n = j := by omega
          have h4 : j < n + 1 := by omega
          simp only [if_pos h1, if_pos h4, if_neg h3]; rfl
        · by_cases h2 : n = j
          · subst h2; simp only [if_neg h1, if_pos (Nat.lt_succ_self n), if_true]
          · have h4 : ¬ j < n + 1 := by omega
            simp only [if_neg h1, if_neg h4, if_neg h2]
      · have hpj : predW W.length j ≠ n := fun h => hjn (hp.1 h).symm
        simp only [if_neg hjn]
        have e2 : mixAt W (n + 1) j m = if n = j then leftM (mixAt W n j m) (xa4Z W n) else mixAt W n j m := by
          unfold mixAt
          simp only
          have e3 : (predW W.length j < n + 1) = (predW W.length j < n) := propext (by omega)
          by_cases h2 : n = j
          · subst h2
            simp only [e3, if_pos (Nat.lt_succ_self n), if_neg (Nat.lt_irrefl n), if_true]
          · rw [if_neg h2]
            have e4 : (j < n + 1) = (j < n) := propext (by omega)
            simp only [e3, e4]
        rw [e2]
        by_cases h2 : n = j
        · simp only [if_pos h2]; rfl
        · simp only [if_neg h2]; rfl
    · by_cases hin : i = n
      · subst hin; exact hk
      · exact ihm i (by omega)
theorem xhhZ {W : List Mach} {j : Nat} {m : Mach} (h : W[j]? = some m) : (mailW W)[j]? = some (leftM (giveM m ((outAt W (predW W.length j)).take (xa4Z W (predW W.length j)))) (xa4Z W j)) := by
  have hjl : j < W.length := by
    rcases Nat.lt_or_ge j W.length with h' | h'
    · exact h'
    · rw [List.getElem?_eq_none h'] at h; cases h
  have := (xenZ W W.length (Nat.le_refl _)).1 j m h
  unfold mailW
  rw [this]
  unfold mixAt
  simp only
  rw [if_pos hjl, if_pos (pred_lt hjl)]
theorem xd8Z (W : List Mach) : (mailW W).length = W.length := xekZ W _
theorem xhlZ {W : List Mach} {i : Nat} {a : Mach} (h : W[i]? = some a) : outAt W i = a.out := by simp [outAt, h]
theorem xeiZ {W : List Mach} {i : Nat} {a b : Mach} (ha : W[i]? = some a) (hb : W[nextW W.length i]? = some b) : xa4Z W i = min a.out.length (10 - b.inp.length) := by simp [xa4Z, ha, hb]
theorem xmdZ {W : List Mach} {i : Nat} {a b : Mach} (ha : W[i]? = some a) (hb : W[nextW W.length i]? = some b) (h10 : b.inp.length ≤ 10) : ∃ a' b' : Mach, (mailW W)[i]? = some a' ∧ (mailW W)[nextW W.length i]? = some b' ∧ b'.inp ++ a'.out = b.inp ++ a.out ∧ (a'.out ≠ [] → b'.inp.length = 10) ∧ a.out.length = a'.out.length + xa4Z W i := by
  have hil : i < W.length := by
    rcases Nat.lt_or_ge i W.length with h' | h'
    · exact h'
    · rw [List.getElem?_eq_none h'] at ha; cases ha
  have hk := xeiZ ha hb
  have e1 := xhhZ ha
  have e2 := xhhZ hb
  rw [xgtZ hil, xhlZ ha] at e2
  refine ⟨_, _, e1, e2, ?_, fun hne => ?_, ?_⟩
  · show (b.inp ++ a.out.take (xa4Z W i)) ++ a.out.drop (xa4Z W i) = _
    rw [List.append_assoc, List.take_append_drop]
  · have hne' : a.out.drop (xa4Z W i) ≠ [] := hne
    have : xa4Z W i < a.out.length := by
      rcases Nat.lt_or_ge (xa4Z W i) a.out.length with h | h
      · exact h
      · exact absurd (List.drop_of_length_le h) hne'
    show (b.inp ++ a.out.take (xa4Z W i)).length = 10
    rw [List.length_append, List.length_take]
    omega
  · show a.out.length = (a.out.drop (xa4Z W i)).length + _
    rw [List.length_drop]
    omega
theorem xmvZ (W : List Mach) : ∀ n, n ≤ W.length → wentN W n = ((List.range n).map (xa4Z W)).sum
  | 0, _ => rfl
  | n + 1, h => by
    rw [wentN, xmvZ W n (by omega), (xenZ W (n + 1) h).2 n (by omega), List.range_succ]
    simp
theorem give_nil (m : Mach) : giveM m [] = m := by simp [giveM]
theorem left_zero (m : Mach) : leftM m 0 = m := by simp [leftM]
theorem mail_again {W : List Mach} (h10 : ∀ m ∈ W, m.inp.length ≤ 10) : (∀ i, xa4Z (mailW W) i = 0) ∧ mailW (mailW W) = mailW W ∧ wentW (mailW W) = 0 := by
  have hk : ∀ i, xa4Z (mailW W) i = 0 := fun i => by
    by_cases hi : i < W.length
    · obtain ⟨a, ha⟩ : ∃ a, W[i]? = some a := ⟨W[i], List.getElem?_eq_getElem hi⟩
      have hnl : nextW W.length i < W.length := xf5Z (by omega)
      obtain ⟨b, hb⟩ : ∃ b, W[nextW W.length i]? = some b := ⟨_, List.getElem?_eq_getElem hnl⟩
      obtain ⟨a', b', h1, h2, _, h3, _⟩ := xmdZ ha hb (h10 b (List.mem_of_getElem? hb))
      rw [xeiZ h1 (by rw [xd8Z]; exact h2)]
      by_cases h0 : a'.out = []
      · simp [h0]
      · rw [h3 h0]; simp
    · unfold xa4Z
      rw [List.getElem?_eq_none (by rw [xd8Z]; omega)]
  refine ⟨hk, ?_, ?_⟩
  · apply List.ext_getElem?
    intro j
    cases hj : (mailW W)[j]? with
    | none =>
      rw [List.getElem?_eq_none_iff] at hj ⊢
      rw [xd8Z]; exact hj
    | some m =>
      rw [xhhZ hj, hk, hk, List.take_zero, give_nil, left_zero]
  · unfold wentW
    rw [xmvZ _ _ (Nat.le_refl _)]
    have : (List.range (mailW W).length).map (xa4Z (mailW W)) = (List.range (mailW W).length).map fun _ => 0 := List.map_congr_left fun i _ => hk i
    rw [this]
    generalize List.range (mailW W).length = l
    induction l with
    | nil => rfl
    | cons a r ih => rw [List.map_cons, List.sum_cons, ih]
theorem xk4Z {p : List Fn} {e : Nat → Nat → Option (List Int)} {m : Mach} {l : List Int} (h : RightM p e m) (hl : m.inp.length + l.length ≤ 10) (hn : ∀ n ∈ l, isI32 n = true) : RightM p e (giveM m l) := by
  have hi : (m.inp ++ l).length ≤ 10 ∧ ∀ n ∈ m.inp ++ l, isI32 n = true := ⟨by simpa using hl, fun n hm => by
    rcases List.mem_append.1 hm with hm | hm
    · exact h.inp.2 n hm
    · exact hn n hm⟩
  by_cases hc : m.status = 1 ∧ l ≠ []
  · have e1 : giveM m l = { m with inp := m.inp ++ l, status := 0 } := by simp [giveM, hc]
    rw [e1]
    refine ⟨by simp, ⟨fun h3 => by simp at h3, fun _ => h.trap.2 (by omega)⟩, h.blocks, hi, h.out, ⟨h.depth.1, ?_⟩, h.first, h.each, fun hw => by simp at hw⟩
    have := h.depth.2
    simp only
    constructor
    · intro h0; have := this.1 h0; omega
    · intro h0; cases h0
  · have e1 : giveM m l = { m with inp := m.inp ++ l } := by simp [giveM, hc]
    rw [e1]
    refine ⟨h.status, h.trap, h.blocks, hi, h.out, h.depth, h.first, h.each, fun hw => ?_⟩
    have hl0 : l = [] := by
      by_cases hl0 : l = []
      · exact hl0
      · exact absurd ⟨hw, hl0⟩ hc
    obtain ⟨h1, h2⟩ := h.wait hw
    exact ⟨by simp [hl0, h1], h2⟩
theorem right_left {p : List Fn} {e : Nat → Nat → Option (List Int)} {m : Mach} (k : Nat) (h : RightM p e m) : RightM p e (leftM m k) :=
  ⟨h.status, h.trap, h.blocks, h.inp, ⟨by show (m.out.drop k).length ≤ 10; rw [List.length_drop]; have := h.out.1; omega, fun n hn => h.out.2 n (List.mem_of_mem_drop hn)⟩, h.depth, h.first, h.each, h.wait⟩
theorem xhrZ {p : List Fn} {e : Nat → Nat → Option (List Int)} {W : List Mach} (h : ∀ m ∈ W, RightM p e m) : ∀ m ∈ mailW W, RightM p e m := fun m' hm => by
  obtain ⟨j, hj⟩ := List.getElem?_of_mem hm
  have hjl : j < W.length := by
    rcases Nat.lt_or_ge j W.length with h' | h'
    · exact h'
    · rw [List.getElem?_eq_none (by rw [xd8Z]; exact h')] at hj; cases hj
  obtain ⟨m, hmj⟩ : ∃ m, W[j]? = some m := ⟨_, List.getElem?_eq_getElem hjl⟩
  rw [xhhZ hmj] at hj
  cases hj
  have hR := h m (List.mem_of_getElem? hmj)
  have hpl := pred_lt hjl
  obtain ⟨a, ha⟩ : ∃ a, W[predW W.length j]? = some a := ⟨_, List.getElem?_eq_getElem hpl⟩
  have hA := h a (List.mem_of_getElem? ha)
  have hk := xeiZ (W := W) (i := predW W.length j) ha (by rw [xmeZ hjl]; exact hmj)
  rw [xhlZ ha]
  refine right_left _ (xk4Z hR ?_ fun n hn => hA.out.2 n (List.mem_of_mem_take hn))
  rw [List.length_take]
  have := hR.inp.1
  omega
def xflZ (p : List Fn) (W : List Mach) (f : Int) (V : List Mach) : Prop := V.length = W.length ∧ ∀ (i : Nat) (m : Mach), W[i]? = some m → ∃ t : MF, RunIs p m f t ∧ V[i]? = some t.1
theorem runsIs_one {p : List Fn} {W V U : List Mach} {f : Int} (h : xflZ p W f V) (k : xflZ p W f U) : V = U := by
  apply List.ext_getElem?
  intro i
  cases hm : W[i]? with
  | none =>
    have hl := List.getElem?_eq_none_iff.1 hm
    rw [List.getElem?_eq_none (by rw [h.1]; exact hl), List.getElem?_eq_none (by rw [k.1]; exact hl)]
  | some m =>
    obtain ⟨t, h1, h2⟩ := h.2 i m hm
    obtain ⟨u, k1, k2⟩ := k.2 i m hm
    rw [h2, k2, xmkZ h1 k1]
theorem xgdZ {p : List Fn} {e : Nat → Nat → Option (List Int)} {W V : List Mach} {f : Int} (hp : xanZ p = 0) (he : xaxZ p e) (hr : ∀ m ∈ W, RightM p e m) (h0 : 0 ≤ f) (h : xflZ p W f V) : ∀ m ∈ V, RightM p e m := fun m' hm => by
  obtain ⟨i, hi⟩ := List.getElem?_of_mem hm
  have hil : i < W.length := by
    rcases Nat.lt_or_ge i W.length with h' | h'
    · exact h'
    · rw [List.getElem?_eq_none (by rw [h.1]; exact h')] at hi; cases hi
  obtain ⟨m, hmi⟩ : ∃ m, W[i]? = some m := ⟨_, List.getElem?_eq_getElem hil⟩
  obtain ⟨t, h1, h2⟩ := h.2 i m hmi
  rw [hi] at h2
  cases h2
  exact (xmlZ hp he (hr m (List.mem_of_getElem? hmi)) h0 h1).1
end Go.Proofs.YtmjjkenblfndgaaGreat


