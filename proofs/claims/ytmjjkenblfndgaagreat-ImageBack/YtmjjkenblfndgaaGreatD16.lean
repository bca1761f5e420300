/- My texts Qf Qg Qk Ne Nf Xb Xd Xe Xg: what of them is needed, joined. -/
import Derived.ProofKit
import Derived.OpenShut
import Derived.ShutString
import Derived.ChangeOld
import Derived.SizedLaws
import Derived.Deep.SlicePairs
import Derived.Lib.SmallJoins
import Derived.BigQuiet
import Derived.Test.YtmjjkenblfndgaaGreatD5
import Derived.Test.YtmjjkenblfndgaaGreatD7
import Derived.Test.YtmjjkenblfndgaaGreatD9
import Derived.Test.YtmjjkenblfndgaaGreatD10
import Derived.Test.YtmjjkenblfndgaaGreatD15
set_option maxRecDepth 100000
set_option maxHeartbeats 8000000
/- A step of a right machine is a right machine: calls and returns; all ops. -/
namespace Go.Proofs.YtmjjkenblfndgaaGreat
open Go.RowKit
set_option linter.unusedSimpArgs false
set_option linter.unusedVariables false
theorem xmmZ {a s : List Int} {r : Int} (h : leS (a ++ [r]) s = true) : leS a s.dropLast = true ∧ ∃ z, s = s.dropLast ++ [z] ∧ xauZ r z = true := by
  have hl := xd5Z h
  simp at hl
  have h1 := xkjZ a.length h
  rw [List.take_append_of_le_length (Nat.le_refl _), List.take_of_length_le (Nat.le_refl _)] at h1
  have hd : s.dropLast = s.take a.length := by rw [List.dropLast_eq_take]; congr 1; omega
  have h2 := xkiZ a.length h
  rw [List.drop_append_of_le_length (Nat.le_refl _), List.drop_of_length_le (Nat.le_refl _), List.nil_append] at h2
  have hl2 : (s.drop a.length).length = 1 := by simp; omega
  obtain ⟨z, hz⟩ := List.length_eq_one_iff.1 hl2
  rw [hz] at h2
  simp [leS] at h2
  refine ⟨by rw [hd]; exact h1, z, ?_, h2⟩
  rw [hd, ← hz, List.take_append_drop]
theorem xhjZ : ∀ (ts : List Int), (∀ t ∈ ts, 1 ≤ t ∧ t ≤ 2) → areOf (xbdZ ts) ts = true
  | [], _ => rfl
  | t :: r, h => by
    have ht := h t (by simp)
    have ih := xhjZ r (fun u hu => h u (by simp [hu]))
    have : t = 1 ∨ t = 2 := by omega
    simp only [xbdZ, List.map_cons, areOf, Bool.and_eq_true]
    refine ⟨?_, ih⟩
    rcases this with rfl | rfl <;> simp [asT]
theorem fresh_ok {ts : List Int} {nb : Nat} {v : Val} (h : v ∈ xbdZ ts) : okV nb v = true := by
  obtain ⟨t, _, rfl⟩ := List.mem_map.1 h
  unfold okV
  split
  · simp
  · rfl
section
variable {p : List Fn} {e : Nat → Nat → Option (List Int)} {m : Mach} {x : Frm} {k : Nat} {f : Fn} {pc : Nat} {s out : List Int} {o : Int × Int}
theorem op12 (h : AtOp p e m x k f pc s out o) (hc : o.1 = 12) (he : xa1Z p e) (hok : OkOp p f o) (hty : ∀ g ∈ p, ∀ t ∈ g.2.1, 1 ≤ t ∧ t ≤ 2) : RightM p e (doOp p m x o) := by
  by_cases h6 : m.frames.length = 6
  · have hd : doOp p m x o = trapM m 4 := by simp [doOp, hc, h6]
    rw [hd]
    exact xdaZ h.right h.run (by omega)
  obtain ⟨c0, c1⟩ := hok.call hc
  obtain ⟨g, hg⟩ := xaiZ (l := p) (k := o.2.toNat) (by omega)
  have hgf := hok.fns g (List.mem_of_getElem? hg)
  have hd : doOp p m x o = { m with frames := m.frames.dropLast ++ [{ x with pc := x.pc + 1, stk := cutV x.stk g.1.toNat }, { fn := o.2, pc := 0, loc := x.stk.drop (x.stk.length - g.1.toNat) ++ (xbdZ g.2.1).drop g.1.toNat, stk := [] }] } := by simp [doOp, hc, h6, hg]
  rw [hd]
  have htl : xafZ p f o s = some (g.2.1.take g.1.toNat, if 0 < g.2.2.1 then [g.2.2.1] else []) := by
    unfold xafZ
    rw [if_neg (by omega), if_neg (by omega), if_neg (by omega), if_pos hc, hg]
    rfl
  have htn : (g.2.1.take g.1.toNat).length = g.1.toNat := by rw [List.length_take]; omega
  obtain ⟨a1, a2⟩ := xbiZ h.stk h.try_ htl
  rw [htn] at a1 a2
  obtain ⟨t', l', q1, q2, q3, hout⟩ := xfaZ h.try_
  rw [htl] at q1
  cases q1
  rw [htn] at hout
  obtain ⟨_, s', n1, n2⟩ := h.on (pc + 1) (xdjZ h.op (by omega) (by omega))
  have hs := xckZ h.last
  generalize hD : m.frames.dropLast = D at *
  have hlen : m.frames.length = D.length + 1 := by rw [hs]; simp
  have hoe : o = (12, o.2) := by rw [← hc]
  have hx1 : RightF p e m.blocks.length (some o.2) { x with pc := x.pc + 1, stk := cutV x.stk g.1.toNat } k f := by
    refine ⟨h.frame.fn, h.frame.at_, h.frame.loc, h.frame.okl, fun v hv => h.frame.oks v (mem_cutV hv), fun hn => (by cases hn), fun g' hg' => ?_⟩
    cases hg'
    refine ⟨pc, s, s', g, by show x.pc + 1 = _; rw [h.pcx]; rfl, c0, h.ent, by rw [h.op, hoe], n1, hg, ?_⟩
    have hcut := xkwZ h.stk g.1.toNat
    by_cases hr : g.2.2.1 = 0
    · rw [if_neg (by simp [hr])]
      rw [if_neg (by omega), List.append_nil] at hout
      exact xfpZ hcut (by rw [← hout]; exact n2)
    · rw [if_pos hr]
      rw [if_pos (by omega)] at hout
      rw [hout] at n2
      exact xfpZ hcut (xmmZ n2).1
  have hy : RightF p e m.blocks.length none { fn := o.2, pc := 0, loc := x.stk.drop (x.stk.length - g.1.toNat) ++ (xbdZ g.2.1).drop g.1.toNat, stk := [] } o.2.toNat g := by
    refine ⟨by show o.2 = _; omega, hg, ?_, fun v hv => ?_, fun v hv => by simp at hv, fun _ => ⟨0, [], rfl, (he _ g hg).1.first, rfl⟩, fun g' hg' => by cases hg'⟩
    · have := xdnZ a2 (xfdZ g.1.toNat (xhjZ g.2.1 (hty g (List.mem_of_getElem? hg))))
      rwa [List.take_append_drop] at this
    · rcases List.mem_append.1 hv with hv | hv
      · exact h.frame.oks v (List.mem_of_mem_drop hv)
      · exact fresh_ok (List.mem_of_mem_drop hv)
  have hat : ∀ i z, i < D.length → (m.frames[i]? = some z ↔ (D ++ [{ x with pc := x.pc + 1, stk := cutV x.stk g.1.toNat }, { fn := o.2, pc := 0, loc := x.stk.drop (x.stk.length - g.1.toNat) ++ (xbdZ g.2.1).drop g.1.toNat, stk := [] }])[i]? = some z) := by
    intro i z hi
    rw [hs, List.getElem?_append_left hi, List.getElem?_append_left hi]
  have hst := h.run
  refine ⟨h.right.status, h.right.trap, h.right.blocks, h.right.inp, h.right.out, ⟨by simp; have := h.right.depth.1; omega, by simp [hst]⟩, ?_, ?_, fun hw => by simp only [hst] at hw; cases hw⟩
  · intro z hz
    simp only at hz
    cases D with
    | nil =>
      simp at hz
      subst hz
      exact h.right.first x (by rw [hs]; rfl)
    | cons d r => exact h.right.first z ((hat 0 z (by simp)).2 hz)
  · intro i z hz
    simp only at hz ⊢
    by_cases hi : i < D.length
    · obtain ⟨k', f', hr'⟩ := h.right.each i z ((hat i z hi).2 hz)
      refine ⟨k', f', ?_⟩
      have hnext : (m.frames[i + 1]?).map Frm.fn = ((D ++ [{ x with pc := x.pc + 1, stk := cutV x.stk g.1.toNat }, { fn := o.2, pc := 0, loc := x.stk.drop (x.stk.length - g.1.toNat) ++ (xbdZ g.2.1).drop g.1.toNat, stk := [] }])[i + 1]?).map Frm.fn := by
        by_cases hi2 : i + 1 < D.length
        · rw [hs, List.getElem?_append_left hi2, List.getElem?_append_left hi2]
        · have : i + 1 = D.length := by omega
          rw [hs, this]
          simp
      rw [← hnext]
      exact hr'
    · by_cases hi2 : i = D.length
      · subst hi2
        simp at hz
        subst hz
        exact ⟨k, f, by simpa using hx1⟩
      · have hi3 : i = D.length + 1 := by have := xaeZ hz; simp at this; omega
        subst hi3
        simp at hz
        subst hz
        exact ⟨_, g, by simpa using hy⟩
theorem op13 (h : AtOp p e m x k f pc s out o) (hc : o.1 = 13) (he : xa1Z p e) (hres : ∀ g ∈ p, 0 ≤ g.2.2.1) : RightM p e (doOp p m x o) := by
  have hst := h.run
  have htr := h.right.trap.2 (by omega)
  cases hy : m.frames.dropLast.getLast? with
  | none =>
    have hd : doOp p m x o = { m with frames := [], status := 2 } := by simp [doOp, hc, hy]
    rw [hd]
    exact ⟨by simp, ⟨fun hn => by simp at hn, fun _ => htr⟩, h.right.blocks, h.right.inp, h.right.out, ⟨by simp, by simp⟩, fun z hz => by simp at hz, fun i z hz => by simp at hz, fun hw => by simp at hw⟩
  | some y =>
    have hd : doOp p m x o = { m with frames := m.frames.dropLast.dropLast ++ [{ y with stk := y.stk ++ x.stk }] } := by simp [doOp, hc, hy]
    rw [hd]
    have hs1 := xckZ h.last
    have hs2 := xckZ hy
    generalize hD : m.frames.dropLast.dropLast = D at *
    generalize hD1 : m.frames.dropLast = D1 at *
    have hfr : m.frames = D ++ [y, x] := by rw [hs1, hs2]; simp
    have hyi : m.frames[D.length]? = some y := by rw [hfr]; simp
    have hxi : m.frames[D.length + 1]? = some x := by rw [hfr]; simp
    obtain ⟨ky, fy, hry⟩ := h.right.each D.length y hyi
    rw [hxi] at hry
    obtain ⟨pc', s0, s1, h1, w1, w2, w3, w4, w5, w6, w7⟩ := hry.outer x.fn rfl
    have hh1 : h1 = f := by
      have := h.frame.at_
      rw [h.frame.fn] at w6
      simp at w6
      rw [this] at w6
      exact (Option.some.inj w6).symm
    subst hh1
    have hmem := List.mem_of_getElem? h.frame.at_
    have hr0 := hres h1 hmem
    have hlen : s.length = (if 0 < h1.2.2.1 then [h1.2.2.1] else []).length := by
      have := h.try_
      obtain ⟨t', l', q1, _⟩ := xfaZ this
      unfold xafZ at q1
      rw [if_neg (by omega), if_neg (by omega), if_neg (by omega), if_neg (by omega), if_pos hc] at q1
      by_cases hl : s.length = (if 0 < h1.2.2.1 then [h1.2.2.1] else []).length
      · exact hl
      · rw [if_neg hl] at q1; cases q1
    have htl : xafZ p h1 o s = some (if 0 < h1.2.2.1 then [h1.2.2.1] else [], []) := by
      unfold xafZ
      rw [if_neg (by omega), if_neg (by omega), if_neg (by omega), if_neg (by omega), if_pos hc, if_pos hlen]
    obtain ⟨a1, a2⟩ := xbiZ h.stk h.try_ htl
    have hxl := xbaZ h.stk
    rw [← hlen, ← hxl, Nat.sub_self, List.drop_zero] at a2
    have hy' : RightF p e m.blocks.length none { y with stk := y.stk ++ x.stk } ky fy := by
      refine ⟨hry.fn, hry.at_, hry.loc, hry.okl, fun v hv => ?_, fun _ => ⟨pc' + 1, s1, w1, w5, ?_⟩, fun g' hg' => by cases hg'⟩
      · rcases List.mem_append.1 hv with hv | hv
        · exact hry.oks v hv
        · exact h.frame.oks v hv
      · show areOf (y.stk ++ x.stk) s1 = true
        by_cases hz : h1.2.2.1 = 0
        · rw [if_neg (by simp [hz])] at w7
          rw [if_neg (by omega)] at a2
          have : x.stk = [] := List.eq_nil_of_length_eq_zero (by rw [xbaZ a2]; rfl)
          rw [this, List.append_nil]
          exact w7
        · rw [if_pos hz] at w7
          rw [if_pos (by omega)] at a2
          obtain ⟨o', out', v1, v2, v3⟩ := (he ky fy hry.at_).1.on pc' s0 w3
          rw [w4] at v1
          cases v1
          obtain ⟨_, s1', v4, v5⟩ := v3 (pc' + 1) (xdjZ w4 (by simp) (by simp))
          rw [w5] at v4
          cases v4
          obtain ⟨t', l', q1, q2, q3, hout⟩ := xfaZ v2
          unfold xafZ at q1
          rw [if_neg (by simp), if_neg (by simp), if_neg (by simp), if_pos rfl, w6] at q1
          simp at q1
          obtain ⟨_, hl'⟩ := q1
          rw [if_pos (by omega)] at hl'
          rw [hout, ← hl'] at v5
          obtain ⟨_, z, hzs, hsz⟩ := xmmZ v5
          rw [hzs]
          exact xdnZ w7 (xfpZ a2 (by simp [leS, hsz]))
    have hat : ∀ i z, i < D.length → (m.frames[i]? = some z ↔ (D ++ [{ y with stk := y.stk ++ x.stk }])[i]? = some z) := by
      intro i z hi
      rw [hfr, List.getElem?_append_left hi, List.getElem?_append_left hi]
    refine ⟨h.right.status, h.right.trap, h.right.blocks, h.right.inp, h.right.out, ⟨by have := h.right.depth.1; rw [hfr] at this; simp at this ⊢; omega, by simp [hst]⟩, ?_, ?_, fun hw => by simp only [hst] at hw; cases hw⟩
    · intro z hz
      simp only at hz
      cases D with
      | nil =>
        simp at hz
        subst hz
        exact h.right.first y (by rw [hfr]; rfl)
      | cons d r => exact h.right.first z ((hat 0 z (by simp)).2 hz)
    · intro i z hz
      simp only at hz ⊢
      by_cases hi : i < D.length
      · obtain ⟨k', f', hr'⟩ := h.right.each i z ((hat i z hi).2 hz)
        refine ⟨k', f', ?_⟩
        have hnext : (m.frames[i + 1]?).map Frm.fn = ((D ++ [{ y with stk := y.stk ++ x.stk }])[i + 1]?).map Frm.fn := by
          by_cases hi2 : i + 1 < D.length
          · rw [hfr, List.getElem?_append_left hi2, List.getElem?_append_left hi2]
          · have : i + 1 = D.length := by omega
            rw [hfr, this]
            simp
        rw [← hnext]
        exact hr'
      · have hi2 : i = D.length := by have := xaeZ hz; simp at this; omega
        subst hi2
        simp at hz
        subst hz
        exact ⟨ky, fy, by simpa using hy'⟩
end
theorem right_step {p : List Fn} {e : Nat → Nat → Option (List Int)} {m : Mach} (hp : xanZ p = 0) (he : xa1Z p e) (h : RightM p e m) (hs : m.status = 0 ∨ m.status = 1) : ∃ (x : Frm) (k : Nat) (f : Fn) (o : Int × Int), m.frames.getLast? = some x ∧ x.fn = (k : Int) ∧ p[k]? = some f ∧ 0 ≤ x.pc ∧ f.2.2.2[x.pc.toNat]? = some o ∧ RightM p e (doOp p m x o) := by
  have hne : m.frames ≠ [] := fun hf => by have := h.depth.2.1 hf; omega
  obtain ⟨x, hx⟩ : ∃ x, m.frames.getLast? = some x := by
    cases hl : m.frames.getLast? with
    | none => exact absurd (List.getLast?_eq_none_iff.1 hl) hne
    | some x => exact ⟨x, rfl⟩
  have hsp := xckZ hx
  have hxi : m.frames[m.frames.length - 1]? = some x := by rw [← List.getLast?_eq_getElem?]; exact hx
  have hpos : 0 < m.frames.length := List.length_pos_iff.2 hne
  obtain ⟨k, f, hr⟩ := h.each _ x hxi
  rw [List.getElem?_eq_none (by omega), Option.map_none] at hr
  obtain ⟨pc, s, o, out, h1, h2, h3, h4, h5, h6⟩ := xfsZ he hr
  have hpc : x.pc.toNat = pc := by rw [h1]; simp
  refine ⟨x, k, f, o, hx, hr.fn, hr.at_, by omega, by rw [hpc]; exact h4, ?_⟩
  have hmem := List.mem_of_getElem? hr.at_
  have hfn := okFn hp hmem
  have hom := List.mem_of_getElem? h4
  have hok := hfn.ops o hom
  obtain ⟨hce, _, hbad⟩ := xblZ hfn.flow
  have hchk := xj9Z ((xehZ _ hce).2 o hom)
  have hty : ∀ g ∈ p, ∀ t ∈ g.2.1, 1 ≤ t ∧ t ≤ 2 := fun g hg => (okFn hp hg).loc
  have hres : ∀ g ∈ p, 0 ≤ g.2.2.1 := fun g hg => (hfn.res g hg).1
  by_cases hw : o.1 = 21 ∧ m.inp = []
  · have hd : doOp p m x o = { m with status := 1 } := by simp [doOp, hw]
    rw [hd]
    refine ⟨by simp, ⟨fun hn => by simp at hn, fun _ => h.trap.2 (by omega)⟩, h.blocks, h.inp, h.out, ⟨h.depth.1, ?_⟩, h.first, h.each, fun _ => ⟨hw.2, x, k, f, o, hx, hr.fn, hr.at_, by rw [hpc]; exact h4, hw.1⟩⟩
    simp [hne]
  · have hst : m.status = 0 := by
      rcases hs with hs | hs
      · exact hs
      · obtain ⟨w1, x', k', f', o', w2, w3, w4, w5, w6⟩ := h.wait hs
        rw [hx] at w2
        cases w2
        have : k = k' := by have := hr.fn; omega
        subst this
        rw [hr.at_] at w4
        cases w4
        rw [hpc, h4] at w5
        cases w5
        exact absurd ⟨w6, w1⟩ hw
    have hA : AtOp p e m x k f pc s out o := ⟨h, hst, hx, hr, h1, h2, h3, h4, h5, h6, by simp [isI32]; omega⟩
    have hcode := hok.code
    have : o.1 = 1 ∨ o.1 = 2 ∨ o.1 = 3 ∨ o.1 = 4 ∨ (o.1 = 5 ∨ o.1 = 6 ∨ o.1 = 7) ∨ o.1 = 8 ∨ o.1 = 9 ∨ o.1 = 10 ∨ o.1 = 11 ∨ o.1 = 12 ∨ o.1 = 13 ∨ o.1 = 14 ∨ o.1 = 15 ∨ o.1 = 16 ∨ o.1 = 17 ∨ o.1 = 18 ∨ o.1 = 19 ∨ o.1 = 20 ∨ o.1 = 21 := by omega
    rcases this with c | c | c | c | c | c | c | c | c | c | c | c | c | c | c | c | c | c | c
    · exact op1 hA c
    · exact op2 hA c
    · exact op3 hA c
    · exact op4 hA c
    · exact op567 hA c
    · exact op8 hA c (hok.loc (.inl c)) hfn.loc
    · exact op9 hA c (hok.loc (.inr c)) hfn.loc
    · exact op10 hA c hbad
    · exact op11 hA c hbad
    · exact op12 hA c he hok hty
    · exact op13 hA c he hres
    · exact op14 hA c
    · exact op15 hA c
    · exact op16 hA c
    · exact op17 hA c
    · exact op18 hA c
    · exact op19 hA c
    · exact op20 hA c
    · exact op21 hA c (fun hi => hw ⟨c, hi⟩)
end Go.Proofs.YtmjjkenblfndgaaGreat


/- Only the innermost frame is other behind a step, plainly. -/
namespace Go.Proofs.YtmjjkenblfndgaaGreat
open Go.RowKit
set_option linter.unusedSimpArgs false
set_option linter.unusedVariables false
structure OuterM (m n : Mach) : Prop where
  few : m.frames.length ≤ n.frames.length + 1
  many : n.frames.length ≤ m.frames.length + 1
  blocks : m.blocks.length ≤ n.blocks.length
  each : ∀ (i : Nat) (b : List Int), m.blocks[i]? = some b → ∃ b' : List Int, n.blocks[i]? = some b' ∧ b'.length = b.length
  out : m.out.length ≤ n.out.length ∧ n.out.take m.out.length = m.out
  inp : n.inp.length ≤ m.inp.length ∧ n.inp = m.inp.drop (m.inp.length - n.inp.length)
  frames : ∀ i, (i + 2 < m.frames.length ∨ (i + 1 < m.frames.length ∧ m.frames.length ≤ n.frames.length)) → n.frames[i]? = m.frames[i]?
theorem xeiZ (L : List (List Int)) : ∀ (i : Nat) (b : List Int), L[i]? = some b → ∃ b' : List Int, L[i]? = some b' ∧ b'.length = b.length := fun i b h => ⟨b, h, rfl⟩
theorem xgkZ (m : Mach) (st tr : Int) : OuterM m { m with status := st, trap := tr } := ⟨by simp, by simp, by simp, xeiZ _, by simp, by simp, fun i _ => rfl⟩
theorem xduZ {m : Mach} {x : Frm} (hl : m.frames.getLast? = some x) {ys : List Frm} (h1 : 1 ≤ ys.length) (h2 : ys.length ≤ 2) {B : List (List Int)} {I O : List Int} (hb : m.blocks.length ≤ B.length) (he : ∀ (i : Nat) (b : List Int), m.blocks[i]? = some b → ∃ b' : List Int, B[i]? = some b' ∧ b'.length = b.length) (ho : m.out.length ≤ O.length ∧ O.take m.out.length = m.out) (hi : I.length ≤ m.inp.length ∧ I = m.inp.drop (m.inp.length - I.length)) :
    OuterM m { m with frames := m.frames.dropLast ++ ys, blocks := B, inp := I, out := O } := by
  have hs := xckZ hl
  have hlen : m.frames.length = m.frames.dropLast.length + 1 := by rw [hs]; simp
  refine ⟨by simp; omega, by simp; omega, hb, he, ho, hi, fun i h => ?_⟩
  simp only [List.length_append] at h
  have hi2 : i < m.frames.dropLast.length := by omega
  show (m.frames.dropLast ++ ys)[i]? = _
  rw [List.getElem?_append_left hi2]
  conv => rhs; rw [hs]
  rw [List.getElem?_append_left hi2]
theorem xe5Z (l : List Int) : l.length ≤ l.length ∧ l.take l.length = l := by simp
theorem xfrZ (l : List Int) : l.length ≤ l.length ∧ l = l.drop (l.length - l.length) := by simp
theorem outer_ite {m : Mach} {c : Prop} [Decidable c] {a b : Mach} (h1 : OuterM m a) (h2 : OuterM m b) : OuterM m (if c then a else b) := by
  split
  · exact h1
  · exact h2
theorem outer_step {p : List Fn} {m : Mach} {x : Frm} {o : Int × Int} (hl : m.frames.getLast? = some x) : OuterM m (doOp p m x o) := by
  have hput : ∀ x' : Frm, OuterM m (putF m x') := fun x' => xduZ hl (ys := [x']) (by simp) (by simp) (Nat.le_refl _) (xeiZ _) (xe5Z _) (xfrZ _)
  have htrap : ∀ why, OuterM m (trapM m why) := fun why => xgkZ m 3 why
  have hself : OuterM m m := xgkZ m m.status m.trap
  unfold doOp
  repeat' refine outer_ite ?_ ?_
  all_goals first
    | exact hput _
    | exact htrap _
    | exact hself
    | exact xgkZ m 1 m.trap
    | skip
  · cases p[o.2.toNat]? with
    | none => exact hself
    | some g => exact xduZ hl (by simp) (by simp) (Nat.le_refl _) (xeiZ _) (xe5Z _) (xfrZ _)
  · have hs := xckZ hl
    have hlen : m.frames.length = m.frames.dropLast.length + 1 := by rw [hs]; simp
    cases hy : m.frames.dropLast.getLast? with
    | none =>
      have hd : m.frames.dropLast = [] := List.getLast?_eq_none_iff.1 hy
      rw [hd] at hlen
      exact ⟨by simp; simp at hlen; omega, by simp, by simp, xeiZ _, xe5Z _, xfrZ _, fun i h => by simp at h hlen; omega⟩
    | some y =>
      have hs2 := xckZ hy
      have hlen2 : m.frames.dropLast.length = m.frames.dropLast.dropLast.length + 1 := by rw [hs2]; simp
      refine ⟨by simp at hlen2 ⊢; omega, by simp at hlen2 ⊢; omega, by simp, xeiZ _, xe5Z _, xfrZ _, fun i h => ?_⟩
      simp only [List.length_append, List.length_singleton] at h
      have hi2 : i < m.frames.dropLast.dropLast.length := by omega
      show (m.frames.dropLast.dropLast ++ _)[i]? = _
      rw [List.getElem?_append_left hi2]
      conv => rhs; rw [hs, hs2]
      rw [List.append_assoc, List.getElem?_append_left hi2]
  · exact xduZ hl (ys := [_]) (by simp) (by simp) (by simp [newL]) (fun i b h => ⟨b, by unfold newL; rw [List.getElem?_append_left (xaeZ h)]; exact h, rfl⟩) (xe5Z _) (xfrZ _)
  · refine xduZ hl (ys := [_]) (by simp) (by simp) (by simp [setL]) (fun i b h => ?_) (xe5Z _) (xfrZ _)
    unfold setL
    by_cases hi : i = ((topV x.stk 2).2 - 1).toNat
    · refine ⟨_, by rw [hi, List.getElem?_set_self (by rw [← hi]; exact xaeZ h)], ?_⟩
      rw [List.length_set, blkAt, ← hi, h]
      rfl
    · exact ⟨b, by rw [List.getElem?_set_ne (fun e => hi e.symm)]; exact h, rfl⟩
  · exact xduZ hl (ys := [_]) (by simp) (by simp) (Nat.le_refl _) (xeiZ _) ⟨by simp, by simp⟩ (xfrZ _)
  · refine xduZ hl (ys := [_]) (by simp) (by simp) (Nat.le_refl _) (xeiZ _) (xe5Z _) ⟨by simp, ?_⟩
    cases hi : m.inp with
    | nil => simp
    | cons a r => simp
end Go.Proofs.YtmjjkenblfndgaaGreat


/- What Check, Start and Step of machines answer, plainly. -/
namespace Go.Proofs.YtmjjkenblfndgaaGreat
open Go.RowKit
set_option linter.unusedSimpArgs false
set_option linter.unusedVariables false
open Classical in
/-- the entries of all functions, if the program fits. -/
noncomputable def entP (p : List Fn) : Nat → Nat → Option (List Int) := if h : ∃ e, xa1Z p e then Classical.choose h else fun _ _ => none
theorem entP_fit {p : List Fn} (h : ∃ e, xa1Z p e) : xa1Z p (entP p) := by
  unfold entP
  rw [dif_pos h]
  exact Classical.choose_spec h
open Classical in
noncomputable def fitsE (p : List Fn) : Int := if xanZ p ≠ 0 then xanZ p else if ∃ e, xa1Z p e then 0 else 4
theorem allFit_of {p : List Fn} (h : ∀ f ∈ p, ∃ e, Least p f (some e)) : ∃ e, xa1Z p e := by
  have each : ∀ k : Nat, ∃ e : Nat → Option (List Int), ∀ f, p[k]? = some f → Least p f (some e) := fun k => by
    cases hk : p[k]? with
    | none => exact ⟨fun _ => none, fun f hf => by cases hf⟩
    | some f =>
      obtain ⟨e, he⟩ := h f (List.mem_of_getElem? hk)
      exact ⟨e, fun g hg => by cases hg; exact he⟩
  exact ⟨fun k => Classical.choose (each k), fun k f hf => Classical.choose_spec (each k) f hf⟩
theorem xdvZ {p : List Fn} {er : Int} (h : xhsZ p er) : er = fitsE p := by
  unfold fitsE
  rcases h with ⟨a1, a2⟩ | ⟨a1, a2, a3⟩ | ⟨a1, a2, f, hf, hl⟩
  · rw [if_pos a1, a2]
  · rw [if_neg (by simp [a1]), if_pos (allFit_of a3), a2]
  · rw [if_neg (by simp [a1]), if_neg, a2]
    rintro ⟨e, he⟩
    obtain ⟨k, hk⟩ := List.getElem?_of_mem hf
    exact absurd (xmnZ hl (he k f hk)) (by simp)
theorem xc6Z {p : List Fn} : fitsE p = 0 ↔ xanZ p = 0 ∧ xa1Z p (entP p) := by
  unfold fitsE
  constructor
  · intro h
    split at h
    · rename_i h1; exact absurd h h1
    · rename_i h1
      split at h
      · rename_i h2; exact ⟨by simpa using h1, entP_fit h2⟩
      · cases h
  · rintro ⟨h1, h2⟩
    rw [if_neg (by simp [h1]), if_pos ⟨_, h2⟩]
noncomputable def xaoZ (p : List Fn) (M : Mach) : Int := if fitsE p ≠ 0 then fitsE p else xjrZ p (entP p) M
theorem xa8Z {p : List Fn} {M : Mach} : xaoZ p M = 0 ↔ xanZ p = 0 ∧ xa1Z p (entP p) ∧ RightM p (entP p) M := by
  unfold xaoZ
  constructor
  · intro h
    split at h
    · rename_i h1; exact absurd h h1
    · rename_i h1
      obtain ⟨h2, h3⟩ := xc6Z.1 (by simpa using h1)
      exact ⟨h2, h3, (xk9Z h3).1 h⟩
  · rintro ⟨h1, h2, h3⟩
    rw [if_neg (by simp [xc6Z.2 ⟨h1, h2⟩])]
    exact (xk9Z h2).2 h3
def zeroM : Mach := ⟨[], [], [], [], 0, 0⟩
def xeqZ (p : List Fn) : Mach := { zeroM with frames := [{ fn := 0, pc := 0, loc := xbdZ ((p[0]?.map fun f => f.2.1).getD []), stk := [] }] }
def stepM (p : List Fn) (m : Mach) : Mach := if m.status = 0 ∨ m.status = 1 then (match m.frames.getLast?, xcfZ p m with
    | some x, some o => doOp p m x o
    | _, _ => m) else m
theorem lastOp_mk {p : List Fn} {m : Mach} {x : Frm} {k : Nat} {f : Fn} {o : Int × Int} (hx : m.frames.getLast? = some x) (hk : x.fn = (k : Int)) (hf : p[k]? = some f) (ho : f.2.2.2[x.pc.toNat]? = some o) : xcfZ p m = some o := by
  unfold xcfZ
  rw [hx]
  simp only [Option.bind_some, hk, Int.toNat_natCast, hf]
  exact ho
theorem xhzZ {p : List Fn} {e : Nat → Nat → Option (List Int)} {m : Mach} (hp : xanZ p = 0) (he : xa1Z p e) (h : RightM p e m) (hs : m.status = 0 ∨ m.status = 1) : ∃ (x : Frm) (k : Nat) (f : Fn) (o : Int × Int), m.frames.getLast? = some x ∧ x.fn = (k : Int) ∧ p[k]? = some f ∧ 0 ≤ x.pc ∧ f.2.2.2[x.pc.toNat]? = some o ∧ xcfZ p m = some o ∧ stepM p m = doOp p m x o ∧ RightM p e (doOp p m x o) := by
  obtain ⟨x, k, f, o, h1, h2, h3, h4, h5, h6⟩ := right_step hp he h hs
  have hl := lastOp_mk h1 h2 h3 h5
  refine ⟨x, k, f, o, h1, h2, h3, h4, h5, hl, ?_, h6⟩
  unfold stepM
  rw [if_pos hs, h1, hl]
theorem xdmZ {p : List Fn} {e : Nat → Nat → Option (List Int)} {m : Mach} (hp : xanZ p = 0) (he : xa1Z p e) (h : RightM p e m) : RightM p e (stepM p m) := by
  by_cases hs : m.status = 0 ∨ m.status = 1
  · obtain ⟨x, k, f, o, _, _, _, _, _, _, h1, h2⟩ := xhzZ hp he h hs
    rw [h1]
    exact h2
  · unfold stepM
    rw [if_neg hs]
    exact h
theorem xqkZ {p : List Fn} {e : Nat → Nat → Option (List Int)} {m : Mach} (hp : xanZ p = 0) (he : xa1Z p e) (h : RightM p e m) : OuterM m (stepM p m) := by
  by_cases hs : m.status = 0 ∨ m.status = 1
  · obtain ⟨x, k, f, o, h0, _, _, _, _, _, h1, h2⟩ := xhzZ hp he h hs
    rw [h1]
    exact outer_step h0
  · unfold stepM
    rw [if_neg hs]
    exact xgkZ m m.status m.trap
theorem xgxZ {p : List Fn} {e : Nat → Nat → Option (List Int)} (hp : xanZ p = 0) (he : xa1Z p e) : ∃ f, p[0]? = some f ∧ xeqZ p = { zeroM with frames := [{ fn := 0, pc := 0, loc := xbdZ f.2.1, stk := [] }] } ∧ RightM p e (xeqZ p) := by
  obtain ⟨h1, h2, _⟩ := xeoZ hp
  obtain ⟨f, hf⟩ := xaiZ (l := p) (k := 0) (by omega)
  have hs : xeqZ p = { zeroM with frames := [{ fn := 0, pc := 0, loc := xbdZ f.2.1, stk := [] }] } := by simp [xeqZ, hf]
  refine ⟨f, hf, hs, ?_⟩
  rw [hs]
  refine ⟨by simp [zeroM], by simp [zeroM], (by show blkErr [] = 0; decide), by simp [zeroM], by simp [zeroM], by simp [zeroM], fun x hx => ?_, fun i x hx => ?_, fun hw => by simp [zeroM] at hw⟩
  · simp at hx
    subst hx
    rfl
  · cases i with
    | succ i => simp at hx
    | zero =>
      simp at hx
      subst hx
      refine ⟨0, f, rfl, hf, xhjZ f.2.1 (okFn hp (List.mem_of_getElem? hf)).loc, fun v hv => fresh_ok hv, fun v hv => by simp at hv, fun _ => ⟨0, [], rfl, (he 0 f hf).1.first, rfl⟩, fun g hg => by simp at hg⟩
end Go.Proofs.YtmjjkenblfndgaaGreat


/- machine's checker: functions of frames, one that waits; all of them in order. -/
namespace Go.Proofs.YtmjjkenblfndgaaGreat
open Go.RowKit
set_option linter.unusedSimpArgs false
set_option linter.unusedVariables false
theorem xpqZ (M : Mach) (p : List Fn) (fv bv iv ov : Value) (pp : Option Addr) (qp : Nat) (w : World) (hf : FrmsAt w fv M.frames) (h3 : ∃ p n c, bv = .slice p n c) (h4 : ∃ p n c, iv = .slice p n c) (h5 : ∃ p n c, ov = .slice p n c) : Calls Tryz.prog 107 #[chkV (.slice pp p.length qp) fv bv iv ov M] w (Says (xchZ p M) w) := by
  obtain ⟨p3, n3, c3, rfl⟩ := h3
  obtain ⟨p4, n4, c4, rfl⟩ := h4
  obtain ⟨p5, n5, c5, rfl⟩ := h5
  obtain ⟨pf, cf, hfv, hfm, -, hfc⟩ := id hf
  subst hfv
  unfold maxLen at hfm
  obtain ⟨W1, hW1⟩ : ∃ W1, w.alloc (.cells #[.slice pf M.frames.length cf, .slice p3 n3 c3, .slice p4 n4 c4, .slice p5 n5 c5, .int .i64 M.status, .int .i64 M.trap, .slice pp p.length qp] 121) = W1 := ⟨_, rfl⟩
  have b1 : Below w.heap.size w W1 := by rw [← hW1]; exact (Below.refl _ w).alloc (Nat.le_refl _) _
  have x1 : W1.heap[w.heap.size]? = some (.cells #[.slice pf M.frames.length cf, .slice p3 n3 c3, .slice p4 n4 c4, .slice p5 n5 c5, .int .i64 M.status, .int .i64 M.trap, .slice pp p.length qp] 121 (0, 0)) := by rw [← hW1]; exact World.alloc_heap_new w _
  have lx := xacZ x1
  have d0 : W1.cell? ⟨w.heap.size, 0, none⟩ = some (.slice pf M.frames.length cf) := xaaZ x1 0
  have d6 : W1.cell? ⟨w.heap.size, 6, none⟩ = some (.slice pp p.length qp) := xaaZ x1 6
  have HC := hideP (xkcZ 141 #[.pointer (some ⟨w.heap.size, 0, none⟩)] (fun W => W.cell? ⟨w.heap.size, 6, none⟩ = some (.slice pp p.length qp) ∧ w.heap.size < W.heap.size) (xb7Z p) M.frames _ W1 (hf.below b1) ⟨d6, lx⟩ (fun W W' hI hb => ⟨(hb.cell (p := ⟨w.heap.size, 6, none⟩) hI.2).trans hI.1, Nat.lt_of_lt_of_le hI.2 hb.size⟩) (xb1Z Tryz.func141 (by kernel_rfl) rfl) (fun z lv sv W hI h1 h2 => xppZ p z lv sv pp qp w.heap.size W h1 h2 hI.1))
  have HFC := hideP hfc
  have hmf : ∀ (fn : Go.Fn) (first cap : Array Value) (w : World), (Instr.makeFunc fn first cap).run Tryz.prog w = .ok (.func fn first cap) w := fun _ _ _ _ => rfl
  clear hf hfc x1
  cases hall : M.frames.all (xb7Z p)
  · rw [hall] at HC
    go_enter Tryz.func107, Tryz.ntmps107
    go_wp2_with (go_at_call 142; refine HC.out.mono ?_; rintro e w2 ⟨rfl, b2⟩)
    go_ret
    exact ⟨by simp [xchZ, hall], xadZ b1 b2⟩
  · rw [hall] at HC
    obtain hM | ⟨x, r, hM⟩ : M.frames = [] ∨ ∃ x r, M.frames = x :: r := by
      cases M.frames with
      | nil => exact .inl rfl
      | cons x r => exact .inr ⟨x, r, rfl⟩
    · have h0len : ¬ (0 : Int) < (M.frames.length : Int) := by rw [hM]; simp
      have h0d : decide ((M.frames.length : Int) > 0) = false := by simpa using h0len
      have HM := hideP hM
      have HALL := hideP hall
      clear hM hall
      go_enter Tryz.func107, Tryz.ntmps107
      go_wp2_with (go_at_call 142; refine HC.out.mono ?_; rintro e w2 ⟨rfl, b2⟩; have k0 := (b2.cell (p := ⟨w.heap.size, 0, none⟩) lx).trans d0)
      go_ret
      refine ⟨?_, xadZ b1 b2⟩
      unfold xchZ
      rw [HALL.out, HM.out]
      simp
    · obtain ⟨g, off, lv, sv, rfl, hg, y0, -⟩ := HFC.out 0 x (by rw [hM]; rfl)
      have hpos : (0 : Int) < (M.frames.length : Int) := by rw [hM]; simp
      have hposd : decide ((M.frames.length : Int) > 0) = true := by simpa using hpos
      have HM := hideP hM
      have HALL := hideP hall
      clear hM hall
      have g0 := (b1.cell (p := ⟨g, off + 0 * 4, none⟩) hg).trans y0
      simp only [Nat.zero_mul, Nat.add_zero] at g0
      have hg1 := Nat.lt_of_lt_of_le hg b1.size
      by_cases h0 : x.fn = 0
      · have h0' : (x.fn != 0) = false := by simpa using h0
        go_enter Tryz.func107, Tryz.ntmps107
        go_wp2_with (go_at_call 142; refine HC.out.mono ?_; rintro e w2 ⟨rfl, b2⟩; have k0 := (b2.cell (p := ⟨w.heap.size, 0, none⟩) lx).trans d0; have k1 := (b2.cell (p := ⟨g, off, none⟩) hg1).trans g0)
        go_ret
        refine ⟨?_, xadZ b1 b2⟩
        unfold xchZ
        rw [HALL.out, HM.out]
        simp [h0]
      · have h0' : (x.fn != 0) = true := by simpa using h0
        go_enter Tryz.func107, Tryz.ntmps107
        go_wp2_with (go_at_call 142; refine HC.out.mono ?_; rintro e w2 ⟨rfl, b2⟩; have k0 := (b2.cell (p := ⟨w.heap.size, 0, none⟩) lx).trans d0; have k1 := (b2.cell (p := ⟨g, off, none⟩) hg1).trans g0)
        go_ret
        refine ⟨?_, xadZ b1 b2⟩
        unfold xchZ
        rw [HALL.out, HM.out]
        simp [h0]
theorem xmeZ : ∀ {es : List Int} {k : Nat} {a : Int}, es[k]? = some a → (∀ b ∈ es.take k, b = 0) → a ≠ 0 → xfgZ es = a
  | [], k, a, h, _, _ => by simp at h
  | b :: r, 0, a, h, _, ha => by
    simp at h
    subst h
    simp [xfgZ, ha]
  | b :: r, k + 1, a, h, hk, ha => by
    have h0 : b = 0 := hk b (by simp)
    simp only [xfgZ]
    rw [if_neg (by simp [h0])]
    exact xmeZ (by simpa using h) (fun c hc => hk c (by simp [hc])) ha
def ckFns : List Nat := [103, 104, 105, 106, 107, 108, 109]
theorem ckFns_ent : ∀ F ∈ ckFns, Ent F := by
  intro F hF
  simp only [ckFns, List.mem_cons, List.not_mem_nil, or_false] at hF
  rcases hF with rfl | rfl | rfl | rfl | rfl | rfl | rfl
  · exact xb1Z Tryz.func103 (by kernel_rfl) rfl
  · exact xb1Z Tryz.func104 (by kernel_rfl) rfl
  · exact xb1Z Tryz.func105 (by kernel_rfl) rfl
  · exact xb1Z Tryz.func106 (by kernel_rfl) rfl
  · exact xb1Z Tryz.func107 (by kernel_rfl) rfl
  · exact xb1Z Tryz.func108 (by kernel_rfl) rfl
  · exact xb1Z Tryz.func109 (by kernel_rfl) rfl
end Go.Proofs.YtmjjkenblfndgaaGreat


/- machine's checker: one thing behind the other; Check. -/
namespace Go.Proofs.YtmjjkenblfndgaaGreat
open Go.RowKit
set_option linter.unusedSimpArgs false
set_option linter.unusedVariables false
def ckRow (c : Value) : List Value := ckFns.map fun F => .func (.func F) #[c] #[]
theorem ckRow_at (c : Value) {k F : Nat} (h : ckFns[k]? = some F) : (ckRow c)[k]? = some (.func (.func F) #[c] #[]) := by
  unfold ckRow
  rw [List.getElem?_map, h]
  rfl
theorem check_gen (M : Mach) (pv fv bv iv ov : Value) (es : List Int) (w : World) (h1 : ∃ p n c, pv = .slice p n c) (h2 : ∃ p n c, fv = .slice p n c) (h3 : ∃ p n c, bv = .slice p n c) (h4 : ∃ p n c, iv = .slice p n c) (h5 : ∃ p n c, ov = .slice p n c) (hes : es.length = 7)
    (hF : ∀ (k F : Nat) (a : Int), ckFns[k]? = some F → es[k]? = some a → (∀ b ∈ es.take k, b = 0) → ∀ W, Below w.heap.size w W → Calls Tryz.prog F #[chkV pv fv bv iv ov M] W (Says a W)) : Calls Tryz.prog 75 #[chkV pv fv bv iv ov M] w (Says (xfgZ es) w) := by
  obtain ⟨p1, n1, c1, rfl⟩ := h1
  obtain ⟨p2, n2, c2, rfl⟩ := h2
  obtain ⟨p3, n3, c3, rfl⟩ := h3
  obtain ⟨p4, n4, c4, rfl⟩ := h4
  obtain ⟨p5, n5, c5, rfl⟩ := h5
  have HF := hideP hF
  have HEE := hideP ckFns_ent
  have HES := hideP hes
  have hmf : ∀ (fn : Go.Fn) (first cap : Array Value) (w : World), (Instr.makeFunc fn first cap).run Tryz.prog w = .ok (.func fn first cap) w := fun _ _ _ _ => rfl
  obtain ⟨c, hc⟩ : ∃ c, chkV (.slice p1 n1 c1) (.slice p2 n2 c2) (.slice p3 n3 c3) (.slice p4 n4 c4) (.slice p5 n5 c5) M = c := ⟨_, rfl⟩
  have hb2 : ∀ o o', Below w.heap.size w ((w.alloc o).alloc o') := fun o o' => ((Below.refl _ w).alloc (Nat.le_refl _) _).alloc (by simp) _
  have hx2 : ∀ o o', ((w.alloc o).alloc o').heap[w.heap.size + 1]? = some o' := fun o o' => xa9Z w o o'
  have HC := hideP hc
  clear hF hes hc
  go_enter Tryz.func75, Tryz.ntmps75
  go_wp2_with fail
  go_loopw [5, 24] (fun _ i wr => ∃ k : Nat, k ≤ 7 ∧ i = .int .i64 k ∧ (∀ b ∈ es.take k, b = 0) ∧ Below w.heap.size w wr ∧ wr.heap[w.heap.size + 1]? = some (.cells (ckRow c).toArray 122 (0, 0))) (fun _ i _ => 7 - (intOf i).toNat)
  case atStart => exact ⟨0, Nat.zero_le _, rfl, by simp, hb2 _ _, by rw [← HC.out]; exact hx2 _ _⟩
  case round =>
    obtain ⟨k, hk, rfl, hok, hbw, hrow⟩ := hrel
    have HK := hideP hok
    clear hok
    by_cases hlt : k < 7
    · obtain ⟨F, hFk⟩ := xaiZ (l := ckFns) (k := k) hlt
      obtain ⟨a, ha⟩ := xaiZ (l := es) (k := k) (by rw [HES.out]; exact hlt)
      have hcell : wr.cell? ⟨w.heap.size + 1, k, none⟩ = some (.func (.func F) #[c] #[]) := by
        rw [xaaZ hrow]
        simpa using ckRow_at c hFk
      have hlti : (k : Int) < (7 : Int) := by omega
      have hent := HEE.out F (List.mem_of_getElem? hFk)
      have hEE : ∀ (args : Array Value) (W : World), (callFunc F args).run Tryz.prog W = .ok (.enter F args) W := hent
      have hlx := xacZ hrow
      have HROW := hideP hrow
      have hcall := HF.out k F a hFk ha HK.out wr hbw
      rw [HC.out] at hcall
      have HCALL := hideP hcall
      have HA := hideP ha
      clear hrow hent hcall hFk ha
      by_cases h0 : a = 0
      · subst h0
        go_wp2_with fail
        refine HCALL.out.mono ?_
        rintro e w2 ⟨rfl, b2⟩
        go_wp2
        go_roundw
        case rel =>
          refine ⟨k + 1, by omega, by go_num, fun b hb => ?_, hbw.trans (b2.mono hbw.size), (b2.block _ hlx).trans HROW.out⟩
          rw [xa7Z es k _ HA.out] at hb
          rcases List.mem_append.1 hb with hb | hb
          · exact HK.out b hb
          · simpa using hb
        case measure => simp [intOf]; omega
      · have h0' : (a != 0) = true := by simpa using h0
        have HN := hideP h0
        clear h0
        go_wp2_with fail
        refine HCALL.out.mono ?_
        rintro e w2 ⟨rfl, b2⟩
        go_wp2
        go_ret
        exact ⟨by rw [xmeZ HA.out HK.out HN.out]; rfl, hbw.trans (b2.mono hbw.size)⟩
    · have hlt' : ¬ (k : Int) < (7 : Int) := by omega
      go_wp2
      go_ret
      refine ⟨?_, hbw⟩
      have h := HK.out
      rw [List.take_of_length_le (by rw [HES.out]; omega)] at h
      rw [xj0Z.2 h]; rfl
end Go.Proofs.YtmjjkenblfndgaaGreat


/- Programs that came in. -/
namespace Go.Proofs.YtmjjkenblfndgaaGreat
open Go.ChangeShapes Go.WideShapes Go.ChangeAt Go.RowKit
set_option linter.unusedVariables false
set_option linter.unusedSimpArgs false
section
variable {H : Type} {enc : TypeId × Value → H} {W : World} {fuel : Nat} {x : DataW H × List MemPlace}
theorem xc2Z {W : World} {b j : Nat} {v : Value} (h : W.cell? ⟨b, j, none⟩ = some v) : b < W.heap.size := by
  rcases Nat.lt_or_ge b W.heap.size with h' | h'
  · exact h'
  · simp [World.cell?, Array.getElem?_eq_none h'] at h
theorem cells_ops : Tryz.prog.cellsOf 117 = 1 := by kernel_rfl
theorem xh4Z : Tryz.prog.cellsOf 46 = 1 := by kernel_rfl
theorem xg0Z : Tryz.prog.cellsOf 3 = 1 := by kernel_rfl
theorem cells_fns : Tryz.prog.cellsOf 22 = 1 := by kernel_rfl
theorem cells_fn : Tryz.prog.cellsOf 119 = 4 := by kernel_rfl
theorem cells_prog : Tryz.prog.cellsOf 24 = 1 := by kernel_rfl
instance : Inhabited Fn := ⟨(0, [], 0, [])⟩
instance : Inhabited FnV := ⟨(.int .i64 0, .int .i64 0, .int .i64 0, .int .i64 0)⟩
end
end Go.Proofs.YtmjjkenblfndgaaGreat


/- Blocks that came in. -/
namespace Go.Proofs.YtmjjkenblfndgaaGreat
open Go.ChangeShapes Go.WideShapes Go.ChangeAt Go.RowKit
set_option linter.unusedVariables false
set_option linter.unusedSimpArgs false
section
variable {H : Type} {enc : TypeId × Value → H} {W : World} {fuel : Nat} {x : DataW H × List MemPlace}
theorem xexZ {P : Program} {e : TypeId} : ∀ {ds : List (DataW H)} {d : DataW H}, d ∈ ds → ∀ n ∈ d.weights P e, n ∈ DataW.weightsAll P e ds
  | [], _, h, _, _ => by simp at h
  | d0 :: r, d, h, n, hn => by
    simp only [DataW.weightsAll, List.mem_append]
    rcases List.mem_cons.1 h with rfl | h
    · exact .inl hn
    · exact .inr (xexZ h n hn)
theorem bytes_int : Tryz.prog.bytesOf 3 = 8 := by kernel_rfl
theorem xh9Z {c : Value} (h : DataW.trod enc Tryz.prog W 0 (fun _ => true) true fuel 46 [c] = some x) (hs : ∀ n ∈ x.1.weights Tryz.prog 46, n ≤ reachBytes) : ∃ l : List Int, IntsAt W c l ∧ NilOk c ∧ l.length ≤ 17592186044416 ∧ ∃ p n cap, c = .slice p n cap ∧ n ≤ cap := by
  rcases Deep.open_slice1 Tryz.underlying46 xg0Z h with ⟨hcs, hx⟩ | ⟨a, len', cap', m, n, V, D, Pl, hcs, hb, hl, hm, hmm, hx, hc⟩
  · simp at hcs
    subst hcs
    exact ⟨[], ⟨none, 0, rfl, Nat.zero_le _, fun k o hk => by simp at hk⟩, xe9Z, by simp, none, 0, 0, rfl, Nat.le_refl _⟩
  · simp at hcs
    subst hcs
    simp only [if_true] at hmm
    subst hmm
    have hlen : len' ≤ 17592186044416 := by
      have h1 := hs ((((List.range len').map D).length + ((List.range (m - len')).map fun j => D (len' + j)).length) * Tryz.prog.bytesOf 3) (by
        rw [hx]
        simp only [DataW.weights, Tryz.underlying46]
        exact List.mem_cons_self ..)
      rw [bytes_int] at h1
      simp [reachBytes] at h1
      omega
    refine ⟨(List.range len').map fun i => intOf (V i), ⟨some a, m, by simp, by simp; omega, fun k o hk => ?_⟩, xazZ _ _ _, by simpa using hlen, _, _, _, rfl, hl⟩
    have hk1 : k < len' := by have := xcwZ hk; simpa using this
    have ho : o = intOf (V k) := by simp [hk1] at hk; exact hk.symm
    obtain ⟨c0, t0⟩ := hc k (by omega)
    obtain ⟨y, e0, _, wx⟩ := DataW.trod_int Tryz.underlying3 t0
    simp at e0
    obtain ⟨b, off, spot⟩ := a
    have hs0 := (hc 0 (by omega)).1
    have hspot : spot = none := by simpa [Addr.add] using World.cell?_spot hs0
    subst hspot
    rw [xegZ] at c0
    rw [e0] at c0
    exact ⟨b, off, rfl, xc2Z c0, by rw [ho, e0]; exact c0⟩
theorem open_blksC {c : Value} (h : DataW.trod enc Tryz.prog W 0 (fun _ => true) true fuel 45 [c] = some x) (hs : ∀ n ∈ x.1.weights Tryz.prog 45, n ≤ reachBytes) : ∃ L : List (List Int), BlksAt W c L := by
  rcases Deep.open_slice Tryz.underlying45 h with ⟨hcs, hx⟩ | ⟨a, len', cap', m, n, D, Pl, hcs, hb, hl, hm, hmm, hx, hc⟩
  · simp at hcs
    subst hcs
    exact ⟨[], none, 0, rfl, Nat.zero_le _, fun k o hk => by simp at hk⟩
  · simp at hcs
    subst hcs
    simp only [if_true] at hmm
    subst hmm
    have each : ∀ i, i < len' → ∃ q : Value × List Int, W.cell? (a.add (i * 1)) = some q.1 ∧ IntsAt W q.1 q.2 ∧ NilOk q.1 ∧ q.2.length ≤ 17592186044416 := by
      intro i hi
      obtain ⟨cs', h1, h2⟩ := hc i (by omega)
      rw [xh4Z] at h1
      obtain ⟨_, hlen, hcell⟩ := World.cells?_some h1
      match cs', hlen with
      | [c0], _ =>
        obtain ⟨l, g1, g2, g3, _⟩ := xh9Z (x := (D i, Pl i)) h2 (fun n hn => hs n (by
          rw [hx]
          simp only [DataW.weights, Tryz.underlying45]
          refine List.mem_cons_of_mem _ (List.mem_append_left _ ?_)
          exact xexZ (List.mem_map.2 ⟨i, List.mem_range.2 hi, rfl⟩) n hn))
        have e0 := hcell 0 (by omega)
        rw [Deep.add_add] at e0
        exact ⟨(c0, l), by simpa using e0, g1, g2, g3⟩
    obtain ⟨q, hq⟩ := Deep.choose_lt each
    refine ⟨(List.range len').map fun i => (q i).2, some a, m, by simp, by simp; omega, fun k f hk => ?_⟩
    have hk1 : k < len' := by have := xcwZ hk; simpa using this
    have ho : f = (q k).2 := by simp [hk1] at hk; exact hk.symm
    obtain ⟨c0, c1, c2, c3⟩ := hq k hk1
    obtain ⟨b, off, spot⟩ := a
    have hs0 := (hq 0 (by omega)).1
    have hspot : spot = none := by simpa [Addr.add] using World.cell?_spot hs0
    subst hspot
    rw [xegZ, Nat.mul_one] at c0
    exact ⟨b, off, _, rfl, xc2Z c0, c0, by rw [ho]; exact c1, c2, by rw [ho]; exact c3⟩
end
end Go.Proofs.YtmjjkenblfndgaaGreat


/- Programs that came in, whole: room, nil or not, lengths. -/
namespace Go.Proofs.YtmjjkenblfndgaaGreat
open Go.ChangeShapes Go.WideShapes Go.ChangeAt Go.RowKit
set_option linter.unusedVariables false
set_option linter.unusedSimpArgs false
section
variable {H : Type} {enc : TypeId × Value → H} {W : World} {fuel : Nat} {x : DataW H × List MemPlace}
theorem bytes_op : Tryz.prog.bytesOf 86 = 16 := by kernel_rfl
theorem bytes_fn : Tryz.prog.bytesOf 119 = 64 := by kernel_rfl
theorem open_opsN {c : Value} (h : DataW.trod enc Tryz.prog W 0 (fun _ => true) true fuel 117 [c] = some x) (hs : ∀ n ∈ x.1.weights Tryz.prog 117, n ≤ reachBytes) : ∃ l : List (Int × Int), OpsAt W c l ∧ NilOk c ∧ l.length ≤ 8796093022208 := by
  rcases Deep.open_slice_pairs Tryz.underlying117 Tryz.underlying86 (by kernel_rfl) rfl rfl (by kernel_rfl) (by kernel_rfl) h with ⟨hcs, hx⟩ | ⟨a, len', cap', m, n, V0, V1, D0, D1, P0, P1, hcs, hb, hl, hm, hmm, hx, hc⟩
  · simp at hcs
    subst hcs
    exact ⟨[], ⟨none, 0, rfl, Nat.zero_le _, fun k o hk => by simp at hk⟩, xe9Z, by simp⟩
  · simp at hcs
    subst hcs
    simp only [if_true] at hmm
    subst hmm
    have hlen : len' ≤ 8796093022208 := by
      have hx1 := congrArg Prod.fst hx
      simp only at hx1
      rw [hx1] at hs
      simp only [DataW.weights, Tryz.underlying117] at hs
      have h1 := hs _ (List.mem_cons_self ..)
      rw [bytes_op] at h1
      simp [reachBytes] at h1
      omega
    refine ⟨(List.range len').map fun i => (intOf (V0 i), intOf (V1 i)), ⟨some a, m, by simp, by simp; omega, fun k o hk => ?_⟩, xazZ _ _ _, by simpa using hlen⟩
    have hk1 : k < len' := by have := xcwZ hk; simpa using this
    have ho : o = (intOf (V0 k), intOf (V1 k)) := by simp [hk1] at hk; exact hk.symm
    obtain ⟨c0, c1, t0, t1⟩ := hc k (by omega)
    obtain ⟨x, e0, _, wx⟩ := DataW.trod_int Tryz.underlying3 t0
    obtain ⟨y, e1, _, wy⟩ := DataW.trod_int Tryz.underlying3 t1
    simp at e0 e1
    obtain ⟨b, off, spot⟩ := a
    have hs0 := (hc 0 (by omega)).1
    have hspot : spot = none := by simpa [Addr.add] using World.cell?_spot hs0
    subst hspot
    rw [xegZ] at c0 c1
    rw [e0] at c0
    rw [e1] at c1
    exact ⟨b, off, rfl, xc2Z c0, by rw [ho, e0]; exact c0, by rw [ho, e1]; exact c1⟩
def FnFull (c1 c3 : Value) : Prop := NilOk c1 ∧ NilOk c3 ∧ (∃ p n cap, c1 = .slice p n cap ∧ n ≤ cap ∧ n ≤ 17592186044416) ∧ ∃ p n cap, c3 = .slice p n cap ∧ n ≤ 8796093022208
theorem open_fnN {c0 c1 c2 c3 : Value} (h : DataW.trod enc Tryz.prog W 0 (fun _ => true) true fuel 119 [c0, c1, c2, c3] = some x) (hs : ∀ n ∈ x.1.weights Tryz.prog 119, n ≤ reachBytes) : ∃ f : Fn, FnAt W c0 c1 c2 c3 f ∧ FnFull c1 c3 := by
  obtain ⟨y0, y1, y2, y3, n, hx, _, h0, h1, h2, h3⟩ := Go.Joins.trod_struct4 Tryz.underlying119 h
  simp [xg0Z, xh4Z, cells_ops] at h0 h1 h2 h3
  have hx1 := congrArg Prod.fst hx
  simp only at hx1
  rw [hx1] at hs
  simp only [DataW.weights, Tryz.underlying119] at hs
  obtain ⟨P, e0, _⟩ := DataW.trod_int Tryz.underlying3 h0
  obtain ⟨R, e2, _⟩ := DataW.trod_int Tryz.underlying3 h2
  obtain ⟨L, hL, nL, zL, pL, qL, capL, eL, lL⟩ := xh9Z h1 (fun n hn => hs n (by simp [DataW.weightsEach, hn]))
  obtain ⟨C, hC, nC, zC⟩ := open_opsN h3 (fun n hn => hs n (by simp [DataW.weightsEach, hn]))
  simp at e0 e2
  have hLs : qL = L.length := by obtain ⟨_, _, e, _⟩ := hL; rw [eL] at e; cases e; rfl
  obtain ⟨pC, capC, eC, _, _⟩ := id hC
  exact ⟨(P, L, R, C), ⟨e0, hL, e2, hC⟩, nL, nC, ⟨pL, qL, capL, eL, lL, by rw [hLs]; exact zL⟩, ⟨pC, _, capC, eC, zC⟩⟩
structure ProgFull (W : World) (v : Value) (l : List Fn) : Prop where
  at_ : FnsAt W v l
  nil : NilOk v
  len : l.length ≤ 2199023255488
  each : ∀ (b off n cap k : Nat) (c1 c3 : Value), v = .slice (some ⟨b, off, none⟩) n cap → k < n → W.cell? ⟨b, off + k * 4 + 1, none⟩ = some c1 → W.cell? ⟨b, off + k * 4 + 3, none⟩ = some c3 → FnFull c1 c3
theorem ProgFull.cap {W : World} {v : Value} {l : List Fn} (h : ProgFull W v l) : CapAt W v := by
  intro b off n cap k p' n' c' hv hk hc
  obtain ⟨p, cap2, hv2, hm, hcc⟩ := h.at_
  rw [hv] at hv2
  cases hv2
  obtain ⟨f, hf⟩ := xaiZ (l := l) hk
  obtain ⟨b2, off2, c0, c1, c2, c3, hp, hlt, _, _, _, g3, _⟩ := hcc k f hf
  cases hp
  obtain ⟨_, _, ⟨p1, n1, cap1, e1, h1, _⟩, _⟩ := h.each b off l.length cap k _ _ hv hk hc g3
  cases e1
  exact h1
theorem open_fnsD {c : Value} (h : DataW.trod enc Tryz.prog W 0 (fun _ => true) true fuel 22 [c] = some x) (hs : ∀ n ∈ x.1.weights Tryz.prog 22, n ≤ reachBytes) : ∃ l : List Fn, ProgFull W c l := by
  rcases Deep.open_slice Tryz.underlying22 h with ⟨hcs, hx⟩ | ⟨a, len', cap', m, n, D, Pl, hcs, hb, hl, hm, hmm, hx, hc⟩
  · simp at hcs
    subst hcs
    exact ⟨[], ⟨none, 0, rfl, Nat.zero_le _, fun k o hk => by simp at hk⟩, xe9Z, by simp, fun b off n cap k c1 c3 hv => by cases hv⟩
  · simp at hcs
    subst hcs
    simp only [if_true] at hmm
    subst hmm
    rw [hx] at hs
    simp only [DataW.weights, Tryz.underlying22] at hs
    have hlen : len' ≤ 2199023255488 := by
      have h1 := hs _ (List.mem_cons_self ..)
      rw [bytes_fn] at h1
      simp [reachBytes] at h1
      omega
    have each : ∀ i, i < len' → ∃ q : FnV × Fn, W.cell? (a.add (i * 4)) = some q.1.1 ∧ W.cell? (a.add (i * 4 + 1)) = some q.1.2.1 ∧ W.cell? (a.add (i * 4 + 2)) = some q.1.2.2.1 ∧ W.cell? (a.add (i * 4 + 3)) = some q.1.2.2.2 ∧ FnAt W q.1.1 q.1.2.1 q.1.2.2.1 q.1.2.2.2 q.2 ∧ FnFull q.1.2.1 q.1.2.2.2 := by
      intro i hi
      obtain ⟨cs', h1, h2⟩ := hc i (by omega)
      rw [cells_fn] at h1
      obtain ⟨_, hlen, hcell⟩ := World.cells?_some h1
      match cs', hlen with
      | [c0, c1, c2, c3], _ =>
        obtain ⟨f, hf, hff⟩ := open_fnN (x := (D i, Pl i)) h2 (fun n hn => hs n (List.mem_cons_of_mem _ (List.mem_append_left _ (xexZ (List.mem_map.2 ⟨i, List.mem_range.2 hi, rfl⟩) n hn))))
        have e0 := hcell 0 (by omega)
        have e1 := hcell 1 (by omega)
        have e2 := hcell 2 (by omega)
        have e3 := hcell 3 (by omega)
        rw [Deep.add_add] at e0 e1 e2 e3
        exact ⟨((c0, c1, c2, c3), f), by simpa using e0, by simpa using e1, by simpa using e2, by simpa using e3, hf, hff⟩
    obtain ⟨q, hq⟩ := Deep.choose_lt each
    obtain ⟨b, off, spot⟩ := a
    refine ⟨(List.range len').map fun i => (q i).2, ⟨some ⟨b, off, spot⟩, m, by simp, by simp; omega, fun k f hk => ?_⟩, xazZ _ _ _, by simpa using hlen, ?_⟩
    · have hk1 : k < len' := by have := xcwZ hk; simpa using this
      have ho : f = (q k).2 := by simp [hk1] at hk; exact hk.symm
      obtain ⟨c0, c1, c2, c3, hf, _⟩ := hq k hk1
      have hs0 := (hq 0 (by omega)).1
      have hspot : spot = none := by simpa [Addr.add] using World.cell?_spot hs0
      subst hspot
      rw [xegZ] at c0 c1 c2 c3
      exact ⟨b, off, _, _, _, _, rfl, xc2Z c0, c0, c1, c2, c3, by rw [ho]; exact hf⟩
    · intro b' off' n' cap' k c1 c3 hv hk g1 g3
      cases hv
      obtain ⟨_, d1, _, d3, _, hff⟩ := hq k hk
      rw [xegZ] at d1 d3
      rw [show off + (k * 4 + 1) = off + k * 4 + 1 by omega, g1] at d1
      rw [show off + (k * 4 + 3) = off + k * 4 + 3 by omega, g3] at d3
      cases d1
      cases d3
      exact hff
theorem xleZ {base : Nat} {r : Reach} {v : Value} {d : DataW H} {p : List MemPlace} (hv : Value.okWide Tryz.prog W r base 24 v) (h : DataW.Trod enc Tryz.prog W 0 (fun _ => true) true 24 v d p) (hs : ∀ n ∈ d.weights Tryz.prog 24, n ≤ reachBytes) :
    ∃ (c : Value) (l : List Fn), v = .agg #[c] ∧ ProgFull W c l := by
  obtain ⟨cs, rfl, hsz⟩ := okWide_struct Tryz.underlying24 hv
  rw [cells_prog] at hsz
  obtain ⟨cs⟩ := cs
  match cs, hsz with
  | [c], _ =>
    obtain ⟨fuel, hf⟩ := h
    obtain ⟨y0, n, hx, _, h0⟩ := trod_struct1 Tryz.underlying24 hf
    simp [cells_fns, Value.cells] at h0
    have hx1 := congrArg Prod.fst hx
    simp only at hx1
    rw [hx1] at hs
    simp only [DataW.weights, Tryz.underlying24] at hs
    obtain ⟨l, hl⟩ := open_fnsD h0 (fun n hn => hs n (by simp [DataW.weightsEach, hn]))
    exact ⟨c, l, rfl, hl⟩
end
end Go.Proofs.YtmjjkenblfndgaaGreat


/- Machines that came in. -/
namespace Go.Proofs.YtmjjkenblfndgaaGreat
open Go.ChangeShapes Go.WideShapes Go.ChangeAt Go.RowKit
set_option linter.unusedVariables false
set_option linter.unusedSimpArgs false
section
variable {H : Type} {enc : TypeId × Value → H} {W : World} {fuel : Nat} {x : DataW H × List MemPlace}
theorem bytes_val : Tryz.prog.bytesOf 113 = 16 := by kernel_rfl
theorem bytes_frm : Tryz.prog.bytesOf 89 = 64 := by kernel_rfl
theorem cells_vals : Tryz.prog.cellsOf 87 = 1 := by kernel_rfl
theorem cells_frm : Tryz.prog.cellsOf 89 = 4 := by kernel_rfl
theorem cells_frms : Tryz.prog.cellsOf 44 = 1 := by kernel_rfl
theorem cells_blks : Tryz.prog.cellsOf 45 = 1 := by kernel_rfl
theorem cells_mach : Tryz.prog.cellsOf 48 = 6 := by kernel_rfl
def boolOf : Value → Bool
  | .bool b => b
  | _ => false
theorem xlfZ {c : Value} (h : DataW.trod enc Tryz.prog W 0 (fun _ => true) true fuel 87 [c] = some x) (hs : ∀ n ∈ x.1.weights Tryz.prog 87, n ≤ reachBytes) : ∃ l : List Val, ValsAt W c l ∧ NilOk c ∧ l.length ≤ 8796093022208 := by
  rcases Deep.open_slice_pairs Tryz.underlying87 Tryz.underlying113 (by kernel_rfl) rfl rfl (by kernel_rfl) (by kernel_rfl) h with ⟨hcs, hx⟩ | ⟨a, len', cap', m, n, V0, V1, D0, D1, P0, P1, hcs, hb, hl, hm, hmm, hx, hc⟩
  · simp at hcs
    subst hcs
    exact ⟨[], ⟨none, 0, rfl, Nat.zero_le _, fun k o hk => by simp at hk⟩, xe9Z, by simp⟩
  · simp at hcs
    subst hcs
    simp only [if_true] at hmm
    subst hmm
    have hlen : len' ≤ 8796093022208 := by
      have hx1 := congrArg Prod.fst hx
      simp only at hx1
      rw [hx1] at hs
      simp only [DataW.weights, Tryz.underlying87] at hs
      have h1 := hs _ (List.mem_cons_self ..)
      rw [bytes_val] at h1
      simp [reachBytes] at h1
      omega
    refine ⟨(List.range len').map fun i => (boolOf (V0 i), intOf (V1 i)), ⟨some a, m, by simp, by simp; omega, fun k o hk => ?_⟩, xazZ _ _ _, by simpa using hlen⟩
    have hk1 : k < len' := by have := xcwZ hk; simpa using this
    have ho : o = (boolOf (V0 k), intOf (V1 k)) := by simp [hk1] at hk; exact hk.symm
    obtain ⟨c0, c1, t0, t1⟩ := hc k (by omega)
    obtain ⟨x, e0, _⟩ := DataW.trod_bool Tryz.underlying4 t0
    obtain ⟨y, e1, _, wy⟩ := DataW.trod_int Tryz.underlying3 t1
    simp at e0 e1
    obtain ⟨b, off, spot⟩ := a
    have hs0 := (hc 0 (by omega)).1
    have hspot : spot = none := by simpa [Addr.add] using World.cell?_spot hs0
    subst hspot
    rw [xegZ] at c0 c1
    rw [e0] at c0
    rw [e1] at c1
    exact ⟨b, off, rfl, xc2Z c0, by rw [ho, e0]; exact c0, by rw [ho, e1]; exact c1⟩
instance : Inhabited Frm := ⟨⟨0, 0, [], []⟩⟩
theorem open_frmN {c0 c1 c2 c3 : Value} (h : DataW.trod enc Tryz.prog W 0 (fun _ => true) true fuel 89 [c0, c1, c2, c3] = some x) (hs : ∀ n ∈ x.1.weights Tryz.prog 89, n ≤ reachBytes) : ∃ f : Frm, c0 = .int .i64 f.fn ∧ c1 = .int .i64 f.pc ∧ ValsAt W c2 f.loc ∧ NilOk c2 ∧ ValsAt W c3 f.stk ∧ NilOk c3 ∧ f.loc.length ≤ 8796093022208 ∧ f.stk.length ≤ 8796093022208 ∧ -9223372036854775808 ≤ f.pc ∧ f.pc ≤ 9223372036854775807 := by
  obtain ⟨y0, y1, y2, y3, n, hx, _, h0, h1, h2, h3⟩ := Go.Joins.trod_struct4 Tryz.underlying89 h
  simp [xg0Z, cells_vals] at h0 h1 h2 h3
  have hx1 := congrArg Prod.fst hx
  simp only at hx1
  rw [hx1] at hs
  simp only [DataW.weights, Tryz.underlying89] at hs
  obtain ⟨P, e0, _⟩ := DataW.trod_int Tryz.underlying3 h0
  obtain ⟨R, e1, _, wR⟩ := DataW.trod_int Tryz.underlying3 h1
  have hR : -9223372036854775808 ≤ R ∧ R ≤ 9223372036854775807 := by simpa [Lit.wf, IntKind.min, IntKind.max, IntKind.bits, IntKind.signed] using wR
  obtain ⟨L, hL, nL, zL⟩ := xlfZ h2 (fun n hn => hs n (by simp [DataW.weightsEach, hn]))
  obtain ⟨C, hC, nC, zC⟩ := xlfZ h3 (fun n hn => hs n (by simp [DataW.weightsEach, hn]))
  simp at e0 e1
  exact ⟨⟨P, R, L, C⟩, e0, e1, hL, nL, hC, nC, zL, zC, hR.1, hR.2⟩
def FrmsLong (F : List Frm) : Prop := F.length ≤ 2199023255488 ∧ ∀ x ∈ F, x.loc.length ≤ 8796093022208 ∧ x.stk.length ≤ 8796093022208 ∧ -9223372036854775808 ≤ x.pc ∧ x.pc ≤ 9223372036854775807
theorem open_frmsC {c : Value} (h : DataW.trod enc Tryz.prog W 0 (fun _ => true) true fuel 44 [c] = some x) (hs : ∀ n ∈ x.1.weights Tryz.prog 44, n ≤ reachBytes) : ∃ F : List Frm, FrmsAt W c F ∧ NilOk c ∧ FrmsLong F := by
  rcases Deep.open_slice Tryz.underlying44 h with ⟨hcs, hx⟩ | ⟨a, len', cap', m, n, D, Pl, hcs, hb, hl, hm, hmm, hx, hc⟩
  · simp at hcs
    subst hcs
    exact ⟨[], ⟨none, 0, rfl, Nat.zero_le _, Nat.zero_le _, fun k o hk => by simp at hk⟩, xe9Z, by simp [FrmsLong]⟩
  · simp at hcs
    subst hcs
    simp only [if_true] at hmm
    subst hmm
    rw [hx] at hs
    simp only [DataW.weights, Tryz.underlying44] at hs
    have hlen : len' ≤ 2199023255488 := by
      have h1 := hs _ (List.mem_cons_self ..)
      rw [bytes_frm] at h1
      simp [reachBytes] at h1
      omega
    have each : ∀ i, i < len' → ∃ q : (Value × Value) × Frm, W.cell? (a.add (i * 4)) = some (.int .i64 q.2.fn) ∧ W.cell? (a.add (i * 4 + 1)) = some (.int .i64 q.2.pc) ∧ W.cell? (a.add (i * 4 + 2)) = some q.1.1 ∧ W.cell? (a.add (i * 4 + 3)) = some q.1.2 ∧ ValsAt W q.1.1 q.2.loc ∧ NilOk q.1.1 ∧ ValsAt W q.1.2 q.2.stk ∧ NilOk q.1.2 ∧ q.2.loc.length ≤ 8796093022208 ∧ q.2.stk.length ≤ 8796093022208 ∧ -9223372036854775808 ≤ q.2.pc ∧ q.2.pc ≤ 9223372036854775807 := by
      intro i hi
      obtain ⟨cs', h1, h2⟩ := hc i (by omega)
      rw [cells_frm] at h1
      obtain ⟨_, hlen, hcell⟩ := World.cells?_some h1
      match cs', hlen with
      | [c0, c1, c2, c3], _ =>
        obtain ⟨f, rfl, rfl, g2, g3, g4, g5, g6, g7⟩ := open_frmN (x := (D i, Pl i)) h2 (fun n hn => hs n (List.mem_cons_of_mem _ (List.mem_append_left _ (xexZ (List.mem_map.2 ⟨i, List.mem_range.2 hi, rfl⟩) n hn))))
        have e0 := hcell 0 (by omega)
        have e1 := hcell 1 (by omega)
        have e2 := hcell 2 (by omega)
        have e3 := hcell 3 (by omega)
        rw [Deep.add_add] at e0 e1 e2 e3
        exact ⟨((c2, c3), f), by simpa using e0, by simpa using e1, by simpa using e2, by simpa using e3, g2, g3, g4, g5, g6, g7⟩
    obtain ⟨q, hq⟩ := Deep.choose_lt each
    refine ⟨(List.range len').map fun i => (q i).2, ⟨some a, m, by simp, by simp; omega, by simpa using hl, fun k f hk => ?_⟩, xazZ _ _ _, by simpa using hlen, fun f hf => ?_⟩
    · have hk1 : k < len' := by have := xcwZ hk; simpa using this
      have ho : f = (q k).2 := by simp [hk1] at hk; exact hk.symm
      obtain ⟨c0, c1, c2, c3, f1, f2, f3, f4, _⟩ := hq k (by omega)
      obtain ⟨b, off, spot⟩ := a
      have hs0 := (hq 0 (by omega)).1
      have hspot : spot = none := by simpa [Addr.add] using World.cell?_spot hs0
      subst hspot
      rw [xegZ] at c0 c1 c2 c3
      rw [ho]
      exact ⟨b, off, _, _, rfl, xc2Z c0, c0, c1, c2, c3, f1, f2, f3, f4⟩
    · obtain ⟨i, hi, rfl⟩ := List.mem_map.1 hf
      obtain ⟨_, _, _, _, _, _, _, _, g6, g7⟩ := hq i (List.mem_range.1 hi)
      exact ⟨g6, g7⟩
structure MachLong (M : Mach) : Prop where
  fr : FrmsLong M.frames
  inp : M.inp.length ≤ 17592186044416
  out : M.out.length ≤ 17592186044416
theorem xinZ {c : Value} (h : DataW.trod enc Tryz.prog W 0 (fun _ => true) true fuel 46 [c] = some x) (hs : ∀ n ∈ x.1.weights Tryz.prog 46, n ≤ reachBytes) : ∃ l : List Int, FullInts W c l ∧ l.length ≤ 17592186044416 := by
  obtain ⟨L, hL, nL, zL, pL, qL, capL, eL, lL⟩ := xh9Z h hs
  refine ⟨L, ⟨hL, nL, fun p n c e => ?_⟩, zL⟩
  rw [eL] at e
  cases e
  exact lL
theorem xiaZ {base : Nat} {r : Reach} {v : Value} {d : DataW H} {p : List MemPlace} (hv : Value.okWide Tryz.prog W r base 48 v) (h : DataW.Trod enc Tryz.prog W 0 (fun _ => true) true 48 v d p) (hs : ∀ n ∈ d.weights Tryz.prog 48, n ≤ reachBytes) :
    ∃ (fv bv iv ov : Value) (M : Mach), v = .agg #[fv, bv, iv, ov, .int .i64 M.status, .int .i64 M.trap] ∧ MachAt W fv bv iv ov M ∧ MachLong M := by
  obtain ⟨cs, rfl, hsz⟩ := okWide_struct Tryz.underlying48 hv
  rw [cells_mach] at hsz
  obtain ⟨cs⟩ := cs
  match cs, hsz with
  | [c0, c1, c2, c3, c4, c5], _ =>
    obtain ⟨fuel, hf⟩ := h
    obtain ⟨xs, n, _, hx, hl, hlen, hg⟩ := DataW.trod_struct Tryz.underlying48 hf
    match xs, hlen with
    | [y0, y1, y2, y3, y4, y5], _ =>
      have h0 := hg 0 _ rfl
      have h1 := hg 1 _ rfl
      have h2 := hg 2 _ rfl
      have h3 := hg 3 _ rfl
      have h4 := hg 4 _ rfl
      have h5 := hg 5 _ rfl
      simp [cells_frms, cells_blks, xh4Z, xg0Z, Value.cells] at h0 h1 h2 h3 h4 h5
      have hx1 := congrArg Prod.fst hx
      simp only at hx1
      rw [hx1] at hs
      simp only [DataW.weights, Tryz.underlying48] at hs
      obtain ⟨F, hF, nF, zF⟩ := open_frmsC h0 (fun n hn => hs n (by simp [DataW.weightsEach, hn]))
      obtain ⟨B, hB⟩ := open_blksC h1 (fun n hn => hs n (by simp [DataW.weightsEach, hn]))
      obtain ⟨I, hI, zI⟩ := xinZ h2 (fun n hn => hs n (by simp [DataW.weightsEach, hn]))
      obtain ⟨O, hO, zO⟩ := xinZ h3 (fun n hn => hs n (by simp [DataW.weightsEach, hn]))
      obtain ⟨st, e4, _⟩ := DataW.trod_int Tryz.underlying3 h4
      obtain ⟨tr, e5, _⟩ := DataW.trod_int Tryz.underlying3 h5
      simp at e4 e5
      subst e4 e5
      exact ⟨c0, c1, c2, c3, ⟨F, B, I, O, st, tr⟩, rfl, ⟨hF, hB, hI, hO⟩, zF, zI, zO⟩
end
end Go.Proofs.YtmjjkenblfndgaaGreat


