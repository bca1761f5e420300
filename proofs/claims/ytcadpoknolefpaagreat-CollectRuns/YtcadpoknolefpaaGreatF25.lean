/- My texts Qo Qp Ue Uc: what of them is needed, joined. -/

import Derived.Test.YtcadpoknolefpaaGreatF10
import Derived.Test.YtcadpoknolefpaaGreatF24
set_option maxRecDepth 100000
set_option maxHeartbeats 8000000
/- A machine that is collected steps as it did, plainly (chapter 8). -/
namespace Go.Proofs.YtcadpoknolefpaaGreat
open Go.RowKit
set_option linter.unusedSimpArgs false
set_option linter.unusedVariables false
def OkS (S : List Int) (v : Val) : Prop := v.1 = true → v.2 ≠ 0 → v.2 ∈ S
theorem xe9Z {S : List Int} {v : Val} (h : v.1 = false) : OkS S v := fun h1 => by rw [h] at h1; cases h1
theorem xa8Z {S : List Int} {m : Mach} : xbeZ S m ↔ ∀ x ∈ m.frames, (∀ v ∈ x.loc, OkS S v) ∧ ∀ v ∈ x.stk, OkS S v := by
  constructor
  · intro h x hx
    refine ⟨fun v hv h1 h2 => ?_, fun v hv h1 h2 => ?_⟩
    all_goals
      obtain ⟨b, r⟩ := v
      simp only at h1 h2
      subst h1
    · exact h r (xdfZ.2 ⟨h2, x, hx, .inl hv⟩)
    · exact h r (xdfZ.2 ⟨h2, x, hx, .inr hv⟩)
  · intro h r hr
    obtain ⟨h0, x, hx, hv⟩ := xdfZ.1 hr
    rcases hv with hv | hv
    · exact (h x hx).1 _ hv rfl h0
    · exact (h x hx).2 _ hv rfl h0
theorem xcuZ (S : List Int) (l : List Val) (j : Nat) : topV (l.map (mvV S)) j = mvV S (topV l j) := by
  unfold topV
  rw [List.length_map, List.getD_eq_getElem?_getD, List.getD_eq_getElem?_getD, List.getElem?_map]
  cases l[l.length - 1 - j]? with
  | none => rfl
  | some v => rfl
theorem xclZ (S : List Int) (l : List Val) (n : Nat) : cutV (l.map (mvV S)) n = (cutV l n).map (mvV S) := by simp [cutV, List.map_take]
theorem getD_mv (S : List Int) (l : List Val) (n : Nat) : (l.map (mvV S)).getD n (false, 0) = mvV S (l.getD n (false, 0)) := by
  rw [List.getD_eq_getElem?_getD, List.getD_eq_getElem?_getD, List.getElem?_map]
  cases l[n]? with
  | none => rfl
  | some v => rfl
theorem okS_getD {S : List Int} {l : List Val} (h : ∀ v ∈ l, OkS S v) (n : Nat) : OkS S (l.getD n (false, 0)) := by
  rw [List.getD_eq_getElem?_getD]
  cases hn : l[n]? with
  | none => exact xe9Z rfl
  | some v => exact h v (List.mem_of_getElem? hn)
theorem xegZ {S : List Int} {l : List Val} (h : ∀ v ∈ l, OkS S v) (j : Nat) : OkS S (topV l j) := okS_getD h _
theorem xcaZ {S : List Int} {l : List Val} (h : ∀ v ∈ l, OkS S v) (n : Nat) : ∀ v ∈ cutV l n, OkS S v := fun v hv => h v (xlhZ hv)
theorem xcsZ {S : List Int} {l r : List Val} (h : ∀ v ∈ l, OkS S v) (k : ∀ v ∈ r, OkS S v) : ∀ v ∈ l ++ r, OkS S v := fun v hv => by
  rcases List.mem_append.1 hv with hv | hv
  · exact h v hv
  · exact k v hv
theorem xd7Z {S : List Int} {u : Val} (h : OkS S u) : ∀ v ∈ [u], OkS S v := fun v hv => by simp at hv; subst hv; exact h
theorem okS_two {S : List Int} {u z : Val} (h : OkS S u) (k : OkS S z) : ∀ v ∈ [u, z], OkS S v := fun v hv => by
  simp at hv
  rcases hv with rfl | rfl
  · exact h
  · exact k
theorem xc3Z {α : Type} {l : List α} {x : α} (h : x ∈ l.dropLast) : x ∈ l := List.dropLast_subset l h
theorem xh3Z (S : List Int) (m : Mach) (x' : Frm) : restr S (putF m x') = putF (restr S m) (mvF S x') := by
  simp [restr, putF, List.map_dropLast]
theorem xg2Z {S : List Int} {m : Mach} {x' : Frm} (h : xbeZ S m) (hl : ∀ v ∈ x'.loc, OkS S v) (hs : ∀ v ∈ x'.stk, OkS S v) : xbeZ S (putF m x') := by
  rw [xa8Z] at h ⊢
  intro y hy
  simp only [putF, List.mem_append, List.mem_singleton] at hy
  rcases hy with hy | rfl
  · exact h y (xc3Z hy)
  · exact ⟨hl, hs⟩
def Moves (S : List Int) (p : List Fn) (m : Mach) (x : Frm) (o : Int × Int) : Prop := ∃ S', xbeZ S' (doOp p m x o) ∧ doOp p (restr S m) (mvF S x) o = restr S' (doOp p m x o)
section
variable {p : List Fn} {e : Nat → Nat → Option (List Int)} {m : Mach} {x : Frm} {k : Nat} {f : Fn} {pc : Nat} {s out : List Int} {o : Int × Int} {S : List Int}
theorem xjbZ {a b : Frm} (hS : xbeZ S m) (h1 : doOp p m x o = putF m a) (h2 : doOp p (restr S m) (mvF S x) o = putF (restr S m) b) (h3 : b = mvF S a) (hl : ∀ v ∈ a.loc, OkS S v) (hs : ∀ v ∈ a.stk, OkS S v) : Moves S p m x o :=
  ⟨S, by rw [h1]; exact xg2Z hS hl hs, by rw [h1, h2, h3, xh3Z]⟩
theorem xdqZ {ST ST' : List Val} (hS : xbeZ S m) (hx : x ∈ m.frames) (h1 : doOp p m x o = onF m x ST) (h2 : doOp p (restr S m) (mvF S x) o = onF (restr S m) (mvF S x) ST') (h3 : ST' = ST.map (mvV S)) (hs : ∀ v ∈ ST, OkS S v) : Moves S p m x o := by
  refine xjbZ hS h1 h2 ?_ ((xa8Z.1 hS x hx).1) hs
  rw [h3]; rfl
theorem xe0Z {why : Int} (hS : xbeZ S m) (h1 : doOp p m x o = trapM m why) (h2 : doOp p (restr S m) (mvF S x) o = trapM (restr S m) why) : Moves S p m x o :=
  ⟨S, by rw [h1]; exact hS, by rw [h1, h2]; rfl⟩
theorem xa7Z {x : Frm} {m : Mach} (h : m.frames.getLast? = some x) : x ∈ m.frames := List.mem_of_getLast? h
theorem xfwZ (h : AtOp p e m x k f pc s out o) {t l : List Int} (htl : xaeZ p f o s = some (t, l)) (j : Nat) (hj : j < t.length) (h1 : t[t.length - 1 - j]? = some 1) : (topV x.stk j).1 = false := by
  obtain ⟨a, b⟩ := xbiZ h.stk h.try_ htl
  obtain ⟨hm, u, hu, hv⟩ := xhdZ b a j hj
  rw [h1] at hu
  cases hu
  exact asT_int hv
theorem xksZ (h : AtOp p e m x k f pc s out o) {t l : List Int} (htl : xaeZ p f o s = some (t, l)) (j : Nat) (hj : j < t.length) (h1 : t[t.length - 1 - j]? = some 2) : (topV x.stk j).1 = true := by
  obtain ⟨a, b⟩ := xbiZ h.stk h.try_ htl
  obtain ⟨hm, u, hu, hv⟩ := xhdZ b a j hj
  rw [h1] at hu
  cases hu
  exact asT_ref hv
theorem moved1 (h : AtOp p e m x k f pc s out o) (hS : xbeZ S m) (hc : o.1 = 1) : Moves S p m x o := by
  obtain ⟨hl, hs⟩ := xa8Z.1 hS x (xa7Z h.last)
  exact xdqZ hS (xa7Z h.last) (ST := x.stk ++ [(false, o.2)]) (ST' := (mvF S x).stk ++ [(false, o.2)]) (by simp [doOp, hc]) (by simp [doOp, hc]) (by simp [mvF, mvV]) (xcsZ hs (xd7Z (xe9Z rfl)))
theorem moved2 (h : AtOp p e m x k f pc s out o) (hS : xbeZ S m) (hc : o.1 = 2) : Moves S p m x o := by
  obtain ⟨hl, hs⟩ := xa8Z.1 hS x (xa7Z h.last)
  exact xdqZ hS (xa7Z h.last) (ST := cutV x.stk 1) (ST' := cutV (mvF S x).stk 1) (by simp [doOp, hc]) (by simp [doOp, hc]) (by simp [mvF, xclZ]) (xcaZ hs _)
theorem moved3 (h : AtOp p e m x k f pc s out o) (hS : xbeZ S m) (hc : o.1 = 3) : Moves S p m x o := by
  obtain ⟨hl, hs⟩ := xa8Z.1 hS x (xa7Z h.last)
  exact xdqZ hS (xa7Z h.last) (ST := cutV x.stk 1 ++ [topV x.stk 0, topV x.stk 0]) (ST' := cutV (mvF S x).stk 1 ++ [topV (mvF S x).stk 0, topV (mvF S x).stk 0]) (by simp [doOp, hc]) (by simp [doOp, hc]) (by simp [mvF, xclZ, xcuZ]) (xcsZ (xcaZ hs _) (okS_two (xegZ hs _) (xegZ hs _)))
theorem moved4 (h : AtOp p e m x k f pc s out o) (hS : xbeZ S m) (hc : o.1 = 4) : Moves S p m x o := by
  obtain ⟨hl, hs⟩ := xa8Z.1 hS x (xa7Z h.last)
  exact xdqZ hS (xa7Z h.last) (ST := cutV x.stk 2 ++ [topV x.stk 0, topV x.stk 1]) (ST' := cutV (mvF S x).stk 2 ++ [topV (mvF S x).stk 0, topV (mvF S x).stk 1]) (by simp [doOp, hc]) (by simp [doOp, hc]) (by simp [mvF, xclZ, xcuZ]) (xcsZ (xcaZ hs _) (okS_two (xegZ hs _) (xegZ hs _)))
theorem moved567 (h : AtOp p e m x k f pc s out o) (hS : xbeZ S m) (hc : o.1 = 5 ∨ o.1 = 6 ∨ o.1 = 7) : Moves S p m x o := by
  obtain ⟨hl, hs⟩ := xa8Z.1 hS x (xa7Z h.last)
  have htl : xaeZ p f o s = some ([1, 1], [1]) := by rcases hc with hc | hc | hc <;> simp [xaeZ, hc, xapZ, xarZ]
  have i0 := xfwZ h htl 0 (by simp) rfl
  have i1 := xfwZ h htl 1 (by simp) rfl
  have e0 : topV (mvF S x).stk 0 = topV x.stk 0 := by simp [mvF, xcuZ, xfuZ i0]
  have e1 : topV (mvF S x).stk 1 = topV x.stk 1 := by simp [mvF, xcuZ, xfuZ i1]
  have e2 : cutV (mvF S x).stk 2 = (cutV x.stk 2).map (mvV S) := by simp [mvF, xclZ]
  rcases hc with hc | hc | hc
  · exact xdqZ hS (xa7Z h.last) (ST := cutV x.stk 2 ++ [(false, wrap32 ((topV x.stk 1).2 + (topV x.stk 0).2))]) (ST' := cutV (mvF S x).stk 2 ++ [(false, wrap32 ((topV (mvF S x).stk 1).2 + (topV (mvF S x).stk 0).2))]) (by simp [doOp, hc]) (by simp [doOp, hc]) (by rw [e0, e1, e2]; simp [mvV]) (xcsZ (xcaZ hs _) (xd7Z (xe9Z rfl)))
  · exact xdqZ hS (xa7Z h.last) (ST := cutV x.stk 2 ++ [(false, wrap32 ((topV x.stk 1).2 - (topV x.stk 0).2))]) (ST' := cutV (mvF S x).stk 2 ++ [(false, wrap32 ((topV (mvF S x).stk 1).2 - (topV (mvF S x).stk 0).2))]) (by simp [doOp, hc]) (by simp [doOp, hc]) (by rw [e0, e1, e2]; simp [mvV]) (xcsZ (xcaZ hs _) (xd7Z (xe9Z rfl)))
  · exact xdqZ hS (xa7Z h.last) (ST := cutV x.stk 2 ++ [(false, wrap32 ((topV x.stk 1).2 * (topV x.stk 0).2))]) (ST' := cutV (mvF S x).stk 2 ++ [(false, wrap32 ((topV (mvF S x).stk 1).2 * (topV (mvF S x).stk 0).2))]) (by simp [doOp, hc]) (by simp [doOp, hc]) (by rw [e0, e1, e2]; simp [mvV]) (xcsZ (xcaZ hs _) (xd7Z (xe9Z rfl)))
theorem moved8 (h : AtOp p e m x k f pc s out o) (hS : xbeZ S m) (hc : o.1 = 8) : Moves S p m x o := by
  obtain ⟨hl, hs⟩ := xa8Z.1 hS x (xa7Z h.last)
  exact xdqZ hS (xa7Z h.last) (ST := x.stk ++ [x.loc.getD o.2.toNat (false, 0)]) (ST' := (mvF S x).stk ++ [(mvF S x).loc.getD o.2.toNat (false, 0)]) (by simp [doOp, hc]) (by simp [doOp, hc]) (by simp only [mvF, List.map_append, List.map_cons, List.map_nil, getD_mv]) (xcsZ hs (xd7Z (okS_getD hl _)))
theorem moved9 (h : AtOp p e m x k f pc s out o) (hS : xbeZ S m) (hc : o.1 = 9) : Moves S p m x o := by
  obtain ⟨hl, hs⟩ := xa8Z.1 hS x (xa7Z h.last)
  refine xjbZ hS (a := { x with pc := x.pc + 1, loc := x.loc.set o.2.toNat (topV x.stk 0), stk := cutV x.stk 1 }) (b := { mvF S x with pc := (mvF S x).pc + 1, loc := (mvF S x).loc.set o.2.toNat (topV (mvF S x).stk 0), stk := cutV (mvF S x).stk 1 }) (by simp [doOp, hc]) (by simp [doOp, hc]) ?_ (fun v hv => ?_) (xcaZ hs _)
  · refine xexZ rfl rfl ?_ (xclZ S x.stk 1)
    simp only [mvF, xcuZ, List.map_set]
  · rcases List.mem_or_eq_of_mem_set hv with hv | rfl
    · exact hl v hv
    · exact xegZ hs _
theorem moved10 (h : AtOp p e m x k f pc s out o) (hS : xbeZ S m) (hc : o.1 = 10) : Moves S p m x o := by
  obtain ⟨hl, hs⟩ := xa8Z.1 hS x (xa7Z h.last)
  exact xjbZ hS (a := { x with pc := o.2 }) (b := { mvF S x with pc := o.2 }) (by simp [doOp, hc]) (by simp [doOp, hc]) rfl hl hs
theorem moved11 (h : AtOp p e m x k f pc s out o) (hS : xbeZ S m) (hc : o.1 = 11) : Moves S p m x o := by
  obtain ⟨hl, hs⟩ := xa8Z.1 hS x (xa7Z h.last)
  have htl : xaeZ p f o s = some ([1], []) := by simp [xaeZ, hc, xapZ, xarZ]
  have i0 := xfwZ h htl 0 (by simp) rfl
  have e0 : topV (mvF S x).stk 0 = topV x.stk 0 := by simp [mvF, xcuZ, xfuZ i0]
  refine xjbZ hS (a := { x with pc := if (topV x.stk 0).2 = 0 then o.2 else x.pc + 1, stk := cutV x.stk 1 }) (b := { mvF S x with pc := if (topV (mvF S x).stk 0).2 = 0 then o.2 else (mvF S x).pc + 1, stk := cutV (mvF S x).stk 1 }) (by simp [doOp, hc]) (by simp [doOp, hc]) ?_ hl (xcaZ hs _)
  rw [e0]
  exact xexZ rfl rfl rfl (xclZ S x.stk 1)
theorem moved18 (h : AtOp p e m x k f pc s out o) (hS : xbeZ S m) (hc : o.1 = 18) : Moves S p m x o := by
  obtain ⟨hl, hs⟩ := xa8Z.1 hS x (xa7Z h.last)
  exact xdqZ hS (xa7Z h.last) (ST := x.stk ++ [(true, 0)]) (ST' := (mvF S x).stk ++ [(true, 0)]) (by simp [doOp, hc]) (by simp [doOp, hc]) (by simp [mvF, mvV, xgrZ]) (xcsZ hs (xd7Z (fun _ h0 => absurd rfl h0)))
theorem moved20 (h : AtOp p e m x k f pc s out o) (hS : xbeZ S m) (hc : o.1 = 20) : Moves S p m x o := by
  obtain ⟨hl, hs⟩ := xa8Z.1 hS x (xa7Z h.last)
  have htl : xaeZ p f o s = some ([1], []) := by simp [xaeZ, hc, xapZ, xarZ]
  have i0 := xfwZ h htl 0 (by simp) rfl
  have e0 : topV (mvF S x).stk 0 = topV x.stk 0 := by simp [mvF, xcuZ, xfuZ i0]
  by_cases ho : m.out.length = 10
  · exact xe0Z hS (why := 5) (by simp [doOp, hc, ho]) (by have : (restr S m).out.length = 10 := ho; simp [doOp, hc, this])
  · have h1 : doOp p m x o = { onF m x (cutV x.stk 1) with out := m.out ++ [(topV x.stk 0).2] } := by simp [doOp, hc, ho]
    have h2 : doOp p (restr S m) (mvF S x) o = { onF (restr S m) (mvF S x) (cutV (mvF S x).stk 1) with out := m.out ++ [(topV x.stk 0).2] } := by
      have : ¬ (restr S m).out.length = 10 := ho
      simp only [doOp, hc, this, e0]
      rfl
    refine ⟨S, ?_, ?_⟩
    · rw [h1]; exact xg2Z (m := m) hS hl (xcaZ hs 1)
    · rw [h1, h2]
      have := xh3Z S m { x with pc := x.pc + 1, stk := cutV x.stk 1 }
      have e3 : mvF S { x with pc := x.pc + 1, stk := cutV x.stk 1 } = { mvF S x with pc := (mvF S x).pc + 1, stk := cutV (mvF S x).stk 1 } := xexZ rfl rfl rfl (xclZ S x.stk 1).symm
      rw [e3] at this
      exact xfxZ (congrArg Mach.frames this).symm rfl rfl rfl rfl rfl
theorem moved21 (h : AtOp p e m x k f pc s out o) (hS : xbeZ S m) (hc : o.1 = 21) (hi : m.inp ≠ []) : Moves S p m x o := by
  obtain ⟨hl, hs⟩ := xa8Z.1 hS x (xa7Z h.last)
  have h1 : doOp p m x o = { onF m x (x.stk ++ [(false, m.inp.headD 0)]) with inp := m.inp.tail } := by simp [doOp, hc, hi]
  have h2 : doOp p (restr S m) (mvF S x) o = { onF (restr S m) (mvF S x) ((mvF S x).stk ++ [(false, m.inp.headD 0)]) with inp := m.inp.tail } := by
    have : ¬ (restr S m).inp = [] := hi
    simp only [doOp, hc, this]
    rfl
  refine ⟨S, ?_, ?_⟩
  · rw [h1]; exact xg2Z (m := m) hS hl (xcsZ hs (xd7Z (xe9Z rfl)))
  · rw [h1, h2]
    have := xh3Z S m { x with pc := x.pc + 1, stk := x.stk ++ [(false, m.inp.headD 0)] }
    have e3 : mvF S { x with pc := x.pc + 1, stk := x.stk ++ [(false, m.inp.headD 0)] } = { mvF S x with pc := (mvF S x).pc + 1, stk := (mvF S x).stk ++ [(false, m.inp.headD 0)] } := xexZ rfl rfl rfl (by simp [mvF, mvV])
    rw [e3] at this
    exact xfxZ (congrArg Mach.frames this).symm rfl rfl rfl rfl rfl
theorem fresh_mv (S : List Int) (ts : List Int) : (xa6Z ts).map (mvV S) = xa6Z ts := by
  unfold xa6Z
  rw [List.map_map]
  apply List.map_congr_left
  intro t _
  by_cases h : t = 2
  · simp [h, mvV, xgrZ]
  · simp [h, mvV]
theorem okS_fresh {S : List Int} {ts : List Int} : ∀ v ∈ xa6Z ts, OkS S v := fun v hv => by
  unfold xa6Z at hv
  obtain ⟨t, _, rfl⟩ := List.mem_map.1 hv
  exact fun _ h0 => absurd rfl h0
theorem moved12 (h : AtOp p e m x k f pc s out o) (hS : xbeZ S m) (hc : o.1 = 12) : Moves S p m x o := by
  obtain ⟨hl, hs⟩ := xa8Z.1 hS x (xa7Z h.last)
  by_cases h6 : m.frames.length = 6
  · exact xe0Z hS (why := 4) (by simp [doOp, hc, h6]) (by have h9 : (restr S m).frames.length = 6 := (by simp [restr, h6]); simp [doOp, hc, h9])
  · have h6' : ¬ (restr S m).frames.length = 6 := by simpa [restr] using h6
    cases hg : p[o.2.toNat]? with
    | none => exact ⟨S, by simpa [doOp, hc, h6, hg] using hS, by simp [doOp, hc, h6, h6', hg]⟩
    | some g =>
      have h1 : doOp p m x o = { m with frames := m.frames.dropLast ++ [{ x with pc := x.pc + 1, stk := cutV x.stk g.1.toNat }, { fn := o.2, pc := 0, loc := x.stk.drop (x.stk.length - g.1.toNat) ++ (xa6Z g.2.1).drop g.1.toNat, stk := [] }] } := by simp [doOp, hc, h6, hg]
      have h2 : doOp p (restr S m) (mvF S x) o = { restr S m with frames := (restr S m).frames.dropLast ++ [{ mvF S x with pc := (mvF S x).pc + 1, stk := cutV (mvF S x).stk g.1.toNat }, { fn := o.2, pc := 0, loc := (mvF S x).stk.drop ((mvF S x).stk.length - g.1.toNat) ++ (xa6Z g.2.1).drop g.1.toNat, stk := [] }] } := by simp [doOp, hc, h6', hg]
      refine ⟨S, ?_, ?_⟩
      · rw [h1, xa8Z]
        intro y hy
        simp only [List.mem_append, List.mem_cons, List.not_mem_nil, or_false] at hy
        rcases hy with hy | rfl | rfl
        · exact xa8Z.1 hS y (xc3Z hy)
        · exact ⟨hl, xcaZ hs _⟩
        · exact ⟨xcsZ (fun v hv => hs v (List.mem_of_mem_drop hv)) (fun v hv => okS_fresh v (List.mem_of_mem_drop hv)), fun v hv => by simp at hv⟩
      · rw [h1, h2]
        refine xfxZ ?_ rfl rfl rfl rfl rfl
        simp only [restr, List.map_append, List.map_dropLast, List.map_cons, List.map_nil]
        congr 1
        congr 1
        · exact xexZ rfl rfl rfl (xclZ S x.stk _)
        · congr 1
          refine xexZ rfl rfl ?_ rfl
          simp only [mvF, List.map_append, List.map_drop, List.length_map, fresh_mv]
theorem moved13 (h : AtOp p e m x k f pc s out o) (hS : xbeZ S m) (hc : o.1 = 13) : Moves S p m x o := by
  obtain ⟨hl, hs⟩ := xa8Z.1 hS x (xa7Z h.last)
  cases hy : m.frames.dropLast.getLast? with
  | none =>
    have hy' : (restr S m).frames.dropLast.getLast? = none := by
      simp only [restr, ← List.map_dropLast, List.getLast?_map, hy]; rfl
    have h1 : doOp p m x o = { m with frames := [], status := 2 } := by simp [doOp, hc, hy]
    have h2 : doOp p (restr S m) (mvF S x) o = { restr S m with frames := [], status := 2 } := by simp [doOp, hc, hy']
    exact ⟨S, by rw [h1, xa8Z]; intro y hy; simp at hy, by rw [h1, h2]; rfl⟩
  | some y =>
    have hy' : (restr S m).frames.dropLast.getLast? = some (mvF S y) := by
      simp only [restr, ← List.map_dropLast, List.getLast?_map, hy]; rfl
    have h1 : doOp p m x o = { m with frames := m.frames.dropLast.dropLast ++ [{ y with stk := y.stk ++ x.stk }] } := by simp [doOp, hc, hy]
    have h2 : doOp p (restr S m) (mvF S x) o = { restr S m with frames := (restr S m).frames.dropLast.dropLast ++ [{ mvF S y with stk := (mvF S y).stk ++ (mvF S x).stk }] } := by simp [doOp, hc, hy']
    have hym : y ∈ m.frames := xc3Z (List.mem_of_getLast? hy)
    obtain ⟨yl, ys⟩ := xa8Z.1 hS y hym
    refine ⟨S, ?_, ?_⟩
    · rw [h1, xa8Z]
      intro z hz
      simp only [List.mem_append, List.mem_singleton] at hz
      rcases hz with hz | rfl
      · exact xa8Z.1 hS z (xc3Z (xc3Z hz))
      · exact ⟨yl, xcsZ ys hs⟩
    · rw [h1, h2]
      refine xfxZ ?_ rfl rfl rfl rfl rfl
      simp only [restr, List.map_append, List.map_dropLast, List.map_cons, List.map_nil]
      congr 1
      congr 1
      exact xexZ rfl rfl rfl (by simp [mvF])
theorem xf3Z {L : List (List Int)} {r : Int} (h1 : 1 ≤ r) (h2 : r ≤ (L.length : Int)) (hS : r ∈ S) : blkAt (keptL L S L.length) (xaoZ S r) = blkAt L r ∧ 1 ≤ xaoZ S r ∧ xaoZ S r ≤ ((keptL L S L.length).length : Int) := by
  obtain ⟨j, rfl⟩ : ∃ j : Nat, r = (j : Int) + 1 := ⟨(r - 1).toNat, by omega⟩
  obtain ⟨b, hb⟩ := xaiZ (l := L) (k := j) (by omega)
  have := keptL_at hb hS
  have hbd := xg5Z (n := L.length) h1 h2 hS
  rw [← xciZ L S] at hbd
  refine ⟨?_, hbd⟩
  rw [xdbZ hb rfl, xdbZ this (xeoZ hS)]
theorem xmhZ {L : List (List Int)} {r a : Int} (hb : blkErr L = 0) (h0 : 0 ≤ r) (h2 : r ≤ (L.length : Int)) (hS : r ≠ 0 → r ∈ S) : xasZ (keptL L S L.length) (xaoZ S r) a = xasZ L r a := by
  have hk := (xgtZ S hb).1
  generalize hK : keptL L S L.length = K at *
  have key : ∀ (M : List (List Int)) (q : Int), blkErr M = 0 → xasZ M q a = if q = 0 then 5 else if q < 0 ∨ (M.length : Int) < q ∨ a < 0 ∨ ((blkAt M q).length : Int) ≤ a then 3 else 0 := fun M q hM => by
    unfold xasZ; rw [if_neg (by simp [hM])]
  rw [key K _ hk, key L _ hb]
  by_cases hr : r = 0
  · subst hr
    rw [xgrZ, if_pos rfl, if_pos rfl]
  · obtain ⟨e1, e2, e3⟩ := xf3Z (L := L) (by omega) h2 (hS hr)
    rw [hK] at e1 e3
    rw [if_neg hr, if_neg (show ¬ xaoZ S r = 0 by omega), e1]
    by_cases hc : a < 0 ∨ ((blkAt L r).length : Int) ≤ a
    · rw [if_pos (by omega), if_pos (by omega)]
    · rw [if_neg (by omega), if_neg (by omega)]
theorem moved15 (h : AtOp p e m x k f pc s out o) (hS : xbeZ S m) (hc : o.1 = 15) : Moves S p m x o := by
  obtain ⟨hl, hs⟩ := xa8Z.1 hS x (xa7Z h.last)
  have htl : xaeZ p f o s = some ([2, 1], [1]) := by simp [xaeZ, hc, xapZ, xarZ]
  have i0 := xfwZ h htl 0 (by simp) rfl
  have r1 := xksZ h htl 1 (by simp) rfl
  have b1 := xgvZ h htl 1 (by simp) rfl
  have hm := xegZ hs 1 r1
  have e0 : (topV (mvF S x).stk 0).2 = (topV x.stk 0).2 := by simp [mvF, xcuZ, xfuZ i0]
  have e1 : (topV (mvF S x).stk 1).2 = xaoZ S (topV x.stk 1).2 := by simp [mvF, xcuZ, xdhZ r1]
  have hp : xasZ (restr S m).blocks (topV (mvF S x).stk 1).2 (topV (mvF S x).stk 0).2 = xasZ m.blocks (topV x.stk 1).2 (topV x.stk 0).2 := by
    rw [e0, e1]; exact xmhZ h.right.blocks b1.1 b1.2 hm
  by_cases h5 : xasZ m.blocks (topV x.stk 1).2 (topV x.stk 0).2 = 5
  · exact xe0Z hS (why := 1) (by simp [doOp, hc, h5]) (by have h5' := hp.trans h5; simp [doOp, hc, h5'])
  · by_cases h0 : xasZ m.blocks (topV x.stk 1).2 (topV x.stk 0).2 = 0
    · have h0' := hp.trans h0
      refine xdqZ hS (xa7Z h.last) (ST := cutV x.stk 2 ++ [(false, getL m.blocks (topV x.stk 1).2 (topV x.stk 0).2)]) (ST' := cutV (mvF S x).stk 2 ++ [(false, getL (restr S m).blocks (topV (mvF S x).stk 1).2 (topV (mvF S x).stk 0).2)]) (by simp [doOp, hc, h0]) (by simp [doOp, hc, h0']) ?_ (xcsZ (xcaZ hs _) (xd7Z (xe9Z rfl)))
      have hr0 : (topV x.stk 1).2 ≠ 0 := fun hz => by
        rw [hz] at h0; unfold xasZ at h0; rw [if_neg (by simp [h.right.blocks]), if_pos rfl] at h0; cases h0
      have hbk := (xf3Z (L := m.blocks) (by omega) b1.2 (hm hr0)).1
      have hg : getL (restr S m).blocks (topV (mvF S x).stk 1).2 (topV (mvF S x).stk 0).2 = getL m.blocks (topV x.stk 1).2 (topV x.stk 0).2 := by
        unfold getL
        rw [e0, e1]
        show ((blkAt (keptL m.blocks S m.blocks.length) (xaoZ S (topV x.stk 1).2))[(topV x.stk 0).2.toNat]?).getD 0 = _
        rw [hbk]
      rw [hg]
      simp [mvF, xclZ, mvV]
    · have h0' : ¬ xasZ (restr S m).blocks (topV (mvF S x).stk 1).2 (topV (mvF S x).stk 0).2 = 0 := by rw [hp]; exact h0
      have h5' : ¬ xasZ (restr S m).blocks (topV (mvF S x).stk 1).2 (topV (mvF S x).stk 0).2 = 5 := by rw [hp]; exact h5
      exact xe0Z hS (why := 2) (by simp [doOp, hc, h5, h0]) (by simp [doOp, hc, h5', h0'])
theorem xoeZ {L : List (List Int)} {j : Nat} {b b' : List Int} (hb : L[j]? = some b) (hS : (j : Int) + 1 ∈ S) : ∀ n, n ≤ L.length → keptL (L.set j b') S n = if n ≤ j then keptL L S n else (keptL L S n).set (stays S j).length b'
  | 0, _ => by simp [keptL, xi9Z]
  | n + 1, hn => by
    have hjl := xafZ hb
    have ih := xoeZ hb hS (b' := b') n (by omega)
    obtain ⟨c, hcn⟩ := xaiZ (l := L) (k := n) (by omega)
    have hset : (L.set j b')[n]? = some (if n = j then b' else c) := by
      by_cases hnj : n = j
      · subst hnj; rw [List.getElem?_set_self hjl, if_pos rfl]
      · rw [List.getElem?_set_ne (fun h => hnj h.symm), if_neg hnj, hcn]
    by_cases hm : (n : Int) + 1 ∈ S
    · rw [xgeZ hm hset, xgeZ hm hcn, ih]
      by_cases hnj : n = j
      · subst hnj
        rw [if_pos (Nat.le_refl _), if_pos rfl, if_neg (by omega)]
        rw [List.set_append_right _ _ (by rw [xciZ]; omega), xciZ]
        simp
      · rw [if_neg hnj]
        by_cases hlt : n < j
        · rw [if_pos (by omega), if_pos (by omega)]
        · rw [if_neg (by omega), if_neg (by omega)]
          have := xi3Z hS (show j < n by omega)
          rw [List.set_append_left _ _ (by rw [xciZ]; exact this)]
    · have hnj : n ≠ j := fun h => by subst h; exact hm hS
      rw [xguZ hm, xguZ hm, ih]
      by_cases hlt : n < j
      · rw [if_pos (by omega), if_pos (by omega)]
      · rw [if_neg (by omega), if_neg (by omega)]
theorem set_kept {L : List (List Int)} {r a n : Int} (h1 : 1 ≤ r) (h2 : r ≤ (L.length : Int)) (hS : r ∈ S) : setL (keptL L S L.length) (xaoZ S r) a n = keptL (setL L r a n) S (setL L r a n).length := by
  have hk := (xf3Z h1 h2 hS).1
  obtain ⟨j, rfl⟩ : ∃ j : Nat, r = (j : Int) + 1 := ⟨(r - 1).toNat, by omega⟩
  obtain ⟨b, hb⟩ := xaiZ (l := L) (k := j) (by omega)
  unfold setL
  rw [hk, List.length_set, show ((j : Int) + 1 - 1).toNat = j by omega, xoeZ hb hS L.length (Nat.le_refl _), if_neg (by omega), xeoZ hS]
  rw [show (((stays S j).length : Int) + 1 - 1).toNat = (stays S j).length by omega]
theorem moved16 (h : AtOp p e m x k f pc s out o) (hS : xbeZ S m) (hc : o.1 = 16) : Moves S p m x o := by
  obtain ⟨hl, hs⟩ := xa8Z.1 hS x (xa7Z h.last)
  have htl : xaeZ p f o s = some ([2, 1, 1], []) := by simp [xaeZ, hc, xapZ, xarZ]
  have i0 := xfwZ h htl 0 (by simp) rfl
  have i1 := xfwZ h htl 1 (by simp) rfl
  have r2 := xksZ h htl 2 (by simp) rfl
  have b2 := xgvZ h htl 2 (by simp) rfl
  have hm := xegZ hs 2 r2
  have e0 : (topV (mvF S x).stk 0).2 = (topV x.stk 0).2 := by simp [mvF, xcuZ, xfuZ i0]
  have e1 : (topV (mvF S x).stk 1).2 = (topV x.stk 1).2 := by simp [mvF, xcuZ, xfuZ i1]
  have e2 : (topV (mvF S x).stk 2).2 = xaoZ S (topV x.stk 2).2 := by simp [mvF, xcuZ, xdhZ r2]
  have hp : xbhZ (restr S m).blocks (topV (mvF S x).stk 2).2 (topV (mvF S x).stk 1).2 (topV (mvF S x).stk 0).2 = xbhZ m.blocks (topV x.stk 2).2 (topV x.stk 1).2 (topV x.stk 0).2 := by
    have := xmhZ (S := S) (a := (topV x.stk 1).2) h.right.blocks b2.1 b2.2 hm
    unfold xbhZ
    rw [e0, e1, e2]
    show (if xasZ (keptL m.blocks S m.blocks.length) _ _ ≠ 0 then xasZ (keptL m.blocks S m.blocks.length) _ _ else _) = _
    rw [this]
  by_cases h5 : xbhZ m.blocks (topV x.stk 2).2 (topV x.stk 1).2 (topV x.stk 0).2 = 5
  · exact xe0Z hS (why := 1) (by simp [doOp, hc, h5]) (by have h5' := hp.trans h5; simp [doOp, hc, h5'])
  · by_cases h0 : xbhZ m.blocks (topV x.stk 2).2 (topV x.stk 1).2 (topV x.stk 0).2 = 0
    · have h0' := hp.trans h0
      have hr0 := (xkhZ h0).2.1
      have h1 : doOp p m x o = { onF m x (cutV x.stk 3) with blocks := setL m.blocks (topV x.stk 2).2 (topV x.stk 1).2 (topV x.stk 0).2 } := by simp [doOp, hc, h0]
      have h2 : doOp p (restr S m) (mvF S x) o = { onF (restr S m) (mvF S x) (cutV (mvF S x).stk 3) with blocks := setL (restr S m).blocks (topV (mvF S x).stk 2).2 (topV (mvF S x).stk 1).2 (topV (mvF S x).stk 0).2 } := by simp [doOp, hc, h0']
      refine ⟨S, ?_, ?_⟩
      · rw [h1]; exact xg2Z (m := m) hS hl (xcaZ hs 3)
      · rw [h1, h2]
        have := xh3Z S m { x with pc := x.pc + 1, stk := cutV x.stk 3 }
        have e3 : mvF S { x with pc := x.pc + 1, stk := cutV x.stk 3 } = { mvF S x with pc := (mvF S x).pc + 1, stk := cutV (mvF S x).stk 3 } := xexZ rfl rfl rfl (xclZ S x.stk 3).symm
        rw [e3] at this
        refine xfxZ (congrArg Mach.frames this).symm ?_ rfl rfl rfl rfl
        rw [e0, e1, e2]
        exact set_kept (L := m.blocks) (by omega) b2.2 (hm hr0)
    · have h0' : ¬ xbhZ (restr S m).blocks (topV (mvF S x).stk 2).2 (topV (mvF S x).stk 1).2 (topV (mvF S x).stk 0).2 = 0 := by rw [hp]; exact h0
      have h5' : ¬ xbhZ (restr S m).blocks (topV (mvF S x).stk 2).2 (topV (mvF S x).stk 1).2 (topV (mvF S x).stk 0).2 = 5 := by rw [hp]; exact h5
      exact xe0Z hS (why := 2) (by simp [doOp, hc, h5, h0]) (by simp [doOp, hc, h5', h0'])
theorem xohZ {L : List (List Int)} {r : Int} (h0 : 0 ≤ r) (h2 : r ≤ (L.length : Int)) (hS : r ≠ 0 → r ∈ S) : xaoZ S r = 0 ↔ r = 0 := by
  constructor
  · intro h
    by_cases hr : r = 0
    · exact hr
    · have := (xf3Z (L := L) (by omega) h2 (hS hr)).2.1
      omega
  · intro h; rw [h]; exact xgrZ S
theorem moved17 (h : AtOp p e m x k f pc s out o) (hS : xbeZ S m) (hc : o.1 = 17) : Moves S p m x o := by
  obtain ⟨hl, hs⟩ := xa8Z.1 hS x (xa7Z h.last)
  have htl : xaeZ p f o s = some ([2], [1]) := by simp [xaeZ, hc, xapZ, xarZ]
  have r0 := xksZ h htl 0 (by simp) rfl
  have b0 := xgvZ h htl 0 (by simp) rfl
  have hm := xegZ hs 0 r0
  have e0 : (topV (mvF S x).stk 0).2 = xaoZ S (topV x.stk 0).2 := by simp [mvF, xcuZ, xdhZ r0]
  have hz := xohZ (L := m.blocks) b0.1 b0.2 hm
  by_cases h0 : (topV x.stk 0).2 = 0
  · exact xe0Z hS (why := 1) (by simp [doOp, hc, h0]) (by have h0' : (topV (mvF S x).stk 0).2 = 0 := (by rw [e0]; exact hz.2 h0); simp [doOp, hc, h0'])
  · have h0' : ¬ (topV (mvF S x).stk 0).2 = 0 := by rw [e0]; exact fun h => h0 (hz.1 h)
    refine xdqZ hS (xa7Z h.last) (ST := cutV x.stk 1 ++ [(false, ((blkAt m.blocks (topV x.stk 0).2).length : Int))]) (ST' := cutV (mvF S x).stk 1 ++ [(false, ((blkAt (restr S m).blocks (topV (mvF S x).stk 0).2).length : Int))]) (by simp [doOp, hc, h0]) (by simp [doOp, hc, h0']) ?_ (xcsZ (xcaZ hs _) (xd7Z (xe9Z rfl)))
    have : blkAt (restr S m).blocks (topV (mvF S x).stk 0).2 = blkAt m.blocks (topV x.stk 0).2 := by
      rw [e0]; exact (xf3Z (L := m.blocks) (by omega) b0.2 (hm h0)).1
    rw [this]
    simp [mvF, xclZ, mvV]
theorem moved19 (h : AtOp p e m x k f pc s out o) (hS : xbeZ S m) (hc : o.1 = 19) : Moves S p m x o := by
  obtain ⟨hl, hs⟩ := xa8Z.1 hS x (xa7Z h.last)
  have htl : xaeZ p f o s = some ([2], [1]) := by simp [xaeZ, hc, xapZ, xarZ]
  have r0 := xksZ h htl 0 (by simp) rfl
  have b0 := xgvZ h htl 0 (by simp) rfl
  have hm := xegZ hs 0 r0
  have e0 : (topV (mvF S x).stk 0).2 = xaoZ S (topV x.stk 0).2 := by simp [mvF, xcuZ, xdhZ r0]
  have hz := xohZ (L := m.blocks) b0.1 b0.2 hm
  refine xdqZ hS (xa7Z h.last) (ST := cutV x.stk 1 ++ [(false, if (topV x.stk 0).2 = 0 then 1 else 0)]) (ST' := cutV (mvF S x).stk 1 ++ [(false, if (topV (mvF S x).stk 0).2 = 0 then 1 else 0)]) (by simp [doOp, hc]) (by simp [doOp, hc]) ?_ (xcsZ (xcaZ hs _) (xd7Z (xe9Z rfl)))
  rw [e0]
  by_cases h0 : (topV x.stk 0).2 = 0
  · rw [if_pos h0, if_pos (hz.2 h0)]
    simp [mvF, xclZ, mvV]
  · rw [if_neg h0, if_neg (fun h => h0 (hz.1 h))]
    simp [mvF, xclZ, mvV]
theorem moved14 (h : AtOp p e m x k f pc s out o) (hS : xbeZ S m) (hc : o.1 = 14) (hn : xbmZ m.blocks (topV x.stk 0).2 = 0) : Moves S p m x o := by
  obtain ⟨hl, hs⟩ := xa8Z.1 hS x (xa7Z h.last)
  have htl : xaeZ p f o s = some ([1], [2]) := by simp [xaeZ, hc, xapZ, xarZ]
  have i0 := xfwZ h htl 0 (by simp) rfl
  have e0 : (topV (mvF S x).stk 0).2 = (topV x.stk 0).2 := by simp [mvF, xcuZ, xfuZ i0]
  obtain ⟨n1, n2, n3, n4⟩ := xkaZ hn
  obtain ⟨k1, k2, k3⟩ := xgtZ S n1
  have a1 := (xbzZ n1).1
  have hn' : xbmZ (restr S m).blocks (topV (mvF S x).stk 0).2 = 0 := by
    rw [e0]
    show xbmZ (keptL m.blocks S m.blocks.length) _ = 0
    unfold xbmZ
    rw [if_neg (by simp [k1]), if_neg (by omega), if_neg (by omega)]
  have hok := xfbZ h.right
  have h1 : doOp p m x o = { onF m x (cutV x.stk 1 ++ [(true, (m.blocks.length : Int) + 1)]) with blocks := newL m.blocks (topV x.stk 0).2 } := by simp [doOp, hc, hn]
  have h2 : doOp p (restr S m) (mvF S x) o = { onF (restr S m) (mvF S x) (cutV (mvF S x).stk 1 ++ [(true, ((restr S m).blocks.length : Int) + 1)]) with blocks := newL (restr S m).blocks (topV (mvF S x).stk 0).2 } := by simp [doOp, hc, hn']
  obtain ⟨S', hS'⟩ : ∃ S', S' = ((m.blocks.length : Int) + 1) :: S := ⟨_, rfl⟩
  have hst : ∀ n, n ≤ m.blocks.length → stays S' n = stays S n := fun n hn => xihZ fun r r1 r2 => by
    rw [hS', List.mem_cons]
    constructor
    · rintro (rfl | hr)
      · omega
      · exact hr
    · exact .inr
  have hth : ∀ r : Int, r ≤ (m.blocks.length : Int) → xaoZ S' r = xaoZ S r := fun r hr => by
    unfold xaoZ; rw [hst _ (by omega)]
  have hmem : ((m.blocks.length : Int) + 1) ∈ S' := by rw [hS']; exact List.mem_cons_self
  have hsub : ∀ r, r ∈ S → r ∈ S' := fun r hr => by rw [hS']; exact List.mem_cons_of_mem _ hr
  have hokS : ∀ v, OkS S v → OkS S' v := fun v hv a b => hsub _ (hv a b)
  have hfr : ∀ y ∈ m.frames, mvF S' y = mvF S y := fun y hy => xntZ fun v hv h1 => by
    obtain ⟨b, r⟩ := v
    simp only at h1 ⊢
    subst h1
    by_cases h0 : r = 0
    · rw [h0]; rfl
    · have := hok r (xdfZ.2 ⟨h0, y, hy, by simpa using hv⟩)
      exact hth r this.2
  have hxm := xa7Z h.last
  have hx' := hfr x hxm
  refine ⟨S', ?_, ?_⟩
  · rw [h1]
    exact xg2Z (m := m) (fun r hr => hsub r (hS r hr)) (fun v hv => hokS v (hl v hv)) (xcsZ (fun v hv => hokS v (xcaZ hs 1 v hv)) (xd7Z fun _ _ => hmem))
  · rw [h1, h2]
    refine xfxZ ?_ ?_ rfl rfl rfl rfl
    · simp only [restr, onF, putF, List.map_append, List.map_cons, List.map_nil, ← List.map_dropLast]
      rw [List.map_congr_left fun y hy => (hfr y (xc3Z hy))]
      congr 1
      congr 1
      refine xexZ rfl rfl (congrArg Frm.loc hx').symm ?_
      have es : x.stk.map (mvV S') = x.stk.map (mvV S) := congrArg Frm.stk hx'
      have ec : (cutV x.stk 1).map (mvV S') = (cutV x.stk 1).map (mvV S) := by rw [← xclZ, ← xclZ, es]
      show cutV (x.stk.map (mvV S)) 1 ++ [(true, ((keptL m.blocks S m.blocks.length).length : Int) + 1)] = (cutV x.stk 1 ++ [(true, (m.blocks.length : Int) + 1)]).map (mvV S')
      rw [List.map_append, ec, xclZ, xciZ]
      congr 1
      simp only [List.map_cons, List.map_nil]
      rw [xdhZ rfl]
      simp only
      rw [xeoZ hmem, hst _ (Nat.le_refl _)]
    · show newL (keptL m.blocks S m.blocks.length) (topV (mvF S x).stk 0).2 = keptL (newL m.blocks (topV x.stk 0).2) S' (newL m.blocks (topV x.stk 0).2).length
      rw [e0]
      have hlen : (newL m.blocks (topV x.stk 0).2).length = m.blocks.length + 1 := by simp [newL]
      have hb : (newL m.blocks (topV x.stk 0).2)[m.blocks.length]? = some (List.replicate (topV x.stk 0).2.toNat 0) := by simp [newL]
      rw [hlen, xgeZ hmem hb]
      conv => lhs; unfold newL
      congr 1
      unfold keptL
      rw [hst _ (Nat.le_refl _)]
      apply List.map_congr_left
      intro i hi
      have := (xnlZ.1 hi).1
      unfold newL
      rw [List.getElem?_append_left this]
end
end Go.Proofs.YtcadpoknolefpaaGreat


/- A machine that is collected runs as it did, plainly (chapter 8). -/
namespace Go.Proofs.YtcadpoknolefpaaGreat
open Go.RowKit
set_option linter.unusedSimpArgs false
set_option linter.unusedVariables false
theorem xrzZ {p : List Fn} {e : Nat → Nat → Option (List Int)} {m : Mach} (hp : xanZ p = 0) (he : xa2Z p e) (h : RightM p e m) (hs : m.status = 0 ∨ m.status = 1) : ∃ (x : Frm) (o : Int × Int), m.frames.getLast? = some x ∧ xbtZ p m = some o ∧ stepM p m = doOp p m x o ∧ ((o.1 = 21 ∧ m.inp = []) ∨ ∃ k f pc s out, AtOp p e m x k f pc s out o ∧ 1 ≤ o.1 ∧ o.1 ≤ 21 ∧ (o.1 = 21 → m.inp ≠ [])) := by
  obtain ⟨x, k, f, o, hx, hk, hf, h0, ho, hl, hst, _⟩ := xhfZ hp he h hs
  refine ⟨x, o, hx, hl, hst, ?_⟩
  by_cases hw : o.1 = 21 ∧ m.inp = []
  · exact .inl hw
  right
  have hxi : m.frames[m.frames.length - 1]? = some x := by rw [← List.getLast?_eq_getElem?]; exact hx
  have hpos := xafZ hxi
  obtain ⟨k', f', hr⟩ := h.each _ x hxi
  rw [List.getElem?_eq_none (by omega), Option.map_none] at hr
  have ek : k' = k := by have := hr.fn; omega
  subst ek
  have ef : f' = f := by have := hr.at_; rw [hf] at this; exact (Option.some.inj this).symm
  subst ef
  obtain ⟨pc, s, o', out, h1, h2, h3, h4, h5, h6⟩ := xfoZ he hr
  have hpc : x.pc.toNat = pc := by rw [h1]; simp
  have eo : o' = o := by rw [hpc, h4] at ho; exact Option.some.inj ho
  subst eo
  have hmem := List.mem_of_getElem? hr.at_
  have hfn := okFn hp hmem
  have hom := List.mem_of_getElem? h4
  have hok := hfn.ops o' hom
  obtain ⟨hce, _, hbad⟩ := xblZ hfn.flow
  have hchk := xiwZ ((xeuZ _ hce).2 o' hom)
  have hst : m.status = 0 := by
    rcases hs with hs | hs
    · exact hs
    · obtain ⟨w1, x', k', f', o', w2, w3, w4, w5, w6⟩ := h.wait hs
      rw [hx] at w2
      cases w2
      have w7 := xn9Z hx w3 w4 w5
      rw [hl] at w7
      cases w7
      exact absurd ⟨w6, w1⟩ hw
  have hcode := hok.code
  exact ⟨_, _, pc, s, out, ⟨h, hst, hx, hr, h1, h2, h3, h4, h5, h6, by simp [isI32]; omega⟩, by omega, by omega, fun h21 hi => hw ⟨h21, hi⟩⟩
def NoRoom (p : List Fn) (m : Mach) : Prop := m.status = 0 ∧ stepM p m = trapM m 3 ∧ ∃ x o, m.frames.getLast? = some x ∧ xbtZ p m = some o ∧ o.1 = 14
theorem xk2Z {p : List Fn} {S : List Int} {m : Mach} {x : Frm} {o : Int × Int} (hs : m.status = 0 ∨ m.status = 1) (hx : m.frames.getLast? = some x) (hl : xbtZ p m = some o) : stepM p (restr S m) = doOp p (restr S m) (mvF S x) o := by
  unfold stepM
  rw [if_pos (show (restr S m).status = 0 ∨ (restr S m).status = 1 from hs), xhgZ, hl]
  have : (restr S m).frames.getLast? = some (mvF S x) := by simp [restr, List.getLast?_map, hx]
  rw [this]
theorem xmtZ {p : List Fn} {e : Nat → Nat → Option (List Int)} {m : Mach} {S : List Int} (hp : xanZ p = 0) (he : xa2Z p e) (h : RightM p e m) (hS : xbeZ S m) : NoRoom p m ∨ ∃ S', xbeZ S' (stepM p m) ∧ stepM p (restr S m) = restr S' (stepM p m) := by
  by_cases hs : m.status = 0 ∨ m.status = 1
  rotate_left
  · refine .inr ⟨S, ?_, ?_⟩
    · unfold stepM; rw [if_neg hs]; exact hS
    · unfold stepM; rw [if_neg hs, if_neg (show ¬ ((restr S m).status = 0 ∨ (restr S m).status = 1) from hs)]
  obtain ⟨x, o, hx, hl, hst, hc⟩ := xrzZ hp he h hs
  have hst' := xk2Z (S := S) hs hx hl
  have key : Moves S p m x o → NoRoom p m ∨ ∃ S', xbeZ S' (stepM p m) ∧ stepM p (restr S m) = restr S' (stepM p m) := fun hM => by
    obtain ⟨S', h1, h2⟩ := hM
    exact .inr ⟨S', by rw [hst]; exact h1, by rw [hst', hst]; exact h2⟩
  rcases hc with hw | ⟨k, f, pc, s, out, hA, h1, h21, hin⟩
  · refine key ⟨S, ?_, ?_⟩
    · have hd : doOp p m x o = { m with status := 1 } := by simp [doOp, hw]
      rw [hd]; exact hS
    · have hd : doOp p m x o = { m with status := 1 } := by simp [doOp, hw]
      have hw' : o.1 = 21 ∧ (restr S m).inp = [] := hw
      have hd' : doOp p (restr S m) (mvF S x) o = { restr S m with status := 1 } := by simp [doOp, hw']
      rw [hd, hd']; rfl
  by_cases hn : o.1 = 14 ∧ xbmZ m.blocks (topV x.stk 0).2 ≠ 0
  · refine .inl ⟨hA.run, ?_, x, o, hx, hl, hn.1⟩
    rw [hst]; simp [doOp, hn.1, hn.2]
  have : o.1 = 1 ∨ o.1 = 2 ∨ o.1 = 3 ∨ o.1 = 4 ∨ (o.1 = 5 ∨ o.1 = 6 ∨ o.1 = 7) ∨ o.1 = 8 ∨ o.1 = 9 ∨ o.1 = 10 ∨ o.1 = 11 ∨ o.1 = 12 ∨ o.1 = 13 ∨ o.1 = 14 ∨ o.1 = 15 ∨ o.1 = 16 ∨ o.1 = 17 ∨ o.1 = 18 ∨ o.1 = 19 ∨ o.1 = 20 ∨ o.1 = 21 := by omega
  rcases this with c | c | c | c | c | c | c | c | c | c | c | c | c | c | c | c | c | c | c
  · exact key (moved1 hA hS c)
  · exact key (moved2 hA hS c)
  · exact key (moved3 hA hS c)
  · exact key (moved4 hA hS c)
  · exact key (moved567 hA hS c)
  · exact key (moved8 hA hS c)
  · exact key (moved9 hA hS c)
  · exact key (moved10 hA hS c)
  · exact key (moved11 hA hS c)
  · exact key (moved12 hA hS c)
  · exact key (moved13 hA hS c)
  · exact key (moved14 hA hS c (by have := fun h => hn ⟨c, h⟩; simpa using this))
  · exact key (moved15 hA hS c)
  · exact key (moved16 hA hS c)
  · exact key (moved17 hA hS c)
  · exact key (moved18 hA hS c)
  · exact key (moved19 hA hS c)
  · exact key (moved20 hA hS c)
  · exact key (moved21 hA hS c (hin c))
theorem xp4Z {p : List Fn} {m : Mach} {S : List Int} (h : NoRoom p m) : (stepM p (restr S m)).status = 0 ∨ (stepM p (restr S m)).trap = 3 := by
  obtain ⟨h0, _, x, o, hx, hl, hc⟩ := h
  rw [xk2Z (.inl h0) hx hl]
  by_cases hn : xbmZ (restr S m).blocks (topV (mvF S x).stk 0).2 = 0
  · left
    have : doOp p (restr S m) (mvF S x) o = { onF (restr S m) (mvF S x) (cutV (mvF S x).stk 1 ++ [(true, ((restr S m).blocks.length : Int) + 1)]) with blocks := newL (restr S m).blocks (topV (mvF S x).stk 0).2 } := by simp [doOp, hc, hn]
    rw [this]
    exact h0
  · right
    have : doOp p (restr S m) (mvF S x) o = trapM (restr S m) 3 := by simp [doOp, hc, hn]
    rw [this]; rfl
def xliZ (m x : Mach) : Prop := m.status = 0 ∧ x.status = 3 ∧ x.trap = 3
theorem xpyZ {p : List Fn} {e : Nat → Nat → Option (List Int)} {m : Mach} (hp : xanZ p = 0) (he : xa2Z p e) (h : RightM p e m) : (xliZ m (stepM p m) → (stepM p (xajZ m)).status = 0 ∨ (stepM p (xajZ m)).trap = 3) ∧ (¬ xliZ m (stepM p m) → xajZ (stepM p m) = xajZ (stepM p (xajZ m))) := by
  rcases xmtZ (S := refsM m) hp he h (xiuZ m) with hn | ⟨S', h1, h2⟩
  · refine ⟨fun _ => xp4Z hn, fun ht => absurd ?_ ht⟩
    obtain ⟨a, b, _⟩ := hn
    rw [b]
    exact ⟨a, rfl, rfl⟩
  · have hr := xfbZ (xcxZ hp he h)
    refine ⟨fun ht => ?_, fun _ => ?_⟩
    · right
      unfold xajZ
      rw [h2]
      exact ht.2.2
    · unfold xajZ at *
      rw [h2]
      exact (xjiZ hr h1).symm
theorem pay_restr {p : List Fn} {S : List Int} {m : Mach} {f : Int} {s' : MF} (h : pay p (m, f) = some s') : pay p (restr S m, f) = some (stepM p (restr S m), s'.2) := by
  unfold pay at h ⊢
  simp only [xhgZ] at h ⊢
  cases hl : xbtZ p m with
  | none => rw [hl] at h; cases h
  | some o =>
    rw [hl] at h
    simp only at h ⊢
    split at h
    · cases h
    · rename_i hc
      cases h
      rw [if_neg hc]
theorem pay_none {p : List Fn} {S : List Int} {m : Mach} {f : Int} (h : pay p (m, f) = none) : pay p (restr S m, f) = none := by
  unfold pay at h ⊢
  simp only [xhgZ] at h ⊢
  cases hl : xbtZ p m with
  | none => rfl
  | some o =>
    rw [hl] at h
    simp only at h ⊢
    split at h
    · rename_i hc; rw [if_pos hc]
    · cases h
theorem ends_restr {p : List Fn} {e : Nat → Nat → Option (List Int)} {s t : MF} (hp : xanZ p = 0) (he : xa2Z p e) (h : Ends p s t) : ∀ {S : List Int} {u : MF}, RightM p e s.1 → xbeZ S s.1 → Ends p (restr S s.1, s.2) u → (s.1.status = 0 ∧ t.1.status = 3 ∧ t.1.trap = 3 ∧ t.1.out <+: u.1.out) ∨ ∃ S', xbeZ S' t.1 ∧ u = (restr S' t.1, t.2) := by
  induction h with
  | stop h =>
    intro S u hr hS hu
    exact .inr ⟨S, hS, xhpZ hu (.stop h)⟩
  | @poor s h =>
    intro S u hr hS hu
    refine .inr ⟨S, hS, xhpZ hu (.poor ?_)⟩
    exact pay_none (m := s.1) (f := s.2) h
  | @on s s' t h0 h ht ih =>
    intro S u hr hS hu
    have hp' := pay_restr (S := S) (m := s.1) (f := s.2) h
    obtain ⟨_, _, h3⟩ := xfqZ h
    have hR' := xcxZ hp he (xflZ S hr)
    cases hu with
    | stop h1 => exact absurd h0 h1
    | poor h1 => rw [hp'] at h1; cases h1
    | on _ h1 hu =>
      rw [hp'] at h1
      cases h1
      rcases xmtZ hp he hr hS with hn | ⟨S', h4, h5⟩
      · left
        have h6 : s'.1 = trapM s.1 3 := h3.trans hn.2.1
        have h7 : t = s' := xhpZ ht (.stop (by rw [h6]; simp [trapM]))
        subst h7
        rw [h6]
        refine ⟨h0, rfl, rfl, ?_⟩
        have h8 := xjfZ (xkwZ hp he (xflZ S hr))
        have h9 := xknZ hp he hu hR'
        exact (h8.trans h9).1
      · rw [h5] at hu
        rw [← h3] at h4 hu
        have := ih (by rw [h3]; exact xcxZ hp he hr) h4 hu
        rcases this with ⟨a, b⟩ | b
        · exact .inl ⟨h0, b⟩
        · exact .inr b
theorem xp0Z {p : List Fn} {e : Nat → Nat → Option (List Int)} {m : Mach} {f : Int} {t u : MF} (hp : xanZ p = 0) (he : xa2Z p e) (h : RightM p e m) (ht : RunIs p m f t) (hu : RunIs p (xajZ m) f u) : (m.status ≠ 3 ∧ t.1.status = 3 ∧ t.1.trap = 3 ∧ t.1.out <+: u.1.out) ∨ (u.2 = t.2 ∧ u.1.status = t.1.status ∧ u.1.trap = t.1.trap ∧ u.1.frames.length = t.1.frames.length ∧ u.1.out = t.1.out ∧ u.1.inp = t.1.inp) := by
  have hc : RightM p e (xajZ m) := xflZ _ h
  by_cases h1 : m.status = 1
  · have a := xleZ hp he h h1 ht
    have b := xleZ hp he hc h1 hu
    subst a b
    right
    exact ⟨rfl, rfl, rfl, by simp [xajZ, restr], rfl, rfl⟩
  · unfold RunIs at ht hu
    rw [xeyZ h1] at ht
    rw [xeyZ (show (xajZ m).status ≠ 1 from h1)] at hu
    rcases ends_restr hp he ht h (xiuZ m) hu with ⟨a, b⟩ | ⟨S', _, rfl⟩
    · exact .inl ⟨by simp only at a; omega, b⟩
    · right
      exact ⟨rfl, rfl, rfl, by simp [restr], rfl, rfl⟩
end Go.Proofs.YtcadpoknolefpaaGreat


/- The program that holds a block, plainly. -/
namespace Go.Proofs.YtcadpoknolefpaaGreat
open Go.RowKit
set_option linter.unusedSimpArgs false
set_option linter.unusedVariables false
def holderOps : List (Int × Int) := [(1, 2), (14, 0), (2, 0), (1, 1), (14, 0), (9, 0), (8, 0), (1, 0), (15, 0), (20, 0), (13, 0)]
def xatZ : List Fn := [(0, [2], 0, holderOps)]
def holderE : Ents := [some [], some [1], some [2], some [], some [1], some [2], some [], some [2], some [2, 1], some [1], some []]
theorem hd1 : xanZ xatZ = 0 ∧ flowErr holderOps = 0 ∧ fitsB xatZ (0, [2], 0, holderOps) holderE = true := by decide +kernel
theorem xryZ {er : Int} (h : ximZ xatZ er) : er = 0 := by
  rcases h with ⟨a, _⟩ | ⟨_, h, _⟩ | ⟨_, _, f, hf, hl⟩
  · exact absurd hd1.1 a
  · exact h
  · have hf' : f = (0, [2], 0, holderOps) := by simpa [xatZ] using hf
    subst hf'
    exact absurd (xgsZ hd1.2.1 hd1.2.2) (hl _)
def hBeginM : Mach := ⟨[⟨0, 0, [(true, 0)], []⟩], [], [], [], 0, 0⟩
def hRanM : Mach := ⟨[⟨0, 6, [(true, 2)], []⟩], [[0, 0], [0]], [], [], 0, 0⟩
def hKeptM : Mach := ⟨[⟨0, 6, [(true, 1)], []⟩], [[0]], [], [], 0, 0⟩
theorem hb1 : xe3Z xatZ = hBeginM := by kernel_rfl
theorem hrun10 : runF xatZ 60 (hBeginM, 10) = (hRanM, 0) ∧ pay xatZ (hRanM, 0) = none := ⟨by kernel_rfl, by kernel_rfl⟩
theorem his10 : RunIs xatZ hBeginM 10 (hRanM, 0) := by
  unfold RunIs
  rw [xeyZ (by decide), ← hrun10.1]
  exact xh6Z 60 _ (.inr (by rw [hrun10.1]; exact hrun10.2))
theorem hkept : xajZ hRanM = hKeptM ∧ refsM hRanM = [2] := ⟨by kernel_rfl, by kernel_rfl⟩
end Go.Proofs.YtcadpoknolefpaaGreat


/- Collecting, in memory: rows of values, moved one by one. -/
namespace Go.Proofs.YtcadpoknolefpaaGreat
open Go.RowKit
set_option linter.unusedSimpArgs false
set_option linter.unusedVariables false
abbrev xbsZ (v : Val) : Bool := v.1 && decide (v.2 ≠ 0)
theorem xqfZ (a b : List Val) : refsV (a ++ b) = refsV a ++ refsV b := by simp [refsV]
theorem refsV_one (v : Val) : refsV [v] = if xbsZ v = true then [v.2] else [] := by
  unfold refsV xbsZ
  by_cases h : (v.1 && decide (v.2 ≠ 0)) = true
  · simp only [List.filter_cons, h, if_true, List.filter_nil, List.map_cons, List.map_nil]
  · simp only [List.filter_cons, h, if_false, List.filter_nil, List.map_nil]
    simp
def xd3Z (L : List (List Val)) (r j : Nat) : List Int := refsV ((L.take r).flatten ++ (L.getD r []).take j)
theorem xk3Z {L : List (List Val)} {r : Nat} {l : List Val} (h : L[r]? = some l) : xd3Z L r l.length = xd3Z L (r + 1) 0 := by
  unfold xd3Z
  have h1 : L.getD r [] = l := by simp [h]
  rw [h1, List.take_length, List.take_zero, List.append_nil, xa5Z L r _ h, List.flatten_append]
  simp
theorem xr0Z {L : List (List Val)} {r j : Nat} {l : List Val} {v : Val} (h : L[r]? = some l) (hv : l[j]? = some v) : xd3Z L r (j + 1) = xd3Z L r j ++ if xbsZ v = true then [v.2] else [] := by
  unfold xd3Z
  have h1 : L.getD r [] = l := by simp [h]
  rw [h1, xa5Z l j _ hv, ← List.append_assoc, xqfZ _ [v], refsV_one]
theorem refsTo_end {L : List (List Val)} : xd3Z L L.length 0 = refsV L.flatten := by simp [xd3Z]
theorem fVals_flat (F : List Frm) : (fVals F).flatten = F.flatMap fun x => x.loc ++ x.stk := by
  induction F with
  | nil => rfl
  | cons x r ih => simp [fVals] at ih ⊢; exact ih
theorem xi1Z (m : Mach) : xd3Z (fVals m.frames) (2 * m.frames.length) 0 = refsM m := by
  have h1 := xbvZ m.frames
  rw [show 2 * m.frames.length = (fVals m.frames).length by omega, refsTo_end, fVals_flat]
  rfl
theorem refsV_le (l : List Val) : (refsV l).length ≤ l.length := by
  unfold refsV
  rw [List.length_map]
  exact List.length_filter_le _ _
theorem flat_le : ∀ (L : List (List Val)) (n : Nat), (∀ l ∈ L, l.length ≤ n) → L.flatten.length ≤ L.length * n
  | [], n, _ => by simp
  | l :: L, n, h => by
    have h1 := flat_le L n (fun x hx => h x (by simp [hx]))
    have h2 := h l (by simp)
    simp only [List.flatten_cons, List.length_append, List.length_cons, Nat.succ_mul]
    omega
theorem xkmZ {L : List (List Val)} {n r j : Nat} (h : ∀ l ∈ L, l.length ≤ n) (hL : L.length ≤ 12) : (xd3Z L r j).length ≤ 13 * n := by
  unfold xd3Z
  refine Nat.le_trans (refsV_le _) ?_
  rw [List.length_append]
  have h1 := flat_le (L.take r) n (fun l hl => h l (List.mem_of_mem_take hl))
  have h2 : (L.getD r []).length ≤ n := by
    cases hr : L[r]? with
    | none => simp [hr]
    | some l => simp [hr]; exact h l (List.mem_of_getElem? hr)
  have h3 : (L.take r).length ≤ 12 := by rw [List.length_take]; omega
  have h4 : (L.take r).length * n ≤ 12 * n := Nat.mul_le_mul_right n h3
  have h5 : ((L.getD r []).take j).length ≤ n := by rw [List.length_take]; omega
  omega
def xbnZ (S : List Int) (l : List Val) (j : Nat) : List Val := (l.take j).map (mvV S) ++ l.drop j
theorem xnfZ (S : List Int) (l : List Val) (j : Nat) : (xbnZ S l j).length = l.length := by simp [xbnZ]; omega
theorem xjxZ (S : List Int) (l : List Val) : xbnZ S l 0 = l := rfl
theorem xrqZ (S : List Int) (l : List Val) : xbnZ S l l.length = l.map (mvV S) := by simp [xbnZ]
theorem xisZ {S : List Int} {l : List Val} {j : Nat} {v : Val} (h : l[j]? = some v) : (xbnZ S l j)[j]? = some v := by
  have hl := xafZ h
  unfold xbnZ
  rw [List.getElem?_append_right (by simp; omega)]
  simp [Nat.min_eq_left (Nat.le_of_lt hl), h]
theorem xpvZ {S : List Int} {l : List Val} {j : Nat} {v : Val} (h : l[j]? = some v) : xbnZ S l (j + 1) = (xbnZ S l j).set j (mvV S v) := by
  have hl := xafZ h
  unfold xbnZ
  rw [xa5Z l j _ h, List.map_append, List.set_append_right _ _ (by simp; omega)]
  have h1 : l.drop j = v :: l.drop (j + 1) := by
    rw [List.drop_eq_getElem_cons hl]
    congr 1
    rw [List.getElem?_eq_getElem hl] at h
    exact Option.some.inj h
  rw [h1]
  simp [Nat.min_eq_left (Nat.le_of_lt hl)]
def partV (S : List Int) (L : List (List Val)) (r j : Nat) : List (List Val) := L.mapIdx fun k l => if k < r then l.map (mvV S) else if k = r then xbnZ S l j else l
theorem partV_zero (S : List Int) (L : List (List Val)) : partV S L 0 0 = L := by
  apply List.ext_getElem?
  intro k
  simp only [partV, List.getElem?_mapIdx]
  cases h : L[k]? with
  | none => rfl
  | some l => by_cases hk : k = 0 <;> simp [hk, xjxZ]
theorem xpcZ (S : List Int) (L : List (List Val)) (r j : Nat) : (partV S L r j).length = L.length := by simp [partV]
theorem xmyZ {S : List Int} {L : List (List Val)} {r : Nat} {l : List Val} (h : L[r]? = some l) : partV S L r l.length = partV S L (r + 1) 0 := by
  apply List.ext_getElem?
  intro k
  simp only [partV, List.getElem?_mapIdx]
  cases hk : L[k]? with
  | none => rfl
  | some l' =>
    by_cases h1 : k < r
    · simp [h1, show k < r + 1 by omega]
    · by_cases h2 : k = r
      · subst h2
        rw [h] at hk
        cases hk
        simp [xrqZ]
      · by_cases h3 : k = r + 1
        · subst h3
          simp [xjxZ]
          intro h9
          omega
        · simp [h1, h2, h3, show ¬ k < r + 1 by omega]
theorem partV_end (S : List Int) (L : List (List Val)) : partV S L L.length 0 = L.map fun l => l.map (mvV S) := by
  apply List.ext_getElem?
  intro k
  simp only [partV, List.getElem?_mapIdx, List.getElem?_map]
  cases hk : L[k]? with
  | none => rfl
  | some l => simp [xafZ hk]
theorem xlaZ {S : List Int} {L : List (List Val)} {r j : Nat} {l : List Val} (h : L[r]? = some l) : (partV S L r j)[r]? = some (xbnZ S l j) := by
  simp [partV, List.getElem?_mapIdx, h]
theorem xmmZ {S : List Int} {L : List (List Val)} {r j : Nat} {l : List Val} {v : Val} (h : L[r]? = some l) (hv : l[j]? = some v) : partV S L r (j + 1) = (partV S L r j).set r ((xbnZ S l j).set j (mvV S v)) := by
  apply List.ext_getElem?
  intro k
  rw [List.getElem?_set]
  by_cases hk : r = k
  · subst hk
    rw [if_pos rfl, if_pos (by rw [xpcZ]; exact xafZ h), xlaZ h, xpvZ hv]
  · rw [if_neg hk]
    simp only [partV, List.getElem?_mapIdx]
    cases h2 : L[k]? with
    | none => rfl
    | some l' => by_cases h1 : k < r <;> simp [h1, show ¬ k = r by omega]
theorem fVals_mv (S : List Int) (F : List Frm) : (fVals F).map (fun l => l.map (mvV S)) = fVals (F.map (mvF S)) := by
  induction F with
  | nil => rfl
  | cons x r ih => simp [fVals, mvF] at ih ⊢; exact ih
theorem xo5Z (l : List Val) (j : Nat) (v : Val) (h : l[j]? = some v) (n : Int) : (valCells l).set (j * 2 + 1) (.int .i64 n) = valCells (l.set j (v.1, n)) := by
  induction l generalizing j with
  | nil => simp at h
  | cons x r ih =>
    cases j with
    | zero => simp at h; subst h; simp [valCells]
    | succ j =>
      have := ih j (by simpa using h)
      rw [show (j + 1) * 2 + 1 = j * 2 + 1 + 1 + 1 from by omega]
      simpa [valCells] using this
theorem VRows.setRow {W W' : World} {B r g : Nat} {q : List Value} {L : List (List Val)} {y : Value} {l : List Val} (h : VRows W B q L) (hy : q[r]? = some y) (hg : W.grownBy W' (some g)) (hyg : y.ownBlock = some g) (hr : W'.ownsRow B 50 2 y l.length (valCells l)) : VRows W' B q (L.set r l) := by
  refine ⟨by rw [List.length_set]; exact h.len, fun k x b h1 h2 => ?_, h.apart⟩
  rw [List.getElem?_set] at h2
  by_cases hk : r = k
  · subst hk
    rw [if_pos rfl] at h2
    split at h2
    · cases h2
      rw [hy] at h1
      cases h1
      exact hr
    · cases h2
  · rw [if_neg hk] at h2
    have h3 := h.each k x b h1 h2
    refine xavZ h3 fun z hz => hg.block z (h3.lt z hz).2 fun e => ?_
    cases e
    exact hk (h.apart r k y x _ hy h1 hyg hz)
def FrKept (W W' : World) : Prop := W.heap.size ≤ W'.heap.size ∧ ∀ (k : Nat) (cs : Array Value) (fz : Nat × Nat), W.heap[k]? = some (.cells cs 48 fz) → W'.heap[k]? = W.heap[k]?
theorem FrKept.trans {a b c : World} (h : FrKept a b) (k : FrKept b c) : FrKept a c := ⟨Nat.le_trans h.1 k.1, fun n cs fz hn => (k.2 n cs fz ((h.2 n cs fz hn).trans hn)).trans (h.2 n cs fz hn)⟩
theorem xhoZ {W W' : World} (h : Below W.heap.size W W') : FrKept W W' := ⟨h.size, fun k cs fz hk => h.block k (xacZ hk)⟩
theorem xkeZ {W W' : World} {row : Option Nat} {t : TypeId} (hg : W.grownBy W' row) (ht : TyRow W row t) (hne : t ≠ 48) : FrKept W W' := ⟨hg.size, fun k cs fz hk => hg.block k (xacZ hk) fun e => by
  obtain ⟨cs', fz', hh⟩ := ht k e.symm
  rw [hk] at hh
  cases hh
  exact hne rfl⟩
end Go.Proofs.YtcadpoknolefpaaGreat


