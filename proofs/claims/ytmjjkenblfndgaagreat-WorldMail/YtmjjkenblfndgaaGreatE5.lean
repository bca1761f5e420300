/- My texts Jg Pk Qa Ma: what of them is needed, joined. -/
import Derived.Maps.AppendAt
import Derived.Test.YtmjjkenblfndgaaGreatE2
import Derived.Test.YtmjjkenblfndgaaGreatE4
set_option maxRecDepth 100000
set_option maxHeartbeats 8000000
/- What verify's stack does, plainly: it is what an op leaves. -/
namespace Go.Proofs.YtmjjkenblfndgaaGreat
open Go.RowKit
set_option linter.unusedSimpArgs false
set_option linter.unusedVariables false
abbrev St := List Int × Bool
def tk (s : St) (ts : List Int) : St := takeP s (itsB ts ts.length)
def lv (s : St) (ts : List Int) : St := (s.1 ++ ts, s.2 || decide (8 < (s.1 ++ ts).length))
def popS (s : St) : St := (s.1.dropLast, s.2 || s.1.isEmpty)
theorem itsB_map (ts : List Int) : ∀ k, k ≤ ts.length → (itsB ts k).map Prod.snd = (ts.take k).reverse
  | 0, _ => rfl
  | k + 1, h => by
    obtain ⟨z, hz⟩ := xagZ (show k < ts.length by omega)
    rw [xazZ ts k z hz, List.reverse_append, itsB, List.map_cons, itsB_map ts k (by omega), List.getD_eq_getElem?_getD, hz]
    rfl
theorem tk_eq (s : St) (ts : List Int) : tk s ts = ts.reverse.foldl take1 s := by
  have h := itsB_map ts ts.length (Nat.le_refl _)
  rw [List.take_length] at h
  rw [← h, List.foldl_map]
  rfl
theorem leS_snoc : ∀ {D R : List Int} {a t : Int}, D.length = R.length → leS (D ++ [a]) (R ++ [t]) = (leS D R && xarZ a t)
  | [], [], a, t, _ => by simp [leS]
  | [], _ :: _, a, t, h => by simp at h
  | _ :: _, [], a, t, h => by simp at h
  | d :: D, r :: R, a, t, h => by
    simp only [List.cons_append, leS]
    rw [leS_snoc (by simpa using h), Bool.and_assoc]
def fitsS (s ts : List Int) : Bool := decide (ts.length ≤ s.length) && leS (s.drop (s.length - ts.length)) ts
theorem xhfZ : ∀ (rs : List Int) (s : List Int) (wr : Bool), rs.foldl take1 (s, wr) = (s.take (s.length - rs.length), wr || !fitsS s rs.reverse)
  | [], s, wr => by simp [fitsS, leS]
  | t :: r, s, wr => by
    rw [List.foldl_cons]
    rcases List.eq_nil_or_concat s with rfl | ⟨s', a, hs⟩
    · have e : take1 ([], wr) t = ([], true) := by simp [take1]
      rw [e, xhfZ r [] true]
      simp [fitsS]
    · rw [List.concat_eq_append] at hs
      subst hs
      have hem : (s' ++ [a]).isEmpty = false := by cases s' <;> rfl
      have e : take1 (s' ++ [a], wr) t = (s', wr || !xarZ a t) := by simp only [take1, topP, hem]; simp
      rw [e, xhfZ r s' _]
      have e1 : (s' ++ [a]).length - (t :: r).length = s'.length - r.length := by simp
      have e2 : (s' ++ [a]).take (s'.length - r.length) = s'.take (s'.length - r.length) := List.take_append_of_le_length (by omega)
      rw [e1, e2]
      refine Prod.ext rfl ?_
      show (wr || !xarZ a t || !fitsS s' r.reverse) = (wr || !fitsS (s' ++ [a]) (t :: r).reverse)
      have e3 : fitsS (s' ++ [a]) (t :: r).reverse = (xarZ a t && fitsS s' r.reverse) := by
        unfold fitsS
        by_cases h : r.length ≤ s'.length
        · have h1 : decide ((t :: r).reverse.length ≤ (s' ++ [a]).length) = true := by simp; omega
          have h2 : decide (r.reverse.length ≤ s'.length) = true := by simpa using h
          rw [h1, h2, Bool.true_and, Bool.true_and]
          have h3 : (s' ++ [a]).drop ((s' ++ [a]).length - (t :: r).reverse.length) = s'.drop (s'.length - r.reverse.length) ++ [a] := by
            rw [show (s' ++ [a]).length - (t :: r).reverse.length = s'.length - r.reverse.length by simp]
            exact List.drop_append_of_le_length (by omega)
          rw [h3, List.reverse_cons, leS_snoc (by simp; omega), Bool.and_comm]
        · have h1 : decide ((t :: r).reverse.length ≤ (s' ++ [a]).length) = false := by simp; omega
          have h2 : decide (r.reverse.length ≤ s'.length) = false := by simp; omega
          rw [h1, h2]
          simp
      rw [e3]
      cases wr <;> cases xarZ a t <;> cases fitsS s' r.reverse <;> rfl
theorem xhbZ (s ts : List Int) (wr : Bool) : tk (s, wr) ts = (s.take (s.length - ts.length), wr || !fitsS s ts) := by
  rw [tk_eq, xhfZ]
  simp
def resL (f : Fn) : List Int := if f.2.2.1 = 0 then [] else [f.2.2.1]
def bhP (p : List Fn) (f : Fn) (o : Int × Int) (s : List Int) : St :=
  if o.1 = 2 then popS (s, false)
  else if o.1 = 3 then lv (popS (s, false)) [topP s, topP s]
  else if o.1 = 4 then lv (popS (popS (s, false))) [topP s, topP s.dropLast]
  else if o.1 = 8 then lv (s, false) [f.2.1.getD o.2.toNat 0]
  else if o.1 = 9 then tk (s, false) [f.2.1.getD o.2.toNat 0]
  else if o.1 = 12 then (match p[o.2.toNat]? with | some g => lv (tk (s, false) (g.2.1.take g.1.toNat)) (resL g) | none => (s, true))
  else if o.1 = 13 then ((tk (s, false) (resL f)).1, (tk (s, false) (resL f)).2 || decide (0 < (tk (s, false) (resL f)).1.length))
  else (if (xaqZ o.1).2 = [] then tk (s, false) (xaqZ o.1).1 else lv (tk (s, false) (xaqZ o.1).1) (xaqZ o.1).2)
structure OkOp (p : List Fn) (f : Fn) (o : Int × Int) : Prop where
  code : 1 ≤ o.1 ∧ o.1 ≤ 21
  loc : o.1 = 8 ∨ o.1 = 9 → 0 ≤ o.2 ∧ o.2 < (f.2.1.length : Int)
  call : o.1 = 12 → 0 ≤ o.2 ∧ o.2 < (p.length : Int)
  fns : ∀ g ∈ p, 0 ≤ g.1 ∧ g.1 ≤ (g.2.1.length : Int) ∧ g.2.1.length ≤ 6 ∧ 0 ≤ g.2.2.1
  own : f.2.1.length ≤ 6 ∧ 0 ≤ f.2.2.1
theorem tl_of {p : List Fn} {f : Fn} {o : Int × Int} {s t l : List Int} (h : xafZ p f o s = some (t, l)) (hs : s.length ≤ 8) : tryOp p f o s = if fitsS s t = true ∧ (s.take (s.length - t.length) ++ l).length ≤ 8 then some (s.take (s.length - t.length) ++ l) else none := by
  unfold tryOp
  rw [h]
  simp only [Option.bind_some, fitsS, Bool.and_eq_true, decide_eq_true_eq, and_assoc]
theorem tl_lv {p : List Fn} {f : Fn} {o : Int × Int} {s t l : List Int} (h : xafZ p f o s = some (t, l)) (hs : s.length ≤ 8) : tryOp p f o s = if (lv (tk (s, false) t) l).2 = true then none else some (lv (tk (s, false) t) l).1 := by
  rw [tl_of h hs, xhbZ]
  simp only [lv, Bool.false_or]
  cases h1 : fitsS s t
  · simp
  · by_cases h2 : (s.take (s.length - t.length) ++ l).length ≤ 8
    · rw [if_pos ⟨rfl, h2⟩, if_neg]
      simp at h2 ⊢
      omega
    · rw [if_neg (fun h => h2 h.2), if_pos]
      simp at h2 ⊢
      omega
theorem tl_tk {p : List Fn} {f : Fn} {o : Int × Int} {s t : List Int} (h : xafZ p f o s = some (t, [])) (hs : s.length ≤ 8) : tryOp p f o s = if (tk (s, false) t).2 = true then none else some (tk (s, false) t).1 := by
  rw [tl_of h hs, xhbZ]
  simp only [Bool.false_or, List.append_nil]
  have h2 : (s.take (s.length - t.length)).length ≤ 8 := by simp; omega
  cases h1 : fitsS s t
  · simp
  · rw [if_pos ⟨rfl, h2⟩]; simp
theorem xibZ (s : List Int) (k : Nat) (h : k ≤ s.length) : fitsS s (s.drop (s.length - k)) = true := by
  unfold fitsS
  rw [List.length_drop, show s.length - (s.length - (s.length - k)) = s.length - k by omega, xc7Z]
  simp
theorem xisZ {t : Int} {l : List Int} (h : ∀ x ∈ l, x ≠ 0) : xauZ t l = l := by
  unfold xauZ
  conv => rhs; rw [← List.map_id l]
  exact List.map_congr_left fun x hx => by rw [if_neg (h x hx)]; rfl
theorem plain_nz {c : Int} (h8 : c ≠ 8) (h9 : c ≠ 9) : (∀ x ∈ (xaqZ c).1, x ≠ 0) ∧ ∀ x ∈ (xaqZ c).2, x ≠ 0 := by
  unfold xaqZ
  repeat' split
  all_goals first | (exact absurd ‹c = 8› h8) | (exact absurd ‹c = 9› h9) | (constructor <;> intro x hx <;> simp at hx <;> omega)
theorem bh_try {p : List Fn} {f : Fn} {o : Int × Int} {s : List Int} (ho : OkOp p f o) (hs : s.length ≤ 8) : tryOp p f o s = if (bhP p f o s).2 = true then none else some (bhP p f o s).1 := by
  unfold bhP
  by_cases c2 : o.1 = 2
  · rw [if_pos c2]
    by_cases hn : s.length < 1
    · have : xafZ p f o s = none := by simp [xafZ, c2, hn]
      have hs0 : s = [] := List.eq_nil_of_length_eq_zero (by omega)
      subst hs0
      simp [tryOp, this, popS]
    · have h : xafZ p f o s = some (s.drop (s.length - 1), []) := by simp [xafZ, c2, hn]
      rw [tl_of h hs, List.length_drop, show s.length - (s.length - (s.length - 1)) = s.length - 1 by omega, if_pos ⟨xibZ s 1 (by omega), by simp; omega⟩]
      have hne : s ≠ [] := fun e => by subst e; simp at hn
      simp [popS, hne, List.dropLast_eq_take]
  rw [if_neg c2]
  by_cases c3 : o.1 = 3
  · rw [if_pos c3]
    by_cases hn : s.length < 1
    · have : xafZ p f o s = none := by simp [xafZ, c3, hn]
      have hs0 : s = [] := List.eq_nil_of_length_eq_zero (by omega)
      subst hs0
      simp [tryOp, this, popS, lv]
    · have h : xafZ p f o s = some (s.drop (s.length - 1), s.drop (s.length - 1) ++ s.drop (s.length - 1)) := by simp [xafZ, c3, hn]
      rcases List.eq_nil_or_concat s with rfl | ⟨s', a, hsa⟩
      · simp at hn
      · rw [List.concat_eq_append] at hsa
        subst hsa
        have hd : (s' ++ [a]).drop ((s' ++ [a]).length - 1) = [a] := by simp
        rw [hd] at h
        rw [tl_of h hs]
        have hf : fitsS (s' ++ [a]) [a] = true := by have := xibZ (s' ++ [a]) 1 (by simp); rw [hd] at this; exact this
        have ht : (s' ++ [a]).take ((s' ++ [a]).length - [a].length) = s' := by simp
        rw [hf, ht]
        simp only [true_and, lv, popS, topP]
        simp
        by_cases h8 : s'.length ≤ 6
        · rw [if_pos h8, if_neg (by omega)]
        · rw [if_neg h8, if_pos (by omega)]
  rw [if_neg c3]
  by_cases c4 : o.1 = 4
  · rw [if_pos c4]
    by_cases hn : s.length < 2
    · have : xafZ p f o s = none := by simp [xafZ, c4, hn]
      rcases s with _ | ⟨a, _ | ⟨b, r⟩⟩
      · simp [tryOp, this, popS, lv]
      · simp [tryOp, this, popS, lv]
      · simp at hn; omega
    · have h : xafZ p f o s = some (s.drop (s.length - 2), (s.drop (s.length - 2)).reverse) := by simp [xafZ, c4, hn]
      rcases List.eq_nil_or_concat s with rfl | ⟨s1, b, hsb⟩
      · simp at hn
      rw [List.concat_eq_append] at hsb
      subst hsb
      rcases List.eq_nil_or_concat s1 with rfl | ⟨s2, a, hsa⟩
      · simp at hn
      rw [List.concat_eq_append] at hsa
      subst hsa
      have hd : (s2 ++ [a] ++ [b]).drop ((s2 ++ [a] ++ [b]).length - 2) = [a, b] := by simp
      rw [hd] at h
      rw [tl_of h hs]
      have hf : fitsS (s2 ++ [a] ++ [b]) [a, b] = true := by have := xibZ (s2 ++ [a] ++ [b]) 2 (by simp); rw [hd] at this; exact this
      have ht : (s2 ++ [a] ++ [b]).take ((s2 ++ [a] ++ [b]).length - [a, b].length) = s2 := by simp
      rw [hf, ht]
      simp only [true_and, lv, popS, topP]
      simp at hs ⊢
      rw [if_pos (by omega), if_neg (by omega)]
  rw [if_neg c4]
  by_cases c8 : o.1 = 8
  · rw [if_pos c8]
    have h : xafZ p f o s = some ([], [f.2.1.getD o.2.toNat 0]) := by simp [xafZ, c2, c3, c4, c8, xaqZ, xauZ]
    rw [tl_lv h hs, xhbZ]
    simp [fitsS, leS]
  rw [if_neg c8]
  by_cases c9 : o.1 = 9
  · rw [if_pos c9]
    have h : xafZ p f o s = some ([f.2.1.getD o.2.toNat 0], []) := by simp [xafZ, c2, c3, c4, c9, xaqZ, xauZ]
    exact tl_tk h hs
  rw [if_neg c9]
  have hres : ∀ g : Fn, 0 ≤ g.2.2.1 → (if 0 < g.2.2.1 then [g.2.2.1] else []) = resL g := by
    intro g hg
    unfold resL
    by_cases h0 : g.2.2.1 = 0
    · rw [if_pos h0, if_neg (by omega)]
    · rw [if_neg h0, if_pos (by omega)]
  by_cases c12 : o.1 = 12
  · rw [if_pos c12]
    have hc := ho.call c12
    obtain ⟨g, hg⟩ := xagZ (l := p) (k := o.2.toNat) (by omega)
    have hgo := ho.fns g (List.mem_of_getElem? hg)
    have h : xafZ p f o s = some (g.2.1.take g.1.toNat, resL g) := by
      rw [← hres g hgo.2.2.2]
      simp [xafZ, c12, hg]
    rw [hg]
    exact tl_lv h hs
  rw [if_neg c12]
  by_cases c13 : o.1 = 13
  · rw [if_pos c13]
    have hr := hres f ho.own.2
    by_cases hl : s.length = (resL f).length
    · have h : xafZ p f o s = some (resL f, []) := by
        simp only [xafZ, c13, hr]
        simp [hl]
      rw [tl_tk h hs, xhbZ]
      simp [hl]
    · have h : tryOp p f o s = none := by
        simp only [tryOp, xafZ, c13, hr]
        simp [hl]
      rw [h, xhbZ]
      simp only [Bool.false_or]
      rw [if_pos]
      by_cases hle : (resL f).length ≤ s.length
      · have : decide (0 < (s.take (s.length - (resL f).length)).length) = true := by simp; omega
        rw [this, Bool.or_true]
      · have : fitsS s (resL f) = false := by simp [fitsS]; omega
        rw [this]; rfl
  rw [if_neg c13]
  have hz := plain_nz c8 c9
  have h : xafZ p f o s = some ((xaqZ o.1).1, (xaqZ o.1).2) := by
    simp only [xafZ, if_neg c2, if_neg c3, if_neg c4, if_neg c12, if_neg c13]
    rw [xisZ hz.1, xisZ hz.2]
  by_cases hl : (xaqZ o.1).2 = []
  · rw [if_pos hl]
    rw [hl] at h
    exact tl_tk h hs
  · rw [if_neg hl]
    exact tl_lv h hs
end Go.Proofs.YtmjjkenblfndgaaGreat


/- Entries as they are reckoned, plainly: what a visit may do, and that it ends. -/
namespace Go.Proofs.YtmjjkenblfndgaaGreat
open Go.RowKit
set_option linter.unusedSimpArgs false
set_option linter.unusedVariables false
abbrev Ents := List (Option (List Int))
def ent (E : Ents) (k : Nat) : Option (List Int) := (E[k]?).getD none
theorem ent_at {E : Ents} {k : Nat} {x : Option (List Int)} (h : E[k]? = some x) : ent E k = x := by simp [ent, h]
theorem xjsZ {E : Ents} {k : Nat} {s : List Int} (h : ent E k = some s) : E[k]? = some (some s) := by
  unfold ent at h
  cases e : E[k]? with
  | none => rw [e] at h; simp at h
  | some x => rw [e] at h; simp at h; subst h; rfl
theorem ent_set (E : Ents) (k x : Nat) (s : List Int) (hk : k < E.length) : ent (E.set k (some s)) x = if x = k then some s else ent E x := by
  unfold ent
  by_cases h : x = k
  · subst h; simp [hk]
  · rw [if_neg h, List.getElem?_set_ne (fun e => h e.symm)]
def m1 : Option (List Int) → Nat
  | none => 9
  | some s => s.count 3
def mu : Ents → Nat
  | [] => 0
  | x :: r => m1 x + mu r
theorem mu_set : ∀ (E : Ents) (k : Nat) (x : Option (List Int)) (y : Option (List Int)), E[k]? = some x → m1 y < m1 x → mu (E.set k y) < mu E
  | [], k, x, y, h, _ => by simp at h
  | z :: r, 0, x, y, h, hm => by simp at h; subst h; simp [mu]; omega
  | z :: r, k + 1, x, y, h, hm => by
    have := mu_set r k x y (by simpa using h) hm
    simp only [List.set_cons_succ, mu]
    omega
theorem xihZ : ∀ {s t : List Int}, leS s t = true → t.count 3 ≤ s.count 3
  | [], [], _ => Nat.le_refl _
  | [], _ :: _, h => by simp [leS] at h
  | _ :: _, [], h => by simp [leS] at h
  | a :: r, b :: q, h => by
    simp [leS] at h
    have ih := xihZ h.2
    have hs := h.1
    simp [xarZ] at hs
    rw [List.count_cons, List.count_cons]
    rcases hs with rfl | ⟨rfl, rfl⟩
    · omega
    · simp; omega
theorem xiiZ : ∀ {s t : List Int}, leS s t = true → s ≠ t → t.count 3 < s.count 3
  | [], [], _, hn => absurd rfl hn
  | [], _ :: _, h, _ => by simp [leS] at h
  | _ :: _, [], h, _ => by simp [leS] at h
  | a :: r, b :: q, h, hn => by
    simp [leS] at h
    have hs := h.1
    simp [xarZ] at hs
    rw [List.count_cons, List.count_cons]
    rcases hs with rfl | ⟨rfl, rfl⟩
    · have ih := xiiZ h.2 (fun e => hn (by rw [e]))
      omega
    · have ih := xihZ h.2
      simp; omega
theorem mu_mono : ∀ {E E' : Ents}, E'.length = E.length → (∀ k s, ent E' k = some s → s.length ≤ 8) → leE (ent E) (ent E') → mu E' ≤ mu E
  | [], E', h, _, _ => by
    have : E' = [] := List.eq_nil_of_length_eq_zero (by simpa using h)
    subst this; exact Nat.le_refl _
  | x :: r, [], h, _, _ => by simp at h
  | x :: r, y :: q, h, h8, hle => by
    have ih := mu_mono (E := r) (E' := q) (by simpa using h) (fun k s hk => h8 (k + 1) s (by simpa [ent] using hk)) (fun k s hk => by
      have := hle (k + 1) s (by simpa [ent] using hk)
      simpa [ent] using this)
    have h0 : m1 y ≤ m1 x := by
      cases x with
      | none =>
        cases y with
        | none => exact Nat.le_refl _
        | some s =>
          have := h8 0 s (by simp [ent])
          have := List.count_le_length (a := (3 : Int)) (l := s)
          simp only [m1]; omega
      | some s =>
        obtain ⟨s', h1, h2⟩ := hle 0 s (by simp [ent])
        simp [ent] at h1
        subst h1
        exact xihZ h2
    simp only [mu]; omega
def DoneAt (p : List Fn) (f : Fn) (e : Nat → Option (List Int)) (x : Nat) : Prop := ∃ s o out, e x = some s ∧ f.2.2.2[x]? = some o ∧ tryOp p f o s = some out ∧ ∀ to, goesOn f.2.2.2 x to = true → to < f.2.2.2.length ∧ ∃ s', e to = some s' ∧ leS out s' = true
theorem leE_refl (e : Nat → Option (List Int)) : leE e e := fun pc s h => ⟨s, h, xc7Z s⟩
theorem leE_trans {e e' e'' : Nat → Option (List Int)} (h : leE e e') (k : leE e' e'') : leE e e'' := fun pc s hs => by
  obtain ⟨s1, h1, h2⟩ := h pc s hs
  obtain ⟨s2, h3, h4⟩ := k pc s1 h1
  exact ⟨s2, h3, xcwZ h2 h4⟩
theorem DoneAt.mono {p : List Fn} {f : Fn} {e e' : Nat → Option (List Int)} {x : Nat} (h : DoneAt p f e x) (hle : leE e e') (hx : e' x = e x) : DoneAt p f e' x := by
  obtain ⟨s, o, out, h1, h2, h3, h4⟩ := h
  refine ⟨s, o, out, hx.trans h1, h2, h3, fun to hto => ?_⟩
  obtain ⟨h5, s', h6, h7⟩ := h4 to hto
  obtain ⟨s2, h8, h9⟩ := hle to s' h6
  exact ⟨h5, s2, h8, xcwZ h7 h9⟩
structure Went (p : List Fn) (f : Fn) (E E' : Ents) : Prop where
  le : leE (ent E) (ent E')
  done : ∀ x, ent E' x = ent E x ∨ DoneAt p f (ent E') x
theorem Went.refl (p : List Fn) (f : Fn) (E : Ents) : Went p f E E := ⟨leE_refl _, fun _ => .inl rfl⟩
theorem Went.trans {p : List Fn} {f : Fn} {E E' E'' : Ents} (h : Went p f E E') (k : Went p f E' E'') : Went p f E E'' := by
  refine ⟨leE_trans h.le k.le, fun x => ?_⟩
  rcases k.done x with h1 | h1
  · rcases h.done x with h2 | h2
    · exact .inl (h1.trans h2)
    · exact .inr (h2.mono k.le h1)
  · exact .inr h1
theorem went_set {p : List Fn} {f : Fn} {E E' : Ents} {k : Nat} {s out : List Int} {o : Int × Int} (hk : k < E.length) (hle : ∀ s0, ent E k = some s0 → leS s0 s = true) (ho : f.2.2.2[k]? = some o) (ht : tryOp p f o s = some out) (hw : Went p f (E.set k (some s)) E') (hto : ∀ to, goesOn f.2.2.2 k to = true → to < f.2.2.2.length ∧ ∃ s', ent E' to = some s' ∧ leS out s' = true) :
    Went p f E E' ∧ ∃ s', ent E' k = some s' ∧ leS s s' = true := by
  have hset := fun x => ent_set E k x s hk
  have hk' : ∃ s', ent E' k = some s' ∧ leS s s' = true := hw.le k s (by rw [hset, if_pos rfl])
  refine ⟨⟨fun x s0 hs0 => ?_, fun x => ?_⟩, hk'⟩
  · by_cases e : x = k
    · subst e
      obtain ⟨s', h1, h2⟩ := hk'
      exact ⟨s', h1, xcwZ (hle s0 hs0) h2⟩
    · exact hw.le x s0 (by rw [hset, if_neg e]; exact hs0)
  · rcases hw.done x with h1 | h1
    · by_cases e : x = k
      · subst e
        rw [hset, if_pos rfl] at h1
        exact .inr ⟨s, o, out, h1, ho, ht, hto⟩
      · rw [hset, if_neg e] at h1
        exact .inl h1
    · exact .inr h1
structure OkFn (p : List Fn) (f : Fn) : Prop where
  ops : ∀ o ∈ f.2.2.2, OkOp p f o
  flow : flowErr f.2.2.2 = 0
  loc : ∀ t ∈ f.2.1, 1 ≤ t ∧ t ≤ 2
  res : ∀ g ∈ p, 0 ≤ g.2.2.1 ∧ g.2.2.1 ≤ 2
theorem okFn {p : List Fn} {f : Fn} (hp : xanZ p = 0) (hf : f ∈ p) : OkFn p f := by
  obtain ⟨_, h5, hall, _⟩ := xe1Z hp
  have parts : ∀ g ∈ p, g.2.1.length ≤ 6 ∧ 0 ≤ g.1 ∧ g.1 ≤ (g.2.1.length : Int) ∧ (∀ t ∈ g.2.1, 1 ≤ t ∧ t ≤ 2) ∧ 0 ≤ g.2.2.1 ∧ g.2.2.1 ≤ 2 ∧ g.2.2.2.length ≠ 0 ∧ xa9Z g.2.2.2 = 0 ∧ ∀ o ∈ g.2.2.2, xbvZ o g p.length = true := by
    intro g hg
    have h := hall g hg
    unfold fnErr at h
    by_cases h1 : 6 < g.2.1.length
    · rw [if_pos h1] at h; cases h
    rw [if_neg h1] at h
    by_cases h2 : g.1 < 0 ∨ (g.2.1.length : Int) < g.1
    · rw [if_pos h2] at h; cases h
    rw [if_neg h2] at h
    by_cases h3 : xe3Z g = false
    · rw [if_pos h3] at h; cases h
    rw [if_neg h3] at h
    by_cases h4 : g.2.2.2.length = 0
    · rw [if_pos h4] at h; cases h
    rw [if_neg h4] at h
    by_cases h6 : xa9Z g.2.2.2 = 0
    · rw [if_neg (by simp [h6])] at h
      by_cases h7 : (g.2.2.2.all fun o => xbvZ o g p.length) = false
      · rw [if_pos h7] at h; cases h
      · simp only [Bool.not_eq_false] at h3 h7
        simp only [xe3Z, Bool.and_eq_true, decide_eq_true_eq] at h3
        refine ⟨by omega, by omega, by omega, fun t ht => ?_, h3.2.1, h3.2.2, h4, h6, List.all_eq_true.1 h7⟩
        have := List.all_eq_true.1 h3.1 t ht
        simp [xdvZ] at this
        omega
    · rw [if_pos h6] at h; exact absurd h h6
  obtain ⟨a1, a2, a3, a4, a5, a6, a7, a8, a9⟩ := parts f hf
  refine ⟨fun o ho => ?_, ?_, a4, fun g hg => ⟨(parts g hg).2.2.2.2.1, (parts g hg).2.2.2.2.2.1⟩⟩
  · have hn := a9 o ho
    have hc := (xjmZ ((xevZ _ a8).2 o ho)).1
    refine ⟨by simpa [xe0Z] using hc, fun h => ?_, fun h => ?_, fun g hg => ⟨(parts g hg).2.1, (parts g hg).2.2.1, (parts g hg).1, (parts g hg).2.2.2.2.1⟩, ⟨a1, a5⟩⟩
    · unfold xbvZ at hn
      rw [if_pos (by simpa using h)] at hn
      simpa [isNum] using hn
    · unfold xbvZ at hn
      rw [if_neg (by simp [h]), if_neg (by simp [h]), if_pos (by simp [h])] at hn
      simpa [isNum] using hn
  · unfold flowErr
    rw [if_neg (by simp [a8]), if_neg a7, if_neg]
    intro hany
    obtain ⟨o, ho, hb⟩ := List.any_eq_true.1 hany
    have hn := a9 o ho
    simp only [badTo, Bool.and_eq_true, Bool.not_eq_true'] at hb
    unfold xbvZ at hn
    have h10 : o.1 = 10 ∨ o.1 = 11 := by simpa using hb.1
    rw [if_neg (by simp; omega), if_pos hb.1] at hn
    have := hb.2
    simp only [isNum] at hn
    rw [hn] at this
    cases this
def tyL (s : List Int) : Prop := ∀ t ∈ s, xbbZ t = true
theorem tyL_all {s : List Int} (h : tyL s) : s.all xbbZ = true := List.all_eq_true.2 h
theorem try_types {p : List Fn} {f : Fn} {o : Int × Int} {s out : List Int} (hf : OkFn p f) (ho : o ∈ f.2.2.2) (hs : tyL s) (h : tryOp p f o s = some out) : tyL out ∧ out.length ≤ 8 := by
  unfold tryOp at h
  obtain ⟨⟨t, l⟩, h1, h2⟩ := Option.bind_eq_some_iff.1 h
  simp only at h2
  split at h2
  · rename_i hc
    cases h2
    refine ⟨?_, hc.2.2⟩
    have hdrop : ∀ k, ∀ x ∈ s.drop k, xbbZ x = true := fun k x hx => hs x (List.mem_of_mem_drop hx)
    have hl : ∀ x ∈ l, xbbZ x = true := by
      have hok := hf.ops o ho
      have hr : ∀ g ∈ p, ∀ x ∈ (if 0 < g.2.2.1 then [g.2.2.1] else []), xbbZ x = true := by
        intro g hg x hx
        split at hx
        · simp at hx; subst hx
          have := hf.res g hg
          simp [xbbZ]; omega
        · simp at hx
      unfold xafZ at h1
      by_cases c2 : o.1 = 2
      · rw [if_pos c2] at h1
        split at h1
        · cases h1
        · cases h1; intro x hx; simp at hx
      rw [if_neg c2] at h1
      by_cases c3 : o.1 = 3
      · rw [if_pos c3] at h1
        split at h1
        · cases h1
        · cases h1
          intro x hx
          rcases List.mem_append.1 hx with hx | hx
          · exact hdrop _ x hx
          · exact hdrop _ x hx
      rw [if_neg c3] at h1
      by_cases c4 : o.1 = 4
      · rw [if_pos c4] at h1
        split at h1
        · cases h1
        · cases h1
          intro x hx
          exact hdrop _ x (List.mem_reverse.1 hx)
      rw [if_neg c4] at h1
      by_cases c12 : o.1 = 12
      · rw [if_pos c12] at h1
        obtain ⟨g, hg, he⟩ := Option.map_eq_some_iff.1 h1
        cases he
        exact hr g (List.mem_of_getElem? hg)
      rw [if_neg c12] at h1
      by_cases c13 : o.1 = 13
      · rw [if_pos c13] at h1
        by_cases hl13 : s.length = (if 0 < f.2.2.1 then [f.2.2.1] else []).length
        · rw [if_pos hl13] at h1; cases h1; intro x hx; simp at hx
        · rw [if_neg hl13] at h1; cases h1
      rw [if_neg c13] at h1
      cases h1
      intro x hx
      simp only [xauZ, List.mem_map] at hx
      obtain ⟨y, hy, rfl⟩ := hx
      by_cases hy0 : y = 0
      · rw [if_pos hy0]
        subst hy0
        have c8 : o.1 = 8 := by
          rcases Decidable.em (o.1 = 8) with h8 | h8
          · exact h8
          · rcases Decidable.em (o.1 = 9) with h9 | h9
            · rw [h9] at hy; simp [xaqZ] at hy
            · exact absurd rfl ((plain_nz h8 h9).2 0 hy)
        have hlc := hok.loc (.inl c8)
        obtain ⟨z, hz⟩ := xagZ (l := f.2.1) (k := o.2.toNat) (by omega)
        rw [List.getD_eq_getElem?_getD, hz]
        have := hf.loc z (List.mem_of_getElem? hz)
        simp [xbbZ]; omega
      · rw [if_neg hy0]
        have hy3 : y = 1 ∨ y = 2 ∨ y = 3 := by
          unfold xaqZ at hy
          repeat' split at hy
          all_goals simp at hy <;> omega
        simp [xbbZ]; omega
    intro x hx
    rcases List.mem_append.1 hx with hx | hx
    · exact hs x (List.mem_of_mem_take hx)
    · exact hl x hx
  · cases h2
theorem join_types {a b j : List Int} (ha : tyL a) (hb : tyL b) (h : joinL a b = some j) : tyL j := by
  induction a generalizing b j with
  | nil =>
    cases b with
    | nil => cases h; intro t ht; simp at ht
    | cons _ _ => cases h
  | cons x r ih =>
    cases b with
    | nil => cases h
    | cons y q =>
      simp only [joinL] at h
      obtain ⟨t, ht, h2⟩ := Option.bind_eq_some_iff.1 h
      obtain ⟨l, hl, rfl⟩ := Option.map_eq_some_iff.1 h2
      intro z hz
      rcases List.mem_cons.1 hz with rfl | hz
      · unfold joinT at ht
        split at ht
        · cases ht; exact ha _ (by simp)
        · split at ht
          · cases ht; rfl
          · cases ht
      · exact ih (fun t ht => ha t (by simp [ht])) (fun t ht => hb t (by simp [ht])) hl z hz
end Go.Proofs.YtmjjkenblfndgaaGreat


/- Machines, plainly (chapter 6): what they are, what is right, what a step makes of one. -/
namespace Go.Proofs.YtmjjkenblfndgaaGreat
open Go.RowKit
set_option linter.unusedSimpArgs false
set_option linter.unusedVariables false
abbrev Val := Bool × Int
structure Frm where
  fn : Int
  pc : Int
  loc : List Val
  stk : List Val
structure Mach where
  frames : List Frm
  blocks : List (List Int)
  inp : List Int
  out : List Int
  status : Int
  trap : Int
def asT (v : Val) (t : Int) : Bool := (v.1 == decide (t ≠ 1)) && (decide (t ≠ 3) || decide (v.2 = 0))
def areOf : List Val → List Int → Bool
  | [], [] => true
  | v :: r, t :: q => asT v t && areOf r q
  | _, _ => false
def okV (nb : Nat) (v : Val) : Bool := if v.1 then decide (0 ≤ v.2) && decide (v.2 ≤ (nb : Int)) else isI32 v.2
theorem asT_le {v : Val} {t u : Int} (h : asT v t = true) (hs : xarZ t u = true) : asT v u = true := by
  simp only [asT, xarZ, Bool.and_eq_true, Bool.or_eq_true, decide_eq_true_eq, beq_iff_eq] at h hs ⊢
  rcases hs with rfl | ⟨rfl, rfl⟩
  · exact h
  · refine ⟨?_, .inl (by omega)⟩
    rw [h.1]; decide
theorem xa6Z : ∀ {l : List Val} {s : List Int}, areOf l s = true → l.length = s.length
  | [], [], _ => rfl
  | [], _ :: _, h => by simp [areOf] at h
  | _ :: _, [], h => by simp [areOf] at h
  | v :: r, t :: q, h => by simp [areOf] at h; simp [xa6Z h.2]
theorem xe6Z : ∀ {l : List Val} {s t : List Int}, areOf l s = true → leS s t = true → areOf l t = true
  | [], [], [], _, _ => rfl
  | [], [], _ :: _, _, h => by simp [leS] at h
  | [], _ :: _, _, h, _ => by simp [areOf] at h
  | _ :: _, [], _, h, _ => by simp [areOf] at h
  | _ :: _, _ :: _, [], _, h => by simp [leS] at h
  | v :: r, a :: q, b :: u, h, k => by
    simp [areOf, leS] at h k ⊢
    exact ⟨asT_le h.1 k.1, xe6Z h.2 k.2⟩
theorem xc9Z : ∀ {l m : List Val} {s t : List Int}, areOf l s = true → areOf m t = true → areOf (l ++ m) (s ++ t) = true
  | [], _, [], _, _, h => h
  | [], _, _ :: _, _, h, _ => by simp [areOf] at h
  | _ :: _, _, [], _, h, _ => by simp [areOf] at h
  | v :: r, m, a :: q, t, h, k => by
    simp [areOf] at h ⊢
    exact ⟨h.1, xc9Z h.2 k⟩
theorem xkaZ : ∀ (n : Nat) {l : List Val} {s : List Int}, areOf l s = true → areOf (l.take n) (s.take n) = true
  | 0, _, _, _ => rfl
  | n + 1, [], [], _ => rfl
  | n + 1, [], _ :: _, h => by simp [areOf] at h
  | n + 1, _ :: _, [], h => by simp [areOf] at h
  | n + 1, v :: r, t :: q, h => by simp [areOf] at h ⊢; exact ⟨h.1, xkaZ n h.2⟩
theorem xeuZ : ∀ (n : Nat) {l : List Val} {s : List Int}, areOf l s = true → areOf (l.drop n) (s.drop n) = true
  | 0, _, _, h => h
  | n + 1, [], [], _ => rfl
  | n + 1, [], _ :: _, h => by simp [areOf] at h
  | n + 1, _ :: _, [], h => by simp [areOf] at h
  | n + 1, v :: r, t :: q, h => by simp [areOf] at h; exact xeuZ n h.2
theorem xf8Z : ∀ {l : List Val} {s : List Int}, areOf l s = true → ∀ (k : Nat) (v : Val) (t : Int), l[k]? = some v → s[k]? = some t → asT v t = true
  | [], _, _, k, v, t, h, _ => by simp at h
  | _ :: _, [], _, k, v, t, _, h => by simp at h
  | a :: r, b :: q, h, 0, v, t, h1, h2 => by simp at h1 h2; subst h1 h2; simp [areOf] at h; exact h.1
  | a :: r, b :: q, h, k + 1, v, t, h1, h2 => by simp [areOf] at h; exact xf8Z h.2 k v t (by simpa using h1) (by simpa using h2)
theorem xluZ : ∀ {l : List Val} {s : List Int}, areOf l s = true → ∀ (k : Nat) (v : Val) (t : Int), s[k]? = some t → asT v t = true → areOf (l.set k v) s = true
  | [], [], _, k, v, t, h, _ => by simp at h
  | [], _ :: _, h, _, _, _, _, _ => by simp [areOf] at h
  | _ :: _, [], h, _, _, _, _, _ => by simp [areOf] at h
  | a :: r, b :: q, h, 0, v, t, h2, hv => by simp at h2; subst h2; simp [areOf] at h ⊢; exact ⟨hv, h.2⟩
  | a :: r, b :: q, h, k + 1, v, t, h2, hv => by simp [areOf] at h ⊢; exact ⟨h.1, xluZ h.2 k v t (by simpa using h2) hv⟩
theorem xmxZ {l : List Val} {s : List Int} (h : areOf l s = true) : areOf l.reverse s.reverse = true := by
  induction l generalizing s with
  | nil => cases s with
    | nil => rfl
    | cons _ _ => simp [areOf] at h
  | cons a r ih => cases s with
    | nil => simp [areOf] at h
    | cons b q =>
      simp [areOf] at h
      rw [List.reverse_cons, List.reverse_cons]
      exact xc9Z (ih h.2) (by simp [areOf, h.1])
def topV (s : List Val) (j : Nat) : Val := s.getD (s.length - 1 - j) (false, 0)
def cutV (s : List Val) (j : Nat) : List Val := s.take (s.length - j)
def xa7Z (ts : List Int) : List Val := ts.map fun t => (decide (t = 2), 0)
def trapM (m : Mach) (why : Int) : Mach := { m with status := 3, trap := why }
def putF (m : Mach) (x : Frm) : Mach := { m with frames := m.frames.dropLast ++ [x] }
def onF (m : Mach) (x : Frm) (s : List Val) : Mach := putF m { x with pc := x.pc + 1, stk := s }
def doOp (p : List Fn) (m : Mach) (x : Frm) (o : Int × Int) : Mach :=
  if o.1 = 21 ∧ m.inp = [] then { m with status := 1 }
  else if o.1 = 1 then onF m x (x.stk ++ [(false, o.2)])
  else if o.1 = 2 then onF m x (cutV x.stk 1)
  else if o.1 = 3 then onF m x (cutV x.stk 1 ++ [topV x.stk 0, topV x.stk 0])
  else if o.1 = 4 then onF m x (cutV x.stk 2 ++ [topV x.stk 0, topV x.stk 1])
  else if o.1 = 5 then onF m x (cutV x.stk 2 ++ [(false, wrap32 ((topV x.stk 1).2 + (topV x.stk 0).2))])
  else if o.1 = 6 then onF m x (cutV x.stk 2 ++ [(false, wrap32 ((topV x.stk 1).2 - (topV x.stk 0).2))])
  else if o.1 = 7 then onF m x (cutV x.stk 2 ++ [(false, wrap32 ((topV x.stk 1).2 * (topV x.stk 0).2))])
  else if o.1 = 8 then onF m x (x.stk ++ [x.loc.getD o.2.toNat (false, 0)])
  else if o.1 = 9 then putF m { x with pc := x.pc + 1, loc := x.loc.set o.2.toNat (topV x.stk 0), stk := cutV x.stk 1 }
  else if o.1 = 10 then putF m { x with pc := o.2 }
  else if o.1 = 11 then putF m { x with pc := if (topV x.stk 0).2 = 0 then o.2 else x.pc + 1, stk := cutV x.stk 1 }
  else if o.1 = 12 then (if m.frames.length = 6 then trapM m 4 else match p[o.2.toNat]? with
    | none => m
    | some g => { m with frames := m.frames.dropLast ++ [{ x with pc := x.pc + 1, stk := cutV x.stk g.1.toNat }, { fn := o.2, pc := 0, loc := x.stk.drop (x.stk.length - g.1.toNat) ++ (xa7Z g.2.1).drop g.1.toNat, stk := [] }] })
  else if o.1 = 13 then (match m.frames.dropLast.getLast? with
    | none => { m with frames := [], status := 2 }
    | some y => { m with frames := m.frames.dropLast.dropLast ++ [{ y with stk := y.stk ++ x.stk }] })
  else if o.1 = 14 then (if xbsZ m.blocks (topV x.stk 0).2 ≠ 0 then trapM m 3 else { onF m x (cutV x.stk 1 ++ [(true, (m.blocks.length : Int) + 1)]) with blocks := newL m.blocks (topV x.stk 0).2 })
  else if o.1 = 15 then (if xa0Z m.blocks (topV x.stk 1).2 (topV x.stk 0).2 = 5 then trapM m 1 else if xa0Z m.blocks (topV x.stk 1).2 (topV x.stk 0).2 ≠ 0 then trapM m 2 else onF m x (cutV x.stk 2 ++ [(false, getL m.blocks (topV x.stk 1).2 (topV x.stk 0).2)]))
  else if o.1 = 16 then (if xbrZ m.blocks (topV x.stk 2).2 (topV x.stk 1).2 (topV x.stk 0).2 = 5 then trapM m 1 else if xbrZ m.blocks (topV x.stk 2).2 (topV x.stk 1).2 (topV x.stk 0).2 ≠ 0 then trapM m 2 else { onF m x (cutV x.stk 3) with blocks := setL m.blocks (topV x.stk 2).2 (topV x.stk 1).2 (topV x.stk 0).2 })
  else if o.1 = 17 then (if (topV x.stk 0).2 = 0 then trapM m 1 else onF m x (cutV x.stk 1 ++ [(false, ((blkAt m.blocks (topV x.stk 0).2).length : Int))]))
  else if o.1 = 18 then onF m x (x.stk ++ [(true, 0)])
  else if o.1 = 19 then onF m x (cutV x.stk 1 ++ [(false, if (topV x.stk 0).2 = 0 then 1 else 0)])
  else if o.1 = 20 then (if m.out.length = 10 then trapM m 5 else { onF m x (cutV x.stk 1) with out := m.out ++ [(topV x.stk 0).2] })
  else if o.1 = 21 then { onF m x (x.stk ++ [(false, m.inp.headD 0)]) with inp := m.inp.tail }
  else m
def xaxZ (p : List Fn) (e : Nat → Nat → Option (List Int)) : Prop := ∀ (k : Nat) (f : Fn), p[k]? = some f → Least p f (some (e k))
structure RightF (p : List Fn) (e : Nat → Nat → Option (List Int)) (nb : Nat) (next : Option Int) (x : Frm) (k : Nat) (f : Fn) : Prop where
  fn : x.fn = (k : Int)
  at_ : p[k]? = some f
  loc : areOf x.loc f.2.1 = true
  okl : ∀ v ∈ x.loc, okV nb v = true
  oks : ∀ v ∈ x.stk, okV nb v = true
  inner : next = none → ∃ (pc : Nat) (s : List Int), x.pc = (pc : Int) ∧ e k pc = some s ∧ areOf x.stk s = true
  outer : ∀ g, next = some g → ∃ (pc : Nat) (s0 s : List Int) (h : Fn), x.pc = ((pc + 1 : Nat) : Int) ∧ 0 ≤ g ∧ e k pc = some s0 ∧ f.2.2.2[pc]? = some (12, g) ∧ e k (pc + 1) = some s ∧ p[g.toNat]? = some h ∧ areOf x.stk (if h.2.2.1 ≠ 0 then s.dropLast else s) = true
structure RightM (p : List Fn) (e : Nat → Nat → Option (List Int)) (m : Mach) : Prop where
  status : 0 ≤ m.status ∧ m.status ≤ 3
  trap : (m.status = 3 → 1 ≤ m.trap ∧ m.trap ≤ 5) ∧ (m.status ≠ 3 → m.trap = 0)
  blocks : blkErr m.blocks = 0
  inp : m.inp.length ≤ 10 ∧ ∀ n ∈ m.inp, isI32 n = true
  out : m.out.length ≤ 10 ∧ ∀ n ∈ m.out, isI32 n = true
  depth : m.frames.length ≤ 6 ∧ (m.frames = [] ↔ m.status = 2)
  first : ∀ x, m.frames[0]? = some x → x.fn = 0
  each : ∀ (i : Nat) (x : Frm), m.frames[i]? = some x → ∃ k f, RightF p e m.blocks.length ((m.frames[i + 1]?).map Frm.fn) x k f
  wait : m.status = 1 → m.inp = [] ∧ ∃ (x : Frm) (k : Nat) (f : Fn) (o : Int × Int), m.frames.getLast? = some x ∧ x.fn = (k : Int) ∧ p[k]? = some f ∧ f.2.2.2[x.pc.toNat]? = some o ∧ o.1 = 21
end Go.Proofs.YtmjjkenblfndgaaGreat


/- Values, frames and machines in memory. -/
namespace Go.Proofs.YtmjjkenblfndgaaGreat
open Go.RowKit
set_option linter.unusedSimpArgs false
set_option linter.unusedVariables false
def valCells (l : List Val) : List Value := l.flatMap fun v => [.bool v.1, .int .i64 v.2]
theorem xlaZ (l m : List Val) : valCells (l ++ m) = valCells l ++ valCells m := by simp [valCells]
theorem xe5Z (l : List Val) : (valCells l).length = l.length * 2 := by
  induction l with
  | nil => rfl
  | cons o r ih => simp [valCells] at *; omega
theorem xcoZ (l : List Val) : ∀ (k : Nat) (o : Val), l[k]? = some o → (valCells l)[k * 2]? = some (.bool o.1) ∧ (valCells l)[k * 2 + 1]? = some (.int .i64 o.2) := by
  induction l with
  | nil => intro k o h; simp at h
  | cons x r ih =>
    intro k o h
    cases k with
    | zero => simp at h; subst h; simp [valCells]
    | succ k =>
      have := ih k o (by simpa using h)
      rw [show (k + 1) * 2 = k * 2 + 1 + 1 from by omega]
      simpa [valCells] using this
theorem xo5Z (l : List Val) : ∀ u ∈ valCells l, u.oneCell' = true := by
  intro u hu
  obtain ⟨o, _, ho⟩ := List.mem_flatMap.1 hu
  simp at ho
  rcases ho with rfl | rfl <;> rfl
theorem xnhZ (l : List Val) (n : Nat) : (valCells l).take (n * 2) = valCells (l.take n) := by
  induction l generalizing n with
  | nil => simp [valCells]
  | cons x r ih =>
    cases n with
    | zero => simp [valCells]
    | succ n =>
      rw [show (n + 1) * 2 = n * 2 + 1 + 1 from by omega]
      simpa [valCells] using ih n
theorem xipZ (l : List Val) (k : Nat) (x : Val) : ((valCells l).set (k * 2) (.bool x.1)).set (k * 2 + 1) (.int .i64 x.2) = valCells (l.set k x) := by
  induction l generalizing k with
  | nil => simp [valCells]
  | cons y r ih =>
    cases k with
    | zero => simp [valCells]
    | succ k =>
      have := ih k
      rw [show (k + 1) * 2 = k * 2 + 1 + 1 from by omega]
      simpa [valCells] using this
def ValsAt (w : World) (v : Value) (l : List Val) : Prop :=
  ∃ (p : Option Addr) (cap : Nat), v = .slice p l.length cap ∧ l.length ≤ maxLen ∧ ∀ k o, l[k]? = some o →
    ∃ b off, p = some ⟨b, off, none⟩ ∧ b < w.heap.size ∧ w.cell? ⟨b, off + k * 2, none⟩ = some (.bool o.1) ∧ w.cell? ⟨b, off + k * 2 + 1, none⟩ = some (.int .i64 o.2)
theorem ValsAt.below {w w' : World} {v : Value} {l : List Val} (h : ValsAt w v l) (hb : Below w.heap.size w w') : ValsAt w' v l := by
  obtain ⟨p, cap, rfl, hm, hc⟩ := h
  refine ⟨p, cap, rfl, hm, fun k o hk => ?_⟩
  obtain ⟨b, off, rfl, hlt, h0, h1⟩ := hc k o hk
  exact ⟨b, off, rfl, Nat.lt_of_lt_of_le hlt hb.size, (hb.cell (p := ⟨b, off + k * 2, none⟩) hlt).trans h0, (hb.cell (p := ⟨b, off + k * 2 + 1, none⟩) hlt).trans h1⟩
theorem xb8Z {W : World} {base : Nat} {v : Value} {l : List Val} (h : W.ownsRow base 113 2 v l.length (valCells l)) : ValsAt W v l := by
  rcases h.2 with ⟨rfl, h0⟩ | ⟨g, cap, cur, rfl, hb, hg, hn, hc, hs, ht⟩
  · refine ⟨none, 0, by rw [h0], by rw [h0]; exact Nat.zero_le _, fun k o hk => ?_⟩
    have := xadZ hk
    omega
  · refine ⟨_, cap, rfl, by omega, fun k o hk => ⟨g, 0, rfl, xacZ hg, ?_, ?_⟩⟩
    · have hk2 := xadZ hk
      have := (xcoZ l k o hk).1
      rw [← ht, List.getElem?_take_of_lt (by omega)] at this
      rw [xaaZ hg]; simpa using this
    · have hk2 := xadZ hk
      have := (xcoZ l k o hk).2
      rw [← ht, List.getElem?_take_of_lt (by omega)] at this
      rw [xaaZ hg]; simpa using this
theorem vals_cells {w : World} {p : Option Addr} {n cap : Nat} {l : List Val} (h : ValsAt w (.slice p n cap) l) (ad : Addr) (hp : p = some ad) : ∀ (j : Nat) (u : Value), (valCells l)[j]? = some u → w.cell? (ad.add j) = some u := by
  obtain ⟨q, c, he, _, hc⟩ := h
  cases he
  intro j u hj
  have hlt := xadZ hj
  rw [xe5Z] at hlt
  obtain ⟨o, ho⟩ : ∃ o, l[j / 2]? = some o := ⟨l[j / 2]'(by omega), List.getElem?_eq_some_iff.2 ⟨by omega, rfl⟩⟩
  obtain ⟨b, off, hp2, _, h0, h1⟩ := hc _ o ho
  rw [hp] at hp2
  cases hp2
  have hx := xcoZ l _ o ho
  rcases Nat.mod_two_eq_zero_or_one j with hm | hm
  · have e : j / 2 * 2 = j := by omega
    rw [e] at h0 hx
    rw [hx.1] at hj
    cases hj
    rw [xdsZ]; exact h0
  · have e : j / 2 * 2 + 1 = j := by omega
    have e' : off + j / 2 * 2 + 1 = off + j := by omega
    rw [e] at hx
    rw [e'] at h1
    rw [hx.2] at hj
    cases hj
    rw [xdsZ]; exact h1
theorem infoVal : (Tryz.prog.info? 113).map (fun i => (i.zero, i.size, i.bytes)) = some (some (.agg #[.bool false, .int .i64 0]), 2, 16) := by kernel_rfl
theorem xfsZ {w : World} {ops : Array Oper} {rest : List Oper} {o : Oper} {a : Act} {Q : Exit → Act → World → Prop} (hgd : o.guard = none) (s x : Operand)
    (ho : o.op = .call { callee := .builtin .append, args := #[s, x], argTypes := #[87, 87] }) (base : Nat)
    (v : Value) (n : Nat) (xs : List Value) (hs : a.eval s = v) (hown : w.ownsRow base 113 2 v n xs)
    (u : Value) (l : List Val) (hx : a.eval x = u) (hu : ValsAt w u l) (hnil : NilOk u)
    (h63 : n + l.length ≤ maxLen) (hbytes : (n + l.length) * 16 ≤ 140737488355328) (hbase : base ≤ w.heap.size)
    (h : ∀ v' w', w'.ownsRow base 113 2 v' (n + l.length) (xs ++ valCells l) → w.grownBy w' v.ownBlock → (v'.ownBlock = v.ownBlock ∨ v'.ownBlock = some w.heap.size) → wpList Tryz.prog ops Q rest (a.put o.dst v') w') : wpList Tryz.prog ops Q (o :: rest) a w := by
  obtain ⟨i0, hi, hz0, hz1, hz2⟩ := info_parts infoVal
  have hu' := hu
  obtain ⟨p, cap, rfl, hm, hc⟩ := hu'
  cases p with
  | none =>
    have hl : l = [] := by
      cases l with
      | nil => rfl
      | cons o r => obtain ⟨b, off, hb, _⟩ := hc 0 o rfl; cases hb
    subst hl
    have hcap : cap = 0 := hnil _ _ rfl
    subst hcap
    exact wpList_append_own_none hgd s x 87 ho base 113 i0 2 Tryz.underlying87 hi v n xs hs hown hx (h v w (by simpa [valCells] using hown) (World.grownBy.refl _ _) (.inl rfl))
  | some ad =>
    exact wpList_append_own_at w hgd s x 87 ho base 113 i0 (.agg #[.bool false, .int .i64 0]) 2 16 Tryz.underlying87 hi hz0 hz1 hz2 rfl (by decide) v n xs hs hown ad l.length cap (valCells l) hx (xe5Z l)
      (vals_cells hu ad rfl) (xo5Z l) h63 hbytes hbase (fun v' w' h1 h2 _ h4 => h v' w' h1 h2 h4)
structure VRows (W : World) (B : Nat) (q : List Value) (L : List (List Val)) : Prop where
  len : q.length = L.length
  each : ∀ (k : Nat) (x : Value) (b : List Val), q[k]? = some x → L[k]? = some b → W.ownsRow B 113 2 x b.length (valCells b)
  apart : ∀ (i j : Nat) (x y : Value) (g : Nat), q[i]? = some x → q[j]? = some y → x.ownBlock = some g → y.ownBlock = some g → i = j
theorem vRows_nil (W : World) (B : Nat) : VRows W B [] [] := ⟨rfl, fun k x b h => by simp at h, fun i j x y g h => by simp at h⟩
theorem VRows.row {W : World} {B : Nat} {q : List Value} {L : List (List Val)} (h : VRows W B q L) {k : Nat} {x : Value} (hx : q[k]? = some x) : ∃ b, L[k]? = some b ∧ W.ownsRow B 113 2 x b.length (valCells b) := by
  obtain ⟨b, h2⟩ := xagZ (l := L) (k := k) (by rw [← h.len]; exact xadZ hx)
  exact ⟨b, h2, h.each k x b hx h2⟩
theorem VRows.low {W : World} {B B' : Nat} {q : List Value} {L : List (List Val)} (h : VRows W B q L) (hB : B' ≤ B) : VRows W B' q L :=
  ⟨h.len, fun k x b h1 h2 => xapZ (h.each k x b h1 h2) hB, h.apart⟩
theorem VRows.same {W W' : World} {B : Nat} {q : List Value} {L : List (List Val)} (h : VRows W B q L) (hk : ∀ (k : Nat) (x : Value) (g : Nat), q[k]? = some x → x.ownBlock = some g → W'.heap[g]? = W.heap[g]?) : VRows W' B q L :=
  ⟨h.len, fun k x b h1 h2 => xaoZ (h.each k x b h1 h2) fun g hg => hk k x g h1 hg, h.apart⟩
theorem VRows.lt {W : World} {B : Nat} {q : List Value} {L : List (List Val)} (h : VRows W B q L) {k : Nat} {x : Value} {g : Nat} (hx : q[k]? = some x) (hg : x.ownBlock = some g) : B ≤ g ∧ g < W.heap.size ∧ ∃ cs, W.heap[g]? = some (.cells cs 113 (0, 0)) := by
  obtain ⟨b, _, hr⟩ := h.row hx
  refine ⟨(hr.lt g hg).1, (hr.lt g hg).2, ?_⟩
  rcases hr.2 with ⟨rfl, _⟩ | ⟨g', cap, cur, rfl, _, hh, _⟩
  · cases hg
  · cases hg; exact ⟨_, hh⟩
theorem VRows.below {W W' : World} {B : Nat} {q : List Value} {L : List (List Val)} (h : VRows W B q L) (hb : Below W.heap.size W W') : VRows W' B q L :=
  h.same fun k x g h1 hg => hb.block g (h.lt h1 hg).2.1
theorem VRows.snoc {W : World} {B : Nat} {q : List Value} {L : List (List Val)} {x : Value} {b : List Val} (h : VRows W B q L) (hx : W.ownsRow B 113 2 x b.length (valCells b)) (hn : ∀ (k : Nat) (y : Value) (g : Nat), q[k]? = some y → y.ownBlock = some g → x.ownBlock ≠ some g) : VRows W B (q ++ [x]) (L ++ [b]) := by
  have key : ∀ (k : Nat) (y : Value), (q ++ [x])[k]? = some y → (k < q.length ∧ q[k]? = some y) ∨ (k = q.length ∧ y = x) := by
    intro k y hk
    by_cases hl : k < q.length
    · rw [List.getElem?_append_left hl] at hk; exact .inl ⟨hl, hk⟩
    · rw [List.getElem?_append_right (by omega)] at hk
      have h0 : k - q.length = 0 := by have := xadZ hk; simp at this; omega
      rw [h0] at hk; simp at hk
      exact .inr ⟨by omega, hk.symm⟩
  refine ⟨by simp [h.len], fun k y c hy hc => ?_, fun i j y z g hy hz gy gz => ?_⟩
  · rcases key k y hy with ⟨h1, h2⟩ | ⟨rfl, rfl⟩
    · rw [List.getElem?_append_left (by rw [← h.len]; exact h1)] at hc
      exact h.each k y c h2 hc
    · rw [List.getElem?_append_right (by rw [h.len]; omega), h.len, Nat.sub_self] at hc
      simp at hc; subst hc
      exact hx
  · rcases key i y hy with ⟨h1, h2⟩ | ⟨rfl, rfl⟩
    · rcases key j z hz with ⟨h3, h4⟩ | ⟨rfl, rfl⟩
      · exact h.apart i j y z g h2 h4 gy gz
      · exact absurd gz (hn i y g h2 gy)
    · rcases key j z hz with ⟨h3, h4⟩ | ⟨rfl, rfl⟩
      · exact absurd gy (hn j z g h4 gz)
      · rfl
theorem VRows.put {W W' : World} {B : Nat} {q : List Value} {L : List (List Val)} {k : Nat} {x y : Value} {b : List Val} (h : VRows W B q L) (hk : q[k]? = some x) (hg : W.grownBy W' x.ownBlock) (hy : W'.ownsRow B 113 2 y b.length (valCells b)) (hat : ∀ g, y.ownBlock = some g → x.ownBlock = some g ∨ W.heap.size ≤ g) : VRows W' B (q.set k y) (L.set k b) := by
  have hlt := xadZ hk
  refine ⟨by simp [h.len], fun i z c hz hc => ?_, fun i j z u g hz hu gz gu => ?_⟩
  · by_cases e : k = i
    · subst e
      rw [List.getElem?_set_self hlt] at hz
      rw [List.getElem?_set_self (by rw [← h.len]; exact hlt)] at hc
      cases hz; cases hc
      exact hy
    · rw [List.getElem?_set_ne e] at hz hc
      refine xaoZ (h.each i z c hz hc) fun g hgz => hg.block g (h.lt hz hgz).2.1 fun e2 => ?_
      exact e (h.apart k i x z g hk hz e2.symm hgz)
  · by_cases e : k = i
    · by_cases e' : k = j
      · omega
      · subst e
        rw [List.getElem?_set_self hlt] at hz
        rw [List.getElem?_set_ne e'] at hu
        cases hz
        rcases hat g gz with h1 | h1
        · exact h.apart k j x u g hk hu h1 gu
        · have := (h.lt hu gu).2.1; omega
    · rw [List.getElem?_set_ne e] at hz
      by_cases e' : k = j
      · subst e'
        rw [List.getElem?_set_self hlt] at hu
        cases hu
        rcases hat g gu with h1 | h1
        · exact h.apart i k z x g hz hk gz h1
        · have := (h.lt hz gz).2.1; omega
      · rw [List.getElem?_set_ne e'] at hu
        exact h.apart i j z u g hz hu gz gu
theorem VRows.take {W : World} {B : Nat} {q : List Value} {L : List (List Val)} (h : VRows W B q L) (n : Nat) : VRows W B (q.take n) (L.take n) := by
  have key : ∀ {α : Type} (l : List α) (k : Nat) (x : α), (l.take n)[k]? = some x → l[k]? = some x := fun l k x hx => by
    by_cases hl : k < n
    · rwa [List.getElem?_take_of_lt hl] at hx
    · rw [List.getElem?_eq_none (by simp; omega)] at hx; cases hx
  exact ⟨by simp [h.len], fun k x b h1 h2 => h.each k x b (key _ _ _ h1) (key _ _ _ h2), fun i j x y g h1 h2 => h.apart i j x y g (key _ _ _ h1) (key _ _ _ h2)⟩
theorem row_cut {W : World} {B : Nat} {e : TypeId} {size n cap g : Nat} {xs : List Value} (h : W.ownsRow B e size (.slice (some ⟨g, 0, none⟩) n cap) n xs) (m : Nat) (hm : m ≤ n) : W.ownsRow B e size (.slice (some ⟨g, 0, none⟩) m cap) m (xs.take (m * size)) := by
  rcases h.2 with ⟨h1, _⟩ | ⟨g', cap', cur, h1, h2, h3, h4, h5, h6, h7⟩
  · cases h1
  · cases h1
    have hle : m * size ≤ n * size := Nat.mul_le_mul_right _ hm
    refine ⟨by rw [List.length_take, h.1]; omega, .inr ⟨g, cap, cur, rfl, h2, h3, by omega, h5, h6, ?_⟩⟩
    rw [← h7, List.take_take, Nat.min_eq_left hle]
end Go.Proofs.YtmjjkenblfndgaaGreat


