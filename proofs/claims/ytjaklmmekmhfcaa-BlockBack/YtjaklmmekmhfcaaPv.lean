/- Plain functions on code that fits (chapter 4), ahead of stage 2: what an op leaves of a stack, and the least entries. -/
import Derived.Test.YtjaklmmekmhfcaaPf
import Derived.Test.YtjaklmmekmhfcaaPj
import Derived.Test.YtjaklmmekmhfcaaMp
namespace Go.Proofs.Ytjaklmmekmhfcaa
open Go.RowKit
set_option linter.unusedSimpArgs false
set_option linter.unusedVariables false
/-- does each type of a stack stand for the one of another stack? -/
def leS : List Int → List Int → Bool
  | [], [] => true
  | a :: r, b :: q => standsB a b && leS r q
  | _, _ => false
theorem standsB_refl (a : Int) : standsB a a = true := by simp [standsB]
theorem standsB_trans {a b c : Int} (h : standsB a b = true) (k : standsB b c = true) : standsB a c = true := by
  simp [standsB] at h k ⊢
  omega
theorem standsB_anti {a b : Int} (h : standsB a b = true) (k : standsB b a = true) : a = b := by
  simp [standsB] at h k
  omega
theorem leS_refl : ∀ s, leS s s = true
  | [] => rfl
  | a :: r => by simp [leS, standsB_refl, leS_refl r]
theorem leS_length : ∀ {s t : List Int}, leS s t = true → s.length = t.length
  | [], [], _ => rfl
  | [], _ :: _, h => by simp [leS] at h
  | _ :: _, [], h => by simp [leS] at h
  | a :: r, b :: q, h => by simp [leS] at h; simp [leS_length h.2]
theorem leS_trans : ∀ {s t u : List Int}, leS s t = true → leS t u = true → leS s u = true
  | [], [], [], _, _ => rfl
  | [], _ :: _, _, h, _ => by simp [leS] at h
  | _ :: _, [], _, h, _ => by simp [leS] at h
  | [], [], _ :: _, _, h => by simp [leS] at h
  | _ :: _, _ :: _, [], _, h => by simp [leS] at h
  | a :: r, b :: q, c :: v, h, k => by
    simp [leS] at h k ⊢
    exact ⟨standsB_trans h.1 k.1, leS_trans h.2 k.2⟩
theorem leS_anti : ∀ {s t : List Int}, leS s t = true → leS t s = true → s = t
  | [], [], _, _ => rfl
  | [], _ :: _, h, _ => by simp [leS] at h
  | _ :: _, [], h, _ => by simp [leS] at h
  | a :: r, b :: q, h, k => by
    simp [leS] at h k
    rw [standsB_anti h.1 k.1, leS_anti h.2 k.2]
theorem leS_append : ∀ {s t u v : List Int}, leS s t = true → leS u v = true → leS (s ++ u) (t ++ v) = true
  | [], [], _, _, _, k => k
  | [], _ :: _, _, _, h, _ => by simp [leS] at h
  | _ :: _, [], _, _, h, _ => by simp [leS] at h
  | a :: r, b :: q, u, v, h, k => by
    simp [leS] at h ⊢
    exact ⟨h.1, leS_append h.2 k⟩
theorem leS_drop : ∀ (n : Nat) {s t : List Int}, leS s t = true → leS (s.drop n) (t.drop n) = true
  | 0, _, _, h => h
  | n + 1, [], [], _ => rfl
  | n + 1, [], _ :: _, h => by simp [leS] at h
  | n + 1, _ :: _, [], h => by simp [leS] at h
  | n + 1, a :: r, b :: q, h => by simp [leS] at h; exact leS_drop n h.2
theorem leS_take : ∀ (n : Nat) {s t : List Int}, leS s t = true → leS (s.take n) (t.take n) = true
  | 0, _, _, _ => rfl
  | n + 1, [], [], _ => rfl
  | n + 1, [], _ :: _, h => by simp [leS] at h
  | n + 1, _ :: _, [], h => by simp [leS] at h
  | n + 1, a :: r, b :: q, h => by simp [leS] at h ⊢; exact ⟨h.1, leS_take n h.2⟩
theorem leS_reverse {s t : List Int} (h : leS s t = true) : leS s.reverse t.reverse = true := by
  induction s generalizing t with
  | nil => cases t with
    | nil => rfl
    | cons _ _ => simp [leS] at h
  | cons a r ih => cases t with
    | nil => simp [leS] at h
    | cons b q =>
      simp [leS] at h
      rw [List.reverse_cons, List.reverse_cons]
      exact leS_append (ih h.2) (by simp [leS, h.1])
/-- what both stand for, their join stands for. -/
theorem joinT_le {a b c : Int} (h : standsB a c = true) (k : standsB b c = true) : ∃ t, joinT a b = some t ∧ standsB t c = true := by
  by_cases h1 : a = b
  · subst h1; exact ⟨a, joinT_same a, h⟩
  · simp [standsB] at h k
    refine ⟨2, ?_, by simp [standsB]; omega⟩
    unfold joinT
    rw [if_neg h1, if_pos (by omega)]
theorem joinL_le : ∀ {a b c : List Int}, leS a c = true → leS b c = true → ∃ l, joinL a b = some l ∧ leS l c = true
  | [], [], [], _, _ => ⟨[], rfl, rfl⟩
  | [], [], _ :: _, h, _ => by simp [leS] at h
  | [], _ :: _, [], _, k => by simp [leS] at k
  | [], _ :: _, _ :: _, h, _ => by simp [leS] at h
  | _ :: _, _, [], h, _ => by simp [leS] at h
  | _ :: _, [], _ :: _, _, k => by simp [leS] at k
  | a :: r, b :: q, c :: v, h, k => by
    simp [leS] at h k
    obtain ⟨t, h1, h2⟩ := joinT_le h.1 k.1
    obtain ⟨l, h3, h4⟩ := joinL_le h.2 k.2
    exact ⟨t :: l, by simp [joinL, h1, h3], by simp [leS, h2, h4]⟩
theorem joinL_stands : ∀ {a b l : List Int}, joinL a b = some l → leS a l = true ∧ leS b l = true
  | [], [], l, h => by cases h; exact ⟨rfl, rfl⟩
  | [], _ :: _, l, h => by cases h
  | _ :: _, [], l, h => by cases h
  | a :: r, b :: q, l, h => by
    simp only [joinL] at h
    obtain ⟨t, ht, h2⟩ := Option.bind_eq_some_iff.1 h
    obtain ⟨l', hl', rfl⟩ := Option.map_eq_some_iff.1 h2
    obtain ⟨h3, h4⟩ := joinL_stands hl'
    obtain ⟨h5, h6⟩ := joinT_stands ht
    simp [leS, h3, h4, h5, h6]
/-- takes and leaves of a plain op; 0: the local's type. -/
def plainTL (c : Int) : List Int × List Int :=
  if c = 1 ∨ c = 21 then ([], [1]) else if c = 5 ∨ c = 6 ∨ c = 7 then ([1, 1], [1]) else if c = 8 then ([], [0]) else if c = 9 then ([0], []) else if c = 11 ∨ c = 20 then ([1], []) else if c = 14 then ([1], [2]) else if c = 15 then ([2, 1], [1]) else if c = 16 then ([2, 1, 1], []) else if c = 17 ∨ c = 19 then ([2], [1]) else if c = 18 then ([], [3]) else ([], [])
def withLocal (t : Int) (l : List Int) : List Int := l.map fun x => if x = 0 then t else x
/-- what an op takes and leaves, with this stack. -/
def takesLeaves (p : List Fn) (f : Fn) (o : Int × Int) (s : List Int) : Option (List Int × List Int) :=
  if o.1 = 2 then (if s.length < 1 then none else some (s.drop (s.length - 1), []))
  else if o.1 = 3 then (if s.length < 1 then none else some (s.drop (s.length - 1), s.drop (s.length - 1) ++ s.drop (s.length - 1)))
  else if o.1 = 4 then (if s.length < 2 then none else some (s.drop (s.length - 2), (s.drop (s.length - 2)).reverse))
  else if o.1 = 12 then ((p[o.2.toNat]?).map fun g => (g.2.1.take g.1.toNat, if 0 < g.2.2.1 then [g.2.2.1] else []))
  else if o.1 = 13 then (if s.length = (if 0 < f.2.2.1 then [f.2.2.1] else []).length then some (if 0 < f.2.2.1 then [f.2.2.1] else [], []) else none)
  else some (withLocal (f.2.1.getD o.2.toNat 0) (plainTL o.1).1, withLocal (f.2.1.getD o.2.toNat 0) (plainTL o.1).2)
def tryOp (p : List Fn) (f : Fn) (o : Int × Int) (s : List Int) : Option (List Int) :=
  (takesLeaves p f o s).bind fun tl => if tl.1.length ≤ s.length ∧ leS (s.drop (s.length - tl.1.length)) tl.1 = true ∧ (s.take (s.length - tl.1.length) ++ tl.2).length ≤ 8 then some (s.take (s.length - tl.1.length) ++ tl.2) else none
/-- takes: equal or its own; leaves: no more than. -/
theorem takesLeaves_mono {p : List Fn} {f : Fn} {o : Int × Int} {s s' t l : List Int} (hs : leS s s' = true) (h : takesLeaves p f o s' = some (t, l)) :
    ∃ t1 l1, takesLeaves p f o s = some (t1, l1) ∧ t1.length = t.length ∧ leS l1 l = true ∧ (leS (s'.drop (s'.length - t.length)) t = true → leS (s.drop (s.length - t.length)) t1 = true) := by
  have hl := leS_length hs
  have hd := fun n => leS_drop n hs
  unfold takesLeaves at h ⊢
  by_cases c2 : o.1 = 2
  · rw [if_pos c2] at h ⊢
    rw [hl]
    by_cases hn : s'.length < 1
    · rw [if_pos hn] at h; cases h
    · rw [if_neg hn] at h ⊢
      cases h
      refine ⟨_, _, rfl, by simp [hl], rfl, fun _ => ?_⟩
      rw [List.length_drop, show s'.length - (s'.length - (s'.length - 1)) = s'.length - 1 by omega]
      exact leS_refl _
  rw [if_neg c2] at h ⊢
  by_cases c3 : o.1 = 3
  · rw [if_pos c3] at h ⊢
    rw [hl]
    by_cases hn : s'.length < 1
    · rw [if_pos hn] at h; cases h
    · rw [if_neg hn] at h ⊢
      cases h
      refine ⟨_, _, rfl, by simp [hl], leS_append (hd _) (hd _), fun _ => ?_⟩
      rw [List.length_drop, show s'.length - (s'.length - (s'.length - 1)) = s'.length - 1 by omega]
      exact leS_refl _
  rw [if_neg c3] at h ⊢
  by_cases c4 : o.1 = 4
  · rw [if_pos c4] at h ⊢
    rw [hl]
    by_cases hn : s'.length < 2
    · rw [if_pos hn] at h; cases h
    · rw [if_neg hn] at h ⊢
      cases h
      refine ⟨_, _, rfl, by simp [hl], leS_reverse (hd _), fun _ => ?_⟩
      rw [List.length_drop, show s'.length - (s'.length - (s'.length - 2)) = s'.length - 2 by omega]
      exact leS_refl _
  rw [if_neg c4] at h ⊢
  have hsame : leS (s'.drop (s'.length - t.length)) t = true → leS (s.drop (s.length - t.length)) t = true := fun k => by
    rw [hl]; exact leS_trans (hd _) k
  by_cases c12 : o.1 = 12
  · rw [if_pos c12] at h ⊢
    exact ⟨t, l, h, rfl, leS_refl _, hsame⟩
  rw [if_neg c12] at h ⊢
  by_cases c13 : o.1 = 13
  · rw [if_pos c13] at h ⊢
    rw [hl]
    exact ⟨t, l, h, rfl, leS_refl _, by rw [hl] at hsame; exact hsame⟩
  · rw [if_neg c13] at h ⊢
    exact ⟨t, l, h, rfl, leS_refl _, hsame⟩
theorem tryOp_mono {p : List Fn} {f : Fn} {o : Int × Int} {s s' out' : List Int} (hs : leS s s' = true) (h : tryOp p f o s' = some out') : ∃ out, tryOp p f o s = some out ∧ leS out out' = true := by
  unfold tryOp at h ⊢
  obtain ⟨⟨t, l⟩, h1, h2⟩ := Option.bind_eq_some_iff.1 h
  obtain ⟨t1, l1, k1, k2, k3, k4⟩ := takesLeaves_mono hs h1
  have hl := leS_length hs
  simp only at h2
  by_cases hc : t.length ≤ s'.length ∧ leS (s'.drop (s'.length - t.length)) t = true ∧ (s'.take (s'.length - t.length) ++ l).length ≤ 8
  · rw [if_pos hc] at h2
    cases h2
    have hout : leS (s.take (s.length - t1.length) ++ l1) (s'.take (s'.length - t.length) ++ l) = true := by
      rw [k2, hl]; exact leS_append (leS_take _ hs) k3
    refine ⟨s.take (s.length - t1.length) ++ l1, ?_, hout⟩
    rw [k1]
    simp only [Option.bind_some]
    rw [if_pos]
    refine ⟨by omega, ?_, ?_⟩
    · rw [k2]; exact k4 hc.2.1
    · rw [leS_length hout]; exact hc.2.2
  · rw [if_neg hc] at h2; cases h2
/-- entries that fit: 'at' has a stack for each place that is come to. -/
structure FitsBy (p : List Fn) (f : Fn) (e : Nat → Option (List Int)) : Prop where
  first : e 0 = some []
  on : ∀ pc s, e pc = some s → ∃ o out, f.2.2.2[pc]? = some o ∧ tryOp p f o s = some out ∧ ∀ to, goesOn f.2.2.2 pc to = true → to < f.2.2.2.length ∧ ∃ s', e to = some s' ∧ leS out s' = true
def leE (e e' : Nat → Option (List Int)) : Prop := ∀ pc s, e pc = some s → ∃ s', e' pc = some s' ∧ leS s s' = true
theorem leE_anti {e e' : Nat → Option (List Int)} (h : leE e e') (k : leE e' e) : e = e' := by
  funext pc
  cases h1 : e pc with
  | none =>
    cases h2 : e' pc with
    | none => rfl
    | some s => obtain ⟨_, h3, _⟩ := k pc s h2; rw [h1] at h3; cases h3
  | some s =>
    obtain ⟨s', h2, h3⟩ := h pc s h1
    obtain ⟨s'', h4, h5⟩ := k pc s' h2
    rw [h1] at h4; cases h4
    rw [h2, leS_anti h3 h5]
/-- one step of any way to reckon entries: below all that fit it stays below; where it fails none fit. -/
theorem step_below {p : List Fn} {f : Fn} {e e' : Nat → Option (List Int)} (hf : FitsBy p f e') (hle : leE e e') {pc : Nat} {s : List Int} (hs : e pc = some s) : ∃ o out, f.2.2.2[pc]? = some o ∧ tryOp p f o s = some out ∧ ∀ to, goesOn f.2.2.2 pc to = true → to < f.2.2.2.length ∧ ∃ s', e' to = some s' ∧ leS out s' = true ∧ ∀ s1, e to = some s1 → ∃ j, joinL s1 out = some j ∧ leS j s' = true := by
  obtain ⟨s', h1, h2⟩ := hle pc s hs
  obtain ⟨o, out', h3, h4, h5⟩ := hf.on pc s' h1
  obtain ⟨out, h6, h7⟩ := tryOp_mono h2 h4
  refine ⟨o, out, h3, h6, fun to hto => ?_⟩
  obtain ⟨h8, s2, h9, h10⟩ := h5 to hto
  refine ⟨h8, s2, h9, leS_trans h7 h10, fun s1 hs1 => ?_⟩
  obtain ⟨s3, h11, h12⟩ := hle to s1 hs1
  rw [h9] at h11; cases h11
  exact joinL_le h12 (leS_trans h7 h10)
/-- what fits has an entry for each place that may be come to. -/
theorem fits_come {p : List Fn} {f : Fn} {e : Nat → Option (List Int)} (hf : FitsBy p f e) {x : Nat} (h : Come f.2.2.2 x) : ∃ s, e x = some s := by
  induction h with
  | zero => exact ⟨_, hf.first⟩
  | step _ h2 ih =>
    obtain ⟨s, hs⟩ := ih
    obtain ⟨_, _, _, _, h⟩ := hf.on _ _ hs
    obtain ⟨_, s', h3, _⟩ := h _ h2
    exact ⟨s', h3⟩
/-- what Func should tell of entries: the least that fit, or that none do. -/
def Least (p : List Fn) (f : Fn) (r : Option (Nat → Option (List Int))) : Prop :=
  match r with
  | none => ∀ e, ¬ FitsBy p f e
  | some e => FitsBy p f e ∧ ∀ e', FitsBy p f e' → leE e e'
theorem least_one {p : List Fn} {f : Fn} {r q : Option (Nat → Option (List Int))} (h : Least p f r) (k : Least p f q) : r = q := by
  cases r with
  | none => cases q with
    | none => rfl
    | some e => exact absurd k.1 (h e)
  | some e => cases q with
    | none => exact absurd h.1 (k e)
    | some e' => rw [leE_anti (h.2 _ k.1) (k.2 _ h.1)]
end Go.Proofs.Ytjaklmmekmhfcaa

