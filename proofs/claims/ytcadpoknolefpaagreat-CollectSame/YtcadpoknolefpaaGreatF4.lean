/- My texts Pv Ja Jb Jc Jd Je: what of them is needed, joined. -/
import Derived.Deep.RegionLaw
import Derived.BigQuiet
import Derived.Lib.SliceRun
import Derived.Test.YtcadpoknolefpaaGreatF1
import Derived.Test.YtcadpoknolefpaaGreatF2
import Derived.Test.YtcadpoknolefpaaGreatF3
/- Plain functions on code that fits (chapter 4), ahead of stage 2: what an op leaves of a stack, and the least entries. -/
namespace Go.Proofs.YtcadpoknolefpaaGreat
open Go.RowKit
set_option linter.unusedSimpArgs false
set_option linter.unusedVariables false
def leS : List Int → List Int → Bool
  | [], [] => true
  | a :: r, b :: q => standsB a b && leS r q
  | _, _ => false
theorem standsB_refl (a : Int) : standsB a a = true := by simp [standsB]
theorem standsB_trans {a b c : Int} (h : standsB a b = true) (k : standsB b c = true) : standsB a c = true := by
  simp [standsB] at h k ⊢
  omega
theorem standsB_anti {a b : Int} (h : standsB a b = true) (k : standsB b a = true) : a = b := by
  simp [standsB] at h k
  omega
theorem leS_refl : ∀ s, leS s s = true
  | [] => rfl
  | a :: r => by simp [leS, standsB_refl, leS_refl r]
theorem leS_length : ∀ {s t : List Int}, leS s t = true → s.length = t.length
  | [], [], _ => rfl
  | [], _ :: _, h => by simp [leS] at h
  | _ :: _, [], h => by simp [leS] at h
  | a :: r, b :: q, h => by simp [leS] at h; simp [leS_length h.2]
theorem leS_trans : ∀ {s t u : List Int}, leS s t = true → leS t u = true → leS s u = true
  | [], [], [], _, _ => rfl
  | [], _ :: _, _, h, _ => by simp [leS] at h
  | _ :: _, [], _, h, _ => by simp [leS] at h
  | [], [], _ :: _, _, h => by simp [leS] at h
  | _ :: _, _ :: _, [], _, h => by simp [leS] at h
  | a :: r, b :: q, c :: v, h, k => by
    simp [leS] at h k ⊢
    exact ⟨standsB_trans h.1 k.1, leS_trans h.2 k.2⟩
theorem leS_anti : ∀ {s t : List Int}, leS s t = true → leS t s = true → s = t
  | [], [], _, _ => rfl
  | [], _ :: _, h, _ => by simp [leS] at h
  | _ :: _, [], h, _ => by simp [leS] at h
  | a :: r, b :: q, h, k => by
    simp [leS] at h k
    rw [standsB_anti h.1 k.1, leS_anti h.2 k.2]
theorem leS_append : ∀ {s t u v : List Int}, leS s t = true → leS u v = true → leS (s ++ u) (t ++ v) = true
  | [], [], _, _, _, k => k
  | [], _ :: _, _, _, h, _ => by simp [leS] at h
  | _ :: _, [], _, _, h, _ => by simp [leS] at h
  | a :: r, b :: q, u, v, h, k => by
    simp [leS] at h ⊢
    exact ⟨h.1, leS_append h.2 k⟩
theorem leS_drop : ∀ (n : Nat) {s t : List Int}, leS s t = true → leS (s.drop n) (t.drop n) = true
  | 0, _, _, h => h
  | n + 1, [], [], _ => rfl
  | n + 1, [], _ :: _, h => by simp [leS] at h
  | n + 1, _ :: _, [], h => by simp [leS] at h
  | n + 1, a :: r, b :: q, h => by simp [leS] at h; exact leS_drop n h.2
theorem leS_take : ∀ (n : Nat) {s t : List Int}, leS s t = true → leS (s.take n) (t.take n) = true
  | 0, _, _, _ => rfl
  | n + 1, [], [], _ => rfl
  | n + 1, [], _ :: _, h => by simp [leS] at h
  | n + 1, _ :: _, [], h => by simp [leS] at h
  | n + 1, a :: r, b :: q, h => by simp [leS] at h ⊢; exact ⟨h.1, leS_take n h.2⟩
theorem leS_reverse {s t : List Int} (h : leS s t = true) : leS s.reverse t.reverse = true := by
  induction s generalizing t with
  | nil => cases t with
    | nil => rfl
    | cons _ _ => simp [leS] at h
  | cons a r ih => cases t with
    | nil => simp [leS] at h
    | cons b q =>
      simp [leS] at h
      rw [List.reverse_cons, List.reverse_cons]
      exact leS_append (ih h.2) (by simp [leS, h.1])
theorem joinT_le {a b c : Int} (h : standsB a c = true) (k : standsB b c = true) : ∃ t, joinT a b = some t ∧ standsB t c = true := by
  by_cases h1 : a = b
  · subst h1; exact ⟨a, joinT_same a, h⟩
  · simp [standsB] at h k
    refine ⟨2, ?_, by simp [standsB]; omega⟩
    unfold joinT
    rw [if_neg h1, if_pos (by omega)]
theorem joinL_le : ∀ {a b c : List Int}, leS a c = true → leS b c = true → ∃ l, joinL a b = some l ∧ leS l c = true
  | [], [], [], _, _ => ⟨[], rfl, rfl⟩
  | [], [], _ :: _, h, _ => by simp [leS] at h
  | [], _ :: _, [], _, k => by simp [leS] at k
  | [], _ :: _, _ :: _, h, _ => by simp [leS] at h
  | _ :: _, _, [], h, _ => by simp [leS] at h
  | _ :: _, [], _ :: _, _, k => by simp [leS] at k
  | a :: r, b :: q, c :: v, h, k => by
    simp [leS] at h k
    obtain ⟨t, h1, h2⟩ := joinT_le h.1 k.1
    obtain ⟨l, h3, h4⟩ := joinL_le h.2 k.2
    exact ⟨t :: l, by simp [joinL, h1, h3], by simp [leS, h2, h4]⟩
theorem joinL_stands : ∀ {a b l : List Int}, joinL a b = some l → leS a l = true ∧ leS b l = true
  | [], [], l, h => by cases h; exact ⟨rfl, rfl⟩
  | [], _ :: _, l, h => by cases h
  | _ :: _, [], l, h => by cases h
  | a :: r, b :: q, l, h => by
    simp only [joinL] at h
    obtain ⟨t, ht, h2⟩ := Option.bind_eq_some_iff.1 h
    obtain ⟨l', hl', rfl⟩ := Option.map_eq_some_iff.1 h2
    obtain ⟨h3, h4⟩ := joinL_stands hl'
    obtain ⟨h5, h6⟩ := joinT_stands ht
    simp [leS, h3, h4, h5, h6]
def plainTL (c : Int) : List Int × List Int :=
  if c = 1 ∨ c = 21 then ([], [1]) else if c = 5 ∨ c = 6 ∨ c = 7 then ([1, 1], [1]) else if c = 8 then ([], [0]) else if c = 9 then ([0], []) else if c = 11 ∨ c = 20 then ([1], []) else if c = 14 then ([1], [2]) else if c = 15 then ([2, 1], [1]) else if c = 16 then ([2, 1, 1], []) else if c = 17 ∨ c = 19 then ([2], [1]) else if c = 18 then ([], [3]) else ([], [])
def withLocal (t : Int) (l : List Int) : List Int := l.map fun x => if x = 0 then t else x
def takesLeaves (p : List Fn) (f : Fn) (o : Int × Int) (s : List Int) : Option (List Int × List Int) :=
  if o.1 = 2 then (if s.length < 1 then none else some (s.drop (s.length - 1), []))
  else if o.1 = 3 then (if s.length < 1 then none else some (s.drop (s.length - 1), s.drop (s.length - 1) ++ s.drop (s.length - 1)))
  else if o.1 = 4 then (if s.length < 2 then none else some (s.drop (s.length - 2), (s.drop (s.length - 2)).reverse))
  else if o.1 = 12 then ((p[o.2.toNat]?).map fun g => (g.2.1.take g.1.toNat, if 0 < g.2.2.1 then [g.2.2.1] else []))
  else if o.1 = 13 then (if s.length = (if 0 < f.2.2.1 then [f.2.2.1] else []).length then some (if 0 < f.2.2.1 then [f.2.2.1] else [], []) else none)
  else some (withLocal (f.2.1.getD o.2.toNat 0) (plainTL o.1).1, withLocal (f.2.1.getD o.2.toNat 0) (plainTL o.1).2)
def tryOp (p : List Fn) (f : Fn) (o : Int × Int) (s : List Int) : Option (List Int) :=
  (takesLeaves p f o s).bind fun tl => if tl.1.length ≤ s.length ∧ leS (s.drop (s.length - tl.1.length)) tl.1 = true ∧ (s.take (s.length - tl.1.length) ++ tl.2).length ≤ 8 then some (s.take (s.length - tl.1.length) ++ tl.2) else none
theorem takesLeaves_mono {p : List Fn} {f : Fn} {o : Int × Int} {s s' t l : List Int} (hs : leS s s' = true) (h : takesLeaves p f o s' = some (t, l)) :
    ∃ t1 l1, takesLeaves p f o s = some (t1, l1) ∧ t1.length = t.length ∧ leS l1 l = true ∧ (leS (s'.drop (s'.length - t.length)) t = true → leS (s.drop (s.length - t.length)) t1 = true) := by
  have hl := leS_length hs
  have hd := fun n => leS_drop n hs
  unfold takesLeaves at h ⊢
  by_cases c2 : o.1 = 2
  · rw [if_pos c2] at h ⊢
    rw [hl]
    by_cases hn : s'.length < 1
    · rw [if_pos hn] at h; cases h
    · rw [if_neg hn] at h ⊢
      cases h
      refine ⟨_, _, rfl, by simp [hl], rfl, fun _ => ?_⟩
      rw [List.length_drop, show s'.length - (s'.length - (s'.length - 1)) = s'.length - 1 by omega]
      exact leS_refl _
  rw [if_neg c2] at h ⊢
  by_cases c3 : o.1 = 3
  · rw [if_pos c3] at h ⊢
    rw [hl]
    by_cases hn : s'.length < 1
    · rw [if_pos hn] at h; cases h
    · rw [if_neg hn] at h ⊢
      cases h
      refine ⟨_, _, rfl, by simp [hl], leS_append (hd _) (hd _), fun _ => ?_⟩
      rw [List.length_drop, show s'.length - (s'.length - (s'.length - 1)) = s'.length - 1 by omega]
      exact leS_refl _
  rw [if_neg c3] at h ⊢
  by_cases c4 : o.1 = 4
  · rw [if_pos c4] at h ⊢
    rw [hl]
    by_cases hn : s'.length < 2
    · rw [if_pos hn] at h; cases h
    · rw [if_neg hn] at h ⊢
      cases h
      refine ⟨_, _, rfl, by simp [hl], leS_reverse (hd _), fun _ => ?_⟩
      rw [List.length_drop, show s'.length - (s'.length - (s'.length - 2)) = s'.length - 2 by omega]
      exact leS_refl _
  rw [if_neg c4] at h ⊢
  have hsame : leS (s'.drop (s'.length - t.length)) t = true → leS (s.drop (s.length - t.length)) t = true := fun k => by
    rw [hl]; exact leS_trans (hd _) k
  by_cases c12 : o.1 = 12
  · rw [if_pos c12] at h ⊢
    exact ⟨t, l, h, rfl, leS_refl _, hsame⟩
  rw [if_neg c12] at h ⊢
  by_cases c13 : o.1 = 13
  · rw [if_pos c13] at h ⊢
    rw [hl]
    exact ⟨t, l, h, rfl, leS_refl _, by rw [hl] at hsame; exact hsame⟩
  · rw [if_neg c13] at h ⊢
    exact ⟨t, l, h, rfl, leS_refl _, hsame⟩
theorem tryOp_mono {p : List Fn} {f : Fn} {o : Int × Int} {s s' out' : List Int} (hs : leS s s' = true) (h : tryOp p f o s' = some out') : ∃ out, tryOp p f o s = some out ∧ leS out out' = true := by
  unfold tryOp at h ⊢
  obtain ⟨⟨t, l⟩, h1, h2⟩ := Option.bind_eq_some_iff.1 h
  obtain ⟨t1, l1, k1, k2, k3, k4⟩ := takesLeaves_mono hs h1
  have hl := leS_length hs
  simp only at h2
  by_cases hc : t.length ≤ s'.length ∧ leS (s'.drop (s'.length - t.length)) t = true ∧ (s'.take (s'.length - t.length) ++ l).length ≤ 8
  · rw [if_pos hc] at h2
    cases h2
    have hout : leS (s.take (s.length - t1.length) ++ l1) (s'.take (s'.length - t.length) ++ l) = true := by
      rw [k2, hl]; exact leS_append (leS_take _ hs) k3
    refine ⟨s.take (s.length - t1.length) ++ l1, ?_, hout⟩
    rw [k1]
    simp only [Option.bind_some]
    rw [if_pos]
    refine ⟨by omega, ?_, ?_⟩
    · rw [k2]; exact k4 hc.2.1
    · rw [leS_length hout]; exact hc.2.2
  · rw [if_neg hc] at h2; cases h2
structure FitsBy (p : List Fn) (f : Fn) (e : Nat → Option (List Int)) : Prop where
  first : e 0 = some []
  on : ∀ pc s, e pc = some s → ∃ o out, f.2.2.2[pc]? = some o ∧ tryOp p f o s = some out ∧ ∀ to, goesOn f.2.2.2 pc to = true → to < f.2.2.2.length ∧ ∃ s', e to = some s' ∧ leS out s' = true
def leE (e e' : Nat → Option (List Int)) : Prop := ∀ pc s, e pc = some s → ∃ s', e' pc = some s' ∧ leS s s' = true
theorem leE_anti {e e' : Nat → Option (List Int)} (h : leE e e') (k : leE e' e) : e = e' := by
  funext pc
  cases h1 : e pc with
  | none =>
    cases h2 : e' pc with
    | none => rfl
    | some s => obtain ⟨_, h3, _⟩ := k pc s h2; rw [h1] at h3; cases h3
  | some s =>
    obtain ⟨s', h2, h3⟩ := h pc s h1
    obtain ⟨s'', h4, h5⟩ := k pc s' h2
    rw [h1] at h4; cases h4
    rw [h2, leS_anti h3 h5]
theorem step_below {p : List Fn} {f : Fn} {e e' : Nat → Option (List Int)} (hf : FitsBy p f e') (hle : leE e e') {pc : Nat} {s : List Int} (hs : e pc = some s) : ∃ o out, f.2.2.2[pc]? = some o ∧ tryOp p f o s = some out ∧ ∀ to, goesOn f.2.2.2 pc to = true → to < f.2.2.2.length ∧ ∃ s', e' to = some s' ∧ leS out s' = true ∧ ∀ s1, e to = some s1 → ∃ j, joinL s1 out = some j ∧ leS j s' = true := by
  obtain ⟨s', h1, h2⟩ := hle pc s hs
  obtain ⟨o, out', h3, h4, h5⟩ := hf.on pc s' h1
  obtain ⟨out, h6, h7⟩ := tryOp_mono h2 h4
  refine ⟨o, out, h3, h6, fun to hto => ?_⟩
  obtain ⟨h8, s2, h9, h10⟩ := h5 to hto
  refine ⟨h8, s2, h9, leS_trans h7 h10, fun s1 hs1 => ?_⟩
  obtain ⟨s3, h11, h12⟩ := hle to s1 hs1
  rw [h9] at h11; cases h11
  exact joinL_le h12 (leS_trans h7 h10)
theorem fits_come {p : List Fn} {f : Fn} {e : Nat → Option (List Int)} (hf : FitsBy p f e) {x : Nat} (h : Come f.2.2.2 x) : ∃ s, e x = some s := by
  induction h with
  | zero => exact ⟨_, hf.first⟩
  | step _ h2 ih =>
    obtain ⟨s, hs⟩ := ih
    obtain ⟨_, _, _, _, h⟩ := hf.on _ _ hs
    obtain ⟨_, s', h3, _⟩ := h _ h2
    exact ⟨s', h3⟩
def Least (p : List Fn) (f : Fn) (r : Option (Nat → Option (List Int))) : Prop :=
  match r with
  | none => ∀ e, ¬ FitsBy p f e
  | some e => FitsBy p f e ∧ ∀ e', FitsBy p f e' → leE e e'
theorem least_one {p : List Fn} {f : Fn} {r q : Option (Nat → Option (List Int))} (h : Least p f r) (k : Least p f q) : r = q := by
  cases r with
  | none => cases q with
    | none => rfl
    | some e => exact absurd k.1 (h e)
  | some e => cases q with
    | none => exact absurd h.1 (k e)
    | some e' => rw [leE_anti (h.2 _ k.1) (k.2 _ h.1)]
end Go.Proofs.YtcadpoknolefpaaGreat


/- verify: standsFor, joinType, Join. -/
namespace Go.Proofs.YtcadpoknolefpaaGreat
open Go.RowKit
set_option linter.unusedSimpArgs false
set_option linter.unusedVariables false
set_option maxHeartbeats 1000000 in
theorem standsFor_any (a b : Int) (w : World) : Calls Tryz.prog 148 #[.int .i64 a, .int .i64 b] w fun e w' => e = .returned (.bool (standsB a b)) ∧ w' = w := by
  by_cases h : a = b
  · subst h
    have h' : (a == a) = true := by simp
    go_enter Tryz.func148, Tryz.ntmps148
    go_wp2
    go_ret
    exact ⟨by simp [standsB], rfl⟩
  · have h' : (a == b) = false := by simp [h]
    by_cases h3 : a = 3
    · subst h3
      by_cases h2 : b = 2
      · subst h2
        go_enter Tryz.func148, Tryz.ntmps148
        go_wp2
        go_ret
        exact ⟨by simp [standsB], rfl⟩
      · have h2' : (b == 2) = false := by simp [h2]
        have hs : standsB 3 b = false := by simp [standsB, h, h2]
        rw [hs]
        clear h h2 hs
        go_enter Tryz.func148, Tryz.ntmps148
        go_wp2
        go_ret
        exact ⟨rfl, rfl⟩
    · have h3' : (a == 3) = false := by simp [h3]
      have hs : standsB a b = false := by simp [standsB, h, h3]
      rw [hs]
      clear h h3 hs
      go_enter Tryz.func148, Tryz.ntmps148
      go_wp2
      go_ret
      exact ⟨rfl, rfl⟩
def jt (a b : Int) : Int := if standsB a b = true then b else if standsB b a = true then a else 0
theorem jt_none {a b : Int} (ha : isType a = true) (hb : isType b = true) : jt a b = 0 ↔ joinT a b = none := by
  simp only [isType, Bool.and_eq_true, decide_eq_true_eq] at ha hb
  unfold jt joinT standsB
  by_cases h : a = b
  · subst h; simp; omega
  · by_cases h1 : a = 3 ∧ b = 2
    · obtain ⟨rfl, rfl⟩ := h1; simp
    · by_cases h2 : a = 2 ∧ b = 3
      · obtain ⟨rfl, rfl⟩ := h2; simp
      · have e1 : (decide (a = b) || decide (a = 3) && decide (b = 2)) = false := by simp [h]; omega
        have e2 : (decide (b = a) || decide (b = 3) && decide (a = 2)) = false := by simp [fun e : b = a => h e.symm]; omega
        rw [e1, e2]
        simp [h]
        omega
theorem jt_some {a b t : Int} (h : joinT a b = some t) : jt a b = t := by
  unfold joinT at h
  by_cases h1 : a = b
  · rw [if_pos h1] at h; cases h; subst h1; simp [jt, standsB]
  · rw [if_neg h1] at h
    split at h
    · rename_i h2
      cases h
      rcases h2 with ⟨rfl, rfl⟩ | ⟨rfl, rfl⟩ <;> simp [jt, standsB]
    · cases h
theorem jt_list : ∀ {a b l : List Int}, joinL a b = some l → List.zipWith jt a b = l
  | [], [], l, h => by cases h; rfl
  | [], _ :: _, l, h => by cases h
  | _ :: _, [], l, h => by cases h
  | a :: r, b :: q, l, h => by
    simp only [joinL] at h
    obtain ⟨t, ht, h2⟩ := Option.bind_eq_some_iff.1 h
    obtain ⟨l', hl', rfl⟩ := Option.map_eq_some_iff.1 h2
    simp [jt_some ht, jt_list hl']
theorem jt_zero : ∀ {a b : List Int}, a.length = b.length → (∀ x ∈ a, isType x = true) → (∀ x ∈ b, isType x = true) → ((0 : Int) ∈ List.zipWith jt a b ↔ joinL a b = none)
  | [], [], _, _, _ => by simp [joinL]
  | [], _ :: _, h, _, _ => by simp at h
  | _ :: _, [], h, _, _ => by simp at h
  | a :: r, b :: q, h, ha, hb => by
    have ih := jt_zero (a := r) (b := q) (by simpa using h) (fun x hx => ha x (by simp [hx])) (fun x hx => hb x (by simp [hx]))
    have h1 := jt_none (ha a (by simp)) (hb b (by simp))
    simp only [List.zipWith_cons_cons, List.mem_cons, ih, joinL]
    cases e : joinT a b with
    | none => simp [h1.2 e]
    | some t =>
      have hne : ¬ 0 = jt a b := fun h0 => by have := h1.1 h0.symm; rw [e] at this; cases this
      simp [hne]
set_option maxHeartbeats 1000000 in
theorem joinType_any (a b : Int) (w : World) : Calls Tryz.prog 107 #[.int .i64 a, .int .i64 b] w fun e w' => e = .returned (.int .i64 (jt a b)) ∧ w' = w := by
  cases h1 : standsB a b
  · cases h2 : standsB b a
    · go_enter Tryz.func107, Tryz.ntmps107
      go_wp2_with fail
      refine (standsFor_any a b _).mono ?_
      rw [h1]
      rintro e w1 ⟨rfl, hw⟩
      have hw := hw.symm
      subst hw
      go_wp2_with fail
      refine (standsFor_any b a _).mono ?_
      rw [h2]
      rintro e w1 ⟨rfl, hw⟩
      have hw := hw.symm
      subst hw
      go_wp2
      go_ret
      exact ⟨by simp [jt, h1, h2], rfl⟩
    · go_enter Tryz.func107, Tryz.ntmps107
      go_wp2_with fail
      refine (standsFor_any a b _).mono ?_
      rw [h1]
      rintro e w1 ⟨rfl, hw⟩
      have hw := hw.symm
      subst hw
      go_wp2_with fail
      refine (standsFor_any b a _).mono ?_
      rw [h2]
      rintro e w1 ⟨rfl, hw⟩
      have hw := hw.symm
      subst hw
      go_wp2
      go_ret
      exact ⟨by simp [jt, h1, h2], rfl⟩
  · go_enter Tryz.func107, Tryz.ntmps107
    go_wp2_with fail
    refine (standsFor_any a b _).mono ?_
    rw [h1]
    rintro e w1 ⟨rfl, hw⟩
    have hw := hw.symm
    subst hw
    go_wp2
    go_ret
    exact ⟨by simp [jt, h1], rfl⟩
set_option maxHeartbeats 1000000 in
theorem join1_any (t : Int) (w : World) : Calls Tryz.prog 105 #[.int .i64 t] w fun e w' => e = .returned (.bool (!isType t)) ∧ w' = w := by
  by_cases h1 : t < 1
  · go_enter Tryz.func105, Tryz.ntmps105
    go_wp2
    go_ret
    exact ⟨by simp [isType]; omega, rfl⟩
  · by_cases h2 : t > 3
    · go_enter Tryz.func105, Tryz.ntmps105
      go_wp2
      go_ret
      exact ⟨by simp [isType]; omega, rfl⟩
    · go_enter Tryz.func105, Tryz.ntmps105
      go_wp2
      go_ret
      exact ⟨by simp [isType]; omega, rfl⟩
set_option maxHeartbeats 1000000 in
theorem indexNoType_any (l : List Int) (v : Value) (w : World) (h : IntsAt w v l) : Calls Tryz.prog 147 #[v, .func (.func 105) #[] #[]] w fun e w' => ∃ r, e = .returned (.int .i64 r) ∧ decide (0 ≤ r) = (!l.all isType) ∧ w' = w := by
  obtain ⟨p, cap, rfl, hm, hc⟩ := h
  unfold maxLen at hm
  go_enter Tryz.func147, Tryz.ntmps147
  go_wp2
  go_loopw [5, 8] (fun _ i wr => ∃ k : Nat, k ≤ l.length ∧ i = .int .i64 k ∧ (∀ o ∈ l.take k, isType o = true) ∧ wr = w) (fun _ i _ => l.length - (intOf i).toNat)
  case atStart => exact ⟨0, Nat.zero_le _, rfl, by simp, rfl⟩
  case round =>
    obtain ⟨k, hk, rfl, hok, hbw⟩ := hrel
    subst hbw
    have HK := hideP hok
    have HC := hideP hc
    clear hok hc
    by_cases hlt : k < l.length
    · obtain ⟨z, ho⟩ := at_of_lt hlt
      obtain ⟨b, off, rfl, hb, g0⟩ := HC.out k _ ho
      have HO := hideP ho
      clear ho
      cases hnb : isType z
      · go_wp2_with (go_at_call 105; refine (join1_any z _).mono ?_; rw [hnb]; rintro e w2 ⟨rfl, hw⟩; have hw := hw.symm; subst hw)
        go_ret
        exact ⟨k, rfl, by rw [all_false HO.out hnb]; simp, rfl⟩
      · go_wp2_with (go_at_call 105; refine (join1_any z _).mono ?_; rw [hnb]; rintro e w2 ⟨rfl, hw⟩; have hw := hw.symm; subst hw)
        go_roundw
        case rel => exact ⟨k + 1, by omega, by go_num, all_snoc HK.out HO.out hnb, trivial⟩
        case measure => simp [intOf]; omega
    · have hlt' : ¬ (k : Int) < (l.length : Int) := by omega
      go_wp2
      go_ret
      refine ⟨-1, rfl, ?_, rfl⟩
      have := HK.out
      rw [List.take_of_length_le (by omega)] at this
      rw [all_true this]; decide
set_option maxHeartbeats 1000000 in
theorem containsNoType_any (l : List Int) (v : Value) (w : World) (h : IntsAt w v l) : Calls Tryz.prog 106 #[v, .func (.func 105) #[] #[]] w fun e w' => e = .returned (.bool (!l.all isType)) ∧ w' = w := by
  go_enter Tryz.func106, Tryz.ntmps106
  go_wp2_with fail
  refine (indexNoType_any l v _ h).mono ?_
  rintro e w2 ⟨r, rfl, hr, hw⟩
  have hw := hw.symm
  subst hw
  have HR := hideP hr
  clear hr
  go_wp2
  go_ret
  exact ⟨by rw [← HR.out]; rfl, rfl⟩
def upTo (l : List Int) (k : Nat) : List Int := l.take k ++ List.replicate (l.length - k) 0
theorem upTo_set {l : List Int} {k : Nat} {x : Int} (h : l[k]? = some x) : (upTo l k).set k x = upTo l (k + 1) := by
  have hk := lt_of_at h
  apply List.ext_getElem?
  intro i
  rw [List.getElem?_set]
  have hlen : (upTo l k).length = l.length := by simp [upTo]; omega
  by_cases e : k = i
  · subst e
    rw [if_pos rfl, if_pos (by omega)]
    unfold upTo
    rw [List.getElem?_append_left (by simp; omega), List.getElem?_take_of_lt (by omega), h]
  · rw [if_neg e]
    unfold upTo
    by_cases hi : i < k
    · rw [List.getElem?_append_left (by simp; omega), List.getElem?_append_left (by simp; omega), List.getElem?_take_of_lt hi, List.getElem?_take_of_lt (by omega)]
    · rw [List.getElem?_append_right (by simp; omega), List.getElem?_append_right (by simp; omega)]
      simp only [List.getElem?_replicate, List.length_take]
      rw [Nat.min_eq_left (by omega), Nat.min_eq_left (by omega)]
      by_cases hl : i < l.length
      · rw [if_pos (by omega), if_pos (by omega)]
      · rw [if_neg (by omega), if_neg (by omega)]
theorem upTo_all (l : List Int) : upTo l l.length = l := by simp [upTo]
theorem upTo_none (l : List Int) : upTo l 0 = List.replicate l.length 0 := by simp [upTo]
theorem set_ints (l : List Int) (k : Nat) (x : Int) : (l.map (Value.int .i64)).toArray.setIfInBounds k (.int .i64 x) = ((l.set k x).map (Value.int .i64)).toArray := by
  apply Array.ext'
  simp
theorem made_ints (n : Nat) : (madeCells (Value.int .i64 0).cells (n * 1)).toList = (List.replicate n (0 : Int)).map (Value.int .i64) := by
  have h : (Value.int .i64 0).cells = #[.int .i64 0] := rfl
  rw [h]
  apply List.ext_getElem?
  intro k
  by_cases hk : k < n
  · simp [madeCells, hk, Nat.mod_one]
  · simp [madeCells, hk]
end Go.Proofs.YtcadpoknolefpaaGreat


/- verify.Join. -/
namespace Go.Proofs.YtcadpoknolefpaaGreat
open Go.RowKit
set_option linter.unusedSimpArgs false
set_option linter.unusedVariables false
def joinR (a b : List Int) : List Int := if joinErr a b = 0 then (joinL a b).getD [] else []
theorem joinErr_kind {a b : List Int} (h : (a.all isType && b.all isType) = false) : joinErr a b = 6 := by
  unfold joinErr
  rw [if_pos]
  rw [List.any_append, Bool.or_eq_true]
  rcases Bool.and_eq_false_iff.1 h with h | h
  · left; rw [← List.not_all_eq_any_not, h]; rfl
  · right; rw [← List.not_all_eq_any_not, h]; rfl
theorem joinErr_many {a b : List Int} (ha : a.all isType = true) (hb : b.all isType = true) (h : 8 < a.length ∨ 8 < b.length) : joinErr a b = 2 := by
  unfold joinErr
  rw [if_neg (by rw [List.any_append, ← List.not_all_eq_any_not, ← List.not_all_eq_any_not, ha, hb]; decide), if_pos h]
theorem joinErr_rest {a b : List Int} (ha : a.all isType = true) (hb : b.all isType = true) (h1 : a.length ≤ 8) (h2 : b.length ≤ 8) : joinErr a b = if (joinL a b).isNone = true then 4 else 0 := by
  unfold joinErr
  rw [if_neg (by rw [List.any_append, ← List.not_all_eq_any_not, ← List.not_all_eq_any_not, ha, hb]; decide), if_neg (by omega)]
theorem joinL_lens {a b : List Int} (h : a.length ≠ b.length) : joinL a b = none := by
  cases e : joinL a b with
  | none => rfl
  | some l => exact absurd (joinL_length _ _ _ e).2 h
theorem ints_at_full {w : World} {R n : Nat} {J : List Int} (h : w.heap[R]? = some (.cells (J.map (Value.int .i64)).toArray 3 (0, 0))) (hn : J.length = n) (hm : n ≤ maxLen := by unfold maxLen; omega) : IntsAt w (.slice (some ⟨R, 0, none⟩) n n) J := by
  subst hn
  refine ⟨_, _, rfl, hm, fun k z hk => ⟨R, 0, rfl, heap_lt h, ?_⟩⟩
  rw [cell_at' h]
  simp [hk]
set_option maxRecDepth 100000 in
set_option maxHeartbeats 4000000 in
theorem vJoin_any (a b : List Int) (v u : Value) (w : World) (ha : IntsAt w v a) (hb : IntsAt w u b) : Calls Tryz.prog 63 #[v, u] w fun e w' => ∃ x, e = .returned (.tuple #[x, .int .i64 (joinErr a b)]) ∧ w'.ownsRow w.heap.size 3 1 x (joinR a b).length ((joinR a b).map (Value.int .i64)) ∧ Below w.heap.size w w' := by
  have ha' := ha
  have hb' := hb
  obtain ⟨pa, ca, rfl, hma, hca⟩ := ha'
  obtain ⟨pb, cb, rfl, hmb, hcb⟩ := hb'
  unfold maxLen at hma hmb
  have HCA := hideP hca
  have HCB := hideP hcb
  have HA := hideP ha
  have HB := hideP hb
  clear hca hcb ha hb
  cases ka : a.all isType
  · have he : joinErr a b = 6 := joinErr_kind (by rw [ka]; rfl)
    have hr : joinR a b = [] := by rw [joinR, if_neg (by rw [he]; decide)]
    rw [he, hr]
    clear he hr
    go_enter Tryz.func63, Tryz.ntmps63
    go_wp2_with fail
    refine (containsNoType_any a _ _ HA.out).mono ?_
    rw [ka]
    rintro e w1 ⟨rfl, hw⟩
    have hw := hw.symm
    subst hw
    go_wp2
    go_ret2
    exact ⟨_, rfl, World.ownsRow_nil _ _ _ _, Below.refl _ _⟩
  · cases kb : b.all isType
    · have he : joinErr a b = 6 := joinErr_kind (by rw [ka, kb]; rfl)
      have hr : joinR a b = [] := by rw [joinR, if_neg (by rw [he]; decide)]
      rw [he, hr]
      clear he hr
      go_enter Tryz.func63, Tryz.ntmps63
      go_wp2_with fail
      refine (containsNoType_any a _ _ HA.out).mono ?_
      rw [ka]
      rintro e w1 ⟨rfl, hw⟩
      have hw := hw.symm
      subst hw
      go_wp2_with fail
      refine (containsNoType_any b _ _ HB.out).mono ?_
      rw [kb]
      rintro e w1 ⟨rfl, hw⟩
      have hw := hw.symm
      subst hw
      go_wp2
      go_ret2
      exact ⟨_, rfl, World.ownsRow_nil _ _ _ _, Below.refl _ _⟩
    · go_enter Tryz.func63, Tryz.ntmps63
      go_wp2_with fail
      refine (containsNoType_any a _ _ HA.out).mono ?_
      rw [ka]
      rintro e w1 ⟨rfl, hw⟩
      have hw := hw.symm
      subst hw
      go_wp2_with fail
      refine (containsNoType_any b _ _ HB.out).mono ?_
      rw [kb]
      rintro e w1 ⟨rfl, hw⟩
      have hw := hw.symm
      subst hw
      by_cases la : 8 < a.length
      · have he : joinErr a b = 2 := joinErr_many ka kb (.inl la)
        have hr : joinR a b = [] := by rw [joinR, if_neg (by rw [he]; decide)]
        have HE := hideP he
        have HR := hideP hr
        have la' : (a.length : Int) > 8 := by omega
        clear he hr ka kb
        go_wp2
        go_ret2
        rw [HE.out, HR.out]
        exact ⟨_, rfl, World.ownsRow_nil _ _ _ _, Below.refl _ _⟩
      · have la' : ¬ (a.length : Int) > 8 := by omega
        by_cases lb : 8 < b.length
        · have he : joinErr a b = 2 := joinErr_many ka kb (.inr lb)
          have hr : joinR a b = [] := by rw [joinR, if_neg (by rw [he]; decide)]
          have HE := hideP he
          have HR := hideP hr
          have lb' : (b.length : Int) > 8 := by omega
          clear he hr ka kb
          go_wp2
          go_ret2
          rw [HE.out, HR.out]
          exact ⟨_, rfl, World.ownsRow_nil _ _ _ _, Below.refl _ _⟩
        · have lb' : ¬ (b.length : Int) > 8 := by omega
          have hrest := joinErr_rest ka kb (by omega) (by omega)
          by_cases hl : a.length = b.length
          · rw [← hl]
            have hz := jt_zero hl (List.all_eq_true.1 ka) (List.all_eq_true.1 kb)
            have hjl : (List.zipWith jt a b).length = a.length := by simp; omega
            have hjt := fun l (h : joinL a b = some l) => jt_list h
            obtain ⟨J, hJ⟩ : ∃ J, List.zipWith jt a b = J := ⟨_, rfl⟩
            have hJk : ∀ (k : Nat) (x y : Int), a[k]? = some x → b[k]? = some y → J[k]? = some (jt x y) := by
              intro k x y h1 h2
              rw [← hJ, List.getElem?_zipWith, h1, h2]
            rw [hJ] at hz hjl hjt
            have HJK := hideP hJk
            have HZ := hideP hz
            have HJT := hideP hjt
            have HRE := hideP hrest
            have HLL := hideP hl
            obtain ⟨i0, hi, hz0, hz1, hz2⟩ := info_parts infoInt
            have hla2 : a.length ≤ 8 := by omega
            have HBL := hideP hl.symm
            clear hz hjt hrest ka kb hJk hJ hl lb lb' hmb
            go_wp2_with (at_make; go_must (refine wpList_make_full _ rfl _ _ 27 rfl w.heap.size 3 i0 (.int .i64 0) 1 Tryz.underlying27 hi hz0 hz1 _ _ _ _ a.length rfl rfl (by omega) (by omega) (by rw [hz2]; omega) (by unfold maxLen; omega) (Nat.le_refl _) ?_; intro w2 hown2 hg2; rw [made_ints] at hown2; have Q2 := hideP (row_full hown2 (by simp)); clear hown2))
            have hB2 : Below w.heap.size w w2 := (Below.refl w.heap.size w).grown hg2 (Nat.le_refl _) (fun k hk => by cases hk)
            go_loopw [8, 38] (fun _ i wr => ∃ k : Nat, k ≤ a.length ∧ i = .int .i64 k ∧ wr.heap[w.heap.size]? = some (.cells ((upTo J k).map (Value.int .i64)).toArray 3 (0, 0)) ∧ Below w.heap.size w wr) (fun _ i _ => a.length - (intOf i).toNat)
            case atStart =>
              refine ⟨0, Nat.zero_le _, rfl, ?_, hB2⟩
              rw [upTo_none, hjl]
              exact Q2.out
            case round =>
              rename World => w3
              obtain ⟨k, hk, rfl, hq3, hB3⟩ := hrel
              by_cases hlt : k < a.length
              · have hlti : (k : Int) < (a.length : Int) := by omega
                obtain ⟨x, hx⟩ := at_of_lt hlt
                obtain ⟨y, hy⟩ := at_of_lt (show k < b.length by rw [HBL.out]; omega)
                obtain ⟨b1, o1, hp1, hb1, g1⟩ := HCA.out k x hx
                obtain ⟨b2, o2, hp2, hb2, g2⟩ := HCB.out k y hy
                subst hp1 hp2
                have d1 := (hB3.cell (p := ⟨b1, o1 + k, none⟩) hb1).trans g1
                have d2 := (hB3.cell (p := ⟨b2, o2 + k, none⟩) hb2).trans g2
                have z3 := Lib.frozen_of_heap hq3 k
                have hu : (upTo J k).length = J.length := by simp [upTo]; omega
                have d3 : ∃ v3, w3.cell? ⟨w.heap.size, k, none⟩ = some v3 := by
                  rw [cell_at' hq3]
                  refine ⟨_, Array.getElem?_eq_getElem (by simp; omega)⟩
                obtain ⟨v3, d3⟩ := d3
                have hset := upTo_set (HJK.out k x y hx hy)
                have HSET := hideP hset
                have Q3 := hideP hq3
                clear g1 g2 hx hy hset hq3 hu
                go_wp2
                go_region_law (go_simp; go_at_call 107; refine (joinType_any x y _).mono ?_; rintro e w4 ⟨rfl, hw4⟩; have hw4 := hw4.symm; subst hw4)
                all_goals
                  go_wp2
                  go_roundw
                  case rel =>
                    refine ⟨k + 1, by omega, by go_num, ?_, ?_⟩
                    · have := heap_setCell_same w3 w.heap.size k _ _ (.int .i64 (jt x y)) Q3.out
                      rw [set_ints, HSET.out] at this
                      exact this
                    · first
                      | exact (hB3.setCell (p := ⟨w.heap.size, k, none⟩) (Nat.le_refl _) _).drew
                      | exact hB3.setCell (p := ⟨w.heap.size, k, none⟩) (Nat.le_refl _) _
                  case measure => simp [intOf]; omega
              · have hlti : ¬ (k : Int) < (a.length : Int) := by omega
                obtain rfl : k = a.length := by omega
                rw [← hjl, upTo_all] at hq3
                have hI3 : IntsAt w3 (.slice (some ⟨w.heap.size, 0, none⟩) a.length a.length) J := ints_at_full hq3 hjl
                have Q3 := hideP hq3
                clear hq3
                by_cases h0 : (0 : Int) ∈ J
                · have hjn := HZ.out.1 h0
                  have he : joinErr a b = 4 := by rw [HRE.out, hjn]; rfl
                  have hr : joinR a b = [] := by rw [joinR, if_neg (by rw [he]; decide)]
                  have HE := hideP he
                  have HR := hideP hr
                  have HD := hideP (decide_eq_true h0)
                  clear he hr hjn h0
                  go_wp2_with fail
                  refine (containsInt_any J 0 _ _ hI3).mono ?_
                  rw [HD.out]
                  rintro e w4 ⟨rfl, hw4⟩
                  have hw4 := hw4.symm
                  subst hw4
                  go_wp2
                  go_ret2
                  rw [HE.out, HR.out]
                  exact ⟨_, rfl, World.ownsRow_nil _ _ _ _, hB3⟩
                · have hjs : ∃ l, joinL a b = some l := by
                    cases e : joinL a b with
                    | none => exact absurd (HZ.out.2 e) h0
                    | some l => exact ⟨l, rfl⟩
                  obtain ⟨l, hjs⟩ := hjs
                  have he : joinErr a b = 0 := by rw [HRE.out, hjs]; rfl
                  have hr : joinR a b = J := by rw [joinR, if_pos he, hjs, HJT.out l hjs]; rfl
                  have HE := hideP he
                  have HR := hideP hr
                  have HD := hideP (decide_eq_false h0)
                  clear he hr hjs h0
                  go_wp2_with fail
                  refine (containsInt_any J 0 _ _ hI3).mono ?_
                  rw [HD.out]
                  rintro e w4 ⟨rfl, hw4⟩
                  have hw4 := hw4.symm
                  subst hw4
                  go_wp2
                  go_ret2
                  rw [HE.out, HR.out]
                  refine ⟨_, rfl, ?_, hB3⟩
                  refine ⟨by simp, .inr ⟨w.heap.size, a.length, _, ?_, Nat.le_refl _, Q3.out, by omega, by unfold maxLen; omega, by simp [hjl], by rw [Nat.mul_one]; exact List.take_of_length_le (by simp)⟩⟩
                  rw [hjl]
                  rfl
          · have he : joinErr a b = 4 := by rw [hrest, joinL_lens hl]; rfl
            have hr : joinR a b = [] := by rw [joinR, if_neg (by rw [he]; decide)]
            have HE := hideP he
            have HR := hideP hr
            have hl' : ((a.length : Int) != (b.length : Int)) = true := by simp; omega
            clear he hr ka kb hrest hl
            go_wp2
            go_ret2
            rw [HE.out, HR.out]
            exact ⟨_, rfl, World.ownsRow_nil _ _ _ _, Below.refl _ _⟩
end Go.Proofs.YtcadpoknolefpaaGreat


/- verify's stack: pop, leave, result. -/
namespace Go.Proofs.YtcadpoknolefpaaGreat
open Go.RowKit
set_option linter.unusedSimpArgs false
set_option linter.unusedVariables false
def StAt (W : World) (b B : Nat) (l : List Int) (wr : Bool) : Prop := ∃ v, W.heap[b]? = some (.cells #[v, .bool wr] 207 (0, 0)) ∧ W.ownsRow B 3 1 v l.length (l.map (Value.int .i64))
theorem StAt.lt {W : World} {b B : Nat} {l : List Int} {wr : Bool} (h : StAt W b B l wr) : b < W.heap.size := by
  obtain ⟨v, h, _⟩ := h
  exact heap_lt h
theorem StAt.kept {W W' : World} {b B : Nat} {l : List Int} {wr : Bool} (h : StAt W b B l wr) (hb : Below W.heap.size W W') : StAt W' b B l wr := by
  obtain ⟨v, h1, h2⟩ := h
  exact ⟨v, (hb.block _ (heap_lt h1)).trans h1, row_same h2 fun j hj => hb.block j (h2.lt j hj).2⟩
theorem stack_not_row {W : World} {b B : Nat} {v v' : Value} {wr : Bool} {n : Nat} {xs : List Value} (h : W.heap[b]? = some (.cells #[v, .bool wr] 207 (0, 0))) (hr : W.ownsRow B 3 1 v' n xs) : v'.ownBlock ≠ some b := (row_not hr h (by decide)).symm
theorem StAt.set {W : World} {b B : Nat} {v v' : Value} {wr wr' : Bool} {l : List Int} (h : W.heap[b]? = some (.cells #[v, .bool wr] 207 (0, 0))) {W' : World} (hW : W'.heap[b]? = some (.cells #[v', .bool wr'] 207 (0, 0))) (hr : W.ownsRow B 3 1 v' l.length (l.map (Value.int .i64))) (hg : W.grownBy W' (some b)) : StAt W' b B l wr' :=
  ⟨v', hW, hr.kept hg (.inr (stack_not_row h hr))⟩
def topP (l : List Int) : Int := l.getLast?.getD 0
set_option maxRecDepth 100000 in
set_option maxHeartbeats 2000000 in
theorem pop_any (l : List Int) (wr : Bool) (b B : Nat) (w : World) (h : StAt w b B l wr) (hl : l.length ≤ 100) : Calls Tryz.prog 229 #[.pointer (some ⟨b, 0, none⟩)] w fun e w' => e = .returned (.int .i64 (topP l)) ∧ StAt w' b B l.dropLast (wr || l.isEmpty) ∧ w.grownBy w' (some b) := by
  obtain ⟨v, h1, h2⟩ := h
  have c0 := cell_at' h1 0
  have c1 := cell_at' h1 1
  have z0 := Lib.frozen_of_heap h1 0
  have z1 := Lib.frozen_of_heap h1 1
  simp at c0 c1
  have H1 := hideP h1
  have H2 := hideP h2
  rcases List.eq_nil_or_concat l with rfl | ⟨r, x, hlx⟩
  · obtain ⟨p, c, rfl⟩ := row_shp h2
    clear h1 h2
    simp only [List.length_nil] at c0
    go_enter Tryz.func229, Tryz.ntmps229
    go_wp2
    go_ret
    refine ⟨rfl, ?_, set_grown _ _ _⟩
    have := heap_setCell_same w b 1 _ _ (.bool true) H1.out
    exact StAt.set (l := []) H1.out (by simpa using this) H2.out (set_grown _ _ _)
  · rw [List.concat_eq_append] at hlx
    subst hlx
    have hlen : (r ++ [x]).length = r.length + 1 := by simp
    rw [hlen] at h2
    rcases h2.2 with ⟨_, h0⟩ | ⟨g, cap, cur, rfl, hBg, hg, hn, hm, hs, ht⟩
    · omega
    · have hcell : w.cell? ⟨g, r.length, none⟩ = some (.int .i64 x) := by
        rw [cell_at' hg]
        have : (cur.toList.take ((r.length + 1) * 1))[r.length]? = some (.int .i64 x) := by rw [ht]; simp
        rw [List.getElem?_take_of_lt (by omega)] at this
        simpa using this
      have hrow' : w.ownsRow B 3 1 (.slice (some ⟨g, 0, none⟩) r.length cap) r.length (r.map (Value.int .i64)) := by
        refine ⟨by simp, .inr ⟨g, cap, cur, rfl, hBg, hg, by omega, hm, hs, ?_⟩⟩
        have h3 : (cur.toList.take ((r.length + 1) * 1)).take (r.length * 1) = r.map (Value.int .i64) := by
          rw [ht, List.map_append, List.take_append_of_le_length (by simp)]
          exact List.take_of_length_le (by simp)
        rw [List.take_take, Nat.min_eq_left (by omega)] at h3
        exact h3
      have HR := hideP hrow'
      have hwm : (r.length : Int) + 1 - 1 = (r.length : Int) := by omega
      have hnn : ¬ (r.length : Int) < 0 := by omega
      have hcap : r.length ≤ cap := by omega
      have e1 : topP (r ++ [x]) = x := by simp [topP]
      have e2 : (r ++ [x]).dropLast = r := by simp
      have e3 : (wr || (r ++ [x]).isEmpty) = wr := by simp
      rw [e1, e2, e3]
      have hrl : r.length ≤ 100 := by omega
      unfold maxLen at hm
      clear h1 h2 hlen hrow' hg hs ht e1 e2 e3 hl
      go_enter Tryz.func229, Tryz.ntmps229
      go_wp2
      go_ret
      refine ⟨rfl, ?_, set_grown _ _ _⟩
      have := heap_setCell_same w b 0 _ _ (.slice (some ⟨g, 0, none⟩) r.length cap) H1.out
      exact StAt.set H1.out (by simpa using this) HR.out (set_grown _ _ _)
end Go.Proofs.YtcadpoknolefpaaGreat


/- verify's stack: leave, result; slices.Clone at numbers. -/
namespace Go.Proofs.YtcadpoknolefpaaGreat
open Go.RowKit
set_option linter.unusedSimpArgs false
set_option linter.unusedVariables false
theorem wpList_append_ints {w : World} {ops : Array Oper} {rest : List Oper} {o : Oper} {a : Act} {Q : Exit → Act → World → Prop} (hgd : o.guard = none) (s x : Operand)
    (ho : o.op = .call { callee := .builtin .append, args := #[s, x], argTypes := #[27, 27] }) (base : Nat)
    (v : Value) (n : Nat) (xs : List Value) (hs : a.eval s = v) (hown : w.ownsRow base 3 1 v n xs)
    (u : Value) (l : List Int) (hx : a.eval x = u) (hu : IntsAt w u l) (hnil : NilOk u)
    (h63 : n + l.length ≤ maxLen) (hbytes : (n + l.length) * 8 ≤ 140737488355328) (hbase : base ≤ w.heap.size)
    (h : ∀ v' w', w'.ownsRow base 3 1 v' (n + l.length) (xs ++ l.map (Value.int .i64)) → w.grownBy w' v.ownBlock → wpList Tryz.prog ops Q rest (a.put o.dst v') w') : wpList Tryz.prog ops Q (o :: rest) a w := by
  obtain ⟨i0, hi, hz0, hz1, hz2⟩ := info_parts infoInt
  have hu' := hu
  obtain ⟨p, cap, rfl, hm, hc⟩ := hu'
  cases p with
  | none =>
    have hl : l = [] := by
      cases l with
      | nil => rfl
      | cons o r => obtain ⟨b, off, hb, _⟩ := hc 0 o rfl; cases hb
    subst hl
    have hcap : cap = 0 := hnil _ _ rfl
    subst hcap
    exact wpList_append_own_none hgd s x 27 ho base 3 i0 1 Tryz.underlying27 hi v n xs hs hown hx (h v w (by simpa using hown) (World.grownBy.refl _ _))
  | some ad =>
    refine wpList_append_own w hgd s x 27 ho base 3 i0 (.int .i64 0) 1 8 Tryz.underlying27 hi hz0 hz1 hz2 rfl (by decide) v n xs hs hown ad l.length cap (l.map (Value.int .i64)) hx (by simp)
      (fun j u hj => ?_) (fun u hu => by obtain ⟨z, _, rfl⟩ := List.mem_map.1 hu; rfl) h63 hbytes hbase (fun v' w' h1 h2 _ => h v' w' h1 h2)
    rw [List.getElem?_map] at hj
    obtain ⟨z, hz, rfl⟩ := Option.map_eq_some_iff.1 hj
    obtain ⟨b, off, hb, _, hcell⟩ := hc j z hz
    cases hb
    rw [add_at]
    exact hcell
theorem nilOk_row {W : World} {B : Nat} {v : Value} {n : Nat} {xs : List Value} {e : TypeId} {k : Nat} (h : W.ownsRow B e k v n xs) : NilOk v := by
  intro m c hv
  rcases h.2 with ⟨rfl, _⟩ | ⟨g, cap, cur, rfl, _⟩
  · cases hv; rfl
  · cases hv
theorem nilOk_some (a : Addr) (n c : Nat) : NilOk (.slice (some a) n c) := fun m d h => by cases h
theorem nilOk_nil : NilOk (.slice none 0 0) := fun m d h => by cases h; rfl
set_option maxRecDepth 100000 in
set_option maxHeartbeats 2000000 in
theorem leave_any (l ts : List Int) (wr : Bool) (b B : Nat) (u : Value) (w : World) (h : StAt w b B l wr) (hu : IntsAt w u ts) (hn : NilOk u) (hB : B ≤ w.heap.size) (hBb : B ≤ b) (hl : l.length ≤ 100) (ht : ts.length ≤ 100) : Calls Tryz.prog 198 #[.pointer (some ⟨b, 0, none⟩), u] w fun e w' => e = .returned (.tuple #[]) ∧ StAt w' b B (l ++ ts) (wr || decide (8 < (l ++ ts).length)) ∧ Below B w w' := by
  obtain ⟨v, h1, h2⟩ := h
  have c0 := cell_at' h1 0
  have c1 := cell_at' h1 1
  have z0 := Lib.frozen_of_heap h1 0
  have z1 := Lib.frozen_of_heap h1 1
  simp at c0 c1
  have hlt := heap_lt h1
  have hvb := stack_not_row h1 h2
  obtain ⟨p, c, hv⟩ := row_shp h2
  obtain ⟨p', c', hu1, _, _⟩ := id hu
  have H1 := hideP h1
  have H2 := hideP h2
  have HU := hideP hu
  have HN := hideP hn
  subst hv hu1
  clear h1 h2 hu hn
  cases wr
  · go_enter Tryz.func198, Tryz.ntmps198
    go_wp2_with (at_builtin; refine wpList_append_ints rfl _ _ rfl B _ _ _ rfl H2.out _ ts rfl HU.out HN.out (by unfold maxLen; omega) (by omega) hB ?_; intro v2 w2 hown2 hg2; have q2 := (hg2.block _ hlt (fun e => hvb e.symm)).trans H1.out; have d0 := cell_at' q2 0; have d1 := cell_at' q2 1; have y0 := Lib.frozen_of_heap q2 0; have y1 := Lib.frozen_of_heap q2 1; have Q2 := hideP q2; have HO2 := hideP hown2; obtain ⟨p2, c2, hv2⟩ := row_shp hown2; subst hv2; clear q2 hown2; simp at d0 d1)
    go_end0
    have s1 := heap_setCell_same w2 b 0 _ _ (.slice p2 (l.length + ts.length) c2) Q2.out
    have s2 := heap_setCell_same _ b 1 _ _ (.bool (decide ((8 : Int) < (l.length : Int) + (ts.length : Int)))) s1
    have hgA := (set_grown w2 ⟨b, 0, none⟩ (.slice p2 (l.length + ts.length) c2)).trans (set_grown _ ⟨b, 1, none⟩ (.bool (decide ((8 : Int) < (l.length : Int) + (ts.length : Int)))))
    have hd : decide ((8 : Int) < (l.length : Int) + (ts.length : Int)) = decide (8 < (l ++ ts).length) := by
      rw [Bool.eq_iff_iff, decide_eq_true_iff, decide_eq_true_iff, List.length_append]; omega
    refine ⟨rfl, ?_, ?_⟩
    · rw [Bool.false_or, ← hd]
      refine StAt.set (l := l ++ ts) Q2.out (by simpa using s2) ?_ hgA
      have := HO2.out
      rw [List.length_append, List.map_append]
      exact this
    · have hb0 : Below B w w2 := (Below.refl B w).grown hg2 hB (fun k hk => (H2.out.lt k hk).1)
      exact hb0.grown hgA (Nat.le_trans hB hg2.size) (fun k hk => by cases hk; exact hBb)
  · go_enter Tryz.func198, Tryz.ntmps198
    go_wp2_with (at_builtin; refine wpList_append_ints rfl _ _ rfl B _ _ _ rfl H2.out _ ts rfl HU.out HN.out (by unfold maxLen; omega) (by omega) hB ?_; intro v2 w2 hown2 hg2; have q2 := (hg2.block _ hlt (fun e => hvb e.symm)).trans H1.out; have d0 := cell_at' q2 0; have d1 := cell_at' q2 1; have y0 := Lib.frozen_of_heap q2 0; have y1 := Lib.frozen_of_heap q2 1; have Q2 := hideP q2; have HO2 := hideP hown2; obtain ⟨p2, c2, hv2⟩ := row_shp hown2; subst hv2; clear q2 hown2; simp at d0 d1)
    go_end0
    have s1 := heap_setCell_same w2 b 0 _ _ (.slice p2 (l.length + ts.length) c2) Q2.out
    have s2 := heap_setCell_same _ b 1 _ _ (.bool true) s1
    have hgA := (set_grown w2 ⟨b, 0, none⟩ (.slice p2 (l.length + ts.length) c2)).trans (set_grown _ ⟨b, 1, none⟩ (.bool true))
    refine ⟨rfl, ?_, ?_⟩
    · rw [Bool.true_or]
      refine StAt.set (l := l ++ ts) Q2.out (by simpa using s2) ?_ hgA
      have := HO2.out
      rw [List.length_append, List.map_append]
      exact this
    · have hb0 : Below B w w2 := (Below.refl B w).grown hg2 hB (fun k hk => (H2.out.lt k hk).1)
      exact hb0.grown hgA (Nat.le_trans hB hg2.size) (fun k hk => by cases hk; exact hBb)
set_option maxRecDepth 100000 in
set_option maxHeartbeats 1000000 in
theorem cloneInt_any (l : List Int) (v : Value) (w : World) (h : IntsAt w v l) (hn : NilOk v) (hl : l.length ≤ 100) : Calls Tryz.prog 86 #[v] w fun e w' => ∃ u, e = .returned u ∧ w'.ownsRow w.heap.size 3 1 u l.length (l.map (Value.int .i64)) ∧ Below w.heap.size w w' := by
  have h' := h
  obtain ⟨p, c, rfl, hm, hc⟩ := h'
  cases p with
  | none =>
    have hl0 : l = [] := by
      cases l with
      | nil => rfl
      | cons o r => obtain ⟨b, off, hb, _⟩ := hc 0 o rfl; cases hb
    subst hl0
    clear hc h
    have heq := fun W => Lib.run_eql_slice_nil (P := Tryz.prog) W 27 3 none 0 c 0 0 Tryz.underlying27
    go_enter Tryz.func86, Tryz.ntmps86
    go_wp2
    go_ret
    exact ⟨_, rfl, World.ownsRow_nil _ _ _ _, Below.refl _ _⟩
  | some ad =>
    have hB := (Below.refl w.heap.size w).alloc (Nat.le_refl _) (.cells #[] 3)
    have hrow := World.ownsRow_made (base := w.heap.size) (e := 3) (size := 1) w #[] 0 (Nat.le_refl _) (by unfold maxLen; omega) rfl
    have HU := hideP (h.below hB)
    have heq := fun W => Lib.run_eql_slice_nil (P := Tryz.prog) W 27 3 (some ad) l.length c 0 0 Tryz.underlying27
    clear hc h
    go_enter Tryz.func86, Tryz.ntmps86
    go_wp2_with (at_builtin; refine wpList_append_ints rfl _ _ rfl w.heap.size _ _ _ rfl hrow _ l rfl HU.out (nilOk_some _ _ _) (by unfold maxLen; omega) (by omega) (by simp) ?_; intro v2 w2 hown2 hg2; have HO2 := hideP hown2; clear hown2)
    go_ret
    refine ⟨_, rfl, ?_, hB.grown hg2 (by simp) (fun k hk => (hrow.lt k hk).1)⟩
    have := HO2.out
    simpa using this
set_option maxHeartbeats 1000000 in
theorem result_raw (P r : Int) (p1 p3 : Option Addr) (n1 q1 n3 q3 : Nat) (w : World) : Calls Tryz.prog 201 #[.agg #[.int .i64 P, .slice p1 n1 q1, .int .i64 r, .slice p3 n3 q3]] w fun e w' => ∃ u, e = .returned u ∧ w'.ownsRow w.heap.size 3 1 u (if r = 0 then [] else [r]).length ((if r = 0 then [] else [r]).map (Value.int .i64)) ∧ Below w.heap.size w w' := by
  have hw : Below w.heap.size w (w.alloc (.cells #[.int .i64 P, .slice p1 n1 q1, .int .i64 r, .slice p3 n3 q3] 78)) := (Below.refl _ w).alloc (Nat.le_refl _) _
  by_cases h0 : r = 0
  · subst h0
    go_enter Tryz.func201, Tryz.ntmps201
    go_wp2
    go_ret
    exact ⟨_, rfl, World.ownsRow_nil _ _ _ _, hw⟩
  · have h0' : (r == 0) = false := by simp [h0]
    have e1 : (if r = 0 then [] else [r]) = [r] := if_neg h0
    rw [e1]
    clear h0 e1
    go_enter Tryz.func201, Tryz.ntmps201
    go_wp2
    go_ret
    refine ⟨_, rfl, row_low (one_row (new_two w _ _)) (by omega), hw.alloc (by simp) _⟩
end Go.Proofs.YtcadpoknolefpaaGreat


/- slices.Backward at numbers: the iterator's contract. -/
namespace Go.Proofs.YtcadpoknolefpaaGreat
open Go.RowKit Go.Shelf
set_option linter.unusedSimpArgs false
set_option linter.unusedVariables false
attribute [local go_sem] Oper.semAt_some
def itsB (ts : List Int) : Nat → List (Nat × Int)
  | 0 => []
  | k + 1 => (k, ts.getD k 0) :: itsB ts k
abbrev encsB (x : Nat × Int) : Array Value := #[.int .i64 x.1, .int .i64 x.2]
def KpB (bs : Nat) (v : Value) (ts : List Int) (W W' : World) : Prop := (Boxed W bs 27 v ∧ IntsAt W v ts) → (Boxed W' bs 27 v ∧ IntsAt W' v ts)
set_option maxRecDepth 100000 in
set_option maxHeartbeats 2000000 in
theorem back1_in (n : Nat) (hn : 1 ≤ n) (l bs : Nat) (ts : List Int) (p : Option Addr) (c : Nat) (hts : ts.length ≤ 100) (J Jx : List (Nat × Int) → World → Prop) (W : World)
    (hY : ∀ pre x W1, J pre W1 → pre.length < (itsB ts ts.length).length → YieldAt Fence.wide (n - 1) Tryz.prog l (encsB x) W1 fun e W' =>
      (e = .returned (.bool true) ∧ J (pre ++ [x]) W' ∧ KpB bs (.slice p ts.length c) ts W1 W') ∨ (e = .returned (.bool false) ∧ Jx (pre ++ [x]) W'))
    (hB : Boxed W bs 27 (.slice p ts.length c)) (hI : IntsAt W (.slice p ts.length c) ts) (h0 : J [] W) :
    CallsIn Fence.wide n Tryz.prog 237 #[.func (.yield l) #[] #[], .pointer (some ⟨bs, 0, none⟩)] W fun e W' => (∃ v, e = .returned v) ∧
      ((∃ ys, ys = itsB ts ts.length ∧ J ys W') ∨ (∃ pre, pre <+: itsB ts ts.length ∧ Jx pre W')) := by
  refine callsIn_of_wp Tryz.func237 rfl trivial ?_ rfl
  simp only [Tryz.ntmps237, List.size_toArray, List.length_cons, List.length_nil, Nat.reduceAdd, Nat.reduceSub, Array.replicate_succ, Array.replicate_zero, List.push_toArray, List.append_toArray, List.nil_append, List.cons_append]
  have hc0 := hB.cell
  have hwr : wrap64 ((ts.length : Int) - 1) = (ts.length : Int) - 1 := by unfold wrap64; omega
  have HB := hideP hB
  have HI := hideP hI
  have HY := hideP hY
  clear hB hI hY
  gi_wp2
  gi_loopw [3] (fun a wr => ∃ (k : Nat) (pre : List (Nat × Int)), a = .int .i64 ((k : Int) - 1) ∧ k ≤ ts.length ∧ itsB ts ts.length = pre ++ itsB ts k ∧ J pre wr ∧ Boxed wr bs 27 (.slice p ts.length c) ∧ IntsAt wr (.slice p ts.length c) ts) (fun a _ => (intOf a + 1).toNat)
  case atStart => exact ⟨ts.length, [], rfl, Nat.le_refl _, rfl, h0, HB.out, HI.out⟩
  case round =>
    obtain ⟨k, pre, rfl, hk, hit, hJ, hBx, hIx⟩ := hrel
    have HT := hideP hit
    clear hit
    have hcx := hBx.cell
    cases k with
    | zero =>
      rw [show ((0 : Nat) : Int) - 1 = -1 by omega]
      gi_wp2
      go_end0
      refine ⟨⟨_, rfl⟩, .inl ?_⟩
      exact ⟨pre, by rw [HT.out]; simp [itsB], hJ⟩
    | succ m =>
      rw [show ((m + 1 : Nat) : Int) - 1 = (m : Int) by omega]
      obtain ⟨z, hz⟩ := at_of_lt (show m < ts.length by omega)
      have hIx' := hIx
      obtain ⟨p', c', he, _, hcc⟩ := hIx'
      obtain ⟨b, off, hp, hbl, g⟩ := hcc m z hz
      cases he
      subst hp
      have hzd : ts.getD m 0 = z := by rw [List.getD_eq_getElem?_getD, hz]; rfl
      obtain ⟨fn, tmps, assign, body, hy, hR⟩ := HY.out pre (m, z) _ hJ (by rw [HT.out]; simp [itsB])
      dsimp only [encsB] at hy
      have hmt : (m : Int) < (ts.length : Int) := by omega
      have HZD := hideP hzd
      have HIX := hideP hIx
      have HBX := hideP hBx
      clear hcc hz hzd hIx hBx hJ
      gi_wp2
      refine hR.mono ?_
      rintro e W3 (⟨rfl, hJ3, hk3⟩ | ⟨rfl, hJx3⟩)
      · gi_wp2
        go_roundw
        case rel =>
          obtain ⟨b3, i3⟩ := hk3 ⟨HBX.out, HIX.out⟩
          refine ⟨m, pre ++ [(m, z)], by go_num, by omega, ?_, hJ3, b3, i3⟩
          rw [HT.out, itsB, HZD.out]; simp
        case measure => simp [intOf] <;> omega
      · gi_wp2
        refine bodyPost_ret (results_none rfl _ _ _) rfl ?_
        refine ⟨⟨_, rfl⟩, .inr ⟨_, ?_, hJx3⟩⟩
        rw [HT.out, itsB, HZD.out]
        exact ⟨itsB ts m, by simp⟩
set_option maxHeartbeats 1000000 in
theorem backward_any (p : Option Addr) (n c : Nat) (w : World) :
    Calls Tryz.prog 230 #[.slice p n c] w fun e w' => e = .returned (.func (.func 237) #[] #[.pointer (some ⟨w.heap.size, 0, none⟩)]) ∧ w' = w.alloc (.cells #[.slice p n c] 27) := by
  go_enter Tryz.func230, Tryz.ntmps230
  go_wp2
  go_ret
  exact ⟨rfl, rfl⟩
theorem backward_stops (n : Nat) (hn : 1 ≤ n) (bs : Nat) (ts : List Int) (p : Option Addr) (c : Nat) (hts : ts.length ≤ 100) (w : World) (hB : Boxed w bs 27 (.slice p ts.length c)) (hI : IntsAt w (.slice p ts.length c) ts) :
    SeqStopsK Fence.wide n Tryz.prog 237 #[.pointer (some ⟨bs, 0, none⟩)] encsB (KpB bs (.slice p ts.length c) ts) (fun ys => ys = itsB ts ts.length) (fun pre => pre <+: itsB ts ts.length) (itsB ts ts.length).length w :=
  fun l J Jx W hW hA _ hY h0 => back1_in n hn l bs ts p c hts J Jx W hY ((hW.block bs hB.lt).trans hB) (hI.below hW) h0
theorem kpB_t {bs : Nat} {v : Value} {ts : List Int} {A B C : World} (h : KpB bs v ts A B) (k : KpB bs v ts B C) : KpB bs v ts A C := fun x => k (h x)
theorem kpB_b {bs : Nat} {v : Value} {ts : List Int} {w : World} (W : World) (l : Nat) (o o' : Obj) (_ : w.heap.size ≤ l) (h : W.heap[l]? = some o) (ho : o.isCells = false) (_ : o.isWalk = false) : KpB bs v ts W (W.putObj l o') := fun ⟨x, y⟩ => by
  refine ⟨x.kept (grownBy_putObj' W l o') (fun e => by cases e; rw [show W.heap[bs]? = _ from x] at h; cases h; cases ho), ?_⟩
  obtain ⟨p, c, rfl, hm, hc⟩ := y
  refine ⟨p, c, rfl, hm, fun k z hk => ?_⟩
  obtain ⟨b, off, rfl, hb, g⟩ := hc k z hk
  have hg := grownBy_putObj' W l o'
  have hne : b ≠ l := fun e => by
    subst e
    obtain ⟨cs, t, fz, hcs, _⟩ := Sort.cells_of_cell? g
    rw [hcs] at h; cases h; cases ho
  exact ⟨b, off, rfl, Nat.lt_of_lt_of_le hb hg.size, hg.cell g (by simpa using hne)⟩
end Go.Proofs.YtcadpoknolefpaaGreat


