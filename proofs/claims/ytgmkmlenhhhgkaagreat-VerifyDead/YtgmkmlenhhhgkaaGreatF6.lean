/- My texts Pv Ja Jb Jc Jd Fg: what of them is needed, joined. -/
import Derived.Deep.RegionLaw
import Derived.BigQuiet
import Derived.Lib.SliceRun
import Derived.Test.YtgmkmlenhhhgkaaGreatF2
import Derived.Test.YtgmkmlenhhhgkaaGreatF4
import Derived.Test.YtgmkmlenhhhgkaaGreatF5
set_option maxRecDepth 100000
set_option maxHeartbeats 8000000
/- Plain functions on code that fits (chapter 4), ahead of stage 2: what an op leaves of a stack, and the least entries. -/
namespace Go.Proofs.YtgmkmlenhhhgkaaGreat
open Go.RowKit
set_option linter.unusedSimpArgs false
set_option linter.unusedVariables false
def leS : List Int → List Int → Bool
  | [], [] => true
  | a :: r, b :: q => xalZ a b && leS r q
  | _, _ => false
theorem xipZ (a : Int) : xalZ a a = true := by simp [xalZ]
theorem xhnZ {a b c : Int} (h : xalZ a b = true) (k : xalZ b c = true) : xalZ a c = true := by
  simp [xalZ] at h k ⊢
  omega
theorem xioZ {a b : Int} (h : xalZ a b = true) (k : xalZ b a = true) : a = b := by
  simp [xalZ] at h k
  omega
theorem xb2Z : ∀ s, leS s s = true
  | [] => rfl
  | a :: r => by simp [leS, xipZ, xb2Z r]
theorem xdiZ : ∀ {s t : List Int}, leS s t = true → s.length = t.length
  | [], [], _ => rfl
  | [], _ :: _, h => by simp [leS] at h
  | _ :: _, [], h => by simp [leS] at h
  | a :: r, b :: q, h => by simp [leS] at h; simp [xdiZ h.2]
theorem xb0Z : ∀ {s t u : List Int}, leS s t = true → leS t u = true → leS s u = true
  | [], [], [], _, _ => rfl
  | [], _ :: _, _, h, _ => by simp [leS] at h
  | _ :: _, [], _, h, _ => by simp [leS] at h
  | [], [], _ :: _, _, h => by simp [leS] at h
  | _ :: _, _ :: _, [], _, h => by simp [leS] at h
  | a :: r, b :: q, c :: v, h, k => by
    simp [leS] at h k ⊢
    exact ⟨xhnZ h.1 k.1, xb0Z h.2 k.2⟩
theorem leS_anti : ∀ {s t : List Int}, leS s t = true → leS t s = true → s = t
  | [], [], _, _ => rfl
  | [], _ :: _, h, _ => by simp [leS] at h
  | _ :: _, [], h, _ => by simp [leS] at h
  | a :: r, b :: q, h, k => by
    simp [leS] at h k
    rw [xioZ h.1 k.1, leS_anti h.2 k.2]
theorem xdhZ : ∀ {s t u v : List Int}, leS s t = true → leS u v = true → leS (s ++ u) (t ++ v) = true
  | [], [], _, _, _, k => k
  | [], _ :: _, _, _, h, _ => by simp [leS] at h
  | _ :: _, [], _, _, h, _ => by simp [leS] at h
  | a :: r, b :: q, u, v, h, k => by
    simp [leS] at h ⊢
    exact ⟨h.1, xdhZ h.2 k⟩
theorem leS_drop : ∀ (n : Nat) {s t : List Int}, leS s t = true → leS (s.drop n) (t.drop n) = true
  | 0, _, _, h => h
  | n + 1, [], [], _ => rfl
  | n + 1, [], _ :: _, h => by simp [leS] at h
  | n + 1, _ :: _, [], h => by simp [leS] at h
  | n + 1, a :: r, b :: q, h => by simp [leS] at h; exact leS_drop n h.2
theorem leS_take : ∀ (n : Nat) {s t : List Int}, leS s t = true → leS (s.take n) (t.take n) = true
  | 0, _, _, _ => rfl
  | n + 1, [], [], _ => rfl
  | n + 1, [], _ :: _, h => by simp [leS] at h
  | n + 1, _ :: _, [], h => by simp [leS] at h
  | n + 1, a :: r, b :: q, h => by simp [leS] at h ⊢; exact ⟨h.1, leS_take n h.2⟩
theorem xi8Z {s t : List Int} (h : leS s t = true) : leS s.reverse t.reverse = true := by
  induction s generalizing t with
  | nil => cases t with
    | nil => rfl
    | cons _ _ => simp [leS] at h
  | cons a r ih => cases t with
    | nil => simp [leS] at h
    | cons b q =>
      simp [leS] at h
      rw [List.reverse_cons, List.reverse_cons]
      exact xdhZ (ih h.2) (by simp [leS, h.1])
theorem joinT_le {a b c : Int} (h : xalZ a c = true) (k : xalZ b c = true) : ∃ t, joinT a b = some t ∧ xalZ t c = true := by
  by_cases h1 : a = b
  · subst h1; exact ⟨a, joinT_same a, h⟩
  · simp [xalZ] at h k
    refine ⟨2, ?_, by simp [xalZ]; omega⟩
    unfold joinT
    rw [if_neg h1, if_pos (by omega)]
theorem xeeZ : ∀ {a b c : List Int}, leS a c = true → leS b c = true → ∃ l, joinL a b = some l ∧ leS l c = true
  | [], [], [], _, _ => ⟨[], rfl, rfl⟩
  | [], [], _ :: _, h, _ => by simp [leS] at h
  | [], _ :: _, [], _, k => by simp [leS] at k
  | [], _ :: _, _ :: _, h, _ => by simp [leS] at h
  | _ :: _, _, [], h, _ => by simp [leS] at h
  | _ :: _, [], _ :: _, _, k => by simp [leS] at k
  | a :: r, b :: q, c :: v, h, k => by
    simp [leS] at h k
    obtain ⟨t, h1, h2⟩ := joinT_le h.1 k.1
    obtain ⟨l, h3, h4⟩ := xeeZ h.2 k.2
    exact ⟨t :: l, by simp [joinL, h1, h3], by simp [leS, h2, h4]⟩
theorem xe5Z : ∀ {a b l : List Int}, joinL a b = some l → leS a l = true ∧ leS b l = true
  | [], [], l, h => by cases h; exact ⟨rfl, rfl⟩
  | [], _ :: _, l, h => by cases h
  | _ :: _, [], l, h => by cases h
  | a :: r, b :: q, l, h => by
    simp only [joinL] at h
    obtain ⟨t, ht, h2⟩ := Option.bind_eq_some_iff.1 h
    obtain ⟨l', hl', rfl⟩ := Option.map_eq_some_iff.1 h2
    obtain ⟨h3, h4⟩ := xe5Z hl'
    obtain ⟨h5, h6⟩ := xh8Z ht
    simp [leS, h3, h4, h5, h6]
def xa6Z (c : Int) : List Int × List Int :=
  if c = 1 ∨ c = 21 then ([], [1]) else if c = 5 ∨ c = 6 ∨ c = 7 then ([1, 1], [1]) else if c = 8 then ([], [0]) else if c = 9 then ([0], []) else if c = 11 ∨ c = 20 then ([1], []) else if c = 14 then ([1], [2]) else if c = 15 then ([2, 1], [1]) else if c = 16 then ([2, 1, 1], []) else if c = 17 ∨ c = 19 then ([2], [1]) else if c = 18 then ([], [3]) else ([], [])
def xcjZ (t : Int) (l : List Int) : List Int := l.map fun x => if x = 0 then t else x
def xajZ (p : List Fn) (f : Fn) (o : Int × Int) (s : List Int) : Option (List Int × List Int) :=
  if o.1 = 2 then (if s.length < 1 then none else some (s.drop (s.length - 1), []))
  else if o.1 = 3 then (if s.length < 1 then none else some (s.drop (s.length - 1), s.drop (s.length - 1) ++ s.drop (s.length - 1)))
  else if o.1 = 4 then (if s.length < 2 then none else some (s.drop (s.length - 2), (s.drop (s.length - 2)).reverse))
  else if o.1 = 12 then ((p[o.2.toNat]?).map fun g => (g.2.1.take g.1.toNat, if 0 < g.2.2.1 then [g.2.2.1] else []))
  else if o.1 = 13 then (if s.length = (if 0 < f.2.2.1 then [f.2.2.1] else []).length then some (if 0 < f.2.2.1 then [f.2.2.1] else [], []) else none)
  else some (xcjZ (f.2.1.getD o.2.toNat 0) (xa6Z o.1).1, xcjZ (f.2.1.getD o.2.toNat 0) (xa6Z o.1).2)
def tryOp (p : List Fn) (f : Fn) (o : Int × Int) (s : List Int) : Option (List Int) :=
  (xajZ p f o s).bind fun tl => if tl.1.length ≤ s.length ∧ leS (s.drop (s.length - tl.1.length)) tl.1 = true ∧ (s.take (s.length - tl.1.length) ++ tl.2).length ≤ 8 then some (s.take (s.length - tl.1.length) ++ tl.2) else none
theorem xf0Z {p : List Fn} {f : Fn} {o : Int × Int} {s s' t l : List Int} (hs : leS s s' = true) (h : xajZ p f o s' = some (t, l)) :
    ∃ t1 l1, xajZ p f o s = some (t1, l1) ∧ t1.length = t.length ∧ leS l1 l = true ∧ (leS (s'.drop (s'.length - t.length)) t = true → leS (s.drop (s.length - t.length)) t1 = true) := by
  have hl := xdiZ hs
  have hd := fun n => leS_drop n hs
  unfold xajZ at h ⊢
  by_cases c2 : o.1 = 2
  · rw [if_pos c2] at h ⊢
    rw [hl]
    by_cases hn : s'.length < 1
    · rw [if_pos hn] at h; cases h
    · rw [if_neg hn] at h ⊢
      cases h
      refine ⟨_, _, rfl, by simp [hl], rfl, fun _ => ?_⟩
      rw [List.length_drop, show s'.length - (s'.length - (s'.length - 1)) = s'.length - 1 by omega]
      exact xb2Z _
  rw [if_neg c2] at h ⊢
  by_cases c3 : o.1 = 3
  · rw [if_pos c3] at h ⊢
    rw [hl]
    by_cases hn : s'.length < 1
    · rw [if_pos hn] at h; cases h
    · rw [if_neg hn] at h ⊢
      cases h
      refine ⟨_, _, rfl, by simp [hl], xdhZ (hd _) (hd _), fun _ => ?_⟩
      rw [List.length_drop, show s'.length - (s'.length - (s'.length - 1)) = s'.length - 1 by omega]
      exact xb2Z _
  rw [if_neg c3] at h ⊢
  by_cases c4 : o.1 = 4
  · rw [if_pos c4] at h ⊢
    rw [hl]
    by_cases hn : s'.length < 2
    · rw [if_pos hn] at h; cases h
    · rw [if_neg hn] at h ⊢
      cases h
      refine ⟨_, _, rfl, by simp [hl], xi8Z (hd _), fun _ => ?_⟩
      rw [List.length_drop, show s'.length - (s'.length - (s'.length - 2)) = s'.length - 2 by omega]
      exact xb2Z _
  rw [if_neg c4] at h ⊢
  have hsame : leS (s'.drop (s'.length - t.length)) t = true → leS (s.drop (s.length - t.length)) t = true := fun k => by
    rw [hl]; exact xb0Z (hd _) k
  by_cases c12 : o.1 = 12
  · rw [if_pos c12] at h ⊢
    exact ⟨t, l, h, rfl, xb2Z _, hsame⟩
  rw [if_neg c12] at h ⊢
  by_cases c13 : o.1 = 13
  · rw [if_pos c13] at h ⊢
    rw [hl]
    exact ⟨t, l, h, rfl, xb2Z _, by rw [hl] at hsame; exact hsame⟩
  · rw [if_neg c13] at h ⊢
    exact ⟨t, l, h, rfl, xb2Z _, hsame⟩
theorem tryOp_mono {p : List Fn} {f : Fn} {o : Int × Int} {s s' out' : List Int} (hs : leS s s' = true) (h : tryOp p f o s' = some out') : ∃ out, tryOp p f o s = some out ∧ leS out out' = true := by
  unfold tryOp at h ⊢
  obtain ⟨⟨t, l⟩, h1, h2⟩ := Option.bind_eq_some_iff.1 h
  obtain ⟨t1, l1, k1, k2, k3, k4⟩ := xf0Z hs h1
  have hl := xdiZ hs
  simp only at h2
  by_cases hc : t.length ≤ s'.length ∧ leS (s'.drop (s'.length - t.length)) t = true ∧ (s'.take (s'.length - t.length) ++ l).length ≤ 8
  · rw [if_pos hc] at h2
    cases h2
    have hout : leS (s.take (s.length - t1.length) ++ l1) (s'.take (s'.length - t.length) ++ l) = true := by
      rw [k2, hl]; exact xdhZ (leS_take _ hs) k3
    refine ⟨s.take (s.length - t1.length) ++ l1, ?_, hout⟩
    rw [k1]
    simp only [Option.bind_some]
    rw [if_pos]
    refine ⟨by omega, ?_, ?_⟩
    · rw [k2]; exact k4 hc.2.1
    · rw [xdiZ hout]; exact hc.2.2
  · rw [if_neg hc] at h2; cases h2
structure FitsBy (p : List Fn) (f : Fn) (e : Nat → Option (List Int)) : Prop where
  first : e 0 = some []
  on : ∀ pc s, e pc = some s → ∃ o out, f.2.2.2[pc]? = some o ∧ tryOp p f o s = some out ∧ ∀ to, goesOn f.2.2.2 pc to = true → to < f.2.2.2.length ∧ ∃ s', e to = some s' ∧ leS out s' = true
def leE (e e' : Nat → Option (List Int)) : Prop := ∀ pc s, e pc = some s → ∃ s', e' pc = some s' ∧ leS s s' = true
theorem leE_anti {e e' : Nat → Option (List Int)} (h : leE e e') (k : leE e' e) : e = e' := by
  funext pc
  cases h1 : e pc with
  | none =>
    cases h2 : e' pc with
    | none => rfl
    | some s => obtain ⟨_, h3, _⟩ := k pc s h2; rw [h1] at h3; cases h3
  | some s =>
    obtain ⟨s', h2, h3⟩ := h pc s h1
    obtain ⟨s'', h4, h5⟩ := k pc s' h2
    rw [h1] at h4; cases h4
    rw [h2, leS_anti h3 h5]
theorem step_below {p : List Fn} {f : Fn} {e e' : Nat → Option (List Int)} (hf : FitsBy p f e') (hle : leE e e') {pc : Nat} {s : List Int} (hs : e pc = some s) : ∃ o out, f.2.2.2[pc]? = some o ∧ tryOp p f o s = some out ∧ ∀ to, goesOn f.2.2.2 pc to = true → to < f.2.2.2.length ∧ ∃ s', e' to = some s' ∧ leS out s' = true ∧ ∀ s1, e to = some s1 → ∃ j, joinL s1 out = some j ∧ leS j s' = true := by
  obtain ⟨s', h1, h2⟩ := hle pc s hs
  obtain ⟨o, out', h3, h4, h5⟩ := hf.on pc s' h1
  obtain ⟨out, h6, h7⟩ := tryOp_mono h2 h4
  refine ⟨o, out, h3, h6, fun to hto => ?_⟩
  obtain ⟨h8, s2, h9, h10⟩ := h5 to hto
  refine ⟨h8, s2, h9, xb0Z h7 h10, fun s1 hs1 => ?_⟩
  obtain ⟨s3, h11, h12⟩ := hle to s1 hs1
  rw [h9] at h11; cases h11
  exact xeeZ h12 (xb0Z h7 h10)
theorem xexZ {p : List Fn} {f : Fn} {e : Nat → Option (List Int)} (hf : FitsBy p f e) {x : Nat} (h : Come f.2.2.2 x) : ∃ s, e x = some s := by
  induction h with
  | zero => exact ⟨_, hf.first⟩
  | step _ h2 ih =>
    obtain ⟨s, hs⟩ := ih
    obtain ⟨_, _, _, _, h⟩ := hf.on _ _ hs
    obtain ⟨_, s', h3, _⟩ := h _ h2
    exact ⟨s', h3⟩
def Least (p : List Fn) (f : Fn) (r : Option (Nat → Option (List Int))) : Prop :=
  match r with
  | none => ∀ e, ¬ FitsBy p f e
  | some e => FitsBy p f e ∧ ∀ e', FitsBy p f e' → leE e e'
theorem least_one {p : List Fn} {f : Fn} {r q : Option (Nat → Option (List Int))} (h : Least p f r) (k : Least p f q) : r = q := by
  cases r with
  | none => cases q with
    | none => rfl
    | some e => exact absurd k.1 (h e)
  | some e => cases q with
    | none => exact absurd h.1 (k e)
    | some e' => rw [leE_anti (h.2 _ k.1) (k.2 _ h.1)]
end Go.Proofs.YtgmkmlenhhhgkaaGreat


/- verify: standsFor, joinType, Join. -/
namespace Go.Proofs.YtgmkmlenhhhgkaaGreat
open Go.RowKit
set_option linter.unusedSimpArgs false
set_option linter.unusedVariables false
theorem xbyZ (a b : Int) (w : World) : Calls Tryz.prog 69 #[.int .i64 a, .int .i64 b] w fun e w' => e = .returned (.bool (xalZ a b)) ∧ w' = w := by
  by_cases h : a = b
  · subst h
    have h' : (a == a) = true := by simp
    go_enter Tryz.func69, Tryz.ntmps69
    go_wp2
    go_ret
    exact ⟨by simp [xalZ], rfl⟩
  · have h' : (a == b) = false := by simp [h]
    by_cases h3 : a = 3
    · subst h3
      by_cases h2 : b = 2
      · subst h2
        go_enter Tryz.func69, Tryz.ntmps69
        go_wp2
        go_ret
        exact ⟨by simp [xalZ], rfl⟩
      · have h2' : (b == 2) = false := by simp [h2]
        have hs : xalZ 3 b = false := by simp [xalZ, h, h2]
        rw [hs]
        clear h h2 hs
        go_enter Tryz.func69, Tryz.ntmps69
        go_wp2
        go_ret
        exact ⟨rfl, rfl⟩
    · have h3' : (a == 3) = false := by simp [h3]
      have hs : xalZ a b = false := by simp [xalZ, h, h3]
      rw [hs]
      clear h h3 hs
      go_enter Tryz.func69, Tryz.ntmps69
      go_wp2
      go_ret
      exact ⟨rfl, rfl⟩
def jt (a b : Int) : Int := if xalZ a b = true then b else if xalZ b a = true then a else 0
theorem jt_none {a b : Int} (ha : xawZ a = true) (hb : xawZ b = true) : jt a b = 0 ↔ joinT a b = none := by
  simp only [xawZ, Bool.and_eq_true, decide_eq_true_eq] at ha hb
  unfold jt joinT xalZ
  by_cases h : a = b
  · subst h; simp; omega
  · by_cases h1 : a = 3 ∧ b = 2
    · obtain ⟨rfl, rfl⟩ := h1; simp
    · by_cases h2 : a = 2 ∧ b = 3
      · obtain ⟨rfl, rfl⟩ := h2; simp
      · have e1 : (decide (a = b) || decide (a = 3) && decide (b = 2)) = false := by simp [h]; omega
        have e2 : (decide (b = a) || decide (b = 3) && decide (a = 2)) = false := by simp [fun e : b = a => h e.symm]; omega
        rw [e1, e2]
        simp [h]
        omega
theorem jt_some {a b t : Int} (h : joinT a b = some t) : jt a b = t := by
  unfold joinT at h
  by_cases h1 : a = b
  · rw [if_pos h1] at h; cases h; subst h1; simp [jt, xalZ]
  · rw [if_neg h1] at h
    split at h
    · rename_i h2
      cases h
      rcases h2 with ⟨rfl, rfl⟩ | ⟨rfl, rfl⟩ <;> simp [jt, xalZ]
    · cases h
theorem jt_list : ∀ {a b l : List Int}, joinL a b = some l → List.zipWith jt a b = l
  | [], [], l, h => by cases h; rfl
  | [], _ :: _, l, h => by cases h
  | _ :: _, [], l, h => by cases h
  | a :: r, b :: q, l, h => by
    simp only [joinL] at h
    obtain ⟨t, ht, h2⟩ := Option.bind_eq_some_iff.1 h
    obtain ⟨l', hl', rfl⟩ := Option.map_eq_some_iff.1 h2
    simp [jt_some ht, jt_list hl']
theorem jt_zero : ∀ {a b : List Int}, a.length = b.length → (∀ x ∈ a, xawZ x = true) → (∀ x ∈ b, xawZ x = true) → ((0 : Int) ∈ List.zipWith jt a b ↔ joinL a b = none)
  | [], [], _, _, _ => by simp [joinL]
  | [], _ :: _, h, _, _ => by simp at h
  | _ :: _, [], h, _, _ => by simp at h
  | a :: r, b :: q, h, ha, hb => by
    have ih := jt_zero (a := r) (b := q) (by simpa using h) (fun x hx => ha x (by simp [hx])) (fun x hx => hb x (by simp [hx]))
    have h1 := jt_none (ha a (by simp)) (hb b (by simp))
    simp only [List.zipWith_cons_cons, List.mem_cons, ih, joinL]
    cases e : joinT a b with
    | none => simp [h1.2 e]
    | some t =>
      have hne : ¬ 0 = jt a b := fun h0 => by have := h1.1 h0.symm; rw [e] at this; cases this
      simp [hne]
theorem xh9Z (a b : Int) (w : World) : Calls Tryz.prog 43 #[.int .i64 a, .int .i64 b] w fun e w' => e = .returned (.int .i64 (jt a b)) ∧ w' = w := by
  cases h1 : xalZ a b
  · cases h2 : xalZ b a
    · go_enter Tryz.func43, Tryz.ntmps43
      go_wp2_with fail
      refine (xbyZ a b _).mono ?_
      rw [h1]
      rintro e w1 ⟨rfl, hw⟩
      have hw := hw.symm
      subst hw
      go_wp2_with fail
      refine (xbyZ b a _).mono ?_
      rw [h2]
      rintro e w1 ⟨rfl, hw⟩
      have hw := hw.symm
      subst hw
      go_wp2
      go_ret
      exact ⟨by simp [jt, h1, h2], rfl⟩
    · go_enter Tryz.func43, Tryz.ntmps43
      go_wp2_with fail
      refine (xbyZ a b _).mono ?_
      rw [h1]
      rintro e w1 ⟨rfl, hw⟩
      have hw := hw.symm
      subst hw
      go_wp2_with fail
      refine (xbyZ b a _).mono ?_
      rw [h2]
      rintro e w1 ⟨rfl, hw⟩
      have hw := hw.symm
      subst hw
      go_wp2
      go_ret
      exact ⟨by simp [jt, h1, h2], rfl⟩
  · go_enter Tryz.func43, Tryz.ntmps43
    go_wp2_with fail
    refine (xbyZ a b _).mono ?_
    rw [h1]
    rintro e w1 ⟨rfl, hw⟩
    have hw := hw.symm
    subst hw
    go_wp2
    go_ret
    exact ⟨by simp [jt, h1], rfl⟩
theorem xg4Z (t : Int) (w : World) : Calls Tryz.prog 41 #[.int .i64 t] w fun e w' => e = .returned (.bool (!xawZ t)) ∧ w' = w := by
  by_cases h1 : t < 1
  · go_enter Tryz.func41, Tryz.ntmps41
    go_wp2
    go_ret
    exact ⟨by simp [xawZ]; omega, rfl⟩
  · by_cases h2 : t > 3
    · go_enter Tryz.func41, Tryz.ntmps41
      go_wp2
      go_ret
      exact ⟨by simp [xawZ]; omega, rfl⟩
    · go_enter Tryz.func41, Tryz.ntmps41
      go_wp2
      go_ret
      exact ⟨by simp [xawZ]; omega, rfl⟩
theorem xf5Z (l : List Int) (v : Value) (w : World) (h : IntsAt w v l) : Calls Tryz.prog 68 #[v, .func (.func 41) #[] #[]] w fun e w' => ∃ r, e = .returned (.int .i64 r) ∧ decide (0 ≤ r) = (!l.all xawZ) ∧ w' = w := by
  obtain ⟨p, cap, rfl, hm, hc⟩ := h
  unfold maxLen at hm
  go_enter Tryz.func68, Tryz.ntmps68
  go_wp2
  go_loopw [5, 8] (fun _ i wr => ∃ k : Nat, k ≤ l.length ∧ i = .int .i64 k ∧ (∀ o ∈ l.take k, xawZ o = true) ∧ wr = w) (fun _ i _ => l.length - (intOf i).toNat)
  case atStart => exact ⟨0, Nat.zero_le _, rfl, by simp, rfl⟩
  case round =>
    obtain ⟨k, hk, rfl, hok, hbw⟩ := hrel
    subst hbw
    have HK := hideP hok
    have HC := hideP hc
    clear hok hc
    by_cases hlt : k < l.length
    · obtain ⟨z, ho⟩ := xagZ hlt
      obtain ⟨b, off, rfl, hb, g0⟩ := HC.out k _ ho
      have HO := hideP ho
      clear ho
      cases hnb : xawZ z
      · go_wp2_with (go_at_call 41; refine (xg4Z z _).mono ?_; rw [hnb]; rintro e w2 ⟨rfl, hw⟩; have hw := hw.symm; subst hw)
        go_ret
        exact ⟨k, rfl, by rw [xc4Z HO.out hnb]; simp, rfl⟩
      · go_wp2_with (go_at_call 41; refine (xg4Z z _).mono ?_; rw [hnb]; rintro e w2 ⟨rfl, hw⟩; have hw := hw.symm; subst hw)
        go_roundw
        case rel => exact ⟨k + 1, by omega, by go_num, xcyZ HK.out HO.out hnb, trivial⟩
        case measure => simp [intOf]; omega
    · have hlt' : ¬ (k : Int) < (l.length : Int) := by omega
      go_wp2
      go_ret
      refine ⟨-1, rfl, ?_, rfl⟩
      have := HK.out
      rw [List.take_of_length_le (by omega)] at this
      rw [xdnZ this]; decide
theorem xbrZ (l : List Int) (v : Value) (w : World) (h : IntsAt w v l) : Calls Tryz.prog 42 #[v, .func (.func 41) #[] #[]] w fun e w' => e = .returned (.bool (!l.all xawZ)) ∧ w' = w := by
  go_enter Tryz.func42, Tryz.ntmps42
  go_wp2_with fail
  refine (xf5Z l v _ h).mono ?_
  rintro e w2 ⟨r, rfl, hr, hw⟩
  have hw := hw.symm
  subst hw
  have HR := hideP hr
  clear hr
  go_wp2
  go_ret
  exact ⟨by rw [← HR.out]; rfl, rfl⟩
def upTo (l : List Int) (k : Nat) : List Int := l.take k ++ List.replicate (l.length - k) 0
theorem upTo_set {l : List Int} {k : Nat} {x : Int} (h : l[k]? = some x) : (upTo l k).set k x = upTo l (k + 1) := by
  have hk := xauZ h
  apply List.ext_getElem?
  intro i
  rw [List.getElem?_set]
  have hlen : (upTo l k).length = l.length := by simp [upTo]; omega
  by_cases e : k = i
  · subst e
    rw [if_pos rfl, if_pos (by omega)]
    unfold upTo
    rw [List.getElem?_append_left (by simp; omega), List.getElem?_take_of_lt (by omega), h]
  · rw [if_neg e]
    unfold upTo
    by_cases hi : i < k
    · rw [List.getElem?_append_left (by simp; omega), List.getElem?_append_left (by simp; omega), List.getElem?_take_of_lt hi, List.getElem?_take_of_lt (by omega)]
    · rw [List.getElem?_append_right (by simp; omega), List.getElem?_append_right (by simp; omega)]
      simp only [List.getElem?_replicate, List.length_take]
      rw [Nat.min_eq_left (by omega), Nat.min_eq_left (by omega)]
      by_cases hl : i < l.length
      · rw [if_pos (by omega), if_pos (by omega)]
      · rw [if_neg (by omega), if_neg (by omega)]
theorem upTo_all (l : List Int) : upTo l l.length = l := by simp [upTo]
theorem upTo_none (l : List Int) : upTo l 0 = List.replicate l.length 0 := by simp [upTo]
theorem set_ints (l : List Int) (k : Nat) (x : Int) : (l.map (Value.int .i64)).toArray.setIfInBounds k (.int .i64 x) = ((l.set k x).map (Value.int .i64)).toArray := by
  apply Array.ext'
  simp
theorem made_ints (n : Nat) : (madeCells (Value.int .i64 0).cells (n * 1)).toList = (List.replicate n (0 : Int)).map (Value.int .i64) := by
  have h : (Value.int .i64 0).cells = #[.int .i64 0] := rfl
  rw [h]
  apply List.ext_getElem?
  intro k
  by_cases hk : k < n
  · simp [madeCells, hk, Nat.mod_one]
  · simp [madeCells, hk]
end Go.Proofs.YtgmkmlenhhhgkaaGreat


/- verify.Join. -/
namespace Go.Proofs.YtgmkmlenhhhgkaaGreat
open Go.RowKit
set_option linter.unusedSimpArgs false
set_option linter.unusedVariables false
def joinR (a b : List Int) : List Int := if xbdZ a b = 0 then (joinL a b).getD [] else []
theorem xe2Z {a b : List Int} (h : (a.all xawZ && b.all xawZ) = false) : xbdZ a b = 6 := by
  unfold xbdZ
  rw [if_pos]
  rw [List.any_append, Bool.or_eq_true]
  rcases Bool.and_eq_false_iff.1 h with h | h
  · left; rw [← List.not_all_eq_any_not, h]; rfl
  · right; rw [← List.not_all_eq_any_not, h]; rfl
theorem xe3Z {a b : List Int} (ha : a.all xawZ = true) (hb : b.all xawZ = true) (h : 8 < a.length ∨ 8 < b.length) : xbdZ a b = 2 := by
  unfold xbdZ
  rw [if_neg (by rw [List.any_append, ← List.not_all_eq_any_not, ← List.not_all_eq_any_not, ha, hb]; decide), if_pos h]
theorem xe4Z {a b : List Int} (ha : a.all xawZ = true) (hb : b.all xawZ = true) (h1 : a.length ≤ 8) (h2 : b.length ≤ 8) : xbdZ a b = if (joinL a b).isNone = true then 4 else 0 := by
  unfold xbdZ
  rw [if_neg (by rw [List.any_append, ← List.not_all_eq_any_not, ← List.not_all_eq_any_not, ha, hb]; decide), if_neg (by omega)]
theorem joinL_lens {a b : List Int} (h : a.length ≠ b.length) : joinL a b = none := by
  cases e : joinL a b with
  | none => rfl
  | some l => exact absurd (xdpZ _ _ _ e).2 h
theorem xh6Z {w : World} {R n : Nat} {J : List Int} (h : w.heap[R]? = some (.cells (J.map (Value.int .i64)).toArray 3 (0, 0))) (hn : J.length = n) (hm : n ≤ maxLen := by unfold maxLen; omega) : IntsAt w (.slice (some ⟨R, 0, none⟩) n n) J := by
  subst hn
  refine ⟨_, _, rfl, hm, fun k z hk => ⟨R, 0, rfl, xabZ h, ?_⟩⟩
  rw [xaaZ h]
  simp [hk]
theorem xfdZ (a b : List Int) (v u : Value) (w : World) (ha : IntsAt w v a) (hb : IntsAt w u b) : Calls Tryz.prog 15 #[v, u] w fun e w' => ∃ x, e = .returned (.tuple #[x, .int .i64 (xbdZ a b)]) ∧ w'.ownsRow w.heap.size 3 1 x (joinR a b).length ((joinR a b).map (Value.int .i64)) ∧ Below w.heap.size w w' := by
  have ha' := ha
  have hb' := hb
  obtain ⟨pa, ca, rfl, hma, hca⟩ := ha'
  obtain ⟨pb, cb, rfl, hmb, hcb⟩ := hb'
  unfold maxLen at hma hmb
  have HCA := hideP hca
  have HCB := hideP hcb
  have HA := hideP ha
  have HB := hideP hb
  clear hca hcb ha hb
  cases ka : a.all xawZ
  · have he : xbdZ a b = 6 := xe2Z (by rw [ka]; rfl)
    have hr : joinR a b = [] := by rw [joinR, if_neg (by rw [he]; decide)]
    rw [he, hr]
    clear he hr
    go_enter Tryz.func15, Tryz.ntmps15
    go_wp2_with fail
    refine (xbrZ a _ _ HA.out).mono ?_
    rw [ka]
    rintro e w1 ⟨rfl, hw⟩
    have hw := hw.symm
    subst hw
    go_wp2
    go_ret2
    exact ⟨_, rfl, World.ownsRow_nil _ _ _ _, Below.refl _ _⟩
  · cases kb : b.all xawZ
    · have he : xbdZ a b = 6 := xe2Z (by rw [ka, kb]; rfl)
      have hr : joinR a b = [] := by rw [joinR, if_neg (by rw [he]; decide)]
      rw [he, hr]
      clear he hr
      go_enter Tryz.func15, Tryz.ntmps15
      go_wp2_with fail
      refine (xbrZ a _ _ HA.out).mono ?_
      rw [ka]
      rintro e w1 ⟨rfl, hw⟩
      have hw := hw.symm
      subst hw
      go_wp2_with fail
      refine (xbrZ b _ _ HB.out).mono ?_
      rw [kb]
      rintro e w1 ⟨rfl, hw⟩
      have hw := hw.symm
      subst hw
      go_wp2
      go_ret2
      exact ⟨_, rfl, World.ownsRow_nil _ _ _ _, Below.refl _ _⟩
    · go_enter Tryz.func15, Tryz.ntmps15
      go_wp2_with fail
      refine (xbrZ a _ _ HA.out).mono ?_
      rw [ka]
      rintro e w1 ⟨rfl, hw⟩
      have hw := hw.symm
      subst hw
      go_wp2_with fail
      refine (xbrZ b _ _ HB.out).mono ?_
      rw [kb]
      rintro e w1 ⟨rfl, hw⟩
      have hw := hw.symm
      subst hw
      by_cases la : 8 < a.length
      · have he : xbdZ a b = 2 := xe3Z ka kb (.inl la)
        have hr : joinR a b = [] := by rw [joinR, if_neg (by rw [he]; decide)]
        have HE := hideP he
        have HR := hideP hr
        have la' : (a.length : Int) > 8 := by omega
        clear he hr ka kb
        go_wp2
        go_ret2
        rw [HE.out, HR.out]
        exact ⟨_, rfl, World.ownsRow_nil _ _ _ _, Below.refl _ _⟩
      · have la' : ¬ (a.length : Int) > 8 := by omega
        by_cases lb : 8 < b.length
        · have he : xbdZ a b = 2 := xe3Z ka kb (.inr lb)
          have hr : joinR a b = [] := by rw [joinR, if_neg (by rw [he]; decide)]
          have HE := hideP he
          have HR := hideP hr
          have lb' : (b.length : Int) > 8 := by omega
          clear he hr ka kb
          go_wp2
          go_ret2
          rw [HE.out, HR.out]
          exact ⟨_, rfl, World.ownsRow_nil _ _ _ _, Below.refl _ _⟩
        · have lb' : ¬ (b.length : Int) > 8 := by omega
          have hrest := xe4Z ka kb (by omega) (by omega)
          by_cases hl : a.length = b.length
          · rw [← hl]
            have hz := jt_zero hl (List.all_eq_true.1 ka) (List.all_eq_true.1 kb)
            have hjl : (List.zipWith jt a b).length = a.length := by simp; omega
            have hjt := fun l (h : joinL a b = some l) => jt_list h
            obtain ⟨J, hJ⟩ : ∃ J, List.zipWith jt a b = J := ⟨_, rfl⟩
            have hJk : ∀ (k : Nat) (x y : Int), a[k]? = some x → b[k]? = some y → J[k]? = some (jt x y) := by
              intro k x y h1 h2
              rw [← hJ, List.getElem?_zipWith, h1, h2]
            rw [hJ] at hz hjl hjt
            have HJK := hideP hJk
            have HZ := hideP hz
            have HJT := hideP hjt
            have HRE := hideP hrest
            have HLL := hideP hl
            obtain ⟨i0, hi, hz0, hz1, hz2⟩ := info_parts xdkZ
            have hla2 : a.length ≤ 8 := by omega
            have HBL := hideP hl.symm
            clear hz hjt hrest ka kb hJk hJ hl lb lb' hmb
            go_wp2_with (at_make; go_must (refine wpList_make_full _ rfl _ _ 25 rfl w.heap.size 3 i0 (.int .i64 0) 1 Tryz.underlying25 hi hz0 hz1 _ _ _ _ a.length rfl rfl (by omega) (by omega) (by rw [hz2]; omega) (by unfold maxLen; omega) (Nat.le_refl _) ?_; intro w2 hown2 hg2; rw [made_ints] at hown2; have Q2 := hideP (row_full hown2 (by simp)); clear hown2))
            have hB2 : Below w.heap.size w w2 := (Below.refl w.heap.size w).grown hg2 (Nat.le_refl _) (fun k hk => by cases hk)
            go_loopw [8, 38] (fun _ i wr => ∃ k : Nat, k ≤ a.length ∧ i = .int .i64 k ∧ wr.heap[w.heap.size]? = some (.cells ((upTo J k).map (Value.int .i64)).toArray 3 (0, 0)) ∧ Below w.heap.size w wr) (fun _ i _ => a.length - (intOf i).toNat)
            case atStart =>
              refine ⟨0, Nat.zero_le _, rfl, ?_, hB2⟩
              rw [upTo_none, hjl]
              exact Q2.out
            case round =>
              rename World => w3
              obtain ⟨k, hk, rfl, hq3, hB3⟩ := hrel
              by_cases hlt : k < a.length
              · have hlti : (k : Int) < (a.length : Int) := by omega
                obtain ⟨x, hx⟩ := xagZ hlt
                obtain ⟨y, hy⟩ := xagZ (show k < b.length by rw [HBL.out]; omega)
                obtain ⟨b1, o1, hp1, hb1, g1⟩ := HCA.out k x hx
                obtain ⟨b2, o2, hp2, hb2, g2⟩ := HCB.out k y hy
                subst hp1 hp2
                have d1 := (hB3.cell (p := ⟨b1, o1 + k, none⟩) hb1).trans g1
                have d2 := (hB3.cell (p := ⟨b2, o2 + k, none⟩) hb2).trans g2
                have z3 := Lib.frozen_of_heap hq3 k
                have hu : (upTo J k).length = J.length := by simp [upTo]; omega
                have d3 : ∃ v3, w3.cell? ⟨w.heap.size, k, none⟩ = some v3 := by
                  rw [xaaZ hq3]
                  refine ⟨_, Array.getElem?_eq_getElem (by simp; omega)⟩
                obtain ⟨v3, d3⟩ := d3
                have hset := upTo_set (HJK.out k x y hx hy)
                have HSET := hideP hset
                have Q3 := hideP hq3
                clear g1 g2 hx hy hset hq3 hu
                go_wp2
                go_region_law (go_simp; go_at_call 43; refine (xh9Z x y _).mono ?_; rintro e w4 ⟨rfl, hw4⟩; have hw4 := hw4.symm; subst hw4)
                all_goals
                  go_wp2
                  go_roundw
                  case rel =>
                    refine ⟨k + 1, by omega, by go_num, ?_, ?_⟩
                    · have := heap_setCell_same w3 w.heap.size k _ _ (.int .i64 (jt x y)) Q3.out
                      rw [set_ints, HSET.out] at this
                      exact this
                    · first
                      | exact (hB3.setCell (p := ⟨w.heap.size, k, none⟩) (Nat.le_refl _) _).drew
                      | exact hB3.setCell (p := ⟨w.heap.size, k, none⟩) (Nat.le_refl _) _
                  case measure => simp [intOf]; omega
              · have hlti : ¬ (k : Int) < (a.length : Int) := by omega
                obtain rfl : k = a.length := by omega
                rw [← hjl, upTo_all] at hq3
                have hI3 : IntsAt w3 (.slice (some ⟨w.heap.size, 0, none⟩) a.length a.length) J := xh6Z hq3 hjl
                have Q3 := hideP hq3
                clear hq3
                by_cases h0 : (0 : Int) ∈ J
                · have hjn := HZ.out.1 h0
                  have he : xbdZ a b = 4 := by rw [HRE.out, hjn]; rfl
                  have hr : joinR a b = [] := by rw [joinR, if_neg (by rw [he]; decide)]
                  have HE := hideP he
                  have HR := hideP hr
                  have HD := hideP (decide_eq_true h0)
                  clear he hr hjn h0
                  go_wp2_with fail
                  refine (xctZ J 0 _ _ hI3).mono ?_
                  rw [HD.out]
                  rintro e w4 ⟨rfl, hw4⟩
                  have hw4 := hw4.symm
                  subst hw4
                  go_wp2
                  go_ret2
                  rw [HE.out, HR.out]
                  exact ⟨_, rfl, World.ownsRow_nil _ _ _ _, hB3⟩
                · have hjs : ∃ l, joinL a b = some l := by
                    cases e : joinL a b with
                    | none => exact absurd (HZ.out.2 e) h0
                    | some l => exact ⟨l, rfl⟩
                  obtain ⟨l, hjs⟩ := hjs
                  have he : xbdZ a b = 0 := by rw [HRE.out, hjs]; rfl
                  have hr : joinR a b = J := by rw [joinR, if_pos he, hjs, HJT.out l hjs]; rfl
                  have HE := hideP he
                  have HR := hideP hr
                  have HD := hideP (decide_eq_false h0)
                  clear he hr hjs h0
                  go_wp2_with fail
                  refine (xctZ J 0 _ _ hI3).mono ?_
                  rw [HD.out]
                  rintro e w4 ⟨rfl, hw4⟩
                  have hw4 := hw4.symm
                  subst hw4
                  go_wp2
                  go_ret2
                  rw [HE.out, HR.out]
                  refine ⟨_, rfl, ?_, hB3⟩
                  refine ⟨by simp, .inr ⟨w.heap.size, a.length, _, ?_, Nat.le_refl _, Q3.out, by omega, by unfold maxLen; omega, by simp [hjl], by rw [Nat.mul_one]; exact List.take_of_length_le (by simp)⟩⟩
                  rw [hjl]
                  rfl
          · have he : xbdZ a b = 4 := by rw [hrest, joinL_lens hl]; rfl
            have hr : joinR a b = [] := by rw [joinR, if_neg (by rw [he]; decide)]
            have HE := hideP he
            have HR := hideP hr
            have hl' : ((a.length : Int) != (b.length : Int)) = true := by simp; omega
            clear he hr ka kb hrest hl
            go_wp2
            go_ret2
            rw [HE.out, HR.out]
            exact ⟨_, rfl, World.ownsRow_nil _ _ _ _, Below.refl _ _⟩
end Go.Proofs.YtgmkmlenhhhgkaaGreat


/- verify's stack: pop, leave, result. -/
namespace Go.Proofs.YtgmkmlenhhhgkaaGreat
open Go.RowKit
set_option linter.unusedSimpArgs false
set_option linter.unusedVariables false
def StAt (W : World) (b B : Nat) (l : List Int) (wr : Bool) : Prop := ∃ v, W.heap[b]? = some (.cells #[v, .bool wr] 123 (0, 0)) ∧ W.ownsRow B 3 1 v l.length (l.map (Value.int .i64))
theorem StAt.lt {W : World} {b B : Nat} {l : List Int} {wr : Bool} (h : StAt W b B l wr) : b < W.heap.size := by
  obtain ⟨v, h, _⟩ := h
  exact xabZ h
theorem StAt.kept {W W' : World} {b B : Nat} {l : List Int} {wr : Bool} (h : StAt W b B l wr) (hb : Below W.heap.size W W') : StAt W' b B l wr := by
  obtain ⟨v, h1, h2⟩ := h
  exact ⟨v, (hb.block _ (xabZ h1)).trans h1, xayZ h2 fun j hj => hb.block j (h2.lt j hj).2⟩
theorem xepZ {W : World} {b B : Nat} {v v' : Value} {wr : Bool} {n : Nat} {xs : List Value} (h : W.heap[b]? = some (.cells #[v, .bool wr] 123 (0, 0))) (hr : W.ownsRow B 3 1 v' n xs) : v'.ownBlock ≠ some b := (xa0Z hr h (by decide)).symm
theorem StAt.set {W : World} {b B : Nat} {v v' : Value} {wr wr' : Bool} {l : List Int} (h : W.heap[b]? = some (.cells #[v, .bool wr] 123 (0, 0))) {W' : World} (hW : W'.heap[b]? = some (.cells #[v', .bool wr'] 123 (0, 0))) (hr : W.ownsRow B 3 1 v' l.length (l.map (Value.int .i64))) (hg : W.grownBy W' (some b)) : StAt W' b B l wr' :=
  ⟨v', hW, hr.kept hg (.inr (xepZ h hr))⟩
def topP (l : List Int) : Int := l.getLast?.getD 0
theorem pop_any (l : List Int) (wr : Bool) (b B : Nat) (w : World) (h : StAt w b B l wr) (hl : l.length ≤ 100) : Calls Tryz.prog 104 #[.pointer (some ⟨b, 0, none⟩)] w fun e w' => e = .returned (.int .i64 (topP l)) ∧ StAt w' b B l.dropLast (wr || l.isEmpty) ∧ w.grownBy w' (some b) := by
  obtain ⟨v, h1, h2⟩ := h
  have c0 := xaaZ h1 0
  have c1 := xaaZ h1 1
  have z0 := Lib.frozen_of_heap h1 0
  have z1 := Lib.frozen_of_heap h1 1
  simp at c0 c1
  have H1 := hideP h1
  have H2 := hideP h2
  rcases List.eq_nil_or_concat l with rfl | ⟨r, x, hlx⟩
  · obtain ⟨p, c, rfl⟩ := xahZ h2
    clear h1 h2
    simp only [List.length_nil] at c0
    go_enter Tryz.func104, Tryz.ntmps104
    go_wp2
    go_ret
    refine ⟨rfl, ?_, xbbZ _ _ _⟩
    have := heap_setCell_same w b 1 _ _ (.bool true) H1.out
    exact StAt.set (l := []) H1.out (by simpa using this) H2.out (xbbZ _ _ _)
  · rw [List.concat_eq_append] at hlx
    subst hlx
    have hlen : (r ++ [x]).length = r.length + 1 := by simp
    rw [hlen] at h2
    rcases h2.2 with ⟨_, h0⟩ | ⟨g, cap, cur, rfl, hBg, hg, hn, hm, hs, ht⟩
    · omega
    · have hcell : w.cell? ⟨g, r.length, none⟩ = some (.int .i64 x) := by
        rw [xaaZ hg]
        have : (cur.toList.take ((r.length + 1) * 1))[r.length]? = some (.int .i64 x) := by rw [ht]; simp
        rw [List.getElem?_take_of_lt (by omega)] at this
        simpa using this
      have hrow' : w.ownsRow B 3 1 (.slice (some ⟨g, 0, none⟩) r.length cap) r.length (r.map (Value.int .i64)) := by
        refine ⟨by simp, .inr ⟨g, cap, cur, rfl, hBg, hg, by omega, hm, hs, ?_⟩⟩
        have h3 : (cur.toList.take ((r.length + 1) * 1)).take (r.length * 1) = r.map (Value.int .i64) := by
          rw [ht, List.map_append, List.take_append_of_le_length (by simp)]
          exact List.take_of_length_le (by simp)
        rw [List.take_take, Nat.min_eq_left (by omega)] at h3
        exact h3
      have HR := hideP hrow'
      have hwm : (r.length : Int) + 1 - 1 = (r.length : Int) := by omega
      have hnn : ¬ (r.length : Int) < 0 := by omega
      have hcap : r.length ≤ cap := by omega
      have e1 : topP (r ++ [x]) = x := by simp [topP]
      have e2 : (r ++ [x]).dropLast = r := by simp
      have e3 : (wr || (r ++ [x]).isEmpty) = wr := by simp
      rw [e1, e2, e3]
      have hrl : r.length ≤ 100 := by omega
      unfold maxLen at hm
      clear h1 h2 hlen hrow' hg hs ht e1 e2 e3 hl
      go_enter Tryz.func104, Tryz.ntmps104
      go_wp2
      go_ret
      refine ⟨rfl, ?_, xbbZ _ _ _⟩
      have := heap_setCell_same w b 0 _ _ (.slice (some ⟨g, 0, none⟩) r.length cap) H1.out
      exact StAt.set H1.out (by simpa using this) HR.out (xbbZ _ _ _)
end Go.Proofs.YtgmkmlenhhhgkaaGreat


/- verify's stack: leave, result; slices.Clone at numbers. -/
namespace Go.Proofs.YtgmkmlenhhhgkaaGreat
open Go.RowKit
set_option linter.unusedSimpArgs false
set_option linter.unusedVariables false
theorem xckZ {w : World} {ops : Array Oper} {rest : List Oper} {o : Oper} {a : Act} {Q : Exit → Act → World → Prop} (hgd : o.guard = none) (s x : Operand)
    (ho : o.op = .call { callee := .builtin .append, args := #[s, x], argTypes := #[25, 25] }) (base : Nat)
    (v : Value) (n : Nat) (xs : List Value) (hs : a.eval s = v) (hown : w.ownsRow base 3 1 v n xs)
    (u : Value) (l : List Int) (hx : a.eval x = u) (hu : IntsAt w u l) (hnil : NilOk u)
    (h63 : n + l.length ≤ maxLen) (hbytes : (n + l.length) * 8 ≤ 140737488355328) (hbase : base ≤ w.heap.size)
    (h : ∀ v' w', w'.ownsRow base 3 1 v' (n + l.length) (xs ++ l.map (Value.int .i64)) → w.grownBy w' v.ownBlock → wpList Tryz.prog ops Q rest (a.put o.dst v') w') : wpList Tryz.prog ops Q (o :: rest) a w := by
  obtain ⟨i0, hi, hz0, hz1, hz2⟩ := info_parts xdkZ
  have hu' := hu
  obtain ⟨p, cap, rfl, hm, hc⟩ := hu'
  cases p with
  | none =>
    have hl : l = [] := by
      cases l with
      | nil => rfl
      | cons o r => obtain ⟨b, off, hb, _⟩ := hc 0 o rfl; cases hb
    subst hl
    have hcap : cap = 0 := hnil _ _ rfl
    subst hcap
    exact wpList_append_own_none hgd s x 25 ho base 3 i0 1 Tryz.underlying25 hi v n xs hs hown hx (h v w (by simpa using hown) (World.grownBy.refl _ _))
  | some ad =>
    refine wpList_append_own w hgd s x 25 ho base 3 i0 (.int .i64 0) 1 8 Tryz.underlying25 hi hz0 hz1 hz2 rfl (by decide) v n xs hs hown ad l.length cap (l.map (Value.int .i64)) hx (by simp)
      (fun j u hj => ?_) (fun u hu => by obtain ⟨z, _, rfl⟩ := List.mem_map.1 hu; rfl) h63 hbytes hbase (fun v' w' h1 h2 _ => h v' w' h1 h2)
    rw [List.getElem?_map] at hj
    obtain ⟨z, hz, rfl⟩ := Option.map_eq_some_iff.1 hj
    obtain ⟨b, off, hb, _, hcell⟩ := hc j z hz
    cases hb
    rw [xc3Z]
    exact hcell
theorem xc9Z {W : World} {B : Nat} {v : Value} {n : Nat} {xs : List Value} {e : TypeId} {k : Nat} (h : W.ownsRow B e k v n xs) : NilOk v := by
  intro m c hv
  rcases h.2 with ⟨rfl, _⟩ | ⟨g, cap, cur, rfl, _⟩
  · cases hv; rfl
  · cases hv
theorem xaxZ (a : Addr) (n c : Nat) : NilOk (.slice (some a) n c) := fun m d h => by cases h
theorem xduZ : NilOk (.slice none 0 0) := fun m d h => by cases h; rfl
theorem leave_any (l ts : List Int) (wr : Bool) (b B : Nat) (u : Value) (w : World) (h : StAt w b B l wr) (hu : IntsAt w u ts) (hn : NilOk u) (hB : B ≤ w.heap.size) (hBb : B ≤ b) (hl : l.length ≤ 100) (ht : ts.length ≤ 100) : Calls Tryz.prog 87 #[.pointer (some ⟨b, 0, none⟩), u] w fun e w' => e = .returned (.tuple #[]) ∧ StAt w' b B (l ++ ts) (wr || decide (8 < (l ++ ts).length)) ∧ Below B w w' := by
  obtain ⟨v, h1, h2⟩ := h
  have c0 := xaaZ h1 0
  have c1 := xaaZ h1 1
  have z0 := Lib.frozen_of_heap h1 0
  have z1 := Lib.frozen_of_heap h1 1
  simp at c0 c1
  have hlt := xabZ h1
  have hvb := xepZ h1 h2
  obtain ⟨p, c, hv⟩ := xahZ h2
  obtain ⟨p', c', hu1, _, _⟩ := id hu
  have H1 := hideP h1
  have H2 := hideP h2
  have HU := hideP hu
  have HN := hideP hn
  subst hv hu1
  clear h1 h2 hu hn
  cases wr
  · go_enter Tryz.func87, Tryz.ntmps87
    go_wp2_with (at_builtin; refine xckZ rfl _ _ rfl B _ _ _ rfl H2.out _ ts rfl HU.out HN.out (by unfold maxLen; omega) (by omega) hB ?_; intro v2 w2 hown2 hg2; have q2 := (hg2.block _ hlt (fun e => hvb e.symm)).trans H1.out; have d0 := xaaZ q2 0; have d1 := xaaZ q2 1; have y0 := Lib.frozen_of_heap q2 0; have y1 := Lib.frozen_of_heap q2 1; have Q2 := hideP q2; have HO2 := hideP hown2; obtain ⟨p2, c2, hv2⟩ := xahZ hown2; subst hv2; clear q2 hown2; simp at d0 d1)
    go_end0
    have s1 := heap_setCell_same w2 b 0 _ _ (.slice p2 (l.length + ts.length) c2) Q2.out
    have s2 := heap_setCell_same _ b 1 _ _ (.bool (decide ((8 : Int) < (l.length : Int) + (ts.length : Int)))) s1
    have hgA := (xbbZ w2 ⟨b, 0, none⟩ (.slice p2 (l.length + ts.length) c2)).trans (xbbZ _ ⟨b, 1, none⟩ (.bool (decide ((8 : Int) < (l.length : Int) + (ts.length : Int)))))
    have hd : decide ((8 : Int) < (l.length : Int) + (ts.length : Int)) = decide (8 < (l ++ ts).length) := by
      rw [Bool.eq_iff_iff, decide_eq_true_iff, decide_eq_true_iff, List.length_append]; omega
    refine ⟨rfl, ?_, ?_⟩
    · rw [Bool.false_or, ← hd]
      refine StAt.set (l := l ++ ts) Q2.out (by simpa using s2) ?_ hgA
      have := HO2.out
      rw [List.length_append, List.map_append]
      exact this
    · have hb0 : Below B w w2 := (Below.refl B w).grown hg2 hB (fun k hk => (H2.out.lt k hk).1)
      exact hb0.grown hgA (Nat.le_trans hB hg2.size) (fun k hk => by cases hk; exact hBb)
  · go_enter Tryz.func87, Tryz.ntmps87
    go_wp2_with (at_builtin; refine xckZ rfl _ _ rfl B _ _ _ rfl H2.out _ ts rfl HU.out HN.out (by unfold maxLen; omega) (by omega) hB ?_; intro v2 w2 hown2 hg2; have q2 := (hg2.block _ hlt (fun e => hvb e.symm)).trans H1.out; have d0 := xaaZ q2 0; have d1 := xaaZ q2 1; have y0 := Lib.frozen_of_heap q2 0; have y1 := Lib.frozen_of_heap q2 1; have Q2 := hideP q2; have HO2 := hideP hown2; obtain ⟨p2, c2, hv2⟩ := xahZ hown2; subst hv2; clear q2 hown2; simp at d0 d1)
    go_end0
    have s1 := heap_setCell_same w2 b 0 _ _ (.slice p2 (l.length + ts.length) c2) Q2.out
    have s2 := heap_setCell_same _ b 1 _ _ (.bool true) s1
    have hgA := (xbbZ w2 ⟨b, 0, none⟩ (.slice p2 (l.length + ts.length) c2)).trans (xbbZ _ ⟨b, 1, none⟩ (.bool true))
    refine ⟨rfl, ?_, ?_⟩
    · rw [Bool.true_or]
      refine StAt.set (l := l ++ ts) Q2.out (by simpa using s2) ?_ hgA
      have := HO2.out
      rw [List.length_append, List.map_append]
      exact this
    · have hb0 : Below B w w2 := (Below.refl B w).grown hg2 hB (fun k hk => (H2.out.lt k hk).1)
      exact hb0.grown hgA (Nat.le_trans hB hg2.size) (fun k hk => by cases hk; exact hBb)
theorem xbkZ (l : List Int) (v : Value) (w : World) (h : IntsAt w v l) (hn : NilOk v) (hl : l.length ≤ 100) : Calls Tryz.prog 64 #[v] w fun e w' => ∃ u, e = .returned u ∧ w'.ownsRow w.heap.size 3 1 u l.length (l.map (Value.int .i64)) ∧ Below w.heap.size w w' := by
  have h' := h
  obtain ⟨p, c, rfl, hm, hc⟩ := h'
  cases p with
  | none =>
    have hl0 : l = [] := by
      cases l with
      | nil => rfl
      | cons o r => obtain ⟨b, off, hb, _⟩ := hc 0 o rfl; cases hb
    subst hl0
    clear hc h
    have heq := fun W => Lib.run_eql_slice_nil (P := Tryz.prog) W 25 3 none 0 c 0 0 Tryz.underlying25
    go_enter Tryz.func64, Tryz.ntmps64
    go_wp2
    go_ret
    exact ⟨_, rfl, World.ownsRow_nil _ _ _ _, Below.refl _ _⟩
  | some ad =>
    have hB := (Below.refl w.heap.size w).alloc (Nat.le_refl _) (.cells #[] 3)
    have hrow := World.ownsRow_made (base := w.heap.size) (e := 3) (size := 1) w #[] 0 (Nat.le_refl _) (by unfold maxLen; omega) rfl
    have HU := hideP (h.below hB)
    have heq := fun W => Lib.run_eql_slice_nil (P := Tryz.prog) W 25 3 (some ad) l.length c 0 0 Tryz.underlying25
    clear hc h
    go_enter Tryz.func64, Tryz.ntmps64
    go_wp2_with (at_builtin; refine xckZ rfl _ _ rfl w.heap.size _ _ _ rfl hrow _ l rfl HU.out (xaxZ _ _ _) (by unfold maxLen; omega) (by omega) (by simp) ?_; intro v2 w2 hown2 hg2; have HO2 := hideP hown2; clear hown2)
    go_ret
    refine ⟨_, rfl, ?_, hB.grown hg2 (by simp) (fun k hk => (hrow.lt k hk).1)⟩
    have := HO2.out
    simpa using this
theorem xgjZ (P r : Int) (p1 p3 : Option Addr) (n1 q1 n3 q3 : Nat) (w : World) : Calls Tryz.prog 90 #[.agg #[.int .i64 P, .slice p1 n1 q1, .int .i64 r, .slice p3 n3 q3]] w fun e w' => ∃ u, e = .returned u ∧ w'.ownsRow w.heap.size 3 1 u (if r = 0 then [] else [r]).length ((if r = 0 then [] else [r]).map (Value.int .i64)) ∧ Below w.heap.size w w' := by
  have hw : Below w.heap.size w (w.alloc (.cells #[.int .i64 P, .slice p1 n1 q1, .int .i64 r, .slice p3 n3 q3] 28)) := (Below.refl _ w).alloc (Nat.le_refl _) _
  by_cases h0 : r = 0
  · subst h0
    go_enter Tryz.func90, Tryz.ntmps90
    go_wp2
    go_ret
    exact ⟨_, rfl, World.ownsRow_nil _ _ _ _, hw⟩
  · have h0' : (r == 0) = false := by simp [h0]
    have e1 : (if r = 0 then [] else [r]) = [r] := if_neg h0
    rw [e1]
    clear h0 e1
    go_enter Tryz.func90, Tryz.ntmps90
    go_wp2
    go_ret
    refine ⟨_, rfl, xa2Z (one_row (xa3Z w _ _)) (by omega), hw.alloc (by simp) _⟩
end Go.Proofs.YtgmkmlenhhhgkaaGreat


/- has, flowBegun. -/
namespace Go.Proofs.YtgmkmlenhhhgkaaGreat
open Go.RowKit
set_option linter.unusedSimpArgs false
set_option linter.unusedVariables false
theorem has_any (l : List Int) (x : Int) (v : Value) (w : World) (h : IntsAt w v l) : Calls Tryz.prog 14 #[v, .int .i64 x] w fun e w' => e = .returned (.bool (decide (x ∈ l))) ∧ w' = w := by
  obtain ⟨p, cap, rfl, hm, hc⟩ := h
  unfold maxLen at hm
  go_enter Tryz.func14, Tryz.ntmps14
  go_wp2
  go_loopw [5] (fun i wr => ∃ k : Nat, k ≤ l.length ∧ i = .int .i64 k ∧ (∀ o ∈ l.take k, (!(o == x)) = true) ∧ wr = w) (fun i _ => l.length - (intOf i).toNat)
  case atStart => exact ⟨0, Nat.zero_le _, rfl, by simp, rfl⟩
  case round =>
    obtain ⟨k, hk, rfl, hok, hbw⟩ := hrel
    subst hbw
    have HK := hideP hok
    clear hok
    have HC := hideP hc
    clear hc
    by_cases hlt : k < l.length
    · obtain ⟨z, ho⟩ := xagZ hlt
      obtain ⟨b, off, rfl, hb, h0⟩ := HC.out k _ ho
      have HO := hideP ho
      clear ho
      cases hnb : (z == x)
      · go_wp2
        go_roundw
        case rel => exact ⟨k + 1, by omega, by go_num, xcyZ HK.out HO.out (by rw [hnb]; rfl), trivial⟩
        case measure => simp [intOf]; omega
      · obtain rfl : z = x := by simpa using hnb
        go_wp2
        go_ret
        exact ⟨by rw [decide_eq_true (List.mem_of_getElem? HO.out)]; rfl, rfl⟩
    · have hlt' : ¬ (k : Int) < (l.length : Int) := by omega
      go_wp2
      go_ret
      have := HK.out
      rw [List.take_of_length_le (by omega)] at this
      refine ⟨?_, rfl⟩
      rw [decide_eq_false (fun hx => by have := this x hx; simp at this)]
      rfl
theorem xftZ (w : World) : Calls Tryz.prog 33 #[] w fun e w' => ∃ v, e = .returned v ∧ OpsAt w' v loopOps ∧ Below w.heap.size w w' := by
  refine (loop_any w).mono ?_
  rintro e w1 ⟨rfl, hw1⟩
  have hb1 : Below w.heap.size w w1 := by rw [hw1]; exact (Below.refl _ w).alloc (Nat.le_refl _) _
  have hh1 : w1.heap[w.heap.size]? = some (.cells (opCells loopOps).toArray 38 (0, 0)) := by rw [hw1]; exact World.alloc_heap_new w _
  exact ⟨_, rfl, xdaZ (l := loopOps) (m := []) 10 10 (by simpa using hh1) rfl (by unfold maxLen; decide), hb1⟩
theorem xamZ {w : World} {b : Nat} {l : List Int} {t : TypeId} {fz : Nat × Nat} (n cap : Nat) (h : w.heap[b]? = some (.cells (l.map (Value.int .i64)).toArray t fz)) (hn : n = l.length) (hm : l.length ≤ maxLen) : IntsAt w (.slice (some ⟨b, 0, none⟩) n cap) l := by
  subst hn
  refine ⟨_, cap, rfl, hm, fun k z hk => ⟨b, 0, rfl, xabZ h, ?_⟩⟩
  rw [xaaZ h]
  simp [hk]
theorem xg6Z : xb4Z loopOps 6 = 0 ∧ nextR loopOps 6 = [7, 8] := by decide +kernel
theorem xgyZ : xclZ loopOps 1 = 0 ∧ backR loopOps 1 = [0, 7] := by decide +kernel
def xbhZ : List (Int × Int) := [(10, 2), (13, 0), (2, 0)]
theorem xghZ : flowErr xbhZ = 0 ∧ xboZ xbhZ = [0, 2, 3] := by
  have hf : flowErr xbhZ = 0 := by decide +kernel
  refine ⟨hf, ?_⟩
  rw [xboZ, if_pos hf]
  have h0 : Come xbhZ 0 := .zero
  have h2 : Come xbhZ 2 := .step h0 (by decide +kernel)
  have h3 : Come xbhZ 3 := .step h2 (by decide +kernel)
  rw [← xfaZ (code := xbhZ) (fun x => x == 0 || x == 2 || x == 3) rfl ?_ ?_]
  · decide +kernel
  · intro x hx
    simp at hx
    rcases hx with (rfl | rfl) | rfl
    · exact h0
    · exact h2
    · exact h3
  · intro pc to hp hg
    simp at hp
    rcases hp with (rfl | rfl) | rfl
    · simp [goesOn, xbhZ] at hg; have hg2 : to = 2 ∨ to = 3 := by omega
      rcases hg2 with rfl | rfl <;> rfl
    · simp [goesOn, xbhZ] at hg; have hg2 : to = 2 ∨ to = 3 := by omega
      rcases hg2 with rfl | rfl <;> rfl
    · simp [goesOn, xbhZ] at hg
theorem xhiZ (w : World) : Calls Tryz.prog 11 #[] w fun e w' => e = .returned (.bool true) ∧ Below w.heap.size w w' := by
  have hN : ∀ (W : World) (v : Value), OpsAt W v loopOps → Calls Tryz.prog 32 #[v, .int .i64 6] W fun e w' => ∃ p n c, e = .returned (.tuple #[.slice p n c, .int .i64 0]) ∧ IntsAt w' (.slice p n c) [7, 8] ∧ Below W.heap.size W w' := by
    intro W v h
    have := xezZ loopOps 6 v W h
    rw [xg6Z.1, xg6Z.2] at this
    refine this.mono ?_
    rintro e w' ⟨u, rfl, hr, hb⟩
    obtain ⟨p, c, rfl⟩ := xahZ hr
    exact ⟨_, _, _, rfl, xaqZ rfl hr, hb⟩
  have hK : ∀ (W : World) (v : Value), OpsAt W v loopOps → Calls Tryz.prog 34 #[v, .int .i64 1] W fun e w' => ∃ p n c, e = .returned (.tuple #[.slice p n c, .int .i64 0]) ∧ IntsAt w' (.slice p n c) [0, 7] ∧ Below W.heap.size W w' := by
    intro W v h
    have := xhzZ loopOps 1 v W h
    rw [xgyZ.1, xgyZ.2] at this
    refine this.mono ?_
    rintro e w' ⟨u, rfl, hr, hb⟩
    obtain ⟨p, c, rfl⟩ := xahZ hr
    exact ⟨_, _, _, rfl, xaqZ rfl hr, hb⟩
  have hR : ∀ (W : World) (v : Value), OpsAt W v xbhZ → Calls Tryz.prog 12 #[v] W fun e w' => ∃ p n c, e = .returned (.tuple #[.slice p n c, .int .i64 0]) ∧ IntsAt w' (.slice p n c) [0, 2, 3] ∧ Below W.heap.size W w' := by
    intro W v h
    have := xdfZ xbhZ v W h
    rw [xghZ.1, xghZ.2] at this
    refine this.mono ?_
    rintro e w' ⟨u, rfl, hr, hb⟩
    obtain ⟨p, c, rfl⟩ := xahZ hr
    exact ⟨_, _, _, rfl, xaqZ rfl hr, hb⟩
  have hS : ∀ (W : World) (v u : Value) (l : List Int), IntsAt W v l → IntsAt W u l → Calls Tryz.prog 24 #[v, u] W fun e w' => e = .returned (.bool true) ∧ Below W.heap.size W w' := by
    intro W v u l h1 h2
    have := xbmZ l l v u W h1 h2
    rw [decide_eq_true rfl] at this
    exact this
  have HN := hideP hN
  have HK := hideP hK
  have HR := hideP hR
  have HS := hideP hS
  clear hN hK hR hS
  go_enter Tryz.func11, Tryz.ntmps11
  go_wp2_with fail
  refine (xftZ _).mono ?_
  rintro e w1 ⟨v1, rfl, h1, hb1⟩
  go_wp2_with fail
  refine (HN.out _ _ h1).mono ?_
  rintro e w2 ⟨p2, n2, c2, rfl, i2, hb2⟩
  have hB2 := hb1.trans (hb2.mono hb1.size)
  clear h1
  go_wp2_with fail
  have hj := World.alloc_heap_new w2 (.cells (opCells xbhZ).toArray 38)
  have hB3 := hB2.alloc hB2.size (.cells (opCells xbhZ).toArray 38)
  have hb3 := (Below.refl w2.heap.size w2).alloc (Nat.le_refl _) (.cells (opCells xbhZ).toArray 38)
  refine (HR.out (w2.alloc (.cells (opCells xbhZ).toArray 38)) _ (xdaZ (l := xbhZ) (m := []) 3 3 (by simpa using hj) rfl (by unfold maxLen; decide))).mono ?_
  rintro e w4 ⟨p4, n4, c4, rfl, i4, hb4⟩
  have i24 := (i2.below hb3).below hb4
  have hB4 := hB3.trans (hb4.mono hB3.size)
  clear hj hb3 hB3 i2
  go_wp2_with fail
  refine (xftZ _).mono ?_
  rintro e w5 ⟨v5, rfl, h5, hb5⟩
  go_wp2_with fail
  refine (HK.out _ _ h5).mono ?_
  rintro e w6 ⟨p6, n6, c6, rfl, i6, hb6⟩
  have i26 := (i24.below hb5).below hb6
  have i46 := (i4.below hb5).below hb6
  have hB6 := hB4.trans ((hb5.trans (hb6.mono hb5.size)).mono hB4.size)
  clear h5 i24 i4
  go_wp2_with fail
  have q7 := World.alloc_heap_new w6 (.cells #[.int .i64 7, .int .i64 8] 3)
  have b7 := (Below.refl w6.heap.size w6).alloc (Nat.le_refl _) (.cells #[.int .i64 7, .int .i64 8] 3)
  refine (HS.out _ _ _ [7, 8] (i26.below b7) (xamZ 2 2 q7 rfl (by unfold maxLen; decide))).mono ?_
  rintro e w8 ⟨rfl, hb8⟩
  have i48 := (i46.below b7).below hb8
  have i68 := (i6.below b7).below hb8
  have hB8 := hB6.trans ((b7.trans (hb8.mono b7.size)).mono hB6.size)
  clear q7 b7 i46 i6 i26
  go_wp2_with fail
  have q9 := World.alloc_heap_new w8 (.cells #[.int .i64 0, .int .i64 2, .int .i64 3] 3)
  have b9 := (Below.refl w8.heap.size w8).alloc (Nat.le_refl _) (.cells #[.int .i64 0, .int .i64 2, .int .i64 3] 3)
  refine (HS.out _ _ _ [0, 2, 3] (i48.below b9) (xamZ 3 3 q9 rfl (by unfold maxLen; decide))).mono ?_
  rintro e w10 ⟨rfl, hb10⟩
  have i610 := (i68.below b9).below hb10
  have hB10 := hB8.trans ((b9.trans (hb10.mono b9.size)).mono hB8.size)
  clear q9 b9 i48 i68
  go_wp2_with fail
  have q11 := World.alloc_heap_new w10 (.cells #[.int .i64 0, .int .i64 7] 3)
  have b11 := (Below.refl w10.heap.size w10).alloc (Nat.le_refl _) (.cells #[.int .i64 0, .int .i64 7] 3)
  refine (HS.out _ _ _ [0, 7] (i610.below b11) (xamZ 2 2 q11 rfl (by unfold maxLen; decide))).mono ?_
  rintro e w12 ⟨rfl, hb12⟩
  have hB12 := hB10.trans ((b11.trans (hb12.mono b11.size)).mono hB10.size)
  clear q11 b11 i610
  go_wp2
  go_ret
  exact ⟨rfl, hB12⟩
end Go.Proofs.YtgmkmlenhhhgkaaGreat


