/- My texts Jf Jg Jh Ji, joined. -/
import Derived.Test.YtjmpbnfkiikiaaaU7
/- verify's stack: take. -/
namespace Go.Proofs.Ytjmpbnfkiikiaaa
open Go.RowKit Go.Shelf
set_option linter.unusedSimpArgs false
set_option linter.unusedVariables false
attribute [local go_sem] Oper.semAt_some
/-- one type is taken from a stack. -/
def take1 (s : List Int × Bool) (t : Int) : List Int × Bool := (s.1.dropLast, s.2 || s.1.isEmpty || !standsB (topP s.1) t)
def takeP (s : List Int × Bool) (its : List (Nat × Int)) : List Int × Bool := its.foldl (fun s x => take1 s x.2) s
theorem takeP_snoc (s : List Int × Bool) (its : List (Nat × Int)) (x : Nat × Int) : takeP s (its ++ [x]) = take1 (takeP s its) x.2 := by simp [takeP]
theorem takeP_len (s : List Int × Bool) (its : List (Nat × Int)) : (takeP s its).1.length ≤ s.1.length := by
  induction its generalizing s with
  | nil => exact Nat.le_refl _
  | cons x r ih =>
    have h2 : (take1 s x.2).1.length ≤ s.1.length := by simp [take1]
    exact Nat.le_trans (ih (take1 s x.2)) h2
end Go.Proofs.Ytjmpbnfkiikiaaa
/- What verify's stack does, plainly: it is what an op leaves. -/
namespace Go.Proofs.Ytjmpbnfkiikiaaa
open Go.RowKit
set_option linter.unusedSimpArgs false
set_option linter.unusedVariables false
abbrev St := List Int × Bool
def tk (s : St) (ts : List Int) : St := takeP s (itsB ts ts.length)
def lv (s : St) (ts : List Int) : St := (s.1 ++ ts, s.2 || decide (8 < (s.1 ++ ts).length))
def popS (s : St) : St := (s.1.dropLast, s.2 || s.1.isEmpty)
theorem itsB_map (ts : List Int) : ∀ k, k ≤ ts.length → (itsB ts k).map Prod.snd = (ts.take k).reverse
  | 0, _ => rfl
  | k + 1, h => by
    obtain ⟨z, hz⟩ := at_of_lt (show k < ts.length by omega)
    rw [take_snoc ts k z hz, List.reverse_append, itsB, List.map_cons, itsB_map ts k (by omega), List.getD_eq_getElem?_getD, hz]
    rfl
theorem tk_eq (s : St) (ts : List Int) : tk s ts = ts.reverse.foldl take1 s := by
  have h := itsB_map ts ts.length (Nat.le_refl _)
  rw [List.take_length] at h
  rw [← h, List.foldl_map]
  rfl
theorem leS_snoc : ∀ {D R : List Int} {a t : Int}, D.length = R.length → leS (D ++ [a]) (R ++ [t]) = (leS D R && standsB a t)
  | [], [], a, t, _ => by simp [leS]
  | [], _ :: _, a, t, h => by simp at h
  | _ :: _, [], a, t, h => by simp at h
  | d :: D, r :: R, a, t, h => by
    simp only [List.cons_append, leS]
    rw [leS_snoc (by simpa using h), Bool.and_assoc]
/-- does a stack have what is taken? -/
def fitsS (s ts : List Int) : Bool := decide (ts.length ≤ s.length) && leS (s.drop (s.length - ts.length)) ts
theorem foldl_take : ∀ (rs : List Int) (s : List Int) (wr : Bool), rs.foldl take1 (s, wr) = (s.take (s.length - rs.length), wr || !fitsS s rs.reverse)
  | [], s, wr => by simp [fitsS, leS]
  | t :: r, s, wr => by
    rw [List.foldl_cons]
    rcases List.eq_nil_or_concat s with rfl | ⟨s', a, hs⟩
    · have e : take1 ([], wr) t = ([], true) := by simp [take1]
      rw [e, foldl_take r [] true]
      simp [fitsS]
    · rw [List.concat_eq_append] at hs
      subst hs
      have hem : (s' ++ [a]).isEmpty = false := by cases s' <;> rfl
      have e : take1 (s' ++ [a], wr) t = (s', wr || !standsB a t) := by simp only [take1, topP, hem]; simp
      rw [e, foldl_take r s' _]
      have e1 : (s' ++ [a]).length - (t :: r).length = s'.length - r.length := by simp
      have e2 : (s' ++ [a]).take (s'.length - r.length) = s'.take (s'.length - r.length) := List.take_append_of_le_length (by omega)
      rw [e1, e2]
      refine Prod.ext rfl ?_
      show (wr || !standsB a t || !fitsS s' r.reverse) = (wr || !fitsS (s' ++ [a]) (t :: r).reverse)
      have e3 : fitsS (s' ++ [a]) (t :: r).reverse = (standsB a t && fitsS s' r.reverse) := by
        unfold fitsS
        by_cases h : r.length ≤ s'.length
        · have h1 : decide ((t :: r).reverse.length ≤ (s' ++ [a]).length) = true := by simp; omega
          have h2 : decide (r.reverse.length ≤ s'.length) = true := by simpa using h
          rw [h1, h2, Bool.true_and, Bool.true_and]
          have h3 : (s' ++ [a]).drop ((s' ++ [a]).length - (t :: r).reverse.length) = s'.drop (s'.length - r.reverse.length) ++ [a] := by
            rw [show (s' ++ [a]).length - (t :: r).reverse.length = s'.length - r.reverse.length by simp]
            exact List.drop_append_of_le_length (by omega)
          rw [h3, List.reverse_cons, leS_snoc (by simp; omega), Bool.and_comm]
        · have h1 : decide ((t :: r).reverse.length ≤ (s' ++ [a]).length) = false := by simp; omega
          have h2 : decide (r.reverse.length ≤ s'.length) = false := by simp; omega
          rw [h1, h2]
          simp
      rw [e3]
      cases wr <;> cases standsB a t <;> cases fitsS s' r.reverse <;> rfl
theorem tk_spec (s ts : List Int) (wr : Bool) : tk (s, wr) ts = (s.take (s.length - ts.length), wr || !fitsS s ts) := by
  rw [tk_eq, foldl_take]
  simp
/-- what a function leaves for its caller. -/
def resL (f : Fn) : List Int := if f.2.2.1 = 0 then [] else [f.2.2.1]
/-- what 'behind' makes of a stack. -/
def bhP (p : List Fn) (f : Fn) (o : Int × Int) (s : List Int) : St :=
  if o.1 = 2 then popS (s, false)
  else if o.1 = 3 then lv (popS (s, false)) [topP s, topP s]
  else if o.1 = 4 then lv (popS (popS (s, false))) [topP s, topP s.dropLast]
  else if o.1 = 8 then lv (s, false) [f.2.1.getD o.2.toNat 0]
  else if o.1 = 9 then tk (s, false) [f.2.1.getD o.2.toNat 0]
  else if o.1 = 12 then (match p[o.2.toNat]? with | some g => lv (tk (s, false) (g.2.1.take g.1.toNat)) (resL g) | none => (s, true))
  else if o.1 = 13 then ((tk (s, false) (resL f)).1, (tk (s, false) (resL f)).2 || decide (0 < (tk (s, false) (resL f)).1.length))
  else (if (plainTL o.1).2 = [] then tk (s, false) (plainTL o.1).1 else lv (tk (s, false) (plainTL o.1).1) (plainTL o.1).2)
/-- an op that may be, of a function of a program. -/
structure OkOp (p : List Fn) (f : Fn) (o : Int × Int) : Prop where
  code : 1 ≤ o.1 ∧ o.1 ≤ 21
  loc : o.1 = 8 ∨ o.1 = 9 → 0 ≤ o.2 ∧ o.2 < (f.2.1.length : Int)
  call : o.1 = 12 → 0 ≤ o.2 ∧ o.2 < (p.length : Int)
  fns : ∀ g ∈ p, 0 ≤ g.1 ∧ g.1 ≤ (g.2.1.length : Int) ∧ g.2.1.length ≤ 6 ∧ 0 ≤ g.2.2.1
  own : f.2.1.length ≤ 6 ∧ 0 ≤ f.2.2.1
theorem tl_of {p : List Fn} {f : Fn} {o : Int × Int} {s t l : List Int} (h : takesLeaves p f o s = some (t, l)) (hs : s.length ≤ 8) : tryOp p f o s = if fitsS s t = true ∧ (s.take (s.length - t.length) ++ l).length ≤ 8 then some (s.take (s.length - t.length) ++ l) else none := by
  unfold tryOp
  rw [h]
  simp only [Option.bind_some, fitsS, Bool.and_eq_true, decide_eq_true_eq, and_assoc]
/-- the answer of one that takes, and then leaves. -/
theorem tl_lv {p : List Fn} {f : Fn} {o : Int × Int} {s t l : List Int} (h : takesLeaves p f o s = some (t, l)) (hs : s.length ≤ 8) : tryOp p f o s = if (lv (tk (s, false) t) l).2 = true then none else some (lv (tk (s, false) t) l).1 := by
  rw [tl_of h hs, tk_spec]
  simp only [lv, Bool.false_or]
  cases h1 : fitsS s t
  · simp
  · by_cases h2 : (s.take (s.length - t.length) ++ l).length ≤ 8
    · rw [if_pos ⟨rfl, h2⟩, if_neg]
      simp at h2 ⊢
      omega
    · rw [if_neg (fun h => h2 h.2), if_pos]
      simp at h2 ⊢
      omega
theorem tl_tk {p : List Fn} {f : Fn} {o : Int × Int} {s t : List Int} (h : takesLeaves p f o s = some (t, [])) (hs : s.length ≤ 8) : tryOp p f o s = if (tk (s, false) t).2 = true then none else some (tk (s, false) t).1 := by
  rw [tl_of h hs, tk_spec]
  simp only [Bool.false_or, List.append_nil]
  have h2 : (s.take (s.length - t.length)).length ≤ 8 := by simp; omega
  cases h1 : fitsS s t
  · simp
  · rw [if_pos ⟨rfl, h2⟩]; simp
theorem fits_self (s : List Int) (k : Nat) (h : k ≤ s.length) : fitsS s (s.drop (s.length - k)) = true := by
  unfold fitsS
  rw [List.length_drop, show s.length - (s.length - (s.length - k)) = s.length - k by omega, leS_refl]
  simp
theorem withLocal_id {t : Int} {l : List Int} (h : ∀ x ∈ l, x ≠ 0) : withLocal t l = l := by
  unfold withLocal
  conv => rhs; rw [← List.map_id l]
  exact List.map_congr_left fun x hx => by rw [if_neg (h x hx)]; rfl
theorem plain_nz {c : Int} (h8 : c ≠ 8) (h9 : c ≠ 9) : (∀ x ∈ (plainTL c).1, x ≠ 0) ∧ ∀ x ∈ (plainTL c).2, x ≠ 0 := by
  unfold plainTL
  repeat' split
  all_goals first | (exact absurd ‹c = 8› h8) | (exact absurd ‹c = 9› h9) | (constructor <;> intro x hx <;> simp at hx <;> omega)
theorem bh_try {p : List Fn} {f : Fn} {o : Int × Int} {s : List Int} (ho : OkOp p f o) (hs : s.length ≤ 8) : tryOp p f o s = if (bhP p f o s).2 = true then none else some (bhP p f o s).1 := by
  unfold bhP
  by_cases c2 : o.1 = 2
  · rw [if_pos c2]
    by_cases hn : s.length < 1
    · have : takesLeaves p f o s = none := by simp [takesLeaves, c2, hn]
      have hs0 : s = [] := List.eq_nil_of_length_eq_zero (by omega)
      subst hs0
      simp [tryOp, this, popS]
    · have h : takesLeaves p f o s = some (s.drop (s.length - 1), []) := by simp [takesLeaves, c2, hn]
      rw [tl_of h hs, List.length_drop, show s.length - (s.length - (s.length - 1)) = s.length - 1 by omega, if_pos ⟨fits_self s 1 (by omega), by simp; omega⟩]
      have hne : s ≠ [] := fun e => by subst e; simp at hn
      simp [popS, hne, List.dropLast_eq_take]
  rw [if_neg c2]
  by_cases c3 : o.1 = 3
  · rw [if_pos c3]
    by_cases hn : s.length < 1
    · have : takesLeaves p f o s = none := by simp [takesLeaves, c3, hn]
      have hs0 : s = [] := List.eq_nil_of_length_eq_zero (by omega)
      subst hs0
      simp [tryOp, this, popS, lv]
    · have h : takesLeaves p f o s = some (s.drop (s.length - 1), s.drop (s.length - 1) ++ s.drop (s.length - 1)) := by simp [takesLeaves, c3, hn]
      rcases List.eq_nil_or_concat s with rfl | ⟨s', a, hsa⟩
      · simp at hn
      · rw [List.concat_eq_append] at hsa
        subst hsa
        have hd : (s' ++ [a]).drop ((s' ++ [a]).length - 1) = [a] := by simp
        rw [hd] at h
        rw [tl_of h hs]
        have hf : fitsS (s' ++ [a]) [a] = true := by have := fits_self (s' ++ [a]) 1 (by simp); rw [hd] at this; exact this
        have ht : (s' ++ [a]).take ((s' ++ [a]).length - [a].length) = s' := by simp
        rw [hf, ht]
        simp only [true_and, lv, popS, topP]
        simp
        by_cases h8 : s'.length ≤ 6
        · rw [if_pos h8, if_neg (by omega)]
        · rw [if_neg h8, if_pos (by omega)]
  rw [if_neg c3]
  by_cases c4 : o.1 = 4
  · rw [if_pos c4]
    by_cases hn : s.length < 2
    · have : takesLeaves p f o s = none := by simp [takesLeaves, c4, hn]
      rcases s with _ | ⟨a, _ | ⟨b, r⟩⟩
      · simp [tryOp, this, popS, lv]
      · simp [tryOp, this, popS, lv]
      · simp at hn; omega
    · have h : takesLeaves p f o s = some (s.drop (s.length - 2), (s.drop (s.length - 2)).reverse) := by simp [takesLeaves, c4, hn]
      rcases List.eq_nil_or_concat s with rfl | ⟨s1, b, hsb⟩
      · simp at hn
      rw [List.concat_eq_append] at hsb
      subst hsb
      rcases List.eq_nil_or_concat s1 with rfl | ⟨s2, a, hsa⟩
      · simp at hn
      rw [List.concat_eq_append] at hsa
      subst hsa
      have hd : (s2 ++ [a] ++ [b]).drop ((s2 ++ [a] ++ [b]).length - 2) = [a, b] := by simp
      rw [hd] at h
      rw [tl_of h hs]
      have hf : fitsS (s2 ++ [a] ++ [b]) [a, b] = true := by have := fits_self (s2 ++ [a] ++ [b]) 2 (by simp); rw [hd] at this; exact this
      have ht : (s2 ++ [a] ++ [b]).take ((s2 ++ [a] ++ [b]).length - [a, b].length) = s2 := by simp
      rw [hf, ht]
      simp only [true_and, lv, popS, topP]
      simp at hs ⊢
      rw [if_pos (by omega), if_neg (by omega)]
  rw [if_neg c4]
  by_cases c8 : o.1 = 8
  · rw [if_pos c8]
    have h : takesLeaves p f o s = some ([], [f.2.1.getD o.2.toNat 0]) := by simp [takesLeaves, c2, c3, c4, c8, plainTL, withLocal]
    rw [tl_lv h hs, tk_spec]
    simp [fitsS, leS]
  rw [if_neg c8]
  by_cases c9 : o.1 = 9
  · rw [if_pos c9]
    have h : takesLeaves p f o s = some ([f.2.1.getD o.2.toNat 0], []) := by simp [takesLeaves, c2, c3, c4, c9, plainTL, withLocal]
    exact tl_tk h hs
  rw [if_neg c9]
  have hres : ∀ g : Fn, 0 ≤ g.2.2.1 → (if 0 < g.2.2.1 then [g.2.2.1] else []) = resL g := by
    intro g hg
    unfold resL
    by_cases h0 : g.2.2.1 = 0
    · rw [if_pos h0, if_neg (by omega)]
    · rw [if_neg h0, if_pos (by omega)]
  by_cases c12 : o.1 = 12
  · rw [if_pos c12]
    have hc := ho.call c12
    obtain ⟨g, hg⟩ := at_of_lt (l := p) (k := o.2.toNat) (by omega)
    have hgo := ho.fns g (List.mem_of_getElem? hg)
    have h : takesLeaves p f o s = some (g.2.1.take g.1.toNat, resL g) := by
      rw [← hres g hgo.2.2.2]
      simp [takesLeaves, c12, hg]
    rw [hg]
    exact tl_lv h hs
  rw [if_neg c12]
  by_cases c13 : o.1 = 13
  · rw [if_pos c13]
    have hr := hres f ho.own.2
    by_cases hl : s.length = (resL f).length
    · have h : takesLeaves p f o s = some (resL f, []) := by
        simp only [takesLeaves, c13, hr]
        simp [hl]
      rw [tl_tk h hs, tk_spec]
      simp [hl]
    · have h : tryOp p f o s = none := by
        simp only [tryOp, takesLeaves, c13, hr]
        simp [hl]
      rw [h, tk_spec]
      simp only [Bool.false_or]
      rw [if_pos]
      by_cases hle : (resL f).length ≤ s.length
      · have : decide (0 < (s.take (s.length - (resL f).length)).length) = true := by simp; omega
        rw [this, Bool.or_true]
      · have : fitsS s (resL f) = false := by simp [fitsS]; omega
        rw [this]; rfl
  rw [if_neg c13]
  have hz := plain_nz c8 c9
  have h : takesLeaves p f o s = some ((plainTL o.1).1, (plainTL o.1).2) := by
    simp only [takesLeaves, if_neg c2, if_neg c3, if_neg c4, if_neg c12, if_neg c13]
    rw [withLocal_id hz.1, withLocal_id hz.2]
  by_cases hl : (plainTL o.1).2 = []
  · rw [if_pos hl]
    rw [hl] at h
    exact tl_tk h hs
  · rw [if_neg hl]
    exact tl_lv h hs
end Go.Proofs.Ytjmpbnfkiikiaaa
/- verify's stack: turn, call, do. -/
namespace Go.Proofs.Ytjmpbnfkiikiaaa
open Go.RowKit
set_option linter.unusedSimpArgs false
set_option linter.unusedVariables false
theorem tk_len (s : St) (ts : List Int) : (tk s ts).1.length ≤ s.1.length := takeP_len s _
theorem popS_len (s : St) : (popS s).1.length ≤ s.1.length := by simp [popS]
/-- what 'do' makes of a stack. -/
def doS (s : St) (c : Int) : St := if (plainTL c).2 = [] then tk s (plainTL c).1 else lv (tk s (plainTL c).1) (plainTL c).2
theorem tk_nil (s : St) : tk s [] = s := rfl
end Go.Proofs.Ytjmpbnfkiikiaaa
/- verify's stack: call; verify.behind. -/
namespace Go.Proofs.Ytjmpbnfkiikiaaa
open Go.RowKit
set_option linter.unusedSimpArgs false
set_option linter.unusedVariables false
theorem ints_take {w : World} {p : Option Addr} {q k : Nat} {L : List Int} (h : IntsAt w (.slice p L.length q) L) (hk : k ≤ L.length) : IntsAt w (.slice p k q) (L.take k) := by
  obtain ⟨p', q', he, hm, hc⟩ := h
  cases he
  refine ⟨p, q, by rw [List.length_take, Nat.min_eq_left hk], by rw [List.length_take]; omega, fun j z hj => ?_⟩
  have hj2 : j < k := by have := lt_of_at hj; rw [List.length_take] at this; omega
  rw [List.getElem?_take_of_lt hj2] at hj
  exact hc j z hj
end Go.Proofs.Ytjmpbnfkiikiaaa
