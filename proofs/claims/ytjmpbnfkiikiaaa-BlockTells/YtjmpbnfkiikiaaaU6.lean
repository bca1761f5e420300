/- My texts Ff Pj Pv Ja Jb Jc, joined. -/
import Derived.Laws.EntriesVeiled
import Derived.Deep.RegionLaw
import Derived.BigQuiet
import Derived.Test.YtjmpbnfkiikiaaaU2
import Derived.Test.YtjmpbnfkiikiaaaU3
import Derived.Test.YtjmpbnfkiikiaaaU4
import Derived.Test.YtjmpbnfkiikiaaaU5
/- flow.Reach. -/
namespace Go.Proofs.Ytjmpbnfkiikiaaa
open Go.RowKit
set_option linter.unusedSimpArgs false
set_option linter.unusedVariables false
noncomputable def reachR (l : List (Int × Int)) : List Int := if flowErr l = 0 then (reachL l).map Int.ofNat else []
theorem infoBool : (Try.prog.info? 4).map (fun i => (i.zero, i.size, i.bytes)) = some (some (.bool false), 1, 1) := by kernel_rfl
theorem made_bools (n : Nat) : (madeCells (Value.bool false).cells (n * 1)).toList = (List.replicate n false).map Value.bool := by
  have h : (Value.bool false).cells = #[.bool false] := rfl
  rw [h]
  apply List.ext_getElem?
  intro k
  by_cases hk : k < n
  · simp [madeCells, hk, Nat.mod_one]
  · simp [madeCells, hk]
theorem grew_reach {l : List (Int × Int)} {M : List Bool} (h : Grew l (List.replicate (l.length + 1) false) M) (h0 : M.getD 0 false = true) : placesL (fun pc => M.getD pc false) M.length = (reachL l).map Int.ofNat := by
  have hn : ∀ x, (List.replicate (l.length + 1) false).getD x false = false := by
    intro x
    rw [List.getD_eq_getElem?_getD, List.getElem?_replicate]
    split <;> rfl
  have hlen : M.length = l.length + 1 := by rw [h.len]; simp
  rw [hlen]
  unfold placesL
  rw [reachL_eq (code := l) (fun pc => M.getD pc false) h0 (fun x hx => ?_) (fun pc to hp hg => h.shut pc to hp (hn pc) hg)]
  rcases h.come x hx with h1 | h1
  · rw [hn] at h1; cases h1
  · exact h1
theorem row_full {w : World} {base : Nat} {e : TypeId} {R n : Nat} {xs : List Value} (h : w.ownsRow base e 1 (.slice (some ⟨R, 0, none⟩) n n) n xs) (hx : xs.length = n) : w.heap[R]? = some (.cells xs.toArray e (0, 0)) := by
  rcases h.2 with ⟨h1, _⟩ | ⟨g, cap, cur, hv, hb, hg, hn, hc, hs, ht⟩
  · cases h1
  · cases hv
    rw [hg]
    have : cur.toList = xs := by rw [← ht, List.take_of_length_le (by simp; omega)]
    rw [← this]
end Go.Proofs.Ytjmpbnfkiikiaaa
/- Plain functions on types that stand for others (chapter 4), ahead of stage 2: Join, and its laws. -/
namespace Go.Proofs.Ytjmpbnfkiikiaaa
open Go.RowKit
set_option linter.unusedSimpArgs false
set_option linter.unusedVariables false
/-- does a type stand for another one? -/
def standsB (t other : Int) : Bool := decide (t = other) || (decide (t = 3) && decide (other = 2))
/-- the narrowest one that both stand for. -/
def joinT (a b : Int) : Option Int := if a = b then some a else if (a = 2 ∧ b = 3) ∨ (a = 3 ∧ b = 2) then some 2 else none
def joinL : List Int → List Int → Option (List Int)
  | [], [] => some []
  | a :: r, b :: q => (joinT a b).bind fun t => (joinL r q).map fun l => t :: l
  | _, _ => none
def isType (t : Int) : Bool := decide (1 ≤ t) && decide (t ≤ 3)
def joinErr (a b : List Int) : Int := if (a ++ b).any (fun t => !isType t) = true then 6 else if 8 < a.length ∨ 8 < b.length then 2 else if (joinL a b).isNone = true then 4 else 0
theorem joinT_comm (a b : Int) : joinT a b = joinT b a := by
  unfold joinT
  by_cases h : a = b
  · subst h; rfl
  · rw [if_neg h, if_neg (show ¬ b = a from fun e => h e.symm)]
    by_cases h2 : (a = 2 ∧ b = 3) ∨ (a = 3 ∧ b = 2)
    · rw [if_pos h2, if_pos (by omega)]
    · rw [if_neg h2, if_neg (by omega)]
theorem joinT_same (a : Int) : joinT a a = some a := by simp [joinT]
theorem joinT_stands {a b t : Int} (h : joinT a b = some t) : standsB a t = true ∧ standsB b t = true := by
  unfold joinT at h
  by_cases h1 : a = b
  · rw [if_pos h1] at h; cases h; subst h1; simp [standsB]
  · rw [if_neg h1] at h
    by_cases h2 : (a = 2 ∧ b = 3) ∨ (a = 3 ∧ b = 2)
    · rw [if_pos h2] at h; cases h
      rcases h2 with ⟨rfl, rfl⟩ | ⟨rfl, rfl⟩ <;> decide
    · rw [if_neg h2] at h; cases h
theorem joinT_assoc (a b c : Int) : ((joinT a b).bind fun x => joinT x c) = (joinT b c).bind fun r => joinT a r := by
  by_cases h1 : a = b
  · subst h1
    rw [joinT_same]
    by_cases h2 : a = c
    · subst h2; simp [joinT_same]
    · unfold joinT
      by_cases h3 : (a = 2 ∧ c = 3) ∨ (a = 3 ∧ c = 2)
      · rcases h3 with ⟨rfl, rfl⟩ | ⟨rfl, rfl⟩ <;> decide
      · simp [h2, h3]
  · by_cases h2 : (a = 2 ∧ b = 3) ∨ (a = 3 ∧ b = 2)
    · have e : joinT a b = some 2 := by unfold joinT; rw [if_neg h1, if_pos h2]
      rw [e]
      by_cases hc2 : c = 2
      · subst hc2
        rcases h2 with ⟨rfl, rfl⟩ | ⟨rfl, rfl⟩ <;> decide
      · by_cases hc3 : c = 3
        · subst hc3
          rcases h2 with ⟨rfl, rfl⟩ | ⟨rfl, rfl⟩ <;> decide
        · have e1 : joinT 2 c = none := by unfold joinT; rw [if_neg (fun e => hc2 e.symm), if_neg (by omega)]
          have e2 : joinT 3 c = none := by unfold joinT; rw [if_neg (fun e => hc3 e.symm), if_neg (by omega)]
          rcases h2 with ⟨rfl, rfl⟩ | ⟨rfl, rfl⟩ <;> simp [e1, e2]
    · have e : joinT a b = none := by unfold joinT; rw [if_neg h1, if_neg h2]
      rw [e]
      cases hbc : joinT b c with
      | none => rfl
      | some r =>
        simp only [Option.bind_none, Option.bind_some]
        unfold joinT at hbc
        by_cases h3 : b = c
        · rw [if_pos h3] at hbc; cases hbc; exact e.symm
        · rw [if_neg h3] at hbc
          by_cases h4 : (b = 2 ∧ c = 3) ∨ (b = 3 ∧ c = 2)
          · rw [if_pos h4] at hbc; cases hbc
            unfold joinT
            rw [if_neg (by omega), if_neg (by omega)]
          · rw [if_neg h4] at hbc; cases hbc
theorem joinL_comm : ∀ a b : List Int, joinL a b = joinL b a
  | [], [] => rfl
  | [], _ :: _ => rfl
  | _ :: _, [] => rfl
  | a :: r, b :: q => by simp only [joinL]; rw [joinT_comm a b, joinL_comm r q]
theorem joinL_same : ∀ a : List Int, joinL a a = some a
  | [] => rfl
  | a :: r => by simp only [joinL]; rw [joinT_same, joinL_same r]; rfl
theorem joinL_length : ∀ (a b l : List Int), joinL a b = some l → l.length = a.length ∧ a.length = b.length
  | [], [], l, h => by cases h; exact ⟨rfl, rfl⟩
  | [], _ :: _, l, h => by cases h
  | _ :: _, [], l, h => by cases h
  | a :: r, b :: q, l, h => by
    simp only [joinL] at h
    obtain ⟨t, ht, h2⟩ := Option.bind_eq_some_iff.1 h
    obtain ⟨l', hl', rfl⟩ := Option.map_eq_some_iff.1 h2
    obtain ⟨h3, h4⟩ := joinL_length r q l' hl'
    simp [h3, h4]
theorem joinL_assoc : ∀ a b c : List Int, ((joinL a b).bind fun x => joinL x c) = (joinL b c).bind fun r => joinL a r
  | [], [], [] => rfl
  | [], [], _ :: _ => rfl
  | [], _ :: _, [] => rfl
  | [], b :: q, c :: s => by
    show none = _
    cases h : joinL (b :: q) (c :: s) with
    | none => rfl
    | some l =>
      have := (joinL_length _ _ _ h).1
      cases l with
      | nil => simp at this
      | cons _ _ => rfl
  | _ :: _, [], [] => rfl
  | _ :: _, [], _ :: _ => rfl
  | a :: r, b :: q, [] => by
    show _ = none
    cases h : joinL (a :: r) (b :: q) with
    | none => rfl
    | some l =>
      have := (joinL_length _ _ _ h).1
      cases l with
      | nil => simp at this
      | cons _ _ => rfl
  | a :: r, b :: q, c :: s => by
    have h1 := joinT_assoc a b c
    have h2 := joinL_assoc r q s
    simp only [joinL]
    cases e1 : joinT a b with
    | none =>
      rw [e1] at h1
      simp only [Option.bind_none] at h1 ⊢
      cases e2 : joinT b c with
      | none => rfl
      | some y =>
        rw [e2] at h1
        simp only [Option.bind_some] at h1
        cases e3 : joinL q s with
        | none => rfl
        | some m => simp [joinL, ← h1]
    | some x =>
      rw [e1] at h1
      simp only [Option.bind_some] at h1
      cases e4 : joinL r q with
      | none =>
        rw [e4] at h2
        simp only [Option.bind_none, Option.map_none, Option.bind_some] at h2 ⊢
        cases e2 : joinT b c with
        | none => rfl
        | some y =>
          cases e3 : joinL q s with
          | none => rfl
          | some m =>
            rw [e3] at h2
            simp only [Option.bind_some] at h2
            simp [joinL, ← h2]
      | some l =>
        rw [e4] at h2
        simp only [Option.bind_some, Option.map_some, joinL] at h2 ⊢
        rw [h1]
        cases e2 : joinT b c with
        | none => rfl
        | some y =>
          cases e3 : joinL q s with
          | none =>
            rw [e3] at h2
            simp only [Option.bind_none] at h2
            rw [h2]
            simp
          | some m =>
            rw [e3] at h2
            simp only [Option.bind_some] at h2
            simp [joinL, h2]
end Go.Proofs.Ytjmpbnfkiikiaaa
/- Plain functions on code that fits (chapter 4), ahead of stage 2: what an op leaves of a stack, and the least entries. -/
namespace Go.Proofs.Ytjmpbnfkiikiaaa
open Go.RowKit
set_option linter.unusedSimpArgs false
set_option linter.unusedVariables false
/-- does each type of a stack stand for the one of another stack? -/
def leS : List Int → List Int → Bool
  | [], [] => true
  | a :: r, b :: q => standsB a b && leS r q
  | _, _ => false
theorem standsB_refl (a : Int) : standsB a a = true := by simp [standsB]
theorem standsB_trans {a b c : Int} (h : standsB a b = true) (k : standsB b c = true) : standsB a c = true := by
  simp [standsB] at h k ⊢
  omega
theorem standsB_anti {a b : Int} (h : standsB a b = true) (k : standsB b a = true) : a = b := by
  simp [standsB] at h k
  omega
theorem leS_refl : ∀ s, leS s s = true
  | [] => rfl
  | a :: r => by simp [leS, standsB_refl, leS_refl r]
theorem leS_length : ∀ {s t : List Int}, leS s t = true → s.length = t.length
  | [], [], _ => rfl
  | [], _ :: _, h => by simp [leS] at h
  | _ :: _, [], h => by simp [leS] at h
  | a :: r, b :: q, h => by simp [leS] at h; simp [leS_length h.2]
theorem leS_trans : ∀ {s t u : List Int}, leS s t = true → leS t u = true → leS s u = true
  | [], [], [], _, _ => rfl
  | [], _ :: _, _, h, _ => by simp [leS] at h
  | _ :: _, [], _, h, _ => by simp [leS] at h
  | [], [], _ :: _, _, h => by simp [leS] at h
  | _ :: _, _ :: _, [], _, h => by simp [leS] at h
  | a :: r, b :: q, c :: v, h, k => by
    simp [leS] at h k ⊢
    exact ⟨standsB_trans h.1 k.1, leS_trans h.2 k.2⟩
theorem leS_anti : ∀ {s t : List Int}, leS s t = true → leS t s = true → s = t
  | [], [], _, _ => rfl
  | [], _ :: _, h, _ => by simp [leS] at h
  | _ :: _, [], h, _ => by simp [leS] at h
  | a :: r, b :: q, h, k => by
    simp [leS] at h k
    rw [standsB_anti h.1 k.1, leS_anti h.2 k.2]
theorem leS_append : ∀ {s t u v : List Int}, leS s t = true → leS u v = true → leS (s ++ u) (t ++ v) = true
  | [], [], _, _, _, k => k
  | [], _ :: _, _, _, h, _ => by simp [leS] at h
  | _ :: _, [], _, _, h, _ => by simp [leS] at h
  | a :: r, b :: q, u, v, h, k => by
    simp [leS] at h ⊢
    exact ⟨h.1, leS_append h.2 k⟩
theorem leS_drop : ∀ (n : Nat) {s t : List Int}, leS s t = true → leS (s.drop n) (t.drop n) = true
  | 0, _, _, h => h
  | n + 1, [], [], _ => rfl
  | n + 1, [], _ :: _, h => by simp [leS] at h
  | n + 1, _ :: _, [], h => by simp [leS] at h
  | n + 1, a :: r, b :: q, h => by simp [leS] at h; exact leS_drop n h.2
theorem leS_take : ∀ (n : Nat) {s t : List Int}, leS s t = true → leS (s.take n) (t.take n) = true
  | 0, _, _, _ => rfl
  | n + 1, [], [], _ => rfl
  | n + 1, [], _ :: _, h => by simp [leS] at h
  | n + 1, _ :: _, [], h => by simp [leS] at h
  | n + 1, a :: r, b :: q, h => by simp [leS] at h ⊢; exact ⟨h.1, leS_take n h.2⟩
theorem leS_reverse {s t : List Int} (h : leS s t = true) : leS s.reverse t.reverse = true := by
  induction s generalizing t with
  | nil => cases t with
    | nil => rfl
    | cons _ _ => simp [leS] at h
  | cons a r ih => cases t with
    | nil => simp [leS] at h
    | cons b q =>
      simp [leS] at h
      rw [List.reverse_cons, List.reverse_cons]
      exact leS_append (ih h.2) (by simp [leS, h.1])
/-- what both stand for, their join stands for. -/
theorem joinT_le {a b c : Int} (h : standsB a c = true) (k : standsB b c = true) : ∃ t, joinT a b = some t ∧ standsB t c = true := by
  by_cases h1 : a = b
  · subst h1; exact ⟨a, joinT_same a, h⟩
  · simp [standsB] at h k
    refine ⟨2, ?_, by simp [standsB]; omega⟩
    unfold joinT
    rw [if_neg h1, if_pos (by omega)]
theorem joinL_le : ∀ {a b c : List Int}, leS a c = true → leS b c = true → ∃ l, joinL a b = some l ∧ leS l c = true
  | [], [], [], _, _ => ⟨[], rfl, rfl⟩
  | [], [], _ :: _, h, _ => by simp [leS] at h
  | [], _ :: _, [], _, k => by simp [leS] at k
  | [], _ :: _, _ :: _, h, _ => by simp [leS] at h
  | _ :: _, _, [], h, _ => by simp [leS] at h
  | _ :: _, [], _ :: _, _, k => by simp [leS] at k
  | a :: r, b :: q, c :: v, h, k => by
    simp [leS] at h k
    obtain ⟨t, h1, h2⟩ := joinT_le h.1 k.1
    obtain ⟨l, h3, h4⟩ := joinL_le h.2 k.2
    exact ⟨t :: l, by simp [joinL, h1, h3], by simp [leS, h2, h4]⟩
theorem joinL_stands : ∀ {a b l : List Int}, joinL a b = some l → leS a l = true ∧ leS b l = true
  | [], [], l, h => by cases h; exact ⟨rfl, rfl⟩
  | [], _ :: _, l, h => by cases h
  | _ :: _, [], l, h => by cases h
  | a :: r, b :: q, l, h => by
    simp only [joinL] at h
    obtain ⟨t, ht, h2⟩ := Option.bind_eq_some_iff.1 h
    obtain ⟨l', hl', rfl⟩ := Option.map_eq_some_iff.1 h2
    obtain ⟨h3, h4⟩ := joinL_stands hl'
    obtain ⟨h5, h6⟩ := joinT_stands ht
    simp [leS, h3, h4, h5, h6]
/-- takes and leaves of a plain op; 0: the local's type. -/
def plainTL (c : Int) : List Int × List Int :=
  if c = 1 ∨ c = 21 then ([], [1]) else if c = 5 ∨ c = 6 ∨ c = 7 then ([1, 1], [1]) else if c = 8 then ([], [0]) else if c = 9 then ([0], []) else if c = 11 ∨ c = 20 then ([1], []) else if c = 14 then ([1], [2]) else if c = 15 then ([2, 1], [1]) else if c = 16 then ([2, 1, 1], []) else if c = 17 ∨ c = 19 then ([2], [1]) else if c = 18 then ([], [3]) else ([], [])
def withLocal (t : Int) (l : List Int) : List Int := l.map fun x => if x = 0 then t else x
/-- what an op takes and leaves, with this stack. -/
def takesLeaves (p : List Fn) (f : Fn) (o : Int × Int) (s : List Int) : Option (List Int × List Int) :=
  if o.1 = 2 then (if s.length < 1 then none else some (s.drop (s.length - 1), []))
  else if o.1 = 3 then (if s.length < 1 then none else some (s.drop (s.length - 1), s.drop (s.length - 1) ++ s.drop (s.length - 1)))
  else if o.1 = 4 then (if s.length < 2 then none else some (s.drop (s.length - 2), (s.drop (s.length - 2)).reverse))
  else if o.1 = 12 then ((p[o.2.toNat]?).map fun g => (g.2.1.take g.1.toNat, if 0 < g.2.2.1 then [g.2.2.1] else []))
  else if o.1 = 13 then (if s.length = (if 0 < f.2.2.1 then [f.2.2.1] else []).length then some (if 0 < f.2.2.1 then [f.2.2.1] else [], []) else none)
  else some (withLocal (f.2.1.getD o.2.toNat 0) (plainTL o.1).1, withLocal (f.2.1.getD o.2.toNat 0) (plainTL o.1).2)
def tryOp (p : List Fn) (f : Fn) (o : Int × Int) (s : List Int) : Option (List Int) :=
  (takesLeaves p f o s).bind fun tl => if tl.1.length ≤ s.length ∧ leS (s.drop (s.length - tl.1.length)) tl.1 = true ∧ (s.take (s.length - tl.1.length) ++ tl.2).length ≤ 8 then some (s.take (s.length - tl.1.length) ++ tl.2) else none
/-- takes: equal or its own; leaves: no more than. -/
theorem takesLeaves_mono {p : List Fn} {f : Fn} {o : Int × Int} {s s' t l : List Int} (hs : leS s s' = true) (h : takesLeaves p f o s' = some (t, l)) :
    ∃ t1 l1, takesLeaves p f o s = some (t1, l1) ∧ t1.length = t.length ∧ leS l1 l = true ∧ (leS (s'.drop (s'.length - t.length)) t = true → leS (s.drop (s.length - t.length)) t1 = true) := by
  have hl := leS_length hs
  have hd := fun n => leS_drop n hs
  unfold takesLeaves at h ⊢
  by_cases c2 : o.1 = 2
  · rw [if_pos c2] at h ⊢
    rw [hl]
    by_cases hn : s'.length < 1
    · rw [if_pos hn] at h; cases h
    · rw [if_neg hn] at h ⊢
      cases h
      refine ⟨_, _, rfl, by simp [hl], rfl, fun _ => ?_⟩
      rw [List.length_drop, show s'.length - (s'.length - (s'.length - 1)) = s'.length - 1 by omega]
      exact leS_refl _
  rw [if_neg c2] at h ⊢
  by_cases c3 : o.1 = 3
  · rw [if_pos c3] at h ⊢
    rw [hl]
    by_cases hn : s'.length < 1
    · rw [if_pos hn] at h; cases h
    · rw [if_neg hn] at h ⊢
      cases h
      refine ⟨_, _, rfl, by simp [hl], leS_append (hd _) (hd _), fun _ => ?_⟩
      rw [List.length_drop, show s'.length - (s'.length - (s'.length - 1)) = s'.length - 1 by omega]
      exact leS_refl _
  rw [if_neg c3] at h ⊢
  by_cases c4 : o.1 = 4
  · rw [if_pos c4] at h ⊢
    rw [hl]
    by_cases hn : s'.length < 2
    · rw [if_pos hn] at h; cases h
    · rw [if_neg hn] at h ⊢
      cases h
      refine ⟨_, _, rfl, by simp [hl], leS_reverse (hd _), fun _ => ?_⟩
      rw [List.length_drop, show s'.length - (s'.length - (s'.length - 2)) = s'.length - 2 by omega]
      exact leS_refl _
  rw [if_neg c4] at h ⊢
  have hsame : leS (s'.drop (s'.length - t.length)) t = true → leS (s.drop (s.length - t.length)) t = true := fun k => by
    rw [hl]; exact leS_trans (hd _) k
  by_cases c12 : o.1 = 12
  · rw [if_pos c12] at h ⊢
    exact ⟨t, l, h, rfl, leS_refl _, hsame⟩
  rw [if_neg c12] at h ⊢
  by_cases c13 : o.1 = 13
  · rw [if_pos c13] at h ⊢
    rw [hl]
    exact ⟨t, l, h, rfl, leS_refl _, by rw [hl] at hsame; exact hsame⟩
  · rw [if_neg c13] at h ⊢
    exact ⟨t, l, h, rfl, leS_refl _, hsame⟩
theorem tryOp_mono {p : List Fn} {f : Fn} {o : Int × Int} {s s' out' : List Int} (hs : leS s s' = true) (h : tryOp p f o s' = some out') : ∃ out, tryOp p f o s = some out ∧ leS out out' = true := by
  unfold tryOp at h ⊢
  obtain ⟨⟨t, l⟩, h1, h2⟩ := Option.bind_eq_some_iff.1 h
  obtain ⟨t1, l1, k1, k2, k3, k4⟩ := takesLeaves_mono hs h1
  have hl := leS_length hs
  simp only at h2
  by_cases hc : t.length ≤ s'.length ∧ leS (s'.drop (s'.length - t.length)) t = true ∧ (s'.take (s'.length - t.length) ++ l).length ≤ 8
  · rw [if_pos hc] at h2
    cases h2
    have hout : leS (s.take (s.length - t1.length) ++ l1) (s'.take (s'.length - t.length) ++ l) = true := by
      rw [k2, hl]; exact leS_append (leS_take _ hs) k3
    refine ⟨s.take (s.length - t1.length) ++ l1, ?_, hout⟩
    rw [k1]
    simp only [Option.bind_some]
    rw [if_pos]
    refine ⟨by omega, ?_, ?_⟩
    · rw [k2]; exact k4 hc.2.1
    · rw [leS_length hout]; exact hc.2.2
  · rw [if_neg hc] at h2; cases h2
/-- entries that fit: 'at' has a stack for each place that is come to. -/
structure FitsBy (p : List Fn) (f : Fn) (e : Nat → Option (List Int)) : Prop where
  first : e 0 = some []
  on : ∀ pc s, e pc = some s → ∃ o out, f.2.2.2[pc]? = some o ∧ tryOp p f o s = some out ∧ ∀ to, goesOn f.2.2.2 pc to = true → to < f.2.2.2.length ∧ ∃ s', e to = some s' ∧ leS out s' = true
def leE (e e' : Nat → Option (List Int)) : Prop := ∀ pc s, e pc = some s → ∃ s', e' pc = some s' ∧ leS s s' = true
theorem leE_anti {e e' : Nat → Option (List Int)} (h : leE e e') (k : leE e' e) : e = e' := by
  funext pc
  cases h1 : e pc with
  | none =>
    cases h2 : e' pc with
    | none => rfl
    | some s => obtain ⟨_, h3, _⟩ := k pc s h2; rw [h1] at h3; cases h3
  | some s =>
    obtain ⟨s', h2, h3⟩ := h pc s h1
    obtain ⟨s'', h4, h5⟩ := k pc s' h2
    rw [h1] at h4; cases h4
    rw [h2, leS_anti h3 h5]
/-- one step of any way to reckon entries: below all that fit it stays below; where it fails none fit. -/
theorem step_below {p : List Fn} {f : Fn} {e e' : Nat → Option (List Int)} (hf : FitsBy p f e') (hle : leE e e') {pc : Nat} {s : List Int} (hs : e pc = some s) : ∃ o out, f.2.2.2[pc]? = some o ∧ tryOp p f o s = some out ∧ ∀ to, goesOn f.2.2.2 pc to = true → to < f.2.2.2.length ∧ ∃ s', e' to = some s' ∧ leS out s' = true ∧ ∀ s1, e to = some s1 → ∃ j, joinL s1 out = some j ∧ leS j s' = true := by
  obtain ⟨s', h1, h2⟩ := hle pc s hs
  obtain ⟨o, out', h3, h4, h5⟩ := hf.on pc s' h1
  obtain ⟨out, h6, h7⟩ := tryOp_mono h2 h4
  refine ⟨o, out, h3, h6, fun to hto => ?_⟩
  obtain ⟨h8, s2, h9, h10⟩ := h5 to hto
  refine ⟨h8, s2, h9, leS_trans h7 h10, fun s1 hs1 => ?_⟩
  obtain ⟨s3, h11, h12⟩ := hle to s1 hs1
  rw [h9] at h11; cases h11
  exact joinL_le h12 (leS_trans h7 h10)
/-- what fits has an entry for each place that may be come to. -/
theorem fits_come {p : List Fn} {f : Fn} {e : Nat → Option (List Int)} (hf : FitsBy p f e) {x : Nat} (h : Come f.2.2.2 x) : ∃ s, e x = some s := by
  induction h with
  | zero => exact ⟨_, hf.first⟩
  | step _ h2 ih =>
    obtain ⟨s, hs⟩ := ih
    obtain ⟨_, _, _, _, h⟩ := hf.on _ _ hs
    obtain ⟨_, s', h3, _⟩ := h _ h2
    exact ⟨s', h3⟩
/-- what Func should tell of entries: the least that fit, or that none do. -/
def Least (p : List Fn) (f : Fn) (r : Option (Nat → Option (List Int))) : Prop :=
  match r with
  | none => ∀ e, ¬ FitsBy p f e
  | some e => FitsBy p f e ∧ ∀ e', FitsBy p f e' → leE e e'
theorem least_one {p : List Fn} {f : Fn} {r q : Option (Nat → Option (List Int))} (h : Least p f r) (k : Least p f q) : r = q := by
  cases r with
  | none => cases q with
    | none => rfl
    | some e => exact absurd k.1 (h e)
  | some e => cases q with
    | none => exact absurd h.1 (k e)
    | some e' => rw [leE_anti (h.2 _ k.1) (k.2 _ h.1)]
end Go.Proofs.Ytjmpbnfkiikiaaa
/- verify: standsFor, joinType, Join. -/
namespace Go.Proofs.Ytjmpbnfkiikiaaa
open Go.RowKit
set_option linter.unusedSimpArgs false
set_option linter.unusedVariables false
/-- joinType. -/
def jt (a b : Int) : Int := if standsB a b = true then b else if standsB b a = true then a else 0
theorem jt_none {a b : Int} (ha : isType a = true) (hb : isType b = true) : jt a b = 0 ↔ joinT a b = none := by
  simp only [isType, Bool.and_eq_true, decide_eq_true_eq] at ha hb
  unfold jt joinT standsB
  by_cases h : a = b
  · subst h; simp; omega
  · by_cases h1 : a = 3 ∧ b = 2
    · obtain ⟨rfl, rfl⟩ := h1; simp
    · by_cases h2 : a = 2 ∧ b = 3
      · obtain ⟨rfl, rfl⟩ := h2; simp
      · have e1 : (decide (a = b) || decide (a = 3) && decide (b = 2)) = false := by simp [h]; omega
        have e2 : (decide (b = a) || decide (b = 3) && decide (a = 2)) = false := by simp [fun e : b = a => h e.symm]; omega
        rw [e1, e2]
        simp [h]
        omega
theorem jt_some {a b t : Int} (h : joinT a b = some t) : jt a b = t := by
  unfold joinT at h
  by_cases h1 : a = b
  · rw [if_pos h1] at h; cases h; subst h1; simp [jt, standsB]
  · rw [if_neg h1] at h
    split at h
    · rename_i h2
      cases h
      rcases h2 with ⟨rfl, rfl⟩ | ⟨rfl, rfl⟩ <;> simp [jt, standsB]
    · cases h
theorem jt_list : ∀ {a b l : List Int}, joinL a b = some l → List.zipWith jt a b = l
  | [], [], l, h => by cases h; rfl
  | [], _ :: _, l, h => by cases h
  | _ :: _, [], l, h => by cases h
  | a :: r, b :: q, l, h => by
    simp only [joinL] at h
    obtain ⟨t, ht, h2⟩ := Option.bind_eq_some_iff.1 h
    obtain ⟨l', hl', rfl⟩ := Option.map_eq_some_iff.1 h2
    simp [jt_some ht, jt_list hl']
theorem jt_zero : ∀ {a b : List Int}, a.length = b.length → (∀ x ∈ a, isType x = true) → (∀ x ∈ b, isType x = true) → ((0 : Int) ∈ List.zipWith jt a b ↔ joinL a b = none)
  | [], [], _, _, _ => by simp [joinL]
  | [], _ :: _, h, _, _ => by simp at h
  | _ :: _, [], h, _, _ => by simp at h
  | a :: r, b :: q, h, ha, hb => by
    have ih := jt_zero (a := r) (b := q) (by simpa using h) (fun x hx => ha x (by simp [hx])) (fun x hx => hb x (by simp [hx]))
    have h1 := jt_none (ha a (by simp)) (hb b (by simp))
    simp only [List.zipWith_cons_cons, List.mem_cons, ih, joinL]
    cases e : joinT a b with
    | none => simp [h1.2 e]
    | some t =>
      have hne : ¬ 0 = jt a b := fun h0 => by have := h1.1 h0.symm; rw [e] at this; cases this
      simp [hne]
/-- numbers so far, then noughts. -/
def upTo (l : List Int) (k : Nat) : List Int := l.take k ++ List.replicate (l.length - k) 0
theorem upTo_set {l : List Int} {k : Nat} {x : Int} (h : l[k]? = some x) : (upTo l k).set k x = upTo l (k + 1) := by
  have hk := lt_of_at h
  apply List.ext_getElem?
  intro i
  rw [List.getElem?_set]
  have hlen : (upTo l k).length = l.length := by simp [upTo]; omega
  by_cases e : k = i
  · subst e
    rw [if_pos rfl, if_pos (by omega)]
    unfold upTo
    rw [List.getElem?_append_left (by simp; omega), List.getElem?_take_of_lt (by omega), h]
  · rw [if_neg e]
    unfold upTo
    by_cases hi : i < k
    · rw [List.getElem?_append_left (by simp; omega), List.getElem?_append_left (by simp; omega), List.getElem?_take_of_lt hi, List.getElem?_take_of_lt (by omega)]
    · rw [List.getElem?_append_right (by simp; omega), List.getElem?_append_right (by simp; omega)]
      simp only [List.getElem?_replicate, List.length_take]
      rw [Nat.min_eq_left (by omega), Nat.min_eq_left (by omega)]
      by_cases hl : i < l.length
      · rw [if_pos (by omega), if_pos (by omega)]
      · rw [if_neg (by omega), if_neg (by omega)]
theorem upTo_all (l : List Int) : upTo l l.length = l := by simp [upTo]
theorem upTo_none (l : List Int) : upTo l 0 = List.replicate l.length 0 := by simp [upTo]
theorem set_ints (l : List Int) (k : Nat) (x : Int) : (l.map (Value.int .i64)).toArray.setIfInBounds k (.int .i64 x) = ((l.set k x).map (Value.int .i64)).toArray := by
  apply Array.ext'
  simp
theorem made_ints (n : Nat) : (madeCells (Value.int .i64 0).cells (n * 1)).toList = (List.replicate n (0 : Int)).map (Value.int .i64) := by
  have h : (Value.int .i64 0).cells = #[.int .i64 0] := rfl
  rw [h]
  apply List.ext_getElem?
  intro k
  by_cases hk : k < n
  · simp [madeCells, hk, Nat.mod_one]
  · simp [madeCells, hk]
end Go.Proofs.Ytjmpbnfkiikiaaa
/- verify.Join. -/
namespace Go.Proofs.Ytjmpbnfkiikiaaa
open Go.RowKit
set_option linter.unusedSimpArgs false
set_option linter.unusedVariables false
def joinR (a b : List Int) : List Int := if joinErr a b = 0 then (joinL a b).getD [] else []
theorem joinErr_kind {a b : List Int} (h : (a.all isType && b.all isType) = false) : joinErr a b = 6 := by
  unfold joinErr
  rw [if_pos]
  rw [List.any_append, Bool.or_eq_true]
  rcases Bool.and_eq_false_iff.1 h with h | h
  · left; rw [← List.not_all_eq_any_not, h]; rfl
  · right; rw [← List.not_all_eq_any_not, h]; rfl
theorem joinErr_many {a b : List Int} (ha : a.all isType = true) (hb : b.all isType = true) (h : 8 < a.length ∨ 8 < b.length) : joinErr a b = 2 := by
  unfold joinErr
  rw [if_neg (by rw [List.any_append, ← List.not_all_eq_any_not, ← List.not_all_eq_any_not, ha, hb]; decide), if_pos h]
theorem joinErr_rest {a b : List Int} (ha : a.all isType = true) (hb : b.all isType = true) (h1 : a.length ≤ 8) (h2 : b.length ≤ 8) : joinErr a b = if (joinL a b).isNone = true then 4 else 0 := by
  unfold joinErr
  rw [if_neg (by rw [List.any_append, ← List.not_all_eq_any_not, ← List.not_all_eq_any_not, ha, hb]; decide), if_neg (by omega)]
theorem joinL_lens {a b : List Int} (h : a.length ≠ b.length) : joinL a b = none := by
  cases e : joinL a b with
  | none => rfl
  | some l => exact absurd (joinL_length _ _ _ e).2 h
theorem ints_at_full {w : World} {R n : Nat} {J : List Int} (h : w.heap[R]? = some (.cells (J.map (Value.int .i64)).toArray 3 (0, 0))) (hn : J.length = n) (hm : n ≤ maxLen := by unfold maxLen; omega) : IntsAt w (.slice (some ⟨R, 0, none⟩) n n) J := by
  subst hn
  refine ⟨_, _, rfl, hm, fun k z hk => ⟨R, 0, rfl, heap_lt h, ?_⟩⟩
  rw [cell_at' h]
  simp [hk]
end Go.Proofs.Ytjmpbnfkiikiaaa
/- verify's stack: pop, leave, result. -/
namespace Go.Proofs.Ytjmpbnfkiikiaaa
open Go.RowKit
set_option linter.unusedSimpArgs false
set_option linter.unusedVariables false
/-- the top, and what is left. -/
def topP (l : List Int) : Int := l.getLast?.getD 0
end Go.Proofs.Ytjmpbnfkiikiaaa
