/- My texts Pk Pb Qa Qb Qj Fg Ba: what of them is needed, joined. -/

import Derived.Test.YtmjjkenblfndgaaGreatD1
import Derived.Test.YtmjjkenblfndgaaGreatD2
import Derived.Test.YtmjjkenblfndgaaGreatD3
import Derived.Test.YtmjjkenblfndgaaGreatD4
set_option maxRecDepth 100000
set_option maxHeartbeats 8000000
/- Entries as they are reckoned, plainly: what a visit may do, and that it ends. -/
namespace Go.Proofs.YtmjjkenblfndgaaGreat
open Go.RowKit
set_option linter.unusedSimpArgs false
set_option linter.unusedVariables false
abbrev Ents := List (Option (List Int))
def ent (E : Ents) (k : Nat) : Option (List Int) := (E[k]?).getD none
theorem ent_at {E : Ents} {k : Nat} {x : Option (List Int)} (h : E[k]? = some x) : ent E k = x := by simp [ent, h]
theorem xkfZ {E : Ents} {k : Nat} {s : List Int} (h : ent E k = some s) : E[k]? = some (some s) := by
  unfold ent at h
  cases e : E[k]? with
  | none => rw [e] at h; simp at h
  | some x => rw [e] at h; simp at h; subst h; rfl
theorem ent_set (E : Ents) (k x : Nat) (s : List Int) (hk : k < E.length) : ent (E.set k (some s)) x = if x = k then some s else ent E x := by
  unfold ent
  by_cases h : x = k
  · subst h; simp [hk]
  · rw [if_neg h, List.getElem?_set_ne (fun e => h e.symm)]
def m1 : Option (List Int) → Nat
  | none => 9
  | some s => s.count 3
def mu : Ents → Nat
  | [] => 0
  | x :: r => m1 x + mu r
theorem mu_set : ∀ (E : Ents) (k : Nat) (x : Option (List Int)) (y : Option (List Int)), E[k]? = some x → m1 y < m1 x → mu (E.set k y) < mu E
  | [], k, x, y, h, _ => by simp at h
  | z :: r, 0, x, y, h, hm => by simp at h; subst h; simp [mu]; omega
  | z :: r, k + 1, x, y, h, hm => by
    have := mu_set r k x y (by simpa using h) hm
    simp only [List.set_cons_succ, mu]
    omega
theorem xi8Z : ∀ {s t : List Int}, leS s t = true → t.count 3 ≤ s.count 3
  | [], [], _ => Nat.le_refl _
  | [], _ :: _, h => by simp [leS] at h
  | _ :: _, [], h => by simp [leS] at h
  | a :: r, b :: q, h => by
    simp [leS] at h
    have ih := xi8Z h.2
    have hs := h.1
    simp [xauZ] at hs
    rw [List.count_cons, List.count_cons]
    rcases hs with rfl | ⟨rfl, rfl⟩
    · omega
    · simp; omega
theorem xi9Z : ∀ {s t : List Int}, leS s t = true → s ≠ t → t.count 3 < s.count 3
  | [], [], _, hn => absurd rfl hn
  | [], _ :: _, h, _ => by simp [leS] at h
  | _ :: _, [], h, _ => by simp [leS] at h
  | a :: r, b :: q, h, hn => by
    simp [leS] at h
    have hs := h.1
    simp [xauZ] at hs
    rw [List.count_cons, List.count_cons]
    rcases hs with rfl | ⟨rfl, rfl⟩
    · have ih := xi9Z h.2 (fun e => hn (by rw [e]))
      omega
    · have ih := xi8Z h.2
      simp; omega
theorem mu_mono : ∀ {E E' : Ents}, E'.length = E.length → (∀ k s, ent E' k = some s → s.length ≤ 8) → leE (ent E) (ent E') → mu E' ≤ mu E
  | [], E', h, _, _ => by
    have : E' = [] := List.eq_nil_of_length_eq_zero (by simpa using h)
    subst this; exact Nat.le_refl _
  | x :: r, [], h, _, _ => by simp at h
  | x :: r, y :: q, h, h8, hle => by
    have ih := mu_mono (E := r) (E' := q) (by simpa using h) (fun k s hk => h8 (k + 1) s (by simpa [ent] using hk)) (fun k s hk => by
      have := hle (k + 1) s (by simpa [ent] using hk)
      simpa [ent] using this)
    have h0 : m1 y ≤ m1 x := by
      cases x with
      | none =>
        cases y with
        | none => exact Nat.le_refl _
        | some s =>
          have := h8 0 s (by simp [ent])
          have := List.count_le_length (a := (3 : Int)) (l := s)
          simp only [m1]; omega
      | some s =>
        obtain ⟨s', h1, h2⟩ := hle 0 s (by simp [ent])
        simp [ent] at h1
        subst h1
        exact xi8Z h2
    simp only [mu]; omega
def DoneAt (p : List Fn) (f : Fn) (e : Nat → Option (List Int)) (x : Nat) : Prop := ∃ s o out, e x = some s ∧ f.2.2.2[x]? = some o ∧ tryOp p f o s = some out ∧ ∀ to, goesOn f.2.2.2 x to = true → to < f.2.2.2.length ∧ ∃ s', e to = some s' ∧ leS out s' = true
theorem leE_refl (e : Nat → Option (List Int)) : leE e e := fun pc s h => ⟨s, h, xdkZ s⟩
theorem leE_trans {e e' e'' : Nat → Option (List Int)} (h : leE e e') (k : leE e' e'') : leE e e'' := fun pc s hs => by
  obtain ⟨s1, h1, h2⟩ := h pc s hs
  obtain ⟨s2, h3, h4⟩ := k pc s1 h1
  exact ⟨s2, h3, xc7Z h2 h4⟩
theorem DoneAt.mono {p : List Fn} {f : Fn} {e e' : Nat → Option (List Int)} {x : Nat} (h : DoneAt p f e x) (hle : leE e e') (hx : e' x = e x) : DoneAt p f e' x := by
  obtain ⟨s, o, out, h1, h2, h3, h4⟩ := h
  refine ⟨s, o, out, hx.trans h1, h2, h3, fun to hto => ?_⟩
  obtain ⟨h5, s', h6, h7⟩ := h4 to hto
  obtain ⟨s2, h8, h9⟩ := hle to s' h6
  exact ⟨h5, s2, h8, xc7Z h7 h9⟩
structure Went (p : List Fn) (f : Fn) (E E' : Ents) : Prop where
  le : leE (ent E) (ent E')
  done : ∀ x, ent E' x = ent E x ∨ DoneAt p f (ent E') x
theorem Went.refl (p : List Fn) (f : Fn) (E : Ents) : Went p f E E := ⟨leE_refl _, fun _ => .inl rfl⟩
theorem Went.trans {p : List Fn} {f : Fn} {E E' E'' : Ents} (h : Went p f E E') (k : Went p f E' E'') : Went p f E E'' := by
  refine ⟨leE_trans h.le k.le, fun x => ?_⟩
  rcases k.done x with h1 | h1
  · rcases h.done x with h2 | h2
    · exact .inl (h1.trans h2)
    · exact .inr (h2.mono k.le h1)
  · exact .inr h1
theorem went_set {p : List Fn} {f : Fn} {E E' : Ents} {k : Nat} {s out : List Int} {o : Int × Int} (hk : k < E.length) (hle : ∀ s0, ent E k = some s0 → leS s0 s = true) (ho : f.2.2.2[k]? = some o) (ht : tryOp p f o s = some out) (hw : Went p f (E.set k (some s)) E') (hto : ∀ to, goesOn f.2.2.2 k to = true → to < f.2.2.2.length ∧ ∃ s', ent E' to = some s' ∧ leS out s' = true) :
    Went p f E E' ∧ ∃ s', ent E' k = some s' ∧ leS s s' = true := by
  have hset := fun x => ent_set E k x s hk
  have hk' : ∃ s', ent E' k = some s' ∧ leS s s' = true := hw.le k s (by rw [hset, if_pos rfl])
  refine ⟨⟨fun x s0 hs0 => ?_, fun x => ?_⟩, hk'⟩
  · by_cases e : x = k
    · subst e
      obtain ⟨s', h1, h2⟩ := hk'
      exact ⟨s', h1, xc7Z (hle s0 hs0) h2⟩
    · exact hw.le x s0 (by rw [hset, if_neg e]; exact hs0)
  · rcases hw.done x with h1 | h1
    · by_cases e : x = k
      · subst e
        rw [hset, if_pos rfl] at h1
        exact .inr ⟨s, o, out, h1, ho, ht, hto⟩
      · rw [hset, if_neg e] at h1
        exact .inl h1
    · exact .inr h1
structure OkFn (p : List Fn) (f : Fn) : Prop where
  ops : ∀ o ∈ f.2.2.2, OkOp p f o
  flow : flowErr f.2.2.2 = 0
  loc : ∀ t ∈ f.2.1, 1 ≤ t ∧ t ≤ 2
  res : ∀ g ∈ p, 0 ≤ g.2.2.1 ∧ g.2.2.1 ≤ 2
theorem okFn {p : List Fn} {f : Fn} (hp : xanZ p = 0) (hf : f ∈ p) : OkFn p f := by
  obtain ⟨_, h5, hall, _⟩ := xeoZ hp
  have parts : ∀ g ∈ p, g.2.1.length ≤ 6 ∧ 0 ≤ g.1 ∧ g.1 ≤ (g.2.1.length : Int) ∧ (∀ t ∈ g.2.1, 1 ≤ t ∧ t ≤ 2) ∧ 0 ≤ g.2.2.1 ∧ g.2.2.1 ≤ 2 ∧ g.2.2.2.length ≠ 0 ∧ xbcZ g.2.2.2 = 0 ∧ ∀ o ∈ g.2.2.2, xbvZ o g p.length = true := by
    intro g hg
    have h := hall g hg
    unfold fnErr at h
    by_cases h1 : 6 < g.2.1.length
    · rw [if_pos h1] at h; cases h
    rw [if_neg h1] at h
    by_cases h2 : g.1 < 0 ∨ (g.2.1.length : Int) < g.1
    · rw [if_pos h2] at h; cases h
    rw [if_neg h2] at h
    by_cases h3 : xesZ g = false
    · rw [if_pos h3] at h; cases h
    rw [if_neg h3] at h
    by_cases h4 : g.2.2.2.length = 0
    · rw [if_pos h4] at h; cases h
    rw [if_neg h4] at h
    by_cases h6 : xbcZ g.2.2.2 = 0
    · rw [if_neg (by simp [h6])] at h
      by_cases h7 : (g.2.2.2.all fun o => xbvZ o g p.length) = false
      · rw [if_pos h7] at h; cases h
      · simp only [Bool.not_eq_false] at h3 h7
        simp only [xesZ, Bool.and_eq_true, decide_eq_true_eq] at h3
        refine ⟨by omega, by omega, by omega, fun t ht => ?_, h3.2.1, h3.2.2, h4, h6, List.all_eq_true.1 h7⟩
        have := List.all_eq_true.1 h3.1 t ht
        simp [xebZ] at this
        omega
    · rw [if_pos h6] at h; exact absurd h h6
  obtain ⟨a1, a2, a3, a4, a5, a6, a7, a8, a9⟩ := parts f hf
  refine ⟨fun o ho => ?_, ?_, a4, fun g hg => ⟨(parts g hg).2.2.2.2.1, (parts g hg).2.2.2.2.2.1⟩⟩
  · have hn := a9 o ho
    have hc := (xj9Z ((xehZ _ a8).2 o ho)).1
    refine ⟨by simpa [xfiZ] using hc, fun h => ?_, fun h => ?_, fun g hg => ⟨(parts g hg).2.1, (parts g hg).2.2.1, (parts g hg).1, (parts g hg).2.2.2.2.1⟩, ⟨a1, a5⟩⟩
    · unfold xbvZ at hn
      rw [if_pos (by simpa using h)] at hn
      simpa [isNum] using hn
    · unfold xbvZ at hn
      rw [if_neg (by simp [h]), if_neg (by simp [h]), if_pos (by simp [h])] at hn
      simpa [isNum] using hn
  · unfold flowErr
    rw [if_neg (by simp [a8]), if_neg a7, if_neg]
    intro hany
    obtain ⟨o, ho, hb⟩ := List.any_eq_true.1 hany
    have hn := a9 o ho
    simp only [badTo, Bool.and_eq_true, Bool.not_eq_true'] at hb
    unfold xbvZ at hn
    have h10 : o.1 = 10 ∨ o.1 = 11 := by simpa using hb.1
    rw [if_neg (by simp; omega), if_pos hb.1] at hn
    have := hb.2
    simp only [isNum] at hn
    rw [hn] at this
    cases this
def tyL (s : List Int) : Prop := ∀ t ∈ s, xbhZ t = true
theorem tyL_all {s : List Int} (h : tyL s) : s.all xbhZ = true := List.all_eq_true.2 h
theorem try_types {p : List Fn} {f : Fn} {o : Int × Int} {s out : List Int} (hf : OkFn p f) (ho : o ∈ f.2.2.2) (hs : tyL s) (h : tryOp p f o s = some out) : tyL out ∧ out.length ≤ 8 := by
  unfold tryOp at h
  obtain ⟨⟨t, l⟩, h1, h2⟩ := Option.bind_eq_some_iff.1 h
  simp only at h2
  split at h2
  · rename_i hc
    cases h2
    refine ⟨?_, hc.2.2⟩
    have hdrop : ∀ k, ∀ x ∈ s.drop k, xbhZ x = true := fun k x hx => hs x (List.mem_of_mem_drop hx)
    have hl : ∀ x ∈ l, xbhZ x = true := by
      have hok := hf.ops o ho
      have hr : ∀ g ∈ p, ∀ x ∈ (if 0 < g.2.2.1 then [g.2.2.1] else []), xbhZ x = true := by
        intro g hg x hx
        split at hx
        · simp at hx; subst hx
          have := hf.res g hg
          simp [xbhZ]; omega
        · simp at hx
      unfold xafZ at h1
      by_cases c2 : o.1 = 2
      · rw [if_pos c2] at h1
        split at h1
        · cases h1
        · cases h1; intro x hx; simp at hx
      rw [if_neg c2] at h1
      by_cases c3 : o.1 = 3
      · rw [if_pos c3] at h1
        split at h1
        · cases h1
        · cases h1
          intro x hx
          rcases List.mem_append.1 hx with hx | hx
          · exact hdrop _ x hx
          · exact hdrop _ x hx
      rw [if_neg c3] at h1
      by_cases c4 : o.1 = 4
      · rw [if_pos c4] at h1
        split at h1
        · cases h1
        · cases h1
          intro x hx
          exact hdrop _ x (List.mem_reverse.1 hx)
      rw [if_neg c4] at h1
      by_cases c12 : o.1 = 12
      · rw [if_pos c12] at h1
        obtain ⟨g, hg, he⟩ := Option.map_eq_some_iff.1 h1
        cases he
        exact hr g (List.mem_of_getElem? hg)
      rw [if_neg c12] at h1
      by_cases c13 : o.1 = 13
      · rw [if_pos c13] at h1
        by_cases hl13 : s.length = (if 0 < f.2.2.1 then [f.2.2.1] else []).length
        · rw [if_pos hl13] at h1; cases h1; intro x hx; simp at hx
        · rw [if_neg hl13] at h1; cases h1
      rw [if_neg c13] at h1
      cases h1
      intro x hx
      simp only [xawZ, List.mem_map] at hx
      obtain ⟨y, hy, rfl⟩ := hx
      by_cases hy0 : y = 0
      · rw [if_pos hy0]
        subst hy0
        have c8 : o.1 = 8 := by
          rcases Decidable.em (o.1 = 8) with h8 | h8
          · exact h8
          · rcases Decidable.em (o.1 = 9) with h9 | h9
            · rw [h9] at hy; simp [xasZ] at hy
            · exact absurd rfl ((plain_nz h8 h9).2 0 hy)
        have hlc := hok.loc (.inl c8)
        obtain ⟨z, hz⟩ := xaiZ (l := f.2.1) (k := o.2.toNat) (by omega)
        rw [List.getD_eq_getElem?_getD, hz]
        have := hf.loc z (List.mem_of_getElem? hz)
        simp [xbhZ]; omega
      · rw [if_neg hy0]
        have hy3 : y = 1 ∨ y = 2 ∨ y = 3 := by
          unfold xasZ at hy
          repeat' split at hy
          all_goals simp at hy <;> omega
        simp [xbhZ]; omega
    intro x hx
    rcases List.mem_append.1 hx with hx | hx
    · exact hs x (List.mem_of_mem_take hx)
    · exact hl x hx
  · cases h2
theorem join_types {a b j : List Int} (ha : tyL a) (hb : tyL b) (h : joinL a b = some j) : tyL j := by
  induction a generalizing b j with
  | nil =>
    cases b with
    | nil => cases h; intro t ht; simp at ht
    | cons _ _ => cases h
  | cons x r ih =>
    cases b with
    | nil => cases h
    | cons y q =>
      simp only [joinL] at h
      obtain ⟨t, ht, h2⟩ := Option.bind_eq_some_iff.1 h
      obtain ⟨l, hl, rfl⟩ := Option.map_eq_some_iff.1 h2
      intro z hz
      rcases List.mem_cons.1 hz with rfl | hz
      · unfold joinT at ht
        split at ht
        · cases ht; exact ha _ (by simp)
        · split at ht
          · cases ht; rfl
          · cases ht
      · exact ih (fun t ht => ha t (by simp [ht])) (fun t ht => hb t (by simp [ht])) hl z hz
end Go.Proofs.YtmjjkenblfndgaaGreat


/- Plain functions on blocks (chapter 5). -/
namespace Go.Proofs.YtmjjkenblfndgaaGreat
open Go.RowKit
set_option linter.unusedSimpArgs false
set_option linter.unusedVariables false
def xa0Z (L : List (List Int)) : Nat := (L.map List.length).sum
def blkErr (L : List (List Int)) : Int := if 8 < L.length ∨ 40 < xa0Z L then 2 else if (L.all fun b => b.all isI32) = true then 0 else 3
def xbwZ (L : List (List Int)) (size : Int) : Int := if blkErr L ≠ 0 then blkErr L else if size < 0 then 3 else if L.length = 8 ∨ 40 - (xa0Z L : Int) < size then 7 else 0
def newL (L : List (List Int)) (size : Int) : List (List Int) := L ++ [List.replicate size.toNat 0]
def newR (L : List (List Int)) (size : Int) : List (List Int) := if xbwZ L size = 0 then newL L size else []
def xhyZ (L : List (List Int)) (size : Int) : Int := if xbwZ L size = 0 then (L.length : Int) + 1 else 0
def blkAt (L : List (List Int)) (ref : Int) : List Int := (L[(ref - 1).toNat]?).getD []
def xa2Z (L : List (List Int)) (ref at_ : Int) : Int := if blkErr L ≠ 0 then blkErr L else if ref = 0 then 5 else if ref < 0 ∨ (L.length : Int) < ref ∨ at_ < 0 ∨ ((blkAt L ref).length : Int) ≤ at_ then 3 else 0
def getL (L : List (List Int)) (ref at_ : Int) : Int := ((blkAt L ref)[at_.toNat]?).getD 0
def getR (L : List (List Int)) (ref at_ : Int) : Int := if xa2Z L ref at_ = 0 then getL L ref at_ else 0
def xbuZ (L : List (List Int)) (ref at_ n : Int) : Int := if xa2Z L ref at_ ≠ 0 then xa2Z L ref at_ else if isI32 n = true then 0 else 3
def setL (L : List (List Int)) (ref at_ n : Int) : List (List Int) := L.set (ref - 1).toNat ((blkAt L ref).set at_.toNat n)
def setR (L : List (List Int)) (ref at_ n : Int) : List (List Int) := if xbuZ L ref at_ n = 0 then setL L ref at_ n else []
def refOk (n : Nat) (ref : Int) : Bool := decide (0 ≤ ref) && decide (ref ≤ (n : Int))
theorem xihZ (n : Int) : (wrap32 n == n) = isI32 n := by
  rw [Bool.eq_iff_iff]
  simp [isI32, wrap32]
  omega
theorem xgcZ (L M : List (List Int)) : xa0Z (L ++ M) = xa0Z L + xa0Z M := by simp [xa0Z]
theorem xjyZ (L : List (List Int)) (k : Nat) (b : List Int) (h : L[k]? = some b) : xa0Z (L.take (k + 1)) = xa0Z (L.take k) + b.length := by
  rw [xa7Z L k b h, xgcZ]; simp [xa0Z]
theorem xmbZ (L : List (List Int)) (k : Nat) : xa0Z (L.take k) ≤ xa0Z L := by
  have h : xa0Z L = xa0Z (L.take k) + xa0Z (L.drop k) := by rw [← xgcZ, List.take_append_drop]
  omega
theorem xfeZ {L : List (List Int)} {k : Nat} {b : List Int} (h : L[k]? = some b) : b.length ≤ xa0Z L := by
  have h1 := xjyZ L k b h
  have h2 := xmbZ L (k + 1)
  omega
theorem xnwZ (L : List (List Int)) (M : Nat) (h : ∀ b ∈ L, b.length ≤ M) : xa0Z L ≤ L.length * M := by
  induction L with
  | nil => simp [xa0Z]
  | cons b r ih =>
    have h1 := ih fun x hx => h x (by simp [hx])
    have h2 := h b (by simp)
    have h3 : xa0Z (b :: r) = b.length + xa0Z r := by simp [xa0Z]
    rw [h3, List.length_cons, Nat.add_mul]
    omega
theorem xb9Z {L : List (List Int)} (h : blkErr L = 0) : L.length ≤ 8 ∧ xa0Z L ≤ 40 ∧ ∀ b ∈ L, ∀ n ∈ b, isI32 n = true := by
  unfold blkErr at h
  by_cases h1 : 8 < L.length ∨ 40 < xa0Z L
  · rw [if_pos h1] at h; cases h
  · rw [if_neg h1] at h
    by_cases h2 : (L.all fun b => b.all isI32) = true
    · refine ⟨by omega, by omega, fun b hb n hn => ?_⟩
      exact List.all_eq_true.1 (List.all_eq_true.1 h2 b hb) n hn
    · rw [if_neg h2] at h; cases h
theorem xl9Z {L : List (List Int)} (h1 : L.length ≤ 8) (h2 : xa0Z L ≤ 40) (h3 : ∀ b ∈ L, ∀ n ∈ b, isI32 n = true) : blkErr L = 0 := by
  unfold blkErr
  rw [if_neg (by omega), if_pos]
  exact List.all_eq_true.2 fun b hb => List.all_eq_true.2 fun n hn => h3 b hb n hn
theorem xd2Z {L : List (List Int)} {ref : Int} {b : List Int} {k : Nat} (h : L[k]? = some b) (hr : ref = (k : Int) + 1) : blkAt L ref = b := by
  unfold blkAt
  rw [show (ref - 1).toNat = k from by omega, h]; rfl
end Go.Proofs.YtmjjkenblfndgaaGreat


/- Machines, plainly (chapter 6): what they are, what is right, what a step makes of one. -/
namespace Go.Proofs.YtmjjkenblfndgaaGreat
open Go.RowKit
set_option linter.unusedSimpArgs false
set_option linter.unusedVariables false
abbrev Val := Bool × Int
structure Frm where
  fn : Int
  pc : Int
  loc : List Val
  stk : List Val
structure Mach where
  frames : List Frm
  blocks : List (List Int)
  inp : List Int
  out : List Int
  status : Int
  trap : Int
def asT (v : Val) (t : Int) : Bool := (v.1 == decide (t ≠ 1)) && (decide (t ≠ 3) || decide (v.2 = 0))
def areOf : List Val → List Int → Bool
  | [], [] => true
  | v :: r, t :: q => asT v t && areOf r q
  | _, _ => false
def okV (nb : Nat) (v : Val) : Bool := if v.1 then decide (0 ≤ v.2) && decide (v.2 ≤ (nb : Int)) else isI32 v.2
theorem asT_le {v : Val} {t u : Int} (h : asT v t = true) (hs : xauZ t u = true) : asT v u = true := by
  simp only [asT, xauZ, Bool.and_eq_true, Bool.or_eq_true, decide_eq_true_eq, beq_iff_eq] at h hs ⊢
  rcases hs with rfl | ⟨rfl, rfl⟩
  · exact h
  · refine ⟨?_, .inl (by omega)⟩
    rw [h.1]; decide
theorem xbaZ : ∀ {l : List Val} {s : List Int}, areOf l s = true → l.length = s.length
  | [], [], _ => rfl
  | [], _ :: _, h => by simp [areOf] at h
  | _ :: _, [], h => by simp [areOf] at h
  | v :: r, t :: q, h => by simp [areOf] at h; simp [xbaZ h.2]
theorem xfpZ : ∀ {l : List Val} {s t : List Int}, areOf l s = true → leS s t = true → areOf l t = true
  | [], [], [], _, _ => rfl
  | [], [], _ :: _, _, h => by simp [leS] at h
  | [], _ :: _, _, h, _ => by simp [areOf] at h
  | _ :: _, [], _, h, _ => by simp [areOf] at h
  | _ :: _, _ :: _, [], _, h => by simp [leS] at h
  | v :: r, a :: q, b :: u, h, k => by
    simp [areOf, leS] at h k ⊢
    exact ⟨asT_le h.1 k.1, xfpZ h.2 k.2⟩
theorem xdnZ : ∀ {l m : List Val} {s t : List Int}, areOf l s = true → areOf m t = true → areOf (l ++ m) (s ++ t) = true
  | [], _, [], _, _, h => h
  | [], _, _ :: _, _, h, _ => by simp [areOf] at h
  | _ :: _, _, [], _, h, _ => by simp [areOf] at h
  | v :: r, m, a :: q, t, h, k => by
    simp [areOf] at h ⊢
    exact ⟨h.1, xdnZ h.2 k⟩
theorem xkrZ : ∀ (n : Nat) {l : List Val} {s : List Int}, areOf l s = true → areOf (l.take n) (s.take n) = true
  | 0, _, _, _ => rfl
  | n + 1, [], [], _ => rfl
  | n + 1, [], _ :: _, h => by simp [areOf] at h
  | n + 1, _ :: _, [], h => by simp [areOf] at h
  | n + 1, v :: r, t :: q, h => by simp [areOf] at h ⊢; exact ⟨h.1, xkrZ n h.2⟩
theorem xfdZ : ∀ (n : Nat) {l : List Val} {s : List Int}, areOf l s = true → areOf (l.drop n) (s.drop n) = true
  | 0, _, _, h => h
  | n + 1, [], [], _ => rfl
  | n + 1, [], _ :: _, h => by simp [areOf] at h
  | n + 1, _ :: _, [], h => by simp [areOf] at h
  | n + 1, v :: r, t :: q, h => by simp [areOf] at h; exact xfdZ n h.2
theorem xgqZ : ∀ {l : List Val} {s : List Int}, areOf l s = true → ∀ (k : Nat) (v : Val) (t : Int), l[k]? = some v → s[k]? = some t → asT v t = true
  | [], _, _, k, v, t, h, _ => by simp at h
  | _ :: _, [], _, k, v, t, _, h => by simp at h
  | a :: r, b :: q, h, 0, v, t, h1, h2 => by simp at h1 h2; subst h1 h2; simp [areOf] at h; exact h.1
  | a :: r, b :: q, h, k + 1, v, t, h1, h2 => by simp [areOf] at h; exact xgqZ h.2 k v t (by simpa using h1) (by simpa using h2)
theorem xl7Z : ∀ {l : List Val} {s : List Int}, areOf l s = true → ∀ (k : Nat) (v : Val) (t : Int), s[k]? = some t → asT v t = true → areOf (l.set k v) s = true
  | [], [], _, k, v, t, h, _ => by simp at h
  | [], _ :: _, h, _, _, _, _, _ => by simp [areOf] at h
  | _ :: _, [], h, _, _, _, _, _ => by simp [areOf] at h
  | a :: r, b :: q, h, 0, v, t, h2, hv => by simp at h2; subst h2; simp [areOf] at h ⊢; exact ⟨hv, h.2⟩
  | a :: r, b :: q, h, k + 1, v, t, h2, hv => by simp [areOf] at h ⊢; exact ⟨h.1, xl7Z h.2 k v t (by simpa using h2) hv⟩
theorem xm6Z {l : List Val} {s : List Int} (h : areOf l s = true) : areOf l.reverse s.reverse = true := by
  induction l generalizing s with
  | nil => cases s with
    | nil => rfl
    | cons _ _ => simp [areOf] at h
  | cons a r ih => cases s with
    | nil => simp [areOf] at h
    | cons b q =>
      simp [areOf] at h
      rw [List.reverse_cons, List.reverse_cons]
      exact xdnZ (ih h.2) (by simp [areOf, h.1])
def topV (s : List Val) (j : Nat) : Val := s.getD (s.length - 1 - j) (false, 0)
def cutV (s : List Val) (j : Nat) : List Val := s.take (s.length - j)
def xbdZ (ts : List Int) : List Val := ts.map fun t => (decide (t = 2), 0)
def trapM (m : Mach) (why : Int) : Mach := { m with status := 3, trap := why }
def putF (m : Mach) (x : Frm) : Mach := { m with frames := m.frames.dropLast ++ [x] }
def onF (m : Mach) (x : Frm) (s : List Val) : Mach := putF m { x with pc := x.pc + 1, stk := s }
def doOp (p : List Fn) (m : Mach) (x : Frm) (o : Int × Int) : Mach :=
  if o.1 = 21 ∧ m.inp = [] then { m with status := 1 }
  else if o.1 = 1 then onF m x (x.stk ++ [(false, o.2)])
  else if o.1 = 2 then onF m x (cutV x.stk 1)
  else if o.1 = 3 then onF m x (cutV x.stk 1 ++ [topV x.stk 0, topV x.stk 0])
  else if o.1 = 4 then onF m x (cutV x.stk 2 ++ [topV x.stk 0, topV x.stk 1])
  else if o.1 = 5 then onF m x (cutV x.stk 2 ++ [(false, wrap32 ((topV x.stk 1).2 + (topV x.stk 0).2))])
  else if o.1 = 6 then onF m x (cutV x.stk 2 ++ [(false, wrap32 ((topV x.stk 1).2 - (topV x.stk 0).2))])
  else if o.1 = 7 then onF m x (cutV x.stk 2 ++ [(false, wrap32 ((topV x.stk 1).2 * (topV x.stk 0).2))])
  else if o.1 = 8 then onF m x (x.stk ++ [x.loc.getD o.2.toNat (false, 0)])
  else if o.1 = 9 then putF m { x with pc := x.pc + 1, loc := x.loc.set o.2.toNat (topV x.stk 0), stk := cutV x.stk 1 }
  else if o.1 = 10 then putF m { x with pc := o.2 }
  else if o.1 = 11 then putF m { x with pc := if (topV x.stk 0).2 = 0 then o.2 else x.pc + 1, stk := cutV x.stk 1 }
  else if o.1 = 12 then (if m.frames.length = 6 then trapM m 4 else match p[o.2.toNat]? with
    | none => m
    | some g => { m with frames := m.frames.dropLast ++ [{ x with pc := x.pc + 1, stk := cutV x.stk g.1.toNat }, { fn := o.2, pc := 0, loc := x.stk.drop (x.stk.length - g.1.toNat) ++ (xbdZ g.2.1).drop g.1.toNat, stk := [] }] })
  else if o.1 = 13 then (match m.frames.dropLast.getLast? with
    | none => { m with frames := [], status := 2 }
    | some y => { m with frames := m.frames.dropLast.dropLast ++ [{ y with stk := y.stk ++ x.stk }] })
  else if o.1 = 14 then (if xbwZ m.blocks (topV x.stk 0).2 ≠ 0 then trapM m 3 else { onF m x (cutV x.stk 1 ++ [(true, (m.blocks.length : Int) + 1)]) with blocks := newL m.blocks (topV x.stk 0).2 })
  else if o.1 = 15 then (if xa2Z m.blocks (topV x.stk 1).2 (topV x.stk 0).2 = 5 then trapM m 1 else if xa2Z m.blocks (topV x.stk 1).2 (topV x.stk 0).2 ≠ 0 then trapM m 2 else onF m x (cutV x.stk 2 ++ [(false, getL m.blocks (topV x.stk 1).2 (topV x.stk 0).2)]))
  else if o.1 = 16 then (if xbuZ m.blocks (topV x.stk 2).2 (topV x.stk 1).2 (topV x.stk 0).2 = 5 then trapM m 1 else if xbuZ m.blocks (topV x.stk 2).2 (topV x.stk 1).2 (topV x.stk 0).2 ≠ 0 then trapM m 2 else { onF m x (cutV x.stk 3) with blocks := setL m.blocks (topV x.stk 2).2 (topV x.stk 1).2 (topV x.stk 0).2 })
  else if o.1 = 17 then (if (topV x.stk 0).2 = 0 then trapM m 1 else onF m x (cutV x.stk 1 ++ [(false, ((blkAt m.blocks (topV x.stk 0).2).length : Int))]))
  else if o.1 = 18 then onF m x (x.stk ++ [(true, 0)])
  else if o.1 = 19 then onF m x (cutV x.stk 1 ++ [(false, if (topV x.stk 0).2 = 0 then 1 else 0)])
  else if o.1 = 20 then (if m.out.length = 10 then trapM m 5 else { onF m x (cutV x.stk 1) with out := m.out ++ [(topV x.stk 0).2] })
  else if o.1 = 21 then { onF m x (x.stk ++ [(false, m.inp.headD 0)]) with inp := m.inp.tail }
  else m
def xa1Z (p : List Fn) (e : Nat → Nat → Option (List Int)) : Prop := ∀ (k : Nat) (f : Fn), p[k]? = some f → Least p f (some (e k))
structure RightF (p : List Fn) (e : Nat → Nat → Option (List Int)) (nb : Nat) (next : Option Int) (x : Frm) (k : Nat) (f : Fn) : Prop where
  fn : x.fn = (k : Int)
  at_ : p[k]? = some f
  loc : areOf x.loc f.2.1 = true
  okl : ∀ v ∈ x.loc, okV nb v = true
  oks : ∀ v ∈ x.stk, okV nb v = true
  inner : next = none → ∃ (pc : Nat) (s : List Int), x.pc = (pc : Int) ∧ e k pc = some s ∧ areOf x.stk s = true
  outer : ∀ g, next = some g → ∃ (pc : Nat) (s0 s : List Int) (h : Fn), x.pc = ((pc + 1 : Nat) : Int) ∧ 0 ≤ g ∧ e k pc = some s0 ∧ f.2.2.2[pc]? = some (12, g) ∧ e k (pc + 1) = some s ∧ p[g.toNat]? = some h ∧ areOf x.stk (if h.2.2.1 ≠ 0 then s.dropLast else s) = true
structure RightM (p : List Fn) (e : Nat → Nat → Option (List Int)) (m : Mach) : Prop where
  status : 0 ≤ m.status ∧ m.status ≤ 3
  trap : (m.status = 3 → 1 ≤ m.trap ∧ m.trap ≤ 5) ∧ (m.status ≠ 3 → m.trap = 0)
  blocks : blkErr m.blocks = 0
  inp : m.inp.length ≤ 10 ∧ ∀ n ∈ m.inp, isI32 n = true
  out : m.out.length ≤ 10 ∧ ∀ n ∈ m.out, isI32 n = true
  depth : m.frames.length ≤ 6 ∧ (m.frames = [] ↔ m.status = 2)
  first : ∀ x, m.frames[0]? = some x → x.fn = 0
  each : ∀ (i : Nat) (x : Frm), m.frames[i]? = some x → ∃ k f, RightF p e m.blocks.length ((m.frames[i + 1]?).map Frm.fn) x k f
  wait : m.status = 1 → m.inp = [] ∧ ∃ (x : Frm) (k : Nat) (f : Fn) (o : Int × Int), m.frames.getLast? = some x ∧ x.fn = (k : Int) ∧ p[k]? = some f ∧ f.2.2.2[x.pc.toNat]? = some o ∧ o.1 = 21
end Go.Proofs.YtmjjkenblfndgaaGreat


/- A step of a right machine is a right machine, plainly. -/
namespace Go.Proofs.YtmjjkenblfndgaaGreat
open Go.RowKit
set_option linter.unusedSimpArgs false
set_option linter.unusedVariables false
theorem xfaZ {p : List Fn} {f : Fn} {o : Int × Int} {s out : List Int} (h : tryOp p f o s = some out) : ∃ t l, xafZ p f o s = some (t, l) ∧ t.length ≤ s.length ∧ leS (s.drop (s.length - t.length)) t = true ∧ out = s.take (s.length - t.length) ++ l := by
  unfold tryOp at h
  obtain ⟨⟨t, l⟩, h1, h2⟩ := Option.bind_eq_some_iff.1 h
  simp only at h2
  split at h2
  · rename_i hc
    cases h2
    exact ⟨t, l, h1, hc.1, hc.2.1, rfl⟩
  · cases h2
theorem xh8Z {a b : Nat} (h : a ≤ b) {v : Val} (hv : okV a v = true) : okV b v = true := by
  unfold okV at hv ⊢
  split
  · rename_i h1
    rw [if_pos h1] at hv
    simp at hv ⊢
    omega
  · rename_i h1
    rw [if_neg h1] at hv
    exact hv
theorem RightF.mono {p : List Fn} {e : Nat → Nat → Option (List Int)} {a b : Nat} {next : Option Int} {x : Frm} {k : Nat} {f : Fn} (h : RightF p e a next x k f) (hab : a ≤ b) : RightF p e b next x k f :=
  ⟨h.fn, h.at_, h.loc, fun v hv => xh8Z hab (h.okl v hv), fun v hv => xh8Z hab (h.oks v hv), h.inner, h.outer⟩
theorem xckZ {α : Type} {l : List α} {x : α} (h : l.getLast? = some x) : l = l.dropLast ++ [x] := by
  obtain ⟨ys, rfl⟩ := List.getLast?_eq_some_iff.1 h
  simp
theorem right_put {p : List Fn} {e : Nat → Nat → Option (List Int)} {m : Mach} {x x' : Frm} {k : Nat} {f : Fn} {B : List (List Int)} {I O : List Int} (h : RightM p e m) (hst : m.status = 0) (hl : m.frames.getLast? = some x) (hfn : x'.fn = x.fn) (hB : blkErr B = 0) (hnb : m.blocks.length ≤ B.length) (hI : I.length ≤ 10 ∧ ∀ n ∈ I, isI32 n = true) (hO : O.length ≤ 10 ∧ ∀ n ∈ O, isI32 n = true) (hr : RightF p e B.length none x' k f) :
    RightM p e { m with frames := m.frames.dropLast ++ [x'], blocks := B, inp := I, out := O } := by
  have hs := xckZ hl
  generalize hd : m.frames.dropLast = D at *
  have hlen : m.frames.length = D.length + 1 := by rw [hs]; simp
  have hat : ∀ i y, i < D.length → (m.frames[i]? = some y ↔ (D ++ [x'])[i]? = some y) := by
    intro i y hi
    rw [hs, List.getElem?_append_left hi, List.getElem?_append_left hi]
  refine ⟨h.status, h.trap, hB, hI, hO, ⟨by simp; have := h.depth.1; omega, ?_⟩, ?_, ?_, fun hw => ?_⟩
  · simp [hst]
  · intro y hy
    simp only at hy
    cases D with
    | nil =>
      simp at hy
      subst hy
      rw [hfn]
      exact h.first x (by rw [hs]; rfl)
    | cons d r => exact h.first y ((hat 0 y (by simp)).2 hy)
  · intro i y hy
    simp only at hy ⊢
    by_cases hi : i < D.length
    · obtain ⟨k', f', hr'⟩ := h.each i y ((hat i y hi).2 hy)
      refine ⟨k', f', ?_⟩
      have hnext : (m.frames[i + 1]?).map Frm.fn = ((D ++ [x'])[i + 1]?).map Frm.fn := by
        by_cases hi2 : i + 1 < D.length
        · rw [hs, List.getElem?_append_left hi2, List.getElem?_append_left hi2]
        · have : i + 1 = D.length := by omega
          rw [hs, this]
          simp [hfn]
      rw [← hnext]
      exact hr'.mono hnb
    · have hi2 : i = D.length := by have := xaeZ hy; simp at this; omega
      subst hi2
      simp at hy
      subst hy
      exact ⟨k, f, by simpa using hr⟩
  · rw [hst] at hw
    cases hw
theorem xdaZ {p : List Fn} {e : Nat → Nat → Option (List Int)} {m : Mach} (h : RightM p e m) (hst : m.status = 0) {why : Int} (h1 : 1 ≤ why ∧ why ≤ 5) : RightM p e (trapM m why) := by
  refine ⟨by simp [trapM], ⟨fun _ => by simpa [trapM] using h1, fun hn => by simp [trapM] at hn⟩, h.blocks, h.inp, h.out, ⟨h.depth.1, ?_⟩, h.first, h.each, fun hw => by simp [trapM] at hw⟩
  simp only [trapM]
  constructor
  · intro hf
    have := h.depth.2.1 hf
    omega
  · intro hf; omega
theorem xkwZ {l : List Val} {s : List Int} (h : areOf l s = true) (n : Nat) : areOf (cutV l n) (s.take (s.length - n)) = true := by
  unfold cutV
  rw [xbaZ h]
  exact xkrZ _ h
theorem mem_cutV {l : List Val} {n : Nat} {v : Val} (h : v ∈ cutV l n) : v ∈ l := List.mem_of_mem_take h
theorem top_as {l : List Val} {s t : List Int} (h : areOf l s = true) (hle : t.length ≤ s.length) (hs : leS (s.drop (s.length - t.length)) t = true) : areOf (l.drop (l.length - t.length)) t = true := by
  rw [xbaZ h]
  exact xfpZ (xfdZ _ h) hs
theorem xjuZ {l : List Val} {t : List Int} (h : areOf (l.drop (l.length - t.length)) t = true) (hl : t.length ≤ l.length) (j : Nat) (hj : j < t.length) : topV l j ∈ l ∧ ∃ u, t[t.length - 1 - j]? = some u ∧ asT (topV l j) u = true := by
  have hlt : l.length - 1 - j < l.length := by omega
  have hv : l[l.length - 1 - j]? = some (topV l j) := by
    unfold topV
    rw [List.getD_eq_getElem?_getD, List.getElem?_eq_getElem hlt]; rfl
  refine ⟨List.mem_of_getElem? hv, ?_⟩
  obtain ⟨u, hu⟩ := xaiZ (l := t) (k := t.length - 1 - j) (by omega)
  refine ⟨u, hu, xgqZ h (t.length - 1 - j) _ _ ?_ hu⟩
  rw [List.getElem?_drop, show l.length - t.length + (t.length - 1 - j) = l.length - 1 - j by omega]
  exact hv
theorem xfsZ {p : List Fn} {e : Nat → Nat → Option (List Int)} {nb : Nat} {x : Frm} {k : Nat} {f : Fn} (he : xa1Z p e) (hr : RightF p e nb none x k f) : ∃ (pc : Nat) (s : List Int) (o : Int × Int) (out : List Int), x.pc = (pc : Int) ∧ e k pc = some s ∧ areOf x.stk s = true ∧ f.2.2.2[pc]? = some o ∧ tryOp p f o s = some out ∧ ∀ to, goesOn f.2.2.2 pc to = true → to < f.2.2.2.length ∧ ∃ s', e k to = some s' ∧ leS out s' = true := by
  obtain ⟨pc, s, h1, h2, h3⟩ := hr.inner rfl
  obtain ⟨o, out, h4, h5, h6⟩ := (he k f hr.at_).1.on pc s h2
  exact ⟨pc, s, o, out, h1, h2, h3, h4, h5, h6⟩
theorem xdjZ {C : List (Int × Int)} {pc : Nat} {o : Int × Int} (h : C[pc]? = some o) (h13 : o.1 ≠ 13) (h10 : o.1 ≠ 10) : goesOn C pc (pc + 1) = true := by
  unfold goesOn
  rw [h]
  simp only
  rw [if_neg h13, if_neg h10]
  split <;> simp
theorem plain_case {p : List Fn} {e : Nat → Nat → Option (List Int)} {nb nb' : Nat} {x : Frm} {k : Nat} {f : Fn} {to : Nat} {s out t l : List Int} {o : Int × Int} {loc' res : List Val} (hr : RightF p e nb none x k f) (hnb : nb ≤ nb') (hst : areOf x.stk s = true) (ht : tryOp p f o s = some out) (htl : xafZ p f o s = some (t, l)) (hto : ∃ s', e k to = some s' ∧ leS out s' = true) (hres : areOf res l = true) (hok : ∀ v ∈ res, okV nb' v = true) (hloc : areOf loc' f.2.1 = true) (hokl : ∀ v ∈ loc', okV nb' v = true) {pc' : Int} (hpc : pc' = (to : Int)) :
    RightF p e nb' none { x with pc := pc', loc := loc', stk := cutV x.stk t.length ++ res } k f := by
  obtain ⟨t', l', h1, h2, h3, rfl⟩ := xfaZ ht
  rw [htl] at h1
  cases h1
  obtain ⟨s', h4, h5⟩ := hto
  refine ⟨hr.fn, hr.at_, hloc, hokl, fun v hv => ?_, fun _ => ⟨to, s', hpc, h4, xfpZ (xdnZ (xkwZ hst _) hres) h5⟩, fun g hg => by cases hg⟩
  rcases List.mem_append.1 hv with hv | hv
  · exact xh8Z hnb (hr.oks v (mem_cutV hv))
  · exact hok v hv
theorem xbiZ {p : List Fn} {f : Fn} {o : Int × Int} {x : Frm} {s out t l : List Int} (hst : areOf x.stk s = true) (ht : tryOp p f o s = some out) (htl : xafZ p f o s = some (t, l)) : t.length ≤ x.stk.length ∧ areOf (x.stk.drop (x.stk.length - t.length)) t = true := by
  obtain ⟨t', l', h1, h2, h3, _⟩ := xfaZ ht
  rw [htl] at h1
  cases h1
  exact ⟨by rw [xbaZ hst]; exact h2, top_as hst h2 h3⟩
theorem asT_int {v : Val} (h : asT v 1 = true) : v.1 = false := by simp [asT] at h; exact h
theorem asT_ref {v : Val} (h : asT v 2 = true) : v.1 = true := by simp [asT] at h; exact h
theorem xgpZ {nb : Nat} {n : Int} (h : isI32 n = true) : okV nb (false, n) = true := by simpa [okV] using h
theorem okV_ref {nb : Nat} {n : Int} (h0 : 0 ≤ n) (h1 : n ≤ (nb : Int)) : okV nb (true, n) = true := by simp [okV, h0, h1]
theorem wrap_i32 (n : Int) : isI32 (wrap32 n) = true := by rw [← xihZ]; simp [wrap32]
end Go.Proofs.YtmjjkenblfndgaaGreat


/- What Check says of a machine of a program that fits, plainly; nothing just if it is right. -/
namespace Go.Proofs.YtmjjkenblfndgaaGreat
open Go.RowKit
set_option linter.unusedSimpArgs false
set_option linter.unusedVariables false
def stErr (m : Mach) : Int := if m.status < 0 ∨ 3 < m.status then 6 else if (m.status = 3 ∧ (m.trap < 1 ∨ 5 < m.trap)) ∨ (m.status ≠ 3 ∧ m.trap ≠ 0) then 1 else 0
def xdoZ (m : Mach) : Int := if 10 < m.inp.length ∨ 10 < m.out.length then 2 else if (m.inp.all isI32 && m.out.all isI32) = true then 0 else 3
def xdgZ (m : Mach) : Int := if 6 < m.frames.length then 2 else if m.frames.length = 0 ∧ m.status ≠ 2 then 5 else if 0 < m.frames.length ∧ m.status = 2 then 1 else 0
def xb7Z (p : List Fn) (x : Frm) : Bool := decide (0 ≤ x.fn) && decide (x.fn < (p.length : Int))
def xchZ (p : List Fn) (m : Mach) : Int := if m.frames.all (xb7Z p) = false then 3 else match m.frames with
  | [] => 0
  | x :: _ => if x.fn ≠ 0 then 4 else 0
def xccZ (e : Nat → Nat → Option (List Int)) (next : Option Int) (x : Frm) (k : Nat) (f : Fn) : Bool := match next with
  | none => decide (0 ≤ x.pc) && (e k x.pc.toNat).isSome
  | some g => decide (1 ≤ x.pc) && (e k (x.pc - 1).toNat).isSome && (f.2.2.2[(x.pc - 1).toNat]? == some (12, g))
def xc1Z (p : List Fn) (e : Nat → Nat → Option (List Int)) (next : Option Int) (x : Frm) (k : Nat) : List Int := match next with
  | none => (e k x.pc.toNat).getD []
  | some g => match p[g.toNat]? with
    | none => (e k x.pc.toNat).getD []
    | some h => if h.2.2.1 ≠ 0 then ((e k x.pc.toNat).getD []).dropLast else (e k x.pc.toNat).getD []
def xceZ (p : List Fn) (e : Nat → Nat → Option (List Int)) (nb : Nat) (next : Option Int) (x : Frm) (k : Nat) (f : Fn) : Int :=
  if x.loc.length ≠ f.2.1.length then 1 else if (x.loc.all (okV nb) && x.stk.all (okV nb)) = false then 3 else if areOf x.loc f.2.1 = false then 6
  else if xccZ e next x k f = false then 5 else if areOf x.stk (xc1Z p e next x k) = false then 4 else 0
def xb6Z (p : List Fn) (e : Nat → Nat → Option (List Int)) (nb : Nat) : List Frm → Int
  | [] => 0
  | x :: r => match p[x.fn.toNat]? with
    | none => 0
    | some f => if xceZ p e nb (r.head?.map Frm.fn) x x.fn.toNat f ≠ 0 then xceZ p e nb (r.head?.map Frm.fn) x x.fn.toNat f else xb6Z p e nb r
def xcfZ (p : List Fn) (m : Mach) : Option (Int × Int) := m.frames.getLast?.bind fun x => (p[x.fn.toNat]?).bind fun f => f.2.2.2[x.pc.toNat]?
def xfbZ (p : List Fn) (m : Mach) : Int := if m.status ≠ 1 then 0 else match xcfZ p m with
  | none => 0
  | some o => if o.1 ≠ 21 ∨ 0 < m.inp.length then 4 else 0
def xfgZ : List Int → Int
  | [] => 0
  | a :: r => if a ≠ 0 then a else xfgZ r
def xjrZ (p : List Fn) (e : Nat → Nat → Option (List Int)) (m : Mach) : Int := xfgZ [stErr m, blkErr m.blocks, xdoZ m, xdgZ m, xchZ p m, xb6Z p e m.blocks.length m.frames, xfbZ p m]
theorem xj0Z {l : List Int} : xfgZ l = 0 ↔ ∀ a ∈ l, a = 0 := by
  induction l with
  | nil => simp [xfgZ]
  | cons a r ih =>
    unfold xfgZ
    by_cases h : a = 0
    · rw [if_neg (by simpa using h), ih]; simp [h]
    · rw [if_pos h]; simp [h]
theorem xlgZ {p : List Fn} {e : Nat → Nat → Option (List Int)} (he : xa1Z p e) {k : Nat} {f : Fn} (hf : p[k]? = some f) {pc : Nat} {s0 : List Int} {g : Int} (hs : e k pc = some s0) (hc : f.2.2.2[pc]? = some (12, g)) : ∃ s, e k (pc + 1) = some s := by
  obtain ⟨o, out, h4, h5, h6⟩ := (he k f hf).1.on pc s0 hs
  rw [hc] at h4
  cases h4
  obtain ⟨_, s', h7, _⟩ := h6 (pc + 1) (xdjZ hc (by simp) (by simp))
  exact ⟨s', h7⟩
theorem fit_right {p : List Fn} {e : Nat → Nat → Option (List Int)} (he : xa1Z p e) {nb k : Nat} {f : Fn} {x : Frm} {next : Option Int} (hf : p[k]? = some f) (hx : x.fn = (k : Int)) (hn : ∀ g, next = some g → 0 ≤ g ∧ g < (p.length : Int)) : xceZ p e nb next x k f = 0 ↔ RightF p e nb next x k f := by
  constructor
  · intro h
    unfold xceZ at h
    split at h
    · cases h
    rename_i h1
    split at h
    · cases h
    rename_i h2
    split at h
    · cases h
    rename_i h3
    split at h
    · cases h
    rename_i h4
    split at h
    · cases h
    rename_i h5
    simp only [Bool.not_eq_false, Bool.and_eq_true, List.all_eq_true] at h2 h3 h4 h5
    refine ⟨hx, hf, h3, h2.1, h2.2, fun hnn => ?_, fun g hg => ?_⟩
    · subst hnn
      simp only [xccZ, Bool.and_eq_true, decide_eq_true_eq, Option.isSome_iff_exists] at h4
      obtain ⟨h6, s, h7⟩ := h4
      refine ⟨x.pc.toNat, s, by omega, h7, ?_⟩
      simpa [xc1Z, h7] using h5
    · subst hg
      simp only [xccZ, Bool.and_eq_true, decide_eq_true_eq, Option.isSome_iff_exists, beq_iff_eq] at h4
      obtain ⟨⟨h6, s0, h7⟩, h8⟩ := h4
      obtain ⟨s, h9⟩ := xlgZ he hf h7 h8
      obtain ⟨g0, g1⟩ := hn g rfl
      obtain ⟨h, hh⟩ := xaiZ (l := p) (k := g.toNat) (by omega)
      have e1 : (x.pc - 1).toNat + 1 = x.pc.toNat := by omega
      refine ⟨(x.pc - 1).toNat, s0, s, h, by omega, g0, h7, h8, h9, hh, ?_⟩
      rw [e1] at h9
      simpa [xc1Z, hh, h9] using h5
  · intro h
    unfold xceZ
    have h1 := xbaZ h.loc
    rw [if_neg (by simpa using h1)]
    have h2 : (x.loc.all (okV nb) && x.stk.all (okV nb)) = true := by
      rw [Bool.and_eq_true, List.all_eq_true, List.all_eq_true]
      exact ⟨h.okl, h.oks⟩
    rw [if_neg (by rw [h2]; decide), if_neg (by rw [h.loc]; decide)]
    cases next with
    | none =>
      obtain ⟨pc, s, h3, h4, h5⟩ := h.inner rfl
      have e1 : x.pc.toNat = pc := by omega
      rw [if_neg (by simp [xccZ, e1, h4]; omega), if_neg (by simp [xc1Z, e1, h4, h5])]
    | some g =>
      obtain ⟨pc, s0, s, hh, h3, h4, h5, h6, h7, h8, h9⟩ := h.outer g rfl
      have e1 : x.pc.toNat = pc + 1 := by omega
      have e2 : (x.pc - 1).toNat = pc := by omega
      rw [if_neg (by simp [xccZ, e2, h5, h6]; omega), if_neg]
      simp only [xc1Z, e1, h8, h7, Option.getD_some]
      rw [h9]
      decide
theorem head_at {α : Type} (l : List α) : l.head? = l[0]? := by cases l <;> rfl
theorem xemZ {p : List Fn} {e : Nat → Nat → Option (List Int)} (he : xa1Z p e) {nb : Nat} : ∀ {F : List Frm}, F.all (xb7Z p) = true → (xb6Z p e nb F = 0 ↔ ∀ (i : Nat) (x : Frm), F[i]? = some x → ∃ k f, RightF p e nb ((F[i + 1]?).map Frm.fn) x k f)
  | [], _ => by simp [xb6Z]
  | x :: r, h => by
    simp only [List.all_cons, Bool.and_eq_true] at h
    obtain ⟨hx, hr⟩ := h
    have hx' := hx
    simp only [xb7Z, Bool.and_eq_true, decide_eq_true_eq] at hx
    obtain ⟨f, hf⟩ := xaiZ (l := p) (k := x.fn.toNat) (by omega)
    have hn : ∀ g, r.head?.map Frm.fn = some g → 0 ≤ g ∧ g < (p.length : Int) := by
      intro g hg
      cases r with
      | nil => simp at hg
      | cons y q =>
        simp at hg
        subst hg
        simp only [List.all_cons, Bool.and_eq_true, xb7Z, decide_eq_true_eq] at hr
        exact hr.1
    have key := fit_right (nb := nb) he hf (x := x) (by omega) hn
    have ih := xemZ (nb := nb) he hr
    unfold xb6Z
    rw [hf]
    simp only
    constructor
    · intro h
      by_cases h0 : xceZ p e nb (r.head?.map Frm.fn) x x.fn.toNat f = 0
      · rw [if_neg (by simpa using h0)] at h
        intro i y hy
        cases i with
        | zero =>
          simp at hy
          subst hy
          refine ⟨x.fn.toNat, f, ?_⟩
          have := key.1 h0
          rw [head_at] at this
          simpa using this
        | succ i => simpa using ih.1 h i y (by simpa using hy)
      · rw [if_pos h0] at h
        exact absurd h h0
    · intro h
      obtain ⟨k, f', h1⟩ := h 0 x rfl
      have e1 : k = x.fn.toNat := by have := h1.fn; omega
      subst e1
      have e2 : f' = f := by have := h1.at_; rw [hf] at this; exact (Option.some.inj this).symm
      subst e2
      have h2 : xceZ p e nb (r.head?.map Frm.fn) x x.fn.toNat f' = 0 := key.2 (by rw [head_at]; simpa using h1)
      rw [if_neg (by simpa using h2)]
      exact ih.2 fun i y hy => by simpa using h (i + 1) y (by simpa using hy)
theorem xk9Z {p : List Fn} {e : Nat → Nat → Option (List Int)} (he : xa1Z p e) {m : Mach} : xjrZ p e m = 0 ↔ RightM p e m := by
  unfold xjrZ
  rw [xj0Z]
  simp only [List.mem_cons, List.not_mem_nil, or_false, forall_eq_or_imp, forall_eq]
  constructor
  · rintro ⟨h1, h2, h3, h4, h5, h6, h7⟩
    have hst : 0 ≤ m.status ∧ m.status ≤ 3 ∧ ((m.status = 3 → 1 ≤ m.trap ∧ m.trap ≤ 5) ∧ (m.status ≠ 3 → m.trap = 0)) := by
      unfold stErr at h1
      split at h1
      · cases h1
      split at h1
      · cases h1
      omega
    have hbx : (m.inp.length ≤ 10 ∧ ∀ n ∈ m.inp, isI32 n = true) ∧ (m.out.length ≤ 10 ∧ ∀ n ∈ m.out, isI32 n = true) := by
      unfold xdoZ at h3
      split at h3
      · cases h3
      split at h3
      · rename_i a b
        simp only [Bool.and_eq_true, List.all_eq_true] at b
        exact ⟨⟨by omega, b.1⟩, ⟨by omega, b.2⟩⟩
      · cases h3
    have hdp : m.frames.length ≤ 6 ∧ (m.frames = [] ↔ m.status = 2) := by
      unfold xdgZ at h4
      rw [← List.length_eq_zero_iff]
      split at h4
      · cases h4
      split at h4
      · cases h4
      split at h4
      · cases h4
      omega
    have hfa : m.frames.all (xb7Z p) = true ∧ ∀ x, m.frames[0]? = some x → x.fn = 0 := by
      unfold xchZ at h5
      split at h5
      · cases h5
      rename_i a
      refine ⟨by simpa using a, fun x hx => ?_⟩
      cases hm : m.frames with
      | nil => rw [hm] at hx; simp at hx
      | cons y r =>
        rw [hm] at hx h5
        simp at hx h5
        subst hx
        exact h5
    refine ⟨⟨hst.1, hst.2.1⟩, hst.2.2, h2, hbx.1, hbx.2, hdp, hfa.2, (xemZ he hfa.1).1 h6, fun hw => ?_⟩
    unfold xfbZ at h7
    rw [if_neg (by simpa using hw)] at h7
    have hne : m.frames ≠ [] := fun h0 => by have := hdp.2.1 h0; omega
    obtain ⟨x, hx⟩ : ∃ x, m.frames.getLast? = some x := ⟨_, List.getLast?_eq_some_getLast hne⟩
    have hi : m.frames[m.frames.length - 1]? = some x := by rw [← hx, List.getLast?_eq_getElem?]
    obtain ⟨k, f, hr⟩ := (xemZ he hfa.1).1 h6 _ x hi
    rw [show m.frames[m.frames.length - 1 + 1]? = none from List.getElem?_eq_none (by omega)] at hr
    obtain ⟨pc, s, o, out, g1, g2, g3, g4, _⟩ := xfsZ he hr
    have hk : x.fn.toNat = k := by have := hr.fn; omega
    have hlo : xcfZ p m = some o := by
      unfold xcfZ
      rw [hx]
      simp only [Option.bind_some, hk, hr.at_]
      rw [show x.pc.toNat = pc by omega]
      exact g4
    rw [hlo] at h7
    simp only at h7
    split at h7
    · cases h7
    rename_i a
    refine ⟨List.length_eq_zero_iff.1 (by omega), x, k, f, o, hx, hr.fn, hr.at_, by rw [show x.pc.toNat = pc by omega]; exact g4, by omega⟩
  · intro h
    have hfa : m.frames.all (xb7Z p) = true := by
      rw [List.all_eq_true]
      intro x hx
      obtain ⟨i, hi⟩ := List.getElem?_of_mem hx
      obtain ⟨k, f, hr⟩ := h.each i x hi
      have := xaeZ hr.at_
      have := hr.fn
      simp [xb7Z]
      omega
    refine ⟨?_, h.blocks, ?_, ?_, ?_, (xemZ he hfa).2 h.each, ?_⟩
    · unfold stErr
      have := h.status
      have := h.trap
      rw [if_neg (by omega), if_neg (by omega)]
    · unfold xdoZ
      have a := h.inp
      have b := h.out
      rw [if_neg (by omega), if_pos]
      rw [Bool.and_eq_true, List.all_eq_true, List.all_eq_true]
      exact ⟨a.2, b.2⟩
    · unfold xdgZ
      have := h.depth
      rw [← List.length_eq_zero_iff] at this
      rw [if_neg (by omega), if_neg (by omega), if_neg (by omega)]
    · unfold xchZ
      rw [if_neg (by rw [hfa]; decide)]
      cases hm : m.frames with
      | nil => rfl
      | cons x r =>
        simp only
        rw [if_neg]
        simpa using h.first x (by rw [hm]; rfl)
    · unfold xfbZ
      by_cases hw : m.status = 1
      · rw [if_neg (by simpa using hw)]
        obtain ⟨h1, x, k, f, o, h2, h3, h4, h5, h6⟩ := h.wait hw
        have hlo : xcfZ p m = some o := by
          unfold xcfZ
          rw [h2]
          simp only [Option.bind_some, show x.fn.toNat = k by omega, h4, h5]
        rw [hlo]
        simp only
        rw [if_neg]
        rw [h1]
        simp [h6]
      · rw [if_pos hw]
end Go.Proofs.YtmjjkenblfndgaaGreat


/- has, flowBegun. -/
namespace Go.Proofs.YtmjjkenblfndgaaGreat
open Go.RowKit
set_option linter.unusedSimpArgs false
set_option linter.unusedVariables false
theorem loop_ops (w : World) : Calls Tryz.prog 84 #[] w fun e w' => ∃ v, e = .returned v ∧ OpsAt w' v loopOps ∧ Below w.heap.size w w' := by
  refine (loop_any w).mono ?_
  rintro e w1 ⟨rfl, hw1⟩
  have hb1 : Below w.heap.size w w1 := by rw [hw1]; exact (Below.refl _ w).alloc (Nat.le_refl _) _
  have hh1 : w1.heap[w.heap.size]? = some (.cells (xfvZ loopOps).toArray 86 (0, 0)) := by rw [hw1]; exact World.alloc_heap_new w _
  exact ⟨_, rfl, xhbZ (l := loopOps) (m := []) 10 10 (by simpa using hh1) rfl (by unfold maxLen; decide), hb1⟩
theorem xbgZ {w : World} {b : Nat} {l : List Int} {t : TypeId} {fz : Nat × Nat} (n cap : Nat) (h : w.heap[b]? = some (.cells (l.map (Value.int .i64)).toArray t fz)) (hn : n = l.length) (hm : l.length ≤ maxLen) : IntsAt w (.slice (some ⟨b, 0, none⟩) n cap) l := by
  subst hn
  refine ⟨_, cap, rfl, hm, fun k z hk => ⟨b, 0, rfl, xacZ h, ?_⟩⟩
  rw [xaaZ h]
  simp [hk]
end Go.Proofs.YtmjjkenblfndgaaGreat


/- Blocks in memory. -/
namespace Go.Proofs.YtmjjkenblfndgaaGreat
open Go.RowKit
set_option linter.unusedSimpArgs false
set_option linter.unusedVariables false
def BlksAt (w : World) (v : Value) (L : List (List Int)) : Prop :=
  ∃ (p : Option Addr) (cap : Nat), v = .slice p L.length cap ∧ L.length ≤ maxLen ∧ ∀ k b, L[k]? = some b →
    ∃ g off c, p = some ⟨g, off, none⟩ ∧ g < w.heap.size ∧ w.cell? ⟨g, off + k, none⟩ = some c ∧ IntsAt w c b ∧ NilOk c ∧ b.length ≤ 17592186044416
theorem BlksAt.below {w w' : World} {v : Value} {L : List (List Int)} (h : BlksAt w v L) (hb : Below w.heap.size w w') : BlksAt w' v L := by
  obtain ⟨p, cap, rfl, hm, hc⟩ := h
  refine ⟨p, cap, rfl, hm, fun k b hk => ?_⟩
  obtain ⟨g, off, c, rfl, hlt, h0, h1, h2, h3⟩ := hc k b hk
  exact ⟨g, off, c, rfl, Nat.lt_of_lt_of_le hlt hb.size, (hb.cell (p := ⟨g, off + k, none⟩) hlt).trans h0, h1.below hb, h2, h3⟩
structure BRows (W : World) (B : Nat) (q : List Value) (L : List (List Int)) : Prop where
  len : q.length = L.length
  each : ∀ (k : Nat) (x : Value) (b : List Int), q[k]? = some x → L[k]? = some b → W.ownsRow B 3 1 x b.length (b.map (Value.int .i64))
  apart : ∀ (i j : Nat) (x y : Value) (g : Nat), q[i]? = some x → q[j]? = some y → x.ownBlock = some g → y.ownBlock = some g → i = j
  small : ∀ b ∈ L, b.length ≤ 17592186044416
def xecZ (W : World) (B : Nat) (v : Value) (L : List (List Int)) : Prop := ∃ q, W.ownsRow B 46 1 v q.length q ∧ BRows W B q L
theorem xisZ (W : World) (B : Nat) : BRows W B [] [] := ⟨rfl, fun k x b h => by simp at h, fun i j x y g h => by simp at h, fun b h => by simp at h⟩
theorem xedZ (W : World) (B : Nat) : xecZ W B (.slice none 0 0) [] := ⟨[], World.ownsRow_nil _ _ _ _, xisZ W B⟩
theorem BRows.low {W : World} {B B' : Nat} {q : List Value} {L : List (List Int)} (h : BRows W B q L) (hB : B' ≤ B) : BRows W B' q L :=
  ⟨h.len, fun k x b h1 h2 => xapZ (h.each k x b h1 h2) hB, h.apart, h.small⟩
theorem BRows.same {W W' : World} {B : Nat} {q : List Value} {L : List (List Int)} (h : BRows W B q L) (hk : ∀ (k : Nat) (x : Value) (g : Nat), q[k]? = some x → x.ownBlock = some g → W'.heap[g]? = W.heap[g]?) : BRows W' B q L :=
  ⟨h.len, fun k x b h1 h2 => xayZ (h.each k x b h1 h2) fun g hg => hk k x g h1 hg, h.apart, h.small⟩
theorem BRows.below {W W' : World} {B : Nat} {q : List Value} {L : List (List Int)} (h : BRows W B q L) (hb : Below W.heap.size W W') : BRows W' B q L :=
  h.same fun k x g h1 hg => by
    obtain ⟨b, h2⟩ := xaiZ (l := L) (k := k) (by rw [← h.len]; exact xaeZ h1)
    exact hb.block g ((h.each k x b h1 h2).lt g hg).2
theorem BRows.lt {W : World} {B : Nat} {q : List Value} {L : List (List Int)} (h : BRows W B q L) {k : Nat} {x : Value} {g : Nat} (hx : q[k]? = some x) (hg : x.ownBlock = some g) : B ≤ g ∧ g < W.heap.size ∧ ∃ cs, W.heap[g]? = some (.cells cs 3 (0, 0)) := by
  obtain ⟨b, h2⟩ := xaiZ (l := L) (k := k) (by rw [← h.len]; exact xaeZ hx)
  have hr := h.each k x b hx h2
  refine ⟨(hr.lt g hg).1, (hr.lt g hg).2, ?_⟩
  rcases hr.2 with ⟨rfl, _⟩ | ⟨g', cap, cur, rfl, _, hh, _⟩
  · cases hg
  · cases hg; exact ⟨_, hh⟩
theorem BRows.snoc' {W : World} {B : Nat} {q : List Value} {L : List (List Int)} {x : Value} {b : List Int} (h : BRows W B q L) (hx : W.ownsRow B 3 1 x b.length (b.map (Value.int .i64))) (hn : ∀ (k : Nat) (y : Value) (g : Nat), q[k]? = some y → y.ownBlock = some g → x.ownBlock ≠ some g) (hs : b.length ≤ 17592186044416) : BRows W B (q ++ [x]) (L ++ [b]) := by
  have key : ∀ (k : Nat) (y : Value), (q ++ [x])[k]? = some y → (k < q.length ∧ q[k]? = some y) ∨ (k = q.length ∧ y = x) := by
    intro k y hk
    by_cases hl : k < q.length
    · rw [List.getElem?_append_left hl] at hk; exact .inl ⟨hl, hk⟩
    · rw [List.getElem?_append_right (by omega)] at hk
      have h0 : k - q.length = 0 := by have := xaeZ hk; simp at this; omega
      rw [h0] at hk; simp at hk
      exact .inr ⟨by omega, hk.symm⟩
  refine ⟨by simp [h.len], fun k y c hy hc => ?_, fun i j y z g hy hz gy gz => ?_, fun c hc => ?_⟩
  · rcases key k y hy with ⟨h1, h2⟩ | ⟨rfl, rfl⟩
    · rw [List.getElem?_append_left (by rw [← h.len]; exact h1)] at hc
      exact h.each k y c h2 hc
    · rw [List.getElem?_append_right (by rw [h.len]; omega), h.len, Nat.sub_self] at hc
      simp at hc; subst hc
      exact hx
  · rcases key i y hy with ⟨h1, h2⟩ | ⟨rfl, rfl⟩
    · rcases key j z hz with ⟨h3, h4⟩ | ⟨rfl, rfl⟩
      · exact h.apart i j y z g h2 h4 gy gz
      · exact absurd gz (hn i y g h2 gy)
    · rcases key j z hz with ⟨h3, h4⟩ | ⟨rfl, rfl⟩
      · exact absurd gy (hn j z g h4 gz)
      · rfl
  · rcases List.mem_append.1 hc with hc | hc
    · exact h.small c hc
    · simp at hc; subst hc; exact hs
theorem BRows.snoc {W : World} {B B' : Nat} {q : List Value} {L : List (List Int)} {x : Value} {b : List Int} (h : BRows W B q L) (hx : W.ownsRow B' 3 1 x b.length (b.map (Value.int .i64))) (hB : B ≤ B') (hn : ∀ (k : Nat) (y : Value) (g : Nat), q[k]? = some y → y.ownBlock = some g → g < B') (hs : b.length ≤ 17592186044416) : BRows W B (q ++ [x]) (L ++ [b]) :=
  h.snoc' (xapZ hx hB) (fun k y g h1 h2 h3 => by
    have := hn k y g h1 h2
    have := (hx.lt g h3).1
    omega) hs
theorem xlqZ {W : World} {B : Nat} {p : Option Addr} {cap : Nat} {q : List Value} {L : List (List Int)} (hr : BRows W B q L) (hm : L.length ≤ maxLen) (hp : ∀ k x, q[k]? = some x → ∃ g off, p = some ⟨g, off, none⟩ ∧ g < W.heap.size ∧ W.cell? ⟨g, off + k, none⟩ = some x) : BlksAt W (.slice p L.length cap) L := by
  refine ⟨p, cap, rfl, hm, fun k b hk => ?_⟩
  obtain ⟨x, hx⟩ := xaiZ (l := q) (k := k) (by rw [hr.len]; exact xaeZ hk)
  obtain ⟨g, off, h1, h2, h3⟩ := hp k x hx
  have h4 := hr.each k x b hx hk
  exact ⟨g, off, x, h1, h2, h3, xbyZ rfl h4, xd0Z h4, hr.small b (List.mem_of_getElem? hk)⟩
theorem xbxZ {W : World} {B : Nat} {v : Value} {L : List (List Int)} (h : xecZ W B v L) : BlksAt W v L := by
  obtain ⟨q, h1, h2⟩ := h
  rcases h1.2 with ⟨rfl, h0⟩ | ⟨g, cap, cur, rfl, hb, hg, hn, hc, hs, ht⟩
  · have hL : L = [] := List.eq_nil_of_length_eq_zero (by rw [← h2.len]; exact h0)
    subst hL
    exact ⟨none, 0, rfl, Nat.zero_le _, fun k b hk => by simp at hk⟩
  · rw [h2.len]
    refine xlqZ h2 (by rw [← h2.len]; omega) fun k x hx => ⟨g, 0, rfl, xacZ hg, ?_⟩
    have hk := xaeZ hx
    rw [← ht, List.getElem?_take_of_lt (by omega)] at hx
    rw [xaaZ hg]; simpa using hx
theorem xadZ {a b c : World} (h : Below a.heap.size a b) (k : Below b.heap.size b c) : Below a.heap.size a c := h.trans (k.mono h.size)
end Go.Proofs.YtmjjkenblfndgaaGreat


