/- My texts Pk Jk Jl: what of them is needed, joined. -/
import Derived.Laws.EntriesVeiled
import Derived.Deep.Cut
import Derived.Test.YtgmkmlenhhhgkaaGreatF3
import Derived.Test.YtgmkmlenhhhgkaaGreatF8
import Derived.Test.YtgmkmlenhhhgkaaGreatF9
set_option maxRecDepth 100000
set_option maxHeartbeats 8000000
/- Entries as they are reckoned, plainly: what a visit may do, and that it ends. -/
namespace Go.Proofs.YtgmkmlenhhhgkaaGreat
open Go.RowKit
set_option linter.unusedSimpArgs false
set_option linter.unusedVariables false
abbrev Ents := List (Option (List Int))
def ent (E : Ents) (k : Nat) : Option (List Int) := (E[k]?).getD none
theorem ent_at {E : Ents} {k : Nat} {x : Option (List Int)} (h : E[k]? = some x) : ent E k = x := by simp [ent, h]
theorem xfsZ {E : Ents} {k : Nat} {s : List Int} (h : ent E k = some s) : E[k]? = some (some s) := by
  unfold ent at h
  cases e : E[k]? with
  | none => rw [e] at h; simp at h
  | some x => rw [e] at h; simp at h; subst h; rfl
theorem ent_set (E : Ents) (k x : Nat) (s : List Int) (hk : k < E.length) : ent (E.set k (some s)) x = if x = k then some s else ent E x := by
  unfold ent
  by_cases h : x = k
  · subst h; simp [hk]
  · rw [if_neg h, List.getElem?_set_ne (fun e => h e.symm)]
def m1 : Option (List Int) → Nat
  | none => 9
  | some s => s.count 3
def mu : Ents → Nat
  | [] => 0
  | x :: r => m1 x + mu r
theorem mu_set : ∀ (E : Ents) (k : Nat) (x : Option (List Int)) (y : Option (List Int)), E[k]? = some x → m1 y < m1 x → mu (E.set k y) < mu E
  | [], k, x, y, h, _ => by simp at h
  | z :: r, 0, x, y, h, hm => by simp at h; subst h; simp [mu]; omega
  | z :: r, k + 1, x, y, h, hm => by
    have := mu_set r k x y (by simpa using h) hm
    simp only [List.set_cons_succ, mu]
    omega
theorem xe6Z : ∀ {s t : List Int}, leS s t = true → t.count 3 ≤ s.count 3
  | [], [], _ => Nat.le_refl _
  | [], _ :: _, h => by simp [leS] at h
  | _ :: _, [], h => by simp [leS] at h
  | a :: r, b :: q, h => by
    simp [leS] at h
    have ih := xe6Z h.2
    have hs := h.1
    simp [xalZ] at hs
    rw [List.count_cons, List.count_cons]
    rcases hs with rfl | ⟨rfl, rfl⟩
    · omega
    · simp; omega
theorem xe7Z : ∀ {s t : List Int}, leS s t = true → s ≠ t → t.count 3 < s.count 3
  | [], [], _, hn => absurd rfl hn
  | [], _ :: _, h, _ => by simp [leS] at h
  | _ :: _, [], h, _ => by simp [leS] at h
  | a :: r, b :: q, h, hn => by
    simp [leS] at h
    have hs := h.1
    simp [xalZ] at hs
    rw [List.count_cons, List.count_cons]
    rcases hs with rfl | ⟨rfl, rfl⟩
    · have ih := xe7Z h.2 (fun e => hn (by rw [e]))
      omega
    · have ih := xe6Z h.2
      simp; omega
theorem mu_mono : ∀ {E E' : Ents}, E'.length = E.length → (∀ k s, ent E' k = some s → s.length ≤ 8) → leE (ent E) (ent E') → mu E' ≤ mu E
  | [], E', h, _, _ => by
    have : E' = [] := List.eq_nil_of_length_eq_zero (by simpa using h)
    subst this; exact Nat.le_refl _
  | x :: r, [], h, _, _ => by simp at h
  | x :: r, y :: q, h, h8, hle => by
    have ih := mu_mono (E := r) (E' := q) (by simpa using h) (fun k s hk => h8 (k + 1) s (by simpa [ent] using hk)) (fun k s hk => by
      have := hle (k + 1) s (by simpa [ent] using hk)
      simpa [ent] using this)
    have h0 : m1 y ≤ m1 x := by
      cases x with
      | none =>
        cases y with
        | none => exact Nat.le_refl _
        | some s =>
          have := h8 0 s (by simp [ent])
          have := List.count_le_length (a := (3 : Int)) (l := s)
          simp only [m1]; omega
      | some s =>
        obtain ⟨s', h1, h2⟩ := hle 0 s (by simp [ent])
        simp [ent] at h1
        subst h1
        exact xe6Z h2
    simp only [mu]; omega
def DoneAt (p : List Fn) (f : Fn) (e : Nat → Option (List Int)) (x : Nat) : Prop := ∃ s o out, e x = some s ∧ f.2.2.2[x]? = some o ∧ tryOp p f o s = some out ∧ ∀ to, goesOn f.2.2.2 x to = true → to < f.2.2.2.length ∧ ∃ s', e to = some s' ∧ leS out s' = true
theorem leE_refl (e : Nat → Option (List Int)) : leE e e := fun pc s h => ⟨s, h, xb2Z s⟩
theorem leE_trans {e e' e'' : Nat → Option (List Int)} (h : leE e e') (k : leE e' e'') : leE e e'' := fun pc s hs => by
  obtain ⟨s1, h1, h2⟩ := h pc s hs
  obtain ⟨s2, h3, h4⟩ := k pc s1 h1
  exact ⟨s2, h3, xb0Z h2 h4⟩
theorem DoneAt.mono {p : List Fn} {f : Fn} {e e' : Nat → Option (List Int)} {x : Nat} (h : DoneAt p f e x) (hle : leE e e') (hx : e' x = e x) : DoneAt p f e' x := by
  obtain ⟨s, o, out, h1, h2, h3, h4⟩ := h
  refine ⟨s, o, out, hx.trans h1, h2, h3, fun to hto => ?_⟩
  obtain ⟨h5, s', h6, h7⟩ := h4 to hto
  obtain ⟨s2, h8, h9⟩ := hle to s' h6
  exact ⟨h5, s2, h8, xb0Z h7 h9⟩
structure Went (p : List Fn) (f : Fn) (E E' : Ents) : Prop where
  le : leE (ent E) (ent E')
  done : ∀ x, ent E' x = ent E x ∨ DoneAt p f (ent E') x
theorem Went.refl (p : List Fn) (f : Fn) (E : Ents) : Went p f E E := ⟨leE_refl _, fun _ => .inl rfl⟩
theorem Went.trans {p : List Fn} {f : Fn} {E E' E'' : Ents} (h : Went p f E E') (k : Went p f E' E'') : Went p f E E'' := by
  refine ⟨leE_trans h.le k.le, fun x => ?_⟩
  rcases k.done x with h1 | h1
  · rcases h.done x with h2 | h2
    · exact .inl (h1.trans h2)
    · exact .inr (h2.mono k.le h1)
  · exact .inr h1
theorem went_set {p : List Fn} {f : Fn} {E E' : Ents} {k : Nat} {s out : List Int} {o : Int × Int} (hk : k < E.length) (hle : ∀ s0, ent E k = some s0 → leS s0 s = true) (ho : f.2.2.2[k]? = some o) (ht : tryOp p f o s = some out) (hw : Went p f (E.set k (some s)) E') (hto : ∀ to, goesOn f.2.2.2 k to = true → to < f.2.2.2.length ∧ ∃ s', ent E' to = some s' ∧ leS out s' = true) :
    Went p f E E' ∧ ∃ s', ent E' k = some s' ∧ leS s s' = true := by
  have hset := fun x => ent_set E k x s hk
  have hk' : ∃ s', ent E' k = some s' ∧ leS s s' = true := hw.le k s (by rw [hset, if_pos rfl])
  refine ⟨⟨fun x s0 hs0 => ?_, fun x => ?_⟩, hk'⟩
  · by_cases e : x = k
    · subst e
      obtain ⟨s', h1, h2⟩ := hk'
      exact ⟨s', h1, xb0Z (hle s0 hs0) h2⟩
    · exact hw.le x s0 (by rw [hset, if_neg e]; exact hs0)
  · rcases hw.done x with h1 | h1
    · by_cases e : x = k
      · subst e
        rw [hset, if_pos rfl] at h1
        exact .inr ⟨s, o, out, h1, ho, ht, hto⟩
      · rw [hset, if_neg e] at h1
        exact .inl h1
    · exact .inr h1
structure OkFn (p : List Fn) (f : Fn) : Prop where
  ops : ∀ o ∈ f.2.2.2, OkOp p f o
  flow : flowErr f.2.2.2 = 0
  loc : ∀ t ∈ f.2.1, 1 ≤ t ∧ t ≤ 2
  res : ∀ g ∈ p, 0 ≤ g.2.2.1 ∧ g.2.2.1 ≤ 2
theorem okFn {p : List Fn} {f : Fn} (hp : xakZ p = 0) (hf : f ∈ p) : OkFn p f := by
  obtain ⟨_, h5, hall, _⟩ := xdqZ hp
  have parts : ∀ g ∈ p, g.2.1.length ≤ 6 ∧ 0 ≤ g.1 ∧ g.1 ≤ (g.2.1.length : Int) ∧ (∀ t ∈ g.2.1, 1 ≤ t ∧ t ≤ 2) ∧ 0 ≤ g.2.2.1 ∧ g.2.2.1 ≤ 2 ∧ g.2.2.2.length ≠ 0 ∧ xaoZ g.2.2.2 = 0 ∧ ∀ o ∈ g.2.2.2, xa7Z o g p.length = true := by
    intro g hg
    have h := hall g hg
    unfold fnErr at h
    by_cases h1 : 6 < g.2.1.length
    · rw [if_pos h1] at h; cases h
    rw [if_neg h1] at h
    by_cases h2 : g.1 < 0 ∨ (g.2.1.length : Int) < g.1
    · rw [if_pos h2] at h; cases h
    rw [if_neg h2] at h
    by_cases h3 : xb9Z g = false
    · rw [if_pos h3] at h; cases h
    rw [if_neg h3] at h
    by_cases h4 : g.2.2.2.length = 0
    · rw [if_pos h4] at h; cases h
    rw [if_neg h4] at h
    by_cases h6 : xaoZ g.2.2.2 = 0
    · rw [if_neg (by simp [h6])] at h
      by_cases h7 : (g.2.2.2.all fun o => xa7Z o g p.length) = false
      · rw [if_pos h7] at h; cases h
      · simp only [Bool.not_eq_false] at h3 h7
        simp only [xb9Z, Bool.and_eq_true, decide_eq_true_eq] at h3
        refine ⟨by omega, by omega, by omega, fun t ht => ?_, h3.2.1, h3.2.2, h4, h6, List.all_eq_true.1 h7⟩
        have := List.all_eq_true.1 h3.1 t ht
        simp [xb5Z] at this
        omega
    · rw [if_pos h6] at h; exact absurd h h6
  obtain ⟨a1, a2, a3, a4, a5, a6, a7, a8, a9⟩ := parts f hf
  refine ⟨fun o ho => ?_, ?_, a4, fun g hg => ⟨(parts g hg).2.2.2.2.1, (parts g hg).2.2.2.2.2.1⟩⟩
  · have hn := a9 o ho
    have hc := (chk_zero ((xcbZ _ a8).2 o ho)).1
    refine ⟨by simpa [xblZ] using hc, fun h => ?_, fun h => ?_, fun g hg => ⟨(parts g hg).2.1, (parts g hg).2.2.1, (parts g hg).1, (parts g hg).2.2.2.2.1⟩, ⟨a1, a5⟩⟩
    · unfold xa7Z at hn
      rw [if_pos (by simpa using h)] at hn
      simpa [isNum] using hn
    · unfold xa7Z at hn
      rw [if_neg (by simp [h]), if_neg (by simp [h]), if_pos (by simp [h])] at hn
      simpa [isNum] using hn
  · unfold flowErr
    rw [if_neg (by simp [a8]), if_neg a7, if_neg]
    intro hany
    obtain ⟨o, ho, hb⟩ := List.any_eq_true.1 hany
    have hn := a9 o ho
    simp only [badTo, Bool.and_eq_true, Bool.not_eq_true'] at hb
    unfold xa7Z at hn
    have h10 : o.1 = 10 ∨ o.1 = 11 := by simpa using hb.1
    rw [if_neg (by simp; omega), if_pos hb.1] at hn
    have := hb.2
    simp only [isNum] at hn
    rw [hn] at this
    cases this
def tyL (s : List Int) : Prop := ∀ t ∈ s, xawZ t = true
theorem tyL_all {s : List Int} (h : tyL s) : s.all xawZ = true := List.all_eq_true.2 h
theorem try_types {p : List Fn} {f : Fn} {o : Int × Int} {s out : List Int} (hf : OkFn p f) (ho : o ∈ f.2.2.2) (hs : tyL s) (h : tryOp p f o s = some out) : tyL out ∧ out.length ≤ 8 := by
  unfold tryOp at h
  obtain ⟨⟨t, l⟩, h1, h2⟩ := Option.bind_eq_some_iff.1 h
  simp only at h2
  split at h2
  · rename_i hc
    cases h2
    refine ⟨?_, hc.2.2⟩
    have hdrop : ∀ k, ∀ x ∈ s.drop k, xawZ x = true := fun k x hx => hs x (List.mem_of_mem_drop hx)
    have hl : ∀ x ∈ l, xawZ x = true := by
      have hok := hf.ops o ho
      have hr : ∀ g ∈ p, ∀ x ∈ (if 0 < g.2.2.1 then [g.2.2.1] else []), xawZ x = true := by
        intro g hg x hx
        split at hx
        · simp at hx; subst hx
          have := hf.res g hg
          simp [xawZ]; omega
        · simp at hx
      unfold xajZ at h1
      by_cases c2 : o.1 = 2
      · rw [if_pos c2] at h1
        split at h1
        · cases h1
        · cases h1; intro x hx; simp at hx
      rw [if_neg c2] at h1
      by_cases c3 : o.1 = 3
      · rw [if_pos c3] at h1
        split at h1
        · cases h1
        · cases h1
          intro x hx
          rcases List.mem_append.1 hx with hx | hx
          · exact hdrop _ x hx
          · exact hdrop _ x hx
      rw [if_neg c3] at h1
      by_cases c4 : o.1 = 4
      · rw [if_pos c4] at h1
        split at h1
        · cases h1
        · cases h1
          intro x hx
          exact hdrop _ x (List.mem_reverse.1 hx)
      rw [if_neg c4] at h1
      by_cases c12 : o.1 = 12
      · rw [if_pos c12] at h1
        obtain ⟨g, hg, he⟩ := Option.map_eq_some_iff.1 h1
        cases he
        exact hr g (List.mem_of_getElem? hg)
      rw [if_neg c12] at h1
      by_cases c13 : o.1 = 13
      · rw [if_pos c13] at h1
        by_cases hl13 : s.length = (if 0 < f.2.2.1 then [f.2.2.1] else []).length
        · rw [if_pos hl13] at h1; cases h1; intro x hx; simp at hx
        · rw [if_neg hl13] at h1; cases h1
      rw [if_neg c13] at h1
      cases h1
      intro x hx
      simp only [xcjZ, List.mem_map] at hx
      obtain ⟨y, hy, rfl⟩ := hx
      by_cases hy0 : y = 0
      · rw [if_pos hy0]
        subst hy0
        have c8 : o.1 = 8 := by
          rcases Decidable.em (o.1 = 8) with h8 | h8
          · exact h8
          · rcases Decidable.em (o.1 = 9) with h9 | h9
            · rw [h9] at hy; simp [xa6Z] at hy
            · exact absurd rfl ((plain_nz h8 h9).2 0 hy)
        have hlc := hok.loc (.inl c8)
        obtain ⟨z, hz⟩ := xagZ (l := f.2.1) (k := o.2.toNat) (by omega)
        rw [List.getD_eq_getElem?_getD, hz]
        have := hf.loc z (List.mem_of_getElem? hz)
        simp [xawZ]; omega
      · rw [if_neg hy0]
        have hy3 : y = 1 ∨ y = 2 ∨ y = 3 := by
          unfold xa6Z at hy
          repeat' split at hy
          all_goals simp at hy <;> omega
        simp [xawZ]; omega
    intro x hx
    rcases List.mem_append.1 hx with hx | hx
    · exact hs x (List.mem_of_mem_take hx)
    · exact hl x hx
  · cases h2
theorem join_types {a b j : List Int} (ha : tyL a) (hb : tyL b) (h : joinL a b = some j) : tyL j := by
  induction a generalizing b j with
  | nil =>
    cases b with
    | nil => cases h; intro t ht; simp at ht
    | cons _ _ => cases h
  | cons x r ih =>
    cases b with
    | nil => cases h
    | cons y q =>
      simp only [joinL] at h
      obtain ⟨t, ht, h2⟩ := Option.bind_eq_some_iff.1 h
      obtain ⟨l, hl, rfl⟩ := Option.map_eq_some_iff.1 h2
      intro z hz
      rcases List.mem_cons.1 hz with rfl | hz
      · unfold joinT at ht
        split at ht
        · cases ht; exact ha _ (by simp)
        · split at ht
          · cases ht; rfl
          · cases ht
      · exact ih (fun t ht => ha t (by simp [ht])) (fun t ht => hb t (by simp [ht])) hl z hz
end Go.Proofs.YtgmkmlenhhhgkaaGreat


/- verify.fit's closures: what lies in memory, and the round over the next places. -/
namespace Go.Proofs.YtgmkmlenhhhgkaaGreat
open Go.RowKit
set_option linter.unusedSimpArgs false
set_option linter.unusedVariables false
structure Wr (Rs Rm : Nat) (w w' : World) : Prop where
  os : w'.os = w.os
  tape : w'.tape = w.tape
  output : w'.output = w.output
  size : w.heap.size ≤ w'.heap.size
  block : ∀ k, k < w.heap.size → k ≠ Rs → k ≠ Rm → w'.heap[k]? = w.heap[k]?
theorem Wr.refl (Rs Rm : Nat) (w : World) : Wr Rs Rm w w := ⟨rfl, rfl, rfl, Nat.le_refl _, fun _ _ _ _ => rfl⟩
theorem Wr.trans {Rs Rm : Nat} {a b c : World} (h : Wr Rs Rm a b) (k : Wr Rs Rm b c) : Wr Rs Rm a c :=
  ⟨k.os.trans h.os, k.tape.trans h.tape, k.output.trans h.output, Nat.le_trans h.size k.size, fun j hj h1 h2 => (k.block j (Nat.lt_of_lt_of_le hj h.size) h1 h2).trans (h.block j hj h1 h2)⟩
theorem Wr.of_below {Rs Rm : Nat} {w w' : World} (h : Below w.heap.size w w') : Wr Rs Rm w w' := ⟨h.os, h.tape, h.output, h.size, fun k hk _ _ => h.block k hk⟩
theorem Wr.of_grown {Rs Rm r : Nat} {w w' : World} (h : w.grownBy w' (some r)) (hr : r = Rs ∨ r = Rm) : Wr Rs Rm w w' :=
  ⟨h.os, h.tape, h.output, h.size, fun k hk h1 h2 => h.block k hk (fun e => by cases e; rcases hr with h | h <;> omega)⟩
structure FB where
  pv : Value
  c0 : Value
  c1 : Value
  c2 : Value
  c3 : Value
  bf : Nat
  bm : Nat
  bs : Nat
  bp : Nat
  bc : Nat
  Rs : Nat
  Rm : Nat
abbrev caps (x : FB) : Array Value := #[.pointer (some ⟨x.bf, 0, none⟩), .pointer (some ⟨x.bm, 0, none⟩), .pointer (some ⟨x.bs, 0, none⟩), .pointer (some ⟨x.bp, 0, none⟩), .pointer (some ⟨x.bc, 0, none⟩)]
structure FI (x : FB) (W0 : World) (p : List Fn) (f : Fn) (E : Ents) (w : World) : Prop where
  bel : Below W0.heap.size W0 w
  len : E.length = f.2.2.2.length
  hRm : w.heap[x.Rm]? = some (.cells ((E.map Option.isSome).map Value.bool).toArray 4 (0, 0))
  hRs : ∃ V : List Value, V.length = E.length ∧ w.heap[x.Rs]? = some (.cells V.toArray 25 (0, 0)) ∧ (∀ v ∈ V, ∃ p n c, v = .slice p n c) ∧ ∀ (k : Nat) (s : List Int), E[k]? = some (some s) → ∃ v, V[k]? = some v ∧ IntsAt w v s ∧ NilOk v
  hbm : w.heap[x.bm]? = some (.cells #[.slice (some ⟨x.Rm, 0, none⟩) E.length E.length] 69 (0, 0))
  hbs : w.heap[x.bs]? = some (.cells #[.slice (some ⟨x.Rs, 0, none⟩) E.length E.length] 62 (0, 0))
  hbf : w.heap[x.bf]? = some (.cells #[x.c0, x.c1, x.c2, x.c3] 28 (0, 0))
  hbp : w.heap[x.bp]? = some (.cells #[x.pv] 24 (0, 0))
  hbc : w.heap[x.bc]? = some (.cells #[.func (.func 60) #[] (caps x)] 96 (0, 0))
  ok : ∀ (k : Nat) (s : List Int), E[k]? = some (some s) → s.length ≤ 8 ∧ tyL s
theorem IntsAt.wr {Rs Rm : Nat} {w w' : World} {v : Value} {l : List Int} {V : List Value} {B : List Bool} {t t' : TypeId} {fz fz' : Nat × Nat} (h : IntsAt w v l) (hs : w.heap[Rs]? = some (.cells V.toArray t fz)) (hV : ∀ v ∈ V, ∃ p n c, v = .slice p n c) (hm : w.heap[Rm]? = some (.cells (B.map Value.bool).toArray t' fz')) (hw : Wr Rs Rm w w') : IntsAt w' v l := by
  obtain ⟨p, c, rfl, hl, hc⟩ := h
  refine ⟨p, c, rfl, hl, fun k z hk => ?_⟩
  obtain ⟨b, off, rfl, hb, g⟩ := hc k z hk
  have n1 : b ≠ Rs := fun e => by
    subst e
    rw [xaaZ hs] at g
    have g2 : V[off + k]? = some (Value.int .i64 z) := by simpa using g
    obtain ⟨_, _, _, h⟩ := hV _ (List.mem_of_getElem? g2)
    cases h
  have n2 : b ≠ Rm := fun e => by
    subst e
    rw [xaaZ hm] at g
    simp at g
  exact ⟨b, off, rfl, Nat.lt_of_lt_of_le hb hw.size, (World.cell?_of_block (hw.block b hb n1 n2)).trans g⟩
theorem FI.ints {x : FB} {W0 : World} {p : List Fn} {f : Fn} {E : Ents} {w w' : World} {v : Value} {l : List Int} (h : FI x W0 p f E w) (hv : IntsAt w v l) (hw : Wr x.Rs x.Rm w w') : IntsAt w' v l := by
  obtain ⟨V, _, h2, h3, _⟩ := h.hRs
  exact hv.wr h2 h3 h.hRm hw
theorem FI.below {x : FB} {W0 : World} {p : List Fn} {f : Fn} {E : Ents} {w w' : World} (h : FI x W0 p f E w) (hb : Below w.heap.size w w') : FI x W0 p f E w' := by
  obtain ⟨V, h1, h2, h3, h4⟩ := h.hRs
  refine ⟨h.bel.trans (hb.mono h.bel.size), h.len, (hb.block _ (xabZ h.hRm)).trans h.hRm, ⟨V, h1, (hb.block _ (xabZ h2)).trans h2, h3, fun k s hk => ?_⟩, (hb.block _ (xabZ h.hbm)).trans h.hbm, (hb.block _ (xabZ h.hbs)).trans h.hbs, (hb.block _ (xabZ h.hbf)).trans h.hbf, (hb.block _ (xabZ h.hbp)).trans h.hbp, (hb.block _ (xabZ h.hbc)).trans h.hbc, h.ok⟩
  obtain ⟨v, a, b, c⟩ := h4 k s hk
  exact ⟨v, a, b.below hb, c⟩
def ComeP (x : FB) (W0 : World) (p : List Fn) (f : Fn) (E : Ents) (k : Nat) (s : List Int) (w : World) (e : Ending) (w' : World) : Prop :=
  ∃ ok E', e = .returned (.bool ok) ∧ FI x W0 p f E' w' ∧ Wr x.Rs x.Rm w w' ∧
    (∀ e', FitsBy p f e' → leE (ent E) e' → (∃ s', e' k = some s' ∧ leS s s' = true) → ok = true ∧ leE (ent E') e') ∧
    (ok = true → Went p f E E' ∧ k < f.2.2.2.length ∧ ∃ s', ent E' k = some s' ∧ leS s s' = true)
def ComeH (x : FB) (W0 : World) (p : List Fn) (f : Fn) (n : Nat) : Prop :=
  ∀ (E : Ents) (k : Nat) (s : List Int) (vs : Value) (w : World), mu E ≤ n → FI x W0 p f E w → k ≤ f.2.2.2.length → IntsAt w vs s → NilOk vs → s.length ≤ 8 → tyL s →
    Calls Tryz.prog 60 (#[.int .i64 k, vs] ++ caps x) w (ComeP x W0 p f E k s w)
theorem come1_any (x : FB) (W0 : World) (p : List Fn) (f : Fn) (n : Nat) (ih : ComeH x W0 p f n) (E : Ents) (k bl : Nat) (s : List Int) (vs : Value) (w : World) (hmu : mu E ≤ n) (hI : FI x W0 p f E w) (hk : k ≤ f.2.2.2.length) (hl : w.heap[bl]? = some (.cells #[vs] 25 (0, 0))) (hv : IntsAt w vs s) (hn : NilOk vs) (h8 : s.length ≤ 8) (ht : tyL s) :
    Calls Tryz.prog 63 #[.int .i64 k, .pointer (some ⟨x.bc, 0, none⟩), .pointer (some ⟨bl, 0, none⟩)] w fun e w' => ∃ e1, ComeP x W0 p f E k s w e1 w' ∧ ∃ ok, e1 = .returned (.bool ok) ∧ e = .returned (.bool (!ok)) := by
  have c1 := xaaZ hI.hbc 0
  have c2 := xaaZ hl 0
  simp at c1 c2
  have HC := hideP (ih E k s vs w hmu hI hk hv hn h8 ht)
  obtain ⟨pv, cv, hvs, _, _⟩ := id hv
  subst hvs
  dsimp only [caps] at c1
  clear hI hl hv ih
  go_enter Tryz.func63, Tryz.ntmps63
  go_wp2_with fail
  refine HC.out.mono ?_
  rintro e w2 ⟨ok, E', rfl, h1, h2, h3, h4⟩
  go_wp2
  go_ret
  exact ⟨_, ⟨ok, E', rfl, h1, h2, h3, h4⟩, ok, rfl, rfl⟩
def AllP (x : FB) (W0 : World) (p : List Fn) (f : Fn) (E : Ents) (L : List Nat) (s : List Int) (w : World) (ok : Bool) (w' : World) : Prop :=
  ∃ E', FI x W0 p f E' w' ∧ Wr x.Rs x.Rm w w' ∧
    (∀ e', FitsBy p f e' → leE (ent E) e' → (∀ k ∈ L, ∃ s', e' k = some s' ∧ leS s s' = true) → ok = true ∧ leE (ent E') e') ∧
    (ok = true → Went p f E E' ∧ ∀ k ∈ L, k < f.2.2.2.length ∧ ∃ s', ent E' k = some s' ∧ leS s s' = true)
def IdxP (x : FB) (W0 : World) (p : List Fn) (f : Fn) (E : Ents) (L : List Nat) (s : List Int) (w : World) (e : Ending) (w' : World) : Prop := ∃ r ok, e = .returned (.int .i64 r) ∧ decide (0 ≤ r) = !ok ∧ AllP x W0 p f E L s w ok w'
theorem ents8 {x : FB} {W0 : World} {p : List Fn} {f : Fn} {E : Ents} {w : World} (h : FI x W0 p f E w) : ∀ k s, ent E k = some s → s.length ≤ 8 := fun k s hs => (h.ok k s (xfsZ hs)).1
theorem xhjZ (x : FB) (W0 : World) (p : List Fn) (f : Fn) (n : Nat) (ih : ComeH x W0 p f n) (E : Ents) (L : List Nat) (bl : Nat) (s : List Int) (vs : Value) (pL : Option Addr) (cL : Nat) (w : World) (hmu : mu E ≤ n) (hI : FI x W0 p f E w) (hL : ∀ k ∈ L, k ≤ f.2.2.2.length) (hl : w.heap[bl]? = some (.cells #[vs] 25 (0, 0))) (hbl : bl ≠ x.Rs ∧ bl ≠ x.Rm) (hv : IntsAt w vs s) (hn : NilOk vs) (h8 : s.length ≤ 8) (ht : tyL s) (hvL : IntsAt w (.slice pL L.length cL) (L.map Int.ofNat)) (hLl : L.length ≤ 41) :
    Calls Tryz.prog 68 #[.slice pL L.length cL, .func (.func 63) #[] #[.pointer (some ⟨x.bc, 0, none⟩), .pointer (some ⟨bl, 0, none⟩)]] w (IdxP x W0 p f E L s w) := by
  have HI := hideP hI
  have HV := hideP hv
  have HVL := hideP hvL
  have HL := hideP hL
  have HLB := hideP hl
  clear hI hv hvL hL hl
  go_enter Tryz.func68, Tryz.ntmps68
  go_wp2
  go_loopw [5, 8] (fun _ i wr => ∃ (j : Nat) (E' : Ents), j ≤ L.length ∧ i = .int .i64 j ∧ FI x W0 p f E' wr ∧ Wr x.Rs x.Rm w wr ∧ (∀ e', FitsBy p f e' → leE (ent E) e' → (∀ k ∈ L, ∃ s', e' k = some s' ∧ leS s s' = true) → leE (ent E') e') ∧ Went p f E E' ∧ ∀ k ∈ L.take j, k < f.2.2.2.length ∧ ∃ s', ent E' k = some s' ∧ leS s s' = true) (fun _ i _ => L.length - (intOf i).toNat)
  case atStart => exact ⟨0, E, Nat.zero_le _, rfl, HI.out, Wr.refl _ _ _, fun _ _ h _ => h, Went.refl _ _ _, by simp⟩
  case round =>
    rename World => w2
    obtain ⟨j, E2, hj, rfl, hI2, hw2, hso, hwe, hall⟩ := hrel
    by_cases hjl : j < L.length
    · have hjli : (j : Int) < (L.length : Int) := by omega
      obtain ⟨k, hk⟩ := xagZ hjl
      have hvL2 := HI.out.ints HVL.out hw2
      have hv2 := HI.out.ints HV.out hw2
      have hlb2 := (hw2.block bl (xabZ HLB.out) hbl.1 hbl.2).trans HLB.out
      have hmu2 : mu E2 ≤ n := Nat.le_trans (mu_mono (by rw [hI2.len, HI.out.len]) (ents8 hI2) hwe.le) hmu
      obtain ⟨p', c', he, _, hc⟩ := hvL2
      obtain ⟨b, off, hp, hb, g⟩ := hc j (Int.ofNat k) (by rw [List.getElem?_map, hk]; rfl)
      rw [List.length_map] at he
      cases he
      subst hp
      have g' : w2.cell? ⟨b, off + j, none⟩ = some (.int .i64 (k : Int)) := g
      have HC := hideP (come1_any x W0 p f n ih E2 k bl s vs w2 hmu2 hI2 (HL.out k (List.mem_of_getElem? hk)) hlb2 hv2 hn h8 ht)
      have HK := hideP hk
      have HALL := hideP hall
      have HSO := hideP hso
      have HWE := hideP hwe
      clear hc g hk hall hso hwe hI2 hlb2
      go_wp2_with fail
      refine HC.out.mono ?_
      rintro e w3 ⟨e1, ⟨ok, E3, rfl, hI3, hw3, hs3, ho3⟩, ok', hok, rfl⟩
      cases hok
      cases ok
      · go_wp2
        go_ret
        refine ⟨j, false, rfl, by simp, E3, hI3, hw2.trans hw3, fun e' hf hle hto => ?_, fun h => by cases h⟩
        have := hs3 e' hf (HSO.out e' hf hle hto) (hto k (List.mem_of_getElem? HK.out))
        exact absurd this.1 (by decide)
      · go_wp2
        go_roundw
        case rel =>
          obtain ⟨hwe3, hk3, hsk3⟩ := ho3 trivial
          refine ⟨j + 1, E3, by omega, by go_num, hI3, hw2.trans hw3, fun e' hf hle hto => ?_, HWE.out.trans hwe3, fun y hy => ?_⟩
          · exact (hs3 e' hf (HSO.out e' hf hle hto) (hto k (List.mem_of_getElem? HK.out))).2
          · rw [xavZ L j k HK.out] at hy
            rcases List.mem_append.1 hy with hy | hy
            · obtain ⟨h1, s', h2, h3⟩ := HALL.out y hy
              obtain ⟨s'', h4, h5⟩ := hwe3.le y s' h2
              exact ⟨h1, s'', h4, xb0Z h3 h5⟩
            · simp at hy
              subst hy
              exact ⟨hk3, hsk3⟩
        case measure => simp [intOf]; omega
    · have hjli : ¬ (j : Int) < (L.length : Int) := by omega
      have HI2 := hideP hI2
      have HALL := hideP hall
      have HSO := hideP hso
      have HWE := hideP hwe
      clear hI2 hall hso hwe
      go_wp2
      go_ret
      refine ⟨-1, true, rfl, by decide, E2, HI2.out, hw2, fun e' hf hle hto => ⟨rfl, HSO.out e' hf hle hto⟩, fun _ => ⟨HWE.out, ?_⟩⟩
      have := HALL.out
      rw [List.take_of_length_le (by omega)] at this
      exact this
theorem xfqZ (x : FB) (W0 : World) (p : List Fn) (f : Fn) (n : Nat) (ih : ComeH x W0 p f n) (E : Ents) (L : List Nat) (bl : Nat) (s : List Int) (vs : Value) (pL : Option Addr) (cL : Nat) (w : World) (hmu : mu E ≤ n) (hI : FI x W0 p f E w) (hL : ∀ k ∈ L, k ≤ f.2.2.2.length) (hl : w.heap[bl]? = some (.cells #[vs] 25 (0, 0))) (hbl : bl ≠ x.Rs ∧ bl ≠ x.Rm) (hv : IntsAt w vs s) (hn : NilOk vs) (h8 : s.length ≤ 8) (ht : tyL s) (hvL : IntsAt w (.slice pL L.length cL) (L.map Int.ofNat)) (hLl : L.length ≤ 41) :
    Calls Tryz.prog 42 #[.slice pL L.length cL, .func (.func 63) #[] #[.pointer (some ⟨x.bc, 0, none⟩), .pointer (some ⟨bl, 0, none⟩)]] w fun e w' => ∃ ok, e = .returned (.bool (!ok)) ∧ AllP x W0 p f E L s w ok w' := by
  have HX := hideP (xhjZ x W0 p f n ih E L bl s vs pL cL w hmu hI hL hl hbl hv hn h8 ht hvL hLl)
  clear ih hI hL hl hv hvL
  go_enter Tryz.func42, Tryz.ntmps42
  go_wp2_with fail
  refine HX.out.mono ?_
  rintro e w2 ⟨r, ok, rfl, hr, hA⟩
  have HR := hideP hr
  have HA := hideP hA
  clear hr hA
  go_wp2
  go_ret
  exact ⟨ok, by rw [← HR.out]; rfl, HA.out⟩
end Go.Proofs.YtgmkmlenhhhgkaaGreat


/- verify.fit's closure: a visit. -/
namespace Go.Proofs.YtgmkmlenhhhgkaaGreat
open Go.RowKit
set_option linter.unusedSimpArgs false
set_option linter.unusedVariables false
theorem xhyZ (l m : List Int) (v u : Value) (w : World) (hl : IntsAt w v l) (hm : IntsAt w u m) (hll : l.length = m.length) : Calls Tryz.prog 61 #[v, u] w fun e w' => e = .returned (.bool (decide (l = m))) ∧ Below w.heap.size w w' := by
  obtain ⟨p, cap, rfl, hl1, hc⟩ := hl
  obtain ⟨q, cap', rfl, hm1, hd⟩ := hm
  unfold maxLen at hl1
  have HC := hideP hc
  have HD := hideP hd
  rw [← hll]
  have HLL := hideP hll
  clear hc hd hll hm1
  go_enter Tryz.func61, Tryz.ntmps61
  go_wp2
  go_loopw [5, 13] (fun _ i wr => ∃ k : Nat, k ≤ l.length ∧ i = .int .i64 k ∧ (∀ j, j < k → l[j]? = m[j]?) ∧ Below w.heap.size w wr) (fun _ i _ => l.length - (intOf i).toNat)
  case atStart => exact ⟨0, Nat.zero_le _, rfl, fun j hj => by omega, Below.refl _ _⟩
  case round =>
    obtain ⟨k, hk, rfl, hok, hbw⟩ := hrel
    have HK := hideP hok
    clear hok
    by_cases hlt : k < l.length
    · obtain ⟨a, ha⟩ := xagZ hlt
      obtain ⟨b, hb⟩ := xagZ (show k < m.length by rw [← HLL.out]; exact hlt)
      obtain ⟨b1, o1, hp1, l1, g1⟩ := HC.out k a ha
      obtain ⟨b2, o2, hp2, l2, g2⟩ := HD.out k b hb
      subst hp1 hp2
      have d1 := (hbw.cell (p := ⟨b1, o1 + k, none⟩) l1).trans g1
      have d2 := (hbw.cell (p := ⟨b2, o2 + k, none⟩) l2).trans g2
      have hlti : (k : Int) < (l.length : Int) := by omega
      have HA := hideP ha
      have HB := hideP hb
      clear g1 g2 ha hb
      by_cases hab : a = b
      · subst hab
        have hne : (a != a) = false := by simp
        go_wp2_with fail
        go_quiet (fail)
        go_wp2
        go_roundw
        case rel =>
          refine ⟨k + 1, by omega, by go_num, fun j hj => ?_, hbw.trans ⟨rfl, rfl, rfl, Nat.le_refl _, fun _ _ => rfl⟩⟩
          rcases Nat.lt_succ_iff_lt_or_eq.1 hj with h | rfl
          · exact HK.out j h
          · rw [HA.out, HB.out]
        case measure => simp [intOf]; omega
      · have hne : (a != b) = true := by simp [hab]
        have HAB := hideP hab
        clear hab
        go_wp2_with fail
        go_quiet (fail)
        go_wp2
        go_ret
        refine ⟨?_, hbw.trans ⟨rfl, rfl, rfl, Nat.le_refl _, fun _ _ => rfl⟩⟩
        rw [decide_eq_false (fun e => by
          have h1 := HA.out
          rw [e, HB.out] at h1
          cases h1
          exact HAB.out rfl)]
        rfl
    · have hlt' : ¬ (k : Int) < (l.length : Int) := by omega
      go_wp2
      go_ret
      refine ⟨?_, hbw⟩
      rw [decide_eq_true (List.ext_getElem? fun j => by
        by_cases hj : j < l.length
        · exact HK.out j (by omega)
        · rw [List.getElem?_eq_none (by omega), List.getElem?_eq_none (by have := HLL.out; omega)])]
      rfl
theorem FI.put {x : FB} {W0 : World} {p : List Fn} {f : Fn} {E : Ents} {w w' : World} {k : Nat} {s : List Int} {v : Value} (h : FI x W0 p f E w) (hne : x.Rs ≠ x.Rm) (hs0 : W0.heap.size ≤ x.Rs) (hm0 : W0.heap.size ≤ x.Rm) (hk : k < E.length) (hv : IntsAt w v s) (hn : NilOk v) (h8 : s.length ≤ 8) (ht : tyL s) (hw : Wr x.Rs x.Rm w w')
    (hRs : ∀ V : List Value, w.heap[x.Rs]? = some (.cells V.toArray 25 (0, 0)) → w'.heap[x.Rs]? = some (.cells (V.set k v).toArray 25 (0, 0)))
    (hRm : ∀ M : List Bool, w.heap[x.Rm]? = some (.cells (M.map Value.bool).toArray 4 (0, 0)) → w'.heap[x.Rm]? = some (.cells ((M.set k true).map Value.bool).toArray 4 (0, 0))) : FI x W0 p f (E.set k (some s)) w' := by
  obtain ⟨V, h1, h2, h3, h4⟩ := h.hRs
  have hvs : ∃ p n c, v = .slice p n c := by obtain ⟨p, c, rfl, _⟩ := hv; exact ⟨_, _, _, rfl⟩
  have nb : ∀ (b : Nat) (c : Array Value) (t : TypeId), w.heap[b]? = some (.cells c t (0, 0)) → t ≠ 25 → t ≠ 4 → w'.heap[b]? = some (.cells c t (0, 0)) := by
    intro b c t hb n1 n2
    refine (hw.block b (xabZ hb) (fun e => ?_) (fun e => ?_)).trans hb
    · subst e; rw [h2] at hb; cases hb; exact n1 rfl
    · subst e; rw [h.hRm] at hb; cases hb; exact n2 rfl
  refine ⟨⟨hw.os.trans h.bel.os, hw.tape.trans h.bel.tape, hw.output.trans h.bel.output, Nat.le_trans h.bel.size hw.size, fun j hj => (hw.block j (Nat.lt_of_lt_of_le hj h.bel.size) (by omega) (by omega)).trans (h.bel.block j hj)⟩, by rw [List.length_set]; exact h.len, ?_, ⟨V.set k v, by simp [h1], hRs V h2, ?_, ?_⟩, ?_, ?_, nb _ _ _ h.hbf (by decide) (by decide), nb _ _ _ h.hbp (by decide) (by decide), nb _ _ _ h.hbc (by decide) (by decide), ?_⟩
  · have := hRm _ h.hRm
    rw [List.map_set]
    exact this
  · intro u hu
    rcases List.mem_or_eq_of_mem_set hu with h | h
    · exact h3 u h
    · subst h; exact hvs
  · intro j s' hj
    by_cases e : j = k
    · subst e
      rw [List.getElem?_set_self hk] at hj
      cases hj
      exact ⟨v, by rw [List.getElem?_set_self (by omega)], h.ints hv hw, hn⟩
    · rw [List.getElem?_set_ne (fun e2 => e e2.symm)] at hj
      obtain ⟨u, a, b, c⟩ := h4 j s' hj
      exact ⟨u, by rw [List.getElem?_set_ne (fun e2 => e e2.symm)]; exact a, h.ints b hw, c⟩
  · rw [List.length_set]; exact nb _ _ _ h.hbm (by decide) (by decide)
  · rw [List.length_set]; exact nb _ _ _ h.hbs (by decide) (by decide)
  · intro j s' hj
    by_cases e : j = k
    · subst e
      rw [List.getElem?_set_self hk] at hj
      cases hj
      exact ⟨h8, ht⟩
    · rw [List.getElem?_set_ne (fun e2 => e e2.symm)] at hj
      exact h.ok j s' hj
theorem xa5Z {w : World} {a b : Addr} {u v : Value} (h : w.cell? b = some v) (hn : b.block ≠ a.block) : (w.setCell a u).cell? b = some v := (World.cell?_of_block (Below.heap_setCell w a u b.block hn)).trans h
theorem xenZ {w : World} {a b : Addr} {u : Value} (h : w.frozen? b = false) (hn : b.block ≠ a.block) : (w.setCell a u).frozen? b = false := (World.frozen?_of_block (Below.heap_setCell w a u b.block hn)).trans h
theorem xc6Z (w : World) : w.drew.heap = w.heap := rfl
theorem box_after {W w3 : World} {o : Obj} (h : Below (W.alloc o).drew.heap.size (W.alloc o).drew w3) : w3.heap[W.heap.size]? = some o := by
  have h1 := h.block W.heap.size (by rw [xc6Z]; simp)
  rw [h1, xc6Z]
  exact World.alloc_heap_new W o
theorem come_any (x : FB) (W0 : World) (p : List Fn) (f : Fn) (hp : FnsAt W0 x.pv p) (hcp : CapAt W0 x.pv) (hf : FnAt W0 x.c0 x.c1 x.c2 x.c3 f) (hok : OkFn p f) (hne : x.Rs ≠ x.Rm) (hs0 : W0.heap.size ≤ x.Rs) (hm0 : W0.heap.size ≤ x.Rm) (n : Nat) : ComeH x W0 p f n := by
  have h40 := xb7Z hok.flow
  induction n using Nat.strongRecOn with
  | ind n ih =>
    intro E k s vs w hmu hI hk hv hn h8 ht
    obtain ⟨pv0, cv0, hvs, _, _⟩ := id hv
    have hfw := hf.below hI.bel
    obtain ⟨C3p, C3c, hC3, hC3m, hC3c⟩ := id hfw.2.2.2
    obtain ⟨P, L, r, C⟩ := f
    obtain ⟨e0, ⟨p1, q1, e1, _, _⟩, e2, _⟩ := id hfw
    simp only at e0 e1 e2 hC3 h40 hk
    have f0 := xaaZ hI.hbf 0
    have f1 := xaaZ hI.hbf 1
    have f2 := xaaZ hI.hbf 2
    have f3 := xaaZ hI.hbf 3
    have m0 := xaaZ hI.hbm 0
    have s0 := xaaZ hI.hbs 0
    have k0 := xaaZ hI.hbp 0
    rw [e0] at f0
    rw [e1] at f1
    rw [e2] at f2
    rw [hC3] at f3
    simp at f0 f1 f2 f3 m0 s0 k0
    subst hvs
    dsimp only [caps]
    have hlenE := hI.len
    simp only at hlenE
    rw [hlenE] at m0 s0
    have HI := hideP hI
    have HV := hideP hv
    have HN := hideP hn
    have HT := hideP ht
    have HIH := hideP ih
    clear hI hv hn ht ih hC3c
    by_cases hkl : k = C.length
    · have hkl' : ((k : Int) == (C.length : Int)) = true := by simp [hkl]
      have HK := hideP hkl
      clear hkl
      go_enter Tryz.func60, Tryz.ntmps60
      go_wp2
      go_ret
      refine ⟨false, E, rfl, HI.out, Wr.refl _ _ _, fun e' hfit _ hto => ?_, fun h => by cases h⟩
      obtain ⟨s', h1, _⟩ := hto
      obtain ⟨o, _, h2, _⟩ := hfit.on k s' h1
      have := xauZ h2
      have hk2 := HK.out
      simp only at this
      omega
    · have hkl' : ((k : Int) == (C.length : Int)) = false := by simp; omega
      have hkC : k < C.length := by omega
      have hkCi : (k : Int) < (C.length : Int) := by omega
      have hkE : k < E.length := by omega
      obtain ⟨ek, hek⟩ := xagZ hkE
      have mk : w.cell? ⟨x.Rm, k, none⟩ = some (.bool ek.isSome) := by
        rw [xaaZ HI.out.hRm]
        simp [hek]
      have HEK := hideP hek
      clear hkl
      by_cases hmet : ∃ s0, ek = some s0
      case' neg =>
        have hek0 : ek = none := by cases ek with | none => rfl | some s0 => exact absurd ⟨s0, rfl⟩ hmet
        subst hek0
        simp only [Option.isSome_none] at mk
        obtain ⟨w1, rfl⟩ : ∃ w1, w1 = w := ⟨_, rfl⟩
        obtain ⟨s1, rfl⟩ : ∃ s1, s1 = s := ⟨_, rfl⟩
        obtain ⟨pj, rfl⟩ : ∃ pj, pj = pv0 := ⟨_, rfl⟩
        obtain ⟨cj, rfl⟩ : ∃ cj, cj = cv0 := ⟨_, rfl⟩
        have hent : ent E k = none := ent_at HEK.out
        have HI1 := HI
        have HW1 := hideP (Wr.refl x.Rs x.Rm w1)
        have HV1 := HV
        have HN1 := HN
        have H81 := h8
        have HT1 := HT
        have HLE1 := hideP (show ∀ s0, ent E k = some s0 → leS s0 s1 = true from fun s0 h => by rw [hent] at h; cases h)
        have HMU1 := hideP (mu_set E k none (some s1) HEK.out (by have := List.count_le_length (a := (3 : Int)) (l := s1); simp only [m1]; omega))
        have HSS := hideP (xb2Z s1)
        have HST := hideP (show ∀ e', FitsBy p (P, L, r, C) e' → leE (ent E) e' → (∃ s', e' k = some s' ∧ leS s1 s' = true) → ∃ s', e' k = some s' ∧ leS s1 s' = true from fun _ _ _ h => h)
        clear hent
        go_enter Tryz.func60, Tryz.ntmps60
        go_wp2_with fail
      case' pos =>
        obtain ⟨sm, rfl⟩ := hmet
        simp only [Option.isSome_some] at mk
        obtain ⟨V0, hV01, hV02, hV03, hV04⟩ := HI.out.hRs
        obtain ⟨vk0, hvk0, hvi, hvn⟩ := hV04 k sm HEK.out
        have skk : w.cell? ⟨x.Rs, k, none⟩ = some vk0 := by rw [xaaZ hV02]; simp [hvk0]
        have lbs0 := xabZ HI.out.hbs
        have lRs0 := xabZ hV02
        have hokm := HI.out.ok k sm HEK.out
        obtain ⟨pk, ck, hvk, _, _⟩ := id hvi
        subst hvk
        have hjr := xe4Z (tyL_all hokm.2) (tyL_all HT.out) hokm.1 h8
        have hJ := xfdZ sm s _ _ w hvi HV.out
        have hent : ent E k = some sm := ent_at HEK.out
        have HVI := hideP hvi
        clear hV01 hV02 hV03 hV04 hvk0 hvi
        by_cases hj : ∃ j, joinL sm s = some j
        case' neg =>
          have hjn : joinL sm s = none := by cases h : joinL sm s with | none => rfl | some j => exact absurd ⟨j, h⟩ hj
          rw [hjn] at hjr
          have hje : xbdZ sm s = 4 := hjr
          rw [hje] at hJ
          have HJ := hideP hJ
          have HJN := hideP hjn
          have HENT := hideP hent
          clear hJ hj hjn hje hjr hent
          go_enter Tryz.func60, Tryz.ntmps60
          go_wp2_with fail
          refine HJ.out.mono ?_
          rintro e w3 ⟨u3, rfl, r3, hb3⟩
          clear r3
          go_wp2
          go_ret
          refine ⟨false, E, rfl, HI.out.below hb3, Wr.of_below hb3, fun e' hfit hle hto => ?_, fun h => by cases h⟩
          obtain ⟨s', h1, h2⟩ := hto
          obtain ⟨s2, h3, h4⟩ := hle k sm HENT.out
          rw [h1] at h3
          cases h3
          obtain ⟨j, h5, _⟩ := xeeZ h4 h2
          rw [HJN.out] at h5
          cases h5
        case' pos =>
          obtain ⟨s1, hj⟩ := hj
          rw [hj] at hjr
          have hje : xbdZ sm s = 0 := hjr
          have hjR : joinR sm s = s1 := by rw [joinR, if_pos hje, hj]; rfl
          rw [hje, hjR] at hJ
          have hst := xe5Z hj
          have hlj := xdpZ _ _ _ hj
          have htj := join_types hokm.2 HT.out hj
          have HJ := hideP hJ
          have HENT := hideP hent
          have HST0 := hideP hst
          have HJS := hideP hj
          have HTJ := hideP htj
          have hlen1 : s1.length = sm.length := hlj.1
          have H81 : s1.length ≤ 8 := by rw [hlen1]; exact hokm.1
          have HLEN1 := hideP hlen1
          clear hJ hj hje hjr hent hjR hst htj hlj hlen1
          go_enter Tryz.func60, Tryz.ntmps60
          go_wp2_with fail
          refine HJ.out.mono ?_
          rintro e w3 ⟨u3, rfl, r3, hb3⟩
          obtain ⟨pj, cj, hu3⟩ := xahZ r3
          subst hu3
          have HV3a := hideP (xaqZ rfl r3)
          have HN3a := hideP (xc9Z r3)
          have s03 := (hb3.cell (p := ⟨x.bs, 0, none⟩) lbs0).trans s0
          have sk3 := (hb3.cell (p := ⟨x.Rs, k, none⟩) lRs0).trans skk
          have HEQ := hideP (xhyZ s1 sm _ _ w3 HV3a.out (HVI.out.below hb3) HLEN1.out)
          clear r3
          by_cases heq : s1 = sm
          case' pos =>
            rw [decide_eq_true heq] at HEQ
            have HEQ2 := hideP heq
            clear heq
            go_wp2_with fail
            refine HEQ.out.mono ?_
            rintro e w4 ⟨rfl, hb4⟩
            go_wp2
            go_ret
            have hb04 := hb3.trans (hb4.mono hb3.size)
            refine ⟨true, E, rfl, HI.out.below hb04, Wr.of_below hb04, fun e' hfit hle hto => ⟨rfl, hle⟩, fun _ => ⟨Went.refl _ _ _, hkC, sm, HENT.out, ?_⟩⟩
            have := HST0.out.2
            rw [HEQ2.out] at this
            exact this
          case' neg =>
            rw [decide_eq_false heq] at HEQ
            have HNEQ := hideP heq
            clear heq
            go_wp2_with fail
            refine HEQ.out.mono ?_
            rintro e w1 ⟨rfl, hb4⟩
            have hb04 := hb3.trans (hb4.mono hb3.size)
            have HI1 := hideP (HI.out.below hb04)
            have HW1 := hideP (Wr.of_below (Rs := x.Rs) (Rm := x.Rm) hb04)
            have HV1 := hideP (HV3a.out.below hb4)
            have HN1 := HN3a
            have HT1 := HTJ
            have HLE1 := hideP (show ∀ s0, ent E k = some s0 → leS s0 s1 = true from fun s0 h => by rw [HENT.out] at h; cases h; exact HST0.out.1)
            have HMU1 := hideP (mu_set E k (some sm) (some s1) HEK.out (xe7Z HST0.out.1 (fun e => HNEQ.out e.symm)))
            have HSS := hideP HST0.out.2
            have HST := hideP (show ∀ e', FitsBy p (P, L, r, C) e' → leE (ent E) e' → (∃ s', e' k = some s' ∧ leS s s' = true) → ∃ s', e' k = some s' ∧ leS s1 s' = true from fun e' hfit hle hto => by
              obtain ⟨s', h1, h2⟩ := hto
              obtain ⟨s2, h3, h4⟩ := hle k sm HENT.out
              rw [h1] at h3
              cases h3
              obtain ⟨j, h5, h6⟩ := xeeZ h4 h2
              rw [HJS.out] at h5
              cases h5
              exact ⟨s', h1, h6⟩)
            clear f0 f1 f2 f3 m0 k0 mk s03 sk3 skk
            go_wp2_with fail
      all_goals
        have F0 := xaaZ HI1.out.hbf 0
        have F1 := xaaZ HI1.out.hbf 1
        have F2 := xaaZ HI1.out.hbf 2
        have F3 := xaaZ HI1.out.hbf 3
        have M0 := xaaZ HI1.out.hbm 0
        have S0 := xaaZ HI1.out.hbs 0
        have K0 := xaaZ HI1.out.hbp 0
        rw [e0] at F0
        rw [e1] at F1
        rw [e2] at F2
        rw [hC3] at F3
        simp at F0 F1 F2 F3 M0 S0 K0
        rw [hlenE] at M0 S0
        obtain ⟨V, hV1, hV2, hV3, hV4⟩ := HI1.out.hRs
        obtain ⟨vk, hvk⟩ := xagZ (l := V) (k := k) (by omega)
        have sk : w1.cell? ⟨x.Rs, k, none⟩ = some vk := by rw [xaaZ hV2]; simp [hvk]
        have sz := Lib.frozen_of_heap hV2 k
        have mz := Lib.frozen_of_heap HI1.out.hRm k
        obtain ⟨bk, mk1⟩ : ∃ b, w1.cell? ⟨x.Rm, k, none⟩ = some (.bool b) := by
          rw [xaaZ HI1.out.hRm]
          simp [HEK.out]
        have HV2 := hideP hV2
        have hne2 : x.Rm ≠ x.Rs := fun e => hne e.symm
        have nbm : x.bm ≠ x.Rs := fun e => by have h := HI1.out.hbm; rw [e, hV2] at h; simp at h
        have nbs : x.bs ≠ x.Rm := fun e => by have h := HI1.out.hbs; rw [e, HI1.out.hRm] at h; simp at h
        have nbs2 : x.bs ≠ x.Rs := fun e => by have h := HI1.out.hbs; rw [e, hV2] at h; simp at h
        have nbm2 : x.bm ≠ x.Rm := fun e => by have h := HI1.out.hbm; rw [e, HI1.out.hRm] at h; simp at h
        have A1 := xa5Z (u := .slice pj s1.length cj) (a := ⟨x.Rs, k, none⟩) M0 nbm
        have A2 := xa5Z (u := .slice pj s1.length cj) (a := ⟨x.Rs, k, none⟩) mk1 hne2
        have A3 := xenZ (u := .slice pj s1.length cj) (a := ⟨x.Rs, k, none⟩) mz hne2
        have A4 := xa5Z (u := .slice pj s1.length cj) (a := ⟨x.Rs, k, none⟩) S0 nbs2
        have B1 := xa5Z (u := .bool true) (a := ⟨x.Rm, k, none⟩) S0 nbs
        have B2 := xa5Z (u := .bool true) (a := ⟨x.Rm, k, none⟩) sk hne
        have B3 := xenZ (u := .bool true) (a := ⟨x.Rm, k, none⟩) sz hne
        have B4 := xa5Z (u := .bool true) (a := ⟨x.Rm, k, none⟩) M0 nbm2
        clear hV1 hV2 hV3 hV4 hvk
        go_region
        obtain ⟨W2, hW2⟩ : ∃ W2, ((w1.setCell ⟨x.Rs, k, none⟩ (.slice pj s1.length cj)).setCell ⟨x.Rm, k, none⟩ (.bool true)).drew = W2 := ⟨_, rfl⟩
        have hwr2 : Wr x.Rs x.Rm w1 W2 := by
          rw [← hW2]
          exact ((Wr.of_grown (xbbZ w1 ⟨x.Rs, k, none⟩ _) (.inl rfl)).trans (Wr.of_grown (xbbZ _ ⟨x.Rm, k, none⟩ _) (.inr rfl))).trans ⟨rfl, rfl, rfl, Nat.le_refl _, fun _ _ _ _ => rfl⟩
        have hI2 : FI x W0 p (P, L, r, C) (E.set k (some s1)) W2 := by
          refine HI1.out.put hne hs0 hm0 hkE HV1.out HN1.out H81 HT1.out hwr2 (fun V h => ?_) (fun M h => ?_)
          · rw [← hW2]
            show ((w1.setCell ⟨x.Rs, k, none⟩ (.slice pj s1.length cj)).setCell ⟨x.Rm, k, none⟩ (.bool true)).heap[x.Rs]? = _
            rw [heap_setCell_other _ _ _ _ (by simpa using hne), heap_setCell_same w1 x.Rs k _ _ _ h]
            simp
          · rw [← hW2]
            show ((w1.setCell ⟨x.Rs, k, none⟩ (.slice pj s1.length cj)).setCell ⟨x.Rm, k, none⟩ (.bool true)).heap[x.Rm]? = _
            have h' : (w1.setCell ⟨x.Rs, k, none⟩ (.slice pj s1.length cj)).heap[x.Rm]? = some (.cells (M.map Value.bool).toArray 4 (0, 0)) := by rw [heap_setCell_other _ _ _ _ (by simpa using hne2)]; exact h
            rw [heap_setCell_same _ x.Rm k _ _ _ h', xg9Z]
        rw [hW2]
        have HV3 := hideP (HI1.out.ints HV1.out hwr2)
        have HI2 := hideP hI2
        have HW2 := hideP (HW1.out.trans hwr2)
        have hfw2 := hf.below hI2.bel
        obtain ⟨o, ho⟩ := xagZ hkC
        obtain ⟨C3p', C3c', hC3', _, hC3c⟩ := hfw2.2.2.2
        rw [hC3] at hC3'
        cases hC3'
        obtain ⟨bo, oo, hpo, hbo, go0, go1⟩ := hC3c k o ho
        subst hpo
        obtain ⟨oc, oa⟩ := o
        simp only at go0 go1
        have G0 := xaaZ hI2.hbf 0
        have G1 := xaaZ hI2.hbf 1
        have G2 := xaaZ hI2.hbf 2
        have G3 := xaaZ hI2.hbf 3
        have GK := xaaZ hI2.hbp 0
        rw [e0] at G0
        rw [e1] at G1
        rw [e2] at G2
        rw [hC3] at G3
        simp at G0 G1 G2 G3 GK
        have hmemo : (oc, oa) ∈ C := List.mem_of_getElem? ho
        have hbh : ∀ W : World, Below W2.heap.size W2 W → Calls Tryz.prog 62 #[.agg #[.int .i64 oc, .int .i64 oa], .slice pj s1.length cj, .agg #[x.pv], .agg #[.int .i64 P, .slice p1 L.length q1, .int .i64 r, .slice (some ⟨bo, oo, none⟩) C.length C3c]] W fun e w' => ∃ u, e = .returned (.tuple #[u, .bool (tryOp p (P, L, r, C) (oc, oa) s1).isSome]) ∧ (∀ out, tryOp p (P, L, r, C) (oc, oa) s1 = some out → w'.ownsRow W.heap.size 3 1 u out.length (out.map (Value.int .i64))) ∧ (∃ p n c, u = .slice p n c) ∧ Below W.heap.size W w' := by
          intro W hW
          have := behind_any oc oa p (P, L, r, C) s1 (.slice pj s1.length cj) x.pv x.c0 x.c1 x.c2 x.c3 W (hok.ops _ hmemo) H81 (HV3.out.below hW) HN1.out ((hp.below hI2.bel).below hW) ((hcp.below hp hI2.bel).below (hp.below hI2.bel) hW) (hfw2.below hW)
          rw [e0, e1, e2, hC3] at this
          exact this
        have HBH := hideP hbh
        have HO := hideP ho
        obtain ⟨pp, qp, hppv, _, _⟩ := id hp
        rw [hppv] at GK
        rw [hppv] at HBH
        clear hW2 hwr2 hI2 hfw2 hC3c ho hbh A1 A2 A3 A4 B1 B2 B3 B4 F0 F1 F2 F3 M0 S0 K0 sk sz mz mk1 HV2
        have G0' := fun o => xacZ G0 o
        have G1' := fun o => xacZ G1 o
        have G2' := fun o => xacZ G2 o
        have G3' := fun o => xacZ G3 o
        have GK' := fun o => xacZ GK o
        have go0' := fun o => xacZ go0 o
        have go1' := fun o => xacZ go1 o
        have lbf := xabZ HI2.out.hbf
        have lbp := xabZ HI2.out.hbp
        have bA : Below W2.heap.size W2 W2.drew := (Below.refl W2.heap.size W2).drew
        have bB : Below W2.heap.size W2 (W2.alloc (.cells #[.slice none 0 0] 25)).drew := ((Below.refl W2.heap.size W2).alloc (Nat.le_refl _) _).drew
        obtain ⟨tb, htb⟩ : ∃ tb, (tryOp p (P, L, r, C) (oc, oa) s1).isSome = tb := ⟨_, rfl⟩
        rw [htb] at HBH
        have HTB := hideP htb
        clear htb
        go_wp2_with fail
        go_cut [12, 13] from 50 (fun s12 s13 wx => ∃ (bl : Nat) (u : Value), s12 = .pointer (some ⟨bl, 0, none⟩) ∧ s13 = .bool tb ∧ W2.heap.size ≤ bl ∧ wx.heap[bl]? = some (.cells #[u] 25 (0, 0)) ∧ (∀ out, tryOp p (P, L, r, C) (oc, oa) s1 = some out → wx.ownsRow W2.heap.size 3 1 u out.length (out.map (Value.int .i64))) ∧ Below W2.heap.size W2 wx)
        case first =>
          try clear hp
          try clear hcp
          try clear hne
          try clear hs0
          try clear hm0
          try clear hmu
          try clear hf
          try clear hok
          try clear h40
          try clear hk
          try clear hC3m
          try clear e0
          try clear e1
          try clear e2
          try clear hlenE
          try clear HIH
          try clear hkl'
          try clear hkC
          try clear hkE
          try clear hfw
          try clear f0
          try clear f1
          try clear f2
          try clear f3
          try clear m0
          try clear s0
          try clear k0
          try clear HI
          try clear mk
          try clear h8
          try clear HT
          try clear HN
          try clear HV
          try clear HI1
          try clear HW1
          try clear HV1
          try clear HN1
          try clear H81
          try clear HT1
          try clear HLE1
          try clear HMU1
          try clear HSS
          try clear HST
          try clear hne2
          try clear nbm
          try clear nbs
          try clear nbs2
          try clear nbm2
          try clear HV3
          try clear HI2
          try clear HW2
          try clear hC3
          try clear hmemo
          try clear HO
          try clear hppv
          try clear HTB
          try clear HEK
          try clear hek
          try clear hmet
          try clear hokm
          try clear HVI
          try clear HENT
          try clear HST0
          try clear HJS
          try clear HTJ
          try clear HJ
          try clear HEQ
          try clear HNEQ
          try clear HV3a
          try clear HN3a
          try clear hvn
          try clear hb3
          try clear hb4
          try clear hb04
          try clear HLEN1
          go_region_held3 (fun W => W.cell? ⟨x.bf, 0, none⟩ = some (.int .i64 P) ∧ W.cell? ⟨x.bf, 1, none⟩ = some (.slice p1 L.length q1) ∧ W.cell? ⟨x.bf, 2, none⟩ = some (.int .i64 r) ∧ W.cell? ⟨x.bf, 3, none⟩ = some (.slice (some ⟨bo, oo, none⟩) C.length C3c) ∧ W.cell? ⟨x.bp, 0, none⟩ = some (.slice pp p.length qp) ∧ W.cell? ⟨bo, oo + k * 2, none⟩ = some (.int .i64 oc) ∧ W.cell? ⟨bo, oo + k * 2 + 1, none⟩ = some (.int .i64 oa)) (go_keep) (first
            | (go_at_call 62; with_reducible refine (HBH.out _ bA).mono ?_; rintro e w3 ⟨u, rfl, hout, ⟨pu, nu, cu, rfl⟩, hb3⟩; have hbw := bA.trans (hb3.mono bA.size); have v0 := (hbw.cell (p := ⟨x.bf, 0, none⟩) lbf).trans G0; have v1 := (hbw.cell (p := ⟨x.bf, 1, none⟩) lbf).trans G1; have v2 := (hbw.cell (p := ⟨x.bf, 2, none⟩) lbf).trans G2; have v3 := (hbw.cell (p := ⟨x.bf, 3, none⟩) lbf).trans G3; have v4 := (hbw.cell (p := ⟨x.bp, 0, none⟩) lbp).trans GK; have v5 := (hbw.cell (p := ⟨bo, oo + k * 2, none⟩) hbo).trans go0; have v6 := (hbw.cell (p := ⟨bo, oo + k * 2 + 1, none⟩) hbo).trans go1; have y0 := fun o => xacZ v0 o; have y1 := fun o => xacZ v1 o; have y2 := fun o => xacZ v2 o; have y3 := fun o => xacZ v3 o; have y4 := fun o => xacZ v4 o; have y5 := fun o => xacZ v5 o; have y6 := fun o => xacZ v6 o; have HOUT := hideP hout; clear hout)
            | (go_at_call 62; with_reducible refine (HBH.out _ bB).mono ?_; rintro e w3 ⟨u, rfl, hout, ⟨pu, nu, cu, rfl⟩, hb3⟩; have hbw := bB.trans (hb3.mono bB.size); have v0 := (hbw.cell (p := ⟨x.bf, 0, none⟩) lbf).trans G0; have v1 := (hbw.cell (p := ⟨x.bf, 1, none⟩) lbf).trans G1; have v2 := (hbw.cell (p := ⟨x.bf, 2, none⟩) lbf).trans G2; have v3 := (hbw.cell (p := ⟨x.bf, 3, none⟩) lbf).trans G3; have v4 := (hbw.cell (p := ⟨x.bp, 0, none⟩) lbp).trans GK; have v5 := (hbw.cell (p := ⟨bo, oo + k * 2, none⟩) hbo).trans go0; have v6 := (hbw.cell (p := ⟨bo, oo + k * 2 + 1, none⟩) hbo).trans go1; have qb := box_after hb3; have x0 := xa5Z (u := .slice pu nu cu) (a := ⟨W2.heap.size, 0, none⟩) v0 (Nat.ne_of_lt lbf); have x1 := xa5Z (u := .slice pu nu cu) (a := ⟨W2.heap.size, 0, none⟩) v1 (Nat.ne_of_lt lbf); have x2 := xa5Z (u := .slice pu nu cu) (a := ⟨W2.heap.size, 0, none⟩) v2 (Nat.ne_of_lt lbf); have x3 := xa5Z (u := .slice pu nu cu) (a := ⟨W2.heap.size, 0, none⟩) v3 (Nat.ne_of_lt lbf); have x4 := xa5Z (u := .slice pu nu cu) (a := ⟨W2.heap.size, 0, none⟩) v4 (Nat.ne_of_lt lbp); have x5 := xa5Z (u := .slice pu nu cu) (a := ⟨W2.heap.size, 0, none⟩) v5 (Nat.ne_of_lt hbo); have x6 := xa5Z (u := .slice pu nu cu) (a := ⟨W2.heap.size, 0, none⟩) v6 (Nat.ne_of_lt hbo); have qb0 := xaaZ qb 0; have qz0 := Lib.frozen_of_heap qb 0; have QB := hideP qb; clear qb; simp at qb0; have HOUT := hideP hout; clear hout))
          all_goals go_wp2_with fail
          · go_meet
            refine ⟨w3.heap.size, .slice pu nu cu, rfl, rfl, hbw.size, World.alloc_heap_new w3 _, fun out ho => ?_, hbw.alloc hbw.size _⟩
            exact (HOUT.out out ho).alloc _
          · go_meet
            have hgs := xbbZ w3 ⟨W2.heap.size, 0, none⟩ (.slice pu nu cu)
            refine ⟨W2.heap.size, .slice pu nu cu, rfl, rfl, Nat.le_refl _, ?_, fun out ho => ?_, hbw.setCell (p := ⟨W2.heap.size, 0, none⟩) (Nat.le_refl _) _⟩
            · have := heap_setCell_same w3 W2.heap.size 0 _ _ (.slice pu nu cu) QB.out
              simpa using this
            · have hr := HOUT.out out ho
              have hne : (Value.slice pu nu cu).ownBlock ≠ some W2.heap.size := fun e => by
                have := (hr.lt _ e).1
                rw [xc6Z] at this
                simp at this
                omega
              exact xa2Z (hr.kept hgs (.inr hne)) (by rw [xc6Z]; simp)
        case rest =>
          obtain ⟨bl, u, rfl, rfl, hbl, qbl, hrow, hbc⟩ := hcut
          have hIc := HI2.out.below hbc
          have HIC := hideP hIc
          have HWC := hideP (HW2.out.trans (Wr.of_below hbc))
          have c3 := (hbc.cell (p := ⟨x.bf, 3, none⟩) lbf).trans G3
          have hleE1 : ∀ e', FitsBy p (P, L, r, C) e' → leE (ent E) e' → (∃ s', e' k = some s' ∧ leS s1 s' = true) → leE (ent (E.set k (some s1))) e' := by
            intro e' hfit hle hto y sy hy
            rw [ent_set E k y s1 hkE] at hy
            by_cases e : y = k
            · subst e
              rw [if_pos rfl] at hy
              cases hy
              exact hto
            · rw [if_neg e] at hy
              exact hle y sy hy
          have hstep : ∀ e', FitsBy p (P, L, r, C) e' → leE (ent (E.set k (some s1))) e' → ∃ out, tryOp p (P, L, r, C) (oc, oa) s1 = some out ∧ ∀ to, goesOn C k to = true → ∃ s', e' to = some s' ∧ leS out s' = true := by
            intro e' hfit hle
            obtain ⟨o', out', h1, h2, h3⟩ := step_below hfit hle (pc := k) (s := s1) (by rw [ent_set E k k s1 hkE, if_pos rfl])
            have h1' : C[k]? = some o' := h1
            rw [HO.out] at h1'
            cases h1'
            exact ⟨out', h2, fun to hto => by obtain ⟨_, s', h4, h5, _⟩ := h3 to hto; exact ⟨s', h4, h5⟩⟩
          have HLE := hideP hleE1
          have HSTEP := hideP hstep
          clear hleE1 hstep
          cases tb
          · have HROW := hideP hrow
            clear hrow hIc
            go_wp2
            go_ret
            refine ⟨false, _, rfl, HIC.out, HWC.out, fun e' hfit hle hto => ?_, fun h => by cases h⟩
            obtain ⟨out, ho, _⟩ := HSTEP.out e' hfit (HLE.out e' hfit hle (HST.out e' hfit hle hto))
            have := HTB.out
            rw [ho] at this
            cases this
          · obtain ⟨out, hout⟩ := Option.isSome_iff_exists.1 HTB.out
            have hrow' := hrow out hout
            obtain ⟨tyo, leo⟩ := try_types hok hmemo HT1.out hout
            have hIu := xaqZ rfl hrow'
            have hNu := xc9Z hrow'
            obtain ⟨pu, cu, hu⟩ := xahZ hrow'
            subst hu
            have hnx := xezZ C k _ wc ((hf.below hIc.bel).2.2.2)
            have hne0 : xb4Z C k = 0 := by rw [xb4Z, if_neg (by simp [hok.flow]), if_neg (by omega)]
            have hnr : nextR C k = (nextL C k).map Int.ofNat := by rw [nextR, if_pos hne0]; rfl
            rw [hne0, hnr, hC3] at hnx
            have hbadC := (xa4Z hok.flow).2.2
            have hmemL : ∀ to, to ∈ nextL C k ↔ goesOn C k to = true := fun to => xdtZ hbadC
            have hleL : ∀ to ∈ nextL C k, to ≤ C.length := fun to h => xcrZ hbadC ((hmemL to).1 h)
            have hLl : (nextL C k).length ≤ 41 := by
              have := List.length_filter_le (goesOn C k) (List.range (C.length + 1))
              unfold nextL
              rw [List.length_range] at this
              omega
            obtain ⟨NL, hNL⟩ : ∃ NL, nextL C k = NL := ⟨_, rfl⟩
            rw [hNL] at hnx hmemL hleL hLl
            have HNX := hideP hnx
            have HML := hideP hmemL
            have HLL := hideP hleL
            have HOUT := hideP hout
            have HIU := hideP hIu
            have HNU := hideP hNu
            have HTY := hideP tyo
            have hRs := xabZ HI2.out.hRm
            have hRs2 : x.Rs < W2.heap.size := by obtain ⟨V', _, h2, _⟩ := HI2.out.hRs; exact xabZ h2
            have HQB := hideP qbl
            clear hnx hmemL hleL hNL hout hIu hNu tyo hrow' hrow hIc hne0 hnr qbl
            go_wp2_with fail
            refine HNX.out.mono ?_
            rintro e w5 ⟨v5, rfl, r5, hb5⟩
            obtain ⟨p5, c5, hv5⟩ := xahZ r5
            rw [List.length_map] at hv5
            subst hv5
            have hI5 := xaqZ rfl r5
            have HC5 := hideP (xfqZ x W0 p (P, L, r, C) (mu (E.set k (some s1))) (HIH.out _ (Nat.lt_of_lt_of_le HMU1.out hmu)) (E.set k (some s1)) NL bl out (.slice pu out.length cu) p5 c5 w5 (Nat.le_refl _) (HIC.out.below hb5) HLL.out ((hb5.block bl (xabZ HQB.out)).trans HQB.out) ⟨by omega, by omega⟩ (HIU.out.below hb5) HNU.out leo HTY.out hI5 hLl)
            clear r5 hI5
            go_wp2_with fail
            refine HC5.out.mono ?_
            rintro e w6 ⟨ok, rfl, hA⟩
            have HA := hideP hA
            clear hA
            go_wp2
            go_ret
            obtain ⟨E6, hI6, hw6, hs6, hd6⟩ := HA.out
            refine ⟨ok, E6, by simp, hI6, (HWC.out.trans (Wr.of_below hb5)).trans hw6, fun e' hfit hle hto => ?_, fun hok6 => ?_⟩
            · have hle1 := HLE.out e' hfit hle (HST.out e' hfit hle hto)
              obtain ⟨out', ho', hto'⟩ := HSTEP.out e' hfit hle1
              rw [HOUT.out] at ho'
              cases ho'
              exact hs6 e' hfit hle1 (fun to hm => hto' to ((HML.out to).1 hm))
            · obtain ⟨hwe, hall⟩ := hd6 hok6
              obtain ⟨h1, s', h2, h3⟩ := went_set (o := (oc, oa)) (out := out) hkE HLE1.out HO.out HOUT.out hwe (fun to hg => hall to ((HML.out to).2 hg))
              exact ⟨h1, hkC, s', h2, xb0Z HSS.out h3⟩
end Go.Proofs.YtgmkmlenhhhgkaaGreat


