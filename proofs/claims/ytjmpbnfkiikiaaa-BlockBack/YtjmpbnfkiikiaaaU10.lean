/- My texts Pk Jk Jl, joined. -/
import Derived.Laws.EntriesVeiled
import Derived.Deep.Cut
import Derived.Test.YtjmpbnfkiikiaaaU3
import Derived.Test.YtjmpbnfkiikiaaaU8
import Derived.Test.YtjmpbnfkiikiaaaU9
/- Entries as they are reckoned, plainly: what a visit may do, and that it ends. -/
namespace Go.Proofs.Ytjmpbnfkiikiaaa
open Go.RowKit
set_option linter.unusedSimpArgs false
set_option linter.unusedVariables false
abbrev Ents := List (Option (List Int))
def ent (E : Ents) (k : Nat) : Option (List Int) := (E[k]?).getD none
theorem ent_at {E : Ents} {k : Nat} {x : Option (List Int)} (h : E[k]? = some x) : ent E k = x := by simp [ent, h]
theorem ent_some {E : Ents} {k : Nat} {s : List Int} (h : ent E k = some s) : E[k]? = some (some s) := by
  unfold ent at h
  cases e : E[k]? with
  | none => rw [e] at h; simp at h
  | some x => rw [e] at h; simp at h; subst h; rfl
theorem ent_set (E : Ents) (k x : Nat) (s : List Int) (hk : k < E.length) : ent (E.set k (some s)) x = if x = k then some s else ent E x := by
  unfold ent
  by_cases h : x = k
  · subst h; simp [hk]
  · rw [if_neg h, List.getElem?_set_ne (fun e => h e.symm)]
def m1 : Option (List Int) → Nat
  | none => 9
  | some s => s.count 3
def mu : Ents → Nat
  | [] => 0
  | x :: r => m1 x + mu r
theorem mu_set : ∀ (E : Ents) (k : Nat) (x : Option (List Int)) (y : Option (List Int)), E[k]? = some x → m1 y < m1 x → mu (E.set k y) < mu E
  | [], k, x, y, h, _ => by simp at h
  | z :: r, 0, x, y, h, hm => by simp at h; subst h; simp [mu]; omega
  | z :: r, k + 1, x, y, h, hm => by
    have := mu_set r k x y (by simpa using h) hm
    simp only [List.set_cons_succ, mu]
    omega
theorem leS_count : ∀ {s t : List Int}, leS s t = true → t.count 3 ≤ s.count 3
  | [], [], _ => Nat.le_refl _
  | [], _ :: _, h => by simp [leS] at h
  | _ :: _, [], h => by simp [leS] at h
  | a :: r, b :: q, h => by
    simp [leS] at h
    have ih := leS_count h.2
    have hs := h.1
    simp [standsB] at hs
    rw [List.count_cons, List.count_cons]
    rcases hs with rfl | ⟨rfl, rfl⟩
    · omega
    · simp; omega
theorem leS_count_lt : ∀ {s t : List Int}, leS s t = true → s ≠ t → t.count 3 < s.count 3
  | [], [], _, hn => absurd rfl hn
  | [], _ :: _, h, _ => by simp [leS] at h
  | _ :: _, [], h, _ => by simp [leS] at h
  | a :: r, b :: q, h, hn => by
    simp [leS] at h
    have hs := h.1
    simp [standsB] at hs
    rw [List.count_cons, List.count_cons]
    rcases hs with rfl | ⟨rfl, rfl⟩
    · have ih := leS_count_lt h.2 (fun e => hn (by rw [e]))
      omega
    · have ih := leS_count h.2
      simp; omega
theorem mu_mono : ∀ {E E' : Ents}, E'.length = E.length → (∀ k s, ent E' k = some s → s.length ≤ 8) → leE (ent E) (ent E') → mu E' ≤ mu E
  | [], E', h, _, _ => by
    have : E' = [] := List.eq_nil_of_length_eq_zero (by simpa using h)
    subst this; exact Nat.le_refl _
  | x :: r, [], h, _, _ => by simp at h
  | x :: r, y :: q, h, h8, hle => by
    have ih := mu_mono (E := r) (E' := q) (by simpa using h) (fun k s hk => h8 (k + 1) s (by simpa [ent] using hk)) (fun k s hk => by
      have := hle (k + 1) s (by simpa [ent] using hk)
      simpa [ent] using this)
    have h0 : m1 y ≤ m1 x := by
      cases x with
      | none =>
        cases y with
        | none => exact Nat.le_refl _
        | some s =>
          have := h8 0 s (by simp [ent])
          have := List.count_le_length (a := (3 : Int)) (l := s)
          simp only [m1]; omega
      | some s =>
        obtain ⟨s', h1, h2⟩ := hle 0 s (by simp [ent])
        simp [ent] at h1
        subst h1
        exact leS_count h2
    simp only [mu]; omega
/-- a place that has its entry, and what goes on from there too. -/
def DoneAt (p : List Fn) (f : Fn) (e : Nat → Option (List Int)) (x : Nat) : Prop := ∃ s o out, e x = some s ∧ f.2.2.2[x]? = some o ∧ tryOp p f o s = some out ∧ ∀ to, goesOn f.2.2.2 x to = true → to < f.2.2.2.length ∧ ∃ s', e to = some s' ∧ leS out s' = true
theorem leE_refl (e : Nat → Option (List Int)) : leE e e := fun pc s h => ⟨s, h, leS_refl s⟩
theorem leE_trans {e e' e'' : Nat → Option (List Int)} (h : leE e e') (k : leE e' e'') : leE e e'' := fun pc s hs => by
  obtain ⟨s1, h1, h2⟩ := h pc s hs
  obtain ⟨s2, h3, h4⟩ := k pc s1 h1
  exact ⟨s2, h3, leS_trans h2 h4⟩
theorem DoneAt.mono {p : List Fn} {f : Fn} {e e' : Nat → Option (List Int)} {x : Nat} (h : DoneAt p f e x) (hle : leE e e') (hx : e' x = e x) : DoneAt p f e' x := by
  obtain ⟨s, o, out, h1, h2, h3, h4⟩ := h
  refine ⟨s, o, out, hx.trans h1, h2, h3, fun to hto => ?_⟩
  obtain ⟨h5, s', h6, h7⟩ := h4 to hto
  obtain ⟨s2, h8, h9⟩ := hle to s' h6
  exact ⟨h5, s2, h8, leS_trans h7 h9⟩
/-- what one or more visits that went well have done. -/
structure Went (p : List Fn) (f : Fn) (E E' : Ents) : Prop where
  le : leE (ent E) (ent E')
  done : ∀ x, ent E' x = ent E x ∨ DoneAt p f (ent E') x
theorem Went.refl (p : List Fn) (f : Fn) (E : Ents) : Went p f E E := ⟨leE_refl _, fun _ => .inl rfl⟩
theorem Went.trans {p : List Fn} {f : Fn} {E E' E'' : Ents} (h : Went p f E E') (k : Went p f E' E'') : Went p f E E'' := by
  refine ⟨leE_trans h.le k.le, fun x => ?_⟩
  rcases k.done x with h1 | h1
  · rcases h.done x with h2 | h2
    · exact .inl (h1.trans h2)
    · exact .inr (h2.mono k.le h1)
  · exact .inr h1
/-- a visit that sets an entry, and then goes on. -/
theorem went_set {p : List Fn} {f : Fn} {E E' : Ents} {k : Nat} {s out : List Int} {o : Int × Int} (hk : k < E.length) (hle : ∀ s0, ent E k = some s0 → leS s0 s = true) (ho : f.2.2.2[k]? = some o) (ht : tryOp p f o s = some out) (hw : Went p f (E.set k (some s)) E') (hto : ∀ to, goesOn f.2.2.2 k to = true → to < f.2.2.2.length ∧ ∃ s', ent E' to = some s' ∧ leS out s' = true) :
    Went p f E E' ∧ ∃ s', ent E' k = some s' ∧ leS s s' = true := by
  have hset := fun x => ent_set E k x s hk
  have hk' : ∃ s', ent E' k = some s' ∧ leS s s' = true := hw.le k s (by rw [hset, if_pos rfl])
  refine ⟨⟨fun x s0 hs0 => ?_, fun x => ?_⟩, hk'⟩
  · by_cases e : x = k
    · subst e
      obtain ⟨s', h1, h2⟩ := hk'
      exact ⟨s', h1, leS_trans (hle s0 hs0) h2⟩
    · exact hw.le x s0 (by rw [hset, if_neg e]; exact hs0)
  · rcases hw.done x with h1 | h1
    · by_cases e : x = k
      · subst e
        rw [hset, if_pos rfl] at h1
        exact .inr ⟨s, o, out, h1, ho, ht, hto⟩
      · rw [hset, if_neg e] at h1
        exact .inl h1
    · exact .inr h1
/-- what there is of a function of a program that is right. -/
structure OkFn (p : List Fn) (f : Fn) : Prop where
  ops : ∀ o ∈ f.2.2.2, OkOp p f o
  flow : flowErr f.2.2.2 = 0
  loc : ∀ t ∈ f.2.1, 1 ≤ t ∧ t ≤ 2
  res : ∀ g ∈ p, 0 ≤ g.2.2.1 ∧ g.2.2.1 ≤ 2
theorem okFn {p : List Fn} {f : Fn} (hp : progErr p = 0) (hf : f ∈ p) : OkFn p f := by
  obtain ⟨_, h5, hall, _⟩ := progErr_zero hp
  have parts : ∀ g ∈ p, g.2.1.length ≤ 6 ∧ 0 ≤ g.1 ∧ g.1 ≤ (g.2.1.length : Int) ∧ (∀ t ∈ g.2.1, 1 ≤ t ∧ t ≤ 2) ∧ 0 ≤ g.2.2.1 ∧ g.2.2.1 ≤ 2 ∧ g.2.2.2.length ≠ 0 ∧ codeErr g.2.2.2 = 0 ∧ ∀ o ∈ g.2.2.2, namesB o g p.length = true := by
    intro g hg
    have h := hall g hg
    unfold fnErr at h
    by_cases h1 : 6 < g.2.1.length
    · rw [if_pos h1] at h; cases h
    rw [if_neg h1] at h
    by_cases h2 : g.1 < 0 ∨ (g.2.1.length : Int) < g.1
    · rw [if_pos h2] at h; cases h
    rw [if_neg h2] at h
    by_cases h3 : typedB g = false
    · rw [if_pos h3] at h; cases h
    rw [if_neg h3] at h
    by_cases h4 : g.2.2.2.length = 0
    · rw [if_pos h4] at h; cases h
    rw [if_neg h4] at h
    by_cases h6 : codeErr g.2.2.2 = 0
    · rw [if_neg (by simp [h6])] at h
      by_cases h7 : (g.2.2.2.all fun o => namesB o g p.length) = false
      · rw [if_pos h7] at h; cases h
      · simp only [Bool.not_eq_false] at h3 h7
        simp only [typedB, Bool.and_eq_true, decide_eq_true_eq] at h3
        refine ⟨by omega, by omega, by omega, fun t ht => ?_, h3.2.1, h3.2.2, h4, h6, List.all_eq_true.1 h7⟩
        have := List.all_eq_true.1 h3.1 t ht
        simp [okType] at this
        omega
    · rw [if_pos h6] at h; exact absurd h h6
  obtain ⟨a1, a2, a3, a4, a5, a6, a7, a8, a9⟩ := parts f hf
  refine ⟨fun o ho => ?_, ?_, a4, fun g hg => ⟨(parts g hg).2.2.2.2.1, (parts g hg).2.2.2.2.2.1⟩⟩
  · have hn := a9 o ho
    have hc := (chk_zero ((codeErr_zero _ a8).2 o ho)).1
    refine ⟨by simpa [isCode] using hc, fun h => ?_, fun h => ?_, fun g hg => ⟨(parts g hg).2.1, (parts g hg).2.2.1, (parts g hg).1, (parts g hg).2.2.2.2.1⟩, ⟨a1, a5⟩⟩
    · unfold namesB at hn
      rw [if_pos (by simpa using h)] at hn
      simpa [isNum] using hn
    · unfold namesB at hn
      rw [if_neg (by simp [h]), if_neg (by simp [h]), if_pos (by simp [h])] at hn
      simpa [isNum] using hn
  · unfold flowErr
    rw [if_neg (by simp [a8]), if_neg a7, if_neg]
    intro hany
    obtain ⟨o, ho, hb⟩ := List.any_eq_true.1 hany
    have hn := a9 o ho
    simp only [badTo, Bool.and_eq_true, Bool.not_eq_true'] at hb
    unfold namesB at hn
    have h10 : o.1 = 10 ∨ o.1 = 11 := by simpa using hb.1
    rw [if_neg (by simp; omega), if_pos hb.1] at hn
    have := hb.2
    simp only [isNum] at hn
    rw [hn] at this
    cases this
/-- types that may lie on a stack. -/
def tyL (s : List Int) : Prop := ∀ t ∈ s, isType t = true
theorem tyL_all {s : List Int} (h : tyL s) : s.all isType = true := List.all_eq_true.2 h
theorem try_types {p : List Fn} {f : Fn} {o : Int × Int} {s out : List Int} (hf : OkFn p f) (ho : o ∈ f.2.2.2) (hs : tyL s) (h : tryOp p f o s = some out) : tyL out ∧ out.length ≤ 8 := by
  unfold tryOp at h
  obtain ⟨⟨t, l⟩, h1, h2⟩ := Option.bind_eq_some_iff.1 h
  simp only at h2
  split at h2
  · rename_i hc
    cases h2
    refine ⟨?_, hc.2.2⟩
    have hdrop : ∀ k, ∀ x ∈ s.drop k, isType x = true := fun k x hx => hs x (List.mem_of_mem_drop hx)
    have hl : ∀ x ∈ l, isType x = true := by
      have hok := hf.ops o ho
      have hr : ∀ g ∈ p, ∀ x ∈ (if 0 < g.2.2.1 then [g.2.2.1] else []), isType x = true := by
        intro g hg x hx
        split at hx
        · simp at hx; subst hx
          have := hf.res g hg
          simp [isType]; omega
        · simp at hx
      unfold takesLeaves at h1
      by_cases c2 : o.1 = 2
      · rw [if_pos c2] at h1
        split at h1
        · cases h1
        · cases h1; intro x hx; simp at hx
      rw [if_neg c2] at h1
      by_cases c3 : o.1 = 3
      · rw [if_pos c3] at h1
        split at h1
        · cases h1
        · cases h1
          intro x hx
          rcases List.mem_append.1 hx with hx | hx
          · exact hdrop _ x hx
          · exact hdrop _ x hx
      rw [if_neg c3] at h1
      by_cases c4 : o.1 = 4
      · rw [if_pos c4] at h1
        split at h1
        · cases h1
        · cases h1
          intro x hx
          exact hdrop _ x (List.mem_reverse.1 hx)
      rw [if_neg c4] at h1
      by_cases c12 : o.1 = 12
      · rw [if_pos c12] at h1
        obtain ⟨g, hg, he⟩ := Option.map_eq_some_iff.1 h1
        cases he
        exact hr g (List.mem_of_getElem? hg)
      rw [if_neg c12] at h1
      by_cases c13 : o.1 = 13
      · rw [if_pos c13] at h1
        by_cases hl13 : s.length = (if 0 < f.2.2.1 then [f.2.2.1] else []).length
        · rw [if_pos hl13] at h1; cases h1; intro x hx; simp at hx
        · rw [if_neg hl13] at h1; cases h1
      rw [if_neg c13] at h1
      cases h1
      intro x hx
      simp only [withLocal, List.mem_map] at hx
      obtain ⟨y, hy, rfl⟩ := hx
      by_cases hy0 : y = 0
      · rw [if_pos hy0]
        subst hy0
        have c8 : o.1 = 8 := by
          rcases Decidable.em (o.1 = 8) with h8 | h8
          · exact h8
          · rcases Decidable.em (o.1 = 9) with h9 | h9
            · rw [h9] at hy; simp [plainTL] at hy
            · exact absurd rfl ((plain_nz h8 h9).2 0 hy)
        have hlc := hok.loc (.inl c8)
        obtain ⟨z, hz⟩ := at_of_lt (l := f.2.1) (k := o.2.toNat) (by omega)
        rw [List.getD_eq_getElem?_getD, hz]
        have := hf.loc z (List.mem_of_getElem? hz)
        simp [isType]; omega
      · rw [if_neg hy0]
        have hy3 : y = 1 ∨ y = 2 ∨ y = 3 := by
          unfold plainTL at hy
          repeat' split at hy
          all_goals simp at hy <;> omega
        simp [isType]; omega
    intro x hx
    rcases List.mem_append.1 hx with hx | hx
    · exact hs x (List.mem_of_mem_take hx)
    · exact hl x hx
  · cases h2
theorem join_types {a b j : List Int} (ha : tyL a) (hb : tyL b) (h : joinL a b = some j) : tyL j := by
  induction a generalizing b j with
  | nil =>
    cases b with
    | nil => cases h; intro t ht; simp at ht
    | cons _ _ => cases h
  | cons x r ih =>
    cases b with
    | nil => cases h
    | cons y q =>
      simp only [joinL] at h
      obtain ⟨t, ht, h2⟩ := Option.bind_eq_some_iff.1 h
      obtain ⟨l, hl, rfl⟩ := Option.map_eq_some_iff.1 h2
      intro z hz
      rcases List.mem_cons.1 hz with rfl | hz
      · unfold joinT at ht
        split at ht
        · cases ht; exact ha _ (by simp)
        · split at ht
          · cases ht; rfl
          · cases ht
      · exact ih (fun t ht => ha t (by simp [ht])) (fun t ht => hb t (by simp [ht])) hl z hz
end Go.Proofs.Ytjmpbnfkiikiaaa
/- verify.fit's closures: what lies in memory, and the round over the next places. -/
namespace Go.Proofs.Ytjmpbnfkiikiaaa
open Go.RowKit
set_option linter.unusedSimpArgs false
set_option linter.unusedVariables false
/-- the two rows are written, nothing else. -/
structure Wr (Rs Rm : Nat) (w w' : World) : Prop where
  os : w'.os = w.os
  tape : w'.tape = w.tape
  output : w'.output = w.output
  size : w.heap.size ≤ w'.heap.size
  block : ∀ k, k < w.heap.size → k ≠ Rs → k ≠ Rm → w'.heap[k]? = w.heap[k]?
theorem Wr.refl (Rs Rm : Nat) (w : World) : Wr Rs Rm w w := ⟨rfl, rfl, rfl, Nat.le_refl _, fun _ _ _ _ => rfl⟩
theorem Wr.trans {Rs Rm : Nat} {a b c : World} (h : Wr Rs Rm a b) (k : Wr Rs Rm b c) : Wr Rs Rm a c :=
  ⟨k.os.trans h.os, k.tape.trans h.tape, k.output.trans h.output, Nat.le_trans h.size k.size, fun j hj h1 h2 => (k.block j (Nat.lt_of_lt_of_le hj h.size) h1 h2).trans (h.block j hj h1 h2)⟩
theorem Wr.of_below {Rs Rm : Nat} {w w' : World} (h : Below w.heap.size w w') : Wr Rs Rm w w' := ⟨h.os, h.tape, h.output, h.size, fun k hk _ _ => h.block k hk⟩
theorem Wr.of_grown {Rs Rm r : Nat} {w w' : World} (h : w.grownBy w' (some r)) (hr : r = Rs ∨ r = Rm) : Wr Rs Rm w w' :=
  ⟨h.os, h.tape, h.output, h.size, fun k hk h1 h2 => h.block k hk (fun e => by cases e; rcases hr with h | h <;> omega)⟩
/-- what fit has laid: the boxes, the marks, the stacks. -/
structure FB where
  pv : Value
  c0 : Value
  c1 : Value
  c2 : Value
  c3 : Value
  bf : Nat
  bm : Nat
  bs : Nat
  bp : Nat
  bc : Nat
  Rs : Nat
  Rm : Nat
abbrev caps (x : FB) : Array Value := #[.pointer (some ⟨x.bf, 0, none⟩), .pointer (some ⟨x.bm, 0, none⟩), .pointer (some ⟨x.bs, 0, none⟩), .pointer (some ⟨x.bp, 0, none⟩), .pointer (some ⟨x.bc, 0, none⟩)]
/-- numbers stay where only the two rows are written. -/
theorem IntsAt.wr {Rs Rm : Nat} {w w' : World} {v : Value} {l : List Int} {V : List Value} {B : List Bool} {t t' : TypeId} {fz fz' : Nat × Nat} (h : IntsAt w v l) (hs : w.heap[Rs]? = some (.cells V.toArray t fz)) (hV : ∀ v ∈ V, ∃ p n c, v = .slice p n c) (hm : w.heap[Rm]? = some (.cells (B.map Value.bool).toArray t' fz')) (hw : Wr Rs Rm w w') : IntsAt w' v l := by
  obtain ⟨p, c, rfl, hl, hc⟩ := h
  refine ⟨p, c, rfl, hl, fun k z hk => ?_⟩
  obtain ⟨b, off, rfl, hb, g⟩ := hc k z hk
  have n1 : b ≠ Rs := fun e => by
    subst e
    rw [cell_at' hs] at g
    have g2 : V[off + k]? = some (Value.int .i64 z) := by simpa using g
    obtain ⟨_, _, _, h⟩ := hV _ (List.mem_of_getElem? g2)
    cases h
  have n2 : b ≠ Rm := fun e => by
    subst e
    rw [cell_at' hm] at g
    simp at g
  exact ⟨b, off, rfl, Nat.lt_of_lt_of_le hb hw.size, (World.cell?_of_block (hw.block b hb n1 n2)).trans g⟩
end Go.Proofs.Ytjmpbnfkiikiaaa
/- verify.fit's closure: a visit. -/
namespace Go.Proofs.Ytjmpbnfkiikiaaa
open Go.RowKit
set_option linter.unusedSimpArgs false
set_option linter.unusedVariables false
theorem cell_set_ne {w : World} {a b : Addr} {u v : Value} (h : w.cell? b = some v) (hn : b.block ≠ a.block) : (w.setCell a u).cell? b = some v := (World.cell?_of_block (Below.heap_setCell w a u b.block hn)).trans h
theorem frozen_set_ne {w : World} {a b : Addr} {u : Value} (h : w.frozen? b = false) (hn : b.block ≠ a.block) : (w.setCell a u).frozen? b = false := (World.frozen?_of_block (Below.heap_setCell w a u b.block hn)).trans h
theorem drew_heap (w : World) : w.drew.heap = w.heap := rfl
theorem box_after {W w3 : World} {o : Obj} (h : Below (W.alloc o).drew.heap.size (W.alloc o).drew w3) : w3.heap[W.heap.size]? = some o := by
  have h1 := h.block W.heap.size (by rw [drew_heap]; simp)
  rw [h1, drew_heap]
  exact World.alloc_heap_new W o
end Go.Proofs.Ytjmpbnfkiikiaaa
