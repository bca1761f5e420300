/- My texts Ee Ef Ka, joined. -/
import Derived.Deep.RegionHeld3
import Derived.Deep.RegionLaw
import Derived.Laws.OwnMore
import Derived.Test.YtgmkmlenhhhgkaaU6
import Derived.Test.YtgmkmlenhhhgkaaU10
import Derived.Test.YtgmkmlenhhhgkaaU11
import Derived.Test.YtgmkmlenhhhgkaaU12
import Derived.Test.YtgmkmlenhhhgkaaU13
import Derived.Test.YtgmkmlenhhhgkaaU14
import Derived.Test.YtgmkmlenhhhgkaaU16
import Derived.Test.YtgmkmlenhhhgkaaU18
import Derived.Test.YtgmkmlenhhhgkaaU21
/- The reference's EntriesOf. -/
namespace Go.Proofs.Ytgmkmlenhhhgkaa
open Go.RowKit
set_option linter.unusedSimpArgs false
set_option linter.unusedVariables false
/-- the entries that are told. -/
noncomputable def entL (f : Fn) : Option (Nat → Option (List Int)) → List (Nat × List Int)
  | none => []
  | some e => entsOf f.2.2.2 e
def EntP (p : List Fn) (f : Fn) (w : World) (e : Ending) (w' : World) : Prop := ∃ v ok r, e = .returned (.tuple #[v, .bool ok]) ∧ Least p f r ∧ ok = r.isSome ∧ EntsRd w' v (entL f r) ∧ Below w.heap.size w w'
theorem entP_none {p : List Fn} {f : Fn} {w w' : World} (h : ∀ e, ¬ FitsBy p f e) (hb : Below w.heap.size w w') : EntP p f w (.returned (.tuple #[.slice none 0 0, .bool false])) w' :=
  ⟨_, false, none, rfl, h, rfl, ⟨none, 0, rfl, Nat.zero_le _, fun k pc s hk => by simp [entL] at hk⟩, hb⟩
def ents0 (n : Nat) : Ents := (List.replicate n none).set 0 (some [])
theorem ei_first {w W1 w2 w3 : World} {p : List Fn} {f : Fn} (hb1 : Below w.heap.size w W1) (hn : 0 < f.2.2.2.length)
    (q2 : w2.heap[W1.heap.size]? = some (.cells (List.replicate f.2.2.2.length (Value.slice none 0 0)).toArray 30 (0, 0))) (hb2 : Below W1.heap.size W1 w2)
    (q3 : w3.heap[w2.heap.size]? = some (.cells ((List.replicate f.2.2.2.length false).map Value.bool).toArray 4 (0, 0))) (hb3 : Below w2.heap.size w2 w3) :
    EI w W1.heap.size w2.heap.size p f (ents0 f.2.2.2.length) (w3.setCell ⟨w2.heap.size, 0, none⟩ (.bool true)) := by
  have l2 := heap_lt q2
  have hne : W1.heap.size ≠ w2.heap.size := by omega
  have hB3 := bthen hb1 (bthen hb2 hb3)
  refine ⟨hB3.setCell (by have := hb1.size; have := hb2.size; show w.heap.size ≤ w2.heap.size; omega) _, by simp [ents0], ?_, ⟨List.replicate f.2.2.2.length (Value.slice none 0 0), by simp [ents0], ?_, ?_, ?_⟩, ?_, ?_, ?_⟩
  · have := heap_setCell_same w3 w2.heap.size 0 _ _ (.bool true) q3
    rw [set_marks] at this
    rw [this]
    have e : (List.replicate f.2.2.2.length false).set 0 true = (ents0 f.2.2.2.length).map Option.isSome := by
      unfold ents0
      rw [List.map_set]
      simp
    rw [e]
  · rw [heap_setCell_other _ _ _ _ (by simpa using hne)]
    exact (hb3.block _ l2).trans q2
  · intro v hv
    rw [List.mem_replicate] at hv
    exact ⟨_, _, _, hv.2⟩
  · intro k s hk
    unfold ents0 at hk
    by_cases e : k = 0
    · subst e
      rw [List.getElem?_set_self (by simpa using hn)] at hk
      cases hk
      exact ⟨.slice none 0 0, by simp [hn], fullInts_nil _⟩
    · rw [List.getElem?_set_ne (fun e2 => e e2.symm), List.getElem?_replicate] at hk
      split at hk <;> cases hk
  · intro k s hk
    unfold ents0 at hk
    by_cases e : k = 0
    · subst e
      rw [List.getElem?_set_self (by simpa using hn)] at hk
      cases hk
      exact ⟨by simp, fun t ht => by simp at ht⟩
    · rw [List.getElem?_set_ne (fun e2 => e e2.symm), List.getElem?_replicate] at hk
      split at hk <;> cases hk
  · unfold ents0
    rw [ent_set _ _ _ _ (by simpa using hn), if_pos rfl]
  · intro e' he' x s hs
    unfold ents0 at hs
    rw [ent_set _ _ _ _ (by simpa using hn)] at hs
    by_cases e : x = 0
    · subst e; rw [if_pos rfl] at hs; cases hs; exact ⟨[], he'.first, rfl⟩
    · rw [if_neg e] at hs
      unfold ent at hs
      rw [List.getElem?_replicate] at hs
      split at hs <;> cases hs
/-- a new entry, stored. -/
theorem ei_new {w wr : World} {Ra Rm : Nat} {p : List Fn} {f : Fn} {E : Ents} (h : EI w Ra Rm p f E wr) (ha : w.heap.size ≤ Ra) (hm : w.heap.size ≤ Rm) (hne : Ra ≠ Rm) {to : Nat} {out : List Int} {v : Value} (hto : to < E.length) (hn : ent E to = none) (hv : FullInts wr v out) (h8 : out.length ≤ 8) (ht : tyL out) (hlow : ∀ e', FitsBy p f e' → ∃ s', e' to = some s' ∧ leS out s' = true) :
    EI w Ra Rm p f (E.set to (some out)) ((wr.setCell ⟨Ra, to, none⟩ v).setCell ⟨Rm, to, none⟩ (.bool true)) := by
  have hwr : Wr Ra Rm wr ((wr.setCell ⟨Ra, to, none⟩ v).setCell ⟨Rm, to, none⟩ (.bool true)) := (Wr.of_grown (set_grown wr ⟨Ra, to, none⟩ _) (.inl rfl)).trans (Wr.of_grown (set_grown _ ⟨Rm, to, none⟩ _) (.inr rfl))
  refine h.put ha hm hto hv h8 ht hwr (fun V hV => ?_) ?_ ?_ (low_new h.low hto hlow)
  · rw [heap_setCell_other _ _ _ _ (by simpa using hne), heap_setCell_same wr Ra to _ _ _ hV]
    simp
  · have h' : (wr.setCell ⟨Ra, to, none⟩ v).heap[Rm]? = some (.cells ((E.map Option.isSome).map Value.bool).toArray 4 (0, 0)) := by rw [heap_setCell_other _ _ _ _ (by simpa using hne.symm)]; exact h.hRm
    rw [heap_setCell_same _ Rm to _ _ _ h', set_marks, List.map_set (l := E)]
    rfl
  · rw [ent_set E to 0 out hto]
    by_cases e : (0 : Nat) = to
    · subst e; rw [h.zero] at hn; cases hn
    · rw [if_neg e]; exact h.zero
/-- an entry that is joined, stored. -/
theorem ei_join {w wr : World} {Ra Rm : Nat} {p : List Fn} {f : Fn} {E : Ents} (h : EI w Ra Rm p f E wr) (ha : w.heap.size ≤ Ra) (hm : w.heap.size ≤ Rm) (hne : Ra ≠ Rm) {to : Nat} {s1 out j : List Int} {v : Value} (hs1 : ent E to = some s1) (hj : joinL s1 out = some j) (hv : FullInts wr v j) (ht : tyL out) (hlow : ∀ e', FitsBy p f e' → ∃ s', e' to = some s' ∧ leS out s' = true) :
    EI w Ra Rm p f (E.set to (some j)) (wr.setCell ⟨Ra, to, none⟩ v) := by
  have hto := ent_lt hs1
  have hwr : Wr Ra Rm wr (wr.setCell ⟨Ra, to, none⟩ v) := Wr.of_grown (set_grown wr ⟨Ra, to, none⟩ _) (.inl rfl)
  have hok := h.ok to s1 (ent_some hs1)
  refine h.put ha hm hto hv (by rw [(joinL_length _ _ _ hj).1]; exact hok.1) (join_types hok.2 ht hj) hwr (fun V hV => ?_) ?_ ?_ (low_new h.low hto fun e' he' => ?_)
  · rw [heap_setCell_same wr Ra to _ _ _ hV]
    simp
  · rw [heap_setCell_other _ _ _ _ (by simpa using hne.symm), h.hRm]
    congr 3
    rw [List.map_set]
    congr 1
    apply List.ext_getElem?
    intro k
    by_cases e : k = to
    · subst e
      rw [List.getElem?_set_self (by simpa using hto), List.getElem?_map, ent_some hs1]; rfl
    · rw [List.getElem?_set_ne (fun e2 => e e2.symm)]
  · rw [ent_set E to 0 j hto]
    by_cases e : (0 : Nat) = to
    · subst e
      rw [h.zero] at hs1
      cases hs1
      have := (joinL_length _ _ _ hj).1
      have hj0 : j = [] := List.eq_nil_of_length_eq_zero (by simpa using this)
      rw [if_pos rfl, hj0]
    · rw [if_neg e]; exact h.zero
  · obtain ⟨s', h1, h2⟩ := hlow e' he'
    obtain ⟨s2, h3, h4⟩ := h.low e' he' to s1 hs1
    rw [h1] at h3
    cases h3
    obtain ⟨j', h5, h6⟩ := joinL_le h4 h2
    rw [hj] at h5
    cases h5
    exact ⟨s', h1, h6⟩
/-- reading the rows. -/
theorem ei_met {w wr : World} {Ra Rm : Nat} {p : List Fn} {f : Fn} {E : Ents} (h : EI w Ra Rm p f E wr) {k : Nat} {x : Option (List Int)} (hk : E[k]? = some x) : wr.cell? ⟨Rm, k, none⟩ = some (.bool x.isSome) ∧ wr.frozen? ⟨Rm, k, none⟩ = false := by
  refine ⟨?_, Lib.frozen_of_heap h.hRm k⟩
  rw [cell_at' h.hRm]
  simp [hk]
theorem ei_at {w wr : World} {Ra Rm : Nat} {p : List Fn} {f : Fn} {E : Ents} (h : EI w Ra Rm p f E wr) {k : Nat} (hk : k < E.length) : ∃ q n c, wr.cell? ⟨Ra, k, none⟩ = some (.slice q n c) ∧ wr.frozen? ⟨Ra, k, none⟩ = false ∧ ∀ s, ent E k = some s → n = s.length ∧ FullInts wr (.slice q n c) s := by
  obtain ⟨V, h1, h2, h3, h4⟩ := h.hRs
  obtain ⟨v, hv⟩ := at_of_lt (l := V) (k := k) (by omega)
  obtain ⟨q, n, c, rfl⟩ := h3 v (List.mem_of_getElem? hv)
  refine ⟨q, n, c, by rw [cell_at' h2]; simpa using hv, Lib.frozen_of_heap h2 k, fun s hs => ?_⟩
  obtain ⟨v', a, b⟩ := h4 k s (ent_some hs)
  rw [hv] at a
  cases a
  obtain ⟨_, _, hb, _⟩ := b.shp
  cases hb
  exact ⟨rfl, b⟩
theorem pass_go {Es E : Ents} {m : Bool} {P Q : Prop} (h : Pass Es E m P) (hpq : E = Es → P → Q) : Pass Es E m Q := by
  rcases h with h | ⟨h1, h2, h3⟩
  · exact .inl h
  · exact .inr ⟨h1, h2, hpq h2 h3⟩
theorem pass_less {Es E E' : Ents} {m : Bool} {P Q : Prop} (h : Pass Es E m P) (hlt : mu E' < mu E) : Pass Es E' true Q := by
  rcases h with ⟨_, h⟩ | ⟨_, rfl, _⟩
  · exact .inl ⟨rfl, by omega⟩
  · exact .inl ⟨rfl, hlt⟩
/-- the places behind an op. -/
theorem places_mem {C : List (Int × Int)} (hc : ∀ o ∈ C, badTo C.length o = false) {k : Nat} {z : Int} : z ∈ placesL (fun to => goesOn C k to) (C.length + 1) ↔ ∃ to : Nat, z = (to : Int) ∧ goesOn C k to = true := by
  unfold placesL
  rw [List.mem_map]
  constructor
  · rintro ⟨y, h1, rfl⟩
    exact ⟨y, rfl, (List.mem_filter.1 h1).2⟩
  · rintro ⟨y, rfl, h⟩
    exact ⟨y, List.mem_filter.2 ⟨List.mem_range.2 (by have := goesOn_le hc h; omega), h⟩, rfl⟩
theorem EI.ints {w : World} {Ra Rm : Nat} {p : List Fn} {f : Fn} {E : Ents} {wr wr' : World} (h : EI w Ra Rm p f E wr) {v : Value} {s : List Int} (hv : IntsAt wr v s) (hw : Wr Ra Rm wr wr') : IntsAt wr' v s := by
  obtain ⟨V, _, h2, h3, _⟩ := h.hRs
  exact hv.wr h2 h3 h.hRm hw
theorem wr_two (wr : World) (Ra Rm to : Nat) (v : Value) : Wr Ra Rm wr ((wr.setCell ⟨Ra, to, none⟩ v).setCell ⟨Rm, to, none⟩ (.bool true)) := (Wr.of_grown (set_grown wr ⟨Ra, to, none⟩ _) (.inl rfl)).trans (Wr.of_grown (set_grown _ ⟨Rm, to, none⟩ _) (.inr rfl))
theorem wr_one (wr : World) (Ra Rm to : Nat) (v : Value) : Wr Ra Rm wr (wr.setCell ⟨Ra, to, none⟩ v) := Wr.of_grown (set_grown wr ⟨Ra, to, none⟩ _) (.inl rfl)
/-- the places below n that have an entry. -/
def rngE (E : Ents) (n : Nat) : List Nat := (List.range n).filter fun x => (ent E x).isSome
def entsQ (E : Ents) (V : List Value) (n : Nat) : List (Nat × Value) := (rngE E n).map fun x => (x, V.getD x (.slice none 0 0))
theorem rngE_some {E : Ents} {n : Nat} {s : List Int} (h : ent E n = some s) : rngE E (n + 1) = rngE E n ++ [n] := by
  unfold rngE; rw [List.range_succ, List.filter_append]; simp [h]
theorem rngE_none {E : Ents} {n : Nat} (h : ent E n = none) : rngE E (n + 1) = rngE E n := by
  unfold rngE; rw [List.range_succ, List.filter_append]; simp [h]
theorem rngE_le (E : Ents) (n : Nat) : (rngE E n).length ≤ n := by
  unfold rngE
  have := List.length_filter_le (fun x => (ent E x).isSome) (List.range n)
  rwa [List.length_range] at this
theorem rngE_reach {p : List Fn} {f : Fn} {E : Ents} (hfl : flowErr f.2.2.2 = 0) (h : Least p f (some (ent E))) : rngE E f.2.2.2.length = reachL f.2.2.2 := by
  have hlast : ¬ Come f.2.2.2 f.2.2.2.length := fun hc => by
    obtain ⟨s, hs⟩ := (least_come h _).2 hc
    obtain ⟨o, _, ho, _⟩ := h.1.on _ _ hs
    have := lt_of_at ho
    omega
  unfold rngE reachL
  rw [List.range_succ, List.filter_append]
  have e2 : List.filter (fun x => @decide (Come f.2.2.2 x) (Classical.propDecidable _)) [f.2.2.2.length] = [] := by simp [hlast]
  rw [e2, List.append_nil]
  apply List.filter_congr
  intro x _
  rw [Bool.eq_iff_iff]
  simp only [decide_eq_true_eq, Option.isSome_iff_exists]
  exact least_come h x
/-- entries in a row of the call's own, their stacks anywhere. -/
theorem entsRd_row {W : World} {B : Nat} {v : Value} {q : List (Nat × Value)} {l : List (Nat × List Int)} (hr : W.ownsRow B 37 2 v q.length (entCells q)) (hlen : q.length = l.length) (hq : ∀ (k : Nat) (x : Nat × Value) (y : Nat × List Int), q[k]? = some x → l[k]? = some y → x.1 = y.1 ∧ FullInts W x.2 y.2) : EntsRd W v l := by
  rcases hr.2 with ⟨rfl, h0⟩ | ⟨g, cap, cur, rfl, hb, hg, hn, hc, hs, ht⟩
  · have hl : l = [] := List.eq_nil_of_length_eq_zero (by omega)
    subst hl
    exact ⟨none, 0, rfl, Nat.zero_le _, fun k pc s hk => by simp at hk⟩
  · refine ⟨_, cap, by rw [hlen], by omega, fun k pc s hk => ?_⟩
    have hkl := lt_of_at hk
    obtain ⟨⟨pc', u⟩, hx⟩ := at_of_lt (l := q) (k := k) (by omega)
    obtain ⟨h1, h2⟩ := hq k _ _ hx hk
    simp only at h1 h2
    subst h1
    have hcl := entCells_at q k _ hx
    refine ⟨g, 0, u, rfl, heap_lt hg, ?_, ?_, h2⟩
    · have := hcl.1
      rw [← ht, List.getElem?_take_of_lt (by omega)] at this
      rw [cell_at' hg]; simpa using this
    · have := hcl.2
      rw [← ht, List.getElem?_take_of_lt (by omega)] at this
      rw [cell_at' hg]; simpa using this
end Go.Proofs.Ytgmkmlenhhhgkaa
/- The reference's CheckFits. -/
namespace Go.Proofs.Ytgmkmlenhhhgkaa
open Go.RowKit
set_option linter.unusedSimpArgs false
set_option linter.unusedVariables false
/-- how far CheckFits has come, of a program that was checked. -/
def FitsFar (p : List Fn) (k : Nat) (er : Int) : Prop := (er = 0 ∧ ∀ (i : Nat) (f : Fn), i < k → p[i]? = some f → ∃ e, Least p f (some e)) ∨ (er = 4 ∧ ∃ f ∈ p, Least p f none)
end Go.Proofs.Ytgmkmlenhhhgkaa
/- Functions appended onto a row of the call's own. -/
namespace Go.Proofs.Ytgmkmlenhhhgkaa
open Go.RowKit
set_option linter.unusedSimpArgs false
set_option linter.unusedVariables false
/-- cells that hold functions, four a function. -/
structure RowFns (W : World) (xs : List Value) (l : List Fn) : Prop where
  len : xs.length = l.length * 4
  at_ : ∀ (k : Nat) (f : Fn), l[k]? = some f → ∃ c0 c1 c2 c3, xs[k * 4]? = some c0 ∧ xs[k * 4 + 1]? = some c1 ∧ xs[k * 4 + 2]? = some c2 ∧ xs[k * 4 + 3]? = some c3 ∧ FnAt W c0 c1 c2 c3 f ∧ ∀ p n c, c1 = .slice p n c → n ≤ c
/-- the blocks of a world are there as they were. -/
def Kept (w W : World) : Prop := ∀ k, k < w.heap.size → W.heap[k]? = w.heap[k]?
theorem Kept.size {w W : World} (h : Kept w W) : w.heap.size ≤ W.heap.size := by
  rcases Nat.lt_or_ge W.heap.size w.heap.size with h1 | h1
  · have := h W.heap.size h1
    rw [Array.getElem?_eq_none (Nat.le_refl _)] at this
    rw [Array.getElem?_eq_getElem h1] at this
    cases this
  · exact h1
theorem Kept.bel {w W : World} (h : Kept w W) (h1 : W.os = w.os) (h2 : W.tape = w.tape) (h3 : W.output = w.output) : Below w.heap.size w W := ⟨h1, h2, h3, h.size, h⟩
theorem Kept.cell {w W : World} (h : Kept w W) {a : Addr} (hb : a.block < w.heap.size) : W.cell? a = w.cell? a := World.cell?_of_block (h _ hb)
theorem Kept.ints {w W : World} (h : Kept w W) {v : Value} {l : List Int} (hv : IntsAt w v l) : IntsAt W v l := by
  obtain ⟨p, cap, rfl, hm, hc⟩ := hv
  refine ⟨p, cap, rfl, hm, fun k o hk => ?_⟩
  obtain ⟨b, off, rfl, hlt, h0⟩ := hc k o hk
  exact ⟨b, off, rfl, Nat.lt_of_lt_of_le hlt h.size, (h.cell (a := ⟨b, off + k, none⟩) hlt).trans h0⟩
theorem Kept.ops {w W : World} (h : Kept w W) {v : Value} {l : List (Int × Int)} (hv : OpsAt w v l) : OpsAt W v l := by
  obtain ⟨p, cap, rfl, hm, hc⟩ := hv
  refine ⟨p, cap, rfl, hm, fun k o hk => ?_⟩
  obtain ⟨b, off, rfl, hlt, h0, h1⟩ := hc k o hk
  exact ⟨b, off, rfl, Nat.lt_of_lt_of_le hlt h.size, (h.cell (a := ⟨b, off + k * 2, none⟩) hlt).trans h0, (h.cell (a := ⟨b, off + k * 2 + 1, none⟩) hlt).trans h1⟩
theorem Kept.fn {w W : World} (h : Kept w W) {c0 c1 c2 c3 : Value} {f : Fn} (hf : FnAt w c0 c1 c2 c3 f) : FnAt W c0 c1 c2 c3 f := ⟨hf.1, h.ints hf.2.1, hf.2.2.1, h.ops hf.2.2.2⟩
theorem Kept.fns {w W : World} (h : Kept w W) {v : Value} {l : List Fn} (hv : FnsAt w v l) : FnsAt W v l := by
  obtain ⟨p, cap, rfl, hm, hc⟩ := hv
  refine ⟨p, cap, rfl, hm, fun k f hk => ?_⟩
  obtain ⟨b, off, c0, c1, c2, c3, rfl, hlt, h0, h1, h2, h3, hf⟩ := hc k f hk
  exact ⟨b, off, c0, c1, c2, c3, rfl, Nat.lt_of_lt_of_le hlt h.size, (h.cell (a := ⟨b, off + k * 4, none⟩) hlt).trans h0, (h.cell (a := ⟨b, off + k * 4 + 1, none⟩) hlt).trans h1, (h.cell (a := ⟨b, off + k * 4 + 2, none⟩) hlt).trans h2, (h.cell (a := ⟨b, off + k * 4 + 3, none⟩) hlt).trans h3, h.fn hf⟩
theorem Kept.rows {w W : World} (h : Kept w W) {xs : List Value} {l : List Fn} (hx : RowFns w xs l) : RowFns W xs l := by
  refine ⟨hx.len, fun k f hk => ?_⟩
  obtain ⟨c0, c1, c2, c3, h0, h1, h2, h3, hf, hc⟩ := hx.at_ k f hk
  exact ⟨c0, c1, c2, c3, h0, h1, h2, h3, h.fn hf, hc⟩
theorem RowFns.snoc {W : World} {xs : List Value} {l : List Fn} (h : RowFns W xs l) {c0 c1 c2 c3 : Value} {f : Fn} (hf : FnAt W c0 c1 c2 c3 f) (hc : ∀ p n c, c1 = .slice p n c → n ≤ c) : RowFns W (xs ++ [c0, c1, c2, c3]) (l ++ [f]) := by
  refine ⟨by simp [h.len]; omega, fun k g hk => ?_⟩
  by_cases hkl : k < l.length
  · rw [List.getElem?_append_left hkl] at hk
    obtain ⟨d0, d1, d2, d3, h0, h1, h2, h3, hg, hcg⟩ := h.at_ k g hk
    have hx := h.len
    exact ⟨d0, d1, d2, d3, by rw [List.getElem?_append_left (by omega)]; exact h0, by rw [List.getElem?_append_left (by omega)]; exact h1, by rw [List.getElem?_append_left (by omega)]; exact h2, by rw [List.getElem?_append_left (by omega)]; exact h3, hg, hcg⟩
  · rw [List.getElem?_append_right (by omega)] at hk
    have hk0 : k = l.length := by have := lt_of_at hk; simp at this; omega
    subst hk0
    simp at hk
    subst hk
    have hx := h.len
    refine ⟨c0, c1, c2, c3, ?_, ?_, ?_, ?_, hf, hc⟩
    all_goals rw [List.getElem?_append_right (by omega), hx]; simp [Nat.add_sub_cancel_left]
/-- a row of functions is a slice of them. -/
theorem fns_row {W : World} {B : Nat} {v : Value} {xs : List Value} {l : List Fn} {n : Nat} (hn : n = l.length) (hr : W.ownsRow B 33 4 v n xs) (h : RowFns W xs l) : FnsAt W v l ∧ CapAt W v ∧ NilOk v := by
  subst hn
  refine ⟨?_, ?_, nilOk_row hr⟩
  · rcases hr.2 with ⟨rfl, h0⟩ | ⟨g, cap, cur, rfl, hb, hg, hn, hc, hs, ht⟩
    · have hl : l = [] := List.eq_nil_of_length_eq_zero h0
      subst hl
      exact ⟨none, 0, rfl, Nat.zero_le _, fun k f hk => by simp at hk⟩
    · refine ⟨_, cap, rfl, by omega, fun k f hk => ?_⟩
      have hkl := lt_of_at hk
      obtain ⟨c0, c1, c2, c3, h0, h1, h2, h3, hf, _⟩ := h.at_ k f hk
      have gc : ∀ j c, j < l.length * 4 → xs[j]? = some c → W.cell? ⟨g, 0 + j, none⟩ = some c := by
        intro j c hj hx
        rw [← ht, List.getElem?_take_of_lt (by omega)] at hx
        rw [cell_at' hg]
        simpa using hx
      exact ⟨g, 0, c0, c1, c2, c3, rfl, heap_lt hg, gc _ _ (by omega) h0, gc _ _ (by omega) h1, gc _ _ (by omega) h2, gc _ _ (by omega) h3, hf⟩
  · intro b off n cap k p' n' c' hv hk hcell
    rcases hr.2 with ⟨rfl, h0⟩ | ⟨g, cap2, cur, rfl, hb, hg, hn, hc, hs, ht⟩
    · cases hv
    · cases hv
      obtain ⟨f, hf⟩ := at_of_lt hk
      obtain ⟨c0, c1, c2, c3, h0, h1, h2, h3, _, hcap⟩ := h.at_ k f hf
      rw [← ht, List.getElem?_take_of_lt (by omega)] at h1
      rw [cell_at' hg] at hcell
      have : c1 = .slice p' n' c' := by
        have e : cur[0 + k * 4 + 1]? = some c1 := by simpa using h1
        rw [e] at hcell
        exact Option.some.inj hcell
      exact hcap _ _ _ this
/-- the cells of a slice of functions, one behind the other. -/
theorem raw_fns {w : World} {ad : Addr} {cap : Nat} {l : List Fn} (h : FnsAt w (.slice (some ad) l.length cap) l) (hc : CapAt w (.slice (some ad) l.length cap)) : ∃ news : List Value, news.length = l.length * 4 ∧ (∀ (j : Nat) (u : Value), news[j]? = some u → w.cell? (ad.add j) = some u) ∧ (∀ u ∈ news, u.oneCell' = true) ∧ RowFns w news l := by
  obtain ⟨p, cap', he, hm, hcc⟩ := h
  cases he
  refine ⟨(List.range (l.length * 4)).map fun j => (w.cell? (ad.add j)).getD (.bool false), by simp, ?_, ?_, ?_⟩
  all_goals
    have key : ∀ k f, l[k]? = some f → ∃ c0 c1 c2 c3, w.cell? (ad.add (k * 4)) = some c0 ∧ w.cell? (ad.add (k * 4 + 1)) = some c1 ∧ w.cell? (ad.add (k * 4 + 2)) = some c2 ∧ w.cell? (ad.add (k * 4 + 3)) = some c3 ∧ FnAt w c0 c1 c2 c3 f := by
      intro k f hk
      obtain ⟨b, off, c0, c1, c2, c3, he, hlt, h0, h1, h2, h3, hf⟩ := hcc k f hk
      cases he
      refine ⟨c0, c1, c2, c3, ?_, ?_, ?_, ?_, hf⟩
      all_goals rw [add_at]
      · exact h0
      · exact h1
      · exact h2
      · exact h3
    have four : ∀ j, j < l.length * 4 → ∃ c, w.cell? (ad.add j) = some c ∧ c.oneCell' = true := by
      intro j hj
      obtain ⟨f, hf⟩ := at_of_lt (l := l) (k := j / 4) (by omega)
      obtain ⟨c0, c1, c2, c3, h0, h1, h2, h3, e0, ⟨_, _, e1, _⟩, e2, ⟨_, _, e3, _⟩⟩ := key _ f hf
      have : j % 4 = 0 ∨ j % 4 = 1 ∨ j % 4 = 2 ∨ j % 4 = 3 := by omega
      rcases this with h | h | h | h
      · rw [show j / 4 * 4 = j by omega] at h0; exact ⟨c0, h0, by rw [e0]; rfl⟩
      · rw [show j / 4 * 4 + 1 = j by omega] at h1; exact ⟨c1, h1, by rw [e1]; rfl⟩
      · rw [show j / 4 * 4 + 2 = j by omega] at h2; exact ⟨c2, h2, by rw [e2]; rfl⟩
      · rw [show j / 4 * 4 + 3 = j by omega] at h3; exact ⟨c3, h3, by rw [e3]; rfl⟩
  · intro j u hj
    have hjl : j < l.length * 4 := by have := lt_of_at hj; simpa using this
    obtain ⟨c, h1, _⟩ := four j hjl
    simp [hjl] at hj
    rw [h1] at hj ⊢
    simp at hj
    rw [hj]
  · intro u hu
    obtain ⟨j, hj, rfl⟩ := List.mem_map.1 hu
    obtain ⟨c, h1, h2⟩ := four j (by simpa using hj)
    rw [h1]
    exact h2
  · refine ⟨by simp, fun k f hk => ?_⟩
    have hkl := lt_of_at hk
    obtain ⟨c0, c1, c2, c3, h0, h1, h2, h3, hf⟩ := key k f hk
    refine ⟨c0, c1, c2, c3, ?_, ?_, ?_, ?_, hf, fun p n c e => ?_⟩
    · rw [List.getElem?_map, List.getElem?_range (by omega), Option.map_some, h0]; rfl
    · rw [List.getElem?_map, List.getElem?_range (by omega), Option.map_some, h1]; rfl
    · rw [List.getElem?_map, List.getElem?_range (by omega), Option.map_some, h2]; rfl
    · rw [List.getElem?_map, List.getElem?_range (by omega), Option.map_some, h3]; rfl
    · obtain ⟨b, off, d0, d1, d2, d3, he, hlt, g0, g1, g2, g3, _⟩ := hcc k f hk
      cases he
      rw [add_at] at h1
      rw [show off + (k * 4 + 1) = off + k * 4 + 1 by omega] at h1
      subst e
      exact hc b off _ _ k p n c rfl hkl h1
theorem lt_of_cell {w : World} {a : Addr} {v : Value} (h : w.cell? a = some v) : a.block < w.heap.size := by
  rcases Nat.lt_or_ge a.block w.heap.size with h' | h'
  · exact h'
  · simp [World.cell?, Array.getElem?_eq_none h'] at h
/-- append of functions that were there at first onto a row, as a step of a region that draws. -/
theorem step_append_fns {ops : Array Oper} {o : Oper} {a : Act} {w : World} {K : Act → World → Prop} {Q : Exit → Act → World → Prop} {E : Prop}
    (hg : o.guard = none) (s x : Operand) (hop : o.op = Op.call { callee := Callee.builtin Builtin.append, args := #[s, x], argTypes := #[22, 22] })
    (base : Nat) (v : Value) (n : Nat) (xs : List Value) (hs : a.eval s = v) (hown : w.ownsRow base 33 4 v n xs)
    (u : Value) (l : List Fn) (hx : a.eval x = u) (w0 : World) (hu : FnsAt w0 u l) (hcap : CapAt w0 u) (hkept : Kept w0 w) (hnil : NilOk u) (b1 : n + l.length ≤ 2199023255552) (hbase : base ≤ w.heap.size)
    (hK : ∀ v' w' news, w'.ownsRow base 33 4 v' (n + l.length) (xs ++ news) → RowFns w0 news l → w.grownBy w' v.ownBlock → K (a.put o.dst v') w') :
    if Region.wanted o (yielded ops a.tmps) = true then Oper.wp Try.prog o a w K Q else E := by
  obtain ⟨i0, hi, hz0, hz1, hz2⟩ := info_parts infoFn
  obtain ⟨p, cap, he, hm, hc⟩ := id hu
  subst he
  cases p with
  | none =>
    have hl : l = [] := by
      cases l with
      | nil => rfl
      | cons f r => obtain ⟨b, off, _, _, _, _, hb, _⟩ := hc 0 f rfl; cases hb
    subst hl
    have hc0 : cap = 0 := hnil _ _ rfl
    subst hc0
    have hw : Region.wanted o (yielded ops a.tmps) = true := by simp [Region.wanted, hg]
    rw [if_pos hw]
    have hrun := run_append_owned_none (P := Try.prog) (w := w) base 22 o.type 33 i0 4 Try.underlying22 hi v n xs hown
    have hx' : a.eval x = .slice none 0 0 := hx
    unfold Oper.wp
    simp [execOp, hop, resolve, invoke, builtin, hs, hx', hrun, Result.andThen]
    exact hK v w [] (by simpa using hown) ⟨rfl, fun k f hk => by simp at hk⟩ (World.grownBy.refl _ _)
  | some ad =>
    obtain ⟨news, h1, h2, h3, h4⟩ := raw_fns hu hcap
    exact step_append_row hg s x 22 hop base 33 i0 _ 4 64 Try.underlying22 hi hz0 hz1 hz2 rfl (by decide) v n xs hs hown ad l.length cap news hx h1 (fun j u hj => (hkept.cell (by have := h2 j u hj; exact lt_of_cell this)).trans (h2 j u hj)) h3 (by unfold maxLen; omega) (by omega) hbase (fun v' w' r1 r2 => hK v' w' news r1 h4 r2)
theorem own_empty {W : World} {B g : Nat} {e : TypeId} {k : Nat} (h : W.heap[g]? = some (.cells #[] e (0, 0))) (hB : B ≤ g) : W.ownsRow B e k (.slice (some ⟨g, 0, none⟩) 0 0) 0 [] := ⟨by simp, .inr ⟨g, 0, #[], rfl, hB, h, Nat.le_refl _, Nat.zero_le _, by simp, by simp⟩⟩
theorem row_eta {W W' : World} {B n k : Nat} {e : TypeId} {v : Value} {xs : List Value} (h : W.ownsRow B e k v n xs) (he : W'.heap = W.heap) : W'.ownsRow B e k v n xs := row_same h fun j _ => by rw [he]
theorem bel_eta {w W W' : World} (h : Below w.heap.size w W) (e : W'.heap = W.heap) (e1 : W'.os = W.os) (e2 : W'.tape = W.tape) (e3 : W'.output = W.output) : Below w.heap.size w W' := ⟨e1.trans h.os, e2.trans h.tape, e3.trans h.output, by rw [e]; exact h.size, fun k hk => by rw [e]; exact h.block k hk⟩
theorem bel_alloc {w W : World} (h : Below w.heap.size w W) (o : Obj) : Below w.heap.size w (W.alloc o) := h.alloc h.size o
theorem bel_grown {w W W' : World} (h : Below w.heap.size w W) {g : Option Nat} (hg : W.grownBy W' g) (hb : ∀ k, g = some k → w.heap.size ≤ k) : Below w.heap.size w W' := h.grown hg h.size hb
theorem grown_keep {W W' : World} {v : Value} (hg : W.grownBy W' v.ownBlock) {B n k z : Nat} {e t : TypeId} {xs : List Value} {c : Array Value} {fz : Nat × Nat} (hr : W.ownsRow B e k v n xs) (hz : W.heap[z]? = some (.cells c t fz)) (ht : t ≠ e) : W'.heap[z]? = some (.cells c t fz) :=
  (hg.block z (heap_lt hz) (row_not hr hz ht)).trans hz
theorem cell_eta {W W' : World} {a : Addr} {v : Value} (h : W.cell? a = some v) (he : W'.heap = W.heap) : W'.cell? a = some v := (World.cell?_of_block (by rw [he])).trans h
theorem blk_keep {W W' : World} {g n c : Nat} (hg : W.grownBy W' (Value.slice (some ⟨g, 0, none⟩) n c).ownBlock) {z : Nat} {o : Obj} (hz : W.heap[z]? = some o) (hne : z ≠ g) : W'.heap[z]? = some o :=
  (hg.block z (heap_lt hz) (fun e => hne (by simpa [Value.ownBlock] using e))).trans hz
theorem new_three (w : World) (a b c : Obj) : (((w.alloc a).alloc b).alloc c).heap[w.heap.size + 1 + 1]? = some c := by
  have := new_two (w.alloc a) b c
  simpa using this
theorem cells4_at {w : World} {b : Nat} {c0 c1 c2 c3 : Value} {t : TypeId} {fz : Nat × Nat} (h : w.heap[b]? = some (.cells #[c0, c1, c2, c3] t fz)) : ∀ (j : Nat) (u : Value), [c0, c1, c2, c3][j]? = some u → w.cell? ((⟨b, 0, none⟩ : Addr).add j) = some u := by
  intro j u hj
  rw [add_at, cell_at' h]
  simpa using hj
end Go.Proofs.Ytgmkmlenhhhgkaa
