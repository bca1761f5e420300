/- My texts Ee Ef Ka, joined. -/
import Derived.Deep.RegionHeld3
import Derived.Deep.RegionLaw
import Derived.Laws.OwnMore
import Derived.Test.YtgmkmlenhhhgkaaGreatU6
import Derived.Test.YtgmkmlenhhhgkaaGreatU10
import Derived.Test.YtgmkmlenhhhgkaaGreatU11
import Derived.Test.YtgmkmlenhhhgkaaGreatU12
import Derived.Test.YtgmkmlenhhhgkaaGreatU13
import Derived.Test.YtgmkmlenhhhgkaaGreatU14
import Derived.Test.YtgmkmlenhhhgkaaGreatU16
import Derived.Test.YtgmkmlenhhhgkaaGreatU18
import Derived.Test.YtgmkmlenhhhgkaaGreatU21
/- The reference's EntriesOf. -/
namespace Go.Proofs.YtgmkmlenhhhgkaaGreat
open Go.RowKit
set_option linter.unusedSimpArgs false
set_option linter.unusedVariables false
/-- the entries that are told. -/
noncomputable def entL (f : Fn) : Option (Nat → Option (List Int)) → List (Nat × List Int)
  | none => []
  | some e => entsOf f.2.2.2 e
def EntP (p : List Fn) (f : Fn) (w : World) (e : Ending) (w' : World) : Prop := ∃ v ok r, e = .returned (.tuple #[v, .bool ok]) ∧ Least p f r ∧ ok = r.isSome ∧ EntsRd w' v (entL f r) ∧ Below w.heap.size w w'
theorem entP_none {p : List Fn} {f : Fn} {w w' : World} (h : ∀ e, ¬ FitsBy p f e) (hb : Below w.heap.size w w') : EntP p f w (.returned (.tuple #[.slice none 0 0, .bool false])) w' :=
  ⟨_, false, none, rfl, h, rfl, ⟨none, 0, rfl, Nat.zero_le _, fun k pc s hk => by simp [entL] at hk⟩, hb⟩
def ents0 (n : Nat) : Ents := (List.replicate n none).set 0 (some [])
theorem ei_first {w W1 w2 w3 : World} {p : List Fn} {f : Fn} (hb1 : Below w.heap.size w W1) (hn : 0 < f.2.2.2.length)
    (q2 : w2.heap[W1.heap.size]? = some (.cells (List.replicate f.2.2.2.length (Value.slice none 0 0)).toArray 25 (0, 0))) (hb2 : Below W1.heap.size W1 w2)
    (q3 : w3.heap[w2.heap.size]? = some (.cells ((List.replicate f.2.2.2.length false).map Value.bool).toArray 4 (0, 0))) (hb3 : Below w2.heap.size w2 w3) :
    EI w W1.heap.size w2.heap.size p f (ents0 f.2.2.2.length) (w3.setCell ⟨w2.heap.size, 0, none⟩ (.bool true)) := by
  have l2 := heap_lt q2
  have hne : W1.heap.size ≠ w2.heap.size := by omega
  have hB3 := bthen hb1 (bthen hb2 hb3)
  refine ⟨hB3.setCell (by have := hb1.size; have := hb2.size; show w.heap.size ≤ w2.heap.size; omega) _, by simp [ents0], ?_, ⟨List.replicate f.2.2.2.length (Value.slice none 0 0), by simp [ents0], ?_, ?_, ?_⟩, ?_, ?_, ?_⟩
  · have := heap_setCell_same w3 w2.heap.size 0 _ _ (.bool true) q3
    rw [set_marks] at this
    rw [this]
    have e : (List.replicate f.2.2.2.length false).set 0 true = (ents0 f.2.2.2.length).map Option.isSome := by
      unfold ents0
      rw [List.map_set]
      simp
    rw [e]
  · rw [heap_setCell_other _ _ _ _ (by simpa using hne)]
    exact (hb3.block _ l2).trans q2
  · intro v hv
    rw [List.mem_replicate] at hv
    exact ⟨_, _, _, hv.2⟩
  · intro k s hk
    unfold ents0 at hk
    by_cases e : k = 0
    · subst e
      rw [List.getElem?_set_self (by simpa using hn)] at hk
      cases hk
      exact ⟨.slice none 0 0, by simp [hn], fullInts_nil _⟩
    · rw [List.getElem?_set_ne (fun e2 => e e2.symm), List.getElem?_replicate] at hk
      split at hk <;> cases hk
  · intro k s hk
    unfold ents0 at hk
    by_cases e : k = 0
    · subst e
      rw [List.getElem?_set_self (by simpa using hn)] at hk
      cases hk
      exact ⟨by simp, fun t ht => by simp at ht⟩
    · rw [List.getElem?_set_ne (fun e2 => e e2.symm), List.getElem?_replicate] at hk
      split at hk <;> cases hk
  · unfold ents0
    rw [ent_set _ _ _ _ (by simpa using hn), if_pos rfl]
  · intro e' he' x s hs
    unfold ents0 at hs
    rw [ent_set _ _ _ _ (by simpa using hn)] at hs
    by_cases e : x = 0
    · subst e; rw [if_pos rfl] at hs; cases hs; exact ⟨[], he'.first, rfl⟩
    · rw [if_neg e] at hs
      unfold ent at hs
      rw [List.getElem?_replicate] at hs
      split at hs <;> cases hs
/-- a new entry, stored. -/
theorem ei_new {w wr : World} {Ra Rm : Nat} {p : List Fn} {f : Fn} {E : Ents} (h : EI w Ra Rm p f E wr) (ha : w.heap.size ≤ Ra) (hm : w.heap.size ≤ Rm) (hne : Ra ≠ Rm) {to : Nat} {out : List Int} {v : Value} (hto : to < E.length) (hn : ent E to = none) (hv : FullInts wr v out) (h8 : out.length ≤ 8) (ht : tyL out) (hlow : ∀ e', FitsBy p f e' → ∃ s', e' to = some s' ∧ leS out s' = true) :
    EI w Ra Rm p f (E.set to (some out)) ((wr.setCell ⟨Ra, to, none⟩ v).setCell ⟨Rm, to, none⟩ (.bool true)) := by
  have hwr : Wr Ra Rm wr ((wr.setCell ⟨Ra, to, none⟩ v).setCell ⟨Rm, to, none⟩ (.bool true)) := (Wr.of_grown (set_grown wr ⟨Ra, to, none⟩ _) (.inl rfl)).trans (Wr.of_grown (set_grown _ ⟨Rm, to, none⟩ _) (.inr rfl))
  refine h.put ha hm hto hv h8 ht hwr (fun V hV => ?_) ?_ ?_ (low_new h.low hto hlow)
  · rw [heap_setCell_other _ _ _ _ (by simpa using hne), heap_setCell_same wr Ra to _ _ _ hV]
    simp
  · have h' : (wr.setCell ⟨Ra, to, none⟩ v).heap[Rm]? = some (.cells ((E.map Option.isSome).map Value.bool).toArray 4 (0, 0)) := by rw [heap_setCell_other _ _ _ _ (by simpa using hne.symm)]; exact h.hRm
    rw [heap_setCell_same _ Rm to _ _ _ h', set_marks, List.map_set (l := E)]
    rfl
  · rw [ent_set E to 0 out hto]
    by_cases e : (0 : Nat) = to
    · subst e; rw [h.zero] at hn; cases hn
    · rw [if_neg e]; exact h.zero
/-- an entry that is joined, stored. -/
theorem ei_join {w wr : World} {Ra Rm : Nat} {p : List Fn} {f : Fn} {E : Ents} (h : EI w Ra Rm p f E wr) (ha : w.heap.size ≤ Ra) (hm : w.heap.size ≤ Rm) (hne : Ra ≠ Rm) {to : Nat} {s1 out j : List Int} {v : Value} (hs1 : ent E to = some s1) (hj : joinL s1 out = some j) (hv : FullInts wr v j) (ht : tyL out) (hlow : ∀ e', FitsBy p f e' → ∃ s', e' to = some s' ∧ leS out s' = true) :
    EI w Ra Rm p f (E.set to (some j)) (wr.setCell ⟨Ra, to, none⟩ v) := by
  have hto := ent_lt hs1
  have hwr : Wr Ra Rm wr (wr.setCell ⟨Ra, to, none⟩ v) := Wr.of_grown (set_grown wr ⟨Ra, to, none⟩ _) (.inl rfl)
  have hok := h.ok to s1 (ent_some hs1)
  refine h.put ha hm hto hv (by rw [(joinL_length _ _ _ hj).1]; exact hok.1) (join_types hok.2 ht hj) hwr (fun V hV => ?_) ?_ ?_ (low_new h.low hto fun e' he' => ?_)
  · rw [heap_setCell_same wr Ra to _ _ _ hV]
    simp
  · rw [heap_setCell_other _ _ _ _ (by simpa using hne.symm), h.hRm]
    congr 3
    rw [List.map_set]
    congr 1
    apply List.ext_getElem?
    intro k
    by_cases e : k = to
    · subst e
      rw [List.getElem?_set_self (by simpa using hto), List.getElem?_map, ent_some hs1]; rfl
    · rw [List.getElem?_set_ne (fun e2 => e e2.symm)]
  · rw [ent_set E to 0 j hto]
    by_cases e : (0 : Nat) = to
    · subst e
      rw [h.zero] at hs1
      cases hs1
      have := (joinL_length _ _ _ hj).1
      have hj0 : j = [] := List.eq_nil_of_length_eq_zero (by simpa using this)
      rw [if_pos rfl, hj0]
    · rw [if_neg e]; exact h.zero
  · obtain ⟨s', h1, h2⟩ := hlow e' he'
    obtain ⟨s2, h3, h4⟩ := h.low e' he' to s1 hs1
    rw [h1] at h3
    cases h3
    obtain ⟨j', h5, h6⟩ := joinL_le h4 h2
    rw [hj] at h5
    cases h5
    exact ⟨s', h1, h6⟩
/-- reading the rows. -/
theorem ei_met {w wr : World} {Ra Rm : Nat} {p : List Fn} {f : Fn} {E : Ents} (h : EI w Ra Rm p f E wr) {k : Nat} {x : Option (List Int)} (hk : E[k]? = some x) : wr.cell? ⟨Rm, k, none⟩ = some (.bool x.isSome) ∧ wr.frozen? ⟨Rm, k, none⟩ = false := by
  refine ⟨?_, Lib.frozen_of_heap h.hRm k⟩
  rw [cell_at' h.hRm]
  simp [hk]
theorem ei_at {w wr : World} {Ra Rm : Nat} {p : List Fn} {f : Fn} {E : Ents} (h : EI w Ra Rm p f E wr) {k : Nat} (hk : k < E.length) : ∃ q n c, wr.cell? ⟨Ra, k, none⟩ = some (.slice q n c) ∧ wr.frozen? ⟨Ra, k, none⟩ = false ∧ ∀ s, ent E k = some s → n = s.length ∧ FullInts wr (.slice q n c) s := by
  obtain ⟨V, h1, h2, h3, h4⟩ := h.hRs
  obtain ⟨v, hv⟩ := at_of_lt (l := V) (k := k) (by omega)
  obtain ⟨q, n, c, rfl⟩ := h3 v (List.mem_of_getElem? hv)
  refine ⟨q, n, c, by rw [cell_at' h2]; simpa using hv, Lib.frozen_of_heap h2 k, fun s hs => ?_⟩
  obtain ⟨v', a, b⟩ := h4 k s (ent_some hs)
  rw [hv] at a
  cases a
  obtain ⟨_, _, hb, _⟩ := b.shp
  cases hb
  exact ⟨rfl, b⟩
theorem pass_go {Es E : Ents} {m : Bool} {P Q : Prop} (h : Pass Es E m P) (hpq : E = Es → P → Q) : Pass Es E m Q := by
  rcases h with h | ⟨h1, h2, h3⟩
  · exact .inl h
  · exact .inr ⟨h1, h2, hpq h2 h3⟩
theorem pass_less {Es E E' : Ents} {m : Bool} {P Q : Prop} (h : Pass Es E m P) (hlt : mu E' < mu E) : Pass Es E' true Q := by
  rcases h with ⟨_, h⟩ | ⟨_, rfl, _⟩
  · exact .inl ⟨rfl, by omega⟩
  · exact .inl ⟨rfl, hlt⟩
/-- the places behind an op. -/
theorem places_mem {C : List (Int × Int)} (hc : ∀ o ∈ C, badTo C.length o = false) {k : Nat} {z : Int} : z ∈ placesL (fun to => goesOn C k to) (C.length + 1) ↔ ∃ to : Nat, z = (to : Int) ∧ goesOn C k to = true := by
  unfold placesL
  rw [List.mem_map]
  constructor
  · rintro ⟨y, h1, rfl⟩
    exact ⟨y, rfl, (List.mem_filter.1 h1).2⟩
  · rintro ⟨y, rfl, h⟩
    exact ⟨y, List.mem_filter.2 ⟨List.mem_range.2 (by have := goesOn_le hc h; omega), h⟩, rfl⟩
theorem EI.ints {w : World} {Ra Rm : Nat} {p : List Fn} {f : Fn} {E : Ents} {wr wr' : World} (h : EI w Ra Rm p f E wr) {v : Value} {s : List Int} (hv : IntsAt wr v s) (hw : Wr Ra Rm wr wr') : IntsAt wr' v s := by
  obtain ⟨V, _, h2, h3, _⟩ := h.hRs
  exact hv.wr h2 h3 h.hRm hw
theorem wr_two (wr : World) (Ra Rm to : Nat) (v : Value) : Wr Ra Rm wr ((wr.setCell ⟨Ra, to, none⟩ v).setCell ⟨Rm, to, none⟩ (.bool true)) := (Wr.of_grown (set_grown wr ⟨Ra, to, none⟩ _) (.inl rfl)).trans (Wr.of_grown (set_grown _ ⟨Rm, to, none⟩ _) (.inr rfl))
theorem wr_one (wr : World) (Ra Rm to : Nat) (v : Value) : Wr Ra Rm wr (wr.setCell ⟨Ra, to, none⟩ v) := Wr.of_grown (set_grown wr ⟨Ra, to, none⟩ _) (.inl rfl)
/-- the places below n that have an entry. -/
def rngE (E : Ents) (n : Nat) : List Nat := (List.range n).filter fun x => (ent E x).isSome
def entsQ (E : Ents) (V : List Value) (n : Nat) : List (Nat × Value) := (rngE E n).map fun x => (x, V.getD x (.slice none 0 0))
theorem rngE_some {E : Ents} {n : Nat} {s : List Int} (h : ent E n = some s) : rngE E (n + 1) = rngE E n ++ [n] := by
  unfold rngE; rw [List.range_succ, List.filter_append]; simp [h]
theorem rngE_none {E : Ents} {n : Nat} (h : ent E n = none) : rngE E (n + 1) = rngE E n := by
  unfold rngE; rw [List.range_succ, List.filter_append]; simp [h]
theorem rngE_le (E : Ents) (n : Nat) : (rngE E n).length ≤ n := by
  unfold rngE
  have := List.length_filter_le (fun x => (ent E x).isSome) (List.range n)
  rwa [List.length_range] at this
theorem rngE_reach {p : List Fn} {f : Fn} {E : Ents} (hfl : flowErr f.2.2.2 = 0) (h : Least p f (some (ent E))) : rngE E f.2.2.2.length = reachL f.2.2.2 := by
  have hlast : ¬ Come f.2.2.2 f.2.2.2.length := fun hc => by
    obtain ⟨s, hs⟩ := (least_come h _).2 hc
    obtain ⟨o, _, ho, _⟩ := h.1.on _ _ hs
    have := lt_of_at ho
    omega
  unfold rngE reachL
  rw [List.range_succ, List.filter_append]
  have e2 : List.filter (fun x => @decide (Come f.2.2.2 x) (Classical.propDecidable _)) [f.2.2.2.length] = [] := by simp [hlast]
  rw [e2, List.append_nil]
  apply List.filter_congr
  intro x _
  rw [Bool.eq_iff_iff]
  simp only [decide_eq_true_eq, Option.isSome_iff_exists]
  exact least_come h x
/-- entries in a row of the call's own, their stacks anywhere. -/
theorem entsRd_row {W : World} {B : Nat} {v : Value} {q : List (Nat × Value)} {l : List (Nat × List Int)} (hr : W.ownsRow B 55 2 v q.length (entCells q)) (hlen : q.length = l.length) (hq : ∀ (k : Nat) (x : Nat × Value) (y : Nat × List Int), q[k]? = some x → l[k]? = some y → x.1 = y.1 ∧ FullInts W x.2 y.2) : EntsRd W v l := by
  rcases hr.2 with ⟨rfl, h0⟩ | ⟨g, cap, cur, rfl, hb, hg, hn, hc, hs, ht⟩
  · have hl : l = [] := List.eq_nil_of_length_eq_zero (by omega)
    subst hl
    exact ⟨none, 0, rfl, Nat.zero_le _, fun k pc s hk => by simp at hk⟩
  · refine ⟨_, cap, by rw [hlen], by omega, fun k pc s hk => ?_⟩
    have hkl := lt_of_at hk
    obtain ⟨⟨pc', u⟩, hx⟩ := at_of_lt (l := q) (k := k) (by omega)
    obtain ⟨h1, h2⟩ := hq k _ _ hx hk
    simp only at h1 h2
    subst h1
    have hcl := entCells_at q k _ hx
    refine ⟨g, 0, u, rfl, heap_lt hg, ?_, ?_, h2⟩
    · have := hcl.1
      rw [← ht, List.getElem?_take_of_lt (by omega)] at this
      rw [cell_at' hg]; simpa using this
    · have := hcl.2
      rw [← ht, List.getElem?_take_of_lt (by omega)] at this
      rw [cell_at' hg]; simpa using this
set_option maxRecDepth 100000 in
set_option maxHeartbeats 8000000 in
theorem entriesOf_any (p : List Fn) (m : Nat) (f : Fn) (pv : Value) (w : World) (hp : FnsAt w pv p) (hcp : CapAt w pv) (hf : p[m]? = some f) (hok : OkFn p f) : Calls Tryz.prog 18 #[.agg #[pv], .int .i64 m] w (EntP p f w) := by
  obtain ⟨i0, hi, hz0, hz1, hz2⟩ := info_parts infoBool
  obtain ⟨i1, hj, hy0, hy1, hy2⟩ := info_parts infoInts
  obtain ⟨i2, hk2, hx0, hx1, hx2⟩ := info_parts infoEntry
  obtain ⟨pp, qp, hpv, hpm, -⟩ := id hp
  subst hpv
  unfold maxLen at hpm
  have hmp : (m : Int) < (p.length : Int) := by have := lt_of_at hf; omega
  obtain ⟨W1, hW1⟩ : ∃ W1, w.alloc (.cells #[.slice pp p.length qp] 24) = W1 := ⟨_, rfl⟩
  have hb1 : Below w.heap.size w W1 := by rw [← hW1]; exact (Below.refl _ w).alloc (Nat.le_refl _) _
  have x1 : W1.heap[w.heap.size]? = some (.cells #[.slice pp p.length qp] 24 (0, 0)) := by rw [← hW1]; exact World.alloc_heap_new w _
  have c1 := cell_at' x1 0
  simp at c1
  have lx := heap_lt x1
  have p1 := hp.below hb1
  have cp1 := hcp.below hp hb1
  obtain ⟨p', q', hpe, -, hpc⟩ := id p1
  cases hpe
  obtain ⟨b, off, d0, d1, d2, d3, hpp, hlt, y0, y1, y2, y3, hfn⟩ := hpc m f hf
  subst hpp
  have hfl := hok.flow
  obtain ⟨P, L, r, C⟩ := f
  simp only at hfl
  have h40 : C.length ≤ 40 := flowErr_40 hfl
  have h0C : 0 < C.length := by have := (flowErr_zero hfl).2.1; omega
  obtain ⟨e0, ⟨pL, qL, e1, -, -⟩, e2, hC⟩ := id hfn
  simp only at e0 e1 e2 hC
  obtain ⟨pC, qC, e3, -, hCc⟩ := id hC
  subst e0 e1 e2 e3
  have hpl : ∀ k z, z ∈ placesL (fun to => goesOn C k to) (C.length + 1) ↔ ∃ to : Nat, z = (to : Int) ∧ goesOn C k to = true := fun k z => places_mem (flowErr_zero hfl).2.2
  have HPL := hideP hpl
  have HCC := hideP hCc
  have HC := hideP hC
  have HFL := hideP hfl
  have HFN := hideP hfn
  have HOK := hideP hok
  have P1 := hideP p1
  have CP1 := hideP cp1
  have h0Ci : (0 : Int) < (C.length : Int) := by omega
  clear hpl hCc hC hfl hfn hok p1 cp1 hpc hf hp hcp x1
  go_enter Tryz.func18, Tryz.ntmps18
  go_wp2_with (first
    | (at_make; refine wpList_make_full _ rfl _ _ 62 rfl W1.heap.size 25 i1 (.slice none 0 0) 1 Tryz.underlying62 hj hy0 hy1 _ _ _ _ C.length rfl rfl (by omega) (by omega) (by rw [hy2]; omega) (by unfold maxLen; omega) (Nat.le_refl _) ?_; intro w2 hown2 hg2)
    | (at_make; refine wpList_make_full _ rfl _ _ 69 rfl w2.heap.size 4 i0 (.bool false) 1 Tryz.underlying69 hi hz0 hz1 _ _ _ _ C.length rfl rfl (by omega) (by omega) (by rw [hz2]; omega) (by unfold maxLen; omega) (Nat.le_refl _) ?_; intro w3 hown3 hg3; rw [made_bools] at hown3; have q3 := row_full hown3 (by simp); have v3 : w3.cell? ⟨w2.heap.size, 0, none⟩ = some (.bool false) := (by rw [cell_at' q3]; simp [h0C]); have z3 := Lib.frozen_of_heap q3 0; have Q3 := hideP q3; clear q3 hown3))
  rw [made_slices] at hown2
  have q2 := row_full hown2 (by simp)
  have hb2 : Below W1.heap.size W1 w2 := (Below.refl W1.heap.size W1).grown hg2 (Nat.le_refl _) (fun k hk => by cases hk)
  have hb3 : Below w2.heap.size w2 w3 := (Below.refl w2.heap.size w2).grown hg3 (Nat.le_refl _) (fun k hk => by cases hk)
  have hI0 : EI W1 W1.heap.size w2.heap.size p (P, L, r, C) (ents0 C.length) (w3.setCell ⟨w2.heap.size, 0, none⟩ (.bool true)) := ei_first (Below.refl _ _) h0C q2 hb2 Q3.out hb3
  have hl2 := heap_lt q2
  have hRm : W1.heap.size ≤ w2.heap.size := by omega
  have hne : W1.heap.size ≠ w2.heap.size := by omega
  have HI0 := hideP hI0
  clear hI0 hown2 hg2 hg3 v3 z3 q2 Q3 hl2 hW1 hb2 hb3
  go_loopw [9, 10, 11, 12, 13, 14, 15, 16, 17] (fun v9 _ _ _ _ _ _ _ _ wr => ∃ (E : Ents) (mo : Bool), v9 = .bool mo ∧ EI W1 W1.heap.size w2.heap.size p (P, L, r, C) E wr ∧ (mo = false → ∀ x s, ent E x = some s → DoneAt p (P, L, r, C) (ent E) x)) (fun v9 _ _ _ _ _ _ _ _ wr => 2 * muW W1 W1.heap.size w2.heap.size p (P, L, r, C) wr + moreOf v9)
  case atStart => exact ⟨_, true, rfl, HI0.out, fun h => by cases h⟩
  case round =>
    rename World => w4
    obtain ⟨Es, mo, rfl, hEs, hfin⟩ := hrel
    have HES := hideP hEs
    clear HI0
    cases mo
    case false =>
      have hleast := least_pass hEs.zero hEs.low (hfin rfl)
      have HLE := hideP hleast
      clear hEs hfin hleast
      obtain ⟨V, hVl, hRow, hVs, hVf⟩ := HES.out.hRs
      have hEl : Es.length = C.length := HES.out.len
      have hrr := rngE_reach HFL.out HLE.out
      simp only at hrr
      have hb4 := HES.out.bel
      have HVF := hideP hVf
      have HVS := hideP hVs
      have HRW := hideP hRow
      have HRR := hideP hrr
      clear hVf hVs hRow hrr
      go_wp2
      go_loopw [18, 19] (fun v18 v19 wr => ∃ k : Nat, k ≤ C.length ∧ v19 = .int .i64 k ∧ wr.ownsRow w4.heap.size 55 2 v18 (entsQ Es V k).length (entCells (entsQ Es V k)) ∧ Below w4.heap.size w4 wr) (fun _ v19 _ => C.length - (intOf v19).toNat)
      case atStart => exact ⟨0, Nat.zero_le _, rfl, World.ownsRow_nil _ _ _ _, Below.refl _ _⟩
      case round =>
        rename World => w5
        obtain ⟨k, hk, rfl, hrow, hb5⟩ := hrel
        obtain ⟨p18, c18, hv18⟩ := row_shp hrow
        subst hv18
        have HROW := hideP hrow
        have hql : (entsQ Es V k).length ≤ 40 := by unfold entsQ; rw [List.length_map]; have := rngE_le Es k; omega
        clear hrow
        by_cases hlt5 : k < C.length
        · have hlti : (k : Int) < (C.length : Int) := by omega
          obtain ⟨xo, hxo⟩ := at_of_lt (l := Es) (k := k) (by omega)
          obtain ⟨t0, -⟩ := ei_met HES.out hxo
          have t1 := (hb5.cell (p := ⟨w2.heap.size, k, none⟩) (heap_lt HES.out.hRm)).trans t0
          cases xo with
          | none =>
            simp only [Option.isSome_none] at t1
            have HEN := hideP (ent_at hxo)
            clear hxo t0
            go_wp2
            go_roundw
            case rel =>
              refine ⟨k + 1, by omega, by go_num, ?_, hb5⟩
              have e : entsQ Es V (k + 1) = entsQ Es V k := by unfold entsQ; rw [rngE_none HEN.out]
              rw [e]
              exact HROW.out
            case measure => simp [intOf]; omega
          | some s =>
            simp only [Option.isSome_some] at t1
            have hen : ent Es k = some s := ent_at hxo
            obtain ⟨v, hv, hfv⟩ := HVF.out k s hxo
            obtain ⟨pv', cv', hve, -⟩ := hfv.shp
            subst hve
            have a0 : w4.cell? ⟨W1.heap.size, k, none⟩ = some (.slice pv' s.length cv') := by rw [cell_at' HRW.out]; simpa using hv
            have a1 := (hb5.cell (p := ⟨W1.heap.size, k, none⟩) (heap_lt HRW.out)).trans a0
            have hq1 : entsQ Es V (k + 1) = entsQ Es V k ++ [(k, .slice pv' s.length cv')] := by
              unfold entsQ
              rw [rngE_some hen, List.map_append]
              simp [List.getD_eq_getElem?_getD, hv]
            have HQ1 := hideP hq1
            have HR2 := hideP (HROW.out.alloc (.cells #[.int .i64 k, .slice pv' s.length cv'] 55))
            have hnews : ∀ (j : Nat) (u : Value), [Value.int .i64 k, .slice pv' s.length cv'][j]? = some u → (w5.alloc (.cells #[.int .i64 k, .slice pv' s.length cv'] 55)).cell? ((⟨w5.heap.size, 0, none⟩ : Addr).add j) = some u := by
              intro j u hj
              have hn := World.alloc_heap_new w5 (.cells #[.int .i64 k, .slice pv' s.length cv'] 55)
              match j, hj with
              | 0, hj => simp at hj; subst hj; exact cell_at' hn 0
              | 1, hj => simp at hj; subst hj; exact cell_at' hn 1
              | k + 2, hj => simp at hj
            have HNEWS := hideP hnews
            have s5 := hb5.size
            clear hxo t0 hen hv hfv a0 hq1 hnews
            go_wp2_with (at_builtin; refine wpList_append_own _ rfl _ _ 32 rfl w4.heap.size 55 i2 (.agg #[.int .i64 0, .slice none 0 0]) 2 32 Tryz.underlying32 hk2 hx0 hx1 hx2 rfl (by decide) _ _ _ rfl HR2.out ⟨w5.heap.size, 0, none⟩ 1 1 [.int .i64 k, .slice pv' s.length cv'] rfl rfl HNEWS.out (by intro u hu; simp at hu; rcases hu with rfl | rfl <;> rfl) (by unfold maxLen; omega) (by omega) (by simp; omega) ?_; intro v6 w6 hown6 hg6 _; have HO6 := hideP hown6; clear hown6)
            go_roundw
            case rel =>
              refine ⟨k + 1, by omega, by go_num, ?_, ?_⟩
              · rw [HQ1.out]
                have e1 : entCells (entsQ Es V k ++ [(k, .slice pv' s.length cv')]) = entCells (entsQ Es V k) ++ [.int .i64 k, .slice pv' s.length cv'] := by simp [entCells]
                rw [e1, List.length_append, List.length_singleton]
                exact HO6.out
              · exact (hb5.alloc s5 _).grown hg6 (by simp; omega) (fun j hj => (HR2.out.lt j hj).1)
            case measure => simp [intOf]; omega
        · have hlti : ¬ (k : Int) < (C.length : Int) := by omega
          have hkC : k = C.length := by omega
          have hrd : EntsRd w5 (.slice p18 (entsQ Es V k).length c18) (entL (P, L, r, C) (some (ent Es))) := by
            refine entsRd_row HROW.out ?_ ?_
            · show _ = (entsOf C (ent Es)).length
              unfold entsQ entsOf
              rw [List.length_map, List.length_map, hkC, HRR.out]
            · intro i x y hx hy
              have hy2 : (entsOf C (ent Es))[i]? = some y := hy
              unfold entsQ at hx
              unfold entsOf at hy2
              rw [hkC, HRR.out] at hx
              rw [List.getElem?_map] at hx hy2
              obtain ⟨z, hz, rfl⟩ := Option.map_eq_some_iff.1 hx
              rw [hz] at hy2
              cases hy2
              refine ⟨rfl, ?_⟩
              have hcz : Come C z := (mem_reachL (flowErr_zero HFL.out).2.2).1 (List.mem_of_getElem? hz)
              obtain ⟨s, hs⟩ := (least_come HLE.out z).2 hcz
              obtain ⟨v, hv, hfv⟩ := HVF.out z s (ent_some hs)
              show FullInts w5 (V.getD z (.slice none 0 0)) ((ent Es z).getD [])
              rw [hs, List.getD_eq_getElem?_getD, hv]
              exact hfv.below hb5
          have HRD := hideP hrd
          clear hrd hkC
          go_wp2
          go_ret2
          exact ⟨_, true, some (ent Es), rfl, HLE.out, rfl, HRD.out, bthen hb1 (bthen hb4 hb5)⟩
    case true =>
      clear hEs hfin
      go_wp2
      go_loopw [9, 10, 11, 12, 13, 14, 15, 16, 17] (fun v9 v10 _ _ _ _ _ _ _ wr => ∃ (E : Ents) (mo : Bool) (k : Nat), v9 = .bool mo ∧ v10 = .int .i64 k ∧ k ≤ C.length ∧ EI W1 W1.heap.size w2.heap.size p (P, L, r, C) E wr ∧ Pass Es E mo (∀ x s, x < k → ent E x = some s → DoneAt p (P, L, r, C) (ent E) x)) (fun _ v10 _ _ _ _ _ _ _ _ => C.length - (intOf v10).toNat)
      case atStart => exact ⟨Es, false, 0, rfl, rfl, Nat.zero_le _, HES.out, .inr ⟨rfl, rfl, fun x s hx => by omega⟩⟩
      case round =>
        rename World => w5
        obtain ⟨E, mo, k, rfl, rfl, hk, hE, hps⟩ := hrel
        have HE := hideP hE
        have HPS := hideP hps
        have hElen : E.length = C.length := hE.len
        have hb5 := hE.bel
        clear hE hps
        by_cases hlt5 : k < C.length
        · have hlti : (k : Int) < (C.length : Int) := by omega
          obtain ⟨xo, hxo⟩ := at_of_lt (l := E) (k := k) (by omega)
          obtain ⟨t0, -⟩ := ei_met HE.out hxo
          cases xo with
          | none =>
            simp only [Option.isSome_none] at t0
            have hen := ent_at hxo
            have HEN := hideP hen
            clear hxo hen
            go_wp2
            go_roundw
            case rel =>
              refine ⟨E, mo, k + 1, rfl, by go_num, by omega, HE.out, pass_go HPS.out fun _ h x s hx hs => ?_⟩
              by_cases e : x = k
              · subst e; rw [HEN.out] at hs; cases hs
              · exact h x s (by omega) hs
            case measure => simp [intOf]; omega
          | some s =>
            simp only [Option.isSome_some] at t0
            have hes : ent E k = some s := ent_at hxo
            obtain ⟨h8s, hts⟩ := HE.out.ok k s hxo
            obtain ⟨pa, na, ca, a0, -, hfa⟩ := ei_at HE.out (k := k) (by omega)
            obtain ⟨hna, hfull⟩ := hfa s hes
            subst hna
            obtain ⟨⟨oc, oa⟩, ho⟩ := at_of_lt hlt5
            obtain ⟨bC, oC, hpC, hbC, s0, s1⟩ := HCC.out k (oc, oa) ho
            subst hpC
            have v0 := (hb5.cell (p := ⟨b, off + m * 4, none⟩) hlt).trans y0
            have v1 := (hb5.cell (p := ⟨b, off + m * 4 + 1, none⟩) hlt).trans y1
            have v2 := (hb5.cell (p := ⟨b, off + m * 4 + 2, none⟩) hlt).trans y2
            have v3 := (hb5.cell (p := ⟨b, off + m * 4 + 3, none⟩) hlt).trans y3
            have v4 := (hb5.cell (p := ⟨bC, oC + k * 2, none⟩) hbC).trans s0
            have v5 := (hb5.cell (p := ⟨bC, oC + k * 2 + 1, none⟩) hbC).trans s1
            have v6 := (hb5.cell (p := ⟨w.heap.size, 0, none⟩) lx).trans c1
            have hbig : Below w5.heap.size w5 w5.drew := (Below.refl _ w5).drew
            have HTRY := hideP (tryRef_any (oc, oa) p (P, L, r, C) s _ _ _ _ _ _ w5.drew h8s ((hfull.at_).below hbig) hfull.nil hfull.cap ((P1.out.below hb5).below hbig) ((CP1.out.below P1.out hb5).below (P1.out.below hb5) hbig) ((HFN.out.below hb5).below hbig) (HOK.out.ops _ (List.mem_of_getElem? ho)))
            have HSB : Hid (∀ e', FitsBy p (P, L, r, C) e' → ∃ out, tryOp p (P, L, r, C) (oc, oa) s = some out ∧ ∀ to, goesOn C k to = true → to < C.length ∧ ∃ s', e' to = some s' ∧ leS out s' = true) := by
              intro e' he'
              obtain ⟨o, out, h1, h2, h3⟩ := step_below he' (HE.out.low e' he') hes
              simp only at h1 h3
              rw [ho] at h1
              cases h1
              refine ⟨out, h2, fun to hto => ?_⟩
              obtain ⟨h4, s', h5, h6, _⟩ := h3 to hto
              exact ⟨h4, s', h5, h6⟩
            have HO := hideP ho
            have HES2 := hideP hes
            have HTS := hideP hts
            have lb0 : w.heap.size < w5.heap.size := Nat.lt_of_lt_of_le lx hb5.size
            have lb1 : b < w5.heap.size := Nat.lt_of_lt_of_le hlt hb5.size
            have lb2 : bC < w5.heap.size := Nat.lt_of_lt_of_le hbC hb5.size
            have lb3 : W1.heap.size < w5.heap.size := by obtain ⟨V, _, h2, _⟩ := HE.out.hRs; exact heap_lt h2
            clear hxo hes hfa hfull ho s0 s1 hbig hts
            go_wp2_with fail
            go_region_held3 (fun W => W.cell? ⟨w.heap.size, 0, none⟩ = some (.slice (some ⟨b, off, none⟩) p.length qp) ∧ W.cell? ⟨b, off + m * 4, none⟩ = some (.int .i64 P) ∧ W.cell? ⟨b, off + m * 4 + 1, none⟩ = some (.slice pL L.length qL) ∧ W.cell? ⟨b, off + m * 4 + 2, none⟩ = some (.int .i64 r) ∧ W.cell? ⟨b, off + m * 4 + 3, none⟩ = some (.slice (some ⟨bC, oC, none⟩) C.length qC) ∧ W.cell? ⟨bC, oC + k * 2, none⟩ = some (.int .i64 oc) ∧ W.cell? ⟨bC, oC + k * 2 + 1, none⟩ = some (.int .i64 oa) ∧ W.cell? ⟨W1.heap.size, k, none⟩ = some (.slice pa s.length ca)) (go_keep)
              (first
                | (go_at_call 47; refine HTRY.out.mono ?_; rintro e w6 ⟨u6, r6, ok6, rfl, hr6, ht6, hb6⟩; have hbw : Below w5.heap.size w5 w6 := ((Below.refl w5.heap.size w5).drew).trans hb6; have g6 := (hbw.cell (p := ⟨w.heap.size, 0, none⟩) lb0).trans v6; have g0 := (hbw.cell (p := ⟨b, off + m * 4, none⟩) lb1).trans v0; have g1 := (hbw.cell (p := ⟨b, off + m * 4 + 1, none⟩) lb1).trans v1; have g2 := (hbw.cell (p := ⟨b, off + m * 4 + 2, none⟩) lb1).trans v2; have g3 := (hbw.cell (p := ⟨b, off + m * 4 + 3, none⟩) lb1).trans v3; have g4 := (hbw.cell (p := ⟨bC, oC + k * 2, none⟩) lb2).trans v4; have g5 := (hbw.cell (p := ⟨bC, oC + k * 2 + 1, none⟩) lb2).trans v5; have g7 := (hbw.cell (p := ⟨W1.heap.size, k, none⟩) lb3).trans a0; have HR6 := hideP hr6; have HT6 := hideP ht6; clear hr6 ht6))
            all_goals
              have fi6 := fullInts_row rfl HR6.out
              obtain ⟨p6, c6, hu6, -⟩ := fi6.shp
              subst hu6
              have HE6 := hideP (HE.out.after hbw)
              have hb16 := bthen hb5 hbw
              clear HTRY HR6 v0 v1 v2 v3 v4 v5 v6 g0 g1 g2 g3 g4 g5 g6 g7 a0
              cases ok6
              · have hno : ∀ e, ¬ FitsBy p (P, L, r, C) e := fun e he => by
                  obtain ⟨out, h1, _⟩ := HSB.out e he
                  rw [HT6.out] at h1
                  cases h1
                have HNO := hideP hno
                clear hno fi6
                go_wp2
                go_ret2
                exact entP_none HNO.out (bthen hb1 hb16)
              · obtain ⟨htt, h8t⟩ := try_types HOK.out (List.mem_of_getElem? HO.out) HTS.out HT6.out
                have hlow : ∀ e', FitsBy p (P, L, r, C) e' → ∀ to, goesOn C k to = true → to < C.length ∧ ∃ s', e' to = some s' ∧ leS r6 s' = true := fun e' he' => by
                  obtain ⟨out, h1, h2⟩ := HSB.out e' he'
                  rw [HT6.out] at h1
                  cases h1
                  exact h2
                have HLOW := hideP hlow
                have HTT := hideP htt
                have hnx := nextOf_any C k _ w6 (HC.out.below hb16) h40 hlt5
                have hpm2 := HPL.out k
                have hplen := placesL_le (fun to => goesOn C k to) (C.length + 1)
                generalize placesL (fun to => goesOn C k to) (C.length + 1) = N at *
                have HNX := hideP hnx
                have HPM := hideP hpm2
                have FI6 := hideP fi6
                clear hlow htt hnx hpm2 fi6
                go_wp2_with fail
                refine HNX.out.mono ?_
                rintro e w7 ⟨u7, rfl, r7, hb7⟩
                obtain ⟨pn, cn, rfl⟩ := row_shp r7
                have HI7 := hideP (intsAt_of_row rfl r7)
                have FI7 := hideP (FI6.out.below hb7)
                have HE7 := hideP (HE6.out.after hb7)
                clear r7 HNX FI6 HE6
                go_wp2
                go_loopw [9, 14, 15, 16, 17] (fun v9 v14 _ _ _ wr => ∃ (E' : Ents) (mo' : Bool) (j : Nat), v9 = .bool mo' ∧ v14 = .int .i64 j ∧ j ≤ N.length ∧ EI W1 W1.heap.size w2.heap.size p (P, L, r, C) E' wr ∧ FullInts wr (.slice p6 r6.length c6) r6 ∧ IntsAt wr (.slice pn N.length cn) N ∧ Pass Es E' mo' ((∀ x s, x < k → ent E' x = some s → DoneAt p (P, L, r, C) (ent E') x) ∧ ent E' k = some s ∧ ∀ (i to : Nat), i < j → N[i]? = some (to : Int) → OnTo C E' r6 to)) (fun _ v14 _ _ _ _ => N.length - (intOf v14).toNat)
                case atStart => exact ⟨E, mo, 0, rfl, rfl, Nat.zero_le _, HE7.out, FI7.out, HI7.out, pass_go HPS.out fun _ h => ⟨h, HES2.out, fun i to hi => by omega⟩⟩
                case round =>
                  rename World => w8
                  obtain ⟨E', mo', j, rfl, rfl, hj, hE8, hF8, hI8, hps8⟩ := hrel
                  have HE8 := hideP hE8
                  have HF8 := hideP hF8
                  have HI8 := hideP hI8
                  have HPS8 := hideP hps8
                  have hE8l : E'.length = C.length := hE8.len
                  have hb18 := hE8.bel
                  clear hE8 hF8 hI8 hps8 HE7 FI7 HI7
                  by_cases hlt8 : j < N.length
                  · have hlti8 : (j : Int) < (N.length : Int) := by omega
                    obtain ⟨z, hz⟩ := at_of_lt hlt8
                    obtain ⟨to, rfl, hgo⟩ := (HPM.out z).1 (List.mem_of_getElem? hz)
                    obtain ⟨pN, qN, hNe, -, hNc⟩ := HI8.out
                    cases hNe
                    obtain ⟨bN, oN, hpN, hbN, n0⟩ := hNc j _ hz
                    subst hpN
                    have HGO := hideP hgo
                    have HZ := hideP hz
                    have htole : to ≤ C.length := goesOn_le (flowErr_zero HFL.out).2.2 hgo
                    clear hNc hz hgo
                    by_cases htoC : to = C.length
                    · have hte : ((to : Int) == (C.length : Int)) = true := by simp [htoC]
                      have hno : ∀ e, ¬ FitsBy p (P, L, r, C) e := fun e he => by have := (HLOW.out e he to HGO.out).1; omega
                      have HNO := hideP hno
                      clear hno htoC
                      go_wp2
                      go_ret2
                      exact entP_none HNO.out (bthen hb1 hb18)
                    have hte : ((to : Int) == (C.length : Int)) = false := by simp; omega
                    have htolt : to < C.length := by omega
                    have htoi : (to : Int) < (C.length : Int) := by omega
                    obtain ⟨xo, hxo⟩ := at_of_lt (l := E') (k := to) (by omega)
                    obtain ⟨m0, mz⟩ := ei_met HE8.out hxo
                    obtain ⟨qa, na, ca8, a0, az, hfa⟩ := ei_at HE8.out (k := to) (by omega)
                    have hlow8 : ∀ e', FitsBy p (P, L, r, C) e' → ∃ s', e' to = some s' ∧ leS r6 s' = true := fun e' he' => (HLOW.out e' he' to HGO.out).2
                    have HLOW8 := hideP hlow8
                    clear hlow8 htoC
                    cases xo with
                    | none =>
                      simp only [Option.isSome_none] at m0
                      have HEN := hideP (ent_at hxo)
                      have A2 := cell_set_ne (u := .slice p6 r6.length c6) (a := ⟨W1.heap.size, to, none⟩) m0 hne.symm
                      have A3 := frozen_set_ne (u := .slice p6 r6.length c6) (a := ⟨W1.heap.size, to, none⟩) mz hne.symm
                      clear hxo hfa
                      go_wp2
                      go_roundw
                      case rel => exact ⟨_, true, j + 1, rfl, by go_num, by omega, ei_new HE8.out (Nat.le_refl _) hRm hne (by omega) HEN.out HF8.out h8t HTT.out HLOW8.out, HE8.out.full HF8.out (wr_two ..), HE8.out.ints HI8.out (wr_two ..), pass_less HPS8.out (mu_new (by omega) HEN.out h8t)⟩
                      case measure => simp [intOf]; omega
                    | some s1 =>
                      simp only [Option.isSome_some] at m0
                      have hes1 : ent E' to = some s1 := ent_at hxo
                      obtain ⟨h81, ht1⟩ := HE8.out.ok to s1 hxo
                      obtain ⟨hna, hfull⟩ := hfa s1 hes1
                      subst hna
                      have HJ := hideP (joinOf_any s1 r6 _ _ w8 hfull.at_ HF8.out.at_ ht1 HTT.out h81)
                      have HES1 := hideP hes1
                      have HFU := hideP hfull
                      clear hxo hfa hfull hes1 ht1
                      go_wp2_with fail
                      refine HJ.out.mono ?_
                      rintro e w9 ⟨u9, r9, ok9, rfl, hr9, hj9, hb9⟩
                      have f9 := fullInts_row rfl hr9
                      obtain ⟨p9, c9, hu9, -⟩ := f9.shp
                      subst hu9
                      have HF9 := hideP f9
                      have HJ9 := hideP hj9
                      have a9 := (hb9.cell (p := ⟨W1.heap.size, to, none⟩) (by obtain ⟨V, _, h2, _⟩ := HE8.out.hRs; exact heap_lt h2)).trans a0
                      have hb19 := bthen hb18 hb9
                      clear f9 hr9 hj9 HJ
                      cases ok9
                      · have hno : ∀ e, ¬ FitsBy p (P, L, r, C) e := fun e he => by
                          obtain ⟨s', h1, h2⟩ := HLOW8.out e he
                          obtain ⟨s2, h3, h4⟩ := HE8.out.low e he to s1 HES1.out
                          rw [h1] at h3
                          cases h3
                          obtain ⟨j', h5, _⟩ := joinL_le h4 h2
                          rw [HJ9.out] at h5
                          cases h5
                        have HNO := hideP hno
                        clear hno
                        go_wp2
                        go_ret2
                        exact entP_none HNO.out (bthen hb1 hb19)
                      · have hjj : joinL s1 r6 = some r9 := HJ9.out
                        have hst := joinL_stands hjj
                        have hS := sameInts_any r9 s1 _ _ w9 HF9.out.at_ ((HFU.out.below hb9).at_)
                        have HJJ := hideP hjj
                        have HST := hideP hst
                        have hE9 := HE8.out.after hb9
                        clear hjj hst HJ9
                        by_cases hrs : r9 = s1
                        · rw [decide_eq_true hrs] at hS
                          have HRS := hideP hrs
                          have HS := hideP hS
                          have HE9 := hideP hE9
                          clear hrs hS hE9
                          go_wp2_with fail
                          refine HS.out.mono ?_
                          rintro e w10 ⟨rfl, hb10⟩
                          go_wp2
                          go_roundw
                          case rel =>
                            refine ⟨E', mo', j + 1, rfl, by go_num, by omega, HE9.out.after hb10, (HF8.out.below hb9).below hb10, (HI8.out.below hb9).below hb10, pass_go HPS8.out fun _ h => ⟨h.1, h.2.1, fun i t hi ht => ?_⟩⟩
                            by_cases e : i = j
                            · subst e
                              rw [HZ.out] at ht
                              have : to = t := by have := Option.some.inj ht; omega
                              subst this
                              exact ⟨htolt, s1, HES1.out, by have := HST.out.2; rwa [HRS.out] at this⟩
                            · exact h.2.2 i t (by omega) ht
                          case measure => simp [intOf]; omega
                        · rw [decide_eq_false hrs] at hS
                          have HRS := hideP hrs
                          have HS := hideP hS
                          have HE9 := hideP hE9
                          clear hrs hS hE9
                          go_wp2_with fail
                          refine HS.out.mono ?_
                          rintro e w10 ⟨rfl, hb10⟩
                          have hE10 := HE9.out.after hb10
                          obtain ⟨qa', na', ca', a10, z10, -⟩ := ei_at hE10 (k := to) (by omega)
                          have HE10 := hideP hE10
                          have HF10 := hideP (HF9.out.below hb10)
                          clear hE10
                          go_wp2
                          go_roundw
                          case rel => exact ⟨_, true, j + 1, rfl, by go_num, by omega, ei_join HE10.out (Nat.le_refl _) hRm hne HES1.out HJJ.out HF10.out HTT.out HLOW8.out, HE10.out.full ((HF8.out.below hb9).below hb10) (wr_one ..), HE10.out.ints ((HI8.out.below hb9).below hb10) (wr_one ..), pass_less HPS8.out (mu_join HES1.out HST.out.1 HRS.out)⟩
                          case measure => simp [intOf]; omega
                  · have hlti8 : ¬ (j : Int) < (N.length : Int) := by omega
                    go_wp2
                    go_roundw
                    case rel =>
                      refine ⟨E', mo', k + 1, rfl, by go_num, by omega, HE8.out, pass_go HPS8.out fun _ h x s0 hx hs0 => ?_⟩
                      by_cases e : x = k
                      · subst e
                        refine ⟨s, (oc, oa), r6, h.2.1, HO.out, HT6.out, fun to hto => ?_⟩
                        obtain ⟨i, hi⟩ := List.mem_iff_getElem?.1 ((HPM.out to).2 ⟨to, rfl, hto⟩)
                        exact h.2.2 i to (by have := lt_of_at hi; omega) hi
                      · exact h.1 x s0 (by omega) hs0
                    case measure => simp [intOf]; omega
        · have hlti : ¬ (k : Int) < (C.length : Int) := by omega
          go_wp2
          go_roundw
          case rel =>
            refine ⟨E, mo, rfl, HE.out, fun hmo x s hs => ?_⟩
            subst hmo
            rcases HPS.out with ⟨h, _⟩ | ⟨_, _, h⟩
            · cases h
            · exact h x s (by have := ent_lt hs; omega) hs
          case measure =>
            rw [HE.out.mu, HES.out.mu]
            rcases HPS.out with ⟨h, h2⟩ | ⟨h, h2, _⟩
            · subst h; simp [moreOf]; omega
            · subst h h2; simp [moreOf]
end Go.Proofs.YtgmkmlenhhhgkaaGreat
/- The reference's CheckFits. -/
namespace Go.Proofs.YtgmkmlenhhhgkaaGreat
open Go.RowKit
set_option linter.unusedSimpArgs false
set_option linter.unusedVariables false
/-- how far CheckFits has come, of a program that was checked. -/
def FitsFar (p : List Fn) (k : Nat) (er : Int) : Prop := (er = 0 ∧ ∀ (i : Nat) (f : Fn), i < k → p[i]? = some f → ∃ e, Least p f (some e)) ∨ (er = 4 ∧ ∃ f ∈ p, Least p f none)
set_option maxRecDepth 100000 in
set_option maxHeartbeats 4000000 in
theorem checkFits_any (p : List Fn) (pv : Value) (w : World) (hp : FnsAt w pv p) (hcp : CapAt w pv) : Calls Tryz.prog 21 #[.agg #[pv]] w (ProgP p w) := by
  obtain ⟨pp, qp, hpv, hpm, -⟩ := id hp
  subst hpv
  unfold maxLen at hpm
  obtain ⟨W1, hW1⟩ : ∃ W1, w.alloc (.cells #[.slice pp p.length qp] 24) = W1 := ⟨_, rfl⟩
  have hb1 : Below w.heap.size w W1 := by rw [← hW1]; exact (Below.refl _ w).alloc (Nat.le_refl _) _
  have x1 : W1.heap[w.heap.size]? = some (.cells #[.slice pp p.length qp] 24 (0, 0)) := by rw [← hW1]; exact World.alloc_heap_new w _
  have c1 := cell_at' x1 0
  simp at c1
  have lx := heap_lt x1
  have P1 := hideP (hp.below hb1)
  have CP1 := hideP (hcp.below hp hb1)
  have HCK := hideP (checkProgram_any p _ W1 (hp.below hb1))
  clear hp hcp x1
  by_cases he : progErr p = 0
  · rw [he] at HCK
    have HE := hideP he
    clear he
    go_enter Tryz.func21, Tryz.ntmps21
    go_wp2_with fail
    refine HCK.out.mono ?_
    rintro e w2 ⟨rfl, hb2⟩
    clear HCK
    go_wp2
    go_loopw [3, 4, 5, 6] (fun v3 v4 _ _ wr => ∃ (er : Int) (k : Nat), v3 = .int .i64 er ∧ v4 = .int .i64 k ∧ k ≤ p.length ∧ FitsFar p k er ∧ Below W1.heap.size W1 wr) (fun _ v4 _ _ _ => p.length - (intOf v4).toNat)
    case atStart => exact ⟨0, 0, rfl, rfl, Nat.zero_le _, .inl ⟨rfl, fun i f hi => by omega⟩, hb2⟩
    case round =>
      rename World => w3
      obtain ⟨er, k, rfl, rfl, hk, hfar, hb3⟩ := hrel
      have c3 := (hb3.cell (p := ⟨w.heap.size, 0, none⟩) lx).trans c1
      rcases hfar with ⟨rfl, hall⟩ | ⟨rfl, hno⟩
      · have HALL := hideP hall
        clear hall
        by_cases hlt : k < p.length
        · have hlti : (k : Int) < (p.length : Int) := by omega
          obtain ⟨f, hf⟩ := at_of_lt hlt
          have HEN := hideP (entriesOf_any p k f _ w3 (P1.out.below hb3) (CP1.out.below P1.out hb3) hf (okFn HE.out (List.mem_of_getElem? hf)))
          have HF := hideP hf
          clear hf
          go_wp2_with fail
          refine HEN.out.mono ?_
          rintro e w4 ⟨v4, ok4, r4, rfl, hl4, hok4, hrd4, hb4⟩
          obtain ⟨p4, c4, rfl⟩ := hrd4.shp
          have HL := hideP hl4
          cases r4 with
          | none =>
            simp only [Option.isSome_none] at hok4
            subst hok4
            clear hrd4 hl4 HEN
            go_wp2
            go_roundw
            case rel => exact ⟨4, k + 1, rfl, by go_num, by omega, .inr ⟨rfl, f, List.mem_of_getElem? HF.out, HL.out⟩, bthen hb3 hb4⟩
            case measure => simp [intOf]; omega
          | some ee =>
            simp only [Option.isSome_some] at hok4
            subst hok4
            clear hrd4 hl4 HEN
            go_wp2
            go_roundw
            case rel =>
              refine ⟨0, k + 1, rfl, by go_num, by omega, .inl ⟨rfl, fun i g hi hg => ?_⟩, bthen hb3 hb4⟩
              by_cases e : i = k
              · subst e; rw [HF.out] at hg; cases hg; exact ⟨ee, HL.out⟩
              · exact HALL.out i g (by omega) hg
            case measure => simp [intOf]; omega
        · have hlti : ¬ (k : Int) < (p.length : Int) := by omega
          have hkp : k = p.length := by omega
          have hprog : ProgIs p 0 := .inr (.inl ⟨HE.out, rfl, fun f hf => by
            obtain ⟨i, hi⟩ := List.mem_iff_getElem?.1 hf
            exact HALL.out i f (by have := lt_of_at hi; omega) hi⟩)
          have HPR := hideP hprog
          clear hprog hkp
          go_wp2
          go_ret
          exact ⟨0, rfl, HPR.out, bthen hb1 hb3⟩
      · have hprog : ProgIs p 4 := .inr (.inr ⟨HE.out, rfl, hno⟩)
        have HPR := hideP hprog
        clear hprog hno
        by_cases hlt : k < p.length
        · have hlti : (k : Int) < (p.length : Int) := by omega
          go_wp2
          go_ret
          exact ⟨4, rfl, HPR.out, bthen hb1 hb3⟩
        · have hlti : ¬ (k : Int) < (p.length : Int) := by omega
          go_wp2
          go_ret
          exact ⟨4, rfl, HPR.out, bthen hb1 hb3⟩
  · have hprog : ProgIs p (progErr p) := .inl ⟨he, rfl⟩
    have heb : (progErr p == 0) = false := by simp [he]
    have HPR := hideP hprog
    generalize progErr p = x at *
    clear hprog he
    go_enter Tryz.func21, Tryz.ntmps21
    go_wp2_with fail
    refine HCK.out.mono ?_
    rintro e w2 ⟨rfl, hb2⟩
    clear HCK
    have c2 := (hb2.cell (p := ⟨w.heap.size, 0, none⟩) lx).trans c1
    by_cases hlt : 0 < p.length
    · have hlti : (0 : Int) < (p.length : Int) := by omega
      go_wp2
      go_loopw [3, 4, 5, 6] (fun v3 v4 _ _ wr => v3 = .int .i64 x ∧ v4 = .int .i64 0 ∧ wr = w2) (fun _ _ _ _ _ => 0)
      case atStart => exact ⟨rfl, rfl, rfl⟩
      case round =>
        rename World => w3
        obtain ⟨rfl, rfl, hw3⟩ := hrel
        subst hw3
        go_wp2
        go_ret
        exact ⟨x, rfl, HPR.out, bthen hb1 hb2⟩
    · have hlti : ¬ (0 : Int) < (p.length : Int) := by omega
      go_wp2
      go_loopw [3, 4, 5, 6] (fun v3 v4 _ _ wr => v3 = .int .i64 x ∧ v4 = .int .i64 0 ∧ wr = w2) (fun _ _ _ _ _ => 0)
      case atStart => exact ⟨rfl, rfl, rfl⟩
      case round =>
        rename World => w3
        obtain ⟨rfl, rfl, hw3⟩ := hrel
        subst hw3
        go_wp2
        go_ret
        exact ⟨x, rfl, HPR.out, bthen hb1 hb2⟩
end Go.Proofs.YtgmkmlenhhhgkaaGreat
/- Functions appended onto a row of the call's own. -/
namespace Go.Proofs.YtgmkmlenhhhgkaaGreat
open Go.RowKit
set_option linter.unusedSimpArgs false
set_option linter.unusedVariables false
/-- cells that hold functions, four a function. -/
structure RowFns (W : World) (xs : List Value) (l : List Fn) : Prop where
  len : xs.length = l.length * 4
  at_ : ∀ (k : Nat) (f : Fn), l[k]? = some f → ∃ c0 c1 c2 c3, xs[k * 4]? = some c0 ∧ xs[k * 4 + 1]? = some c1 ∧ xs[k * 4 + 2]? = some c2 ∧ xs[k * 4 + 3]? = some c3 ∧ FnAt W c0 c1 c2 c3 f ∧ ∀ p n c, c1 = .slice p n c → n ≤ c
/-- the blocks of a world are there as they were. -/
def Kept (w W : World) : Prop := ∀ k, k < w.heap.size → W.heap[k]? = w.heap[k]?
theorem Kept.size {w W : World} (h : Kept w W) : w.heap.size ≤ W.heap.size := by
  rcases Nat.lt_or_ge W.heap.size w.heap.size with h1 | h1
  · have := h W.heap.size h1
    rw [Array.getElem?_eq_none (Nat.le_refl _)] at this
    rw [Array.getElem?_eq_getElem h1] at this
    cases this
  · exact h1
theorem Kept.bel {w W : World} (h : Kept w W) (h1 : W.os = w.os) (h2 : W.tape = w.tape) (h3 : W.output = w.output) : Below w.heap.size w W := ⟨h1, h2, h3, h.size, h⟩
theorem Kept.cell {w W : World} (h : Kept w W) {a : Addr} (hb : a.block < w.heap.size) : W.cell? a = w.cell? a := World.cell?_of_block (h _ hb)
theorem Kept.ints {w W : World} (h : Kept w W) {v : Value} {l : List Int} (hv : IntsAt w v l) : IntsAt W v l := by
  obtain ⟨p, cap, rfl, hm, hc⟩ := hv
  refine ⟨p, cap, rfl, hm, fun k o hk => ?_⟩
  obtain ⟨b, off, rfl, hlt, h0⟩ := hc k o hk
  exact ⟨b, off, rfl, Nat.lt_of_lt_of_le hlt h.size, (h.cell (a := ⟨b, off + k, none⟩) hlt).trans h0⟩
theorem Kept.ops {w W : World} (h : Kept w W) {v : Value} {l : List (Int × Int)} (hv : OpsAt w v l) : OpsAt W v l := by
  obtain ⟨p, cap, rfl, hm, hc⟩ := hv
  refine ⟨p, cap, rfl, hm, fun k o hk => ?_⟩
  obtain ⟨b, off, rfl, hlt, h0, h1⟩ := hc k o hk
  exact ⟨b, off, rfl, Nat.lt_of_lt_of_le hlt h.size, (h.cell (a := ⟨b, off + k * 2, none⟩) hlt).trans h0, (h.cell (a := ⟨b, off + k * 2 + 1, none⟩) hlt).trans h1⟩
theorem Kept.fn {w W : World} (h : Kept w W) {c0 c1 c2 c3 : Value} {f : Fn} (hf : FnAt w c0 c1 c2 c3 f) : FnAt W c0 c1 c2 c3 f := ⟨hf.1, h.ints hf.2.1, hf.2.2.1, h.ops hf.2.2.2⟩
theorem Kept.fns {w W : World} (h : Kept w W) {v : Value} {l : List Fn} (hv : FnsAt w v l) : FnsAt W v l := by
  obtain ⟨p, cap, rfl, hm, hc⟩ := hv
  refine ⟨p, cap, rfl, hm, fun k f hk => ?_⟩
  obtain ⟨b, off, c0, c1, c2, c3, rfl, hlt, h0, h1, h2, h3, hf⟩ := hc k f hk
  exact ⟨b, off, c0, c1, c2, c3, rfl, Nat.lt_of_lt_of_le hlt h.size, (h.cell (a := ⟨b, off + k * 4, none⟩) hlt).trans h0, (h.cell (a := ⟨b, off + k * 4 + 1, none⟩) hlt).trans h1, (h.cell (a := ⟨b, off + k * 4 + 2, none⟩) hlt).trans h2, (h.cell (a := ⟨b, off + k * 4 + 3, none⟩) hlt).trans h3, h.fn hf⟩
theorem Kept.rows {w W : World} (h : Kept w W) {xs : List Value} {l : List Fn} (hx : RowFns w xs l) : RowFns W xs l := by
  refine ⟨hx.len, fun k f hk => ?_⟩
  obtain ⟨c0, c1, c2, c3, h0, h1, h2, h3, hf, hc⟩ := hx.at_ k f hk
  exact ⟨c0, c1, c2, c3, h0, h1, h2, h3, h.fn hf, hc⟩
theorem RowFns.snoc {W : World} {xs : List Value} {l : List Fn} (h : RowFns W xs l) {c0 c1 c2 c3 : Value} {f : Fn} (hf : FnAt W c0 c1 c2 c3 f) (hc : ∀ p n c, c1 = .slice p n c → n ≤ c) : RowFns W (xs ++ [c0, c1, c2, c3]) (l ++ [f]) := by
  refine ⟨by simp [h.len]; omega, fun k g hk => ?_⟩
  by_cases hkl : k < l.length
  · rw [List.getElem?_append_left hkl] at hk
    obtain ⟨d0, d1, d2, d3, h0, h1, h2, h3, hg, hcg⟩ := h.at_ k g hk
    have hx := h.len
    exact ⟨d0, d1, d2, d3, by rw [List.getElem?_append_left (by omega)]; exact h0, by rw [List.getElem?_append_left (by omega)]; exact h1, by rw [List.getElem?_append_left (by omega)]; exact h2, by rw [List.getElem?_append_left (by omega)]; exact h3, hg, hcg⟩
  · rw [List.getElem?_append_right (by omega)] at hk
    have hk0 : k = l.length := by have := lt_of_at hk; simp at this; omega
    subst hk0
    simp at hk
    subst hk
    have hx := h.len
    refine ⟨c0, c1, c2, c3, ?_, ?_, ?_, ?_, hf, hc⟩
    all_goals rw [List.getElem?_append_right (by omega), hx]; simp [Nat.add_sub_cancel_left]
/-- a row of functions is a slice of them. -/
theorem fns_row {W : World} {B : Nat} {v : Value} {xs : List Value} {l : List Fn} {n : Nat} (hn : n = l.length) (hr : W.ownsRow B 28 4 v n xs) (h : RowFns W xs l) : FnsAt W v l ∧ CapAt W v ∧ NilOk v := by
  subst hn
  refine ⟨?_, ?_, nilOk_row hr⟩
  · rcases hr.2 with ⟨rfl, h0⟩ | ⟨g, cap, cur, rfl, hb, hg, hn, hc, hs, ht⟩
    · have hl : l = [] := List.eq_nil_of_length_eq_zero h0
      subst hl
      exact ⟨none, 0, rfl, Nat.zero_le _, fun k f hk => by simp at hk⟩
    · refine ⟨_, cap, rfl, by omega, fun k f hk => ?_⟩
      have hkl := lt_of_at hk
      obtain ⟨c0, c1, c2, c3, h0, h1, h2, h3, hf, _⟩ := h.at_ k f hk
      have gc : ∀ j c, j < l.length * 4 → xs[j]? = some c → W.cell? ⟨g, 0 + j, none⟩ = some c := by
        intro j c hj hx
        rw [← ht, List.getElem?_take_of_lt (by omega)] at hx
        rw [cell_at' hg]
        simpa using hx
      exact ⟨g, 0, c0, c1, c2, c3, rfl, heap_lt hg, gc _ _ (by omega) h0, gc _ _ (by omega) h1, gc _ _ (by omega) h2, gc _ _ (by omega) h3, hf⟩
  · intro b off n cap k p' n' c' hv hk hcell
    rcases hr.2 with ⟨rfl, h0⟩ | ⟨g, cap2, cur, rfl, hb, hg, hn, hc, hs, ht⟩
    · cases hv
    · cases hv
      obtain ⟨f, hf⟩ := at_of_lt hk
      obtain ⟨c0, c1, c2, c3, h0, h1, h2, h3, _, hcap⟩ := h.at_ k f hf
      rw [← ht, List.getElem?_take_of_lt (by omega)] at h1
      rw [cell_at' hg] at hcell
      have : c1 = .slice p' n' c' := by
        have e : cur[0 + k * 4 + 1]? = some c1 := by simpa using h1
        rw [e] at hcell
        exact Option.some.inj hcell
      exact hcap _ _ _ this
/-- the cells of a slice of functions, one behind the other. -/
theorem raw_fns {w : World} {ad : Addr} {cap : Nat} {l : List Fn} (h : FnsAt w (.slice (some ad) l.length cap) l) (hc : CapAt w (.slice (some ad) l.length cap)) : ∃ news : List Value, news.length = l.length * 4 ∧ (∀ (j : Nat) (u : Value), news[j]? = some u → w.cell? (ad.add j) = some u) ∧ (∀ u ∈ news, u.oneCell' = true) ∧ RowFns w news l := by
  obtain ⟨p, cap', he, hm, hcc⟩ := h
  cases he
  refine ⟨(List.range (l.length * 4)).map fun j => (w.cell? (ad.add j)).getD (.bool false), by simp, ?_, ?_, ?_⟩
  all_goals
    have key : ∀ k f, l[k]? = some f → ∃ c0 c1 c2 c3, w.cell? (ad.add (k * 4)) = some c0 ∧ w.cell? (ad.add (k * 4 + 1)) = some c1 ∧ w.cell? (ad.add (k * 4 + 2)) = some c2 ∧ w.cell? (ad.add (k * 4 + 3)) = some c3 ∧ FnAt w c0 c1 c2 c3 f := by
      intro k f hk
      obtain ⟨b, off, c0, c1, c2, c3, he, hlt, h0, h1, h2, h3, hf⟩ := hcc k f hk
      cases he
      refine ⟨c0, c1, c2, c3, ?_, ?_, ?_, ?_, hf⟩
      all_goals rw [add_at]
      · exact h0
      · exact h1
      · exact h2
      · exact h3
    have four : ∀ j, j < l.length * 4 → ∃ c, w.cell? (ad.add j) = some c ∧ c.oneCell' = true := by
      intro j hj
      obtain ⟨f, hf⟩ := at_of_lt (l := l) (k := j / 4) (by omega)
      obtain ⟨c0, c1, c2, c3, h0, h1, h2, h3, e0, ⟨_, _, e1, _⟩, e2, ⟨_, _, e3, _⟩⟩ := key _ f hf
      have : j % 4 = 0 ∨ j % 4 = 1 ∨ j % 4 = 2 ∨ j % 4 = 3 := by omega
      rcases this with h | h | h | h
      · rw [show j / 4 * 4 = j by omega] at h0; exact ⟨c0, h0, by rw [e0]; rfl⟩
      · rw [show j / 4 * 4 + 1 = j by omega] at h1; exact ⟨c1, h1, by rw [e1]; rfl⟩
      · rw [show j / 4 * 4 + 2 = j by omega] at h2; exact ⟨c2, h2, by rw [e2]; rfl⟩
      · rw [show j / 4 * 4 + 3 = j by omega] at h3; exact ⟨c3, h3, by rw [e3]; rfl⟩
  · intro j u hj
    have hjl : j < l.length * 4 := by have := lt_of_at hj; simpa using this
    obtain ⟨c, h1, _⟩ := four j hjl
    simp [hjl] at hj
    rw [h1] at hj ⊢
    simp at hj
    rw [hj]
  · intro u hu
    obtain ⟨j, hj, rfl⟩ := List.mem_map.1 hu
    obtain ⟨c, h1, h2⟩ := four j (by simpa using hj)
    rw [h1]
    exact h2
  · refine ⟨by simp, fun k f hk => ?_⟩
    have hkl := lt_of_at hk
    obtain ⟨c0, c1, c2, c3, h0, h1, h2, h3, hf⟩ := key k f hk
    refine ⟨c0, c1, c2, c3, ?_, ?_, ?_, ?_, hf, fun p n c e => ?_⟩
    · rw [List.getElem?_map, List.getElem?_range (by omega), Option.map_some, h0]; rfl
    · rw [List.getElem?_map, List.getElem?_range (by omega), Option.map_some, h1]; rfl
    · rw [List.getElem?_map, List.getElem?_range (by omega), Option.map_some, h2]; rfl
    · rw [List.getElem?_map, List.getElem?_range (by omega), Option.map_some, h3]; rfl
    · obtain ⟨b, off, d0, d1, d2, d3, he, hlt, g0, g1, g2, g3, _⟩ := hcc k f hk
      cases he
      rw [add_at] at h1
      rw [show off + (k * 4 + 1) = off + k * 4 + 1 by omega] at h1
      subst e
      exact hc b off _ _ k p n c rfl hkl h1
theorem lt_of_cell {w : World} {a : Addr} {v : Value} (h : w.cell? a = some v) : a.block < w.heap.size := by
  rcases Nat.lt_or_ge a.block w.heap.size with h' | h'
  · exact h'
  · simp [World.cell?, Array.getElem?_eq_none h'] at h
/-- append of functions that were there at first onto a row, as a step of a region that draws. -/
theorem step_append_fns {ops : Array Oper} {o : Oper} {a : Act} {w : World} {K : Act → World → Prop} {Q : Exit → Act → World → Prop} {E : Prop}
    (hg : o.guard = none) (s x : Operand) (hop : o.op = Op.call { callee := Callee.builtin Builtin.append, args := #[s, x], argTypes := #[22, 22] })
    (base : Nat) (v : Value) (n : Nat) (xs : List Value) (hs : a.eval s = v) (hown : w.ownsRow base 28 4 v n xs)
    (u : Value) (l : List Fn) (hx : a.eval x = u) (w0 : World) (hu : FnsAt w0 u l) (hcap : CapAt w0 u) (hkept : Kept w0 w) (hnil : NilOk u) (b1 : n + l.length ≤ 2199023255552) (hbase : base ≤ w.heap.size)
    (hK : ∀ v' w' news, w'.ownsRow base 28 4 v' (n + l.length) (xs ++ news) → RowFns w0 news l → w.grownBy w' v.ownBlock → K (a.put o.dst v') w') :
    if Region.wanted o (yielded ops a.tmps) = true then Oper.wp Tryz.prog o a w K Q else E := by
  obtain ⟨i0, hi, hz0, hz1, hz2⟩ := info_parts infoFn
  obtain ⟨p, cap, he, hm, hc⟩ := id hu
  subst he
  cases p with
  | none =>
    have hl : l = [] := by
      cases l with
      | nil => rfl
      | cons f r => obtain ⟨b, off, _, _, _, _, hb, _⟩ := hc 0 f rfl; cases hb
    subst hl
    have hc0 : cap = 0 := hnil _ _ rfl
    subst hc0
    have hw : Region.wanted o (yielded ops a.tmps) = true := by simp [Region.wanted, hg]
    rw [if_pos hw]
    have hrun := run_append_owned_none (P := Tryz.prog) (w := w) base 22 o.type 28 i0 4 Tryz.underlying22 hi v n xs hown
    have hx' : a.eval x = .slice none 0 0 := hx
    unfold Oper.wp
    simp [execOp, hop, resolve, invoke, builtin, hs, hx', hrun, Result.andThen]
    exact hK v w [] (by simpa using hown) ⟨rfl, fun k f hk => by simp at hk⟩ (World.grownBy.refl _ _)
  | some ad =>
    obtain ⟨news, h1, h2, h3, h4⟩ := raw_fns hu hcap
    exact step_append_row hg s x 22 hop base 28 i0 _ 4 64 Tryz.underlying22 hi hz0 hz1 hz2 rfl (by decide) v n xs hs hown ad l.length cap news hx h1 (fun j u hj => (hkept.cell (by have := h2 j u hj; exact lt_of_cell this)).trans (h2 j u hj)) h3 (by unfold maxLen; omega) (by omega) hbase (fun v' w' r1 r2 => hK v' w' news r1 h4 r2)
theorem own_empty {W : World} {B g : Nat} {e : TypeId} {k : Nat} (h : W.heap[g]? = some (.cells #[] e (0, 0))) (hB : B ≤ g) : W.ownsRow B e k (.slice (some ⟨g, 0, none⟩) 0 0) 0 [] := ⟨by simp, .inr ⟨g, 0, #[], rfl, hB, h, Nat.le_refl _, Nat.zero_le _, by simp, by simp⟩⟩
theorem row_eta {W W' : World} {B n k : Nat} {e : TypeId} {v : Value} {xs : List Value} (h : W.ownsRow B e k v n xs) (he : W'.heap = W.heap) : W'.ownsRow B e k v n xs := row_same h fun j _ => by rw [he]
theorem bel_eta {w W W' : World} (h : Below w.heap.size w W) (e : W'.heap = W.heap) (e1 : W'.os = W.os) (e2 : W'.tape = W.tape) (e3 : W'.output = W.output) : Below w.heap.size w W' := ⟨e1.trans h.os, e2.trans h.tape, e3.trans h.output, by rw [e]; exact h.size, fun k hk => by rw [e]; exact h.block k hk⟩
theorem bel_alloc {w W : World} (h : Below w.heap.size w W) (o : Obj) : Below w.heap.size w (W.alloc o) := h.alloc h.size o
theorem bel_grown {w W W' : World} (h : Below w.heap.size w W) {g : Option Nat} (hg : W.grownBy W' g) (hb : ∀ k, g = some k → w.heap.size ≤ k) : Below w.heap.size w W' := h.grown hg h.size hb
theorem grown_keep {W W' : World} {v : Value} (hg : W.grownBy W' v.ownBlock) {B n k z : Nat} {e t : TypeId} {xs : List Value} {c : Array Value} {fz : Nat × Nat} (hr : W.ownsRow B e k v n xs) (hz : W.heap[z]? = some (.cells c t fz)) (ht : t ≠ e) : W'.heap[z]? = some (.cells c t fz) :=
  (hg.block z (heap_lt hz) (row_not hr hz ht)).trans hz
theorem cell_eta {W W' : World} {a : Addr} {v : Value} (h : W.cell? a = some v) (he : W'.heap = W.heap) : W'.cell? a = some v := (World.cell?_of_block (by rw [he])).trans h
theorem blk_keep {W W' : World} {g n c : Nat} (hg : W.grownBy W' (Value.slice (some ⟨g, 0, none⟩) n c).ownBlock) {z : Nat} {o : Obj} (hz : W.heap[z]? = some o) (hne : z ≠ g) : W'.heap[z]? = some o :=
  (hg.block z (heap_lt hz) (fun e => hne (by simpa [Value.ownBlock] using e))).trans hz
theorem new_three (w : World) (a b c : Obj) : (((w.alloc a).alloc b).alloc c).heap[w.heap.size + 1 + 1]? = some c := by
  have := new_two (w.alloc a) b c
  simpa using this
theorem cells4_at {w : World} {b : Nat} {c0 c1 c2 c3 : Value} {t : TypeId} {fz : Nat × Nat} (h : w.heap[b]? = some (.cells #[c0, c1, c2, c3] t fz)) : ∀ (j : Nat) (u : Value), [c0, c1, c2, c3][j]? = some u → w.cell? ((⟨b, 0, none⟩ : Addr).add j) = some u := by
  intro j u hj
  rw [add_at, cell_at' h]
  simpa using hj
end Go.Proofs.YtgmkmlenhhhgkaaGreat
