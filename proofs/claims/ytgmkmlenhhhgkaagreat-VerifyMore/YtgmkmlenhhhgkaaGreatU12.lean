/- My texts Vh Be Bf, joined. -/
import Derived.RangeFuncBox
import Derived.Test.YtgmkmlenhhhgkaaGreatU11
/- read. -/
namespace Go.Proofs.YtgmkmlenhhhgkaaGreat
open Go.RowKit
set_option linter.unusedSimpArgs false
set_option linter.unusedVariables false
abbrev FnV := Value × Value × Value × Value
def fnCells (q : List FnV) : List Value := q.flatMap fun c => [c.1, c.2.1, c.2.2.1, c.2.2.2]
def FnRows (W : World) (B : Nat) (q : List FnV) (l : List Fn) : Prop := q.length = l.length ∧ ∀ (k : Nat) (c : FnV) (f : Fn), q[k]? = some c → l[k]? = some f → FnOwn W B c.1 c.2.1 c.2.2.1 c.2.2.2 f
theorem FnRows.kept {W W' : World} {B : Nat} {q : List FnV} {l : List Fn} {row : Option Nat} (h : FnRows W B q l) (hg : W.grownBy W' row) (he : NoRow W row) : FnRows W' B q l := ⟨h.1, fun k c f h1 h2 => (h.2 k c f h1 h2).kept hg he⟩
theorem FnRows.snoc {W : World} {B : Nat} {q : List FnV} {l : List Fn} {c : FnV} {f : Fn} (h : FnRows W B q l) (hf : FnOwn W B c.1 c.2.1 c.2.2.1 c.2.2.2 f) : FnRows W B (q ++ [c]) (l ++ [f]) := by
  refine ⟨by simp [h.1], fun k c' f' h1 h2 => ?_⟩
  by_cases hk : k < q.length
  · rw [List.getElem?_append_left hk] at h1
    rw [List.getElem?_append_left (by rw [← h.1]; exact hk)] at h2
    exact h.2 k c' f' h1 h2
  · have hk1 : k < (q ++ [c]).length := (List.getElem?_eq_some_iff.1 h1).1
    simp at hk1
    obtain rfl : k = q.length := by omega
    simp at h1
    rw [h.1] at h2
    simp at h2
    subst h1; subst h2; exact hf
theorem fnCells_length (q : List FnV) : (fnCells q).length = q.length * 4 := by
  induction q with
  | nil => rfl
  | cons x r ih => simp only [fnCells, List.flatMap_cons, List.length_append, List.length_cons, List.length_nil] at ih ⊢; omega
theorem fnCells_at (q : List FnV) : ∀ (k : Nat) (c : FnV), q[k]? = some c → (fnCells q)[k * 4]? = some c.1 ∧ (fnCells q)[k * 4 + 1]? = some c.2.1 ∧ (fnCells q)[k * 4 + 2]? = some c.2.2.1 ∧ (fnCells q)[k * 4 + 3]? = some c.2.2.2 := by
  induction q with
  | nil => intro k c h; simp at h
  | cons x r ih =>
    intro k c h
    cases k with
    | zero => simp at h; subst h; simp [fnCells]
    | succ k =>
      have := ih k c (by simpa using h)
      simp only [fnCells, List.flatMap_cons] at this ⊢
      refine ⟨?_, ?_, ?_, ?_⟩
      · rw [List.getElem?_append_right (by simp; omega)]; simpa [show (k + 1) * 4 - 4 = k * 4 from by omega] using this.1
      · rw [List.getElem?_append_right (by simp; omega)]; simpa [show (k + 1) * 4 + 1 - 4 = k * 4 + 1 from by omega] using this.2.1
      · rw [List.getElem?_append_right (by simp; omega)]; simpa [show (k + 1) * 4 + 2 - 4 = k * 4 + 2 from by omega] using this.2.2.1
      · rw [List.getElem?_append_right (by simp; omega)]; simpa [show (k + 1) * 4 + 3 - 4 = k * 4 + 3 from by omega] using this.2.2.2
theorem fnsAt_of_row {W : World} {base B : Nat} {v : Value} {q : List FnV} {l : List Fn} {n : Nat} (hn : n = l.length) (hm : n ≤ maxLen) (h : W.ownsRow base 28 4 v n (fnCells q)) (hq : FnRows W B q l) : FnsAt W v l := by
  subst hn
  rcases h.2 with ⟨rfl, h0⟩ | ⟨g, cap, cur, rfl, hb, hg, hn, hc, hs, ht⟩
  · refine ⟨none, 0, by rw [h0], hm, fun k o hk => ?_⟩
    have := lt_of_at' hk
    omega
  · refine ⟨_, cap, rfl, hm, fun k f hk => ?_⟩
    have hk2 := lt_of_at' hk
    obtain ⟨c, hc'⟩ := at_of_lt (l := q) (k := k) (by rw [hq.1]; exact hk2)
    obtain ⟨a0, a1, a2, a3⟩ := fnCells_at q k c hc'
    rw [← ht, List.getElem?_take_of_lt (by omega)] at a0 a1 a2 a3
    refine ⟨g, 0, c.1, c.2.1, c.2.2.1, c.2.2.2, rfl, heap_lt hg, ?_, ?_, ?_, ?_, (hq.2 k c f hc' hk).1⟩
    · rw [cell_at' hg]; simpa using a0
    · rw [cell_at' hg]; simpa using a1
    · rw [cell_at' hg]; simpa using a2
    · rw [cell_at' hg]; simpa using a3
/-- functions in memory of their own. -/
def FnsOwn (W : World) (B : Nat) (v : Value) (l : List Fn) : Prop := ∃ (q : List FnV) (n : Nat), n = l.length ∧ n ≤ 255 ∧ W.ownsRow B 28 4 v n (fnCells q) ∧ FnRows W B q l
theorem FnsOwn.at {W : World} {B : Nat} {v : Value} {l : List Fn} (h : FnsOwn W B v l) : FnsAt W v l := by
  obtain ⟨q, n, h1, h2, h3, h4⟩ := h
  exact fnsAt_of_row h1 (by unfold maxLen; omega) h3 h4
theorem FnsOwn.set {W : World} {B : Nat} {v : Value} {l : List Fn} (h : FnsOwn W B v l) {r j : Nat} {cs : Array Value} {fz : Nat × Nat} (hr : W.heap[r]? = some (.cells cs 24 fz)) (x : Value) : FnsOwn (W.setCell ⟨r, j, none⟩ x) B v l := by
  obtain ⟨q, n, h1, h2, h3, h4⟩ := h
  exact ⟨q, n, h1, h2, h3.kept (grown_set W r j x) (.inr (row_not h3 hr (by decide)).symm), h4.kept (grown_set W r j x) (noRow_at hr (by decide) (by decide))⟩
theorem FnsOwn.below {W W' : World} {B : Nat} {v : Value} {l : List Fn} (h : FnsOwn W B v l) (hb : Below W.heap.size W W') : FnsOwn W' B v l := by
  obtain ⟨q, n, h1, h2, h3, h4⟩ := h
  exact ⟨q, n, h1, h2, h3.kept (grown_of_below hb) (by cases hv : Value.ownBlock v <;> simp), h4.kept (grown_of_below hb) (noRow_none _)⟩
theorem infoFn : (Tryz.prog.info? 28).map (fun i => (i.zero, i.size, i.bytes)) = some (some (.agg #[.int .i64 0, .slice none 0 0, .int .i64 0, .slice none 0 0]), 4, 64) := by kernel_rfl
/-- what the loop over functions keeps. -/
def ReadI (w : World) (st : Rd) (k : Nat) (wr : World) : Prop :=
  ∃ vF q, RdAt wr (w.heap.size + 1) (stAt k st) ∧ wr.heap[w.heap.size]? = some (.cells #[.slice none 0 0] 24 (0, 0)) ∧ wr.heap[w.heap.size + 1 + 1]? = some (.cells #[vF] 24 (0, 0)) ∧ wr.ownsRow w.heap.size 28 4 vF k (fnCells q) ∧ FnRows wr w.heap.size q (fnsTo k st) ∧ (∀ i, i < k → (readFn (stAt i st)).2.1 = true) ∧ Below w.heap.size w wr
set_option maxRecDepth 100000 in
set_option maxHeartbeats 8000000 in
theorem read_any (s : ByteArray) (hs : s.size ≤ 140737488351232) (w : World) : Calls Tryz.prog 53 #[.string s] w fun e w' => ∃ p n c, e = .returned (.tuple #[.agg #[.slice p n c], .bool (readProg s.data.toList).2]) ∧ ((readProg s.data.toList).2 = true → FnsOwn w' w.heap.size (.slice p n c) (readProg s.data.toList).1) ∧ Below w.heap.size w w' := by
  obtain ⟨i0, hi, hz0, hz1, hz2⟩ := info_parts infoFn
  have g1 := heap_new w (.cells #[.slice none 0 0] 24)
  have g2 := heap_new (w.alloc (.cells #[.slice none 0 0] 24)) (.cells #[.string s, .bool false] 116)
  have g3 := heap_new ((w.alloc (.cells #[.slice none 0 0] 24)).alloc (.cells #[.string s, .bool false] 116)) (.cells #[.slice none 0 0] 24)
  have g1' := heap_old (heap_old g1 (.cells #[.string s, .bool false] 116)) (.cells #[.slice none 0 0] 24)
  have g2' := heap_old g2 (.cells #[.slice none 0 0] 24)
  simp only [World.size_alloc] at g1' g2' g3
  have hB3 : Below w.heap.size w (((w.alloc (.cells #[.slice none 0 0] 24)).alloc (.cells #[.string s, .bool false] 116)).alloc (.cells #[.slice none 0 0] 24)) := (((Below.refl _ w).alloc (Nat.le_refl _) _).alloc (by simp) _).alloc (by simp; omega) _
  have hR3 : RdAt (((w.alloc (.cells #[.slice none 0 0] 24)).alloc (.cells #[.string s, .bool false] 116)).alloc (.cells #[.slice none 0 0] 24)) (w.heap.size + 1) (some s.data.toList) := ⟨s, g2', rfl, hs⟩
  obtain ⟨W3, hW3⟩ : ∃ W, (((w.alloc (.cells #[.slice none 0 0] 24)).alloc (.cells #[.string s, .bool false] 116)).alloc (.cells #[.slice none 0 0] 24)) = W := ⟨_, rfl⟩
  rw [hW3] at g1' g3 hB3 hR3
  clear g1 g2 g2'
  go_enter Tryz.func53, Tryz.ntmps53
  go_wp2_with fail
  refine (rnumber_any _ 1 (some s.data.toList) _ hR3 (by omega)).mono ?_
  rintro e w4 ⟨rfl, h4, hg4⟩
  have hs3 := heap_lt g3
  have p4 := (hg4.block _ hs3 (by simp)).trans g3
  have r4 := (hg4.block _ (by omega) (by simp)).trans g1'
  have hB4 := hB3.grown hg4 (by omega) (fun k hk => by cases hk; omega)
  have hn := numOf_one (some s.data.toList)
  obtain ⟨n, hn'⟩ : ∃ n, numOf (takeR (some s.data.toList) 1).1 = n := ⟨_, rfl⟩
  obtain ⟨st, hst⟩ : ∃ st, (takeR (some s.data.toList) 1).2 = st := ⟨_, rfl⟩
  rw [hn'] at hn ⊢
  rw [hst] at h4
  have HN : Hid (numOf (takeR (some s.data.toList) 1).1 = n) := hn'
  have HST : Hid ((takeR (some s.data.toList) 1).2 = st) := hst
  clear hn' hst hW3 hg4 g1' g3 hB3 hR3
  go_wp2
  go_loopw [13] (fun i wr => ∃ k : Nat, k ≤ n ∧ i = .int .i64 k ∧ ReadI w st k wr) (fun i _ => n - (intOf i).toNat)
  case atStart => exact ⟨0, Nat.zero_le _, rfl, _, [], h4, r4, p4, World.ownsRow_nil _ _ _ _, ⟨rfl, fun k c f h => by simp at h⟩, fun i hi => by omega, hB4⟩
  case round =>
    obtain ⟨k, hk, rfl, ⟨vF, q, hR, hr, hp, hrow, hq, hok, hB⟩⟩ := hrel
    clear h4 r4 p4 hB4
    have hpl := heap_lt hp
    by_cases hlt : k < n
    · have hlt' : (k : Int) < (n : Int) := by omega
      go_wp2_with fail
      refine (readFunc_any _ _ _ hR).mono ?_
      rintro e w5 ⟨c0, c1, c2, c3, rfl, hF, hR5, hg5⟩
      obtain ⟨bk, hbk⟩ : ∃ x, (readFn (stAt k st)).2.1 = x := ⟨_, rfl⟩
      obtain ⟨f, hf⟩ : ∃ x, (readFn (stAt k st)).1 = x := ⟨_, rfl⟩
      rw [hbk]
      rw [hf] at hF
      have hF' := hF
      obtain ⟨⟨e0, ⟨p1, q1, e1, _⟩, e2, ⟨p3, q3, e3, _⟩⟩, _⟩ := hF'
      obtain ⟨P, L, R, C⟩ := f
      simp only at e0 e1 e2 e3
      subst e0 e1 e2 e3
      have HBK : Hid ((readFn (stAt k st)).2.1 = bk) := hbk
      have HF : Hid ((readFn (stAt k st)).1 = (P, L, R, C)) := hf
      clear hbk hf
      have hf6 := heap_new w5 (.cells #[.int .i64 P, .slice p1 L.length q1, .int .i64 R, .slice p3 C.length q3] 28)
      have hg6 := World.grownBy_alloc w5 (.cells #[.int .i64 P, .slice p1 L.length q1, .int .i64 R, .slice p3 C.length q3] 28) none
      obtain ⟨W6, hW6⟩ : ∃ W, w5.alloc (.cells #[.int .i64 P, .slice p1 L.length q1, .int .i64 R, .slice p3 C.length q3] 28) = W := ⟨_, rfl⟩
      rw [hW6] at hf6 hg6
      have hr5 := (hg5.block _ (heap_lt hr) (by simp)).trans hr
      have hp5 := (hg5.block _ (heap_lt hp) (by simp)).trans hp
      have hs5 := hg5.size
      have hr6 := (hg6.block _ (heap_lt hr5) (by simp)).trans hr5
      have hp6 := (hg6.block _ (heap_lt hp5) (by simp)).trans hp5
      have hR6 := hR5.kept hg6 (by simp)
      have hB6 := (hB.grown hg5 (by omega) (fun j hj => by cases hj; omega)).grown hg6 (by omega) (fun j hj => by cases hj)
      have hs6 := hg6.size
      cases bk
      · have d0 := cell_at' hr6 0
        have z0 := Lib.frozen_of_heap hr6 0
        simp at d0
        go_wp2
        have hr7 := heap_setCell_same W6 w.heap.size 0 _ _ (.slice none 0 0) hr6
        have t0 := cell_at' hr7 0
        simp at t0
        refine bodyPost_ret (v := .tuple #[.agg #[.slice none 0 0], .bool false]) (by simp [results, Tryz.results53, go_sem, t0]) rfl ?_
        have hno : (readProg s.data.toList).2 = false := by
          unfold readProg
          rw [if_neg (fun hall => by
            have := hall k (by rw [HN.out]; exact hlt)
            rw [HST.out, HBK.out] at this
            cases this)]
        rw [hno]
        exact ⟨_, _, _, rfl, (fun h => absurd h (by decide)), hB6.setCell (p := ⟨w.heap.size, 0, none⟩) (Nat.le_refl _) _⟩
      · obtain ⟨X, hX, _⟩ := hR
        have hnX : NoRow wr (some (w.heap.size + 1)) := noRow_at hX (by decide) (by decide)
        have hq5 := (hq.kept hg5 hnX).kept hg6 (noRow_none _)
        have hF6 := (hF.low (show w.heap.size ≤ wr.heap.size by omega)).kept hg6 (noRow_none _)
        have hrow6 := (hrow.kept hg5 (.inr (row_not hrow hX (by decide)).symm)).kept hg6 (by cases hv : Value.ownBlock vF <;> simp)
        have d0 := cell_at' hf6 0
        have d1 := cell_at' hf6 1
        have d2 := cell_at' hf6 2
        have d3 := cell_at' hf6 3
        have d4 := cell_at' hp6 0
        simp at d0 d1 d2 d3 d4
        obtain ⟨pF, cF, rfl⟩ := row_shp hrow
        have hnews : ∀ (j : Nat) (u : Value), [Value.int .i64 P, .slice p1 L.length q1, .int .i64 R, .slice p3 C.length q3][j]? = some u → (W6.alloc (.cells #[.int .i64 P, .slice p1 L.length q1, .int .i64 R, .slice p3 C.length q3] 28)).cell? ((⟨W6.heap.size, 0, none⟩ : Addr).add j) = some u := by
          intro j u hj
          have hn := World.alloc_heap_new W6 (.cells #[.int .i64 P, .slice p1 L.length q1, .int .i64 R, .slice p3 C.length q3] 28)
          match j, hj with
          | 0, hj => simp at hj; subst hj; exact cell_at' hn 0
          | 1, hj => simp at hj; subst hj; exact cell_at' hn 1
          | 2, hj => simp at hj; subst hj; exact cell_at' hn 2
          | 3, hj => simp at hj; subst hj; exact cell_at' hn 3
          | k + 4, hj => simp at hj
        have hso : ∀ u ∈ [Value.int .i64 P, .slice p1 L.length q1, .int .i64 R, .slice p3 C.length q3], u.oneCell' = true := by
          intro u hu; simp at hu; rcases hu with rfl | rfl | rfl | rfl <;> rfl
        have hpne : (some (w.heap.size + 1 + 1) : Option Nat) ≠ Value.ownBlock (.slice pF k cF) := row_not hrow hp (by decide)
        have hXne : (some (w.heap.size + 1) : Option Nat) ≠ Value.ownBlock (.slice pF k cF) := row_not hrow hX (by decide)
        have hrne : (some w.heap.size : Option Nat) ≠ Value.ownBlock (.slice pF k cF) := row_not hrow hr (by decide)
        have hg7 := World.grownBy_alloc W6 (.cells #[.int .i64 P, .slice p1 L.length q1, .int .i64 R, .slice p3 C.length q3] 28) none
        have hrow7 := hrow6.alloc (.cells #[.int .i64 P, .slice p1 L.length q1, .int .i64 R, .slice p3 C.length q3] 28)
        have hr7 := heap_old hr6 (.cells #[.int .i64 P, .slice p1 L.length q1, .int .i64 R, .slice p3 C.length q3] 28)
        have hp7 := heap_old hp6 (.cells #[.int .i64 P, .slice p1 L.length q1, .int .i64 R, .slice p3 C.length q3] 28)
        go_wp2_with (at_builtin; refine wpList_append_own _ rfl _ _ 22 rfl w.heap.size 28 i0 (.agg #[.int .i64 0, .slice none 0 0, .int .i64 0, .slice none 0 0]) 4 64 Tryz.underlying22 hi hz0 hz1 hz2 rfl (by decide) _ _ _ rfl hrow7 ⟨W6.heap.size, 0, none⟩ 1 1 _ rfl rfl hnews hso (by unfold maxLen; omega) (by omega) (by simp; omega) ?_; intro v' w8 hown8 hg8 _; obtain ⟨g', cap', rfl⟩ := ownsRow_succ hown8; have hp8 := (hg8.block _ (heap_lt hp7) hpne).trans hp7; have d8 := cell_at' hp8 0; have z8 := Lib.frozen_of_heap hp8 0)
        go_roundw
        case rel =>
          have hr8 := (hg8.block _ (heap_lt hr7) hrne).trans hr7
          have hgs := grown_set w8 (w.heap.size + 1 + 1) 0 (.slice (some ⟨g', 0, none⟩) (k + 1) cap')
          have hnp : NoRow w8 (some (w.heap.size + 1 + 1)) := noRow_at hp8 (by decide) (by decide)
          have hnr7 := noRow_row hrow7 (by decide) (by decide)
          refine ⟨k + 1, by omega, by go_num, _, q ++ [(.int .i64 P, .slice p1 L.length q1, .int .i64 R, .slice p3 C.length q3)], ?_, (heap_setCell_other w8 _ _ _ (by simp; omega)).trans hr8, heap_setCell_same w8 _ 0 _ _ _ hp8, ?_, ?_, ?_, ?_⟩
          · exact ((hR6.kept hg7 (by simp)).kept hg8 (fun e => hXne e.symm)).kept hgs (by simp)
          · have e1 : fnCells (q ++ [(.int .i64 P, .slice p1 L.length q1, .int .i64 R, .slice p3 C.length q3)]) = fnCells q ++ [.int .i64 P, .slice p1 L.length q1, .int .i64 R, .slice p3 C.length q3] := by simp [fnCells]
            rw [e1]
            exact hown8.kept hgs (.inr (row_not hown8 hp8 (by decide)).symm)
          · rw [fnsTo_succ, HF.out]
            exact ((((hq5.kept hg7 (noRow_none _)).kept hg8 hnr7).kept hgs hnp)).snoc ((hF6.kept hg7 (noRow_none _)).kept hg8 hnr7 |>.kept hgs hnp)
          · intro i hi
            rcases Nat.lt_succ_iff_lt_or_eq.1 hi with h | rfl
            · exact hok i h
            · exact HBK.out
          · have hB7 := hB6.grown hg7 (by omega) (fun j hj => by cases hj)
            have hB8 := hB7.grown hg8 (by simp; omega) (fun j hj => (hrow.lt j hj).1)
            exact hB8.setCell (p := ⟨w.heap.size + 1 + 1, 0, none⟩) (by simp; omega) _
        case measure => simp [intOf]; omega
    · have hlt' : ¬ (k : Int) < (n : Int) := by omega
      obtain rfl : k = n := by omega
      obtain ⟨X, hX, hX2, hX3⟩ := hR
      obtain ⟨pF, cF, rfl⟩ := row_shp hrow
      have d0 := cell_at' hX 0
      have d1 := cell_at' hX 1
      have d2 := cell_at' hp 0
      have d3 := cell_at' hr 0
      have z3 := Lib.frozen_of_heap hr 0
      simp at d0 d1 d2 d3
      have hprog : readProg s.data.toList = (fnsTo k st, decide (stAt k st = some [])) := by
        unfold readProg
        rw [HN.out, HST.out, if_pos hok]
      have hr7 : ((wr.setCell ⟨w.heap.size, 0, none⟩ (.slice pF k cF)).drew).heap[w.heap.size]? = _ := heap_setCell_same wr w.heap.size 0 _ _ (.slice pF k cF) hr
      have t0 := cell_at' hr7 0
      simp at t0
      have hgs := (grown_set wr w.heap.size 0 (.slice pF k cF)).trans (drew_grown' _ w.heap.size)
      have hB7 := hB.grown hgs (by omega) (fun j hj => by cases hj; omega)
      have hrow7 := hrow.kept hgs (.inr (row_not hrow hr (by decide)).symm)
      have hq7 := hq.kept hgs (noRow_at hr (by decide) (by decide))
      have hfns : FnsOwn _ w.heap.size _ _ := ⟨q, k, (fnsTo_length k st).symm, by omega, hrow7, hq7⟩
      have HP := hideP hprog
      clear hprog hrow7 hq7 hgs hrow hq hr hp hX hr7
      rcases hst : stAt k st with _ | r
      · rw [hst] at d1
        have HS := hideP hst
        clear hst
        simp at d1
        go_wp2
        go_region
        all_goals
          go_wp2
          refine bodyPost_ret (v := .tuple #[.agg #[.slice pF k cF], .bool false]) (by simp [results, Tryz.results53, go_sem, t0]) rfl ?_
          rw [HP.out, HS.out]
          exact ⟨_, _, _, rfl, (fun _ => hfns), hB7⟩
      · rw [hst] at d1 hX2
        have HS := hideP hst
        clear hst
        simp at d1 hX2
        cases r with
        | nil =>
          obtain rfl : X = ⟨#[]⟩ := by
            obtain ⟨⟨x⟩⟩ := X
            simp at hX2
            rw [hX2]
          go_wp2
          go_region
          all_goals
            go_wp2
            refine bodyPost_ret (v := .tuple #[.agg #[.slice pF k cF], .bool true]) (by simp [results, Tryz.results53, go_sem, t0]) rfl ?_
            rw [HP.out, HS.out]
            exact ⟨pF, k, cF, by simp, (fun _ => hfns), hB7⟩
        | cons x r =>
          have hne : ¬ X = ⟨#[]⟩ := fun e => by rw [e] at hX2; simp at hX2
          have hne' : ¬ X.toList = [] := by rw [ByteArray.toList_eq, hX2]; simp
          clear hX2
          go_wp2
          go_region
          all_goals
            go_wp2
            refine bodyPost_ret (v := .tuple #[.agg #[.slice pF k cF], .bool false]) (by simp [results, Tryz.results53, go_sem, t0, hne']) rfl ?_
            rw [HP.out, HS.out]
            exact ⟨pF, k, cF, by simp, (fun _ => hfns), hB7⟩
end Go.Proofs.YtgmkmlenhhhgkaaGreat
/- block.New. -/
namespace Go.Proofs.YtgmkmlenhhhgkaaGreat
open Go.RowKit
set_option linter.unusedSimpArgs false
set_option linter.unusedVariables false
theorem cell_one_at {w : World} {b : Nat} {x : Value} (h : w.cell? ⟨b, 0, none⟩ = some x) : ∀ (j : Nat) (u : Value), [x][j]? = some u → w.cell? ((⟨b, 0, none⟩ : Addr).add j) = some u := by
  intro j u hj
  match j, hj with
  | 0, hj => simp at hj; subst hj; exact h
  | j + 1, hj => simp at hj
theorem new_end {w2 w3 w4 : World} {B Bc Br m n nn : Nat} {q q' : List Value} {L : List (List Int)} {u : Value} (hrs : BRows w2 Bc q L) (hBc : B ≤ Bc) (h23 : Below w2.heap.size w2 w3) (hm : w3.heap[m]? = some (.cells ((List.replicate n (0 : Int)).map (Value.int .i64)).toArray 3 (0, 0))) (hBm : B ≤ m) (hap : m < Bc ∨ w2.heap.size ≤ m)
    (hrow : w2.ownsRow Br 25 1 u nn q') (hg : w3.grownBy w4 u.ownBlock) (hn : n ≤ 40) : BRows w4 B (q ++ [.slice (some ⟨m, 0, none⟩) n n]) (L ++ [List.replicate n 0]) := by
  have hty : ∀ (g : Nat) (cs : Array Value), w3.heap[g]? = some (.cells cs 3 (0, 0)) → some g ≠ u.ownBlock := fun g cs hg1 e => by
    have hgl := (hrow.lt g e.symm).2
    have hg2 := (h23.block g hgl).symm.trans hg1
    exact row_not hrow hg2 (by decide) e
  have h3 := hrs.below h23
  have h4 : BRows w4 Bc q L := h3.same fun k x g h1 hg1 => by
    obtain ⟨_, h5, cs, h6⟩ := h3.lt h1 hg1
    exact hg.block g h5 (hty g cs h6)
  have hm4 : w4.heap[m]? = _ := (hg.block m (heap_lt hm) (hty m _ hm)).trans hm
  refine (h4.low hBc).snoc' ?_ (fun k y g h1 hg1 e => ?_) (by simp; omega)
  · refine ⟨by simp, .inr ⟨m, n, _, by simp, hBm, hm4, by simp, by unfold maxLen; omega, by simp, by simp⟩⟩
  · have e' : m = g := by simpa [Value.ownBlock] using e
    obtain ⟨h5, h6, _⟩ := hrs.lt h1 hg1
    omega
theorem newErr_ge {L : List (List Int)} {size : Int} (h : newErr L size = 0) : 0 ≤ size := by
  unfold newErr at h
  by_cases hb : blkErr L = 0
  · rw [if_neg (by simpa using hb)] at h
    by_cases h0 : size < 0
    · rw [if_pos h0] at h; cases h
    · omega
  · rw [if_pos hb] at h; exact absurd h hb
end Go.Proofs.YtgmkmlenhhhgkaaGreat
/- block.Keep. -/
namespace Go.Proofs.YtgmkmlenhhhgkaaGreat
open Go.RowKit
set_option linter.unusedSimpArgs false
set_option linter.unusedVariables false
def LBox (bl : Nat) (v : Value) (W : World) : Prop := bl < W.heap.size ∧ W.cell? ⟨bl, 0, none⟩ = some v
theorem LBox.below {bl : Nat} {v : Value} {W W' : World} (h : LBox bl v W) (hb : Below W.heap.size W W') : LBox bl v W' := ⟨Nat.lt_of_lt_of_le h.1 hb.size, (hb.cell (p := ⟨bl, 0, none⟩) h.1).trans h.2⟩
/-- what stands at j behind k rounds. -/
def thenAt (refs : List Int) (k j : Nat) : Int := if 1 ≤ j ∧ j ≤ k ∧ (j : Int) ∈ refs then ((stays refs j).length : Int) else 0
def thenRow (refs : List Int) (n k : Nat) : List Int := (List.range (n + 1)).map (thenAt refs k)
theorem thenRow_zero (refs : List Int) (n : Nat) : thenRow refs n 0 = List.replicate (n + 1) 0 := by
  apply List.ext_getElem?
  intro j
  unfold thenRow
  by_cases hj : j < n + 1
  · have h0 : thenAt refs 0 j = 0 := by unfold thenAt; rw [if_neg (by omega)]
    simp [hj, h0]
  · simp [hj]
theorem thenRow_true {refs : List Int} {n k : Nat} (hk : k < n) (h : (k : Int) + 1 ∈ refs) : (thenRow refs n k).set (k + 1) ((stays refs (k + 1)).length : Int) = thenRow refs n (k + 1) := by
  apply List.ext_getElem?
  intro j
  unfold thenRow
  by_cases hj : j < n + 1
  · by_cases he : k + 1 = j
    · subst he
      rw [List.getElem?_set_self (by simp; omega)]
      have h2 : 1 ≤ k + 1 ∧ k + 1 ≤ k + 1 ∧ (((k + 1 : Nat) : Int)) ∈ refs := ⟨by omega, by omega, by simpa using h⟩
      simp [hj, thenAt, h]
    · rw [List.getElem?_set_ne he]
      have h2 : thenAt refs k j = thenAt refs (k + 1) j := by
        unfold thenAt
        by_cases hc : 1 ≤ j ∧ j ≤ k ∧ (j : Int) ∈ refs
        · rw [if_pos hc, if_pos ⟨hc.1, by omega, hc.2.2⟩]
        · rw [if_neg hc, if_neg (fun h => hc ⟨h.1, by omega, h.2.2⟩)]
      simp [hj, h2]
  · rw [List.getElem?_eq_none (by simp; omega), List.getElem?_eq_none (by simp; omega)]
theorem thenRow_false {refs : List Int} {n k : Nat} (h : ¬ (k : Int) + 1 ∈ refs) : thenRow refs n k = thenRow refs n (k + 1) := by
  unfold thenRow
  apply List.map_congr_left
  intro j _
  unfold thenAt
  by_cases hc : 1 ≤ j ∧ j ≤ k ∧ (j : Int) ∈ refs
  · rw [if_pos hc, if_pos ⟨hc.1, by omega, hc.2.2⟩]
  · rw [if_neg hc, if_neg]
    intro h2
    by_cases he : j = k + 1
    · subst he; exact h (by simpa using h2.2.2)
    · exact hc ⟨h2.1, by omega, h2.2.2⟩
theorem thenRow_at {refs : List Int} {n r : Nat} (hr : r ≤ n) (h : (r : Int) ∈ refs) : (thenRow refs n n)[r]? = some (thenOf refs r) := by
  unfold thenRow
  have hr' : r < n + 1 := by omega
  rw [List.getElem?_map, List.getElem?_range hr']
  unfold thenAt thenOf
  by_cases h0 : r = 0
  · subst h0; simp [stays]
  · have : 1 ≤ r ∧ r ≤ n ∧ (r : Int) ∈ refs := ⟨by omega, hr, h⟩
    simp [this]
theorem thenRow_length (refs : List Int) (n k : Nat) : (thenRow refs n k).length = n + 1 := by simp [thenRow]
theorem row_cell_ex {W : World} {b k : Nat} {cs : List Int} {t : TypeId} {fz : Nat × Nat} (hk : k < cs.length) (h : W.heap[b]? = some (.cells (cs.map (Value.int .i64)).toArray t fz)) : ∃ z, cs[k]? = some z ∧ W.cell? ⟨b, k, none⟩ = some (.int .i64 z) := by
  obtain ⟨z, hz⟩ := at_of_lt hk
  exact ⟨z, hz, by rw [cell_at' h]; simp [hz]⟩
end Go.Proofs.YtgmkmlenhhhgkaaGreat
