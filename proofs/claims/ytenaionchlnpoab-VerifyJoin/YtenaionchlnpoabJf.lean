/- verify's stack: take. -/
import Derived.Test.YtenaionchlnpoabJe
namespace Go.Proofs.Ytenaionchlnpoab
open Go.RowKit Go.Shelf
set_option linter.unusedSimpArgs false
set_option linter.unusedVariables false
attribute [local go_sem] Oper.semAt_some
/-- one type is taken from a stack. -/
def take1 (s : List Int × Bool) (t : Int) : List Int × Bool := (s.1.dropLast, s.2 || s.1.isEmpty || !standsB (topP s.1) t)
def takeP (s : List Int × Bool) (its : List (Nat × Int)) : List Int × Bool := its.foldl (fun s x => take1 s x.2) s
theorem takeP_snoc (s : List Int × Bool) (its : List (Nat × Int)) (x : Nat × Int) : takeP s (its ++ [x]) = take1 (takeP s its) x.2 := by simp [takeP]
theorem takeP_len (s : List Int × Bool) (its : List (Nat × Int)) : (takeP s its).1.length ≤ s.1.length := by
  induction its generalizing s with
  | nil => exact Nat.le_refl _
  | cons x r ih =>
    have h2 : (take1 s x.2).1.length ≤ s.1.length := by simp [take1]
    exact Nat.le_trans (ih (take1 s x.2)) h2
/-- between two rounds. -/
def TakeI (w : World) (b B : Nat) (s : List Int × Bool) (pre : List (Nat × Int)) (W : World) : Prop :=
  (StAt W b B (takeP s pre).1 (takeP s pre).2 ∧ Boxed W w.heap.size 117 (.pointer (some ⟨b, 0, none⟩))) ∧ w.grownBy W (some b)
theorem takeI_own (w : World) (b B : Nat) (s : List Int × Bool) (C : Nat) (hC : w.heap.size ≤ C) : OwnFrom C (TakeI w b B s) := fun pre X Y row hs hg hr => by
  obtain ⟨⟨⟨v, q, r⟩, bx⟩, g⟩ := hs
  have hcells : ∀ (k : Nat) (cs : Array Value) (t : TypeId) (fz : Nat × Nat), X.heap[k]? = some (.cells cs t fz) → Y.heap[k]? = X.heap[k]? := fun k cs t fz hk =>
    hg.block k (heap_lt hk) (fun e => by
      obtain ⟨_, o, ho, hc⟩ := hr k e.symm
      rw [hk] at ho; cases ho; cases hc)
  refine ⟨⟨⟨v, (hcells _ _ _ _ q).trans q, row_same r fun j hj => ?_⟩, (hcells _ _ _ _ bx).trans bx⟩, g.andThen hg (fun j hj => .inl ?_)⟩
  · rcases r.2 with ⟨rfl, _⟩ | ⟨g', cap, cur, rfl, _, hgg, _⟩
    · cases hj
    · cases hj; exact hcells _ _ _ _ hgg
  · exact Nat.le_trans hC (hr j hj).1
theorem kpB_grown {bs b : Nat} {v v0 : Value} {wr : Bool} {ts : List Int} {W W' : World} (hg : W.grownBy W' (some b)) (hb : W.heap[b]? = some (.cells #[v0, .bool wr] 98 (0, 0))) (hv : ∃ p n c, v0 = .slice p n c) : KpB bs v ts W W' := fun ⟨x, y⟩ => by
  obtain ⟨p0, n0, c0, rfl⟩ := hv
  refine ⟨x.kept hg (fun e => ?_), ?_⟩
  · cases e
    rw [show W.heap[bs]? = _ from x] at hb
    simp at hb
  · obtain ⟨p, c, rfl, hm, hc⟩ := y
    refine ⟨p, c, rfl, hm, fun k z hk => ?_⟩
    obtain ⟨b1, off, rfl, hb1, g⟩ := hc k z hk
    have hne : b1 ≠ b := fun e => by
      subst e
      rw [cell_at' hb] at g
      match h : off + k, g with
      | 0, g => simp at g
      | 1, g => simp at g
      | j + 2, g => simp at g
    exact ⟨b1, off, rfl, Nat.lt_of_lt_of_le hb1 hg.size, hg.cell g (by simpa using hne)⟩
set_option maxRecDepth 100000 in
set_option maxHeartbeats 4000000 in
theorem vTake_any (l ts : List Int) (wr : Bool) (b B : Nat) (p : Option Addr) (c : Nat) (w : World) (h : StAt w b B l wr) (hu : IntsAt w (.slice p ts.length c) ts) (hB : B ≤ w.heap.size) (hBb : B ≤ b) (hl : l.length ≤ 100) (ht : ts.length ≤ 100) : Calls Try.prog 75 #[.pointer (some ⟨b, 0, none⟩), .slice p ts.length c] w fun e w' => e = .returned (.tuple #[]) ∧ StAt w' b B (takeP (l, wr) (itsB ts ts.length)).1 (takeP (l, wr) (itsB ts ts.length)).2 ∧ w.grownBy w' (some b) := by
  refine (callsIn_wide (n := 5)).1 ?_
  have h1 : 1 ≤ 5 := by omega
  refine callsIn_of_wp_marks Try.func75 rfl trivial ?_ rfl
  simp only [Try.ntmps75, List.size_toArray, List.length_cons, List.length_nil, Nat.reduceAdd, Nat.reduceSub, Array.replicate_succ, Array.replicate_zero, List.push_toArray, List.append_toArray, List.nil_append, List.cons_append]
  gi_wp2_with fail
  refine ⟨trivial, ?_⟩
  refine (callsIn_wide.2 (backward_any p ts.length c _)).mono ?_
  rintro e w' ⟨rfl, rfl⟩
  gi_wp2
  have hB0 : Below w.heap.size w ((w.alloc (.cells #[.pointer (some ⟨b, 0, none⟩)] 117)).alloc (.cells #[.slice p ts.length c] 23)) := ((Below.refl _ w).alloc (Nat.le_refl _) _).alloc (by simp) _
  have b0 : Boxed ((w.alloc (.cells #[.pointer (some ⟨b, 0, none⟩)] 117)).alloc (.cells #[.slice p ts.length c] 23)) w.heap.size 117 (.pointer (some ⟨b, 0, none⟩)) := (Boxed.new w 117 (.pointer (some ⟨b, 0, none⟩))).alloc (.cells #[.slice p ts.length c] 23)
  have b1 : Boxed ((w.alloc (.cells #[.pointer (some ⟨b, 0, none⟩)] 117)).alloc (.cells #[.slice p ts.length c] 23)) (w.heap.size + 1) 23 (.slice p ts.length c) := new_two _ _ _
  obtain ⟨W0, hW0⟩ : ∃ W0, (w.alloc (.cells #[.pointer (some ⟨b, 0, none⟩)] 117)).alloc (.cells #[.slice p ts.length c] 23) = W0 := ⟨_, rfl⟩
  have hsz : W0.heap.size = w.heap.size + 1 + 1 := by rw [← hW0]; simp
  have hblt := h.lt
  rw [hW0] at hB0 b0 b1 ⊢
  clear hW0
  refine wpIn_rangeFunc_ownH rfl h1 (gf := 102) (lb := #[.pointer (some ⟨w.heap.size + 1, 0, none⟩)]) rfl trivial (enters_of Try.func102 (by kernel_rfl) rfl)
    (backward_stops (5 - 1) (by omega) (w.heap.size + 1) ts p c ht W0 b1 (hu.below hB0)) kpB_t kpB_b (Below.refl _ _) (fun _ => rfl)
    (TakeI w b B (l, wr)) (fun _ _ _ => False) (takeI_own w b B (l, wr) _ (by omega)) (fun _ _ _ _ _ hs _ _ => hs)
    ⟨⟨h.kept hB0, b0⟩, below_grown hB0 _⟩
    (fun x a' _ => a' = { tmps := #[.pointer (some ⟨b, 0, none⟩), .slice p ts.length c, .pointer (some ⟨w.heap.size, 0, none⟩), undef, undef, .int .i64 x.2, .slice p ts.length c, .func (.func 102) #[] #[.pointer (some ⟨w.heap.size + 1, 0, none⟩)], .int .i64 x.1, .int .i64 x.2, undef, undef, undef, undef, undef, undef, undef, undef], defers := [] })
    (fun x a' _ X Y row hs hg hr => hs)
    ?assign ?body ?done ?stop
  case assign =>
    rintro l0 pre x W K hI hK
    gi_wp2
    exact hK _ _ (KeepsFrom.refl _ _) (fun h => h) hI rfl
  case body =>
    rintro l0 pre ⟨ix, t⟩ a' W hl0 ⟨r, hr⟩ ⟨⟨hst, bx⟩, hgw⟩ rfl hlt
    have kx := bx.cell
    obtain ⟨v0, q0, row0⟩ := id hst
    have hshp : ∃ p n c, v0 = Value.slice p n c := by obtain ⟨p, c, h⟩ := row_shp row0; exact ⟨_, _, _, h⟩
    have hlen : (takeP (l, wr) pre).1.length ≤ 100 := Nat.le_trans (takeP_len _ _) hl
    have hpop := pop_any (takeP (l, wr) pre).1 (takeP (l, wr) pre).2 b B W hst hlen
    have HP := hideP hpop
    have HSN := hideP (takeP_snoc (l, wr) pre (ix, t))
    generalize takeP (l, wr) pre = S at *
    obtain ⟨S1, S2⟩ := S
    simp only at HP hlen hst row0
    have Q0 := hideP q0
    clear hpop hr hlt hst row0 q0
    gi_wp2_with fail
    refine ⟨trivial, ?_⟩
    refine (callsIn_wide.2 HP.out).mono ?_
    rintro e W2 ⟨rfl, hst2, hg2⟩
    have bx2 : Boxed W2 w.heap.size 117 (.pointer (some ⟨b, 0, none⟩)) := Boxed.kept bx hg2 (fun e => by cases e; omega)
    have kx2 := bx2.cell
    have hkp2 : KpB (w.heap.size + 1) (.slice p ts.length c) ts W W2 := kpB_grown hg2 Q0.out hshp
    gi_wp2_with fail
    refine ⟨trivial, ?_⟩
    refine (callsIn_wide.2 (standsFor_any (topP S1) t _)).mono ?_
    rintro e W3 ⟨rfl, hw3⟩
    have hw3 := hw3.symm
    subst hw3
    cases hs : standsB (topP S1) t
    · obtain ⟨v2, q2, row2⟩ := id hst2
      have d1 := cell_at' q2 1
      have z1 := Lib.frozen_of_heap q2 1
      simp at d1
      have Q2 := hideP q2
      have R2 := hideP row2
      have hshp2 : ∃ p n c, v2 = Value.slice p n c := by obtain ⟨p, c, h⟩ := row_shp row2; exact ⟨_, _, _, h⟩
      clear q2 row2 hst2
      gi_wp2
      have hgs := set_grown W2 ⟨b, 1, none⟩ (.bool true)
      have hb3 := heap_setCell_same W2 b 1 _ _ (.bool true) Q2.out
      refine ⟨KeepsFrom.of_grownBy (hg2.trans hgs) (fun j hj => by cases hj; omega), kpB_t hkp2 (kpB_grown hgs Q2.out hshp2), ⟨?_, Boxed.kept bx2 hgs (fun e => by have e2 : w.heap.size = b := (by simpa using e); omega)⟩, (hgw.trans hg2).trans hgs⟩
      rw [HSN.out]
      have e1 : take1 (S1, S2) t = (S1.dropLast, true) := by simp [take1, hs]
      rw [e1]
      exact StAt.set Q2.out (by simpa using hb3) R2.out hgs
    · gi_wp2
      refine ⟨KeepsFrom.of_grownBy hg2 (fun j hj => by cases hj; omega), hkp2, ⟨?_, bx2⟩, hgw.trans hg2⟩
      rw [HSN.out]
      have e1 : take1 (S1, S2) t = (S1.dropLast, S2 || S1.isEmpty) := by simp [take1, hs]
      rw [e1]
      exact hst2
  case done =>
    rintro D ys W hD rfl hI hK
    have hI2 := takeI_own w b B (l, wr) W0.heap.size (by omega) _ W _ (some D) hI (grownBy_putObj' W D (.deferred none)) (fun r e => by cases e; exact ⟨hD, _, hK, rfl⟩)
    have HI2 := hideP hI2
    clear hI2 hI
    gi_wp2
    refine ⟨by simp, .inl ⟨_, _, rfl, run_takeDeferred hK, ?_⟩⟩
    refine ⟨.tuple #[], by simp [results, Try.results75, go_sem], rfl, HI2.out.1.1, HI2.out.2⟩
  case stop =>
    rintro D c pre W _ _ h
    exact h.elim
end Go.Proofs.Ytenaionchlnpoab

