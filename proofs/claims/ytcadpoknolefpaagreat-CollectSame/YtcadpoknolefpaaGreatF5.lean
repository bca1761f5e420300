/- My texts Jf Jg Pk Pb Qa Qb: what of them is needed, joined. -/

import Derived.Test.YtcadpoknolefpaaGreatF1
import Derived.Test.YtcadpoknolefpaaGreatF2
import Derived.Test.YtcadpoknolefpaaGreatF4
/- verify's stack: take. -/
namespace Go.Proofs.YtcadpoknolefpaaGreat
open Go.RowKit Go.Shelf
set_option linter.unusedSimpArgs false
set_option linter.unusedVariables false
attribute [local go_sem] Oper.semAt_some
def take1 (s : List Int × Bool) (t : Int) : List Int × Bool := (s.1.dropLast, s.2 || s.1.isEmpty || !standsB (topP s.1) t)
def takeP (s : List Int × Bool) (its : List (Nat × Int)) : List Int × Bool := its.foldl (fun s x => take1 s x.2) s
theorem takeP_snoc (s : List Int × Bool) (its : List (Nat × Int)) (x : Nat × Int) : takeP s (its ++ [x]) = take1 (takeP s its) x.2 := by simp [takeP]
theorem takeP_len (s : List Int × Bool) (its : List (Nat × Int)) : (takeP s its).1.length ≤ s.1.length := by
  induction its generalizing s with
  | nil => exact Nat.le_refl _
  | cons x r ih =>
    have h2 : (take1 s x.2).1.length ≤ s.1.length := by simp [take1]
    exact Nat.le_trans (ih (take1 s x.2)) h2
def TakeI (w : World) (b B : Nat) (s : List Int × Bool) (pre : List (Nat × Int)) (W : World) : Prop :=
  (StAt W b B (takeP s pre).1 (takeP s pre).2 ∧ Boxed W w.heap.size 237 (.pointer (some ⟨b, 0, none⟩))) ∧ w.grownBy W (some b)
theorem takeI_own (w : World) (b B : Nat) (s : List Int × Bool) (C : Nat) (hC : w.heap.size ≤ C) : OwnFrom C (TakeI w b B s) := fun pre X Y row hs hg hr => by
  obtain ⟨⟨⟨v, q, r⟩, bx⟩, g⟩ := hs
  have hcells : ∀ (k : Nat) (cs : Array Value) (t : TypeId) (fz : Nat × Nat), X.heap[k]? = some (.cells cs t fz) → Y.heap[k]? = X.heap[k]? := fun k cs t fz hk =>
    hg.block k (heap_lt hk) (fun e => by
      obtain ⟨_, o, ho, hc⟩ := hr k e.symm
      rw [hk] at ho; cases ho; cases hc)
  refine ⟨⟨⟨v, (hcells _ _ _ _ q).trans q, row_same r fun j hj => ?_⟩, (hcells _ _ _ _ bx).trans bx⟩, g.andThen hg (fun j hj => .inl ?_)⟩
  · rcases r.2 with ⟨rfl, _⟩ | ⟨g', cap, cur, rfl, _, hgg, _⟩
    · cases hj
    · cases hj; exact hcells _ _ _ _ hgg
  · exact Nat.le_trans hC (hr j hj).1
theorem kpB_grown {bs b : Nat} {v v0 : Value} {wr : Bool} {ts : List Int} {W W' : World} (hg : W.grownBy W' (some b)) (hb : W.heap[b]? = some (.cells #[v0, .bool wr] 207 (0, 0))) (hv : ∃ p n c, v0 = .slice p n c) : KpB bs v ts W W' := fun ⟨x, y⟩ => by
  obtain ⟨p0, n0, c0, rfl⟩ := hv
  refine ⟨x.kept hg (fun e => ?_), ?_⟩
  · cases e
    rw [show W.heap[bs]? = _ from x] at hb
    simp at hb
  · obtain ⟨p, c, rfl, hm, hc⟩ := y
    refine ⟨p, c, rfl, hm, fun k z hk => ?_⟩
    obtain ⟨b1, off, rfl, hb1, g⟩ := hc k z hk
    have hne : b1 ≠ b := fun e => by
      subst e
      rw [cell_at' hb] at g
      match h : off + k, g with
      | 0, g => simp at g
      | 1, g => simp at g
      | j + 2, g => simp at g
    exact ⟨b1, off, rfl, Nat.lt_of_lt_of_le hb1 hg.size, hg.cell g (by simpa using hne)⟩
set_option maxRecDepth 100000 in
set_option maxHeartbeats 4000000 in
theorem vTake_any (l ts : List Int) (wr : Bool) (b B : Nat) (p : Option Addr) (c : Nat) (w : World) (h : StAt w b B l wr) (hu : IntsAt w (.slice p ts.length c) ts) (hB : B ≤ w.heap.size) (hBb : B ≤ b) (hl : l.length ≤ 100) (ht : ts.length ≤ 100) : Calls Tryz.prog 199 #[.pointer (some ⟨b, 0, none⟩), .slice p ts.length c] w fun e w' => e = .returned (.tuple #[]) ∧ StAt w' b B (takeP (l, wr) (itsB ts ts.length)).1 (takeP (l, wr) (itsB ts ts.length)).2 ∧ w.grownBy w' (some b) := by
  refine (callsIn_wide (n := 5)).1 ?_
  have h1 : 1 ≤ 5 := by omega
  refine callsIn_of_wp_marks Tryz.func199 rfl trivial ?_ rfl
  simp only [Tryz.ntmps199, List.size_toArray, List.length_cons, List.length_nil, Nat.reduceAdd, Nat.reduceSub, Array.replicate_succ, Array.replicate_zero, List.push_toArray, List.append_toArray, List.nil_append, List.cons_append]
  gi_wp2_with fail
  refine ⟨trivial, ?_⟩
  refine (callsIn_wide.2 (backward_any p ts.length c _)).mono ?_
  rintro e w' ⟨rfl, rfl⟩
  gi_wp2
  have hB0 : Below w.heap.size w ((w.alloc (.cells #[.pointer (some ⟨b, 0, none⟩)] 237)).alloc (.cells #[.slice p ts.length c] 27)) := ((Below.refl _ w).alloc (Nat.le_refl _) _).alloc (by simp) _
  have b0 : Boxed ((w.alloc (.cells #[.pointer (some ⟨b, 0, none⟩)] 237)).alloc (.cells #[.slice p ts.length c] 27)) w.heap.size 237 (.pointer (some ⟨b, 0, none⟩)) := (Boxed.new w 237 (.pointer (some ⟨b, 0, none⟩))).alloc (.cells #[.slice p ts.length c] 27)
  have b1 : Boxed ((w.alloc (.cells #[.pointer (some ⟨b, 0, none⟩)] 237)).alloc (.cells #[.slice p ts.length c] 27)) (w.heap.size + 1) 27 (.slice p ts.length c) := new_two _ _ _
  obtain ⟨W0, hW0⟩ : ∃ W0, (w.alloc (.cells #[.pointer (some ⟨b, 0, none⟩)] 237)).alloc (.cells #[.slice p ts.length c] 27) = W0 := ⟨_, rfl⟩
  have hsz : W0.heap.size = w.heap.size + 1 + 1 := by rw [← hW0]; simp
  have hblt := h.lt
  rw [hW0] at hB0 b0 b1 ⊢
  clear hW0
  refine wpIn_rangeFunc_ownH rfl h1 (gf := 237) (lb := #[.pointer (some ⟨w.heap.size + 1, 0, none⟩)]) rfl trivial (enters_of Tryz.func237 (by kernel_rfl) rfl)
    (backward_stops (5 - 1) (by omega) (w.heap.size + 1) ts p c ht W0 b1 (hu.below hB0)) kpB_t kpB_b (Below.refl _ _) (fun _ => rfl)
    (TakeI w b B (l, wr)) (fun _ _ _ => False) (takeI_own w b B (l, wr) _ (by omega)) (fun _ _ _ _ _ hs _ _ => hs)
    ⟨⟨h.kept hB0, b0⟩, below_grown hB0 _⟩
    (fun x a' _ => a' = { tmps := #[.pointer (some ⟨b, 0, none⟩), .slice p ts.length c, .pointer (some ⟨w.heap.size, 0, none⟩), undef, undef, .int .i64 x.2, .slice p ts.length c, .func (.func 237) #[] #[.pointer (some ⟨w.heap.size + 1, 0, none⟩)], .int .i64 x.1, .int .i64 x.2, undef, undef, undef, undef, undef, undef, undef, undef], defers := [] })
    (fun x a' _ X Y row hs hg hr => hs)
    ?assign ?body ?done ?stop
  case assign =>
    rintro l0 pre x W K hI hK
    gi_wp2
    exact hK _ _ (KeepsFrom.refl _ _) (fun h => h) hI rfl
  case body =>
    rintro l0 pre ⟨ix, t⟩ a' W hl0 ⟨r, hr⟩ ⟨⟨hst, bx⟩, hgw⟩ rfl hlt
    have kx := bx.cell
    obtain ⟨v0, q0, row0⟩ := id hst
    have hshp : ∃ p n c, v0 = Value.slice p n c := by obtain ⟨p, c, h⟩ := row_shp row0; exact ⟨_, _, _, h⟩
    have hlen : (takeP (l, wr) pre).1.length ≤ 100 := Nat.le_trans (takeP_len _ _) hl
    have hpop := pop_any (takeP (l, wr) pre).1 (takeP (l, wr) pre).2 b B W hst hlen
    have HP := hideP hpop
    have HSN := hideP (takeP_snoc (l, wr) pre (ix, t))
    generalize takeP (l, wr) pre = S at *
    obtain ⟨S1, S2⟩ := S
    simp only at HP hlen hst row0
    have Q0 := hideP q0
    clear hpop hr hlt hst row0 q0
    gi_wp2_with fail
    refine ⟨trivial, ?_⟩
    refine (callsIn_wide.2 HP.out).mono ?_
    rintro e W2 ⟨rfl, hst2, hg2⟩
    have bx2 : Boxed W2 w.heap.size 237 (.pointer (some ⟨b, 0, none⟩)) := Boxed.kept bx hg2 (fun e => by cases e; omega)
    have kx2 := bx2.cell
    have hkp2 : KpB (w.heap.size + 1) (.slice p ts.length c) ts W W2 := kpB_grown hg2 Q0.out hshp
    gi_wp2_with fail
    refine ⟨trivial, ?_⟩
    refine (callsIn_wide.2 (standsFor_any (topP S1) t _)).mono ?_
    rintro e W3 ⟨rfl, hw3⟩
    have hw3 := hw3.symm
    subst hw3
    cases hs : standsB (topP S1) t
    · obtain ⟨v2, q2, row2⟩ := id hst2
      have d1 := cell_at' q2 1
      have z1 := Lib.frozen_of_heap q2 1
      simp at d1
      have Q2 := hideP q2
      have R2 := hideP row2
      have hshp2 : ∃ p n c, v2 = Value.slice p n c := by obtain ⟨p, c, h⟩ := row_shp row2; exact ⟨_, _, _, h⟩
      clear q2 row2 hst2
      gi_wp2
      have hgs := set_grown W2 ⟨b, 1, none⟩ (.bool true)
      have hb3 := heap_setCell_same W2 b 1 _ _ (.bool true) Q2.out
      refine ⟨KeepsFrom.of_grownBy (hg2.trans hgs) (fun j hj => by cases hj; omega), kpB_t hkp2 (kpB_grown hgs Q2.out hshp2), ⟨?_, Boxed.kept bx2 hgs (fun e => by have e2 : w.heap.size = b := (by simpa using e); omega)⟩, (hgw.trans hg2).trans hgs⟩
      rw [HSN.out]
      have e1 : take1 (S1, S2) t = (S1.dropLast, true) := by simp [take1, hs]
      rw [e1]
      exact StAt.set Q2.out (by simpa using hb3) R2.out hgs
    · gi_wp2
      refine ⟨KeepsFrom.of_grownBy hg2 (fun j hj => by cases hj; omega), hkp2, ⟨?_, bx2⟩, hgw.trans hg2⟩
      rw [HSN.out]
      have e1 : take1 (S1, S2) t = (S1.dropLast, S2 || S1.isEmpty) := by simp [take1, hs]
      rw [e1]
      exact hst2
  case done =>
    rintro D ys W hD rfl hI hK
    have hI2 := takeI_own w b B (l, wr) W0.heap.size (by omega) _ W _ (some D) hI (grownBy_putObj' W D (.deferred none)) (fun r e => by cases e; exact ⟨hD, _, hK, rfl⟩)
    have HI2 := hideP hI2
    clear hI2 hI
    gi_wp2
    refine ⟨by simp, .inl ⟨_, _, rfl, run_takeDeferred hK, ?_⟩⟩
    refine ⟨.tuple #[], by simp [results, Tryz.results199, go_sem], rfl, HI2.out.1.1, HI2.out.2⟩
  case stop =>
    rintro D c pre W _ _ h
    exact h.elim
end Go.Proofs.YtcadpoknolefpaaGreat


/- What verify's stack does, plainly: it is what an op leaves. -/
namespace Go.Proofs.YtcadpoknolefpaaGreat
open Go.RowKit
set_option linter.unusedSimpArgs false
set_option linter.unusedVariables false
abbrev St := List Int × Bool
def tk (s : St) (ts : List Int) : St := takeP s (itsB ts ts.length)
def lv (s : St) (ts : List Int) : St := (s.1 ++ ts, s.2 || decide (8 < (s.1 ++ ts).length))
def popS (s : St) : St := (s.1.dropLast, s.2 || s.1.isEmpty)
theorem itsB_map (ts : List Int) : ∀ k, k ≤ ts.length → (itsB ts k).map Prod.snd = (ts.take k).reverse
  | 0, _ => rfl
  | k + 1, h => by
    obtain ⟨z, hz⟩ := at_of_lt (show k < ts.length by omega)
    rw [take_snoc ts k z hz, List.reverse_append, itsB, List.map_cons, itsB_map ts k (by omega), List.getD_eq_getElem?_getD, hz]
    rfl
theorem tk_eq (s : St) (ts : List Int) : tk s ts = ts.reverse.foldl take1 s := by
  have h := itsB_map ts ts.length (Nat.le_refl _)
  rw [List.take_length] at h
  rw [← h, List.foldl_map]
  rfl
theorem leS_snoc : ∀ {D R : List Int} {a t : Int}, D.length = R.length → leS (D ++ [a]) (R ++ [t]) = (leS D R && standsB a t)
  | [], [], a, t, _ => by simp [leS]
  | [], _ :: _, a, t, h => by simp at h
  | _ :: _, [], a, t, h => by simp at h
  | d :: D, r :: R, a, t, h => by
    simp only [List.cons_append, leS]
    rw [leS_snoc (by simpa using h), Bool.and_assoc]
def fitsS (s ts : List Int) : Bool := decide (ts.length ≤ s.length) && leS (s.drop (s.length - ts.length)) ts
theorem foldl_take : ∀ (rs : List Int) (s : List Int) (wr : Bool), rs.foldl take1 (s, wr) = (s.take (s.length - rs.length), wr || !fitsS s rs.reverse)
  | [], s, wr => by simp [fitsS, leS]
  | t :: r, s, wr => by
    rw [List.foldl_cons]
    rcases List.eq_nil_or_concat s with rfl | ⟨s', a, hs⟩
    · have e : take1 ([], wr) t = ([], true) := by simp [take1]
      rw [e, foldl_take r [] true]
      simp [fitsS]
    · rw [List.concat_eq_append] at hs
      subst hs
      have hem : (s' ++ [a]).isEmpty = false := by cases s' <;> rfl
      have e : take1 (s' ++ [a], wr) t = (s', wr || !standsB a t) := by simp only [take1, topP, hem]; simp
      rw [e, foldl_take r s' _]
      have e1 : (s' ++ [a]).length - (t :: r).length = s'.length - r.length := by simp
      have e2 : (s' ++ [a]).take (s'.length - r.length) = s'.take (s'.length - r.length) := List.take_append_of_le_length (by omega)
      rw [e1, e2]
      refine Prod.ext rfl ?_
      show (wr || !standsB a t || !fitsS s' r.reverse) = (wr || !fitsS (s' ++ [a]) (t :: r).reverse)
      have e3 : fitsS (s' ++ [a]) (t :: r).reverse = (standsB a t && fitsS s' r.reverse) := by
        unfold fitsS
        by_cases h : r.length ≤ s'.length
        · have h1 : decide ((t :: r).reverse.length ≤ (s' ++ [a]).length) = true := by simp; omega
          have h2 : decide (r.reverse.length ≤ s'.length) = true := by simpa using h
          rw [h1, h2, Bool.true_and, Bool.true_and]
          have h3 : (s' ++ [a]).drop ((s' ++ [a]).length - (t :: r).reverse.length) = s'.drop (s'.length - r.reverse.length) ++ [a] := by
            rw [show (s' ++ [a]).length - (t :: r).reverse.length = s'.length - r.reverse.length by simp]
            exact List.drop_append_of_le_length (by omega)
          rw [h3, List.reverse_cons, leS_snoc (by simp; omega), Bool.and_comm]
        · have h1 : decide ((t :: r).reverse.length ≤ (s' ++ [a]).length) = false := by simp; omega
          have h2 : decide (r.reverse.length ≤ s'.length) = false := by simp; omega
          rw [h1, h2]
          simp
      rw [e3]
      cases wr <;> cases standsB a t <;> cases fitsS s' r.reverse <;> rfl
theorem tk_spec (s ts : List Int) (wr : Bool) : tk (s, wr) ts = (s.take (s.length - ts.length), wr || !fitsS s ts) := by
  rw [tk_eq, foldl_take]
  simp
def resL (f : Fn) : List Int := if f.2.2.1 = 0 then [] else [f.2.2.1]
def bhP (p : List Fn) (f : Fn) (o : Int × Int) (s : List Int) : St :=
  if o.1 = 2 then popS (s, false)
  else if o.1 = 3 then lv (popS (s, false)) [topP s, topP s]
  else if o.1 = 4 then lv (popS (popS (s, false))) [topP s, topP s.dropLast]
  else if o.1 = 8 then lv (s, false) [f.2.1.getD o.2.toNat 0]
  else if o.1 = 9 then tk (s, false) [f.2.1.getD o.2.toNat 0]
  else if o.1 = 12 then (match p[o.2.toNat]? with | some g => lv (tk (s, false) (g.2.1.take g.1.toNat)) (resL g) | none => (s, true))
  else if o.1 = 13 then ((tk (s, false) (resL f)).1, (tk (s, false) (resL f)).2 || decide (0 < (tk (s, false) (resL f)).1.length))
  else (if (plainTL o.1).2 = [] then tk (s, false) (plainTL o.1).1 else lv (tk (s, false) (plainTL o.1).1) (plainTL o.1).2)
structure OkOp (p : List Fn) (f : Fn) (o : Int × Int) : Prop where
  code : 1 ≤ o.1 ∧ o.1 ≤ 21
  loc : o.1 = 8 ∨ o.1 = 9 → 0 ≤ o.2 ∧ o.2 < (f.2.1.length : Int)
  call : o.1 = 12 → 0 ≤ o.2 ∧ o.2 < (p.length : Int)
  fns : ∀ g ∈ p, 0 ≤ g.1 ∧ g.1 ≤ (g.2.1.length : Int) ∧ g.2.1.length ≤ 6 ∧ 0 ≤ g.2.2.1
  own : f.2.1.length ≤ 6 ∧ 0 ≤ f.2.2.1
theorem tl_of {p : List Fn} {f : Fn} {o : Int × Int} {s t l : List Int} (h : takesLeaves p f o s = some (t, l)) (hs : s.length ≤ 8) : tryOp p f o s = if fitsS s t = true ∧ (s.take (s.length - t.length) ++ l).length ≤ 8 then some (s.take (s.length - t.length) ++ l) else none := by
  unfold tryOp
  rw [h]
  simp only [Option.bind_some, fitsS, Bool.and_eq_true, decide_eq_true_eq, and_assoc]
theorem tl_lv {p : List Fn} {f : Fn} {o : Int × Int} {s t l : List Int} (h : takesLeaves p f o s = some (t, l)) (hs : s.length ≤ 8) : tryOp p f o s = if (lv (tk (s, false) t) l).2 = true then none else some (lv (tk (s, false) t) l).1 := by
  rw [tl_of h hs, tk_spec]
  simp only [lv, Bool.false_or]
  cases h1 : fitsS s t
  · simp
  · by_cases h2 : (s.take (s.length - t.length) ++ l).length ≤ 8
    · rw [if_pos ⟨rfl, h2⟩, if_neg]
      simp at h2 ⊢
      omega
    · rw [if_neg (fun h => h2 h.2), if_pos]
      simp at h2 ⊢
      omega
theorem tl_tk {p : List Fn} {f : Fn} {o : Int × Int} {s t : List Int} (h : takesLeaves p f o s = some (t, [])) (hs : s.length ≤ 8) : tryOp p f o s = if (tk (s, false) t).2 = true then none else some (tk (s, false) t).1 := by
  rw [tl_of h hs, tk_spec]
  simp only [Bool.false_or, List.append_nil]
  have h2 : (s.take (s.length - t.length)).length ≤ 8 := by simp; omega
  cases h1 : fitsS s t
  · simp
  · rw [if_pos ⟨rfl, h2⟩]; simp
theorem fits_self (s : List Int) (k : Nat) (h : k ≤ s.length) : fitsS s (s.drop (s.length - k)) = true := by
  unfold fitsS
  rw [List.length_drop, show s.length - (s.length - (s.length - k)) = s.length - k by omega, leS_refl]
  simp
theorem withLocal_id {t : Int} {l : List Int} (h : ∀ x ∈ l, x ≠ 0) : withLocal t l = l := by
  unfold withLocal
  conv => rhs; rw [← List.map_id l]
  exact List.map_congr_left fun x hx => by rw [if_neg (h x hx)]; rfl
theorem plain_nz {c : Int} (h8 : c ≠ 8) (h9 : c ≠ 9) : (∀ x ∈ (plainTL c).1, x ≠ 0) ∧ ∀ x ∈ (plainTL c).2, x ≠ 0 := by
  unfold plainTL
  repeat' split
  all_goals first | (exact absurd ‹c = 8› h8) | (exact absurd ‹c = 9› h9) | (constructor <;> intro x hx <;> simp at hx <;> omega)
theorem bh_try {p : List Fn} {f : Fn} {o : Int × Int} {s : List Int} (ho : OkOp p f o) (hs : s.length ≤ 8) : tryOp p f o s = if (bhP p f o s).2 = true then none else some (bhP p f o s).1 := by
  unfold bhP
  by_cases c2 : o.1 = 2
  · rw [if_pos c2]
    by_cases hn : s.length < 1
    · have : takesLeaves p f o s = none := by simp [takesLeaves, c2, hn]
      have hs0 : s = [] := List.eq_nil_of_length_eq_zero (by omega)
      subst hs0
      simp [tryOp, this, popS]
    · have h : takesLeaves p f o s = some (s.drop (s.length - 1), []) := by simp [takesLeaves, c2, hn]
      rw [tl_of h hs, List.length_drop, show s.length - (s.length - (s.length - 1)) = s.length - 1 by omega, if_pos ⟨fits_self s 1 (by omega), by simp; omega⟩]
      have hne : s ≠ [] := fun e => by subst e; simp at hn
      simp [popS, hne, List.dropLast_eq_take]
  rw [if_neg c2]
  by_cases c3 : o.1 = 3
  · rw [if_pos c3]
    by_cases hn : s.length < 1
    · have : takesLeaves p f o s = none := by simp [takesLeaves, c3, hn]
      have hs0 : s = [] := List.eq_nil_of_length_eq_zero (by omega)
      subst hs0
      simp [tryOp, this, popS, lv]
    · have h : takesLeaves p f o s = some (s.drop (s.length - 1), s.drop (s.length - 1) ++ s.drop (s.length - 1)) := by simp [takesLeaves, c3, hn]
      rcases List.eq_nil_or_concat s with rfl | ⟨s', a, hsa⟩
      · simp at hn
      · rw [List.concat_eq_append] at hsa
        subst hsa
        have hd : (s' ++ [a]).drop ((s' ++ [a]).length - 1) = [a] := by simp
        rw [hd] at h
        rw [tl_of h hs]
        have hf : fitsS (s' ++ [a]) [a] = true := by have := fits_self (s' ++ [a]) 1 (by simp); rw [hd] at this; exact this
        have ht : (s' ++ [a]).take ((s' ++ [a]).length - [a].length) = s' := by simp
        rw [hf, ht]
        simp only [true_and, lv, popS, topP]
        simp
        by_cases h8 : s'.length ≤ 6
        · rw [if_pos h8, if_neg (by omega)]
        · rw [if_neg h8, if_pos (by omega)]
  rw [if_neg c3]
  by_cases c4 : o.1 = 4
  · rw [if_pos c4]
    by_cases hn : s.length < 2
    · have : takesLeaves p f o s = none := by simp [takesLeaves, c4, hn]
      rcases s with _ | ⟨a, _ | ⟨b, r⟩⟩
      · simp [tryOp, this, popS, lv]
      · simp [tryOp, this, popS, lv]
      · simp at hn; omega
    · have h : takesLeaves p f o s = some (s.drop (s.length - 2), (s.drop (s.length - 2)).reverse) := by simp [takesLeaves, c4, hn]
      rcases List.eq_nil_or_concat s with rfl | ⟨s1, b, hsb⟩
      · simp at hn
      rw [List.concat_eq_append] at hsb
      subst hsb
      rcases List.eq_nil_or_concat s1 with rfl | ⟨s2, a, hsa⟩
      · simp at hn
      rw [List.concat_eq_append] at hsa
      subst hsa
      have hd : (s2 ++ [a] ++ [b]).drop ((s2 ++ [a] ++ [b]).length - 2) = [a, b] := by simp
      rw [hd] at h
      rw [tl_of h hs]
      have hf : fitsS (s2 ++ [a] ++ [b]) [a, b] = true := by have := fits_self (s2 ++ [a] ++ [b]) 2 (by simp); rw [hd] at this; exact this
      have ht : (s2 ++ [a] ++ [b]).take ((s2 ++ [a] ++ [b]).length - [a, b].length) = s2 := by simp
      rw [hf, ht]
      simp only [true_and, lv, popS, topP]
      simp at hs ⊢
      rw [if_pos (by omega), if_neg (by omega)]
  rw [if_neg c4]
  by_cases c8 : o.1 = 8
  · rw [if_pos c8]
    have h : takesLeaves p f o s = some ([], [f.2.1.getD o.2.toNat 0]) := by simp [takesLeaves, c2, c3, c4, c8, plainTL, withLocal]
    rw [tl_lv h hs, tk_spec]
    simp [fitsS, leS]
  rw [if_neg c8]
  by_cases c9 : o.1 = 9
  · rw [if_pos c9]
    have h : takesLeaves p f o s = some ([f.2.1.getD o.2.toNat 0], []) := by simp [takesLeaves, c2, c3, c4, c9, plainTL, withLocal]
    exact tl_tk h hs
  rw [if_neg c9]
  have hres : ∀ g : Fn, 0 ≤ g.2.2.1 → (if 0 < g.2.2.1 then [g.2.2.1] else []) = resL g := by
    intro g hg
    unfold resL
    by_cases h0 : g.2.2.1 = 0
    · rw [if_pos h0, if_neg (by omega)]
    · rw [if_neg h0, if_pos (by omega)]
  by_cases c12 : o.1 = 12
  · rw [if_pos c12]
    have hc := ho.call c12
    obtain ⟨g, hg⟩ := at_of_lt (l := p) (k := o.2.toNat) (by omega)
    have hgo := ho.fns g (List.mem_of_getElem? hg)
    have h : takesLeaves p f o s = some (g.2.1.take g.1.toNat, resL g) := by
      rw [← hres g hgo.2.2.2]
      simp [takesLeaves, c12, hg]
    rw [hg]
    exact tl_lv h hs
  rw [if_neg c12]
  by_cases c13 : o.1 = 13
  · rw [if_pos c13]
    have hr := hres f ho.own.2
    by_cases hl : s.length = (resL f).length
    · have h : takesLeaves p f o s = some (resL f, []) := by
        simp only [takesLeaves, c13, hr]
        simp [hl]
      rw [tl_tk h hs, tk_spec]
      simp [hl]
    · have h : tryOp p f o s = none := by
        simp only [tryOp, takesLeaves, c13, hr]
        simp [hl]
      rw [h, tk_spec]
      simp only [Bool.false_or]
      rw [if_pos]
      by_cases hle : (resL f).length ≤ s.length
      · have : decide (0 < (s.take (s.length - (resL f).length)).length) = true := by simp; omega
        rw [this, Bool.or_true]
      · have : fitsS s (resL f) = false := by simp [fitsS]; omega
        rw [this]; rfl
  rw [if_neg c13]
  have hz := plain_nz c8 c9
  have h : takesLeaves p f o s = some ((plainTL o.1).1, (plainTL o.1).2) := by
    simp only [takesLeaves, if_neg c2, if_neg c3, if_neg c4, if_neg c12, if_neg c13]
    rw [withLocal_id hz.1, withLocal_id hz.2]
  by_cases hl : (plainTL o.1).2 = []
  · rw [if_pos hl]
    rw [hl] at h
    exact tl_tk h hs
  · rw [if_neg hl]
    exact tl_lv h hs
end Go.Proofs.YtcadpoknolefpaaGreat


/- Entries as they are reckoned, plainly: what a visit may do, and that it ends. -/
namespace Go.Proofs.YtcadpoknolefpaaGreat
open Go.RowKit
set_option linter.unusedSimpArgs false
set_option linter.unusedVariables false
abbrev Ents := List (Option (List Int))
def ent (E : Ents) (k : Nat) : Option (List Int) := (E[k]?).getD none
theorem ent_at {E : Ents} {k : Nat} {x : Option (List Int)} (h : E[k]? = some x) : ent E k = x := by simp [ent, h]
theorem ent_some {E : Ents} {k : Nat} {s : List Int} (h : ent E k = some s) : E[k]? = some (some s) := by
  unfold ent at h
  cases e : E[k]? with
  | none => rw [e] at h; simp at h
  | some x => rw [e] at h; simp at h; subst h; rfl
theorem ent_set (E : Ents) (k x : Nat) (s : List Int) (hk : k < E.length) : ent (E.set k (some s)) x = if x = k then some s else ent E x := by
  unfold ent
  by_cases h : x = k
  · subst h; simp [hk]
  · rw [if_neg h, List.getElem?_set_ne (fun e => h e.symm)]
def m1 : Option (List Int) → Nat
  | none => 9
  | some s => s.count 3
def mu : Ents → Nat
  | [] => 0
  | x :: r => m1 x + mu r
theorem mu_set : ∀ (E : Ents) (k : Nat) (x : Option (List Int)) (y : Option (List Int)), E[k]? = some x → m1 y < m1 x → mu (E.set k y) < mu E
  | [], k, x, y, h, _ => by simp at h
  | z :: r, 0, x, y, h, hm => by simp at h; subst h; simp [mu]; omega
  | z :: r, k + 1, x, y, h, hm => by
    have := mu_set r k x y (by simpa using h) hm
    simp only [List.set_cons_succ, mu]
    omega
theorem leS_count : ∀ {s t : List Int}, leS s t = true → t.count 3 ≤ s.count 3
  | [], [], _ => Nat.le_refl _
  | [], _ :: _, h => by simp [leS] at h
  | _ :: _, [], h => by simp [leS] at h
  | a :: r, b :: q, h => by
    simp [leS] at h
    have ih := leS_count h.2
    have hs := h.1
    simp [standsB] at hs
    rw [List.count_cons, List.count_cons]
    rcases hs with rfl | ⟨rfl, rfl⟩
    · omega
    · simp; omega
theorem leS_count_lt : ∀ {s t : List Int}, leS s t = true → s ≠ t → t.count 3 < s.count 3
  | [], [], _, hn => absurd rfl hn
  | [], _ :: _, h, _ => by simp [leS] at h
  | _ :: _, [], h, _ => by simp [leS] at h
  | a :: r, b :: q, h, hn => by
    simp [leS] at h
    have hs := h.1
    simp [standsB] at hs
    rw [List.count_cons, List.count_cons]
    rcases hs with rfl | ⟨rfl, rfl⟩
    · have ih := leS_count_lt h.2 (fun e => hn (by rw [e]))
      omega
    · have ih := leS_count h.2
      simp; omega
theorem mu_mono : ∀ {E E' : Ents}, E'.length = E.length → (∀ k s, ent E' k = some s → s.length ≤ 8) → leE (ent E) (ent E') → mu E' ≤ mu E
  | [], E', h, _, _ => by
    have : E' = [] := List.eq_nil_of_length_eq_zero (by simpa using h)
    subst this; exact Nat.le_refl _
  | x :: r, [], h, _, _ => by simp at h
  | x :: r, y :: q, h, h8, hle => by
    have ih := mu_mono (E := r) (E' := q) (by simpa using h) (fun k s hk => h8 (k + 1) s (by simpa [ent] using hk)) (fun k s hk => by
      have := hle (k + 1) s (by simpa [ent] using hk)
      simpa [ent] using this)
    have h0 : m1 y ≤ m1 x := by
      cases x with
      | none =>
        cases y with
        | none => exact Nat.le_refl _
        | some s =>
          have := h8 0 s (by simp [ent])
          have := List.count_le_length (a := (3 : Int)) (l := s)
          simp only [m1]; omega
      | some s =>
        obtain ⟨s', h1, h2⟩ := hle 0 s (by simp [ent])
        simp [ent] at h1
        subst h1
        exact leS_count h2
    simp only [mu]; omega
def DoneAt (p : List Fn) (f : Fn) (e : Nat → Option (List Int)) (x : Nat) : Prop := ∃ s o out, e x = some s ∧ f.2.2.2[x]? = some o ∧ tryOp p f o s = some out ∧ ∀ to, goesOn f.2.2.2 x to = true → to < f.2.2.2.length ∧ ∃ s', e to = some s' ∧ leS out s' = true
theorem leE_refl (e : Nat → Option (List Int)) : leE e e := fun pc s h => ⟨s, h, leS_refl s⟩
theorem leE_trans {e e' e'' : Nat → Option (List Int)} (h : leE e e') (k : leE e' e'') : leE e e'' := fun pc s hs => by
  obtain ⟨s1, h1, h2⟩ := h pc s hs
  obtain ⟨s2, h3, h4⟩ := k pc s1 h1
  exact ⟨s2, h3, leS_trans h2 h4⟩
theorem DoneAt.mono {p : List Fn} {f : Fn} {e e' : Nat → Option (List Int)} {x : Nat} (h : DoneAt p f e x) (hle : leE e e') (hx : e' x = e x) : DoneAt p f e' x := by
  obtain ⟨s, o, out, h1, h2, h3, h4⟩ := h
  refine ⟨s, o, out, hx.trans h1, h2, h3, fun to hto => ?_⟩
  obtain ⟨h5, s', h6, h7⟩ := h4 to hto
  obtain ⟨s2, h8, h9⟩ := hle to s' h6
  exact ⟨h5, s2, h8, leS_trans h7 h9⟩
structure Went (p : List Fn) (f : Fn) (E E' : Ents) : Prop where
  le : leE (ent E) (ent E')
  done : ∀ x, ent E' x = ent E x ∨ DoneAt p f (ent E') x
theorem Went.refl (p : List Fn) (f : Fn) (E : Ents) : Went p f E E := ⟨leE_refl _, fun _ => .inl rfl⟩
theorem Went.trans {p : List Fn} {f : Fn} {E E' E'' : Ents} (h : Went p f E E') (k : Went p f E' E'') : Went p f E E'' := by
  refine ⟨leE_trans h.le k.le, fun x => ?_⟩
  rcases k.done x with h1 | h1
  · rcases h.done x with h2 | h2
    · exact .inl (h1.trans h2)
    · exact .inr (h2.mono k.le h1)
  · exact .inr h1
theorem went_set {p : List Fn} {f : Fn} {E E' : Ents} {k : Nat} {s out : List Int} {o : Int × Int} (hk : k < E.length) (hle : ∀ s0, ent E k = some s0 → leS s0 s = true) (ho : f.2.2.2[k]? = some o) (ht : tryOp p f o s = some out) (hw : Went p f (E.set k (some s)) E') (hto : ∀ to, goesOn f.2.2.2 k to = true → to < f.2.2.2.length ∧ ∃ s', ent E' to = some s' ∧ leS out s' = true) :
    Went p f E E' ∧ ∃ s', ent E' k = some s' ∧ leS s s' = true := by
  have hset := fun x => ent_set E k x s hk
  have hk' : ∃ s', ent E' k = some s' ∧ leS s s' = true := hw.le k s (by rw [hset, if_pos rfl])
  refine ⟨⟨fun x s0 hs0 => ?_, fun x => ?_⟩, hk'⟩
  · by_cases e : x = k
    · subst e
      obtain ⟨s', h1, h2⟩ := hk'
      exact ⟨s', h1, leS_trans (hle s0 hs0) h2⟩
    · exact hw.le x s0 (by rw [hset, if_neg e]; exact hs0)
  · rcases hw.done x with h1 | h1
    · by_cases e : x = k
      · subst e
        rw [hset, if_pos rfl] at h1
        exact .inr ⟨s, o, out, h1, ho, ht, hto⟩
      · rw [hset, if_neg e] at h1
        exact .inl h1
    · exact .inr h1
structure OkFn (p : List Fn) (f : Fn) : Prop where
  ops : ∀ o ∈ f.2.2.2, OkOp p f o
  flow : flowErr f.2.2.2 = 0
  loc : ∀ t ∈ f.2.1, 1 ≤ t ∧ t ≤ 2
  res : ∀ g ∈ p, 0 ≤ g.2.2.1 ∧ g.2.2.1 ≤ 2
theorem okFn {p : List Fn} {f : Fn} (hp : progErr p = 0) (hf : f ∈ p) : OkFn p f := by
  obtain ⟨_, h5, hall, _⟩ := progErr_zero hp
  have parts : ∀ g ∈ p, g.2.1.length ≤ 6 ∧ 0 ≤ g.1 ∧ g.1 ≤ (g.2.1.length : Int) ∧ (∀ t ∈ g.2.1, 1 ≤ t ∧ t ≤ 2) ∧ 0 ≤ g.2.2.1 ∧ g.2.2.1 ≤ 2 ∧ g.2.2.2.length ≠ 0 ∧ codeErr g.2.2.2 = 0 ∧ ∀ o ∈ g.2.2.2, namesB o g p.length = true := by
    intro g hg
    have h := hall g hg
    unfold fnErr at h
    by_cases h1 : 6 < g.2.1.length
    · rw [if_pos h1] at h; cases h
    rw [if_neg h1] at h
    by_cases h2 : g.1 < 0 ∨ (g.2.1.length : Int) < g.1
    · rw [if_pos h2] at h; cases h
    rw [if_neg h2] at h
    by_cases h3 : typedB g = false
    · rw [if_pos h3] at h; cases h
    rw [if_neg h3] at h
    by_cases h4 : g.2.2.2.length = 0
    · rw [if_pos h4] at h; cases h
    rw [if_neg h4] at h
    by_cases h6 : codeErr g.2.2.2 = 0
    · rw [if_neg (by simp [h6])] at h
      by_cases h7 : (g.2.2.2.all fun o => namesB o g p.length) = false
      · rw [if_pos h7] at h; cases h
      · simp only [Bool.not_eq_false] at h3 h7
        simp only [typedB, Bool.and_eq_true, decide_eq_true_eq] at h3
        refine ⟨by omega, by omega, by omega, fun t ht => ?_, h3.2.1, h3.2.2, h4, h6, List.all_eq_true.1 h7⟩
        have := List.all_eq_true.1 h3.1 t ht
        simp [okType] at this
        omega
    · rw [if_pos h6] at h; exact absurd h h6
  obtain ⟨a1, a2, a3, a4, a5, a6, a7, a8, a9⟩ := parts f hf
  refine ⟨fun o ho => ?_, ?_, a4, fun g hg => ⟨(parts g hg).2.2.2.2.1, (parts g hg).2.2.2.2.2.1⟩⟩
  · have hn := a9 o ho
    have hc := (chk_zero ((codeErr_zero _ a8).2 o ho)).1
    refine ⟨by simpa [isCode] using hc, fun h => ?_, fun h => ?_, fun g hg => ⟨(parts g hg).2.1, (parts g hg).2.2.1, (parts g hg).1, (parts g hg).2.2.2.2.1⟩, ⟨a1, a5⟩⟩
    · unfold namesB at hn
      rw [if_pos (by simpa using h)] at hn
      simpa [isNum] using hn
    · unfold namesB at hn
      rw [if_neg (by simp [h]), if_neg (by simp [h]), if_pos (by simp [h])] at hn
      simpa [isNum] using hn
  · unfold flowErr
    rw [if_neg (by simp [a8]), if_neg a7, if_neg]
    intro hany
    obtain ⟨o, ho, hb⟩ := List.any_eq_true.1 hany
    have hn := a9 o ho
    simp only [badTo, Bool.and_eq_true, Bool.not_eq_true'] at hb
    unfold namesB at hn
    have h10 : o.1 = 10 ∨ o.1 = 11 := by simpa using hb.1
    rw [if_neg (by simp; omega), if_pos hb.1] at hn
    have := hb.2
    simp only [isNum] at hn
    rw [hn] at this
    cases this
def tyL (s : List Int) : Prop := ∀ t ∈ s, isType t = true
theorem tyL_all {s : List Int} (h : tyL s) : s.all isType = true := List.all_eq_true.2 h
theorem try_types {p : List Fn} {f : Fn} {o : Int × Int} {s out : List Int} (hf : OkFn p f) (ho : o ∈ f.2.2.2) (hs : tyL s) (h : tryOp p f o s = some out) : tyL out ∧ out.length ≤ 8 := by
  unfold tryOp at h
  obtain ⟨⟨t, l⟩, h1, h2⟩ := Option.bind_eq_some_iff.1 h
  simp only at h2
  split at h2
  · rename_i hc
    cases h2
    refine ⟨?_, hc.2.2⟩
    have hdrop : ∀ k, ∀ x ∈ s.drop k, isType x = true := fun k x hx => hs x (List.mem_of_mem_drop hx)
    have hl : ∀ x ∈ l, isType x = true := by
      have hok := hf.ops o ho
      have hr : ∀ g ∈ p, ∀ x ∈ (if 0 < g.2.2.1 then [g.2.2.1] else []), isType x = true := by
        intro g hg x hx
        split at hx
        · simp at hx; subst hx
          have := hf.res g hg
          simp [isType]; omega
        · simp at hx
      unfold takesLeaves at h1
      by_cases c2 : o.1 = 2
      · rw [if_pos c2] at h1
        split at h1
        · cases h1
        · cases h1; intro x hx; simp at hx
      rw [if_neg c2] at h1
      by_cases c3 : o.1 = 3
      · rw [if_pos c3] at h1
        split at h1
        · cases h1
        · cases h1
          intro x hx
          rcases List.mem_append.1 hx with hx | hx
          · exact hdrop _ x hx
          · exact hdrop _ x hx
      rw [if_neg c3] at h1
      by_cases c4 : o.1 = 4
      · rw [if_pos c4] at h1
        split at h1
        · cases h1
        · cases h1
          intro x hx
          exact hdrop _ x (List.mem_reverse.1 hx)
      rw [if_neg c4] at h1
      by_cases c12 : o.1 = 12
      · rw [if_pos c12] at h1
        obtain ⟨g, hg, he⟩ := Option.map_eq_some_iff.1 h1
        cases he
        exact hr g (List.mem_of_getElem? hg)
      rw [if_neg c12] at h1
      by_cases c13 : o.1 = 13
      · rw [if_pos c13] at h1
        by_cases hl13 : s.length = (if 0 < f.2.2.1 then [f.2.2.1] else []).length
        · rw [if_pos hl13] at h1; cases h1; intro x hx; simp at hx
        · rw [if_neg hl13] at h1; cases h1
      rw [if_neg c13] at h1
      cases h1
      intro x hx
      simp only [withLocal, List.mem_map] at hx
      obtain ⟨y, hy, rfl⟩ := hx
      by_cases hy0 : y = 0
      · rw [if_pos hy0]
        subst hy0
        have c8 : o.1 = 8 := by
          rcases Decidable.em (o.1 = 8) with h8 | h8
          · exact h8
          · rcases Decidable.em (o.1 = 9) with h9 | h9
            · rw [h9] at hy; simp [plainTL] at hy
            · exact absurd rfl ((plain_nz h8 h9).2 0 hy)
        have hlc := hok.loc (.inl c8)
        obtain ⟨z, hz⟩ := at_of_lt (l := f.2.1) (k := o.2.toNat) (by omega)
        rw [List.getD_eq_getElem?_getD, hz]
        have := hf.loc z (List.mem_of_getElem? hz)
        simp [isType]; omega
      · rw [if_neg hy0]
        have hy3 : y = 1 ∨ y = 2 ∨ y = 3 := by
          unfold plainTL at hy
          repeat' split at hy
          all_goals simp at hy <;> omega
        simp [isType]; omega
    intro x hx
    rcases List.mem_append.1 hx with hx | hx
    · exact hs x (List.mem_of_mem_take hx)
    · exact hl x hx
  · cases h2
theorem join_types {a b j : List Int} (ha : tyL a) (hb : tyL b) (h : joinL a b = some j) : tyL j := by
  induction a generalizing b j with
  | nil =>
    cases b with
    | nil => cases h; intro t ht; simp at ht
    | cons _ _ => cases h
  | cons x r ih =>
    cases b with
    | nil => cases h
    | cons y q =>
      simp only [joinL] at h
      obtain ⟨t, ht, h2⟩ := Option.bind_eq_some_iff.1 h
      obtain ⟨l, hl, rfl⟩ := Option.map_eq_some_iff.1 h2
      intro z hz
      rcases List.mem_cons.1 hz with rfl | hz
      · unfold joinT at ht
        split at ht
        · cases ht; exact ha _ (by simp)
        · split at ht
          · cases ht; rfl
          · cases ht
      · exact ih (fun t ht => ha t (by simp [ht])) (fun t ht => hb t (by simp [ht])) hl z hz
end Go.Proofs.YtcadpoknolefpaaGreat


/- Plain functions on blocks (chapter 5). -/
namespace Go.Proofs.YtcadpoknolefpaaGreat
open Go.RowKit
set_option linter.unusedSimpArgs false
set_option linter.unusedVariables false
def cellsN (L : List (List Int)) : Nat := (L.map List.length).sum
def blkErr (L : List (List Int)) : Int := if 8 < L.length ∨ 40 < cellsN L then 2 else if (L.all fun b => b.all isI32) = true then 0 else 3
def newErr (L : List (List Int)) (size : Int) : Int := if blkErr L ≠ 0 then blkErr L else if size < 0 then 3 else if L.length = 8 ∨ 40 - (cellsN L : Int) < size then 7 else 0
def newL (L : List (List Int)) (size : Int) : List (List Int) := L ++ [List.replicate size.toNat 0]
def newR (L : List (List Int)) (size : Int) : List (List Int) := if newErr L size = 0 then newL L size else []
def newRef (L : List (List Int)) (size : Int) : Int := if newErr L size = 0 then (L.length : Int) + 1 else 0
def blkAt (L : List (List Int)) (ref : Int) : List Int := (L[(ref - 1).toNat]?).getD []
def placeErr (L : List (List Int)) (ref at_ : Int) : Int := if blkErr L ≠ 0 then blkErr L else if ref = 0 then 5 else if ref < 0 ∨ (L.length : Int) < ref ∨ at_ < 0 ∨ ((blkAt L ref).length : Int) ≤ at_ then 3 else 0
def getL (L : List (List Int)) (ref at_ : Int) : Int := ((blkAt L ref)[at_.toNat]?).getD 0
def getR (L : List (List Int)) (ref at_ : Int) : Int := if placeErr L ref at_ = 0 then getL L ref at_ else 0
def setErr (L : List (List Int)) (ref at_ n : Int) : Int := if placeErr L ref at_ ≠ 0 then placeErr L ref at_ else if isI32 n = true then 0 else 3
def setL (L : List (List Int)) (ref at_ n : Int) : List (List Int) := L.set (ref - 1).toNat ((blkAt L ref).set at_.toNat n)
def setR (L : List (List Int)) (ref at_ n : Int) : List (List Int) := if setErr L ref at_ n = 0 then setL L ref at_ n else []
def refOk (n : Nat) (ref : Int) : Bool := decide (0 ≤ ref) && decide (ref ≤ (n : Int))
def keepErr (L : List (List Int)) (refs : List Int) : Int := if blkErr L ≠ 0 then blkErr L else if refs.all (refOk L.length) = true then 0 else 3
def stays (refs : List Int) (k : Nat) : List Nat := (List.range k).filter fun i => decide ((i : Int) + 1 ∈ refs)
def keptL (L : List (List Int)) (refs : List Int) (k : Nat) : List (List Int) := (stays refs k).map fun i => (L[i]?).getD []
def thenOf (refs : List Int) (ref : Int) : Int := ((stays refs ref.toNat).length : Int)
def keptR (L : List (List Int)) (refs : List Int) : List (List Int) := if keepErr L refs = 0 then keptL L refs L.length else []
def thenR (L : List (List Int)) (refs : List Int) : List Int := if keepErr L refs = 0 then refs.map (thenOf refs) else []
theorem wrap_isI32 (n : Int) : (wrap32 n == n) = isI32 n := by
  rw [Bool.eq_iff_iff]
  simp [isI32, wrap32]
  omega
theorem cellsN_append (L M : List (List Int)) : cellsN (L ++ M) = cellsN L + cellsN M := by simp [cellsN]
theorem cellsN_take (L : List (List Int)) (k : Nat) (b : List Int) (h : L[k]? = some b) : cellsN (L.take (k + 1)) = cellsN (L.take k) + b.length := by
  rw [take_snoc L k b h, cellsN_append]; simp [cellsN]
theorem cellsN_le (L : List (List Int)) (k : Nat) : cellsN (L.take k) ≤ cellsN L := by
  have h : cellsN L = cellsN (L.take k) + cellsN (L.drop k) := by rw [← cellsN_append, List.take_append_drop]
  omega
theorem cellsN_mem {L : List (List Int)} {k : Nat} {b : List Int} (h : L[k]? = some b) : b.length ≤ cellsN L := by
  have h1 := cellsN_take L k b h
  have h2 := cellsN_le L (k + 1)
  omega
theorem cellsN_bound (L : List (List Int)) (M : Nat) (h : ∀ b ∈ L, b.length ≤ M) : cellsN L ≤ L.length * M := by
  induction L with
  | nil => simp [cellsN]
  | cons b r ih =>
    have h1 := ih fun x hx => h x (by simp [hx])
    have h2 := h b (by simp)
    have h3 : cellsN (b :: r) = b.length + cellsN r := by simp [cellsN]
    rw [h3, List.length_cons, Nat.add_mul]
    omega
theorem blkErr_zero {L : List (List Int)} (h : blkErr L = 0) : L.length ≤ 8 ∧ cellsN L ≤ 40 ∧ ∀ b ∈ L, ∀ n ∈ b, isI32 n = true := by
  unfold blkErr at h
  by_cases h1 : 8 < L.length ∨ 40 < cellsN L
  · rw [if_pos h1] at h; cases h
  · rw [if_neg h1] at h
    by_cases h2 : (L.all fun b => b.all isI32) = true
    · refine ⟨by omega, by omega, fun b hb n hn => ?_⟩
      exact List.all_eq_true.1 (List.all_eq_true.1 h2 b hb) n hn
    · rw [if_neg h2] at h; cases h
theorem blkErr_mk {L : List (List Int)} (h1 : L.length ≤ 8) (h2 : cellsN L ≤ 40) (h3 : ∀ b ∈ L, ∀ n ∈ b, isI32 n = true) : blkErr L = 0 := by
  unfold blkErr
  rw [if_neg (by omega), if_pos]
  exact List.all_eq_true.2 fun b hb => List.all_eq_true.2 fun n hn => h3 b hb n hn
theorem blkAt_some {L : List (List Int)} {ref : Int} {b : List Int} {k : Nat} (h : L[k]? = some b) (hr : ref = (k : Int) + 1) : blkAt L ref = b := by
  unfold blkAt
  rw [show (ref - 1).toNat = k from by omega, h]; rfl
theorem stays_zero (refs : List Int) : stays refs 0 = [] := rfl
theorem stays_true {refs : List Int} {k : Nat} (h : (k : Int) + 1 ∈ refs) : stays refs (k + 1) = stays refs k ++ [k] := by
  unfold stays
  rw [List.range_succ, List.filter_append]; simp [h]
theorem stays_false {refs : List Int} {k : Nat} (h : ¬ (k : Int) + 1 ∈ refs) : stays refs (k + 1) = stays refs k := by
  unfold stays
  rw [List.range_succ, List.filter_append]; simp [h]
theorem stays_le (refs : List Int) (k : Nat) : (stays refs k).length ≤ k := by
  have := List.length_filter_le (fun i : Nat => decide ((i : Int) + 1 ∈ refs)) (List.range k)
  rw [List.length_range] at this
  exact this
theorem keptL_length (L : List (List Int)) (refs : List Int) (k : Nat) : (keptL L refs k).length = (stays refs k).length := by simp [keptL]
theorem keptL_true {L : List (List Int)} {refs : List Int} {k : Nat} {b : List Int} (h : (k : Int) + 1 ∈ refs) (hb : L[k]? = some b) : keptL L refs (k + 1) = keptL L refs k ++ [b] := by
  unfold keptL
  rw [stays_true h, List.map_append]; simp [hb]
theorem keptL_false {L : List (List Int)} {refs : List Int} {k : Nat} (h : ¬ (k : Int) + 1 ∈ refs) : keptL L refs (k + 1) = keptL L refs k := by
  unfold keptL
  rw [stays_false h]
end Go.Proofs.YtcadpoknolefpaaGreat


/- Machines, plainly (chapter 6): what they are, what is right, what a step makes of one. -/
namespace Go.Proofs.YtcadpoknolefpaaGreat
open Go.RowKit
set_option linter.unusedSimpArgs false
set_option linter.unusedVariables false
abbrev Val := Bool × Int
structure Frm where
  fn : Int
  pc : Int
  loc : List Val
  stk : List Val
structure Mach where
  frames : List Frm
  blocks : List (List Int)
  inp : List Int
  out : List Int
  status : Int
  trap : Int
def asT (v : Val) (t : Int) : Bool := (v.1 == decide (t ≠ 1)) && (decide (t ≠ 3) || decide (v.2 = 0))
def areOf : List Val → List Int → Bool
  | [], [] => true
  | v :: r, t :: q => asT v t && areOf r q
  | _, _ => false
def okV (nb : Nat) (v : Val) : Bool := if v.1 then decide (0 ≤ v.2) && decide (v.2 ≤ (nb : Int)) else isI32 v.2
theorem asT_le {v : Val} {t u : Int} (h : asT v t = true) (hs : standsB t u = true) : asT v u = true := by
  simp only [asT, standsB, Bool.and_eq_true, Bool.or_eq_true, decide_eq_true_eq, beq_iff_eq] at h hs ⊢
  rcases hs with rfl | ⟨rfl, rfl⟩
  · exact h
  · refine ⟨?_, .inl (by omega)⟩
    rw [h.1]; decide
theorem areOf_length : ∀ {l : List Val} {s : List Int}, areOf l s = true → l.length = s.length
  | [], [], _ => rfl
  | [], _ :: _, h => by simp [areOf] at h
  | _ :: _, [], h => by simp [areOf] at h
  | v :: r, t :: q, h => by simp [areOf] at h; simp [areOf_length h.2]
theorem areOf_le : ∀ {l : List Val} {s t : List Int}, areOf l s = true → leS s t = true → areOf l t = true
  | [], [], [], _, _ => rfl
  | [], [], _ :: _, _, h => by simp [leS] at h
  | [], _ :: _, _, h, _ => by simp [areOf] at h
  | _ :: _, [], _, h, _ => by simp [areOf] at h
  | _ :: _, _ :: _, [], _, h => by simp [leS] at h
  | v :: r, a :: q, b :: u, h, k => by
    simp [areOf, leS] at h k ⊢
    exact ⟨asT_le h.1 k.1, areOf_le h.2 k.2⟩
theorem areOf_append : ∀ {l m : List Val} {s t : List Int}, areOf l s = true → areOf m t = true → areOf (l ++ m) (s ++ t) = true
  | [], _, [], _, _, h => h
  | [], _, _ :: _, _, h, _ => by simp [areOf] at h
  | _ :: _, _, [], _, h, _ => by simp [areOf] at h
  | v :: r, m, a :: q, t, h, k => by
    simp [areOf] at h ⊢
    exact ⟨h.1, areOf_append h.2 k⟩
theorem areOf_take : ∀ (n : Nat) {l : List Val} {s : List Int}, areOf l s = true → areOf (l.take n) (s.take n) = true
  | 0, _, _, _ => rfl
  | n + 1, [], [], _ => rfl
  | n + 1, [], _ :: _, h => by simp [areOf] at h
  | n + 1, _ :: _, [], h => by simp [areOf] at h
  | n + 1, v :: r, t :: q, h => by simp [areOf] at h ⊢; exact ⟨h.1, areOf_take n h.2⟩
theorem areOf_drop : ∀ (n : Nat) {l : List Val} {s : List Int}, areOf l s = true → areOf (l.drop n) (s.drop n) = true
  | 0, _, _, h => h
  | n + 1, [], [], _ => rfl
  | n + 1, [], _ :: _, h => by simp [areOf] at h
  | n + 1, _ :: _, [], h => by simp [areOf] at h
  | n + 1, v :: r, t :: q, h => by simp [areOf] at h; exact areOf_drop n h.2
theorem areOf_at : ∀ {l : List Val} {s : List Int}, areOf l s = true → ∀ (k : Nat) (v : Val) (t : Int), l[k]? = some v → s[k]? = some t → asT v t = true
  | [], _, _, k, v, t, h, _ => by simp at h
  | _ :: _, [], _, k, v, t, _, h => by simp at h
  | a :: r, b :: q, h, 0, v, t, h1, h2 => by simp at h1 h2; subst h1 h2; simp [areOf] at h; exact h.1
  | a :: r, b :: q, h, k + 1, v, t, h1, h2 => by simp [areOf] at h; exact areOf_at h.2 k v t (by simpa using h1) (by simpa using h2)
theorem areOf_set : ∀ {l : List Val} {s : List Int}, areOf l s = true → ∀ (k : Nat) (v : Val) (t : Int), s[k]? = some t → asT v t = true → areOf (l.set k v) s = true
  | [], [], _, k, v, t, h, _ => by simp at h
  | [], _ :: _, h, _, _, _, _, _ => by simp [areOf] at h
  | _ :: _, [], h, _, _, _, _, _ => by simp [areOf] at h
  | a :: r, b :: q, h, 0, v, t, h2, hv => by simp at h2; subst h2; simp [areOf] at h ⊢; exact ⟨hv, h.2⟩
  | a :: r, b :: q, h, k + 1, v, t, h2, hv => by simp [areOf] at h ⊢; exact ⟨h.1, areOf_set h.2 k v t (by simpa using h2) hv⟩
theorem areOf_reverse {l : List Val} {s : List Int} (h : areOf l s = true) : areOf l.reverse s.reverse = true := by
  induction l generalizing s with
  | nil => cases s with
    | nil => rfl
    | cons _ _ => simp [areOf] at h
  | cons a r ih => cases s with
    | nil => simp [areOf] at h
    | cons b q =>
      simp [areOf] at h
      rw [List.reverse_cons, List.reverse_cons]
      exact areOf_append (ih h.2) (by simp [areOf, h.1])
def topV (s : List Val) (j : Nat) : Val := s.getD (s.length - 1 - j) (false, 0)
def cutV (s : List Val) (j : Nat) : List Val := s.take (s.length - j)
def freshL (ts : List Int) : List Val := ts.map fun t => (decide (t = 2), 0)
def trapM (m : Mach) (why : Int) : Mach := { m with status := 3, trap := why }
def putF (m : Mach) (x : Frm) : Mach := { m with frames := m.frames.dropLast ++ [x] }
def onF (m : Mach) (x : Frm) (s : List Val) : Mach := putF m { x with pc := x.pc + 1, stk := s }
def doOp (p : List Fn) (m : Mach) (x : Frm) (o : Int × Int) : Mach :=
  if o.1 = 21 ∧ m.inp = [] then { m with status := 1 }
  else if o.1 = 1 then onF m x (x.stk ++ [(false, o.2)])
  else if o.1 = 2 then onF m x (cutV x.stk 1)
  else if o.1 = 3 then onF m x (cutV x.stk 1 ++ [topV x.stk 0, topV x.stk 0])
  else if o.1 = 4 then onF m x (cutV x.stk 2 ++ [topV x.stk 0, topV x.stk 1])
  else if o.1 = 5 then onF m x (cutV x.stk 2 ++ [(false, wrap32 ((topV x.stk 1).2 + (topV x.stk 0).2))])
  else if o.1 = 6 then onF m x (cutV x.stk 2 ++ [(false, wrap32 ((topV x.stk 1).2 - (topV x.stk 0).2))])
  else if o.1 = 7 then onF m x (cutV x.stk 2 ++ [(false, wrap32 ((topV x.stk 1).2 * (topV x.stk 0).2))])
  else if o.1 = 8 then onF m x (x.stk ++ [x.loc.getD o.2.toNat (false, 0)])
  else if o.1 = 9 then putF m { x with pc := x.pc + 1, loc := x.loc.set o.2.toNat (topV x.stk 0), stk := cutV x.stk 1 }
  else if o.1 = 10 then putF m { x with pc := o.2 }
  else if o.1 = 11 then putF m { x with pc := if (topV x.stk 0).2 = 0 then o.2 else x.pc + 1, stk := cutV x.stk 1 }
  else if o.1 = 12 then (if m.frames.length = 6 then trapM m 4 else match p[o.2.toNat]? with
    | none => m
    | some g => { m with frames := m.frames.dropLast ++ [{ x with pc := x.pc + 1, stk := cutV x.stk g.1.toNat }, { fn := o.2, pc := 0, loc := x.stk.drop (x.stk.length - g.1.toNat) ++ (freshL g.2.1).drop g.1.toNat, stk := [] }] })
  else if o.1 = 13 then (match m.frames.dropLast.getLast? with
    | none => { m with frames := [], status := 2 }
    | some y => { m with frames := m.frames.dropLast.dropLast ++ [{ y with stk := y.stk ++ x.stk }] })
  else if o.1 = 14 then (if newErr m.blocks (topV x.stk 0).2 ≠ 0 then trapM m 3 else { onF m x (cutV x.stk 1 ++ [(true, (m.blocks.length : Int) + 1)]) with blocks := newL m.blocks (topV x.stk 0).2 })
  else if o.1 = 15 then (if placeErr m.blocks (topV x.stk 1).2 (topV x.stk 0).2 = 5 then trapM m 1 else if placeErr m.blocks (topV x.stk 1).2 (topV x.stk 0).2 ≠ 0 then trapM m 2 else onF m x (cutV x.stk 2 ++ [(false, getL m.blocks (topV x.stk 1).2 (topV x.stk 0).2)]))
  else if o.1 = 16 then (if setErr m.blocks (topV x.stk 2).2 (topV x.stk 1).2 (topV x.stk 0).2 = 5 then trapM m 1 else if setErr m.blocks (topV x.stk 2).2 (topV x.stk 1).2 (topV x.stk 0).2 ≠ 0 then trapM m 2 else { onF m x (cutV x.stk 3) with blocks := setL m.blocks (topV x.stk 2).2 (topV x.stk 1).2 (topV x.stk 0).2 })
  else if o.1 = 17 then (if (topV x.stk 0).2 = 0 then trapM m 1 else onF m x (cutV x.stk 1 ++ [(false, ((blkAt m.blocks (topV x.stk 0).2).length : Int))]))
  else if o.1 = 18 then onF m x (x.stk ++ [(true, 0)])
  else if o.1 = 19 then onF m x (cutV x.stk 1 ++ [(false, if (topV x.stk 0).2 = 0 then 1 else 0)])
  else if o.1 = 20 then (if m.out.length = 10 then trapM m 5 else { onF m x (cutV x.stk 1) with out := m.out ++ [(topV x.stk 0).2] })
  else if o.1 = 21 then { onF m x (x.stk ++ [(false, m.inp.headD 0)]) with inp := m.inp.tail }
  else m
def AllFit (p : List Fn) (e : Nat → Nat → Option (List Int)) : Prop := ∀ (k : Nat) (f : Fn), p[k]? = some f → Least p f (some (e k))
structure RightF (p : List Fn) (e : Nat → Nat → Option (List Int)) (nb : Nat) (next : Option Int) (x : Frm) (k : Nat) (f : Fn) : Prop where
  fn : x.fn = (k : Int)
  at_ : p[k]? = some f
  loc : areOf x.loc f.2.1 = true
  okl : ∀ v ∈ x.loc, okV nb v = true
  oks : ∀ v ∈ x.stk, okV nb v = true
  inner : next = none → ∃ (pc : Nat) (s : List Int), x.pc = (pc : Int) ∧ e k pc = some s ∧ areOf x.stk s = true
  outer : ∀ g, next = some g → ∃ (pc : Nat) (s0 s : List Int) (h : Fn), x.pc = ((pc + 1 : Nat) : Int) ∧ 0 ≤ g ∧ e k pc = some s0 ∧ f.2.2.2[pc]? = some (12, g) ∧ e k (pc + 1) = some s ∧ p[g.toNat]? = some h ∧ areOf x.stk (if h.2.2.1 ≠ 0 then s.dropLast else s) = true
structure RightM (p : List Fn) (e : Nat → Nat → Option (List Int)) (m : Mach) : Prop where
  status : 0 ≤ m.status ∧ m.status ≤ 3
  trap : (m.status = 3 → 1 ≤ m.trap ∧ m.trap ≤ 5) ∧ (m.status ≠ 3 → m.trap = 0)
  blocks : blkErr m.blocks = 0
  inp : m.inp.length ≤ 10 ∧ ∀ n ∈ m.inp, isI32 n = true
  out : m.out.length ≤ 10 ∧ ∀ n ∈ m.out, isI32 n = true
  depth : m.frames.length ≤ 6 ∧ (m.frames = [] ↔ m.status = 2)
  first : ∀ x, m.frames[0]? = some x → x.fn = 0
  each : ∀ (i : Nat) (x : Frm), m.frames[i]? = some x → ∃ k f, RightF p e m.blocks.length ((m.frames[i + 1]?).map Frm.fn) x k f
  wait : m.status = 1 → m.inp = [] ∧ ∃ (x : Frm) (k : Nat) (f : Fn) (o : Int × Int), m.frames.getLast? = some x ∧ x.fn = (k : Int) ∧ p[k]? = some f ∧ f.2.2.2[x.pc.toNat]? = some o ∧ o.1 = 21
end Go.Proofs.YtcadpoknolefpaaGreat


/- A step of a right machine is a right machine, plainly. -/
namespace Go.Proofs.YtcadpoknolefpaaGreat
open Go.RowKit
set_option linter.unusedSimpArgs false
set_option linter.unusedVariables false
theorem try_parts {p : List Fn} {f : Fn} {o : Int × Int} {s out : List Int} (h : tryOp p f o s = some out) : ∃ t l, takesLeaves p f o s = some (t, l) ∧ t.length ≤ s.length ∧ leS (s.drop (s.length - t.length)) t = true ∧ out = s.take (s.length - t.length) ++ l := by
  unfold tryOp at h
  obtain ⟨⟨t, l⟩, h1, h2⟩ := Option.bind_eq_some_iff.1 h
  simp only at h2
  split at h2
  · rename_i hc
    cases h2
    exact ⟨t, l, h1, hc.1, hc.2.1, rfl⟩
  · cases h2
theorem okV_mono {a b : Nat} (h : a ≤ b) {v : Val} (hv : okV a v = true) : okV b v = true := by
  unfold okV at hv ⊢
  split
  · rename_i h1
    rw [if_pos h1] at hv
    simp at hv ⊢
    omega
  · rename_i h1
    rw [if_neg h1] at hv
    exact hv
theorem RightF.mono {p : List Fn} {e : Nat → Nat → Option (List Int)} {a b : Nat} {next : Option Int} {x : Frm} {k : Nat} {f : Fn} (h : RightF p e a next x k f) (hab : a ≤ b) : RightF p e b next x k f :=
  ⟨h.fn, h.at_, h.loc, fun v hv => okV_mono hab (h.okl v hv), fun v hv => okV_mono hab (h.oks v hv), h.inner, h.outer⟩
theorem last_split {α : Type} {l : List α} {x : α} (h : l.getLast? = some x) : l = l.dropLast ++ [x] := by
  obtain ⟨ys, rfl⟩ := List.getLast?_eq_some_iff.1 h
  simp
theorem right_put {p : List Fn} {e : Nat → Nat → Option (List Int)} {m : Mach} {x x' : Frm} {k : Nat} {f : Fn} {B : List (List Int)} {I O : List Int} (h : RightM p e m) (hst : m.status = 0) (hl : m.frames.getLast? = some x) (hfn : x'.fn = x.fn) (hB : blkErr B = 0) (hnb : m.blocks.length ≤ B.length) (hI : I.length ≤ 10 ∧ ∀ n ∈ I, isI32 n = true) (hO : O.length ≤ 10 ∧ ∀ n ∈ O, isI32 n = true) (hr : RightF p e B.length none x' k f) :
    RightM p e { m with frames := m.frames.dropLast ++ [x'], blocks := B, inp := I, out := O } := by
  have hs := last_split hl
  generalize hd : m.frames.dropLast = D at *
  have hlen : m.frames.length = D.length + 1 := by rw [hs]; simp
  have hat : ∀ i y, i < D.length → (m.frames[i]? = some y ↔ (D ++ [x'])[i]? = some y) := by
    intro i y hi
    rw [hs, List.getElem?_append_left hi, List.getElem?_append_left hi]
  refine ⟨h.status, h.trap, hB, hI, hO, ⟨by simp; have := h.depth.1; omega, ?_⟩, ?_, ?_, fun hw => ?_⟩
  · simp [hst]
  · intro y hy
    simp only at hy
    cases D with
    | nil =>
      simp at hy
      subst hy
      rw [hfn]
      exact h.first x (by rw [hs]; rfl)
    | cons d r => exact h.first y ((hat 0 y (by simp)).2 hy)
  · intro i y hy
    simp only at hy ⊢
    by_cases hi : i < D.length
    · obtain ⟨k', f', hr'⟩ := h.each i y ((hat i y hi).2 hy)
      refine ⟨k', f', ?_⟩
      have hnext : (m.frames[i + 1]?).map Frm.fn = ((D ++ [x'])[i + 1]?).map Frm.fn := by
        by_cases hi2 : i + 1 < D.length
        · rw [hs, List.getElem?_append_left hi2, List.getElem?_append_left hi2]
        · have : i + 1 = D.length := by omega
          rw [hs, this]
          simp [hfn]
      rw [← hnext]
      exact hr'.mono hnb
    · have hi2 : i = D.length := by have := lt_of_at hy; simp at this; omega
      subst hi2
      simp at hy
      subst hy
      exact ⟨k, f, by simpa using hr⟩
  · rw [hst] at hw
    cases hw
theorem right_trap {p : List Fn} {e : Nat → Nat → Option (List Int)} {m : Mach} (h : RightM p e m) (hst : m.status = 0) {why : Int} (h1 : 1 ≤ why ∧ why ≤ 5) : RightM p e (trapM m why) := by
  refine ⟨by simp [trapM], ⟨fun _ => by simpa [trapM] using h1, fun hn => by simp [trapM] at hn⟩, h.blocks, h.inp, h.out, ⟨h.depth.1, ?_⟩, h.first, h.each, fun hw => by simp [trapM] at hw⟩
  simp only [trapM]
  constructor
  · intro hf
    have := h.depth.2.1 hf
    omega
  · intro hf; omega
theorem cutV_areOf {l : List Val} {s : List Int} (h : areOf l s = true) (n : Nat) : areOf (cutV l n) (s.take (s.length - n)) = true := by
  unfold cutV
  rw [areOf_length h]
  exact areOf_take _ h
theorem mem_cutV {l : List Val} {n : Nat} {v : Val} (h : v ∈ cutV l n) : v ∈ l := List.mem_of_mem_take h
theorem top_as {l : List Val} {s t : List Int} (h : areOf l s = true) (hle : t.length ≤ s.length) (hs : leS (s.drop (s.length - t.length)) t = true) : areOf (l.drop (l.length - t.length)) t = true := by
  rw [areOf_length h]
  exact areOf_le (areOf_drop _ h) hs
theorem topV_at {l : List Val} {t : List Int} (h : areOf (l.drop (l.length - t.length)) t = true) (hl : t.length ≤ l.length) (j : Nat) (hj : j < t.length) : topV l j ∈ l ∧ ∃ u, t[t.length - 1 - j]? = some u ∧ asT (topV l j) u = true := by
  have hlt : l.length - 1 - j < l.length := by omega
  have hv : l[l.length - 1 - j]? = some (topV l j) := by
    unfold topV
    rw [List.getD_eq_getElem?_getD, List.getElem?_eq_getElem hlt]; rfl
  refine ⟨List.mem_of_getElem? hv, ?_⟩
  obtain ⟨u, hu⟩ := at_of_lt (l := t) (k := t.length - 1 - j) (by omega)
  refine ⟨u, hu, areOf_at h (t.length - 1 - j) _ _ ?_ hu⟩
  rw [List.getElem?_drop, show l.length - t.length + (t.length - 1 - j) = l.length - 1 - j by omega]
  exact hv
theorem inner_go {p : List Fn} {e : Nat → Nat → Option (List Int)} {nb : Nat} {x : Frm} {k : Nat} {f : Fn} (he : AllFit p e) (hr : RightF p e nb none x k f) : ∃ (pc : Nat) (s : List Int) (o : Int × Int) (out : List Int), x.pc = (pc : Int) ∧ e k pc = some s ∧ areOf x.stk s = true ∧ f.2.2.2[pc]? = some o ∧ tryOp p f o s = some out ∧ ∀ to, goesOn f.2.2.2 pc to = true → to < f.2.2.2.length ∧ ∃ s', e k to = some s' ∧ leS out s' = true := by
  obtain ⟨pc, s, h1, h2, h3⟩ := hr.inner rfl
  obtain ⟨o, out, h4, h5, h6⟩ := (he k f hr.at_).1.on pc s h2
  exact ⟨pc, s, o, out, h1, h2, h3, h4, h5, h6⟩
theorem goesOn_next {C : List (Int × Int)} {pc : Nat} {o : Int × Int} (h : C[pc]? = some o) (h13 : o.1 ≠ 13) (h10 : o.1 ≠ 10) : goesOn C pc (pc + 1) = true := by
  unfold goesOn
  rw [h]
  simp only
  rw [if_neg h13, if_neg h10]
  split <;> simp
theorem plain_case {p : List Fn} {e : Nat → Nat → Option (List Int)} {nb nb' : Nat} {x : Frm} {k : Nat} {f : Fn} {to : Nat} {s out t l : List Int} {o : Int × Int} {loc' res : List Val} (hr : RightF p e nb none x k f) (hnb : nb ≤ nb') (hst : areOf x.stk s = true) (ht : tryOp p f o s = some out) (htl : takesLeaves p f o s = some (t, l)) (hto : ∃ s', e k to = some s' ∧ leS out s' = true) (hres : areOf res l = true) (hok : ∀ v ∈ res, okV nb' v = true) (hloc : areOf loc' f.2.1 = true) (hokl : ∀ v ∈ loc', okV nb' v = true) {pc' : Int} (hpc : pc' = (to : Int)) :
    RightF p e nb' none { x with pc := pc', loc := loc', stk := cutV x.stk t.length ++ res } k f := by
  obtain ⟨t', l', h1, h2, h3, rfl⟩ := try_parts ht
  rw [htl] at h1
  cases h1
  obtain ⟨s', h4, h5⟩ := hto
  refine ⟨hr.fn, hr.at_, hloc, hokl, fun v hv => ?_, fun _ => ⟨to, s', hpc, h4, areOf_le (areOf_append (cutV_areOf hst _) hres) h5⟩, fun g hg => by cases hg⟩
  rcases List.mem_append.1 hv with hv | hv
  · exact okV_mono hnb (hr.oks v (mem_cutV hv))
  · exact hok v hv
theorem has_takes {p : List Fn} {f : Fn} {o : Int × Int} {x : Frm} {s out t l : List Int} (hst : areOf x.stk s = true) (ht : tryOp p f o s = some out) (htl : takesLeaves p f o s = some (t, l)) : t.length ≤ x.stk.length ∧ areOf (x.stk.drop (x.stk.length - t.length)) t = true := by
  obtain ⟨t', l', h1, h2, h3, _⟩ := try_parts ht
  rw [htl] at h1
  cases h1
  exact ⟨by rw [areOf_length hst]; exact h2, top_as hst h2 h3⟩
theorem asT_int {v : Val} (h : asT v 1 = true) : v.1 = false := by simp [asT] at h; exact h
theorem asT_ref {v : Val} (h : asT v 2 = true) : v.1 = true := by simp [asT] at h; exact h
theorem okV_num {nb : Nat} {n : Int} (h : isI32 n = true) : okV nb (false, n) = true := by simpa [okV] using h
theorem okV_ref {nb : Nat} {n : Int} (h0 : 0 ≤ n) (h1 : n ≤ (nb : Int)) : okV nb (true, n) = true := by simp [okV, h0, h1]
theorem wrap_i32 (n : Int) : isI32 (wrap32 n) = true := by rw [← wrap_isI32]; simp [wrap32]
end Go.Proofs.YtcadpoknolefpaaGreat


