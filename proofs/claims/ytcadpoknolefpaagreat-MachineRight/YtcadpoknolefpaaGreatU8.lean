/- My texts Jf Jg Jh Ji, joined. -/
import Derived.Test.YtcadpoknolefpaaGreatU7
/- verify's stack: take. -/
namespace Go.Proofs.YtcadpoknolefpaaGreat
open Go.RowKit Go.Shelf
set_option linter.unusedSimpArgs false
set_option linter.unusedVariables false
attribute [local go_sem] Oper.semAt_some
/-- one type is taken from a stack. -/
def take1 (s : List Int × Bool) (t : Int) : List Int × Bool := (s.1.dropLast, s.2 || s.1.isEmpty || !standsB (topP s.1) t)
def takeP (s : List Int × Bool) (its : List (Nat × Int)) : List Int × Bool := its.foldl (fun s x => take1 s x.2) s
theorem takeP_snoc (s : List Int × Bool) (its : List (Nat × Int)) (x : Nat × Int) : takeP s (its ++ [x]) = take1 (takeP s its) x.2 := by simp [takeP]
theorem takeP_len (s : List Int × Bool) (its : List (Nat × Int)) : (takeP s its).1.length ≤ s.1.length := by
  induction its generalizing s with
  | nil => exact Nat.le_refl _
  | cons x r ih =>
    have h2 : (take1 s x.2).1.length ≤ s.1.length := by simp [take1]
    exact Nat.le_trans (ih (take1 s x.2)) h2
/-- between two rounds. -/
def TakeI (w : World) (b B : Nat) (s : List Int × Bool) (pre : List (Nat × Int)) (W : World) : Prop :=
  (StAt W b B (takeP s pre).1 (takeP s pre).2 ∧ Boxed W w.heap.size 237 (.pointer (some ⟨b, 0, none⟩))) ∧ w.grownBy W (some b)
theorem takeI_own (w : World) (b B : Nat) (s : List Int × Bool) (C : Nat) (hC : w.heap.size ≤ C) : OwnFrom C (TakeI w b B s) := fun pre X Y row hs hg hr => by
  obtain ⟨⟨⟨v, q, r⟩, bx⟩, g⟩ := hs
  have hcells : ∀ (k : Nat) (cs : Array Value) (t : TypeId) (fz : Nat × Nat), X.heap[k]? = some (.cells cs t fz) → Y.heap[k]? = X.heap[k]? := fun k cs t fz hk =>
    hg.block k (heap_lt hk) (fun e => by
      obtain ⟨_, o, ho, hc⟩ := hr k e.symm
      rw [hk] at ho; cases ho; cases hc)
  refine ⟨⟨⟨v, (hcells _ _ _ _ q).trans q, row_same r fun j hj => ?_⟩, (hcells _ _ _ _ bx).trans bx⟩, g.andThen hg (fun j hj => .inl ?_)⟩
  · rcases r.2 with ⟨rfl, _⟩ | ⟨g', cap, cur, rfl, _, hgg, _⟩
    · cases hj
    · cases hj; exact hcells _ _ _ _ hgg
  · exact Nat.le_trans hC (hr j hj).1
theorem kpB_grown {bs b : Nat} {v v0 : Value} {wr : Bool} {ts : List Int} {W W' : World} (hg : W.grownBy W' (some b)) (hb : W.heap[b]? = some (.cells #[v0, .bool wr] 207 (0, 0))) (hv : ∃ p n c, v0 = .slice p n c) : KpB bs v ts W W' := fun ⟨x, y⟩ => by
  obtain ⟨p0, n0, c0, rfl⟩ := hv
  refine ⟨x.kept hg (fun e => ?_), ?_⟩
  · cases e
    rw [show W.heap[bs]? = _ from x] at hb
    simp at hb
  · obtain ⟨p, c, rfl, hm, hc⟩ := y
    refine ⟨p, c, rfl, hm, fun k z hk => ?_⟩
    obtain ⟨b1, off, rfl, hb1, g⟩ := hc k z hk
    have hne : b1 ≠ b := fun e => by
      subst e
      rw [cell_at' hb] at g
      match h : off + k, g with
      | 0, g => simp at g
      | 1, g => simp at g
      | j + 2, g => simp at g
    exact ⟨b1, off, rfl, Nat.lt_of_lt_of_le hb1 hg.size, hg.cell g (by simpa using hne)⟩
set_option maxRecDepth 100000 in
set_option maxHeartbeats 4000000 in
theorem vTake_any (l ts : List Int) (wr : Bool) (b B : Nat) (p : Option Addr) (c : Nat) (w : World) (h : StAt w b B l wr) (hu : IntsAt w (.slice p ts.length c) ts) (hB : B ≤ w.heap.size) (hBb : B ≤ b) (hl : l.length ≤ 100) (ht : ts.length ≤ 100) : Calls Tryz.prog 199 #[.pointer (some ⟨b, 0, none⟩), .slice p ts.length c] w fun e w' => e = .returned (.tuple #[]) ∧ StAt w' b B (takeP (l, wr) (itsB ts ts.length)).1 (takeP (l, wr) (itsB ts ts.length)).2 ∧ w.grownBy w' (some b) := by
  refine (callsIn_wide (n := 5)).1 ?_
  have h1 : 1 ≤ 5 := by omega
  refine callsIn_of_wp_marks Tryz.func199 rfl trivial ?_ rfl
  simp only [Tryz.ntmps199, List.size_toArray, List.length_cons, List.length_nil, Nat.reduceAdd, Nat.reduceSub, Array.replicate_succ, Array.replicate_zero, List.push_toArray, List.append_toArray, List.nil_append, List.cons_append]
  gi_wp2_with fail
  refine ⟨trivial, ?_⟩
  refine (callsIn_wide.2 (backward_any p ts.length c _)).mono ?_
  rintro e w' ⟨rfl, rfl⟩
  gi_wp2
  have hB0 : Below w.heap.size w ((w.alloc (.cells #[.pointer (some ⟨b, 0, none⟩)] 237)).alloc (.cells #[.slice p ts.length c] 27)) := ((Below.refl _ w).alloc (Nat.le_refl _) _).alloc (by simp) _
  have b0 : Boxed ((w.alloc (.cells #[.pointer (some ⟨b, 0, none⟩)] 237)).alloc (.cells #[.slice p ts.length c] 27)) w.heap.size 237 (.pointer (some ⟨b, 0, none⟩)) := (Boxed.new w 237 (.pointer (some ⟨b, 0, none⟩))).alloc (.cells #[.slice p ts.length c] 27)
  have b1 : Boxed ((w.alloc (.cells #[.pointer (some ⟨b, 0, none⟩)] 237)).alloc (.cells #[.slice p ts.length c] 27)) (w.heap.size + 1) 27 (.slice p ts.length c) := new_two _ _ _
  obtain ⟨W0, hW0⟩ : ∃ W0, (w.alloc (.cells #[.pointer (some ⟨b, 0, none⟩)] 237)).alloc (.cells #[.slice p ts.length c] 27) = W0 := ⟨_, rfl⟩
  have hsz : W0.heap.size = w.heap.size + 1 + 1 := by rw [← hW0]; simp
  have hblt := h.lt
  rw [hW0] at hB0 b0 b1 ⊢
  clear hW0
  refine wpIn_rangeFunc_ownH rfl h1 (gf := 237) (lb := #[.pointer (some ⟨w.heap.size + 1, 0, none⟩)]) rfl trivial (enters_of Tryz.func237 (by kernel_rfl) rfl)
    (backward_stops (5 - 1) (by omega) (w.heap.size + 1) ts p c ht W0 b1 (hu.below hB0)) kpB_t kpB_b (Below.refl _ _) (fun _ => rfl)
    (TakeI w b B (l, wr)) (fun _ _ _ => False) (takeI_own w b B (l, wr) _ (by omega)) (fun _ _ _ _ _ hs _ _ => hs)
    ⟨⟨h.kept hB0, b0⟩, below_grown hB0 _⟩
    (fun x a' _ => a' = { tmps := #[.pointer (some ⟨b, 0, none⟩), .slice p ts.length c, .pointer (some ⟨w.heap.size, 0, none⟩), undef, undef, .int .i64 x.2, .slice p ts.length c, .func (.func 237) #[] #[.pointer (some ⟨w.heap.size + 1, 0, none⟩)], .int .i64 x.1, .int .i64 x.2, undef, undef, undef, undef, undef, undef, undef, undef], defers := [] })
    (fun x a' _ X Y row hs hg hr => hs)
    ?assign ?body ?done ?stop
  case assign =>
    rintro l0 pre x W K hI hK
    gi_wp2
    exact hK _ _ (KeepsFrom.refl _ _) (fun h => h) hI rfl
  case body =>
    rintro l0 pre ⟨ix, t⟩ a' W hl0 ⟨r, hr⟩ ⟨⟨hst, bx⟩, hgw⟩ rfl hlt
    have kx := bx.cell
    obtain ⟨v0, q0, row0⟩ := id hst
    have hshp : ∃ p n c, v0 = Value.slice p n c := by obtain ⟨p, c, h⟩ := row_shp row0; exact ⟨_, _, _, h⟩
    have hlen : (takeP (l, wr) pre).1.length ≤ 100 := Nat.le_trans (takeP_len _ _) hl
    have hpop := pop_any (takeP (l, wr) pre).1 (takeP (l, wr) pre).2 b B W hst hlen
    have HP := hideP hpop
    have HSN := hideP (takeP_snoc (l, wr) pre (ix, t))
    generalize takeP (l, wr) pre = S at *
    obtain ⟨S1, S2⟩ := S
    simp only at HP hlen hst row0
    have Q0 := hideP q0
    clear hpop hr hlt hst row0 q0
    gi_wp2_with fail
    refine ⟨trivial, ?_⟩
    refine (callsIn_wide.2 HP.out).mono ?_
    rintro e W2 ⟨rfl, hst2, hg2⟩
    have bx2 : Boxed W2 w.heap.size 237 (.pointer (some ⟨b, 0, none⟩)) := Boxed.kept bx hg2 (fun e => by cases e; omega)
    have kx2 := bx2.cell
    have hkp2 : KpB (w.heap.size + 1) (.slice p ts.length c) ts W W2 := kpB_grown hg2 Q0.out hshp
    gi_wp2_with fail
    refine ⟨trivial, ?_⟩
    refine (callsIn_wide.2 (standsFor_any (topP S1) t _)).mono ?_
    rintro e W3 ⟨rfl, hw3⟩
    have hw3 := hw3.symm
    subst hw3
    cases hs : standsB (topP S1) t
    · obtain ⟨v2, q2, row2⟩ := id hst2
      have d1 := cell_at' q2 1
      have z1 := Lib.frozen_of_heap q2 1
      simp at d1
      have Q2 := hideP q2
      have R2 := hideP row2
      have hshp2 : ∃ p n c, v2 = Value.slice p n c := by obtain ⟨p, c, h⟩ := row_shp row2; exact ⟨_, _, _, h⟩
      clear q2 row2 hst2
      gi_wp2
      have hgs := set_grown W2 ⟨b, 1, none⟩ (.bool true)
      have hb3 := heap_setCell_same W2 b 1 _ _ (.bool true) Q2.out
      refine ⟨KeepsFrom.of_grownBy (hg2.trans hgs) (fun j hj => by cases hj; omega), kpB_t hkp2 (kpB_grown hgs Q2.out hshp2), ⟨?_, Boxed.kept bx2 hgs (fun e => by have e2 : w.heap.size = b := (by simpa using e); omega)⟩, (hgw.trans hg2).trans hgs⟩
      rw [HSN.out]
      have e1 : take1 (S1, S2) t = (S1.dropLast, true) := by simp [take1, hs]
      rw [e1]
      exact StAt.set Q2.out (by simpa using hb3) R2.out hgs
    · gi_wp2
      refine ⟨KeepsFrom.of_grownBy hg2 (fun j hj => by cases hj; omega), hkp2, ⟨?_, bx2⟩, hgw.trans hg2⟩
      rw [HSN.out]
      have e1 : take1 (S1, S2) t = (S1.dropLast, S2 || S1.isEmpty) := by simp [take1, hs]
      rw [e1]
      exact hst2
  case done =>
    rintro D ys W hD rfl hI hK
    have hI2 := takeI_own w b B (l, wr) W0.heap.size (by omega) _ W _ (some D) hI (grownBy_putObj' W D (.deferred none)) (fun r e => by cases e; exact ⟨hD, _, hK, rfl⟩)
    have HI2 := hideP hI2
    clear hI2 hI
    gi_wp2
    refine ⟨by simp, .inl ⟨_, _, rfl, run_takeDeferred hK, ?_⟩⟩
    refine ⟨.tuple #[], by simp [results, Tryz.results199, go_sem], rfl, HI2.out.1.1, HI2.out.2⟩
  case stop =>
    rintro D c pre W _ _ h
    exact h.elim
end Go.Proofs.YtcadpoknolefpaaGreat
/- What verify's stack does, plainly: it is what an op leaves. -/
namespace Go.Proofs.YtcadpoknolefpaaGreat
open Go.RowKit
set_option linter.unusedSimpArgs false
set_option linter.unusedVariables false
abbrev St := List Int × Bool
def tk (s : St) (ts : List Int) : St := takeP s (itsB ts ts.length)
def lv (s : St) (ts : List Int) : St := (s.1 ++ ts, s.2 || decide (8 < (s.1 ++ ts).length))
def popS (s : St) : St := (s.1.dropLast, s.2 || s.1.isEmpty)
theorem itsB_map (ts : List Int) : ∀ k, k ≤ ts.length → (itsB ts k).map Prod.snd = (ts.take k).reverse
  | 0, _ => rfl
  | k + 1, h => by
    obtain ⟨z, hz⟩ := at_of_lt (show k < ts.length by omega)
    rw [take_snoc ts k z hz, List.reverse_append, itsB, List.map_cons, itsB_map ts k (by omega), List.getD_eq_getElem?_getD, hz]
    rfl
theorem tk_eq (s : St) (ts : List Int) : tk s ts = ts.reverse.foldl take1 s := by
  have h := itsB_map ts ts.length (Nat.le_refl _)
  rw [List.take_length] at h
  rw [← h, List.foldl_map]
  rfl
theorem leS_snoc : ∀ {D R : List Int} {a t : Int}, D.length = R.length → leS (D ++ [a]) (R ++ [t]) = (leS D R && standsB a t)
  | [], [], a, t, _ => by simp [leS]
  | [], _ :: _, a, t, h => by simp at h
  | _ :: _, [], a, t, h => by simp at h
  | d :: D, r :: R, a, t, h => by
    simp only [List.cons_append, leS]
    rw [leS_snoc (by simpa using h), Bool.and_assoc]
/-- does a stack have what is taken? -/
def fitsS (s ts : List Int) : Bool := decide (ts.length ≤ s.length) && leS (s.drop (s.length - ts.length)) ts
theorem foldl_take : ∀ (rs : List Int) (s : List Int) (wr : Bool), rs.foldl take1 (s, wr) = (s.take (s.length - rs.length), wr || !fitsS s rs.reverse)
  | [], s, wr => by simp [fitsS, leS]
  | t :: r, s, wr => by
    rw [List.foldl_cons]
    rcases List.eq_nil_or_concat s with rfl | ⟨s', a, hs⟩
    · have e : take1 ([], wr) t = ([], true) := by simp [take1]
      rw [e, foldl_take r [] true]
      simp [fitsS]
    · rw [List.concat_eq_append] at hs
      subst hs
      have hem : (s' ++ [a]).isEmpty = false := by cases s' <;> rfl
      have e : take1 (s' ++ [a], wr) t = (s', wr || !standsB a t) := by simp only [take1, topP, hem]; simp
      rw [e, foldl_take r s' _]
      have e1 : (s' ++ [a]).length - (t :: r).length = s'.length - r.length := by simp
      have e2 : (s' ++ [a]).take (s'.length - r.length) = s'.take (s'.length - r.length) := List.take_append_of_le_length (by omega)
      rw [e1, e2]
      refine Prod.ext rfl ?_
      show (wr || !standsB a t || !fitsS s' r.reverse) = (wr || !fitsS (s' ++ [a]) (t :: r).reverse)
      have e3 : fitsS (s' ++ [a]) (t :: r).reverse = (standsB a t && fitsS s' r.reverse) := by
        unfold fitsS
        by_cases h : r.length ≤ s'.length
        · have h1 : decide ((t :: r).reverse.length ≤ (s' ++ [a]).length) = true := by simp; omega
          have h2 : decide (r.reverse.length ≤ s'.length) = true := by simpa using h
          rw [h1, h2, Bool.true_and, Bool.true_and]
          have h3 : (s' ++ [a]).drop ((s' ++ [a]).length - (t :: r).reverse.length) = s'.drop (s'.length - r.reverse.length) ++ [a] := by
            rw [show (s' ++ [a]).length - (t :: r).reverse.length = s'.length - r.reverse.length by simp]
            exact List.drop_append_of_le_length (by omega)
          rw [h3, List.reverse_cons, leS_snoc (by simp; omega), Bool.and_comm]
        · have h1 : decide ((t :: r).reverse.length ≤ (s' ++ [a]).length) = false := by simp; omega
          have h2 : decide (r.reverse.length ≤ s'.length) = false := by simp; omega
          rw [h1, h2]
          simp
      rw [e3]
      cases wr <;> cases standsB a t <;> cases fitsS s' r.reverse <;> rfl
theorem tk_spec (s ts : List Int) (wr : Bool) : tk (s, wr) ts = (s.take (s.length - ts.length), wr || !fitsS s ts) := by
  rw [tk_eq, foldl_take]
  simp
/-- what a function leaves for its caller. -/
def resL (f : Fn) : List Int := if f.2.2.1 = 0 then [] else [f.2.2.1]
/-- what 'behind' makes of a stack. -/
def bhP (p : List Fn) (f : Fn) (o : Int × Int) (s : List Int) : St :=
  if o.1 = 2 then popS (s, false)
  else if o.1 = 3 then lv (popS (s, false)) [topP s, topP s]
  else if o.1 = 4 then lv (popS (popS (s, false))) [topP s, topP s.dropLast]
  else if o.1 = 8 then lv (s, false) [f.2.1.getD o.2.toNat 0]
  else if o.1 = 9 then tk (s, false) [f.2.1.getD o.2.toNat 0]
  else if o.1 = 12 then (match p[o.2.toNat]? with | some g => lv (tk (s, false) (g.2.1.take g.1.toNat)) (resL g) | none => (s, true))
  else if o.1 = 13 then ((tk (s, false) (resL f)).1, (tk (s, false) (resL f)).2 || decide (0 < (tk (s, false) (resL f)).1.length))
  else (if (plainTL o.1).2 = [] then tk (s, false) (plainTL o.1).1 else lv (tk (s, false) (plainTL o.1).1) (plainTL o.1).2)
/-- an op that may be, of a function of a program. -/
structure OkOp (p : List Fn) (f : Fn) (o : Int × Int) : Prop where
  code : 1 ≤ o.1 ∧ o.1 ≤ 21
  loc : o.1 = 8 ∨ o.1 = 9 → 0 ≤ o.2 ∧ o.2 < (f.2.1.length : Int)
  call : o.1 = 12 → 0 ≤ o.2 ∧ o.2 < (p.length : Int)
  fns : ∀ g ∈ p, 0 ≤ g.1 ∧ g.1 ≤ (g.2.1.length : Int) ∧ g.2.1.length ≤ 6 ∧ 0 ≤ g.2.2.1
  own : f.2.1.length ≤ 6 ∧ 0 ≤ f.2.2.1
theorem tl_of {p : List Fn} {f : Fn} {o : Int × Int} {s t l : List Int} (h : takesLeaves p f o s = some (t, l)) (hs : s.length ≤ 8) : tryOp p f o s = if fitsS s t = true ∧ (s.take (s.length - t.length) ++ l).length ≤ 8 then some (s.take (s.length - t.length) ++ l) else none := by
  unfold tryOp
  rw [h]
  simp only [Option.bind_some, fitsS, Bool.and_eq_true, decide_eq_true_eq, and_assoc]
/-- the answer of one that takes, and then leaves. -/
theorem tl_lv {p : List Fn} {f : Fn} {o : Int × Int} {s t l : List Int} (h : takesLeaves p f o s = some (t, l)) (hs : s.length ≤ 8) : tryOp p f o s = if (lv (tk (s, false) t) l).2 = true then none else some (lv (tk (s, false) t) l).1 := by
  rw [tl_of h hs, tk_spec]
  simp only [lv, Bool.false_or]
  cases h1 : fitsS s t
  · simp
  · by_cases h2 : (s.take (s.length - t.length) ++ l).length ≤ 8
    · rw [if_pos ⟨rfl, h2⟩, if_neg]
      simp at h2 ⊢
      omega
    · rw [if_neg (fun h => h2 h.2), if_pos]
      simp at h2 ⊢
      omega
theorem tl_tk {p : List Fn} {f : Fn} {o : Int × Int} {s t : List Int} (h : takesLeaves p f o s = some (t, [])) (hs : s.length ≤ 8) : tryOp p f o s = if (tk (s, false) t).2 = true then none else some (tk (s, false) t).1 := by
  rw [tl_of h hs, tk_spec]
  simp only [Bool.false_or, List.append_nil]
  have h2 : (s.take (s.length - t.length)).length ≤ 8 := by simp; omega
  cases h1 : fitsS s t
  · simp
  · rw [if_pos ⟨rfl, h2⟩]; simp
theorem fits_self (s : List Int) (k : Nat) (h : k ≤ s.length) : fitsS s (s.drop (s.length - k)) = true := by
  unfold fitsS
  rw [List.length_drop, show s.length - (s.length - (s.length - k)) = s.length - k by omega, leS_refl]
  simp
theorem withLocal_id {t : Int} {l : List Int} (h : ∀ x ∈ l, x ≠ 0) : withLocal t l = l := by
  unfold withLocal
  conv => rhs; rw [← List.map_id l]
  exact List.map_congr_left fun x hx => by rw [if_neg (h x hx)]; rfl
theorem plain_nz {c : Int} (h8 : c ≠ 8) (h9 : c ≠ 9) : (∀ x ∈ (plainTL c).1, x ≠ 0) ∧ ∀ x ∈ (plainTL c).2, x ≠ 0 := by
  unfold plainTL
  repeat' split
  all_goals first | (exact absurd ‹c = 8› h8) | (exact absurd ‹c = 9› h9) | (constructor <;> intro x hx <;> simp at hx <;> omega)
theorem bh_try {p : List Fn} {f : Fn} {o : Int × Int} {s : List Int} (ho : OkOp p f o) (hs : s.length ≤ 8) : tryOp p f o s = if (bhP p f o s).2 = true then none else some (bhP p f o s).1 := by
  unfold bhP
  by_cases c2 : o.1 = 2
  · rw [if_pos c2]
    by_cases hn : s.length < 1
    · have : takesLeaves p f o s = none := by simp [takesLeaves, c2, hn]
      have hs0 : s = [] := List.eq_nil_of_length_eq_zero (by omega)
      subst hs0
      simp [tryOp, this, popS]
    · have h : takesLeaves p f o s = some (s.drop (s.length - 1), []) := by simp [takesLeaves, c2, hn]
      rw [tl_of h hs, List.length_drop, show s.length - (s.length - (s.length - 1)) = s.length - 1 by omega, if_pos ⟨fits_self s 1 (by omega), by simp; omega⟩]
      have hne : s ≠ [] := fun e => by subst e; simp at hn
      simp [popS, hne, List.dropLast_eq_take]
  rw [if_neg c2]
  by_cases c3 : o.1 = 3
  · rw [if_pos c3]
    by_cases hn : s.length < 1
    · have : takesLeaves p f o s = none := by simp [takesLeaves, c3, hn]
      have hs0 : s = [] := List.eq_nil_of_length_eq_zero (by omega)
      subst hs0
      simp [tryOp, this, popS, lv]
    · have h : takesLeaves p f o s = some (s.drop (s.length - 1), s.drop (s.length - 1) ++ s.drop (s.length - 1)) := by simp [takesLeaves, c3, hn]
      rcases List.eq_nil_or_concat s with rfl | ⟨s', a, hsa⟩
      · simp at hn
      · rw [List.concat_eq_append] at hsa
        subst hsa
        have hd : (s' ++ [a]).drop ((s' ++ [a]).length - 1) = [a] := by simp
        rw [hd] at h
        rw [tl_of h hs]
        have hf : fitsS (s' ++ [a]) [a] = true := by have := fits_self (s' ++ [a]) 1 (by simp); rw [hd] at this; exact this
        have ht : (s' ++ [a]).take ((s' ++ [a]).length - [a].length) = s' := by simp
        rw [hf, ht]
        simp only [true_and, lv, popS, topP]
        simp
        by_cases h8 : s'.length ≤ 6
        · rw [if_pos h8, if_neg (by omega)]
        · rw [if_neg h8, if_pos (by omega)]
  rw [if_neg c3]
  by_cases c4 : o.1 = 4
  · rw [if_pos c4]
    by_cases hn : s.length < 2
    · have : takesLeaves p f o s = none := by simp [takesLeaves, c4, hn]
      rcases s with _ | ⟨a, _ | ⟨b, r⟩⟩
      · simp [tryOp, this, popS, lv]
      · simp [tryOp, this, popS, lv]
      · simp at hn; omega
    · have h : takesLeaves p f o s = some (s.drop (s.length - 2), (s.drop (s.length - 2)).reverse) := by simp [takesLeaves, c4, hn]
      rcases List.eq_nil_or_concat s with rfl | ⟨s1, b, hsb⟩
      · simp at hn
      rw [List.concat_eq_append] at hsb
      subst hsb
      rcases List.eq_nil_or_concat s1 with rfl | ⟨s2, a, hsa⟩
      · simp at hn
      rw [List.concat_eq_append] at hsa
      subst hsa
      have hd : (s2 ++ [a] ++ [b]).drop ((s2 ++ [a] ++ [b]).length - 2) = [a, b] := by simp
      rw [hd] at h
      rw [tl_of h hs]
      have hf : fitsS (s2 ++ [a] ++ [b]) [a, b] = true := by have := fits_self (s2 ++ [a] ++ [b]) 2 (by simp); rw [hd] at this; exact this
      have ht : (s2 ++ [a] ++ [b]).take ((s2 ++ [a] ++ [b]).length - [a, b].length) = s2 := by simp
      rw [hf, ht]
      simp only [true_and, lv, popS, topP]
      simp at hs ⊢
      rw [if_pos (by omega), if_neg (by omega)]
  rw [if_neg c4]
  by_cases c8 : o.1 = 8
  · rw [if_pos c8]
    have h : takesLeaves p f o s = some ([], [f.2.1.getD o.2.toNat 0]) := by simp [takesLeaves, c2, c3, c4, c8, plainTL, withLocal]
    rw [tl_lv h hs, tk_spec]
    simp [fitsS, leS]
  rw [if_neg c8]
  by_cases c9 : o.1 = 9
  · rw [if_pos c9]
    have h : takesLeaves p f o s = some ([f.2.1.getD o.2.toNat 0], []) := by simp [takesLeaves, c2, c3, c4, c9, plainTL, withLocal]
    exact tl_tk h hs
  rw [if_neg c9]
  have hres : ∀ g : Fn, 0 ≤ g.2.2.1 → (if 0 < g.2.2.1 then [g.2.2.1] else []) = resL g := by
    intro g hg
    unfold resL
    by_cases h0 : g.2.2.1 = 0
    · rw [if_pos h0, if_neg (by omega)]
    · rw [if_neg h0, if_pos (by omega)]
  by_cases c12 : o.1 = 12
  · rw [if_pos c12]
    have hc := ho.call c12
    obtain ⟨g, hg⟩ := at_of_lt (l := p) (k := o.2.toNat) (by omega)
    have hgo := ho.fns g (List.mem_of_getElem? hg)
    have h : takesLeaves p f o s = some (g.2.1.take g.1.toNat, resL g) := by
      rw [← hres g hgo.2.2.2]
      simp [takesLeaves, c12, hg]
    rw [hg]
    exact tl_lv h hs
  rw [if_neg c12]
  by_cases c13 : o.1 = 13
  · rw [if_pos c13]
    have hr := hres f ho.own.2
    by_cases hl : s.length = (resL f).length
    · have h : takesLeaves p f o s = some (resL f, []) := by
        simp only [takesLeaves, c13, hr]
        simp [hl]
      rw [tl_tk h hs, tk_spec]
      simp [hl]
    · have h : tryOp p f o s = none := by
        simp only [tryOp, takesLeaves, c13, hr]
        simp [hl]
      rw [h, tk_spec]
      simp only [Bool.false_or]
      rw [if_pos]
      by_cases hle : (resL f).length ≤ s.length
      · have : decide (0 < (s.take (s.length - (resL f).length)).length) = true := by simp; omega
        rw [this, Bool.or_true]
      · have : fitsS s (resL f) = false := by simp [fitsS]; omega
        rw [this]; rfl
  rw [if_neg c13]
  have hz := plain_nz c8 c9
  have h : takesLeaves p f o s = some ((plainTL o.1).1, (plainTL o.1).2) := by
    simp only [takesLeaves, if_neg c2, if_neg c3, if_neg c4, if_neg c12, if_neg c13]
    rw [withLocal_id hz.1, withLocal_id hz.2]
  by_cases hl : (plainTL o.1).2 = []
  · rw [if_pos hl]
    rw [hl] at h
    exact tl_tk h hs
  · rw [if_neg hl]
    exact tl_lv h hs
end Go.Proofs.YtcadpoknolefpaaGreat
/- verify's stack: turn, call, do. -/
namespace Go.Proofs.YtcadpoknolefpaaGreat
open Go.RowKit
set_option linter.unusedSimpArgs false
set_option linter.unusedVariables false
def SA (W : World) (b B : Nat) (s : St) : Prop := StAt W b B s.1 s.2
theorem SA.kept {W W' : World} {b B : Nat} {s : St} (h : SA W b B s) (hb : Below W.heap.size W W') : SA W' b B s := StAt.kept h hb
theorem popS_any (s : St) (b B : Nat) (w : World) (h : SA w b B s) (hl : s.1.length ≤ 100) (hB : B ≤ w.heap.size) (hBb : B ≤ b) : Calls Tryz.prog 229 #[.pointer (some ⟨b, 0, none⟩)] w fun e w' => e = .returned (.int .i64 (topP s.1)) ∧ SA w' b B (popS s) ∧ Below B w w' := by
  refine (pop_any s.1 s.2 b B w h hl).mono ?_
  rintro e w' ⟨rfl, h1, h2⟩
  exact ⟨rfl, h1, (Below.refl B w).grown h2 hB (fun k hk => by cases hk; exact hBb)⟩
theorem tkS_any (s : St) (ts : List Int) (b B : Nat) (u : Value) (w : World) (h : SA w b B s) (hu : IntsAt w u ts) (hl : s.1.length ≤ 100) (ht : ts.length ≤ 100) (hB : B ≤ w.heap.size) (hBb : B ≤ b) : Calls Tryz.prog 199 #[.pointer (some ⟨b, 0, none⟩), u] w fun e w' => e = .returned (.tuple #[]) ∧ SA w' b B (tk s ts) ∧ Below B w w' := by
  obtain ⟨p, c, rfl, _, _⟩ := id hu
  refine (vTake_any s.1 ts s.2 b B p c w h hu hB hBb hl ht).mono ?_
  rintro e w' ⟨rfl, h1, h2⟩
  exact ⟨rfl, h1, (Below.refl B w).grown h2 hB (fun k hk => by cases hk; exact hBb)⟩
theorem lvS_any (s : St) (ts : List Int) (b B : Nat) (u : Value) (w : World) (h : SA w b B s) (hu : IntsAt w u ts) (hn : NilOk u) (hl : s.1.length ≤ 100) (ht : ts.length ≤ 100) (hB : B ≤ w.heap.size) (hBb : B ≤ b) : Calls Tryz.prog 198 #[.pointer (some ⟨b, 0, none⟩), u] w fun e w' => e = .returned (.tuple #[]) ∧ SA w' b B (lv s ts) ∧ Below B w w' := by
  refine (leave_any s.1 ts s.2 b B u w h hu hn hB hBb hl ht).mono ?_
  rintro e w' ⟨rfl, h1, h2⟩
  exact ⟨rfl, h1, h2⟩
theorem tk_len (s : St) (ts : List Int) : (tk s ts).1.length ≤ s.1.length := takeP_len s _
theorem popS_len (s : St) : (popS s).1.length ≤ s.1.length := by simp [popS]
set_option maxRecDepth 100000 in
set_option maxHeartbeats 2000000 in
theorem turn2_any (s : St) (b B : Nat) (w : World) (h : SA w b B s) (hl : s.1.length ≤ 100) (hB : B ≤ w.heap.size) (hBb : B ≤ b) : Calls Tryz.prog 197 #[.pointer (some ⟨b, 0, none⟩), .int .i64 2] w fun e w' => e = .returned (.tuple #[]) ∧ SA w' b B (popS s) ∧ Below B w w' := by
  go_enter Tryz.func197, Tryz.ntmps197
  go_wp2_with fail
  refine (popS_any s b B w h hl hB hBb).mono ?_
  rintro e w1 ⟨rfl, h1, b1⟩
  have l1 : (popS s).1.length ≤ 100 := Nat.le_trans (popS_len _) hl
  have z1 : B ≤ w1.heap.size := Nat.le_trans hB b1.size
  have B1 := b1
  go_wp2
  go_end0
  exact ⟨rfl, h1, B1⟩
set_option maxRecDepth 100000 in
set_option maxHeartbeats 2000000 in
theorem turn3_any (s : St) (b B : Nat) (w : World) (h : SA w b B s) (hl : s.1.length ≤ 100) (hB : B ≤ w.heap.size) (hBb : B ≤ b) : Calls Tryz.prog 197 #[.pointer (some ⟨b, 0, none⟩), .int .i64 3] w fun e w' => e = .returned (.tuple #[]) ∧ SA w' b B (lv (popS s) [topP s.1, topP s.1]) ∧ Below B w w' := by
  go_enter Tryz.func197, Tryz.ntmps197
  go_wp2_with fail
  refine (popS_any s b B w h hl hB hBb).mono ?_
  rintro e w1 ⟨rfl, h1, b1⟩
  have l1 : (popS s).1.length ≤ 100 := Nat.le_trans (popS_len _) hl
  have z1 : B ≤ w1.heap.size := Nat.le_trans hB b1.size
  have B1 := b1
  go_wp2_with fail
  have q2 := World.alloc_heap_new w1 (.cells #[.int .i64 (topP s.1), .int .i64 (topP s.1)] 3)
  have a2 := (Below.refl w1.heap.size w1).alloc (Nat.le_refl _) (.cells #[.int .i64 (topP s.1), .int .i64 (topP s.1)] 3)
  refine (lvS_any (popS s) [(topP s.1), (topP s.1)] b B _ _ (h1.kept a2) (ints_lit 2 2 q2 rfl (by unfold maxLen; simp)) (nilOk_some _ _ _) l1 (by simp) (Nat.le_trans z1 a2.size) hBb).mono ?_
  rintro e w2 ⟨rfl, h2, b2⟩
  have z2 : B ≤ w2.heap.size := Nat.le_trans (Nat.le_trans z1 a2.size) b2.size
  have c2 := (a2.mono z1).trans b2
  have B2 := B1.trans c2
  clear q2 a2
  go_wp2
  go_end0
  exact ⟨rfl, h2, B2⟩
set_option maxRecDepth 100000 in
set_option maxHeartbeats 2000000 in
theorem turn4_any (s : St) (b B : Nat) (w : World) (h : SA w b B s) (hl : s.1.length ≤ 100) (hB : B ≤ w.heap.size) (hBb : B ≤ b) : Calls Tryz.prog 197 #[.pointer (some ⟨b, 0, none⟩), .int .i64 4] w fun e w' => e = .returned (.tuple #[]) ∧ SA w' b B (lv (popS (popS s)) [topP s.1, topP (popS s).1]) ∧ Below B w w' := by
  go_enter Tryz.func197, Tryz.ntmps197
  go_wp2_with fail
  refine (popS_any s b B w h hl hB hBb).mono ?_
  rintro e w1 ⟨rfl, h1, b1⟩
  have l1 : (popS s).1.length ≤ 100 := Nat.le_trans (popS_len _) hl
  have z1 : B ≤ w1.heap.size := Nat.le_trans hB b1.size
  have B1 := b1
  go_wp2_with fail
  refine (popS_any (popS s) b B w1 h1 l1 z1 hBb).mono ?_
  rintro e w2 ⟨rfl, h2, b2⟩
  have l2 : (popS (popS s)).1.length ≤ 100 := Nat.le_trans (popS_len _) l1
  have z2 : B ≤ w2.heap.size := Nat.le_trans z1 b2.size
  have B2 := B1.trans b2
  go_wp2_with fail
  have q3 := World.alloc_heap_new w2 (.cells #[.int .i64 (topP s.1), .int .i64 (topP (popS s).1)] 3)
  have a3 := (Below.refl w2.heap.size w2).alloc (Nat.le_refl _) (.cells #[.int .i64 (topP s.1), .int .i64 (topP (popS s).1)] 3)
  refine (lvS_any (popS (popS s)) [(topP s.1), (topP (popS s).1)] b B _ _ (h2.kept a3) (ints_lit 2 2 q3 rfl (by unfold maxLen; simp)) (nilOk_some _ _ _) l2 (by simp) (Nat.le_trans z2 a3.size) hBb).mono ?_
  rintro e w3 ⟨rfl, h3, b3⟩
  have z3 : B ≤ w3.heap.size := Nat.le_trans (Nat.le_trans z2 a3.size) b3.size
  have c3 := (a3.mono z2).trans b3
  have B3 := B2.trans c3
  clear q3 a3
  go_wp2
  go_end0
  exact ⟨rfl, h3, B3⟩
set_option maxRecDepth 100000 in
set_option maxHeartbeats 2000000 in
theorem do1_any (s : St) (b B : Nat) (w : World) (h : SA w b B s) (hl : s.1.length ≤ 100) (hB : B ≤ w.heap.size) (hBb : B ≤ b) : Calls Tryz.prog 202 #[.pointer (some ⟨b, 0, none⟩), .int .i64 1] w fun e w' => e = .returned (.tuple #[]) ∧ SA w' b B (lv s [1]) ∧ Below B w w' := by
  go_enter Tryz.func202, Tryz.ntmps202
  go_wp2_with fail
  have q1 := World.alloc_heap_new w (.cells #[.int .i64 1] 3)
  have a1 := (Below.refl w.heap.size w).alloc (Nat.le_refl _) (.cells #[.int .i64 1] 3)
  refine (lvS_any s [1] b B _ _ (h.kept a1) (ints_lit 1 1 q1 rfl (by unfold maxLen; simp)) (nilOk_some _ _ _) hl (by simp) (Nat.le_trans hB a1.size) hBb).mono ?_
  rintro e w1 ⟨rfl, h1, b1⟩
  have z1 : B ≤ w1.heap.size := Nat.le_trans (Nat.le_trans hB a1.size) b1.size
  have c1 := (a1.mono hB).trans b1
  have B1 := c1
  clear q1 a1
  go_wp2
  go_end0
  exact ⟨rfl, h1, B1⟩
set_option maxRecDepth 100000 in
set_option maxHeartbeats 2000000 in
theorem do21_any (s : St) (b B : Nat) (w : World) (h : SA w b B s) (hl : s.1.length ≤ 100) (hB : B ≤ w.heap.size) (hBb : B ≤ b) : Calls Tryz.prog 202 #[.pointer (some ⟨b, 0, none⟩), .int .i64 21] w fun e w' => e = .returned (.tuple #[]) ∧ SA w' b B (lv s [1]) ∧ Below B w w' := by
  go_enter Tryz.func202, Tryz.ntmps202
  go_wp2_with fail
  have q1 := World.alloc_heap_new w (.cells #[.int .i64 1] 3)
  have a1 := (Below.refl w.heap.size w).alloc (Nat.le_refl _) (.cells #[.int .i64 1] 3)
  refine (lvS_any s [1] b B _ _ (h.kept a1) (ints_lit 1 1 q1 rfl (by unfold maxLen; simp)) (nilOk_some _ _ _) hl (by simp) (Nat.le_trans hB a1.size) hBb).mono ?_
  rintro e w1 ⟨rfl, h1, b1⟩
  have z1 : B ≤ w1.heap.size := Nat.le_trans (Nat.le_trans hB a1.size) b1.size
  have c1 := (a1.mono hB).trans b1
  have B1 := c1
  clear q1 a1
  go_wp2
  go_end0
  exact ⟨rfl, h1, B1⟩
set_option maxRecDepth 100000 in
set_option maxHeartbeats 2000000 in
theorem do5_any (s : St) (b B : Nat) (w : World) (h : SA w b B s) (hl : s.1.length ≤ 100) (hB : B ≤ w.heap.size) (hBb : B ≤ b) : Calls Tryz.prog 202 #[.pointer (some ⟨b, 0, none⟩), .int .i64 5] w fun e w' => e = .returned (.tuple #[]) ∧ SA w' b B (lv (tk s [1, 1]) [1]) ∧ Below B w w' := by
  go_enter Tryz.func202, Tryz.ntmps202
  go_wp2_with fail
  have q1 := World.alloc_heap_new w (.cells #[.int .i64 1, .int .i64 1] 3)
  have a1 := (Below.refl w.heap.size w).alloc (Nat.le_refl _) (.cells #[.int .i64 1, .int .i64 1] 3)
  refine (tkS_any s [1, 1] b B _ _ (h.kept a1) (ints_lit 2 2 q1 rfl (by unfold maxLen; simp)) hl (by simp) (Nat.le_trans hB a1.size) hBb).mono ?_
  rintro e w1 ⟨rfl, h1, b1⟩
  have l1 : (tk s [1, 1]).1.length ≤ 100 := Nat.le_trans (tk_len _ _) hl
  have z1 : B ≤ w1.heap.size := Nat.le_trans (Nat.le_trans hB a1.size) b1.size
  have c1 := (a1.mono hB).trans b1
  have B1 := c1
  clear q1 a1
  go_wp2_with fail
  have q2 := World.alloc_heap_new w1 (.cells #[.int .i64 1] 3)
  have a2 := (Below.refl w1.heap.size w1).alloc (Nat.le_refl _) (.cells #[.int .i64 1] 3)
  refine (lvS_any (tk s [1, 1]) [1] b B _ _ (h1.kept a2) (ints_lit 1 1 q2 rfl (by unfold maxLen; simp)) (nilOk_some _ _ _) l1 (by simp) (Nat.le_trans z1 a2.size) hBb).mono ?_
  rintro e w2 ⟨rfl, h2, b2⟩
  have z2 : B ≤ w2.heap.size := Nat.le_trans (Nat.le_trans z1 a2.size) b2.size
  have c2 := (a2.mono z1).trans b2
  have B2 := B1.trans c2
  clear q2 a2
  go_wp2
  go_end0
  exact ⟨rfl, h2, B2⟩
set_option maxRecDepth 100000 in
set_option maxHeartbeats 2000000 in
theorem do6_any (s : St) (b B : Nat) (w : World) (h : SA w b B s) (hl : s.1.length ≤ 100) (hB : B ≤ w.heap.size) (hBb : B ≤ b) : Calls Tryz.prog 202 #[.pointer (some ⟨b, 0, none⟩), .int .i64 6] w fun e w' => e = .returned (.tuple #[]) ∧ SA w' b B (lv (tk s [1, 1]) [1]) ∧ Below B w w' := by
  go_enter Tryz.func202, Tryz.ntmps202
  go_wp2_with fail
  have q1 := World.alloc_heap_new w (.cells #[.int .i64 1, .int .i64 1] 3)
  have a1 := (Below.refl w.heap.size w).alloc (Nat.le_refl _) (.cells #[.int .i64 1, .int .i64 1] 3)
  refine (tkS_any s [1, 1] b B _ _ (h.kept a1) (ints_lit 2 2 q1 rfl (by unfold maxLen; simp)) hl (by simp) (Nat.le_trans hB a1.size) hBb).mono ?_
  rintro e w1 ⟨rfl, h1, b1⟩
  have l1 : (tk s [1, 1]).1.length ≤ 100 := Nat.le_trans (tk_len _ _) hl
  have z1 : B ≤ w1.heap.size := Nat.le_trans (Nat.le_trans hB a1.size) b1.size
  have c1 := (a1.mono hB).trans b1
  have B1 := c1
  clear q1 a1
  go_wp2_with fail
  have q2 := World.alloc_heap_new w1 (.cells #[.int .i64 1] 3)
  have a2 := (Below.refl w1.heap.size w1).alloc (Nat.le_refl _) (.cells #[.int .i64 1] 3)
  refine (lvS_any (tk s [1, 1]) [1] b B _ _ (h1.kept a2) (ints_lit 1 1 q2 rfl (by unfold maxLen; simp)) (nilOk_some _ _ _) l1 (by simp) (Nat.le_trans z1 a2.size) hBb).mono ?_
  rintro e w2 ⟨rfl, h2, b2⟩
  have z2 : B ≤ w2.heap.size := Nat.le_trans (Nat.le_trans z1 a2.size) b2.size
  have c2 := (a2.mono z1).trans b2
  have B2 := B1.trans c2
  clear q2 a2
  go_wp2
  go_end0
  exact ⟨rfl, h2, B2⟩
set_option maxRecDepth 100000 in
set_option maxHeartbeats 2000000 in
theorem do7_any (s : St) (b B : Nat) (w : World) (h : SA w b B s) (hl : s.1.length ≤ 100) (hB : B ≤ w.heap.size) (hBb : B ≤ b) : Calls Tryz.prog 202 #[.pointer (some ⟨b, 0, none⟩), .int .i64 7] w fun e w' => e = .returned (.tuple #[]) ∧ SA w' b B (lv (tk s [1, 1]) [1]) ∧ Below B w w' := by
  go_enter Tryz.func202, Tryz.ntmps202
  go_wp2_with fail
  have q1 := World.alloc_heap_new w (.cells #[.int .i64 1, .int .i64 1] 3)
  have a1 := (Below.refl w.heap.size w).alloc (Nat.le_refl _) (.cells #[.int .i64 1, .int .i64 1] 3)
  refine (tkS_any s [1, 1] b B _ _ (h.kept a1) (ints_lit 2 2 q1 rfl (by unfold maxLen; simp)) hl (by simp) (Nat.le_trans hB a1.size) hBb).mono ?_
  rintro e w1 ⟨rfl, h1, b1⟩
  have l1 : (tk s [1, 1]).1.length ≤ 100 := Nat.le_trans (tk_len _ _) hl
  have z1 : B ≤ w1.heap.size := Nat.le_trans (Nat.le_trans hB a1.size) b1.size
  have c1 := (a1.mono hB).trans b1
  have B1 := c1
  clear q1 a1
  go_wp2_with fail
  have q2 := World.alloc_heap_new w1 (.cells #[.int .i64 1] 3)
  have a2 := (Below.refl w1.heap.size w1).alloc (Nat.le_refl _) (.cells #[.int .i64 1] 3)
  refine (lvS_any (tk s [1, 1]) [1] b B _ _ (h1.kept a2) (ints_lit 1 1 q2 rfl (by unfold maxLen; simp)) (nilOk_some _ _ _) l1 (by simp) (Nat.le_trans z1 a2.size) hBb).mono ?_
  rintro e w2 ⟨rfl, h2, b2⟩
  have z2 : B ≤ w2.heap.size := Nat.le_trans (Nat.le_trans z1 a2.size) b2.size
  have c2 := (a2.mono z1).trans b2
  have B2 := B1.trans c2
  clear q2 a2
  go_wp2
  go_end0
  exact ⟨rfl, h2, B2⟩
set_option maxRecDepth 100000 in
set_option maxHeartbeats 2000000 in
theorem do11_any (s : St) (b B : Nat) (w : World) (h : SA w b B s) (hl : s.1.length ≤ 100) (hB : B ≤ w.heap.size) (hBb : B ≤ b) : Calls Tryz.prog 202 #[.pointer (some ⟨b, 0, none⟩), .int .i64 11] w fun e w' => e = .returned (.tuple #[]) ∧ SA w' b B (tk s [1]) ∧ Below B w w' := by
  go_enter Tryz.func202, Tryz.ntmps202
  go_wp2_with fail
  have q1 := World.alloc_heap_new w (.cells #[.int .i64 1] 3)
  have a1 := (Below.refl w.heap.size w).alloc (Nat.le_refl _) (.cells #[.int .i64 1] 3)
  refine (tkS_any s [1] b B _ _ (h.kept a1) (ints_lit 1 1 q1 rfl (by unfold maxLen; simp)) hl (by simp) (Nat.le_trans hB a1.size) hBb).mono ?_
  rintro e w1 ⟨rfl, h1, b1⟩
  have l1 : (tk s [1]).1.length ≤ 100 := Nat.le_trans (tk_len _ _) hl
  have z1 : B ≤ w1.heap.size := Nat.le_trans (Nat.le_trans hB a1.size) b1.size
  have c1 := (a1.mono hB).trans b1
  have B1 := c1
  clear q1 a1
  go_wp2
  go_end0
  exact ⟨rfl, h1, B1⟩
set_option maxRecDepth 100000 in
set_option maxHeartbeats 2000000 in
theorem do20_any (s : St) (b B : Nat) (w : World) (h : SA w b B s) (hl : s.1.length ≤ 100) (hB : B ≤ w.heap.size) (hBb : B ≤ b) : Calls Tryz.prog 202 #[.pointer (some ⟨b, 0, none⟩), .int .i64 20] w fun e w' => e = .returned (.tuple #[]) ∧ SA w' b B (tk s [1]) ∧ Below B w w' := by
  go_enter Tryz.func202, Tryz.ntmps202
  go_wp2_with fail
  have q1 := World.alloc_heap_new w (.cells #[.int .i64 1] 3)
  have a1 := (Below.refl w.heap.size w).alloc (Nat.le_refl _) (.cells #[.int .i64 1] 3)
  refine (tkS_any s [1] b B _ _ (h.kept a1) (ints_lit 1 1 q1 rfl (by unfold maxLen; simp)) hl (by simp) (Nat.le_trans hB a1.size) hBb).mono ?_
  rintro e w1 ⟨rfl, h1, b1⟩
  have l1 : (tk s [1]).1.length ≤ 100 := Nat.le_trans (tk_len _ _) hl
  have z1 : B ≤ w1.heap.size := Nat.le_trans (Nat.le_trans hB a1.size) b1.size
  have c1 := (a1.mono hB).trans b1
  have B1 := c1
  clear q1 a1
  go_wp2
  go_end0
  exact ⟨rfl, h1, B1⟩
set_option maxRecDepth 100000 in
set_option maxHeartbeats 2000000 in
theorem do14_any (s : St) (b B : Nat) (w : World) (h : SA w b B s) (hl : s.1.length ≤ 100) (hB : B ≤ w.heap.size) (hBb : B ≤ b) : Calls Tryz.prog 202 #[.pointer (some ⟨b, 0, none⟩), .int .i64 14] w fun e w' => e = .returned (.tuple #[]) ∧ SA w' b B (lv (tk s [1]) [2]) ∧ Below B w w' := by
  go_enter Tryz.func202, Tryz.ntmps202
  go_wp2_with fail
  have q1 := World.alloc_heap_new w (.cells #[.int .i64 1] 3)
  have a1 := (Below.refl w.heap.size w).alloc (Nat.le_refl _) (.cells #[.int .i64 1] 3)
  refine (tkS_any s [1] b B _ _ (h.kept a1) (ints_lit 1 1 q1 rfl (by unfold maxLen; simp)) hl (by simp) (Nat.le_trans hB a1.size) hBb).mono ?_
  rintro e w1 ⟨rfl, h1, b1⟩
  have l1 : (tk s [1]).1.length ≤ 100 := Nat.le_trans (tk_len _ _) hl
  have z1 : B ≤ w1.heap.size := Nat.le_trans (Nat.le_trans hB a1.size) b1.size
  have c1 := (a1.mono hB).trans b1
  have B1 := c1
  clear q1 a1
  go_wp2_with fail
  have q2 := World.alloc_heap_new w1 (.cells #[.int .i64 2] 3)
  have a2 := (Below.refl w1.heap.size w1).alloc (Nat.le_refl _) (.cells #[.int .i64 2] 3)
  refine (lvS_any (tk s [1]) [2] b B _ _ (h1.kept a2) (ints_lit 1 1 q2 rfl (by unfold maxLen; simp)) (nilOk_some _ _ _) l1 (by simp) (Nat.le_trans z1 a2.size) hBb).mono ?_
  rintro e w2 ⟨rfl, h2, b2⟩
  have z2 : B ≤ w2.heap.size := Nat.le_trans (Nat.le_trans z1 a2.size) b2.size
  have c2 := (a2.mono z1).trans b2
  have B2 := B1.trans c2
  clear q2 a2
  go_wp2
  go_end0
  exact ⟨rfl, h2, B2⟩
set_option maxRecDepth 100000 in
set_option maxHeartbeats 2000000 in
theorem do15_any (s : St) (b B : Nat) (w : World) (h : SA w b B s) (hl : s.1.length ≤ 100) (hB : B ≤ w.heap.size) (hBb : B ≤ b) : Calls Tryz.prog 202 #[.pointer (some ⟨b, 0, none⟩), .int .i64 15] w fun e w' => e = .returned (.tuple #[]) ∧ SA w' b B (lv (tk s [2, 1]) [1]) ∧ Below B w w' := by
  go_enter Tryz.func202, Tryz.ntmps202
  go_wp2_with fail
  have q1 := World.alloc_heap_new w (.cells #[.int .i64 2, .int .i64 1] 3)
  have a1 := (Below.refl w.heap.size w).alloc (Nat.le_refl _) (.cells #[.int .i64 2, .int .i64 1] 3)
  refine (tkS_any s [2, 1] b B _ _ (h.kept a1) (ints_lit 2 2 q1 rfl (by unfold maxLen; simp)) hl (by simp) (Nat.le_trans hB a1.size) hBb).mono ?_
  rintro e w1 ⟨rfl, h1, b1⟩
  have l1 : (tk s [2, 1]).1.length ≤ 100 := Nat.le_trans (tk_len _ _) hl
  have z1 : B ≤ w1.heap.size := Nat.le_trans (Nat.le_trans hB a1.size) b1.size
  have c1 := (a1.mono hB).trans b1
  have B1 := c1
  clear q1 a1
  go_wp2_with fail
  have q2 := World.alloc_heap_new w1 (.cells #[.int .i64 1] 3)
  have a2 := (Below.refl w1.heap.size w1).alloc (Nat.le_refl _) (.cells #[.int .i64 1] 3)
  refine (lvS_any (tk s [2, 1]) [1] b B _ _ (h1.kept a2) (ints_lit 1 1 q2 rfl (by unfold maxLen; simp)) (nilOk_some _ _ _) l1 (by simp) (Nat.le_trans z1 a2.size) hBb).mono ?_
  rintro e w2 ⟨rfl, h2, b2⟩
  have z2 : B ≤ w2.heap.size := Nat.le_trans (Nat.le_trans z1 a2.size) b2.size
  have c2 := (a2.mono z1).trans b2
  have B2 := B1.trans c2
  clear q2 a2
  go_wp2
  go_end0
  exact ⟨rfl, h2, B2⟩
set_option maxRecDepth 100000 in
set_option maxHeartbeats 2000000 in
theorem do16_any (s : St) (b B : Nat) (w : World) (h : SA w b B s) (hl : s.1.length ≤ 100) (hB : B ≤ w.heap.size) (hBb : B ≤ b) : Calls Tryz.prog 202 #[.pointer (some ⟨b, 0, none⟩), .int .i64 16] w fun e w' => e = .returned (.tuple #[]) ∧ SA w' b B (tk s [2, 1, 1]) ∧ Below B w w' := by
  go_enter Tryz.func202, Tryz.ntmps202
  go_wp2_with fail
  have q1 := World.alloc_heap_new w (.cells #[.int .i64 2, .int .i64 1, .int .i64 1] 3)
  have a1 := (Below.refl w.heap.size w).alloc (Nat.le_refl _) (.cells #[.int .i64 2, .int .i64 1, .int .i64 1] 3)
  refine (tkS_any s [2, 1, 1] b B _ _ (h.kept a1) (ints_lit 3 3 q1 rfl (by unfold maxLen; simp)) hl (by simp) (Nat.le_trans hB a1.size) hBb).mono ?_
  rintro e w1 ⟨rfl, h1, b1⟩
  have l1 : (tk s [2, 1, 1]).1.length ≤ 100 := Nat.le_trans (tk_len _ _) hl
  have z1 : B ≤ w1.heap.size := Nat.le_trans (Nat.le_trans hB a1.size) b1.size
  have c1 := (a1.mono hB).trans b1
  have B1 := c1
  clear q1 a1
  go_wp2
  go_end0
  exact ⟨rfl, h1, B1⟩
set_option maxRecDepth 100000 in
set_option maxHeartbeats 2000000 in
theorem do17_any (s : St) (b B : Nat) (w : World) (h : SA w b B s) (hl : s.1.length ≤ 100) (hB : B ≤ w.heap.size) (hBb : B ≤ b) : Calls Tryz.prog 202 #[.pointer (some ⟨b, 0, none⟩), .int .i64 17] w fun e w' => e = .returned (.tuple #[]) ∧ SA w' b B (lv (tk s [2]) [1]) ∧ Below B w w' := by
  go_enter Tryz.func202, Tryz.ntmps202
  go_wp2_with fail
  have q1 := World.alloc_heap_new w (.cells #[.int .i64 2] 3)
  have a1 := (Below.refl w.heap.size w).alloc (Nat.le_refl _) (.cells #[.int .i64 2] 3)
  refine (tkS_any s [2] b B _ _ (h.kept a1) (ints_lit 1 1 q1 rfl (by unfold maxLen; simp)) hl (by simp) (Nat.le_trans hB a1.size) hBb).mono ?_
  rintro e w1 ⟨rfl, h1, b1⟩
  have l1 : (tk s [2]).1.length ≤ 100 := Nat.le_trans (tk_len _ _) hl
  have z1 : B ≤ w1.heap.size := Nat.le_trans (Nat.le_trans hB a1.size) b1.size
  have c1 := (a1.mono hB).trans b1
  have B1 := c1
  clear q1 a1
  go_wp2_with fail
  have q2 := World.alloc_heap_new w1 (.cells #[.int .i64 1] 3)
  have a2 := (Below.refl w1.heap.size w1).alloc (Nat.le_refl _) (.cells #[.int .i64 1] 3)
  refine (lvS_any (tk s [2]) [1] b B _ _ (h1.kept a2) (ints_lit 1 1 q2 rfl (by unfold maxLen; simp)) (nilOk_some _ _ _) l1 (by simp) (Nat.le_trans z1 a2.size) hBb).mono ?_
  rintro e w2 ⟨rfl, h2, b2⟩
  have z2 : B ≤ w2.heap.size := Nat.le_trans (Nat.le_trans z1 a2.size) b2.size
  have c2 := (a2.mono z1).trans b2
  have B2 := B1.trans c2
  clear q2 a2
  go_wp2
  go_end0
  exact ⟨rfl, h2, B2⟩
set_option maxRecDepth 100000 in
set_option maxHeartbeats 2000000 in
theorem do19_any (s : St) (b B : Nat) (w : World) (h : SA w b B s) (hl : s.1.length ≤ 100) (hB : B ≤ w.heap.size) (hBb : B ≤ b) : Calls Tryz.prog 202 #[.pointer (some ⟨b, 0, none⟩), .int .i64 19] w fun e w' => e = .returned (.tuple #[]) ∧ SA w' b B (lv (tk s [2]) [1]) ∧ Below B w w' := by
  go_enter Tryz.func202, Tryz.ntmps202
  go_wp2_with fail
  have q1 := World.alloc_heap_new w (.cells #[.int .i64 2] 3)
  have a1 := (Below.refl w.heap.size w).alloc (Nat.le_refl _) (.cells #[.int .i64 2] 3)
  refine (tkS_any s [2] b B _ _ (h.kept a1) (ints_lit 1 1 q1 rfl (by unfold maxLen; simp)) hl (by simp) (Nat.le_trans hB a1.size) hBb).mono ?_
  rintro e w1 ⟨rfl, h1, b1⟩
  have l1 : (tk s [2]).1.length ≤ 100 := Nat.le_trans (tk_len _ _) hl
  have z1 : B ≤ w1.heap.size := Nat.le_trans (Nat.le_trans hB a1.size) b1.size
  have c1 := (a1.mono hB).trans b1
  have B1 := c1
  clear q1 a1
  go_wp2_with fail
  have q2 := World.alloc_heap_new w1 (.cells #[.int .i64 1] 3)
  have a2 := (Below.refl w1.heap.size w1).alloc (Nat.le_refl _) (.cells #[.int .i64 1] 3)
  refine (lvS_any (tk s [2]) [1] b B _ _ (h1.kept a2) (ints_lit 1 1 q2 rfl (by unfold maxLen; simp)) (nilOk_some _ _ _) l1 (by simp) (Nat.le_trans z1 a2.size) hBb).mono ?_
  rintro e w2 ⟨rfl, h2, b2⟩
  have z2 : B ≤ w2.heap.size := Nat.le_trans (Nat.le_trans z1 a2.size) b2.size
  have c2 := (a2.mono z1).trans b2
  have B2 := B1.trans c2
  clear q2 a2
  go_wp2
  go_end0
  exact ⟨rfl, h2, B2⟩
set_option maxRecDepth 100000 in
set_option maxHeartbeats 2000000 in
theorem do18_any (s : St) (b B : Nat) (w : World) (h : SA w b B s) (hl : s.1.length ≤ 100) (hB : B ≤ w.heap.size) (hBb : B ≤ b) : Calls Tryz.prog 202 #[.pointer (some ⟨b, 0, none⟩), .int .i64 18] w fun e w' => e = .returned (.tuple #[]) ∧ SA w' b B (lv s [3]) ∧ Below B w w' := by
  go_enter Tryz.func202, Tryz.ntmps202
  go_wp2_with fail
  have q1 := World.alloc_heap_new w (.cells #[.int .i64 3] 3)
  have a1 := (Below.refl w.heap.size w).alloc (Nat.le_refl _) (.cells #[.int .i64 3] 3)
  refine (lvS_any s [3] b B _ _ (h.kept a1) (ints_lit 1 1 q1 rfl (by unfold maxLen; simp)) (nilOk_some _ _ _) hl (by simp) (Nat.le_trans hB a1.size) hBb).mono ?_
  rintro e w1 ⟨rfl, h1, b1⟩
  have z1 : B ≤ w1.heap.size := Nat.le_trans (Nat.le_trans hB a1.size) b1.size
  have c1 := (a1.mono hB).trans b1
  have B1 := c1
  clear q1 a1
  go_wp2
  go_end0
  exact ⟨rfl, h1, B1⟩
set_option maxRecDepth 100000 in
set_option maxHeartbeats 2000000 in
theorem do10_any (s : St) (b B : Nat) (w : World) (h : SA w b B s) (hl : s.1.length ≤ 100) (hB : B ≤ w.heap.size) (hBb : B ≤ b) : Calls Tryz.prog 202 #[.pointer (some ⟨b, 0, none⟩), .int .i64 10] w fun e w' => e = .returned (.tuple #[]) ∧ SA w' b B (s) ∧ Below B w w' := by
  go_enter Tryz.func202, Tryz.ntmps202
  go_wp2
  go_end0
  exact ⟨rfl, h, Below.refl _ _⟩
/-- what 'do' makes of a stack. -/
def doS (s : St) (c : Int) : St := if (plainTL c).2 = [] then tk s (plainTL c).1 else lv (tk s (plainTL c).1) (plainTL c).2
theorem tk_nil (s : St) : tk s [] = s := rfl
theorem do_any (c : Int) (hc : 1 ≤ c ∧ c ≤ 21) (hne : c ≠ 2 ∧ c ≠ 3 ∧ c ≠ 4 ∧ c ≠ 8 ∧ c ≠ 9 ∧ c ≠ 12 ∧ c ≠ 13) (s : St) (b B : Nat) (w : World) (h : SA w b B s) (hl : s.1.length ≤ 100) (hB : B ≤ w.heap.size) (hBb : B ≤ b) : Calls Tryz.prog 202 #[.pointer (some ⟨b, 0, none⟩), .int .i64 c] w fun e w' => e = .returned (.tuple #[]) ∧ SA w' b B (doS s c) ∧ Below B w w' := by
  have hall : c = 1 ∨ c = 5 ∨ c = 6 ∨ c = 7 ∨ c = 10 ∨ c = 11 ∨ c = 14 ∨ c = 15 ∨ c = 16 ∨ c = 17 ∨ c = 18 ∨ c = 19 ∨ c = 20 ∨ c = 21 := by omega
  rcases hall with rfl | rfl | rfl | rfl | rfl | rfl | rfl | rfl | rfl | rfl | rfl | rfl | rfl | rfl
  · exact do1_any s b B w h hl hB hBb
  · exact do5_any s b B w h hl hB hBb
  · exact do6_any s b B w h hl hB hBb
  · exact do7_any s b B w h hl hB hBb
  · exact do10_any s b B w h hl hB hBb
  · exact do11_any s b B w h hl hB hBb
  · exact do14_any s b B w h hl hB hBb
  · exact do15_any s b B w h hl hB hBb
  · exact do16_any s b B w h hl hB hBb
  · exact do17_any s b B w h hl hB hBb
  · exact do18_any s b B w h hl hB hBb
  · exact do19_any s b B w h hl hB hBb
  · exact do20_any s b B w h hl hB hBb
  · exact do21_any s b B w h hl hB hBb
end Go.Proofs.YtcadpoknolefpaaGreat
/- verify's stack: call; verify.behind. -/
namespace Go.Proofs.YtcadpoknolefpaaGreat
open Go.RowKit
set_option linter.unusedSimpArgs false
set_option linter.unusedVariables false
theorem ints_take {w : World} {p : Option Addr} {q k : Nat} {L : List Int} (h : IntsAt w (.slice p L.length q) L) (hk : k ≤ L.length) : IntsAt w (.slice p k q) (L.take k) := by
  obtain ⟨p', q', he, hm, hc⟩ := h
  cases he
  refine ⟨p, q, by rw [List.length_take, Nat.min_eq_left hk], by rw [List.length_take]; omega, fun j z hj => ?_⟩
  have hj2 : j < k := by have := lt_of_at hj; rw [List.length_take] at this; omega
  rw [List.getElem?_take_of_lt hj2] at hj
  exact hc j z hj
set_option maxRecDepth 100000 in
set_option maxHeartbeats 2000000 in
theorem call_any (g : Fn) (c0 c1 c2 c3 : Value) (s : St) (b B : Nat) (w : World) (h : SA w b B s) (hl : s.1.length ≤ 100) (hB : B ≤ w.heap.size) (hBb : B ≤ b) (hg : FnAt w c0 c1 c2 c3 g) (hP : 0 ≤ g.1 ∧ g.1 ≤ (g.2.1.length : Int)) (h6 : g.2.1.length ≤ 6) (hcap : ∀ p n c, c1 = .slice p n c → n ≤ c) : Calls Tryz.prog 200 #[.pointer (some ⟨b, 0, none⟩), .agg #[c0, c1, c2, c3]] w fun e w' => e = .returned (.tuple #[]) ∧ SA w' b B (lv (tk s (g.2.1.take g.1.toNat)) (resL g)) ∧ Below B w w' := by
  obtain ⟨P, L, r, C⟩ := g
  have hg' := hg
  obtain ⟨rfl, hI, rfl, hO⟩ := hg'
  simp only at hP h6 hI hO
  obtain ⟨p1, q1, rfl, _, _⟩ := id hI
  obtain ⟨p3, q3, rfl, _, _⟩ := id hO
  obtain ⟨k, rfl⟩ : ∃ k : Nat, P = k := ⟨P.toNat, by omega⟩
  have hk : k ≤ L.length := by omega
  have hq1 : k ≤ q1 := by have := hcap _ _ _ rfl; omega
  obtain ⟨W1, hW1⟩ : ∃ W1, w.alloc (.cells #[.int .i64 k, .slice p1 L.length q1, .int .i64 r, .slice p3 C.length q3] 78) = W1 := ⟨_, rfl⟩
  have hw1 : Below w.heap.size w W1 := by rw [← hW1]; exact (Below.refl _ w).alloc (Nat.le_refl _) _
  have hh : W1.heap[w.heap.size]? = some (.cells #[.int .i64 k, .slice p1 L.length q1, .int .i64 r, .slice p3 C.length q3] 78 (0, 0)) := by rw [← hW1]; exact World.alloc_heap_new w _
  have d0 := cell_at' hh 0
  have d1 := cell_at' hh 1
  have d2 := cell_at' hh 2
  have d3 := cell_at' hh 3
  simp at d0 d1 d2 d3
  have hz := heap_lt hh
  have HI1 := hideP (ints_take (hI.below hw1) hk)
  have HS1 := hideP (h.kept hw1)
  have HG1 := hideP (hg.below hw1)
  have hB1 : B ≤ W1.heap.size := Nat.le_trans hB hw1.size
  have hlt : (L.take k).length ≤ 100 := by rw [List.length_take]; omega
  have HH := hideP hh
  have e0 : ((k : Nat) : Int).toNat = k := by omega
  simp only [e0]
  have hblt := StAt.lt h
  clear h hg hI hO hh e0 hP hcap
  go_enter Tryz.func200, Tryz.ntmps200
  have hbl : b < w.heap.size := hblt
  go_wp2_with fail
  have hlen : (L.take k).length = k := by rw [List.length_take, Nat.min_eq_left hk]
  have hI1 := HI1.out
  rw [← hlen] at hI1
  have htk := vTake_any s.1 (L.take k) s.2 b B p1 q1 W1 HS1.out (by rw [hlen]; rw [hlen] at hI1; exact hI1) hB1 hBb hl hlt
  rw [hlen] at htk
  have HTK := hideP htk
  clear hI1 htk
  refine HTK.out.mono ?_
  rintro e w2 ⟨rfl, hs2, hg2⟩
  have hS2 : SA w2 b B (tk s (L.take k)) := by
    have := hs2
    rw [← hlen] at this
    unfold SA tk
    rw [hlen] at this ⊢
    exact this
  have hl2 := Nat.le_trans (tk_len s (L.take k)) hl
  have hB2 : B ≤ w2.heap.size := Nat.le_trans hB1 hg2.size
  have hne : (some w.heap.size : Option Nat) ≠ some b := fun e => by have e2 : w.heap.size = b := (by simpa using e); omega
  have g0 := hg2.cell d0 hne
  have g1 := hg2.cell d1 hne
  have g2 := hg2.cell d2 hne
  have g3 := hg2.cell d3 hne
  have hBel2 : Below B W1 w2 := (Below.refl B W1).grown hg2 hB1 (fun k hk => by cases hk; exact hBb)
  clear hs2
  go_wp2_with fail
  refine (result_raw k r p1 p3 L.length q1 C.length q3 w2).mono ?_
  rintro e w3 ⟨u, rfl, hr3, hb3⟩
  have hR3 : w3.ownsRow w2.heap.size 3 1 u (resL (k, L, r, C)).length ((resL (k, L, r, C)).map (Value.int .i64)) := hr3
  have hrl : (resL ((k : Int), L, r, C)).length ≤ 100 := by unfold resL; split <;> simp
  have HR3 := hideP (intsAt_of_row rfl hR3)
  have HN3 := hideP (nilOk_row hR3)
  have hS3 := hS2.kept hb3
  have hB3 : B ≤ w3.heap.size := Nat.le_trans hB2 hb3.size
  clear hr3 hR3
  go_wp2_with fail
  refine (lvS_any _ _ b B u w3 hS3 HR3.out HN3.out hl2 hrl hB3 hBb).mono ?_
  rintro e w4 ⟨rfl, hs4, hb4⟩
  go_wp2
  go_end0
  exact ⟨rfl, hs4, (hw1.mono hB).trans (hBel2.trans ((hb3.mono hB2).trans hb4))⟩
end Go.Proofs.YtcadpoknolefpaaGreat
