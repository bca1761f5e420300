/- verify's stack: leave, result; slices.Clone at numbers. -/
import Derived.Test.YtenaionchlnpoabJc
import Derived.Lib.SliceRun
namespace Go.Proofs.Ytenaionchlnpoab
open Go.RowKit
set_option linter.unusedSimpArgs false
set_option linter.unusedVariables false
theorem wpList_append_ints {w : World} {ops : Array Oper} {rest : List Oper} {o : Oper} {a : Act} {Q : Exit → Act → World → Prop} (hgd : o.guard = none) (s x : Operand)
    (ho : o.op = .call { callee := .builtin .append, args := #[s, x], argTypes := #[23, 23] }) (base : Nat)
    (v : Value) (n : Nat) (xs : List Value) (hs : a.eval s = v) (hown : w.ownsRow base 3 1 v n xs)
    (u : Value) (l : List Int) (hx : a.eval x = u) (hu : IntsAt w u l) (hnil : NilOk u)
    (h63 : n + l.length ≤ maxLen) (hbytes : (n + l.length) * 8 ≤ 140737488355328) (hbase : base ≤ w.heap.size)
    (h : ∀ v' w', w'.ownsRow base 3 1 v' (n + l.length) (xs ++ l.map (Value.int .i64)) → w.grownBy w' v.ownBlock → wpList Try.prog ops Q rest (a.put o.dst v') w') : wpList Try.prog ops Q (o :: rest) a w := by
  obtain ⟨i0, hi, hz0, hz1, hz2⟩ := info_parts infoInt
  have hu' := hu
  obtain ⟨p, cap, rfl, hm, hc⟩ := hu'
  cases p with
  | none =>
    have hl : l = [] := by
      cases l with
      | nil => rfl
      | cons o r => obtain ⟨b, off, hb, _⟩ := hc 0 o rfl; cases hb
    subst hl
    have hcap : cap = 0 := hnil _ _ rfl
    subst hcap
    exact wpList_append_own_none hgd s x 23 ho base 3 i0 1 Try.underlying23 hi v n xs hs hown hx (h v w (by simpa using hown) (World.grownBy.refl _ _))
  | some ad =>
    refine wpList_append_own w hgd s x 23 ho base 3 i0 (.int .i64 0) 1 8 Try.underlying23 hi hz0 hz1 hz2 rfl (by decide) v n xs hs hown ad l.length cap (l.map (Value.int .i64)) hx (by simp)
      (fun j u hj => ?_) (fun u hu => by obtain ⟨z, _, rfl⟩ := List.mem_map.1 hu; rfl) h63 hbytes hbase (fun v' w' h1 h2 _ => h v' w' h1 h2)
    rw [List.getElem?_map] at hj
    obtain ⟨z, hz, rfl⟩ := Option.map_eq_some_iff.1 hj
    obtain ⟨b, off, hb, _, hcell⟩ := hc j z hz
    cases hb
    rw [add_at]
    exact hcell
theorem nilOk_row {W : World} {B : Nat} {v : Value} {n : Nat} {xs : List Value} {e : TypeId} {k : Nat} (h : W.ownsRow B e k v n xs) : NilOk v := by
  intro m c hv
  rcases h.2 with ⟨rfl, _⟩ | ⟨g, cap, cur, rfl, _⟩
  · cases hv; rfl
  · cases hv
theorem nilOk_some (a : Addr) (n c : Nat) : NilOk (.slice (some a) n c) := fun m d h => by cases h
theorem nilOk_nil : NilOk (.slice none 0 0) := fun m d h => by cases h; rfl
set_option maxRecDepth 100000 in
set_option maxHeartbeats 2000000 in
theorem leave_any (l ts : List Int) (wr : Bool) (b B : Nat) (u : Value) (w : World) (h : StAt w b B l wr) (hu : IntsAt w u ts) (hn : NilOk u) (hB : B ≤ w.heap.size) (hBb : B ≤ b) (hl : l.length ≤ 100) (ht : ts.length ≤ 100) : Calls Try.prog 74 #[.pointer (some ⟨b, 0, none⟩), u] w fun e w' => e = .returned (.tuple #[]) ∧ StAt w' b B (l ++ ts) (wr || decide (8 < (l ++ ts).length)) ∧ Below B w w' := by
  obtain ⟨v, h1, h2⟩ := h
  have c0 := cell_at' h1 0
  have c1 := cell_at' h1 1
  have z0 := Lib.frozen_of_heap h1 0
  have z1 := Lib.frozen_of_heap h1 1
  simp at c0 c1
  have hlt := heap_lt h1
  have hvb := stack_not_row h1 h2
  obtain ⟨p, c, hv⟩ := row_shp h2
  obtain ⟨p', c', hu1, _, _⟩ := id hu
  have H1 := hideP h1
  have H2 := hideP h2
  have HU := hideP hu
  have HN := hideP hn
  subst hv hu1
  clear h1 h2 hu hn
  cases wr
  · go_enter Try.func74, Try.ntmps74
    go_wp2_with (at_builtin; refine wpList_append_ints rfl _ _ rfl B _ _ _ rfl H2.out _ ts rfl HU.out HN.out (by unfold maxLen; omega) (by omega) hB ?_; intro v2 w2 hown2 hg2; have q2 := (hg2.block _ hlt (fun e => hvb e.symm)).trans H1.out; have d0 := cell_at' q2 0; have d1 := cell_at' q2 1; have y0 := Lib.frozen_of_heap q2 0; have y1 := Lib.frozen_of_heap q2 1; have Q2 := hideP q2; have HO2 := hideP hown2; obtain ⟨p2, c2, hv2⟩ := row_shp hown2; subst hv2; clear q2 hown2; simp at d0 d1)
    go_end0
    have s1 := heap_setCell_same w2 b 0 _ _ (.slice p2 (l.length + ts.length) c2) Q2.out
    have s2 := heap_setCell_same _ b 1 _ _ (.bool (decide ((8 : Int) < (l.length : Int) + (ts.length : Int)))) s1
    have hgA := (set_grown w2 ⟨b, 0, none⟩ (.slice p2 (l.length + ts.length) c2)).trans (set_grown _ ⟨b, 1, none⟩ (.bool (decide ((8 : Int) < (l.length : Int) + (ts.length : Int)))))
    have hd : decide ((8 : Int) < (l.length : Int) + (ts.length : Int)) = decide (8 < (l ++ ts).length) := by
      rw [Bool.eq_iff_iff, decide_eq_true_iff, decide_eq_true_iff, List.length_append]; omega
    refine ⟨rfl, ?_, ?_⟩
    · rw [Bool.false_or, ← hd]
      refine StAt.set (l := l ++ ts) Q2.out (by simpa using s2) ?_ hgA
      have := HO2.out
      rw [List.length_append, List.map_append]
      exact this
    · have hb0 : Below B w w2 := (Below.refl B w).grown hg2 hB (fun k hk => (H2.out.lt k hk).1)
      exact hb0.grown hgA (Nat.le_trans hB hg2.size) (fun k hk => by cases hk; exact hBb)
  · go_enter Try.func74, Try.ntmps74
    go_wp2_with (at_builtin; refine wpList_append_ints rfl _ _ rfl B _ _ _ rfl H2.out _ ts rfl HU.out HN.out (by unfold maxLen; omega) (by omega) hB ?_; intro v2 w2 hown2 hg2; have q2 := (hg2.block _ hlt (fun e => hvb e.symm)).trans H1.out; have d0 := cell_at' q2 0; have d1 := cell_at' q2 1; have y0 := Lib.frozen_of_heap q2 0; have y1 := Lib.frozen_of_heap q2 1; have Q2 := hideP q2; have HO2 := hideP hown2; obtain ⟨p2, c2, hv2⟩ := row_shp hown2; subst hv2; clear q2 hown2; simp at d0 d1)
    go_end0
    have s1 := heap_setCell_same w2 b 0 _ _ (.slice p2 (l.length + ts.length) c2) Q2.out
    have s2 := heap_setCell_same _ b 1 _ _ (.bool true) s1
    have hgA := (set_grown w2 ⟨b, 0, none⟩ (.slice p2 (l.length + ts.length) c2)).trans (set_grown _ ⟨b, 1, none⟩ (.bool true))
    refine ⟨rfl, ?_, ?_⟩
    · rw [Bool.true_or]
      refine StAt.set (l := l ++ ts) Q2.out (by simpa using s2) ?_ hgA
      have := HO2.out
      rw [List.length_append, List.map_append]
      exact this
    · have hb0 : Below B w w2 := (Below.refl B w).grown hg2 hB (fun k hk => (H2.out.lt k hk).1)
      exact hb0.grown hgA (Nat.le_trans hB hg2.size) (fun k hk => by cases hk; exact hBb)
set_option maxRecDepth 100000 in
set_option maxHeartbeats 1000000 in
theorem cloneInt_any (l : List Int) (v : Value) (w : World) (h : IntsAt w v l) (hn : NilOk v) (hl : l.length ≤ 100) : Calls Try.prog 64 #[v] w fun e w' => ∃ u, e = .returned u ∧ w'.ownsRow w.heap.size 3 1 u l.length (l.map (Value.int .i64)) ∧ Below w.heap.size w w' := by
  have h' := h
  obtain ⟨p, c, rfl, hm, hc⟩ := h'
  cases p with
  | none =>
    have hl0 : l = [] := by
      cases l with
      | nil => rfl
      | cons o r => obtain ⟨b, off, hb, _⟩ := hc 0 o rfl; cases hb
    subst hl0
    clear hc h
    have heq := fun W => Lib.run_eql_slice_nil (P := Try.prog) W 23 3 none 0 c 0 0 Try.underlying23
    go_enter Try.func64, Try.ntmps64
    go_wp2
    go_ret
    exact ⟨_, rfl, World.ownsRow_nil _ _ _ _, Below.refl _ _⟩
  | some ad =>
    have hB := (Below.refl w.heap.size w).alloc (Nat.le_refl _) (.cells #[] 3)
    have hrow := World.ownsRow_made (base := w.heap.size) (e := 3) (size := 1) w #[] 0 (Nat.le_refl _) (by unfold maxLen; omega) rfl
    have HU := hideP (h.below hB)
    have heq := fun W => Lib.run_eql_slice_nil (P := Try.prog) W 23 3 (some ad) l.length c 0 0 Try.underlying23
    clear hc h
    go_enter Try.func64, Try.ntmps64
    go_wp2_with (at_builtin; refine wpList_append_ints rfl _ _ rfl w.heap.size _ _ _ rfl hrow _ l rfl HU.out (nilOk_some _ _ _) (by unfold maxLen; omega) (by omega) (by simp) ?_; intro v2 w2 hown2 hg2; have HO2 := hideP hown2; clear hown2)
    go_ret
    refine ⟨_, rfl, ?_, hB.grown hg2 (by simp) (fun k hk => (hrow.lt k hk).1)⟩
    have := HO2.out
    simpa using this
set_option maxHeartbeats 1000000 in
theorem result_raw (P r : Int) (p1 p3 : Option Addr) (n1 q1 n3 q3 : Nat) (w : World) : Calls Try.prog 77 #[.agg #[.int .i64 P, .slice p1 n1 q1, .int .i64 r, .slice p3 n3 q3]] w fun e w' => ∃ u, e = .returned u ∧ w'.ownsRow w.heap.size 3 1 u (if r = 0 then [] else [r]).length ((if r = 0 then [] else [r]).map (Value.int .i64)) ∧ Below w.heap.size w w' := by
  have hw : Below w.heap.size w (w.alloc (.cells #[.int .i64 P, .slice p1 n1 q1, .int .i64 r, .slice p3 n3 q3] 59)) := (Below.refl _ w).alloc (Nat.le_refl _) _
  by_cases h0 : r = 0
  · subst h0
    go_enter Try.func77, Try.ntmps77
    go_wp2
    go_ret
    exact ⟨_, rfl, World.ownsRow_nil _ _ _ _, hw⟩
  · have h0' : (r == 0) = false := by simp [h0]
    have e1 : (if r = 0 then [] else [r]) = [r] := if_neg h0
    rw [e1]
    clear h0 e1
    go_enter Try.func77, Try.ntmps77
    go_wp2
    go_ret
    refine ⟨_, rfl, row_low (one_row (new_two w _ _)) (by omega), hw.alloc (by simp) _⟩
end Go.Proofs.Ytenaionchlnpoab

