/- My texts Jd Fg Pb Ba Bb Je, joined. -/
import Derived.Lib.SliceRun
import Derived.Laws.EntriesVeiled
import Derived.Test.YtcadpoknolefpaaGreatU1
import Derived.Test.YtcadpoknolefpaaGreatU2
import Derived.Test.YtcadpoknolefpaaGreatU6
/- verify's stack: leave, result; slices.Clone at numbers. -/
namespace Go.Proofs.YtcadpoknolefpaaGreat
open Go.RowKit
set_option linter.unusedSimpArgs false
set_option linter.unusedVariables false
theorem wpList_append_ints {w : World} {ops : Array Oper} {rest : List Oper} {o : Oper} {a : Act} {Q : Exit → Act → World → Prop} (hgd : o.guard = none) (s x : Operand)
    (ho : o.op = .call { callee := .builtin .append, args := #[s, x], argTypes := #[27, 27] }) (base : Nat)
    (v : Value) (n : Nat) (xs : List Value) (hs : a.eval s = v) (hown : w.ownsRow base 3 1 v n xs)
    (u : Value) (l : List Int) (hx : a.eval x = u) (hu : IntsAt w u l) (hnil : NilOk u)
    (h63 : n + l.length ≤ maxLen) (hbytes : (n + l.length) * 8 ≤ 140737488355328) (hbase : base ≤ w.heap.size)
    (h : ∀ v' w', w'.ownsRow base 3 1 v' (n + l.length) (xs ++ l.map (Value.int .i64)) → w.grownBy w' v.ownBlock → wpList Tryz.prog ops Q rest (a.put o.dst v') w') : wpList Tryz.prog ops Q (o :: rest) a w := by
  obtain ⟨i0, hi, hz0, hz1, hz2⟩ := info_parts infoInt
  have hu' := hu
  obtain ⟨p, cap, rfl, hm, hc⟩ := hu'
  cases p with
  | none =>
    have hl : l = [] := by
      cases l with
      | nil => rfl
      | cons o r => obtain ⟨b, off, hb, _⟩ := hc 0 o rfl; cases hb
    subst hl
    have hcap : cap = 0 := hnil _ _ rfl
    subst hcap
    exact wpList_append_own_none hgd s x 27 ho base 3 i0 1 Tryz.underlying27 hi v n xs hs hown hx (h v w (by simpa using hown) (World.grownBy.refl _ _))
  | some ad =>
    refine wpList_append_own w hgd s x 27 ho base 3 i0 (.int .i64 0) 1 8 Tryz.underlying27 hi hz0 hz1 hz2 rfl (by decide) v n xs hs hown ad l.length cap (l.map (Value.int .i64)) hx (by simp)
      (fun j u hj => ?_) (fun u hu => by obtain ⟨z, _, rfl⟩ := List.mem_map.1 hu; rfl) h63 hbytes hbase (fun v' w' h1 h2 _ => h v' w' h1 h2)
    rw [List.getElem?_map] at hj
    obtain ⟨z, hz, rfl⟩ := Option.map_eq_some_iff.1 hj
    obtain ⟨b, off, hb, _, hcell⟩ := hc j z hz
    cases hb
    rw [add_at]
    exact hcell
theorem nilOk_row {W : World} {B : Nat} {v : Value} {n : Nat} {xs : List Value} {e : TypeId} {k : Nat} (h : W.ownsRow B e k v n xs) : NilOk v := by
  intro m c hv
  rcases h.2 with ⟨rfl, _⟩ | ⟨g, cap, cur, rfl, _⟩
  · cases hv; rfl
  · cases hv
theorem nilOk_some (a : Addr) (n c : Nat) : NilOk (.slice (some a) n c) := fun m d h => by cases h
theorem nilOk_nil : NilOk (.slice none 0 0) := fun m d h => by cases h; rfl
set_option maxRecDepth 100000 in
set_option maxHeartbeats 2000000 in
theorem leave_any (l ts : List Int) (wr : Bool) (b B : Nat) (u : Value) (w : World) (h : StAt w b B l wr) (hu : IntsAt w u ts) (hn : NilOk u) (hB : B ≤ w.heap.size) (hBb : B ≤ b) (hl : l.length ≤ 100) (ht : ts.length ≤ 100) : Calls Tryz.prog 198 #[.pointer (some ⟨b, 0, none⟩), u] w fun e w' => e = .returned (.tuple #[]) ∧ StAt w' b B (l ++ ts) (wr || decide (8 < (l ++ ts).length)) ∧ Below B w w' := by
  obtain ⟨v, h1, h2⟩ := h
  have c0 := cell_at' h1 0
  have c1 := cell_at' h1 1
  have z0 := Lib.frozen_of_heap h1 0
  have z1 := Lib.frozen_of_heap h1 1
  simp at c0 c1
  have hlt := heap_lt h1
  have hvb := stack_not_row h1 h2
  obtain ⟨p, c, hv⟩ := row_shp h2
  obtain ⟨p', c', hu1, _, _⟩ := id hu
  have H1 := hideP h1
  have H2 := hideP h2
  have HU := hideP hu
  have HN := hideP hn
  subst hv hu1
  clear h1 h2 hu hn
  cases wr
  · go_enter Tryz.func198, Tryz.ntmps198
    go_wp2_with (at_builtin; refine wpList_append_ints rfl _ _ rfl B _ _ _ rfl H2.out _ ts rfl HU.out HN.out (by unfold maxLen; omega) (by omega) hB ?_; intro v2 w2 hown2 hg2; have q2 := (hg2.block _ hlt (fun e => hvb e.symm)).trans H1.out; have d0 := cell_at' q2 0; have d1 := cell_at' q2 1; have y0 := Lib.frozen_of_heap q2 0; have y1 := Lib.frozen_of_heap q2 1; have Q2 := hideP q2; have HO2 := hideP hown2; obtain ⟨p2, c2, hv2⟩ := row_shp hown2; subst hv2; clear q2 hown2; simp at d0 d1)
    go_end0
    have s1 := heap_setCell_same w2 b 0 _ _ (.slice p2 (l.length + ts.length) c2) Q2.out
    have s2 := heap_setCell_same _ b 1 _ _ (.bool (decide ((8 : Int) < (l.length : Int) + (ts.length : Int)))) s1
    have hgA := (set_grown w2 ⟨b, 0, none⟩ (.slice p2 (l.length + ts.length) c2)).trans (set_grown _ ⟨b, 1, none⟩ (.bool (decide ((8 : Int) < (l.length : Int) + (ts.length : Int)))))
    have hd : decide ((8 : Int) < (l.length : Int) + (ts.length : Int)) = decide (8 < (l ++ ts).length) := by
      rw [Bool.eq_iff_iff, decide_eq_true_iff, decide_eq_true_iff, List.length_append]; omega
    refine ⟨rfl, ?_, ?_⟩
    · rw [Bool.false_or, ← hd]
      refine StAt.set (l := l ++ ts) Q2.out (by simpa using s2) ?_ hgA
      have := HO2.out
      rw [List.length_append, List.map_append]
      exact this
    · have hb0 : Below B w w2 := (Below.refl B w).grown hg2 hB (fun k hk => (H2.out.lt k hk).1)
      exact hb0.grown hgA (Nat.le_trans hB hg2.size) (fun k hk => by cases hk; exact hBb)
  · go_enter Tryz.func198, Tryz.ntmps198
    go_wp2_with (at_builtin; refine wpList_append_ints rfl _ _ rfl B _ _ _ rfl H2.out _ ts rfl HU.out HN.out (by unfold maxLen; omega) (by omega) hB ?_; intro v2 w2 hown2 hg2; have q2 := (hg2.block _ hlt (fun e => hvb e.symm)).trans H1.out; have d0 := cell_at' q2 0; have d1 := cell_at' q2 1; have y0 := Lib.frozen_of_heap q2 0; have y1 := Lib.frozen_of_heap q2 1; have Q2 := hideP q2; have HO2 := hideP hown2; obtain ⟨p2, c2, hv2⟩ := row_shp hown2; subst hv2; clear q2 hown2; simp at d0 d1)
    go_end0
    have s1 := heap_setCell_same w2 b 0 _ _ (.slice p2 (l.length + ts.length) c2) Q2.out
    have s2 := heap_setCell_same _ b 1 _ _ (.bool true) s1
    have hgA := (set_grown w2 ⟨b, 0, none⟩ (.slice p2 (l.length + ts.length) c2)).trans (set_grown _ ⟨b, 1, none⟩ (.bool true))
    refine ⟨rfl, ?_, ?_⟩
    · rw [Bool.true_or]
      refine StAt.set (l := l ++ ts) Q2.out (by simpa using s2) ?_ hgA
      have := HO2.out
      rw [List.length_append, List.map_append]
      exact this
    · have hb0 : Below B w w2 := (Below.refl B w).grown hg2 hB (fun k hk => (H2.out.lt k hk).1)
      exact hb0.grown hgA (Nat.le_trans hB hg2.size) (fun k hk => by cases hk; exact hBb)
set_option maxRecDepth 100000 in
set_option maxHeartbeats 1000000 in
theorem cloneInt_any (l : List Int) (v : Value) (w : World) (h : IntsAt w v l) (hn : NilOk v) (hl : l.length ≤ 100) : Calls Tryz.prog 86 #[v] w fun e w' => ∃ u, e = .returned u ∧ w'.ownsRow w.heap.size 3 1 u l.length (l.map (Value.int .i64)) ∧ Below w.heap.size w w' := by
  have h' := h
  obtain ⟨p, c, rfl, hm, hc⟩ := h'
  cases p with
  | none =>
    have hl0 : l = [] := by
      cases l with
      | nil => rfl
      | cons o r => obtain ⟨b, off, hb, _⟩ := hc 0 o rfl; cases hb
    subst hl0
    clear hc h
    have heq := fun W => Lib.run_eql_slice_nil (P := Tryz.prog) W 27 3 none 0 c 0 0 Tryz.underlying27
    go_enter Tryz.func86, Tryz.ntmps86
    go_wp2
    go_ret
    exact ⟨_, rfl, World.ownsRow_nil _ _ _ _, Below.refl _ _⟩
  | some ad =>
    have hB := (Below.refl w.heap.size w).alloc (Nat.le_refl _) (.cells #[] 3)
    have hrow := World.ownsRow_made (base := w.heap.size) (e := 3) (size := 1) w #[] 0 (Nat.le_refl _) (by unfold maxLen; omega) rfl
    have HU := hideP (h.below hB)
    have heq := fun W => Lib.run_eql_slice_nil (P := Tryz.prog) W 27 3 (some ad) l.length c 0 0 Tryz.underlying27
    clear hc h
    go_enter Tryz.func86, Tryz.ntmps86
    go_wp2_with (at_builtin; refine wpList_append_ints rfl _ _ rfl w.heap.size _ _ _ rfl hrow _ l rfl HU.out (nilOk_some _ _ _) (by unfold maxLen; omega) (by omega) (by simp) ?_; intro v2 w2 hown2 hg2; have HO2 := hideP hown2; clear hown2)
    go_ret
    refine ⟨_, rfl, ?_, hB.grown hg2 (by simp) (fun k hk => (hrow.lt k hk).1)⟩
    have := HO2.out
    simpa using this
set_option maxHeartbeats 1000000 in
theorem result_raw (P r : Int) (p1 p3 : Option Addr) (n1 q1 n3 q3 : Nat) (w : World) : Calls Tryz.prog 201 #[.agg #[.int .i64 P, .slice p1 n1 q1, .int .i64 r, .slice p3 n3 q3]] w fun e w' => ∃ u, e = .returned u ∧ w'.ownsRow w.heap.size 3 1 u (if r = 0 then [] else [r]).length ((if r = 0 then [] else [r]).map (Value.int .i64)) ∧ Below w.heap.size w w' := by
  have hw : Below w.heap.size w (w.alloc (.cells #[.int .i64 P, .slice p1 n1 q1, .int .i64 r, .slice p3 n3 q3] 78)) := (Below.refl _ w).alloc (Nat.le_refl _) _
  by_cases h0 : r = 0
  · subst h0
    go_enter Tryz.func201, Tryz.ntmps201
    go_wp2
    go_ret
    exact ⟨_, rfl, World.ownsRow_nil _ _ _ _, hw⟩
  · have h0' : (r == 0) = false := by simp [h0]
    have e1 : (if r = 0 then [] else [r]) = [r] := if_neg h0
    rw [e1]
    clear h0 e1
    go_enter Tryz.func201, Tryz.ntmps201
    go_wp2
    go_ret
    refine ⟨_, rfl, row_low (one_row (new_two w _ _)) (by omega), hw.alloc (by simp) _⟩
end Go.Proofs.YtcadpoknolefpaaGreat
/- has, flowBegun. -/
namespace Go.Proofs.YtcadpoknolefpaaGreat
open Go.RowKit
set_option linter.unusedSimpArgs false
set_option linter.unusedVariables false
theorem loop_ops (w : World) : Calls Tryz.prog 67 #[] w fun e w' => ∃ v, e = .returned v ∧ OpsAt w' v loopOps ∧ Below w.heap.size w w' := by
  refine (loop_any w).mono ?_
  rintro e w1 ⟨rfl, hw1⟩
  have hb1 : Below w.heap.size w w1 := by rw [hw1]; exact (Below.refl _ w).alloc (Nat.le_refl _) _
  have hh1 : w1.heap[w.heap.size]? = some (.cells (opCells loopOps).toArray 43 (0, 0)) := by rw [hw1]; exact World.alloc_heap_new w _
  exact ⟨_, rfl, opsAt_new (l := loopOps) (m := []) 10 10 (by simpa using hh1) rfl (by unfold maxLen; decide), hb1⟩
theorem ints_lit {w : World} {b : Nat} {l : List Int} {t : TypeId} {fz : Nat × Nat} (n cap : Nat) (h : w.heap[b]? = some (.cells (l.map (Value.int .i64)).toArray t fz)) (hn : n = l.length) (hm : l.length ≤ maxLen) : IntsAt w (.slice (some ⟨b, 0, none⟩) n cap) l := by
  subst hn
  refine ⟨_, cap, rfl, hm, fun k z hk => ⟨b, 0, rfl, heap_lt h, ?_⟩⟩
  rw [cell_at' h]
  simp [hk]
theorem next_fact : nextErr loopOps 6 = 0 ∧ nextR loopOps 6 = [7, 8] := by decide +kernel
theorem back_fact : backErr loopOps 1 = 0 ∧ backR loopOps 1 = [0, 7] := by decide +kernel
def jumpOps : List (Int × Int) := [(10, 2), (13, 0), (2, 0)]
theorem reach_fact : flowErr jumpOps = 0 ∧ reachR jumpOps = [0, 2, 3] := by
  have hf : flowErr jumpOps = 0 := by decide +kernel
  refine ⟨hf, ?_⟩
  rw [reachR, if_pos hf]
  have h0 : Come jumpOps 0 := .zero
  have h2 : Come jumpOps 2 := .step h0 (by decide +kernel)
  have h3 : Come jumpOps 3 := .step h2 (by decide +kernel)
  rw [← reachL_eq (code := jumpOps) (fun x => x == 0 || x == 2 || x == 3) rfl ?_ ?_]
  · decide +kernel
  · intro x hx
    simp at hx
    rcases hx with (rfl | rfl) | rfl
    · exact h0
    · exact h2
    · exact h3
  · intro pc to hp hg
    simp at hp
    rcases hp with (rfl | rfl) | rfl
    · simp [goesOn, jumpOps] at hg; have hg2 : to = 2 ∨ to = 3 := by omega
      rcases hg2 with rfl | rfl <;> rfl
    · simp [goesOn, jumpOps] at hg; have hg2 : to = 2 ∨ to = 3 := by omega
      rcases hg2 with rfl | rfl <;> rfl
    · simp [goesOn, jumpOps] at hg
end Go.Proofs.YtcadpoknolefpaaGreat
/- Plain functions on blocks (chapter 5). -/
namespace Go.Proofs.YtcadpoknolefpaaGreat
open Go.RowKit
set_option linter.unusedSimpArgs false
set_option linter.unusedVariables false
/-- how many numbers there are in all. -/
def cellsN (L : List (List Int)) : Nat := (L.map List.length).sum
def blkErr (L : List (List Int)) : Int := if 8 < L.length ∨ 40 < cellsN L then 2 else if (L.all fun b => b.all isI32) = true then 0 else 3
def newErr (L : List (List Int)) (size : Int) : Int := if blkErr L ≠ 0 then blkErr L else if size < 0 then 3 else if L.length = 8 ∨ 40 - (cellsN L : Int) < size then 7 else 0
def newL (L : List (List Int)) (size : Int) : List (List Int) := L ++ [List.replicate size.toNat 0]
def newR (L : List (List Int)) (size : Int) : List (List Int) := if newErr L size = 0 then newL L size else []
def newRef (L : List (List Int)) (size : Int) : Int := if newErr L size = 0 then (L.length : Int) + 1 else 0
def blkAt (L : List (List Int)) (ref : Int) : List Int := (L[(ref - 1).toNat]?).getD []
def placeErr (L : List (List Int)) (ref at_ : Int) : Int := if blkErr L ≠ 0 then blkErr L else if ref = 0 then 5 else if ref < 0 ∨ (L.length : Int) < ref ∨ at_ < 0 ∨ ((blkAt L ref).length : Int) ≤ at_ then 3 else 0
def getL (L : List (List Int)) (ref at_ : Int) : Int := ((blkAt L ref)[at_.toNat]?).getD 0
def getR (L : List (List Int)) (ref at_ : Int) : Int := if placeErr L ref at_ = 0 then getL L ref at_ else 0
def setErr (L : List (List Int)) (ref at_ n : Int) : Int := if placeErr L ref at_ ≠ 0 then placeErr L ref at_ else if isI32 n = true then 0 else 3
def setL (L : List (List Int)) (ref at_ n : Int) : List (List Int) := L.set (ref - 1).toNat ((blkAt L ref).set at_.toNat n)
def setR (L : List (List Int)) (ref at_ n : Int) : List (List Int) := if setErr L ref at_ n = 0 then setL L ref at_ n else []
def refOk (n : Nat) (ref : Int) : Bool := decide (0 ≤ ref) && decide (ref ≤ (n : Int))
def keepErr (L : List (List Int)) (refs : List Int) : Int := if blkErr L ≠ 0 then blkErr L else if refs.all (refOk L.length) = true then 0 else 3
/-- which of the first k stay. -/
def stays (refs : List Int) (k : Nat) : List Nat := (List.range k).filter fun i => decide ((i : Int) + 1 ∈ refs)
def keptL (L : List (List Int)) (refs : List Int) (k : Nat) : List (List Int) := (stays refs k).map fun i => (L[i]?).getD []
def thenOf (refs : List Int) (ref : Int) : Int := ((stays refs ref.toNat).length : Int)
def keptR (L : List (List Int)) (refs : List Int) : List (List Int) := if keepErr L refs = 0 then keptL L refs L.length else []
def thenR (L : List (List Int)) (refs : List Int) : List Int := if keepErr L refs = 0 then refs.map (thenOf refs) else []
theorem wrap_isI32 (n : Int) : (wrap32 n == n) = isI32 n := by
  rw [Bool.eq_iff_iff]
  simp [isI32, wrap32]
  omega
theorem cellsN_nil : cellsN [] = 0 := rfl
theorem cellsN_append (L M : List (List Int)) : cellsN (L ++ M) = cellsN L + cellsN M := by simp [cellsN]
theorem cellsN_take (L : List (List Int)) (k : Nat) (b : List Int) (h : L[k]? = some b) : cellsN (L.take (k + 1)) = cellsN (L.take k) + b.length := by
  rw [take_snoc L k b h, cellsN_append]; simp [cellsN]
theorem cellsN_le (L : List (List Int)) (k : Nat) : cellsN (L.take k) ≤ cellsN L := by
  have h : cellsN L = cellsN (L.take k) + cellsN (L.drop k) := by rw [← cellsN_append, List.take_append_drop]
  omega
theorem cellsN_mem {L : List (List Int)} {k : Nat} {b : List Int} (h : L[k]? = some b) : b.length ≤ cellsN L := by
  have h1 := cellsN_take L k b h
  have h2 := cellsN_le L (k + 1)
  omega
theorem cellsN_bound (L : List (List Int)) (M : Nat) (h : ∀ b ∈ L, b.length ≤ M) : cellsN L ≤ L.length * M := by
  induction L with
  | nil => simp [cellsN]
  | cons b r ih =>
    have h1 := ih fun x hx => h x (by simp [hx])
    have h2 := h b (by simp)
    have h3 : cellsN (b :: r) = b.length + cellsN r := by simp [cellsN]
    rw [h3, List.length_cons, Nat.add_mul]
    omega
theorem blkErr_zero {L : List (List Int)} (h : blkErr L = 0) : L.length ≤ 8 ∧ cellsN L ≤ 40 ∧ ∀ b ∈ L, ∀ n ∈ b, isI32 n = true := by
  unfold blkErr at h
  by_cases h1 : 8 < L.length ∨ 40 < cellsN L
  · rw [if_pos h1] at h; cases h
  · rw [if_neg h1] at h
    by_cases h2 : (L.all fun b => b.all isI32) = true
    · refine ⟨by omega, by omega, fun b hb n hn => ?_⟩
      exact List.all_eq_true.1 (List.all_eq_true.1 h2 b hb) n hn
    · rw [if_neg h2] at h; cases h
theorem blkErr_mk {L : List (List Int)} (h1 : L.length ≤ 8) (h2 : cellsN L ≤ 40) (h3 : ∀ b ∈ L, ∀ n ∈ b, isI32 n = true) : blkErr L = 0 := by
  unfold blkErr
  rw [if_neg (by omega), if_pos]
  exact List.all_eq_true.2 fun b hb => List.all_eq_true.2 fun n hn => h3 b hb n hn
theorem blkAt_some {L : List (List Int)} {ref : Int} {b : List Int} {k : Nat} (h : L[k]? = some b) (hr : ref = (k : Int) + 1) : blkAt L ref = b := by
  unfold blkAt
  rw [show (ref - 1).toNat = k from by omega, h]; rfl
theorem stays_zero (refs : List Int) : stays refs 0 = [] := rfl
theorem stays_true {refs : List Int} {k : Nat} (h : (k : Int) + 1 ∈ refs) : stays refs (k + 1) = stays refs k ++ [k] := by
  unfold stays
  rw [List.range_succ, List.filter_append]; simp [h]
theorem stays_false {refs : List Int} {k : Nat} (h : ¬ (k : Int) + 1 ∈ refs) : stays refs (k + 1) = stays refs k := by
  unfold stays
  rw [List.range_succ, List.filter_append]; simp [h]
theorem stays_le (refs : List Int) (k : Nat) : (stays refs k).length ≤ k := by
  have := List.length_filter_le (fun i : Nat => decide ((i : Int) + 1 ∈ refs)) (List.range k)
  rw [List.length_range] at this
  exact this
theorem keptL_length (L : List (List Int)) (refs : List Int) (k : Nat) : (keptL L refs k).length = (stays refs k).length := by simp [keptL]
theorem keptL_true {L : List (List Int)} {refs : List Int} {k : Nat} {b : List Int} (h : (k : Int) + 1 ∈ refs) (hb : L[k]? = some b) : keptL L refs (k + 1) = keptL L refs k ++ [b] := by
  unfold keptL
  rw [stays_true h, List.map_append]; simp [hb]
theorem keptL_false {L : List (List Int)} {refs : List Int} {k : Nat} (h : ¬ (k : Int) + 1 ∈ refs) : keptL L refs (k + 1) = keptL L refs k := by
  unfold keptL
  rw [stays_false h]
end Go.Proofs.YtcadpoknolefpaaGreat
/- Blocks in memory. -/
namespace Go.Proofs.YtcadpoknolefpaaGreat
open Go.RowKit
set_option linter.unusedSimpArgs false
set_option linter.unusedVariables false
/-- the slice 'v' holds the blocks 'L'. -/
def BlksAt (w : World) (v : Value) (L : List (List Int)) : Prop :=
  ∃ (p : Option Addr) (cap : Nat), v = .slice p L.length cap ∧ L.length ≤ maxLen ∧ ∀ k b, L[k]? = some b →
    ∃ g off c, p = some ⟨g, off, none⟩ ∧ g < w.heap.size ∧ w.cell? ⟨g, off + k, none⟩ = some c ∧ IntsAt w c b ∧ NilOk c ∧ b.length ≤ 17592186044416
theorem BlksAt.below {w w' : World} {v : Value} {L : List (List Int)} (h : BlksAt w v L) (hb : Below w.heap.size w w') : BlksAt w' v L := by
  obtain ⟨p, cap, rfl, hm, hc⟩ := h
  refine ⟨p, cap, rfl, hm, fun k b hk => ?_⟩
  obtain ⟨g, off, c, rfl, hlt, h0, h1, h2, h3⟩ := hc k b hk
  exact ⟨g, off, c, rfl, Nat.lt_of_lt_of_le hlt hb.size, (hb.cell (p := ⟨g, off + k, none⟩) hlt).trans h0, h1.below hb, h2, h3⟩
/-- rows of numbers in memory of the call's own, no two of them one. -/
structure BRows (W : World) (B : Nat) (q : List Value) (L : List (List Int)) : Prop where
  len : q.length = L.length
  each : ∀ (k : Nat) (x : Value) (b : List Int), q[k]? = some x → L[k]? = some b → W.ownsRow B 3 1 x b.length (b.map (Value.int .i64))
  apart : ∀ (i j : Nat) (x y : Value) (g : Nat), q[i]? = some x → q[j]? = some y → x.ownBlock = some g → y.ownBlock = some g → i = j
  small : ∀ b ∈ L, b.length ≤ 17592186044416
/-- blocks in memory of the call's own. -/
def BlksOwn (W : World) (B : Nat) (v : Value) (L : List (List Int)) : Prop := ∃ q, W.ownsRow B 27 1 v q.length q ∧ BRows W B q L
theorem bRows_nil (W : World) (B : Nat) : BRows W B [] [] := ⟨rfl, fun k x b h => by simp at h, fun i j x y g h => by simp at h, fun b h => by simp at h⟩
theorem blksOwn_nil (W : World) (B : Nat) : BlksOwn W B (.slice none 0 0) [] := ⟨[], World.ownsRow_nil _ _ _ _, bRows_nil W B⟩
theorem BRows.low {W : World} {B B' : Nat} {q : List Value} {L : List (List Int)} (h : BRows W B q L) (hB : B' ≤ B) : BRows W B' q L :=
  ⟨h.len, fun k x b h1 h2 => row_low (h.each k x b h1 h2) hB, h.apart, h.small⟩
theorem BlksOwn.low {W : World} {B B' : Nat} {v : Value} {L : List (List Int)} (h : BlksOwn W B v L) (hB : B' ≤ B) : BlksOwn W B' v L := by
  obtain ⟨q, h1, h2⟩ := h
  exact ⟨q, row_low h1 hB, h2.low hB⟩
theorem BRows.same {W W' : World} {B : Nat} {q : List Value} {L : List (List Int)} (h : BRows W B q L) (hk : ∀ (k : Nat) (x : Value) (g : Nat), q[k]? = some x → x.ownBlock = some g → W'.heap[g]? = W.heap[g]?) : BRows W' B q L :=
  ⟨h.len, fun k x b h1 h2 => row_same (h.each k x b h1 h2) fun g hg => hk k x g h1 hg, h.apart, h.small⟩
theorem BRows.below {W W' : World} {B : Nat} {q : List Value} {L : List (List Int)} (h : BRows W B q L) (hb : Below W.heap.size W W') : BRows W' B q L :=
  h.same fun k x g h1 hg => by
    obtain ⟨b, h2⟩ := at_of_lt (l := L) (k := k) (by rw [← h.len]; exact lt_of_at h1)
    exact hb.block g ((h.each k x b h1 h2).lt g hg).2
theorem BRows.lt {W : World} {B : Nat} {q : List Value} {L : List (List Int)} (h : BRows W B q L) {k : Nat} {x : Value} {g : Nat} (hx : q[k]? = some x) (hg : x.ownBlock = some g) : B ≤ g ∧ g < W.heap.size ∧ ∃ cs, W.heap[g]? = some (.cells cs 3 (0, 0)) := by
  obtain ⟨b, h2⟩ := at_of_lt (l := L) (k := k) (by rw [← h.len]; exact lt_of_at hx)
  have hr := h.each k x b hx h2
  refine ⟨(hr.lt g hg).1, (hr.lt g hg).2, ?_⟩
  rcases hr.2 with ⟨rfl, _⟩ | ⟨g', cap, cur, rfl, _, hh, _⟩
  · cases hg
  · cases hg; exact ⟨_, hh⟩
theorem BRows.snoc' {W : World} {B : Nat} {q : List Value} {L : List (List Int)} {x : Value} {b : List Int} (h : BRows W B q L) (hx : W.ownsRow B 3 1 x b.length (b.map (Value.int .i64))) (hn : ∀ (k : Nat) (y : Value) (g : Nat), q[k]? = some y → y.ownBlock = some g → x.ownBlock ≠ some g) (hs : b.length ≤ 17592186044416) : BRows W B (q ++ [x]) (L ++ [b]) := by
  have key : ∀ (k : Nat) (y : Value), (q ++ [x])[k]? = some y → (k < q.length ∧ q[k]? = some y) ∨ (k = q.length ∧ y = x) := by
    intro k y hk
    by_cases hl : k < q.length
    · rw [List.getElem?_append_left hl] at hk; exact .inl ⟨hl, hk⟩
    · rw [List.getElem?_append_right (by omega)] at hk
      have h0 : k - q.length = 0 := by have := lt_of_at hk; simp at this; omega
      rw [h0] at hk; simp at hk
      exact .inr ⟨by omega, hk.symm⟩
  refine ⟨by simp [h.len], fun k y c hy hc => ?_, fun i j y z g hy hz gy gz => ?_, fun c hc => ?_⟩
  · rcases key k y hy with ⟨h1, h2⟩ | ⟨rfl, rfl⟩
    · rw [List.getElem?_append_left (by rw [← h.len]; exact h1)] at hc
      exact h.each k y c h2 hc
    · rw [List.getElem?_append_right (by rw [h.len]; omega), h.len, Nat.sub_self] at hc
      simp at hc; subst hc
      exact hx
  · rcases key i y hy with ⟨h1, h2⟩ | ⟨rfl, rfl⟩
    · rcases key j z hz with ⟨h3, h4⟩ | ⟨rfl, rfl⟩
      · exact h.apart i j y z g h2 h4 gy gz
      · exact absurd gz (hn i y g h2 gy)
    · rcases key j z hz with ⟨h3, h4⟩ | ⟨rfl, rfl⟩
      · exact absurd gy (hn j z g h4 gz)
      · rfl
  · rcases List.mem_append.1 hc with hc | hc
    · exact h.small c hc
    · simp at hc; subst hc; exact hs
theorem BRows.snoc {W : World} {B B' : Nat} {q : List Value} {L : List (List Int)} {x : Value} {b : List Int} (h : BRows W B q L) (hx : W.ownsRow B' 3 1 x b.length (b.map (Value.int .i64))) (hB : B ≤ B') (hn : ∀ (k : Nat) (y : Value) (g : Nat), q[k]? = some y → y.ownBlock = some g → g < B') (hs : b.length ≤ 17592186044416) : BRows W B (q ++ [x]) (L ++ [b]) :=
  h.snoc' (row_low hx hB) (fun k y g h1 h2 h3 => by
    have := hn k y g h1 h2
    have := (hx.lt g h3).1
    omega) hs
theorem BlksOwn.below {W W' : World} {B : Nat} {v : Value} {L : List (List Int)} (h : BlksOwn W B v L) (hb : Below W.heap.size W W') : BlksOwn W' B v L := by
  obtain ⟨q, h1, h2⟩ := h
  exact ⟨q, row_same h1 fun g hg => hb.block g (h1.lt g hg).2, h2.below hb⟩
theorem blksAt_of_rows {W : World} {B : Nat} {p : Option Addr} {cap : Nat} {q : List Value} {L : List (List Int)} (hr : BRows W B q L) (hm : L.length ≤ maxLen) (hp : ∀ k x, q[k]? = some x → ∃ g off, p = some ⟨g, off, none⟩ ∧ g < W.heap.size ∧ W.cell? ⟨g, off + k, none⟩ = some x) : BlksAt W (.slice p L.length cap) L := by
  refine ⟨p, cap, rfl, hm, fun k b hk => ?_⟩
  obtain ⟨x, hx⟩ := at_of_lt (l := q) (k := k) (by rw [hr.len]; exact lt_of_at hk)
  obtain ⟨g, off, h1, h2, h3⟩ := hp k x hx
  have h4 := hr.each k x b hx hk
  exact ⟨g, off, x, h1, h2, h3, intsAt_of_row rfl h4, nilOk_row h4, hr.small b (List.mem_of_getElem? hk)⟩
theorem blksAt_of_own {W : World} {B : Nat} {v : Value} {L : List (List Int)} (h : BlksOwn W B v L) : BlksAt W v L := by
  obtain ⟨q, h1, h2⟩ := h
  rcases h1.2 with ⟨rfl, h0⟩ | ⟨g, cap, cur, rfl, hb, hg, hn, hc, hs, ht⟩
  · have hL : L = [] := List.eq_nil_of_length_eq_zero (by rw [← h2.len]; exact h0)
    subst hL
    exact ⟨none, 0, rfl, Nat.zero_le _, fun k b hk => by simp at hk⟩
  · rw [h2.len]
    refine blksAt_of_rows h2 (by rw [← h2.len]; omega) fun k x hx => ⟨g, 0, rfl, heap_lt hg, ?_⟩
    have hk := lt_of_at hx
    rw [← ht, List.getElem?_take_of_lt (by omega)] at hx
    rw [cell_at' hg]; simpa using hx
theorem BlksOwn.shp {W : World} {B : Nat} {v : Value} {L : List (List Int)} (h : BlksOwn W B v L) : ∃ p c, v = .slice p L.length c := by
  obtain ⟨q, h1, h2⟩ := h
  obtain ⟨p, c, hv⟩ := row_shp h1
  exact ⟨p, c, by rw [hv, h2.len]⟩

theorem bthen0 {a b c : World} (h : Below a.heap.size a b) (k : Below b.heap.size b c) : Below a.heap.size a c := h.trans (k.mono h.size)
end Go.Proofs.YtcadpoknolefpaaGreat
/- blocks: the leaf functions; Check. -/
namespace Go.Proofs.YtcadpoknolefpaaGreat
open Go.RowKit
set_option linter.unusedSimpArgs false
set_option linter.unusedVariables false
set_option maxHeartbeats 400000 in
theorem bNumber_any (n : Int) (w : World) : Calls Tryz.prog 169 #[.int .i64 n] w fun e w' => e = .returned (.bool (isI32 n)) ∧ w' = w := by
  go_enter Tryz.func169, Tryz.ntmps169
  go_wp2_with (go_at_call 28; refine (wrap_any _ _).mono ?_; rintro e w' ⟨rfl, rfl⟩)
  go_ret
  exact ⟨by simp [← wrap_isI32], rfl⟩
set_option maxHeartbeats 400000 in
theorem bCheck1_any (n : Int) (w : World) : Calls Tryz.prog 168 #[.int .i64 n] w fun e w' => e = .returned (.bool (!isI32 n)) ∧ w' = w := by
  go_enter Tryz.func168, Tryz.ntmps168
  go_wp2_with (go_at_call 169; refine (bNumber_any _ _).mono ?_; rintro e w' ⟨rfl, rfl⟩)
  go_ret
  exact ⟨rfl, rfl⟩
set_option maxHeartbeats 400000 in
theorem bIsRef_any (L : List (List Int)) (ref : Int) (p : Option Addr) (cap : Nat) (w : World) : Calls Tryz.prog 122 #[.slice p L.length cap, .int .i64 ref] w fun e w' => e = .returned (.bool (refOk L.length ref)) ∧ w' = w := by
  by_cases h1 : 0 ≤ ref
  · have hd : decide (0 ≤ ref) = true := by simpa using h1
    have hd2 : decide (ref ≥ 0) = true := by simpa using h1
    go_enter Tryz.func122, Tryz.ntmps122
    go_wp2
    go_ret
    exact ⟨by simp [refOk, h1], rfl⟩
  · have hd : decide (0 ≤ ref) = false := by simpa using h1
    have hd2 : decide (ref ≥ 0) = false := by simpa using h1
    go_enter Tryz.func122, Tryz.ntmps122
    go_wp2
    go_ret
    exact ⟨by simp [refOk, hd], rfl⟩
/-- a function that has a body is entered. -/
def Ent (F : Nat) : Prop := ∀ (args : Array Value) (W : World), (callFunc F args).run Tryz.prog W = .ok (.enter F args) W
theorem ent_mk {F : Nat} {fn : Func} {c : Code} (hf : Tryz.prog.funcs[F]? = some fn) (hname : (fn.name == "runtime.NumGoroutine") = false) (hb : fn.body = some c) : Ent F := by
  intro args w
  have h1 : fn.name ≠ "runtime.NumGoroutine" := by simpa using hname
  simp [callFunc, hf, h1, hb]
/-- IndexFunc at a function whose contract is given: whether one is found. -/
theorem indexInts_gen (F : Nat) (caps : Array Value) (I : World → Prop) (q : Int → Bool) (l : List Int) (v : Value) (w : World) (h : IntsAt w v l) (hI : I w) (hkI : ∀ W W', I W → Below W.heap.size W W' → I W') (hE : Ent F)
    (hF : ∀ (z : Int) (W : World), I W → Calls Tryz.prog F (#[.int .i64 z] ++ caps) W fun e w' => e = .returned (.bool (!q z)) ∧ Below W.heap.size W w') :
    Calls Tryz.prog 147 #[v, .func (.func F) #[] caps] w fun e w' => ∃ r, e = .returned (.int .i64 r) ∧ decide (0 ≤ r) = (!l.all q) ∧ Below w.heap.size w w' := by
  obtain ⟨p, cap, rfl, hm, hc⟩ := h
  unfold maxLen at hm
  have HI := hideP hI
  have HKI := hideP hkI
  have HF := hideP hF
  have hEE := fun args W => hE args W
  clear hI hkI hF hE
  go_enter Tryz.func147, Tryz.ntmps147
  go_wp2
  go_loopw [5, 8] (fun _ i wr => ∃ k : Nat, k ≤ l.length ∧ i = .int .i64 k ∧ (∀ o ∈ l.take k, q o = true) ∧ Below w.heap.size w wr) (fun _ i _ => l.length - (intOf i).toNat)
  case atStart => exact ⟨0, Nat.zero_le _, rfl, by simp, Below.refl _ _⟩
  case round =>
    obtain ⟨k, hk, rfl, hok, hbw⟩ := hrel
    have HK := hideP hok
    have HC := hideP hc
    clear hok hc
    by_cases hlt : k < l.length
    · obtain ⟨z, ho⟩ := at_of_lt hlt
      obtain ⟨b, off, rfl, hb, h0⟩ := HC.out k _ ho
      have g0 := (hbw.cell (p := ⟨b, off + k, none⟩) hb).trans h0
      have HO := hideP ho
      have hi := hideP (HKI.out _ _ HI.out hbw)
      clear ho h0
      cases hnb : q z
      · go_wp2_with fail
        refine (HF.out z wr hi.out).mono ?_
        rw [hnb]
        rintro e w2 ⟨rfl, hb2⟩
        go_wp2
        go_ret
        exact ⟨k, rfl, by rw [all_false HO.out hnb]; simp, hbw.trans (hb2.mono hbw.size)⟩
      · go_wp2_with fail
        refine (HF.out z wr hi.out).mono ?_
        rw [hnb]
        rintro e w2 ⟨rfl, hb2⟩
        go_wp2
        go_roundw
        case rel => exact ⟨k + 1, by omega, by go_num, all_snoc HK.out HO.out hnb, hbw.trans (hb2.mono hbw.size)⟩
        case measure => simp [intOf]; omega
    · have hlt' : ¬ (k : Int) < (l.length : Int) := by omega
      go_wp2
      go_ret
      refine ⟨-1, rfl, ?_, hbw⟩
      have := HK.out
      rw [List.take_of_length_le (by omega)] at this
      rw [all_true this]; decide
set_option maxHeartbeats 1000000 in
theorem containsInts_gen (F : Nat) (caps : Array Value) (I : World → Prop) (q : Int → Bool) (l : List Int) (v : Value) (w : World) (h : IntsAt w v l) (hI : I w) (hkI : ∀ W W', I W → Below W.heap.size W W' → I W') (hE : Ent F)
    (hF : ∀ (z : Int) (W : World), I W → Calls Tryz.prog F (#[.int .i64 z] ++ caps) W fun e w' => e = .returned (.bool (!q z)) ∧ Below W.heap.size W w') :
    Calls Tryz.prog 106 #[v, .func (.func F) #[] caps] w fun e w' => e = .returned (.bool (!l.all q)) ∧ Below w.heap.size w w' := by
  go_enter Tryz.func106, Tryz.ntmps106
  go_wp2_with fail
  refine (indexInts_gen F caps I q l v _ h hI hkI hE hF).mono ?_
  rintro e w2 ⟨r, rfl, hr, hb2⟩
  have HR := hideP hr
  clear hr
  go_wp2
  go_ret
  exact ⟨by rw [← HR.out]; rfl, hb2⟩
theorem ent_check1 : Ent 168 := ent_mk Tryz.func168 (by kernel_rfl) rfl
theorem containsStray_any (l : List Int) (v : Value) (w : World) (h : IntsAt w v l) : Calls Tryz.prog 106 #[v, .func (.func 168) #[] #[]] w fun e w' => e = .returned (.bool (!l.all isI32)) ∧ Below w.heap.size w w' :=
  containsInts_gen 168 #[] (fun _ => True) isI32 l v w h trivial (fun _ _ _ _ => trivial) ent_check1 (fun z W _ => (bCheck1_any z W).mono (by rintro e w' ⟨rfl, rfl⟩; exact ⟨rfl, Below.refl _ _⟩))
set_option maxHeartbeats 1000000 in
theorem bCheck2_any (l : List Int) (v : Value) (bs : Nat) (w : World) (h : IntsAt w v l) (hb : bs < w.heap.size ∧ w.cell? ⟨bs, 0, none⟩ = some (.func (.func 168) #[] #[])) : Calls Tryz.prog 171 #[v, .pointer (some ⟨bs, 0, none⟩)] w fun e w' => e = .returned (.bool (!l.all isI32)) ∧ Below w.heap.size w w' := by
  obtain ⟨_, c0⟩ := hb
  obtain ⟨p, cap, hv, _, _⟩ := id h
  have H := hideP h
  clear h
  subst hv
  go_enter Tryz.func171, Tryz.ntmps171
  go_wp2_with fail
  refine (containsStray_any l _ _ H.out).mono ?_
  rintro e w2 ⟨rfl, hb2⟩
  go_wp2
  go_ret
  exact ⟨rfl, hb2⟩
/-- the same over lists of numbers. -/
theorem indexBlks_gen (F : Nat) (caps : Array Value) (I : World → Prop) (q : List Int → Bool) (l : List (List Int)) (v : Value) (w : World) (h : BlksAt w v l) (hI : I w) (hkI : ∀ W W', I W → Below W.heap.size W W' → I W') (hE : Ent F)
    (hF : ∀ (z : List Int) (u : Value) (W : World), I W → IntsAt W u z → Calls Tryz.prog F (#[u] ++ caps) W fun e w' => e = .returned (.bool (!q z)) ∧ Below W.heap.size W w') :
    Calls Tryz.prog 219 #[v, .func (.func F) #[] caps] w fun e w' => ∃ r, e = .returned (.int .i64 r) ∧ decide (0 ≤ r) = (!l.all q) ∧ Below w.heap.size w w' := by
  obtain ⟨p, cap, rfl, hm, hc⟩ := h
  unfold maxLen at hm
  have HI := hideP hI
  have HKI := hideP hkI
  have HF := hideP hF
  have hEE := fun args W => hE args W
  clear hI hkI hF hE
  go_enter Tryz.func219, Tryz.ntmps219
  go_wp2
  go_loopw [5, 8] (fun _ i wr => ∃ k : Nat, k ≤ l.length ∧ i = .int .i64 k ∧ (∀ o ∈ l.take k, q o = true) ∧ Below w.heap.size w wr) (fun _ i _ => l.length - (intOf i).toNat)
  case atStart => exact ⟨0, Nat.zero_le _, rfl, by simp, Below.refl _ _⟩
  case round =>
    obtain ⟨k, hk, rfl, hok, hbw⟩ := hrel
    have HK := hideP hok
    have HC := hideP hc
    clear hok hc
    by_cases hlt : k < l.length
    · obtain ⟨z, ho⟩ := at_of_lt hlt
      obtain ⟨b, off, c, rfl, hb, h0, h1, _, _⟩ := HC.out k _ ho
      have g0 := (hbw.cell (p := ⟨b, off + k, none⟩) hb).trans h0
      have H1 := hideP (h1.below hbw)
      obtain ⟨p1, q1, hc1, _, _⟩ := id h1
      subst hc1
      have HO := hideP ho
      have hi := hideP (HKI.out _ _ HI.out hbw)
      clear ho h0 h1
      cases hnb : q z
      · go_wp2_with fail
        refine (HF.out z _ wr hi.out H1.out).mono ?_
        rw [hnb]
        rintro e w2 ⟨rfl, hb2⟩
        go_wp2
        go_ret
        exact ⟨k, rfl, by rw [all_false HO.out hnb]; simp, hbw.trans (hb2.mono hbw.size)⟩
      · go_wp2_with fail
        refine (HF.out z _ wr hi.out H1.out).mono ?_
        rw [hnb]
        rintro e w2 ⟨rfl, hb2⟩
        go_wp2
        go_roundw
        case rel => exact ⟨k + 1, by omega, by go_num, all_snoc HK.out HO.out hnb, hbw.trans (hb2.mono hbw.size)⟩
        case measure => simp [intOf]; omega
    · have hlt' : ¬ (k : Int) < (l.length : Int) := by omega
      go_wp2
      go_ret
      refine ⟨-1, rfl, ?_, hbw⟩
      have := HK.out
      rw [List.take_of_length_le (by omega)] at this
      rw [all_true this]; decide
set_option maxHeartbeats 1000000 in
theorem containsBlks_gen (F : Nat) (caps : Array Value) (I : World → Prop) (q : List Int → Bool) (l : List (List Int)) (v : Value) (w : World) (h : BlksAt w v l) (hI : I w) (hkI : ∀ W W', I W → Below W.heap.size W W' → I W') (hE : Ent F)
    (hF : ∀ (z : List Int) (u : Value) (W : World), I W → IntsAt W u z → Calls Tryz.prog F (#[u] ++ caps) W fun e w' => e = .returned (.bool (!q z)) ∧ Below W.heap.size W w') :
    Calls Tryz.prog 170 #[v, .func (.func F) #[] caps] w fun e w' => e = .returned (.bool (!l.all q)) ∧ Below w.heap.size w w' := by
  go_enter Tryz.func170, Tryz.ntmps170
  go_wp2_with fail
  refine (indexBlks_gen F caps I q l v _ h hI hkI hE hF).mono ?_
  rintro e w2 ⟨r, rfl, hr, hb2⟩
  have HR := hideP hr
  clear hr
  go_wp2
  go_ret
  exact ⟨by rw [← HR.out]; rfl, hb2⟩
theorem ent_check2 : Ent 171 := ent_mk Tryz.func171 (by kernel_rfl) rfl
def StrayBox (bs : Nat) (W : World) : Prop := bs < W.heap.size ∧ W.cell? ⟨bs, 0, none⟩ = some (.func (.func 168) #[] #[])
theorem StrayBox.below {bs : Nat} {W W' : World} (h : StrayBox bs W) (hb : Below W.heap.size W W') : StrayBox bs W' := ⟨Nat.lt_of_lt_of_le h.1 hb.size, (hb.cell (p := ⟨bs, 0, none⟩) h.1).trans h.2⟩
theorem containsStrays_any (L : List (List Int)) (v : Value) (bs : Nat) (w : World) (h : BlksAt w v L) (hb : StrayBox bs w) : Calls Tryz.prog 170 #[v, .func (.func 171) #[] #[.pointer (some ⟨bs, 0, none⟩)]] w fun e w' => e = .returned (.bool (!L.all fun b => b.all isI32)) ∧ Below w.heap.size w w' :=
  containsBlks_gen 171 #[.pointer (some ⟨bs, 0, none⟩)] (StrayBox bs) (fun b => b.all isI32) L v w h hb (fun _ _ h hb => h.below hb) ent_check2 (fun z u W hW hu => bCheck2_any z u bs W hu hW)
set_option maxHeartbeats 1000000 in
theorem cells_any (L : List (List Int)) (v : Value) (w : World) (h : BlksAt w v L) (h8 : L.length ≤ 8) : Calls Tryz.prog 167 #[v] w fun e w' => e = .returned (.int .i64 (cellsN L)) ∧ w' = w := by
  obtain ⟨p, cap, rfl, hm, hc⟩ := h
  have hbd : ∀ k, cellsN (L.take k) ≤ 140737488355328 := fun k => by
    have h1 := cellsN_le L k
    have h2 := cellsN_bound L 17592186044416 fun b hb => by
      obtain ⟨j, hj⟩ := List.getElem?_of_mem hb
      obtain ⟨_, _, _, _, _, _, _, _, h⟩ := hc j b hj
      exact h
    omega
  have HBD := hideP hbd
  clear hbd hm
  go_enter Tryz.func167, Tryz.ntmps167
  go_wp2
  go_loopw [3, 5, 8] (fun s _ i wr => ∃ k : Nat, k ≤ L.length ∧ i = .int .i64 k ∧ s = .int .i64 (cellsN (L.take k)) ∧ wr = w) (fun _ _ i _ => L.length - (intOf i).toNat)
  case atStart => exact ⟨0, Nat.zero_le _, rfl, rfl, rfl⟩
  case round =>
    obtain ⟨k, hk, rfl, rfl, rfl⟩ := hrel
    have HC := hideP hc
    clear hc
    by_cases hlt : k < L.length
    · obtain ⟨z, ho⟩ := at_of_lt hlt
      obtain ⟨b, off, c, rfl, hb, h0, h1, _, h44⟩ := HC.out k _ ho
      obtain ⟨p1, q1, hc1, _, _⟩ := id h1
      subst hc1
      have hs := cellsN_take L k z ho
      have hb1 := HBD.out k
      have HS := hideP hs
      clear ho h1 hs
      generalize cellsN (L.take k) = s at *
      go_wp2
      go_roundw
      case rel => exact ⟨k + 1, by omega, by go_num, by rw [HS.out]; go_num, trivial⟩
      case measure => simp [intOf]; omega
    · have hlt' : ¬ (k : Int) < (L.length : Int) := by omega
      go_wp2
      go_ret
      exact ⟨by simp [List.take_of_length_le (show L.length ≤ k by omega)], rfl⟩
set_option maxRecDepth 100000 in
set_option maxHeartbeats 1000000 in
theorem bCheck_any (L : List (List Int)) (v : Value) (w : World) (h : BlksAt w v L) : Calls Tryz.prog 120 #[v] w fun e w' => e = .returned (.int .i64 (blkErr L)) ∧ Below w.heap.size w w' := by
  obtain ⟨p, cap, hv, hm, _⟩ := id h
  unfold maxLen at hm
  subst hv
  by_cases h8 : 8 < L.length
  · have h8' : (8 : Int) < (L.length : Int) := by omega
    have hd : decide ((L.length : Int) > 8) = true := by simpa using h8'
    have he : blkErr L = 2 := by unfold blkErr; rw [if_pos (.inl h8)]
    rw [he]
    clear h he
    go_enter Tryz.func120, Tryz.ntmps120
    go_wp2
    go_ret
    exact ⟨rfl, Below.refl _ _⟩
  · have h8' : ¬ (8 : Int) < (L.length : Int) := by omega
    have hd : decide ((L.length : Int) > 8) = false := by simp; omega
    have H := hideP h
    clear h
    by_cases h40 : 40 < cellsN L
    · have h40' : (40 : Int) < (cellsN L : Int) := by omega
      have he : blkErr L = 2 := by unfold blkErr; rw [if_pos (.inr h40)]
      rw [he]
      clear he
      go_enter Tryz.func120, Tryz.ntmps120
      go_wp2_with (go_at_call 167; refine (cells_any L _ _ H.out (by omega)).mono ?_; rintro e w' ⟨rfl, hw⟩; have hw := hw.symm; subst hw)
      go_ret
      exact ⟨rfl, Below.refl _ _⟩
    · have h40' : ¬ (40 : Int) < (cellsN L : Int) := by omega
      have he : blkErr L = if (L.all fun b => b.all isI32) = true then 0 else 3 := by unfold blkErr; rw [if_neg (by omega)]
      rw [he]
      clear he
      have hB := (Below.refl w.heap.size w).alloc (Nat.le_refl _) (.cells #[.func (.func 168) #[] #[]] 74)
      have hx := World.alloc_heap_new w (.cells #[.func (.func 168) #[] #[]] 74)
      have hS : StrayBox w.heap.size (w.alloc (.cells #[.func (.func 168) #[] #[]] 74)) := ⟨heap_lt hx, by rw [cell_at' hx 0]; rfl⟩
      have HS := hideP hS
      have HA := hideP (H.out.below hB)
      clear hx hS
      cases hall : (L.all fun b => b.all isI32)
      all_goals
        go_enter Tryz.func120, Tryz.ntmps120
        go_wp2_with (first | (go_at_call 167; refine (cells_any L _ _ H.out (by omega)).mono ?_; rintro e w' ⟨rfl, hw⟩; have hw := hw.symm; subst hw) | (go_at_call 170; refine (containsStrays_any L _ _ _ HA.out HS.out).mono ?_; rw [hall]; rintro e w2 ⟨rfl, hb2⟩))
        go_ret
        exact ⟨rfl, hB.trans (hb2.mono hB.size)⟩
end Go.Proofs.YtcadpoknolefpaaGreat
/- slices.Backward at numbers: the iterator's contract. -/
namespace Go.Proofs.YtcadpoknolefpaaGreat
open Go.RowKit Go.Shelf
set_option linter.unusedSimpArgs false
set_option linter.unusedVariables false
attribute [local go_sem] Oper.semAt_some
/-- what comes, from the k-th place down: the place, and what lies there. -/
def itsB (ts : List Int) : Nat → List (Nat × Int)
  | 0 => []
  | k + 1 => (k, ts.getD k 0) :: itsB ts k
theorem itsB_length (ts : List Int) (k : Nat) : (itsB ts k).length = k := by
  induction k with
  | zero => rfl
  | succ k ih => simp [itsB, ih]
abbrev encsB (x : Nat × Int) : Array Value := #[.int .i64 x.1, .int .i64 x.2]
/-- the box of the slice, and what it holds, stay as they are. -/
def KpB (bs : Nat) (v : Value) (ts : List Int) (W W' : World) : Prop := (Boxed W bs 27 v ∧ IntsAt W v ts) → (Boxed W' bs 27 v ∧ IntsAt W' v ts)
set_option maxRecDepth 100000 in
set_option maxHeartbeats 2000000 in
theorem back1_in (n : Nat) (hn : 1 ≤ n) (l bs : Nat) (ts : List Int) (p : Option Addr) (c : Nat) (hts : ts.length ≤ 100) (J Jx : List (Nat × Int) → World → Prop) (W : World)
    (hY : ∀ pre x W1, J pre W1 → pre.length < (itsB ts ts.length).length → YieldAt Fence.wide (n - 1) Tryz.prog l (encsB x) W1 fun e W' =>
      (e = .returned (.bool true) ∧ J (pre ++ [x]) W' ∧ KpB bs (.slice p ts.length c) ts W1 W') ∨ (e = .returned (.bool false) ∧ Jx (pre ++ [x]) W'))
    (hB : Boxed W bs 27 (.slice p ts.length c)) (hI : IntsAt W (.slice p ts.length c) ts) (h0 : J [] W) :
    CallsIn Fence.wide n Tryz.prog 237 #[.func (.yield l) #[] #[], .pointer (some ⟨bs, 0, none⟩)] W fun e W' => (∃ v, e = .returned v) ∧
      ((∃ ys, ys = itsB ts ts.length ∧ J ys W') ∨ (∃ pre, pre <+: itsB ts ts.length ∧ Jx pre W')) := by
  refine callsIn_of_wp Tryz.func237 rfl trivial ?_ rfl
  simp only [Tryz.ntmps237, List.size_toArray, List.length_cons, List.length_nil, Nat.reduceAdd, Nat.reduceSub, Array.replicate_succ, Array.replicate_zero, List.push_toArray, List.append_toArray, List.nil_append, List.cons_append]
  have hc0 := hB.cell
  have hwr : wrap64 ((ts.length : Int) - 1) = (ts.length : Int) - 1 := by unfold wrap64; omega
  have HB := hideP hB
  have HI := hideP hI
  have HY := hideP hY
  clear hB hI hY
  gi_wp2
  gi_loopw [3] (fun a wr => ∃ (k : Nat) (pre : List (Nat × Int)), a = .int .i64 ((k : Int) - 1) ∧ k ≤ ts.length ∧ itsB ts ts.length = pre ++ itsB ts k ∧ J pre wr ∧ Boxed wr bs 27 (.slice p ts.length c) ∧ IntsAt wr (.slice p ts.length c) ts) (fun a _ => (intOf a + 1).toNat)
  case atStart => exact ⟨ts.length, [], rfl, Nat.le_refl _, rfl, h0, HB.out, HI.out⟩
  case round =>
    obtain ⟨k, pre, rfl, hk, hit, hJ, hBx, hIx⟩ := hrel
    have HT := hideP hit
    clear hit
    have hcx := hBx.cell
    cases k with
    | zero =>
      rw [show ((0 : Nat) : Int) - 1 = -1 by omega]
      gi_wp2
      go_end0
      refine ⟨⟨_, rfl⟩, .inl ?_⟩
      exact ⟨pre, by rw [HT.out]; simp [itsB], hJ⟩
    | succ m =>
      rw [show ((m + 1 : Nat) : Int) - 1 = (m : Int) by omega]
      obtain ⟨z, hz⟩ := at_of_lt (show m < ts.length by omega)
      have hIx' := hIx
      obtain ⟨p', c', he, _, hcc⟩ := hIx'
      obtain ⟨b, off, hp, hbl, g⟩ := hcc m z hz
      cases he
      subst hp
      have hzd : ts.getD m 0 = z := by rw [List.getD_eq_getElem?_getD, hz]; rfl
      obtain ⟨fn, tmps, assign, body, hy, hR⟩ := HY.out pre (m, z) _ hJ (by rw [HT.out]; simp [itsB])
      dsimp only [encsB] at hy
      have hmt : (m : Int) < (ts.length : Int) := by omega
      have HZD := hideP hzd
      have HIX := hideP hIx
      have HBX := hideP hBx
      clear hcc hz hzd hIx hBx hJ
      gi_wp2
      refine hR.mono ?_
      rintro e W3 (⟨rfl, hJ3, hk3⟩ | ⟨rfl, hJx3⟩)
      · gi_wp2
        go_roundw
        case rel =>
          obtain ⟨b3, i3⟩ := hk3 ⟨HBX.out, HIX.out⟩
          refine ⟨m, pre ++ [(m, z)], by go_num, by omega, ?_, hJ3, b3, i3⟩
          rw [HT.out, itsB, HZD.out]; simp
        case measure => simp [intOf] <;> omega
      · gi_wp2
        refine bodyPost_ret (results_none rfl _ _ _) rfl ?_
        refine ⟨⟨_, rfl⟩, .inr ⟨_, ?_, hJx3⟩⟩
        rw [HT.out, itsB, HZD.out]
        exact ⟨itsB ts m, by simp⟩
set_option maxHeartbeats 1000000 in
theorem backward_any (p : Option Addr) (n c : Nat) (w : World) :
    Calls Tryz.prog 230 #[.slice p n c] w fun e w' => e = .returned (.func (.func 237) #[] #[.pointer (some ⟨w.heap.size, 0, none⟩)]) ∧ w' = w.alloc (.cells #[.slice p n c] 27) := by
  go_enter Tryz.func230, Tryz.ntmps230
  go_wp2
  go_ret
  exact ⟨rfl, rfl⟩
theorem backward_stops (n : Nat) (hn : 1 ≤ n) (bs : Nat) (ts : List Int) (p : Option Addr) (c : Nat) (hts : ts.length ≤ 100) (w : World) (hB : Boxed w bs 27 (.slice p ts.length c)) (hI : IntsAt w (.slice p ts.length c) ts) :
    SeqStopsK Fence.wide n Tryz.prog 237 #[.pointer (some ⟨bs, 0, none⟩)] encsB (KpB bs (.slice p ts.length c) ts) (fun ys => ys = itsB ts ts.length) (fun pre => pre <+: itsB ts ts.length) (itsB ts ts.length).length w :=
  fun l J Jx W hW hA _ hY h0 => back1_in n hn l bs ts p c hts J Jx W hY ((hW.block bs hB.lt).trans hB) (hI.below hW) h0
theorem kpB_t {bs : Nat} {v : Value} {ts : List Int} {A B C : World} (h : KpB bs v ts A B) (k : KpB bs v ts B C) : KpB bs v ts A C := fun x => k (h x)
theorem kpB_b {bs : Nat} {v : Value} {ts : List Int} {w : World} (W : World) (l : Nat) (o o' : Obj) (_ : w.heap.size ≤ l) (h : W.heap[l]? = some o) (ho : o.isCells = false) (_ : o.isWalk = false) : KpB bs v ts W (W.putObj l o') := fun ⟨x, y⟩ => by
  refine ⟨x.kept (grownBy_putObj' W l o') (fun e => by cases e; rw [show W.heap[bs]? = _ from x] at h; cases h; cases ho), ?_⟩
  obtain ⟨p, c, rfl, hm, hc⟩ := y
  refine ⟨p, c, rfl, hm, fun k z hk => ?_⟩
  obtain ⟨b, off, rfl, hb, g⟩ := hc k z hk
  have hg := grownBy_putObj' W l o'
  have hne : b ≠ l := fun e => by
    subst e
    obtain ⟨cs, t, fz, hcs, _⟩ := Sort.cells_of_cell? g
    rw [hcs] at h; cases h; cases ho
  exact ⟨b, off, rfl, Nat.lt_of_lt_of_le hb hg.size, hg.cell g (by simpa using hne)⟩
end Go.Proofs.YtcadpoknolefpaaGreat
