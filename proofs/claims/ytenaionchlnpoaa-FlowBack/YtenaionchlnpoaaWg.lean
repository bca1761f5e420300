/- op.each and its closure: the iterator's contract. -/
import Derived.RangeFuncNested
import Derived.RangeFuncBound
import Derived.RangeFuncCalls
import Derived.RangeFuncLeaves
import Derived.Shelf.Abstract
import Derived.Shelf.RegionOpen
import Derived.WalkKit
import Derived.OwnWalkIn
import Derived.TacticsInMore
import Derived.LoopNIn
import Derived.LoopIn
import Derived.Maps.AppendAt
import Derived.Test.YtenaionchlnpoaaWf
namespace Go.Proofs.Ytenaionchlnpoaa
open Go.RowKit Go.Shelf
set_option linter.unusedSimpArgs false
set_option linter.unusedVariables false
attribute [local go_sem] Oper.semAt_some
/-- what bytes tell, op by op: each with OK; where there is none, nothing with ErrForm, and no more. -/
def items : Nat → List UInt8 → List ((Int × Int) × Int)
  | 0, _ => []
  | _ + 1, [] => []
  | f + 1, b :: r => match firstOf (b :: r) with
    | none => [((0, 0), 1)]
    | some (o, n) => (o, 0) :: items f ((b :: r).drop n)
theorem items_nil (f : Nat) : items f [] = [] := by cases f <;> rfl
theorem items_none (f : Nat) (l : List UInt8) (h0 : l ≠ []) (h : firstOf l = none) : items (f + 1) l = [((0, 0), 1)] := by
  cases l with
  | nil => exact absurd rfl h0
  | cons b r => simp [items, h]
theorem items_some (f : Nat) (l : List UInt8) (o : Int × Int) (n : Nat) (h : firstOf l = some (o, n)) : items (f + 1) l = (o, 0) :: items f (l.drop n) := by
  cases l with
  | nil => simp [firstOf] at h
  | cons b r => simp [items, h]
theorem firstOf_size (l : List UInt8) (o : Int × Int) (n : Nat) (h : firstOf l = some (o, n)) : 1 ≤ n ∧ n ≤ l.length := by
  cases l with
  | nil => simp [firstOf] at h
  | cons b r =>
    simp only [firstOf] at h
    by_cases h1 : isCode b.toNat = false
    · simp [h1] at h
    · by_cases h2 : hasA b.toNat = true
      · by_cases h3 : r.length < 4
        · simp [h1, h2, h3] at h
        · simp [h1, h2, h3] at h; obtain ⟨_, rfl⟩ := h; simp; omega
      · simp [h1, h2] at h; obtain ⟨_, rfl⟩ := h; simp
theorem grown_of_below {w w' : World} (h : Below w.heap.size w w') : w.grownBy w' none := ⟨h.os, h.tape, h.output, h.size, fun k hk _ => h.block k hk⟩
/-- the box of the text stays as it is. -/
def KpS (bs : Nat) (s : ByteArray) (W W' : World) : Prop := Boxed W bs 9 (.string s) → Boxed W' bs 9 (.string s)
abbrev encsI (x : (Int × Int) × Int) : Array Value := #[.agg #[.int .i64 x.1.1, .int .i64 x.1.2], .int .i64 x.2]
set_option maxRecDepth 100000 in
set_option maxHeartbeats 2000000 in
theorem each1_in (n : Nat) (hn : 1 ≤ n) (l bs : Nat) (s : ByteArray) (hm : s.size ≤ maxLen) (J Jx : List ((Int × Int) × Int) → World → Prop) (W : World) (hA : AbidesFrom W.heap.size J)
    (hY : ∀ pre x W1, J pre W1 → pre.length < (items s.size s.data.toList).length → YieldAt Fence.wide (n - 1) Try.prog l (encsI x) W1 fun e W' =>
      (e = .returned (.bool true) ∧ J (pre ++ [x]) W' ∧ KpS bs s W1 W') ∨ (e = .returned (.bool false) ∧ Jx (pre ++ [x]) W'))
    (hB : Boxed W bs 9 (.string s)) (h0 : J [] W) :
    CallsIn Fence.wide n Try.prog 60 #[.func (.yield l) #[] #[], .pointer (some ⟨bs, 0, none⟩)] W fun e W' => (∃ v, e = .returned v) ∧
      ((∃ ys, ys = items s.size s.data.toList ∧ J ys W') ∨ (∃ pre, pre <+: items s.size s.data.toList ∧ Jx pre W')) := by
  unfold maxLen at hm
  refine callsIn_of_wp Try.func60 rfl trivial ?_ rfl
  simp only [Try.ntmps60, List.size_toArray, List.length_cons, List.length_nil, Nat.reduceAdd, Nat.reduceSub, Array.replicate_succ, Array.replicate_zero, List.push_toArray, List.append_toArray, List.nil_append, List.cons_append]
  gi_wp2
  gi_loopw [3, 4, 5, 6] (fun a _ _ _ wr => ∃ (k f : Nat) (pre : List ((Int × Int) × Int)), a = .int .i64 k ∧ k ≤ s.size ∧ s.size ≤ k + f ∧ items s.size s.data.toList = pre ++ items f (s.data.toList.drop k) ∧ J pre wr ∧ Boxed wr bs 9 (.string s)) (fun a _ _ _ _ => s.size - (intOf a).toNat)
  case atStart => exact ⟨0, s.size, [], rfl, Nat.zero_le _, by omega, by simp, h0, hB⟩
  case round =>
    obtain ⟨k, f, pre, rfl, hk, hf, hit, hJ, hBx⟩ := hrel
    have HI : Hid (items s.size s.data.toList = pre ++ items f (s.data.toList.drop k)) := hit
    clear hit
    have hc := hBx.cell
    by_cases hlt : k < s.size
    · have hx : (s.extract k s.size).data.toList = s.data.toList.drop k := by
        rw [Lib.extract_data, List.take_of_length_le (by simp)]
      have hne : s.data.toList.drop k ≠ [] := by simp; omega
      obtain ⟨f, rfl⟩ : ∃ g, f = g + 1 := ⟨f - 1, by omega⟩
      cases hfo : firstOf (s.data.toList.drop k) with
      | none =>
        have hno := first_none (s.extract k s.size)
        rw [hx] at hno
        rw [items_none f _ hne hfo] at HI
        have HF : Hid (firstOf (s.data.toList.drop k) = none) := hfo
        have HN : Hid (∀ (w : World), 0 < (s.extract k s.size).size → (s.extract k s.size).size ≤ maxLen → firstOf (s.data.toList.drop k) = none → Calls Try.prog 61 #[.string (s.extract k s.size)] w fun e w' => e = .returned (.tuple #[.agg #[.int .i64 0, .int .i64 0], .int .i64 0, .int .i64 1]) ∧ Below w.heap.size w w') := hno
        clear hno hfo
        gi_wp2_with fail
        refine ⟨trivial, ?_⟩
        refine (callsIn_wide.2 (HN.out wr (by simp; omega) (by unfold maxLen; simp; omega) HF.out)).mono ?_
        rintro e w2 ⟨rfl, hb2⟩
        have hJ2 : J pre (w2.alloc (.cells #[.int .i64 0, .int .i64 0] 23)) := hA _ _ _ none (hA _ _ _ none hJ (grown_of_below hb2) (fun r e => by cases e)) (World.grownBy_alloc _ _ _) (fun r e => by cases e)
        obtain ⟨fn, tmps, assign, body, hy, hR⟩ := hY pre ((0, 0), 1) _ hJ2 (by rw [HI.out]; simp)
        dsimp only [encsI] at hy
        clear hJ2 hJ HN
        gi_wp2
        refine hR.mono ?_
        rintro e W3 (⟨rfl, hJ3, hk3⟩ | ⟨rfl, hJx3⟩)
        · gi_wp2
          refine bodyPost_ret (results_none rfl _ _ _) rfl ?_
          refine ⟨⟨_, rfl⟩, .inl ?_⟩
          exact ⟨_, HI.out.symm, hJ3⟩
        · gi_wp2
          refine bodyPost_ret (results_none rfl _ _ _) rfl ?_
          exact ⟨⟨_, rfl⟩, .inr ⟨_, by rw [HI.out]; exact List.prefix_refl _, hJx3⟩⟩
      | some p =>
        obtain ⟨⟨c, a⟩, m⟩ := p
        obtain ⟨hm1, hm2⟩ := firstOf_size _ _ _ hfo
        have hm3 : m ≤ s.size - k := by simpa using hm2
        have hso := fun w h0 hm h => first_some (s.extract k s.size) w c a m h0 hm h
        rw [hx] at hso
        rw [items_some f _ _ _ hfo] at HI
        have HF : Hid (firstOf (s.data.toList.drop k) = some ((c, a), m)) := hfo
        have HN : Hid (∀ (w : World), 0 < (s.extract k s.size).size → (s.extract k s.size).size ≤ maxLen → firstOf (s.data.toList.drop k) = some ((c, a), m) → Calls Try.prog 61 #[.string (s.extract k s.size)] w fun e w' => e = .returned (.tuple #[.agg #[.int .i64 c, .int .i64 a], .int .i64 m, .int .i64 0]) ∧ Below w.heap.size w w') := hso
        clear hso hfo
        gi_wp2_with fail
        refine ⟨trivial, ?_⟩
        refine (callsIn_wide.2 (HN.out wr (by simp; omega) (by unfold maxLen; simp; omega) HF.out)).mono ?_
        rintro e w2 ⟨rfl, hb2⟩
        have hg2 : wr.grownBy (w2.alloc (.cells #[.int .i64 c, .int .i64 a] 23)) none := grown_of_below ((hb2.alloc hb2.size _))
        have hJ2 : J pre (w2.alloc (.cells #[.int .i64 c, .int .i64 a] 23)) := hA _ _ _ none hJ hg2 (fun r e => by cases e)
        have hB2 : Boxed (w2.alloc (.cells #[.int .i64 c, .int .i64 a] 23)) bs 9 (.string s) := hBx.kept hg2 (by simp)
        obtain ⟨fn, tmps, assign, body, hy, hR⟩ := hY pre ((c, a), 0) _ hJ2 (by rw [HI.out]; simp)
        dsimp only [encsI] at hy
        clear hJ2 hJ HN
        gi_wp2
        refine hR.mono ?_
        rintro e W3 (⟨rfl, hJ3, hk3⟩ | ⟨rfl, hJx3⟩)
        · gi_wp2
          go_roundw
          case rel =>
            refine ⟨k + m, f, pre ++ [((c, a), 0)], by go_num, by omega, by omega, ?_, hJ3, hk3 hB2⟩
            rw [HI.out, List.drop_drop]; simp
          case measure => simp [intOf]; omega
        · gi_wp2
          refine bodyPost_ret (results_none rfl _ _ _) rfl ?_
          exact ⟨⟨_, rfl⟩, .inr ⟨_, by rw [HI.out]; simp, hJx3⟩⟩
    · have hlt' : ¬ (k : Int) < (s.size : Int) := by omega
      gi_wp2
      go_end0
      refine ⟨⟨_, rfl⟩, .inl ?_⟩
      rw [HI.out, List.drop_eq_nil_of_le (by simp; omega), items_nil, List.append_nil]
      exact hJ
set_option maxHeartbeats 1000000 in
theorem each_any (s : ByteArray) (w : World) :
    Calls Try.prog 36 #[.string s] w fun e w' => e = .returned (.func (.func 60) #[] #[.pointer (some ⟨w.heap.size, 0, none⟩)]) ∧ w' = w.alloc (.cells #[.string s] 9) := by
  go_enter Try.func36, Try.ntmps36
  go_wp2
  go_ret
  exact ⟨rfl, rfl⟩
theorem each_stops (n : Nat) (hn : 1 ≤ n) (bs : Nat) (s : ByteArray) (hm : s.size ≤ maxLen) (w : World) (hB : Boxed w bs 9 (.string s)) :
    SeqStopsK Fence.wide n Try.prog 60 #[.pointer (some ⟨bs, 0, none⟩)] encsI (KpS bs s) (fun ys => ys = items s.size s.data.toList) (fun pre => pre <+: items s.size s.data.toList) (items s.size s.data.toList).length w :=
  fun l J Jx W hW hA _ hY h0 => each1_in n hn l bs s hm J Jx W hA hY ((hW.block bs hB.lt).trans hB) h0
theorem kpS_t {bs : Nat} {s : ByteArray} {A B C : World} (h : KpS bs s A B) (k : KpS bs s B C) : KpS bs s A C := fun x => k (h x)
theorem kpS_b {bs : Nat} {s : ByteArray} {w : World} (W : World) (l : Nat) (o o' : Obj) (_ : w.heap.size ≤ l) (h : W.heap[l]? = some o) (ho : o.isCells = false) (_ : o.isWalk = false) : KpS bs s W (W.putObj l o') := fun x =>
  x.kept (grownBy_putObj' W l o') (fun e => by cases e; rw [show W.heap[bs]? = _ from x] at h; cases h; cases ho)
end Go.Proofs.Ytenaionchlnpoaa

