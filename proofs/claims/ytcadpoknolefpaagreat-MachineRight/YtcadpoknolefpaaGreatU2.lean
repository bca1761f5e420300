/- My texts Wf Wg Wh Wi Wj Ap Mp, joined. -/
import Derived.Lib.Strings
import Derived.RangeFuncNested
import Derived.RangeFuncBound
import Derived.RangeFuncCalls
import Derived.RangeFuncLeaves
import Derived.Shelf.Abstract
import Derived.Shelf.RegionOpen
import Derived.WalkKit
import Derived.OwnWalkIn
import Derived.TacticsInMore
import Derived.LoopNIn
import Derived.LoopIn
import Derived.Maps.AppendAt
import Derived.Laws.StructEq
import Derived.Deep.QuietTactic
import Derived.BigQuiet
import Derived.Laws.AppendOwnNone
import Derived.Test.YtcadpoknolefpaaGreatU1
/- octet.Number and op.first. -/
namespace Go.Proofs.YtcadpoknolefpaaGreat
open Go.RowKit
set_option linter.unusedSimpArgs false
set_option linter.unusedVariables false
/-- the number that bytes tell, the greatest one first. -/
def numOf (l : List UInt8) : Nat := l.foldl (fun n b => 256 * n + b.toNat) 0
theorem numOf_snoc (l : List UInt8) (b : UInt8) : numOf (l ++ [b]) = 256 * numOf l + b.toNat := by simp [numOf]
theorem foldl_lt (l : List UInt8) : ∀ (n k : Nat), n < 256 ^ k → l.foldl (fun n b => 256 * n + b.toNat) n < 256 ^ (k + l.length) := by
  induction l with
  | nil => intro n k h; simpa using h
  | cons b r ih =>
    intro n k h
    have := ih (256 * n + b.toNat) (k + 1) (by have := b.toNat_lt; rw [Nat.pow_succ]; omega)
    rw [List.length_cons, show k + (r.length + 1) = k + 1 + r.length from by omega]
    exact this
theorem numOf_lt (l : List UInt8) : numOf l < 256 ^ l.length := by
  have := foldl_lt l 0 0 (by simp)
  simpa [numOf] using this
theorem numOf_small (l : List UInt8) (h : l.length ≤ 4) : numOf l < 4294967296 :=
  Nat.lt_of_lt_of_le (numOf_lt l) (by have := Nat.pow_le_pow_right (n := 256) (by omega) h; simpa using this)
theorem ofInt64 (n : Nat) (h : n < 9223372036854775808) : (BitVec.ofInt 64 (n : Int)).toNat = n := by
  rw [BitVec.toNat_ofInt]; omega
theorem or_byte (n b : Nat) (hn : n < 4294967296) (hb : b < 256) : bits .or .i64 (wrap64 ((n : Int) * 256)) (wrap64 (b : Int)) = ((256 * n + b : Nat) : Int) := by
  rw [IntWalk.wrap64_in _ (by omega), IntWalk.wrap64_in _ (by omega)]
  have e : ((n : Int) * 256) = ((n * 256 : Nat) : Int) := by omega
  rw [e]
  show IntKind.i64.wrap ((BitVec.ofInt 64 ((n * 256 : Nat) : Int) ||| BitVec.ofInt 64 (b : Int)).toNat : Int) = _
  rw [BitVec.toNat_or, ofInt64 _ (by omega), ofInt64 _ (by omega)]
  have h2 := Nat.shiftLeft_add_eq_or_of_lt (a := n) (b := b) (i := 8) (by simpa using hb)
  rw [Nat.shiftLeft_eq] at h2
  rw [show n * 256 = n * 2 ^ 8 from rfl, ← h2, IntKind.wrap_i64]
  omega
theorem bytes_snoc (s : ByteArray) (k : Nat) (h : k < s.size) : s.data.toList.take (k + 1) = s.data.toList.take k ++ [s[k]] := by
  rw [List.take_succ_eq_append_getElem (by simpa using h)]; rfl
set_option maxHeartbeats 1000000 in
theorem number_any (s : ByteArray) (w : World) (hs : s.size ≤ 4) : Calls Tryz.prog 212 #[.string s] w fun e w' => e = .returned (.int .i64 (numOf s.data.toList)) ∧ w' = w := by
  go_enter Tryz.func212, Tryz.ntmps212
  go_wp2
  go_loop [3, 4, 7] (fun n _ i => ∃ k : Nat, k ≤ s.size ∧ i = .int .i64 k ∧ n = .int .i64 (numOf (s.data.toList.take k))) (fun _ _ i => s.size - (intOf i).toNat)
  case atStart => exact ⟨0, Nat.zero_le _, rfl, rfl⟩
  case round =>
    obtain ⟨k, hk, rfl, rfl⟩ := hrel
    by_cases hlt : k < s.size
    · have HE : Hid (bits BinOp.or IntKind.i64 (wrap64 ((numOf (List.take k s.data.toList) : Int) * 256)) (wrap64 (s[k].toNat : Int)) = ((numOf (s.data.toList.take (k + 1)) : Nat) : Int)) := by
        have hl := numOf_small (s.data.toList.take k) (by rw [List.length_take]; simp; omega)
        show _ = _
        rw [or_byte _ _ hl (s[k].toNat_lt), bytes_snoc s k hlt, numOf_snoc]
      go_wp2
      go_round
      case rel => exact ⟨k + 1, by omega, by go_num, by rw [HE.out]⟩
      case measure => simp [intOf]; omega
    · have hlt' : ¬ (k : Int) < (s.size : Int) := by omega
      go_wp2
      go_ret
      exact ⟨ret_int (by rw [List.take_of_length_le (by simp; omega)]), rfl⟩
/-- the first op that bytes tell, and how many bytes it has. -/
def firstOf : List UInt8 → Option ((Int × Int) × Nat)
  | [] => none
  | b :: r => if isCode b.toNat = false then none else if hasA b.toNat then (if r.length < 4 then none else some ((b.toNat, wrap32 (numOf (r.take 4))), 5)) else some ((b.toNat, 0), 1)
theorem firstOf_at (s : ByteArray) (h0 : 0 < s.size) : firstOf s.data.toList = if isCode (s[0].toNat : Int) = false then none else if hasA (s[0].toNat : Int) then (if s.size < 5 then none else some (((s[0].toNat : Int), wrap32 (numOf ((s.data.toList.drop 1).take 4))), 5)) else some (((s[0].toNat : Int), 0), 1) := by
  have hl : s.data.toList.length = s.size := by simp
  have hg : s.data.toList[0]'(by omega) = s[0] := rfl
  cases hs : s.data.toList with
  | nil => rw [hs] at hl; simp at hl; omega
  | cons b r =>
    have hb : b = s[0] := by rw [← hg]; simp [hs]
    rw [hs] at hl
    simp only [List.length_cons] at hl
    rw [← hb]
    simp only [firstOf, List.drop_succ_cons, List.drop_zero]
    have e : (r.length < 4) ↔ (s.size < 5) := by omega
    simp only [e]
set_option maxHeartbeats 1000000 in
theorem first_none (s : ByteArray) (w : World) (h0 : 0 < s.size) (hm : s.size ≤ maxLen) (h : firstOf s.data.toList = none) : Calls Tryz.prog 154 #[.string s] w fun e w' => e = .returned (.tuple #[.agg #[.int .i64 0, .int .i64 0], .int .i64 0, .int .i64 1]) ∧ Below w.heap.size w w' := by
  unfold maxLen at hm
  rw [firstOf_at s h0] at h
  obtain ⟨c, hc⟩ : ∃ c : Int, (s[0].toNat : Int) = c := ⟨_, rfl⟩
  have hc0 : 0 ≤ c := by omega
  have hc1 : c ≤ 255 := by have := s[0].toNat_lt; omega
  rw [hc] at h
  have hW : ∀ o1 o2 (p : Addr) u, w.heap.size ≤ p.block → Below w.heap.size w (((w.alloc o1).alloc o2).setCell p u) := fun o1 o2 p u hp => (((Below.refl _ w).alloc (Nat.le_refl _) _).alloc (by simp) _).setCell hp _
  cases hk : isCode c
  · clear h
    cases hh : hasA c
    all_goals
      go_enter Tryz.func154, Tryz.ntmps154
      go_wp2_with (first | (go_at_call 115; refine (known_any _ _).mono ?_; rintro e w' ⟨rfl, hw⟩; have hw := hw.symm; subst hw) | (go_at_call 116; refine (namesA_any _ _).mono ?_; rintro e w' ⟨rfl, hw⟩; have hw := hw.symm; subst hw) | (go_at_call 212; refine (number_any _ _ (by simp)).mono ?_; rintro e w' ⟨rfl, hw⟩; have hw := hw.symm; subst hw) | (go_at_call 28; refine (wrap_any _ _).mono ?_; rintro e w' ⟨rfl, hw⟩; have hw := hw.symm; subst hw))
      exact bodyPost_ret (v := .tuple #[.agg #[.int .i64 0, .int .i64 0], .int .i64 0, .int .i64 1]) (by simp [results, Tryz.results154, go_sem]) rfl ⟨rfl, ((Below.refl _ w).alloc (Nat.le_refl _) _).alloc (by simp) _⟩
  · rw [hk] at h
    cases hh : hasA c
    · simp [hh] at h
    · rw [hh] at h
      have h5 : s.size < 5 := by
        by_cases h5 : s.size < 5
        · exact h5
        · simp [h5] at h
      clear h
      have h5' : (s.size : Int) < 5 := by omega
      go_enter Tryz.func154, Tryz.ntmps154
      go_wp2_with (first | (go_at_call 115; refine (known_any _ _).mono ?_; rintro e w' ⟨rfl, hw⟩; have hw := hw.symm; subst hw) | (go_at_call 116; refine (namesA_any _ _).mono ?_; rintro e w' ⟨rfl, hw⟩; have hw := hw.symm; subst hw) | (go_at_call 212; refine (number_any _ _ (by simp)).mono ?_; rintro e w' ⟨rfl, hw⟩; have hw := hw.symm; subst hw) | (go_at_call 28; refine (wrap_any _ _).mono ?_; rintro e w' ⟨rfl, hw⟩; have hw := hw.symm; subst hw))
      exact bodyPost_ret (v := .tuple #[.agg #[.int .i64 0, .int .i64 0], .int .i64 0, .int .i64 1]) (by simp [results, Tryz.results154, go_sem]) rfl ⟨rfl, ((Below.refl _ w).alloc (Nat.le_refl _) _).alloc (by simp) _⟩
set_option maxHeartbeats 1000000 in
theorem first_some (s : ByteArray) (w : World) (c a : Int) (n : Nat) (h0 : 0 < s.size) (hm : s.size ≤ maxLen) (h : firstOf s.data.toList = some ((c, a), n)) : Calls Tryz.prog 154 #[.string s] w fun e w' => e = .returned (.tuple #[.agg #[.int .i64 c, .int .i64 a], .int .i64 n, .int .i64 0]) ∧ Below w.heap.size w w' := by
  unfold maxLen at hm
  rw [firstOf_at s h0] at h
  obtain ⟨d, hc⟩ : ∃ d : Int, (s[0].toNat : Int) = d := ⟨_, rfl⟩
  have hc0 : 0 ≤ d := by omega
  have hc1 : d ≤ 255 := by have := s[0].toNat_lt; omega
  rw [hc] at h
  cases hk : isCode d
  · simp [hk] at h
  · rw [hk] at h
    cases hh : hasA d
    · simp [hh] at h
      obtain ⟨⟨rfl, rfl⟩, rfl⟩ := h
      have hlt' : ¬ (s.size : Int) < 1 := by omega
      go_enter Tryz.func154, Tryz.ntmps154
      go_wp2_with (first | (go_at_call 115; refine (known_any _ _).mono ?_; rintro e w' ⟨rfl, hw⟩; have hw := hw.symm; subst hw) | (go_at_call 116; refine (namesA_any _ _).mono ?_; rintro e w' ⟨rfl, hw⟩; have hw := hw.symm; subst hw))
      refine (number_any _ _ (by simp)).mono ?_
      rintro e w' ⟨rfl, hw⟩
      have hw := hw.symm
      subst hw
      have hn : numOf ByteArray.empty.data.toList = 0 := by decide
      rw [hn]
      go_wp2_with (go_at_call 28; refine (wrap_any _ _).mono ?_; rintro e w' ⟨rfl, hw⟩; have hw := hw.symm; subst hw)
      have hz : wrap32 ((0 : Nat) : Int) = 0 := by unfold wrap32; omega
      exact bodyPost_ret (v := .tuple #[.agg #[.int .i64 d, .int .i64 0], .int .i64 ((1 : Nat) : Int), .int .i64 0]) (by simp [results, Tryz.results154, go_sem]; try (exact hz)) rfl ⟨rfl, ((Below.refl _ w).alloc (Nat.le_refl _) _).alloc (by simp) _⟩
    · rw [hh] at h
      have h5 : ¬ s.size < 5 := by
        intro h5
        simp [h5] at h
      simp [h5] at h
      obtain ⟨⟨rfl, rfl⟩, rfl⟩ := h
      have h5' : ¬ (s.size : Int) < 5 := by omega
      go_enter Tryz.func154, Tryz.ntmps154
      go_wp2_with (first | (go_at_call 115; refine (known_any _ _).mono ?_; rintro e w' ⟨rfl, hw⟩; have hw := hw.symm; subst hw) | (go_at_call 116; refine (namesA_any _ _).mono ?_; rintro e w' ⟨rfl, hw⟩; have hw := hw.symm; subst hw))
      have hx : (s.extract 1 5).data.toList = s.data.toList.tail.take 4 := by
        rw [Lib.extract_data, List.drop_one]
      refine (number_any _ _ (by simp; omega)).mono ?_
      rintro e w' ⟨rfl, hw⟩
      have hw := hw.symm
      subst hw
      rw [hx]
      go_wp2_with (go_at_call 28; refine (wrap_any _ _).mono ?_; rintro e w' ⟨rfl, hw⟩; have hw := hw.symm; subst hw)
      exact bodyPost_ret (v := .tuple #[.agg #[.int .i64 d, .int .i64 (wrap32 (numOf (s.data.toList.tail.take 4)))], .int .i64 ((5 : Nat) : Int), .int .i64 0]) (by simp [results, Tryz.results154, go_sem]) rfl ⟨rfl, ((Below.refl _ w).alloc (Nat.le_refl _) _).alloc (by simp) _⟩
end Go.Proofs.YtcadpoknolefpaaGreat
/- op.each and its closure: the iterator's contract. -/
namespace Go.Proofs.YtcadpoknolefpaaGreat
open Go.RowKit Go.Shelf
set_option linter.unusedSimpArgs false
set_option linter.unusedVariables false
attribute [local go_sem] Oper.semAt_some
/-- what bytes tell, op by op: each with OK; where there is none, nothing with ErrForm, and no more. -/
def items : Nat → List UInt8 → List ((Int × Int) × Int)
  | 0, _ => []
  | _ + 1, [] => []
  | f + 1, b :: r => match firstOf (b :: r) with
    | none => [((0, 0), 1)]
    | some (o, n) => (o, 0) :: items f ((b :: r).drop n)
theorem items_nil (f : Nat) : items f [] = [] := by cases f <;> rfl
theorem items_none (f : Nat) (l : List UInt8) (h0 : l ≠ []) (h : firstOf l = none) : items (f + 1) l = [((0, 0), 1)] := by
  cases l with
  | nil => exact absurd rfl h0
  | cons b r => simp [items, h]
theorem items_some (f : Nat) (l : List UInt8) (o : Int × Int) (n : Nat) (h : firstOf l = some (o, n)) : items (f + 1) l = (o, 0) :: items f (l.drop n) := by
  cases l with
  | nil => simp [firstOf] at h
  | cons b r => simp [items, h]
theorem firstOf_size (l : List UInt8) (o : Int × Int) (n : Nat) (h : firstOf l = some (o, n)) : 1 ≤ n ∧ n ≤ l.length := by
  cases l with
  | nil => simp [firstOf] at h
  | cons b r =>
    simp only [firstOf] at h
    by_cases h1 : isCode b.toNat = false
    · simp [h1] at h
    · by_cases h2 : hasA b.toNat = true
      · by_cases h3 : r.length < 4
        · simp [h1, h2, h3] at h
        · simp [h1, h2, h3] at h; obtain ⟨_, rfl⟩ := h; simp; omega
      · simp [h1, h2] at h; obtain ⟨_, rfl⟩ := h; simp
theorem grown_of_below {w w' : World} (h : Below w.heap.size w w') : w.grownBy w' none := ⟨h.os, h.tape, h.output, h.size, fun k hk _ => h.block k hk⟩
/-- the box of the text stays as it is. -/
def KpS (bs : Nat) (s : ByteArray) (W W' : World) : Prop := Boxed W bs 9 (.string s) → Boxed W' bs 9 (.string s)
abbrev encsI (x : (Int × Int) × Int) : Array Value := #[.agg #[.int .i64 x.1.1, .int .i64 x.1.2], .int .i64 x.2]
set_option maxRecDepth 100000 in
set_option maxHeartbeats 2000000 in
theorem each1_in (n : Nat) (hn : 1 ≤ n) (l bs : Nat) (s : ByteArray) (hm : s.size ≤ maxLen) (J Jx : List ((Int × Int) × Int) → World → Prop) (W : World) (hA : AbidesFrom W.heap.size J)
    (hY : ∀ pre x W1, J pre W1 → pre.length < (items s.size s.data.toList).length → YieldAt Fence.wide (n - 1) Tryz.prog l (encsI x) W1 fun e W' =>
      (e = .returned (.bool true) ∧ J (pre ++ [x]) W' ∧ KpS bs s W1 W') ∨ (e = .returned (.bool false) ∧ Jx (pre ++ [x]) W'))
    (hB : Boxed W bs 9 (.string s)) (h0 : J [] W) :
    CallsIn Fence.wide n Tryz.prog 153 #[.func (.yield l) #[] #[], .pointer (some ⟨bs, 0, none⟩)] W fun e W' => (∃ v, e = .returned v) ∧
      ((∃ ys, ys = items s.size s.data.toList ∧ J ys W') ∨ (∃ pre, pre <+: items s.size s.data.toList ∧ Jx pre W')) := by
  unfold maxLen at hm
  refine callsIn_of_wp Tryz.func153 rfl trivial ?_ rfl
  simp only [Tryz.ntmps153, List.size_toArray, List.length_cons, List.length_nil, Nat.reduceAdd, Nat.reduceSub, Array.replicate_succ, Array.replicate_zero, List.push_toArray, List.append_toArray, List.nil_append, List.cons_append]
  gi_wp2
  gi_loopw [3, 4, 5, 6] (fun a _ _ _ wr => ∃ (k f : Nat) (pre : List ((Int × Int) × Int)), a = .int .i64 k ∧ k ≤ s.size ∧ s.size ≤ k + f ∧ items s.size s.data.toList = pre ++ items f (s.data.toList.drop k) ∧ J pre wr ∧ Boxed wr bs 9 (.string s)) (fun a _ _ _ _ => s.size - (intOf a).toNat)
  case atStart => exact ⟨0, s.size, [], rfl, Nat.zero_le _, by omega, by simp, h0, hB⟩
  case round =>
    obtain ⟨k, f, pre, rfl, hk, hf, hit, hJ, hBx⟩ := hrel
    have HI : Hid (items s.size s.data.toList = pre ++ items f (s.data.toList.drop k)) := hit
    clear hit
    have hc := hBx.cell
    by_cases hlt : k < s.size
    · have hx : (s.extract k s.size).data.toList = s.data.toList.drop k := by
        rw [Lib.extract_data, List.take_of_length_le (by simp)]
      have hne : s.data.toList.drop k ≠ [] := by simp; omega
      obtain ⟨f, rfl⟩ : ∃ g, f = g + 1 := ⟨f - 1, by omega⟩
      cases hfo : firstOf (s.data.toList.drop k) with
      | none =>
        have hno := first_none (s.extract k s.size)
        rw [hx] at hno
        rw [items_none f _ hne hfo] at HI
        have HF : Hid (firstOf (s.data.toList.drop k) = none) := hfo
        have HN : Hid (∀ (w : World), 0 < (s.extract k s.size).size → (s.extract k s.size).size ≤ maxLen → firstOf (s.data.toList.drop k) = none → Calls Tryz.prog 154 #[.string (s.extract k s.size)] w fun e w' => e = .returned (.tuple #[.agg #[.int .i64 0, .int .i64 0], .int .i64 0, .int .i64 1]) ∧ Below w.heap.size w w') := hno
        clear hno hfo
        gi_wp2_with fail
        refine ⟨trivial, ?_⟩
        refine (callsIn_wide.2 (HN.out wr (by simp; omega) (by unfold maxLen; simp; omega) HF.out)).mono ?_
        rintro e w2 ⟨rfl, hb2⟩
        have hJ2 : J pre (w2.alloc (.cells #[.int .i64 0, .int .i64 0] 43)) := hA _ _ _ none (hA _ _ _ none hJ (grown_of_below hb2) (fun r e => by cases e)) (World.grownBy_alloc _ _ _) (fun r e => by cases e)
        obtain ⟨fn, tmps, assign, body, hy, hR⟩ := hY pre ((0, 0), 1) _ hJ2 (by rw [HI.out]; simp)
        dsimp only [encsI] at hy
        clear hJ2 hJ HN
        gi_wp2
        refine hR.mono ?_
        rintro e W3 (⟨rfl, hJ3, hk3⟩ | ⟨rfl, hJx3⟩)
        · gi_wp2
          refine bodyPost_ret (results_none rfl _ _ _) rfl ?_
          refine ⟨⟨_, rfl⟩, .inl ?_⟩
          exact ⟨_, HI.out.symm, hJ3⟩
        · gi_wp2
          refine bodyPost_ret (results_none rfl _ _ _) rfl ?_
          exact ⟨⟨_, rfl⟩, .inr ⟨_, by rw [HI.out]; exact List.prefix_refl _, hJx3⟩⟩
      | some p =>
        obtain ⟨⟨c, a⟩, m⟩ := p
        obtain ⟨hm1, hm2⟩ := firstOf_size _ _ _ hfo
        have hm3 : m ≤ s.size - k := by simpa using hm2
        have hso := fun w h0 hm h => first_some (s.extract k s.size) w c a m h0 hm h
        rw [hx] at hso
        rw [items_some f _ _ _ hfo] at HI
        have HF : Hid (firstOf (s.data.toList.drop k) = some ((c, a), m)) := hfo
        have HN : Hid (∀ (w : World), 0 < (s.extract k s.size).size → (s.extract k s.size).size ≤ maxLen → firstOf (s.data.toList.drop k) = some ((c, a), m) → Calls Tryz.prog 154 #[.string (s.extract k s.size)] w fun e w' => e = .returned (.tuple #[.agg #[.int .i64 c, .int .i64 a], .int .i64 m, .int .i64 0]) ∧ Below w.heap.size w w') := hso
        clear hso hfo
        gi_wp2_with fail
        refine ⟨trivial, ?_⟩
        refine (callsIn_wide.2 (HN.out wr (by simp; omega) (by unfold maxLen; simp; omega) HF.out)).mono ?_
        rintro e w2 ⟨rfl, hb2⟩
        have hg2 : wr.grownBy (w2.alloc (.cells #[.int .i64 c, .int .i64 a] 43)) none := grown_of_below ((hb2.alloc hb2.size _))
        have hJ2 : J pre (w2.alloc (.cells #[.int .i64 c, .int .i64 a] 43)) := hA _ _ _ none hJ hg2 (fun r e => by cases e)
        have hB2 : Boxed (w2.alloc (.cells #[.int .i64 c, .int .i64 a] 43)) bs 9 (.string s) := hBx.kept hg2 (by simp)
        obtain ⟨fn, tmps, assign, body, hy, hR⟩ := hY pre ((c, a), 0) _ hJ2 (by rw [HI.out]; simp)
        dsimp only [encsI] at hy
        clear hJ2 hJ HN
        gi_wp2
        refine hR.mono ?_
        rintro e W3 (⟨rfl, hJ3, hk3⟩ | ⟨rfl, hJx3⟩)
        · gi_wp2
          go_roundw
          case rel =>
            refine ⟨k + m, f, pre ++ [((c, a), 0)], by go_num, by omega, by omega, ?_, hJ3, hk3 hB2⟩
            rw [HI.out, List.drop_drop]; simp
          case measure => simp [intOf]; omega
        · gi_wp2
          refine bodyPost_ret (results_none rfl _ _ _) rfl ?_
          exact ⟨⟨_, rfl⟩, .inr ⟨_, by rw [HI.out]; simp, hJx3⟩⟩
    · have hlt' : ¬ (k : Int) < (s.size : Int) := by omega
      gi_wp2
      go_end0
      refine ⟨⟨_, rfl⟩, .inl ?_⟩
      rw [HI.out, List.drop_eq_nil_of_le (by simp; omega), items_nil, List.append_nil]
      exact hJ
set_option maxHeartbeats 1000000 in
theorem each_any (s : ByteArray) (w : World) :
    Calls Tryz.prog 114 #[.string s] w fun e w' => e = .returned (.func (.func 153) #[] #[.pointer (some ⟨w.heap.size, 0, none⟩)]) ∧ w' = w.alloc (.cells #[.string s] 9) := by
  go_enter Tryz.func114, Tryz.ntmps114
  go_wp2
  go_ret
  exact ⟨rfl, rfl⟩
theorem each_stops (n : Nat) (hn : 1 ≤ n) (bs : Nat) (s : ByteArray) (hm : s.size ≤ maxLen) (w : World) (hB : Boxed w bs 9 (.string s)) :
    SeqStopsK Fence.wide n Tryz.prog 153 #[.pointer (some ⟨bs, 0, none⟩)] encsI (KpS bs s) (fun ys => ys = items s.size s.data.toList) (fun pre => pre <+: items s.size s.data.toList) (items s.size s.data.toList).length w :=
  fun l J Jx W hW hA _ hY h0 => each1_in n hn l bs s hm J Jx W hA hY ((hW.block bs hB.lt).trans hB) h0
theorem kpS_t {bs : Nat} {s : ByteArray} {A B C : World} (h : KpS bs s A B) (k : KpS bs s B C) : KpS bs s A C := fun x => k (h x)
theorem kpS_b {bs : Nat} {s : ByteArray} {w : World} (W : World) (l : Nat) (o o' : Obj) (_ : w.heap.size ≤ l) (h : W.heap[l]? = some o) (ho : o.isCells = false) (_ : o.isWalk = false) : KpS bs s W (W.putObj l o') := fun x =>
  x.kept (grownBy_putObj' W l o') (fun e => by cases e; rw [show W.heap[bs]? = _ from x] at h; cases h; cases ho)
end Go.Proofs.YtcadpoknolefpaaGreat
/- op.Decode. -/
namespace Go.Proofs.YtcadpoknolefpaaGreat
open Go.RowKit Go.Shelf
set_option linter.unusedSimpArgs false
set_option linter.unusedVariables false
attribute [local go_sem] Oper.semAt_some
/-- what Decode makes of what comes. -/
def dec : List ((Int × Int) × Int) → List (Int × Int) → List (Int × Int) × Int
  | [], acc => (acc, 0)
  | x :: r, acc => if x.2 = 0 then (if acc.length = 40 then ([], 2) else dec r (acc ++ [x.1])) else ([], x.2)
theorem dec_ok (p : List ((Int × Int) × Int)) : ∀ (r : List ((Int × Int) × Int)) (acc : List (Int × Int)), (∀ x ∈ p, x.2 = 0) → acc.length + p.length ≤ 40 → dec (p ++ r) acc = dec r (acc ++ p.map Prod.fst) := by
  induction p with
  | nil => intro r acc _ _; simp
  | cons x q ih =>
    intro r acc h hl
    simp only [List.length_cons] at hl
    rw [List.cons_append, dec, if_pos (h x (by simp)), if_neg (by omega), ih r _ (fun y hy => h y (by simp [hy])) (by simp; omega)]
    simp
/-- where a round has left, and with which errno. -/
def stopErr (pre : List ((Int × Int) × Int)) (er : Int) : Prop := ∃ p x, pre = p ++ [x] ∧ (∀ y ∈ p, y.2 = 0) ∧ p.length ≤ 40 ∧ ((¬ x.2 = 0 ∧ er = x.2) ∨ (x.2 = 0 ∧ p.length = 40 ∧ er = 2))
theorem dec_stop {pre its : List ((Int × Int) × Int)} {er : Int} (h : stopErr pre er) (hp : pre <+: its) : dec its [] = ([], er) := by
  obtain ⟨p, x, rfl, hok, hl, hx⟩ := h
  obtain ⟨t, rfl⟩ := hp
  rw [List.append_assoc, dec_ok p _ _ hok (by simpa using hl)]
  rcases hx with ⟨h1, rfl⟩ | ⟨h1, h2, rfl⟩
  · simp [dec, h1]
  · simp [dec, h1, h2]
/-- the cells of ops. -/
def opCells (l : List (Int × Int)) : List Value := l.flatMap fun o => [.int .i64 o.1, .int .i64 o.2]
theorem opCells_length (l : List (Int × Int)) : (opCells l).length = l.length * 2 := by
  induction l with
  | nil => rfl
  | cons o r ih => simp [opCells] at *; omega
theorem opCells_at (l : List (Int × Int)) : ∀ (k : Nat) (o : Int × Int), l[k]? = some o → (opCells l)[k * 2]? = some (.int .i64 o.1) ∧ (opCells l)[k * 2 + 1]? = some (.int .i64 o.2) := by
  induction l with
  | nil => intro k o h; simp at h
  | cons x r ih =>
    intro k o h
    cases k with
    | zero => simp at h; subst h; simp [opCells]
    | succ k =>
      have := ih k o (by simpa using h)
      rw [show (k + 1) * 2 = k * 2 + 1 + 1 from by omega]
      simpa [opCells] using this
theorem lt_of_at' {α : Type} {l : List α} {k : Nat} {o : α} (h : l[k]? = some o) : k < l.length := (List.getElem?_eq_some_iff.1 h).1
theorem opsAt_of_row {W : World} {base : Nat} {v : Value} {l : List (Int × Int)} (h : W.ownsRow base 43 2 v l.length (opCells l)) : OpsAt W v l := by
  rcases h.2 with ⟨rfl, h0⟩ | ⟨g, cap, cur, rfl, hb, hg, hn, hc, hs, ht⟩
  · refine ⟨none, 0, by rw [h0], by rw [h0]; exact Nat.zero_le _, fun k o hk => ?_⟩
    have := lt_of_at' hk
    omega
  · refine ⟨_, cap, rfl, by omega, fun k o hk => ⟨g, 0, rfl, (Array.getElem?_eq_some_iff.1 hg).1, ?_, ?_⟩⟩
    · have hk2 := lt_of_at' hk
      have := (opCells_at l k o hk).1
      rw [← ht, List.getElem?_take_of_lt (by omega)] at this
      simpa [World.cell?, hg] using this
    · have hk2 := lt_of_at' hk
      have := (opCells_at l k o hk).2
      rw [← ht, List.getElem?_take_of_lt (by omega)] at this
      simpa [World.cell?, hg] using this
/-- a slice whose memory is from block B on. -/
def NewSl (W : World) (B : Nat) (e : TypeId) (v : Value) : Prop := ∀ a n c, v = .slice (some a) n c → B ≤ a.block ∧ ∃ cs fz, W.heap[a.block]? = some (.cells cs e fz)
theorem newSl_of_row {W : World} {base : Nat} {e : TypeId} {size : Nat} {v : Value} {n : Nat} {xs : List Value} (h : W.ownsRow base e size v n xs) : NewSl W base e v := fun a m c hv => by
  rcases h.2 with ⟨rfl, _⟩ | ⟨g, cap, cur, rfl, hb, hg, _⟩
  · cases hv
  · cases hv; exact ⟨hb, _, _, hg⟩
/-- between two rounds: what has come lies in l; nothing is in the results yet. -/
def DecI (w : World) (pre : List ((Int × Int) × Int)) (W : World) : Prop :=
  ((((∃ v, Boxed W (w.heap.size + 1 + 1) 76 v ∧ W.ownsRow w.heap.size 43 2 v pre.length (opCells (pre.map Prod.fst)) ∧ True) ∧ Boxed W w.heap.size 76 (.slice none 0 0)) ∧ Boxed W (w.heap.size + 1) 30 (.int .i64 0)) ∧ ((∀ x ∈ pre, x.2 = 0) ∧ pre.length ≤ 40)) ∧ Below w.heap.size w W
/-- a round has left: the results hold nothing, and the errno. -/
def DecX (w : World) (c : Code) (pre : List ((Int × Int) × Int)) (W : World) : Prop :=
  c = .ret ∧ ∃ er, ((Boxed W w.heap.size 76 (.slice none 0 0) ∧ Boxed W (w.heap.size + 1) 30 (.int .i64 er)) ∧ stopErr pre er) ∧ Below w.heap.size w W
theorem decI_own (w : World) (B : Nat) (hB : w.heap.size ≤ B) : OwnFrom B (DecI w) :=
  OwnFrom.and (OwnFrom.and (OwnFrom.and (OwnFrom.and (Own.from (holdsRow_own w.heap.size (w.heap.size + 1 + 1) 76 43 2 (fun pre : List ((Int × Int) × Int) => pre.length) (fun pre => opCells (pre.map Prod.fst)) (fun _ _ => True)) _) (Own.from (boxed_own _ _ _) _)) (Own.from (boxed_own _ _ _) _)) (ownFrom_pure _ _)) (ownFrom_below (Nat.le_refl _) hB)
theorem decX_own (w : World) (B : Nat) (hB : w.heap.size ≤ B) (c : Code) : OwnFrom B (DecX w c) := fun pre X Y row hs hg hr => by
  obtain ⟨hc, er, ⟨⟨ha, hb⟩, hst⟩, hbl⟩ := hs
  exact ⟨hc, er, ⟨⟨boxed_own w.heap.size 76 (fun (_ : Unit) => Value.slice none 0 0) () X Y row ha hg (fun r e => (hr r e).2), boxed_own (w.heap.size + 1) 30 (fun (_ : Unit) => Value.int .i64 er) () X Y row hb hg (fun r e => (hr r e).2)⟩, hst⟩, ownFrom_below (β := Unit) (Nat.le_refl _) hB () X Y row hbl hg hr⟩
theorem cell_at' {w : World} {k : Nat} {c : Array Value} {t : TypeId} {fz : Nat × Nat} (h : w.heap[k]? = some (.cells c t fz)) (j : Nat) : w.cell? ⟨k, j, none⟩ = c[j]? := by
  unfold World.cell?; rw [h]; rfl
theorem infoOp : (Tryz.prog.info? 43).map (fun i => (i.zero, i.size, i.bytes)) = some (some (.agg #[.int .i64 0, .int .i64 0]), 2, 16) := by kernel_rfl
set_option maxRecDepth 100000 in
set_option maxHeartbeats 4000000 in
theorem decode_new (s : ByteArray) (hm : s.size ≤ maxLen) (w : World) :
    Calls Tryz.prog 68 #[.string s] w fun e w' => ∃ v, e = .returned (.tuple #[v, .int .i64 (dec (items s.size s.data.toList) []).2]) ∧ OpsAt w' v (dec (items s.size s.data.toList) []).1 ∧ Below w.heap.size w w' ∧ NewSl w' w.heap.size 43 v := by
  obtain ⟨its, hits⟩ : ∃ its, items s.size s.data.toList = its := ⟨_, rfl⟩
  have hst := fun n hn bs W hB => each_stops n hn bs s hm W hB
  rw [hits] at hst
  rw [hits]
  have HST : Hid (∀ (n : Nat) (hn : 1 ≤ n) (bs : Nat) (W : World) (hB : Boxed W bs 9 (.string s)), SeqStopsK Fence.wide n Tryz.prog 153 #[.pointer (some ⟨bs, 0, none⟩)] encsI (KpS bs s) (fun ys => ys = its) (fun pre => pre <+: its) its.length W) := hst
  clear hst hits
  obtain ⟨i0, hi, hz0, hz1, hz2⟩ := info_parts infoOp
  refine (callsIn_wide (n := 5)).1 ?_
  have h1 : 1 ≤ 5 := by omega
  refine callsIn_of_wp_marks Tryz.func68 rfl trivial ?_ rfl
  simp only [Tryz.ntmps68, List.size_toArray, List.length_cons, List.length_nil, Nat.reduceAdd, Nat.reduceSub, Array.replicate_succ, Array.replicate_zero, List.push_toArray, List.append_toArray, List.nil_append, List.cons_append]
  gi_wp2_with fail
  refine ⟨trivial, ?_⟩
  refine (callsIn_wide.2 (each_any s _)).mono ?_
  rintro e w' ⟨rfl, rfl⟩
  gi_wp2
  have hB0 : Below w.heap.size w ((((w.alloc (.cells #[.slice none 0 0] 76)).alloc (.cells #[.int .i64 0] 30)).alloc (.cells #[.slice none 0 0] 76)).alloc (.cells #[.string s] 9)) := ((((Below.refl _ w).alloc (Nat.le_refl _) _).alloc (by simp) _).alloc (by simp; omega) _).alloc (by simp; omega) _
  have b0 := (((Boxed.new w 76 (.slice none 0 0)).alloc (.cells #[.int .i64 0] 30)).alloc (.cells #[.slice none 0 0] 76)).alloc (.cells #[.string s] 9)
  have b1 := ((Boxed.new (w.alloc (.cells #[.slice none 0 0] 76)) 30 (.int .i64 0)).alloc (.cells #[.slice none 0 0] 76)).alloc (.cells #[.string s] 9)
  have b2 := (Boxed.new ((w.alloc (.cells #[.slice none 0 0] 76)).alloc (.cells #[.int .i64 0] 30)) 76 (.slice none 0 0)).alloc (.cells #[.string s] 9)
  have b3 := Boxed.new (((w.alloc (.cells #[.slice none 0 0] 76)).alloc (.cells #[.int .i64 0] 30)).alloc (.cells #[.slice none 0 0] 76)) 9 (.string s)
  simp only [World.size_alloc] at b1 b2 b3
  obtain ⟨W0, hW0⟩ : ∃ W0, ((((w.alloc (.cells #[.slice none 0 0] 76)).alloc (.cells #[.int .i64 0] 30)).alloc (.cells #[.slice none 0 0] 76)).alloc (.cells #[.string s] 9)) = W0 := ⟨_, rfl⟩
  have hsz : W0.heap.size = w.heap.size + 1 + 1 + 1 + 1 := by rw [← hW0]; simp
  rw [hW0] at hB0 b0 b1 b2 b3 ⊢
  clear hW0
  refine wpIn_rangeFunc_ownH rfl h1 (gf := 153) (lb := #[.pointer (some ⟨w.heap.size + 1 + 1 + 1, 0, none⟩)]) rfl trivial (enters_of Tryz.func153 (by kernel_rfl) rfl)
    (HST.out (5 - 1) (by omega) (w.heap.size + 1 + 1 + 1) W0 b3) kpS_t kpS_b (Below.refl _ _) (fun _ => rfl)
    (DecI w) (DecX w) (decI_own w _ (by omega)) (decX_own w _ (by omega))
    ⟨⟨⟨⟨⟨_, b2, World.ownsRow_nil _ _ _ _, trivial⟩, b0⟩, b1⟩, by simp, by simp⟩, hB0⟩
    (fun x a' W => ∃ Bx, w.heap.size + 1 + 1 < Bx ∧ W.heap[Bx]? = some (.cells #[.int .i64 x.1.1, .int .i64 x.1.2] 43 (0, 0)) ∧ a' = { tmps := #[.string s, undef, .pointer (some ⟨w.heap.size, 0, none⟩), .pointer (some ⟨w.heap.size + 1, 0, none⟩), .pointer (some ⟨w.heap.size + 1 + 1, 0, none⟩), .pointer (some ⟨Bx, 0, none⟩), .int .i64 x.2, .string s, .func (.func 153) #[] #[.pointer (some ⟨w.heap.size + 1 + 1 + 1, 0, none⟩)], .agg #[.int .i64 x.1.1, .int .i64 x.1.2], .int .i64 x.2, undef, undef, undef, undef, undef, undef, undef, undef, undef, undef, undef], defers := [] })
    (fun x a' _ X Y row hs hg hr => by
      obtain ⟨Bx, h1, h2, h3⟩ := hs
      refine ⟨Bx, h1, (hg.block Bx (Array.getElem?_eq_some_iff.1 h2).1 (fun e => ?_)).trans h2, h3⟩
      obtain ⟨_, o, ho, hc⟩ := hr Bx e.symm
      rw [h2] at ho; cases ho; cases hc)
    ?assign ?body ?done ?stop
  case assign =>
    rintro l pre x W K ⟨⟨⟨⟨⟨v, hv, hrow, _⟩, c0⟩, c1⟩, hok, hl⟩, hB⟩ hK
    gi_wp2
    exact hK _ _ ((KeepsOthers.alloc _ _).from _) (fun hbx => hbx.alloc _) ⟨⟨⟨⟨⟨v, hv.alloc _, hrow.alloc _, trivial⟩, c0.alloc _⟩, c1.alloc _⟩, hok, hl⟩, hB.alloc hB.size _⟩ ⟨W.heap.size, hv.lt, World.alloc_heap_new W _, rfl⟩
  case body =>
    rintro l pre ⟨⟨c, a⟩, er⟩ a' W hl ⟨r, hr⟩ ⟨⟨⟨⟨⟨v, hv, hrow, _⟩, c0⟩, c1⟩, hok, h40⟩, hB⟩ ⟨Bx, hBx, bX, rfl⟩ hlt
    have HOK : Hid (∀ x ∈ pre, x.2 = 0) := hok
    clear hok HST hr hlt
    have k0 := c0.cell
    have k1 := c1.cell
    have z0 := c0.frozen
    have z1 := c1.frozen
    have hleave : ∀ e', stopErr (pre ++ [((c, a), er)]) e' → KeepsFrom W0.heap.size W ((W.setCell ⟨w.heap.size, 0, none⟩ (.slice none 0 0)).setCell ⟨w.heap.size + 1, 0, none⟩ (.int .i64 e')) ∧ DecX w .ret (pre ++ [((c, a), er)]) ((W.setCell ⟨w.heap.size, 0, none⟩ (.slice none 0 0)).setCell ⟨w.heap.size + 1, 0, none⟩ (.int .i64 e')) := fun e' hst =>
      ⟨((KeepsOthers.setCell _ _ _).trans (KeepsOthers.setCell _ _ _)).from _, rfl, e', ⟨⟨(c0.set _).other (by omega) _, (c1.other (by omega) _).set _⟩, hst⟩, (hB.setCell (p := ⟨w.heap.size, 0, none⟩) (Nat.le_refl _) _).setCell (p := ⟨w.heap.size + 1, 0, none⟩) (by simp) _⟩
    have HL : Hid (∀ e', stopErr (pre ++ [((c, a), er)]) e' → KeepsFrom W0.heap.size W ((W.setCell ⟨w.heap.size, 0, none⟩ (.slice none 0 0)).setCell ⟨w.heap.size + 1, 0, none⟩ (.int .i64 e')) ∧ DecX w .ret (pre ++ [((c, a), er)]) ((W.setCell ⟨w.heap.size, 0, none⟩ (.slice none 0 0)).setCell ⟨w.heap.size + 1, 0, none⟩ (.int .i64 e'))) := hleave
    clear hleave
    have HZ : Hid (W0.heap.size = w.heap.size + 1 + 1 + 1 + 1) := hsz
    clear hsz
    by_cases he : er = 0
    · subst he
      have hvs : ∃ p cap, v = .slice p pre.length cap := by
        rcases hrow.2 with ⟨rfl, h0⟩ | ⟨g, cap, cur, rfl, _⟩
        · exact ⟨none, 0, by rw [h0]⟩
        · exact ⟨_, _, rfl⟩
      obtain ⟨p, cap, rfl⟩ := hvs
      have k2 := hv.cell
      by_cases hfull : pre.length = 40
      · have hf' : ((pre.length : Int) == 40) = true := by simp; omega
        have HF : Hid (pre.length = 40) := hfull
        clear hfull
        gi_wp2
        exact HL.out 2 ⟨pre, _, rfl, HOK.out, h40, .inr ⟨rfl, HF.out, rfl⟩⟩
      · have hf' : ((pre.length : Int) == 40) = false := by simp; omega
        have g0 : W.cell? ⟨Bx, 0, none⟩ = some (.int .i64 c) := by simp [World.cell?, bX]
        have g1 : W.cell? ⟨Bx, 0 + 1, none⟩ = some (.int .i64 a) := by simp [World.cell?, bX]
        have hnews : ∀ (j : Nat) (u : Value), [Value.int .i64 c, Value.int .i64 a][j]? = some u → (W.alloc (.cells #[.int .i64 c, .int .i64 a] 43)).cell? ((⟨W.heap.size, 0, none⟩ : Addr).add j) = some u := by
          intro j u hj
          have hn := World.alloc_heap_new W (.cells #[.int .i64 c, .int .i64 a] 43)
          match j, hj with
          | 0, hj => simp at hj; subst hj; exact cell_at' hn 0
          | 1, hj => simp at hj; subst hj; exact cell_at' hn 1
          | k + 2, hj => simp at hj
        have hso : ∀ u ∈ [Value.int .i64 c, Value.int .i64 a], u.oneCell' = true := by
          intro u hu; simp at hu; rcases hu with rfl | rfl <;> rfl
        gi_wp2_with (gi_at_builtin; refine wpListIn_append_own _ rfl _ _ 76 rfl w.heap.size 43 i0 (.agg #[.int .i64 0, .int .i64 0]) 2 16 Tryz.underlying76 hi hz0 hz1 hz2 rfl (by decide) _ _ _ rfl (hrow.alloc _) ⟨W.heap.size, 0, none⟩ 1 1 [.int .i64 c, .int .i64 a] rfl rfl hnews hso (by unfold maxLen; omega) (by omega) (by have := hB.size; simp; omega) ?_; intro v' w1 hown' hgrow _; obtain ⟨g', cap', rfl⟩ := ownsRow_succ hown'; obtain ⟨hv1, hv2, hr2, hk2, hb2⟩ := hv.appended (by decide) hrow hB.size (by omega) hown' hgrow; have hc1 := hv1.cell; have hf1 := hv1.frozen)
        have e0 := ((c0.alloc (.cells #[.int .i64 c, .int .i64 a] 43)).kept hgrow (c0.not_row (by decide) hrow)).other (B' := w.heap.size + 1 + 1) (by omega) (.slice (some ⟨g', 0, none⟩) (pre.length + 1) cap')
        have e1 := ((c1.alloc (.cells #[.int .i64 c, .int .i64 a] 43)).kept hgrow (c1.not_row (by decide) hrow)).other (B' := w.heap.size + 1 + 1) (by omega) (.slice (some ⟨g', 0, none⟩) (pre.length + 1) cap')
        refine ⟨hk2.from _, fun bx => ((bx.alloc (.cells #[.int .i64 c, .int .i64 a] 43)).kept hgrow (bx.not_row (by decide) hrow)).other (B' := w.heap.size + 1 + 1) (by omega) _, ⟨⟨⟨⟨_, hv2, ?_, trivial⟩, e0⟩, e1⟩, ?_, by simp; omega⟩, hB.trans hb2⟩
        · have e : opCells ((pre ++ [((c, a), (0 : Int))]).map Prod.fst) = opCells (pre.map Prod.fst) ++ [.int .i64 c, .int .i64 a] := by simp [opCells]
          rw [e, List.length_append, List.length_singleton]
          exact hr2
        · intro x hx
          rcases List.mem_append.1 hx with hx | hx
          · exact HOK.out x hx
          · simp at hx; subst hx; rfl
    · have he' : (er != 0) = true := by simp [he]
      gi_wp2
      exact HL.out er ⟨pre, _, rfl, HOK.out, h40, .inl ⟨he, rfl⟩⟩
  case done =>
    rintro D ys W hD rfl ⟨⟨⟨⟨⟨v, hv, hrow, _⟩, c0⟩, c1⟩, hok, h40⟩, hB⟩ hK
    have hdec : dec ys [] = (ys.map Prod.fst, 0) := by
      have := dec_ok ys [] [] hok (by simpa using h40)
      simpa [dec] using this
    have HD : Hid (dec ys [] = (ys.map Prod.fst, 0)) := hdec
    clear hdec hok HST
    have hvs : ∃ p cap, v = .slice p ys.length cap := by
      rcases hrow.2 with ⟨rfl, h0⟩ | ⟨g, cap, cur, rfl, _⟩
      · exact ⟨none, 0, by rw [h0]⟩
      · exact ⟨_, _, rfl⟩
    obtain ⟨p, cap, rfl⟩ := hvs
    have k0 := c0.cell
    have k1 := c1.cell
    have k2 := hv.cell
    have z0 := c0.frozen
    have z1 := c1.frozen
    gi_wp2
    have hK' := ((KeepsOthers.setCell W ⟨w.heap.size, 0, none⟩ (.slice p ys.length cap)).trans (KeepsOthers.setCell _ ⟨w.heap.size + 1, 0, none⟩ (.int .i64 0))).same D _ hK rfl
    have r0 : Boxed ((W.setCell ⟨w.heap.size, 0, none⟩ (.slice p ys.length cap)).setCell ⟨w.heap.size + 1, 0, none⟩ (.int .i64 0)) w.heap.size 76 (.slice p ys.length cap) := (c0.set _).other (by omega) _
    have r1 : Boxed ((W.setCell ⟨w.heap.size, 0, none⟩ (.slice p ys.length cap)).setCell ⟨w.heap.size + 1, 0, none⟩ (.int .i64 0)) (w.heap.size + 1) 30 (.int .i64 0) := (c1.other (by omega) _).set _
    have hrow2 := (hrow.kept (grownBy_setCell' W w.heap.size (.slice p ys.length cap)) (.inr (c0.not_row (by decide) hrow).symm))
    have hrow3 := (hrow2.kept (grownBy_setCell' _ (w.heap.size + 1) (.int .i64 0)) (.inr ((c1.other (B' := w.heap.size) (by omega) _).not_row (by decide) hrow2).symm))
    have hB3 := (hB.setCell (p := ⟨w.heap.size, 0, none⟩) (Nat.le_refl _) (.slice p ys.length cap)).setCell (p := ⟨w.heap.size + 1, 0, none⟩) (by simp) (.int .i64 0)
    have q0 := (r0.kept (grownBy_putObj' _ D (.deferred none)) (fun e => by cases e; omega)).cell
    have q1 := (r1.kept (grownBy_putObj' _ D (.deferred none)) (fun e => by cases e; omega)).cell
    refine ⟨by simp, .inl ⟨_, _, rfl, run_takeDeferred hK', ?_⟩⟩
    refine ⟨.tuple #[.slice p ys.length cap, .int .i64 0], by simp [results, Tryz.results68, go_sem, q0, q1], _, by rw [HD.out], ?_, ?_, newSl_of_row (base := w.heap.size) (n := ys.length) (size := 2) (by have := ownsRow_putObj hrow3 (.deferred none) hK' rfl; simpa using this)⟩
    · rw [HD.out]
      refine opsAt_of_row (base := w.heap.size) ?_
      have := ownsRow_putObj hrow3 (.deferred none) hK' rfl
      simpa using this
    · exact hB3.trans (belowK_b (w := w) (Nat.le_refl _) _ D _ _ (by omega) hK' rfl rfl)
  case stop =>
    rintro D c pre W hD hpre ⟨rfl, er, ⟨⟨c0, c1⟩, hst⟩, hB⟩ hK
    have HD : Hid (dec its [] = ([], er)) := dec_stop hst hpre
    clear hst hpre HST
    gi_wp2
    have q0 := (c0.kept (grownBy_putObj' _ D (.deferred none)) (fun e => by cases e; omega)).cell
    have q1 := (c1.kept (grownBy_putObj' _ D (.deferred none)) (fun e => by cases e; omega)).cell
    refine ⟨by simp, .inl ⟨_, _, rfl, run_takeDeferred hK, ?_⟩⟩
    refine ⟨.tuple #[.slice none 0 0, .int .i64 er], by simp [results, Tryz.results68, go_sem, q0, q1], _, by rw [HD.out], ?_, ?_, fun a n c h => by cases h⟩
    · rw [HD.out]
      exact ⟨none, 0, rfl, Nat.zero_le _, fun k o hk => by simp at hk⟩
    · exact hB.trans (belowK_b (w := w) (Nat.le_refl _) _ D _ _ (by omega) hK rfl rfl)
theorem decode_any (s : ByteArray) (hm : s.size ≤ maxLen) (w : World) :
    Calls Tryz.prog 68 #[.string s] w fun e w' => ∃ v, e = .returned (.tuple #[v, .int .i64 (dec (items s.size s.data.toList) []).2]) ∧ OpsAt w' v (dec (items s.size s.data.toList) []).1 ∧ Below w.heap.size w w' :=
  (decode_new s hm w).mono fun _ _ ⟨v, h1, h2, h3, _⟩ => ⟨v, h1, h2, h3⟩
end Go.Proofs.YtcadpoknolefpaaGreat
/- SameOps of the reference. -/
namespace Go.Proofs.YtcadpoknolefpaaGreat
open Go.RowKit
set_option linter.unusedSimpArgs false
set_option linter.unusedVariables false
theorem neq_op (c a c' a' : Int) (w : World) : (binOp .neq 43 (.agg #[.int .i64 c, .int .i64 a]) (.agg #[.int .i64 c', .int .i64 a'])).run Tryz.prog w = .ok (.bool (!(c == c' && a == a'))) w := by
  have u3 := Tryz.underlying3
  have a3 := Tryz.isAgg3
  have z3 := Tryz.sizeOf3
  have hS : Tryz.prog.underlying 43 = some (.struct (Tryz.prog.fieldsOf 43)) := by kernel_rfl
  have hp : Tryz.prog.stoodInHeld 43 = false := by kernel_rfl
  rw [run_neq_struct, show (10000 : Nat) = 9999 + 1 from rfl, run_equalIn_agg w 9999 43 _ _ hS hp]
  simp only [Program.fieldsOf, Tryz.underlying43]
  go_simp
  by_cases h1 : c = c' <;> by_cases h2 : a = a' <;> simp [h1, h2]
theorem guard_op : Tryz.prog.eqGuardType Tryz.prog.depth 43 = false := by kernel_rfl
set_option maxHeartbeats 1000000 in
theorem sameOps_any (l m : List (Int × Int)) (v u : Value) (w : World) (hl : OpsAt w v l) (hm : OpsAt w u m) : Calls Tryz.prog 70 #[v, u] w fun e w' => e = .returned (.bool (decide (l = m))) ∧ Below w.heap.size w w' := by
  obtain ⟨p, cap, rfl, hlm, hc⟩ := hl
  obtain ⟨q, cap', rfl, hmm, hd⟩ := hm
  unfold maxLen at hlm hmm
  by_cases hlen : l.length = m.length
  · have hlen' : ((l.length : Int) != (m.length : Int)) = false := by simp; omega
    have HLEN : Hid (l.length = m.length) := hlen
    have HC : Hid (∀ k o, l[k]? = some o → ∃ b off, p = some ⟨b, off, none⟩ ∧ b < w.heap.size ∧ w.cell? ⟨b, off + k * 2, none⟩ = some (.int .i64 o.1) ∧ w.cell? ⟨b, off + k * 2 + 1, none⟩ = some (.int .i64 o.2)) := hc
    have HD : Hid (∀ k o, m[k]? = some o → ∃ b off, q = some ⟨b, off, none⟩ ∧ b < w.heap.size ∧ w.cell? ⟨b, off + k * 2, none⟩ = some (.int .i64 o.1) ∧ w.cell? ⟨b, off + k * 2 + 1, none⟩ = some (.int .i64 o.2)) := hd
    clear hc hd hlen
    go_enter Tryz.func70, Tryz.ntmps70
    go_wp2
    go_loopw [5] (fun i wr => ∃ k : Nat, k ≤ l.length ∧ i = .int .i64 k ∧ l.take k = m.take k ∧ Below w.heap.size w wr) (fun i _ => l.length - (intOf i).toNat)
    case atStart => exact ⟨0, Nat.zero_le _, rfl, by simp, Below.refl _ _⟩
    case round =>
      obtain ⟨k, hk, rfl, htk, hbw⟩ := hrel
      have HT : Hid (l.take k = m.take k) := htk
      clear htk
      by_cases hlt : k < l.length
      · have hlt2 : k < m.length := by have := HLEN.out; omega
        obtain ⟨⟨c, a⟩, ho⟩ : ∃ o, l[k]? = some o := ⟨l[k], List.getElem?_eq_some_iff.2 ⟨hlt, rfl⟩⟩
        obtain ⟨⟨c', a'⟩, ho'⟩ : ∃ o, m[k]? = some o := ⟨m[k], List.getElem?_eq_some_iff.2 ⟨hlt2, rfl⟩⟩
        obtain ⟨b, off, rfl, hb, h0, h1⟩ := HC.out k _ ho
        obtain ⟨b', off', rfl, hb', h0', h1'⟩ := HD.out k _ ho'
        have g0 := (hbw.cell (p := ⟨b, off + k * 2, none⟩) hb).trans h0
        have g1 := (hbw.cell (p := ⟨b, off + k * 2 + 1, none⟩) hb).trans h1
        have g0' := (hbw.cell (p := ⟨b', off' + k * 2, none⟩) hb').trans h0'
        have g1' := (hbw.cell (p := ⟨b', off' + k * 2 + 1, none⟩) hb').trans h1'
        have hlti : (k : Int) < (l.length : Int) := by omega
        have hlti2 : (k : Int) < (m.length : Int) := by omega
        have hg := guard_op
        have HO : Hid (l[k]? = some (c, a)) := ho
        have HO' : Hid (m[k]? = some (c', a')) := ho'
        clear ho ho' h0 h1 h0' h1'
        by_cases he : c = c' ∧ a = a'
        · have hneq : ∀ w, (binOp .neq 43 (.agg #[.int .i64 c, .int .i64 a]) (.agg #[.int .i64 c', .int .i64 a'])).run Tryz.prog w = .ok (.bool false) w := fun w => by rw [neq_op]; simp [he]
          have HE : Hid (c = c' ∧ a = a') := he
          clear he
          go_wp2
          go_quiet (fail)
          go_wp2
          go_roundw
          case rel => exact ⟨k + 1, by omega, by go_num, by rw [take_snoc l k _ HO.out, take_snoc m k _ HO'.out, HT.out, HE.out.1, HE.out.2], below_drewN hbw _⟩
          case measure => simp [intOf]; omega
        · have hneq : ∀ w, (binOp .neq 43 (.agg #[.int .i64 c, .int .i64 a]) (.agg #[.int .i64 c', .int .i64 a'])).run Tryz.prog w = .ok (.bool true) w := fun w => by rw [neq_op]; simp; omega
          have HE : Hid (¬ (c = c' ∧ a = a')) := he
          clear he
          go_wp2
          go_quiet (fail)
          go_wp2
          go_ret
          refine ⟨?_, below_drewN hbw _⟩
          have : ¬ l = m := fun h => by
            have h1 := HO.out
            rw [h, HO'.out] at h1
            simp at h1
            exact HE.out ⟨h1.1.symm, h1.2.symm⟩
          simp [this]
      · have hlt' : ¬ (k : Int) < (l.length : Int) := by omega
        go_wp2
        go_ret
        refine ⟨?_, hbw⟩
        have : l = m := by
          have h := HT.out
          rwa [List.take_of_length_le (by omega), List.take_of_length_le (by have := HLEN.out; omega)] at h
        simp [this]
  · have hlen' : ((l.length : Int) != (m.length : Int)) = true := by simp; omega
    have hne : ¬ l = m := fun h => hlen (by rw [h])
    clear hc hd
    have HN : Hid (¬ l = m) := hne
    clear hne hlen
    go_enter Tryz.func70, Tryz.ntmps70
    go_wp2
    go_ret
    exact ⟨by simp [HN.out], Below.refl _ _⟩
end Go.Proofs.YtcadpoknolefpaaGreat
/- opBegun. -/
namespace Go.Proofs.YtcadpoknolefpaaGreat
open Go.RowKit
set_option linter.unusedSimpArgs false
set_option linter.unusedVariables false
/-- the ops of 'loop'. -/
def loopOps : List (Int × Int) := [(1, 3), (3, 0), (20, 0), (1, 1), (6, 0), (3, 0), (11, 8), (10, 1), (2, 0), (13, 0)]
theorem opsAt_new {w : World} {b : Nat} {l m : List (Int × Int)} {fz : Nat × Nat} (n cap : Nat) (h : w.heap[b]? = some (.cells (opCells (l ++ m)).toArray 43 fz)) (hn : n = l.length) (hm : l.length ≤ maxLen) : OpsAt w (.slice (some ⟨b, 0, none⟩) n cap) l := by
  subst hn
  refine ⟨_, cap, rfl, hm, fun k o hk => ⟨b, 0, rfl, (Array.getElem?_eq_some_iff.1 h).1, ?_, ?_⟩⟩
  · have := (opCells_at (l ++ m) k o (by rw [List.getElem?_append_left (lt_of_at' hk)]; exact hk)).1
    rw [cell_at' h]; simpa using this
  · have := (opCells_at (l ++ m) k o (by rw [List.getElem?_append_left (lt_of_at' hk)]; exact hk)).2
    rw [cell_at' h]; simpa using this
set_option maxHeartbeats 1000000 in
theorem loop_any (w : World) : Calls Tryz.prog 67 #[] w fun e w' => e = .returned (.slice (some ⟨w.heap.size, 0, none⟩) 10 10) ∧ w' = w.alloc (.cells (opCells loopOps).toArray 43) := by
  go_enter Tryz.func67, Tryz.ntmps67
  go_wp2
  go_ret
  exact ⟨rfl, rfl⟩
theorem enc_fact : encStr [(1, 3), (3, 0)] = [1, 0, 0, 0, 3, 3] ∧ codeErr [(1, 3), (3, 0)] = 0 := by decide +kernel
theorem dec_fact : dec (items 6 [1, 255, 255, 255, 254, 13]) [] = ([(1, -2), (13, 0)], 0) := by decide +kernel
theorem chk_fact1 : chk 1 3 = 0 := by decide +kernel
theorem chk_fact2 : chk 2 1 = 1 := by decide +kernel
theorem wrap_fact : wrap32 2147483648 = -2147483648 := by decide +kernel
set_option maxHeartbeats 2000000 in
theorem opBegun_any (w : World) : Calls Tryz.prog 27 #[] w fun e w' => e = .returned (.bool true) ∧ Below w.heap.size w w' := by
  go_enter Tryz.func27, Tryz.ntmps27
  go_wp2_with fail
  refine (loop_any _).mono ?_
  rintro e w1 ⟨rfl, hw1⟩
  have hb1 : Below w.heap.size w w1 := by rw [hw1]; exact (Below.refl _ w).alloc (Nat.le_refl _) _
  have hh1 : w1.heap[w.heap.size]? = some (.cells (opCells loopOps).toArray 43 (0, 0)) := by rw [hw1]; exact World.alloc_heap_new w _
  clear hw1
  have ho1 := opsAt_new (l := [(1, 3), (3, 0)]) (m := loopOps.drop 2) 2 10 hh1 rfl (by unfold maxLen; simp)
  go_wp2_with fail
  have henc := encode_any _ _ _ ho1
  rw [enc_fact.1, enc_fact.2] at henc
  refine henc.mono ?_
  clear henc ho1
  rintro e w2 ⟨rfl, hb2⟩
  have hd := decode_any ⟨#[1, 255, 255, 255, 254, 13]⟩ (by unfold maxLen; decide) w2
  have hdf : dec (items (ByteArray.size ⟨#[1, 255, 255, 255, 254, 13]⟩) (ByteArray.mk #[1, 255, 255, 255, 254, 13]).data.toList) [] = ([(1, -2), (13, 0)], 0) := dec_fact
  rw [hdf] at hd
  clear hdf
  have HD : Hid (Calls Tryz.prog 68 #[.string ⟨#[1, 255, 255, 255, 254, 13]⟩] w2 fun e w' => ∃ v, e = .returned (.tuple #[v, .int .i64 0]) ∧ OpsAt w' v [(1, -2), (13, 0)] ∧ Below w2.heap.size w2 w') := hd
  clear hd hh1
  go_wp2_with fail
  refine HD.out.mono ?_
  clear HD
  rintro e w3 ⟨v, rfl, ho3, hb3⟩
  have HO3 : Hid (OpsAt w3 v [(1, -2), (13, 0)]) := ho3
  clear ho3
  go_wp2_with fail
  refine (loop_any _).mono ?_
  rintro e w4 ⟨rfl, hw4⟩
  have hb4 : Below w3.heap.size w3 w4 := by rw [hw4]; exact (Below.refl _ w3).alloc (Nat.le_refl _) _
  have hh4 : w4.heap[w3.heap.size]? = some (.cells (opCells loopOps).toArray 43 (0, 0)) := by rw [hw4]; exact World.alloc_heap_new w3 _
  have HO4 : Hid (OpsAt w4 v [(1, -2), (13, 0)]) := HO3.out.below hb4
  clear hw4 HO3
  have g0 : w4.cell? ⟨w3.heap.size, 0, none⟩ = some (.int .i64 1) := by rw [cell_at' hh4]; rfl
  have g1 : w4.cell? ⟨w3.heap.size, 1, none⟩ = some (.int .i64 3) := by rw [cell_at' hh4]; rfl
  clear hh4
  have hB4 : Below w.heap.size w w4 := hb1.trans ((hb2.trans (hb3.trans (hb4.mono hb3.size) |>.mono hb2.size)).mono hb1.size)
  go_wp2_with fail
  refine (check_any 1 3 _).mono ?_
  rw [chk_fact1]
  rintro e w5 ⟨rfl, hb5⟩
  have HO5 : Hid (OpsAt w5 v [(1, -2), (13, 0)]) := HO4.out.below hb5
  have hB5 : Below w.heap.size w w5 := hB4.trans (hb5.mono hB4.size)
  clear HO4 g0 g1
  go_wp2_with fail
  refine (check_any 2 1 _).mono ?_
  rw [chk_fact2]
  rintro e w6 ⟨rfl, hb6⟩
  have HO6 : Hid (OpsAt w6 v [(1, -2), (13, 0)]) := HO5.out.below hb6
  have hB6 : Below w.heap.size w w6 := hB5.trans (hb6.mono hB5.size)
  clear HO5 hB4 hB5 hb1 hb2 hb3 hb4 hb5 hb6
  go_wp2_with fail
  have hb7 : Below w6.heap.size w6 (w6.alloc (.cells #[.int .i64 1, .int .i64 (-2), .int .i64 13, .int .i64 0] 43)) := (Below.refl _ w6).alloc (Nat.le_refl _) _
  refine (sameOps_any [(1, -2), (13, 0)] [(1, -2), (13, 0)] _ _ _ (HO6.out.below hb7) (opsAt_new (l := [(1, -2), (13, 0)]) (m := []) (fz := (0, 0)) 2 2 (World.alloc_heap_new w6 _) rfl (by unfold maxLen; simp))).mono ?_
  rintro e w8 ⟨rfl, hb8⟩
  have hB8 : Below w.heap.size w w8 := hB6.trans ((hb7.trans (hb8.mono hb7.size)).mono hB6.size)
  clear HO6 hb7 hb8 hB6
  go_wp2_with (go_at_call 28; refine (wrap_any _ _).mono ?_; rintro e w9 ⟨rfl, hw⟩; have hw := hw.symm; subst hw; rw [wrap_fact])
  go_ret
  exact ⟨rfl, hB8⟩
end Go.Proofs.YtcadpoknolefpaaGreat
/- append of code in memory onto a row of the call's own; Encode once more, its text under a name. -/
namespace Go.Proofs.YtcadpoknolefpaaGreat
open Go.RowKit
set_option linter.unusedSimpArgs false
set_option linter.unusedVariables false
/-- a slice without memory has no room. -/
def NilOk (v : Value) : Prop := ∀ n c, v = .slice none n c → c = 0
theorem add_at (b off j : Nat) : (⟨b, off, none⟩ : Addr).add j = ⟨b, off + j, none⟩ := by
  unfold Addr.add; split <;> simp_all
theorem ops_cells {w : World} {p : Option Addr} {n cap : Nat} {l : List (Int × Int)} (h : OpsAt w (.slice p n cap) l) (ad : Addr) (hp : p = some ad) : ∀ (j : Nat) (u : Value), (opCells l)[j]? = some u → w.cell? (ad.add j) = some u := by
  obtain ⟨q, c, he, _, hc⟩ := h
  cases he
  intro j u hj
  have hlt := lt_of_at' hj
  rw [opCells_length] at hlt
  obtain ⟨o, ho⟩ : ∃ o, l[j / 2]? = some o := ⟨l[j / 2]'(by omega), List.getElem?_eq_some_iff.2 ⟨by omega, rfl⟩⟩
  obtain ⟨b, off, hp2, _, h0, h1⟩ := hc _ o ho
  rw [hp] at hp2
  cases hp2
  have hx := opCells_at l _ o ho
  rcases Nat.mod_two_eq_zero_or_one j with hm | hm
  · have e : j / 2 * 2 = j := by omega
    rw [e] at h0 hx
    rw [hx.1] at hj
    cases hj
    rw [add_at]; exact h0
  · have e : j / 2 * 2 + 1 = j := by omega
    have e' : off + j / 2 * 2 + 1 = off + j := by omega
    rw [e] at hx
    rw [e'] at h1
    rw [hx.2] at hj
    cases hj
    rw [add_at]; exact h1
theorem opCells_one (l : List (Int × Int)) : ∀ u ∈ opCells l, u.oneCell' = true := by
  intro u hu
  obtain ⟨o, _, ho⟩ := List.mem_flatMap.1 hu
  simp at ho
  rcases ho with rfl | rfl <;> rfl
theorem wpList_append_ops {w : World} {ops : Array Oper} {rest : List Oper} {o : Oper} {a : Act} {Q : Exit → Act → World → Prop} (hgd : o.guard = none) (s x : Operand)
    (ho : o.op = .call { callee := .builtin .append, args := #[s, x], argTypes := #[76, 76] }) (base : Nat)
    (v : Value) (n : Nat) (xs : List Value) (hs : a.eval s = v) (hown : w.ownsRow base 43 2 v n xs)
    (u : Value) (l : List (Int × Int)) (hx : a.eval x = u) (hu : OpsAt w u l) (hnil : NilOk u)
    (h63 : n + l.length ≤ maxLen) (hbytes : (n + l.length) * 16 ≤ 140737488355328) (hbase : base ≤ w.heap.size)
    (h : ∀ v' w', w'.ownsRow base 43 2 v' (n + l.length) (xs ++ opCells l) → w.grownBy w' v.ownBlock → wpList Tryz.prog ops Q rest (a.put o.dst v') w') : wpList Tryz.prog ops Q (o :: rest) a w := by
  obtain ⟨i0, hi, hz0, hz1, hz2⟩ := info_parts infoOp
  have hu' := hu
  obtain ⟨p, cap, rfl, hm, hc⟩ := hu'
  cases p with
  | none =>
    have hl : l = [] := by
      cases l with
      | nil => rfl
      | cons o r => obtain ⟨b, off, hb, _⟩ := hc 0 o rfl; cases hb
    subst hl
    have hcap : cap = 0 := hnil _ _ rfl
    subst hcap
    exact wpList_append_own_none hgd s x 76 ho base 43 i0 2 Tryz.underlying76 hi v n xs hs hown hx (h v w (by simpa [opCells] using hown) (World.grownBy.refl _ _))
  | some ad =>
    exact wpList_append_own w hgd s x 76 ho base 43 i0 (.agg #[.int .i64 0, .int .i64 0]) 2 16 Tryz.underlying76 hi hz0 hz1 hz2 rfl (by decide) v n xs hs hown ad l.length cap (opCells l) hx (opCells_length l)
      (ops_cells hu ad rfl) (opCells_one l) h63 hbytes hbase (fun v' w' h1 h2 _ => h v' w' h1 h2)
/-- Encode, its text under a name. -/
theorem encode_ex (l : List (Int × Int)) (v : Value) (w : World) (h : OpsAt w v l) : Calls Tryz.prog 66 #[v] w fun e w' => ∃ T : ByteArray, e = .returned (.tuple #[.string T, .int .i64 (codeErr l)]) ∧ T.data.toList = encStr l ∧ Below w.heap.size w w' :=
  (encode_any l v w h).mono fun e w' ⟨he, hb⟩ => ⟨_, he, rfl, hb⟩
end Go.Proofs.YtcadpoknolefpaaGreat
/- Programs in memory. -/
namespace Go.Proofs.YtcadpoknolefpaaGreat
open Go.RowKit
set_option linter.unusedSimpArgs false
set_option linter.unusedVariables false
/-- a function: params, locals, result, code. -/
abbrev Fn := Int × List Int × Int × List (Int × Int)
/-- the slice 'v' holds the ints 'l'. -/
def IntsAt (w : World) (v : Value) (l : List Int) : Prop :=
  ∃ (p : Option Addr) (cap : Nat), v = .slice p l.length cap ∧ l.length ≤ maxLen ∧ ∀ k z, l[k]? = some z →
    ∃ b off, p = some ⟨b, off, none⟩ ∧ b < w.heap.size ∧ w.cell? ⟨b, off + k, none⟩ = some (.int .i64 z)
theorem IntsAt.below {w w' : World} {v : Value} {l : List Int} (h : IntsAt w v l) (hb : Below w.heap.size w w') : IntsAt w' v l := by
  obtain ⟨p, cap, rfl, hm, hc⟩ := h
  refine ⟨p, cap, rfl, hm, fun k o hk => ?_⟩
  obtain ⟨b, off, rfl, hlt, h0⟩ := hc k o hk
  exact ⟨b, off, rfl, Nat.lt_of_lt_of_le hlt hb.size, (hb.cell (p := ⟨b, off + k, none⟩) hlt).trans h0⟩
/-- four cells hold a function. -/
def FnAt (w : World) (c0 c1 c2 c3 : Value) (f : Fn) : Prop := c0 = .int .i64 f.1 ∧ IntsAt w c1 f.2.1 ∧ c2 = .int .i64 f.2.2.1 ∧ OpsAt w c3 f.2.2.2
theorem FnAt.below {w w' : World} {c0 c1 c2 c3 : Value} {f : Fn} (h : FnAt w c0 c1 c2 c3 f) (hb : Below w.heap.size w w') : FnAt w' c0 c1 c2 c3 f :=
  ⟨h.1, h.2.1.below hb, h.2.2.1, h.2.2.2.below hb⟩
/-- the slice 'v' holds the functions 'l'. -/
def FnsAt (w : World) (v : Value) (l : List Fn) : Prop :=
  ∃ (p : Option Addr) (cap : Nat), v = .slice p l.length cap ∧ l.length ≤ maxLen ∧ ∀ k f, l[k]? = some f →
    ∃ b off c0 c1 c2 c3, p = some ⟨b, off, none⟩ ∧ b < w.heap.size ∧ w.cell? ⟨b, off + k * 4, none⟩ = some c0 ∧ w.cell? ⟨b, off + k * 4 + 1, none⟩ = some c1 ∧ w.cell? ⟨b, off + k * 4 + 2, none⟩ = some c2 ∧ w.cell? ⟨b, off + k * 4 + 3, none⟩ = some c3 ∧ FnAt w c0 c1 c2 c3 f
theorem FnsAt.below {w w' : World} {v : Value} {l : List Fn} (h : FnsAt w v l) (hb : Below w.heap.size w w') : FnsAt w' v l := by
  obtain ⟨p, cap, rfl, hm, hc⟩ := h
  refine ⟨p, cap, rfl, hm, fun k f hk => ?_⟩
  obtain ⟨b, off, c0, c1, c2, c3, rfl, hlt, h0, h1, h2, h3, hf⟩ := hc k f hk
  exact ⟨b, off, c0, c1, c2, c3, rfl, Nat.lt_of_lt_of_le hlt hb.size, (hb.cell (p := ⟨b, off + k * 4, none⟩) hlt).trans h0, (hb.cell (p := ⟨b, off + k * 4 + 1, none⟩) hlt).trans h1, (hb.cell (p := ⟨b, off + k * 4 + 2, none⟩) hlt).trans h2, (hb.cell (p := ⟨b, off + k * 4 + 3, none⟩) hlt).trans h3, hf.below hb⟩
theorem neq_int_false {a b : Int} (h : a = b) : (a != b) = false := by simp [h]
theorem neq_int_true {a b : Int} (h : ¬ a = b) : (a != b) = true := by simp [h]
set_option maxHeartbeats 1000000 in
theorem sameInts_any (l m : List Int) (v u : Value) (w : World) (hl : IntsAt w v l) (hm : IntsAt w u m) : Calls Tryz.prog 26 #[v, u] w fun e w' => e = .returned (.bool (decide (l = m))) ∧ Below w.heap.size w w' := by
  obtain ⟨p, cap, rfl, hlm, hc⟩ := hl
  obtain ⟨q, cap', rfl, hmm, hd⟩ := hm
  unfold maxLen at hlm hmm
  by_cases hlen : l.length = m.length
  · have hlen' : ((l.length : Int) != (m.length : Int)) = false := by simp; omega
    have HLEN : Hid (l.length = m.length) := hlen
    have HC : Hid (∀ k z, l[k]? = some z → ∃ b off, p = some ⟨b, off, none⟩ ∧ b < w.heap.size ∧ w.cell? ⟨b, off + k, none⟩ = some (.int .i64 z)) := hc
    have HD : Hid (∀ k z, m[k]? = some z → ∃ b off, q = some ⟨b, off, none⟩ ∧ b < w.heap.size ∧ w.cell? ⟨b, off + k, none⟩ = some (.int .i64 z)) := hd
    clear hc hd hlen
    go_enter Tryz.func26, Tryz.ntmps26
    go_wp2
    go_loopw [5] (fun i wr => ∃ k : Nat, k ≤ l.length ∧ i = .int .i64 k ∧ l.take k = m.take k ∧ Below w.heap.size w wr) (fun i _ => l.length - (intOf i).toNat)
    case atStart => exact ⟨0, Nat.zero_le _, rfl, by simp, Below.refl _ _⟩
    case round =>
      obtain ⟨k, hk, rfl, htk, hbw⟩ := hrel
      have HT : Hid (l.take k = m.take k) := htk
      clear htk
      by_cases hlt : k < l.length
      · have hlt2 : k < m.length := by have := HLEN.out; omega
        obtain ⟨x, ho⟩ := at_of_lt hlt
        obtain ⟨y, ho'⟩ := at_of_lt hlt2
        obtain ⟨b, off, rfl, hb, h0⟩ := HC.out k _ ho
        obtain ⟨b', off', rfl, hb', h0'⟩ := HD.out k _ ho'
        have g0 := (hbw.cell (p := ⟨b, off + k, none⟩) hb).trans h0
        have g0' := (hbw.cell (p := ⟨b', off' + k, none⟩) hb').trans h0'
        have hlti : (k : Int) < (l.length : Int) := by omega
        have hlti2 : (k : Int) < (m.length : Int) := by omega
        have HO : Hid (l[k]? = some x) := ho
        have HO' : Hid (m[k]? = some y) := ho'
        clear ho ho' h0 h0'
        by_cases he : x = y
        · have hne := neq_int_false he
          have HE : Hid (x = y) := he
          clear he
          go_wp2
          go_quiet (fail)
          go_wp2
          go_roundw
          case rel => exact ⟨k + 1, by omega, by go_num, by rw [take_snoc l k _ HO.out, take_snoc m k _ HO'.out, HT.out, HE.out], below_drewN hbw _⟩
          case measure => simp [intOf]; omega
        · have hne := neq_int_true he
          have HE : Hid (¬ x = y) := he
          clear he
          go_wp2
          go_quiet (fail)
          go_wp2
          go_ret
          refine ⟨?_, below_drewN hbw _⟩
          have : ¬ l = m := fun h => by
            have h1 := HO.out
            rw [h, HO'.out] at h1
            simp at h1
            exact HE.out h1.symm
          simp [this]
      · have hlt' : ¬ (k : Int) < (l.length : Int) := by omega
        go_wp2
        go_ret
        refine ⟨?_, hbw⟩
        have : l = m := by
          have h := HT.out
          rwa [List.take_of_length_le (by omega), List.take_of_length_le (by have := HLEN.out; omega)] at h
        simp [this]
  · have hlen' : ((l.length : Int) != (m.length : Int)) = true := by simp; omega
    have hne : ¬ l = m := fun h => hlen (by rw [h])
    clear hc hd
    have HN : Hid (¬ l = m) := hne
    clear hne hlen
    go_enter Tryz.func26, Tryz.ntmps26
    go_wp2
    go_ret
    exact ⟨by simp [HN.out], Below.refl _ _⟩
end Go.Proofs.YtcadpoknolefpaaGreat
