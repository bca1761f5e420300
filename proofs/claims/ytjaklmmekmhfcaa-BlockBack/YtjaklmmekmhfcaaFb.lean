/- slices.Index and slices.Contains at numbers; flow.rising, flow.next. -/
import Derived.Test.YtjaklmmekmhfcaaFa
import Derived.Test.YtjaklmmekmhfcaaShelf2
namespace Go.Proofs.Ytjaklmmekmhfcaa
open Go.RowKit
set_option linter.unusedSimpArgs false
set_option linter.unusedVariables false
set_option maxHeartbeats 1000000 in
theorem indexInt_any (l : List Int) (x : Int) (v : Value) (w : World) (h : IntsAt w v l) : Calls Try.prog 39 #[v, .int .i64 x] w fun e w' => ∃ r, e = .returned (.int .i64 r) ∧ decide (0 ≤ r) = (!l.all fun z => !(z == x)) ∧ w' = w := by
  obtain ⟨p, cap, rfl, hm, hc⟩ := h
  unfold maxLen at hm
  go_enter Try.func39, Try.ntmps39
  go_wp2
  go_loopw [5, 8] (fun _ i wr => ∃ k : Nat, k ≤ l.length ∧ i = .int .i64 k ∧ (∀ o ∈ l.take k, (!(o == x)) = true) ∧ wr = w) (fun _ i _ => l.length - (intOf i).toNat)
  case atStart => exact ⟨0, Nat.zero_le _, rfl, by simp, rfl⟩
  case round =>
    obtain ⟨k, hk, rfl, hok, hbw⟩ := hrel
    subst hbw
    have HK : Hid (∀ o ∈ l.take k, (!(o == x)) = true) := hok
    clear hok
    have HC := hideP hc
    clear hc
    by_cases hlt : k < l.length
    · obtain ⟨z, ho⟩ := at_of_lt hlt
      obtain ⟨b, off, rfl, hb, h0⟩ := HC.out k _ ho
      have HO : Hid (l[k]? = some z) := ho
      clear ho
      cases hnb : (z == x)
      · have hnb' : (x == z) = false := by rw [Bool.eq_false_iff] at hnb ⊢; intro h; simp at h hnb; exact hnb h.symm
        go_wp2
        go_roundw
        case rel => exact ⟨k + 1, by omega, by go_num, all_snoc HK.out HO.out (by rw [hnb]; rfl), trivial⟩
        case measure => simp [intOf]; omega
      · obtain rfl : z = x := by simpa using hnb
        go_wp2
        go_ret
        exact ⟨k, rfl, by rw [all_false HO.out (by rw [hnb]; rfl)]; simp, rfl⟩
    · have hlt' : ¬ (k : Int) < (l.length : Int) := by omega
      go_wp2
      go_ret
      refine ⟨-1, rfl, ?_, rfl⟩
      have := HK.out
      rw [List.take_of_length_le (by omega)] at this
      rw [all_true this]; decide
set_option maxHeartbeats 1000000 in
theorem containsInt_any (l : List Int) (x : Int) (v : Value) (w : World) (h : IntsAt w v l) : Calls Try.prog 32 #[v, .int .i64 x] w fun e w' => e = .returned (.bool (decide (x ∈ l))) ∧ w' = w := by
  go_enter Try.func32, Try.ntmps32
  go_wp2_with fail
  refine (indexInt_any l x v _ h).mono ?_
  rintro e w2 ⟨r, rfl, hr, hw⟩
  have hw := hw.symm
  subst hw
  have hr2 : decide (0 ≤ r) = decide (x ∈ l) := by
    rw [hr, List.not_all_eq_any_not, Bool.eq_iff_iff]
    simp
  have HR := hideP hr2
  clear hr hr2
  go_wp2
  go_ret
  exact ⟨by rw [← HR.out]; rfl, rfl⟩
theorem row_same {W W' : World} {base : Nat} {e : TypeId} {size : Nat} {v : Value} {n : Nat} {xs : List Value} (h : W.ownsRow base e size v n xs) (hk : ∀ k, v.ownBlock = some k → W'.heap[k]? = W.heap[k]?) : W'.ownsRow base e size v n xs := by
  refine ⟨h.1, ?_⟩
  rcases h.2 with h | ⟨g, cap, cur, rfl, hb, hg, r⟩
  · exact .inl h
  · exact .inr ⟨g, cap, cur, rfl, hb, (hk g rfl).trans hg, r⟩
/-- two numbers, rising, each once. -/
def rise (a b : Int) : List Int := if a = b then [a] else if a < b then [a, b] else [b, a]
theorem sort_two (a b : Int) : [a, b].mergeSort (fun x y => decide (x ≤ y)) = if a ≤ b then [a, b] else [b, a] := by
  by_cases h : a ≤ b
  · rw [if_pos h]
    exact List.mergeSort_of_pairwise (by simpa using h)
  · rw [if_neg h]
    have hp := List.mergeSort_perm [a, b] (fun x y => decide (x ≤ y))
    have hs := List.pairwise_mergeSort (le := fun x y : Int => decide (x ≤ y)) (by intro x y z; simp; omega) (by intro x y; simp; omega) [a, b]
    have hq : [b, a].Pairwise fun x y : Int => (decide (x ≤ y)) = true := by simp; omega
    have hp2 : ([a, b].mergeSort (fun x y => decide (x ≤ y))).Perm [b, a] := hp.trans (List.Perm.swap b a [])
    exact hp2.eq_of_pairwise (fun x y _ _ h1 h2 => by simp at h1 h2; omega) hs hq
theorem compact_two (a b : Int) : Lib.compact [a, b] = if a = b then [a] else [a, b] := by
  by_cases h : a = b
  · subst h; simp [Lib.compact, Lib.compactUpTo, Lib.keeps, List.range_succ]
  · have h' : b ≠ a := fun e => h e.symm
    rw [if_neg h]
    simp [Lib.compact, Lib.compactUpTo, Lib.keeps, List.range_succ, h']
theorem mapBlock_grown (w : World) (B : Nat) (f : Array Value → Array Value) (n : Nat) : w.grownBy (Sort.mapBlock (Sort.ahead w n) B f) (some B) :=
  ⟨rfl, rfl, rfl, by simp [Sort.mapBlock, Sort.ahead], fun k hk hne => by
    have hne' : ¬ B = k := fun e => hne (by rw [e])
    simp [Sort.mapBlock, Sort.ahead, Array.getElem?_modify, hne']⟩
theorem grow_grown (w : World) (os : Array Obj) (row : Option Nat) : w.grownBy (Sort.grow w os) row :=
  ⟨rfl, rfl, rfl, by simp [Sort.grow], fun k hk hne => by simp [Sort.grow, Array.getElem?_append, hk]⟩
theorem putRow_two (w : World) (B n : Nat) (x y a b : Value) (t : TypeId) (h : w.heap[B]? = some (.cells #[x, y] t (0, 0))) (l : Array Int) (hl : l.size = 2) : (Sort.putRow (Value.int .i64) (Sort.ahead w n) B 0 l).heap[B]? = some (.cells #[.int .i64 l[0]!, .int .i64 l[1]!] t (0, 0)) := by
  simp only [Sort.putRow, Sort.mapBlock, Sort.ahead, Array.getElem?_modify, if_true, h, Option.map_some, Sort.onCells, Option.some.injEq, Obj.cells.injEq, and_true]
  apply Array.ext_getElem?
  intro k
  simp only [Sort.putCells, Array.getElem?_mapIdx]
  match k with
  | 0 => simp [hl]
  | 1 => simp [hl]
  | k + 2 => simp
theorem holds_two {w : World} {B : Nat} {a b : Int} {t : TypeId} (h : w.heap[B]? = some (.cells #[.int .i64 a, .int .i64 b] t (0, 0))) : Sort.Holds (Value.int .i64) w B 0 [a, b].toArray := by
  intro j hj
  have hf := Lib.frozen_of_heap h
  match j, hj with
  | 0, _ => exact ⟨by rw [cell_at' h]; rfl, by simpa using hf 0⟩
  | 1, _ => exact ⟨by rw [cell_at' h]; rfl, by simpa using hf 1⟩
/-- where it goes on behind an op, as numbers. -/
def nextI (c a pc : Int) : List Int := if c = 13 then [] else if c = 10 then [a] else if c = 11 then rise a (pc + 1) else [pc + 1]
theorem one_row {w : World} {B : Nat} {x : Int} (h : w.heap[B]? = some (.cells #[.int .i64 x] 3 (0, 0))) : w.ownsRow B 3 1 (.slice (some ⟨B, 0, none⟩) 1 1) 1 [.int .i64 x] :=
  ⟨by simp, .inr ⟨B, 1, _, rfl, Nat.le_refl _, h, Nat.le_refl _, by unfold maxLen; omega, by simp, by simp⟩⟩
theorem new_two (w : World) (o o' : Obj) : ((w.alloc o).alloc o').heap[w.heap.size + 1]? = some o' := by
  have := World.alloc_heap_new (w.alloc o) o'
  simpa using this
theorem row_low {w : World} {B B' : Nat} {e : TypeId} {size : Nat} {v : Value} {n : Nat} {xs : List Value} (h : w.ownsRow B e size v n xs) (hB : B' ≤ B) : w.ownsRow B' e size v n xs := by
  refine ⟨h.1, ?_⟩
  rcases h.2 with h | ⟨g, cap, cur, rfl, hb, r⟩
  · exact .inl h
  · exact .inr ⟨g, cap, cur, rfl, Nat.le_trans hB hb, r⟩
end Go.Proofs.Ytjaklmmekmhfcaa

