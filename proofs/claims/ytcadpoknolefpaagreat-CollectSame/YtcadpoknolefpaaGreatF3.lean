/- My texts Fb Fc Fd Fe Ff Pj: what of them is needed, joined. -/
import Derived.Laws.EntriesVeiled
import Derived.Test.YtcadpoknolefpaaGreatF1
import Derived.Test.YtcadpoknolefpaaGreatF2
/- slices.Index and slices.Contains at numbers; flow.rising, flow.next. -/
namespace Go.Proofs.YtcadpoknolefpaaGreat
open Go.RowKit
set_option linter.unusedSimpArgs false
set_option linter.unusedVariables false
set_option maxHeartbeats 1000000 in
theorem indexInt_any (l : List Int) (x : Int) (v : Value) (w : World) (h : IntsAt w v l) : Calls Tryz.prog 80 #[v, .int .i64 x] w fun e w' => ∃ r, e = .returned (.int .i64 r) ∧ decide (0 ≤ r) = (!l.all fun z => !(z == x)) ∧ w' = w := by
  obtain ⟨p, cap, rfl, hm, hc⟩ := h
  unfold maxLen at hm
  go_enter Tryz.func80, Tryz.ntmps80
  go_wp2
  go_loopw [5, 8] (fun _ i wr => ∃ k : Nat, k ≤ l.length ∧ i = .int .i64 k ∧ (∀ o ∈ l.take k, (!(o == x)) = true) ∧ wr = w) (fun _ i _ => l.length - (intOf i).toNat)
  case atStart => exact ⟨0, Nat.zero_le _, rfl, by simp, rfl⟩
  case round =>
    obtain ⟨k, hk, rfl, hok, hbw⟩ := hrel
    subst hbw
    have HK : Hid (∀ o ∈ l.take k, (!(o == x)) = true) := hok
    clear hok
    have HC := hideP hc
    clear hc
    by_cases hlt : k < l.length
    · obtain ⟨z, ho⟩ := at_of_lt hlt
      obtain ⟨b, off, rfl, hb, h0⟩ := HC.out k _ ho
      have HO : Hid (l[k]? = some z) := ho
      clear ho
      cases hnb : (z == x)
      · have hnb' : (x == z) = false := by rw [Bool.eq_false_iff] at hnb ⊢; intro h; simp at h hnb; exact hnb h.symm
        go_wp2
        go_roundw
        case rel => exact ⟨k + 1, by omega, by go_num, all_snoc HK.out HO.out (by rw [hnb]; rfl), trivial⟩
        case measure => simp [intOf]; omega
      · obtain rfl : z = x := by simpa using hnb
        go_wp2
        go_ret
        exact ⟨k, rfl, by rw [all_false HO.out (by rw [hnb]; rfl)]; simp, rfl⟩
    · have hlt' : ¬ (k : Int) < (l.length : Int) := by omega
      go_wp2
      go_ret
      refine ⟨-1, rfl, ?_, rfl⟩
      have := HK.out
      rw [List.take_of_length_le (by omega)] at this
      rw [all_true this]; decide
set_option maxHeartbeats 1000000 in
theorem containsInt_any (l : List Int) (x : Int) (v : Value) (w : World) (h : IntsAt w v l) : Calls Tryz.prog 108 #[v, .int .i64 x] w fun e w' => e = .returned (.bool (decide (x ∈ l))) ∧ w' = w := by
  go_enter Tryz.func108, Tryz.ntmps108
  go_wp2_with fail
  refine (indexInt_any l x v _ h).mono ?_
  rintro e w2 ⟨r, rfl, hr, hw⟩
  have hw := hw.symm
  subst hw
  have hr2 : decide (0 ≤ r) = decide (x ∈ l) := by
    rw [hr, List.not_all_eq_any_not, Bool.eq_iff_iff]
    simp
  have HR := hideP hr2
  clear hr hr2
  go_wp2
  go_ret
  exact ⟨by rw [← HR.out]; rfl, rfl⟩
theorem row_same {W W' : World} {base : Nat} {e : TypeId} {size : Nat} {v : Value} {n : Nat} {xs : List Value} (h : W.ownsRow base e size v n xs) (hk : ∀ k, v.ownBlock = some k → W'.heap[k]? = W.heap[k]?) : W'.ownsRow base e size v n xs := by
  refine ⟨h.1, ?_⟩
  rcases h.2 with h | ⟨g, cap, cur, rfl, hb, hg, r⟩
  · exact .inl h
  · exact .inr ⟨g, cap, cur, rfl, hb, (hk g rfl).trans hg, r⟩
def rise (a b : Int) : List Int := if a = b then [a] else if a < b then [a, b] else [b, a]
theorem sort_two (a b : Int) : [a, b].mergeSort (fun x y => decide (x ≤ y)) = if a ≤ b then [a, b] else [b, a] := by
  by_cases h : a ≤ b
  · rw [if_pos h]
    exact List.mergeSort_of_pairwise (by simpa using h)
  · rw [if_neg h]
    have hp := List.mergeSort_perm [a, b] (fun x y => decide (x ≤ y))
    have hs := List.pairwise_mergeSort (le := fun x y : Int => decide (x ≤ y)) (by intro x y z; simp; omega) (by intro x y; simp; omega) [a, b]
    have hq : [b, a].Pairwise fun x y : Int => (decide (x ≤ y)) = true := by simp; omega
    have hp2 : ([a, b].mergeSort (fun x y => decide (x ≤ y))).Perm [b, a] := hp.trans (List.Perm.swap b a [])
    exact hp2.eq_of_pairwise (fun x y _ _ h1 h2 => by simp at h1 h2; omega) hs hq
theorem compact_two (a b : Int) : Lib.compact [a, b] = if a = b then [a] else [a, b] := by
  by_cases h : a = b
  · subst h; simp [Lib.compact, Lib.compactUpTo, Lib.keeps, List.range_succ]
  · have h' : b ≠ a := fun e => h e.symm
    rw [if_neg h]
    simp [Lib.compact, Lib.compactUpTo, Lib.keeps, List.range_succ, h']
theorem mapBlock_grown (w : World) (B : Nat) (f : Array Value → Array Value) (n : Nat) : w.grownBy (Sort.mapBlock (Sort.ahead w n) B f) (some B) :=
  ⟨rfl, rfl, rfl, by simp [Sort.mapBlock, Sort.ahead], fun k hk hne => by
    have hne' : ¬ B = k := fun e => hne (by rw [e])
    simp [Sort.mapBlock, Sort.ahead, Array.getElem?_modify, hne']⟩
theorem grow_grown (w : World) (os : Array Obj) (row : Option Nat) : w.grownBy (Sort.grow w os) row :=
  ⟨rfl, rfl, rfl, by simp [Sort.grow], fun k hk hne => by simp [Sort.grow, Array.getElem?_append, hk]⟩
theorem putRow_two (w : World) (B n : Nat) (x y a b : Value) (t : TypeId) (h : w.heap[B]? = some (.cells #[x, y] t (0, 0))) (l : Array Int) (hl : l.size = 2) : (Sort.putRow (Value.int .i64) (Sort.ahead w n) B 0 l).heap[B]? = some (.cells #[.int .i64 l[0]!, .int .i64 l[1]!] t (0, 0)) := by
  simp only [Sort.putRow, Sort.mapBlock, Sort.ahead, Array.getElem?_modify, if_true, h, Option.map_some, Sort.onCells, Option.some.injEq, Obj.cells.injEq, and_true]
  apply Array.ext_getElem?
  intro k
  simp only [Sort.putCells, Array.getElem?_mapIdx]
  match k with
  | 0 => simp [hl]
  | 1 => simp [hl]
  | k + 2 => simp
theorem holds_two {w : World} {B : Nat} {a b : Int} {t : TypeId} (h : w.heap[B]? = some (.cells #[.int .i64 a, .int .i64 b] t (0, 0))) : Sort.Holds (Value.int .i64) w B 0 [a, b].toArray := by
  intro j hj
  have hf := Lib.frozen_of_heap h
  match j, hj with
  | 0, _ => exact ⟨by rw [cell_at' h]; rfl, by simpa using hf 0⟩
  | 1, _ => exact ⟨by rw [cell_at' h]; rfl, by simpa using hf 1⟩
set_option maxHeartbeats 2000000 in
theorem rising_any (a b : Int) (B : Nat) (w : World) (h : w.heap[B]? = some (.cells #[.int .i64 a, .int .i64 b] 3 (0, 0))) : Calls Tryz.prog 232 #[.slice (some ⟨B, 0, none⟩) 2 2] w fun e w' => ∃ v, e = .returned v ∧ w'.ownsRow B 3 1 v (rise a b).length ((rise a b).map (Value.int .i64)) ∧ w.grownBy w' (some B) := by
  have hlt := heap_lt h
  have key : ∀ (x y : Int) (W : World), W.heap[B]? = some (.cells #[.int .i64 x, .int .i64 y] 3 (0, 0)) → (if x = y then [x] else [x, y]) = rise a b → Calls Tryz.prog 77 #[.slice (some ⟨B, 0, none⟩) 2 2] W fun e w' => ∃ v, e = .returned v ∧ w'.ownsRow B 3 1 v (rise a b).length ((rise a b).map (Value.int .i64)) ∧ W.grownBy w' (some B) := by
    intro x y W hW hr
    refine (Tryz.slices_Compact_int B 0 2 [x, y] W (holds_two hW) (by simp) (by simp)).mono ?_
    rw [compact_two]
    rintro e w' ⟨rfl, q, rfl⟩
    refine ⟨_, rfl, ?_, mapBlock_grown _ _ _ _⟩
    rw [hr]
    rw [← hr]
    by_cases hxy : x = y
    · subst hxy
      simp only [if_true]
      have hh := putRow_two W B q _ _ (.int .i64 0) (.int .i64 0) _ hW (([x] ++ List.replicate ([x, x].length - [x].length) 0).toArray) (by simp)
      refine ⟨by simp, .inr ⟨B, 2, _, rfl, Nat.le_refl _, hh, by simp, by unfold maxLen; omega, by simp, by simp⟩⟩
    · simp only [if_neg hxy]
      have hh := putRow_two W B q _ _ (.int .i64 0) (.int .i64 0) _ hW (([x, y] ++ List.replicate ([x, y].length - [x, y].length) 0).toArray) (by simp)
      refine ⟨by simp, .inr ⟨B, 2, _, rfl, Nat.le_refl _, hh, by simp, by unfold maxLen; omega, by simp, by simp⟩⟩
  have KEY := hideP key
  clear key
  go_enter Tryz.func232, Tryz.ntmps232
  go_wp2_with fail
  refine (Tryz.slices_Sort_int B 0 2 [a, b] w (holds_two h) hlt (by simp)).mono ?_
  rw [sort_two]
  rintro e w1 ⟨rfl, n, os, hw1⟩
  have hg1 : w.grownBy w1 (some B) := by rw [hw1]; exact (mapBlock_grown w B _ n).trans (grow_grown _ _ _)
  have hh1 : w1.heap[B]? = some (.cells (if a ≤ b then #[.int .i64 a, .int .i64 b] else #[.int .i64 b, .int .i64 a]) 3 (0, 0)) := by
    rw [hw1]
    have := putRow_two w B n _ _ (.int .i64 0) (.int .i64 0) _ h (if a ≤ b then [a, b] else [b, a]).toArray (by split <;> rfl)
    have h2 : B < (Sort.putRow (Value.int .i64) (Sort.ahead w n) B 0 (if a ≤ b then [a, b] else [b, a]).toArray).heap.size := heap_lt this
    show (_ ++ os)[B]? = _
    rw [Array.getElem?_append_left h2, this]
    split <;> rfl
  clear hw1
  have HH := hideP hh1
  clear hh1
  go_wp2_with fail
  by_cases hab : a ≤ b
  · have hh := HH.out
    rw [if_pos hab] at hh
    refine (KEY.out a b w1 hh (by unfold rise; by_cases h1 : a = b <;> simp [h1]; omega)).mono ?_
    rintro e w2 ⟨v, rfl, hrow, hg2⟩
    have HROW := hideP hrow
    clear hrow hh
    go_wp2
    go_ret
    exact ⟨_, rfl, HROW.out, hg1.trans hg2⟩
  · have hh := HH.out
    rw [if_neg hab] at hh
    refine (KEY.out b a w1 hh (by unfold rise; rw [if_neg (by omega), if_neg (by omega), if_neg (by omega)])).mono ?_
    rintro e w2 ⟨v, rfl, hrow, hg2⟩
    have HROW := hideP hrow
    clear hrow hh
    go_wp2
    go_ret
    exact ⟨_, rfl, HROW.out, hg1.trans hg2⟩
def nextI (c a pc : Int) : List Int := if c = 13 then [] else if c = 10 then [a] else if c = 11 then rise a (pc + 1) else [pc + 1]
theorem one_row {w : World} {B : Nat} {x : Int} (h : w.heap[B]? = some (.cells #[.int .i64 x] 3 (0, 0))) : w.ownsRow B 3 1 (.slice (some ⟨B, 0, none⟩) 1 1) 1 [.int .i64 x] :=
  ⟨by simp, .inr ⟨B, 1, _, rfl, Nat.le_refl _, h, Nat.le_refl _, by unfold maxLen; omega, by simp, by simp⟩⟩
theorem new_two (w : World) (o o' : Obj) : ((w.alloc o).alloc o').heap[w.heap.size + 1]? = some o' := by
  have := World.alloc_heap_new (w.alloc o) o'
  simpa using this
theorem row_low {w : World} {B B' : Nat} {e : TypeId} {size : Nat} {v : Value} {n : Nat} {xs : List Value} (h : w.ownsRow B e size v n xs) (hB : B' ≤ B) : w.ownsRow B' e size v n xs := by
  refine ⟨h.1, ?_⟩
  rcases h.2 with h | ⟨g, cap, cur, rfl, hb, r⟩
  · exact .inl h
  · exact .inr ⟨g, cap, cur, rfl, Nat.le_trans hB hb, r⟩
set_option maxHeartbeats 2000000 in
theorem flowNext1_any (c a pc : Int) (w : World) (hp : 0 ≤ pc ∧ pc ≤ 9223372036854775806) : Calls Tryz.prog 205 #[.agg #[.int .i64 c, .int .i64 a], .int .i64 pc] w fun e w' => ∃ v, e = .returned v ∧ w'.ownsRow w.heap.size 3 1 v (nextI c a pc).length ((nextI c a pc).map (Value.int .i64)) ∧ Below w.heap.size w w' := by
  have hw : Below w.heap.size w (w.alloc (.cells #[.int .i64 c, .int .i64 a] 43)) := (Below.refl _ w).alloc (Nat.le_refl _) _
  have hwr : wrap64 (pc + 1) = pc + 1 := by unfold wrap64; omega
  by_cases h13 : c = 13
  · subst h13
    go_enter Tryz.func205, Tryz.ntmps205
    go_wp2
    go_ret
    exact ⟨_, rfl, World.ownsRow_nil _ _ _ _, hw⟩
  have h13' : (c == 13) = false := by simp [h13]
  by_cases h10 : c = 10
  · subst h10
    go_enter Tryz.func205, Tryz.ntmps205
    go_wp2
    go_ret
    refine ⟨_, rfl, ?_, hw.alloc (by simp) _⟩
    exact row_low (one_row (new_two w _ _)) (by omega)
  have h10' : (c == 10) = false := by simp [h10]
  by_cases h11 : c = 11
  · subst h11
    obtain ⟨W1, hW1⟩ : ∃ W1, (w.alloc (.cells #[.int .i64 11, .int .i64 a] 43)).alloc (.cells #[.int .i64 a, .int .i64 (pc + 1)] 3) = W1 := ⟨_, rfl⟩
    have hB1 : Below w.heap.size w W1 := by rw [← hW1]; exact hw.alloc (by simp) _
    have hh : W1.heap[w.heap.size + 1]? = some (.cells #[.int .i64 a, .int .i64 (pc + 1)] 3 (0, 0)) := by
      rw [← hW1]
      have := World.alloc_heap_new (w.alloc (.cells #[.int .i64 11, .int .i64 a] 43)) (.cells #[.int .i64 a, .int .i64 (pc + 1)] 3)
      simpa using this
    have HH := hideP hh
    clear hh
    go_enter Tryz.func205, Tryz.ntmps205
    go_wp2_with (go_at_call 232; refine (rising_any a (pc + 1) (w.heap.size + 1) _ HH.out).mono ?_; rintro e w2 ⟨v, rfl, hrow, hg⟩; have HROW := hideP hrow; clear hrow)
    go_ret
    refine ⟨_, rfl, row_low HROW.out (by omega), hB1.grown hg hB1.size (fun k hk => by cases hk; omega)⟩
  have h11' : (c == 11) = false := by simp [h11]
  go_enter Tryz.func205, Tryz.ntmps205
  go_wp2
  go_ret
  refine ⟨_, rfl, ?_, hw.alloc (by simp) _⟩
  have e1 : nextI c a pc = [pc + 1] := by simp [nextI, h13, h10, h11]
  rw [e1]
  exact row_low (one_row (new_two w _ _)) (by omega)
end Go.Proofs.YtcadpoknolefpaaGreat


/- flow.places at the closures of Back and Reach. -/
namespace Go.Proofs.YtcadpoknolefpaaGreat
open Go.RowKit
set_option linter.unusedSimpArgs false
set_option linter.unusedVariables false
def placesL (p : Nat → Bool) (n : Nat) : List Int := ((List.range n).filter p).map Int.ofNat
theorem placesL_succ_true {p : Nat → Bool} {n : Nat} (h : p n = true) : placesL p (n + 1) = placesL p n ++ [(n : Int)] := by
  simp [placesL, List.range_succ, List.filter_append, h]
theorem placesL_succ_false {p : Nat → Bool} {n : Nat} (h : p n = false) : placesL p (n + 1) = placesL p n := by
  simp [placesL, List.range_succ, List.filter_append, h]
theorem placesL_le (p : Nat → Bool) (n : Nat) : (placesL p n).length ≤ n := by
  have := List.length_filter_le p (List.range n)
  simpa [placesL] using this
def ReachBox (w : World) (bR R : Nat) (M : List Bool) : Prop := bR < w.heap.size ∧ R < w.heap.size ∧ w.cell? ⟨bR, 0, none⟩ = some (.slice (some ⟨R, 0, none⟩) M.length M.length) ∧ ∀ k b, M[k]? = some b → w.cell? ⟨R, k, none⟩ = some (.bool b)
theorem ReachBox.below {w w' : World} {bR R : Nat} {M : List Bool} (h : ReachBox w bR R M) (hb : Below w.heap.size w w') : ReachBox w' bR R M :=
  ⟨Nat.lt_of_lt_of_le h.1 hb.size, Nat.lt_of_lt_of_le h.2.1 hb.size, (hb.cell (p := ⟨bR, 0, none⟩) h.1).trans h.2.2.1, fun k b hk => (hb.cell (p := ⟨R, k, none⟩) h.2.1).trans (h.2.2.2 k b hk)⟩
set_option maxHeartbeats 2000000 in
theorem reachC_any (M : List Bool) (k bR R : Nat) (w : World) (hk : k < M.length) (h41 : M.length ≤ 41) (hb : ReachBox w bR R M) : Calls Tryz.prog 208 #[.int .i64 k, .pointer (some ⟨bR, 0, none⟩)] w fun e w' => e = .returned (.bool (M.getD k false)) ∧ Below w.heap.size w w' := by
  obtain ⟨h1, h2, h3, h4⟩ := hb
  obtain ⟨b, ho⟩ := at_of_lt hk
  have g := h4 k b ho
  have he : M.getD k false = b := by rw [List.getD_eq_getElem?_getD, ho]; rfl
  rw [he]
  clear h4 ho he
  have hlti : (k : Int) < (M.length : Int) := by omega
  go_enter Tryz.func208, Tryz.ntmps208
  go_wp2
  go_ret
  exact ⟨rfl, Below.refl _ _⟩
set_option maxHeartbeats 2000000 in
theorem placesReach_any (M : List Bool) (n bR R : Nat) (w : World) (hn : n = M.length) (h40 : n ≤ 41) (hb : ReachBox w bR R M) : Calls Tryz.prog 207 #[.int .i64 n, .func (.func 208) #[] #[.pointer (some ⟨bR, 0, none⟩)]] w fun e w' => ∃ v, e = .returned v ∧ w'.ownsRow w.heap.size 3 1 v (placesL (fun pc => M.getD pc false) n).length ((placesL (fun pc => M.getD pc false) n).map (Value.int .i64)) ∧ Below w.heap.size w w' := by
  obtain ⟨i0, hi, hz0, hz1, hz2⟩ := info_parts infoInt
  obtain ⟨P, hP⟩ : ∃ P : Nat → Bool, (fun pc => M.getD pc false) = P := ⟨_, rfl⟩
  have hcall : ∀ (k : Nat) (W : World), k < n → Below w.heap.size w W → Calls Tryz.prog 208 #[.int .i64 k, .pointer (some ⟨bR, 0, none⟩)] W fun e w' => e = .returned (.bool (P k)) ∧ Below W.heap.size W w' := by
    intro k W hk hbw
    have hB2 := hb.below hbw
    rw [← hP]
    exact reachC_any M k bR R _ (by omega) (by omega) hB2
  have HCALL := hideP hcall
  rw [hP]
  clear hcall hP hn hb
  go_enter Tryz.func207, Tryz.ntmps207
  go_wp2
  go_loopw [5, 6, 8] (fun v5 _ i wr => ∃ k : Nat, k ≤ n ∧ i = .int .i64 k ∧ wr.ownsRow w.heap.size 3 1 v5 (placesL P k).length ((placesL P k).map (Value.int .i64)) ∧ Below w.heap.size w wr) (fun _ _ i _ => n - (intOf i).toNat)
  case atStart => exact ⟨0, Nat.zero_le _, rfl, World.ownsRow_nil _ _ _ _, Below.refl _ _⟩
  case round =>
    rename World => w2
    obtain ⟨k, hk, rfl, hrow, hbw⟩ := hrel
    obtain ⟨p5, c5, rfl⟩ := row_shp hrow
    by_cases hlt : k < n
    · have hlti : (k : Int) < (n : Int) := by omega
      have hle := placesL_le P k
      have HROW := hideP hrow
      clear hrow
      cases hp : P k
      · go_wp2_with (go_at_call 208; refine (HCALL.out k _ hlt hbw).mono ?_; rw [hp]; rintro e w3 ⟨rfl, hb3⟩)
        go_roundw
        case rel =>
          refine ⟨k + 1, by omega, by go_num, ?_, hbw.trans (hb3.mono hbw.size)⟩
          rw [placesL_succ_false hp]
          exact row_same HROW.out fun j hj => hb3.block j (HROW.out.lt j hj).2
        case measure => simp [intOf]; omega
      · go_wp2_with (first
          | (go_at_call 208; refine (HCALL.out k _ hlt hbw).mono ?_; rw [hp]; rintro e w3 ⟨rfl, hb3⟩; have hrow3 := hideP ((row_same HROW.out fun j hj => hb3.block j (HROW.out.lt j hj).2).alloc (.cells #[.int .i64 k] 3)))
          | (at_builtin; refine wpList_append_own _ rfl _ _ 27 rfl w.heap.size 3 i0 (.int .i64 0) 1 8 Tryz.underlying27 hi hz0 hz1 hz2 rfl (by decide) _ _ _ rfl hrow3.out ⟨w3.heap.size, 0, none⟩ 1 1 [.int .i64 k] rfl rfl (cell_one_new _ _ _) (by simp [Value.oneCell']) (by unfold maxLen; omega) (by omega) (by have := hb3.size; have := hbw.size; simp; omega) ?_; intro v' w4 hown4 hg4 _; obtain ⟨g', cap', rfl⟩ := ownsRow_succ hown4))
        go_roundw
        case rel =>
          refine ⟨k + 1, by omega, by go_num, ?_, ?_⟩
          · rw [placesL_succ_true hp]
            simpa using hown4
          · have h3 := hbw.trans (hb3.mono hbw.size)
            have h4 := h3.alloc (Nat.le_trans hbw.size hb3.size) (.cells #[.int .i64 k] 3)
            exact h4.grown hg4 (by have := hb3.size; have := hbw.size; simp; omega) (fun j hj => (hrow3.out.lt j hj).1)
        case measure => simp [intOf]; omega
    · have hlt' : ¬ (k : Int) < (n : Int) := by omega
      obtain rfl : k = n := by omega
      go_wp2
      go_ret
      exact ⟨_, rfl, hrow, hbw⟩

end Go.Proofs.YtcadpoknolefpaaGreat


/- flow.Next, flow.Back. -/
namespace Go.Proofs.YtcadpoknolefpaaGreat
open Go.RowKit
set_option linter.unusedSimpArgs false
set_option linter.unusedVariables false
theorem rising_ext {L K : List Nat} (h1 : L.Pairwise (· < ·)) (h2 : K.Pairwise (· < ·)) (h : ∀ x, x ∈ L ↔ x ∈ K) : L = K := by
  have n1 : L.Nodup := h1.imp (fun h e => by omega)
  have n2 : K.Nodup := h2.imp (fun h e => by omega)
  have hp : L.Perm K := (List.perm_ext_iff_of_nodup n1 n2).2 h
  exact hp.eq_of_pairwise (fun a b _ _ h1 h2 => absurd h1 (by omega)) h1 h2
theorem filt_eq {L : List Nat} {m : Nat} {p : Nat → Bool} (hL : L.Pairwise (· < ·)) (hm : ∀ x ∈ L, x < m) (hp : ∀ x, x < m → (p x = true ↔ x ∈ L)) : (List.range m).filter p = L := by
  refine rising_ext (List.pairwise_lt_range.filter _) hL fun x => ?_
  rw [List.mem_filter, List.mem_range]
  exact ⟨fun h => (hp x h.1).1 h.2, fun h => ⟨hm x h, (hp x (hm x h)).2 h⟩⟩
theorem nextI_eq {l : List (Int × Int)} (hf : flowErr l = 0) {k : Nat} {c a : Int} (ho : l[k]? = some (c, a)) : nextI c a k = (nextL l k).map Int.ofNat := by
  obtain ⟨_, _, hb⟩ := flowErr_zero hf
  have hk := lt_of_at ho
  have hbo := hb _ (List.mem_of_getElem? ho)
  unfold nextI nextL
  have hg : ∀ x : Nat, goesOn l k x = if c = 13 then false else if c = 10 then decide ((x : Int) = a) else if c = 11 then decide (x = k + 1) || decide ((x : Int) = a) else decide (x = k + 1) := by
    intro x; simp [goesOn, ho]
  by_cases h13 : c = 13
  · rw [if_pos h13, filt_eq (L := []) (by simp) (by simp) (by intro x _; rw [hg]; simp [h13])]; rfl
  rw [if_neg h13]
  by_cases h10 : c = 10
  · simp [badTo, h10] at hbo
    rw [if_pos h10, filt_eq (L := [a.toNat]) (by simp) (by simp; omega) (by intro x _; rw [hg]; simp [h13, h10]; omega)]
    simp; omega
  rw [if_neg h10]
  by_cases h11 : c = 11
  · simp [badTo, h11] at hbo
    rw [if_pos h11]
    unfold rise
    by_cases e1 : a = (k : Int) + 1
    · rw [if_pos e1, filt_eq (L := [k + 1]) (by simp) (by simp; omega) (by intro x _; rw [hg]; simp [h13, h10, h11]; omega)]
      simp [e1]
    rw [if_neg e1]
    by_cases e2 : a < (k : Int) + 1
    · rw [if_pos e2, filt_eq (L := [a.toNat, k + 1]) (by simp; omega) (by simp; omega) (by intro x _; rw [hg]; simp [h13, h10, h11]; omega)]
      simp; omega
    · rw [if_neg e2, filt_eq (L := [k + 1, a.toNat]) (by simp; omega) (by simp; omega) (by intro x _; rw [hg]; simp [h13, h10, h11]; omega)]
      simp; omega
  · rw [if_neg h11, filt_eq (L := [k + 1]) (by simp) (by simp; omega) (by intro x _; rw [hg]; simp [h13, h10, h11])]
    simp
def nextR (l : List (Int × Int)) (pc : Int) : List Int := if nextErr l pc = 0 then (nextL l pc.toNat).map Int.ofNat else []
theorem flowErr_40 {l : List (Int × Int)} (hf : flowErr l = 0) : l.length ≤ 40 := by
  have := (flowErr_zero hf).1
  unfold codeErr at this
  rcases Nat.lt_or_ge 40 l.length with h | h
  · rw [if_pos h] at this; cases this
  · exact h
set_option maxHeartbeats 2000000 in
theorem flowNext_any (l : List (Int × Int)) (pc : Int) (v : Value) (w : World) (h : OpsAt w v l) : Calls Tryz.prog 144 #[v, .int .i64 pc] w fun e w' => ∃ u, e = .returned (.tuple #[u, .int .i64 (nextErr l pc)]) ∧ w'.ownsRow w.heap.size 3 1 u (nextR l pc).length ((nextR l pc).map (Value.int .i64)) ∧ Below w.heap.size w w' := by
  have h' := h
  obtain ⟨p, cap, rfl, hm, hc⟩ := h'
  unfold maxLen at hm
  have HC := hideP hc
  clear hc
  by_cases hf : flowErr l = 0
  · have h40 := flowErr_40 hf
    by_cases hp : isAt l.length pc = true
    · have hp1 : 0 ≤ pc ∧ pc < (l.length : Int) := by simpa [isAt] using hp
      obtain ⟨k, rfl⟩ : ∃ k : Nat, pc = k := ⟨pc.toNat, by omega⟩
      have hk : k < l.length := by omega
      obtain ⟨⟨c, a⟩, ho⟩ := at_of_lt hk
      obtain ⟨b, off, rfl, hbl, g0, g1⟩ := HC.out k _ ho
      simp only at g0 g1
      have he : nextErr l k = 0 := by rw [nextErr, if_neg (by simp [hf]), if_neg (by omega)]
      have hr : nextR l k = nextI c a k := by rw [nextR, if_pos he, nextI_eq hf ho]; rfl
      rw [he, hr]
      have HF := hideP hf
      have HP1 := hideP hp1
      have HO := hideP ho
      have hck : ∀ W : World, OpsAt W (.slice (some ⟨b, off, none⟩) l.length cap) l → Calls Tryz.prog 203 #[.slice (some ⟨b, off, none⟩) l.length cap] W fun e w' => e = .returned (.int .i64 0) ∧ Below W.heap.size W w' := by
        intro W hW
        have := flowCheck_any l _ W hW
        rw [hf] at this
        exact this
      have HCK := hideP hck
      have hlti : (k : Int) < (l.length : Int) := by omega
      clear hf he hr ho hck hp1
      go_enter Tryz.func144, Tryz.ntmps144
      go_wp2_with (first
        | (go_at_call 203; refine (HCK.out _ h).mono ?_; rintro e w1 ⟨rfl, hb1⟩; have h1 := h.below hb1; have d0 := (hb1.cell (p := ⟨b, off + k * 2, none⟩) hbl).trans g0; have d1 := (hb1.cell (p := ⟨b, off + k * 2 + 1, none⟩) hbl).trans g1)
        | (go_at_call 204; refine (isPlace_any (k : Int) l _ _ h1).mono ?_; rw [hp]; rintro e w2 ⟨rfl, hw2⟩; have hw2 := hw2.symm; subst hw2)
        | (go_at_call 205; refine (flowNext1_any c a k _ (by omega)).mono ?_; rintro e w3 ⟨v3, rfl, hr3, hb3⟩; have HR3 := hideP hr3; clear hr3))
      go_ret2
      exact ⟨_, rfl, row_low HR3.out hb1.size, hb1.trans (hb3.mono hb1.size)⟩
    · have hp' : isAt l.length pc = false := by simpa using hp
      have hp1 : pc < 0 ∨ (l.length : Int) ≤ pc := by
        simp [isAt] at hp
        omega
      have he : nextErr l pc = 3 := by rw [nextErr, if_neg (by simp [hf]), if_pos hp1]
      have hr : nextR l pc = [] := by rw [nextR, if_neg (by rw [he]; decide)]
      rw [he, hr]
      have hck : ∀ W : World, OpsAt W (.slice p l.length cap) l → Calls Tryz.prog 203 #[.slice p l.length cap] W fun e w' => e = .returned (.int .i64 0) ∧ Below W.heap.size W w' := by
        intro W hW
        have := flowCheck_any l _ W hW
        rw [hf] at this
        exact this
      have HCK := hideP hck
      clear hf he hr hck hp hp1
      go_enter Tryz.func144, Tryz.ntmps144
      go_wp2_with (first
        | (go_at_call 203; refine (HCK.out _ h).mono ?_; rintro e w1 ⟨rfl, hb1⟩; have h1 := h.below hb1)
        | (go_at_call 204; refine (isPlace_any pc l _ _ h1).mono ?_; rw [hp']; rintro e w2 ⟨rfl, hw2⟩; have hw2 := hw2.symm; subst hw2))
      go_ret2
      exact ⟨_, rfl, World.ownsRow_nil _ _ _ _, hb1⟩
  · have he : nextErr l pc = flowErr l := by rw [nextErr, if_pos hf]
    have hr : nextR l pc = [] := by rw [nextR, if_neg (by rw [he]; exact hf)]
    rw [he, hr]
    have hf' : (flowErr l != 0) = true := by simp [hf]
    clear he hr hf
    go_enter Tryz.func144, Tryz.ntmps144
    go_wp2_with (go_at_call 203; refine (flowCheck_any l _ _ h).mono ?_; rintro e w1 ⟨rfl, hb1⟩)
    go_ret2
    exact ⟨_, rfl, World.ownsRow_nil _ _ _ _, hb1⟩
end Go.Proofs.YtcadpoknolefpaaGreat


/- flow.Reach: the closure that visits. -/
namespace Go.Proofs.YtcadpoknolefpaaGreat
open Go.RowKit
set_option linter.unusedSimpArgs false
set_option linter.unusedVariables false
def cf : List Bool → Nat
  | [] => 0
  | b :: r => (if b = true then 0 else 1) + cf r
theorem cf_set : ∀ (M : List Bool) (k : Nat), M[k]? = some false → cf (M.set k true) + 1 = cf M
  | [], k, h => by simp at h
  | b :: r, 0, h => by simp at h; subst h; simp [cf]; omega
  | b :: r, k + 1, h => by
    have := cf_set r k (by simpa using h)
    simp only [List.set_cons_succ, cf]
    omega
theorem cf_mono : ∀ (M M' : List Bool), M'.length = M.length → (∀ x, M.getD x false = true → M'.getD x false = true) → cf M' ≤ cf M
  | [], M', h, _ => by
    have : M' = [] := List.eq_nil_of_length_eq_zero (by simpa using h)
    subst this; simp [cf]
  | b :: r, [], h, _ => by simp at h
  | b :: r, c :: s, h, hx => by
    have := cf_mono r s (by simpa using h) (fun x hxx => by have := hx (x + 1) (by simpa using hxx); simpa using this)
    have h0 := hx 0
    simp at h0
    simp only [cf]
    cases b <;> cases c <;> simp_all <;> omega
theorem getD_set (M : List Bool) (k x : Nat) (hk : k < M.length) : (M.set k true).getD x false = if x = k then true else M.getD x false := by
  by_cases h : x = k
  · subst h; simp [List.getD_eq_getElem?_getD, hk]
  · rw [if_neg h, List.getD_eq_getElem?_getD, List.getD_eq_getElem?_getD, List.getElem?_set_ne (fun e => h e.symm)]
structure Grew (l : List (Int × Int)) (M M' : List Bool) : Prop where
  len : M'.length = M.length
  more : ∀ x, M.getD x false = true → M'.getD x false = true
  come : ∀ x, M'.getD x false = true → M.getD x false = true ∨ Come l x
  shut : ∀ x y, M'.getD x false = true → M.getD x false = false → goesOn l x y = true → M'.getD y false = true
theorem Grew.refl (l : List (Int × Int)) (M : List Bool) : Grew l M M := ⟨rfl, fun _ h => h, fun _ h => .inl h, fun x y h1 h2 => by rw [h1] at h2; cases h2⟩
theorem Grew.trans {l : List (Int × Int)} {M M' M'' : List Bool} (h : Grew l M M') (k : Grew l M' M'') : Grew l M M'' := by
  refine ⟨k.len.trans h.len, fun x hx => k.more x (h.more x hx), fun x hx => ?_, fun x y h1 h2 h3 => ?_⟩
  · rcases k.come x hx with h1 | h1
    · exact h.come x h1
    · exact .inr h1
  · cases hm : M'.getD x false
    · exact k.shut x y h1 hm h3
    · exact k.more y (h.shut x y hm h2 h3)
structure Vis (W0 w : World) (v : Value) (l : List (Int × Int)) (bR bC bV R : Nat) (M : List Bool) : Prop where
  bel : Below W0.heap.size W0 w
  hR : w.heap[R]? = some (.cells (M.map Value.bool).toArray 4 (0, 0))
  hbR : w.heap[bR]? = some (.cells #[.slice (some ⟨R, 0, none⟩) M.length M.length] 122 (0, 0))
  hbC : w.heap[bC]? = some (.cells #[v] 76 (0, 0))
  hbV : w.heap[bV]? = some (.cells #[.func (.func 206) #[] #[.pointer (some ⟨bR, 0, none⟩), .pointer (some ⟨bC, 0, none⟩), .pointer (some ⟨bV, 0, none⟩)]] 141 (0, 0))
theorem Vis.kept {W0 w w' : World} {v : Value} {l : List (Int × Int)} {bR bC bV R : Nat} {M : List Bool} (h : Vis W0 w v l bR bC bV R M) (hb : Below w.heap.size w w') : Vis W0 w' v l bR bC bV R M :=
  ⟨h.bel.trans (hb.mono h.bel.size), (hb.block _ (heap_lt h.hR)).trans h.hR, (hb.block _ (heap_lt h.hbR)).trans h.hbR, (hb.block _ (heap_lt h.hbC)).trans h.hbC, (hb.block _ (heap_lt h.hbV)).trans h.hbV⟩
theorem marks_cells {M : List Bool} {k : Nat} {b : Bool} (h : M[k]? = some b) : (M.map Value.bool).toArray[k]? = some (.bool b) := by
  simp [h]
theorem set_marks (M : List Bool) (k : Nat) : (M.map Value.bool).toArray.setIfInBounds k (.bool true) = ((M.set k true).map Value.bool).toArray := by
  apply Array.ext'
  simp
theorem Vis.mark {W0 w : World} {v : Value} {l : List (Int × Int)} {bR bC bV R : Nat} {M : List Bool} (h : Vis W0 w v l bR bC bV R M) (hR0 : W0.heap.size ≤ R) (k : Nat) : Vis W0 (w.setCell ⟨R, k, none⟩ (.bool true)) v l bR bC bV R (M.set k true) := by
  have n1 : bR ≠ R := fun e => by have := h.hbR; rw [e, h.hR] at this; simp at this
  have n2 : bC ≠ R := fun e => by have := h.hbC; rw [e, h.hR] at this; simp at this
  have n3 : bV ≠ R := fun e => by have := h.hbV; rw [e, h.hR] at this; simp at this
  refine ⟨h.bel.setCell hR0 _, ?_, ?_, ?_, ?_⟩
  · have := heap_setCell_same w R k _ _ (.bool true) h.hR
    rw [set_marks] at this
    exact this
  · rw [heap_setCell_other w _ _ _ (by simpa using n1), h.hbR]; simp
  · rw [heap_setCell_other w _ _ _ (by simpa using n2), h.hbC]
  · rw [heap_setCell_other w _ _ _ (by simpa using n3), h.hbV]
theorem set_grown (w : World) (a : Addr) (u : Value) : w.grownBy (w.setCell a u) (some a.block) :=
  ⟨rfl, rfl, rfl, by simp [World.setCell], fun k hk hne => Below.heap_setCell _ _ _ _ (fun e => hne (by rw [e]))⟩
theorem below_grown {w w' : World} (h : Below w.heap.size w w') (row : Option Nat) : w.grownBy w' row := ⟨h.os, h.tape, h.output, h.size, fun k hk _ => h.block k hk⟩
def VisP (W0 : World) (v : Value) (l : List (Int × Int)) (bR bC bV R : Nat) (M : List Bool) (k : Nat) (w : World) (e : Ending) (w' : World) : Prop :=
  e = .returned (.tuple #[]) ∧ ∃ M', Vis W0 w' v l bR bC bV R M' ∧ w.grownBy w' (some R) ∧ Grew l M M' ∧ M'.getD k false = true
set_option maxHeartbeats 2000000 in
theorem visit_marked (W0 : World) (v : Value) (l : List (Int × Int)) (bR bC bV R : Nat) (M : List Bool) (k : Nat) (w : World) (h41 : M.length ≤ 41) (hM : M[k]? = some true) (hv : Vis W0 w v l bR bC bV R M) :
    Calls Tryz.prog 206 #[.int .i64 k, .pointer (some ⟨bR, 0, none⟩), .pointer (some ⟨bC, 0, none⟩), .pointer (some ⟨bV, 0, none⟩)] w (VisP W0 v l bR bC bV R M k w) := by
  have hk := lt_of_at hM
  have c1 := cell_at' hv.hbR 0
  have c2 : w.cell? ⟨R, k, none⟩ = some (.bool true) := (cell_at' hv.hR k).trans (marks_cells hM)
  simp at c1
  have hlti : (k : Int) < (M.length : Int) := by omega
  have HV := hideP hv
  have HM := hideP hM
  clear hv hM
  go_enter Tryz.func206, Tryz.ntmps206
  go_wp2
  refine bodyPost_ret (v := .tuple #[]) (by simp [results, Tryz.results206, go_sem]) rfl ?_
  exact ⟨rfl, M, HV.out, World.grownBy.refl _ _, Grew.refl _ _, by rw [List.getD_eq_getElem?_getD, HM.out]; rfl⟩
theorem grew_mark {l : List (Int × Int)} {M M' : List Bool} {k : Nat} (hk : M[k]? = some false) (hc : Come l k) (h : Grew l (M.set k true) M') (hs : ∀ y, goesOn l k y = true → M'.getD y false = true) : Grew l M M' ∧ M'.getD k false = true := by
  have hlt := lt_of_at hk
  have hg := fun x => getD_set M k x hlt
  have hkk : M'.getD k false = true := h.more k (by rw [hg, if_pos rfl])
  refine ⟨⟨h.len.trans (by simp), fun x hx => h.more x ?_, fun x hx => ?_, fun x y h1 h2 h3 => ?_⟩, hkk⟩
  · rw [hg]; split
    · rfl
    · exact hx
  · rcases h.come x hx with h1 | h1
    · rw [hg] at h1
      by_cases e : x = k
      · subst e; exact .inr hc
      · rw [if_neg e] at h1; exact .inl h1
    · exact .inr h1
  · by_cases e : x = k
    · subst e; exact hs y h3
    · exact h.shut x y h1 (by rw [hg, if_neg e]; exact h2) h3
set_option maxHeartbeats 8000000 in
theorem visit_any (W0 : World) (v : Value) (l : List (Int × Int)) (bR bC bV R : Nat) (hl : OpsAt W0 v l) (hf : flowErr l = 0) (hR0 : W0.heap.size ≤ R) (n : Nat) :
    ∀ (M : List Bool) (k : Nat) (w : World), cf M ≤ n → M.length = l.length + 1 → k < M.length → Come l k → Vis W0 w v l bR bC bV R M →
      Calls Tryz.prog 206 #[.int .i64 k, .pointer (some ⟨bR, 0, none⟩), .pointer (some ⟨bC, 0, none⟩), .pointer (some ⟨bV, 0, none⟩)] w (VisP W0 v l bR bC bV R M k w) := by
  have h40 := flowErr_40 hf
  induction n with
  | zero =>
    intro M k w hn hlen hk hcome hv
    have hM : M[k]? = some true := by
      obtain ⟨b, hb⟩ := at_of_lt hk
      cases b
      · have := cf_set M k hb; omega
      · exact hb
    exact visit_marked W0 v l bR bC bV R M k w (by omega) hM hv
  | succ n ih =>
    intro M k w hn hlen hk hcome hv
    obtain ⟨b, hM⟩ := at_of_lt hk
    cases b with
    | true => exact visit_marked W0 v l bR bC bV R M k w (by omega) hM hv
    | false =>
      have hcf := cf_set M k hM
      have c1 := cell_at' hv.hbR 0
      have c2 : w.cell? ⟨R, k, none⟩ = some (.bool false) := (cell_at' hv.hR k).trans (marks_cells hM)
      have z2 := Lib.frozen_of_heap hv.hR k
      have hv1 := hv.mark hR0 k
      obtain ⟨w1, hw1⟩ : ∃ w1, w.setCell ⟨R, k, none⟩ (.bool true) = w1 := ⟨_, rfl⟩
      rw [hw1] at hv1
      have hg1 : w.grownBy w1 (some R) := by rw [← hw1]; exact set_grown _ _ _
      have d1 := cell_at' hv1.hbC 0
      have hl1 := hl.below hv1.bel
      simp at c1 d1 z2
      have hlti : (k : Int) < (M.length : Int) := by omega
      have HV := hideP hv
      have HV1 := hideP hv1
      have HM := hideP hM
      have IH := hideP ih
      clear hv hv1 hM ih
      by_cases hlt : k < l.length
      · have hq : isAt l.length (k : Int) = true := by simp [isAt]; omega
        obtain ⟨⟨c, a⟩, ho⟩ := at_of_lt hlt
        have hl' := hl1
        obtain ⟨p, q, rfl, hm, hc⟩ := hl'
        obtain ⟨b, off, rfl, hbl, g0, g1⟩ := hc k _ ho
        simp only at g0 g1
        unfold maxLen at hm
        have hlti2 : (k : Int) < (l.length : Int) := by omega
        have hnx := nextI_eq hf ho
        obtain ⟨L, hL⟩ : ∃ L, nextI c a k = L := ⟨_, rfl⟩
        have hx1 : ∀ W : World, Calls Tryz.prog 205 #[.agg #[.int .i64 c, .int .i64 a], .int .i64 k] W fun e w' => ∃ v, e = .returned v ∧ w'.ownsRow W.heap.size 3 1 v L.length (L.map (Value.int .i64)) ∧ Below W.heap.size W w' := by
          intro W; rw [← hL]; exact flowNext1_any c a k W (by omega)
        rw [hL] at hnx
        have HX1 := hideP hx1
        have HO := hideP ho
        have HNX := hideP hnx
        clear hc ho hnx hx1 hL
        go_enter Tryz.func206, Tryz.ntmps206
        go_wp2_with (first
          | (go_at_call 204; refine (isPlace_any (k : Int) l _ _ hl1).mono ?_; rw [hq]; rintro e w2 ⟨rfl, hw2⟩; have hw2 := hw2.symm; subst hw2)
          | (go_at_call 205; refine (HX1.out _).mono ?_; rintro e w3 ⟨v3, rfl, hr3, hb3⟩; obtain ⟨p3, q3, rfl⟩ := row_shp hr3; have HR3 := hideP hr3; clear hr3))
        have hv3 := HV1.out.kept hb3
        have hLl : L.length ≤ 41 := by
          rw [HNX.out]
          have := List.length_filter_le (goesOn l k) (List.range (l.length + 1))
          simp [nextL] at *
          omega
        have hLz : ∀ z ∈ L, ∃ y : Nat, z = (y : Int) ∧ goesOn l k y = true := by
          intro z hz
          rw [HNX.out] at hz
          obtain ⟨y, h1, rfl⟩ := List.mem_map.1 hz
          exact ⟨y, rfl, (mem_nextL (flowErr_zero hf).2.2).1 h1⟩
        have hLy : ∀ y : Nat, goesOn l k y = true → (y : Int) ∈ L := by
          intro y hy
          rw [HNX.out]
          exact List.mem_map.2 ⟨y, (mem_nextL (flowErr_zero hf).2.2).2 hy, rfl⟩
        have HLZ := hideP hLz
        have HLY := hideP hLy
        have hRlt : R < w1.heap.size := heap_lt HV1.out.hR
        have hrne : Value.ownBlock (.slice p3 L.length q3) ≠ some R := fun e => by
          have := (HR3.out.lt R e).1
          omega
        clear hLz hLy
        go_loopw [6, 25] (fun _ i wr => ∃ (j : Nat) (Mj : List Bool), j ≤ L.length ∧ i = .int .i64 j ∧ Vis W0 wr (.slice (some ⟨b, off, none⟩) l.length q) l bR bC bV R Mj ∧ w3.grownBy wr (some R) ∧ Grew l (M.set k true) Mj ∧ ∀ i z, i < j → L[i]? = some z → Mj.getD z.toNat false = true) (fun _ i _ => L.length - (intOf i).toNat)
        case atStart => exact ⟨0, _, Nat.zero_le _, rfl, hv3, World.grownBy.refl _ _, Grew.refl _ _, fun i z hi => by omega⟩
        case round =>
          rename World => w4
          obtain ⟨j, Mj, hj, rfl, hv4, hg4, hgr, hin⟩ := hrel
          have HIN := hideP hin
          clear hin
          by_cases hjl : j < L.length
          · obtain ⟨z, hz⟩ := at_of_lt hjl
            have hI4 := intsAt_of_row rfl (HR3.out.kept hg4 (.inr hrne))
            obtain ⟨p5, cap5, he5, hm5, hc5⟩ := hI4
            obtain ⟨b5, o5, hp5, hb5, g5⟩ := hc5 j z hz
            cases he5
            subst hp5
            obtain ⟨y, rfl, hy⟩ := HLZ.out z (List.mem_of_getElem? hz)
            have hyl := goesOn_le (flowErr_zero hf).2.2 hy
            have e4 := cell_at' hv4.hbV 0
            simp at e4
            have hlti5 : (j : Int) < (L.length : Int) := by omega
            have hih := IH.out Mj y w4 (by have := cf_mono _ _ hgr.len hgr.more; omega) (by rw [hgr.len]; simpa using hlen) (by rw [hgr.len]; simp; omega) (Come.step hcome hy) hv4
            have HIH := hideP hih
            have HZ := hideP hz
            have HV4 := hideP hv4
            clear hih hc5 hz hv4
            go_wp2_with (go_at_call 206; refine HIH.out.mono ?_; rintro e w5 ⟨rfl, M5, hv5, hg5, hgr5, hk5⟩)
            go_roundw
            case rel =>
              refine ⟨j + 1, M5, by omega, by go_num, hv5, hg4.trans hg5, hgr.trans hgr5, fun i z hi hz => ?_⟩
              rcases Nat.lt_succ_iff_lt_or_eq.1 hi with h | rfl
              · exact hgr5.more _ (HIN.out i z h hz)
              · rw [HZ.out] at hz
                cases hz
                simpa using hk5
            case measure => simp [intOf]; omega
          · have hjl' : ¬ (j : Int) < (L.length : Int) := by omega
            have HV4 := hideP hv4
            clear hv4
            go_wp2
            refine bodyPost_ret (v := .tuple #[]) (by simp [results, Tryz.results206, go_sem]) rfl ?_
            have hall : ∀ y, goesOn l k y = true → Mj.getD y false = true := by
              intro y hy
              obtain ⟨i, hi⟩ := List.getElem?_of_mem (HLY.out y hy)
              have := HIN.out i _ (by have := lt_of_at hi; omega) hi
              simpa using this
            have := grew_mark HM.out hcome hgr hall
            exact ⟨rfl, Mj, HV4.out, (hg1.trans (below_grown hb3 _)).trans hg4, this.1, this.2⟩
      · have hq : isAt l.length (k : Int) = false := by simp [isAt]; omega
        go_enter Tryz.func206, Tryz.ntmps206
        go_wp2_with (go_at_call 204; refine (isPlace_any (k : Int) l _ _ hl1).mono ?_; rw [hq]; rintro e w2 ⟨rfl, hw2⟩; have hw2 := hw2.symm; subst hw2)
        refine bodyPost_ret (v := .tuple #[]) (by simp [results, Tryz.results206, go_sem]) rfl ?_
        have := grew_mark HM.out hcome (Grew.refl l _) (fun y hy => absurd (goesOn_lt hy) hlt)
        exact ⟨rfl, _, HV1.out, hg1, this.1, this.2⟩
end Go.Proofs.YtcadpoknolefpaaGreat


/- flow.Reach. -/
namespace Go.Proofs.YtcadpoknolefpaaGreat
open Go.RowKit
set_option linter.unusedSimpArgs false
set_option linter.unusedVariables false
noncomputable def reachR (l : List (Int × Int)) : List Int := if flowErr l = 0 then (reachL l).map Int.ofNat else []
theorem infoBool : (Tryz.prog.info? 4).map (fun i => (i.zero, i.size, i.bytes)) = some (some (.bool false), 1, 1) := by kernel_rfl
theorem made_bools (n : Nat) : (madeCells (Value.bool false).cells (n * 1)).toList = (List.replicate n false).map Value.bool := by
  have h : (Value.bool false).cells = #[.bool false] := rfl
  rw [h]
  apply List.ext_getElem?
  intro k
  by_cases hk : k < n
  · simp [madeCells, hk, Nat.mod_one]
  · simp [madeCells, hk]
theorem grew_reach {l : List (Int × Int)} {M : List Bool} (h : Grew l (List.replicate (l.length + 1) false) M) (h0 : M.getD 0 false = true) : placesL (fun pc => M.getD pc false) M.length = (reachL l).map Int.ofNat := by
  have hn : ∀ x, (List.replicate (l.length + 1) false).getD x false = false := by
    intro x
    rw [List.getD_eq_getElem?_getD, List.getElem?_replicate]
    split <;> rfl
  have hlen : M.length = l.length + 1 := by rw [h.len]; simp
  rw [hlen]
  unfold placesL
  rw [reachL_eq (code := l) (fun pc => M.getD pc false) h0 (fun x hx => ?_) (fun pc to hp hg => h.shut pc to hp (hn pc) hg)]
  rcases h.come x hx with h1 | h1
  · rw [hn] at h1; cases h1
  · exact h1
theorem vis_box {W0 w : World} {v : Value} {l : List (Int × Int)} {bR bC bV R : Nat} {M : List Bool} (h : Vis W0 w v l bR bC bV R M) : ReachBox w bR R M :=
  ⟨heap_lt h.hbR, heap_lt h.hR, by have := cell_at' h.hbR 0; simpa using this, fun k b hk => (cell_at' h.hR k).trans (marks_cells hk)⟩
theorem row_full {w : World} {base : Nat} {e : TypeId} {R n : Nat} {xs : List Value} (h : w.ownsRow base e 1 (.slice (some ⟨R, 0, none⟩) n n) n xs) (hx : xs.length = n) : w.heap[R]? = some (.cells xs.toArray e (0, 0)) := by
  rcases h.2 with ⟨h1, _⟩ | ⟨g, cap, cur, hv, hb, hg, hn, hc, hs, ht⟩
  · cases h1
  · cases hv
    rw [hg]
    have : cur.toList = xs := by rw [← ht, List.take_of_length_le (by simp; omega)]
    rw [← this]
theorem reach_boxes {w w2 w3 : World} {v : Value} {l : List (Int × Int)} (h : OpsAt w v l) (hB : Below w.heap.size w w2) (hC : w2.heap[w.heap.size]? = some (.cells #[v] 76 (0, 0))) (hown : w3.ownsRow w2.heap.size 4 1 (.slice (some ⟨w2.heap.size, 0, none⟩) (l.length + 1) (l.length + 1)) (l.length + 1) (madeCells (Value.bool false).cells ((l.length + 1) * 1)).toList) (hg : w2.grownBy w3 none) :
    ∃ W5, (w3.alloc (.cells #[.slice (some ⟨w2.heap.size, 0, none⟩) (l.length + 1) (l.length + 1)] 122)).alloc (.cells #[.func (.func 206) #[] #[.pointer (some ⟨w3.heap.size, 0, none⟩), .pointer (some ⟨w.heap.size, 0, none⟩), .pointer (some ⟨w3.heap.size + 1, 0, none⟩)]] 141) = W5 ∧ Vis w W5 v l w3.heap.size w.heap.size (w3.heap.size + 1) w2.heap.size (List.replicate (l.length + 1) false) ∧ W5.cell? ⟨w3.heap.size, 0, none⟩ = some (.slice (some ⟨w2.heap.size, 0, none⟩) (l.length + 1) (l.length + 1)) ∧ W5.cell? ⟨w3.heap.size + 1, 0, none⟩ = some (.func (.func 206) #[] #[.pointer (some ⟨w3.heap.size, 0, none⟩), .pointer (some ⟨w.heap.size, 0, none⟩), .pointer (some ⟨w3.heap.size + 1, 0, none⟩)]) := by
  refine ⟨_, rfl, ?_⟩
  rw [made_bools] at hown
  have hR := row_full hown (by simp)
  have hB3 : Below w.heap.size w w3 := hB.grown hg hB.size (fun k hk => by cases hk)
  have a := heap_old (World.alloc_heap_new w3 (.cells #[.slice (some ⟨w2.heap.size, 0, none⟩) (l.length + 1) (l.length + 1)] 122)) (.cells #[.func (.func 206) #[] #[.pointer (some ⟨w3.heap.size, 0, none⟩), .pointer (some ⟨w.heap.size, 0, none⟩), .pointer (some ⟨w3.heap.size + 1, 0, none⟩)]] 141)
  have b := new_two w3 (.cells #[.slice (some ⟨w2.heap.size, 0, none⟩) (l.length + 1) (l.length + 1)] 122) (.cells #[.func (.func 206) #[] #[.pointer (some ⟨w3.heap.size, 0, none⟩), .pointer (some ⟨w.heap.size, 0, none⟩), .pointer (some ⟨w3.heap.size + 1, 0, none⟩)]] 141)
  refine ⟨⟨?_, heap_old (heap_old hR _) _, by simpa using a, heap_old (heap_old ((hg.block _ (heap_lt hC) (by simp)).trans hC) _) _, b⟩, ?_, ?_⟩
  · exact (hB3.alloc hB3.size _).alloc (by have := hB3.size; simp; omega) _
  · simp
  · simp
theorem visit0_any {w W5 : World} {v : Value} {l : List (Int × Int)} {bR bC bV R : Nat} (h : OpsAt w v l) (hf : flowErr l = 0) (hR : w.heap.size ≤ R) (hvis : Vis w W5 v l bR bC bV R (List.replicate (l.length + 1) false)) :
    Calls Tryz.prog 206 #[.int .i64 0, .pointer (some ⟨bR, 0, none⟩), .pointer (some ⟨bC, 0, none⟩), .pointer (some ⟨bV, 0, none⟩)] W5 (VisP w v l bR bC bV R (List.replicate (l.length + 1) false) 0 W5) :=
  visit_any w v l bR bC bV R h hf hR (cf (List.replicate (l.length + 1) false)) _ 0 W5 (Nat.le_refl _) (by simp) (by simp) Come.zero hvis
set_option maxHeartbeats 4000000 in
theorem flowReach_any (l : List (Int × Int)) (v : Value) (w : World) (h : OpsAt w v l) : Calls Tryz.prog 146 #[v] w fun e w' => ∃ u, e = .returned (.tuple #[u, .int .i64 (flowErr l)]) ∧ w'.ownsRow w.heap.size 3 1 u (reachR l).length ((reachR l).map (Value.int .i64)) ∧ Below w.heap.size w w' := by
  have h' := h
  obtain ⟨p, cap, rfl, hm, hc⟩ := h'
  unfold maxLen at hm
  clear hc
  obtain ⟨W1, hW1⟩ : ∃ W1, w.alloc (.cells #[.slice p l.length cap] 76) = W1 := ⟨_, rfl⟩
  have hB1 : Below w.heap.size w W1 := by rw [← hW1]; exact (Below.refl _ w).alloc (Nat.le_refl _) _
  have q0 : W1.heap[w.heap.size]? = some (.cells #[.slice p l.length cap] 76 (0, 0)) := by rw [← hW1]; exact World.alloc_heap_new w _
  have c0 : W1.cell? ⟨w.heap.size, 0, none⟩ = some (.slice p l.length cap) := by have := cell_at' q0 0; simpa using this
  have l0 := heap_lt q0
  have h1 := h.below hB1
  have Q0 := hideP q0
  clear q0
  by_cases hf : flowErr l = 0
  · have h40 := flowErr_40 hf
    have hr : reachR l = (reachL l).map Int.ofNat := by rw [reachR, if_pos hf]
    rw [hf, hr]
    have hck : ∀ W : World, OpsAt W (.slice p l.length cap) l → Calls Tryz.prog 203 #[.slice p l.length cap] W fun e w' => e = .returned (.int .i64 0) ∧ Below W.heap.size W w' := by
      intro W hW
      have := flowCheck_any l _ W hW
      rw [hf] at this
      exact this
    have HCK := hideP hck
    have HF := hideP hf
    clear hck hf hr
    obtain ⟨i0, hi, hz0, hz1, hz2⟩ := info_parts infoBool
    have hwr : wrap64 ((l.length : Int) + 1) = (l.length : Int) + 1 := by unfold wrap64; omega
    go_enter Tryz.func146, Tryz.ntmps146
    go_wp2_with (first
      | (go_at_call 203; refine (HCK.out _ h1).mono ?_; rintro e w2 ⟨rfl, hb2⟩; have h2 := h1.below hb2; have d0 := (hb2.cell (p := ⟨w.heap.size, 0, none⟩) l0).trans c0; have Q2 := hideP ((hb2.block _ l0).trans Q0.out); have hB2 := hB1.trans (hb2.mono hB1.size))
      | (at_make; refine wpList_make_full _ rfl _ _ 122 rfl w2.heap.size 4 i0 (.bool false) 1 Tryz.underlying122 hi hz0 hz1 _ _ _ _ (l.length + 1) rfl rfl (by omega) (by omega) (by rw [hz2]; omega) (by unfold maxLen; omega) (Nat.le_refl _) ?_; intro w3 hown3 hg3; obtain ⟨W5, hW5, hvis, c5, c6⟩ := reach_boxes h hB2 Q2.out hown3 hg3)
      | (go_at_call 206; refine (visit0_any h HF.out hB2.size hvis).mono ?_; rintro e w6 ⟨rfl, M6, hv6, hg6, hgr6, hk6⟩; have hbx := vis_box hv6; have c7 := hbx.2.2.1; have hpl := hideP (grew_reach hgr6 hk6); have h41 : M6.length ≤ 41 := by { have := hgr6.len; simp at this; omega }; have HG := hideP hgr6; clear hgr6)
      | (go_at_call 207; refine (placesReach_any M6 M6.length _ _ _ rfl h41 hbx).mono ?_; rw [hpl.out]; rintro e w7 ⟨v7, rfl, hr7, hb7⟩; have HR7 := hideP hr7; clear hr7))
    go_ret2
    have hs6 : w.heap.size ≤ w6.heap.size := hv6.bel.size
    exact ⟨_, rfl, row_low HR7.out hs6, hv6.bel.trans (hb7.mono hs6)⟩
  · have hr : reachR l = [] := by rw [reachR, if_neg hf]
    rw [hr]
    have hf' : (flowErr l != 0) = true := by simp [hf]
    clear hr hf
    go_enter Tryz.func146, Tryz.ntmps146
    go_wp2_with (go_at_call 203; refine (flowCheck_any l _ _ h1).mono ?_; rintro e w2 ⟨rfl, hb2⟩)
    go_ret2
    exact ⟨_, rfl, World.ownsRow_nil _ _ _ _, hB1.trans (hb2.mono hB1.size)⟩
end Go.Proofs.YtcadpoknolefpaaGreat


/- Plain functions on types that stand for others (chapter 4), ahead of stage 2: Join, and its laws. -/
namespace Go.Proofs.YtcadpoknolefpaaGreat
open Go.RowKit
set_option linter.unusedSimpArgs false
set_option linter.unusedVariables false
def standsB (t other : Int) : Bool := decide (t = other) || (decide (t = 3) && decide (other = 2))
def joinT (a b : Int) : Option Int := if a = b then some a else if (a = 2 ∧ b = 3) ∨ (a = 3 ∧ b = 2) then some 2 else none
def joinL : List Int → List Int → Option (List Int)
  | [], [] => some []
  | a :: r, b :: q => (joinT a b).bind fun t => (joinL r q).map fun l => t :: l
  | _, _ => none
def isType (t : Int) : Bool := decide (1 ≤ t) && decide (t ≤ 3)
def joinErr (a b : List Int) : Int := if (a ++ b).any (fun t => !isType t) = true then 6 else if 8 < a.length ∨ 8 < b.length then 2 else if (joinL a b).isNone = true then 4 else 0
theorem joinT_same (a : Int) : joinT a a = some a := by simp [joinT]
theorem joinT_stands {a b t : Int} (h : joinT a b = some t) : standsB a t = true ∧ standsB b t = true := by
  unfold joinT at h
  by_cases h1 : a = b
  · rw [if_pos h1] at h; cases h; subst h1; simp [standsB]
  · rw [if_neg h1] at h
    by_cases h2 : (a = 2 ∧ b = 3) ∨ (a = 3 ∧ b = 2)
    · rw [if_pos h2] at h; cases h
      rcases h2 with ⟨rfl, rfl⟩ | ⟨rfl, rfl⟩ <;> decide
    · rw [if_neg h2] at h; cases h
theorem joinL_length : ∀ (a b l : List Int), joinL a b = some l → l.length = a.length ∧ a.length = b.length
  | [], [], l, h => by cases h; exact ⟨rfl, rfl⟩
  | [], _ :: _, l, h => by cases h
  | _ :: _, [], l, h => by cases h
  | a :: r, b :: q, l, h => by
    simp only [joinL] at h
    obtain ⟨t, ht, h2⟩ := Option.bind_eq_some_iff.1 h
    obtain ⟨l', hl', rfl⟩ := Option.map_eq_some_iff.1 h2
    obtain ⟨h3, h4⟩ := joinL_length r q l' hl'
    simp [h3, h4]
end Go.Proofs.YtcadpoknolefpaaGreat


