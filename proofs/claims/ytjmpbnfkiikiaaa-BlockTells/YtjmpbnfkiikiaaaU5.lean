/- My texts Fb Fc Fd Fe, joined. -/
import Derived.Test.YtjmpbnfkiikiaaaU4
/- slices.Index and slices.Contains at numbers; flow.rising, flow.next. -/
namespace Go.Proofs.Ytjmpbnfkiikiaaa
open Go.RowKit
set_option linter.unusedSimpArgs false
set_option linter.unusedVariables false
set_option maxHeartbeats 1000000 in
theorem indexInt_any (l : List Int) (x : Int) (v : Value) (w : World) (h : IntsAt w v l) : Calls Try.prog 39 #[v, .int .i64 x] w fun e w' => ∃ r, e = .returned (.int .i64 r) ∧ decide (0 ≤ r) = (!l.all fun z => !(z == x)) ∧ w' = w := by
  obtain ⟨p, cap, rfl, hm, hc⟩ := h
  unfold maxLen at hm
  go_enter Try.func39, Try.ntmps39
  go_wp2
  go_loopw [5, 8] (fun _ i wr => ∃ k : Nat, k ≤ l.length ∧ i = .int .i64 k ∧ (∀ o ∈ l.take k, (!(o == x)) = true) ∧ wr = w) (fun _ i _ => l.length - (intOf i).toNat)
  case atStart => exact ⟨0, Nat.zero_le _, rfl, by simp, rfl⟩
  case round =>
    obtain ⟨k, hk, rfl, hok, hbw⟩ := hrel
    subst hbw
    have HK : Hid (∀ o ∈ l.take k, (!(o == x)) = true) := hok
    clear hok
    have HC := hideP hc
    clear hc
    by_cases hlt : k < l.length
    · obtain ⟨z, ho⟩ := at_of_lt hlt
      obtain ⟨b, off, rfl, hb, h0⟩ := HC.out k _ ho
      have HO : Hid (l[k]? = some z) := ho
      clear ho
      cases hnb : (z == x)
      · have hnb' : (x == z) = false := by rw [Bool.eq_false_iff] at hnb ⊢; intro h; simp at h hnb; exact hnb h.symm
        go_wp2
        go_roundw
        case rel => exact ⟨k + 1, by omega, by go_num, all_snoc HK.out HO.out (by rw [hnb]; rfl), trivial⟩
        case measure => simp [intOf]; omega
      · obtain rfl : z = x := by simpa using hnb
        go_wp2
        go_ret
        exact ⟨k, rfl, by rw [all_false HO.out (by rw [hnb]; rfl)]; simp, rfl⟩
    · have hlt' : ¬ (k : Int) < (l.length : Int) := by omega
      go_wp2
      go_ret
      refine ⟨-1, rfl, ?_, rfl⟩
      have := HK.out
      rw [List.take_of_length_le (by omega)] at this
      rw [all_true this]; decide
set_option maxHeartbeats 1000000 in
theorem containsInt_any (l : List Int) (x : Int) (v : Value) (w : World) (h : IntsAt w v l) : Calls Try.prog 32 #[v, .int .i64 x] w fun e w' => e = .returned (.bool (decide (x ∈ l))) ∧ w' = w := by
  go_enter Try.func32, Try.ntmps32
  go_wp2_with fail
  refine (indexInt_any l x v _ h).mono ?_
  rintro e w2 ⟨r, rfl, hr, hw⟩
  have hw := hw.symm
  subst hw
  have hr2 : decide (0 ≤ r) = decide (x ∈ l) := by
    rw [hr, List.not_all_eq_any_not, Bool.eq_iff_iff]
    simp
  have HR := hideP hr2
  clear hr hr2
  go_wp2
  go_ret
  exact ⟨by rw [← HR.out]; rfl, rfl⟩
theorem row_same {W W' : World} {base : Nat} {e : TypeId} {size : Nat} {v : Value} {n : Nat} {xs : List Value} (h : W.ownsRow base e size v n xs) (hk : ∀ k, v.ownBlock = some k → W'.heap[k]? = W.heap[k]?) : W'.ownsRow base e size v n xs := by
  refine ⟨h.1, ?_⟩
  rcases h.2 with h | ⟨g, cap, cur, rfl, hb, hg, r⟩
  · exact .inl h
  · exact .inr ⟨g, cap, cur, rfl, hb, (hk g rfl).trans hg, r⟩
/-- two numbers, rising, each once. -/
def rise (a b : Int) : List Int := if a = b then [a] else if a < b then [a, b] else [b, a]
theorem sort_two (a b : Int) : [a, b].mergeSort (fun x y => decide (x ≤ y)) = if a ≤ b then [a, b] else [b, a] := by
  by_cases h : a ≤ b
  · rw [if_pos h]
    exact List.mergeSort_of_pairwise (by simpa using h)
  · rw [if_neg h]
    have hp := List.mergeSort_perm [a, b] (fun x y => decide (x ≤ y))
    have hs := List.pairwise_mergeSort (le := fun x y : Int => decide (x ≤ y)) (by intro x y z; simp; omega) (by intro x y; simp; omega) [a, b]
    have hq : [b, a].Pairwise fun x y : Int => (decide (x ≤ y)) = true := by simp; omega
    have hp2 : ([a, b].mergeSort (fun x y => decide (x ≤ y))).Perm [b, a] := hp.trans (List.Perm.swap b a [])
    exact hp2.eq_of_pairwise (fun x y _ _ h1 h2 => by simp at h1 h2; omega) hs hq
theorem compact_two (a b : Int) : Lib.compact [a, b] = if a = b then [a] else [a, b] := by
  by_cases h : a = b
  · subst h; simp [Lib.compact, Lib.compactUpTo, Lib.keeps, List.range_succ]
  · have h' : b ≠ a := fun e => h e.symm
    rw [if_neg h]
    simp [Lib.compact, Lib.compactUpTo, Lib.keeps, List.range_succ, h']
theorem mapBlock_grown (w : World) (B : Nat) (f : Array Value → Array Value) (n : Nat) : w.grownBy (Sort.mapBlock (Sort.ahead w n) B f) (some B) :=
  ⟨rfl, rfl, rfl, by simp [Sort.mapBlock, Sort.ahead], fun k hk hne => by
    have hne' : ¬ B = k := fun e => hne (by rw [e])
    simp [Sort.mapBlock, Sort.ahead, Array.getElem?_modify, hne']⟩
theorem grow_grown (w : World) (os : Array Obj) (row : Option Nat) : w.grownBy (Sort.grow w os) row :=
  ⟨rfl, rfl, rfl, by simp [Sort.grow], fun k hk hne => by simp [Sort.grow, Array.getElem?_append, hk]⟩
theorem putRow_two (w : World) (B n : Nat) (x y a b : Value) (t : TypeId) (h : w.heap[B]? = some (.cells #[x, y] t (0, 0))) (l : Array Int) (hl : l.size = 2) : (Sort.putRow (Value.int .i64) (Sort.ahead w n) B 0 l).heap[B]? = some (.cells #[.int .i64 l[0]!, .int .i64 l[1]!] t (0, 0)) := by
  simp only [Sort.putRow, Sort.mapBlock, Sort.ahead, Array.getElem?_modify, if_true, h, Option.map_some, Sort.onCells, Option.some.injEq, Obj.cells.injEq, and_true]
  apply Array.ext_getElem?
  intro k
  simp only [Sort.putCells, Array.getElem?_mapIdx]
  match k with
  | 0 => simp [hl]
  | 1 => simp [hl]
  | k + 2 => simp
theorem holds_two {w : World} {B : Nat} {a b : Int} {t : TypeId} (h : w.heap[B]? = some (.cells #[.int .i64 a, .int .i64 b] t (0, 0))) : Sort.Holds (Value.int .i64) w B 0 [a, b].toArray := by
  intro j hj
  have hf := Lib.frozen_of_heap h
  match j, hj with
  | 0, _ => exact ⟨by rw [cell_at' h]; rfl, by simpa using hf 0⟩
  | 1, _ => exact ⟨by rw [cell_at' h]; rfl, by simpa using hf 1⟩
/-- where it goes on behind an op, as numbers. -/
def nextI (c a pc : Int) : List Int := if c = 13 then [] else if c = 10 then [a] else if c = 11 then rise a (pc + 1) else [pc + 1]
theorem one_row {w : World} {B : Nat} {x : Int} (h : w.heap[B]? = some (.cells #[.int .i64 x] 3 (0, 0))) : w.ownsRow B 3 1 (.slice (some ⟨B, 0, none⟩) 1 1) 1 [.int .i64 x] :=
  ⟨by simp, .inr ⟨B, 1, _, rfl, Nat.le_refl _, h, Nat.le_refl _, by unfold maxLen; omega, by simp, by simp⟩⟩
theorem new_two (w : World) (o o' : Obj) : ((w.alloc o).alloc o').heap[w.heap.size + 1]? = some o' := by
  have := World.alloc_heap_new (w.alloc o) o'
  simpa using this
theorem row_low {w : World} {B B' : Nat} {e : TypeId} {size : Nat} {v : Value} {n : Nat} {xs : List Value} (h : w.ownsRow B e size v n xs) (hB : B' ≤ B) : w.ownsRow B' e size v n xs := by
  refine ⟨h.1, ?_⟩
  rcases h.2 with h | ⟨g, cap, cur, rfl, hb, r⟩
  · exact .inl h
  · exact .inr ⟨g, cap, cur, rfl, Nat.le_trans hB hb, r⟩
end Go.Proofs.Ytjmpbnfkiikiaaa
/- flow.places at the closures of Back and Reach. -/
namespace Go.Proofs.Ytjmpbnfkiikiaaa
open Go.RowKit
set_option linter.unusedSimpArgs false
set_option linter.unusedVariables false
/-- places below n that are wanted, rising, as numbers. -/
def placesL (p : Nat → Bool) (n : Nat) : List Int := ((List.range n).filter p).map Int.ofNat
theorem placesL_succ_true {p : Nat → Bool} {n : Nat} (h : p n = true) : placesL p (n + 1) = placesL p n ++ [(n : Int)] := by
  simp [placesL, List.range_succ, List.filter_append, h]
theorem placesL_succ_false {p : Nat → Bool} {n : Nat} (h : p n = false) : placesL p (n + 1) = placesL p n := by
  simp [placesL, List.range_succ, List.filter_append, h]
theorem placesL_le (p : Nat → Bool) (n : Nat) : (placesL p n).length ≤ n := by
  have := List.length_filter_le p (List.range n)
  simpa [placesL] using this
theorem placesL_congr {p q : Nat → Bool} {n : Nat} (h : ∀ k, k < n → p k = q k) : placesL p n = placesL q n := by
  unfold placesL
  rw [List.filter_congr fun x hx => h x (by simpa using hx)]
/-- may it come from a place to 'to'? -/
def comes (l : List (Int × Int)) (to : Int) (pc : Nat) : Bool := match l[pc]? with | some o => decide (to ∈ nextI o.1 o.2 pc) | none => false
/-- what Back's closure has captured. -/
def BackBox (w : World) (bc bp : Nat) (l : List (Int × Int)) (to : Int) : Prop := CodeBox w bc l ∧ bp < w.heap.size ∧ w.cell? ⟨bp, 0, none⟩ = some (.int .i64 to)
theorem BackBox.below {w w' : World} {bc bp : Nat} {l : List (Int × Int)} {to : Int} (h : BackBox w bc bp l to) (hb : Below w.heap.size w w') : BackBox w' bc bp l to :=
  ⟨h.1.below hb, Nat.lt_of_lt_of_le h.2.1 hb.size, (hb.cell (p := ⟨bp, 0, none⟩) h.2.1).trans h.2.2⟩
/-- what Reach's second closure has captured: the box of the slice, and the slice's block. -/
def ReachBox (w : World) (bR R : Nat) (M : List Bool) : Prop := bR < w.heap.size ∧ R < w.heap.size ∧ w.cell? ⟨bR, 0, none⟩ = some (.slice (some ⟨R, 0, none⟩) M.length M.length) ∧ ∀ k b, M[k]? = some b → w.cell? ⟨R, k, none⟩ = some (.bool b)
theorem ReachBox.below {w w' : World} {bR R : Nat} {M : List Bool} (h : ReachBox w bR R M) (hb : Below w.heap.size w w') : ReachBox w' bR R M :=
  ⟨Nat.lt_of_lt_of_le h.1 hb.size, Nat.lt_of_lt_of_le h.2.1 hb.size, (hb.cell (p := ⟨bR, 0, none⟩) h.1).trans h.2.2.1, fun k b hk => (hb.cell (p := ⟨R, k, none⟩) h.2.1).trans (h.2.2.2 k b hk)⟩
end Go.Proofs.Ytjmpbnfkiikiaaa
/- flow.Next, flow.Back. -/
namespace Go.Proofs.Ytjmpbnfkiikiaaa
open Go.RowKit
set_option linter.unusedSimpArgs false
set_option linter.unusedVariables false
/-- lists that rise, and have the same numbers, are the same. -/
theorem rising_ext {L K : List Nat} (h1 : L.Pairwise (· < ·)) (h2 : K.Pairwise (· < ·)) (h : ∀ x, x ∈ L ↔ x ∈ K) : L = K := by
  have n1 : L.Nodup := h1.imp (fun h e => by omega)
  have n2 : K.Nodup := h2.imp (fun h e => by omega)
  have hp : L.Perm K := (List.perm_ext_iff_of_nodup n1 n2).2 h
  exact hp.eq_of_pairwise (fun a b _ _ h1 h2 => absurd h1 (by omega)) h1 h2
theorem filt_eq {L : List Nat} {m : Nat} {p : Nat → Bool} (hL : L.Pairwise (· < ·)) (hm : ∀ x ∈ L, x < m) (hp : ∀ x, x < m → (p x = true ↔ x ∈ L)) : (List.range m).filter p = L := by
  refine rising_ext (List.pairwise_lt_range.filter _) hL fun x => ?_
  rw [List.mem_filter, List.mem_range]
  exact ⟨fun h => (hp x h.1).1 h.2, fun h => ⟨hm x h, (hp x (hm x h)).2 h⟩⟩
theorem nextI_eq {l : List (Int × Int)} (hf : flowErr l = 0) {k : Nat} {c a : Int} (ho : l[k]? = some (c, a)) : nextI c a k = (nextL l k).map Int.ofNat := by
  obtain ⟨_, _, hb⟩ := flowErr_zero hf
  have hk := lt_of_at ho
  have hbo := hb _ (List.mem_of_getElem? ho)
  unfold nextI nextL
  have hg : ∀ x : Nat, goesOn l k x = if c = 13 then false else if c = 10 then decide ((x : Int) = a) else if c = 11 then decide (x = k + 1) || decide ((x : Int) = a) else decide (x = k + 1) := by
    intro x; simp [goesOn, ho]
  by_cases h13 : c = 13
  · rw [if_pos h13, filt_eq (L := []) (by simp) (by simp) (by intro x _; rw [hg]; simp [h13])]; rfl
  rw [if_neg h13]
  by_cases h10 : c = 10
  · simp [badTo, h10] at hbo
    rw [if_pos h10, filt_eq (L := [a.toNat]) (by simp) (by simp; omega) (by intro x _; rw [hg]; simp [h13, h10]; omega)]
    simp; omega
  rw [if_neg h10]
  by_cases h11 : c = 11
  · simp [badTo, h11] at hbo
    rw [if_pos h11]
    unfold rise
    by_cases e1 : a = (k : Int) + 1
    · rw [if_pos e1, filt_eq (L := [k + 1]) (by simp) (by simp; omega) (by intro x _; rw [hg]; simp [h13, h10, h11]; omega)]
      simp [e1]
    rw [if_neg e1]
    by_cases e2 : a < (k : Int) + 1
    · rw [if_pos e2, filt_eq (L := [a.toNat, k + 1]) (by simp; omega) (by simp; omega) (by intro x _; rw [hg]; simp [h13, h10, h11]; omega)]
      simp; omega
    · rw [if_neg e2, filt_eq (L := [k + 1, a.toNat]) (by simp; omega) (by simp; omega) (by intro x _; rw [hg]; simp [h13, h10, h11]; omega)]
      simp; omega
  · rw [if_neg h11, filt_eq (L := [k + 1]) (by simp) (by simp; omega) (by intro x _; rw [hg]; simp [h13, h10, h11])]
    simp
theorem comes_eq {l : List (Int × Int)} (hf : flowErr l = 0) (to k : Nat) : comes l to k = goesOn l k to := by
  obtain ⟨_, _, hb⟩ := flowErr_zero hf
  unfold comes
  cases ho : l[k]? with
  | none => simp [goesOn, ho]
  | some o =>
    show decide ((to : Int) ∈ nextI o.1 o.2 k) = _
    rw [nextI_eq hf (c := o.1) (a := o.2) (by rw [ho])]
    rw [Bool.eq_iff_iff, decide_eq_true_iff, ← mem_nextL hb, List.mem_map]
    refine ⟨fun ⟨x, h1, h2⟩ => ?_, fun h => ⟨to, h, rfl⟩⟩
    obtain rfl : x = to := Int.ofNat.inj h2
    exact h1
def nextR (l : List (Int × Int)) (pc : Int) : List Int := if nextErr l pc = 0 then (nextL l pc.toNat).map Int.ofNat else []
def backR (l : List (Int × Int)) (pc : Int) : List Int := if backErr l pc = 0 then (backL l pc.toNat).map Int.ofNat else []
theorem flowErr_40 {l : List (Int × Int)} (hf : flowErr l = 0) : l.length ≤ 40 := by
  have := (flowErr_zero hf).1
  unfold codeErr at this
  rcases Nat.lt_or_ge 40 l.length with h | h
  · rw [if_pos h] at this; cases this
  · exact h
theorem backL_row {l : List (Int × Int)} (hf : flowErr l = 0) (to : Nat) : placesL (fun pc => comes l to pc) l.length = (backL l to).map Int.ofNat := by
  rw [placesL_congr (q := fun pc => goesOn l pc to) (fun k _ => comes_eq hf to k)]
  rfl
end Go.Proofs.Ytjmpbnfkiikiaaa
/- flow.Reach: the closure that visits. -/
namespace Go.Proofs.Ytjmpbnfkiikiaaa
open Go.RowKit
set_option linter.unusedSimpArgs false
set_option linter.unusedVariables false
/-- how many are not marked. -/
def cf : List Bool → Nat
  | [] => 0
  | b :: r => (if b = true then 0 else 1) + cf r
theorem cf_set : ∀ (M : List Bool) (k : Nat), M[k]? = some false → cf (M.set k true) + 1 = cf M
  | [], k, h => by simp at h
  | b :: r, 0, h => by simp at h; subst h; simp [cf]; omega
  | b :: r, k + 1, h => by
    have := cf_set r k (by simpa using h)
    simp only [List.set_cons_succ, cf]
    omega
theorem cf_mono : ∀ (M M' : List Bool), M'.length = M.length → (∀ x, M.getD x false = true → M'.getD x false = true) → cf M' ≤ cf M
  | [], M', h, _ => by
    have : M' = [] := List.eq_nil_of_length_eq_zero (by simpa using h)
    subst this; simp [cf]
  | b :: r, [], h, _ => by simp at h
  | b :: r, c :: s, h, hx => by
    have := cf_mono r s (by simpa using h) (fun x hxx => by have := hx (x + 1) (by simpa using hxx); simpa using this)
    have h0 := hx 0
    simp at h0
    simp only [cf]
    cases b <;> cases c <;> simp_all <;> omega
theorem getD_set (M : List Bool) (k x : Nat) (hk : k < M.length) : (M.set k true).getD x false = if x = k then true else M.getD x false := by
  by_cases h : x = k
  · subst h; simp [List.getD_eq_getElem?_getD, hk]
  · rw [if_neg h, List.getD_eq_getElem?_getD, List.getD_eq_getElem?_getD, List.getElem?_set_ne (fun e => h e.symm)]
/-- what a visit at k makes of the marks. -/
structure Grew (l : List (Int × Int)) (M M' : List Bool) : Prop where
  len : M'.length = M.length
  more : ∀ x, M.getD x false = true → M'.getD x false = true
  come : ∀ x, M'.getD x false = true → M.getD x false = true ∨ Come l x
  shut : ∀ x y, M'.getD x false = true → M.getD x false = false → goesOn l x y = true → M'.getD y false = true
theorem Grew.refl (l : List (Int × Int)) (M : List Bool) : Grew l M M := ⟨rfl, fun _ h => h, fun _ h => .inl h, fun x y h1 h2 => by rw [h1] at h2; cases h2⟩
theorem Grew.trans {l : List (Int × Int)} {M M' M'' : List Bool} (h : Grew l M M') (k : Grew l M' M'') : Grew l M M'' := by
  refine ⟨k.len.trans h.len, fun x hx => k.more x (h.more x hx), fun x hx => ?_, fun x y h1 h2 h3 => ?_⟩
  · rcases k.come x hx with h1 | h1
    · exact h.come x h1
    · exact .inr h1
  · cases hm : M'.getD x false
    · exact k.shut x y h1 hm h3
    · exact k.more y (h.shut x y hm h2 h3)
theorem marks_cells {M : List Bool} {k : Nat} {b : Bool} (h : M[k]? = some b) : (M.map Value.bool).toArray[k]? = some (.bool b) := by
  simp [h]
theorem set_marks (M : List Bool) (k : Nat) : (M.map Value.bool).toArray.setIfInBounds k (.bool true) = ((M.set k true).map Value.bool).toArray := by
  apply Array.ext'
  simp
theorem set_grown (w : World) (a : Addr) (u : Value) : w.grownBy (w.setCell a u) (some a.block) :=
  ⟨rfl, rfl, rfl, by simp [World.setCell], fun k hk hne => Below.heap_setCell _ _ _ _ (fun e => hne (by rw [e]))⟩
theorem below_grown {w w' : World} (h : Below w.heap.size w w') (row : Option Nat) : w.grownBy w' row := ⟨h.os, h.tape, h.output, h.size, fun k hk _ => h.block k hk⟩
theorem grew_mark {l : List (Int × Int)} {M M' : List Bool} {k : Nat} (hk : M[k]? = some false) (hc : Come l k) (h : Grew l (M.set k true) M') (hs : ∀ y, goesOn l k y = true → M'.getD y false = true) : Grew l M M' ∧ M'.getD k false = true := by
  have hlt := lt_of_at hk
  have hg := fun x => getD_set M k x hlt
  have hkk : M'.getD k false = true := h.more k (by rw [hg, if_pos rfl])
  refine ⟨⟨h.len.trans (by simp), fun x hx => h.more x ?_, fun x hx => ?_, fun x y h1 h2 h3 => ?_⟩, hkk⟩
  · rw [hg]; split
    · rfl
    · exact hx
  · rcases h.come x hx with h1 | h1
    · rw [hg] at h1
      by_cases e : x = k
      · subst e; exact .inr hc
      · rw [if_neg e] at h1; exact .inl h1
    · exact .inr h1
  · by_cases e : x = k
    · subst e; exact hs y h3
    · exact h.shut x y h1 (by rw [hg, if_neg e]; exact h2) h3
end Go.Proofs.Ytjmpbnfkiikiaaa
