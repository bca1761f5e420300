/- flow.places at the closures of Back and Reach. -/
import Derived.Test.YtenaionchlnpoabFb
namespace Go.Proofs.Ytenaionchlnpoab
open Go.RowKit
set_option linter.unusedSimpArgs false
set_option linter.unusedVariables false
/-- places below n that are wanted, rising, as numbers. -/
def placesL (p : Nat → Bool) (n : Nat) : List Int := ((List.range n).filter p).map Int.ofNat
theorem placesL_succ_true {p : Nat → Bool} {n : Nat} (h : p n = true) : placesL p (n + 1) = placesL p n ++ [(n : Int)] := by
  simp [placesL, List.range_succ, List.filter_append, h]
theorem placesL_succ_false {p : Nat → Bool} {n : Nat} (h : p n = false) : placesL p (n + 1) = placesL p n := by
  simp [placesL, List.range_succ, List.filter_append, h]
theorem placesL_le (p : Nat → Bool) (n : Nat) : (placesL p n).length ≤ n := by
  have := List.length_filter_le p (List.range n)
  simpa [placesL] using this
theorem placesL_congr {p q : Nat → Bool} {n : Nat} (h : ∀ k, k < n → p k = q k) : placesL p n = placesL q n := by
  unfold placesL
  rw [List.filter_congr fun x hx => h x (by simpa using hx)]
/-- may it come from a place to 'to'? -/
def comes (l : List (Int × Int)) (to : Int) (pc : Nat) : Bool := match l[pc]? with | some o => decide (to ∈ nextI o.1 o.2 pc) | none => false
/-- what Back's closure has captured. -/
def BackBox (w : World) (bc bp : Nat) (l : List (Int × Int)) (to : Int) : Prop := CodeBox w bc l ∧ bp < w.heap.size ∧ w.cell? ⟨bp, 0, none⟩ = some (.int .i64 to)
theorem BackBox.below {w w' : World} {bc bp : Nat} {l : List (Int × Int)} {to : Int} (h : BackBox w bc bp l to) (hb : Below w.heap.size w w') : BackBox w' bc bp l to :=
  ⟨h.1.below hb, Nat.lt_of_lt_of_le h.2.1 hb.size, (hb.cell (p := ⟨bp, 0, none⟩) h.2.1).trans h.2.2⟩
set_option maxHeartbeats 2000000 in
theorem backC_any (l : List (Int × Int)) (to : Int) (k bc bp : Nat) (w : World) (hk : k < l.length) (h40 : l.length ≤ 40) (hb : BackBox w bc bp l to) : Calls Try.prog 26 #[.int .i64 k, .pointer (some ⟨bc, 0, none⟩), .pointer (some ⟨bp, 0, none⟩)] w fun e w' => e = .returned (.bool (comes l to k)) ∧ Below w.heap.size w w' := by
  obtain ⟨⟨v, h1, h2, h3⟩, h4, h5⟩ := hb
  obtain ⟨p, q, rfl, hm, hc⟩ := h3
  obtain ⟨⟨c, a⟩, ho⟩ := at_of_lt hk
  obtain ⟨b, off, rfl, hbl, g0, g1⟩ := hc k _ ho
  have he : comes l to k = decide (to ∈ nextI c a k) := by simp [comes, ho]
  rw [he]
  have HO := hideP ho
  clear hc ho he
  simp only at g0 g1
  have hlti : (k : Int) < (l.length : Int) := by omega
  unfold maxLen at hm
  go_enter Try.func26, Try.ntmps26
  go_wp2_with fail
  go_region_held3 (fun W => W.cell? ⟨bc, 0, none⟩ = some (.slice (some ⟨b, off, none⟩) l.length q) ∧ W.cell? ⟨bp, 0, none⟩ = some (.int .i64 to) ∧ W.cell? ⟨b, off + k * 2, none⟩ = some (.int .i64 c) ∧ W.cell? ⟨b, off + k * 2 + 1, none⟩ = some (.int .i64 a)) (go_keep)
    (first
      | (go_at_call 22; refine (flowNext1_any c a k _ (by omega)).mono ?_; rintro e w3 ⟨v3, rfl, hr3, hb3'⟩; have hb3 : Below w.heap.size w w3 := ((Below.refl w.heap.size w).drew).trans hb3'; have u0 := (hb3.cell (p := ⟨bc, 0, none⟩) h1).trans h2; have u1 := (hb3.cell (p := ⟨bp, 0, none⟩) h4).trans h5; have u2 := (hb3.cell (p := ⟨b, off + k * 2, none⟩) hbl).trans g0; have u3 := (hb3.cell (p := ⟨b, off + k * 2 + 1, none⟩) hbl).trans g1; have hI3 := intsAt_of_row rfl hr3; clear hb3' hr3)
      | (go_at_call 27; refine (containsInt_any _ to _ _ hI3).mono ?_; rintro e w4 ⟨rfl, hw⟩; have hw := hw.symm; subst hw))
  all_goals go_wp2
  all_goals go_ret
  all_goals exact ⟨rfl, hb3⟩
/-- what Reach's second closure has captured: the box of the slice, and the slice's block. -/
def ReachBox (w : World) (bR R : Nat) (M : List Bool) : Prop := bR < w.heap.size ∧ R < w.heap.size ∧ w.cell? ⟨bR, 0, none⟩ = some (.slice (some ⟨R, 0, none⟩) M.length M.length) ∧ ∀ k b, M[k]? = some b → w.cell? ⟨R, k, none⟩ = some (.bool b)
theorem ReachBox.below {w w' : World} {bR R : Nat} {M : List Bool} (h : ReachBox w bR R M) (hb : Below w.heap.size w w') : ReachBox w' bR R M :=
  ⟨Nat.lt_of_lt_of_le h.1 hb.size, Nat.lt_of_lt_of_le h.2.1 hb.size, (hb.cell (p := ⟨bR, 0, none⟩) h.1).trans h.2.2.1, fun k b hk => (hb.cell (p := ⟨R, k, none⟩) h.2.1).trans (h.2.2.2 k b hk)⟩
set_option maxHeartbeats 2000000 in
theorem reachC_any (M : List Bool) (k bR R : Nat) (w : World) (hk : k < M.length) (h41 : M.length ≤ 41) (hb : ReachBox w bR R M) : Calls Try.prog 25 #[.int .i64 k, .pointer (some ⟨bR, 0, none⟩)] w fun e w' => e = .returned (.bool (M.getD k false)) ∧ Below w.heap.size w w' := by
  obtain ⟨h1, h2, h3, h4⟩ := hb
  obtain ⟨b, ho⟩ := at_of_lt hk
  have g := h4 k b ho
  have he : M.getD k false = b := by rw [List.getD_eq_getElem?_getD, ho]; rfl
  rw [he]
  clear h4 ho he
  have hlti : (k : Int) < (M.length : Int) := by omega
  go_enter Try.func25, Try.ntmps25
  go_wp2
  go_ret
  exact ⟨rfl, Below.refl _ _⟩
set_option maxHeartbeats 2000000 in
theorem placesBack_any (l : List (Int × Int)) (to : Int) (n bc bp : Nat) (w : World) (hn : n = l.length) (h40 : n ≤ 40) (hb : BackBox w bc bp l to) : Calls Try.prog 24 #[.int .i64 n, .func (.func 26) #[] #[.pointer (some ⟨bc, 0, none⟩), .pointer (some ⟨bp, 0, none⟩)]] w fun e w' => ∃ v, e = .returned v ∧ w'.ownsRow w.heap.size 3 1 v (placesL (fun pc => comes l to pc) n).length ((placesL (fun pc => comes l to pc) n).map (Value.int .i64)) ∧ Below w.heap.size w w' := by
  obtain ⟨i0, hi, hz0, hz1, hz2⟩ := info_parts infoInt
  obtain ⟨P, hP⟩ : ∃ P : Nat → Bool, (fun pc => comes l to pc) = P := ⟨_, rfl⟩
  have hcall : ∀ (k : Nat) (W : World), k < n → Below w.heap.size w W → Calls Try.prog 26 #[.int .i64 k, .pointer (some ⟨bc, 0, none⟩), .pointer (some ⟨bp, 0, none⟩)] W fun e w' => e = .returned (.bool (P k)) ∧ Below W.heap.size W w' := by
    intro k W hk hbw
    have hB2 := hb.below hbw
    rw [← hP]
    exact backC_any l to k bc bp _ (by omega) (by omega) hB2
  have HCALL := hideP hcall
  rw [hP]
  clear hcall hP hn hb
  go_enter Try.func24, Try.ntmps24
  go_wp2
  go_loopw [5, 6, 8] (fun v5 _ i wr => ∃ k : Nat, k ≤ n ∧ i = .int .i64 k ∧ wr.ownsRow w.heap.size 3 1 v5 (placesL P k).length ((placesL P k).map (Value.int .i64)) ∧ Below w.heap.size w wr) (fun _ _ i _ => n - (intOf i).toNat)
  case atStart => exact ⟨0, Nat.zero_le _, rfl, World.ownsRow_nil _ _ _ _, Below.refl _ _⟩
  case round =>
    rename World => w2
    obtain ⟨k, hk, rfl, hrow, hbw⟩ := hrel
    obtain ⟨p5, c5, rfl⟩ := row_shp hrow
    by_cases hlt : k < n
    · have hlti : (k : Int) < (n : Int) := by omega
      have hle := placesL_le P k
      have HROW := hideP hrow
      clear hrow
      cases hp : P k
      · go_wp2_with (go_at_call 26; refine (HCALL.out k _ hlt hbw).mono ?_; rw [hp]; rintro e w3 ⟨rfl, hb3⟩)
        go_roundw
        case rel =>
          refine ⟨k + 1, by omega, by go_num, ?_, hbw.trans (hb3.mono hbw.size)⟩
          rw [placesL_succ_false hp]
          exact row_same HROW.out fun j hj => hb3.block j (HROW.out.lt j hj).2
        case measure => simp [intOf]; omega
      · go_wp2_with (first
          | (go_at_call 26; refine (HCALL.out k _ hlt hbw).mono ?_; rw [hp]; rintro e w3 ⟨rfl, hb3⟩; have hrow3 := hideP ((row_same HROW.out fun j hj => hb3.block j (HROW.out.lt j hj).2).alloc (.cells #[.int .i64 k] 3)))
          | (at_builtin; refine wpList_append_own _ rfl _ _ 23 rfl w.heap.size 3 i0 (.int .i64 0) 1 8 Try.underlying23 hi hz0 hz1 hz2 rfl (by decide) _ _ _ rfl hrow3.out ⟨w3.heap.size, 0, none⟩ 1 1 [.int .i64 k] rfl rfl (cell_one_new _ _ _) (by simp [Value.oneCell']) (by unfold maxLen; omega) (by omega) (by have := hb3.size; have := hbw.size; simp; omega) ?_; intro v' w4 hown4 hg4 _; obtain ⟨g', cap', rfl⟩ := ownsRow_succ hown4))
        go_roundw
        case rel =>
          refine ⟨k + 1, by omega, by go_num, ?_, ?_⟩
          · rw [placesL_succ_true hp]
            simpa using hown4
          · have h3 := hbw.trans (hb3.mono hbw.size)
            have h4 := h3.alloc (Nat.le_trans hbw.size hb3.size) (.cells #[.int .i64 k] 3)
            exact h4.grown hg4 (by have := hb3.size; have := hbw.size; simp; omega) (fun j hj => (hrow3.out.lt j hj).1)
        case measure => simp [intOf]; omega
    · have hlt' : ¬ (k : Int) < (n : Int) := by omega
      obtain rfl : k = n := by omega
      go_wp2
      go_ret
      exact ⟨_, rfl, hrow, hbw⟩
set_option maxHeartbeats 2000000 in
theorem placesReach_any (M : List Bool) (n bR R : Nat) (w : World) (hn : n = M.length) (h40 : n ≤ 41) (hb : ReachBox w bR R M) : Calls Try.prog 24 #[.int .i64 n, .func (.func 25) #[] #[.pointer (some ⟨bR, 0, none⟩)]] w fun e w' => ∃ v, e = .returned v ∧ w'.ownsRow w.heap.size 3 1 v (placesL (fun pc => M.getD pc false) n).length ((placesL (fun pc => M.getD pc false) n).map (Value.int .i64)) ∧ Below w.heap.size w w' := by
  obtain ⟨i0, hi, hz0, hz1, hz2⟩ := info_parts infoInt
  obtain ⟨P, hP⟩ : ∃ P : Nat → Bool, (fun pc => M.getD pc false) = P := ⟨_, rfl⟩
  have hcall : ∀ (k : Nat) (W : World), k < n → Below w.heap.size w W → Calls Try.prog 25 #[.int .i64 k, .pointer (some ⟨bR, 0, none⟩)] W fun e w' => e = .returned (.bool (P k)) ∧ Below W.heap.size W w' := by
    intro k W hk hbw
    have hB2 := hb.below hbw
    rw [← hP]
    exact reachC_any M k bR R _ (by omega) (by omega) hB2
  have HCALL := hideP hcall
  rw [hP]
  clear hcall hP hn hb
  go_enter Try.func24, Try.ntmps24
  go_wp2
  go_loopw [5, 6, 8] (fun v5 _ i wr => ∃ k : Nat, k ≤ n ∧ i = .int .i64 k ∧ wr.ownsRow w.heap.size 3 1 v5 (placesL P k).length ((placesL P k).map (Value.int .i64)) ∧ Below w.heap.size w wr) (fun _ _ i _ => n - (intOf i).toNat)
  case atStart => exact ⟨0, Nat.zero_le _, rfl, World.ownsRow_nil _ _ _ _, Below.refl _ _⟩
  case round =>
    rename World => w2
    obtain ⟨k, hk, rfl, hrow, hbw⟩ := hrel
    obtain ⟨p5, c5, rfl⟩ := row_shp hrow
    by_cases hlt : k < n
    · have hlti : (k : Int) < (n : Int) := by omega
      have hle := placesL_le P k
      have HROW := hideP hrow
      clear hrow
      cases hp : P k
      · go_wp2_with (go_at_call 25; refine (HCALL.out k _ hlt hbw).mono ?_; rw [hp]; rintro e w3 ⟨rfl, hb3⟩)
        go_roundw
        case rel =>
          refine ⟨k + 1, by omega, by go_num, ?_, hbw.trans (hb3.mono hbw.size)⟩
          rw [placesL_succ_false hp]
          exact row_same HROW.out fun j hj => hb3.block j (HROW.out.lt j hj).2
        case measure => simp [intOf]; omega
      · go_wp2_with (first
          | (go_at_call 25; refine (HCALL.out k _ hlt hbw).mono ?_; rw [hp]; rintro e w3 ⟨rfl, hb3⟩; have hrow3 := hideP ((row_same HROW.out fun j hj => hb3.block j (HROW.out.lt j hj).2).alloc (.cells #[.int .i64 k] 3)))
          | (at_builtin; refine wpList_append_own _ rfl _ _ 23 rfl w.heap.size 3 i0 (.int .i64 0) 1 8 Try.underlying23 hi hz0 hz1 hz2 rfl (by decide) _ _ _ rfl hrow3.out ⟨w3.heap.size, 0, none⟩ 1 1 [.int .i64 k] rfl rfl (cell_one_new _ _ _) (by simp [Value.oneCell']) (by unfold maxLen; omega) (by omega) (by have := hb3.size; have := hbw.size; simp; omega) ?_; intro v' w4 hown4 hg4 _; obtain ⟨g', cap', rfl⟩ := ownsRow_succ hown4))
        go_roundw
        case rel =>
          refine ⟨k + 1, by omega, by go_num, ?_, ?_⟩
          · rw [placesL_succ_true hp]
            simpa using hown4
          · have h3 := hbw.trans (hb3.mono hbw.size)
            have h4 := h3.alloc (Nat.le_trans hbw.size hb3.size) (.cells #[.int .i64 k] 3)
            exact h4.grown hg4 (by have := hb3.size; have := hbw.size; simp; omega) (fun j hj => (hrow3.out.lt j hj).1)
        case measure => simp [intOf]; omega
    · have hlt' : ¬ (k : Int) < (n : Int) := by omega
      obtain rfl : k = n := by omega
      go_wp2
      go_ret
      exact ⟨_, rfl, hrow, hbw⟩

end Go.Proofs.Ytenaionchlnpoab

