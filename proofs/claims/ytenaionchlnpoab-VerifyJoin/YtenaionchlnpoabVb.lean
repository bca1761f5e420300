/- ContainsFunc at checkFunc's closure and at typed's; typed, checkFunc. -/
import Derived.Test.YtenaionchlnpoabVa
namespace Go.Proofs.Ytenaionchlnpoab
open Go.RowKit
set_option linter.unusedSimpArgs false
set_option linter.unusedVariables false
theorem all_snoc {α : Type} {p : α → Bool} {l : List α} {k : Nat} {o : α} (h : ∀ x ∈ l.take k, p x = true) (ho : l[k]? = some o) (hp : p o = true) : ∀ x ∈ l.take (k + 1), p x = true := by
  rw [take_snoc l k _ ho]; intro x hx; rcases List.mem_append.1 hx with hx | hx
  · exact h x hx
  · simp at hx; subst hx; exact hp
theorem all_true {α : Type} {p : α → Bool} {l : List α} (h : ∀ x ∈ l, p x = true) : l.all p = true := List.all_eq_true.2 h
theorem all_false {α : Type} {p : α → Bool} {l : List α} {k : Nat} {o : α} (ho : l[k]? = some o) (hp : p o = false) : l.all p = false := by
  cases h : l.all p
  · rfl
  · have := List.all_eq_true.1 h o (List.mem_of_getElem? ho); rw [hp] at this; cases this
set_option maxHeartbeats 1000000 in
theorem indexNames_any (l : List (Int × Int)) (v : Value) (f : Fn) (n bf bn : Nat) (w : World) (h : OpsAt w v l) (hB : Boxes w bf bn f n) : Calls Try.prog 50 #[v, .func (.func 71) #[] #[.pointer (some ⟨bf, 0, none⟩), .pointer (some ⟨bn, 0, none⟩)]] w fun e w' => ∃ r, e = .returned (.int .i64 r) ∧ decide (0 ≤ r) = (!l.all fun o => namesB o f n) ∧ Below w.heap.size w w' := by
  obtain ⟨p, cap, rfl, hm, hc⟩ := h
  unfold maxLen at hm
  go_enter Try.func50, Try.ntmps50
  go_wp2
  go_loopw [5, 8] (fun _ i wr => ∃ k : Nat, k ≤ l.length ∧ i = .int .i64 k ∧ (∀ o ∈ l.take k, namesB o f n = true) ∧ Below w.heap.size w wr) (fun _ i _ => l.length - (intOf i).toNat)
  case atStart => exact ⟨0, Nat.zero_le _, rfl, by simp, Below.refl _ _⟩
  case round =>
    obtain ⟨k, hk, rfl, hok, hbw⟩ := hrel
    have HK : Hid (∀ o ∈ l.take k, namesB o f n = true) := hok
    clear hok
    have HC : Hid (∀ k o, l[k]? = some o → ∃ b off, p = some ⟨b, off, none⟩ ∧ b < w.heap.size ∧ w.cell? ⟨b, off + k * 2, none⟩ = some (.int .i64 o.1) ∧ w.cell? ⟨b, off + k * 2 + 1, none⟩ = some (.int .i64 o.2)) := hc
    clear hc
    by_cases hlt : k < l.length
    · obtain ⟨⟨c, a⟩, ho⟩ := at_of_lt hlt
      obtain ⟨b, off, rfl, hb, h0, h1⟩ := HC.out k _ ho
      have g0 := (hbw.cell (p := ⟨b, off + k * 2, none⟩) hb).trans h0
      have g1 := (hbw.cell (p := ⟨b, off + k * 2 + 1, none⟩) hb).trans h1
      have hBr := hB.below hbw
      have HO : Hid (l[k]? = some (c, a)) := ho
      clear ho h0 h1
      cases hnb : namesB (c, a) f n
      · go_wp2_with (go_at_call 71; refine (checkFn1_any c a f n bf bn _ hBr).mono ?_; rintro e w2 ⟨rfl, hb2⟩)
        go_ret
        exact ⟨k, rfl, by rw [all_false HO.out hnb]; simp, hbw.trans (hb2.mono hbw.size)⟩
      · go_wp2_with (go_at_call 71; refine (checkFn1_any c a f n bf bn _ hBr).mono ?_; rintro e w2 ⟨rfl, hb2⟩)
        go_roundw
        case rel => exact ⟨k + 1, by omega, by go_num, all_snoc HK.out HO.out hnb, hbw.trans (hb2.mono hbw.size)⟩
        case measure => simp [intOf]; omega
    · have hlt' : ¬ (k : Int) < (l.length : Int) := by omega
      go_wp2
      go_ret
      refine ⟨-1, rfl, ?_, hbw⟩
      have := HK.out
      rw [List.take_of_length_le (by omega)] at this
      rw [all_true this]; decide
set_option maxHeartbeats 1000000 in
theorem containsNames_any (l : List (Int × Int)) (v : Value) (f : Fn) (n bf bn : Nat) (w : World) (h : OpsAt w v l) (hB : Boxes w bf bn f n) : Calls Try.prog 41 #[v, .func (.func 71) #[] #[.pointer (some ⟨bf, 0, none⟩), .pointer (some ⟨bn, 0, none⟩)]] w fun e w' => e = .returned (.bool (!l.all fun o => namesB o f n)) ∧ Below w.heap.size w w' := by
  go_enter Try.func41, Try.ntmps41
  go_wp2_with fail
  refine (indexNames_any l v f n bf bn _ h hB).mono ?_
  rintro e w2 ⟨r, rfl, hr, hb2⟩
  have HR : Hid (decide (0 ≤ r) = (!l.all fun o => namesB o f n)) := hr
  clear hr
  go_wp2
  go_ret
  exact ⟨by rw [← HR.out]; rfl, hb2⟩
set_option maxHeartbeats 1000000 in
theorem typed1_any (t : Int) (w : World) : Calls Try.prog 91 #[.int .i64 t] w fun e w' => e = .returned (.bool (!okType t)) ∧ w' = w := by
  by_cases h1 : t = 1
  · have h1' : (t != 1) = false := by simp [h1]
    go_enter Try.func91, Try.ntmps91
    go_wp2
    go_ret
    exact ⟨by simp [okType, h1], rfl⟩
  · have h1' : (t != 1) = true := by simp [h1]
    go_enter Try.func91, Try.ntmps91
    go_wp2
    go_ret
    have h2 : (t == 1) = false := by simp [h1]
    exact ⟨by simp only [okType, h2, Bool.false_or]; rfl, rfl⟩
set_option maxHeartbeats 1000000 in
theorem indexTyped_any (l : List Int) (v : Value) (w : World) (h : IntsAt w v l) : Calls Try.prog 48 #[v, .func (.func 91) #[] #[]] w fun e w' => ∃ r, e = .returned (.int .i64 r) ∧ decide (0 ≤ r) = (!l.all okType) ∧ Below w.heap.size w w' := by
  obtain ⟨p, cap, rfl, hm, hc⟩ := h
  unfold maxLen at hm
  go_enter Try.func48, Try.ntmps48
  go_wp2
  go_loopw [5, 8] (fun _ i wr => ∃ k : Nat, k ≤ l.length ∧ i = .int .i64 k ∧ (∀ o ∈ l.take k, okType o = true) ∧ Below w.heap.size w wr) (fun _ i _ => l.length - (intOf i).toNat)
  case atStart => exact ⟨0, Nat.zero_le _, rfl, by simp, Below.refl _ _⟩
  case round =>
    obtain ⟨k, hk, rfl, hok, hbw⟩ := hrel
    have HK : Hid (∀ o ∈ l.take k, okType o = true) := hok
    clear hok
    have HC : Hid (∀ k z, l[k]? = some z → ∃ b off, p = some ⟨b, off, none⟩ ∧ b < w.heap.size ∧ w.cell? ⟨b, off + k, none⟩ = some (.int .i64 z)) := hc
    clear hc
    by_cases hlt : k < l.length
    · obtain ⟨z, ho⟩ := at_of_lt hlt
      obtain ⟨b, off, rfl, hb, h0⟩ := HC.out k _ ho
      have g0 := (hbw.cell (p := ⟨b, off + k, none⟩) hb).trans h0
      have HO : Hid (l[k]? = some z) := ho
      clear ho h0
      cases hnb : okType z
      · go_wp2_with (go_at_call 91; refine (typed1_any z _).mono ?_; rintro e w2 ⟨rfl, hw⟩; have hw := hw.symm; subst hw)
        go_ret
        exact ⟨k, rfl, by rw [all_false HO.out hnb]; simp, hbw⟩
      · go_wp2_with (go_at_call 91; refine (typed1_any z _).mono ?_; rintro e w2 ⟨rfl, hw⟩; have hw := hw.symm; subst hw)
        go_roundw
        case rel => exact ⟨k + 1, by omega, by go_num, all_snoc HK.out HO.out hnb, hbw⟩
        case measure => simp [intOf]; omega
    · have hlt' : ¬ (k : Int) < (l.length : Int) := by omega
      go_wp2
      go_ret
      refine ⟨-1, rfl, ?_, hbw⟩
      have := HK.out
      rw [List.take_of_length_le (by omega)] at this
      rw [all_true this]; decide
set_option maxHeartbeats 1000000 in
theorem containsTyped_any (l : List Int) (v : Value) (w : World) (h : IntsAt w v l) : Calls Try.prog 37 #[v, .func (.func 91) #[] #[]] w fun e w' => e = .returned (.bool (!l.all okType)) ∧ Below w.heap.size w w' := by
  go_enter Try.func37, Try.ntmps37
  go_wp2_with fail
  refine (indexTyped_any l v _ h).mono ?_
  rintro e w2 ⟨r, rfl, hr, hb2⟩
  have HR : Hid (decide (0 ≤ r) = (!l.all okType)) := hr
  clear hr
  go_wp2
  go_ret
  exact ⟨by rw [← HR.out]; rfl, hb2⟩
set_option maxHeartbeats 2000000 in
theorem typed_any (f : Fn) (c0 c1 c2 c3 : Value) (w : World) (h : FnAt w c0 c1 c2 c3 f) : Calls Try.prog 70 #[.agg #[c0, c1, c2, c3]] w fun e w' => e = .returned (.bool (typedB f)) ∧ Below w.heap.size w w' := by
  obtain ⟨P, L, r, C⟩ := f
  obtain ⟨rfl, hI, rfl, hO⟩ := h
  simp only at hI hO
  have hI' := hI
  obtain ⟨p1, q1, rfl, _, _⟩ := hI'
  obtain ⟨p3, q3, rfl, _, _⟩ := hO
  obtain ⟨W1, hW1⟩ : ∃ W1, w.alloc (.cells #[.int .i64 P, .slice p1 L.length q1, .int .i64 r, .slice p3 C.length q3] 59) = W1 := ⟨_, rfl⟩
  have hw : Below w.heap.size w W1 := by rw [← hW1]; exact (Below.refl _ w).alloc (Nat.le_refl _) _
  have hh : W1.heap[w.heap.size]? = some (.cells #[.int .i64 P, .slice p1 L.length q1, .int .i64 r, .slice p3 C.length q3] 59 (0, 0)) := by rw [← hW1]; exact World.alloc_heap_new w _
  have hsz : w.heap.size < W1.heap.size := heap_lt hh
  subst hW1
  cases ha : L.all okType
  · go_enter Try.func70, Try.ntmps70
    go_wp2_with fail
    refine (containsTyped_any L _ _ (hI.below hw)).mono ?_
    rw [ha]
    rintro e w2 ⟨rfl, hb2⟩
    go_wp2
    go_ret
    exact ⟨by simp [typedB, ha], hw.trans (hb2.mono hw.size)⟩
  · by_cases h0 : 0 ≤ r
    · by_cases h2 : r ≤ 2
      all_goals
        go_enter Try.func70, Try.ntmps70
        go_wp2_with fail
        refine (containsTyped_any L _ _ (hI.below hw)).mono ?_
        rw [ha]
        rintro e w2 ⟨rfl, hb2⟩
        have g2 : w2.cell? ⟨w.heap.size, 2, none⟩ = some (.int .i64 r) := (hb2.cell (p := ⟨w.heap.size, 2, none⟩) hsz).trans (by rw [cell_at' hh]; rfl)
        go_wp2
        go_ret
        exact ⟨by simp [typedB, ha, h0, h2], hw.trans (hb2.mono hw.size)⟩
    · have hd : decide (0 ≤ r) = false := by simpa using h0
      go_enter Try.func70, Try.ntmps70
      go_wp2_with fail
      refine (containsTyped_any L _ _ (hI.below hw)).mono ?_
      rw [ha]
      rintro e w2 ⟨rfl, hb2⟩
      have g2 : w2.cell? ⟨w.heap.size, 2, none⟩ = some (.int .i64 r) := (hb2.cell (p := ⟨w.heap.size, 2, none⟩) hsz).trans (by rw [cell_at' hh]; rfl)
      go_wp2
      go_ret
      exact ⟨by simp [typedB, ha]; omega, hw.trans (hb2.mono hw.size)⟩
end Go.Proofs.Ytenaionchlnpoab

