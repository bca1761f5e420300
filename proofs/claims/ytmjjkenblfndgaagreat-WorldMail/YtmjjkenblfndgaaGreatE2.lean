/- My texts Vb Ap Vc Vd Ve Vg Pf Fa Shelf2 Fb: what of them is needed, joined. -/
import Derived.Laws.AppendOwnNone
import Derived.Deep.RegionHeld3
import Derived.Deep.RegionLaw
import Derived.Shelf.Sort.Plain
import Derived.Ground.Names2Prog
import Derived.Shelf.Slices.CompactI
import Derived.Test.YtmjjkenblfndgaaGreatProg
import Derived.Test.YtmjjkenblfndgaaGreatE1
set_option maxRecDepth 100000
set_option maxHeartbeats 8000000
/- ContainsFunc at checkFunc's closure and at typed's; typed, checkFunc. -/
namespace Go.Proofs.YtmjjkenblfndgaaGreat
open Go.RowKit
set_option linter.unusedSimpArgs false
set_option linter.unusedVariables false
theorem xc0Z {α : Type} {p : α → Bool} {l : List α} {k : Nat} {o : α} (h : ∀ x ∈ l.take k, p x = true) (ho : l[k]? = some o) (hp : p o = true) : ∀ x ∈ l.take (k + 1), p x = true := by
  rw [xazZ l k _ ho]; intro x hx; rcases List.mem_append.1 hx with hx | hx
  · exact h x hx
  · simp at hx; subst hx; exact hp
theorem xc1Z {α : Type} {p : α → Bool} {l : List α} (h : ∀ x ∈ l, p x = true) : l.all p = true := List.all_eq_true.2 h
theorem xcvZ {α : Type} {p : α → Bool} {l : List α} {k : Nat} {o : α} (ho : l[k]? = some o) (hp : p o = false) : l.all p = false := by
  cases h : l.all p
  · rfl
  · have := List.all_eq_true.1 h o (List.mem_of_getElem? ho); rw [hp] at this; cases this
theorem xljZ (l : List (Int × Int)) (v : Value) (f : Fn) (n bf bn : Nat) (w : World) (h : OpsAt w v l) (hB : Boxes w bf bn f n) : Calls Tryz.prog 200 #[v, .func (.func 154) #[] #[.pointer (some ⟨bf, 0, none⟩), .pointer (some ⟨bn, 0, none⟩)]] w fun e w' => ∃ r, e = .returned (.int .i64 r) ∧ decide (0 ≤ r) = (!l.all fun o => xbvZ o f n) ∧ Below w.heap.size w w' := by
  obtain ⟨p, cap, rfl, hm, hc⟩ := h
  unfold maxLen at hm
  go_enter Tryz.func200, Tryz.ntmps200
  go_wp2
  go_loopw [5, 8] (fun _ i wr => ∃ k : Nat, k ≤ l.length ∧ i = .int .i64 k ∧ (∀ o ∈ l.take k, xbvZ o f n = true) ∧ Below w.heap.size w wr) (fun _ i _ => l.length - (intOf i).toNat)
  case atStart => exact ⟨0, Nat.zero_le _, rfl, by simp, Below.refl _ _⟩
  case round =>
    obtain ⟨k, hk, rfl, hok, hbw⟩ := hrel
    have HK : Hid (∀ o ∈ l.take k, xbvZ o f n = true) := hok
    clear hok
    have HC : Hid (∀ k o, l[k]? = some o → ∃ b off, p = some ⟨b, off, none⟩ ∧ b < w.heap.size ∧ w.cell? ⟨b, off + k * 2, none⟩ = some (.int .i64 o.1) ∧ w.cell? ⟨b, off + k * 2 + 1, none⟩ = some (.int .i64 o.2)) := hc
    clear hc
    by_cases hlt : k < l.length
    · obtain ⟨⟨c, a⟩, ho⟩ := xagZ hlt
      obtain ⟨b, off, rfl, hb, h0, h1⟩ := HC.out k _ ho
      have g0 := (hbw.cell (p := ⟨b, off + k * 2, none⟩) hb).trans h0
      have g1 := (hbw.cell (p := ⟨b, off + k * 2 + 1, none⟩) hb).trans h1
      have hBr := hB.below hbw
      have HO : Hid (l[k]? = some (c, a)) := ho
      clear ho h0 h1
      cases hnb : xbvZ (c, a) f n
      · go_wp2_with (go_at_call 154; refine (xh5Z c a f n bf bn _ hBr).mono ?_; rintro e w2 ⟨rfl, hb2⟩)
        go_ret
        exact ⟨k, rfl, by rw [xcvZ HO.out hnb]; simp, hbw.trans (hb2.mono hbw.size)⟩
      · go_wp2_with (go_at_call 154; refine (xh5Z c a f n bf bn _ hBr).mono ?_; rintro e w2 ⟨rfl, hb2⟩)
        go_roundw
        case rel => exact ⟨k + 1, by omega, by go_num, xc0Z HK.out HO.out hnb, hbw.trans (hb2.mono hbw.size)⟩
        case measure => simp [intOf]; omega
    · have hlt' : ¬ (k : Int) < (l.length : Int) := by omega
      go_wp2
      go_ret
      refine ⟨-1, rfl, ?_, hbw⟩
      have := HK.out
      rw [List.take_of_length_le (by omega)] at this
      rw [xc1Z this]; decide
theorem xi3Z (l : List (Int × Int)) (v : Value) (f : Fn) (n bf bn : Nat) (w : World) (h : OpsAt w v l) (hB : Boxes w bf bn f n) : Calls Tryz.prog 153 #[v, .func (.func 154) #[] #[.pointer (some ⟨bf, 0, none⟩), .pointer (some ⟨bn, 0, none⟩)]] w fun e w' => e = .returned (.bool (!l.all fun o => xbvZ o f n)) ∧ Below w.heap.size w w' := by
  go_enter Tryz.func153, Tryz.ntmps153
  go_wp2_with fail
  refine (xljZ l v f n bf bn _ h hB).mono ?_
  rintro e w2 ⟨r, rfl, hr, hb2⟩
  have HR : Hid (decide (0 ≤ r) = (!l.all fun o => xbvZ o f n)) := hr
  clear hr
  go_wp2
  go_ret
  exact ⟨by rw [← HR.out]; rfl, hb2⟩
theorem xk9Z (t : Int) (w : World) : Calls Tryz.prog 199 #[.int .i64 t] w fun e w' => e = .returned (.bool (!xdvZ t)) ∧ w' = w := by
  by_cases h1 : t = 1
  · have h1' : (t != 1) = false := by simp [h1]
    go_enter Tryz.func199, Tryz.ntmps199
    go_wp2
    go_ret
    exact ⟨by simp [xdvZ, h1], rfl⟩
  · have h1' : (t != 1) = true := by simp [h1]
    go_enter Tryz.func199, Tryz.ntmps199
    go_wp2
    go_ret
    have h2 : (t == 1) = false := by simp [h1]
    exact ⟨by simp only [xdvZ, h2, Bool.false_or]; rfl, rfl⟩
theorem xlkZ (l : List Int) (v : Value) (w : World) (h : IntsAt w v l) : Calls Tryz.prog 177 #[v, .func (.func 199) #[] #[]] w fun e w' => ∃ r, e = .returned (.int .i64 r) ∧ decide (0 ≤ r) = (!l.all xdvZ) ∧ Below w.heap.size w w' := by
  obtain ⟨p, cap, rfl, hm, hc⟩ := h
  unfold maxLen at hm
  go_enter Tryz.func177, Tryz.ntmps177
  go_wp2
  go_loopw [5, 8] (fun _ i wr => ∃ k : Nat, k ≤ l.length ∧ i = .int .i64 k ∧ (∀ o ∈ l.take k, xdvZ o = true) ∧ Below w.heap.size w wr) (fun _ i _ => l.length - (intOf i).toNat)
  case atStart => exact ⟨0, Nat.zero_le _, rfl, by simp, Below.refl _ _⟩
  case round =>
    obtain ⟨k, hk, rfl, hok, hbw⟩ := hrel
    have HK : Hid (∀ o ∈ l.take k, xdvZ o = true) := hok
    clear hok
    have HC : Hid (∀ k z, l[k]? = some z → ∃ b off, p = some ⟨b, off, none⟩ ∧ b < w.heap.size ∧ w.cell? ⟨b, off + k, none⟩ = some (.int .i64 z)) := hc
    clear hc
    by_cases hlt : k < l.length
    · obtain ⟨z, ho⟩ := xagZ hlt
      obtain ⟨b, off, rfl, hb, h0⟩ := HC.out k _ ho
      have g0 := (hbw.cell (p := ⟨b, off + k, none⟩) hb).trans h0
      have HO : Hid (l[k]? = some z) := ho
      clear ho h0
      cases hnb : xdvZ z
      · go_wp2_with (go_at_call 199; refine (xk9Z z _).mono ?_; rintro e w2 ⟨rfl, hw⟩; have hw := hw.symm; subst hw)
        go_ret
        exact ⟨k, rfl, by rw [xcvZ HO.out hnb]; simp, hbw⟩
      · go_wp2_with (go_at_call 199; refine (xk9Z z _).mono ?_; rintro e w2 ⟨rfl, hw⟩; have hw := hw.symm; subst hw)
        go_roundw
        case rel => exact ⟨k + 1, by omega, by go_num, xc0Z HK.out HO.out hnb, hbw⟩
        case measure => simp [intOf]; omega
    · have hlt' : ¬ (k : Int) < (l.length : Int) := by omega
      go_wp2
      go_ret
      refine ⟨-1, rfl, ?_, hbw⟩
      have := HK.out
      rw [List.take_of_length_le (by omega)] at this
      rw [xc1Z this]; decide
theorem xefZ (l : List Int) (v : Value) (w : World) (h : IntsAt w v l) : Calls Tryz.prog 140 #[v, .func (.func 199) #[] #[]] w fun e w' => e = .returned (.bool (!l.all xdvZ)) ∧ Below w.heap.size w w' := by
  go_enter Tryz.func140, Tryz.ntmps140
  go_wp2_with fail
  refine (xlkZ l v _ h).mono ?_
  rintro e w2 ⟨r, rfl, hr, hb2⟩
  have HR : Hid (decide (0 ≤ r) = (!l.all xdvZ)) := hr
  clear hr
  go_wp2
  go_ret
  exact ⟨by rw [← HR.out]; rfl, hb2⟩
theorem xguZ (f : Fn) (c0 c1 c2 c3 : Value) (w : World) (h : FnAt w c0 c1 c2 c3 f) : Calls Tryz.prog 151 #[.agg #[c0, c1, c2, c3]] w fun e w' => e = .returned (.bool (xe3Z f)) ∧ Below w.heap.size w w' := by
  obtain ⟨P, L, r, C⟩ := f
  obtain ⟨rfl, hI, rfl, hO⟩ := h
  simp only at hI hO
  have hI' := hI
  obtain ⟨p1, q1, rfl, _, _⟩ := hI'
  obtain ⟨p3, q3, rfl, _, _⟩ := hO
  obtain ⟨W1, hW1⟩ : ∃ W1, w.alloc (.cells #[.int .i64 P, .slice p1 L.length q1, .int .i64 r, .slice p3 C.length q3] 119) = W1 := ⟨_, rfl⟩
  have hw : Below w.heap.size w W1 := by rw [← hW1]; exact (Below.refl _ w).alloc (Nat.le_refl _) _
  have hh : W1.heap[w.heap.size]? = some (.cells #[.int .i64 P, .slice p1 L.length q1, .int .i64 r, .slice p3 C.length q3] 119 (0, 0)) := by rw [← hW1]; exact World.alloc_heap_new w _
  have hsz : w.heap.size < W1.heap.size := xacZ hh
  subst hW1
  cases ha : L.all xdvZ
  · go_enter Tryz.func151, Tryz.ntmps151
    go_wp2_with fail
    refine (xefZ L _ _ (hI.below hw)).mono ?_
    rw [ha]
    rintro e w2 ⟨rfl, hb2⟩
    go_wp2
    go_ret
    exact ⟨by simp [xe3Z, ha], hw.trans (hb2.mono hw.size)⟩
  · by_cases h0 : 0 ≤ r
    · by_cases h2 : r ≤ 2
      all_goals
        go_enter Tryz.func151, Tryz.ntmps151
        go_wp2_with fail
        refine (xefZ L _ _ (hI.below hw)).mono ?_
        rw [ha]
        rintro e w2 ⟨rfl, hb2⟩
        have g2 : w2.cell? ⟨w.heap.size, 2, none⟩ = some (.int .i64 r) := (hb2.cell (p := ⟨w.heap.size, 2, none⟩) hsz).trans (by rw [xaaZ hh]; rfl)
        go_wp2
        go_ret
        exact ⟨by simp [xe3Z, ha, h0, h2], hw.trans (hb2.mono hw.size)⟩
    · have hd : decide (0 ≤ r) = false := by simpa using h0
      go_enter Tryz.func151, Tryz.ntmps151
      go_wp2_with fail
      refine (xefZ L _ _ (hI.below hw)).mono ?_
      rw [ha]
      rintro e w2 ⟨rfl, hb2⟩
      have g2 : w2.cell? ⟨w.heap.size, 2, none⟩ = some (.int .i64 r) := (hb2.cell (p := ⟨w.heap.size, 2, none⟩) hsz).trans (by rw [xaaZ hh]; rfl)
      go_wp2
      go_ret
      exact ⟨by simp [xe3Z, ha]; omega, hw.trans (hb2.mono hw.size)⟩
end Go.Proofs.YtmjjkenblfndgaaGreat


/- append of code in memory onto a row of the call's own; Encode once more, its text under a name. -/
namespace Go.Proofs.YtmjjkenblfndgaaGreat
open Go.RowKit
set_option linter.unusedSimpArgs false
set_option linter.unusedVariables false
def NilOk (v : Value) : Prop := ∀ n c, v = .slice none n c → c = 0
theorem xdsZ (b off j : Nat) : (⟨b, off, none⟩ : Addr).add j = ⟨b, off + j, none⟩ := by
  unfold Addr.add; split <;> simp_all
theorem xgnZ (l : List (Int × Int)) (v : Value) (w : World) (h : OpsAt w v l) : Calls Tryz.prog 152 #[v] w fun e w' => ∃ T : ByteArray, e = .returned (.tuple #[.string T, .int .i64 (xa9Z l)]) ∧ T.data.toList = xegZ l ∧ Below w.heap.size w w' :=
  (encode_any l v w h).mono fun e w' ⟨he, hb⟩ => ⟨_, he, rfl, hb⟩
end Go.Proofs.YtmjjkenblfndgaaGreat


/- checkFunc and prog.Check. -/
namespace Go.Proofs.YtmjjkenblfndgaaGreat
open Go.RowKit
set_option linter.unusedSimpArgs false
set_option linter.unusedVariables false
theorem xhvZ (f : Fn) (n : Nat) (c0 c1 c2 c3 : Value) (w : World) (h : FnAt w c0 c1 c2 c3 f) : Calls Tryz.prog 117 #[.agg #[c0, c1, c2, c3], .int .i64 n] w fun e w' => e = .returned (.int .i64 (fnErr f n)) ∧ Below w.heap.size w w' := by
  obtain ⟨P, L, R, C⟩ := f
  have hF0 := h
  obtain ⟨rfl, hI, rfl, hO⟩ := h
  simp only at hI hO
  obtain ⟨p1, q1, rfl, hm1, _⟩ := hI
  obtain ⟨p3, q3, rfl, hm3, _⟩ := hO
  simp only at hF0
  unfold maxLen at hm1 hm3
  have hw1 : Below w.heap.size w (w.alloc (.cells #[.int .i64 P, .slice p1 L.length q1, .int .i64 R, .slice p3 C.length q3] 119)) := (Below.refl _ w).alloc (Nat.le_refl _) _
  have hw : Below w.heap.size w ((w.alloc (.cells #[.int .i64 P, .slice p1 L.length q1, .int .i64 R, .slice p3 C.length q3] 119)).alloc (.cells #[.int .i64 n] 3)) := hw1.alloc (by simp) _
  have hhf : ((w.alloc (.cells #[.int .i64 P, .slice p1 L.length q1, .int .i64 R, .slice p3 C.length q3] 119)).alloc (.cells #[.int .i64 n] 3)).heap[w.heap.size]? = some (.cells #[.int .i64 P, .slice p1 L.length q1, .int .i64 R, .slice p3 C.length q3] 119 (0, 0)) := xalZ (World.alloc_heap_new w _) _
  have hhn : ((w.alloc (.cells #[.int .i64 P, .slice p1 L.length q1, .int .i64 R, .slice p3 C.length q3] 119)).alloc (.cells #[.int .i64 n] 3)).heap[w.heap.size + 1]? = some (.cells #[.int .i64 n] 3 (0, 0)) := by
    have := World.alloc_heap_new (w.alloc (.cells #[.int .i64 P, .slice p1 L.length q1, .int .i64 R, .slice p3 C.length q3] 119)) (.cells #[.int .i64 n] 3)
    rwa [World.size_alloc] at this
  have hB : Boxes ((w.alloc (.cells #[.int .i64 P, .slice p1 L.length q1, .int .i64 R, .slice p3 C.length q3] 119)).alloc (.cells #[.int .i64 n] 3)) w.heap.size (w.heap.size + 1) (P, L, R, C) n :=
    ⟨_, _, _, _, xacZ hhf, xacZ hhn, xaaZ hhf 0, xaaZ hhf 1, xaaZ hhf 2, xaaZ hhf 3, xaaZ hhn 0, hF0.below hw⟩
  have HB : Hid (Boxes ((w.alloc (.cells #[.int .i64 P, .slice p1 L.length q1, .int .i64 R, .slice p3 C.length q3] 119)).alloc (.cells #[.int .i64 n] 3)) w.heap.size (w.heap.size + 1) (P, L, R, C) n) := hB
  have HF : Hid (FnAt ((w.alloc (.cells #[.int .i64 P, .slice p1 L.length q1, .int .i64 R, .slice p3 C.length q3] 119)).alloc (.cells #[.int .i64 n] 3)) (.int .i64 P) (.slice p1 L.length q1) (.int .i64 R) (.slice p3 C.length q3) (P, L, R, C)) := hF0.below hw
  have HK : Hid (∀ w2, Below ((w.alloc (.cells #[.int .i64 P, .slice p1 L.length q1, .int .i64 R, .slice p3 C.length q3] 119)).alloc (.cells #[.int .i64 n] 3)).heap.size ((w.alloc (.cells #[.int .i64 P, .slice p1 L.length q1, .int .i64 R, .slice p3 C.length q3] 119)).alloc (.cells #[.int .i64 n] 3)) w2 → w2.cell? ⟨w.heap.size, 3, none⟩ = some (.slice p3 C.length q3)) := fun w2 hb => (hb.cell (p := ⟨w.heap.size, 3, none⟩) (xacZ hhf)).trans (xaaZ hhf 3)
  clear hB hhf hhn hF0 hw1
  by_cases h6 : 6 < L.length
  · have h6' : (6 : Int) < (L.length : Int) := by omega
    go_enter Tryz.func117, Tryz.ntmps117
    go_wp2
    go_ret
    exact ⟨by simp [fnErr, h6], hw⟩
  have h6' : ¬ (6 : Int) < (L.length : Int) := by omega
  by_cases hp0 : P < 0
  · go_enter Tryz.func117, Tryz.ntmps117
    go_wp2
    go_ret
    exact ⟨by simp [fnErr, h6, hp0], hw⟩
  have hp0' : decide (P < 0) = false := by simpa using hp0
  by_cases hp1 : (L.length : Int) < P
  · go_enter Tryz.func117, Tryz.ntmps117
    go_wp2
    go_ret
    exact ⟨by simp [fnErr, h6, hp1], hw⟩
  have hfe : fnErr (P, L, R, C) n = if xe3Z (P, L, R, C) = false then 6 else if C.length = 0 then 5 else if xa9Z C ≠ 0 then xa9Z C else if (C.all fun o => xbvZ o (P, L, R, C) n) = false then 3 else 0 := by
    simp only [fnErr]
    rw [if_neg h6, if_neg (show ¬ (P < 0 ∨ (L.length : Int) < P) from by omega)]
  rw [hfe]
  clear hfe
  cases ht : xe3Z (P, L, R, C)
  · go_enter Tryz.func117, Tryz.ntmps117
    go_wp2_with fail
    refine (xguZ _ _ _ _ _ _ HF.out).mono ?_
    rw [ht]
    rintro e w2 ⟨rfl, hb2⟩
    go_wp2
    go_ret
    exact ⟨rfl, hw.trans (hb2.mono hw.size)⟩
  rw [if_neg (by simp)]
  by_cases hc0 : C.length = 0
  · have hc0' : ((C.length : Int) == 0) = true := beq_iff_eq.2 (by omega)
    rw [if_pos hc0]
    have HC0 : Hid (C.length = 0) := hc0
    clear hc0
    go_enter Tryz.func117, Tryz.ntmps117
    go_wp2_with fail
    refine (xguZ _ _ _ _ _ _ HF.out).mono ?_
    rw [ht]
    rintro e w2 ⟨rfl, hb2⟩
    have a3 := HK.out w2 hb2
    go_wp2
    go_ret
    exact ⟨rfl, hw.trans (hb2.mono hw.size)⟩
  have hc0' : ((C.length : Int) == 0) = false := beq_eq_false_iff_ne.2 (by omega)
  rw [if_neg hc0]
  clear hc0
  by_cases hce : xa9Z C = 0
  · rw [if_neg (by simp [hce])]
    have HCE : Hid (xa9Z C = 0) := hce
    clear hce
    cases hn : (C.all fun o => xbvZ o (P, L, R, C) n)
    all_goals
      go_enter Tryz.func117, Tryz.ntmps117
      go_wp2_with fail
      refine (xguZ _ _ _ _ _ _ HF.out).mono ?_
      rw [ht]
      rintro e w2 ⟨rfl, hb2⟩
      have a3 := HK.out w2 hb2
      go_wp2_with fail
      refine (xgnZ C _ w2 ((HF.out.below hb2).2.2.2)).mono ?_
      rw [HCE.out]
      rintro e w3 ⟨T3, rfl, _, hb3⟩
      have hb23 := hb2.trans (hb3.mono hb2.size)
      have b3 := HK.out w3 hb23
      clear a3
      go_wp2_with fail
      refine (xi3Z C _ (P, L, R, C) n w.heap.size (w.heap.size + 1) w3 ((HF.out.below hb23).2.2.2) (HB.out.below hb23)).mono ?_
      rw [hn]
      rintro e w4 ⟨rfl, hb4⟩
      have hb4' := hb23.trans (hb4.mono hb23.size)
      go_wp2
      go_ret
      exact ⟨rfl, hw.trans (hb4'.mono hw.size)⟩
  · rw [if_pos hce]
    have hce' : (xa9Z C != 0) = true := by simp [hce]
    clear hce
    go_enter Tryz.func117, Tryz.ntmps117
    go_wp2_with fail
    refine (xguZ _ _ _ _ _ _ HF.out).mono ?_
    rw [ht]
    rintro e w2 ⟨rfl, hb2⟩
    have a3 := HK.out w2 hb2
    go_wp2_with fail
    refine (xgnZ C _ w2 ((HF.out.below hb2).2.2.2)).mono ?_
    rintro e w3 ⟨T3, rfl, _, hb3⟩
    have hb23 := hb2.trans (hb3.mono hb2.size)
    go_wp2
    go_ret
    exact ⟨rfl, hw.trans (hb23.mono hw.size)⟩
end Go.Proofs.YtmjjkenblfndgaaGreat


/- prog.Check. -/
namespace Go.Proofs.YtmjjkenblfndgaaGreat
open Go.RowKit
set_option linter.unusedSimpArgs false
set_option linter.unusedVariables false
theorem xh1Z (l : List Fn) (v : Value) (w : World) (h : FnsAt w v l) : Calls Tryz.prog 81 #[.agg #[v]] w fun e w' => e = .returned (.int .i64 (xanZ l)) ∧ Below w.heap.size w w' := by
  have hF := h
  obtain ⟨p, cap, rfl, hm, hc⟩ := h
  unfold maxLen at hm
  have hw : Below w.heap.size w (w.alloc (.cells #[.slice p l.length cap] 24)) := (Below.refl _ w).alloc (Nat.le_refl _) _
  have HBX : Hid (∀ w2, Below (w.alloc (.cells #[.slice p l.length cap] 24)).heap.size (w.alloc (.cells #[.slice p l.length cap] 24)) w2 → w2.cell? ⟨w.heap.size, 0, none⟩ = some (.slice p l.length cap)) := fun w2 hb => (hb.cell (p := ⟨w.heap.size, 0, none⟩) (by simp)).trans (xaaZ (World.alloc_heap_new w _) 0)
  have HC : Hid (∀ k f, l[k]? = some f → ∃ b off c0 c1 c2 c3, p = some ⟨b, off, none⟩ ∧ b < w.heap.size ∧ w.cell? ⟨b, off + k * 4, none⟩ = some c0 ∧ w.cell? ⟨b, off + k * 4 + 1, none⟩ = some c1 ∧ w.cell? ⟨b, off + k * 4 + 2, none⟩ = some c2 ∧ w.cell? ⟨b, off + k * 4 + 3, none⟩ = some c3 ∧ FnAt w c0 c1 c2 c3 f) := hc
  clear hc hF
  by_cases h0 : l.length = 0
  · have h0' : ((l.length : Int) == 0) = true := beq_iff_eq.2 (by omega)
    have HE : Hid (xanZ l = 5) := by show _ = _; simp [xanZ, h0]
    clear h0
    go_enter Tryz.func81, Tryz.ntmps81
    go_wp2
    go_ret
    exact ⟨by rw [HE.out]; rfl, hw⟩
  have h0' : ((l.length : Int) == 0) = false := beq_eq_false_iff_ne.2 (by omega)
  by_cases h5 : 5 < l.length
  · have h5' : (5 : Int) < (l.length : Int) := by omega
    have HE : Hid (xanZ l = 2) := by show _ = _; simp [xanZ, h0, h5]
    clear h0
    go_enter Tryz.func81, Tryz.ntmps81
    go_wp2
    go_ret
    exact ⟨by rw [HE.out]; rfl, hw⟩
  have h5' : ¬ (5 : Int) < (l.length : Int) := by omega
  have HE : Hid (xanZ l = if xddZ l.length l ≠ 0 then xddZ l.length l else xizZ l) := by
    show _ = _
    unfold xanZ
    rw [if_neg h0, if_neg h5]
  have hpos : 0 < l.length := by omega
  clear h0
  go_enter Tryz.func81, Tryz.ntmps81
  go_wp2
  go_loopw [4, 5, 19] (fun _ _ i wr => ∃ k : Nat, k ≤ l.length ∧ i = .int .i64 k ∧ (∀ f ∈ l.take k, fnErr f l.length = 0) ∧ Below (w.alloc (.cells #[.slice p l.length cap] 24)).heap.size (w.alloc (.cells #[.slice p l.length cap] 24)) wr) (fun _ _ i _ => l.length - (intOf i).toNat)
  case atStart => exact ⟨0, Nat.zero_le _, rfl, by simp, Below.refl _ _⟩
  case round =>
    obtain ⟨k, hk, rfl, hok, hbw⟩ := hrel
    have HK : Hid (∀ f ∈ l.take k, fnErr f l.length = 0) := hok
    clear hok
    have hbw0 := hw.trans (hbw.mono hw.size)
    have gb := HBX.out wr hbw
    have hsz : w.heap.size < wr.heap.size := by have := hbw.size; simp at this; omega
    by_cases hlt : k < l.length
    · obtain ⟨f, ho⟩ := xagZ hlt
      obtain ⟨b, off, c0, c1, c2, c3, rfl, hb, a0, a1, a2, a3, hf⟩ := HC.out k _ ho
      have g0 := (hbw0.cell (p := ⟨b, off + k * 4, none⟩) hb).trans a0
      have g1 := (hbw0.cell (p := ⟨b, off + k * 4 + 1, none⟩) hb).trans a1
      have g2 := (hbw0.cell (p := ⟨b, off + k * 4 + 2, none⟩) hb).trans a2
      have g3 := (hbw0.cell (p := ⟨b, off + k * 4 + 3, none⟩) hb).trans a3
      have hf2 := hf.below hbw0
      have HO : Hid (l[k]? = some f) := ho
      clear ho a0 a1 a2 a3
      have hff := hf
      obtain ⟨P, L, R, C⟩ := f
      obtain ⟨rfl, ⟨p1, q1, rfl, _, _⟩, rfl, ⟨p3, q3, rfl, _, _⟩⟩ := hff
      clear hf
      have hal : Below wr.heap.size wr (wr.alloc (.cells #[.int .i64 P, .slice p1 L.length q1, .int .i64 R, .slice p3 C.length q3] 119)) := (Below.refl _ wr).alloc (Nat.le_refl _) _
      have hf3 := hf2.below hal
      simp only at hf3
      by_cases he : fnErr (P, L, R, C) l.length = 0
      · have he' : (fnErr (P, L, R, C) l.length != 0) = false := by simp [he]
        have HEE : Hid (fnErr (P, L, R, C) l.length = 0) := he
        clear he
        go_wp2_with fail
        refine (xhvZ (P, L, R, C) l.length _ _ _ _ _ hf3).mono ?_
        rintro e w2 ⟨rfl, hb2⟩
        have hb3 := hbw.trans ((hal.trans (hb2.mono hal.size)).mono hbw.size)
        go_wp2
        go_roundw
        case rel => exact ⟨k + 1, by omega, by go_num, by
          rw [xazZ l k _ HO.out]; intro x hx; rcases List.mem_append.1 hx with hx | hx
          · exact HK.out x hx
          · simp at hx; subst hx; exact HEE.out, hb3⟩
        case measure => simp [intOf]; omega
      · have he' : (fnErr (P, L, R, C) l.length != 0) = true := by simp [he]
        go_wp2_with fail
        refine (xhvZ (P, L, R, C) l.length _ _ _ _ _ hf3).mono ?_
        rintro e w2 ⟨rfl, hb2⟩
        have hb3 := hbw.trans ((hal.trans (hb2.mono hal.size)).mono hbw.size)
        go_wp2
        go_ret
        refine ⟨?_, hw.trans (hb3.mono hw.size)⟩
        have := fnsErr_at l.length l k _ HO.out HK.out he
        rw [HE.out, this, if_pos he]
        rfl
    · have hlt' : ¬ (k : Int) < (l.length : Int) := by omega
      have hall := HK.out
      rw [List.take_of_length_le (by omega)] at hall
      have hfz := fnsErr_all l.length l hall
      obtain ⟨⟨P, L, R, C⟩, ho⟩ := xagZ hpos
      obtain ⟨b, off, c0, c1, c2, c3, rfl, hb, a0, a1, a2, a3, hf⟩ := HC.out 0 _ ho
      have g0 := (hbw0.cell (p := ⟨b, off + 0 * 4, none⟩) hb).trans a0
      have g2 := (hbw0.cell (p := ⟨b, off + 0 * 4 + 2, none⟩) hb).trans a2
      simp only [Nat.zero_mul, Nat.add_zero] at g0 g2
      obtain ⟨rfl, _, rfl, _⟩ := hf
      simp only at g0 g2
      have HE2 : Hid (xanZ l = if P ≠ 0 ∨ R ≠ 0 then 4 else 0) := by
        show _ = _
        rw [HE.out, hfz]
        cases l with
        | nil => simp at ho
        | cons x r => simp at ho; subst ho; simp [xizZ]
      have hpi : (0 : Int) < (l.length : Int) := by omega
      clear hall hfz ho a0 a1 a2 a3
      by_cases hP : P = 0
      · have hP' : (P != 0) = false := by simp [hP]
        by_cases hR : R = 0
        · have hR' : (R != 0) = false := by simp [hR]
          have HEE : Hid (xanZ l = 0) := by show _ = _; rw [HE2.out]; simp [hP, hR]
          clear hP hR
          go_wp2
          go_ret
          exact ⟨by rw [HEE.out]; rfl, hbw0⟩
        · have hR' : (R != 0) = true := by simp [hR]
          have HEE : Hid (xanZ l = 4) := by show _ = _; rw [HE2.out]; simp [hR]
          clear hP hR
          go_wp2
          go_ret
          exact ⟨by rw [HEE.out]; rfl, hbw0⟩
      · have hP' : (P != 0) = true := by simp [hP]
        have HEE : Hid (xanZ l = 4) := by show _ = _; rw [HE2.out]; simp [hP]
        clear hP
        go_wp2
        go_ret
        exact ⟨by rw [HEE.out]; rfl, hbw0⟩
end Go.Proofs.YtmjjkenblfndgaaGreat


/- putFunc and prog.Encode. -/
namespace Go.Proofs.YtmjjkenblfndgaaGreat
open Go.RowKit
set_option linter.unusedSimpArgs false
set_option linter.unusedVariables false
theorem xpvZ (n : Nat) (l : List Fn) (h : xddZ n l = 0) : ∀ f ∈ l, fnErr f n = 0 := by
  induction l with
  | nil => intro f hf; simp at hf
  | cons x r ih =>
    intro f hf
    rw [xddZ] at h
    by_cases hx : fnErr x n = 0
    · rw [if_pos hx] at h
      rcases List.mem_cons.1 hf with rfl | hf
      · exact hx
      · exact ih h f hf
    · rw [if_neg hx] at h; exact absurd h hx
theorem xe1Z {l : List Fn} (h : xanZ l = 0) : l.length ≠ 0 ∧ l.length ≤ 5 ∧ (∀ f ∈ l, fnErr f l.length = 0) ∧ xizZ l = 0 := by
  unfold xanZ at h
  by_cases h0 : l.length = 0
  · simp [h0] at h
  rw [if_neg h0] at h
  by_cases h5 : 5 < l.length
  · simp [h5] at h
  rw [if_neg h5] at h
  by_cases hf : xddZ l.length l = 0
  · rw [if_neg (by simp [hf])] at h
    exact ⟨h0, by omega, xpvZ _ l hf, h⟩
  · rw [if_pos hf] at h; exact absurd h hf
end Go.Proofs.YtmjjkenblfndgaaGreat


/- readFunc. -/
namespace Go.Proofs.YtmjjkenblfndgaaGreat
open Go.RowKit
set_option linter.unusedSimpArgs false
set_option linter.unusedVariables false
theorem xd0Z {P : Program} {ops : Array Oper} {o : Oper} {a : Act} {w : World} {K : Act → World → Prop} {Q : Exit → Act → World → Prop} {E : Prop}
    (hg : o.guard = none) (s x : Operand) (t : TypeId) (hop : o.op = Op.call { callee := Callee.builtin Builtin.append, args := #[s, x], argTypes := #[t, t] })
    (base : Nat) (e : TypeId) (i : TypeInfo) (z : Value) (size bytes : Nat) (h1 : P.underlying t = some (.slice e)) (h2 : P.info? e = some i) (h3 : i.zero = some z) (h4 : i.size = size) (h5 : i.bytes = bytes) (h6 : z.cells.size = size) (h7 : 0 < size)
    (v : Value) (n : Nat) (xs : List Value) (hs : a.eval s = v) (hown : w.ownsRow base e size v n xs)
    (ad : Addr) (m c : Nat) (news : List Value) (hx : a.eval x = .slice (some ad) m c) (hn : news.length = m * size) (hc : ∀ j u, news[j]? = some u → w.cell? (ad.add j) = some u) (h1c : ∀ u ∈ news, u.oneCell' = true)
    (b1 : n + m ≤ maxLen) (b2 : (n + m) * bytes ≤ 140737488355328) (hbase : base ≤ w.heap.size)
    (hK : ∀ v' w', w'.ownsRow base e size v' (n + m) (xs ++ news) → w.grownBy w' v.ownBlock → K (a.put o.dst v') w') :
    if Region.wanted o (yielded ops a.tmps) = true then Oper.wp P o a w K Q else E := by
  have hw : Region.wanted o (yielded ops a.tmps) = true := by simp [Region.wanted, hg]
  rw [if_pos hw]
  obtain ⟨v', w', hrun, r1, r2, _⟩ := run_append_own (P := P) w base t o.type e i z size bytes h1 h2 h3 h4 h5 h6 h7 v n xs hown ad m c news hn hc h1c b1 b2 hbase
  unfold Oper.wp
  simp [execOp, hop, resolve, invoke, builtin, hs, hx, hrun, Result.andThen]
  exact hK v' w' r1 r2
theorem hideP {p : Prop} (h : p) : Hid p := h
theorem xaiZ {w : World} {base : Nat} {e : TypeId} {size : Nat} {v : Value} {n : Nat} {xs : List Value} (h : w.ownsRow base e size v n xs) : ∃ p cap, v = .slice p n cap := by
  rcases h.2 with ⟨rfl, h0⟩ | ⟨g, cap, cur, rfl, _⟩
  · exact ⟨none, 0, by rw [h0]⟩
  · exact ⟨_, _, rfl⟩
theorem xabZ {w : World} {a : Addr} {v : Value} (h : w.cell? a = some v) (o : Obj) : (w.alloc o).cell? a = some v := by
  have hlt : a.block < w.heap.size := by
    rcases Nat.lt_or_ge a.block w.heap.size with h' | h'
    · exact h'
    · simp [World.cell?, Array.getElem?_eq_none h'] at h
  exact (World.cell?_of_block (w := w) (Below.heap_alloc w o a.block hlt)).trans h
theorem xgyZ (w : World) (b : Nat) : w.grownBy w.drew (some b) := ⟨rfl, rfl, rfl, Nat.le_refl _, fun _ _ _ => rfl⟩
theorem xknZ {w W W' : World} {b : Nat} {row : Option Nat} (h : w.grownBy W (some b)) (k : W.grownBy W' row) (hr : ∀ j, row = some j → w.heap.size ≤ j) : w.grownBy W' (some b) :=
  ⟨k.os.trans h.os, k.tape.trans h.tape, k.output.trans h.output, Nat.le_trans h.size k.size, fun j hj hne => (k.block j (Nat.lt_of_lt_of_le hj h.size) (fun e => by have := hr j e.symm; omega)).trans (h.block j hj hne)⟩
theorem xboZ {w : World} {base : Nat} {e t : TypeId} {size : Nat} {v : Value} {n : Nat} {xs : List Value} {c : Array Value} {fz : Nat × Nat} {k : Nat} (h : w.ownsRow base e size v n xs) (hk : w.heap[k]? = some (.cells c t fz)) (hte : t ≠ e) : (some k : Option Nat) ≠ v.ownBlock := fun e1 => by
  rcases h.2 with ⟨hv, _⟩ | ⟨g, cap, cur, hv, hbg, hgg, _⟩
  · rw [hv] at e1; simp [Value.ownBlock] at e1
  · rw [hv] at e1
    obtain rfl : k = g := by simpa [Value.ownBlock] using e1
    rw [hk] at hgg; cases hgg; exact hte rfl
theorem xbaZ {W : World} {base : Nat} {v : Value} {l : List Int} {n : Nat} (hn : n = l.length) (h : W.ownsRow base 3 1 v n (l.map (Value.int .i64))) : IntsAt W v l := by
  subst hn
  rcases h.2 with ⟨rfl, h0⟩ | ⟨g, cap, cur, rfl, hb, hg, hn, hc, hs, ht⟩
  · refine ⟨none, 0, by rw [h0], by rw [h0]; exact Nat.zero_le _, fun k o hk => ?_⟩
    have := xciZ hk
    omega
  · refine ⟨_, cap, rfl, by omega, fun k o hk => ⟨g, 0, rfl, (Array.getElem?_eq_some_iff.1 hg).1, ?_⟩⟩
    have hk2 := xciZ hk
    have : (l.map (Value.int .i64))[k]? = some (.int .i64 o) := by simp [hk]
    rw [← ht, List.getElem?_take_of_lt (by omega)] at this
    rw [xaaZ hg]; simpa using this
theorem xe9Z : (Tryz.prog.info? 3).map (fun i => (i.zero, i.size, i.bytes)) = some (some (.int .i64 0), 1, 8) := by kernel_rfl
end Go.Proofs.YtmjjkenblfndgaaGreat


/- Plain functions on where code goes on (chapter 3), ahead of stage 2: what Next, Back and Reach should tell, and how a set of places is known to be Reach's. -/
namespace Go.Proofs.YtmjjkenblfndgaaGreat
open Go.RowKit
set_option linter.unusedSimpArgs false
set_option linter.unusedVariables false
def goesOn (code : List (Int × Int)) (pc to : Nat) : Bool :=
  match code[pc]? with
  | none => false
  | some o => if o.1 = 13 then false else if o.1 = 10 then decide ((to : Int) = o.2) else if o.1 = 11 then decide (to = pc + 1) || decide ((to : Int) = o.2) else decide (to = pc + 1)
def badTo (n : Nat) (o : Int × Int) : Bool := (o.1 == 10 || o.1 == 11) && !(decide (0 ≤ o.2) && decide (o.2 < (n : Int)))
def flowErr (code : List (Int × Int)) : Int := if xa9Z code ≠ 0 then xa9Z code else if code.length = 0 then 5 else if code.any (badTo code.length) = true then 3 else 0
def xdzZ (code : List (Int × Int)) (pc : Int) : Int := if flowErr code ≠ 0 then flowErr code else if pc < 0 ∨ (code.length : Int) ≤ pc then 3 else 0
def nextL (code : List (Int × Int)) (pc : Nat) : List Nat := (List.range (code.length + 1)).filter (goesOn code pc)
inductive Come (code : List (Int × Int)) : Nat → Prop
  | zero : Come code 0
  | step {pc to : Nat} : Come code pc → goesOn code pc to = true → Come code to
open Classical in
noncomputable def reachL (code : List (Int × Int)) : List Nat := (List.range (code.length + 1)).filter fun x => decide (Come code x)
theorem xl3Z {code : List (Int × Int)} {pc to : Nat} (h : goesOn code pc to = true) : pc < code.length := by
  rcases Nat.lt_or_ge pc code.length with h' | h'
  · exact h'
  · simp [goesOn, List.getElem?_eq_none h'] at h
theorem xbfZ {code : List (Int × Int)} (h : flowErr code = 0) : xa9Z code = 0 ∧ code.length ≠ 0 ∧ ∀ o ∈ code, badTo code.length o = false := by
  unfold flowErr at h
  by_cases h1 : xa9Z code = 0
  · rw [if_neg (by simp [h1])] at h
    by_cases h2 : code.length = 0
    · rw [if_pos h2] at h; cases h
    · rw [if_neg h2] at h
      by_cases h3 : code.any (badTo code.length) = true
      · rw [if_pos h3] at h; cases h
      · refine ⟨h1, h2, fun o ho => ?_⟩
        cases hb : badTo code.length o
        · rfl
        · exact absurd (List.any_eq_true.2 ⟨o, ho, hb⟩) h3
  · rw [if_pos h1] at h; exact absurd h h1
theorem xfpZ {code : List (Int × Int)} (hc : ∀ o ∈ code, badTo code.length o = false) {pc to : Nat} (h : goesOn code pc to = true) : to ≤ code.length := by
  have hp := xl3Z h
  have ho := List.getElem?_eq_getElem hp
  have hb := hc _ (List.getElem_mem hp)
  simp only [goesOn, ho] at h
  by_cases h13 : code[pc].1 = 13
  · simp [h13] at h
  rw [if_neg h13] at h
  by_cases h10 : code[pc].1 = 10
  · rw [if_pos h10] at h
    simp [badTo, h10] at hb h
    omega
  rw [if_neg h10] at h
  by_cases h11 : code[pc].1 = 11
  · rw [if_pos h11] at h
    simp [badTo, h11] at hb h
    omega
  · rw [if_neg h11] at h
    simp at h
    omega
theorem come_le {code : List (Int × Int)} (hc : ∀ o ∈ code, badTo code.length o = false) {x : Nat} (h : Come code x) : x ≤ code.length := by
  cases h with
  | zero => omega
  | step _ h2 => exact xfpZ hc h2
theorem come_iff {code : List (Int × Int)} (M : Nat → Prop) (h0 : M 0) (hs : ∀ x, M x → Come code x) (hc : ∀ pc to, M pc → goesOn code pc to = true → M to) (x : Nat) : M x ↔ Come code x := by
  refine ⟨hs x, fun h => ?_⟩
  induction h with
  | zero => exact h0
  | step _ h2 ih => exact hc _ _ ih h2
theorem xijZ {code : List (Int × Int)} (hc : ∀ o ∈ code, badTo code.length o = false) {pc to : Nat} : to ∈ nextL code pc ↔ goesOn code pc to = true := by
  simp only [nextL, List.mem_filter, List.mem_range]
  exact ⟨fun h => h.2, fun h => ⟨by have := xfpZ hc h; omega, h⟩⟩
theorem xktZ {code : List (Int × Int)} (hc : ∀ o ∈ code, badTo code.length o = false) {x : Nat} : x ∈ reachL code ↔ Come code x := by
  simp only [reachL, List.mem_filter, List.mem_range, decide_eq_true_eq]
  exact ⟨fun h => h.2, fun h => ⟨by have := come_le hc h; omega, h⟩⟩
open Classical in
/-- .. as lists: what tells the places of a set, rising, is Reach's. -/
theorem reachL_eq {code : List (Int × Int)} (M : Nat → Bool) (h0 : M 0 = true) (hs : ∀ x, M x = true → Come code x) (hc : ∀ pc to, M pc = true → goesOn code pc to = true → M to = true) : (List.range (code.length + 1)).filter M = reachL code := by
  unfold reachL
  refine List.filter_congr fun x _ => ?_
  have := come_iff (fun x => M x = true) h0 hs hc x
  rw [Bool.eq_iff_iff, decide_eq_true_iff]
  exact this
end Go.Proofs.YtmjjkenblfndgaaGreat


/- flow.isPlace, flow.check. -/
namespace Go.Proofs.YtmjjkenblfndgaaGreat
open Go.RowKit
set_option linter.unusedSimpArgs false
set_option linter.unusedVariables false
def isAt (n : Nat) (pc : Int) : Bool := decide (0 ≤ pc) && decide (pc < (n : Int))
theorem xdyZ (pc : Int) (l : List (Int × Int)) (v : Value) (w : World) (h : OpsAt w v l) : Calls Tryz.prog 215 #[.int .i64 pc, v] w fun e w' => e = .returned (.bool (isAt l.length pc)) ∧ w' = w := by
  obtain ⟨p, cap, rfl, hm, hc⟩ := h
  unfold maxLen at hm
  clear hc
  by_cases h0 : 0 ≤ pc
  · have h0' : decide (pc ≥ 0) = true := by simpa using h0
    by_cases h1 : pc < (l.length : Int)
    all_goals
      go_enter Tryz.func215, Tryz.ntmps215
      go_wp2
      go_ret
      exact ⟨by simp [isAt, h0, h1], rfl⟩
  · have h0' : decide (pc ≥ 0) = false := by simpa using h0
    go_enter Tryz.func215, Tryz.ntmps215
    go_wp2
    go_ret
    exact ⟨by simp only [isAt]; rw [decide_eq_false (by omega)]; rfl, rfl⟩
def CodeBox (w : World) (bc : Nat) (l : List (Int × Int)) : Prop := ∃ v, bc < w.heap.size ∧ w.cell? ⟨bc, 0, none⟩ = some v ∧ OpsAt w v l
theorem CodeBox.below {w w' : World} {bc : Nat} {l : List (Int × Int)} (h : CodeBox w bc l) (hb : Below w.heap.size w w') : CodeBox w' bc l := by
  obtain ⟨v, h1, h2, h3⟩ := h
  exact ⟨v, Nat.lt_of_lt_of_le h1 hb.size, (hb.cell (p := ⟨bc, 0, none⟩) h1).trans h2, h3.below hb⟩
theorem xg5Z (c a : Int) (l : List (Int × Int)) (bc : Nat) (w : World) (h : CodeBox w bc l) : Calls Tryz.prog 233 #[.agg #[.int .i64 c, .int .i64 a], .pointer (some ⟨bc, 0, none⟩)] w fun e w' => e = .returned (.bool (badTo l.length (c, a))) ∧ Below w.heap.size w w' := by
  have hw : Below w.heap.size w (w.alloc (.cells #[.int .i64 c, .int .i64 a] 86)) := (Below.refl _ w).alloc (Nat.le_refl _) _
  obtain ⟨v, h1, h2, h3⟩ := h.below hw
  have h3' := h3
  obtain ⟨p, q, rfl, _, _⟩ := h3'
  by_cases h10 : c = 10
  · subst h10
    go_enter Tryz.func233, Tryz.ntmps233
    go_wp2_with (go_at_call 215; refine (xdyZ a l _ _ h3).mono ?_; rintro e w2 ⟨rfl, hw2⟩; have hw2 := hw2.symm; subst hw2)
    go_ret
    exact ⟨by simp [badTo, isAt], hw⟩
  · have h10' : (c == 10) = false := by simp [h10]
    by_cases h11 : c = 11
    · subst h11
      go_enter Tryz.func233, Tryz.ntmps233
      go_wp2_with (go_at_call 215; refine (xdyZ a l _ _ h3).mono ?_; rintro e w2 ⟨rfl, hw2⟩; have hw2 := hw2.symm; subst hw2)
      go_ret
      exact ⟨by simp [badTo, isAt], hw⟩
    · have h11' : (c == 11) = false := by simp [h11]
      go_enter Tryz.func233, Tryz.ntmps233
      go_wp2
      go_ret
      exact ⟨by simp [badTo, h10, h11], hw⟩
theorem xodZ (l : List (Int × Int)) (v : Value) (m : List (Int × Int)) (bc : Nat) (w : World) (h : OpsAt w v l) (hB : CodeBox w bc m) : Calls Tryz.prog 200 #[v, .func (.func 233) #[] #[.pointer (some ⟨bc, 0, none⟩)]] w fun e w' => ∃ r, e = .returned (.int .i64 r) ∧ decide (0 ≤ r) = (!l.all fun o => !badTo m.length o) ∧ Below w.heap.size w w' := by
  obtain ⟨p, cap, rfl, hm, hc⟩ := h
  unfold maxLen at hm
  go_enter Tryz.func200, Tryz.ntmps200
  go_wp2
  go_loopw [5, 8] (fun _ i wr => ∃ k : Nat, k ≤ l.length ∧ i = .int .i64 k ∧ (∀ o ∈ l.take k, (!badTo m.length o) = true) ∧ Below w.heap.size w wr) (fun _ i _ => l.length - (intOf i).toNat)
  case atStart => exact ⟨0, Nat.zero_le _, rfl, by simp, Below.refl _ _⟩
  case round =>
    obtain ⟨k, hk, rfl, hok, hbw⟩ := hrel
    have HK : Hid (∀ o ∈ l.take k, (!badTo m.length o) = true) := hok
    clear hok
    have HC : Hid (∀ k o, l[k]? = some o → ∃ b off, p = some ⟨b, off, none⟩ ∧ b < w.heap.size ∧ w.cell? ⟨b, off + k * 2, none⟩ = some (.int .i64 o.1) ∧ w.cell? ⟨b, off + k * 2 + 1, none⟩ = some (.int .i64 o.2)) := hc
    clear hc
    by_cases hlt : k < l.length
    · obtain ⟨⟨c, a⟩, ho⟩ := xagZ hlt
      obtain ⟨b, off, rfl, hb, h0, h1⟩ := HC.out k _ ho
      have g0 := (hbw.cell (p := ⟨b, off + k * 2, none⟩) hb).trans h0
      have g1 := (hbw.cell (p := ⟨b, off + k * 2 + 1, none⟩) hb).trans h1
      have hBr := hB.below hbw
      have HO : Hid (l[k]? = some (c, a)) := ho
      clear ho h0 h1
      cases hnb : badTo m.length (c, a)
      · go_wp2_with (go_at_call 233; refine (xg5Z c a m bc _ hBr).mono ?_; rintro e w2 ⟨rfl, hb2⟩)
        go_roundw
        case rel => exact ⟨k + 1, by omega, by go_num, xc0Z HK.out HO.out (by rw [hnb]; rfl), hbw.trans (hb2.mono hbw.size)⟩
        case measure => simp [intOf]; omega
      · go_wp2_with (go_at_call 233; refine (xg5Z c a m bc _ hBr).mono ?_; rintro e w2 ⟨rfl, hb2⟩)
        go_ret
        exact ⟨k, rfl, by rw [xcvZ HO.out (by rw [hnb]; rfl)]; simp, hbw.trans (hb2.mono hbw.size)⟩
    · have hlt' : ¬ (k : Int) < (l.length : Int) := by omega
      go_wp2
      go_ret
      refine ⟨-1, rfl, ?_, hbw⟩
      have := HK.out
      rw [List.take_of_length_le (by omega)] at this
      rw [xc1Z this]; decide
theorem xgkZ (l : List (Int × Int)) (v : Value) (bc : Nat) (w : World) (h : OpsAt w v l) (hB : CodeBox w bc l) : Calls Tryz.prog 153 #[v, .func (.func 233) #[] #[.pointer (some ⟨bc, 0, none⟩)]] w fun e w' => e = .returned (.bool (l.any (badTo l.length))) ∧ Below w.heap.size w w' := by
  go_enter Tryz.func153, Tryz.ntmps153
  go_wp2_with fail
  refine (xodZ l v l bc _ h hB).mono ?_
  rintro e w2 ⟨r, rfl, hr, hb2⟩
  have hr2 : decide (0 ≤ r) = l.any (badTo l.length) := by rw [hr, List.not_all_eq_any_not]; simp
  have HR := hideP hr2
  clear hr hr2
  go_wp2
  go_ret
  exact ⟨by rw [← HR.out]; rfl, hb2⟩
theorem xduZ (l : List (Int × Int)) (v : Value) (w : World) (h : OpsAt w v l) : Calls Tryz.prog 214 #[v] w fun e w' => e = .returned (.int .i64 (flowErr l)) ∧ Below w.heap.size w w' := by
  have h' := h
  obtain ⟨p, cap, rfl, hm, _⟩ := h'
  unfold maxLen at hm
  obtain ⟨W1, hW1⟩ : ∃ W1, w.alloc (.cells #[.slice p l.length cap] 117) = W1 := ⟨_, rfl⟩
  have hw : Below w.heap.size w W1 := by rw [← hW1]; exact (Below.refl _ w).alloc (Nat.le_refl _) _
  have hh : W1.heap[w.heap.size]? = some (.cells #[.slice p l.length cap] 117 (0, 0)) := by rw [← hW1]; exact World.alloc_heap_new w _
  have hB : CodeBox W1 w.heap.size l := ⟨_, xacZ hh, by have := xaaZ hh 0; simpa using this, h.below hw⟩
  have c1 : W1.cell? ⟨w.heap.size, 0, none⟩ = some (.slice p l.length cap) := by have := xaaZ hh 0; simpa using this
  have HH := hideP hh
  clear hh
  by_cases hc : xa9Z l = 0
  · go_enter Tryz.func214, Tryz.ntmps214
    go_wp2_with fail
    refine (xgnZ l _ _ (h.below hw)).mono ?_
    rintro e w2 ⟨T, rfl, hT, hb2⟩
    have hB2 := hB.below hb2
    have hb02 := hw.trans (hb2.mono hw.size)
    have c2 : w2.cell? ⟨w.heap.size, 0, none⟩ = some (.slice p l.length cap) := (hb2.cell (p := ⟨w.heap.size, 0, none⟩) (xacZ HH.out)).trans c1
    clear hT
    rw [hc]
    by_cases hl : l.length = 0
    · have hl' : (l.length : Int) = 0 := by omega
      go_wp2
      go_ret
      exact ⟨by simp [flowErr, hc, hl], hb02⟩
    · have hl' : ((l.length : Int) == 0) = false := by simp; simpa using hl
      have HL := hideP hl
      clear hl
      cases ha : l.any (badTo l.length)
      · go_wp2_with (go_at_call 153; refine (xgkZ l _ _ _ (h.below hb02) hB2).mono ?_; rw [ha]; rintro e w3 ⟨rfl, hb3⟩)
        go_ret
        exact ⟨by simp only [flowErr, hc, HL.out, ha]; rfl, hb02.trans (hb3.mono hb02.size)⟩
      · go_wp2_with (go_at_call 153; refine (xgkZ l _ _ _ (h.below hb02) hB2).mono ?_; rw [ha]; rintro e w3 ⟨rfl, hb3⟩)
        go_ret
        exact ⟨by simp only [flowErr, hc, HL.out, ha]; rfl, hb02.trans (hb3.mono hb02.size)⟩
  · have hc' : (xa9Z l != 0) = true := by simp [hc]
    go_enter Tryz.func214, Tryz.ntmps214
    go_wp2_with fail
    refine (xgnZ l _ _ (h.below hw)).mono ?_
    rintro e w2 ⟨T, rfl, hT, hb2⟩
    have HC := hideP hc
    clear hc hT
    go_wp2
    go_ret
    exact ⟨by rw [flowErr, if_pos HC.out]; rfl, hw.trans (hb2.mono hw.size)⟩
end Go.Proofs.YtmjjkenblfndgaaGreat


/- slices.Sort and slices.Compact at numbers: contracts of the library, laid at this program (layings and applications alone). -/
namespace Go.Proofs
open Go.Shelf
def Tryz.lays189_ren : Go.Shelf.Ren := ⟨fun | 189 => 241 | 125 => 244 | 257 => 243 | 128 => 254 | 129 => 255 | 294 => 245 | 295 => 246 | 296 => 247 | 297 => 248 | 298 => 249 | 299 => 250 | 216 => 251 | 300 => 252 | 301 => 253 | 328 => 256 | 329 => 257 | 330 => 258 | 331 => 259 | 332 => 260 | 215 => 261 | 343 => 262 | n => n, fun | 28 => 46 | 3 => 3 | 46 => 173 | 0 => 0 | 51 => 267 | 53 => 269 | 4 => 4 | 183 => 260 | 182 => 259 | 131 => 264 | 5 => 5 | 9 => 9 | 218 => 270 | 222 => 274 | 228 => 276 | 229 => 277 | n => n, fun | n => n⟩
theorem Tryz.lays189 : Go.Proofs.Lays.n189 Tryz.prog Tryz.lays189_ren := {
  mixed := by kernel_rfl
  f125 := Tryz.func244.trans (congrArg some (by kernel_rfl))
  f128 := Tryz.func254.trans (congrArg some (by kernel_rfl))
  f129 := Tryz.func255.trans (congrArg some (by kernel_rfl))
  f189 := Tryz.func241.trans (congrArg some (by kernel_rfl))
  f215 := Tryz.func261.trans (congrArg some (by kernel_rfl))
  f216 := Tryz.func251.trans (congrArg some (by kernel_rfl))
  f257 := Tryz.func243.trans (congrArg some (by kernel_rfl))
  f294 := Tryz.func245.trans (congrArg some (by kernel_rfl))
  f295 := Tryz.func246.trans (congrArg some (by kernel_rfl))
  f296 := Tryz.func247.trans (congrArg some (by kernel_rfl))
  f297 := Tryz.func248.trans (congrArg some (by kernel_rfl))
  f298 := Tryz.func249.trans (congrArg some (by kernel_rfl))
  f299 := Tryz.func250.trans (congrArg some (by kernel_rfl))
  f300 := Tryz.func252.trans (congrArg some (by kernel_rfl))
  f301 := Tryz.func253.trans (congrArg some (by kernel_rfl))
  f328 := Tryz.func256.trans (congrArg some (by kernel_rfl))
  f329 := Tryz.func257.trans (congrArg some (by kernel_rfl))
  f330 := Tryz.func258.trans (congrArg some (by kernel_rfl))
  f331 := Tryz.func259.trans (congrArg some (by kernel_rfl))
  f332 := Tryz.func260.trans (congrArg some (by kernel_rfl))
  f343 := Tryz.func262.trans (congrArg some (by kernel_rfl))
  t0 := Tryz.underlying0
  a0 := Tryz.isAgg0
  z0 := Tryz.sizeOf0
  v0 := Tryz.zeroValue0
  t3 := Tryz.underlying3
  a3 := Tryz.isAgg3
  z3 := Tryz.sizeOf3
  v3 := Tryz.zeroValue3
  t4 := Tryz.underlying4
  a4 := Tryz.isAgg4
  z4 := Tryz.sizeOf4
  v4 := Tryz.zeroValue4
  t5 := Tryz.underlying5
  a5 := Tryz.isAgg5
  z5 := Tryz.sizeOf5
  v5 := Tryz.zeroValue5
  t9 := Tryz.underlying9
  a9 := Tryz.isAgg9
  z9 := Tryz.sizeOf9
  v9 := Tryz.zeroValue9
  t28 := Tryz.underlying46
  a28 := Tryz.isAgg46
  z28 := Tryz.sizeOf46
  v28 := Tryz.zeroValue46
  t46 := Tryz.underlying173
  a46 := Tryz.isAgg173
  z46 := Tryz.sizeOf173
  v46 := Tryz.zeroValue173
  t51 := Tryz.underlying267
  a51 := Tryz.isAgg267
  z51 := Tryz.sizeOf267
  v51 := Tryz.zeroValue267
  t53 := Tryz.underlying269
  a53 := Tryz.isAgg269
  z53 := Tryz.sizeOf269
  v53 := Tryz.zeroValue269
  t131 := Tryz.underlying264
  a131 := Tryz.isAgg264
  z131 := Tryz.sizeOf264
  v131 := Tryz.zeroValue264
  t182 := Tryz.underlying259
  a182 := Tryz.isAgg259
  z182 := Tryz.sizeOf259
  v182 := Tryz.zeroValue259
  t183 := Tryz.underlying260
  a183 := Tryz.isAgg260
  z183 := Tryz.sizeOf260
  v183 := Tryz.zeroValue260
  t218 := Tryz.underlying270
  a218 := Tryz.isAgg270
  z218 := Tryz.sizeOf270
  v218 := Tryz.zeroValue270
  t222 := Tryz.underlying274
  a222 := Tryz.isAgg274
  z222 := Tryz.sizeOf274
  v222 := Tryz.zeroValue274
  t228 := Tryz.underlying276
  a228 := Tryz.isAgg276
  z228 := Tryz.sizeOf276
  v228 := Tryz.zeroValue276
  t229 := Tryz.underlying277
  a229 := Tryz.isAgg277
  z229 := Tryz.sizeOf277
  v229 := Tryz.zeroValue277 }
open Go.Sort Go.RowKit in
theorem Tryz.slices_Sort_int (blk off cap : Nat) (zs : List Int) (w : World) (hH : Holds (Value.int .i64) w blk off zs.toArray) (hblk : blk < w.heap.size) (hsz : zs.length < 4611686018427387904) :
    Calls Tryz.prog 241 #[.slice (some ⟨blk, off, none⟩) zs.length cap] w fun e w' =>
      e = .returned (.tuple #[]) ∧ ∃ n os, w' = grow (putRow (Value.int .i64) (Sort.ahead w n) blk off (zs.mergeSort fun x y => decide (x ≤ y)).toArray) os := Any.slices_Sort_int Tryz.lays189 blk off cap zs w hH hblk hsz
def Tryz.laysNm220_ren : Go.Shelf.Ren := ⟨fun | 20 => 242 | n => n, fun | 22 => 46 | 3 => 3 | 4 => 4 | 0 => 0 | n => n, fun | n => n⟩
theorem Tryz.laysNm220 : Go.Proofs.Lays2.n20 Tryz.prog Tryz.laysNm220_ren := {
  mixed := by kernel_rfl
  f20 := Tryz.func242.trans (congrArg some (by kernel_rfl))
  t0 := Tryz.underlying0
  a0 := Tryz.isAgg0
  z0 := Tryz.sizeOf0
  v0 := Tryz.zeroValue0
  t3 := Tryz.underlying3
  a3 := Tryz.isAgg3
  z3 := Tryz.sizeOf3
  v3 := Tryz.zeroValue3
  t4 := Tryz.underlying4
  a4 := Tryz.isAgg4
  z4 := Tryz.sizeOf4
  v4 := Tryz.zeroValue4
  t22 := Tryz.underlying46
  a22 := Tryz.isAgg46
  z22 := Tryz.sizeOf46
  v22 := Tryz.zeroValue46
  i3 := by kernel_rfl }
open Go.RowKit Go.Lib Go.Sort in
theorem Tryz.slices_Compact_int (blk off cap : Nat) (zs : List Int) (w : World) (hH : Holds (Value.int .i64) w blk off zs.toArray) (hsz : zs.length ≤ 9223372036854775807) (hcap : zs.length ≤ cap) :
    Calls Tryz.prog 242 #[.slice (some ⟨blk, off, none⟩) zs.length cap] w fun e w' => e = .returned (.slice (some ⟨blk, off, none⟩) (Lib.compact zs).length cap) ∧ ∃ q, w' = putRow (Value.int .i64) (Sort.ahead w q) blk off (Lib.compact zs ++ List.replicate (zs.length - (Lib.compact zs).length) 0).toArray := Any.slices_Compact_int Tryz.laysNm220 blk off cap zs w hH hsz hcap
end Go.Proofs


/- slices.Index and slices.Contains at numbers; flow.rising, flow.next. -/
namespace Go.Proofs.YtmjjkenblfndgaaGreat
open Go.RowKit
set_option linter.unusedSimpArgs false
set_option linter.unusedVariables false
theorem xoeZ (l : List Int) (x : Int) (v : Value) (w : World) (h : IntsAt w v l) : Calls Tryz.prog 230 #[v, .int .i64 x] w fun e w' => ∃ r, e = .returned (.int .i64 r) ∧ decide (0 ≤ r) = (!l.all fun z => !(z == x)) ∧ w' = w := by
  obtain ⟨p, cap, rfl, hm, hc⟩ := h
  unfold maxLen at hm
  go_enter Tryz.func230, Tryz.ntmps230
  go_wp2
  go_loopw [5, 8] (fun _ i wr => ∃ k : Nat, k ≤ l.length ∧ i = .int .i64 k ∧ (∀ o ∈ l.take k, (!(o == x)) = true) ∧ wr = w) (fun _ i _ => l.length - (intOf i).toNat)
  case atStart => exact ⟨0, Nat.zero_le _, rfl, by simp, rfl⟩
  case round =>
    obtain ⟨k, hk, rfl, hok, hbw⟩ := hrel
    subst hbw
    have HK : Hid (∀ o ∈ l.take k, (!(o == x)) = true) := hok
    clear hok
    have HC := hideP hc
    clear hc
    by_cases hlt : k < l.length
    · obtain ⟨z, ho⟩ := xagZ hlt
      obtain ⟨b, off, rfl, hb, h0⟩ := HC.out k _ ho
      have HO : Hid (l[k]? = some z) := ho
      clear ho
      cases hnb : (z == x)
      · have hnb' : (x == z) = false := by rw [Bool.eq_false_iff] at hnb ⊢; intro h; simp at h hnb; exact hnb h.symm
        go_wp2
        go_roundw
        case rel => exact ⟨k + 1, by omega, by go_num, xc0Z HK.out HO.out (by rw [hnb]; rfl), trivial⟩
        case measure => simp [intOf]; omega
      · obtain rfl : z = x := by simpa using hnb
        go_wp2
        go_ret
        exact ⟨k, rfl, by rw [xcvZ HO.out (by rw [hnb]; rfl)]; simp, rfl⟩
    · have hlt' : ¬ (k : Int) < (l.length : Int) := by omega
      go_wp2
      go_ret
      refine ⟨-1, rfl, ?_, rfl⟩
      have := HK.out
      rw [List.take_of_length_le (by omega)] at this
      rw [xc1Z this]; decide
theorem xgmZ (l : List Int) (x : Int) (v : Value) (w : World) (h : IntsAt w v l) : Calls Tryz.prog 207 #[v, .int .i64 x] w fun e w' => e = .returned (.bool (decide (x ∈ l))) ∧ w' = w := by
  go_enter Tryz.func207, Tryz.ntmps207
  go_wp2_with fail
  refine (xoeZ l x v _ h).mono ?_
  rintro e w2 ⟨r, rfl, hr, hw⟩
  have hw := hw.symm
  subst hw
  have hr2 : decide (0 ≤ r) = decide (x ∈ l) := by
    rw [hr, List.not_all_eq_any_not, Bool.eq_iff_iff]
    simp
  have HR := hideP hr2
  clear hr hr2
  go_wp2
  go_ret
  exact ⟨by rw [← HR.out]; rfl, rfl⟩
theorem xaoZ {W W' : World} {base : Nat} {e : TypeId} {size : Nat} {v : Value} {n : Nat} {xs : List Value} (h : W.ownsRow base e size v n xs) (hk : ∀ k, v.ownBlock = some k → W'.heap[k]? = W.heap[k]?) : W'.ownsRow base e size v n xs := by
  refine ⟨h.1, ?_⟩
  rcases h.2 with h | ⟨g, cap, cur, rfl, hb, hg, r⟩
  · exact .inl h
  · exact .inr ⟨g, cap, cur, rfl, hb, (hk g rfl).trans hg, r⟩
def rise (a b : Int) : List Int := if a = b then [a] else if a < b then [a, b] else [b, a]
theorem sort_two (a b : Int) : [a, b].mergeSort (fun x y => decide (x ≤ y)) = if a ≤ b then [a, b] else [b, a] := by
  by_cases h : a ≤ b
  · rw [if_pos h]
    exact List.mergeSort_of_pairwise (by simpa using h)
  · rw [if_neg h]
    have hp := List.mergeSort_perm [a, b] (fun x y => decide (x ≤ y))
    have hs := List.pairwise_mergeSort (le := fun x y : Int => decide (x ≤ y)) (by intro x y z; simp; omega) (by intro x y; simp; omega) [a, b]
    have hq : [b, a].Pairwise fun x y : Int => (decide (x ≤ y)) = true := by simp; omega
    have hp2 : ([a, b].mergeSort (fun x y => decide (x ≤ y))).Perm [b, a] := hp.trans (List.Perm.swap b a [])
    exact hp2.eq_of_pairwise (fun x y _ _ h1 h2 => by simp at h1 h2; omega) hs hq
theorem xpnZ (a b : Int) : Lib.compact [a, b] = if a = b then [a] else [a, b] := by
  by_cases h : a = b
  · subst h; simp [Lib.compact, Lib.compactUpTo, Lib.keeps, List.range_succ]
  · have h' : b ≠ a := fun e => h e.symm
    rw [if_neg h]
    simp [Lib.compact, Lib.compactUpTo, Lib.keeps, List.range_succ, h']
theorem xg7Z (w : World) (B : Nat) (f : Array Value → Array Value) (n : Nat) : w.grownBy (Sort.mapBlock (Sort.ahead w n) B f) (some B) :=
  ⟨rfl, rfl, rfl, by simp [Sort.mapBlock, Sort.ahead], fun k hk hne => by
    have hne' : ¬ B = k := fun e => hne (by rw [e])
    simp [Sort.mapBlock, Sort.ahead, Array.getElem?_modify, hne']⟩
theorem grow_grown (w : World) (os : Array Obj) (row : Option Nat) : w.grownBy (Sort.grow w os) row :=
  ⟨rfl, rfl, rfl, by simp [Sort.grow], fun k hk hne => by simp [Sort.grow, Array.getElem?_append, hk]⟩
theorem xhqZ (w : World) (B n : Nat) (x y a b : Value) (t : TypeId) (h : w.heap[B]? = some (.cells #[x, y] t (0, 0))) (l : Array Int) (hl : l.size = 2) : (Sort.putRow (Value.int .i64) (Sort.ahead w n) B 0 l).heap[B]? = some (.cells #[.int .i64 l[0]!, .int .i64 l[1]!] t (0, 0)) := by
  simp only [Sort.putRow, Sort.mapBlock, Sort.ahead, Array.getElem?_modify, if_true, h, Option.map_some, Sort.onCells, Option.some.injEq, Obj.cells.injEq, and_true]
  apply Array.ext_getElem?
  intro k
  simp only [Sort.putCells, Array.getElem?_mapIdx]
  match k with
  | 0 => simp [hl]
  | 1 => simp [hl]
  | k + 2 => simp
theorem xl5Z {w : World} {B : Nat} {a b : Int} {t : TypeId} (h : w.heap[B]? = some (.cells #[.int .i64 a, .int .i64 b] t (0, 0))) : Sort.Holds (Value.int .i64) w B 0 [a, b].toArray := by
  intro j hj
  have hf := Lib.frozen_of_heap h
  match j, hj with
  | 0, _ => exact ⟨by rw [xaaZ h]; rfl, by simpa using hf 0⟩
  | 1, _ => exact ⟨by rw [xaaZ h]; rfl, by simpa using hf 1⟩
theorem rising_any (a b : Int) (B : Nat) (w : World) (h : w.heap[B]? = some (.cells #[.int .i64 a, .int .i64 b] 3 (0, 0))) : Calls Tryz.prog 234 #[.slice (some ⟨B, 0, none⟩) 2 2] w fun e w' => ∃ v, e = .returned v ∧ w'.ownsRow B 3 1 v (rise a b).length ((rise a b).map (Value.int .i64)) ∧ w.grownBy w' (some B) := by
  have hlt := xacZ h
  have key : ∀ (x y : Int) (W : World), W.heap[B]? = some (.cells #[.int .i64 x, .int .i64 y] 3 (0, 0)) → (if x = y then [x] else [x, y]) = rise a b → Calls Tryz.prog 242 #[.slice (some ⟨B, 0, none⟩) 2 2] W fun e w' => ∃ v, e = .returned v ∧ w'.ownsRow B 3 1 v (rise a b).length ((rise a b).map (Value.int .i64)) ∧ W.grownBy w' (some B) := by
    intro x y W hW hr
    refine (Tryz.slices_Compact_int B 0 2 [x, y] W (xl5Z hW) (by simp) (by simp)).mono ?_
    rw [xpnZ]
    rintro e w' ⟨rfl, q, rfl⟩
    refine ⟨_, rfl, ?_, xg7Z _ _ _ _⟩
    rw [hr]
    rw [← hr]
    by_cases hxy : x = y
    · subst hxy
      simp only [if_true]
      have hh := xhqZ W B q _ _ (.int .i64 0) (.int .i64 0) _ hW (([x] ++ List.replicate ([x, x].length - [x].length) 0).toArray) (by simp)
      refine ⟨by simp, .inr ⟨B, 2, _, rfl, Nat.le_refl _, hh, by simp, by unfold maxLen; omega, by simp, by simp⟩⟩
    · simp only [if_neg hxy]
      have hh := xhqZ W B q _ _ (.int .i64 0) (.int .i64 0) _ hW (([x, y] ++ List.replicate ([x, y].length - [x, y].length) 0).toArray) (by simp)
      refine ⟨by simp, .inr ⟨B, 2, _, rfl, Nat.le_refl _, hh, by simp, by unfold maxLen; omega, by simp, by simp⟩⟩
  have KEY := hideP key
  clear key
  go_enter Tryz.func234, Tryz.ntmps234
  go_wp2_with fail
  refine (Tryz.slices_Sort_int B 0 2 [a, b] w (xl5Z h) hlt (by simp)).mono ?_
  rw [sort_two]
  rintro e w1 ⟨rfl, n, os, hw1⟩
  have hg1 : w.grownBy w1 (some B) := by rw [hw1]; exact (xg7Z w B _ n).trans (grow_grown _ _ _)
  have hh1 : w1.heap[B]? = some (.cells (if a ≤ b then #[.int .i64 a, .int .i64 b] else #[.int .i64 b, .int .i64 a]) 3 (0, 0)) := by
    rw [hw1]
    have := xhqZ w B n _ _ (.int .i64 0) (.int .i64 0) _ h (if a ≤ b then [a, b] else [b, a]).toArray (by split <;> rfl)
    have h2 : B < (Sort.putRow (Value.int .i64) (Sort.ahead w n) B 0 (if a ≤ b then [a, b] else [b, a]).toArray).heap.size := xacZ this
    show (_ ++ os)[B]? = _
    rw [Array.getElem?_append_left h2, this]
    split <;> rfl
  clear hw1
  have HH := hideP hh1
  clear hh1
  go_wp2_with fail
  by_cases hab : a ≤ b
  · have hh := HH.out
    rw [if_pos hab] at hh
    refine (KEY.out a b w1 hh (by unfold rise; by_cases h1 : a = b <;> simp [h1]; omega)).mono ?_
    rintro e w2 ⟨v, rfl, hrow, hg2⟩
    have HROW := hideP hrow
    clear hrow hh
    go_wp2
    go_ret
    exact ⟨_, rfl, HROW.out, hg1.trans hg2⟩
  · have hh := HH.out
    rw [if_neg hab] at hh
    refine (KEY.out b a w1 hh (by unfold rise; rw [if_neg (by omega), if_neg (by omega), if_neg (by omega)])).mono ?_
    rintro e w2 ⟨v, rfl, hrow, hg2⟩
    have HROW := hideP hrow
    clear hrow hh
    go_wp2
    go_ret
    exact ⟨_, rfl, HROW.out, hg1.trans hg2⟩
def nextI (c a pc : Int) : List Int := if c = 13 then [] else if c = 10 then [a] else if c = 11 then rise a (pc + 1) else [pc + 1]
theorem one_row {w : World} {B : Nat} {x : Int} (h : w.heap[B]? = some (.cells #[.int .i64 x] 3 (0, 0))) : w.ownsRow B 3 1 (.slice (some ⟨B, 0, none⟩) 1 1) 1 [.int .i64 x] :=
  ⟨by simp, .inr ⟨B, 1, _, rfl, Nat.le_refl _, h, Nat.le_refl _, by unfold maxLen; omega, by simp, by simp⟩⟩
theorem xa1Z (w : World) (o o' : Obj) : ((w.alloc o).alloc o').heap[w.heap.size + 1]? = some o' := by
  have := World.alloc_heap_new (w.alloc o) o'
  simpa using this
theorem xapZ {w : World} {B B' : Nat} {e : TypeId} {size : Nat} {v : Value} {n : Nat} {xs : List Value} (h : w.ownsRow B e size v n xs) (hB : B' ≤ B) : w.ownsRow B' e size v n xs := by
  refine ⟨h.1, ?_⟩
  rcases h.2 with h | ⟨g, cap, cur, rfl, hb, r⟩
  · exact .inl h
  · exact .inr ⟨g, cap, cur, rfl, Nat.le_trans hB hb, r⟩
theorem xhxZ (c a pc : Int) (w : World) (hp : 0 ≤ pc ∧ pc ≤ 9223372036854775806) : Calls Tryz.prog 216 #[.agg #[.int .i64 c, .int .i64 a], .int .i64 pc] w fun e w' => ∃ v, e = .returned v ∧ w'.ownsRow w.heap.size 3 1 v (nextI c a pc).length ((nextI c a pc).map (Value.int .i64)) ∧ Below w.heap.size w w' := by
  have hw : Below w.heap.size w (w.alloc (.cells #[.int .i64 c, .int .i64 a] 86)) := (Below.refl _ w).alloc (Nat.le_refl _) _
  have hwr : wrap64 (pc + 1) = pc + 1 := by unfold wrap64; omega
  by_cases h13 : c = 13
  · subst h13
    go_enter Tryz.func216, Tryz.ntmps216
    go_wp2
    go_ret
    exact ⟨_, rfl, World.ownsRow_nil _ _ _ _, hw⟩
  have h13' : (c == 13) = false := by simp [h13]
  by_cases h10 : c = 10
  · subst h10
    go_enter Tryz.func216, Tryz.ntmps216
    go_wp2
    go_ret
    refine ⟨_, rfl, ?_, hw.alloc (by simp) _⟩
    exact xapZ (one_row (xa1Z w _ _)) (by omega)
  have h10' : (c == 10) = false := by simp [h10]
  by_cases h11 : c = 11
  · subst h11
    obtain ⟨W1, hW1⟩ : ∃ W1, (w.alloc (.cells #[.int .i64 11, .int .i64 a] 86)).alloc (.cells #[.int .i64 a, .int .i64 (pc + 1)] 3) = W1 := ⟨_, rfl⟩
    have hB1 : Below w.heap.size w W1 := by rw [← hW1]; exact hw.alloc (by simp) _
    have hh : W1.heap[w.heap.size + 1]? = some (.cells #[.int .i64 a, .int .i64 (pc + 1)] 3 (0, 0)) := by
      rw [← hW1]
      have := World.alloc_heap_new (w.alloc (.cells #[.int .i64 11, .int .i64 a] 86)) (.cells #[.int .i64 a, .int .i64 (pc + 1)] 3)
      simpa using this
    have HH := hideP hh
    clear hh
    go_enter Tryz.func216, Tryz.ntmps216
    go_wp2_with (go_at_call 234; refine (rising_any a (pc + 1) (w.heap.size + 1) _ HH.out).mono ?_; rintro e w2 ⟨v, rfl, hrow, hg⟩; have HROW := hideP hrow; clear hrow)
    go_ret
    refine ⟨_, rfl, xapZ HROW.out (by omega), hB1.grown hg hB1.size (fun k hk => by cases hk; omega)⟩
  have h11' : (c == 11) = false := by simp [h11]
  go_enter Tryz.func216, Tryz.ntmps216
  go_wp2
  go_ret
  refine ⟨_, rfl, ?_, hw.alloc (by simp) _⟩
  have e1 : nextI c a pc = [pc + 1] := by simp [nextI, h13, h10, h11]
  rw [e1]
  exact xapZ (one_row (xa1Z w _ _)) (by omega)
end Go.Proofs.YtmjjkenblfndgaaGreat


