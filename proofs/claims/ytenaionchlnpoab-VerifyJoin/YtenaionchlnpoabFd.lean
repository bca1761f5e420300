/- flow.Next, flow.Back. -/
import Derived.Test.YtenaionchlnpoabFc
namespace Go.Proofs.Ytenaionchlnpoab
open Go.RowKit
set_option linter.unusedSimpArgs false
set_option linter.unusedVariables false
/-- lists that rise, and have the same numbers, are the same. -/
theorem rising_ext {L K : List Nat} (h1 : L.Pairwise (· < ·)) (h2 : K.Pairwise (· < ·)) (h : ∀ x, x ∈ L ↔ x ∈ K) : L = K := by
  have n1 : L.Nodup := h1.imp (fun h e => by omega)
  have n2 : K.Nodup := h2.imp (fun h e => by omega)
  have hp : L.Perm K := (List.perm_ext_iff_of_nodup n1 n2).2 h
  exact hp.eq_of_pairwise (fun a b _ _ h1 h2 => absurd h1 (by omega)) h1 h2
theorem filt_eq {L : List Nat} {m : Nat} {p : Nat → Bool} (hL : L.Pairwise (· < ·)) (hm : ∀ x ∈ L, x < m) (hp : ∀ x, x < m → (p x = true ↔ x ∈ L)) : (List.range m).filter p = L := by
  refine rising_ext (List.pairwise_lt_range.filter _) hL fun x => ?_
  rw [List.mem_filter, List.mem_range]
  exact ⟨fun h => (hp x h.1).1 h.2, fun h => ⟨hm x h, (hp x (hm x h)).2 h⟩⟩
theorem nextI_eq {l : List (Int × Int)} (hf : flowErr l = 0) {k : Nat} {c a : Int} (ho : l[k]? = some (c, a)) : nextI c a k = (nextL l k).map Int.ofNat := by
  obtain ⟨_, _, hb⟩ := flowErr_zero hf
  have hk := lt_of_at ho
  have hbo := hb _ (List.mem_of_getElem? ho)
  unfold nextI nextL
  have hg : ∀ x : Nat, goesOn l k x = if c = 13 then false else if c = 10 then decide ((x : Int) = a) else if c = 11 then decide (x = k + 1) || decide ((x : Int) = a) else decide (x = k + 1) := by
    intro x; simp [goesOn, ho]
  by_cases h13 : c = 13
  · rw [if_pos h13, filt_eq (L := []) (by simp) (by simp) (by intro x _; rw [hg]; simp [h13])]; rfl
  rw [if_neg h13]
  by_cases h10 : c = 10
  · simp [badTo, h10] at hbo
    rw [if_pos h10, filt_eq (L := [a.toNat]) (by simp) (by simp; omega) (by intro x _; rw [hg]; simp [h13, h10]; omega)]
    simp; omega
  rw [if_neg h10]
  by_cases h11 : c = 11
  · simp [badTo, h11] at hbo
    rw [if_pos h11]
    unfold rise
    by_cases e1 : a = (k : Int) + 1
    · rw [if_pos e1, filt_eq (L := [k + 1]) (by simp) (by simp; omega) (by intro x _; rw [hg]; simp [h13, h10, h11]; omega)]
      simp [e1]
    rw [if_neg e1]
    by_cases e2 : a < (k : Int) + 1
    · rw [if_pos e2, filt_eq (L := [a.toNat, k + 1]) (by simp; omega) (by simp; omega) (by intro x _; rw [hg]; simp [h13, h10, h11]; omega)]
      simp; omega
    · rw [if_neg e2, filt_eq (L := [k + 1, a.toNat]) (by simp; omega) (by simp; omega) (by intro x _; rw [hg]; simp [h13, h10, h11]; omega)]
      simp; omega
  · rw [if_neg h11, filt_eq (L := [k + 1]) (by simp) (by simp; omega) (by intro x _; rw [hg]; simp [h13, h10, h11])]
    simp
theorem comes_eq {l : List (Int × Int)} (hf : flowErr l = 0) (to k : Nat) : comes l to k = goesOn l k to := by
  obtain ⟨_, _, hb⟩ := flowErr_zero hf
  unfold comes
  cases ho : l[k]? with
  | none => simp [goesOn, ho]
  | some o =>
    show decide ((to : Int) ∈ nextI o.1 o.2 k) = _
    rw [nextI_eq hf (c := o.1) (a := o.2) (by rw [ho])]
    rw [Bool.eq_iff_iff, decide_eq_true_iff, ← mem_nextL hb, List.mem_map]
    refine ⟨fun ⟨x, h1, h2⟩ => ?_, fun h => ⟨to, h, rfl⟩⟩
    obtain rfl : x = to := Int.ofNat.inj h2
    exact h1
def nextR (l : List (Int × Int)) (pc : Int) : List Int := if nextErr l pc = 0 then (nextL l pc.toNat).map Int.ofNat else []
def backR (l : List (Int × Int)) (pc : Int) : List Int := if backErr l pc = 0 then (backL l pc.toNat).map Int.ofNat else []
theorem flowErr_40 {l : List (Int × Int)} (hf : flowErr l = 0) : l.length ≤ 40 := by
  have := (flowErr_zero hf).1
  unfold codeErr at this
  rcases Nat.lt_or_ge 40 l.length with h | h
  · rw [if_pos h] at this; cases this
  · exact h
set_option maxHeartbeats 2000000 in
theorem flowNext_any (l : List (Int × Int)) (pc : Int) (v : Value) (w : World) (h : OpsAt w v l) : Calls Try.prog 6 #[v, .int .i64 pc] w fun e w' => ∃ u, e = .returned (.tuple #[u, .int .i64 (nextErr l pc)]) ∧ w'.ownsRow w.heap.size 3 1 u (nextR l pc).length ((nextR l pc).map (Value.int .i64)) ∧ Below w.heap.size w w' := by
  have h' := h
  obtain ⟨p, cap, rfl, hm, hc⟩ := h'
  unfold maxLen at hm
  have HC := hideP hc
  clear hc
  by_cases hf : flowErr l = 0
  · have h40 := flowErr_40 hf
    by_cases hp : isAt l.length pc = true
    · have hp1 : 0 ≤ pc ∧ pc < (l.length : Int) := by simpa [isAt] using hp
      obtain ⟨k, rfl⟩ : ∃ k : Nat, pc = k := ⟨pc.toNat, by omega⟩
      have hk : k < l.length := by omega
      obtain ⟨⟨c, a⟩, ho⟩ := at_of_lt hk
      obtain ⟨b, off, rfl, hbl, g0, g1⟩ := HC.out k _ ho
      simp only at g0 g1
      have he : nextErr l k = 0 := by rw [nextErr, if_neg (by simp [hf]), if_neg (by omega)]
      have hr : nextR l k = nextI c a k := by rw [nextR, if_pos he, nextI_eq hf ho]; rfl
      rw [he, hr]
      have HF := hideP hf
      have HP1 := hideP hp1
      have HO := hideP ho
      have hck : ∀ W : World, OpsAt W (.slice (some ⟨b, off, none⟩) l.length cap) l → Calls Try.prog 20 #[.slice (some ⟨b, off, none⟩) l.length cap] W fun e w' => e = .returned (.int .i64 0) ∧ Below W.heap.size W w' := by
        intro W hW
        have := flowCheck_any l _ W hW
        rw [hf] at this
        exact this
      have HCK := hideP hck
      have hlti : (k : Int) < (l.length : Int) := by omega
      clear hf he hr ho hck hp1
      go_enter Try.func6, Try.ntmps6
      go_wp2_with (first
        | (go_at_call 20; refine (HCK.out _ h).mono ?_; rintro e w1 ⟨rfl, hb1⟩; have h1 := h.below hb1; have d0 := (hb1.cell (p := ⟨b, off + k * 2, none⟩) hbl).trans g0; have d1 := (hb1.cell (p := ⟨b, off + k * 2 + 1, none⟩) hbl).trans g1)
        | (go_at_call 21; refine (isPlace_any (k : Int) l _ _ h1).mono ?_; rw [hp]; rintro e w2 ⟨rfl, hw2⟩; have hw2 := hw2.symm; subst hw2)
        | (go_at_call 22; refine (flowNext1_any c a k _ (by omega)).mono ?_; rintro e w3 ⟨v3, rfl, hr3, hb3⟩; have HR3 := hideP hr3; clear hr3))
      go_ret2
      exact ⟨_, rfl, row_low HR3.out hb1.size, hb1.trans (hb3.mono hb1.size)⟩
    · have hp' : isAt l.length pc = false := by simpa using hp
      have hp1 : pc < 0 ∨ (l.length : Int) ≤ pc := by
        simp [isAt] at hp
        omega
      have he : nextErr l pc = 3 := by rw [nextErr, if_neg (by simp [hf]), if_pos hp1]
      have hr : nextR l pc = [] := by rw [nextR, if_neg (by rw [he]; decide)]
      rw [he, hr]
      have hck : ∀ W : World, OpsAt W (.slice p l.length cap) l → Calls Try.prog 20 #[.slice p l.length cap] W fun e w' => e = .returned (.int .i64 0) ∧ Below W.heap.size W w' := by
        intro W hW
        have := flowCheck_any l _ W hW
        rw [hf] at this
        exact this
      have HCK := hideP hck
      clear hf he hr hck hp hp1
      go_enter Try.func6, Try.ntmps6
      go_wp2_with (first
        | (go_at_call 20; refine (HCK.out _ h).mono ?_; rintro e w1 ⟨rfl, hb1⟩; have h1 := h.below hb1)
        | (go_at_call 21; refine (isPlace_any pc l _ _ h1).mono ?_; rw [hp']; rintro e w2 ⟨rfl, hw2⟩; have hw2 := hw2.symm; subst hw2))
      go_ret2
      exact ⟨_, rfl, World.ownsRow_nil _ _ _ _, hb1⟩
  · have he : nextErr l pc = flowErr l := by rw [nextErr, if_pos hf]
    have hr : nextR l pc = [] := by rw [nextR, if_neg (by rw [he]; exact hf)]
    rw [he, hr]
    have hf' : (flowErr l != 0) = true := by simp [hf]
    clear he hr hf
    go_enter Try.func6, Try.ntmps6
    go_wp2_with (go_at_call 20; refine (flowCheck_any l _ _ h).mono ?_; rintro e w1 ⟨rfl, hb1⟩)
    go_ret2
    exact ⟨_, rfl, World.ownsRow_nil _ _ _ _, hb1⟩
theorem backL_row {l : List (Int × Int)} (hf : flowErr l = 0) (to : Nat) : placesL (fun pc => comes l to pc) l.length = (backL l to).map Int.ofNat := by
  rw [placesL_congr (q := fun pc => goesOn l pc to) (fun k _ => comes_eq hf to k)]
  rfl
set_option maxHeartbeats 4000000 in
theorem flowBack_any (l : List (Int × Int)) (pc : Int) (v : Value) (w : World) (h : OpsAt w v l) : Calls Try.prog 8 #[v, .int .i64 pc] w fun e w' => ∃ u, e = .returned (.tuple #[u, .int .i64 (backErr l pc)]) ∧ w'.ownsRow w.heap.size 3 1 u (backR l pc).length ((backR l pc).map (Value.int .i64)) ∧ Below w.heap.size w w' := by
  have h' := h
  obtain ⟨p, cap, rfl, hm, hc⟩ := h'
  unfold maxLen at hm
  clear hc
  obtain ⟨W1, hW1⟩ : ∃ W1, (w.alloc (.cells #[.slice p l.length cap] 22)).alloc (.cells #[.int .i64 pc] 3) = W1 := ⟨_, rfl⟩
  have hB1 : Below w.heap.size w W1 := by rw [← hW1]; exact ((Below.refl _ w).alloc (Nat.le_refl _) _).alloc (by simp) _
  have q0 : W1.heap[w.heap.size]? = some (.cells #[.slice p l.length cap] 22 (0, 0)) := by rw [← hW1]; exact heap_old (World.alloc_heap_new w _) _
  have q1 : W1.heap[w.heap.size + 1]? = some (.cells #[.int .i64 pc] 3 (0, 0)) := by rw [← hW1]; exact new_two _ _ _
  have c0 : W1.cell? ⟨w.heap.size, 0, none⟩ = some (.slice p l.length cap) := by have := cell_at' q0 0; simpa using this
  have c1 : W1.cell? ⟨w.heap.size + 1, 0, none⟩ = some (.int .i64 pc) := by have := cell_at' q1 0; simpa using this
  have l0 := heap_lt q0
  have l1 := heap_lt q1
  have h1 := h.below hB1
  have hbox : BackBox W1 w.heap.size (w.heap.size + 1) l pc := ⟨⟨_, l0, c0, h1⟩, l1, c1⟩
  have Q0 := hideP q0
  have Q1 := hideP q1
  clear q0 q1
  by_cases hf : flowErr l = 0
  · have h40 := flowErr_40 hf
    have hck : ∀ W : World, OpsAt W (.slice p l.length cap) l → Calls Try.prog 20 #[.slice p l.length cap] W fun e w' => e = .returned (.int .i64 0) ∧ Below W.heap.size W w' := by
      intro W hW
      have := flowCheck_any l _ W hW
      rw [hf] at this
      exact this
    have HCK := hideP hck
    clear hck
    by_cases hp : 0 ≤ pc ∧ pc ≤ (l.length : Int)
    · obtain ⟨k, rfl⟩ : ∃ k : Nat, pc = k := ⟨pc.toNat, by omega⟩
      have he : backErr l k = 0 := by rw [backErr, if_neg (by simp [hf]), if_neg (by omega)]
      have hr : backR l k = placesL (fun pc => comes l k pc) l.length := by rw [backR, if_pos he, backL_row hf]; rfl
      rw [he, hr]
      obtain ⟨RR, hRR⟩ : ∃ RR, placesL (fun pc => comes l (k : Int) pc) l.length = RR := ⟨_, rfl⟩
      have hpl : ∀ W : World, BackBox W w.heap.size (w.heap.size + 1) l (k : Int) → Calls Try.prog 24 #[.int .i64 l.length, .func (.func 26) #[] #[.pointer (some ⟨w.heap.size, 0, none⟩), .pointer (some ⟨w.heap.size + 1, 0, none⟩)]] W fun e w' => ∃ v, e = .returned v ∧ w'.ownsRow W.heap.size 3 1 v RR.length (RR.map (Value.int .i64)) ∧ Below W.heap.size W w' := by
        intro W hW
        have := placesBack_any l (k : Int) l.length _ _ W rfl h40 hW
        rw [hRR] at this
        exact this
      have HPL := hideP hpl
      rw [hRR]
      clear hf he hr hRR hpl
      cases hq : isAt l.length (k : Int)
      · have hk : (k : Int) = (l.length : Int) := by simp [isAt] at hq; omega
        have hk' : ((k : Int) != (l.length : Int)) = false := by simp; omega
        have HK := hideP hk
        clear hk
        go_enter Try.func8, Try.ntmps8
        go_wp2_with (first
          | (go_at_call 20; refine (HCK.out _ h1).mono ?_; rintro e w2 ⟨rfl, hb2⟩; have h2 := h1.below hb2; have d0 := (hb2.cell (p := ⟨w.heap.size, 0, none⟩) l0).trans c0; have d1 := (hb2.cell (p := ⟨w.heap.size + 1, 0, none⟩) l1).trans c1; have hbox2 := hbox.below hb2)
          | (go_at_call 21; refine (isPlace_any (k : Int) l _ _ h2).mono ?_; rw [hq]; rintro e w3 ⟨rfl, hw3⟩; have hw3 := hw3.symm; subst hw3)
          | (go_at_call 24; refine (HPL.out _ hbox2).mono ?_; rintro e w4 ⟨v4, rfl, hr4, hb4⟩; have HR4 := hideP hr4; clear hr4))
        go_ret2
        exact ⟨_, rfl, row_low HR4.out (Nat.le_trans hB1.size hb2.size), (hB1.trans (hb2.mono hB1.size)).trans (hb4.mono (Nat.le_trans hB1.size hb2.size))⟩
      · go_enter Try.func8, Try.ntmps8
        go_wp2_with (first
          | (go_at_call 20; refine (HCK.out _ h1).mono ?_; rintro e w2 ⟨rfl, hb2⟩; have h2 := h1.below hb2; have d0 := (hb2.cell (p := ⟨w.heap.size, 0, none⟩) l0).trans c0; have d1 := (hb2.cell (p := ⟨w.heap.size + 1, 0, none⟩) l1).trans c1; have hbox2 := hbox.below hb2)
          | (go_at_call 21; refine (isPlace_any (k : Int) l _ _ h2).mono ?_; rw [hq]; rintro e w3 ⟨rfl, hw3⟩; have hw3 := hw3.symm; subst hw3)
          | (go_at_call 24; refine (HPL.out _ hbox2).mono ?_; rintro e w4 ⟨v4, rfl, hr4, hb4⟩; have HR4 := hideP hr4; clear hr4))
        go_ret2
        exact ⟨_, rfl, row_low HR4.out (Nat.le_trans hB1.size hb2.size), (hB1.trans (hb2.mono hB1.size)).trans (hb4.mono (Nat.le_trans hB1.size hb2.size))⟩
    · have hq : isAt l.length pc = false := by simp [isAt]; omega
      have hne : (pc != (l.length : Int)) = true := by simp; omega
      have he : backErr l pc = 3 := by rw [backErr, if_neg (by simp [hf]), if_pos (by omega)]
      have hr : backR l pc = [] := by rw [backR, if_neg (by rw [he]; decide)]
      rw [he, hr]
      clear hf he hr hp
      go_enter Try.func8, Try.ntmps8
      go_wp2_with (first
        | (go_at_call 20; refine (HCK.out _ h1).mono ?_; rintro e w2 ⟨rfl, hb2⟩; have h2 := h1.below hb2; have d0 := (hb2.cell (p := ⟨w.heap.size, 0, none⟩) l0).trans c0; have d1 := (hb2.cell (p := ⟨w.heap.size + 1, 0, none⟩) l1).trans c1)
        | (go_at_call 21; refine (isPlace_any pc l _ _ h2).mono ?_; rw [hq]; rintro e w3 ⟨rfl, hw3⟩; have hw3 := hw3.symm; subst hw3))
      go_ret2
      exact ⟨_, rfl, World.ownsRow_nil _ _ _ _, hB1.trans (hb2.mono hB1.size)⟩
  · have he : backErr l pc = flowErr l := by rw [backErr, if_pos hf]
    have hr : backR l pc = [] := by rw [backR, if_neg (by rw [he]; exact hf)]
    rw [he, hr]
    have hf' : (flowErr l != 0) = true := by simp [hf]
    clear he hr hf
    go_enter Try.func8, Try.ntmps8
    go_wp2_with (go_at_call 20; refine (flowCheck_any l _ _ h1).mono ?_; rintro e w2 ⟨rfl, hb2⟩)
    go_ret2
    exact ⟨_, rfl, World.ownsRow_nil _ _ _ _, hB1.trans (hb2.mono hB1.size)⟩
end Go.Proofs.Ytenaionchlnpoab

