/- has, flowBegun. -/
import Derived.Test.YtenaionchlnpoabFf
import Derived.Test.YtenaionchlnpoabWj
namespace Go.Proofs.Ytenaionchlnpoab
open Go.RowKit
set_option linter.unusedSimpArgs false
set_option linter.unusedVariables false
set_option maxHeartbeats 1000000 in
theorem has_any (l : List Int) (x : Int) (v : Value) (w : World) (h : IntsAt w v l) : Calls Try.prog 15 #[v, .int .i64 x] w fun e w' => e = .returned (.bool (decide (x ∈ l))) ∧ w' = w := by
  obtain ⟨p, cap, rfl, hm, hc⟩ := h
  unfold maxLen at hm
  go_enter Try.func15, Try.ntmps15
  go_wp2
  go_loopw [5] (fun i wr => ∃ k : Nat, k ≤ l.length ∧ i = .int .i64 k ∧ (∀ o ∈ l.take k, (!(o == x)) = true) ∧ wr = w) (fun i _ => l.length - (intOf i).toNat)
  case atStart => exact ⟨0, Nat.zero_le _, rfl, by simp, rfl⟩
  case round =>
    obtain ⟨k, hk, rfl, hok, hbw⟩ := hrel
    subst hbw
    have HK := hideP hok
    clear hok
    have HC := hideP hc
    clear hc
    by_cases hlt : k < l.length
    · obtain ⟨z, ho⟩ := at_of_lt hlt
      obtain ⟨b, off, rfl, hb, h0⟩ := HC.out k _ ho
      have HO := hideP ho
      clear ho
      cases hnb : (z == x)
      · go_wp2
        go_roundw
        case rel => exact ⟨k + 1, by omega, by go_num, all_snoc HK.out HO.out (by rw [hnb]; rfl), trivial⟩
        case measure => simp [intOf]; omega
      · obtain rfl : z = x := by simpa using hnb
        go_wp2
        go_ret
        exact ⟨by rw [decide_eq_true (List.mem_of_getElem? HO.out)]; rfl, rfl⟩
    · have hlt' : ¬ (k : Int) < (l.length : Int) := by omega
      go_wp2
      go_ret
      have := HK.out
      rw [List.take_of_length_le (by omega)] at this
      refine ⟨?_, rfl⟩
      rw [decide_eq_false (fun hx => by have := this x hx; simp at this)]
      rfl
theorem loop_ops (w : World) : Calls Try.prog 31 #[] w fun e w' => ∃ v, e = .returned v ∧ OpsAt w' v loopOps ∧ Below w.heap.size w w' := by
  refine (loop_any w).mono ?_
  rintro e w1 ⟨rfl, hw1⟩
  have hb1 : Below w.heap.size w w1 := by rw [hw1]; exact (Below.refl _ w).alloc (Nat.le_refl _) _
  have hh1 : w1.heap[w.heap.size]? = some (.cells (opCells loopOps).toArray 43 (0, 0)) := by rw [hw1]; exact World.alloc_heap_new w _
  exact ⟨_, rfl, opsAt_new (l := loopOps) (m := []) 10 10 (by simpa using hh1) rfl (by unfold maxLen; decide), hb1⟩
theorem ints_lit {w : World} {b : Nat} {l : List Int} {t : TypeId} {fz : Nat × Nat} (n cap : Nat) (h : w.heap[b]? = some (.cells (l.map (Value.int .i64)).toArray t fz)) (hn : n = l.length) (hm : l.length ≤ maxLen) : IntsAt w (.slice (some ⟨b, 0, none⟩) n cap) l := by
  subst hn
  refine ⟨_, cap, rfl, hm, fun k z hk => ⟨b, 0, rfl, heap_lt h, ?_⟩⟩
  rw [cell_at' h]
  simp [hk]
theorem next_fact : nextErr loopOps 6 = 0 ∧ nextR loopOps 6 = [7, 8] := by decide +kernel
theorem back_fact : backErr loopOps 1 = 0 ∧ backR loopOps 1 = [0, 7] := by decide +kernel
def jumpOps : List (Int × Int) := [(10, 2), (13, 0), (2, 0)]
theorem reach_fact : flowErr jumpOps = 0 ∧ reachR jumpOps = [0, 2, 3] := by
  have hf : flowErr jumpOps = 0 := by decide +kernel
  refine ⟨hf, ?_⟩
  rw [reachR, if_pos hf]
  have h0 : Come jumpOps 0 := .zero
  have h2 : Come jumpOps 2 := .step h0 (by decide +kernel)
  have h3 : Come jumpOps 3 := .step h2 (by decide +kernel)
  rw [← reachL_eq (code := jumpOps) (fun x => x == 0 || x == 2 || x == 3) rfl ?_ ?_]
  · decide +kernel
  · intro x hx
    simp at hx
    rcases hx with (rfl | rfl) | rfl
    · exact h0
    · exact h2
    · exact h3
  · intro pc to hp hg
    simp at hp
    rcases hp with (rfl | rfl) | rfl
    · simp [goesOn, jumpOps] at hg; have hg2 : to = 2 ∨ to = 3 := by omega
      rcases hg2 with rfl | rfl <;> rfl
    · simp [goesOn, jumpOps] at hg; have hg2 : to = 2 ∨ to = 3 := by omega
      rcases hg2 with rfl | rfl <;> rfl
    · simp [goesOn, jumpOps] at hg
set_option maxHeartbeats 4000000 in
theorem flowBegun_any (w : World) : Calls Try.prog 13 #[] w fun e w' => e = .returned (.bool true) ∧ Below w.heap.size w w' := by
  have hN : ∀ (W : World) (v : Value), OpsAt W v loopOps → Calls Try.prog 6 #[v, .int .i64 6] W fun e w' => ∃ p n c, e = .returned (.tuple #[.slice p n c, .int .i64 0]) ∧ IntsAt w' (.slice p n c) [7, 8] ∧ Below W.heap.size W w' := by
    intro W v h
    have := flowNext_any loopOps 6 v W h
    rw [next_fact.1, next_fact.2] at this
    refine this.mono ?_
    rintro e w' ⟨u, rfl, hr, hb⟩
    obtain ⟨p, c, rfl⟩ := row_shp hr
    exact ⟨_, _, _, rfl, intsAt_of_row rfl hr, hb⟩
  have hK : ∀ (W : World) (v : Value), OpsAt W v loopOps → Calls Try.prog 8 #[v, .int .i64 1] W fun e w' => ∃ p n c, e = .returned (.tuple #[.slice p n c, .int .i64 0]) ∧ IntsAt w' (.slice p n c) [0, 7] ∧ Below W.heap.size W w' := by
    intro W v h
    have := flowBack_any loopOps 1 v W h
    rw [back_fact.1, back_fact.2] at this
    refine this.mono ?_
    rintro e w' ⟨u, rfl, hr, hb⟩
    obtain ⟨p, c, rfl⟩ := row_shp hr
    exact ⟨_, _, _, rfl, intsAt_of_row rfl hr, hb⟩
  have hR : ∀ (W : World) (v : Value), OpsAt W v jumpOps → Calls Try.prog 7 #[v] W fun e w' => ∃ p n c, e = .returned (.tuple #[.slice p n c, .int .i64 0]) ∧ IntsAt w' (.slice p n c) [0, 2, 3] ∧ Below W.heap.size W w' := by
    intro W v h
    have := flowReach_any jumpOps v W h
    rw [reach_fact.1, reach_fact.2] at this
    refine this.mono ?_
    rintro e w' ⟨u, rfl, hr, hb⟩
    obtain ⟨p, c, rfl⟩ := row_shp hr
    exact ⟨_, _, _, rfl, intsAt_of_row rfl hr, hb⟩
  have hS : ∀ (W : World) (v u : Value) (l : List Int), IntsAt W v l → IntsAt W u l → Calls Try.prog 18 #[v, u] W fun e w' => e = .returned (.bool true) ∧ Below W.heap.size W w' := by
    intro W v u l h1 h2
    have := sameInts_any l l v u W h1 h2
    rw [decide_eq_true rfl] at this
    exact this
  have HN := hideP hN
  have HK := hideP hK
  have HR := hideP hR
  have HS := hideP hS
  clear hN hK hR hS
  go_enter Try.func13, Try.ntmps13
  go_wp2_with fail
  refine (loop_ops _).mono ?_
  rintro e w1 ⟨v1, rfl, h1, hb1⟩
  go_wp2_with fail
  refine (HN.out _ _ h1).mono ?_
  rintro e w2 ⟨p2, n2, c2, rfl, i2, hb2⟩
  have hB2 := hb1.trans (hb2.mono hb1.size)
  clear h1
  go_wp2_with fail
  have hj := World.alloc_heap_new w2 (.cells (opCells jumpOps).toArray 43)
  have hB3 := hB2.alloc hB2.size (.cells (opCells jumpOps).toArray 43)
  have hb3 := (Below.refl w2.heap.size w2).alloc (Nat.le_refl _) (.cells (opCells jumpOps).toArray 43)
  refine (HR.out (w2.alloc (.cells (opCells jumpOps).toArray 43)) _ (opsAt_new (l := jumpOps) (m := []) 3 3 (by simpa using hj) rfl (by unfold maxLen; decide))).mono ?_
  rintro e w4 ⟨p4, n4, c4, rfl, i4, hb4⟩
  have i24 := (i2.below hb3).below hb4
  have hB4 := hB3.trans (hb4.mono hB3.size)
  clear hj hb3 hB3 i2
  go_wp2_with fail
  refine (loop_ops _).mono ?_
  rintro e w5 ⟨v5, rfl, h5, hb5⟩
  go_wp2_with fail
  refine (HK.out _ _ h5).mono ?_
  rintro e w6 ⟨p6, n6, c6, rfl, i6, hb6⟩
  have i26 := (i24.below hb5).below hb6
  have i46 := (i4.below hb5).below hb6
  have hB6 := hB4.trans ((hb5.trans (hb6.mono hb5.size)).mono hB4.size)
  clear h5 i24 i4
  go_wp2_with fail
  have q7 := World.alloc_heap_new w6 (.cells #[.int .i64 7, .int .i64 8] 3)
  have b7 := (Below.refl w6.heap.size w6).alloc (Nat.le_refl _) (.cells #[.int .i64 7, .int .i64 8] 3)
  refine (HS.out _ _ _ [7, 8] (i26.below b7) (ints_lit 2 2 q7 rfl (by unfold maxLen; decide))).mono ?_
  rintro e w8 ⟨rfl, hb8⟩
  have i48 := (i46.below b7).below hb8
  have i68 := (i6.below b7).below hb8
  have hB8 := hB6.trans ((b7.trans (hb8.mono b7.size)).mono hB6.size)
  clear q7 b7 i46 i6 i26
  go_wp2_with fail
  have q9 := World.alloc_heap_new w8 (.cells #[.int .i64 0, .int .i64 2, .int .i64 3] 3)
  have b9 := (Below.refl w8.heap.size w8).alloc (Nat.le_refl _) (.cells #[.int .i64 0, .int .i64 2, .int .i64 3] 3)
  refine (HS.out _ _ _ [0, 2, 3] (i48.below b9) (ints_lit 3 3 q9 rfl (by unfold maxLen; decide))).mono ?_
  rintro e w10 ⟨rfl, hb10⟩
  have i610 := (i68.below b9).below hb10
  have hB10 := hB8.trans ((b9.trans (hb10.mono b9.size)).mono hB8.size)
  clear q9 b9 i48 i68
  go_wp2_with fail
  have q11 := World.alloc_heap_new w10 (.cells #[.int .i64 0, .int .i64 7] 3)
  have b11 := (Below.refl w10.heap.size w10).alloc (Nat.le_refl _) (.cells #[.int .i64 0, .int .i64 7] 3)
  refine (HS.out _ _ _ [0, 7] (i610.below b11) (ints_lit 2 2 q11 rfl (by unfold maxLen; decide))).mono ?_
  rintro e w12 ⟨rfl, hb12⟩
  have hB12 := hB10.trans ((b11.trans (hb12.mono b11.size)).mono hB10.size)
  clear q11 b11 i610
  go_wp2
  go_ret
  exact ⟨rfl, hB12⟩
end Go.Proofs.Ytenaionchlnpoab

