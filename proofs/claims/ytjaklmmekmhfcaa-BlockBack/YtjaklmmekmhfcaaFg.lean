/- has, flowBegun. -/
import Derived.Test.YtjaklmmekmhfcaaFf
import Derived.Test.YtjaklmmekmhfcaaWj
namespace Go.Proofs.Ytjaklmmekmhfcaa
open Go.RowKit
set_option linter.unusedSimpArgs false
set_option linter.unusedVariables false
set_option maxHeartbeats 1000000 in
theorem has_any (l : List Int) (x : Int) (v : Value) (w : World) (h : IntsAt w v l) : Calls Try.prog 22 #[v, .int .i64 x] w fun e w' => e = .returned (.bool (decide (x ∈ l))) ∧ w' = w := by
  obtain ⟨p, cap, rfl, hm, hc⟩ := h
  unfold maxLen at hm
  go_enter Try.func22, Try.ntmps22
  go_wp2
  go_loopw [5] (fun i wr => ∃ k : Nat, k ≤ l.length ∧ i = .int .i64 k ∧ (∀ o ∈ l.take k, (!(o == x)) = true) ∧ wr = w) (fun i _ => l.length - (intOf i).toNat)
  case atStart => exact ⟨0, Nat.zero_le _, rfl, by simp, rfl⟩
  case round =>
    obtain ⟨k, hk, rfl, hok, hbw⟩ := hrel
    subst hbw
    have HK := hideP hok
    clear hok
    have HC := hideP hc
    clear hc
    by_cases hlt : k < l.length
    · obtain ⟨z, ho⟩ := at_of_lt hlt
      obtain ⟨b, off, rfl, hb, h0⟩ := HC.out k _ ho
      have HO := hideP ho
      clear ho
      cases hnb : (z == x)
      · go_wp2
        go_roundw
        case rel => exact ⟨k + 1, by omega, by go_num, all_snoc HK.out HO.out (by rw [hnb]; rfl), trivial⟩
        case measure => simp [intOf]; omega
      · obtain rfl : z = x := by simpa using hnb
        go_wp2
        go_ret
        exact ⟨by rw [decide_eq_true (List.mem_of_getElem? HO.out)]; rfl, rfl⟩
    · have hlt' : ¬ (k : Int) < (l.length : Int) := by omega
      go_wp2
      go_ret
      have := HK.out
      rw [List.take_of_length_le (by omega)] at this
      refine ⟨?_, rfl⟩
      rw [decide_eq_false (fun hx => by have := this x hx; simp at this)]
      rfl
theorem ints_lit {w : World} {b : Nat} {l : List Int} {t : TypeId} {fz : Nat × Nat} (n cap : Nat) (h : w.heap[b]? = some (.cells (l.map (Value.int .i64)).toArray t fz)) (hn : n = l.length) (hm : l.length ≤ maxLen) : IntsAt w (.slice (some ⟨b, 0, none⟩) n cap) l := by
  subst hn
  refine ⟨_, cap, rfl, hm, fun k z hk => ⟨b, 0, rfl, heap_lt h, ?_⟩⟩
  rw [cell_at' h]
  simp [hk]
theorem next_fact : nextErr loopOps 6 = 0 ∧ nextR loopOps 6 = [7, 8] := by decide +kernel
theorem back_fact : backErr loopOps 1 = 0 ∧ backR loopOps 1 = [0, 7] := by decide +kernel
def jumpOps : List (Int × Int) := [(10, 2), (13, 0), (2, 0)]
theorem reach_fact : flowErr jumpOps = 0 ∧ reachR jumpOps = [0, 2, 3] := by
  have hf : flowErr jumpOps = 0 := by decide +kernel
  refine ⟨hf, ?_⟩
  rw [reachR, if_pos hf]
  have h0 : Come jumpOps 0 := .zero
  have h2 : Come jumpOps 2 := .step h0 (by decide +kernel)
  have h3 : Come jumpOps 3 := .step h2 (by decide +kernel)
  rw [← reachL_eq (code := jumpOps) (fun x => x == 0 || x == 2 || x == 3) rfl ?_ ?_]
  · decide +kernel
  · intro x hx
    simp at hx
    rcases hx with (rfl | rfl) | rfl
    · exact h0
    · exact h2
    · exact h3
  · intro pc to hp hg
    simp at hp
    rcases hp with (rfl | rfl) | rfl
    · simp [goesOn, jumpOps] at hg; have hg2 : to = 2 ∨ to = 3 := by omega
      rcases hg2 with rfl | rfl <;> rfl
    · simp [goesOn, jumpOps] at hg; have hg2 : to = 2 ∨ to = 3 := by omega
      rcases hg2 with rfl | rfl <;> rfl
    · simp [goesOn, jumpOps] at hg
end Go.Proofs.Ytjaklmmekmhfcaa

