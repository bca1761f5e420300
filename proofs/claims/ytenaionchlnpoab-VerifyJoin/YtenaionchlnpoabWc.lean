/- Encode's closure, and IndexFunc at it. -/
import Derived.Test.YtenaionchlnpoabWb
namespace Go.Proofs.Ytenaionchlnpoab
open Go.RowKit
set_option linter.unusedSimpArgs false
set_option linter.unusedVariables false
set_option maxHeartbeats 1000000 in
theorem encodeFn_any (c a : Int) (w : World) : Calls Try.prog 51 #[.agg #[.int .i64 c, .int .i64 a]] w fun e w' => e = .returned (.bool (chk c a != 0)) ∧ Below w.heap.size w w' := by
  have hb : ∀ o, Below w.heap.size w (w.alloc o) := fun o => (Below.refl _ _).alloc (Nat.le_refl _) _
  go_enter Try.func51, Try.ntmps51
  go_wp2_with (go_at_call 52; refine (check_any _ _ _).mono ?_; rintro e w2 ⟨rfl, hb2⟩)
  go_ret
  exact ⟨rfl, (hb _).trans (hb2.mono (by simp))⟩
/-- the first op that has an errno, or -1. -/
def isFirst (l : List (Int × Int)) (r : Int) : Prop :=
  (r = -1 ∧ ∀ o ∈ l, chk o.1 o.2 = 0) ∨ ∃ k o, r = ((k : Nat) : Int) ∧ l[k]? = some o ∧ (∀ x ∈ l.take k, chk x.1 x.2 = 0) ∧ ¬ chk o.1 o.2 = 0
set_option maxHeartbeats 1000000 in
theorem indexFunc_any (l : List (Int × Int)) (v : Value) (w : World) (h : OpsAt w v l) : Calls Try.prog 50 #[v, .func (.func 51) #[] #[]] w fun e w' => ∃ r, e = .returned (.int .i64 r) ∧ isFirst l r ∧ Below w.heap.size w w' := by
  obtain ⟨p, cap, rfl, hm, hc⟩ := h
  unfold maxLen at hm
  go_enter Try.func50, Try.ntmps50
  go_wp2
  go_loopw [5, 8] (fun _ i wr => ∃ k : Nat, k ≤ l.length ∧ i = .int .i64 k ∧ (∀ o ∈ l.take k, chk o.1 o.2 = 0) ∧ Below w.heap.size w wr) (fun _ i _ => l.length - (intOf i).toNat)
  case atStart => exact ⟨0, Nat.zero_le _, rfl, by simp, Below.refl _ _⟩
  case round =>
    obtain ⟨k, hk, rfl, hok, hbw⟩ := hrel
    have HK : Hid (∀ o ∈ l.take k, chk o.1 o.2 = 0) := hok
    clear hok
    have HC : Hid (∀ k o, l[k]? = some o → ∃ b off, p = some ⟨b, off, none⟩ ∧ b < w.heap.size ∧ w.cell? ⟨b, off + k * 2, none⟩ = some (.int .i64 o.1) ∧ w.cell? ⟨b, off + k * 2 + 1, none⟩ = some (.int .i64 o.2)) := hc
    clear hc
    by_cases hlt : k < l.length
    · obtain ⟨⟨c, a⟩, ho⟩ := at_of_lt hlt
      obtain ⟨b, off, rfl, hb, h0, h1⟩ := HC.out k _ ho
      have g0 := (hbw.cell (p := ⟨b, off + k * 2, none⟩) hb).trans h0
      have g1 := (hbw.cell (p := ⟨b, off + k * 2 + 1, none⟩) hb).trans h1
      have HO : Hid (l[k]? = some (c, a)) := ho
      clear ho h0 h1
      by_cases he : chk c a = 0
      · have he' : (chk c a != 0) = false := by simp [he]
        have HE : Hid (chk c a = 0) := he
        clear he
        go_wp2_with (go_at_call 51; refine (encodeFn_any _ _ _).mono ?_; rintro e w2 ⟨rfl, hb2⟩)
        go_roundw
        case rel => exact ⟨k + 1, by omega, by go_num, by
          rw [take_snoc l k _ HO.out]; intro x hx; rcases List.mem_append.1 hx with hx | hx
          · exact HK.out x hx
          · simp at hx; subst hx; exact HE.out, hbw.trans (hb2.mono hbw.size)⟩
        case measure => simp [intOf]; omega
      · have he' : (chk c a != 0) = true := by simp [he]
        go_wp2_with (go_at_call 51; refine (encodeFn_any _ _ _).mono ?_; rintro e w2 ⟨rfl, hb2⟩)
        go_ret
        exact ⟨k, rfl, .inr ⟨k, _, rfl, HO.out, HK.out, he⟩, hbw.trans (hb2.mono hbw.size)⟩
    · have hlt' : ¬ (k : Int) < (l.length : Int) := by omega
      go_wp2
      go_ret
      exact ⟨-1, rfl, .inl ⟨rfl, by have := HK.out; rwa [List.take_of_length_le (by omega)] at this⟩, hbw⟩
end Go.Proofs.Ytenaionchlnpoab

