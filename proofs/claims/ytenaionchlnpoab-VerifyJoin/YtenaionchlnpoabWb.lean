/- Walks over code in memory: CheckOp, CheckCode, IndexFunc at Encode's closure. -/
import Derived.Test.YtenaionchlnpoabWa
import Derived.Test.YtenaionchlnpoabMem
namespace Go.Proofs.Ytenaionchlnpoab
open Go.RowKit
set_option linter.unusedSimpArgs false
set_option linter.unusedVariables false
set_option maxHeartbeats 1000000 in
theorem checkOp_any (c a : Int) (w : World) : Calls Try.prog 44 #[.agg #[.int .i64 c, .int .i64 a]] w fun e w' => e = .returned (.int .i64 (chk c a)) ∧ Below w.heap.size w w' := by
  have hb : ∀ o, Below w.heap.size w (w.alloc o) := fun o => (Below.refl _ _).alloc (Nat.le_refl _) _
  cases hk : isCode c
  · have hk' := hk
    unfold isCode at hk'
    go_enter Try.func44, Try.ntmps44
    go_wp2_with (first | (go_at_call 29; refine (between_any _ _ _ _).mono ?_; rintro e w' ⟨rfl, rfl⟩; rw [hk']))
    go_ret
    exact ⟨by simp [chk, hk], hb _⟩
  have hk' := hk
  unfold isCode at hk'
  cases hh : hasA c
  · cases h0 : (a != 0)
    · have h0' : isI32 a = true := by simp at h0; subst h0; rfl
      go_enter Try.func44, Try.ntmps44
      go_wp2_with (first | (go_at_call 29; refine (between_any _ _ _ _).mono ?_; rintro e w' ⟨rfl, rfl⟩; rw [hk']) | (go_at_call 57; refine (hasA_any _ _).mono ?_; rintro e w' ⟨rfl, rfl⟩) | (go_at_call 58; refine (isInt_any _ _).mono ?_; rintro e w' ⟨rfl, rfl⟩))
      go_ret
      exact ⟨by simp at h0; simp [chk, hk, hh, isI32, h0], hb _⟩
    · go_enter Try.func44, Try.ntmps44
      go_wp2_with (first | (go_at_call 29; refine (between_any _ _ _ _).mono ?_; rintro e w' ⟨rfl, rfl⟩; rw [hk']) | (go_at_call 57; refine (hasA_any _ _).mono ?_; rintro e w' ⟨rfl, rfl⟩) | (go_at_call 58; refine (isInt_any _ _).mono ?_; rintro e w' ⟨rfl, rfl⟩))
      go_ret
      exact ⟨by simp at h0; simp [chk, hk, hh, h0], hb _⟩
  · cases hi : isI32 a
    all_goals
      go_enter Try.func44, Try.ntmps44
      go_wp2_with (first | (go_at_call 29; refine (between_any _ _ _ _).mono ?_; rintro e w' ⟨rfl, rfl⟩; rw [hk']) | (go_at_call 57; refine (hasA_any _ _).mono ?_; rintro e w' ⟨rfl, rfl⟩) | (go_at_call 58; refine (isInt_any _ _).mono ?_; rintro e w' ⟨rfl, rfl⟩))
      go_ret
      exact ⟨by simp [chk, hk, hh, hi], hb _⟩
theorem lt_of_at {α : Type} {l : List α} {k : Nat} {o : α} (h : l[k]? = some o) : k < l.length := (List.getElem?_eq_some_iff.1 h).1
theorem at_of_lt {α : Type} {l : List α} {k : Nat} (h : k < l.length) : ∃ o, l[k]? = some o := ⟨l[k], List.getElem?_eq_some_iff.2 ⟨h, rfl⟩⟩
set_option maxHeartbeats 1000000 in
theorem checkCode_any (l : List (Int × Int)) (v : Value) (w : World) (h : OpsAt w v l) : Calls Try.prog 28 #[v] w fun e w' => e = .returned (.int .i64 (codeErr l)) ∧ Below w.heap.size w w' := by
  obtain ⟨p, cap, rfl, hm, hc⟩ := h
  unfold maxLen at hm
  by_cases h40 : 40 < l.length
  · have h40' : (40 : Int) < (l.length : Int) := by omega
    go_enter Try.func28, Try.ntmps28
    go_wp2
    go_ret
    exact ⟨by simp [codeErr, h40], Below.refl _ _⟩
  have h40' : ¬ (40 : Int) < (l.length : Int) := by omega
  have hce : codeErr l = firstErr l := by simp [codeErr, h40]
  rw [hce]
  clear hce
  go_enter Try.func28, Try.ntmps28
  go_wp2
  go_loopw [3, 4] (fun i _ wr => ∃ k : Nat, k ≤ l.length ∧ i = .int .i64 k ∧ (∀ o ∈ l.take k, chk o.1 o.2 = 0) ∧ Below w.heap.size w wr) (fun i _ _ => l.length - (intOf i).toNat)
  case atStart => exact ⟨0, Nat.zero_le _, rfl, by simp, Below.refl _ _⟩
  case round =>
    obtain ⟨k, hk, rfl, hok, hbw⟩ := hrel
    have HK : Hid (∀ o ∈ l.take k, chk o.1 o.2 = 0) := hok
    clear hok
    have HC : Hid (∀ k o, l[k]? = some o → ∃ b off, p = some ⟨b, off, none⟩ ∧ b < w.heap.size ∧ w.cell? ⟨b, off + k * 2, none⟩ = some (.int .i64 o.1) ∧ w.cell? ⟨b, off + k * 2 + 1, none⟩ = some (.int .i64 o.2)) := hc
    clear hc
    by_cases hlt : k < l.length
    · obtain ⟨⟨c, a⟩, ho⟩ := at_of_lt hlt
      obtain ⟨b, off, rfl, hb, h0, h1⟩ := HC.out k _ ho
      have g0 := (hbw.cell (p := ⟨b, off + k * 2, none⟩) hb).trans h0
      have g1 := (hbw.cell (p := ⟨b, off + k * 2 + 1, none⟩) hb).trans h1
      have HO : Hid (l[k]? = some (c, a)) := ho
      clear ho h0 h1
      by_cases he : chk c a = 0
      · have he' : (chk c a != 0) = false := by simp [he]
        have HE : Hid (chk c a = 0) := he
        clear he
        go_wp2_with (go_at_call 44; refine (checkOp_any _ _ _).mono ?_; rintro e w2 ⟨rfl, hb2⟩)
        go_roundw
        case rel => exact ⟨k + 1, by omega, by go_num, by
          rw [take_snoc l k _ HO.out]; intro x hx; rcases List.mem_append.1 hx with hx | hx
          · exact HK.out x hx
          · simp at hx; subst hx; exact HE.out, hbw.trans (hb2.mono hbw.size)⟩
        case measure => simp [intOf]; omega
      · have he' : (chk c a != 0) = true := by simp [he]
        go_wp2_with (go_at_call 44; refine (checkOp_any _ _ _).mono ?_; rintro e w2 ⟨rfl, hb2⟩)
        go_ret
        exact ⟨by simp; exact (firstErr_at l k _ HO.out HK.out he).symm, hbw.trans (hb2.mono hbw.size)⟩
    · have hlt' : ¬ (k : Int) < (l.length : Int) := by omega
      go_wp2
      go_ret
      exact ⟨by simp; exact (firstErr_all l (by have := HK.out; rwa [List.take_of_length_le (by omega)] at this)).symm, hbw⟩
end Go.Proofs.Ytenaionchlnpoab

