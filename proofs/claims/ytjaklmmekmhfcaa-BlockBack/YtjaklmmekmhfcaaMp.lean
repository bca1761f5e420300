/- Programs in memory. -/
import Derived.Test.YtjaklmmekmhfcaaWj
namespace Go.Proofs.Ytjaklmmekmhfcaa
open Go.RowKit
set_option linter.unusedSimpArgs false
set_option linter.unusedVariables false
/-- a function: params, locals, result, code. -/
abbrev Fn := Int × List Int × Int × List (Int × Int)
/-- the slice 'v' holds the ints 'l'. -/
def IntsAt (w : World) (v : Value) (l : List Int) : Prop :=
  ∃ (p : Option Addr) (cap : Nat), v = .slice p l.length cap ∧ l.length ≤ maxLen ∧ ∀ k z, l[k]? = some z →
    ∃ b off, p = some ⟨b, off, none⟩ ∧ b < w.heap.size ∧ w.cell? ⟨b, off + k, none⟩ = some (.int .i64 z)
theorem IntsAt.below {w w' : World} {v : Value} {l : List Int} (h : IntsAt w v l) (hb : Below w.heap.size w w') : IntsAt w' v l := by
  obtain ⟨p, cap, rfl, hm, hc⟩ := h
  refine ⟨p, cap, rfl, hm, fun k o hk => ?_⟩
  obtain ⟨b, off, rfl, hlt, h0⟩ := hc k o hk
  exact ⟨b, off, rfl, Nat.lt_of_lt_of_le hlt hb.size, (hb.cell (p := ⟨b, off + k, none⟩) hlt).trans h0⟩
/-- four cells hold a function. -/
def FnAt (w : World) (c0 c1 c2 c3 : Value) (f : Fn) : Prop := c0 = .int .i64 f.1 ∧ IntsAt w c1 f.2.1 ∧ c2 = .int .i64 f.2.2.1 ∧ OpsAt w c3 f.2.2.2
theorem FnAt.below {w w' : World} {c0 c1 c2 c3 : Value} {f : Fn} (h : FnAt w c0 c1 c2 c3 f) (hb : Below w.heap.size w w') : FnAt w' c0 c1 c2 c3 f :=
  ⟨h.1, h.2.1.below hb, h.2.2.1, h.2.2.2.below hb⟩
/-- the slice 'v' holds the functions 'l'. -/
def FnsAt (w : World) (v : Value) (l : List Fn) : Prop :=
  ∃ (p : Option Addr) (cap : Nat), v = .slice p l.length cap ∧ l.length ≤ maxLen ∧ ∀ k f, l[k]? = some f →
    ∃ b off c0 c1 c2 c3, p = some ⟨b, off, none⟩ ∧ b < w.heap.size ∧ w.cell? ⟨b, off + k * 4, none⟩ = some c0 ∧ w.cell? ⟨b, off + k * 4 + 1, none⟩ = some c1 ∧ w.cell? ⟨b, off + k * 4 + 2, none⟩ = some c2 ∧ w.cell? ⟨b, off + k * 4 + 3, none⟩ = some c3 ∧ FnAt w c0 c1 c2 c3 f
theorem FnsAt.below {w w' : World} {v : Value} {l : List Fn} (h : FnsAt w v l) (hb : Below w.heap.size w w') : FnsAt w' v l := by
  obtain ⟨p, cap, rfl, hm, hc⟩ := h
  refine ⟨p, cap, rfl, hm, fun k f hk => ?_⟩
  obtain ⟨b, off, c0, c1, c2, c3, rfl, hlt, h0, h1, h2, h3, hf⟩ := hc k f hk
  exact ⟨b, off, c0, c1, c2, c3, rfl, Nat.lt_of_lt_of_le hlt hb.size, (hb.cell (p := ⟨b, off + k * 4, none⟩) hlt).trans h0, (hb.cell (p := ⟨b, off + k * 4 + 1, none⟩) hlt).trans h1, (hb.cell (p := ⟨b, off + k * 4 + 2, none⟩) hlt).trans h2, (hb.cell (p := ⟨b, off + k * 4 + 3, none⟩) hlt).trans h3, hf.below hb⟩
theorem neq_int_false {a b : Int} (h : a = b) : (a != b) = false := by simp [h]
theorem neq_int_true {a b : Int} (h : ¬ a = b) : (a != b) = true := by simp [h]
set_option maxHeartbeats 1000000 in
theorem sameInts_any (l m : List Int) (v u : Value) (w : World) (hl : IntsAt w v l) (hm : IntsAt w u m) : Calls Try.prog 21 #[v, u] w fun e w' => e = .returned (.bool (decide (l = m))) ∧ Below w.heap.size w w' := by
  obtain ⟨p, cap, rfl, hlm, hc⟩ := hl
  obtain ⟨q, cap', rfl, hmm, hd⟩ := hm
  unfold maxLen at hlm hmm
  by_cases hlen : l.length = m.length
  · have hlen' : ((l.length : Int) != (m.length : Int)) = false := by simp; omega
    have HLEN : Hid (l.length = m.length) := hlen
    have HC : Hid (∀ k z, l[k]? = some z → ∃ b off, p = some ⟨b, off, none⟩ ∧ b < w.heap.size ∧ w.cell? ⟨b, off + k, none⟩ = some (.int .i64 z)) := hc
    have HD : Hid (∀ k z, m[k]? = some z → ∃ b off, q = some ⟨b, off, none⟩ ∧ b < w.heap.size ∧ w.cell? ⟨b, off + k, none⟩ = some (.int .i64 z)) := hd
    clear hc hd hlen
    go_enter Try.func21, Try.ntmps21
    go_wp2
    go_loopw [5] (fun i wr => ∃ k : Nat, k ≤ l.length ∧ i = .int .i64 k ∧ l.take k = m.take k ∧ Below w.heap.size w wr) (fun i _ => l.length - (intOf i).toNat)
    case atStart => exact ⟨0, Nat.zero_le _, rfl, by simp, Below.refl _ _⟩
    case round =>
      obtain ⟨k, hk, rfl, htk, hbw⟩ := hrel
      have HT : Hid (l.take k = m.take k) := htk
      clear htk
      by_cases hlt : k < l.length
      · have hlt2 : k < m.length := by have := HLEN.out; omega
        obtain ⟨x, ho⟩ := at_of_lt hlt
        obtain ⟨y, ho'⟩ := at_of_lt hlt2
        obtain ⟨b, off, rfl, hb, h0⟩ := HC.out k _ ho
        obtain ⟨b', off', rfl, hb', h0'⟩ := HD.out k _ ho'
        have g0 := (hbw.cell (p := ⟨b, off + k, none⟩) hb).trans h0
        have g0' := (hbw.cell (p := ⟨b', off' + k, none⟩) hb').trans h0'
        have hlti : (k : Int) < (l.length : Int) := by omega
        have hlti2 : (k : Int) < (m.length : Int) := by omega
        have HO : Hid (l[k]? = some x) := ho
        have HO' : Hid (m[k]? = some y) := ho'
        clear ho ho' h0 h0'
        by_cases he : x = y
        · have hne := neq_int_false he
          have HE : Hid (x = y) := he
          clear he
          go_wp2
          go_quiet (fail)
          go_wp2
          go_roundw
          case rel => exact ⟨k + 1, by omega, by go_num, by rw [take_snoc l k _ HO.out, take_snoc m k _ HO'.out, HT.out, HE.out], below_drewN hbw _⟩
          case measure => simp [intOf]; omega
        · have hne := neq_int_true he
          have HE : Hid (¬ x = y) := he
          clear he
          go_wp2
          go_quiet (fail)
          go_wp2
          go_ret
          refine ⟨?_, below_drewN hbw _⟩
          have : ¬ l = m := fun h => by
            have h1 := HO.out
            rw [h, HO'.out] at h1
            simp at h1
            exact HE.out h1.symm
          simp [this]
      · have hlt' : ¬ (k : Int) < (l.length : Int) := by omega
        go_wp2
        go_ret
        refine ⟨?_, hbw⟩
        have : l = m := by
          have h := HT.out
          rwa [List.take_of_length_le (by omega), List.take_of_length_le (by have := HLEN.out; omega)] at h
        simp [this]
  · have hlen' : ((l.length : Int) != (m.length : Int)) = true := by simp; omega
    have hne : ¬ l = m := fun h => hlen (by rw [h])
    clear hc hd
    have HN : Hid (¬ l = m) := hne
    clear hne hlen
    go_enter Try.func21, Try.ntmps21
    go_wp2
    go_ret
    exact ⟨by simp [HN.out], Below.refl _ _⟩
end Go.Proofs.Ytjaklmmekmhfcaa

