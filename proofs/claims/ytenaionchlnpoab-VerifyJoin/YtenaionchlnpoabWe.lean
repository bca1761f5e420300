/- op.Encode. -/
import Derived.Test.YtenaionchlnpoabWc
import Derived.Test.YtenaionchlnpoabWd
namespace Go.Proofs.Ytenaionchlnpoab
open Go.RowKit
set_option linter.unusedSimpArgs false
set_option linter.unusedVariables false
/-- code's bytes. -/
def codeBytes (l : List (Int × Int)) : List UInt8 := l.flatMap opBytes
/-- what Encode tells. -/
def encStr (l : List (Int × Int)) : List UInt8 := if codeErr l = 0 then codeBytes l else []
theorem opBytes_le (o : Int × Int) : (opBytes o).length ≤ 5 := by unfold opBytes; split <;> simp
theorem codeBytes_le (l : List (Int × Int)) : (codeBytes l).length ≤ 5 * l.length := by
  induction l with
  | nil => simp [codeBytes]
  | cons o r ih => have := opBytes_le o; simp [codeBytes] at *; omega
theorem codeBytes_snoc (l : List (Int × Int)) (k : Nat) (o : Int × Int) (h : l[k]? = some o) : codeBytes (l.take (k + 1)) = codeBytes (l.take k) ++ opBytes o := by
  rw [take_snoc l k o h]; simp [codeBytes]
theorem chk_pos (c a : Int) : 0 ≤ chk c a := by unfold chk; split <;> (try split) <;> (try split) <;> omega
set_option maxHeartbeats 2000000 in
theorem encode_any (l : List (Int × Int)) (v : Value) (w : World) (h : OpsAt w v l) : Calls Try.prog 39 #[v] w fun e w' => e = .returned (.tuple #[.string ⟨(encStr l).toArray⟩, .int .i64 (codeErr l)]) ∧ Below w.heap.size w w' := by
  have hOps := h
  obtain ⟨p, cap, rfl, hm, hc⟩ := h
  unfold maxLen at hm
  by_cases h40 : 40 < l.length
  · have h40' : (40 : Int) < (l.length : Int) := by omega
    have hce : codeErr l = 2 := by simp [codeErr, h40]
    have hes : encStr l = [] := by simp [encStr, hce]
    rw [hce, hes]
    clear hce hes hc hOps
    go_enter Try.func39, Try.ntmps39
    go_wp2
    go_ret2
    exact ⟨rfl, Below.refl _ _⟩
  have h40' : ¬ (40 : Int) < (l.length : Int) := by omega
  have hce : codeErr l = firstErr l := by simp [codeErr, h40]
  have HC : Hid (∀ k o, l[k]? = some o → ∃ b off, p = some ⟨b, off, none⟩ ∧ b < w.heap.size ∧ w.cell? ⟨b, off + k * 2, none⟩ = some (.int .i64 o.1) ∧ w.cell? ⟨b, off + k * 2 + 1, none⟩ = some (.int .i64 o.2)) := hc
  clear hc
  have HCE : Hid (codeErr l = firstErr l) := hce
  clear hce
  go_enter Try.func39, Try.ntmps39
  go_wp2_with fail
  refine (indexFunc_any l _ _ hOps).mono ?_
  rintro e w1 ⟨r, rfl, hr, hb1⟩
  clear hOps
  rcases hr with ⟨rfl, hall⟩ | ⟨k, ⟨c, a⟩, rfl, hk, hbef, hne⟩
  · have HA : Hid (∀ o ∈ l, chk o.1 o.2 = 0) := hall
    clear hall
    go_wp2
    go_loopw [7, 22] (fun _ i wr => ∃ k : Nat, k ≤ l.length ∧ i = .int .i64 k ∧ Bld w1.heap.size w1.heap.size (Lib.byteCells (codeBytes (l.take k))) wr ∧ Below w1.heap.size w1 wr) (fun _ i _ => l.length - (intOf i).toNat)
    case atStart => exact ⟨0, Nat.zero_le _, rfl, by simpa [codeBytes, Lib.byteCells] using Lib.IsBuilderF.of (Lib.fresh_isBuilder 81 5 w1), (Below.refl _ w1).alloc (Nat.le_refl _) _⟩
    case round =>
      obtain ⟨k, hk, rfl, hB, hbw⟩ := hrel
      by_cases hlt : k < l.length
      · obtain ⟨⟨c, a⟩, ho⟩ := at_of_lt hlt
        obtain ⟨b, off, rfl, hb, h0, h1⟩ := HC.out k _ ho
        have g0 := ((hb1.trans (hbw.mono hb1.size)).cell (p := ⟨b, off + k * 2, none⟩) hb).trans h0
        have g1 := ((hb1.trans (hbw.mono hb1.size)).cell (p := ⟨b, off + k * 2 + 1, none⟩) hb).trans h1
        have HO : Hid (l[k]? = some (c, a)) := ho
        clear ho h0 h1
        have hle := codeBytes_le (l.take k)
        rw [List.length_take] at hle
        have hsz := hbw.size
        go_wp2_with fail
        refine (putOp_any w1.heap.size w1.heap.size (codeBytes (l.take k)) c a _ (hB.alloc _) (by omega) (by simp; omega)).mono ?_
        rintro e w2 ⟨rfl, hB2, hb2, hk2⟩
        go_wp2
        go_roundw
        case rel => exact ⟨k + 1, by omega, by go_num, by rw [codeBytes_snoc l k _ HO.out]; exact hB2, (hbw.alloc hsz _).trans hb2⟩
        case measure => simp [intOf]; omega
      · have hlt' : ¬ (k : Int) < (l.length : Int) := by omega
        have hes : codeErr l = 0 := HCE.out.trans (firstErr_all l HA.out)
        have hes2 : encStr l = codeBytes l := by simp [encStr, hes]
        rw [List.take_of_length_le (by omega)] at hB
        have HE : Hid (codeErr l = 0) := hes
        have HS : Hid (encStr l = codeBytes l) := hes2
        clear hes hes2
        go_wp2_with (go_at_call 54; refine (Try.string_any w1.heap.size w1.heap.size (codeBytes l) _ hB hbw.size).mono ?_; rintro e w2 ⟨rfl, hB2, hb2, hk2⟩)
        go_ret2
        exact ⟨by rw [HS.out, HE.out]; rfl, hb1.trans ((hbw.trans hb2).mono hb1.size)⟩
  · have hlt := lt_of_at hk
    obtain ⟨b, off, rfl, hb, h0, h1⟩ := HC.out k _ hk
    have g0 := (hb1.cell (p := ⟨b, off + k * 2, none⟩) hb).trans h0
    have g1 := (hb1.cell (p := ⟨b, off + k * 2 + 1, none⟩) hb).trans h1
    have he := firstErr_at l k _ hk hbef hne
    have hes : encStr l = [] := by simp [encStr, HCE.out, he]; intro hh; exact absurd hh hne
    have HE : Hid (codeErr l = chk c a) := HCE.out.trans he
    have HS : Hid (encStr l = []) := hes
    clear hk hbef hne he hes h0 h1
    go_wp2_with (go_at_call 52; refine (check_any _ _ _).mono ?_; rintro e w2 ⟨rfl, hb2⟩)
    go_ret2
    exact ⟨by rw [HS.out, HE.out]; rfl, hb1.trans (hb2.mono hb1.size)⟩
end Go.Proofs.Ytenaionchlnpoab

