/- The reader: take, number. -/
import Derived.Test.YtenaionchlnpoaaVe
namespace Go.Proofs.Ytenaionchlnpoaa
open Go.RowKit
set_option linter.unusedSimpArgs false
set_option linter.unusedVariables false
/-- what a reader has left; none, once there were too few. -/
abbrev Rd := Option (List UInt8)
/-- so many bytes from the front. -/
def takeR : Rd → Nat → List UInt8 × Rd
  | none, _ => ([], none)
  | some r, n => if n ≤ r.length then (r.take n, some (r.drop n)) else ([], none)
/-- the reader in block b. -/
def RdAt (w : World) (b : Nat) (st : Rd) : Prop := ∃ X : ByteArray, w.heap[b]? = some (.cells #[.string X, .bool st.isNone] 96 (0, 0)) ∧ X.data.toList = st.getD [] ∧ X.size ≤ 140737488351232
theorem RdAt.kept {w w' : World} {b : Nat} {st : Rd} {row : Option Nat} (h : RdAt w b st) (hg : w.grownBy w' row) (hne : row ≠ some b) : RdAt w' b st := by
  obtain ⟨X, h1, h2, h3⟩ := h
  exact ⟨X, (hg.block b (heap_lt h1) (fun e => hne e.symm)).trans h1, h2, h3⟩
theorem grown_set (W : World) (b j : Nat) (v : Value) : W.grownBy (W.setCell ⟨b, j, none⟩ v) (some b) :=
  ⟨rfl, rfl, rfl, by simp, fun k _ hk => Below.heap_setCell _ _ _ _ (fun e => hk (by rw [e]))⟩
theorem extract_list (X : ByteArray) (a b : Nat) : (X.extract a b).data.toList = (X.data.toList.drop a).take (b - a) := Lib.extract_data X a b
set_option maxHeartbeats 2000000 in
theorem take_any (b n : Nat) (st : Rd) (w : World) (h : RdAt w b st) (hn : n ≤ 70000) : Calls Try.prog 77 #[.pointer (some ⟨b, 0, none⟩), .int .i64 n] w fun e w' => ∃ S : ByteArray, e = .returned (.string S) ∧ S.data.toList = (takeR st n).1 ∧ RdAt w' b (takeR st n).2 ∧ w.grownBy w' (some b) := by
  obtain ⟨X, hh, hX, hXs⟩ := h
  have hsz : X.size = (st.getD []).length := by rw [← hX]; simp
  have c0 : w.cell? ⟨b, 0, none⟩ = some (.string X) := cell_at' hh 0
  have c1 : w.cell? ⟨b, 1, none⟩ = some (.bool st.isNone) := cell_at' hh 1
  have f0 : w.frozen? ⟨b, 0, none⟩ = false := Lib.frozen_of_heap hh 0
  have f1 : w.frozen? ⟨b, 1, none⟩ = false := Lib.frozen_of_heap hh 1
  have HX : Hid (X.data.toList = st.getD []) := hX
  have HSZ : Hid (X.size = (st.getD []).length) := hsz
  have HH : Hid (w.heap[b]? = some (.cells #[.string X, .bool st.isNone] 96 (0, 0))) := hh
  clear hX hsz hh
  by_cases hle : n ≤ X.size
  · have hle' : ¬ (X.size : Int) < (n : Int) := by omega
    go_enter Try.func77, Try.ntmps77
    go_wp2
    go_ret
    have hs := HSZ.out
    have hx := HX.out
    have e1 : (takeR st n).1 = X.data.toList.take n := by
      cases st with
      | none => rw [hx]; simp [takeR]
      | some r => simp at hx hs; rw [hx]; simp [takeR, show n ≤ r.length from by omega]
    have e2 : (takeR st n).2.getD [] = X.data.toList.drop n := by
      cases st with
      | none => rw [hx]; simp [takeR]
      | some r => simp at hx hs; rw [hx]; simp [takeR, show n ≤ r.length from by omega]
    have e3 : (takeR st n).2.isNone = st.isNone := by
      cases st with
      | none => simp [takeR]
      | some r => simp at hs; simp [takeR, show n ≤ r.length from by omega]
    refine ⟨_, rfl, ?_, ⟨X.extract n X.size, ?_, ?_, ?_⟩, grown_set _ _ _ _⟩
    · rw [e1, extract_list]; simp
    · rw [e3, heap_setCell_same w b 0 _ _ _ HH.out]; rfl
    · rw [e2, extract_list, List.take_of_length_le (by simp)]
    · simp; omega
  · have hle' : (X.size : Int) < (n : Int) := by omega
    go_enter Try.func77, Try.ntmps77
    go_wp2
    go_ret
    have hs := HSZ.out
    have hn0 : takeR st n = ([], none) := by
      cases st with
      | none => rfl
      | some r => simp at hs; simp [takeR, show ¬ n ≤ r.length from by omega]
    refine ⟨_, rfl, ?_, ⟨⟨#[]⟩, ?_, ?_, ?_⟩, (grown_set _ _ _ _).trans (grown_set _ _ _ _)⟩
    · rw [hn0]
    · rw [hn0, heap_setCell_same _ b 1 _ _ _ (heap_setCell_same w b 0 _ _ _ HH.out)]; rfl
    · rw [hn0]; rfl
    · exact Nat.zero_le _
set_option maxHeartbeats 2000000 in
theorem rnumber_any (b n : Nat) (st : Rd) (w : World) (h : RdAt w b st) (hn : n ≤ 4) : Calls Try.prog 64 #[.pointer (some ⟨b, 0, none⟩), .int .i64 n] w fun e w' => e = .returned (.int .i64 (numOf (takeR st n).1)) ∧ RdAt w' b (takeR st n).2 ∧ w.grownBy w' (some b) := by
  have hl : (takeR st n).1.length ≤ 4 := by
    cases st with
    | none => simp [takeR]
    | some r => simp only [takeR]; split <;> simp; omega
  go_enter Try.func64, Try.ntmps64
  go_wp2_with fail
  refine (take_any b n st w h (by omega)).mono ?_
  rintro e w2 ⟨S, rfl, hS, hR, hg⟩
  have hSs : S.size ≤ 4 := by have : S.size = (takeR st n).1.length := by rw [← hS]; simp
                              omega
  have HS : Hid (S.data.toList = (takeR st n).1) := hS
  clear hS
  go_wp2_with (go_at_call 75; refine (number_any S _ hSs).mono ?_; rintro e w' ⟨rfl, hw⟩; have hw := hw.symm; subst hw)
  go_ret
  exact ⟨by rw [← HS.out]; rfl, hR, hg⟩
end Go.Proofs.Ytenaionchlnpoaa

