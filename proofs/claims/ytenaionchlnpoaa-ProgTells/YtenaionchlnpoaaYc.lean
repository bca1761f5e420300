/- The reader of the reference. -/
import Derived.Test.YtenaionchlnpoaaYb
import Derived.Test.YtenaionchlnpoaaWl
namespace Go.Proofs.Ytenaionchlnpoaa
open Go.RowKit
set_option linter.unusedSimpArgs false
set_option linter.unusedVariables false
/-- the place in block A, the text in block S, whether all is well in block O. -/
def RO (W : World) (A S O : Nat) (s : ByteArray) (st : Rd) : Prop :=
  ∃ k : Nat, W.heap[A]? = some (.cells #[.int .i64 k] 3 (0, 0)) ∧ W.heap[S]? = some (.cells #[.string s] 9 (0, 0)) ∧ W.heap[O]? = some (.cells #[.bool st.isSome] 4 (0, 0)) ∧ k ≤ s.size ∧ (∀ r, st = some r → r = s.data.toList.drop k) ∧ (st = none → k = s.size)
theorem RO.kept {W W' : World} {A S O : Nat} {s : ByteArray} {st : Rd} {row : Option Nat} (h : RO W A S O s st) (hg : W.grownBy W' row) (hr : ∀ r, row = some r → r ≠ A ∧ r ≠ S ∧ r ≠ O) : RO W' A S O s st := by
  obtain ⟨k, h1, h2, h3, h4⟩ := h
  exact ⟨k, (hg.block _ (heap_lt h1) (fun e => (hr _ e.symm).1 rfl)).trans h1, (hg.block _ (heap_lt h2) (fun e => (hr _ e.symm).2.1 rfl)).trans h2, (hg.block _ (heap_lt h3) (fun e => (hr _ e.symm).2.2 rfl)).trans h3, h4⟩
/-- what lies below F stays, but for the blocks A and O. -/
structure KL (A O F : Nat) (W W' : World) : Prop where
  os : W'.os = W.os
  tape : W'.tape = W.tape
  output : W'.output = W.output
  size : W.heap.size ≤ W'.heap.size
  block : ∀ k, k < F → k ≠ A → k ≠ O → W'.heap[k]? = W.heap[k]?
theorem KL.refl (A O F : Nat) (W : World) : KL A O F W W := ⟨rfl, rfl, rfl, Nat.le_refl _, fun _ _ _ _ => rfl⟩
theorem KL.grown {A O F : Nat} {W W' W'' : World} {row : Option Nat} (h : KL A O F W W') (hg : W'.grownBy W'' row) (hF : F ≤ W'.heap.size) (hr : ∀ r, row = some r → r = A ∨ r = O ∨ F ≤ r) : KL A O F W W'' :=
  ⟨hg.os.trans h.os, hg.tape.trans h.tape, hg.output.trans h.output, Nat.le_trans h.size hg.size, fun k hk ha ho => (hg.block k (by omega) (fun e => by rcases hr k e.symm with h1 | h1 | h1 <;> omega)).trans (h.block k hk ha ho)⟩
/-- one of the blocks A and O was written, and no other one. -/
def Wrote (A O : Nat) (W W' : World) : Prop := ∃ r, (r = A ∨ r = O) ∧ W.grownBy W' (some r)
set_option maxHeartbeats 2000000 in
theorem one2_any (A S O : Nat) (s : ByteArray) (st : Rd) (W : World) (h : RO W A S O s st) (hs : s.size ≤ 2000) (hAS : A ≠ S) (hAO : A ≠ O) (hSO : S ≠ O) :
    Calls Try.prog 49 #[.pointer (some ⟨A, 0, none⟩), .pointer (some ⟨S, 0, none⟩), .pointer (some ⟨O, 0, none⟩)] W fun e w' => e = .returned (.int .i64 (numOf (takeR st 1).1)) ∧ RO w' A S O s (takeR st 1).2 ∧ Wrote A O W w' := by
  obtain ⟨k, h1, h2, h3, h4, h5, h6⟩ := h
  have c1 := cell_at' h1 0
  have c2 := cell_at' h2 0
  have c3 := cell_at' h3 0
  have z1 := Lib.frozen_of_heap h1 0
  have z3 := Lib.frozen_of_heap h3 0
  simp at c1 c2 c3
  have hlen : s.data.toList.length = s.size := by simp
  by_cases hlt : k < s.size
  · have hlti : (k : Int) < (s.size : Int) := by omega
    obtain ⟨r, rfl⟩ : ∃ r, st = some r := by
      cases st with
      | none => have := h6 rfl; omega
      | some r => exact ⟨r, rfl⟩
    have hr := h5 r rfl
    have hk : (s.data.toList)[k]? = some s[k] := by rw [List.getElem?_eq_getElem (by omega)]; rfl
    have hr2 : r = s[k] :: s.data.toList.drop (k + 1) := by
      rw [hr, List.drop_eq_getElem_cons (by omega)]
      rfl
    have ht : takeR (some r) 1 = ([s[k]], some (s.data.toList.drop (k + 1))) := by rw [hr2]; simp [takeR]
    have h1' := heap_setCell_same W A 0 _ _ (.int .i64 ((k : Int) + 1)) h1
    have c1' := cell_at' h1' 0
    simp at c1'
    have hwr : wrap64 (s[k].toNat : Int) = (s[k].toNat : Int) := by have := s[k].toNat_lt; unfold wrap64; omega
    have HT := hideP ht
    have H1 := hideP h1
    have H2 := hideP h2
    have H3 := hideP h3
    have H1' := hideP h1'
    clear ht h1 h2 h3 h1' h5 h6 hr hk hr2 hlen
    go_enter Try.func49, Try.ntmps49
    go_wp2
    go_ret
    refine ⟨by rw [HT.out, numOf_b]; exact ret_int hwr, ?_, ⟨A, .inl rfl, grown_set W A 0 _⟩⟩
    rw [HT.out]
    refine ⟨k + 1, ?_, ?_, ?_, by omega, fun r hr => ?_, fun hn => by cases hn⟩
    · exact H1'.out
    · exact (heap_setCell_other W ⟨A, 0, none⟩ S _ (by simpa using hAS.symm)).trans H2.out
    · exact (heap_setCell_other W ⟨A, 0, none⟩ O _ (by simpa using hAO.symm)).trans H3.out
    · cases hr; rfl
  · have hlti : ¬ (k : Int) < (s.size : Int) := by omega
    obtain rfl : k = s.size := by omega
    have ht : takeR st 1 = ([], none) := by
      cases st with
      | none => rfl
      | some r => rw [h5 r rfl, List.drop_eq_nil_of_le (by omega)]; simp [takeR]
    have h3' := heap_setCell_same W O 0 _ _ (.bool false) h3
    have HT := hideP ht
    have H1 := hideP h1
    have H2 := hideP h2
    have H3' := hideP h3'
    clear ht h1 h2 h3 h3' h5 h6 hlen
    go_enter Try.func49, Try.ntmps49
    go_wp2
    go_ret
    refine ⟨by rw [HT.out]; rfl, ?_, ⟨O, .inr rfl, grown_set W O 0 _⟩⟩
    rw [HT.out]
    refine ⟨s.size, ?_, ?_, ?_, by omega, fun r hr => (by cases hr), fun _ => rfl⟩
    · exact (heap_setCell_other W ⟨O, 0, none⟩ A _ (by simpa using hAO)).trans H1.out
    · exact (heap_setCell_other W ⟨O, 0, none⟩ S _ (by simpa using hSO)).trans H2.out
    · exact H3'.out
end Go.Proofs.Ytenaionchlnpoaa

