/- opBegun. -/
import Derived.Test.YtenaionchlnpoaaWe
import Derived.Test.YtenaionchlnpoaaWh
import Derived.Test.YtenaionchlnpoaaWi
namespace Go.Proofs.Ytenaionchlnpoaa
open Go.RowKit
set_option linter.unusedSimpArgs false
set_option linter.unusedVariables false
/-- the ops of 'loop'. -/
def loopOps : List (Int × Int) := [(1, 3), (3, 0), (20, 0), (1, 1), (6, 0), (3, 0), (11, 8), (10, 1), (2, 0), (13, 0)]
theorem opsAt_new {w : World} {b : Nat} {l m : List (Int × Int)} {fz : Nat × Nat} (n cap : Nat) (h : w.heap[b]? = some (.cells (opCells (l ++ m)).toArray 23 fz)) (hn : n = l.length) (hm : l.length ≤ maxLen) : OpsAt w (.slice (some ⟨b, 0, none⟩) n cap) l := by
  subst hn
  refine ⟨_, cap, rfl, hm, fun k o hk => ⟨b, 0, rfl, (Array.getElem?_eq_some_iff.1 h).1, ?_, ?_⟩⟩
  · have := (opCells_at (l ++ m) k o (by rw [List.getElem?_append_left (lt_of_at' hk)]; exact hk)).1
    rw [cell_at' h]; simpa using this
  · have := (opCells_at (l ++ m) k o (by rw [List.getElem?_append_left (lt_of_at' hk)]; exact hk)).2
    rw [cell_at' h]; simpa using this
set_option maxHeartbeats 1000000 in
theorem loop_any (w : World) : Calls Try.prog 41 #[] w fun e w' => e = .returned (.slice (some ⟨w.heap.size, 0, none⟩) 10 10) ∧ w' = w.alloc (.cells (opCells loopOps).toArray 23) := by
  go_enter Try.func41, Try.ntmps41
  go_wp2
  go_ret
  exact ⟨rfl, rfl⟩
theorem enc_fact : encStr [(1, 3), (3, 0)] = [1, 0, 0, 0, 3, 3] ∧ codeErr [(1, 3), (3, 0)] = 0 := by decide +kernel
theorem dec_fact : dec (items 6 [1, 255, 255, 255, 254, 13]) [] = ([(1, -2), (13, 0)], 0) := by decide +kernel
theorem chk_fact1 : chk 1 3 = 0 := by decide +kernel
theorem chk_fact2 : chk 2 1 = 1 := by decide +kernel
theorem wrap_fact : wrap32 2147483648 = -2147483648 := by decide +kernel
set_option maxHeartbeats 2000000 in
theorem opBegun_any (w : World) : Calls Try.prog 14 #[] w fun e w' => e = .returned (.bool true) ∧ Below w.heap.size w w' := by
  go_enter Try.func14, Try.ntmps14
  go_wp2_with fail
  refine (loop_any _).mono ?_
  rintro e w1 ⟨rfl, hw1⟩
  have hb1 : Below w.heap.size w w1 := by rw [hw1]; exact (Below.refl _ w).alloc (Nat.le_refl _) _
  have hh1 : w1.heap[w.heap.size]? = some (.cells (opCells loopOps).toArray 23 (0, 0)) := by rw [hw1]; exact World.alloc_heap_new w _
  clear hw1
  have ho1 := opsAt_new (l := [(1, 3), (3, 0)]) (m := loopOps.drop 2) 2 10 hh1 rfl (by unfold maxLen; simp)
  go_wp2_with fail
  have henc := encode_any _ _ _ ho1
  rw [enc_fact.1, enc_fact.2] at henc
  refine henc.mono ?_
  clear henc ho1
  rintro e w2 ⟨rfl, hb2⟩
  have hd := decode_any ⟨#[1, 255, 255, 255, 254, 13]⟩ (by unfold maxLen; decide) w2
  have hdf : dec (items (ByteArray.size ⟨#[1, 255, 255, 255, 254, 13]⟩) (ByteArray.mk #[1, 255, 255, 255, 254, 13]).data.toList) [] = ([(1, -2), (13, 0)], 0) := dec_fact
  rw [hdf] at hd
  clear hdf
  have HD : Hid (Calls Try.prog 10 #[.string ⟨#[1, 255, 255, 255, 254, 13]⟩] w2 fun e w' => ∃ v, e = .returned (.tuple #[v, .int .i64 0]) ∧ OpsAt w' v [(1, -2), (13, 0)] ∧ Below w2.heap.size w2 w') := hd
  clear hd hh1
  go_wp2_with fail
  refine HD.out.mono ?_
  clear HD
  rintro e w3 ⟨v, rfl, ho3, hb3⟩
  have HO3 : Hid (OpsAt w3 v [(1, -2), (13, 0)]) := ho3
  clear ho3
  go_wp2_with fail
  refine (loop_any _).mono ?_
  rintro e w4 ⟨rfl, hw4⟩
  have hb4 : Below w3.heap.size w3 w4 := by rw [hw4]; exact (Below.refl _ w3).alloc (Nat.le_refl _) _
  have hh4 : w4.heap[w3.heap.size]? = some (.cells (opCells loopOps).toArray 23 (0, 0)) := by rw [hw4]; exact World.alloc_heap_new w3 _
  have HO4 : Hid (OpsAt w4 v [(1, -2), (13, 0)]) := HO3.out.below hb4
  clear hw4 HO3
  have g0 : w4.cell? ⟨w3.heap.size, 0, none⟩ = some (.int .i64 1) := by rw [cell_at' hh4]; rfl
  have g1 : w4.cell? ⟨w3.heap.size, 1, none⟩ = some (.int .i64 3) := by rw [cell_at' hh4]; rfl
  clear hh4
  have hB4 : Below w.heap.size w w4 := hb1.trans ((hb2.trans (hb3.trans (hb4.mono hb3.size) |>.mono hb2.size)).mono hb1.size)
  go_wp2_with fail
  refine (check_any 1 3 _).mono ?_
  rw [chk_fact1]
  rintro e w5 ⟨rfl, hb5⟩
  have HO5 : Hid (OpsAt w5 v [(1, -2), (13, 0)]) := HO4.out.below hb5
  have hB5 : Below w.heap.size w w5 := hB4.trans (hb5.mono hB4.size)
  clear HO4 g0 g1
  go_wp2_with fail
  refine (check_any 2 1 _).mono ?_
  rw [chk_fact2]
  rintro e w6 ⟨rfl, hb6⟩
  have HO6 : Hid (OpsAt w6 v [(1, -2), (13, 0)]) := HO5.out.below hb6
  have hB6 : Below w.heap.size w w6 := hB5.trans (hb6.mono hB5.size)
  clear HO5 hB4 hB5 hb1 hb2 hb3 hb4 hb5 hb6
  go_wp2_with fail
  have hb7 : Below w6.heap.size w6 (w6.alloc (.cells #[.int .i64 1, .int .i64 (-2), .int .i64 13, .int .i64 0] 23)) := (Below.refl _ w6).alloc (Nat.le_refl _) _
  refine (sameOps_any [(1, -2), (13, 0)] [(1, -2), (13, 0)] _ _ _ (HO6.out.below hb7) (opsAt_new (l := [(1, -2), (13, 0)]) (m := []) (fz := (0, 0)) 2 2 (World.alloc_heap_new w6 _) rfl (by unfold maxLen; simp))).mono ?_
  rintro e w8 ⟨rfl, hb8⟩
  have hB8 : Below w.heap.size w w8 := hB6.trans ((hb7.trans (hb8.mono hb7.size)).mono hB6.size)
  clear HO6 hb7 hb8 hB6
  go_wp2_with (go_at_call 17; refine (wrap_any _ _).mono ?_; rintro e w9 ⟨rfl, hw⟩; have hw := hw.symm; subst hw; rw [wrap_fact])
  go_ret
  exact ⟨rfl, hB8⟩
end Go.Proofs.Ytenaionchlnpoaa

