/- The reference's FourOf, CodeBytes, NumberAt, CodeOf. -/
import Derived.Test.YtenaionchlnpoaaPm
import Derived.Test.YtenaionchlnpoaaAp
import Derived.Laws.IdiomStrings
namespace Go.Proofs.Ytenaionchlnpoaa
open Go.RowKit
set_option linter.unusedSimpArgs false
set_option linter.unusedVariables false
theorem conv_new (w : World) (zs : List UInt8) : (convert 57 9 (.slice (some ⟨w.heap.size, 0, none⟩) zs.length zs.length)).run Try.prog (w.alloc (.cells (zs.map (fun b => Value.int .u8 b.toNat)).toArray 5)) = .ok (.string ⟨zs.toArray⟩) (w.alloc (.cells (zs.map (fun b => Value.int .u8 b.toNat)).toArray 5)) := by
  refine run_convert_bytes_back _ _ _ 5 _ _ zs Try.underlying57 Try.underlying5 Try.underlying9 (fun j hj => ?_)
  rw [add_at, World.cell?_alloc_mark]
  simp [hj]
theorem conv4 (w : World) (x0 x1 x2 x3 : Int) (b0 b1 b2 b3 : UInt8) (h0 : x0 = (b0.toNat : Int)) (h1 : x1 = (b1.toNat : Int)) (h2 : x2 = (b2.toNat : Int)) (h3 : x3 = (b3.toNat : Int)) :
    (convert 57 9 (.slice (some ⟨w.heap.size, 0, none⟩) 4 4)).run Try.prog (w.alloc (.cells #[.int .u8 x0, .int .u8 x1, .int .u8 x2, .int .u8 x3] 5)) = .ok (.string ⟨#[b0, b1, b2, b3]⟩) (w.alloc (.cells #[.int .u8 x0, .int .u8 x1, .int .u8 x2, .int .u8 x3] 5)) := by
  subst h0 h1 h2 h3
  exact conv_new w [b0, b1, b2, b3]
theorem conv1 (w : World) (x0 : Int) (b0 : UInt8) (h0 : x0 = (b0.toNat : Int)) :
    (convert 57 9 (.slice (some ⟨w.heap.size, 0, none⟩) 1 1)).run Try.prog (w.alloc (.cells #[.int .u8 x0] 5)) = .ok (.string ⟨#[b0]⟩) (w.alloc (.cells #[.int .u8 x0] 5)) := by
  subst h0
  exact conv_new w [b0]
set_option maxRecDepth 100000 in
set_option maxHeartbeats 1000000 in
theorem fourOf_any (n : Int) (w : World) (h1 : -2147483648 ≤ n) (h2 : n ≤ 2147483647) : Calls Try.prog 38 #[.int .i64 n] w fun e w' => e = .returned (.string ⟨#[byteOf (n / 16777216), byteOf (n / 65536), byteOf (n / 256), byteOf n]⟩) ∧ Below w.heap.size w w' := by
  by_cases h0 : n < 0
  · have hcv := conv4 w ((n + 4294967296) / 16777216) ((n + 4294967296) / 65536 % 256) ((n + 4294967296) / 256 % 256) ((n + 4294967296) % 256) (byteOf (n / 16777216)) (byteOf (n / 65536)) (byteOf (n / 256)) (byteOf n) (by rw [byteOf_toNat]; omega) (by rw [byteOf_toNat]; omega) (by rw [byteOf_toNat]; omega) (by rw [byteOf_toNat]; omega)
    go_enter Try.func38, Try.ntmps38
    go_wp2
    go_ret
    exact ⟨rfl, (Below.refl _ w).alloc (Nat.le_refl _) _⟩
  · have hcv := conv4 w (n / 16777216) (n / 65536 % 256) (n / 256 % 256) (n % 256) (byteOf (n / 16777216)) (byteOf (n / 65536)) (byteOf (n / 256)) (byteOf n) (by rw [byteOf_toNat]; omega) (by rw [byteOf_toNat]) (by rw [byteOf_toNat]) (by rw [byteOf_toNat])
    go_enter Try.func38, Try.ntmps38
    go_wp2
    go_ret
    exact ⟨rfl, (Below.refl _ w).alloc (Nat.le_refl _) _⟩
theorem size_of_list {X : ByteArray} {l : List UInt8} (h : X.data.toList = l) : X.size = l.length := by rw [← h]; simp
set_option maxRecDepth 100000 in
set_option maxHeartbeats 2000000 in
theorem codeBytes_any (l : List (Int × Int)) (v : Value) (w : World) (h : OpsAt w v l) (h40 : l.length ≤ 40) (hok : ∀ o ∈ l, chk o.1 o.2 = 0) : Calls Try.prog 12 #[v] w fun e w' => ∃ X : ByteArray, e = .returned (.string X) ∧ X.data.toList = codeBytes l ∧ Below w.heap.size w w' := by
  obtain ⟨p, cap, rfl, hm, hc⟩ := h
  have HC : Hid (∀ k o, l[k]? = some o → ∃ b off, p = some ⟨b, off, none⟩ ∧ b < w.heap.size ∧ w.cell? ⟨b, off + k * 2, none⟩ = some (.int .i64 o.1) ∧ w.cell? ⟨b, off + k * 2 + 1, none⟩ = some (.int .i64 o.2)) := hc
  have HOK : Hid (∀ o ∈ l, chk o.1 o.2 = 0) := hok
  clear hc hok hm
  go_enter Try.func12, Try.ntmps12
  go_wp2
  go_loopw [3, 4] (fun x i wr => ∃ (k : Nat) (X : ByteArray), k ≤ l.length ∧ i = .int .i64 k ∧ x = .string X ∧ X.data.toList = codeBytes (l.take k) ∧ Below w.heap.size w wr) (fun _ i _ => l.length - (intOf i).toNat)
  case atStart => exact ⟨0, ⟨#[]⟩, Nat.zero_le _, rfl, rfl, by simp [codeBytes], Below.refl _ _⟩
  case round =>
    obtain ⟨k, X, hk, rfl, rfl, hX, hbw⟩ := hrel
    have HX : Hid (X.data.toList = codeBytes (l.take k)) := hX
    have hXs : X.size ≤ 5 * k := by
      have h1 := size_of_list hX
      have h2 := codeBytes_le (l.take k)
      rw [List.length_take] at h2
      omega
    clear hX
    by_cases hlt : k < l.length
    · obtain ⟨⟨c, a⟩, ho⟩ := at_of_lt hlt
      obtain ⟨b, off, rfl, hb, h0, h1⟩ := HC.out k _ ho
      have hz := HOK.out (c, a) (List.mem_of_getElem? ho)
      obtain ⟨z1, z2, z3, z4⟩ := chk_zero hz
      have g0 := (hbw.cell (p := ⟨b, off + k * 2, none⟩) hb).trans h0
      have g1 := (hbw.cell (p := ⟨b, off + k * 2 + 1, none⟩) hb).trans h1
      have HO : Hid (l[k]? = some (c, a)) := ho
      have hc1 : 1 ≤ c := by simp [isCode] at z1; exact z1.1
      have hc2 : c ≤ 21 := by simp [isCode] at z1; exact z1.2
      have hcv := conv1 wr c (byteOf c) (code_byte z1).symm
      have hadd := fun (w : World) => run_string_add_sum (P := Try.prog) (w := w) X ⟨#[byteOf c]⟩ (by have : ByteArray.size ⟨#[byteOf c]⟩ = 1 := rfl; omega)
      have hlow : b < wr.heap.size := Nat.lt_of_lt_of_le hb hbw.size
      clear ho h0 h1 hz z1 z2
      cases hh : hasA c
      · go_wp2_with (go_at_call 37; refine (hasA_any _ _).mono ?_; rintro e w' ⟨rfl, hw⟩; have hw := hw.symm; subst hw)
        go_roundw
        case rel =>
          refine ⟨k + 1, X ++ ⟨#[byteOf c]⟩, by omega, by go_num, rfl, ?_, hbw.alloc hbw.size _⟩
          rw [ByteArray.data_append, Array.toList_append, HX.out, codeBytes_snoc l k _ HO.out]
          simp [opBytes, hh]
        case measure => simp [intOf]; omega
      · go_wp2_with (go_at_call 37; refine (hasA_any _ _).mono ?_; rintro e w' ⟨rfl, hw⟩; have hw := hw.symm; subst hw)
        refine (fourOf_any a _ z3 z4).mono ?_
        rintro e w3 ⟨rfl, hb3⟩
        have hadd2 := fun (w : World) => run_string_add_sum (P := Try.prog) (w := w) (X ++ ⟨#[byteOf c]⟩) ⟨#[byteOf (a / 16777216), byteOf (a / 65536), byteOf (a / 256), byteOf a]⟩ (by have : ByteArray.size ⟨#[byteOf c]⟩ = 1 := rfl; have : ByteArray.size ⟨#[byteOf (a / 16777216), byteOf (a / 65536), byteOf (a / 256), byteOf a]⟩ = 4 := rfl; rw [ByteArray.size_append]; omega)
        have hbw3 := (hbw.alloc hbw.size (.cells #[.int .u8 c] 5)).trans (hb3.mono (by have := hbw.size; simp; omega))
        go_wp2
        go_roundw
        case rel =>
          refine ⟨k + 1, X ++ ⟨#[byteOf c]⟩ ++ ⟨#[byteOf (a / 16777216), byteOf (a / 65536), byteOf (a / 256), byteOf a]⟩, by omega, by go_num, rfl, ?_, hbw3⟩
          rw [ByteArray.data_append, Array.toList_append, ByteArray.data_append, Array.toList_append, HX.out, codeBytes_snoc l k _ HO.out]
          simp [opBytes, hh]
        case measure => simp [intOf]; omega
    · have hlt' : ¬ (k : Int) < (l.length : Int) := by omega
      go_wp2
      go_ret
      exact ⟨X, rfl, by rw [HX.out, List.take_of_length_le (by omega)], hbw⟩
set_option maxRecDepth 100000 in
set_option maxHeartbeats 1000000 in
theorem numberAt_any (s : ByteArray) (k : Nat) (w : World) (hk : k + 4 ≤ s.size) (hs : s.size ≤ maxLen) : Calls Try.prog 40 #[.string s, .int .i64 k] w fun e w' => e = .returned (.int .i64 (wrap32 (numOf ((s.data.toList.drop k).take 4)))) ∧ w' = w := by
  unfold maxLen at hs
  go_enter Try.func40, Try.ntmps40
  go_wp2
  go_loop [5, 6] (fun n i => ∃ j : Nat, j ≤ 4 ∧ i = .int .i64 ((k + j : Nat) : Int) ∧ n = .int .i64 (numOf ((s.data.toList.drop k).take j))) (fun _ i => k + 4 - (intOf i).toNat)
  case atStart => exact ⟨0, by omega, rfl, rfl⟩
  case round =>
    obtain ⟨j, hj, rfl, rfl⟩ := hrel
    by_cases hlt : j < 4
    · have hl := numOf_small ((s.data.toList.drop k).take j) (by rw [List.length_take]; omega)
      have hlti : k + j < s.size := by omega
      have HE : Hid (256 * ((numOf ((s.data.toList.drop k).take j) : Nat) : Int) + (s[k + j].toNat : Int) = ((numOf ((s.data.toList.drop k).take (j + 1)) : Nat) : Int)) := by
        show _ = _
        have hx : (s.data.toList.drop k)[j]? = some s[k + j] := by
          rw [List.getElem?_drop, List.getElem?_eq_getElem (by simpa using hlti)]; rfl
        rw [take_snoc _ j _ hx, numOf_snoc]
        omega
      have hb := s[k + j].toNat_lt
      go_wp2
      go_round
      case rel => exact ⟨j + 1, by omega, by go_num, by rw [HE.out]⟩
      case measure => simp [intOf]; omega
    · obtain rfl : j = 4 := by omega
      have hr : -9223372036854775808 ≤ ((numOf ((s.data.toList.drop k).take 4) : Nat) : Int) ∧ ((numOf ((s.data.toList.drop k).take 4) : Nat) : Int) ≤ 9223372036854775807 := by
        have := numOf_small ((s.data.toList.drop k).take 4) (by rw [List.length_take]; omega)
        omega
      go_wp2_with (go_at_call 18; refine (wrapOf_any _ _ hr).mono ?_; rintro e w' ⟨rfl, hw⟩; have hw := hw.symm; subst hw)
      go_ret
      exact ⟨rfl, rfl⟩
end Go.Proofs.Ytenaionchlnpoaa

