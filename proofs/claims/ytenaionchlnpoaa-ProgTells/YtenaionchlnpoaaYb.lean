/- ProgramBytes. -/
import Derived.Test.YtenaionchlnpoaaYa
import Derived.Test.YtenaionchlnpoaaWk
import Derived.Deep.RegionHeld3
namespace Go.Proofs.Ytenaionchlnpoaa
open Go.RowKit
set_option linter.unusedSimpArgs false
set_option linter.unusedVariables false
set_option maxRecDepth 100000 in
set_option maxHeartbeats 1000000 in
theorem one_any (n : Int) (w : World) : Calls Try.prog 48 #[.int .i64 n] w fun e w' => e = .returned (.string ⟨#[byteOf n]⟩) ∧ Below w.heap.size w w' := by
  have hcv := conv1 w (n % 256) (byteOf n) (byteOf_toNat n).symm
  go_enter Try.func48, Try.ntmps48
  go_wp2
  go_ret
  exact ⟨rfl, (Below.refl _ w).alloc (Nat.le_refl _) _⟩
theorem flat_take (l : List Fn) (k : Nat) (f : Fn) (h : l[k]? = some f) : (l.take (k + 1)).flatMap fnBytes = (l.take k).flatMap fnBytes ++ fnBytes f := by
  rw [take_snoc l k f h, List.flatMap_append]; simp
theorem list_app (X Y : ByteArray) : (X ++ Y).data.toList = X.data.toList ++ Y.data.toList := by rw [ByteArray.data_append, Array.toList_append]
set_option maxRecDepth 100000 in
set_option maxHeartbeats 16000000 in
theorem programBytes_any (l : List Fn) (v : Value) (w : World) (h : FnsAt w v l) (hpe : progErr l = 0) : Calls Try.prog 23 #[.agg #[v]] w fun e w' => ∃ X : ByteArray, e = .returned (.string X) ∧ X.data.toList = progBytes l ∧ Below w.heap.size w w' := by
  obtain ⟨_, hl5, hfe, _⟩ := progErr_zero hpe
  obtain ⟨p, cap, rfl, hm, hc⟩ := h
  have n1 := heap_new w (.cells #[.slice p l.length cap] 41)
  have hw : Below w.heap.size w (w.alloc (.cells #[.slice p l.length cap] 41)) := (Below.refl _ w).alloc (Nat.le_refl _) _
  obtain ⟨W1, hW1⟩ : ∃ W, w.alloc (.cells #[.slice p l.length cap] 41) = W := ⟨_, rfl⟩
  rw [hW1] at n1 hw
  have hz1 := heap_lt n1
  have a1 := cell_at' n1 0
  simp only [List.getElem?_toArray, List.getElem?_cons_zero] at a1
  have HC := hideP hc
  have HFE := hideP hfe
  clear hc hfe hm n1 hpe
  go_enter Try.func23, Try.ntmps23
  go_wp2_with fail
  refine (one_any _ _).mono ?_
  rintro e w0 ⟨rfl, hb0⟩
  have a0 := (hb0.cell (p := ⟨w.heap.size, 0, none⟩) hz1).trans a1
  have hw0 := hw.trans (hb0.mono hw.size)
  have hz0 := Nat.lt_of_lt_of_le hz1 hb0.size
  clear hW1
  go_wp2
  go_loopw [4, 5] (fun x i wr => ∃ (k : Nat) (X : ByteArray), k ≤ l.length ∧ i = .int .i64 k ∧ x = .string X ∧ X.data.toList = byteOf l.length :: (l.take k).flatMap fnBytes ∧ X.size ≤ 1 + 211 * k ∧ Below w0.heap.size w0 wr) (fun _ i _ => l.length - (intOf i).toNat)
  case atStart => exact ⟨0, _, Nat.zero_le _, rfl, rfl, by simp, by show 1 ≤ _; omega, Below.refl _ _⟩
  case round =>
    rename World => w2
    obtain ⟨k, X, hk, rfl, rfl, hX, hXs, hbw0⟩ := hrel
    have HX := hideP hX
    clear hX
    have hbw := hw0.trans (hbw0.mono hw0.size)
    have b1 := (hbw0.cell (p := ⟨w.heap.size, 0, none⟩) hz0).trans a0
    have hzr := hbw0.size
    by_cases hlt : k < l.length
    · have hlti : (k : Int) < (l.length : Int) := by omega
      obtain ⟨⟨P, L, R, C⟩, ho⟩ := at_of_lt hlt
      obtain ⟨b, off, c0, c1, c2, c3, rfl, hb, x0, x1, x2, x3, hF⟩ := HC.out k _ ho
      have g0 := (hbw.cell (p := ⟨b, off + k * 4, none⟩) hb).trans x0
      have g1 := (hbw.cell (p := ⟨b, off + k * 4 + 1, none⟩) hb).trans x1
      have g2 := (hbw.cell (p := ⟨b, off + k * 4 + 2, none⟩) hb).trans x2
      have g3 := (hbw.cell (p := ⟨b, off + k * 4 + 3, none⟩) hb).trans x3
      have hFr := hF.below hbw
      have hfz := HFE.out _ (List.mem_of_getElem? ho)
      obtain ⟨hL6, _, _, _, hCz, _⟩ := fnErr_zero hfz
      obtain ⟨hC40, hCok⟩ := codeErr_zero _ hCz
      simp only at hL6 hC40 hCok
      have HCOK := hideP hCok
      have HO := hideP ho
      clear ho x0 x1 x2 x3 hfz hCz hCok
      obtain ⟨rfl, ⟨p1, q1, rfl, hLm, _⟩, rfl, ⟨p3, q3, rfl, hCm, _⟩⟩ := hF
      simp only at g0 g1 g2 g3 hFr
      clear hLm hCm
      have nF := heap_new w2 (.cells #[.int .i64 P, .slice p1 L.length q1, .int .i64 R, .slice p3 C.length q3] 72)
      have bF : Below w2.heap.size w2 (w2.alloc (.cells #[.int .i64 P, .slice p1 L.length q1, .int .i64 R, .slice p3 C.length q3] 72)) := (Below.refl _ w2).alloc (Nat.le_refl _) _
      obtain ⟨WF, hWF⟩ : ∃ W, w2.alloc (.cells #[.int .i64 P, .slice p1 L.length q1, .int .i64 R, .slice p3 C.length q3] 72) = W := ⟨_, rfl⟩
      rw [hWF] at nF bF
      have hzF := heap_lt nF
      have hFF := hFr.below bF
      have e0 := cell_at' nF 0
      have e1 := cell_at' nF 1
      simp at e0 e1
      have hBF0 := hbw0.trans (bF.mono hbw0.size)
      have hs1 : ∀ x : UInt8, ByteArray.size ⟨#[x]⟩ = 1 := fun _ => rfl
      have hadd1 := fun (w : World) => run_string_add_sum (P := Try.prog) (w := w) ⟨#[byteOf P]⟩ ⟨#[byteOf (L.length : Int)]⟩ (by rw [hs1, hs1]; decide)
      have hadd2 := fun (w : World) => run_string_add_sum (P := Try.prog) (w := w) X (⟨#[byteOf P]⟩ ++ ⟨#[byteOf (L.length : Int)]⟩) (by rw [ByteArray.size_append, hs1, hs1]; omega)
      have hY : Hid ((X ++ ((⟨#[byteOf P]⟩ : ByteArray) ++ (⟨#[byteOf (L.length : Int)]⟩ : ByteArray))).data.toList = byteOf l.length :: (l.take k).flatMap fnBytes ++ [byteOf P, byteOf L.length]) := by
        show _ = _
        rw [list_app, list_app, HX.out]; rfl
      go_wp2_with fail
      go_region_held3 (fun W => W.cell? ⟨w2.heap.size, 0, none⟩ = some (.int .i64 P) ∧ W.cell? ⟨w2.heap.size, 1, none⟩ = some (.slice p1 L.length q1)) (go_keep)
        (first
          | (go_at_call 48; refine (one_any P _).mono ?_; rintro e w3 ⟨rfl, hb3'⟩; have hb3 : Below WF.heap.size WF w3 := ((Below.refl WF.heap.size WF).drew).trans hb3'; have n3 := (hb3.block _ hzF).trans nF; have u0 := (hb3.cell (p := ⟨w2.heap.size, 0, none⟩) hzF).trans e0; have u1 := (hb3.cell (p := ⟨w2.heap.size, 1, none⟩) hzF).trans e1; have hF3 := hFF.below hb3; have hB3 := hBF0.trans (hb3.mono hBF0.size); have hz3 := heap_lt n3; clear hb3 hb3')
          | (go_at_call 48; refine (one_any (L.length : Int) _).mono ?_; rintro e w4 ⟨rfl, hb4⟩; have n4 := (hb4.block _ hz3).trans n3; have y0 := (hb4.cell (p := ⟨w2.heap.size, 0, none⟩) hz3).trans u0; have y1 := (hb4.cell (p := ⟨w2.heap.size, 1, none⟩) hz3).trans u1; have hF4 := hF3.below hb4; have hB4 := hB3.trans (hb4.mono hB3.size); have hz4 := heap_lt n4; clear hb4))
      clear hadd1 hadd2
      go_wp2
      obtain ⟨Y0, hY0⟩ : ∃ Y, X ++ ((⟨#[byteOf P]⟩ : ByteArray) ++ (⟨#[byteOf (L.length : Int)]⟩ : ByteArray)) = Y := ⟨_, rfl⟩
      rw [hY0] at hY ⊢
      have hY0s : Y0.size ≤ 3 + 211 * k := by rw [← hY0, ByteArray.size_append, ByteArray.size_append, hs1, hs1]; omega
      go_loopw [4, 7] (fun x i wr => ∃ (j : Nat) (Y : ByteArray), j ≤ L.length ∧ i = .int .i64 j ∧ x = .string Y ∧ Y.data.toList = Y0.data.toList ++ (L.take j).map byteOf ∧ Y.size ≤ 3 + 211 * k + j ∧ Below w4.heap.size w4 wr) (fun _ i _ => L.length - (intOf i).toNat)
      case atStart => exact ⟨0, _, Nat.zero_le _, rfl, rfl, by simp, by omega, Below.refl _ _⟩
      case round =>
        rename World => w5
        obtain ⟨j, Y, hj, rfl, rfl, hYj, hYs, hb5⟩ := hrel
        have HYJ := hideP hYj
        clear hYj
        have n5 := (hb5.block _ hz4).trans n4
        have f1 := cell_at' n5 1
        have f2 := cell_at' n5 2
        have f3 := cell_at' n5 3
        simp at f1 f2 f3
        have hz5 := heap_lt n5
        have hF5 := hF4.below hb5
        have hB5 := hB4.trans (hb5.mono hB4.size)
        by_cases hjl : j < L.length
        · have hji : (j : Int) < (L.length : Int) := by omega
          obtain ⟨z, hz⟩ := at_of_lt hjl
          obtain ⟨_, _, hpp, _, hcc⟩ := hF5.2.1
          obtain ⟨bL, oL, hpe, _, cz⟩ := hcc j z hz
          cases hpp
          subst hpe
          have HZ := hideP hz
          clear hz hcc
          have hadd3 := fun (w : World) => run_string_add_sum (P := Try.prog) (w := w) Y ⟨#[byteOf z]⟩ (by rw [hs1]; omega)
          go_wp2_with fail
          refine (one_any z _).mono ?_
          rintro e w6 ⟨rfl, hb6⟩
          go_wp2
          go_roundw
          case rel => exact ⟨j + 1, Y ++ ⟨#[byteOf z]⟩, by omega, by go_num, rfl, by rw [list_app, HYJ.out, take_snoc L j z HZ.out]; simp, by rw [ByteArray.size_append, hs1]; omega, hb5.trans (hb6.mono hb5.size)⟩
          case measure => simp [intOf]; omega
        · have hji : ¬ (j : Int) < (L.length : Int) := by omega
          obtain rfl : j = L.length := by omega
          go_wp2_with fail
          refine (codeBytes_any C _ _ hF5.2.2.2 hC40 HCOK.out).mono ?_
          rintro e w6 ⟨T, rfl, hT, hb6⟩
          have hTs : T.size ≤ 200 := by
            have h1 := size_of_list hT
            have h2 := codeBytes_le C
            omega
          have HT := hideP hT
          clear hT
          have n6 := (hb6.block _ hz5).trans n5
          have m2 := cell_at' n6 2
          simp at m2
          have hz6 := heap_lt n6
          have hB6 := hB5.trans (hb6.mono hB5.size)
          go_wp2_with fail
          refine (one_any R _).mono ?_
          rintro e w7 ⟨rfl, hb7⟩
          have hB7 := hB6.trans (hb7.mono hB6.size)
          go_wp2_with fail
          refine (one_any _ _).mono ?_
          rintro e w8 ⟨rfl, hb8⟩
          have hB8 := hB7.trans (hb8.mono hB7.size)
          go_wp2_with fail
          refine (one_any _ _).mono ?_
          rintro e w9 ⟨rfl, hb9⟩
          have hB9 := hB8.trans (hb9.mono hB8.size)
          have hTl : T.size = (codeBytes C).length := size_of_list HT.out
          go_wp2
          go_roundw
          case rel =>
            refine ⟨k + 1, _, by omega, by go_num, rfl, ?_, ?_, hB9⟩
            · rw [list_app, list_app, list_app, list_app, HYJ.out, HT.out, hY.out, flat_take l k _ HO.out, List.take_of_length_le (Nat.le_refl _)]
              simp only [fnBytes]
              have e1 : byteOf (((codeBytes C).length : Int) % 256) = byteOf ((codeBytes C).length : Int) := by simp [byteOf]
              rw [e1]
              simp
            · simp only [ByteArray.size_append, hs1]
              omega
          case measure => simp [intOf]; omega
    · have hlti : ¬ (k : Int) < (l.length : Int) := by omega
      go_wp2
      go_ret
      exact ⟨X, rfl, by rw [HX.out, List.take_of_length_le (by omega)]; rfl, hbw⟩
end Go.Proofs.Ytenaionchlnpoaa

