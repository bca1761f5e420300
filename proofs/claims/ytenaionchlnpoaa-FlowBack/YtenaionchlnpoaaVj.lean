/- SameProgram. -/
import Derived.Test.YtenaionchlnpoaaVi
import Derived.Test.YtenaionchlnpoaaWi
namespace Go.Proofs.Ytenaionchlnpoaa
open Go.RowKit
set_option linter.unusedSimpArgs false
set_option linter.unusedVariables false
set_option maxRecDepth 100000 in
set_option maxHeartbeats 8000000 in
theorem sameProgram_any (l m : List Fn) (v u : Value) (w : World) (hl : FnsAt w v l) (hm : FnsAt w u m) : Calls Try.prog 27 #[.agg #[v], .agg #[u]] w fun e w' => e = .returned (.bool (decide (l = m))) ∧ Below w.heap.size w w' := by
  obtain ⟨p, cap, rfl, hlm, hc⟩ := hl
  obtain ⟨q, cap', rfl, hmm, hd⟩ := hm
  unfold maxLen at hlm hmm
  have g1 := heap_old (heap_new w (.cells #[.slice p l.length cap] 41)) (.cells #[.slice q m.length cap'] 41)
  have g2 := heap_new (w.alloc (.cells #[.slice p l.length cap] 41)) (.cells #[.slice q m.length cap'] 41)
  have hB2 : Below w.heap.size w ((w.alloc (.cells #[.slice p l.length cap] 41)).alloc (.cells #[.slice q m.length cap'] 41)) := ((Below.refl _ w).alloc (Nat.le_refl _) _).alloc (by simp) _
  simp only [World.size_alloc] at g2
  obtain ⟨W2, hW2⟩ : ∃ W, (w.alloc (.cells #[.slice p l.length cap] 41)).alloc (.cells #[.slice q m.length cap'] 41) = W := ⟨_, rfl⟩
  rw [hW2] at g1 g2 hB2
  have hl2 := heap_lt g2
  have a1 := cell_at' g1 0
  have a2 := cell_at' g2 0
  simp at a1 a2
  have HG1 := hideP g1
  have HG2 := hideP g2
  clear g1 g2
  by_cases hlen : l.length = m.length
  · have hlen' : ((l.length : Int) != (m.length : Int)) = false := by simp; omega
    have HLEN : Hid (l.length = m.length) := hlen
    have HC := hideP hc
    have HD := hideP hd
    clear hc hd hlen
    go_enter Try.func27, Try.ntmps27
    go_wp2
    go_loopw [5] (fun i wr => ∃ k : Nat, k ≤ l.length ∧ i = .int .i64 k ∧ l.take k = m.take k ∧ Below W2.heap.size W2 wr) (fun i _ => l.length - (intOf i).toNat)
    case atStart => exact ⟨0, Nat.zero_le _, rfl, by simp, Below.refl _ _⟩
    case round =>
      obtain ⟨k, hk, rfl, htk, hbw2⟩ := hrel
      have HT : Hid (l.take k = m.take k) := htk
      clear htk
      have hbw := hB2.trans (hbw2.mono hB2.size)
      have b1 := (hbw2.cell (p := ⟨w.heap.size, 0, none⟩) (by simp; omega)).trans a1
      have b2 := (hbw2.cell (p := ⟨w.heap.size + 1, 0, none⟩) (by simp; omega)).trans a2
      have hszr := hbw2.size
      by_cases hlt : k < l.length
      · have hlt2 : k < m.length := by have := HLEN.out; omega
        obtain ⟨⟨P, L, R, C⟩, ho⟩ := at_of_lt hlt
        obtain ⟨⟨P', L', R', C'⟩, ho'⟩ := at_of_lt hlt2
        obtain ⟨b, off, c0, c1, c2, c3, rfl, hb, x0, x1, x2, x3, hF⟩ := HC.out k _ ho
        obtain ⟨b', off', c0', c1', c2', c3', rfl, hb', x0', x1', x2', x3', hF'⟩ := HD.out k _ ho'
        have g0 := (hbw.cell (p := ⟨b, off + k * 4, none⟩) hb).trans x0
        have g1 := (hbw.cell (p := ⟨b, off + k * 4 + 1, none⟩) hb).trans x1
        have g2 := (hbw.cell (p := ⟨b, off + k * 4 + 2, none⟩) hb).trans x2
        have g3 := (hbw.cell (p := ⟨b, off + k * 4 + 3, none⟩) hb).trans x3
        have g0' := (hbw.cell (p := ⟨b', off' + k * 4, none⟩) hb').trans x0'
        have g1' := (hbw.cell (p := ⟨b', off' + k * 4 + 1, none⟩) hb').trans x1'
        have g2' := (hbw.cell (p := ⟨b', off' + k * 4 + 2, none⟩) hb').trans x2'
        have g3' := (hbw.cell (p := ⟨b', off' + k * 4 + 3, none⟩) hb').trans x3'
        have hFr := hF.below hbw
        have hFr' := hF'.below hbw
        have HO := hideP ho
        have HO' := hideP ho'
        clear ho ho' x0 x1 x2 x3 x0' x1' x2' x3'
        obtain ⟨rfl, ⟨p1, q1, rfl, _, _⟩, rfl, ⟨p3, q3, rfl, _, _⟩⟩ := hF
        obtain ⟨rfl, ⟨p1', q1', rfl, _, _⟩, rfl, ⟨p3', q3', rfl, _, _⟩⟩ := hF'
        simp only at g0 g1 g2 g3 g0' g1' g2' g3' hFr hFr'
        have hlti : (k : Int) < (l.length : Int) := by omega
        have hlti2 : (k : Int) < (m.length : Int) := by omega
        have y0 := fun o => cell_old g0 o
        have yy0 := fun o o' => cell_old (cell_old g0 o) o'
        have y1 := fun o => cell_old g1 o
        have yy1 := fun o o' => cell_old (cell_old g1 o) o'
        have y2 := fun o => cell_old g2 o
        have yy2 := fun o o' => cell_old (cell_old g2 o) o'
        have y3 := fun o => cell_old g3 o
        have yy3 := fun o o' => cell_old (cell_old g3 o) o'
        have y4 := fun o => cell_old g0' o
        have yy4 := fun o o' => cell_old (cell_old g0' o) o'
        have y5 := fun o => cell_old g1' o
        have yy5 := fun o o' => cell_old (cell_old g1' o) o'
        have y6 := fun o => cell_old g2' o
        have yy6 := fun o o' => cell_old (cell_old g2' o) o'
        have y7 := fun o => cell_old g3' o
        have yy7 := fun o o' => cell_old (cell_old g3' o) o'
        have y8 := fun o => cell_old b1 o
        have yy8 := fun o o' => cell_old (cell_old b1 o) o'
        have y9 := fun o => cell_old b2 o
        have yy9 := fun o o' => cell_old (cell_old b2 o) o'
        have hn1 : ¬ b = wr.heap.size := by omega
        have hn2 : ¬ b' = wr.heap.size := by omega
        have hn3 : ¬ b = wr.heap.size + 1 := by omega
        have hn4 : ¬ b' = wr.heap.size + 1 := by omega
        have hn5 : ¬ w.heap.size = wr.heap.size := by omega
        have hn6 : ¬ w.heap.size = wr.heap.size + 1 := by omega
        have hn7 : ¬ w.heap.size + 1 = wr.heap.size := by omega
        have h1A := heap_old (heap_new wr (.cells #[.int .i64 P, .slice p1 L.length q1, .int .i64 R, .slice p3 C.length q3] 72)) (.cells #[.int .i64 P', .slice p1' L'.length q1', .int .i64 R', .slice p3' C'.length q3'] 72)
        have h2A := heap_new (wr.alloc (.cells #[.int .i64 P, .slice p1 L.length q1, .int .i64 R, .slice p3 C.length q3] 72)) (.cells #[.int .i64 P', .slice p1' L'.length q1', .int .i64 R', .slice p3' C'.length q3'] 72)
        have hbA : Below wr.heap.size wr ((wr.alloc (.cells #[.int .i64 P, .slice p1 L.length q1, .int .i64 R, .slice p3 C.length q3] 72)).alloc (.cells #[.int .i64 P', .slice p1' L'.length q1', .int .i64 R', .slice p3' C'.length q3'] 72)).drew := (((Below.refl _ wr).alloc (Nat.le_refl _) _).alloc (by simp) _).drew
        simp only [World.size_alloc] at h2A
        have h3A : (((wr.alloc (.cells #[.int .i64 P, .slice p1 L.length q1, .int .i64 R, .slice p3 C.length q3] 72)).alloc (.cells #[.int .i64 P', .slice p1' L'.length q1', .int .i64 R', .slice p3' C'.length q3'] 72)).drew).heap[wr.heap.size]? = _ := h1A
        have h4A : (((wr.alloc (.cells #[.int .i64 P, .slice p1 L.length q1, .int .i64 R, .slice p3 C.length q3] 72)).alloc (.cells #[.int .i64 P', .slice p1' L'.length q1', .int .i64 R', .slice p3' C'.length q3'] 72)).drew).heap[wr.heap.size + 1]? = _ := h2A
        obtain ⟨WA, hWA⟩ : ∃ W, ((wr.alloc (.cells #[.int .i64 P, .slice p1 L.length q1, .int .i64 R, .slice p3 C.length q3] 72)).alloc (.cells #[.int .i64 P', .slice p1' L'.length q1', .int .i64 R', .slice p3' C'.length q3'] 72)).drew = W := ⟨_, rfl⟩
        rw [hWA] at h3A h4A hbA
        clear h1A h2A
        have hlA := heap_lt h4A
        have e0A := cell_at' h3A 0
        have f0A := cell_at' h4A 0
        have e1A := cell_at' h3A 1
        have f1A := cell_at' h4A 1
        have e2A := cell_at' h3A 2
        have f2A := cell_at' h4A 2
        have e3A := cell_at' h3A 3
        have f3A := cell_at' h4A 3
        simp at e0A f0A e1A f1A e2A f2A e3A f3A
        clear h3A h4A
        have hfA := hFr.below hbA
        have hgA := hFr'.below hbA
        have h1B := heap_old (heap_new wr (.cells #[.int .i64 P', .slice p1' L'.length q1', .int .i64 R', .slice p3' C'.length q3'] 72)) (.cells #[.int .i64 P, .slice p1 L.length q1, .int .i64 R, .slice p3 C.length q3] 72)
        have h2B := heap_new (wr.alloc (.cells #[.int .i64 P', .slice p1' L'.length q1', .int .i64 R', .slice p3' C'.length q3'] 72)) (.cells #[.int .i64 P, .slice p1 L.length q1, .int .i64 R, .slice p3 C.length q3] 72)
        have hbB : Below wr.heap.size wr ((wr.alloc (.cells #[.int .i64 P', .slice p1' L'.length q1', .int .i64 R', .slice p3' C'.length q3'] 72)).alloc (.cells #[.int .i64 P, .slice p1 L.length q1, .int .i64 R, .slice p3 C.length q3] 72)).drew := (((Below.refl _ wr).alloc (Nat.le_refl _) _).alloc (by simp) _).drew
        simp only [World.size_alloc] at h2B
        have h3B : (((wr.alloc (.cells #[.int .i64 P', .slice p1' L'.length q1', .int .i64 R', .slice p3' C'.length q3'] 72)).alloc (.cells #[.int .i64 P, .slice p1 L.length q1, .int .i64 R, .slice p3 C.length q3] 72)).drew).heap[wr.heap.size]? = _ := h1B
        have h4B : (((wr.alloc (.cells #[.int .i64 P', .slice p1' L'.length q1', .int .i64 R', .slice p3' C'.length q3'] 72)).alloc (.cells #[.int .i64 P, .slice p1 L.length q1, .int .i64 R, .slice p3 C.length q3] 72)).drew).heap[wr.heap.size + 1]? = _ := h2B
        obtain ⟨WB, hWB⟩ : ∃ W, ((wr.alloc (.cells #[.int .i64 P', .slice p1' L'.length q1', .int .i64 R', .slice p3' C'.length q3'] 72)).alloc (.cells #[.int .i64 P, .slice p1 L.length q1, .int .i64 R, .slice p3 C.length q3] 72)).drew = W := ⟨_, rfl⟩
        rw [hWB] at h3B h4B hbB
        clear h1B h2B
        have hlB := heap_lt h4B
        have e0B := cell_at' h3B 0
        have f0B := cell_at' h4B 0
        have e1B := cell_at' h3B 1
        have f1B := cell_at' h4B 1
        have e2B := cell_at' h3B 2
        have f2B := cell_at' h4B 2
        have e3B := cell_at' h3B 3
        have f3B := cell_at' h4B 3
        simp at e0B f0B e1B f1B e2B f2B e3B f3B
        clear h3B h4B
        have hfB := hFr.below hbB
        have hgB := hFr'.below hbB
        go_wp2
        go_region
        · skip
          by_cases hP : P = P'
          · have hPb := neq_int_false hP
            have HP := hideP hP
            clear hP
            by_cases hR : R = R'
            · have hRb := neq_int_false hR
              have HR := hideP hR
              clear hR
              by_cases hL : L = L'
              · have HL := hideP hL
                have HLd := hideP (decide_eq_true hL)
                clear hL
                by_cases hC : C = C'
                · have HC' := hideP hC
                  have HCd := hideP (decide_eq_true hC)
                  clear hC
                  go_wp2_with fail
                  refine (sameInts_any L L' _ _ _ hfA.2.1 hgA.2.1).mono ?_
                  rintro e w3 ⟨rfl, hb3⟩
                  rw [HLd.out]
                  have hb4 := hbA.trans (hb3.mono hbA.size)
                  have k6 := (hb3.cell (p := ⟨wr.heap.size, 3, none⟩) (by simp; omega)).trans e3A
                  have k7 := (hb3.cell (p := ⟨wr.heap.size + 1, 3, none⟩) (by simp; omega)).trans f3A
                  have hO := hfA.2.2.2.below hb3
                  have hO' := hgA.2.2.2.below hb3
                  go_wp2_with fail
                  refine (sameOps_any C C' _ _ _ hO hO').mono ?_
                  rintro e w5 ⟨rfl, hb5⟩
                  rw [HCd.out]
                  have hb6 := hb4.trans (hb5.mono hb4.size)
                  go_wp2
                  go_roundw
                  case rel => exact ⟨k + 1, by omega, by go_num, by rw [take_snoc l k _ HO.out, take_snoc m k _ HO'.out, HT.out, HP.out, HR.out, HL.out, HC'.out], hbw2.trans (hb6.mono hbw2.size)⟩
                  case measure => simp [intOf]; omega
                · have HN := hideP hC
                  have HCd := hideP (decide_eq_false hC)
                  clear hC
                  go_wp2_with fail
                  refine (sameInts_any L L' _ _ _ hfA.2.1 hgA.2.1).mono ?_
                  rintro e w3 ⟨rfl, hb3⟩
                  rw [HLd.out]
                  have hb4 := hbA.trans (hb3.mono hbA.size)
                  have k6 := (hb3.cell (p := ⟨wr.heap.size, 3, none⟩) (by simp; omega)).trans e3A
                  have k7 := (hb3.cell (p := ⟨wr.heap.size + 1, 3, none⟩) (by simp; omega)).trans f3A
                  have hO := hfA.2.2.2.below hb3
                  have hO' := hgA.2.2.2.below hb3
                  go_wp2_with fail
                  refine (sameOps_any C C' _ _ _ hO hO').mono ?_
                  rintro e w5 ⟨rfl, hb5⟩
                  rw [HCd.out]
                  have hb6 := hb4.trans (hb5.mono hb4.size)
                  go_wp2
                  go_ret
                  refine ⟨?_, hbw.trans (hb6.mono hbw.size)⟩
                  have : ¬ l = m := fun h => by
                    have h1 := HO.out
                    rw [h, HO'.out] at h1
                    simp at h1
                    exact HN.out h1.2.2.2.symm
                  simp [this]
              · have HN := hideP hL
                have HLd := hideP (decide_eq_false hL)
                clear hL
                go_wp2_with fail
                refine (sameInts_any L L' _ _ _ hfA.2.1 hgA.2.1).mono ?_
                rintro e w3 ⟨rfl, hb3⟩
                rw [HLd.out]
                have hb4 := hbA.trans (hb3.mono hbA.size)
                go_wp2
                go_ret
                refine ⟨?_, hbw.trans (hb4.mono hbw.size)⟩
                have : ¬ l = m := fun h => by
                  have h1 := HO.out
                  rw [h, HO'.out] at h1
                  simp at h1
                  exact HN.out h1.2.1.symm
                simp [this]
            · have hRb := neq_int_true hR
              have HN := hideP hR
              clear hR
              go_wp2
              go_ret
              refine ⟨?_, hbw.trans (hbA.mono hbw.size)⟩
              have : ¬ l = m := fun h => by
                have h1 := HO.out
                rw [h, HO'.out] at h1
                simp at h1
                exact HN.out h1.2.2.1.symm
              simp [this]
          · have hPb := neq_int_true hP
            have HN := hideP hP
            clear hP
            go_wp2
            go_ret
            refine ⟨?_, hbw.trans (hbA.mono hbw.size)⟩
            have : ¬ l = m := fun h => by
              have h1 := HO.out
              rw [h, HO'.out] at h1
              simp at h1
              exact HN.out h1.1.symm
            simp [this]
        · skip
          by_cases hP : P = P'
          · have hPb := neq_int_false hP
            have HP := hideP hP
            clear hP
            by_cases hR : R = R'
            · have hRb := neq_int_false hR
              have HR := hideP hR
              clear hR
              by_cases hL : L = L'
              · have HL := hideP hL
                have HLd := hideP (decide_eq_true hL)
                clear hL
                by_cases hC : C = C'
                · have HC' := hideP hC
                  have HCd := hideP (decide_eq_true hC)
                  clear hC
                  go_wp2_with fail
                  refine (sameInts_any L L' _ _ _ hfB.2.1 hgB.2.1).mono ?_
                  rintro e w3 ⟨rfl, hb3⟩
                  rw [HLd.out]
                  have hb4 := hbB.trans (hb3.mono hbB.size)
                  have k6 := (hb3.cell (p := ⟨wr.heap.size + 1, 3, none⟩) (by simp; omega)).trans f3B
                  have k7 := (hb3.cell (p := ⟨wr.heap.size, 3, none⟩) (by simp; omega)).trans e3B
                  have hO := hfB.2.2.2.below hb3
                  have hO' := hgB.2.2.2.below hb3
                  go_wp2_with fail
                  refine (sameOps_any C C' _ _ _ hO hO').mono ?_
                  rintro e w5 ⟨rfl, hb5⟩
                  rw [HCd.out]
                  have hb6 := hb4.trans (hb5.mono hb4.size)
                  go_wp2
                  go_roundw
                  case rel => exact ⟨k + 1, by omega, by go_num, by rw [take_snoc l k _ HO.out, take_snoc m k _ HO'.out, HT.out, HP.out, HR.out, HL.out, HC'.out], hbw2.trans (hb6.mono hbw2.size)⟩
                  case measure => simp [intOf]; omega
                · have HN := hideP hC
                  have HCd := hideP (decide_eq_false hC)
                  clear hC
                  go_wp2_with fail
                  refine (sameInts_any L L' _ _ _ hfB.2.1 hgB.2.1).mono ?_
                  rintro e w3 ⟨rfl, hb3⟩
                  rw [HLd.out]
                  have hb4 := hbB.trans (hb3.mono hbB.size)
                  have k6 := (hb3.cell (p := ⟨wr.heap.size + 1, 3, none⟩) (by simp; omega)).trans f3B
                  have k7 := (hb3.cell (p := ⟨wr.heap.size, 3, none⟩) (by simp; omega)).trans e3B
                  have hO := hfB.2.2.2.below hb3
                  have hO' := hgB.2.2.2.below hb3
                  go_wp2_with fail
                  refine (sameOps_any C C' _ _ _ hO hO').mono ?_
                  rintro e w5 ⟨rfl, hb5⟩
                  rw [HCd.out]
                  have hb6 := hb4.trans (hb5.mono hb4.size)
                  go_wp2
                  go_ret
                  refine ⟨?_, hbw.trans (hb6.mono hbw.size)⟩
                  have : ¬ l = m := fun h => by
                    have h1 := HO.out
                    rw [h, HO'.out] at h1
                    simp at h1
                    exact HN.out h1.2.2.2.symm
                  simp [this]
              · have HN := hideP hL
                have HLd := hideP (decide_eq_false hL)
                clear hL
                go_wp2_with fail
                refine (sameInts_any L L' _ _ _ hfB.2.1 hgB.2.1).mono ?_
                rintro e w3 ⟨rfl, hb3⟩
                rw [HLd.out]
                have hb4 := hbB.trans (hb3.mono hbB.size)
                go_wp2
                go_ret
                refine ⟨?_, hbw.trans (hb4.mono hbw.size)⟩
                have : ¬ l = m := fun h => by
                  have h1 := HO.out
                  rw [h, HO'.out] at h1
                  simp at h1
                  exact HN.out h1.2.1.symm
                simp [this]
            · have hRb := neq_int_true hR
              have HN := hideP hR
              clear hR
              go_wp2
              go_ret
              refine ⟨?_, hbw.trans (hbB.mono hbw.size)⟩
              have : ¬ l = m := fun h => by
                have h1 := HO.out
                rw [h, HO'.out] at h1
                simp at h1
                exact HN.out h1.2.2.1.symm
              simp [this]
          · have hPb := neq_int_true hP
            have HN := hideP hP
            clear hP
            go_wp2
            go_ret
            refine ⟨?_, hbw.trans (hbB.mono hbw.size)⟩
            have : ¬ l = m := fun h => by
              have h1 := HO.out
              rw [h, HO'.out] at h1
              simp at h1
              exact HN.out h1.1.symm
            simp [this]
      · have hlt' : ¬ (k : Int) < (l.length : Int) := by omega
        go_wp2
        go_ret
        refine ⟨?_, hbw⟩
        have : l = m := by
          have h := HT.out
          rwa [List.take_of_length_le (by omega), List.take_of_length_le (by have := HLEN.out; omega)] at h
        simp [this]
  · have hlen' : ((l.length : Int) != (m.length : Int)) = true := by simp; omega
    have hne : ¬ l = m := fun h => hlen (by rw [h])
    clear hc hd
    have HN : Hid (¬ l = m) := hne
    clear hne hlen
    go_enter Try.func27, Try.ntmps27
    go_wp2
    go_ret
    exact ⟨by simp [HN.out], hB2⟩
end Go.Proofs.Ytenaionchlnpoaa

