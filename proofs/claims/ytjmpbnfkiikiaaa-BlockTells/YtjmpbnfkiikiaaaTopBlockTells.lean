/- All calls of blocks answer just what the document says, errors too: for every slice of blocks and number and number and number and number and slice of numbers BlockTells returns true. No condition. -/
import Derived.Test.YtjmpbnfkiikiaaaU18
import Derived.Test.YtjmpbnfkiikiaaaU15
import Derived.Test.YtjmpbnfkiikiaaaU16
import Derived.Deep.Cut
import Derived.Deep.CutBlock
namespace Go.Proofs.Ytjmpbnfkiikiaaa.blockTells
open Go.ChangeShapes Go.WideShapes Go.ChangeAt Go.RowKit
set_option linter.unusedVariables false
set_option linter.unusedSimpArgs false
theorem own : ownKnob Try.prog.godebug = none := by kernel_rfl
theorem laidOut : laidOutB Try.prog = true := by kernel_rfl
theorem nilB (W : World) : BlksAt W (.slice none 0 0) [] := ⟨none, 0, rfl, Nat.zero_le _, fun k b hk => by simp at hk⟩
theorem nilI (W : World) : IntsAt W (.slice none 0 0) [] := ⟨none, 0, rfl, Nat.zero_le _, fun k b hk => by simp at hk⟩
set_option maxRecDepth 100000 in
set_option maxHeartbeats 8000000 in
theorem walk (w : World) (L : List (List Int)) (v : Value) (hA : BlksAt w v L) (size : Int) (hsz : -9223372036854775808 ≤ size ∧ size ≤ 9223372036854775807) (ref : Int) (hr : -9223372036854775808 ≤ ref ∧ ref ≤ 9223372036854775807) (at_ : Int) (ha : -9223372036854775808 ≤ at_ ∧ at_ ≤ 9223372036854775807) (n : Int) (hn_ : -9223372036854775808 ≤ n ∧ n ≤ 9223372036854775807) (refs : List Int) (u : Value) (hU : IntsAt w u refs) (hnu : NilOk u) (hz : refs.length ≤ 17592186044416) :
    Calls Try.prog 4 #[v, .int .i64 size, .int .i64 ref, .int .i64 at_, .int .i64 n, u] w fun e w' => e = .returned (.bool true) ∧ Below w.heap.size w w' := by
  have hNEW := fun W (h : BlksAt W v L) => (bNew_any L size hsz v W h).mono (R' := fun e w' => ∃ p c, e = .returned (.tuple #[.slice p (newR L size).length c, .int .i64 (newRef L size), .int .i64 (newErr L size)]) ∧ BlksAt w' (.slice p (newR L size).length c) (newR L size) ∧ Below W.heap.size W w') (by
    rintro e w' ⟨u, rfl, h2, h3⟩
    obtain ⟨p, c, rfl⟩ := h2.shp
    exact ⟨p, c, rfl, blksAt_of_own h2, h3⟩)
  have hSET := fun W (h : BlksAt W v L) => (bSet_any L ref at_ n hr v W h).mono (R' := fun e w' => ∃ p c, e = .returned (.tuple #[.slice p (setR L ref at_ n).length c, .int .i64 (setErr L ref at_ n)]) ∧ BlksAt w' (.slice p (setR L ref at_ n).length c) (setR L ref at_ n) ∧ Below W.heap.size W w') (by
    rintro e w' ⟨u, rfl, h2, h3⟩
    obtain ⟨p, c, rfl⟩ := h2.shp
    exact ⟨p, c, rfl, blksAt_of_own h2, h3⟩)
  have hKEEP := fun W (h : BlksAt W v L) (h2 : IntsAt W u refs) => (bKeep_any L refs v u W h h2 hz).mono (R' := fun e w' => ∃ p c p' c', e = .returned (.tuple #[.slice p (keptR L refs).length c, .slice p' (thenR L refs).length c', .int .i64 (keepErr L refs)]) ∧ BlksAt w' (.slice p (keptR L refs).length c) (keptR L refs) ∧ IntsAt w' (.slice p' (thenR L refs).length c') (thenR L refs) ∧ Below W.heap.size W w') (by
    rintro e w' ⟨a, b, rfl, h3, h4, h5⟩
    obtain ⟨p, c, rfl⟩ := h3.shp
    obtain ⟨p', c', rfl⟩ := row_shp h4
    exact ⟨p, c, p', c', rfl, blksAt_of_own h3, intsAt_of_row rfl h4, h5⟩)
  have hGET := fun W (h : BlksAt W v L) => bGet_any L ref at_ hr v W h
  have HNEW := hideP hNEW
  have HSET := hideP hSET
  have HKEEP := hideP hKEEP
  have HGET := hideP hGET
  obtain ⟨pv, cv, hv, hm, -⟩ := id hA
  obtain ⟨pu, cu, hu, -, -⟩ := id hU
  subst hv hu
  unfold maxLen at hm
  have HA := hideP hA
  have HU := hideP hU
  clear hNEW hSET hKEEP hGET hA hU hnu
  go_enter Try.func4, Try.ntmps4
  go_wp2_with fail
  refine (HNEW.out _ HA.out).mono ?_
  rintro e w1 ⟨p1, c1, rfl, r1, b1⟩
  go_wp2_with fail
  refine (HGET.out _ (HA.out.below b1)).mono ?_
  rintro e w2 ⟨rfl, b2⟩
  have B2 := bthen0 b1 b2
  go_wp2_with fail
  refine (HSET.out _ (HA.out.below B2)).mono ?_
  rintro e w3 ⟨p3, c3, rfl, r3, b3⟩
  have B3 := bthen0 B2 b3
  go_wp2_with fail
  refine (HKEEP.out _ (HA.out.below B3) (HU.out.below B3)).mono ?_
  rintro e w4 ⟨p4, c4, p5, c5, rfl, r4, r5, b4⟩
  have B4 := bthen0 B3 b4
  have R1 := hideP (((r1.below b2).below b3).below b4)
  have R3 := hideP (r3.below b4)
  have R4 := hideP r4
  have R5 := hideP r5
  have HA4 := hideP (HA.out.below B4)
  have HU4 := hideP (HU.out.below B4)
  have hself : ∀ x : Int, (x == x) = true := fun x => by simp
  clear r1 r3 r4 r5 HNEW HSET HKEEP HGET
  by_cases hbe : blkErr L = 0
  · obtain ⟨h8, h40, hi32⟩ := blkErr_zero hbe
    have hsm : ∀ b ∈ L, b.length ≤ 40 := fun b hb => by
      obtain ⟨i, hi⟩ := List.getElem?_of_mem hb
      have := cellsN_mem hi
      omega
    have hCB := checkBlocks_any L _ w4 HA4.out
    have hCP := checkPlace_any L ref at_ hr _ w4 HA4.out hbe
    rw [hbe] at hCB
    have HCB := hideP hCB
    have HCP := hideP hCP
    have HBE := hideP hbe
    have HSM := hideP hsm
    clear hCB hCP hbe hsm hi32
    obtain ⟨k1, hk1⟩ : ∃ k1, decide (size < 0) = k1 := ⟨_, rfl⟩
    obtain ⟨k2, hk2⟩ : ∃ k2, decide (L.length = 8 ∨ 40 - (cellsN L : Int) < size) = k2 := ⟨_, rfl⟩
    have hne : newErr L size = if k1 = true then 3 else if k2 = true then 7 else 0 := by
      unfold newErr
      rw [if_neg (by simpa using HBE.out), ← hk1, ← hk2]
      simp only [decide_eq_true_eq]
    have hse : setErr L ref at_ n = if (placeErr L ref at_ == 0 && !isI32 n) = true then 3 else placeErr L ref at_ := by
      unfold setErr
      by_cases hp : placeErr L ref at_ = 0
      · rw [if_neg (by simpa using hp), hp]
        cases isI32 n <;> simp
      · rw [if_pos hp, if_neg (by simp [hp])]
    have hke : keepErr L refs = if refs.all (refOk L.length) = true then 0 else 3 := by
      unfold keepErr
      rw [if_neg (by simpa using HBE.out)]
    have hnf : newErr L size = 0 → ∃ m : Nat, size = m ∧ m ≤ 40 ∧ L.length < 8 ∧ newR L size = L ++ [List.replicate m 0] ∧ newRef L size = (L.length : Int) + 1 := fun h => by
      obtain ⟨m, hm⟩ : ∃ m : Nat, size = m := ⟨size.toNat, by have := newErr_ge h; omega⟩
      subst hm
      obtain ⟨_, a2, a3, a4, a5, _⟩ := new_facts h
      exact ⟨m, rfl, by omega, a2, a4, a5⟩
    have hnf0 : newErr L size ≠ 0 → newR L size = [] ∧ newRef L size = 0 := fun h => ⟨by rw [newR, if_neg h], by rw [newRef, if_neg h]⟩
    have hpf : placeErr L ref at_ = 0 → ∃ (j k : Nat) (b : List Int) (z : Int), ref = (j : Int) + 1 ∧ at_ = (k : Int) ∧ L[j]? = some b ∧ b[k]? = some z ∧ getR L ref at_ = z := fun h => by
      obtain ⟨_, j, k, b, z, h1, h2, h3, h4⟩ := place_zero h
      refine ⟨j, k, b, z, h1, h2, h3, h4, ?_⟩
      rw [getR, if_pos h, getL, blkAt_some h3 h1, h2]
      simp [h4]
    have hpf0 : placeErr L ref at_ ≠ 0 → getR L ref at_ = 0 := fun h => by rw [getR, if_neg h]
    have hsf : setErr L ref at_ n = 0 → ∃ (j k : Nat) (b : List Int) (z : Int), ref = (j : Int) + 1 ∧ at_ = (k : Int) ∧ L[j]? = some b ∧ b[k]? = some z ∧ setR L ref at_ n = L.set j (b.set k n) := fun h => by
      obtain ⟨j, k, b, z, h1, h2, h3, h4, h5, _⟩ := set_blk h
      exact ⟨j, k, b, z, h1, h2, h3, h4, h5⟩
    have hsf0 : setErr L ref at_ n ≠ 0 → setR L ref at_ n = [] := fun h => by rw [setR, if_neg h]
    have hkf : keepErr L refs = 0 → keptR L refs = keptL L refs L.length ∧ thenR L refs = refs.map (thenOf refs) := fun h => ⟨by rw [keptR, if_pos h], by rw [thenR, if_pos h]⟩
    have hkf0 : keepErr L refs ≠ 0 → keptR L refs = [] ∧ thenR L refs = [] := fun h => ⟨by rw [keptR, if_neg h], by rw [thenR, if_neg h]⟩
    have hKO := fun W h1 h2 h => keepOf_any L refs (.slice pv L.length cv) (.slice pu refs.length cu) W h1 h2 hz h
    have hIS := fun W => isInt_any n W
    generalize newErr L size = ne at *
    generalize newR L size = NR at *
    generalize newRef L size = nr at *
    generalize placeErr L ref at_ = pe at *
    generalize getR L ref at_ = gr at *
    generalize setErr L ref at_ n = se at *
    generalize setR L ref at_ n = SR at *
    generalize keepErr L refs = ke at *
    generalize keptR L refs = KR at *
    generalize thenR L refs = TR at *
    have HK1 := hideP hk1
    have HK2 := hideP hk2
    have HNE := hideP hne
    have HSE := hideP hse
    have HKE := hideP hke
    have HNF := hideP hnf
    have HNF0 := hideP hnf0
    have HPF := hideP hpf
    have HPF0 := hideP hpf0
    have HSF := hideP hsf
    have HSF0 := hideP hsf0
    have HKF := hideP hkf
    have HKF0 := hideP hkf0
    have HKO := hideP hKO
    have HIS := hideP hIS
    clear hk2 hne hse hke hnf hnf0 hpf hpf0 hsf hsf0 hkf hkf0 hKO hIS
    go_upto_if 75 with (first | (go_at_call 15; refine HCB.out.mono ?_; rintro e wq ⟨rfl, hwq⟩; have hwq := hwq.symm; subst hwq))
    go_cut [24] from 35 (fun s24 wx => s24 = .int .i64 (if k1 = true then 3 else 0) ∧ wx = w4)
    case first =>
      as_aux_lemma =>
        cases k1
        all_goals
          go_wp2
          go_meet
          exact ⟨rfl, rfl⟩
    case rest =>
      obtain ⟨hs24, hwc⟩ := hcut
      subst hwc
      obtain ⟨u1, hu1⟩ : ∃ u1 : Int, (if k1 = true then 3 else 0) = u1 := ⟨_, rfl⟩
      rw [hu1] at hs24
      subst hs24
      have hu1b : (u1 == 0) = !k1 := by rw [← hu1]; cases k1 <;> rfl
      have HU1 := hideP hu1
      have HU1B := hideP hu1b
      clear hu1 hu1b
      go_upto_region 9 with fail
      go_cut [89] from 35 (fun s89 wx => s89 = .bool (!k1 && k2) ∧ wx = wc)
      case first =>
        as_aux_lemma =>
          have hu1b := HU1B.out
          cases hk : k1
          · rw [hk] at hu1b
            have hk2 := HK2.out
            by_cases hl : L.length = 8
            · have hl8 : ((L.length : Int) == 8) = true := by simp; omega
              have e2 : k2 = true := by rw [← hk2]; simp [hl]
              subst e2
              clear hl hk2
              go_wp2
              go_meet
              exact ⟨by rw [hk]; rfl, rfl⟩
            · have hl8 : ((L.length : Int) == 8) = false := by simp; omega
              have e2 : k2 = decide (40 - (cellsN L : Int) < size) := by rw [← hk2]; simp [hl]
              subst e2
              clear hl hk2
              go_wp2_with (go_at_call 12; refine (cellsOf_any L _ _ HA4.out h8).mono ?_; rintro e wq ⟨rfl, hwq⟩; have hwq := hwq.symm; subst hwq)
              go_meet
              exact ⟨by rw [hk]; rfl, rfl⟩
          · rw [hk] at hu1b
            go_wp2
            go_meet
            exact ⟨by rw [hk]; rfl, rfl⟩
      case rest =>
        obtain ⟨rfl, hwc⟩ := hcut
        subst hwc
        go_upto_if 89 with fail
        go_cut [24] from 35 (fun s24 wx => s24 = .int .i64 ne ∧ wx = wc)
        case first =>
          as_aux_lemma =>
            have hn1 := HNE.out
            have hu1 := HU1.out
            cases k1
            · cases k2
              · simp only [Bool.false_eq_true, if_false] at hn1 hu1
                subst hn1 hu1
                go_wp2
                go_meet
                exact ⟨rfl, rfl⟩
              · simp only [Bool.false_eq_true, if_false, if_true] at hn1 hu1
                subst hn1 hu1
                go_wp2
                go_meet
                exact ⟨rfl, rfl⟩
            · simp only [if_true] at hn1 hu1
              subst hn1 hu1
              simp only [Bool.not_true, Bool.false_and]
              go_wp2
              go_meet
              exact ⟨rfl, rfl⟩
        case rest =>
          obtain ⟨rfl, hwc⟩ := hcut
          subst hwc
          clear HK1 HK2 HNE HU1 HU1B
          go_upto_region 14 with (first | (go_at_call 16; refine HCP.out.mono ?_; rintro e wq ⟨rfl, hwq⟩; have hwq := hwq.symm; subst hwq))
          go_cut [103] from 35 (fun s103 wx => s103 = .bool (pe == 0 && !isI32 n) ∧ wx = wc)
          case first =>
            as_aux_lemma =>
              cases hp : (pe == 0)
              · go_wp2
                go_meet
                exact ⟨by simp [hp], rfl⟩
              · go_wp2_with (go_at_call 17; refine (HIS.out _).mono ?_; rintro e wq ⟨rfl, hwq⟩; have hwq := hwq.symm; subst hwq)
                go_meet
                exact ⟨by simp [hp], rfl⟩
          case rest =>
            obtain ⟨rfl, hwc⟩ := hcut
            subst hwc
            go_upto_if 103 with fail
            go_cut [26] from 35 (fun s26 wx => s26 = .int .i64 se ∧ wx = wc)
            case first =>
              as_aux_lemma =>
                have hse := HSE.out
                cases hc : (pe == 0 && !isI32 n)
                · rw [hc] at hse
                  simp only [Bool.false_eq_true, if_false] at hse
                  subst hse
                  go_wp2
                  go_meet
                  exact ⟨rfl, rfl⟩
                · rw [hc] at hse
                  simp only [if_true] at hse
                  subst hse
                  go_wp2
                  go_meet
                  exact ⟨rfl, rfl⟩
            case rest =>
              obtain ⟨rfl, hwc⟩ := hcut
              subst hwc
              clear HSE HIS HCP HCB
              go_upto_block 0 with fail
              go_cut [27, 28] from 35 (fun s27 _ wx => s27 = .int .i64 ke ∧ wx = wc)
              case first =>
                as_aux_lemma =>
                  go_wp2
                  go_loopw [27, 28] (fun v27 v28 wr => ∃ k : Nat, k ≤ refs.length ∧ v28 = .int .i64 k ∧ wr = wc ∧ ((v27 = .int .i64 0 ∧ ∀ r ∈ refs.take k, refOk L.length r = true) ∨ (v27 = .int .i64 3 ∧ refs.all (refOk L.length) = false))) (fun _ v28 _ => refs.length - (intOf v28).toNat)
                  case atStart => exact ⟨0, Nat.zero_le _, rfl, rfl, .inl ⟨rfl, by simp⟩⟩
                  case round =>
                    rename World => wl
                    obtain ⟨k, hk, rfl, hwl, hcs⟩ := hrel
                    subst hwl
                    rcases hcs with ⟨rfl, hok⟩ | ⟨rfl, hbad⟩
                    · have HOK := hideP hok
                      clear hok
                      by_cases hkl : k < refs.length
                      · have hkli : (k : Int) < (refs.length : Int) := by omega
                        have hkd : decide ((k : Int) < (refs.length : Int)) = true := by simpa using hkli
                        obtain ⟨r, hr⟩ := at_of_lt hkl
                        obtain ⟨pa, ca, hea, _, hca⟩ := HU4.out
                        cases hea
                        obtain ⟨ga, oa, hpa, _, ra⟩ := hca k r hr
                        subst hpa
                        have HR := hideP hr
                        clear hca hr
                        by_cases hr0 : r < 0
                        · have hd0 : decide (r < 0) = true := by simpa using hr0
                          have hno : refOk L.length r = false := by simp [refOk]; omega
                          have HNO := hideP hno
                          clear hno
                          go_wp2
                          go_roundw
                          case rel => exact ⟨k + 1, by omega, by go_num, trivial, .inr ⟨rfl, all_false HR.out HNO.out⟩⟩
                          case measure => simp [intOf]; omega
                        · have hd0 : decide (r < 0) = false := by simpa using hr0
                          by_cases hr1 : (L.length : Int) < r
                          · have hd1 : decide ((L.length : Int) < r) = true := by simpa using hr1
                            have hno : refOk L.length r = false := by simp [refOk]; omega
                            have HNO := hideP hno
                            clear hno
                            go_wp2
                            go_roundw
                            case rel => exact ⟨k + 1, by omega, by go_num, trivial, .inr ⟨rfl, all_false HR.out HNO.out⟩⟩
                            case measure => simp [intOf]; omega
                          · have hd1 : decide ((L.length : Int) < r) = false := by simpa using hr1
                            have hno : refOk L.length r = true := by simp [refOk]; omega
                            have HNO := hideP hno
                            clear hno
                            go_wp2
                            go_roundw
                            case rel => exact ⟨k + 1, by omega, by go_num, trivial, .inl ⟨rfl, all_snoc HOK.out HR.out HNO.out⟩⟩
                            case measure => simp [intOf]; omega
                      · have hkli : ¬ (k : Int) < (refs.length : Int) := by omega
                        have hkd : decide ((k : Int) < (refs.length : Int)) = false := by simpa using hkli
                        go_wp2
                        go_meet
                        have := HOK.out
                        rw [List.take_of_length_le (by omega)] at this
                        exact ⟨by rw [HKE.out, all_true this]; rfl, rfl⟩
                    · have HBAD := hideP hbad
                      clear hbad
                      by_cases hkl : k < refs.length
                      · have hkli : (k : Int) < (refs.length : Int) := by omega
                        have hkd : decide ((k : Int) < (refs.length : Int)) = true := by simpa using hkli
                        go_wp2
                        go_meet
                        exact ⟨by rw [HKE.out, HBAD.out]; rfl, rfl⟩
                      · have hkli : ¬ (k : Int) < (refs.length : Int) := by omega
                        have hkd : decide ((k : Int) < (refs.length : Int)) = false := by simpa using hkli
                        go_wp2
                        go_meet
                        exact ⟨by rw [HKE.out, HBAD.out]; rfl, rfl⟩
              case rest =>
                obtain ⟨rfl, hwc⟩ := hcut
                subst hwc
                clear HKE
                go_upto_if 129 with fail
                go_cut [29, 34] from 35 (fun s29 s34 wx => (∃ p c M, s29 = .slice p M.length c ∧ BlksAt wx (.slice p M.length c) M ∧ (ne = 0 → NR = M)) ∧ s34 = .int .i64 nr ∧ Below wc.heap.size wc wx)
                case first =>
                  as_aux_lemma =>
                    cases hn : (ne == 0)
                    · have hn0 : ne ≠ 0 := by intro h; rw [h] at hn; cases hn
                      have HN0 := hideP (HNF0.out hn0)
                      clear hn0
                      go_wp2
                      go_meet
                      exact ⟨⟨none, 0, [], rfl, nilB _, fun h => by rw [h] at hn; cases hn⟩, by rw [HN0.out.2], Below.refl _ _⟩
                    · have hn0 : ne = 0 := by simpa using hn
                      obtain ⟨m, hm, hm40, h7, hNR, hnr⟩ := HNF.out hn0
                      subst hm hn0
                      have hwl : IntKind.i64.wrap ((L.length : Int) + 1) = (L.length : Int) + 1 := by rw [IntKind.wrap_i64]; omega
                      have HWL := hideP hwl
                      clear hwl
                      obtain ⟨i0, hi, hz0, hz1, hz2⟩ := info_parts infoInt
                      obtain ⟨i1, hj, hy0, hy1, hy2⟩ := info_parts infoInts
                      obtain ⟨AZ, hAZ⟩ : ∃ AZ, ((List.replicate m (0 : Int)).map (Value.int .i64)).toArray = AZ := ⟨_, rfl⟩
                      have mS := make_is 26 3 i0 (.int .i64 0) Try.underlying26 hi hz0 hz1 m (by rw [hz2]; omega) (by unfold maxLen; omega) AZ (by rw [made_ints, ← hAZ])
                      have hFB : ∀ W, Below wc.heap.size wc W → Calls Try.prog 18 #[.slice pv L.length cv] W fun e w' => ∃ q pu cu, e = .returned (.slice pu q.length cu) ∧ q.length = L.length ∧ w'.ownsRow W.heap.size 26 1 (.slice pu q.length cu) q.length q ∧ BRows w' W.heap.size q L ∧ Below W.heap.size W w' := fun W hW => by
                        refine (copyBlocks_any L _ W (HA4.out.below hW) h8 HSM.out).mono ?_
                        rintro e w' ⟨u, rfl, ⟨q, h1, h2⟩, h3⟩
                        obtain ⟨pu, cu, rfl⟩ := row_shp h1
                        exact ⟨q, pu, cu, rfl, h2.len, h1, h2, h3⟩
                      have HFB := hideP hFB
                      have HAZ := hideP hAZ
                      have HNR := hideP hNR
                      have HNRR := hideP hnr
                      clear hFB hAZ hNR hnr hi hz0 hz1 hz2
                      go_upto_region 25 with fail
                      go_region_law
                        (first
                          | (refine step_append_row rfl _ _ 22 rfl wc.heap.size 26 i1 (.slice none 0 0) 1 24 Try.underlying22 hj hy0 hy1 hy2 rfl (by decide) _ _ _ rfl (row_low ((HROW.out.alloc _).alloc _) (by simp)) ⟨w2.heap.size + 1, 0, none⟩ 1 1 [.slice (some ⟨w2.heap.size, 0, none⟩) m m] rfl rfl (cell_one_at (by rw [cell_at' (new_two w2 (.cells AZ 3) (.cells #[.slice (some ⟨w2.heap.size, 0, none⟩) m m] 26)) 0]; rfl)) (by simp [Value.oneCell']) (by unfold maxLen; omega) (by omega) (by simp; omega) ?_; intro v' w4' hown4 hg4; obtain ⟨g4, cap4, hv4⟩ := ownsRow_succ hown4; subst hv4)
                          | (refine step_append_row rfl _ _ 22 rfl wc.heap.size 26 i1 (.slice none 0 0) 1 24 Try.underlying22 hj hy0 hy1 hy2 rfl (by decide) _ _ _ rfl (row_low (HROW.out.alloc _) (by simp)) ⟨w2.heap.size, 0, none⟩ 1 1 [.slice (some ⟨wc.heap.size, 0, none⟩) m m] rfl rfl (cell_one_at (by rw [cell_at' (World.alloc_heap_new w2 (.cells #[.slice (some ⟨wc.heap.size, 0, none⟩) m m] 26)) 0]; rfl)) (by simp [Value.oneCell']) (by unfold maxLen; omega) (by omega) (by simp; omega) ?_; intro v' w4' hown4 hg4; obtain ⟨g4, cap4, hv4⟩ := ownsRow_succ hown4; subst hv4)
                          | (refine step_append_row rfl _ _ 22 rfl wc.heap.size 26 i1 (.slice none 0 0) 1 24 Try.underlying22 hj hy0 hy1 hy2 rfl (by decide) _ _ _ rfl (row_low HROW.out (by simp; omega)) ⟨wc.heap.size + 1, 0, none⟩ 1 1 [.slice (some ⟨wc.heap.size, 0, none⟩) m m] rfl rfl (cell_one_at ((hb2.cell (p := ⟨wc.heap.size + 1, 0, none⟩) (by simp)).trans (by exact cell_at' (k := wc.heap.size + 1) (new_two wc (.cells AZ 3) (.cells #[.slice (some ⟨wc.heap.size, 0, none⟩) m m] 26)) 0))) (by simp [Value.oneCell']) (by unfold maxLen; omega) (by omega) (by omega) ?_; intro v' w4' hown4 hg4; obtain ⟨g4, cap4, hv4⟩ := ownsRow_succ hown4; subst hv4)
                          | (go_simp; go_at_call 18; refine (HFB.out _ (by first | exact (Below.refl _ wc).drew | exact ((Below.refl _ wc).drew).alloc (by simp) _ | exact (((Below.refl _ wc).drew).alloc (by simp) _).alloc (by simp) _)).mono ?_; rintro e w2 ⟨q, pu2, cu2, rfl, hql, hrow, hrs, hb2⟩; have HROW := hideP hrow; have HRS := hideP hrs; have HQL := hideP hql; have hq7 : q.length ≤ 7 := (by omega); have hs2 := hb2.size; simp at hs2; clear hrow hrs hql))
                      · go_wp2
                        go_meet
                        have hA : ((w2.alloc (.cells AZ 3)).alloc (.cells #[.slice (some ⟨w2.heap.size, 0, none⟩) m m] 26)).heap[w2.heap.size]? = some (.cells ((List.replicate m (0 : Int)).map (Value.int .i64)).toArray 3 (0, 0)) := by rw [HAZ.out]; exact heap_old (World.alloc_heap_new w2 _) _
                        have h23 : Below w2.heap.size w2 ((w2.alloc (.cells AZ 3)).alloc (.cells #[.slice (some ⟨w2.heap.size, 0, none⟩) m m] 26)) := ((Below.refl _ w2).alloc (Nat.le_refl _) _).alloc (by simp) _
                        have hend := new_end (B := wc.heap.size) HRS.out (by simp) h23 hA (by omega) (.inr (Nat.le_refl _)) HROW.out hg4 hm40
                        have hO : BlksOwn w4' wc.heap.size (.slice (some ⟨g4, 0, none⟩) (q.length + 1) cap4) (L ++ [List.replicate m 0]) := ⟨_, by rw [List.length_append, List.length_singleton]; exact hown4, hend⟩
                        have hNl : (L ++ [List.replicate m (0 : Int)]).length = q.length + 1 := by rw [List.length_append, List.length_singleton, HQL.out]
                        refine ⟨⟨some ⟨g4, 0, none⟩, cap4, L ++ [List.replicate m 0], by rw [hNl], by rw [hNl]; exact blksAt_of_own hO, fun _ => HNR.out⟩, by rw [HNRR.out, HWL.out], ?_⟩
                        exact ((((Below.refl wc.heap.size wc).drew).trans hb2).trans (h23.mono (by omega))).grown hg4 (by simp; omega) (fun k hk => by have := (HROW.out.lt k hk).1; simpa using this)
                      · go_wp2
                        go_meet
                        have hx : w2.heap[wc.heap.size]? = some (.cells AZ 3 (0, 0)) := (hb2.block _ (by simp)).trans (World.alloc_heap_new wc (.cells AZ 3))
                        have hA : (w2.alloc (.cells #[.slice (some ⟨wc.heap.size, 0, none⟩) m m] 26)).heap[wc.heap.size]? = some (.cells ((List.replicate m (0 : Int)).map (Value.int .i64)).toArray 3 (0, 0)) := by rw [HAZ.out]; exact heap_old hx _
                        have h23 : Below w2.heap.size w2 (w2.alloc (.cells #[.slice (some ⟨wc.heap.size, 0, none⟩) m m] 26)) := (Below.refl _ w2).alloc (Nat.le_refl _) _
                        have hend := new_end (B := wc.heap.size) HRS.out (by simp) h23 hA (by omega) (.inl (by simp)) HROW.out hg4 hm40
                        have hO : BlksOwn w4' wc.heap.size (.slice (some ⟨g4, 0, none⟩) (q.length + 1) cap4) (L ++ [List.replicate m 0]) := ⟨_, by rw [List.length_append, List.length_singleton]; exact hown4, hend⟩
                        have hNl : (L ++ [List.replicate m (0 : Int)]).length = q.length + 1 := by rw [List.length_append, List.length_singleton, HQL.out]
                        refine ⟨⟨some ⟨g4, 0, none⟩, cap4, L ++ [List.replicate m 0], by rw [hNl], by rw [hNl]; exact blksAt_of_own hO, fun _ => HNR.out⟩, by rw [HNRR.out, HWL.out], ?_⟩
                        have hb12 : Below wc.heap.size wc w2 := (((Below.refl _ wc).alloc (Nat.le_refl _) _).drew).trans (hb2.mono (by simp))
                        exact (hb12.trans (h23.mono (by omega))).grown hg4 (by simp; omega) (fun k hk => by have := (HROW.out.lt k hk).1; simp at this; omega)
                      · go_wp2
                        go_meet
                        have hx : w2.heap[wc.heap.size]? = some (.cells AZ 3 (0, 0)) := (hb2.block _ (by simp; omega)).trans (heap_old (World.alloc_heap_new wc (.cells AZ 3)) _)
                        have hA : w2.heap[wc.heap.size]? = some (.cells ((List.replicate m (0 : Int)).map (Value.int .i64)).toArray 3 (0, 0)) := by rw [HAZ.out]; exact hx
                        have hend := new_end (B := wc.heap.size) HRS.out (by simp; omega) (Below.refl _ w2) hA (by omega) (.inl (by simp; omega)) HROW.out hg4 hm40
                        have hO : BlksOwn w4' wc.heap.size (.slice (some ⟨g4, 0, none⟩) (q.length + 1) cap4) (L ++ [List.replicate m 0]) := ⟨_, by rw [List.length_append, List.length_singleton]; exact hown4, hend⟩
                        have hNl : (L ++ [List.replicate m (0 : Int)]).length = q.length + 1 := by rw [List.length_append, List.length_singleton, HQL.out]
                        refine ⟨⟨some ⟨g4, 0, none⟩, cap4, L ++ [List.replicate m 0], by rw [hNl], by rw [hNl]; exact blksAt_of_own hO, fun _ => HNR.out⟩, by rw [HNRR.out, HWL.out], ?_⟩
                        have hb12 : Below wc.heap.size wc w2 := ((((Below.refl _ wc).alloc (Nat.le_refl _) _).alloc (by simp) _).drew).trans (hb2.mono (by simp; omega))
                        exact hb12.grown hg4 (by omega) (fun k hk => by have := (HROW.out.lt k hk).1; simp at this; omega)
                case rest =>
                  obtain ⟨⟨pM, cM, M, rfl, hM, hMe⟩, rfl, b5⟩ := hcut
                  have HM := hideP hM
                  have HME := hideP hMe
                  have B5 := bthen0 B4 b5
                  have HA5 := hideP (HA4.out.below b5)
                  have HU5 := hideP (HU4.out.below b5)
                  have HR1 := hideP (R1.out.below b5)
                  have HR3 := hideP (R3.out.below b5)
                  have HR4 := hideP (R4.out.below b5)
                  have HR5 := hideP (R5.out.below b5)
                  clear hM hMe HA4 HU4 R1 R3 R4 R5 HNF B4
                  go_upto_if 140 with fail
                  go_cut [33] from 35 (fun s33 wx => s33 = .int .i64 gr ∧ wx = wc)
                  case first =>
                    as_aux_lemma =>
                      cases hp : (pe == 0)
                      · have hp0 : pe ≠ 0 := by intro h; rw [h] at hp; cases hp
                        have HP0 := hideP (HPF0.out hp0)
                        clear hp0
                        go_wp2
                        go_meet
                        exact ⟨by rw [HP0.out], rfl⟩
                      · have hp0 : pe = 0 := by simpa using hp
                        obtain ⟨j, k, b, z, hj, hk, hb, hz', hg⟩ := HPF.out hp0
                        obtain ⟨p2, c2, hee, _, hc⟩ := HA5.out
                        cases hee
                        have hjl := lt_of_at hb
                        have hkl := lt_of_at hz'
                        obtain ⟨g, off, c, hpp, hgl, g0, g1, _, _⟩ := hc j b hb
                        subst hpp
                        obtain ⟨p3', c3', hc3, _, hc4⟩ := g1
                        subst hc3
                        obtain ⟨g', off', hp', _, g2⟩ := hc4 k z hz'
                        subst hp'
                        subst hj hk hp0
                        have HG := hideP hg
                        have hw1 : wrap64 ((j : Int) + 1 - 1) = (j : Int) := by unfold wrap64; omega
                        have hw2 : (j : Int) + 1 - 1 = (j : Int) := by omega
                        have hji : (j : Int) < (L.length : Int) := by omega
                        have hki : (k : Int) < (b.length : Int) := by omega
                        clear hc hc4 hb hz' hg
                        go_wp2
                        go_meet
                        exact ⟨by rw [HG.out], rfl⟩
                  case rest =>
                    obtain ⟨rfl, hwc⟩ := hcut
                    subst hwc
                    clear HPF HPF0
                    go_upto_if 150 with fail
                    go_cut [30] from 35 (fun s30 wx => (∃ p c M, s30 = .slice p M.length c ∧ BlksAt wx (.slice p M.length c) M ∧ (se = 0 → SR = M)) ∧ Below wc.heap.size wc wx)
                    case first =>
                      as_aux_lemma =>
                        cases hp : (se == 0)
                        · go_wp2
                          go_meet
                          exact ⟨⟨none, 0, [], rfl, nilB _, fun h => by rw [h] at hp; cases hp⟩, Below.refl _ _⟩
                        · have hp0 : se = 0 := by simpa using hp
                          obtain ⟨j, k, b, z, hj, hk, hb, hz', hg⟩ := HSF.out hp0
                          have hjl := lt_of_at hb
                          have hkl := lt_of_at hz'
                          subst hj hk hp0
                          have HG := hideP hg
                          have HB := hideP hb
                          have hw1 : wrap64 ((j : Int) + 1 - 1) = (j : Int) := by unfold wrap64; omega
                          have hw2 : (j : Int) + 1 - 1 = (j : Int) := by omega
                          have hji : (j : Int) < (L.length : Int) := by omega
                          have hki : (k : Int) < (b.length : Int) := by omega
                          clear hb hz' hg
                          go_wp2_with fail
                          refine (copyBlocks_any L _ _ HA5.out h8 HSM.out).mono ?_
                          rintro e w2 ⟨u, rfl, ⟨q, hrow, hrs⟩, hb2⟩
                          obtain ⟨x, hx⟩ := at_of_lt (l := q) (k := j) (by rw [hrs.len]; exact hjl)
                          have hbx := hrs.each j x b hx HB.out
                          rcases hrow.2 with ⟨hu, h0⟩ | ⟨R, capR, cur, hu, hBR, hR, hn1, hn2, hn3, hn4⟩
                          · have := hrs.len; omega
                          rcases hbx.2 with ⟨hxv, h0⟩ | ⟨g, capg, curg, hxv, hBg, hg, hm1, hm2, hm3, hm4⟩
                          · omega
                          subst hu hxv
                          have c0 : w2.cell? ⟨R, j, none⟩ = some (.slice (some ⟨g, 0, none⟩) b.length capg) := by
                            have hq := hx
                            rw [← hn4, List.getElem?_take_of_lt (by have := hrs.len; omega)] at hq
                            rw [cell_at' hR]; simpa using hq
                          have c1' : ∃ y, w2.cell? ⟨g, k, none⟩ = some y := by
                            rw [cell_at' hg]
                            obtain ⟨y, hy⟩ := at_of_lt (l := curg.toList) (k := k) (by simp; omega)
                            exact ⟨y, by simpa using hy⟩
                          obtain ⟨y, c1'⟩ := c1'
                          have z1 := Lib.frozen_of_heap hg k
                          have hqL := hrs.len
                          have hRg : R ≠ g := fun e => by rw [e, hg] at hR; simp at hR
                          have HRS := hideP hrs
                          have HROW := hideP hrow
                          have HX := hideP hx
                          have hjq : (j : Int) < (q.length : Int) := by omega
                          have HQL := hideP hqL
                          clear hrs hrow hx hbx hR hg hn1 hn2 hn3 hn4 hm1 hm2 hm3 hm4 hqL
                          go_wp2
                          go_meet
                          have hrow' : (w2.setCell ⟨g, k, none⟩ (.int .i64 n)).ownsRow wc.heap.size 26 1 (.slice (some ⟨R, 0, none⟩) q.length capR) q.length q := row_same HROW.out fun r hr => by
                            cases hr
                            exact (set_grown w2 ⟨g, k, none⟩ (.int .i64 n)).block R (HROW.out.lt R rfl).2 (fun e => hRg (by simpa using e))
                          have hO : BlksOwn (w2.setCell ⟨g, k, none⟩ (.int .i64 n)) wc.heap.size (.slice (some ⟨R, 0, none⟩) q.length capR) (L.set j (b.set k n)) := ⟨q, hrow', HRS.out.put HX.out HB.out hkl n⟩
                          have hNl : (L.set j (b.set k n)).length = q.length := by rw [List.length_set, HQL.out]
                          exact ⟨⟨some ⟨R, 0, none⟩, capR, L.set j (b.set k n), by rw [hNl], by rw [hNl]; exact blksAt_of_own hO, fun _ => HG.out⟩, hb2.setCell hBg _⟩
                    case rest =>
                      obtain ⟨⟨pS, cS, S, rfl, hS, hSe⟩, b6⟩ := hcut
                      have HS := hideP hS
                      have HSE2 := hideP hSe
                      have B6 := bthen0 B5 b6
                      have HA6 := hideP (HA5.out.below b6)
                      have HU6 := hideP (HU5.out.below b6)
                      have HM6 := hideP (HM.out.below b6)
                      have HR16 := hideP (HR1.out.below b6)
                      have HR36 := hideP (HR3.out.below b6)
                      have HR46 := hideP (HR4.out.below b6)
                      have HR56 := hideP (HR5.out.below b6)
                      clear hS hSe HA5 HU5 HM HR1 HR3 HR4 HR5 HSF B5
                      go_upto_if 162 with fail
                      go_cut [31, 32] from 35 (fun s31 s32 wx => (∃ p c M p' c' T, s31 = .slice p M.length c ∧ s32 = .slice p' T.length c' ∧ BlksAt wx (.slice p M.length c) M ∧ IntsAt wx (.slice p' T.length c') T ∧ (ke = 0 → KR = M) ∧ TR = T) ∧ Below wc.heap.size wc wx)
                      case first =>
                        as_aux_lemma =>
                          cases hp : (ke == 0)
                          · have hp0 : ke ≠ 0 := by intro h; rw [h] at hp; cases hp
                            have HP0 := hideP (HKF0.out hp0)
                            clear hp0
                            go_wp2
                            go_meet
                            exact ⟨⟨none, 0, [], none, 0, [], rfl, rfl, nilB _, nilI _, (fun h => by rw [h] at hp; cases hp), HP0.out.2⟩, Below.refl _ _⟩
                          · have hp0 : ke = 0 := by simpa using hp
                            have HP0 := hideP (HKF.out hp0)
                            have HK := hideP (HKO.out wc HA6.out HU6.out hp0)
                            clear hp0
                            go_wp2_with fail
                            refine HK.out.mono ?_
                            rintro e w2 ⟨x, y, rfl, h1, h2, hb2⟩
                            obtain ⟨px, cx, hx⟩ := h1.shp
                            obtain ⟨py, cy, hy⟩ := row_shp h2
                            subst hx hy
                            have H1 := hideP (blksAt_of_own h1)
                            have H2 := hideP (intsAt_of_row (l := refs.map (thenOf refs)) (by simp) h2)
                            clear h1 h2
                            go_wp2
                            go_meet
                            refine ⟨⟨px, cx, keptL L refs L.length, py, cy, refs.map (thenOf refs), rfl, by rw [List.length_map], H1.out, by rw [List.length_map]; exact H2.out, fun _ => HP0.out.1, HP0.out.2⟩, hb2⟩
                      case rest =>
                        obtain ⟨⟨pK, cK, K, pT, cT, T, rfl, rfl, hK, hT, hKe, hTe⟩, b7⟩ := hcut
                        have HK7 := hideP hK
                        have HT7 := hideP hT
                        have HKE2 := hideP hKe
                        have HTE2 := hideP hTe
                        have B7 := bthen0 B6 b7
                        have HA7 := hideP (HA6.out.below b7)
                        have HM7 := hideP (HM6.out.below b7)
                        have HS7 := hideP (HS.out.below b7)
                        have HR17 := hideP (HR16.out.below b7)
                        have HR37 := hideP (HR36.out.below b7)
                        have HR47 := hideP (HR46.out.below b7)
                        have HR57 := hideP (HR56.out.below b7)
                        clear hK hT hKe hTe HA6 HU6 HM6 HS HR16 HR36 HR46 HR56 HKO HKF
                        go_wp2_with fail
                        refine (blockBegun_any _).mono ?_
                        rintro e w8 ⟨rfl, b8⟩
                        have hC := bCheck_any L _ w8 (HA7.out.below b8)
                        rw [HBE.out] at hC
                        have HC := hideP hC
                        clear hC
                        go_wp2_with fail
                        refine HC.out.mono ?_
                        rintro e w9 ⟨rfl, b9⟩
                        have B9 := bthen0 b8 b9
                        have hq1 := blocksAre_true NR M ne _ _ w9 (HR17.out.below B9) (HM7.out.below B9) HME.out (fun h => (HNF0.out h).1)
                        have HQ1 := hideP hq1
                        clear hq1
                        go_wp2_with fail
                        refine HQ1.out.mono ?_
                        rintro e w10 ⟨rfl, b10⟩
                        have B10 := bthen0 B9 b10
                        have hq2 := blocksAre_true SR S se _ _ w10 (HR37.out.below B10) (HS7.out.below B10) HSE2.out HSF0.out
                        have HQ2 := hideP hq2
                        clear hq2
                        go_wp2_with fail
                        refine HQ2.out.mono ?_
                        rintro e w11 ⟨rfl, b11⟩
                        have B11 := bthen0 B10 b11
                        have hq3 := blocksAre_true KR K ke _ _ w11 (HR47.out.below B11) (HK7.out.below B11) HKE2.out (fun h => (HKF0.out h).1)
                        have HQ3 := hideP hq3
                        clear hq3
                        go_wp2_with fail
                        refine HQ3.out.mono ?_
                        rintro e w12 ⟨rfl, b12⟩
                        have B12 := bthen0 B11 b12
                        have hq4 := sameInts_any TR T _ _ w12 (HR57.out.below B12) (HT7.out.below B12)
                        rw [decide_eq_true HTE2.out] at hq4
                        have HQ4 := hideP hq4
                        clear hq4
                        go_wp2_with fail
                        refine HQ4.out.mono ?_
                        rintro e w13 ⟨rfl, b13⟩
                        go_wp2
                        go_ret
                        exact ⟨rfl, bthen0 B7 (bthen0 B12 b13)⟩
  · have e1 : newErr L size = blkErr L ∧ placeErr L ref at_ = blkErr L ∧ setErr L ref at_ n = blkErr L ∧ keepErr L refs = blkErr L := by
      have hp : placeErr L ref at_ = blkErr L := by unfold placeErr; rw [if_pos hbe]
      refine ⟨by unfold newErr; rw [if_pos hbe], hp, ?_, by unfold keepErr; rw [if_pos hbe]⟩
      unfold setErr
      rw [if_pos (by rw [hp]; exact hbe), hp]
    obtain ⟨e1, e2, e3, e4⟩ := e1
    have f1 : newR L size = [] := by rw [newR, if_neg (by rw [e1]; exact hbe)]
    have f2 : newRef L size = 0 := by rw [newRef, if_neg (by rw [e1]; exact hbe)]
    have f3 : getR L ref at_ = 0 := by rw [getR, if_neg (by rw [e2]; exact hbe)]
    have f4 : setR L ref at_ n = [] := by rw [setR, if_neg (by rw [e3]; exact hbe)]
    have f5 : keptR L refs = [] := by rw [keptR, if_neg (by rw [e4]; exact hbe)]
    have f6 : thenR L refs = [] := by rw [thenR, if_neg (by rw [e4]; exact hbe)]
    rw [f1] at R1
    rw [f4] at R3
    rw [f5] at R4
    rw [f6] at R5
    rw [e1, e2, e3, e4, f1, f2, f3, f4, f5, f6]
    have hCB := checkBlocks_any L _ w4 HA4.out
    have hCK := fun W h => bCheck_any L (.slice pv L.length cv) W h
    have hE : (blkErr L == 0) = false := by simp [hbe]
    generalize blkErr L = E at *
    have HCB := hideP hCB
    have HCK := hideP hCK
    have HE := hideP hbe
    clear e1 e2 e3 e4 f1 f2 f3 f4 f5 f6 hCB hCK hbe
    go_wp2_with fail
    refine HCB.out.mono ?_
    rintro e wq ⟨rfl, hwq⟩
    have hwq := hwq.symm
    subst hwq
    go_wp2
    go_loopw [27, 28] (fun v27 v28 wr => v27 = .int .i64 E ∧ v28 = .int .i64 0 ∧ wr = w4) (fun _ _ _ => 0)
    case atStart => exact ⟨rfl, rfl, rfl⟩
    case round =>
      rename World => wl
      obtain ⟨rfl, rfl, hwl⟩ := hrel
      subst hwl
      by_cases hl0 : 0 < refs.length
      all_goals
        first
          | have hl1 : (0 : Int) < (refs.length : Int) := by omega
          | have hl1 : ¬ (0 : Int) < (refs.length : Int) := by omega
        go_wp2_with fail
        refine (blockBegun_any _).mono ?_
        rintro e w8 ⟨rfl, b8⟩
        go_wp2_with fail
        refine (HCK.out _ (HA4.out.below b8)).mono ?_
        rintro e w9 ⟨rfl, b9⟩
        have B9 := bthen0 b8 b9
        go_wp2_with fail
        refine (blocksAre_true [] [] E _ _ w9 (R1.out.below B9) (nilB _) (fun _ => rfl) (fun _ => rfl)).mono ?_
        rintro e w10 ⟨rfl, b10⟩
        have B10 := bthen0 B9 b10
        go_wp2_with fail
        refine (blocksAre_true [] [] E _ _ w10 (R3.out.below B10) (nilB _) (fun _ => rfl) (fun _ => rfl)).mono ?_
        rintro e w11 ⟨rfl, b11⟩
        have B11 := bthen0 B10 b11
        go_wp2_with fail
        refine (blocksAre_true [] [] E _ _ w11 (R4.out.below B11) (nilB _) (fun _ => rfl) (fun _ => rfl)).mono ?_
        rintro e w12 ⟨rfl, b12⟩
        have B12 := bthen0 B11 b12
        have hq4 := sameInts_any [] [] _ _ w12 (R5.out.below B12) (nilI _)
        rw [decide_eq_true rfl] at hq4
        have HQ4 := hideP hq4
        clear hq4
        go_wp2_with fail
        refine HQ4.out.mono ?_
        rintro e w13 ⟨rfl, b13⟩
        go_wp2
        go_ret
        exact ⟨rfl, bthen0 B4 (bthen0 B12 b13)⟩
set_option maxRecDepth 100000 in
theorem lifted (os : Os) (started : os.Started) (H : Type) (enc : TypeId × Value → H) :
    ReturnsInHanded {} Try.checked os 4 .any (Rows.blockTellsSpec.pre6 enc Try.prog Try.f4 Rows.blockTellsRow.domain false) (Rows.blockTellsSpec.post enc Try.prog Try.f4 false true false false) := by
  refine returnsInHanded_of_change_sized (C := Try.checked) own started (by kernel_rfl) Try.func4
    (ChangeSpec.witness6 (enc := enc) (C := Try.checked) false ⟨#[], #[.slice none 0 0, .int .i64 0, .int .i64 0, .int .i64 0, .int .i64 0, .slice none 0 0], []⟩ 8 (by kernel_rfl) (by kernel_rfl) (by kernel_rfl) (by kernel_rfl)) ?_
  intro W base args ds gs before hval0 hW hcnd hsz0 hholds
  have hval : ∀ (j : Nat) t v, Try.f4.params[j]? = some t → args[j]? = some v → Value.okWide Try.prog W .any base t v := hval0
  have hsz : (DataW.weightsEach Try.prog (Try.f4.params.toList ++ Rows.blockTellsSpec.plain.varTypes Try.prog) (ds ++ gs)).all (· ≤ reachBytes) = true := hsz0
  have hW' := hW
  obtain ⟨p, q, hA0, hV, rfl, hfz, hnd⟩ := hW
  have hA : DataW.TrodAll enc Try.prog W 0 (fun _ => true) true Try.f4.params.toList args.toList ds p := hA0
  rw [Try.params4] at hA hval hsz
  obtain ⟨v0, vs0, d0, ds0, p0, q0, hargs, rfl, rfl, h0, r0⟩ := trodAll_cons hA
  obtain ⟨v1, vs1, d1, ds1, p1, q1, rfl, rfl, rfl, h1, r1⟩ := trodAll_cons r0
  obtain ⟨v2, vs2, d2, ds2, p2, q2, rfl, rfl, rfl, h2, r2⟩ := trodAll_cons r1
  obtain ⟨v3, vs3, d3, ds3, p3, q3, rfl, rfl, rfl, h3, r3⟩ := trodAll_cons r2
  obtain ⟨v4, vs4, d4, ds4, p4, q4, rfl, rfl, rfl, h4, r4⟩ := trodAll_cons r3
  obtain ⟨v5, vs5, d5, ds5, p5, q5, rfl, rfl, rfl, h5, r5⟩ := trodAll_cons r4
  obtain ⟨rfl, rfl, rfl⟩ := trodAll_nil r5
  obtain rfl : args = #[v0, v1, v2, v3, v4, v5] := by cases args; simp_all
  obtain ⟨rfl, rfl⟩ := trodVars_none hV
  have k0 := h0
  have k1 := h1
  have k2 := h2
  have k3 := h3
  have k4 := h4
  have k5 := h5
  have lt0 : ∀ x ∈ p0, x.block < W.heap.size := by obtain ⟨m, hm⟩ := k0; exact DataW.trod_lt m _ _ _ hm
  have lt1 : ∀ x ∈ p1, x.block < W.heap.size := by obtain ⟨m, hm⟩ := k1; exact DataW.trod_lt m _ _ _ hm
  have lt2 : ∀ x ∈ p2, x.block < W.heap.size := by obtain ⟨m, hm⟩ := k2; exact DataW.trod_lt m _ _ _ hm
  have lt3 : ∀ x ∈ p3, x.block < W.heap.size := by obtain ⟨m, hm⟩ := k3; exact DataW.trod_lt m _ _ _ hm
  have lt4 : ∀ x ∈ p4, x.block < W.heap.size := by obtain ⟨m, hm⟩ := k4; exact DataW.trod_lt m _ _ _ hm
  have lt5 : ∀ x ∈ p5, x.block < W.heap.size := by obtain ⟨m, hm⟩ := k5; exact DataW.trod_lt m _ _ _ hm
  have hw0 : ∀ n ∈ d0.weights Try.prog 22, n ≤ reachBytes := fun n hn => by have := List.all_eq_true.1 hsz n (DataW.weights_mem_each (j := 0) rfl rfl n hn); simpa using this
  obtain ⟨l0, hl0⟩ := open_blksV (okWide_slice Try.underlying22 (hval 0 22 v0 rfl rfl)) h0 hw0
  obtain ⟨x1, rfl, hd1, hp1, wx1⟩ := open_int Try.underlying3 (hval 1 3 v1 rfl rfl) h1
  have hx1 : -9223372036854775808 ≤ x1 ∧ x1 ≤ 9223372036854775807 := by simpa [Lit.wf, IntKind.min, IntKind.max, IntKind.bits, IntKind.signed] using wx1
  obtain ⟨x2, rfl, hd2, hp2, wx2⟩ := open_int Try.underlying3 (hval 2 3 v2 rfl rfl) h2
  have hx2 : -9223372036854775808 ≤ x2 ∧ x2 ≤ 9223372036854775807 := by simpa [Lit.wf, IntKind.min, IntKind.max, IntKind.bits, IntKind.signed] using wx2
  obtain ⟨x3, rfl, hd3, hp3, wx3⟩ := open_int Try.underlying3 (hval 3 3 v3 rfl rfl) h3
  have hx3 : -9223372036854775808 ≤ x3 ∧ x3 ≤ 9223372036854775807 := by simpa [Lit.wf, IntKind.min, IntKind.max, IntKind.bits, IntKind.signed] using wx3
  obtain ⟨x4, rfl, hd4, hp4, wx4⟩ := open_int Try.underlying3 (hval 4 3 v4 rfl rfl) h4
  have hx4 : -9223372036854775808 ≤ x4 ∧ x4 ≤ 9223372036854775807 := by simpa [Lit.wf, IntKind.min, IntKind.max, IntKind.bits, IntKind.signed] using wx4
  have hw5 : ∀ n ∈ d5.weights Try.prog 26, n ≤ reachBytes := fun n hn => by have := List.all_eq_true.1 hsz n (DataW.weights_mem_each (j := 5) rfl rfl n hn); simpa using this
  obtain ⟨l5, hl5, hn5, hz5⟩ := open_intsW (okWide_slice Try.underlying26 (hval 5 26 v5 rfl rfl)) h5 hw5
  clear hA0 hval0 hsz0
  refine (walk W l0 v0 hl0 x1 hx1 x2 hx2 x3 hx3 x4 hx4 l5 v5 hl5 hn5 hz5).mono fun e W' ⟨he, bel⟩ => ?_
  subst he
  exact ⟨_, rfl, _, _, _, [], _, [], hW', trodAll_mk1 (shut_bool Try.underlying4 _), (trodAll_cons_mk (Below.trod laidOut (by kernel_rfl) (of_decide_eq_true (by kernel_rfl)) k0 bel lt0) (trodAll_cons_mk (Below.trod laidOut (by kernel_rfl) (of_decide_eq_true (by kernel_rfl)) k1 bel lt1) (trodAll_cons_mk (Below.trod laidOut (by kernel_rfl) (of_decide_eq_true (by kernel_rfl)) k2 bel lt2) (trodAll_cons_mk (Below.trod laidOut (by kernel_rfl) (of_decide_eq_true (by kernel_rfl)) k3 bel lt3) (trodAll_cons_mk (Below.trod laidOut (by kernel_rfl) (of_decide_eq_true (by kernel_rfl)) k4 bel lt4) (trodAll_cons_mk (Below.trod laidOut (by kernel_rfl) (of_decide_eq_true (by kernel_rfl)) k5 bel lt5) trodAll_mk0)))))), rfl, bel.frame _, fun h => by cases h⟩
theorem over : Rows.blockTellsRow.holds Try.pinned (OpenSpec.ofChange Rows.blockTellsSpec) :=
  OpenClaim.holds_of_wide 4 Try.f4 rfl rfl rfl rfl rfl rfl rfl ⟨rfl, rfl, rfl, rfl, rfl⟩ rfl rfl rfl rfl rfl (by kernel_rfl) Try.func4 (by kernel_rfl)
    (of_decide_eq_true (by kernel_rfl)) (by unfold Func.isWrapper; first | (rw [if_pos (by decide +kernel)]; kernel_rfl) | (rw [if_neg (by decide +kernel)]; exact ⟨rfl, rfl⟩))
    (fun os started H enc _ => lifted os started H enc)
end Go.Proofs.Ytjmpbnfkiikiaaa.blockTells
namespace Go.Proofs.Ytjmpbnfkiikiaaa
/-- For every input the law BlockTells returns true, and the arguments read as they did. -/
theorem blockTells_holds : Rows.BlockTellsSaid := blockTells.over
end Go.Proofs.Ytjmpbnfkiikiaaa

