/- Whatever may be come to is 0, or something that may be come to goes on there; whatever goes on from there may be come to; back is the other way round: for every slice of ops FlowReach returns true. No condition. -/
import Derived.Test.YtjcaapgecimooaaU7
import Derived.Test.YtjcaapgecimooaaU16
namespace Go.Proofs.Ytjcaapgecimooaa.flowReach
open Go.ChangeShapes Go.WideShapes Go.ChangeAt Go.RowKit
set_option linter.unusedVariables false
set_option linter.unusedSimpArgs false
theorem own : ownKnob Try.prog.godebug = none := by kernel_rfl
theorem laidOut : laidOutB Try.prog = true := by kernel_rfl
theorem bt {a b c : World} (h : Below a.heap.size a b) (k : Below b.heap.size b c) : Below a.heap.size a c := h.trans (k.mono h.size)
theorem reachR_mem {l : List (Int × Int)} (hf : flowErr l = 0) {z : Int} : z ∈ reachR l ↔ ∃ x : Nat, z = (x : Int) ∧ Come l x := by
  rw [reachR, if_pos hf, List.mem_map]
  constructor
  · rintro ⟨x, h1, rfl⟩
    exact ⟨x, rfl, (mem_reachL (flowErr_zero hf).2.2).1 h1⟩
  · rintro ⟨x, rfl, h⟩
    exact ⟨x, (mem_reachL (flowErr_zero hf).2.2).2 h, rfl⟩
theorem reachR_rises {l : List (Int × Int)} {i : Nat} {a b : Int} (ha : (reachR l)[i]? = some a) (hb : (reachR l)[i + 1]? = some b) : ¬ b ≤ a := by
  unfold reachR at ha hb
  split at ha
  · rename_i hf
    rw [if_pos hf] at hb
    have hp : ((reachL l).map Int.ofNat).Pairwise (· < ·) := by
      rw [List.pairwise_map]
      unfold reachL
      exact (List.pairwise_lt_range.filter _).imp (fun h => by simpa using h)
    rw [List.pairwise_iff_getElem] at hp
    obtain ⟨h1, e1⟩ := List.getElem?_eq_some_iff.1 ha
    obtain ⟨h2, e2⟩ := List.getElem?_eq_some_iff.1 hb
    have := hp i (i + 1) h1 h2 (by omega)
    rw [e1, e2] at this
    omega
  · simp at ha
theorem backR_mem {l : List (Int × Int)} {x : Nat} (hb : backErr l x = 0) {z : Int} : z ∈ backR l x ↔ ∃ y : Nat, z = (y : Int) ∧ goesOn l y x = true := by
  rw [backR, if_pos hb, List.mem_map]
  constructor
  · rintro ⟨y, h1, rfl⟩
    exact ⟨y, rfl, mem_backL.1 h1⟩
  · rintro ⟨y, rfl, h⟩
    exact ⟨y, mem_backL.2 h, rfl⟩
theorem nextR_mem {l : List (Int × Int)} (hf : flowErr l = 0) {x : Nat} (hb : nextErr l x = 0) {z : Int} : z ∈ nextR l x ↔ ∃ y : Nat, z = (y : Int) ∧ goesOn l x y = true := by
  rw [nextR, if_pos hb, List.mem_map]
  constructor
  · rintro ⟨y, h1, rfl⟩
    exact ⟨y, rfl, (mem_nextL (flowErr_zero hf).2.2).1 h1⟩
  · rintro ⟨y, rfl, h⟩
    exact ⟨y, (mem_nextL (flowErr_zero hf).2.2).2 h, rfl⟩
theorem nextErr0 {l : List (Int × Int)} (hf : flowErr l = 0) {x : Nat} (h : x < l.length) : nextErr l x = 0 := by
  rw [nextErr, if_neg (by simp [hf]), if_neg (by omega)]
theorem backErr0 {l : List (Int × Int)} (hf : flowErr l = 0) {x : Nat} (h : x ≤ l.length) : backErr l x = 0 := by
  rw [backErr, if_neg (by simp [hf]), if_neg (by omega)]
theorem any_snoc {α : Type} {p : α → Bool} {l : List α} {k : Nat} {o : α} (ho : l[k]? = some o) : (l.take (k + 1)).any p = ((l.take k).any p || p o) := by
  rw [take_snoc l k _ ho, List.any_append]; simp
set_option maxRecDepth 100000 in
set_option maxHeartbeats 4000000 in
theorem walk (w : World) (l : List (Int × Int)) (v : Value) (hl : OpsAt w v l) :
    Calls Try.prog 10 #[v] w fun e w' => e = .returned (.bool true) ∧ Below w.heap.size w w' := by
  have hsl : ∃ p c, v = .slice p l.length c := by obtain ⟨p, c, h, _⟩ := hl; exact ⟨p, c, h⟩
  obtain ⟨pv, cv, rfl⟩ := hsl
  have hm : l.length ≤ 9223372036854775807 := by obtain ⟨_, _, h, h2, _⟩ := hl; unfold maxLen at h2; omega
  have HL := hideP hl
  have hR := flowReach_any l _ w hl
  clear hl
  by_cases hf : flowErr l = 0
  · have h40 := flowErr_40 hf
    rw [hf] at hR
    have hmem := fun z => reachR_mem hf (z := z)
    have hris := fun i a b => reachR_rises (l := l) (i := i) (a := a) (b := b)
    have hlen : (reachR l).length ≤ 41 := by
      rw [reachR, if_pos hf, List.length_map]
      unfold reachL
      have := List.length_filter_le (fun x => @decide (Come l x) (Classical.propDecidable _)) (List.range (l.length + 1))
      rw [List.length_range] at this
      omega
    generalize reachR l = L at *
    have HMEM := hideP hmem
    have HRIS := hideP hris
    have HF := hideP hf
    have hN : ∀ (W : World) (x : Nat), OpsAt W (.slice pv l.length cv) l → x < l.length → Calls Try.prog 31 #[.slice pv l.length cv, .int .i64 x] W fun e w' => ∃ p c, e = .returned (.tuple #[.slice p (nextR l x).length c, .int .i64 0]) ∧ IntsAt w' (.slice p (nextR l x).length c) (nextR l x) ∧ Below W.heap.size W w' := by
      intro W x h hx
      have := flowNext_any l x _ W h
      rw [nextErr0 hf hx] at this
      refine this.mono ?_
      rintro e w' ⟨u, rfl, hr, hb⟩
      obtain ⟨p, c, rfl⟩ := row_shp hr
      exact ⟨_, _, rfl, intsAt_of_row rfl hr, hb⟩
    have hK : ∀ (W : World) (x : Nat), OpsAt W (.slice pv l.length cv) l → x ≤ l.length → Calls Try.prog 32 #[.slice pv l.length cv, .int .i64 x] W fun e w' => ∃ p c, e = .returned (.tuple #[.slice p (backR l x).length c, .int .i64 0]) ∧ IntsAt w' (.slice p (backR l x).length c) (backR l x) ∧ Below W.heap.size W w' := by
      intro W x h hx
      have := flowBack_any l x _ W h
      rw [backErr0 hf hx] at this
      refine this.mono ?_
      rintro e w' ⟨u, rfl, hr, hb⟩
      obtain ⟨p, c, rfl⟩ := row_shp hr
      exact ⟨_, _, rfl, intsAt_of_row rfl hr, hb⟩
    have HN := hideP hN
    have HK := hideP hK
    clear hf hmem hris hN hK
    go_enter Try.func10, Try.ntmps10
    go_wp2_with fail
    refine hR.mono ?_
    rintro e w1 ⟨u1, rfl, r1, hb1⟩
    clear hR
    obtain ⟨p1, c1, rfl⟩ := row_shp r1
    have R1 := hideP (intsAt_of_row rfl r1)
    clear r1
    go_wp2_with fail
    refine (flowBegun_any _).mono ?_
    rintro e w2 ⟨rfl, hb2⟩
    have hB2 := bt hb1 hb2
    have R2 := hideP (R1.out.below hb2)
    have L2 := hideP (HL.out.below hB2)
    clear R1 HL
    go_wp2_with fail
    refine (has_any L 0 _ _ R2.out).mono ?_
    rw [decide_eq_true ((HMEM.out 0).2 ⟨0, rfl, Come.zero⟩)]
    rintro e w3 ⟨rfl, hw3⟩
    have hw3 := hw3.symm
    subst hw3
    go_wp2
    go_loopw [5, 6, 7, 8, 9, 10, 11, 12, 13] (fun v5 _ _ _ _ _ _ _ _ wr => ∃ i : Nat, i ≤ L.length ∧ v5 = .int .i64 i ∧ Below w2.heap.size w2 wr) (fun v5 _ _ _ _ _ _ _ _ _ => L.length - (intOf v5).toNat)
    case atStart => exact ⟨0, Nat.zero_le _, rfl, Below.refl _ _⟩
    case round =>
      rename World => w4
      obtain ⟨i, hi, rfl, hb4⟩ := hrel
      by_cases hlt : i < L.length
      · have hlti : (i : Int) < (L.length : Int) := by omega
        obtain ⟨z, hz⟩ := at_of_lt hlt
        obtain ⟨x, rfl, hcx⟩ := (HMEM.out z).1 (List.mem_of_getElem? hz)
        have hxl := come_le (flowErr_zero HF.out).2.2 hcx
        have L4 := L2.out.below hb4
        have R4 := R2.out.below hb4
        have hR4 := R4
        obtain ⟨pp, cc, hee, hmm, hcc⟩ := hR4
        obtain ⟨b, off, hp, hbl, g4⟩ := hcc i _ hz
        cases hee
        subst hp
        have bdry := backErr0 HF.out hxl
        have hBm := fun z => backR_mem bdry (z := z)
        have hk1 := HK.out w4 x L4 hxl
        have hBl : (backR l x).length ≤ 40 := by
          rw [backR, if_pos bdry, List.length_map]
          unfold backL
          have := List.length_filter_le (fun pc => goesOn l pc (x : Int).toNat) (List.range l.length)
          rw [List.length_range] at this
          omega
        clear bdry
        generalize backR l x = B at *
        have HBM := hideP hBm
        have HCC := hideP hcc
        have HZ := hideP hz
        clear hBm hcc hz
        go_wp2_with fail
        refine hk1.mono ?_
        rintro e w5 ⟨p5, c5, rfl, i5, hb5⟩
        have I5 := hideP i5
        have g5 := (hb5.cell (p := ⟨b, off + i, none⟩) hbl).trans g4
        have R5 := hideP (R4.below hb5)
        have L5 := hideP (L4.below hb5)
        have hB5 := bt hb4 hb5
        have HCX := hideP hcx
        clear hk1 i5 g4 R4 L4 hcx
        obtain ⟨fr, hfr⟩ : ∃ fr, ((x : Int) == 0) = fr := ⟨_, rfl⟩
        by_cases hi0 : i = 0
        case' pos =>
          have hgt : decide ((i : Int) > 0) = false := by simp; omega
          have hgt2 : decide ((0 : Int) < (i : Int)) = false := by simp; omega
          have hgt3 : decide (0 < i) = false := by simp; omega
          clear hi0
          go_wp2_with fail
          go_quiet (fail)
        case' neg =>
          obtain ⟨m, hm1⟩ : ∃ m, i = m + 1 := ⟨i - 1, by omega⟩
          obtain ⟨z', hz'⟩ := at_of_lt (show m < L.length by omega)
          have hris := HRIS.out m _ _ hz' (by rw [← hm1]; exact HZ.out)
          obtain ⟨b', off', hp', hbl', g'⟩ := HCC.out m _ hz'
          cases hp'
          have g5' := (hb5.cell (p := ⟨b, off + m, none⟩) hbl).trans g'
          have hdec : decide ((x : Int) ≤ z') = false := by simpa using hris
          have hwm : wrap64 ((i : Int) - 1) = (m : Int) := by unfold wrap64; omega
          have hwm2 : (i : Int) - 1 = (m : Int) := by omega
          have hgt : decide ((i : Int) > 0) = true := by simp; omega
          have hgt2 : decide ((0 : Int) < (i : Int)) = true := by simp; omega
          have hgt3 : decide (0 < i) = true := by simp; omega
          have hmL : (m : Int) < (L.length : Int) := by omega
          clear hris hz' g' hi0 hm1
          go_wp2_with fail
          go_quiet (fail)
        all_goals
          obtain ⟨w6, hw6⟩ : ∃ w6, w5.drewN nq = w6 := ⟨_, rfl⟩
          have hb6 : Below w5.heap.size w5 w6 := by rw [← hw6]; exact ⟨rfl, rfl, rfl, Nat.le_refl _, fun _ _ => rfl⟩
          rw [hw6]
          have g6 := (hb6.cell (p := ⟨b, off + i, none⟩) (Nat.lt_of_lt_of_le hbl hb5.size)).trans g5
          have hB6 := bt hB5 hb6
          have I6 := hideP (I5.out.below hb6)
          have R6 := hideP (R5.out.below hb6)
          have L6 := hideP (L5.out.below hb6)
          clear hw6 I5 R5 L5 g5
          go_wp2
          go_loopw [8, 9, 10, 11] (fun v8 v9 _ _ wr => ∃ k : Nat, k ≤ B.length ∧ v9 = .int .i64 k ∧ v8 = .bool (fr || (B.take k).any (fun y => decide (y ∈ L))) ∧ Below w6.heap.size w6 wr) (fun _ v9 _ _ _ => B.length - (intOf v9).toNat)
          case atStart => exact ⟨0, Nat.zero_le _, rfl, by simp, Below.refl _ _⟩
          case round =>
            rename World => w7
            obtain ⟨k, hk, rfl, rfl, hb7⟩ := hrel
            by_cases hkl : k < B.length
            · have hkli : (k : Int) < (B.length : Int) := by omega
              obtain ⟨zb, hzb⟩ := at_of_lt hkl
              obtain ⟨y, rfl, hgy⟩ := (HBM.out zb).1 (List.mem_of_getElem? hzb)
              have hyl := goesOn_lt hgy
              have i7 := I6.out.below hb7
              obtain ⟨pp5, cc5, he5, _, hc5⟩ := i7
              obtain ⟨b5, o5, hp5, hb5', g7⟩ := hc5 k _ hzb
              cases he5
              subst hp5
              have hn1 := HN.out w7 y (L6.out.below hb7) hyl
              have hxn : (x : Int) ∈ nextR l y := (nextR_mem HF.out (nextErr0 HF.out hyl)).2 ⟨x, rfl, hgy⟩
              generalize nextR l y = N at *
              have HXN := hideP hxn
              have HZB := hideP hzb
              have g7x := (hb7.cell (p := ⟨b, off + i, none⟩) (Nat.lt_of_lt_of_le (Nat.lt_of_lt_of_le hbl hb5.size) hb6.size)).trans g6
              obtain ⟨f1, hf1⟩ : ∃ f1, (fr || (B.take k).any (fun y => decide (y ∈ L))) = f1 := ⟨_, rfl⟩
              have HF1 := hideP hf1
              rw [hf1]
              clear hxn hzb hc5 hf1
              go_wp2_with fail
              refine hn1.mono ?_
              rintro e w8 ⟨p8, c8, rfl, i8, hb8⟩
              have I8 := hideP i8
              have R8 := hideP ((R6.out.below hb7).below hb8)
              have g8 := (hb8.cell (p := ⟨b5, o5 + k, none⟩) hb5').trans g7
              have g8x := (hb8.cell (p := ⟨b, off + i, none⟩) (Nat.lt_of_lt_of_le (Nat.lt_of_lt_of_le (Nat.lt_of_lt_of_le hbl hb5.size) hb6.size) hb7.size)).trans g7x
              clear hn1 i8 g7 g7x
              cases f1
              · go_wp2_with fail
                refine (has_any L y _ _ R8.out).mono ?_
                rintro e w9 ⟨rfl, hw9⟩
                have hw9 := hw9.symm
                subst hw9
                go_wp2_with fail
                refine (has_any N x _ _ I8.out).mono ?_
                rw [decide_eq_true HXN.out]
                rintro e w10 ⟨rfl, hw10⟩
                have hw10 := hw10.symm
                subst hw10
                go_wp2
                go_roundw
                case rel => exact ⟨k + 1, by omega, by go_num, by rw [any_snoc HZB.out, ← Bool.or_assoc, HF1.out]; simp, bt hb7 hb8⟩
                case measure => simp [intOf]; omega
              · go_wp2_with fail
                refine (has_any N x _ _ I8.out).mono ?_
                rw [decide_eq_true HXN.out]
                rintro e w10 ⟨rfl, hw10⟩
                have hw10 := hw10.symm
                subst hw10
                go_wp2
                go_roundw
                case rel => exact ⟨k + 1, by omega, by go_num, by rw [any_snoc HZB.out, ← Bool.or_assoc, HF1.out]; simp, bt hb7 hb8⟩
                case measure => simp [intOf]; omega
            · have hkli : ¬ (k : Int) < (B.length : Int) := by omega
              have hkk : B.take k = B := List.take_of_length_le (by omega)
              have hfrom : (fr || (B.take k).any (fun y => decide (y ∈ L))) = true := by
                rw [hkk]
                rcases come_from HCX.out with h0 | ⟨pc, h1, h2⟩
                · subst h0
                  rw [← hfr]; simp
                · have : B.any (fun y => decide (y ∈ L)) = true := List.any_eq_true.2 ⟨(pc : Int), (HBM.out _).2 ⟨pc, rfl, h2⟩, decide_eq_true ((HMEM.out _).2 ⟨pc, rfl, h1⟩)⟩
                  rw [this, Bool.or_true]
              rw [hfrom]
              have g7x := (hb7.cell (p := ⟨b, off + i, none⟩) (Nat.lt_of_lt_of_le (Nat.lt_of_lt_of_le hbl hb5.size) hb6.size)).trans g6
              have R7 := hideP (R6.out.below hb7)
              have L7 := hideP (L6.out.below hb7)
              have hB7 := bt hB6 hb7
              clear hkk hfrom
              by_cases hxe : x = l.length
              · have hxe' : ((x : Int) == (l.length : Int)) = true := by simp [hxe]
                clear hxe
                go_wp2
                go_roundw
                case rel => exact ⟨i + 1, by omega, by go_num, hB7⟩
                case measure => simp [intOf]; omega
              · have hxe' : ((x : Int) == (l.length : Int)) = false := by simp; omega
                have hxl2 : x < l.length := by omega
                clear hxe
                have hn1 := HN.out w7 x L7.out hxl2
                have hnm := fun z => nextR_mem HF.out (nextErr0 HF.out hxl2) (z := z)
                generalize nextR l x = N at *
                have HNM := hideP hnm
                clear hnm
                go_wp2_with fail
                refine hn1.mono ?_
                rintro e w8 ⟨p8, c8, rfl, i8, hb8⟩
                have I8 := hideP i8
                have R8 := hideP (R7.out.below hb8)
                have hNl : N.length ≤ 9223372036854775807 := by obtain ⟨_, _, h, h2, _⟩ := i8; unfold maxLen at h2; omega
                clear hn1 i8 g7x
                go_wp2
                go_loopw [13] (fun v13 wr => ∃ k : Nat, k ≤ N.length ∧ v13 = .int .i64 k ∧ wr = w8) (fun v13 _ => N.length - (intOf v13).toNat)
                case atStart => exact ⟨0, Nat.zero_le _, rfl, rfl⟩
                case round =>
                  rename World => w9
                  obtain ⟨k2, hk2, rfl, hw9⟩ := hrel
                  subst hw9
                  by_cases hkn : k2 < N.length
                  · have hkni : (k2 : Int) < (N.length : Int) := by omega
                    obtain ⟨zn, hzn⟩ := at_of_lt hkn
                    obtain ⟨y, rfl, hgy⟩ := (HNM.out zn).1 (List.mem_of_getElem? hzn)
                    have hyL : (y : Int) ∈ L := (HMEM.out _).2 ⟨y, rfl, Come.step HCX.out hgy⟩
                    have i9 := I8.out
                    obtain ⟨pp5, cc5, he5, _, hc5⟩ := i9
                    obtain ⟨b9, o9, hp9, hb9', g9⟩ := hc5 k2 _ hzn
                    cases he5
                    subst hp9
                    have HYL := hideP hyL
                    clear hzn hc5 hyL
                    go_wp2_with fail
                    refine (has_any L y _ _ R8.out).mono ?_
                    rw [decide_eq_true HYL.out]
                    rintro e w10 ⟨rfl, hw10⟩
                    have hw10 := hw10.symm
                    subst hw10
                    go_wp2
                    go_roundw
                    case rel => exact ⟨k2 + 1, by omega, by go_num, trivial⟩
                    case measure => simp [intOf]; omega
                  · have hkni : ¬ (k2 : Int) < (N.length : Int) := by omega
                    go_wp2
                    go_roundw
                    case rel => exact ⟨i + 1, by omega, by go_num, bt hB7 hb8⟩
                    case measure => simp [intOf]; omega
      · have hlti : ¬ (i : Int) < (L.length : Int) := by omega
        go_wp2
        go_ret
        exact ⟨rfl, bt hB2 hb4⟩
  · have hr0 : reachR l = [] := by rw [reachR, if_neg hf]
    rw [hr0] at hR
    have hf' : (flowErr l != 0) = true := by simp [hf]
    clear hf hr0
    go_enter Try.func10, Try.ntmps10
    go_wp2_with fail
    refine hR.mono ?_
    rintro e w1 ⟨u1, rfl, r1, hb1⟩
    clear hR
    obtain ⟨p1, c1, rfl⟩ := row_shp r1
    clear r1
    go_wp2_with fail
    refine (flowBegun_any _).mono ?_
    rintro e w2 ⟨rfl, hb2⟩
    go_wp2
    go_ret
    exact ⟨rfl, bt hb1 hb2⟩
set_option maxRecDepth 100000 in
theorem lifted (os : Os) (started : os.Started) (H : Type) (enc : TypeId × Value → H) :
    ReturnsInHanded {} Try.checked os 10 .any (Rows.flowReachSpec.pre6 enc Try.prog Try.f10 Rows.flowReachRow.domain false) (Rows.flowReachSpec.post enc Try.prog Try.f10 false true false false) := by
  refine returnsInHanded_of_change_sized (C := Try.checked) own started (by kernel_rfl) Try.func10
    (ChangeSpec.witness6 (enc := enc) (C := Try.checked) false ⟨#[], #[.slice none 0 0], []⟩ 8 (by kernel_rfl) (by kernel_rfl) (by kernel_rfl) (by kernel_rfl)) ?_
  intro W base args ds gs before hval0 hW hcnd hsz0 hholds
  have hval : ∀ (j : Nat) t v, Try.f10.params[j]? = some t → args[j]? = some v → Value.okWide Try.prog W .any base t v := hval0
  have hW' := hW
  obtain ⟨p, q, hA0, hV, rfl, hfz, hnd⟩ := hW
  have hA : DataW.TrodAll enc Try.prog W 0 (fun _ => true) true Try.f10.params.toList args.toList ds p := hA0
  rw [Try.params10] at hA hval
  obtain ⟨v0, vs0, d0, ds0, p0, q0, hargs, rfl, rfl, h0, r0⟩ := trodAll_cons hA
  obtain ⟨rfl, rfl, rfl⟩ := trodAll_nil r0
  obtain rfl : args = #[v0] := by cases args; simp_all
  obtain ⟨rfl, rfl⟩ := trodVars_none hV
  have k0 := h0
  have lt0 : ∀ x ∈ p0, x.block < W.heap.size := by obtain ⟨m, hm⟩ := k0; exact DataW.trod_lt m _ _ _ hm
  obtain ⟨l0, hl0⟩ := open_opsV (okWide_slice Try.underlying24 (hval 0 24 v0 rfl rfl)) h0
  clear hA0 hval0 hsz0
  refine (walk W l0 v0 hl0).mono fun e W' ⟨he, bel⟩ => ?_
  subst he
  exact ⟨_, rfl, _, _, _, [], _, [], hW', trodAll_mk1 (shut_bool Try.underlying4 _), (trodAll_cons_mk (Below.trod laidOut (by kernel_rfl) (of_decide_eq_true (by kernel_rfl)) k0 bel lt0) trodAll_mk0), rfl, bel.frame _, fun h => by cases h⟩
theorem over : Rows.flowReachRow.holds Try.pinned (OpenSpec.ofChange Rows.flowReachSpec) :=
  OpenClaim.holds_of_wide 10 Try.f10 rfl rfl rfl rfl rfl rfl rfl ⟨rfl, rfl, rfl, rfl, rfl⟩ rfl rfl rfl rfl rfl (by kernel_rfl) Try.func10 (by kernel_rfl)
    (of_decide_eq_true (by kernel_rfl)) (by unfold Func.isWrapper; first | (rw [if_pos (by decide +kernel)]; kernel_rfl) | (rw [if_neg (by decide +kernel)]; exact ⟨rfl, rfl⟩))
    (fun os started H enc _ => lifted os started H enc)
end Go.Proofs.Ytjcaapgecimooaa.flowReach
namespace Go.Proofs.Ytjcaapgecimooaa
/-- For every input the law FlowReach returns true, and the arguments read as they did. -/
theorem flowReach_holds : Rows.FlowReachSaid := flowReach.over
end Go.Proofs.Ytjcaapgecimooaa

