/- A block that is made, and not kept, has never been; there is room for one as great as what is left: for every slice of blocks and number BlockRoom returns true. No condition. -/
import Derived.Test.YtjmpbnfkiikiaaaU13
import Derived.Test.YtjmpbnfkiikiaaaU15
import Derived.Test.YtjmpbnfkiikiaaaU16
namespace Go.Proofs.Ytjmpbnfkiikiaaa.blockRoom
open Go.ChangeShapes Go.WideShapes Go.ChangeAt Go.RowKit
set_option linter.unusedVariables false
set_option linter.unusedSimpArgs false
theorem own : ownKnob Try.prog.godebug = none := by kernel_rfl
theorem laidOut : laidOutB Try.prog = true := by kernel_rfl
set_option maxRecDepth 100000 in
set_option maxHeartbeats 4000000 in
theorem walk (w : World) (L : List (List Int)) (v : Value) (hA : BlksAt w v L) (size : Int) (hs : -9223372036854775808 ≤ size ∧ size ≤ 9223372036854775807) :
    Calls Try.prog 3 #[v, .int .i64 size] w fun e w' => e = .returned (.bool true) ∧ Below w.heap.size w w' := by
  obtain ⟨i0, hi, hz0, hz1, hz2⟩ := info_parts infoInt
  have hN : ∀ (sz : Int) (W : World), (-9223372036854775808 ≤ sz ∧ sz ≤ 9223372036854775807) → BlksAt W v L → Calls Try.prog 9 #[v, .int .i64 sz] W fun e w' => ∃ p c, e = .returned (.tuple #[.slice p (newR L sz).length c, .int .i64 (newRef L sz), .int .i64 (newErr L sz)]) ∧ BlksAt w' (.slice p (newR L sz).length c) (newR L sz) ∧ Below W.heap.size W w' := fun sz W h0 h => by
    refine (bNew_any L sz h0 v W h).mono ?_
    rintro e w' ⟨u, rfl, h2, h3⟩
    obtain ⟨p, c, rfl⟩ := h2.shp
    exact ⟨p, c, rfl, blksAt_of_own h2, h3⟩
  have hCK := fun W h => bCheck_any L v W h
  have HN := hideP hN
  have HCK := hideP hCK
  obtain ⟨pv, cv, hv, -, -⟩ := id hA
  subst hv
  have HA := hideP hA
  clear hN hCK hA
  go_enter Try.func3, Try.ntmps3
  go_wp2_with fail
  refine (blockBegun_any _).mono ?_
  rintro e w1 ⟨rfl, b1⟩
  go_wp2_with fail
  refine (HCK.out _ (HA.out.below b1)).mono ?_
  rintro e w2 ⟨rfl, b2⟩
  have B2 := bthen0 b1 b2
  by_cases hbe : blkErr L = 0
  · obtain ⟨h8, h40, -⟩ := blkErr_zero hbe
    obtain ⟨hl7, hl0⟩ := room_left hbe
    rw [hbe]
    have HL7 := hideP hl7
    have HL0 := hideP hl0
    clear HCK hbe hl7 hl0
    go_wp2
    go_loopw [5, 6] (fun v5 v6 wr => ∃ k : Nat, k ≤ L.length ∧ v6 = .int .i64 k ∧ wr.ownsRow w2.heap.size 3 1 v5 k ((oneTo k).map (Value.int .i64)) ∧ Below w2.heap.size w2 wr) (fun _ v6 _ => L.length - (intOf v6).toNat)
    case atStart => exact ⟨0, Nat.zero_le _, rfl, World.ownsRow_nil _ _ _ _, Below.refl _ _⟩
    case round =>
      rename World => w3
      obtain ⟨k, hk, rfl, hrow, b3⟩ := hrel
      obtain ⟨p5, c5, hv5⟩ := row_shp hrow
      subst hv5
      have B3 := bthen0 B2 b3
      have s3 := b3.size
      by_cases hlt : k < L.length
      · have hlti : (k : Int) < (L.length : Int) := by omega
        have HROW := hideP (hrow.alloc (.cells #[.int .i64 ((k : Int) + 1)] 3))
        clear hrow
        go_wp2_with (at_builtin; refine wpList_append_own _ rfl _ _ 26 rfl w2.heap.size 3 i0 (.int .i64 0) 1 8 Try.underlying26 hi hz0 hz1 hz2 rfl (by decide) _ _ _ rfl HROW.out ⟨w3.heap.size, 0, none⟩ 1 1 [.int .i64 ((k : Int) + 1)] rfl rfl (cell_one_at (by rw [cell_at' (World.alloc_heap_new w3 (.cells #[.int .i64 ((k : Int) + 1)] 3)) 0]; rfl)) (by simp [Value.oneCell']) (by unfold maxLen; omega) (by omega) (by simp; omega) ?_; intro v9 w9 hown9 hg9 _; have HO := hideP hown9; clear hown9)
        go_roundw
        case rel =>
          have e1 : (oneTo (k + 1)).map (Value.int .i64) = (oneTo k).map (Value.int .i64) ++ [.int .i64 ((k : Int) + 1)] := by rw [oneTo_succ, List.map_append]; rfl
          refine ⟨k + 1, by omega, by go_num, by rw [e1]; exact HO.out, ?_⟩
          exact (b3.alloc s3 _).grown hg9 (by simp; omega) (fun j hj => (HROW.out.lt j hj).1)
        case measure => simp [intOf]; omega
      · have hlti : ¬ (k : Int) < (L.length : Int) := by omega
        have hkl : k = L.length := by omega
        subst hkl
        have hI : IntsAt w3 (.slice p5 L.length c5) (oneTo L.length) := intsAt_of_row (oneTo_length _).symm hrow
        have HI := hideP hI
        clear hrow hI
        go_wp2_with fail
        refine (HN.out size _ hs (HA.out.below B3)).mono ?_
        rintro e w4 ⟨pn, cn, rfl, hn, b4⟩
        have B4 := bthen0 B3 b4
        by_cases he : newErr L size = 0
        · obtain ⟨m, hm⟩ : ∃ m : Nat, size = m := ⟨size.toNat, by have := newErr_ge he; omega⟩
          subst hm
          obtain ⟨_, _, _, hR, href, hbn⟩ := new_facts he
          obtain ⟨hke, hkr⟩ := room_kept hbn
          rw [he]
          rw [← hR] at hke hkr
          have hKP := bKeep_any (newR L m) (oneTo L.length) (.slice pn (newR L m).length cn) (.slice p5 L.length c5) w4 hn (HI.out.below b4) (by rw [oneTo_length]; omega)
          rw [hke, hkr] at hKP
          have HKP := hideP hKP
          clear he hR href hbn hke hkr hKP hn
          generalize newR L m = M at *
          go_wp2_with fail
          refine HKP.out.mono ?_
          rintro e w5 ⟨x5, y5, rfl, o5, r5, b5⟩
          obtain ⟨px, cx, hx⟩ := o5.shp
          obtain ⟨py, cy, hy⟩ := row_shp r5
          subst hx hy
          have hSB := sameBlocks_any L L _ _ w5 (blksAt_of_own o5) ((HA.out.below B4).below b5)
          rw [decide_eq_true rfl] at hSB
          have HSB := hideP hSB
          have B5 := bthen0 B4 b5
          clear o5 r5 hSB HKP
          go_wp2_with fail
          refine HSB.out.mono ?_
          rintro e w6 ⟨rfl, b6⟩
          have BX := bthen0 B5 b6
          clear B5
          go_wp2_with fail
          refine (cellsOf_any L _ _ (HA.out.below BX) h8).mono ?_
          rintro e wx ⟨rfl, hwx⟩
          have hwx := hwx.symm
          subst hwx
          have q1 := HN.out (40 - (cellsN L : Int)) _ (by omega) (HA.out.below BX)
          have Q1 := hideP q1
          clear q1
          go_wp2_with fail
          refine Q1.out.mono ?_
          rintro e w7 ⟨pa, ca, rfl, _, b7⟩
          have q2 := HN.out (40 - (cellsN L : Int) + 1) _ (by omega) (HA.out.below (bthen0 BX b7))
          rw [HL7.out] at q2
          have Q2 := hideP q2
          clear q2 Q1
          go_wp2_with fail
          refine Q2.out.mono ?_
          rintro e w8 ⟨pb, cb, rfl, _, b8⟩
          have hfin : (newErr L (40 - (cellsN L : Int)) == 0) = decide ((L.length : Int) < 8) := by
            have := HL0.out
            rw [Bool.eq_iff_iff] at this ⊢
            simp at this ⊢
            omega
          have hbb : ∀ x : Bool, (x == x) = true := fun x => by simp
          go_wp2
          all_goals
            go_ret
            exact ⟨by simp [hfin], bthen0 BX (bthen0 b7 b8)⟩
        · have e0 : (newErr L size == 0) = false := by simp [he]
          have BX := B4
          clear he hn
          go_wp2_with fail
          refine (cellsOf_any L _ _ (HA.out.below BX) h8).mono ?_
          rintro e wx ⟨rfl, hwx⟩
          have hwx := hwx.symm
          subst hwx
          have q1 := HN.out (40 - (cellsN L : Int)) _ (by omega) (HA.out.below BX)
          have Q1 := hideP q1
          clear q1
          go_wp2_with fail
          refine Q1.out.mono ?_
          rintro e w7 ⟨pa, ca, rfl, _, b7⟩
          have q2 := HN.out (40 - (cellsN L : Int) + 1) _ (by omega) (HA.out.below (bthen0 BX b7))
          rw [HL7.out] at q2
          have Q2 := hideP q2
          clear q2 Q1
          go_wp2_with fail
          refine Q2.out.mono ?_
          rintro e w8 ⟨pb, cb, rfl, _, b8⟩
          have hfin : (newErr L (40 - (cellsN L : Int)) == 0) = decide ((L.length : Int) < 8) := by
            have := HL0.out
            rw [Bool.eq_iff_iff] at this ⊢
            simp at this ⊢
            omega
          have hbb : ∀ x : Bool, (x == x) = true := fun x => by simp
          go_wp2
          all_goals
            go_ret
            exact ⟨by simp [hfin], bthen0 BX (bthen0 b7 b8)⟩
  · have he' : (blkErr L != 0) = true := by simp [hbe]
    clear hbe HCK
    go_wp2
    go_ret
    exact ⟨rfl, B2⟩
set_option maxRecDepth 100000 in
theorem lifted (os : Os) (started : os.Started) (H : Type) (enc : TypeId × Value → H) :
    ReturnsInHanded {} Try.checked os 3 .any (Rows.blockRoomSpec.pre6 enc Try.prog Try.f3 Rows.blockRoomRow.domain false) (Rows.blockRoomSpec.post enc Try.prog Try.f3 false true false false) := by
  refine returnsInHanded_of_change_sized (C := Try.checked) own started (by kernel_rfl) Try.func3
    (ChangeSpec.witness6 (enc := enc) (C := Try.checked) false ⟨#[], #[.slice none 0 0, .int .i64 0], []⟩ 8 (by kernel_rfl) (by kernel_rfl) (by kernel_rfl) (by kernel_rfl)) ?_
  intro W base args ds gs before hval0 hW hcnd hsz0 hholds
  have hval : ∀ (j : Nat) t v, Try.f3.params[j]? = some t → args[j]? = some v → Value.okWide Try.prog W .any base t v := hval0
  have hsz : (DataW.weightsEach Try.prog (Try.f3.params.toList ++ Rows.blockRoomSpec.plain.varTypes Try.prog) (ds ++ gs)).all (· ≤ reachBytes) = true := hsz0
  have hW' := hW
  obtain ⟨p, q, hA0, hV, rfl, hfz, hnd⟩ := hW
  have hA : DataW.TrodAll enc Try.prog W 0 (fun _ => true) true Try.f3.params.toList args.toList ds p := hA0
  rw [Try.params3] at hA hval hsz
  obtain ⟨v0, vs0, d0, ds0, p0, q0, hargs, rfl, rfl, h0, r0⟩ := trodAll_cons hA
  obtain ⟨v1, vs1, d1, ds1, p1, q1, rfl, rfl, rfl, h1, r1⟩ := trodAll_cons r0
  obtain ⟨rfl, rfl, rfl⟩ := trodAll_nil r1
  obtain rfl : args = #[v0, v1] := by cases args; simp_all
  obtain ⟨rfl, rfl⟩ := trodVars_none hV
  have k0 := h0
  have k1 := h1
  have lt0 : ∀ x ∈ p0, x.block < W.heap.size := by obtain ⟨m, hm⟩ := k0; exact DataW.trod_lt m _ _ _ hm
  have lt1 : ∀ x ∈ p1, x.block < W.heap.size := by obtain ⟨m, hm⟩ := k1; exact DataW.trod_lt m _ _ _ hm
  have hw0 : ∀ n ∈ d0.weights Try.prog 22, n ≤ reachBytes := fun n hn => by have := List.all_eq_true.1 hsz n (DataW.weights_mem_each (j := 0) rfl rfl n hn); simpa using this
  obtain ⟨l0, hl0⟩ := open_blksV (okWide_slice Try.underlying22 (hval 0 22 v0 rfl rfl)) h0 hw0
  obtain ⟨x1, rfl, hd1, hp1, wx1⟩ := open_int Try.underlying3 (hval 1 3 v1 rfl rfl) h1
  have hx1 : -9223372036854775808 ≤ x1 ∧ x1 ≤ 9223372036854775807 := by simpa [Lit.wf, IntKind.min, IntKind.max, IntKind.bits, IntKind.signed] using wx1
  clear hA0 hval0 hsz0
  refine (walk W l0 v0 hl0 x1 hx1).mono fun e W' ⟨he, bel⟩ => ?_
  subst he
  exact ⟨_, rfl, _, _, _, [], _, [], hW', trodAll_mk1 (shut_bool Try.underlying4 _), (trodAll_cons_mk (Below.trod laidOut (by kernel_rfl) (of_decide_eq_true (by kernel_rfl)) k0 bel lt0) (trodAll_cons_mk (Below.trod laidOut (by kernel_rfl) (of_decide_eq_true (by kernel_rfl)) k1 bel lt1) trodAll_mk0)), rfl, bel.frame _, fun h => by cases h⟩
theorem over : Rows.blockRoomRow.holds Try.pinned (OpenSpec.ofChange Rows.blockRoomSpec) :=
  OpenClaim.holds_of_wide 3 Try.f3 rfl rfl rfl rfl rfl rfl rfl ⟨rfl, rfl, rfl, rfl, rfl⟩ rfl rfl rfl rfl rfl (by kernel_rfl) Try.func3 (by kernel_rfl)
    (of_decide_eq_true (by kernel_rfl)) (by unfold Func.isWrapper; first | (rw [if_pos (by decide +kernel)]; kernel_rfl) | (rw [if_neg (by decide +kernel)]; exact ⟨rfl, rfl⟩))
    (fun os started H enc _ => lifted os started H enc)
end Go.Proofs.Ytjmpbnfkiikiaaa.blockRoom
namespace Go.Proofs.Ytjmpbnfkiikiaaa
/-- For every input the law BlockRoom returns true, and the arguments read as they did. -/
theorem blockRoom_holds : Rows.BlockRoomSaid := blockRoom.over
end Go.Proofs.Ytjmpbnfkiikiaaa

