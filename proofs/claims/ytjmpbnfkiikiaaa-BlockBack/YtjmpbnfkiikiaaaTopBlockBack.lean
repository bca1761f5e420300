/- What is set is got, and nothing else is other; a new block is all noughts: for every slice of blocks and number and number and number and number BlockBack returns true. No condition. -/
import Derived.Test.YtjmpbnfkiikiaaaU13
import Derived.Test.YtjmpbnfkiikiaaaU15
import Derived.Test.YtjmpbnfkiikiaaaU16
namespace Go.Proofs.Ytjmpbnfkiikiaaa.blockBack
open Go.ChangeShapes Go.WideShapes Go.ChangeAt Go.RowKit
set_option linter.unusedVariables false
set_option linter.unusedSimpArgs false
theorem own : ownKnob Try.prog.godebug = none := by kernel_rfl
theorem laidOut : laidOutB Try.prog = true := by kernel_rfl
set_option maxRecDepth 100000 in
set_option maxHeartbeats 4000000 in
theorem walk (w : World) (L : List (List Int)) (v : Value) (hA : BlksAt w v L) (ref : Int) (hr : -9223372036854775808 ≤ ref ∧ ref ≤ 9223372036854775807) (at_ : Int) (ha : -9223372036854775808 ≤ at_ ∧ at_ ≤ 9223372036854775807) (n : Int) (hn_ : -9223372036854775808 ≤ n ∧ n ≤ 9223372036854775807) (size : Int) (hs : -9223372036854775808 ≤ size ∧ size ≤ 9223372036854775807) :
    Calls Try.prog 5 #[v, .int .i64 ref, .int .i64 at_, .int .i64 n, .int .i64 size] w fun e w' => e = .returned (.bool true) ∧ Below w.heap.size w w' := by
  have hNEW : ∀ W, BlksAt W v L → Calls Try.prog 9 #[v, .int .i64 size] W fun e w' => ∃ p c, e = .returned (.tuple #[.slice p (newR L size).length c, .int .i64 (newRef L size), .int .i64 (newErr L size)]) ∧ BlksAt w' (.slice p (newR L size).length c) (newR L size) ∧ Below W.heap.size W w' := fun W h => by
    refine (bNew_any L size hs v W h).mono ?_
    rintro e w' ⟨u, rfl, h2, h3⟩
    obtain ⟨p, c, rfl⟩ := h2.shp
    exact ⟨p, c, rfl, blksAt_of_own h2, h3⟩
  have hSET : ∀ W, BlksAt W v L → Calls Try.prog 14 #[v, .int .i64 ref, .int .i64 at_, .int .i64 n] W fun e w' => ∃ p c, e = .returned (.tuple #[.slice p (setR L ref at_ n).length c, .int .i64 (setErr L ref at_ n)]) ∧ BlksAt w' (.slice p (setR L ref at_ n).length c) (setR L ref at_ n) ∧ Below W.heap.size W w' := fun W h => by
    refine (bSet_any L ref at_ n hr v W h).mono ?_
    rintro e w' ⟨u, rfl, h2, h3⟩
    obtain ⟨p, c, rfl⟩ := h2.shp
    exact ⟨p, c, rfl, blksAt_of_own h2, h3⟩
  have hGET : ∀ (M : List (List Int)) (r a : Int), (-9223372036854775808 ≤ r ∧ r ≤ 9223372036854775807) → ∀ (u : Value) (W : World), BlksAt W u M → Calls Try.prog 13 #[u, .int .i64 r, .int .i64 a] W fun e w' => e = .returned (.tuple #[.int .i64 (getR M r a), .int .i64 (placeErr M r a)]) ∧ Below W.heap.size W w' := fun M r a h u W hu => bGet_any M r a h u W hu
  have HNEW := hideP hNEW
  have HSET := hideP hSET
  have HGET := hideP hGET
  obtain ⟨pv, cv, hv, -, -⟩ := id hA
  subst hv
  have HA := hideP hA
  clear hNEW hSET hGET hA
  go_enter Try.func5, Try.ntmps5
  go_wp2_with fail
  refine (blockBegun_any _).mono ?_
  rintro e w1 ⟨rfl, b1⟩
  go_wp2_with fail
  refine (HSET.out _ (HA.out.below b1)).mono ?_
  rintro e w2 ⟨ps, cs, rfl, hS, b2⟩
  have B2 := bthen0 b1 b2
  clear HSET
  by_cases hse : setErr L ref at_ n = 0
  · have h8 : L.length ≤ 8 := by
      obtain ⟨hp, _⟩ := set_facts hse
      obtain ⟨he, _⟩ := place_zero hp
      exact (blkErr_zero he).1
    have h40 : ∀ b ∈ L, b.length ≤ 40 := fun b hb => by
      obtain ⟨hp, _⟩ := set_facts hse
      obtain ⟨he, _⟩ := place_zero hp
      obtain ⟨i, hi⟩ := List.getElem?_of_mem hb
      have := cellsN_mem hi
      have := (blkErr_zero he).2.1
      omega
    have hgot := fun (i m : Nat) (c : List Int) (y : Int) hc hy => set_got hse (i := i) (m := m) (c := c) (y := y) hc hy
    rw [hse]
    generalize setR L ref at_ n = S at *
    have HGOTS := hideP hgot
    have HS := hideP hS
    have H40 := hideP h40
    clear hse hgot hS h40
    go_wp2
    go_loopw [13, 14, 15, 16, 17] (fun v13 _ _ _ _ wr => ∃ i : Nat, i ≤ L.length ∧ v13 = .int .i64 i ∧ Below w2.heap.size w2 wr) (fun v13 _ _ _ _ _ => L.length - (intOf v13).toNat)
    case atStart => exact ⟨0, Nat.zero_le _, rfl, Below.refl _ _⟩
    case round =>
      rename World => w3
      obtain ⟨i, hi, rfl, b3⟩ := hrel
      have B3 := bthen0 B2 b3
      by_cases hil : i < L.length
      · have hili : (i : Int) < (L.length : Int) := by omega
        obtain ⟨c, hc⟩ := at_of_lt hil
        have hc40 := H40.out c (List.mem_of_getElem? hc)
        have HC := hideP hc
        clear hc
        go_wp2
        go_loopw [14, 15, 16, 17] (fun v14 _ _ _ wr => ∃ k : Nat, k ≤ c.length ∧ v14 = .int .i64 k ∧ Below w3.heap.size w3 wr) (fun v14 _ _ _ _ => c.length - (intOf v14).toNat)
        case atStart => exact ⟨0, Nat.zero_le _, rfl, Below.refl _ _⟩
        case round =>
          rename World => w4
          obtain ⟨k, hk, rfl, b4⟩ := hrel
          obtain ⟨p4, c4, he4, _, hcc⟩ := HA.out.below (bthen0 B3 b4)
          cases he4
          obtain ⟨g, off, cc, hp, hg, g0, g1, _, _⟩ := hcc i c HC.out
          subst hp
          obtain ⟨p5, c5, hc5, _, hcd⟩ := g1
          subst hc5
          clear hcc
          by_cases hkl : k < c.length
          · have hkli : (k : Int) < (c.length : Int) := by omega
            obtain ⟨y, hy⟩ := at_of_lt hkl
            obtain ⟨g', off', hp', _, g2⟩ := hcd k y hy
            subst hp'
            obtain ⟨q1, q2⟩ := HGOTS.out i k c y HC.out hy
            have hG := HGET.out S ((i : Int) + 1) k (by omega) _ _ ((HS.out.below b3).below b4)
            rw [q1, q2] at hG
            have HG := hideP hG
            clear hcd hy q1 q2 hG
            by_cases e1 : (i : Int) + 1 = ref
            · have e1' : ((i : Int) + 1 == ref) = true := by simp [e1]
              by_cases e2 : (k : Int) = at_
              · have e2' : ((k : Int) == at_) = true := by simp [e2]
                rw [if_pos ⟨e1, e2⟩] at HG
                have hself : (n != n) = false := by simp
                clear e1 e2
                go_wp2_with fail
                refine HG.out.mono ?_
                rintro e w5 ⟨rfl, b5⟩
                go_wp2
                go_roundw
                case rel => exact ⟨k + 1, by omega, by go_num, bthen0 b4 b5⟩
                case measure => simp [intOf]; omega
              · have e2' : ((k : Int) == at_) = false := by simp [e2]
                rw [if_neg (fun h => e2 h.2)] at HG
                have hself : (y != y) = false := by simp
                clear e1 e2
                go_wp2_with fail
                refine HG.out.mono ?_
                rintro e w5 ⟨rfl, b5⟩
                go_wp2
                go_roundw
                case rel => exact ⟨k + 1, by omega, by go_num, bthen0 b4 b5⟩
                case measure => simp [intOf]; omega
            · have e1' : ((i : Int) + 1 == ref) = false := by simp [e1]
              rw [if_neg (fun h => e1 h.1)] at HG
              have hself : (y != y) = false := by simp
              clear e1
              go_wp2_with fail
              refine HG.out.mono ?_
              rintro e w5 ⟨rfl, b5⟩
              go_wp2
              go_roundw
              case rel => exact ⟨k + 1, by omega, by go_num, bthen0 b4 b5⟩
              case measure => simp [intOf]; omega
          · have hkli : ¬ (k : Int) < (c.length : Int) := by omega
            clear hcd
            go_wp2
            go_roundw
            case rel => exact ⟨i + 1, by omega, by go_num, bthen0 b3 b4⟩
            case measure => simp [intOf]; omega
      · have hili : ¬ (i : Int) < (L.length : Int) := by omega
        have BX := B3
        clear B3 h8 H40 HGOTS HS
        go_wp2_with fail
        refine (HNEW.out _ (HA.out.below BX)).mono ?_
        rintro e wN ⟨pn, cn, rfl, hn, bn⟩
        have BN := bthen0 BX bn
        by_cases he : newErr L size = 0
        · obtain ⟨m, hm⟩ : ∃ m : Nat, size = m := ⟨size.toNat, by have := newErr_ge he; omega⟩
          subst hm
          obtain ⟨hbe, h8, h40, hR, href, hbn⟩ := new_facts he
          have hgot := fun k hk => new_got (k := k) he hk
          have hpast := new_past he
          rw [← hR] at hbn
          rw [he, href]
          generalize newR L m = M at *
          have HGOT := hideP hgot
          have HPAST := hideP hpast
          have HBN := hideP hbn
          have HN := hideP hn
          clear he hbe hR href hgot hpast hbn hn HNEW
          have hm40 : m ≤ 40 := by omega
          go_wp2
          go_loopw [20, 21, 22] (fun v20 _ _ wr => ∃ k : Nat, k ≤ m ∧ v20 = .int .i64 k ∧ Below wN.heap.size wN wr) (fun v20 _ _ _ => m - (intOf v20).toNat)
          case atStart => exact ⟨0, Nat.zero_le _, rfl, Below.refl _ _⟩
          case round =>
            rename World => wL
            obtain ⟨k, hk, rfl, bl⟩ := hrel
            by_cases hlt : k < m
            · have hlti : (k : Int) < (m : Int) := by omega
              obtain ⟨g1, g2⟩ := HGOT.out k hlt
              have hG := HGET.out M ((L.length : Int) + 1) k (by omega) _ _ (HN.out.below bl)
              rw [g1, g2] at hG
              have HG := hideP hG
              clear g1 g2 hG
              go_wp2_with fail
              refine HG.out.mono ?_
              rintro e wG ⟨rfl, bg⟩
              go_wp2
              go_roundw
              case rel => exact ⟨k + 1, by omega, by go_num, bthen0 bl bg⟩
              case measure => simp [intOf]; omega
            · have hlti : ¬ (k : Int) < (m : Int) := by omega
              have hG := HGET.out M ((L.length : Int) + 1) m (by omega) _ _ (HN.out.below bl)
              rw [HPAST.out] at hG
              have HG := hideP hG
              clear hG
              go_wp2_with fail
              refine HG.out.mono ?_
              rintro e wG ⟨rfl, bg⟩
              have hC := bCheck_any M _ wG ((HN.out.below bl).below bg)
              rw [HBN.out] at hC
              have HC := hideP hC
              clear hC
              have hself : ((L.length : Int) + 1 == (L.length : Int) + 1) = true := by simp
              go_wp2_with fail
              refine HC.out.mono ?_
              rintro e wC ⟨rfl, bc⟩
              go_wp2
              go_ret
              exact ⟨rfl, bthen0 BN (bthen0 bl (bthen0 bg bc))⟩
        · have e1 : newR L size = [] := by rw [newR, if_neg he]
          have e2 : newRef L size = 0 := by rw [newRef, if_neg he]
          have e3 : (newErr L size != 0) = true := by simp [he]
          rw [e1, e2]
          clear e1 e2 he hn
          go_wp2
          go_ret
          exact ⟨rfl, BN⟩
  · have e1 : setR L ref at_ n = [] := by rw [setR, if_neg hse]
    have e2 : (setErr L ref at_ n == 0) = false := by simp [hse]
    rw [e1]
    have BX := B2
    clear e1 hse hS B2
    go_wp2_with fail
    refine (HNEW.out _ (HA.out.below BX)).mono ?_
    rintro e wN ⟨pn, cn, rfl, hn, bn⟩
    have BN := bthen0 BX bn
    by_cases he : newErr L size = 0
    · obtain ⟨m, hm⟩ : ∃ m : Nat, size = m := ⟨size.toNat, by have := newErr_ge he; omega⟩
      subst hm
      obtain ⟨hbe, h8, h40, hR, href, hbn⟩ := new_facts he
      have hgot := fun k hk => new_got (k := k) he hk
      have hpast := new_past he
      rw [← hR] at hbn
      rw [he, href]
      generalize newR L m = M at *
      have HGOT := hideP hgot
      have HPAST := hideP hpast
      have HBN := hideP hbn
      have HN := hideP hn
      clear he hbe hR href hgot hpast hbn hn HNEW
      have hm40 : m ≤ 40 := by omega
      go_wp2
      go_loopw [20, 21, 22] (fun v20 _ _ wr => ∃ k : Nat, k ≤ m ∧ v20 = .int .i64 k ∧ Below wN.heap.size wN wr) (fun v20 _ _ _ => m - (intOf v20).toNat)
      case atStart => exact ⟨0, Nat.zero_le _, rfl, Below.refl _ _⟩
      case round =>
        rename World => wL
        obtain ⟨k, hk, rfl, bl⟩ := hrel
        by_cases hlt : k < m
        · have hlti : (k : Int) < (m : Int) := by omega
          obtain ⟨g1, g2⟩ := HGOT.out k hlt
          have hG := HGET.out M ((L.length : Int) + 1) k (by omega) _ _ (HN.out.below bl)
          rw [g1, g2] at hG
          have HG := hideP hG
          clear g1 g2 hG
          go_wp2_with fail
          refine HG.out.mono ?_
          rintro e wG ⟨rfl, bg⟩
          go_wp2
          go_roundw
          case rel => exact ⟨k + 1, by omega, by go_num, bthen0 bl bg⟩
          case measure => simp [intOf]; omega
        · have hlti : ¬ (k : Int) < (m : Int) := by omega
          have hG := HGET.out M ((L.length : Int) + 1) m (by omega) _ _ (HN.out.below bl)
          rw [HPAST.out] at hG
          have HG := hideP hG
          clear hG
          go_wp2_with fail
          refine HG.out.mono ?_
          rintro e wG ⟨rfl, bg⟩
          have hC := bCheck_any M _ wG ((HN.out.below bl).below bg)
          rw [HBN.out] at hC
          have HC := hideP hC
          clear hC
          have hself : ((L.length : Int) + 1 == (L.length : Int) + 1) = true := by simp
          go_wp2_with fail
          refine HC.out.mono ?_
          rintro e wC ⟨rfl, bc⟩
          go_wp2
          go_ret
          exact ⟨rfl, bthen0 BN (bthen0 bl (bthen0 bg bc))⟩
    · have e1 : newR L size = [] := by rw [newR, if_neg he]
      have e2 : newRef L size = 0 := by rw [newRef, if_neg he]
      have e3 : (newErr L size != 0) = true := by simp [he]
      rw [e1, e2]
      clear e1 e2 he hn
      go_wp2
      go_ret
      exact ⟨rfl, BN⟩
set_option maxRecDepth 100000 in
theorem lifted (os : Os) (started : os.Started) (H : Type) (enc : TypeId × Value → H) :
    ReturnsInHanded {} Try.checked os 5 .any (Rows.blockBackSpec.pre6 enc Try.prog Try.f5 Rows.blockBackRow.domain false) (Rows.blockBackSpec.post enc Try.prog Try.f5 false true false false) := by
  refine returnsInHanded_of_change_sized (C := Try.checked) own started (by kernel_rfl) Try.func5
    (ChangeSpec.witness6 (enc := enc) (C := Try.checked) false ⟨#[], #[.slice none 0 0, .int .i64 0, .int .i64 0, .int .i64 0, .int .i64 0], []⟩ 8 (by kernel_rfl) (by kernel_rfl) (by kernel_rfl) (by kernel_rfl)) ?_
  intro W base args ds gs before hval0 hW hcnd hsz0 hholds
  have hval : ∀ (j : Nat) t v, Try.f5.params[j]? = some t → args[j]? = some v → Value.okWide Try.prog W .any base t v := hval0
  have hsz : (DataW.weightsEach Try.prog (Try.f5.params.toList ++ Rows.blockBackSpec.plain.varTypes Try.prog) (ds ++ gs)).all (· ≤ reachBytes) = true := hsz0
  have hW' := hW
  obtain ⟨p, q, hA0, hV, rfl, hfz, hnd⟩ := hW
  have hA : DataW.TrodAll enc Try.prog W 0 (fun _ => true) true Try.f5.params.toList args.toList ds p := hA0
  rw [Try.params5] at hA hval hsz
  obtain ⟨v0, vs0, d0, ds0, p0, q0, hargs, rfl, rfl, h0, r0⟩ := trodAll_cons hA
  obtain ⟨v1, vs1, d1, ds1, p1, q1, rfl, rfl, rfl, h1, r1⟩ := trodAll_cons r0
  obtain ⟨v2, vs2, d2, ds2, p2, q2, rfl, rfl, rfl, h2, r2⟩ := trodAll_cons r1
  obtain ⟨v3, vs3, d3, ds3, p3, q3, rfl, rfl, rfl, h3, r3⟩ := trodAll_cons r2
  obtain ⟨v4, vs4, d4, ds4, p4, q4, rfl, rfl, rfl, h4, r4⟩ := trodAll_cons r3
  obtain ⟨rfl, rfl, rfl⟩ := trodAll_nil r4
  obtain rfl : args = #[v0, v1, v2, v3, v4] := by cases args; simp_all
  obtain ⟨rfl, rfl⟩ := trodVars_none hV
  have k0 := h0
  have k1 := h1
  have k2 := h2
  have k3 := h3
  have k4 := h4
  have lt0 : ∀ x ∈ p0, x.block < W.heap.size := by obtain ⟨m, hm⟩ := k0; exact DataW.trod_lt m _ _ _ hm
  have lt1 : ∀ x ∈ p1, x.block < W.heap.size := by obtain ⟨m, hm⟩ := k1; exact DataW.trod_lt m _ _ _ hm
  have lt2 : ∀ x ∈ p2, x.block < W.heap.size := by obtain ⟨m, hm⟩ := k2; exact DataW.trod_lt m _ _ _ hm
  have lt3 : ∀ x ∈ p3, x.block < W.heap.size := by obtain ⟨m, hm⟩ := k3; exact DataW.trod_lt m _ _ _ hm
  have lt4 : ∀ x ∈ p4, x.block < W.heap.size := by obtain ⟨m, hm⟩ := k4; exact DataW.trod_lt m _ _ _ hm
  have hw0 : ∀ n ∈ d0.weights Try.prog 22, n ≤ reachBytes := fun n hn => by have := List.all_eq_true.1 hsz n (DataW.weights_mem_each (j := 0) rfl rfl n hn); simpa using this
  obtain ⟨l0, hl0⟩ := open_blksV (okWide_slice Try.underlying22 (hval 0 22 v0 rfl rfl)) h0 hw0
  obtain ⟨x1, rfl, hd1, hp1, wx1⟩ := open_int Try.underlying3 (hval 1 3 v1 rfl rfl) h1
  have hx1 : -9223372036854775808 ≤ x1 ∧ x1 ≤ 9223372036854775807 := by simpa [Lit.wf, IntKind.min, IntKind.max, IntKind.bits, IntKind.signed] using wx1
  obtain ⟨x2, rfl, hd2, hp2, wx2⟩ := open_int Try.underlying3 (hval 2 3 v2 rfl rfl) h2
  have hx2 : -9223372036854775808 ≤ x2 ∧ x2 ≤ 9223372036854775807 := by simpa [Lit.wf, IntKind.min, IntKind.max, IntKind.bits, IntKind.signed] using wx2
  obtain ⟨x3, rfl, hd3, hp3, wx3⟩ := open_int Try.underlying3 (hval 3 3 v3 rfl rfl) h3
  have hx3 : -9223372036854775808 ≤ x3 ∧ x3 ≤ 9223372036854775807 := by simpa [Lit.wf, IntKind.min, IntKind.max, IntKind.bits, IntKind.signed] using wx3
  obtain ⟨x4, rfl, hd4, hp4, wx4⟩ := open_int Try.underlying3 (hval 4 3 v4 rfl rfl) h4
  have hx4 : -9223372036854775808 ≤ x4 ∧ x4 ≤ 9223372036854775807 := by simpa [Lit.wf, IntKind.min, IntKind.max, IntKind.bits, IntKind.signed] using wx4
  clear hA0 hval0 hsz0
  refine (walk W l0 v0 hl0 x1 hx1 x2 hx2 x3 hx3 x4 hx4).mono fun e W' ⟨he, bel⟩ => ?_
  subst he
  exact ⟨_, rfl, _, _, _, [], _, [], hW', trodAll_mk1 (shut_bool Try.underlying4 _), (trodAll_cons_mk (Below.trod laidOut (by kernel_rfl) (of_decide_eq_true (by kernel_rfl)) k0 bel lt0) (trodAll_cons_mk (Below.trod laidOut (by kernel_rfl) (of_decide_eq_true (by kernel_rfl)) k1 bel lt1) (trodAll_cons_mk (Below.trod laidOut (by kernel_rfl) (of_decide_eq_true (by kernel_rfl)) k2 bel lt2) (trodAll_cons_mk (Below.trod laidOut (by kernel_rfl) (of_decide_eq_true (by kernel_rfl)) k3 bel lt3) (trodAll_cons_mk (Below.trod laidOut (by kernel_rfl) (of_decide_eq_true (by kernel_rfl)) k4 bel lt4) trodAll_mk0))))), rfl, bel.frame _, fun h => by cases h⟩
theorem over : Rows.blockBackRow.holds Try.pinned (OpenSpec.ofChange Rows.blockBackSpec) :=
  OpenClaim.holds_of_wide 5 Try.f5 rfl rfl rfl rfl rfl rfl rfl ⟨rfl, rfl, rfl, rfl, rfl⟩ rfl rfl rfl rfl rfl (by kernel_rfl) Try.func5 (by kernel_rfl)
    (of_decide_eq_true (by kernel_rfl)) (by unfold Func.isWrapper; first | (rw [if_pos (by decide +kernel)]; kernel_rfl) | (rw [if_neg (by decide +kernel)]; exact ⟨rfl, rfl⟩))
    (fun os started H enc _ => lifted os started H enc)
end Go.Proofs.Ytjmpbnfkiikiaaa.blockBack
namespace Go.Proofs.Ytjmpbnfkiikiaaa
/-- For every input the law BlockBack returns true, and the arguments read as they did. -/
theorem blockBack_holds : Rows.BlockBackSaid := blockBack.over
end Go.Proofs.Ytjmpbnfkiikiaaa

