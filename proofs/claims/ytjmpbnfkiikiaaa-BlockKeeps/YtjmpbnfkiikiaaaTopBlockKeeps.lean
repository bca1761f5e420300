/- What is kept is as it was, by the ref that it has then; kept again it is the same; no others are there: for every slice of blocks and slice of numbers BlockKeeps returns true. No condition. -/
import Derived.Test.YtjmpbnfkiikiaaaU13
import Derived.Test.YtjmpbnfkiikiaaaU15
import Derived.Test.YtjmpbnfkiikiaaaU16
namespace Go.Proofs.Ytjmpbnfkiikiaaa.blockKeeps
open Go.ChangeShapes Go.WideShapes Go.ChangeAt Go.RowKit
set_option linter.unusedVariables false
set_option linter.unusedSimpArgs false
theorem own : ownKnob Try.prog.godebug = none := by kernel_rfl
theorem laidOut : laidOutB Try.prog = true := by kernel_rfl
theorem wrapm (x : Nat) (h : x ≤ 100) : wrap64 ((x : Int) + 1 - 1) = (x : Int) := by unfold wrap64; omega
set_option maxRecDepth 100000 in
set_option maxHeartbeats 4000000 in
theorem walk (w : World) (L : List (List Int)) (v : Value) (hA : BlksAt w v L) (refs : List Int) (u : Value) (hU : IntsAt w u refs) (hnu : NilOk u) (hz : refs.length ≤ 17592186044416) :
    Calls Try.prog 6 #[v, u] w fun e w' => e = .returned (.bool true) ∧ Below w.heap.size w w' := by
  have hK : ∀ (M : List (List Int)) (rs : List Int) (W : World) (x y : Value), BlksAt W x M → IntsAt W y rs → rs.length ≤ 17592186044416 → Calls Try.prog 10 #[x, y] W fun e w' => ∃ p c p' c', e = .returned (.tuple #[.slice p (keptR M rs).length c, .slice p' (thenR M rs).length c', .int .i64 (keepErr M rs)]) ∧ BlksAt w' (.slice p (keptR M rs).length c) (keptR M rs) ∧ IntsAt w' (.slice p' (thenR M rs).length c') (thenR M rs) ∧ Below W.heap.size W w' := by
    intro M rs W x y h1 h2 h3
    refine (bKeep_any M rs x y W h1 h2 h3).mono ?_
    rintro e w' ⟨a, b, rfl, h3, h4, h5⟩
    obtain ⟨p, c, rfl⟩ := h3.shp
    obtain ⟨p', c', rfl⟩ := row_shp h4
    exact ⟨p, c, p', c', rfl, blksAt_of_own h3, intsAt_of_row rfl h4, h5⟩
  have HK := hideP hK
  obtain ⟨pv, cv, hv, -, -⟩ := id hA
  obtain ⟨pu, cu, hu, -, -⟩ := id hU
  subst hv hu
  have HA := hideP hA
  have HU := hideP hU
  clear hK hA hU hnu
  go_enter Try.func6, Try.ntmps6
  go_wp2_with fail
  refine (HK.out L refs _ _ _ HA.out HU.out hz).mono ?_
  rintro e w1 ⟨p1, c1, p2, c2, rfl, h1, h2, b1⟩
  go_wp2_with fail
  refine (blockBegun_any _).mono ?_
  rintro e w2 ⟨rfl, b2⟩
  have B2 := bthen0 b1 b2
  have h12 := h1.below b2
  have h22 := h2.below b2
  clear h1 h2
  by_cases he : keepErr L refs = 0
  · have e1 : keptR L refs = keptL L refs L.length := by rw [keptR, if_pos he]
    have e2 : thenR L refs = refs.map (thenOf refs) := by rw [thenR, if_pos he]
    obtain ⟨a1, a2, a3⟩ := keep_again he
    have hat := fun (r : Int) hr h0 => keep_at he (r := r) hr h0
    have hhas := fun (r : Nat) hr => keep_has he (r := r) hr
    have h8 : L.length ≤ 8 := (blkErr_zero (keep_facts he).1).1
    have hk8 : (keptL L refs L.length).length ≤ 8 := by rw [keptL_length]; have := stays_le refs L.length; omega
    rw [he, e1, e2]
    rw [e1] at h12
    rw [e2] at h22
    obtain ⟨K, hKK⟩ : ∃ K, keptL L refs L.length = K := ⟨_, rfl⟩
    obtain ⟨T, hTT⟩ : ∃ T, refs.map (thenOf refs) = T := ⟨_, rfl⟩
    have hTl : T.length = refs.length := by rw [← hTT, List.length_map]
    have hTat : ∀ (i : Nat) (r : Int), refs[i]? = some r → T[i]? = some (thenOf refs r) := fun i r hi => by rw [← hTT, List.getElem?_map, hi]; rfl
    have hag := HK.out (keptL L refs L.length) (refs.map (thenOf refs))
    rw [a1, a2, a3] at hag
    rw [hKK] at h12 hat hhas hk8 hag
    rw [hTT] at h22 hhas hag
    rw [hKK, hTT]
    have HAT := hideP hat
    have HHAS := hideP hhas
    have H1 := hideP h12
    have H2 := hideP h22
    have HAG := hideP hag
    have HTL := hideP hTl
    have HTAT := hideP hTat
    have hneq : ((T.length : Int) != (refs.length : Int)) = false := by simp; omega
    have hTz : T.length ≤ 17592186044416 := by omega
    clear he e1 e2 a1 a2 a3 hat hhas h12 h22 hag HK hKK hTT hTl hTat
    go_wp2
    go_loopw [8] (fun v8 wr => ∃ i : Nat, i ≤ refs.length ∧ v8 = .int .i64 i ∧ Below w2.heap.size w2 wr) (fun v8 _ => refs.length - (intOf v8).toNat)
    case atStart => exact ⟨0, Nat.zero_le _, rfl, Below.refl _ _⟩
    case round =>
      rename World => w3
      obtain ⟨i, hi, rfl, b3⟩ := hrel
      have B3 := bthen0 B2 b3
      by_cases hil : i < refs.length
      · have hili : (i : Int) < (refs.length : Int) := by omega
        have hilT : (i : Int) < (T.length : Int) := by have := HTL.out; omega
        obtain ⟨r, hr⟩ := at_of_lt hil
        have ht := HTAT.out i r hr
        obtain ⟨pa, ca, hea, _, hca⟩ := HU.out.below B3
        cases hea
        obtain ⟨ga, oa, hpa, _, ra⟩ := hca i r hr
        subst hpa
        obtain ⟨pb, cb, heb, _, hcb⟩ := H2.out.below b3
        cases heb
        obtain ⟨gb, ob, hpb, _, rb⟩ := hcb i _ ht
        subst hpb
        clear hca hcb
        by_cases h0 : r = 0
        · subst h0
          rw [thenOf_zero] at rb
          clear hr ht
          go_wp2
          go_roundw
          case rel => exact ⟨i + 1, by omega, by go_num, b3⟩
          case measure => simp [intOf]; omega
        · obtain ⟨j, b, hj, hb, hth, hkb⟩ := HAT.out r (List.mem_of_getElem? hr) h0
          have h0' : (r == 0) = false := by simp [h0]
          rw [hth] at rb
          have hjl := lt_of_at hb
          have hskl := lt_of_at hkb
          obtain ⟨s, hs⟩ : ∃ s, (stays refs j).length = s := ⟨_, rfl⟩
          rw [hs] at rb hkb hskl
          have t1 : ¬ ((s : Int) + 1 < 1) := by omega
          have t2 : ¬ ((K.length : Int) < (s : Int) + 1) := by omega
          obtain ⟨pl, cl, hel, _, hcl⟩ := HA.out.below B3
          cases hel
          obtain ⟨gl, ol, xl, hpl, _, rl, il, _, _⟩ := hcl j b hb
          subst hpl
          obtain ⟨pk, ck, hek, _, hck⟩ := H1.out.below b3
          cases hek
          obtain ⟨gk, ok_, xk, hpk, _, rk, ik, _, _⟩ := hck s b hkb
          subst hpk
          obtain ⟨p5, c5, hx5, _, _⟩ := id il
          obtain ⟨p6, c6, hx6, _, _⟩ := id ik
          subst hx5 hx6
          have hS := sameInts_any b b _ _ w3.drew (ik.below (Below.refl _ w3).drew) (il.below (Below.refl _ w3).drew)
          rw [decide_eq_true rfl] at hS
          have HS := hideP hS
          have wj := wrapm j (by omega)
          have ws := wrapm s (by omega)
          have wj3 : IntKind.i64.wrap (j : Int) = (j : Int) := by rw [IntKind.wrap_i64]; omega
          have ws3 : IntKind.i64.wrap (s : Int) = (s : Int) := by rw [IntKind.wrap_i64]; omega
          have wj2 : (j : Int) + 1 - 1 = (j : Int) := by omega
          have ws2 : (s : Int) + 1 - 1 = (s : Int) := by omega
          have hji : (j : Int) < (L.length : Int) := by omega
          have hsi : (s : Int) < (K.length : Int) := by omega
          subst hj
          clear hr ht h0 hb hth hkb hcl hck il ik hS hs
          go_wp2_with fail
          go_region_held3 (fun W => W.cell? ⟨ga, oa + i, none⟩ = some (.int .i64 ((j : Int) + 1)) ∧ W.cell? ⟨gb, ob + i, none⟩ = some (.int .i64 ((s : Int) + 1)) ∧ W.cell? ⟨gl, ol + j, none⟩ = some (.slice p5 b.length c5) ∧ W.cell? ⟨gk, ok_ + s, none⟩ = some (.slice p6 b.length c6)) (go_keep)
            (first
            | (go_at_call 21; refine HS.out.mono ?_; rintro e w4 ⟨rfl, b4⟩; have x1 := (b4.cell (p := ⟨ga, oa + i, none⟩) (block_of_cell ra)).trans ra; have x2 := (b4.cell (p := ⟨gb, ob + i, none⟩) (block_of_cell rb)).trans rb; have x3 := (b4.cell (p := ⟨gl, ol + j, none⟩) (block_of_cell rl)).trans rl; have x4 := (b4.cell (p := ⟨gk, ok_ + s, none⟩) (block_of_cell rk)).trans rk))
          go_wp2
          go_roundw
          case rel => exact ⟨i + 1, by omega, by go_num, bthen0 b3 (((Below.refl w3.heap.size w3).drew).trans b4)⟩
          case measure => simp [intOf]; omega
      · have hili : ¬ (i : Int) < (refs.length : Int) := by omega
        have H13 := hideP (H1.out.below b3)
        have H23 := hideP (H2.out.below b3)
        clear H1 H2 HA HU HAT HTAT
        go_wp2
        go_loopw [9] (fun v9 wr => ∃ r : Nat, r ≤ K.length ∧ v9 = .int .i64 ((r : Int) + 1) ∧ wr = w3) (fun v9 _ => K.length + 1 - (intOf v9).toNat)
        case atStart => exact ⟨0, Nat.zero_le _, rfl, rfl⟩
        case round =>
          rename World => w4
          obtain ⟨r, hr, rfl, hw4⟩ := hrel
          subst hw4
          by_cases hrl : r < K.length
          · have hri : (r : Int) + 1 ≤ (K.length : Int) := by omega
            have hm := HHAS.out r hrl
            have HM := hideP hm
            clear hm
            go_wp2_with fail
            refine (has_any T ((r : Int) + 1) _ _ H23.out).mono ?_
            rw [decide_eq_true HM.out]
            rintro e w5 ⟨rfl, hw5⟩
            have hw5 := hw5.symm
            subst hw5
            go_wp2
            go_roundw
            case rel => exact ⟨r + 1, by omega, by go_num, trivial⟩
            case measure => simp [intOf]; omega
          · have hri : ¬ (r : Int) + 1 ≤ (K.length : Int) := by omega
            go_wp2_with fail
            refine (HAG.out _ _ _ H13.out H23.out hTz).mono ?_
            rintro e w5 ⟨q1, d1, q2, d2, rfl, k1, k2, b5⟩
            have hSB := sameBlocks_any K K _ _ w5 k1 (H13.out.below b5)
            rw [decide_eq_true rfl] at hSB
            have HSB := hideP hSB
            have k2' := k2
            clear hSB k1 k2
            go_wp2_with fail
            refine HSB.out.mono ?_
            rintro e w6 ⟨rfl, b6⟩
            have hSI := sameInts_any T T _ _ w6 (k2'.below b6) ((H23.out.below b5).below b6)
            rw [decide_eq_true rfl] at hSI
            have HSI := hideP hSI
            clear hSI k2'
            go_wp2_with fail
            refine HSI.out.mono ?_
            rintro e w7 ⟨rfl, b7⟩
            go_wp2
            go_ret
            exact ⟨rfl, bthen0 B3 (bthen0 b5 (bthen0 b6 b7))⟩
  · have e1 : keptR L refs = [] := by rw [keptR, if_neg he]
    have e2 : thenR L refs = [] := by rw [thenR, if_neg he]
    have e3 : (keepErr L refs != 0) = true := by simp [he]
    rw [e1, e2]
    clear e1 e2 he h12 h22
    go_wp2
    go_ret
    exact ⟨rfl, B2⟩
set_option maxRecDepth 100000 in
theorem lifted (os : Os) (started : os.Started) (H : Type) (enc : TypeId × Value → H) :
    ReturnsInHanded {} Try.checked os 6 .any (Rows.blockKeepsSpec.pre6 enc Try.prog Try.f6 Rows.blockKeepsRow.domain false) (Rows.blockKeepsSpec.post enc Try.prog Try.f6 false true false false) := by
  refine returnsInHanded_of_change_sized (C := Try.checked) own started (by kernel_rfl) Try.func6
    (ChangeSpec.witness6 (enc := enc) (C := Try.checked) false ⟨#[], #[.slice none 0 0, .slice none 0 0], []⟩ 8 (by kernel_rfl) (by kernel_rfl) (by kernel_rfl) (by kernel_rfl)) ?_
  intro W base args ds gs before hval0 hW hcnd hsz0 hholds
  have hval : ∀ (j : Nat) t v, Try.f6.params[j]? = some t → args[j]? = some v → Value.okWide Try.prog W .any base t v := hval0
  have hsz : (DataW.weightsEach Try.prog (Try.f6.params.toList ++ Rows.blockKeepsSpec.plain.varTypes Try.prog) (ds ++ gs)).all (· ≤ reachBytes) = true := hsz0
  have hW' := hW
  obtain ⟨p, q, hA0, hV, rfl, hfz, hnd⟩ := hW
  have hA : DataW.TrodAll enc Try.prog W 0 (fun _ => true) true Try.f6.params.toList args.toList ds p := hA0
  rw [Try.params6] at hA hval hsz
  obtain ⟨v0, vs0, d0, ds0, p0, q0, hargs, rfl, rfl, h0, r0⟩ := trodAll_cons hA
  obtain ⟨v1, vs1, d1, ds1, p1, q1, rfl, rfl, rfl, h1, r1⟩ := trodAll_cons r0
  obtain ⟨rfl, rfl, rfl⟩ := trodAll_nil r1
  obtain rfl : args = #[v0, v1] := by cases args; simp_all
  obtain ⟨rfl, rfl⟩ := trodVars_none hV
  have k0 := h0
  have k1 := h1
  have lt0 : ∀ x ∈ p0, x.block < W.heap.size := by obtain ⟨m, hm⟩ := k0; exact DataW.trod_lt m _ _ _ hm
  have lt1 : ∀ x ∈ p1, x.block < W.heap.size := by obtain ⟨m, hm⟩ := k1; exact DataW.trod_lt m _ _ _ hm
  have hw0 : ∀ n ∈ d0.weights Try.prog 22, n ≤ reachBytes := fun n hn => by have := List.all_eq_true.1 hsz n (DataW.weights_mem_each (j := 0) rfl rfl n hn); simpa using this
  obtain ⟨l0, hl0⟩ := open_blksV (okWide_slice Try.underlying22 (hval 0 22 v0 rfl rfl)) h0 hw0
  have hw1 : ∀ n ∈ d1.weights Try.prog 26, n ≤ reachBytes := fun n hn => by have := List.all_eq_true.1 hsz n (DataW.weights_mem_each (j := 1) rfl rfl n hn); simpa using this
  obtain ⟨l1, hl1, hn1, hz1⟩ := open_intsW (okWide_slice Try.underlying26 (hval 1 26 v1 rfl rfl)) h1 hw1
  clear hA0 hval0 hsz0
  refine (walk W l0 v0 hl0 l1 v1 hl1 hn1 hz1).mono fun e W' ⟨he, bel⟩ => ?_
  subst he
  exact ⟨_, rfl, _, _, _, [], _, [], hW', trodAll_mk1 (shut_bool Try.underlying4 _), (trodAll_cons_mk (Below.trod laidOut (by kernel_rfl) (of_decide_eq_true (by kernel_rfl)) k0 bel lt0) (trodAll_cons_mk (Below.trod laidOut (by kernel_rfl) (of_decide_eq_true (by kernel_rfl)) k1 bel lt1) trodAll_mk0)), rfl, bel.frame _, fun h => by cases h⟩
theorem over : Rows.blockKeepsRow.holds Try.pinned (OpenSpec.ofChange Rows.blockKeepsSpec) :=
  OpenClaim.holds_of_wide 6 Try.f6 rfl rfl rfl rfl rfl rfl rfl ⟨rfl, rfl, rfl, rfl, rfl⟩ rfl rfl rfl rfl rfl (by kernel_rfl) Try.func6 (by kernel_rfl)
    (of_decide_eq_true (by kernel_rfl)) (by unfold Func.isWrapper; first | (rw [if_pos (by decide +kernel)]; kernel_rfl) | (rw [if_neg (by decide +kernel)]; exact ⟨rfl, rfl⟩))
    (fun os started H enc _ => lifted os started H enc)
end Go.Proofs.Ytjmpbnfkiikiaaa.blockKeeps
namespace Go.Proofs.Ytjmpbnfkiikiaaa
/-- For every input the law BlockKeeps returns true, and the arguments read as they did. -/
theorem blockKeeps_holds : Rows.BlockKeepsSaid := blockKeeps.over
end Go.Proofs.Ytjmpbnfkiikiaaa

