/- Two machines that are not the same are saved unlike, and the one behind a step that does something is another one: for every program and machine and machine ImageApart returns true. No condition. -/
import Derived.Test.YtmjjkenblfndgaaGreatD28
import Derived.Test.YtmjjkenblfndgaaGreatD22
import Derived.Test.YtmjjkenblfndgaaGreatD24
import Derived.Test.YtmjjkenblfndgaaGreatD16
set_option maxRecDepth 100000
set_option maxHeartbeats 8000000
namespace Go.Proofs.YtmjjkenblfndgaaGreat.imageApart
open Go.ChangeShapes Go.WideShapes Go.ChangeAt Go.RowKit
set_option linter.unusedVariables false
set_option linter.unusedSimpArgs false
theorem own : ownKnob Tryz.prog.godebug = none := by kernel_rfl
theorem laidOut : laidOutB Tryz.prog = true := by kernel_rfl
theorem bytes_eq {X Y : ByteArray} (h : X.data.toList = Y.data.toList) : X = Y := by
  cases X; cases Y
  simp only at h
  congr 1
  exact Array.toList_inj.1 h
theorem str_same {X Y : ByteArray} {A B : Mach} {r : Bool} (hX : X.data.toList = machB A) (hY : Y.data.toList = machB B) (hA : ByteM A) (hB : ByteM B) (hr : r = true ↔ A = B) : (X.toList == Y.toList) = r := by
  rw [ByteArray.toList_eq, ByteArray.toList_eq, hX, hY]
  cases r with
  | true => rw [hr.1 rfl]; simp
  | false =>
    have h : ¬ A = B := fun h => by have := hr.2 h; cases this
    have h2 : ¬ machB A = machB B := fun e => h (machB_inj hA hB e)
    simpa using h2
theorem walk (w : World) (p : List Fn) (pv : Value) (hpf : ProgFull w pv p) (A : Mach) (fv bv iv ov : Value) (hA : MachAt w fv bv iv ov A) (hAL : MachLong A) (B : Mach) (fv' bv' iv' ov' : Value) (hB : MachAt w fv' bv' iv' ov' B) (hBL : MachLong B) :
    Calls Tryz.prog 10 #[.agg #[pv], .agg #[fv, bv, iv, ov, .int .i64 A.status, .int .i64 A.trap], .agg #[fv', bv', iv', ov', .int .i64 B.status, .int .i64 B.trap]] w fun e w' => e = .returned (.bool true) ∧ Below w.heap.size w w' := by
  have hCA : CkAt w p pv fv bv iv ov A := ⟨hpf.at_, hpf.cap, hA⟩
  have hCB : CkAt w p pv fv' bv' iv' ov' B := ⟨hpf.at_, hpf.cap, hB⟩
  have hpa : PcOk A := fun x hx => (hAL.fr.2 x hx).2.2
  have hpb : PcOk B := fun x hx => (hBL.fr.2 x hx).2.2
  obtain ⟨⟨pp, qp, hpv⟩, ⟨pf1, cf1, hfv⟩, ⟨pb1, cb1, hbv⟩, ⟨pi1, ci1, hiv⟩, ⟨po1, co1, hov⟩⟩ := hCA.shp
  subst hpv hfv hbv hiv hov
  obtain ⟨-, ⟨pf2, cf2, hfv⟩, ⟨pb2, cb2, hbv⟩, ⟨pi2, ci2, hiv⟩, ⟨po2, co2, hov⟩⟩ := hCB.shp
  subst hfv hbv hiv hov
  obtain ⟨W1, hW1⟩ : ∃ W1, ((w.alloc (.cells #[.slice pp p.length qp] 24)).alloc (.cells #[.slice pf1 A.frames.length cf1, .slice pb1 A.blocks.length cb1, .slice pi1 A.inp.length ci1, .slice po1 A.out.length co1, .int .i64 A.status, .int .i64 A.trap] 48)).alloc (.cells #[.slice pf2 B.frames.length cf2, .slice pb2 B.blocks.length cb2, .slice pi2 B.inp.length ci2, .slice po2 B.out.length co2, .int .i64 B.status, .int .i64 B.trap] 48) = W1 := ⟨_, rfl⟩
  have b1 : Below w.heap.size w W1 := by rw [← hW1]; exact (((Below.refl _ w).alloc (Nat.le_refl _) _).alloc (by simp) _).alloc (by simp; omega) _
  have u1 : W1.heap[w.heap.size]? = some (.cells #[.slice pp p.length qp] 24 (0, 0)) := by rw [← hW1]; exact xc9Z _ _ _ _
  have u2 : W1.heap[w.heap.size + 1]? = some (.cells #[.slice pf1 A.frames.length cf1, .slice pb1 A.blocks.length cb1, .slice pi1 A.inp.length ci1, .slice po1 A.out.length co1, .int .i64 A.status, .int .i64 A.trap] 48 (0, 0)) := by rw [← hW1]; exact xcuZ _ _ _ _
  have u3 : W1.heap[w.heap.size + 1 + 1]? = some (.cells #[.slice pf2 B.frames.length cf2, .slice pb2 B.blocks.length cb2, .slice pi2 B.inp.length ci2, .slice po2 B.out.length co2, .int .i64 B.status, .int .i64 B.trap] 48 (0, 0)) := by rw [← hW1]; exact new3 _ _ _ _
  have l1 := xacZ u1
  have l2 := xacZ u2
  have l3 := xacZ u3
  have KC : Hid (∀ W, Below W1.heap.size W1 W → W.cell? ⟨w.heap.size, 0, none⟩ = some (.slice pp p.length qp)) := fun W hW => xaaZ ((hW.block _ l1).trans u1) 0
  have KA : Hid (∀ W, Below W1.heap.size W1 W → W.cell? ⟨w.heap.size + 1, 0, none⟩ = some (.slice pf1 A.frames.length cf1) ∧ W.cell? ⟨w.heap.size + 1, 1, none⟩ = some (.slice pb1 A.blocks.length cb1) ∧ W.cell? ⟨w.heap.size + 1, 2, none⟩ = some (.slice pi1 A.inp.length ci1) ∧ W.cell? ⟨w.heap.size + 1, 3, none⟩ = some (.slice po1 A.out.length co1) ∧ W.cell? ⟨w.heap.size + 1, 4, none⟩ = some (.int .i64 A.status) ∧ W.cell? ⟨w.heap.size + 1, 5, none⟩ = some (.int .i64 A.trap)) := fun W hW => by
    have h1 := (hW.block _ l2).trans u2
    exact ⟨xaaZ h1 0, xaaZ h1 1, xaaZ h1 2, xaaZ h1 3, xaaZ h1 4, xaaZ h1 5⟩
  have KB : Hid (∀ W, Below W1.heap.size W1 W → W.cell? ⟨w.heap.size + 1 + 1, 0, none⟩ = some (.slice pf2 B.frames.length cf2) ∧ W.cell? ⟨w.heap.size + 1 + 1, 1, none⟩ = some (.slice pb2 B.blocks.length cb2) ∧ W.cell? ⟨w.heap.size + 1 + 1, 2, none⟩ = some (.slice pi2 B.inp.length ci2) ∧ W.cell? ⟨w.heap.size + 1 + 1, 3, none⟩ = some (.slice po2 B.out.length co2) ∧ W.cell? ⟨w.heap.size + 1 + 1, 4, none⟩ = some (.int .i64 B.status) ∧ W.cell? ⟨w.heap.size + 1 + 1, 5, none⟩ = some (.int .i64 B.trap)) := fun W hW => by
    have h1 := (hW.block _ l3).trans u3
    exact ⟨xaaZ h1 0, xaaZ h1 1, xaaZ h1 2, xaaZ h1 3, xaaZ h1 4, xaaZ h1 5⟩
  have HA := hideP (hCA.below b1)
  have HB := hideP (hCB.below b1)
  have HPA := hideP hpa
  have HB1 := hideP b1
  have e0 := KC.out W1 (Below.refl _ _)
  obtain ⟨d0, d1, d2, d3, d4, d5⟩ := KA.out W1 (Below.refl _ _)
  have HSA := hideP (xe6Z A p _ _ _ _ _ W1 (hCA.below b1) hpa)
  have HSB : Hid (∀ W, Below W1.heap.size W1 W → Calls Tryz.prog 27 #[.agg #[.slice pp p.length qp], .agg #[.slice pf2 B.frames.length cf2, .slice pb2 B.blocks.length cb2, .slice pi2 B.inp.length ci2, .slice po2 B.out.length co2, .int .i64 B.status, .int .i64 B.trap]] W fun e w' => ∃ T : ByteArray, e = .returned (.tuple #[.string T, .int .i64 (xaoZ p B)]) ∧ T.data.toList = saveB p B ∧ Below W.heap.size W w') := fun W hW => xe6Z B p _ _ _ _ _ W ((hCB.below b1).below hW) hpb
  clear hpf hA hAL hB hBL hCA hCB hpa hpb u1 u2 u3 b1
  go_enter Tryz.func10, Tryz.ntmps10
  go_wp2_with fail
  refine HSA.out.mono ?_
  rintro e w2 ⟨T, rfl, hT, b2⟩
  have HT := hideP hT
  clear e0 d0 d1 d2 d3 d4 d5 hT
  have e0 := KC.out w2 b2
  obtain ⟨d0, d1, d2, d3, d4, d5⟩ := KB.out w2 b2
  have HS2 := hideP (HSB.out w2 b2)
  have B2 := hideP b2
  clear b2
  go_wp2_with fail
  refine HS2.out.mono ?_
  rintro e w3 ⟨U, rfl, hU, b3⟩
  have HU := hideP hU
  have B3 := hideP (xadZ B2.out b3)
  clear e0 d0 d1 d2 d3 d4 d5 hU b3
  go_wp2_with fail
  refine (xhwZ _).mono ?_
  rintro e w4 ⟨rfl, b4⟩
  have B4 := hideP (xadZ B3.out b4)
  clear b4
  go_wp2_with fail
  refine (xklZ _).mono ?_
  rintro e w5 ⟨rfl, b5⟩
  have b15 := xadZ B4.out b5
  obtain ⟨d0, d1, d2, d3, d4, d5⟩ := KA.out w5 b15
  obtain ⟨x0, x1, x2, x3, x4, x5⟩ := KB.out w5 b15
  have HSM := hideP (xdbZ A B _ _ _ _ _ _ _ _ w5 (HA.out.mach.below b15) (HB.out.mach.below b15))
  have B5 := hideP b15
  clear b5 b15
  go_upto_region 5 with fail
  go_cut [47] from 33 (fun sa wx => sa = .bool false ∧ Below w5.heap.size w5 wx)
  case first =>
    by_cases ha : xaoZ p A = 0
    rotate_left
    · have ha' : (xaoZ p A == 0) = false := by simpa using ha
      generalize xaoZ p A = er at *
      clear ha
      go_wp2
      go_meet
      exact ⟨rfl, Below.refl _ _⟩
    by_cases hb : xaoZ p B = 0
    rotate_left
    · have hb' : (xaoZ p B == 0) = false := by simpa using hb
      have ha' : (xaoZ p A == 0) = true := by simpa using ha
      generalize xaoZ p B = er at *
      generalize xaoZ p A = er2 at *
      clear hb ha
      go_wp2
      go_meet
      exact ⟨rfl, Below.refl _ _⟩
    · have ha' : (xaoZ p A == 0) = true := by simpa using ha
      have hb' : (xaoZ p B == 0) = true := by simpa using hb
      have hTA : T.data.toList = machB A := by rw [HT.out]; exact if_pos ha
      have hUB : U.data.toList = machB B := by rw [HU.out]; exact if_pos hb
      have HSS := hideP (fun (r : Bool) (hr : r = true ↔ A = B) => str_same hTA hUB (xdlZ ha) (xdlZ hb) hr)
      clear hTA hUB
      generalize xaoZ p B = er at *
      generalize xaoZ p A = er2 at *
      clear ha hb
      go_wp2_with fail
      refine HSM.out.mono ?_
      rintro e w6 ⟨r, rfl, hr, b6⟩
      have hq := HSS.out r hr
      rw [hq]
      have HB6 := hideP b6
      clear hq hr b6
      cases r
      · go_wp2
        go_meet
        exact ⟨rfl, HB6.out⟩
      · go_wp2
        go_meet
        exact ⟨rfl, HB6.out⟩
  case rest =>
    rename World => w6
    obtain ⟨rfl, b6⟩ := hcut
    have b16 := xadZ B5.out b6
    have e0 := KC.out w6 b16
    clear d0 d1 d2 d3 d4 d5 x0 x1 x2 x3 x4 x5 HSM
    obtain ⟨d0, d1, d2, d3, d4, d5⟩ := KA.out w6 b16
    have HST := hideP (xmpZ A p _ _ _ _ _ w6 (HA.out.below b16) HPA.out)
    have B6 := hideP b16
    clear b16 b6
    go_wp2_with fail
    refine HST.out.mono ?_
    rintro e w7 ⟨nf, nb, ni, no, rfl, hres, b7⟩
    clear e0 d0 d1 d2 d3 d4 d5 HST
    obtain ⟨⟨qf, kf, hqf⟩, ⟨qb, kb, hqb⟩, ⟨qi, ki, hqi⟩, ⟨qo, ko, hqo⟩⟩ := xbbZ hres
    subst hqf hqb hqi hqo
    obtain ⟨R, hRR⟩ : ∃ R, (if xaoZ p A = 0 then stepM p A else zeroM) = R := ⟨_, rfl⟩
    rw [hRR] at hres ⊢
    obtain ⟨W8, hW8⟩ : ∃ W8, w7.alloc (.cells #[.slice qf R.frames.length kf, .slice qb R.blocks.length kb, .slice qi R.inp.length ki, .slice qo R.out.length ko, .int .i64 R.status, .int .i64 R.trap] 48) = W8 := ⟨_, rfl⟩
    have b8 : Below w7.heap.size w7 W8 := by rw [← hW8]; exact (Below.refl _ w7).alloc (Nat.le_refl _) _
    have u8 : W8.heap[w7.heap.size]? = some (.cells #[.slice qf R.frames.length kf, .slice qb R.blocks.length kb, .slice qi R.inp.length ki, .slice qo R.out.length ko, .int .i64 R.status, .int .i64 R.trap] 48 (0, 0)) := by rw [← hW8]; exact World.alloc_heap_new w7 _
    have b18 := xadZ B6.out (xadZ b7 b8)
    have KN : Hid (∀ W, Below W8.heap.size W8 W → W.cell? ⟨w7.heap.size, 0, none⟩ = some (.slice qf R.frames.length kf) ∧ W.cell? ⟨w7.heap.size, 1, none⟩ = some (.slice qb R.blocks.length kb) ∧ W.cell? ⟨w7.heap.size, 2, none⟩ = some (.slice qi R.inp.length ki) ∧ W.cell? ⟨w7.heap.size, 3, none⟩ = some (.slice qo R.out.length ko) ∧ W.cell? ⟨w7.heap.size, 4, none⟩ = some (.int .i64 R.status) ∧ W.cell? ⟨w7.heap.size, 5, none⟩ = some (.int .i64 R.trap)) := fun W hW => by
      have h1 := (hW.block _ (xacZ u8)).trans u8
      exact ⟨xaaZ h1 0, xaaZ h1 1, xaaZ h1 2, xaaZ h1 3, xaaZ h1 4, xaaZ h1 5⟩
    have hR100 : R.inp.length ≤ 100 := by
      by_cases ha : xaoZ p A = 0
      · rw [if_pos ha] at hRR
        obtain ⟨h1, h2, h3⟩ := xa8Z.1 ha
        have := (xdmZ h1 h2 h3).inp.1
        rw [hRR] at this
        omega
      · rw [if_neg ha] at hRR
        subst hRR
        decide
    have hRpc : PcOk R := by
      by_cases ha : xaoZ p A = 0
      · rw [if_pos ha] at hRR
        obtain ⟨h1, h2, h3⟩ := xa8Z.1 ha
        rw [← hRR]
        exact right_pc h1 h2 (xdmZ h1 h2 h3)
      · rw [if_neg ha] at hRR
        subst hRR
        intro x hx
        cases hx
    have AR := hideP ((hres.at_ hR100).below b8)
    have HSR := hideP (xe6Z R p _ _ _ _ _ W8 ⟨HA.out.fns.below b18, HA.out.cap.below HA.out.fns b18, AR.out⟩ hRpc)
    have e0 := KC.out W8 b18
    obtain ⟨x0, x1, x2, x3, x4, x5⟩ := KN.out W8 (Below.refl _ _)
    have B18 := hideP b18
    have HRR := hideP hRR
    clear hres b7 b8 u8 b18 hR100 hRpc hRR
    go_wp2_with fail
    refine HSR.out.mono ?_
    rintro e w9 ⟨X, rfl, hX, b9⟩
    have HX := hideP hX
    have b19 := xadZ B18.out b9
    clear e0 x0 x1 x2 x3 x4 x5
    obtain ⟨d0, d1, d2, d3, d4, d5⟩ := KA.out w9 b19
    obtain ⟨x0, x1, x2, x3, x4, x5⟩ := KN.out w9 b9
    have HSN := hideP (xdbZ R A _ _ _ _ _ _ _ _ w9 (AR.out.below b9) (HA.out.mach.below b19))
    have FIN := hideP (xadZ HB1.out b19)
    clear hX b9 b19
    by_cases ha : xaoZ p A = 0
    rotate_left
    · have ha' : (xaoZ p A != 0) = true := by simpa using ha
      generalize xaoZ p A = er at *
      clear ha
      go_wp2
      go_ret
      exact ⟨rfl, FIN.out⟩
    · have hR : xaoZ p R = 0 := by
        have := HRR.out
        rw [if_pos ha] at this
        obtain ⟨h1, h2, h3⟩ := xa8Z.1 ha
        rw [← this]
        exact xa8Z.2 ⟨h1, h2, xdmZ h1 h2 h3⟩
      rw [ha, hR]
      have hTA : T.data.toList = machB A := by rw [HT.out]; exact if_pos ha
      have hXR : X.data.toList = machB R := by rw [HX.out]; exact if_pos hR
      have HSS := hideP (fun (r : Bool) (hr : r = true ↔ R = A) => str_same hXR hTA (xdlZ hR) (xdlZ ha) hr)
      clear ha hR hTA hXR
      go_wp2_with fail
      refine HSN.out.mono ?_
      rintro e wA ⟨r, rfl, hr, bA⟩
      have hq := HSS.out r hr
      rw [hq]
      have HBA := hideP bA
      clear hq hr bA
      cases r
      · go_wp2
        go_ret
        exact ⟨rfl, xadZ FIN.out HBA.out⟩
      · go_wp2
        go_ret
        exact ⟨rfl, xadZ FIN.out HBA.out⟩
theorem lifted (os : Os) (started : os.Started) (H : Type) (enc : TypeId × Value → H) :
    ReturnsInHanded {} Tryz.checked os 10 .any (Rows.imageApartSpec.pre6 enc Tryz.prog Tryz.f10 Rows.imageApartRow.domain false) (Rows.imageApartSpec.post enc Tryz.prog Tryz.f10 false true false false) := by
  refine returnsInHanded_of_change_sized (C := Tryz.checked) own started (by kernel_rfl) Tryz.func10
    (ChangeSpec.witness6 (enc := enc) (C := Tryz.checked) false ⟨#[], #[.agg #[.slice none 0 0], .agg #[.slice none 0 0, .slice none 0 0, .slice none 0 0, .slice none 0 0, .int .i64 0, .int .i64 0], .agg #[.slice none 0 0, .slice none 0 0, .slice none 0 0, .slice none 0 0, .int .i64 0, .int .i64 0]], []⟩ 8 (by kernel_rfl) (by kernel_rfl) (by kernel_rfl) (by kernel_rfl)) ?_
  intro W base args ds gs before hval0 hW hcnd hsz0 hholds
  have hval : ∀ (j : Nat) t v, Tryz.f10.params[j]? = some t → args[j]? = some v → Value.okWide Tryz.prog W .any base t v := hval0
  have hsz : (DataW.weightsEach Tryz.prog (Tryz.f10.params.toList ++ Rows.imageApartSpec.plain.varTypes Tryz.prog) (ds ++ gs)).all (· ≤ reachBytes) = true := hsz0
  have hW' := hW
  obtain ⟨p, q, hA0, hV, rfl, hfz, hnd⟩ := hW
  have hA : DataW.TrodAll enc Tryz.prog W 0 (fun _ => true) true Tryz.f10.params.toList args.toList ds p := hA0
  rw [Tryz.params10] at hA hval hsz
  obtain ⟨v0, vs0, d0, ds0, p0, q0, hargs, rfl, rfl, h0, r0⟩ := trodAll_cons hA
  obtain ⟨v1, vs1, d1, ds1, p1, q1, rfl, rfl, rfl, h1, r1⟩ := trodAll_cons r0
  obtain ⟨v2, vs2, d2, ds2, p2, q2, rfl, rfl, rfl, h2, r2⟩ := trodAll_cons r1
  obtain ⟨rfl, rfl, rfl⟩ := trodAll_nil r2
  obtain rfl : args = #[v0, v1, v2] := by cases args; simp_all
  obtain ⟨rfl, rfl⟩ := trodVars_none hV
  have k0 := h0
  have k1 := h1
  have k2 := h2
  have lt0 : ∀ x ∈ p0, x.block < W.heap.size := by obtain ⟨m, hm⟩ := k0; exact DataW.trod_lt m _ _ _ hm
  have lt1 : ∀ x ∈ p1, x.block < W.heap.size := by obtain ⟨m, hm⟩ := k1; exact DataW.trod_lt m _ _ _ hm
  have lt2 : ∀ x ∈ p2, x.block < W.heap.size := by obtain ⟨m, hm⟩ := k2; exact DataW.trod_lt m _ _ _ hm
  have hw0 : ∀ n ∈ d0.weights Tryz.prog 24, n ≤ reachBytes := fun n hn => by have := List.all_eq_true.1 hsz n (DataW.weights_mem_each (j := 0) rfl rfl n hn); simpa using this
  obtain ⟨c0, l0, rfl, hl0⟩ := xleZ (hval 0 24 v0 rfl rfl) h0 hw0
  have hw1 : ∀ n ∈ d1.weights Tryz.prog 48, n ≤ reachBytes := fun n hn => by have := List.all_eq_true.1 hsz n (DataW.weights_mem_each (j := 1) rfl rfl n hn); simpa using this
  obtain ⟨e10, e11, e12, e13, M1, rfl, hM1, hL1⟩ := xiaZ (hval 1 48 v1 rfl rfl) h1 hw1
  have hw2 : ∀ n ∈ d2.weights Tryz.prog 48, n ≤ reachBytes := fun n hn => by have := List.all_eq_true.1 hsz n (DataW.weights_mem_each (j := 2) rfl rfl n hn); simpa using this
  obtain ⟨e20, e21, e22, e23, M2, rfl, hM2, hL2⟩ := xiaZ (hval 2 48 v2 rfl rfl) h2 hw2
  clear hA0 hval0 hsz0
  refine (walk W l0 c0 hl0 M1 e10 e11 e12 e13 hM1 hL1 M2 e20 e21 e22 e23 hM2 hL2).mono fun e W' ⟨he, bel⟩ => ?_
  subst he
  exact ⟨_, rfl, _, _, _, [], _, [], hW', trodAll_mk1 (shut_bool Tryz.underlying4 _), (trodAll_cons_mk (Below.trod laidOut (by kernel_rfl) (of_decide_eq_true (by kernel_rfl)) k0 bel lt0) (trodAll_cons_mk (Below.trod laidOut (by kernel_rfl) (of_decide_eq_true (by kernel_rfl)) k1 bel lt1) (trodAll_cons_mk (Below.trod laidOut (by kernel_rfl) (of_decide_eq_true (by kernel_rfl)) k2 bel lt2) trodAll_mk0))), rfl, bel.frame _, fun h => by cases h⟩
theorem over : Rows.imageApartRow.holds Tryz.pinned (OpenSpec.ofChange Rows.imageApartSpec) :=
  OpenClaim.holds_of_wide 10 Tryz.f10 rfl rfl rfl rfl rfl rfl rfl ⟨rfl, rfl, rfl, rfl, rfl⟩ rfl rfl rfl rfl rfl (by kernel_rfl) Tryz.func10 (by kernel_rfl)
    (of_decide_eq_true (by kernel_rfl)) (by unfold Func.isWrapper; first | (rw [if_pos (by decide +kernel)]; kernel_rfl) | (rw [if_neg (by decide +kernel)]; exact ⟨rfl, rfl⟩))
    (fun os started H enc _ => lifted os started H enc)
end Go.Proofs.YtmjjkenblfndgaaGreat.imageApart
namespace Go.Proofs.YtmjjkenblfndgaaGreat
/-- For every input the law ImageApart returns true, and the arguments read as they did. -/
theorem imageApart_holds : Rows.ImageApartSaid := imageApart.over
end Go.Proofs.YtmjjkenblfndgaaGreat

