/- What is saved is restored as it was, what is restored is saved as it was, and it runs as if nothing had been: for every program and machine and string and number ImageBack returns true. No condition. -/
import Derived.Test.YtmjjkenblfndgaaGreatD28
import Derived.Test.YtmjjkenblfndgaaGreatD22
import Derived.Test.YtmjjkenblfndgaaGreatD23
import Derived.Test.YtmjjkenblfndgaaGreatD24
import Derived.Test.YtmjjkenblfndgaaGreatD16
import Derived.ShutString
set_option maxRecDepth 100000
set_option maxHeartbeats 8000000
namespace Go.Proofs.YtmjjkenblfndgaaGreat.imageBack
open Go.ChangeShapes Go.WideShapes Go.ChangeAt Go.RowKit
set_option linter.unusedVariables false
set_option linter.unusedSimpArgs false
theorem own : ownKnob Tryz.prog.godebug = none := by kernel_rfl
theorem laidOut : laidOutB Tryz.prog = true := by kernel_rfl
theorem bytes_same {X Y : ByteArray} (h : X.data.toList = Y.data.toList) : (X.toList == Y.toList) = true := by
  rw [ByteArray.toList_eq, ByteArray.toList_eq, h]
  simp
theorem runRes_one {p : List Fn} {M : Mach} {n : Int} {t u : MF} (h : xhtZ p M n t) (k : xhtZ p M n u) : t = u := by
  by_cases h0 : runE p M n = 0
  · exact xmvZ (h.1 h0) (k.1 h0)
  · rw [h.2 h0, k.2 h0]
theorem run_inp {p : List Fn} {M : Mach} {n : Int} {t : MF} (h : xhtZ p M n t) : t.1.inp.length ≤ 100 := by
  by_cases h0 : runE p M n = 0
  · obtain ⟨hc, hn0, hn1⟩ := xjeZ.1 h0
    obtain ⟨h1, h2, h3⟩ := xa8Z.1 hc
    have := (xmxZ h1 h2 h3 hn0 (h.1 h0)).1.inp.1
    omega
  · rw [h.2 h0]
    decide
theorem save_len {p : List Fn} {M : Mach} (h : xaoZ p M = 0) : (machB M).length ≤ 10000 := by
  obtain ⟨hp, he, hR⟩ := xa8Z.1 h
  obtain ⟨s1, s2, s3, s4, s5, s6⟩ := (xclZ hp he hR).1
  have h1 := xgdZ M.blocks s4
  have h2 := xi2Z M.frames s2
  simp only [machB, manyB, List.length_append, List.length_cons, xdtZ]
  omega
theorem walk (w : World) (p : List Fn) (pv : Value) (hpf : ProgFull w pv p) (M : Mach) (fv bv iv ov : Value) (hM : MachAt w fv bv iv ov M) (hML : MachLong M) (X : ByteArray) (hX : X.size ≤ maxLen) (n : Int) (hn : -9223372036854775808 ≤ n ∧ n ≤ 9223372036854775807) :
    Calls Tryz.prog 9 #[.agg #[pv], .agg #[fv, bv, iv, ov, .int .i64 M.status, .int .i64 M.trap], .string X, .int .i64 n] w fun e w' => e = .returned (.bool true) ∧ Below w.heap.size w w' := by
  have hCk : CkAt w p pv fv bv iv ov M := ⟨hpf.at_, hpf.cap, hM⟩
  have hpc : PcOk M := fun x hx => (hML.fr.2 x hx).2.2
  obtain ⟨⟨pp, qp, hpv⟩, ⟨pf, cf, hfv⟩, ⟨pb, cb, hbv⟩, ⟨pi, ci, hiv⟩, ⟨po, co, hov⟩⟩ := hCk.shp
  subst hpv hfv hbv hiv hov
  obtain ⟨W1, hW1⟩ : ∃ W1, (w.alloc (.cells #[.slice pp p.length qp] 24)).alloc (.cells #[.slice pf M.frames.length cf, .slice pb M.blocks.length cb, .slice pi M.inp.length ci, .slice po M.out.length co, .int .i64 M.status, .int .i64 M.trap] 48) = W1 := ⟨_, rfl⟩
  have b1 : Below w.heap.size w W1 := by rw [← hW1]; exact ((Below.refl _ w).alloc (Nat.le_refl _) _).alloc (by simp) _
  have u1 : W1.heap[w.heap.size]? = some (.cells #[.slice pp p.length qp] 24 (0, 0)) := by rw [← hW1]; exact xajZ (World.alloc_heap_new w _) _
  have u2 : W1.heap[w.heap.size + 1]? = some (.cells #[.slice pf M.frames.length cf, .slice pb M.blocks.length cb, .slice pi M.inp.length ci, .slice po M.out.length co, .int .i64 M.status, .int .i64 M.trap] 48 (0, 0)) := by rw [← hW1]; exact xa9Z _ _ _
  have l1 := xacZ u1
  have l2 := xacZ u2
  have KC : Hid (∀ W, Below W1.heap.size W1 W → W.cell? ⟨w.heap.size, 0, none⟩ = some (.slice pp p.length qp) ∧ W.cell? ⟨w.heap.size + 1, 0, none⟩ = some (.slice pf M.frames.length cf) ∧ W.cell? ⟨w.heap.size + 1, 1, none⟩ = some (.slice pb M.blocks.length cb) ∧ W.cell? ⟨w.heap.size + 1, 2, none⟩ = some (.slice pi M.inp.length ci) ∧ W.cell? ⟨w.heap.size + 1, 3, none⟩ = some (.slice po M.out.length co) ∧ W.cell? ⟨w.heap.size + 1, 4, none⟩ = some (.int .i64 M.status) ∧ W.cell? ⟨w.heap.size + 1, 5, none⟩ = some (.int .i64 M.trap)) := fun W hW => by
    have h1 := (hW.block _ l1).trans u1
    have h2 := (hW.block _ l2).trans u2
    exact ⟨xaaZ h1 0, xaaZ h2 0, xaaZ h2 1, xaaZ h2 2, xaaZ h2 3, xaaZ h2 4, xaaZ h2 5⟩
  have HH := hideP (hCk.below b1)
  have HPC := hideP hpc
  have HB1 := hideP b1
  clear hpf hML hM hCk hpc u1 u2 b1
  go_enter Tryz.func9, Tryz.ntmps9
  go_wp2_with fail
  refine (xhwZ _).mono ?_
  rintro e w2 ⟨rfl, b2⟩
  have B2 := hideP b2
  clear b2
  go_wp2_with fail
  refine (xlzZ _).mono ?_
  rintro e w3 ⟨rfl, b3⟩
  have b13 := xadZ B2.out b3
  obtain ⟨e0, d0, d1, d2, d3, d4, d5⟩ := KC.out w3 b13
  have HXL := hideP (show X.size ≤ 9223372036854775807 by exact hX)
  have HSV := hideP (xe6Z M p _ _ _ _ _ w3 (HH.out.below b13) HPC.out)
  have B3 := hideP b13
  clear b3 b13 hX
  go_wp2_with fail
  refine HSV.out.mono ?_
  rintro e w4 ⟨T, rfl, hT, b4⟩
  have B4 := hideP (xadZ B3.out b4)
  have HT := hideP hT
  clear e0 d0 d1 d2 d3 d4 d5 hT b4
  by_cases hc0 : xaoZ p M = 0
  rotate_left
  · have hc0' : (xaoZ p M == 0) = false := by simpa using hc0
    generalize xaoZ p M = er0 at *
    obtain ⟨e0, -⟩ := KC.out w4 B4.out
    clear hc0
    have HRA_ := hideP (xe2Z p _ X w4 (HH.out.fns.below B4.out) (HH.out.cap.below HH.out.fns B4.out) HXL.out)
    go_wp2_with fail
    refine HRA_.out.mono ?_
    rintro e wA ⟨nfA, nbA, niA, noA, rfl, hrA, bA'⟩
    obtain ⟨R, hRR⟩ : ∃ R, restM p X.data.toList = R := ⟨_, rfl⟩
    rw [hRR] at hrA ⊢
    obtain ⟨⟨qfA, kfA, hqfA⟩, ⟨qbA, kbA, hqbA⟩, ⟨qiA, kiA, hqiA⟩, ⟨qoA, koA, hqoA⟩⟩ := xbbZ hrA
    subst hqfA hqbA hqiA hqoA
    obtain ⟨VA, hVA⟩ : ∃ VA, wA.alloc (.cells #[.slice qfA R.frames.length kfA, .slice qbA R.blocks.length kbA, .slice qiA R.inp.length kiA, .slice qoA R.out.length koA, .int .i64 R.status, .int .i64 R.trap] 48) = VA := ⟨_, rfl⟩
    have cA : Below wA.heap.size wA VA := by rw [← hVA]; exact (Below.refl _ wA).alloc (Nat.le_refl _) _
    have uA : VA.heap[wA.heap.size]? = some (.cells #[.slice qfA R.frames.length kfA, .slice qbA R.blocks.length kbA, .slice qiA R.inp.length kiA, .slice qoA R.out.length koA, .int .i64 R.status, .int .i64 R.trap] 48 (0, 0)) := by rw [← hVA]; exact World.alloc_heap_new wA _
    have FA := hideP (xadZ bA' cA)
    have RA := hideP (hrA.below cA)
    have KA : Hid (∀ W, Below VA.heap.size VA W → W.cell? ⟨wA.heap.size, 0, none⟩ = some (.slice qfA R.frames.length kfA) ∧ W.cell? ⟨wA.heap.size, 1, none⟩ = some (.slice qbA R.blocks.length kbA) ∧ W.cell? ⟨wA.heap.size, 2, none⟩ = some (.slice qiA R.inp.length kiA) ∧ W.cell? ⟨wA.heap.size, 3, none⟩ = some (.slice qoA R.out.length koA) ∧ W.cell? ⟨wA.heap.size, 4, none⟩ = some (.int .i64 R.status) ∧ W.cell? ⟨wA.heap.size, 5, none⟩ = some (.int .i64 R.trap)) := fun W hW => by
      have h1 := (hW.block _ (xacZ uA)).trans uA
      exact ⟨xaaZ h1 0, xaaZ h1 1, xaaZ h1 2, xaaZ h1 3, xaaZ h1 4, xaaZ h1 5⟩
    clear uA hrA cA bA'
    have B1A := hideP (xadZ B4.out FA.out)
    have eA := KC.out VA B1A.out
    obtain ⟨eA, -⟩ := eA
    obtain ⟨y0, y1, y2, y3, y4, y5⟩ := KA.out VA (Below.refl _ _)
    have HRR := hideP hRR
    clear hRR
    by_cases hc : restE p X.data.toList = 0
    rotate_left
    · have hz : R = zeroM := by rw [← HRR.out, restM, if_neg hc]
      have hc' : (restE p X.data.toList != 0) = true := by simpa using hc
      generalize restE p X.data.toList = er at *
      have hf0 : R.frames.length = 0 := by rw [hz]; rfl
      have hb0 : R.blocks.length = 0 := by rw [hz]; rfl
      rw [hf0] at y0
      rw [hb0] at y1
      clear hc hz hf0 hb0
      go_wp2
      go_ret
      exact ⟨rfl, xadZ HB1.out B1A.out⟩
    · have hf : fitsE p = 0 := by
        by_cases hf : fitsE p = 0
        · exact hf
        · rw [restE, if_pos hf] at hc; exact hc
      have hM : ∃ M', xbqZ X.data.toList = some M' ∧ xaoZ p M' = 0 := by
        rw [restE, if_neg (by simpa using hf)] at hc
        cases hm : xbqZ X.data.toList with
        | none => rw [hm] at hc; cases hc
        | some M' => rw [hm] at hc; exact ⟨M', rfl, hc⟩
      obtain ⟨M', hm, hck⟩ := hM
      have hRM : R = M' := by rw [← HRR.out, restM, if_pos hc, hm]; rfl
      subst hRM
      obtain ⟨hXB, hby⟩ := xgjZ hm
      have AR := RA.out.at_ (by obtain ⟨h1, h2, h3⟩ := xa8Z.1 hck; have := h3.inp.1; omega)
      have hpcR := pcOk_of hm
      have HSR := hideP (xe6Z R p _ _ _ _ _ VA ⟨HH.out.fns.below B1A.out, HH.out.cap.below HH.out.fns B1A.out, AR⟩ hpcR)
      have HAR := hideP AR
      have HCKR := hideP hck
      have HPR := hideP hpcR
      have HXB := hideP hXB
      rw [hc]
      clear hc hf hm hXB hby AR hpcR HRR hck
      go_wp2_with fail
      refine HSR.out.mono ?_
      rintro e wB ⟨U, rfl, hU, bB⟩
      have b1B := xadZ B1A.out bB
      have hq : (U.toList == X.toList) = true := bytes_same (by rw [hU, HXB.out]; exact if_pos HCKR.out)
      have HCK := hideP (xd6Z R p _ _ _ _ _ wB ⟨HH.out.fns.below b1B, HH.out.cap.below HH.out.fns b1B, HAR.out.below bB⟩ HPR.out)
      clear y0 y1 y2 y3 y4 y5 eA
      obtain ⟨eA, -⟩ := KC.out wB b1B
      obtain ⟨y0, y1, y2, y3, y4, y5⟩ := KA.out wB bB
      rw [HCKR.out] at HCK ⊢
      have B1B := hideP b1B
      clear hU bB b1B
      go_wp2_with fail
      refine HCK.out.mono ?_
      rintro e wC ⟨rfl, bC⟩
      go_wp2
      go_ret
      exact ⟨rfl, xadZ HB1.out (xadZ B1B.out bC)⟩
  · rw [hc0]
    have hTB : T.data.toList = machB M := by rw [HT.out]; exact if_pos hc0
    have hTs : T.size ≤ 9223372036854775807 := by
      have h1 : T.size = (machB M).length := by rw [← hTB]; simp
      have := save_len hc0
      omega
    have hRT := xe2Z p _ T w4 (HH.out.fns.below B4.out) (HH.out.cap.below HH.out.fns B4.out) hTs
    rw [hTB, (xjtZ hc0).1, (xjtZ hc0).2] at hRT
    have HRT := hideP hRT
    have HC0 := hideP hc0
    obtain ⟨e0, -⟩ := KC.out w4 B4.out
    clear hc0 hTB hTs hRT HT
    go_wp2_with fail
    refine HRT.out.mono ?_
    rintro e w5 ⟨nf5, nb5, ni5, no5, rfl, hr5, b5'⟩
    obtain ⟨⟨qf5, kf5, hqf5⟩, ⟨qb5, kb5, hqb5⟩, ⟨qi5, ki5, hqi5⟩, ⟨qo5, ko5, hqo5⟩⟩ := xbbZ hr5
    subst hqf5 hqb5 hqi5 hqo5
    obtain ⟨V5, hV5⟩ : ∃ V5, w5.alloc (.cells #[.slice qf5 M.frames.length kf5, .slice qb5 M.blocks.length kb5, .slice qi5 M.inp.length ki5, .slice qo5 M.out.length ko5, .int .i64 M.status, .int .i64 M.trap] 48) = V5 := ⟨_, rfl⟩
    have c5 : Below w5.heap.size w5 V5 := by rw [← hV5]; exact (Below.refl _ w5).alloc (Nat.le_refl _) _
    have u5 : V5.heap[w5.heap.size]? = some (.cells #[.slice qf5 M.frames.length kf5, .slice qb5 M.blocks.length kb5, .slice qi5 M.inp.length ki5, .slice qo5 M.out.length ko5, .int .i64 M.status, .int .i64 M.trap] 48 (0, 0)) := by rw [← hV5]; exact World.alloc_heap_new w5 _
    have F5 := hideP (xadZ b5' c5)
    have R5 := hideP (hr5.below c5)
    have K5 : Hid (∀ W, Below V5.heap.size V5 W → W.cell? ⟨w5.heap.size, 0, none⟩ = some (.slice qf5 M.frames.length kf5) ∧ W.cell? ⟨w5.heap.size, 1, none⟩ = some (.slice qb5 M.blocks.length kb5) ∧ W.cell? ⟨w5.heap.size, 2, none⟩ = some (.slice qi5 M.inp.length ki5) ∧ W.cell? ⟨w5.heap.size, 3, none⟩ = some (.slice qo5 M.out.length ko5) ∧ W.cell? ⟨w5.heap.size, 4, none⟩ = some (.int .i64 M.status) ∧ W.cell? ⟨w5.heap.size, 5, none⟩ = some (.int .i64 M.trap)) := fun W hW => by
      have h1 := (hW.block _ (xacZ u5)).trans u5
      exact ⟨xaaZ h1 0, xaaZ h1 1, xaaZ h1 2, xaaZ h1 3, xaaZ h1 4, xaaZ h1 5⟩
    clear u5 hr5 c5 b5'
    have B5 := hideP (xadZ B4.out F5.out)
    have hi : M.inp.length ≤ 100 := by obtain ⟨h1, h2, h3⟩ := xa8Z.1 HC0.out; have := h3.inp.1; omega
    have A5 := hideP (R5.out.at_ hi)
    clear e0
    obtain ⟨e0, d0, d1, d2, d3, d4, d5⟩ := KC.out V5 B5.out
    obtain ⟨x0, x1, x2, x3, x4, x5⟩ := K5.out V5 (Below.refl _ _)
    have HSM := hideP (xdbZ M M _ _ _ _ _ _ _ _ V5 (HH.out.mach.below B5.out) A5.out)
    go_wp2_with fail
    refine HSM.out.mono ?_
    rintro e w6 ⟨r, rfl, hr, b6⟩
    obtain rfl : r = true := hr.2 rfl
    have B6 := hideP (xadZ B5.out b6)
    have b56 := hideP b6
    clear e0 d0 d1 d2 d3 d4 d5 x0 x1 x2 x3 x4 x5 hr b6
    obtain ⟨e0, d0, d1, d2, d3, d4, d5⟩ := KC.out w6 B6.out
    have HRU := hideP (xkkZ M p n _ _ _ _ _ w6 (HH.out.below B6.out) HPC.out)
    go_wp2_with fail
    refine HRU.out.mono ?_
    rintro e w7 ⟨t7, ht7, nf7, nb7, ni7, no7, rfl, hr7, b7'⟩
    obtain ⟨⟨qf7, kf7, hqf7⟩, ⟨qb7, kb7, hqb7⟩, ⟨qi7, ki7, hqi7⟩, ⟨qo7, ko7, hqo7⟩⟩ := xbbZ hr7
    subst hqf7 hqb7 hqi7 hqo7
    obtain ⟨V7, hV7⟩ : ∃ V7, w7.alloc (.cells #[.slice qf7 t7.1.frames.length kf7, .slice qb7 t7.1.blocks.length kb7, .slice qi7 t7.1.inp.length ki7, .slice qo7 t7.1.out.length ko7, .int .i64 t7.1.status, .int .i64 t7.1.trap] 48) = V7 := ⟨_, rfl⟩
    have c7 : Below w7.heap.size w7 V7 := by rw [← hV7]; exact (Below.refl _ w7).alloc (Nat.le_refl _) _
    have u7 : V7.heap[w7.heap.size]? = some (.cells #[.slice qf7 t7.1.frames.length kf7, .slice qb7 t7.1.blocks.length kb7, .slice qi7 t7.1.inp.length ki7, .slice qo7 t7.1.out.length ko7, .int .i64 t7.1.status, .int .i64 t7.1.trap] 48 (0, 0)) := by rw [← hV7]; exact World.alloc_heap_new w7 _
    have F7 := hideP (xadZ b7' c7)
    have R7 := hideP (hr7.below c7)
    have K7 : Hid (∀ W, Below V7.heap.size V7 W → W.cell? ⟨w7.heap.size, 0, none⟩ = some (.slice qf7 t7.1.frames.length kf7) ∧ W.cell? ⟨w7.heap.size, 1, none⟩ = some (.slice qb7 t7.1.blocks.length kb7) ∧ W.cell? ⟨w7.heap.size, 2, none⟩ = some (.slice qi7 t7.1.inp.length ki7) ∧ W.cell? ⟨w7.heap.size, 3, none⟩ = some (.slice qo7 t7.1.out.length ko7) ∧ W.cell? ⟨w7.heap.size, 4, none⟩ = some (.int .i64 t7.1.status) ∧ W.cell? ⟨w7.heap.size, 5, none⟩ = some (.int .i64 t7.1.trap)) := fun W hW => by
      have h1 := (hW.block _ (xacZ u7)).trans u7
      exact ⟨xaaZ h1 0, xaaZ h1 1, xaaZ h1 2, xaaZ h1 3, xaaZ h1 4, xaaZ h1 5⟩
    clear u7 hr7 c7 b7'
    have B7 := hideP (xadZ B6.out F7.out)
    have b57 := hideP (xadZ b56.out F7.out)
    clear e0 d0 d1 d2 d3 d4 d5
    obtain ⟨e0, -⟩ := KC.out V7 B7.out
    obtain ⟨x0, x1, x2, x3, x4, x5⟩ := K5.out V7 b57.out
    have HRV := hideP (xkkZ M p n _ _ _ _ _ V7 ⟨HH.out.fns.below B7.out, HH.out.cap.below HH.out.fns B7.out, A5.out.below b57.out⟩ HPC.out)
    go_wp2_with fail
    refine HRV.out.mono ?_
    rintro e w8 ⟨t8, ht8, nf8, nb8, ni8, no8, rfl, hr8, b8'⟩
    obtain rfl : t7 = t8 := runRes_one ht7 ht8
    obtain ⟨⟨qf8, kf8, hqf8⟩, ⟨qb8, kb8, hqb8⟩, ⟨qi8, ki8, hqi8⟩, ⟨qo8, ko8, hqo8⟩⟩ := xbbZ hr8
    subst hqf8 hqb8 hqi8 hqo8
    obtain ⟨V8, hV8⟩ : ∃ V8, w8.alloc (.cells #[.slice qf8 t7.1.frames.length kf8, .slice qb8 t7.1.blocks.length kb8, .slice qi8 t7.1.inp.length ki8, .slice qo8 t7.1.out.length ko8, .int .i64 t7.1.status, .int .i64 t7.1.trap] 48) = V8 := ⟨_, rfl⟩
    have c8 : Below w8.heap.size w8 V8 := by rw [← hV8]; exact (Below.refl _ w8).alloc (Nat.le_refl _) _
    have u8 : V8.heap[w8.heap.size]? = some (.cells #[.slice qf8 t7.1.frames.length kf8, .slice qb8 t7.1.blocks.length kb8, .slice qi8 t7.1.inp.length ki8, .slice qo8 t7.1.out.length ko8, .int .i64 t7.1.status, .int .i64 t7.1.trap] 48 (0, 0)) := by rw [← hV8]; exact World.alloc_heap_new w8 _
    have F8 := hideP (xadZ b8' c8)
    have R8 := hideP (hr8.below c8)
    have K8 : Hid (∀ W, Below V8.heap.size V8 W → W.cell? ⟨w8.heap.size, 0, none⟩ = some (.slice qf8 t7.1.frames.length kf8) ∧ W.cell? ⟨w8.heap.size, 1, none⟩ = some (.slice qb8 t7.1.blocks.length kb8) ∧ W.cell? ⟨w8.heap.size, 2, none⟩ = some (.slice qi8 t7.1.inp.length ki8) ∧ W.cell? ⟨w8.heap.size, 3, none⟩ = some (.slice qo8 t7.1.out.length ko8) ∧ W.cell? ⟨w8.heap.size, 4, none⟩ = some (.int .i64 t7.1.status) ∧ W.cell? ⟨w8.heap.size, 5, none⟩ = some (.int .i64 t7.1.trap)) := fun W hW => by
      have h1 := (hW.block _ (xacZ u8)).trans u8
      exact ⟨xaaZ h1 0, xaaZ h1 1, xaaZ h1 2, xaaZ h1 3, xaaZ h1 4, xaaZ h1 5⟩
    clear u8 hr8 c8 b8'
    have B8 := hideP (xadZ B7.out F8.out)
    clear e0 x0 x1 x2 x3 x4 x5
    obtain ⟨x0, x1, x2, x3, x4, x5⟩ := K7.out V8 F8.out
    obtain ⟨z0, z1, z2, z3, z4, z5⟩ := K8.out V8 (Below.refl _ _)
    have hi7 := run_inp ht7
    have HSN := hideP (xdbZ t7.1 t7.1 _ _ _ _ _ _ _ _ V8 ((R7.out.at_ hi7).below F8.out) (R8.out.at_ hi7))
    clear ht7 ht8 hi hi7
    go_wp2_with fail
    refine HSN.out.mono ?_
    rintro e w9 ⟨r, rfl, hr, b9⟩
    obtain rfl : r = true := hr.2 rfl
    have B9 := hideP (xadZ B8.out b9)
    clear x0 x1 x2 x3 x4 x5 z0 z1 z2 z3 z4 z5 hr b9
    obtain ⟨e0, -⟩ := KC.out w9 B9.out
    have HRA_ := hideP (xe2Z p _ X w9 (HH.out.fns.below B9.out) (HH.out.cap.below HH.out.fns B9.out) HXL.out)
    go_wp2_with fail
    refine HRA_.out.mono ?_
    rintro e wA ⟨nfA, nbA, niA, noA, rfl, hrA, bA'⟩
    obtain ⟨R, hRR⟩ : ∃ R, restM p X.data.toList = R := ⟨_, rfl⟩
    rw [hRR] at hrA ⊢
    obtain ⟨⟨qfA, kfA, hqfA⟩, ⟨qbA, kbA, hqbA⟩, ⟨qiA, kiA, hqiA⟩, ⟨qoA, koA, hqoA⟩⟩ := xbbZ hrA
    subst hqfA hqbA hqiA hqoA
    obtain ⟨VA, hVA⟩ : ∃ VA, wA.alloc (.cells #[.slice qfA R.frames.length kfA, .slice qbA R.blocks.length kbA, .slice qiA R.inp.length kiA, .slice qoA R.out.length koA, .int .i64 R.status, .int .i64 R.trap] 48) = VA := ⟨_, rfl⟩
    have cA : Below wA.heap.size wA VA := by rw [← hVA]; exact (Below.refl _ wA).alloc (Nat.le_refl _) _
    have uA : VA.heap[wA.heap.size]? = some (.cells #[.slice qfA R.frames.length kfA, .slice qbA R.blocks.length kbA, .slice qiA R.inp.length kiA, .slice qoA R.out.length koA, .int .i64 R.status, .int .i64 R.trap] 48 (0, 0)) := by rw [← hVA]; exact World.alloc_heap_new wA _
    have FA := hideP (xadZ bA' cA)
    have RA := hideP (hrA.below cA)
    have KA : Hid (∀ W, Below VA.heap.size VA W → W.cell? ⟨wA.heap.size, 0, none⟩ = some (.slice qfA R.frames.length kfA) ∧ W.cell? ⟨wA.heap.size, 1, none⟩ = some (.slice qbA R.blocks.length kbA) ∧ W.cell? ⟨wA.heap.size, 2, none⟩ = some (.slice qiA R.inp.length kiA) ∧ W.cell? ⟨wA.heap.size, 3, none⟩ = some (.slice qoA R.out.length koA) ∧ W.cell? ⟨wA.heap.size, 4, none⟩ = some (.int .i64 R.status) ∧ W.cell? ⟨wA.heap.size, 5, none⟩ = some (.int .i64 R.trap)) := fun W hW => by
      have h1 := (hW.block _ (xacZ uA)).trans uA
      exact ⟨xaaZ h1 0, xaaZ h1 1, xaaZ h1 2, xaaZ h1 3, xaaZ h1 4, xaaZ h1 5⟩
    clear uA hrA cA bA'
    have B1A := hideP (xadZ B9.out FA.out)
    have eA := KC.out VA B1A.out
    obtain ⟨eA, -⟩ := eA
    obtain ⟨y0, y1, y2, y3, y4, y5⟩ := KA.out VA (Below.refl _ _)
    have HRR := hideP hRR
    clear hRR
    by_cases hc : restE p X.data.toList = 0
    rotate_left
    · have hz : R = zeroM := by rw [← HRR.out, restM, if_neg hc]
      have hc' : (restE p X.data.toList != 0) = true := by simpa using hc
      generalize restE p X.data.toList = er at *
      have hf0 : R.frames.length = 0 := by rw [hz]; rfl
      have hb0 : R.blocks.length = 0 := by rw [hz]; rfl
      rw [hf0] at y0
      rw [hb0] at y1
      clear hc hz hf0 hb0
      go_wp2
      go_ret
      exact ⟨rfl, xadZ HB1.out B1A.out⟩
    · have hf : fitsE p = 0 := by
        by_cases hf : fitsE p = 0
        · exact hf
        · rw [restE, if_pos hf] at hc; exact hc
      have hM : ∃ M', xbqZ X.data.toList = some M' ∧ xaoZ p M' = 0 := by
        rw [restE, if_neg (by simpa using hf)] at hc
        cases hm : xbqZ X.data.toList with
        | none => rw [hm] at hc; cases hc
        | some M' => rw [hm] at hc; exact ⟨M', rfl, hc⟩
      obtain ⟨M', hm, hck⟩ := hM
      have hRM : R = M' := by rw [← HRR.out, restM, if_pos hc, hm]; rfl
      subst hRM
      obtain ⟨hXB, hby⟩ := xgjZ hm
      have AR := RA.out.at_ (by obtain ⟨h1, h2, h3⟩ := xa8Z.1 hck; have := h3.inp.1; omega)
      have hpcR := pcOk_of hm
      have HSR := hideP (xe6Z R p _ _ _ _ _ VA ⟨HH.out.fns.below B1A.out, HH.out.cap.below HH.out.fns B1A.out, AR⟩ hpcR)
      have HAR := hideP AR
      have HCKR := hideP hck
      have HPR := hideP hpcR
      have HXB := hideP hXB
      rw [hc]
      clear hc hf hm hXB hby AR hpcR HRR hck
      go_wp2_with fail
      refine HSR.out.mono ?_
      rintro e wB ⟨U, rfl, hU, bB⟩
      have b1B := xadZ B1A.out bB
      have hq : (U.toList == X.toList) = true := bytes_same (by rw [hU, HXB.out]; exact if_pos HCKR.out)
      have HCK := hideP (xd6Z R p _ _ _ _ _ wB ⟨HH.out.fns.below b1B, HH.out.cap.below HH.out.fns b1B, HAR.out.below bB⟩ HPR.out)
      clear y0 y1 y2 y3 y4 y5 eA
      obtain ⟨eA, -⟩ := KC.out wB b1B
      obtain ⟨y0, y1, y2, y3, y4, y5⟩ := KA.out wB bB
      rw [HCKR.out] at HCK ⊢
      have B1B := hideP b1B
      clear hU bB b1B
      go_wp2_with fail
      refine HCK.out.mono ?_
      rintro e wC ⟨rfl, bC⟩
      go_wp2
      go_ret
      exact ⟨rfl, xadZ HB1.out (xadZ B1B.out bC)⟩
theorem lifted (os : Os) (started : os.Started) (H : Type) (enc : TypeId × Value → H) :
    ReturnsInHanded {} Tryz.checked os 9 .any (Rows.imageBackSpec.pre6 enc Tryz.prog Tryz.f9 Rows.imageBackRow.domain false) (Rows.imageBackSpec.post enc Tryz.prog Tryz.f9 false true false false) := by
  refine returnsInHanded_of_change_sized (C := Tryz.checked) own started (by kernel_rfl) Tryz.func9
    (ChangeSpec.witness6 (enc := enc) (C := Tryz.checked) false ⟨#[], #[.agg #[.slice none 0 0], .agg #[.slice none 0 0, .slice none 0 0, .slice none 0 0, .slice none 0 0, .int .i64 0, .int .i64 0], .string ⟨#[]⟩, .int .i64 0], []⟩ 8 (by kernel_rfl) (by kernel_rfl) (by kernel_rfl) (by kernel_rfl)) ?_
  intro W base args ds gs before hval0 hW hcnd hsz0 hholds
  have hval : ∀ (j : Nat) t v, Tryz.f9.params[j]? = some t → args[j]? = some v → Value.okWide Tryz.prog W .any base t v := hval0
  have hsz : (DataW.weightsEach Tryz.prog (Tryz.f9.params.toList ++ Rows.imageBackSpec.plain.varTypes Tryz.prog) (ds ++ gs)).all (· ≤ reachBytes) = true := hsz0
  have hW' := hW
  obtain ⟨p, q, hA0, hV, rfl, hfz, hnd⟩ := hW
  have hA : DataW.TrodAll enc Tryz.prog W 0 (fun _ => true) true Tryz.f9.params.toList args.toList ds p := hA0
  rw [Tryz.params9] at hA hval hsz
  obtain ⟨v0, vs0, d0, ds0, p0, q0, hargs, rfl, rfl, h0, r0⟩ := trodAll_cons hA
  obtain ⟨v1, vs1, d1, ds1, p1, q1, rfl, rfl, rfl, h1, r1⟩ := trodAll_cons r0
  obtain ⟨v2, vs2, d2, ds2, p2, q2, rfl, rfl, rfl, h2, r2⟩ := trodAll_cons r1
  obtain ⟨v3, vs3, d3, ds3, p3, q3, rfl, rfl, rfl, h3, r3⟩ := trodAll_cons r2
  obtain ⟨rfl, rfl, rfl⟩ := trodAll_nil r3
  obtain rfl : args = #[v0, v1, v2, v3] := by cases args; simp_all
  obtain ⟨rfl, rfl⟩ := trodVars_none hV
  have k0 := h0
  have k1 := h1
  have k2 := h2
  have k3 := h3
  have lt0 : ∀ x ∈ p0, x.block < W.heap.size := by obtain ⟨m, hm⟩ := k0; exact DataW.trod_lt m _ _ _ hm
  have lt1 : ∀ x ∈ p1, x.block < W.heap.size := by obtain ⟨m, hm⟩ := k1; exact DataW.trod_lt m _ _ _ hm
  have lt2 : ∀ x ∈ p2, x.block < W.heap.size := by obtain ⟨m, hm⟩ := k2; exact DataW.trod_lt m _ _ _ hm
  have lt3 : ∀ x ∈ p3, x.block < W.heap.size := by obtain ⟨m, hm⟩ := k3; exact DataW.trod_lt m _ _ _ hm
  have hw0 : ∀ n ∈ d0.weights Tryz.prog 24, n ≤ reachBytes := fun n hn => by have := List.all_eq_true.1 hsz n (DataW.weights_mem_each (j := 0) rfl rfl n hn); simpa using this
  obtain ⟨c0, l0, rfl, hl0⟩ := xleZ (hval 0 24 v0 rfl rfl) h0 hw0
  have hw1 : ∀ n ∈ d1.weights Tryz.prog 48, n ≤ reachBytes := fun n hn => by have := List.all_eq_true.1 hsz n (DataW.weights_mem_each (j := 1) rfl rfl n hn); simpa using this
  obtain ⟨e10, e11, e12, e13, M1, rfl, hM1, hL1⟩ := xiaZ (hval 1 48 v1 rfl rfl) h1 hw1
  obtain ⟨x2, rfl, hd2, hp2, hx2⟩ := Go.ChangeMaps.open_string Tryz.underlying9 (hval 2 9 v2 rfl rfl) h2
  obtain ⟨x3, rfl, hd3, hp3, wx3⟩ := open_int Tryz.underlying3 (hval 3 3 v3 rfl rfl) h3
  have hx3 : -9223372036854775808 ≤ x3 ∧ x3 ≤ 9223372036854775807 := by simpa [Lit.wf, IntKind.min, IntKind.max, IntKind.bits, IntKind.signed] using wx3
  clear hA0 hval0 hsz0
  refine (walk W l0 c0 hl0 M1 e10 e11 e12 e13 hM1 hL1 x2 hx2 x3 hx3).mono fun e W' ⟨he, bel⟩ => ?_
  subst he
  exact ⟨_, rfl, _, _, _, [], _, [], hW', trodAll_mk1 (shut_bool Tryz.underlying4 _), (trodAll_cons_mk (Below.trod laidOut (by kernel_rfl) (of_decide_eq_true (by kernel_rfl)) k0 bel lt0) (trodAll_cons_mk (Below.trod laidOut (by kernel_rfl) (of_decide_eq_true (by kernel_rfl)) k1 bel lt1) (trodAll_cons_mk (Below.trod laidOut (by kernel_rfl) (of_decide_eq_true (by kernel_rfl)) k2 bel lt2) (trodAll_cons_mk (Below.trod laidOut (by kernel_rfl) (of_decide_eq_true (by kernel_rfl)) k3 bel lt3) trodAll_mk0)))), rfl, bel.frame _, fun h => by cases h⟩
theorem over : Rows.imageBackRow.holds Tryz.pinned (OpenSpec.ofChange Rows.imageBackSpec) :=
  OpenClaim.holds_of_wide 9 Tryz.f9 rfl rfl rfl rfl rfl rfl rfl ⟨rfl, rfl, rfl, rfl, rfl⟩ rfl rfl rfl rfl rfl (by kernel_rfl) Tryz.func9 (by kernel_rfl)
    (of_decide_eq_true (by kernel_rfl)) (by unfold Func.isWrapper; first | (rw [if_pos (by decide +kernel)]; kernel_rfl) | (rw [if_neg (by decide +kernel)]; exact ⟨rfl, rfl⟩))
    (fun os started H enc _ => lifted os started H enc)
end Go.Proofs.YtmjjkenblfndgaaGreat.imageBack
namespace Go.Proofs.YtmjjkenblfndgaaGreat
/-- For every input the law ImageBack returns true, and the arguments read as they did. -/
theorem imageBack_holds : Rows.ImageBackSaid := imageBack.over
end Go.Proofs.YtmjjkenblfndgaaGreat

