/- What Encode, Decode and Check tell is what the document tells: for every program and every string ProgTells returns true. No condition. -/
import Derived.Test.YtjcaapgecimooaaU16
import Derived.Test.YtjcaapgecimooaaU17
namespace Go.Proofs.Ytjcaapgecimooaa.progTells
open Go.ChangeShapes Go.WideShapes Go.ChangeAt Go.RowKit
open Go.ChangeMaps (open_string shut_string)
set_option linter.unusedVariables false
set_option linter.unusedSimpArgs false
theorem byteArray_ext' {a b : ByteArray} (h : a.data.toList = b.data.toList) : a = b := by
  cases a; cases b; congr 1; exact Array.toList_inj.1 h
theorem programOf_ex (s : ByteArray) (hs : s.size ≤ maxLen) (w : World) (m : List Fn) (er : Int) (h : decProg s.data.toList = (m, er)) :
    Calls Try.prog 27 #[.string s] w fun e w' => ∃ p c, e = .returned (.tuple #[.agg #[.slice p m.length c], .int .i64 er]) ∧ FnsAt w' (.slice p m.length c) m ∧ Below w.heap.size w w' := by
  have := programOf_any s hs w
  rw [h] at this
  refine this.mono ?_
  rintro e w' ⟨v, rfl, h1, h2⟩
  obtain ⟨p, c, rfl⟩ := h1.shp
  exact ⟨p, c, rfl, h1, h2⟩
set_option maxRecDepth 100000 in
set_option maxHeartbeats 8000000 in
theorem walk (l : List Fn) (v : Value) (s : ByteArray) (w : World) (hl : FnsAt w v l) (hs : s.size ≤ maxLen) :
    Calls Try.prog 6 #[.agg #[v], .string s] w fun e w' => e = .returned (.bool true) ∧ Below w.heap.size w w' := by
  obtain ⟨p, c, rfl⟩ := hl.shp
  obtain ⟨⟨m, er⟩, he⟩ : ∃ x, decProg s.data.toList = x := ⟨_, rfl⟩
  have HDS := hideP he
  obtain ⟨ep, hep⟩ : ∃ x, progErr l = x := ⟨_, rfl⟩
  have HEP := hideP hep
  clear he hep
  have n1 := heap_new w (.cells #[.slice p l.length c] 41)
  have hB1 : Below w.heap.size w (w.alloc (.cells #[.slice p l.length c] 41)) := (Below.refl _ w).alloc (Nat.le_refl _) _
  obtain ⟨W1, hW1⟩ : ∃ W, w.alloc (.cells #[.slice p l.length c] 41) = W := ⟨_, rfl⟩
  rw [hW1] at n1 hB1
  have hl1 := hl.below hB1
  have hz1 := heap_lt n1
  have a1 := cell_at' n1 0
  simp only [List.getElem?_toArray, List.getElem?_cons_zero] at a1
  have hen := progEncode_any l _ W1 hl1
  rw [HEP.out] at hen
  have HEN := hideP hen
  clear hl hen
  go_enter Try.func6, Try.ntmps6
  go_wp2_with fail
  refine HEN.out.mono ?_
  rintro e w2 ⟨T, rfl, hT, hb2⟩
  have HT := hideP hT
  have n2 := (hb2.block _ hz1).trans n1
  have hl2 := hl1.below hb2
  have hB2 := hB1.trans (hb2.mono hB1.size)
  have hz2 := heap_lt n2
  clear hT HEN n1 a1 hl1 hW1 hb2
  go_wp2_with fail
  refine (progDecode_ex s hs _ m er HDS.out).mono ?_
  rintro e w3 ⟨p3, c3, rfl, hm3, hb3⟩
  have n3 := (hb3.block _ hz2).trans n2
  have hl3 := hl2.below hb3
  have hB3 := hB2.trans (hb3.mono hB2.size)
  have hb4 : Below w3.heap.size w3 (w3.alloc (.cells #[.slice p3 m.length c3] 41)) := (Below.refl _ w3).alloc (Nat.le_refl _) _
  have n4 := heap_old n3 (.cells #[.slice p3 m.length c3] 41)
  have k4 := heap_new w3 (.cells #[.slice p3 m.length c3] 41)
  obtain ⟨W4, hW4⟩ : ∃ W, w3.alloc (.cells #[.slice p3 m.length c3] 41) = W := ⟨_, rfl⟩
  rw [hW4] at n4 k4 hb4
  have hl4 := hl3.below hb4
  have hm4 := hm3.below hb4
  have hB4 := hB3.trans (hb4.mono hB3.size)
  have zn4 := heap_lt n4
  have zk4 := heap_lt k4
  have a4 := cell_at' n4 0
  simp only [List.getElem?_toArray, List.getElem?_cons_zero] at a4
  have hcp := checkProgram_any l _ W4 hl4
  rw [HEP.out] at hcp
  have HCP := hideP hcp
  clear hcp n2 n3 hl2 hl3 hm3 hb3 hb4
  go_wp2_with fail
  refine HCP.out.mono ?_
  rintro e w5 ⟨rfl, hb5⟩
  have n5 := (hb5.block _ zn4).trans n4
  have k5 := (hb5.block _ zk4).trans k4
  have hl5 := hl4.below hb5
  have hm5 := hm4.below hb5
  have hB5 := hB4.trans (hb5.mono hB4.size)
  have zn5 := heap_lt n5
  have zk5 := heap_lt k5
  have a5 := cell_at' n5 0
  simp only [List.getElem?_toArray, List.getElem?_cons_zero] at a5
  clear HCP n4 k4 hl4 hm4 hW4 a4 hb5
  by_cases h0 : ep = 0
  · subst h0
    have hpb := programBytes_any l _ w5 hl5 HEP.out
    have HPB := hideP hpb
    clear hpb
    go_wp2_with fail
    refine HPB.out.mono ?_
    rintro e w6 ⟨X, rfl, hX, hb6⟩
    obtain rfl : T = X := byteArray_ext' (by rw [HT.out, hX]; unfold progStr; rw [if_pos HEP.out])
    have n6 := (hb6.block _ zn5).trans n5
    have k6 := (hb6.block _ zk5).trans k5
    have hl6 := hl5.below hb6
    have hm6 := hm5.below hb6
    have hB6 := hB5.trans (hb6.mono hB5.size)
    clear HPB hX hb6 n5 k5 hl5 hm5 a5
    have z1t := heap_lt n6
    have z4t := heap_lt k6
    go_wp2_with fail
    refine (programOf_ex s hs _ m er HDS.out).mono ?_
    rintro e w7 ⟨p7, c7, rfl, hm7, hb7⟩
    have n7 := (hb7.block _ z1t).trans n6
    have k7 := (hb7.block _ z4t).trans k6
    have hl7 := hl6.below hb7
    have hq7 := hm6.below hb7
    have hB7 := hB6.trans (hb7.mono hB6.size)
    have hb8 : Below w7.heap.size w7 (w7.alloc (.cells #[.slice p7 m.length c7] 41)) := (Below.refl _ w7).alloc (Nat.le_refl _) _
    have n8 := heap_old n7 (.cells #[.slice p7 m.length c7] 41)
    have k8 := heap_old k7 (.cells #[.slice p7 m.length c7] 41)
    have j8 := heap_new w7 (.cells #[.slice p7 m.length c7] 41)
    obtain ⟨W8, hW8⟩ : ∃ W, w7.alloc (.cells #[.slice p7 m.length c7] 41) = W := ⟨_, rfl⟩
    rw [hW8] at n8 k8 j8 hb8
    have hl8 := hl7.below hb8
    have hq8 := hq7.below hb8
    have hm8 := hm7.below hb8
    have hB8 := hB7.trans (hb8.mono hB7.size)
    have zn8 := heap_lt n8
    have zk8 := heap_lt k8
    have zj8 := heap_lt j8
    clear n7 k7 hl7 hq7 hm7 hb7 hb8
    go_wp2_with fail
    refine (progBegun_any _).mono ?_
    rintro e w9 ⟨rfl, hb9⟩
    have n9 := (hb9.block _ zn8).trans n8
    have k9 := (hb9.block _ zk8).trans k8
    have j9 := (hb9.block _ zj8).trans j8
    have hl9 := hl8.below hb9
    have hq9 := hq8.below hb9
    have hm9 := hm8.below hb9
    have hB9 := hB8.trans (hb9.mono hB8.size)
    have zn9 := heap_lt n9
    have zk9 := heap_lt k9
    have zj9 := heap_lt j9
    have a9 := cell_at' n9 0
    simp only [List.getElem?_toArray, List.getElem?_cons_zero] at a9
    have hck := progCheck_any l _ w9 hl9
    rw [HEP.out] at hck
    have HCK := hideP hck
    clear hck n8 k8 j8 hl8 hq8 hm8 hb9 hW8
    go_wp2_with fail
    refine HCK.out.mono ?_
    rintro e w10 ⟨rfl, hb10⟩
    have k10 := (hb10.block _ zk9).trans k9
    have j10 := (hb10.block _ zj9).trans j9
    have hq10 := hq9.below hb10
    have hm10 := hm9.below hb10
    have hB10 := hB9.trans (hb10.mono hB9.size)
    have b10 := cell_at' k10 0
    have d10 := cell_at' j10 0
    simp only [List.getElem?_toArray, List.getElem?_cons_zero] at b10 d10
    have HSM : Hid (Calls Try.prog 30 #[.agg #[.slice p3 m.length c3], .agg #[.slice p7 m.length c7]] w10 fun e w' => e = .returned (.bool true) ∧ Below w10.heap.size w10 w') := by
      have := sameProgram_any m m _ _ w10 hq10 hm10
      rw [decide_eq_true rfl] at this
      exact this
    clear HCK n9 k9 j9 hl9 hq9 hm9 k10 j10 hq10 hm10
    go_wp2_with fail
    refine HSM.out.mono ?_
    rintro e w11 ⟨rfl, hb11⟩
    go_wp2
    go_ret
    exact ⟨rfl, hB10.trans (hb11.mono hB10.size)⟩
  · have h0' : (ep == 0) = false := beq_eq_false_iff_ne.2 h0
    obtain rfl : T = ⟨#[]⟩ := byteArray_ext' (by rw [HT.out]; unfold progStr; rw [if_neg (by rw [HEP.out]; exact h0)])
    clear h0 HT a5
    have z1t := heap_lt n5
    have z4t := heap_lt k5
    go_wp2_with fail
    refine (programOf_ex s hs _ m er HDS.out).mono ?_
    rintro e w7 ⟨p7, c7, rfl, hm7, hb7⟩
    have n7 := (hb7.block _ z1t).trans n5
    have k7 := (hb7.block _ z4t).trans k5
    have hl7 := hl5.below hb7
    have hq7 := hm5.below hb7
    have hB7 := hB5.trans (hb7.mono hB5.size)
    have hb8 : Below w7.heap.size w7 (w7.alloc (.cells #[.slice p7 m.length c7] 41)) := (Below.refl _ w7).alloc (Nat.le_refl _) _
    have n8 := heap_old n7 (.cells #[.slice p7 m.length c7] 41)
    have k8 := heap_old k7 (.cells #[.slice p7 m.length c7] 41)
    have j8 := heap_new w7 (.cells #[.slice p7 m.length c7] 41)
    obtain ⟨W8, hW8⟩ : ∃ W, w7.alloc (.cells #[.slice p7 m.length c7] 41) = W := ⟨_, rfl⟩
    rw [hW8] at n8 k8 j8 hb8
    have hl8 := hl7.below hb8
    have hq8 := hq7.below hb8
    have hm8 := hm7.below hb8
    have hB8 := hB7.trans (hb8.mono hB7.size)
    have zn8 := heap_lt n8
    have zk8 := heap_lt k8
    have zj8 := heap_lt j8
    clear n7 k7 hl7 hq7 hm7 hb7 hb8
    go_wp2_with fail
    refine (progBegun_any _).mono ?_
    rintro e w9 ⟨rfl, hb9⟩
    have n9 := (hb9.block _ zn8).trans n8
    have k9 := (hb9.block _ zk8).trans k8
    have j9 := (hb9.block _ zj8).trans j8
    have hl9 := hl8.below hb9
    have hq9 := hq8.below hb9
    have hm9 := hm8.below hb9
    have hB9 := hB8.trans (hb9.mono hB8.size)
    have zn9 := heap_lt n9
    have zk9 := heap_lt k9
    have zj9 := heap_lt j9
    have a9 := cell_at' n9 0
    simp only [List.getElem?_toArray, List.getElem?_cons_zero] at a9
    have hck := progCheck_any l _ w9 hl9
    rw [HEP.out] at hck
    have HCK := hideP hck
    clear hck n8 k8 j8 hl8 hq8 hm8 hb9 hW8
    go_wp2_with fail
    refine HCK.out.mono ?_
    rintro e w10 ⟨rfl, hb10⟩
    have k10 := (hb10.block _ zk9).trans k9
    have j10 := (hb10.block _ zj9).trans j9
    have hq10 := hq9.below hb10
    have hm10 := hm9.below hb10
    have hB10 := hB9.trans (hb10.mono hB9.size)
    have b10 := cell_at' k10 0
    have d10 := cell_at' j10 0
    simp only [List.getElem?_toArray, List.getElem?_cons_zero] at b10 d10
    have HSM : Hid (Calls Try.prog 30 #[.agg #[.slice p3 m.length c3], .agg #[.slice p7 m.length c7]] w10 fun e w' => e = .returned (.bool true) ∧ Below w10.heap.size w10 w') := by
      have := sameProgram_any m m _ _ w10 hq10 hm10
      rw [decide_eq_true rfl] at this
      exact this
    clear HCK n9 k9 j9 hl9 hq9 hm9 k10 j10 hq10 hm10
    go_wp2_with fail
    refine HSM.out.mono ?_
    rintro e w11 ⟨rfl, hb11⟩
    go_wp2
    go_ret
    exact ⟨rfl, hB10.trans (hb11.mono hB10.size)⟩
theorem own : ownKnob Try.prog.godebug = none := by kernel_rfl
theorem laidOut : laidOutB Try.prog = true := by kernel_rfl
set_option maxRecDepth 100000 in
theorem lifted (os : Os) (started : os.Started) (H : Type) (enc : TypeId × Value → H) :
    ReturnsInHanded {} Try.checked os 6 .any (Rows.progTellsSpec.pre6 enc Try.prog Try.f6 Rows.progTellsRow.domain false) (Rows.progTellsSpec.post enc Try.prog Try.f6 false true false false) := by
  refine returnsInHanded_of_change_sized (C := Try.checked) own started (by kernel_rfl) Try.func6
    (ChangeSpec.witness6 (enc := enc) (C := Try.checked) false ⟨#[], #[.agg #[.slice none 0 0], .string ⟨#[]⟩], []⟩ 8 (by kernel_rfl) (by kernel_rfl) (by kernel_rfl) (by kernel_rfl)) ?_
  intro W base args ds gs before hval0 hW hcnd hsz0 hholds
  have hval : ∀ (j : Nat) t v, Try.f6.params[j]? = some t → args[j]? = some v → Value.okWide Try.prog W .any base t v := hval0
  have hW' := hW
  obtain ⟨p, q, hA0, hV, rfl, hfz, hnd⟩ := hW
  have hA : DataW.TrodAll enc Try.prog W 0 (fun _ => true) true Try.f6.params.toList args.toList ds p := hA0
  rw [Try.params6] at hA hval
  obtain ⟨v0, vs0, d0, ds0, p0, q0, hargs, rfl, rfl, h0, r0⟩ := trodAll_cons hA
  obtain ⟨v1, vs1, d1, ds1, p1, q1, rfl, rfl, rfl, h1, r1⟩ := trodAll_cons r0
  obtain ⟨rfl, rfl, rfl⟩ := trodAll_nil r1
  obtain rfl : args = #[v0, v1] := by cases args; simp_all
  obtain ⟨rfl, rfl⟩ := trodVars_none hV
  have k0 := h0
  have k1 := h1
  have lt0 : ∀ x ∈ p0, x.block < W.heap.size := by obtain ⟨m, hm⟩ := k0; exact DataW.trod_lt m _ _ _ hm
  have lt1 : ∀ x ∈ p1, x.block < W.heap.size := by obtain ⟨m, hm⟩ := k1; exact DataW.trod_lt m _ _ _ hm
  obtain ⟨c, l, rfl, hl⟩ := open_prog (hval 0 41 v0 rfl rfl) h0
  obtain ⟨s, rfl, hd1, hp1, hs⟩ := open_string Try.underlying9 (hval 1 9 v1 rfl rfl) h1
  clear hA0 hval0 hsz0
  refine (walk l c s W hl hs).mono fun e W' ⟨he, bel⟩ => ?_
  subst he
  exact ⟨_, rfl, _, _, _, [], _, [], hW', trodAll_mk1 (shut_bool Try.underlying4 _), (trodAll_cons_mk (Below.trod laidOut (by kernel_rfl) (of_decide_eq_true (by kernel_rfl)) k0 bel lt0) (trodAll_cons_mk (Below.trod laidOut (by kernel_rfl) (of_decide_eq_true (by kernel_rfl)) k1 bel lt1) trodAll_mk0)), rfl, bel.frame _, fun h => by cases h⟩
theorem over : Rows.progTellsRow.holds Try.pinned (OpenSpec.ofChange Rows.progTellsSpec) :=
  OpenClaim.holds_of_wide 6 Try.f6 rfl rfl rfl rfl rfl rfl rfl ⟨rfl, rfl, rfl, rfl, rfl⟩ rfl rfl rfl rfl rfl (by kernel_rfl) Try.func6 (by kernel_rfl)
    (of_decide_eq_true (by kernel_rfl)) (by unfold Func.isWrapper; first | (rw [if_pos (by decide +kernel)]; kernel_rfl) | (rw [if_neg (by decide +kernel)]; exact ⟨rfl, rfl⟩))
    (fun os started H enc _ => lifted os started H enc)
end Go.Proofs.Ytjcaapgecimooaa.progTells
namespace Go.Proofs.Ytjcaapgecimooaa
/-- For every program and every string the law ProgTells returns true, and they read as they did. -/
theorem progTells_holds : Rows.ProgTellsSaid := progTells.over
end Go.Proofs.Ytjcaapgecimooaa

