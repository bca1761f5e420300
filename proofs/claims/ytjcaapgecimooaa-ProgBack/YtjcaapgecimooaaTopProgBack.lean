/- What is encoded is decoded as it was, and what is decoded is encoded as it was: for every program and every string ProgBack returns true. No condition. -/
import Derived.Test.YtjcaapgecimooaaU16
namespace Go.Proofs.Ytjcaapgecimooaa.progBack
open Go.ChangeShapes Go.WideShapes Go.ChangeAt Go.RowKit
open Go.ChangeMaps (open_string shut_string)
set_option linter.unusedVariables false
set_option linter.unusedSimpArgs false
theorem byteArray_ext' {a b : ByteArray} (h : a.data.toList = b.data.toList) : a = b := by
  cases a; cases b; congr 1; exact Array.toList_inj.1 h
set_option maxRecDepth 100000 in
set_option maxHeartbeats 8000000 in
theorem walk (l : List Fn) (v : Value) (s : ByteArray) (w : World) (hl : FnsAt w v l) (hs : s.size ≤ maxLen) :
    Calls Try.prog 7 #[.agg #[v], .string s] w fun e w' => e = .returned (.bool true) ∧ Below w.heap.size w w' := by
  obtain ⟨p, c, rfl⟩ := hl.shp
  have halt := prog_dec s.data.toList
  obtain ⟨⟨m, er⟩, he⟩ : ∃ x, decProg s.data.toList = x := ⟨_, rfl⟩
  rw [he] at halt
  simp only at halt
  have HALT := hideP halt
  have HDS := hideP he
  clear halt he
  have n1 := heap_new w (.cells #[.slice p l.length c] 41)
  have hB1 : Below w.heap.size w (w.alloc (.cells #[.slice p l.length c] 41)) := (Below.refl _ w).alloc (Nat.le_refl _) _
  obtain ⟨W1, hW1⟩ : ∃ W, w.alloc (.cells #[.slice p l.length c] 41) = W := ⟨_, rfl⟩
  rw [hW1] at n1 hB1
  have hl1 := hl.below hB1
  have hz1 := heap_lt n1
  clear hl
  go_enter Try.func7, Try.ntmps7
  go_wp2_with fail
  refine (progBegun_any _).mono ?_
  rintro e w2 ⟨rfl, hb2⟩
  have hB2 := hB1.trans (hb2.mono hB1.size)
  have n2 := (hb2.block _ hz1).trans n1
  have hl2 := hl1.below hb2
  have hz2 := heap_lt n2
  have a2 := cell_at' n2 0
  simp only [List.getElem?_toArray, List.getElem?_cons_zero] at a2
  clear n1 hl1 hW1
  obtain ⟨ep, hep⟩ : ∃ x, progErr l = x := ⟨_, rfl⟩
  have hen := progEncode_any l _ w2 hl2
  rw [hep] at hen
  have HEN := hideP hen
  have HEP := hideP hep
  clear hen hep
  go_wp2_with fail
  refine HEN.out.mono ?_
  rintro e w3 ⟨T, rfl, hT, hb3⟩
  have hB3 := hB2.trans (hb3.mono hB2.size)
  have n3 := (hb3.block _ hz2).trans n2
  have hl3 := hl2.below hb3
  have hz3 := heap_lt n3
  have HT := hideP hT
  clear hT HEN n2 a2 hl2
  by_cases h0 : ep = 0
  · subst h0
    have hT1 : T.data.toList = progBytes l := by rw [HT.out]; unfold progStr; rw [if_pos HEP.out]
    have hTs : T.size ≤ 2000 := by
      have h1 := congrArg List.length hT1
      obtain ⟨_, h5, hf, _⟩ := progErr_zero HEP.out
      have h2 := fnsBytes_le l _ hf
      simp only [progBytes, List.length_cons, Array.length_toList] at h1
      show T.data.size ≤ 2000
      omega
    have hdl : decProg T.data.toList = (l, 0) := by
      rw [hT1]
      refine dec_prog l HEP.out ?_
      rw [← hT1]; simpa using hTs
    have HDL := hideP hdl
    have hTi : (T.size : Int) ≤ 2000 := by omega
    clear hT1 hdl HT
    go_wp2_with fail
    refine (progDecode_ex T (by unfold maxLen; omega) _ l 0 HDL.out).mono ?_
    rintro e w4 ⟨p4, c4, rfl, hl4, hb4⟩
    have hB4 := hB3.trans (hb4.mono hB3.size)
    have n4 := (hb4.block _ hz3).trans n3
    have hv4 := hl3.below hb4
    have hz4 := heap_lt n4
    have hb5 : Below w4.heap.size w4 (w4.alloc (.cells #[.slice p4 l.length c4] 41)) := (Below.refl _ w4).alloc (Nat.le_refl _) _
    have n5 := heap_old n4 (.cells #[.slice p4 l.length c4] 41)
    have k5 := heap_new w4 (.cells #[.slice p4 l.length c4] 41)
    obtain ⟨W5, hW5⟩ : ∃ W, w4.alloc (.cells #[.slice p4 l.length c4] 41) = W := ⟨_, rfl⟩
    rw [hW5] at n5 hb5 k5
    have hB5 := hB4.trans (hb5.mono hB4.size)
    have hv5 := hv4.below hb5
    have hl5 := hl4.below hb5
    have a5 := cell_at' n5 0
    have d5 := cell_at' k5 0
    simp only [List.getElem?_toArray, List.getElem?_cons_zero] at a5 d5
    have HSM : Hid (Calls Try.prog 30 #[.agg #[.slice p l.length c], .agg #[.slice p4 l.length c4]] W5 fun e w' => e = .returned (.bool true) ∧ Below W5.heap.size W5 w') := by
      have := sameProgram_any l l _ _ W5 hv5 hl5
      rw [decide_eq_true rfl] at this
      exact this
    clear n3 n4 n5 k5 hl3 hl4 hv4 HDL hv5 hl5
    go_wp2_with fail
    refine HSM.out.mono ?_
    rintro e w6 ⟨rfl, hb6⟩
    have hB6 := hB5.trans (hb6.mono hB5.size)
    clear HSM a5 d5 hW5
    go_wp2_with fail
    refine (progDecode_ex s hs _ m er HDS.out).mono ?_
    rintro e y1 ⟨pm, cm, rfl, hm1, hy1⟩
    have hC1 := hB6.trans (hy1.mono hB6.size)
    have hy2 : Below y1.heap.size y1 (y1.alloc (.cells #[.slice pm m.length cm] 41)) := (Below.refl _ y1).alloc (Nat.le_refl _) _
    have n2 := heap_new y1 (.cells #[.slice pm m.length cm] 41)
    obtain ⟨Y2, hY2⟩ : ∃ W, y1.alloc (.cells #[.slice pm m.length cm] 41) = W := ⟨_, rfl⟩
    rw [hY2] at n2 hy2
    have hm2 := hm1.below hy2
    have hC2 := hC1.trans (hy2.mono hC1.size)
    have b2 := cell_at' n2 0
    simp only [List.getElem?_toArray, List.getElem?_cons_zero] at b2
    clear n2
    rcases HALT.out with ⟨h1, h2⟩ | ⟨h1, h2, h3⟩
    · have h1' : (er != 0) = true := by simpa using h1
      have h2' : m.length = 0 := by rw [h2]; rfl
      have h2'' : ((m.length : Int) == 0) = true := by rw [h2']; rfl
      clear h1 h2 h2'
      go_wp2
      go_ret
      exact ⟨rfl, hC2⟩
    · have h1' : (er != 0) = false := by simp [h1]
      have hen : Calls Try.prog 23 #[.agg #[.slice pm m.length cm]] Y2 fun e w' => ∃ T : ByteArray, e = .returned (.tuple #[.string T, .int .i64 0]) ∧ T.data.toList = progStr m ∧ Below Y2.heap.size Y2 w' := by
        have := progEncode_any m _ Y2 hm2
        rw [h2] at this
        exact this
      have HEN := hideP hen
      have HS := hideP (show progStr m = s.data.toList by unfold progStr; rw [if_pos h2, h3])
      clear h1 h2 h3 hen
      go_wp2_with fail
      refine HEN.out.mono ?_
      rintro e y3 ⟨X, rfl, hX, hy3⟩
      obtain rfl : X = s := byteArray_ext' (by rw [hX]; exact HS.out)
      clear hX HEN HS HDS HALT
      go_wp2
      go_ret
      exact ⟨rfl, hC2.trans (hy3.mono hC2.size)⟩
  · have h0' : (ep == 0) = false := beq_eq_false_iff_ne.2 h0
    clear HT h0 n3 hl3
    go_wp2_with fail
    refine (progDecode_ex s hs _ m er HDS.out).mono ?_
    rintro e y1 ⟨pm, cm, rfl, hm1, hy1⟩
    have hC1 := hB3.trans (hy1.mono hB3.size)
    have hy2 : Below y1.heap.size y1 (y1.alloc (.cells #[.slice pm m.length cm] 41)) := (Below.refl _ y1).alloc (Nat.le_refl _) _
    have n2 := heap_new y1 (.cells #[.slice pm m.length cm] 41)
    obtain ⟨Y2, hY2⟩ : ∃ W, y1.alloc (.cells #[.slice pm m.length cm] 41) = W := ⟨_, rfl⟩
    rw [hY2] at n2 hy2
    have hm2 := hm1.below hy2
    have hC2 := hC1.trans (hy2.mono hC1.size)
    have b2 := cell_at' n2 0
    simp only [List.getElem?_toArray, List.getElem?_cons_zero] at b2
    clear n2
    rcases HALT.out with ⟨h1, h2⟩ | ⟨h1, h2, h3⟩
    · have h1' : (er != 0) = true := by simpa using h1
      have h2' : m.length = 0 := by rw [h2]; rfl
      have h2'' : ((m.length : Int) == 0) = true := by rw [h2']; rfl
      clear h1 h2 h2'
      go_wp2
      go_ret
      exact ⟨rfl, hC2⟩
    · have h1' : (er != 0) = false := by simp [h1]
      have hen : Calls Try.prog 23 #[.agg #[.slice pm m.length cm]] Y2 fun e w' => ∃ T : ByteArray, e = .returned (.tuple #[.string T, .int .i64 0]) ∧ T.data.toList = progStr m ∧ Below Y2.heap.size Y2 w' := by
        have := progEncode_any m _ Y2 hm2
        rw [h2] at this
        exact this
      have HEN := hideP hen
      have HS := hideP (show progStr m = s.data.toList by unfold progStr; rw [if_pos h2, h3])
      clear h1 h2 h3 hen
      go_wp2_with fail
      refine HEN.out.mono ?_
      rintro e y3 ⟨X, rfl, hX, hy3⟩
      obtain rfl : X = s := byteArray_ext' (by rw [hX]; exact HS.out)
      clear hX HEN HS HDS HALT
      go_wp2
      go_ret
      exact ⟨rfl, hC2.trans (hy3.mono hC2.size)⟩
theorem own : ownKnob Try.prog.godebug = none := by kernel_rfl
theorem laidOut : laidOutB Try.prog = true := by kernel_rfl
set_option maxRecDepth 100000 in
theorem lifted (os : Os) (started : os.Started) (H : Type) (enc : TypeId × Value → H) :
    ReturnsInHanded {} Try.checked os 7 .any (Rows.progBackSpec.pre6 enc Try.prog Try.f7 Rows.progBackRow.domain false) (Rows.progBackSpec.post enc Try.prog Try.f7 false true false false) := by
  refine returnsInHanded_of_change_sized (C := Try.checked) own started (by kernel_rfl) Try.func7
    (ChangeSpec.witness6 (enc := enc) (C := Try.checked) false ⟨#[], #[.agg #[.slice none 0 0], .string ⟨#[]⟩], []⟩ 8 (by kernel_rfl) (by kernel_rfl) (by kernel_rfl) (by kernel_rfl)) ?_
  intro W base args ds gs before hval0 hW hcnd hsz0 hholds
  have hval : ∀ (j : Nat) t v, Try.f7.params[j]? = some t → args[j]? = some v → Value.okWide Try.prog W .any base t v := hval0
  have hW' := hW
  obtain ⟨p, q, hA0, hV, rfl, hfz, hnd⟩ := hW
  have hA : DataW.TrodAll enc Try.prog W 0 (fun _ => true) true Try.f7.params.toList args.toList ds p := hA0
  rw [Try.params7] at hA hval
  obtain ⟨v0, vs0, d0, ds0, p0, q0, hargs, rfl, rfl, h0, r0⟩ := trodAll_cons hA
  obtain ⟨v1, vs1, d1, ds1, p1, q1, rfl, rfl, rfl, h1, r1⟩ := trodAll_cons r0
  obtain ⟨rfl, rfl, rfl⟩ := trodAll_nil r1
  obtain rfl : args = #[v0, v1] := by cases args; simp_all
  obtain ⟨rfl, rfl⟩ := trodVars_none hV
  have k0 := h0
  have k1 := h1
  have lt0 : ∀ x ∈ p0, x.block < W.heap.size := by obtain ⟨m, hm⟩ := k0; exact DataW.trod_lt m _ _ _ hm
  have lt1 : ∀ x ∈ p1, x.block < W.heap.size := by obtain ⟨m, hm⟩ := k1; exact DataW.trod_lt m _ _ _ hm
  obtain ⟨c, l, rfl, hl⟩ := open_prog (hval 0 41 v0 rfl rfl) h0
  obtain ⟨s, rfl, hd1, hp1, hs⟩ := open_string Try.underlying9 (hval 1 9 v1 rfl rfl) h1
  clear hA0 hval0 hsz0
  refine (walk l c s W hl hs).mono fun e W' ⟨he, bel⟩ => ?_
  subst he
  exact ⟨_, rfl, _, _, _, [], _, [], hW', trodAll_mk1 (shut_bool Try.underlying4 _), (trodAll_cons_mk (Below.trod laidOut (by kernel_rfl) (of_decide_eq_true (by kernel_rfl)) k0 bel lt0) (trodAll_cons_mk (Below.trod laidOut (by kernel_rfl) (of_decide_eq_true (by kernel_rfl)) k1 bel lt1) trodAll_mk0)), rfl, bel.frame _, fun h => by cases h⟩
theorem over : Rows.progBackRow.holds Try.pinned (OpenSpec.ofChange Rows.progBackSpec) :=
  OpenClaim.holds_of_wide 7 Try.f7 rfl rfl rfl rfl rfl rfl rfl ⟨rfl, rfl, rfl, rfl, rfl⟩ rfl rfl rfl rfl rfl (by kernel_rfl) Try.func7 (by kernel_rfl)
    (of_decide_eq_true (by kernel_rfl)) (by unfold Func.isWrapper; first | (rw [if_pos (by decide +kernel)]; kernel_rfl) | (rw [if_neg (by decide +kernel)]; exact ⟨rfl, rfl⟩))
    (fun os started H enc _ => lifted os started H enc)
end Go.Proofs.Ytjcaapgecimooaa.progBack
namespace Go.Proofs.Ytjcaapgecimooaa
/-- For every program and every string the law ProgBack returns true, and they read as they did. -/
theorem progBack_holds : Rows.ProgBackSaid := progBack.over
end Go.Proofs.Ytjcaapgecimooaa

