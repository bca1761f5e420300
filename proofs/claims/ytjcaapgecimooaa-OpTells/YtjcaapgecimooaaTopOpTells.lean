/- Check, Wrap, Encode and Decode answer just what the document says, errors too: for every op, int, slice of ops and string OpTells returns true. No condition. -/
import Derived.Test.YtjcaapgecimooaaU15
import Derived.Test.YtjcaapgecimooaaTopOpBack
import Derived.Deep.RegionHeld3
import Derived.Lib.SmallJoins
namespace Go.Proofs.Ytjcaapgecimooaa.opTells
open Go.ChangeShapes Go.WideShapes Go.ChangeAt Go.RowKit
open Go.ChangeMaps (open_string shut_string)
set_option linter.unusedVariables false
set_option linter.unusedSimpArgs false
open opBack (decode_ex byteArray_ext encStr_le open_ops own laidOut)
theorem codeOf_ex (s : ByteArray) (hm : s.size ≤ 140737488351232) (w : World) (m : List (Int × Int)) (er : Int) (h : dec (items s.size s.data.toList) [] = (m, er)) :
    Calls Try.prog 16 #[.string s] w fun e w' => ∃ v, e = .returned (.tuple #[v, .int .i64 er]) ∧ OpsAt w' v m ∧ Below w.heap.size w w' := by
  have := codeOf_any s hm w
  rw [h] at this
  exact this
theorem bcell {W w1 : World} (hb : Below W.heap.size W w1) (b : Nat) (c a : Value) (hlt : b < W.heap.size) (h0 : W.cell? ⟨b, 0, none⟩ = some c) (h1 : W.cell? ⟨b, 1, none⟩ = some a) : w1.cell? ⟨b, 0, none⟩ = some c ∧ w1.cell? ⟨b, 1, none⟩ = some a :=
  ⟨(hb.cell (p := ⟨b, 0, none⟩) hlt).trans h0, (hb.cell (p := ⟨b, 1, none⟩) hlt).trans h1⟩
set_option maxRecDepth 100000 in
set_option maxHeartbeats 4000000 in
theorem walk (c a n : Int) (l : List (Int × Int)) (v : Value) (s : ByteArray) (w : World) (hl : OpsAt w v l) (hn : -9223372036854775808 ≤ n ∧ n ≤ 9223372036854775807) (hs : s.size ≤ 140737488351232) :
    Calls Try.prog 3 #[.agg #[.int .i64 c, .int .i64 a], .int .i64 n, v, .string s] w fun e w' => e = .returned (.bool true) ∧ Below w.heap.size w w' := by
  have hm : s.size ≤ maxLen := by unfold maxLen; omega
  obtain ⟨⟨m, er⟩, hd⟩ : ∃ x, dec (items s.size s.data.toList) [] = x := ⟨_, rfl⟩
  have HD : Hid (dec (items s.size s.data.toList) [] = (m, er)) := hd
  clear hd
  have hw0 : Below w.heap.size w (w.alloc (.cells #[.int .i64 c, .int .i64 a] 23)) := (Below.refl _ w).alloc (Nat.le_refl _) _
  go_enter Try.func3, Try.ntmps3
  go_wp2_with fail
  refine (encode_ex l v _ (hl.below hw0)).mono ?_
  rintro e w1 ⟨T, rfl, hT, hb1⟩
  have q0 := (hb1.cell (p := ⟨w.heap.size, 0, none⟩) (by simp)).trans (cell_at' (World.alloc_heap_new w (.cells #[.int .i64 c, .int .i64 a] 23)) 0)
  have q1 := (hb1.cell (p := ⟨w.heap.size, 1, none⟩) (by simp)).trans (cell_at' (World.alloc_heap_new w (.cells #[.int .i64 c, .int .i64 a] 23)) 1)
  have hB1 : Below w.heap.size w w1 := hw0.trans (hb1.mono (by simp))
  have hz1 : w.heap.size < w1.heap.size := by have := hb1.size; simp at this; omega
  have HT : Hid (T.data.toList = encStr l) := hT
  simp at q0 q1
  clear hT hb1 hw0
  go_wp2_with fail
  refine (decode_ex s hm _ m er HD.out).mono ?_
  rintro e w2 ⟨x, rfl, hx, hb2⟩
  obtain ⟨p0, p1⟩ := bcell hb2 _ _ _ hz1 q0 q1
  have hB2 := hB1.trans (hb2.mono hB1.size)
  have hz2 := Nat.lt_of_lt_of_le hz1 hb2.size
  clear q0 q1 hB1 hz1 hb2
  go_wp2_with fail
  refine (checkCode_any l v _ (hl.below hB2)).mono ?_
  rintro e w3 ⟨rfl, hb3⟩
  obtain ⟨q0, q1⟩ := bcell hb3 _ _ _ hz2 p0 p1
  have hx3 := hx.below hb3
  have hB3 := hB2.trans (hb3.mono hB2.size)
  have hz3 := Nat.lt_of_lt_of_le hz2 hb3.size
  clear p0 p1 hB2 hz2 hb3 hx
  by_cases he : codeErr l = 0
  · have he' : (codeErr l == 0) = true := by simp [he]
    have HE : Hid (codeErr l = 0) := he
    clear he
    go_wp2_with fail
    refine (codeBytes_any l v _ (hl.below hB3) (codeErr_zero l HE.out).1 (codeErr_zero l HE.out).2).mono ?_
    rintro e w4 ⟨X, rfl, hX, hb4⟩
    have hTX : T = X := byteArray_ext (by rw [HT.out, hX]; simp [encStr, HE.out])
    subst hTX
    obtain ⟨p0, p1⟩ := bcell hb4 _ _ _ hz3 q0 q1
    have hx4 := hx3.below hb4
    have hB4 := hB3.trans (hb4.mono hB3.size)
    have hz4 := Nat.lt_of_lt_of_le hz3 hb4.size
    clear q0 q1 hB3 hz3 hb4 hx3 hX
    go_wp2_with fail
    refine (codeOf_ex s hs _ m er HD.out).mono ?_
    rintro e w5 ⟨y, rfl, hy, hb5⟩
    obtain ⟨q0, q1⟩ := bcell hb5 _ _ _ hz4 p0 p1
    have hx5 := hx4.below hb5
    have hB5 := hB4.trans (hb5.mono hB4.size)
    have hz5 := Nat.lt_of_lt_of_le hz4 hb5.size
    clear p0 p1 hB4 hz4 hb5 hx4
    go_wp2_with fail
    have hsame : decide (m = m) = true := decide_eq_true rfl
    go_region_held3 (fun W => W.cell? ⟨w.heap.size, 0, none⟩ = some (.int .i64 c) ∧ W.cell? ⟨w.heap.size, 1, none⟩ = some (.int .i64 a)) (go_keep)
      (first
        | (go_at_call 17; go_must (refine (opBegun_any _).mono ?_; rintro e w6 ⟨rfl, hb6⟩; have hb6 : Below w5.heap.size w5 w6 := ((Below.refl w5.heap.size w5).drew).trans hb6; obtain ⟨r0, r1⟩ := bcell hb6 w.heap.size (.int .i64 c) (.int .i64 a) hz5 q0 q1; have hx6 := hx5.below hb6; have hy6 := hy.below hb6; have hB6 := hB5.trans (hb6.mono hB5.size); have hz6 := Nat.lt_of_lt_of_le hz5 hb6.size; clear hb6))
        | (go_at_call 18; refine (check_any _ _ _).mono ?_; rintro e w7 ⟨rfl, hb7⟩; obtain ⟨t0, t1⟩ := bcell hb7 w.heap.size (.int .i64 c) (.int .i64 a) hz6 r0 r1; have hx7 := hx6.below hb7; have hy7 := hy6.below hb7; have hB7 := hB6.trans (hb7.mono hB6.size); have hz7 := Nat.lt_of_lt_of_le hz6 hb7.size; clear hb7)
        | (go_at_call 19; refine (checkOp_any _ _ _).mono ?_; rintro e w8 ⟨rfl, hb8⟩; obtain ⟨u0, u1⟩ := bcell hb8 w.heap.size (.int .i64 c) (.int .i64 a) hz7 t0 t1; have hx8 := hx7.below hb8; have hy8 := hy7.below hb8; have hB8 := hB7.trans (hb8.mono hB7.size); have hb8s := hb8.size; clear hb8)
        | (go_at_call 20; refine (wrap_any _ _).mono ?_; rintro e w9 ⟨rfl, hw⟩; have hw := hw.symm; subst hw)
        | (go_at_call 21; refine (wrapOf_any _ _ hn).mono ?_; rintro e w9 ⟨rfl, hw⟩; have hw := hw.symm; subst hw)
        | (go_at_call 22; refine (sameOps_any m m _ _ _ hx8 hy8).mono ?_; rintro e w10 ⟨rfl, hb10⟩; obtain ⟨y0, y1⟩ := bcell hb10 w.heap.size (.int .i64 c) (.int .i64 a) (Nat.lt_of_lt_of_le hz7 hb8s) u0 u1; have hB10 := hB8.trans (hb10.mono hB8.size)))
    go_wp2
    go_ret
    exact ⟨rfl, hB10⟩
  · have he' : (codeErr l == 0) = false := by simp [he]
    have hT0 : T = ⟨#[]⟩ := byteArray_ext (by rw [HT.out]; simp [encStr, he])
    subst hT0
    clear he
    go_wp2_with fail
    refine (codeOf_ex s hs _ m er HD.out).mono ?_
    rintro e w5 ⟨y, rfl, hy, hb5⟩
    obtain ⟨q0, q1⟩ := bcell hb5 _ _ _ hz3 q0 q1
    have hx5 := hx3.below hb5
    have hB5 := hB3.trans (hb5.mono hB3.size)
    have hz5 := Nat.lt_of_lt_of_le hz3 hb5.size
    clear hB3 hz3 hb5 hx3
    go_wp2_with fail
    have hsame : decide (m = m) = true := decide_eq_true rfl
    go_region_held3 (fun W => W.cell? ⟨w.heap.size, 0, none⟩ = some (.int .i64 c) ∧ W.cell? ⟨w.heap.size, 1, none⟩ = some (.int .i64 a)) (go_keep)
      (first
        | (go_at_call 17; go_must (refine (opBegun_any _).mono ?_; rintro e w6 ⟨rfl, hb6⟩; have hb6 : Below w5.heap.size w5 w6 := ((Below.refl w5.heap.size w5).drew).trans hb6; obtain ⟨r0, r1⟩ := bcell hb6 w.heap.size (.int .i64 c) (.int .i64 a) hz5 q0 q1; have hx6 := hx5.below hb6; have hy6 := hy.below hb6; have hB6 := hB5.trans (hb6.mono hB5.size); have hz6 := Nat.lt_of_lt_of_le hz5 hb6.size; clear hb6))
        | (go_at_call 18; refine (check_any _ _ _).mono ?_; rintro e w7 ⟨rfl, hb7⟩; obtain ⟨t0, t1⟩ := bcell hb7 w.heap.size (.int .i64 c) (.int .i64 a) hz6 r0 r1; have hx7 := hx6.below hb7; have hy7 := hy6.below hb7; have hB7 := hB6.trans (hb7.mono hB6.size); have hz7 := Nat.lt_of_lt_of_le hz6 hb7.size; clear hb7)
        | (go_at_call 19; refine (checkOp_any _ _ _).mono ?_; rintro e w8 ⟨rfl, hb8⟩; obtain ⟨u0, u1⟩ := bcell hb8 w.heap.size (.int .i64 c) (.int .i64 a) hz7 t0 t1; have hx8 := hx7.below hb8; have hy8 := hy7.below hb8; have hB8 := hB7.trans (hb8.mono hB7.size); have hb8s := hb8.size; clear hb8)
        | (go_at_call 20; refine (wrap_any _ _).mono ?_; rintro e w9 ⟨rfl, hw⟩; have hw := hw.symm; subst hw)
        | (go_at_call 21; refine (wrapOf_any _ _ hn).mono ?_; rintro e w9 ⟨rfl, hw⟩; have hw := hw.symm; subst hw)
        | (go_at_call 22; refine (sameOps_any m m _ _ _ hx8 hy8).mono ?_; rintro e w10 ⟨rfl, hb10⟩; obtain ⟨y0, y1⟩ := bcell hb10 w.heap.size (.int .i64 c) (.int .i64 a) (Nat.lt_of_lt_of_le hz7 hb8s) u0 u1; have hB10 := hB8.trans (hb10.mono hB8.size)))
    go_wp2
    go_ret
    exact ⟨rfl, hB10⟩
set_option maxRecDepth 100000 in
theorem lifted (os : Os) (started : os.Started) (H : Type) (enc : TypeId × Value → H) :
    ReturnsInHanded {} Try.checked os 3 .any (Rows.opTellsSpec.pre6 enc Try.prog Try.f3 Rows.opTellsRow.domain false) (Rows.opTellsSpec.post enc Try.prog Try.f3 false true false false) := by
  refine returnsInHanded_of_change_sized (C := Try.checked) own started (by kernel_rfl) Try.func3
    (ChangeSpec.witness6 (enc := enc) (C := Try.checked) false ⟨#[], #[.agg #[.int .i64 0, .int .i64 0], .int .i64 0, .slice none 0 0, .string ⟨#[]⟩], []⟩ 8 (by kernel_rfl) (by kernel_rfl) (by kernel_rfl) (by kernel_rfl)) ?_
  intro W base args ds gs before hval0 hW hcnd hsz0 hholds
  have hval : ∀ (j : Nat) t v, Try.f3.params[j]? = some t → args[j]? = some v → Value.okWide Try.prog W .any base t v := hval0
  have hsz : (DataW.weightsEach Try.prog (Try.f3.params.toList ++ Rows.opTellsSpec.plain.varTypes Try.prog) (ds ++ gs)).all (· ≤ reachBytes) = true := hsz0
  have hW' := hW
  obtain ⟨p, q, hA0, hV, rfl, hfz, hnd⟩ := hW
  have hA : DataW.TrodAll enc Try.prog W 0 (fun _ => true) true Try.f3.params.toList args.toList ds p := hA0
  rw [Try.params3] at hA hval hsz
  obtain ⟨v0, vs0, d0, ds0, p0, q0, hargs, rfl, rfl, h0, r0⟩ := trodAll_cons hA
  obtain ⟨v1, vs1, d1, ds1, p1, q1, rfl, rfl, rfl, h1, r1⟩ := trodAll_cons r0
  obtain ⟨v2, vs2, d2, ds2, p2, q2, rfl, rfl, rfl, h2, r2⟩ := trodAll_cons r1
  obtain ⟨v3, vs3, d3, ds3, p3, q3, rfl, rfl, rfl, h3, r3⟩ := trodAll_cons r2
  obtain ⟨rfl, rfl, rfl⟩ := trodAll_nil r3
  obtain rfl : args = #[v0, v1, v2, v3] := by cases args; simp_all
  obtain ⟨rfl, rfl⟩ := trodVars_none hV
  have k0 := h0
  have k1 := h1
  have k2 := h2
  have k3 := h3
  have lt0 : ∀ x ∈ p0, x.block < W.heap.size := by obtain ⟨m, hm⟩ := k0; exact DataW.trod_lt m _ _ _ hm
  have lt1 : ∀ x ∈ p1, x.block < W.heap.size := by obtain ⟨m, hm⟩ := k1; exact DataW.trod_lt m _ _ _ hm
  have lt2 : ∀ x ∈ p2, x.block < W.heap.size := by obtain ⟨m, hm⟩ := k2; exact DataW.trod_lt m _ _ _ hm
  have lt3 : ∀ x ∈ p3, x.block < W.heap.size := by obtain ⟨m, hm⟩ := k3; exact DataW.trod_lt m _ _ _ hm
  obtain ⟨c0, c1, y0, y1, m, rfl, hd0, hp0, hy0, hy1⟩ := Joins.open_agg2 Try.underlying23 (by kernel_rfl) (by kernel_rfl) (hval 0 23 v0 rfl rfl) h0
  obtain ⟨c, e0, _, wc⟩ := DataW.trod_int Try.underlying3 hy0
  obtain ⟨a, e1, _, wa⟩ := DataW.trod_int Try.underlying3 hy1
  simp at e0 e1
  subst e0 e1
  obtain ⟨n, rfl, hd1, hp1, wn⟩ := open_int Try.underlying3 (hval 1 3 v1 rfl rfl) h1
  obtain ⟨l, hl, nl, _, _⟩ := open_ops (okWide_slice Try.underlying24 (hval 2 24 v2 rfl rfl)) h2
  obtain ⟨s, rfl, hd3, hp3, hs⟩ := open_string Try.underlying9 (hval 3 9 v3 rfl rfl) h3
  have hn : -9223372036854775808 ≤ n ∧ n ≤ 9223372036854775807 := by
    simpa [Lit.wf, IntKind.min, IntKind.max, IntKind.bits, IntKind.signed] using wn
  have hreach : s.size ≤ 140737488351232 := by
    subst hd3
    have hx := sized_string hsz (j := 3) (t := 9) rfl rfl
    simp only [reachBytes] at hx
    rw [Array.length_toList] at hx
    exact hx
  clear hA0 hval0 hsz0
  refine (walk c a n l v2 s W hl hn hreach).mono fun e W' ⟨he, bel⟩ => ?_
  subst he
  exact ⟨_, rfl, _, _, _, [], _, [], hW', trodAll_mk1 (shut_bool Try.underlying4 _), (trodAll_cons_mk (Below.trod laidOut (by kernel_rfl) (of_decide_eq_true (by kernel_rfl)) k0 bel lt0) (trodAll_cons_mk (Below.trod laidOut (by kernel_rfl) (of_decide_eq_true (by kernel_rfl)) k1 bel lt1) (trodAll_cons_mk (Below.trod laidOut (by kernel_rfl) (of_decide_eq_true (by kernel_rfl)) k2 bel lt2) (trodAll_cons_mk (Below.trod laidOut (by kernel_rfl) (of_decide_eq_true (by kernel_rfl)) k3 bel lt3) trodAll_mk0)))), rfl, bel.frame _, fun h => by cases h⟩
theorem over : Rows.opTellsRow.holds Try.pinned (OpenSpec.ofChange Rows.opTellsSpec) :=
  OpenClaim.holds_of_wide 3 Try.f3 rfl rfl rfl rfl rfl rfl rfl ⟨rfl, rfl, rfl, rfl, rfl⟩ rfl rfl rfl rfl rfl (by kernel_rfl) Try.func3 (by kernel_rfl)
    (of_decide_eq_true (by kernel_rfl)) (by unfold Func.isWrapper; first | (rw [if_pos (by decide +kernel)]; kernel_rfl) | (rw [if_neg (by decide +kernel)]; exact ⟨rfl, rfl⟩))
    (fun os started H enc _ => lifted os started H enc)
end Go.Proofs.Ytjcaapgecimooaa.opTells
namespace Go.Proofs.Ytjcaapgecimooaa
/-- For every op, int, slice of ops and string the law OpTells returns true, and they read as they did. -/
theorem opTells_holds : Rows.OpTellsSaid := opTells.over
end Go.Proofs.Ytjcaapgecimooaa

