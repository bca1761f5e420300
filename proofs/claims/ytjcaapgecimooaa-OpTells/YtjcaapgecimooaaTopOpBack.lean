/- What is encoded is decoded as it was, and what is decoded is encoded as it was; two are told side by side: for every two slices of ops and every string OpBack returns true. No condition. -/
import Derived.Test.YtjcaapgecimooaaU2
import Derived.Test.YtjcaapgecimooaaU3
import Derived.ProofKit
import Derived.OpenShut
import Derived.ShutString
import Derived.ChangeOld
import Derived.SizedLaws
import Derived.Deep.SlicePairs
namespace Go.Proofs.Ytjcaapgecimooaa.opBack
open Go.ChangeShapes Go.WideShapes Go.ChangeAt Go.RowKit
open Go.ChangeMaps (open_string shut_string)
set_option linter.unusedVariables false
set_option linter.unusedSimpArgs false
theorem own : ownKnob Try.prog.godebug = none := by kernel_rfl
theorem laidOut : laidOutB Try.prog = true := by kernel_rfl
theorem decode_ex (s : ByteArray) (hm : s.size ≤ maxLen) (w : World) (m : List (Int × Int)) (er : Int) (h : dec (items s.size s.data.toList) [] = (m, er)) :
    Calls Try.prog 13 #[.string s] w fun e w' => ∃ v, e = .returned (.tuple #[v, .int .i64 er]) ∧ OpsAt w' v m ∧ Below w.heap.size w w' := by
  have := decode_any s hm w
  rw [h] at this
  exact this
theorem row_low {w : World} {base : Nat} {e : TypeId} {size : Nat} {v : Value} {n : Nat} {xs : List Value} (h : w.ownsRow base e size v n xs) : ∀ k, v.ownBlock = some k → base ≤ k := by
  intro k hk
  rcases h.2 with ⟨rfl, _⟩ | ⟨g, cap, cur, rfl, hb, _⟩
  · simp [Value.ownBlock] at hk
  · obtain rfl : g = k := by simpa [Value.ownBlock] using hk
    exact hb
theorem byteArray_ext {a b : ByteArray} (h : a.data.toList = b.data.toList) : a = b := by
  cases a; cases b; congr 1; exact Array.toList_inj.1 h
theorem encStr_le (l : List (Int × Int)) : (encStr l).length ≤ 5 * l.length := by
  unfold encStr; split
  · exact codeBytes_le l
  · simp
set_option maxHeartbeats 4000000 in
theorem walkA (l more : List (Int × Int)) (v u : Value) (s : ByteArray) (w : World) (hl : OpsAt w v l) (hu : OpsAt w u more) (nl : NilOk v) (nu : NilOk u) (hreach : more.length * 16 ≤ 140737488351232) (hs : s.size ≤ maxLen)
    (er : Int) (her : (er != 0) = true) (HD : Hid (dec (items s.size s.data.toList) [] = ([], er))) :
    Calls Try.prog 4 #[v, u, .string s] w fun e w' => e = .returned (.bool true) ∧ Below w.heap.size w w' := by
  go_enter Try.func4, Try.ntmps4
  go_wp2_with fail
  refine (opBegun_any _).mono ?_
  rintro e w1 ⟨rfl, hb1⟩
  go_wp2_with fail
  refine (encode_ex l v w1 (hl.below hb1)).mono ?_
  rintro e w2 ⟨T, rfl, hT, hb2⟩
  have hB2 := hb1.trans (hb2.mono hb1.size)
  clear hb1 hb2
  have HT : Hid (T.data.toList = encStr l) := hT
  clear hT
  by_cases he : codeErr l = 0
  · have HE : Hid (codeErr l = 0) := he
    have HDT : Hid (dec (items T.size T.data.toList) [] = (l, 0)) := by
      show _ = _
      have e1 : T.data.toList = codeBytes l := by rw [HT.out]; simp [encStr, he]
      rw [e1]
      exact dec_enc l _ (by rw [← e1, Array.length_toList]; exact Nat.le_refl _) he
    rw [he]
    clear he
    go_wp2_with fail
    refine (decode_ex T (by have := (congrArg List.length HT.out); rw [Array.length_toList] at this; have h5 := encStr_le l; unfold maxLen; show T.data.size ≤ _; have := (codeErr_zero l HE.out).1; omega) _ l 0 HDT.out).mono ?_
    rintro e w3 ⟨x3, rfl, hx3, hb3⟩
    have hl3 := (hl.below hB2).below hb3
    have hB3 := hB2.trans (hb3.mono hB2.size)
    clear hb3
    go_wp2_with fail
    refine (sameOps_any l l x3 v w3 hx3 hl3).mono ?_
    rintro e w4 ⟨rfl, hb4⟩
    have hB4 := hB3.trans (hb4.mono hB3.size)
    clear hb4 hx3 hl3
    rw [decide_eq_true rfl]
    go_wp2_with fail
    refine (encode_ex more u w4 (hu.below hB4)).mono ?_
    rintro e w5 ⟨T5, rfl, hT5, hb5⟩
    have HT5 : Hid (T5.data.toList = encStr more) := hT5
    have hB5 := hB4.trans (hb5.mono hB4.size)
    clear hb5 hT5
    have hrow0 : (w5.alloc (.cells #[] 23)).ownsRow w.heap.size 23 2 (.slice (some ⟨w5.heap.size, 0, none⟩) 0 0) 0 [] := ⟨rfl, .inr ⟨w5.heap.size, 0, #[], rfl, hB5.size, World.alloc_heap_new w5 _, Nat.le_refl _, Nat.zero_le _, rfl, rfl⟩⟩
    have hB6 := hB5.alloc hB5.size (.cells #[] 23)
    have hl6 := hl.below hB6
    have hlen40 := (codeErr_zero l HE.out).1
    have tok1 : True := trivial
    have tok2 : True := trivial
    have hm1 : 0 + l.length ≤ maxLen := by unfold maxLen; omega
    have hm2 : (0 + l.length) * 16 ≤ 140737488355328 := by omega
    have hm3 : 0 + l.length + more.length ≤ maxLen := by unfold maxLen; omega
    have hm4 : (0 + l.length + more.length) * 16 ≤ 140737488355328 := by omega
    go_wp2_with (first | (at_builtin; have _t := tok1; refine wpList_append_ops rfl _ _ rfl w.heap.size _ 0 [] rfl hrow0 v l rfl hl6 nl hm1 hm2 hB6.size ?_; intro v7 w7 hrow7 hg7; clear tok1; have hB7 := hB6.grown hg7 hB6.size (row_low hrow0); have hu7 := hu.below hB7) | (at_builtin; have _t := tok2; refine wpList_append_ops rfl _ _ rfl w.heap.size _ (0 + l.length) _ rfl hrow7 u more rfl hu7 nu hm3 hm4 hB7.size ?_; intro v77 w77 hrow77 hg77; clear tok2; have hB77 := hB7.grown hg77 hB7.size (row_low hrow7)))
    have hop : OpsAt w77 v77 (l ++ more) := opsAt_of_row (base := w.heap.size) (by
      have e1 : [] ++ opCells l ++ opCells more = opCells (l ++ more) := by simp [opCells]
      have e2 : 0 + l.length + more.length = (l ++ more).length := by simp
      rw [e1, e2] at hrow77
      exact hrow77)
    refine (encode_ex (l ++ more) v77 w77 hop).mono ?_
    rintro e w8 ⟨T8, rfl, hT8, hb8⟩
    have HT8 : Hid (T8.data.toList = encStr (l ++ more)) := hT8
    have hBx := hB77.trans (hb8.mono hB77.size)
    clear hb8 hT8 hop hrow77 hg77 hB77 hrow7 hg7 hB7 hu7 hrow0 hB6 hl6
    by_cases hf : codeErr more = 0
    · have hf' : (codeErr more == 0) = true := by simp [hf]
      by_cases hg : codeErr (l ++ more) = 0
      · have hg' : (codeErr (l ++ more) == 0) = true := by simp [hg]
        have hT8 : T8 = T ++ T5 := byteArray_ext (by
          rw [HT8.out, ByteArray.data_append, Array.toList_append, HT.out, HT5.out]
          simp only [encStr, hg, hf, HE.out, if_true]
          exact codeBytes_append l more)
        have hsum : T.size + T5.size ≤ 9223372036854775807 := by
          have e1 : T.size = (encStr l).length := by rw [← HT.out]; simp
          have e2 : T5.size = (encStr more).length := by rw [← HT5.out]; simp
          have h1 := encStr_le l
          have h2 := encStr_le more
          omega
        have hadd := fun (w : World) => run_string_add_sum (P := Try.prog) (w := w) T T5 hsum
        subst hT8
        clear hf hg
        go_wp2_with fail
        refine (decode_ex s hs _ [] er HD.out).mono ?_
        rintro e w8 ⟨x, rfl, hx, hb8⟩
        obtain ⟨px, cx, hxe, _, _⟩ := hx
        subst hxe
        go_wp2
        go_ret
        exact ⟨rfl, hBx.trans (hb8.mono hBx.size)⟩
      · have hg' : (codeErr (l ++ more) == 0) = false := by simp [hg]
        clear hf hg
        go_wp2_with fail
        refine (decode_ex s hs _ [] er HD.out).mono ?_
        rintro e w8 ⟨x, rfl, hx, hb8⟩
        obtain ⟨px, cx, hxe, _, _⟩ := hx
        subst hxe
        go_wp2
        go_ret
        exact ⟨rfl, hBx.trans (hb8.mono hBx.size)⟩
    · have hf' : (codeErr more == 0) = false := by simp [hf]
      clear hf
      go_wp2_with fail
      refine (decode_ex s hs _ [] er HD.out).mono ?_
      rintro e w8 ⟨x, rfl, hx, hb8⟩
      obtain ⟨px, cx, hxe, _, _⟩ := hx
      subst hxe
      go_wp2
      go_ret
      exact ⟨rfl, hBx.trans (hb8.mono hBx.size)⟩
  · have he' : (codeErr l == 0) = false := by simp [he]
    clear he
    go_wp2_with fail
    refine (decode_ex s hs _ [] er HD.out).mono ?_
    rintro e w8 ⟨x, rfl, hx, hb8⟩
    obtain ⟨px, cx, hxe, _, _⟩ := hx
    subst hxe
    go_wp2
    go_ret
    exact ⟨rfl, hB2.trans (hb8.mono hB2.size)⟩
set_option maxHeartbeats 4000000 in
theorem walkB (l more : List (Int × Int)) (v u : Value) (s : ByteArray) (w : World) (hl : OpsAt w v l) (hu : OpsAt w u more) (nl : NilOk v) (nu : NilOk u) (hreach : more.length * 16 ≤ 140737488351232) (hs : s.size ≤ maxLen)
    (m : List (Int × Int)) (HD : Hid (dec (items s.size s.data.toList) [] = (m, 0))) (HM : Hid (codeErr m = 0)) (HS : Hid (encStr m = s.data.toList)) :
    Calls Try.prog 4 #[v, u, .string s] w fun e w' => e = .returned (.bool true) ∧ Below w.heap.size w w' := by
  go_enter Try.func4, Try.ntmps4
  go_wp2_with fail
  refine (opBegun_any _).mono ?_
  rintro e w1 ⟨rfl, hb1⟩
  go_wp2_with fail
  refine (encode_ex l v w1 (hl.below hb1)).mono ?_
  rintro e w2 ⟨T, rfl, hT, hb2⟩
  have hB2 := hb1.trans (hb2.mono hb1.size)
  clear hb1 hb2
  have HT : Hid (T.data.toList = encStr l) := hT
  clear hT
  by_cases he : codeErr l = 0
  · have HE : Hid (codeErr l = 0) := he
    have HDT : Hid (dec (items T.size T.data.toList) [] = (l, 0)) := by
      show _ = _
      have e1 : T.data.toList = codeBytes l := by rw [HT.out]; simp [encStr, he]
      rw [e1]
      exact dec_enc l _ (by rw [← e1, Array.length_toList]; exact Nat.le_refl _) he
    rw [he]
    clear he
    go_wp2_with fail
    refine (decode_ex T (by have := (congrArg List.length HT.out); rw [Array.length_toList] at this; have h5 := encStr_le l; unfold maxLen; show T.data.size ≤ _; have := (codeErr_zero l HE.out).1; omega) _ l 0 HDT.out).mono ?_
    rintro e w3 ⟨x3, rfl, hx3, hb3⟩
    have hl3 := (hl.below hB2).below hb3
    have hB3 := hB2.trans (hb3.mono hB2.size)
    clear hb3
    go_wp2_with fail
    refine (sameOps_any l l x3 v w3 hx3 hl3).mono ?_
    rintro e w4 ⟨rfl, hb4⟩
    have hB4 := hB3.trans (hb4.mono hB3.size)
    clear hb4 hx3 hl3
    rw [decide_eq_true rfl]
    go_wp2_with fail
    refine (encode_ex more u w4 (hu.below hB4)).mono ?_
    rintro e w5 ⟨T5, rfl, hT5, hb5⟩
    have HT5 : Hid (T5.data.toList = encStr more) := hT5
    have hB5 := hB4.trans (hb5.mono hB4.size)
    clear hb5 hT5
    have hrow0 : (w5.alloc (.cells #[] 23)).ownsRow w.heap.size 23 2 (.slice (some ⟨w5.heap.size, 0, none⟩) 0 0) 0 [] := ⟨rfl, .inr ⟨w5.heap.size, 0, #[], rfl, hB5.size, World.alloc_heap_new w5 _, Nat.le_refl _, Nat.zero_le _, rfl, rfl⟩⟩
    have hB6 := hB5.alloc hB5.size (.cells #[] 23)
    have hl6 := hl.below hB6
    have hlen40 := (codeErr_zero l HE.out).1
    have tok1 : True := trivial
    have tok2 : True := trivial
    have hm1 : 0 + l.length ≤ maxLen := by unfold maxLen; omega
    have hm2 : (0 + l.length) * 16 ≤ 140737488355328 := by omega
    have hm3 : 0 + l.length + more.length ≤ maxLen := by unfold maxLen; omega
    have hm4 : (0 + l.length + more.length) * 16 ≤ 140737488355328 := by omega
    go_wp2_with (first | (at_builtin; have _t := tok1; refine wpList_append_ops rfl _ _ rfl w.heap.size _ 0 [] rfl hrow0 v l rfl hl6 nl hm1 hm2 hB6.size ?_; intro v7 w7 hrow7 hg7; clear tok1; have hB7 := hB6.grown hg7 hB6.size (row_low hrow0); have hu7 := hu.below hB7) | (at_builtin; have _t := tok2; refine wpList_append_ops rfl _ _ rfl w.heap.size _ (0 + l.length) _ rfl hrow7 u more rfl hu7 nu hm3 hm4 hB7.size ?_; intro v77 w77 hrow77 hg77; clear tok2; have hB77 := hB7.grown hg77 hB7.size (row_low hrow7)))
    have hop : OpsAt w77 v77 (l ++ more) := opsAt_of_row (base := w.heap.size) (by
      have e1 : [] ++ opCells l ++ opCells more = opCells (l ++ more) := by simp [opCells]
      have e2 : 0 + l.length + more.length = (l ++ more).length := by simp
      rw [e1, e2] at hrow77
      exact hrow77)
    refine (encode_ex (l ++ more) v77 w77 hop).mono ?_
    rintro e w8 ⟨T8, rfl, hT8, hb8⟩
    have HT8 : Hid (T8.data.toList = encStr (l ++ more)) := hT8
    have hBx := hB77.trans (hb8.mono hB77.size)
    clear hb8 hT8 hop hrow77 hg77 hB77 hrow7 hg7 hB7 hu7 hrow0 hB6 hl6
    by_cases hf : codeErr more = 0
    · have hf' : (codeErr more == 0) = true := by simp [hf]
      by_cases hg : codeErr (l ++ more) = 0
      · have hg' : (codeErr (l ++ more) == 0) = true := by simp [hg]
        have hT8 : T8 = T ++ T5 := byteArray_ext (by
          rw [HT8.out, ByteArray.data_append, Array.toList_append, HT.out, HT5.out]
          simp only [encStr, hg, hf, HE.out, if_true]
          exact codeBytes_append l more)
        have hsum : T.size + T5.size ≤ 9223372036854775807 := by
          have e1 : T.size = (encStr l).length := by rw [← HT.out]; simp
          have e2 : T5.size = (encStr more).length := by rw [← HT5.out]; simp
          have h1 := encStr_le l
          have h2 := encStr_le more
          omega
        have hadd := fun (w : World) => run_string_add_sum (P := Try.prog) (w := w) T T5 hsum
        subst hT8
        clear hf hg
        go_wp2_with fail
        refine (decode_ex s hs _ m 0 HD.out).mono ?_
        rintro e w8 ⟨x, rfl, hx, hb8⟩
        have hB8 := hBx.trans (hb8.mono hBx.size)
        clear hb8
        go_wp2_with fail
        refine (encode_ex m x w8 hx).mono ?_
        rintro e w9 ⟨T9, rfl, hT9, hb9⟩
        have h9 : T9 = s := byteArray_ext (hT9.trans HS.out)
        subst h9
        rw [HM.out]
        go_wp2
        go_ret
        exact ⟨rfl, hB8.trans (hb9.mono hB8.size)⟩
      · have hg' : (codeErr (l ++ more) == 0) = false := by simp [hg]
        clear hf hg
        go_wp2_with fail
        refine (decode_ex s hs _ m 0 HD.out).mono ?_
        rintro e w8 ⟨x, rfl, hx, hb8⟩
        have hB8 := hBx.trans (hb8.mono hBx.size)
        clear hb8
        go_wp2_with fail
        refine (encode_ex m x w8 hx).mono ?_
        rintro e w9 ⟨T9, rfl, hT9, hb9⟩
        have h9 : T9 = s := byteArray_ext (hT9.trans HS.out)
        subst h9
        rw [HM.out]
        go_wp2
        go_ret
        exact ⟨rfl, hB8.trans (hb9.mono hB8.size)⟩
    · have hf' : (codeErr more == 0) = false := by simp [hf]
      clear hf
      go_wp2_with fail
      refine (decode_ex s hs _ m 0 HD.out).mono ?_
      rintro e w8 ⟨x, rfl, hx, hb8⟩
      have hB8 := hBx.trans (hb8.mono hBx.size)
      clear hb8
      go_wp2_with fail
      refine (encode_ex m x w8 hx).mono ?_
      rintro e w9 ⟨T9, rfl, hT9, hb9⟩
      have h9 : T9 = s := byteArray_ext (hT9.trans HS.out)
      subst h9
      rw [HM.out]
      go_wp2
      go_ret
      exact ⟨rfl, hB8.trans (hb9.mono hB8.size)⟩
  · have he' : (codeErr l == 0) = false := by simp [he]
    clear he
    go_wp2_with fail
    refine (decode_ex s hs _ m 0 HD.out).mono ?_
    rintro e w8 ⟨x, rfl, hx, hb8⟩
    have hB8 := hB2.trans (hb8.mono hB2.size)
    clear hb8
    go_wp2_with fail
    refine (encode_ex m x w8 hx).mono ?_
    rintro e w9 ⟨T9, rfl, hT9, hb9⟩
    have h9 : T9 = s := byteArray_ext (hT9.trans HS.out)
    subst h9
    rw [HM.out]
    go_wp2
    go_ret
    exact ⟨rfl, hB8.trans (hb9.mono hB8.size)⟩
theorem walk (l more : List (Int × Int)) (v u : Value) (s : ByteArray) (w : World) (hl : OpsAt w v l) (hu : OpsAt w u more) (nl : NilOk v) (nu : NilOk u) (hreach : more.length * 16 ≤ 140737488351232) (hs : s.size ≤ maxLen) :
    Calls Try.prog 4 #[v, u, .string s] w fun e w' => e = .returned (.bool true) ∧ Below w.heap.size w w' := by
  have hd := enc_dec s.size s.data.toList (by simp)
  obtain ⟨⟨m, er⟩, he⟩ : ∃ x, dec (items s.size s.data.toList) [] = x := ⟨_, rfl⟩
  rw [he] at hd
  rcases hd with ⟨h1, h2⟩ | ⟨h1, h2, h3⟩
  · simp only at h1 h2
    subst h2
    exact walkA l more v u s w hl hu nl nu hreach hs er (by simpa using h1) he
  · simp only at h1 h2 h3
    subst h1
    exact walkB l more v u s w hl hu nl nu hreach hs m he h2 (by show encStr m = _; simp [encStr, h2, h3])
/-- a slice of ops that came in. -/
theorem open_ops {H : Type} {enc : TypeId × Value → H} {W : World} {v : Value} {d : DataW H} {p : List MemPlace} (hv : ∃ a len cap, v = .slice a len cap) (h : DataW.Trod enc Try.prog W 0 (fun _ => true) true 24 v d p) :
    ∃ l : List (Int × Int), OpsAt W v l ∧ NilOk v ∧ (l = [] ∨ ∃ es sp, d = .slice es sp ∧ l.length ≤ es.length + sp.length) ∧ ∀ o ∈ l, (Lit.int .i64 o.1).wf = true ∧ (Lit.int .i64 o.2).wf = true := by
  obtain ⟨ao, len, cap, rfl⟩ := hv
  obtain ⟨fuel, hf⟩ := h
  rcases Deep.open_slice_pairs Try.underlying24 Try.underlying23 (by kernel_rfl) rfl rfl (by kernel_rfl) (by kernel_rfl) hf with ⟨hcs, hx⟩ | ⟨a, len', cap', m, n, V0, V1, D0, D1, P0, P1, hcs, hb, hl, hm, hmm, hx, hc⟩
  · simp [Value.cells] at hcs
    obtain ⟨rfl, rfl, rfl⟩ := hcs
    exact ⟨[], ⟨none, 0, rfl, Nat.zero_le _, fun k o hk => by simp at hk⟩, fun n c h => by cases h; rfl, .inl rfl, fun o ho => by simp at ho⟩
  · simp [Value.cells] at hcs
    obtain ⟨rfl, rfl, rfl⟩ := hcs
    simp only [if_true] at hmm
    subst hmm
    have hval : ∀ i, i < m → ∃ x y : Int, V0 i = .int .i64 x ∧ V1 i = .int .i64 y ∧ (Lit.int .i64 x).wf = true ∧ (Lit.int .i64 y).wf = true := by
      intro i hi
      obtain ⟨_, _, t0, t1⟩ := hc i hi
      obtain ⟨x, e0, _, wx⟩ := DataW.trod_int Try.underlying3 t0
      obtain ⟨y, e1, _, wy⟩ := DataW.trod_int Try.underlying3 t1
      simp at e0 e1
      exact ⟨x, y, e0, e1, wx, wy⟩
    refine ⟨(List.range len).map fun i => (intOf (V0 i), intOf (V1 i)), ⟨some a, m, by simp, by simp; omega, fun k o hk => ?_⟩, (fun n c h => by cases h), .inr ⟨_, _, (Prod.mk.inj hx).1, by simp⟩, ?_⟩
    · have hk1 : k < len := by have := lt_of_at' hk; simpa using this
      have ho : o = (intOf (V0 k), intOf (V1 k)) := by simp [hk1] at hk; exact hk.symm
      obtain ⟨x, y, e0, e1, _, _⟩ := hval k (by omega)
      obtain ⟨c0, c1, _, _⟩ := hc k (by omega)
      obtain ⟨b, off, spot⟩ := a
      have hs0 := (hc 0 (by omega)).1
      have hspot : spot = none := by simpa [Addr.add] using World.cell?_spot hs0
      subst hspot
      rw [add_at] at c0 c1
      rw [e0] at c0
      rw [e1] at c1
      refine ⟨b, off, rfl, ?_, by rw [ho, e0]; exact c0, by rw [ho, e1]; exact c1⟩
      rcases Nat.lt_or_ge b W.heap.size with h' | h'
      · exact h'
      · simp [World.cell?, Array.getElem?_eq_none h'] at c0
    · intro o ho
      obtain ⟨i, hi, rfl⟩ := List.mem_map.1 ho
      obtain ⟨x, y, e0, e1, wx, wy⟩ := hval i (by have := List.mem_range.1 hi; omega)
      simp only [e0, e1, intOf]
      exact ⟨wx, wy⟩
set_option maxRecDepth 100000 in
theorem lifted (os : Os) (started : os.Started) (H : Type) (enc : TypeId × Value → H) :
    ReturnsInHanded {} Try.checked os 4 .any (Rows.opBackSpec.pre6 enc Try.prog Try.f4 Rows.opBackRow.domain false) (Rows.opBackSpec.post enc Try.prog Try.f4 false true false false) := by
  refine returnsInHanded_of_change_sized (C := Try.checked) own started (by kernel_rfl) Try.func4
    (ChangeSpec.witness6 (enc := enc) (C := Try.checked) false ⟨#[], #[.slice none 0 0, .slice none 0 0, .string ⟨#[]⟩], []⟩ 8 (by kernel_rfl) (by kernel_rfl) (by kernel_rfl) (by kernel_rfl)) ?_
  intro W base args ds gs before hval0 hW hcnd hsz0 hholds
  have hval : ∀ (j : Nat) t v, Try.f4.params[j]? = some t → args[j]? = some v → Value.okWide Try.prog W .any base t v := hval0
  have hsz : (DataW.weightsEach Try.prog (Try.f4.params.toList ++ Rows.opBackSpec.plain.varTypes Try.prog) (ds ++ gs)).all (· ≤ reachBytes) = true := hsz0
  have hW' := hW
  obtain ⟨p, q, hA0, hV, rfl, hfz, hnd⟩ := hW
  have hA : DataW.TrodAll enc Try.prog W 0 (fun _ => true) true Try.f4.params.toList args.toList ds p := hA0
  rw [Try.params4] at hA hval hsz
  obtain ⟨v0, vs0, d0, ds0, p0, q0, hargs, rfl, rfl, h0, r0⟩ := trodAll_cons hA
  obtain ⟨v1, vs1, d1, ds1, p1, q1, rfl, rfl, rfl, h1, r1⟩ := trodAll_cons r0
  obtain ⟨v2, vs2, d2, ds2, p2, q2, rfl, rfl, rfl, h2, r2⟩ := trodAll_cons r1
  obtain ⟨rfl, rfl, rfl⟩ := trodAll_nil r2
  obtain rfl : args = #[v0, v1, v2] := by cases args; simp_all
  obtain ⟨rfl, rfl⟩ := trodVars_none hV
  have k0 := h0
  have k1 := h1
  have k2 := h2
  have lt0 : ∀ x ∈ p0, x.block < W.heap.size := by obtain ⟨m, hm⟩ := k0; exact DataW.trod_lt m _ _ _ hm
  have lt1 : ∀ x ∈ p1, x.block < W.heap.size := by obtain ⟨m, hm⟩ := k1; exact DataW.trod_lt m _ _ _ hm
  have lt2 : ∀ x ∈ p2, x.block < W.heap.size := by obtain ⟨m, hm⟩ := k2; exact DataW.trod_lt m _ _ _ hm
  obtain ⟨l, hl, nl, _, _⟩ := open_ops (okWide_slice Try.underlying24 (hval 0 24 v0 rfl rfl)) h0
  obtain ⟨more, hmo, nmo, hlen, _⟩ := open_ops (okWide_slice Try.underlying24 (hval 1 24 v1 rfl rfl)) h1
  have hreach : more.length * 16 ≤ 140737488351232 := by
    rcases hlen with rfl | ⟨es, sp, rfl, hle⟩
    · simp
    · have hs := sized_slice hsz (j := 1) (t := 24) (e := 23) rfl rfl Try.underlying24
      have hb : Try.prog.bytesOf 23 = 16 := by kernel_rfl
      rw [hb] at hs
      simp only [reachBytes] at hs
      omega
  obtain ⟨s, rfl, hd2, hp2, hs⟩ := open_string Try.underlying9 (hval 2 9 v2 rfl rfl) h2
  clear hA0 hval0 hsz0
  refine (walk l more v0 v1 s W hl hmo nl nmo hreach hs).mono fun e W' ⟨he, bel⟩ => ?_
  subst he
  exact ⟨_, rfl, _, _, _, [], _, [], hW', trodAll_mk1 (shut_bool Try.underlying4 _), (trodAll_cons_mk (Below.trod laidOut (by kernel_rfl) (of_decide_eq_true (by kernel_rfl)) k0 bel lt0) (trodAll_cons_mk (Below.trod laidOut (by kernel_rfl) (of_decide_eq_true (by kernel_rfl)) k1 bel lt1) (trodAll_cons_mk (Below.trod laidOut (by kernel_rfl) (of_decide_eq_true (by kernel_rfl)) k2 bel lt2) trodAll_mk0))), rfl, bel.frame _, fun h => by cases h⟩
theorem over : Rows.opBackRow.holds Try.pinned (OpenSpec.ofChange Rows.opBackSpec) :=
  OpenClaim.holds_of_wide 4 Try.f4 rfl rfl rfl rfl rfl rfl rfl ⟨rfl, rfl, rfl, rfl, rfl⟩ rfl rfl rfl rfl rfl (by kernel_rfl) Try.func4 (by kernel_rfl)
    (of_decide_eq_true (by kernel_rfl)) (by unfold Func.isWrapper; first | (rw [if_pos (by decide +kernel)]; kernel_rfl) | (rw [if_neg (by decide +kernel)]; exact ⟨rfl, rfl⟩))
    (fun os started H enc _ => lifted os started H enc)
end Go.Proofs.Ytjcaapgecimooaa.opBack
namespace Go.Proofs.Ytjcaapgecimooaa
/-- For every two slices of ops and every string the law OpBack returns true, and they read as they did. -/
theorem opBack_holds : Rows.OpBackSaid := opBack.over
end Go.Proofs.Ytjcaapgecimooaa

