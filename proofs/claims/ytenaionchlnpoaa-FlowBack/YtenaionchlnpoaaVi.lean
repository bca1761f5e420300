/- prog.Decode. -/
import Derived.Test.YtenaionchlnpoaaVh
namespace Go.Proofs.Ytenaionchlnpoaa
open Go.RowKit
set_option linter.unusedSimpArgs false
set_option linter.unusedVariables false
theorem fnsAt_nil (W : World) : FnsAt W (.slice none 0 0) [] := ⟨none, 0, rfl, Nat.zero_le _, fun k f h => by simp at h⟩
set_option maxRecDepth 100000 in
set_option maxHeartbeats 8000000 in
theorem progDecode_any (s : ByteArray) (hs : s.size ≤ maxLen) (w : World) : Calls Try.prog 21 #[.string s] w fun e w' => ∃ v, e = .returned (.tuple #[.agg #[v], .int .i64 (decProg s.data.toList).2]) ∧ FnsAt w' v (decProg s.data.toList).1 ∧ Below w.heap.size w w' := by
  unfold maxLen at hs
  have g1 := heap_new w (.cells #[.slice none 0 0] 41)
  have hB1 : Below w.heap.size w (w.alloc (.cells #[.slice none 0 0] 41)) := (Below.refl _ w).alloc (Nat.le_refl _) _
  obtain ⟨W1, hW1⟩ : ∃ W, w.alloc (.cells #[.slice none 0 0] 41) = W := ⟨_, rfl⟩
  rw [hW1] at g1 hB1
  have hl1 := heap_lt g1
  have d1 := cell_at' g1 0
  have z1 := Lib.frozen_of_heap g1 0
  simp at d1
  have hlen : s.data.toList.length = s.size := by simp
  by_cases hbig : 2000 < s.size
  · have hbig' : (2000 : Int) < (s.size : Int) := by omega
    have e0 : decProg s.data.toList = ([], 2) := by unfold decProg; rw [if_pos (by omega)]
    have HE := hideP e0
    clear e0 hlen
    have hr2 := heap_setCell_same W1 w.heap.size 0 _ _ (.slice none 0 0) g1
    have t0 := cell_at' hr2 0
    simp at t0
    have hB2 := hB1.setCell (p := ⟨w.heap.size, 0, none⟩) (Nat.le_refl _) (.slice none 0 0)
    go_enter Try.func21, Try.ntmps21
    go_wp2
    refine bodyPost_ret (v := .tuple #[.agg #[.slice none 0 0], .int .i64 2]) (by simp [results, Try.results21, go_sem, t0]) rfl ?_
    rw [HE.out]
    exact ⟨_, rfl, fnsAt_nil _, hB2⟩
  · have hbig' : ¬ (2000 : Int) < (s.size : Int) := by omega
    obtain ⟨⟨l, ok⟩, hrp⟩ : ∃ x, readProg s.data.toList = x := ⟨_, rfl⟩
    have hrd := read_any s (by omega) W1
    rw [hrp] at hrd
    have e0 : decProg s.data.toList = if ok = false then ([], 1) else if progErr l ≠ 0 then ([], progErr l) else (l, 0) := by unfold decProg; rw [if_neg (by omega), hrp]
    have HE := hideP e0
    have HRD := hideP hrd
    clear e0 hlen hrp hrd
    go_enter Try.func21, Try.ntmps21
    go_wp2_with fail
    refine HRD.out.mono ?_
    rintro e w4 ⟨pv, nv, cv, rfl, hfns, hB4'⟩
    have hB4 := hB1.trans (hB4'.mono (by omega))
    have g4 := (hB4'.block _ hl1).trans g1
    have hs4 := hB4'.size
    have d4 := cell_at' g4 0
    have z4 := Lib.frozen_of_heap g4 0
    simp at d4
    have g5 := heap_old g4 (.cells #[.slice pv nv cv] 41)
    have q5 := heap_new w4 (.cells #[.slice pv nv cv] 41)
    have hB5 := hB4.alloc (by omega) (.cells #[.slice pv nv cv] 41)
    have hB45 := ((Below.refl _ w4).alloc (Nat.le_refl _) (.cells #[.slice pv nv cv] 41))
    obtain ⟨W5, hW5⟩ : ∃ W, w4.alloc (.cells #[.slice pv nv cv] 41) = W := ⟨_, rfl⟩
    rw [hW5] at g5 q5 hB5 hB45
    have hl5 := heap_lt q5
    have d5 := cell_at' q5 0
    have d5' := cell_at' g5 0
    have z5' := Lib.frozen_of_heap g5 0
    simp at d5 d5'
    cases ok
    · have hr2 := heap_setCell_same _ w.heap.size 0 _ _ (.slice none 0 0) g5
      have t0 := cell_at' hr2 0
      simp at t0
      have hB2 := hB5.setCell (p := ⟨w.heap.size, 0, none⟩) (Nat.le_refl _) (.slice none 0 0)
      clear HRD
      go_wp2
      refine bodyPost_ret (v := .tuple #[.agg #[.slice none 0 0], .int .i64 1]) (by simp [results, Try.results21, go_sem, t0]) rfl ?_
      rw [HE.out]
      exact ⟨_, rfl, fnsAt_nil _, hB2⟩
    · replace hfns := hfns rfl
      have hf5 := hfns.below hB45
      have hck := progCheck_any l _ W5 hf5.at
      obtain ⟨er, her⟩ : ∃ er, progErr l = er := ⟨_, rfl⟩
      rw [her] at hck
      have HCK := hideP hck
      have HER := hideP her
      clear hck her HRD hfns
      go_wp2_with fail
      refine HCK.out.mono ?_
      rintro e w6 ⟨rfl, hB6'⟩
      have hs6 := hB6'.size
      have hB6 := hB5.trans (hB6'.mono (by omega))
      have g6 := (hB6'.block _ (by omega)).trans g5
      have q6 := (hB6'.block _ hl5).trans q5
      have hf6 := hf5.below hB6'
      have d6 := cell_at' g6 0
      have z6 := Lib.frozen_of_heap g6 0
      have d7 := cell_at' q6 0
      simp at d6 d7
      clear HCK g5 q5 hf5
      by_cases h0 : er = 0
      · have hr2 := heap_setCell_same _ w.heap.size 0 _ _ (.slice pv nv cv) g6
        have t0 := cell_at' hr2 0
        simp at t0
        have hB2 := hB6.setCell (p := ⟨w.heap.size, 0, none⟩) (Nat.le_refl _) (.slice pv nv cv)
        have hfx := (hf6.set (j := 0) g6 (.slice pv nv cv)).at
        subst h0
        go_wp2
        refine bodyPost_ret (v := .tuple #[.agg #[.slice pv nv cv], .int .i64 0]) (by simp [results, Try.results21, go_sem, t0]) rfl ?_
        rw [HE.out]
        simp only [HER.out]
        exact ⟨_, rfl, hfx, hB2⟩
      · have hr2 := heap_setCell_same _ w.heap.size 0 _ _ (.slice none 0 0) g6
        have t0 := cell_at' hr2 0
        simp at t0
        have hB2 := hB6.setCell (p := ⟨w.heap.size, 0, none⟩) (Nat.le_refl _) (.slice none 0 0)
        have h0' : (er != 0) = true := by simp [h0]
        go_wp2
        refine bodyPost_ret (v := .tuple #[.agg #[.slice none 0 0], .int .i64 er]) (by simp [results, Try.results21, go_sem, t0]) rfl ?_
        rw [HE.out, HER.out]
        have e9 : (if true = false then (([], 1) : List Fn × Int) else if er ≠ 0 then ([], er) else (l, 0)) = ([], er) := by simp [h0]
        rw [e9]
        exact ⟨_, rfl, fnsAt_nil _, hB2⟩
end Go.Proofs.Ytenaionchlnpoaa

