/- progBegun. -/
import Derived.Test.YtenaionchlnpoaaVk
namespace Go.Proofs.Ytenaionchlnpoaa
open Go.RowKit
set_option linter.unusedSimpArgs false
set_option linter.unusedVariables false
theorem FnsAt.shp {W : World} {v : Value} {l : List Fn} (h : FnsAt W v l) : ∃ p c, v = .slice p l.length c := by
  obtain ⟨p, c, rfl, _⟩ := h
  exact ⟨p, c, rfl⟩
/-- Decode, its answer under names. -/
theorem progDecode_ex (s : ByteArray) (hs : s.size ≤ maxLen) (w : World) (m : List Fn) (er : Int) (h : decProg s.data.toList = (m, er)) :
    Calls Try.prog 21 #[.string s] w fun e w' => ∃ p c, e = .returned (.tuple #[.agg #[.slice p m.length c], .int .i64 er]) ∧ FnsAt w' (.slice p m.length c) m ∧ Below w.heap.size w w' := by
  have := progDecode_any s hs w
  rw [h] at this
  refine this.mono ?_
  rintro e w' ⟨v, rfl, h1, h2⟩
  obtain ⟨p, c, rfl⟩ := h1.shp
  exact ⟨p, c, rfl, h1, h2⟩
theorem sq5 : decProg (progBytes squareFns ++ [122]) = ([], 1) := by
  rcases prog_dec (progBytes squareFns ++ [122]) with ⟨h1, h2⟩ | ⟨h1, _⟩
  · exact Prod.ext h2 sq4
  · rw [sq4] at h1; cases h1
structure Tok : Prop where
set_option maxRecDepth 100000 in
set_option maxHeartbeats 8000000 in
theorem progBegun_any (w : World) : Calls Try.prog 25 #[] w fun e w' => e = .returned (.bool true) ∧ Below w.heap.size w w' := by
  go_enter Try.func25, Try.ntmps25
  go_wp2_with fail
  refine (square_any _).mono ?_
  rintro e w1 ⟨v1, rfl, hf1, hB1⟩
  go_wp2_with fail
  refine (progEncode_any squareFns _ _ hf1).mono ?_
  rintro e w2 ⟨T, rfl, hT, hb2⟩
  have hB2 := hB1.trans (hb2.mono hB1.size)
  rw [sq1]
  have hT1 : T.data.toList = progBytes squareFns := by rw [hT]; unfold progStr; rw [if_pos sq1]
  have hTs : T.size = 32 := by
    have := congrArg List.length hT1
    rw [sq2] at this
    simpa using this
  have HT := hideP hT1
  have hd1 := progDecode_ex T (by unfold maxLen; omega) w2 squareFns 0 (by rw [hT1]; exact sq3)
  have HD1 := hideP hd1
  clear hd1 hT hT1 hf1
  go_wp2_with fail
  refine HD1.out.mono ?_
  rintro e w3 ⟨p3, c3, rfl, hf3, hb3⟩
  have hB3 := hB2.trans (hb3.mono hB2.size)
  have h4 := heap_new w3 (.cells #[.slice p3 squareFns.length c3] 41)
  have hb4 : Below w3.heap.size w3 (w3.alloc (.cells #[.slice p3 squareFns.length c3] 41)) := (Below.refl _ w3).alloc (Nat.le_refl _) _
  obtain ⟨W4, hW4⟩ : ∃ W, w3.alloc (.cells #[.slice p3 squareFns.length c3] 41) = W := ⟨_, rfl⟩
  rw [hW4] at h4 hb4
  have hf4 := hf3.below hb4
  have hB4 := hB3.trans (hb4.mono hB3.size)
  have hl4 := heap_lt h4
  clear HD1 hf3
  have hTz : decProg (T ++ (⟨#[122]⟩ : ByteArray)).data.toList = ([], 1) := by rw [ByteArray.data_append, Array.toList_append, HT.out]; exact sq5
  have hTzs : (T ++ (⟨#[122]⟩ : ByteArray)).size ≤ maxLen := by rw [ByteArray.size_append, hTs]; unfold maxLen; decide
  have HD2 := hideP (progDecode_ex (T ++ (⟨#[122]⟩ : ByteArray)) hTzs W4 [] 1 hTz)
  clear hTz hTzs
  go_wp2_with fail
  refine HD2.out.mono ?_
  rintro e w5 ⟨p5, c5, rfl, _, hb5⟩
  have hB5 := hB4.trans (hb5.mono hB4.size)
  have h5 := (hb5.block _ hl4).trans h4
  have hf5 := hf4.below hb5
  have hb6 : Below w5.heap.size w5 (w5.alloc (.cells #[.slice p5 ([] : List Fn).length c5] 41)) := (Below.refl _ w5).alloc (Nat.le_refl _) _
  have h6 := heap_old h5 (.cells #[.slice p5 ([] : List Fn).length c5] 41)
  obtain ⟨W6, hW6⟩ : ∃ W, w5.alloc (.cells #[.slice p5 ([] : List Fn).length c5] 41) = W := ⟨_, rfl⟩
  rw [hW6] at h6 hb6
  have hf6 := hf5.below hb6
  have hB6 := hB5.trans (hb6.mono hB5.size)
  have hl6 := heap_lt h6
  have a6 := cell_at' h6 0
  simp only [List.getElem?_toArray, List.getElem?_cons_zero] at a6
  clear HD2 hf5 hf4 h4 h5 hW4 h6
  simp only [List.length_nil] at hW6
  have tok1 : Tok := ⟨⟩
  have tok2 : Hid Tok := ⟨⟩
  have hck : ∀ v W, FnsAt W v squareFns → Calls Try.prog 26 #[.agg #[v]] W fun e w' => e = .returned (.int .i64 0) ∧ Below W.heap.size W w' := fun v W h => by
    have := progCheck_any squareFns v W h
    rw [sq1] at this
    exact this
  have hsame : ∀ v u W, FnsAt W v squareFns → FnsAt W u squareFns → Calls Try.prog 27 #[.agg #[v], .agg #[u]] W fun e w' => e = .returned (.bool true) ∧ Below W.heap.size W w' := fun v u W h k => by
    have := sameProgram_any squareFns squareFns v u W h k
    rw [decide_eq_true rfl] at this
    exact this
  have HCK := hideP hck
  have HSM := hideP hsame
  clear hck hsame
  generalize squareFns.length = nl at *
  go_wp2_with fail
  go_region_held3 (fun W => W.cell? ⟨w3.heap.size, 0, none⟩ = some (.slice p3 nl c3)) (go_keep)
    (first
      | (go_at_call 50; have _t := tok1; go_must (refine (square_any _).mono ?_; rintro e w7 ⟨v7, rfl, hs7, hb7'⟩; clear tok1; have hb7 : Below W6.heap.size W6 w7 := ((Below.refl W6.heap.size W6).drew).trans hb7'; have a7 := (hb7.cell (p := ⟨w3.heap.size, 0, none⟩) hl6).trans a6; have hf7 := hf6.below hb7; have hB7 := hB6.trans (hb7.mono hB6.size); have hl7 := Nat.lt_of_lt_of_le hl6 hb7.size; clear hb7 hb7'))
      | (go_at_call 26; go_must (refine (HCK.out _ _ hs7).mono ?_; rintro e w8 ⟨rfl, hb8⟩; have tok2 := tok2.out; have a8 := (hb8.cell (p := ⟨w3.heap.size, 0, none⟩) hl7).trans a7; have hf8 := hf7.below hb8; have hB8 := hB7.trans (hb8.mono hB7.size); have hl8 := Nat.lt_of_lt_of_le hl7 hb8.size; clear hb8))
      | (go_at_call 50; go_must (refine (square_any _).mono ?_; rintro e w9 ⟨v9, rfl, hs9, hb9⟩; have a9 := (hb9.cell (p := ⟨w3.heap.size, 0, none⟩) hl8).trans a8; have hf9 := hf8.below hb9; have hB9 := hB8.trans (hb9.mono hB8.size); have hl9 := Nat.lt_of_lt_of_le hl8 hb9.size; clear hb9))
      | (go_at_call 27; go_must (refine (HSM.out _ _ _ hf9 hs9).mono ?_; rintro e w10 ⟨rfl, hb10⟩; have a10 := (hb10.cell (p := ⟨w3.heap.size, 0, none⟩) hl9).trans a9; have hB10 := hB9.trans (hb10.mono hB9.size))))
  all_goals go_wp2
  all_goals go_ret
  all_goals exact ⟨rfl, hB10⟩
end Go.Proofs.Ytenaionchlnpoaa

