/- What is encoded is decoded as it was, and what is decoded is encoded as it was: of the plain functions. -/
import Derived.Test.YtjaklmmekmhfcaaWe
import Derived.Test.YtjaklmmekmhfcaaWh
namespace Go.Proofs.Ytjaklmmekmhfcaa
open Go.RowKit
set_option linter.unusedSimpArgs false
set_option linter.unusedVariables false
theorem byteOf_toNat (z : Int) : ((byteOf z).toNat : Int) = z % 256 := by
  have h : (byteOf z).toNat = (z % 256).toNat := by unfold byteOf; rw [UInt8.toNat_ofNat']; omega
  rw [h]; omega
theorem byteOf_eq (z : Int) (b : UInt8) (h : z % 256 = (b.toNat : Int)) : byteOf z = b := by
  apply UInt8.toNat_inj.1
  have := byteOf_toNat z
  omega
theorem chk_zero {c a : Int} (h : chk c a = 0) : isCode c = true ∧ (hasA c = false → a = 0) ∧ -2147483648 ≤ a ∧ a ≤ 2147483647 := by
  unfold chk at h
  by_cases h1 : isCode c = false
  · simp [h1] at h
  · by_cases h2 : hasA c = false ∧ a ≠ 0
    · simp [h1, h2] at h
    · by_cases h3 : isI32 a = false
      · rw [if_neg h1, if_neg h2, if_pos h3] at h; omega
      · refine ⟨by simpa using h1, fun hh => ?_, ?_⟩
        · by_cases h0 : a = 0
          · exact h0
          · exact absurd ⟨hh, h0⟩ h2
        · simp [isI32] at h3; exact h3
theorem chk_zero_mk {c a : Int} (h1 : isCode c = true) (h2 : hasA c = false → a = 0) (h3 : -2147483648 ≤ a) (h4 : a ≤ 2147483647) : chk c a = 0 := by
  unfold chk
  rw [if_neg (by simp [h1]), if_neg (fun h => h.2 (h2 h.1)), if_neg (by simp [isI32, h3, h4])]
theorem code_byte {c : Int} (h : isCode c = true) : ((byteOf c).toNat : Int) = c := by
  simp [isCode] at h; rw [byteOf_toNat]; omega
theorem num_four (a : Int) (h1 : -2147483648 ≤ a) (h2 : a ≤ 2147483647) : wrap32 (numOf [byteOf (a / 16777216), byteOf (a / 65536), byteOf (a / 256), byteOf a]) = a := by
  have e0 := byteOf_toNat (a / 16777216)
  have e1 := byteOf_toNat (a / 65536)
  have e2 := byteOf_toNat (a / 256)
  have e3 := byteOf_toNat a
  have e : ((numOf [byteOf (a / 16777216), byteOf (a / 65536), byteOf (a / 256), byteOf a] : Nat) : Int) = 256 * (256 * (256 * ((byteOf (a / 16777216)).toNat : Int) + ((byteOf (a / 65536)).toNat : Int)) + ((byteOf (a / 256)).toNat : Int)) + ((byteOf a).toNat : Int) := by simp [numOf]
  rw [e, e0, e1, e2, e3]
  unfold wrap32
  omega
theorem four_num (b3 b2 b1 b0 : UInt8) : [byteOf (wrap32 (numOf [b3, b2, b1, b0]) / 16777216), byteOf (wrap32 (numOf [b3, b2, b1, b0]) / 65536), byteOf (wrap32 (numOf [b3, b2, b1, b0]) / 256), byteOf (wrap32 (numOf [b3, b2, b1, b0]))] = [b3, b2, b1, b0] := by
  have e : ((numOf [b3, b2, b1, b0] : Nat) : Int) = 256 * (256 * (256 * (b3.toNat : Int) + (b2.toNat : Int)) + (b1.toNat : Int)) + (b0.toNat : Int) := by simp [numOf]
  have h3 := b3.toNat_lt
  have h2 := b2.toNat_lt
  have h1 := b1.toNat_lt
  have h0 := b0.toNat_lt
  rw [e]
  unfold wrap32
  rw [byteOf_eq _ b3 (by omega), byteOf_eq _ b2 (by omega), byteOf_eq _ b1 (by omega), byteOf_eq _ b0 (by omega)]
theorem wrap32_range (n : Int) : -2147483648 ≤ wrap32 n ∧ wrap32 n ≤ 2147483647 := by unfold wrap32; omega
/-- the bytes of an op that is right tell it. -/
theorem firstOf_bytes (o : Int × Int) (r : List UInt8) (h : chk o.1 o.2 = 0) : firstOf (opBytes o ++ r) = some (o, (opBytes o).length) := by
  obtain ⟨c, a⟩ := o
  obtain ⟨h1, h2, h3, h4⟩ := chk_zero h
  have hc := code_byte h1
  simp only at h1 h2 h3 h4 hc
  cases hh : hasA c
  · simp [opBytes, hh, firstOf, hc, h1, h2 hh]
  · have := num_four a h3 h4
    simp [opBytes, hh, firstOf, hc, h1, this]
/-- an op that bytes tell is right, and its bytes are they. -/
theorem bytes_firstOf (l : List UInt8) (o : Int × Int) (n : Nat) (h : firstOf l = some (o, n)) : chk o.1 o.2 = 0 ∧ opBytes o ++ l.drop n = l := by
  cases l with
  | nil => simp [firstOf] at h
  | cons b r =>
    simp only [firstOf] at h
    have hb : byteOf (b.toNat : Int) = b := byteOf_eq _ b (by have := b.toNat_lt; omega)
    by_cases h1 : isCode b.toNat = false
    · simp [h1] at h
    · have h1' : isCode b.toNat = true := by simpa using h1
      by_cases h2 : hasA b.toNat = true
      · by_cases h3 : r.length < 4
        · simp [h1, h2, h3] at h
        · simp only [h1, h2, h3, if_false, if_true, Option.some.injEq, Prod.mk.injEq] at h
          obtain ⟨rfl, rfl⟩ := h
          match r, h3 with
          | b3 :: b2 :: b1 :: b0 :: r', _ =>
            have hw := wrap32_range (numOf [b3, b2, b1, b0])
            have hf := four_num b3 b2 b1 b0
            simp only [List.cons.injEq, and_true] at hf
            refine ⟨chk_zero_mk h1' (fun hh => by rw [h2] at hh; cases hh) hw.1 hw.2, ?_⟩
            simp [opBytes, h2, hb, hf]
          | [], h3 => simp at h3
          | [_], h3 => simp at h3
          | [_, _], h3 => simp at h3
          | [_, _, _], h3 => simp at h3
      · simp only [h1, h2, if_false, Option.some.injEq, Prod.mk.injEq] at h
        obtain ⟨rfl, rfl⟩ := h
        refine ⟨chk_zero_mk h1' (fun _ => rfl) (by omega) (by omega), ?_⟩
        simp [opBytes, h2, hb]
theorem items_codeBytes (l : List (Int × Int)) : ∀ f, (codeBytes l).length ≤ f → (∀ o ∈ l, chk o.1 o.2 = 0) → items f (codeBytes l) = l.map fun o => (o, 0) := by
  induction l with
  | nil => intro f _ _; simp [codeBytes, items_nil]
  | cons o r ih =>
    intro f hf h
    have he : codeBytes (o :: r) = opBytes o ++ codeBytes r := by simp [codeBytes]
    have h1 := firstOf_bytes o (codeBytes r) (h o (by simp))
    have hl : 1 ≤ (opBytes o).length := by simp [opBytes]
    rw [he] at hf ⊢
    rw [List.length_append] at hf
    obtain ⟨g, rfl⟩ : ∃ g, f = g + 1 := ⟨f - 1, by omega⟩
    rw [items_some g _ _ _ h1, List.drop_left, ih g (by omega) fun x hx => h x (by simp [hx])]
    rfl
theorem map_ok (l : List (Int × Int)) : ∀ x ∈ l.map (fun o => (o, (0 : Int))), x.2 = 0 := by
  intro x hx
  obtain ⟨o, _, rfl⟩ := List.mem_map.1 hx
  rfl
theorem dec_map (l : List (Int × Int)) (h : l.length ≤ 40) : dec (l.map fun o => (o, 0)) [] = (l, 0) := by
  have := dec_ok (l.map fun o => (o, (0 : Int))) [] [] (map_ok l) (by simpa using h)
  simpa [dec, Function.comp_def] using this
theorem firstErr_zero (l : List (Int × Int)) (h : firstErr l = 0) : ∀ o ∈ l, chk o.1 o.2 = 0 := by
  induction l with
  | nil => intro o ho; simp at ho
  | cons x r ih =>
    intro o ho
    rw [firstErr] at h
    by_cases hx : chk x.1 x.2 = 0
    · rw [if_pos hx] at h
      rcases List.mem_cons.1 ho with rfl | ho
      · exact hx
      · exact ih h o ho
    · rw [if_neg hx] at h; exact absurd h hx
theorem codeErr_zero (l : List (Int × Int)) (h : codeErr l = 0) : l.length ≤ 40 ∧ ∀ o ∈ l, chk o.1 o.2 = 0 := by
  unfold codeErr at h
  by_cases h4 : 40 < l.length
  · simp [h4] at h
  · rw [if_neg h4] at h; exact ⟨by omega, firstErr_zero l h⟩
/-- WHAT IS ENCODED IS DECODED AS IT WAS. -/
theorem dec_enc (l : List (Int × Int)) (f : Nat) (hf : (codeBytes l).length ≤ f) (h : codeErr l = 0) : dec (items f (codeBytes l)) [] = (l, 0) := by
  obtain ⟨h1, h2⟩ := codeErr_zero l h
  rw [items_codeBytes l f hf h2, dec_map l h1]
theorem items_all (f : Nat) : ∀ (s : List UInt8), s.length ≤ f → ∃ l, (∀ o ∈ l, chk o.1 o.2 = 0) ∧ ((items f s = l.map (fun o => (o, 0)) ∧ codeBytes l = s) ∨ items f s = l.map (fun o => (o, 0)) ++ [((0, 0), 1)]) := by
  induction f with
  | zero =>
    intro s hs
    have : s = [] := List.length_eq_zero_iff.1 (by omega)
    exact ⟨[], by simp, .inl ⟨by simp [items], by simp [codeBytes, this]⟩⟩
  | succ f ih =>
    intro s hs
    by_cases h0 : s = []
    · subst h0; exact ⟨[], by simp, .inl ⟨by simp [items_nil], by simp [codeBytes]⟩⟩
    · cases hf : firstOf s with
      | none => exact ⟨[], by simp, .inr (by rw [items_none f s h0 hf]; simp)⟩
      | some p =>
        obtain ⟨o, n⟩ := p
        obtain ⟨hn1, hn2⟩ := firstOf_size s o n hf
        obtain ⟨hc, hb⟩ := bytes_firstOf s o n hf
        obtain ⟨l, hl, hx⟩ := ih (s.drop n) (by rw [List.length_drop]; omega)
        refine ⟨o :: l, fun x hx => ?_, ?_⟩
        · rcases List.mem_cons.1 hx with rfl | hx
          · exact hc
          · exact hl x hx
        · rw [items_some f s o n hf]
          rcases hx with ⟨h1, h2⟩ | h1
          · refine .inl ⟨by rw [h1]; rfl, ?_⟩
            rw [show codeBytes (o :: l) = opBytes o ++ codeBytes l from by simp [codeBytes], h2, hb]
          · exact .inr (by rw [h1]; rfl)
theorem dec_many (l : List (Int × Int)) (t : List ((Int × Int) × Int)) (h : 40 < l.length) : dec (l.map (fun o => (o, 0)) ++ t) [] = ([], 2) := by
  have e : l.map (fun o => (o, (0 : Int))) ++ t = (l.take 40).map (fun o => (o, (0 : Int))) ++ ((l.drop 40).map (fun o => (o, (0 : Int))) ++ t) := by
    rw [← List.append_assoc, ← List.map_append, List.take_append_drop]
  rw [e, dec_ok _ _ _ (map_ok _) (by simp; omega)]
  cases hd : l.drop 40 with
  | nil => have := congrArg List.length hd; simp at this; omega
  | cons x r =>
    simp [dec]
    intro hh
    omega
/-- WHAT IS DECODED IS ENCODED AS IT WAS; beside an error nothing comes. -/
theorem enc_dec (f : Nat) (s : List UInt8) (hf : s.length ≤ f) : ((dec (items f s) []).2 ≠ 0 ∧ (dec (items f s) []).1 = []) ∨ ((dec (items f s) []).2 = 0 ∧ codeErr (dec (items f s) []).1 = 0 ∧ codeBytes (dec (items f s) []).1 = s) := by
  obtain ⟨l, hl, ⟨h1, h2⟩ | h1⟩ := items_all f s hf
  · rw [h1]
    by_cases h4 : l.length ≤ 40
    · rw [dec_map l h4]
      exact .inr ⟨rfl, by show codeErr l = 0; unfold codeErr; rw [if_neg (by omega), firstErr_all l hl], h2⟩
    · have := dec_many l [] (by omega)
      rw [List.append_nil] at this
      rw [this]; exact .inl ⟨by simp, rfl⟩
  · rw [h1]
    by_cases h4 : l.length ≤ 40
    · rw [dec_ok _ _ _ (map_ok l) (by simpa using h4)]
      exact .inl ⟨by simp [dec], by simp [dec]⟩
    · rw [dec_many l _ (by omega)]; exact .inl ⟨by simp, rfl⟩
theorem codeBytes_append (l m : List (Int × Int)) : codeBytes (l ++ m) = codeBytes l ++ codeBytes m := by simp [codeBytes]
end Go.Proofs.Ytjaklmmekmhfcaa

