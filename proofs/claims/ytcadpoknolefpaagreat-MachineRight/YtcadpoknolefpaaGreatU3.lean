/- My texts Pm Pq Va Vb Vc Vd Ve, joined. -/
import Derived.Test.YtcadpoknolefpaaGreatU1
import Derived.Test.YtcadpoknolefpaaGreatU2
/- What is encoded is decoded as it was, and what is decoded is encoded as it was: of the plain functions. -/
namespace Go.Proofs.YtcadpoknolefpaaGreat
open Go.RowKit
set_option linter.unusedSimpArgs false
set_option linter.unusedVariables false
theorem byteOf_toNat (z : Int) : ((byteOf z).toNat : Int) = z % 256 := by
  have h : (byteOf z).toNat = (z % 256).toNat := by unfold byteOf; rw [UInt8.toNat_ofNat']; omega
  rw [h]; omega
theorem byteOf_eq (z : Int) (b : UInt8) (h : z % 256 = (b.toNat : Int)) : byteOf z = b := by
  apply UInt8.toNat_inj.1
  have := byteOf_toNat z
  omega
theorem chk_zero {c a : Int} (h : chk c a = 0) : isCode c = true ∧ (hasA c = false → a = 0) ∧ -2147483648 ≤ a ∧ a ≤ 2147483647 := by
  unfold chk at h
  by_cases h1 : isCode c = false
  · simp [h1] at h
  · by_cases h2 : hasA c = false ∧ a ≠ 0
    · simp [h1, h2] at h
    · by_cases h3 : isI32 a = false
      · rw [if_neg h1, if_neg h2, if_pos h3] at h; omega
      · refine ⟨by simpa using h1, fun hh => ?_, ?_⟩
        · by_cases h0 : a = 0
          · exact h0
          · exact absurd ⟨hh, h0⟩ h2
        · simp [isI32] at h3; exact h3
theorem chk_zero_mk {c a : Int} (h1 : isCode c = true) (h2 : hasA c = false → a = 0) (h3 : -2147483648 ≤ a) (h4 : a ≤ 2147483647) : chk c a = 0 := by
  unfold chk
  rw [if_neg (by simp [h1]), if_neg (fun h => h.2 (h2 h.1)), if_neg (by simp [isI32, h3, h4])]
theorem code_byte {c : Int} (h : isCode c = true) : ((byteOf c).toNat : Int) = c := by
  simp [isCode] at h; rw [byteOf_toNat]; omega
theorem num_four (a : Int) (h1 : -2147483648 ≤ a) (h2 : a ≤ 2147483647) : wrap32 (numOf [byteOf (a / 16777216), byteOf (a / 65536), byteOf (a / 256), byteOf a]) = a := by
  have e0 := byteOf_toNat (a / 16777216)
  have e1 := byteOf_toNat (a / 65536)
  have e2 := byteOf_toNat (a / 256)
  have e3 := byteOf_toNat a
  have e : ((numOf [byteOf (a / 16777216), byteOf (a / 65536), byteOf (a / 256), byteOf a] : Nat) : Int) = 256 * (256 * (256 * ((byteOf (a / 16777216)).toNat : Int) + ((byteOf (a / 65536)).toNat : Int)) + ((byteOf (a / 256)).toNat : Int)) + ((byteOf a).toNat : Int) := by simp [numOf]
  rw [e, e0, e1, e2, e3]
  unfold wrap32
  omega
theorem four_num (b3 b2 b1 b0 : UInt8) : [byteOf (wrap32 (numOf [b3, b2, b1, b0]) / 16777216), byteOf (wrap32 (numOf [b3, b2, b1, b0]) / 65536), byteOf (wrap32 (numOf [b3, b2, b1, b0]) / 256), byteOf (wrap32 (numOf [b3, b2, b1, b0]))] = [b3, b2, b1, b0] := by
  have e : ((numOf [b3, b2, b1, b0] : Nat) : Int) = 256 * (256 * (256 * (b3.toNat : Int) + (b2.toNat : Int)) + (b1.toNat : Int)) + (b0.toNat : Int) := by simp [numOf]
  have h3 := b3.toNat_lt
  have h2 := b2.toNat_lt
  have h1 := b1.toNat_lt
  have h0 := b0.toNat_lt
  rw [e]
  unfold wrap32
  rw [byteOf_eq _ b3 (by omega), byteOf_eq _ b2 (by omega), byteOf_eq _ b1 (by omega), byteOf_eq _ b0 (by omega)]
theorem wrap32_range (n : Int) : -2147483648 ≤ wrap32 n ∧ wrap32 n ≤ 2147483647 := by unfold wrap32; omega
/-- the bytes of an op that is right tell it. -/
theorem firstOf_bytes (o : Int × Int) (r : List UInt8) (h : chk o.1 o.2 = 0) : firstOf (opBytes o ++ r) = some (o, (opBytes o).length) := by
  obtain ⟨c, a⟩ := o
  obtain ⟨h1, h2, h3, h4⟩ := chk_zero h
  have hc := code_byte h1
  simp only at h1 h2 h3 h4 hc
  cases hh : hasA c
  · simp [opBytes, hh, firstOf, hc, h1, h2 hh]
  · have := num_four a h3 h4
    simp [opBytes, hh, firstOf, hc, h1, this]
/-- an op that bytes tell is right, and its bytes are they. -/
theorem bytes_firstOf (l : List UInt8) (o : Int × Int) (n : Nat) (h : firstOf l = some (o, n)) : chk o.1 o.2 = 0 ∧ opBytes o ++ l.drop n = l := by
  cases l with
  | nil => simp [firstOf] at h
  | cons b r =>
    simp only [firstOf] at h
    have hb : byteOf (b.toNat : Int) = b := byteOf_eq _ b (by have := b.toNat_lt; omega)
    by_cases h1 : isCode b.toNat = false
    · simp [h1] at h
    · have h1' : isCode b.toNat = true := by simpa using h1
      by_cases h2 : hasA b.toNat = true
      · by_cases h3 : r.length < 4
        · simp [h1, h2, h3] at h
        · simp only [h1, h2, h3, if_false, if_true, Option.some.injEq, Prod.mk.injEq] at h
          obtain ⟨rfl, rfl⟩ := h
          match r, h3 with
          | b3 :: b2 :: b1 :: b0 :: r', _ =>
            have hw := wrap32_range (numOf [b3, b2, b1, b0])
            have hf := four_num b3 b2 b1 b0
            simp only [List.cons.injEq, and_true] at hf
            refine ⟨chk_zero_mk h1' (fun hh => by rw [h2] at hh; cases hh) hw.1 hw.2, ?_⟩
            simp [opBytes, h2, hb, hf]
          | [], h3 => simp at h3
          | [_], h3 => simp at h3
          | [_, _], h3 => simp at h3
          | [_, _, _], h3 => simp at h3
      · simp only [h1, h2, if_false, Option.some.injEq, Prod.mk.injEq] at h
        obtain ⟨rfl, rfl⟩ := h
        refine ⟨chk_zero_mk h1' (fun _ => rfl) (by omega) (by omega), ?_⟩
        simp [opBytes, h2, hb]
theorem items_codeBytes (l : List (Int × Int)) : ∀ f, (codeBytes l).length ≤ f → (∀ o ∈ l, chk o.1 o.2 = 0) → items f (codeBytes l) = l.map fun o => (o, 0) := by
  induction l with
  | nil => intro f _ _; simp [codeBytes, items_nil]
  | cons o r ih =>
    intro f hf h
    have he : codeBytes (o :: r) = opBytes o ++ codeBytes r := by simp [codeBytes]
    have h1 := firstOf_bytes o (codeBytes r) (h o (by simp))
    have hl : 1 ≤ (opBytes o).length := by simp [opBytes]
    rw [he] at hf ⊢
    rw [List.length_append] at hf
    obtain ⟨g, rfl⟩ : ∃ g, f = g + 1 := ⟨f - 1, by omega⟩
    rw [items_some g _ _ _ h1, List.drop_left, ih g (by omega) fun x hx => h x (by simp [hx])]
    rfl
theorem map_ok (l : List (Int × Int)) : ∀ x ∈ l.map (fun o => (o, (0 : Int))), x.2 = 0 := by
  intro x hx
  obtain ⟨o, _, rfl⟩ := List.mem_map.1 hx
  rfl
theorem dec_map (l : List (Int × Int)) (h : l.length ≤ 40) : dec (l.map fun o => (o, 0)) [] = (l, 0) := by
  have := dec_ok (l.map fun o => (o, (0 : Int))) [] [] (map_ok l) (by simpa using h)
  simpa [dec, Function.comp_def] using this
theorem firstErr_zero (l : List (Int × Int)) (h : firstErr l = 0) : ∀ o ∈ l, chk o.1 o.2 = 0 := by
  induction l with
  | nil => intro o ho; simp at ho
  | cons x r ih =>
    intro o ho
    rw [firstErr] at h
    by_cases hx : chk x.1 x.2 = 0
    · rw [if_pos hx] at h
      rcases List.mem_cons.1 ho with rfl | ho
      · exact hx
      · exact ih h o ho
    · rw [if_neg hx] at h; exact absurd h hx
theorem codeErr_zero (l : List (Int × Int)) (h : codeErr l = 0) : l.length ≤ 40 ∧ ∀ o ∈ l, chk o.1 o.2 = 0 := by
  unfold codeErr at h
  by_cases h4 : 40 < l.length
  · simp [h4] at h
  · rw [if_neg h4] at h; exact ⟨by omega, firstErr_zero l h⟩
/-- WHAT IS ENCODED IS DECODED AS IT WAS. -/
theorem dec_enc (l : List (Int × Int)) (f : Nat) (hf : (codeBytes l).length ≤ f) (h : codeErr l = 0) : dec (items f (codeBytes l)) [] = (l, 0) := by
  obtain ⟨h1, h2⟩ := codeErr_zero l h
  rw [items_codeBytes l f hf h2, dec_map l h1]
theorem items_all (f : Nat) : ∀ (s : List UInt8), s.length ≤ f → ∃ l, (∀ o ∈ l, chk o.1 o.2 = 0) ∧ ((items f s = l.map (fun o => (o, 0)) ∧ codeBytes l = s) ∨ items f s = l.map (fun o => (o, 0)) ++ [((0, 0), 1)]) := by
  induction f with
  | zero =>
    intro s hs
    have : s = [] := List.length_eq_zero_iff.1 (by omega)
    exact ⟨[], by simp, .inl ⟨by simp [items], by simp [codeBytes, this]⟩⟩
  | succ f ih =>
    intro s hs
    by_cases h0 : s = []
    · subst h0; exact ⟨[], by simp, .inl ⟨by simp [items_nil], by simp [codeBytes]⟩⟩
    · cases hf : firstOf s with
      | none => exact ⟨[], by simp, .inr (by rw [items_none f s h0 hf]; simp)⟩
      | some p =>
        obtain ⟨o, n⟩ := p
        obtain ⟨hn1, hn2⟩ := firstOf_size s o n hf
        obtain ⟨hc, hb⟩ := bytes_firstOf s o n hf
        obtain ⟨l, hl, hx⟩ := ih (s.drop n) (by rw [List.length_drop]; omega)
        refine ⟨o :: l, fun x hx => ?_, ?_⟩
        · rcases List.mem_cons.1 hx with rfl | hx
          · exact hc
          · exact hl x hx
        · rw [items_some f s o n hf]
          rcases hx with ⟨h1, h2⟩ | h1
          · refine .inl ⟨by rw [h1]; rfl, ?_⟩
            rw [show codeBytes (o :: l) = opBytes o ++ codeBytes l from by simp [codeBytes], h2, hb]
          · exact .inr (by rw [h1]; rfl)
theorem dec_many (l : List (Int × Int)) (t : List ((Int × Int) × Int)) (h : 40 < l.length) : dec (l.map (fun o => (o, 0)) ++ t) [] = ([], 2) := by
  have e : l.map (fun o => (o, (0 : Int))) ++ t = (l.take 40).map (fun o => (o, (0 : Int))) ++ ((l.drop 40).map (fun o => (o, (0 : Int))) ++ t) := by
    rw [← List.append_assoc, ← List.map_append, List.take_append_drop]
  rw [e, dec_ok _ _ _ (map_ok _) (by simp; omega)]
  cases hd : l.drop 40 with
  | nil => have := congrArg List.length hd; simp at this; omega
  | cons x r =>
    simp [dec]
    intro hh
    omega
/-- WHAT IS DECODED IS ENCODED AS IT WAS; beside an error nothing comes. -/
theorem enc_dec (f : Nat) (s : List UInt8) (hf : s.length ≤ f) : ((dec (items f s) []).2 ≠ 0 ∧ (dec (items f s) []).1 = []) ∨ ((dec (items f s) []).2 = 0 ∧ codeErr (dec (items f s) []).1 = 0 ∧ codeBytes (dec (items f s) []).1 = s) := by
  obtain ⟨l, hl, ⟨h1, h2⟩ | h1⟩ := items_all f s hf
  · rw [h1]
    by_cases h4 : l.length ≤ 40
    · rw [dec_map l h4]
      exact .inr ⟨rfl, by show codeErr l = 0; unfold codeErr; rw [if_neg (by omega), firstErr_all l hl], h2⟩
    · have := dec_many l [] (by omega)
      rw [List.append_nil] at this
      rw [this]; exact .inl ⟨by simp, rfl⟩
  · rw [h1]
    by_cases h4 : l.length ≤ 40
    · rw [dec_ok _ _ _ (map_ok l) (by simpa using h4)]
      exact .inl ⟨by simp [dec], by simp [dec]⟩
    · rw [dec_many l _ (by omega)]; exact .inl ⟨by simp, rfl⟩
theorem codeBytes_append (l m : List (Int × Int)) : codeBytes (l ++ m) = codeBytes l ++ codeBytes m := by simp [codeBytes]
end Go.Proofs.YtcadpoknolefpaaGreat
/- Plain functions on programs: what Check says. -/
namespace Go.Proofs.YtcadpoknolefpaaGreat
open Go.RowKit
set_option linter.unusedSimpArgs false
set_option linter.unusedVariables false
/-- is it the number of one of so many things? -/
def isNum (n : Int) (many : Nat) : Bool := decide (0 ≤ n) && decide (n < (many : Int))
/-- does A of an op name something that is there? -/
def namesB (o : Int × Int) (f : Fn) (funcs : Nat) : Bool :=
  if (o.1 == 8 || o.1 == 9) = true then isNum o.2 f.2.1.length else if (o.1 == 10 || o.1 == 11) = true then isNum o.2 f.2.2.2.length else if (o.1 == 12) = true then isNum o.2 funcs else true
/-- may a local have that type? -/
def okType (t : Int) : Bool := t == 1 || t == 2
/-- have locals and result types that they may have? -/
def typedB (f : Fn) : Bool := f.2.1.all okType && (decide (0 ≤ f.2.2.1) && decide (f.2.2.1 ≤ 2))
/-- B1's errno of a function of a program that has so many. -/
def fnErr (f : Fn) (funcs : Nat) : Int :=
  if 6 < f.2.1.length then 2 else if f.1 < 0 ∨ (f.2.1.length : Int) < f.1 then 3 else if typedB f = false then 6 else if f.2.2.2.length = 0 then 5 else if codeErr f.2.2.2 ≠ 0 then codeErr f.2.2.2 else if (f.2.2.2.all fun o => namesB o f funcs) = false then 3 else 0
/-- the first errno of some functions. -/
def fnsErr (funcs : Nat) : List Fn → Int
  | [] => 0
  | f :: r => if fnErr f funcs = 0 then fnsErr funcs r else fnErr f funcs
/-- has the first function params, or a result? -/
def headErr : List Fn → Int
  | [] => 0
  | f :: _ => if f.1 ≠ 0 ∨ f.2.2.1 ≠ 0 then 4 else 0
/-- B1's errno of a program. -/
def progErr (l : List Fn) : Int :=
  if l.length = 0 then 5 else if 5 < l.length then 2 else if fnsErr l.length l ≠ 0 then fnsErr l.length l else headErr l
theorem fnsErr_all (n : Nat) (l : List Fn) (h : ∀ f ∈ l, fnErr f n = 0) : fnsErr n l = 0 := by
  induction l with
  | nil => rfl
  | cons o r ih => rw [fnsErr, if_pos (h o (by simp))]; exact ih fun x hx => h x (by simp [hx])
theorem fnsErr_at (n : Nat) (l : List Fn) (k : Nat) (f : Fn) (hk : l[k]? = some f) (h : ∀ x ∈ l.take k, fnErr x n = 0) (he : ¬ fnErr f n = 0) : fnsErr n l = fnErr f n := by
  induction l generalizing k with
  | nil => simp at hk
  | cons x r ih =>
    cases k with
    | zero => simp at hk; subst hk; rw [fnsErr, if_neg he]
    | succ k => rw [fnsErr, if_pos (h x (by simp))]; exact ih k (by simpa using hk) fun y hy => h y (by simp [hy])
end Go.Proofs.YtcadpoknolefpaaGreat
/- isNumber, namesOne, checkFunc's closure, ContainsFunc at it; typed. -/
namespace Go.Proofs.YtcadpoknolefpaaGreat
open Go.RowKit
set_option linter.unusedSimpArgs false
set_option linter.unusedVariables false
set_option maxHeartbeats 400000 in
theorem isNumber_any (n : Int) (m : Nat) (w : World) : Calls Tryz.prog 221 #[.int .i64 n, .int .i64 m] w fun e w' => e = .returned (.bool (isNum n m)) ∧ w' = w := by
  by_cases h1 : 0 ≤ n
  · by_cases h2 : n < (m : Int)
    · go_enter Tryz.func221, Tryz.ntmps221
      go_wp2
      go_ret
      exact ⟨by simp [isNum, h1, h2], rfl⟩
    · go_enter Tryz.func221, Tryz.ntmps221
      go_wp2
      go_ret
      exact ⟨by simp [isNum, h1, h2], rfl⟩
  · have hd : decide (0 ≤ n) = false := by simpa using h1
    go_enter Tryz.func221, Tryz.ntmps221
    go_wp2
    go_ret
    exact ⟨by simp [isNum, hd], rfl⟩
set_option maxHeartbeats 2000000 in
theorem namesOne_any (c a : Int) (f : Fn) (c0 c1 c2 c3 : Value) (n : Nat) (w : World) (h : FnAt w c0 c1 c2 c3 f) : Calls Tryz.prog 175 #[.agg #[.int .i64 c, .int .i64 a], .agg #[c0, c1, c2, c3], .int .i64 n] w fun e w' => e = .returned (.bool (namesB (c, a) f n)) ∧ Below w.heap.size w w' := by
  obtain ⟨rfl, ⟨p1, q1, rfl, _, _⟩, rfl, ⟨p3, q3, rfl, _, _⟩⟩ := h
  have hb : ∀ o o', Below w.heap.size w ((w.alloc o).alloc o') := fun o o' => ((Below.refl _ w).alloc (Nat.le_refl _) _).alloc (by simp) _
  cases h8 : (c == 8)
  · cases h9 : (c == 9)
    · cases h10 : (c == 10)
      · cases h11 : (c == 11)
        · cases h12 : (c == 12)
          all_goals
            go_enter Tryz.func175, Tryz.ntmps175
            go_wp2_with (go_at_call 221; refine (isNumber_any _ _ _).mono ?_; rintro e w' ⟨rfl, hw⟩; have hw := hw.symm; subst hw)
            go_ret
            exact ⟨by simp [namesB, h8, h9, h10, h11, h12], hb _ _⟩
        · go_enter Tryz.func175, Tryz.ntmps175
          go_wp2_with (go_at_call 221; refine (isNumber_any _ _ _).mono ?_; rintro e w' ⟨rfl, hw⟩; have hw := hw.symm; subst hw)
          go_ret
          exact ⟨by simp [namesB, h8, h9, h10, h11], hb _ _⟩
      · go_enter Tryz.func175, Tryz.ntmps175
        go_wp2_with (go_at_call 221; refine (isNumber_any _ _ _).mono ?_; rintro e w' ⟨rfl, hw⟩; have hw := hw.symm; subst hw)
        go_ret
        exact ⟨by simp [namesB, h8, h9, h10], hb _ _⟩
    · go_enter Tryz.func175, Tryz.ntmps175
      go_wp2_with (go_at_call 221; refine (isNumber_any _ _ _).mono ?_; rintro e w' ⟨rfl, hw⟩; have hw := hw.symm; subst hw)
      go_ret
      exact ⟨by simp [namesB, h8, h9], hb _ _⟩
  · go_enter Tryz.func175, Tryz.ntmps175
    go_wp2_with (go_at_call 221; refine (isNumber_any _ _ _).mono ?_; rintro e w' ⟨rfl, hw⟩; have hw := hw.symm; subst hw)
    go_ret
    exact ⟨by simp [namesB, h8], hb _ _⟩
/-- the boxes that checkFunc's closure has captured. -/
def Boxes (w : World) (bf bn : Nat) (f : Fn) (n : Nat) : Prop :=
  ∃ c0 c1 c2 c3, bf < w.heap.size ∧ bn < w.heap.size ∧ w.cell? ⟨bf, 0, none⟩ = some c0 ∧ w.cell? ⟨bf, 1, none⟩ = some c1 ∧ w.cell? ⟨bf, 2, none⟩ = some c2 ∧ w.cell? ⟨bf, 3, none⟩ = some c3 ∧ w.cell? ⟨bn, 0, none⟩ = some (.int .i64 n) ∧ FnAt w c0 c1 c2 c3 f
theorem Boxes.below {w w' : World} {bf bn : Nat} {f : Fn} {n : Nat} (h : Boxes w bf bn f n) (hb : Below w.heap.size w w') : Boxes w' bf bn f n := by
  obtain ⟨c0, c1, c2, c3, h1, h2, a0, a1, a2, a3, a4, hf⟩ := h
  exact ⟨c0, c1, c2, c3, Nat.lt_of_lt_of_le h1 hb.size, Nat.lt_of_lt_of_le h2 hb.size, (hb.cell (p := ⟨bf, 0, none⟩) h1).trans a0, (hb.cell (p := ⟨bf, 1, none⟩) h1).trans a1, (hb.cell (p := ⟨bf, 2, none⟩) h1).trans a2, (hb.cell (p := ⟨bf, 3, none⟩) h1).trans a3, (hb.cell (p := ⟨bn, 0, none⟩) h2).trans a4, hf.below hb⟩
set_option maxHeartbeats 2000000 in
theorem checkFn1_any (c a : Int) (f : Fn) (n bf bn : Nat) (w : World) (h : Boxes w bf bn f n) : Calls Tryz.prog 174 #[.agg #[.int .i64 c, .int .i64 a], .pointer (some ⟨bf, 0, none⟩), .pointer (some ⟨bn, 0, none⟩)] w fun e w' => e = .returned (.bool (!namesB (c, a) f n)) ∧ Below w.heap.size w w' := by
  have hw : Below w.heap.size w (w.alloc (.cells #[.int .i64 c, .int .i64 a] 43)) := (Below.refl _ w).alloc (Nat.le_refl _) _
  obtain ⟨c0, c1, c2, c3, h1, h2, a0, a1, a2, a3, a4, hf⟩ := h.below hw
  have hf' := hf
  obtain ⟨rfl, ⟨p1, q1, rfl, _, _⟩, rfl, ⟨p3, q3, rfl, _, _⟩⟩ := hf'
  go_enter Tryz.func174, Tryz.ntmps174
  go_wp2_with (go_at_call 175; refine (namesOne_any c a f _ _ _ _ n _ hf).mono ?_; rintro e w2 ⟨rfl, hb2⟩)
  go_ret
  exact ⟨rfl, hw.trans (hb2.mono (by simp))⟩
end Go.Proofs.YtcadpoknolefpaaGreat
/- ContainsFunc at checkFunc's closure and at typed's; typed, checkFunc. -/
namespace Go.Proofs.YtcadpoknolefpaaGreat
open Go.RowKit
set_option linter.unusedSimpArgs false
set_option linter.unusedVariables false
theorem all_snoc {α : Type} {p : α → Bool} {l : List α} {k : Nat} {o : α} (h : ∀ x ∈ l.take k, p x = true) (ho : l[k]? = some o) (hp : p o = true) : ∀ x ∈ l.take (k + 1), p x = true := by
  rw [take_snoc l k _ ho]; intro x hx; rcases List.mem_append.1 hx with hx | hx
  · exact h x hx
  · simp at hx; subst hx; exact hp
theorem all_true {α : Type} {p : α → Bool} {l : List α} (h : ∀ x ∈ l, p x = true) : l.all p = true := List.all_eq_true.2 h
theorem all_false {α : Type} {p : α → Bool} {l : List α} {k : Nat} {o : α} (ho : l[k]? = some o) (hp : p o = false) : l.all p = false := by
  cases h : l.all p
  · rfl
  · have := List.all_eq_true.1 h o (List.mem_of_getElem? ho); rw [hp] at this; cases this
set_option maxHeartbeats 1000000 in
theorem indexNames_any (l : List (Int × Int)) (v : Value) (f : Fn) (n bf bn : Nat) (w : World) (h : OpsAt w v l) (hB : Boxes w bf bn f n) : Calls Tryz.prog 109 #[v, .func (.func 174) #[] #[.pointer (some ⟨bf, 0, none⟩), .pointer (some ⟨bn, 0, none⟩)]] w fun e w' => ∃ r, e = .returned (.int .i64 r) ∧ decide (0 ≤ r) = (!l.all fun o => namesB o f n) ∧ Below w.heap.size w w' := by
  obtain ⟨p, cap, rfl, hm, hc⟩ := h
  unfold maxLen at hm
  go_enter Tryz.func109, Tryz.ntmps109
  go_wp2
  go_loopw [5, 8] (fun _ i wr => ∃ k : Nat, k ≤ l.length ∧ i = .int .i64 k ∧ (∀ o ∈ l.take k, namesB o f n = true) ∧ Below w.heap.size w wr) (fun _ i _ => l.length - (intOf i).toNat)
  case atStart => exact ⟨0, Nat.zero_le _, rfl, by simp, Below.refl _ _⟩
  case round =>
    obtain ⟨k, hk, rfl, hok, hbw⟩ := hrel
    have HK : Hid (∀ o ∈ l.take k, namesB o f n = true) := hok
    clear hok
    have HC : Hid (∀ k o, l[k]? = some o → ∃ b off, p = some ⟨b, off, none⟩ ∧ b < w.heap.size ∧ w.cell? ⟨b, off + k * 2, none⟩ = some (.int .i64 o.1) ∧ w.cell? ⟨b, off + k * 2 + 1, none⟩ = some (.int .i64 o.2)) := hc
    clear hc
    by_cases hlt : k < l.length
    · obtain ⟨⟨c, a⟩, ho⟩ := at_of_lt hlt
      obtain ⟨b, off, rfl, hb, h0, h1⟩ := HC.out k _ ho
      have g0 := (hbw.cell (p := ⟨b, off + k * 2, none⟩) hb).trans h0
      have g1 := (hbw.cell (p := ⟨b, off + k * 2 + 1, none⟩) hb).trans h1
      have hBr := hB.below hbw
      have HO : Hid (l[k]? = some (c, a)) := ho
      clear ho h0 h1
      cases hnb : namesB (c, a) f n
      · go_wp2_with (go_at_call 174; refine (checkFn1_any c a f n bf bn _ hBr).mono ?_; rintro e w2 ⟨rfl, hb2⟩)
        go_ret
        exact ⟨k, rfl, by rw [all_false HO.out hnb]; simp, hbw.trans (hb2.mono hbw.size)⟩
      · go_wp2_with (go_at_call 174; refine (checkFn1_any c a f n bf bn _ hBr).mono ?_; rintro e w2 ⟨rfl, hb2⟩)
        go_roundw
        case rel => exact ⟨k + 1, by omega, by go_num, all_snoc HK.out HO.out hnb, hbw.trans (hb2.mono hbw.size)⟩
        case measure => simp [intOf]; omega
    · have hlt' : ¬ (k : Int) < (l.length : Int) := by omega
      go_wp2
      go_ret
      refine ⟨-1, rfl, ?_, hbw⟩
      have := HK.out
      rw [List.take_of_length_le (by omega)] at this
      rw [all_true this]; decide
set_option maxHeartbeats 1000000 in
theorem containsNames_any (l : List (Int × Int)) (v : Value) (f : Fn) (n bf bn : Nat) (w : World) (h : OpsAt w v l) (hB : Boxes w bf bn f n) : Calls Tryz.prog 173 #[v, .func (.func 174) #[] #[.pointer (some ⟨bf, 0, none⟩), .pointer (some ⟨bn, 0, none⟩)]] w fun e w' => e = .returned (.bool (!l.all fun o => namesB o f n)) ∧ Below w.heap.size w w' := by
  go_enter Tryz.func173, Tryz.ntmps173
  go_wp2_with fail
  refine (indexNames_any l v f n bf bn _ h hB).mono ?_
  rintro e w2 ⟨r, rfl, hr, hb2⟩
  have HR : Hid (decide (0 ≤ r) = (!l.all fun o => namesB o f n)) := hr
  clear hr
  go_wp2
  go_ret
  exact ⟨by rw [← HR.out]; rfl, hb2⟩
set_option maxHeartbeats 1000000 in
theorem typed1_any (t : Int) (w : World) : Calls Tryz.prog 220 #[.int .i64 t] w fun e w' => e = .returned (.bool (!okType t)) ∧ w' = w := by
  by_cases h1 : t = 1
  · have h1' : (t != 1) = false := by simp [h1]
    go_enter Tryz.func220, Tryz.ntmps220
    go_wp2
    go_ret
    exact ⟨by simp [okType, h1], rfl⟩
  · have h1' : (t != 1) = true := by simp [h1]
    go_enter Tryz.func220, Tryz.ntmps220
    go_wp2
    go_ret
    have h2 : (t == 1) = false := by simp [h1]
    exact ⟨by simp only [okType, h2, Bool.false_or]; rfl, rfl⟩
set_option maxHeartbeats 1000000 in
theorem indexTyped_any (l : List Int) (v : Value) (w : World) (h : IntsAt w v l) : Calls Tryz.prog 147 #[v, .func (.func 220) #[] #[]] w fun e w' => ∃ r, e = .returned (.int .i64 r) ∧ decide (0 ≤ r) = (!l.all okType) ∧ Below w.heap.size w w' := by
  obtain ⟨p, cap, rfl, hm, hc⟩ := h
  unfold maxLen at hm
  go_enter Tryz.func147, Tryz.ntmps147
  go_wp2
  go_loopw [5, 8] (fun _ i wr => ∃ k : Nat, k ≤ l.length ∧ i = .int .i64 k ∧ (∀ o ∈ l.take k, okType o = true) ∧ Below w.heap.size w wr) (fun _ i _ => l.length - (intOf i).toNat)
  case atStart => exact ⟨0, Nat.zero_le _, rfl, by simp, Below.refl _ _⟩
  case round =>
    obtain ⟨k, hk, rfl, hok, hbw⟩ := hrel
    have HK : Hid (∀ o ∈ l.take k, okType o = true) := hok
    clear hok
    have HC : Hid (∀ k z, l[k]? = some z → ∃ b off, p = some ⟨b, off, none⟩ ∧ b < w.heap.size ∧ w.cell? ⟨b, off + k, none⟩ = some (.int .i64 z)) := hc
    clear hc
    by_cases hlt : k < l.length
    · obtain ⟨z, ho⟩ := at_of_lt hlt
      obtain ⟨b, off, rfl, hb, h0⟩ := HC.out k _ ho
      have g0 := (hbw.cell (p := ⟨b, off + k, none⟩) hb).trans h0
      have HO : Hid (l[k]? = some z) := ho
      clear ho h0
      cases hnb : okType z
      · go_wp2_with (go_at_call 220; refine (typed1_any z _).mono ?_; rintro e w2 ⟨rfl, hw⟩; have hw := hw.symm; subst hw)
        go_ret
        exact ⟨k, rfl, by rw [all_false HO.out hnb]; simp, hbw⟩
      · go_wp2_with (go_at_call 220; refine (typed1_any z _).mono ?_; rintro e w2 ⟨rfl, hw⟩; have hw := hw.symm; subst hw)
        go_roundw
        case rel => exact ⟨k + 1, by omega, by go_num, all_snoc HK.out HO.out hnb, hbw⟩
        case measure => simp [intOf]; omega
    · have hlt' : ¬ (k : Int) < (l.length : Int) := by omega
      go_wp2
      go_ret
      refine ⟨-1, rfl, ?_, hbw⟩
      have := HK.out
      rw [List.take_of_length_le (by omega)] at this
      rw [all_true this]; decide
set_option maxHeartbeats 1000000 in
theorem containsTyped_any (l : List Int) (v : Value) (w : World) (h : IntsAt w v l) : Calls Tryz.prog 106 #[v, .func (.func 220) #[] #[]] w fun e w' => e = .returned (.bool (!l.all okType)) ∧ Below w.heap.size w w' := by
  go_enter Tryz.func106, Tryz.ntmps106
  go_wp2_with fail
  refine (indexTyped_any l v _ h).mono ?_
  rintro e w2 ⟨r, rfl, hr, hb2⟩
  have HR : Hid (decide (0 ≤ r) = (!l.all okType)) := hr
  clear hr
  go_wp2
  go_ret
  exact ⟨by rw [← HR.out]; rfl, hb2⟩
set_option maxHeartbeats 2000000 in
theorem typed_any (f : Fn) (c0 c1 c2 c3 : Value) (w : World) (h : FnAt w c0 c1 c2 c3 f) : Calls Tryz.prog 172 #[.agg #[c0, c1, c2, c3]] w fun e w' => e = .returned (.bool (typedB f)) ∧ Below w.heap.size w w' := by
  obtain ⟨P, L, r, C⟩ := f
  obtain ⟨rfl, hI, rfl, hO⟩ := h
  simp only at hI hO
  have hI' := hI
  obtain ⟨p1, q1, rfl, _, _⟩ := hI'
  obtain ⟨p3, q3, rfl, _, _⟩ := hO
  obtain ⟨W1, hW1⟩ : ∃ W1, w.alloc (.cells #[.int .i64 P, .slice p1 L.length q1, .int .i64 r, .slice p3 C.length q3] 78) = W1 := ⟨_, rfl⟩
  have hw : Below w.heap.size w W1 := by rw [← hW1]; exact (Below.refl _ w).alloc (Nat.le_refl _) _
  have hh : W1.heap[w.heap.size]? = some (.cells #[.int .i64 P, .slice p1 L.length q1, .int .i64 r, .slice p3 C.length q3] 78 (0, 0)) := by rw [← hW1]; exact World.alloc_heap_new w _
  have hsz : w.heap.size < W1.heap.size := heap_lt hh
  subst hW1
  cases ha : L.all okType
  · go_enter Tryz.func172, Tryz.ntmps172
    go_wp2_with fail
    refine (containsTyped_any L _ _ (hI.below hw)).mono ?_
    rw [ha]
    rintro e w2 ⟨rfl, hb2⟩
    go_wp2
    go_ret
    exact ⟨by simp [typedB, ha], hw.trans (hb2.mono hw.size)⟩
  · by_cases h0 : 0 ≤ r
    · by_cases h2 : r ≤ 2
      all_goals
        go_enter Tryz.func172, Tryz.ntmps172
        go_wp2_with fail
        refine (containsTyped_any L _ _ (hI.below hw)).mono ?_
        rw [ha]
        rintro e w2 ⟨rfl, hb2⟩
        have g2 : w2.cell? ⟨w.heap.size, 2, none⟩ = some (.int .i64 r) := (hb2.cell (p := ⟨w.heap.size, 2, none⟩) hsz).trans (by rw [cell_at' hh]; rfl)
        go_wp2
        go_ret
        exact ⟨by simp [typedB, ha, h0, h2], hw.trans (hb2.mono hw.size)⟩
    · have hd : decide (0 ≤ r) = false := by simpa using h0
      go_enter Tryz.func172, Tryz.ntmps172
      go_wp2_with fail
      refine (containsTyped_any L _ _ (hI.below hw)).mono ?_
      rw [ha]
      rintro e w2 ⟨rfl, hb2⟩
      have g2 : w2.cell? ⟨w.heap.size, 2, none⟩ = some (.int .i64 r) := (hb2.cell (p := ⟨w.heap.size, 2, none⟩) hsz).trans (by rw [cell_at' hh]; rfl)
      go_wp2
      go_ret
      exact ⟨by simp [typedB, ha]; omega, hw.trans (hb2.mono hw.size)⟩
end Go.Proofs.YtcadpoknolefpaaGreat
/- checkFunc and prog.Check. -/
namespace Go.Proofs.YtcadpoknolefpaaGreat
open Go.RowKit
set_option linter.unusedSimpArgs false
set_option linter.unusedVariables false
set_option maxHeartbeats 4000000 in
theorem checkFunc_any (f : Fn) (n : Nat) (c0 c1 c2 c3 : Value) (w : World) (h : FnAt w c0 c1 c2 c3 f) : Calls Tryz.prog 123 #[.agg #[c0, c1, c2, c3], .int .i64 n] w fun e w' => e = .returned (.int .i64 (fnErr f n)) ∧ Below w.heap.size w w' := by
  obtain ⟨P, L, R, C⟩ := f
  have hF0 := h
  obtain ⟨rfl, hI, rfl, hO⟩ := h
  simp only at hI hO
  obtain ⟨p1, q1, rfl, hm1, _⟩ := hI
  obtain ⟨p3, q3, rfl, hm3, _⟩ := hO
  simp only at hF0
  unfold maxLen at hm1 hm3
  have hw1 : Below w.heap.size w (w.alloc (.cells #[.int .i64 P, .slice p1 L.length q1, .int .i64 R, .slice p3 C.length q3] 78)) := (Below.refl _ w).alloc (Nat.le_refl _) _
  have hw : Below w.heap.size w ((w.alloc (.cells #[.int .i64 P, .slice p1 L.length q1, .int .i64 R, .slice p3 C.length q3] 78)).alloc (.cells #[.int .i64 n] 3)) := hw1.alloc (by simp) _
  have hhf : ((w.alloc (.cells #[.int .i64 P, .slice p1 L.length q1, .int .i64 R, .slice p3 C.length q3] 78)).alloc (.cells #[.int .i64 n] 3)).heap[w.heap.size]? = some (.cells #[.int .i64 P, .slice p1 L.length q1, .int .i64 R, .slice p3 C.length q3] 78 (0, 0)) := heap_old (World.alloc_heap_new w _) _
  have hhn : ((w.alloc (.cells #[.int .i64 P, .slice p1 L.length q1, .int .i64 R, .slice p3 C.length q3] 78)).alloc (.cells #[.int .i64 n] 3)).heap[w.heap.size + 1]? = some (.cells #[.int .i64 n] 3 (0, 0)) := by
    have := World.alloc_heap_new (w.alloc (.cells #[.int .i64 P, .slice p1 L.length q1, .int .i64 R, .slice p3 C.length q3] 78)) (.cells #[.int .i64 n] 3)
    rwa [World.size_alloc] at this
  have hB : Boxes ((w.alloc (.cells #[.int .i64 P, .slice p1 L.length q1, .int .i64 R, .slice p3 C.length q3] 78)).alloc (.cells #[.int .i64 n] 3)) w.heap.size (w.heap.size + 1) (P, L, R, C) n :=
    ⟨_, _, _, _, heap_lt hhf, heap_lt hhn, cell_at' hhf 0, cell_at' hhf 1, cell_at' hhf 2, cell_at' hhf 3, cell_at' hhn 0, hF0.below hw⟩
  have HB : Hid (Boxes ((w.alloc (.cells #[.int .i64 P, .slice p1 L.length q1, .int .i64 R, .slice p3 C.length q3] 78)).alloc (.cells #[.int .i64 n] 3)) w.heap.size (w.heap.size + 1) (P, L, R, C) n) := hB
  have HF : Hid (FnAt ((w.alloc (.cells #[.int .i64 P, .slice p1 L.length q1, .int .i64 R, .slice p3 C.length q3] 78)).alloc (.cells #[.int .i64 n] 3)) (.int .i64 P) (.slice p1 L.length q1) (.int .i64 R) (.slice p3 C.length q3) (P, L, R, C)) := hF0.below hw
  have HK : Hid (∀ w2, Below ((w.alloc (.cells #[.int .i64 P, .slice p1 L.length q1, .int .i64 R, .slice p3 C.length q3] 78)).alloc (.cells #[.int .i64 n] 3)).heap.size ((w.alloc (.cells #[.int .i64 P, .slice p1 L.length q1, .int .i64 R, .slice p3 C.length q3] 78)).alloc (.cells #[.int .i64 n] 3)) w2 → w2.cell? ⟨w.heap.size, 3, none⟩ = some (.slice p3 C.length q3)) := fun w2 hb => (hb.cell (p := ⟨w.heap.size, 3, none⟩) (heap_lt hhf)).trans (cell_at' hhf 3)
  clear hB hhf hhn hF0 hw1
  by_cases h6 : 6 < L.length
  · have h6' : (6 : Int) < (L.length : Int) := by omega
    go_enter Tryz.func123, Tryz.ntmps123
    go_wp2
    go_ret
    exact ⟨by simp [fnErr, h6], hw⟩
  have h6' : ¬ (6 : Int) < (L.length : Int) := by omega
  by_cases hp0 : P < 0
  · go_enter Tryz.func123, Tryz.ntmps123
    go_wp2
    go_ret
    exact ⟨by simp [fnErr, h6, hp0], hw⟩
  have hp0' : decide (P < 0) = false := by simpa using hp0
  by_cases hp1 : (L.length : Int) < P
  · go_enter Tryz.func123, Tryz.ntmps123
    go_wp2
    go_ret
    exact ⟨by simp [fnErr, h6, hp1], hw⟩
  have hfe : fnErr (P, L, R, C) n = if typedB (P, L, R, C) = false then 6 else if C.length = 0 then 5 else if codeErr C ≠ 0 then codeErr C else if (C.all fun o => namesB o (P, L, R, C) n) = false then 3 else 0 := by
    simp only [fnErr]
    rw [if_neg h6, if_neg (show ¬ (P < 0 ∨ (L.length : Int) < P) from by omega)]
  rw [hfe]
  clear hfe
  cases ht : typedB (P, L, R, C)
  · go_enter Tryz.func123, Tryz.ntmps123
    go_wp2_with fail
    refine (typed_any _ _ _ _ _ _ HF.out).mono ?_
    rw [ht]
    rintro e w2 ⟨rfl, hb2⟩
    go_wp2
    go_ret
    exact ⟨rfl, hw.trans (hb2.mono hw.size)⟩
  rw [if_neg (by simp)]
  by_cases hc0 : C.length = 0
  · have hc0' : ((C.length : Int) == 0) = true := beq_iff_eq.2 (by omega)
    rw [if_pos hc0]
    have HC0 : Hid (C.length = 0) := hc0
    clear hc0
    go_enter Tryz.func123, Tryz.ntmps123
    go_wp2_with fail
    refine (typed_any _ _ _ _ _ _ HF.out).mono ?_
    rw [ht]
    rintro e w2 ⟨rfl, hb2⟩
    have a3 := HK.out w2 hb2
    go_wp2
    go_ret
    exact ⟨rfl, hw.trans (hb2.mono hw.size)⟩
  have hc0' : ((C.length : Int) == 0) = false := beq_eq_false_iff_ne.2 (by omega)
  rw [if_neg hc0]
  clear hc0
  by_cases hce : codeErr C = 0
  · rw [if_neg (by simp [hce])]
    have HCE : Hid (codeErr C = 0) := hce
    clear hce
    cases hn : (C.all fun o => namesB o (P, L, R, C) n)
    all_goals
      go_enter Tryz.func123, Tryz.ntmps123
      go_wp2_with fail
      refine (typed_any _ _ _ _ _ _ HF.out).mono ?_
      rw [ht]
      rintro e w2 ⟨rfl, hb2⟩
      have a3 := HK.out w2 hb2
      go_wp2_with fail
      refine (encode_ex C _ w2 ((HF.out.below hb2).2.2.2)).mono ?_
      rw [HCE.out]
      rintro e w3 ⟨T3, rfl, _, hb3⟩
      have hb23 := hb2.trans (hb3.mono hb2.size)
      have b3 := HK.out w3 hb23
      clear a3
      go_wp2_with fail
      refine (containsNames_any C _ (P, L, R, C) n w.heap.size (w.heap.size + 1) w3 ((HF.out.below hb23).2.2.2) (HB.out.below hb23)).mono ?_
      rw [hn]
      rintro e w4 ⟨rfl, hb4⟩
      have hb4' := hb23.trans (hb4.mono hb23.size)
      go_wp2
      go_ret
      exact ⟨rfl, hw.trans (hb4'.mono hw.size)⟩
  · rw [if_pos hce]
    have hce' : (codeErr C != 0) = true := by simp [hce]
    clear hce
    go_enter Tryz.func123, Tryz.ntmps123
    go_wp2_with fail
    refine (typed_any _ _ _ _ _ _ HF.out).mono ?_
    rw [ht]
    rintro e w2 ⟨rfl, hb2⟩
    have a3 := HK.out w2 hb2
    go_wp2_with fail
    refine (encode_ex C _ w2 ((HF.out.below hb2).2.2.2)).mono ?_
    rintro e w3 ⟨T3, rfl, _, hb3⟩
    have hb23 := hb2.trans (hb3.mono hb2.size)
    go_wp2
    go_ret
    exact ⟨rfl, hw.trans (hb23.mono hw.size)⟩
end Go.Proofs.YtcadpoknolefpaaGreat
/- prog.Check. -/
namespace Go.Proofs.YtcadpoknolefpaaGreat
open Go.RowKit
set_option linter.unusedSimpArgs false
set_option linter.unusedVariables false
set_option maxHeartbeats 4000000 in
theorem progCheck_any (l : List Fn) (v : Value) (w : World) (h : FnsAt w v l) : Calls Tryz.prog 83 #[.agg #[v]] w fun e w' => e = .returned (.int .i64 (progErr l)) ∧ Below w.heap.size w w' := by
  have hF := h
  obtain ⟨p, cap, rfl, hm, hc⟩ := h
  unfold maxLen at hm
  have hw : Below w.heap.size w (w.alloc (.cells #[.slice p l.length cap] 24)) := (Below.refl _ w).alloc (Nat.le_refl _) _
  have HBX : Hid (∀ w2, Below (w.alloc (.cells #[.slice p l.length cap] 24)).heap.size (w.alloc (.cells #[.slice p l.length cap] 24)) w2 → w2.cell? ⟨w.heap.size, 0, none⟩ = some (.slice p l.length cap)) := fun w2 hb => (hb.cell (p := ⟨w.heap.size, 0, none⟩) (by simp)).trans (cell_at' (World.alloc_heap_new w _) 0)
  have HC : Hid (∀ k f, l[k]? = some f → ∃ b off c0 c1 c2 c3, p = some ⟨b, off, none⟩ ∧ b < w.heap.size ∧ w.cell? ⟨b, off + k * 4, none⟩ = some c0 ∧ w.cell? ⟨b, off + k * 4 + 1, none⟩ = some c1 ∧ w.cell? ⟨b, off + k * 4 + 2, none⟩ = some c2 ∧ w.cell? ⟨b, off + k * 4 + 3, none⟩ = some c3 ∧ FnAt w c0 c1 c2 c3 f) := hc
  clear hc hF
  by_cases h0 : l.length = 0
  · have h0' : ((l.length : Int) == 0) = true := beq_iff_eq.2 (by omega)
    have HE : Hid (progErr l = 5) := by show _ = _; simp [progErr, h0]
    clear h0
    go_enter Tryz.func83, Tryz.ntmps83
    go_wp2
    go_ret
    exact ⟨by rw [HE.out]; rfl, hw⟩
  have h0' : ((l.length : Int) == 0) = false := beq_eq_false_iff_ne.2 (by omega)
  by_cases h5 : 5 < l.length
  · have h5' : (5 : Int) < (l.length : Int) := by omega
    have HE : Hid (progErr l = 2) := by show _ = _; simp [progErr, h0, h5]
    clear h0
    go_enter Tryz.func83, Tryz.ntmps83
    go_wp2
    go_ret
    exact ⟨by rw [HE.out]; rfl, hw⟩
  have h5' : ¬ (5 : Int) < (l.length : Int) := by omega
  have HE : Hid (progErr l = if fnsErr l.length l ≠ 0 then fnsErr l.length l else headErr l) := by
    show _ = _
    unfold progErr
    rw [if_neg h0, if_neg h5]
  have hpos : 0 < l.length := by omega
  clear h0
  go_enter Tryz.func83, Tryz.ntmps83
  go_wp2
  go_loopw [4, 5, 19] (fun _ _ i wr => ∃ k : Nat, k ≤ l.length ∧ i = .int .i64 k ∧ (∀ f ∈ l.take k, fnErr f l.length = 0) ∧ Below (w.alloc (.cells #[.slice p l.length cap] 24)).heap.size (w.alloc (.cells #[.slice p l.length cap] 24)) wr) (fun _ _ i _ => l.length - (intOf i).toNat)
  case atStart => exact ⟨0, Nat.zero_le _, rfl, by simp, Below.refl _ _⟩
  case round =>
    obtain ⟨k, hk, rfl, hok, hbw⟩ := hrel
    have HK : Hid (∀ f ∈ l.take k, fnErr f l.length = 0) := hok
    clear hok
    have hbw0 := hw.trans (hbw.mono hw.size)
    have gb := HBX.out wr hbw
    have hsz : w.heap.size < wr.heap.size := by have := hbw.size; simp at this; omega
    by_cases hlt : k < l.length
    · obtain ⟨f, ho⟩ := at_of_lt hlt
      obtain ⟨b, off, c0, c1, c2, c3, rfl, hb, a0, a1, a2, a3, hf⟩ := HC.out k _ ho
      have g0 := (hbw0.cell (p := ⟨b, off + k * 4, none⟩) hb).trans a0
      have g1 := (hbw0.cell (p := ⟨b, off + k * 4 + 1, none⟩) hb).trans a1
      have g2 := (hbw0.cell (p := ⟨b, off + k * 4 + 2, none⟩) hb).trans a2
      have g3 := (hbw0.cell (p := ⟨b, off + k * 4 + 3, none⟩) hb).trans a3
      have hf2 := hf.below hbw0
      have HO : Hid (l[k]? = some f) := ho
      clear ho a0 a1 a2 a3
      have hff := hf
      obtain ⟨P, L, R, C⟩ := f
      obtain ⟨rfl, ⟨p1, q1, rfl, _, _⟩, rfl, ⟨p3, q3, rfl, _, _⟩⟩ := hff
      clear hf
      have hal : Below wr.heap.size wr (wr.alloc (.cells #[.int .i64 P, .slice p1 L.length q1, .int .i64 R, .slice p3 C.length q3] 78)) := (Below.refl _ wr).alloc (Nat.le_refl _) _
      have hf3 := hf2.below hal
      simp only at hf3
      by_cases he : fnErr (P, L, R, C) l.length = 0
      · have he' : (fnErr (P, L, R, C) l.length != 0) = false := by simp [he]
        have HEE : Hid (fnErr (P, L, R, C) l.length = 0) := he
        clear he
        go_wp2_with fail
        refine (checkFunc_any (P, L, R, C) l.length _ _ _ _ _ hf3).mono ?_
        rintro e w2 ⟨rfl, hb2⟩
        have hb3 := hbw.trans ((hal.trans (hb2.mono hal.size)).mono hbw.size)
        go_wp2
        go_roundw
        case rel => exact ⟨k + 1, by omega, by go_num, by
          rw [take_snoc l k _ HO.out]; intro x hx; rcases List.mem_append.1 hx with hx | hx
          · exact HK.out x hx
          · simp at hx; subst hx; exact HEE.out, hb3⟩
        case measure => simp [intOf]; omega
      · have he' : (fnErr (P, L, R, C) l.length != 0) = true := by simp [he]
        go_wp2_with fail
        refine (checkFunc_any (P, L, R, C) l.length _ _ _ _ _ hf3).mono ?_
        rintro e w2 ⟨rfl, hb2⟩
        have hb3 := hbw.trans ((hal.trans (hb2.mono hal.size)).mono hbw.size)
        go_wp2
        go_ret
        refine ⟨?_, hw.trans (hb3.mono hw.size)⟩
        have := fnsErr_at l.length l k _ HO.out HK.out he
        rw [HE.out, this, if_pos he]
        rfl
    · have hlt' : ¬ (k : Int) < (l.length : Int) := by omega
      have hall := HK.out
      rw [List.take_of_length_le (by omega)] at hall
      have hfz := fnsErr_all l.length l hall
      obtain ⟨⟨P, L, R, C⟩, ho⟩ := at_of_lt hpos
      obtain ⟨b, off, c0, c1, c2, c3, rfl, hb, a0, a1, a2, a3, hf⟩ := HC.out 0 _ ho
      have g0 := (hbw0.cell (p := ⟨b, off + 0 * 4, none⟩) hb).trans a0
      have g2 := (hbw0.cell (p := ⟨b, off + 0 * 4 + 2, none⟩) hb).trans a2
      simp only [Nat.zero_mul, Nat.add_zero] at g0 g2
      obtain ⟨rfl, _, rfl, _⟩ := hf
      simp only at g0 g2
      have HE2 : Hid (progErr l = if P ≠ 0 ∨ R ≠ 0 then 4 else 0) := by
        show _ = _
        rw [HE.out, hfz]
        cases l with
        | nil => simp at ho
        | cons x r => simp at ho; subst ho; simp [headErr]
      have hpi : (0 : Int) < (l.length : Int) := by omega
      clear hall hfz ho a0 a1 a2 a3
      by_cases hP : P = 0
      · have hP' : (P != 0) = false := by simp [hP]
        by_cases hR : R = 0
        · have hR' : (R != 0) = false := by simp [hR]
          have HEE : Hid (progErr l = 0) := by show _ = _; rw [HE2.out]; simp [hP, hR]
          clear hP hR
          go_wp2
          go_ret
          exact ⟨by rw [HEE.out]; rfl, hbw0⟩
        · have hR' : (R != 0) = true := by simp [hR]
          have HEE : Hid (progErr l = 4) := by show _ = _; rw [HE2.out]; simp [hR]
          clear hP hR
          go_wp2
          go_ret
          exact ⟨by rw [HEE.out]; rfl, hbw0⟩
      · have hP' : (P != 0) = true := by simp [hP]
        have HEE : Hid (progErr l = 4) := by show _ = _; rw [HE2.out]; simp [hP]
        clear hP
        go_wp2
        go_ret
        exact ⟨by rw [HEE.out]; rfl, hbw0⟩
end Go.Proofs.YtcadpoknolefpaaGreat
/- putFunc and prog.Encode. -/
namespace Go.Proofs.YtcadpoknolefpaaGreat
open Go.RowKit
set_option linter.unusedSimpArgs false
set_option linter.unusedVariables false
theorem hide {p : Prop} (h : p) : Hid p := h
/-- a function's bytes. -/
def fnBytes (f : Fn) : List UInt8 := [byteOf f.1, byteOf f.2.1.length] ++ f.2.1.map byteOf ++ [byteOf f.2.2.1, byteOf ((codeBytes f.2.2.2).length / 256), byteOf (codeBytes f.2.2.2).length] ++ codeBytes f.2.2.2
theorem Bld.below {B b : Nat} {bs : List Value} {w w' : World} (h : Bld B b bs w) (hb : Below w.heap.size w w') : Bld B b bs w' := by
  have hg : w.grownBy w' none := ⟨hb.os, hb.tape, hb.output, hb.size, fun k hk _ => hb.block k hk⟩
  have aux : ∀ p, Lib.BuilderAtF 140 5 B b p bs w → Lib.BuilderAtF 140 5 B b p bs w' := by
    rintro p ⟨hB, v, hbk, hown, hne⟩
    exact ⟨hB, v, (hb.block b (heap_lt hbk)).trans hbk, hown.kept hg (by cases hv : v.ownBlock <;> simp), hne⟩
  exact h.elim (fun x => .inl (aux _ x)) (fun x => .inr (aux _ x))
theorem kept_below {b : Option Nat} {w w' : World} (hb : Below w.heap.size w w') : Lib.OthersKept 5 b w w' := fun k o hk _ _ => (hb.block k (Array.getElem?_eq_some_iff.1 hk).1).trans hk
theorem strCells_eq {T : ByteArray} {l : List UInt8} (h : T.data.toList = l) : Lib.strCells T = Lib.byteCells l := by unfold Lib.strCells Lib.byteCells; rw [h]
/-- a program's bytes. -/
def progBytes (l : List Fn) : List UInt8 := byteOf l.length :: l.flatMap fnBytes
/-- what Encode tells. -/
def progStr (l : List Fn) : List UInt8 := if progErr l = 0 then progBytes l else []
theorem fnErr_zero {f : Fn} {n : Nat} (h : fnErr f n = 0) : f.2.1.length ≤ 6 ∧ (0 ≤ f.1 ∧ f.1 ≤ f.2.1.length) ∧ typedB f = true ∧ f.2.2.2.length ≠ 0 ∧ codeErr f.2.2.2 = 0 ∧ (f.2.2.2.all fun o => namesB o f n) = true := by
  unfold fnErr at h
  by_cases h1 : 6 < f.2.1.length
  · simp [h1] at h
  rw [if_neg h1] at h
  by_cases h2 : f.1 < 0 ∨ (f.2.1.length : Int) < f.1
  · simp [h2] at h
  rw [if_neg h2] at h
  by_cases h3 : typedB f = false
  · simp [h3] at h
  rw [if_neg h3] at h
  by_cases h4 : f.2.2.2.length = 0
  · simp [h4] at h
  rw [if_neg h4] at h
  by_cases h5 : codeErr f.2.2.2 = 0
  · rw [if_neg (by simp [h5])] at h
    by_cases h6 : (f.2.2.2.all fun o => namesB o f n) = false
    · rw [if_pos h6] at h; omega
    · exact ⟨by omega, by omega, by simpa using h3, h4, h5, by simpa using h6⟩
  · rw [if_pos h5] at h; exact absurd h h5
theorem fnsErr_zero (n : Nat) (l : List Fn) (h : fnsErr n l = 0) : ∀ f ∈ l, fnErr f n = 0 := by
  induction l with
  | nil => intro f hf; simp at hf
  | cons x r ih =>
    intro f hf
    rw [fnsErr] at h
    by_cases hx : fnErr x n = 0
    · rw [if_pos hx] at h
      rcases List.mem_cons.1 hf with rfl | hf
      · exact hx
      · exact ih h f hf
    · rw [if_neg hx] at h; exact absurd h hx
theorem progErr_zero {l : List Fn} (h : progErr l = 0) : l.length ≠ 0 ∧ l.length ≤ 5 ∧ (∀ f ∈ l, fnErr f l.length = 0) ∧ headErr l = 0 := by
  unfold progErr at h
  by_cases h0 : l.length = 0
  · simp [h0] at h
  rw [if_neg h0] at h
  by_cases h5 : 5 < l.length
  · simp [h5] at h
  rw [if_neg h5] at h
  by_cases hf : fnsErr l.length l = 0
  · rw [if_neg (by simp [hf])] at h
    exact ⟨h0, by omega, fnsErr_zero _ l hf, h⟩
  · rw [if_pos hf] at h; exact absurd h hf
theorem fnBytes_le {f : Fn} {n : Nat} (h : fnErr f n = 0) : (fnBytes f).length ≤ 211 := by
  obtain ⟨h1, _, _, _, h5, _⟩ := fnErr_zero h
  have := codeBytes_le f.2.2.2
  have := (codeErr_zero _ h5).1
  simp [fnBytes]
  omega
theorem fnsBytes_le (l : List Fn) (n : Nat) (h : ∀ f ∈ l, fnErr f n = 0) : (l.flatMap fnBytes).length ≤ 211 * l.length := by
  induction l with
  | nil => simp
  | cons x r ih =>
    have h1 := fnBytes_le (h x (by simp))
    have h2 := ih fun f hf => h f (by simp [hf])
    simp only [List.flatMap_cons, List.length_append, List.length_cons]
    omega
end Go.Proofs.YtcadpoknolefpaaGreat
