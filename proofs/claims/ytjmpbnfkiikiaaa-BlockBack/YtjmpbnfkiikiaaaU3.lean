/- My texts Pm Pq Va Vb Vc Vd Ve, joined. -/
import Derived.Test.YtjmpbnfkiikiaaaU1
import Derived.Test.YtjmpbnfkiikiaaaU2
/- What is encoded is decoded as it was, and what is decoded is encoded as it was: of the plain functions. -/
namespace Go.Proofs.Ytjmpbnfkiikiaaa
open Go.RowKit
set_option linter.unusedSimpArgs false
set_option linter.unusedVariables false
theorem byteOf_toNat (z : Int) : ((byteOf z).toNat : Int) = z % 256 := by
  have h : (byteOf z).toNat = (z % 256).toNat := by unfold byteOf; rw [UInt8.toNat_ofNat']; omega
  rw [h]; omega
theorem byteOf_eq (z : Int) (b : UInt8) (h : z % 256 = (b.toNat : Int)) : byteOf z = b := by
  apply UInt8.toNat_inj.1
  have := byteOf_toNat z
  omega
theorem chk_zero {c a : Int} (h : chk c a = 0) : isCode c = true ∧ (hasA c = false → a = 0) ∧ -2147483648 ≤ a ∧ a ≤ 2147483647 := by
  unfold chk at h
  by_cases h1 : isCode c = false
  · simp [h1] at h
  · by_cases h2 : hasA c = false ∧ a ≠ 0
    · simp [h1, h2] at h
    · by_cases h3 : isI32 a = false
      · rw [if_neg h1, if_neg h2, if_pos h3] at h; omega
      · refine ⟨by simpa using h1, fun hh => ?_, ?_⟩
        · by_cases h0 : a = 0
          · exact h0
          · exact absurd ⟨hh, h0⟩ h2
        · simp [isI32] at h3; exact h3
theorem chk_zero_mk {c a : Int} (h1 : isCode c = true) (h2 : hasA c = false → a = 0) (h3 : -2147483648 ≤ a) (h4 : a ≤ 2147483647) : chk c a = 0 := by
  unfold chk
  rw [if_neg (by simp [h1]), if_neg (fun h => h.2 (h2 h.1)), if_neg (by simp [isI32, h3, h4])]
theorem code_byte {c : Int} (h : isCode c = true) : ((byteOf c).toNat : Int) = c := by
  simp [isCode] at h; rw [byteOf_toNat]; omega
theorem num_four (a : Int) (h1 : -2147483648 ≤ a) (h2 : a ≤ 2147483647) : wrap32 (numOf [byteOf (a / 16777216), byteOf (a / 65536), byteOf (a / 256), byteOf a]) = a := by
  have e0 := byteOf_toNat (a / 16777216)
  have e1 := byteOf_toNat (a / 65536)
  have e2 := byteOf_toNat (a / 256)
  have e3 := byteOf_toNat a
  have e : ((numOf [byteOf (a / 16777216), byteOf (a / 65536), byteOf (a / 256), byteOf a] : Nat) : Int) = 256 * (256 * (256 * ((byteOf (a / 16777216)).toNat : Int) + ((byteOf (a / 65536)).toNat : Int)) + ((byteOf (a / 256)).toNat : Int)) + ((byteOf a).toNat : Int) := by simp [numOf]
  rw [e, e0, e1, e2, e3]
  unfold wrap32
  omega
theorem four_num (b3 b2 b1 b0 : UInt8) : [byteOf (wrap32 (numOf [b3, b2, b1, b0]) / 16777216), byteOf (wrap32 (numOf [b3, b2, b1, b0]) / 65536), byteOf (wrap32 (numOf [b3, b2, b1, b0]) / 256), byteOf (wrap32 (numOf [b3, b2, b1, b0]))] = [b3, b2, b1, b0] := by
  have e : ((numOf [b3, b2, b1, b0] : Nat) : Int) = 256 * (256 * (256 * (b3.toNat : Int) + (b2.toNat : Int)) + (b1.toNat : Int)) + (b0.toNat : Int) := by simp [numOf]
  have h3 := b3.toNat_lt
  have h2 := b2.toNat_lt
  have h1 := b1.toNat_lt
  have h0 := b0.toNat_lt
  rw [e]
  unfold wrap32
  rw [byteOf_eq _ b3 (by omega), byteOf_eq _ b2 (by omega), byteOf_eq _ b1 (by omega), byteOf_eq _ b0 (by omega)]
theorem wrap32_range (n : Int) : -2147483648 ≤ wrap32 n ∧ wrap32 n ≤ 2147483647 := by unfold wrap32; omega
/-- the bytes of an op that is right tell it. -/
theorem firstOf_bytes (o : Int × Int) (r : List UInt8) (h : chk o.1 o.2 = 0) : firstOf (opBytes o ++ r) = some (o, (opBytes o).length) := by
  obtain ⟨c, a⟩ := o
  obtain ⟨h1, h2, h3, h4⟩ := chk_zero h
  have hc := code_byte h1
  simp only at h1 h2 h3 h4 hc
  cases hh : hasA c
  · simp [opBytes, hh, firstOf, hc, h1, h2 hh]
  · have := num_four a h3 h4
    simp [opBytes, hh, firstOf, hc, h1, this]
/-- an op that bytes tell is right, and its bytes are they. -/
theorem bytes_firstOf (l : List UInt8) (o : Int × Int) (n : Nat) (h : firstOf l = some (o, n)) : chk o.1 o.2 = 0 ∧ opBytes o ++ l.drop n = l := by
  cases l with
  | nil => simp [firstOf] at h
  | cons b r =>
    simp only [firstOf] at h
    have hb : byteOf (b.toNat : Int) = b := byteOf_eq _ b (by have := b.toNat_lt; omega)
    by_cases h1 : isCode b.toNat = false
    · simp [h1] at h
    · have h1' : isCode b.toNat = true := by simpa using h1
      by_cases h2 : hasA b.toNat = true
      · by_cases h3 : r.length < 4
        · simp [h1, h2, h3] at h
        · simp only [h1, h2, h3, if_false, if_true, Option.some.injEq, Prod.mk.injEq] at h
          obtain ⟨rfl, rfl⟩ := h
          match r, h3 with
          | b3 :: b2 :: b1 :: b0 :: r', _ =>
            have hw := wrap32_range (numOf [b3, b2, b1, b0])
            have hf := four_num b3 b2 b1 b0
            simp only [List.cons.injEq, and_true] at hf
            refine ⟨chk_zero_mk h1' (fun hh => by rw [h2] at hh; cases hh) hw.1 hw.2, ?_⟩
            simp [opBytes, h2, hb, hf]
          | [], h3 => simp at h3
          | [_], h3 => simp at h3
          | [_, _], h3 => simp at h3
          | [_, _, _], h3 => simp at h3
      · simp only [h1, h2, if_false, Option.some.injEq, Prod.mk.injEq] at h
        obtain ⟨rfl, rfl⟩ := h
        refine ⟨chk_zero_mk h1' (fun _ => rfl) (by omega) (by omega), ?_⟩
        simp [opBytes, h2, hb]
theorem items_codeBytes (l : List (Int × Int)) : ∀ f, (codeBytes l).length ≤ f → (∀ o ∈ l, chk o.1 o.2 = 0) → items f (codeBytes l) = l.map fun o => (o, 0) := by
  induction l with
  | nil => intro f _ _; simp [codeBytes, items_nil]
  | cons o r ih =>
    intro f hf h
    have he : codeBytes (o :: r) = opBytes o ++ codeBytes r := by simp [codeBytes]
    have h1 := firstOf_bytes o (codeBytes r) (h o (by simp))
    have hl : 1 ≤ (opBytes o).length := by simp [opBytes]
    rw [he] at hf ⊢
    rw [List.length_append] at hf
    obtain ⟨g, rfl⟩ : ∃ g, f = g + 1 := ⟨f - 1, by omega⟩
    rw [items_some g _ _ _ h1, List.drop_left, ih g (by omega) fun x hx => h x (by simp [hx])]
    rfl
theorem map_ok (l : List (Int × Int)) : ∀ x ∈ l.map (fun o => (o, (0 : Int))), x.2 = 0 := by
  intro x hx
  obtain ⟨o, _, rfl⟩ := List.mem_map.1 hx
  rfl
theorem dec_map (l : List (Int × Int)) (h : l.length ≤ 40) : dec (l.map fun o => (o, 0)) [] = (l, 0) := by
  have := dec_ok (l.map fun o => (o, (0 : Int))) [] [] (map_ok l) (by simpa using h)
  simpa [dec, Function.comp_def] using this
theorem firstErr_zero (l : List (Int × Int)) (h : firstErr l = 0) : ∀ o ∈ l, chk o.1 o.2 = 0 := by
  induction l with
  | nil => intro o ho; simp at ho
  | cons x r ih =>
    intro o ho
    rw [firstErr] at h
    by_cases hx : chk x.1 x.2 = 0
    · rw [if_pos hx] at h
      rcases List.mem_cons.1 ho with rfl | ho
      · exact hx
      · exact ih h o ho
    · rw [if_neg hx] at h; exact absurd h hx
theorem codeErr_zero (l : List (Int × Int)) (h : codeErr l = 0) : l.length ≤ 40 ∧ ∀ o ∈ l, chk o.1 o.2 = 0 := by
  unfold codeErr at h
  by_cases h4 : 40 < l.length
  · simp [h4] at h
  · rw [if_neg h4] at h; exact ⟨by omega, firstErr_zero l h⟩
/-- WHAT IS ENCODED IS DECODED AS IT WAS. -/
theorem dec_enc (l : List (Int × Int)) (f : Nat) (hf : (codeBytes l).length ≤ f) (h : codeErr l = 0) : dec (items f (codeBytes l)) [] = (l, 0) := by
  obtain ⟨h1, h2⟩ := codeErr_zero l h
  rw [items_codeBytes l f hf h2, dec_map l h1]
theorem items_all (f : Nat) : ∀ (s : List UInt8), s.length ≤ f → ∃ l, (∀ o ∈ l, chk o.1 o.2 = 0) ∧ ((items f s = l.map (fun o => (o, 0)) ∧ codeBytes l = s) ∨ items f s = l.map (fun o => (o, 0)) ++ [((0, 0), 1)]) := by
  induction f with
  | zero =>
    intro s hs
    have : s = [] := List.length_eq_zero_iff.1 (by omega)
    exact ⟨[], by simp, .inl ⟨by simp [items], by simp [codeBytes, this]⟩⟩
  | succ f ih =>
    intro s hs
    by_cases h0 : s = []
    · subst h0; exact ⟨[], by simp, .inl ⟨by simp [items_nil], by simp [codeBytes]⟩⟩
    · cases hf : firstOf s with
      | none => exact ⟨[], by simp, .inr (by rw [items_none f s h0 hf]; simp)⟩
      | some p =>
        obtain ⟨o, n⟩ := p
        obtain ⟨hn1, hn2⟩ := firstOf_size s o n hf
        obtain ⟨hc, hb⟩ := bytes_firstOf s o n hf
        obtain ⟨l, hl, hx⟩ := ih (s.drop n) (by rw [List.length_drop]; omega)
        refine ⟨o :: l, fun x hx => ?_, ?_⟩
        · rcases List.mem_cons.1 hx with rfl | hx
          · exact hc
          · exact hl x hx
        · rw [items_some f s o n hf]
          rcases hx with ⟨h1, h2⟩ | h1
          · refine .inl ⟨by rw [h1]; rfl, ?_⟩
            rw [show codeBytes (o :: l) = opBytes o ++ codeBytes l from by simp [codeBytes], h2, hb]
          · exact .inr (by rw [h1]; rfl)
theorem dec_many (l : List (Int × Int)) (t : List ((Int × Int) × Int)) (h : 40 < l.length) : dec (l.map (fun o => (o, 0)) ++ t) [] = ([], 2) := by
  have e : l.map (fun o => (o, (0 : Int))) ++ t = (l.take 40).map (fun o => (o, (0 : Int))) ++ ((l.drop 40).map (fun o => (o, (0 : Int))) ++ t) := by
    rw [← List.append_assoc, ← List.map_append, List.take_append_drop]
  rw [e, dec_ok _ _ _ (map_ok _) (by simp; omega)]
  cases hd : l.drop 40 with
  | nil => have := congrArg List.length hd; simp at this; omega
  | cons x r =>
    simp [dec]
    intro hh
    omega
/-- WHAT IS DECODED IS ENCODED AS IT WAS; beside an error nothing comes. -/
theorem enc_dec (f : Nat) (s : List UInt8) (hf : s.length ≤ f) : ((dec (items f s) []).2 ≠ 0 ∧ (dec (items f s) []).1 = []) ∨ ((dec (items f s) []).2 = 0 ∧ codeErr (dec (items f s) []).1 = 0 ∧ codeBytes (dec (items f s) []).1 = s) := by
  obtain ⟨l, hl, ⟨h1, h2⟩ | h1⟩ := items_all f s hf
  · rw [h1]
    by_cases h4 : l.length ≤ 40
    · rw [dec_map l h4]
      exact .inr ⟨rfl, by show codeErr l = 0; unfold codeErr; rw [if_neg (by omega), firstErr_all l hl], h2⟩
    · have := dec_many l [] (by omega)
      rw [List.append_nil] at this
      rw [this]; exact .inl ⟨by simp, rfl⟩
  · rw [h1]
    by_cases h4 : l.length ≤ 40
    · rw [dec_ok _ _ _ (map_ok l) (by simpa using h4)]
      exact .inl ⟨by simp [dec], by simp [dec]⟩
    · rw [dec_many l _ (by omega)]; exact .inl ⟨by simp, rfl⟩
theorem codeBytes_append (l m : List (Int × Int)) : codeBytes (l ++ m) = codeBytes l ++ codeBytes m := by simp [codeBytes]
end Go.Proofs.Ytjmpbnfkiikiaaa
/- Plain functions on programs: what Check says. -/
namespace Go.Proofs.Ytjmpbnfkiikiaaa
open Go.RowKit
set_option linter.unusedSimpArgs false
set_option linter.unusedVariables false
/-- is it the number of one of so many things? -/
def isNum (n : Int) (many : Nat) : Bool := decide (0 ≤ n) && decide (n < (many : Int))
/-- does A of an op name something that is there? -/
def namesB (o : Int × Int) (f : Fn) (funcs : Nat) : Bool :=
  if (o.1 == 8 || o.1 == 9) = true then isNum o.2 f.2.1.length else if (o.1 == 10 || o.1 == 11) = true then isNum o.2 f.2.2.2.length else if (o.1 == 12) = true then isNum o.2 funcs else true
/-- may a local have that type? -/
def okType (t : Int) : Bool := t == 1 || t == 2
/-- have locals and result types that they may have? -/
def typedB (f : Fn) : Bool := f.2.1.all okType && (decide (0 ≤ f.2.2.1) && decide (f.2.2.1 ≤ 2))
/-- B1's errno of a function of a program that has so many. -/
def fnErr (f : Fn) (funcs : Nat) : Int :=
  if 6 < f.2.1.length then 2 else if f.1 < 0 ∨ (f.2.1.length : Int) < f.1 then 3 else if typedB f = false then 6 else if f.2.2.2.length = 0 then 5 else if codeErr f.2.2.2 ≠ 0 then codeErr f.2.2.2 else if (f.2.2.2.all fun o => namesB o f funcs) = false then 3 else 0
/-- the first errno of some functions. -/
def fnsErr (funcs : Nat) : List Fn → Int
  | [] => 0
  | f :: r => if fnErr f funcs = 0 then fnsErr funcs r else fnErr f funcs
/-- has the first function params, or a result? -/
def headErr : List Fn → Int
  | [] => 0
  | f :: _ => if f.1 ≠ 0 ∨ f.2.2.1 ≠ 0 then 4 else 0
/-- B1's errno of a program. -/
def progErr (l : List Fn) : Int :=
  if l.length = 0 then 5 else if 5 < l.length then 2 else if fnsErr l.length l ≠ 0 then fnsErr l.length l else headErr l
theorem fnsErr_all (n : Nat) (l : List Fn) (h : ∀ f ∈ l, fnErr f n = 0) : fnsErr n l = 0 := by
  induction l with
  | nil => rfl
  | cons o r ih => rw [fnsErr, if_pos (h o (by simp))]; exact ih fun x hx => h x (by simp [hx])
theorem fnsErr_at (n : Nat) (l : List Fn) (k : Nat) (f : Fn) (hk : l[k]? = some f) (h : ∀ x ∈ l.take k, fnErr x n = 0) (he : ¬ fnErr f n = 0) : fnsErr n l = fnErr f n := by
  induction l generalizing k with
  | nil => simp at hk
  | cons x r ih =>
    cases k with
    | zero => simp at hk; subst hk; rw [fnsErr, if_neg he]
    | succ k => rw [fnsErr, if_pos (h x (by simp))]; exact ih k (by simpa using hk) fun y hy => h y (by simp [hy])
end Go.Proofs.Ytjmpbnfkiikiaaa
/- isNumber, namesOne, checkFunc's closure, ContainsFunc at it; typed. -/
namespace Go.Proofs.Ytjmpbnfkiikiaaa
open Go.RowKit
set_option linter.unusedSimpArgs false
set_option linter.unusedVariables false
/-- the boxes that checkFunc's closure has captured. -/
def Boxes (w : World) (bf bn : Nat) (f : Fn) (n : Nat) : Prop :=
  ∃ c0 c1 c2 c3, bf < w.heap.size ∧ bn < w.heap.size ∧ w.cell? ⟨bf, 0, none⟩ = some c0 ∧ w.cell? ⟨bf, 1, none⟩ = some c1 ∧ w.cell? ⟨bf, 2, none⟩ = some c2 ∧ w.cell? ⟨bf, 3, none⟩ = some c3 ∧ w.cell? ⟨bn, 0, none⟩ = some (.int .i64 n) ∧ FnAt w c0 c1 c2 c3 f
theorem Boxes.below {w w' : World} {bf bn : Nat} {f : Fn} {n : Nat} (h : Boxes w bf bn f n) (hb : Below w.heap.size w w') : Boxes w' bf bn f n := by
  obtain ⟨c0, c1, c2, c3, h1, h2, a0, a1, a2, a3, a4, hf⟩ := h
  exact ⟨c0, c1, c2, c3, Nat.lt_of_lt_of_le h1 hb.size, Nat.lt_of_lt_of_le h2 hb.size, (hb.cell (p := ⟨bf, 0, none⟩) h1).trans a0, (hb.cell (p := ⟨bf, 1, none⟩) h1).trans a1, (hb.cell (p := ⟨bf, 2, none⟩) h1).trans a2, (hb.cell (p := ⟨bf, 3, none⟩) h1).trans a3, (hb.cell (p := ⟨bn, 0, none⟩) h2).trans a4, hf.below hb⟩
end Go.Proofs.Ytjmpbnfkiikiaaa
/- ContainsFunc at checkFunc's closure and at typed's; typed, checkFunc. -/
namespace Go.Proofs.Ytjmpbnfkiikiaaa
open Go.RowKit
set_option linter.unusedSimpArgs false
set_option linter.unusedVariables false
theorem all_snoc {α : Type} {p : α → Bool} {l : List α} {k : Nat} {o : α} (h : ∀ x ∈ l.take k, p x = true) (ho : l[k]? = some o) (hp : p o = true) : ∀ x ∈ l.take (k + 1), p x = true := by
  rw [take_snoc l k _ ho]; intro x hx; rcases List.mem_append.1 hx with hx | hx
  · exact h x hx
  · simp at hx; subst hx; exact hp
theorem all_true {α : Type} {p : α → Bool} {l : List α} (h : ∀ x ∈ l, p x = true) : l.all p = true := List.all_eq_true.2 h
theorem all_false {α : Type} {p : α → Bool} {l : List α} {k : Nat} {o : α} (ho : l[k]? = some o) (hp : p o = false) : l.all p = false := by
  cases h : l.all p
  · rfl
  · have := List.all_eq_true.1 h o (List.mem_of_getElem? ho); rw [hp] at this; cases this
end Go.Proofs.Ytjmpbnfkiikiaaa
/- checkFunc and prog.Check. -/
namespace Go.Proofs.Ytjmpbnfkiikiaaa
open Go.RowKit
set_option linter.unusedSimpArgs false
set_option linter.unusedVariables false
end Go.Proofs.Ytjmpbnfkiikiaaa
/- prog.Check. -/
namespace Go.Proofs.Ytjmpbnfkiikiaaa
open Go.RowKit
set_option linter.unusedSimpArgs false
set_option linter.unusedVariables false
end Go.Proofs.Ytjmpbnfkiikiaaa
/- putFunc and prog.Encode. -/
namespace Go.Proofs.Ytjmpbnfkiikiaaa
open Go.RowKit
set_option linter.unusedSimpArgs false
set_option linter.unusedVariables false
theorem hide {p : Prop} (h : p) : Hid p := h
/-- a function's bytes. -/
def fnBytes (f : Fn) : List UInt8 := [byteOf f.1, byteOf f.2.1.length] ++ f.2.1.map byteOf ++ [byteOf f.2.2.1, byteOf ((codeBytes f.2.2.2).length / 256), byteOf (codeBytes f.2.2.2).length] ++ codeBytes f.2.2.2
theorem kept_below {b : Option Nat} {w w' : World} (hb : Below w.heap.size w w') : Lib.OthersKept 5 b w w' := fun k o hk _ _ => (hb.block k (Array.getElem?_eq_some_iff.1 hk).1).trans hk
theorem strCells_eq {T : ByteArray} {l : List UInt8} (h : T.data.toList = l) : Lib.strCells T = Lib.byteCells l := by unfold Lib.strCells Lib.byteCells; rw [h]
/-- a program's bytes. -/
def progBytes (l : List Fn) : List UInt8 := byteOf l.length :: l.flatMap fnBytes
/-- what Encode tells. -/
def progStr (l : List Fn) : List UInt8 := if progErr l = 0 then progBytes l else []
theorem fnErr_zero {f : Fn} {n : Nat} (h : fnErr f n = 0) : f.2.1.length ≤ 6 ∧ (0 ≤ f.1 ∧ f.1 ≤ f.2.1.length) ∧ typedB f = true ∧ f.2.2.2.length ≠ 0 ∧ codeErr f.2.2.2 = 0 ∧ (f.2.2.2.all fun o => namesB o f n) = true := by
  unfold fnErr at h
  by_cases h1 : 6 < f.2.1.length
  · simp [h1] at h
  rw [if_neg h1] at h
  by_cases h2 : f.1 < 0 ∨ (f.2.1.length : Int) < f.1
  · simp [h2] at h
  rw [if_neg h2] at h
  by_cases h3 : typedB f = false
  · simp [h3] at h
  rw [if_neg h3] at h
  by_cases h4 : f.2.2.2.length = 0
  · simp [h4] at h
  rw [if_neg h4] at h
  by_cases h5 : codeErr f.2.2.2 = 0
  · rw [if_neg (by simp [h5])] at h
    by_cases h6 : (f.2.2.2.all fun o => namesB o f n) = false
    · rw [if_pos h6] at h; omega
    · exact ⟨by omega, by omega, by simpa using h3, h4, h5, by simpa using h6⟩
  · rw [if_pos h5] at h; exact absurd h h5
theorem fnsErr_zero (n : Nat) (l : List Fn) (h : fnsErr n l = 0) : ∀ f ∈ l, fnErr f n = 0 := by
  induction l with
  | nil => intro f hf; simp at hf
  | cons x r ih =>
    intro f hf
    rw [fnsErr] at h
    by_cases hx : fnErr x n = 0
    · rw [if_pos hx] at h
      rcases List.mem_cons.1 hf with rfl | hf
      · exact hx
      · exact ih h f hf
    · rw [if_neg hx] at h; exact absurd h hx
theorem progErr_zero {l : List Fn} (h : progErr l = 0) : l.length ≠ 0 ∧ l.length ≤ 5 ∧ (∀ f ∈ l, fnErr f l.length = 0) ∧ headErr l = 0 := by
  unfold progErr at h
  by_cases h0 : l.length = 0
  · simp [h0] at h
  rw [if_neg h0] at h
  by_cases h5 : 5 < l.length
  · simp [h5] at h
  rw [if_neg h5] at h
  by_cases hf : fnsErr l.length l = 0
  · rw [if_neg (by simp [hf])] at h
    exact ⟨h0, by omega, fnsErr_zero _ l hf, h⟩
  · rw [if_pos hf] at h; exact absurd h hf
theorem fnBytes_le {f : Fn} {n : Nat} (h : fnErr f n = 0) : (fnBytes f).length ≤ 211 := by
  obtain ⟨h1, _, _, _, h5, _⟩ := fnErr_zero h
  have := codeBytes_le f.2.2.2
  have := (codeErr_zero _ h5).1
  simp [fnBytes]
  omega
theorem fnsBytes_le (l : List Fn) (n : Nat) (h : ∀ f ∈ l, fnErr f n = 0) : (l.flatMap fnBytes).length ≤ 211 * l.length := by
  induction l with
  | nil => simp
  | cons x r ih =>
    have h1 := fnBytes_le (h x (by simp))
    have h2 := ih fun f hf => h f (by simp [hf])
    simp only [List.flatMap_cons, List.length_append, List.length_cons]
    omega
end Go.Proofs.Ytjmpbnfkiikiaaa
