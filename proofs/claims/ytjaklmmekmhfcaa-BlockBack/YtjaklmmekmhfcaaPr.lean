/- Plain laws of reading a program back. -/
import Derived.Test.YtjaklmmekmhfcaaVg
namespace Go.Proofs.Ytjaklmmekmhfcaa
open Go.RowKit
set_option linter.unusedSimpArgs false
set_option linter.unusedVariables false
theorem takeR_inv {st : Rd} {n : Nat} {r : List UInt8} (h : (takeR st n).2 = some r) : st = some ((takeR st n).1 ++ r) ∧ (takeR st n).1.length = n := by
  cases st with
  | none => simp [takeR] at h
  | some s =>
    by_cases hle : n ≤ s.length
    · simp [takeR, hle] at h ⊢
      subst h
      simp
    · simp [takeR, hle] at h
theorem takeR_app (l r : List UInt8) (n : Nat) (h : l.length = n) : takeR (some (l ++ r)) n = (l, some r) := by
  subst h; simp [takeR]
theorem len_one {l : List UInt8} (h : l.length = 1) : ∃ b, l = [b] := by
  cases l with
  | nil => simp at h
  | cons b r => cases r with
    | nil => exact ⟨b, rfl⟩
    | cons _ _ => simp at h
theorem len_two {l : List UInt8} (h : l.length = 2) : ∃ b c, l = [b, c] := by
  cases l with
  | nil => simp at h
  | cons b r =>
    obtain ⟨c, rfl⟩ := len_one (l := r) (by simpa using h)
    exact ⟨b, c, rfl⟩
theorem numOf_b (b : UInt8) : numOf [b] = b.toNat := by simp [numOf]
theorem numOf_bc (b c : UInt8) : numOf [b, c] = 256 * b.toNat + c.toNat := by simp [numOf]
theorem byteOf_num1 {l : List UInt8} (h : l.length = 1) : [byteOf ((numOf l : Nat) : Int)] = l := by
  obtain ⟨b, rfl⟩ := len_one h
  have := b.toNat_lt
  rw [byteOf_eq _ b (by rw [numOf_b]; omega)]
theorem byteOf_num2 {l : List UInt8} (h : l.length = 2) : [byteOf (((numOf l : Nat) : Int) / 256), byteOf ((numOf l : Nat) : Int)] = l := by
  obtain ⟨b, c, rfl⟩ := len_two h
  have := b.toNat_lt
  have := c.toNat_lt
  rw [byteOf_eq _ b (by rw [numOf_bc]; omega), byteOf_eq _ c (by rw [numOf_bc]; omega)]
theorem num1_byteOf (z : Int) (h : 0 ≤ z ∧ z < 256) : ((numOf [byteOf z] : Nat) : Int) = z := by
  rw [numOf_b, byteOf_toNat]; omega
theorem num1_byteN (n : Nat) (h : n < 256) : numOf [byteOf (n : Int)] = n := by
  have := num1_byteOf (n : Int) (by omega)
  omega
theorem num2_byteN (n : Nat) (h : n < 65536) : numOf [byteOf ((n : Int) / 256), byteOf (n : Int)] = n := by
  have h1 := byteOf_toNat ((n : Int) / 256)
  have h2 := byteOf_toNat (n : Int)
  rw [numOf_bc]; omega
theorem readLocs_inv (n : Nat) (st : Rd) : ∀ r, (readLocs n st).2 = some r → ∃ bs, bs.length = n ∧ st = some (bs ++ r) ∧ (readLocs n st).1.map byteOf = bs := by
  induction n with
  | zero => intro r h; exact ⟨[], rfl, by simpa [readLocs] using h, rfl⟩
  | succ n ih =>
    intro r h
    simp only [readLocs] at h ⊢
    obtain ⟨h1, h2⟩ := takeR_inv h
    obtain ⟨bs, h3, h4, h5⟩ := ih _ h1
    refine ⟨bs ++ (takeR (readLocs n st).2 1).1, by simp [h3, h2], by rw [List.append_assoc]; exact h4, ?_⟩
    rw [List.map_append, h5]
    congr 1
    exact byteOf_num1 h2
theorem readLocs_app (l : List Int) (r : List UInt8) (h : ∀ z ∈ l, 0 ≤ z ∧ z < 256) : ∀ n, n ≤ l.length → readLocs n (some (l.map byteOf ++ r)) = (l.take n, some ((l.drop n).map byteOf ++ r)) := by
  intro n
  induction n with
  | zero => intro _; simp [readLocs]
  | succ n ih =>
    intro hn
    have hn' : n < l.length := by omega
    have e1 : (l.drop n).map byteOf ++ r = [byteOf l[n]] ++ ((l.drop (n + 1)).map byteOf ++ r) := by rw [List.drop_eq_getElem_cons hn', List.map_cons]; rfl
    simp only [readLocs]
    rw [ih (by omega)]
    simp only []
    rw [e1, takeR_app [byteOf l[n]] _ 1 rfl]
    simp only []
    rw [num1_byteOf _ (h _ (List.getElem_mem hn')), take_snoc l n l[n] (List.getElem?_eq_getElem hn')]
theorem readFn_app (f : Fn) (n : Nat) (r : List UInt8) (h : fnErr f n = 0) : readFn (some (fnBytes f ++ r)) = (f, true, some r) := by
  obtain ⟨hL, hP, hT, hC0, hC, _⟩ := fnErr_zero h
  obtain ⟨P, ls, R, code⟩ := f
  simp only at hL hP hT hC0 hC
  have hcl := codeBytes_le code
  have hc40 := (codeErr_zero _ hC).1
  simp only [typedB, Bool.and_eq_true, decide_eq_true_eq, List.all_eq_true] at hT
  have hls : ∀ z ∈ ls, 0 ≤ z ∧ z < 256 := fun z hz => by
    have := hT.1 z hz
    simp [okType] at this
    omega
  have e0 : fnBytes (P, ls, R, code) ++ r = [byteOf P] ++ ([byteOf (ls.length : Int)] ++ (ls.map byteOf ++ ([byteOf R] ++ ([byteOf (((codeBytes code).length : Int) / 256), byteOf ((codeBytes code).length : Int)] ++ (codeBytes code ++ r))))) := by simp [fnBytes]
  rw [e0]
  simp only [readFn]
  rw [takeR_app [byteOf P] _ 1 rfl]
  simp only []
  rw [takeR_app [byteOf (ls.length : Int)] _ 1 rfl]
  simp only []
  rw [num1_byteN _ (by omega), readLocs_app ls _ hls ls.length (Nat.le_refl _)]
  simp only [List.drop_length, List.take_length, List.map_nil, List.nil_append]
  rw [takeR_app [byteOf R] _ 1 rfl]
  simp only []
  rw [takeR_app [byteOf (((codeBytes code).length : Int) / 256), byteOf ((codeBytes code).length : Int)] _ 2 rfl]
  simp only []
  rw [num2_byteN _ (by omega), takeR_app (codeBytes code) _ _ rfl]
  simp only []
  rw [dec_enc code _ (Nat.le_refl _) hC, num1_byteOf P (by omega), num1_byteOf R (by omega)]
  simp
theorem readFn_inv (st : Rd) (r : List UInt8) (hok : (readFn st).2.1 = true) (h : (readFn st).2.2 = some r) : st = some (fnBytes (readFn st).1 ++ r) := by
  simp only [readFn] at hok h ⊢
  obtain ⟨g1, g2⟩ := takeR_inv h
  obtain ⟨e1, e2⟩ := takeR_inv g1
  obtain ⟨d1, d2⟩ := takeR_inv e1
  obtain ⟨bs, l1, l2, l3⟩ := readLocs_inv _ _ _ d1
  obtain ⟨c1, c2⟩ := takeR_inv l2
  obtain ⟨a1, a2⟩ := takeR_inv c1
  simp only [Bool.and_eq_true, decide_eq_true_eq] at hok
  have hx := enc_dec _ _ (Nat.le_refl (takeR (takeR (takeR (readLocs (numOf (takeR (takeR st 1).2 1).1) (takeR (takeR st 1).2 1).2).2 1).2 2).2 (numOf (takeR (takeR (readLocs (numOf (takeR (takeR st 1).2 1).1) (takeR (takeR st 1).2 1).2).2 1).2 2).1)).1.length)
  rcases hx with ⟨hx, _⟩ | ⟨_, _, hx⟩
  · exact absurd hok.1 hx
  have b1 := byteOf_num1 a2
  have b2 := byteOf_num1 c2
  have b3 := byteOf_num1 d2
  have b4 := byteOf_num2 e2
  have hll := readLocs_length (numOf (takeR (takeR st 1).2 1).1) (takeR (takeR st 1).2 1).2
  clear h g1 e1 d1 l1 l2 c1
  generalize takeR st 1 = A at *
  generalize takeR A.2 1 = C at *
  generalize readLocs (numOf C.1) C.2 = L at *
  generalize takeR L.2 1 = D at *
  generalize takeR D.2 2 = E at *
  generalize takeR E.2 (numOf E.1) = G at *
  rw [a1]
  simp only [fnBytes]
  rw [hx, g2, l3, hll]
  generalize byteOf ((numOf A.1 : Nat) : Int) = y1 at b1 ⊢
  generalize byteOf ((numOf C.1 : Nat) : Int) = y2 at b2 ⊢
  generalize byteOf ((numOf D.1 : Nat) : Int) = y3 at b3 ⊢
  generalize byteOf ((numOf E.1 : Nat) : Int) = y4 at b4 ⊢
  generalize byteOf (((numOf E.1 : Nat) : Int) / 256) = y5 at b4 ⊢
  rw [← b1, ← b2, ← b3, ← b4]
  simp
/-- what is left, so many functions later. -/
def stAt : Nat → Rd → Rd
  | 0, st => st
  | k + 1, st => (readFn (stAt k st)).2.2
def fnsTo (k : Nat) (st : Rd) : List Fn := (List.range k).map fun i => (readFn (stAt i st)).1
theorem fnsTo_succ (k : Nat) (st : Rd) : fnsTo (k + 1) st = fnsTo k st ++ [(readFn (stAt k st)).1] := by simp [fnsTo, List.range_succ]
theorem fnsTo_length (k : Nat) (st : Rd) : (fnsTo k st).length = k := by simp [fnsTo]
/-- a program, and whether it was told to its end. -/
def readProg (s : List UInt8) : List Fn × Bool :=
  if ∀ i, i < numOf (takeR (some s) 1).1 → (readFn (stAt i (takeR (some s) 1).2)).2.1 = true then (fnsTo (numOf (takeR (some s) 1).1) (takeR (some s) 1).2, decide (stAt (numOf (takeR (some s) 1).1) (takeR (some s) 1).2 = some [])) else ([], false)
def decProg (s : List UInt8) : List Fn × Int :=
  if 2000 < s.length then ([], 2) else if (readProg s).2 = false then ([], 1) else if progErr (readProg s).1 ≠ 0 then ([], progErr (readProg s).1) else ((readProg s).1, 0)
theorem stAt_app (l : List Fn) (n : Nat) (r : List UInt8) (h : ∀ f ∈ l, fnErr f n = 0) : ∀ i, i ≤ l.length → stAt i (some (l.flatMap fnBytes ++ r)) = some ((l.drop i).flatMap fnBytes ++ r) := by
  intro i
  induction i with
  | zero => intro _; rfl
  | succ i ih =>
    intro hi
    have hi' : i < l.length := by omega
    simp only [stAt]
    rw [ih (by omega), List.drop_eq_getElem_cons hi', List.flatMap_cons, List.append_assoc, readFn_app _ n _ (h _ (List.getElem_mem hi'))]
theorem stAt_inv (st : Rd) : ∀ k r, (∀ i, i < k → (readFn (stAt i st)).2.1 = true) → stAt k st = some r → st = some ((fnsTo k st).flatMap fnBytes ++ r) := by
  intro k
  induction k with
  | zero => intro r _ h; exact h
  | succ k ih =>
    intro r hok h
    have h1 := readFn_inv (stAt k st) r (hok k (by omega)) h
    have h2 := ih _ (fun i hi => hok i (by omega)) h1
    rw [fnsTo_succ, List.flatMap_append]
    simpa using h2
theorem dec_prog (l : List Fn) (h : progErr l = 0) (hs : (progBytes l).length ≤ 2000) : decProg (progBytes l) = (l, 0) := by
  obtain ⟨h0, h5, hf, hh⟩ := progErr_zero h
  have t1 : takeR (some (progBytes l)) 1 = ([byteOf (l.length : Int)], some (l.flatMap fnBytes)) := takeR_app [byteOf (l.length : Int)] _ 1 rfl
  have hst : ∀ i, i ≤ l.length → stAt i (some (l.flatMap fnBytes)) = some ((l.drop i).flatMap fnBytes) := fun i hi => by
    have := stAt_app l l.length [] hf i hi
    simpa using this
  have hrf : ∀ i (hi : i < l.length), readFn (stAt i (some (l.flatMap fnBytes))) = (l[i], true, some ((l.drop (i + 1)).flatMap fnBytes)) := fun i hi => by
    rw [hst i (by omega), List.drop_eq_getElem_cons hi, List.flatMap_cons, readFn_app _ l.length _ (hf _ (List.getElem_mem hi))]
  have hp : readProg (progBytes l) = (l, true) := by
    unfold readProg
    rw [t1]
    simp only []
    rw [num1_byteN _ (by omega), if_pos (fun i hi => by rw [hrf i hi])]
    rw [hst l.length (Nat.le_refl _)]
    simp only [List.drop_length, List.flatMap_nil, decide_true]
    congr 1
    refine List.ext_getElem (fnsTo_length _ _) fun i h1 h2 => ?_
    simp [fnsTo, hrf i h2]
  unfold decProg
  rw [if_neg (by omega), hp]
  simp [h]
theorem prog_dec (s : List UInt8) : ((decProg s).2 ≠ 0 ∧ (decProg s).1 = []) ∨ ((decProg s).2 = 0 ∧ progErr (decProg s).1 = 0 ∧ progBytes (decProg s).1 = s) := by
  unfold decProg
  by_cases h1 : 2000 < s.length
  · rw [if_pos h1]; exact .inl ⟨by decide, rfl⟩
  rw [if_neg h1]
  by_cases h2 : (readProg s).2 = false
  · rw [if_pos h2]; exact .inl ⟨by decide, rfl⟩
  rw [if_neg h2]
  by_cases h3 : progErr (readProg s).1 = 0
  · rw [if_neg (by simp [h3])]
    refine .inr ⟨rfl, h3, ?_⟩
    unfold readProg at h2 ⊢
    split at h2
    · rename_i hok
      rw [if_pos hok]
      simp at h2
      have h4 := stAt_inv _ _ _ hok h2
      obtain ⟨a1, a2⟩ := takeR_inv h4
      simp only [progBytes]
      rw [fnsTo_length]
      have := byteOf_num1 a2
      have h5 : s = (takeR (some s) 1).1 ++ ((fnsTo (numOf (takeR (some s) 1).1) (takeR (some s) 1).2).flatMap fnBytes ++ []) := by simpa using a1
      generalize (fnsTo (numOf (takeR (some s) 1).1) (takeR (some s) 1).2).flatMap fnBytes = X at h5 ⊢
      rw [← this] at h5
      simpa using h5.symm
    · simp at h2
  · rw [if_pos h3]; exact .inl ⟨h3, rfl⟩
end Go.Proofs.Ytjaklmmekmhfcaa

