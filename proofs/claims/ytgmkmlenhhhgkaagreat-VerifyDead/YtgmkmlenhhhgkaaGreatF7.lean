/- My texts Pr Vh Vi Vj Vk: what of them is needed, joined. -/
import Derived.RangeFuncBox
import Derived.Deep.RegionHeld3
import Derived.Test.YtgmkmlenhhhgkaaGreatF2
import Derived.Test.YtgmkmlenhhhgkaaGreatF4
set_option maxRecDepth 100000
set_option maxHeartbeats 8000000
/- Plain laws of reading a program back. -/
namespace Go.Proofs.YtgmkmlenhhhgkaaGreat
open Go.RowKit
set_option linter.unusedSimpArgs false
set_option linter.unusedVariables false
theorem xchZ {st : Rd} {n : Nat} {r : List UInt8} (h : (takeR st n).2 = some r) : st = some ((takeR st n).1 ++ r) ∧ (takeR st n).1.length = n := by
  cases st with
  | none => simp [takeR] at h
  | some s =>
    by_cases hle : n ≤ s.length
    · simp [takeR, hle] at h ⊢
      subst h
      simp
    · simp [takeR, hle] at h
theorem xcgZ (l r : List UInt8) (n : Nat) (h : l.length = n) : takeR (some (l ++ r)) n = (l, some r) := by
  subst h; simp [takeR]
theorem len_one {l : List UInt8} (h : l.length = 1) : ∃ b, l = [b] := by
  cases l with
  | nil => simp at h
  | cons b r => cases r with
    | nil => exact ⟨b, rfl⟩
    | cons _ _ => simp at h
theorem len_two {l : List UInt8} (h : l.length = 2) : ∃ b c, l = [b, c] := by
  cases l with
  | nil => simp at h
  | cons b r =>
    obtain ⟨c, rfl⟩ := len_one (l := r) (by simpa using h)
    exact ⟨b, c, rfl⟩
theorem numOf_b (b : UInt8) : numOf [b] = b.toNat := by simp [numOf]
theorem xfvZ (b c : UInt8) : numOf [b, c] = 256 * b.toNat + c.toNat := by simp [numOf]
theorem xcoZ {l : List UInt8} (h : l.length = 1) : [xafZ ((numOf l : Nat) : Int)] = l := by
  obtain ⟨b, rfl⟩ := len_one h
  have := b.toNat_lt
  rw [xb6Z _ b (by rw [numOf_b]; omega)]
theorem xizZ {l : List UInt8} (h : l.length = 2) : [xafZ (((numOf l : Nat) : Int) / 256), xafZ ((numOf l : Nat) : Int)] = l := by
  obtain ⟨b, c, rfl⟩ := len_two h
  have := b.toNat_lt
  have := c.toNat_lt
  rw [xb6Z _ b (by rw [xfvZ]; omega), xb6Z _ c (by rw [xfvZ]; omega)]
theorem xc1Z (z : Int) (h : 0 ≤ z ∧ z < 256) : ((numOf [xafZ z] : Nat) : Int) = z := by
  rw [numOf_b, xbjZ]; omega
theorem xgeZ (n : Nat) (h : n < 256) : numOf [xafZ (n : Int)] = n := by
  have := xc1Z (n : Int) (by omega)
  omega
theorem num2_byteN (n : Nat) (h : n < 65536) : numOf [xafZ ((n : Int) / 256), xafZ (n : Int)] = n := by
  have h1 := xbjZ ((n : Int) / 256)
  have h2 := xbjZ (n : Int)
  rw [xfvZ]; omega
theorem xilZ (n : Nat) (st : Rd) : ∀ r, (xanZ n st).2 = some r → ∃ bs, bs.length = n ∧ st = some (bs ++ r) ∧ (xanZ n st).1.map xafZ = bs := by
  induction n with
  | zero => intro r h; exact ⟨[], rfl, by simpa [xanZ] using h, rfl⟩
  | succ n ih =>
    intro r h
    simp only [xanZ] at h ⊢
    obtain ⟨h1, h2⟩ := xchZ h
    obtain ⟨bs, h3, h4, h5⟩ := ih _ h1
    refine ⟨bs ++ (takeR (xanZ n st).2 1).1, by simp [h3, h2], by rw [List.append_assoc]; exact h4, ?_⟩
    rw [List.map_append, h5]
    congr 1
    exact xcoZ h2
theorem xikZ (l : List Int) (r : List UInt8) (h : ∀ z ∈ l, 0 ≤ z ∧ z < 256) : ∀ n, n ≤ l.length → xanZ n (some (l.map xafZ ++ r)) = (l.take n, some ((l.drop n).map xafZ ++ r)) := by
  intro n
  induction n with
  | zero => intro _; simp [xanZ]
  | succ n ih =>
    intro hn
    have hn' : n < l.length := by omega
    have e1 : (l.drop n).map xafZ ++ r = [xafZ l[n]] ++ ((l.drop (n + 1)).map xafZ ++ r) := by rw [List.drop_eq_getElem_cons hn', List.map_cons]; rfl
    simp only [xanZ]
    rw [ih (by omega)]
    simp only []
    rw [e1, xcgZ [xafZ l[n]] _ 1 rfl]
    simp only []
    rw [xc1Z _ (h _ (List.getElem_mem hn')), xavZ l n l[n] (List.getElem?_eq_getElem hn')]
theorem xgiZ (f : Fn) (n : Nat) (r : List UInt8) (h : fnErr f n = 0) : xbeZ (some (xasZ f ++ r)) = (f, true, some r) := by
  obtain ⟨hL, hP, hT, hC0, hC, _⟩ := xebZ h
  obtain ⟨P, ls, R, code⟩ := f
  simp only at hL hP hT hC0 hC
  have hcl := xcsZ code
  have hc40 := (xcbZ _ hC).1
  simp only [xb9Z, Bool.and_eq_true, decide_eq_true_eq, List.all_eq_true] at hT
  have hls : ∀ z ∈ ls, 0 ≤ z ∧ z < 256 := fun z hz => by
    have := hT.1 z hz
    simp [xb5Z] at this
    omega
  have e0 : xasZ (P, ls, R, code) ++ r = [xafZ P] ++ ([xafZ (ls.length : Int)] ++ (ls.map xafZ ++ ([xafZ R] ++ ([xafZ (((xaiZ code).length : Int) / 256), xafZ ((xaiZ code).length : Int)] ++ (xaiZ code ++ r))))) := by simp [xasZ]
  rw [e0]
  simp only [xbeZ]
  rw [xcgZ [xafZ P] _ 1 rfl]
  simp only []
  rw [xcgZ [xafZ (ls.length : Int)] _ 1 rfl]
  simp only []
  rw [xgeZ _ (by omega), xikZ ls _ hls ls.length (Nat.le_refl _)]
  simp only [List.drop_length, List.take_length, List.map_nil, List.nil_append]
  rw [xcgZ [xafZ R] _ 1 rfl]
  simp only []
  rw [xcgZ [xafZ (((xaiZ code).length : Int) / 256), xafZ ((xaiZ code).length : Int)] _ 2 rfl]
  simp only []
  rw [num2_byteN _ (by omega), xcgZ (xaiZ code) _ _ rfl]
  simp only []
  rw [dec_enc code _ (Nat.le_refl _) hC, xc1Z P (by omega), xc1Z R (by omega)]
  simp
theorem readFn_inv (st : Rd) (r : List UInt8) (hok : (xbeZ st).2.1 = true) (h : (xbeZ st).2.2 = some r) : st = some (xasZ (xbeZ st).1 ++ r) := by
  simp only [xbeZ] at hok h ⊢
  obtain ⟨g1, g2⟩ := xchZ h
  obtain ⟨e1, e2⟩ := xchZ g1
  obtain ⟨d1, d2⟩ := xchZ e1
  obtain ⟨bs, l1, l2, l3⟩ := xilZ _ _ _ d1
  obtain ⟨c1, c2⟩ := xchZ l2
  obtain ⟨a1, a2⟩ := xchZ c1
  simp only [Bool.and_eq_true, decide_eq_true_eq] at hok
  have hx := enc_dec _ _ (Nat.le_refl (takeR (takeR (takeR (xanZ (numOf (takeR (takeR st 1).2 1).1) (takeR (takeR st 1).2 1).2).2 1).2 2).2 (numOf (takeR (takeR (xanZ (numOf (takeR (takeR st 1).2 1).1) (takeR (takeR st 1).2 1).2).2 1).2 2).1)).1.length)
  rcases hx with ⟨hx, _⟩ | ⟨_, _, hx⟩
  · exact absurd hok.1 hx
  have b1 := xcoZ a2
  have b2 := xcoZ c2
  have b3 := xcoZ d2
  have b4 := xizZ e2
  have hll := xdvZ (numOf (takeR (takeR st 1).2 1).1) (takeR (takeR st 1).2 1).2
  clear h g1 e1 d1 l1 l2 c1
  generalize takeR st 1 = A at *
  generalize takeR A.2 1 = C at *
  generalize xanZ (numOf C.1) C.2 = L at *
  generalize takeR L.2 1 = D at *
  generalize takeR D.2 2 = E at *
  generalize takeR E.2 (numOf E.1) = G at *
  rw [a1]
  simp only [xasZ]
  rw [hx, g2, l3, hll]
  generalize xafZ ((numOf A.1 : Nat) : Int) = y1 at b1 ⊢
  generalize xafZ ((numOf C.1 : Nat) : Int) = y2 at b2 ⊢
  generalize xafZ ((numOf D.1 : Nat) : Int) = y3 at b3 ⊢
  generalize xafZ ((numOf E.1 : Nat) : Int) = y4 at b4 ⊢
  generalize xafZ (((numOf E.1 : Nat) : Int) / 256) = y5 at b4 ⊢
  rw [← b1, ← b2, ← b3, ← b4]
  simp
def stAt : Nat → Rd → Rd
  | 0, st => st
  | k + 1, st => (xbeZ (stAt k st)).2.2
def fnsTo (k : Nat) (st : Rd) : List Fn := (List.range k).map fun i => (xbeZ (stAt i st)).1
theorem xf4Z (k : Nat) (st : Rd) : fnsTo (k + 1) st = fnsTo k st ++ [(xbeZ (stAt k st)).1] := by simp [fnsTo, List.range_succ]
theorem xdoZ (k : Nat) (st : Rd) : (fnsTo k st).length = k := by simp [fnsTo]
def xbaZ (s : List UInt8) : List Fn × Bool :=
  if ∀ i, i < numOf (takeR (some s) 1).1 → (xbeZ (stAt i (takeR (some s) 1).2)).2.1 = true then (fnsTo (numOf (takeR (some s) 1).1) (takeR (some s) 1).2, decide (stAt (numOf (takeR (some s) 1).1) (takeR (some s) 1).2 = some [])) else ([], false)
def xbcZ (s : List UInt8) : List Fn × Int :=
  if 2000 < s.length then ([], 2) else if (xbaZ s).2 = false then ([], 1) else if xakZ (xbaZ s).1 ≠ 0 then ([], xakZ (xbaZ s).1) else ((xbaZ s).1, 0)
theorem stAt_app (l : List Fn) (n : Nat) (r : List UInt8) (h : ∀ f ∈ l, fnErr f n = 0) : ∀ i, i ≤ l.length → stAt i (some (l.flatMap xasZ ++ r)) = some ((l.drop i).flatMap xasZ ++ r) := by
  intro i
  induction i with
  | zero => intro _; rfl
  | succ i ih =>
    intro hi
    have hi' : i < l.length := by omega
    simp only [stAt]
    rw [ih (by omega), List.drop_eq_getElem_cons hi', List.flatMap_cons, List.append_assoc, xgiZ _ n _ (h _ (List.getElem_mem hi'))]
theorem stAt_inv (st : Rd) : ∀ k r, (∀ i, i < k → (xbeZ (stAt i st)).2.1 = true) → stAt k st = some r → st = some ((fnsTo k st).flatMap xasZ ++ r) := by
  intro k
  induction k with
  | zero => intro r _ h; exact h
  | succ k ih =>
    intro r hok h
    have h1 := readFn_inv (stAt k st) r (hok k (by omega)) h
    have h2 := ih _ (fun i hi => hok i (by omega)) h1
    rw [xf4Z, List.flatMap_append]
    simpa using h2
theorem dec_prog (l : List Fn) (h : xakZ l = 0) (hs : (xa8Z l).length ≤ 2000) : xbcZ (xa8Z l) = (l, 0) := by
  obtain ⟨h0, h5, hf, hh⟩ := xdqZ h
  have t1 : takeR (some (xa8Z l)) 1 = ([xafZ (l.length : Int)], some (l.flatMap xasZ)) := xcgZ [xafZ (l.length : Int)] _ 1 rfl
  have hst : ∀ i, i ≤ l.length → stAt i (some (l.flatMap xasZ)) = some ((l.drop i).flatMap xasZ) := fun i hi => by
    have := stAt_app l l.length [] hf i hi
    simpa using this
  have hrf : ∀ i (hi : i < l.length), xbeZ (stAt i (some (l.flatMap xasZ))) = (l[i], true, some ((l.drop (i + 1)).flatMap xasZ)) := fun i hi => by
    rw [hst i (by omega), List.drop_eq_getElem_cons hi, List.flatMap_cons, xgiZ _ l.length _ (hf _ (List.getElem_mem hi))]
  have hp : xbaZ (xa8Z l) = (l, true) := by
    unfold xbaZ
    rw [t1]
    simp only []
    rw [xgeZ _ (by omega), if_pos (fun i hi => by rw [hrf i hi])]
    rw [hst l.length (Nat.le_refl _)]
    simp only [List.drop_length, List.flatMap_nil, decide_true]
    congr 1
    refine List.ext_getElem (xdoZ _ _) fun i h1 h2 => ?_
    simp [fnsTo, hrf i h2]
  unfold xbcZ
  rw [if_neg (by omega), hp]
  simp [h]
theorem prog_dec (s : List UInt8) : ((xbcZ s).2 ≠ 0 ∧ (xbcZ s).1 = []) ∨ ((xbcZ s).2 = 0 ∧ xakZ (xbcZ s).1 = 0 ∧ xa8Z (xbcZ s).1 = s) := by
  unfold xbcZ
  by_cases h1 : 2000 < s.length
  · rw [if_pos h1]; exact .inl ⟨by decide, rfl⟩
  rw [if_neg h1]
  by_cases h2 : (xbaZ s).2 = false
  · rw [if_pos h2]; exact .inl ⟨by decide, rfl⟩
  rw [if_neg h2]
  by_cases h3 : xakZ (xbaZ s).1 = 0
  · rw [if_neg (by simp [h3])]
    refine .inr ⟨rfl, h3, ?_⟩
    unfold xbaZ at h2 ⊢
    split at h2
    · rename_i hok
      rw [if_pos hok]
      simp at h2
      have h4 := stAt_inv _ _ _ hok h2
      obtain ⟨a1, a2⟩ := xchZ h4
      simp only [xa8Z]
      rw [xdoZ]
      have := xcoZ a2
      have h5 : s = (takeR (some s) 1).1 ++ ((fnsTo (numOf (takeR (some s) 1).1) (takeR (some s) 1).2).flatMap xasZ ++ []) := by simpa using a1
      generalize (fnsTo (numOf (takeR (some s) 1).1) (takeR (some s) 1).2).flatMap xasZ = X at h5 ⊢
      rw [← this] at h5
      simpa using h5.symm
    · simp at h2
  · rw [if_pos h3]; exact .inl ⟨h3, rfl⟩
end Go.Proofs.YtgmkmlenhhhgkaaGreat


/- read. -/
namespace Go.Proofs.YtgmkmlenhhhgkaaGreat
open Go.RowKit
set_option linter.unusedSimpArgs false
set_option linter.unusedVariables false
abbrev FnV := Value × Value × Value × Value
def fnCells (q : List FnV) : List Value := q.flatMap fun c => [c.1, c.2.1, c.2.2.1, c.2.2.2]
def FnRows (W : World) (B : Nat) (q : List FnV) (l : List Fn) : Prop := q.length = l.length ∧ ∀ (k : Nat) (c : FnV) (f : Fn), q[k]? = some c → l[k]? = some f → FnOwn W B c.1 c.2.1 c.2.2.1 c.2.2.2 f
theorem FnRows.kept {W W' : World} {B : Nat} {q : List FnV} {l : List Fn} {row : Option Nat} (h : FnRows W B q l) (hg : W.grownBy W' row) (he : NoRow W row) : FnRows W' B q l := ⟨h.1, fun k c f h1 h2 => (h.2 k c f h1 h2).kept hg he⟩
theorem FnRows.snoc {W : World} {B : Nat} {q : List FnV} {l : List Fn} {c : FnV} {f : Fn} (h : FnRows W B q l) (hf : FnOwn W B c.1 c.2.1 c.2.2.1 c.2.2.2 f) : FnRows W B (q ++ [c]) (l ++ [f]) := by
  refine ⟨by simp [h.1], fun k c' f' h1 h2 => ?_⟩
  by_cases hk : k < q.length
  · rw [List.getElem?_append_left hk] at h1
    rw [List.getElem?_append_left (by rw [← h.1]; exact hk)] at h2
    exact h.2 k c' f' h1 h2
  · have hk1 : k < (q ++ [c]).length := (List.getElem?_eq_some_iff.1 h1).1
    simp at hk1
    obtain rfl : k = q.length := by omega
    simp at h1
    rw [h.1] at h2
    simp at h2
    subst h1; subst h2; exact hf
theorem xgrZ (q : List FnV) : (fnCells q).length = q.length * 4 := by
  induction q with
  | nil => rfl
  | cons x r ih => simp only [fnCells, List.flatMap_cons, List.length_append, List.length_cons, List.length_nil] at ih ⊢; omega
theorem xeaZ (q : List FnV) : ∀ (k : Nat) (c : FnV), q[k]? = some c → (fnCells q)[k * 4]? = some c.1 ∧ (fnCells q)[k * 4 + 1]? = some c.2.1 ∧ (fnCells q)[k * 4 + 2]? = some c.2.2.1 ∧ (fnCells q)[k * 4 + 3]? = some c.2.2.2 := by
  induction q with
  | nil => intro k c h; simp at h
  | cons x r ih =>
    intro k c h
    cases k with
    | zero => simp at h; subst h; simp [fnCells]
    | succ k =>
      have := ih k c (by simpa using h)
      simp only [fnCells, List.flatMap_cons] at this ⊢
      refine ⟨?_, ?_, ?_, ?_⟩
      · rw [List.getElem?_append_right (by simp; omega)]; simpa [show (k + 1) * 4 - 4 = k * 4 from by omega] using this.1
      · rw [List.getElem?_append_right (by simp; omega)]; simpa [show (k + 1) * 4 + 1 - 4 = k * 4 + 1 from by omega] using this.2.1
      · rw [List.getElem?_append_right (by simp; omega)]; simpa [show (k + 1) * 4 + 2 - 4 = k * 4 + 2 from by omega] using this.2.2.1
      · rw [List.getElem?_append_right (by simp; omega)]; simpa [show (k + 1) * 4 + 3 - 4 = k * 4 + 3 from by omega] using this.2.2.2
theorem xh1Z {W : World} {base B : Nat} {v : Value} {q : List FnV} {l : List Fn} {n : Nat} (hn : n = l.length) (hm : n ≤ maxLen) (h : W.ownsRow base 28 4 v n (fnCells q)) (hq : FnRows W B q l) : FnsAt W v l := by
  subst hn
  rcases h.2 with ⟨rfl, h0⟩ | ⟨g, cap, cur, rfl, hb, hg, hn, hc, hs, ht⟩
  · refine ⟨none, 0, by rw [h0], hm, fun k o hk => ?_⟩
    have := xbiZ hk
    omega
  · refine ⟨_, cap, rfl, hm, fun k f hk => ?_⟩
    have hk2 := xbiZ hk
    obtain ⟨c, hc'⟩ := xagZ (l := q) (k := k) (by rw [hq.1]; exact hk2)
    obtain ⟨a0, a1, a2, a3⟩ := xeaZ q k c hc'
    rw [← ht, List.getElem?_take_of_lt (by omega)] at a0 a1 a2 a3
    refine ⟨g, 0, c.1, c.2.1, c.2.2.1, c.2.2.2, rfl, xabZ hg, ?_, ?_, ?_, ?_, (hq.2 k c f hc' hk).1⟩
    · rw [xaaZ hg]; simpa using a0
    · rw [xaaZ hg]; simpa using a1
    · rw [xaaZ hg]; simpa using a2
    · rw [xaaZ hg]; simpa using a3
def FnsOwn (W : World) (B : Nat) (v : Value) (l : List Fn) : Prop := ∃ (q : List FnV) (n : Nat), n = l.length ∧ n ≤ 255 ∧ W.ownsRow B 28 4 v n (fnCells q) ∧ FnRows W B q l
theorem FnsOwn.at {W : World} {B : Nat} {v : Value} {l : List Fn} (h : FnsOwn W B v l) : FnsAt W v l := by
  obtain ⟨q, n, h1, h2, h3, h4⟩ := h
  exact xh1Z h1 (by unfold maxLen; omega) h3 h4
theorem FnsOwn.set {W : World} {B : Nat} {v : Value} {l : List Fn} (h : FnsOwn W B v l) {r j : Nat} {cs : Array Value} {fz : Nat × Nat} (hr : W.heap[r]? = some (.cells cs 24 fz)) (x : Value) : FnsOwn (W.setCell ⟨r, j, none⟩ x) B v l := by
  obtain ⟨q, n, h1, h2, h3, h4⟩ := h
  exact ⟨q, n, h1, h2, h3.kept (xarZ W r j x) (.inr (xa0Z h3 hr (by decide)).symm), h4.kept (xarZ W r j x) (xczZ hr (by decide) (by decide))⟩
theorem FnsOwn.below {W W' : World} {B : Nat} {v : Value} {l : List Fn} (h : FnsOwn W B v l) (hb : Below W.heap.size W W') : FnsOwn W' B v l := by
  obtain ⟨q, n, h1, h2, h3, h4⟩ := h
  exact ⟨q, n, h1, h2, h3.kept (xbpZ hb) (by cases hv : Value.ownBlock v <;> simp), h4.kept (xbpZ hb) (xcuZ _)⟩
theorem infoFn : (Tryz.prog.info? 28).map (fun i => (i.zero, i.size, i.bytes)) = some (some (.agg #[.int .i64 0, .slice none 0 0, .int .i64 0, .slice none 0 0]), 4, 64) := by kernel_rfl
def ReadI (w : World) (st : Rd) (k : Nat) (wr : World) : Prop :=
  ∃ vF q, RdAt wr (w.heap.size + 1) (stAt k st) ∧ wr.heap[w.heap.size]? = some (.cells #[.slice none 0 0] 24 (0, 0)) ∧ wr.heap[w.heap.size + 1 + 1]? = some (.cells #[vF] 24 (0, 0)) ∧ wr.ownsRow w.heap.size 28 4 vF k (fnCells q) ∧ FnRows wr w.heap.size q (fnsTo k st) ∧ (∀ i, i < k → (xbeZ (stAt i st)).2.1 = true) ∧ Below w.heap.size w wr
theorem read_any (s : ByteArray) (hs : s.size ≤ 140737488351232) (w : World) : Calls Tryz.prog 53 #[.string s] w fun e w' => ∃ p n c, e = .returned (.tuple #[.agg #[.slice p n c], .bool (xbaZ s.data.toList).2]) ∧ ((xbaZ s.data.toList).2 = true → FnsOwn w' w.heap.size (.slice p n c) (xbaZ s.data.toList).1) ∧ Below w.heap.size w w' := by
  obtain ⟨i0, hi, hz0, hz1, hz2⟩ := info_parts infoFn
  have g1 := xatZ w (.cells #[.slice none 0 0] 24)
  have g2 := xatZ (w.alloc (.cells #[.slice none 0 0] 24)) (.cells #[.string s, .bool false] 116)
  have g3 := xatZ ((w.alloc (.cells #[.slice none 0 0] 24)).alloc (.cells #[.string s, .bool false] 116)) (.cells #[.slice none 0 0] 24)
  have g1' := xaeZ (xaeZ g1 (.cells #[.string s, .bool false] 116)) (.cells #[.slice none 0 0] 24)
  have g2' := xaeZ g2 (.cells #[.slice none 0 0] 24)
  simp only [World.size_alloc] at g1' g2' g3
  have hB3 : Below w.heap.size w (((w.alloc (.cells #[.slice none 0 0] 24)).alloc (.cells #[.string s, .bool false] 116)).alloc (.cells #[.slice none 0 0] 24)) := (((Below.refl _ w).alloc (Nat.le_refl _) _).alloc (by simp) _).alloc (by simp; omega) _
  have hR3 : RdAt (((w.alloc (.cells #[.slice none 0 0] 24)).alloc (.cells #[.string s, .bool false] 116)).alloc (.cells #[.slice none 0 0] 24)) (w.heap.size + 1) (some s.data.toList) := ⟨s, g2', rfl, hs⟩
  obtain ⟨W3, hW3⟩ : ∃ W, (((w.alloc (.cells #[.slice none 0 0] 24)).alloc (.cells #[.string s, .bool false] 116)).alloc (.cells #[.slice none 0 0] 24)) = W := ⟨_, rfl⟩
  rw [hW3] at g1' g3 hB3 hR3
  clear g1 g2 g2'
  go_enter Tryz.func53, Tryz.ntmps53
  go_wp2_with fail
  refine (xcaZ _ 1 (some s.data.toList) _ hR3 (by omega)).mono ?_
  rintro e w4 ⟨rfl, h4, hg4⟩
  have hs3 := xabZ g3
  have p4 := (hg4.block _ hs3 (by simp)).trans g3
  have r4 := (hg4.block _ (by omega) (by simp)).trans g1'
  have hB4 := hB3.grown hg4 (by omega) (fun k hk => by cases hk; omega)
  have hn := xg7Z (some s.data.toList)
  obtain ⟨n, hn'⟩ : ∃ n, numOf (takeR (some s.data.toList) 1).1 = n := ⟨_, rfl⟩
  obtain ⟨st, hst⟩ : ∃ st, (takeR (some s.data.toList) 1).2 = st := ⟨_, rfl⟩
  rw [hn'] at hn ⊢
  rw [hst] at h4
  have HN : Hid (numOf (takeR (some s.data.toList) 1).1 = n) := hn'
  have HST : Hid ((takeR (some s.data.toList) 1).2 = st) := hst
  clear hn' hst hW3 hg4 g1' g3 hB3 hR3
  go_wp2
  go_loopw [13] (fun i wr => ∃ k : Nat, k ≤ n ∧ i = .int .i64 k ∧ ReadI w st k wr) (fun i _ => n - (intOf i).toNat)
  case atStart => exact ⟨0, Nat.zero_le _, rfl, _, [], h4, r4, p4, World.ownsRow_nil _ _ _ _, ⟨rfl, fun k c f h => by simp at h⟩, fun i hi => by omega, hB4⟩
  case round =>
    obtain ⟨k, hk, rfl, ⟨vF, q, hR, hr, hp, hrow, hq, hok, hB⟩⟩ := hrel
    clear h4 r4 p4 hB4
    have hpl := xabZ hp
    by_cases hlt : k < n
    · have hlt' : (k : Int) < (n : Int) := by omega
      go_wp2_with fail
      refine (xijZ _ _ _ hR).mono ?_
      rintro e w5 ⟨c0, c1, c2, c3, rfl, hF, hR5, hg5⟩
      obtain ⟨bk, hbk⟩ : ∃ x, (xbeZ (stAt k st)).2.1 = x := ⟨_, rfl⟩
      obtain ⟨f, hf⟩ : ∃ x, (xbeZ (stAt k st)).1 = x := ⟨_, rfl⟩
      rw [hbk]
      rw [hf] at hF
      have hF' := hF
      obtain ⟨⟨e0, ⟨p1, q1, e1, _⟩, e2, ⟨p3, q3, e3, _⟩⟩, _⟩ := hF'
      obtain ⟨P, L, R, C⟩ := f
      simp only at e0 e1 e2 e3
      subst e0 e1 e2 e3
      have HBK : Hid ((xbeZ (stAt k st)).2.1 = bk) := hbk
      have HF : Hid ((xbeZ (stAt k st)).1 = (P, L, R, C)) := hf
      clear hbk hf
      have hf6 := xatZ w5 (.cells #[.int .i64 P, .slice p1 L.length q1, .int .i64 R, .slice p3 C.length q3] 28)
      have hg6 := World.grownBy_alloc w5 (.cells #[.int .i64 P, .slice p1 L.length q1, .int .i64 R, .slice p3 C.length q3] 28) none
      obtain ⟨W6, hW6⟩ : ∃ W, w5.alloc (.cells #[.int .i64 P, .slice p1 L.length q1, .int .i64 R, .slice p3 C.length q3] 28) = W := ⟨_, rfl⟩
      rw [hW6] at hf6 hg6
      have hr5 := (hg5.block _ (xabZ hr) (by simp)).trans hr
      have hp5 := (hg5.block _ (xabZ hp) (by simp)).trans hp
      have hs5 := hg5.size
      have hr6 := (hg6.block _ (xabZ hr5) (by simp)).trans hr5
      have hp6 := (hg6.block _ (xabZ hp5) (by simp)).trans hp5
      have hR6 := hR5.kept hg6 (by simp)
      have hB6 := (hB.grown hg5 (by omega) (fun j hj => by cases hj; omega)).grown hg6 (by omega) (fun j hj => by cases hj)
      have hs6 := hg6.size
      cases bk
      · have d0 := xaaZ hr6 0
        have z0 := Lib.frozen_of_heap hr6 0
        simp at d0
        go_wp2
        have hr7 := heap_setCell_same W6 w.heap.size 0 _ _ (.slice none 0 0) hr6
        have t0 := xaaZ hr7 0
        simp at t0
        refine bodyPost_ret (v := .tuple #[.agg #[.slice none 0 0], .bool false]) (by simp [results, Tryz.results53, go_sem, t0]) rfl ?_
        have hno : (xbaZ s.data.toList).2 = false := by
          unfold xbaZ
          rw [if_neg (fun hall => by
            have := hall k (by rw [HN.out]; exact hlt)
            rw [HST.out, HBK.out] at this
            cases this)]
        rw [hno]
        exact ⟨_, _, _, rfl, (fun h => absurd h (by decide)), hB6.setCell (p := ⟨w.heap.size, 0, none⟩) (Nat.le_refl _) _⟩
      · obtain ⟨X, hX, _⟩ := hR
        have hnX : NoRow wr (some (w.heap.size + 1)) := xczZ hX (by decide) (by decide)
        have hq5 := (hq.kept hg5 hnX).kept hg6 (xcuZ _)
        have hF6 := (hF.low (show w.heap.size ≤ wr.heap.size by omega)).kept hg6 (xcuZ _)
        have hrow6 := (hrow.kept hg5 (.inr (xa0Z hrow hX (by decide)).symm)).kept hg6 (by cases hv : Value.ownBlock vF <;> simp)
        have d0 := xaaZ hf6 0
        have d1 := xaaZ hf6 1
        have d2 := xaaZ hf6 2
        have d3 := xaaZ hf6 3
        have d4 := xaaZ hp6 0
        simp at d0 d1 d2 d3 d4
        obtain ⟨pF, cF, rfl⟩ := xahZ hrow
        have hnews : ∀ (j : Nat) (u : Value), [Value.int .i64 P, .slice p1 L.length q1, .int .i64 R, .slice p3 C.length q3][j]? = some u → (W6.alloc (.cells #[.int .i64 P, .slice p1 L.length q1, .int .i64 R, .slice p3 C.length q3] 28)).cell? ((⟨W6.heap.size, 0, none⟩ : Addr).add j) = some u := by
          intro j u hj
          have hn := World.alloc_heap_new W6 (.cells #[.int .i64 P, .slice p1 L.length q1, .int .i64 R, .slice p3 C.length q3] 28)
          match j, hj with
          | 0, hj => simp at hj; subst hj; exact xaaZ hn 0
          | 1, hj => simp at hj; subst hj; exact xaaZ hn 1
          | 2, hj => simp at hj; subst hj; exact xaaZ hn 2
          | 3, hj => simp at hj; subst hj; exact xaaZ hn 3
          | k + 4, hj => simp at hj
        have hso : ∀ u ∈ [Value.int .i64 P, .slice p1 L.length q1, .int .i64 R, .slice p3 C.length q3], u.oneCell' = true := by
          intro u hu; simp at hu; rcases hu with rfl | rfl | rfl | rfl <;> rfl
        have hpne : (some (w.heap.size + 1 + 1) : Option Nat) ≠ Value.ownBlock (.slice pF k cF) := xa0Z hrow hp (by decide)
        have hXne : (some (w.heap.size + 1) : Option Nat) ≠ Value.ownBlock (.slice pF k cF) := xa0Z hrow hX (by decide)
        have hrne : (some w.heap.size : Option Nat) ≠ Value.ownBlock (.slice pF k cF) := xa0Z hrow hr (by decide)
        have hg7 := World.grownBy_alloc W6 (.cells #[.int .i64 P, .slice p1 L.length q1, .int .i64 R, .slice p3 C.length q3] 28) none
        have hrow7 := hrow6.alloc (.cells #[.int .i64 P, .slice p1 L.length q1, .int .i64 R, .slice p3 C.length q3] 28)
        have hr7 := xaeZ hr6 (.cells #[.int .i64 P, .slice p1 L.length q1, .int .i64 R, .slice p3 C.length q3] 28)
        have hp7 := xaeZ hp6 (.cells #[.int .i64 P, .slice p1 L.length q1, .int .i64 R, .slice p3 C.length q3] 28)
        go_wp2_with (at_builtin; refine wpList_append_own _ rfl _ _ 22 rfl w.heap.size 28 i0 (.agg #[.int .i64 0, .slice none 0 0, .int .i64 0, .slice none 0 0]) 4 64 Tryz.underlying22 hi hz0 hz1 hz2 rfl (by decide) _ _ _ rfl hrow7 ⟨W6.heap.size, 0, none⟩ 1 1 _ rfl rfl hnews hso (by unfold maxLen; omega) (by omega) (by simp; omega) ?_; intro v' w8 hown8 hg8 _; obtain ⟨g', cap', rfl⟩ := ownsRow_succ hown8; have hp8 := (hg8.block _ (xabZ hp7) hpne).trans hp7; have d8 := xaaZ hp8 0; have z8 := Lib.frozen_of_heap hp8 0)
        go_roundw
        case rel =>
          have hr8 := (hg8.block _ (xabZ hr7) hrne).trans hr7
          have hgs := xarZ w8 (w.heap.size + 1 + 1) 0 (.slice (some ⟨g', 0, none⟩) (k + 1) cap')
          have hnp : NoRow w8 (some (w.heap.size + 1 + 1)) := xczZ hp8 (by decide) (by decide)
          have hnr7 := noRow_row hrow7 (by decide) (by decide)
          refine ⟨k + 1, by omega, by go_num, _, q ++ [(.int .i64 P, .slice p1 L.length q1, .int .i64 R, .slice p3 C.length q3)], ?_, (heap_setCell_other w8 _ _ _ (by simp; omega)).trans hr8, heap_setCell_same w8 _ 0 _ _ _ hp8, ?_, ?_, ?_, ?_⟩
          · exact ((hR6.kept hg7 (by simp)).kept hg8 (fun e => hXne e.symm)).kept hgs (by simp)
          · have e1 : fnCells (q ++ [(.int .i64 P, .slice p1 L.length q1, .int .i64 R, .slice p3 C.length q3)]) = fnCells q ++ [.int .i64 P, .slice p1 L.length q1, .int .i64 R, .slice p3 C.length q3] := by simp [fnCells]
            rw [e1]
            exact hown8.kept hgs (.inr (xa0Z hown8 hp8 (by decide)).symm)
          · rw [xf4Z, HF.out]
            exact ((((hq5.kept hg7 (xcuZ _)).kept hg8 hnr7).kept hgs hnp)).snoc ((hF6.kept hg7 (xcuZ _)).kept hg8 hnr7 |>.kept hgs hnp)
          · intro i hi
            rcases Nat.lt_succ_iff_lt_or_eq.1 hi with h | rfl
            · exact hok i h
            · exact HBK.out
          · have hB7 := hB6.grown hg7 (by omega) (fun j hj => by cases hj)
            have hB8 := hB7.grown hg8 (by simp; omega) (fun j hj => (hrow.lt j hj).1)
            exact hB8.setCell (p := ⟨w.heap.size + 1 + 1, 0, none⟩) (by simp; omega) _
        case measure => simp [intOf]; omega
    · have hlt' : ¬ (k : Int) < (n : Int) := by omega
      obtain rfl : k = n := by omega
      obtain ⟨X, hX, hX2, hX3⟩ := hR
      obtain ⟨pF, cF, rfl⟩ := xahZ hrow
      have d0 := xaaZ hX 0
      have d1 := xaaZ hX 1
      have d2 := xaaZ hp 0
      have d3 := xaaZ hr 0
      have z3 := Lib.frozen_of_heap hr 0
      simp at d0 d1 d2 d3
      have hprog : xbaZ s.data.toList = (fnsTo k st, decide (stAt k st = some [])) := by
        unfold xbaZ
        rw [HN.out, HST.out, if_pos hok]
      have hr7 : ((wr.setCell ⟨w.heap.size, 0, none⟩ (.slice pF k cF)).drew).heap[w.heap.size]? = _ := heap_setCell_same wr w.heap.size 0 _ _ (.slice pF k cF) hr
      have t0 := xaaZ hr7 0
      simp at t0
      have hgs := (xarZ wr w.heap.size 0 (.slice pF k cF)).trans (xdyZ _ w.heap.size)
      have hB7 := hB.grown hgs (by omega) (fun j hj => by cases hj; omega)
      have hrow7 := hrow.kept hgs (.inr (xa0Z hrow hr (by decide)).symm)
      have hq7 := hq.kept hgs (xczZ hr (by decide) (by decide))
      have hfns : FnsOwn _ w.heap.size _ _ := ⟨q, k, (xdoZ k st).symm, by omega, hrow7, hq7⟩
      have HP := hideP hprog
      clear hprog hrow7 hq7 hgs hrow hq hr hp hX hr7
      rcases hst : stAt k st with _ | r
      · rw [hst] at d1
        have HS := hideP hst
        clear hst
        simp at d1
        go_wp2
        go_region
        all_goals
          go_wp2
          refine bodyPost_ret (v := .tuple #[.agg #[.slice pF k cF], .bool false]) (by simp [results, Tryz.results53, go_sem, t0]) rfl ?_
          rw [HP.out, HS.out]
          exact ⟨_, _, _, rfl, (fun _ => hfns), hB7⟩
      · rw [hst] at d1 hX2
        have HS := hideP hst
        clear hst
        simp at d1 hX2
        cases r with
        | nil =>
          obtain rfl : X = ⟨#[]⟩ := by
            obtain ⟨⟨x⟩⟩ := X
            simp at hX2
            rw [hX2]
          go_wp2
          go_region
          all_goals
            go_wp2
            refine bodyPost_ret (v := .tuple #[.agg #[.slice pF k cF], .bool true]) (by simp [results, Tryz.results53, go_sem, t0]) rfl ?_
            rw [HP.out, HS.out]
            exact ⟨pF, k, cF, by simp, (fun _ => hfns), hB7⟩
        | cons x r =>
          have hne : ¬ X = ⟨#[]⟩ := fun e => by rw [e] at hX2; simp at hX2
          have hne' : ¬ X.toList = [] := by rw [ByteArray.toList_eq, hX2]; simp
          clear hX2
          go_wp2
          go_region
          all_goals
            go_wp2
            refine bodyPost_ret (v := .tuple #[.agg #[.slice pF k cF], .bool false]) (by simp [results, Tryz.results53, go_sem, t0, hne']) rfl ?_
            rw [HP.out, HS.out]
            exact ⟨pF, k, cF, by simp, (fun _ => hfns), hB7⟩
end Go.Proofs.YtgmkmlenhhhgkaaGreat


/- prog.Decode. -/
namespace Go.Proofs.YtgmkmlenhhhgkaaGreat
open Go.RowKit
set_option linter.unusedSimpArgs false
set_option linter.unusedVariables false
theorem xe0Z (W : World) : FnsAt W (.slice none 0 0) [] := ⟨none, 0, rfl, Nat.zero_le _, fun k f h => by simp at h⟩
theorem xgwZ (s : ByteArray) (hs : s.size ≤ maxLen) (w : World) : Calls Tryz.prog 27 #[.string s] w fun e w' => ∃ v, e = .returned (.tuple #[.agg #[v], .int .i64 (xbcZ s.data.toList).2]) ∧ FnsAt w' v (xbcZ s.data.toList).1 ∧ Below w.heap.size w w' := by
  unfold maxLen at hs
  have g1 := xatZ w (.cells #[.slice none 0 0] 24)
  have hB1 : Below w.heap.size w (w.alloc (.cells #[.slice none 0 0] 24)) := (Below.refl _ w).alloc (Nat.le_refl _) _
  obtain ⟨W1, hW1⟩ : ∃ W, w.alloc (.cells #[.slice none 0 0] 24) = W := ⟨_, rfl⟩
  rw [hW1] at g1 hB1
  have hl1 := xabZ g1
  have d1 := xaaZ g1 0
  have z1 := Lib.frozen_of_heap g1 0
  simp at d1
  have hlen : s.data.toList.length = s.size := by simp
  by_cases hbig : 2000 < s.size
  · have hbig' : (2000 : Int) < (s.size : Int) := by omega
    have e0 : xbcZ s.data.toList = ([], 2) := by unfold xbcZ; rw [if_pos (by omega)]
    have HE := hideP e0
    clear e0 hlen
    have hr2 := heap_setCell_same W1 w.heap.size 0 _ _ (.slice none 0 0) g1
    have t0 := xaaZ hr2 0
    simp at t0
    have hB2 := hB1.setCell (p := ⟨w.heap.size, 0, none⟩) (Nat.le_refl _) (.slice none 0 0)
    go_enter Tryz.func27, Tryz.ntmps27
    go_wp2
    refine bodyPost_ret (v := .tuple #[.agg #[.slice none 0 0], .int .i64 2]) (by simp [results, Tryz.results27, go_sem, t0]) rfl ?_
    rw [HE.out]
    exact ⟨_, rfl, xe0Z _, hB2⟩
  · have hbig' : ¬ (2000 : Int) < (s.size : Int) := by omega
    obtain ⟨⟨l, ok⟩, hrp⟩ : ∃ x, xbaZ s.data.toList = x := ⟨_, rfl⟩
    have hrd := read_any s (by omega) W1
    rw [hrp] at hrd
    have e0 : xbcZ s.data.toList = if ok = false then ([], 1) else if xakZ l ≠ 0 then ([], xakZ l) else (l, 0) := by unfold xbcZ; rw [if_neg (by omega), hrp]
    have HE := hideP e0
    have HRD := hideP hrd
    clear e0 hlen hrp hrd
    go_enter Tryz.func27, Tryz.ntmps27
    go_wp2_with fail
    refine HRD.out.mono ?_
    rintro e w4 ⟨pv, nv, cv, rfl, hfns, hB4'⟩
    have hB4 := hB1.trans (hB4'.mono (by omega))
    have g4 := (hB4'.block _ hl1).trans g1
    have hs4 := hB4'.size
    have d4 := xaaZ g4 0
    have z4 := Lib.frozen_of_heap g4 0
    simp at d4
    have g5 := xaeZ g4 (.cells #[.slice pv nv cv] 24)
    have q5 := xatZ w4 (.cells #[.slice pv nv cv] 24)
    have hB5 := hB4.alloc (by omega) (.cells #[.slice pv nv cv] 24)
    have hB45 := ((Below.refl _ w4).alloc (Nat.le_refl _) (.cells #[.slice pv nv cv] 24))
    obtain ⟨W5, hW5⟩ : ∃ W, w4.alloc (.cells #[.slice pv nv cv] 24) = W := ⟨_, rfl⟩
    rw [hW5] at g5 q5 hB5 hB45
    have hl5 := xabZ q5
    have d5 := xaaZ q5 0
    have d5' := xaaZ g5 0
    have z5' := Lib.frozen_of_heap g5 0
    simp at d5 d5'
    cases ok
    · have hr2 := heap_setCell_same _ w.heap.size 0 _ _ (.slice none 0 0) g5
      have t0 := xaaZ hr2 0
      simp at t0
      have hB2 := hB5.setCell (p := ⟨w.heap.size, 0, none⟩) (Nat.le_refl _) (.slice none 0 0)
      clear HRD
      go_wp2
      refine bodyPost_ret (v := .tuple #[.agg #[.slice none 0 0], .int .i64 1]) (by simp [results, Tryz.results27, go_sem, t0]) rfl ?_
      rw [HE.out]
      exact ⟨_, rfl, xe0Z _, hB2⟩
    · replace hfns := hfns rfl
      have hf5 := hfns.below hB45
      have hck := xbnZ l _ W5 hf5.at
      obtain ⟨er, her⟩ : ∃ er, xakZ l = er := ⟨_, rfl⟩
      rw [her] at hck
      have HCK := hideP hck
      have HER := hideP her
      clear hck her HRD hfns
      go_wp2_with fail
      refine HCK.out.mono ?_
      rintro e w6 ⟨rfl, hB6'⟩
      have hs6 := hB6'.size
      have hB6 := hB5.trans (hB6'.mono (by omega))
      have g6 := (hB6'.block _ (by omega)).trans g5
      have q6 := (hB6'.block _ hl5).trans q5
      have hf6 := hf5.below hB6'
      have d6 := xaaZ g6 0
      have z6 := Lib.frozen_of_heap g6 0
      have d7 := xaaZ q6 0
      simp at d6 d7
      clear HCK g5 q5 hf5
      by_cases h0 : er = 0
      · have hr2 := heap_setCell_same _ w.heap.size 0 _ _ (.slice pv nv cv) g6
        have t0 := xaaZ hr2 0
        simp at t0
        have hB2 := hB6.setCell (p := ⟨w.heap.size, 0, none⟩) (Nat.le_refl _) (.slice pv nv cv)
        have hfx := (hf6.set (j := 0) g6 (.slice pv nv cv)).at
        subst h0
        go_wp2
        refine bodyPost_ret (v := .tuple #[.agg #[.slice pv nv cv], .int .i64 0]) (by simp [results, Tryz.results27, go_sem, t0]) rfl ?_
        rw [HE.out]
        simp only [HER.out]
        exact ⟨_, rfl, hfx, hB2⟩
      · have hr2 := heap_setCell_same _ w.heap.size 0 _ _ (.slice none 0 0) g6
        have t0 := xaaZ hr2 0
        simp at t0
        have hB2 := hB6.setCell (p := ⟨w.heap.size, 0, none⟩) (Nat.le_refl _) (.slice none 0 0)
        have h0' : (er != 0) = true := by simp [h0]
        go_wp2
        refine bodyPost_ret (v := .tuple #[.agg #[.slice none 0 0], .int .i64 er]) (by simp [results, Tryz.results27, go_sem, t0]) rfl ?_
        rw [HE.out, HER.out]
        have e9 : (if true = false then (([], 1) : List Fn × Int) else if er ≠ 0 then ([], er) else (l, 0)) = ([], er) := by simp [h0]
        rw [e9]
        exact ⟨_, rfl, xe0Z _, hB2⟩
end Go.Proofs.YtgmkmlenhhhgkaaGreat


/- SameProgram. -/
namespace Go.Proofs.YtgmkmlenhhhgkaaGreat
open Go.RowKit
set_option linter.unusedSimpArgs false
set_option linter.unusedVariables false
theorem xgkZ (l m : List Fn) (v u : Value) (w : World) (hl : FnsAt w v l) (hm : FnsAt w u m) : Calls Tryz.prog 28 #[.agg #[v], .agg #[u]] w fun e w' => e = .returned (.bool (decide (l = m))) ∧ Below w.heap.size w w' := by
  obtain ⟨p, cap, rfl, hlm, hc⟩ := hl
  obtain ⟨q, cap', rfl, hmm, hd⟩ := hm
  unfold maxLen at hlm hmm
  have g1 := xaeZ (xatZ w (.cells #[.slice p l.length cap] 24)) (.cells #[.slice q m.length cap'] 24)
  have g2 := xatZ (w.alloc (.cells #[.slice p l.length cap] 24)) (.cells #[.slice q m.length cap'] 24)
  have hB2 : Below w.heap.size w ((w.alloc (.cells #[.slice p l.length cap] 24)).alloc (.cells #[.slice q m.length cap'] 24)) := ((Below.refl _ w).alloc (Nat.le_refl _) _).alloc (by simp) _
  simp only [World.size_alloc] at g2
  obtain ⟨W2, hW2⟩ : ∃ W, (w.alloc (.cells #[.slice p l.length cap] 24)).alloc (.cells #[.slice q m.length cap'] 24) = W := ⟨_, rfl⟩
  rw [hW2] at g1 g2 hB2
  have hl2 := xabZ g2
  have a1 := xaaZ g1 0
  have a2 := xaaZ g2 0
  simp at a1 a2
  have HG1 := hideP g1
  have HG2 := hideP g2
  clear g1 g2
  by_cases hlen : l.length = m.length
  · have hlen' : ((l.length : Int) != (m.length : Int)) = false := by simp; omega
    have HLEN : Hid (l.length = m.length) := hlen
    have HC := hideP hc
    have HD := hideP hd
    clear hc hd hlen
    go_enter Tryz.func28, Tryz.ntmps28
    go_wp2
    go_loopw [5] (fun i wr => ∃ k : Nat, k ≤ l.length ∧ i = .int .i64 k ∧ l.take k = m.take k ∧ Below W2.heap.size W2 wr) (fun i _ => l.length - (intOf i).toNat)
    case atStart => exact ⟨0, Nat.zero_le _, rfl, by simp, Below.refl _ _⟩
    case round =>
      obtain ⟨k, hk, rfl, htk, hbw2⟩ := hrel
      have HT : Hid (l.take k = m.take k) := htk
      clear htk
      have hbw := hB2.trans (hbw2.mono hB2.size)
      have b1 := (hbw2.cell (p := ⟨w.heap.size, 0, none⟩) (by simp; omega)).trans a1
      have b2 := (hbw2.cell (p := ⟨w.heap.size + 1, 0, none⟩) (by simp; omega)).trans a2
      have hszr := hbw2.size
      by_cases hlt : k < l.length
      · have hlt2 : k < m.length := by have := HLEN.out; omega
        obtain ⟨⟨P, L, R, C⟩, ho⟩ := xagZ hlt
        obtain ⟨⟨P', L', R', C'⟩, ho'⟩ := xagZ hlt2
        obtain ⟨b, off, c0, c1, c2, c3, rfl, hb, x0, x1, x2, x3, hF⟩ := HC.out k _ ho
        obtain ⟨b', off', c0', c1', c2', c3', rfl, hb', x0', x1', x2', x3', hF'⟩ := HD.out k _ ho'
        have g0 := (hbw.cell (p := ⟨b, off + k * 4, none⟩) hb).trans x0
        have g1 := (hbw.cell (p := ⟨b, off + k * 4 + 1, none⟩) hb).trans x1
        have g2 := (hbw.cell (p := ⟨b, off + k * 4 + 2, none⟩) hb).trans x2
        have g3 := (hbw.cell (p := ⟨b, off + k * 4 + 3, none⟩) hb).trans x3
        have g0' := (hbw.cell (p := ⟨b', off' + k * 4, none⟩) hb').trans x0'
        have g1' := (hbw.cell (p := ⟨b', off' + k * 4 + 1, none⟩) hb').trans x1'
        have g2' := (hbw.cell (p := ⟨b', off' + k * 4 + 2, none⟩) hb').trans x2'
        have g3' := (hbw.cell (p := ⟨b', off' + k * 4 + 3, none⟩) hb').trans x3'
        have hFr := hF.below hbw
        have hFr' := hF'.below hbw
        have HO := hideP ho
        have HO' := hideP ho'
        clear ho ho' x0 x1 x2 x3 x0' x1' x2' x3'
        obtain ⟨rfl, ⟨p1, q1, rfl, _, _⟩, rfl, ⟨p3, q3, rfl, _, _⟩⟩ := hF
        obtain ⟨rfl, ⟨p1', q1', rfl, _, _⟩, rfl, ⟨p3', q3', rfl, _, _⟩⟩ := hF'
        simp only at g0 g1 g2 g3 g0' g1' g2' g3' hFr hFr'
        have hlti : (k : Int) < (l.length : Int) := by omega
        have hlti2 : (k : Int) < (m.length : Int) := by omega
        have y0 := fun o => xacZ g0 o
        have yy0 := fun o o' => xacZ (xacZ g0 o) o'
        have y1 := fun o => xacZ g1 o
        have yy1 := fun o o' => xacZ (xacZ g1 o) o'
        have y2 := fun o => xacZ g2 o
        have yy2 := fun o o' => xacZ (xacZ g2 o) o'
        have y3 := fun o => xacZ g3 o
        have yy3 := fun o o' => xacZ (xacZ g3 o) o'
        have y4 := fun o => xacZ g0' o
        have yy4 := fun o o' => xacZ (xacZ g0' o) o'
        have y5 := fun o => xacZ g1' o
        have yy5 := fun o o' => xacZ (xacZ g1' o) o'
        have y6 := fun o => xacZ g2' o
        have yy6 := fun o o' => xacZ (xacZ g2' o) o'
        have y7 := fun o => xacZ g3' o
        have yy7 := fun o o' => xacZ (xacZ g3' o) o'
        have y8 := fun o => xacZ b1 o
        have yy8 := fun o o' => xacZ (xacZ b1 o) o'
        have y9 := fun o => xacZ b2 o
        have yy9 := fun o o' => xacZ (xacZ b2 o) o'
        have hn1 : ¬ b = wr.heap.size := by omega
        have hn2 : ¬ b' = wr.heap.size := by omega
        have hn3 : ¬ b = wr.heap.size + 1 := by omega
        have hn4 : ¬ b' = wr.heap.size + 1 := by omega
        have hn5 : ¬ w.heap.size = wr.heap.size := by omega
        have hn6 : ¬ w.heap.size = wr.heap.size + 1 := by omega
        have hn7 : ¬ w.heap.size + 1 = wr.heap.size := by omega
        have h1A := xaeZ (xatZ wr (.cells #[.int .i64 P, .slice p1 L.length q1, .int .i64 R, .slice p3 C.length q3] 28)) (.cells #[.int .i64 P', .slice p1' L'.length q1', .int .i64 R', .slice p3' C'.length q3'] 28)
        have h2A := xatZ (wr.alloc (.cells #[.int .i64 P, .slice p1 L.length q1, .int .i64 R, .slice p3 C.length q3] 28)) (.cells #[.int .i64 P', .slice p1' L'.length q1', .int .i64 R', .slice p3' C'.length q3'] 28)
        have hbA : Below wr.heap.size wr ((wr.alloc (.cells #[.int .i64 P, .slice p1 L.length q1, .int .i64 R, .slice p3 C.length q3] 28)).alloc (.cells #[.int .i64 P', .slice p1' L'.length q1', .int .i64 R', .slice p3' C'.length q3'] 28)).drew := (((Below.refl _ wr).alloc (Nat.le_refl _) _).alloc (by simp) _).drew
        simp only [World.size_alloc] at h2A
        have h3A : (((wr.alloc (.cells #[.int .i64 P, .slice p1 L.length q1, .int .i64 R, .slice p3 C.length q3] 28)).alloc (.cells #[.int .i64 P', .slice p1' L'.length q1', .int .i64 R', .slice p3' C'.length q3'] 28)).drew).heap[wr.heap.size]? = _ := h1A
        have h4A : (((wr.alloc (.cells #[.int .i64 P, .slice p1 L.length q1, .int .i64 R, .slice p3 C.length q3] 28)).alloc (.cells #[.int .i64 P', .slice p1' L'.length q1', .int .i64 R', .slice p3' C'.length q3'] 28)).drew).heap[wr.heap.size + 1]? = _ := h2A
        obtain ⟨WA, hWA⟩ : ∃ W, ((wr.alloc (.cells #[.int .i64 P, .slice p1 L.length q1, .int .i64 R, .slice p3 C.length q3] 28)).alloc (.cells #[.int .i64 P', .slice p1' L'.length q1', .int .i64 R', .slice p3' C'.length q3'] 28)).drew = W := ⟨_, rfl⟩
        rw [hWA] at h3A h4A hbA
        clear h1A h2A
        have hlA := xabZ h4A
        have e0A := xaaZ h3A 0
        have f0A := xaaZ h4A 0
        have e1A := xaaZ h3A 1
        have f1A := xaaZ h4A 1
        have e2A := xaaZ h3A 2
        have f2A := xaaZ h4A 2
        have e3A := xaaZ h3A 3
        have f3A := xaaZ h4A 3
        simp at e0A f0A e1A f1A e2A f2A e3A f3A
        clear h3A h4A
        have hfA := hFr.below hbA
        have hgA := hFr'.below hbA
        have h1B := xaeZ (xatZ wr (.cells #[.int .i64 P', .slice p1' L'.length q1', .int .i64 R', .slice p3' C'.length q3'] 28)) (.cells #[.int .i64 P, .slice p1 L.length q1, .int .i64 R, .slice p3 C.length q3] 28)
        have h2B := xatZ (wr.alloc (.cells #[.int .i64 P', .slice p1' L'.length q1', .int .i64 R', .slice p3' C'.length q3'] 28)) (.cells #[.int .i64 P, .slice p1 L.length q1, .int .i64 R, .slice p3 C.length q3] 28)
        have hbB : Below wr.heap.size wr ((wr.alloc (.cells #[.int .i64 P', .slice p1' L'.length q1', .int .i64 R', .slice p3' C'.length q3'] 28)).alloc (.cells #[.int .i64 P, .slice p1 L.length q1, .int .i64 R, .slice p3 C.length q3] 28)).drew := (((Below.refl _ wr).alloc (Nat.le_refl _) _).alloc (by simp) _).drew
        simp only [World.size_alloc] at h2B
        have h3B : (((wr.alloc (.cells #[.int .i64 P', .slice p1' L'.length q1', .int .i64 R', .slice p3' C'.length q3'] 28)).alloc (.cells #[.int .i64 P, .slice p1 L.length q1, .int .i64 R, .slice p3 C.length q3] 28)).drew).heap[wr.heap.size]? = _ := h1B
        have h4B : (((wr.alloc (.cells #[.int .i64 P', .slice p1' L'.length q1', .int .i64 R', .slice p3' C'.length q3'] 28)).alloc (.cells #[.int .i64 P, .slice p1 L.length q1, .int .i64 R, .slice p3 C.length q3] 28)).drew).heap[wr.heap.size + 1]? = _ := h2B
        obtain ⟨WB, hWB⟩ : ∃ W, ((wr.alloc (.cells #[.int .i64 P', .slice p1' L'.length q1', .int .i64 R', .slice p3' C'.length q3'] 28)).alloc (.cells #[.int .i64 P, .slice p1 L.length q1, .int .i64 R, .slice p3 C.length q3] 28)).drew = W := ⟨_, rfl⟩
        rw [hWB] at h3B h4B hbB
        clear h1B h2B
        have hlB := xabZ h4B
        have e0B := xaaZ h3B 0
        have f0B := xaaZ h4B 0
        have e1B := xaaZ h3B 1
        have f1B := xaaZ h4B 1
        have e2B := xaaZ h3B 2
        have f2B := xaaZ h4B 2
        have e3B := xaaZ h3B 3
        have f3B := xaaZ h4B 3
        simp at e0B f0B e1B f1B e2B f2B e3B f3B
        clear h3B h4B
        have hfB := hFr.below hbB
        have hgB := hFr'.below hbB
        go_wp2
        go_region
        · skip
          by_cases hP : P = P'
          · have hPb := xb8Z hP
            have HP := hideP hP
            clear hP
            by_cases hR : R = R'
            · have hRb := xb8Z hR
              have HR := hideP hR
              clear hR
              by_cases hL : L = L'
              · have HL := hideP hL
                have HLd := hideP (decide_eq_true hL)
                clear hL
                by_cases hC : C = C'
                · have HC' := hideP hC
                  have HCd := hideP (decide_eq_true hC)
                  clear hC
                  go_wp2_with fail
                  refine (xbmZ L L' _ _ _ hfA.2.1 hgA.2.1).mono ?_
                  rintro e w3 ⟨rfl, hb3⟩
                  rw [HLd.out]
                  have hb4 := hbA.trans (hb3.mono hbA.size)
                  have k6 := (hb3.cell (p := ⟨wr.heap.size, 3, none⟩) (by simp; omega)).trans e3A
                  have k7 := (hb3.cell (p := ⟨wr.heap.size + 1, 3, none⟩) (by simp; omega)).trans f3A
                  have hO := hfA.2.2.2.below hb3
                  have hO' := hgA.2.2.2.below hb3
                  go_wp2_with fail
                  refine (xc2Z C C' _ _ _ hO hO').mono ?_
                  rintro e w5 ⟨rfl, hb5⟩
                  rw [HCd.out]
                  have hb6 := hb4.trans (hb5.mono hb4.size)
                  go_wp2
                  go_roundw
                  case rel => exact ⟨k + 1, by omega, by go_num, by rw [xavZ l k _ HO.out, xavZ m k _ HO'.out, HT.out, HP.out, HR.out, HL.out, HC'.out], hbw2.trans (hb6.mono hbw2.size)⟩
                  case measure => simp [intOf]; omega
                · have HN := hideP hC
                  have HCd := hideP (decide_eq_false hC)
                  clear hC
                  go_wp2_with fail
                  refine (xbmZ L L' _ _ _ hfA.2.1 hgA.2.1).mono ?_
                  rintro e w3 ⟨rfl, hb3⟩
                  rw [HLd.out]
                  have hb4 := hbA.trans (hb3.mono hbA.size)
                  have k6 := (hb3.cell (p := ⟨wr.heap.size, 3, none⟩) (by simp; omega)).trans e3A
                  have k7 := (hb3.cell (p := ⟨wr.heap.size + 1, 3, none⟩) (by simp; omega)).trans f3A
                  have hO := hfA.2.2.2.below hb3
                  have hO' := hgA.2.2.2.below hb3
                  go_wp2_with fail
                  refine (xc2Z C C' _ _ _ hO hO').mono ?_
                  rintro e w5 ⟨rfl, hb5⟩
                  rw [HCd.out]
                  have hb6 := hb4.trans (hb5.mono hb4.size)
                  go_wp2
                  go_ret
                  refine ⟨?_, hbw.trans (hb6.mono hbw.size)⟩
                  have : ¬ l = m := fun h => by
                    have h1 := HO.out
                    rw [h, HO'.out] at h1
                    simp at h1
                    exact HN.out h1.2.2.2.symm
                  simp [this]
              · have HN := hideP hL
                have HLd := hideP (decide_eq_false hL)
                clear hL
                go_wp2_with fail
                refine (xbmZ L L' _ _ _ hfA.2.1 hgA.2.1).mono ?_
                rintro e w3 ⟨rfl, hb3⟩
                rw [HLd.out]
                have hb4 := hbA.trans (hb3.mono hbA.size)
                go_wp2
                go_ret
                refine ⟨?_, hbw.trans (hb4.mono hbw.size)⟩
                have : ¬ l = m := fun h => by
                  have h1 := HO.out
                  rw [h, HO'.out] at h1
                  simp at h1
                  exact HN.out h1.2.1.symm
                simp [this]
            · have hRb := xceZ hR
              have HN := hideP hR
              clear hR
              go_wp2
              go_ret
              refine ⟨?_, hbw.trans (hbA.mono hbw.size)⟩
              have : ¬ l = m := fun h => by
                have h1 := HO.out
                rw [h, HO'.out] at h1
                simp at h1
                exact HN.out h1.2.2.1.symm
              simp [this]
          · have hPb := xceZ hP
            have HN := hideP hP
            clear hP
            go_wp2
            go_ret
            refine ⟨?_, hbw.trans (hbA.mono hbw.size)⟩
            have : ¬ l = m := fun h => by
              have h1 := HO.out
              rw [h, HO'.out] at h1
              simp at h1
              exact HN.out h1.1.symm
            simp [this]
        · skip
          by_cases hP : P = P'
          · have hPb := xb8Z hP
            have HP := hideP hP
            clear hP
            by_cases hR : R = R'
            · have hRb := xb8Z hR
              have HR := hideP hR
              clear hR
              by_cases hL : L = L'
              · have HL := hideP hL
                have HLd := hideP (decide_eq_true hL)
                clear hL
                by_cases hC : C = C'
                · have HC' := hideP hC
                  have HCd := hideP (decide_eq_true hC)
                  clear hC
                  go_wp2_with fail
                  refine (xbmZ L L' _ _ _ hfB.2.1 hgB.2.1).mono ?_
                  rintro e w3 ⟨rfl, hb3⟩
                  rw [HLd.out]
                  have hb4 := hbB.trans (hb3.mono hbB.size)
                  have k6 := (hb3.cell (p := ⟨wr.heap.size + 1, 3, none⟩) (by simp; omega)).trans f3B
                  have k7 := (hb3.cell (p := ⟨wr.heap.size, 3, none⟩) (by simp; omega)).trans e3B
                  have hO := hfB.2.2.2.below hb3
                  have hO' := hgB.2.2.2.below hb3
                  go_wp2_with fail
                  refine (xc2Z C C' _ _ _ hO hO').mono ?_
                  rintro e w5 ⟨rfl, hb5⟩
                  rw [HCd.out]
                  have hb6 := hb4.trans (hb5.mono hb4.size)
                  go_wp2
                  go_roundw
                  case rel => exact ⟨k + 1, by omega, by go_num, by rw [xavZ l k _ HO.out, xavZ m k _ HO'.out, HT.out, HP.out, HR.out, HL.out, HC'.out], hbw2.trans (hb6.mono hbw2.size)⟩
                  case measure => simp [intOf]; omega
                · have HN := hideP hC
                  have HCd := hideP (decide_eq_false hC)
                  clear hC
                  go_wp2_with fail
                  refine (xbmZ L L' _ _ _ hfB.2.1 hgB.2.1).mono ?_
                  rintro e w3 ⟨rfl, hb3⟩
                  rw [HLd.out]
                  have hb4 := hbB.trans (hb3.mono hbB.size)
                  have k6 := (hb3.cell (p := ⟨wr.heap.size + 1, 3, none⟩) (by simp; omega)).trans f3B
                  have k7 := (hb3.cell (p := ⟨wr.heap.size, 3, none⟩) (by simp; omega)).trans e3B
                  have hO := hfB.2.2.2.below hb3
                  have hO' := hgB.2.2.2.below hb3
                  go_wp2_with fail
                  refine (xc2Z C C' _ _ _ hO hO').mono ?_
                  rintro e w5 ⟨rfl, hb5⟩
                  rw [HCd.out]
                  have hb6 := hb4.trans (hb5.mono hb4.size)
                  go_wp2
                  go_ret
                  refine ⟨?_, hbw.trans (hb6.mono hbw.size)⟩
                  have : ¬ l = m := fun h => by
                    have h1 := HO.out
                    rw [h, HO'.out] at h1
                    simp at h1
                    exact HN.out h1.2.2.2.symm
                  simp [this]
              · have HN := hideP hL
                have HLd := hideP (decide_eq_false hL)
                clear hL
                go_wp2_with fail
                refine (xbmZ L L' _ _ _ hfB.2.1 hgB.2.1).mono ?_
                rintro e w3 ⟨rfl, hb3⟩
                rw [HLd.out]
                have hb4 := hbB.trans (hb3.mono hbB.size)
                go_wp2
                go_ret
                refine ⟨?_, hbw.trans (hb4.mono hbw.size)⟩
                have : ¬ l = m := fun h => by
                  have h1 := HO.out
                  rw [h, HO'.out] at h1
                  simp at h1
                  exact HN.out h1.2.1.symm
                simp [this]
            · have hRb := xceZ hR
              have HN := hideP hR
              clear hR
              go_wp2
              go_ret
              refine ⟨?_, hbw.trans (hbB.mono hbw.size)⟩
              have : ¬ l = m := fun h => by
                have h1 := HO.out
                rw [h, HO'.out] at h1
                simp at h1
                exact HN.out h1.2.2.1.symm
              simp [this]
          · have hPb := xceZ hP
            have HN := hideP hP
            clear hP
            go_wp2
            go_ret
            refine ⟨?_, hbw.trans (hbB.mono hbw.size)⟩
            have : ¬ l = m := fun h => by
              have h1 := HO.out
              rw [h, HO'.out] at h1
              simp at h1
              exact HN.out h1.1.symm
            simp [this]
      · have hlt' : ¬ (k : Int) < (l.length : Int) := by omega
        go_wp2
        go_ret
        refine ⟨?_, hbw⟩
        have : l = m := by
          have h := HT.out
          rwa [List.take_of_length_le (by omega), List.take_of_length_le (by have := HLEN.out; omega)] at h
        simp [this]
  · have hlen' : ((l.length : Int) != (m.length : Int)) = true := by simp; omega
    have hne : ¬ l = m := fun h => hlen (by rw [h])
    clear hc hd
    have HN : Hid (¬ l = m) := hne
    clear hne hlen
    go_enter Tryz.func28, Tryz.ntmps28
    go_wp2
    go_ret
    exact ⟨by simp [HN.out], hB2⟩
end Go.Proofs.YtgmkmlenhhhgkaaGreat


/- square, progBegun. -/
namespace Go.Proofs.YtgmkmlenhhhgkaaGreat
open Go.RowKit
set_option linter.unusedSimpArgs false
set_option linter.unusedVariables false
def squareFns : List Fn := [(0, [], 0, [(21, 0), (12, 1), (20, 0), (10, 0)]), (1, [1], 1, [(8, 0), (3, 0), (7, 0), (13, 0)])]
theorem xf6Z (W : World) : IntsAt W (.slice none 0 0) [] := ⟨none, 0, rfl, Nat.zero_le _, fun k f h => by simp at h⟩
theorem xhaZ {w W1 W2 W3 W4 W5 : World} {o1 : Obj} (hW1 : w.alloc o1 = W1) (hW2 : W1.alloc (.cells #[.int .i64 21, .int .i64 0, .int .i64 12, .int .i64 1, .int .i64 20, .int .i64 0, .int .i64 10, .int .i64 0] 38) = W2)
    (hW3 : W2.alloc (.cells #[.int .i64 1] 3) = W3) (hW4 : W3.alloc (.cells #[.int .i64 8, .int .i64 0, .int .i64 3, .int .i64 0, .int .i64 7, .int .i64 0, .int .i64 13, .int .i64 0] 38) = W4)
    (hW5 : W4.alloc (.cells #[.int .i64 0, .slice none 0 0, .int .i64 0, .slice (some ⟨w.heap.size + 1, 0, none⟩) 4 4, .int .i64 1, .slice (some ⟨w.heap.size + 1 + 1, 0, none⟩) 1 1, .int .i64 1, .slice (some ⟨w.heap.size + 1 + 1 + 1, 0, none⟩) 4 4] 28) = W5) :
    FnsAt W5 (.slice (some ⟨w.heap.size + 1 + 1 + 1 + 1, 0, none⟩) 2 2) squareFns ∧ Below w.heap.size w W5 ∧ W5.heap[w.heap.size]? = some o1 := by
  have s1 : W1.heap.size = w.heap.size + 1 := by rw [← hW1]; simp
  have s2 : W2.heap.size = w.heap.size + 1 + 1 := by rw [← hW2]; simp; exact s1
  have s3 : W3.heap.size = w.heap.size + 1 + 1 + 1 := by rw [← hW3]; simp; exact s2
  have s4 : W4.heap.size = w.heap.size + 1 + 1 + 1 + 1 := by rw [← hW4]; simp; exact s3
  have h1 := xatZ w o1
  rw [hW1] at h1
  have h2 := xatZ W1 (.cells #[.int .i64 21, .int .i64 0, .int .i64 12, .int .i64 1, .int .i64 20, .int .i64 0, .int .i64 10, .int .i64 0] 38)
  rw [hW2, s1] at h2
  have h3 := xatZ W2 (.cells #[.int .i64 1] 3)
  rw [hW3, s2] at h3
  have h4 := xatZ W3 (.cells #[.int .i64 8, .int .i64 0, .int .i64 3, .int .i64 0, .int .i64 7, .int .i64 0, .int .i64 13, .int .i64 0] 38)
  rw [hW4, s3] at h4
  have h5 := xatZ W4 (.cells #[.int .i64 0, .slice none 0 0, .int .i64 0, .slice (some ⟨w.heap.size + 1, 0, none⟩) 4 4, .int .i64 1, .slice (some ⟨w.heap.size + 1 + 1, 0, none⟩) 1 1, .int .i64 1, .slice (some ⟨w.heap.size + 1 + 1 + 1, 0, none⟩) 4 4] 28)
  rw [hW5, s4] at h5
  have k2 : ∀ {k : Nat} {o : Obj}, W1.heap[k]? = some o → W2.heap[k]? = some o := fun h => by rw [← hW2]; exact xaeZ h _
  have k3 : ∀ {k : Nat} {o : Obj}, W2.heap[k]? = some o → W3.heap[k]? = some o := fun h => by rw [← hW3]; exact xaeZ h _
  have k4 : ∀ {k : Nat} {o : Obj}, W3.heap[k]? = some o → W4.heap[k]? = some o := fun h => by rw [← hW4]; exact xaeZ h _
  have k5 : ∀ {k : Nat} {o : Obj}, W4.heap[k]? = some o → W5.heap[k]? = some o := fun h => by rw [← hW5]; exact xaeZ h _
  have b1 : Below w.heap.size w W1 := by rw [← hW1]; exact (Below.refl _ w).alloc (Nat.le_refl _) _
  have b2 : Below w.heap.size w W2 := by rw [← hW2]; exact b1.alloc (by omega) _
  have b3 : Below w.heap.size w W3 := by rw [← hW3]; exact b2.alloc (by omega) _
  have b4 : Below w.heap.size w W4 := by rw [← hW4]; exact b3.alloc (by omega) _
  have b5 : Below w.heap.size w W5 := by rw [← hW5]; exact b4.alloc (by omega) _
  refine ⟨⟨_, 2, rfl, by unfold maxLen; decide, fun k f hk => ?_⟩, b5, k5 (k4 (k3 (k2 h1)))⟩
  have o1 : OpsAt W5 (.slice (some ⟨w.heap.size + 1, 0, none⟩) 4 4) [(21, 0), (12, 1), (20, 0), (10, 0)] := xdaZ (l := [(21, 0), (12, 1), (20, 0), (10, 0)]) (m := []) (fz := (0, 0)) 4 4 (k5 (k4 (k3 h2))) rfl (by unfold maxLen; decide)
  have o2 : OpsAt W5 (.slice (some ⟨w.heap.size + 1 + 1 + 1, 0, none⟩) 4 4) [(8, 0), (3, 0), (7, 0), (13, 0)] := xdaZ (l := [(8, 0), (3, 0), (7, 0), (13, 0)]) (m := []) (fz := (0, 0)) 4 4 (k5 h4) rfl (by unfold maxLen; decide)
  have i1 : IntsAt W5 (.slice (some ⟨w.heap.size + 1 + 1, 0, none⟩) 1 1) [1] := ⟨_, 1, rfl, by unfold maxLen; decide, fun k z hk => by
    match k, hk with
    | 0, hk => simp at hk; subst hk; exact ⟨_, 0, rfl, xabZ (k5 (k4 h3)), xaaZ (k5 (k4 h3)) 0⟩
    | k + 1, hk => simp at hk⟩
  match k, hk with
  | 0, hk =>
    simp [squareFns] at hk; subst hk
    exact ⟨_, 0, _, _, _, _, rfl, xabZ h5, xaaZ h5 0, xaaZ h5 1, xaaZ h5 2, xaaZ h5 3, rfl, xf6Z _, rfl, o1⟩
  | 1, hk =>
    simp [squareFns] at hk; subst hk
    exact ⟨_, 0, _, _, _, _, rfl, xabZ h5, xaaZ h5 4, xaaZ h5 5, xaaZ h5 6, xaaZ h5 7, rfl, i1, rfl, o2⟩
  | k + 2, hk => simp [squareFns] at hk
theorem xejZ (w : World) : Calls Tryz.prog 25 #[] w fun e w' => ∃ v, e = .returned (.agg #[v]) ∧ FnsAt w' v squareFns ∧ Below w.heap.size w w' := by
  go_enter Tryz.func25, Tryz.ntmps25
  go_wp2
  obtain ⟨hf, hb, hh⟩ := xhaZ (w := w) (o1 := .cells #[.slice (some ⟨w.heap.size + 1 + 1 + 1 + 1, 0, none⟩) 2 2] 24) rfl rfl rfl rfl rfl
  have t0 := xaaZ hh 0
  simp only [List.getElem?_toArray, List.getElem?_cons_zero] at t0
  refine bodyPost_ret (v := .agg #[.slice (some ⟨w.heap.size + 1 + 1 + 1 + 1, 0, none⟩) 2 2]) (by simp [results, Tryz.results25, go_sem, t0]) rfl ⟨_, rfl, hf, hb⟩
theorem sq1 : xakZ squareFns = 0 := by decide +kernel
theorem sq2 : xa8Z squareFns = [2, 0, 0, 0, 0, 12, 21, 12, 0, 0, 0, 1, 20, 10, 0, 0, 0, 0, 1, 1, 1, 1, 0, 8, 8, 0, 0, 0, 0, 3, 7, 13] := by decide +kernel
theorem sq3 : xbcZ (xa8Z squareFns) = (squareFns, 0) := dec_prog _ sq1 (by rw [sq2]; decide)
theorem sq4 : (xbcZ (xa8Z squareFns ++ [122])).2 = 1 := by decide +kernel
end Go.Proofs.YtgmkmlenhhhgkaaGreat


