/- Plain laws for the reference's reading. -/
import Derived.Test.YtenaionchlnpoaaYc
namespace Go.Proofs.Ytenaionchlnpoaa
open Go.RowKit
set_option linter.unusedSimpArgs false
set_option linter.unusedVariables false
theorem takeR_none (n : Nat) : takeR none n = ([], none) := rfl
theorem readLocs_none (j : Nat) (st : Rd) (h : (readLocs j st).2 = none) : ∀ d, (readLocs (j + d) st).2 = none := by
  intro d
  induction d with
  | zero => exact h
  | succ d ih => show (takeR (readLocs (j + d) st).2 1).2 = none; rw [ih]; rfl
theorem takeR_two (S : Rd) : ((takeR (takeR S 1).2 1).2 = none → (takeR S 2).2 = none) ∧ (∀ r, (takeR (takeR S 1).2 1).2 = some r → ∃ b c, (takeR S 1).1 = [b] ∧ (takeR (takeR S 1).2 1).1 = [c] ∧ takeR S 2 = ([b, c], some r)) := by
  cases S with
  | none => exact ⟨fun _ => rfl, fun r h => by simp [takeR] at h⟩
  | some s =>
    match s with
    | [] => exact ⟨fun _ => by simp [takeR], fun r h => by simp [takeR] at h⟩
    | [b] => exact ⟨fun _ => by simp [takeR], fun r h => by simp [takeR] at h⟩
    | b :: c :: t => exact ⟨fun h => by simp [takeR] at h, fun r h => ⟨b, c, by simp [takeR], by simp [takeR], by simp [takeR] at h ⊢; exact h⟩⟩
theorem readFn_some (st : Rd) (h : (readFn st).2.1 = true) : ∃ r, (readFn st).2.2 = some r := by
  simp only [readFn, Bool.and_eq_true] at h ⊢
  exact Option.isSome_iff_exists.1 h.2
theorem some_at {s : List UInt8} {n : Nat} {st : Rd} (hn : numOf (takeR (some s) 1).1 = n) (hst : (takeR (some s) 1).2 = st) {k : Nat} (hk : k < n) (hok : ∀ i, i < k → (readFn (stAt i st)).2.1 = true) : ∃ r, stAt k st = some r := by
  cases k with
  | zero =>
    cases st with
    | some r => exact ⟨r, rfl⟩
    | none =>
      exfalso
      cases s with
      | nil => simp [takeR, numOf] at hn; omega
      | cons b r => simp [takeR] at hst
  | succ k => exact readFn_some _ (hok k (by omega))
theorem decProg_bad {s : List UInt8} {n : Nat} {st : Rd} (hn : numOf (takeR (some s) 1).1 = n) (hst : (takeR (some s) 1).2 = st) (hs : s.length ≤ 2000) {k : Nat} (hk : k < n) (hb : (readFn (stAt k st)).2.1 = false) : decProg s = ([], 1) := by
  have hr : readProg s = ([], false) := by
    unfold readProg
    rw [if_neg]
    intro h
    have := h k (by rw [hn]; exact hk)
    rw [hst, hb] at this
    cases this
  unfold decProg
  rw [if_neg (by omega), hr]
  simp
theorem decProg_end {s : List UInt8} {n : Nat} {st : Rd} (hn : numOf (takeR (some s) 1).1 = n) (hst : (takeR (some s) 1).2 = st) (hs : s.length ≤ 2000) (hok : ∀ i, i < n → (readFn (stAt i st)).2.1 = true) : decProg s = if stAt n st = some [] then (if progErr (fnsTo n st) ≠ 0 then ([], progErr (fnsTo n st)) else (fnsTo n st, 0)) else ([], 1) := by
  have hr : readProg s = (fnsTo n st, decide (stAt n st = some [])) := by
    unfold readProg
    rw [hn, hst, if_pos hok]
  unfold decProg
  rw [if_neg (by omega), hr]
  by_cases h : stAt n st = some []
  · simp [h]
  · simp [h]
theorem readFn_steps {S S1 st2 S3 S4 S5 S6 : Rd} {P R : Int} {nl x y j : Nat} (HP : ((numOf (takeR S 1).1 : Nat) : Int) = P) (HS1 : (takeR S 1).2 = S1) (HNL : numOf (takeR S1 1).1 = nl) (HST2 : (takeR S1 1).2 = st2) (HS3 : (readLocs j st2).2 = S3)
    (HR : ((numOf (takeR S3 1).1 : Nat) : Int) = R) (HS4 : (takeR S3 1).2 = S4) (HX : numOf (takeR S4 1).1 = x) (HS5 : (takeR S4 1).2 = S5) (HY : numOf (takeR S5 1).1 = y) (HS6 : (takeR S5 1).2 = S6) (hj : j ≤ nl) (hex : j = nl ∨ S3 = none) :
    (S6 = none → (readFn S).2.1 = false) ∧ (∀ r, S6 = some r → j = nl ∧ readFn S = ((P, (readLocs nl st2).1, R, (dec (items (takeR (some r) (256 * x + y)).1.length (takeR (some r) (256 * x + y)).1) []).1), (decide ((dec (items (takeR (some r) (256 * x + y)).1.length (takeR (some r) (256 * x + y)).1) []).2 = 0) && (takeR (some r) (256 * x + y)).2.isSome), (takeR (some r) (256 * x + y)).2)) := by
  have hnone : S3 = none → (readFn S).2.1 = false := fun h3 => by
    have h1 : (readLocs nl st2).2 = none := by
      have := readLocs_none j st2 (HS3.trans h3) (nl - j)
      rwa [show j + (nl - j) = nl by omega] at this
    simp only [readFn]
    rw [HS1, HNL, HST2, h1]
    simp [takeR]
  constructor
  · intro h6
    rcases hex with rfl | h3
    · have h2 := (takeR_two S4).1 (by rw [HS5, HS6]; exact h6)
      simp only [readFn]
      rw [HS1, HNL, HST2, HS3, HS4, h2]
      simp [takeR]
    · exact hnone h3
  · intro r h6
    have hjn : j = nl := by
      rcases hex with h | h3
      · exact h
      · rw [h3] at HS4
        rw [← HS4] at HS5
        rw [← HS5] at HS6
        rw [← HS6] at h6
        simp [takeR] at h6
    subst hjn
    refine ⟨rfl, ?_⟩
    obtain ⟨b, c, e1, e2, e3⟩ := (takeR_two S4).2 r (by rw [HS5, HS6]; exact h6)
    rw [HS5] at e2
    have hxy : numOf [b, c] = 256 * x + y := by
      rw [← HX, ← HY, e1, e2, numOf_bc, numOf_b, numOf_b]
    simp only [readFn]
    rw [HS1, HP, HNL, HST2, HS3, HR, HS4, e3, hxy]
/-- what lies in blocks that stay, stays. -/
theorem ownsRow_same {W W' : World} {base : Nat} {e : TypeId} {size : Nat} {v : Value} {n : Nat} {xs : List Value} (h : W.ownsRow base e size v n xs) (hk : ∀ k, v.ownBlock = some k → W'.heap[k]? = W.heap[k]?) : W'.ownsRow base e size v n xs := by
  refine ⟨h.1, ?_⟩
  rcases h.2 with h0 | ⟨g, cap, cur, hv, hb, hg, hr⟩
  · exact .inl h0
  · exact .inr ⟨g, cap, cur, hv, hb, (hk g (by rw [hv]; rfl)).trans hg, hr⟩
theorem FnOwn.same {W W' : World} {B : Nat} {c0 c1 c2 c3 : Value} {f : Fn} (h : FnOwn W B c0 c1 c2 c3 f) (hs : W.heap.size ≤ W'.heap.size) (hk : ∀ k, B ≤ k → k < W.heap.size → W'.heap[k]? = W.heap[k]?) : FnOwn W' B c0 c1 c2 c3 f := by
  obtain ⟨⟨h0, h1, h2, h3⟩, n1, n3⟩ := h
  refine ⟨⟨h0, ?_, h2, ?_⟩, fun a n c hv => ?_, fun a n c hv => ?_⟩
  · obtain ⟨p, cap, rfl, hm, hc⟩ := h1
    refine ⟨p, cap, rfl, hm, fun k o ho => ?_⟩
    obtain ⟨b, off, rfl, hlt, x0⟩ := hc k o ho
    have hb := hk b (n1 ⟨b, off, none⟩ _ _ rfl).1 hlt
    exact ⟨b, off, rfl, Nat.lt_of_lt_of_le hlt hs, (World.cell?_of_block (w := W) (a := ⟨b, off + k, none⟩) hb).trans x0⟩
  · obtain ⟨p, cap, rfl, hm, hc⟩ := h3
    refine ⟨p, cap, rfl, hm, fun k o ho => ?_⟩
    obtain ⟨b, off, rfl, hlt, x0, x1⟩ := hc k o ho
    have hb := hk b (n3 ⟨b, off, none⟩ _ _ rfl).1 hlt
    exact ⟨b, off, rfl, Nat.lt_of_lt_of_le hlt hs, (World.cell?_of_block (w := W) (a := ⟨b, off + k * 2, none⟩) hb).trans x0, (World.cell?_of_block (w := W) (a := ⟨b, off + k * 2 + 1, none⟩) hb).trans x1⟩
  · obtain ⟨x1, cs, fz, x2⟩ := n1 a n c hv
    exact ⟨x1, cs, fz, (hk _ x1 (heap_lt x2)).trans x2⟩
  · obtain ⟨x1, cs, fz, x2⟩ := n3 a n c hv
    exact ⟨x1, cs, fz, (hk _ x1 (heap_lt x2)).trans x2⟩
theorem FnRows.same {W W' : World} {B : Nat} {q : List FnV} {l : List Fn} (h : FnRows W B q l) (hs : W.heap.size ≤ W'.heap.size) (hk : ∀ k, B ≤ k → k < W.heap.size → W'.heap[k]? = W.heap[k]?) : FnRows W' B q l := ⟨h.1, fun k c f h1 h2 => (h.2 k c f h1 h2).same hs hk⟩
theorem Below.kl {B0 A O F : Nat} {w W W' : World} (h : Below B0 w W) (k : KL A O F W W') (hF : B0 ≤ F) (hA : B0 ≤ A) (hO : B0 ≤ O) : Below B0 w W' :=
  ⟨k.os.trans h.os, k.tape.trans h.tape, k.output.trans h.output, Nat.le_trans h.size k.size, fun i hi => (k.block i (by omega) (by omega) (by omega)).trans (h.block i hi)⟩
end Go.Proofs.Ytenaionchlnpoaa

