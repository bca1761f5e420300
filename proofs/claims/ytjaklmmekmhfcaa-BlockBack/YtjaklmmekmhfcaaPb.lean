/- Plain functions on blocks (chapter 5). -/
import Derived.Test.YtjaklmmekmhfcaaPl
import Derived.Test.YtjaklmmekmhfcaaMp
namespace Go.Proofs.Ytjaklmmekmhfcaa
open Go.RowKit
set_option linter.unusedSimpArgs false
set_option linter.unusedVariables false
/-- how many numbers there are in all. -/
def cellsN (L : List (List Int)) : Nat := (L.map List.length).sum
def blkErr (L : List (List Int)) : Int := if 8 < L.length ∨ 40 < cellsN L then 2 else if (L.all fun b => b.all isI32) = true then 0 else 3
def newErr (L : List (List Int)) (size : Int) : Int := if blkErr L ≠ 0 then blkErr L else if size < 0 then 3 else if L.length = 8 ∨ 40 - (cellsN L : Int) < size then 7 else 0
def newL (L : List (List Int)) (size : Int) : List (List Int) := L ++ [List.replicate size.toNat 0]
def newR (L : List (List Int)) (size : Int) : List (List Int) := if newErr L size = 0 then newL L size else []
def newRef (L : List (List Int)) (size : Int) : Int := if newErr L size = 0 then (L.length : Int) + 1 else 0
def blkAt (L : List (List Int)) (ref : Int) : List Int := (L[(ref - 1).toNat]?).getD []
def placeErr (L : List (List Int)) (ref at_ : Int) : Int := if blkErr L ≠ 0 then blkErr L else if ref = 0 then 5 else if ref < 0 ∨ (L.length : Int) < ref ∨ at_ < 0 ∨ ((blkAt L ref).length : Int) ≤ at_ then 3 else 0
def getL (L : List (List Int)) (ref at_ : Int) : Int := ((blkAt L ref)[at_.toNat]?).getD 0
def getR (L : List (List Int)) (ref at_ : Int) : Int := if placeErr L ref at_ = 0 then getL L ref at_ else 0
def setErr (L : List (List Int)) (ref at_ n : Int) : Int := if placeErr L ref at_ ≠ 0 then placeErr L ref at_ else if isI32 n = true then 0 else 3
def setL (L : List (List Int)) (ref at_ n : Int) : List (List Int) := L.set (ref - 1).toNat ((blkAt L ref).set at_.toNat n)
def setR (L : List (List Int)) (ref at_ n : Int) : List (List Int) := if setErr L ref at_ n = 0 then setL L ref at_ n else []
def refOk (n : Nat) (ref : Int) : Bool := decide (0 ≤ ref) && decide (ref ≤ (n : Int))
def keepErr (L : List (List Int)) (refs : List Int) : Int := if blkErr L ≠ 0 then blkErr L else if refs.all (refOk L.length) = true then 0 else 3
/-- which of the first k stay. -/
def stays (refs : List Int) (k : Nat) : List Nat := (List.range k).filter fun i => decide ((i : Int) + 1 ∈ refs)
def keptL (L : List (List Int)) (refs : List Int) (k : Nat) : List (List Int) := (stays refs k).map fun i => (L[i]?).getD []
def thenOf (refs : List Int) (ref : Int) : Int := ((stays refs ref.toNat).length : Int)
def keptR (L : List (List Int)) (refs : List Int) : List (List Int) := if keepErr L refs = 0 then keptL L refs L.length else []
def thenR (L : List (List Int)) (refs : List Int) : List Int := if keepErr L refs = 0 then refs.map (thenOf refs) else []
theorem wrap_isI32 (n : Int) : (wrap32 n == n) = isI32 n := by
  rw [Bool.eq_iff_iff]
  simp [isI32, wrap32]
  omega
theorem cellsN_nil : cellsN [] = 0 := rfl
theorem cellsN_append (L M : List (List Int)) : cellsN (L ++ M) = cellsN L + cellsN M := by simp [cellsN]
theorem cellsN_take (L : List (List Int)) (k : Nat) (b : List Int) (h : L[k]? = some b) : cellsN (L.take (k + 1)) = cellsN (L.take k) + b.length := by
  rw [take_snoc L k b h, cellsN_append]; simp [cellsN]
theorem cellsN_le (L : List (List Int)) (k : Nat) : cellsN (L.take k) ≤ cellsN L := by
  have h : cellsN L = cellsN (L.take k) + cellsN (L.drop k) := by rw [← cellsN_append, List.take_append_drop]
  omega
theorem cellsN_mem {L : List (List Int)} {k : Nat} {b : List Int} (h : L[k]? = some b) : b.length ≤ cellsN L := by
  have h1 := cellsN_take L k b h
  have h2 := cellsN_le L (k + 1)
  omega
theorem cellsN_bound (L : List (List Int)) (M : Nat) (h : ∀ b ∈ L, b.length ≤ M) : cellsN L ≤ L.length * M := by
  induction L with
  | nil => simp [cellsN]
  | cons b r ih =>
    have h1 := ih fun x hx => h x (by simp [hx])
    have h2 := h b (by simp)
    have h3 : cellsN (b :: r) = b.length + cellsN r := by simp [cellsN]
    rw [h3, List.length_cons, Nat.add_mul]
    omega
theorem blkErr_zero {L : List (List Int)} (h : blkErr L = 0) : L.length ≤ 8 ∧ cellsN L ≤ 40 ∧ ∀ b ∈ L, ∀ n ∈ b, isI32 n = true := by
  unfold blkErr at h
  by_cases h1 : 8 < L.length ∨ 40 < cellsN L
  · rw [if_pos h1] at h; cases h
  · rw [if_neg h1] at h
    by_cases h2 : (L.all fun b => b.all isI32) = true
    · refine ⟨by omega, by omega, fun b hb n hn => ?_⟩
      exact List.all_eq_true.1 (List.all_eq_true.1 h2 b hb) n hn
    · rw [if_neg h2] at h; cases h
theorem blkErr_mk {L : List (List Int)} (h1 : L.length ≤ 8) (h2 : cellsN L ≤ 40) (h3 : ∀ b ∈ L, ∀ n ∈ b, isI32 n = true) : blkErr L = 0 := by
  unfold blkErr
  rw [if_neg (by omega), if_pos]
  exact List.all_eq_true.2 fun b hb => List.all_eq_true.2 fun n hn => h3 b hb n hn
theorem blkAt_some {L : List (List Int)} {ref : Int} {b : List Int} {k : Nat} (h : L[k]? = some b) (hr : ref = (k : Int) + 1) : blkAt L ref = b := by
  unfold blkAt
  rw [show (ref - 1).toNat = k from by omega, h]; rfl
theorem stays_zero (refs : List Int) : stays refs 0 = [] := rfl
theorem stays_true {refs : List Int} {k : Nat} (h : (k : Int) + 1 ∈ refs) : stays refs (k + 1) = stays refs k ++ [k] := by
  unfold stays
  rw [List.range_succ, List.filter_append]; simp [h]
theorem stays_false {refs : List Int} {k : Nat} (h : ¬ (k : Int) + 1 ∈ refs) : stays refs (k + 1) = stays refs k := by
  unfold stays
  rw [List.range_succ, List.filter_append]; simp [h]
theorem stays_le (refs : List Int) (k : Nat) : (stays refs k).length ≤ k := by
  have := List.length_filter_le (fun i : Nat => decide ((i : Int) + 1 ∈ refs)) (List.range k)
  rw [List.length_range] at this
  exact this
theorem keptL_length (L : List (List Int)) (refs : List Int) (k : Nat) : (keptL L refs k).length = (stays refs k).length := by simp [keptL]
theorem keptL_true {L : List (List Int)} {refs : List Int} {k : Nat} {b : List Int} (h : (k : Int) + 1 ∈ refs) (hb : L[k]? = some b) : keptL L refs (k + 1) = keptL L refs k ++ [b] := by
  unfold keptL
  rw [stays_true h, List.map_append]; simp [hb]
theorem keptL_false {L : List (List Int)} {refs : List Int} {k : Nat} (h : ¬ (k : Int) + 1 ∈ refs) : keptL L refs (k + 1) = keptL L refs k := by
  unfold keptL
  rw [stays_false h]
end Go.Proofs.Ytjaklmmekmhfcaa

