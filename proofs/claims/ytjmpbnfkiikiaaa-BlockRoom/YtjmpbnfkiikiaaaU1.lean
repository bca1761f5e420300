/- My texts Pl Wa Mem Wb Wc Shelf Bld Bgr Wd We, joined. -/
import Derived.WalkKit
import Derived.Test.YtjmpbnfkiikiaaaRows
import Derived.WalkSpells
import Derived.WalkLawsBesides
import Derived.Shelf.Strings.BuilderK
import Derived.Test.YtjmpbnfkiikiaaaProg
import Derived.Lib.MakeNoZero
import Derived.Laws.IdiomCopy
/- Plain functions on numbers and lists: what the ops' functions compute. Of no program. -/
namespace Go.Proofs.Ytjmpbnfkiikiaaa
/-- does a code name A? -/
def hasA (c : Int) : Bool := c == 1 || c == 8 || c == 9 || c == 10 || c == 11 || c == 12
/-- is there such a code? -/
def isCode (c : Int) : Bool := decide (1 ≤ c) && decide (c ≤ 21)
/-- is it a number of a machine? -/
def isI32 (a : Int) : Bool := decide (-2147483648 ≤ a) && decide (a ≤ 2147483647)
/-- A1's errno of an op. -/
def chk (c a : Int) : Int := if isCode c = false then 6 else if hasA c = false ∧ a ≠ 0 then 1 else if isI32 a = false then 3 else 0
/-- the first errno of some ops. -/
def firstErr : List (Int × Int) → Int
  | [] => 0
  | o :: r => if chk o.1 o.2 = 0 then firstErr r else chk o.1 o.2
/-- A2's errno of code. -/
def codeErr (l : List (Int × Int)) : Int := if 40 < l.length then 2 else firstErr l
theorem firstErr_all (l : List (Int × Int)) (h : ∀ o ∈ l, chk o.1 o.2 = 0) : firstErr l = 0 := by
  induction l with
  | nil => rfl
  | cons o r ih => rw [firstErr, if_pos (h o (by simp))]; exact ih fun x hx => h x (by simp [hx])
theorem firstErr_at (l : List (Int × Int)) (k : Nat) (o : Int × Int) (hk : l[k]? = some o) (h : ∀ x ∈ l.take k, chk x.1 x.2 = 0) (he : ¬ chk o.1 o.2 = 0) : firstErr l = chk o.1 o.2 := by
  induction l generalizing k with
  | nil => simp at hk
  | cons x r ih =>
    cases k with
    | zero => simp at hk; subst hk; rw [firstErr, if_neg he]
    | succ k => rw [firstErr, if_pos (h x (by simp))]; exact ih k (by simpa using hk) fun y hy => h y (by simp [hy])
theorem take_snoc {α : Type} (l : List α) (k : Nat) (o : α) (hk : l[k]? = some o) : l.take (k + 1) = l.take k ++ [o] := by
  rw [List.take_add_one, hk]; rfl
end Go.Proofs.Ytjmpbnfkiikiaaa
/- Walks of the leaf functions of package op and of the reference: each returns what the plain function says. -/
namespace Go.Proofs.Ytjmpbnfkiikiaaa
open Go.RowKit
set_option linter.unusedSimpArgs false
set_option linter.unusedVariables false
theorem ret_int {k : IntKind} {a b : Int} (h : a = b) : Ending.returned (.int k a) = .returned (.int k b) := by rw [h]
theorem tmod_is (n : Int) : (0 ≤ n ∧ n.tmod 4294967296 = n % 4294967296) ∨ (n < 0 ∧ n.tmod 4294967296 = -((-n) % 4294967296)) := by
  by_cases h : 0 ≤ n
  · exact .inl ⟨h, Int.tmod_eq_emod_of_nonneg h⟩
  · refine .inr ⟨by omega, ?_⟩
    have := Int.tmod_eq_emod_of_nonneg (a := -n) (b := 4294967296) (by omega)
    rw [Int.neg_tmod] at this
    omega
theorem wrap_wrap (n : Int) : wrap64 (wrap32 n) = wrap32 n := by unfold wrap64 wrap32; omega
set_option maxHeartbeats 400000 in
theorem wrap_any (n : Int) (w : World) : Calls Try.prog 36 #[.int .i64 n] w fun e w' => e = .returned (.int .i64 (wrap32 n)) ∧ w' = w := by
  go_enter Try.func36, Try.ntmps36
  go_wp2
  go_ret
  exact ⟨by simp [wrap_wrap], rfl⟩
set_option maxHeartbeats 400000 in
theorem between_any (n a b : Int) (w : World) : Calls Try.prog 35 #[.int .i64 n, .int .i64 a, .int .i64 b] w fun e w' => e = .returned (.bool (decide (a ≤ n) && decide (n ≤ b))) ∧ w' = w := by
  by_cases h1 : a ≤ n
  · by_cases h2 : n ≤ b
    · go_enter Try.func35, Try.ntmps35
      go_wp2
      go_ret
      exact ⟨by simp [h1, h2], rfl⟩
    · go_enter Try.func35, Try.ntmps35
      go_wp2
      go_ret
      exact ⟨by simp [h1, h2], rfl⟩
  · have hd : decide (a ≤ n) = false := by simpa using h1
    go_enter Try.func35, Try.ntmps35
    go_wp2
    go_ret
    exact ⟨by simp [hd], rfl⟩
set_option maxHeartbeats 400000 in
theorem isInt_any (n : Int) (w : World) : Calls Try.prog 17 #[.int .i64 n] w fun e w' => e = .returned (.bool (isI32 n)) ∧ w' = w := by
  go_enter Try.func17, Try.ntmps17
  go_wp2_with (go_at_call 35; refine (between_any _ _ _ _).mono ?_; rintro e w' ⟨rfl, rfl⟩)
  go_ret
  exact ⟨rfl, rfl⟩
end Go.Proofs.Ytjmpbnfkiikiaaa
/- Code in memory: a slice value and the cells behind it. -/
namespace Go.Proofs.Ytjmpbnfkiikiaaa
open Go.RowKit
/-- The slice 'v' holds the ops 'l'. -/
def OpsAt (w : World) (v : Value) (l : List (Int × Int)) : Prop :=
  ∃ (p : Option Addr) (cap : Nat), v = .slice p l.length cap ∧ l.length ≤ maxLen ∧ ∀ k o, l[k]? = some o →
    ∃ b off, p = some ⟨b, off, none⟩ ∧ b < w.heap.size ∧ w.cell? ⟨b, off + k * 2, none⟩ = some (.int .i64 o.1) ∧ w.cell? ⟨b, off + k * 2 + 1, none⟩ = some (.int .i64 o.2)
theorem OpsAt.below {w w' : World} {v : Value} {l : List (Int × Int)} (h : OpsAt w v l) (hb : Below w.heap.size w w') : OpsAt w' v l := by
  obtain ⟨p, cap, rfl, hm, hc⟩ := h
  refine ⟨p, cap, rfl, hm, fun k o hk => ?_⟩
  obtain ⟨b, off, rfl, hlt, h0, h1⟩ := hc k o hk
  exact ⟨b, off, rfl, Nat.lt_of_lt_of_le hlt hb.size, (hb.cell (p := ⟨b, off + k * 2, none⟩) hlt).trans h0, (hb.cell (p := ⟨b, off + k * 2 + 1, none⟩) hlt).trans h1⟩
end Go.Proofs.Ytjmpbnfkiikiaaa
/- Walks over code in memory: CheckOp, CheckCode, IndexFunc at Encode's closure. -/
namespace Go.Proofs.Ytjmpbnfkiikiaaa
open Go.RowKit
set_option linter.unusedSimpArgs false
set_option linter.unusedVariables false
theorem lt_of_at {α : Type} {l : List α} {k : Nat} {o : α} (h : l[k]? = some o) : k < l.length := (List.getElem?_eq_some_iff.1 h).1
theorem at_of_lt {α : Type} {l : List α} {k : Nat} (h : k < l.length) : ∃ o, l[k]? = some o := ⟨l[k], List.getElem?_eq_some_iff.2 ⟨h, rfl⟩⟩
end Go.Proofs.Ytjmpbnfkiikiaaa
/- Encode's closure, and IndexFunc at it. -/
namespace Go.Proofs.Ytjmpbnfkiikiaaa
open Go.RowKit
set_option linter.unusedSimpArgs false
set_option linter.unusedVariables false
/-- the first op that has an errno, or -1. -/
def isFirst (l : List (Int × Int)) (r : Int) : Prop :=
  (r = -1 ∧ ∀ o ∈ l, chk o.1 o.2 = 0) ∨ ∃ k o, r = ((k : Nat) : Int) ∧ l[k]? = some o ∧ (∀ x ∈ l.take k, chk x.1 x.2 = 0) ∧ ¬ chk o.1 o.2 = 0
end Go.Proofs.Ytjmpbnfkiikiaaa
/- strings.Builder's String: the library's contract, laid at this program's numbers (one laying, one application). -/
namespace Go.Proofs
open Go.Shelf
end Go.Proofs
/- strings.Builder at this program: copyCheck, WriteByte, WriteString (the shelf's layings of these fall here: this translation has a refused statement in the place of copyCheck's panic). -/
namespace Go.Proofs.Ytjmpbnfkiikiaaa
open Go.RowKit
set_option linter.unusedSimpArgs false
set_option linter.unusedVariables false
theorem infoByte : (Try.prog.info? 5).map (fun i => (i.zero, i.size, i.bytes)) = some (some (.int .u8 0), 1, 1) := by kernel_rfl
theorem heap_lt {w : World} {b : Nat} {o : Obj} (h : w.heap[b]? = some o) : b < w.heap.size := (Array.getElem?_eq_some_iff.1 h).1
end Go.Proofs.Ytjmpbnfkiikiaaa
/- strings.Builder's grow and Grow at this program, of a builder that has not been written. -/
namespace Go.Proofs.Ytjmpbnfkiikiaaa
open Go.RowKit
set_option linter.unusedSimpArgs false
set_option linter.unusedVariables false
theorem sizeByte1 : (Try.prog.info? 5).map (fun i => i.size) = some 1 := by kernel_rfl
end Go.Proofs.Ytjmpbnfkiikiaaa
/- octet.Put and op.putOp. -/
namespace Go.Proofs.Ytjmpbnfkiikiaaa
open Go.RowKit
set_option linter.unusedSimpArgs false
set_option linter.unusedVariables false
/-- a cell that stays as it is while the builder in block b is written. -/
def Stay (B b : Nat) (w : World) (a : Addr) (v : Value) : Prop := ∀ w', Below B w w' → Lib.OthersKept 5 (some b) w w' → w'.cell? a = some v
theorem Stay.low {B b : Nat} {w : World} {a : Addr} {v : Value} (h : w.cell? a = some v) (hb : a.block < B) : Stay B b w a v := fun w' hw _ => (hw.cell hb).trans h
theorem Stay.self {B b : Nat} {w : World} {a : Addr} {v : Value} (h : Stay B b w a v) : w.cell? a = some v := h w (Below.refl _ _) (Lib.OthersKept.refl _ _ _)
theorem Stay.later {B b : Nat} {w w' : World} {a : Addr} {v : Value} (h : Stay B b w a v) (hb : Below B w w') (hk : Lib.OthersKept 5 (some b) w w') : Stay B b w' a v := fun w2 h2 k2 => h w2 (hb.trans h2) (hk.trans k2)
theorem Stay.high {B b k : Nat} {w : World} {c : Array Value} {t : TypeId} {fz : Nat × Nat} {a : Addr} {v : Value} (h : w.heap[a.block]? = some (.cells c t fz)) (hk : a.block ≠ b) (ht : t ≠ 5) (hc : w.cell? a = some v) : Stay B b w a v := by
  intro w' hw hO
  have h2 := hO a.block _ h (fun e => hk (Option.some.inj e)) (fun c' fz' e => ht (by cases e; rfl))
  rw [World.cell?_of_block (w := w) (by rw [h2, h])]
  exact hc
/-- the lowest byte of a number. -/
def byteOf (z : Int) : UInt8 := UInt8.ofNat (z % 256).toNat
theorem byteOf_cell (z : Int) : Value.int .u8 (z % 256) = .int .u8 ((byteOf z).toNat : Int) := by
  have h : (byteOf z).toNat = (z % 256).toNat := by unfold byteOf; rw [UInt8.toNat_ofNat']; omega
  rw [h]
  congr 1
  omega
/-- an op's bytes. -/
def opBytes (o : Int × Int) : List UInt8 := byteOf o.1 :: if hasA o.1 then [byteOf (o.2 / 16777216), byteOf (o.2 / 65536), byteOf (o.2 / 256), byteOf o.2] else []
theorem heap_new (w : World) (o : Obj) : (w.alloc o).heap[w.heap.size]? = some o := by
  show (w.heap.push o)[w.heap.size]? = _
  rw [Array.getElem?_push, if_pos rfl]
theorem heap_old {w : World} {k : Nat} {o : Obj} (h : w.heap[k]? = some o) (o' : Obj) : (w.alloc o').heap[k]? = some o := by
  rw [Lib.alloc_old w o' k (heap_lt h)]; exact h
theorem cell_at {w : World} {k : Nat} {c : Array Value} {t : TypeId} {fz : Nat × Nat} (h : w.heap[k]? = some (.cells c t fz)) (j : Nat) : w.cell? ⟨k, j, none⟩ = c[j]? := by
  rw [Lib.cell_of_heap h]
theorem kept_heap {b k : Nat} {w w' : World} {c : Array Value} {t : TypeId} {fz : Nat × Nat} (hk : Lib.OthersKept 5 (some b) w w') (h : w.heap[k]? = some (.cells c t fz)) (hb : k ≠ b) (ht : t ≠ 5) : w'.heap[k]? = some (.cells c t fz) :=
  hk k _ h (fun e => hb (Option.some.inj e)) (fun c' fz' e => ht (by cases e; rfl))
theorem ints_stay {B b k : Nat} {w : World} {zs : List Int} {fz : Nat × Nat} (h : w.heap[k]? = some (.cells (zs.map (Value.int .i64)).toArray 3 fz)) (hk : k ≠ b) :
    ∀ j z, zs[j]? = some z → ∃ bl off, (some ⟨k, 0, none⟩ : Option Addr) = some ⟨bl, off, none⟩ ∧ Stay B b w ⟨bl, off + j, none⟩ (.int .i64 z) := by
  intro j z hj
  refine ⟨k, 0, rfl, Stay.high (k := k) h hk (by decide) ?_⟩
  rw [cell_at h]
  simp [hj]
end Go.Proofs.Ytjmpbnfkiikiaaa
/- op.Encode. -/
namespace Go.Proofs.Ytjmpbnfkiikiaaa
open Go.RowKit
set_option linter.unusedSimpArgs false
set_option linter.unusedVariables false
/-- code's bytes. -/
def codeBytes (l : List (Int × Int)) : List UInt8 := l.flatMap opBytes
/-- what Encode tells. -/
def encStr (l : List (Int × Int)) : List UInt8 := if codeErr l = 0 then codeBytes l else []
theorem opBytes_le (o : Int × Int) : (opBytes o).length ≤ 5 := by unfold opBytes; split <;> simp
theorem codeBytes_le (l : List (Int × Int)) : (codeBytes l).length ≤ 5 * l.length := by
  induction l with
  | nil => simp [codeBytes]
  | cons o r ih => have := opBytes_le o; simp [codeBytes] at *; omega
theorem codeBytes_snoc (l : List (Int × Int)) (k : Nat) (o : Int × Int) (h : l[k]? = some o) : codeBytes (l.take (k + 1)) = codeBytes (l.take k) ++ opBytes o := by
  rw [take_snoc l k o h]; simp [codeBytes]
theorem chk_pos (c a : Int) : 0 ≤ chk c a := by unfold chk; split <;> (try split) <;> (try split) <;> omega
theorem hideP0 {p : Prop} (h : p) : Hid p := h
end Go.Proofs.Ytjmpbnfkiikiaaa
