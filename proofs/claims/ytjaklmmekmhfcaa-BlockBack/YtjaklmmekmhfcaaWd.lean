/- octet.Put and op.putOp. -/
import Derived.Test.YtjaklmmekmhfcaaBld
import Derived.Test.YtjaklmmekmhfcaaWa
namespace Go.Proofs.Ytjaklmmekmhfcaa
open Go.RowKit
set_option linter.unusedSimpArgs false
set_option linter.unusedVariables false
/-- a cell that stays as it is while the builder in block b is written. -/
def Stay (B b : Nat) (w : World) (a : Addr) (v : Value) : Prop := ∀ w', Below B w w' → Lib.OthersKept 5 (some b) w w' → w'.cell? a = some v
theorem Stay.low {B b : Nat} {w : World} {a : Addr} {v : Value} (h : w.cell? a = some v) (hb : a.block < B) : Stay B b w a v := fun w' hw _ => (hw.cell hb).trans h
theorem Stay.self {B b : Nat} {w : World} {a : Addr} {v : Value} (h : Stay B b w a v) : w.cell? a = some v := h w (Below.refl _ _) (Lib.OthersKept.refl _ _ _)
theorem Stay.later {B b : Nat} {w w' : World} {a : Addr} {v : Value} (h : Stay B b w a v) (hb : Below B w w') (hk : Lib.OthersKept 5 (some b) w w') : Stay B b w' a v := fun w2 h2 k2 => h w2 (hb.trans h2) (hk.trans k2)
theorem Stay.high {B b k : Nat} {w : World} {c : Array Value} {t : TypeId} {fz : Nat × Nat} {a : Addr} {v : Value} (h : w.heap[a.block]? = some (.cells c t fz)) (hk : a.block ≠ b) (ht : t ≠ 5) (hc : w.cell? a = some v) : Stay B b w a v := by
  intro w' hw hO
  have h2 := hO a.block _ h (fun e => hk (Option.some.inj e)) (fun c' fz' e => ht (by cases e; rfl))
  rw [World.cell?_of_block (w := w) (by rw [h2, h])]
  exact hc
/-- the lowest byte of a number. -/
def byteOf (z : Int) : UInt8 := UInt8.ofNat (z % 256).toNat
theorem byteOf_cell (z : Int) : Value.int .u8 (z % 256) = .int .u8 ((byteOf z).toNat : Int) := by
  have h : (byteOf z).toNat = (z % 256).toNat := by unfold byteOf; rw [UInt8.toNat_ofNat']; omega
  rw [h]
  congr 1
  omega
/-- an op's bytes. -/
def opBytes (o : Int × Int) : List UInt8 := byteOf o.1 :: if hasA o.1 then [byteOf (o.2 / 16777216), byteOf (o.2 / 65536), byteOf (o.2 / 256), byteOf o.2] else []
theorem heap_new (w : World) (o : Obj) : (w.alloc o).heap[w.heap.size]? = some o := by
  show (w.heap.push o)[w.heap.size]? = _
  rw [Array.getElem?_push, if_pos rfl]
theorem heap_old {w : World} {k : Nat} {o : Obj} (h : w.heap[k]? = some o) (o' : Obj) : (w.alloc o').heap[k]? = some o := by
  rw [Lib.alloc_old w o' k (heap_lt h)]; exact h
theorem cell_at {w : World} {k : Nat} {c : Array Value} {t : TypeId} {fz : Nat × Nat} (h : w.heap[k]? = some (.cells c t fz)) (j : Nat) : w.cell? ⟨k, j, none⟩ = c[j]? := by
  rw [Lib.cell_of_heap h]
theorem kept_heap {b k : Nat} {w w' : World} {c : Array Value} {t : TypeId} {fz : Nat × Nat} (hk : Lib.OthersKept 5 (some b) w w') (h : w.heap[k]? = some (.cells c t fz)) (hb : k ≠ b) (ht : t ≠ 5) : w'.heap[k]? = some (.cells c t fz) :=
  hk k _ h (fun e => hb (Option.some.inj e)) (fun c' fz' e => ht (by cases e; rfl))
theorem ints_stay {B b k : Nat} {w : World} {zs : List Int} {fz : Nat × Nat} (h : w.heap[k]? = some (.cells (zs.map (Value.int .i64)).toArray 3 fz)) (hk : k ≠ b) :
    ∀ j z, zs[j]? = some z → ∃ bl off, (some ⟨k, 0, none⟩ : Option Addr) = some ⟨bl, off, none⟩ ∧ Stay B b w ⟨bl, off + j, none⟩ (.int .i64 z) := by
  intro j z hj
  refine ⟨k, 0, rfl, Stay.high (k := k) h hk (by decide) ?_⟩
  rw [cell_at h]
  simp [hj]
end Go.Proofs.Ytjaklmmekmhfcaa

