/- octet.Put and op.putOp. -/
import Derived.Test.YtenaionchlnpoabBld
import Derived.Test.YtenaionchlnpoabWa
namespace Go.Proofs.Ytenaionchlnpoab
open Go.RowKit
set_option linter.unusedSimpArgs false
set_option linter.unusedVariables false
/-- a cell that stays as it is while the builder in block b is written. -/
def Stay (B b : Nat) (w : World) (a : Addr) (v : Value) : Prop := ∀ w', Below B w w' → Lib.OthersKept 5 (some b) w w' → w'.cell? a = some v
theorem Stay.low {B b : Nat} {w : World} {a : Addr} {v : Value} (h : w.cell? a = some v) (hb : a.block < B) : Stay B b w a v := fun w' hw _ => (hw.cell hb).trans h
theorem Stay.self {B b : Nat} {w : World} {a : Addr} {v : Value} (h : Stay B b w a v) : w.cell? a = some v := h w (Below.refl _ _) (Lib.OthersKept.refl _ _ _)
theorem Stay.later {B b : Nat} {w w' : World} {a : Addr} {v : Value} (h : Stay B b w a v) (hb : Below B w w') (hk : Lib.OthersKept 5 (some b) w w') : Stay B b w' a v := fun w2 h2 k2 => h w2 (hb.trans h2) (hk.trans k2)
theorem Stay.high {B b k : Nat} {w : World} {c : Array Value} {t : TypeId} {fz : Nat × Nat} {a : Addr} {v : Value} (h : w.heap[a.block]? = some (.cells c t fz)) (hk : a.block ≠ b) (ht : t ≠ 5) (hc : w.cell? a = some v) : Stay B b w a v := by
  intro w' hw hO
  have h2 := hO a.block _ h (fun e => hk (Option.some.inj e)) (fun c' fz' e => ht (by cases e; rfl))
  rw [World.cell?_of_block (w := w) (by rw [h2, h])]
  exact hc
/-- the lowest byte of a number. -/
def byteOf (z : Int) : UInt8 := UInt8.ofNat (z % 256).toNat
theorem byteOf_cell (z : Int) : Value.int .u8 (z % 256) = .int .u8 ((byteOf z).toNat : Int) := by
  have h : (byteOf z).toNat = (z % 256).toNat := by unfold byteOf; rw [UInt8.toNat_ofNat']; omega
  rw [h]
  congr 1
  omega
set_option maxHeartbeats 1000000 in
theorem put_any (B b : Nat) (bs : List UInt8) (zs : List Int) (p : Option Addr) (cap : Nat) (w : World) (h : Bld B b (Lib.byteCells bs) w) (hlen : bs.length + zs.length ≤ 140737488355328) (hBw : B ≤ w.heap.size)
    (hz : ∀ k z, zs[k]? = some z → ∃ bl off, p = some ⟨bl, off, none⟩ ∧ Stay B b w ⟨bl, off + k, none⟩ (.int .i64 z)) :
    Calls Try.prog 67 #[.pointer (some ⟨b, 0, none⟩), .slice p zs.length cap] w fun e w' => e = .returned (.tuple #[]) ∧ (Bld B b (Lib.byteCells (bs ++ zs.map byteOf)) w' ∧ Below B w w' ∧ Lib.OthersKept 5 (some b) w w') := by
  go_enter Try.func67, Try.ntmps67
  go_wp2
  go_loopw [5, 8] (fun _ i wr => ∃ k : Nat, k ≤ zs.length ∧ i = .int .i64 k ∧ Bld B b (Lib.byteCells (bs ++ (zs.take k).map byteOf)) wr ∧ Below B w wr ∧ Lib.OthersKept 5 (some b) w wr) (fun _ i _ => zs.length - (intOf i).toNat)
  case atStart => exact ⟨0, Nat.zero_le _, rfl, by simpa using h, Below.refl _ _, Lib.OthersKept.refl _ _ _⟩
  case round =>
    obtain ⟨k, hk, rfl, hB, hbw, hkw⟩ := hrel
    have HZ : Hid (∀ k z, zs[k]? = some z → ∃ bl off, p = some ⟨bl, off, none⟩ ∧ Stay B b w ⟨bl, off + k, none⟩ (.int .i64 z)) := hz
    clear hz
    by_cases hlt : k < zs.length
    · obtain ⟨z, ho⟩ : ∃ z, zs[k]? = some z := ⟨_, List.getElem?_eq_some_iff.2 ⟨hlt, rfl⟩⟩
      obtain ⟨bl, off, rfl, hs⟩ := HZ.out k _ ho
      have g0 := hs wr hbw hkw
      have HO : Hid (zs[k]? = some z) := ho
      clear ho
      go_wp2_with fail
      rw [byteOf_cell]
      refine (writeByte_any B b _ _ _ hB (by rw [Lib.byteCells_length, List.length_append, List.length_map, List.length_take]; omega) (Nat.le_trans hBw hbw.size)).mono ?_
      rintro e w2 ⟨rfl, hB2, hb2, hk2⟩
      go_wp2
      go_roundw
      case rel =>
        refine ⟨k + 1, by omega, by go_num, ?_, hbw.trans hb2, hkw.trans hk2⟩
        have : Lib.byteCells (bs ++ (zs.take (k + 1)).map byteOf) = Lib.byteCells (bs ++ (zs.take k).map byteOf) ++ [.int .u8 ((byteOf z).toNat : Int)] := by
          rw [take_snoc zs k z HO.out]; simp [Lib.byteCells]
        rw [this]; exact hB2
      case measure => simp [intOf]; omega
    · have hlt' : ¬ (k : Int) < (zs.length : Int) := by omega
      go_wp2
      go_end0
      exact ⟨rfl, by rwa [List.take_of_length_le (by omega)] at hB, hbw, hkw⟩
/-- an op's bytes. -/
def opBytes (o : Int × Int) : List UInt8 := byteOf o.1 :: if hasA o.1 then [byteOf (o.2 / 16777216), byteOf (o.2 / 65536), byteOf (o.2 / 256), byteOf o.2] else []
theorem heap_new (w : World) (o : Obj) : (w.alloc o).heap[w.heap.size]? = some o := by
  show (w.heap.push o)[w.heap.size]? = _
  rw [Array.getElem?_push, if_pos rfl]
theorem heap_old {w : World} {k : Nat} {o : Obj} (h : w.heap[k]? = some o) (o' : Obj) : (w.alloc o').heap[k]? = some o := by
  rw [Lib.alloc_old w o' k (heap_lt h)]; exact h
theorem cell_at {w : World} {k : Nat} {c : Array Value} {t : TypeId} {fz : Nat × Nat} (h : w.heap[k]? = some (.cells c t fz)) (j : Nat) : w.cell? ⟨k, j, none⟩ = c[j]? := by
  rw [Lib.cell_of_heap h]
theorem Bld.lt {B b : Nat} {bs : List Value} {w : World} (h : Bld B b bs w) : b < w.heap.size := h.elim (fun x => x.lt) (fun x => x.lt)
theorem kept_heap {b k : Nat} {w w' : World} {c : Array Value} {t : TypeId} {fz : Nat × Nat} (hk : Lib.OthersKept 5 (some b) w w') (h : w.heap[k]? = some (.cells c t fz)) (hb : k ≠ b) (ht : t ≠ 5) : w'.heap[k]? = some (.cells c t fz) :=
  hk k _ h (fun e => hb (Option.some.inj e)) (fun c' fz' e => ht (by cases e; rfl))
theorem ints_stay {B b k : Nat} {w : World} {zs : List Int} {fz : Nat × Nat} (h : w.heap[k]? = some (.cells (zs.map (Value.int .i64)).toArray 3 fz)) (hk : k ≠ b) :
    ∀ j z, zs[j]? = some z → ∃ bl off, (some ⟨k, 0, none⟩ : Option Addr) = some ⟨bl, off, none⟩ ∧ Stay B b w ⟨bl, off + j, none⟩ (.int .i64 z) := by
  intro j z hj
  refine ⟨k, 0, rfl, Stay.high (k := k) h hk (by decide) ?_⟩
  rw [cell_at h]
  simp [hj]
set_option maxHeartbeats 1000000 in
theorem putOp_any (B b : Nat) (bs : List UInt8) (c a : Int) (w : World) (h : Bld B b (Lib.byteCells bs) w) (hlen : bs.length + 5 ≤ 140737488355328) (hBw : B ≤ w.heap.size) :
    Calls Try.prog 53 #[.pointer (some ⟨b, 0, none⟩), .agg #[.int .i64 c, .int .i64 a]] w fun e w' => e = .returned (.tuple #[]) ∧ (Bld B b (Lib.byteCells (bs ++ opBytes (c, a))) w' ∧ Below B w w' ∧ Lib.OthersKept 5 (some b) w w') := by
  have hbl := Bld.lt h
  have hc1 := put_any B b bs [c] (some ⟨w.heap.size + 1, 0, none⟩) 1 ((w.alloc (.cells #[.int .i64 c, .int .i64 a] 43)).alloc (.cells #[.int .i64 c] 3)) ((h.alloc _).alloc _) (by simp; omega) (by simp; omega)
    (ints_stay (zs := [c]) (fz := (0, 0)) (by have := heap_new (w.alloc (.cells #[.int .i64 c, .int .i64 a] 43)) (.cells #[.int .i64 c] 3); rw [World.size_alloc] at this; exact this) (by omega))
  have hbox0 := heap_old (heap_new w (.cells #[.int .i64 c, .int .i64 a] 43)) (.cells #[.int .i64 c] 3)
  have hB1 : Below B w ((w.alloc (.cells #[.int .i64 c, .int .i64 a] 43)).alloc (.cells #[.int .i64 c] 3)) := ((Below.refl B w).alloc hBw _).alloc (by simp; omega) _
  have hK1 : Lib.OthersKept 5 (some b) w ((w.alloc (.cells #[.int .i64 c, .int .i64 a] 43)).alloc (.cells #[.int .i64 c] 3)) := ((Lib.OthersKept.refl _ _ w).alloc _).alloc _
  cases hh : hasA c
  · go_enter Try.func53, Try.ntmps53
    go_wp2_with fail
    refine hc1.mono ?_
    rintro e w2 ⟨rfl, hB2, hb2, hk2⟩
    have hbox := kept_heap hk2 hbox0 (by omega) (by decide)
    have g0 : w2.cell? ⟨w.heap.size, 0, none⟩ = some (.int .i64 c) := cell_at hbox 0
    go_wp2_with (go_at_call 66; refine (namesA_any _ _).mono ?_; rintro e w' ⟨rfl, rfl⟩)
    go_end0
    exact ⟨rfl, by simpa [opBytes, hh] using hB2, hB1.trans hb2, hK1.trans hk2⟩
  · go_enter Try.func53, Try.ntmps53
    go_wp2_with fail
    refine hc1.mono ?_
    rintro e w2 ⟨rfl, hB2, hb2, hk2⟩
    have hbox := kept_heap hk2 hbox0 (by omega) (by decide)
    have g0 : w2.cell? ⟨w.heap.size, 0, none⟩ = some (.int .i64 c) := cell_at hbox 0
    have g1 : w2.cell? ⟨w.heap.size, 1, none⟩ = some (.int .i64 a) := cell_at hbox 1
    go_wp2_with (go_at_call 66; refine (namesA_any _ _).mono ?_; rintro e w' ⟨rfl, hw⟩; have hw := hw.symm; subst hw)
    have hc2 := put_any B b (bs ++ [c].map byteOf) [a / 16777216, a / 65536, a / 256, a] (some ⟨w2.heap.size, 0, none⟩) 4 (w2.alloc (.cells #[.int .i64 (a / 16777216), .int .i64 (a / 65536), .int .i64 (a / 256), .int .i64 a] 3)) (hB2.alloc _) (by simp; omega) (by have := hb2.size; simp at *; omega)
      (ints_stay (zs := [a / 16777216, a / 65536, a / 256, a]) (fz := (0, 0)) (heap_new w2 _) (by have := Bld.lt hB2; omega))
    refine hc2.mono ?_
    rintro e w3 ⟨rfl, hB3, hb3, hk3⟩
    go_wp2
    go_end0
    have hle : B ≤ w2.heap.size := by have := hb2.size; simp at this; omega
    exact ⟨rfl, by simpa [opBytes, hh] using hB3, (hB1.trans hb2).trans (((Below.refl B w2).alloc hle _).trans hb3), (hK1.trans hk2).trans (((Lib.OthersKept.refl _ _ w2).alloc _).trans hk3)⟩
end Go.Proofs.Ytenaionchlnpoab

