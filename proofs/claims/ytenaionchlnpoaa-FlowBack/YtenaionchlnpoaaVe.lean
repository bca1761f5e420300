/- putFunc and prog.Encode. -/
import Derived.Test.YtenaionchlnpoaaVd
namespace Go.Proofs.Ytenaionchlnpoaa
open Go.RowKit
set_option linter.unusedSimpArgs false
set_option linter.unusedVariables false
theorem hide {p : Prop} (h : p) : Hid p := h
/-- a function's bytes. -/
def fnBytes (f : Fn) : List UInt8 := [byteOf f.1, byteOf f.2.1.length] ++ f.2.1.map byteOf ++ [byteOf f.2.2.1, byteOf ((codeBytes f.2.2.2).length / 256), byteOf (codeBytes f.2.2.2).length] ++ codeBytes f.2.2.2
theorem Bld.below {B b : Nat} {bs : List Value} {w w' : World} (h : Bld B b bs w) (hb : Below w.heap.size w w') : Bld B b bs w' := by
  have hg : w.grownBy w' none := ⟨hb.os, hb.tape, hb.output, hb.size, fun k hk _ => hb.block k hk⟩
  have aux : ∀ p, Lib.BuilderAtF 59 5 B b p bs w → Lib.BuilderAtF 59 5 B b p bs w' := by
    rintro p ⟨hB, v, hbk, hown, hne⟩
    exact ⟨hB, v, (hb.block b (heap_lt hbk)).trans hbk, hown.kept hg (by cases hv : v.ownBlock <;> simp), hne⟩
  exact h.elim (fun x => .inl (aux _ x)) (fun x => .inr (aux _ x))
theorem kept_below {b : Option Nat} {w w' : World} (hb : Below w.heap.size w w') : Lib.OthersKept 5 b w w' := fun k o hk _ _ => (hb.block k (Array.getElem?_eq_some_iff.1 hk).1).trans hk
theorem strCells_eq {T : ByteArray} {l : List UInt8} (h : T.data.toList = l) : Lib.strCells T = Lib.byteCells l := by unfold Lib.strCells Lib.byteCells; rw [h]
set_option maxHeartbeats 4000000 in
theorem putFunc_any (B b : Nat) (bs : List UInt8) (f : Fn) (c0 c1 c2 c3 : Value) (w0 w : World) (h : Bld B b (Lib.byteCells bs) w) (hf : FnAt w0 c0 c1 c2 c3 f) (hB0 : B = w0.heap.size) (hw0 : Below B w0 w) (hlen : bs.length ≤ 100000) (hL : f.2.1.length ≤ 6) (hC : codeErr f.2.2.2 = 0) :
    Calls Try.prog 46 #[.pointer (some ⟨b, 0, none⟩), .agg #[c0, c1, c2, c3]] w fun e w' => e = .returned (.tuple #[]) ∧ (Bld B b (Lib.byteCells (bs ++ fnBytes f)) w' ∧ Below B w w' ∧ Lib.OthersKept 5 (some b) w w') := by
  obtain ⟨P, L, R, C⟩ := f
  simp only at hL hC
  have hbl := Bld.lt h
  have hBw : B ≤ w.heap.size := by have := hw0.size; omega
  have hfw := hf
  obtain ⟨rfl, hI, rfl, hO⟩ := hf
  simp only at hI hO
  obtain ⟨p1, q1, rfl, hm1, hci⟩ := hI
  have hO' := hO
  obtain ⟨p3, q3, rfl, hm3, hco⟩ := hO'
  have HCI : Hid (∀ k z, L[k]? = some z → ∃ b off, p1 = some ⟨b, off, none⟩ ∧ b < w0.heap.size ∧ w0.cell? ⟨b, off + k, none⟩ = some (.int .i64 z)) := hci
  have hw1 : Below w.heap.size w (w.alloc (.cells #[.int .i64 P, .slice p1 L.length q1, .int .i64 R, .slice p3 C.length q3] 72)) := (Below.refl _ w).alloc (Nat.le_refl _) _
  have hh1 := World.alloc_heap_new w (.cells #[.int .i64 P, .slice p1 L.length q1, .int .i64 R, .slice p3 C.length q3] 72)
  have hOw : OpsAt (w.alloc (.cells #[.int .i64 P, .slice p1 L.length q1, .int .i64 R, .slice p3 C.length q3] 72)) (.slice p3 C.length q3) C := by
    subst hB0
    exact (hO.below hw0).below hw1
  have hcb := codeBytes_le C
  have hc40 := (codeErr_zero C hC).1
  have HC : Hid (codeErr C = 0) := hC
  clear hci hco hfw hC
  go_enter Try.func46, Try.ntmps46
  go_wp2_with fail
  refine (encode_ex C _ _ hOw).mono ?_
  rw [HC.out]
  rintro e w2 ⟨T, rfl, hT, hb2⟩
  have hTl : T.data.toList = codeBytes C := by rw [hT]; simp [encStr, HC.out]
  have hTs : T.size = (codeBytes C).length := by rw [← hTl]; simp
  have HTS : Hid (T.size = (codeBytes C).length) := hTs
  have HTL : Hid (T.data.toList = codeBytes C) := hTl
  have hTb : T.size ≤ 200 := by omega
  have hB2 : Bld B b (Lib.byteCells bs) w2 := Bld.below (h.alloc _) hb2
  have hh2 : w2.heap[w.heap.size]? = some (.cells #[.int .i64 P, .slice p1 L.length q1, .int .i64 R, .slice p3 C.length q3] 72 (0, 0)) := (hb2.block _ (by simp)).trans hh1
  have hBW2 : Below B w w2 := (hw1.mono hBw).trans (hb2.mono (by simp; omega))
  have hKW2 : Lib.OthersKept 5 (some b) w w2 := (kept_below hw1).trans (kept_below hb2)
  have g0 : w2.cell? ⟨w.heap.size, 0, none⟩ = some (.int .i64 P) := cell_at' hh2 0
  have g1 : w2.cell? ⟨w.heap.size, 1, none⟩ = some (.slice p1 L.length q1) := cell_at' hh2 1
  have hs2 : w.heap.size < w2.heap.size := heap_lt hh2
  clear hT hTl hTs hOw hb2 hh1 hw1
  go_wp2_with fail
  have hle2 : B ≤ w2.heap.size := by omega
  have hp1 := put_any B b bs [P, (L.length : Int)] (some ⟨w2.heap.size, 0, none⟩) 2 (w2.alloc (.cells #[.int .i64 P, .int .i64 L.length] 3)) (hB2.alloc _) (by simp; omega) (by simp; omega)
    (ints_stay (zs := [P, (L.length : Int)]) (fz := (0, 0)) (heap_new w2 _) (by omega))
  refine hp1.mono ?_
  clear hp1
  rintro e w3 ⟨rfl, hB3, hb3, hk3⟩
  have hBW3 : Below B w w3 := hBW2.trans (((Below.refl B w2).alloc hle2 _).trans hb3)
  have hKW3 : Lib.OthersKept 5 (some b) w w3 := hKW2.trans (((Lib.OthersKept.refl _ _ w2).alloc _).trans hk3)
  have hh3 : w3.heap[w.heap.size]? = some (.cells #[.int .i64 P, .slice p1 L.length q1, .int .i64 R, .slice p3 C.length q3] 72 (0, 0)) := kept_heap hk3 (heap_old hh2 _) (by omega) (by decide)
  have hle3 : B ≤ w3.heap.size := by have := hBW3.size; omega
  have k1 : w3.cell? ⟨w.heap.size, 1, none⟩ = some (.slice p1 L.length q1) := cell_at' hh3 1
  clear g0 g1 hb3 hk3 hB2 hBW2 hKW2 hh2 hs2 hle2
  go_wp2_with fail
  have hp2 := put_any B b (bs ++ [P, (L.length : Int)].map byteOf) L p1 q1 w3 hB3 (by simp; omega) hle3 (fun k z hk => by
    obtain ⟨bl, off, he, hlt, hcell⟩ := HCI.out k z hk
    refine ⟨bl, off, he, Stay.low ?_ (by simp; omega)⟩
    exact ((hw0.trans hBW3).cell (p := ⟨bl, off + k, none⟩) (by simp; omega)).trans hcell)
  refine hp2.mono ?_
  clear hp2
  rintro e w4 ⟨rfl, hB4, hb4, hk4⟩
  have hBW4 : Below B w w4 := hBW3.trans hb4
  have hKW4 : Lib.OthersKept 5 (some b) w w4 := hKW3.trans hk4
  have hh4 : w4.heap[w.heap.size]? = some (.cells #[.int .i64 P, .slice p1 L.length q1, .int .i64 R, .slice p3 C.length q3] 72 (0, 0)) := kept_heap hk4 hh3 (by omega) (by decide)
  have hle4 : B ≤ w4.heap.size := by have := hBW4.size; omega
  have k2 : w4.cell? ⟨w.heap.size, 2, none⟩ = some (.int .i64 R) := cell_at' hh4 2
  have hb4l := Bld.lt hB4
  clear k1 hb4 hk4 hB3 hBW3 hKW3 hh3 hle3
  go_wp2_with fail
  have hp3 := put_any B b (bs ++ [P, (L.length : Int)].map byteOf ++ L.map byteOf) [R, (T.size : Int) / 256, (T.size : Int)] (some ⟨w4.heap.size, 0, none⟩) 3 (w4.alloc (.cells #[.int .i64 R, .int .i64 ((T.size : Int) / 256), .int .i64 T.size] 3)) (hB4.alloc _) (by simp; omega) (by simp; omega)
    (ints_stay (zs := [R, (T.size : Int) / 256, (T.size : Int)]) (fz := (0, 0)) (heap_new w4 _) (by omega))
  refine hp3.mono ?_
  clear hp3
  rintro e w5 ⟨rfl, hB5, hb5, hk5⟩
  have hBW5 : Below B w w5 := hBW4.trans (((Below.refl B w4).alloc hle4 _).trans hb5)
  have hKW5 : Lib.OthersKept 5 (some b) w w5 := hKW4.trans (((Lib.OthersKept.refl _ _ w4).alloc _).trans hk5)
  have hle5 : B ≤ w5.heap.size := by have := hBW5.size; omega
  clear k2 hb5 hk5 hB4 hBW4 hKW4 hh4 hle4
  go_wp2_with fail
  refine (writeString_any B b _ T _ hB5 (by rw [Lib.byteCells_length]; simp; omega) hle5).mono ?_
  rintro e w6 ⟨rfl, hB6, hb6, hk6⟩
  go_wp2
  go_end0
  refine ⟨rfl, ?_, hBW5.trans hb6, hKW5.trans hk6⟩
  have e1 : Lib.byteCells (bs ++ fnBytes (P, L, R, C)) = Lib.byteCells (bs ++ [P, (L.length : Int)].map byteOf ++ L.map byteOf ++ [R, (T.size : Int) / 256, (T.size : Int)].map byteOf) ++ Lib.strCells T := by
    rw [strCells_eq HTL.out, HTS.out]
    simp [fnBytes, Lib.byteCells]
  rw [e1]
  exact hB6
/-- a program's bytes. -/
def progBytes (l : List Fn) : List UInt8 := byteOf l.length :: l.flatMap fnBytes
/-- what Encode tells. -/
def progStr (l : List Fn) : List UInt8 := if progErr l = 0 then progBytes l else []
theorem fnErr_zero {f : Fn} {n : Nat} (h : fnErr f n = 0) : f.2.1.length ≤ 6 ∧ (0 ≤ f.1 ∧ f.1 ≤ f.2.1.length) ∧ typedB f = true ∧ f.2.2.2.length ≠ 0 ∧ codeErr f.2.2.2 = 0 ∧ (f.2.2.2.all fun o => namesB o f n) = true := by
  unfold fnErr at h
  by_cases h1 : 6 < f.2.1.length
  · simp [h1] at h
  rw [if_neg h1] at h
  by_cases h2 : f.1 < 0 ∨ (f.2.1.length : Int) < f.1
  · simp [h2] at h
  rw [if_neg h2] at h
  by_cases h3 : typedB f = false
  · simp [h3] at h
  rw [if_neg h3] at h
  by_cases h4 : f.2.2.2.length = 0
  · simp [h4] at h
  rw [if_neg h4] at h
  by_cases h5 : codeErr f.2.2.2 = 0
  · rw [if_neg (by simp [h5])] at h
    by_cases h6 : (f.2.2.2.all fun o => namesB o f n) = false
    · rw [if_pos h6] at h; omega
    · exact ⟨by omega, by omega, by simpa using h3, h4, h5, by simpa using h6⟩
  · rw [if_pos h5] at h; exact absurd h h5
theorem fnsErr_zero (n : Nat) (l : List Fn) (h : fnsErr n l = 0) : ∀ f ∈ l, fnErr f n = 0 := by
  induction l with
  | nil => intro f hf; simp at hf
  | cons x r ih =>
    intro f hf
    rw [fnsErr] at h
    by_cases hx : fnErr x n = 0
    · rw [if_pos hx] at h
      rcases List.mem_cons.1 hf with rfl | hf
      · exact hx
      · exact ih h f hf
    · rw [if_neg hx] at h; exact absurd h hx
theorem progErr_zero {l : List Fn} (h : progErr l = 0) : l.length ≠ 0 ∧ l.length ≤ 5 ∧ (∀ f ∈ l, fnErr f l.length = 0) ∧ headErr l = 0 := by
  unfold progErr at h
  by_cases h0 : l.length = 0
  · simp [h0] at h
  rw [if_neg h0] at h
  by_cases h5 : 5 < l.length
  · simp [h5] at h
  rw [if_neg h5] at h
  by_cases hf : fnsErr l.length l = 0
  · rw [if_neg (by simp [hf])] at h
    exact ⟨h0, by omega, fnsErr_zero _ l hf, h⟩
  · rw [if_pos hf] at h; exact absurd h hf
theorem fnBytes_le {f : Fn} {n : Nat} (h : fnErr f n = 0) : (fnBytes f).length ≤ 211 := by
  obtain ⟨h1, _, _, _, h5, _⟩ := fnErr_zero h
  have := codeBytes_le f.2.2.2
  have := (codeErr_zero _ h5).1
  simp [fnBytes]
  omega
theorem fnsBytes_le (l : List Fn) (n : Nat) (h : ∀ f ∈ l, fnErr f n = 0) : (l.flatMap fnBytes).length ≤ 211 * l.length := by
  induction l with
  | nil => simp
  | cons x r ih =>
    have h1 := fnBytes_le (h x (by simp))
    have h2 := ih fun f hf => h f (by simp [hf])
    simp only [List.flatMap_cons, List.length_append, List.length_cons]
    omega
set_option maxHeartbeats 4000000 in
theorem progEncode_any (l : List Fn) (v : Value) (w : World) (h : FnsAt w v l) : Calls Try.prog 20 #[.agg #[v]] w fun e w' => ∃ T : ByteArray, e = .returned (.tuple #[.string T, .int .i64 (progErr l)]) ∧ T.data.toList = progStr l ∧ Below w.heap.size w w' := by
  have hF := h
  obtain ⟨p, cap, rfl, hm, hc⟩ := h
  unfold maxLen at hm
  have hw : Below w.heap.size w (w.alloc (.cells #[.slice p l.length cap] 41)) := (Below.refl _ w).alloc (Nat.le_refl _) _
  have hh := World.alloc_heap_new w (.cells #[.slice p l.length cap] 41)
  have hFw := hF.below hw
  by_cases he : progErr l = 0
  · have hz := progErr_zero he
    obtain ⟨z0, z5, zf, _⟩ := hz
    have HZ : Hid (∀ f ∈ l, fnErr f l.length = 0) := zf
    have HE : Hid (progErr l = 0) := he
    have HCC : Hid (∀ k f, l[k]? = some f → ∃ b off c0 c1 c2 c3, p = some ⟨b, off, none⟩ ∧ b < w.heap.size ∧ w.cell? ⟨b, off + k * 4, none⟩ = some c0 ∧ w.cell? ⟨b, off + k * 4 + 1, none⟩ = some c1 ∧ w.cell? ⟨b, off + k * 4 + 2, none⟩ = some c2 ∧ w.cell? ⟨b, off + k * 4 + 3, none⟩ = some c3 ∧ FnAt w c0 c1 c2 c3 f) := hc
    rw [he]
    clear he zf hc
    go_enter Try.func20, Try.ntmps20
    go_wp2_with fail
    refine (progCheck_any l _ _ hFw).mono ?_
    rw [HE.out]
    rintro e w1 ⟨rfl, hb1⟩
    have hh1 : w1.heap[w.heap.size]? = some (.cells #[.slice p l.length cap] 41 (0, 0)) := (hb1.block _ (heap_lt hh)).trans hh
    have hB1 : Below w.heap.size w w1 := hw.trans (hb1.mono hw.size)
    have hs1 : w.heap.size < w1.heap.size := heap_lt hh1
    have k0 : w1.cell? ⟨w.heap.size, 0, none⟩ = some (.slice p l.length cap) := cell_at' hh1 0
    clear hb1 hh hw hFw hF
    go_wp2_with fail
    have hfresh : Bld w1.heap.size w1.heap.size (Lib.byteCells []) (w1.alloc (.cells #[.pointer none, .slice none 0 0] 59)) := Lib.IsBuilderF.of (Lib.fresh_isBuilder 59 5 w1)
    have hp1 := put_any w1.heap.size w1.heap.size [] [(l.length : Int)] (some ⟨w1.heap.size + 1, 0, none⟩) 1 ((w1.alloc (.cells #[.pointer none, .slice none 0 0] 59)).alloc (.cells #[.int .i64 l.length] 3)) (hfresh.alloc _) (by simp) (by simp; omega)
      (ints_stay (zs := [(l.length : Int)]) (fz := (0, 0)) (by have := heap_new (w1.alloc (.cells #[.pointer none, .slice none 0 0] 59)) (.cells #[.int .i64 l.length] 3); rw [World.size_alloc] at this; exact this) (by omega))
    refine hp1.mono ?_
    clear hp1 hfresh
    rintro e w2 ⟨rfl, hB2, hb2, hk2⟩
    have hBW2 : Below w1.heap.size w1 w2 := (((Below.refl _ w1).alloc (Nat.le_refl _) _).alloc (by simp) _).trans hb2
    have k1 : w2.cell? ⟨w.heap.size, 0, none⟩ = some (.slice p l.length cap) := (hBW2.cell (p := ⟨w.heap.size, 0, none⟩) hs1).trans k0
    clear hb2 hk2 k0
    go_wp2
    go_loopw [7, 21] (fun _ i wr => ∃ k : Nat, k ≤ l.length ∧ i = .int .i64 k ∧ Bld w1.heap.size w1.heap.size (Lib.byteCells (byteOf l.length :: (l.take k).flatMap fnBytes)) wr ∧ Below w1.heap.size w1 wr) (fun _ i _ => l.length - (intOf i).toNat)
    case atStart => exact ⟨0, Nat.zero_le _, rfl, by simpa using hB2, hBW2⟩
    case round =>
      obtain ⟨k, hk, rfl, hBr, hbw⟩ := hrel
      clear hB2 hBW2 k1
      by_cases hlt : k < l.length
      · obtain ⟨f, ho⟩ := at_of_lt hlt
        obtain ⟨b, off, c0, c1, c2, c3, rfl, hb, a0, a1, a2, a3, hf⟩ := HCC.out k _ ho
        have hbw0 := hB1.trans (hbw.mono hB1.size)
        have g0 := (hbw0.cell (p := ⟨b, off + k * 4, none⟩) hb).trans a0
        have g1 := (hbw0.cell (p := ⟨b, off + k * 4 + 1, none⟩) hb).trans a1
        have g2 := (hbw0.cell (p := ⟨b, off + k * 4 + 2, none⟩) hb).trans a2
        have g3 := (hbw0.cell (p := ⟨b, off + k * 4 + 3, none⟩) hb).trans a3
        have hf1 := hf.below hB1
        have hfz := HZ.out f (List.mem_of_getElem? ho)
        have hzz := fnErr_zero hfz
        have hle : ((l.take k).flatMap fnBytes).length ≤ 211 * k := by
          have := fnsBytes_le (l.take k) l.length (fun x hx => HZ.out x (List.mem_of_mem_take hx))
          rw [List.length_take] at this
          omega
        have HO : Hid (l[k]? = some f) := ho
        obtain ⟨P, L, R, C⟩ := f
        have hff := hf
        obtain ⟨rfl, ⟨p1, q1, rfl, _, _⟩, rfl, ⟨p3, q3, rfl, _, _⟩⟩ := hff
        simp only at hf1
        obtain ⟨y1, _, _, _, y5, _⟩ := hzz
        have hsz := hbw.size
        have hBa : Bld w1.heap.size w1.heap.size (Lib.byteCells (byteOf l.length :: (l.take k).flatMap fnBytes)) (wr.alloc (.cells #[.int .i64 P, .slice p1 L.length q1, .int .i64 R, .slice p3 C.length q3] 72)) := hBr.alloc _
        have HP := hide (putFunc_any w1.heap.size w1.heap.size (byteOf l.length :: (l.take k).flatMap fnBytes) (P, L, R, C) _ _ _ _ w1 _ hBa hf1 rfl (hbw.alloc hsz _) (by rw [List.length_cons]; omega) y1 y5)
        clear ho a0 a1 a2 a3 hf hf1 hfz y1 y5 hBa
        go_wp2_with fail
        refine HP.out.mono ?_
        rintro e w3 ⟨rfl, hB3, hb3, hk3⟩
        go_wp2
        go_roundw
        case rel =>
          refine ⟨k + 1, by omega, by go_num, ?_, (hbw.alloc hsz _).trans hb3⟩
          have e1 : byteOf l.length :: (l.take (k + 1)).flatMap fnBytes = (byteOf l.length :: (l.take k).flatMap fnBytes) ++ fnBytes (P, L, R, C) := by
            rw [take_snoc l k _ HO.out]; simp
          rw [e1]; exact hB3
        case measure => simp [intOf]; omega
      · have hlt' : ¬ (k : Int) < (l.length : Int) := by omega
        have e1 : byteOf l.length :: (l.take k).flatMap fnBytes = progBytes l := by rw [List.take_of_length_le (by omega)]; rfl
        rw [e1] at hBr
        go_wp2_with (go_at_call 35; refine (Try.string_any w1.heap.size w1.heap.size (progBytes l) _ hBr hbw.size).mono ?_; rintro e w3 ⟨rfl, hB3, hb3, hk3⟩)
        go_ret2
        exact ⟨_, rfl, by simp [progStr, HE.out], hB1.trans ((hbw.trans hb3).mono hB1.size)⟩
  · have he' : (progErr l != 0) = true := by simp [he]
    have HS : Hid (progStr l = []) := by show _ = _; simp [progStr, he]
    clear he hc
    go_enter Try.func20, Try.ntmps20
    go_wp2_with fail
    refine (progCheck_any l _ _ hFw).mono ?_
    rintro e w1 ⟨rfl, hb1⟩
    go_wp2
    go_ret2
    exact ⟨⟨#[]⟩, rfl, by rw [HS.out], hw.trans (hb1.mono hw.size)⟩
end Go.Proofs.Ytenaionchlnpoaa

