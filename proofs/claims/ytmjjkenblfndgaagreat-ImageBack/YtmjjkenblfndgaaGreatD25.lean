/- My texts Ia Ib Ic Id: what of them is needed, joined. -/
import Derived.Laws.Pointers
import Derived.Test.YtmjjkenblfndgaaGreatD1
import Derived.Test.YtmjjkenblfndgaaGreatD2
import Derived.Test.YtmjjkenblfndgaaGreatD5
import Derived.Test.YtmjjkenblfndgaaGreatD6
import Derived.Test.YtmjjkenblfndgaaGreatD17
import Derived.Test.YtmjjkenblfndgaaGreatD21
import Derived.Test.YtmjjkenblfndgaaGreatD24
set_option maxRecDepth 100000
set_option maxHeartbeats 8000000
/- image: numbers and values put behind a text. -/
namespace Go.Proofs.YtmjjkenblfndgaaGreat
open Go.RowKit
set_option linter.unusedSimpArgs false
set_option linter.unusedVariables false
theorem xf8Z {α : Type} {enc : α → List UInt8} {l : List α} {k : Nat} {a : α} (h : l[k]? = some a) : (l.take (k + 1)).flatMap enc = (l.take k).flatMap enc ++ enc a := by
  rw [xa7Z l k a h]; simp
theorem xi1Z (l : List Int) : (l.flatMap fourB).length = 4 * l.length := by
  induction l with
  | nil => rfl
  | cons a r ih => rw [List.flatMap_cons, List.length_append, ih, List.length_cons]; simp only [fourB, List.length_cons, List.length_nil]; omega
theorem xdtZ (l : List Int) : (numsB l).length = 4 * l.length + 1 := by rw [numsB, manyB, List.length_cons, xi1Z]
theorem xjiZ (l : List Val) : (l.flatMap valB).length = 5 * l.length := by
  induction l with
  | nil => rfl
  | cons a r ih => rw [List.flatMap_cons, List.length_append, ih, List.length_cons]; simp only [valB, fourB, List.length_cons, List.length_nil]; omega
theorem xjkZ (l : List Val) : (valsB l).length = 5 * l.length + 1 := by rw [valsB, manyB, List.length_cons, xjiZ]
theorem xh0Z (B b : Nat) (bs : List UInt8) (n : Int) (w : World) (h : Bld B b (Lib.byteCells bs) w) (hlen : bs.length ≤ 1000000) (hBw : B ≤ w.heap.size) :
    Calls Tryz.prog 57 #[.pointer (some ⟨b, 0, none⟩), .slice (some ⟨w.heap.size, 0, none⟩) 1 1] (w.alloc (.cells #[.int .i64 n] 3)) fun e w' => e = .returned (.tuple #[]) ∧ (Bld B b (Lib.byteCells (bs ++ [xakZ n])) w' ∧ Below B w w' ∧ Lib.OthersKept 5 (some b) w w') := by
  have hbl := Bld.lt h
  refine (xjsZ B b bs [n] (some ⟨w.heap.size, 0, none⟩) 1 (w.alloc (.cells #[.int .i64 n] 3)) (h.alloc _) (by simp; omega) (by simp; omega)
      (xhaZ (zs := [n]) (fz := (0, 0)) (xcbZ w _) (by omega))).mono ?_
  rintro e w3 ⟨rfl, hB3, hb3, hk3⟩
  exact ⟨rfl, by simpa using hB3, ((Below.refl B w).alloc hBw _).trans hb3, ((Lib.OthersKept.refl _ _ w).alloc _).trans hk3⟩
theorem put_two (B b : Nat) (bs : List UInt8) (n m : Int) (w : World) (h : Bld B b (Lib.byteCells bs) w) (hlen : bs.length ≤ 1000000) (hBw : B ≤ w.heap.size) :
    Calls Tryz.prog 57 #[.pointer (some ⟨b, 0, none⟩), .slice (some ⟨w.heap.size, 0, none⟩) 2 2] (w.alloc (.cells #[.int .i64 n, .int .i64 m] 3)) fun e w' => e = .returned (.tuple #[]) ∧ (Bld B b (Lib.byteCells (bs ++ [xakZ n, xakZ m])) w' ∧ Below B w w' ∧ Lib.OthersKept 5 (some b) w w') := by
  have hbl := Bld.lt h
  refine (xjsZ B b bs [n, m] (some ⟨w.heap.size, 0, none⟩) 2 (w.alloc (.cells #[.int .i64 n, .int .i64 m] 3)) (h.alloc _) (by simp; omega) (by simp; omega)
      (xhaZ (zs := [n, m]) (fz := (0, 0)) (xcbZ w _) (by omega))).mono ?_
  rintro e w3 ⟨rfl, hB3, hb3, hk3⟩
  exact ⟨rfl, by simpa using hB3, ((Below.refl B w).alloc hBw _).trans hb3, ((Lib.OthersKept.refl _ _ w).alloc _).trans hk3⟩
theorem xfwZ (B b : Nat) (bs : List UInt8) (l : List Int) (v : Value) (w0 w : World) (h : Bld B b (Lib.byteCells bs) w) (hv : IntsAt w0 v l) (hB0 : B = w0.heap.size) (hw0 : Below B w0 w) (hlen : bs.length ≤ 100000) (hL : l.length ≤ 255) :
    Calls Tryz.prog 58 #[.pointer (some ⟨b, 0, none⟩), v] w fun e w' => e = .returned (.tuple #[]) ∧ (Bld B b (Lib.byteCells (bs ++ numsB l)) w' ∧ Below B w w' ∧ Lib.OthersKept 5 (some b) w w') := by
  have hBw : B ≤ w.heap.size := by have := hw0.size; omega
  have HB0 := hideP hB0
  clear hB0
  obtain ⟨p, q, rfl, hm, hc⟩ := hv
  have HC : Hid (∀ k z, l[k]? = some z → ∃ b off, p = some ⟨b, off, none⟩ ∧ b < w0.heap.size ∧ w0.cell? ⟨b, off + k, none⟩ = some (.int .i64 z)) := hc
  have HP := hideP (xh0Z B b bs (l.length : Int) w h (by omega) hBw)
  clear hc h
  go_enter Tryz.func58, Tryz.ntmps58
  go_wp2_with fail
  refine HP.out.mono ?_
  rintro e w2 ⟨rfl, hB2, hb2, hk2⟩
  go_wp2
  go_loopw [5, 13] (fun _ i wr => ∃ k : Nat, k ≤ l.length ∧ i = .int .i64 k ∧ Bld B b (Lib.byteCells (bs ++ xakZ (l.length : Int) :: (l.take k).flatMap fourB)) wr ∧ Below B w wr ∧ Lib.OthersKept 5 (some b) w wr) (fun _ i _ => l.length - (intOf i).toNat)
  case atStart => exact ⟨0, Nat.zero_le _, rfl, by simpa using hB2, hb2, hk2⟩
  case round =>
    obtain ⟨k, hk, rfl, hBr, hbw, hkw⟩ := hrel
    clear hB2 hb2 hk2
    by_cases hlt : k < l.length
    · obtain ⟨z, ho⟩ := xaiZ hlt
      obtain ⟨bl, off, rfl, hblt, hcell⟩ := HC.out k _ ho
      have g0 := ((hw0.trans hbw).cell (p := ⟨bl, off + k, none⟩) (by have := HB0.out; simp; omega)).trans hcell
      have hle : ((l.take k).flatMap fourB).length ≤ 1020 := by rw [xi1Z, List.length_take]; omega
      have hsz := hbw.size
      have HF := hideP (xf2Z B b (bs ++ xakZ (l.length : Int) :: (l.take k).flatMap fourB) z wr hBr (by rw [List.length_append, List.length_cons]; omega) (by omega))
      have HO := hideP ho
      clear ho hcell hBr
      go_wp2_with fail
      refine HF.out.mono ?_
      rintro e w3 ⟨rfl, hB3, hb3, hk3⟩
      go_wp2
      go_roundw
      case rel =>
        refine ⟨k + 1, by omega, by go_num, ?_, hbw.trans hb3, hkw.trans hk3⟩
        have e1 : bs ++ xakZ (l.length : Int) :: (l.take (k + 1)).flatMap fourB = (bs ++ xakZ (l.length : Int) :: (l.take k).flatMap fourB) ++ [xakZ (z / 16777216), xakZ (z / 65536), xakZ (z / 256), xakZ z] := by
          rw [xf8Z HO.out]; simp [fourB]
        rw [e1]; exact hB3
      case measure => simp [intOf]; omega
    · have hlt' : ¬ (k : Int) < (l.length : Int) := by omega
      go_wp2
      go_end0
      rw [List.take_of_length_le (by omega)] at hBr
      exact ⟨rfl, hBr, hbw, hkw⟩
theorem xipZ (B b : Nat) (bs : List UInt8) (l : List Val) (v : Value) (w0 w : World) (h : Bld B b (Lib.byteCells bs) w) (hv : ValsAt w0 v l) (hB0 : B = w0.heap.size) (hw0 : Below B w0 w) (hlen : bs.length ≤ 100000) (hL : l.length ≤ 255) :
    Calls Tryz.prog 59 #[.pointer (some ⟨b, 0, none⟩), v] w fun e w' => e = .returned (.tuple #[]) ∧ (Bld B b (Lib.byteCells (bs ++ valsB l)) w' ∧ Below B w w' ∧ Lib.OthersKept 5 (some b) w w') := by
  have hBw : B ≤ w.heap.size := by have := hw0.size; omega
  have HB0 := hideP hB0
  clear hB0
  obtain ⟨p, q, rfl, hm, hc⟩ := hv
  have HC := hideP hc
  have HP := hideP (xh0Z B b bs (l.length : Int) w h (by omega) hBw)
  clear hc h
  go_enter Tryz.func59, Tryz.ntmps59
  go_wp2_with fail
  refine HP.out.mono ?_
  rintro e w2 ⟨rfl, hB2, hb2, hk2⟩
  go_wp2
  go_loopw [5, 6, 14] (fun _ _ i wr => ∃ k : Nat, k ≤ l.length ∧ i = .int .i64 k ∧ Bld B b (Lib.byteCells (bs ++ xakZ (l.length : Int) :: (l.take k).flatMap valB)) wr ∧ Below B w wr ∧ Lib.OthersKept 5 (some b) w wr) (fun _ _ i _ => l.length - (intOf i).toNat)
  case atStart => exact ⟨0, Nat.zero_le _, rfl, by simpa using hB2, hb2, hk2⟩
  case round =>
    obtain ⟨k, hk, rfl, hBr, hbw, hkw⟩ := hrel
    clear hB2 hb2 hk2
    by_cases hlt : k < l.length
    · obtain ⟨z, ho⟩ := xaiZ hlt
      obtain ⟨bl, off, rfl, hblt, hc0, hc1⟩ := HC.out k _ ho
      have g0 := ((hw0.trans hbw).cell (p := ⟨bl, off + k * 2, none⟩) (by have := HB0.out; simp; omega)).trans hc0
      have g1 := ((hw0.trans hbw).cell (p := ⟨bl, off + k * 2 + 1, none⟩) (by have := HB0.out; simp; omega)).trans hc1
      have hle : ((l.take k).flatMap valB).length ≤ 1275 := by rw [xjiZ, List.length_take]; omega
      have hsz := hbw.size
      obtain ⟨W1, hW1⟩ : ∃ W1, wr.alloc (.cells #[.bool z.1, .int .i64 z.2] 113) = W1 := ⟨_, rfl⟩
      have x1 : W1.heap[wr.heap.size]? = some (.cells #[.bool z.1, .int .i64 z.2] 113 (0, 0)) := by rw [← hW1]; exact World.alloc_heap_new wr _
      have d0 : W1.cell? ⟨wr.heap.size, 0, none⟩ = some (.bool z.1) := xaaZ x1 0
      have lx := xacZ x1
      have hbl := Bld.lt hBr
      have bw1 : Below B wr W1 := by rw [← hW1]; exact (Below.refl B wr).alloc (by omega) _
      have kw1 : Lib.OthersKept 5 (some b) wr W1 := by rw [← hW1]; exact (Lib.OthersKept.refl _ _ wr).alloc _
      have HP1 := hideP (xh0Z B b (bs ++ xakZ (l.length : Int) :: (l.take k).flatMap valB) (if z.1 then 1 else 0) W1 (by rw [← hW1]; exact hBr.alloc _) (by rw [List.length_append, List.length_cons]; omega) (by omega))
      have HX1 := hideP x1
      have HO := hideP ho
      clear ho hc0 hc1 x1
      rcases hz : z.1 with _ | _
      · rw [hz] at g0 d0 HP1 hW1
        simp only [if_true, if_false, Bool.false_eq_true] at HP1
        clear hBr
        go_wp2_with fail
        refine HP1.out.mono ?_
        rintro e w3 ⟨rfl, hB3, hb3, hk3⟩
        have x3 := xe7Z hk3 HX1.out (by omega) (by decide)
        have d1 : w3.cell? ⟨wr.heap.size, 1, none⟩ = some (.int .i64 z.2) := xaaZ x3 1
        have hs3 := hb3.size
        have HF := hideP (xf2Z B b _ z.2 w3 hB3 (by simp only [List.length_append, List.length_cons, List.length_nil]; omega) (by have := bw1.size; omega))
        clear hB3 x3
        go_wp2_with fail
        refine HF.out.mono ?_
        rintro e w4 ⟨rfl, hB4, hb4, hk4⟩
        go_wp2
        go_roundw
        case rel =>
          refine ⟨k + 1, by omega, by go_num, ?_, ((hbw.trans bw1).trans hb3).trans hb4, ((hkw.trans kw1).trans hk3).trans hk4⟩
          have e1 : bs ++ xakZ (l.length : Int) :: (l.take (k + 1)).flatMap valB = bs ++ xakZ (l.length : Int) :: (l.take k).flatMap valB ++ [xakZ 0] ++ [xakZ (z.2 / 16777216), xakZ (z.2 / 65536), xakZ (z.2 / 256), xakZ z.2] := by
            rw [xf8Z HO.out]; simp [valB, fourB, hz]
          rw [e1]; exact hB4
        case measure => simp [intOf]; omega
      · rw [hz] at g0 d0 HP1 hW1
        simp only [if_true, if_false, Bool.false_eq_true] at HP1
        clear hBr
        go_wp2_with fail
        refine HP1.out.mono ?_
        rintro e w3 ⟨rfl, hB3, hb3, hk3⟩
        have x3 := xe7Z hk3 HX1.out (by omega) (by decide)
        have d1 : w3.cell? ⟨wr.heap.size, 1, none⟩ = some (.int .i64 z.2) := xaaZ x3 1
        have hs3 := hb3.size
        have HF := hideP (xf2Z B b _ z.2 w3 hB3 (by simp only [List.length_append, List.length_cons, List.length_nil]; omega) (by have := bw1.size; omega))
        clear hB3 x3
        go_wp2_with fail
        refine HF.out.mono ?_
        rintro e w4 ⟨rfl, hB4, hb4, hk4⟩
        go_wp2
        go_roundw
        case rel =>
          refine ⟨k + 1, by omega, by go_num, ?_, ((hbw.trans bw1).trans hb3).trans hb4, ((hkw.trans kw1).trans hk3).trans hk4⟩
          have e1 : bs ++ xakZ (l.length : Int) :: (l.take (k + 1)).flatMap valB = bs ++ xakZ (l.length : Int) :: (l.take k).flatMap valB ++ [xakZ 1] ++ [xakZ (z.2 / 16777216), xakZ (z.2 / 65536), xakZ (z.2 / 256), xakZ z.2] := by
            rw [xf8Z HO.out]; simp [valB, fourB, hz]
          rw [e1]; exact hB4
        case measure => simp [intOf]; omega
    · have hlt' : ¬ (k : Int) < (l.length : Int) := by omega
      go_wp2
      go_end0
      rw [List.take_of_length_le (by omega)] at hBr
      exact ⟨rfl, hBr, hbw, hkw⟩
end Go.Proofs.YtmjjkenblfndgaaGreat


/- image.Save. -/
namespace Go.Proofs.YtmjjkenblfndgaaGreat
open Go.RowKit
set_option linter.unusedSimpArgs false
set_option linter.unusedVariables false
noncomputable def saveB (p : List Fn) (M : Mach) : List UInt8 := if xaoZ p M = 0 then machB M else []
theorem xdlZ {p : List Fn} {M : Mach} (h : xaoZ p M = 0) : ByteM M := by
  obtain ⟨hp, he, hR⟩ := xa8Z.1 h
  obtain ⟨h0, h5, hf, -⟩ := xeoZ hp
  refine right_byte h5 (fun f hm => (xehZ _ (fnErr_zero (hf f hm)).2.2.2.2.1).1) hR (xclZ hp he hR).1.each (fun k f hk pc s hs => ?_)
  obtain ⟨o, out, ho, -⟩ := (he k f hk).1.on pc s hs
  exact xaeZ ho
theorem xgdZ (L : List (List Int)) (h : ∀ b ∈ L, b.length ≤ 40) : (L.flatMap numsB).length ≤ 161 * L.length := by
  induction L with
  | nil => simp
  | cons x r ih =>
    have h1 := h x (by simp)
    have h2 := ih fun b hb => h b (by simp [hb])
    simp only [List.flatMap_cons, List.length_append, List.length_cons, xdtZ]
    omega
theorem xp0Z (x : Frm) : (frmB x).length = 5 * x.loc.length + 5 * x.stk.length + 4 := by
  simp only [frmB, List.length_cons, List.length_append, xjkZ]; omega
theorem xi2Z (F : List Frm) (h : ∀ x ∈ F, x.loc.length ≤ 20 ∧ x.stk.length ≤ 20) : (F.flatMap frmB).length ≤ 204 * F.length := by
  induction F with
  | nil => simp
  | cons x r ih =>
    have h1 := h x (by simp)
    have h2 := ih fun b hb => h b (by simp [hb])
    simp only [List.flatMap_cons, List.length_append, List.length_cons, xp0Z]
    omega
theorem xe6Z (M : Mach) (p : List Fn) (pv fv bv iv ov : Value) (w : World) (h : CkAt w p pv fv bv iv ov M) (hpc : PcOk M) : Calls Tryz.prog 27 #[.agg #[pv], .agg #[fv, bv, iv, ov, .int .i64 M.status, .int .i64 M.trap]] w fun e w' => ∃ T : ByteArray, e = .returned (.tuple #[.string T, .int .i64 (xaoZ p M)]) ∧ T.data.toList = saveB p M ∧ Below w.heap.size w w' := by
  obtain ⟨⟨pp, qp, hpv⟩, ⟨pf, cf, hfv⟩, ⟨pb, cb, hbv⟩, ⟨pi, ci, hiv⟩, ⟨po, co, hov⟩⟩ := h.shp
  subst hpv hfv hbv hiv hov
  obtain ⟨W1, hW1⟩ : ∃ W1, (w.alloc (.cells #[.slice pp p.length qp] 24)).alloc (.cells #[.slice pf M.frames.length cf, .slice pb M.blocks.length cb, .slice pi M.inp.length ci, .slice po M.out.length co, .int .i64 M.status, .int .i64 M.trap] 48) = W1 := ⟨_, rfl⟩
  have b1 : Below w.heap.size w W1 := by rw [← hW1]; exact ((Below.refl _ w).alloc (Nat.le_refl _) _).alloc (by simp) _
  have u1 : W1.heap[w.heap.size]? = some (.cells #[.slice pp p.length qp] 24 (0, 0)) := by rw [← hW1]; exact xajZ (World.alloc_heap_new w _) _
  have u2 : W1.heap[w.heap.size + 1]? = some (.cells #[.slice pf M.frames.length cf, .slice pb M.blocks.length cb, .slice pi M.inp.length ci, .slice po M.out.length co, .int .i64 M.status, .int .i64 M.trap] 48 (0, 0)) := by rw [← hW1]; exact xa9Z w _ _
  have l1 := xacZ u1
  have l2 := xacZ u2
  have KC : Hid (∀ W, Below W1.heap.size W1 W → W.cell? ⟨w.heap.size, 0, none⟩ = some (.slice pp p.length qp) ∧ W.cell? ⟨w.heap.size + 1, 0, none⟩ = some (.slice pf M.frames.length cf) ∧ W.cell? ⟨w.heap.size + 1, 1, none⟩ = some (.slice pb M.blocks.length cb) ∧ W.cell? ⟨w.heap.size + 1, 2, none⟩ = some (.slice pi M.inp.length ci) ∧ W.cell? ⟨w.heap.size + 1, 3, none⟩ = some (.slice po M.out.length co) ∧ W.cell? ⟨w.heap.size + 1, 4, none⟩ = some (.int .i64 M.status) ∧ W.cell? ⟨w.heap.size + 1, 5, none⟩ = some (.int .i64 M.trap)) := fun W hW => by
    have h1 := (hW.block _ l1).trans u1
    have h2 := (hW.block _ l2).trans u2
    exact ⟨xaaZ h1 0, xaaZ h2 0, xaaZ h2 1, xaaZ h2 2, xaaZ h2 3, xaaZ h2 4, xaaZ h2 5⟩
  obtain ⟨d6, d0, d1, d2, d3, d4, d5⟩ := KC.out W1 (Below.refl _ _)
  have H1 := h.below b1
  have HCK := hideP (xd6Z M p _ _ _ _ _ W1 H1 hpc)
  have HH := hideP H1
  have HB1 := hideP b1
  clear h H1 u1 u2 hpc b1
  by_cases hc : xaoZ p M = 0
  rotate_left
  · have hc' : (xaoZ p M != 0) = true := by simpa using hc
    have hs : saveB p M = [] := if_neg hc
    rw [hs]
    generalize xaoZ p M = er at *
    clear hc hs
    go_enter Tryz.func27, Tryz.ntmps27
    go_wp2_with fail
    refine HCK.out.mono ?_
    rintro e' w2 ⟨rfl, b2⟩
    have HB2 := hideP b2
    clear b2 d0 d1 d2 d3 d4 d5 d6
    go_wp2
    go_ret2
    refine ⟨_, rfl, ?_, xadZ HB1.out HB2.out⟩
    rfl
  have hbyte := xdlZ hc
  have hs : saveB p M = machB M := if_pos hc
  rw [hs, hc]
  rw [hc] at HCK
  obtain ⟨hp, he, hR⟩ := xa8Z.1 hc
  have hsm := (xclZ hp he hR).1
  have HSM := hideP hsm
  obtain ⟨s1, s2, s3, s4, s5, s6⟩ := hsm
  have HS2 := hideP s2
  have HS4 := hideP s4
  clear hp he hR hc hs hbyte s2 s4
  go_enter Tryz.func27, Tryz.ntmps27
  go_wp2_with fail
  refine HCK.out.mono ?_
  rintro e' w2 ⟨rfl, b2⟩
  clear d0 d1 d2 d3 d4 d5 d6
  obtain ⟨d6, d0, d1, d2, d3, d4, d5⟩ := KC.out w2 b2
  have HB2 := hideP b2
  have BLD3 := hideP (show Bld w2.heap.size w2.heap.size (Lib.byteCells []) (w2.alloc (.cells #[.pointer none, .slice none 0 0] 98)) from Lib.IsBuilderF.of (Lib.fresh_isBuilder 98 5 w2))
  obtain ⟨w3, hw3⟩ : ∃ W3, w2.alloc (.cells #[.pointer none, .slice none 0 0] 98) = W3 := ⟨_, rfl⟩
  have b3 : Below w2.heap.size w2 w3 := by rw [← hw3]; exact (Below.refl _ w2).alloc (Nat.le_refl _) _
  rw [hw3] at BLD3
  have lx3 : w2.heap.size < w3.heap.size := by rw [← hw3]; simp
  have HMA := hideP (HH.out.mach.below b2)
  have hfr := HMA.out.fr
  have hbk := HMA.out.bl
  clear d0 d1 d2 d3 d4 d5 d6 b2
  obtain ⟨d6, d0, d1, d2, d3, d4, d5⟩ := KC.out w3 (xadZ HB2.out b3)
  have B3 := hideP b3
  have HP3 := hideP (put_two w2.heap.size w2.heap.size [] M.status M.trap w3 BLD3.out (by simp) (by omega))
  clear b3
  go_wp2_with fail
  refine HP3.out.mono ?_
  rintro e w4 ⟨rfl, bld, bb, -⟩
  have B4 := hideP (B3.out.trans bb)
  have BLD4 := hideP bld
  have s4 := bb.size
  clear d0 d1 d2 d3 d4 d5 d6 bld bb
  obtain ⟨d6, d0, d1, d2, d3, d4, d5⟩ := KC.out w4 (xadZ HB2.out B4.out)
  have HP4 := hideP (xfwZ w2.heap.size w2.heap.size _ M.inp (.slice pi M.inp.length ci) w2 w4 BLD4.out HMA.out.inp.at_ rfl B4.out (by simp) (by omega))
  go_wp2_with fail
  refine HP4.out.mono ?_
  rintro e w5 ⟨rfl, bld, bb, -⟩
  have B5 := hideP (B4.out.trans bb)
  have BLD5 := hideP bld
  have s5 := bb.size
  clear d0 d1 d2 d3 d4 d5 d6 bld bb
  obtain ⟨d6, d0, d1, d2, d3, d4, d5⟩ := KC.out w5 (xadZ HB2.out B5.out)
  have HP5 := hideP (xfwZ w2.heap.size w2.heap.size _ M.out (.slice po M.out.length co) w2 w5 BLD5.out HMA.out.out.at_ rfl B5.out (by rw [List.length_append, xdtZ]; simp; omega) (by omega))
  go_wp2_with fail
  refine HP5.out.mono ?_
  rintro e w6 ⟨rfl, bld, bb, -⟩
  have B6 := hideP (B5.out.trans bb)
  have BLD6 := hideP bld
  have s6 := bb.size
  clear d0 d1 d2 d3 d4 d5 d6 bld bb
  obtain ⟨d6, d0, d1, d2, d3, d4, d5⟩ := KC.out w6 (xadZ HB2.out B6.out)
  have HP6 := hideP (xh0Z w2.heap.size w2.heap.size _ (M.blocks.length : Int) w6 BLD6.out (by rw [List.length_append, List.length_append, xdtZ, xdtZ]; simp; omega) (by omega))
  go_wp2_with fail
  refine HP6.out.mono ?_
  rintro e w7 ⟨rfl, bld, bb, -⟩
  have B7 := hideP (B6.out.trans bb)
  have BLD7 := hideP bld
  have s7 := bb.size
  clear d0 d1 d2 d3 d4 d5 d6 bld bb
  obtain ⟨d6, d0, d1, d2, d3, d4, d5⟩ := KC.out w7 (xadZ HB2.out B7.out)
  have hl7 : (([] ++ [xakZ M.status, xakZ M.trap]) ++ numsB M.inp ++ numsB M.out ++ [xakZ (M.blocks.length : Int)]).length ≤ 100 := by
    simp only [List.length_append, xdtZ, List.length_cons, List.length_nil]
    omega
  obtain ⟨bs, hbs⟩ : ∃ bs, ([] ++ [xakZ M.status, xakZ M.trap]) ++ numsB M.inp ++ numsB M.out ++ [xakZ (M.blocks.length : Int)] = bs := ⟨_, rfl⟩
  rw [hbs] at BLD7 hl7
  have HBS := hideP hbs
  clear hbs
  go_wp2
  go_loopw [9, 38] (fun _ i wr => ∃ k : Nat, k ≤ M.blocks.length ∧ i = .int .i64 k ∧ Bld w2.heap.size w2.heap.size (Lib.byteCells (bs ++ (M.blocks.take k).flatMap numsB)) wr ∧ Below w2.heap.size w2 wr) (fun _ i _ => M.blocks.length - (intOf i).toNat)
  case atStart => exact ⟨0, Nat.zero_le _, rfl, by simpa using BLD7.out, B7.out⟩
  case round =>
    rename World => w8
    obtain ⟨k, hk, rfl, hB8, b8⟩ := hrel
    obtain ⟨pbb, cbb, heb, -, hcb⟩ := id hbk
    cases heb
    clear d0 d1 d2 d3 d4 d5 d6
    by_cases hlt : k < M.blocks.length
    · have hlti : (k : Int) < (M.blocks.length : Int) := by omega
      obtain ⟨x, ho⟩ := xaiZ hlt
      obtain ⟨g, off, c, hp, hg, g0, g1, -, -⟩ := hcb k x ho
      subst hp
      have g2 := (b8.cell (p := ⟨g, off + k, none⟩) hg).trans g0
      have hx40 := HS4.out x (List.mem_of_getElem? ho)
      have hle : ((M.blocks.take k).flatMap numsB).length ≤ 161 * 8 := by
        have := xgdZ (M.blocks.take k) (fun y hy => HS4.out y (List.mem_of_mem_take hy))
        rw [List.length_take] at this
        omega
      have HPN := hideP (xfwZ w2.heap.size w2.heap.size (bs ++ (M.blocks.take k).flatMap numsB) x c w2 w8 hB8 g1 rfl b8 (by rw [List.length_append]; omega) (by omega))
      have HO := hideP ho
      have HB8 := hideP b8
      obtain ⟨pc, cc, hcv, -, -⟩ := g1
      subst hcv
      clear ho hB8 b8 g0 hcb
      go_wp2_with fail
      refine HPN.out.mono ?_
      rintro e w9 ⟨rfl, hB9, b9, -⟩
      go_wp2
      go_roundw
      case rel =>
        refine ⟨k + 1, by omega, by go_num, ?_, HB8.out.trans b9⟩
        rw [xf8Z HO.out, ← List.append_assoc]
        exact hB9
      case measure => simp [intOf]; omega
    · have hlti : ¬ (k : Int) < (M.blocks.length : Int) := by omega
      have hL : (M.blocks.take k).flatMap numsB = M.blocks.flatMap numsB := by rw [List.take_of_length_le (by omega)]
      rw [hL] at hB8
      have hfl : (M.blocks.flatMap numsB).length ≤ 161 * 8 := by
        have := xgdZ M.blocks HS4.out
        omega
      obtain ⟨d6, d0, d1, d2, d3, d4, d5⟩ := KC.out w8 (xadZ HB2.out b8)
      have s8 := b8.size
      have B8 := hideP b8
      have HP8 := hideP (xh0Z w2.heap.size w2.heap.size _ (M.frames.length : Int) w8 hB8 (by rw [List.length_append]; omega) (by omega))
      clear hcb hB8 b8 hL
      go_wp2_with fail
      refine HP8.out.mono ?_
      rintro e w9 ⟨rfl, bld, bb, -⟩
      have B9 := hideP (B8.out.trans bb)
      have BLD9 := hideP bld
      have s9 := bb.size
      clear d0 d1 d2 d3 d4 d5 d6 bld bb
      obtain ⟨d6, d0, d1, d2, d3, d4, d5⟩ := KC.out w9 (xadZ HB2.out B9.out)
      have hl9 : (bs ++ M.blocks.flatMap numsB ++ [xakZ (M.frames.length : Int)]).length ≤ 2000 := by
        simp only [List.length_append, List.length_cons, List.length_nil]
        omega
      obtain ⟨ts, hts⟩ : ∃ ts, bs ++ M.blocks.flatMap numsB ++ [xakZ (M.frames.length : Int)] = ts := ⟨_, rfl⟩
      rw [hts] at BLD9 hl9
      have HTS := hideP hts
      clear hts
      go_wp2
      go_loopw [11, 53] (fun _ i wr => ∃ k : Nat, k ≤ M.frames.length ∧ i = .int .i64 k ∧ Bld w2.heap.size w2.heap.size (Lib.byteCells (ts ++ (M.frames.take k).flatMap frmB)) wr ∧ Below w2.heap.size w2 wr) (fun _ i _ => M.frames.length - (intOf i).toNat)
      case atStart => exact ⟨0, Nat.zero_le _, rfl, by simpa using BLD9.out, B9.out⟩
      case round =>
        rename World => wA
        obtain ⟨k, hk, rfl, hBA, bA⟩ := hrel
        obtain ⟨pff, cff, hef, -, -, hcf⟩ := id hfr
        cases hef
        clear d0 d1 d2 d3 d4 d5 d6
        by_cases hlt : k < M.frames.length
        · have hlti : (k : Int) < (M.frames.length : Int) := by omega
          obtain ⟨x, ho⟩ := xaiZ hlt
          obtain ⟨g, off, lv, sv, hp, hg, g0, g1, g2, g3, gl, -, gs, -⟩ := hcf k x ho
          subst hp
          obtain ⟨h20, h20'⟩ := HS2.out x (List.mem_of_getElem? ho)
          obtain ⟨pl, cl, hlv, -, -⟩ := id gl
          obtain ⟨ps, cs, hsv, -, -⟩ := id gs
          subst hlv hsv
          have e0 := (bA.cell (p := ⟨g, off + k * 4, none⟩) hg).trans g0
          have e1 := (bA.cell (p := ⟨g, off + k * 4 + 1, none⟩) hg).trans g1
          have e2 := (bA.cell (p := ⟨g, off + k * 4 + 2, none⟩) hg).trans g2
          have e3 := (bA.cell (p := ⟨g, off + k * 4 + 3, none⟩) hg).trans g3
          have hle : ((M.frames.take k).flatMap frmB).length ≤ 204 * 6 := by
            have := xi2Z (M.frames.take k) (fun y hy => HS2.out y (List.mem_of_mem_take hy))
            rw [List.length_take] at this
            omega
          have sA := bA.size
          obtain ⟨wB, hwB⟩ : ∃ W, wA.alloc (.cells #[.int .i64 x.fn, .int .i64 x.pc, .slice pl x.loc.length cl, .slice ps x.stk.length cs] 89) = W := ⟨_, rfl⟩
          have xB : wB.heap[wA.heap.size]? = some (.cells #[.int .i64 x.fn, .int .i64 x.pc, .slice pl x.loc.length cl, .slice ps x.stk.length cs] 89 (0, 0)) := by rw [← hwB]; exact World.alloc_heap_new wA _
          have bB : Below w2.heap.size w2 wB := by rw [← hwB]; exact bA.alloc sA _
          have hBB : Bld w2.heap.size w2.heap.size (Lib.byteCells (ts ++ (M.frames.take k).flatMap frmB)) wB := by rw [← hwB]; exact hBA.alloc _
          have hbl := Bld.lt hBA
          have lB := xacZ xB
          have f0 : wB.cell? ⟨wA.heap.size, 0, none⟩ = some (.int .i64 x.fn) := xaaZ xB 0
          have f1 : wB.cell? ⟨wA.heap.size, 1, none⟩ = some (.int .i64 x.pc) := xaaZ xB 1
          have HPA := hideP (put_two w2.heap.size w2.heap.size (ts ++ (M.frames.take k).flatMap frmB) x.fn x.pc wB hBB (by rw [List.length_append]; omega) (by omega))
          have XB := hideP xB
          have BB := hideP bB
          have HO := hideP ho
          have GL := hideP gl
          have GS := hideP gs
          clear ho hBA bA g0 g1 g2 g3 hcf hBB bB xB gl gs
          go_wp2_with fail
          refine HPA.out.mono ?_
          rintro e wC ⟨rfl, hBC, bC, kC⟩
          have xC := xe7Z kC XB.out (by omega) (by decide)
          have f2 : wC.cell? ⟨wA.heap.size, 2, none⟩ = some (.slice pl x.loc.length cl) := xaaZ xC 2
          have HPC := hideP (xipZ w2.heap.size w2.heap.size _ x.loc _ w2 wC hBC GL.out rfl (BB.out.trans bC) (by simp only [List.length_append, List.length_cons, List.length_nil]; omega) (by omega))
          have XC := hideP xC
          have BC := hideP (BB.out.trans bC)
          clear hBC bC kC xC f0 f1
          go_wp2_with fail
          refine HPC.out.mono ?_
          rintro e wD ⟨rfl, hBD, bD, kD⟩
          have xD := xe7Z kD XC.out (by omega) (by decide)
          have f3 : wD.cell? ⟨wA.heap.size, 3, none⟩ = some (.slice ps x.stk.length cs) := xaaZ xD 3
          have HPD := hideP (xipZ w2.heap.size w2.heap.size _ x.stk _ w2 wD hBD GS.out rfl (BC.out.trans bD) (by simp only [List.length_append, List.length_cons, List.length_nil, xjkZ]; omega) (by omega))
          have BD := hideP (BC.out.trans bD)
          clear hBD bD kD xD f2
          go_wp2_with fail
          refine HPD.out.mono ?_
          rintro e wE ⟨rfl, hBE, bE, -⟩
          go_wp2
          go_roundw
          case rel =>
            refine ⟨k + 1, by omega, by go_num, ?_, BD.out.trans bE⟩
            have e9 : ts ++ (M.frames.take (k + 1)).flatMap frmB = ts ++ (M.frames.take k).flatMap frmB ++ [xakZ x.fn, xakZ x.pc] ++ valsB x.loc ++ valsB x.stk := by
              rw [xf8Z HO.out]; simp [frmB]
            rw [e9]
            exact hBE
          case measure => simp [intOf]; omega
        · have hlti : ¬ (k : Int) < (M.frames.length : Int) := by omega
          have hL : ts ++ (M.frames.take k).flatMap frmB = machB M := by
            rw [List.take_of_length_le (by omega), ← HTS.out, ← HBS.out, machB, manyB, manyB]
            simp
          rw [hL] at hBA
          have BA := hideP bA
          have HSA := hideP (Tryz.string_any w2.heap.size w2.heap.size (machB M) wA hBA bA.size)
          clear hcf hBA bA hL
          go_wp2_with (go_at_call 60; refine HSA.out.mono ?_; rintro e wF ⟨rfl, hBF, bF, -⟩)
          go_ret2
          exact ⟨_, rfl, by simp, xadZ HB1.out (xadZ HB2.out (BA.out.trans bF))⟩
end Go.Proofs.YtmjjkenblfndgaaGreat


/- image: the reader, which gives up by a panic. -/
namespace Go.Proofs.YtmjjkenblfndgaaGreat
open Go.RowKit
set_option linter.unusedSimpArgs false
set_option linter.unusedVariables false
def RdI (w : World) (b : Nat) (s : List UInt8) : Prop := ∃ X : ByteArray, w.heap[b]? = some (.cells #[.string X] 145 (0, 0)) ∧ X.data.toList = s ∧ X.size ≤ 9223372036854775807
def MIS : Ending := .panicked [{ v := .iface 141 (.agg #[]), recovered := false }]
def Gives {α : Type} (w : World) (b : Nat) (r : Option (α × List UInt8)) (V : World → Value → α → Prop) (e : Ending) (w' : World) : Prop :=
  w.grownBy w' (some b) ∧ ((r = none ∧ e = MIS) ∨ ∃ a q v, r = some (a, q) ∧ e = .returned v ∧ RdI w' b q ∧ V w' v a)
theorem RdI.lt {w : World} {b : Nat} {s : List UInt8} (h : RdI w b s) : b < w.heap.size := by obtain ⟨X, h1, -⟩ := h; exact xacZ h1
theorem RdI.kept {w w' : World} {b : Nat} {s : List UInt8} {row : Option Nat} (h : RdI w b s) (hg : w.grownBy w' row) (hne : row ≠ some b) : RdI w' b s := by
  obtain ⟨X, h1, h2, h3⟩ := h
  exact ⟨X, (hg.block b (xacZ h1) (fun e => hne e.symm)).trans h1, h2, h3⟩
theorem xatZ {w w1 w2 : World} {b : Nat} {row : Option Nat} (h : w.grownBy w1 (some b)) (k : w1.grownBy w2 row) (hr : ∀ r, row = some r → r = b ∨ w.heap.size ≤ r) : w.grownBy w2 (some b) :=
  ⟨k.os.trans h.os, k.tape.trans h.tape, k.output.trans h.output, Nat.le_trans h.size k.size, fun i hi hn => (k.block i (Nat.lt_of_lt_of_le hi h.size) (fun e => by
    rcases hr i e.symm with h1 | h1
    · exact hn (by rw [h1])
    · omega)).trans (h.block i hi hn)⟩
theorem xhkZ {w w' : World} {b B : Nat} (h : w.grownBy w' (some b)) (hb : B ≤ b) (hB : B ≤ w.heap.size) : Below B w w' :=
  ⟨h.os, h.tape, h.output, h.size, fun k hk => h.block k (by omega) (fun e => by cases e; omega)⟩
theorem ta_mis_nil (w : World) : (Instr.typeAssert Value.nilIface 20 141 true).run Tryz.prog w = .ok (.tuple #[.agg #[], .bool false]) w := by kernel_rfl
theorem ta_mis (w : World) : (Instr.typeAssert (.iface 141 (.agg #[])) 20 141 true).run Tryz.prog w = .ok (.tuple #[.agg #[], .bool true]) w := by kernel_rfl
theorem itake_ok (b n : Nat) (s : List UInt8) (w : World) (h : RdI w b s) (hn : n ≤ s.length) (hn4 : n ≤ 4) : Calls Tryz.prog 165 #[.pointer (some ⟨b, 0, none⟩), .int .i64 n] w fun e w' => ∃ S : ByteArray, e = .returned (.string S) ∧ S.data.toList = s.take n ∧ RdI w' b (s.drop n) ∧ w.grownBy w' (some b) := by
  obtain ⟨X, hh, hX, hXs⟩ := h
  have hsz : X.size = s.length := by rw [← hX]; simp
  have c0 : w.cell? ⟨b, 0, none⟩ = some (.string X) := xaaZ hh 0
  have f0 : w.frozen? ⟨b, 0, none⟩ = false := Lib.frozen_of_heap hh 0
  have HX := hideP hX
  have HSZ := hideP hsz
  have HH := hideP hh
  have hle : n ≤ X.size := by omega
  have hle' : ¬ (X.size : Int) < (n : Int) := by omega
  clear hX hsz hh
  go_enter Tryz.func165, Tryz.ntmps165
  go_wp2
  go_ret
  have hx := HX.out
  refine ⟨_, rfl, ?_, ⟨X.extract n X.size, ?_, ?_, ?_⟩, xa6Z _ _ _ _⟩
  · rw [xizZ, hx]; simp
  · rw [heap_setCell_same w b 0 _ _ _ HH.out]; rfl
  · rw [xizZ, List.take_of_length_le (by simp), hx]
  · simp; omega
theorem xmjZ (b n : Nat) (s : List UInt8) (w : World) (h : RdI w b s) (hn : s.length < n) (hn4 : n ≤ 4) : Calls Tryz.prog 165 #[.pointer (some ⟨b, 0, none⟩), .int .i64 n] w fun e w' => e = MIS ∧ w' = w := by
  obtain ⟨X, hh, hX, hXs⟩ := h
  have hsz : X.size = s.length := by rw [← hX]; simp
  have c0 : w.cell? ⟨b, 0, none⟩ = some (.string X) := xaaZ hh 0
  have hle' : (X.size : Int) < (n : Int) := by omega
  have HM := hideP (show MIS = .panicked [{ v := .iface 141 (.agg #[]), recovered := false }] from rfl)
  clear hX hsz hh
  go_enter Tryz.func165, Tryz.ntmps165
  go_wp2
  exact ⟨rfl, HM.out.symm, rfl⟩
theorem xctZ (b : Nat) (s : List UInt8) (w : World) (h : RdI w b s) : Calls Tryz.prog 125 #[.pointer (some ⟨b, 0, none⟩)] w (Gives w b (smallP s) fun _ v n => v = .int .i64 n) := by
  cases s with
  | nil =>
    have HT := hideP (xmjZ b 1 [] w h (by simp) (by omega))
    go_enter Tryz.func125, Tryz.ntmps125
    go_wp2_with fail
    refine HT.out.mono ?_
    rintro e w2 ⟨rfl, rfl⟩
    exact ⟨rfl, ⟨rfl, rfl, rfl, Nat.le_refl _, fun _ _ _ => rfl⟩, .inl ⟨rfl, rfl⟩⟩
  | cons x r =>
    have HT := hideP (itake_ok b 1 (x :: r) w h (by simp) (by omega))
    clear h
    go_enter Tryz.func125, Tryz.ntmps125
    go_wp2_with fail
    refine HT.out.mono ?_
    rintro e w2 ⟨S, rfl, hS, hR, hg⟩
    have hSs : S.size ≤ 4 := by have : S.size = ((x :: r).take 1).length := by rw [← hS]; simp
                                simp at this; omega
    have HS := hideP hS
    have HG := hideP (And.intro hR hg)
    clear hS hR hg
    go_wp2_with (go_at_call 164; refine (xlcZ S _ hSs).mono ?_; rintro e w' ⟨rfl, hw⟩; have hw := hw.symm; subst hw)
    go_ret
    have hS := HS.out
    refine ⟨HG.out.2, .inr ⟨_, _, _, rfl, rfl, HG.out.1, ?_⟩⟩
    rw [hS]
    simp [numOf]
theorem xe1Z (b : Nat) (s : List UInt8) (w : World) (h : RdI w b s) : Calls Tryz.prog 168 #[.pointer (some ⟨b, 0, none⟩)] w (Gives w b (numP s) fun _ v n => v = .int .i64 n) := by
  by_cases h4 : s.length < 4
  · have HT := hideP (xmjZ b 4 s w h (by omega) (by omega))
    have HN := hideP (show numP s = none from if_pos h4)
    clear h h4
    go_enter Tryz.func168, Tryz.ntmps168
    go_wp2_with fail
    refine HT.out.mono ?_
    rintro e w2 ⟨rfl, rfl⟩
    exact ⟨rfl, ⟨rfl, rfl, rfl, Nat.le_refl _, fun _ _ _ => rfl⟩, .inl ⟨HN.out, rfl⟩⟩
  · have HT := hideP (itake_ok b 4 s w h (by omega) (by omega))
    have HN := hideP (show numP s = some (wrap32 (numOf (s.take 4)), s.drop 4) from if_neg h4)
    clear h h4
    go_enter Tryz.func168, Tryz.ntmps168
    go_wp2_with fail
    refine HT.out.mono ?_
    rintro e w2 ⟨S, rfl, hS, hR, hg⟩
    have hSs : S.size ≤ 4 := by have : S.size = (s.take 4).length := by rw [← hS]; simp
                                rw [List.length_take] at this; omega
    have HS := hideP hS
    have HG := hideP (And.intro hR hg)
    clear hS hR hg
    go_wp2_with (first | (go_at_call 164; refine (xlcZ S _ hSs).mono ?_; rintro e w' ⟨rfl, hw⟩; have hw := hw.symm; subst hw) | (go_at_call 41; refine (xigZ _ _).mono ?_; rintro e w' ⟨rfl, hw⟩; have hw := hw.symm; subst hw))
    go_ret
    have hS := HS.out
    refine ⟨HG.out.2, .inr ⟨_, _, _, HN.out, rfl, HG.out.1, ?_⟩⟩
    first | rfl | (rw [hS]; rfl)
end Go.Proofs.YtmjjkenblfndgaaGreat


/- image: many numbers; numbers. -/
namespace Go.Proofs.YtmjjkenblfndgaaGreat
open Go.RowKit
set_option linter.unusedSimpArgs false
set_option linter.unusedVariables false
theorem xmaZ {w : World} {b : Nat} {x : Value} (h : w.cell? ⟨b, 0, none⟩ = some x) : ∀ (j : Nat) (u : Value), [x][j]? = some u → w.cell? ((⟨b, 0, none⟩ : Addr).add j) = some u := fun j u hj => by
  match j, hj with
  | 0, hj => simp at hj; subst hj; exact h
  | j + 1, hj => simp at hj
theorem Gives.mis {α : Type} {w w' : World} {b : Nat} {V : World → Value → α → Prop} {e : Ending} (h : Gives w b none V e w') : e = MIS ∧ w.grownBy w' (some b) := by
  obtain ⟨hg, ⟨-, h⟩ | ⟨a, q, v, h, -⟩⟩ := h
  · exact ⟨h, hg⟩
  · cases h
theorem Gives.val {α : Type} {w w' : World} {b : Nat} {V : World → Value → α → Prop} {e : Ending} {a : α} {q : List UInt8} (h : Gives w b (some (a, q)) V e w') : ∃ v, e = .returned v ∧ RdI w' b q ∧ V w' v a ∧ w.grownBy w' (some b) := by
  obtain ⟨hg, ⟨h, -⟩ | ⟨a', q', v, h, h1, h2, h3⟩⟩ := h
  · cases h
  · cases h
    exact ⟨v, h1, h2, h3, hg⟩
theorem Gives.mk_mis {α : Type} {w w' : World} {b : Nat} {r : Option (α × List UInt8)} {V : World → Value → α → Prop} (h : w.grownBy w' (some b)) (hr : r = none) : Gives w b r V MIS w' := ⟨h, .inl ⟨hr, rfl⟩⟩
theorem Gives.mk_val {α : Type} {w w' : World} {b : Nat} {r : Option (α × List UInt8)} {V : World → Value → α → Prop} {a : α} {q : List UInt8} {v : Value} (h : w.grownBy w' (some b)) (hr : r = some (a, q)) (hR : RdI w' b q) (hV : V w' v a) : Gives w b r V (.returned v) w' := ⟨h, .inr ⟨a, q, v, hr, rfl, hR, hV⟩⟩
theorem xd4Z (w : World) (r : Option Nat) : w.grownBy w r := ⟨rfl, rfl, rfl, Nat.le_refl _, fun _ _ _ => rfl⟩
theorem xcaZ {w w' : World} {r : Option Nat} (h : w.grownBy w' r) (o : Obj) : w.grownBy (w'.alloc o) r := ⟨h.os, h.tape, h.output, Nat.le_trans h.size (by simp), fun k hk hn => (Below.heap_alloc w' o k (Nat.lt_of_lt_of_le hk h.size)).trans (h.block k hk hn)⟩
theorem RdI.alloc {w : World} {b : Nat} {s : List UInt8} (h : RdI w b s) (o : Obj) : RdI (w.alloc o) b s := h.kept (row := none) (World.grownBy_alloc w o none) (by simp)
theorem RdI.not_row {w : World} {b B : Nat} {s : List UInt8} {e : TypeId} {size n : Nat} {v : Value} {xs : List Value} (h : RdI w b s) (hr : w.ownsRow B e size v n xs) (he : 145 ≠ e) : v.ownBlock ≠ some b := by
  obtain ⟨X, h1, -⟩ := h
  exact fun e1 => xcyZ hr h1 he e1.symm
theorem xhcZ {s r : List UInt8} {n : Int} (h : smallP s = some (n, r)) : 0 ≤ n ∧ n < 256 := (xbsZ.2 s n r h).2
def AtI (w : World) (v : Value) (n : Int) : Prop := v = .int .i64 n
def RowI (B : Nat) (W : World) (v : Value) (l : List Int) : Prop := W.ownsRow B 3 1 v l.length (l.map (Value.int .i64))
theorem xqbZ (F : Nat) (caps : Array Value) (one : Par Int) (b : Nat) (s : List UInt8) (w : World) (h : RdI w b s) (hE : Ent F) (hF : ∀ t W, w.grownBy W (some b) → RdI W b t → Calls Tryz.prog F caps W (Gives W b (one t) AtI)) :
    Calls Tryz.prog 166 #[.pointer (some ⟨b, 0, none⟩), .func (.func F) #[] caps] w (Gives w b (manyP one s) (RowI w.heap.size)) := by
  obtain ⟨i0, hi, hz0, hz1, hz2⟩ := info_parts xgoZ
  have HS := hideP (xctZ b s w h)
  have HF := hideP hF
  have hEE : ∀ (args : Array Value) (W : World), (callFunc F args).run Tryz.prog W = .ok (.enter F args) W := hE
  have hbl := h.lt
  clear h hF
  cases hn : smallP s with
  | none =>
    rw [hn] at HS
    have HM := hideP (show manyP one s = none by rw [manyP, hn])
    clear hn
    go_enter Tryz.func166, Tryz.ntmps166
    go_wp2_with fail
    refine HS.out.mono ?_
    intro e w2 hx
    obtain ⟨rfl, hg⟩ := hx.mis
    exact ⟨rfl, Gives.mk_mis hg HM.out⟩
  | some nr =>
    obtain ⟨n, s1⟩ := nr
    rw [hn] at HS
    have HM := hideP (show manyP one s = xbeZ one n.toNat s1 by rw [manyP, hn])
    obtain ⟨n0, n255⟩ := xhcZ hn
    obtain ⟨m, rfl⟩ := Int.eq_ofNat_of_zero_le n0
    rw [Int.toNat_natCast] at HM
    have hm : m < 256 := by omega
    clear hn n0 n255
    go_enter Tryz.func166, Tryz.ntmps166
    go_wp2_with fail
    refine HS.out.mono ?_
    intro e w2 hx
    obtain ⟨v, rfl, hR2, hv, hg2⟩ := hx.val
    subst hv
    have HR2 := hideP hR2
    have HG2 := hideP hg2
    clear hx hR2 hg2
    go_wp2
    go_loopw [5, 8] (fun v5 v8 wr => ∃ (k : Nat) (l : List Int) (t : List UInt8), k ≤ m ∧ v8 = .int .i64 k ∧ xbeZ one k s1 = some (l, t) ∧ RdI wr b t ∧ RowI w.heap.size wr v5 l ∧ w.grownBy wr (some b)) (fun _ v8 _ => m - (intOf v8).toNat)
    case atStart => exact ⟨0, [], s1, Nat.zero_le _, rfl, rfl, HR2.out, World.ownsRow_nil _ _ _ _, HG2.out⟩
    case round =>
      rename World => w3
      obtain ⟨k, l, t, hk, rfl, ht, hR, hrow, hg⟩ := hrel
      have HLK := hideP (xflZ ht)
      obtain ⟨p5, c5, hv5⟩ := xagZ hrow
      subst hv5
      by_cases hlt : k < m
      · have hlti : (k : Int) < (m : Int) := by omega
        have HC := hideP (HF.out t w3 hg hR)
        have HT := hideP ht
        have HG := hideP hg
        have HROW := hideP hrow
        cases ho : one t with
        | none =>
          rw [ho] at HC
          have HN := hideP (show xbeZ one m s1 = none from xglZ (k := k + 1) (by rw [xdcZ ht, ho]) (by omega))
          clear ho ht hR hrow hg
          go_wp2_with fail
          refine HC.out.mono ?_
          intro e w4 hx
          obtain ⟨rfl, hg4⟩ := hx.mis
          exact ⟨rfl, Gives.mk_mis (xatZ HG.out hg4 (fun r hr => by cases hr; exact .inl rfl)) (HM.out.trans HN.out)⟩
        | some aq =>
          obtain ⟨a, q⟩ := aq
          rw [ho] at HC
          have HN := hideP (show xbeZ one (k + 1) s1 = some (l ++ [a], q) by rw [xdcZ ht, ho])
          clear ho ht hR hrow hg
          go_wp2_with fail
          refine HC.out.mono ?_
          intro e w4 hx
          obtain ⟨v, rfl, hR4, hv, hg4⟩ := hx.val
          subst hv
          have hgw := xatZ HG.out hg4 (fun r hr => by cases hr; exact .inl rfl)
          have hrow4 := xayZ HROW.out (W' := w4) fun j hj => hg4.block j (HROW.out.lt j hj).2 (fun e => by
            cases e
            have := (HROW.out.lt b hj).1
            omega)
          have HROW4 := hideP (hrow4.alloc (.cells #[.int .i64 a] 3))
          have HR4 := hideP hR4
          have HGW := hideP hgw
          obtain rfl : l.length = k := HLK.out
          have hsz := hgw.size
          clear hx hR4 hrow4 hg4 hgw
          go_wp2_with (at_builtin; refine wpList_append_own _ rfl _ _ 46 rfl w.heap.size 3 i0 (.int .i64 0) 1 8 Tryz.underlying46 hi hz0 hz1 hz2 rfl (by decide) _ _ _ rfl HROW4.out ⟨w4.heap.size, 0, none⟩ 1 1 [.int .i64 a] rfl rfl (xmaZ (by rw [xaaZ (World.alloc_heap_new w4 (.cells #[.int .i64 a] 3)) 0]; rfl)) (by simp [Value.oneCell']) (by unfold maxLen; omega) (by omega) (by simp; omega) ?_; intro v9 w9 hown9 hg9 _; have HO := hideP hown9; clear hown9)
          go_roundw
          case rel =>
            refine ⟨l.length + 1, l ++ [a], q, by omega, by go_num, HN.out, ?_, ?_, ?_⟩
            · exact (HR4.out.alloc _).kept hg9 ((HR4.out.alloc _).not_row HROW4.out (by decide))
            · have := HO.out
              simpa [RowI] using this
            · exact xatZ (xcaZ HGW.out _) hg9 (fun r hr => .inr (HROW4.out.lt r hr).1)
          case measure => simp [intOf]; omega
      · have hlti : ¬ (k : Int) < (m : Int) := by omega
        obtain rfl : k = m := by omega
        have HX := hideP (And.intro ht (And.intro hR (And.intro hrow hg)))
        clear ht hR hrow hg
        go_wp2
        go_ret
        obtain ⟨ht, hR, hrow, hg⟩ := HX.out
        exact Gives.mk_val hg (HM.out.trans ht) hR hrow
theorem xo3Z (b bx : Nat) (s : List UInt8) (w : World) (h : RdI w b s) (hx : w.cell? ⟨bx, 0, none⟩ = some (.pointer (some ⟨b, 0, none⟩))) : Calls Tryz.prog 167 #[.pointer (some ⟨bx, 0, none⟩)] w (Gives w b (numP s) AtI) := by
  have HC := hideP (xe1Z b s w h)
  clear h
  cases hn : numP s with
  | none =>
    rw [hn] at HC
    go_enter Tryz.func167, Tryz.ntmps167
    go_wp2_with fail
    refine HC.out.mono ?_
    intro e w2 hx
    obtain ⟨rfl, hg⟩ := hx.mis
    exact ⟨rfl, Gives.mk_mis hg rfl⟩
  | some aq =>
    obtain ⟨a, q⟩ := aq
    rw [hn] at HC
    clear hn
    go_enter Tryz.func167, Tryz.ntmps167
    go_wp2_with fail
    refine HC.out.mono ?_
    intro e w2 hx
    obtain ⟨v, rfl, hR, hv, hg⟩ := hx.val
    subst hv
    have HX := hideP (And.intro hR hg)
    clear hx hR hg
    go_wp2
    go_ret
    exact Gives.mk_val HX.out.2 rfl HX.out.1 rfl
theorem xo4Z : Ent 167 := xb1Z Tryz.func167 rfl rfl
theorem xhmZ (b : Nat) (s : List UInt8) (w : World) (h : RdI w b s) : Calls Tryz.prog 126 #[.pointer (some ⟨b, 0, none⟩)] w (Gives w b (numsP s) (RowI w.heap.size)) := by
  have hmf : ∀ (fn : Go.Fn) (first cap : Array Value) (w : World), (Instr.makeFunc fn first cap).run Tryz.prog w = .ok (.func fn first cap) w := fun _ _ _ _ => rfl
  obtain ⟨W1, hW1⟩ : ∃ W1, w.alloc (.cells #[.pointer (some ⟨b, 0, none⟩)] 143) = W1 := ⟨_, rfl⟩
  have x1 : W1.heap[w.heap.size]? = some (.cells #[.pointer (some ⟨b, 0, none⟩)] 143 (0, 0)) := by rw [← hW1]; exact World.alloc_heap_new w _
  have hR1 : RdI W1 b s := by rw [← hW1]; exact h.alloc _
  have hg1 : w.grownBy W1 (some b) := by rw [← hW1]; exact xcaZ (xd4Z w _) _
  have hbl := h.lt
  have l1 := xacZ x1
  have HC := hideP (xqbZ 167 #[.pointer (some ⟨w.heap.size, 0, none⟩)] numP b s W1 hR1 xo4Z (fun t W hg hR => xo3Z b w.heap.size t W hR (xaaZ ((hg.block _ l1 (fun e => by cases e; omega)).trans x1) 0)))
  have d0 : W1.cell? ⟨w.heap.size, 0, none⟩ = some (.pointer (some ⟨b, 0, none⟩)) := xaaZ x1 0
  have hsz := hg1.size
  have HG1 := hideP hg1
  clear h hR1 hg1 x1
  cases hn : numsP s with
  | none =>
    have hn' : manyP numP s = none := hn
    rw [hn'] at HC
    clear hn'
    go_enter Tryz.func126, Tryz.ntmps126
    go_wp2_with fail
    refine HC.out.mono ?_
    intro e w2 hx
    obtain ⟨rfl, hg⟩ := hx.mis
    exact ⟨rfl, Gives.mk_mis (xatZ HG1.out hg (fun r hr => by cases hr; exact .inl rfl)) rfl⟩
  | some aq =>
    obtain ⟨a, q⟩ := aq
    have hn' : manyP numP s = some (a, q) := hn
    rw [hn'] at HC
    clear hn hn'
    go_enter Tryz.func126, Tryz.ntmps126
    go_wp2_with fail
    refine HC.out.mono ?_
    intro e w2 hx
    obtain ⟨v, rfl, hR, hv, hg⟩ := hx.val
    have HX := hideP (And.intro hR (And.intro hv hg))
    obtain ⟨pv, cv, hvv⟩ := xagZ hv
    subst hvv
    clear hx hR hg hv
    go_wp2
    go_ret
    exact Gives.mk_val (xatZ HG1.out HX.out.2.2 (fun r hr => by cases hr; exact .inl rfl)) rfl HX.out.1 (xapZ HX.out.2.1 hsz)
end Go.Proofs.YtmjjkenblfndgaaGreat


