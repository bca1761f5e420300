/- My texts Vc Vd Ve Vf: what of them is needed, joined. -/

import Derived.Test.YtgmkmlenhhhgkaaGreatF2
set_option maxRecDepth 100000
set_option maxHeartbeats 8000000
/- checkFunc and prog.Check. -/
namespace Go.Proofs.YtgmkmlenhhhgkaaGreat
open Go.RowKit
set_option linter.unusedSimpArgs false
set_option linter.unusedVariables false
theorem xelZ (f : Fn) (n : Nat) (c0 c1 c2 c3 : Value) (w : World) (h : FnAt w c0 c1 c2 c3 f) : Calls Tryz.prog 29 #[.agg #[c0, c1, c2, c3], .int .i64 n] w fun e w' => e = .returned (.int .i64 (fnErr f n)) ∧ Below w.heap.size w w' := by
  obtain ⟨P, L, R, C⟩ := f
  have hF0 := h
  obtain ⟨rfl, hI, rfl, hO⟩ := h
  simp only at hI hO
  obtain ⟨p1, q1, rfl, hm1, _⟩ := hI
  obtain ⟨p3, q3, rfl, hm3, _⟩ := hO
  simp only at hF0
  unfold maxLen at hm1 hm3
  have hw1 : Below w.heap.size w (w.alloc (.cells #[.int .i64 P, .slice p1 L.length q1, .int .i64 R, .slice p3 C.length q3] 28)) := (Below.refl _ w).alloc (Nat.le_refl _) _
  have hw : Below w.heap.size w ((w.alloc (.cells #[.int .i64 P, .slice p1 L.length q1, .int .i64 R, .slice p3 C.length q3] 28)).alloc (.cells #[.int .i64 n] 3)) := hw1.alloc (by simp) _
  have hhf : ((w.alloc (.cells #[.int .i64 P, .slice p1 L.length q1, .int .i64 R, .slice p3 C.length q3] 28)).alloc (.cells #[.int .i64 n] 3)).heap[w.heap.size]? = some (.cells #[.int .i64 P, .slice p1 L.length q1, .int .i64 R, .slice p3 C.length q3] 28 (0, 0)) := xaeZ (World.alloc_heap_new w _) _
  have hhn : ((w.alloc (.cells #[.int .i64 P, .slice p1 L.length q1, .int .i64 R, .slice p3 C.length q3] 28)).alloc (.cells #[.int .i64 n] 3)).heap[w.heap.size + 1]? = some (.cells #[.int .i64 n] 3 (0, 0)) := by
    have := World.alloc_heap_new (w.alloc (.cells #[.int .i64 P, .slice p1 L.length q1, .int .i64 R, .slice p3 C.length q3] 28)) (.cells #[.int .i64 n] 3)
    rwa [World.size_alloc] at this
  have hB : Boxes ((w.alloc (.cells #[.int .i64 P, .slice p1 L.length q1, .int .i64 R, .slice p3 C.length q3] 28)).alloc (.cells #[.int .i64 n] 3)) w.heap.size (w.heap.size + 1) (P, L, R, C) n :=
    ⟨_, _, _, _, xabZ hhf, xabZ hhn, xaaZ hhf 0, xaaZ hhf 1, xaaZ hhf 2, xaaZ hhf 3, xaaZ hhn 0, hF0.below hw⟩
  have HB : Hid (Boxes ((w.alloc (.cells #[.int .i64 P, .slice p1 L.length q1, .int .i64 R, .slice p3 C.length q3] 28)).alloc (.cells #[.int .i64 n] 3)) w.heap.size (w.heap.size + 1) (P, L, R, C) n) := hB
  have HF : Hid (FnAt ((w.alloc (.cells #[.int .i64 P, .slice p1 L.length q1, .int .i64 R, .slice p3 C.length q3] 28)).alloc (.cells #[.int .i64 n] 3)) (.int .i64 P) (.slice p1 L.length q1) (.int .i64 R) (.slice p3 C.length q3) (P, L, R, C)) := hF0.below hw
  have HK : Hid (∀ w2, Below ((w.alloc (.cells #[.int .i64 P, .slice p1 L.length q1, .int .i64 R, .slice p3 C.length q3] 28)).alloc (.cells #[.int .i64 n] 3)).heap.size ((w.alloc (.cells #[.int .i64 P, .slice p1 L.length q1, .int .i64 R, .slice p3 C.length q3] 28)).alloc (.cells #[.int .i64 n] 3)) w2 → w2.cell? ⟨w.heap.size, 3, none⟩ = some (.slice p3 C.length q3)) := fun w2 hb => (hb.cell (p := ⟨w.heap.size, 3, none⟩) (xabZ hhf)).trans (xaaZ hhf 3)
  clear hB hhf hhn hF0 hw1
  by_cases h6 : 6 < L.length
  · have h6' : (6 : Int) < (L.length : Int) := by omega
    go_enter Tryz.func29, Tryz.ntmps29
    go_wp2
    go_ret
    exact ⟨by simp [fnErr, h6], hw⟩
  have h6' : ¬ (6 : Int) < (L.length : Int) := by omega
  by_cases hp0 : P < 0
  · go_enter Tryz.func29, Tryz.ntmps29
    go_wp2
    go_ret
    exact ⟨by simp [fnErr, h6, hp0], hw⟩
  have hp0' : decide (P < 0) = false := by simpa using hp0
  by_cases hp1 : (L.length : Int) < P
  · go_enter Tryz.func29, Tryz.ntmps29
    go_wp2
    go_ret
    exact ⟨by simp [fnErr, h6, hp1], hw⟩
  have hfe : fnErr (P, L, R, C) n = if xb9Z (P, L, R, C) = false then 6 else if C.length = 0 then 5 else if xaoZ C ≠ 0 then xaoZ C else if (C.all fun o => xa7Z o (P, L, R, C) n) = false then 3 else 0 := by
    simp only [fnErr]
    rw [if_neg h6, if_neg (show ¬ (P < 0 ∨ (L.length : Int) < P) from by omega)]
  rw [hfe]
  clear hfe
  cases ht : xb9Z (P, L, R, C)
  · go_enter Tryz.func29, Tryz.ntmps29
    go_wp2_with fail
    refine (xdwZ _ _ _ _ _ _ HF.out).mono ?_
    rw [ht]
    rintro e w2 ⟨rfl, hb2⟩
    go_wp2
    go_ret
    exact ⟨rfl, hw.trans (hb2.mono hw.size)⟩
  rw [if_neg (by simp)]
  by_cases hc0 : C.length = 0
  · have hc0' : ((C.length : Int) == 0) = true := beq_iff_eq.2 (by omega)
    rw [if_pos hc0]
    have HC0 : Hid (C.length = 0) := hc0
    clear hc0
    go_enter Tryz.func29, Tryz.ntmps29
    go_wp2_with fail
    refine (xdwZ _ _ _ _ _ _ HF.out).mono ?_
    rw [ht]
    rintro e w2 ⟨rfl, hb2⟩
    have a3 := HK.out w2 hb2
    go_wp2
    go_ret
    exact ⟨rfl, hw.trans (hb2.mono hw.size)⟩
  have hc0' : ((C.length : Int) == 0) = false := beq_eq_false_iff_ne.2 (by omega)
  rw [if_neg hc0]
  clear hc0
  by_cases hce : xaoZ C = 0
  · rw [if_neg (by simp [hce])]
    have HCE : Hid (xaoZ C = 0) := hce
    clear hce
    cases hn : (C.all fun o => xa7Z o (P, L, R, C) n)
    all_goals
      go_enter Tryz.func29, Tryz.ntmps29
      go_wp2_with fail
      refine (xdwZ _ _ _ _ _ _ HF.out).mono ?_
      rw [ht]
      rintro e w2 ⟨rfl, hb2⟩
      have a3 := HK.out w2 hb2
      go_wp2_with fail
      refine (xc7Z C _ w2 ((HF.out.below hb2).2.2.2)).mono ?_
      rw [HCE.out]
      rintro e w3 ⟨T3, rfl, _, hb3⟩
      have hb23 := hb2.trans (hb3.mono hb2.size)
      have b3 := HK.out w3 hb23
      clear a3
      go_wp2_with fail
      refine (xfkZ C _ (P, L, R, C) n w.heap.size (w.heap.size + 1) w3 ((HF.out.below hb23).2.2.2) (HB.out.below hb23)).mono ?_
      rw [hn]
      rintro e w4 ⟨rfl, hb4⟩
      have hb4' := hb23.trans (hb4.mono hb23.size)
      go_wp2
      go_ret
      exact ⟨rfl, hw.trans (hb4'.mono hw.size)⟩
  · rw [if_pos hce]
    have hce' : (xaoZ C != 0) = true := by simp [hce]
    clear hce
    go_enter Tryz.func29, Tryz.ntmps29
    go_wp2_with fail
    refine (xdwZ _ _ _ _ _ _ HF.out).mono ?_
    rw [ht]
    rintro e w2 ⟨rfl, hb2⟩
    have a3 := HK.out w2 hb2
    go_wp2_with fail
    refine (xc7Z C _ w2 ((HF.out.below hb2).2.2.2)).mono ?_
    rintro e w3 ⟨T3, rfl, _, hb3⟩
    have hb23 := hb2.trans (hb3.mono hb2.size)
    go_wp2
    go_ret
    exact ⟨rfl, hw.trans (hb23.mono hw.size)⟩
end Go.Proofs.YtgmkmlenhhhgkaaGreat


/- prog.Check. -/
namespace Go.Proofs.YtgmkmlenhhhgkaaGreat
open Go.RowKit
set_option linter.unusedSimpArgs false
set_option linter.unusedVariables false
theorem xbnZ (l : List Fn) (v : Value) (w : World) (h : FnsAt w v l) : Calls Tryz.prog 8 #[.agg #[v]] w fun e w' => e = .returned (.int .i64 (xakZ l)) ∧ Below w.heap.size w w' := by
  have hF := h
  obtain ⟨p, cap, rfl, hm, hc⟩ := h
  unfold maxLen at hm
  have hw : Below w.heap.size w (w.alloc (.cells #[.slice p l.length cap] 24)) := (Below.refl _ w).alloc (Nat.le_refl _) _
  have HBX : Hid (∀ w2, Below (w.alloc (.cells #[.slice p l.length cap] 24)).heap.size (w.alloc (.cells #[.slice p l.length cap] 24)) w2 → w2.cell? ⟨w.heap.size, 0, none⟩ = some (.slice p l.length cap)) := fun w2 hb => (hb.cell (p := ⟨w.heap.size, 0, none⟩) (by simp)).trans (xaaZ (World.alloc_heap_new w _) 0)
  have HC : Hid (∀ k f, l[k]? = some f → ∃ b off c0 c1 c2 c3, p = some ⟨b, off, none⟩ ∧ b < w.heap.size ∧ w.cell? ⟨b, off + k * 4, none⟩ = some c0 ∧ w.cell? ⟨b, off + k * 4 + 1, none⟩ = some c1 ∧ w.cell? ⟨b, off + k * 4 + 2, none⟩ = some c2 ∧ w.cell? ⟨b, off + k * 4 + 3, none⟩ = some c3 ∧ FnAt w c0 c1 c2 c3 f) := hc
  clear hc hF
  by_cases h0 : l.length = 0
  · have h0' : ((l.length : Int) == 0) = true := beq_iff_eq.2 (by omega)
    have HE : Hid (xakZ l = 5) := by show _ = _; simp [xakZ, h0]
    clear h0
    go_enter Tryz.func8, Tryz.ntmps8
    go_wp2
    go_ret
    exact ⟨by rw [HE.out]; rfl, hw⟩
  have h0' : ((l.length : Int) == 0) = false := beq_eq_false_iff_ne.2 (by omega)
  by_cases h5 : 5 < l.length
  · have h5' : (5 : Int) < (l.length : Int) := by omega
    have HE : Hid (xakZ l = 2) := by show _ = _; simp [xakZ, h0, h5]
    clear h0
    go_enter Tryz.func8, Tryz.ntmps8
    go_wp2
    go_ret
    exact ⟨by rw [HE.out]; rfl, hw⟩
  have h5' : ¬ (5 : Int) < (l.length : Int) := by omega
  have HE : Hid (xakZ l = if xb3Z l.length l ≠ 0 then xb3Z l.length l else xfiZ l) := by
    show _ = _
    unfold xakZ
    rw [if_neg h0, if_neg h5]
  have hpos : 0 < l.length := by omega
  clear h0
  go_enter Tryz.func8, Tryz.ntmps8
  go_wp2
  go_loopw [4, 5, 19] (fun _ _ i wr => ∃ k : Nat, k ≤ l.length ∧ i = .int .i64 k ∧ (∀ f ∈ l.take k, fnErr f l.length = 0) ∧ Below (w.alloc (.cells #[.slice p l.length cap] 24)).heap.size (w.alloc (.cells #[.slice p l.length cap] 24)) wr) (fun _ _ i _ => l.length - (intOf i).toNat)
  case atStart => exact ⟨0, Nat.zero_le _, rfl, by simp, Below.refl _ _⟩
  case round =>
    obtain ⟨k, hk, rfl, hok, hbw⟩ := hrel
    have HK : Hid (∀ f ∈ l.take k, fnErr f l.length = 0) := hok
    clear hok
    have hbw0 := hw.trans (hbw.mono hw.size)
    have gb := HBX.out wr hbw
    have hsz : w.heap.size < wr.heap.size := by have := hbw.size; simp at this; omega
    by_cases hlt : k < l.length
    · obtain ⟨f, ho⟩ := xagZ hlt
      obtain ⟨b, off, c0, c1, c2, c3, rfl, hb, a0, a1, a2, a3, hf⟩ := HC.out k _ ho
      have g0 := (hbw0.cell (p := ⟨b, off + k * 4, none⟩) hb).trans a0
      have g1 := (hbw0.cell (p := ⟨b, off + k * 4 + 1, none⟩) hb).trans a1
      have g2 := (hbw0.cell (p := ⟨b, off + k * 4 + 2, none⟩) hb).trans a2
      have g3 := (hbw0.cell (p := ⟨b, off + k * 4 + 3, none⟩) hb).trans a3
      have hf2 := hf.below hbw0
      have HO : Hid (l[k]? = some f) := ho
      clear ho a0 a1 a2 a3
      have hff := hf
      obtain ⟨P, L, R, C⟩ := f
      obtain ⟨rfl, ⟨p1, q1, rfl, _, _⟩, rfl, ⟨p3, q3, rfl, _, _⟩⟩ := hff
      clear hf
      have hal : Below wr.heap.size wr (wr.alloc (.cells #[.int .i64 P, .slice p1 L.length q1, .int .i64 R, .slice p3 C.length q3] 28)) := (Below.refl _ wr).alloc (Nat.le_refl _) _
      have hf3 := hf2.below hal
      simp only at hf3
      by_cases he : fnErr (P, L, R, C) l.length = 0
      · have he' : (fnErr (P, L, R, C) l.length != 0) = false := by simp [he]
        have HEE : Hid (fnErr (P, L, R, C) l.length = 0) := he
        clear he
        go_wp2_with fail
        refine (xelZ (P, L, R, C) l.length _ _ _ _ _ hf3).mono ?_
        rintro e w2 ⟨rfl, hb2⟩
        have hb3 := hbw.trans ((hal.trans (hb2.mono hal.size)).mono hbw.size)
        go_wp2
        go_roundw
        case rel => exact ⟨k + 1, by omega, by go_num, by
          rw [xavZ l k _ HO.out]; intro x hx; rcases List.mem_append.1 hx with hx | hx
          · exact HK.out x hx
          · simp at hx; subst hx; exact HEE.out, hb3⟩
        case measure => simp [intOf]; omega
      · have he' : (fnErr (P, L, R, C) l.length != 0) = true := by simp [he]
        go_wp2_with fail
        refine (xelZ (P, L, R, C) l.length _ _ _ _ _ hf3).mono ?_
        rintro e w2 ⟨rfl, hb2⟩
        have hb3 := hbw.trans ((hal.trans (hb2.mono hal.size)).mono hbw.size)
        go_wp2
        go_ret
        refine ⟨?_, hw.trans (hb3.mono hw.size)⟩
        have := fnsErr_at l.length l k _ HO.out HK.out he
        rw [HE.out, this, if_pos he]
        rfl
    · have hlt' : ¬ (k : Int) < (l.length : Int) := by omega
      have hall := HK.out
      rw [List.take_of_length_le (by omega)] at hall
      have hfz := fnsErr_all l.length l hall
      obtain ⟨⟨P, L, R, C⟩, ho⟩ := xagZ hpos
      obtain ⟨b, off, c0, c1, c2, c3, rfl, hb, a0, a1, a2, a3, hf⟩ := HC.out 0 _ ho
      have g0 := (hbw0.cell (p := ⟨b, off + 0 * 4, none⟩) hb).trans a0
      have g2 := (hbw0.cell (p := ⟨b, off + 0 * 4 + 2, none⟩) hb).trans a2
      simp only [Nat.zero_mul, Nat.add_zero] at g0 g2
      obtain ⟨rfl, _, rfl, _⟩ := hf
      simp only at g0 g2
      have HE2 : Hid (xakZ l = if P ≠ 0 ∨ R ≠ 0 then 4 else 0) := by
        show _ = _
        rw [HE.out, hfz]
        cases l with
        | nil => simp at ho
        | cons x r => simp at ho; subst ho; simp [xfiZ]
      have hpi : (0 : Int) < (l.length : Int) := by omega
      clear hall hfz ho a0 a1 a2 a3
      by_cases hP : P = 0
      · have hP' : (P != 0) = false := by simp [hP]
        by_cases hR : R = 0
        · have hR' : (R != 0) = false := by simp [hR]
          have HEE : Hid (xakZ l = 0) := by show _ = _; rw [HE2.out]; simp [hP, hR]
          clear hP hR
          go_wp2
          go_ret
          exact ⟨by rw [HEE.out]; rfl, hbw0⟩
        · have hR' : (R != 0) = true := by simp [hR]
          have HEE : Hid (xakZ l = 4) := by show _ = _; rw [HE2.out]; simp [hR]
          clear hP hR
          go_wp2
          go_ret
          exact ⟨by rw [HEE.out]; rfl, hbw0⟩
      · have hP' : (P != 0) = true := by simp [hP]
        have HEE : Hid (xakZ l = 4) := by show _ = _; rw [HE2.out]; simp [hP]
        clear hP
        go_wp2
        go_ret
        exact ⟨by rw [HEE.out]; rfl, hbw0⟩
end Go.Proofs.YtgmkmlenhhhgkaaGreat


/- putFunc and prog.Encode. -/
namespace Go.Proofs.YtgmkmlenhhhgkaaGreat
open Go.RowKit
set_option linter.unusedSimpArgs false
set_option linter.unusedVariables false
theorem hide {p : Prop} (h : p) : Hid p := h
def xasZ (f : Fn) : List UInt8 := [xafZ f.1, xafZ f.2.1.length] ++ f.2.1.map xafZ ++ [xafZ f.2.2.1, xafZ ((xaiZ f.2.2.2).length / 256), xafZ (xaiZ f.2.2.2).length] ++ xaiZ f.2.2.2
theorem Bld.below {B b : Nat} {bs : List Value} {w w' : World} (h : Bld B b bs w) (hb : Below w.heap.size w w') : Bld B b bs w' := by
  have hg : w.grownBy w' none := ⟨hb.os, hb.tape, hb.output, hb.size, fun k hk _ => hb.block k hk⟩
  have aux : ∀ p, Lib.BuilderAtF 84 5 B b p bs w → Lib.BuilderAtF 84 5 B b p bs w' := by
    rintro p ⟨hB, v, hbk, hown, hne⟩
    exact ⟨hB, v, (hb.block b (xabZ hbk)).trans hbk, hown.kept hg (by cases hv : v.ownBlock <;> simp), hne⟩
  exact h.elim (fun x => .inl (aux _ x)) (fun x => .inr (aux _ x))
theorem xf9Z {b : Option Nat} {w w' : World} (hb : Below w.heap.size w w') : Lib.OthersKept 5 b w w' := fun k o hk _ _ => (hb.block k (Array.getElem?_eq_some_iff.1 hk).1).trans hk
theorem xjkZ {T : ByteArray} {l : List UInt8} (h : T.data.toList = l) : Lib.strCells T = Lib.byteCells l := by unfold Lib.strCells Lib.byteCells; rw [h]
theorem xjgZ (B b : Nat) (bs : List UInt8) (f : Fn) (c0 c1 c2 c3 : Value) (w0 w : World) (h : Bld B b (Lib.byteCells bs) w) (hf : FnAt w0 c0 c1 c2 c3 f) (hB0 : B = w0.heap.size) (hw0 : Below B w0 w) (hlen : bs.length ≤ 100000) (hL : f.2.1.length ≤ 6) (hC : xaoZ f.2.2.2 = 0) :
    Calls Tryz.prog 51 #[.pointer (some ⟨b, 0, none⟩), .agg #[c0, c1, c2, c3]] w fun e w' => e = .returned (.tuple #[]) ∧ (Bld B b (Lib.byteCells (bs ++ xasZ f)) w' ∧ Below B w w' ∧ Lib.OthersKept 5 (some b) w w') := by
  obtain ⟨P, L, R, C⟩ := f
  simp only at hL hC
  have hbl := Bld.lt h
  have hBw : B ≤ w.heap.size := by have := hw0.size; omega
  have hfw := hf
  obtain ⟨rfl, hI, rfl, hO⟩ := hf
  simp only at hI hO
  obtain ⟨p1, q1, rfl, hm1, hci⟩ := hI
  have hO' := hO
  obtain ⟨p3, q3, rfl, hm3, hco⟩ := hO'
  have HCI : Hid (∀ k z, L[k]? = some z → ∃ b off, p1 = some ⟨b, off, none⟩ ∧ b < w0.heap.size ∧ w0.cell? ⟨b, off + k, none⟩ = some (.int .i64 z)) := hci
  have hw1 : Below w.heap.size w (w.alloc (.cells #[.int .i64 P, .slice p1 L.length q1, .int .i64 R, .slice p3 C.length q3] 28)) := (Below.refl _ w).alloc (Nat.le_refl _) _
  have hh1 := World.alloc_heap_new w (.cells #[.int .i64 P, .slice p1 L.length q1, .int .i64 R, .slice p3 C.length q3] 28)
  have hOw : OpsAt (w.alloc (.cells #[.int .i64 P, .slice p1 L.length q1, .int .i64 R, .slice p3 C.length q3] 28)) (.slice p3 C.length q3) C := by
    subst hB0
    exact (hO.below hw0).below hw1
  have hcb := xcsZ C
  have hc40 := (xcbZ C hC).1
  have HC : Hid (xaoZ C = 0) := hC
  clear hci hco hfw hC
  go_enter Tryz.func51, Tryz.ntmps51
  go_wp2_with fail
  refine (xc7Z C _ _ hOw).mono ?_
  rw [HC.out]
  rintro e w2 ⟨T, rfl, hT, hb2⟩
  have hTl : T.data.toList = xaiZ C := by rw [hT]; simp [xccZ, HC.out]
  have hTs : T.size = (xaiZ C).length := by rw [← hTl]; simp
  have HTS : Hid (T.size = (xaiZ C).length) := hTs
  have HTL : Hid (T.data.toList = xaiZ C) := hTl
  have hTb : T.size ≤ 200 := by omega
  have hB2 : Bld B b (Lib.byteCells bs) w2 := Bld.below (h.alloc _) hb2
  have hh2 : w2.heap[w.heap.size]? = some (.cells #[.int .i64 P, .slice p1 L.length q1, .int .i64 R, .slice p3 C.length q3] 28 (0, 0)) := (hb2.block _ (by simp)).trans hh1
  have hBW2 : Below B w w2 := (hw1.mono hBw).trans (hb2.mono (by simp; omega))
  have hKW2 : Lib.OthersKept 5 (some b) w w2 := (xf9Z hw1).trans (xf9Z hb2)
  have g0 : w2.cell? ⟨w.heap.size, 0, none⟩ = some (.int .i64 P) := xaaZ hh2 0
  have g1 : w2.cell? ⟨w.heap.size, 1, none⟩ = some (.slice p1 L.length q1) := xaaZ hh2 1
  have hs2 : w.heap.size < w2.heap.size := xabZ hh2
  clear hT hTl hTs hOw hb2 hh1 hw1
  go_wp2_with fail
  have hle2 : B ≤ w2.heap.size := by omega
  have hp1 := xdlZ B b bs [P, (L.length : Int)] (some ⟨w2.heap.size, 0, none⟩) 2 (w2.alloc (.cells #[.int .i64 P, .int .i64 L.length] 3)) (hB2.alloc _) (by simp; omega) (by simp; omega)
    (xc8Z (zs := [P, (L.length : Int)]) (fz := (0, 0)) (xatZ w2 _) (by omega))
  refine hp1.mono ?_
  clear hp1
  rintro e w3 ⟨rfl, hB3, hb3, hk3⟩
  have hBW3 : Below B w w3 := hBW2.trans (((Below.refl B w2).alloc hle2 _).trans hb3)
  have hKW3 : Lib.OthersKept 5 (some b) w w3 := hKW2.trans (((Lib.OthersKept.refl _ _ w2).alloc _).trans hk3)
  have hh3 : w3.heap[w.heap.size]? = some (.cells #[.int .i64 P, .slice p1 L.length q1, .int .i64 R, .slice p3 C.length q3] 28 (0, 0)) := xdsZ hk3 (xaeZ hh2 _) (by omega) (by decide)
  have hle3 : B ≤ w3.heap.size := by have := hBW3.size; omega
  have k1 : w3.cell? ⟨w.heap.size, 1, none⟩ = some (.slice p1 L.length q1) := xaaZ hh3 1
  clear g0 g1 hb3 hk3 hB2 hBW2 hKW2 hh2 hs2 hle2
  go_wp2_with fail
  have hp2 := xdlZ B b (bs ++ [P, (L.length : Int)].map xafZ) L p1 q1 w3 hB3 (by simp; omega) hle3 (fun k z hk => by
    obtain ⟨bl, off, he, hlt, hcell⟩ := HCI.out k z hk
    refine ⟨bl, off, he, Stay.low ?_ (by simp; omega)⟩
    exact ((hw0.trans hBW3).cell (p := ⟨bl, off + k, none⟩) (by simp; omega)).trans hcell)
  refine hp2.mono ?_
  clear hp2
  rintro e w4 ⟨rfl, hB4, hb4, hk4⟩
  have hBW4 : Below B w w4 := hBW3.trans hb4
  have hKW4 : Lib.OthersKept 5 (some b) w w4 := hKW3.trans hk4
  have hh4 : w4.heap[w.heap.size]? = some (.cells #[.int .i64 P, .slice p1 L.length q1, .int .i64 R, .slice p3 C.length q3] 28 (0, 0)) := xdsZ hk4 hh3 (by omega) (by decide)
  have hle4 : B ≤ w4.heap.size := by have := hBW4.size; omega
  have k2 : w4.cell? ⟨w.heap.size, 2, none⟩ = some (.int .i64 R) := xaaZ hh4 2
  have hb4l := Bld.lt hB4
  clear k1 hb4 hk4 hB3 hBW3 hKW3 hh3 hle3
  go_wp2_with fail
  have hp3 := xdlZ B b (bs ++ [P, (L.length : Int)].map xafZ ++ L.map xafZ) [R, (T.size : Int) / 256, (T.size : Int)] (some ⟨w4.heap.size, 0, none⟩) 3 (w4.alloc (.cells #[.int .i64 R, .int .i64 ((T.size : Int) / 256), .int .i64 T.size] 3)) (hB4.alloc _) (by simp; omega) (by simp; omega)
    (xc8Z (zs := [R, (T.size : Int) / 256, (T.size : Int)]) (fz := (0, 0)) (xatZ w4 _) (by omega))
  refine hp3.mono ?_
  clear hp3
  rintro e w5 ⟨rfl, hB5, hb5, hk5⟩
  have hBW5 : Below B w w5 := hBW4.trans (((Below.refl B w4).alloc hle4 _).trans hb5)
  have hKW5 : Lib.OthersKept 5 (some b) w w5 := hKW4.trans (((Lib.OthersKept.refl _ _ w4).alloc _).trans hk5)
  have hle5 : B ≤ w5.heap.size := by have := hBW5.size; omega
  clear k2 hb5 hk5 hB4 hBW4 hKW4 hh4 hle4
  go_wp2_with fail
  refine (xgnZ B b _ T _ hB5 (by rw [Lib.byteCells_length]; simp; omega) hle5).mono ?_
  rintro e w6 ⟨rfl, hB6, hb6, hk6⟩
  go_wp2
  go_end0
  refine ⟨rfl, ?_, hBW5.trans hb6, hKW5.trans hk6⟩
  have e1 : Lib.byteCells (bs ++ xasZ (P, L, R, C)) = Lib.byteCells (bs ++ [P, (L.length : Int)].map xafZ ++ L.map xafZ ++ [R, (T.size : Int) / 256, (T.size : Int)].map xafZ) ++ Lib.strCells T := by
    rw [xjkZ HTL.out, HTS.out]
    simp [xasZ, Lib.byteCells]
  rw [e1]
  exact hB6
def xa8Z (l : List Fn) : List UInt8 := xafZ l.length :: l.flatMap xasZ
def xd7Z (l : List Fn) : List UInt8 := if xakZ l = 0 then xa8Z l else []
theorem xebZ {f : Fn} {n : Nat} (h : fnErr f n = 0) : f.2.1.length ≤ 6 ∧ (0 ≤ f.1 ∧ f.1 ≤ f.2.1.length) ∧ xb9Z f = true ∧ f.2.2.2.length ≠ 0 ∧ xaoZ f.2.2.2 = 0 ∧ (f.2.2.2.all fun o => xa7Z o f n) = true := by
  unfold fnErr at h
  by_cases h1 : 6 < f.2.1.length
  · simp [h1] at h
  rw [if_neg h1] at h
  by_cases h2 : f.1 < 0 ∨ (f.2.1.length : Int) < f.1
  · simp [h2] at h
  rw [if_neg h2] at h
  by_cases h3 : xb9Z f = false
  · simp [h3] at h
  rw [if_neg h3] at h
  by_cases h4 : f.2.2.2.length = 0
  · simp [h4] at h
  rw [if_neg h4] at h
  by_cases h5 : xaoZ f.2.2.2 = 0
  · rw [if_neg (by simp [h5])] at h
    by_cases h6 : (f.2.2.2.all fun o => xa7Z o f n) = false
    · rw [if_pos h6] at h; omega
    · exact ⟨by omega, by omega, by simpa using h3, h4, h5, by simpa using h6⟩
  · rw [if_pos h5] at h; exact absurd h h5
theorem xi6Z (n : Nat) (l : List Fn) (h : xb3Z n l = 0) : ∀ f ∈ l, fnErr f n = 0 := by
  induction l with
  | nil => intro f hf; simp at hf
  | cons x r ih =>
    intro f hf
    rw [xb3Z] at h
    by_cases hx : fnErr x n = 0
    · rw [if_pos hx] at h
      rcases List.mem_cons.1 hf with rfl | hf
      · exact hx
      · exact ih h f hf
    · rw [if_neg hx] at h; exact absurd h hx
theorem xdqZ {l : List Fn} (h : xakZ l = 0) : l.length ≠ 0 ∧ l.length ≤ 5 ∧ (∀ f ∈ l, fnErr f l.length = 0) ∧ xfiZ l = 0 := by
  unfold xakZ at h
  by_cases h0 : l.length = 0
  · simp [h0] at h
  rw [if_neg h0] at h
  by_cases h5 : 5 < l.length
  · simp [h5] at h
  rw [if_neg h5] at h
  by_cases hf : xb3Z l.length l = 0
  · rw [if_neg (by simp [hf])] at h
    exact ⟨h0, by omega, xi6Z _ l hf, h⟩
  · rw [if_pos hf] at h; exact absurd h hf
theorem fnBytes_le {f : Fn} {n : Nat} (h : fnErr f n = 0) : (xasZ f).length ≤ 211 := by
  obtain ⟨h1, _, _, _, h5, _⟩ := xebZ h
  have := xcsZ f.2.2.2
  have := (xcbZ _ h5).1
  simp [xasZ]
  omega
theorem xi5Z (l : List Fn) (n : Nat) (h : ∀ f ∈ l, fnErr f n = 0) : (l.flatMap xasZ).length ≤ 211 * l.length := by
  induction l with
  | nil => simp
  | cons x r ih =>
    have h1 := fnBytes_le (h x (by simp))
    have h2 := ih fun f hf => h f (by simp [hf])
    simp only [List.flatMap_cons, List.length_append, List.length_cons]
    omega
theorem xgxZ (l : List Fn) (v : Value) (w : World) (h : FnsAt w v l) : Calls Tryz.prog 26 #[.agg #[v]] w fun e w' => ∃ T : ByteArray, e = .returned (.tuple #[.string T, .int .i64 (xakZ l)]) ∧ T.data.toList = xd7Z l ∧ Below w.heap.size w w' := by
  have hF := h
  obtain ⟨p, cap, rfl, hm, hc⟩ := h
  unfold maxLen at hm
  have hw : Below w.heap.size w (w.alloc (.cells #[.slice p l.length cap] 24)) := (Below.refl _ w).alloc (Nat.le_refl _) _
  have hh := World.alloc_heap_new w (.cells #[.slice p l.length cap] 24)
  have hFw := hF.below hw
  by_cases he : xakZ l = 0
  · have hz := xdqZ he
    obtain ⟨z0, z5, zf, _⟩ := hz
    have HZ : Hid (∀ f ∈ l, fnErr f l.length = 0) := zf
    have HE : Hid (xakZ l = 0) := he
    have HCC : Hid (∀ k f, l[k]? = some f → ∃ b off c0 c1 c2 c3, p = some ⟨b, off, none⟩ ∧ b < w.heap.size ∧ w.cell? ⟨b, off + k * 4, none⟩ = some c0 ∧ w.cell? ⟨b, off + k * 4 + 1, none⟩ = some c1 ∧ w.cell? ⟨b, off + k * 4 + 2, none⟩ = some c2 ∧ w.cell? ⟨b, off + k * 4 + 3, none⟩ = some c3 ∧ FnAt w c0 c1 c2 c3 f) := hc
    rw [he]
    clear he zf hc
    go_enter Tryz.func26, Tryz.ntmps26
    go_wp2_with fail
    refine (xbnZ l _ _ hFw).mono ?_
    rw [HE.out]
    rintro e w1 ⟨rfl, hb1⟩
    have hh1 : w1.heap[w.heap.size]? = some (.cells #[.slice p l.length cap] 24 (0, 0)) := (hb1.block _ (xabZ hh)).trans hh
    have hB1 : Below w.heap.size w w1 := hw.trans (hb1.mono hw.size)
    have hs1 : w.heap.size < w1.heap.size := xabZ hh1
    have k0 : w1.cell? ⟨w.heap.size, 0, none⟩ = some (.slice p l.length cap) := xaaZ hh1 0
    clear hb1 hh hw hFw hF
    go_wp2_with fail
    have hfresh : Bld w1.heap.size w1.heap.size (Lib.byteCells []) (w1.alloc (.cells #[.pointer none, .slice none 0 0] 84)) := Lib.IsBuilderF.of (Lib.fresh_isBuilder 84 5 w1)
    have hp1 := xdlZ w1.heap.size w1.heap.size [] [(l.length : Int)] (some ⟨w1.heap.size + 1, 0, none⟩) 1 ((w1.alloc (.cells #[.pointer none, .slice none 0 0] 84)).alloc (.cells #[.int .i64 l.length] 3)) (hfresh.alloc _) (by simp) (by simp; omega)
      (xc8Z (zs := [(l.length : Int)]) (fz := (0, 0)) (by have := xatZ (w1.alloc (.cells #[.pointer none, .slice none 0 0] 84)) (.cells #[.int .i64 l.length] 3); rw [World.size_alloc] at this; exact this) (by omega))
    refine hp1.mono ?_
    clear hp1 hfresh
    rintro e w2 ⟨rfl, hB2, hb2, hk2⟩
    have hBW2 : Below w1.heap.size w1 w2 := (((Below.refl _ w1).alloc (Nat.le_refl _) _).alloc (by simp) _).trans hb2
    have k1 : w2.cell? ⟨w.heap.size, 0, none⟩ = some (.slice p l.length cap) := (hBW2.cell (p := ⟨w.heap.size, 0, none⟩) hs1).trans k0
    clear hb2 hk2 k0
    go_wp2
    go_loopw [7, 21] (fun _ i wr => ∃ k : Nat, k ≤ l.length ∧ i = .int .i64 k ∧ Bld w1.heap.size w1.heap.size (Lib.byteCells (xafZ l.length :: (l.take k).flatMap xasZ)) wr ∧ Below w1.heap.size w1 wr) (fun _ i _ => l.length - (intOf i).toNat)
    case atStart => exact ⟨0, Nat.zero_le _, rfl, by simpa using hB2, hBW2⟩
    case round =>
      obtain ⟨k, hk, rfl, hBr, hbw⟩ := hrel
      clear hB2 hBW2 k1
      by_cases hlt : k < l.length
      · obtain ⟨f, ho⟩ := xagZ hlt
        obtain ⟨b, off, c0, c1, c2, c3, rfl, hb, a0, a1, a2, a3, hf⟩ := HCC.out k _ ho
        have hbw0 := hB1.trans (hbw.mono hB1.size)
        have g0 := (hbw0.cell (p := ⟨b, off + k * 4, none⟩) hb).trans a0
        have g1 := (hbw0.cell (p := ⟨b, off + k * 4 + 1, none⟩) hb).trans a1
        have g2 := (hbw0.cell (p := ⟨b, off + k * 4 + 2, none⟩) hb).trans a2
        have g3 := (hbw0.cell (p := ⟨b, off + k * 4 + 3, none⟩) hb).trans a3
        have hf1 := hf.below hB1
        have hfz := HZ.out f (List.mem_of_getElem? ho)
        have hzz := xebZ hfz
        have hle : ((l.take k).flatMap xasZ).length ≤ 211 * k := by
          have := xi5Z (l.take k) l.length (fun x hx => HZ.out x (List.mem_of_mem_take hx))
          rw [List.length_take] at this
          omega
        have HO : Hid (l[k]? = some f) := ho
        obtain ⟨P, L, R, C⟩ := f
        have hff := hf
        obtain ⟨rfl, ⟨p1, q1, rfl, _, _⟩, rfl, ⟨p3, q3, rfl, _, _⟩⟩ := hff
        simp only at hf1
        obtain ⟨y1, _, _, _, y5, _⟩ := hzz
        have hsz := hbw.size
        have hBa : Bld w1.heap.size w1.heap.size (Lib.byteCells (xafZ l.length :: (l.take k).flatMap xasZ)) (wr.alloc (.cells #[.int .i64 P, .slice p1 L.length q1, .int .i64 R, .slice p3 C.length q3] 28)) := hBr.alloc _
        have HP := hide (xjgZ w1.heap.size w1.heap.size (xafZ l.length :: (l.take k).flatMap xasZ) (P, L, R, C) _ _ _ _ w1 _ hBa hf1 rfl (hbw.alloc hsz _) (by rw [List.length_cons]; omega) y1 y5)
        clear ho a0 a1 a2 a3 hf hf1 hfz y1 y5 hBa
        go_wp2_with fail
        refine HP.out.mono ?_
        rintro e w3 ⟨rfl, hB3, hb3, hk3⟩
        go_wp2
        go_roundw
        case rel =>
          refine ⟨k + 1, by omega, by go_num, ?_, (hbw.alloc hsz _).trans hb3⟩
          have e1 : xafZ l.length :: (l.take (k + 1)).flatMap xasZ = (xafZ l.length :: (l.take k).flatMap xasZ) ++ xasZ (P, L, R, C) := by
            rw [xavZ l k _ HO.out]; simp
          rw [e1]; exact hB3
        case measure => simp [intOf]; omega
      · have hlt' : ¬ (k : Int) < (l.length : Int) := by omega
        have e1 : xafZ l.length :: (l.take k).flatMap xasZ = xa8Z l := by rw [List.take_of_length_le (by omega)]; rfl
        rw [e1] at hBr
        go_wp2_with (go_at_call 52; refine (Tryz.string_any w1.heap.size w1.heap.size (xa8Z l) _ hBr hbw.size).mono ?_; rintro e w3 ⟨rfl, hB3, hb3, hk3⟩)
        go_ret2
        exact ⟨_, rfl, by simp [xd7Z, HE.out], hB1.trans ((hbw.trans hb3).mono hB1.size)⟩
  · have he' : (xakZ l != 0) = true := by simp [he]
    have HS : Hid (xd7Z l = []) := by show _ = _; simp [xd7Z, he]
    clear he hc
    go_enter Tryz.func26, Tryz.ntmps26
    go_wp2_with fail
    refine (xbnZ l _ _ hFw).mono ?_
    rintro e w1 ⟨rfl, hb1⟩
    go_wp2
    go_ret2
    exact ⟨⟨#[]⟩, rfl, by rw [HS.out], hw.trans (hb1.mono hw.size)⟩
end Go.Proofs.YtgmkmlenhhhgkaaGreat


/- The reader: take, number. -/
namespace Go.Proofs.YtgmkmlenhhhgkaaGreat
open Go.RowKit
set_option linter.unusedSimpArgs false
set_option linter.unusedVariables false
abbrev Rd := Option (List UInt8)
def takeR : Rd → Nat → List UInt8 × Rd
  | none, _ => ([], none)
  | some r, n => if n ≤ r.length then (r.take n, some (r.drop n)) else ([], none)
def RdAt (w : World) (b : Nat) (st : Rd) : Prop := ∃ X : ByteArray, w.heap[b]? = some (.cells #[.string X, .bool st.isNone] 116 (0, 0)) ∧ X.data.toList = st.getD [] ∧ X.size ≤ 140737488351232
theorem RdAt.kept {w w' : World} {b : Nat} {st : Rd} {row : Option Nat} (h : RdAt w b st) (hg : w.grownBy w' row) (hne : row ≠ some b) : RdAt w' b st := by
  obtain ⟨X, h1, h2, h3⟩ := h
  exact ⟨X, (hg.block b (xabZ h1) (fun e => hne e.symm)).trans h1, h2, h3⟩
theorem xarZ (W : World) (b j : Nat) (v : Value) : W.grownBy (W.setCell ⟨b, j, none⟩ v) (some b) :=
  ⟨rfl, rfl, rfl, by simp, fun k _ hk => Below.heap_setCell _ _ _ _ (fun e => hk (by rw [e]))⟩
theorem xeuZ (X : ByteArray) (a b : Nat) : (X.extract a b).data.toList = (X.data.toList.drop a).take (b - a) := Lib.extract_data X a b
theorem take_any (b n : Nat) (st : Rd) (w : World) (h : RdAt w b st) (hn : n ≤ 70000) : Calls Tryz.prog 98 #[.pointer (some ⟨b, 0, none⟩), .int .i64 n] w fun e w' => ∃ S : ByteArray, e = .returned (.string S) ∧ S.data.toList = (takeR st n).1 ∧ RdAt w' b (takeR st n).2 ∧ w.grownBy w' (some b) := by
  obtain ⟨X, hh, hX, hXs⟩ := h
  have hsz : X.size = (st.getD []).length := by rw [← hX]; simp
  have c0 : w.cell? ⟨b, 0, none⟩ = some (.string X) := xaaZ hh 0
  have c1 : w.cell? ⟨b, 1, none⟩ = some (.bool st.isNone) := xaaZ hh 1
  have f0 : w.frozen? ⟨b, 0, none⟩ = false := Lib.frozen_of_heap hh 0
  have f1 : w.frozen? ⟨b, 1, none⟩ = false := Lib.frozen_of_heap hh 1
  have HX : Hid (X.data.toList = st.getD []) := hX
  have HSZ : Hid (X.size = (st.getD []).length) := hsz
  have HH : Hid (w.heap[b]? = some (.cells #[.string X, .bool st.isNone] 116 (0, 0))) := hh
  clear hX hsz hh
  by_cases hle : n ≤ X.size
  · have hle' : ¬ (X.size : Int) < (n : Int) := by omega
    go_enter Tryz.func98, Tryz.ntmps98
    go_wp2
    go_ret
    have hs := HSZ.out
    have hx := HX.out
    have e1 : (takeR st n).1 = X.data.toList.take n := by
      cases st with
      | none => rw [hx]; simp [takeR]
      | some r => simp at hx hs; rw [hx]; simp [takeR, show n ≤ r.length from by omega]
    have e2 : (takeR st n).2.getD [] = X.data.toList.drop n := by
      cases st with
      | none => rw [hx]; simp [takeR]
      | some r => simp at hx hs; rw [hx]; simp [takeR, show n ≤ r.length from by omega]
    have e3 : (takeR st n).2.isNone = st.isNone := by
      cases st with
      | none => simp [takeR]
      | some r => simp at hs; simp [takeR, show n ≤ r.length from by omega]
    refine ⟨_, rfl, ?_, ⟨X.extract n X.size, ?_, ?_, ?_⟩, xarZ _ _ _ _⟩
    · rw [e1, xeuZ]; simp
    · rw [e3, heap_setCell_same w b 0 _ _ _ HH.out]; rfl
    · rw [e2, xeuZ, List.take_of_length_le (by simp)]
    · simp; omega
  · have hle' : (X.size : Int) < (n : Int) := by omega
    go_enter Tryz.func98, Tryz.ntmps98
    go_wp2
    go_ret
    have hs := HSZ.out
    have hn0 : takeR st n = ([], none) := by
      cases st with
      | none => rfl
      | some r => simp at hs; simp [takeR, show ¬ n ≤ r.length from by omega]
    refine ⟨_, rfl, ?_, ⟨⟨#[]⟩, ?_, ?_, ?_⟩, (xarZ _ _ _ _).trans (xarZ _ _ _ _)⟩
    · rw [hn0]
    · rw [hn0, heap_setCell_same _ b 1 _ _ _ (heap_setCell_same w b 0 _ _ _ HH.out)]; rfl
    · rw [hn0]; rfl
    · exact Nat.zero_le _
theorem xcaZ (b n : Nat) (st : Rd) (w : World) (h : RdAt w b st) (hn : n ≤ 4) : Calls Tryz.prog 77 #[.pointer (some ⟨b, 0, none⟩), .int .i64 n] w fun e w' => e = .returned (.int .i64 (numOf (takeR st n).1)) ∧ RdAt w' b (takeR st n).2 ∧ w.grownBy w' (some b) := by
  have hl : (takeR st n).1.length ≤ 4 := by
    cases st with
    | none => simp [takeR]
    | some r => simp only [takeR]; split <;> simp; omega
  go_enter Tryz.func77, Tryz.ntmps77
  go_wp2_with fail
  refine (take_any b n st w h (by omega)).mono ?_
  rintro e w2 ⟨S, rfl, hS, hR, hg⟩
  have hSs : S.size ≤ 4 := by have : S.size = (takeR st n).1.length := by rw [← hS]; simp
                              omega
  have HS : Hid (S.data.toList = (takeR st n).1) := hS
  clear hS
  go_wp2_with (go_at_call 97; refine (xcvZ S _ hSs).mono ?_; rintro e w' ⟨rfl, hw⟩; have hw := hw.symm; subst hw)
  go_ret
  exact ⟨by rw [← HS.out]; rfl, hR, hg⟩
end Go.Proofs.YtgmkmlenhhhgkaaGreat


