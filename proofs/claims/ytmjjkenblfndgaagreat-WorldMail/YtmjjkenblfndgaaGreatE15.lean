/- My texts Mt Mu Na: what of them is needed, joined. -/

import Derived.Test.YtmjjkenblfndgaaGreatE5
import Derived.Test.YtmjjkenblfndgaaGreatE6
import Derived.Test.YtmjjkenblfndgaaGreatE9
import Derived.Test.YtmjjkenblfndgaaGreatE10
import Derived.Test.YtmjjkenblfndgaaGreatE14
set_option maxRecDepth 100000
set_option maxHeartbeats 8000000
/- machine's checker: status, blocks, boxes, depth. -/
namespace Go.Proofs.YtmjjkenblfndgaaGreat
open Go.RowKit
set_option linter.unusedSimpArgs false
set_option linter.unusedVariables false
abbrev chkV (pv fv bv iv ov : Value) (M : Mach) : Value := .agg #[fv, bv, iv, ov, .int .i64 M.status, .int .i64 M.trap, pv]
def Says (n : Int) (w : World) (e : Ending) (w' : World) : Prop := e = .returned (.int .i64 n) ∧ Below w.heap.size w w'
theorem xbuZ {w : World} {o : Obj} {n m : Int} (h : n = m) : Says m w (.returned (.int .i64 n)) (w.alloc o) := ⟨by rw [h], (Below.refl _ w).alloc (Nat.le_refl _) _⟩
theorem xnuZ (M : Mach) (pv fv bv iv ov : Value) (w : World) (h1 : ∃ p n c, pv = .slice p n c) (h2 : ∃ p n c, fv = .slice p n c) (h3 : ∃ p n c, bv = .slice p n c) (h4 : ∃ p n c, iv = .slice p n c) (h5 : ∃ p n c, ov = .slice p n c) : Calls Tryz.prog 103 #[chkV pv fv bv iv ov M] w (Says (stErr M) w) := by
  obtain ⟨_, _, _, rfl⟩ := h1
  obtain ⟨_, _, _, rfl⟩ := h2
  obtain ⟨_, _, _, rfl⟩ := h3
  obtain ⟨_, _, _, rfl⟩ := h4
  obtain ⟨_, _, _, rfl⟩ := h5
  obtain ⟨F, B, I, O, st, tr⟩ := M
  by_cases a1 : st < 0
  · go_enter Tryz.func103, Tryz.ntmps103
    have a3 : (st == 3) = false := by simp; omega
    go_wp2
    go_ret
    exact xbuZ (by simp [stErr]; omega)
  by_cases a2 : 3 < st
  · go_enter Tryz.func103, Tryz.ntmps103
    have a3 : (st == 3) = false := by simp; omega
    go_wp2
    go_ret
    exact xbuZ (by simp [stErr]; omega)
  by_cases a3 : st = 3
  · subst a3
    by_cases a4 : tr < 1
    · go_enter Tryz.func103, Tryz.ntmps103
      go_wp2
      go_ret
      exact xbuZ (by simp [stErr]; omega)
    by_cases a5 : 5 < tr
    · go_enter Tryz.func103, Tryz.ntmps103
      go_wp2
      go_ret
      exact xbuZ (by simp [stErr]; omega)
    · go_enter Tryz.func103, Tryz.ntmps103
      go_wp2
      go_ret
      exact xbuZ (by simp [stErr]; omega)
  · have a3' : (st == 3) = false := by simp; omega
    by_cases a4 : tr < 0
    · go_enter Tryz.func103, Tryz.ntmps103
      go_wp2
      go_ret
      exact xbuZ (by simp [stErr]; omega)
    by_cases a5 : 0 < tr
    · go_enter Tryz.func103, Tryz.ntmps103
      go_wp2
      go_ret
      exact xbuZ (by simp [stErr]; omega)
    · go_enter Tryz.func103, Tryz.ntmps103
      go_wp2
      go_ret
      exact xbuZ (by simp [stErr]; omega)
theorem xpkZ (M : Mach) (pv bv iv ov : Value) (pf : Option Addr) (cf : Nat) (w : World) (h1 : ∃ p n c, pv = .slice p n c) (h3 : ∃ p n c, bv = .slice p n c) (h4 : ∃ p n c, iv = .slice p n c) (h5 : ∃ p n c, ov = .slice p n c) : Calls Tryz.prog 106 #[chkV pv (.slice pf M.frames.length cf) bv iv ov M] w (Says (xc3Z M) w) := by
  obtain ⟨_, _, _, rfl⟩ := h1
  obtain ⟨_, _, _, rfl⟩ := h3
  obtain ⟨_, _, _, rfl⟩ := h4
  obtain ⟨_, _, _, rfl⟩ := h5
  obtain ⟨F, B, I, O, st, tr⟩ := M
  obtain ⟨n, hn⟩ : ∃ n, n = F.length := ⟨_, rfl⟩
  have hd : xc3Z ⟨F, B, I, O, st, tr⟩ = if 6 < n then 2 else if n = 0 ∧ st ≠ 2 then 5 else if 0 < n ∧ st = 2 then 1 else 0 := by rw [hn]; rfl
  rw [hd]
  simp only
  rw [← hn]
  clear hn hd
  by_cases a1 : 6 < n
  · have a1' : (6 : Int) < (n : Int) := by omega
    go_enter Tryz.func106, Tryz.ntmps106
    go_wp2
    go_ret
    exact xbuZ (by simp [a1])
  have a1' : ¬ (6 : Int) < (n : Int) := by omega
  by_cases a2 : n = 0
  · subst a2
    by_cases a3 : st = 2
    · subst a3
      go_enter Tryz.func106, Tryz.ntmps106
      go_wp2
      go_ret
      exact xbuZ (by simp)
    · have a3' : (st != 2) = true := by simpa using a3
      go_enter Tryz.func106, Tryz.ntmps106
      go_wp2
      go_ret
      exact xbuZ (by simp [a3])
  · have a2' : ((n : Int) == 0) = false := by simp; omega
    have a2'' : (0 : Int) < (n : Int) := by omega
    by_cases a3 : st = 2
    · subst a3
      go_enter Tryz.func106, Tryz.ntmps106
      go_wp2
      go_ret
      exact xbuZ (by simp [a1, a2] <;> omega)
    · have a3' : (st == 2) = false := by simpa using a3
      go_enter Tryz.func106, Tryz.ntmps106
      go_wp2
      go_ret
      exact xbuZ (by simp [a1, a2, a3])
theorem xnsZ (M : Mach) (pv fv bv iv ov : Value) (w : World) (h1 : ∃ p n c, pv = .slice p n c) (h2 : ∃ p n c, fv = .slice p n c) (hb : BlksAt w bv M.blocks) (h4 : ∃ p n c, iv = .slice p n c) (h5 : ∃ p n c, ov = .slice p n c) : Calls Tryz.prog 104 #[chkV pv fv bv iv ov M] w (Says (blkErr M.blocks) w) := by
  obtain ⟨_, _, _, rfl⟩ := h1
  obtain ⟨_, _, _, rfl⟩ := h2
  obtain ⟨_, _, _, rfl⟩ := h4
  obtain ⟨_, _, _, rfl⟩ := h5
  obtain ⟨pb, cb, hbv, -, -⟩ := id hb
  subst hbv
  have HB : Hid (∀ o, Calls Tryz.prog 137 #[.slice pb M.blocks.length cb] (w.alloc o) fun e w' => e = .returned (.int .i64 (blkErr M.blocks)) ∧ Below (w.alloc o).heap.size (w.alloc o) w') := fun o => xfuZ M.blocks _ _ (hb.below ((Below.refl _ w).alloc (Nat.le_refl _) _))
  clear hb
  go_enter Tryz.func104, Tryz.ntmps104
  go_wp2_with (go_at_call 137; refine (HB.out _).mono ?_; rintro e w2 ⟨rfl, b2⟩)
  go_ret
  exact ⟨rfl, xaeZ ((Below.refl _ w).alloc (Nat.le_refl _) _) b2⟩
end Go.Proofs.YtmjjkenblfndgaaGreat


/- machine's checker: boxes; values and frames that stray. -/
namespace Go.Proofs.YtmjjkenblfndgaaGreat
open Go.RowKit
set_option linter.unusedSimpArgs false
set_option linter.unusedVariables false
theorem xhzZ (n : Int) (w : World) : Calls Tryz.prog 139 #[.int .i64 n] w fun e w' => e = .returned (.bool (isI32 n)) ∧ w' = w := by
  go_enter Tryz.func139, Tryz.ntmps139
  go_wp2_with (go_at_call 41; refine (xdrZ _ _).mono ?_; rintro e w4 ⟨rfl, hw4⟩; have hw4 := hw4.symm; subst hw4)
  go_ret
  exact ⟨by rw [← xhuZ]; rfl, rfl⟩
theorem ckBox1_any (n : Int) (w : World) : Calls Tryz.prog 138 #[.int .i64 n] w fun e w' => e = .returned (.bool (!isI32 n)) ∧ w' = w := by
  have hnot : ∀ (x : Bool) (w : World), (Op.unary .not (.bool x)).run Tryz.prog w = .ok (.bool (!x)) w := fun _ _ => rfl
  go_enter Tryz.func138, Tryz.ntmps138
  go_wp2_with (go_at_call 139; refine (xhzZ _ _).mono ?_; rintro e w4 ⟨rfl, hw4⟩; have hw4 := hw4.symm; subst hw4)
  go_ret
  exact ⟨rfl, rfl⟩
theorem xglZ (l : List Int) (v : Value) (w : World) (h : IntsAt w v l) : Calls Tryz.prog 140 #[v, .func (.func 138) #[] #[]] w fun e w' => e = .returned (.bool (!l.all isI32)) ∧ Below w.heap.size w w' :=
  xgaZ 138 #[] (fun _ => True) isI32 l v w h trivial (fun _ _ _ _ => trivial) (xchZ Tryz.func138 (by kernel_rfl) rfl) (fun z W _ => (ckBox1_any z W).mono (by rintro e w' ⟨rfl, rfl⟩; exact ⟨rfl, Below.refl _ _⟩))
/-- IndexFunc at a function whose contract is given: whether one is found. -/
theorem xm9Z (F : Nat) (caps : Array Value) (I : World → Prop) (q : Frm → Bool) (l : List Frm) (v : Value) (w : World) (h : FrmsAt w v l) (hI : I w) (hkI : ∀ W W', I W → Below W.heap.size W W' → I W') (hE : Ent F)
    (hF : ∀ (z : Frm) (lv sv : Value) (W : World), I W → (∃ p n c, lv = .slice p n c) → (∃ p n c, sv = .slice p n c) → Calls Tryz.prog F (#[.agg #[.int .i64 z.fn, .int .i64 z.pc, lv, sv]] ++ caps) W fun e w' => e = .returned (.bool (!q z)) ∧ Below W.heap.size W w') :
    Calls Tryz.prog 178 #[v, .func (.func F) #[] caps] w fun e w' => ∃ r, e = .returned (.int .i64 r) ∧ decide (0 ≤ r) = (!l.all q) ∧ Below w.heap.size w w' := by
  obtain ⟨p, cap, rfl, hm, -, hc⟩ := h
  unfold maxLen at hm
  have HI := hideP hI
  have HKI := hideP hkI
  have HF := hideP hF
  have hEE := fun args W => hE args W
  clear hI hkI hF hE
  go_enter Tryz.func178, Tryz.ntmps178
  go_wp2
  go_loopw [5, 8] (fun _ i wr => ∃ k : Nat, k ≤ l.length ∧ i = .int .i64 k ∧ (∀ o ∈ l.take k, q o = true) ∧ Below w.heap.size w wr) (fun _ i _ => l.length - (intOf i).toNat)
  case atStart => exact ⟨0, Nat.zero_le _, rfl, by simp, Below.refl _ _⟩
  case round =>
    obtain ⟨k, hk, rfl, hok, hbw⟩ := hrel
    have HK := hideP hok
    have HC := hideP hc
    clear hok hc
    by_cases hlt : k < l.length
    · obtain ⟨z, ho⟩ := xagZ hlt
      obtain ⟨b, off, lv, sv, rfl, hb, h0, h1, h2, h3, hl, -, hs, -⟩ := HC.out k _ ho
      obtain ⟨pl, cl, hlv, -, -⟩ := hl
      obtain ⟨ps, cs, hsv, -, -⟩ := hs
      subst hlv hsv
      have g0 := (hbw.cell (p := ⟨b, off + k * 4, none⟩) hb).trans h0
      have g1 := (hbw.cell (p := ⟨b, off + k * 4 + 1, none⟩) hb).trans h1
      have g2 := (hbw.cell (p := ⟨b, off + k * 4 + 2, none⟩) hb).trans h2
      have g3 := (hbw.cell (p := ⟨b, off + k * 4 + 3, none⟩) hb).trans h3
      have HO := hideP ho
      have hi := hideP (HKI.out _ _ HI.out hbw)
      clear ho h0 h1 h2 h3
      cases hnb : q z
      · go_wp2_with fail
        refine (HF.out z _ _ wr hi.out ⟨_, _, _, rfl⟩ ⟨_, _, _, rfl⟩).mono ?_
        rw [hnb]
        rintro e w2 ⟨rfl, hb2⟩
        go_wp2
        go_ret
        exact ⟨k, rfl, by rw [xcvZ HO.out hnb]; simp, hbw.trans (hb2.mono hbw.size)⟩
      · go_wp2_with fail
        refine (HF.out z _ _ wr hi.out ⟨_, _, _, rfl⟩ ⟨_, _, _, rfl⟩).mono ?_
        rw [hnb]
        rintro e w2 ⟨rfl, hb2⟩
        go_wp2
        go_roundw
        case rel => exact ⟨k + 1, by omega, by go_num, xc0Z HK.out HO.out hnb, hbw.trans (hb2.mono hbw.size)⟩
        case measure => simp [intOf]; omega
    · have hlt' : ¬ (k : Int) < (l.length : Int) := by omega
      go_wp2
      go_ret
      refine ⟨-1, rfl, ?_, hbw⟩
      have := HK.out
      rw [List.take_of_length_le (by omega)] at this
      rw [xc1Z this]; decide
theorem xjpZ (F : Nat) (caps : Array Value) (I : World → Prop) (q : Frm → Bool) (l : List Frm) (v : Value) (w : World) (h : FrmsAt w v l) (hI : I w) (hkI : ∀ W W', I W → Below W.heap.size W W' → I W') (hE : Ent F)
    (hF : ∀ (z : Frm) (lv sv : Value) (W : World), I W → (∃ p n c, lv = .slice p n c) → (∃ p n c, sv = .slice p n c) → Calls Tryz.prog F (#[.agg #[.int .i64 z.fn, .int .i64 z.pc, lv, sv]] ++ caps) W fun e w' => e = .returned (.bool (!q z)) ∧ Below W.heap.size W w') :
    Calls Tryz.prog 142 #[v, .func (.func F) #[] caps] w fun e w' => e = .returned (.bool (!l.all q)) ∧ Below w.heap.size w w' := by
  go_enter Tryz.func142, Tryz.ntmps142
  go_wp2_with fail
  refine (xm9Z F caps I q l v _ h hI hkI hE hF).mono ?_
  rintro e w2 ⟨r, rfl, hr, hb2⟩
  have HR := hideP hr
  clear hr
  go_wp2
  go_ret
  exact ⟨by rw [← HR.out]; rfl, hb2⟩
theorem xpjZ (M : Mach) (pv fv bv iv ov : Value) (w : World) (h1 : ∃ p n c, pv = .slice p n c) (h2 : ∃ p n c, fv = .slice p n c) (h3 : ∃ p n c, bv = .slice p n c) (hi : IntsAt w iv M.inp) (ho : IntsAt w ov M.out) : Calls Tryz.prog 105 #[chkV pv fv bv iv ov M] w (Says (xdaZ M) w) := by
  obtain ⟨p1, n1, c1, rfl⟩ := h1
  obtain ⟨p2, n2, c2, rfl⟩ := h2
  obtain ⟨p3, n3, c3, rfl⟩ := h3
  obtain ⟨pi, ci, hiv, him, -⟩ := id hi
  obtain ⟨po, co, hov, hom, -⟩ := id ho
  subst hiv hov
  unfold maxLen at him hom
  obtain ⟨F, B, I, O, st, tr⟩ := M
  simp only at him hom hi ho ⊢
  by_cases a1 : 10 < I.length
  · have a1' : (10 : Int) < (I.length : Int) := by omega
    go_enter Tryz.func105, Tryz.ntmps105
    go_wp2
    go_ret
    exact xbuZ (by simp [xdaZ, a1])
  have a1' : ¬ (10 : Int) < (I.length : Int) := by omega
  by_cases a2 : 10 < O.length
  · have a2' : (10 : Int) < (O.length : Int) := by omega
    go_enter Tryz.func105, Tryz.ntmps105
    go_wp2
    go_ret
    exact xbuZ (by simp [xdaZ, a2])
  have a2' : ¬ (10 : Int) < (O.length : Int) := by omega
  obtain ⟨W1, hW1⟩ : ∃ W1, w.alloc (.cells #[.slice p2 n2 c2, .slice p3 n3 c3, .slice pi I.length ci, .slice po O.length co, .int .i64 st, .int .i64 tr, .slice p1 n1 c1] 121) = W1 := ⟨_, rfl⟩
  have b1 : Below w.heap.size w W1 := by rw [← hW1]; exact (Below.refl _ w).alloc (Nat.le_refl _) _
  have x1 : W1.heap[w.heap.size]? = some (.cells #[.slice p2 n2 c2, .slice p3 n3 c3, .slice pi I.length ci, .slice po O.length co, .int .i64 st, .int .i64 tr, .slice p1 n1 c1] 121 (0, 0)) := by rw [← hW1]; exact World.alloc_heap_new w _
  have lx := xacZ x1
  have d2 : W1.cell? ⟨w.heap.size, 2, none⟩ = some (.slice pi I.length ci) := xaaZ x1 2
  have d3 : W1.cell? ⟨w.heap.size, 3, none⟩ = some (.slice po O.length co) := xaaZ x1 3
  have HI := hideP (xglZ I _ W1 (hi.below b1))
  have HO : Hid (∀ W, Below W1.heap.size W1 W → Calls Tryz.prog 140 #[.slice po O.length co, .func (.func 138) #[] #[]] W fun e w' => e = .returned (.bool (!O.all isI32)) ∧ Below W.heap.size W w') := fun W hW => xglZ O _ W ((ho.below b1).below hW)
  clear hi ho x1
  cases hI : I.all isI32
  · rw [hI] at HI
    go_enter Tryz.func105, Tryz.ntmps105
    go_wp2_with (go_at_call 140; refine HI.out.mono ?_; rintro e w2 ⟨rfl, b2⟩)
    go_ret
    exact ⟨by simp [xdaZ, a1, a2, hI], xaeZ b1 b2⟩
  · rw [hI] at HI
    cases hO : O.all isI32
    · rw [hO] at HO
      go_enter Tryz.func105, Tryz.ntmps105
      go_wp2_with (first
        | (go_at_call 140; (with_reducible refine HI.out.mono ?_); rintro e w2 ⟨rfl, b2⟩; have e3 := (b2.cell (p := ⟨w.heap.size, 3, none⟩) lx).trans d3)
        | (go_at_call 140; (with_reducible refine (HO.out _ b2).mono ?_); rintro e w3 ⟨rfl, b3⟩))
      go_ret
      exact ⟨by simp [xdaZ, a1, a2, hI, hO], xaeZ (xaeZ b1 b2) b3⟩
    · rw [hO] at HO
      go_enter Tryz.func105, Tryz.ntmps105
      go_wp2_with (first
        | (go_at_call 140; (with_reducible refine HI.out.mono ?_); rintro e w2 ⟨rfl, b2⟩; have e3 := (b2.cell (p := ⟨w.heap.size, 3, none⟩) lx).trans d3)
        | (go_at_call 140; (with_reducible refine (HO.out _ b2).mono ?_); rintro e w3 ⟨rfl, b3⟩))
      go_ret
      exact ⟨by simp [xdaZ, a1, a2, hI, hO], xaeZ (xaeZ b1 b2) b3⟩
theorem xplZ (p : List Fn) (z : Frm) (lv sv : Value) (pp : Option Addr) (qp bx : Nat) (w : World) (h1 : ∃ p n c, lv = .slice p n c) (h2 : ∃ p n c, sv = .slice p n c) (hc : w.cell? ⟨bx, 6, none⟩ = some (.slice pp p.length qp)) : Calls Tryz.prog 141 #[.agg #[.int .i64 z.fn, .int .i64 z.pc, lv, sv], .pointer (some ⟨bx, 0, none⟩)] w fun e w' => e = .returned (.bool (!xb0Z p z)) ∧ Below w.heap.size w w' := by
  obtain ⟨p1, n1, c1, rfl⟩ := h1
  obtain ⟨p2, n2, c2, rfl⟩ := h2
  have hca := fun o => xabZ hc o
  by_cases a1 : z.fn < 0
  · go_enter Tryz.func141, Tryz.ntmps141
    go_wp2
    go_ret
    exact ⟨by simp [xb0Z]; omega, (Below.refl _ w).alloc (Nat.le_refl _) _⟩
  · by_cases a2 : z.fn ≥ (p.length : Int)
    · go_enter Tryz.func141, Tryz.ntmps141
      go_wp2
      go_ret
      exact ⟨by simp [xb0Z]; omega, (Below.refl _ w).alloc (Nat.le_refl _) _⟩
    · go_enter Tryz.func141, Tryz.ntmps141
      go_wp2
      go_ret
      exact ⟨by simp [xb0Z]; omega, (Below.refl _ w).alloc (Nat.le_refl _) _⟩
end Go.Proofs.YtmjjkenblfndgaaGreat


/- machine's checker: values that stray, entries, types of values. -/
namespace Go.Proofs.YtmjjkenblfndgaaGreat
open Go.RowKit
set_option linter.unusedSimpArgs false
set_option linter.unusedVariables false
/-- IndexFunc at a function whose contract is given: whether one is found. -/
theorem xncZ (F : Nat) (fst : Array Value) (I : World → Prop) (q : Val → Bool) (l : List Val) (v : Value) (w : World) (h : ValsAt w v l) (hI : I w) (hkI : ∀ W W', I W → Below W.heap.size W W' → I W') (hE : Ent F)
    (hF : ∀ (z : Val) (W : World), I W → Calls Tryz.prog F (fst ++ #[.agg #[.bool z.1, .int .i64 z.2]]) W fun e w' => e = .returned (.bool (!q z)) ∧ Below W.heap.size W w') :
    Calls Tryz.prog 221 #[v, .func (.func F) fst #[]] w fun e w' => ∃ r, e = .returned (.int .i64 r) ∧ decide (0 ≤ r) = (!l.all q) ∧ Below w.heap.size w w' := by
  obtain ⟨p, cap, rfl, hm, hc⟩ := h
  unfold maxLen at hm
  have HI := hideP hI
  have HKI := hideP hkI
  have HF := hideP hF
  have hEE := fun args W => hE args W
  clear hI hkI hF hE
  go_enter Tryz.func221, Tryz.ntmps221
  go_wp2
  go_loopw [5, 8] (fun _ i wr => ∃ k : Nat, k ≤ l.length ∧ i = .int .i64 k ∧ (∀ o ∈ l.take k, q o = true) ∧ Below w.heap.size w wr) (fun _ i _ => l.length - (intOf i).toNat)
  case atStart => exact ⟨0, Nat.zero_le _, rfl, by simp, Below.refl _ _⟩
  case round =>
    obtain ⟨k, hk, rfl, hok, hbw⟩ := hrel
    have HK := hideP hok
    have HC := hideP hc
    clear hok hc
    by_cases hlt : k < l.length
    · obtain ⟨z, ho⟩ := xagZ hlt
      obtain ⟨b, off, rfl, hb, h0, h1⟩ := HC.out k _ ho
      have g0 := (hbw.cell (p := ⟨b, off + k * 2, none⟩) hb).trans h0
      have g1 := (hbw.cell (p := ⟨b, off + k * 2 + 1, none⟩) hb).trans h1
      have HO := hideP ho
      have hi := hideP (HKI.out _ _ HI.out hbw)
      clear ho h0 h1
      cases hnb : q z
      · go_wp2_with fail
        refine (HF.out z wr hi.out).mono ?_
        rw [hnb]
        rintro e w2 ⟨rfl, hb2⟩
        go_wp2
        go_ret
        exact ⟨k, rfl, by rw [xcvZ HO.out hnb]; simp, hbw.trans (hb2.mono hbw.size)⟩
      · go_wp2_with fail
        refine (HF.out z wr hi.out).mono ?_
        rw [hnb]
        rintro e w2 ⟨rfl, hb2⟩
        go_wp2
        go_roundw
        case rel => exact ⟨k + 1, by omega, by go_num, xc0Z HK.out HO.out hnb, hbw.trans (hb2.mono hbw.size)⟩
        case measure => simp [intOf]; omega
    · have hlt' : ¬ (k : Int) < (l.length : Int) := by omega
      go_wp2
      go_ret
      refine ⟨-1, rfl, ?_, hbw⟩
      have := HK.out
      rw [List.take_of_length_le (by omega)] at this
      rw [xc1Z this]; decide
theorem xjqZ (F : Nat) (fst : Array Value) (I : World → Prop) (q : Val → Bool) (l : List Val) (v : Value) (w : World) (h : ValsAt w v l) (hI : I w) (hkI : ∀ W W', I W → Below W.heap.size W W' → I W') (hE : Ent F)
    (hF : ∀ (z : Val) (W : World), I W → Calls Tryz.prog F (fst ++ #[.agg #[.bool z.1, .int .i64 z.2]]) W fun e w' => e = .returned (.bool (!q z)) ∧ Below W.heap.size W w') :
    Calls Tryz.prog 179 #[v, .func (.func F) fst #[]] w fun e w' => e = .returned (.bool (!l.all q)) ∧ Below w.heap.size w w' := by
  go_enter Tryz.func179, Tryz.ntmps179
  go_wp2_with fail
  refine (xncZ F fst I q l v _ h hI hkI hE hF).mono ?_
  rintro e w2 ⟨r, rfl, hr, hb2⟩
  have HR := hideP hr
  clear hr
  go_wp2
  go_ret
  exact ⟨by rw [← HR.out]; rfl, hb2⟩
/-- IndexFunc at a function whose contract is given: whether one is found. -/
theorem xm8Z (F : Nat) (caps : Array Value) (I : World → Prop) (q : Nat × List Int → Bool) (l : List (Nat × List Int)) (v : Value) (w : World) (h : EntsRd w v l) (hI : I w) (hkI : ∀ W W', I W → Below W.heap.size W W' → I W') (hE : Ent F)
    (hF : ∀ (z : Nat × List Int) (u : Value) (W : World), I W → (∃ p n c, u = .slice p n c) → Calls Tryz.prog F (#[.agg #[.int .i64 z.1, u]] ++ caps) W fun e w' => e = .returned (.bool (!q z)) ∧ Below W.heap.size W w') :
    Calls Tryz.prog 235 #[v, .func (.func F) #[] caps] w fun e w' => ∃ r : Int, e = .returned (.int .i64 r) ∧ ((r = -1 ∧ l.all q = true) ∨ ∃ (k : Nat) (z : Nat × List Int), r = (k : Int) ∧ l[k]? = some z ∧ q z = false ∧ ∀ y ∈ l.take k, q y = true) ∧ Below w.heap.size w w' := by
  obtain ⟨p, cap, rfl, hm, hc⟩ := h
  unfold maxLen at hm
  have HI := hideP hI
  have HKI := hideP hkI
  have HF := hideP hF
  have hEE := fun args W => hE args W
  clear hI hkI hF hE
  go_enter Tryz.func235, Tryz.ntmps235
  go_wp2
  go_loopw [5, 8] (fun _ i wr => ∃ k : Nat, k ≤ l.length ∧ i = .int .i64 k ∧ (∀ o ∈ l.take k, q o = true) ∧ Below w.heap.size w wr) (fun _ i _ => l.length - (intOf i).toNat)
  case atStart => exact ⟨0, Nat.zero_le _, rfl, by simp, Below.refl _ _⟩
  case round =>
    obtain ⟨k, hk, rfl, hok, hbw⟩ := hrel
    have HK := hideP hok
    have HC := hideP hc
    clear hok hc
    by_cases hlt : k < l.length
    · obtain ⟨z, ho⟩ := xagZ hlt
      obtain ⟨b, off, u, rfl, hb, h0, h1, hu⟩ := HC.out k z.1 z.2 ho
      obtain ⟨pu, cu, hus, -⟩ := hu.shp
      subst hus
      clear hu
      have g0 := (hbw.cell (p := ⟨b, off + k * 2, none⟩) hb).trans h0
      have g1 := (hbw.cell (p := ⟨b, off + k * 2 + 1, none⟩) hb).trans h1
      have HO := hideP ho
      have hi := hideP (HKI.out _ _ HI.out hbw)
      clear ho h0 h1
      cases hnb : q z
      · go_wp2_with fail
        refine (HF.out z _ wr hi.out ⟨_, _, _, rfl⟩).mono ?_
        rw [hnb]
        rintro e w2 ⟨rfl, hb2⟩
        go_wp2
        go_ret
        exact ⟨k, rfl, .inr ⟨k, z, rfl, HO.out, hnb, HK.out⟩, hbw.trans (hb2.mono hbw.size)⟩
      · go_wp2_with fail
        refine (HF.out z _ wr hi.out ⟨_, _, _, rfl⟩).mono ?_
        rw [hnb]
        rintro e w2 ⟨rfl, hb2⟩
        go_wp2
        go_roundw
        case rel => exact ⟨k + 1, by omega, by go_num, xc0Z HK.out HO.out hnb, hbw.trans (hb2.mono hbw.size)⟩
        case measure => simp [intOf]; omega
    · have hlt' : ¬ (k : Int) < (l.length : Int) := by omega
      go_wp2
      go_ret
      refine ⟨-1, rfl, .inl ⟨rfl, ?_⟩, hbw⟩
      have := HK.out
      rw [List.take_of_length_le (by omega)] at this
      exact fun a b hab => List.all_eq_true.1 (xc1Z this) _ hab
theorem strays_any (M : Mach) (pv fv bv iv ov : Value) (z : Val) (w : World) (h1 : ∃ p n c, pv = .slice p n c) (h2 : ∃ p n c, fv = .slice p n c) (h3 : ∃ p c, bv = .slice p M.blocks.length c) (h4 : ∃ p n c, iv = .slice p n c) (h5 : ∃ p n c, ov = .slice p n c) : Calls Tryz.prog 180 #[chkV pv fv bv iv ov M, .agg #[.bool z.1, .int .i64 z.2]] w fun e w' => e = .returned (.bool (!okV M.blocks.length z)) ∧ Below w.heap.size w w' := by
  obtain ⟨p1, n1, c1, rfl⟩ := h1
  obtain ⟨p2, n2, c2, rfl⟩ := h2
  obtain ⟨p3, c3, rfl⟩ := h3
  obtain ⟨p4, n4, c4, rfl⟩ := h4
  obtain ⟨p5, n5, c5, rfl⟩ := h5
  obtain ⟨r, n⟩ := z
  cases r
  · go_enter Tryz.func180, Tryz.ntmps180
    have hnot : ∀ (x : Bool) (w : World), (Op.unary .not (.bool x)).run Tryz.prog w = .ok (.bool (!x)) w := fun _ _ => rfl
    go_wp2_with (go_at_call 139; refine (xhzZ _ _).mono ?_; rintro e w4 ⟨rfl, hw4⟩; have hw4 := hw4.symm; subst hw4)
    go_ret
    exact ⟨by simp [okV], ((Below.refl _ w).alloc (Nat.le_refl _) _).alloc (by simp) _⟩
  · by_cases a1 : n < 0
    · go_enter Tryz.func180, Tryz.ntmps180
      go_wp2
      go_ret
      exact ⟨by simp [okV]; omega, ((Below.refl _ w).alloc (Nat.le_refl _) _).alloc (by simp) _⟩
    · have a1' : decide (n < 0) = false := by simpa using a1
      by_cases a2 : (M.blocks.length : Int) < n
      · go_enter Tryz.func180, Tryz.ntmps180
        go_wp2
        go_ret
        exact ⟨by simp [okV]; omega, ((Below.refl _ w).alloc (Nat.le_refl _) _).alloc (by simp) _⟩
      · go_enter Tryz.func180, Tryz.ntmps180
        go_wp2
        go_ret
        exact ⟨by simp [okV]; omega, ((Below.refl _ w).alloc (Nat.le_refl _) _).alloc (by simp) _⟩
theorem allOk_any (M : Mach) (pv fv bv iv ov : Value) (l : List Val) (v : Value) (w : World) (h : ValsAt w v l) (h1 : ∃ p n c, pv = .slice p n c) (h2 : ∃ p n c, fv = .slice p n c) (h3 : ∃ p c, bv = .slice p M.blocks.length c) (h4 : ∃ p n c, iv = .slice p n c) (h5 : ∃ p n c, ov = .slice p n c) : Calls Tryz.prog 179 #[v, .func (.func 180) #[chkV pv fv bv iv ov M] #[]] w fun e w' => e = .returned (.bool (!l.all (okV M.blocks.length))) ∧ Below w.heap.size w w' :=
  xjqZ 180 #[chkV pv fv bv iv ov M] (fun _ => True) (okV M.blocks.length) l v w h trivial (fun _ _ _ _ => trivial) (xchZ Tryz.func180 (by kernel_rfl) rfl) (fun z W _ => strays_any M pv fv bv iv ov z W h1 h2 h3 h4 h5)
theorem entry1_any (n : Int) (z : Nat × List Int) (u : Value) (bx : Nat) (w : World) (h : ∃ p n c, u = .slice p n c) (hc : w.cell? ⟨bx, 0, none⟩ = some (.int .i64 n)) : Calls Tryz.prog 236 #[.agg #[.int .i64 z.1, u], .pointer (some ⟨bx, 0, none⟩)] w fun e w' => e = .returned (.bool (decide ((z.1 : Int) = n))) ∧ Below w.heap.size w w' := by
  obtain ⟨p1, n1, c1, rfl⟩ := h
  have hca := fun o => xabZ hc o
  by_cases a : (z.1 : Int) = n
  · have a' : ((z.1 : Int) == n) = true := by simpa using a
    go_enter Tryz.func236, Tryz.ntmps236
    go_wp2
    go_ret
    exact ⟨by simp [a], (Below.refl _ w).alloc (Nat.le_refl _) _⟩
  · have a' : ((z.1 : Int) == n) = false := by simpa using a
    go_enter Tryz.func236, Tryz.ntmps236
    go_wp2
    go_ret
    exact ⟨by simp [a], (Below.refl _ w).alloc (Nat.le_refl _) _⟩
def entIx : List (Nat × List Int) → Int → Int
  | [], _ => -1
  | z :: r, n => if (z.1 : Int) = n then 0 else if entIx r n < 0 then -1 else entIx r n + 1
theorem xkiZ : ∀ {l : List (Nat × List Int)} {n : Int}, (∀ z ∈ l, (z.1 : Int) ≠ n) → entIx l n = -1
  | [], _, _ => rfl
  | z :: r, n, h => by
    unfold entIx
    rw [if_neg (h z (by simp)), if_pos (by rw [xkiZ (fun y hy => h y (by simp [hy]))]; decide)]
theorem entIx_at : ∀ {l : List (Nat × List Int)} {n : Int} {k : Nat} {z : Nat × List Int}, l[k]? = some z → (z.1 : Int) = n → (∀ y ∈ l.take k, (y.1 : Int) ≠ n) → entIx l n = (k : Int)
  | [], _, k, _, h, _, _ => by simp at h
  | y :: r, n, 0, z, h, hz, _ => by
    simp at h
    subst h
    unfold entIx
    rw [if_pos hz]; rfl
  | y :: r, n, k + 1, z, h, hz, hk => by
    have ih := entIx_at (l := r) (n := n) (k := k) (by simpa using h) hz (fun y hy => hk y (by simp [hy]))
    unfold entIx
    rw [if_neg (hk y (by simp)), ih, if_neg (by omega)]
    omega
theorem xfzZ : ∀ (l : List (Nat × List Int)) (n : Int), (entIx l n = -1 ∧ ∀ z ∈ l, (z.1 : Int) ≠ n) ∨ ∃ (k : Nat) (z : Nat × List Int), entIx l n = (k : Int) ∧ l[k]? = some z ∧ (z.1 : Int) = n
  | [], _ => .inl ⟨rfl, fun z hz => by simp at hz⟩
  | y :: r, n => by
    unfold entIx
    by_cases h : (y.1 : Int) = n
    · rw [if_pos h]
      exact .inr ⟨0, y, rfl, rfl, h⟩
    · rw [if_neg h]
      rcases xfzZ r n with ⟨h1, h2⟩ | ⟨k, z, h1, h2, h3⟩
      · rw [h1]
        refine .inl ⟨rfl, fun z hz => ?_⟩
        rcases List.mem_cons.1 hz with rfl | hz
        · exact h
        · exact h2 z hz
      · rw [h1, if_neg (by omega)]
        exact .inr ⟨k + 1, z, by omega, by simpa using h2, h3⟩
theorem xehZ (l : List (Nat × List Int)) (v : Value) (n : Int) (w : World) (h : EntsRd w v l) : Calls Tryz.prog 224 #[v, .int .i64 n] w fun e w' => e = .returned (.int .i64 (entIx l n)) ∧ Below w.heap.size w w' := by
  obtain ⟨W1, hW1⟩ : ∃ W1, w.alloc (.cells #[.int .i64 n] 3) = W1 := ⟨_, rfl⟩
  have b1 : Below w.heap.size w W1 := by rw [← hW1]; exact (Below.refl _ w).alloc (Nat.le_refl _) _
  have x1 : W1.heap[w.heap.size]? = some (.cells #[.int .i64 n] 3 (0, 0)) := by rw [← hW1]; exact World.alloc_heap_new w _
  have k1 : W1.cell? ⟨w.heap.size, 0, none⟩ = some (.int .i64 n) := xaaZ x1 0
  have lx := xacZ x1
  obtain ⟨pl, cl, hv⟩ := h.shp
  subst hv
  have HX := hideP (xm8Z 236 #[.pointer (some ⟨w.heap.size, 0, none⟩)] (fun W => W.cell? ⟨w.heap.size, 0, none⟩ = some (.int .i64 n) ∧ w.heap.size < W.heap.size) (fun z => !decide ((z.1 : Int) = n)) l _ W1 (h.below b1) ⟨k1, lx⟩ (fun W W' hI hb => ⟨(hb.cell (p := ⟨w.heap.size, 0, none⟩) hI.2).trans hI.1, Nat.lt_of_lt_of_le hI.2 hb.size⟩) (xchZ Tryz.func236 (by kernel_rfl) rfl) (fun z u W hI hu => by
    have := entry1_any n z u w.heap.size W hu hI.1
    simpa using this))
  clear h x1
  go_enter Tryz.func224, Tryz.ntmps224
  go_wp2_with (go_at_call 235; refine HX.out.mono ?_; rintro e w2 ⟨r, rfl, hr, b2⟩; have HR := hideP hr; clear hr)
  go_ret
  refine ⟨?_, xaeZ b1 b2⟩
  rcases HR.out with ⟨h1, h2⟩ | ⟨k, z, h1, h2, h3, h4⟩
  · have hn : ∀ z ∈ l, (z.1 : Int) ≠ n := fun z hz => by
      have h5 := List.all_eq_true.1 h2 z hz
      simp at h5
      exact h5
    rw [h1, xkiZ hn]; rfl
  · have hn : ∀ y ∈ l.take k, (y.1 : Int) ≠ n := fun y hy => by
      have h5 := h4 y hy
      simp at h5
      exact h5
    have h6 : (z.1 : Int) = n := by
      have h5 := h3
      simp at h5
      exact h5
    rw [h1, entIx_at h2 h6 hn]; rfl
theorem xj9Z (z : Val) (t : Int) (w : World) : Calls Tryz.prog 223 #[.agg #[.bool z.1, .int .i64 z.2], .int .i64 t] w fun e w' => e = .returned (.bool (asT z t)) ∧ Below w.heap.size w w' := by
  obtain ⟨r, n⟩ := z
  have hb : ∀ o, Below w.heap.size w (w.alloc o) := fun o => (Below.refl _ w).alloc (Nat.le_refl _) _
  by_cases a1 : t = 1
  · subst a1
    cases r
    · go_enter Tryz.func223, Tryz.ntmps223
      go_wp2
      go_ret
      exact ⟨by simp [asT], hb _⟩
    · go_enter Tryz.func223, Tryz.ntmps223
      go_wp2
      go_ret
      exact ⟨by simp [asT], hb _⟩
  · have a1' : (t != 1) = true := by simpa using a1
    cases r
    · go_enter Tryz.func223, Tryz.ntmps223
      go_wp2
      go_ret
      exact ⟨by simp [asT, a1], hb _⟩
    · by_cases a3 : t = 3
      · subst a3
        by_cases a0 : n = 0
        · subst a0
          go_enter Tryz.func223, Tryz.ntmps223
          go_wp2
          go_ret
          exact ⟨by simp [asT], hb _⟩
        · have a0' : (n == 0) = false := by simpa using a0
          go_enter Tryz.func223, Tryz.ntmps223
          go_wp2
          go_ret
          exact ⟨by simp [asT, a0], hb _⟩
      · have a3' : (t != 3) = true := by simpa using a3
        go_enter Tryz.func223, Tryz.ntmps223
        go_wp2
        go_ret
        exact ⟨by simp [asT, a1, a3], hb _⟩
theorem areOf_iff (l : List Val) (ts : List Int) : areOf l ts = true ↔ l.length = ts.length ∧ ∀ (k : Nat) (v : Val) (t : Int), l[k]? = some v → ts[k]? = some t → asT v t = true := by
  constructor
  · exact fun h => ⟨xa6Z h, xf8Z h⟩
  · intro ⟨h1, h2⟩
    induction l generalizing ts with
    | nil => cases ts with
      | nil => rfl
      | cons _ _ => simp at h1
    | cons a r ih => cases ts with
      | nil => simp at h1
      | cons b q =>
        simp only [areOf, Bool.and_eq_true]
        exact ⟨h2 0 a b rfl rfl, ih q (by simpa using h1) (fun k v t h3 h4 => h2 (k + 1) v t (by simpa using h3) (by simpa using h4))⟩
theorem xlhZ (l : List Val) (ts : List Int) (v u : Value) (w : World) (hl : ValsAt w v l) (hu : IntsAt w u ts) : Calls Tryz.prog 222 #[v, u, .func (.func 223) #[] #[]] w fun e w' => e = .returned (.bool (areOf l ts)) ∧ Below w.heap.size w w' := by
  obtain ⟨p, cap, rfl, hlm, hc⟩ := hl
  obtain ⟨q, cap', rfl, hmm, hd⟩ := hu
  unfold maxLen at hlm hmm
  have hEE := fun args W => (xchZ (F := 223) Tryz.func223 (by kernel_rfl) rfl) args W
  by_cases hlen : l.length = ts.length
  · have hlen' : ((l.length : Int) != (ts.length : Int)) = false := by simp; omega
    have HLEN := hideP hlen
    have HC := hideP hc
    have HD := hideP hd
    clear hc hd hlen
    go_enter Tryz.func222, Tryz.ntmps222
    go_wp2
    go_loopw [7, 8, 17] (fun _ _ i wr => ∃ k : Nat, k ≤ l.length ∧ i = .int .i64 k ∧ (∀ (j : Nat) (v : Val) (t : Int), j < k → l[j]? = some v → ts[j]? = some t → asT v t = true) ∧ Below w.heap.size w wr) (fun _ _ i _ => l.length - (intOf i).toNat)
    case atStart => exact ⟨0, Nat.zero_le _, rfl, fun j v t hj => by omega, Below.refl _ _⟩
    case round =>
      obtain ⟨k, hk, rfl, hok, hbw⟩ := hrel
      have HK := hideP hok
      clear hok
      by_cases hlt : k < l.length
      · obtain ⟨z, ho⟩ := xagZ hlt
        obtain ⟨t, ht⟩ := xagZ (l := ts) (k := k) (by have := HLEN.out; omega)
        obtain ⟨b, off, rfl, hb, h0, h1⟩ := HC.out k _ ho
        obtain ⟨b', off', rfl, hb', h2⟩ := HD.out k _ ht
        have g0 := (hbw.cell (p := ⟨b, off + k * 2, none⟩) hb).trans h0
        have g1 := (hbw.cell (p := ⟨b, off + k * 2 + 1, none⟩) hb).trans h1
        have g2 := (hbw.cell (p := ⟨b', off' + k, none⟩) hb').trans h2
        have g2a := fun o => xabZ g2 o
        have hlti2 : (k : Int) < (ts.length : Int) := by have := HLEN.out; omega
        have HO := hideP ho
        have HT := hideP ht
        clear ho ht h0 h1 h2
        have bA : ∀ o, Below wr.heap.size wr (wr.alloc o) := fun o => (Below.refl _ wr).alloc (Nat.le_refl _) _
        cases hnb : asT z t
        · go_wp2_with fail
          refine (xj9Z z t _).mono ?_
          rw [hnb]
          rintro e w2 ⟨rfl, hb2'⟩
          have hb2 := xaeZ (bA _) hb2'
          go_wp2
          go_ret
          refine ⟨?_, hbw.trans (hb2.mono hbw.size)⟩
          cases hx : areOf l ts
          · rfl
          · have := xf8Z hx k z t HO.out HT.out
            rw [hnb] at this
            cases this
        · go_wp2_with fail
          refine (xj9Z z t _).mono ?_
          rw [hnb]
          rintro e w2 ⟨rfl, hb2'⟩
          have hb2 := xaeZ (bA _) hb2'
          go_wp2
          go_roundw
          case rel =>
            refine ⟨k + 1, by omega, by go_num, fun j v t' hj h3 h4 => ?_, hbw.trans (hb2.mono hbw.size)⟩
            by_cases e : j = k
            · subst e
              rw [HO.out] at h3
              rw [HT.out] at h4
              cases h3
              cases h4
              exact hnb
            · exact HK.out j v t' (by omega) h3 h4
          case measure => simp [intOf]; omega
      · have hlt' : ¬ (k : Int) < (l.length : Int) := by omega
        go_wp2
        go_ret
        refine ⟨?_, hbw⟩
        have : areOf l ts = true := (areOf_iff l ts).2 ⟨HLEN.out, fun j v t h3 h4 => HK.out j v t (by have := xadZ h3; omega) h3 h4⟩
        rw [this]; rfl
  · have hlen' : ((l.length : Int) != (ts.length : Int)) = true := by simp; omega
    have hne : areOf l ts = false := by
      cases hx : areOf l ts
      · rfl
      · exact absurd (xa6Z hx) hlen
    clear hc hd
    have HN := hideP hne
    clear hne hlen
    go_enter Tryz.func222, Tryz.ntmps222
    go_wp2
    go_ret
    exact ⟨by rw [HN.out]; rfl, Below.refl _ _⟩
theorem xltZ (l : List Val) (ts : List Int) (v u : Value) (w : World) (hl : ValsAt w v l) (hu : IntsAt w u ts) : Calls Tryz.prog 181 #[v, u] w fun e w' => e = .returned (.bool (areOf l ts)) ∧ Below w.heap.size w w' := by
  have HX := hideP (xlhZ l ts v u w hl hu)
  clear hl hu
  go_enter Tryz.func181, Tryz.ntmps181
  go_wp2_with (go_at_call 222; refine HX.out.mono ?_; rintro e w2 ⟨rfl, b2⟩)
  go_ret
  exact ⟨rfl, b2⟩
end Go.Proofs.YtmjjkenblfndgaaGreat


