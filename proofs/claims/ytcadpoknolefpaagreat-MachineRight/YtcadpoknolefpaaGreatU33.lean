/- My texts Mt Mu Mv Mw Mx, joined. -/
import Derived.Test.YtcadpoknolefpaaGreatU7
import Derived.Test.YtcadpoknolefpaaGreatU14
import Derived.Test.YtcadpoknolefpaaGreatU15
import Derived.Test.YtcadpoknolefpaaGreatU21
import Derived.Test.YtcadpoknolefpaaGreatU24
import Derived.Test.YtcadpoknolefpaaGreatU25
import Derived.Test.YtcadpoknolefpaaGreatU27
import Derived.Test.YtcadpoknolefpaaGreatU28
import Derived.Test.YtcadpoknolefpaaGreatU29
import Derived.Test.YtcadpoknolefpaaGreatU30
import Derived.Test.YtcadpoknolefpaaGreatU31
import Derived.Test.YtcadpoknolefpaaGreatU32
/- machine's checker: status, blocks, boxes, depth. -/
namespace Go.Proofs.YtcadpoknolefpaaGreat
open Go.RowKit
set_option linter.unusedSimpArgs false
set_option linter.unusedVariables false
abbrev chkV (pv fv bv iv ov : Value) (M : Mach) : Value := .agg #[fv, bv, iv, ov, .int .i64 M.status, .int .i64 M.trap, pv]
/-- what is said, and no memory is other. -/
def Says (n : Int) (w : World) (e : Ending) (w' : World) : Prop := e = .returned (.int .i64 n) ∧ Below w.heap.size w w'
theorem says_box {w : World} {o : Obj} {n m : Int} (h : n = m) : Says m w (.returned (.int .i64 n)) (w.alloc o) := ⟨by rw [h], (Below.refl _ w).alloc (Nat.le_refl _) _⟩
set_option maxRecDepth 100000 in
set_option maxHeartbeats 2000000 in
theorem ckStatus_any (M : Mach) (pv fv bv iv ov : Value) (w : World) (h1 : ∃ p n c, pv = .slice p n c) (h2 : ∃ p n c, fv = .slice p n c) (h3 : ∃ p n c, bv = .slice p n c) (h4 : ∃ p n c, iv = .slice p n c) (h5 : ∃ p n c, ov = .slice p n c) : Calls Tryz.prog 96 #[chkV pv fv bv iv ov M] w (Says (stErr M) w) := by
  obtain ⟨_, _, _, rfl⟩ := h1
  obtain ⟨_, _, _, rfl⟩ := h2
  obtain ⟨_, _, _, rfl⟩ := h3
  obtain ⟨_, _, _, rfl⟩ := h4
  obtain ⟨_, _, _, rfl⟩ := h5
  obtain ⟨F, B, I, O, st, tr⟩ := M
  by_cases a1 : st < 0
  · go_enter Tryz.func96, Tryz.ntmps96
    have a3 : (st == 3) = false := by simp; omega
    go_wp2
    go_ret
    exact says_box (by simp [stErr]; omega)
  by_cases a2 : 3 < st
  · go_enter Tryz.func96, Tryz.ntmps96
    have a3 : (st == 3) = false := by simp; omega
    go_wp2
    go_ret
    exact says_box (by simp [stErr]; omega)
  by_cases a3 : st = 3
  · subst a3
    by_cases a4 : tr < 1
    · go_enter Tryz.func96, Tryz.ntmps96
      go_wp2
      go_ret
      exact says_box (by simp [stErr]; omega)
    by_cases a5 : 5 < tr
    · go_enter Tryz.func96, Tryz.ntmps96
      go_wp2
      go_ret
      exact says_box (by simp [stErr]; omega)
    · go_enter Tryz.func96, Tryz.ntmps96
      go_wp2
      go_ret
      exact says_box (by simp [stErr]; omega)
  · have a3' : (st == 3) = false := by simp; omega
    by_cases a4 : tr < 0
    · go_enter Tryz.func96, Tryz.ntmps96
      go_wp2
      go_ret
      exact says_box (by simp [stErr]; omega)
    by_cases a5 : 0 < tr
    · go_enter Tryz.func96, Tryz.ntmps96
      go_wp2
      go_ret
      exact says_box (by simp [stErr]; omega)
    · go_enter Tryz.func96, Tryz.ntmps96
      go_wp2
      go_ret
      exact says_box (by simp [stErr]; omega)
set_option maxRecDepth 100000 in
set_option maxHeartbeats 2000000 in
theorem ckDepth_any (M : Mach) (pv bv iv ov : Value) (pf : Option Addr) (cf : Nat) (w : World) (h1 : ∃ p n c, pv = .slice p n c) (h3 : ∃ p n c, bv = .slice p n c) (h4 : ∃ p n c, iv = .slice p n c) (h5 : ∃ p n c, ov = .slice p n c) : Calls Tryz.prog 99 #[chkV pv (.slice pf M.frames.length cf) bv iv ov M] w (Says (depthErr M) w) := by
  obtain ⟨_, _, _, rfl⟩ := h1
  obtain ⟨_, _, _, rfl⟩ := h3
  obtain ⟨_, _, _, rfl⟩ := h4
  obtain ⟨_, _, _, rfl⟩ := h5
  obtain ⟨F, B, I, O, st, tr⟩ := M
  obtain ⟨n, hn⟩ : ∃ n, n = F.length := ⟨_, rfl⟩
  have hd : depthErr ⟨F, B, I, O, st, tr⟩ = if 6 < n then 2 else if n = 0 ∧ st ≠ 2 then 5 else if 0 < n ∧ st = 2 then 1 else 0 := by rw [hn]; rfl
  rw [hd]
  simp only
  rw [← hn]
  clear hn hd
  by_cases a1 : 6 < n
  · have a1' : (6 : Int) < (n : Int) := by omega
    go_enter Tryz.func99, Tryz.ntmps99
    go_wp2
    go_ret
    exact says_box (by simp [a1])
  have a1' : ¬ (6 : Int) < (n : Int) := by omega
  by_cases a2 : n = 0
  · subst a2
    by_cases a3 : st = 2
    · subst a3
      go_enter Tryz.func99, Tryz.ntmps99
      go_wp2
      go_ret
      exact says_box (by simp)
    · have a3' : (st != 2) = true := by simpa using a3
      go_enter Tryz.func99, Tryz.ntmps99
      go_wp2
      go_ret
      exact says_box (by simp [a3])
  · have a2' : ((n : Int) == 0) = false := by simp; omega
    have a2'' : (0 : Int) < (n : Int) := by omega
    by_cases a3 : st = 2
    · subst a3
      go_enter Tryz.func99, Tryz.ntmps99
      go_wp2
      go_ret
      exact says_box (by simp [a1, a2] <;> omega)
    · have a3' : (st == 2) = false := by simpa using a3
      go_enter Tryz.func99, Tryz.ntmps99
      go_wp2
      go_ret
      exact says_box (by simp [a1, a2, a3])
set_option maxRecDepth 100000 in
set_option maxHeartbeats 2000000 in
theorem ckBlocks_any (M : Mach) (pv fv bv iv ov : Value) (w : World) (h1 : ∃ p n c, pv = .slice p n c) (h2 : ∃ p n c, fv = .slice p n c) (hb : BlksAt w bv M.blocks) (h4 : ∃ p n c, iv = .slice p n c) (h5 : ∃ p n c, ov = .slice p n c) : Calls Tryz.prog 97 #[chkV pv fv bv iv ov M] w (Says (blkErr M.blocks) w) := by
  obtain ⟨_, _, _, rfl⟩ := h1
  obtain ⟨_, _, _, rfl⟩ := h2
  obtain ⟨_, _, _, rfl⟩ := h4
  obtain ⟨_, _, _, rfl⟩ := h5
  obtain ⟨pb, cb, hbv, -, -⟩ := id hb
  subst hbv
  have HB : Hid (∀ o, Calls Tryz.prog 120 #[.slice pb M.blocks.length cb] (w.alloc o) fun e w' => e = .returned (.int .i64 (blkErr M.blocks)) ∧ Below (w.alloc o).heap.size (w.alloc o) w') := fun o => bCheck_any M.blocks _ _ (hb.below ((Below.refl _ w).alloc (Nat.le_refl _) _))
  clear hb
  go_enter Tryz.func97, Tryz.ntmps97
  go_wp2_with (go_at_call 120; refine (HB.out _).mono ?_; rintro e w2 ⟨rfl, b2⟩)
  go_ret
  exact ⟨rfl, bthen0 ((Below.refl _ w).alloc (Nat.le_refl _) _) b2⟩
end Go.Proofs.YtcadpoknolefpaaGreat
/- machine's checker: boxes; values and frames that stray. -/
namespace Go.Proofs.YtcadpoknolefpaaGreat
open Go.RowKit
set_option linter.unusedSimpArgs false
set_option linter.unusedVariables false
set_option maxHeartbeats 400000 in
theorem mIsNumber_any (n : Int) (w : World) : Calls Tryz.prog 137 #[.int .i64 n] w fun e w' => e = .returned (.bool (isI32 n)) ∧ w' = w := by
  go_enter Tryz.func137, Tryz.ntmps137
  go_wp2_with (go_at_call 28; refine (wrap_any _ _).mono ?_; rintro e w4 ⟨rfl, hw4⟩; have hw4 := hw4.symm; subst hw4)
  go_ret
  exact ⟨by rw [← wrap_isI32]; rfl, rfl⟩
set_option maxHeartbeats 400000 in
theorem ckBox1_any (n : Int) (w : World) : Calls Tryz.prog 136 #[.int .i64 n] w fun e w' => e = .returned (.bool (!isI32 n)) ∧ w' = w := by
  have hnot : ∀ (x : Bool) (w : World), (Op.unary .not (.bool x)).run Tryz.prog w = .ok (.bool (!x)) w := fun _ _ => rfl
  go_enter Tryz.func136, Tryz.ntmps136
  go_wp2_with (go_at_call 137; refine (mIsNumber_any _ _).mono ?_; rintro e w4 ⟨rfl, hw4⟩; have hw4 := hw4.symm; subst hw4)
  go_ret
  exact ⟨rfl, rfl⟩
theorem containsBox_any (l : List Int) (v : Value) (w : World) (h : IntsAt w v l) : Calls Tryz.prog 106 #[v, .func (.func 136) #[] #[]] w fun e w' => e = .returned (.bool (!l.all isI32)) ∧ Below w.heap.size w w' :=
  containsInts_gen 136 #[] (fun _ => True) isI32 l v w h trivial (fun _ _ _ _ => trivial) (ent_mk Tryz.func136 (by kernel_rfl) rfl) (fun z W _ => (ckBox1_any z W).mono (by rintro e w' ⟨rfl, rfl⟩; exact ⟨rfl, Below.refl _ _⟩))
set_option maxHeartbeats 1000000 in
/-- IndexFunc at a function whose contract is given: whether one is found. -/
theorem indexVals_gen (F : Nat) (caps : Array Value) (I : World → Prop) (q : Val → Bool) (l : List Val) (v : Value) (w : World) (h : ValsAt w v l) (hI : I w) (hkI : ∀ W W', I W → Below W.heap.size W W' → I W') (hE : Ent F)
    (hF : ∀ (z : Val) (W : World), I W → Calls Tryz.prog F (#[.agg #[.bool z.1, .int .i64 z.2]] ++ caps) W fun e w' => e = .returned (.bool (!q z)) ∧ Below W.heap.size W w') :
    Calls Tryz.prog 225 #[v, .func (.func F) #[] caps] w fun e w' => ∃ r, e = .returned (.int .i64 r) ∧ decide (0 ≤ r) = (!l.all q) ∧ Below w.heap.size w w' := by
  obtain ⟨p, cap, rfl, hm, hc⟩ := h
  unfold maxLen at hm
  have HI := hideP hI
  have HKI := hideP hkI
  have HF := hideP hF
  have hEE := fun args W => hE args W
  clear hI hkI hF hE
  go_enter Tryz.func225, Tryz.ntmps225
  go_wp2
  go_loopw [5, 8] (fun _ i wr => ∃ k : Nat, k ≤ l.length ∧ i = .int .i64 k ∧ (∀ o ∈ l.take k, q o = true) ∧ Below w.heap.size w wr) (fun _ i _ => l.length - (intOf i).toNat)
  case atStart => exact ⟨0, Nat.zero_le _, rfl, by simp, Below.refl _ _⟩
  case round =>
    obtain ⟨k, hk, rfl, hok, hbw⟩ := hrel
    have HK := hideP hok
    have HC := hideP hc
    clear hok hc
    by_cases hlt : k < l.length
    · obtain ⟨z, ho⟩ := at_of_lt hlt
      obtain ⟨b, off, rfl, hb, h0, h1⟩ := HC.out k _ ho
      have g0 := (hbw.cell (p := ⟨b, off + k * 2, none⟩) hb).trans h0
      have g1 := (hbw.cell (p := ⟨b, off + k * 2 + 1, none⟩) hb).trans h1
      have HO := hideP ho
      have hi := hideP (HKI.out _ _ HI.out hbw)
      clear ho h0 h1
      cases hnb : q z
      · go_wp2_with fail
        refine (HF.out z wr hi.out).mono ?_
        rw [hnb]
        rintro e w2 ⟨rfl, hb2⟩
        go_wp2
        go_ret
        exact ⟨k, rfl, by rw [all_false HO.out hnb]; simp, hbw.trans (hb2.mono hbw.size)⟩
      · go_wp2_with fail
        refine (HF.out z wr hi.out).mono ?_
        rw [hnb]
        rintro e w2 ⟨rfl, hb2⟩
        go_wp2
        go_roundw
        case rel => exact ⟨k + 1, by omega, by go_num, all_snoc HK.out HO.out hnb, hbw.trans (hb2.mono hbw.size)⟩
        case measure => simp [intOf]; omega
    · have hlt' : ¬ (k : Int) < (l.length : Int) := by omega
      go_wp2
      go_ret
      refine ⟨-1, rfl, ?_, hbw⟩
      have := HK.out
      rw [List.take_of_length_le (by omega)] at this
      rw [all_true this]; decide
set_option maxHeartbeats 1000000 in
theorem containsVals_gen (F : Nat) (caps : Array Value) (I : World → Prop) (q : Val → Bool) (l : List Val) (v : Value) (w : World) (h : ValsAt w v l) (hI : I w) (hkI : ∀ W W', I W → Below W.heap.size W W' → I W') (hE : Ent F)
    (hF : ∀ (z : Val) (W : World), I W → Calls Tryz.prog F (#[.agg #[.bool z.1, .int .i64 z.2]] ++ caps) W fun e w' => e = .returned (.bool (!q z)) ∧ Below W.heap.size W w') :
    Calls Tryz.prog 192 #[v, .func (.func F) #[] caps] w fun e w' => e = .returned (.bool (!l.all q)) ∧ Below w.heap.size w w' := by
  go_enter Tryz.func192, Tryz.ntmps192
  go_wp2_with fail
  refine (indexVals_gen F caps I q l v _ h hI hkI hE hF).mono ?_
  rintro e w2 ⟨r, rfl, hr, hb2⟩
  have HR := hideP hr
  clear hr
  go_wp2
  go_ret
  exact ⟨by rw [← HR.out]; rfl, hb2⟩
set_option maxHeartbeats 1000000 in
/-- IndexFunc at a function whose contract is given: whether one is found. -/
theorem indexFrms_gen (F : Nat) (caps : Array Value) (I : World → Prop) (q : Frm → Bool) (l : List Frm) (v : Value) (w : World) (h : FrmsAt w v l) (hI : I w) (hkI : ∀ W W', I W → Below W.heap.size W W' → I W') (hE : Ent F)
    (hF : ∀ (z : Frm) (lv sv : Value) (W : World), I W → (∃ p n c, lv = .slice p n c) → (∃ p n c, sv = .slice p n c) → Calls Tryz.prog F (#[.agg #[.int .i64 z.fn, .int .i64 z.pc, lv, sv]] ++ caps) W fun e w' => e = .returned (.bool (!q z)) ∧ Below W.heap.size W w') :
    Calls Tryz.prog 191 #[v, .func (.func F) #[] caps] w fun e w' => ∃ r, e = .returned (.int .i64 r) ∧ decide (0 ≤ r) = (!l.all q) ∧ Below w.heap.size w w' := by
  obtain ⟨p, cap, rfl, hm, -, hc⟩ := h
  unfold maxLen at hm
  have HI := hideP hI
  have HKI := hideP hkI
  have HF := hideP hF
  have hEE := fun args W => hE args W
  clear hI hkI hF hE
  go_enter Tryz.func191, Tryz.ntmps191
  go_wp2
  go_loopw [5, 8] (fun _ i wr => ∃ k : Nat, k ≤ l.length ∧ i = .int .i64 k ∧ (∀ o ∈ l.take k, q o = true) ∧ Below w.heap.size w wr) (fun _ i _ => l.length - (intOf i).toNat)
  case atStart => exact ⟨0, Nat.zero_le _, rfl, by simp, Below.refl _ _⟩
  case round =>
    obtain ⟨k, hk, rfl, hok, hbw⟩ := hrel
    have HK := hideP hok
    have HC := hideP hc
    clear hok hc
    by_cases hlt : k < l.length
    · obtain ⟨z, ho⟩ := at_of_lt hlt
      obtain ⟨b, off, lv, sv, rfl, hb, h0, h1, h2, h3, hl, -, hs, -⟩ := HC.out k _ ho
      obtain ⟨pl, cl, hlv, -, -⟩ := hl
      obtain ⟨ps, cs, hsv, -, -⟩ := hs
      subst hlv hsv
      have g0 := (hbw.cell (p := ⟨b, off + k * 4, none⟩) hb).trans h0
      have g1 := (hbw.cell (p := ⟨b, off + k * 4 + 1, none⟩) hb).trans h1
      have g2 := (hbw.cell (p := ⟨b, off + k * 4 + 2, none⟩) hb).trans h2
      have g3 := (hbw.cell (p := ⟨b, off + k * 4 + 3, none⟩) hb).trans h3
      have HO := hideP ho
      have hi := hideP (HKI.out _ _ HI.out hbw)
      clear ho h0 h1 h2 h3
      cases hnb : q z
      · go_wp2_with fail
        refine (HF.out z _ _ wr hi.out ⟨_, _, _, rfl⟩ ⟨_, _, _, rfl⟩).mono ?_
        rw [hnb]
        rintro e w2 ⟨rfl, hb2⟩
        go_wp2
        go_ret
        exact ⟨k, rfl, by rw [all_false HO.out hnb]; simp, hbw.trans (hb2.mono hbw.size)⟩
      · go_wp2_with fail
        refine (HF.out z _ _ wr hi.out ⟨_, _, _, rfl⟩ ⟨_, _, _, rfl⟩).mono ?_
        rw [hnb]
        rintro e w2 ⟨rfl, hb2⟩
        go_wp2
        go_roundw
        case rel => exact ⟨k + 1, by omega, by go_num, all_snoc HK.out HO.out hnb, hbw.trans (hb2.mono hbw.size)⟩
        case measure => simp [intOf]; omega
    · have hlt' : ¬ (k : Int) < (l.length : Int) := by omega
      go_wp2
      go_ret
      refine ⟨-1, rfl, ?_, hbw⟩
      have := HK.out
      rw [List.take_of_length_le (by omega)] at this
      rw [all_true this]; decide
set_option maxHeartbeats 1000000 in
theorem containsFrms_gen (F : Nat) (caps : Array Value) (I : World → Prop) (q : Frm → Bool) (l : List Frm) (v : Value) (w : World) (h : FrmsAt w v l) (hI : I w) (hkI : ∀ W W', I W → Below W.heap.size W W' → I W') (hE : Ent F)
    (hF : ∀ (z : Frm) (lv sv : Value) (W : World), I W → (∃ p n c, lv = .slice p n c) → (∃ p n c, sv = .slice p n c) → Calls Tryz.prog F (#[.agg #[.int .i64 z.fn, .int .i64 z.pc, lv, sv]] ++ caps) W fun e w' => e = .returned (.bool (!q z)) ∧ Below W.heap.size W w') :
    Calls Tryz.prog 139 #[v, .func (.func F) #[] caps] w fun e w' => e = .returned (.bool (!l.all q)) ∧ Below w.heap.size w w' := by
  go_enter Tryz.func139, Tryz.ntmps139
  go_wp2_with fail
  refine (indexFrms_gen F caps I q l v _ h hI hkI hE hF).mono ?_
  rintro e w2 ⟨r, rfl, hr, hb2⟩
  have HR := hideP hr
  clear hr
  go_wp2
  go_ret
  exact ⟨by rw [← HR.out]; rfl, hb2⟩
set_option maxRecDepth 100000 in
set_option maxHeartbeats 2000000 in
theorem ckBoxes_any (M : Mach) (pv fv bv iv ov : Value) (w : World) (h1 : ∃ p n c, pv = .slice p n c) (h2 : ∃ p n c, fv = .slice p n c) (h3 : ∃ p n c, bv = .slice p n c) (hi : IntsAt w iv M.inp) (ho : IntsAt w ov M.out) : Calls Tryz.prog 98 #[chkV pv fv bv iv ov M] w (Says (boxErr M) w) := by
  obtain ⟨p1, n1, c1, rfl⟩ := h1
  obtain ⟨p2, n2, c2, rfl⟩ := h2
  obtain ⟨p3, n3, c3, rfl⟩ := h3
  obtain ⟨pi, ci, hiv, him, -⟩ := id hi
  obtain ⟨po, co, hov, hom, -⟩ := id ho
  subst hiv hov
  unfold maxLen at him hom
  obtain ⟨F, B, I, O, st, tr⟩ := M
  simp only at him hom hi ho ⊢
  by_cases a1 : 10 < I.length
  · have a1' : (10 : Int) < (I.length : Int) := by omega
    go_enter Tryz.func98, Tryz.ntmps98
    go_wp2
    go_ret
    exact says_box (by simp [boxErr, a1])
  have a1' : ¬ (10 : Int) < (I.length : Int) := by omega
  by_cases a2 : 10 < O.length
  · have a2' : (10 : Int) < (O.length : Int) := by omega
    go_enter Tryz.func98, Tryz.ntmps98
    go_wp2
    go_ret
    exact says_box (by simp [boxErr, a2])
  have a2' : ¬ (10 : Int) < (O.length : Int) := by omega
  obtain ⟨W1, hW1⟩ : ∃ W1, w.alloc (.cells #[.slice p2 n2 c2, .slice p3 n3 c3, .slice pi I.length ci, .slice po O.length co, .int .i64 st, .int .i64 tr, .slice p1 n1 c1] 88) = W1 := ⟨_, rfl⟩
  have b1 : Below w.heap.size w W1 := by rw [← hW1]; exact (Below.refl _ w).alloc (Nat.le_refl _) _
  have x1 : W1.heap[w.heap.size]? = some (.cells #[.slice p2 n2 c2, .slice p3 n3 c3, .slice pi I.length ci, .slice po O.length co, .int .i64 st, .int .i64 tr, .slice p1 n1 c1] 88 (0, 0)) := by rw [← hW1]; exact World.alloc_heap_new w _
  have lx := heap_lt x1
  have d2 : W1.cell? ⟨w.heap.size, 2, none⟩ = some (.slice pi I.length ci) := cell_at' x1 2
  have d3 : W1.cell? ⟨w.heap.size, 3, none⟩ = some (.slice po O.length co) := cell_at' x1 3
  have HI := hideP (containsBox_any I _ W1 (hi.below b1))
  have HO : Hid (∀ W, Below W1.heap.size W1 W → Calls Tryz.prog 106 #[.slice po O.length co, .func (.func 136) #[] #[]] W fun e w' => e = .returned (.bool (!O.all isI32)) ∧ Below W.heap.size W w') := fun W hW => containsBox_any O _ W ((ho.below b1).below hW)
  clear hi ho x1
  cases hI : I.all isI32
  · rw [hI] at HI
    go_enter Tryz.func98, Tryz.ntmps98
    go_wp2_with (go_at_call 106; refine HI.out.mono ?_; rintro e w2 ⟨rfl, b2⟩)
    go_ret
    exact ⟨by simp [boxErr, a1, a2, hI], bthen0 b1 b2⟩
  · rw [hI] at HI
    cases hO : O.all isI32
    · rw [hO] at HO
      go_enter Tryz.func98, Tryz.ntmps98
      go_wp2_with (first
        | (go_at_call 106; (with_reducible refine HI.out.mono ?_); rintro e w2 ⟨rfl, b2⟩; have e3 := (b2.cell (p := ⟨w.heap.size, 3, none⟩) lx).trans d3)
        | (go_at_call 106; (with_reducible refine (HO.out _ b2).mono ?_); rintro e w3 ⟨rfl, b3⟩))
      go_ret
      exact ⟨by simp [boxErr, a1, a2, hI, hO], bthen0 (bthen0 b1 b2) b3⟩
    · rw [hO] at HO
      go_enter Tryz.func98, Tryz.ntmps98
      go_wp2_with (first
        | (go_at_call 106; (with_reducible refine HI.out.mono ?_); rintro e w2 ⟨rfl, b2⟩; have e3 := (b2.cell (p := ⟨w.heap.size, 3, none⟩) lx).trans d3)
        | (go_at_call 106; (with_reducible refine (HO.out _ b2).mono ?_); rintro e w3 ⟨rfl, b3⟩))
      go_ret
      exact ⟨by simp [boxErr, a1, a2, hI, hO], bthen0 (bthen0 b1 b2) b3⟩
set_option maxRecDepth 100000 in
set_option maxHeartbeats 1000000 in
theorem ckFunc1_any (p : List Fn) (z : Frm) (lv sv : Value) (pp : Option Addr) (qp bx : Nat) (w : World) (h1 : ∃ p n c, lv = .slice p n c) (h2 : ∃ p n c, sv = .slice p n c) (hc : w.cell? ⟨bx, 6, none⟩ = some (.slice pp p.length qp)) : Calls Tryz.prog 138 #[.agg #[.int .i64 z.fn, .int .i64 z.pc, lv, sv], .pointer (some ⟨bx, 0, none⟩)] w fun e w' => e = .returned (.bool (!inProg p z)) ∧ Below w.heap.size w w' := by
  obtain ⟨p1, n1, c1, rfl⟩ := h1
  obtain ⟨p2, n2, c2, rfl⟩ := h2
  have hca := fun o => cell_old hc o
  by_cases a1 : z.fn < 0
  · go_enter Tryz.func138, Tryz.ntmps138
    go_wp2
    go_ret
    exact ⟨by simp [inProg]; omega, (Below.refl _ w).alloc (Nat.le_refl _) _⟩
  · by_cases a2 : z.fn ≥ (p.length : Int)
    · go_enter Tryz.func138, Tryz.ntmps138
      go_wp2
      go_ret
      exact ⟨by simp [inProg]; omega, (Below.refl _ w).alloc (Nat.le_refl _) _⟩
    · go_enter Tryz.func138, Tryz.ntmps138
      go_wp2
      go_ret
      exact ⟨by simp [inProg]; omega, (Below.refl _ w).alloc (Nat.le_refl _) _⟩
end Go.Proofs.YtcadpoknolefpaaGreat
/- stride's do where it waits. -/
namespace Go.Proofs.YtcadpoknolefpaaGreat
open Go.RowKit
set_option linter.unusedSimpArgs false
set_option linter.unusedVariables false
set_option maxRecDepth 100000 in
set_option maxHeartbeats 2000000 in
theorem do21w (w0 : World) (b : Nat) (pv : Value) (M : Mach) (D : List Frm) (x : Frm) (p : List Fn) (k pc : Nat) (f : Fn) (A : Int) (w : World) (h : Doer w0 w b pv M) (hF : M.frames = D ++ [x]) (hD : D.length ≤ 100) (hp : FnsAt w0 pv p) (hk : p[k]? = some f) (hfn : x.fn = (k : Int)) (hpc : x.pc = (pc : Int)) (hpl : f.2.2.2.length ≤ 1000) (ho : f.2.2.2[pc]? = some (21, A)) (hin : M.inp = []) : Calls Tryz.prog 88 #[.pointer (some ⟨b, 0, none⟩)] w fun e w' => e = .returned (.tuple #[]) ∧ Doer w0 w' b pv { M with status := 1 } := by
  obtain ⟨g, cap, bv, iv, ov, q, c, qb, H⟩ := h.open hF
  have HI := hideP (innermost_raw b g D.length cap w H.fcell hD)
  have hin' : ((M.inp.length : Int) == 0) = true := by simp [hin]
  obtain ⟨pin, cin, hinv⟩ := row_shp H.at_.own.inp
  have HH0 := hideP H
  obtain ⟨pp, qp, hpv, hpm, -⟩ := id hp
  subst hpv
  have HP := hideP hp
  have hpcl := lt_of_at ho
  have hkl := lt_of_at hk
  have HO := hideP ho
  have HK := hideP hk
  have HFN := hideP hfn
  have HPC := hideP hpc
  clear h hF H hp ho hin hk hfn hpc
  go_enter Tryz.func88, Tryz.ntmps88
  go_wp2_with fail
  refine HI.out.mono ?_
  rintro e w2 ⟨rfl, b2⟩
  have H2 := HH0.out.below b2
  have c0 := H2.c0
  have c1 := H2.c1
  rw [HFN.out] at c0
  rw [HPC.out] at c1
  have c6 := H2.at_.cells.2.2.2.2.2.2
  obtain ⟨pp', qp', hpe, -, hpc⟩ := id (HP.out.below H2.at_.bel)
  cases hpe
  obtain ⟨pb, po, f0, f1, f2, f3, hpp, hplt, -, -, -, y3, hfn⟩ := hpc k f HK.out
  subst hpp
  obtain ⟨-, -, -, hops⟩ := hfn
  obtain ⟨p3, q3, he3, -, hoc⟩ := id hops
  subst he3
  obtain ⟨ob, oo, hob, holt, o0, o1⟩ := hoc pc _ HO.out
  subst hob
  have hkli : (k : Int) < (p.length : Int) := by omega
  have hpcli : (pc : Int) < (f.2.2.2.length : Int) := by omega
  have c0a := fun o => cell_old c0 o
  have c1a := fun o => cell_old c1 o
  have c6a := fun o => cell_old c6 o
  have y3a := fun o => cell_old y3 o
  have o0a := fun o => cell_old o0 o
  have o1a := fun o => cell_old o1 o
  clear hpc hoc hops
  go_wp2_with fail
  go_region
  obtain ⟨W3, hW3⟩ : ∃ W3, (w2.alloc (.cells #[.int .i64 21, .int .i64 A] 43)).drew = W3 := ⟨_, rfl⟩
  have b3 : Below w2.heap.size w2 W3 := by rw [← hW3]; exact ((Below.refl _ w2).alloc (Nat.le_refl _) _).drew
  have x3 : W3.heap[w2.heap.size]? = some (.cells #[.int .i64 21, .int .i64 A] 43 (0, 0)) := by rw [← hW3]; exact World.alloc_heap_new w2 _
  rw [hW3]
  clear hW3 c0 c1 c6 y3 o0 o1 c0a c1a c6a y3a o0a o1a
  have H3 := H2.below b3
  have e0 : W3.cell? ⟨w2.heap.size, 0, none⟩ = some (.int .i64 21) := cell_at' x3 0
  have e1 : W3.cell? ⟨w2.heap.size, 1, none⟩ = some (.int .i64 A) := cell_at' x3 1
  have d1 := H3.c1
  rw [HPC.out] at d1
  have z1 : W3.frozen? ⟨g, D.length * 4 + 1, none⟩ = false := by obtain ⟨cur, hh⟩ := H3.gb; exact Lib.frozen_of_heap hh _
  have hne : ¬ w2.heap.size = g := by obtain ⟨cur, hh⟩ := H2.gb; have := heap_lt hh; omega
  have hne' : ¬ g = w2.heap.size := fun e => hne e.symm
  have i2 := H3.at_.cells.2.2.1
  rw [hinv] at i2
  have z4 := Lib.frozen_of_heap H3.at_.cell 4
  have j4 := H3.at_.cells.2.2.2.2.1
  have HS := hideP H3
  clear H2 H3 x3
  go_wp2_with fail
  first | go_end0 | refine bodyPost_ret (results_none rfl _ _ _) rfl ?_
  exact ⟨rfl, HS.out.at_.setSt 1⟩
end Go.Proofs.YtcadpoknolefpaaGreat
/- stride's do at a right machine: it does as the plain op says, or panics with the reason. -/
namespace Go.Proofs.YtcadpoknolefpaaGreat
open Go.RowKit
set_option linter.unusedSimpArgs false
set_option linter.unusedVariables false
def DoRet (p : List Fn) (M R : Mach) : Prop := ∀ (w0 W : World) (b : Nat) (pv : Value), FnsAt w0 pv p → Doer w0 W b pv M → Calls Tryz.prog 88 #[.pointer (some ⟨b, 0, none⟩)] W fun e w' => e = .returned (.tuple #[]) ∧ Fin w0 w' b pv R
def DoTrap (p : List Fn) (M : Mach) (why : Int) : Prop := ∀ (w0 W : World) (b : Nat) (pv : Value), FnsAt w0 pv p → Doer w0 W b pv M → Calls Tryz.prog 88 #[.pointer (some ⟨b, 0, none⟩)] W fun e w' => e = .panicked [{ v := .iface 117 (.int .i64 why), recovered := false }] ∧ Below w0.heap.size w0 w'
structure AtDo (p : List Fn) (M : Mach) (D : List Frm) (x : Frm) (k pc : Nat) (f : Fn) (c A : Int) : Prop where
  fr : M.frames = D ++ [x]
  dl : D.length ≤ 100
  at_ : p[k]? = some f
  fn : x.fn = (k : Int)
  pcn : x.pc = (pc : Int)
  len : f.2.2.2.length ≤ 1000
  op : f.2.2.2[pc]? = some (c, A)
  stk : x.stk.length ≤ 8
section
variable {p : List Fn} {M : Mach} {D : List Frm} {x : Frm} {k pc : Nat} {f : Fn} {A : Int}
theorem fin_of {w0 W : World} {b : Nat} {pv : Value} {F : Nat} {args : Array Value} {R : Mach} (h : Calls Tryz.prog F args W fun e w' => e = .returned (.tuple #[]) ∧ Doer w0 w' b pv R) : Calls Tryz.prog F args W fun e w' => e = .returned (.tuple #[]) ∧ Fin w0 w' b pv R := h.mono fun e w' hh => ⟨hh.1, hh.2.fin⟩
theorem dr1 (h : AtDo p M D x k pc f 1 A) : DoRet p M { M with frames := D ++ [{ x with pc := (pc : Int) + 1, stk := x.stk ++ [(false, A)] }] } := fun w0 W b pv hp hd =>
  do1 w0 b pv M D x p k pc f A W hd h.fr h.dl hp h.at_ h.fn h.pcn h.len h.op _ fun W' hd' => fin_of (mv1 w0 b pv _ D _ A W' hd' rfl h.dl (by have := h.stk; simp; omega))
theorem dr18 (h : AtDo p M D x k pc f 18 A) : DoRet p M { M with frames := D ++ [{ x with pc := (pc : Int) + 1, stk := x.stk ++ [(true, 0)] }] } := fun w0 W b pv hp hd =>
  do18 w0 b pv M D x p k pc f A W hd h.fr h.dl hp h.at_ h.fn h.pcn h.len h.op _ fun W' hd' => fin_of (mv18 w0 b pv _ D _ A W' hd' rfl h.dl (by have := h.stk; simp; omega))
theorem dr2 (h : AtDo p M D x k pc f 2 A) {r : List Val} {v : Val} (hs : x.stk = r ++ [v]) : DoRet p M { M with frames := D ++ [{ x with pc := (pc : Int) + 1, stk := r }] } := fun w0 W b pv hp hd =>
  do2 w0 b pv M D x p k pc f A W hd h.fr h.dl hp h.at_ h.fn h.pcn h.len h.op _ fun W' hd' => fin_of (mv2 w0 b pv _ D _ r v A W' hd' rfl h.dl (by have := h.stk; simp; omega) hs)
theorem dr3 (h : AtDo p M D x k pc f 3 A) {r : List Val} {v : Val} (hs : x.stk = r ++ [v]) : DoRet p M { M with frames := D ++ [{ x with pc := (pc : Int) + 1, stk := r ++ [v, v] }] } := fun w0 W b pv hp hd =>
  do3 w0 b pv M D x p k pc f A W hd h.fr h.dl hp h.at_ h.fn h.pcn h.len h.op _ fun W' hd' => fin_of (mv3 w0 b pv _ D _ r v A W' hd' rfl h.dl (by have := h.stk; simp; omega) hs)
theorem dr4 (h : AtDo p M D x k pc f 4 A) {r : List Val} {a v : Val} (hs : x.stk = r ++ [a, v]) : DoRet p M { M with frames := D ++ [{ x with pc := (pc : Int) + 1, stk := r ++ [v, a] }] } := fun w0 W b pv hp hd =>
  do4 w0 b pv M D x p k pc f A W hd h.fr h.dl hp h.at_ h.fn h.pcn h.len h.op _ fun W' hd' => fin_of (mv4 w0 b pv _ D _ r a v A W' hd' rfl h.dl (by have := h.stk; simp; omega) hs)
theorem dr5 (h : AtDo p M D x k pc f 5 A) {r : List Val} {a v : Val} (hs : x.stk = r ++ [a, v]) : DoRet p M { M with frames := D ++ [{ x with pc := (pc : Int) + 1, stk := r ++ [(false, wrap32 (a.2 + v.2))] }] } := fun w0 W b pv hp hd =>
  do5 w0 b pv M D x p k pc f A W hd h.fr h.dl hp h.at_ h.fn h.pcn h.len h.op _ fun W' hd' => fin_of (rk5 w0 b pv _ D _ r a v W' hd' rfl h.dl (by have := h.stk; simp; omega) hs)
theorem dr6 (h : AtDo p M D x k pc f 6 A) {r : List Val} {a v : Val} (hs : x.stk = r ++ [a, v]) : DoRet p M { M with frames := D ++ [{ x with pc := (pc : Int) + 1, stk := r ++ [(false, wrap32 (a.2 - v.2))] }] } := fun w0 W b pv hp hd =>
  do6 w0 b pv M D x p k pc f A W hd h.fr h.dl hp h.at_ h.fn h.pcn h.len h.op _ fun W' hd' => fin_of (rk6 w0 b pv _ D _ r a v W' hd' rfl h.dl (by have := h.stk; simp; omega) hs)
theorem dr7 (h : AtDo p M D x k pc f 7 A) {r : List Val} {a v : Val} (hs : x.stk = r ++ [a, v]) : DoRet p M { M with frames := D ++ [{ x with pc := (pc : Int) + 1, stk := r ++ [(false, wrap32 (a.2 * v.2))] }] } := fun w0 W b pv hp hd =>
  do7 w0 b pv M D x p k pc f A W hd h.fr h.dl hp h.at_ h.fn h.pcn h.len h.op _ fun W' hd' => fin_of (rk7 w0 b pv _ D _ r a v W' hd' rfl h.dl (by have := h.stk; simp; omega) hs)
theorem dr8 {j : Nat} (h : AtDo p M D x k pc f 8 (j : Int)) {v : Val} (hv : x.loc[j]? = some v) : DoRet p M { M with frames := D ++ [{ x with pc := (pc : Int) + 1, stk := x.stk ++ [v] }] } := fun w0 W b pv hp hd =>
  do8 w0 b pv M D x p k pc f (j : Int) W hd h.fr h.dl hp h.at_ h.fn h.pcn h.len h.op _ fun W' hd' => fin_of (mv8 w0 b pv _ D _ j v W' hd' rfl h.dl (by have := h.stk; simp; omega) hv)
theorem dr9 {j : Nat} (h : AtDo p M D x k pc f 9 (j : Int)) {u v : Val} {r : List Val} (hv : x.loc[j]? = some u) (hs : x.stk = r ++ [v]) : DoRet p M { M with frames := D ++ [{ x with pc := (pc : Int) + 1, loc := x.loc.set j v, stk := r }] } := fun w0 W b pv hp hd =>
  do9 w0 b pv M D x p k pc f (j : Int) W hd h.fr h.dl hp h.at_ h.fn h.pcn h.len h.op _ fun W' hd' => fin_of (mv9 w0 b pv _ D _ j u v r W' hd' rfl h.dl (by have := h.stk; simp; omega) hv hs)
theorem dr10 (h : AtDo p M D x k pc f 10 A) : DoRet p M { M with frames := D ++ [{ x with pc := A }] } := fun w0 W b pv hp hd =>
  do10 w0 b pv M D x p k pc f A W hd h.fr h.dl hp h.at_ h.fn h.pcn h.len h.op _ fun W' hd' => fin_of (go10 w0 b pv { M with frames := D ++ [{ x with pc := (pc : Int) + 1 }] } D { x with pc := (pc : Int) + 1 } A W' hd' rfl h.dl (by have := h.stk; simp; omega))
theorem dr11z (h : AtDo p M D x k pc f 11 A) {r : List Val} {v : Val} (hs : x.stk = r ++ [v]) (hz : v.2 = 0) : DoRet p M { M with frames := D ++ [{ x with pc := A, stk := r }] } := fun w0 W b pv hp hd =>
  do11 w0 b pv M D x p k pc f A W hd h.fr h.dl hp h.at_ h.fn h.pcn h.len h.op _ fun W' hd' => fin_of (go11z w0 b pv { M with frames := D ++ [{ x with pc := (pc : Int) + 1 }] } D { x with pc := (pc : Int) + 1 } A r v W' hd' rfl h.dl (by have := h.stk; simp; omega) hs hz)
theorem dr11n (h : AtDo p M D x k pc f 11 A) {r : List Val} {v : Val} (hs : x.stk = r ++ [v]) (hz : v.2 ≠ 0) : DoRet p M { M with frames := D ++ [{ x with pc := (pc : Int) + 1, stk := r }] } := fun w0 W b pv hp hd =>
  do11 w0 b pv M D x p k pc f A W hd h.fr h.dl hp h.at_ h.fn h.pcn h.len h.op _ fun W' hd' => fin_of (go11n w0 b pv _ D _ A r v W' hd' rfl h.dl (by have := h.stk; simp; omega) hs hz)
theorem dr12 {j n : Nat} (h : AtDo p M D x k pc f 12 (j : Int)) {g : Fn} {s args : List Val} (h6 : M.frames.length ≠ 6) (hs : x.stk = s ++ args) (hg : p[j]? = some g) (hP : g.1 = (n : Int)) (hal : args.length = n) (hn : n ≤ g.2.1.length) (hL : g.2.1.length ≤ 90) : DoRet p M { M with frames := D ++ [{ x with pc := (pc : Int) + 1, stk := s }, { fn := (j : Int), pc := 0, loc := args ++ (freshL g.2.1).drop n, stk := [] }] } := fun w0 W b pv hp hd =>
  do12 w0 b pv M D x p k pc f (j : Int) W hd h.fr h.dl hp h.at_ h.fn h.pcn h.len h.op _ fun W' hd' => go12 w0 b pv _ (j : Int) W' hd' _ fun W'' hd'' =>
    fin_of (call_ok w0 b pv _ D _ p j n g s args W'' hd'' rfl h.dl (by have := h.fr; rw [this] at h6; simpa using h6) hs (by have := h.stk; simp; omega) hp hg hP hal hn hL)
theorem dr12t (h : AtDo p M D x k pc f 12 A) (h6 : M.frames.length = 6) : DoTrap p M 4 := fun w0 W b pv hp hd =>
  do12p w0 b pv M D x p k pc f A W hd h.fr h.dl hp h.at_ h.fn h.pcn h.len h.op 4 _ fun W' hd' => go12p w0 b pv _ A 4 W' hd' _ fun W'' hd'' => call_trap w0 b pv _ W'' hd'' A (by have := h.fr; rw [this] at h6; simpa using h6)
theorem dr13d (h : AtDo p M D x k pc f 13 A) (h0 : D.length = 0) : DoRet p M { M with frames := [], status := 2 } := fun w0 W b pv hp hd =>
  do13 w0 b pv M D x p k pc f A W hd h.fr h.dl hp h.at_ h.fn h.pcn h.len h.op _ fun W' hd' => go13 w0 b pv _ A W' hd' _ fun W'' hd'' => fin_of (ret_done w0 b pv { M with frames := D ++ [{ x with pc := (pc : Int) + 1 }] } D { x with pc := (pc : Int) + 1 } W'' hd'' rfl h.dl (by have := h.stk; simp; omega) h0)
theorem dr13 (h : AtDo p M D x k pc f 13 A) {D' : List Frm} {y : Frm} (h0 : D = D' ++ [y]) (hy : y.stk.length ≤ 90) : DoRet p M { M with frames := D' ++ [{ y with stk := y.stk ++ x.stk }] } := fun w0 W b pv hp hd =>
  do13 w0 b pv M D x p k pc f A W hd h.fr h.dl hp h.at_ h.fn h.pcn h.len h.op _ fun W' hd' => go13 w0 b pv _ A W' hd' _ fun W'' hd'' => fin_of (ret_on w0 b pv { M with frames := D ++ [{ x with pc := (pc : Int) + 1 }] } D { x with pc := (pc : Int) + 1 } D' y W'' hd'' rfl h.dl (by have := h.stk; simp; omega) h0 hy)
theorem dr14 (h : AtDo p M D x k pc f 14 A) {r : List Val} {v : Val} (hs : x.stk = r ++ [v]) (hv : isI32 v.2 = true) (he : newErr M.blocks v.2 = 0) : DoRet p M { M with frames := D ++ [{ x with pc := (pc : Int) + 1, stk := r ++ [(true, (M.blocks.length : Int) + 1)] }], blocks := newL M.blocks v.2 } := fun w0 W b pv hp hd => by
  have e1 : newR M.blocks v.2 = newL M.blocks v.2 := by simp [newR, he]
  have e2 : newRef M.blocks v.2 = (M.blocks.length : Int) + 1 := by simp [newRef, he]
  rw [← e1, ← e2]
  have hi : -9223372036854775808 ≤ v.2 ∧ v.2 ≤ 9223372036854775807 := by simp [isI32] at hv; omega
  exact do14 w0 b pv M D x p k pc f A W hd h.fr h.dl hp h.at_ h.fn h.pcn h.len h.op _ fun W' hd' => ub14 w0 b pv _ W' hd' _ fun W'' hd'' => fin_of (nb_ok w0 b pv _ D _ r v W'' hd'' rfl h.dl (by have := h.stk; simp; omega) hs hi he)
theorem dr14t (h : AtDo p M D x k pc f 14 A) {r : List Val} {v : Val} (hs : x.stk = r ++ [v]) (hv : isI32 v.2 = true) (he : newErr M.blocks v.2 ≠ 0) : DoTrap p M 3 := fun w0 W b pv hp hd => by
  have hi : -9223372036854775808 ≤ v.2 ∧ v.2 ≤ 9223372036854775807 := by simp [isI32] at hv; omega
  exact do14p w0 b pv M D x p k pc f A W hd h.fr h.dl hp h.at_ h.fn h.pcn h.len h.op 3 _ fun W' hd' => ub14p w0 b pv _ 3 W' hd' _ fun W'' hd'' => nb_trap w0 b pv _ D _ r v W'' hd'' rfl h.dl (by have := h.stk; simp; omega) hs hi he
theorem dr15 (h : AtDo p M D x k pc f 15 A) {r : List Val} {a v : Val} (hs : x.stk = r ++ [a, v]) (ha : -9223372036854775808 ≤ a.2 ∧ a.2 ≤ 9223372036854775807) (he : placeErr M.blocks a.2 v.2 = 0) : DoRet p M { M with frames := D ++ [{ x with pc := (pc : Int) + 1, stk := r ++ [(false, getL M.blocks a.2 v.2)] }] } := fun w0 W b pv hp hd => by
  have e1 : getR M.blocks a.2 v.2 = getL M.blocks a.2 v.2 := by simp [getR, he]
  rw [← e1]
  exact do15 w0 b pv M D x p k pc f A W hd h.fr h.dl hp h.at_ h.fn h.pcn h.len h.op _ fun W' hd' => fin_of (ub15o w0 b pv _ D _ r a v W' hd' rfl h.dl (by have := h.stk; simp; omega) hs ha he)
theorem dr15n (h : AtDo p M D x k pc f 15 A) {r : List Val} {a v : Val} (hs : x.stk = r ++ [a, v]) (ha : -9223372036854775808 ≤ a.2 ∧ a.2 ≤ 9223372036854775807) (he : placeErr M.blocks a.2 v.2 = 5) : DoTrap p M 1 := fun w0 W b pv hp hd =>
  do15p w0 b pv M D x p k pc f A W hd h.fr h.dl hp h.at_ h.fn h.pcn h.len h.op 1 _ fun W' hd' => ub15n w0 b pv _ D _ r a v W' hd' rfl h.dl (by have := h.stk; simp; omega) hs ha he
theorem dr15i (h : AtDo p M D x k pc f 15 A) {r : List Val} {a v : Val} (hs : x.stk = r ++ [a, v]) (ha : -9223372036854775808 ≤ a.2 ∧ a.2 ≤ 9223372036854775807) (he : placeErr M.blocks a.2 v.2 ≠ 0 ∧ placeErr M.blocks a.2 v.2 ≠ 5) : DoTrap p M 2 := fun w0 W b pv hp hd =>
  do15p w0 b pv M D x p k pc f A W hd h.fr h.dl hp h.at_ h.fn h.pcn h.len h.op 2 _ fun W' hd' => ub15i w0 b pv _ D _ r a v W' hd' rfl h.dl (by have := h.stk; simp; omega) hs ha he
theorem dr16 (h : AtDo p M D x k pc f 16 A) {r : List Val} {c a v : Val} (hs : x.stk = r ++ [c, a, v]) (ha : -9223372036854775808 ≤ c.2 ∧ c.2 ≤ 9223372036854775807) (he : setErr M.blocks c.2 a.2 v.2 = 0) : DoRet p M { M with frames := D ++ [{ x with pc := (pc : Int) + 1, stk := r }], blocks := setL M.blocks c.2 a.2 v.2 } := fun w0 W b pv hp hd => by
  have e1 : setR M.blocks c.2 a.2 v.2 = setL M.blocks c.2 a.2 v.2 := by simp [setR, he]
  rw [← e1]
  exact do16 w0 b pv M D x p k pc f A W hd h.fr h.dl hp h.at_ h.fn h.pcn h.len h.op _ fun W' hd' => fin_of (ub16o w0 b pv _ D _ r c a v W' hd' rfl h.dl (by have := h.stk; simp; omega) hs ha he)
theorem dr16n (h : AtDo p M D x k pc f 16 A) {r : List Val} {c a v : Val} (hs : x.stk = r ++ [c, a, v]) (ha : -9223372036854775808 ≤ c.2 ∧ c.2 ≤ 9223372036854775807) (he : setErr M.blocks c.2 a.2 v.2 = 5) : DoTrap p M 1 := fun w0 W b pv hp hd =>
  do16p w0 b pv M D x p k pc f A W hd h.fr h.dl hp h.at_ h.fn h.pcn h.len h.op 1 _ fun W' hd' => ub16n w0 b pv _ D _ r c a v W' hd' rfl h.dl (by have := h.stk; simp; omega) hs ha he
theorem dr16i (h : AtDo p M D x k pc f 16 A) {r : List Val} {c a v : Val} (hs : x.stk = r ++ [c, a, v]) (ha : -9223372036854775808 ≤ c.2 ∧ c.2 ≤ 9223372036854775807) (he : setErr M.blocks c.2 a.2 v.2 ≠ 0 ∧ setErr M.blocks c.2 a.2 v.2 ≠ 5) : DoTrap p M 2 := fun w0 W b pv hp hd =>
  do16p w0 b pv M D x p k pc f A W hd h.fr h.dl hp h.at_ h.fn h.pcn h.len h.op 2 _ fun W' hd' => ub16i w0 b pv _ D _ r c a v W' hd' rfl h.dl (by have := h.stk; simp; omega) hs ha he
theorem dr17 (h : AtDo p M D x k pc f 17 A) {r : List Val} {v : Val} {j : Nat} {bb : List Int} (hs : x.stk = r ++ [v]) (hz : v.2 = (j : Int) + 1) (hj : M.blocks[j]? = some bb) (h8 : M.blocks.length ≤ 8) : DoRet p M { M with frames := D ++ [{ x with pc := (pc : Int) + 1, stk := r ++ [(false, (bb.length : Int))] }] } := fun w0 W b pv hp hd =>
  do17 w0 b pv M D x p k pc f A W hd h.fr h.dl hp h.at_ h.fn h.pcn h.len h.op _ fun W' hd' => fin_of (ub17o w0 b pv _ D _ r v j bb W' hd' rfl h.dl (by have := h.stk; simp; omega) hs hz hj h8)
theorem dr17t (h : AtDo p M D x k pc f 17 A) {r : List Val} {v : Val} (hs : x.stk = r ++ [v]) (hz : v.2 = 0) : DoTrap p M 1 := fun w0 W b pv hp hd =>
  do17p w0 b pv M D x p k pc f A W hd h.fr h.dl hp h.at_ h.fn h.pcn h.len h.op 1 _ fun W' hd' => ub17t w0 b pv _ D _ r v W' hd' rfl h.dl (by have := h.stk; simp; omega) hs hz
theorem dr19 (h : AtDo p M D x k pc f 19 A) {r : List Val} {v : Val} (hs : x.stk = r ++ [v]) : DoRet p M { M with frames := D ++ [{ x with pc := (pc : Int) + 1, stk := r ++ [(false, if v.2 = 0 then 1 else 0)] }] } := fun w0 W b pv hp hd => by
  by_cases hz : v.2 = 0
  · rw [if_pos hz]
    exact do19 w0 b pv M D x p k pc f A W hd h.fr h.dl hp h.at_ h.fn h.pcn h.len h.op _ fun W' hd' => fin_of (ub19z w0 b pv _ D _ r v W' hd' rfl h.dl (by have := h.stk; simp; omega) hs hz)
  · rw [if_neg hz]
    exact do19 w0 b pv M D x p k pc f A W hd h.fr h.dl hp h.at_ h.fn h.pcn h.len h.op _ fun W' hd' => fin_of (ub19n w0 b pv _ D _ r v W' hd' rfl h.dl (by have := h.stk; simp; omega) hs hz)
theorem dr20 (h : AtDo p M D x k pc f 20 A) {r : List Val} {v : Val} (hs : x.stk = r ++ [v]) (ho : M.out.length < 10) : DoRet p M { M with frames := D ++ [{ x with pc := (pc : Int) + 1, stk := r }], out := M.out ++ [v.2] } := fun w0 W b pv hp hd =>
  do20 w0 b pv M D x p k pc f A W hd h.fr h.dl hp h.at_ h.fn h.pcn h.len h.op _ fun W' hd' => fin_of (sd_ok w0 b pv _ D _ r v W' hd' rfl h.dl (by have := h.stk; simp; omega) hs ho)
theorem dr20t (h : AtDo p M D x k pc f 20 A) (ho : M.out.length = 10) : DoTrap p M 5 := fun w0 W b pv hp hd =>
  do20p w0 b pv M D x p k pc f A W hd h.fr h.dl hp h.at_ h.fn h.pcn h.len h.op 5 _ fun W' hd' => sd_trap w0 b pv _ D _ W' hd' rfl h.dl (by have := h.stk; simp; omega) ho
theorem dr21 (h : AtDo p M D x k pc f 21 A) {n : Int} {I : List Int} (hi : M.inp = n :: I) (hil : M.inp.length ≤ 100) : DoRet p M { M with frames := D ++ [{ x with pc := (pc : Int) + 1, stk := x.stk ++ [(false, n)] }], inp := I } := fun w0 W b pv hp hd =>
  do21 w0 b pv M D x p k pc f A W hd h.fr h.dl hp h.at_ h.fn h.pcn h.len h.op (by rw [hi]; simp) _ fun W' hd' => rc_any w0 b pv _ D _ n I W' hd' rfl h.dl (by have := h.stk; simp; omega) hi hil
theorem dr21w (h : AtDo p M D x k pc f 21 A) (hi : M.inp = []) : DoRet p M { M with status := 1 } := fun w0 W b pv hp hd =>
  fin_of (do21w w0 b pv M D x p k pc f A W hd h.fr h.dl hp h.at_ h.fn h.pcn h.len h.op hi)
end
theorem stk_one {l : List Val} (h : 1 ≤ l.length) : l = cutV l 1 ++ [topV l 0] := by
  rw [← drop_one h]; exact (List.take_append_drop _ _).symm
theorem stk_two {l : List Val} (h : 2 ≤ l.length) : l = cutV l 2 ++ [topV l 1, topV l 0] := by
  rw [← drop_two h]; exact (List.take_append_drop _ _).symm
theorem drop_three {l : List Val} (h : 3 ≤ l.length) : l.drop (l.length - 3) = [topV l 2, topV l 1, topV l 0] := by
  apply List.ext_getElem?
  intro i
  rw [List.getElem?_drop]
  match i with
  | 0 =>
    unfold topV
    simp [List.getD_eq_getElem?_getD, List.getElem?_eq_getElem (show l.length - 3 < l.length by omega), List.getElem?_eq_getElem (show l.length - 1 - 2 < l.length by omega), show l.length - 1 - 2 = l.length - 3 by omega]
  | 1 =>
    unfold topV
    simp [List.getD_eq_getElem?_getD, List.getElem?_eq_getElem (show l.length - 1 - 1 < l.length by omega), show l.length - 3 + 1 = l.length - 1 - 1 by omega]
  | 2 =>
    unfold topV
    simp [List.getD_eq_getElem?_getD, List.getElem?_eq_getElem (show l.length - 1 < l.length by omega), show l.length - 3 + 2 = l.length - 1 by omega]
  | i + 3 => rw [List.getElem?_eq_none (by omega)]; simp
theorem stk_three {l : List Val} (h : 3 ≤ l.length) : l = cutV l 3 ++ [topV l 2, topV l 1, topV l 0] := by
  rw [← drop_three h]; exact (List.take_append_drop _ _).symm
end Go.Proofs.YtcadpoknolefpaaGreat
/- stride.Do at a right machine: what the plain step says. -/
namespace Go.Proofs.YtcadpoknolefpaaGreat
open Go.RowKit
set_option linter.unusedSimpArgs false
set_option linter.unusedVariables false
theorem ent_short {p : List Fn} {e : Nat → Nat → Option (List Int)} (he : AllFit p e) {k : Nat} {f : Fn} (hf : p[k]? = some f) {pc : Nat} {s : List Int} (hs : e k pc = some s) : s.length ≤ 8 :=
  fits_short (he k f hf).1 ((least_come (he k f hf) pc).1 ⟨s, hs⟩) hs
theorem okFn_at {p : List Fn} (hp : progErr p = 0) {f : Fn} (hf : f ∈ p) {o : Int × Int} (ho : o ∈ f.2.2.2) : OkOp p f o ∧ f.2.2.2.length ≤ 40 ∧ isI32 o.2 = true ∧ ∀ o ∈ f.2.2.2, badTo f.2.2.2.length o = false := by
  have hfn := okFn hp hf
  obtain ⟨hce, _, hbad⟩ := flowErr_zero hfn.flow
  obtain ⟨c1, c2⟩ := codeErr_zero _ hce
  have hchk := chk_zero (c2 o ho)
  exact ⟨hfn.ops o ho, c1, by simp [isI32]; omega, hbad⟩
theorem rightF_op {p : List Fn} {e : Nat → Nat → Option (List Int)} {nb k : Nat} {f : Fn} {x : Frm} {next : Option Int} (he : AllFit p e) (h : RightF p e nb next x k f) : (∃ o, o ∈ f.2.2.2) ∧ x.stk.length ≤ 8 := by
  cases next with
  | none =>
    obtain ⟨pc, s, o, out, h1, h2, h3, h4, _⟩ := inner_go he h
    exact ⟨⟨o, List.mem_of_getElem? h4⟩, by rw [areOf_length h3]; exact ent_short he h.at_ h2⟩
  | some g =>
    obtain ⟨pc, s0, s, hh, h3, h4, h5, h6, h7, h8, h9⟩ := h.outer g rfl
    refine ⟨⟨_, List.mem_of_getElem? h6⟩, ?_⟩
    rw [areOf_length h9]
    have := ent_short he h.at_ h7
    split
    · rw [List.length_dropLast]; omega
    · exact this
theorem right_small {p : List Fn} {e : Nat → Nat → Option (List Int)} {m : Mach} (hp : progErr p = 0) (he : AllFit p e) (h : RightM p e m) : SmallM m ∧ ∀ x ∈ m.frames, x.stk.length ≤ 8 := by
  obtain ⟨b1, b2, b3⟩ := blkErr_zero h.blocks
  have key : ∀ x ∈ m.frames, x.loc.length ≤ 6 ∧ x.stk.length ≤ 8 := fun x hx => by
    obtain ⟨i, hi⟩ := List.getElem?_of_mem hx
    obtain ⟨k, f, hr⟩ := h.each i x hi
    obtain ⟨⟨o, ho⟩, hs⟩ := rightF_op he hr
    refine ⟨?_, hs⟩
    rw [areOf_length hr.loc]
    exact (okFn_at hp (List.mem_of_getElem? hr.at_) ho).1.own.1
  refine ⟨⟨h.depth.1, fun x hx => by have := key x hx; omega, b1, fun b hb => ?_, h.inp.1, h.out.1⟩, fun x hx => (key x hx).2⟩
  obtain ⟨i, hi⟩ := List.getElem?_of_mem hb
  have := cellsN_mem hi
  omega
/-- all that is known of the op that is next. -/
theorem at_op {p : List Fn} {e : Nat → Nat → Option (List Int)} {m : Mach} (hp : progErr p = 0) (he : AllFit p e) (h : RightM p e m) (hs : m.status = 0 ∨ m.status = 1) {x : Frm} {k : Nat} {f : Fn} {o : Int × Int} (hx : m.frames.getLast? = some x) (hk : x.fn = (k : Int)) (hf : p[k]? = some f) (ho : f.2.2.2[x.pc.toNat]? = some o) :
    ∃ pc : Nat, AtDo p m m.frames.dropLast x k pc f o.1 o.2 ∧ OkOp p f o ∧ (∀ o ∈ f.2.2.2, badTo f.2.2.2.length o = false) ∧ ((o.1 = 21 ∧ m.inp = []) ∨ (¬ (o.1 = 21 ∧ m.inp = []) ∧ ∃ s out, AtOp p e m x k f pc s out o)) := by
  have hne : m.frames ≠ [] := fun hf => by have := h.depth.2.1 hf; omega
  have hsp := last_split hx
  have hxi : m.frames[m.frames.length - 1]? = some x := by rw [← List.getLast?_eq_getElem?]; exact hx
  have hpos : 0 < m.frames.length := List.length_pos_iff.2 hne
  obtain ⟨k', f', hr⟩ := h.each _ x hxi
  rw [List.getElem?_eq_none (by omega), Option.map_none] at hr
  have e1 : k' = k := by have := hr.fn; omega
  subst e1
  have e2 : f' = f := by have := hr.at_; rw [hf] at this; exact (Option.some.inj this).symm
  subst e2
  obtain ⟨pc, s, o', out, h1, h2, h3, h4, h5, h6⟩ := inner_go he hr
  have hpc : x.pc.toNat = pc := by rw [h1]; simp
  rw [hpc, h4] at ho
  cases ho
  have hmem := List.mem_of_getElem? hr.at_
  have hom := List.mem_of_getElem? h4
  obtain ⟨hok, h40, hi32, hbad⟩ := okFn_at hp hmem hom
  have h6l := h.depth.1
  have hdl : m.frames.dropLast.length ≤ 100 := by rw [List.length_dropLast]; omega
  refine ⟨pc, ⟨hsp, hdl, hf, hk, h1, by omega, h4, (rightF_op he hr).2⟩, hok, hbad, ?_⟩
  by_cases hw : o.1 = 21 ∧ m.inp = []
  · exact .inl hw
  · right
    have hst : m.status = 0 := by
      rcases hs with hs | hs
      · exact hs
      · obtain ⟨w1, x', k2, f2, o2, w2, w3, w4, w5, w6⟩ := h.wait hs
        rw [hx] at w2
        cases w2
        have : k' = k2 := by have := hr.fn; omega
        subst this
        rw [hr.at_] at w4
        cases w4
        rw [hpc, h4] at w5
        cases w5
        exact absurd ⟨w6, w1⟩ hw
    exact ⟨hw, s, out, h, hst, hx, hr, h1, h2, h3, h4, h5, h6, hi32⟩
def DoEnds (p : List Fn) (m R : Mach) : Prop := DoRet p m R ∨ ∃ why, R = trapM m why ∧ DoTrap p m why
theorem do_right {p : List Fn} {e : Nat → Nat → Option (List Int)} {m : Mach} (hp : progErr p = 0) (he : AllFit p e) (h : RightM p e m) (hs : m.status = 0 ∨ m.status = 1) {x : Frm} {k : Nat} {f : Fn} {o : Int × Int} (hx : m.frames.getLast? = some x) (hk : x.fn = (k : Int)) (hf : p[k]? = some f) (ho : f.2.2.2[x.pc.toNat]? = some o) : DoEnds p m (doOp p m x o) := by
  obtain ⟨pc, hA, hok, hbad, hc⟩ := at_op hp he h hs hx hk hf ho
  have hsm := right_small hp he h
  rcases hc with hw | ⟨hw, s, out, hO⟩
  · have hd : doOp p m x o = { m with status := 1 } := by simp [doOp, hw]
    rw [hd]
    rw [hw.1] at hA
    exact .inl (dr21w hA hw.2)
  obtain ⟨c, A⟩ := o
  have hcode := hok.code
  have hpcx := hO.pcx
  simp only at hcode hA hw
  have hl := areOf_length hO.stk
  have hfr := hA.fr
  have : c = 1 ∨ c = 2 ∨ c = 3 ∨ c = 4 ∨ c = 5 ∨ c = 6 ∨ c = 7 ∨ c = 8 ∨ c = 9 ∨ c = 10 ∨ c = 11 ∨ c = 12 ∨ c = 13 ∨ c = 14 ∨ c = 15 ∨ c = 16 ∨ c = 17 ∨ c = 18 ∨ c = 19 ∨ c = 20 ∨ c = 21 := by omega
  rcases this with rfl | rfl | rfl | rfl | rfl | rfl | rfl | rfl | rfl | rfl | rfl | rfl | rfl | rfl | rfl | rfl | rfl | rfl | rfl | rfl | rfl
  · left
    simpa [doOp, onF, putF, hpcx] using dr1 hA
  · left
    have hn : ¬ s.length < 1 := fun hl => by have := hO.try_; simp [tryOp, takesLeaves, hl] at this
    simpa [doOp, onF, putF, hpcx] using dr2 hA (stk_one (by omega))
  · left
    have hn : ¬ s.length < 1 := fun hl => by have := hO.try_; simp [tryOp, takesLeaves, hl] at this
    simpa [doOp, onF, putF, hpcx] using dr3 hA (stk_one (by omega))
  · left
    have hn : ¬ s.length < 2 := fun hl => by have := hO.try_; simp [tryOp, takesLeaves, hl] at this
    simpa [doOp, onF, putF, hpcx] using dr4 hA (stk_two (by omega))
  · left
    have hh := (has_takes hO.stk hO.try_ (t := [1, 1]) (l := [1]) (by simp [takesLeaves, plainTL, withLocal])).1
    simpa [doOp, onF, putF, hpcx] using dr5 hA (stk_two (by simpa using hh))
  · left
    have hh := (has_takes hO.stk hO.try_ (t := [1, 1]) (l := [1]) (by simp [takesLeaves, plainTL, withLocal])).1
    simpa [doOp, onF, putF, hpcx] using dr6 hA (stk_two (by simpa using hh))
  · left
    have hh := (has_takes hO.stk hO.try_ (t := [1, 1]) (l := [1]) (by simp [takesLeaves, plainTL, withLocal])).1
    simpa [doOp, onF, putF, hpcx] using dr7 hA (stk_two (by simpa using hh))
  · left
    have hloc := hok.loc (.inl rfl)
    simp only at hloc
    obtain ⟨j, rfl⟩ : ∃ j : Nat, A = (j : Int) := ⟨A.toNat, by omega⟩
    have hll := areOf_length hO.frame.loc
    obtain ⟨v, hv⟩ := at_of_lt (l := x.loc) (k := j) (by omega)
    simpa [doOp, onF, putF, hpcx, List.getD_eq_getElem?_getD, hv] using dr8 hA hv
  · left
    have hloc := hok.loc (.inr rfl)
    simp only at hloc
    obtain ⟨j, rfl⟩ : ∃ j : Nat, A = (j : Int) := ⟨A.toNat, by omega⟩
    have hll := areOf_length hO.frame.loc
    obtain ⟨v, hv⟩ := at_of_lt (l := x.loc) (k := j) (by omega)
    obtain ⟨t, ht⟩ := at_of_lt (l := f.2.1) (k := j) (by omega)
    have hh := (has_takes hO.stk hO.try_ (t := [t]) (l := []) (by simp [takesLeaves, plainTL, withLocal, List.getD_eq_getElem?_getD, ht])).1
    simpa [doOp, onF, putF, hpcx] using dr9 hA hv (stk_one (by simpa using hh))
  · left
    simpa [doOp, onF, putF, hpcx] using dr10 hA
  · left
    have hh := (has_takes hO.stk hO.try_ (t := [1]) (l := []) (by simp [takesLeaves, plainTL, withLocal])).1
    by_cases hz : (topV x.stk 0).2 = 0
    · simpa [doOp, onF, putF, hpcx, hz] using dr11z hA (stk_one (by simpa using hh)) hz
    · simpa [doOp, onF, putF, hpcx, hz] using dr11n hA (stk_one (by simpa using hh)) hz
  · by_cases h6 : m.frames.length = 6
    · exact .inr ⟨4, by simp [doOp, h6], dr12t hA h6⟩
    · left
      have hcall := hok.call rfl
      simp only at hcall
      obtain ⟨j, rfl⟩ : ∃ j : Nat, A = (j : Int) := ⟨A.toNat, by omega⟩
      obtain ⟨g, hg⟩ := at_of_lt (l := p) (k := j) (by omega)
      have hgf := hok.fns g (List.mem_of_getElem? hg)
      obtain ⟨n, hn⟩ : ∃ n : Nat, g.1 = (n : Int) := ⟨g.1.toNat, by omega⟩
      have htl : takesLeaves p f (12, (j : Int)) s = some (g.2.1.take g.1.toNat, if 0 < g.2.2.1 then [g.2.2.1] else []) := by
        unfold takesLeaves
        rw [if_neg (by simp), if_neg (by simp), if_neg (by simp), if_pos rfl]
        simp only [Int.toNat_natCast, hg]
        rfl
      have hh := (has_takes hO.stk hO.try_ htl).1
      have hn1 : g.1.toNat = n := by omega
      rw [hn1, List.length_take] at hh
      have hsp : x.stk = cutV x.stk n ++ x.stk.drop (x.stk.length - n) := (List.take_append_drop _ _).symm
      have := dr12 hA (g := g) (n := n) h6 hsp hg hn (by rw [List.length_drop]; omega) (by omega) (by omega)
      simpa [doOp, hpcx, h6, hg, hn1] using this
  · left
    cases hy : m.frames.dropLast.getLast? with
    | none =>
      have hd : m.frames.dropLast = [] := List.getLast?_eq_none_iff.1 hy
      simpa [doOp, hy] using dr13d hA (by rw [hd]; rfl)
    | some y =>
      have hy8 := hsm.2 y (List.dropLast_subset _ (List.mem_of_getLast? hy))
      simpa [doOp, hy] using dr13 hA (last_split hy) (by omega)
  · have htl : takesLeaves p f (14, A) s = some ([1], [2]) := by simp [takesLeaves, plainTL, withLocal]
    have hh := (has_takes hO.stk hO.try_ htl).1
    have hv := num_at hO htl 0 (by simp) rfl
    by_cases h0 : newErr m.blocks (topV x.stk 0).2 = 0
    · left
      simpa [doOp, onF, putF, hpcx, h0] using dr14 hA (stk_one (by simpa using hh)) hv h0
    · exact .inr ⟨3, by simp [doOp, h0], dr14t hA (stk_one (by simpa using hh)) hv h0⟩
  · have htl : takesLeaves p f (15, A) s = some ([2, 1], [1]) := by simp [takesLeaves, plainTL, withLocal]
    have hh := (has_takes hO.stk hO.try_ htl).1
    have hr := ref_at hO htl 1 (by simp) rfl
    have hb := hsm.1.bl
    have hi : -9223372036854775808 ≤ (topV x.stk 1).2 ∧ (topV x.stk 1).2 ≤ 9223372036854775807 := by omega
    by_cases h5 : placeErr m.blocks (topV x.stk 1).2 (topV x.stk 0).2 = 5
    · exact .inr ⟨1, by simp [doOp, h5], dr15n hA (stk_two (by simpa using hh)) hi h5⟩
    · by_cases h0 : placeErr m.blocks (topV x.stk 1).2 (topV x.stk 0).2 = 0
      · left
        simpa [doOp, onF, putF, hpcx, h0] using dr15 hA (stk_two (by simpa using hh)) hi h0
      · exact .inr ⟨2, by simp [doOp, h5, h0], dr15i hA (stk_two (by simpa using hh)) hi ⟨h0, h5⟩⟩
  · have htl : takesLeaves p f (16, A) s = some ([2, 1, 1], []) := by simp [takesLeaves, plainTL, withLocal]
    have hh := (has_takes hO.stk hO.try_ htl).1
    have hr := ref_at hO htl 2 (by simp) rfl
    have hb := hsm.1.bl
    have hi : -9223372036854775808 ≤ (topV x.stk 2).2 ∧ (topV x.stk 2).2 ≤ 9223372036854775807 := by omega
    by_cases h5 : setErr m.blocks (topV x.stk 2).2 (topV x.stk 1).2 (topV x.stk 0).2 = 5
    · exact .inr ⟨1, by simp [doOp, h5], dr16n hA (stk_three (by simpa using hh)) hi h5⟩
    · by_cases h0 : setErr m.blocks (topV x.stk 2).2 (topV x.stk 1).2 (topV x.stk 0).2 = 0
      · left
        simpa [doOp, onF, putF, hpcx, h0] using dr16 hA (stk_three (by simpa using hh)) hi h0
      · exact .inr ⟨2, by simp [doOp, h5, h0], dr16i hA (stk_three (by simpa using hh)) hi ⟨h0, h5⟩⟩
  · have htl : takesLeaves p f (17, A) s = some ([2], [1]) := by simp [takesLeaves, plainTL, withLocal]
    have hh := (has_takes hO.stk hO.try_ htl).1
    have hr := ref_at hO htl 0 (by simp) rfl
    have hb := hsm.1.bl
    by_cases hz : (topV x.stk 0).2 = 0
    · exact .inr ⟨1, by simp [doOp, hz], dr17t hA (stk_one (by simpa using hh)) hz⟩
    · left
      obtain ⟨bb, hbb⟩ := at_of_lt (l := m.blocks) (k := ((topV x.stk 0).2 - 1).toNat) (by omega)
      have hz2 : (topV x.stk 0).2 = ((((topV x.stk 0).2 - 1).toNat : Nat) : Int) + 1 := by omega
      have hba := blkAt_some hbb hz2
      have := dr17 hA (stk_one (by simpa using hh)) hz2 hbb hb
      simpa [doOp, onF, putF, hpcx, hz, hba] using this
  · left
    simpa [doOp, onF, putF, hpcx] using dr18 hA
  · left
    have hh := (has_takes hO.stk hO.try_ (t := [2]) (l := [1]) (by simp [takesLeaves, plainTL, withLocal])).1
    simpa [doOp, onF, putF, hpcx] using dr19 hA (stk_one (by simpa using hh))
  · have htl : takesLeaves p f (20, A) s = some ([1], []) := by simp [takesLeaves, plainTL, withLocal]
    have hh := (has_takes hO.stk hO.try_ htl).1
    by_cases h10 : m.out.length = 10
    · exact .inr ⟨5, by simp [doOp, h10], dr20t hA h10⟩
    · left
      have := h.out.1
      simpa [doOp, onF, putF, hpcx, h10] using dr20 hA (stk_one (by simpa using hh)) (by omega)
  · left
    obtain ⟨n, I, hi⟩ : ∃ n I, m.inp = n :: I := by
      cases hm : m.inp with
      | nil => exact absurd ⟨rfl, hm⟩ hw
      | cons n I => exact ⟨n, I, rfl⟩
    have := h.inp.1
    simpa [doOp, onF, putF, hpcx, hi] using dr21 hA hi (by omega)
/-- stride.Do at a right machine. -/
theorem strideDo_any (p : List Fn) (e : Nat → Nat → Option (List Int)) (m : Mach) (pv fv bv iv ov : Value) (w : World) (hp : progErr p = 0) (he : AllFit p e) (h : RightM p e m) (hs : m.status = 0 ∨ m.status = 1) (hpv : FnsAt w pv p) (hM : MachAt w fv bv iv ov m) {x : Frm} {k : Nat} {f : Fn} {o : Int × Int} (hx : m.frames.getLast? = some x) (hk : x.fn = (k : Int)) (hf : p[k]? = some f) (ho : f.2.2.2[x.pc.toNat]? = some o) :
    Calls Tryz.prog 45 #[.agg #[pv], .agg #[fv, bv, iv, ov, .int .i64 m.status, .int .i64 m.trap]] w fun e w' => ∃ fv' bv' iv' ov', e = .returned (.agg #[fv', bv', iv', ov', .int .i64 (doOp p m x o).status, .int .i64 (doOp p m x o).trap]) ∧ MRes w' w.heap.size fv' bv' iv' ov' (doOp p m x o) ∧ Below w.heap.size w w' := by
  have hsm := (right_small hp he h).1
  rcases do_right hp he h hs hx hk hf ho with hr | ⟨why, h1, h2⟩
  · exact strideDo_ret p pv m _ fv bv iv ov w hpv hM hsm (fun w0 W b hpa hd => hr w0 W b pv hpa hd)
  · rw [h1]
    exact strideDo_trap p pv m why fv bv iv ov w hpv hM hsm (fun w0 W b hpa hd => h2 w0 W b pv hpa hd)
end Go.Proofs.YtcadpoknolefpaaGreat
