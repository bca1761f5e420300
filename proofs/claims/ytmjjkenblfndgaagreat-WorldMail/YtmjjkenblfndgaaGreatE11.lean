/- My texts Bg My Mc: what of them is needed, joined. -/
import Derived.Laws.StructEq
import Derived.Deep.QuietTactic
import Derived.BigQuiet
import Derived.Test.YtmjjkenblfndgaaGreatE9
import Derived.Test.YtmjjkenblfndgaaGreatE10
set_option maxRecDepth 100000
set_option maxHeartbeats 8000000
/- the reference's SameBlocks, CellsOf; blockBegun. -/
namespace Go.Proofs.YtmjjkenblfndgaaGreat
open Go.RowKit
set_option linter.unusedSimpArgs false
set_option linter.unusedVariables false
theorem xlqZ (L M : List (List Int)) (v u : Value) (w : World) (hL : BlksAt w v L) (hM : BlksAt w u M) : Calls Tryz.prog 55 #[v, u] w fun e w' => e = .returned (.bool (decide (L = M))) ∧ Below w.heap.size w w' := by
  obtain ⟨p, cap, rfl, hlm, hc⟩ := hL
  obtain ⟨q, cap', rfl, hmm, hd⟩ := hM
  unfold maxLen at hlm hmm
  by_cases hlen : L.length = M.length
  · have hlen' : ((L.length : Int) != (M.length : Int)) = false := by simp; omega
    have HLEN := hideP hlen
    have HC := hideP hc
    have HD := hideP hd
    clear hc hd hlen
    go_enter Tryz.func55, Tryz.ntmps55
    go_wp2
    go_loopw [5] (fun i wr => ∃ k : Nat, k ≤ L.length ∧ i = .int .i64 k ∧ L.take k = M.take k ∧ Below w.heap.size w wr) (fun i _ => L.length - (intOf i).toNat)
    case atStart => exact ⟨0, Nat.zero_le _, rfl, by simp, Below.refl _ _⟩
    case round =>
      rename World => w1
      obtain ⟨k, hk, rfl, htk, hbw⟩ := hrel
      have HT := hideP htk
      clear htk
      by_cases hlt : k < L.length
      · have hlt2 : k < M.length := by have := HLEN.out; omega
        obtain ⟨x, ho⟩ := xagZ hlt
        obtain ⟨y, ho'⟩ := xagZ hlt2
        obtain ⟨b, off, c, rfl, hb, h0, h1, _, _⟩ := HC.out k _ ho
        obtain ⟨b', off', c', rfl, hb', h0', h1', _, _⟩ := HD.out k _ ho'
        have g0 := (hbw.cell (p := ⟨b, off + k, none⟩) hb).trans h0
        have g0' := (hbw.cell (p := ⟨b', off' + k, none⟩) hb').trans h0'
        have hlti : (k : Int) < (L.length : Int) := by omega
        have hlti2 : (k : Int) < (M.length : Int) := by omega
        obtain ⟨p1, c1, hc1, _, _⟩ := id h1
        obtain ⟨p2, c2, hc2, _, _⟩ := id h1'
        subst hc1 hc2
        have HS := hideP (xdfZ x y _ _ w1.drew ((h1.below hbw).below (Below.refl _ w1).drew) ((h1'.below hbw).below (Below.refl _ w1).drew))
        have HO := hideP ho
        have HO' := hideP ho'
        clear ho ho' h0 h0' h1 h1'
        by_cases he : x = y
        · rw [decide_eq_true he] at HS
          have HE := hideP he
          clear he
          go_wp2_with fail
          go_region_held3 (fun W => W.cell? ⟨b, off + k, none⟩ = some (.slice p1 x.length c1) ∧ W.cell? ⟨b', off' + k, none⟩ = some (.slice p2 y.length c2)) (go_keep)
            (first
            | (go_at_call 25; refine HS.out.mono ?_; rintro e w2 ⟨rfl, hb2⟩; have g2 := (hb2.cell (p := ⟨b, off + k, none⟩) (Nat.lt_of_lt_of_le hb hbw.size)).trans g0; have g2' := (hb2.cell (p := ⟨b', off' + k, none⟩) (Nat.lt_of_lt_of_le hb' hbw.size)).trans g0'))
          go_wp2
          go_roundw
          case rel => exact ⟨k + 1, by omega, by go_num, by rw [xazZ L k _ HO.out, xazZ M k _ HO'.out, HT.out, HE.out], hbw.trans ((((Below.refl w1.heap.size w1).drew).trans hb2).mono hbw.size)⟩
          case measure => simp [intOf]; omega
        · rw [decide_eq_false he] at HS
          have HE := hideP he
          clear he
          go_wp2_with fail
          go_region_held3 (fun W => W.cell? ⟨b, off + k, none⟩ = some (.slice p1 x.length c1) ∧ W.cell? ⟨b', off' + k, none⟩ = some (.slice p2 y.length c2)) (go_keep)
            (first
            | (go_at_call 25; refine HS.out.mono ?_; rintro e w2 ⟨rfl, hb2⟩; have g2 := (hb2.cell (p := ⟨b, off + k, none⟩) (Nat.lt_of_lt_of_le hb hbw.size)).trans g0; have g2' := (hb2.cell (p := ⟨b', off' + k, none⟩) (Nat.lt_of_lt_of_le hb' hbw.size)).trans g0'))
          go_wp2
          go_ret
          refine ⟨?_, hbw.trans ((((Below.refl w1.heap.size w1).drew).trans hb2).mono hbw.size)⟩
          have : ¬ L = M := fun h => by
            have h1 := HO.out
            rw [h, HO'.out] at h1
            simp at h1
            exact HE.out h1.symm
          simp [this]
      · have hlt' : ¬ (k : Int) < (L.length : Int) := by omega
        go_wp2
        go_ret
        refine ⟨?_, hbw⟩
        have : L = M := by
          have h := HT.out
          rwa [List.take_of_length_le (by omega), List.take_of_length_le (by have := HLEN.out; omega)] at h
        simp [this]
  · have hlen' : ((L.length : Int) != (M.length : Int)) = true := by simp; omega
    have hne : ¬ L = M := fun h => hlen (by rw [h])
    clear hc hd
    have HN := hideP hne
    clear hne hlen
    go_enter Tryz.func55, Tryz.ntmps55
    go_wp2
    go_ret
    exact ⟨by simp [HN.out], Below.refl _ _⟩
end Go.Proofs.YtmjjkenblfndgaaGreat


/- the reference's SameMachine, OpOf. -/
namespace Go.Proofs.YtmjjkenblfndgaaGreat
open Go.RowKit
set_option linter.unusedSimpArgs false
set_option linter.unusedVariables false
theorem neq_val (c : Bool) (a : Int) (c' : Bool) (a' : Int) (w : World) : (binOp .neq 113 (.agg #[.bool c, .int .i64 a]) (.agg #[.bool c', .int .i64 a'])).run Tryz.prog w = .ok (.bool (!(c == c' && a == a'))) w := by
  have u3 := Tryz.underlying3
  have a3 := Tryz.isAgg3
  have z3 := Tryz.sizeOf3
  have u4 := Tryz.underlying4
  have a4 := Tryz.isAgg4
  have z4 := Tryz.sizeOf4
  have hS : Tryz.prog.underlying 113 = some (.struct (Tryz.prog.fieldsOf 113)) := by kernel_rfl
  have hp : Tryz.prog.stoodInHeld 113 = false := by kernel_rfl
  rw [run_neq_struct, show (10000 : Nat) = 9999 + 1 from rfl, run_equalIn_agg w 9999 113 _ _ hS hp]
  simp only [Program.fieldsOf, Tryz.underlying113]
  go_simp
  by_cases h1 : c = c' <;> by_cases h2 : a = a' <;> simp [h1, h2]
theorem guard_val : Tryz.prog.eqGuardType Tryz.prog.depth 113 = false := by kernel_rfl
theorem xbwZ (l m : List Val) (v u : Value) (w : World) (hl : ValsAt w v l) (hm : ValsAt w u m) : Calls Tryz.prog 56 #[v, u] w fun e w' => e = .returned (.bool (decide (l = m))) ∧ Below w.heap.size w w' := by
  obtain ⟨p, cap, rfl, hlm, hc⟩ := hl
  obtain ⟨q, cap', rfl, hmm, hd⟩ := hm
  unfold maxLen at hlm hmm
  by_cases hlen : l.length = m.length
  · have hlen' : ((l.length : Int) != (m.length : Int)) = false := by simp; omega
    have HLEN : Hid (l.length = m.length) := hlen
    have HC : Hid (∀ k o, l[k]? = some o → ∃ b off, p = some ⟨b, off, none⟩ ∧ b < w.heap.size ∧ w.cell? ⟨b, off + k * 2, none⟩ = some (.bool o.1) ∧ w.cell? ⟨b, off + k * 2 + 1, none⟩ = some (.int .i64 o.2)) := hc
    have HD : Hid (∀ k o, m[k]? = some o → ∃ b off, q = some ⟨b, off, none⟩ ∧ b < w.heap.size ∧ w.cell? ⟨b, off + k * 2, none⟩ = some (.bool o.1) ∧ w.cell? ⟨b, off + k * 2 + 1, none⟩ = some (.int .i64 o.2)) := hd
    clear hc hd hlen
    go_enter Tryz.func56, Tryz.ntmps56
    go_wp2
    go_loopw [5] (fun i wr => ∃ k : Nat, k ≤ l.length ∧ i = .int .i64 k ∧ l.take k = m.take k ∧ Below w.heap.size w wr) (fun i _ => l.length - (intOf i).toNat)
    case atStart => exact ⟨0, Nat.zero_le _, rfl, by simp, Below.refl _ _⟩
    case round =>
      obtain ⟨k, hk, rfl, htk, hbw⟩ := hrel
      have HT : Hid (l.take k = m.take k) := htk
      clear htk
      by_cases hlt : k < l.length
      · have hlt2 : k < m.length := by have := HLEN.out; omega
        obtain ⟨⟨c, a⟩, ho⟩ : ∃ o, l[k]? = some o := ⟨l[k], List.getElem?_eq_some_iff.2 ⟨hlt, rfl⟩⟩
        obtain ⟨⟨c', a'⟩, ho'⟩ : ∃ o, m[k]? = some o := ⟨m[k], List.getElem?_eq_some_iff.2 ⟨hlt2, rfl⟩⟩
        obtain ⟨b, off, rfl, hb, h0, h1⟩ := HC.out k _ ho
        obtain ⟨b', off', rfl, hb', h0', h1'⟩ := HD.out k _ ho'
        have g0 := (hbw.cell (p := ⟨b, off + k * 2, none⟩) hb).trans h0
        have g1 := (hbw.cell (p := ⟨b, off + k * 2 + 1, none⟩) hb).trans h1
        have g0' := (hbw.cell (p := ⟨b', off' + k * 2, none⟩) hb').trans h0'
        have g1' := (hbw.cell (p := ⟨b', off' + k * 2 + 1, none⟩) hb').trans h1'
        have hlti : (k : Int) < (l.length : Int) := by omega
        have hlti2 : (k : Int) < (m.length : Int) := by omega
        have hg := guard_val
        have HO : Hid (l[k]? = some (c, a)) := ho
        have HO' : Hid (m[k]? = some (c', a')) := ho'
        clear ho ho' h0 h1 h0' h1'
        by_cases he : c = c' ∧ a = a'
        · have hneq : ∀ w, (binOp .neq 113 (.agg #[.bool c, .int .i64 a]) (.agg #[.bool c', .int .i64 a'])).run Tryz.prog w = .ok (.bool false) w := fun w => by rw [neq_val]; simp [he]
          have HE : Hid (c = c' ∧ a = a') := he
          clear he
          go_wp2
          go_quiet (fail)
          go_wp2
          go_roundw
          case rel => exact ⟨k + 1, by omega, by go_num, by rw [xazZ l k _ HO.out, xazZ m k _ HO'.out, HT.out, HE.out.1, HE.out.2], below_drewN hbw _⟩
          case measure => simp [intOf]; omega
        · have hneq : ∀ w, (binOp .neq 113 (.agg #[.bool c, .int .i64 a]) (.agg #[.bool c', .int .i64 a'])).run Tryz.prog w = .ok (.bool true) w := fun w => by rw [neq_val]; by_cases h1 : c = c' <;> by_cases h2 : a = a' <;> simp [h1, h2] <;> exact he ⟨h1, h2⟩
          have HE : Hid (¬ (c = c' ∧ a = a')) := he
          clear he
          go_wp2
          go_quiet (fail)
          go_wp2
          go_ret
          refine ⟨?_, below_drewN hbw _⟩
          have : ¬ l = m := fun h => by
            have h1 := HO.out
            rw [h, HO'.out] at h1
            simp at h1
            exact HE.out ⟨h1.1.symm, h1.2.symm⟩
          simp [this]
      · have hlt' : ¬ (k : Int) < (l.length : Int) := by omega
        go_wp2
        go_ret
        refine ⟨?_, hbw⟩
        have : l = m := by
          have h := HT.out
          rwa [List.take_of_length_le (by omega), List.take_of_length_le (by have := HLEN.out; omega)] at h
        simp [this]
  · have hlen' : ((l.length : Int) != (m.length : Int)) = true := by simp; omega
    have hne : ¬ l = m := fun h => hlen (by rw [h])
    clear hc hd
    have HN : Hid (¬ l = m) := hne
    clear hne hlen
    go_enter Tryz.func56, Tryz.ntmps56
    go_wp2
    go_ret
    exact ⟨by simp [HN.out], Below.refl _ _⟩
theorem frm_ext {x y : Frm} (h1 : x.fn = y.fn) (h2 : x.pc = y.pc) (h3 : x.loc = y.loc) (h4 : x.stk = y.stk) : x = y := by
  cases x; cases y; simp_all
theorem mach_ext {x y : Mach} (h1 : x.frames = y.frames) (h2 : x.blocks = y.blocks) (h3 : x.inp = y.inp) (h4 : x.out = y.out) (h5 : x.status = y.status) (h6 : x.trap = y.trap) : x = y := by
  cases x; cases y; simp_all
def SameIs {α : Type} (a b : α) (w : World) (e : Ending) (w' : World) : Prop := ∃ r, e = .returned (.bool r) ∧ (r = true ↔ a = b) ∧ Below w.heap.size w w'
theorem xb6Z {α : Type} {a b : α} {w w' : World} (h : ¬ a = b) (hb : Below w.heap.size w w') : SameIs a b w (.returned (.bool false)) w' := ⟨false, rfl, by simp [h], hb⟩
theorem same_yes {α : Type} {a b : α} {w w' : World} (h : a = b) (hb : Below w.heap.size w w') : SameIs a b w (.returned (.bool true)) w' := ⟨true, rfl, by simp [h], hb⟩
theorem xk7Z (A B : Mach) (fv bv iv ov fv' bv' iv' ov' : Value) (w : World) (hA : MachAt w fv bv iv ov A) (hB : MachAt w fv' bv' iv' ov' B) : Calls Tryz.prog 24 #[.agg #[fv, bv, iv, ov, .int .i64 A.status, .int .i64 A.trap], .agg #[fv', bv', iv', ov', .int .i64 B.status, .int .i64 B.trap]] w (SameIs A B w) := by
  obtain ⟨pf, cf, hfv, hfm, -, hfc⟩ := id hA.fr
  obtain ⟨pb, cb, hbv, -, -⟩ := id hA.bl
  obtain ⟨pi, ci, hiv, -⟩ := hA.inp.shp
  obtain ⟨po, co, hov, -⟩ := hA.out.shp
  obtain ⟨pf', cf', hfv', hfm', -, hfc'⟩ := id hB.fr
  obtain ⟨pb', cb', hbv', -, -⟩ := id hB.bl
  obtain ⟨pi', ci', hiv', -⟩ := hB.inp.shp
  obtain ⟨po', co', hov', -⟩ := hB.out.shp
  subst hfv hbv hiv hov hfv' hbv' hiv' hov'
  unfold maxLen at hfm hfm'
  obtain ⟨W2, hW2⟩ : ∃ W2, (w.alloc (.cells #[.slice pf A.frames.length cf, .slice pb A.blocks.length cb, .slice pi A.inp.length ci, .slice po A.out.length co, .int .i64 A.status, .int .i64 A.trap] 48)).alloc (.cells #[.slice pf' B.frames.length cf', .slice pb' B.blocks.length cb', .slice pi' B.inp.length ci', .slice po' B.out.length co', .int .i64 B.status, .int .i64 B.trap] 48) = W2 := ⟨_, rfl⟩
  have hb2 : Below w.heap.size w W2 := by rw [← hW2]; exact ((Below.refl _ w).alloc (Nat.le_refl _) _).alloc (by simp) _
  have x1 : W2.heap[w.heap.size]? = some (.cells #[.slice pf A.frames.length cf, .slice pb A.blocks.length cb, .slice pi A.inp.length ci, .slice po A.out.length co, .int .i64 A.status, .int .i64 A.trap] 48 (0, 0)) := by rw [← hW2]; exact xalZ (World.alloc_heap_new w _) _
  have x2 : W2.heap[w.heap.size + 1]? = some (.cells #[.slice pf' B.frames.length cf', .slice pb' B.blocks.length cb', .slice pi' B.inp.length ci', .slice po' B.out.length co', .int .i64 B.status, .int .i64 B.trap] 48 (0, 0)) := by rw [← hW2]; exact xa1Z w _ _
  have l1 := xacZ x1
  have l2 := xacZ x2
  have a0 := xaaZ x1 0
  have a1 := xaaZ x1 1
  have a2 := xaaZ x1 2
  have a3 := xaaZ x1 3
  have a4 := xaaZ x1 4
  have a5 := xaaZ x1 5
  have b0 := xaaZ x2 0
  have b1 := xaaZ x2 1
  have b3 := xaaZ x2 3
  have b4 := xaaZ x2 4
  have b5 := xaaZ x2 5
  simp at a0 a1 a2 a3 a4 a5
  have bb2 := xaaZ x2 2
  simp at b0 b1 bb2 b3 b4 b5
  have HSB : Hid (∀ W, Below W2.heap.size W2 W → Calls Tryz.prog 55 #[.slice pb A.blocks.length cb, .slice pb' B.blocks.length cb'] W fun e w' => e = .returned (.bool (decide (A.blocks = B.blocks))) ∧ Below W.heap.size W w') := fun W hW => xlqZ _ _ _ _ W ((hA.bl.below hb2).below hW) ((hB.bl.below hb2).below hW)
  have HSI : Hid (∀ W, Below W2.heap.size W2 W → Calls Tryz.prog 25 #[.slice pi A.inp.length ci, .slice pi' B.inp.length ci'] W fun e w' => e = .returned (.bool (decide (A.inp = B.inp))) ∧ Below W.heap.size W w') := fun W hW => xdfZ _ _ _ _ W ((hA.inp.at_.below hb2).below hW) ((hB.inp.at_.below hb2).below hW)
  have HSO : Hid (∀ W, Below W2.heap.size W2 W → Calls Tryz.prog 25 #[.slice po A.out.length co, .slice po' B.out.length co'] W fun e w' => e = .returned (.bool (decide (A.out = B.out))) ∧ Below W.heap.size W w') := fun W hW => xdfZ _ _ _ _ W ((hA.out.at_.below hb2).below hW) ((hB.out.at_.below hb2).below hW)
  have HX1 := hideP x1
  have HX2 := hideP x2
  have HFC := hideP hfc
  have HFC' := hideP hfc'
  clear hA hB x1 x2 hfc hfc'
  by_cases hst : A.status = B.status
  rotate_left
  · have hst' := xcrZ hst
    have HN := hideP hst
    clear hst
    go_enter Tryz.func24, Tryz.ntmps24
    go_wp2
    go_ret
    exact xb6Z (fun h => HN.out (by rw [h])) (hb2)
  have hst' := xclZ hst
  have HST := hideP hst
  clear hst
  by_cases htr : A.trap = B.trap
  rotate_left
  · have htr' := xcrZ htr
    have HN := hideP htr
    clear htr
    go_enter Tryz.func24, Tryz.ntmps24
    go_wp2
    go_ret
    exact xb6Z (fun h => HN.out (by rw [h])) (hb2)
  have htr' := xclZ htr
  have HTR := hideP htr
  clear htr
  by_cases hbl : A.blocks = B.blocks
  rotate_left
  · have HN := hideP hbl
    clear hbl
    go_enter Tryz.func24, Tryz.ntmps24
    go_wp2_with fail
    refine (HSB.out W2 (Below.refl _ _)).mono ?_
    rintro e w3 ⟨rfl, hb3⟩
    rw [decide_eq_false HN.out]
    have c2 := (hb3.cell (p := ⟨w.heap.size, 2, none⟩) l1).trans a2
    have d2 := (hb3.cell (p := ⟨w.heap.size + 1, 2, none⟩) l2).trans bb2
    have c3 := (hb3.cell (p := ⟨w.heap.size, 3, none⟩) l1).trans a3
    have d3 := (hb3.cell (p := ⟨w.heap.size + 1, 3, none⟩) l2).trans b3
    have c0 := (hb3.cell (p := ⟨w.heap.size, 0, none⟩) l1).trans a0
    have d0 := (hb3.cell (p := ⟨w.heap.size + 1, 0, none⟩) l2).trans b0
    go_wp2
    go_ret
    exact xb6Z (fun h => HN.out (by rw [h])) (xaeZ hb2 hb3)
  have HBL := hideP hbl
  clear hbl
  by_cases hin : A.inp = B.inp
  rotate_left
  · have HN := hideP hin
    clear hin
    go_enter Tryz.func24, Tryz.ntmps24
    go_wp2_with fail
    refine (HSB.out W2 (Below.refl _ _)).mono ?_
    rintro e w3 ⟨rfl, hb3⟩
    rw [decide_eq_true HBL.out]
    have c2 := (hb3.cell (p := ⟨w.heap.size, 2, none⟩) l1).trans a2
    have d2 := (hb3.cell (p := ⟨w.heap.size + 1, 2, none⟩) l2).trans bb2
    have c3 := (hb3.cell (p := ⟨w.heap.size, 3, none⟩) l1).trans a3
    have d3 := (hb3.cell (p := ⟨w.heap.size + 1, 3, none⟩) l2).trans b3
    have c0 := (hb3.cell (p := ⟨w.heap.size, 0, none⟩) l1).trans a0
    have d0 := (hb3.cell (p := ⟨w.heap.size + 1, 0, none⟩) l2).trans b0
    go_wp2_with fail
    refine (HSI.out w3 hb3).mono ?_
    rintro e w4 ⟨rfl, hb4'⟩
    rw [decide_eq_false HN.out]
    have hb4 := hb3.trans (hb4'.mono hb3.size)
    clear hb4'
    have f3 := (hb4.cell (p := ⟨w.heap.size, 3, none⟩) l1).trans a3
    have g3 := (hb4.cell (p := ⟨w.heap.size + 1, 3, none⟩) l2).trans b3
    have f0 := (hb4.cell (p := ⟨w.heap.size, 0, none⟩) l1).trans a0
    have g0 := (hb4.cell (p := ⟨w.heap.size + 1, 0, none⟩) l2).trans b0
    go_wp2
    go_ret
    exact xb6Z (fun h => HN.out (by rw [h])) (xaeZ hb2 hb4)
  have HIN := hideP hin
  clear hin
  by_cases hou : A.out = B.out
  rotate_left
  · have HN := hideP hou
    clear hou
    go_enter Tryz.func24, Tryz.ntmps24
    go_wp2_with fail
    refine (HSB.out W2 (Below.refl _ _)).mono ?_
    rintro e w3 ⟨rfl, hb3⟩
    rw [decide_eq_true HBL.out]
    have c2 := (hb3.cell (p := ⟨w.heap.size, 2, none⟩) l1).trans a2
    have d2 := (hb3.cell (p := ⟨w.heap.size + 1, 2, none⟩) l2).trans bb2
    have c3 := (hb3.cell (p := ⟨w.heap.size, 3, none⟩) l1).trans a3
    have d3 := (hb3.cell (p := ⟨w.heap.size + 1, 3, none⟩) l2).trans b3
    have c0 := (hb3.cell (p := ⟨w.heap.size, 0, none⟩) l1).trans a0
    have d0 := (hb3.cell (p := ⟨w.heap.size + 1, 0, none⟩) l2).trans b0
    go_wp2_with fail
    refine (HSI.out w3 hb3).mono ?_
    rintro e w4 ⟨rfl, hb4'⟩
    rw [decide_eq_true HIN.out]
    have hb4 := hb3.trans (hb4'.mono hb3.size)
    clear hb4'
    have f3 := (hb4.cell (p := ⟨w.heap.size, 3, none⟩) l1).trans a3
    have g3 := (hb4.cell (p := ⟨w.heap.size + 1, 3, none⟩) l2).trans b3
    have f0 := (hb4.cell (p := ⟨w.heap.size, 0, none⟩) l1).trans a0
    have g0 := (hb4.cell (p := ⟨w.heap.size + 1, 0, none⟩) l2).trans b0
    go_wp2_with fail
    refine (HSO.out w4 hb4).mono ?_
    rintro e w5 ⟨rfl, hb5'⟩
    rw [decide_eq_false HN.out]
    have hb5 := hb4.trans (hb5'.mono hb4.size)
    clear hb5'
    have m0 := (hb5.cell (p := ⟨w.heap.size, 0, none⟩) l1).trans a0
    have n0 := (hb5.cell (p := ⟨w.heap.size + 1, 0, none⟩) l2).trans b0
    go_wp2
    go_ret
    exact xb6Z (fun h => HN.out (by rw [h])) (xaeZ hb2 hb5)
  have HOU := hideP hou
  clear hou
  by_cases hfl : A.frames.length = B.frames.length
  rotate_left
  · have hfl' : ((A.frames.length : Int) != (B.frames.length : Int)) = true := by simp; omega
    have HN := hideP hfl
    clear hfl
    go_enter Tryz.func24, Tryz.ntmps24
    go_wp2_with fail
    refine (HSB.out W2 (Below.refl _ _)).mono ?_
    rintro e w3 ⟨rfl, hb3⟩
    rw [decide_eq_true HBL.out]
    have c2 := (hb3.cell (p := ⟨w.heap.size, 2, none⟩) l1).trans a2
    have d2 := (hb3.cell (p := ⟨w.heap.size + 1, 2, none⟩) l2).trans bb2
    have c3 := (hb3.cell (p := ⟨w.heap.size, 3, none⟩) l1).trans a3
    have d3 := (hb3.cell (p := ⟨w.heap.size + 1, 3, none⟩) l2).trans b3
    have c0 := (hb3.cell (p := ⟨w.heap.size, 0, none⟩) l1).trans a0
    have d0 := (hb3.cell (p := ⟨w.heap.size + 1, 0, none⟩) l2).trans b0
    go_wp2_with fail
    refine (HSI.out w3 hb3).mono ?_
    rintro e w4 ⟨rfl, hb4'⟩
    rw [decide_eq_true HIN.out]
    have hb4 := hb3.trans (hb4'.mono hb3.size)
    clear hb4'
    have f3 := (hb4.cell (p := ⟨w.heap.size, 3, none⟩) l1).trans a3
    have g3 := (hb4.cell (p := ⟨w.heap.size + 1, 3, none⟩) l2).trans b3
    have f0 := (hb4.cell (p := ⟨w.heap.size, 0, none⟩) l1).trans a0
    have g0 := (hb4.cell (p := ⟨w.heap.size + 1, 0, none⟩) l2).trans b0
    go_wp2_with fail
    refine (HSO.out w4 hb4).mono ?_
    rintro e w5 ⟨rfl, hb5'⟩
    rw [decide_eq_true HOU.out]
    have hb5 := hb4.trans (hb5'.mono hb4.size)
    clear hb5'
    have m0 := (hb5.cell (p := ⟨w.heap.size, 0, none⟩) l1).trans a0
    have n0 := (hb5.cell (p := ⟨w.heap.size + 1, 0, none⟩) l2).trans b0
    go_wp2
    go_ret
    exact xb6Z (fun h => HN.out (by rw [h])) (xaeZ hb2 hb5)
  have hfl' : ((A.frames.length : Int) != (B.frames.length : Int)) = false := by simp; omega
  have HFL := hideP hfl
  clear hfl
  go_enter Tryz.func24, Tryz.ntmps24
  go_wp2_with fail
  refine (HSB.out W2 (Below.refl _ _)).mono ?_
  rintro e w3 ⟨rfl, hb3⟩
  rw [decide_eq_true HBL.out]
  have c2 := (hb3.cell (p := ⟨w.heap.size, 2, none⟩) l1).trans a2
  have d2 := (hb3.cell (p := ⟨w.heap.size + 1, 2, none⟩) l2).trans bb2
  have c3 := (hb3.cell (p := ⟨w.heap.size, 3, none⟩) l1).trans a3
  have d3 := (hb3.cell (p := ⟨w.heap.size + 1, 3, none⟩) l2).trans b3
  have c0 := (hb3.cell (p := ⟨w.heap.size, 0, none⟩) l1).trans a0
  have d0 := (hb3.cell (p := ⟨w.heap.size + 1, 0, none⟩) l2).trans b0
  go_wp2_with fail
  refine (HSI.out w3 hb3).mono ?_
  rintro e w4 ⟨rfl, hb4'⟩
  rw [decide_eq_true HIN.out]
  have hb4 := hb3.trans (hb4'.mono hb3.size)
  clear hb4'
  have f3 := (hb4.cell (p := ⟨w.heap.size, 3, none⟩) l1).trans a3
  have g3 := (hb4.cell (p := ⟨w.heap.size + 1, 3, none⟩) l2).trans b3
  have f0 := (hb4.cell (p := ⟨w.heap.size, 0, none⟩) l1).trans a0
  have g0 := (hb4.cell (p := ⟨w.heap.size + 1, 0, none⟩) l2).trans b0
  go_wp2_with fail
  refine (HSO.out w4 hb4).mono ?_
  rintro e w5 ⟨rfl, hb5'⟩
  rw [decide_eq_true HOU.out]
  have hb5 := hb4.trans (hb5'.mono hb4.size)
  clear hb5'
  have m0 := (hb5.cell (p := ⟨w.heap.size, 0, none⟩) l1).trans a0
  have n0 := (hb5.cell (p := ⟨w.heap.size + 1, 0, none⟩) l2).trans b0
  go_wp2
  go_loopw [5] (fun i wr => ∃ k : Nat, k ≤ A.frames.length ∧ i = .int .i64 k ∧ A.frames.take k = B.frames.take k ∧ Below W2.heap.size W2 wr) (fun i _ => A.frames.length - (intOf i).toNat)
  case atStart => exact ⟨0, Nat.zero_le _, rfl, by simp, hb5⟩
  case round =>
    obtain ⟨k, hk, rfl, htk, hbw2⟩ := hrel
    have HT := hideP htk
    clear htk
    have hbw := hb2.trans (hbw2.mono hb2.size)
    have r0 := (hbw2.cell (p := ⟨w.heap.size, 0, none⟩) l1).trans a0
    have s0 := (hbw2.cell (p := ⟨w.heap.size + 1, 0, none⟩) l2).trans b0
    have hszr := hbw2.size
    by_cases hlt : k < A.frames.length
    · have hlt2 : k < B.frames.length := by have := HFL.out; omega
      obtain ⟨x, ho⟩ := xagZ hlt
      obtain ⟨y, ho'⟩ := xagZ hlt2
      obtain ⟨b, off, lv, sv, rfl, hb, x0, x1, x2, x3, hL, -, hS, -⟩ := HFC.out k _ ho
      obtain ⟨b', off', lv', sv', rfl, hb', x0', x1', x2', x3', hL', -, hS', -⟩ := HFC'.out k _ ho'
      have g0 := (hbw.cell (p := ⟨b, off + k * 4, none⟩) hb).trans x0
      have g1 := (hbw.cell (p := ⟨b, off + k * 4 + 1, none⟩) hb).trans x1
      have g2 := (hbw.cell (p := ⟨b, off + k * 4 + 2, none⟩) hb).trans x2
      have g3 := (hbw.cell (p := ⟨b, off + k * 4 + 3, none⟩) hb).trans x3
      have g0' := (hbw.cell (p := ⟨b', off' + k * 4, none⟩) hb').trans x0'
      have g1' := (hbw.cell (p := ⟨b', off' + k * 4 + 1, none⟩) hb').trans x1'
      have g2' := (hbw.cell (p := ⟨b', off' + k * 4 + 2, none⟩) hb').trans x2'
      have g3' := (hbw.cell (p := ⟨b', off' + k * 4 + 3, none⟩) hb').trans x3'
      have hLr := hL.below hbw
      have hLr' := hL'.below hbw
      have hSr := hS.below hbw
      have hSr' := hS'.below hbw
      have HO := hideP ho
      have HO' := hideP ho'
      clear ho ho' x0 x1 x2 x3 x0' x1' x2' x3'
      obtain ⟨p1, q1, rfl, -, -⟩ := hL
      obtain ⟨p2, q2, rfl, -, -⟩ := hS
      obtain ⟨p1', q1', rfl, -, -⟩ := hL'
      obtain ⟨p2', q2', rfl, -, -⟩ := hS'
      have hlti : (k : Int) < (A.frames.length : Int) := by omega
      have hlti2 : (k : Int) < (B.frames.length : Int) := by omega
      have y0 := fun o => xabZ g0 o
      have yy0 := fun o o' => xabZ (xabZ g0 o) o'
      have y1 := fun o => xabZ g1 o
      have yy1 := fun o o' => xabZ (xabZ g1 o) o'
      have y2 := fun o => xabZ g2 o
      have yy2 := fun o o' => xabZ (xabZ g2 o) o'
      have y3 := fun o => xabZ g3 o
      have yy3 := fun o o' => xabZ (xabZ g3 o) o'
      have y4 := fun o => xabZ g0' o
      have yy4 := fun o o' => xabZ (xabZ g0' o) o'
      have y5 := fun o => xabZ g1' o
      have yy5 := fun o o' => xabZ (xabZ g1' o) o'
      have y6 := fun o => xabZ g2' o
      have yy6 := fun o o' => xabZ (xabZ g2' o) o'
      have y7 := fun o => xabZ g3' o
      have yy7 := fun o o' => xabZ (xabZ g3' o) o'
      have y8 := fun o => xabZ r0 o
      have yy8 := fun o o' => xabZ (xabZ r0 o) o'
      have y9 := fun o => xabZ s0 o
      have yy9 := fun o o' => xabZ (xabZ s0 o) o'
      have hn0 : ¬ b = wr.heap.size := by omega
      have hn1 : ¬ b' = wr.heap.size := by omega
      have hn2 : ¬ b = wr.heap.size + 1 := by omega
      have hn3 : ¬ b' = wr.heap.size + 1 := by omega
      have hn4 : ¬ w.heap.size = wr.heap.size := by omega
      have hn5 : ¬ w.heap.size = wr.heap.size + 1 := by omega
      have hn6 : ¬ w.heap.size + 1 = wr.heap.size := by omega
      obtain ⟨WA, hWA⟩ : ∃ W, ((wr.alloc (.cells #[.int .i64 x.fn, .int .i64 x.pc, .slice p1 x.loc.length q1, .slice p2 x.stk.length q2] 89)).alloc (.cells #[.int .i64 y.fn, .int .i64 y.pc, .slice p1' y.loc.length q1', .slice p2' y.stk.length q2'] 89)).drew = W := ⟨_, rfl⟩
      have hbA : Below wr.heap.size wr WA := by rw [← hWA]; exact (((Below.refl _ wr).alloc (Nat.le_refl _) _).alloc (by simp) _).drew
      have h1A : WA.heap[wr.heap.size]? = some (.cells #[.int .i64 x.fn, .int .i64 x.pc, .slice p1 x.loc.length q1, .slice p2 x.stk.length q2] 89 (0, 0)) := by rw [← hWA]; exact xalZ (World.alloc_heap_new wr _) _
      have h2A : WA.heap[wr.heap.size + 1]? = some (.cells #[.int .i64 y.fn, .int .i64 y.pc, .slice p1' y.loc.length q1', .slice p2' y.stk.length q2'] 89 (0, 0)) := by rw [← hWA]; exact xa1Z wr _ _
      have l1A := xacZ h1A
      have l2A := xacZ h2A
      have e0A := xaaZ h1A 0
      have f0A := xaaZ h2A 0
      have e1A := xaaZ h1A 1
      have f1A := xaaZ h2A 1
      have e2A := xaaZ h1A 2
      have f2A := xaaZ h2A 2
      have e3A := xaaZ h1A 3
      have f3A := xaaZ h2A 3
      simp at e0A f0A e1A f1A e2A f2A e3A f3A
      clear h1A h2A
      obtain ⟨WB, hWB⟩ : ∃ W, ((wr.alloc (.cells #[.int .i64 y.fn, .int .i64 y.pc, .slice p1' y.loc.length q1', .slice p2' y.stk.length q2'] 89)).alloc (.cells #[.int .i64 x.fn, .int .i64 x.pc, .slice p1 x.loc.length q1, .slice p2 x.stk.length q2] 89)).drew = W := ⟨_, rfl⟩
      have hbB : Below wr.heap.size wr WB := by rw [← hWB]; exact (((Below.refl _ wr).alloc (Nat.le_refl _) _).alloc (by simp) _).drew
      have h1B : WB.heap[wr.heap.size]? = some (.cells #[.int .i64 y.fn, .int .i64 y.pc, .slice p1' y.loc.length q1', .slice p2' y.stk.length q2'] 89 (0, 0)) := by rw [← hWB]; exact xalZ (World.alloc_heap_new wr _) _
      have h2B : WB.heap[wr.heap.size + 1]? = some (.cells #[.int .i64 x.fn, .int .i64 x.pc, .slice p1 x.loc.length q1, .slice p2 x.stk.length q2] 89 (0, 0)) := by rw [← hWB]; exact xa1Z wr _ _
      have l1B := xacZ h1B
      have l2B := xacZ h2B
      have e0B := xaaZ h1B 0
      have f0B := xaaZ h2B 0
      have e1B := xaaZ h1B 1
      have f1B := xaaZ h2B 1
      have e2B := xaaZ h1B 2
      have f2B := xaaZ h2B 2
      have e3B := xaaZ h1B 3
      have f3B := xaaZ h2B 3
      simp at e0B f0B e1B f1B e2B f2B e3B f3B
      clear h1B h2B
      have HLr := hideP hLr
      have HLr' := hideP hLr'
      have HSr := hideP hSr
      have HSr' := hideP hSr'
      clear hLr hLr' hSr hSr'
      go_wp2
      go_region
      · skip
        by_cases h1 : x.fn = y.fn
        rotate_left
        · have h1' := xcrZ h1
          have HN := hideP h1
          clear h1
          go_wp2
          go_ret
          refine xb6Z (fun h => HN.out ?_) (hbw.trans ((hbA).mono hbw.size))
          have h1 := HO.out
          rw [h, HO'.out] at h1
          cases h1
          rfl
        have h1' := xclZ h1
        have H1 := hideP h1
        clear h1
        by_cases h2 : x.pc = y.pc
        rotate_left
        · have h2' := xcrZ h2
          have HN := hideP h2
          clear h2
          go_wp2
          go_ret
          refine xb6Z (fun h => HN.out ?_) (hbw.trans ((hbA).mono hbw.size))
          have h1 := HO.out
          rw [h, HO'.out] at h1
          cases h1
          rfl
        have h2' := xclZ h2
        have H2 := hideP h2
        clear h2
        by_cases h3 : x.loc = y.loc
        rotate_left
        · have HN := hideP h3
          clear h3
          go_wp2_with fail
          refine (xbwZ x.loc y.loc _ _ WA (HLr.out.below hbA) (HLr'.out.below hbA)).mono ?_
          rintro e w6 ⟨rfl, hb6⟩
          rw [decide_eq_false HN.out]
          have k6 := (hb6.cell (p := ⟨wr.heap.size, 3, none⟩) l1A).trans e3A
          have k7 := (hb6.cell (p := ⟨wr.heap.size + 1, 3, none⟩) l2A).trans f3A
          have hb7 := hbA.trans (hb6.mono hbA.size)
          go_wp2
          go_ret
          refine xb6Z (fun h => HN.out ?_) (hbw.trans ((hb7).mono hbw.size))
          have h1 := HO.out
          rw [h, HO'.out] at h1
          cases h1
          rfl
        have H3 := hideP h3
        clear h3
        by_cases h4 : x.stk = y.stk
        rotate_left
        · have HN := hideP h4
          clear h4
          go_wp2_with fail
          refine (xbwZ x.loc y.loc _ _ WA (HLr.out.below hbA) (HLr'.out.below hbA)).mono ?_
          rintro e w6 ⟨rfl, hb6⟩
          rw [decide_eq_true H3.out]
          have k6 := (hb6.cell (p := ⟨wr.heap.size, 3, none⟩) l1A).trans e3A
          have k7 := (hb6.cell (p := ⟨wr.heap.size + 1, 3, none⟩) l2A).trans f3A
          have hb7 := hbA.trans (hb6.mono hbA.size)
          go_wp2_with fail
          refine (xbwZ x.stk y.stk _ _ w6 (HSr.out.below hb7) (HSr'.out.below hb7)).mono ?_
          rintro e w8 ⟨rfl, hb8⟩
          rw [decide_eq_false HN.out]
          have hb9 := hb7.trans (hb8.mono hb7.size)
          go_wp2
          go_ret
          refine xb6Z (fun h => HN.out ?_) (hbw.trans ((hb9).mono hbw.size))
          have h1 := HO.out
          rw [h, HO'.out] at h1
          cases h1
          rfl
        have H4 := hideP h4
        clear h4
        go_wp2_with fail
        refine (xbwZ x.loc y.loc _ _ WA (HLr.out.below hbA) (HLr'.out.below hbA)).mono ?_
        rintro e w6 ⟨rfl, hb6⟩
        rw [decide_eq_true H3.out]
        have k6 := (hb6.cell (p := ⟨wr.heap.size, 3, none⟩) l1A).trans e3A
        have k7 := (hb6.cell (p := ⟨wr.heap.size + 1, 3, none⟩) l2A).trans f3A
        have hb7 := hbA.trans (hb6.mono hbA.size)
        go_wp2_with fail
        refine (xbwZ x.stk y.stk _ _ w6 (HSr.out.below hb7) (HSr'.out.below hb7)).mono ?_
        rintro e w8 ⟨rfl, hb8⟩
        rw [decide_eq_true H4.out]
        have hb9 := hb7.trans (hb8.mono hb7.size)
        go_wp2
        go_roundw
        case rel => exact ⟨k + 1, by omega, by go_num, by rw [xazZ _ k _ HO.out, xazZ _ k _ HO'.out, HT.out, frm_ext H1.out H2.out H3.out H4.out], hbw2.trans (hb9.mono hbw2.size)⟩
        case measure => simp [intOf]; omega
      · skip
        by_cases h1 : x.fn = y.fn
        rotate_left
        · have h1' := xcrZ h1
          have HN := hideP h1
          clear h1
          go_wp2
          go_ret
          refine xb6Z (fun h => HN.out ?_) (hbw.trans ((hbB).mono hbw.size))
          have h1 := HO.out
          rw [h, HO'.out] at h1
          cases h1
          rfl
        have h1' := xclZ h1
        have H1 := hideP h1
        clear h1
        by_cases h2 : x.pc = y.pc
        rotate_left
        · have h2' := xcrZ h2
          have HN := hideP h2
          clear h2
          go_wp2
          go_ret
          refine xb6Z (fun h => HN.out ?_) (hbw.trans ((hbB).mono hbw.size))
          have h1 := HO.out
          rw [h, HO'.out] at h1
          cases h1
          rfl
        have h2' := xclZ h2
        have H2 := hideP h2
        clear h2
        by_cases h3 : x.loc = y.loc
        rotate_left
        · have HN := hideP h3
          clear h3
          go_wp2_with fail
          refine (xbwZ x.loc y.loc _ _ WB (HLr.out.below hbB) (HLr'.out.below hbB)).mono ?_
          rintro e w6 ⟨rfl, hb6⟩
          rw [decide_eq_false HN.out]
          have k6 := (hb6.cell (p := ⟨wr.heap.size + 1, 3, none⟩) l2B).trans f3B
          have k7 := (hb6.cell (p := ⟨wr.heap.size, 3, none⟩) l1B).trans e3B
          have hb7 := hbB.trans (hb6.mono hbB.size)
          go_wp2
          go_ret
          refine xb6Z (fun h => HN.out ?_) (hbw.trans ((hb7).mono hbw.size))
          have h1 := HO.out
          rw [h, HO'.out] at h1
          cases h1
          rfl
        have H3 := hideP h3
        clear h3
        by_cases h4 : x.stk = y.stk
        rotate_left
        · have HN := hideP h4
          clear h4
          go_wp2_with fail
          refine (xbwZ x.loc y.loc _ _ WB (HLr.out.below hbB) (HLr'.out.below hbB)).mono ?_
          rintro e w6 ⟨rfl, hb6⟩
          rw [decide_eq_true H3.out]
          have k6 := (hb6.cell (p := ⟨wr.heap.size + 1, 3, none⟩) l2B).trans f3B
          have k7 := (hb6.cell (p := ⟨wr.heap.size, 3, none⟩) l1B).trans e3B
          have hb7 := hbB.trans (hb6.mono hbB.size)
          go_wp2_with fail
          refine (xbwZ x.stk y.stk _ _ w6 (HSr.out.below hb7) (HSr'.out.below hb7)).mono ?_
          rintro e w8 ⟨rfl, hb8⟩
          rw [decide_eq_false HN.out]
          have hb9 := hb7.trans (hb8.mono hb7.size)
          go_wp2
          go_ret
          refine xb6Z (fun h => HN.out ?_) (hbw.trans ((hb9).mono hbw.size))
          have h1 := HO.out
          rw [h, HO'.out] at h1
          cases h1
          rfl
        have H4 := hideP h4
        clear h4
        go_wp2_with fail
        refine (xbwZ x.loc y.loc _ _ WB (HLr.out.below hbB) (HLr'.out.below hbB)).mono ?_
        rintro e w6 ⟨rfl, hb6⟩
        rw [decide_eq_true H3.out]
        have k6 := (hb6.cell (p := ⟨wr.heap.size + 1, 3, none⟩) l2B).trans f3B
        have k7 := (hb6.cell (p := ⟨wr.heap.size, 3, none⟩) l1B).trans e3B
        have hb7 := hbB.trans (hb6.mono hbB.size)
        go_wp2_with fail
        refine (xbwZ x.stk y.stk _ _ w6 (HSr.out.below hb7) (HSr'.out.below hb7)).mono ?_
        rintro e w8 ⟨rfl, hb8⟩
        rw [decide_eq_true H4.out]
        have hb9 := hb7.trans (hb8.mono hb7.size)
        go_wp2
        go_roundw
        case rel => exact ⟨k + 1, by omega, by go_num, by rw [xazZ _ k _ HO.out, xazZ _ k _ HO'.out, HT.out, frm_ext H1.out H2.out H3.out H4.out], hbw2.trans (hb9.mono hbw2.size)⟩
        case measure => simp [intOf]; omega
    · have hlt' : ¬ (k : Int) < (A.frames.length : Int) := by omega
      go_wp2
      go_ret
      refine same_yes (mach_ext ?_ HBL.out HIN.out HOU.out HST.out HTR.out) hbw
      have h := HT.out
      rwa [List.take_of_length_le (by omega), List.take_of_length_le (by have := HFL.out; omega)] at h
end Go.Proofs.YtmjjkenblfndgaaGreat


/- stride's doer: the machine that it does an op of; its innermost frame, take and put. -/
namespace Go.Proofs.YtmjjkenblfndgaaGreat
open Go.RowKit
set_option linter.unusedSimpArgs false
set_option linter.unusedVariables false
structure DAt (w0 W : World) (b : Nat) (pv fv bv iv ov : Value) (q : List FV) (qb : List Value) (M : Mach) : Prop where
  cell : W.heap[b]? = some (.cells #[fv, bv, iv, ov, .int .i64 M.status, .int .i64 M.trap, pv] 162 (0, 0))
  own : MOwn W w0.heap.size fv bv iv ov q qb M
  bel : Below w0.heap.size w0 W
  lo : w0.heap.size ≤ b
def Doer (w0 W : World) (b : Nat) (pv : Value) (M : Mach) : Prop := ∃ fv bv iv ov q qb, DAt w0 W b pv fv bv iv ov q qb M
theorem DAt.lt {w0 W : World} {b : Nat} {pv fv bv iv ov : Value} {q : List FV} {qb : List Value} {M : Mach} (h : DAt w0 W b pv fv bv iv ov q qb M) : b < W.heap.size := xacZ h.cell
theorem DAt.below {w0 W W' : World} {b : Nat} {pv fv bv iv ov : Value} {q : List FV} {qb : List Value} {M : Mach} (h : DAt w0 W b pv fv bv iv ov q qb M) (hb : Below W.heap.size W W') : DAt w0 W' b pv fv bv iv ov q qb M :=
  ⟨(hb.block b h.lt).trans h.cell, h.own.below hb, h.bel.trans (hb.mono h.bel.size), h.lo⟩
theorem Doer.below {w0 W W' : World} {b : Nat} {pv : Value} {M : Mach} (h : Doer w0 W b pv M) (hb : Below W.heap.size W W') : Doer w0 W' b pv M := by
  obtain ⟨fv, bv, iv, ov, q, qb, h⟩ := h
  exact ⟨fv, bv, iv, ov, q, qb, h.below hb⟩
theorem Doer.bel {w0 W : World} {b : Nat} {pv : Value} {M : Mach} (h : Doer w0 W b pv M) : Below w0.heap.size w0 W := by
  obtain ⟨fv, bv, iv, ov, q, qb, h⟩ := h
  exact h.bel
structure DIn (w0 W : World) (b : Nat) (pv : Value) (M : Mach) (D : List Frm) (x : Frm) (g cap : Nat) (bv iv ov : Value) (q : List FV) (c : FV) (qb : List Value) : Prop where
  at_ : DAt w0 W b pv (.slice (some ⟨g, 0, none⟩) (D.length + 1) cap) bv iv ov (q ++ [c]) qb M
  fr : M.frames = D ++ [x]
  len : q.length = D.length
  fn : c.fn = x.fn
  pc : c.pc = x.pc
  c0 : W.cell? ⟨g, D.length * 4, none⟩ = some (.int .i64 x.fn)
  c1 : W.cell? ⟨g, D.length * 4 + 1, none⟩ = some (.int .i64 x.pc)
  c2 : W.cell? ⟨g, D.length * 4 + 2, none⟩ = some c.lv
  c3 : W.cell? ⟨g, D.length * 4 + 3, none⟩ = some c.sv
  gb : ∃ cur, W.heap[g]? = some (.cells cur 89 (0, 0))
  loc : W.ownsRow w0.heap.size 113 2 c.lv x.loc.length (valCells x.loc)
  stk : W.ownsRow w0.heap.size 113 2 c.sv x.stk.length (valCells x.stk)
theorem Doer.open {w0 W : World} {b : Nat} {pv : Value} {M : Mach} {D : List Frm} {x : Frm} (h : Doer w0 W b pv M) (hF : M.frames = D ++ [x]) : ∃ g cap bv iv ov q c qb, DIn w0 W b pv M D x g cap bv iv ov q c qb := by
  obtain ⟨fv, bv, iv, ov, q', qb, h⟩ := h
  have hl := h.own.frs.len
  rw [hF] at hl
  obtain ⟨q, c, rfl⟩ : ∃ q c, q' = q ++ [c] := by
    rcases List.eq_nil_or_concat q' with h0 | ⟨q, c, h0⟩
    · subst h0; simp at hl
    · exact ⟨q, c, by simpa using h0⟩
  have hlen : q.length = D.length := by simpa using hl
  have hrow := h.own.fr
  have hn : (q ++ [c]).length = D.length + 1 := by simp [hlen]
  rcases hrow.2 with ⟨_, h0⟩ | ⟨g, cap, cur, hv, hB, hg, h1, h2, h3, h4⟩
  · omega
  have hfrs := h.own.frs
  rw [hF] at hfrs
  have hx : (D ++ [x])[q.length]? = some x := by rw [hlen]; exact xbeZ _ _
  obtain ⟨e1, e2⟩ := hfrs.nums q.length c x (xbeZ _ _) hx
  obtain ⟨a0, a1, a2, a3⟩ := xd2Z (q ++ [c]) q.length c (xbeZ _ _)
  obtain ⟨r1, r2⟩ := xd3Z (q ++ [c]) q.length c (xbeZ _ _)
  obtain ⟨v1, v2⟩ := xjtZ (D ++ [x]) q.length x hx
  have o1 := hfrs.rows.each _ _ _ r1 v1
  have o2 := hfrs.rows.each _ _ _ r2 v2
  rw [← h4, List.getElem?_take_of_lt (by omega)] at a0 a1 a2 a3
  rw [hn] at hv
  subst hv
  refine ⟨g, cap, bv, iv, ov, q, c, qb, h, hF, hlen, e1, e2, ?_, ?_, ?_, ?_, ⟨_, hg⟩, o1, o2⟩
  · rw [xaaZ hg, ← e1, ← hlen]; simpa using a0
  · rw [xaaZ hg, ← e2, ← hlen]; simpa using a1
  · rw [xaaZ hg, ← hlen]; simpa using a2
  · rw [xaaZ hg, ← hlen]; simpa using a3
section
variable {w0 W : World} {b : Nat} {pv : Value} {M : Mach} {D : List Frm} {x : Frm} {g cap : Nat} {bv iv ov : Value} {q : List FV} {c : FV} {qb : List Value}
theorem DIn.below (h : DIn w0 W b pv M D x g cap bv iv ov q c qb) {W' : World} (hb : Below W.heap.size W W') : DIn w0 W' b pv M D x g cap bv iv ov q c qb := by
  obtain ⟨cur, hg⟩ := h.gb
  have hlt := xacZ hg
  exact ⟨h.at_.below hb, h.fr, h.len, h.fn, h.pc, (hb.cell (p := ⟨g, _, none⟩) hlt).trans h.c0, (hb.cell (p := ⟨g, _, none⟩) hlt).trans h.c1, (hb.cell (p := ⟨g, _, none⟩) hlt).trans h.c2, (hb.cell (p := ⟨g, _, none⟩) hlt).trans h.c3, ⟨cur, (hb.block g hlt).trans hg⟩, xaoZ h.loc fun k hk => hb.block k (h.loc.lt k hk).2, xaoZ h.stk fun k hk => hb.block k (h.stk.lt k hk).2⟩
theorem DIn.glo (h : DIn w0 W b pv M D x g cap bv iv ov q c qb) : w0.heap.size ≤ g := (h.at_.own.fr.lt g rfl).1
theorem DIn.gne (h : DIn w0 W b pv M D x g cap bv iv ov q c qb) : b ≠ g := fun e => by
  obtain ⟨cur, hg⟩ := h.gb
  have := h.at_.cell
  rw [e, hg] at this
  simp at this
theorem DIn.doer (h : DIn w0 W b pv M D x g cap bv iv ov q c qb) : Doer w0 W b pv M := ⟨_, _, _, _, _, _, h.at_⟩
theorem DIn.fr_row (h : DIn w0 W b pv M D x g cap bv iv ov q c qb) : W.ownsRow w0.heap.size 89 4 (.slice (some ⟨g, 0, none⟩) (D.length + 1) cap) (D.length + 1) (fCells (q ++ [c])) := by
  have := h.at_.own.fr
  rw [show (q ++ [c]).length = D.length + 1 by simp [h.len]] at this
  exact this
theorem DIn.setStk (h : DIn w0 W b pv M D x g cap bv iv ov q c qb) {W2 : World} {sv : Value} {s : List Val} (hg : W.grownBy W2 c.sv.ownBlock) (hr : W2.ownsRow w0.heap.size 113 2 sv s.length (valCells s)) (hat : ∀ z, sv.ownBlock = some z → c.sv.ownBlock = some z ∨ W.heap.size ≤ z) : Doer w0 (W2.setCell ⟨g, D.length * 4 + 3, none⟩ sv) b pv { M with frames := D ++ [{ x with stk := s }] } := by
  have hty : TyRow W c.sv.ownBlock 113 := xcnZ h.stk
  have hA := h.at_
  have hfr2 := xasZ h.fr_row hg hty (by decide)
  have hgs := xakZ W2 ⟨g, D.length * 4 + 3, none⟩ sv
  obtain ⟨cur, hcur⟩ := h.gb
  have hg2 : W2.heap[g]? = some (.cells cur 89 (0, 0)) := (hg.block g (xacZ hcur) (fun e => by
    obtain ⟨cs, fz, hh⟩ := hty g e.symm
    rw [hcur] at hh; simp at hh)).trans hcur
  have hty2 : TyRow W2 (some g) 89 := xatZ hg2
  have hcell2 : W2.heap[b]? = _ := (hg.block b hA.lt (fun e => by
    obtain ⟨cs, fz, hh⟩ := hty b e.symm
    rw [hA.cell] at hh; simp at hh)).trans hA.cell
  have hfrs := hA.own.frs
  rw [h.fr] at hfrs
  have hrow := xbpZ hfr2 (D.length * 4 + 3) sv
  have e1 : (fCells (q ++ [c])).set (D.length * 4 + 3) sv = fCells (q ++ [{ c with sv := sv }]) := by
    rw [xb7Z, xb7Z, List.set_append_right _ _ (by rw [xbxZ, h.len]; omega), xbxZ, h.len]
    simp [fCells]
  rw [e1] at hrow
  refine ⟨.slice (some ⟨g, 0, none⟩) (D.length + 1) cap, bv, iv, ov, q ++ [{ c with sv := sv }], qb, ⟨(hgs.block b (xacZ hcell2) (fun e => h.gne (by simpa using e))).trans hcell2, ⟨?_, ?_, ?_, ?_⟩, ?_, hA.lo⟩⟩
  · have e9 : (q ++ [{ c with sv := sv }]).length = D.length + 1 := by simp [h.len]
    rw [e9]
    exact hrow
  · exact (hfrs.stk hg hr hat).keep hgs hty2 (by decide)
  · exact xasZ (xasZ hA.own.bl hg hty (by decide)) hgs hty2 (by decide)
  · exact (hA.own.rows.keep hg hty (by decide)).keep hgs hty2 (by decide)
  · exact (hA.bel.grown hg hA.bel.size (fun k hk => (h.stk.lt k hk).1)).setCell h.glo _
theorem DIn.setPc (h : DIn w0 W b pv M D x g cap bv iv ov q c qb) (n : Int) : Doer w0 (W.setCell ⟨g, D.length * 4 + 1, none⟩ (.int .i64 n)) b pv { M with frames := D ++ [{ x with pc := n }] } := by
  have hA := h.at_
  have hgs := xakZ W ⟨g, D.length * 4 + 1, none⟩ (.int .i64 n)
  obtain ⟨cur, hcur⟩ := h.gb
  have hty2 : TyRow W (some g) 89 := xatZ hcur
  have hfrs := hA.own.frs
  rw [h.fr] at hfrs
  have hrow := xbpZ h.fr_row (D.length * 4 + 1) (.int .i64 n)
  have e1 : (fCells (q ++ [c])).set (D.length * 4 + 1) (.int .i64 n) = fCells (q ++ [{ c with pc := n }]) := by
    rw [xb7Z, xb7Z, List.set_append_right _ _ (by rw [xbxZ, h.len]; omega), xbxZ, h.len]
    simp [fCells]
  rw [e1] at hrow
  refine ⟨.slice (some ⟨g, 0, none⟩) (D.length + 1) cap, bv, iv, ov, q ++ [{ c with pc := n }], qb, ⟨(hgs.block b hA.lt (fun e => h.gne (by simpa using e))).trans hA.cell, ⟨?_, ?_, ?_, ?_⟩, ?_, hA.lo⟩⟩
  · have e9 : (q ++ [{ c with pc := n }]).length = D.length + 1 := by simp [h.len]
    rw [e9]
    exact hrow
  · exact (hfrs.pc n).keep hgs hty2 (by decide)
  · exact xasZ hA.own.bl hgs hty2 (by decide)
  · exact hA.own.rows.keep hgs hty2 (by decide)
  · exact hA.bel.setCell h.glo _
theorem DIn.setLoc (h : DIn w0 W b pv M D x g cap bv iv ov q c qb) {W2 : World} {s : List Val} (hg : W.grownBy W2 c.lv.ownBlock) (hr : W2.ownsRow w0.heap.size 113 2 c.lv s.length (valCells s)) : Doer w0 W2 b pv { M with frames := D ++ [{ x with loc := s }] } := by
  have hty : TyRow W c.lv.ownBlock 113 := xcnZ h.loc
  have hA := h.at_
  have hcell2 : W2.heap[b]? = _ := (hg.block b hA.lt (fun e => by
    obtain ⟨cs, fz, hh⟩ := hty b e.symm
    rw [hA.cell] at hh; simp at hh)).trans hA.cell
  have hfrs := hA.own.frs
  rw [h.fr] at hfrs
  refine ⟨_, bv, iv, ov, q ++ [c], qb, ⟨hcell2, ⟨xasZ hA.own.fr hg hty (by decide), hfrs.loc hg hr, xasZ hA.own.bl hg hty (by decide), hA.own.rows.keep hg hty (by decide)⟩, hA.bel.grown hg hA.bel.size (fun k hk => (h.loc.lt k hk).1), hA.lo⟩⟩
end
theorem xamZ (b g n cap : Nat) (w : World) (h0 : w.cell? ⟨b, 0, none⟩ = some (.slice (some ⟨g, 0, none⟩) (n + 1) cap)) (hn : n ≤ 100) : Calls Tryz.prog 144 #[.pointer (some ⟨b, 0, none⟩)] w fun e w' => e = .returned (.pointer (some ⟨g, n * 4, none⟩)) ∧ Below w.heap.size w w' := by
  have h1 : (n : Int) < ((n + 1 : Nat) : Int) := by omega
  go_enter Tryz.func144, Tryz.ntmps144
  go_wp2_with fail
  go_quiet (fail)
  go_wp2
  go_ret
  exact ⟨rfl, rfl, rfl, rfl, Nat.le_refl _, fun _ _ => rfl⟩
theorem xgfZ {W : World} {b : Nat} {l : List Val} {n cap : Nat} {t : TypeId} {fz : Nat × Nat} (h : W.heap[b]? = some (.cells (valCells l).toArray t fz)) (hn : n = l.length) (hm : l.length ≤ maxLen) : ValsAt W (.slice (some ⟨b, 0, none⟩) n cap) l := by
  subst hn
  refine ⟨_, cap, rfl, hm, fun k o hk => ⟨b, 0, rfl, xacZ h, ?_, ?_⟩⟩
  · rw [xaaZ h]; simpa using (xcoZ l k o hk).1
  · rw [xaaZ h]; simpa using (xcoZ l k o hk).2
theorem DIn.fcell {w0 W : World} {b : Nat} {pv : Value} {M : Mach} {D : List Frm} {x : Frm} {g cap : Nat} {bv iv ov : Value} {q : List FV} {c : FV} {qb : List Value} (h : DIn w0 W b pv M D x g cap bv iv ov q c qb) : W.cell? ⟨b, 0, none⟩ = some (.slice (some ⟨g, 0, none⟩) (D.length + 1) cap) := by
  rw [xaaZ h.at_.cell]; rfl
theorem bel_set {B : Nat} {w W : World} (h : Below B w W) (a : Addr) (u : Value) : Below B (w.setCell a u) (W.setCell a u) := by
  refine ⟨h.os, h.tape, h.output, by simpa [World.setCell] using h.size, fun k hk => ?_⟩
  simp only [World.setCell, Array.getElem?_modify]
  rw [h.block k hk]
def xg3Z (b : Nat) (w w' : World) : Prop := ∀ g n c, w.cell? ⟨b, 0, none⟩ = some (.slice (some ⟨g, 0, none⟩) n c) → w.grownBy w' (some g) ∧ ∀ j, j ≠ (n - 1) * 4 + 3 → w'.cell? ⟨g, j, none⟩ = w.cell? ⟨g, j, none⟩
def StkCut (b : Nat) (w w' : World) : Prop := ∀ g n c gs m cs, w.cell? ⟨b, 0, none⟩ = some (.slice (some ⟨g, 0, none⟩) n c) → w.cell? ⟨g, (n - 1) * 4 + 3, none⟩ = some (.slice (some ⟨gs, 0, none⟩) m cs) → w'.cell? ⟨g, (n - 1) * 4 + 3, none⟩ = some (.slice (some ⟨gs, 0, none⟩) (m - 1) cs)
def Oth (w w' : World) : Prop := ∀ (k : Nat) (cs : Array Value) (t : TypeId) (fz : Nat × Nat), w.heap[k]? = some (Obj.cells cs t fz) → t ≠ 89 → t ≠ 113 → w'.heap[k]? = some (Obj.cells cs t fz)
def OnlyFS (b : Nat) (w w' : World) : Prop := ∀ g n c sv, w.cell? ⟨b, 0, none⟩ = some (.slice (some ⟨g, 0, none⟩) n c) → w.cell? ⟨g, (n - 1) * 4 + 3, none⟩ = some sv → (∀ k : Nat, k < w.heap.size → k ≠ g → some k ≠ sv.ownBlock → w'.heap[k]? = w.heap[k]?) ∧ ∀ j, j ≠ (n - 1) * 4 + 3 → w'.cell? ⟨g, j, none⟩ = w.cell? ⟨g, j, none⟩
theorem xdnZ {W : World} {B : Nat} {e : TypeId} {size n g : Nat} {v : Value} {xs : List Value} (h : W.ownsRow B e size v n xs) (hg : v.ownBlock = some g) : ∃ cur, W.heap[g]? = some (.cells cur e (0, 0)) := by
  rcases h.2 with ⟨rfl, _⟩ | ⟨g', cap, cur, rfl, _, hh, _⟩
  · cases hg
  · cases hg; exact ⟨_, hh⟩
theorem DIn.ap {w0 W : World} {b : Nat} {pv : Value} {M : Mach} {D : List Frm} {x : Frm} {g cap : Nat} {bv iv ov : Value} {q : List FV} {c : FV} {qb : List Value} (h : DIn w0 W b pv M D x g cap bv iv ov q c qb) {z : Nat} (hz : c.lv.ownBlock = some z) : some z ≠ c.sv.ownBlock := fun e => by
  obtain ⟨r1, r2⟩ := xd3Z (q ++ [c]) q.length c (xbeZ _ _)
  have := h.at_.own.frs.rows.apart _ _ _ _ z r1 r2 hz e.symm
  omega
theorem xkgZ (w0 : World) (b : Nat) (pv : Value) (M : Mach) (D : List Frm) (x : Frm) (s : List Val) (v : Val) (w : World) (h : Doer w0 w b pv M) (hF : M.frames = D ++ [x]) (hs : x.stk = s ++ [v]) (hD : D.length ≤ 100) (hl : s.length ≤ 100) : Calls Tryz.prog 186 #[.pointer (some ⟨b, 0, none⟩)] w fun e w' => e = .returned (.agg #[.bool v.1, .int .i64 v.2]) ∧ Doer w0 w' b pv { M with frames := D ++ [{ x with stk := s }] } ∧ xg3Z b w w' ∧ StkCut b w w' := by
  obtain ⟨g, cap, bv, iv, ov, q, c, qb, H⟩ := h.open hF
  obtain ⟨W1, hW1⟩ : ∃ W1, w.alloc (.cells #[.bool false, .int .i64 0] 113) = W1 := ⟨_, rfl⟩
  have b1 : Below w.heap.size w W1 := by rw [← hW1]; exact (Below.refl _ w).alloc (Nat.le_refl _) _
  have x1 : W1.heap[w.heap.size]? = some (.cells #[.bool false, .int .i64 0] 113 (0, 0)) := by rw [← hW1]; exact World.alloc_heap_new w _
  have HI := hideP (xamZ b g D.length cap W1 (H.below b1).fcell hD)
  have hbw : g < w.heap.size := by obtain ⟨cur, hg⟩ := H.gb; exact xacZ hg
  go_enter Tryz.func186, Tryz.ntmps186
  go_wp2_with fail
  refine HI.out.mono ?_
  rintro e w2 ⟨rfl, b2⟩
  have b12 := xaeZ b1 b2
  have H2 := H.below b12
  have x2 := (b2.block _ (xacZ x1)).trans x1
  have c0 := xaaZ x2 0
  have c1 := xaaZ x2 1
  simp at c0 c1
  have z0 := Lib.frozen_of_heap x2 0
  have z1 := Lib.frozen_of_heap x2 1
  have hst := H2.stk
  rw [hs] at hst
  have hn : (s ++ [v]).length = s.length + 1 := by simp
  rw [hn] at hst
  obtain ⟨gs, caps, hsv⟩ := ownsRow_succ hst
  rw [hsv] at hst
  have c3 := H2.c3
  rw [hsv] at c3
  obtain ⟨cur, hg⟩ := H2.gb
  have z3 := Lib.frozen_of_heap hg (D.length * 4 + 3)
  obtain ⟨ps, cps, hps, hpm, hpc⟩ := xb8Z (l := s ++ [v]) (by rw [hn]; exact hst)
  rw [hn] at hps
  cases hps
  obtain ⟨gb, off, hpp, hgl, d0, d1⟩ := hpc s.length v (xbeZ _ _)
  cases hpp
  have hcap : s.length + 1 ≤ caps := by
    rcases hst.2 with ⟨h1, _⟩ | ⟨g', cap', cur', h1, _, _, h4, _⟩
    · cases h1
    · cases h1; exact h4
  have hne : ¬ g = w.heap.size := by omega
  have hgsw : gs < w.heap.size := by
    have := (H.stk.lt gs (by rw [hsv]; rfl)).2
    exact this
  have HX2 := hideP x2
  have HST := hideP hst
  have HH := hideP H
  have HG := hideP hg
  simp only [Nat.zero_add] at d0 d1
  have hsl : (s.length : Int) < ((s.length + 1 : Nat) : Int) := by omega
  have hne' : ¬ w.heap.size = g := by omega
  have y0 := fun o => xabZ c0 o
  have y1 := fun o => xabZ c1 o
  have y3 := fun o => xabZ c3 o
  have u0 := fun o => Lib.frozen_of_heap (xalZ x2 o) 0
  have u1 := fun o => Lib.frozen_of_heap (xalZ x2 o) 1
  have u3 := fun o => Lib.frozen_of_heap (xalZ hg o) (D.length * 4 + 3)
  clear HI H x1 x2 hst H2 hg hpc hpm h hF hsl
  go_wp2
  refine bodyPost_ret (v := .agg #[.bool v.1, .int .i64 v.2]) (by simp [results, Tryz.results186, go_sem, y0, y1, hne, hne']) rfl ⟨rfl, ?_, ?_, ?_⟩
  rotate_right
  · intro g' n' c' gs' m' cs' h1 h2
    rw [HH.out.fcell] at h1
    cases h1
    rw [Nat.add_sub_cancel, HH.out.c3, hsv] at h2
    cases h2
    rw [Nat.add_sub_cancel, Nat.add_sub_cancel]
    have hgl : g < (w2.alloc (.cells #[.bool v.1, .int .i64 v.2] 113)).heap.size := by have := b12.size; simp; omega
    have e1 : (((w2.alloc (.cells #[.bool v.1, .int .i64 v.2] 113)).setCell ⟨g, D.length * 4 + 3, none⟩ (.slice (some ⟨gs, 0, none⟩) s.length caps)).cell? ⟨g, D.length * 4 + 3, none⟩) = some (.slice (some ⟨gs, 0, none⟩) s.length caps) := World.cell?_setCell_same _ _ _ (y3 _)
    exact ((World.cell?_of_block (Below.heap_setCell _ _ _ g hne)).trans ((World.cell?_of_block (Below.heap_setCell _ _ _ g hne)))).trans e1
  rotate_left
  · intro g' n' c' hg'
    rw [HH.out.fcell] at hg'
    cases hg'
    refine ⟨?_, fun j hj => ?_⟩
    rotate_left
    · have hj' : j ≠ D.length * 4 + 3 := by simpa using hj
      have e1 : (((w2.alloc (.cells #[.bool v.1, .int .i64 v.2] 113)).setCell ⟨g, D.length * 4 + 3, none⟩ (.slice (some ⟨gs, 0, none⟩) s.length caps)).cell? ⟨g, j, none⟩) = w.cell? ⟨g, j, none⟩ := by
        rw [World.cell?_setCell_other _ _ _ _ (fun e => hj' (by cases e; rfl))]
        exact (b12.alloc b12.size _).cell (p := ⟨g, j, none⟩) hbw
      exact ((World.cell?_of_block (Below.heap_setCell _ _ _ g hne)).trans ((World.cell?_of_block (Below.heap_setCell _ _ _ g hne)))).trans e1
    refine xknZ (xknZ ((xgwZ (b12.alloc b12.size _) (some g)).trans (xakZ _ ⟨g, D.length * 4 + 3, none⟩ _)) (xakZ _ ⟨w.heap.size, 0, none⟩ _) (fun j hj => ?_)) (xakZ _ ⟨w.heap.size, 1, none⟩ _) (fun j hj => ?_)
    · cases hj; exact Nat.le_refl _
    · cases hj; exact Nat.le_refl _
  have hst0 := HH.out.stk
  rw [hs, hn, hsv] at hst0
  have hcut := row_cut hst0 s.length (by omega)
  rw [xnhZ, List.take_append_of_le_length (Nat.le_refl _), List.take_of_length_le (Nat.le_refl _)] at hcut
  have hD1 := HH.out.setStk (W2 := w) (World.grownBy.refl _ _) hcut (fun z hz => .inl (by rw [hsv]; exact hz))
  refine hD1.below ?_
  have hsz : (w.setCell ⟨g, D.length * 4 + 3, none⟩ (.slice (some ⟨gs, 0, none⟩) s.length caps)).heap.size = w.heap.size := by simp [World.setCell]
  rw [hsz]
  exact ((bel_set (b12.alloc b12.size _) _ _).setCell (p := ⟨w.heap.size, 0, none⟩) (Nat.le_refl _) _).setCell (p := ⟨w.heap.size, 1, none⟩) (Nat.le_refl _) _
theorem xawZ (w0 : World) (b : Nat) (pv : Value) (M : Mach) (D : List Frm) (x : Frm) (s : List Val) (v : Val) (w : World) (h : Doer w0 w b pv M) (hF : M.frames = D ++ [x]) (hs : x.stk = s ++ [v]) (hD : D.length ≤ 100) (hl : s.length ≤ 100) : Calls Tryz.prog 186 #[.pointer (some ⟨b, 0, none⟩)] w fun e w' => e = .returned (.agg #[.bool v.1, .int .i64 v.2]) ∧ Doer w0 w' b pv { M with frames := D ++ [{ x with stk := s }] } ∧ xg3Z b w w' :=
  (xkgZ w0 b pv M D x s v w h hF hs hD hl).mono fun _ _ h => ⟨h.1, h.2.1, h.2.2.1⟩
theorem xe7Z (w0 : World) (b : Nat) (pv : Value) (M : Mach) (D : List Frm) (x : Frm) (u : Value) (l : List Val) (w : World) (h : Doer w0 w b pv M) (hF : M.frames = D ++ [x]) (hu : ValsAt w u l) (hnl : NilOk u) (hD : D.length ≤ 100) (hl : x.stk.length ≤ 100) (hll : l.length ≤ 100) : Calls Tryz.prog 187 #[.pointer (some ⟨b, 0, none⟩), u] w fun e w' => e = .returned (.tuple #[]) ∧ Doer w0 w' b pv { M with frames := D ++ [{ x with stk := x.stk ++ l }] } ∧ Oth w w' ∧ OnlyFS b w w' := by
  obtain ⟨g, cap, bv, iv, ov, q, c, qb, H⟩ := h.open hF
  have HI := hideP (xamZ b g D.length cap w H.fcell hD)
  obtain ⟨p', c', hu1, _, _⟩ := id hu
  subst hu1
  go_enter Tryz.func187, Tryz.ntmps187
  go_wp2_with fail
  refine HI.out.mono ?_
  rintro e w2 ⟨rfl, b2⟩
  have H2 := H.below b2
  have HU := hideP (hu.below b2)
  have c3 := H2.c3
  obtain ⟨cur, hg⟩ := H2.gb
  have hst := H2.stk
  obtain ⟨ps, cs, hsv⟩ := xaiZ hst
  rw [hsv] at c3
  have hst' := hst
  rw [hsv] at hst'
  have HST := hideP hst'
  have HH := hideP H2
  have HG := hideP hg
  have hb2 := H2.at_.bel.size
  have HF0 := hideP H.fcell
  have HC0 := hideP H.c3
  have HGW : Hid (g < w.heap.size) := by obtain ⟨cur, hg⟩ := H.gb; exact xacZ hg
  clear HI H hst hst' H2 hg hu h hF
  go_wp2_with (at_builtin; refine xfsZ rfl _ _ rfl w0.heap.size _ _ _ rfl HST.out _ l rfl HU.out hnl (by unfold maxLen; omega) (by omega) hb2 ?_; intro v3 w3 hown3 hg3 hat3; obtain ⟨p3, c3', hv3⟩ := xaiZ hown3; subst hv3; have hgg := (hg3.block g (xacZ HG.out) (fun e => by have := xboZ HST.out HG.out (by decide); exact this e)).trans HG.out; have f3 := Lib.frozen_of_heap hgg (D.length * 4 + 3); have c4 := (xaaZ hgg (D.length * 4 + 3)).trans ((xaaZ HG.out (D.length * 4 + 3)).symm.trans c3); have HO3 := hideP hown3; have HG3 := hideP hg3; have HAT := hideP hat3; clear hown3 hg3 hat3 hgg)
  go_end0
  refine ⟨rfl, HH.out.setStk (by rw [hsv]; exact HG3.out) ?_ (fun z hz => ?_), ?_, ?_⟩
  rotate_right
  · intro g' n' c' sv' h1 h2
    rw [HF0.out] at h1
    cases h1
    rw [Nat.add_sub_cancel, HC0.out] at h2
    cases h2
    have hgl := xacZ HG.out
    refine ⟨fun k hk hkg hks => ?_, fun j hj => ?_⟩
    · have k3 := (HG3.out.block k (Nat.lt_of_lt_of_le hk b2.size) (by rw [hsv] at hks; exact hks)).trans (b2.block k hk)
      exact ((xakZ w3 ⟨g, D.length * 4 + 3, none⟩ _).block k (Nat.lt_of_lt_of_le (Nat.lt_of_lt_of_le hk b2.size) HG3.out.size) (fun e => hkg (by simpa using e))).trans k3
    · have hj' : j ≠ D.length * 4 + 3 := by simpa using hj
      rw [World.cell?_setCell_other _ _ _ _ (fun e => hj' (by cases e; rfl))]
      exact (World.cell?_of_block (a := ⟨g, j, none⟩) (HG3.out.block g hgl (xboZ HST.out HG.out (by decide)))).trans (b2.cell (p := ⟨g, j, none⟩) HGW.out)
  rotate_right
  · intro k cs t fz hk t1 t2
    have k2 := (b2.block k (xacZ hk)).trans hk
    have k3 := (HG3.out.block k (xacZ k2) (xboZ HST.out k2 t2)).trans k2
    refine ((xakZ w3 ⟨g, D.length * 4 + 3, none⟩ _).block k (xacZ k3) (fun e => ?_)).trans k3
    have e' : k = g := by simpa using e
    rw [e', HG.out] at k2
    simp at k2
    exact t1 k2.2.1.symm
  · have := HO3.out
    rw [List.length_append, xlaZ]
    exact this
  · rcases HAT.out with h1 | h1
    · exact .inl (by rw [hsv]; exact h1.symm.trans hz)
    · right
      rw [h1] at hz
      cases hz
      exact Nat.le_refl _
theorem xbtZ (w0 : World) (b : Nat) (pv : Value) (M : Mach) (D : List Frm) (x : Frm) (n : Int) (w : World) (h : Doer w0 w b pv M) (hF : M.frames = D ++ [x]) (hD : D.length ≤ 100) (hl : x.stk.length ≤ 100) : Calls Tryz.prog 184 #[.pointer (some ⟨b, 0, none⟩), .int .i64 n] w fun e w' => e = .returned (.tuple #[]) ∧ Doer w0 w' b pv { M with frames := D ++ [{ x with stk := x.stk ++ [(false, n)] }] } ∧ Oth w w' := by
  have hb : Below w.heap.size w (w.alloc (.cells #[.bool false, .int .i64 n] 113)) := (Below.refl _ w).alloc (Nat.le_refl _) _
  have HP := hideP (xe7Z w0 b pv M D x (.slice (some ⟨w.heap.size, 0, none⟩) 1 1) [(false, n)] _ (h.below hb) hF (xgfZ (World.alloc_heap_new w _) rfl (by unfold maxLen; simp)) (xavZ _ _ _) hD hl (by simp))
  clear h
  go_enter Tryz.func184, Tryz.ntmps184
  go_wp2_with (go_at_call 187; refine HP.out.mono ?_; rintro e w2 ⟨rfl, h2, o2, -⟩; have H2 := hideP h2; have O2 := hideP o2; clear h2 o2)
  go_end0
  exact ⟨rfl, H2.out, fun k cs t fz hk t1 t2 => O2.out k cs t fz (xalZ hk _) t1 t2⟩
theorem xi7Z (w0 : World) (b : Nat) (pv : Value) (M : Mach) (D : List Frm) (x : Frm) (n : Int) (w : World) (h : Doer w0 w b pv M) (hF : M.frames = D ++ [x]) (hD : D.length ≤ 100) (hl : x.stk.length ≤ 100) : Calls Tryz.prog 185 #[.pointer (some ⟨b, 0, none⟩), .int .i64 n] w fun e w' => e = .returned (.tuple #[]) ∧ Doer w0 w' b pv { M with frames := D ++ [{ x with stk := x.stk ++ [(true, n)] }] } ∧ Oth w w' := by
  have hb : Below w.heap.size w (w.alloc (.cells #[.bool true, .int .i64 n] 113)) := (Below.refl _ w).alloc (Nat.le_refl _) _
  have HP := hideP (xe7Z w0 b pv M D x (.slice (some ⟨w.heap.size, 0, none⟩) 1 1) [(true, n)] _ (h.below hb) hF (xgfZ (World.alloc_heap_new w _) rfl (by unfold maxLen; simp)) (xavZ _ _ _) hD hl (by simp))
  clear h
  go_enter Tryz.func185, Tryz.ntmps185
  go_wp2_with (go_at_call 187; refine HP.out.mono ?_; rintro e w2 ⟨rfl, h2, o2, -⟩; have H2 := hideP h2; have O2 := hideP o2; clear h2 o2)
  go_end0
  exact ⟨rfl, H2.out, fun k cs t fz hk t1 t2 => O2.out k cs t fz (xalZ hk _) t1 t2⟩
end Go.Proofs.YtmjjkenblfndgaaGreat


