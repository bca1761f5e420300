/- My texts My Ui: what of them is needed, joined. -/
import Derived.Laws.StructEq
import Derived.Deep.QuietTactic
import Derived.BigQuiet
import Derived.Test.YtcadpoknolefpaaGreatF10
import Derived.Test.YtcadpoknolefpaaGreatF23
import Derived.Test.YtcadpoknolefpaaGreatF25
import Derived.Test.YtcadpoknolefpaaGreatF27
set_option maxRecDepth 100000
set_option maxHeartbeats 8000000
/- the reference's SameMachine, OpOf. -/
namespace Go.Proofs.YtcadpoknolefpaaGreat
open Go.RowKit
set_option linter.unusedSimpArgs false
set_option linter.unusedVariables false
theorem neq_val (c : Bool) (a : Int) (c' : Bool) (a' : Int) (w : World) : (binOp .neq 50 (.agg #[.bool c, .int .i64 a]) (.agg #[.bool c', .int .i64 a'])).run Tryz.prog w = .ok (.bool (!(c == c' && a == a'))) w := by
  have u3 := Tryz.underlying3
  have a3 := Tryz.isAgg3
  have z3 := Tryz.sizeOf3
  have u4 := Tryz.underlying4
  have a4 := Tryz.isAgg4
  have z4 := Tryz.sizeOf4
  have hS : Tryz.prog.underlying 50 = some (.struct (Tryz.prog.fieldsOf 50)) := by kernel_rfl
  have hp : Tryz.prog.stoodInHeld 50 = false := by kernel_rfl
  rw [run_neq_struct, show (10000 : Nat) = 9999 + 1 from rfl, run_equalIn_agg w 9999 50 _ _ hS hp]
  simp only [Program.fieldsOf, Tryz.underlying50]
  go_simp
  by_cases h1 : c = c' <;> by_cases h2 : a = a' <;> simp [h1, h2]
theorem xnoZ : Tryz.prog.eqGuardType Tryz.prog.depth 50 = false := by kernel_rfl
theorem xb5Z (l m : List Val) (v u : Value) (w : World) (hl : ValsAt w v l) (hm : ValsAt w u m) : Calls Tryz.prog 65 #[v, u] w fun e w' => e = .returned (.bool (decide (l = m))) ∧ Below w.heap.size w w' := by
  obtain ⟨p, cap, rfl, hlm, hc⟩ := hl
  obtain ⟨q, cap', rfl, hmm, hd⟩ := hm
  unfold maxLen at hlm hmm
  by_cases hlen : l.length = m.length
  · have hlen' : ((l.length : Int) != (m.length : Int)) = false := by simp; omega
    have HLEN : Hid (l.length = m.length) := hlen
    have HC : Hid (∀ k o, l[k]? = some o → ∃ b off, p = some ⟨b, off, none⟩ ∧ b < w.heap.size ∧ w.cell? ⟨b, off + k * 2, none⟩ = some (.bool o.1) ∧ w.cell? ⟨b, off + k * 2 + 1, none⟩ = some (.int .i64 o.2)) := hc
    have HD : Hid (∀ k o, m[k]? = some o → ∃ b off, q = some ⟨b, off, none⟩ ∧ b < w.heap.size ∧ w.cell? ⟨b, off + k * 2, none⟩ = some (.bool o.1) ∧ w.cell? ⟨b, off + k * 2 + 1, none⟩ = some (.int .i64 o.2)) := hd
    clear hc hd hlen
    go_enter Tryz.func65, Tryz.ntmps65
    go_wp2
    go_loopw [5] (fun i wr => ∃ k : Nat, k ≤ l.length ∧ i = .int .i64 k ∧ l.take k = m.take k ∧ Below w.heap.size w wr) (fun i _ => l.length - (intOf i).toNat)
    case atStart => exact ⟨0, Nat.zero_le _, rfl, by simp, Below.refl _ _⟩
    case round =>
      obtain ⟨k, hk, rfl, htk, hbw⟩ := hrel
      have HT : Hid (l.take k = m.take k) := htk
      clear htk
      by_cases hlt : k < l.length
      · have hlt2 : k < m.length := by have := HLEN.out; omega
        obtain ⟨⟨c, a⟩, ho⟩ : ∃ o, l[k]? = some o := ⟨l[k], List.getElem?_eq_some_iff.2 ⟨hlt, rfl⟩⟩
        obtain ⟨⟨c', a'⟩, ho'⟩ : ∃ o, m[k]? = some o := ⟨m[k], List.getElem?_eq_some_iff.2 ⟨hlt2, rfl⟩⟩
        obtain ⟨b, off, rfl, hb, h0, h1⟩ := HC.out k _ ho
        obtain ⟨b', off', rfl, hb', h0', h1'⟩ := HD.out k _ ho'
        have g0 := (hbw.cell (p := ⟨b, off + k * 2, none⟩) hb).trans h0
        have g1 := (hbw.cell (p := ⟨b, off + k * 2 + 1, none⟩) hb).trans h1
        have g0' := (hbw.cell (p := ⟨b', off' + k * 2, none⟩) hb').trans h0'
        have g1' := (hbw.cell (p := ⟨b', off' + k * 2 + 1, none⟩) hb').trans h1'
        have hlti : (k : Int) < (l.length : Int) := by omega
        have hlti2 : (k : Int) < (m.length : Int) := by omega
        have hg := xnoZ
        have HO : Hid (l[k]? = some (c, a)) := ho
        have HO' : Hid (m[k]? = some (c', a')) := ho'
        clear ho ho' h0 h1 h0' h1'
        by_cases he : c = c' ∧ a = a'
        · have hneq : ∀ w, (binOp .neq 50 (.agg #[.bool c, .int .i64 a]) (.agg #[.bool c', .int .i64 a'])).run Tryz.prog w = .ok (.bool false) w := fun w => by rw [neq_val]; simp [he]
          have HE : Hid (c = c' ∧ a = a') := he
          clear he
          go_wp2
          go_quiet (fail)
          go_wp2
          go_roundw
          case rel => exact ⟨k + 1, by omega, by go_num, by rw [xa5Z l k _ HO.out, xa5Z m k _ HO'.out, HT.out, HE.out.1, HE.out.2], below_drewN hbw _⟩
          case measure => simp [intOf]; omega
        · have hneq : ∀ w, (binOp .neq 50 (.agg #[.bool c, .int .i64 a]) (.agg #[.bool c', .int .i64 a'])).run Tryz.prog w = .ok (.bool true) w := fun w => by rw [neq_val]; by_cases h1 : c = c' <;> by_cases h2 : a = a' <;> simp [h1, h2] <;> exact he ⟨h1, h2⟩
          have HE : Hid (¬ (c = c' ∧ a = a')) := he
          clear he
          go_wp2
          go_quiet (fail)
          go_wp2
          go_ret
          refine ⟨?_, below_drewN hbw _⟩
          have : ¬ l = m := fun h => by
            have h1 := HO.out
            rw [h, HO'.out] at h1
            simp at h1
            exact HE.out ⟨h1.1.symm, h1.2.symm⟩
          simp [this]
      · have hlt' : ¬ (k : Int) < (l.length : Int) := by omega
        go_wp2
        go_ret
        refine ⟨?_, hbw⟩
        have : l = m := by
          have h := HT.out
          rwa [List.take_of_length_le (by omega), List.take_of_length_le (by have := HLEN.out; omega)] at h
        simp [this]
  · have hlen' : ((l.length : Int) != (m.length : Int)) = true := by simp; omega
    have hne : ¬ l = m := fun h => hlen (by rw [h])
    clear hc hd
    have HN : Hid (¬ l = m) := hne
    clear hne hlen
    go_enter Tryz.func65, Tryz.ntmps65
    go_wp2
    go_ret
    exact ⟨by simp [HN.out], Below.refl _ _⟩
theorem frm_ext {x y : Frm} (h1 : x.fn = y.fn) (h2 : x.pc = y.pc) (h3 : x.loc = y.loc) (h4 : x.stk = y.stk) : x = y := by
  cases x; cases y; simp_all
theorem mach_ext {x y : Mach} (h1 : x.frames = y.frames) (h2 : x.blocks = y.blocks) (h3 : x.inp = y.inp) (h4 : x.out = y.out) (h5 : x.status = y.status) (h6 : x.trap = y.trap) : x = y := by
  cases x; cases y; simp_all
def SameIs {α : Type} (a b : α) (w : World) (e : Ending) (w' : World) : Prop := ∃ r, e = .returned (.bool r) ∧ (r = true ↔ a = b) ∧ Below w.heap.size w w'
theorem xc5Z {α : Type} {a b : α} {w w' : World} (h : ¬ a = b) (hb : Below w.heap.size w w') : SameIs a b w (.returned (.bool false)) w' := ⟨false, rfl, by simp [h], hb⟩
theorem same_yes {α : Type} {a b : α} {w w' : World} (h : a = b) (hb : Below w.heap.size w w') : SameIs a b w (.returned (.bool true)) w' := ⟨true, rfl, by simp [h], hb⟩
theorem xhxZ (A B : Mach) (fv bv iv ov fv' bv' iv' ov' : Value) (w : World) (hA : MachAt w fv bv iv ov A) (hB : MachAt w fv' bv' iv' ov' B) : Calls Tryz.prog 24 #[.agg #[fv, bv, iv, ov, .int .i64 A.status, .int .i64 A.trap], .agg #[fv', bv', iv', ov', .int .i64 B.status, .int .i64 B.trap]] w (SameIs A B w) := by
  obtain ⟨pf, cf, hfv, hfm, -, hfc⟩ := id hA.fr
  obtain ⟨pb, cb, hbv, -, -⟩ := id hA.bl
  obtain ⟨pi, ci, hiv, -⟩ := hA.inp.shp
  obtain ⟨po, co, hov, -⟩ := hA.out.shp
  obtain ⟨pf', cf', hfv', hfm', -, hfc'⟩ := id hB.fr
  obtain ⟨pb', cb', hbv', -, -⟩ := id hB.bl
  obtain ⟨pi', ci', hiv', -⟩ := hB.inp.shp
  obtain ⟨po', co', hov', -⟩ := hB.out.shp
  subst hfv hbv hiv hov hfv' hbv' hiv' hov'
  unfold maxLen at hfm hfm'
  obtain ⟨W2, hW2⟩ : ∃ W2, (w.alloc (.cells #[.slice pf A.frames.length cf, .slice pb A.blocks.length cb, .slice pi A.inp.length ci, .slice po A.out.length co, .int .i64 A.status, .int .i64 A.trap] 29)).alloc (.cells #[.slice pf' B.frames.length cf', .slice pb' B.blocks.length cb', .slice pi' B.inp.length ci', .slice po' B.out.length co', .int .i64 B.status, .int .i64 B.trap] 29) = W2 := ⟨_, rfl⟩
  have hb2 : Below w.heap.size w W2 := by rw [← hW2]; exact ((Below.refl _ w).alloc (Nat.le_refl _) _).alloc (by simp) _
  have x1 : W2.heap[w.heap.size]? = some (.cells #[.slice pf A.frames.length cf, .slice pb A.blocks.length cb, .slice pi A.inp.length ci, .slice po A.out.length co, .int .i64 A.status, .int .i64 A.trap] 29 (0, 0)) := by rw [← hW2]; exact xakZ (World.alloc_heap_new w _) _
  have x2 : W2.heap[w.heap.size + 1]? = some (.cells #[.slice pf' B.frames.length cf', .slice pb' B.blocks.length cb', .slice pi' B.inp.length ci', .slice po' B.out.length co', .int .i64 B.status, .int .i64 B.trap] 29 (0, 0)) := by rw [← hW2]; exact xbaZ w _ _
  have l1 := xacZ x1
  have l2 := xacZ x2
  have a0 := xaaZ x1 0
  have a1 := xaaZ x1 1
  have a2 := xaaZ x1 2
  have a3 := xaaZ x1 3
  have a4 := xaaZ x1 4
  have a5 := xaaZ x1 5
  have b0 := xaaZ x2 0
  have b1 := xaaZ x2 1
  have b3 := xaaZ x2 3
  have b4 := xaaZ x2 4
  have b5 := xaaZ x2 5
  simp at a0 a1 a2 a3 a4 a5
  have bb2 := xaaZ x2 2
  simp at b0 b1 bb2 b3 b4 b5
  have HSB : Hid (∀ W, Below W2.heap.size W2 W → Calls Tryz.prog 64 #[.slice pb A.blocks.length cb, .slice pb' B.blocks.length cb'] W fun e w' => e = .returned (.bool (decide (A.blocks = B.blocks))) ∧ Below W.heap.size W w') := fun W hW => xm4Z _ _ _ _ W ((hA.bl.below hb2).below hW) ((hB.bl.below hb2).below hW)
  have HSI : Hid (∀ W, Below W2.heap.size W2 W → Calls Tryz.prog 26 #[.slice pi A.inp.length ci, .slice pi' B.inp.length ci'] W fun e w' => e = .returned (.bool (decide (A.inp = B.inp))) ∧ Below W.heap.size W w') := fun W hW => xczZ _ _ _ _ W ((hA.inp.at_.below hb2).below hW) ((hB.inp.at_.below hb2).below hW)
  have HSO : Hid (∀ W, Below W2.heap.size W2 W → Calls Tryz.prog 26 #[.slice po A.out.length co, .slice po' B.out.length co'] W fun e w' => e = .returned (.bool (decide (A.out = B.out))) ∧ Below W.heap.size W w') := fun W hW => xczZ _ _ _ _ W ((hA.out.at_.below hb2).below hW) ((hB.out.at_.below hb2).below hW)
  have HX1 := hideP x1
  have HX2 := hideP x2
  have HFC := hideP hfc
  have HFC' := hideP hfc'
  clear hA hB x1 x2 hfc hfc'
  by_cases hst : A.status = B.status
  rotate_left
  · have hst' := xdiZ hst
    have HN := hideP hst
    clear hst
    go_enter Tryz.func24, Tryz.ntmps24
    go_wp2
    go_ret
    exact xc5Z (fun h => HN.out (by rw [h])) (hb2)
  have hst' := xc9Z hst
  have HST := hideP hst
  clear hst
  by_cases htr : A.trap = B.trap
  rotate_left
  · have htr' := xdiZ htr
    have HN := hideP htr
    clear htr
    go_enter Tryz.func24, Tryz.ntmps24
    go_wp2
    go_ret
    exact xc5Z (fun h => HN.out (by rw [h])) (hb2)
  have htr' := xc9Z htr
  have HTR := hideP htr
  clear htr
  by_cases hbl : A.blocks = B.blocks
  rotate_left
  · have HN := hideP hbl
    clear hbl
    go_enter Tryz.func24, Tryz.ntmps24
    go_wp2_with fail
    refine (HSB.out W2 (Below.refl _ _)).mono ?_
    rintro e w3 ⟨rfl, hb3⟩
    rw [decide_eq_false HN.out]
    have c2 := (hb3.cell (p := ⟨w.heap.size, 2, none⟩) l1).trans a2
    have d2 := (hb3.cell (p := ⟨w.heap.size + 1, 2, none⟩) l2).trans bb2
    have c3 := (hb3.cell (p := ⟨w.heap.size, 3, none⟩) l1).trans a3
    have d3 := (hb3.cell (p := ⟨w.heap.size + 1, 3, none⟩) l2).trans b3
    have c0 := (hb3.cell (p := ⟨w.heap.size, 0, none⟩) l1).trans a0
    have d0 := (hb3.cell (p := ⟨w.heap.size + 1, 0, none⟩) l2).trans b0
    go_wp2
    go_ret
    exact xc5Z (fun h => HN.out (by rw [h])) (xadZ hb2 hb3)
  have HBL := hideP hbl
  clear hbl
  by_cases hin : A.inp = B.inp
  rotate_left
  · have HN := hideP hin
    clear hin
    go_enter Tryz.func24, Tryz.ntmps24
    go_wp2_with fail
    refine (HSB.out W2 (Below.refl _ _)).mono ?_
    rintro e w3 ⟨rfl, hb3⟩
    rw [decide_eq_true HBL.out]
    have c2 := (hb3.cell (p := ⟨w.heap.size, 2, none⟩) l1).trans a2
    have d2 := (hb3.cell (p := ⟨w.heap.size + 1, 2, none⟩) l2).trans bb2
    have c3 := (hb3.cell (p := ⟨w.heap.size, 3, none⟩) l1).trans a3
    have d3 := (hb3.cell (p := ⟨w.heap.size + 1, 3, none⟩) l2).trans b3
    have c0 := (hb3.cell (p := ⟨w.heap.size, 0, none⟩) l1).trans a0
    have d0 := (hb3.cell (p := ⟨w.heap.size + 1, 0, none⟩) l2).trans b0
    go_wp2_with fail
    refine (HSI.out w3 hb3).mono ?_
    rintro e w4 ⟨rfl, hb4'⟩
    rw [decide_eq_false HN.out]
    have hb4 := hb3.trans (hb4'.mono hb3.size)
    clear hb4'
    have f3 := (hb4.cell (p := ⟨w.heap.size, 3, none⟩) l1).trans a3
    have g3 := (hb4.cell (p := ⟨w.heap.size + 1, 3, none⟩) l2).trans b3
    have f0 := (hb4.cell (p := ⟨w.heap.size, 0, none⟩) l1).trans a0
    have g0 := (hb4.cell (p := ⟨w.heap.size + 1, 0, none⟩) l2).trans b0
    go_wp2
    go_ret
    exact xc5Z (fun h => HN.out (by rw [h])) (xadZ hb2 hb4)
  have HIN := hideP hin
  clear hin
  by_cases hou : A.out = B.out
  rotate_left
  · have HN := hideP hou
    clear hou
    go_enter Tryz.func24, Tryz.ntmps24
    go_wp2_with fail
    refine (HSB.out W2 (Below.refl _ _)).mono ?_
    rintro e w3 ⟨rfl, hb3⟩
    rw [decide_eq_true HBL.out]
    have c2 := (hb3.cell (p := ⟨w.heap.size, 2, none⟩) l1).trans a2
    have d2 := (hb3.cell (p := ⟨w.heap.size + 1, 2, none⟩) l2).trans bb2
    have c3 := (hb3.cell (p := ⟨w.heap.size, 3, none⟩) l1).trans a3
    have d3 := (hb3.cell (p := ⟨w.heap.size + 1, 3, none⟩) l2).trans b3
    have c0 := (hb3.cell (p := ⟨w.heap.size, 0, none⟩) l1).trans a0
    have d0 := (hb3.cell (p := ⟨w.heap.size + 1, 0, none⟩) l2).trans b0
    go_wp2_with fail
    refine (HSI.out w3 hb3).mono ?_
    rintro e w4 ⟨rfl, hb4'⟩
    rw [decide_eq_true HIN.out]
    have hb4 := hb3.trans (hb4'.mono hb3.size)
    clear hb4'
    have f3 := (hb4.cell (p := ⟨w.heap.size, 3, none⟩) l1).trans a3
    have g3 := (hb4.cell (p := ⟨w.heap.size + 1, 3, none⟩) l2).trans b3
    have f0 := (hb4.cell (p := ⟨w.heap.size, 0, none⟩) l1).trans a0
    have g0 := (hb4.cell (p := ⟨w.heap.size + 1, 0, none⟩) l2).trans b0
    go_wp2_with fail
    refine (HSO.out w4 hb4).mono ?_
    rintro e w5 ⟨rfl, hb5'⟩
    rw [decide_eq_false HN.out]
    have hb5 := hb4.trans (hb5'.mono hb4.size)
    clear hb5'
    have m0 := (hb5.cell (p := ⟨w.heap.size, 0, none⟩) l1).trans a0
    have n0 := (hb5.cell (p := ⟨w.heap.size + 1, 0, none⟩) l2).trans b0
    go_wp2
    go_ret
    exact xc5Z (fun h => HN.out (by rw [h])) (xadZ hb2 hb5)
  have HOU := hideP hou
  clear hou
  by_cases hfl : A.frames.length = B.frames.length
  rotate_left
  · have hfl' : ((A.frames.length : Int) != (B.frames.length : Int)) = true := by simp; omega
    have HN := hideP hfl
    clear hfl
    go_enter Tryz.func24, Tryz.ntmps24
    go_wp2_with fail
    refine (HSB.out W2 (Below.refl _ _)).mono ?_
    rintro e w3 ⟨rfl, hb3⟩
    rw [decide_eq_true HBL.out]
    have c2 := (hb3.cell (p := ⟨w.heap.size, 2, none⟩) l1).trans a2
    have d2 := (hb3.cell (p := ⟨w.heap.size + 1, 2, none⟩) l2).trans bb2
    have c3 := (hb3.cell (p := ⟨w.heap.size, 3, none⟩) l1).trans a3
    have d3 := (hb3.cell (p := ⟨w.heap.size + 1, 3, none⟩) l2).trans b3
    have c0 := (hb3.cell (p := ⟨w.heap.size, 0, none⟩) l1).trans a0
    have d0 := (hb3.cell (p := ⟨w.heap.size + 1, 0, none⟩) l2).trans b0
    go_wp2_with fail
    refine (HSI.out w3 hb3).mono ?_
    rintro e w4 ⟨rfl, hb4'⟩
    rw [decide_eq_true HIN.out]
    have hb4 := hb3.trans (hb4'.mono hb3.size)
    clear hb4'
    have f3 := (hb4.cell (p := ⟨w.heap.size, 3, none⟩) l1).trans a3
    have g3 := (hb4.cell (p := ⟨w.heap.size + 1, 3, none⟩) l2).trans b3
    have f0 := (hb4.cell (p := ⟨w.heap.size, 0, none⟩) l1).trans a0
    have g0 := (hb4.cell (p := ⟨w.heap.size + 1, 0, none⟩) l2).trans b0
    go_wp2_with fail
    refine (HSO.out w4 hb4).mono ?_
    rintro e w5 ⟨rfl, hb5'⟩
    rw [decide_eq_true HOU.out]
    have hb5 := hb4.trans (hb5'.mono hb4.size)
    clear hb5'
    have m0 := (hb5.cell (p := ⟨w.heap.size, 0, none⟩) l1).trans a0
    have n0 := (hb5.cell (p := ⟨w.heap.size + 1, 0, none⟩) l2).trans b0
    go_wp2
    go_ret
    exact xc5Z (fun h => HN.out (by rw [h])) (xadZ hb2 hb5)
  have hfl' : ((A.frames.length : Int) != (B.frames.length : Int)) = false := by simp; omega
  have HFL := hideP hfl
  clear hfl
  go_enter Tryz.func24, Tryz.ntmps24
  go_wp2_with fail
  refine (HSB.out W2 (Below.refl _ _)).mono ?_
  rintro e w3 ⟨rfl, hb3⟩
  rw [decide_eq_true HBL.out]
  have c2 := (hb3.cell (p := ⟨w.heap.size, 2, none⟩) l1).trans a2
  have d2 := (hb3.cell (p := ⟨w.heap.size + 1, 2, none⟩) l2).trans bb2
  have c3 := (hb3.cell (p := ⟨w.heap.size, 3, none⟩) l1).trans a3
  have d3 := (hb3.cell (p := ⟨w.heap.size + 1, 3, none⟩) l2).trans b3
  have c0 := (hb3.cell (p := ⟨w.heap.size, 0, none⟩) l1).trans a0
  have d0 := (hb3.cell (p := ⟨w.heap.size + 1, 0, none⟩) l2).trans b0
  go_wp2_with fail
  refine (HSI.out w3 hb3).mono ?_
  rintro e w4 ⟨rfl, hb4'⟩
  rw [decide_eq_true HIN.out]
  have hb4 := hb3.trans (hb4'.mono hb3.size)
  clear hb4'
  have f3 := (hb4.cell (p := ⟨w.heap.size, 3, none⟩) l1).trans a3
  have g3 := (hb4.cell (p := ⟨w.heap.size + 1, 3, none⟩) l2).trans b3
  have f0 := (hb4.cell (p := ⟨w.heap.size, 0, none⟩) l1).trans a0
  have g0 := (hb4.cell (p := ⟨w.heap.size + 1, 0, none⟩) l2).trans b0
  go_wp2_with fail
  refine (HSO.out w4 hb4).mono ?_
  rintro e w5 ⟨rfl, hb5'⟩
  rw [decide_eq_true HOU.out]
  have hb5 := hb4.trans (hb5'.mono hb4.size)
  clear hb5'
  have m0 := (hb5.cell (p := ⟨w.heap.size, 0, none⟩) l1).trans a0
  have n0 := (hb5.cell (p := ⟨w.heap.size + 1, 0, none⟩) l2).trans b0
  go_wp2
  go_loopw [5] (fun i wr => ∃ k : Nat, k ≤ A.frames.length ∧ i = .int .i64 k ∧ A.frames.take k = B.frames.take k ∧ Below W2.heap.size W2 wr) (fun i _ => A.frames.length - (intOf i).toNat)
  case atStart => exact ⟨0, Nat.zero_le _, rfl, by simp, hb5⟩
  case round =>
    obtain ⟨k, hk, rfl, htk, hbw2⟩ := hrel
    have HT := hideP htk
    clear htk
    have hbw := hb2.trans (hbw2.mono hb2.size)
    have r0 := (hbw2.cell (p := ⟨w.heap.size, 0, none⟩) l1).trans a0
    have s0 := (hbw2.cell (p := ⟨w.heap.size + 1, 0, none⟩) l2).trans b0
    have hszr := hbw2.size
    by_cases hlt : k < A.frames.length
    · have hlt2 : k < B.frames.length := by have := HFL.out; omega
      obtain ⟨x, ho⟩ := xaiZ hlt
      obtain ⟨y, ho'⟩ := xaiZ hlt2
      obtain ⟨b, off, lv, sv, rfl, hb, x0, x1, x2, x3, hL, -, hS, -⟩ := HFC.out k _ ho
      obtain ⟨b', off', lv', sv', rfl, hb', x0', x1', x2', x3', hL', -, hS', -⟩ := HFC'.out k _ ho'
      have g0 := (hbw.cell (p := ⟨b, off + k * 4, none⟩) hb).trans x0
      have g1 := (hbw.cell (p := ⟨b, off + k * 4 + 1, none⟩) hb).trans x1
      have g2 := (hbw.cell (p := ⟨b, off + k * 4 + 2, none⟩) hb).trans x2
      have g3 := (hbw.cell (p := ⟨b, off + k * 4 + 3, none⟩) hb).trans x3
      have g0' := (hbw.cell (p := ⟨b', off' + k * 4, none⟩) hb').trans x0'
      have g1' := (hbw.cell (p := ⟨b', off' + k * 4 + 1, none⟩) hb').trans x1'
      have g2' := (hbw.cell (p := ⟨b', off' + k * 4 + 2, none⟩) hb').trans x2'
      have g3' := (hbw.cell (p := ⟨b', off' + k * 4 + 3, none⟩) hb').trans x3'
      have hLr := hL.below hbw
      have hLr' := hL'.below hbw
      have hSr := hS.below hbw
      have hSr' := hS'.below hbw
      have HO := hideP ho
      have HO' := hideP ho'
      clear ho ho' x0 x1 x2 x3 x0' x1' x2' x3'
      obtain ⟨p1, q1, rfl, -, -⟩ := hL
      obtain ⟨p2, q2, rfl, -, -⟩ := hS
      obtain ⟨p1', q1', rfl, -, -⟩ := hL'
      obtain ⟨p2', q2', rfl, -, -⟩ := hS'
      have hlti : (k : Int) < (A.frames.length : Int) := by omega
      have hlti2 : (k : Int) < (B.frames.length : Int) := by omega
      have y0 := fun o => xabZ g0 o
      have yy0 := fun o o' => xabZ (xabZ g0 o) o'
      have y1 := fun o => xabZ g1 o
      have yy1 := fun o o' => xabZ (xabZ g1 o) o'
      have y2 := fun o => xabZ g2 o
      have yy2 := fun o o' => xabZ (xabZ g2 o) o'
      have y3 := fun o => xabZ g3 o
      have yy3 := fun o o' => xabZ (xabZ g3 o) o'
      have y4 := fun o => xabZ g0' o
      have yy4 := fun o o' => xabZ (xabZ g0' o) o'
      have y5 := fun o => xabZ g1' o
      have yy5 := fun o o' => xabZ (xabZ g1' o) o'
      have y6 := fun o => xabZ g2' o
      have yy6 := fun o o' => xabZ (xabZ g2' o) o'
      have y7 := fun o => xabZ g3' o
      have yy7 := fun o o' => xabZ (xabZ g3' o) o'
      have y8 := fun o => xabZ r0 o
      have yy8 := fun o o' => xabZ (xabZ r0 o) o'
      have y9 := fun o => xabZ s0 o
      have yy9 := fun o o' => xabZ (xabZ s0 o) o'
      have hn0 : ¬ b = wr.heap.size := by omega
      have hn1 : ¬ b' = wr.heap.size := by omega
      have hn2 : ¬ b = wr.heap.size + 1 := by omega
      have hn3 : ¬ b' = wr.heap.size + 1 := by omega
      have hn4 : ¬ w.heap.size = wr.heap.size := by omega
      have hn5 : ¬ w.heap.size = wr.heap.size + 1 := by omega
      have hn6 : ¬ w.heap.size + 1 = wr.heap.size := by omega
      obtain ⟨WA, hWA⟩ : ∃ W, ((wr.alloc (.cells #[.int .i64 x.fn, .int .i64 x.pc, .slice p1 x.loc.length q1, .slice p2 x.stk.length q2] 48)).alloc (.cells #[.int .i64 y.fn, .int .i64 y.pc, .slice p1' y.loc.length q1', .slice p2' y.stk.length q2'] 48)).drew = W := ⟨_, rfl⟩
      have hbA : Below wr.heap.size wr WA := by rw [← hWA]; exact (((Below.refl _ wr).alloc (Nat.le_refl _) _).alloc (by simp) _).drew
      have h1A : WA.heap[wr.heap.size]? = some (.cells #[.int .i64 x.fn, .int .i64 x.pc, .slice p1 x.loc.length q1, .slice p2 x.stk.length q2] 48 (0, 0)) := by rw [← hWA]; exact xakZ (World.alloc_heap_new wr _) _
      have h2A : WA.heap[wr.heap.size + 1]? = some (.cells #[.int .i64 y.fn, .int .i64 y.pc, .slice p1' y.loc.length q1', .slice p2' y.stk.length q2'] 48 (0, 0)) := by rw [← hWA]; exact xbaZ wr _ _
      have l1A := xacZ h1A
      have l2A := xacZ h2A
      have e0A := xaaZ h1A 0
      have f0A := xaaZ h2A 0
      have e1A := xaaZ h1A 1
      have f1A := xaaZ h2A 1
      have e2A := xaaZ h1A 2
      have f2A := xaaZ h2A 2
      have e3A := xaaZ h1A 3
      have f3A := xaaZ h2A 3
      simp at e0A f0A e1A f1A e2A f2A e3A f3A
      clear h1A h2A
      obtain ⟨WB, hWB⟩ : ∃ W, ((wr.alloc (.cells #[.int .i64 y.fn, .int .i64 y.pc, .slice p1' y.loc.length q1', .slice p2' y.stk.length q2'] 48)).alloc (.cells #[.int .i64 x.fn, .int .i64 x.pc, .slice p1 x.loc.length q1, .slice p2 x.stk.length q2] 48)).drew = W := ⟨_, rfl⟩
      have hbB : Below wr.heap.size wr WB := by rw [← hWB]; exact (((Below.refl _ wr).alloc (Nat.le_refl _) _).alloc (by simp) _).drew
      have h1B : WB.heap[wr.heap.size]? = some (.cells #[.int .i64 y.fn, .int .i64 y.pc, .slice p1' y.loc.length q1', .slice p2' y.stk.length q2'] 48 (0, 0)) := by rw [← hWB]; exact xakZ (World.alloc_heap_new wr _) _
      have h2B : WB.heap[wr.heap.size + 1]? = some (.cells #[.int .i64 x.fn, .int .i64 x.pc, .slice p1 x.loc.length q1, .slice p2 x.stk.length q2] 48 (0, 0)) := by rw [← hWB]; exact xbaZ wr _ _
      have l1B := xacZ h1B
      have l2B := xacZ h2B
      have e0B := xaaZ h1B 0
      have f0B := xaaZ h2B 0
      have e1B := xaaZ h1B 1
      have f1B := xaaZ h2B 1
      have e2B := xaaZ h1B 2
      have f2B := xaaZ h2B 2
      have e3B := xaaZ h1B 3
      have f3B := xaaZ h2B 3
      simp at e0B f0B e1B f1B e2B f2B e3B f3B
      clear h1B h2B
      have HLr := hideP hLr
      have HLr' := hideP hLr'
      have HSr := hideP hSr
      have HSr' := hideP hSr'
      clear hLr hLr' hSr hSr'
      go_wp2
      go_region
      · skip
        by_cases h1 : x.fn = y.fn
        rotate_left
        · have h1' := xdiZ h1
          have HN := hideP h1
          clear h1
          go_wp2
          go_ret
          refine xc5Z (fun h => HN.out ?_) (hbw.trans ((hbA).mono hbw.size))
          have h1 := HO.out
          rw [h, HO'.out] at h1
          cases h1
          rfl
        have h1' := xc9Z h1
        have H1 := hideP h1
        clear h1
        by_cases h2 : x.pc = y.pc
        rotate_left
        · have h2' := xdiZ h2
          have HN := hideP h2
          clear h2
          go_wp2
          go_ret
          refine xc5Z (fun h => HN.out ?_) (hbw.trans ((hbA).mono hbw.size))
          have h1 := HO.out
          rw [h, HO'.out] at h1
          cases h1
          rfl
        have h2' := xc9Z h2
        have H2 := hideP h2
        clear h2
        by_cases h3 : x.loc = y.loc
        rotate_left
        · have HN := hideP h3
          clear h3
          go_wp2_with fail
          refine (xb5Z x.loc y.loc _ _ WA (HLr.out.below hbA) (HLr'.out.below hbA)).mono ?_
          rintro e w6 ⟨rfl, hb6⟩
          rw [decide_eq_false HN.out]
          have k6 := (hb6.cell (p := ⟨wr.heap.size, 3, none⟩) l1A).trans e3A
          have k7 := (hb6.cell (p := ⟨wr.heap.size + 1, 3, none⟩) l2A).trans f3A
          have hb7 := hbA.trans (hb6.mono hbA.size)
          go_wp2
          go_ret
          refine xc5Z (fun h => HN.out ?_) (hbw.trans ((hb7).mono hbw.size))
          have h1 := HO.out
          rw [h, HO'.out] at h1
          cases h1
          rfl
        have H3 := hideP h3
        clear h3
        by_cases h4 : x.stk = y.stk
        rotate_left
        · have HN := hideP h4
          clear h4
          go_wp2_with fail
          refine (xb5Z x.loc y.loc _ _ WA (HLr.out.below hbA) (HLr'.out.below hbA)).mono ?_
          rintro e w6 ⟨rfl, hb6⟩
          rw [decide_eq_true H3.out]
          have k6 := (hb6.cell (p := ⟨wr.heap.size, 3, none⟩) l1A).trans e3A
          have k7 := (hb6.cell (p := ⟨wr.heap.size + 1, 3, none⟩) l2A).trans f3A
          have hb7 := hbA.trans (hb6.mono hbA.size)
          go_wp2_with fail
          refine (xb5Z x.stk y.stk _ _ w6 (HSr.out.below hb7) (HSr'.out.below hb7)).mono ?_
          rintro e w8 ⟨rfl, hb8⟩
          rw [decide_eq_false HN.out]
          have hb9 := hb7.trans (hb8.mono hb7.size)
          go_wp2
          go_ret
          refine xc5Z (fun h => HN.out ?_) (hbw.trans ((hb9).mono hbw.size))
          have h1 := HO.out
          rw [h, HO'.out] at h1
          cases h1
          rfl
        have H4 := hideP h4
        clear h4
        go_wp2_with fail
        refine (xb5Z x.loc y.loc _ _ WA (HLr.out.below hbA) (HLr'.out.below hbA)).mono ?_
        rintro e w6 ⟨rfl, hb6⟩
        rw [decide_eq_true H3.out]
        have k6 := (hb6.cell (p := ⟨wr.heap.size, 3, none⟩) l1A).trans e3A
        have k7 := (hb6.cell (p := ⟨wr.heap.size + 1, 3, none⟩) l2A).trans f3A
        have hb7 := hbA.trans (hb6.mono hbA.size)
        go_wp2_with fail
        refine (xb5Z x.stk y.stk _ _ w6 (HSr.out.below hb7) (HSr'.out.below hb7)).mono ?_
        rintro e w8 ⟨rfl, hb8⟩
        rw [decide_eq_true H4.out]
        have hb9 := hb7.trans (hb8.mono hb7.size)
        go_wp2
        go_roundw
        case rel => exact ⟨k + 1, by omega, by go_num, by rw [xa5Z _ k _ HO.out, xa5Z _ k _ HO'.out, HT.out, frm_ext H1.out H2.out H3.out H4.out], hbw2.trans (hb9.mono hbw2.size)⟩
        case measure => simp [intOf]; omega
      · skip
        by_cases h1 : x.fn = y.fn
        rotate_left
        · have h1' := xdiZ h1
          have HN := hideP h1
          clear h1
          go_wp2
          go_ret
          refine xc5Z (fun h => HN.out ?_) (hbw.trans ((hbB).mono hbw.size))
          have h1 := HO.out
          rw [h, HO'.out] at h1
          cases h1
          rfl
        have h1' := xc9Z h1
        have H1 := hideP h1
        clear h1
        by_cases h2 : x.pc = y.pc
        rotate_left
        · have h2' := xdiZ h2
          have HN := hideP h2
          clear h2
          go_wp2
          go_ret
          refine xc5Z (fun h => HN.out ?_) (hbw.trans ((hbB).mono hbw.size))
          have h1 := HO.out
          rw [h, HO'.out] at h1
          cases h1
          rfl
        have h2' := xc9Z h2
        have H2 := hideP h2
        clear h2
        by_cases h3 : x.loc = y.loc
        rotate_left
        · have HN := hideP h3
          clear h3
          go_wp2_with fail
          refine (xb5Z x.loc y.loc _ _ WB (HLr.out.below hbB) (HLr'.out.below hbB)).mono ?_
          rintro e w6 ⟨rfl, hb6⟩
          rw [decide_eq_false HN.out]
          have k6 := (hb6.cell (p := ⟨wr.heap.size + 1, 3, none⟩) l2B).trans f3B
          have k7 := (hb6.cell (p := ⟨wr.heap.size, 3, none⟩) l1B).trans e3B
          have hb7 := hbB.trans (hb6.mono hbB.size)
          go_wp2
          go_ret
          refine xc5Z (fun h => HN.out ?_) (hbw.trans ((hb7).mono hbw.size))
          have h1 := HO.out
          rw [h, HO'.out] at h1
          cases h1
          rfl
        have H3 := hideP h3
        clear h3
        by_cases h4 : x.stk = y.stk
        rotate_left
        · have HN := hideP h4
          clear h4
          go_wp2_with fail
          refine (xb5Z x.loc y.loc _ _ WB (HLr.out.below hbB) (HLr'.out.below hbB)).mono ?_
          rintro e w6 ⟨rfl, hb6⟩
          rw [decide_eq_true H3.out]
          have k6 := (hb6.cell (p := ⟨wr.heap.size + 1, 3, none⟩) l2B).trans f3B
          have k7 := (hb6.cell (p := ⟨wr.heap.size, 3, none⟩) l1B).trans e3B
          have hb7 := hbB.trans (hb6.mono hbB.size)
          go_wp2_with fail
          refine (xb5Z x.stk y.stk _ _ w6 (HSr.out.below hb7) (HSr'.out.below hb7)).mono ?_
          rintro e w8 ⟨rfl, hb8⟩
          rw [decide_eq_false HN.out]
          have hb9 := hb7.trans (hb8.mono hb7.size)
          go_wp2
          go_ret
          refine xc5Z (fun h => HN.out ?_) (hbw.trans ((hb9).mono hbw.size))
          have h1 := HO.out
          rw [h, HO'.out] at h1
          cases h1
          rfl
        have H4 := hideP h4
        clear h4
        go_wp2_with fail
        refine (xb5Z x.loc y.loc _ _ WB (HLr.out.below hbB) (HLr'.out.below hbB)).mono ?_
        rintro e w6 ⟨rfl, hb6⟩
        rw [decide_eq_true H3.out]
        have k6 := (hb6.cell (p := ⟨wr.heap.size + 1, 3, none⟩) l2B).trans f3B
        have k7 := (hb6.cell (p := ⟨wr.heap.size, 3, none⟩) l1B).trans e3B
        have hb7 := hbB.trans (hb6.mono hbB.size)
        go_wp2_with fail
        refine (xb5Z x.stk y.stk _ _ w6 (HSr.out.below hb7) (HSr'.out.below hb7)).mono ?_
        rintro e w8 ⟨rfl, hb8⟩
        rw [decide_eq_true H4.out]
        have hb9 := hb7.trans (hb8.mono hb7.size)
        go_wp2
        go_roundw
        case rel => exact ⟨k + 1, by omega, by go_num, by rw [xa5Z _ k _ HO.out, xa5Z _ k _ HO'.out, HT.out, frm_ext H1.out H2.out H3.out H4.out], hbw2.trans (hb9.mono hbw2.size)⟩
        case measure => simp [intOf]; omega
    · have hlt' : ¬ (k : Int) < (A.frames.length : Int) := by omega
      go_wp2
      go_ret
      refine same_yes (mach_ext ?_ HBL.out HIN.out HOU.out HST.out HTR.out) hbw
      have h := HT.out
      rwa [List.take_of_length_le (by omega), List.take_of_length_le (by have := HFL.out; omega)] at h
end Go.Proofs.YtcadpoknolefpaaGreat


/- What must be in any case of collecting: holder, collectBegun. -/
namespace Go.Proofs.YtcadpoknolefpaaGreat
open Go.RowKit
set_option linter.unusedSimpArgs false
set_option linter.unusedVariables false
theorem holder_at {w W1 W2 W3 W4 : World} {o1 : Obj} (hW1 : w.alloc o1 = W1) (hW2 : W1.alloc (.cells #[.int .i64 2] 3) = W2)
    (hW3 : W2.alloc (.cells #[.int .i64 1, .int .i64 2, .int .i64 14, .int .i64 0, .int .i64 2, .int .i64 0, .int .i64 1, .int .i64 1, .int .i64 14, .int .i64 0, .int .i64 9, .int .i64 0, .int .i64 8, .int .i64 0, .int .i64 1, .int .i64 0, .int .i64 15, .int .i64 0, .int .i64 20, .int .i64 0, .int .i64 13, .int .i64 0] 43) = W3) (hW4 : W3.alloc (.cells #[.int .i64 0, .slice (some ⟨w.heap.size + 1, 0, none⟩) 1 1, .int .i64 0, .slice (some ⟨w.heap.size + 1 + 1, 0, none⟩) 11 11] 78) = W4) :
    FnsAt W4 (.slice (some ⟨w.heap.size + 1 + 1 + 1, 0, none⟩) 1 1) xatZ ∧ Below w.heap.size w W4 ∧ W4.heap[w.heap.size]? = some o1 ∧ W4.heap[w.heap.size + 1 + 1 + 1]? = some (.cells #[.int .i64 0, .slice (some ⟨w.heap.size + 1, 0, none⟩) 1 1, .int .i64 0, .slice (some ⟨w.heap.size + 1 + 1, 0, none⟩) 11 11] 78 (0, 0)) := by
  have s1 : W1.heap.size = w.heap.size + 1 := by rw [← hW1]; simp
  have s2 : W2.heap.size = w.heap.size + 1 + 1 := by rw [← hW2]; simp; exact s1
  have s3 : W3.heap.size = w.heap.size + 1 + 1 + 1 := by rw [← hW3]; simp; exact s2
  have h1 := xc7Z w o1
  rw [hW1] at h1
  have h2 := xc7Z W1 (.cells #[.int .i64 2] 3)
  rw [hW2, s1] at h2
  have h3 := xc7Z W2 (.cells #[.int .i64 1, .int .i64 2, .int .i64 14, .int .i64 0, .int .i64 2, .int .i64 0, .int .i64 1, .int .i64 1, .int .i64 14, .int .i64 0, .int .i64 9, .int .i64 0, .int .i64 8, .int .i64 0, .int .i64 1, .int .i64 0, .int .i64 15, .int .i64 0, .int .i64 20, .int .i64 0, .int .i64 13, .int .i64 0] 43)
  rw [hW3, s2] at h3
  have h4 := xc7Z W3 (.cells #[.int .i64 0, .slice (some ⟨w.heap.size + 1, 0, none⟩) 1 1, .int .i64 0, .slice (some ⟨w.heap.size + 1 + 1, 0, none⟩) 11 11] 78)
  rw [hW4, s3] at h4
  have k2 : ∀ {k : Nat} {o : Obj}, W1.heap[k]? = some o → W2.heap[k]? = some o := fun h => by rw [← hW2]; exact xakZ h _
  have k3 : ∀ {k : Nat} {o : Obj}, W2.heap[k]? = some o → W3.heap[k]? = some o := fun h => by rw [← hW3]; exact xakZ h _
  have k4 : ∀ {k : Nat} {o : Obj}, W3.heap[k]? = some o → W4.heap[k]? = some o := fun h => by rw [← hW4]; exact xakZ h _
  have b1 : Below w.heap.size w W1 := by rw [← hW1]; exact (Below.refl _ w).alloc (Nat.le_refl _) _
  have b2 : Below w.heap.size w W2 := by rw [← hW2]; exact b1.alloc (by omega) _
  have b3 : Below w.heap.size w W3 := by rw [← hW3]; exact b2.alloc (by omega) _
  have b4 : Below w.heap.size w W4 := by rw [← hW4]; exact b3.alloc (by omega) _
  refine ⟨⟨_, 1, rfl, by unfold maxLen; decide, fun k f hk => ?_⟩, b4, k4 (k3 (k2 h1)), h4⟩
  have o1 : OpsAt W4 (.slice (some ⟨w.heap.size + 1 + 1, 0, none⟩) 11 11) holderOps := xhyZ (l := holderOps) (m := []) (fz := (0, 0)) 11 11 (k4 h3) rfl (by unfold maxLen; decide)
  have i1 : IntsAt W4 (.slice (some ⟨w.heap.size + 1, 0, none⟩) 1 1) [2] := ⟨_, 1, rfl, by unfold maxLen; decide, fun k z hk => by
    match k, hk with
    | 0, hk => simp at hk; subst hk; exact ⟨_, 0, rfl, xacZ (k4 (k3 h2)), xaaZ (k4 (k3 h2)) 0⟩
    | k + 1, hk => simp at hk⟩
  match k, hk with
  | 0, hk =>
    simp [xatZ] at hk; subst hk
    exact ⟨_, 0, _, _, _, _, rfl, xacZ h4, xaaZ h4 0, xaaZ h4 1, xaaZ h4 2, xaaZ h4 3, rfl, i1, rfl, o1⟩
  | k + 1, hk => simp [xatZ] at hk
theorem xfgZ (w : World) : Calls Tryz.prog 82 #[] w fun e w' => ∃ v, e = .returned (.agg #[v]) ∧ FnsAt w' v xatZ ∧ CapAt w' v ∧ Below w.heap.size w w' := by
  go_enter Tryz.func82, Tryz.ntmps82
  go_wp2
  obtain ⟨hf, hb, hh, hh4⟩ := holder_at (w := w) (o1 := .cells #[.slice (some ⟨w.heap.size + 1 + 1 + 1, 0, none⟩) 1 1] 24) rfl rfl rfl rfl
  have t0 := xaaZ hh 0
  simp only [List.getElem?_toArray, List.getElem?_cons_zero] at t0
  refine bodyPost_ret (v := .agg #[.slice (some ⟨w.heap.size + 1 + 1 + 1, 0, none⟩) 1 1]) (by simp [results, Tryz.results82, go_sem, t0]) rfl ⟨_, rfl, hf, ?_, hb⟩
  refine cap_of hh4 ?_
  intro k p n' c' hk
  match k, hk with
  | 0, hk => simp at hk; omega
  | k + 1, hk =>
    have := (Array.getElem?_eq_some_iff.1 hk).1
    simp at this
    omega
theorem xr9Z {pv : Value} {w : World} (hp : FnsAt w pv xatZ) (hcp : CapAt w pv) : fitsE xatZ = 0 := by
  obtain ⟨er, h⟩ := xifZ hp hcp
  rw [← xesZ h]
  exact xryZ h
theorem hb_right (hf : fitsE xatZ = 0) : xanZ xatZ = 0 ∧ xa2Z xatZ (entP xatZ) ∧ RightM xatZ (entP xatZ) hBeginM := by
  obtain ⟨hp, he⟩ := xe8Z.1 hf
  obtain ⟨f, _, _, hR⟩ := xhhZ hp he
  rw [hb1] at hR
  exact ⟨hp, he, hR⟩
theorem hb_ok (hf : fitsE xatZ = 0) : xaqZ xatZ hBeginM = 0 ∧ xaqZ xatZ hRanM = 0 := by
  obtain ⟨hp, he, hR⟩ := hb_right hf
  exact ⟨xa1Z.2 ⟨hp, he, hR⟩, xa1Z.2 ⟨hp, he, (xg3Z hp he hR (by decide) his10).1⟩⟩
theorem pcOk_hb : PcOk hBeginM := fun x hx => by simp [hBeginM] at hx; subst hx; simp
theorem pcOk_hr : PcOk hRanM := fun x hx => by simp [hRanM] at hx; subst hx; simp
theorem xp5Z {pv : Value} {w : World} (hp : FnsAt w pv xatZ) (hcp : CapAt w pv) (hf : fitsE xatZ = 0) : Calls Tryz.prog 14 #[.agg #[pv]] w (MRet hBeginM 0 w) := by
  have := xmbZ xatZ pv w hp hcp
  rw [hf, if_pos rfl, hb1] at this
  exact this
theorem xi7Z {pv fv bv iv ov : Value} {w : World} (h : CkAt w xatZ pv fv bv iv ov hBeginM) (hf : fitsE xatZ = 0) : Calls Tryz.prog 29 #[.agg #[pv], .agg #[fv, bv, iv, ov, .int .i64 hBeginM.status, .int .i64 hBeginM.trap], .int .i64 10] w (MRet3 hRanM 0 w) := by
  have hE : runE xatZ hBeginM 10 = 0 := xgwZ.2 ⟨(hb_ok hf).1, by decide⟩
  refine (xiyZ hBeginM xatZ 10 pv fv bv iv ov w h pcOk_hb).mono ?_
  rintro e w' ⟨t, ht, f', b', i', o', h1, h2, h3⟩
  have := xkgZ (ht.1 hE) his10
  subst this
  rw [hE] at h1
  exact ⟨_, _, _, _, h1, h2, h3⟩
theorem hroots : xcfZ hRanM = [2] := by
  unfold xcfZ
  rw [hkept.2]
  simp [sortI, Lib.compact, Lib.compactUpTo, Lib.keeps, List.range_succ]
theorem xqbZ {pv fv bv iv ov : Value} {w : World} (h : CkAt w xatZ pv fv bv iv ov hRanM) (hf : fitsE xatZ = 0) : Calls Tryz.prog 36 #[.agg #[pv], .agg #[fv, bv, iv, ov, .int .i64 hRanM.status, .int .i64 hRanM.trap]] w fun e w' => ∃ u, e = .returned (.tuple #[u, .int .i64 0]) ∧ IntsAt w' u [2] ∧ Below w.heap.size w w' := by
  refine (xn8Z hRanM xatZ pv fv bv iv ov w h pcOk_hr).mono ?_
  rintro e w' ⟨u, rfl, h1, h2⟩
  have hE := (hb_ok hf).2
  have hR : xeiZ xatZ hRanM = [2] := by unfold xeiZ; rw [if_pos hE, hroots]
  rw [hR] at h1
  exact ⟨u, by rw [hE], xbkZ rfl h1, h2⟩
theorem xigZ {pv fv bv iv ov : Value} {w : World} (h : CkAt w xatZ pv fv bv iv ov hRanM) (hf : fitsE xatZ = 0) : Calls Tryz.prog 37 #[.agg #[pv], .agg #[fv, bv, iv, ov, .int .i64 hRanM.status, .int .i64 hRanM.trap]] w (MRet3 hKeptM 1 w) := by
  refine (xd0Z hRanM xatZ pv fv bv iv ov w h pcOk_hr).mono ?_
  rintro e w' ⟨f', b', i', o', h1, h2, h3⟩
  have hE := (hb_ok hf).2
  have hC : CollR xatZ hRanM = hKeptM := by unfold CollR; rw [if_pos hE, hkept.1]
  have hG : goneR xatZ hRanM = 1 := by unfold goneR; rw [if_pos hE, hkept.1]; rfl
  rw [hC, hG, hE] at h1
  rw [hC] at h2
  exact ⟨_, _, _, _, h1, h2, h3⟩
theorem eql_val (c : Bool) (a : Int) (c' : Bool) (a' : Int) (w : World) : (binOp .eql 50 (.agg #[.bool c, .int .i64 a]) (.agg #[.bool c', .int .i64 a'])).run Tryz.prog w = .ok (.bool (c == c' && a == a')) w := by
  have u3 := Tryz.underlying3
  have a3 := Tryz.isAgg3
  have z3 := Tryz.sizeOf3
  have u4 := Tryz.underlying4
  have a4 := Tryz.isAgg4
  have z4 := Tryz.sizeOf4
  have hS : Tryz.prog.underlying 50 = some (.struct (Tryz.prog.fieldsOf 50)) := by kernel_rfl
  have hp : Tryz.prog.stoodInHeld 50 = false := by kernel_rfl
  rw [run_eql_struct, show (10000 : Nat) = 9999 + 1 from rfl, run_equalIn_agg w 9999 50 _ _ hS hp]
  simp only [Program.fieldsOf, Tryz.underlying50]
  go_simp
  by_cases h1 : c = c' <;> by_cases h2 : a = a' <;> simp [h1, h2]
theorem xhmZ (w : World) : Calls Tryz.prog 40 #[] w fun e w' => e = .returned (.bool true) ∧ Below w.heap.size w w' := by
  go_enter Tryz.func40, Tryz.ntmps40
  go_wp2_with fail
  refine (xfgZ _).mono ?_
  rintro e w1 ⟨v1, rfl, f1, k1, b1⟩
  have hcf := xr9Z f1 k1
  have HST := hideP (xp5Z f1 k1 hcf)
  go_wp2_with fail
  refine HST.out.mono ?_
  rintro e w2 ⟨xf, xb, xi, xo, rfl, r2, b2⟩
  have B2 := xadZ b1 b2
  have HCF := hideP hcf
  obtain ⟨⟨pf, kf, hf⟩, ⟨pb, kb, hb⟩, ⟨pi, ki, hi⟩, ⟨po, ko, ho⟩⟩ := xaxZ r2
  subst hf hb hi ho
  have A2 : MachAt w2 _ _ _ _ hBeginM := r2.at_ (by decide)
  obtain ⟨W3, hW3⟩ : ∃ W3, w2.alloc (.cells #[.slice pf hBeginM.frames.length kf, .slice pb hBeginM.blocks.length kb, .slice pi hBeginM.inp.length ki, .slice po hBeginM.out.length ko, .int .i64 hBeginM.status, .int .i64 hBeginM.trap] 29) = W3 := ⟨_, rfl⟩
  have b3 : Below w2.heap.size w2 W3 := by rw [← hW3]; exact (Below.refl _ w2).alloc (Nat.le_refl _) _
  have u3 : W3.heap[w2.heap.size]? = some (.cells #[.slice pf hBeginM.frames.length kf, .slice pb hBeginM.blocks.length kb, .slice pi hBeginM.inp.length ki, .slice po hBeginM.out.length ko, .int .i64 hBeginM.status, .int .i64 hBeginM.trap] 29 (0, 0)) := by rw [← hW3]; exact World.alloc_heap_new w2 _
  have B3 := xadZ B2 b3
  have A3 := hideP (A2.below b3)
  have l3 := xacZ u3
  have a0 := xaaZ u3 0
  have a1 := xaaZ u3 1
  have a2 := xaaZ u3 2
  have a3 := xaaZ u3 3
  have a4 := xaaZ u3 4
  have a5 := xaaZ u3 5
  simp at a0 a1 a2 a3 a4 a5
  have HB3 := hideP B3
  clear f1 k1 hcf HST b1 b2 B2 r2 A2 b3 u3 B3
  go_upto_region 2 with fail
  go_cut [3, 4, 5] from 16 (fun sa sb sc wx => ∃ (z : Nat) (fv bv iv ov : Value), sa = .pointer (some ⟨z, 0, none⟩) ∧ sb = .int .i64 (0) ∧ sc = .int .i64 0 ∧ wx.heap[z]? = some (.cells #[fv, bv, iv, ov, .int .i64 (hRanM).status, .int .i64 (hRanM).trap] 29 (0, 0)) ∧ MachAt wx fv bv iv ov hRanM ∧ Below W3.heap.size W3 wx)
  case first =>
    have hdA : ∀ o, Below W3.heap.size W3 (W3.alloc o).drew := fun o => ((Below.refl _ W3).alloc (Nat.le_refl _) o).drew
    go_region_held3 (fun W => W.cell? ⟨w2.heap.size, 0, none⟩ = some (.slice pf hBeginM.frames.length kf) ∧ W.cell? ⟨w2.heap.size, 1, none⟩ = some (.slice pb hBeginM.blocks.length kb) ∧ W.cell? ⟨w2.heap.size, 2, none⟩ = some (.slice pi hBeginM.inp.length ki) ∧ W.cell? ⟨w2.heap.size, 3, none⟩ = some (.slice po hBeginM.out.length ko) ∧ W.cell? ⟨w2.heap.size, 4, none⟩ = some (.int .i64 hBeginM.status) ∧ W.cell? ⟨w2.heap.size, 5, none⟩ = some (.int .i64 hBeginM.trap)) (first | go_keep | exact ⟨xauZ g0 nz, xauZ g1 nz, xauZ g2 nz, xauZ g3 nz, xauZ g4 nz, xauZ g5 nz⟩)
      (first
        | (go_at_call 82; (with_reducible refine (xfgZ _).mono ?_); rintro e w5 ⟨v5, rfl, f5, k5, b5'⟩; have b5 : Below W3.heap.size W3 w5 := xadZ ((Below.refl _ W3).drew) b5'; clear b5'; have h0 := (b5.cell (p := ⟨w2.heap.size, 0, none⟩) l3).trans a0; have h1 := (b5.cell (p := ⟨w2.heap.size, 1, none⟩) l3).trans a1; have h2 := (b5.cell (p := ⟨w2.heap.size, 2, none⟩) l3).trans a2; have h3 := (b5.cell (p := ⟨w2.heap.size, 3, none⟩) l3).trans a3; have h4 := (b5.cell (p := ⟨w2.heap.size, 4, none⟩) l3).trans a4; have h5 := (b5.cell (p := ⟨w2.heap.size, 5, none⟩) l3).trans a5; have hd5 : ∀ o, Below w5.heap.size w5 (w5.alloc o) := fun o => (Below.refl _ w5).alloc (Nat.le_refl _) o)
        | (go_at_call 82; (with_reducible refine (xfgZ _).mono ?_); rintro e w5 ⟨v5, rfl, f5, k5, b5'⟩; have b5 : Below W3.heap.size W3 w5 := xadZ (hdA _) b5'; have q5 := (b5'.block W3.heap.size (xacZ (World.alloc_heap_new W3 _))).trans (World.alloc_heap_new W3 _); have Q5 := hideP q5; have m0 := xaaZ q5 0; have m1 := xaaZ q5 1; have m2 := xaaZ q5 2; have m3 := xaaZ q5 3; have m4 := xaaZ q5 4; have m5 := xaaZ q5 5; simp at m0 m1 m2 m3 m4 m5; have mz := Lib.frozen_of_heap q5; have mz0 := mz 0; have mz1 := mz 1; have mz2 := mz 2; have mz3 := mz 3; have mz4 := mz 4; have mz5 := mz 5; clear mz; clear b5' q5; have h0 := (b5.cell (p := ⟨w2.heap.size, 0, none⟩) l3).trans a0; have h1 := (b5.cell (p := ⟨w2.heap.size, 1, none⟩) l3).trans a1; have h2 := (b5.cell (p := ⟨w2.heap.size, 2, none⟩) l3).trans a2; have h3 := (b5.cell (p := ⟨w2.heap.size, 3, none⟩) l3).trans a3; have h4 := (b5.cell (p := ⟨w2.heap.size, 4, none⟩) l3).trans a4; have h5 := (b5.cell (p := ⟨w2.heap.size, 5, none⟩) l3).trans a5)
        | (go_at_call 29; (with_reducible refine (xi7Z (w := w5) ⟨f5, k5, A3.out.below b5⟩ HCF.out).mono ?_); rintro e w6 ⟨nf, nb, ni, no, rfl, r6, b6'⟩; have b6 : Below W3.heap.size W3 w6 := xadZ b5 b6'; have nz : ¬ w2.heap.size = W3.heap.size := (by omega); have q6 := (b6'.block W3.heap.size (xacZ Q5.out)).trans Q5.out; have Q6 := hideP q6; clear m0 m1 m2 m3 m4 m5 mz0 mz1 mz2 mz3 mz4 mz5; have m0 := xaaZ q6 0; have m1 := xaaZ q6 1; have m2 := xaaZ q6 2; have m3 := xaaZ q6 3; have m4 := xaaZ q6 4; have m5 := xaaZ q6 5; simp at m0 m1 m2 m3 m4 m5; have mz := Lib.frozen_of_heap q6; have mz0 := mz 0; have mz1 := mz 1; have mz2 := mz 2; have mz3 := mz 3; have mz4 := mz 4; have mz5 := mz 5; clear mz; clear q6; have R6b : Hid (MRes w6 W3.heap.size _ _ _ _ _) := hideP (r6.low b5.size); obtain ⟨⟨qf, jf, hqf⟩, ⟨qb, jb, hqb⟩, ⟨qi, ji, hqi⟩, ⟨qo, jo, hqo⟩⟩ := xaxZ r6; subst hqf hqb hqi hqo; have R6 := hideP r6; clear r6; have g0 := (b6.cell (p := ⟨w2.heap.size, 0, none⟩) l3).trans a0; have g1 := (b6.cell (p := ⟨w2.heap.size, 1, none⟩) l3).trans a1; have g2 := (b6.cell (p := ⟨w2.heap.size, 2, none⟩) l3).trans a2; have g3 := (b6.cell (p := ⟨w2.heap.size, 3, none⟩) l3).trans a3; have g4 := (b6.cell (p := ⟨w2.heap.size, 4, none⟩) l3).trans a4; have g5 := (b6.cell (p := ⟨w2.heap.size, 5, none⟩) l3).trans a5)
        | (go_at_call 29; (with_reducible refine (xi7Z (w := w5) ⟨f5, k5, A3.out.below b5⟩ HCF.out).mono ?_); rintro e w6 ⟨nf, nb, ni, no, rfl, r6, b6'⟩; have b6 : Below W3.heap.size W3 w6 := xadZ b5 b6'; have nz : ¬ w2.heap.size = w6.heap.size := (by have := b6.size; omega); have R6b : Hid (MRes w6 W3.heap.size _ _ _ _ _) := hideP (r6.low b5.size); obtain ⟨⟨qf, jf, hqf⟩, ⟨qb, jb, hqb⟩, ⟨qi, ji, hqi⟩, ⟨qo, jo, hqo⟩⟩ := xaxZ r6; subst hqf hqb hqi hqo; have R6 := hideP r6; clear r6; have g0 := (b6.cell (p := ⟨w2.heap.size, 0, none⟩) l3).trans a0; have g1 := (b6.cell (p := ⟨w2.heap.size, 1, none⟩) l3).trans a1; have g2 := (b6.cell (p := ⟨w2.heap.size, 2, none⟩) l3).trans a2; have g3 := (b6.cell (p := ⟨w2.heap.size, 3, none⟩) l3).trans a3; have g4 := (b6.cell (p := ⟨w2.heap.size, 4, none⟩) l3).trans a4; have g5 := (b6.cell (p := ⟨w2.heap.size, 5, none⟩) l3).trans a5)
        | (go_at_call 29; (with_reducible refine (xi7Z (w := w5.alloc _) ⟨f5.below (hd5 _), k5.below f5 (hd5 _), A3.out.below (xadZ b5 (hd5 _))⟩ HCF.out).mono ?_); rintro e w6 ⟨nf, nb, ni, no, rfl, r6, b6'⟩; have b6 : Below W3.heap.size W3 w6 := xadZ (xadZ b5 (hd5 _)) b6'; have nz : ¬ w2.heap.size = w5.heap.size := (by have := b5.size; omega); have q6 := (b6'.block w5.heap.size (xacZ (World.alloc_heap_new w5 _))).trans (World.alloc_heap_new w5 _); have Q6 := hideP q6; have m0 := xaaZ q6 0; have m1 := xaaZ q6 1; have m2 := xaaZ q6 2; have m3 := xaaZ q6 3; have m4 := xaaZ q6 4; have m5 := xaaZ q6 5; simp at m0 m1 m2 m3 m4 m5; have mz := Lib.frozen_of_heap q6; have mz0 := mz 0; have mz1 := mz 1; have mz2 := mz 2; have mz3 := mz 3; have mz4 := mz 4; have mz5 := mz 5; clear mz; clear q6; have R6b : Hid (MRes w6 W3.heap.size _ _ _ _ _) := hideP (r6.low (Nat.le_trans b5.size (hd5 _).size)); obtain ⟨⟨qf, jf, hqf⟩, ⟨qb, jb, hqb⟩, ⟨qi, ji, hqi⟩, ⟨qo, jo, hqo⟩⟩ := xaxZ r6; subst hqf hqb hqi hqo; have R6 := hideP r6; clear r6; have g0 := (b6.cell (p := ⟨w2.heap.size, 0, none⟩) l3).trans a0; have g1 := (b6.cell (p := ⟨w2.heap.size, 1, none⟩) l3).trans a1; have g2 := (b6.cell (p := ⟨w2.heap.size, 2, none⟩) l3).trans a2; have g3 := (b6.cell (p := ⟨w2.heap.size, 3, none⟩) l3).trans a3; have g4 := (b6.cell (p := ⟨w2.heap.size, 4, none⟩) l3).trans a4; have g5 := (b6.cell (p := ⟨w2.heap.size, 5, none⟩) l3).trans a5))
    all_goals
      go_wp2_with fail
      go_meet
    · have hF := xffZ R6b.out (by decide) b6
      exact ⟨_, _, _, _, _, rfl, rfl, rfl, hF⟩
    · have hF := xcnZ R6b.out (by decide) b6 Q6.out b5.size
      exact ⟨_, _, _, _, _, rfl, rfl, rfl, hF⟩
    · have hF := xcnZ R6b.out (by decide) b6 Q6.out (Nat.le_refl _)
      exact ⟨_, _, _, _, _, rfl, rfl, rfl, hF⟩
  case rest =>
    obtain ⟨z, cf, cb, ci, co, rfl, rfl, rfl, hz, hA, hb⟩ := hcut
    have B4 := hideP (xadZ HB3.out hb)
    have lz := xacZ hz
    have HZ := hideP hz
    have HA := hideP hA
    obtain ⟨pf, kf, hpf, -⟩ := id hA.fr
    obtain ⟨pb, kb, hpb, -⟩ := id hA.bl
    obtain ⟨pi, ki, hpi, -⟩ := hA.inp.shp
    obtain ⟨po, ko, hpo, -⟩ := hA.out.shp
    subst hpf hpb hpi hpo
    clear a0 a1 a2 a3 a4 a5 A3 l3
    have a0 := xaaZ hz 0
    have a1 := xaaZ hz 1
    have a2 := xaaZ hz 2
    have a3 := xaaZ hz 3
    have a4 := xaaZ hz 4
    have a5 := xaaZ hz 5
    simp at a0 a1 a2 a3 a4 a5
    clear hz hA hb HB3
    go_upto_region 3 with fail
    go_cut [6, 7] from 23 (fun sa sb wx => sb = .int .i64 0 ∧ IntsAt wx sa [2] ∧ Below wc.heap.size wc wx)
    case first =>
      go_region_held3 (fun W => W.cell? ⟨z, 0, none⟩ = some (.slice pf hRanM.frames.length kf) ∧ W.cell? ⟨z, 1, none⟩ = some (.slice pb hRanM.blocks.length kb) ∧ W.cell? ⟨z, 2, none⟩ = some (.slice pi hRanM.inp.length ki) ∧ W.cell? ⟨z, 3, none⟩ = some (.slice po hRanM.out.length ko) ∧ W.cell? ⟨z, 4, none⟩ = some (.int .i64 hRanM.status) ∧ W.cell? ⟨z, 5, none⟩ = some (.int .i64 hRanM.trap)) (go_keep)
        (first
          | (go_at_call 82; (with_reducible refine (xfgZ _).mono ?_); rintro e w5 ⟨v5, rfl, f5, k5, b5'⟩; have b5 : Below wc.heap.size wc w5 := xadZ ((Below.refl _ wc).drew) b5'; clear b5'; have h0 := (b5.cell (p := ⟨z, 0, none⟩) lz).trans a0; have h1 := (b5.cell (p := ⟨z, 1, none⟩) lz).trans a1; have h2 := (b5.cell (p := ⟨z, 2, none⟩) lz).trans a2; have h3 := (b5.cell (p := ⟨z, 3, none⟩) lz).trans a3; have h4 := (b5.cell (p := ⟨z, 4, none⟩) lz).trans a4; have h5 := (b5.cell (p := ⟨z, 5, none⟩) lz).trans a5)
          | (go_at_call 36; (with_reducible refine (xqbZ (w := w5) ⟨f5, k5, HA.out.below b5⟩ HCF.out).mono ?_); rintro e w6 ⟨u6, rfl, hu6, b6'⟩; have b6 : Below wc.heap.size wc w6 := xadZ b5 b6'; have HU6 := hideP hu6; clear hu6; have g0 := (b6.cell (p := ⟨z, 0, none⟩) lz).trans a0; have g1 := (b6.cell (p := ⟨z, 1, none⟩) lz).trans a1; have g2 := (b6.cell (p := ⟨z, 2, none⟩) lz).trans a2; have g3 := (b6.cell (p := ⟨z, 3, none⟩) lz).trans a3; have g4 := (b6.cell (p := ⟨z, 4, none⟩) lz).trans a4; have g5 := (b6.cell (p := ⟨z, 5, none⟩) lz).trans a5))
      all_goals
        go_wp2_with fail
        go_meet
        exact ⟨rfl, HU6.out, b6⟩
    case rest =>
      rename World => wd
      obtain ⟨rfl, hu, hb⟩ := hcut
      have HB4 := hideP (xadZ B4.out hb)
      have lzd : z < wd.heap.size := Nat.lt_of_lt_of_le lz hb.size
      have HAd := hideP (HA.out.below hb)
      have HZd := hideP ((hb.block z lz).trans HZ.out)
      have HU := hideP hu
      obtain ⟨pu, cu, hpu, -⟩ := id hu
      subst hpu
      replace a0 := (hb.cell (p := ⟨z, 0, none⟩) lz).trans a0
      replace a1 := (hb.cell (p := ⟨z, 1, none⟩) lz).trans a1
      replace a2 := (hb.cell (p := ⟨z, 2, none⟩) lz).trans a2
      replace a3 := (hb.cell (p := ⟨z, 3, none⟩) lz).trans a3
      replace a4 := (hb.cell (p := ⟨z, 4, none⟩) lz).trans a4
      replace a5 := (hb.cell (p := ⟨z, 5, none⟩) lz).trans a5
      clear hu hb HZ B4 HA
      go_upto_region 4 with fail
      go_cut [8, 9, 10] from 29 (fun sa sb sc wx => ∃ (z : Nat) (fv bv iv ov : Value), sa = .pointer (some ⟨z, 0, none⟩) ∧ sb = .int .i64 (1) ∧ sc = .int .i64 0 ∧ wx.heap[z]? = some (.cells #[fv, bv, iv, ov, .int .i64 (hKeptM).status, .int .i64 (hKeptM).trap] 29 (0, 0)) ∧ MachAt wx fv bv iv ov hKeptM ∧ Below wd.heap.size wd wx)
      case first =>
        have hdA : ∀ o, Below wd.heap.size wd (wd.alloc o).drew := fun o => ((Below.refl _ wd).alloc (Nat.le_refl _) o).drew
        go_region_held3 (fun W => W.cell? ⟨z, 0, none⟩ = some (.slice pf hRanM.frames.length kf) ∧ W.cell? ⟨z, 1, none⟩ = some (.slice pb hRanM.blocks.length kb) ∧ W.cell? ⟨z, 2, none⟩ = some (.slice pi hRanM.inp.length ki) ∧ W.cell? ⟨z, 3, none⟩ = some (.slice po hRanM.out.length ko) ∧ W.cell? ⟨z, 4, none⟩ = some (.int .i64 hRanM.status) ∧ W.cell? ⟨z, 5, none⟩ = some (.int .i64 hRanM.trap)) (first | go_keep | exact ⟨xauZ g0 nz, xauZ g1 nz, xauZ g2 nz, xauZ g3 nz, xauZ g4 nz, xauZ g5 nz⟩)
          (first
            | (go_at_call 82; (with_reducible refine (xfgZ _).mono ?_); rintro e w5 ⟨v5, rfl, f5, k5, b5'⟩; have b5 : Below wd.heap.size wd w5 := xadZ ((Below.refl _ wd).drew) b5'; clear b5'; have h0 := (b5.cell (p := ⟨z, 0, none⟩) lzd).trans a0; have h1 := (b5.cell (p := ⟨z, 1, none⟩) lzd).trans a1; have h2 := (b5.cell (p := ⟨z, 2, none⟩) lzd).trans a2; have h3 := (b5.cell (p := ⟨z, 3, none⟩) lzd).trans a3; have h4 := (b5.cell (p := ⟨z, 4, none⟩) lzd).trans a4; have h5 := (b5.cell (p := ⟨z, 5, none⟩) lzd).trans a5; have hd5 : ∀ o, Below w5.heap.size w5 (w5.alloc o) := fun o => (Below.refl _ w5).alloc (Nat.le_refl _) o)
            | (go_at_call 82; (with_reducible refine (xfgZ _).mono ?_); rintro e w5 ⟨v5, rfl, f5, k5, b5'⟩; have b5 : Below wd.heap.size wd w5 := xadZ (hdA _) b5'; have q5 := (b5'.block wd.heap.size (xacZ (World.alloc_heap_new wd _))).trans (World.alloc_heap_new wd _); have Q5 := hideP q5; have m0 := xaaZ q5 0; have m1 := xaaZ q5 1; have m2 := xaaZ q5 2; have m3 := xaaZ q5 3; have m4 := xaaZ q5 4; have m5 := xaaZ q5 5; simp at m0 m1 m2 m3 m4 m5; have mz := Lib.frozen_of_heap q5; have mz0 := mz 0; have mz1 := mz 1; have mz2 := mz 2; have mz3 := mz 3; have mz4 := mz 4; have mz5 := mz 5; clear mz; clear b5' q5; have h0 := (b5.cell (p := ⟨z, 0, none⟩) lzd).trans a0; have h1 := (b5.cell (p := ⟨z, 1, none⟩) lzd).trans a1; have h2 := (b5.cell (p := ⟨z, 2, none⟩) lzd).trans a2; have h3 := (b5.cell (p := ⟨z, 3, none⟩) lzd).trans a3; have h4 := (b5.cell (p := ⟨z, 4, none⟩) lzd).trans a4; have h5 := (b5.cell (p := ⟨z, 5, none⟩) lzd).trans a5)
            | (go_at_call 37; (with_reducible refine (xigZ (w := w5) ⟨f5, k5, HAd.out.below b5⟩ HCF.out).mono ?_); rintro e w6 ⟨nf, nb, ni, no, rfl, r6, b6'⟩; have b6 : Below wd.heap.size wd w6 := xadZ b5 b6'; have nz : ¬ z = wd.heap.size := (by omega); have q6 := (b6'.block wd.heap.size (xacZ Q5.out)).trans Q5.out; have Q6 := hideP q6; clear m0 m1 m2 m3 m4 m5 mz0 mz1 mz2 mz3 mz4 mz5; have m0 := xaaZ q6 0; have m1 := xaaZ q6 1; have m2 := xaaZ q6 2; have m3 := xaaZ q6 3; have m4 := xaaZ q6 4; have m5 := xaaZ q6 5; simp at m0 m1 m2 m3 m4 m5; have mz := Lib.frozen_of_heap q6; have mz0 := mz 0; have mz1 := mz 1; have mz2 := mz 2; have mz3 := mz 3; have mz4 := mz 4; have mz5 := mz 5; clear mz; clear q6; have R6b : Hid (MRes w6 wd.heap.size _ _ _ _ _) := hideP (r6.low b5.size); obtain ⟨⟨qf, jf, hqf⟩, ⟨qb, jb, hqb⟩, ⟨qi, ji, hqi⟩, ⟨qo, jo, hqo⟩⟩ := xaxZ r6; subst hqf hqb hqi hqo; have R6 := hideP r6; clear r6; have g0 := (b6.cell (p := ⟨z, 0, none⟩) lzd).trans a0; have g1 := (b6.cell (p := ⟨z, 1, none⟩) lzd).trans a1; have g2 := (b6.cell (p := ⟨z, 2, none⟩) lzd).trans a2; have g3 := (b6.cell (p := ⟨z, 3, none⟩) lzd).trans a3; have g4 := (b6.cell (p := ⟨z, 4, none⟩) lzd).trans a4; have g5 := (b6.cell (p := ⟨z, 5, none⟩) lzd).trans a5)
            | (go_at_call 37; (with_reducible refine (xigZ (w := w5) ⟨f5, k5, HAd.out.below b5⟩ HCF.out).mono ?_); rintro e w6 ⟨nf, nb, ni, no, rfl, r6, b6'⟩; have b6 : Below wd.heap.size wd w6 := xadZ b5 b6'; have nz : ¬ z = w6.heap.size := (by have := b6.size; omega); have R6b : Hid (MRes w6 wd.heap.size _ _ _ _ _) := hideP (r6.low b5.size); obtain ⟨⟨qf, jf, hqf⟩, ⟨qb, jb, hqb⟩, ⟨qi, ji, hqi⟩, ⟨qo, jo, hqo⟩⟩ := xaxZ r6; subst hqf hqb hqi hqo; have R6 := hideP r6; clear r6; have g0 := (b6.cell (p := ⟨z, 0, none⟩) lzd).trans a0; have g1 := (b6.cell (p := ⟨z, 1, none⟩) lzd).trans a1; have g2 := (b6.cell (p := ⟨z, 2, none⟩) lzd).trans a2; have g3 := (b6.cell (p := ⟨z, 3, none⟩) lzd).trans a3; have g4 := (b6.cell (p := ⟨z, 4, none⟩) lzd).trans a4; have g5 := (b6.cell (p := ⟨z, 5, none⟩) lzd).trans a5)
            | (go_at_call 37; (with_reducible refine (xigZ (w := w5.alloc _) ⟨f5.below (hd5 _), k5.below f5 (hd5 _), HAd.out.below (xadZ b5 (hd5 _))⟩ HCF.out).mono ?_); rintro e w6 ⟨nf, nb, ni, no, rfl, r6, b6'⟩; have b6 : Below wd.heap.size wd w6 := xadZ (xadZ b5 (hd5 _)) b6'; have nz : ¬ z = w5.heap.size := (by have := b5.size; omega); have q6 := (b6'.block w5.heap.size (xacZ (World.alloc_heap_new w5 _))).trans (World.alloc_heap_new w5 _); have Q6 := hideP q6; have m0 := xaaZ q6 0; have m1 := xaaZ q6 1; have m2 := xaaZ q6 2; have m3 := xaaZ q6 3; have m4 := xaaZ q6 4; have m5 := xaaZ q6 5; simp at m0 m1 m2 m3 m4 m5; have mz := Lib.frozen_of_heap q6; have mz0 := mz 0; have mz1 := mz 1; have mz2 := mz 2; have mz3 := mz 3; have mz4 := mz 4; have mz5 := mz 5; clear mz; clear q6; have R6b : Hid (MRes w6 wd.heap.size _ _ _ _ _) := hideP (r6.low (Nat.le_trans b5.size (hd5 _).size)); obtain ⟨⟨qf, jf, hqf⟩, ⟨qb, jb, hqb⟩, ⟨qi, ji, hqi⟩, ⟨qo, jo, hqo⟩⟩ := xaxZ r6; subst hqf hqb hqi hqo; have R6 := hideP r6; clear r6; have g0 := (b6.cell (p := ⟨z, 0, none⟩) lzd).trans a0; have g1 := (b6.cell (p := ⟨z, 1, none⟩) lzd).trans a1; have g2 := (b6.cell (p := ⟨z, 2, none⟩) lzd).trans a2; have g3 := (b6.cell (p := ⟨z, 3, none⟩) lzd).trans a3; have g4 := (b6.cell (p := ⟨z, 4, none⟩) lzd).trans a4; have g5 := (b6.cell (p := ⟨z, 5, none⟩) lzd).trans a5))
        all_goals
          go_wp2_with fail
          go_meet
        · have hF := xffZ R6b.out (by decide) b6
          exact ⟨_, _, _, _, _, rfl, rfl, rfl, hF⟩
        · have hF := xcnZ R6b.out (by decide) b6 Q6.out b5.size
          exact ⟨_, _, _, _, _, rfl, rfl, rfl, hF⟩
        · have hF := xcnZ R6b.out (by decide) b6 Q6.out (Nat.le_refl _)
          exact ⟨_, _, _, _, _, rfl, rfl, rfl, hF⟩
      case rest =>
        rename World => we
        obtain ⟨zb, ef, eb, ei, eo, rfl, rfl, rfl, hzb, hAb, hb5⟩ := hcut
        have HB5 := hideP (xadZ HB4.out hb5)
        have hz := (hb5.block z lzd).trans HZd.out
        have a1 := xaaZ hz 1
        obtain ⟨pe, ce, hpe, -, -, hfe⟩ := hAb.fr
        obtain ⟨ge, oe, le, se, rfl, hge, -, -, g2, -, hvl, -⟩ := hfe 0 _ rfl
        subst hpe
        obtain ⟨bl, ol, cl, o9, hlv, ho9, hbl, v0, v1⟩ := vals_at hvl (j := 0) (by decide)
        subst hlv
        have ho9' : o9 = (true, 1) := by simpa [hKeptM] using ho9.symm
        subst ho9'
        obtain ⟨pbk, kbk, hpbk, -⟩ := id hAb.bl
        subst hpbk
        have y0 := xaaZ hzb 0
        have y1 := xaaZ hzb 1
        simp at a1 y0 y1 g2 v0 v1
        have e1 : hRanM.blocks.length = 2 := rfl
        have e2 : hKeptM.frames.length = 1 := rfl
        have e3 : hKeptM.blocks.length = 1 := rfl
        rw [e1] at a1
        rw [e2] at y0
        rw [e3] at y1
        clear e1 e2 e3
        have q9 := World.alloc_heap_new we (.cells #[.int .i64 2] 3)
        have a9 := (Below.refl we.heap.size we).alloc (Nat.le_refl _) (.cells #[.int .i64 2] 3)
        have HSI := hideP (xczZ [2] [2] _ _ (we.alloc (.cells #[.int .i64 2] 3)) ((HU.out.below hb5).below a9) (xbdZ 1 1 q9 rfl (by unfold maxLen; decide)))
        have HQ9 := hideP a9
        have hg := xnoZ
        have heq := eql_val true 1 true 1
        have hlz := xacZ hz
        have hlzb := xacZ hzb
        have KX : Hid (∀ W, Below we.heap.size we W → W.cell? ⟨zb, 0, none⟩ = some (.slice (some ⟨ge, oe, none⟩) 1 ce) ∧ W.cell? ⟨zb, 1, none⟩ = some (.slice pbk 1 kbk) ∧ W.cell? ⟨ge, oe + 2, none⟩ = some (.slice (some ⟨bl, ol, none⟩) 1 cl) ∧ W.cell? ⟨bl, ol, none⟩ = some (.bool true) ∧ W.cell? ⟨bl, ol + 1, none⟩ = some (.int .i64 1)) := fun W hW => ⟨(hW.cell (p := ⟨zb, 0, none⟩) hlzb).trans y0, (hW.cell (p := ⟨zb, 1, none⟩) hlzb).trans y1, (hW.cell (p := ⟨ge, oe + 2, none⟩) hge).trans g2, (hW.cell (p := ⟨bl, ol, none⟩) hbl).trans v0, (hW.cell (p := ⟨bl, ol + 1, none⟩) hbl).trans v1⟩
        clear hz hzb hAb hfe hvl hb5 y0 y1 g2 v0 v1 HU HAd HZd a0 a2 a3 a4 a5 q9 a9 ho9
        go_wp2_with fail
        refine HSI.out.mono ?_
        rintro e w8 ⟨rfl, b8⟩
        have b89 := xadZ HQ9.out b8
        obtain ⟨y0, y1, g2, v0, v1⟩ := KX.out w8 b89
        have HBB := hideP b89
        have hdt : decide (([2] : List Int) = [2]) = true := rfl
        clear b8 b89 a1
        go_wp2
        go_ret
        exact ⟨rfl, xadZ HB5.out HBB.out⟩
end Go.Proofs.YtcadpoknolefpaaGreat


