/- My texts My Ui Qs: what of them is needed, joined. -/
import Derived.Laws.StructEq
import Derived.Deep.QuietTactic
import Derived.BigQuiet
import Derived.Deep.RegionHeld3
import Derived.Shelf.Slices.In.SortNone
import Derived.Test.YtmjjkenblfndgaaGreatD1
import Derived.Test.YtmjjkenblfndgaaGreatD2
import Derived.Test.YtmjjkenblfndgaaGreatD5
import Derived.Test.YtmjjkenblfndgaaGreatD9
import Derived.Test.YtmjjkenblfndgaaGreatD10
import Derived.Test.YtmjjkenblfndgaaGreatD12
import Derived.Test.YtmjjkenblfndgaaGreatD13
import Derived.Test.YtmjjkenblfndgaaGreatD17
import Derived.Test.YtmjjkenblfndgaaGreatD21
import Derived.Test.YtmjjkenblfndgaaGreatD22
import Derived.Test.YtmjjkenblfndgaaGreatD23
set_option maxRecDepth 100000
set_option maxHeartbeats 8000000
/- the reference's SameMachine, OpOf. -/
namespace Go.Proofs.YtmjjkenblfndgaaGreat
open Go.RowKit
set_option linter.unusedSimpArgs false
set_option linter.unusedVariables false
theorem neq_val (c : Bool) (a : Int) (c' : Bool) (a' : Int) (w : World) : (binOp .neq 113 (.agg #[.bool c, .int .i64 a]) (.agg #[.bool c', .int .i64 a'])).run Tryz.prog w = .ok (.bool (!(c == c' && a == a'))) w := by
  have u3 := Tryz.underlying3
  have a3 := Tryz.isAgg3
  have z3 := Tryz.sizeOf3
  have u4 := Tryz.underlying4
  have a4 := Tryz.isAgg4
  have z4 := Tryz.sizeOf4
  have hS : Tryz.prog.underlying 113 = some (.struct (Tryz.prog.fieldsOf 113)) := by kernel_rfl
  have hp : Tryz.prog.stoodInHeld 113 = false := by kernel_rfl
  rw [run_neq_struct, show (10000 : Nat) = 9999 + 1 from rfl, run_equalIn_agg w 9999 113 _ _ hS hp]
  simp only [Program.fieldsOf, Tryz.underlying113]
  go_simp
  by_cases h1 : c = c' <;> by_cases h2 : a = a' <;> simp [h1, h2]
theorem guard_val : Tryz.prog.eqGuardType Tryz.prog.depth 113 = false := by kernel_rfl
theorem xb2Z (l m : List Val) (v u : Value) (w : World) (hl : ValsAt w v l) (hm : ValsAt w u m) : Calls Tryz.prog 56 #[v, u] w fun e w' => e = .returned (.bool (decide (l = m))) ∧ Below w.heap.size w w' := by
  obtain ⟨p, cap, rfl, hlm, hc⟩ := hl
  obtain ⟨q, cap', rfl, hmm, hd⟩ := hm
  unfold maxLen at hlm hmm
  by_cases hlen : l.length = m.length
  · have hlen' : ((l.length : Int) != (m.length : Int)) = false := by simp; omega
    have HLEN : Hid (l.length = m.length) := hlen
    have HC : Hid (∀ k o, l[k]? = some o → ∃ b off, p = some ⟨b, off, none⟩ ∧ b < w.heap.size ∧ w.cell? ⟨b, off + k * 2, none⟩ = some (.bool o.1) ∧ w.cell? ⟨b, off + k * 2 + 1, none⟩ = some (.int .i64 o.2)) := hc
    have HD : Hid (∀ k o, m[k]? = some o → ∃ b off, q = some ⟨b, off, none⟩ ∧ b < w.heap.size ∧ w.cell? ⟨b, off + k * 2, none⟩ = some (.bool o.1) ∧ w.cell? ⟨b, off + k * 2 + 1, none⟩ = some (.int .i64 o.2)) := hd
    clear hc hd hlen
    go_enter Tryz.func56, Tryz.ntmps56
    go_wp2
    go_loopw [5] (fun i wr => ∃ k : Nat, k ≤ l.length ∧ i = .int .i64 k ∧ l.take k = m.take k ∧ Below w.heap.size w wr) (fun i _ => l.length - (intOf i).toNat)
    case atStart => exact ⟨0, Nat.zero_le _, rfl, by simp, Below.refl _ _⟩
    case round =>
      obtain ⟨k, hk, rfl, htk, hbw⟩ := hrel
      have HT : Hid (l.take k = m.take k) := htk
      clear htk
      by_cases hlt : k < l.length
      · have hlt2 : k < m.length := by have := HLEN.out; omega
        obtain ⟨⟨c, a⟩, ho⟩ : ∃ o, l[k]? = some o := ⟨l[k], List.getElem?_eq_some_iff.2 ⟨hlt, rfl⟩⟩
        obtain ⟨⟨c', a'⟩, ho'⟩ : ∃ o, m[k]? = some o := ⟨m[k], List.getElem?_eq_some_iff.2 ⟨hlt2, rfl⟩⟩
        obtain ⟨b, off, rfl, hb, h0, h1⟩ := HC.out k _ ho
        obtain ⟨b', off', rfl, hb', h0', h1'⟩ := HD.out k _ ho'
        have g0 := (hbw.cell (p := ⟨b, off + k * 2, none⟩) hb).trans h0
        have g1 := (hbw.cell (p := ⟨b, off + k * 2 + 1, none⟩) hb).trans h1
        have g0' := (hbw.cell (p := ⟨b', off' + k * 2, none⟩) hb').trans h0'
        have g1' := (hbw.cell (p := ⟨b', off' + k * 2 + 1, none⟩) hb').trans h1'
        have hlti : (k : Int) < (l.length : Int) := by omega
        have hlti2 : (k : Int) < (m.length : Int) := by omega
        have hg := guard_val
        have HO : Hid (l[k]? = some (c, a)) := ho
        have HO' : Hid (m[k]? = some (c', a')) := ho'
        clear ho ho' h0 h1 h0' h1'
        by_cases he : c = c' ∧ a = a'
        · have hneq : ∀ w, (binOp .neq 113 (.agg #[.bool c, .int .i64 a]) (.agg #[.bool c', .int .i64 a'])).run Tryz.prog w = .ok (.bool false) w := fun w => by rw [neq_val]; simp [he]
          have HE : Hid (c = c' ∧ a = a') := he
          clear he
          go_wp2
          go_quiet (fail)
          go_wp2
          go_roundw
          case rel => exact ⟨k + 1, by omega, by go_num, by rw [xa7Z l k _ HO.out, xa7Z m k _ HO'.out, HT.out, HE.out.1, HE.out.2], below_drewN hbw _⟩
          case measure => simp [intOf]; omega
        · have hneq : ∀ w, (binOp .neq 113 (.agg #[.bool c, .int .i64 a]) (.agg #[.bool c', .int .i64 a'])).run Tryz.prog w = .ok (.bool true) w := fun w => by rw [neq_val]; by_cases h1 : c = c' <;> by_cases h2 : a = a' <;> simp [h1, h2] <;> exact he ⟨h1, h2⟩
          have HE : Hid (¬ (c = c' ∧ a = a')) := he
          clear he
          go_wp2
          go_quiet (fail)
          go_wp2
          go_ret
          refine ⟨?_, below_drewN hbw _⟩
          have : ¬ l = m := fun h => by
            have h1 := HO.out
            rw [h, HO'.out] at h1
            simp at h1
            exact HE.out ⟨h1.1.symm, h1.2.symm⟩
          simp [this]
      · have hlt' : ¬ (k : Int) < (l.length : Int) := by omega
        go_wp2
        go_ret
        refine ⟨?_, hbw⟩
        have : l = m := by
          have h := HT.out
          rwa [List.take_of_length_le (by omega), List.take_of_length_le (by have := HLEN.out; omega)] at h
        simp [this]
  · have hlen' : ((l.length : Int) != (m.length : Int)) = true := by simp; omega
    have hne : ¬ l = m := fun h => hlen (by rw [h])
    clear hc hd
    have HN : Hid (¬ l = m) := hne
    clear hne hlen
    go_enter Tryz.func56, Tryz.ntmps56
    go_wp2
    go_ret
    exact ⟨by simp [HN.out], Below.refl _ _⟩
theorem frm_ext {x y : Frm} (h1 : x.fn = y.fn) (h2 : x.pc = y.pc) (h3 : x.loc = y.loc) (h4 : x.stk = y.stk) : x = y := by
  cases x; cases y; simp_all
theorem mach_ext {x y : Mach} (h1 : x.frames = y.frames) (h2 : x.blocks = y.blocks) (h3 : x.inp = y.inp) (h4 : x.out = y.out) (h5 : x.status = y.status) (h6 : x.trap = y.trap) : x = y := by
  cases x; cases y; simp_all
def SameIs {α : Type} (a b : α) (w : World) (e : Ending) (w' : World) : Prop := ∃ r, e = .returned (.bool r) ∧ (r = true ↔ a = b) ∧ Below w.heap.size w w'
theorem xcpZ {α : Type} {a b : α} {w w' : World} (h : ¬ a = b) (hb : Below w.heap.size w w') : SameIs a b w (.returned (.bool false)) w' := ⟨false, rfl, by simp [h], hb⟩
theorem same_yes {α : Type} {a b : α} {w w' : World} (h : a = b) (hb : Below w.heap.size w w') : SameIs a b w (.returned (.bool true)) w' := ⟨true, rfl, by simp [h], hb⟩
theorem xdbZ (A B : Mach) (fv bv iv ov fv' bv' iv' ov' : Value) (w : World) (hA : MachAt w fv bv iv ov A) (hB : MachAt w fv' bv' iv' ov' B) : Calls Tryz.prog 24 #[.agg #[fv, bv, iv, ov, .int .i64 A.status, .int .i64 A.trap], .agg #[fv', bv', iv', ov', .int .i64 B.status, .int .i64 B.trap]] w (SameIs A B w) := by
  obtain ⟨pf, cf, hfv, hfm, -, hfc⟩ := id hA.fr
  obtain ⟨pb, cb, hbv, -, -⟩ := id hA.bl
  obtain ⟨pi, ci, hiv, -⟩ := hA.inp.shp
  obtain ⟨po, co, hov, -⟩ := hA.out.shp
  obtain ⟨pf', cf', hfv', hfm', -, hfc'⟩ := id hB.fr
  obtain ⟨pb', cb', hbv', -, -⟩ := id hB.bl
  obtain ⟨pi', ci', hiv', -⟩ := hB.inp.shp
  obtain ⟨po', co', hov', -⟩ := hB.out.shp
  subst hfv hbv hiv hov hfv' hbv' hiv' hov'
  unfold maxLen at hfm hfm'
  obtain ⟨W2, hW2⟩ : ∃ W2, (w.alloc (.cells #[.slice pf A.frames.length cf, .slice pb A.blocks.length cb, .slice pi A.inp.length ci, .slice po A.out.length co, .int .i64 A.status, .int .i64 A.trap] 48)).alloc (.cells #[.slice pf' B.frames.length cf', .slice pb' B.blocks.length cb', .slice pi' B.inp.length ci', .slice po' B.out.length co', .int .i64 B.status, .int .i64 B.trap] 48) = W2 := ⟨_, rfl⟩
  have hb2 : Below w.heap.size w W2 := by rw [← hW2]; exact ((Below.refl _ w).alloc (Nat.le_refl _) _).alloc (by simp) _
  have x1 : W2.heap[w.heap.size]? = some (.cells #[.slice pf A.frames.length cf, .slice pb A.blocks.length cb, .slice pi A.inp.length ci, .slice po A.out.length co, .int .i64 A.status, .int .i64 A.trap] 48 (0, 0)) := by rw [← hW2]; exact xajZ (World.alloc_heap_new w _) _
  have x2 : W2.heap[w.heap.size + 1]? = some (.cells #[.slice pf' B.frames.length cf', .slice pb' B.blocks.length cb', .slice pi' B.inp.length ci', .slice po' B.out.length co', .int .i64 B.status, .int .i64 B.trap] 48 (0, 0)) := by rw [← hW2]; exact xa9Z w _ _
  have l1 := xacZ x1
  have l2 := xacZ x2
  have a0 := xaaZ x1 0
  have a1 := xaaZ x1 1
  have a2 := xaaZ x1 2
  have a3 := xaaZ x1 3
  have a4 := xaaZ x1 4
  have a5 := xaaZ x1 5
  have b0 := xaaZ x2 0
  have b1 := xaaZ x2 1
  have b3 := xaaZ x2 3
  have b4 := xaaZ x2 4
  have b5 := xaaZ x2 5
  simp at a0 a1 a2 a3 a4 a5
  have bb2 := xaaZ x2 2
  simp at b0 b1 bb2 b3 b4 b5
  have HSB : Hid (∀ W, Below W2.heap.size W2 W → Calls Tryz.prog 55 #[.slice pb A.blocks.length cb, .slice pb' B.blocks.length cb'] W fun e w' => e = .returned (.bool (decide (A.blocks = B.blocks))) ∧ Below W.heap.size W w') := fun W hW => xl5Z _ _ _ _ W ((hA.bl.below hb2).below hW) ((hB.bl.below hb2).below hW)
  have HSI : Hid (∀ W, Below W2.heap.size W2 W → Calls Tryz.prog 25 #[.slice pi A.inp.length ci, .slice pi' B.inp.length ci'] W fun e w' => e = .returned (.bool (decide (A.inp = B.inp))) ∧ Below W.heap.size W w') := fun W hW => xfjZ _ _ _ _ W ((hA.inp.at_.below hb2).below hW) ((hB.inp.at_.below hb2).below hW)
  have HSO : Hid (∀ W, Below W2.heap.size W2 W → Calls Tryz.prog 25 #[.slice po A.out.length co, .slice po' B.out.length co'] W fun e w' => e = .returned (.bool (decide (A.out = B.out))) ∧ Below W.heap.size W w') := fun W hW => xfjZ _ _ _ _ W ((hA.out.at_.below hb2).below hW) ((hB.out.at_.below hb2).below hW)
  have HX1 := hideP x1
  have HX2 := hideP x2
  have HFC := hideP hfc
  have HFC' := hideP hfc'
  clear hA hB x1 x2 hfc hfc'
  by_cases hst : A.status = B.status
  rotate_left
  · have hst' := xc0Z hst
    have HN := hideP hst
    clear hst
    go_enter Tryz.func24, Tryz.ntmps24
    go_wp2
    go_ret
    exact xcpZ (fun h => HN.out (by rw [h])) (hb2)
  have hst' := xcrZ hst
  have HST := hideP hst
  clear hst
  by_cases htr : A.trap = B.trap
  rotate_left
  · have htr' := xc0Z htr
    have HN := hideP htr
    clear htr
    go_enter Tryz.func24, Tryz.ntmps24
    go_wp2
    go_ret
    exact xcpZ (fun h => HN.out (by rw [h])) (hb2)
  have htr' := xcrZ htr
  have HTR := hideP htr
  clear htr
  by_cases hbl : A.blocks = B.blocks
  rotate_left
  · have HN := hideP hbl
    clear hbl
    go_enter Tryz.func24, Tryz.ntmps24
    go_wp2_with fail
    refine (HSB.out W2 (Below.refl _ _)).mono ?_
    rintro e w3 ⟨rfl, hb3⟩
    rw [decide_eq_false HN.out]
    have c2 := (hb3.cell (p := ⟨w.heap.size, 2, none⟩) l1).trans a2
    have d2 := (hb3.cell (p := ⟨w.heap.size + 1, 2, none⟩) l2).trans bb2
    have c3 := (hb3.cell (p := ⟨w.heap.size, 3, none⟩) l1).trans a3
    have d3 := (hb3.cell (p := ⟨w.heap.size + 1, 3, none⟩) l2).trans b3
    have c0 := (hb3.cell (p := ⟨w.heap.size, 0, none⟩) l1).trans a0
    have d0 := (hb3.cell (p := ⟨w.heap.size + 1, 0, none⟩) l2).trans b0
    go_wp2
    go_ret
    exact xcpZ (fun h => HN.out (by rw [h])) (xadZ hb2 hb3)
  have HBL := hideP hbl
  clear hbl
  by_cases hin : A.inp = B.inp
  rotate_left
  · have HN := hideP hin
    clear hin
    go_enter Tryz.func24, Tryz.ntmps24
    go_wp2_with fail
    refine (HSB.out W2 (Below.refl _ _)).mono ?_
    rintro e w3 ⟨rfl, hb3⟩
    rw [decide_eq_true HBL.out]
    have c2 := (hb3.cell (p := ⟨w.heap.size, 2, none⟩) l1).trans a2
    have d2 := (hb3.cell (p := ⟨w.heap.size + 1, 2, none⟩) l2).trans bb2
    have c3 := (hb3.cell (p := ⟨w.heap.size, 3, none⟩) l1).trans a3
    have d3 := (hb3.cell (p := ⟨w.heap.size + 1, 3, none⟩) l2).trans b3
    have c0 := (hb3.cell (p := ⟨w.heap.size, 0, none⟩) l1).trans a0
    have d0 := (hb3.cell (p := ⟨w.heap.size + 1, 0, none⟩) l2).trans b0
    go_wp2_with fail
    refine (HSI.out w3 hb3).mono ?_
    rintro e w4 ⟨rfl, hb4'⟩
    rw [decide_eq_false HN.out]
    have hb4 := hb3.trans (hb4'.mono hb3.size)
    clear hb4'
    have f3 := (hb4.cell (p := ⟨w.heap.size, 3, none⟩) l1).trans a3
    have g3 := (hb4.cell (p := ⟨w.heap.size + 1, 3, none⟩) l2).trans b3
    have f0 := (hb4.cell (p := ⟨w.heap.size, 0, none⟩) l1).trans a0
    have g0 := (hb4.cell (p := ⟨w.heap.size + 1, 0, none⟩) l2).trans b0
    go_wp2
    go_ret
    exact xcpZ (fun h => HN.out (by rw [h])) (xadZ hb2 hb4)
  have HIN := hideP hin
  clear hin
  by_cases hou : A.out = B.out
  rotate_left
  · have HN := hideP hou
    clear hou
    go_enter Tryz.func24, Tryz.ntmps24
    go_wp2_with fail
    refine (HSB.out W2 (Below.refl _ _)).mono ?_
    rintro e w3 ⟨rfl, hb3⟩
    rw [decide_eq_true HBL.out]
    have c2 := (hb3.cell (p := ⟨w.heap.size, 2, none⟩) l1).trans a2
    have d2 := (hb3.cell (p := ⟨w.heap.size + 1, 2, none⟩) l2).trans bb2
    have c3 := (hb3.cell (p := ⟨w.heap.size, 3, none⟩) l1).trans a3
    have d3 := (hb3.cell (p := ⟨w.heap.size + 1, 3, none⟩) l2).trans b3
    have c0 := (hb3.cell (p := ⟨w.heap.size, 0, none⟩) l1).trans a0
    have d0 := (hb3.cell (p := ⟨w.heap.size + 1, 0, none⟩) l2).trans b0
    go_wp2_with fail
    refine (HSI.out w3 hb3).mono ?_
    rintro e w4 ⟨rfl, hb4'⟩
    rw [decide_eq_true HIN.out]
    have hb4 := hb3.trans (hb4'.mono hb3.size)
    clear hb4'
    have f3 := (hb4.cell (p := ⟨w.heap.size, 3, none⟩) l1).trans a3
    have g3 := (hb4.cell (p := ⟨w.heap.size + 1, 3, none⟩) l2).trans b3
    have f0 := (hb4.cell (p := ⟨w.heap.size, 0, none⟩) l1).trans a0
    have g0 := (hb4.cell (p := ⟨w.heap.size + 1, 0, none⟩) l2).trans b0
    go_wp2_with fail
    refine (HSO.out w4 hb4).mono ?_
    rintro e w5 ⟨rfl, hb5'⟩
    rw [decide_eq_false HN.out]
    have hb5 := hb4.trans (hb5'.mono hb4.size)
    clear hb5'
    have m0 := (hb5.cell (p := ⟨w.heap.size, 0, none⟩) l1).trans a0
    have n0 := (hb5.cell (p := ⟨w.heap.size + 1, 0, none⟩) l2).trans b0
    go_wp2
    go_ret
    exact xcpZ (fun h => HN.out (by rw [h])) (xadZ hb2 hb5)
  have HOU := hideP hou
  clear hou
  by_cases hfl : A.frames.length = B.frames.length
  rotate_left
  · have hfl' : ((A.frames.length : Int) != (B.frames.length : Int)) = true := by simp; omega
    have HN := hideP hfl
    clear hfl
    go_enter Tryz.func24, Tryz.ntmps24
    go_wp2_with fail
    refine (HSB.out W2 (Below.refl _ _)).mono ?_
    rintro e w3 ⟨rfl, hb3⟩
    rw [decide_eq_true HBL.out]
    have c2 := (hb3.cell (p := ⟨w.heap.size, 2, none⟩) l1).trans a2
    have d2 := (hb3.cell (p := ⟨w.heap.size + 1, 2, none⟩) l2).trans bb2
    have c3 := (hb3.cell (p := ⟨w.heap.size, 3, none⟩) l1).trans a3
    have d3 := (hb3.cell (p := ⟨w.heap.size + 1, 3, none⟩) l2).trans b3
    have c0 := (hb3.cell (p := ⟨w.heap.size, 0, none⟩) l1).trans a0
    have d0 := (hb3.cell (p := ⟨w.heap.size + 1, 0, none⟩) l2).trans b0
    go_wp2_with fail
    refine (HSI.out w3 hb3).mono ?_
    rintro e w4 ⟨rfl, hb4'⟩
    rw [decide_eq_true HIN.out]
    have hb4 := hb3.trans (hb4'.mono hb3.size)
    clear hb4'
    have f3 := (hb4.cell (p := ⟨w.heap.size, 3, none⟩) l1).trans a3
    have g3 := (hb4.cell (p := ⟨w.heap.size + 1, 3, none⟩) l2).trans b3
    have f0 := (hb4.cell (p := ⟨w.heap.size, 0, none⟩) l1).trans a0
    have g0 := (hb4.cell (p := ⟨w.heap.size + 1, 0, none⟩) l2).trans b0
    go_wp2_with fail
    refine (HSO.out w4 hb4).mono ?_
    rintro e w5 ⟨rfl, hb5'⟩
    rw [decide_eq_true HOU.out]
    have hb5 := hb4.trans (hb5'.mono hb4.size)
    clear hb5'
    have m0 := (hb5.cell (p := ⟨w.heap.size, 0, none⟩) l1).trans a0
    have n0 := (hb5.cell (p := ⟨w.heap.size + 1, 0, none⟩) l2).trans b0
    go_wp2
    go_ret
    exact xcpZ (fun h => HN.out (by rw [h])) (xadZ hb2 hb5)
  have hfl' : ((A.frames.length : Int) != (B.frames.length : Int)) = false := by simp; omega
  have HFL := hideP hfl
  clear hfl
  go_enter Tryz.func24, Tryz.ntmps24
  go_wp2_with fail
  refine (HSB.out W2 (Below.refl _ _)).mono ?_
  rintro e w3 ⟨rfl, hb3⟩
  rw [decide_eq_true HBL.out]
  have c2 := (hb3.cell (p := ⟨w.heap.size, 2, none⟩) l1).trans a2
  have d2 := (hb3.cell (p := ⟨w.heap.size + 1, 2, none⟩) l2).trans bb2
  have c3 := (hb3.cell (p := ⟨w.heap.size, 3, none⟩) l1).trans a3
  have d3 := (hb3.cell (p := ⟨w.heap.size + 1, 3, none⟩) l2).trans b3
  have c0 := (hb3.cell (p := ⟨w.heap.size, 0, none⟩) l1).trans a0
  have d0 := (hb3.cell (p := ⟨w.heap.size + 1, 0, none⟩) l2).trans b0
  go_wp2_with fail
  refine (HSI.out w3 hb3).mono ?_
  rintro e w4 ⟨rfl, hb4'⟩
  rw [decide_eq_true HIN.out]
  have hb4 := hb3.trans (hb4'.mono hb3.size)
  clear hb4'
  have f3 := (hb4.cell (p := ⟨w.heap.size, 3, none⟩) l1).trans a3
  have g3 := (hb4.cell (p := ⟨w.heap.size + 1, 3, none⟩) l2).trans b3
  have f0 := (hb4.cell (p := ⟨w.heap.size, 0, none⟩) l1).trans a0
  have g0 := (hb4.cell (p := ⟨w.heap.size + 1, 0, none⟩) l2).trans b0
  go_wp2_with fail
  refine (HSO.out w4 hb4).mono ?_
  rintro e w5 ⟨rfl, hb5'⟩
  rw [decide_eq_true HOU.out]
  have hb5 := hb4.trans (hb5'.mono hb4.size)
  clear hb5'
  have m0 := (hb5.cell (p := ⟨w.heap.size, 0, none⟩) l1).trans a0
  have n0 := (hb5.cell (p := ⟨w.heap.size + 1, 0, none⟩) l2).trans b0
  go_wp2
  go_loopw [5] (fun i wr => ∃ k : Nat, k ≤ A.frames.length ∧ i = .int .i64 k ∧ A.frames.take k = B.frames.take k ∧ Below W2.heap.size W2 wr) (fun i _ => A.frames.length - (intOf i).toNat)
  case atStart => exact ⟨0, Nat.zero_le _, rfl, by simp, hb5⟩
  case round =>
    obtain ⟨k, hk, rfl, htk, hbw2⟩ := hrel
    have HT := hideP htk
    clear htk
    have hbw := hb2.trans (hbw2.mono hb2.size)
    have r0 := (hbw2.cell (p := ⟨w.heap.size, 0, none⟩) l1).trans a0
    have s0 := (hbw2.cell (p := ⟨w.heap.size + 1, 0, none⟩) l2).trans b0
    have hszr := hbw2.size
    by_cases hlt : k < A.frames.length
    · have hlt2 : k < B.frames.length := by have := HFL.out; omega
      obtain ⟨x, ho⟩ := xaiZ hlt
      obtain ⟨y, ho'⟩ := xaiZ hlt2
      obtain ⟨b, off, lv, sv, rfl, hb, x0, x1, x2, x3, hL, -, hS, -⟩ := HFC.out k _ ho
      obtain ⟨b', off', lv', sv', rfl, hb', x0', x1', x2', x3', hL', -, hS', -⟩ := HFC'.out k _ ho'
      have g0 := (hbw.cell (p := ⟨b, off + k * 4, none⟩) hb).trans x0
      have g1 := (hbw.cell (p := ⟨b, off + k * 4 + 1, none⟩) hb).trans x1
      have g2 := (hbw.cell (p := ⟨b, off + k * 4 + 2, none⟩) hb).trans x2
      have g3 := (hbw.cell (p := ⟨b, off + k * 4 + 3, none⟩) hb).trans x3
      have g0' := (hbw.cell (p := ⟨b', off' + k * 4, none⟩) hb').trans x0'
      have g1' := (hbw.cell (p := ⟨b', off' + k * 4 + 1, none⟩) hb').trans x1'
      have g2' := (hbw.cell (p := ⟨b', off' + k * 4 + 2, none⟩) hb').trans x2'
      have g3' := (hbw.cell (p := ⟨b', off' + k * 4 + 3, none⟩) hb').trans x3'
      have hLr := hL.below hbw
      have hLr' := hL'.below hbw
      have hSr := hS.below hbw
      have hSr' := hS'.below hbw
      have HO := hideP ho
      have HO' := hideP ho'
      clear ho ho' x0 x1 x2 x3 x0' x1' x2' x3'
      obtain ⟨p1, q1, rfl, -, -⟩ := hL
      obtain ⟨p2, q2, rfl, -, -⟩ := hS
      obtain ⟨p1', q1', rfl, -, -⟩ := hL'
      obtain ⟨p2', q2', rfl, -, -⟩ := hS'
      have hlti : (k : Int) < (A.frames.length : Int) := by omega
      have hlti2 : (k : Int) < (B.frames.length : Int) := by omega
      have y0 := fun o => xabZ g0 o
      have yy0 := fun o o' => xabZ (xabZ g0 o) o'
      have y1 := fun o => xabZ g1 o
      have yy1 := fun o o' => xabZ (xabZ g1 o) o'
      have y2 := fun o => xabZ g2 o
      have yy2 := fun o o' => xabZ (xabZ g2 o) o'
      have y3 := fun o => xabZ g3 o
      have yy3 := fun o o' => xabZ (xabZ g3 o) o'
      have y4 := fun o => xabZ g0' o
      have yy4 := fun o o' => xabZ (xabZ g0' o) o'
      have y5 := fun o => xabZ g1' o
      have yy5 := fun o o' => xabZ (xabZ g1' o) o'
      have y6 := fun o => xabZ g2' o
      have yy6 := fun o o' => xabZ (xabZ g2' o) o'
      have y7 := fun o => xabZ g3' o
      have yy7 := fun o o' => xabZ (xabZ g3' o) o'
      have y8 := fun o => xabZ r0 o
      have yy8 := fun o o' => xabZ (xabZ r0 o) o'
      have y9 := fun o => xabZ s0 o
      have yy9 := fun o o' => xabZ (xabZ s0 o) o'
      have hn0 : ¬ b = wr.heap.size := by omega
      have hn1 : ¬ b' = wr.heap.size := by omega
      have hn2 : ¬ b = wr.heap.size + 1 := by omega
      have hn3 : ¬ b' = wr.heap.size + 1 := by omega
      have hn4 : ¬ w.heap.size = wr.heap.size := by omega
      have hn5 : ¬ w.heap.size = wr.heap.size + 1 := by omega
      have hn6 : ¬ w.heap.size + 1 = wr.heap.size := by omega
      obtain ⟨WA, hWA⟩ : ∃ W, ((wr.alloc (.cells #[.int .i64 x.fn, .int .i64 x.pc, .slice p1 x.loc.length q1, .slice p2 x.stk.length q2] 89)).alloc (.cells #[.int .i64 y.fn, .int .i64 y.pc, .slice p1' y.loc.length q1', .slice p2' y.stk.length q2'] 89)).drew = W := ⟨_, rfl⟩
      have hbA : Below wr.heap.size wr WA := by rw [← hWA]; exact (((Below.refl _ wr).alloc (Nat.le_refl _) _).alloc (by simp) _).drew
      have h1A : WA.heap[wr.heap.size]? = some (.cells #[.int .i64 x.fn, .int .i64 x.pc, .slice p1 x.loc.length q1, .slice p2 x.stk.length q2] 89 (0, 0)) := by rw [← hWA]; exact xajZ (World.alloc_heap_new wr _) _
      have h2A : WA.heap[wr.heap.size + 1]? = some (.cells #[.int .i64 y.fn, .int .i64 y.pc, .slice p1' y.loc.length q1', .slice p2' y.stk.length q2'] 89 (0, 0)) := by rw [← hWA]; exact xa9Z wr _ _
      have l1A := xacZ h1A
      have l2A := xacZ h2A
      have e0A := xaaZ h1A 0
      have f0A := xaaZ h2A 0
      have e1A := xaaZ h1A 1
      have f1A := xaaZ h2A 1
      have e2A := xaaZ h1A 2
      have f2A := xaaZ h2A 2
      have e3A := xaaZ h1A 3
      have f3A := xaaZ h2A 3
      simp at e0A f0A e1A f1A e2A f2A e3A f3A
      clear h1A h2A
      obtain ⟨WB, hWB⟩ : ∃ W, ((wr.alloc (.cells #[.int .i64 y.fn, .int .i64 y.pc, .slice p1' y.loc.length q1', .slice p2' y.stk.length q2'] 89)).alloc (.cells #[.int .i64 x.fn, .int .i64 x.pc, .slice p1 x.loc.length q1, .slice p2 x.stk.length q2] 89)).drew = W := ⟨_, rfl⟩
      have hbB : Below wr.heap.size wr WB := by rw [← hWB]; exact (((Below.refl _ wr).alloc (Nat.le_refl _) _).alloc (by simp) _).drew
      have h1B : WB.heap[wr.heap.size]? = some (.cells #[.int .i64 y.fn, .int .i64 y.pc, .slice p1' y.loc.length q1', .slice p2' y.stk.length q2'] 89 (0, 0)) := by rw [← hWB]; exact xajZ (World.alloc_heap_new wr _) _
      have h2B : WB.heap[wr.heap.size + 1]? = some (.cells #[.int .i64 x.fn, .int .i64 x.pc, .slice p1 x.loc.length q1, .slice p2 x.stk.length q2] 89 (0, 0)) := by rw [← hWB]; exact xa9Z wr _ _
      have l1B := xacZ h1B
      have l2B := xacZ h2B
      have e0B := xaaZ h1B 0
      have f0B := xaaZ h2B 0
      have e1B := xaaZ h1B 1
      have f1B := xaaZ h2B 1
      have e2B := xaaZ h1B 2
      have f2B := xaaZ h2B 2
      have e3B := xaaZ h1B 3
      have f3B := xaaZ h2B 3
      simp at e0B f0B e1B f1B e2B f2B e3B f3B
      clear h1B h2B
      have HLr := hideP hLr
      have HLr' := hideP hLr'
      have HSr := hideP hSr
      have HSr' := hideP hSr'
      clear hLr hLr' hSr hSr'
      go_wp2
      go_region
      · skip
        by_cases h1 : x.fn = y.fn
        rotate_left
        · have h1' := xc0Z h1
          have HN := hideP h1
          clear h1
          go_wp2
          go_ret
          refine xcpZ (fun h => HN.out ?_) (hbw.trans ((hbA).mono hbw.size))
          have h1 := HO.out
          rw [h, HO'.out] at h1
          cases h1
          rfl
        have h1' := xcrZ h1
        have H1 := hideP h1
        clear h1
        by_cases h2 : x.pc = y.pc
        rotate_left
        · have h2' := xc0Z h2
          have HN := hideP h2
          clear h2
          go_wp2
          go_ret
          refine xcpZ (fun h => HN.out ?_) (hbw.trans ((hbA).mono hbw.size))
          have h1 := HO.out
          rw [h, HO'.out] at h1
          cases h1
          rfl
        have h2' := xcrZ h2
        have H2 := hideP h2
        clear h2
        by_cases h3 : x.loc = y.loc
        rotate_left
        · have HN := hideP h3
          clear h3
          go_wp2_with fail
          refine (xb2Z x.loc y.loc _ _ WA (HLr.out.below hbA) (HLr'.out.below hbA)).mono ?_
          rintro e w6 ⟨rfl, hb6⟩
          rw [decide_eq_false HN.out]
          have k6 := (hb6.cell (p := ⟨wr.heap.size, 3, none⟩) l1A).trans e3A
          have k7 := (hb6.cell (p := ⟨wr.heap.size + 1, 3, none⟩) l2A).trans f3A
          have hb7 := hbA.trans (hb6.mono hbA.size)
          go_wp2
          go_ret
          refine xcpZ (fun h => HN.out ?_) (hbw.trans ((hb7).mono hbw.size))
          have h1 := HO.out
          rw [h, HO'.out] at h1
          cases h1
          rfl
        have H3 := hideP h3
        clear h3
        by_cases h4 : x.stk = y.stk
        rotate_left
        · have HN := hideP h4
          clear h4
          go_wp2_with fail
          refine (xb2Z x.loc y.loc _ _ WA (HLr.out.below hbA) (HLr'.out.below hbA)).mono ?_
          rintro e w6 ⟨rfl, hb6⟩
          rw [decide_eq_true H3.out]
          have k6 := (hb6.cell (p := ⟨wr.heap.size, 3, none⟩) l1A).trans e3A
          have k7 := (hb6.cell (p := ⟨wr.heap.size + 1, 3, none⟩) l2A).trans f3A
          have hb7 := hbA.trans (hb6.mono hbA.size)
          go_wp2_with fail
          refine (xb2Z x.stk y.stk _ _ w6 (HSr.out.below hb7) (HSr'.out.below hb7)).mono ?_
          rintro e w8 ⟨rfl, hb8⟩
          rw [decide_eq_false HN.out]
          have hb9 := hb7.trans (hb8.mono hb7.size)
          go_wp2
          go_ret
          refine xcpZ (fun h => HN.out ?_) (hbw.trans ((hb9).mono hbw.size))
          have h1 := HO.out
          rw [h, HO'.out] at h1
          cases h1
          rfl
        have H4 := hideP h4
        clear h4
        go_wp2_with fail
        refine (xb2Z x.loc y.loc _ _ WA (HLr.out.below hbA) (HLr'.out.below hbA)).mono ?_
        rintro e w6 ⟨rfl, hb6⟩
        rw [decide_eq_true H3.out]
        have k6 := (hb6.cell (p := ⟨wr.heap.size, 3, none⟩) l1A).trans e3A
        have k7 := (hb6.cell (p := ⟨wr.heap.size + 1, 3, none⟩) l2A).trans f3A
        have hb7 := hbA.trans (hb6.mono hbA.size)
        go_wp2_with fail
        refine (xb2Z x.stk y.stk _ _ w6 (HSr.out.below hb7) (HSr'.out.below hb7)).mono ?_
        rintro e w8 ⟨rfl, hb8⟩
        rw [decide_eq_true H4.out]
        have hb9 := hb7.trans (hb8.mono hb7.size)
        go_wp2
        go_roundw
        case rel => exact ⟨k + 1, by omega, by go_num, by rw [xa7Z _ k _ HO.out, xa7Z _ k _ HO'.out, HT.out, frm_ext H1.out H2.out H3.out H4.out], hbw2.trans (hb9.mono hbw2.size)⟩
        case measure => simp [intOf]; omega
      · skip
        by_cases h1 : x.fn = y.fn
        rotate_left
        · have h1' := xc0Z h1
          have HN := hideP h1
          clear h1
          go_wp2
          go_ret
          refine xcpZ (fun h => HN.out ?_) (hbw.trans ((hbB).mono hbw.size))
          have h1 := HO.out
          rw [h, HO'.out] at h1
          cases h1
          rfl
        have h1' := xcrZ h1
        have H1 := hideP h1
        clear h1
        by_cases h2 : x.pc = y.pc
        rotate_left
        · have h2' := xc0Z h2
          have HN := hideP h2
          clear h2
          go_wp2
          go_ret
          refine xcpZ (fun h => HN.out ?_) (hbw.trans ((hbB).mono hbw.size))
          have h1 := HO.out
          rw [h, HO'.out] at h1
          cases h1
          rfl
        have h2' := xcrZ h2
        have H2 := hideP h2
        clear h2
        by_cases h3 : x.loc = y.loc
        rotate_left
        · have HN := hideP h3
          clear h3
          go_wp2_with fail
          refine (xb2Z x.loc y.loc _ _ WB (HLr.out.below hbB) (HLr'.out.below hbB)).mono ?_
          rintro e w6 ⟨rfl, hb6⟩
          rw [decide_eq_false HN.out]
          have k6 := (hb6.cell (p := ⟨wr.heap.size + 1, 3, none⟩) l2B).trans f3B
          have k7 := (hb6.cell (p := ⟨wr.heap.size, 3, none⟩) l1B).trans e3B
          have hb7 := hbB.trans (hb6.mono hbB.size)
          go_wp2
          go_ret
          refine xcpZ (fun h => HN.out ?_) (hbw.trans ((hb7).mono hbw.size))
          have h1 := HO.out
          rw [h, HO'.out] at h1
          cases h1
          rfl
        have H3 := hideP h3
        clear h3
        by_cases h4 : x.stk = y.stk
        rotate_left
        · have HN := hideP h4
          clear h4
          go_wp2_with fail
          refine (xb2Z x.loc y.loc _ _ WB (HLr.out.below hbB) (HLr'.out.below hbB)).mono ?_
          rintro e w6 ⟨rfl, hb6⟩
          rw [decide_eq_true H3.out]
          have k6 := (hb6.cell (p := ⟨wr.heap.size + 1, 3, none⟩) l2B).trans f3B
          have k7 := (hb6.cell (p := ⟨wr.heap.size, 3, none⟩) l1B).trans e3B
          have hb7 := hbB.trans (hb6.mono hbB.size)
          go_wp2_with fail
          refine (xb2Z x.stk y.stk _ _ w6 (HSr.out.below hb7) (HSr'.out.below hb7)).mono ?_
          rintro e w8 ⟨rfl, hb8⟩
          rw [decide_eq_false HN.out]
          have hb9 := hb7.trans (hb8.mono hb7.size)
          go_wp2
          go_ret
          refine xcpZ (fun h => HN.out ?_) (hbw.trans ((hb9).mono hbw.size))
          have h1 := HO.out
          rw [h, HO'.out] at h1
          cases h1
          rfl
        have H4 := hideP h4
        clear h4
        go_wp2_with fail
        refine (xb2Z x.loc y.loc _ _ WB (HLr.out.below hbB) (HLr'.out.below hbB)).mono ?_
        rintro e w6 ⟨rfl, hb6⟩
        rw [decide_eq_true H3.out]
        have k6 := (hb6.cell (p := ⟨wr.heap.size + 1, 3, none⟩) l2B).trans f3B
        have k7 := (hb6.cell (p := ⟨wr.heap.size, 3, none⟩) l1B).trans e3B
        have hb7 := hbB.trans (hb6.mono hbB.size)
        go_wp2_with fail
        refine (xb2Z x.stk y.stk _ _ w6 (HSr.out.below hb7) (HSr'.out.below hb7)).mono ?_
        rintro e w8 ⟨rfl, hb8⟩
        rw [decide_eq_true H4.out]
        have hb9 := hb7.trans (hb8.mono hb7.size)
        go_wp2
        go_roundw
        case rel => exact ⟨k + 1, by omega, by go_num, by rw [xa7Z _ k _ HO.out, xa7Z _ k _ HO'.out, HT.out, frm_ext H1.out H2.out H3.out H4.out], hbw2.trans (hb9.mono hbw2.size)⟩
        case measure => simp [intOf]; omega
    · have hlt' : ¬ (k : Int) < (A.frames.length : Int) := by omega
      go_wp2
      go_ret
      refine same_yes (mach_ext ?_ HBL.out HIN.out HOU.out HST.out HTR.out) hbw
      have h := HT.out
      rwa [List.take_of_length_le (by omega), List.take_of_length_le (by have := HFL.out; omega)] at h
end Go.Proofs.YtmjjkenblfndgaaGreat


/- What must be in any case of collecting: holder, collectBegun. -/
namespace Go.Proofs.YtmjjkenblfndgaaGreat
open Go.RowKit
set_option linter.unusedSimpArgs false
set_option linter.unusedVariables false
theorem holder_at {w W1 W2 W3 W4 : World} {o1 : Obj} (hW1 : w.alloc o1 = W1) (hW2 : W1.alloc (.cells #[.int .i64 2] 3) = W2)
    (hW3 : W2.alloc (.cells #[.int .i64 1, .int .i64 2, .int .i64 14, .int .i64 0, .int .i64 2, .int .i64 0, .int .i64 1, .int .i64 1, .int .i64 14, .int .i64 0, .int .i64 9, .int .i64 0, .int .i64 8, .int .i64 0, .int .i64 1, .int .i64 0, .int .i64 15, .int .i64 0, .int .i64 20, .int .i64 0, .int .i64 13, .int .i64 0] 86) = W3) (hW4 : W3.alloc (.cells #[.int .i64 0, .slice (some ⟨w.heap.size + 1, 0, none⟩) 1 1, .int .i64 0, .slice (some ⟨w.heap.size + 1 + 1, 0, none⟩) 11 11] 119) = W4) :
    FnsAt W4 (.slice (some ⟨w.heap.size + 1 + 1 + 1, 0, none⟩) 1 1) xaqZ ∧ Below w.heap.size w W4 ∧ W4.heap[w.heap.size]? = some o1 ∧ W4.heap[w.heap.size + 1 + 1 + 1]? = some (.cells #[.int .i64 0, .slice (some ⟨w.heap.size + 1, 0, none⟩) 1 1, .int .i64 0, .slice (some ⟨w.heap.size + 1 + 1, 0, none⟩) 11 11] 119 (0, 0)) := by
  have s1 : W1.heap.size = w.heap.size + 1 := by rw [← hW1]; simp
  have s2 : W2.heap.size = w.heap.size + 1 + 1 := by rw [← hW2]; simp; exact s1
  have s3 : W3.heap.size = w.heap.size + 1 + 1 + 1 := by rw [← hW3]; simp; exact s2
  have h1 := xcbZ w o1
  rw [hW1] at h1
  have h2 := xcbZ W1 (.cells #[.int .i64 2] 3)
  rw [hW2, s1] at h2
  have h3 := xcbZ W2 (.cells #[.int .i64 1, .int .i64 2, .int .i64 14, .int .i64 0, .int .i64 2, .int .i64 0, .int .i64 1, .int .i64 1, .int .i64 14, .int .i64 0, .int .i64 9, .int .i64 0, .int .i64 8, .int .i64 0, .int .i64 1, .int .i64 0, .int .i64 15, .int .i64 0, .int .i64 20, .int .i64 0, .int .i64 13, .int .i64 0] 86)
  rw [hW3, s2] at h3
  have h4 := xcbZ W3 (.cells #[.int .i64 0, .slice (some ⟨w.heap.size + 1, 0, none⟩) 1 1, .int .i64 0, .slice (some ⟨w.heap.size + 1 + 1, 0, none⟩) 11 11] 119)
  rw [hW4, s3] at h4
  have k2 : ∀ {k : Nat} {o : Obj}, W1.heap[k]? = some o → W2.heap[k]? = some o := fun h => by rw [← hW2]; exact xajZ h _
  have k3 : ∀ {k : Nat} {o : Obj}, W2.heap[k]? = some o → W3.heap[k]? = some o := fun h => by rw [← hW3]; exact xajZ h _
  have k4 : ∀ {k : Nat} {o : Obj}, W3.heap[k]? = some o → W4.heap[k]? = some o := fun h => by rw [← hW4]; exact xajZ h _
  have b1 : Below w.heap.size w W1 := by rw [← hW1]; exact (Below.refl _ w).alloc (Nat.le_refl _) _
  have b2 : Below w.heap.size w W2 := by rw [← hW2]; exact b1.alloc (by omega) _
  have b3 : Below w.heap.size w W3 := by rw [← hW3]; exact b2.alloc (by omega) _
  have b4 : Below w.heap.size w W4 := by rw [← hW4]; exact b3.alloc (by omega) _
  refine ⟨⟨_, 1, rfl, by unfold maxLen; decide, fun k f hk => ?_⟩, b4, k4 (k3 (k2 h1)), h4⟩
  have o1 : OpsAt W4 (.slice (some ⟨w.heap.size + 1 + 1, 0, none⟩) 11 11) holderOps := xhbZ (l := holderOps) (m := []) (fz := (0, 0)) 11 11 (k4 h3) rfl (by unfold maxLen; decide)
  have i1 : IntsAt W4 (.slice (some ⟨w.heap.size + 1, 0, none⟩) 1 1) [2] := ⟨_, 1, rfl, by unfold maxLen; decide, fun k z hk => by
    match k, hk with
    | 0, hk => simp at hk; subst hk; exact ⟨_, 0, rfl, xacZ (k4 (k3 h2)), xaaZ (k4 (k3 h2)) 0⟩
    | k + 1, hk => simp at hk⟩
  match k, hk with
  | 0, hk =>
    simp [xaqZ] at hk; subst hk
    exact ⟨_, 0, _, _, _, _, rfl, xacZ h4, xaaZ h4 0, xaaZ h4 1, xaaZ h4 2, xaaZ h4 3, rfl, i1, rfl, o1⟩
  | k + 1, hk => simp [xaqZ] at hk
theorem xghZ (w : World) : Calls Tryz.prog 74 #[] w fun e w' => ∃ v, e = .returned (.agg #[v]) ∧ FnsAt w' v xaqZ ∧ CapAt w' v ∧ Below w.heap.size w w' := by
  go_enter Tryz.func74, Tryz.ntmps74
  go_wp2
  obtain ⟨hf, hb, hh, hh4⟩ := holder_at (w := w) (o1 := .cells #[.slice (some ⟨w.heap.size + 1 + 1 + 1, 0, none⟩) 1 1] 24) rfl rfl rfl rfl
  have t0 := xaaZ hh 0
  simp only [List.getElem?_toArray, List.getElem?_cons_zero] at t0
  refine bodyPost_ret (v := .agg #[.slice (some ⟨w.heap.size + 1 + 1 + 1, 0, none⟩) 1 1]) (by simp [results, Tryz.results74, go_sem, t0]) rfl ⟨_, rfl, hf, ?_, hb⟩
  refine cap_of hh4 ?_
  intro k p n' c' hk
  match k, hk with
  | 0, hk => simp at hk; omega
  | k + 1, hk =>
    have := (Array.getElem?_eq_some_iff.1 hk).1
    simp at this
    omega
theorem xp2Z {pv : Value} {w : World} (hp : FnsAt w pv xaqZ) (hcp : CapAt w pv) : fitsE xaqZ = 0 := by
  obtain ⟨er, h⟩ := xhnZ hp hcp
  rw [← xdvZ h]
  exact xp3Z h
theorem hb_right (hf : fitsE xaqZ = 0) : xanZ xaqZ = 0 ∧ xa1Z xaqZ (entP xaqZ) ∧ RightM xaqZ (entP xaqZ) hBeginM := by
  obtain ⟨hp, he⟩ := xc6Z.1 hf
  obtain ⟨f, _, _, hR⟩ := xgxZ hp he
  rw [hb1] at hR
  exact ⟨hp, he, hR⟩
theorem hb_ok (hf : fitsE xaqZ = 0) : xaoZ xaqZ hBeginM = 0 ∧ xaoZ xaqZ hRanM = 0 := by
  obtain ⟨hp, he, hR⟩ := hb_right hf
  exact ⟨xa8Z.2 ⟨hp, he, hR⟩, xa8Z.2 ⟨hp, he, (xmxZ hp he hR (by decide) his10).1⟩⟩
theorem pcOk_hb : PcOk hBeginM := fun x hx => by simp [hBeginM] at hx; subst hx; simp
theorem xoiZ {pv : Value} {w : World} (hp : FnsAt w pv xaqZ) (hcp : CapAt w pv) (hf : fitsE xaqZ = 0) : Calls Tryz.prog 50 #[.agg #[pv]] w (MRet hBeginM 0 w) := by
  have := xk8Z xaqZ pv w hp hcp
  rw [hf, if_pos rfl, hb1] at this
  exact this
end Go.Proofs.YtmjjkenblfndgaaGreat


/- Machines as bytes, plainly (chapter 10): what Save tells, what Restore reads. -/
namespace Go.Proofs.YtmjjkenblfndgaaGreat
open Go.RowKit
set_option linter.unusedSimpArgs false
set_option linter.unusedVariables false
def fourB (n : Int) : List UInt8 := [xakZ (n / 16777216), xakZ (n / 65536), xakZ (n / 256), xakZ n]
def manyB {α : Type} (enc : α → List UInt8) (l : List α) : List UInt8 := xakZ (l.length : Int) :: l.flatMap enc
def numsB (l : List Int) : List UInt8 := manyB fourB l
def valB (v : Val) : List UInt8 := xakZ (if v.1 then 1 else 0) :: fourB v.2
def valsB (l : List Val) : List UInt8 := manyB valB l
def frmB (x : Frm) : List UInt8 := xakZ x.fn :: xakZ x.pc :: (valsB x.loc ++ valsB x.stk)
def machB (M : Mach) : List UInt8 := xakZ M.status :: xakZ M.trap :: (numsB M.inp ++ (numsB M.out ++ (manyB numsB M.blocks ++ manyB frmB M.frames)))
abbrev Par (α : Type) := List UInt8 → Option (α × List UInt8)
def smallP : Par Int
  | [] => none
  | b :: r => some ((b.toNat : Int), r)
def numP : Par Int := fun s => if s.length < 4 then none else some (wrap32 (numOf (s.take 4)), s.drop 4)
def xbeZ {α : Type} (one : Par α) : Nat → Par (List α)
  | 0, s => some ([], s)
  | n + 1, s => match xbeZ one n s with
    | none => none
    | some (l, r) => match one r with
      | none => none
      | some (a, q) => some (l ++ [a], q)
def manyP {α : Type} (one : Par α) : Par (List α) := fun s => match smallP s with
  | none => none
  | some (n, r) => xbeZ one n.toNat r
def numsP : Par (List Int) := manyP numP
def valP : Par Val := fun s => match smallP s with
  | none => none
  | some (k, r) => if k ≠ 0 ∧ k ≠ 1 then none else match numP r with
    | none => none
    | some (n, q) => some ((decide (k = 1), n), q)
def valsP : Par (List Val) := manyP valP
def frmP : Par Frm := fun s => match smallP s with
  | none => none
  | some (f, r) => match smallP r with
    | none => none
    | some (pc, q) => match valsP q with
      | none => none
      | some (l, t) => match valsP t with
        | none => none
        | some (k, u) => some (⟨f, pc, l, k⟩, u)
def machPP : Par Mach := fun s => match smallP s with
  | none => none
  | some (st, r1) => match smallP r1 with
    | none => none
    | some (tr, r2) => match numsP r2 with
      | none => none
      | some (i, r3) => match numsP r3 with
        | none => none
        | some (o, r4) => match manyP numsP r4 with
          | none => none
          | some (b, r5) => match manyP frmP r5 with
            | none => none
            | some (f, r6) => some (⟨f, b, i, o, st, tr⟩, r6)
def xbqZ (s : List UInt8) : Option Mach := match machPP s with
  | some (M, []) => some M
  | _ => none
def Reads {α : Type} (enc : α → List UInt8) (ok : α → Prop) (one : Par α) : Prop :=
  (∀ a r, ok a → one (enc a ++ r) = some (a, r)) ∧ (∀ s a r, one s = some (a, r) → s = enc a ++ r ∧ ok a)
def okB (n : Int) : Prop := 0 ≤ n ∧ n < 256
def ok4 (n : Int) : Prop := -2147483648 ≤ n ∧ n ≤ 2147483647
def okV4 (v : Val) : Prop := ok4 v.2
def okMany {α : Type} (ok : α → Prop) (l : List α) : Prop := l.length < 256 ∧ ∀ a ∈ l, ok a
def okFrm (x : Frm) : Prop := okB x.fn ∧ okB x.pc ∧ okMany okV4 x.loc ∧ okMany okV4 x.stk
structure ByteM (M : Mach) : Prop where
  status : okB M.status
  trap : okB M.trap
  inp : okMany ok4 M.inp
  out : okMany ok4 M.out
  blocks : okMany (okMany ok4) M.blocks
  frames : okMany okFrm M.frames
theorem xbsZ : Reads (fun n : Int => [xakZ n]) okB smallP := by
  refine ⟨fun a r h => ?_, fun s a r h => ?_⟩
  · have := xdpZ a
    have h2 : a % 256 = a := Int.emod_eq_of_lt h.1 h.2
    simp only [List.cons_append, List.nil_append, smallP, this, h2]
  · cases s with
    | nil => simp [smallP] at h
    | cons b t =>
      simp only [smallP, Option.some.injEq, Prod.mk.injEq] at h
      obtain ⟨rfl, rfl⟩ := h
      have := b.toNat_lt
      refine ⟨?_, ?_, ?_⟩
      · simp only [List.cons_append, List.nil_append]
        rw [xf3Z _ b (by omega)]
      · exact Int.natCast_nonneg _
      · omega
theorem xjbZ : Reads fourB ok4 numP := by
  refine ⟨fun a r h => ?_, fun s a r h => ?_⟩
  · have h4 : ¬ (fourB a ++ r).length < 4 := by simp [fourB]
    rw [numP, if_neg h4]
    have e1 : (fourB a ++ r).take 4 = fourB a := by simp [fourB]
    have e2 : (fourB a ++ r).drop 4 = r := by simp [fourB]
    rw [e1, e2]
    congr 1
    exact Prod.ext (num_four a h.1 h.2) rfl
  · rw [numP] at h
    by_cases h4 : s.length < 4
    · rw [if_pos h4] at h; cases h
    rw [if_neg h4] at h
    match s, h4, h with
    | [], h4, _ => simp at h4
    | [_], h4, _ => simp at h4
    | [_, _], h4, _ => simp at h4
    | [_, _, _], h4, _ => simp at h4
    | b3 :: b2 :: b1 :: b0 :: t, _, h =>
      simp only [List.take_succ_cons, List.take_zero, List.drop_succ_cons, List.drop_zero, Option.some.injEq, Prod.mk.injEq] at h
      obtain ⟨rfl, rfl⟩ := h
      refine ⟨?_, xpcZ _⟩
      have := four_num b3 b2 b1 b0
      unfold fourB
      rw [this]
      rfl
theorem times_app {α : Type} {enc : α → List UInt8} {ok : α → Prop} {one : Par α} (h : Reads enc ok one) : ∀ (n : Nat) (l : List α) (r : List UInt8), (∀ a ∈ l, ok a) → n ≤ l.length → xbeZ one n (l.flatMap enc ++ r) = some (l.take n, (l.drop n).flatMap enc ++ r) := by
  intro n
  induction n with
  | zero => intro l r _ _; simp [xbeZ]
  | succ n ih =>
    intro l r hok hn
    rw [xbeZ, ih l r hok (by omega)]
    obtain ⟨a, ha⟩ : ∃ a, l[n]? = some a := ⟨l[n], List.getElem?_eq_getElem (by omega)⟩
    have e1 : l.drop n = a :: l.drop (n + 1) := by rw [List.drop_eq_getElem_cons (by omega)]; congr 1; exact (List.getElem?_eq_some_iff.1 ha).2
    have e2 : l.take (n + 1) = l.take n ++ [a] := by rw [List.take_add_one, ha]; rfl
    simp only [e1, List.flatMap_cons, List.append_assoc]
    rw [h.1 a _ (hok a (List.mem_of_getElem? ha))]
    simp only [e2]
theorem times_inv {α : Type} {enc : α → List UInt8} {ok : α → Prop} {one : Par α} (h : Reads enc ok one) : ∀ (n : Nat) (s : List UInt8) (l : List α) (r : List UInt8), xbeZ one n s = some (l, r) → l.length = n ∧ s = l.flatMap enc ++ r ∧ ∀ a ∈ l, ok a := by
  intro n
  induction n with
  | zero => intro s l r hs; simp only [xbeZ, Option.some.injEq, Prod.mk.injEq] at hs; obtain ⟨rfl, rfl⟩ := hs; simp
  | succ n ih =>
    intro s l r hs
    rw [xbeZ] at hs
    cases ht : xbeZ one n s with
    | none => rw [ht] at hs; cases hs
    | some lr =>
      obtain ⟨l', r'⟩ := lr
      rw [ht] at hs
      simp only at hs
      cases ho : one r' with
      | none => rw [ho] at hs; cases hs
      | some aq =>
        obtain ⟨a, q⟩ := aq
        rw [ho] at hs
        simp only [Option.some.injEq, Prod.mk.injEq] at hs
        obtain ⟨rfl, rfl⟩ := hs
        obtain ⟨h1, h2, h3⟩ := ih s l' r' ht
        obtain ⟨h4, h5⟩ := h.2 _ _ _ ho
        refine ⟨by simp [h1], by rw [h2, h4]; simp, fun b hb => ?_⟩
        rcases List.mem_append.1 hb with hb | hb
        · exact h3 b hb
        · simp at hb; subst hb; exact h5
theorem xglZ {α : Type} {one : Par α} {s : List UInt8} : ∀ {k n : Nat}, xbeZ one k s = none → k ≤ n → xbeZ one n s = none := by
  intro k n h hk
  induction n with
  | zero => obtain rfl : k = 0 := by omega
            exact h
  | succ n ih =>
    by_cases e : k = n + 1
    · subst e; exact h
    · rw [xbeZ, ih (by omega)]
theorem xdcZ {α : Type} {one : Par α} {s : List UInt8} {k : Nat} {l : List α} {r : List UInt8} (h : xbeZ one k s = some (l, r)) : xbeZ one (k + 1) s = match one r with
      | none => none
      | some (a, q) => some (l ++ [a], q) := by rw [xbeZ, h]
theorem xflZ {α : Type} {one : Par α} : ∀ {k : Nat} {s : List UInt8} {l : List α} {r : List UInt8}, xbeZ one k s = some (l, r) → l.length = k := by
  intro k
  induction k with
  | zero => intro s l r h; simp only [xbeZ, Option.some.injEq, Prod.mk.injEq] at h; rw [← h.1]; rfl
  | succ k ih =>
    intro s l r h
    rw [xbeZ] at h
    cases ht : xbeZ one k s with
    | none => rw [ht] at h; cases h
    | some lr =>
      rw [ht] at h
      simp only at h
      cases ho : one lr.2 with
      | none => rw [ho] at h; cases h
      | some aq =>
        rw [ho] at h
        simp only [Option.some.injEq, Prod.mk.injEq] at h
        rw [← h.1, List.length_append, ih (show xbeZ one k s = some (lr.1, lr.2) from ht)]
        rfl
theorem xevZ {α : Type} {enc : α → List UInt8} {ok : α → Prop} {one : Par α} (h : Reads enc ok one) : Reads (manyB enc) (okMany ok) (manyP one) := by
  refine ⟨fun l r hl => ?_, fun s l r hs => ?_⟩
  · have e : smallP (manyB enc l ++ r) = some ((l.length : Int), l.flatMap enc ++ r) := xbsZ.1 (l.length : Int) (l.flatMap enc ++ r) ⟨Int.natCast_nonneg _, by have := hl.1; omega⟩
    rw [manyP, e]
    simp only [Int.toNat_natCast]
    rw [times_app h l.length l r hl.2 (Nat.le_refl _)]
    simp
  · rw [manyP] at hs
    cases h1 : smallP s with
    | none => rw [h1] at hs; cases hs
    | some nr =>
      obtain ⟨n, q⟩ := nr
      rw [h1] at hs
      simp only at hs
      obtain ⟨e1, hb⟩ := xbsZ.2 _ _ _ h1
      obtain ⟨e2, e3, e4⟩ := times_inv h _ _ _ _ hs
      have hn : (l.length : Int) = n := by have := hb.1; omega
      refine ⟨?_, by have := hb.2; omega, e4⟩
      rw [manyB, hn, e1, e3]
      simp
theorem xcvZ : Reads numsB (okMany ok4) numsP := xevZ xjbZ
theorem val_reads : Reads valB okV4 valP := by
  refine ⟨fun a r h => ?_, fun s a r h => ?_⟩
  · obtain ⟨b, n⟩ := a
    have e : smallP (valB (b, n) ++ r) = some ((if b then 1 else 0 : Int), fourB n ++ r) := xbsZ.1 (if b then 1 else 0 : Int) (fourB n ++ r) (by cases b <;> exact ⟨by decide, by decide⟩)
    rw [valP, e]
    simp only
    rw [if_neg (by cases b <;> decide), xjbZ.1 n r h]
    cases b <;> rfl
  · rw [valP] at h
    cases h1 : smallP s with
    | none => rw [h1] at h; cases h
    | some kr =>
      obtain ⟨k, q⟩ := kr
      rw [h1] at h
      simp only at h
      split at h
      · cases h
      rename_i hk
      cases h2 : numP q with
      | none => rw [h2] at h; cases h
      | some nq =>
        obtain ⟨n, t⟩ := nq
        rw [h2] at h
        simp only [Option.some.injEq, Prod.mk.injEq] at h
        obtain ⟨rfl, rfl⟩ := h
        obtain ⟨e1, -⟩ := xbsZ.2 _ _ _ h1
        obtain ⟨e2, e3⟩ := xjbZ.2 _ _ _ h2
        refine ⟨?_, e3⟩
        have : k = (if decide (k = 1) then 1 else 0 : Int) := by
          by_cases hh : k = 1
          · simp [hh]
          · simp [hh]; omega
        rw [e1, e2, valB]
        simp only [← this]
        rfl
theorem xgmZ : Reads valsB (okMany okV4) valsP := xevZ val_reads
theorem xmfZ : Reads frmB okFrm frmP := by
  refine ⟨fun a r h => ?_, fun s a r h => ?_⟩
  · obtain ⟨f, pc, l, k⟩ := a
    obtain ⟨h1, h2, h3, h4⟩ := h
    have e1 : smallP (frmB ⟨f, pc, l, k⟩ ++ r) = some (f, xakZ pc :: (valsB l ++ valsB k) ++ r) := xbsZ.1 f _ h1
    have e2 : smallP (xakZ pc :: (valsB l ++ valsB k) ++ r) = some (pc, (valsB l ++ valsB k) ++ r) := xbsZ.1 pc _ h2
    rw [frmP, e1]
    simp only
    rw [e2]
    simp only
    rw [List.append_assoc, xgmZ.1 l _ h3]
    simp only
    rw [xgmZ.1 k _ h4]
  · rw [frmP] at h
    cases h1 : smallP s with
    | none => rw [h1] at h; cases h
    | some x1 =>
      obtain ⟨f, s1⟩ := x1
      rw [h1] at h; simp only at h
      cases h2 : smallP s1 with
      | none => rw [h2] at h; cases h
      | some x2 =>
        obtain ⟨pc, s2⟩ := x2
        rw [h2] at h; simp only at h
        cases h3 : valsP s2 with
        | none => rw [h3] at h; cases h
        | some x3 =>
          obtain ⟨l, s3⟩ := x3
          rw [h3] at h; simp only at h
          cases h4 : valsP s3 with
          | none => rw [h4] at h; cases h
          | some x4 =>
            obtain ⟨k, s4⟩ := x4
            rw [h4] at h
            simp only [Option.some.injEq, Prod.mk.injEq] at h
            obtain ⟨rfl, rfl⟩ := h
            obtain ⟨e1, g1⟩ := xbsZ.2 _ _ _ h1
            obtain ⟨e2, g2⟩ := xbsZ.2 _ _ _ h2
            obtain ⟨e3, g3⟩ := xgmZ.2 _ _ _ h3
            obtain ⟨e4, g4⟩ := xgmZ.2 _ _ _ h4
            refine ⟨?_, g1, g2, g3, g4⟩
            rw [e1, e2, e3, e4, frmB]
            simp
theorem xh7Z : Reads machB ByteM machPP := by
  refine ⟨fun a r h => ?_, fun s a r h => ?_⟩
  · obtain ⟨fr, bl, i, o, st, tr⟩ := a
    obtain ⟨h1, h2, h3, h4, h5, h6⟩ := h
    have e1 : smallP (machB ⟨fr, bl, i, o, st, tr⟩ ++ r) = some (st, xakZ tr :: (numsB i ++ (numsB o ++ (manyB numsB bl ++ manyB frmB fr))) ++ r) := xbsZ.1 st _ h1
    have e2 : smallP (xakZ tr :: (numsB i ++ (numsB o ++ (manyB numsB bl ++ manyB frmB fr))) ++ r) = some (tr, (numsB i ++ (numsB o ++ (manyB numsB bl ++ manyB frmB fr))) ++ r) := xbsZ.1 tr _ h2
    rw [machPP, e1]
    simp only
    rw [e2]
    simp only
    rw [List.append_assoc, xcvZ.1 i _ h3]
    simp only
    rw [List.append_assoc, xcvZ.1 o _ h4]
    simp only
    rw [List.append_assoc, (xevZ xcvZ).1 bl _ h5]
    simp only
    rw [(xevZ xmfZ).1 fr _ h6]
  · rw [machPP] at h
    cases h1 : smallP s with
    | none => rw [h1] at h; cases h
    | some x1 =>
      obtain ⟨st, s1⟩ := x1
      rw [h1] at h; simp only at h
      cases h2 : smallP s1 with
      | none => rw [h2] at h; cases h
      | some x2 =>
        obtain ⟨tr, s2⟩ := x2
        rw [h2] at h; simp only at h
        cases h3 : numsP s2 with
        | none => rw [h3] at h; cases h
        | some x3 =>
          obtain ⟨i, s3⟩ := x3
          rw [h3] at h; simp only at h
          cases h4 : numsP s3 with
          | none => rw [h4] at h; cases h
          | some x4 =>
            obtain ⟨o, s4⟩ := x4
            rw [h4] at h; simp only at h
            cases h5 : manyP numsP s4 with
            | none => rw [h5] at h; cases h
            | some x5 =>
              obtain ⟨bl, s5⟩ := x5
              rw [h5] at h; simp only at h
              cases h6 : manyP frmP s5 with
              | none => rw [h6] at h; cases h
              | some x6 =>
                obtain ⟨fr, s6⟩ := x6
                rw [h6] at h
                simp only [Option.some.injEq, Prod.mk.injEq] at h
                obtain ⟨rfl, rfl⟩ := h
                obtain ⟨e1, g1⟩ := xbsZ.2 _ _ _ h1
                obtain ⟨e2, g2⟩ := xbsZ.2 _ _ _ h2
                obtain ⟨e3, g3⟩ := xcvZ.2 _ _ _ h3
                obtain ⟨e4, g4⟩ := xcvZ.2 _ _ _ h4
                obtain ⟨e5, g5⟩ := (xevZ xcvZ).2 _ _ _ h5
                obtain ⟨e6, g6⟩ := (xevZ xmfZ).2 _ _ _ h6
                refine ⟨?_, g1, g2, g3, g4, g5, g6⟩
                rw [e1, e2, e3, e4, e5, e6, machB]
                simp
theorem xgwZ {M : Mach} (h : ByteM M) : xbqZ (machB M) = some M := by
  have := xh7Z.1 M [] h
  rw [List.append_nil] at this
  rw [xbqZ, this]
theorem xgjZ {s : List UInt8} {M : Mach} (h : xbqZ s = some M) : s = machB M ∧ ByteM M := by
  unfold xbqZ at h
  cases hp : machPP s with
  | none => rw [hp] at h; cases h
  | some x =>
    obtain ⟨A, r⟩ := x
    rw [hp] at h
    cases r with
    | cons b t => cases h
    | nil =>
      simp only [Option.some.injEq] at h
      subst h
      obtain ⟨e, g⟩ := xh7Z.2 _ _ _ hp
      exact ⟨by rw [e, List.append_nil], g⟩
theorem machB_inj {M N : Mach} (h : ByteM M) (k : ByteM N) (e : machB M = machB N) : M = N := by
  have := xgwZ h
  rw [e, xgwZ k] at this
  exact (Option.some.inj this).symm
theorem right_byte {p : List Fn} {e : Nat → Nat → Option (List Int)} {m : Mach} (hp : p.length ≤ 5) (hcode : ∀ f ∈ p, f.2.2.2.length ≤ 40) (h : RightM p e m) (hsm : ∀ x ∈ m.frames, x.loc.length ≤ 20 ∧ x.stk.length ≤ 20) (he : ∀ (k : Nat) (f : Fn), p[k]? = some f → ∀ pc s, e k pc = some s → pc < f.2.2.2.length) : ByteM m := by
  obtain ⟨b1, b2, b3⟩ := xb9Z h.blocks
  have i4 : ∀ {n : Int}, isI32 n = true → ok4 n := fun hn => by simpa [isI32, ok4] using hn
  have v4 : ∀ {v : Val}, okV m.blocks.length v = true → okV4 v := fun {v} hv => by
    unfold okV at hv
    unfold okV4 ok4
    split at hv
    · simp at hv; omega
    · simpa [isI32] using hv
  have bl : ∀ b ∈ m.blocks, b.length ≤ 40 := fun b hb => by
    obtain ⟨k, hk, hk2⟩ := List.getElem_of_mem hb
    have := xfeZ (L := m.blocks) (k := k) (b := b) (by rw [List.getElem?_eq_getElem hk, hk2])
    omega
  refine ⟨⟨h.status.1, by have := h.status.2; omega⟩, ?_, ⟨by have := h.inp.1; omega, fun n hn => i4 (h.inp.2 n hn)⟩, ⟨by have := h.out.1; omega, fun n hn => i4 (h.out.2 n hn)⟩, ⟨by omega, fun b hb => ⟨by have := bl b hb; omega, fun n hn => i4 (b3 b hb n hn)⟩⟩, ⟨by have := h.depth.1; omega, fun x hx => ?_⟩⟩
  · by_cases h3 : m.status = 3
    · have := h.trap.1 h3; exact ⟨by omega, by omega⟩
    · rw [h.trap.2 h3]; exact ⟨by decide, by decide⟩
  · obtain ⟨i, hi, hi2⟩ := List.getElem_of_mem hx
    obtain ⟨k, f, hf⟩ := h.each i x (by rw [List.getElem?_eq_getElem hi, hi2])
    have hk := (List.getElem?_eq_some_iff.1 hf.at_).1
    have hc := hcode f (List.mem_of_getElem? hf.at_)
    refine ⟨⟨by rw [hf.fn]; omega, by rw [hf.fn]; omega⟩, ?_, ⟨by have := (hsm x hx).1; omega, fun v hv => v4 (hf.okl v hv)⟩, ⟨by have := (hsm x hx).2; omega, fun v hv => v4 (hf.oks v hv)⟩⟩
    cases hn : (m.frames[i + 1]?).map Frm.fn with
    | none =>
      obtain ⟨pc, s, h1, h2, -⟩ := hf.inner hn
      have := he k f hf.at_ pc s h2
      exact ⟨by omega, by omega⟩
    | some g =>
      obtain ⟨pc, s0, s, g', h1, -, h2, -⟩ := hf.outer g hn
      have := he k f hf.at_ pc s0 h2
      exact ⟨by omega, by omega⟩
end Go.Proofs.YtmjjkenblfndgaaGreat


