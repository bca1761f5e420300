/- My texts My: what of them is needed, joined. -/
import Derived.Laws.StructEq
import Derived.Deep.QuietTactic
import Derived.BigQuiet
import Derived.Test.YtcadpoknolefpaaGreatF11
import Derived.Test.YtcadpoknolefpaaGreatF25
/- the reference's SameMachine, OpOf. -/
namespace Go.Proofs.YtcadpoknolefpaaGreat
open Go.RowKit
set_option linter.unusedSimpArgs false
set_option linter.unusedVariables false
theorem neq_val (c : Bool) (a : Int) (c' : Bool) (a' : Int) (w : World) : (binOp .neq 50 (.agg #[.bool c, .int .i64 a]) (.agg #[.bool c', .int .i64 a'])).run Tryz.prog w = .ok (.bool (!(c == c' && a == a'))) w := by
  have u3 := Tryz.underlying3
  have a3 := Tryz.isAgg3
  have z3 := Tryz.sizeOf3
  have u4 := Tryz.underlying4
  have a4 := Tryz.isAgg4
  have z4 := Tryz.sizeOf4
  have hS : Tryz.prog.underlying 50 = some (.struct (Tryz.prog.fieldsOf 50)) := by kernel_rfl
  have hp : Tryz.prog.stoodInHeld 50 = false := by kernel_rfl
  rw [run_neq_struct, show (10000 : Nat) = 9999 + 1 from rfl, run_equalIn_agg w 9999 50 _ _ hS hp]
  simp only [Program.fieldsOf, Tryz.underlying50]
  go_simp
  by_cases h1 : c = c' <;> by_cases h2 : a = a' <;> simp [h1, h2]
theorem guard_val : Tryz.prog.eqGuardType Tryz.prog.depth 50 = false := by kernel_rfl
set_option maxHeartbeats 1000000 in
theorem sameVals_any (l m : List Val) (v u : Value) (w : World) (hl : ValsAt w v l) (hm : ValsAt w u m) : Calls Tryz.prog 65 #[v, u] w fun e w' => e = .returned (.bool (decide (l = m))) ∧ Below w.heap.size w w' := by
  obtain ⟨p, cap, rfl, hlm, hc⟩ := hl
  obtain ⟨q, cap', rfl, hmm, hd⟩ := hm
  unfold maxLen at hlm hmm
  by_cases hlen : l.length = m.length
  · have hlen' : ((l.length : Int) != (m.length : Int)) = false := by simp; omega
    have HLEN : Hid (l.length = m.length) := hlen
    have HC : Hid (∀ k o, l[k]? = some o → ∃ b off, p = some ⟨b, off, none⟩ ∧ b < w.heap.size ∧ w.cell? ⟨b, off + k * 2, none⟩ = some (.bool o.1) ∧ w.cell? ⟨b, off + k * 2 + 1, none⟩ = some (.int .i64 o.2)) := hc
    have HD : Hid (∀ k o, m[k]? = some o → ∃ b off, q = some ⟨b, off, none⟩ ∧ b < w.heap.size ∧ w.cell? ⟨b, off + k * 2, none⟩ = some (.bool o.1) ∧ w.cell? ⟨b, off + k * 2 + 1, none⟩ = some (.int .i64 o.2)) := hd
    clear hc hd hlen
    go_enter Tryz.func65, Tryz.ntmps65
    go_wp2
    go_loopw [5] (fun i wr => ∃ k : Nat, k ≤ l.length ∧ i = .int .i64 k ∧ l.take k = m.take k ∧ Below w.heap.size w wr) (fun i _ => l.length - (intOf i).toNat)
    case atStart => exact ⟨0, Nat.zero_le _, rfl, by simp, Below.refl _ _⟩
    case round =>
      obtain ⟨k, hk, rfl, htk, hbw⟩ := hrel
      have HT : Hid (l.take k = m.take k) := htk
      clear htk
      by_cases hlt : k < l.length
      · have hlt2 : k < m.length := by have := HLEN.out; omega
        obtain ⟨⟨c, a⟩, ho⟩ : ∃ o, l[k]? = some o := ⟨l[k], List.getElem?_eq_some_iff.2 ⟨hlt, rfl⟩⟩
        obtain ⟨⟨c', a'⟩, ho'⟩ : ∃ o, m[k]? = some o := ⟨m[k], List.getElem?_eq_some_iff.2 ⟨hlt2, rfl⟩⟩
        obtain ⟨b, off, rfl, hb, h0, h1⟩ := HC.out k _ ho
        obtain ⟨b', off', rfl, hb', h0', h1'⟩ := HD.out k _ ho'
        have g0 := (hbw.cell (p := ⟨b, off + k * 2, none⟩) hb).trans h0
        have g1 := (hbw.cell (p := ⟨b, off + k * 2 + 1, none⟩) hb).trans h1
        have g0' := (hbw.cell (p := ⟨b', off' + k * 2, none⟩) hb').trans h0'
        have g1' := (hbw.cell (p := ⟨b', off' + k * 2 + 1, none⟩) hb').trans h1'
        have hlti : (k : Int) < (l.length : Int) := by omega
        have hlti2 : (k : Int) < (m.length : Int) := by omega
        have hg := guard_val
        have HO : Hid (l[k]? = some (c, a)) := ho
        have HO' : Hid (m[k]? = some (c', a')) := ho'
        clear ho ho' h0 h1 h0' h1'
        by_cases he : c = c' ∧ a = a'
        · have hneq : ∀ w, (binOp .neq 50 (.agg #[.bool c, .int .i64 a]) (.agg #[.bool c', .int .i64 a'])).run Tryz.prog w = .ok (.bool false) w := fun w => by rw [neq_val]; simp [he]
          have HE : Hid (c = c' ∧ a = a') := he
          clear he
          go_wp2
          go_quiet (fail)
          go_wp2
          go_roundw
          case rel => exact ⟨k + 1, by omega, by go_num, by rw [take_snoc l k _ HO.out, take_snoc m k _ HO'.out, HT.out, HE.out.1, HE.out.2], below_drewN hbw _⟩
          case measure => simp [intOf]; omega
        · have hneq : ∀ w, (binOp .neq 50 (.agg #[.bool c, .int .i64 a]) (.agg #[.bool c', .int .i64 a'])).run Tryz.prog w = .ok (.bool true) w := fun w => by rw [neq_val]; by_cases h1 : c = c' <;> by_cases h2 : a = a' <;> simp [h1, h2] <;> exact he ⟨h1, h2⟩
          have HE : Hid (¬ (c = c' ∧ a = a')) := he
          clear he
          go_wp2
          go_quiet (fail)
          go_wp2
          go_ret
          refine ⟨?_, below_drewN hbw _⟩
          have : ¬ l = m := fun h => by
            have h1 := HO.out
            rw [h, HO'.out] at h1
            simp at h1
            exact HE.out ⟨h1.1.symm, h1.2.symm⟩
          simp [this]
      · have hlt' : ¬ (k : Int) < (l.length : Int) := by omega
        go_wp2
        go_ret
        refine ⟨?_, hbw⟩
        have : l = m := by
          have h := HT.out
          rwa [List.take_of_length_le (by omega), List.take_of_length_le (by have := HLEN.out; omega)] at h
        simp [this]
  · have hlen' : ((l.length : Int) != (m.length : Int)) = true := by simp; omega
    have hne : ¬ l = m := fun h => hlen (by rw [h])
    clear hc hd
    have HN : Hid (¬ l = m) := hne
    clear hne hlen
    go_enter Tryz.func65, Tryz.ntmps65
    go_wp2
    go_ret
    exact ⟨by simp [HN.out], Below.refl _ _⟩
theorem frm_ext {x y : Frm} (h1 : x.fn = y.fn) (h2 : x.pc = y.pc) (h3 : x.loc = y.loc) (h4 : x.stk = y.stk) : x = y := by
  cases x; cases y; simp_all
theorem mach_ext {x y : Mach} (h1 : x.frames = y.frames) (h2 : x.blocks = y.blocks) (h3 : x.inp = y.inp) (h4 : x.out = y.out) (h5 : x.status = y.status) (h6 : x.trap = y.trap) : x = y := by
  cases x; cases y; simp_all
def SameIs {α : Type} (a b : α) (w : World) (e : Ending) (w' : World) : Prop := ∃ r, e = .returned (.bool r) ∧ (r = true ↔ a = b) ∧ Below w.heap.size w w'
theorem same_no {α : Type} {a b : α} {w w' : World} (h : ¬ a = b) (hb : Below w.heap.size w w') : SameIs a b w (.returned (.bool false)) w' := ⟨false, rfl, by simp [h], hb⟩
theorem same_yes {α : Type} {a b : α} {w w' : World} (h : a = b) (hb : Below w.heap.size w w') : SameIs a b w (.returned (.bool true)) w' := ⟨true, rfl, by simp [h], hb⟩
set_option maxRecDepth 100000 in
set_option maxHeartbeats 8000000 in
theorem sameMachine_any (A B : Mach) (fv bv iv ov fv' bv' iv' ov' : Value) (w : World) (hA : MachAt w fv bv iv ov A) (hB : MachAt w fv' bv' iv' ov' B) : Calls Tryz.prog 24 #[.agg #[fv, bv, iv, ov, .int .i64 A.status, .int .i64 A.trap], .agg #[fv', bv', iv', ov', .int .i64 B.status, .int .i64 B.trap]] w (SameIs A B w) := by
  obtain ⟨pf, cf, hfv, hfm, -, hfc⟩ := id hA.fr
  obtain ⟨pb, cb, hbv, -, -⟩ := id hA.bl
  obtain ⟨pi, ci, hiv, -⟩ := hA.inp.shp
  obtain ⟨po, co, hov, -⟩ := hA.out.shp
  obtain ⟨pf', cf', hfv', hfm', -, hfc'⟩ := id hB.fr
  obtain ⟨pb', cb', hbv', -, -⟩ := id hB.bl
  obtain ⟨pi', ci', hiv', -⟩ := hB.inp.shp
  obtain ⟨po', co', hov', -⟩ := hB.out.shp
  subst hfv hbv hiv hov hfv' hbv' hiv' hov'
  unfold maxLen at hfm hfm'
  obtain ⟨W2, hW2⟩ : ∃ W2, (w.alloc (.cells #[.slice pf A.frames.length cf, .slice pb A.blocks.length cb, .slice pi A.inp.length ci, .slice po A.out.length co, .int .i64 A.status, .int .i64 A.trap] 29)).alloc (.cells #[.slice pf' B.frames.length cf', .slice pb' B.blocks.length cb', .slice pi' B.inp.length ci', .slice po' B.out.length co', .int .i64 B.status, .int .i64 B.trap] 29) = W2 := ⟨_, rfl⟩
  have hb2 : Below w.heap.size w W2 := by rw [← hW2]; exact ((Below.refl _ w).alloc (Nat.le_refl _) _).alloc (by simp) _
  have x1 : W2.heap[w.heap.size]? = some (.cells #[.slice pf A.frames.length cf, .slice pb A.blocks.length cb, .slice pi A.inp.length ci, .slice po A.out.length co, .int .i64 A.status, .int .i64 A.trap] 29 (0, 0)) := by rw [← hW2]; exact heap_old (World.alloc_heap_new w _) _
  have x2 : W2.heap[w.heap.size + 1]? = some (.cells #[.slice pf' B.frames.length cf', .slice pb' B.blocks.length cb', .slice pi' B.inp.length ci', .slice po' B.out.length co', .int .i64 B.status, .int .i64 B.trap] 29 (0, 0)) := by rw [← hW2]; exact new_two w _ _
  have l1 := heap_lt x1
  have l2 := heap_lt x2
  have a0 := cell_at' x1 0
  have a1 := cell_at' x1 1
  have a2 := cell_at' x1 2
  have a3 := cell_at' x1 3
  have a4 := cell_at' x1 4
  have a5 := cell_at' x1 5
  have b0 := cell_at' x2 0
  have b1 := cell_at' x2 1
  have b3 := cell_at' x2 3
  have b4 := cell_at' x2 4
  have b5 := cell_at' x2 5
  simp at a0 a1 a2 a3 a4 a5
  have bb2 := cell_at' x2 2
  simp at b0 b1 bb2 b3 b4 b5
  have HSB : Hid (∀ W, Below W2.heap.size W2 W → Calls Tryz.prog 64 #[.slice pb A.blocks.length cb, .slice pb' B.blocks.length cb'] W fun e w' => e = .returned (.bool (decide (A.blocks = B.blocks))) ∧ Below W.heap.size W w') := fun W hW => sameBlocks_any _ _ _ _ W ((hA.bl.below hb2).below hW) ((hB.bl.below hb2).below hW)
  have HSI : Hid (∀ W, Below W2.heap.size W2 W → Calls Tryz.prog 26 #[.slice pi A.inp.length ci, .slice pi' B.inp.length ci'] W fun e w' => e = .returned (.bool (decide (A.inp = B.inp))) ∧ Below W.heap.size W w') := fun W hW => sameInts_any _ _ _ _ W ((hA.inp.at_.below hb2).below hW) ((hB.inp.at_.below hb2).below hW)
  have HSO : Hid (∀ W, Below W2.heap.size W2 W → Calls Tryz.prog 26 #[.slice po A.out.length co, .slice po' B.out.length co'] W fun e w' => e = .returned (.bool (decide (A.out = B.out))) ∧ Below W.heap.size W w') := fun W hW => sameInts_any _ _ _ _ W ((hA.out.at_.below hb2).below hW) ((hB.out.at_.below hb2).below hW)
  have HX1 := hideP x1
  have HX2 := hideP x2
  have HFC := hideP hfc
  have HFC' := hideP hfc'
  clear hA hB x1 x2 hfc hfc'
  by_cases hst : A.status = B.status
  rotate_left
  · have hst' := neq_int_true hst
    have HN := hideP hst
    clear hst
    go_enter Tryz.func24, Tryz.ntmps24
    go_wp2
    go_ret
    exact same_no (fun h => HN.out (by rw [h])) (hb2)
  have hst' := neq_int_false hst
  have HST := hideP hst
  clear hst
  by_cases htr : A.trap = B.trap
  rotate_left
  · have htr' := neq_int_true htr
    have HN := hideP htr
    clear htr
    go_enter Tryz.func24, Tryz.ntmps24
    go_wp2
    go_ret
    exact same_no (fun h => HN.out (by rw [h])) (hb2)
  have htr' := neq_int_false htr
  have HTR := hideP htr
  clear htr
  by_cases hbl : A.blocks = B.blocks
  rotate_left
  · have HN := hideP hbl
    clear hbl
    go_enter Tryz.func24, Tryz.ntmps24
    go_wp2_with fail
    refine (HSB.out W2 (Below.refl _ _)).mono ?_
    rintro e w3 ⟨rfl, hb3⟩
    rw [decide_eq_false HN.out]
    have c2 := (hb3.cell (p := ⟨w.heap.size, 2, none⟩) l1).trans a2
    have d2 := (hb3.cell (p := ⟨w.heap.size + 1, 2, none⟩) l2).trans bb2
    have c3 := (hb3.cell (p := ⟨w.heap.size, 3, none⟩) l1).trans a3
    have d3 := (hb3.cell (p := ⟨w.heap.size + 1, 3, none⟩) l2).trans b3
    have c0 := (hb3.cell (p := ⟨w.heap.size, 0, none⟩) l1).trans a0
    have d0 := (hb3.cell (p := ⟨w.heap.size + 1, 0, none⟩) l2).trans b0
    go_wp2
    go_ret
    exact same_no (fun h => HN.out (by rw [h])) (bthen0 hb2 hb3)
  have HBL := hideP hbl
  clear hbl
  by_cases hin : A.inp = B.inp
  rotate_left
  · have HN := hideP hin
    clear hin
    go_enter Tryz.func24, Tryz.ntmps24
    go_wp2_with fail
    refine (HSB.out W2 (Below.refl _ _)).mono ?_
    rintro e w3 ⟨rfl, hb3⟩
    rw [decide_eq_true HBL.out]
    have c2 := (hb3.cell (p := ⟨w.heap.size, 2, none⟩) l1).trans a2
    have d2 := (hb3.cell (p := ⟨w.heap.size + 1, 2, none⟩) l2).trans bb2
    have c3 := (hb3.cell (p := ⟨w.heap.size, 3, none⟩) l1).trans a3
    have d3 := (hb3.cell (p := ⟨w.heap.size + 1, 3, none⟩) l2).trans b3
    have c0 := (hb3.cell (p := ⟨w.heap.size, 0, none⟩) l1).trans a0
    have d0 := (hb3.cell (p := ⟨w.heap.size + 1, 0, none⟩) l2).trans b0
    go_wp2_with fail
    refine (HSI.out w3 hb3).mono ?_
    rintro e w4 ⟨rfl, hb4'⟩
    rw [decide_eq_false HN.out]
    have hb4 := hb3.trans (hb4'.mono hb3.size)
    clear hb4'
    have f3 := (hb4.cell (p := ⟨w.heap.size, 3, none⟩) l1).trans a3
    have g3 := (hb4.cell (p := ⟨w.heap.size + 1, 3, none⟩) l2).trans b3
    have f0 := (hb4.cell (p := ⟨w.heap.size, 0, none⟩) l1).trans a0
    have g0 := (hb4.cell (p := ⟨w.heap.size + 1, 0, none⟩) l2).trans b0
    go_wp2
    go_ret
    exact same_no (fun h => HN.out (by rw [h])) (bthen0 hb2 hb4)
  have HIN := hideP hin
  clear hin
  by_cases hou : A.out = B.out
  rotate_left
  · have HN := hideP hou
    clear hou
    go_enter Tryz.func24, Tryz.ntmps24
    go_wp2_with fail
    refine (HSB.out W2 (Below.refl _ _)).mono ?_
    rintro e w3 ⟨rfl, hb3⟩
    rw [decide_eq_true HBL.out]
    have c2 := (hb3.cell (p := ⟨w.heap.size, 2, none⟩) l1).trans a2
    have d2 := (hb3.cell (p := ⟨w.heap.size + 1, 2, none⟩) l2).trans bb2
    have c3 := (hb3.cell (p := ⟨w.heap.size, 3, none⟩) l1).trans a3
    have d3 := (hb3.cell (p := ⟨w.heap.size + 1, 3, none⟩) l2).trans b3
    have c0 := (hb3.cell (p := ⟨w.heap.size, 0, none⟩) l1).trans a0
    have d0 := (hb3.cell (p := ⟨w.heap.size + 1, 0, none⟩) l2).trans b0
    go_wp2_with fail
    refine (HSI.out w3 hb3).mono ?_
    rintro e w4 ⟨rfl, hb4'⟩
    rw [decide_eq_true HIN.out]
    have hb4 := hb3.trans (hb4'.mono hb3.size)
    clear hb4'
    have f3 := (hb4.cell (p := ⟨w.heap.size, 3, none⟩) l1).trans a3
    have g3 := (hb4.cell (p := ⟨w.heap.size + 1, 3, none⟩) l2).trans b3
    have f0 := (hb4.cell (p := ⟨w.heap.size, 0, none⟩) l1).trans a0
    have g0 := (hb4.cell (p := ⟨w.heap.size + 1, 0, none⟩) l2).trans b0
    go_wp2_with fail
    refine (HSO.out w4 hb4).mono ?_
    rintro e w5 ⟨rfl, hb5'⟩
    rw [decide_eq_false HN.out]
    have hb5 := hb4.trans (hb5'.mono hb4.size)
    clear hb5'
    have m0 := (hb5.cell (p := ⟨w.heap.size, 0, none⟩) l1).trans a0
    have n0 := (hb5.cell (p := ⟨w.heap.size + 1, 0, none⟩) l2).trans b0
    go_wp2
    go_ret
    exact same_no (fun h => HN.out (by rw [h])) (bthen0 hb2 hb5)
  have HOU := hideP hou
  clear hou
  by_cases hfl : A.frames.length = B.frames.length
  rotate_left
  · have hfl' : ((A.frames.length : Int) != (B.frames.length : Int)) = true := by simp; omega
    have HN := hideP hfl
    clear hfl
    go_enter Tryz.func24, Tryz.ntmps24
    go_wp2_with fail
    refine (HSB.out W2 (Below.refl _ _)).mono ?_
    rintro e w3 ⟨rfl, hb3⟩
    rw [decide_eq_true HBL.out]
    have c2 := (hb3.cell (p := ⟨w.heap.size, 2, none⟩) l1).trans a2
    have d2 := (hb3.cell (p := ⟨w.heap.size + 1, 2, none⟩) l2).trans bb2
    have c3 := (hb3.cell (p := ⟨w.heap.size, 3, none⟩) l1).trans a3
    have d3 := (hb3.cell (p := ⟨w.heap.size + 1, 3, none⟩) l2).trans b3
    have c0 := (hb3.cell (p := ⟨w.heap.size, 0, none⟩) l1).trans a0
    have d0 := (hb3.cell (p := ⟨w.heap.size + 1, 0, none⟩) l2).trans b0
    go_wp2_with fail
    refine (HSI.out w3 hb3).mono ?_
    rintro e w4 ⟨rfl, hb4'⟩
    rw [decide_eq_true HIN.out]
    have hb4 := hb3.trans (hb4'.mono hb3.size)
    clear hb4'
    have f3 := (hb4.cell (p := ⟨w.heap.size, 3, none⟩) l1).trans a3
    have g3 := (hb4.cell (p := ⟨w.heap.size + 1, 3, none⟩) l2).trans b3
    have f0 := (hb4.cell (p := ⟨w.heap.size, 0, none⟩) l1).trans a0
    have g0 := (hb4.cell (p := ⟨w.heap.size + 1, 0, none⟩) l2).trans b0
    go_wp2_with fail
    refine (HSO.out w4 hb4).mono ?_
    rintro e w5 ⟨rfl, hb5'⟩
    rw [decide_eq_true HOU.out]
    have hb5 := hb4.trans (hb5'.mono hb4.size)
    clear hb5'
    have m0 := (hb5.cell (p := ⟨w.heap.size, 0, none⟩) l1).trans a0
    have n0 := (hb5.cell (p := ⟨w.heap.size + 1, 0, none⟩) l2).trans b0
    go_wp2
    go_ret
    exact same_no (fun h => HN.out (by rw [h])) (bthen0 hb2 hb5)
  have hfl' : ((A.frames.length : Int) != (B.frames.length : Int)) = false := by simp; omega
  have HFL := hideP hfl
  clear hfl
  go_enter Tryz.func24, Tryz.ntmps24
  go_wp2_with fail
  refine (HSB.out W2 (Below.refl _ _)).mono ?_
  rintro e w3 ⟨rfl, hb3⟩
  rw [decide_eq_true HBL.out]
  have c2 := (hb3.cell (p := ⟨w.heap.size, 2, none⟩) l1).trans a2
  have d2 := (hb3.cell (p := ⟨w.heap.size + 1, 2, none⟩) l2).trans bb2
  have c3 := (hb3.cell (p := ⟨w.heap.size, 3, none⟩) l1).trans a3
  have d3 := (hb3.cell (p := ⟨w.heap.size + 1, 3, none⟩) l2).trans b3
  have c0 := (hb3.cell (p := ⟨w.heap.size, 0, none⟩) l1).trans a0
  have d0 := (hb3.cell (p := ⟨w.heap.size + 1, 0, none⟩) l2).trans b0
  go_wp2_with fail
  refine (HSI.out w3 hb3).mono ?_
  rintro e w4 ⟨rfl, hb4'⟩
  rw [decide_eq_true HIN.out]
  have hb4 := hb3.trans (hb4'.mono hb3.size)
  clear hb4'
  have f3 := (hb4.cell (p := ⟨w.heap.size, 3, none⟩) l1).trans a3
  have g3 := (hb4.cell (p := ⟨w.heap.size + 1, 3, none⟩) l2).trans b3
  have f0 := (hb4.cell (p := ⟨w.heap.size, 0, none⟩) l1).trans a0
  have g0 := (hb4.cell (p := ⟨w.heap.size + 1, 0, none⟩) l2).trans b0
  go_wp2_with fail
  refine (HSO.out w4 hb4).mono ?_
  rintro e w5 ⟨rfl, hb5'⟩
  rw [decide_eq_true HOU.out]
  have hb5 := hb4.trans (hb5'.mono hb4.size)
  clear hb5'
  have m0 := (hb5.cell (p := ⟨w.heap.size, 0, none⟩) l1).trans a0
  have n0 := (hb5.cell (p := ⟨w.heap.size + 1, 0, none⟩) l2).trans b0
  go_wp2
  go_loopw [5] (fun i wr => ∃ k : Nat, k ≤ A.frames.length ∧ i = .int .i64 k ∧ A.frames.take k = B.frames.take k ∧ Below W2.heap.size W2 wr) (fun i _ => A.frames.length - (intOf i).toNat)
  case atStart => exact ⟨0, Nat.zero_le _, rfl, by simp, hb5⟩
  case round =>
    obtain ⟨k, hk, rfl, htk, hbw2⟩ := hrel
    have HT := hideP htk
    clear htk
    have hbw := hb2.trans (hbw2.mono hb2.size)
    have r0 := (hbw2.cell (p := ⟨w.heap.size, 0, none⟩) l1).trans a0
    have s0 := (hbw2.cell (p := ⟨w.heap.size + 1, 0, none⟩) l2).trans b0
    have hszr := hbw2.size
    by_cases hlt : k < A.frames.length
    · have hlt2 : k < B.frames.length := by have := HFL.out; omega
      obtain ⟨x, ho⟩ := at_of_lt hlt
      obtain ⟨y, ho'⟩ := at_of_lt hlt2
      obtain ⟨b, off, lv, sv, rfl, hb, x0, x1, x2, x3, hL, -, hS, -⟩ := HFC.out k _ ho
      obtain ⟨b', off', lv', sv', rfl, hb', x0', x1', x2', x3', hL', -, hS', -⟩ := HFC'.out k _ ho'
      have g0 := (hbw.cell (p := ⟨b, off + k * 4, none⟩) hb).trans x0
      have g1 := (hbw.cell (p := ⟨b, off + k * 4 + 1, none⟩) hb).trans x1
      have g2 := (hbw.cell (p := ⟨b, off + k * 4 + 2, none⟩) hb).trans x2
      have g3 := (hbw.cell (p := ⟨b, off + k * 4 + 3, none⟩) hb).trans x3
      have g0' := (hbw.cell (p := ⟨b', off' + k * 4, none⟩) hb').trans x0'
      have g1' := (hbw.cell (p := ⟨b', off' + k * 4 + 1, none⟩) hb').trans x1'
      have g2' := (hbw.cell (p := ⟨b', off' + k * 4 + 2, none⟩) hb').trans x2'
      have g3' := (hbw.cell (p := ⟨b', off' + k * 4 + 3, none⟩) hb').trans x3'
      have hLr := hL.below hbw
      have hLr' := hL'.below hbw
      have hSr := hS.below hbw
      have hSr' := hS'.below hbw
      have HO := hideP ho
      have HO' := hideP ho'
      clear ho ho' x0 x1 x2 x3 x0' x1' x2' x3'
      obtain ⟨p1, q1, rfl, -, -⟩ := hL
      obtain ⟨p2, q2, rfl, -, -⟩ := hS
      obtain ⟨p1', q1', rfl, -, -⟩ := hL'
      obtain ⟨p2', q2', rfl, -, -⟩ := hS'
      have hlti : (k : Int) < (A.frames.length : Int) := by omega
      have hlti2 : (k : Int) < (B.frames.length : Int) := by omega
      have y0 := fun o => cell_old g0 o
      have yy0 := fun o o' => cell_old (cell_old g0 o) o'
      have y1 := fun o => cell_old g1 o
      have yy1 := fun o o' => cell_old (cell_old g1 o) o'
      have y2 := fun o => cell_old g2 o
      have yy2 := fun o o' => cell_old (cell_old g2 o) o'
      have y3 := fun o => cell_old g3 o
      have yy3 := fun o o' => cell_old (cell_old g3 o) o'
      have y4 := fun o => cell_old g0' o
      have yy4 := fun o o' => cell_old (cell_old g0' o) o'
      have y5 := fun o => cell_old g1' o
      have yy5 := fun o o' => cell_old (cell_old g1' o) o'
      have y6 := fun o => cell_old g2' o
      have yy6 := fun o o' => cell_old (cell_old g2' o) o'
      have y7 := fun o => cell_old g3' o
      have yy7 := fun o o' => cell_old (cell_old g3' o) o'
      have y8 := fun o => cell_old r0 o
      have yy8 := fun o o' => cell_old (cell_old r0 o) o'
      have y9 := fun o => cell_old s0 o
      have yy9 := fun o o' => cell_old (cell_old s0 o) o'
      have hn0 : ¬ b = wr.heap.size := by omega
      have hn1 : ¬ b' = wr.heap.size := by omega
      have hn2 : ¬ b = wr.heap.size + 1 := by omega
      have hn3 : ¬ b' = wr.heap.size + 1 := by omega
      have hn4 : ¬ w.heap.size = wr.heap.size := by omega
      have hn5 : ¬ w.heap.size = wr.heap.size + 1 := by omega
      have hn6 : ¬ w.heap.size + 1 = wr.heap.size := by omega
      obtain ⟨WA, hWA⟩ : ∃ W, ((wr.alloc (.cells #[.int .i64 x.fn, .int .i64 x.pc, .slice p1 x.loc.length q1, .slice p2 x.stk.length q2] 48)).alloc (.cells #[.int .i64 y.fn, .int .i64 y.pc, .slice p1' y.loc.length q1', .slice p2' y.stk.length q2'] 48)).drew = W := ⟨_, rfl⟩
      have hbA : Below wr.heap.size wr WA := by rw [← hWA]; exact (((Below.refl _ wr).alloc (Nat.le_refl _) _).alloc (by simp) _).drew
      have h1A : WA.heap[wr.heap.size]? = some (.cells #[.int .i64 x.fn, .int .i64 x.pc, .slice p1 x.loc.length q1, .slice p2 x.stk.length q2] 48 (0, 0)) := by rw [← hWA]; exact heap_old (World.alloc_heap_new wr _) _
      have h2A : WA.heap[wr.heap.size + 1]? = some (.cells #[.int .i64 y.fn, .int .i64 y.pc, .slice p1' y.loc.length q1', .slice p2' y.stk.length q2'] 48 (0, 0)) := by rw [← hWA]; exact new_two wr _ _
      have l1A := heap_lt h1A
      have l2A := heap_lt h2A
      have e0A := cell_at' h1A 0
      have f0A := cell_at' h2A 0
      have e1A := cell_at' h1A 1
      have f1A := cell_at' h2A 1
      have e2A := cell_at' h1A 2
      have f2A := cell_at' h2A 2
      have e3A := cell_at' h1A 3
      have f3A := cell_at' h2A 3
      simp at e0A f0A e1A f1A e2A f2A e3A f3A
      clear h1A h2A
      obtain ⟨WB, hWB⟩ : ∃ W, ((wr.alloc (.cells #[.int .i64 y.fn, .int .i64 y.pc, .slice p1' y.loc.length q1', .slice p2' y.stk.length q2'] 48)).alloc (.cells #[.int .i64 x.fn, .int .i64 x.pc, .slice p1 x.loc.length q1, .slice p2 x.stk.length q2] 48)).drew = W := ⟨_, rfl⟩
      have hbB : Below wr.heap.size wr WB := by rw [← hWB]; exact (((Below.refl _ wr).alloc (Nat.le_refl _) _).alloc (by simp) _).drew
      have h1B : WB.heap[wr.heap.size]? = some (.cells #[.int .i64 y.fn, .int .i64 y.pc, .slice p1' y.loc.length q1', .slice p2' y.stk.length q2'] 48 (0, 0)) := by rw [← hWB]; exact heap_old (World.alloc_heap_new wr _) _
      have h2B : WB.heap[wr.heap.size + 1]? = some (.cells #[.int .i64 x.fn, .int .i64 x.pc, .slice p1 x.loc.length q1, .slice p2 x.stk.length q2] 48 (0, 0)) := by rw [← hWB]; exact new_two wr _ _
      have l1B := heap_lt h1B
      have l2B := heap_lt h2B
      have e0B := cell_at' h1B 0
      have f0B := cell_at' h2B 0
      have e1B := cell_at' h1B 1
      have f1B := cell_at' h2B 1
      have e2B := cell_at' h1B 2
      have f2B := cell_at' h2B 2
      have e3B := cell_at' h1B 3
      have f3B := cell_at' h2B 3
      simp at e0B f0B e1B f1B e2B f2B e3B f3B
      clear h1B h2B
      have HLr := hideP hLr
      have HLr' := hideP hLr'
      have HSr := hideP hSr
      have HSr' := hideP hSr'
      clear hLr hLr' hSr hSr'
      go_wp2
      go_region
      · skip
        by_cases h1 : x.fn = y.fn
        rotate_left
        · have h1' := neq_int_true h1
          have HN := hideP h1
          clear h1
          go_wp2
          go_ret
          refine same_no (fun h => HN.out ?_) (hbw.trans ((hbA).mono hbw.size))
          have h1 := HO.out
          rw [h, HO'.out] at h1
          cases h1
          rfl
        have h1' := neq_int_false h1
        have H1 := hideP h1
        clear h1
        by_cases h2 : x.pc = y.pc
        rotate_left
        · have h2' := neq_int_true h2
          have HN := hideP h2
          clear h2
          go_wp2
          go_ret
          refine same_no (fun h => HN.out ?_) (hbw.trans ((hbA).mono hbw.size))
          have h1 := HO.out
          rw [h, HO'.out] at h1
          cases h1
          rfl
        have h2' := neq_int_false h2
        have H2 := hideP h2
        clear h2
        by_cases h3 : x.loc = y.loc
        rotate_left
        · have HN := hideP h3
          clear h3
          go_wp2_with fail
          refine (sameVals_any x.loc y.loc _ _ WA (HLr.out.below hbA) (HLr'.out.below hbA)).mono ?_
          rintro e w6 ⟨rfl, hb6⟩
          rw [decide_eq_false HN.out]
          have k6 := (hb6.cell (p := ⟨wr.heap.size, 3, none⟩) l1A).trans e3A
          have k7 := (hb6.cell (p := ⟨wr.heap.size + 1, 3, none⟩) l2A).trans f3A
          have hb7 := hbA.trans (hb6.mono hbA.size)
          go_wp2
          go_ret
          refine same_no (fun h => HN.out ?_) (hbw.trans ((hb7).mono hbw.size))
          have h1 := HO.out
          rw [h, HO'.out] at h1
          cases h1
          rfl
        have H3 := hideP h3
        clear h3
        by_cases h4 : x.stk = y.stk
        rotate_left
        · have HN := hideP h4
          clear h4
          go_wp2_with fail
          refine (sameVals_any x.loc y.loc _ _ WA (HLr.out.below hbA) (HLr'.out.below hbA)).mono ?_
          rintro e w6 ⟨rfl, hb6⟩
          rw [decide_eq_true H3.out]
          have k6 := (hb6.cell (p := ⟨wr.heap.size, 3, none⟩) l1A).trans e3A
          have k7 := (hb6.cell (p := ⟨wr.heap.size + 1, 3, none⟩) l2A).trans f3A
          have hb7 := hbA.trans (hb6.mono hbA.size)
          go_wp2_with fail
          refine (sameVals_any x.stk y.stk _ _ w6 (HSr.out.below hb7) (HSr'.out.below hb7)).mono ?_
          rintro e w8 ⟨rfl, hb8⟩
          rw [decide_eq_false HN.out]
          have hb9 := hb7.trans (hb8.mono hb7.size)
          go_wp2
          go_ret
          refine same_no (fun h => HN.out ?_) (hbw.trans ((hb9).mono hbw.size))
          have h1 := HO.out
          rw [h, HO'.out] at h1
          cases h1
          rfl
        have H4 := hideP h4
        clear h4
        go_wp2_with fail
        refine (sameVals_any x.loc y.loc _ _ WA (HLr.out.below hbA) (HLr'.out.below hbA)).mono ?_
        rintro e w6 ⟨rfl, hb6⟩
        rw [decide_eq_true H3.out]
        have k6 := (hb6.cell (p := ⟨wr.heap.size, 3, none⟩) l1A).trans e3A
        have k7 := (hb6.cell (p := ⟨wr.heap.size + 1, 3, none⟩) l2A).trans f3A
        have hb7 := hbA.trans (hb6.mono hbA.size)
        go_wp2_with fail
        refine (sameVals_any x.stk y.stk _ _ w6 (HSr.out.below hb7) (HSr'.out.below hb7)).mono ?_
        rintro e w8 ⟨rfl, hb8⟩
        rw [decide_eq_true H4.out]
        have hb9 := hb7.trans (hb8.mono hb7.size)
        go_wp2
        go_roundw
        case rel => exact ⟨k + 1, by omega, by go_num, by rw [take_snoc _ k _ HO.out, take_snoc _ k _ HO'.out, HT.out, frm_ext H1.out H2.out H3.out H4.out], hbw2.trans (hb9.mono hbw2.size)⟩
        case measure => simp [intOf]; omega
      · skip
        by_cases h1 : x.fn = y.fn
        rotate_left
        · have h1' := neq_int_true h1
          have HN := hideP h1
          clear h1
          go_wp2
          go_ret
          refine same_no (fun h => HN.out ?_) (hbw.trans ((hbB).mono hbw.size))
          have h1 := HO.out
          rw [h, HO'.out] at h1
          cases h1
          rfl
        have h1' := neq_int_false h1
        have H1 := hideP h1
        clear h1
        by_cases h2 : x.pc = y.pc
        rotate_left
        · have h2' := neq_int_true h2
          have HN := hideP h2
          clear h2
          go_wp2
          go_ret
          refine same_no (fun h => HN.out ?_) (hbw.trans ((hbB).mono hbw.size))
          have h1 := HO.out
          rw [h, HO'.out] at h1
          cases h1
          rfl
        have h2' := neq_int_false h2
        have H2 := hideP h2
        clear h2
        by_cases h3 : x.loc = y.loc
        rotate_left
        · have HN := hideP h3
          clear h3
          go_wp2_with fail
          refine (sameVals_any x.loc y.loc _ _ WB (HLr.out.below hbB) (HLr'.out.below hbB)).mono ?_
          rintro e w6 ⟨rfl, hb6⟩
          rw [decide_eq_false HN.out]
          have k6 := (hb6.cell (p := ⟨wr.heap.size + 1, 3, none⟩) l2B).trans f3B
          have k7 := (hb6.cell (p := ⟨wr.heap.size, 3, none⟩) l1B).trans e3B
          have hb7 := hbB.trans (hb6.mono hbB.size)
          go_wp2
          go_ret
          refine same_no (fun h => HN.out ?_) (hbw.trans ((hb7).mono hbw.size))
          have h1 := HO.out
          rw [h, HO'.out] at h1
          cases h1
          rfl
        have H3 := hideP h3
        clear h3
        by_cases h4 : x.stk = y.stk
        rotate_left
        · have HN := hideP h4
          clear h4
          go_wp2_with fail
          refine (sameVals_any x.loc y.loc _ _ WB (HLr.out.below hbB) (HLr'.out.below hbB)).mono ?_
          rintro e w6 ⟨rfl, hb6⟩
          rw [decide_eq_true H3.out]
          have k6 := (hb6.cell (p := ⟨wr.heap.size + 1, 3, none⟩) l2B).trans f3B
          have k7 := (hb6.cell (p := ⟨wr.heap.size, 3, none⟩) l1B).trans e3B
          have hb7 := hbB.trans (hb6.mono hbB.size)
          go_wp2_with fail
          refine (sameVals_any x.stk y.stk _ _ w6 (HSr.out.below hb7) (HSr'.out.below hb7)).mono ?_
          rintro e w8 ⟨rfl, hb8⟩
          rw [decide_eq_false HN.out]
          have hb9 := hb7.trans (hb8.mono hb7.size)
          go_wp2
          go_ret
          refine same_no (fun h => HN.out ?_) (hbw.trans ((hb9).mono hbw.size))
          have h1 := HO.out
          rw [h, HO'.out] at h1
          cases h1
          rfl
        have H4 := hideP h4
        clear h4
        go_wp2_with fail
        refine (sameVals_any x.loc y.loc _ _ WB (HLr.out.below hbB) (HLr'.out.below hbB)).mono ?_
        rintro e w6 ⟨rfl, hb6⟩
        rw [decide_eq_true H3.out]
        have k6 := (hb6.cell (p := ⟨wr.heap.size + 1, 3, none⟩) l2B).trans f3B
        have k7 := (hb6.cell (p := ⟨wr.heap.size, 3, none⟩) l1B).trans e3B
        have hb7 := hbB.trans (hb6.mono hbB.size)
        go_wp2_with fail
        refine (sameVals_any x.stk y.stk _ _ w6 (HSr.out.below hb7) (HSr'.out.below hb7)).mono ?_
        rintro e w8 ⟨rfl, hb8⟩
        rw [decide_eq_true H4.out]
        have hb9 := hb7.trans (hb8.mono hb7.size)
        go_wp2
        go_roundw
        case rel => exact ⟨k + 1, by omega, by go_num, by rw [take_snoc _ k _ HO.out, take_snoc _ k _ HO'.out, HT.out, frm_ext H1.out H2.out H3.out H4.out], hbw2.trans (hb9.mono hbw2.size)⟩
        case measure => simp [intOf]; omega
    · have hlt' : ¬ (k : Int) < (A.frames.length : Int) := by omega
      go_wp2
      go_ret
      refine same_yes (mach_ext ?_ HBL.out HIN.out HOU.out HST.out HTR.out) hbw
      have h := HT.out
      rwa [List.take_of_length_le (by omega), List.take_of_length_le (by have := HFL.out; omega)] at h
end Go.Proofs.YtcadpoknolefpaaGreat


