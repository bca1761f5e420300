/- My texts Mo Ms Mi Mk: what of them is needed, joined. -/

import Derived.Test.YtmjjkenblfndgaaGreatD4
import Derived.Test.YtmjjkenblfndgaaGreatD11
import Derived.Test.YtmjjkenblfndgaaGreatD12
import Derived.Test.YtmjjkenblfndgaaGreatD13
import Derived.Test.YtmjjkenblfndgaaGreatD17
set_option maxRecDepth 100000
set_option maxHeartbeats 8000000
/- stride's do: one op (3). -/
namespace Go.Proofs.YtmjjkenblfndgaaGreat
open Go.RowKit
set_option linter.unusedSimpArgs false
set_option linter.unusedVariables false
theorem do3 (w0 : World) (b : Nat) (pv : Value) (M : Mach) (D : List Frm) (x : Frm) (p : List Fn) (k pc : Nat) (f : Fn) (A : Int) (w : World) (h : Doer w0 w b pv M) (hF : M.frames = D ++ [x]) (hD : D.length ≤ 100) (hp : FnsAt w0 pv p) (hk : p[k]? = some f) (hfn : x.fn = (k : Int)) (hpc : x.pc = (pc : Int)) (hpl : f.2.2.2.length ≤ 1000) (ho : f.2.2.2[pc]? = some (3, A)) (P : World → Prop)
    (HC : ∀ W, Doer w0 W b pv { M with frames := D ++ [{ x with pc := (pc : Int) + 1 }] } → Calls Tryz.prog 145 #[.pointer (some ⟨b, 0, none⟩), .agg #[.int .i64 3, .int .i64 A]] W fun e w' => e = .returned (.tuple #[]) ∧ P w') : Calls Tryz.prog 111 #[.pointer (some ⟨b, 0, none⟩)] w fun e w' => e = .returned (.tuple #[]) ∧ P w' := by
  obtain ⟨g, cap, bv, iv, ov, q, c, qb, H⟩ := h.open hF
  have HI := hideP (xalZ b g D.length cap w H.fcell hD)
  have HH0 := hideP H
  have HCC := hideP HC
  obtain ⟨pp, qp, hpv, hpm, -⟩ := id hp
  subst hpv
  have HP := hideP hp
  have hpcl := xaeZ ho
  have hkl := xaeZ hk
  have HO := hideP ho
  have HK := hideP hk
  have HFN := hideP hfn
  have HPC := hideP hpc
  clear h hF HC H hp ho hk hfn hpc
  go_enter Tryz.func111, Tryz.ntmps111
  go_wp2_with fail
  refine HI.out.mono ?_
  rintro e w2 ⟨rfl, b2⟩
  have H2 := HH0.out.below b2
  have c0 := H2.c0
  have c1 := H2.c1
  rw [HFN.out] at c0
  rw [HPC.out] at c1
  have c6 := H2.at_.cells.2.2.2.2.2.2
  obtain ⟨pp', qp', hpe, -, hpc⟩ := id (HP.out.below H2.at_.bel)
  cases hpe
  obtain ⟨pb, po, f0, f1, f2, f3, hpp, hplt, -, -, -, y3, hfn⟩ := hpc k f HK.out
  subst hpp
  obtain ⟨-, -, -, hops⟩ := hfn
  obtain ⟨p3, q3, he3, -, hoc⟩ := id hops
  subst he3
  obtain ⟨ob, oo, hob, holt, o0, o1⟩ := hoc pc _ HO.out
  subst hob
  have hkli : (k : Int) < (p.length : Int) := by omega
  have hpcli : (pc : Int) < (f.2.2.2.length : Int) := by omega
  have c0a := fun o => xabZ c0 o
  have c1a := fun o => xabZ c1 o
  have c6a := fun o => xabZ c6 o
  have y3a := fun o => xabZ y3 o
  have o0a := fun o => xabZ o0 o
  have o1a := fun o => xabZ o1 o
  clear hpc hoc hops
  go_wp2_with fail
  go_region
  obtain ⟨W3, hW3⟩ : ∃ W3, (w2.alloc (.cells #[.int .i64 3, .int .i64 A] 86)).drew = W3 := ⟨_, rfl⟩
  have b3 : Below w2.heap.size w2 W3 := by rw [← hW3]; exact ((Below.refl _ w2).alloc (Nat.le_refl _) _).drew
  have x3 : W3.heap[w2.heap.size]? = some (.cells #[.int .i64 3, .int .i64 A] 86 (0, 0)) := by rw [← hW3]; exact World.alloc_heap_new w2 _
  rw [hW3]
  clear hW3 c0 c1 c6 y3 o0 o1 c0a c1a c6a y3a o0a o1a
  have H3 := H2.below b3
  have e0 : W3.cell? ⟨w2.heap.size, 0, none⟩ = some (.int .i64 3) := xaaZ x3 0
  have e1 : W3.cell? ⟨w2.heap.size, 1, none⟩ = some (.int .i64 A) := xaaZ x3 1
  have d1 := H3.c1
  rw [HPC.out] at d1
  have z1 : W3.frozen? ⟨g, D.length * 4 + 1, none⟩ = false := by obtain ⟨cur, hh⟩ := H3.gb; exact Lib.frozen_of_heap hh _
  have hne : ¬ w2.heap.size = g := by obtain ⟨cur, hh⟩ := H2.gb; have := xacZ hh; omega
  have hne' : ¬ g = w2.heap.size := fun e => hne e.symm
  have HS := hideP (H3.setPc ((pc : Int) + 1))
  clear H2 H3 x3
  go_wp2_with (go_at_call 145; refine (HCC.out _ HS.out).mono ?_; rintro e w9 ⟨rfl, h9⟩)
  first | go_end0 | refine bodyPost_ret (results_none rfl _ _ _) rfl ?_
  exact ⟨rfl, h9⟩
theorem do9 (w0 : World) (b : Nat) (pv : Value) (M : Mach) (D : List Frm) (x : Frm) (p : List Fn) (k pc : Nat) (f : Fn) (A : Int) (w : World) (h : Doer w0 w b pv M) (hF : M.frames = D ++ [x]) (hD : D.length ≤ 100) (hp : FnsAt w0 pv p) (hk : p[k]? = some f) (hfn : x.fn = (k : Int)) (hpc : x.pc = (pc : Int)) (hpl : f.2.2.2.length ≤ 1000) (ho : f.2.2.2[pc]? = some (9, A)) (P : World → Prop)
    (HC : ∀ W, Doer w0 W b pv { M with frames := D ++ [{ x with pc := (pc : Int) + 1 }] } → Calls Tryz.prog 145 #[.pointer (some ⟨b, 0, none⟩), .agg #[.int .i64 9, .int .i64 A]] W fun e w' => e = .returned (.tuple #[]) ∧ P w') : Calls Tryz.prog 111 #[.pointer (some ⟨b, 0, none⟩)] w fun e w' => e = .returned (.tuple #[]) ∧ P w' := by
  obtain ⟨g, cap, bv, iv, ov, q, c, qb, H⟩ := h.open hF
  have HI := hideP (xalZ b g D.length cap w H.fcell hD)
  have HH0 := hideP H
  have HCC := hideP HC
  obtain ⟨pp, qp, hpv, hpm, -⟩ := id hp
  subst hpv
  have HP := hideP hp
  have hpcl := xaeZ ho
  have hkl := xaeZ hk
  have HO := hideP ho
  have HK := hideP hk
  have HFN := hideP hfn
  have HPC := hideP hpc
  clear h hF HC H hp ho hk hfn hpc
  go_enter Tryz.func111, Tryz.ntmps111
  go_wp2_with fail
  refine HI.out.mono ?_
  rintro e w2 ⟨rfl, b2⟩
  have H2 := HH0.out.below b2
  have c0 := H2.c0
  have c1 := H2.c1
  rw [HFN.out] at c0
  rw [HPC.out] at c1
  have c6 := H2.at_.cells.2.2.2.2.2.2
  obtain ⟨pp', qp', hpe, -, hpc⟩ := id (HP.out.below H2.at_.bel)
  cases hpe
  obtain ⟨pb, po, f0, f1, f2, f3, hpp, hplt, -, -, -, y3, hfn⟩ := hpc k f HK.out
  subst hpp
  obtain ⟨-, -, -, hops⟩ := hfn
  obtain ⟨p3, q3, he3, -, hoc⟩ := id hops
  subst he3
  obtain ⟨ob, oo, hob, holt, o0, o1⟩ := hoc pc _ HO.out
  subst hob
  have hkli : (k : Int) < (p.length : Int) := by omega
  have hpcli : (pc : Int) < (f.2.2.2.length : Int) := by omega
  have c0a := fun o => xabZ c0 o
  have c1a := fun o => xabZ c1 o
  have c6a := fun o => xabZ c6 o
  have y3a := fun o => xabZ y3 o
  have o0a := fun o => xabZ o0 o
  have o1a := fun o => xabZ o1 o
  clear hpc hoc hops
  go_wp2_with fail
  go_region
  obtain ⟨W3, hW3⟩ : ∃ W3, (w2.alloc (.cells #[.int .i64 9, .int .i64 A] 86)).drew = W3 := ⟨_, rfl⟩
  have b3 : Below w2.heap.size w2 W3 := by rw [← hW3]; exact ((Below.refl _ w2).alloc (Nat.le_refl _) _).drew
  have x3 : W3.heap[w2.heap.size]? = some (.cells #[.int .i64 9, .int .i64 A] 86 (0, 0)) := by rw [← hW3]; exact World.alloc_heap_new w2 _
  rw [hW3]
  clear hW3 c0 c1 c6 y3 o0 o1 c0a c1a c6a y3a o0a o1a
  have H3 := H2.below b3
  have e0 : W3.cell? ⟨w2.heap.size, 0, none⟩ = some (.int .i64 9) := xaaZ x3 0
  have e1 : W3.cell? ⟨w2.heap.size, 1, none⟩ = some (.int .i64 A) := xaaZ x3 1
  have d1 := H3.c1
  rw [HPC.out] at d1
  have z1 : W3.frozen? ⟨g, D.length * 4 + 1, none⟩ = false := by obtain ⟨cur, hh⟩ := H3.gb; exact Lib.frozen_of_heap hh _
  have hne : ¬ w2.heap.size = g := by obtain ⟨cur, hh⟩ := H2.gb; have := xacZ hh; omega
  have hne' : ¬ g = w2.heap.size := fun e => hne e.symm
  have HS := hideP (H3.setPc ((pc : Int) + 1))
  clear H2 H3 x3
  go_wp2_with (go_at_call 145; refine (HCC.out _ HS.out).mono ?_; rintro e w9 ⟨rfl, h9⟩)
  first | go_end0 | refine bodyPost_ret (results_none rfl _ _ _) rfl ?_
  exact ⟨rfl, h9⟩
theorem do6 (w0 : World) (b : Nat) (pv : Value) (M : Mach) (D : List Frm) (x : Frm) (p : List Fn) (k pc : Nat) (f : Fn) (A : Int) (w : World) (h : Doer w0 w b pv M) (hF : M.frames = D ++ [x]) (hD : D.length ≤ 100) (hp : FnsAt w0 pv p) (hk : p[k]? = some f) (hfn : x.fn = (k : Int)) (hpc : x.pc = (pc : Int)) (hpl : f.2.2.2.length ≤ 1000) (ho : f.2.2.2[pc]? = some (6, A)) (P : World → Prop)
    (HC : ∀ W, Doer w0 W b pv { M with frames := D ++ [{ x with pc := (pc : Int) + 1 }] } → Calls Tryz.prog 146 #[.pointer (some ⟨b, 0, none⟩), .int .i64 6] W fun e w' => e = .returned (.tuple #[]) ∧ P w') : Calls Tryz.prog 111 #[.pointer (some ⟨b, 0, none⟩)] w fun e w' => e = .returned (.tuple #[]) ∧ P w' := by
  obtain ⟨g, cap, bv, iv, ov, q, c, qb, H⟩ := h.open hF
  have HI := hideP (xalZ b g D.length cap w H.fcell hD)
  have HH0 := hideP H
  have HCC := hideP HC
  obtain ⟨pp, qp, hpv, hpm, -⟩ := id hp
  subst hpv
  have HP := hideP hp
  have hpcl := xaeZ ho
  have hkl := xaeZ hk
  have HO := hideP ho
  have HK := hideP hk
  have HFN := hideP hfn
  have HPC := hideP hpc
  clear h hF HC H hp ho hk hfn hpc
  go_enter Tryz.func111, Tryz.ntmps111
  go_wp2_with fail
  refine HI.out.mono ?_
  rintro e w2 ⟨rfl, b2⟩
  have H2 := HH0.out.below b2
  have c0 := H2.c0
  have c1 := H2.c1
  rw [HFN.out] at c0
  rw [HPC.out] at c1
  have c6 := H2.at_.cells.2.2.2.2.2.2
  obtain ⟨pp', qp', hpe, -, hpc⟩ := id (HP.out.below H2.at_.bel)
  cases hpe
  obtain ⟨pb, po, f0, f1, f2, f3, hpp, hplt, -, -, -, y3, hfn⟩ := hpc k f HK.out
  subst hpp
  obtain ⟨-, -, -, hops⟩ := hfn
  obtain ⟨p3, q3, he3, -, hoc⟩ := id hops
  subst he3
  obtain ⟨ob, oo, hob, holt, o0, o1⟩ := hoc pc _ HO.out
  subst hob
  have hkli : (k : Int) < (p.length : Int) := by omega
  have hpcli : (pc : Int) < (f.2.2.2.length : Int) := by omega
  have c0a := fun o => xabZ c0 o
  have c1a := fun o => xabZ c1 o
  have c6a := fun o => xabZ c6 o
  have y3a := fun o => xabZ y3 o
  have o0a := fun o => xabZ o0 o
  have o1a := fun o => xabZ o1 o
  clear hpc hoc hops
  go_wp2_with fail
  go_region
  obtain ⟨W3, hW3⟩ : ∃ W3, (w2.alloc (.cells #[.int .i64 6, .int .i64 A] 86)).drew = W3 := ⟨_, rfl⟩
  have b3 : Below w2.heap.size w2 W3 := by rw [← hW3]; exact ((Below.refl _ w2).alloc (Nat.le_refl _) _).drew
  have x3 : W3.heap[w2.heap.size]? = some (.cells #[.int .i64 6, .int .i64 A] 86 (0, 0)) := by rw [← hW3]; exact World.alloc_heap_new w2 _
  rw [hW3]
  clear hW3 c0 c1 c6 y3 o0 o1 c0a c1a c6a y3a o0a o1a
  have H3 := H2.below b3
  have e0 : W3.cell? ⟨w2.heap.size, 0, none⟩ = some (.int .i64 6) := xaaZ x3 0
  have e1 : W3.cell? ⟨w2.heap.size, 1, none⟩ = some (.int .i64 A) := xaaZ x3 1
  have d1 := H3.c1
  rw [HPC.out] at d1
  have z1 : W3.frozen? ⟨g, D.length * 4 + 1, none⟩ = false := by obtain ⟨cur, hh⟩ := H3.gb; exact Lib.frozen_of_heap hh _
  have hne : ¬ w2.heap.size = g := by obtain ⟨cur, hh⟩ := H2.gb; have := xacZ hh; omega
  have hne' : ¬ g = w2.heap.size := fun e => hne e.symm
  have HS := hideP (H3.setPc ((pc : Int) + 1))
  clear H2 H3 x3
  go_wp2_with (go_at_call 146; refine (HCC.out _ HS.out).mono ?_; rintro e w9 ⟨rfl, h9⟩)
  first | go_end0 | refine bodyPost_ret (results_none rfl _ _ _) rfl ?_
  exact ⟨rfl, h9⟩
theorem do11 (w0 : World) (b : Nat) (pv : Value) (M : Mach) (D : List Frm) (x : Frm) (p : List Fn) (k pc : Nat) (f : Fn) (A : Int) (w : World) (h : Doer w0 w b pv M) (hF : M.frames = D ++ [x]) (hD : D.length ≤ 100) (hp : FnsAt w0 pv p) (hk : p[k]? = some f) (hfn : x.fn = (k : Int)) (hpc : x.pc = (pc : Int)) (hpl : f.2.2.2.length ≤ 1000) (ho : f.2.2.2[pc]? = some (11, A)) (P : World → Prop)
    (HC : ∀ W, Doer w0 W b pv { M with frames := D ++ [{ x with pc := (pc : Int) + 1 }] } → Calls Tryz.prog 147 #[.pointer (some ⟨b, 0, none⟩), .agg #[.int .i64 11, .int .i64 A]] W fun e w' => e = .returned (.tuple #[]) ∧ P w') : Calls Tryz.prog 111 #[.pointer (some ⟨b, 0, none⟩)] w fun e w' => e = .returned (.tuple #[]) ∧ P w' := by
  obtain ⟨g, cap, bv, iv, ov, q, c, qb, H⟩ := h.open hF
  have HI := hideP (xalZ b g D.length cap w H.fcell hD)
  have HH0 := hideP H
  have HCC := hideP HC
  obtain ⟨pp, qp, hpv, hpm, -⟩ := id hp
  subst hpv
  have HP := hideP hp
  have hpcl := xaeZ ho
  have hkl := xaeZ hk
  have HO := hideP ho
  have HK := hideP hk
  have HFN := hideP hfn
  have HPC := hideP hpc
  clear h hF HC H hp ho hk hfn hpc
  go_enter Tryz.func111, Tryz.ntmps111
  go_wp2_with fail
  refine HI.out.mono ?_
  rintro e w2 ⟨rfl, b2⟩
  have H2 := HH0.out.below b2
  have c0 := H2.c0
  have c1 := H2.c1
  rw [HFN.out] at c0
  rw [HPC.out] at c1
  have c6 := H2.at_.cells.2.2.2.2.2.2
  obtain ⟨pp', qp', hpe, -, hpc⟩ := id (HP.out.below H2.at_.bel)
  cases hpe
  obtain ⟨pb, po, f0, f1, f2, f3, hpp, hplt, -, -, -, y3, hfn⟩ := hpc k f HK.out
  subst hpp
  obtain ⟨-, -, -, hops⟩ := hfn
  obtain ⟨p3, q3, he3, -, hoc⟩ := id hops
  subst he3
  obtain ⟨ob, oo, hob, holt, o0, o1⟩ := hoc pc _ HO.out
  subst hob
  have hkli : (k : Int) < (p.length : Int) := by omega
  have hpcli : (pc : Int) < (f.2.2.2.length : Int) := by omega
  have c0a := fun o => xabZ c0 o
  have c1a := fun o => xabZ c1 o
  have c6a := fun o => xabZ c6 o
  have y3a := fun o => xabZ y3 o
  have o0a := fun o => xabZ o0 o
  have o1a := fun o => xabZ o1 o
  clear hpc hoc hops
  go_wp2_with fail
  go_region
  obtain ⟨W3, hW3⟩ : ∃ W3, (w2.alloc (.cells #[.int .i64 11, .int .i64 A] 86)).drew = W3 := ⟨_, rfl⟩
  have b3 : Below w2.heap.size w2 W3 := by rw [← hW3]; exact ((Below.refl _ w2).alloc (Nat.le_refl _) _).drew
  have x3 : W3.heap[w2.heap.size]? = some (.cells #[.int .i64 11, .int .i64 A] 86 (0, 0)) := by rw [← hW3]; exact World.alloc_heap_new w2 _
  rw [hW3]
  clear hW3 c0 c1 c6 y3 o0 o1 c0a c1a c6a y3a o0a o1a
  have H3 := H2.below b3
  have e0 : W3.cell? ⟨w2.heap.size, 0, none⟩ = some (.int .i64 11) := xaaZ x3 0
  have e1 : W3.cell? ⟨w2.heap.size, 1, none⟩ = some (.int .i64 A) := xaaZ x3 1
  have d1 := H3.c1
  rw [HPC.out] at d1
  have z1 : W3.frozen? ⟨g, D.length * 4 + 1, none⟩ = false := by obtain ⟨cur, hh⟩ := H3.gb; exact Lib.frozen_of_heap hh _
  have hne : ¬ w2.heap.size = g := by obtain ⟨cur, hh⟩ := H2.gb; have := xacZ hh; omega
  have hne' : ¬ g = w2.heap.size := fun e => hne e.symm
  have HS := hideP (H3.setPc ((pc : Int) + 1))
  clear H2 H3 x3
  go_wp2_with (go_at_call 147; refine (HCC.out _ HS.out).mono ?_; rintro e w9 ⟨rfl, h9⟩)
  first | go_end0 | refine bodyPost_ret (results_none rfl _ _ _) rfl ?_
  exact ⟨rfl, h9⟩
theorem do14 (w0 : World) (b : Nat) (pv : Value) (M : Mach) (D : List Frm) (x : Frm) (p : List Fn) (k pc : Nat) (f : Fn) (A : Int) (w : World) (h : Doer w0 w b pv M) (hF : M.frames = D ++ [x]) (hD : D.length ≤ 100) (hp : FnsAt w0 pv p) (hk : p[k]? = some f) (hfn : x.fn = (k : Int)) (hpc : x.pc = (pc : Int)) (hpl : f.2.2.2.length ≤ 1000) (ho : f.2.2.2[pc]? = some (14, A)) (P : World → Prop)
    (HC : ∀ W, Doer w0 W b pv { M with frames := D ++ [{ x with pc := (pc : Int) + 1 }] } → Calls Tryz.prog 148 #[.pointer (some ⟨b, 0, none⟩), .int .i64 14] W fun e w' => e = .returned (.tuple #[]) ∧ P w') : Calls Tryz.prog 111 #[.pointer (some ⟨b, 0, none⟩)] w fun e w' => e = .returned (.tuple #[]) ∧ P w' := by
  obtain ⟨g, cap, bv, iv, ov, q, c, qb, H⟩ := h.open hF
  have HI := hideP (xalZ b g D.length cap w H.fcell hD)
  have HH0 := hideP H
  have HCC := hideP HC
  obtain ⟨pp, qp, hpv, hpm, -⟩ := id hp
  subst hpv
  have HP := hideP hp
  have hpcl := xaeZ ho
  have hkl := xaeZ hk
  have HO := hideP ho
  have HK := hideP hk
  have HFN := hideP hfn
  have HPC := hideP hpc
  clear h hF HC H hp ho hk hfn hpc
  go_enter Tryz.func111, Tryz.ntmps111
  go_wp2_with fail
  refine HI.out.mono ?_
  rintro e w2 ⟨rfl, b2⟩
  have H2 := HH0.out.below b2
  have c0 := H2.c0
  have c1 := H2.c1
  rw [HFN.out] at c0
  rw [HPC.out] at c1
  have c6 := H2.at_.cells.2.2.2.2.2.2
  obtain ⟨pp', qp', hpe, -, hpc⟩ := id (HP.out.below H2.at_.bel)
  cases hpe
  obtain ⟨pb, po, f0, f1, f2, f3, hpp, hplt, -, -, -, y3, hfn⟩ := hpc k f HK.out
  subst hpp
  obtain ⟨-, -, -, hops⟩ := hfn
  obtain ⟨p3, q3, he3, -, hoc⟩ := id hops
  subst he3
  obtain ⟨ob, oo, hob, holt, o0, o1⟩ := hoc pc _ HO.out
  subst hob
  have hkli : (k : Int) < (p.length : Int) := by omega
  have hpcli : (pc : Int) < (f.2.2.2.length : Int) := by omega
  have c0a := fun o => xabZ c0 o
  have c1a := fun o => xabZ c1 o
  have c6a := fun o => xabZ c6 o
  have y3a := fun o => xabZ y3 o
  have o0a := fun o => xabZ o0 o
  have o1a := fun o => xabZ o1 o
  clear hpc hoc hops
  go_wp2_with fail
  go_region
  obtain ⟨W3, hW3⟩ : ∃ W3, (w2.alloc (.cells #[.int .i64 14, .int .i64 A] 86)).drew = W3 := ⟨_, rfl⟩
  have b3 : Below w2.heap.size w2 W3 := by rw [← hW3]; exact ((Below.refl _ w2).alloc (Nat.le_refl _) _).drew
  have x3 : W3.heap[w2.heap.size]? = some (.cells #[.int .i64 14, .int .i64 A] 86 (0, 0)) := by rw [← hW3]; exact World.alloc_heap_new w2 _
  rw [hW3]
  clear hW3 c0 c1 c6 y3 o0 o1 c0a c1a c6a y3a o0a o1a
  have H3 := H2.below b3
  have e0 : W3.cell? ⟨w2.heap.size, 0, none⟩ = some (.int .i64 14) := xaaZ x3 0
  have e1 : W3.cell? ⟨w2.heap.size, 1, none⟩ = some (.int .i64 A) := xaaZ x3 1
  have d1 := H3.c1
  rw [HPC.out] at d1
  have z1 : W3.frozen? ⟨g, D.length * 4 + 1, none⟩ = false := by obtain ⟨cur, hh⟩ := H3.gb; exact Lib.frozen_of_heap hh _
  have hne : ¬ w2.heap.size = g := by obtain ⟨cur, hh⟩ := H2.gb; have := xacZ hh; omega
  have hne' : ¬ g = w2.heap.size := fun e => hne e.symm
  have HS := hideP (H3.setPc ((pc : Int) + 1))
  clear H2 H3 x3
  go_wp2_with (go_at_call 148; refine (HCC.out _ HS.out).mono ?_; rintro e w9 ⟨rfl, h9⟩)
  first | go_end0 | refine bodyPost_ret (results_none rfl _ _ _) rfl ?_
  exact ⟨rfl, h9⟩
theorem do17 (w0 : World) (b : Nat) (pv : Value) (M : Mach) (D : List Frm) (x : Frm) (p : List Fn) (k pc : Nat) (f : Fn) (A : Int) (w : World) (h : Doer w0 w b pv M) (hF : M.frames = D ++ [x]) (hD : D.length ≤ 100) (hp : FnsAt w0 pv p) (hk : p[k]? = some f) (hfn : x.fn = (k : Int)) (hpc : x.pc = (pc : Int)) (hpl : f.2.2.2.length ≤ 1000) (ho : f.2.2.2[pc]? = some (17, A)) (P : World → Prop)
    (HC : ∀ W, Doer w0 W b pv { M with frames := D ++ [{ x with pc := (pc : Int) + 1 }] } → Calls Tryz.prog 148 #[.pointer (some ⟨b, 0, none⟩), .int .i64 17] W fun e w' => e = .returned (.tuple #[]) ∧ P w') : Calls Tryz.prog 111 #[.pointer (some ⟨b, 0, none⟩)] w fun e w' => e = .returned (.tuple #[]) ∧ P w' := by
  obtain ⟨g, cap, bv, iv, ov, q, c, qb, H⟩ := h.open hF
  have HI := hideP (xalZ b g D.length cap w H.fcell hD)
  have HH0 := hideP H
  have HCC := hideP HC
  obtain ⟨pp, qp, hpv, hpm, -⟩ := id hp
  subst hpv
  have HP := hideP hp
  have hpcl := xaeZ ho
  have hkl := xaeZ hk
  have HO := hideP ho
  have HK := hideP hk
  have HFN := hideP hfn
  have HPC := hideP hpc
  clear h hF HC H hp ho hk hfn hpc
  go_enter Tryz.func111, Tryz.ntmps111
  go_wp2_with fail
  refine HI.out.mono ?_
  rintro e w2 ⟨rfl, b2⟩
  have H2 := HH0.out.below b2
  have c0 := H2.c0
  have c1 := H2.c1
  rw [HFN.out] at c0
  rw [HPC.out] at c1
  have c6 := H2.at_.cells.2.2.2.2.2.2
  obtain ⟨pp', qp', hpe, -, hpc⟩ := id (HP.out.below H2.at_.bel)
  cases hpe
  obtain ⟨pb, po, f0, f1, f2, f3, hpp, hplt, -, -, -, y3, hfn⟩ := hpc k f HK.out
  subst hpp
  obtain ⟨-, -, -, hops⟩ := hfn
  obtain ⟨p3, q3, he3, -, hoc⟩ := id hops
  subst he3
  obtain ⟨ob, oo, hob, holt, o0, o1⟩ := hoc pc _ HO.out
  subst hob
  have hkli : (k : Int) < (p.length : Int) := by omega
  have hpcli : (pc : Int) < (f.2.2.2.length : Int) := by omega
  have c0a := fun o => xabZ c0 o
  have c1a := fun o => xabZ c1 o
  have c6a := fun o => xabZ c6 o
  have y3a := fun o => xabZ y3 o
  have o0a := fun o => xabZ o0 o
  have o1a := fun o => xabZ o1 o
  clear hpc hoc hops
  go_wp2_with fail
  go_region
  obtain ⟨W3, hW3⟩ : ∃ W3, (w2.alloc (.cells #[.int .i64 17, .int .i64 A] 86)).drew = W3 := ⟨_, rfl⟩
  have b3 : Below w2.heap.size w2 W3 := by rw [← hW3]; exact ((Below.refl _ w2).alloc (Nat.le_refl _) _).drew
  have x3 : W3.heap[w2.heap.size]? = some (.cells #[.int .i64 17, .int .i64 A] 86 (0, 0)) := by rw [← hW3]; exact World.alloc_heap_new w2 _
  rw [hW3]
  clear hW3 c0 c1 c6 y3 o0 o1 c0a c1a c6a y3a o0a o1a
  have H3 := H2.below b3
  have e0 : W3.cell? ⟨w2.heap.size, 0, none⟩ = some (.int .i64 17) := xaaZ x3 0
  have e1 : W3.cell? ⟨w2.heap.size, 1, none⟩ = some (.int .i64 A) := xaaZ x3 1
  have d1 := H3.c1
  rw [HPC.out] at d1
  have z1 : W3.frozen? ⟨g, D.length * 4 + 1, none⟩ = false := by obtain ⟨cur, hh⟩ := H3.gb; exact Lib.frozen_of_heap hh _
  have hne : ¬ w2.heap.size = g := by obtain ⟨cur, hh⟩ := H2.gb; have := xacZ hh; omega
  have hne' : ¬ g = w2.heap.size := fun e => hne e.symm
  have HS := hideP (H3.setPc ((pc : Int) + 1))
  clear H2 H3 x3
  go_wp2_with (go_at_call 148; refine (HCC.out _ HS.out).mono ?_; rintro e w9 ⟨rfl, h9⟩)
  first | go_end0 | refine bodyPost_ret (results_none rfl _ _ _) rfl ?_
  exact ⟨rfl, h9⟩
theorem do21 (w0 : World) (b : Nat) (pv : Value) (M : Mach) (D : List Frm) (x : Frm) (p : List Fn) (k pc : Nat) (f : Fn) (A : Int) (w : World) (h : Doer w0 w b pv M) (hF : M.frames = D ++ [x]) (hD : D.length ≤ 100) (hp : FnsAt w0 pv p) (hk : p[k]? = some f) (hfn : x.fn = (k : Int)) (hpc : x.pc = (pc : Int)) (hpl : f.2.2.2.length ≤ 1000) (ho : f.2.2.2[pc]? = some (21, A)) (hin : M.inp ≠ []) (P : World → Prop)
    (HC : ∀ W, Doer w0 W b pv { M with frames := D ++ [{ x with pc := (pc : Int) + 1 }] } → Calls Tryz.prog 150 #[.pointer (some ⟨b, 0, none⟩)] W fun e w' => e = .returned (.tuple #[]) ∧ P w') : Calls Tryz.prog 111 #[.pointer (some ⟨b, 0, none⟩)] w fun e w' => e = .returned (.tuple #[]) ∧ P w' := by
  obtain ⟨g, cap, bv, iv, ov, q, c, qb, H⟩ := h.open hF
  have HI := hideP (xalZ b g D.length cap w H.fcell hD)
  have hin' : ((M.inp.length : Int) == 0) = false := by
    have := List.length_pos_iff.2 hin
    simp; omega
  obtain ⟨pin, cin, hinv⟩ := xagZ H.at_.own.inp
  have HH0 := hideP H
  have HCC := hideP HC
  obtain ⟨pp, qp, hpv, hpm, -⟩ := id hp
  subst hpv
  have HP := hideP hp
  have hpcl := xaeZ ho
  have hkl := xaeZ hk
  have HO := hideP ho
  have HK := hideP hk
  have HFN := hideP hfn
  have HPC := hideP hpc
  clear h hF HC H hp ho hk hfn hpc
  go_enter Tryz.func111, Tryz.ntmps111
  go_wp2_with fail
  refine HI.out.mono ?_
  rintro e w2 ⟨rfl, b2⟩
  have H2 := HH0.out.below b2
  have c0 := H2.c0
  have c1 := H2.c1
  rw [HFN.out] at c0
  rw [HPC.out] at c1
  have c6 := H2.at_.cells.2.2.2.2.2.2
  obtain ⟨pp', qp', hpe, -, hpc⟩ := id (HP.out.below H2.at_.bel)
  cases hpe
  obtain ⟨pb, po, f0, f1, f2, f3, hpp, hplt, -, -, -, y3, hfn⟩ := hpc k f HK.out
  subst hpp
  obtain ⟨-, -, -, hops⟩ := hfn
  obtain ⟨p3, q3, he3, -, hoc⟩ := id hops
  subst he3
  obtain ⟨ob, oo, hob, holt, o0, o1⟩ := hoc pc _ HO.out
  subst hob
  have hkli : (k : Int) < (p.length : Int) := by omega
  have hpcli : (pc : Int) < (f.2.2.2.length : Int) := by omega
  have c0a := fun o => xabZ c0 o
  have c1a := fun o => xabZ c1 o
  have c6a := fun o => xabZ c6 o
  have y3a := fun o => xabZ y3 o
  have o0a := fun o => xabZ o0 o
  have o1a := fun o => xabZ o1 o
  clear hpc hoc hops
  go_wp2_with fail
  go_region
  obtain ⟨W3, hW3⟩ : ∃ W3, (w2.alloc (.cells #[.int .i64 21, .int .i64 A] 86)).drew = W3 := ⟨_, rfl⟩
  have b3 : Below w2.heap.size w2 W3 := by rw [← hW3]; exact ((Below.refl _ w2).alloc (Nat.le_refl _) _).drew
  have x3 : W3.heap[w2.heap.size]? = some (.cells #[.int .i64 21, .int .i64 A] 86 (0, 0)) := by rw [← hW3]; exact World.alloc_heap_new w2 _
  rw [hW3]
  clear hW3 c0 c1 c6 y3 o0 o1 c0a c1a c6a y3a o0a o1a
  have H3 := H2.below b3
  have e0 : W3.cell? ⟨w2.heap.size, 0, none⟩ = some (.int .i64 21) := xaaZ x3 0
  have e1 : W3.cell? ⟨w2.heap.size, 1, none⟩ = some (.int .i64 A) := xaaZ x3 1
  have d1 := H3.c1
  rw [HPC.out] at d1
  have z1 : W3.frozen? ⟨g, D.length * 4 + 1, none⟩ = false := by obtain ⟨cur, hh⟩ := H3.gb; exact Lib.frozen_of_heap hh _
  have hne : ¬ w2.heap.size = g := by obtain ⟨cur, hh⟩ := H2.gb; have := xacZ hh; omega
  have hne' : ¬ g = w2.heap.size := fun e => hne e.symm
  have i2 := H3.at_.cells.2.2.1
  rw [hinv] at i2
  have HS := hideP (H3.setPc ((pc : Int) + 1))
  clear H2 H3 x3
  go_wp2_with (go_at_call 150; refine (HCC.out _ HS.out).mono ?_; rintro e w9 ⟨rfl, h9⟩)
  first | go_end0 | refine bodyPost_ret (results_none rfl _ _ _) rfl ?_
  exact ⟨rfl, h9⟩
theorem do15p (w0 : World) (b : Nat) (pv : Value) (M : Mach) (D : List Frm) (x : Frm) (p : List Fn) (k pc : Nat) (f : Fn) (A : Int) (w : World) (h : Doer w0 w b pv M) (hF : M.frames = D ++ [x]) (hD : D.length ≤ 100) (hp : FnsAt w0 pv p) (hk : p[k]? = some f) (hfn : x.fn = (k : Int)) (hpc : x.pc = (pc : Int)) (hpl : f.2.2.2.length ≤ 1000) (ho : f.2.2.2[pc]? = some (15, A)) (why : Int) (P : World → Prop)
    (HC : ∀ W, Doer w0 W b pv { M with frames := D ++ [{ x with pc := (pc : Int) + 1 }] } → Calls Tryz.prog 148 #[.pointer (some ⟨b, 0, none⟩), .int .i64 15] W fun e w' => e = .panicked [{ v := .iface 159 (.int .i64 why), recovered := false }] ∧ P w') : Calls Tryz.prog 111 #[.pointer (some ⟨b, 0, none⟩)] w fun e w' => e = .panicked [{ v := .iface 159 (.int .i64 why), recovered := false }] ∧ P w' := by
  obtain ⟨g, cap, bv, iv, ov, q, c, qb, H⟩ := h.open hF
  have HI := hideP (xalZ b g D.length cap w H.fcell hD)
  have HH0 := hideP H
  have HCC := hideP HC
  obtain ⟨pp, qp, hpv, hpm, -⟩ := id hp
  subst hpv
  have HP := hideP hp
  have hpcl := xaeZ ho
  have hkl := xaeZ hk
  have HO := hideP ho
  have HK := hideP hk
  have HFN := hideP hfn
  have HPC := hideP hpc
  clear h hF HC H hp ho hk hfn hpc
  go_enter Tryz.func111, Tryz.ntmps111
  go_wp2_with fail
  refine HI.out.mono ?_
  rintro e w2 ⟨rfl, b2⟩
  have H2 := HH0.out.below b2
  have c0 := H2.c0
  have c1 := H2.c1
  rw [HFN.out] at c0
  rw [HPC.out] at c1
  have c6 := H2.at_.cells.2.2.2.2.2.2
  obtain ⟨pp', qp', hpe, -, hpc⟩ := id (HP.out.below H2.at_.bel)
  cases hpe
  obtain ⟨pb, po, f0, f1, f2, f3, hpp, hplt, -, -, -, y3, hfn⟩ := hpc k f HK.out
  subst hpp
  obtain ⟨-, -, -, hops⟩ := hfn
  obtain ⟨p3, q3, he3, -, hoc⟩ := id hops
  subst he3
  obtain ⟨ob, oo, hob, holt, o0, o1⟩ := hoc pc _ HO.out
  subst hob
  have hkli : (k : Int) < (p.length : Int) := by omega
  have hpcli : (pc : Int) < (f.2.2.2.length : Int) := by omega
  have c0a := fun o => xabZ c0 o
  have c1a := fun o => xabZ c1 o
  have c6a := fun o => xabZ c6 o
  have y3a := fun o => xabZ y3 o
  have o0a := fun o => xabZ o0 o
  have o1a := fun o => xabZ o1 o
  clear hpc hoc hops
  go_wp2_with fail
  go_region
  obtain ⟨W3, hW3⟩ : ∃ W3, (w2.alloc (.cells #[.int .i64 15, .int .i64 A] 86)).drew = W3 := ⟨_, rfl⟩
  have b3 : Below w2.heap.size w2 W3 := by rw [← hW3]; exact ((Below.refl _ w2).alloc (Nat.le_refl _) _).drew
  have x3 : W3.heap[w2.heap.size]? = some (.cells #[.int .i64 15, .int .i64 A] 86 (0, 0)) := by rw [← hW3]; exact World.alloc_heap_new w2 _
  rw [hW3]
  clear hW3 c0 c1 c6 y3 o0 o1 c0a c1a c6a y3a o0a o1a
  have H3 := H2.below b3
  have e0 : W3.cell? ⟨w2.heap.size, 0, none⟩ = some (.int .i64 15) := xaaZ x3 0
  have e1 : W3.cell? ⟨w2.heap.size, 1, none⟩ = some (.int .i64 A) := xaaZ x3 1
  have d1 := H3.c1
  rw [HPC.out] at d1
  have z1 : W3.frozen? ⟨g, D.length * 4 + 1, none⟩ = false := by obtain ⟨cur, hh⟩ := H3.gb; exact Lib.frozen_of_heap hh _
  have hne : ¬ w2.heap.size = g := by obtain ⟨cur, hh⟩ := H2.gb; have := xacZ hh; omega
  have hne' : ¬ g = w2.heap.size := fun e => hne e.symm
  have HS := hideP (H3.setPc ((pc : Int) + 1))
  clear H2 H3 x3
  go_wp2_with (go_at_call 148; refine (HCC.out _ HS.out).mono ?_; rintro e w9 ⟨rfl, h9⟩)
  exact ⟨rfl, rfl, h9⟩
theorem do20p (w0 : World) (b : Nat) (pv : Value) (M : Mach) (D : List Frm) (x : Frm) (p : List Fn) (k pc : Nat) (f : Fn) (A : Int) (w : World) (h : Doer w0 w b pv M) (hF : M.frames = D ++ [x]) (hD : D.length ≤ 100) (hp : FnsAt w0 pv p) (hk : p[k]? = some f) (hfn : x.fn = (k : Int)) (hpc : x.pc = (pc : Int)) (hpl : f.2.2.2.length ≤ 1000) (ho : f.2.2.2[pc]? = some (20, A)) (why : Int) (P : World → Prop)
    (HC : ∀ W, Doer w0 W b pv { M with frames := D ++ [{ x with pc := (pc : Int) + 1 }] } → Calls Tryz.prog 149 #[.pointer (some ⟨b, 0, none⟩)] W fun e w' => e = .panicked [{ v := .iface 159 (.int .i64 why), recovered := false }] ∧ P w') : Calls Tryz.prog 111 #[.pointer (some ⟨b, 0, none⟩)] w fun e w' => e = .panicked [{ v := .iface 159 (.int .i64 why), recovered := false }] ∧ P w' := by
  obtain ⟨g, cap, bv, iv, ov, q, c, qb, H⟩ := h.open hF
  have HI := hideP (xalZ b g D.length cap w H.fcell hD)
  have HH0 := hideP H
  have HCC := hideP HC
  obtain ⟨pp, qp, hpv, hpm, -⟩ := id hp
  subst hpv
  have HP := hideP hp
  have hpcl := xaeZ ho
  have hkl := xaeZ hk
  have HO := hideP ho
  have HK := hideP hk
  have HFN := hideP hfn
  have HPC := hideP hpc
  clear h hF HC H hp ho hk hfn hpc
  go_enter Tryz.func111, Tryz.ntmps111
  go_wp2_with fail
  refine HI.out.mono ?_
  rintro e w2 ⟨rfl, b2⟩
  have H2 := HH0.out.below b2
  have c0 := H2.c0
  have c1 := H2.c1
  rw [HFN.out] at c0
  rw [HPC.out] at c1
  have c6 := H2.at_.cells.2.2.2.2.2.2
  obtain ⟨pp', qp', hpe, -, hpc⟩ := id (HP.out.below H2.at_.bel)
  cases hpe
  obtain ⟨pb, po, f0, f1, f2, f3, hpp, hplt, -, -, -, y3, hfn⟩ := hpc k f HK.out
  subst hpp
  obtain ⟨-, -, -, hops⟩ := hfn
  obtain ⟨p3, q3, he3, -, hoc⟩ := id hops
  subst he3
  obtain ⟨ob, oo, hob, holt, o0, o1⟩ := hoc pc _ HO.out
  subst hob
  have hkli : (k : Int) < (p.length : Int) := by omega
  have hpcli : (pc : Int) < (f.2.2.2.length : Int) := by omega
  have c0a := fun o => xabZ c0 o
  have c1a := fun o => xabZ c1 o
  have c6a := fun o => xabZ c6 o
  have y3a := fun o => xabZ y3 o
  have o0a := fun o => xabZ o0 o
  have o1a := fun o => xabZ o1 o
  clear hpc hoc hops
  go_wp2_with fail
  go_region
  obtain ⟨W3, hW3⟩ : ∃ W3, (w2.alloc (.cells #[.int .i64 20, .int .i64 A] 86)).drew = W3 := ⟨_, rfl⟩
  have b3 : Below w2.heap.size w2 W3 := by rw [← hW3]; exact ((Below.refl _ w2).alloc (Nat.le_refl _) _).drew
  have x3 : W3.heap[w2.heap.size]? = some (.cells #[.int .i64 20, .int .i64 A] 86 (0, 0)) := by rw [← hW3]; exact World.alloc_heap_new w2 _
  rw [hW3]
  clear hW3 c0 c1 c6 y3 o0 o1 c0a c1a c6a y3a o0a o1a
  have H3 := H2.below b3
  have e0 : W3.cell? ⟨w2.heap.size, 0, none⟩ = some (.int .i64 20) := xaaZ x3 0
  have e1 : W3.cell? ⟨w2.heap.size, 1, none⟩ = some (.int .i64 A) := xaaZ x3 1
  have d1 := H3.c1
  rw [HPC.out] at d1
  have z1 : W3.frozen? ⟨g, D.length * 4 + 1, none⟩ = false := by obtain ⟨cur, hh⟩ := H3.gb; exact Lib.frozen_of_heap hh _
  have hne : ¬ w2.heap.size = g := by obtain ⟨cur, hh⟩ := H2.gb; have := xacZ hh; omega
  have hne' : ¬ g = w2.heap.size := fun e => hne e.symm
  have HS := hideP (H3.setPc ((pc : Int) + 1))
  clear H2 H3 x3
  go_wp2_with (go_at_call 149; refine (HCC.out _ HS.out).mono ?_; rintro e w9 ⟨rfl, h9⟩)
  exact ⟨rfl, rfl, h9⟩
end Go.Proofs.YtmjjkenblfndgaaGreat


/- stride's goOn and useBlock where they call further. -/
namespace Go.Proofs.YtmjjkenblfndgaaGreat
open Go.RowKit
set_option linter.unusedSimpArgs false
set_option linter.unusedVariables false
theorem go13 (w0 : World) (b : Nat) (pv : Value) (M : Mach) (A : Int) (w : World) (h : Doer w0 w b pv M) (P : World → Prop) (HC : ∀ W, Doer w0 W b pv M → Calls Tryz.prog 193 #[.pointer (some ⟨b, 0, none⟩)] W fun e w' => e = .returned (.tuple #[]) ∧ P w') : Calls Tryz.prog 147 #[.pointer (some ⟨b, 0, none⟩), .agg #[.int .i64 13, .int .i64 A]] w fun e w' => e = .returned (.tuple #[]) ∧ P w' := by
  have HCC := hideP HC
  have HD := hideP (h.below (boxOp w (.cells #[.int .i64 13, .int .i64 A] 86)))
  clear h HC
  go_enter Tryz.func147, Tryz.ntmps147
  go_wp2_with (go_at_call 193; refine (HCC.out _ HD.out).mono ?_; rintro e w9 ⟨rfl, h9⟩)
  first | go_end0 | refine bodyPost_ret (results_none rfl _ _ _) rfl ?_
  exact ⟨rfl, h9⟩
theorem go12 (w0 : World) (b : Nat) (pv : Value) (M : Mach) (A : Int) (w : World) (h : Doer w0 w b pv M) (P : World → Prop) (HC : ∀ W, Doer w0 W b pv M → Calls Tryz.prog 192 #[.pointer (some ⟨b, 0, none⟩), .int .i64 A] W fun e w' => e = .returned (.tuple #[]) ∧ P w') : Calls Tryz.prog 147 #[.pointer (some ⟨b, 0, none⟩), .agg #[.int .i64 12, .int .i64 A]] w fun e w' => e = .returned (.tuple #[]) ∧ P w' := by
  have HCC := hideP HC
  have HD := hideP (h.below (boxOp w (.cells #[.int .i64 12, .int .i64 A] 86)))
  clear h HC
  go_enter Tryz.func147, Tryz.ntmps147
  go_wp2_with (go_at_call 192; refine (HCC.out _ HD.out).mono ?_; rintro e w9 ⟨rfl, h9⟩)
  first | go_end0 | refine bodyPost_ret (results_none rfl _ _ _) rfl ?_
  exact ⟨rfl, h9⟩
theorem go12p (w0 : World) (b : Nat) (pv : Value) (M : Mach) (A : Int) (why : Int) (w : World) (h : Doer w0 w b pv M) (P : World → Prop) (HC : ∀ W, Doer w0 W b pv M → Calls Tryz.prog 192 #[.pointer (some ⟨b, 0, none⟩), .int .i64 A] W fun e w' => e = .panicked [{ v := .iface 159 (.int .i64 why), recovered := false }] ∧ P w') : Calls Tryz.prog 147 #[.pointer (some ⟨b, 0, none⟩), .agg #[.int .i64 12, .int .i64 A]] w fun e w' => e = .panicked [{ v := .iface 159 (.int .i64 why), recovered := false }] ∧ P w' := by
  have HCC := hideP HC
  have HD := hideP (h.below (boxOp w (.cells #[.int .i64 12, .int .i64 A] 86)))
  clear h HC
  go_enter Tryz.func147, Tryz.ntmps147
  go_wp2_with (go_at_call 192; refine (HCC.out _ HD.out).mono ?_; rintro e w9 ⟨rfl, h9⟩)
  exact ⟨rfl, rfl, h9⟩
theorem ub14 (w0 : World) (b : Nat) (pv : Value) (M : Mach) (w : World) (h : Doer w0 w b pv M) (P : World → Prop) (HC : ∀ W, Doer w0 W b pv M → Calls Tryz.prog 194 #[.pointer (some ⟨b, 0, none⟩)] W fun e w' => e = .returned (.tuple #[]) ∧ P w') : Calls Tryz.prog 148 #[.pointer (some ⟨b, 0, none⟩), .int .i64 14] w fun e w' => e = .returned (.tuple #[]) ∧ P w' := by
  have HCC := hideP HC
  have HD := hideP (h)
  clear h HC
  go_enter Tryz.func148, Tryz.ntmps148
  go_wp2_with (go_at_call 194; refine (HCC.out _ HD.out).mono ?_; rintro e w9 ⟨rfl, h9⟩)
  first | go_end0 | refine bodyPost_ret (results_none rfl _ _ _) rfl ?_
  exact ⟨rfl, h9⟩
theorem ub14p (w0 : World) (b : Nat) (pv : Value) (M : Mach) (why : Int) (w : World) (h : Doer w0 w b pv M) (P : World → Prop) (HC : ∀ W, Doer w0 W b pv M → Calls Tryz.prog 194 #[.pointer (some ⟨b, 0, none⟩)] W fun e w' => e = .panicked [{ v := .iface 159 (.int .i64 why), recovered := false }] ∧ P w') : Calls Tryz.prog 148 #[.pointer (some ⟨b, 0, none⟩), .int .i64 14] w fun e w' => e = .panicked [{ v := .iface 159 (.int .i64 why), recovered := false }] ∧ P w' := by
  have HCC := hideP HC
  have HD := hideP (h)
  clear h HC
  go_enter Tryz.func148, Tryz.ntmps148
  go_wp2_with (go_at_call 194; refine (HCC.out _ HD.out).mono ?_; rintro e w9 ⟨rfl, h9⟩)
  exact ⟨rfl, rfl, h9⟩
end Go.Proofs.YtmjjkenblfndgaaGreat


/- stride.Begin; slices.Backward at values. -/
namespace Go.Proofs.YtmjjkenblfndgaaGreat
open Go.RowKit Go.Shelf
set_option linter.unusedSimpArgs false
set_option linter.unusedVariables false
attribute [local go_sem] Oper.semAt_some
theorem made_vals (n : Nat) : (madeCells (Value.agg #[.bool false, .int .i64 0]).cells (n * 2)).toList = valCells (List.replicate n (false, 0)) := by
  have h : (Value.agg #[.bool false, .int .i64 0]).cells = #[.bool false, .int .i64 0] := rfl
  rw [h]
  apply List.ext_getElem?
  intro k
  by_cases hk : k < n * 2
  · have hq : k / 2 < n := by omega
    obtain ⟨a0, a1⟩ := xcxZ (List.replicate n (false, 0)) (k / 2) (false, 0) (by simp [hq])
    have hm : k % 2 = 0 ∨ k % 2 = 1 := by omega
    rcases hm with hm | hm
    · rw [show k / 2 * 2 = k by omega] at a0
      rw [a0]; simp [madeCells, hk, hm]
    · rw [show k / 2 * 2 + 1 = k by omega] at a1
      rw [a1]; simp [madeCells, hk, hm]
  · rw [List.getElem?_eq_none (by simp [madeCells]; omega), List.getElem?_eq_none (by rw [xfoZ]; simp; omega)]
theorem xnmZ (l : List Val) (k : Nat) (b c : Bool) (n : Int) (h : l[k]? = some (c, n)) : (valCells l).set (k * 2) (.bool b) = valCells (l.set k (b, n)) := by
  induction l generalizing k with
  | nil => simp at h
  | cons y r ih =>
    cases k with
    | zero => simp at h; subst h; simp [valCells]
    | succ k =>
      have := ih k (by simpa using h)
      rw [show (k + 1) * 2 = k * 2 + 1 + 1 from by omega]
      simpa [valCells] using this
theorem xe4Z (ts : List Int) : (xbdZ ts).length = ts.length := by simp [xbdZ]
theorem fresh_set (ts : List Int) (k : Nat) (t : Int) (h : ts[k]? = some t) : (xbdZ (ts.take k) ++ List.replicate (ts.length - k) (false, (0 : Int))).set k (decide (t = 2), 0) = xbdZ (ts.take (k + 1)) ++ List.replicate (ts.length - (k + 1)) (false, 0) := by
  have hl := xaeZ h
  have e1 : (xbdZ (ts.take k)).length = k := by rw [xe4Z, List.length_take]; omega
  have e2 : List.replicate (ts.length - k) (false, (0 : Int)) = (false, 0) :: List.replicate (ts.length - (k + 1)) (false, 0) := by
    rw [show ts.length - k = ts.length - (k + 1) + 1 by omega]; rfl
  rw [List.set_append_right _ _ (by omega), e1, Nat.sub_self, e2, List.set_cons_zero, xa7Z ts k t h]
  simp [xbdZ]
theorem xl8Z (p : List Fn) (pv : Value) (k : Nat) (f : Fn) (w : World) (hp : FnsAt w pv p) (hk : p[k]? = some f) (hL : f.2.1.length ≤ 100) : Calls Tryz.prog 83 #[.agg #[pv], .int .i64 k] w fun e w' => ∃ gl, e = .returned (.agg #[.int .i64 k, .int .i64 0, .slice (some ⟨gl, 0, none⟩) f.2.1.length f.2.1.length, .slice none 0 0]) ∧ w'.ownsRow w.heap.size 113 2 (.slice (some ⟨gl, 0, none⟩) f.2.1.length f.2.1.length) f.2.1.length (valCells (xbdZ f.2.1)) ∧ Below w.heap.size w w' := by
  obtain ⟨i0, hi, hz0, hz1, hz2⟩ := info_parts infoVal
  obtain ⟨P, L, r, C⟩ := f
  simp only at hL
  obtain ⟨pp, qp, hpv, hpm, hpc⟩ := id hp
  subst hpv
  unfold maxLen at hpm
  obtain ⟨b, off, c0, c1, c2, c3, hpp, hlt, y0, y1, y2, y3, hfn⟩ := hpc k _ hk
  subst hpp
  have hkp := xaeZ hk
  have hkpi : (k : Int) < (p.length : Int) := by omega
  obtain ⟨-, hI, -, -⟩ := hfn
  obtain ⟨p1, q1, e1, -, hIc⟩ := id hI
  simp only at e1
  subst e1
  obtain ⟨W1, hW1⟩ : ∃ W1, (w.alloc (.cells #[.slice (some ⟨b, off, none⟩) p.length qp] 24)).alloc (.cells #[.int .i64 0, .int .i64 0, .slice none 0 0, .slice none 0 0] 89) = W1 := ⟨_, rfl⟩
  have b1 : Below w.heap.size w W1 := by rw [← hW1]; exact ((Below.refl _ w).alloc (Nat.le_refl _) _).alloc (by simp) _
  have x1 : W1.heap[w.heap.size]? = some (.cells #[.slice (some ⟨b, off, none⟩) p.length qp] 24 (0, 0)) := by rw [← hW1]; exact xajZ (World.alloc_heap_new w _) _
  have y1' : W1.heap[w.heap.size + 1]? = some (.cells #[.int .i64 0, .int .i64 0, .slice none 0 0, .slice none 0 0] 89 (0, 0)) := by rw [← hW1]; exact xa9Z w _ _
  have lx := xacZ x1
  have ly := xacZ y1'
  have d0 : W1.cell? ⟨w.heap.size, 0, none⟩ = some (.slice (some ⟨b, off, none⟩) p.length qp) := xaaZ x1 0
  have d1 := (b1.cell (p := ⟨b, off + k * 4 + 1, none⟩) hlt).trans y1
  have hlt1 : b < W1.heap.size := Nat.lt_of_lt_of_le hlt b1.size
  have HI := hideP (hI.below b1)
  have HX := hideP x1
  have HY := hideP y1'
  clear hp hpc hk hI hIc x1 y1' y0 y1 y2 y3
  go_enter Tryz.func83, Tryz.ntmps83
  go_wp2_with (at_make; refine wpList_make_full _ rfl _ _ 87 rfl W1.heap.size 113 i0 (.agg #[.bool false, .int .i64 0]) 2 Tryz.underlying87 hi hz0 hz1 _ _ _ _ L.length rfl rfl (by omega) (by omega) (by rw [hz2]; omega) (by unfold maxLen; omega) (Nat.le_refl _) ?_; intro w2 hown2 hg2; rw [made_vals] at hown2; have b2 : Below W1.heap.size W1 w2 := (Below.refl _ W1).grown hg2 (Nat.le_refl _) (fun k hk => by cases hk); have HOWN2 := hideP hown2; have k0 := (b2.cell (p := ⟨w.heap.size, 0, none⟩) lx).trans d0; have k1 := (b2.cell (p := ⟨b, off + k * 4 + 1, none⟩) hlt1).trans d1; clear hown2 hg2)
  go_loopw [6, 7, 23] (fun _ _ i wr => ∃ (j : Nat), j ≤ L.length ∧ i = .int .i64 j ∧ wr.ownsRow W1.heap.size 113 2 (.slice (some ⟨W1.heap.size, 0, none⟩) L.length L.length) L.length (valCells (xbdZ (L.take j) ++ List.replicate (L.length - j) (false, 0))) ∧ Below W1.heap.size W1 wr) (fun _ _ i _ => L.length - (intOf i).toNat)
  case atStart => exact ⟨0, Nat.zero_le _, rfl, by simpa [xbdZ] using HOWN2.out, b2⟩
  case round =>
    rename World => w3
    obtain ⟨j, hj, rfl, hrow, b3⟩ := hrel
    by_cases hlt3 : j < L.length
    · have hlti : (j : Int) < (L.length : Int) := by omega
      obtain ⟨t, ht⟩ := xaiZ hlt3
      obtain ⟨p2, q2, he2, -, hc2⟩ := HI.out.below b3
      cases he2
      obtain ⟨g2, off2, hp2, -, g0⟩ := hc2 j t ht
      subst hp2
      have hlen : (xbdZ (L.take j) ++ List.replicate (L.length - j) (false, (0 : Int))).length = L.length := by simp [xbdZ]; omega
      have hat : (xbdZ (L.take j) ++ List.replicate (L.length - j) (false, (0 : Int)))[j]? = some (false, 0) := by
        have e1 : (xbdZ (L.take j)).length = j := by rw [xe4Z, List.length_take]; omega
        rw [List.getElem?_append_right (by omega), e1, Nat.sub_self]
        rw [List.getElem?_replicate]; simp; omega
      have hvr := xcdZ (l := xbdZ (L.take j) ++ List.replicate (L.length - j) (false, (0 : Int))) (by rw [hlen]; exact hrow)
      obtain ⟨pv2, cv2, he3, -, hc3⟩ := hvr
      rw [hlen] at he3
      cases he3
      obtain ⟨gg, oo, hgo, -, v0, -⟩ := hc3 j _ hat
      cases hgo
      simp only [Nat.zero_add] at v0
      obtain ⟨cur, hcur⟩ := xd8Z (g := W1.heap.size) hrow rfl
      have z0 := Lib.frozen_of_heap hcur (j * 2)
      have HROW := hideP hrow
      have HT := hideP ht
      have HAT := hideP hat
      clear hc2 hc3 hcur hrow ht hat hlen
      go_wp2
      go_roundw
      case rel =>
        refine ⟨j + 1, by omega, by go_num, ?_, b3.setCell (p := ⟨W1.heap.size, j * 2, none⟩) (Nat.le_refl _) _⟩
        have h1 := xdwZ HROW.out (j * 2) (.bool (t == 2))
        rw [xnmZ _ j (t == 2) false 0 HAT.out] at h1
        have h2 := fresh_set L j t HT.out
        rw [show (decide (t = 2)) = (t == 2) from rfl] at h2
        rw [h2] at h1
        exact h1
      case measure => simp [intOf]; omega
    · have hlti : ¬ (j : Int) < (L.length : Int) := by omega
      have hjl : j = L.length := by omega
      subst hjl
      have HROW := hideP hrow
      have y3 := (b3.block _ ly).trans HY.out
      have yc0 := xaaZ y3 0
      have yc1 := xaaZ y3 1
      have yc2 := xaaZ y3 2
      have yc3 := xaaZ y3 3
      simp at yc0 yc1 yc2 yc3
      have yz := Lib.frozen_of_heap y3
      have yz0 := yz 0
      have yz1 := yz 1
      have yz2 := yz 2
      have yz3 := yz 3
      clear hrow yz y3
      go_wp2
      refine bodyPost_ret (v := .agg #[.int .i64 k, .int .i64 0, .slice (some ⟨W1.heap.size, 0, none⟩) L.length L.length, .slice none 0 0]) (by simp [results, Tryz.results83, go_sem, yc0, yc1, yc2, yc3]) rfl ?_
      have hfg := xk1Z w3 (w.heap.size + 1) 0 (.int .i64 k) (.int .i64 0) (.slice (some ⟨W1.heap.size, 0, none⟩) L.length L.length) (.slice none 0 0)
      simp only [Nat.zero_add] at hfg
      have hrow3 := HROW.out
      rw [List.take_of_length_le (Nat.le_refl _), Nat.sub_self, List.replicate_zero, List.append_nil] at hrow3
      refine ⟨_, rfl, xarZ (xapZ hrow3 b1.size) hfg (xa5Z ((b3.block _ ly).trans HY.out)) (by decide), (b1.trans (b3.mono b1.size)).grown hfg (by have := b1.size; have := b3.size; omega) (fun j hj => by cases hj; omega)⟩
def downs : Nat → List Nat
  | 0 => []
  | k + 1 => k :: downs k
theorem xixZ (k : Nat) : (downs k).length = k := by
  induction k with
  | zero => rfl
  | succ k ih => simp [downs, ih]
abbrev ItV (n : Nat) := { x : Nat × Val // x.1 < n }
abbrev encsV {n : Nat} (x : ItV n) : Array Value := #[.int .i64 x.1.1, .agg #[.bool x.1.2.1, .int .i64 x.1.2.2]]
def HasV (bs : Nat) (p : Option Addr) (n c : Nat) (W : World) : Prop := Boxed W bs 87 (.slice p n c) ∧ ∃ l : List Val, l.length = n ∧ ValsAt W (.slice p n c) l
def KpV (bs : Nat) (p : Option Addr) (n c : Nat) (W W' : World) : Prop := HasV bs p n c W → HasV bs p n c W'
theorem backV1_in (n : Nat) (hn : 1 ≤ n) (l bs N : Nat) (p : Option Addr) (c : Nat) (hN : N ≤ 100) (J Jx : List (ItV N) → World → Prop) (W : World)
    (hY : ∀ pre x W1, J pre W1 → pre.length < N → YieldAt Fence.wide (n - 1) Tryz.prog l (encsV x) W1 fun e W' =>
      (e = .returned (.bool true) ∧ J (pre ++ [x]) W' ∧ KpV bs p N c W1 W') ∨ (e = .returned (.bool false) ∧ Jx (pre ++ [x]) W'))
    (hB : HasV bs p N c W) (h0 : J [] W) :
    CallsIn Fence.wide n Tryz.prog 237 #[.func (.yield l) #[] #[], .pointer (some ⟨bs, 0, none⟩)] W fun e W' => (∃ v, e = .returned v) ∧
      ((∃ ys, ys.map (fun y => y.1.1) = downs N ∧ J ys W') ∨ (∃ pre, True ∧ Jx pre W')) := by
  refine callsIn_of_wp Tryz.func237 rfl trivial ?_ rfl
  simp only [Tryz.ntmps237, List.size_toArray, List.length_cons, List.length_nil, Nat.reduceAdd, Nat.reduceSub, Array.replicate_succ, Array.replicate_zero, List.push_toArray, List.append_toArray, List.nil_append, List.cons_append]
  have hc0 := hB.1.cell
  have hwr : wrap64 ((N : Int) - 1) = (N : Int) - 1 := by unfold wrap64; omega
  have HB := hideP hB
  have HY := hideP hY
  clear hB hY
  gi_wp2
  gi_loopw [3] (fun a wr => ∃ (k : Nat) (pre : List (ItV N)), a = .int .i64 ((k : Int) - 1) ∧ k ≤ N ∧ downs N = pre.map (fun y => y.1.1) ++ downs k ∧ J pre wr ∧ HasV bs p N c wr) (fun a _ => (intOf a + 1).toNat)
  case atStart => exact ⟨N, [], rfl, Nat.le_refl _, rfl, h0, HB.out⟩
  case round =>
    obtain ⟨k, pre, rfl, hk, hit, hJ, hBx⟩ := hrel
    have HT := hideP hit
    clear hit
    have hcx := hBx.1.cell
    cases k with
    | zero =>
      rw [show ((0 : Nat) : Int) - 1 = -1 by omega]
      gi_wp2
      go_end0
      refine ⟨⟨_, rfl⟩, .inl ?_⟩
      exact ⟨pre, by rw [HT.out]; simp [downs], hJ⟩
    | succ m =>
      rw [show ((m + 1 : Nat) : Int) - 1 = (m : Int) by omega]
      obtain ⟨-, L, hL, hVx⟩ := id hBx
      obtain ⟨z, hz⟩ := xaiZ (show m < L.length by omega)
      obtain ⟨p', c', he, _, hcc⟩ := hVx
      obtain ⟨b, off, hp, hbl, g0, g1⟩ := hcc m z hz
      cases he
      subst hp
      obtain ⟨fn, tmps, assign, body, hy, hR⟩ := HY.out pre ⟨(m, z), by omega⟩ _ hJ (by have := congrArg List.length HT.out; simp [xixZ] at this; omega)
      dsimp only [encsV] at hy
      have hmt : (m : Int) < (L.length : Int) := by omega
      have HBX := hideP hBx
      clear hcc hz hBx hJ
      gi_wp2
      refine hR.mono ?_
      rintro e W3 (⟨rfl, hJ3, hk3⟩ | ⟨rfl, hJx3⟩)
      · gi_wp2
        go_roundw
        case rel =>
          refine ⟨m, pre ++ [⟨(m, z), by omega⟩], by go_num, by omega, ?_, hJ3, hk3 HBX.out⟩
          rw [HT.out]; simp [downs]
        case measure => simp [intOf] <;> omega
      · gi_wp2
        refine bodyPost_ret (results_none rfl _ _ _) rfl ?_
        exact ⟨⟨_, rfl⟩, .inr ⟨_, trivial, hJx3⟩⟩
theorem xm7Z (p : Option Addr) (n c : Nat) (w : World) :
    Calls Tryz.prog 225 #[.slice p n c] w fun e w' => e = .returned (.func (.func 237) #[] #[.pointer (some ⟨w.heap.size, 0, none⟩)]) ∧ w' = w.alloc (.cells #[.slice p n c] 87) := by
  go_enter Tryz.func225, Tryz.ntmps225
  go_wp2
  go_ret
  exact ⟨rfl, rfl⟩
theorem HasV.below {bs : Nat} {p : Option Addr} {n c : Nat} {w W : World} (h : HasV bs p n c w) (hb : Below w.heap.size w W) : HasV bs p n c W :=
  ⟨(hb.block bs h.1.lt).trans h.1, by obtain ⟨l, h1, h2⟩ := h.2; exact ⟨l, h1, h2.below hb⟩⟩
theorem xksZ (n : Nat) (hn : 1 ≤ n) (bs N : Nat) (p : Option Addr) (c : Nat) (hN : N ≤ 100) (w : World) (hB : HasV bs p N c w) :
    SeqStopsK Fence.wide n Tryz.prog 237 #[.pointer (some ⟨bs, 0, none⟩)] (encsV (n := N)) (KpV bs p N c) (fun ys => ys.map (fun y => y.1.1) = downs N) (fun _ => True) N w :=
  fun l J Jx W hW hA _ hY h0 => backV1_in n hn l bs N p c hN J Jx W hY (hB.below hW) h0
theorem kpV_t {bs : Nat} {p : Option Addr} {n c : Nat} {A B C : World} (h : KpV bs p n c A B) (k : KpV bs p n c B C) : KpV bs p n c A C := fun x => k (h x)
theorem kpV_b {bs : Nat} {p : Option Addr} {n c : Nat} {w : World} (W : World) (l : Nat) (o o' : Obj) (_ : w.heap.size ≤ l) (h : W.heap[l]? = some o) (ho : o.isCells = false) (_ : o.isWalk = false) : KpV bs p n c W (W.putObj l o') := fun ⟨x, L, hL, y⟩ => by
  refine ⟨x.kept (grownBy_putObj' W l o') (fun e => by cases e; rw [show W.heap[bs]? = _ from x] at h; cases h; cases ho), L, hL, ?_⟩
  subst hL
  obtain ⟨p', c', he, hm, hc⟩ := y
  cases he
  refine ⟨_, _, rfl, hm, fun k z hk => ?_⟩
  obtain ⟨b, off, rfl, hb, g, g'⟩ := hc k z hk
  have hg := grownBy_putObj' W l o'
  have hne : b ≠ l := fun e => by
    subst e
    obtain ⟨cs, t, fz, hcs, _⟩ := Sort.cells_of_cell? g
    rw [hcs] at h; cases h; cases ho
  exact ⟨b, off, rfl, Nat.lt_of_lt_of_le hb hg.size, hg.cell g (by simpa using hne), hg.cell g' (by simpa using hne)⟩
end Go.Proofs.YtmjjkenblfndgaaGreat


/- stride's call. -/
namespace Go.Proofs.YtmjjkenblfndgaaGreat
open Go.RowKit Go.Shelf
set_option linter.unusedSimpArgs false
set_option linter.unusedVariables false
attribute [local go_sem] Oper.semAt_some
theorem xgbZ {W : World} {B : Nat} {e : TypeId} {size n cap g : Nat} {xs : List Value} (h : W.ownsRow B e size (.slice (some ⟨g, 0, none⟩) n cap) n xs) (j : Nat) (u : Value) (hj : xs[j]? = some u) : W.cell? ⟨g, j, none⟩ = some u := by
  rcases h.2 with ⟨h1, _⟩ | ⟨g', cap', cur, h1, h2, h3, h4, h5, h6, h7⟩
  · cases h1
  · cases h1
    rw [xaaZ h3]
    rw [← h7, List.getElem?_take] at hj
    split at hj
    · simpa using hj
    · cases hj
theorem DAt.open {w0 W : World} {b : Nat} {pv fv bv iv ov : Value} {q' : List FV} {qb : List Value} {M : Mach} {D : List Frm} {x : Frm} (h : DAt w0 W b pv fv bv iv ov q' qb M) (hF : M.frames = D ++ [x]) : ∃ g cap q c, q' = q ++ [c] ∧ fv = .slice (some ⟨g, 0, none⟩) (D.length + 1) cap ∧ DIn w0 W b pv M D x g cap bv iv ov q c qb := by
  have hl := h.own.frs.len
  rw [hF] at hl
  obtain ⟨q, c, rfl⟩ : ∃ q c, q' = q ++ [c] := by
    rcases List.eq_nil_or_concat q' with h0 | ⟨q, c, h0⟩
    · subst h0; simp at hl
    · exact ⟨q, c, by simpa using h0⟩
  have hlen : q.length = D.length := by simpa using hl
  have hrow := h.own.fr
  have hn : (q ++ [c]).length = D.length + 1 := by simp [hlen]
  rcases hrow.2 with ⟨_, h0⟩ | ⟨g, cap, cur, hv, hB, hg, h1, h2, h3, h4⟩
  · omega
  have hfrs := h.own.frs
  rw [hF] at hfrs
  have hx : (D ++ [x])[q.length]? = some x := by rw [hlen]; exact xbjZ _ _
  obtain ⟨e1, e2⟩ := hfrs.nums q.length c x (xbjZ _ _) hx
  obtain ⟨a0, a1, a2, a3⟩ := xejZ (q ++ [c]) q.length c (xbjZ _ _)
  obtain ⟨r1, r2⟩ := xekZ (q ++ [c]) q.length c (xbjZ _ _)
  obtain ⟨v1, v2⟩ := xkgZ (D ++ [x]) q.length x hx
  have o1 := hfrs.rows.each _ _ _ r1 v1
  have o2 := hfrs.rows.each _ _ _ r2 v2
  rw [← h4, List.getElem?_take_of_lt (by omega)] at a0 a1 a2 a3
  rw [hn] at hv
  subst hv
  refine ⟨g, cap, q, c, rfl, rfl, h, hF, hlen, e1, e2, ?_, ?_, ?_, ?_, ⟨_, hg⟩, o1, o2⟩
  · rw [xaaZ hg, ← e1, ← hlen]; simpa using a0
  · rw [xaaZ hg, ← e2, ← hlen]; simpa using a1
  · rw [xaaZ hg, ← hlen]; simpa using a2
  · rw [xaaZ hg, ← hlen]; simpa using a3
def DoerN (w0 W : World) (b : Nat) (pv : Value) (M : Mach) (z : Nat) : Prop := ∃ fv bv iv ov q qb, DAt w0 W b pv fv bv iv ov q qb M ∧ ∀ y ∈ fRows q, y.ownBlock ≠ some z
theorem DoerN.doer {w0 W : World} {b : Nat} {pv : Value} {M : Mach} {z : Nat} (h : DoerN w0 W b pv M z) : Doer w0 W b pv M := by
  obtain ⟨fv, bv, iv, ov, q, qb, h, _⟩ := h
  exact ⟨fv, bv, iv, ov, q, qb, h⟩
theorem DoerN.below {w0 W W' : World} {b : Nat} {pv : Value} {M : Mach} {z : Nat} (h : DoerN w0 W b pv M z) (hb : Below W.heap.size W W') : DoerN w0 W' b pv M z := by
  obtain ⟨fv, bv, iv, ov, q, qb, h, hn⟩ := h
  exact ⟨fv, bv, iv, ov, q, qb, h.below hb, hn⟩
theorem mem_fRows {q : List FV} {y : Value} (h : y ∈ fRows q) : ∃ (k : Nat) (c : FV), q[k]? = some c ∧ (y = c.lv ∨ y = c.sv) := by
  obtain ⟨c, hc, hy⟩ := List.mem_flatMap.1 h
  obtain ⟨k, hk⟩ := List.getElem?_of_mem hc
  exact ⟨k, c, hk, by simpa using hy⟩
theorem Doer.fresh {w0 W : World} {b : Nat} {pv : Value} {M : Mach} (h : Doer w0 W b pv M) {z : Nat} (hz : W.heap.size ≤ z) : DoerN w0 W b pv M z := by
  obtain ⟨fv, bv, iv, ov, q, qb, h⟩ := h
  refine ⟨fv, bv, iv, ov, q, qb, h, fun y hy e => ?_⟩
  obtain ⟨k, hk⟩ := List.getElem?_of_mem hy
  have := (h.own.frs.rows.lt hk e).2.1
  omega
theorem DoerN.take {w0 W W' : World} {b : Nat} {pv : Value} {M M' : Mach} {z : Nat} {D : List Frm} {x x' : Frm} (h : DoerN w0 W b pv M z) (hF : M.frames = D ++ [x]) (hx : x.stk ≠ []) (h' : Doer w0 W' b pv M') (hF' : M'.frames = D ++ [x']) (ho : xhrZ b W W') (hc : StkCut b W W') : DoerN w0 W' b pv M' z := by
  obtain ⟨fv, bv, iv, ov, q0, qb, hA, hn⟩ := h
  obtain ⟨fv', bv', iv', ov', q0', qb', hA'⟩ := h'
  obtain ⟨g, cap, q, c, rfl, rfl, H⟩ := hA.open hF
  obtain ⟨g', cap', q', c', rfl, rfl, H'⟩ := hA'.open hF'
  obtain ⟨og, oj⟩ := ho _ _ _ H.fcell
  have hb0 := og.cell H.fcell (fun e => H.gne (by simpa using e))
  have hgg : g' = g := H'.one hb0
  subst hgg
  refine ⟨_, _, _, _, _, _, hA', fun y hy e => ?_⟩
  obtain ⟨k, d', hk, hy⟩ := mem_fRows hy
  have hkl := xaeZ hk
  have hlen : (q' ++ [c']).length = (q ++ [c]).length := by simp [H.len, H'.len]
  obtain ⟨d, hd⟩ := xaiZ (l := q ++ [c]) (k := k) (by omega)
  obtain ⟨-, -, a2, a3⟩ := xejZ _ _ _ hd
  obtain ⟨-, -, b2, b3⟩ := xejZ _ _ _ hk
  obtain ⟨r1, r2⟩ := xekZ _ _ _ hd
  have ca2 := xgbZ H.fr_row _ _ a2
  have ca3 := xgbZ H.fr_row _ _ a3
  have cb2 := xgbZ H'.fr_row _ _ b2
  have cb3 := xgbZ H'.fr_row _ _ b3
  have hql : (q ++ [c]).length = D.length + 1 := by simp [H.len]
  rcases hy with rfl | rfl
  · have := (oj (k * 4 + 2) (by omega)).symm.trans cb2
    rw [ca2] at this
    rw [← Option.some.inj this] at e
    exact hn _ (List.mem_of_getElem? r1) e
  · by_cases hkD : k = D.length
    · have hst := H.stk
      obtain ⟨m, hm⟩ : ∃ m, x.stk.length = m + 1 := ⟨x.stk.length - 1, by have := List.length_pos_iff.2 hx; omega⟩
      rw [hm] at hst
      obtain ⟨gs, caps, hsv⟩ := ownsRow_succ hst
      have h3 := H.c3
      rw [hsv] at h3
      have := hc _ _ _ _ _ _ H.fcell (by rw [Nat.add_sub_cancel]; exact h3)
      rw [Nat.add_sub_cancel] at this
      rw [hkD, this] at cb3
      have e2 : d'.sv = .slice (some ⟨gs, 0, none⟩) (m + 1 - 1) caps := (Option.some.inj cb3).symm
      rw [e2] at e
      refine hn c.sv ?_ ?_
      · have hc1 : (q ++ [c])[D.length]? = some c := by rw [← H.len]; exact xbjZ _ _
        exact List.mem_of_getElem? (xekZ _ _ _ hc1).2
      · rw [hsv]; exact e
    · have := (oj (k * 4 + 3) (by omega)).symm.trans cb3
      rw [ca3] at this
      rw [← Option.some.inj this] at e
      exact hn _ (List.mem_of_getElem? r2) e
theorem DoerN.other {w0 W W' : World} {b : Nat} {pv : Value} {M : Mach} {z : Nat} (h : DoerN w0 W b pv M z) (hg : W.grownBy W' (some z)) (ht : TyRow W (some z) 113) (hz : w0.heap.size ≤ z) : DoerN w0 W' b pv M z := by
  obtain ⟨fv, bv, iv, ov, q, qb, h, hn⟩ := h
  refine ⟨fv, bv, iv, ov, q, qb, ⟨?_, ⟨xarZ h.own.fr hg ht (by decide), ⟨h.own.frs.len, h.own.frs.nums, h.own.frs.rows.same fun k x g hx hgx => ?_⟩, xarZ h.own.bl hg ht (by decide), h.own.rows.keep hg ht (by decide)⟩, h.bel.grown hg h.bel.size (fun k hk => by cases hk; exact hz), h.lo⟩, hn⟩
  · refine (hg.block b h.lt (fun e => ?_)).trans h.cell
    obtain ⟨cs, fz, hh⟩ := ht b e.symm
    rw [h.cell] at hh; simp at hh
  · refine hg.block g (h.own.frs.rows.lt hx hgx).2.1 (fun e => ?_)
    cases e
    exact hn x (List.mem_of_getElem? hx) hgx
theorem DAt.push {w0 W : World} {b : Nat} {pv fv bv iv ov : Value} {q : List FV} {qb : List Value} {M : Mach} (h : DAt w0 W b pv fv bv iv ov q qb M) {W2 : World} {u : Value} {c : FV} {x : Frm} (hg : W.grownBy W2 fv.ownBlock) (hr : W2.ownsRow w0.heap.size 89 4 u (q.length + 1) (fCells (q ++ [c]))) (h1 : c.fn = x.fn) (h2 : c.pc = x.pc) (hl : W2.ownsRow w0.heap.size 113 2 c.lv x.loc.length (valCells x.loc)) (hs : c.sv = .slice none 0 0) (hx : x.stk = []) (hn : ∀ y ∈ fRows q, ∀ z, c.lv.ownBlock = some z → y.ownBlock ≠ some z) : Doer w0 (W2.setCell ⟨b, 0, none⟩ u) b pv { M with frames := M.frames ++ [x] } := by
  have hty : TyRow W fv.ownBlock 89 := xd1Z h.own.fr
  have hcell2 : W2.heap[b]? = _ := (hg.block b h.lt (fun e => by
    obtain ⟨cs, fz, hh⟩ := hty b e.symm
    rw [h.cell] at hh; simp at hh)).trans h.cell
  have hgs := xamZ W2 ⟨b, 0, none⟩ u
  have hty2 : TyRow W2 (some b) 162 := xa5Z hcell2
  have hsc := heap_setCell_same W2 b 0 _ _ u hcell2
  have hfr := h.own.frs.keep hg hty (by decide)
  have hfs : FRows W2 w0.heap.size (q ++ [c]) (M.frames ++ [x]) := by
    refine ⟨by simp [hfr.len], fun k d y hd hy => ?_, ?_⟩
    · rcases xcqZ hd with ⟨a1, a2⟩ | ⟨a1, rfl⟩
      · rcases xcqZ hy with ⟨b1, b2⟩ | ⟨b1, rfl⟩
        · exact hfr.nums k d y a2 b2
        · have := hfr.len; omega
      · rcases xcqZ hy with ⟨b1, b2⟩ | ⟨b1, rfl⟩
        · have := hfr.len; omega
        · exact ⟨h1, h2⟩
    · have e1 : fRows (q ++ [c]) = (fRows q ++ [c.lv]) ++ [c.sv] := by simp [fRows]
      have e2 : fVals (M.frames ++ [x]) = (fVals M.frames ++ [x.loc]) ++ [x.stk] := by simp [fVals]
      rw [e1, e2, hs, hx]
      refine (hfr.rows.snoc hl fun k y g h3 h4 h5 => hn y (List.mem_of_getElem? h3) g h5 h4).snoc (by simpa [valCells] using World.ownsRow_nil W2 w0.heap.size 113 2) fun k y g h3 h4 h5 => by cases h5
  refine ⟨u, bv, iv, ov, q ++ [c], qb, ⟨by simpa using hsc, ⟨?_, hfs.keep hgs hty2 (by decide), xarZ (xarZ h.own.bl hg hty (by decide)) hgs hty2 (by decide), (h.own.rows.keep hg hty (by decide)).keep hgs hty2 (by decide)⟩, (h.bel.grown hg h.bel.size (fun k hk => (h.own.fr.lt k hk).1)).setCell h.lo _, h.lo⟩⟩
  rw [show (q ++ [c]).length = q.length + 1 by simp]
  exact xarZ hr hgs hty2 (by decide)
end Go.Proofs.YtmjjkenblfndgaaGreat


