/- My texts Mo Mq, joined. -/
import Derived.Defers
import Derived.Recover
import Derived.Laws.Pointers
import Derived.Test.YtcadpoknolefpaaGreatU27
/- stride's do: one op (3). -/
namespace Go.Proofs.YtcadpoknolefpaaGreat
open Go.RowKit
set_option linter.unusedSimpArgs false
set_option linter.unusedVariables false
set_option maxRecDepth 100000 in
set_option maxHeartbeats 2000000 in
theorem do3 (w0 : World) (b : Nat) (pv : Value) (M : Mach) (D : List Frm) (x : Frm) (p : List Fn) (k pc : Nat) (f : Fn) (A : Int) (w : World) (h : Doer w0 w b pv M) (hF : M.frames = D ++ [x]) (hD : D.length ≤ 100) (hp : FnsAt w0 pv p) (hk : p[k]? = some f) (hfn : x.fn = (k : Int)) (hpc : x.pc = (pc : Int)) (hpl : f.2.2.2.length ≤ 1000) (ho : f.2.2.2[pc]? = some (3, A)) (P : World → Prop)
    (HC : ∀ W, Doer w0 W b pv { M with frames := D ++ [{ x with pc := (pc : Int) + 1 }] } → Calls Tryz.prog 126 #[.pointer (some ⟨b, 0, none⟩), .agg #[.int .i64 3, .int .i64 A]] W fun e w' => e = .returned (.tuple #[]) ∧ P w') : Calls Tryz.prog 88 #[.pointer (some ⟨b, 0, none⟩)] w fun e w' => e = .returned (.tuple #[]) ∧ P w' := by
  obtain ⟨g, cap, bv, iv, ov, q, c, qb, H⟩ := h.open hF
  have HI := hideP (innermost_raw b g D.length cap w H.fcell hD)
  have HH0 := hideP H
  have HCC := hideP HC
  obtain ⟨pp, qp, hpv, hpm, -⟩ := id hp
  subst hpv
  have HP := hideP hp
  have hpcl := lt_of_at ho
  have hkl := lt_of_at hk
  have HO := hideP ho
  have HK := hideP hk
  have HFN := hideP hfn
  have HPC := hideP hpc
  clear h hF HC H hp ho hk hfn hpc
  go_enter Tryz.func88, Tryz.ntmps88
  go_wp2_with fail
  refine HI.out.mono ?_
  rintro e w2 ⟨rfl, b2⟩
  have H2 := HH0.out.below b2
  have c0 := H2.c0
  have c1 := H2.c1
  rw [HFN.out] at c0
  rw [HPC.out] at c1
  have c6 := H2.at_.cells.2.2.2.2.2.2
  obtain ⟨pp', qp', hpe, -, hpc⟩ := id (HP.out.below H2.at_.bel)
  cases hpe
  obtain ⟨pb, po, f0, f1, f2, f3, hpp, hplt, -, -, -, y3, hfn⟩ := hpc k f HK.out
  subst hpp
  obtain ⟨-, -, -, hops⟩ := hfn
  obtain ⟨p3, q3, he3, -, hoc⟩ := id hops
  subst he3
  obtain ⟨ob, oo, hob, holt, o0, o1⟩ := hoc pc _ HO.out
  subst hob
  have hkli : (k : Int) < (p.length : Int) := by omega
  have hpcli : (pc : Int) < (f.2.2.2.length : Int) := by omega
  have c0a := fun o => cell_old c0 o
  have c1a := fun o => cell_old c1 o
  have c6a := fun o => cell_old c6 o
  have y3a := fun o => cell_old y3 o
  have o0a := fun o => cell_old o0 o
  have o1a := fun o => cell_old o1 o
  clear hpc hoc hops
  go_wp2_with fail
  go_region
  obtain ⟨W3, hW3⟩ : ∃ W3, (w2.alloc (.cells #[.int .i64 3, .int .i64 A] 43)).drew = W3 := ⟨_, rfl⟩
  have b3 : Below w2.heap.size w2 W3 := by rw [← hW3]; exact ((Below.refl _ w2).alloc (Nat.le_refl _) _).drew
  have x3 : W3.heap[w2.heap.size]? = some (.cells #[.int .i64 3, .int .i64 A] 43 (0, 0)) := by rw [← hW3]; exact World.alloc_heap_new w2 _
  rw [hW3]
  clear hW3 c0 c1 c6 y3 o0 o1 c0a c1a c6a y3a o0a o1a
  have H3 := H2.below b3
  have e0 : W3.cell? ⟨w2.heap.size, 0, none⟩ = some (.int .i64 3) := cell_at' x3 0
  have e1 : W3.cell? ⟨w2.heap.size, 1, none⟩ = some (.int .i64 A) := cell_at' x3 1
  have d1 := H3.c1
  rw [HPC.out] at d1
  have z1 : W3.frozen? ⟨g, D.length * 4 + 1, none⟩ = false := by obtain ⟨cur, hh⟩ := H3.gb; exact Lib.frozen_of_heap hh _
  have hne : ¬ w2.heap.size = g := by obtain ⟨cur, hh⟩ := H2.gb; have := heap_lt hh; omega
  have hne' : ¬ g = w2.heap.size := fun e => hne e.symm
  have HS := hideP (H3.setPc ((pc : Int) + 1))
  clear H2 H3 x3
  go_wp2_with (go_at_call 126; refine (HCC.out _ HS.out).mono ?_; rintro e w9 ⟨rfl, h9⟩)
  first | go_end0 | refine bodyPost_ret (results_none rfl _ _ _) rfl ?_
  exact ⟨rfl, h9⟩
set_option maxRecDepth 100000 in
set_option maxHeartbeats 2000000 in
theorem do9 (w0 : World) (b : Nat) (pv : Value) (M : Mach) (D : List Frm) (x : Frm) (p : List Fn) (k pc : Nat) (f : Fn) (A : Int) (w : World) (h : Doer w0 w b pv M) (hF : M.frames = D ++ [x]) (hD : D.length ≤ 100) (hp : FnsAt w0 pv p) (hk : p[k]? = some f) (hfn : x.fn = (k : Int)) (hpc : x.pc = (pc : Int)) (hpl : f.2.2.2.length ≤ 1000) (ho : f.2.2.2[pc]? = some (9, A)) (P : World → Prop)
    (HC : ∀ W, Doer w0 W b pv { M with frames := D ++ [{ x with pc := (pc : Int) + 1 }] } → Calls Tryz.prog 126 #[.pointer (some ⟨b, 0, none⟩), .agg #[.int .i64 9, .int .i64 A]] W fun e w' => e = .returned (.tuple #[]) ∧ P w') : Calls Tryz.prog 88 #[.pointer (some ⟨b, 0, none⟩)] w fun e w' => e = .returned (.tuple #[]) ∧ P w' := by
  obtain ⟨g, cap, bv, iv, ov, q, c, qb, H⟩ := h.open hF
  have HI := hideP (innermost_raw b g D.length cap w H.fcell hD)
  have HH0 := hideP H
  have HCC := hideP HC
  obtain ⟨pp, qp, hpv, hpm, -⟩ := id hp
  subst hpv
  have HP := hideP hp
  have hpcl := lt_of_at ho
  have hkl := lt_of_at hk
  have HO := hideP ho
  have HK := hideP hk
  have HFN := hideP hfn
  have HPC := hideP hpc
  clear h hF HC H hp ho hk hfn hpc
  go_enter Tryz.func88, Tryz.ntmps88
  go_wp2_with fail
  refine HI.out.mono ?_
  rintro e w2 ⟨rfl, b2⟩
  have H2 := HH0.out.below b2
  have c0 := H2.c0
  have c1 := H2.c1
  rw [HFN.out] at c0
  rw [HPC.out] at c1
  have c6 := H2.at_.cells.2.2.2.2.2.2
  obtain ⟨pp', qp', hpe, -, hpc⟩ := id (HP.out.below H2.at_.bel)
  cases hpe
  obtain ⟨pb, po, f0, f1, f2, f3, hpp, hplt, -, -, -, y3, hfn⟩ := hpc k f HK.out
  subst hpp
  obtain ⟨-, -, -, hops⟩ := hfn
  obtain ⟨p3, q3, he3, -, hoc⟩ := id hops
  subst he3
  obtain ⟨ob, oo, hob, holt, o0, o1⟩ := hoc pc _ HO.out
  subst hob
  have hkli : (k : Int) < (p.length : Int) := by omega
  have hpcli : (pc : Int) < (f.2.2.2.length : Int) := by omega
  have c0a := fun o => cell_old c0 o
  have c1a := fun o => cell_old c1 o
  have c6a := fun o => cell_old c6 o
  have y3a := fun o => cell_old y3 o
  have o0a := fun o => cell_old o0 o
  have o1a := fun o => cell_old o1 o
  clear hpc hoc hops
  go_wp2_with fail
  go_region
  obtain ⟨W3, hW3⟩ : ∃ W3, (w2.alloc (.cells #[.int .i64 9, .int .i64 A] 43)).drew = W3 := ⟨_, rfl⟩
  have b3 : Below w2.heap.size w2 W3 := by rw [← hW3]; exact ((Below.refl _ w2).alloc (Nat.le_refl _) _).drew
  have x3 : W3.heap[w2.heap.size]? = some (.cells #[.int .i64 9, .int .i64 A] 43 (0, 0)) := by rw [← hW3]; exact World.alloc_heap_new w2 _
  rw [hW3]
  clear hW3 c0 c1 c6 y3 o0 o1 c0a c1a c6a y3a o0a o1a
  have H3 := H2.below b3
  have e0 : W3.cell? ⟨w2.heap.size, 0, none⟩ = some (.int .i64 9) := cell_at' x3 0
  have e1 : W3.cell? ⟨w2.heap.size, 1, none⟩ = some (.int .i64 A) := cell_at' x3 1
  have d1 := H3.c1
  rw [HPC.out] at d1
  have z1 : W3.frozen? ⟨g, D.length * 4 + 1, none⟩ = false := by obtain ⟨cur, hh⟩ := H3.gb; exact Lib.frozen_of_heap hh _
  have hne : ¬ w2.heap.size = g := by obtain ⟨cur, hh⟩ := H2.gb; have := heap_lt hh; omega
  have hne' : ¬ g = w2.heap.size := fun e => hne e.symm
  have HS := hideP (H3.setPc ((pc : Int) + 1))
  clear H2 H3 x3
  go_wp2_with (go_at_call 126; refine (HCC.out _ HS.out).mono ?_; rintro e w9 ⟨rfl, h9⟩)
  first | go_end0 | refine bodyPost_ret (results_none rfl _ _ _) rfl ?_
  exact ⟨rfl, h9⟩
set_option maxRecDepth 100000 in
set_option maxHeartbeats 2000000 in
theorem do6 (w0 : World) (b : Nat) (pv : Value) (M : Mach) (D : List Frm) (x : Frm) (p : List Fn) (k pc : Nat) (f : Fn) (A : Int) (w : World) (h : Doer w0 w b pv M) (hF : M.frames = D ++ [x]) (hD : D.length ≤ 100) (hp : FnsAt w0 pv p) (hk : p[k]? = some f) (hfn : x.fn = (k : Int)) (hpc : x.pc = (pc : Int)) (hpl : f.2.2.2.length ≤ 1000) (ho : f.2.2.2[pc]? = some (6, A)) (P : World → Prop)
    (HC : ∀ W, Doer w0 W b pv { M with frames := D ++ [{ x with pc := (pc : Int) + 1 }] } → Calls Tryz.prog 127 #[.pointer (some ⟨b, 0, none⟩), .int .i64 6] W fun e w' => e = .returned (.tuple #[]) ∧ P w') : Calls Tryz.prog 88 #[.pointer (some ⟨b, 0, none⟩)] w fun e w' => e = .returned (.tuple #[]) ∧ P w' := by
  obtain ⟨g, cap, bv, iv, ov, q, c, qb, H⟩ := h.open hF
  have HI := hideP (innermost_raw b g D.length cap w H.fcell hD)
  have HH0 := hideP H
  have HCC := hideP HC
  obtain ⟨pp, qp, hpv, hpm, -⟩ := id hp
  subst hpv
  have HP := hideP hp
  have hpcl := lt_of_at ho
  have hkl := lt_of_at hk
  have HO := hideP ho
  have HK := hideP hk
  have HFN := hideP hfn
  have HPC := hideP hpc
  clear h hF HC H hp ho hk hfn hpc
  go_enter Tryz.func88, Tryz.ntmps88
  go_wp2_with fail
  refine HI.out.mono ?_
  rintro e w2 ⟨rfl, b2⟩
  have H2 := HH0.out.below b2
  have c0 := H2.c0
  have c1 := H2.c1
  rw [HFN.out] at c0
  rw [HPC.out] at c1
  have c6 := H2.at_.cells.2.2.2.2.2.2
  obtain ⟨pp', qp', hpe, -, hpc⟩ := id (HP.out.below H2.at_.bel)
  cases hpe
  obtain ⟨pb, po, f0, f1, f2, f3, hpp, hplt, -, -, -, y3, hfn⟩ := hpc k f HK.out
  subst hpp
  obtain ⟨-, -, -, hops⟩ := hfn
  obtain ⟨p3, q3, he3, -, hoc⟩ := id hops
  subst he3
  obtain ⟨ob, oo, hob, holt, o0, o1⟩ := hoc pc _ HO.out
  subst hob
  have hkli : (k : Int) < (p.length : Int) := by omega
  have hpcli : (pc : Int) < (f.2.2.2.length : Int) := by omega
  have c0a := fun o => cell_old c0 o
  have c1a := fun o => cell_old c1 o
  have c6a := fun o => cell_old c6 o
  have y3a := fun o => cell_old y3 o
  have o0a := fun o => cell_old o0 o
  have o1a := fun o => cell_old o1 o
  clear hpc hoc hops
  go_wp2_with fail
  go_region
  obtain ⟨W3, hW3⟩ : ∃ W3, (w2.alloc (.cells #[.int .i64 6, .int .i64 A] 43)).drew = W3 := ⟨_, rfl⟩
  have b3 : Below w2.heap.size w2 W3 := by rw [← hW3]; exact ((Below.refl _ w2).alloc (Nat.le_refl _) _).drew
  have x3 : W3.heap[w2.heap.size]? = some (.cells #[.int .i64 6, .int .i64 A] 43 (0, 0)) := by rw [← hW3]; exact World.alloc_heap_new w2 _
  rw [hW3]
  clear hW3 c0 c1 c6 y3 o0 o1 c0a c1a c6a y3a o0a o1a
  have H3 := H2.below b3
  have e0 : W3.cell? ⟨w2.heap.size, 0, none⟩ = some (.int .i64 6) := cell_at' x3 0
  have e1 : W3.cell? ⟨w2.heap.size, 1, none⟩ = some (.int .i64 A) := cell_at' x3 1
  have d1 := H3.c1
  rw [HPC.out] at d1
  have z1 : W3.frozen? ⟨g, D.length * 4 + 1, none⟩ = false := by obtain ⟨cur, hh⟩ := H3.gb; exact Lib.frozen_of_heap hh _
  have hne : ¬ w2.heap.size = g := by obtain ⟨cur, hh⟩ := H2.gb; have := heap_lt hh; omega
  have hne' : ¬ g = w2.heap.size := fun e => hne e.symm
  have HS := hideP (H3.setPc ((pc : Int) + 1))
  clear H2 H3 x3
  go_wp2_with (go_at_call 127; refine (HCC.out _ HS.out).mono ?_; rintro e w9 ⟨rfl, h9⟩)
  first | go_end0 | refine bodyPost_ret (results_none rfl _ _ _) rfl ?_
  exact ⟨rfl, h9⟩
set_option maxRecDepth 100000 in
set_option maxHeartbeats 2000000 in
theorem do11 (w0 : World) (b : Nat) (pv : Value) (M : Mach) (D : List Frm) (x : Frm) (p : List Fn) (k pc : Nat) (f : Fn) (A : Int) (w : World) (h : Doer w0 w b pv M) (hF : M.frames = D ++ [x]) (hD : D.length ≤ 100) (hp : FnsAt w0 pv p) (hk : p[k]? = some f) (hfn : x.fn = (k : Int)) (hpc : x.pc = (pc : Int)) (hpl : f.2.2.2.length ≤ 1000) (ho : f.2.2.2[pc]? = some (11, A)) (P : World → Prop)
    (HC : ∀ W, Doer w0 W b pv { M with frames := D ++ [{ x with pc := (pc : Int) + 1 }] } → Calls Tryz.prog 128 #[.pointer (some ⟨b, 0, none⟩), .agg #[.int .i64 11, .int .i64 A]] W fun e w' => e = .returned (.tuple #[]) ∧ P w') : Calls Tryz.prog 88 #[.pointer (some ⟨b, 0, none⟩)] w fun e w' => e = .returned (.tuple #[]) ∧ P w' := by
  obtain ⟨g, cap, bv, iv, ov, q, c, qb, H⟩ := h.open hF
  have HI := hideP (innermost_raw b g D.length cap w H.fcell hD)
  have HH0 := hideP H
  have HCC := hideP HC
  obtain ⟨pp, qp, hpv, hpm, -⟩ := id hp
  subst hpv
  have HP := hideP hp
  have hpcl := lt_of_at ho
  have hkl := lt_of_at hk
  have HO := hideP ho
  have HK := hideP hk
  have HFN := hideP hfn
  have HPC := hideP hpc
  clear h hF HC H hp ho hk hfn hpc
  go_enter Tryz.func88, Tryz.ntmps88
  go_wp2_with fail
  refine HI.out.mono ?_
  rintro e w2 ⟨rfl, b2⟩
  have H2 := HH0.out.below b2
  have c0 := H2.c0
  have c1 := H2.c1
  rw [HFN.out] at c0
  rw [HPC.out] at c1
  have c6 := H2.at_.cells.2.2.2.2.2.2
  obtain ⟨pp', qp', hpe, -, hpc⟩ := id (HP.out.below H2.at_.bel)
  cases hpe
  obtain ⟨pb, po, f0, f1, f2, f3, hpp, hplt, -, -, -, y3, hfn⟩ := hpc k f HK.out
  subst hpp
  obtain ⟨-, -, -, hops⟩ := hfn
  obtain ⟨p3, q3, he3, -, hoc⟩ := id hops
  subst he3
  obtain ⟨ob, oo, hob, holt, o0, o1⟩ := hoc pc _ HO.out
  subst hob
  have hkli : (k : Int) < (p.length : Int) := by omega
  have hpcli : (pc : Int) < (f.2.2.2.length : Int) := by omega
  have c0a := fun o => cell_old c0 o
  have c1a := fun o => cell_old c1 o
  have c6a := fun o => cell_old c6 o
  have y3a := fun o => cell_old y3 o
  have o0a := fun o => cell_old o0 o
  have o1a := fun o => cell_old o1 o
  clear hpc hoc hops
  go_wp2_with fail
  go_region
  obtain ⟨W3, hW3⟩ : ∃ W3, (w2.alloc (.cells #[.int .i64 11, .int .i64 A] 43)).drew = W3 := ⟨_, rfl⟩
  have b3 : Below w2.heap.size w2 W3 := by rw [← hW3]; exact ((Below.refl _ w2).alloc (Nat.le_refl _) _).drew
  have x3 : W3.heap[w2.heap.size]? = some (.cells #[.int .i64 11, .int .i64 A] 43 (0, 0)) := by rw [← hW3]; exact World.alloc_heap_new w2 _
  rw [hW3]
  clear hW3 c0 c1 c6 y3 o0 o1 c0a c1a c6a y3a o0a o1a
  have H3 := H2.below b3
  have e0 : W3.cell? ⟨w2.heap.size, 0, none⟩ = some (.int .i64 11) := cell_at' x3 0
  have e1 : W3.cell? ⟨w2.heap.size, 1, none⟩ = some (.int .i64 A) := cell_at' x3 1
  have d1 := H3.c1
  rw [HPC.out] at d1
  have z1 : W3.frozen? ⟨g, D.length * 4 + 1, none⟩ = false := by obtain ⟨cur, hh⟩ := H3.gb; exact Lib.frozen_of_heap hh _
  have hne : ¬ w2.heap.size = g := by obtain ⟨cur, hh⟩ := H2.gb; have := heap_lt hh; omega
  have hne' : ¬ g = w2.heap.size := fun e => hne e.symm
  have HS := hideP (H3.setPc ((pc : Int) + 1))
  clear H2 H3 x3
  go_wp2_with (go_at_call 128; refine (HCC.out _ HS.out).mono ?_; rintro e w9 ⟨rfl, h9⟩)
  first | go_end0 | refine bodyPost_ret (results_none rfl _ _ _) rfl ?_
  exact ⟨rfl, h9⟩
set_option maxRecDepth 100000 in
set_option maxHeartbeats 2000000 in
theorem do14 (w0 : World) (b : Nat) (pv : Value) (M : Mach) (D : List Frm) (x : Frm) (p : List Fn) (k pc : Nat) (f : Fn) (A : Int) (w : World) (h : Doer w0 w b pv M) (hF : M.frames = D ++ [x]) (hD : D.length ≤ 100) (hp : FnsAt w0 pv p) (hk : p[k]? = some f) (hfn : x.fn = (k : Int)) (hpc : x.pc = (pc : Int)) (hpl : f.2.2.2.length ≤ 1000) (ho : f.2.2.2[pc]? = some (14, A)) (P : World → Prop)
    (HC : ∀ W, Doer w0 W b pv { M with frames := D ++ [{ x with pc := (pc : Int) + 1 }] } → Calls Tryz.prog 129 #[.pointer (some ⟨b, 0, none⟩), .int .i64 14] W fun e w' => e = .returned (.tuple #[]) ∧ P w') : Calls Tryz.prog 88 #[.pointer (some ⟨b, 0, none⟩)] w fun e w' => e = .returned (.tuple #[]) ∧ P w' := by
  obtain ⟨g, cap, bv, iv, ov, q, c, qb, H⟩ := h.open hF
  have HI := hideP (innermost_raw b g D.length cap w H.fcell hD)
  have HH0 := hideP H
  have HCC := hideP HC
  obtain ⟨pp, qp, hpv, hpm, -⟩ := id hp
  subst hpv
  have HP := hideP hp
  have hpcl := lt_of_at ho
  have hkl := lt_of_at hk
  have HO := hideP ho
  have HK := hideP hk
  have HFN := hideP hfn
  have HPC := hideP hpc
  clear h hF HC H hp ho hk hfn hpc
  go_enter Tryz.func88, Tryz.ntmps88
  go_wp2_with fail
  refine HI.out.mono ?_
  rintro e w2 ⟨rfl, b2⟩
  have H2 := HH0.out.below b2
  have c0 := H2.c0
  have c1 := H2.c1
  rw [HFN.out] at c0
  rw [HPC.out] at c1
  have c6 := H2.at_.cells.2.2.2.2.2.2
  obtain ⟨pp', qp', hpe, -, hpc⟩ := id (HP.out.below H2.at_.bel)
  cases hpe
  obtain ⟨pb, po, f0, f1, f2, f3, hpp, hplt, -, -, -, y3, hfn⟩ := hpc k f HK.out
  subst hpp
  obtain ⟨-, -, -, hops⟩ := hfn
  obtain ⟨p3, q3, he3, -, hoc⟩ := id hops
  subst he3
  obtain ⟨ob, oo, hob, holt, o0, o1⟩ := hoc pc _ HO.out
  subst hob
  have hkli : (k : Int) < (p.length : Int) := by omega
  have hpcli : (pc : Int) < (f.2.2.2.length : Int) := by omega
  have c0a := fun o => cell_old c0 o
  have c1a := fun o => cell_old c1 o
  have c6a := fun o => cell_old c6 o
  have y3a := fun o => cell_old y3 o
  have o0a := fun o => cell_old o0 o
  have o1a := fun o => cell_old o1 o
  clear hpc hoc hops
  go_wp2_with fail
  go_region
  obtain ⟨W3, hW3⟩ : ∃ W3, (w2.alloc (.cells #[.int .i64 14, .int .i64 A] 43)).drew = W3 := ⟨_, rfl⟩
  have b3 : Below w2.heap.size w2 W3 := by rw [← hW3]; exact ((Below.refl _ w2).alloc (Nat.le_refl _) _).drew
  have x3 : W3.heap[w2.heap.size]? = some (.cells #[.int .i64 14, .int .i64 A] 43 (0, 0)) := by rw [← hW3]; exact World.alloc_heap_new w2 _
  rw [hW3]
  clear hW3 c0 c1 c6 y3 o0 o1 c0a c1a c6a y3a o0a o1a
  have H3 := H2.below b3
  have e0 : W3.cell? ⟨w2.heap.size, 0, none⟩ = some (.int .i64 14) := cell_at' x3 0
  have e1 : W3.cell? ⟨w2.heap.size, 1, none⟩ = some (.int .i64 A) := cell_at' x3 1
  have d1 := H3.c1
  rw [HPC.out] at d1
  have z1 : W3.frozen? ⟨g, D.length * 4 + 1, none⟩ = false := by obtain ⟨cur, hh⟩ := H3.gb; exact Lib.frozen_of_heap hh _
  have hne : ¬ w2.heap.size = g := by obtain ⟨cur, hh⟩ := H2.gb; have := heap_lt hh; omega
  have hne' : ¬ g = w2.heap.size := fun e => hne e.symm
  have HS := hideP (H3.setPc ((pc : Int) + 1))
  clear H2 H3 x3
  go_wp2_with (go_at_call 129; refine (HCC.out _ HS.out).mono ?_; rintro e w9 ⟨rfl, h9⟩)
  first | go_end0 | refine bodyPost_ret (results_none rfl _ _ _) rfl ?_
  exact ⟨rfl, h9⟩
set_option maxRecDepth 100000 in
set_option maxHeartbeats 2000000 in
theorem do17 (w0 : World) (b : Nat) (pv : Value) (M : Mach) (D : List Frm) (x : Frm) (p : List Fn) (k pc : Nat) (f : Fn) (A : Int) (w : World) (h : Doer w0 w b pv M) (hF : M.frames = D ++ [x]) (hD : D.length ≤ 100) (hp : FnsAt w0 pv p) (hk : p[k]? = some f) (hfn : x.fn = (k : Int)) (hpc : x.pc = (pc : Int)) (hpl : f.2.2.2.length ≤ 1000) (ho : f.2.2.2[pc]? = some (17, A)) (P : World → Prop)
    (HC : ∀ W, Doer w0 W b pv { M with frames := D ++ [{ x with pc := (pc : Int) + 1 }] } → Calls Tryz.prog 129 #[.pointer (some ⟨b, 0, none⟩), .int .i64 17] W fun e w' => e = .returned (.tuple #[]) ∧ P w') : Calls Tryz.prog 88 #[.pointer (some ⟨b, 0, none⟩)] w fun e w' => e = .returned (.tuple #[]) ∧ P w' := by
  obtain ⟨g, cap, bv, iv, ov, q, c, qb, H⟩ := h.open hF
  have HI := hideP (innermost_raw b g D.length cap w H.fcell hD)
  have HH0 := hideP H
  have HCC := hideP HC
  obtain ⟨pp, qp, hpv, hpm, -⟩ := id hp
  subst hpv
  have HP := hideP hp
  have hpcl := lt_of_at ho
  have hkl := lt_of_at hk
  have HO := hideP ho
  have HK := hideP hk
  have HFN := hideP hfn
  have HPC := hideP hpc
  clear h hF HC H hp ho hk hfn hpc
  go_enter Tryz.func88, Tryz.ntmps88
  go_wp2_with fail
  refine HI.out.mono ?_
  rintro e w2 ⟨rfl, b2⟩
  have H2 := HH0.out.below b2
  have c0 := H2.c0
  have c1 := H2.c1
  rw [HFN.out] at c0
  rw [HPC.out] at c1
  have c6 := H2.at_.cells.2.2.2.2.2.2
  obtain ⟨pp', qp', hpe, -, hpc⟩ := id (HP.out.below H2.at_.bel)
  cases hpe
  obtain ⟨pb, po, f0, f1, f2, f3, hpp, hplt, -, -, -, y3, hfn⟩ := hpc k f HK.out
  subst hpp
  obtain ⟨-, -, -, hops⟩ := hfn
  obtain ⟨p3, q3, he3, -, hoc⟩ := id hops
  subst he3
  obtain ⟨ob, oo, hob, holt, o0, o1⟩ := hoc pc _ HO.out
  subst hob
  have hkli : (k : Int) < (p.length : Int) := by omega
  have hpcli : (pc : Int) < (f.2.2.2.length : Int) := by omega
  have c0a := fun o => cell_old c0 o
  have c1a := fun o => cell_old c1 o
  have c6a := fun o => cell_old c6 o
  have y3a := fun o => cell_old y3 o
  have o0a := fun o => cell_old o0 o
  have o1a := fun o => cell_old o1 o
  clear hpc hoc hops
  go_wp2_with fail
  go_region
  obtain ⟨W3, hW3⟩ : ∃ W3, (w2.alloc (.cells #[.int .i64 17, .int .i64 A] 43)).drew = W3 := ⟨_, rfl⟩
  have b3 : Below w2.heap.size w2 W3 := by rw [← hW3]; exact ((Below.refl _ w2).alloc (Nat.le_refl _) _).drew
  have x3 : W3.heap[w2.heap.size]? = some (.cells #[.int .i64 17, .int .i64 A] 43 (0, 0)) := by rw [← hW3]; exact World.alloc_heap_new w2 _
  rw [hW3]
  clear hW3 c0 c1 c6 y3 o0 o1 c0a c1a c6a y3a o0a o1a
  have H3 := H2.below b3
  have e0 : W3.cell? ⟨w2.heap.size, 0, none⟩ = some (.int .i64 17) := cell_at' x3 0
  have e1 : W3.cell? ⟨w2.heap.size, 1, none⟩ = some (.int .i64 A) := cell_at' x3 1
  have d1 := H3.c1
  rw [HPC.out] at d1
  have z1 : W3.frozen? ⟨g, D.length * 4 + 1, none⟩ = false := by obtain ⟨cur, hh⟩ := H3.gb; exact Lib.frozen_of_heap hh _
  have hne : ¬ w2.heap.size = g := by obtain ⟨cur, hh⟩ := H2.gb; have := heap_lt hh; omega
  have hne' : ¬ g = w2.heap.size := fun e => hne e.symm
  have HS := hideP (H3.setPc ((pc : Int) + 1))
  clear H2 H3 x3
  go_wp2_with (go_at_call 129; refine (HCC.out _ HS.out).mono ?_; rintro e w9 ⟨rfl, h9⟩)
  first | go_end0 | refine bodyPost_ret (results_none rfl _ _ _) rfl ?_
  exact ⟨rfl, h9⟩
set_option maxRecDepth 100000 in
set_option maxHeartbeats 2000000 in
theorem do21 (w0 : World) (b : Nat) (pv : Value) (M : Mach) (D : List Frm) (x : Frm) (p : List Fn) (k pc : Nat) (f : Fn) (A : Int) (w : World) (h : Doer w0 w b pv M) (hF : M.frames = D ++ [x]) (hD : D.length ≤ 100) (hp : FnsAt w0 pv p) (hk : p[k]? = some f) (hfn : x.fn = (k : Int)) (hpc : x.pc = (pc : Int)) (hpl : f.2.2.2.length ≤ 1000) (ho : f.2.2.2[pc]? = some (21, A)) (hin : M.inp ≠ []) (P : World → Prop)
    (HC : ∀ W, Doer w0 W b pv { M with frames := D ++ [{ x with pc := (pc : Int) + 1 }] } → Calls Tryz.prog 131 #[.pointer (some ⟨b, 0, none⟩)] W fun e w' => e = .returned (.tuple #[]) ∧ P w') : Calls Tryz.prog 88 #[.pointer (some ⟨b, 0, none⟩)] w fun e w' => e = .returned (.tuple #[]) ∧ P w' := by
  obtain ⟨g, cap, bv, iv, ov, q, c, qb, H⟩ := h.open hF
  have HI := hideP (innermost_raw b g D.length cap w H.fcell hD)
  have hin' : ((M.inp.length : Int) == 0) = false := by
    have := List.length_pos_iff.2 hin
    simp; omega
  obtain ⟨pin, cin, hinv⟩ := row_shp H.at_.own.inp
  have HH0 := hideP H
  have HCC := hideP HC
  obtain ⟨pp, qp, hpv, hpm, -⟩ := id hp
  subst hpv
  have HP := hideP hp
  have hpcl := lt_of_at ho
  have hkl := lt_of_at hk
  have HO := hideP ho
  have HK := hideP hk
  have HFN := hideP hfn
  have HPC := hideP hpc
  clear h hF HC H hp ho hk hfn hpc
  go_enter Tryz.func88, Tryz.ntmps88
  go_wp2_with fail
  refine HI.out.mono ?_
  rintro e w2 ⟨rfl, b2⟩
  have H2 := HH0.out.below b2
  have c0 := H2.c0
  have c1 := H2.c1
  rw [HFN.out] at c0
  rw [HPC.out] at c1
  have c6 := H2.at_.cells.2.2.2.2.2.2
  obtain ⟨pp', qp', hpe, -, hpc⟩ := id (HP.out.below H2.at_.bel)
  cases hpe
  obtain ⟨pb, po, f0, f1, f2, f3, hpp, hplt, -, -, -, y3, hfn⟩ := hpc k f HK.out
  subst hpp
  obtain ⟨-, -, -, hops⟩ := hfn
  obtain ⟨p3, q3, he3, -, hoc⟩ := id hops
  subst he3
  obtain ⟨ob, oo, hob, holt, o0, o1⟩ := hoc pc _ HO.out
  subst hob
  have hkli : (k : Int) < (p.length : Int) := by omega
  have hpcli : (pc : Int) < (f.2.2.2.length : Int) := by omega
  have c0a := fun o => cell_old c0 o
  have c1a := fun o => cell_old c1 o
  have c6a := fun o => cell_old c6 o
  have y3a := fun o => cell_old y3 o
  have o0a := fun o => cell_old o0 o
  have o1a := fun o => cell_old o1 o
  clear hpc hoc hops
  go_wp2_with fail
  go_region
  obtain ⟨W3, hW3⟩ : ∃ W3, (w2.alloc (.cells #[.int .i64 21, .int .i64 A] 43)).drew = W3 := ⟨_, rfl⟩
  have b3 : Below w2.heap.size w2 W3 := by rw [← hW3]; exact ((Below.refl _ w2).alloc (Nat.le_refl _) _).drew
  have x3 : W3.heap[w2.heap.size]? = some (.cells #[.int .i64 21, .int .i64 A] 43 (0, 0)) := by rw [← hW3]; exact World.alloc_heap_new w2 _
  rw [hW3]
  clear hW3 c0 c1 c6 y3 o0 o1 c0a c1a c6a y3a o0a o1a
  have H3 := H2.below b3
  have e0 : W3.cell? ⟨w2.heap.size, 0, none⟩ = some (.int .i64 21) := cell_at' x3 0
  have e1 : W3.cell? ⟨w2.heap.size, 1, none⟩ = some (.int .i64 A) := cell_at' x3 1
  have d1 := H3.c1
  rw [HPC.out] at d1
  have z1 : W3.frozen? ⟨g, D.length * 4 + 1, none⟩ = false := by obtain ⟨cur, hh⟩ := H3.gb; exact Lib.frozen_of_heap hh _
  have hne : ¬ w2.heap.size = g := by obtain ⟨cur, hh⟩ := H2.gb; have := heap_lt hh; omega
  have hne' : ¬ g = w2.heap.size := fun e => hne e.symm
  have i2 := H3.at_.cells.2.2.1
  rw [hinv] at i2
  have HS := hideP (H3.setPc ((pc : Int) + 1))
  clear H2 H3 x3
  go_wp2_with (go_at_call 131; refine (HCC.out _ HS.out).mono ?_; rintro e w9 ⟨rfl, h9⟩)
  first | go_end0 | refine bodyPost_ret (results_none rfl _ _ _) rfl ?_
  exact ⟨rfl, h9⟩
set_option maxRecDepth 100000 in
set_option maxHeartbeats 2000000 in
theorem do15p (w0 : World) (b : Nat) (pv : Value) (M : Mach) (D : List Frm) (x : Frm) (p : List Fn) (k pc : Nat) (f : Fn) (A : Int) (w : World) (h : Doer w0 w b pv M) (hF : M.frames = D ++ [x]) (hD : D.length ≤ 100) (hp : FnsAt w0 pv p) (hk : p[k]? = some f) (hfn : x.fn = (k : Int)) (hpc : x.pc = (pc : Int)) (hpl : f.2.2.2.length ≤ 1000) (ho : f.2.2.2[pc]? = some (15, A)) (why : Int) (P : World → Prop)
    (HC : ∀ W, Doer w0 W b pv { M with frames := D ++ [{ x with pc := (pc : Int) + 1 }] } → Calls Tryz.prog 129 #[.pointer (some ⟨b, 0, none⟩), .int .i64 15] W fun e w' => e = .panicked [{ v := .iface 117 (.int .i64 why), recovered := false }] ∧ P w') : Calls Tryz.prog 88 #[.pointer (some ⟨b, 0, none⟩)] w fun e w' => e = .panicked [{ v := .iface 117 (.int .i64 why), recovered := false }] ∧ P w' := by
  obtain ⟨g, cap, bv, iv, ov, q, c, qb, H⟩ := h.open hF
  have HI := hideP (innermost_raw b g D.length cap w H.fcell hD)
  have HH0 := hideP H
  have HCC := hideP HC
  obtain ⟨pp, qp, hpv, hpm, -⟩ := id hp
  subst hpv
  have HP := hideP hp
  have hpcl := lt_of_at ho
  have hkl := lt_of_at hk
  have HO := hideP ho
  have HK := hideP hk
  have HFN := hideP hfn
  have HPC := hideP hpc
  clear h hF HC H hp ho hk hfn hpc
  go_enter Tryz.func88, Tryz.ntmps88
  go_wp2_with fail
  refine HI.out.mono ?_
  rintro e w2 ⟨rfl, b2⟩
  have H2 := HH0.out.below b2
  have c0 := H2.c0
  have c1 := H2.c1
  rw [HFN.out] at c0
  rw [HPC.out] at c1
  have c6 := H2.at_.cells.2.2.2.2.2.2
  obtain ⟨pp', qp', hpe, -, hpc⟩ := id (HP.out.below H2.at_.bel)
  cases hpe
  obtain ⟨pb, po, f0, f1, f2, f3, hpp, hplt, -, -, -, y3, hfn⟩ := hpc k f HK.out
  subst hpp
  obtain ⟨-, -, -, hops⟩ := hfn
  obtain ⟨p3, q3, he3, -, hoc⟩ := id hops
  subst he3
  obtain ⟨ob, oo, hob, holt, o0, o1⟩ := hoc pc _ HO.out
  subst hob
  have hkli : (k : Int) < (p.length : Int) := by omega
  have hpcli : (pc : Int) < (f.2.2.2.length : Int) := by omega
  have c0a := fun o => cell_old c0 o
  have c1a := fun o => cell_old c1 o
  have c6a := fun o => cell_old c6 o
  have y3a := fun o => cell_old y3 o
  have o0a := fun o => cell_old o0 o
  have o1a := fun o => cell_old o1 o
  clear hpc hoc hops
  go_wp2_with fail
  go_region
  obtain ⟨W3, hW3⟩ : ∃ W3, (w2.alloc (.cells #[.int .i64 15, .int .i64 A] 43)).drew = W3 := ⟨_, rfl⟩
  have b3 : Below w2.heap.size w2 W3 := by rw [← hW3]; exact ((Below.refl _ w2).alloc (Nat.le_refl _) _).drew
  have x3 : W3.heap[w2.heap.size]? = some (.cells #[.int .i64 15, .int .i64 A] 43 (0, 0)) := by rw [← hW3]; exact World.alloc_heap_new w2 _
  rw [hW3]
  clear hW3 c0 c1 c6 y3 o0 o1 c0a c1a c6a y3a o0a o1a
  have H3 := H2.below b3
  have e0 : W3.cell? ⟨w2.heap.size, 0, none⟩ = some (.int .i64 15) := cell_at' x3 0
  have e1 : W3.cell? ⟨w2.heap.size, 1, none⟩ = some (.int .i64 A) := cell_at' x3 1
  have d1 := H3.c1
  rw [HPC.out] at d1
  have z1 : W3.frozen? ⟨g, D.length * 4 + 1, none⟩ = false := by obtain ⟨cur, hh⟩ := H3.gb; exact Lib.frozen_of_heap hh _
  have hne : ¬ w2.heap.size = g := by obtain ⟨cur, hh⟩ := H2.gb; have := heap_lt hh; omega
  have hne' : ¬ g = w2.heap.size := fun e => hne e.symm
  have HS := hideP (H3.setPc ((pc : Int) + 1))
  clear H2 H3 x3
  go_wp2_with (go_at_call 129; refine (HCC.out _ HS.out).mono ?_; rintro e w9 ⟨rfl, h9⟩)
  exact ⟨rfl, rfl, h9⟩
set_option maxRecDepth 100000 in
set_option maxHeartbeats 2000000 in
theorem do20p (w0 : World) (b : Nat) (pv : Value) (M : Mach) (D : List Frm) (x : Frm) (p : List Fn) (k pc : Nat) (f : Fn) (A : Int) (w : World) (h : Doer w0 w b pv M) (hF : M.frames = D ++ [x]) (hD : D.length ≤ 100) (hp : FnsAt w0 pv p) (hk : p[k]? = some f) (hfn : x.fn = (k : Int)) (hpc : x.pc = (pc : Int)) (hpl : f.2.2.2.length ≤ 1000) (ho : f.2.2.2[pc]? = some (20, A)) (why : Int) (P : World → Prop)
    (HC : ∀ W, Doer w0 W b pv { M with frames := D ++ [{ x with pc := (pc : Int) + 1 }] } → Calls Tryz.prog 130 #[.pointer (some ⟨b, 0, none⟩)] W fun e w' => e = .panicked [{ v := .iface 117 (.int .i64 why), recovered := false }] ∧ P w') : Calls Tryz.prog 88 #[.pointer (some ⟨b, 0, none⟩)] w fun e w' => e = .panicked [{ v := .iface 117 (.int .i64 why), recovered := false }] ∧ P w' := by
  obtain ⟨g, cap, bv, iv, ov, q, c, qb, H⟩ := h.open hF
  have HI := hideP (innermost_raw b g D.length cap w H.fcell hD)
  have HH0 := hideP H
  have HCC := hideP HC
  obtain ⟨pp, qp, hpv, hpm, -⟩ := id hp
  subst hpv
  have HP := hideP hp
  have hpcl := lt_of_at ho
  have hkl := lt_of_at hk
  have HO := hideP ho
  have HK := hideP hk
  have HFN := hideP hfn
  have HPC := hideP hpc
  clear h hF HC H hp ho hk hfn hpc
  go_enter Tryz.func88, Tryz.ntmps88
  go_wp2_with fail
  refine HI.out.mono ?_
  rintro e w2 ⟨rfl, b2⟩
  have H2 := HH0.out.below b2
  have c0 := H2.c0
  have c1 := H2.c1
  rw [HFN.out] at c0
  rw [HPC.out] at c1
  have c6 := H2.at_.cells.2.2.2.2.2.2
  obtain ⟨pp', qp', hpe, -, hpc⟩ := id (HP.out.below H2.at_.bel)
  cases hpe
  obtain ⟨pb, po, f0, f1, f2, f3, hpp, hplt, -, -, -, y3, hfn⟩ := hpc k f HK.out
  subst hpp
  obtain ⟨-, -, -, hops⟩ := hfn
  obtain ⟨p3, q3, he3, -, hoc⟩ := id hops
  subst he3
  obtain ⟨ob, oo, hob, holt, o0, o1⟩ := hoc pc _ HO.out
  subst hob
  have hkli : (k : Int) < (p.length : Int) := by omega
  have hpcli : (pc : Int) < (f.2.2.2.length : Int) := by omega
  have c0a := fun o => cell_old c0 o
  have c1a := fun o => cell_old c1 o
  have c6a := fun o => cell_old c6 o
  have y3a := fun o => cell_old y3 o
  have o0a := fun o => cell_old o0 o
  have o1a := fun o => cell_old o1 o
  clear hpc hoc hops
  go_wp2_with fail
  go_region
  obtain ⟨W3, hW3⟩ : ∃ W3, (w2.alloc (.cells #[.int .i64 20, .int .i64 A] 43)).drew = W3 := ⟨_, rfl⟩
  have b3 : Below w2.heap.size w2 W3 := by rw [← hW3]; exact ((Below.refl _ w2).alloc (Nat.le_refl _) _).drew
  have x3 : W3.heap[w2.heap.size]? = some (.cells #[.int .i64 20, .int .i64 A] 43 (0, 0)) := by rw [← hW3]; exact World.alloc_heap_new w2 _
  rw [hW3]
  clear hW3 c0 c1 c6 y3 o0 o1 c0a c1a c6a y3a o0a o1a
  have H3 := H2.below b3
  have e0 : W3.cell? ⟨w2.heap.size, 0, none⟩ = some (.int .i64 20) := cell_at' x3 0
  have e1 : W3.cell? ⟨w2.heap.size, 1, none⟩ = some (.int .i64 A) := cell_at' x3 1
  have d1 := H3.c1
  rw [HPC.out] at d1
  have z1 : W3.frozen? ⟨g, D.length * 4 + 1, none⟩ = false := by obtain ⟨cur, hh⟩ := H3.gb; exact Lib.frozen_of_heap hh _
  have hne : ¬ w2.heap.size = g := by obtain ⟨cur, hh⟩ := H2.gb; have := heap_lt hh; omega
  have hne' : ¬ g = w2.heap.size := fun e => hne e.symm
  have HS := hideP (H3.setPc ((pc : Int) + 1))
  clear H2 H3 x3
  go_wp2_with (go_at_call 130; refine (HCC.out _ HS.out).mono ?_; rintro e w9 ⟨rfl, h9⟩)
  exact ⟨rfl, rfl, h9⟩
end Go.Proofs.YtcadpoknolefpaaGreat
/- stride.Do: what is recovered. -/
namespace Go.Proofs.YtcadpoknolefpaaGreat
open Go.RowKit
set_option linter.unusedSimpArgs false
set_option linter.unusedVariables false
theorem ta_nil (w : World) : (Instr.typeAssert Value.nilIface 20 117 true).run Tryz.prog w = .ok (.tuple #[.int .i64 0, .bool false]) w := by kernel_rfl
theorem ta_trap (why : Int) (w : World) : (Instr.typeAssert (.iface 117 (.int .i64 why)) 20 117 true).run Tryz.prog w = .ok (.tuple #[.int .i64 why, .bool true]) w := by kernel_rfl
set_option maxRecDepth 100000 in
theorem catch_idle (bm ba : Nat) (w : World) :
    CallsD Tryz.prog 87 #[.pointer (some ⟨bm, 0, none⟩), .pointer (some ⟨ba, 0, none⟩)] .returning w fun e u' w' => e = .returned (.tuple #[]) ∧ u' = .returning ∧ w' = w := by
  refine callsD_of_wpS Tryz.func87 rfl fun c₀ cs hu => ?_
  apply wpS_seq
  apply wpS_region
  simp [wpOpsS, go_sem, recoverD, hu, Tryz.ntmps87, Exit.thenS, ta_nil, Array.replicate_succ]
  refine wpS_of_wp ?_
  go_wp2
  refine ⟨rfl, .returning, ?_, .tuple #[], results_none rfl _ _ _, rfl, rfl, rfl⟩
  cases c₀
  simp_all
set_option maxRecDepth 100000 in
theorem catch_trap (M : Mach) (fv bv iv ov : Value) (bm ba : Nat) (why : Int) (w : World) (h : MachAt w fv bv iv ov M) (hsm : SmallM M) (hm : w.heap[bm]? = some (.cells #[fv, bv, iv, ov, .int .i64 M.status, .int .i64 M.trap] 29 (0, 0))) (ha : w.heap[ba]? = some (.cells #[.slice none 0 0, .slice none 0 0, .slice none 0 0, .slice none 0 0, .int .i64 0, .int .i64 0] 29 (0, 0))) :
    CallsD Tryz.prog 87 #[.pointer (some ⟨bm, 0, none⟩), .pointer (some ⟨ba, 0, none⟩)] (.panicking [{ v := .iface 117 (.int .i64 why), recovered := false }]) w fun e u' w' =>
      e = .returned (.tuple #[]) ∧ u' = .panicking [{ v := .iface 117 (.int .i64 why), recovered := true }] ∧ ∃ fv' bv' iv' ov' q qb w2, MOwn w2 w.heap.size fv' bv' iv' ov' q qb M ∧ Below w.heap.size w w2 ∧ w' = ((((((((w2.setCell ⟨ba, 0, none⟩ fv').setCell ⟨ba, 1, none⟩ bv').setCell ⟨ba, 2, none⟩ iv').setCell ⟨ba, 3, none⟩ ov').setCell ⟨ba, 4, none⟩ (.int .i64 M.status)).setCell ⟨ba, 5, none⟩ (.int .i64 M.trap)).setCell ⟨ba, 4, none⟩ (.int .i64 3)).setCell ⟨ba, 5, none⟩ (.int .i64 why)) := by
  have HF := hideP (freshMachine_any M fv bv iv ov w h hsm)
  have la := heap_lt ha
  obtain ⟨pf, cf, hfv, -, -, -⟩ := id h.fr
  obtain ⟨pb, cb, hbv, -, -⟩ := id h.bl
  obtain ⟨pi, ci, hiv, -⟩ := h.inp.shp
  obtain ⟨po, co, hov, -⟩ := h.out.shp
  subst hfv hbv hiv hov
  have d0 : w.cell? ⟨bm, 0, none⟩ = some (.slice pf M.frames.length cf) := cell_at' hm 0
  have d1 : w.cell? ⟨bm, 1, none⟩ = some (.slice pb M.blocks.length cb) := cell_at' hm 1
  have d2 : w.cell? ⟨bm, 2, none⟩ = some (.slice pi M.inp.length ci) := cell_at' hm 2
  have d3 : w.cell? ⟨bm, 3, none⟩ = some (.slice po M.out.length co) := cell_at' hm 3
  have d4 : w.cell? ⟨bm, 4, none⟩ = some (.int .i64 M.status) := cell_at' hm 4
  have d5 : w.cell? ⟨bm, 5, none⟩ = some (.int .i64 M.trap) := cell_at' hm 5
  have HA := hideP ha
  clear h hsm hm ha
  generalize hR : (fun e u' w' => e = Ending.returned (.tuple #[]) ∧ u' = FrameMode.panicking [{ v := .iface 117 (.int .i64 why), recovered := true }] ∧ ∃ fv' bv' iv' ov' q qb w2, MOwn w2 w.heap.size fv' bv' iv' ov' q qb M ∧ Below w.heap.size w w2 ∧ w' = ((((((((w2.setCell ⟨ba, 0, none⟩ fv').setCell ⟨ba, 1, none⟩ bv').setCell ⟨ba, 2, none⟩ iv').setCell ⟨ba, 3, none⟩ ov').setCell ⟨ba, 4, none⟩ (.int .i64 M.status)).setCell ⟨ba, 5, none⟩ (.int .i64 M.trap)).setCell ⟨ba, 4, none⟩ (.int .i64 3)).setCell ⟨ba, 5, none⟩ (.int .i64 why))) = R
  have HR := hideP hR
  clear hR
  refine callsD_of_wpS Tryz.func87 rfl fun c₀ cs hu => ?_
  apply wpS_seq
  apply wpS_region
  simp [wpOpsS, go_sem, recoverD, hu, Tryz.ntmps87, Exit.thenS, ta_trap, Array.replicate_succ]
  refine wpS_of_wp ?_
  go_wp2_with fail
  refine HF.out.mono ?_
  rintro e w2 ⟨fv', bv', iv', ov', rfl, q, qb, hown, b2⟩
  obtain ⟨pf2, cf2, hfv⟩ := row_shp hown.fr
  obtain ⟨pb2, cb2, hbv⟩ := row_shp hown.bl
  obtain ⟨pi2, ci2, hiv⟩ := row_shp hown.inp
  obtain ⟨po2, co2, hov⟩ := row_shp hown.out
  subst hfv hbv hiv hov
  have ha2 := (b2.block _ la).trans HA.out
  have a0 := cell_at' ha2 0
  have a1 := cell_at' ha2 1
  have a2 := cell_at' ha2 2
  have a3 := cell_at' ha2 3
  have a4 := cell_at' ha2 4
  have a5 := cell_at' ha2 5
  simp at a0 a1 a2 a3 a4 a5
  have z := Lib.frozen_of_heap ha2
  have z0 := z 0
  have z1 := z 1
  have z2 := z 2
  have z3 := z 3
  have z4 := z 4
  have z5 := z 5
  have HO := hideP hown
  clear z hown ha2
  go_wp2
  refine ⟨rfl, _, rfl, .tuple #[], results_none rfl _ _ _, ?_⟩
  rw [← HR.out]
  exact ⟨rfl, rfl, _, _, _, _, q, qb, w2, HO.out, b2, rfl⟩
/-- a machine that came: In may be the rest of a row. -/
def MRes (W : World) (B : Nat) (fv bv iv ov : Value) (M : Mach) : Prop := ∃ q qb k iw I, MOwn W B fv bv iw ov q qb { M with inp := I } ∧ M.inp = I.drop k ∧ ((k = 0 ∧ iv = iw) ∨ ∃ g n cap j c, iw = .slice (some ⟨g, 0, none⟩) n cap ∧ iv = .slice (some ⟨g, j, none⟩) (n - k) c ∧ (j = k ∨ n - k = 0) ∧ n - k ≤ c)
theorem MOwn.res {W : World} {B : Nat} {fv bv iv ov : Value} {q : List FV} {qb : List Value} {M : Mach} (h : MOwn W B fv bv iv ov q qb M) : MRes W B fv bv iv ov M := ⟨q, qb, 0, iv, M.inp, h, rfl, .inl ⟨rfl, rfl⟩⟩
theorem MRes.below {W W' : World} {B : Nat} {fv bv iv ov : Value} {M : Mach} (h : MRes W B fv bv iv ov M) (hb : Below W.heap.size W W') : MRes W' B fv bv iv ov M := by
  obtain ⟨q, qb, k, iw, I, h1, h2, h3⟩ := h
  exact ⟨q, qb, k, iw, I, h1.below hb, h2, h3⟩
theorem MRes.low {W : World} {B B' : Nat} {fv bv iv ov : Value} {M : Mach} (h : MRes W B fv bv iv ov M) (hB : B' ≤ B) : MRes W B' fv bv iv ov M := by
  obtain ⟨q, qb, k, iw, I, h1, h2, h3⟩ := h
  exact ⟨q, qb, k, iw, I, h1.low hB, h2, h3⟩
theorem MRes.keep {W W' : World} {B : Nat} {t : TypeId} {fv bv iv ov : Value} {M : Mach} {row : Option Nat} (h : MRes W B fv bv iv ov M) (hg : W.grownBy W' row) (ht : TyRow W row t) (h1 : t ≠ 48) (h2 : t ≠ 50) (h3 : t ≠ 27) (h4 : t ≠ 3) : MRes W' B fv bv iv ov M := by
  obtain ⟨q, qb, k, iw, I, a1, a2, a3⟩ := h
  exact ⟨q, qb, k, iw, I, a1.keep hg ht h1 h2 h3 h4, a2, a3⟩
theorem MRes.at_ {W : World} {B : Nat} {fv bv iv ov : Value} {M : Mach} (h : MRes W B fv bv iv ov M) (h100 : M.inp.length ≤ 100) : MachAt W fv bv iv ov M := by
  obtain ⟨q, qb, k, iw, I, h1, h2, h3⟩ := h
  have hA := h1.at_
  refine ⟨hA.fr, hA.bl, ?_, hA.out⟩
  rcases h3 with ⟨rfl, rfl⟩ | ⟨g, n, cap, j, c, rfl, rfl, hj, hc⟩
  · rw [h2]; exact hA.inp
  · have hin := h1.inp
    obtain ⟨p, cc, hv⟩ := row_shp hin
    simp only at hv hin
    injection hv with _ hn _
    subst hn
    have hlen : M.inp.length = I.length - k := by rw [h2, List.length_drop]
    refine ⟨⟨_, c, by rw [hlen], by unfold maxLen; omega, fun i z hz => ?_⟩, nilOk_some _ _ _, fun p' n' c' e => by injection e with _ e2 e3; omega⟩
    have hil := lt_of_at hz
    rw [h2, List.getElem?_drop] at hz
    have hjk : j = k := by rcases hj with h | h <;> omega
    subst hjk
    refine ⟨g, j, rfl, (hin.lt g rfl).2, ?_⟩
    rcases hin.2 with ⟨h4, _⟩ | ⟨g', cap', cur, h4, h5, h6, h7, h8, h9, h10⟩
    · cases h4
    · injection h4 with e1 _ _
      cases e1
      rw [cell_at' h6]
      have hm : (I.map (Value.int .i64))[j + i]? = some (.int .i64 z) := by rw [List.getElem?_map, hz]; rfl
      rw [← h10, List.getElem?_take] at hm
      split at hm
      · simpa using hm
      · cases hm
end Go.Proofs.YtcadpoknolefpaaGreat
