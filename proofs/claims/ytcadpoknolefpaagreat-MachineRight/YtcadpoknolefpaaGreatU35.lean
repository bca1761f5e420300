/- My texts Nb Nc Qk Ne Nf, joined. -/
import Derived.Deep.RegionWith
import Derived.Test.YtcadpoknolefpaaGreatU2
import Derived.Test.YtcadpoknolefpaaGreatU14
import Derived.Test.YtcadpoknolefpaaGreatU24
import Derived.Test.YtcadpoknolefpaaGreatU28
import Derived.Test.YtcadpoknolefpaaGreatU31
import Derived.Test.YtcadpoknolefpaaGreatU34
/- machine's checker: where a frame is, and what is to be on its stack. -/
namespace Go.Proofs.YtcadpoknolefpaaGreat
open Go.RowKit
set_option linter.unusedSimpArgs false
set_option linter.unusedVariables false
/-- a checker's machine and program can be read. -/
structure CkAt (w : World) (p : List Fn) (pv fv bv iv ov : Value) (M : Mach) : Prop where
  fns : FnsAt w pv p
  cap : CapAt w pv
  mach : MachAt w fv bv iv ov M
theorem CkAt.below {w w' : World} {p : List Fn} {pv fv bv iv ov : Value} {M : Mach} (h : CkAt w p pv fv bv iv ov M) (hb : Below w.heap.size w w') : CkAt w' p pv fv bv iv ov M := ⟨h.fns.below hb, h.cap.below h.fns hb, h.mach.below hb⟩
theorem CkAt.shp {w : World} {p : List Fn} {pv fv bv iv ov : Value} {M : Mach} (h : CkAt w p pv fv bv iv ov M) : (∃ q c, pv = .slice q p.length c) ∧ (∃ q c, fv = .slice q M.frames.length c) ∧ (∃ q c, bv = .slice q M.blocks.length c) ∧ (∃ q c, iv = .slice q M.inp.length c) ∧ ∃ q c, ov = .slice q M.out.length c := by
  obtain ⟨pp, qp, h1, -, -⟩ := h.fns
  obtain ⟨pf, cf, h2, -, -, -⟩ := h.mach.fr
  obtain ⟨pb, cb, h3, -, -⟩ := h.mach.bl
  obtain ⟨pi, ci, h4, -⟩ := h.mach.inp.shp
  obtain ⟨po, co, h5, -⟩ := h.mach.out.shp
  exact ⟨⟨_, _, h1⟩, ⟨_, _, h2⟩, ⟨_, _, h3⟩, ⟨_, _, h4⟩, ⟨_, _, h5⟩⟩
theorem ent_ix {p : List Fn} {f : Fn} {e : Nat → Option (List Int)} {l : List (Nat × List Int)} (h : EntsOk p f e l) (n : Int) : decide (entIx l n ≥ 0) = (decide (0 ≤ n) && (e n.toNat).isSome) := by
  rcases entIx_spec l n with ⟨h1, h2⟩ | ⟨k, z, h1, h2, h3⟩
  · rw [h1]
    cases hs : e n.toNat with
    | none => simp
    | some s =>
      by_cases h0 : 0 ≤ n
      · obtain ⟨k, hk⟩ := h.all n.toNat s hs
        have := h2 _ (List.mem_of_getElem? hk)
        simp at this
        omega
      · simp [h0]
  · rw [h1]
    obtain ⟨h4, _, _⟩ := h.on k z.1 z.2 h2
    have : n.toNat = z.1 := by omega
    rw [this, h4]
    simp
    omega
theorem eql_op (c a c' a' : Int) (w : World) : (binOp .eql 43 (.agg #[.int .i64 c, .int .i64 a]) (.agg #[.int .i64 c', .int .i64 a'])).run Tryz.prog w = .ok (.bool (c == c' && a == a')) w := by
  have u3 := Tryz.underlying3
  have a3 := Tryz.isAgg3
  have z3 := Tryz.sizeOf3
  have hS : Tryz.prog.underlying 43 = some (.struct (Tryz.prog.fieldsOf 43)) := by kernel_rfl
  have hp : Tryz.prog.stoodInHeld 43 = false := by kernel_rfl
  rw [run_eql_struct, show (10000 : Nat) = 9999 + 1 from rfl, run_equalIn_agg w 9999 43 _ _ hS hp]
  simp only [Program.fieldsOf, Tryz.underlying43]
  go_simp
  by_cases h1 : c = c' <;> by_cases h2 : a = a' <;> simp [h1, h2]
set_option maxRecDepth 100000 in
set_option maxHeartbeats 2000000 in
theorem placed_last (M : Mach) (p : List Fn) (e : Nat → Nat → Option (List Int)) (pv fv bv iv ov lv : Value) (l : List (Nat × List Int)) (i k : Nat) (x : Frm) (f : Fn) (w : World) (h : CkAt w p pv fv bv iv ov M) (hx : M.frames[i]? = some x) (hi : i + 1 = M.frames.length) (hf : p[k]? = some f) (hl : EntsRd w lv l) (ho : EntsOk p f (e k) l) : Calls Tryz.prog 195 #[chkV pv fv bv iv ov M, .int .i64 i, lv] w fun e' w' => e' = .returned (.bool (placedB e none x k f)) ∧ Below w.heap.size w w' := by
  obtain ⟨⟨pp, qp, hpv⟩, -, ⟨pb, cb, hbv⟩, ⟨pi, ci, hiv⟩, ⟨po, co, hov⟩⟩ := h.shp
  obtain ⟨pf, cf, hfv, hfm, -, hfc⟩ := id h.mach.fr
  unfold maxLen at hfm
  obtain ⟨pl, cl, hlv⟩ := hl.shp
  subst hpv hfv hbv hiv hov hlv
  obtain ⟨g, off, lv1, sv1, rfl, hg, x0, x1, x2, x3, hL, -, hS, -⟩ := hfc i x hx
  obtain ⟨pl1, cl1, hlv1, -, -⟩ := hL
  obtain ⟨ps1, cs1, hsv1, -, -⟩ := hS
  subst hlv1 hsv1
  have hii : ((i : Int) == (M.frames.length : Int) - 1) = true := by simp; omega
  have hil := lt_of_at hx
  have hili : (i : Int) < (M.frames.length : Int) := by omega
  have x0a := fun o => cell_old x0 o
  have x1a := fun o => cell_old x1 o
  have x2a := fun o => cell_old x2 o
  have x3a := fun o => cell_old x3 o
  have HE : Hid (∀ W, Below w.heap.size w W → Calls Tryz.prog 228 #[.slice pl l.length cl, .int .i64 x.pc] W fun e w' => e = .returned (.int .i64 (entIx l x.pc)) ∧ Below W.heap.size W w') := fun W hW => entryAt_any l _ x.pc W (hl.below hW)
  have hix := ent_ix ho x.pc
  have HIX := hideP hix
  clear h hx hf hl ho hfc hix hi
  have hb2 : ∀ o o', Below w.heap.size w ((w.alloc o).alloc o') := fun o o' => ((Below.refl _ w).alloc (Nat.le_refl _) _).alloc (by simp) _
  go_enter Tryz.func195, Tryz.ntmps195
  go_wp2_with (go_at_call 228; refine (HE.out _ (hb2 _ _)).mono ?_; rintro e' w2 ⟨rfl, b2⟩)
  go_ret
  exact ⟨by simp only [HIX.out]; rfl, bthen0 (hb2 _ _) b2⟩
theorem ent_before {p : List Fn} {f : Fn} {e : Nat → Option (List Int)} {l : List (Nat × List Int)} (h : EntsOk p f e l) (hc : f.2.2.2.length ≤ 1000) {n : Int} (h0 : -9223372036854775808 ≤ n) (h1 : n ≤ 9223372036854775807) : decide (entIx l (IntKind.i64.wrap (n - 1)) ≥ 0) = (decide (1 ≤ n) && (e (n - 1).toNat).isSome) := by
  rw [ent_ix h]
  by_cases hm : n = -9223372036854775808
  · subst hm
    have e1 : IntKind.i64.wrap (-9223372036854775808 - 1) = 9223372036854775807 := by rw [IntKind.wrap_i64]; decide
    rw [e1]
    cases hs : e (9223372036854775807 : Int).toNat with
    | none => simp
    | some s =>
      obtain ⟨k, hk⟩ := h.all _ s hs
      have := (h.on k _ s hk).2.2
      omega
  · have e1 : IntKind.i64.wrap (n - 1) = n - 1 := by rw [IntKind.wrap_i64]; omega
    rw [e1]
    congr 1
    by_cases h3 : 1 ≤ n
    · simp [h3]
    · simp [h3]
set_option maxRecDepth 100000 in
set_option maxHeartbeats 4000000 in
theorem placed_mid (M : Mach) (p : List Fn) (e : Nat → Nat → Option (List Int)) (pv fv bv iv ov lv : Value) (l : List (Nat × List Int)) (i k : Nat) (x y : Frm) (f : Fn) (w : World) (h : CkAt w p pv fv bv iv ov M) (hx : M.frames[i]? = some x) (hy : M.frames[i + 1]? = some y) (hf : p[k]? = some f) (hk : x.fn = (k : Int)) (hl : EntsRd w lv l) (ho : EntsOk p f (e k) l) (hcl : f.2.2.2.length ≤ 1000) (hpl : p.length ≤ 1000) (h6 : M.frames.length ≤ 1000) (hp1 : -9223372036854775808 ≤ x.pc) (hp2 : x.pc ≤ 9223372036854775807) : Calls Tryz.prog 195 #[chkV pv fv bv iv ov M, .int .i64 i, lv] w fun e' w' => e' = .returned (.bool (placedB e (some y.fn) x k f)) ∧ Below w.heap.size w w' := by
  obtain ⟨⟨pp, qp, hpv⟩, -, ⟨pb, cb, hbv⟩, ⟨pi, ci, hiv⟩, ⟨po, co, hov⟩⟩ := h.shp
  obtain ⟨pf, cf, hfv, hfm, -, hfc⟩ := id h.mach.fr
  obtain ⟨pl, cl, hlv⟩ := hl.shp
  subst hpv hfv hbv hiv hov hlv
  obtain ⟨g, off, lv1, sv1, rfl, hg, x0, x1, x2, x3, hL, -, hS, -⟩ := hfc i x hx
  obtain ⟨g', off', lv2, sv2, he', hg', y0, -, -, -, -⟩ := hfc (i + 1) y hy
  cases he'
  obtain ⟨pl1, cl1, hlv1, -, -⟩ := hL
  obtain ⟨ps1, cs1, hsv1, -, -⟩ := hS
  subst hlv1 hsv1
  have hil := lt_of_at hy
  have hii : ((i : Int) == (M.frames.length : Int) - 1) = false := by simp; omega
  have hili : (i : Int) < (M.frames.length : Int) := by omega
  have hili2 : (i : Int) + 1 < (M.frames.length : Int) := by omega
  have x0a := fun o => cell_old x0 o
  have x1a := fun o => cell_old x1 o
  have x2a := fun o => cell_old x2 o
  have x3a := fun o => cell_old x3 o
  rw [show off + (i + 1) * 4 = off + (i + 1) * 4 from rfl] at y0
  have y0b := fun o o' => cell_old (cell_old y0 o) o'
  have HE : Hid (∀ W, Below w.heap.size w W → Calls Tryz.prog 228 #[.slice pl l.length cl, .int .i64 (IntKind.i64.wrap (x.pc - 1))] W fun e w' => e = .returned (.int .i64 (entIx l (IntKind.i64.wrap (x.pc - 1)))) ∧ Below W.heap.size W w') := fun W hW => entryAt_any l _ _ W (hl.below hW)
  have hix := ent_before ho hcl hp1 hp2
  obtain ⟨pp', qp', hpe, -, hpc⟩ := id h.fns
  cases hpe
  obtain ⟨fb, fo, c0, c1, c2, c3, hpp, hplt, -, -, -, z3, hfn⟩ := hpc k f hf
  subst hpp
  obtain ⟨-, -, -, hops⟩ := hfn
  obtain ⟨p3, q3, he3, -, hoc⟩ := id hops
  subst he3
  have hkl := lt_of_at hf
  have hkli : (k : Int) < (p.length : Int) := by omega
  have HOC := hideP hoc
  have HIX := hideP hix
  have HO := hideP ho
  have HK := hideP hk
  obtain ⟨W3, hW3⟩ : ∃ W3, ((w.alloc (.cells #[.slice (some ⟨g, off, none⟩) M.frames.length cf, .slice pb M.blocks.length cb, .slice pi M.inp.length ci, .slice po M.out.length co, .int .i64 M.status, .int .i64 M.trap, .slice (some ⟨fb, fo, none⟩) p.length qp] 88)).alloc (.cells #[.int .i64 x.fn, .int .i64 x.pc, .slice pl1 x.loc.length cl1, .slice ps1 x.stk.length cs1] 48)).alloc (.cells #[.int .i64 12, .int .i64 y.fn] 43) = W3 := ⟨_, rfl⟩
  have b3 : Below w.heap.size w W3 := by rw [← hW3]; exact (((Below.refl _ w).alloc (Nat.le_refl _) _).alloc (by simp) _).alloc (by simp; omega) _
  have u1 : W3.heap[w.heap.size]? = some (.cells #[.slice (some ⟨g, off, none⟩) M.frames.length cf, .slice pb M.blocks.length cb, .slice pi M.inp.length ci, .slice po M.out.length co, .int .i64 M.status, .int .i64 M.trap, .slice (some ⟨fb, fo, none⟩) p.length qp] 88 (0, 0)) := by rw [← hW3]; exact new_three _ _ _ _
  have u2 : W3.heap[w.heap.size + 1]? = some (.cells #[.int .i64 x.fn, .int .i64 x.pc, .slice pl1 x.loc.length cl1, .slice ps1 x.stk.length cs1] 48 (0, 0)) := by rw [← hW3]; exact new_three1 _ _ _ _
  have u3 : W3.heap[w.heap.size + 1 + 1]? = some (.cells #[.int .i64 12, .int .i64 y.fn] 43 (0, 0)) := by rw [← hW3]; exact new3 _ _ _ _
  have l1 := heap_lt u1
  have l2 := heap_lt u2
  have l3 := heap_lt u3
  have v6 : W3.cell? ⟨w.heap.size, 6, none⟩ = some (.slice (some ⟨fb, fo, none⟩) p.length qp) := cell_at' u1 6
  have v0 : W3.cell? ⟨w.heap.size + 1, 0, none⟩ = some (.int .i64 k) := by have := cell_at' u2 0; rw [hk] at this; exact this
  have v1 : W3.cell? ⟨w.heap.size + 1, 1, none⟩ = some (.int .i64 x.pc) := cell_at' u2 1
  have t0 : W3.cell? ⟨w.heap.size + 1 + 1, 0, none⟩ = some (.int .i64 12) := cell_at' u3 0
  have t1 : W3.cell? ⟨w.heap.size + 1 + 1, 1, none⟩ = some (.int .i64 y.fn) := cell_at' u3 1
  have q3' := (b3.cell (p := ⟨fb, fo + k * 4 + 3, none⟩) hplt).trans z3
  have hfb3 := Nat.lt_of_lt_of_le hplt b3.size
  have hgu := guard_op
  clear h hx hy hf hl ho hfc hpc hoc hops hix hk u1 u2 u3
  have hspec := entIx_spec l (IntKind.i64.wrap (x.pc - 1))
  rcases hspec with ⟨hE, -⟩ | ⟨k2, z2, hE, hz2, hz3⟩
  · have hres : placedB e (some y.fn) x k f = false := by
      have := HIX.out
      rw [hE] at this
      simp only [placedB, ← this]
      simp
    have HRES := hideP hres
    rw [hE] at HE
    clear hres hE
    go_enter Tryz.func195, Tryz.ntmps195
    go_wp2_with fail
    refine wp_region_held_drew (S := fun X => X.cell? ⟨w.heap.size + 1, 1, none⟩ = some (.int .i64 x.pc)) (by kernel_rfl) v1 (fun hHeld => ?_)
    refine wpAnyH_take (i := 0) (oi := { dst := some 36, op := Op.move (Operand.tmp 2), type := 69, pos := "check.go:136", after := #[], guard := none }) (v := ?_) rfl (by kernel_rfl) (by kernel_rfl) (by kernel_rfl) (fun _ _ _ h => h) (Or.inl ⟨by rfl, ?_⟩) (by assumption) ?_
    rotate_left
    · (intro wS hSw; (try dsimp only at hSw); go_simp) <;> (first | done | with_reducible rfl)
    try simp only [Act.put, List.setIfInBounds_toArray, List.set_cons_zero, List.set_cons_succ]
    refine wpAnyH_take (i := 1) (oi := { dst := some 37, op := Op.fieldAddr 48 (Operand.tmp 7) 1, type := 0, pos := "check.go:136", after := #[], guard := none }) (v := ?_) rfl (by kernel_rfl) (by kernel_rfl) (by kernel_rfl) (fun _ _ _ h => h) (Or.inl ⟨by rfl, ?_⟩) (by assumption) ?_
    rotate_left
    · (intro wS hSw; (try dsimp only at hSw); go_simp) <;> (first | done | with_reducible rfl)
    try simp only [Act.put, List.setIfInBounds_toArray, List.set_cons_zero, List.set_cons_succ]
    refine wpAnyH_take (i := 2) (oi := { dst := some 38, op := Op.load 3 (Operand.tmp 37), type := 3, pos := "check.go:136", after := #[{ on := 1, ground := Ground.data }], guard := none }) (v := ?_) rfl (by kernel_rfl) (by kernel_rfl) (by kernel_rfl) (fun _ _ _ h => h) (Or.inl ⟨by rfl, ?_⟩) (by assumption) ?_
    rotate_left
    · (intro wS hSw; (try dsimp only at hSw); go_simp) <;> (first | done | with_reducible rfl)
    try simp only [Act.put, List.setIfInBounds_toArray, List.set_cons_zero, List.set_cons_succ]
    refine wpAnyH_take (i := 3) (oi := { dst := some 39, op := Op.binOp BinOp.sub 3 (Operand.tmp 38) (Operand.const (Value.int IntKind.i64 1)) 3, type := 3, pos := "check.go:136", after := #[{ on := 2, ground := Ground.data }], guard := none }) (v := ?_) rfl (by kernel_rfl) (by kernel_rfl) (by kernel_rfl) (fun _ _ _ h => h) (Or.inl ⟨by rfl, ?_⟩) (by assumption) ?_
    rotate_left
    · (intro wS hSw; (try dsimp only at hSw); go_simp) <;> (first | done | with_reducible rfl)
    try simp only [Act.put, List.setIfInBounds_toArray, List.set_cons_zero, List.set_cons_succ]
    refine wpAnyH_ready (rs := [4]) (by kernel_rfl) (by simp) ?_
    refine AllReadyH.cons (o := { dst := some 40, op := Op.call { callee := Callee.value (Operand.func 228), args := #[Operand.tmp 36, Operand.tmp 39], argTypes := #[69, 3] }, type := 3, pos := "check.go:136", after := #[{ on := 0, ground := Ground.data }, { on := 3, ground := Ground.data }], guard := none }) rfl (fun K hK => ?_) AllReadyH.nil
    go_simp
    go_at_call 228; refine (HE.out _ (b3.trans (((Below.refl _ W3).drew).mono b3.size))).mono ?_; rintro e' w4 ⟨rfl, b4'⟩; have b4 : Below W3.heap.size W3 w4 := ((Below.refl _ W3).drew).trans b4'; have r1 := (b4.cell (p := ⟨w.heap.size + 1, 1, none⟩) l2).trans v1
    refine hK.out _ _ ?_ (fun hHeld => ?_)
    · exact r1
    clear hK K
    try simp only [Act.put, List.setIfInBounds_toArray, List.set_cons_zero, List.set_cons_succ]
    refine wpAnyH_take (i := 5) (oi := { dst := some 41, op := Op.binOp BinOp.geq 3 (Operand.tmp 40) (Operand.const (Value.int IntKind.i64 0)) 3, type := 4, pos := "check.go:136", after := #[{ on := 4, ground := Ground.data }], guard := none }) (v := ?_) rfl (by kernel_rfl) (by kernel_rfl) (by kernel_rfl) (fun _ _ _ h => h) (Or.inl ⟨by rfl, ?_⟩) (by assumption) ?_
    rotate_left
    · (intro wS hSw; (try dsimp only at hSw); go_simp) <;> (first | done | with_reducible rfl)
    try simp only [Act.put, List.setIfInBounds_toArray, List.set_cons_zero, List.set_cons_succ]
    refine wpAnyH_take (i := 6) (oi := { dst := some 42, op := Op.move (Operand.tmp 41), type := 4, pos := "check.go:136", after := #[{ on := 5, ground := Ground.data }, { on := 4, ground := Ground.chain }], guard := none }) (v := ?_) rfl (by kernel_rfl) (by kernel_rfl) (by kernel_rfl) (fun _ _ _ h => h) (Or.inl ⟨by rfl, ?_⟩) (by assumption) ?_
    rotate_left
    · (intro wS hSw; (try dsimp only at hSw); go_simp) <;> (first | done | with_reducible rfl)
    try simp only [Act.put, List.setIfInBounds_toArray, List.set_cons_zero, List.set_cons_succ]
    refine wpAnyH_take (i := 7) (oi := { dst := some 43, op := Op.fieldAddr 88 (Operand.tmp 3) 1, type := 0, pos := "check.go:136", after := #[{ on := 6, ground := Ground.guard }], guard := some (6, true) }) (v := undef) rfl (by kernel_rfl) (by kernel_rfl) (by kernel_rfl) (fun _ _ _ h => h) (Or.inr ⟨by rfl, rfl⟩) (by assumption) ?_
    try simp only [Act.put, List.setIfInBounds_toArray, List.set_cons_zero, List.set_cons_succ]
    refine wpAnyH_take (i := 8) (oi := { dst := some 44, op := Op.fieldAddr 24 (Operand.tmp 43) 0, type := 0, pos := "check.go:136", after := #[{ on := 7, ground := Ground.data }, { on := 6, ground := Ground.guard }], guard := some (6, true) }) (v := undef) rfl (by kernel_rfl) (by kernel_rfl) (by kernel_rfl) (fun _ _ _ h => h) (Or.inr ⟨by rfl, rfl⟩) (by assumption) ?_
    try simp only [Act.put, List.setIfInBounds_toArray, List.set_cons_zero, List.set_cons_succ]
    refine wpAnyH_take (i := 9) (oi := { dst := some 45, op := Op.load 22 (Operand.tmp 44), type := 22, pos := "check.go:136", after := #[{ on := 8, ground := Ground.data }, { on := 6, ground := Ground.guard }], guard := some (6, true) }) (v := undef) rfl (by kernel_rfl) (by kernel_rfl) (by kernel_rfl) (fun _ _ _ h => h) (Or.inr ⟨by rfl, rfl⟩) (by assumption) ?_
    try simp only [Act.put, List.setIfInBounds_toArray, List.set_cons_zero, List.set_cons_succ]
    refine wpAnyH_take (i := 10) (oi := { dst := some 46, op := Op.fieldAddr 48 (Operand.tmp 7) 0, type := 0, pos := "check.go:136", after := #[{ on := 6, ground := Ground.guard }], guard := some (6, true) }) (v := undef) rfl (by kernel_rfl) (by kernel_rfl) (by kernel_rfl) (fun _ _ _ h => h) (Or.inr ⟨by rfl, rfl⟩) (by assumption) ?_
    try simp only [Act.put, List.setIfInBounds_toArray, List.set_cons_zero, List.set_cons_succ]
    refine wpAnyH_take (i := 11) (oi := { dst := some 47, op := Op.load 3 (Operand.tmp 46), type := 3, pos := "check.go:136", after := #[{ on := 10, ground := Ground.data }, { on := 6, ground := Ground.guard }], guard := some (6, true) }) (v := undef) rfl (by kernel_rfl) (by kernel_rfl) (by kernel_rfl) (fun _ _ _ h => h) (Or.inr ⟨by rfl, rfl⟩) (by assumption) ?_
    try simp only [Act.put, List.setIfInBounds_toArray, List.set_cons_zero, List.set_cons_succ]
    refine wpAnyH_take (i := 12) (oi := { dst := some 48, op := Op.indexAddr 22 (Operand.tmp 45) (Operand.tmp 47), type := 0, pos := "check.go:136", after := #[{ on := 9, ground := Ground.data }, { on := 11, ground := Ground.data }, { on := 6, ground := Ground.guard }], guard := some (6, true) }) (v := undef) rfl (by kernel_rfl) (by kernel_rfl) (by kernel_rfl) (fun _ _ _ h => h) (Or.inr ⟨by rfl, rfl⟩) (by assumption) ?_
    try simp only [Act.put, List.setIfInBounds_toArray, List.set_cons_zero, List.set_cons_succ]
    refine wpAnyH_take (i := 13) (oi := { dst := some 49, op := Op.fieldAddr 78 (Operand.tmp 48) 3, type := 0, pos := "check.go:136", after := #[{ on := 12, ground := Ground.data }, { on := 6, ground := Ground.guard }], guard := some (6, true) }) (v := undef) rfl (by kernel_rfl) (by kernel_rfl) (by kernel_rfl) (fun _ _ _ h => h) (Or.inr ⟨by rfl, rfl⟩) (by assumption) ?_
    try simp only [Act.put, List.setIfInBounds_toArray, List.set_cons_zero, List.set_cons_succ]
    refine wpAnyH_take (i := 14) (oi := { dst := some 50, op := Op.load 76 (Operand.tmp 49), type := 76, pos := "check.go:136", after := #[{ on := 13, ground := Ground.data }, { on := 6, ground := Ground.guard }], guard := some (6, true) }) (v := undef) rfl (by kernel_rfl) (by kernel_rfl) (by kernel_rfl) (fun _ _ _ h => h) (Or.inr ⟨by rfl, rfl⟩) (by assumption) ?_
    try simp only [Act.put, List.setIfInBounds_toArray, List.set_cons_zero, List.set_cons_succ]
    refine wpAnyH_take (i := 15) (oi := { dst := some 51, op := Op.fieldAddr 48 (Operand.tmp 7) 1, type := 0, pos := "check.go:136", after := #[{ on := 6, ground := Ground.guard }], guard := some (6, true) }) (v := undef) rfl (by kernel_rfl) (by kernel_rfl) (by kernel_rfl) (fun _ _ _ h => h) (Or.inr ⟨by rfl, rfl⟩) (by assumption) ?_
    try simp only [Act.put, List.setIfInBounds_toArray, List.set_cons_zero, List.set_cons_succ]
    refine wpAnyH_take (i := 16) (oi := { dst := some 52, op := Op.load 3 (Operand.tmp 51), type := 3, pos := "check.go:136", after := #[{ on := 15, ground := Ground.data }, { on := 6, ground := Ground.guard }], guard := some (6, true) }) (v := undef) rfl (by kernel_rfl) (by kernel_rfl) (by kernel_rfl) (fun _ _ _ h => h) (Or.inr ⟨by rfl, rfl⟩) (by assumption) ?_
    try simp only [Act.put, List.setIfInBounds_toArray, List.set_cons_zero, List.set_cons_succ]
    refine wpAnyH_take (i := 17) (oi := { dst := some 53, op := Op.binOp BinOp.sub 3 (Operand.tmp 52) (Operand.const (Value.int IntKind.i64 1)) 3, type := 3, pos := "check.go:136", after := #[{ on := 16, ground := Ground.data }, { on := 6, ground := Ground.guard }], guard := some (6, true) }) (v := undef) rfl (by kernel_rfl) (by kernel_rfl) (by kernel_rfl) (fun _ _ _ h => h) (Or.inr ⟨by rfl, rfl⟩) (by assumption) ?_
    try simp only [Act.put, List.setIfInBounds_toArray, List.set_cons_zero, List.set_cons_succ]
    refine wpAnyH_take (i := 18) (oi := { dst := some 54, op := Op.indexAddr 76 (Operand.tmp 50) (Operand.tmp 53), type := 0, pos := "check.go:136", after := #[{ on := 14, ground := Ground.data }, { on := 17, ground := Ground.data }, { on := 6, ground := Ground.guard }], guard := some (6, true) }) (v := undef) rfl (by kernel_rfl) (by kernel_rfl) (by kernel_rfl) (fun _ _ _ h => h) (Or.inr ⟨by rfl, rfl⟩) (by assumption) ?_
    try simp only [Act.put, List.setIfInBounds_toArray, List.set_cons_zero, List.set_cons_succ]
    refine wpAnyH_take (i := 19) (oi := { dst := some 55, op := Op.load 43 (Operand.tmp 54), type := 43, pos := "check.go:136", after := #[{ on := 18, ground := Ground.data }, { on := 6, ground := Ground.guard }], guard := some (6, true) }) (v := undef) rfl (by kernel_rfl) (by kernel_rfl) (by kernel_rfl) (fun _ _ _ h => h) (Or.inr ⟨by rfl, rfl⟩) (by assumption) ?_
    try simp only [Act.put, List.setIfInBounds_toArray, List.set_cons_zero, List.set_cons_succ]
    refine wpAnyH_take (i := 20) (oi := { dst := some 56, op := Op.load 43 (Operand.tmp 8), type := 43, pos := "check.go:136", after := #[{ on := 6, ground := Ground.guard }], guard := some (6, true) }) (v := undef) rfl (by kernel_rfl) (by kernel_rfl) (by kernel_rfl) (fun _ _ _ h => h) (Or.inr ⟨by rfl, rfl⟩) (by assumption) ?_
    try simp only [Act.put, List.setIfInBounds_toArray, List.set_cons_zero, List.set_cons_succ]
    refine wpAnyH_take (i := 21) (oi := { dst := some 57, op := Op.binOp BinOp.eql 43 (Operand.tmp 55) (Operand.tmp 56) 43, type := 4, pos := "check.go:136", after := #[{ on := 19, ground := Ground.data }, { on := 20, ground := Ground.data }, { on := 6, ground := Ground.guard }], guard := some (6, true) }) (v := undef) rfl (by kernel_rfl) (by kernel_rfl) (by kernel_rfl) (fun _ _ _ h => h) (Or.inr ⟨by rfl, rfl⟩) (by assumption) ?_
    try simp only [Act.put, List.setIfInBounds_toArray, List.set_cons_zero, List.set_cons_succ]
    refine wpAnyH_take (i := 22) (oi := { dst := some 58, op := Op.pick (Operand.tmp 42) (Operand.tmp 57) (Operand.const (Value.bool false)), type := 4, pos := "check.go:136", after := #[{ on := 6, ground := Ground.data }, { on := 21, ground := Ground.data }], guard := none }) (v := ?_) rfl (by kernel_rfl) (by kernel_rfl) (by kernel_rfl) (fun _ _ _ h => h) (Or.inl ⟨by rfl, ?_⟩) (by assumption) ?_
    rotate_left
    · (intro wS hSw; (try dsimp only at hSw); go_simp) <;> (first | done | with_reducible rfl)
    try simp only [Act.put, List.setIfInBounds_toArray, List.set_cons_zero, List.set_cons_succ]
    refine wpAnyH_take (i := 23) (oi := { dst := some 6, op := Op.assign (Operand.tmp 58), type := 4, pos := "check.go:136", after := #[{ on := 22, ground := Ground.data }, { on := 6, ground := Ground.chain }, { on := 0, ground := Ground.phase }, { on := 1, ground := Ground.phase }, { on := 2, ground := Ground.phase }, { on := 3, ground := Ground.phase }, { on := 4, ground := Ground.phase }, { on := 5, ground := Ground.phase }, { on := 6, ground := Ground.phase }, { on := 7, ground := Ground.phase }, { on := 8, ground := Ground.phase }, { on := 9, ground := Ground.phase }, { on := 10, ground := Ground.phase }, { on := 11, ground := Ground.phase }, { on := 12, ground := Ground.phase }, { on := 13, ground := Ground.phase }, { on := 14, ground := Ground.phase }, { on := 15, ground := Ground.phase }, { on := 16, ground := Ground.phase }, { on := 17, ground := Ground.phase }, { on := 18, ground := Ground.phase }, { on := 19, ground := Ground.phase }, { on := 20, ground := Ground.phase }, { on := 21, ground := Ground.phase }, { on := 22, ground := Ground.phase }], guard := none }) (v := ?_) rfl (by kernel_rfl) (by kernel_rfl) (by kernel_rfl) (fun _ _ _ h => h) (Or.inl ⟨by rfl, ?_⟩) (by assumption) ?_
    rotate_left
    · (intro wS hSw; (try dsimp only at hSw); go_simp) <;> (first | done | with_reducible rfl)
    try simp only [Act.put, List.setIfInBounds_toArray, List.set_cons_zero, List.set_cons_succ]
    refine wpAnyH_done (by kernel_rfl) ?_ _
    go_wp2
    go_ret
    exact ⟨by rw [HRES.out]; rfl, bthen0 b3 b4⟩
  · have hpe := HIX.out
    rw [hE] at hpe
    have hge : decide ((k2 : Int) ≥ 0) = true := by simp
    rw [hge] at hpe
    have hpe2 := hpe.symm
    simp only [Bool.and_eq_true, decide_eq_true_eq, Option.isSome_iff_exists] at hpe2
    obtain ⟨hpos, s0, hs0⟩ := hpe2
    obtain ⟨n, hn⟩ : ∃ n : Nat, x.pc = (n : Int) + 1 := ⟨(x.pc - 1).toNat, by omega⟩
    have hn1 : (x.pc - 1).toNat = n := by omega
    rw [hn1] at hs0
    obtain ⟨k3, hk3⟩ := HO.out.all n s0 hs0
    have hnl := (HO.out.on k3 n s0 hk3).2.2
    obtain ⟨⟨oc, oa⟩, hop⟩ := at_of_lt (l := f.2.2.2) (k := n) hnl
    obtain ⟨ob, oo, hob, holt, o0, o1⟩ := HOC.out n _ hop
    cases hob
    simp only at o0 o1
    have j0 := (b3.cell (p := ⟨ob, oo + n * 2, none⟩) holt).trans o0
    have j1 := (b3.cell (p := ⟨ob, oo + n * 2 + 1, none⟩) holt).trans o1
    have hob3 := Nat.lt_of_lt_of_le holt b3.size
    have hnli : (n : Int) < (f.2.2.2.length : Int) := by omega
    have hsub : IntKind.i64.wrap (x.pc - 1) = (n : Int) := by rw [IntKind.wrap_i64]; omega
    have hres : placedB e (some y.fn) x k f = (oc == 12 && oa == y.fn) := by
      simp only [placedB]
      rw [← hpe, hn1, hop]
      have e1 : ((some (oc, oa) : Option (Int × Int)) == some (12, y.fn)) = ((oc, oa) == ((12 : Int), y.fn)) := rfl
      rw [e1, Bool.true_and]
      rfl
    have HRES := hideP hres
    have heq : ∀ W, (binOp .eql 43 (.agg #[.int .i64 oc, .int .i64 oa]) (.agg #[.int .i64 12, .int .i64 y.fn])).run Tryz.prog W = .ok (.bool (oc == 12 && oa == y.fn)) W := fun W => eql_op _ _ _ _ W
    rw [hE, hsub] at HE
    have HN := hideP hn
    clear hres hpe hs0 hk3 hop o0 o1 hE hz2 hz3 HIX hn1 hpos hn
    go_enter Tryz.func195, Tryz.ntmps195
    go_wp2_with fail
    go_region_held3 (fun X => X.cell? ⟨w.heap.size + 1, 1, none⟩ = some (.int .i64 x.pc) ∧ X.cell? ⟨w.heap.size + 1, 0, none⟩ = some (.int .i64 k) ∧ X.cell? ⟨w.heap.size, 6, none⟩ = some (.slice (some ⟨fb, fo, none⟩) p.length qp) ∧ X.cell? ⟨fb, fo + k * 4 + 3, none⟩ = some (.slice (some ⟨ob, oo, none⟩) f.2.2.2.length q3) ∧ X.cell? ⟨ob, oo + n * 2, none⟩ = some (.int .i64 oc) ∧ X.cell? ⟨ob, oo + n * 2 + 1, none⟩ = some (.int .i64 oa) ∧ X.cell? ⟨w.heap.size + 1 + 1, 0, none⟩ = some (.int .i64 12) ∧ X.cell? ⟨w.heap.size + 1 + 1, 1, none⟩ = some (.int .i64 y.fn)) (go_keep)
      (first | (go_at_call 228; (with_reducible refine (HE.out _ (b3.trans (((Below.refl _ W3).drew).mono b3.size))).mono ?_); rintro e' w4 ⟨rfl, b4'⟩; have b4 : Below W3.heap.size W3 w4 := ((Below.refl _ W3).drew).trans b4'; have r1 := (b4.cell (p := ⟨w.heap.size + 1, 1, none⟩) l2).trans v1; have r2 := (b4.cell (p := ⟨w.heap.size + 1, 0, none⟩) l2).trans v0; have r3 := (b4.cell (p := ⟨w.heap.size, 6, none⟩) l1).trans v6; have r4 := (b4.cell (p := ⟨fb, fo + k * 4 + 3, none⟩) hfb3).trans q3'; have r5 := (b4.cell (p := ⟨ob, oo + n * 2, none⟩) hob3).trans j0; have r6 := (b4.cell (p := ⟨ob, oo + n * 2 + 1, none⟩) hob3).trans j1; have r7 := (b4.cell (p := ⟨w.heap.size + 1 + 1, 0, none⟩) l3).trans t0; have r8 := (b4.cell (p := ⟨w.heap.size + 1 + 1, 1, none⟩) l3).trans t1))
    go_wp2
    go_ret
    exact ⟨by rw [HRES.out]; rfl, bthen0 b3 b4⟩
end Go.Proofs.YtcadpoknolefpaaGreat
/- machine's checker: what is to be on a frame's stack. -/
namespace Go.Proofs.YtcadpoknolefpaaGreat
open Go.RowKit
set_option linter.unusedSimpArgs false
set_option linter.unusedVariables false
theorem ents_ix {p : List Fn} {f : Fn} {e : Nat → Option (List Int)} {l : List (Nat × List Int)} (h : EntsOk p f e l) {pc : Nat} {s : List Int} (hs : e pc = some s) : ∃ k : Nat, entIx l (pc : Int) = (k : Int) ∧ l[k]? = some (pc, s) := by
  obtain ⟨j, hj⟩ := h.all pc s hs
  rcases entIx_spec l (pc : Int) with ⟨h1, h2⟩ | ⟨k, z, h1, h2, h3⟩
  · exact absurd rfl (h2 _ (List.mem_of_getElem? hj))
  · obtain ⟨a, b⟩ := z
    have e1 : a = pc := by have h4 : (a : Int) = (pc : Int) := h3; omega
    subst e1
    have := (h.on k a b h2).1
    rw [hs] at this
    cases this
    exact ⟨k, h1, h2⟩
theorem fullInts_front {W : World} {p : Option Addr} {n c : Nat} {s : List Int} (h : FullInts W (.slice p (n + 1) c) s) : FullInts W (.slice p n c) s.dropLast := by
  obtain ⟨q, c', hv, hm, hc⟩ := h.at_
  injection hv with e1 e2 e3
  subst e1
  have hl : s.dropLast.length = n := by rw [List.length_dropLast]; omega
  refine ⟨⟨p, c, by rw [hl], by omega, fun k z hk => ?_⟩, fun n' c' e => ?_, fun p' n' c' e => ?_⟩
  · rw [List.getElem?_dropLast] at hk
    split at hk
    · exact hc k z hk
    · cases hk
  · cases e
    exact h.nil (n + 1) c rfl
  · cases e
    have := h.cap _ _ _ rfl
    omega
set_option maxRecDepth 100000 in
set_option maxHeartbeats 4000000 in
/-- the entry's stack, of the innermost frame. -/
theorem stack_last (M : Mach) (p : List Fn) (e : Nat → Nat → Option (List Int)) (pv fv bv iv ov lv : Value) (l : List (Nat × List Int)) (i k pc : Nat) (s : List Int) (x : Frm) (f : Fn) (w : World) (h : CkAt w p pv fv bv iv ov M) (hx : M.frames[i]? = some x) (hi : i + 1 = M.frames.length) (hl : EntsRd w lv l) (ho : EntsOk p f (e k) l) (hpc : x.pc = (pc : Int)) (hs : e k pc = some s) (h6 : M.frames.length ≤ 1000) : Calls Tryz.prog 196 #[chkV pv fv bv iv ov M, .int .i64 i, lv] w fun e' w' => ∃ u, e' = .returned u ∧ FullInts w' u s ∧ Below w.heap.size w w' := by
  obtain ⟨⟨pp, qp, hpv⟩, -, ⟨pb, cb, hbv⟩, ⟨pi, ci, hiv⟩, ⟨po, co, hov⟩⟩ := h.shp
  obtain ⟨pf, cf, hfv, hfm, -, hfc⟩ := id h.mach.fr
  obtain ⟨k2, hix, hlk⟩ := ents_ix ho hs
  obtain ⟨pl, cl, hlv, hlm, hlc⟩ := id hl
  unfold maxLen at hlm
  subst hpv hfv hbv hiv hov hlv
  obtain ⟨g, off, lv1, sv1, rfl, hg, x0, x1, x2, x3, -, -, -, -⟩ := hfc i x hx
  obtain ⟨gb, go, u, rfl, hgl, e0, e1, hu⟩ := hlc k2 pc s hlk
  obtain ⟨pu, cu, hus, hcu⟩ := hu.shp
  have hil := lt_of_at hx
  have hk2l := lt_of_at hlk
  have hiin : ¬ ((i : Int) < (M.frames.length : Int) - 1) := by omega
  have hii : decide ((i : Int) < (M.frames.length : Int) - 1) = false := by simpa using hiin
  have hili : (i : Int) < (M.frames.length : Int) := by omega
  have hk2i : (k2 : Int) < (l.length : Int) := by omega
  have hb1 : ∀ o, Below w.heap.size w (w.alloc o) := fun o => (Below.refl _ w).alloc (Nat.le_refl _) _
  have x1a := fun o => cell_old x1 o
  rw [hpc] at x1a
  have HE : Hid (∀ W, Below w.heap.size w W → Calls Tryz.prog 228 #[.slice (some ⟨gb, go, none⟩) l.length cl, .int .i64 (pc : Int)] W fun e w' => e = .returned (.int .i64 (k2 : Int)) ∧ Below W.heap.size W w') := fun W hW => by
    rw [← hix]; exact entryAt_any l _ _ W (hl.below hW)
  subst hus
  have HU := hideP hu
  have HPC := hideP hpc
  clear h hx hl ho hfc hlc hix hlk hu hs hpc x0 x1 x2 x3 hi
  go_enter Tryz.func196, Tryz.ntmps196
  go_wp2_with (go_at_call 228; refine (HE.out _ (hb1 _)).mono ?_; rintro e' w2 ⟨rfl, b2⟩; have bb2 := bthen0 (hb1 _) b2; have m1 := (bb2.cell (p := ⟨gb, go + k2 * 2 + 1, none⟩) hgl).trans e1; have m0 := (b2.cell (p := ⟨w.heap.size, 0, none⟩) (by simp)).trans (cell_at' (World.alloc_heap_new w _) 0); simp at m0)
  go_quiet (fail)
  go_wp2
  go_ret
  exact ⟨_, rfl, HU.out.below (below_drewN bb2 _), below_drewN bb2 _⟩
set_option maxRecDepth 100000 in
set_option maxHeartbeats 4000000 in
/-- the entry's stack, of a frame that has called one without a result. -/
theorem stack_mid0 (M : Mach) (p : List Fn) (e : Nat → Nat → Option (List Int)) (pv fv bv iv ov lv : Value) (l : List (Nat × List Int)) (i k pc j : Nat) (s : List Int) (x y : Frm) (f hh : Fn) (w : World) (h : CkAt w p pv fv bv iv ov M) (hx : M.frames[i]? = some x) (hy : M.frames[i + 1]? = some y) (hj : y.fn = (j : Int)) (hhj : p[j]? = some hh) (hr : hh.2.2.1 = 0) (hl : EntsRd w lv l) (ho : EntsOk p f (e k) l) (hpc : x.pc = (pc : Int)) (hs : e k pc = some s) (h6 : M.frames.length ≤ 1000) (hpl : p.length ≤ 1000) : Calls Tryz.prog 196 #[chkV pv fv bv iv ov M, .int .i64 i, lv] w fun e' w' => ∃ u, e' = .returned u ∧ FullInts w' u s ∧ Below w.heap.size w w' := by
  obtain ⟨⟨pp, qp, hpv⟩, -, ⟨pb, cb, hbv⟩, ⟨pi, ci, hiv⟩, ⟨po, co, hov⟩⟩ := h.shp
  obtain ⟨pf, cf, hfv, hfm, -, hfc⟩ := id h.mach.fr
  obtain ⟨k2, hix, hlk⟩ := ents_ix ho hs
  obtain ⟨pl, cl, hlv, hlm, hlc⟩ := id hl
  unfold maxLen at hlm
  subst hpv hfv hbv hiv hov hlv
  obtain ⟨g, off, lv1, sv1, rfl, hg, x0, x1, x2, x3, -, -, -, -⟩ := hfc i x hx
  obtain ⟨g', off', lv2, sv2, he', hg', y0, -, -, -, -⟩ := hfc (i + 1) y hy
  cases he'
  rw [hj] at y0
  obtain ⟨pp', qp', hpe, -, hpc'⟩ := id h.fns
  cases hpe
  obtain ⟨fb, fo, c0, c1, c2, c3, hpp, hplt, -, -, z2, -, hfn⟩ := hpc' j hh hhj
  subst hpp
  have hz2 := hfn.2.2.1
  rw [hr] at hz2
  subst hz2
  have hjl := lt_of_at hhj
  have hjli : (j : Int) < (p.length : Int) := by omega
  obtain ⟨gb, go, u, rfl, hgl, e0, e1, hu⟩ := hlc k2 pc s hlk
  obtain ⟨pu, cu, hus, hcu⟩ := hu.shp
  have hil := lt_of_at hy
  have hk2l := lt_of_at hlk
  have hiin : (i : Int) < (M.frames.length : Int) - 1 := by omega
  have hii : decide ((i : Int) < (M.frames.length : Int) - 1) = true := by simpa using hiin
  have hili : (i : Int) < (M.frames.length : Int) := by omega
  have hili2 : (i : Int) + 1 < (M.frames.length : Int) := by omega
  have hwi : IntKind.i64.wrap ((i : Int) + 1) = (i : Int) + 1 := by rw [IntKind.wrap_i64]; omega
  have hti : ((i : Int) + 1).toNat = i + 1 := by omega
  have hk2i : (k2 : Int) < (l.length : Int) := by omega
  have hb1 : ∀ o, Below w.heap.size w (w.alloc o) := fun o => (Below.refl _ w).alloc (Nat.le_refl _) _
  have x1a := fun o => cell_old x1 o
  rw [hpc] at x1a
  have HE : Hid (∀ W, Below w.heap.size w W → Calls Tryz.prog 228 #[.slice (some ⟨gb, go, none⟩) l.length cl, .int .i64 (pc : Int)] W fun e w' => e = .returned (.int .i64 (k2 : Int)) ∧ Below W.heap.size W w') := fun W hW => by
    rw [← hix]; exact entryAt_any l _ _ W (hl.below hW)
  subst hus
  have HU := hideP hu
  have HPC := hideP hpc
  clear h hx hy hl ho hfc hlc hix hlk hu hs hpc hpc' hfn x0 x1 x2 x3 hhj hj
  go_enter Tryz.func196, Tryz.ntmps196
  go_wp2_with (go_at_call 228; refine (HE.out _ (hb1 _)).mono ?_; rintro e' w2 ⟨rfl, b2⟩; have bb2 := bthen0 (hb1 _) b2; have m1 := (bb2.cell (p := ⟨gb, go + k2 * 2 + 1, none⟩) hgl).trans e1; have m0 := (b2.cell (p := ⟨w.heap.size, 0, none⟩) (by simp)).trans (cell_at' (World.alloc_heap_new w _) 0); have m6 := (b2.cell (p := ⟨w.heap.size, 6, none⟩) (by simp)).trans (cell_at' (World.alloc_heap_new w _) 6); simp at m0 m6; have my := (bb2.cell (p := ⟨g, off + (i + 1) * 4, none⟩) hg').trans y0; have mz := (bb2.cell (p := ⟨fb, fo + j * 4 + 2, none⟩) hplt).trans z2)
  go_quiet (fail)
  go_wp2
  go_ret
  exact ⟨_, rfl, HU.out.below (below_drewN bb2 _), below_drewN bb2 _⟩
set_option maxRecDepth 100000 in
set_option maxHeartbeats 4000000 in
/-- the entry's stack but the result, of a frame that has called one with a result. -/
theorem stack_mid1 (M : Mach) (p : List Fn) (e : Nat → Nat → Option (List Int)) (pv fv bv iv ov lv : Value) (l : List (Nat × List Int)) (i k pc j n : Nat) (s : List Int) (x y : Frm) (f hh : Fn) (w : World) (h : CkAt w p pv fv bv iv ov M) (hx : M.frames[i]? = some x) (hy : M.frames[i + 1]? = some y) (hj : y.fn = (j : Int)) (hhj : p[j]? = some hh) (hr : hh.2.2.1 ≠ 0) (hl : EntsRd w lv l) (ho : EntsOk p f (e k) l) (hpc : x.pc = (pc : Int)) (hs : e k pc = some s) (hsn : s.length = n + 1) (h6 : M.frames.length ≤ 1000) (hpl : p.length ≤ 1000) : Calls Tryz.prog 196 #[chkV pv fv bv iv ov M, .int .i64 i, lv] w fun e' w' => ∃ u, e' = .returned u ∧ FullInts w' u s.dropLast ∧ Below w.heap.size w w' := by
  obtain ⟨⟨pp, qp, hpv⟩, -, ⟨pb, cb, hbv⟩, ⟨pi, ci, hiv⟩, ⟨po, co, hov⟩⟩ := h.shp
  obtain ⟨pf, cf, hfv, hfm, -, hfc⟩ := id h.mach.fr
  obtain ⟨k2, hix, hlk⟩ := ents_ix ho hs
  obtain ⟨pl, cl, hlv, hlm, hlc⟩ := id hl
  unfold maxLen at hlm
  subst hpv hfv hbv hiv hov hlv
  obtain ⟨g, off, lv1, sv1, rfl, hg, x0, x1, x2, x3, -, -, -, -⟩ := hfc i x hx
  obtain ⟨g', off', lv2, sv2, he', hg', y0, -, -, -, -⟩ := hfc (i + 1) y hy
  cases he'
  rw [hj] at y0
  obtain ⟨pp', qp', hpe, -, hpc'⟩ := id h.fns
  cases hpe
  obtain ⟨fb, fo, c0, c1, c2, c3, hpp, hplt, -, -, z2, -, hfn⟩ := hpc' j hh hhj
  subst hpp
  have hz2 := hfn.2.2.1
  subst hz2
  have hrb : (hh.2.2.1 != 0) = true := by simpa using hr
  have hjl := lt_of_at hhj
  have hjli : (j : Int) < (p.length : Int) := by omega
  obtain ⟨gb, go, u, rfl, hgl, e0, e1, hu⟩ := hlc k2 pc s hlk
  obtain ⟨pu, cu, hus, hcu⟩ := hu.shp
  rw [hsn] at hus hcu
  have hn8 : n ≤ 7 := by have h8 := (ho.on k2 pc s hlk).2.1; rw [hsn] at h8; omega
  have hil := lt_of_at hy
  have hk2l := lt_of_at hlk
  have hiin : (i : Int) < (M.frames.length : Int) - 1 := by omega
  have hii : decide ((i : Int) < (M.frames.length : Int) - 1) = true := by simpa using hiin
  have hili : (i : Int) < (M.frames.length : Int) := by omega
  have hili2 : (i : Int) + 1 < (M.frames.length : Int) := by omega
  have hwi : IntKind.i64.wrap ((i : Int) + 1) = (i : Int) + 1 := by rw [IntKind.wrap_i64]; omega
  have hti : ((i : Int) + 1).toNat = i + 1 := by omega
  have hk2i : (k2 : Int) < (l.length : Int) := by omega
  have hb1 : ∀ o, Below w.heap.size w (w.alloc o) := fun o => (Below.refl _ w).alloc (Nat.le_refl _) _
  have x1a := fun o => cell_old x1 o
  rw [hpc] at x1a
  have HE : Hid (∀ W, Below w.heap.size w W → Calls Tryz.prog 228 #[.slice (some ⟨gb, go, none⟩) l.length cl, .int .i64 (pc : Int)] W fun e w' => e = .returned (.int .i64 (k2 : Int)) ∧ Below W.heap.size W w') := fun W hW => by
    rw [← hix]; exact entryAt_any l _ _ W (hl.below hW)
  subst hus
  have HU := hideP hu
  have HPC := hideP hpc
  clear h hx hy hl ho hfc hlc hix hlk hu hs hpc hpc' hfn x0 x1 x2 x3 hhj hj hr hsn
  go_enter Tryz.func196, Tryz.ntmps196
  go_wp2_with (go_at_call 228; refine (HE.out _ (hb1 _)).mono ?_; rintro e' w2 ⟨rfl, b2⟩; have bb2 := bthen0 (hb1 _) b2; have m1 := (bb2.cell (p := ⟨gb, go + k2 * 2 + 1, none⟩) hgl).trans e1; have m0 := (b2.cell (p := ⟨w.heap.size, 0, none⟩) (by simp)).trans (cell_at' (World.alloc_heap_new w _) 0); have m6 := (b2.cell (p := ⟨w.heap.size, 6, none⟩) (by simp)).trans (cell_at' (World.alloc_heap_new w _) 6); simp at m0 m6; have my := (bb2.cell (p := ⟨g, off + (i + 1) * 4, none⟩) hg').trans y0; have mz := (bb2.cell (p := ⟨fb, fo + j * 4 + 2, none⟩) hplt).trans z2)
  go_quiet (fail)
  go_wp2
  go_ret
  exact ⟨_, rfl, (fullInts_front HU.out).below (below_drewN bb2 _), below_drewN bb2 _⟩
end Go.Proofs.YtcadpoknolefpaaGreat
/- What Check, Start and Step of machines answer, plainly. -/
namespace Go.Proofs.YtcadpoknolefpaaGreat
open Go.RowKit
set_option linter.unusedSimpArgs false
set_option linter.unusedVariables false
open Classical in
/-- the entries of all functions, if the program fits. -/
noncomputable def entP (p : List Fn) : Nat → Nat → Option (List Int) := if h : ∃ e, AllFit p e then Classical.choose h else fun _ _ => none
theorem entP_fit {p : List Fn} (h : ∃ e, AllFit p e) : AllFit p (entP p) := by
  unfold entP
  rw [dif_pos h]
  exact Classical.choose_spec h
open Classical in
noncomputable def fitsE (p : List Fn) : Int := if progErr p ≠ 0 then progErr p else if ∃ e, AllFit p e then 0 else 4
theorem allFit_of {p : List Fn} (h : ∀ f ∈ p, ∃ e, Least p f (some e)) : ∃ e, AllFit p e := by
  have each : ∀ k : Nat, ∃ e : Nat → Option (List Int), ∀ f, p[k]? = some f → Least p f (some e) := fun k => by
    cases hk : p[k]? with
    | none => exact ⟨fun _ => none, fun f hf => by cases hf⟩
    | some f =>
      obtain ⟨e, he⟩ := h f (List.mem_of_getElem? hk)
      exact ⟨e, fun g hg => by cases hg; exact he⟩
  exact ⟨fun k => Classical.choose (each k), fun k f hf => Classical.choose_spec (each k) f hf⟩
theorem progIs_fitsE {p : List Fn} {er : Int} (h : ProgIs p er) : er = fitsE p := by
  unfold fitsE
  rcases h with ⟨a1, a2⟩ | ⟨a1, a2, a3⟩ | ⟨a1, a2, f, hf, hl⟩
  · rw [if_pos a1, a2]
  · rw [if_neg (by simp [a1]), if_pos (allFit_of a3), a2]
  · rw [if_neg (by simp [a1]), if_neg, a2]
    rintro ⟨e, he⟩
    obtain ⟨k, hk⟩ := List.getElem?_of_mem hf
    exact absurd (least_one hl (he k f hk)) (by simp)
theorem fitsE_zero {p : List Fn} : fitsE p = 0 ↔ progErr p = 0 ∧ AllFit p (entP p) := by
  unfold fitsE
  constructor
  · intro h
    split at h
    · rename_i h1; exact absurd h h1
    · rename_i h1
      split at h
      · rename_i h2; exact ⟨by simpa using h1, entP_fit h2⟩
      · cases h
  · rintro ⟨h1, h2⟩
    rw [if_neg (by simp [h1]), if_pos ⟨_, h2⟩]
noncomputable def checkE (p : List Fn) (M : Mach) : Int := if fitsE p ≠ 0 then fitsE p else machErr p (entP p) M
theorem checkE_zero {p : List Fn} {M : Mach} : checkE p M = 0 ↔ progErr p = 0 ∧ AllFit p (entP p) ∧ RightM p (entP p) M := by
  unfold checkE
  constructor
  · intro h
    split at h
    · rename_i h1; exact absurd h h1
    · rename_i h1
      obtain ⟨h2, h3⟩ := fitsE_zero.1 (by simpa using h1)
      exact ⟨h2, h3, (mach_right h3).1 h⟩
  · rintro ⟨h1, h2, h3⟩
    rw [if_neg (by simp [fitsE_zero.2 ⟨h1, h2⟩])]
    exact (mach_right h2).2 h3
def zeroM : Mach := ⟨[], [], [], [], 0, 0⟩
def startM (p : List Fn) : Mach := { zeroM with frames := [{ fn := 0, pc := 0, loc := freshL ((p[0]?.map fun f => f.2.1).getD []), stk := [] }] }
def stepM (p : List Fn) (m : Mach) : Mach := if m.status = 0 ∨ m.status = 1 then (match m.frames.getLast?, lastOp p m with
    | some x, some o => doOp p m x o
    | _, _ => m) else m
theorem lastOp_mk {p : List Fn} {m : Mach} {x : Frm} {k : Nat} {f : Fn} {o : Int × Int} (hx : m.frames.getLast? = some x) (hk : x.fn = (k : Int)) (hf : p[k]? = some f) (ho : f.2.2.2[x.pc.toNat]? = some o) : lastOp p m = some o := by
  unfold lastOp
  rw [hx]
  simp only [Option.bind_some, hk, Int.toNat_natCast, hf]
  exact ho
/-- the op that is next of a machine that is right and goes on. -/
theorem next_op {p : List Fn} {e : Nat → Nat → Option (List Int)} {m : Mach} (hp : progErr p = 0) (he : AllFit p e) (h : RightM p e m) (hs : m.status = 0 ∨ m.status = 1) : ∃ (x : Frm) (k : Nat) (f : Fn) (o : Int × Int), m.frames.getLast? = some x ∧ x.fn = (k : Int) ∧ p[k]? = some f ∧ 0 ≤ x.pc ∧ f.2.2.2[x.pc.toNat]? = some o ∧ lastOp p m = some o ∧ stepM p m = doOp p m x o ∧ RightM p e (doOp p m x o) := by
  obtain ⟨x, k, f, o, h1, h2, h3, h4, h5, h6⟩ := right_step hp he h hs
  have hl := lastOp_mk h1 h2 h3 h5
  refine ⟨x, k, f, o, h1, h2, h3, h4, h5, hl, ?_, h6⟩
  unfold stepM
  rw [if_pos hs, h1, hl]
theorem stepM_right {p : List Fn} {e : Nat → Nat → Option (List Int)} {m : Mach} (hp : progErr p = 0) (he : AllFit p e) (h : RightM p e m) : RightM p e (stepM p m) := by
  by_cases hs : m.status = 0 ∨ m.status = 1
  · obtain ⟨x, k, f, o, _, _, _, _, _, _, h1, h2⟩ := next_op hp he h hs
    rw [h1]
    exact h2
  · unfold stepM
    rw [if_neg hs]
    exact h
theorem stepM_outer {p : List Fn} {e : Nat → Nat → Option (List Int)} {m : Mach} (hp : progErr p = 0) (he : AllFit p e) (h : RightM p e m) : OuterM m (stepM p m) := by
  by_cases hs : m.status = 0 ∨ m.status = 1
  · obtain ⟨x, k, f, o, h0, _, _, _, _, _, h1, h2⟩ := next_op hp he h hs
    rw [h1]
    exact outer_step h0
  · unfold stepM
    rw [if_neg hs]
    exact outer_refl m m.status m.trap
theorem startM_right {p : List Fn} {e : Nat → Nat → Option (List Int)} (hp : progErr p = 0) (he : AllFit p e) : ∃ f, p[0]? = some f ∧ startM p = { zeroM with frames := [{ fn := 0, pc := 0, loc := freshL f.2.1, stk := [] }] } ∧ RightM p e (startM p) := by
  obtain ⟨h1, h2, _⟩ := progErr_zero hp
  obtain ⟨f, hf⟩ := at_of_lt (l := p) (k := 0) (by omega)
  have hs : startM p = { zeroM with frames := [{ fn := 0, pc := 0, loc := freshL f.2.1, stk := [] }] } := by simp [startM, hf]
  refine ⟨f, hf, hs, ?_⟩
  rw [hs]
  refine ⟨by simp [zeroM], by simp [zeroM], (by show blkErr [] = 0; decide), by simp [zeroM], by simp [zeroM], by simp [zeroM], fun x hx => ?_, fun i x hx => ?_, fun hw => by simp [zeroM] at hw⟩
  · simp at hx
    subst hx
    rfl
  · cases i with
    | succ i => simp at hx
    | zero =>
      simp at hx
      subst hx
      refine ⟨0, f, rfl, hf, fresh_areOf f.2.1 (okFn hp (List.mem_of_getElem? hf)).loc, fun v hv => fresh_ok hv, fun v hv => by simp at hv, fun _ => ⟨0, [], rfl, (he 0 f hf).1.first, rfl⟩, fun g hg => by simp at hg⟩
end Go.Proofs.YtcadpoknolefpaaGreat
/- machine's checker: functions of frames, one that waits; all of them in order. -/
namespace Go.Proofs.YtcadpoknolefpaaGreat
open Go.RowKit
set_option linter.unusedSimpArgs false
set_option linter.unusedVariables false
set_option maxRecDepth 100000 in
set_option maxHeartbeats 2000000 in
theorem ckFuncs_any (M : Mach) (p : List Fn) (fv bv iv ov : Value) (pp : Option Addr) (qp : Nat) (w : World) (hf : FrmsAt w fv M.frames) (h3 : ∃ p n c, bv = .slice p n c) (h4 : ∃ p n c, iv = .slice p n c) (h5 : ∃ p n c, ov = .slice p n c) : Calls Tryz.prog 100 #[chkV (.slice pp p.length qp) fv bv iv ov M] w (Says (funcsErr p M) w) := by
  obtain ⟨p3, n3, c3, rfl⟩ := h3
  obtain ⟨p4, n4, c4, rfl⟩ := h4
  obtain ⟨p5, n5, c5, rfl⟩ := h5
  obtain ⟨pf, cf, hfv, hfm, -, hfc⟩ := id hf
  subst hfv
  unfold maxLen at hfm
  obtain ⟨W1, hW1⟩ : ∃ W1, w.alloc (.cells #[.slice pf M.frames.length cf, .slice p3 n3 c3, .slice p4 n4 c4, .slice p5 n5 c5, .int .i64 M.status, .int .i64 M.trap, .slice pp p.length qp] 88) = W1 := ⟨_, rfl⟩
  have b1 : Below w.heap.size w W1 := by rw [← hW1]; exact (Below.refl _ w).alloc (Nat.le_refl _) _
  have x1 : W1.heap[w.heap.size]? = some (.cells #[.slice pf M.frames.length cf, .slice p3 n3 c3, .slice p4 n4 c4, .slice p5 n5 c5, .int .i64 M.status, .int .i64 M.trap, .slice pp p.length qp] 88 (0, 0)) := by rw [← hW1]; exact World.alloc_heap_new w _
  have lx := heap_lt x1
  have d0 : W1.cell? ⟨w.heap.size, 0, none⟩ = some (.slice pf M.frames.length cf) := cell_at' x1 0
  have d6 : W1.cell? ⟨w.heap.size, 6, none⟩ = some (.slice pp p.length qp) := cell_at' x1 6
  have HC := hideP (containsFrms_gen 138 #[.pointer (some ⟨w.heap.size, 0, none⟩)] (fun W => W.cell? ⟨w.heap.size, 6, none⟩ = some (.slice pp p.length qp) ∧ w.heap.size < W.heap.size) (inProg p) M.frames _ W1 (hf.below b1) ⟨d6, lx⟩ (fun W W' hI hb => ⟨(hb.cell (p := ⟨w.heap.size, 6, none⟩) hI.2).trans hI.1, Nat.lt_of_lt_of_le hI.2 hb.size⟩) (ent_mk Tryz.func138 (by kernel_rfl) rfl) (fun z lv sv W hI h1 h2 => ckFunc1_any p z lv sv pp qp w.heap.size W h1 h2 hI.1))
  have HFC := hideP hfc
  have hmf : ∀ (fn : Go.Fn) (first cap : Array Value) (w : World), (Instr.makeFunc fn first cap).run Tryz.prog w = .ok (.func fn first cap) w := fun _ _ _ _ => rfl
  clear hf hfc x1
  cases hall : M.frames.all (inProg p)
  · rw [hall] at HC
    go_enter Tryz.func100, Tryz.ntmps100
    go_wp2_with (go_at_call 139; refine HC.out.mono ?_; rintro e w2 ⟨rfl, b2⟩)
    go_ret
    exact ⟨by simp [funcsErr, hall], bthen0 b1 b2⟩
  · rw [hall] at HC
    obtain hM | ⟨x, r, hM⟩ : M.frames = [] ∨ ∃ x r, M.frames = x :: r := by
      cases M.frames with
      | nil => exact .inl rfl
      | cons x r => exact .inr ⟨x, r, rfl⟩
    · have h0len : ¬ (0 : Int) < (M.frames.length : Int) := by rw [hM]; simp
      have h0d : decide ((M.frames.length : Int) > 0) = false := by simpa using h0len
      have HM := hideP hM
      have HALL := hideP hall
      clear hM hall
      go_enter Tryz.func100, Tryz.ntmps100
      go_wp2_with (go_at_call 139; refine HC.out.mono ?_; rintro e w2 ⟨rfl, b2⟩; have k0 := (b2.cell (p := ⟨w.heap.size, 0, none⟩) lx).trans d0)
      go_ret
      refine ⟨?_, bthen0 b1 b2⟩
      unfold funcsErr
      rw [HALL.out, HM.out]
      simp
    · obtain ⟨g, off, lv, sv, rfl, hg, y0, -⟩ := HFC.out 0 x (by rw [hM]; rfl)
      have hpos : (0 : Int) < (M.frames.length : Int) := by rw [hM]; simp
      have hposd : decide ((M.frames.length : Int) > 0) = true := by simpa using hpos
      have HM := hideP hM
      have HALL := hideP hall
      clear hM hall
      have g0 := (b1.cell (p := ⟨g, off + 0 * 4, none⟩) hg).trans y0
      simp only [Nat.zero_mul, Nat.add_zero] at g0
      have hg1 := Nat.lt_of_lt_of_le hg b1.size
      by_cases h0 : x.fn = 0
      · have h0' : (x.fn != 0) = false := by simpa using h0
        go_enter Tryz.func100, Tryz.ntmps100
        go_wp2_with (go_at_call 139; refine HC.out.mono ?_; rintro e w2 ⟨rfl, b2⟩; have k0 := (b2.cell (p := ⟨w.heap.size, 0, none⟩) lx).trans d0; have k1 := (b2.cell (p := ⟨g, off, none⟩) hg1).trans g0)
        go_ret
        refine ⟨?_, bthen0 b1 b2⟩
        unfold funcsErr
        rw [HALL.out, HM.out]
        simp [h0]
      · have h0' : (x.fn != 0) = true := by simpa using h0
        go_enter Tryz.func100, Tryz.ntmps100
        go_wp2_with (go_at_call 139; refine HC.out.mono ?_; rintro e w2 ⟨rfl, b2⟩; have k0 := (b2.cell (p := ⟨w.heap.size, 0, none⟩) lx).trans d0; have k1 := (b2.cell (p := ⟨g, off, none⟩) hg1).trans g0)
        go_ret
        refine ⟨?_, bthen0 b1 b2⟩
        unfold funcsErr
        rw [HALL.out, HM.out]
        simp [h0]
theorem firstE_at : ∀ {es : List Int} {k : Nat} {a : Int}, es[k]? = some a → (∀ b ∈ es.take k, b = 0) → a ≠ 0 → firstE es = a
  | [], k, a, h, _, _ => by simp at h
  | b :: r, 0, a, h, _, ha => by
    simp at h
    subst h
    simp [firstE, ha]
  | b :: r, k + 1, a, h, hk, ha => by
    have h0 : b = 0 := hk b (by simp)
    simp only [firstE]
    rw [if_neg (by simp [h0])]
    exact firstE_at (by simpa using h) (fun c hc => hk c (by simp [hc])) ha
/-- the functions of the checker, in order. -/
def ckFns : List Nat := [96, 97, 98, 99, 100, 101, 102]
theorem ckFns_ent : ∀ F ∈ ckFns, Ent F := by
  intro F hF
  simp only [ckFns, List.mem_cons, List.not_mem_nil, or_false] at hF
  rcases hF with rfl | rfl | rfl | rfl | rfl | rfl | rfl
  · exact ent_mk Tryz.func96 (by kernel_rfl) rfl
  · exact ent_mk Tryz.func97 (by kernel_rfl) rfl
  · exact ent_mk Tryz.func98 (by kernel_rfl) rfl
  · exact ent_mk Tryz.func99 (by kernel_rfl) rfl
  · exact ent_mk Tryz.func100 (by kernel_rfl) rfl
  · exact ent_mk Tryz.func101 (by kernel_rfl) rfl
  · exact ent_mk Tryz.func102 (by kernel_rfl) rfl
end Go.Proofs.YtcadpoknolefpaaGreat
/- machine's checker: one thing behind the other; Check. -/
namespace Go.Proofs.YtcadpoknolefpaaGreat
open Go.RowKit
set_option linter.unusedSimpArgs false
set_option linter.unusedVariables false
/-- the row of method values. -/
def ckRow (c : Value) : List Value := ckFns.map fun F => .func (.func F) #[c] #[]
theorem ckRow_at (c : Value) {k F : Nat} (h : ckFns[k]? = some F) : (ckRow c)[k]? = some (.func (.func F) #[c] #[]) := by
  unfold ckRow
  rw [List.getElem?_map, h]
  rfl
set_option maxRecDepth 100000 in
set_option maxHeartbeats 4000000 in
theorem check_gen (M : Mach) (pv fv bv iv ov : Value) (es : List Int) (w : World) (h1 : ∃ p n c, pv = .slice p n c) (h2 : ∃ p n c, fv = .slice p n c) (h3 : ∃ p n c, bv = .slice p n c) (h4 : ∃ p n c, iv = .slice p n c) (h5 : ∃ p n c, ov = .slice p n c) (hes : es.length = 7)
    (hF : ∀ (k F : Nat) (a : Int), ckFns[k]? = some F → es[k]? = some a → (∀ b ∈ es.take k, b = 0) → ∀ W, Below w.heap.size w W → Calls Tryz.prog F #[chkV pv fv bv iv ov M] W (Says a W)) : Calls Tryz.prog 61 #[chkV pv fv bv iv ov M] w (Says (firstE es) w) := by
  obtain ⟨p1, n1, c1, rfl⟩ := h1
  obtain ⟨p2, n2, c2, rfl⟩ := h2
  obtain ⟨p3, n3, c3, rfl⟩ := h3
  obtain ⟨p4, n4, c4, rfl⟩ := h4
  obtain ⟨p5, n5, c5, rfl⟩ := h5
  have HF := hideP hF
  have HEE := hideP ckFns_ent
  have HES := hideP hes
  have hmf : ∀ (fn : Go.Fn) (first cap : Array Value) (w : World), (Instr.makeFunc fn first cap).run Tryz.prog w = .ok (.func fn first cap) w := fun _ _ _ _ => rfl
  obtain ⟨c, hc⟩ : ∃ c, chkV (.slice p1 n1 c1) (.slice p2 n2 c2) (.slice p3 n3 c3) (.slice p4 n4 c4) (.slice p5 n5 c5) M = c := ⟨_, rfl⟩
  have hb2 : ∀ o o', Below w.heap.size w ((w.alloc o).alloc o') := fun o o' => ((Below.refl _ w).alloc (Nat.le_refl _) _).alloc (by simp) _
  have hx2 : ∀ o o', ((w.alloc o).alloc o').heap[w.heap.size + 1]? = some o' := fun o o' => new_two w o o'
  have HC := hideP hc
  clear hF hes hc
  go_enter Tryz.func61, Tryz.ntmps61
  go_wp2_with fail
  go_loopw [5, 24] (fun _ i wr => ∃ k : Nat, k ≤ 7 ∧ i = .int .i64 k ∧ (∀ b ∈ es.take k, b = 0) ∧ Below w.heap.size w wr ∧ wr.heap[w.heap.size + 1]? = some (.cells (ckRow c).toArray 89 (0, 0))) (fun _ i _ => 7 - (intOf i).toNat)
  case atStart => exact ⟨0, Nat.zero_le _, rfl, by simp, hb2 _ _, by rw [← HC.out]; exact hx2 _ _⟩
  case round =>
    obtain ⟨k, hk, rfl, hok, hbw, hrow⟩ := hrel
    have HK := hideP hok
    clear hok
    by_cases hlt : k < 7
    · obtain ⟨F, hFk⟩ := at_of_lt (l := ckFns) (k := k) hlt
      obtain ⟨a, ha⟩ := at_of_lt (l := es) (k := k) (by rw [HES.out]; exact hlt)
      have hcell : wr.cell? ⟨w.heap.size + 1, k, none⟩ = some (.func (.func F) #[c] #[]) := by
        rw [cell_at' hrow]
        simpa using ckRow_at c hFk
      have hlti : (k : Int) < (7 : Int) := by omega
      have hent := HEE.out F (List.mem_of_getElem? hFk)
      have hEE : ∀ (args : Array Value) (W : World), (callFunc F args).run Tryz.prog W = .ok (.enter F args) W := hent
      have hlx := heap_lt hrow
      have HROW := hideP hrow
      have hcall := HF.out k F a hFk ha HK.out wr hbw
      rw [HC.out] at hcall
      have HCALL := hideP hcall
      have HA := hideP ha
      clear hrow hent hcall hFk ha
      by_cases h0 : a = 0
      · subst h0
        go_wp2_with fail
        refine HCALL.out.mono ?_
        rintro e w2 ⟨rfl, b2⟩
        go_wp2
        go_roundw
        case rel =>
          refine ⟨k + 1, by omega, by go_num, fun b hb => ?_, hbw.trans (b2.mono hbw.size), (b2.block _ hlx).trans HROW.out⟩
          rw [take_snoc es k _ HA.out] at hb
          rcases List.mem_append.1 hb with hb | hb
          · exact HK.out b hb
          · simpa using hb
        case measure => simp [intOf]; omega
      · have h0' : (a != 0) = true := by simpa using h0
        have HN := hideP h0
        clear h0
        go_wp2_with fail
        refine HCALL.out.mono ?_
        rintro e w2 ⟨rfl, b2⟩
        go_wp2
        go_ret
        exact ⟨by rw [firstE_at HA.out HK.out HN.out]; rfl, hbw.trans (b2.mono hbw.size)⟩
    · have hlt' : ¬ (k : Int) < (7 : Int) := by omega
      go_wp2
      go_ret
      refine ⟨?_, hbw⟩
      have h := HK.out
      rw [List.take_of_length_le (by rw [HES.out]; omega)] at h
      rw [firstE_zero.2 h]; rfl
end Go.Proofs.YtcadpoknolefpaaGreat
