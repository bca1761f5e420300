/- My texts Nb Nc Ng Nh: what of them is needed, joined. -/
import Derived.Deep.RegionWith
import Derived.Test.YtmjjkenblfndgaaGreatC1
import Derived.Test.YtmjjkenblfndgaaGreatC9
import Derived.Test.YtmjjkenblfndgaaGreatC14
import Derived.Test.YtmjjkenblfndgaaGreatC15
set_option maxRecDepth 100000
set_option maxHeartbeats 8000000
/- machine's checker: where a frame is, and what is to be on its stack. -/
namespace Go.Proofs.YtmjjkenblfndgaaGreat
open Go.RowKit
set_option linter.unusedSimpArgs false
set_option linter.unusedVariables false
structure CkAt (w : World) (p : List Fn) (pv fv bv iv ov : Value) (M : Mach) : Prop where
  fns : FnsAt w pv p
  cap : CapAt w pv
  mach : MachAt w fv bv iv ov M
theorem CkAt.below {w w' : World} {p : List Fn} {pv fv bv iv ov : Value} {M : Mach} (h : CkAt w p pv fv bv iv ov M) (hb : Below w.heap.size w w') : CkAt w' p pv fv bv iv ov M := ⟨h.fns.below hb, h.cap.below h.fns hb, h.mach.below hb⟩
theorem CkAt.shp {w : World} {p : List Fn} {pv fv bv iv ov : Value} {M : Mach} (h : CkAt w p pv fv bv iv ov M) : (∃ q c, pv = .slice q p.length c) ∧ (∃ q c, fv = .slice q M.frames.length c) ∧ (∃ q c, bv = .slice q M.blocks.length c) ∧ (∃ q c, iv = .slice q M.inp.length c) ∧ ∃ q c, ov = .slice q M.out.length c := by
  obtain ⟨pp, qp, h1, -, -⟩ := h.fns
  obtain ⟨pf, cf, h2, -, -, -⟩ := h.mach.fr
  obtain ⟨pb, cb, h3, -, -⟩ := h.mach.bl
  obtain ⟨pi, ci, h4, -⟩ := h.mach.inp.shp
  obtain ⟨po, co, h5, -⟩ := h.mach.out.shp
  exact ⟨⟨_, _, h1⟩, ⟨_, _, h2⟩, ⟨_, _, h3⟩, ⟨_, _, h4⟩, ⟨_, _, h5⟩⟩
theorem ent_ix {p : List Fn} {f : Fn} {e : Nat → Option (List Int)} {l : List (Nat × List Int)} (h : EntsOk p f e l) (n : Int) : decide (entIx l n ≥ 0) = (decide (0 ≤ n) && (e n.toNat).isSome) := by
  rcases xfuZ l n with ⟨h1, h2⟩ | ⟨k, z, h1, h2, h3⟩
  · rw [h1]
    cases hs : e n.toNat with
    | none => simp
    | some s =>
      by_cases h0 : 0 ≤ n
      · obtain ⟨k, hk⟩ := h.all n.toNat s hs
        have := h2 _ (List.mem_of_getElem? hk)
        simp at this
        omega
      · simp [h0]
  · rw [h1]
    obtain ⟨h4, _, _⟩ := h.on k z.1 z.2 h2
    have : n.toNat = z.1 := by omega
    rw [this, h4]
    simp
    omega
theorem eql_op (c a c' a' : Int) (w : World) : (binOp .eql 86 (.agg #[.int .i64 c, .int .i64 a]) (.agg #[.int .i64 c', .int .i64 a'])).run Tryz.prog w = .ok (.bool (c == c' && a == a')) w := by
  have u3 := Tryz.underlying3
  have a3 := Tryz.isAgg3
  have z3 := Tryz.sizeOf3
  have hS : Tryz.prog.underlying 86 = some (.struct (Tryz.prog.fieldsOf 86)) := by kernel_rfl
  have hp : Tryz.prog.stoodInHeld 86 = false := by kernel_rfl
  rw [run_eql_struct, show (10000 : Nat) = 9999 + 1 from rfl, run_equalIn_agg w 9999 86 _ _ hS hp]
  simp only [Program.fieldsOf, Tryz.underlying86]
  go_simp
  by_cases h1 : c = c' <;> by_cases h2 : a = a' <;> simp [h1, h2]
theorem xpwZ (M : Mach) (p : List Fn) (e : Nat → Nat → Option (List Int)) (pv fv bv iv ov lv : Value) (l : List (Nat × List Int)) (i k : Nat) (x : Frm) (f : Fn) (w : World) (h : CkAt w p pv fv bv iv ov M) (hx : M.frames[i]? = some x) (hi : i + 1 = M.frames.length) (hf : p[k]? = some f) (hl : EntsRd w lv l) (ho : EntsOk p f (e k) l) : Calls Tryz.prog 182 #[chkV pv fv bv iv ov M, .int .i64 i, lv] w fun e' w' => e' = .returned (.bool (xb4Z e none x k f)) ∧ Below w.heap.size w w' := by
  obtain ⟨⟨pp, qp, hpv⟩, -, ⟨pb, cb, hbv⟩, ⟨pi, ci, hiv⟩, ⟨po, co, hov⟩⟩ := h.shp
  obtain ⟨pf, cf, hfv, hfm, -, hfc⟩ := id h.mach.fr
  unfold maxLen at hfm
  obtain ⟨pl, cl, hlv⟩ := hl.shp
  subst hpv hfv hbv hiv hov hlv
  obtain ⟨g, off, lv1, sv1, rfl, hg, x0, x1, x2, x3, hL, -, hS, -⟩ := hfc i x hx
  obtain ⟨pl1, cl1, hlv1, -, -⟩ := hL
  obtain ⟨ps1, cs1, hsv1, -, -⟩ := hS
  subst hlv1 hsv1
  have hii : ((i : Int) == (M.frames.length : Int) - 1) = true := by simp; omega
  have hil := xadZ hx
  have hili : (i : Int) < (M.frames.length : Int) := by omega
  have x0a := fun o => xabZ x0 o
  have x1a := fun o => xabZ x1 o
  have x2a := fun o => xabZ x2 o
  have x3a := fun o => xabZ x3 o
  have HE : Hid (∀ W, Below w.heap.size w W → Calls Tryz.prog 224 #[.slice pl l.length cl, .int .i64 x.pc] W fun e w' => e = .returned (.int .i64 (entIx l x.pc)) ∧ Below W.heap.size W w') := fun W hW => xegZ l _ x.pc W (hl.below hW)
  have hix := ent_ix ho x.pc
  have HIX := hideP hix
  clear h hx hf hl ho hfc hix hi
  have hb2 : ∀ o o', Below w.heap.size w ((w.alloc o).alloc o') := fun o o' => ((Below.refl _ w).alloc (Nat.le_refl _) _).alloc (by simp) _
  go_enter Tryz.func182, Tryz.ntmps182
  go_wp2_with (go_at_call 224; refine (HE.out _ (hb2 _ _)).mono ?_; rintro e' w2 ⟨rfl, b2⟩)
  go_ret
  exact ⟨by simp only [HIX.out]; rfl, xafZ (hb2 _ _) b2⟩
theorem ent_before {p : List Fn} {f : Fn} {e : Nat → Option (List Int)} {l : List (Nat × List Int)} (h : EntsOk p f e l) (hc : f.2.2.2.length ≤ 1000) {n : Int} (h0 : -9223372036854775808 ≤ n) (h1 : n ≤ 9223372036854775807) : decide (entIx l (IntKind.i64.wrap (n - 1)) ≥ 0) = (decide (1 ≤ n) && (e (n - 1).toNat).isSome) := by
  rw [ent_ix h]
  by_cases hm : n = -9223372036854775808
  · subst hm
    have e1 : IntKind.i64.wrap (-9223372036854775808 - 1) = 9223372036854775807 := by rw [IntKind.wrap_i64]; decide
    rw [e1]
    cases hs : e (9223372036854775807 : Int).toNat with
    | none => simp
    | some s =>
      obtain ⟨k, hk⟩ := h.all _ s hs
      have := (h.on k _ s hk).2.2
      omega
  · have e1 : IntKind.i64.wrap (n - 1) = n - 1 := by rw [IntKind.wrap_i64]; omega
    rw [e1]
    congr 1
    by_cases h3 : 1 ≤ n
    · simp [h3]
    · simp [h3]
theorem placed_mid (M : Mach) (p : List Fn) (e : Nat → Nat → Option (List Int)) (pv fv bv iv ov lv : Value) (l : List (Nat × List Int)) (i k : Nat) (x y : Frm) (f : Fn) (w : World) (h : CkAt w p pv fv bv iv ov M) (hx : M.frames[i]? = some x) (hy : M.frames[i + 1]? = some y) (hf : p[k]? = some f) (hk : x.fn = (k : Int)) (hl : EntsRd w lv l) (ho : EntsOk p f (e k) l) (hcl : f.2.2.2.length ≤ 1000) (hpl : p.length ≤ 1000) (h6 : M.frames.length ≤ 1000) (hp1 : -9223372036854775808 ≤ x.pc) (hp2 : x.pc ≤ 9223372036854775807) : Calls Tryz.prog 182 #[chkV pv fv bv iv ov M, .int .i64 i, lv] w fun e' w' => e' = .returned (.bool (xb4Z e (some y.fn) x k f)) ∧ Below w.heap.size w w' := by
  obtain ⟨⟨pp, qp, hpv⟩, -, ⟨pb, cb, hbv⟩, ⟨pi, ci, hiv⟩, ⟨po, co, hov⟩⟩ := h.shp
  obtain ⟨pf, cf, hfv, hfm, -, hfc⟩ := id h.mach.fr
  obtain ⟨pl, cl, hlv⟩ := hl.shp
  subst hpv hfv hbv hiv hov hlv
  obtain ⟨g, off, lv1, sv1, rfl, hg, x0, x1, x2, x3, hL, -, hS, -⟩ := hfc i x hx
  obtain ⟨g', off', lv2, sv2, he', hg', y0, -, -, -, -⟩ := hfc (i + 1) y hy
  cases he'
  obtain ⟨pl1, cl1, hlv1, -, -⟩ := hL
  obtain ⟨ps1, cs1, hsv1, -, -⟩ := hS
  subst hlv1 hsv1
  have hil := xadZ hy
  have hii : ((i : Int) == (M.frames.length : Int) - 1) = false := by simp; omega
  have hili : (i : Int) < (M.frames.length : Int) := by omega
  have hili2 : (i : Int) + 1 < (M.frames.length : Int) := by omega
  have x0a := fun o => xabZ x0 o
  have x1a := fun o => xabZ x1 o
  have x2a := fun o => xabZ x2 o
  have x3a := fun o => xabZ x3 o
  rw [show off + (i + 1) * 4 = off + (i + 1) * 4 from rfl] at y0
  have y0b := fun o o' => xabZ (xabZ y0 o) o'
  have HE : Hid (∀ W, Below w.heap.size w W → Calls Tryz.prog 224 #[.slice pl l.length cl, .int .i64 (IntKind.i64.wrap (x.pc - 1))] W fun e w' => e = .returned (.int .i64 (entIx l (IntKind.i64.wrap (x.pc - 1)))) ∧ Below W.heap.size W w') := fun W hW => xegZ l _ _ W (hl.below hW)
  have hix := ent_before ho hcl hp1 hp2
  obtain ⟨pp', qp', hpe, -, hpc⟩ := id h.fns
  cases hpe
  obtain ⟨fb, fo, c0, c1, c2, c3, hpp, hplt, -, -, -, z3, hfn⟩ := hpc k f hf
  subst hpp
  obtain ⟨-, -, -, hops⟩ := hfn
  obtain ⟨p3, q3, he3, -, hoc⟩ := id hops
  subst he3
  have hkl := xadZ hf
  have hkli : (k : Int) < (p.length : Int) := by omega
  have HOC := hideP hoc
  have HIX := hideP hix
  have HO := hideP ho
  have HK := hideP hk
  obtain ⟨W3, hW3⟩ : ∃ W3, ((w.alloc (.cells #[.slice (some ⟨g, off, none⟩) M.frames.length cf, .slice pb M.blocks.length cb, .slice pi M.inp.length ci, .slice po M.out.length co, .int .i64 M.status, .int .i64 M.trap, .slice (some ⟨fb, fo, none⟩) p.length qp] 121)).alloc (.cells #[.int .i64 x.fn, .int .i64 x.pc, .slice pl1 x.loc.length cl1, .slice ps1 x.stk.length cs1] 89)).alloc (.cells #[.int .i64 12, .int .i64 y.fn] 86) = W3 := ⟨_, rfl⟩
  have b3 : Below w.heap.size w W3 := by rw [← hW3]; exact (((Below.refl _ w).alloc (Nat.le_refl _) _).alloc (by simp) _).alloc (by simp; omega) _
  have u1 : W3.heap[w.heap.size]? = some (.cells #[.slice (some ⟨g, off, none⟩) M.frames.length cf, .slice pb M.blocks.length cb, .slice pi M.inp.length ci, .slice po M.out.length co, .int .i64 M.status, .int .i64 M.trap, .slice (some ⟨fb, fo, none⟩) p.length qp] 121 (0, 0)) := by rw [← hW3]; exact xemZ _ _ _ _
  have u2 : W3.heap[w.heap.size + 1]? = some (.cells #[.int .i64 x.fn, .int .i64 x.pc, .slice pl1 x.loc.length cl1, .slice ps1 x.stk.length cs1] 89 (0, 0)) := by rw [← hW3]; exact xecZ _ _ _ _
  have u3 : W3.heap[w.heap.size + 1 + 1]? = some (.cells #[.int .i64 12, .int .i64 y.fn] 86 (0, 0)) := by rw [← hW3]; exact new3 _ _ _ _
  have l1 := xacZ u1
  have l2 := xacZ u2
  have l3 := xacZ u3
  have v6 : W3.cell? ⟨w.heap.size, 6, none⟩ = some (.slice (some ⟨fb, fo, none⟩) p.length qp) := xaaZ u1 6
  have v0 : W3.cell? ⟨w.heap.size + 1, 0, none⟩ = some (.int .i64 k) := by have := xaaZ u2 0; rw [hk] at this; exact this
  have v1 : W3.cell? ⟨w.heap.size + 1, 1, none⟩ = some (.int .i64 x.pc) := xaaZ u2 1
  have t0 : W3.cell? ⟨w.heap.size + 1 + 1, 0, none⟩ = some (.int .i64 12) := xaaZ u3 0
  have t1 : W3.cell? ⟨w.heap.size + 1 + 1, 1, none⟩ = some (.int .i64 y.fn) := xaaZ u3 1
  have q3' := (b3.cell (p := ⟨fb, fo + k * 4 + 3, none⟩) hplt).trans z3
  have hfb3 := Nat.lt_of_lt_of_le hplt b3.size
  have hgu := guard_op
  clear h hx hy hf hl ho hfc hpc hoc hops hix hk u1 u2 u3
  have hspec := xfuZ l (IntKind.i64.wrap (x.pc - 1))
  rcases hspec with ⟨hE, -⟩ | ⟨k2, z2, hE, hz2, hz3⟩
  · have hres : xb4Z e (some y.fn) x k f = false := by
      have := HIX.out
      rw [hE] at this
      simp only [xb4Z, ← this]
      simp
    have HRES := hideP hres
    rw [hE] at HE
    clear hres hE
    go_enter Tryz.func182, Tryz.ntmps182
    go_wp2_with fail
    refine wp_region_held_drew (S := fun X => X.cell? ⟨w.heap.size + 1, 1, none⟩ = some (.int .i64 x.pc)) (by kernel_rfl) v1 (fun hHeld => ?_)
    refine wpAnyH_take (i := 0) (oi := { dst := some 36, op := Op.move (Operand.tmp 2), type := 103, pos := "check.go:136", after := #[], guard := none }) (v := ?_) rfl (by kernel_rfl) (by kernel_rfl) (by kernel_rfl) (fun _ _ _ h => h) (Or.inl ⟨by rfl, ?_⟩) (by assumption) ?_
    rotate_left
    · (intro wS hSw; (try dsimp only at hSw); go_simp) <;> (first | done | with_reducible rfl)
    try simp only [Act.put, List.setIfInBounds_toArray, List.set_cons_zero, List.set_cons_succ]
    refine wpAnyH_take (i := 1) (oi := { dst := some 37, op := Op.fieldAddr 89 (Operand.tmp 7) 1, type := 0, pos := "check.go:136", after := #[], guard := none }) (v := ?_) rfl (by kernel_rfl) (by kernel_rfl) (by kernel_rfl) (fun _ _ _ h => h) (Or.inl ⟨by rfl, ?_⟩) (by assumption) ?_
    rotate_left
    · (intro wS hSw; (try dsimp only at hSw); go_simp) <;> (first | done | with_reducible rfl)
    try simp only [Act.put, List.setIfInBounds_toArray, List.set_cons_zero, List.set_cons_succ]
    refine wpAnyH_take (i := 2) (oi := { dst := some 38, op := Op.load 3 (Operand.tmp 37), type := 3, pos := "check.go:136", after := #[{ on := 1, ground := Ground.data }], guard := none }) (v := ?_) rfl (by kernel_rfl) (by kernel_rfl) (by kernel_rfl) (fun _ _ _ h => h) (Or.inl ⟨by rfl, ?_⟩) (by assumption) ?_
    rotate_left
    · (intro wS hSw; (try dsimp only at hSw); go_simp) <;> (first | done | with_reducible rfl)
    try simp only [Act.put, List.setIfInBounds_toArray, List.set_cons_zero, List.set_cons_succ]
    refine wpAnyH_take (i := 3) (oi := { dst := some 39, op := Op.binOp BinOp.sub 3 (Operand.tmp 38) (Operand.const (Value.int IntKind.i64 1)) 3, type := 3, pos := "check.go:136", after := #[{ on := 2, ground := Ground.data }], guard := none }) (v := ?_) rfl (by kernel_rfl) (by kernel_rfl) (by kernel_rfl) (fun _ _ _ h => h) (Or.inl ⟨by rfl, ?_⟩) (by assumption) ?_
    rotate_left
    · (intro wS hSw; (try dsimp only at hSw); go_simp) <;> (first | done | with_reducible rfl)
    try simp only [Act.put, List.setIfInBounds_toArray, List.set_cons_zero, List.set_cons_succ]
    refine wpAnyH_ready (rs := [4]) (by kernel_rfl) (by simp) ?_
    refine AllReadyH.cons (o := { dst := some 40, op := Op.call { callee := Callee.value (Operand.func 224), args := #[Operand.tmp 36, Operand.tmp 39], argTypes := #[103, 3] }, type := 3, pos := "check.go:136", after := #[{ on := 0, ground := Ground.data }, { on := 3, ground := Ground.data }], guard := none }) rfl (fun K hK => ?_) AllReadyH.nil
    go_simp
    go_at_call 224; refine (HE.out _ (b3.trans (((Below.refl _ W3).drew).mono b3.size))).mono ?_; rintro e' w4 ⟨rfl, b4'⟩; have b4 : Below W3.heap.size W3 w4 := ((Below.refl _ W3).drew).trans b4'; have r1 := (b4.cell (p := ⟨w.heap.size + 1, 1, none⟩) l2).trans v1
    refine hK.out _ _ ?_ (fun hHeld => ?_)
    · exact r1
    clear hK K
    try simp only [Act.put, List.setIfInBounds_toArray, List.set_cons_zero, List.set_cons_succ]
    refine wpAnyH_take (i := 5) (oi := { dst := some 41, op := Op.binOp BinOp.geq 3 (Operand.tmp 40) (Operand.const (Value.int IntKind.i64 0)) 3, type := 4, pos := "check.go:136", after := #[{ on := 4, ground := Ground.data }], guard := none }) (v := ?_) rfl (by kernel_rfl) (by kernel_rfl) (by kernel_rfl) (fun _ _ _ h => h) (Or.inl ⟨by rfl, ?_⟩) (by assumption) ?_
    rotate_left
    · (intro wS hSw; (try dsimp only at hSw); go_simp) <;> (first | done | with_reducible rfl)
    try simp only [Act.put, List.setIfInBounds_toArray, List.set_cons_zero, List.set_cons_succ]
    refine wpAnyH_take (i := 6) (oi := { dst := some 42, op := Op.move (Operand.tmp 41), type := 4, pos := "check.go:136", after := #[{ on := 5, ground := Ground.data }, { on := 4, ground := Ground.chain }], guard := none }) (v := ?_) rfl (by kernel_rfl) (by kernel_rfl) (by kernel_rfl) (fun _ _ _ h => h) (Or.inl ⟨by rfl, ?_⟩) (by assumption) ?_
    rotate_left
    · (intro wS hSw; (try dsimp only at hSw); go_simp) <;> (first | done | with_reducible rfl)
    try simp only [Act.put, List.setIfInBounds_toArray, List.set_cons_zero, List.set_cons_succ]
    refine wpAnyH_take (i := 7) (oi := { dst := some 43, op := Op.fieldAddr 121 (Operand.tmp 3) 1, type := 0, pos := "check.go:136", after := #[{ on := 6, ground := Ground.guard }], guard := some (6, true) }) (v := undef) rfl (by kernel_rfl) (by kernel_rfl) (by kernel_rfl) (fun _ _ _ h => h) (Or.inr ⟨by rfl, rfl⟩) (by assumption) ?_
    try simp only [Act.put, List.setIfInBounds_toArray, List.set_cons_zero, List.set_cons_succ]
    refine wpAnyH_take (i := 8) (oi := { dst := some 44, op := Op.fieldAddr 24 (Operand.tmp 43) 0, type := 0, pos := "check.go:136", after := #[{ on := 7, ground := Ground.data }, { on := 6, ground := Ground.guard }], guard := some (6, true) }) (v := undef) rfl (by kernel_rfl) (by kernel_rfl) (by kernel_rfl) (fun _ _ _ h => h) (Or.inr ⟨by rfl, rfl⟩) (by assumption) ?_
    try simp only [Act.put, List.setIfInBounds_toArray, List.set_cons_zero, List.set_cons_succ]
    refine wpAnyH_take (i := 9) (oi := { dst := some 45, op := Op.load 22 (Operand.tmp 44), type := 22, pos := "check.go:136", after := #[{ on := 8, ground := Ground.data }, { on := 6, ground := Ground.guard }], guard := some (6, true) }) (v := undef) rfl (by kernel_rfl) (by kernel_rfl) (by kernel_rfl) (fun _ _ _ h => h) (Or.inr ⟨by rfl, rfl⟩) (by assumption) ?_
    try simp only [Act.put, List.setIfInBounds_toArray, List.set_cons_zero, List.set_cons_succ]
    refine wpAnyH_take (i := 10) (oi := { dst := some 46, op := Op.fieldAddr 89 (Operand.tmp 7) 0, type := 0, pos := "check.go:136", after := #[{ on := 6, ground := Ground.guard }], guard := some (6, true) }) (v := undef) rfl (by kernel_rfl) (by kernel_rfl) (by kernel_rfl) (fun _ _ _ h => h) (Or.inr ⟨by rfl, rfl⟩) (by assumption) ?_
    try simp only [Act.put, List.setIfInBounds_toArray, List.set_cons_zero, List.set_cons_succ]
    refine wpAnyH_take (i := 11) (oi := { dst := some 47, op := Op.load 3 (Operand.tmp 46), type := 3, pos := "check.go:136", after := #[{ on := 10, ground := Ground.data }, { on := 6, ground := Ground.guard }], guard := some (6, true) }) (v := undef) rfl (by kernel_rfl) (by kernel_rfl) (by kernel_rfl) (fun _ _ _ h => h) (Or.inr ⟨by rfl, rfl⟩) (by assumption) ?_
    try simp only [Act.put, List.setIfInBounds_toArray, List.set_cons_zero, List.set_cons_succ]
    refine wpAnyH_take (i := 12) (oi := { dst := some 48, op := Op.indexAddr 22 (Operand.tmp 45) (Operand.tmp 47), type := 0, pos := "check.go:136", after := #[{ on := 9, ground := Ground.data }, { on := 11, ground := Ground.data }, { on := 6, ground := Ground.guard }], guard := some (6, true) }) (v := undef) rfl (by kernel_rfl) (by kernel_rfl) (by kernel_rfl) (fun _ _ _ h => h) (Or.inr ⟨by rfl, rfl⟩) (by assumption) ?_
    try simp only [Act.put, List.setIfInBounds_toArray, List.set_cons_zero, List.set_cons_succ]
    refine wpAnyH_take (i := 13) (oi := { dst := some 49, op := Op.fieldAddr 119 (Operand.tmp 48) 3, type := 0, pos := "check.go:136", after := #[{ on := 12, ground := Ground.data }, { on := 6, ground := Ground.guard }], guard := some (6, true) }) (v := undef) rfl (by kernel_rfl) (by kernel_rfl) (by kernel_rfl) (fun _ _ _ h => h) (Or.inr ⟨by rfl, rfl⟩) (by assumption) ?_
    try simp only [Act.put, List.setIfInBounds_toArray, List.set_cons_zero, List.set_cons_succ]
    refine wpAnyH_take (i := 14) (oi := { dst := some 50, op := Op.load 117 (Operand.tmp 49), type := 117, pos := "check.go:136", after := #[{ on := 13, ground := Ground.data }, { on := 6, ground := Ground.guard }], guard := some (6, true) }) (v := undef) rfl (by kernel_rfl) (by kernel_rfl) (by kernel_rfl) (fun _ _ _ h => h) (Or.inr ⟨by rfl, rfl⟩) (by assumption) ?_
    try simp only [Act.put, List.setIfInBounds_toArray, List.set_cons_zero, List.set_cons_succ]
    refine wpAnyH_take (i := 15) (oi := { dst := some 51, op := Op.fieldAddr 89 (Operand.tmp 7) 1, type := 0, pos := "check.go:136", after := #[{ on := 6, ground := Ground.guard }], guard := some (6, true) }) (v := undef) rfl (by kernel_rfl) (by kernel_rfl) (by kernel_rfl) (fun _ _ _ h => h) (Or.inr ⟨by rfl, rfl⟩) (by assumption) ?_
    try simp only [Act.put, List.setIfInBounds_toArray, List.set_cons_zero, List.set_cons_succ]
    refine wpAnyH_take (i := 16) (oi := { dst := some 52, op := Op.load 3 (Operand.tmp 51), type := 3, pos := "check.go:136", after := #[{ on := 15, ground := Ground.data }, { on := 6, ground := Ground.guard }], guard := some (6, true) }) (v := undef) rfl (by kernel_rfl) (by kernel_rfl) (by kernel_rfl) (fun _ _ _ h => h) (Or.inr ⟨by rfl, rfl⟩) (by assumption) ?_
    try simp only [Act.put, List.setIfInBounds_toArray, List.set_cons_zero, List.set_cons_succ]
    refine wpAnyH_take (i := 17) (oi := { dst := some 53, op := Op.binOp BinOp.sub 3 (Operand.tmp 52) (Operand.const (Value.int IntKind.i64 1)) 3, type := 3, pos := "check.go:136", after := #[{ on := 16, ground := Ground.data }, { on := 6, ground := Ground.guard }], guard := some (6, true) }) (v := undef) rfl (by kernel_rfl) (by kernel_rfl) (by kernel_rfl) (fun _ _ _ h => h) (Or.inr ⟨by rfl, rfl⟩) (by assumption) ?_
    try simp only [Act.put, List.setIfInBounds_toArray, List.set_cons_zero, List.set_cons_succ]
    refine wpAnyH_take (i := 18) (oi := { dst := some 54, op := Op.indexAddr 117 (Operand.tmp 50) (Operand.tmp 53), type := 0, pos := "check.go:136", after := #[{ on := 14, ground := Ground.data }, { on := 17, ground := Ground.data }, { on := 6, ground := Ground.guard }], guard := some (6, true) }) (v := undef) rfl (by kernel_rfl) (by kernel_rfl) (by kernel_rfl) (fun _ _ _ h => h) (Or.inr ⟨by rfl, rfl⟩) (by assumption) ?_
    try simp only [Act.put, List.setIfInBounds_toArray, List.set_cons_zero, List.set_cons_succ]
    refine wpAnyH_take (i := 19) (oi := { dst := some 55, op := Op.load 86 (Operand.tmp 54), type := 86, pos := "check.go:136", after := #[{ on := 18, ground := Ground.data }, { on := 6, ground := Ground.guard }], guard := some (6, true) }) (v := undef) rfl (by kernel_rfl) (by kernel_rfl) (by kernel_rfl) (fun _ _ _ h => h) (Or.inr ⟨by rfl, rfl⟩) (by assumption) ?_
    try simp only [Act.put, List.setIfInBounds_toArray, List.set_cons_zero, List.set_cons_succ]
    refine wpAnyH_take (i := 20) (oi := { dst := some 56, op := Op.load 86 (Operand.tmp 8), type := 86, pos := "check.go:136", after := #[{ on := 6, ground := Ground.guard }], guard := some (6, true) }) (v := undef) rfl (by kernel_rfl) (by kernel_rfl) (by kernel_rfl) (fun _ _ _ h => h) (Or.inr ⟨by rfl, rfl⟩) (by assumption) ?_
    try simp only [Act.put, List.setIfInBounds_toArray, List.set_cons_zero, List.set_cons_succ]
    refine wpAnyH_take (i := 21) (oi := { dst := some 57, op := Op.binOp BinOp.eql 86 (Operand.tmp 55) (Operand.tmp 56) 86, type := 4, pos := "check.go:136", after := #[{ on := 19, ground := Ground.data }, { on := 20, ground := Ground.data }, { on := 6, ground := Ground.guard }], guard := some (6, true) }) (v := undef) rfl (by kernel_rfl) (by kernel_rfl) (by kernel_rfl) (fun _ _ _ h => h) (Or.inr ⟨by rfl, rfl⟩) (by assumption) ?_
    try simp only [Act.put, List.setIfInBounds_toArray, List.set_cons_zero, List.set_cons_succ]
    refine wpAnyH_take (i := 22) (oi := { dst := some 58, op := Op.pick (Operand.tmp 42) (Operand.tmp 57) (Operand.const (Value.bool false)), type := 4, pos := "check.go:136", after := #[{ on := 6, ground := Ground.data }, { on := 21, ground := Ground.data }], guard := none }) (v := ?_) rfl (by kernel_rfl) (by kernel_rfl) (by kernel_rfl) (fun _ _ _ h => h) (Or.inl ⟨by rfl, ?_⟩) (by assumption) ?_
    rotate_left
    · (intro wS hSw; (try dsimp only at hSw); go_simp) <;> (first | done | with_reducible rfl)
    try simp only [Act.put, List.setIfInBounds_toArray, List.set_cons_zero, List.set_cons_succ]
    refine wpAnyH_take (i := 23) (oi := { dst := some 6, op := Op.assign (Operand.tmp 58), type := 4, pos := "check.go:136", after := #[{ on := 22, ground := Ground.data }, { on := 6, ground := Ground.chain }, { on := 0, ground := Ground.phase }, { on := 1, ground := Ground.phase }, { on := 2, ground := Ground.phase }, { on := 3, ground := Ground.phase }, { on := 4, ground := Ground.phase }, { on := 5, ground := Ground.phase }, { on := 6, ground := Ground.phase }, { on := 7, ground := Ground.phase }, { on := 8, ground := Ground.phase }, { on := 9, ground := Ground.phase }, { on := 10, ground := Ground.phase }, { on := 11, ground := Ground.phase }, { on := 12, ground := Ground.phase }, { on := 13, ground := Ground.phase }, { on := 14, ground := Ground.phase }, { on := 15, ground := Ground.phase }, { on := 16, ground := Ground.phase }, { on := 17, ground := Ground.phase }, { on := 18, ground := Ground.phase }, { on := 19, ground := Ground.phase }, { on := 20, ground := Ground.phase }, { on := 21, ground := Ground.phase }, { on := 22, ground := Ground.phase }], guard := none }) (v := ?_) rfl (by kernel_rfl) (by kernel_rfl) (by kernel_rfl) (fun _ _ _ h => h) (Or.inl ⟨by rfl, ?_⟩) (by assumption) ?_
    rotate_left
    · (intro wS hSw; (try dsimp only at hSw); go_simp) <;> (first | done | with_reducible rfl)
    try simp only [Act.put, List.setIfInBounds_toArray, List.set_cons_zero, List.set_cons_succ]
    refine wpAnyH_done (by kernel_rfl) ?_ _
    go_wp2
    go_ret
    exact ⟨by rw [HRES.out]; rfl, xafZ b3 b4⟩
  · have hpe := HIX.out
    rw [hE] at hpe
    have hge : decide ((k2 : Int) ≥ 0) = true := by simp
    rw [hge] at hpe
    have hpe2 := hpe.symm
    simp only [Bool.and_eq_true, decide_eq_true_eq, Option.isSome_iff_exists] at hpe2
    obtain ⟨hpos, s0, hs0⟩ := hpe2
    obtain ⟨n, hn⟩ : ∃ n : Nat, x.pc = (n : Int) + 1 := ⟨(x.pc - 1).toNat, by omega⟩
    have hn1 : (x.pc - 1).toNat = n := by omega
    rw [hn1] at hs0
    obtain ⟨k3, hk3⟩ := HO.out.all n s0 hs0
    have hnl := (HO.out.on k3 n s0 hk3).2.2
    obtain ⟨⟨oc, oa⟩, hop⟩ := xagZ (l := f.2.2.2) (k := n) hnl
    obtain ⟨ob, oo, hob, holt, o0, o1⟩ := HOC.out n _ hop
    cases hob
    simp only at o0 o1
    have j0 := (b3.cell (p := ⟨ob, oo + n * 2, none⟩) holt).trans o0
    have j1 := (b3.cell (p := ⟨ob, oo + n * 2 + 1, none⟩) holt).trans o1
    have hob3 := Nat.lt_of_lt_of_le holt b3.size
    have hnli : (n : Int) < (f.2.2.2.length : Int) := by omega
    have hsub : IntKind.i64.wrap (x.pc - 1) = (n : Int) := by rw [IntKind.wrap_i64]; omega
    have hres : xb4Z e (some y.fn) x k f = (oc == 12 && oa == y.fn) := by
      simp only [xb4Z]
      rw [← hpe, hn1, hop]
      have e1 : ((some (oc, oa) : Option (Int × Int)) == some (12, y.fn)) = ((oc, oa) == ((12 : Int), y.fn)) := rfl
      rw [e1, Bool.true_and]
      rfl
    have HRES := hideP hres
    have heq : ∀ W, (binOp .eql 86 (.agg #[.int .i64 oc, .int .i64 oa]) (.agg #[.int .i64 12, .int .i64 y.fn])).run Tryz.prog W = .ok (.bool (oc == 12 && oa == y.fn)) W := fun W => eql_op _ _ _ _ W
    rw [hE, hsub] at HE
    have HN := hideP hn
    clear hres hpe hs0 hk3 hop o0 o1 hE hz2 hz3 HIX hn1 hpos hn
    go_enter Tryz.func182, Tryz.ntmps182
    go_wp2_with fail
    go_region_held3 (fun X => X.cell? ⟨w.heap.size + 1, 1, none⟩ = some (.int .i64 x.pc) ∧ X.cell? ⟨w.heap.size + 1, 0, none⟩ = some (.int .i64 k) ∧ X.cell? ⟨w.heap.size, 6, none⟩ = some (.slice (some ⟨fb, fo, none⟩) p.length qp) ∧ X.cell? ⟨fb, fo + k * 4 + 3, none⟩ = some (.slice (some ⟨ob, oo, none⟩) f.2.2.2.length q3) ∧ X.cell? ⟨ob, oo + n * 2, none⟩ = some (.int .i64 oc) ∧ X.cell? ⟨ob, oo + n * 2 + 1, none⟩ = some (.int .i64 oa) ∧ X.cell? ⟨w.heap.size + 1 + 1, 0, none⟩ = some (.int .i64 12) ∧ X.cell? ⟨w.heap.size + 1 + 1, 1, none⟩ = some (.int .i64 y.fn)) (go_keep)
      (first | (go_at_call 224; (with_reducible refine (HE.out _ (b3.trans (((Below.refl _ W3).drew).mono b3.size))).mono ?_); rintro e' w4 ⟨rfl, b4'⟩; have b4 : Below W3.heap.size W3 w4 := ((Below.refl _ W3).drew).trans b4'; have r1 := (b4.cell (p := ⟨w.heap.size + 1, 1, none⟩) l2).trans v1; have r2 := (b4.cell (p := ⟨w.heap.size + 1, 0, none⟩) l2).trans v0; have r3 := (b4.cell (p := ⟨w.heap.size, 6, none⟩) l1).trans v6; have r4 := (b4.cell (p := ⟨fb, fo + k * 4 + 3, none⟩) hfb3).trans q3'; have r5 := (b4.cell (p := ⟨ob, oo + n * 2, none⟩) hob3).trans j0; have r6 := (b4.cell (p := ⟨ob, oo + n * 2 + 1, none⟩) hob3).trans j1; have r7 := (b4.cell (p := ⟨w.heap.size + 1 + 1, 0, none⟩) l3).trans t0; have r8 := (b4.cell (p := ⟨w.heap.size + 1 + 1, 1, none⟩) l3).trans t1))
    go_wp2
    go_ret
    exact ⟨by rw [HRES.out]; rfl, xafZ b3 b4⟩
end Go.Proofs.YtmjjkenblfndgaaGreat


/- machine's checker: what is to be on a frame's stack. -/
namespace Go.Proofs.YtmjjkenblfndgaaGreat
open Go.RowKit
set_option linter.unusedSimpArgs false
set_option linter.unusedVariables false
theorem ents_ix {p : List Fn} {f : Fn} {e : Nat → Option (List Int)} {l : List (Nat × List Int)} (h : EntsOk p f e l) {pc : Nat} {s : List Int} (hs : e pc = some s) : ∃ k : Nat, entIx l (pc : Int) = (k : Int) ∧ l[k]? = some (pc, s) := by
  obtain ⟨j, hj⟩ := h.all pc s hs
  rcases xfuZ l (pc : Int) with ⟨h1, h2⟩ | ⟨k, z, h1, h2, h3⟩
  · exact absurd rfl (h2 _ (List.mem_of_getElem? hj))
  · obtain ⟨a, b⟩ := z
    have e1 : a = pc := by have h4 : (a : Int) = (pc : Int) := h3; omega
    subst e1
    have := (h.on k a b h2).1
    rw [hs] at this
    cases this
    exact ⟨k, h1, h2⟩
theorem xlaZ {W : World} {p : Option Addr} {n c : Nat} {s : List Int} (h : FullInts W (.slice p (n + 1) c) s) : FullInts W (.slice p n c) s.dropLast := by
  obtain ⟨q, c', hv, hm, hc⟩ := h.at_
  injection hv with e1 e2 e3
  subst e1
  have hl : s.dropLast.length = n := by rw [List.length_dropLast]; omega
  refine ⟨⟨p, c, by rw [hl], by omega, fun k z hk => ?_⟩, fun n' c' e => ?_, fun p' n' c' e => ?_⟩
  · rw [List.getElem?_dropLast] at hk
    split at hk
    · exact hc k z hk
    · cases hk
  · cases e
    exact h.nil (n + 1) c rfl
  · cases e
    have := h.cap _ _ _ rfl
    omega
/-- the entry's stack, of the innermost frame. -/
theorem stack_last (M : Mach) (p : List Fn) (e : Nat → Nat → Option (List Int)) (pv fv bv iv ov lv : Value) (l : List (Nat × List Int)) (i k pc : Nat) (s : List Int) (x : Frm) (f : Fn) (w : World) (h : CkAt w p pv fv bv iv ov M) (hx : M.frames[i]? = some x) (hi : i + 1 = M.frames.length) (hl : EntsRd w lv l) (ho : EntsOk p f (e k) l) (hpc : x.pc = (pc : Int)) (hs : e k pc = some s) (h6 : M.frames.length ≤ 1000) : Calls Tryz.prog 183 #[chkV pv fv bv iv ov M, .int .i64 i, lv] w fun e' w' => ∃ u, e' = .returned u ∧ FullInts w' u s ∧ Below w.heap.size w w' := by
  obtain ⟨⟨pp, qp, hpv⟩, -, ⟨pb, cb, hbv⟩, ⟨pi, ci, hiv⟩, ⟨po, co, hov⟩⟩ := h.shp
  obtain ⟨pf, cf, hfv, hfm, -, hfc⟩ := id h.mach.fr
  obtain ⟨k2, hix, hlk⟩ := ents_ix ho hs
  obtain ⟨pl, cl, hlv, hlm, hlc⟩ := id hl
  unfold maxLen at hlm
  subst hpv hfv hbv hiv hov hlv
  obtain ⟨g, off, lv1, sv1, rfl, hg, x0, x1, x2, x3, -, -, -, -⟩ := hfc i x hx
  obtain ⟨gb, go, u, rfl, hgl, e0, e1, hu⟩ := hlc k2 pc s hlk
  obtain ⟨pu, cu, hus, hcu⟩ := hu.shp
  have hil := xadZ hx
  have hk2l := xadZ hlk
  have hiin : ¬ ((i : Int) < (M.frames.length : Int) - 1) := by omega
  have hii : decide ((i : Int) < (M.frames.length : Int) - 1) = false := by simpa using hiin
  have hili : (i : Int) < (M.frames.length : Int) := by omega
  have hk2i : (k2 : Int) < (l.length : Int) := by omega
  have hb1 : ∀ o, Below w.heap.size w (w.alloc o) := fun o => (Below.refl _ w).alloc (Nat.le_refl _) _
  have x1a := fun o => xabZ x1 o
  rw [hpc] at x1a
  have HE : Hid (∀ W, Below w.heap.size w W → Calls Tryz.prog 224 #[.slice (some ⟨gb, go, none⟩) l.length cl, .int .i64 (pc : Int)] W fun e w' => e = .returned (.int .i64 (k2 : Int)) ∧ Below W.heap.size W w') := fun W hW => by
    rw [← hix]; exact xegZ l _ _ W (hl.below hW)
  subst hus
  have HU := hideP hu
  have HPC := hideP hpc
  clear h hx hl ho hfc hlc hix hlk hu hs hpc x0 x1 x2 x3 hi
  go_enter Tryz.func183, Tryz.ntmps183
  go_wp2_with (go_at_call 224; refine (HE.out _ (hb1 _)).mono ?_; rintro e' w2 ⟨rfl, b2⟩; have bb2 := xafZ (hb1 _) b2; have m1 := (bb2.cell (p := ⟨gb, go + k2 * 2 + 1, none⟩) hgl).trans e1; have m0 := (b2.cell (p := ⟨w.heap.size, 0, none⟩) (by simp)).trans (xaaZ (World.alloc_heap_new w _) 0); simp at m0)
  go_quiet (fail)
  go_wp2
  go_ret
  exact ⟨_, rfl, HU.out.below (below_drewN bb2 _), below_drewN bb2 _⟩
/-- the entry's stack, of a frame that has called one without a result. -/
theorem stack_mid0 (M : Mach) (p : List Fn) (e : Nat → Nat → Option (List Int)) (pv fv bv iv ov lv : Value) (l : List (Nat × List Int)) (i k pc j : Nat) (s : List Int) (x y : Frm) (f hh : Fn) (w : World) (h : CkAt w p pv fv bv iv ov M) (hx : M.frames[i]? = some x) (hy : M.frames[i + 1]? = some y) (hj : y.fn = (j : Int)) (hhj : p[j]? = some hh) (hr : hh.2.2.1 = 0) (hl : EntsRd w lv l) (ho : EntsOk p f (e k) l) (hpc : x.pc = (pc : Int)) (hs : e k pc = some s) (h6 : M.frames.length ≤ 1000) (hpl : p.length ≤ 1000) : Calls Tryz.prog 183 #[chkV pv fv bv iv ov M, .int .i64 i, lv] w fun e' w' => ∃ u, e' = .returned u ∧ FullInts w' u s ∧ Below w.heap.size w w' := by
  obtain ⟨⟨pp, qp, hpv⟩, -, ⟨pb, cb, hbv⟩, ⟨pi, ci, hiv⟩, ⟨po, co, hov⟩⟩ := h.shp
  obtain ⟨pf, cf, hfv, hfm, -, hfc⟩ := id h.mach.fr
  obtain ⟨k2, hix, hlk⟩ := ents_ix ho hs
  obtain ⟨pl, cl, hlv, hlm, hlc⟩ := id hl
  unfold maxLen at hlm
  subst hpv hfv hbv hiv hov hlv
  obtain ⟨g, off, lv1, sv1, rfl, hg, x0, x1, x2, x3, -, -, -, -⟩ := hfc i x hx
  obtain ⟨g', off', lv2, sv2, he', hg', y0, -, -, -, -⟩ := hfc (i + 1) y hy
  cases he'
  rw [hj] at y0
  obtain ⟨pp', qp', hpe, -, hpc'⟩ := id h.fns
  cases hpe
  obtain ⟨fb, fo, c0, c1, c2, c3, hpp, hplt, -, -, z2, -, hfn⟩ := hpc' j hh hhj
  subst hpp
  have hz2 := hfn.2.2.1
  rw [hr] at hz2
  subst hz2
  have hjl := xadZ hhj
  have hjli : (j : Int) < (p.length : Int) := by omega
  obtain ⟨gb, go, u, rfl, hgl, e0, e1, hu⟩ := hlc k2 pc s hlk
  obtain ⟨pu, cu, hus, hcu⟩ := hu.shp
  have hil := xadZ hy
  have hk2l := xadZ hlk
  have hiin : (i : Int) < (M.frames.length : Int) - 1 := by omega
  have hii : decide ((i : Int) < (M.frames.length : Int) - 1) = true := by simpa using hiin
  have hili : (i : Int) < (M.frames.length : Int) := by omega
  have hili2 : (i : Int) + 1 < (M.frames.length : Int) := by omega
  have hwi : IntKind.i64.wrap ((i : Int) + 1) = (i : Int) + 1 := by rw [IntKind.wrap_i64]; omega
  have hti : ((i : Int) + 1).toNat = i + 1 := by omega
  have hk2i : (k2 : Int) < (l.length : Int) := by omega
  have hb1 : ∀ o, Below w.heap.size w (w.alloc o) := fun o => (Below.refl _ w).alloc (Nat.le_refl _) _
  have x1a := fun o => xabZ x1 o
  rw [hpc] at x1a
  have HE : Hid (∀ W, Below w.heap.size w W → Calls Tryz.prog 224 #[.slice (some ⟨gb, go, none⟩) l.length cl, .int .i64 (pc : Int)] W fun e w' => e = .returned (.int .i64 (k2 : Int)) ∧ Below W.heap.size W w') := fun W hW => by
    rw [← hix]; exact xegZ l _ _ W (hl.below hW)
  subst hus
  have HU := hideP hu
  have HPC := hideP hpc
  clear h hx hy hl ho hfc hlc hix hlk hu hs hpc hpc' hfn x0 x1 x2 x3 hhj hj
  go_enter Tryz.func183, Tryz.ntmps183
  go_wp2_with (go_at_call 224; refine (HE.out _ (hb1 _)).mono ?_; rintro e' w2 ⟨rfl, b2⟩; have bb2 := xafZ (hb1 _) b2; have m1 := (bb2.cell (p := ⟨gb, go + k2 * 2 + 1, none⟩) hgl).trans e1; have m0 := (b2.cell (p := ⟨w.heap.size, 0, none⟩) (by simp)).trans (xaaZ (World.alloc_heap_new w _) 0); have m6 := (b2.cell (p := ⟨w.heap.size, 6, none⟩) (by simp)).trans (xaaZ (World.alloc_heap_new w _) 6); simp at m0 m6; have my := (bb2.cell (p := ⟨g, off + (i + 1) * 4, none⟩) hg').trans y0; have mz := (bb2.cell (p := ⟨fb, fo + j * 4 + 2, none⟩) hplt).trans z2)
  go_quiet (fail)
  go_wp2
  go_ret
  exact ⟨_, rfl, HU.out.below (below_drewN bb2 _), below_drewN bb2 _⟩
/-- the entry's stack but the result, of a frame that has called one with a result. -/
theorem stack_mid1 (M : Mach) (p : List Fn) (e : Nat → Nat → Option (List Int)) (pv fv bv iv ov lv : Value) (l : List (Nat × List Int)) (i k pc j n : Nat) (s : List Int) (x y : Frm) (f hh : Fn) (w : World) (h : CkAt w p pv fv bv iv ov M) (hx : M.frames[i]? = some x) (hy : M.frames[i + 1]? = some y) (hj : y.fn = (j : Int)) (hhj : p[j]? = some hh) (hr : hh.2.2.1 ≠ 0) (hl : EntsRd w lv l) (ho : EntsOk p f (e k) l) (hpc : x.pc = (pc : Int)) (hs : e k pc = some s) (hsn : s.length = n + 1) (h6 : M.frames.length ≤ 1000) (hpl : p.length ≤ 1000) : Calls Tryz.prog 183 #[chkV pv fv bv iv ov M, .int .i64 i, lv] w fun e' w' => ∃ u, e' = .returned u ∧ FullInts w' u s.dropLast ∧ Below w.heap.size w w' := by
  obtain ⟨⟨pp, qp, hpv⟩, -, ⟨pb, cb, hbv⟩, ⟨pi, ci, hiv⟩, ⟨po, co, hov⟩⟩ := h.shp
  obtain ⟨pf, cf, hfv, hfm, -, hfc⟩ := id h.mach.fr
  obtain ⟨k2, hix, hlk⟩ := ents_ix ho hs
  obtain ⟨pl, cl, hlv, hlm, hlc⟩ := id hl
  unfold maxLen at hlm
  subst hpv hfv hbv hiv hov hlv
  obtain ⟨g, off, lv1, sv1, rfl, hg, x0, x1, x2, x3, -, -, -, -⟩ := hfc i x hx
  obtain ⟨g', off', lv2, sv2, he', hg', y0, -, -, -, -⟩ := hfc (i + 1) y hy
  cases he'
  rw [hj] at y0
  obtain ⟨pp', qp', hpe, -, hpc'⟩ := id h.fns
  cases hpe
  obtain ⟨fb, fo, c0, c1, c2, c3, hpp, hplt, -, -, z2, -, hfn⟩ := hpc' j hh hhj
  subst hpp
  have hz2 := hfn.2.2.1
  subst hz2
  have hrb : (hh.2.2.1 != 0) = true := by simpa using hr
  have hjl := xadZ hhj
  have hjli : (j : Int) < (p.length : Int) := by omega
  obtain ⟨gb, go, u, rfl, hgl, e0, e1, hu⟩ := hlc k2 pc s hlk
  obtain ⟨pu, cu, hus, hcu⟩ := hu.shp
  rw [hsn] at hus hcu
  have hn8 : n ≤ 7 := by have h8 := (ho.on k2 pc s hlk).2.1; rw [hsn] at h8; omega
  have hil := xadZ hy
  have hk2l := xadZ hlk
  have hiin : (i : Int) < (M.frames.length : Int) - 1 := by omega
  have hii : decide ((i : Int) < (M.frames.length : Int) - 1) = true := by simpa using hiin
  have hili : (i : Int) < (M.frames.length : Int) := by omega
  have hili2 : (i : Int) + 1 < (M.frames.length : Int) := by omega
  have hwi : IntKind.i64.wrap ((i : Int) + 1) = (i : Int) + 1 := by rw [IntKind.wrap_i64]; omega
  have hti : ((i : Int) + 1).toNat = i + 1 := by omega
  have hk2i : (k2 : Int) < (l.length : Int) := by omega
  have hb1 : ∀ o, Below w.heap.size w (w.alloc o) := fun o => (Below.refl _ w).alloc (Nat.le_refl _) _
  have x1a := fun o => xabZ x1 o
  rw [hpc] at x1a
  have HE : Hid (∀ W, Below w.heap.size w W → Calls Tryz.prog 224 #[.slice (some ⟨gb, go, none⟩) l.length cl, .int .i64 (pc : Int)] W fun e w' => e = .returned (.int .i64 (k2 : Int)) ∧ Below W.heap.size W w') := fun W hW => by
    rw [← hix]; exact xegZ l _ _ W (hl.below hW)
  subst hus
  have HU := hideP hu
  have HPC := hideP hpc
  clear h hx hy hl ho hfc hlc hix hlk hu hs hpc hpc' hfn x0 x1 x2 x3 hhj hj hr hsn
  go_enter Tryz.func183, Tryz.ntmps183
  go_wp2_with (go_at_call 224; refine (HE.out _ (hb1 _)).mono ?_; rintro e' w2 ⟨rfl, b2⟩; have bb2 := xafZ (hb1 _) b2; have m1 := (bb2.cell (p := ⟨gb, go + k2 * 2 + 1, none⟩) hgl).trans e1; have m0 := (b2.cell (p := ⟨w.heap.size, 0, none⟩) (by simp)).trans (xaaZ (World.alloc_heap_new w _) 0); have m6 := (b2.cell (p := ⟨w.heap.size, 6, none⟩) (by simp)).trans (xaaZ (World.alloc_heap_new w _) 6); simp at m0 m6; have my := (bb2.cell (p := ⟨g, off + (i + 1) * 4, none⟩) hg').trans y0; have mz := (bb2.cell (p := ⟨fb, fo + j * 4 + 2, none⟩) hplt).trans z2)
  go_quiet (fail)
  go_wp2
  go_ret
  exact ⟨_, rfl, (xlaZ HU.out).below (below_drewN bb2 _), below_drewN bb2 _⟩
end Go.Proofs.YtmjjkenblfndgaaGreat


/- machine's checker: whether a frame fits. -/
namespace Go.Proofs.YtmjjkenblfndgaaGreat
open Go.RowKit
set_option linter.unusedSimpArgs false
set_option linter.unusedVariables false
theorem vFunc_fit (p : List Fn) (e : Nat → Nat → Option (List Int)) (hp : xanZ p = 0) (he : xaxZ p e) (k : Nat) (f : Fn) (hf : p[k]? = some f) (pv : Value) (w : World) (hA : FnsAt w pv p) (hC : CapAt w pv) : Calls Tryz.prog 82 #[.agg #[pv], .int .i64 (k : Int)] w fun e' w' => ∃ lv, e' = .returned (.tuple #[lv, .int .i64 0]) ∧ EntsRd w' lv (xdsZ f.2.2.2 (e k)) ∧ Below w.heap.size w w' := by
  refine (xmjZ p (k : Int) pv w hA hC).mono ?_
  rintro e' w' ⟨v, er, l, rfl, hi, ho, hb⟩
  rcases hi with ⟨a1, _⟩ | ⟨_, a2, _⟩ | ⟨_, n, g, r, hn, hg, hl, h3⟩
  · exact absurd hp a1
  · have := xadZ hf; omega
  · have e1 : n = k := by omega
    subst e1
    rw [hf] at hg
    cases hg
    have e2 := xl3Z hl (he n f hf)
    subst e2
    rcases h3 with ⟨h4, _⟩ | ⟨e3, h4, h5, h6⟩
    · cases h4
    · cases h4
      subst h5 h6
      exact ⟨v, rfl, entsRd_own ho, hb⟩
theorem progFn {p : List Fn} {x : Frm} (h : xb0Z p x = true) : ∃ (k : Nat) (f : Fn), x.fn = (k : Int) ∧ p[k]? = some f := by
  simp only [xb0Z, Bool.and_eq_true, decide_eq_true_eq] at h
  obtain ⟨f, hf⟩ := xagZ (l := p) (k := x.fn.toNat) (by omega)
  exact ⟨x.fn.toNat, f, by omega, hf⟩
theorem xglZ {p : List Fn} {e : Nat → Nat → Option (List Int)} (hp : xanZ p = 0) (he : xaxZ p e) {k : Nat} {f : Fn} (hf : p[k]? = some f) : EntsOk p f (e k) (xdsZ f.2.2.2 (e k)) ∧ f.2.2.2.length ≤ 1000 := by
  have hfl := (okFn hp (List.mem_of_getElem? hf)).flow
  refine ⟨entsOk hfl (he k f hf), ?_⟩
  have := xdlZ hfl
  omega
theorem xhiZ {p : List Fn} (hp : xanZ p = 0) : p.length ≤ 5 := (xeyZ hp).2.1
theorem placed_any (M : Mach) (p : List Fn) (e : Nat → Nat → Option (List Int)) (pv fv bv iv ov lv : Value) (i k : Nat) (x : Frm) (f : Fn) (w : World) (hp : xanZ p = 0) (he : xaxZ p e) (h : CkAt w p pv fv bv iv ov M) (hx : M.frames[i]? = some x) (hf : p[k]? = some f) (hk : x.fn = (k : Int)) (hl : EntsRd w lv (xdsZ f.2.2.2 (e k))) (h6 : M.frames.length ≤ 6) (hp1 : -9223372036854775808 ≤ x.pc) (hp2 : x.pc ≤ 9223372036854775807) : Calls Tryz.prog 182 #[chkV pv fv bv iv ov M, .int .i64 i, lv] w fun e' w' => e' = .returned (.bool (xb4Z e ((M.frames[i + 1]?).map Frm.fn) x k f)) ∧ Below w.heap.size w w' := by
  obtain ⟨ho, hcl⟩ := xglZ hp he hf
  have hpl := xhiZ hp
  have hil := xadZ hx
  cases hy : M.frames[i + 1]? with
  | none =>
    have := List.getElem?_eq_none_iff.1 hy
    exact xpwZ M p e pv fv bv iv ov lv _ i k x f w h hx (by omega) hf hl ho
  | some y => exact placed_mid M p e pv fv bv iv ov lv _ i k x y f w h hx hy hf hk hl ho hcl (by omega) (by omega) hp1 hp2
theorem stack_any (M : Mach) (p : List Fn) (e : Nat → Nat → Option (List Int)) (pv fv bv iv ov lv : Value) (i k : Nat) (x : Frm) (f : Fn) (w : World) (hp : xanZ p = 0) (he : xaxZ p e) (h : CkAt w p pv fv bv iv ov M) (hall : M.frames.all (xb0Z p) = true) (hx : M.frames[i]? = some x) (hf : p[k]? = some f) (hk : x.fn = (k : Int)) (hl : EntsRd w lv (xdsZ f.2.2.2 (e k))) (h6 : M.frames.length ≤ 6) (hpl : xb4Z e ((M.frames[i + 1]?).map Frm.fn) x k f = true) : Calls Tryz.prog 183 #[chkV pv fv bv iv ov M, .int .i64 i, lv] w fun e' w' => ∃ u, e' = .returned u ∧ FullInts w' u (xcrZ p e ((M.frames[i + 1]?).map Frm.fn) x k) ∧ Below w.heap.size w w' := by
  obtain ⟨ho, hcl⟩ := xglZ hp he hf
  have hpl5 := xhiZ hp
  have hil := xadZ hx
  cases hy : M.frames[i + 1]? with
  | none =>
    rw [hy] at hpl
    simp only [Option.map_none, xb4Z, Bool.and_eq_true, decide_eq_true_eq, Option.isSome_iff_exists] at hpl
    obtain ⟨h0, s, hs⟩ := hpl
    have := List.getElem?_eq_none_iff.1 hy
    have e1 : xcrZ p e none x k = s := by simp [xcrZ, hs]
    simp only [Option.map_none]
    rw [e1]
    exact stack_last M p e pv fv bv iv ov lv _ i k x.pc.toNat s x f w h hx (by omega) hl ho (by omega) hs (by omega)
  | some y =>
    rw [hy] at hpl
    simp only [Option.map_some, xb4Z, Bool.and_eq_true, decide_eq_true_eq, Option.isSome_iff_exists, beq_iff_eq] at hpl
    obtain ⟨⟨h0, s0, hs0⟩, hop⟩ := hpl
    obtain ⟨s, hs⟩ := xksZ he hf hs0 hop
    have hpc1 : (x.pc - 1).toNat + 1 = x.pc.toNat := by omega
    rw [hpc1] at hs
    have hyp : xb0Z p y = true := List.all_eq_true.1 hall y (List.mem_of_getElem? hy)
    obtain ⟨j, hh, hj, hhj⟩ := progFn hyp
    have hjt : y.fn.toNat = j := by omega
    simp only [Option.map_some]
    by_cases hr : hh.2.2.1 = 0
    · have e1 : xcrZ p e (some y.fn) x k = s := by simp [xcrZ, hs, hjt, hhj, hr]
      rw [e1]
      exact stack_mid0 M p e pv fv bv iv ov lv _ i k x.pc.toNat j s x y f hh w h hx hy hj hhj hr hl ho (by omega) hs (by omega) (by omega)
    · have e1 : xcrZ p e (some y.fn) x k = s.dropLast := by simp [xcrZ, hs, hjt, hhj, hr]
      rw [e1]
      have hne : s.length ≠ 0 := by
        obtain ⟨o, out, h4, h5, h7⟩ := (he k f hf).1.on (x.pc - 1).toNat s0 hs0
        rw [hop] at h4
        cases h4
        obtain ⟨_, s', h8, h9⟩ := h7 ((x.pc - 1).toNat + 1) (xc5Z hop (by simp) (by simp))
        rw [hpc1, hs] at h8
        cases h8
        rw [← xdmZ h9]
        obtain ⟨t', l', q1, q2, q3, hout⟩ := xeoZ h5
        unfold xaeZ at q1
        rw [if_neg (by simp), if_neg (by simp), if_neg (by simp), if_pos rfl] at q1
        simp only [hjt, hhj] at q1
        have hr0 := ((okFn hp (List.mem_of_getElem? hf)).res hh (List.mem_of_getElem? hhj)).1
        simp at q1
        rw [hout, ← q1.2, if_pos (by omega)]
        simp
      exact stack_mid1 M p e pv fv bv iv ov lv _ i k x.pc.toNat j (s.length - 1) s x y f hh w h hx hy hj hhj hr hl ho (by omega) hs (by omega) (by omega) (by omega)
end Go.Proofs.YtmjjkenblfndgaaGreat


/- machine's checker: a frame. -/
namespace Go.Proofs.YtmjjkenblfndgaaGreat
open Go.RowKit
set_option linter.unusedSimpArgs false
set_option linter.unusedVariables false
theorem fits_any (M : Mach) (p : List Fn) (e : Nat → Nat → Option (List Int)) (pv fv bv iv ov : Value) (i k : Nat) (x : Frm) (f : Fn) (w : World) (hp : xanZ p = 0) (he : xaxZ p e) (h : CkAt w p pv fv bv iv ov M) (hall : M.frames.all (xb0Z p) = true) (hx : M.frames[i]? = some x) (hf : p[k]? = some f) (hk : x.fn = (k : Int)) (h6 : M.frames.length ≤ 6) (hp1 : -9223372036854775808 ≤ x.pc) (hp2 : x.pc ≤ 9223372036854775807) : Calls Tryz.prog 143 #[chkV pv fv bv iv ov M, .int .i64 i] w (Says (xb8Z p e M.blocks.length ((M.frames[i + 1]?).map Frm.fn) x k f) w) := by
  obtain ⟨⟨pp, qp, hpv⟩, -, ⟨pb, cb, hbv⟩, ⟨pi, ci, hiv⟩, ⟨po, co, hov⟩⟩ := h.shp
  obtain ⟨pf, cf, hfv, hfm, -, hfc⟩ := id h.mach.fr
  subst hpv hfv hbv hiv hov
  obtain ⟨g, off, lv1, sv1, rfl, hg, x0, x1, x2, x3, hL, -, hS, -⟩ := hfc i x hx
  obtain ⟨pl1, cl1, hlv1, hlm1, -⟩ := id hL
  obtain ⟨ps1, cs1, hsv1, hsm1, -⟩ := id hS
  subst hlv1 hsv1
  have hil := xadZ hx
  have hili : (i : Int) < (M.frames.length : Int) := by omega
  obtain ⟨pp', qp', hpe, -, hpc⟩ := id h.fns
  cases hpe
  obtain ⟨fb, fo, c0, c1, c2, c3, hpp, hplt, -, z1, -, -, hfn⟩ := hpc k f hf
  subst hpp
  obtain ⟨-, hty, -, -⟩ := hfn
  obtain ⟨pt, qt, htv, htm, -⟩ := id hty
  subst htv
  have hkl := xadZ hf
  have hkli : (k : Int) < (p.length : Int) := by omega
  rw [hk] at x0
  have x0a := fun o => xabZ x0 o
  have x1a := fun o => xabZ x1 o
  have x2a := fun o => xabZ x2 o
  have x3a := fun o => xabZ x3 o
  obtain ⟨W2, hW2⟩ : ∃ W2, (w.alloc (.cells #[.slice (some ⟨g, off, none⟩) M.frames.length cf, .slice pb M.blocks.length cb, .slice pi M.inp.length ci, .slice po M.out.length co, .int .i64 M.status, .int .i64 M.trap, .slice (some ⟨fb, fo, none⟩) p.length qp] 121)).alloc (.cells #[.int .i64 k, .int .i64 x.pc, .slice pl1 x.loc.length cl1, .slice ps1 x.stk.length cs1] 89) = W2 := ⟨_, rfl⟩
  have b2 : Below w.heap.size w W2 := by rw [← hW2]; exact ((Below.refl _ w).alloc (Nat.le_refl _) _).alloc (by simp) _
  have u1 : W2.heap[w.heap.size]? = some (.cells #[.slice (some ⟨g, off, none⟩) M.frames.length cf, .slice pb M.blocks.length cb, .slice pi M.inp.length ci, .slice po M.out.length co, .int .i64 M.status, .int .i64 M.trap, .slice (some ⟨fb, fo, none⟩) p.length qp] 121 (0, 0)) := by rw [← hW2]; exact xalZ (World.alloc_heap_new w _) _
  have u2 : W2.heap[w.heap.size + 1]? = some (.cells #[.int .i64 k, .int .i64 x.pc, .slice pl1 x.loc.length cl1, .slice ps1 x.stk.length cs1] 89 (0, 0)) := by rw [← hW2]; exact xazZ w _ _
  have l1 := xacZ u1
  have l2 := xacZ u2
  have a0 : W2.cell? ⟨w.heap.size, 0, none⟩ = some (.slice (some ⟨g, off, none⟩) M.frames.length cf) := xaaZ u1 0
  have a1 : W2.cell? ⟨w.heap.size, 1, none⟩ = some (.slice pb M.blocks.length cb) := xaaZ u1 1
  have a2 : W2.cell? ⟨w.heap.size, 2, none⟩ = some (.slice pi M.inp.length ci) := xaaZ u1 2
  have a3 : W2.cell? ⟨w.heap.size, 3, none⟩ = some (.slice po M.out.length co) := xaaZ u1 3
  have a4 : W2.cell? ⟨w.heap.size, 4, none⟩ = some (.int .i64 M.status) := xaaZ u1 4
  have a5 : W2.cell? ⟨w.heap.size, 5, none⟩ = some (.int .i64 M.trap) := xaaZ u1 5
  have a6 : W2.cell? ⟨w.heap.size, 6, none⟩ = some (.slice (some ⟨fb, fo, none⟩) p.length qp) := xaaZ u1 6
  have f0 : W2.cell? ⟨w.heap.size + 1, 0, none⟩ = some (.int .i64 k) := xaaZ u2 0
  have f2 : W2.cell? ⟨w.heap.size + 1, 2, none⟩ = some (.slice pl1 x.loc.length cl1) := xaaZ u2 2
  have f3 : W2.cell? ⟨w.heap.size + 1, 3, none⟩ = some (.slice ps1 x.stk.length cs1) := xaaZ u2 3
  have z1' := (b2.cell (p := ⟨fb, fo + k * 4 + 1, none⟩) hplt).trans z1
  have KC : Hid (∀ W, Below W2.heap.size W2 W → (W.cell? ⟨w.heap.size, 0, none⟩ = some (.slice (some ⟨g, off, none⟩) M.frames.length cf) ∧ W.cell? ⟨w.heap.size, 1, none⟩ = some (.slice pb M.blocks.length cb) ∧ W.cell? ⟨w.heap.size, 2, none⟩ = some (.slice pi M.inp.length ci) ∧ W.cell? ⟨w.heap.size, 3, none⟩ = some (.slice po M.out.length co) ∧ W.cell? ⟨w.heap.size, 4, none⟩ = some (.int .i64 M.status) ∧ W.cell? ⟨w.heap.size, 5, none⟩ = some (.int .i64 M.trap) ∧ W.cell? ⟨w.heap.size, 6, none⟩ = some (.slice (some ⟨fb, fo, none⟩) p.length qp)) ∧ W.cell? ⟨w.heap.size + 1, 2, none⟩ = some (.slice pl1 x.loc.length cl1) ∧ W.cell? ⟨w.heap.size + 1, 3, none⟩ = some (.slice ps1 x.stk.length cs1)) := fun W hW =>
    ⟨⟨(hW.cell (p := ⟨w.heap.size, 0, none⟩) l1).trans a0, (hW.cell (p := ⟨w.heap.size, 1, none⟩) l1).trans a1, (hW.cell (p := ⟨w.heap.size, 2, none⟩) l1).trans a2, (hW.cell (p := ⟨w.heap.size, 3, none⟩) l1).trans a3, (hW.cell (p := ⟨w.heap.size, 4, none⟩) l1).trans a4, (hW.cell (p := ⟨w.heap.size, 5, none⟩) l1).trans a5, (hW.cell (p := ⟨w.heap.size, 6, none⟩) l1).trans a6⟩, (hW.cell (p := ⟨w.heap.size + 1, 2, none⟩) l2).trans f2, (hW.cell (p := ⟨w.heap.size + 1, 3, none⟩) l2).trans f3⟩
  have H2 := h.below b2
  have hshp : (∃ q n c, Value.slice (some ⟨fb, fo, none⟩) p.length qp = .slice q n c) ∧ (∃ q n c, Value.slice (some ⟨g, off, none⟩) M.frames.length cf = .slice q n c) ∧ (∃ q c, Value.slice pb M.blocks.length cb = .slice q M.blocks.length c) ∧ (∃ q n c, Value.slice pi M.inp.length ci = .slice q n c) ∧ ∃ q n c, Value.slice po M.out.length co = .slice q n c := ⟨⟨_, _, _, rfl⟩, ⟨_, _, _, rfl⟩, ⟨_, _, rfl⟩, ⟨_, _, _, rfl⟩, ⟨_, _, _, rfl⟩⟩
  have HVF := hideP (vFunc_fit p e hp he k f hf _ W2 H2.fns H2.cap)
  have HH2 := hideP H2
  have HOK : Hid (∀ (l : List Val) (v : Value) (W : World), ValsAt W v l → Calls Tryz.prog 179 #[v, .func (.func 180) #[chkV (.slice (some ⟨fb, fo, none⟩) p.length qp) (.slice (some ⟨g, off, none⟩) M.frames.length cf) (.slice pb M.blocks.length cb) (.slice pi M.inp.length ci) (.slice po M.out.length co) M] #[]] W fun e w' => e = .returned (.bool (!l.all (okV M.blocks.length))) ∧ Below W.heap.size W w') := fun l v W hv => allOk_any M _ _ _ _ _ l v W hv hshp.1 hshp.2.1 hshp.2.2.1 hshp.2.2.2.1 hshp.2.2.2.2
  have HL := hideP (hL.below b2)
  have HS := hideP (hS.below b2)
  have HTY := hideP (hty.below b2)
  have HX := hideP hx
  have HF := hideP hf
  have HK := hideP hk
  have HALL := hideP hall
  have HP := hideP hp
  have HE := hideP he
  generalize hnx : (M.frames[i + 1]?).map Frm.fn = nx
  have HNX := hideP hnx
  clear h hx hf hall hfc hpc hL hS hty H2 x0 x1 x2 x3 u1 u2 hp he hshp hnx z1 hk
  go_enter Tryz.func143, Tryz.ntmps143
  by_cases c1 : x.loc.length = f.2.1.length
  rotate_left
  · have c1' : ((x.loc.length : Int) != (f.2.1.length : Int)) = true := by simp; omega
    have HC1 := hideP c1
    clear c1
    go_wp2_with fail
    refine HVF.out.mono ?_
    rintro e' w3 ⟨lv, rfl, hents, b3⟩
    obtain ⟨⟨q0, q1, q2, q3, q4, q5, q6⟩, q7, q8⟩ := KC.out w3 b3
    obtain ⟨pl, cl, hlv⟩ := hents.shp
    subst hlv
    go_wp2
    go_ret
    exact ⟨by unfold xb8Z; rw [if_pos HC1.out]; rfl, xafZ b2 b3⟩
  have c1' : ((x.loc.length : Int) != (f.2.1.length : Int)) = false := by simp; omega
  have HC1 := hideP c1
  clear c1
  go_wp2_with fail
  refine HVF.out.mono ?_
  rintro e' w3 ⟨lv, rfl, hents, b3⟩
  obtain ⟨⟨q0, q1, q2, q3, q4, q5, q6⟩, q7, q8⟩ := KC.out w3 b3
  obtain ⟨pl, cl, hlv⟩ := hents.shp
  subst hlv
  have HENT := hideP hents
  clear hents
  go_wp2_with fail
  refine (HOK.out x.loc _ w3 (HL.out.below b3)).mono ?_
  rintro e' w4 ⟨rfl, b4'⟩
  have b4 := b3.trans (b4'.mono b3.size)
  have HENT4 := hideP (HENT.out.below b4')
  clear b4' HENT q0 q1 q2 q3 q4 q5 q6 q7 q8
  obtain ⟨⟨q0, q1, q2, q3, q4, q5, q6⟩, q7, q8⟩ := KC.out w4 b4
  cases k1 : x.loc.all (okV M.blocks.length)
  · go_wp2
    go_ret
    exact ⟨by unfold xb8Z; rw [if_neg (by simpa using HC1.out), if_pos (by rw [k1]; rfl)]; rfl, xafZ b2 b4⟩
  have K1 := hideP k1
  clear k1
  go_wp2_with fail
  refine (HOK.out x.stk _ w4 (HS.out.below b4)).mono ?_
  rintro e' w5 ⟨rfl, b5'⟩
  have b5 := b4.trans (b5'.mono b4.size)
  have HENT5 := hideP (HENT4.out.below b5')
  clear b5' HENT4 q0 q1 q2 q3 q4 q5 q6 q7 q8
  obtain ⟨⟨q0, q1, q2, q3, q4, q5, q6⟩, q7, q8⟩ := KC.out w5 b5
  cases k2 : x.stk.all (okV M.blocks.length)
  · go_wp2
    go_ret
    exact ⟨by unfold xb8Z; rw [if_neg (by simpa using HC1.out), if_pos (by rw [K1.out, k2]; rfl)]; rfl, xafZ b2 b5⟩
  have K2 := hideP k2
  clear k2
  go_wp2_with fail
  refine (xllZ x.loc f.2.1 _ _ w5 (HL.out.below b5) (HTY.out.below b5)).mono ?_
  rintro e' w6 ⟨rfl, b6'⟩
  have b6 := b5.trans (b6'.mono b5.size)
  have HENT6 := hideP (HENT5.out.below b6')
  clear b6' HENT5 q0 q1 q2 q3 q4 q5 q6 q7 q8
  obtain ⟨⟨q0, q1, q2, q3, q4, q5, q6⟩, q7, q8⟩ := KC.out w6 b6
  cases k3 : areOf x.loc f.2.1
  · go_wp2
    go_ret
    exact ⟨by unfold xb8Z; rw [if_neg (by simpa using HC1.out), if_neg (by rw [K1.out, K2.out]; decide), if_pos k3]; rfl, xafZ b2 b6⟩
  have K3 := hideP k3
  clear k3
  go_wp2_with fail
  refine (placed_any M p e _ _ _ _ _ _ i k x f w6 HP.out HE.out (HH2.out.below b6) HX.out HF.out HK.out HENT6.out h6 hp1 hp2).mono ?_
  rw [HNX.out]
  rintro e' w7 ⟨rfl, b7'⟩
  have b7 := b6.trans (b7'.mono b6.size)
  have HENT7 := hideP (HENT6.out.below b7')
  clear b7' HENT6 q0 q1 q2 q3 q4 q5 q6 q7 q8
  obtain ⟨⟨q0, q1, q2, q3, q4, q5, q6⟩, q7, q8⟩ := KC.out w7 b7
  cases k4 : xb4Z e nx x k f
  · go_wp2
    go_ret
    exact ⟨by unfold xb8Z; rw [if_neg (by simpa using HC1.out), if_neg (by rw [K1.out, K2.out]; decide), if_neg (by rw [K3.out]; decide), if_pos k4]; rfl, xafZ b2 b7⟩
  have K4 := hideP k4
  clear k4
  have HST : Hid (∀ W, Below w7.heap.size w7 W → Calls Tryz.prog 183 #[chkV (.slice (some ⟨fb, fo, none⟩) p.length qp) (.slice (some ⟨g, off, none⟩) M.frames.length cf) (.slice pb M.blocks.length cb) (.slice pi M.inp.length ci) (.slice po M.out.length co) M, .int .i64 i, .slice pl (xdsZ f.2.2.2 (e k)).length cl] W fun e' w' => ∃ u, e' = .returned u ∧ FullInts w' u (xcrZ p e nx x k) ∧ Below W.heap.size W w') := fun W hW => by
    have := stack_any M p e _ _ _ _ _ (.slice pl (xdsZ f.2.2.2 (e k)).length cl) i k x f W HP.out HE.out ((HH2.out.below b7).below hW) HALL.out HX.out HF.out HK.out (HENT7.out.below hW) h6 (by rw [HNX.out]; exact K4.out)
    rw [HNX.out] at this
    exact this
  go_wp2_with fail
  go_region_held3 (fun X => (X.cell? ⟨w.heap.size, 0, none⟩ = some (.slice (some ⟨g, off, none⟩) M.frames.length cf) ∧ X.cell? ⟨w.heap.size, 1, none⟩ = some (.slice pb M.blocks.length cb) ∧ X.cell? ⟨w.heap.size, 2, none⟩ = some (.slice pi M.inp.length ci) ∧ X.cell? ⟨w.heap.size, 3, none⟩ = some (.slice po M.out.length co) ∧ X.cell? ⟨w.heap.size, 4, none⟩ = some (.int .i64 M.status) ∧ X.cell? ⟨w.heap.size, 5, none⟩ = some (.int .i64 M.trap) ∧ X.cell? ⟨w.heap.size, 6, none⟩ = some (.slice (some ⟨fb, fo, none⟩) p.length qp)) ∧ X.cell? ⟨w.heap.size + 1, 3, none⟩ = some (.slice ps1 x.stk.length cs1)) (first | go_keep | exact ⟨(KC.out _ b8).1, (KC.out _ b8).2.2⟩ | exact ⟨(KC.out _ b9).1, (KC.out _ b9).2.2⟩)
    (first
      | (go_at_call 183; (with_reducible refine (HST.out _ ((Below.refl _ w7).drew)).mono ?_); rintro e' w8 ⟨u, rfl, hu, b8'⟩; have b8 : Below W2.heap.size W2 w8 := b7.trans ((((Below.refl _ w7).drew).trans b8').mono b7.size); obtain ⟨pu, cu, hus, -⟩ := hu.shp; subst hus; have HU := hideP hu; clear hu b8')
      | (go_at_call 181; (with_reducible refine (xllZ x.stk (xcrZ p e nx x k) _ _ _ (HS.out.below b8) HU.out.at_).mono ?_); rintro e' w9 ⟨rfl, b9'⟩; have b9 : Below W2.heap.size W2 w9 := b8.trans (b9'.mono b8.size)))
  cases k5 : areOf x.stk (xcrZ p e nx x k)
  · go_wp2
    go_ret
    exact ⟨by unfold xb8Z; rw [if_neg (by simpa using HC1.out), if_neg (by rw [K1.out, K2.out]; decide), if_neg (by rw [K3.out]; decide), if_neg (by rw [K4.out]; decide), if_pos k5]; rfl, xafZ b2 b9⟩
  · go_wp2
    go_ret
    exact ⟨by unfold xb8Z; rw [if_neg (by simpa using HC1.out), if_neg (by rw [K1.out, K2.out]; decide), if_neg (by rw [K3.out]; decide), if_neg (by rw [K4.out]; decide), if_neg (by rw [k5]; decide)]; rfl, xafZ b2 b9⟩
end Go.Proofs.YtmjjkenblfndgaaGreat


