/- My texts Ih Ij Ik: what of them is needed, joined. -/

import Derived.Test.YtmjjkenblfndgaaGreatD12
import Derived.Test.YtmjjkenblfndgaaGreatD14
import Derived.Test.YtmjjkenblfndgaaGreatD16
import Derived.Test.YtmjjkenblfndgaaGreatD21
import Derived.Test.YtmjjkenblfndgaaGreatD26
set_option maxRecDepth 100000
set_option maxHeartbeats 8000000
/- image: a machine. -/
namespace Go.Proofs.YtmjjkenblfndgaaGreat
open Go.RowKit
set_option linter.unusedSimpArgs false
set_option linter.unusedVariables false
def AtM (B : Nat) (W : World) (v : Value) (M : Mach) : Prop := ∃ fv bv iv ov q qb, v = .agg #[fv, bv, iv, ov, .int .i64 M.status, .int .i64 M.trap] ∧ MOwn W B fv bv iv ov q qb M
theorem rowB_on {B b : Nat} {w w' : World} {v : Value} {l : List (List Int)} {row : Option Nat} {t : TypeId} (h : RowB B w v l) (hg : w.grownBy w' row) (ht : TyRow w row t) (h1 : t ≠ 46) (h2 : t ≠ 3) : RowB B w' v l := by
  obtain ⟨q, h3, h4, h5⟩ := h
  exact ⟨q, h3, xarZ h4 hg ht h1, h5.keep hg ht h2⟩
theorem rowF_on {B b : Nat} {w w' : World} {v : Value} {l : List Frm} {row : Option Nat} {t : TypeId} (h : RowF B w v l) (hg : w.grownBy w' row) (ht : TyRow w row t) (h1 : t ≠ 89) (h2 : t ≠ 113) : RowF B w' v l := by
  obtain ⟨q, h3, h4, h5⟩ := h
  exact ⟨q, h3, xarZ h4 hg ht h1, h5.keep hg ht h2⟩
theorem RowI.shp {B : Nat} {W : World} {v : Value} {l : List Int} (h : RowI B W v l) : ∃ p n c, v = .slice p n c := by
  obtain ⟨p, c, e⟩ := xagZ h
  exact ⟨p, _, c, e⟩
theorem xe3Z {W : World} {R : Nat} {t : TypeId} {a0 a1 a2 a3 a4 a5 : Value} (h : W.heap[R]? = some (.cells #[a0, a1, a2, a3, a4, a5] t (0, 0))) {a b c d e f : Value} : ((((((W.setCell ⟨R, 0, none⟩ a).setCell ⟨R, 1, none⟩ b).setCell ⟨R, 2, none⟩ c).setCell ⟨R, 3, none⟩ d).setCell ⟨R, 4, none⟩ e).setCell ⟨R, 5, none⟩ f).heap[R]? = some (.cells #[a, b, c, d, e, f] t (0, 0)) := by
  have h0 := heap_setCell_same W R 0 _ _ a h
  have h1 := heap_setCell_same _ R 1 _ _ b h0
  have h2 := heap_setCell_same _ R 2 _ _ c h1
  have h3 := heap_setCell_same _ R 3 _ _ d h2
  have h4 := heap_setCell_same _ R 4 _ _ e h3
  have h5 := heap_setCell_same _ R 5 _ _ f h4
  simpa using h5
theorem xguZ (b : Nat) (s : List UInt8) (w : World) (h : RdI w b s) : Calls Tryz.prog 93 #[.pointer (some ⟨b, 0, none⟩)] w (Gives w b (machPP s) (AtM w.heap.size)) := by
  have hmf : ∀ (fn : Go.Fn) (first cap : Array Value) (w : World), (Instr.makeFunc fn first cap).run Tryz.prog w = .ok (.func fn first cap) w := fun _ _ _ _ => rfl
  obtain ⟨W1, hW1⟩ : ∃ W1, (w.alloc (.cells #[.pointer (some ⟨b, 0, none⟩)] 143)).alloc (.cells #[.slice none 0 0, .slice none 0 0, .slice none 0 0, .slice none 0 0, .int .i64 0, .int .i64 0] 48) = W1 := ⟨_, rfl⟩
  have x1 : W1.heap[w.heap.size + 1]? = some (.cells #[.slice none 0 0, .slice none 0 0, .slice none 0 0, .slice none 0 0, .int .i64 0, .int .i64 0] 48 (0, 0)) := by rw [← hW1]; exact xa9Z w _ _
  have y1 : W1.heap[w.heap.size]? = some (.cells #[.pointer (some ⟨b, 0, none⟩)] 143 (0, 0)) := by rw [← hW1]; exact xajZ (World.alloc_heap_new w _) _
  have R1 : RdI W1 b s := by rw [← hW1]; exact (h.alloc _).alloc _
  have hg1 : w.grownBy W1 (some b) := by rw [← hW1]; exact xcaZ (xcaZ (xd4Z w _) _) _
  have hbl := h.lt
  have hne : w.heap.size ≠ b := by omega
  have hwl := xacZ y1
  have hml := xacZ x1
  have d1 : W1.cell? ⟨w.heap.size, 0, none⟩ = some (.pointer (some ⟨b, 0, none⟩)) := xaaZ y1 0
  have HG1 := hideP hg1
  have G1 := hideP (xd4Z W1 (some b))
  have d0 := d1
  have HX0 := hideP x1
  have HY0 := hideP y1
  have hs1 := hg1.size
  clear h hg1 x1 y1
  go_enter Tryz.func93, Tryz.ntmps93
  go_wp2_with fail
  refine wp_region_held_drew (S := fun X => X.cell? ⟨w.heap.size, 0, none⟩ = some (.pointer (some ⟨b, 0, none⟩))) (by kernel_rfl) d1 (fun hHeld => ?_)
  refine wpAnyH_take (i := 0) (oi := { dst := some 3, op := Op.load 143 (Operand.tmp 1), type := 143, pos := "read.go:34", after := #[], guard := none }) (v := ?_) rfl (by kernel_rfl) (by kernel_rfl) (by kernel_rfl) (fun _ _ _ h => h) (Or.inl ⟨by rfl, ?_⟩) (by assumption) ?_
  rotate_left
  · (intro wS hSw; (try dsimp only at hSw); go_simp) <;> (first | done | with_reducible rfl)
  try simp only [Act.put, List.setIfInBounds_toArray, List.set_cons_zero, List.set_cons_succ]
  refine wpAnyH_take (i := 2) (oi := { dst := some 5, op := Op.load 143 (Operand.tmp 1), type := 143, pos := "read.go:34", after := #[], guard := none }) (v := ?_) rfl (by kernel_rfl) (by kernel_rfl) (by kernel_rfl) (fun _ _ _ h => h) (Or.inl ⟨by rfl, ?_⟩) (by assumption) ?_
  rotate_left
  · (intro wS hSw; (try dsimp only at hSw); go_simp) <;> (first | done | with_reducible rfl)
  try simp only [Act.put, List.setIfInBounds_toArray, List.set_cons_zero, List.set_cons_succ]
  refine wpAnyH_take (i := 4) (oi := { dst := some 7, op := Op.load 143 (Operand.tmp 1), type := 143, pos := "read.go:34", after := #[], guard := none }) (v := ?_) rfl (by kernel_rfl) (by kernel_rfl) (by kernel_rfl) (fun _ _ _ h => h) (Or.inl ⟨by rfl, ?_⟩) (by assumption) ?_
  rotate_left
  · (intro wS hSw; (try dsimp only at hSw); go_simp) <;> (first | done | with_reducible rfl)
  try simp only [Act.put, List.setIfInBounds_toArray, List.set_cons_zero, List.set_cons_succ]
  refine wpAnyH_take (i := 6) (oi := { dst := some 9, op := Op.load 143 (Operand.tmp 1), type := 143, pos := "read.go:34", after := #[], guard := none }) (v := ?_) rfl (by kernel_rfl) (by kernel_rfl) (by kernel_rfl) (fun _ _ _ h => h) (Or.inl ⟨by rfl, ?_⟩) (by assumption) ?_
  rotate_left
  · (intro wS hSw; (try dsimp only at hSw); go_simp) <;> (first | done | with_reducible rfl)
  try simp only [Act.put, List.setIfInBounds_toArray, List.set_cons_zero, List.set_cons_succ]
  refine wpAnyH_take (i := 8) (oi := { dst := some 11, op := Op.load 143 (Operand.tmp 1), type := 143, pos := "read.go:34", after := #[], guard := none }) (v := ?_) rfl (by kernel_rfl) (by kernel_rfl) (by kernel_rfl) (fun _ _ _ h => h) (Or.inl ⟨by rfl, ?_⟩) (by assumption) ?_
  rotate_left
  · (intro wS hSw; (try dsimp only at hSw); go_simp) <;> (first | done | with_reducible rfl)
  try simp only [Act.put, List.setIfInBounds_toArray, List.set_cons_zero, List.set_cons_succ]
  refine wpAnyH_take (i := 9) (oi := { dst := some 12, op := Op.makeFunc (Go.Fn.func 128) #[] #[Operand.tmp 1], type := 111, pos := "read.go:34", after := #[], guard := none }) (v := ?_) rfl (by kernel_rfl) (by kernel_rfl) (by kernel_rfl) (fun _ _ _ h => h) (Or.inl ⟨by rfl, ?_⟩) (by assumption) ?_
  rotate_left
  · (intro wS hSw; (try dsimp only at hSw); go_simp) <;> (first | done | with_reducible rfl)
  try simp only [Act.put, List.setIfInBounds_toArray, List.set_cons_zero, List.set_cons_succ]
  refine wpAnyH_take (i := 11) (oi := { dst := some 14, op := Op.load 143 (Operand.tmp 1), type := 143, pos := "read.go:34", after := #[], guard := none }) (v := ?_) rfl (by kernel_rfl) (by kernel_rfl) (by kernel_rfl) (fun _ _ _ h => h) (Or.inl ⟨by rfl, ?_⟩) (by assumption) ?_
  rotate_left
  · (intro wS hSw; (try dsimp only at hSw); go_simp) <;> (first | done | with_reducible rfl)
  try simp only [Act.put, List.setIfInBounds_toArray, List.set_cons_zero, List.set_cons_succ]
  refine wpAnyH_take (i := 12) (oi := { dst := some 15, op := Op.makeFunc (Go.Fn.func 130) #[] #[Operand.tmp 1], type := 176, pos := "read.go:34", after := #[], guard := none }) (v := ?_) rfl (by kernel_rfl) (by kernel_rfl) (by kernel_rfl) (fun _ _ _ h => h) (Or.inl ⟨by rfl, ?_⟩) (by assumption) ?_
  rotate_left
  · (intro wS hSw; (try dsimp only at hSw); go_simp) <;> (first | done | with_reducible rfl)
  try simp only [Act.put, List.setIfInBounds_toArray, List.set_cons_zero, List.set_cons_succ]
  refine wpAnyH_ready (rs := [1]) (by kernel_rfl) (by simp) ?_
  refine AllReadyH.cons (o := { dst := some 4, op := Op.call { callee := Callee.value (Operand.func 125), args := #[Operand.tmp 3], argTypes := #[143] }, type := 3, pos := "read.go:35", after := #[{ on := 0, ground := Ground.data }], guard := none }) rfl (fun K hK => ?_) AllReadyH.nil
  go_simp
  go_at_call 125
  refine (xctZ b s W1.drew R1.drew).mono ?_
  intro e w2 hx
  obtain ⟨g', hcase⟩ := hx
  have g2 : W1.grownBy w2 (some b) := undrew g'
  have G2 := hideP (xbnZ G1.out g2)
  clear g'
  rcases hcase with ⟨hn, rfl⟩ | ⟨a2, q2, v2, hn, rfl, R2, V2⟩
  · exact ⟨rfl, Gives.mk_mis (xbnZ HG1.out G2.out) (by simp only [machPP, hn])⟩
  have V2 : v2 = .int .i64 a2 := V2
  subst V2
  have d2 := G2.out.cell d0 (fun e => by cases e; exact hne rfl)
  have HN2 := hideP hn
  clear hn
  have RR2 := hideP R2
  have gg2 := hideP g2
  refine hK.out _ _ ?_ (fun hHeld => ?_)
  · exact d2
  clear hK K
  try simp only [Act.put, List.setIfInBounds_toArray, List.set_cons_zero, List.set_cons_succ]
  refine wpAnyH_ready (rs := [3]) (by kernel_rfl) (by simp) ?_
  refine AllReadyH.cons (o := { dst := some 6, op := Op.call { callee := Callee.value (Operand.func 125), args := #[Operand.tmp 5], argTypes := #[143] }, type := 3, pos := "read.go:36", after := #[{ on := 2, ground := Ground.data }, { on := 1, ground := Ground.chain }], guard := none }) rfl (fun K hK => ?_) AllReadyH.nil
  go_simp
  go_at_call 125
  refine (xctZ b q2 w2 R2).mono ?_
  intro e w3 hx
  obtain ⟨g', hcase⟩ := hx
  have g3 : w2.grownBy w3 (some b) :=  g'
  have G3 := hideP (xbnZ G2.out g3)
  clear g'
  rcases hcase with ⟨hn, rfl⟩ | ⟨a3, q3, v3, hn, rfl, R3, V3⟩
  · exact ⟨rfl, Gives.mk_mis (xbnZ HG1.out G3.out) (by simp only [machPP, HN2.out, hn])⟩
  have V3 : v3 = .int .i64 a3 := V3
  subst V3
  have d3 := G3.out.cell d0 (fun e => by cases e; exact hne rfl)
  have HN3 := hideP hn
  clear hn
  have RR3 := hideP R3
  have gg3 := hideP g3
  refine hK.out _ _ ?_ (fun hHeld => ?_)
  · exact d3
  clear hK K
  try simp only [Act.put, List.setIfInBounds_toArray, List.set_cons_zero, List.set_cons_succ]
  refine wpAnyH_ready (rs := [5]) (by kernel_rfl) (by simp) ?_
  refine AllReadyH.cons (o := { dst := some 8, op := Op.call { callee := Callee.value (Operand.func 126), args := #[Operand.tmp 7], argTypes := #[143] }, type := 46, pos := "read.go:37", after := #[{ on := 4, ground := Ground.data }, { on := 3, ground := Ground.chain }], guard := none }) rfl (fun K hK => ?_) AllReadyH.nil
  go_simp
  go_at_call 126
  refine (xhmZ b q3 w3 R3).mono ?_
  intro e w4 hx
  obtain ⟨g', hcase⟩ := hx
  have g4 : w3.grownBy w4 (some b) :=  g'
  have G4 := hideP (xbnZ G3.out g4)
  clear g'
  rcases hcase with ⟨hn, rfl⟩ | ⟨a4, q4, v4, hn, rfl, R4, V4⟩
  · exact ⟨rfl, Gives.mk_mis (xbnZ HG1.out G4.out) (by simp only [machPP, HN2.out, HN3.out, hn])⟩
  obtain ⟨p4, n4, c4, hv4⟩ := RowI.shp V4
  subst hv4
  have d4 := G4.out.cell d0 (fun e => by cases e; exact hne rfl)
  have HN4 := hideP hn
  clear hn
  have RR4 := hideP R4
  have gg4 := hideP g4
  have VV4 := hideP V4
  clear V4
  refine hK.out _ _ ?_ (fun hHeld => ?_)
  · exact d4
  clear hK K
  try simp only [Act.put, List.setIfInBounds_toArray, List.set_cons_zero, List.set_cons_succ]
  refine wpAnyH_ready (rs := [7]) (by kernel_rfl) (by simp) ?_
  refine AllReadyH.cons (o := { dst := some 10, op := Op.call { callee := Callee.value (Operand.func 126), args := #[Operand.tmp 9], argTypes := #[143] }, type := 46, pos := "read.go:38", after := #[{ on := 6, ground := Ground.data }, { on := 5, ground := Ground.chain }], guard := none }) rfl (fun K hK => ?_) AllReadyH.nil
  go_simp
  go_at_call 126
  refine (xhmZ b q4 w4 R4).mono ?_
  intro e w5 hx
  obtain ⟨g', hcase⟩ := hx
  have g5 : w4.grownBy w5 (some b) :=  g'
  have G5 := hideP (xbnZ G4.out g5)
  clear g'
  rcases hcase with ⟨hn, rfl⟩ | ⟨a5, q5, v5, hn, rfl, R5, V5⟩
  · exact ⟨rfl, Gives.mk_mis (xbnZ HG1.out G5.out) (by simp only [machPP, HN2.out, HN3.out, HN4.out, hn])⟩
  obtain ⟨p5, n5, c5, hv5⟩ := RowI.shp V5
  subst hv5
  have d5 := G5.out.cell d0 (fun e => by cases e; exact hne rfl)
  have HN5 := hideP hn
  clear hn
  have RR5 := hideP R5
  have gg5 := hideP g5
  have VV5 := hideP V5
  clear V5
  refine hK.out _ _ ?_ (fun hHeld => ?_)
  · exact d5
  clear hK K
  try simp only [Act.put, List.setIfInBounds_toArray, List.set_cons_zero, List.set_cons_succ]
  refine wpAnyH_ready (rs := [10]) (by kernel_rfl) (by simp) ?_
  refine AllReadyH.cons (o := { dst := some 13, op := Op.call { callee := Callee.value (Operand.func 127), args := #[Operand.tmp 11, Operand.tmp 12], argTypes := #[143, 111] }, type := 45, pos := "read.go:39", after := #[{ on := 8, ground := Ground.data }, { on := 9, ground := Ground.data }, { on := 7, ground := Ground.chain }], guard := none }) rfl (fun K hK => ?_) AllReadyH.nil
  go_simp
  go_at_call 127
  refine (xp9Z 128 #[.pointer (some ⟨w.heap.size, 0, none⟩)] numsP b q5 w5 R5 xovZ (fun t W hg hR => xouZ b w.heap.size t W hR (hg.cell d5 (fun e => by cases e; exact hne rfl))) (fun t a q h => (xcvZ.2 _ _ _ h).2.1)).mono ?_
  intro e w6 hx
  obtain ⟨g', hcase⟩ := hx
  have g6 : w5.grownBy w6 (some b) :=  g'
  have G6 := hideP (xbnZ G5.out g6)
  clear g'
  rcases hcase with ⟨hn, rfl⟩ | ⟨a6, q6, v6, hn, rfl, R6, V6⟩
  · exact ⟨rfl, Gives.mk_mis (xbnZ HG1.out G6.out) (by simp only [machPP, HN2.out, HN3.out, HN4.out, HN5.out, hn])⟩
  obtain ⟨p6, n6, c6, hv6⟩ := RowB.shp V6
  subst hv6
  have d6 := G6.out.cell d0 (fun e => by cases e; exact hne rfl)
  have HN6 := hideP hn
  clear hn
  have RR6 := hideP R6
  have gg6 := hideP g6
  have hbx6 := (G6.out.block _ hwl (fun e => by injection e with e1; omega)).trans HY0.out
  have HBX6 := hideP hbx6
  clear hbx6
  have VV6 := hideP V6
  clear V6
  refine hK.out _ _ ?_ (fun hHeld => ?_)
  · exact d6
  clear hK K
  try simp only [Act.put, List.setIfInBounds_toArray, List.set_cons_zero, List.set_cons_succ]
  refine wpAnyH_ready (rs := [13]) (by kernel_rfl) (by simp) ?_
  refine AllReadyH.cons (o := { dst := some 16, op := Op.call { callee := Callee.value (Operand.func 129), args := #[Operand.tmp 14, Operand.tmp 15], argTypes := #[143, 176] }, type := 44, pos := "read.go:40", after := #[{ on := 11, ground := Ground.data }, { on := 12, ground := Ground.data }, { on := 10, ground := Ground.chain }], guard := none }) rfl (fun K hK => ?_) AllReadyH.nil
  go_simp
  go_at_call 129
  refine (xqaZ 130 #[.pointer (some ⟨w.heap.size, 0, none⟩)] frmP b q6 w6 R6 xoxZ (fun t W hg hR => xowZ b w.heap.size t W hR ((hg.block _ (xacZ HBX6.out) (fun e => by injection e with e1; omega)).trans HBX6.out) hne) (fun _ _ _ _ => trivial)).mono ?_
  intro e w7 hx
  obtain ⟨g', hcase⟩ := hx
  have g7 : w6.grownBy w7 (some b) :=  g'
  have G7 := hideP (xbnZ G6.out g7)
  clear g'
  rcases hcase with ⟨hn, rfl⟩ | ⟨a7, q7, v7, hn, rfl, R7, V7⟩
  · exact ⟨rfl, Gives.mk_mis (xbnZ HG1.out G7.out) (by simp only [machPP, HN2.out, HN3.out, HN4.out, HN5.out, HN6.out, hn])⟩
  obtain ⟨p7, n7, c7, hv7⟩ := RowF.shp V7
  subst hv7
  have d7 := G7.out.cell d0 (fun e => by cases e; exact hne rfl)
  have HN7 := hideP hn
  clear hn
  have RR7 := hideP R7
  have gg7 := hideP g7
  have hx7 := (G7.out.block _ hml (fun e => by injection e with e1; omega)).trans HX0.out
  have k0 := xaaZ hx7 0
  have k1 := xaaZ hx7 1
  have k2 := xaaZ hx7 2
  have k3 := xaaZ hx7 3
  have k4 := xaaZ hx7 4
  have k5 := xaaZ hx7 5
  simp at k0 k1 k2 k3 k4 k5
  have zz := Lib.frozen_of_heap hx7
  have z0 := zz 0
  have z1 := zz 1
  have z2 := zz 2
  have z3 := zz 3
  have z4 := zz 4
  have z5 := zz 5
  have HX7 := hideP hx7
  clear zz hx7
  have VV7 := hideP V7
  clear V7
  refine hK.out _ _ ?_ (fun hHeld => ?_)
  · exact d7
  clear hK K
  try simp only [Act.put, List.setIfInBounds_toArray, List.set_cons_zero, List.set_cons_succ]
  refine wpAnyH_take (i := 14) (oi := { dst := some 17, op := Op.build 48 #[(4, Operand.tmp 4), (5, Operand.tmp 6), (2, Operand.tmp 8), (3, Operand.tmp 10), (1, Operand.tmp 13), (0, Operand.tmp 16)], type := 48, pos := "read.go:34", after := #[{ on := 1, ground := Ground.data }, { on := 3, ground := Ground.data }, { on := 5, ground := Ground.data }, { on := 7, ground := Ground.data }, { on := 10, ground := Ground.data }, { on := 13, ground := Ground.data }], guard := none }) (v := ?_) rfl (by kernel_rfl) (by kernel_rfl) (by kernel_rfl) (fun _ _ _ h => h) (Or.inl ⟨by rfl, ?_⟩) (by assumption) ?_
  rotate_left
  · (intro wS hSw; (try dsimp only at hSw); go_simp) <;> (first | done | with_reducible rfl)
  try simp only [Act.put, List.setIfInBounds_toArray, List.set_cons_zero, List.set_cons_succ]
  refine wpAnyH_ready (rs := [15]) (by kernel_rfl) (by simp) ?_
  refine AllReadyH.cons (o := { dst := none, op := Op.store 48 (Operand.tmp 2) (Operand.tmp 17), type := 0, pos := "read.go:34", after := #[{ on := 14, ground := Ground.data }, { on := 13, ground := Ground.chain }, { on := 0, ground := Ground.phase }, { on := 1, ground := Ground.phase }, { on := 2, ground := Ground.phase }, { on := 3, ground := Ground.phase }, { on := 4, ground := Ground.phase }, { on := 5, ground := Ground.phase }, { on := 6, ground := Ground.phase }, { on := 7, ground := Ground.phase }, { on := 8, ground := Ground.phase }, { on := 9, ground := Ground.phase }, { on := 10, ground := Ground.phase }, { on := 11, ground := Ground.phase }, { on := 12, ground := Ground.phase }, { on := 13, ground := Ground.phase }, { on := 14, ground := Ground.phase }], guard := none }) rfl (fun K hK => ?_) AllReadyH.nil
  go_simp
  refine hK.out _ _ ?_ (fun hHeld => ?_)
  · exact ((((((xa6Z w7 (w.heap.size + 1) 0 _).trans (xa6Z _ (w.heap.size + 1) 1 _)).trans (xa6Z _ (w.heap.size + 1) 2 _)).trans (xa6Z _ (w.heap.size + 1) 3 _)).trans (xa6Z _ (w.heap.size + 1) 4 _)).trans (xa6Z _ (w.heap.size + 1) 5 _)).cell d7 (fun e => by injection e with e1; exact absurd e1 (show ¬ w.heap.size = w.heap.size + 1 by omega))
  clear hK K
  try simp only [Act.put, List.setIfInBounds_toArray, List.set_cons_zero, List.set_cons_succ]
  refine wpAnyH_done (by kernel_rfl) ?_ _
  have hgs : w7.grownBy ((((((w7.setCell ⟨w.heap.size + 1, 0, none⟩ (.slice p7 n7 c7)).setCell ⟨w.heap.size + 1, 1, none⟩ (.slice p6 n6 c6)).setCell ⟨w.heap.size + 1, 2, none⟩ (.slice p4 n4 c4)).setCell ⟨w.heap.size + 1, 3, none⟩ (.slice p5 n5 c5)).setCell ⟨w.heap.size + 1, 4, none⟩ (.int .i64 a2)).setCell ⟨w.heap.size + 1, 5, none⟩ (.int .i64 a3)) (some (w.heap.size + 1)) := ((((((xa6Z w7 (w.heap.size + 1) 0 _).trans (xa6Z _ (w.heap.size + 1) 1 _)).trans (xa6Z _ (w.heap.size + 1) 2 _)).trans (xa6Z _ (w.heap.size + 1) 3 _)).trans (xa6Z _ (w.heap.size + 1) 4 _)).trans (xa6Z _ (w.heap.size + 1) 5 _))
  have hx8 := xe3Z HX7.out (a := .slice p7 n7 c7) (b := .slice p6 n6 c6) (c := .slice p4 n4 c4) (d := .slice p5 n5 c5) (e := .int .i64 a2) (f := .int .i64 a3)
  have HGS := hideP hgs
  obtain ⟨W8, hW8⟩ : ∃ W8, ((((((w7.setCell ⟨w.heap.size + 1, 0, none⟩ (.slice p7 n7 c7)).setCell ⟨w.heap.size + 1, 1, none⟩ (.slice p6 n6 c6)).setCell ⟨w.heap.size + 1, 2, none⟩ (.slice p4 n4 c4)).setCell ⟨w.heap.size + 1, 3, none⟩ (.slice p5 n5 c5)).setCell ⟨w.heap.size + 1, 4, none⟩ (.int .i64 a2)).setCell ⟨w.heap.size + 1, 5, none⟩ (.int .i64 a3)) = W8 := ⟨_, rfl⟩
  rw [hW8] at hx8 HGS
  have m0 := xaaZ hx8 0
  have m1 := xaaZ hx8 1
  have m2 := xaaZ hx8 2
  have m3 := xaaZ hx8 3
  have m4 := xaaZ hx8 4
  have m5 := xaaZ hx8 5
  simp at m0 m1 m2 m3 m4 m5
  rw [hW8]
  clear hgs hx8 hW8
  go_wp2
  refine bodyPost_ret (v := .agg #[.slice p7 n7 c7, .slice p6 n6 c6, .slice p4 n4 c4, .slice p5 n5 c5, .int .i64 a2, .int .i64 a3]) (by simp [results, Tryz.results93, go_sem, m0, m1, m2, m3, m4, m5]) rfl ?_
  have hty : TyRow w7 (some (w.heap.size + 1)) 48 := xa5Z HX7.out
  have h12 := G2.out.size
  have h13 := G3.out.size
  have h23 := gg3.out.size
  have h34 := gg4.out.size
  have h45 := gg5.out.size
  have h56 := gg6.out.size
  have i7 : RowI w3.heap.size w7 (.slice p4 n4 c4) a4 := xh1Z (xh1Z (xh1Z VV4.out RR4.out gg5.out) RR5.out gg6.out) RR6.out gg7.out
  have o7 : RowI w4.heap.size w7 (.slice p5 n5 c5) a5 := xh1Z (xh1Z VV5.out RR5.out gg6.out) RR6.out gg7.out
  have b7 := rowB_on (b := b) VV6.out gg7.out RR6.out.ty (by decide) (by decide)
  have i8 := xarZ i7 HGS.out hty (by decide)
  have o8 := xarZ o7 HGS.out hty (by decide)
  obtain ⟨qb, hqb, hbl8, hbr8⟩ := rowB_on (b := b) b7 HGS.out hty (by decide) (by decide)
  obtain ⟨qf, hqf, hfl8, hfr8⟩ := rowF_on (b := b) VV7.out HGS.out hty (by decide) (by decide)
  have hi4 : a4.length ≤ 17592186044416 := by have := (xcvZ.2 _ _ _ HN4.out).2.1; omega
  have ho5 : a5.length ≤ 17592186044416 := by have := (xcvZ.2 _ _ _ HN5.out).2.1; omega
  have hlo : ∀ g, Value.ownBlock (.slice p5 n5 c5) = some g → g < w5.heap.size := fun g e => (VV5.out.lt g e).2
  have hli : ∀ g, Value.ownBlock (.slice p4 n4 c4) = some g → g < w4.heap.size := fun g e => (VV4.out.lt g e).2
  refine Gives.mk_val (a := (⟨a7, a6, a4, a5, a2, a3⟩ : Mach)) (xatZ (xbnZ HG1.out G7.out) HGS.out (fun r hr => by cases hr; exact .inr (by omega))) (by simp only [machPP, HN2.out, HN3.out, HN4.out, HN5.out, HN6.out, HN7.out]) (RR7.out.kept HGS.out (fun e => by injection e with e1; omega)) ⟨_, _, _, _, qf, qb, rfl, ?_, ?_, ?_, ?_⟩
  · exact xapZ hfl8 (by omega)
  · exact hfr8.low (by omega)
  · exact xapZ hbl8 (by omega)
  · refine BRows.cons (BRows.cons (hbr8.low (by omega)) (xapZ o8 (by omega)) (fun k y g hy hg h5 => ?_) ho5) (xapZ i8 (by omega)) (fun k y g hy hg h5 => ?_) hi4
    · have h1 := (hbr8.lt hy hg).1
      have h2 := hlo g h5
      omega
    · have h2 := hli g h5
      cases k with
      | zero =>
        simp at hy
        subst hy
        have h3 := (VV5.out.lt g hg).1
        omega
      | succ k =>
        have h1 := (hbr8.lt (by simpa using hy) hg).1
        omega
end Go.Proofs.YtmjjkenblfndgaaGreat


/- image.read. -/
namespace Go.Proofs.YtmjjkenblfndgaaGreat
open Go.RowKit
set_option linter.unusedSimpArgs false
set_option linter.unusedVariables false
theorem xp6Z (bm ba : Nat) (w : World) :
    CallsD Tryz.prog 92 #[.pointer (some ⟨bm, 0, none⟩), .pointer (some ⟨ba, 0, none⟩)] .returning w fun e u' w' => e = .returned (.tuple #[]) ∧ u' = .returning ∧ w' = w.alloc (.cells #[] 141) := by
  refine callsD_of_wpS Tryz.func92 rfl fun c₀ cs hu => ?_
  apply wpS_seq
  apply wpS_region
  simp [wpOpsS, go_sem, recoverD, hu, Tryz.ntmps92, Exit.thenS, ta_mis_nil, Array.replicate_succ]
  refine wpS_of_wp ?_
  go_wp2
  refine ⟨rfl, .returning, ?_, .tuple #[], results_none rfl _ _ _, rfl, rfl, rfl⟩
  cases c₀
  simp_all
theorem xk4Z (m0 m1 m2 m3 m4 m5 b0 : Value) (bm ba : Nat) (w : World) (hm : w.heap[bm]? = some (.cells #[m0, m1, m2, m3, m4, m5] 48 (0, 0))) (ha : w.heap[ba]? = some (.cells #[b0] 4 (0, 0))) (hne : bm ≠ ba) :
    CallsD Tryz.prog 92 #[.pointer (some ⟨bm, 0, none⟩), .pointer (some ⟨ba, 0, none⟩)] (.panicking [{ v := .iface 141 (.agg #[]), recovered := false }]) w fun e u' w' =>
      e = .returned (.tuple #[]) ∧ u' = .panicking [{ v := .iface 141 (.agg #[]), recovered := true }] ∧ w' = (((((((w.alloc (.cells #[] 141)).setCell ⟨bm, 0, none⟩ (.slice none 0 0)).setCell ⟨bm, 1, none⟩ (.slice none 0 0)).setCell ⟨bm, 2, none⟩ (.slice none 0 0)).setCell ⟨bm, 3, none⟩ (.slice none 0 0)).setCell ⟨bm, 4, none⟩ (.int .i64 0)).setCell ⟨bm, 5, none⟩ (.int .i64 0)).setCell ⟨ba, 0, none⟩ (.bool false) := by
  have hn1 : ¬ bm = ba := hne
  have hn2 : ¬ ba = bm := fun h => hne h.symm
  have h1 := xajZ hm (.cells #[] 141)
  have h2 := xajZ ha (.cells #[] 141)
  have a0 := xaaZ h1 0
  have a1 := xaaZ h1 1
  have a2 := xaaZ h1 2
  have a3 := xaaZ h1 3
  have a4 := xaaZ h1 4
  have a5 := xaaZ h1 5
  have e0 := xaaZ h2 0
  simp at a0 a1 a2 a3 a4 a5 e0
  have z := Lib.frozen_of_heap h1
  have z0 := z 0
  have z1 := z 1
  have z2 := z 2
  have z3 := z 3
  have z4 := z 4
  have z5 := z 5
  have y := Lib.frozen_of_heap h2 0
  clear z h1 h2 hm ha
  obtain ⟨R, hR⟩ : ∃ R, (fun e u' w' => e = Ending.returned (.tuple #[]) ∧ u' = FrameMode.panicking [{ v := .iface 141 (.agg #[]), recovered := true }] ∧ w' = (((((((w.alloc (.cells #[] 141)).setCell ⟨bm, 0, none⟩ (.slice none 0 0)).setCell ⟨bm, 1, none⟩ (.slice none 0 0)).setCell ⟨bm, 2, none⟩ (.slice none 0 0)).setCell ⟨bm, 3, none⟩ (.slice none 0 0)).setCell ⟨bm, 4, none⟩ (.int .i64 0)).setCell ⟨bm, 5, none⟩ (.int .i64 0)).setCell ⟨ba, 0, none⟩ (.bool false)) = R := ⟨_, rfl⟩
  rw [hR]
  have HR := hideP hR
  clear hR
  refine callsD_of_wpS Tryz.func92 rfl fun c₀ cs hu => ?_
  apply wpS_seq
  apply wpS_region
  simp [wpOpsS, go_sem, recoverD, hu, Tryz.ntmps92, Exit.thenS, ta_mis, Array.replicate_succ]
  refine wpS_of_wp ?_
  obtain ⟨W, hW⟩ : ∃ W, w.alloc (.cells #[] 141) = W := ⟨_, rfl⟩
  rw [hW] at a0 a1 a2 a3 a4 a5 e0 z0 z1 z2 z3 z4 z5 y HR
  rw [hW]
  clear hW
  go_wp2
  refine ⟨rfl, _, rfl, .tuple #[], results_none rfl _ _ _, ?_⟩
  rw [← HR.out]
  exact ⟨rfl, rfl, rfl⟩
def ReadP (B : Nat) (s : List UInt8) (e : Ending) (w' : World) : Prop := ∃ fv bv iv ov q qb, e = .returned (.tuple #[.agg #[fv, bv, iv, ov, .int .i64 ((xbqZ s).getD zeroM).status, .int .i64 ((xbqZ s).getD zeroM).trap], .bool (xbqZ s).isSome]) ∧ MOwn w' B fv bv iv ov q qb ((xbqZ s).getD zeroM)
theorem xmrZ (W : World) (B : Nat) : MOwn W B (.slice none 0 0) (.slice none 0 0) (.slice none 0 0) (.slice none 0 0) [] [] zeroM :=
  ⟨World.ownsRow_nil _ _ _ _, xf6Z W B, World.ownsRow_nil _ _ _ _, ⟨rfl, fun k x b h1 h2 => by
    match k, h1, h2 with
    | 0, h1, h2 => simp at h1 h2; subst h1; obtain rfl := h2; exact World.ownsRow_nil _ _ _ _
    | 1, h1, h2 => simp at h1 h2; subst h1; obtain rfl := h2; exact World.ownsRow_nil _ _ _ _
    | k + 2, h1, h2 => simp at h1, fun i j x y g h1 h2 g1 g2 => by
    match i, h1 with
    | 0, h1 => simp at h1; subst h1; cases g1
    | 1, h1 => simp at h1; subst h1; cases g1
    | k + 2, h1 => simp at h1, fun b hb => by
    simp [zeroM] at hb; rcases hb with rfl | rfl <;> simp⟩⟩
theorem xjfZ {w : World} {bm ba : Nat} {t0 : TypeId} {o : Obj} {m0 m1 m2 m3 m4 m5 b0 : Value} (hne : bm ≠ ba) (hm : w.heap[bm]? = some (.cells #[m0, m1, m2, m3, m4, m5] 48 (0, 0))) (ha : w.heap[ba]? = some (.cells #[b0] 4 (0, 0))) {a b c d e f g : Value} :
    ((((((((w.setCell ⟨bm, 0, none⟩ a).setCell ⟨bm, 1, none⟩ b).setCell ⟨bm, 2, none⟩ c).setCell ⟨bm, 3, none⟩ d).setCell ⟨bm, 4, none⟩ e).setCell ⟨bm, 5, none⟩ f).setCell ⟨ba, 0, none⟩ g).heap[bm]? = some (.cells #[a, b, c, d, e, f] 48 (0, 0))) ∧ ((((((((w.setCell ⟨bm, 0, none⟩ a).setCell ⟨bm, 1, none⟩ b).setCell ⟨bm, 2, none⟩ c).setCell ⟨bm, 3, none⟩ d).setCell ⟨bm, 4, none⟩ e).setCell ⟨bm, 5, none⟩ f).setCell ⟨ba, 0, none⟩ g).heap[ba]? = some (.cells #[g] 4 (0, 0))) := by
  have h6 := xe3Z hm (a := a) (b := b) (c := c) (d := d) (e := e) (f := f)
  have hb6 := ((xbfZ w bm a b c d e f).block ba (xacZ ha) (fun x => by injection x with x; exact hne x.symm)).trans ha
  exact ⟨(heap_setCell_other _ _ _ _ hne).trans h6, by simpa using heap_setCell_same _ ba 0 _ _ g hb6⟩
theorem iread_mis (X : ByteArray) (w : World) (hX : X.size ≤ 9223372036854775807) (hn : machPP X.data.toList = none) : Calls Tryz.prog 61 #[.string X] w fun e w' => ReadP w.heap.size X.data.toList e w' ∧ Below w.heap.size w w' := by
  have hmf : ∀ (fn : Go.Fn) (first cap : Array Value) (w : World), (Instr.makeFunc fn first cap).run Tryz.prog w = .ok (.func fn first cap) w := fun _ _ _ _ => rfl
  obtain ⟨W1, hW1⟩ : ∃ W1, ((w.alloc (.cells #[.slice none 0 0, .slice none 0 0, .slice none 0 0, .slice none 0 0, .int .i64 0, .int .i64 0] 48)).alloc (.cells #[.bool false] 4)).alloc (.cells #[.string X] 145) = W1 := ⟨_, rfl⟩
  have x1 : W1.heap[w.heap.size]? = some (.cells #[.slice none 0 0, .slice none 0 0, .slice none 0 0, .slice none 0 0, .int .i64 0, .int .i64 0] 48 (0, 0)) := by rw [← hW1]; exact xc9Z _ _ _ _
  have y1 : W1.heap[w.heap.size + 1]? = some (.cells #[.bool false] 4 (0, 0)) := by rw [← hW1]; exact xcuZ _ _ _ _
  have r1 : W1.heap[w.heap.size + 1 + 1]? = some (.cells #[.string X] 145 (0, 0)) := by rw [← hW1]; exact new3 _ _ _ _
  have b1 : Below w.heap.size w W1 := by rw [← hW1]; exact (((Below.refl _ w).alloc (Nat.le_refl _) _).alloc (by simp) _).alloc (by simp; omega) _
  have R1 : RdI W1 (w.heap.size + 1 + 1) X.data.toList := ⟨X, r1, rfl, hX⟩
  have hne : w.heap.size ≠ w.heap.size + 1 := by omega
  have HC := hideP (xguZ (w.heap.size + 1 + 1) X.data.toList W1 R1)
  have lx := xacZ x1
  have ly := xacZ y1
  have HX := hideP x1
  have HY := hideP y1
  have HB1 := hideP b1
  clear x1 y1 r1 b1 R1
  have HN := hideP (show xbqZ X.data.toList = none by rw [xbqZ, hn])
  rw [hn] at HC
  clear hn
  go_enter_defers Tryz.func61, Tryz.ntmps61
  go_wp2_with (go_at_call 93; refine HC.out.mono ?_; intro e w6 hx; obtain ⟨he, g6⟩ := hx.mis; obtain rfl : e = .panicked [{ v := .iface 141 (.agg #[]), recovered := false }] := he; have hx6 := (g6.block _ lx (fun e => by injection e with e1; omega)).trans HX.out; have hy6 := (g6.block _ ly (fun e => by injection e with e1; omega)).trans HY.out; have HX6 := hideP hx6; have HY6 := hideP hy6; have G6 := hideP g6; clear hx6 hy6 g6 hx)
  refine leaves_cons (f := 92) (args := #[.pointer (some ⟨w.heap.size, 0, none⟩), .pointer (some ⟨w.heap.size + 1, 0, none⟩)]) (by simp) (by simp [go_sem]) ?_
  refine (xk4Z _ _ _ _ _ _ _ _ _ _ HX6.out HY6.out hne).mono ?_
  have BW6 := hideP (xhkZ (B := w.heap.size) G6.out (by omega) (by omega))
  rintro e u' w8 ⟨rfl, rfl, hw8⟩
  obtain ⟨h1, h2⟩ := xjfZ (t0 := 4) (o := .cells #[] 4) hne (xajZ HX6.out (.cells #[] 141)) (xajZ HY6.out (.cells #[] 141)) (a := .slice none 0 0) (b := .slice none 0 0) (c := .slice none 0 0) (d := .slice none 0 0) (e := .int .i64 0) (f := .int .i64 0) (g := .bool false)
  have hg : w6.grownBy (w6.alloc (.cells #[] 141)) none := World.grownBy_alloc _ _ _
  have hb8 : Below w.heap.size w6 w8 := by
    rw [hw8]
    exact (((Below.refl w.heap.size w6).alloc (by have := BW6.out.size; have := lx; omega) _).grown (xbfZ _ w.heap.size _ _ _ _ _ _) (by have := BW6.out.size; have := lx; simp; omega) (fun k hk => by cases hk; omega)).setCell (p := ⟨w.heap.size + 1, 0, none⟩) (by simp) _
  rw [← hw8] at h1 h2
  have a0 := xaaZ h1 0
  have a1 := xaaZ h1 1
  have a2 := xaaZ h1 2
  have a3 := xaaZ h1 3
  have a4 := xaaZ h1 4
  have a5 := xaaZ h1 5
  have a6 := xaaZ h2 0
  simp at a0 a1 a2 a3 a4 a5 a6
  have HB8 := hideP hb8
  have HZ := hideP (xmrZ w8 w.heap.size)
  clear hb8 hw8 h1 h2
  simp [Leaves, settle, results, Tryz.results61, go_sem, a0, a1, a2, a3, a4, a5, a6]
  refine ⟨?_, HB1.out.trans (BW6.out.trans HB8.out)⟩
  unfold ReadP
  rw [HN.out]
  exact ⟨_, _, _, _, _, _, rfl, HZ.out⟩
theorem iread_more (X : ByteArray) (w : World) (hX : X.size ≤ 9223372036854775807) (M : Mach) (c : UInt8) (r : List UInt8) (hn : machPP X.data.toList = some (M, c :: r)) : Calls Tryz.prog 61 #[.string X] w fun e w' => ReadP w.heap.size X.data.toList e w' ∧ Below w.heap.size w w' := by
  have hmf : ∀ (fn : Go.Fn) (first cap : Array Value) (w : World), (Instr.makeFunc fn first cap).run Tryz.prog w = .ok (.func fn first cap) w := fun _ _ _ _ => rfl
  obtain ⟨W1, hW1⟩ : ∃ W1, ((w.alloc (.cells #[.slice none 0 0, .slice none 0 0, .slice none 0 0, .slice none 0 0, .int .i64 0, .int .i64 0] 48)).alloc (.cells #[.bool false] 4)).alloc (.cells #[.string X] 145) = W1 := ⟨_, rfl⟩
  have x1 : W1.heap[w.heap.size]? = some (.cells #[.slice none 0 0, .slice none 0 0, .slice none 0 0, .slice none 0 0, .int .i64 0, .int .i64 0] 48 (0, 0)) := by rw [← hW1]; exact xc9Z _ _ _ _
  have y1 : W1.heap[w.heap.size + 1]? = some (.cells #[.bool false] 4 (0, 0)) := by rw [← hW1]; exact xcuZ _ _ _ _
  have r1 : W1.heap[w.heap.size + 1 + 1]? = some (.cells #[.string X] 145 (0, 0)) := by rw [← hW1]; exact new3 _ _ _ _
  have b1 : Below w.heap.size w W1 := by rw [← hW1]; exact (((Below.refl _ w).alloc (Nat.le_refl _) _).alloc (by simp) _).alloc (by simp; omega) _
  have R1 : RdI W1 (w.heap.size + 1 + 1) X.data.toList := ⟨X, r1, rfl, hX⟩
  have hne : w.heap.size ≠ w.heap.size + 1 := by omega
  have HC := hideP (xguZ (w.heap.size + 1 + 1) X.data.toList W1 R1)
  have lx := xacZ x1
  have ly := xacZ y1
  have HX := hideP x1
  have HY := hideP y1
  have HB1 := hideP b1
  clear x1 y1 r1 b1 R1
  have HN := hideP (show xbqZ X.data.toList = none by rw [xbqZ, hn])
  rw [hn] at HC
  clear hn
  go_enter_defers Tryz.func61, Tryz.ntmps61
  go_wp2_with fail
  refine HC.out.mono ?_
  intro e w5 hx
  obtain ⟨v, rfl, R5, V5, g5⟩ := hx.val
  obtain ⟨fv, bv, iv, ov, q, qb, rfl, hown⟩ := V5
  obtain ⟨pf, cf, hfv⟩ := xagZ hown.fr
  obtain ⟨pb, cb, hbv⟩ := xagZ hown.bl
  obtain ⟨pi, ci, hiv⟩ := xagZ hown.inp
  obtain ⟨po, co, hov⟩ := xagZ hown.out
  subst hfv hbv hiv hov
  have hx5 := (g5.block _ lx (fun e => by injection e with e1; omega)).trans HX.out
  have hy5 := (g5.block _ ly (fun e => by injection e with e1; omega)).trans HY.out
  obtain ⟨X5, hX5, hX6, -⟩ := R5
  have c0 := xaaZ hX5 0
  simp at c0
  have hnX : ¬ X5.toList = [] := (by rw [ByteArray.toList_eq, hX6]; simp)
  have a0 := xaaZ hx5 0
  have a1 := xaaZ hx5 1
  have a2 := xaaZ hx5 2
  have a3 := xaaZ hx5 3
  have a4 := xaaZ hx5 4
  have a5 := xaaZ hx5 5
  simp at a0 a1 a2 a3 a4 a5
  have z := Lib.frozen_of_heap hx5
  have z0 := z 0
  have z1 := z 1
  have z2 := z 2
  have z3 := z 3
  have z4 := z 4
  have z5 := z 5
  have hnE : X5.toList.isEmpty = false := by cases h : X5.toList with
    | nil => exact absurd h hnX
    | cons _ _ => rfl
  have HOWN := hideP hown
  have hg6 := xbfZ w5 w.heap.size (.slice pf q.length cf) (.slice pb qb.length cb) (.slice pi M.inp.length ci) (.slice po M.out.length co) (.int .i64 M.status) (.int .i64 M.trap)
  have hx6 := xe3Z hx5 (a := .slice pf q.length cf) (b := .slice pb qb.length cb) (c := .slice pi M.inp.length ci) (d := .slice po M.out.length co) (e := .int .i64 M.status) (f := .int .i64 M.trap)
  obtain ⟨w6, hw6⟩ : ∃ W, (((((w5.setCell ⟨w.heap.size, 0, none⟩ (.slice pf q.length cf)).setCell ⟨w.heap.size, 1, none⟩ (.slice pb qb.length cb)).setCell ⟨w.heap.size, 2, none⟩ (.slice pi M.inp.length ci)).setCell ⟨w.heap.size, 3, none⟩ (.slice po M.out.length co)).setCell ⟨w.heap.size, 4, none⟩ (.int .i64 M.status)).setCell ⟨w.heap.size, 5, none⟩ (.int .i64 M.trap) = W := ⟨_, rfl⟩
  rw [hw6] at hg6 hx6
  have hy6 := (hg6.block _ (xacZ hy5) (fun e => by injection e with e1; omega)).trans hy5
  have hX6' := (hg6.block _ (xacZ hX5) (fun e => by injection e with e1; omega)).trans hX5
  have c6 := xaaZ hX6' 0
  simp at c6
  have HX6 := hideP hx6
  have HY6 := hideP hy6
  have HG6 := hideP hg6
  have s5 := g5.size
  have s6 := hg6.size
  clear hx6 hy6 hg6 hX6'
  have HX5 := hideP hx5
  have HY5 := hideP hy5
  have G5 := hideP g5
  have hne2 : ¬ w.heap.size + 1 + 1 = w.heap.size := (by omega)
  clear hx5 hy5 g5 hx hown hX5 hX6 z c0
  go_wp2
  refine leaves_cons (f := 92) (args := #[.pointer (some ⟨w.heap.size, 0, none⟩), .pointer (some ⟨w.heap.size + 1, 0, none⟩)]) (by simp) (by simp [go_sem]) ?_
  refine (xk4Z _ _ _ _ _ _ _ _ _ _ HX6.out HY6.out hne).mono ?_
  have BW6 := hideP ((xhkZ (B := w.heap.size) G5.out (by omega) (by omega)).grown HG6.out (by have := lx; omega) (fun k hk => by cases hk; exact Nat.le_refl _))
  rintro e u' w8 ⟨rfl, rfl, hw8⟩
  obtain ⟨h1, h2⟩ := xjfZ (t0 := 4) (o := .cells #[] 4) hne (xajZ HX6.out (.cells #[] 141)) (xajZ HY6.out (.cells #[] 141)) (a := .slice none 0 0) (b := .slice none 0 0) (c := .slice none 0 0) (d := .slice none 0 0) (e := .int .i64 0) (f := .int .i64 0) (g := .bool false)
  have hg : w6.grownBy (w6.alloc (.cells #[] 141)) none := World.grownBy_alloc _ _ _
  have hb8 : Below w.heap.size w6 w8 := by
    rw [hw8]
    exact (((Below.refl w.heap.size w6).alloc (by have := BW6.out.size; have := lx; omega) _).grown (xbfZ _ w.heap.size _ _ _ _ _ _) (by have := BW6.out.size; have := lx; simp; omega) (fun k hk => by cases hk; omega)).setCell (p := ⟨w.heap.size + 1, 0, none⟩) (by simp) _
  rw [← hw8] at h1 h2
  have a0 := xaaZ h1 0
  have a1 := xaaZ h1 1
  have a2 := xaaZ h1 2
  have a3 := xaaZ h1 3
  have a4 := xaaZ h1 4
  have a5 := xaaZ h1 5
  have a6 := xaaZ h2 0
  simp at a0 a1 a2 a3 a4 a5 a6
  have HB8 := hideP hb8
  have HZ := hideP (xmrZ w8 w.heap.size)
  clear hb8 hw8 h1 h2
  simp [Leaves, settle, results, Tryz.results61, go_sem, a0, a1, a2, a3, a4, a5, a6]
  refine ⟨?_, HB1.out.trans (BW6.out.trans HB8.out)⟩
  unfold ReadP
  rw [HN.out]
  exact ⟨_, _, _, _, _, _, rfl, HZ.out⟩
theorem iread_full (X : ByteArray) (w : World) (hX : X.size ≤ 9223372036854775807) (M : Mach) (hn : machPP X.data.toList = some (M, [])) : Calls Tryz.prog 61 #[.string X] w fun e w' => ReadP w.heap.size X.data.toList e w' ∧ Below w.heap.size w w' := by
  have hmf : ∀ (fn : Go.Fn) (first cap : Array Value) (w : World), (Instr.makeFunc fn first cap).run Tryz.prog w = .ok (.func fn first cap) w := fun _ _ _ _ => rfl
  obtain ⟨W1, hW1⟩ : ∃ W1, ((w.alloc (.cells #[.slice none 0 0, .slice none 0 0, .slice none 0 0, .slice none 0 0, .int .i64 0, .int .i64 0] 48)).alloc (.cells #[.bool false] 4)).alloc (.cells #[.string X] 145) = W1 := ⟨_, rfl⟩
  have x1 : W1.heap[w.heap.size]? = some (.cells #[.slice none 0 0, .slice none 0 0, .slice none 0 0, .slice none 0 0, .int .i64 0, .int .i64 0] 48 (0, 0)) := by rw [← hW1]; exact xc9Z _ _ _ _
  have y1 : W1.heap[w.heap.size + 1]? = some (.cells #[.bool false] 4 (0, 0)) := by rw [← hW1]; exact xcuZ _ _ _ _
  have r1 : W1.heap[w.heap.size + 1 + 1]? = some (.cells #[.string X] 145 (0, 0)) := by rw [← hW1]; exact new3 _ _ _ _
  have b1 : Below w.heap.size w W1 := by rw [← hW1]; exact (((Below.refl _ w).alloc (Nat.le_refl _) _).alloc (by simp) _).alloc (by simp; omega) _
  have R1 : RdI W1 (w.heap.size + 1 + 1) X.data.toList := ⟨X, r1, rfl, hX⟩
  have hne : w.heap.size ≠ w.heap.size + 1 := by omega
  have HC := hideP (xguZ (w.heap.size + 1 + 1) X.data.toList W1 R1)
  have lx := xacZ x1
  have ly := xacZ y1
  have HX := hideP x1
  have HY := hideP y1
  have HB1 := hideP b1
  clear x1 y1 r1 b1 R1
  have HN := hideP (show xbqZ X.data.toList = some M by rw [xbqZ, hn])
  rw [hn] at HC
  clear hn
  go_enter_defers Tryz.func61, Tryz.ntmps61
  go_wp2_with fail
  refine HC.out.mono ?_
  intro e w5 hx
  obtain ⟨v, rfl, R5, V5, g5⟩ := hx.val
  obtain ⟨fv, bv, iv, ov, q, qb, rfl, hown⟩ := V5
  obtain ⟨pf, cf, hfv⟩ := xagZ hown.fr
  obtain ⟨pb, cb, hbv⟩ := xagZ hown.bl
  obtain ⟨pi, ci, hiv⟩ := xagZ hown.inp
  obtain ⟨po, co, hov⟩ := xagZ hown.out
  subst hfv hbv hiv hov
  have hx5 := (g5.block _ lx (fun e => by injection e with e1; omega)).trans HX.out
  have hy5 := (g5.block _ ly (fun e => by injection e with e1; omega)).trans HY.out
  obtain ⟨X5, hX5, hX6, -⟩ := R5
  have c0 := xaaZ hX5 0
  simp at c0
  have hnX : X5.toList = [] := (by rw [ByteArray.toList_eq, hX6])
  have a0 := xaaZ hx5 0
  have a1 := xaaZ hx5 1
  have a2 := xaaZ hx5 2
  have a3 := xaaZ hx5 3
  have a4 := xaaZ hx5 4
  have a5 := xaaZ hx5 5
  simp at a0 a1 a2 a3 a4 a5
  have z := Lib.frozen_of_heap hx5
  have z0 := z 0
  have z1 := z 1
  have z2 := z 2
  have z3 := z 3
  have z4 := z 4
  have z5 := z 5
  have HOWN := hideP hown
  have hg6 := xbfZ w5 w.heap.size (.slice pf q.length cf) (.slice pb qb.length cb) (.slice pi M.inp.length ci) (.slice po M.out.length co) (.int .i64 M.status) (.int .i64 M.trap)
  have hx6 := xe3Z hx5 (a := .slice pf q.length cf) (b := .slice pb qb.length cb) (c := .slice pi M.inp.length ci) (d := .slice po M.out.length co) (e := .int .i64 M.status) (f := .int .i64 M.trap)
  obtain ⟨w6, hw6⟩ : ∃ W, (((((w5.setCell ⟨w.heap.size, 0, none⟩ (.slice pf q.length cf)).setCell ⟨w.heap.size, 1, none⟩ (.slice pb qb.length cb)).setCell ⟨w.heap.size, 2, none⟩ (.slice pi M.inp.length ci)).setCell ⟨w.heap.size, 3, none⟩ (.slice po M.out.length co)).setCell ⟨w.heap.size, 4, none⟩ (.int .i64 M.status)).setCell ⟨w.heap.size, 5, none⟩ (.int .i64 M.trap) = W := ⟨_, rfl⟩
  rw [hw6] at hg6 hx6
  have hy6 := (hg6.block _ (xacZ hy5) (fun e => by injection e with e1; omega)).trans hy5
  have hX6' := (hg6.block _ (xacZ hX5) (fun e => by injection e with e1; omega)).trans hX5
  have c6 := xaaZ hX6' 0
  simp at c6
  have m0 := xaaZ hx6 0
  have m1 := xaaZ hx6 1
  have m2 := xaaZ hx6 2
  have m3 := xaaZ hx6 3
  have m4 := xaaZ hx6 4
  have m5 := xaaZ hx6 5
  have m6 := xaaZ hy6 0
  simp at m0 m1 m2 m3 m4 m5 m6
  have zz := Lib.frozen_of_heap hx6
  have n0 := zz 0
  have n1 := zz 1
  have n2 := zz 2
  have n3 := zz 3
  have n4 := zz 4
  have n5 := zz 5
  have n6 := Lib.frozen_of_heap hy6 0
  have hne3 : ¬ w.heap.size + 1 = w.heap.size := (by omega)
  have hne4 : ¬ w.heap.size = w.heap.size + 1 := (by omega)
  clear zz
  have HX6 := hideP hx6
  have HY6 := hideP hy6
  have HG6 := hideP hg6
  have s5 := g5.size
  have s6 := hg6.size
  clear hx6 hy6 hg6 hX6'
  have HX5 := hideP hx5
  have HY5 := hideP hy5
  have G5 := hideP g5
  have hne2 : ¬ w.heap.size + 1 + 1 = w.heap.size := (by omega)
  clear hx5 hy5 g5 hx hown hX5 hX6 z c0
  go_wp2
  obtain ⟨h1, h2⟩ := xjfZ (t0 := 4) (o := .cells #[] 4) hne HX6.out HY6.out (a := .slice pf q.length cf) (b := .slice pb qb.length cb) (c := .slice pi M.inp.length ci) (d := .slice po M.out.length co) (e := .int .i64 M.status) (f := .int .i64 M.trap) (g := .bool true)
  have g7 := xbfZ w6 w.heap.size (.slice pf q.length cf) (.slice pb qb.length cb) (.slice pi M.inp.length ci) (.slice po M.out.length co) (.int .i64 M.status) (.int .i64 M.trap)
  have x7 := xe3Z HX6.out (a := .slice pf q.length cf) (b := .slice pb qb.length cb) (c := .slice pi M.inp.length ci) (d := .slice po M.out.length co) (e := .int .i64 M.status) (f := .int .i64 M.trap)
  have y7 := (g7.block _ (xacZ HY6.out) (fun e => by injection e with e1; omega)).trans HY6.out
  have o6 := HOWN.out.keep HG6.out (xa5Z HX5.out) (by decide) (by decide) (by decide) (by decide)
  have o7 := o6.keep g7 (xa5Z HX6.out) (by decide) (by decide) (by decide) (by decide)
  have o8 := o7.keep (xa6Z _ (w.heap.size + 1) 0 (.bool true)) (xa5Z y7) (by decide) (by decide) (by decide) (by decide)
  have b8 : Below w.heap.size W1 (((((((w6.setCell ⟨w.heap.size, 0, none⟩ (.slice pf q.length cf)).setCell ⟨w.heap.size, 1, none⟩ (.slice pb qb.length cb)).setCell ⟨w.heap.size, 2, none⟩ (.slice pi M.inp.length ci)).setCell ⟨w.heap.size, 3, none⟩ (.slice po M.out.length co)).setCell ⟨w.heap.size, 4, none⟩ (.int .i64 M.status)).setCell ⟨w.heap.size, 5, none⟩ (.int .i64 M.trap)).setCell ⟨w.heap.size + 1, 0, none⟩ (.bool true)) := (((xhkZ (B := w.heap.size) G5.out (by omega) (by omega)).grown HG6.out (by have := lx; omega) (fun k hk => by cases hk; exact Nat.le_refl _)).grown g7 (by have := lx; omega) (fun k hk => by cases hk; exact Nat.le_refl _)).setCell (p := ⟨w.heap.size + 1, 0, none⟩) (by simp) _
  obtain ⟨w8, hw8⟩ : ∃ W, ((((((w6.setCell ⟨w.heap.size, 0, none⟩ (.slice pf q.length cf)).setCell ⟨w.heap.size, 1, none⟩ (.slice pb qb.length cb)).setCell ⟨w.heap.size, 2, none⟩ (.slice pi M.inp.length ci)).setCell ⟨w.heap.size, 3, none⟩ (.slice po M.out.length co)).setCell ⟨w.heap.size, 4, none⟩ (.int .i64 M.status)).setCell ⟨w.heap.size, 5, none⟩ (.int .i64 M.trap)).setCell ⟨w.heap.size + 1, 0, none⟩ (.bool true) = W := ⟨_, rfl⟩
  rw [hw8] at h1 h2 o8 b8
  rw [hw8]
  have O8 := hideP (o8.low (show w.heap.size ≤ W1.heap.size by omega))
  have B8 := hideP b8
  have H1 := hideP h1
  have H2 := hideP h2
  clear h1 h2 g7 x7 y7 o6 o7 o8 b8 hw8
  refine leaves_cons (f := 92) (args := #[.pointer (some ⟨w.heap.size, 0, none⟩), .pointer (some ⟨w.heap.size + 1, 0, none⟩)]) (by simp) (by simp [go_sem]) ?_
  refine (xp6Z _ _ _).mono ?_
  rintro e u' w9 ⟨rfl, rfl, hw9⟩
  have h1 := xajZ H1.out (.cells #[] 141)
  have h2 := xajZ H2.out (.cells #[] 141)
  have hb9 : Below w.heap.size W1 (w8.alloc (.cells #[] 141)) := B8.out.alloc (by have := B8.out.size; have := lx; omega) _
  have ho9 := O8.out.below ((Below.refl _ w8).alloc (Nat.le_refl _) (.cells #[] 141))
  rw [← hw9] at h1 h2 hb9 ho9
  have a0 := xaaZ h1 0
  have a1 := xaaZ h1 1
  have a2 := xaaZ h1 2
  have a3 := xaaZ h1 3
  have a4 := xaaZ h1 4
  have a5 := xaaZ h1 5
  have a6 := xaaZ h2 0
  simp at a0 a1 a2 a3 a4 a5 a6
  have HB9 := hideP hb9
  have HO9 := hideP ho9
  clear hb9 ho9 h1 h2 hw9
  simp [Leaves, settle, results, Tryz.results61, go_sem, a0, a1, a2, a3, a4, a5, a6]
  refine ⟨?_, HB1.out.trans HB9.out⟩
  unfold ReadP
  rw [HN.out]
  exact ⟨_, _, _, _, _, _, rfl, HO9.out⟩
theorem iread_any (X : ByteArray) (w : World) (hX : X.size ≤ 9223372036854775807) : Calls Tryz.prog 61 #[.string X] w fun e w' => ReadP w.heap.size X.data.toList e w' ∧ Below w.heap.size w w' := by
  cases h : machPP X.data.toList with
  | none => exact iread_mis X w hX h
  | some x =>
    obtain ⟨M, r⟩ := x
    cases r with
    | nil => exact iread_full X w hX M h
    | cons c r => exact iread_more X w hX M c r h

end Go.Proofs.YtmjjkenblfndgaaGreat


/- image.Restore. -/
namespace Go.Proofs.YtmjjkenblfndgaaGreat
open Go.RowKit
set_option linter.unusedSimpArgs false
set_option linter.unusedVariables false
noncomputable def restE (p : List Fn) (s : List UInt8) : Int := if fitsE p ≠ 0 then fitsE p else match xbqZ s with
  | none => 1
  | some M => xaoZ p M
noncomputable def restM (p : List Fn) (s : List UInt8) : Mach := if restE p s = 0 then (xbqZ s).getD zeroM else zeroM
theorem pcOk_of {s : List UInt8} {M : Mach} (h : xbqZ s = some M) : PcOk M := fun x hx => by
  have := ((xgjZ h).2.frames.2 x hx).2.1
  unfold okB at this
  omega
theorem inp_of {s : List UInt8} {M : Mach} (h : xbqZ s = some M) : M.inp.length < 256 := (xgjZ h).2.inp.1
theorem xe2Z (p : List Fn) (pv : Value) (X : ByteArray) (w : World) (hp : FnsAt w pv p) (hcp : CapAt w pv) (hX : X.size ≤ 9223372036854775807) : Calls Tryz.prog 28 #[.agg #[pv], .string X] w (MRet (restM p X.data.toList) (restE p X.data.toList) w) := by
  obtain ⟨pp, qp, hpv, -, -⟩ := id hp
  subst hpv
  obtain ⟨W1, hW1⟩ : ∃ W1, (w.alloc (.cells #[.slice pp p.length qp] 24)).alloc (.cells #[.slice none 0 0, .slice none 0 0, .slice none 0 0, .slice none 0 0, .int .i64 0, .int .i64 0] 48) = W1 := ⟨_, rfl⟩
  have b1 : Below w.heap.size w W1 := by rw [← hW1]; exact ((Below.refl _ w).alloc (Nat.le_refl _) _).alloc (by simp) _
  have u1 : W1.heap[w.heap.size]? = some (.cells #[.slice pp p.length qp] 24 (0, 0)) := by rw [← hW1]; exact xajZ (World.alloc_heap_new w _) _
  have u3 : W1.heap[w.heap.size + 1]? = some (.cells #[.slice none 0 0, .slice none 0 0, .slice none 0 0, .slice none 0 0, .int .i64 0, .int .i64 0] 48 (0, 0)) := by rw [← hW1]; exact xa9Z _ _ _
  have l1 := xacZ u1
  have l3 := xacZ u3
  have a0 : W1.cell? ⟨w.heap.size, 0, none⟩ = some (.slice pp p.length qp) := xaaZ u1 0
  have KC : Hid (∀ W, Below W1.heap.size W1 W → W.cell? ⟨w.heap.size, 0, none⟩ = some (.slice pp p.length qp)) := fun W hW => xaaZ ((hW.block _ l1).trans u1) 0
  have KR : Hid (∀ W, Below W1.heap.size W1 W → W.heap[w.heap.size + 1]? = some (.cells #[.slice none 0 0, .slice none 0 0, .slice none 0 0, .slice none 0 0, .int .i64 0, .int .i64 0] 48 (0, 0))) := fun W hW => (hW.block _ l3).trans u3
  have H1 := hp.below b1
  have HP : Hid (Calls Tryz.prog 49 #[.agg #[.slice pp p.length qp]] W1 fun e w' => e = .returned (.int .i64 (fitsE p)) ∧ Below W1.heap.size W1 w') := (xfnZ p _ W1 H1 (hcp.below hp b1)).mono fun e w' ⟨er, h1, h2, h3⟩ => ⟨by rw [h1, xdvZ h2], h3⟩
  have HH := hideP H1
  have HCP := hideP (hcp.below hp b1)
  have HB1 := hideP b1
  clear hp hcp H1 u1 u3
  by_cases hc : fitsE p = 0
  rotate_left
  · have he : restE p X.data.toList = fitsE p := if_pos hc
    have hm : restM p X.data.toList = zeroM := if_neg (by rw [he]; exact hc)
    rw [hm, he]
    have hc' : (fitsE p != 0) = true := by simpa using hc
    generalize fitsE p = er at *
    clear hc he hm
    go_enter Tryz.func28, Tryz.ntmps28
    go_wp2_with fail
    refine HP.out.mono ?_
    rintro e' w2 ⟨rfl, b2⟩
    have hr2 := KR.out w2 b2
    have r0 := xaaZ hr2 0
    have r1 := xaaZ hr2 1
    have r2 := xaaZ hr2 2
    have r3 := xaaZ hr2 3
    have r4 := xaaZ hr2 4
    have r5 := xaaZ hr2 5
    simp at r0 r1 r2 r3 r4 r5
    have zz := Lib.frozen_of_heap hr2
    have z0 := zz 0
    have z1 := zz 1
    have z2 := zz 2
    have z3 := zz 3
    have z4 := zz 4
    have z5 := zz 5
    clear zz
    have HR2 := hideP hr2
    clear hr2
    go_wp2
    refine bodyPost_ret (v := .tuple #[.agg #[.slice none 0 0, .slice none 0 0, .slice none 0 0, .slice none 0 0, .int .i64 0, .int .i64 0], .int .i64 er]) (by simp [results, Tryz.results28, go_sem, r0, r1, r2, r3, r4, r5]) rfl ?_
    have hg6 := xbfZ w2 (w.heap.size + 1) (.slice none 0 0) (.slice none 0 0) (.slice none 0 0) (.slice none 0 0) (.int .i64 0) (.int .i64 0)
    exact ⟨_, _, _, _, rfl, xdzZ _ _, (xadZ b1 b2).grown hg6 (xadZ b1 b2).size (fun k hk => by cases hk; omega)⟩
  rw [hc] at HP
  have hrd := hideP (fun W => iread_any X W hX)
  cases ho : xbqZ X.data.toList with
  | none =>
    have he : restE p X.data.toList = 1 := by rw [restE, if_neg (by simpa using hc), ho]
    have hm : restM p X.data.toList = zeroM := if_neg (by rw [he]; decide)
    rw [hm, he]
    have HO := hideP ho
    clear hc he hm ho
    go_enter Tryz.func28, Tryz.ntmps28
    go_wp2_with fail
    refine HP.out.mono ?_
    rintro e' w2 ⟨rfl, b2⟩
    have HB2 := hideP b2
    clear a0 b2
    go_wp2_with fail
    refine (hrd.out w2).mono ?_
    rintro e' w3 ⟨hread, b3⟩
    unfold ReadP at hread
    rw [HO.out] at hread
    obtain ⟨fv, bv, iv, ov, q, qb, rfl, hown⟩ := hread
    obtain ⟨pf, cf, hfv⟩ := xagZ hown.fr
    obtain ⟨pb, cb, hbv⟩ := xagZ hown.bl
    obtain ⟨pi, ci, hiv⟩ := xagZ hown.inp
    obtain ⟨po, co, hov⟩ := xagZ hown.out
    subst hfv hbv hiv hov
    simp only [Option.isSome_none, Option.getD_none]
    obtain ⟨W4, hW4⟩ : ∃ W, w3.alloc (.cells #[.slice pf q.length cf, .slice pb qb.length cb, .slice pi zeroM.inp.length ci, .slice po zeroM.out.length co, .int .i64 zeroM.status, .int .i64 zeroM.trap] 48) = W := ⟨_, rfl⟩
    have b4 : Below w3.heap.size w3 W4 := by rw [← hW4]; exact (Below.refl _ w3).alloc (Nat.le_refl _) _
    have b14 : Below W1.heap.size W1 W4 := xadZ (xadZ HB2.out b3) b4
    have hr4 := KR.out W4 b14
    have r0 := xaaZ hr4 0
    have r1 := xaaZ hr4 1
    have r2 := xaaZ hr4 2
    have r3 := xaaZ hr4 3
    have r4 := xaaZ hr4 4
    have r5 := xaaZ hr4 5
    simp at r0 r1 r2 r3 r4 r5
    have zz := Lib.frozen_of_heap hr4
    have z0 := zz 0
    have z1 := zz 1
    have z2 := zz 2
    have z3 := zz 3
    have z4 := zz 4
    have z5 := zz 5
    clear zz
    have HB14 := hideP b14
    clear hr4 b14 b3 b4 hown
    go_wp2
    refine bodyPost_ret (v := .tuple #[.agg #[.slice none 0 0, .slice none 0 0, .slice none 0 0, .slice none 0 0, .int .i64 0, .int .i64 0], .int .i64 1]) (by simp [results, Tryz.results28, go_sem, r0, r1, r2, r3, r4, r5]) rfl ?_
    have hg6 := xbfZ W4 (w.heap.size + 1) (.slice none 0 0) (.slice none 0 0) (.slice none 0 0) (.slice none 0 0) (.int .i64 0) (.int .i64 0)
    exact ⟨_, _, _, _, rfl, xdzZ _ _, (xadZ HB1.out HB14.out).grown hg6 (xadZ HB1.out HB14.out).size (fun k hk => by cases hk; omega)⟩
  | some M =>
    have he : restE p X.data.toList = xaoZ p M := by rw [restE, if_neg (by simpa using hc), ho]
    have hm : restM p X.data.toList = if xaoZ p M = 0 then M else zeroM := by rw [restM, he, ho]; rfl
    rw [hm, he]
    obtain ⟨R, hR⟩ : ∃ R, (if xaoZ p M = 0 then M else zeroM) = R := ⟨_, rfl⟩
    rw [hR]
    have HRR := hideP hR
    clear hR
    have HO := hideP ho
    have HPC := hideP (pcOk_of ho)
    have HIN := hideP (inp_of ho)
    clear hc he hm ho
    go_enter Tryz.func28, Tryz.ntmps28
    go_wp2_with fail
    refine HP.out.mono ?_
    rintro e' w2 ⟨rfl, b2⟩
    have HB2 := hideP b2
    clear a0 b2
    go_wp2_with fail
    refine (hrd.out w2).mono ?_
    rintro e' w3 ⟨hread, b3⟩
    unfold ReadP at hread
    rw [HO.out] at hread
    simp only [Option.isSome_some, Option.getD_some] at hread
    obtain ⟨fv, bv, iv, ov, q, qb, rfl, hown⟩ := hread
    obtain ⟨pf, cf, hfv⟩ := xagZ hown.fr
    obtain ⟨pb, cb, hbv⟩ := xagZ hown.bl
    obtain ⟨pi, ci, hiv⟩ := xagZ hown.inp
    obtain ⟨po, co, hov⟩ := xagZ hown.out
    subst hfv hbv hiv hov
    obtain ⟨W4, hW4⟩ : ∃ W, w3.alloc (.cells #[.slice pf q.length cf, .slice pb qb.length cb, .slice pi M.inp.length ci, .slice po M.out.length co, .int .i64 M.status, .int .i64 M.trap] 48) = W := ⟨_, rfl⟩
    have b4 : Below w3.heap.size w3 W4 := by rw [← hW4]; exact (Below.refl _ w3).alloc (Nat.le_refl _) _
    have v4 : W4.heap[w3.heap.size]? = some (.cells #[.slice pf q.length cf, .slice pb qb.length cb, .slice pi M.inp.length ci, .slice po M.out.length co, .int .i64 M.status, .int .i64 M.trap] 48 (0, 0)) := by rw [← hW4]; exact World.alloc_heap_new w3 _
    have b14 : Below W1.heap.size W1 W4 := xadZ (xadZ HB2.out b3) b4
    have a4 := KC.out W4 b14
    have own4 := hown.below b4
    have HCK := hideP (xd6Z M p _ _ _ _ _ W4 ⟨HH.out.below b14, HCP.out.below HH.out b14, own4.at_⟩ HPC.out)
    have m0 := xaaZ v4 0
    have m1 := xaaZ v4 1
    have m2 := xaaZ v4 2
    have m3 := xaaZ v4 3
    have m4 := xaaZ v4 4
    have m5 := xaaZ v4 5
    simp at m0 m1 m2 m3 m4 m5
    have zz := Lib.frozen_of_heap v4
    have y0 := zz 0
    have y1 := zz 1
    have y2 := zz 2
    have y3 := zz 3
    have y4 := zz 4
    have y5 := zz 5
    clear zz
    have V4 := hideP v4
    have OWN4 := hideP own4
    have HB14 := hideP b14
    have hs2 := HB2.out.size
    have hs3 := b3.size
    clear v4 b14 b3 b4 hown own4 y0 y1 y2 y3 y4 y5
    go_wp2_with fail
    refine HCK.out.mono ?_
    rintro e' w5 ⟨rfl, b5⟩
    have b15 := xadZ HB14.out b5
    have hr5 := KR.out w5 b15
    have v5 := (b5.block _ (xacZ V4.out)).trans V4.out
    clear m0 m1 m2 m3 m4 m5
    have r0 := xaaZ hr5 0
    have r1 := xaaZ hr5 1
    have r2 := xaaZ hr5 2
    have r3 := xaaZ hr5 3
    have r4 := xaaZ hr5 4
    have r5 := xaaZ hr5 5
    simp at r0 r1 r2 r3 r4 r5
    have zz := Lib.frozen_of_heap hr5
    have z0 := zz 0
    have z1 := zz 1
    have z2 := zz 2
    have z3 := zz 3
    have z4 := zz 4
    have z5 := zz 5
    clear zz
    have m0 := xaaZ v5 0
    have m1 := xaaZ v5 1
    have m2 := xaaZ v5 2
    have m3 := xaaZ v5 3
    have m4 := xaaZ v5 4
    have m5 := xaaZ v5 5
    simp at m0 m1 m2 m3 m4 m5
    have zz := Lib.frozen_of_heap v5
    have y0 := zz 0
    have y1 := zz 1
    have y2 := zz 2
    have y3 := zz 3
    have y4 := zz 4
    have y5 := zz 5
    clear zz
    have HR5 := hideP hr5
    have HB15 := hideP b15
    have OWN5 := hideP (OWN4.out.below b5)
    clear hr5 v5 b15 b5
    by_cases hk : xaoZ p M = 0
    rotate_left
    · obtain rfl : R = zeroM := by rw [← HRR.out, if_neg hk]
      have hk' : (xaoZ p M != 0) = true := by simpa using hk
      generalize xaoZ p M = er at *
      clear hk
      go_wp2
      refine bodyPost_ret (v := .tuple #[.agg #[.slice none 0 0, .slice none 0 0, .slice none 0 0, .slice none 0 0, .int .i64 0, .int .i64 0], .int .i64 er]) (by simp [results, Tryz.results28, go_sem, r0, r1, r2, r3, r4, r5]) rfl ?_
      have hg6 := xbfZ w5 (w.heap.size + 1) (.slice none 0 0) (.slice none 0 0) (.slice none 0 0) (.slice none 0 0) (.int .i64 0) (.int .i64 0)
      exact ⟨_, _, _, _, rfl, xdzZ _ _, (xadZ HB1.out HB15.out).grown hg6 (xadZ HB1.out HB15.out).size (fun k hk => by cases hk; omega)⟩
    · obtain rfl : M = R := by rw [← HRR.out, if_pos hk]
      rw [hk]
      have hres : MRes w5 w.heap.size _ _ _ _ M := (OWN5.out.low (show w.heap.size ≤ w2.heap.size by omega)).res
      have HST := hideP (xd7Z (w := w) hres (xadZ HB1.out HB15.out) HR5.out (by omega))
      have HK := hideP hk
      clear hres hk
      go_wp2
      refine bodyPost_ret (v := .tuple #[.agg #[.slice pf q.length cf, .slice pb qb.length cb, .slice pi M.inp.length ci, .slice po M.out.length co, .int .i64 M.status, .int .i64 M.trap], .int .i64 0]) (by simp [results, Tryz.results28, go_sem, r0, r1, r2, r3, r4, r5]) rfl ?_
      exact ⟨_, _, _, _, by rw [HK.out], HST.out.1, HST.out.2⟩
end Go.Proofs.YtmjjkenblfndgaaGreat


