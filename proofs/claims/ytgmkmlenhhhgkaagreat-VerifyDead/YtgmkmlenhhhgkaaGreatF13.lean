/- My texts Zt Xf Eb: what of them is needed, joined. -/
import Derived.Deep.CutRange
import Derived.Lib.SmallJoins
import Derived.Deep.RegionHeld3
import Derived.Test.YtgmkmlenhhhgkaaGreatF2
import Derived.Test.YtgmkmlenhhhgkaaGreatF9
import Derived.Test.YtgmkmlenhhhgkaaGreatF12
set_option maxRecDepth 100000
set_option maxHeartbeats 8000000
/- copiedProgram: a program's copy. -/
namespace Go.Proofs.YtgmkmlenhhhgkaaGreat
open Go.RowKit
set_option linter.unusedSimpArgs false
set_option linter.unusedVariables false
theorem xihZ (l : List Int) : ∀ u ∈ l.map (Value.int .i64), u.oneCell' = true := fun u hu => by
  obtain ⟨n, _, rfl⟩ := List.mem_map.1 hu
  rfl
theorem xjcZ {w : World} {ad : Addr} {n c : Nat} {l : List Int} (h : IntsAt w (.slice (some ad) n c) l) : ∀ (j : Nat) (u : Value), (l.map (Value.int .i64))[j]? = some u → w.cell? (ad.add j) = some u := fun j u hj => by
  obtain ⟨p, cap, he, _, hc⟩ := h
  cases he
  rw [List.getElem?_map] at hj
  cases hl : l[j]? with
  | none => rw [hl] at hj; cases hj
  | some z =>
    rw [hl] at hj
    cases hj
    obtain ⟨b, off, hb, _, hcell⟩ := hc j z hl
    cases hb
    rw [Addr.add_lit]
    exact hcell
theorem xfbZ {ops : Array Oper} {o : Oper} {a : Act} {w : World} {K : Act → World → Prop} {Q : Exit → Act → World → Prop} {E : Prop}
    (hg : o.guard = none) (s x : Operand) (hop : o.op = Op.call { callee := Callee.builtin Builtin.append, args := #[s, x], argTypes := #[25, 25] })
    (base : Nat) (v : Value) (hs : a.eval s = v) (hown : w.ownsRow base 3 1 v 0 [])
    (u : Value) (l : List Int) (hx : a.eval x = u) (hu : IntsAt w u l) (hnil : NilOk u) (b1 : l.length ≤ 17592186044416) (hbase : base ≤ w.heap.size)
    (hK : ∀ v' w', w'.ownsRow base 3 1 v' l.length (l.map (Value.int .i64)) → w.grownBy w' v.ownBlock → K (a.put o.dst v') w') :
    if Region.wanted o (yielded ops a.tmps) = true then Oper.wp Tryz.prog o a w K Q else E := by
  obtain ⟨i0, hi, hz0, hz1, hz2⟩ := info_parts xdkZ
  obtain ⟨p, c', hu1, -, hcells⟩ := id hu
  subst hu1
  cases p with
  | none =>
    have hl : l = [] := by
      cases l with
      | nil => rfl
      | cons f r => obtain ⟨b, off, hb, _⟩ := hcells 0 f rfl; cases hb
    subst hl
    have hc0 : c' = 0 := hnil _ _ rfl
    subst hc0
    have hw : Region.wanted o (yielded ops a.tmps) = true := by simp [Region.wanted, hg]
    rw [if_pos hw]
    have hrun := run_append_owned_none (P := Tryz.prog) (w := w) base 25 o.type 3 i0 1 Tryz.underlying25 hi v 0 _ hown
    have hx' : a.eval x = .slice none 0 0 := hx
    unfold Oper.wp
    simp [execOp, hop, resolve, invoke, builtin, hs, hx', hrun, Result.andThen]
    exact hK v w (by simpa using hown) (World.grownBy.refl _ _)
  | some ad =>
    exact xcxZ hg s x 25 hop base 3 i0 _ 1 8 Tryz.underlying25 hi hz0 hz1 hz2 rfl (by decide) v 0 _ hs hown ad l.length c' (l.map (Value.int .i64)) hx (by simp) (xjcZ hu) (xihZ l) (by unfold maxLen; omega) (by omega) hbase (fun v' w' r1 r2 => hK v' w' (by simpa using r1) r2)
theorem xfyZ {ops : Array Oper} {o : Oper} {a : Act} {w : World} {K : Act → World → Prop} {Q : Exit → Act → World → Prop} {E : Prop}
    (hg : o.guard = none) (s x : Operand) (hop : o.op = Op.call { callee := Callee.builtin Builtin.append, args := #[s, x], argTypes := #[26, 26] })
    (base : Nat) (v : Value) (hs : a.eval s = v) (hown : w.ownsRow base 38 2 v 0 [])
    (u : Value) (l : List (Int × Int)) (hx : a.eval x = u) (hu : OpsAt w u l) (hnil : NilOk u) (b1 : l.length ≤ 8796093022208) (hbase : base ≤ w.heap.size)
    (hK : ∀ v' w', w'.ownsRow base 38 2 v' l.length (opCells l) → w.grownBy w' v.ownBlock → K (a.put o.dst v') w') :
    if Region.wanted o (yielded ops a.tmps) = true then Oper.wp Tryz.prog o a w K Q else E := by
  obtain ⟨i0, hi, hz0, hz1, hz2⟩ := info_parts infoOp
  obtain ⟨p, c', hu1, -, hcells⟩ := id hu
  subst hu1
  cases p with
  | none =>
    have hl : l = [] := by
      cases l with
      | nil => rfl
      | cons f r => obtain ⟨b, off, hb, _⟩ := hcells 0 f rfl; cases hb
    subst hl
    have hc0 : c' = 0 := hnil _ _ rfl
    subst hc0
    have hw : Region.wanted o (yielded ops a.tmps) = true := by simp [Region.wanted, hg]
    rw [if_pos hw]
    have hrun := run_append_owned_none (P := Tryz.prog) (w := w) base 26 o.type 38 i0 2 Tryz.underlying26 hi v 0 _ hown
    have hx' : a.eval x = .slice none 0 0 := hx
    unfold Oper.wp
    simp [execOp, hop, resolve, invoke, builtin, hs, hx', hrun, Result.andThen]
    exact hK v w (by simpa [opCells] using hown) (World.grownBy.refl _ _)
  | some ad =>
    exact xcxZ hg s x 26 hop base 38 i0 _ 2 16 Tryz.underlying26 hi hz0 hz1 hz2 rfl (by decide) v 0 _ hs hown ad l.length c' (opCells l) hx (by rw [xd6Z]) (ops_cells hu ad rfl) (xjdZ l) (by unfold maxLen; omega) (by omega) hbase (fun v' w' r1 r2 => hK v' w' (by simpa using r1) r2)
theorem xcfZ {W W' : World} {B B' n m k k' : Nat} {e e' : TypeId} {v v' : Value} {xs ys : List Value} (h : W.ownsRow B e k v n xs) (hg : W.grownBy W' v'.ownBlock) (h' : W.ownsRow B' e' k' v' m ys) (hne : e' ≠ e) : W'.ownsRow B e k v n xs := xayZ h fun j hj => hg.block j (h.lt j hj).2 fun e1 => by
  rcases h'.2 with ⟨h1, _⟩ | ⟨g', cap', cur, h1, _, h3, _⟩
  · rw [h1] at e1; cases e1
  · rw [h1] at e1
    injection e1 with e2
    subst e2
    exact xa0Z h h3 hne hj.symm
theorem xbxZ {W : World} {B n k z i : Nat} {e te : TypeId} {v u : Value} {xs : List Value} {cs : Array Value} {fz : Nat × Nat} (h : W.ownsRow B e k v n xs) (hz : W.heap[z]? = some (.cells cs te fz)) (hne : te ≠ e) : (W.setCell ⟨z, i, none⟩ u).ownsRow B e k v n xs := xayZ h fun j hj => Below.heap_setCell W ⟨z, i, none⟩ u j fun e1 => by
  simp only at e1
  subst e1
  exact xa0Z h hz hne hj.symm
theorem xh0Z (q : List FnV) (c : FnV) : fnCells (q ++ [c]) = fnCells q ++ [c.1, c.2.1, c.2.2.1, c.2.2.2] := by simp [fnCells]
theorem PCopy.snoc {W W' : World} {B B' : Nat} {u u' : Value} {q : List FnV} {l : List Fn} {c : FnV} {f : Fn} (h : PCopy W B u q l) (hg : W.grownBy W' u.ownBlock) (hr : W'.ownsRow B 28 4 u' (q.length + 1) (fnCells q ++ [c.1, c.2.1, c.2.2.1, c.2.2.2])) (h0 : c.1 = .int .i64 f.1) (h2 : c.2.2.1 = .int .i64 f.2.2.1)
    (r1 : W.ownsRow B' 3 1 c.2.1 f.2.1.length (f.2.1.map (Value.int .i64))) (r3 : W.ownsRow B' 38 2 c.2.2.2 f.2.2.2.length (opCells f.2.2.2)) (hB : B ≤ B') (hlt : ∀ (i : Nat) (d : FnV) (g : Nat), q[i]? = some d → d.2.2.2.ownBlock = some g → g < B') : PCopy W' B u' (q ++ [c]) (l ++ [f]) := by
  have k1 : ∀ {n : Nat} {v : Value} {xs : List Value} {b : Nat}, W.ownsRow b 3 1 v n xs → W'.ownsRow b 3 1 v n xs := fun hx => xcfZ hx hg h.row (by decide)
  have k3 : ∀ {n : Nat} {v : Value} {xs : List Value} {b : Nat}, W.ownsRow b 38 2 v n xs → W'.ownsRow b 38 2 v n xs := fun hx => xcfZ hx hg h.row (by decide)
  have at2 : ∀ (i : Nat) (d : FnV) (x : Fn), (q ++ [c])[i]? = some d → (l ++ [f])[i]? = some x → (q[i]? = some d ∧ l[i]? = some x) ∨ (d = c ∧ x = f) := fun i d x hd hx => by
    by_cases hi : i < q.length
    · rw [List.getElem?_append_left hi] at hd
      rw [List.getElem?_append_left (by rw [← h.len]; exact hi)] at hx
      exact .inl ⟨hd, hx⟩
    · rw [List.getElem?_append_right (by omega)] at hd
      rw [List.getElem?_append_right (by rw [← h.len]; omega)] at hx
      have e0 : i - q.length = 0 := by have := xauZ hd; simp at this; omega
      rw [e0] at hd
      rw [← h.len, e0] at hx
      simp at hd hx
      exact .inr ⟨hd.symm, hx.symm⟩
  refine ⟨by rw [xh0Z, List.length_append]; exact hr, by simp [h.len], fun k d x hd hx => ?_, fun k d x hd hx => ?_, fun k d x hd hx => ?_, fun i j d d' g hd hd' hg1 hg2 => ?_⟩
  · rcases at2 k d x hd hx with ⟨a, b⟩ | ⟨rfl, rfl⟩
    · exact h.nums k d x a b
    · exact ⟨h0, h2⟩
  · rcases at2 k d x hd hx with ⟨a, b⟩ | ⟨rfl, rfl⟩
    · exact k1 (h.locs k d x a b)
    · exact k1 (xa2Z r1 hB)
  · rcases at2 k d x hd hx with ⟨a, b⟩ | ⟨rfl, rfl⟩
    · exact k3 (h.code k d x a b)
    · exact k3 (xa2Z r3 hB)
  · have sp : ∀ (i : Nat) (d : FnV), (q ++ [c])[i]? = some d → (i < q.length ∧ q[i]? = some d) ∨ (i = q.length ∧ d = c) := fun i d hd => by
      by_cases hi : i < q.length
      · rw [List.getElem?_append_left hi] at hd; exact .inl ⟨hi, hd⟩
      · rw [List.getElem?_append_right (by omega)] at hd
        have e0 : i - q.length = 0 := by have := xauZ hd; simp at this; omega
        rw [e0] at hd; simp at hd; exact .inr ⟨by omega, hd.symm⟩
    rcases sp i d hd with ⟨a, b⟩ | ⟨a, rfl⟩ <;> rcases sp j d' hd' with ⟨a', b'⟩ | ⟨a', rfl⟩
    · exact h.apart i j d d' g b b' hg1 hg2
    · have x1 := hlt i d g b hg1
      have x2 := (r3.lt g hg2).1
      omega
    · have x1 := hlt j d' g b' hg2
      have x2 := (r3.lt g hg1).1
      omega
    · omega
theorem pcopy_nil (W : World) (B : Nat) : PCopy W B (.slice none 0 0) [] [] := ⟨World.ownsRow_nil _ _ _ _, rfl, fun k c f h => by simp at h, fun k c f h => by simp at h, fun k c f h => by simp at h, fun i j c d g h => by simp at h⟩
theorem xflZ (l : List Fn) (v : Value) (w : World) (h : ProgFull w v l) : Calls Tryz.prog 13 #[.agg #[v]] w fun e w' => ∃ u q, e = .returned (.agg #[u]) ∧ PCopy w' w.heap.size u q l ∧ Below w.heap.size w w' := by
  obtain ⟨i0, hi, hz0, hz1, hz2⟩ := info_parts infoFn
  obtain ⟨p, cap, hv, hm, hcc⟩ := id h.at_
  subst hv
  have hlen := h.len
  obtain ⟨W1, hW1⟩ : ∃ W1, ((w.alloc (.cells #[.slice p l.length cap] 24)).alloc (.cells #[.slice none 0 0] 24)).alloc (.cells #[.slice none 0 0] 24) = W1 := ⟨_, rfl⟩
  have b1 : Below w.heap.size w W1 := by rw [← hW1]; exact (((Below.refl _ w).alloc (Nat.le_refl _) _).alloc (by simp) _).alloc (by simp; omega) _
  have u1 : W1.heap[w.heap.size]? = some (.cells #[.slice p l.length cap] 24 (0, 0)) := by rw [← hW1]; exact xaeZ (xaeZ (World.alloc_heap_new w _) _) _
  have u2 : W1.heap[w.heap.size + 1]? = some (.cells #[.slice none 0 0] 24 (0, 0)) := by rw [← hW1]; exact xaeZ (xa3Z w _ _) _
  have u3 : W1.heap[w.heap.size + 1 + 1]? = some (.cells #[.slice none 0 0] 24 (0, 0)) := by rw [← hW1]; exact new_three w _ _ _
  have HCC := hideP hcc
  have HE := hideP h.each
  have l3 := xabZ u3
  have HU := hideP (And.intro u1 (And.intro u2 u3))
  have HB1 := hideP b1
  clear h hcc u1 u2 u3 b1
  go_enter Tryz.func13, Tryz.ntmps13
  go_wp2
  go_loopw [4, 5] (fun v4 _ wr => ∃ (k : Nat) (q : List FnV) (u : Value), k ≤ l.length ∧ v4 = .int .i64 k ∧ wr.heap[w.heap.size]? = some (.cells #[.slice p l.length cap] 24 (0, 0)) ∧ wr.heap[w.heap.size + 1]? = some (.cells #[.slice none 0 0] 24 (0, 0)) ∧ wr.heap[w.heap.size + 1 + 1]? = some (.cells #[u] 24 (0, 0)) ∧ PCopy wr w.heap.size u q (l.take k) ∧ Below w.heap.size w wr) (fun v4 _ _ => l.length - (intOf v4).toNat)
  case atStart => exact ⟨0, [], .slice none 0 0, Nat.zero_le _, rfl, HU.out.1, HU.out.2.1, HU.out.2.2, by simpa using pcopy_nil W1 w.heap.size, HB1.out⟩
  case round =>
    rename World => w2
    obtain ⟨k, q, u, hk, rfl, x1, x2, x3, hq, b2⟩ := hrel
    have d0 := xaaZ x1 0
    have d3 := xaaZ x3 0
    simp at d0 d3
    have lx1 := xabZ x1
    have lx2 := xabZ x2
    have lx3 := xabZ x3
    have X := hideP (And.intro x1 (And.intro x2 x3))
    have HQ := hideP hq
    have HQL : q.length = k := by have := hq.len; rw [List.length_take] at this; omega
    have HB2 := hideP b2
    have hb2 := b2.size
    obtain ⟨pu, cu, hu⟩ := xahZ hq.row
    subst hu
    clear x1 x2 x3 hq
    by_cases hlt : k < l.length
    · have hlti : (k : Int) < (l.length : Int) := by omega
      obtain ⟨f, ho⟩ := xagZ hlt
      obtain ⟨b, off, c0, c1, c2, c3, hp, hb, g0, g1, g2, g3, hfn⟩ := HCC.out k f ho
      subst hp
      obtain ⟨hLn, hCn, ⟨p1, n1, q1, hv1, hq1, hL17⟩, ⟨p3, n3, q3, hv3, hC17⟩⟩ := HE.out b off l.length cap k c1 c3 rfl hlt g1 g3
      subst hv1 hv3
      obtain ⟨P, L, Rr, D⟩ := f
      obtain ⟨rfl, hL, rfl, hD⟩ := hfn
      simp only at hL hD
      obtain ⟨pl1, ql1, hl1, -, -⟩ := id hL
      cases hl1
      obtain ⟨pl3, ql3, hl3, -, -⟩ := id hD
      cases hl3
      have e0 := (b2.cell (p := ⟨b, off + k * 4, none⟩) hb).trans g0
      have e1' := (b2.cell (p := ⟨b, off + k * 4 + 1, none⟩) hb).trans g1
      have e2' := (b2.cell (p := ⟨b, off + k * 4 + 2, none⟩) hb).trans g2
      have e3' := (b2.cell (p := ⟨b, off + k * 4 + 3, none⟩) hb).trans g3
      obtain ⟨Wz, hWz⟩ : ∃ W, w2.alloc (.cells #[.int .i64 P, .slice p1 L.length q1, .int .i64 Rr, .slice p3 D.length q3] 28) = W := ⟨_, rfl⟩
      have bz5 : Below w2.heap.size w2 Wz := by rw [← hWz]; exact (Below.refl _ w2).alloc (Nat.le_refl _) _
      have z0 : Wz.heap[w2.heap.size]? = some (.cells #[.int .i64 P, .slice p1 L.length q1, .int .i64 Rr, .slice p3 D.length q3] 28 (0, 0)) := by rw [← hWz]; exact World.alloc_heap_new w2 _
      have hz5 := xabZ z0
      have e1 : Wz.cell? ⟨w2.heap.size, 1, none⟩ = some (.slice p1 L.length q1) := xaaZ z0 1
      have e3 : Wz.cell? ⟨w2.heap.size, 3, none⟩ = some (.slice p3 D.length q3) := xaaZ z0 3
      have Z0 := hideP z0
      have HL := hideP (hL.below (b2.trans (bz5.mono hb2)))
      have HD := hideP (hD.below (b2.trans (bz5.mono hb2)))
      have HO := hideP ho
      clear ho g0 g1 g2 g3 hL hD z0 b2
      go_upto_region 6 with fail
      go_cut [25] from 18 to 27 (fun _ wx => ∃ u1 u3, wx.heap[w2.heap.size]? = some (.cells #[.int .i64 P, u1, .int .i64 Rr, u3] 28 (0, 0)) ∧ wx.ownsRow Wz.heap.size 3 1 u1 L.length (L.map (Value.int .i64)) ∧ wx.ownsRow Wz.heap.size 38 2 u3 D.length (opCells D) ∧ Below w2.heap.size w2 wx)
      case first =>
        have bzd : Below Wz.heap.size Wz Wz.drew := (Below.refl _ Wz).drew
        refine Drawn.enter (C := fun X => X.cell? ⟨w2.heap.size, 1, none⟩ = some (.slice p1 L.length q1) ∧ X.cell? ⟨w2.heap.size, 3, none⟩ = some (.slice p3 D.length q3)) (J := fun j => decide (j < 9)) (by kernel_rfl) ?_
        refine Drawn.take (i := 1) (oi := { dst := some 19, op := Op.fieldAddr 28 (Operand.tmp 5) 1, type := 0, pos := "machine.go:617", after := #[], guard := none }) (v := ?_) rfl (by decide) (by kernel_rfl) (by kernel_rfl) (by kernel_rfl) (by kernel_rfl) (fun _ _ _ h => h) (Or.inl ⟨by rfl, ?_⟩) (⟨e1, e3⟩) ?_
        rotate_left
        · (intro wS hSw; (try dsimp only at hSw); go_simp) <;> (first | done | with_reducible rfl)
        try simp only [Act.put, List.setIfInBounds_toArray, List.set_cons_zero, List.set_cons_succ]
        refine Drawn.take (i := 2) (oi := { dst := some 20, op := Op.load 25 (Operand.tmp 19), type := 25, pos := "machine.go:617", after := #[{ on := 1, ground := Ground.data }], guard := none }) (v := ?_) rfl (by decide) (by kernel_rfl) (by kernel_rfl) (by kernel_rfl) (by kernel_rfl) (fun _ _ _ h => h) (Or.inl ⟨by rfl, ?_⟩) (⟨e1, e3⟩) ?_
        rotate_left
        · (intro wS hSw; (try dsimp only at hSw); go_simp) <;> (first | done | with_reducible rfl)
        try simp only [Act.put, List.setIfInBounds_toArray, List.set_cons_zero, List.set_cons_succ]
        refine Drawn.take (i := 5) (oi := { dst := some 23, op := Op.fieldAddr 28 (Operand.tmp 5) 3, type := 0, pos := "machine.go:617", after := #[], guard := none }) (v := ?_) rfl (by decide) (by kernel_rfl) (by kernel_rfl) (by kernel_rfl) (by kernel_rfl) (fun _ _ _ h => h) (Or.inl ⟨by rfl, ?_⟩) (⟨e1, e3⟩) ?_
        rotate_left
        · (intro wS hSw; (try dsimp only at hSw); go_simp) <;> (first | done | with_reducible rfl)
        try simp only [Act.put, List.setIfInBounds_toArray, List.set_cons_zero, List.set_cons_succ]
        refine Drawn.take (i := 6) (oi := { dst := some 24, op := Op.load 26 (Operand.tmp 23), type := 26, pos := "machine.go:617", after := #[{ on := 5, ground := Ground.data }], guard := none }) (v := ?_) rfl (by decide) (by kernel_rfl) (by kernel_rfl) (by kernel_rfl) (by kernel_rfl) (fun _ _ _ h => h) (Or.inl ⟨by rfl, ?_⟩) (⟨e1, e3⟩) ?_
        rotate_left
        · (intro wS hSw; (try dsimp only at hSw); go_simp) <;> (first | done | with_reducible rfl)
        try simp only [Act.put, List.setIfInBounds_toArray, List.set_cons_zero, List.set_cons_succ]
        refine Drawn.ready (rs := [0, 4]) (by kernel_rfl) (by simp) ?_
        refine Each.cons (o := { dst := some 18, op := Op.buildSlice 25 0 #[], type := 25, pos := "machine.go:617", after := #[], guard := none }) rfl (fun K hK => ?_) ?_
        · go_simp
          obtain ⟨x1, hx1⟩ : ∃ W, (Wz.drew).alloc (.cells #[] 3) = W := ⟨_, rfl⟩
          have bx1 : Below Wz.heap.size Wz x1 := by rw [← hx1]; exact xc5Z bzd _
          have gx1 : (Wz.drew).grownBy x1 none := by rw [← hx1]; exact World.grownBy_alloc _ _ _
          have ex1 : x1.heap[(Wz.drew).heap.size]? = some (.cells #[] 3 (0, 0)) := by rw [← hx1]; exact World.alloc_heap_new _ _
          have lx1 := xabZ ex1
          have ox1 := xdbZ (W := x1) (B := Wz.heap.size) (k := 1) ex1 (bzd).size
          have zx1 := (bx1.block _ hz5).trans Z0.out
          have cx1a : x1.cell? ⟨w2.heap.size, 1, none⟩ = some (.slice p1 L.length q1) := xaaZ zx1 1
          have cx1b : x1.cell? ⟨w2.heap.size, 3, none⟩ = some (.slice p3 D.length q3) := xaaZ zx1 3
          rw [show (Wz.alloc (.cells #[] 3)).drew = x1 from hx1]
          refine hK.out _ _ (fun _ => ⟨cx1a, cx1b⟩) ?_
          clear hK K
          try simp only [Act.put, List.setIfInBounds_toArray, List.set_cons_zero, List.set_cons_succ]
          refine Drawn.ready (rs := [3, 4]) (by kernel_rfl) (by simp) ?_
          refine Each.cons (o := { dst := some 21, op := Op.call { callee := Callee.builtin Builtin.append, args := #[Operand.tmp 18, Operand.tmp 20], argTypes := #[25, 25] }, type := 25, pos := "machine.go:617", after := #[{ on := 0, ground := Ground.data }, { on := 2, ground := Ground.data }], guard := none }) rfl (fun K hK => ?_) ?_
          · refine xfbZ (by rfl) _ _ (by rfl) Wz.heap.size _ (by rfl) ox1 _ L (by rfl) (HL.out.below bx1) hLn hL17 (bx1).size ?_
            intro u3 x2 r3 g3
            have bx2 : Below Wz.heap.size Wz x2 := xcqZ bx1 g3 (fun k hk => ((ox1).lt k hk).1)
            have zx2 := (bx2.block _ hz5).trans Z0.out
            have cx2a : x2.cell? ⟨w2.heap.size, 1, none⟩ = some (.slice p1 L.length q1) := xaaZ zx2 1
            have cx2b : x2.cell? ⟨w2.heap.size, 3, none⟩ = some (.slice p3 D.length q3) := xaaZ zx2 3
            obtain ⟨pp3, cc3, hu3⟩ := xahZ r3
            subst hu3
            refine hK.out _ _ (fun _ => ⟨cx2a, cx2b⟩) ?_
            clear hK K
            try simp only [Act.put, List.setIfInBounds_toArray, List.set_cons_zero, List.set_cons_succ]
            refine Drawn.take (i := 8) (oi := { dst := some 26, op := Op.fieldAddr 28 (Operand.tmp 5) 1, type := 0, pos := "machine.go:617", after := #[{ on := 0, ground := Ground.phase }, { on := 1, ground := Ground.phase }, { on := 2, ground := Ground.phase }, { on := 3, ground := Ground.phase }, { on := 4, ground := Ground.textOnly Departure.lateStores }, { on := 5, ground := Ground.phase }, { on := 6, ground := Ground.phase }, { on := 7, ground := Ground.textOnly Departure.lateStoresUnsure }], guard := none }) (v := ?_) rfl (by decide) (by kernel_rfl) (by kernel_rfl) (by kernel_rfl) (by kernel_rfl) (fun _ _ _ h => h) (Or.inl ⟨by rfl, ?_⟩) (⟨cx2a, cx2b⟩) ?_
            rotate_left
            · (intro wS hSw; (try dsimp only at hSw); go_simp) <;> (first | done | with_reducible rfl)
            try simp only [Act.put, List.setIfInBounds_toArray, List.set_cons_zero, List.set_cons_succ]
            refine Drawn.ready (rs := [4]) (by kernel_rfl) (by simp) ?_
            refine Each.cons (o := { dst := some 22, op := Op.buildSlice 26 0 #[], type := 26, pos := "machine.go:617", after := #[], guard := none }) rfl (fun K hK => ?_) (Each.nil)
            go_simp
            obtain ⟨x3, hx3⟩ : ∃ W, (x2).alloc (.cells #[] 38) = W := ⟨_, rfl⟩
            have bx3 : Below Wz.heap.size Wz x3 := by rw [← hx3]; exact xc5Z bx2 _
            have gx3 : (x2).grownBy x3 none := by rw [← hx3]; exact World.grownBy_alloc _ _ _
            have ex3 : x3.heap[(x2).heap.size]? = some (.cells #[] 38 (0, 0)) := by rw [← hx3]; exact World.alloc_heap_new _ _
            have lx3 := xabZ ex3
            have ox3 := xdbZ (W := x3) (B := Wz.heap.size) (k := 2) ex3 (bx2).size
            have zx3 := (bx3.block _ hz5).trans Z0.out
            have cx3a : x3.cell? ⟨w2.heap.size, 1, none⟩ = some (.slice p1 L.length q1) := xaaZ zx3 1
            have cx3b : x3.cell? ⟨w2.heap.size, 3, none⟩ = some (.slice p3 D.length q3) := xaaZ zx3 3
            have f3_x3 := xayZ r3 fun j hj => gx3.block j ((r3).lt j hj).2 (by simp)
            rw [hx3]
            refine hK.out _ _ (fun _ => ⟨cx3a, cx3b⟩) ?_
            clear hK K
            try simp only [Act.put, List.setIfInBounds_toArray, List.set_cons_zero, List.set_cons_succ]
            refine Drawn.ready (rs := [7]) (by kernel_rfl) (by simp) ?_
            refine Each.cons (o := { dst := some 25, op := Op.call { callee := Callee.builtin Builtin.append, args := #[Operand.tmp 22, Operand.tmp 24], argTypes := #[26, 26] }, type := 26, pos := "machine.go:617", after := #[{ on := 4, ground := Ground.data }, { on := 6, ground := Ground.data }, { on := 3, ground := Ground.chain }], guard := none }) rfl (fun K hK => ?_) (Each.nil)
            refine xfyZ (by rfl) _ _ (by rfl) Wz.heap.size _ (by rfl) ox3 _ D (by rfl) (HD.out.below bx3) hCn hC17 (bx3).size ?_
            intro u7 x4 r7 g7
            have bx4 : Below Wz.heap.size Wz x4 := xcqZ bx3 g7 (fun k hk => ((ox3).lt k hk).1)
            have zx4 := (bx4.block _ hz5).trans Z0.out
            have cx4a : x4.cell? ⟨w2.heap.size, 1, none⟩ = some (.slice p1 L.length q1) := xaaZ zx4 1
            have cx4b : x4.cell? ⟨w2.heap.size, 3, none⟩ = some (.slice p3 D.length q3) := xaaZ zx4 3
            have f3_x4 := xcfZ f3_x3 g7 ox3 (by decide)
            obtain ⟨pp7, cc7, hu7⟩ := xahZ r7
            subst hu7
            refine hK.out _ _ (fun _ => ⟨cx4a, cx4b⟩) ?_
            clear hK K
            try simp only [Act.put, List.setIfInBounds_toArray, List.set_cons_zero, List.set_cons_succ]
            refine Drawn.ready (rs := [9]) (by kernel_rfl) (by simp) ?_
            refine Each.cons (o := { dst := none, op := Op.store 25 (Operand.tmp 26) (Operand.tmp 21), type := 0, pos := "machine.go:617", after := #[{ on := 8, ground := Ground.data }, { on := 3, ground := Ground.data }, { on := 7, ground := Ground.chain }, { on := 0, ground := Ground.phase }, { on := 1, ground := Ground.phase }, { on := 2, ground := Ground.phase }, { on := 3, ground := Ground.phase }, { on := 4, ground := Ground.textOnly Departure.lateStores }, { on := 5, ground := Ground.phase }, { on := 6, ground := Ground.phase }, { on := 7, ground := Ground.textOnly Departure.lateStoresUnsure }], guard := none }) rfl (fun K hK => ?_) (Each.nil)
            have fz1 := Lib.frozen_of_heap zx4 1
            have fz3 := Lib.frozen_of_heap zx4 3
            go_simp
            refine hK.out _ _ (fun h => by cases h) ?_
            clear hK K
            try simp only [Act.put, List.setIfInBounds_toArray, List.set_cons_zero, List.set_cons_succ]
            refine Drawn.ready (rs := [10]) (by kernel_rfl) (by simp) ?_
            refine Each.cons (o := { dst := some 27, op := Op.fieldAddr 28 (Operand.tmp 5) 3, type := 0, pos := "machine.go:617", after := #[{ on := 0, ground := Ground.phase }, { on := 1, ground := Ground.phase }, { on := 2, ground := Ground.phase }, { on := 3, ground := Ground.phase }, { on := 4, ground := Ground.phase }, { on := 5, ground := Ground.phase }, { on := 6, ground := Ground.phase }, { on := 7, ground := Ground.phase }, { on := 8, ground := Ground.phase }, { on := 9, ground := Ground.phase }], guard := none }) rfl (fun K hK => ?_) (Each.nil)
            go_simp
            refine hK.out _ _ (fun h => by cases h) ?_
            clear hK K
            try simp only [Act.put, List.setIfInBounds_toArray, List.set_cons_zero, List.set_cons_succ]
            refine Drawn.ready (rs := [11]) (by kernel_rfl) (by simp) ?_
            refine Each.cons (o := { dst := none, op := Op.store 26 (Operand.tmp 27) (Operand.tmp 25), type := 0, pos := "machine.go:617", after := #[{ on := 10, ground := Ground.data }, { on := 7, ground := Ground.data }, { on := 9, ground := Ground.chain }, { on := 0, ground := Ground.phase }, { on := 1, ground := Ground.phase }, { on := 2, ground := Ground.phase }, { on := 3, ground := Ground.phase }, { on := 4, ground := Ground.phase }, { on := 5, ground := Ground.phase }, { on := 6, ground := Ground.phase }, { on := 7, ground := Ground.phase }, { on := 8, ground := Ground.phase }, { on := 9, ground := Ground.phase }], guard := none }) rfl (fun K hK => ?_) (Each.nil)
            go_simp
            refine hK.out _ _ (fun h => by cases h) ?_
            clear hK K
            try simp only [Act.put, List.setIfInBounds_toArray, List.set_cons_zero, List.set_cons_succ]
            refine Drawn.done (by kernel_rfl) ?_
            go_wp2_with fail
            go_meet
            have h1 := heap_setCell_same x4 w2.heap.size 1 _ _ (.slice pp3 L.length cc3) zx4
            have h2 := heap_setCell_same _ w2.heap.size 3 _ _ (.slice pp7 D.length cc7) h1
            exact ⟨_, _, by simpa using h2, xbxZ (xbxZ f3_x4 zx4 (by decide)) h1 (by decide), xbxZ (xbxZ r7 zx4 (by decide)) h1 (by decide), ((bz5.trans (bx4.mono bz5.size)).setCell (p := ⟨w2.heap.size, 1, none⟩) (Nat.le_refl _) _).setCell (p := ⟨w2.heap.size, 3, none⟩) (Nat.le_refl _) _⟩

          refine Each.cons (o := { dst := some 22, op := Op.buildSlice 26 0 #[], type := 26, pos := "machine.go:617", after := #[], guard := none }) rfl (fun K hK => ?_) (Each.nil)
          go_simp
          obtain ⟨x2, hx2⟩ : ∃ W, (x1).alloc (.cells #[] 38) = W := ⟨_, rfl⟩
          have bx2 : Below Wz.heap.size Wz x2 := by rw [← hx2]; exact xc5Z bx1 _
          have gx2 : (x1).grownBy x2 none := by rw [← hx2]; exact World.grownBy_alloc _ _ _
          have ex2 : x2.heap[(x1).heap.size]? = some (.cells #[] 38 (0, 0)) := by rw [← hx2]; exact World.alloc_heap_new _ _
          have lx2 := xabZ ex2
          have ox2 := xdbZ (W := x2) (B := Wz.heap.size) (k := 2) ex2 (bx1).size
          have zx2 := (bx2.block _ hz5).trans Z0.out
          have cx2a : x2.cell? ⟨w2.heap.size, 1, none⟩ = some (.slice p1 L.length q1) := xaaZ zx2 1
          have cx2b : x2.cell? ⟨w2.heap.size, 3, none⟩ = some (.slice p3 D.length q3) := xaaZ zx2 3
          have m0_x2 := xayZ ox1 fun j hj => gx2.block j ((ox1).lt j hj).2 (by simp)
          rw [hx2]
          refine hK.out _ _ (fun _ => ⟨cx2a, cx2b⟩) ?_
          clear hK K
          try simp only [Act.put, List.setIfInBounds_toArray, List.set_cons_zero, List.set_cons_succ]
          refine Drawn.ready (rs := [3]) (by kernel_rfl) (by simp) ?_
          refine Each.cons (o := { dst := some 21, op := Op.call { callee := Callee.builtin Builtin.append, args := #[Operand.tmp 18, Operand.tmp 20], argTypes := #[25, 25] }, type := 25, pos := "machine.go:617", after := #[{ on := 0, ground := Ground.data }, { on := 2, ground := Ground.data }], guard := none }) rfl (fun K hK => ?_) (Each.nil)
          refine xfbZ (by rfl) _ _ (by rfl) Wz.heap.size _ (by rfl) m0_x2 _ L (by rfl) (HL.out.below bx2) hLn hL17 (bx2).size ?_
          intro u3 x3 r3 g3
          have bx3 : Below Wz.heap.size Wz x3 := xcqZ bx2 g3 (fun k hk => ((m0_x2).lt k hk).1)
          have zx3 := (bx3.block _ hz5).trans Z0.out
          have cx3a : x3.cell? ⟨w2.heap.size, 1, none⟩ = some (.slice p1 L.length q1) := xaaZ zx3 1
          have cx3b : x3.cell? ⟨w2.heap.size, 3, none⟩ = some (.slice p3 D.length q3) := xaaZ zx3 3
          have m4_x3 := xcfZ ox2 g3 m0_x2 (by decide)
          obtain ⟨pp3, cc3, hu3⟩ := xahZ r3
          subst hu3
          refine hK.out _ _ (fun _ => ⟨cx3a, cx3b⟩) ?_
          clear hK K
          try simp only [Act.put, List.setIfInBounds_toArray, List.set_cons_zero, List.set_cons_succ]
          refine Drawn.take (i := 8) (oi := { dst := some 26, op := Op.fieldAddr 28 (Operand.tmp 5) 1, type := 0, pos := "machine.go:617", after := #[{ on := 0, ground := Ground.phase }, { on := 1, ground := Ground.phase }, { on := 2, ground := Ground.phase }, { on := 3, ground := Ground.phase }, { on := 4, ground := Ground.textOnly Departure.lateStores }, { on := 5, ground := Ground.phase }, { on := 6, ground := Ground.phase }, { on := 7, ground := Ground.textOnly Departure.lateStoresUnsure }], guard := none }) (v := ?_) rfl (by decide) (by kernel_rfl) (by kernel_rfl) (by kernel_rfl) (by kernel_rfl) (fun _ _ _ h => h) (Or.inl ⟨by rfl, ?_⟩) (⟨cx3a, cx3b⟩) ?_
          rotate_left
          · (intro wS hSw; (try dsimp only at hSw); go_simp) <;> (first | done | with_reducible rfl)
          try simp only [Act.put, List.setIfInBounds_toArray, List.set_cons_zero, List.set_cons_succ]
          refine Drawn.ready (rs := [7]) (by kernel_rfl) (by simp) ?_
          refine Each.cons (o := { dst := some 25, op := Op.call { callee := Callee.builtin Builtin.append, args := #[Operand.tmp 22, Operand.tmp 24], argTypes := #[26, 26] }, type := 26, pos := "machine.go:617", after := #[{ on := 4, ground := Ground.data }, { on := 6, ground := Ground.data }, { on := 3, ground := Ground.chain }], guard := none }) rfl (fun K hK => ?_) (Each.nil)
          refine xfyZ (by rfl) _ _ (by rfl) Wz.heap.size _ (by rfl) m4_x3 _ D (by rfl) (HD.out.below bx3) hCn hC17 (bx3).size ?_
          intro u7 x4 r7 g7
          have bx4 : Below Wz.heap.size Wz x4 := xcqZ bx3 g7 (fun k hk => ((m4_x3).lt k hk).1)
          have zx4 := (bx4.block _ hz5).trans Z0.out
          have cx4a : x4.cell? ⟨w2.heap.size, 1, none⟩ = some (.slice p1 L.length q1) := xaaZ zx4 1
          have cx4b : x4.cell? ⟨w2.heap.size, 3, none⟩ = some (.slice p3 D.length q3) := xaaZ zx4 3
          have f3_x4 := xcfZ r3 g7 m4_x3 (by decide)
          obtain ⟨pp7, cc7, hu7⟩ := xahZ r7
          subst hu7
          refine hK.out _ _ (fun _ => ⟨cx4a, cx4b⟩) ?_
          clear hK K
          try simp only [Act.put, List.setIfInBounds_toArray, List.set_cons_zero, List.set_cons_succ]
          refine Drawn.ready (rs := [9]) (by kernel_rfl) (by simp) ?_
          refine Each.cons (o := { dst := none, op := Op.store 25 (Operand.tmp 26) (Operand.tmp 21), type := 0, pos := "machine.go:617", after := #[{ on := 8, ground := Ground.data }, { on := 3, ground := Ground.data }, { on := 7, ground := Ground.chain }, { on := 0, ground := Ground.phase }, { on := 1, ground := Ground.phase }, { on := 2, ground := Ground.phase }, { on := 3, ground := Ground.phase }, { on := 4, ground := Ground.textOnly Departure.lateStores }, { on := 5, ground := Ground.phase }, { on := 6, ground := Ground.phase }, { on := 7, ground := Ground.textOnly Departure.lateStoresUnsure }], guard := none }) rfl (fun K hK => ?_) (Each.nil)
          have fz1 := Lib.frozen_of_heap zx4 1
          have fz3 := Lib.frozen_of_heap zx4 3
          go_simp
          refine hK.out _ _ (fun h => by cases h) ?_
          clear hK K
          try simp only [Act.put, List.setIfInBounds_toArray, List.set_cons_zero, List.set_cons_succ]
          refine Drawn.ready (rs := [10]) (by kernel_rfl) (by simp) ?_
          refine Each.cons (o := { dst := some 27, op := Op.fieldAddr 28 (Operand.tmp 5) 3, type := 0, pos := "machine.go:617", after := #[{ on := 0, ground := Ground.phase }, { on := 1, ground := Ground.phase }, { on := 2, ground := Ground.phase }, { on := 3, ground := Ground.phase }, { on := 4, ground := Ground.phase }, { on := 5, ground := Ground.phase }, { on := 6, ground := Ground.phase }, { on := 7, ground := Ground.phase }, { on := 8, ground := Ground.phase }, { on := 9, ground := Ground.phase }], guard := none }) rfl (fun K hK => ?_) (Each.nil)
          go_simp
          refine hK.out _ _ (fun h => by cases h) ?_
          clear hK K
          try simp only [Act.put, List.setIfInBounds_toArray, List.set_cons_zero, List.set_cons_succ]
          refine Drawn.ready (rs := [11]) (by kernel_rfl) (by simp) ?_
          refine Each.cons (o := { dst := none, op := Op.store 26 (Operand.tmp 27) (Operand.tmp 25), type := 0, pos := "machine.go:617", after := #[{ on := 10, ground := Ground.data }, { on := 7, ground := Ground.data }, { on := 9, ground := Ground.chain }, { on := 0, ground := Ground.phase }, { on := 1, ground := Ground.phase }, { on := 2, ground := Ground.phase }, { on := 3, ground := Ground.phase }, { on := 4, ground := Ground.phase }, { on := 5, ground := Ground.phase }, { on := 6, ground := Ground.phase }, { on := 7, ground := Ground.phase }, { on := 8, ground := Ground.phase }, { on := 9, ground := Ground.phase }], guard := none }) rfl (fun K hK => ?_) (Each.nil)
          go_simp
          refine hK.out _ _ (fun h => by cases h) ?_
          clear hK K
          try simp only [Act.put, List.setIfInBounds_toArray, List.set_cons_zero, List.set_cons_succ]
          refine Drawn.done (by kernel_rfl) ?_
          go_wp2_with fail
          go_meet
          have h1 := heap_setCell_same x4 w2.heap.size 1 _ _ (.slice pp3 L.length cc3) zx4
          have h2 := heap_setCell_same _ w2.heap.size 3 _ _ (.slice pp7 D.length cc7) h1
          exact ⟨_, _, by simpa using h2, xbxZ (xbxZ f3_x4 zx4 (by decide)) h1 (by decide), xbxZ (xbxZ r7 zx4 (by decide)) h1 (by decide), ((bz5.trans (bx4.mono bz5.size)).setCell (p := ⟨w2.heap.size, 1, none⟩) (Nat.le_refl _) _).setCell (p := ⟨w2.heap.size, 3, none⟩) (Nat.le_refl _) _⟩

        refine Each.cons (o := { dst := some 22, op := Op.buildSlice 26 0 #[], type := 26, pos := "machine.go:617", after := #[], guard := none }) rfl (fun K hK => ?_) (Each.nil)
        go_simp
        obtain ⟨x1, hx1⟩ : ∃ W, (Wz.drew).alloc (.cells #[] 38) = W := ⟨_, rfl⟩
        have bx1 : Below Wz.heap.size Wz x1 := by rw [← hx1]; exact xc5Z bzd _
        have gx1 : (Wz.drew).grownBy x1 none := by rw [← hx1]; exact World.grownBy_alloc _ _ _
        have ex1 : x1.heap[(Wz.drew).heap.size]? = some (.cells #[] 38 (0, 0)) := by rw [← hx1]; exact World.alloc_heap_new _ _
        have lx1 := xabZ ex1
        have ox1 := xdbZ (W := x1) (B := Wz.heap.size) (k := 2) ex1 (bzd).size
        have zx1 := (bx1.block _ hz5).trans Z0.out
        have cx1a : x1.cell? ⟨w2.heap.size, 1, none⟩ = some (.slice p1 L.length q1) := xaaZ zx1 1
        have cx1b : x1.cell? ⟨w2.heap.size, 3, none⟩ = some (.slice p3 D.length q3) := xaaZ zx1 3
        rw [show (Wz.alloc (.cells #[] 38)).drew = x1 from hx1]
        refine hK.out _ _ (fun _ => ⟨cx1a, cx1b⟩) ?_
        clear hK K
        try simp only [Act.put, List.setIfInBounds_toArray, List.set_cons_zero, List.set_cons_succ]
        refine Drawn.ready (rs := [0]) (by kernel_rfl) (by simp) ?_
        refine Each.cons (o := { dst := some 18, op := Op.buildSlice 25 0 #[], type := 25, pos := "machine.go:617", after := #[], guard := none }) rfl (fun K hK => ?_) (Each.nil)
        go_simp
        obtain ⟨x2, hx2⟩ : ∃ W, (x1).alloc (.cells #[] 3) = W := ⟨_, rfl⟩
        have bx2 : Below Wz.heap.size Wz x2 := by rw [← hx2]; exact xc5Z bx1 _
        have gx2 : (x1).grownBy x2 none := by rw [← hx2]; exact World.grownBy_alloc _ _ _
        have ex2 : x2.heap[(x1).heap.size]? = some (.cells #[] 3 (0, 0)) := by rw [← hx2]; exact World.alloc_heap_new _ _
        have lx2 := xabZ ex2
        have ox2 := xdbZ (W := x2) (B := Wz.heap.size) (k := 1) ex2 (bx1).size
        have zx2 := (bx2.block _ hz5).trans Z0.out
        have cx2a : x2.cell? ⟨w2.heap.size, 1, none⟩ = some (.slice p1 L.length q1) := xaaZ zx2 1
        have cx2b : x2.cell? ⟨w2.heap.size, 3, none⟩ = some (.slice p3 D.length q3) := xaaZ zx2 3
        have m4_x2 := xayZ ox1 fun j hj => gx2.block j ((ox1).lt j hj).2 (by simp)
        rw [hx2]
        refine hK.out _ _ (fun _ => ⟨cx2a, cx2b⟩) ?_
        clear hK K
        try simp only [Act.put, List.setIfInBounds_toArray, List.set_cons_zero, List.set_cons_succ]
        refine Drawn.ready (rs := [3]) (by kernel_rfl) (by simp) ?_
        refine Each.cons (o := { dst := some 21, op := Op.call { callee := Callee.builtin Builtin.append, args := #[Operand.tmp 18, Operand.tmp 20], argTypes := #[25, 25] }, type := 25, pos := "machine.go:617", after := #[{ on := 0, ground := Ground.data }, { on := 2, ground := Ground.data }], guard := none }) rfl (fun K hK => ?_) (Each.nil)
        refine xfbZ (by rfl) _ _ (by rfl) Wz.heap.size _ (by rfl) ox2 _ L (by rfl) (HL.out.below bx2) hLn hL17 (bx2).size ?_
        intro u3 x3 r3 g3
        have bx3 : Below Wz.heap.size Wz x3 := xcqZ bx2 g3 (fun k hk => ((ox2).lt k hk).1)
        have zx3 := (bx3.block _ hz5).trans Z0.out
        have cx3a : x3.cell? ⟨w2.heap.size, 1, none⟩ = some (.slice p1 L.length q1) := xaaZ zx3 1
        have cx3b : x3.cell? ⟨w2.heap.size, 3, none⟩ = some (.slice p3 D.length q3) := xaaZ zx3 3
        have m4_x3 := xcfZ m4_x2 g3 ox2 (by decide)
        obtain ⟨pp3, cc3, hu3⟩ := xahZ r3
        subst hu3
        refine hK.out _ _ (fun _ => ⟨cx3a, cx3b⟩) ?_
        clear hK K
        try simp only [Act.put, List.setIfInBounds_toArray, List.set_cons_zero, List.set_cons_succ]
        refine Drawn.take (i := 8) (oi := { dst := some 26, op := Op.fieldAddr 28 (Operand.tmp 5) 1, type := 0, pos := "machine.go:617", after := #[{ on := 0, ground := Ground.phase }, { on := 1, ground := Ground.phase }, { on := 2, ground := Ground.phase }, { on := 3, ground := Ground.phase }, { on := 4, ground := Ground.textOnly Departure.lateStores }, { on := 5, ground := Ground.phase }, { on := 6, ground := Ground.phase }, { on := 7, ground := Ground.textOnly Departure.lateStoresUnsure }], guard := none }) (v := ?_) rfl (by decide) (by kernel_rfl) (by kernel_rfl) (by kernel_rfl) (by kernel_rfl) (fun _ _ _ h => h) (Or.inl ⟨by rfl, ?_⟩) (⟨cx3a, cx3b⟩) ?_
        rotate_left
        · (intro wS hSw; (try dsimp only at hSw); go_simp) <;> (first | done | with_reducible rfl)
        try simp only [Act.put, List.setIfInBounds_toArray, List.set_cons_zero, List.set_cons_succ]
        refine Drawn.ready (rs := [7]) (by kernel_rfl) (by simp) ?_
        refine Each.cons (o := { dst := some 25, op := Op.call { callee := Callee.builtin Builtin.append, args := #[Operand.tmp 22, Operand.tmp 24], argTypes := #[26, 26] }, type := 26, pos := "machine.go:617", after := #[{ on := 4, ground := Ground.data }, { on := 6, ground := Ground.data }, { on := 3, ground := Ground.chain }], guard := none }) rfl (fun K hK => ?_) (Each.nil)
        refine xfyZ (by rfl) _ _ (by rfl) Wz.heap.size _ (by rfl) m4_x3 _ D (by rfl) (HD.out.below bx3) hCn hC17 (bx3).size ?_
        intro u7 x4 r7 g7
        have bx4 : Below Wz.heap.size Wz x4 := xcqZ bx3 g7 (fun k hk => ((m4_x3).lt k hk).1)
        have zx4 := (bx4.block _ hz5).trans Z0.out
        have cx4a : x4.cell? ⟨w2.heap.size, 1, none⟩ = some (.slice p1 L.length q1) := xaaZ zx4 1
        have cx4b : x4.cell? ⟨w2.heap.size, 3, none⟩ = some (.slice p3 D.length q3) := xaaZ zx4 3
        have f3_x4 := xcfZ r3 g7 m4_x3 (by decide)
        obtain ⟨pp7, cc7, hu7⟩ := xahZ r7
        subst hu7
        refine hK.out _ _ (fun _ => ⟨cx4a, cx4b⟩) ?_
        clear hK K
        try simp only [Act.put, List.setIfInBounds_toArray, List.set_cons_zero, List.set_cons_succ]
        refine Drawn.ready (rs := [9]) (by kernel_rfl) (by simp) ?_
        refine Each.cons (o := { dst := none, op := Op.store 25 (Operand.tmp 26) (Operand.tmp 21), type := 0, pos := "machine.go:617", after := #[{ on := 8, ground := Ground.data }, { on := 3, ground := Ground.data }, { on := 7, ground := Ground.chain }, { on := 0, ground := Ground.phase }, { on := 1, ground := Ground.phase }, { on := 2, ground := Ground.phase }, { on := 3, ground := Ground.phase }, { on := 4, ground := Ground.textOnly Departure.lateStores }, { on := 5, ground := Ground.phase }, { on := 6, ground := Ground.phase }, { on := 7, ground := Ground.textOnly Departure.lateStoresUnsure }], guard := none }) rfl (fun K hK => ?_) (Each.nil)
        have fz1 := Lib.frozen_of_heap zx4 1
        have fz3 := Lib.frozen_of_heap zx4 3
        go_simp
        refine hK.out _ _ (fun h => by cases h) ?_
        clear hK K
        try simp only [Act.put, List.setIfInBounds_toArray, List.set_cons_zero, List.set_cons_succ]
        refine Drawn.ready (rs := [10]) (by kernel_rfl) (by simp) ?_
        refine Each.cons (o := { dst := some 27, op := Op.fieldAddr 28 (Operand.tmp 5) 3, type := 0, pos := "machine.go:617", after := #[{ on := 0, ground := Ground.phase }, { on := 1, ground := Ground.phase }, { on := 2, ground := Ground.phase }, { on := 3, ground := Ground.phase }, { on := 4, ground := Ground.phase }, { on := 5, ground := Ground.phase }, { on := 6, ground := Ground.phase }, { on := 7, ground := Ground.phase }, { on := 8, ground := Ground.phase }, { on := 9, ground := Ground.phase }], guard := none }) rfl (fun K hK => ?_) (Each.nil)
        go_simp
        refine hK.out _ _ (fun h => by cases h) ?_
        clear hK K
        try simp only [Act.put, List.setIfInBounds_toArray, List.set_cons_zero, List.set_cons_succ]
        refine Drawn.ready (rs := [11]) (by kernel_rfl) (by simp) ?_
        refine Each.cons (o := { dst := none, op := Op.store 26 (Operand.tmp 27) (Operand.tmp 25), type := 0, pos := "machine.go:617", after := #[{ on := 10, ground := Ground.data }, { on := 7, ground := Ground.data }, { on := 9, ground := Ground.chain }, { on := 0, ground := Ground.phase }, { on := 1, ground := Ground.phase }, { on := 2, ground := Ground.phase }, { on := 3, ground := Ground.phase }, { on := 4, ground := Ground.phase }, { on := 5, ground := Ground.phase }, { on := 6, ground := Ground.phase }, { on := 7, ground := Ground.phase }, { on := 8, ground := Ground.phase }, { on := 9, ground := Ground.phase }], guard := none }) rfl (fun K hK => ?_) (Each.nil)
        go_simp
        refine hK.out _ _ (fun h => by cases h) ?_
        clear hK K
        try simp only [Act.put, List.setIfInBounds_toArray, List.set_cons_zero, List.set_cons_succ]
        refine Drawn.done (by kernel_rfl) ?_
        go_wp2_with fail
        go_meet
        have h1 := heap_setCell_same x4 w2.heap.size 1 _ _ (.slice pp3 L.length cc3) zx4
        have h2 := heap_setCell_same _ w2.heap.size 3 _ _ (.slice pp7 D.length cc7) h1
        exact ⟨_, _, by simpa using h2, xbxZ (xbxZ f3_x4 zx4 (by decide)) h1 (by decide), xbxZ (xbxZ r7 zx4 (by decide)) h1 (by decide), ((bz5.trans (bx4.mono bz5.size)).setCell (p := ⟨w2.heap.size, 1, none⟩) (Nat.le_refl _) _).setCell (p := ⟨w2.heap.size, 3, none⟩) (Nat.le_refl _) _⟩
      case rest =>
        rename World => wx
        obtain ⟨u1, u3, hz, r1, r3, bx⟩ := hcut
        obtain ⟨pa, ca, hua⟩ := xahZ r1
        obtain ⟨pb, cb, hub⟩ := xahZ r3
        subst hua hub
        clear d0 d3 e0 e1' e2' e3' e1 e3
        have hx1 := (bx.block _ lx1).trans X.out.1
        have hx2 := (bx.block _ lx2).trans X.out.2.1
        have hx3 := (bx.block _ lx3).trans X.out.2.2
        have d3 := xaaZ hx3 0
        have y0 := xaaZ hz 0
        have y1 := xaaZ hz 1
        have y2 := xaaZ hz 2
        have y3 := xaaZ hz 3
        simp at d3 y0 y1 y2 y3
        have hq := HQ.out.below bx
        have ha := (Below.refl wx.heap.size wx).alloc (Nat.le_refl _) (.cells #[.int .i64 P, .slice pa L.length ca, .int .i64 Rr, .slice pb D.length cb] 28)
        have HROW7 := hideP (hq.row.alloc (.cells #[.int .i64 P, .slice pa L.length ca, .int .i64 Rr, .slice pb D.length cb] 28))
        have HQ7 := hideP (hq.below ha)
        have HR1 := hideP (r1.alloc (.cells #[.int .i64 P, .slice pa L.length ca, .int .i64 Rr, .slice pb D.length cb] 28))
        have HR3 := hideP (r3.alloc (.cells #[.int .i64 P, .slice pa L.length ca, .int .i64 Rr, .slice pb D.length cb] 28))
        have HX1 := hideP (xaeZ hx1 (.cells #[.int .i64 P, .slice pa L.length ca, .int .i64 Rr, .slice pb D.length cb] 28))
        have HX2 := hideP (xaeZ hx2 (.cells #[.int .i64 P, .slice pa L.length ca, .int .i64 Rr, .slice pb D.length cb] 28))
        have HX3 := hideP (xaeZ hx3 (.cells #[.int .i64 P, .slice pa L.length ca, .int .i64 Rr, .slice pb D.length cb] 28))
        have hnews : Hid (∀ (j : Nat) (u : Value), [Value.int .i64 P, .slice pa L.length ca, .int .i64 Rr, .slice pb D.length cb][j]? = some u → (wx.alloc (.cells #[.int .i64 P, .slice pa L.length ca, .int .i64 Rr, .slice pb D.length cb] 28)).cell? ((⟨wx.heap.size, 0, none⟩ : Addr).add j) = some u) := cells4_at (World.alloc_heap_new wx _)
        have hso : Hid (∀ u ∈ [Value.int .i64 P, .slice pa L.length ca, .int .i64 Rr, .slice pb D.length cb], u.oneCell' = true) := fun u hu => by simp at hu; rcases hu with rfl | rfl | rfl | rfl <;> rfl
        have HBX := hideP (HB2.out.trans ((bx.trans (ha.mono bx.size)).mono hb2))
        have hsx := HBX.out.size
        have hqk : q.length < l.length := by omega
        have HLQ := hideP HQL
        have hszz : w.heap.size ≤ Wz.heap.size := by omega
        have hwx : w.heap.size ≤ wx.heap.size := by have := bx.size; omega
        clear hx1 hx2 hx3 hq ha r1 r3 hz bx HQL
        go_wp2_with (at_builtin; refine wpList_append_own _ rfl _ _ 22 rfl w.heap.size 28 i0 (.agg #[.int .i64 0, .slice none 0 0, .int .i64 0, .slice none 0 0]) 4 64 Tryz.underlying22 hi hz0 hz1 hz2 rfl (by decide) _ _ _ rfl HROW7.out ⟨wx.heap.size, 0, none⟩ 1 1 _ rfl rfl hnews.out hso.out (by unfold maxLen; omega) (by omega) (by simp; omega) ?_; intro v8 w8 hown8 hg8 _; obtain ⟨g8, cap8, hv8⟩ := ownsRow_succ hown8; subst hv8; have hx8 := (hg8.block _ (xabZ HX3.out) (xa0Z HROW7.out HX3.out (by decide))).trans HX3.out; have d8 := xaaZ hx8 0; have z8 := Lib.frozen_of_heap hx8 0; have HX8 := hideP hx8; have HO8 := hideP hown8; have HG8 := hideP hg8; clear hx8 hown8 hg8)
        go_roundw
        case rel =>
          have hg8 := HG8.out
          have g1 := (hg8.block _ (xabZ HX1.out) (xa0Z HROW7.out HX1.out (by decide))).trans HX1.out
          have g2 := (hg8.block _ (xabZ HX2.out) (xa0Z HROW7.out HX2.out (by decide))).trans HX2.out
          have hcopy : PCopy w8 w.heap.size (.slice (some ⟨g8, 0, none⟩) (q.length + 1) cap8) (q ++ [(.int .i64 P, .slice pa L.length ca, .int .i64 Rr, .slice pb D.length cb)]) (l.take (k + 1)) := by
            rw [xavZ l k _ HO.out]
            refine HQ7.out.snoc hg8 HO8.out rfl rfl HR1.out HR3.out hszz (fun i d g hd hg => ?_)
            obtain ⟨f', hf'⟩ := xagZ (l := l.take k) (k := i) (by rw [← HQ.out.len]; exact xauZ hd)
            have := (HQ.out.code i d f' hd hf').lt g hg
            omega
          have hgs := xarZ w8 (w.heap.size + 1 + 1) 0 (.slice (some ⟨g8, 0, none⟩) (q.length + 1) cap8)
          refine ⟨k + 1, _, _, by omega, by go_num, (heap_setCell_other w8 _ _ _ (by first | (simp; done) | (simp; omega))).trans g1, (heap_setCell_other w8 _ _ _ (by first | (simp; done) | (simp; omega))).trans g2, by simpa using heap_setCell_same w8 (w.heap.size + 1 + 1) 0 _ _ (.slice (some ⟨g8, 0, none⟩) (q.length + 1) cap8) HX8.out, hcopy.keep hgs (fun r hr => by cases hr; exact ⟨_, _, HX8.out⟩) (by decide) (by decide) (by decide), ?_⟩
          exact (HBX.out.grown hg8 hsx (fun j hj => (HROW7.out.lt j hj).1)).setCell (p := ⟨w.heap.size + 1 + 1, 0, none⟩) (by simp; omega) _
        case measure => simp [intOf]; omega
    · have hlti : ¬ (k : Int) < (l.length : Int) := by omega
      obtain rfl : k = l.length := by omega
      have d2 := xaaZ X.out.2.1 0
      simp at d2
      have n2 := Lib.frozen_of_heap X.out.2.1 0
      have hne9 : ¬ w.heap.size + 1 = w.heap.size + 1 + 1 := by omega
      have hqe : q.length = l.length := HQL
      have HQE := hideP hqe
      clear hqe HQL
      go_wp2
      refine bodyPost_ret (v := .agg #[.slice pu q.length cu]) (by simp [results, Tryz.results13, go_sem, d2, d3]) rfl ?_
      have hgs := xarZ w2 (w.heap.size + 1) 0 (.slice pu q.length cu)
      have hq := HQ.out
      rw [List.take_of_length_le (Nat.le_refl _)] at hq
      exact ⟨_, rfl, ⟨q, hq.keep hgs (fun r hr => by cases hr; exact ⟨_, _, X.out.2.1⟩) (by decide) (by decide) (by decide)⟩, HB2.out.setCell (p := ⟨w.heap.size + 1, 0, none⟩) (by simp) _⟩
end Go.Proofs.YtgmkmlenhhhgkaaGreat


/- A function, an op that came in. -/
namespace Go.Proofs.YtgmkmlenhhhgkaaGreat
open Go.ChangeShapes Go.WideShapes Go.ChangeAt Go.RowKit
set_option linter.unusedVariables false
set_option linter.unusedSimpArgs false
section
variable {H : Type} {enc : TypeId × Value → H} {W : World}
theorem open_opV {base : Nat} {r : Reach} {v : Value} {d : DataW H} {p : List MemPlace} (hv : Value.okWide Tryz.prog W r base 38 v) (h : DataW.Trod enc Tryz.prog W 0 (fun _ => true) true 38 v d p) : ∃ c a : Int, v = .agg #[.int .i64 c, .int .i64 a] := by
  obtain ⟨c0, c1, y0, y1, m, rfl, hd0, hp0, hy0, hy1⟩ := Joins.open_agg2 Tryz.underlying38 (by kernel_rfl) (by kernel_rfl) hv h
  obtain ⟨c, e0, _, wc⟩ := DataW.trod_int Tryz.underlying3 hy0
  obtain ⟨a, e1, _, wa⟩ := DataW.trod_int Tryz.underlying3 hy1
  simp at e0 e1
  subst e0 e1
  exact ⟨c, a, rfl⟩
end
end Go.Proofs.YtgmkmlenhhhgkaaGreat


/- SameEntries of entries that are the same. -/
namespace Go.Proofs.YtgmkmlenhhhgkaaGreat
open Go.RowKit
set_option linter.unusedSimpArgs false
set_option linter.unusedVariables false
theorem xfxZ (l : List (Nat × List Int)) (v u : Value) (w : World) (hv : EntsRd w v l) (hu : EntsRd w u l) : Calls Tryz.prog 10 #[v, u] w fun e w' => e = .returned (.bool true) ∧ Below w.heap.size w w' := by
  obtain ⟨pa, ca, rfl, hm, ha⟩ := hv
  obtain ⟨pb, cb, rfl, -, hb⟩ := hu
  unfold maxLen at hm
  have hself : ((l.length : Int) != (l.length : Int)) = false := by simp
  have HA := hideP ha
  have HB := hideP hb
  clear ha hb
  go_enter Tryz.func10, Tryz.ntmps10
  go_wp2
  go_loopw [5] (fun v5 wr => ∃ k : Nat, k ≤ l.length ∧ v5 = .int .i64 k ∧ Below w.heap.size w wr) (fun v5 _ => l.length - (intOf v5).toNat)
  case atStart => exact ⟨0, Nat.zero_le _, rfl, Below.refl _ _⟩
  case round =>
    rename World => w1
    obtain ⟨k, hk, rfl, hb1⟩ := hrel
    by_cases hlt : k < l.length
    · have hlti : (k : Int) < (l.length : Int) := by omega
      obtain ⟨⟨pc, s⟩, hks⟩ := xagZ hlt
      obtain ⟨b, off, x, rfl, hbl, z0, z1, hx⟩ := HA.out k pc s hks
      obtain ⟨b', off', x', rfl, hbl', z2, z3, hx'⟩ := HB.out k pc s hks
      have y0 := (hb1.cell (p := ⟨b, off + k * 2, none⟩) hbl).trans z0
      have y1 := (hb1.cell (p := ⟨b, off + k * 2 + 1, none⟩) hbl).trans z1
      have y2 := (hb1.cell (p := ⟨b', off' + k * 2, none⟩) hbl').trans z2
      have y3 := (hb1.cell (p := ⟨b', off' + k * 2 + 1, none⟩) hbl').trans z3
      have d1 : ((pc : Int) != (pc : Int)) = false := by simp
      have hi := hx.at_.below hb1
      have hi' := hx'.at_.below hb1
      obtain ⟨p1, c1, e1, -⟩ := hx.shp
      obtain ⟨p2, c2, e2, -⟩ := hx'.shp
      subst e1 e2
      have hS : ∀ n, Calls Tryz.prog 24 #[.slice p1 s.length c1, .slice p2 s.length c2] (w1.drewN n) fun e w' => e = .returned (.bool true) ∧ Below w1.heap.size w1 w' := fun n => by
        have hbn : Below w1.heap.size w1 (w1.drewN n) := ⟨rfl, rfl, rfl, Nat.le_refl _, fun _ _ => rfl⟩
        have := xbmZ s s _ _ (w1.drewN n) (hi.below hbn) (hi'.below hbn)
        rw [decide_eq_true rfl] at this
        exact this.mono fun e w' ⟨h1, h2⟩ => ⟨h1, hbn.trans h2⟩
      have HS := hideP hS
      have l1 : b < w1.heap.size := by have := hb1.size; omega
      have l2 : b' < w1.heap.size := by have := hb1.size; omega
      clear z0 z1 z2 z3 hks hx hx' hi hi' hS
      go_wp2_with fail
      go_region_held3 (fun W => W.cell? ⟨b, off + k * 2, none⟩ = some (.int .i64 pc) ∧ W.cell? ⟨b, off + k * 2 + 1, none⟩ = some (.slice p1 s.length c1) ∧ W.cell? ⟨b', off' + k * 2, none⟩ = some (.int .i64 pc) ∧ W.cell? ⟨b', off' + k * 2 + 1, none⟩ = some (.slice p2 s.length c2)) (go_keep)
        (first
          | (go_at_call 24; refine (HS.out 1).mono ?_; rintro e w2 ⟨rfl, hbw⟩; have s0 := (hbw.cell (p := ⟨b, off + k * 2, none⟩) l1).trans y0; have s1 := (hbw.cell (p := ⟨b, off + k * 2 + 1, none⟩) l1).trans y1; have s2 := (hbw.cell (p := ⟨b', off' + k * 2, none⟩) l2).trans y2; have s3 := (hbw.cell (p := ⟨b', off' + k * 2 + 1, none⟩) l2).trans y3))
      all_goals
        go_wp2
        go_roundw
        case rel => exact ⟨k + 1, by omega, by go_num, bthen hb1 hbw⟩
        case measure => simp [intOf]; omega
    · have hlti : ¬ (k : Int) < (l.length : Int) := by omega
      go_wp2
      go_ret
      exact ⟨rfl, hb1⟩
end Go.Proofs.YtgmkmlenhhhgkaaGreat


