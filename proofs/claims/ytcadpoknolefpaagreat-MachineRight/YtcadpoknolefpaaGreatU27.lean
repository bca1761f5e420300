/- My texts Mh Mi Mj Mk, joined. -/
import Derived.Test.YtcadpoknolefpaaGreatU7
import Derived.Test.YtcadpoknolefpaaGreatU25
import Derived.Test.YtcadpoknolefpaaGreatU26
/- stride's ops: new blocks, boxes, returns. -/
namespace Go.Proofs.YtcadpoknolefpaaGreat
open Go.RowKit
set_option linter.unusedSimpArgs false
set_option linter.unusedVariables false
/-- a doer at the end: In may be the rest of a row. -/
structure FAt (w0 W : World) (b : Nat) (pv fv bv iv ov : Value) (q : List FV) (qb : List Value) (M : Mach) (k : Nat) (iw : Value) (I : List Int) : Prop where
  cell : W.heap[b]? = some (.cells #[fv, bv, iv, ov, .int .i64 M.status, .int .i64 M.trap, pv] 120 (0, 0))
  own : MOwn W w0.heap.size fv bv iw ov q qb { M with inp := I }
  bel : Below w0.heap.size w0 W
  rest : M.inp = I.drop k
  val : (k = 0 ∧ iv = iw) ∨ ∃ g n cap j c, iw = .slice (some ⟨g, 0, none⟩) n cap ∧ iv = .slice (some ⟨g, j, none⟩) (n - k) c ∧ (j = k ∨ n - k = 0) ∧ n - k ≤ c
def Fin (w0 W : World) (b : Nat) (pv : Value) (M : Mach) : Prop := ∃ fv bv iv ov q qb k iw I, FAt w0 W b pv fv bv iv ov q qb M k iw I
theorem Doer.fin {w0 W : World} {b : Nat} {pv : Value} {M : Mach} (h : Doer w0 W b pv M) : Fin w0 W b pv M := by
  obtain ⟨fv, bv, iv, ov, q, qb, h⟩ := h
  exact ⟨fv, bv, iv, ov, q, qb, 0, iv, M.inp, h.cell, h.own, h.bel, rfl, .inl ⟨rfl, rfl⟩⟩
theorem row_cap {W : World} {B : Nat} {e : TypeId} {size n m cap : Nat} {p : Option Addr} {xs : List Value} (h : W.ownsRow B e size (.slice p m cap) n xs) (hn : 0 < n) : ∃ g, p = some ⟨g, 0, none⟩ ∧ m = n ∧ n ≤ cap := by
  rcases h.2 with ⟨h1, h0⟩ | ⟨g, cap', cur, h1, _, _, h2, h3, _⟩
  · omega
  · cases h1
    exact ⟨g, rfl, rfl, by omega⟩
set_option maxRecDepth 100000 in
set_option maxHeartbeats 2000000 in
theorem rc_any (w0 : World) (b : Nat) (pv : Value) (M : Mach) (D : List Frm) (x : Frm) (n : Int) (I : List Int) (w : World) (h : Doer w0 w b pv M) (hF : M.frames = D ++ [x]) (hD : D.length ≤ 100) (hl : x.stk.length ≤ 90) (hi : M.inp = n :: I) (hil : M.inp.length ≤ 100) : Calls Tryz.prog 131 #[.pointer (some ⟨b, 0, none⟩)] w fun e w' => e = .returned (.tuple #[]) ∧ Fin w0 w' b pv { M with frames := D ++ [{ x with stk := x.stk ++ [(false, n)] }], inp := I } := by
  obtain ⟨fv, bv, iv, ov, q, qb, D0⟩ := h
  obtain ⟨p, cap, hiv⟩ := row_shp D0.own.inp
  have hin := D0.own.inp
  rw [hiv] at hin
  obtain ⟨g, hp, -, hcap⟩ := row_cap hin (by rw [hi]; simp)
  have hin2 := intsAt_of_row rfl hin
  subst hp
  have hlen : M.inp.length = I.length + 1 := by rw [hi]; simp
  have k2 := D0.cells.2.2.1
  rw [hiv] at k2
  obtain ⟨p', cap', hv', -, hcc⟩ := hin2
  obtain ⟨b', off', hb', hbl, e0⟩ := hcc 0 n (by rw [hi]; rfl)
  cases hv'
  cases hb'
  simp only [Nat.add_zero] at e0
  rw [hlen] at k2
  have HD0 := hideP D0
  have HI := hideP hi
  have HV := hideP hiv
  have hc0 : (0 : Int) ≤ (cap : Int) - 1 := by omega
  have hgb : g ≠ b := fun e => by
    obtain ⟨cs, hh⟩ := row_heap (g := g) hin rfl
    rw [e, D0.cell] at hh
    simp at hh
  clear D0 hcc hin hi hiv
  go_enter Tryz.func131, Tryz.ntmps131
  go_wp2_with (go_at_call 176; refine (dPutNumber_any w0 b pv M D x _ _ ⟨_, _, _, _, _, _, HD0.out⟩ hF hD (by omega)).mono ?_; rintro e w2 ⟨rfl, h2, o2⟩; obtain ⟨fv2, bv2, iv2, ov2, q2, qb2, D2⟩ := h2; have j2 := D2.cells.2.2.1; have hiv2 : iv2 = .slice (some ⟨g, 0, none⟩) (I.length + 1) cap := (by have := (cell_at' (o2 _ _ _ _ HD0.out.cell (by decide) (by decide)) 2).symm.trans (D2.cells.2.2.1); rw [HV.out, hlen] at this; simpa using this.symm); rw [hiv2] at j2; have z2 := Lib.frozen_of_heap D2.cell 2; have HD2 := hideP D2; have HV2 := hideP hiv2; clear D2 o2 hiv2)
  · first | go_end0 | refine bodyPost_ret (results_none rfl _ _ _) rfl ?_
    have D2 := HD2.out
    have hgs := set_grown w2 ⟨b, 2, none⟩ (.slice (some ⟨g, 0, none⟩) I.length 0)
    have hty : TyRow w2 (some b) 120 := tyRow_at D2.cell
    have hs := heap_setCell_same w2 b 2 _ _ (.slice (some ⟨g, 0, none⟩) I.length 0) D2.cell
    have hk := D2.own.keep hgs hty (by decide) (by decide) (by decide) (by decide)
    have hrows := hk.rows
    simp only at hrows
    rw [HI.out] at hrows
    exact ⟨rfl, fv2, bv2, .slice (some ⟨g, 0, none⟩) I.length 0, ov2, q2, qb2, 1, iv2, n :: I, by simpa using hs, ⟨hk.fr, hk.frs, hk.bl, hrows⟩, D2.bel.setCell D2.lo _, rfl, .inr ⟨g, I.length + 1, cap, 0, 0, HV2.out, by simp, by omega, by omega⟩⟩
  · first | go_end0 | refine bodyPost_ret (results_none rfl _ _ _) rfl ?_
    have D2 := HD2.out
    have hgs := set_grown w2 ⟨b, 2, none⟩ (.slice (some ⟨g, 1, none⟩) I.length (cap - 1))
    have hty : TyRow w2 (some b) 120 := tyRow_at D2.cell
    have hs := heap_setCell_same w2 b 2 _ _ (.slice (some ⟨g, 1, none⟩) I.length (cap - 1)) D2.cell
    have hk := D2.own.keep hgs hty (by decide) (by decide) (by decide) (by decide)
    have hrows := hk.rows
    simp only at hrows
    rw [HI.out] at hrows
    exact ⟨rfl, fv2, bv2, .slice (some ⟨g, 1, none⟩) I.length (cap - 1), ov2, q2, qb2, 1, iv2, n :: I, by simpa using hs, ⟨hk.fr, hk.frs, hk.bl, hrows⟩, D2.bel.setCell D2.lo _, rfl, .inr ⟨g, I.length + 1, cap, 1, (cap - 1), HV2.out, by simp, by omega, by omega⟩⟩
set_option maxRecDepth 100000 in
set_option maxHeartbeats 2000000 in
theorem nb_trap (w0 : World) (b : Nat) (pv : Value) (M : Mach) (D : List Frm) (x : Frm) (r : List Val) (v : Val) (w : World) (h : Doer w0 w b pv M) (hF : M.frames = D ++ [x]) (hD : D.length ≤ 100) (hl : x.stk.length ≤ 90) (hs : x.stk = r ++ [v]) (hsz : -9223372036854775808 ≤ v.2 ∧ v.2 ≤ 9223372036854775807) (he : newErr M.blocks v.2 ≠ 0) : Calls Tryz.prog 186 #[.pointer (some ⟨b, 0, none⟩)] w fun e w' => e = .panicked [{ v := .iface 117 (.int .i64 3), recovered := false }] ∧ Below w0.heap.size w0 w' := by
  have hrl := last_val hs
  have hfd := fieldN
  obtain ⟨g, cap, bv, iv, ov, q, c, qb, H0⟩ := h.open hF
  have k1 := H0.at_.cells.2.1
  obtain ⟨pb, nb, cb, hbv⟩ := blksOwn_shp H0.at_.own.blks
  rw [hbv] at k1
  have HV := hideP hbv
  have H1 := hideP H0
  have HE := hideP he
  clear h H0 he hbv
  go_enter Tryz.func186, Tryz.ntmps186
  go_wp2_with fail
  go_region_held3 (fun W => W.cell? ⟨b, 1, none⟩ = some (.slice pb nb cb)) (first | go_keep | exact n1)
    (first
      | (go_at_call 178; (refine (dTake_any w0 b pv M D x r v _ (H1.out.below ((Below.refl _ w).drew)).doer hF hs hD (by omega)).mono ?_); rintro e w2 ⟨rfl, h2, o2⟩; obtain ⟨og, oj⟩ := o2 _ _ _ (H1.out.below ((Below.refl _ w).drew)).fcell; have n1 := og.cell (H1.out.below ((Below.refl _ w).drew)).at_.cells.2.1 (fun e => (H1.out.below ((Below.refl _ w).drew)).gne (by simpa using e)); obtain ⟨fv2, bv2, iv2, ov2, q2, qb2, D2⟩ := h2; have hbv2 : bv2 = .slice pb nb cb := (by have := n1.symm.trans D2.cells.2.1; rw [HV.out] at this; simpa using this.symm); rw [HV.out] at n1; subst hbv2; have HD2 := hideP D2; clear D2 o2 og oj)
      | (go_at_call 223; (refine (bNew_any M.blocks v.2 hsz _ _ (blksAt_of_own HD2.out.own.blks)).mono ?_); rintro e w3 ⟨u, rfl, u3, b3⟩; obtain ⟨pu, nu, cu, hpu⟩ := blksOwn_shp u3; subst hpu; have HD3 := hideP (HD2.out.below b3); have n1 := HD3.out.cells.2.1; have z1 := Lib.frozen_of_heap HD3.out.cell 1; have U3 := hideP u3; have B3 := hideP b3; clear u3 b3))
  have he' : (newErr M.blocks v.2 != 0) = true := by simpa using HE.out
  go_wp2
  exact ⟨rfl, rfl, HD3.out.bel⟩
set_option maxRecDepth 100000 in
set_option maxHeartbeats 2000000 in
theorem nb_ok (w0 : World) (b : Nat) (pv : Value) (M : Mach) (D : List Frm) (x : Frm) (r : List Val) (v : Val) (w : World) (h : Doer w0 w b pv M) (hF : M.frames = D ++ [x]) (hD : D.length ≤ 100) (hl : x.stk.length ≤ 90) (hs : x.stk = r ++ [v]) (hsz : -9223372036854775808 ≤ v.2 ∧ v.2 ≤ 9223372036854775807) (he : newErr M.blocks v.2 = 0) : Calls Tryz.prog 186 #[.pointer (some ⟨b, 0, none⟩)] w fun e w' => e = .returned (.tuple #[]) ∧ Doer w0 w' b pv { M with frames := D ++ [{ x with stk := r ++ [(true, newRef M.blocks v.2)] }], blocks := newR M.blocks v.2 } := by
  have hrl := last_val hs
  have hfd := fieldN
  obtain ⟨g, cap, bv, iv, ov, q, c, qb, H0⟩ := h.open hF
  have k1 := H0.at_.cells.2.1
  obtain ⟨pb, nb, cb, hbv⟩ := blksOwn_shp H0.at_.own.blks
  rw [hbv] at k1
  have HV := hideP hbv
  have H1 := hideP H0
  have HE := hideP he
  clear h H0 he hbv
  go_enter Tryz.func186, Tryz.ntmps186
  go_wp2_with fail
  go_region_held3 (fun W => W.cell? ⟨b, 1, none⟩ = some (.slice pb nb cb)) (first | go_keep | exact n1)
    (first
      | (go_at_call 178; (refine (dTake_any w0 b pv M D x r v _ (H1.out.below ((Below.refl _ w).drew)).doer hF hs hD (by omega)).mono ?_); rintro e w2 ⟨rfl, h2, o2⟩; obtain ⟨og, oj⟩ := o2 _ _ _ (H1.out.below ((Below.refl _ w).drew)).fcell; have n1 := og.cell (H1.out.below ((Below.refl _ w).drew)).at_.cells.2.1 (fun e => (H1.out.below ((Below.refl _ w).drew)).gne (by simpa using e)); obtain ⟨fv2, bv2, iv2, ov2, q2, qb2, D2⟩ := h2; have hbv2 : bv2 = .slice pb nb cb := (by have := n1.symm.trans D2.cells.2.1; rw [HV.out] at this; simpa using this.symm); rw [HV.out] at n1; subst hbv2; have HD2 := hideP D2; clear D2 o2 og oj)
      | (go_at_call 223; (refine (bNew_any M.blocks v.2 hsz _ _ (blksAt_of_own HD2.out.own.blks)).mono ?_); rintro e w3 ⟨u, rfl, u3, b3⟩; obtain ⟨pu, nu, cu, hpu⟩ := blksOwn_shp u3; subst hpu; have HD3 := hideP (HD2.out.below b3); have n1 := HD3.out.cells.2.1; have z1 := Lib.frozen_of_heap HD3.out.cell 1; have U3 := hideP u3; have B3 := hideP b3; clear u3 b3))
  rw [HE.out]
  go_wp2_with (go_at_call 177; refine (dPutRef_any w0 b pv _ D _ _ _ (HD2.out.setBl B3.out U3.out) rfl hD (by simp; omega)).mono ?_; rintro e w5 ⟨rfl, h5, -⟩; have H5 := hideP h5; clear h5)
  go_end0
  have := H5.out
  exact ⟨rfl, this⟩
theorem step_append_at {P : Program} {ops : Array Oper} {o : Oper} {a : Act} {w : World} {K : Act → World → Prop} {Q : Exit → Act → World → Prop} {E : Prop}
    (hg : o.guard = none) (s x : Operand) (t : TypeId) (hop : o.op = Op.call { callee := Callee.builtin Builtin.append, args := #[s, x], argTypes := #[t, t] })
    (base : Nat) (e : TypeId) (i : TypeInfo) (z : Value) (size bytes : Nat) (h1 : P.underlying t = some (.slice e)) (h2 : P.info? e = some i) (h3 : i.zero = some z) (h4 : i.size = size) (h5 : i.bytes = bytes) (h6 : z.cells.size = size) (h7 : 0 < size)
    (v : Value) (n : Nat) (xs : List Value) (hs : a.eval s = v) (hown : w.ownsRow base e size v n xs)
    (ad : Addr) (m c : Nat) (news : List Value) (hx : a.eval x = .slice (some ad) m c) (hn : news.length = m * size) (hc : ∀ j u, news[j]? = some u → w.cell? (ad.add j) = some u) (h1c : ∀ u ∈ news, u.oneCell' = true)
    (b1 : n + m ≤ maxLen) (b2 : (n + m) * bytes ≤ 140737488355328) (hbase : base ≤ w.heap.size)
    (hK : ∀ v' w', w'.ownsRow base e size v' (n + m) (xs ++ news) → w.grownBy w' v.ownBlock → (v'.ownBlock = v.ownBlock ∨ v'.ownBlock = some w.heap.size) → K (a.put o.dst v') w') :
    if Region.wanted o (yielded ops a.tmps) = true then Oper.wp P o a w K Q else E := by
  have hw : Region.wanted o (yielded ops a.tmps) = true := by simp [Region.wanted, hg]
  rw [if_pos hw]
  obtain ⟨v', w', hrun, r1, r2, _, r3⟩ := run_append_own_at (P := P) w base t o.type e i z size bytes h1 h2 h3 h4 h5 h6 h7 v n xs hown ad m c news hn hc h1c b1 b2 hbase
  unfold Oper.wp
  simp [execOp, hop, resolve, invoke, builtin, hs, hx, hrun, Result.andThen]
  exact hK v' w' r1 r2 r3
/-- one row is another one: in its own block, or in a new one. -/
theorem BRows.swap {W W' : World} {B : Nat} {q : List Value} {L : List (List Int)} {k : Nat} {x y : Value} {b : List Int} (h : BRows W B q L) (hk : q[k]? = some x) (hg : W.grownBy W' x.ownBlock) (hy : W'.ownsRow B 3 1 y b.length (b.map (Value.int .i64))) (hat : ∀ g, y.ownBlock = some g → x.ownBlock = some g ∨ W.heap.size ≤ g) (hb : b.length ≤ 17592186044416) : BRows W' B (q.set k y) (L.set k b) := by
  have hlt := lt_of_at hk
  refine ⟨by simp [h.len], fun i z c hz hc => ?_, fun i j z u g hz hu gz gu => ?_, fun c hc => ?_⟩
  · by_cases e : k = i
    · subst e
      rw [List.getElem?_set_self hlt] at hz
      rw [List.getElem?_set_self (by rw [← h.len]; exact hlt)] at hc
      cases hz; cases hc
      exact hy
    · rw [List.getElem?_set_ne e] at hz hc
      refine row_same (h.each i z c hz hc) fun g hgz => hg.block g (h.lt hz hgz).2.1 fun e2 => ?_
      exact e (h.apart k i x z g hk hz e2.symm hgz)
  · by_cases e : k = i
    · by_cases e' : k = j
      · omega
      · subst e
        rw [List.getElem?_set_self hlt] at hz
        rw [List.getElem?_set_ne e'] at hu
        cases hz
        rcases hat g gz with h1 | h1
        · exact h.apart k j x u g hk hu h1 gu
        · have := (h.lt hu gu).2.1; omega
    · rw [List.getElem?_set_ne e] at hz
      by_cases e' : k = j
      · subst e'
        rw [List.getElem?_set_self hlt] at hu
        cases hu
        rcases hat g gu with h1 | h1
        · exact h.apart i k z x g hz hk gz h1
        · have := (h.lt hz gz).2.1; omega
      · rw [List.getElem?_set_ne e'] at hu
        exact h.apart i j z u g hz hu gz gu
  · rcases List.mem_or_eq_of_mem_set hc with h1 | rfl
    · exact h.small c h1
    · exact hb
/-- another Out. -/
theorem DAt.setOut {w0 W : World} {b : Nat} {pv fv bv iv ov : Value} {q : List FV} {qb : List Value} {M : Mach} (h : DAt w0 W b pv fv bv iv ov q qb M) {W2 : World} {u : Value} {O : List Int} (hg : W.grownBy W2 ov.ownBlock) (hr : W2.ownsRow w0.heap.size 3 1 u O.length (O.map (Value.int .i64))) (hat : ∀ z, u.ownBlock = some z → ov.ownBlock = some z ∨ W.heap.size ≤ z) (hO : O.length ≤ 40) : Doer w0 (W2.setCell ⟨b, 3, none⟩ u) b pv { M with out := O } := by
  have hty : TyRow W ov.ownBlock 3 := tyRow_row h.own.out
  have hcell2 : W2.heap[b]? = _ := (hg.block b h.lt (fun e => by
    obtain ⟨cs, fz, hh⟩ := hty b e.symm
    rw [h.cell] at hh; simp at hh)).trans h.cell
  have hgs := set_grown W2 ⟨b, 3, none⟩ u
  have hty2 : TyRow W2 (some b) 120 := tyRow_at hcell2
  have hs := heap_setCell_same W2 b 3 _ _ u hcell2
  have hrows := h.own.rows.swap (k := 1) rfl hg hr hat (by omega)
  refine ⟨fv, bv, iv, u, q, qb, ⟨by simpa using hs, ⟨row_keep (row_keep h.own.fr hg hty (by decide)) hgs hty2 (by decide), (h.own.frs.keep hg hty (by decide)).keep hgs hty2 (by decide), row_keep (row_keep h.own.bl hg hty (by decide)) hgs hty2 (by decide), BRows.keep hrows hgs hty2 (by decide)⟩, (h.bel.grown hg h.bel.size (fun k hk => (h.own.out.lt k hk).1)).setCell h.lo _, h.lo⟩⟩
set_option maxRecDepth 100000 in
set_option maxHeartbeats 2000000 in
theorem sd_trap (w0 : World) (b : Nat) (pv : Value) (M : Mach) (D : List Frm) (x : Frm)  (w : World) (h : Doer w0 w b pv M) (hF : M.frames = D ++ [x]) (hD : D.length ≤ 100) (hl : x.stk.length ≤ 90) (ho : M.out.length = 10) : Calls Tryz.prog 130 #[.pointer (some ⟨b, 0, none⟩)] w fun e w' => e = .panicked [{ v := .iface 117 (.int .i64 5), recovered := false }] ∧ Below w0.heap.size w0 w' := by
  obtain ⟨fv, bv, iv, ov, q, qb, D0⟩ := h
  have k3 := D0.cells.2.2.2.1
  obtain ⟨po, co, hov⟩ := row_shp D0.own.out
  rw [hov, ho] at k3
  have HD0 := hideP D0
  clear D0
  go_enter Tryz.func130, Tryz.ntmps130
  go_wp2
  exact ⟨rfl, rfl, HD0.out.bel⟩
set_option maxRecDepth 100000 in
set_option maxHeartbeats 2000000 in
theorem sd_ok (w0 : World) (b : Nat) (pv : Value) (M : Mach) (D : List Frm) (x : Frm) (r : List Val) (v : Val) (w : World) (h : Doer w0 w b pv M) (hF : M.frames = D ++ [x]) (hD : D.length ≤ 100) (hl : x.stk.length ≤ 90) (hs : x.stk = r ++ [v]) (ho : M.out.length < 10) : Calls Tryz.prog 130 #[.pointer (some ⟨b, 0, none⟩)] w fun e w' => e = .returned (.tuple #[]) ∧ Doer w0 w' b pv { M with frames := D ++ [{ x with stk := r }], out := M.out ++ [v.2] } := by
  have hrl := last_val hs
  have hfd := fieldN
  obtain ⟨i0, hi, hz0, hz1, hz2⟩ := info_parts infoInt
  obtain ⟨g, cap, bv, iv, ov, q, c, qb, H0⟩ := h.open hF
  have k3 := H0.at_.cells.2.2.2.1
  obtain ⟨po, co, hov⟩ := row_shp H0.at_.own.out
  rw [hov] at k3
  have ho' : ((M.out.length : Int) == 10) = false := by simp; omega
  have HV := hideP hov
  have H1 := hideP H0
  clear h H0 hov
  go_enter Tryz.func130, Tryz.ntmps130
  go_wp2_with fail
  go_region_law
    (first
      | (refine step_append_at rfl _ _ 27 rfl w0.heap.size 3 i0 (.int .i64 0) 1 8 Tryz.underlying27 hi hz0 hz1 hz2 rfl (by decide) _ _ _ rfl (HROW.out.alloc _) ⟨w2.heap.size, 0, none⟩ 1 1 [.int .i64 v.2] rfl rfl (cell_one_at (by rw [cell_at' (World.alloc_heap_new w2 (.cells #[.int .i64 v.2] 3)) 0]; rfl)) (by simp [Value.oneCell']) (by unfold maxLen; omega) (by omega) (by have := HD2.out.bel.size; simp; omega) ?_; intro v' w4 hown4 hg4 hat4; obtain ⟨g4, cap4, hv4⟩ := ownsRow_succ hown4; subst hv4; have hb4 := (hg4.block b (heap_lt (heap_old HD2.out.cell _)) (row_not HROW.out HD2.out.cell (by decide))).trans (heap_old HD2.out.cell _); have m4 := cell_at' hb4 3; have z4 := Lib.frozen_of_heap hb4 3; simp at m4; have HO4 := hideP hown4; have HG4 := hideP hg4; have HAT4 := hideP hat4; clear hown4 hg4 hb4 hat4)
      | (go_simp; go_at_call 178; (refine (dTake_any w0 b pv M D x r v _ (H1.out.below ((Below.refl _ w).drew)).doer hF hs hD (by omega)).mono ?_); rintro e w2 ⟨rfl, h2, o2⟩; obtain ⟨og, oj⟩ := o2 _ _ _ (H1.out.below ((Below.refl _ w).drew)).fcell; have n3 := og.cell (H1.out.below ((Below.refl _ w).drew)).at_.cells.2.2.2.1 (fun e => (H1.out.below ((Below.refl _ w).drew)).gne (by simpa using e)); obtain ⟨fv2, bv2, iv2, ov2, q2, qb2, D2⟩ := h2; have hov2 : ov2 = .slice po M.out.length co := (by have := n3.symm.trans D2.cells.2.2.2.1; rw [HV.out] at this; simpa using this.symm); rw [HV.out] at n3; subst hov2; have HD2 := hideP D2; have HROW : Hid (w2.ownsRow w0.heap.size 3 1 (.slice po M.out.length co) M.out.length (M.out.map (Value.int .i64))) := D2.own.out; have z3 := Lib.frozen_of_heap D2.cell 3; have zz3 := fun o => Lib.frozen_of_heap (heap_old D2.cell o) 3; have n33 := fun o => cell_old n3 o; clear D2 o2 og oj))
  all_goals
    go_wp2
    go_end0
    have hO := HO4.out
    refine ⟨rfl, (HD2.out.below ((Below.refl _ w2).alloc (Nat.le_refl _) _)).setOut HG4.out (by simpa using hO) (fun z hz => ?_) (by simp; omega)⟩
    rcases HAT4.out with h1 | h1
    · exact .inl (h1.symm.trans hz)
    · rw [h1] at hz; cases hz; exact .inr (Nat.le_refl _)
end Go.Proofs.YtcadpoknolefpaaGreat
/- stride.Begin; slices.Backward at values. -/
namespace Go.Proofs.YtcadpoknolefpaaGreat
open Go.RowKit Go.Shelf
set_option linter.unusedSimpArgs false
set_option linter.unusedVariables false
attribute [local go_sem] Oper.semAt_some
theorem made_vals (n : Nat) : (madeCells (Value.agg #[.bool false, .int .i64 0]).cells (n * 2)).toList = valCells (List.replicate n (false, 0)) := by
  have h : (Value.agg #[.bool false, .int .i64 0]).cells = #[.bool false, .int .i64 0] := rfl
  rw [h]
  apply List.ext_getElem?
  intro k
  by_cases hk : k < n * 2
  · have hq : k / 2 < n := by omega
    obtain ⟨a0, a1⟩ := valCells_at (List.replicate n (false, 0)) (k / 2) (false, 0) (by simp [hq])
    have hm : k % 2 = 0 ∨ k % 2 = 1 := by omega
    rcases hm with hm | hm
    · rw [show k / 2 * 2 = k by omega] at a0
      rw [a0]; simp [madeCells, hk, hm]
    · rw [show k / 2 * 2 + 1 = k by omega] at a1
      rw [a1]; simp [madeCells, hk, hm]
  · rw [List.getElem?_eq_none (by simp [madeCells]; omega), List.getElem?_eq_none (by rw [valCells_length]; simp; omega)]
theorem valCells_set1 (l : List Val) (k : Nat) (b c : Bool) (n : Int) (h : l[k]? = some (c, n)) : (valCells l).set (k * 2) (.bool b) = valCells (l.set k (b, n)) := by
  induction l generalizing k with
  | nil => simp at h
  | cons y r ih =>
    cases k with
    | zero => simp at h; subst h; simp [valCells]
    | succ k =>
      have := ih k (by simpa using h)
      rw [show (k + 1) * 2 = k * 2 + 1 + 1 from by omega]
      simpa [valCells] using this
theorem freshL_length (ts : List Int) : (freshL ts).length = ts.length := by simp [freshL]
theorem fresh_set (ts : List Int) (k : Nat) (t : Int) (h : ts[k]? = some t) : (freshL (ts.take k) ++ List.replicate (ts.length - k) (false, (0 : Int))).set k (decide (t = 2), 0) = freshL (ts.take (k + 1)) ++ List.replicate (ts.length - (k + 1)) (false, 0) := by
  have hl := lt_of_at h
  have e1 : (freshL (ts.take k)).length = k := by rw [freshL_length, List.length_take]; omega
  have e2 : List.replicate (ts.length - k) (false, (0 : Int)) = (false, 0) :: List.replicate (ts.length - (k + 1)) (false, 0) := by
    rw [show ts.length - k = ts.length - (k + 1) + 1 by omega]; rfl
  rw [List.set_append_right _ _ (by omega), e1, Nat.sub_self, e2, List.set_cons_zero, take_snoc ts k t h]
  simp [freshL]
set_option maxRecDepth 100000 in
set_option maxHeartbeats 4000000 in
theorem begin_any (p : List Fn) (pv : Value) (k : Nat) (f : Fn) (w : World) (hp : FnsAt w pv p) (hk : p[k]? = some f) (hL : f.2.1.length ≤ 100) : Calls Tryz.prog 43 #[.agg #[pv], .int .i64 k] w fun e w' => ∃ gl, e = .returned (.agg #[.int .i64 k, .int .i64 0, .slice (some ⟨gl, 0, none⟩) f.2.1.length f.2.1.length, .slice none 0 0]) ∧ w'.ownsRow w.heap.size 50 2 (.slice (some ⟨gl, 0, none⟩) f.2.1.length f.2.1.length) f.2.1.length (valCells (freshL f.2.1)) ∧ Below w.heap.size w w' := by
  obtain ⟨i0, hi, hz0, hz1, hz2⟩ := info_parts infoVal
  obtain ⟨P, L, r, C⟩ := f
  simp only at hL
  obtain ⟨pp, qp, hpv, hpm, hpc⟩ := id hp
  subst hpv
  unfold maxLen at hpm
  obtain ⟨b, off, c0, c1, c2, c3, hpp, hlt, y0, y1, y2, y3, hfn⟩ := hpc k _ hk
  subst hpp
  have hkp := lt_of_at hk
  have hkpi : (k : Int) < (p.length : Int) := by omega
  obtain ⟨-, hI, -, -⟩ := hfn
  obtain ⟨p1, q1, e1, -, hIc⟩ := id hI
  simp only at e1
  subst e1
  obtain ⟨W1, hW1⟩ : ∃ W1, (w.alloc (.cells #[.slice (some ⟨b, off, none⟩) p.length qp] 24)).alloc (.cells #[.int .i64 0, .int .i64 0, .slice none 0 0, .slice none 0 0] 48) = W1 := ⟨_, rfl⟩
  have b1 : Below w.heap.size w W1 := by rw [← hW1]; exact ((Below.refl _ w).alloc (Nat.le_refl _) _).alloc (by simp) _
  have x1 : W1.heap[w.heap.size]? = some (.cells #[.slice (some ⟨b, off, none⟩) p.length qp] 24 (0, 0)) := by rw [← hW1]; exact heap_old (World.alloc_heap_new w _) _
  have y1' : W1.heap[w.heap.size + 1]? = some (.cells #[.int .i64 0, .int .i64 0, .slice none 0 0, .slice none 0 0] 48 (0, 0)) := by rw [← hW1]; exact new_two w _ _
  have lx := heap_lt x1
  have ly := heap_lt y1'
  have d0 : W1.cell? ⟨w.heap.size, 0, none⟩ = some (.slice (some ⟨b, off, none⟩) p.length qp) := cell_at' x1 0
  have d1 := (b1.cell (p := ⟨b, off + k * 4 + 1, none⟩) hlt).trans y1
  have hlt1 : b < W1.heap.size := Nat.lt_of_lt_of_le hlt b1.size
  have HI := hideP (hI.below b1)
  have HX := hideP x1
  have HY := hideP y1'
  clear hp hpc hk hI hIc x1 y1' y0 y1 y2 y3
  go_enter Tryz.func43, Tryz.ntmps43
  go_wp2_with (at_make; refine wpList_make_full _ rfl _ _ 46 rfl W1.heap.size 50 i0 (.agg #[.bool false, .int .i64 0]) 2 Tryz.underlying46 hi hz0 hz1 _ _ _ _ L.length rfl rfl (by omega) (by omega) (by rw [hz2]; omega) (by unfold maxLen; omega) (Nat.le_refl _) ?_; intro w2 hown2 hg2; rw [made_vals] at hown2; have b2 : Below W1.heap.size W1 w2 := (Below.refl _ W1).grown hg2 (Nat.le_refl _) (fun k hk => by cases hk); have HOWN2 := hideP hown2; have k0 := (b2.cell (p := ⟨w.heap.size, 0, none⟩) lx).trans d0; have k1 := (b2.cell (p := ⟨b, off + k * 4 + 1, none⟩) hlt1).trans d1; clear hown2 hg2)
  go_loopw [6, 7, 23] (fun _ _ i wr => ∃ (j : Nat), j ≤ L.length ∧ i = .int .i64 j ∧ wr.ownsRow W1.heap.size 50 2 (.slice (some ⟨W1.heap.size, 0, none⟩) L.length L.length) L.length (valCells (freshL (L.take j) ++ List.replicate (L.length - j) (false, 0))) ∧ Below W1.heap.size W1 wr) (fun _ _ i _ => L.length - (intOf i).toNat)
  case atStart => exact ⟨0, Nat.zero_le _, rfl, by simpa [freshL] using HOWN2.out, b2⟩
  case round =>
    rename World => w3
    obtain ⟨j, hj, rfl, hrow, b3⟩ := hrel
    by_cases hlt3 : j < L.length
    · have hlti : (j : Int) < (L.length : Int) := by omega
      obtain ⟨t, ht⟩ := at_of_lt hlt3
      obtain ⟨p2, q2, he2, -, hc2⟩ := HI.out.below b3
      cases he2
      obtain ⟨g2, off2, hp2, -, g0⟩ := hc2 j t ht
      subst hp2
      have hlen : (freshL (L.take j) ++ List.replicate (L.length - j) (false, (0 : Int))).length = L.length := by simp [freshL]; omega
      have hat : (freshL (L.take j) ++ List.replicate (L.length - j) (false, (0 : Int)))[j]? = some (false, 0) := by
        have e1 : (freshL (L.take j)).length = j := by rw [freshL_length, List.length_take]; omega
        rw [List.getElem?_append_right (by omega), e1, Nat.sub_self]
        rw [List.getElem?_replicate]; simp; omega
      have hvr := valsAt_of_row (l := freshL (L.take j) ++ List.replicate (L.length - j) (false, (0 : Int))) (by rw [hlen]; exact hrow)
      obtain ⟨pv2, cv2, he3, -, hc3⟩ := hvr
      rw [hlen] at he3
      cases he3
      obtain ⟨gg, oo, hgo, -, v0, -⟩ := hc3 j _ hat
      cases hgo
      simp only [Nat.zero_add] at v0
      obtain ⟨cur, hcur⟩ := row_heap (g := W1.heap.size) hrow rfl
      have z0 := Lib.frozen_of_heap hcur (j * 2)
      have HROW := hideP hrow
      have HT := hideP ht
      have HAT := hideP hat
      clear hc2 hc3 hcur hrow ht hat hlen
      go_wp2
      go_roundw
      case rel =>
        refine ⟨j + 1, by omega, by go_num, ?_, b3.setCell (p := ⟨W1.heap.size, j * 2, none⟩) (Nat.le_refl _) _⟩
        have h1 := row_set HROW.out (j * 2) (.bool (t == 2))
        rw [valCells_set1 _ j (t == 2) false 0 HAT.out] at h1
        have h2 := fresh_set L j t HT.out
        rw [show (decide (t = 2)) = (t == 2) from rfl] at h2
        rw [h2] at h1
        exact h1
      case measure => simp [intOf]; omega
    · have hlti : ¬ (j : Int) < (L.length : Int) := by omega
      have hjl : j = L.length := by omega
      subst hjl
      have HROW := hideP hrow
      have y3 := (b3.block _ ly).trans HY.out
      have yc0 := cell_at' y3 0
      have yc1 := cell_at' y3 1
      have yc2 := cell_at' y3 2
      have yc3 := cell_at' y3 3
      simp at yc0 yc1 yc2 yc3
      have yz := Lib.frozen_of_heap y3
      have yz0 := yz 0
      have yz1 := yz 1
      have yz2 := yz 2
      have yz3 := yz 3
      clear hrow yz y3
      go_wp2
      refine bodyPost_ret (v := .agg #[.int .i64 k, .int .i64 0, .slice (some ⟨W1.heap.size, 0, none⟩) L.length L.length, .slice none 0 0]) (by simp [results, Tryz.results43, go_sem, yc0, yc1, yc2, yc3]) rfl ?_
      have hfg := four_grown w3 (w.heap.size + 1) 0 (.int .i64 k) (.int .i64 0) (.slice (some ⟨W1.heap.size, 0, none⟩) L.length L.length) (.slice none 0 0)
      simp only [Nat.zero_add] at hfg
      have hrow3 := HROW.out
      rw [List.take_of_length_le (Nat.le_refl _), Nat.sub_self, List.replicate_zero, List.append_nil] at hrow3
      refine ⟨_, rfl, row_keep (row_low hrow3 b1.size) hfg (tyRow_at ((b3.block _ ly).trans HY.out)) (by decide), (b1.trans (b3.mono b1.size)).grown hfg (by have := b1.size; have := b3.size; omega) (fun j hj => by cases hj; omega)⟩
def downs : Nat → List Nat
  | 0 => []
  | k + 1 => k :: downs k
theorem downs_length (k : Nat) : (downs k).length = k := by
  induction k with
  | zero => rfl
  | succ k ih => simp [downs, ih]
abbrev ItV (n : Nat) := { x : Nat × Val // x.1 < n }
abbrev encsV {n : Nat} (x : ItV n) : Array Value := #[.int .i64 x.1.1, .agg #[.bool x.1.2.1, .int .i64 x.1.2.2]]
def HasV (bs : Nat) (p : Option Addr) (n c : Nat) (W : World) : Prop := Boxed W bs 46 (.slice p n c) ∧ ∃ l : List Val, l.length = n ∧ ValsAt W (.slice p n c) l
/-- the box of the slice, and that values are there, stay. -/
def KpV (bs : Nat) (p : Option Addr) (n c : Nat) (W W' : World) : Prop := HasV bs p n c W → HasV bs p n c W'
set_option maxRecDepth 100000 in
set_option maxHeartbeats 2000000 in
theorem backV1_in (n : Nat) (hn : 1 ≤ n) (l bs N : Nat) (p : Option Addr) (c : Nat) (hN : N ≤ 100) (J Jx : List (ItV N) → World → Prop) (W : World)
    (hY : ∀ pre x W1, J pre W1 → pre.length < N → YieldAt Fence.wide (n - 1) Tryz.prog l (encsV x) W1 fun e W' =>
      (e = .returned (.bool true) ∧ J (pre ++ [x]) W' ∧ KpV bs p N c W1 W') ∨ (e = .returned (.bool false) ∧ Jx (pre ++ [x]) W'))
    (hB : HasV bs p N c W) (h0 : J [] W) :
    CallsIn Fence.wide n Tryz.prog 234 #[.func (.yield l) #[] #[], .pointer (some ⟨bs, 0, none⟩)] W fun e W' => (∃ v, e = .returned v) ∧
      ((∃ ys, ys.map (fun y => y.1.1) = downs N ∧ J ys W') ∨ (∃ pre, True ∧ Jx pre W')) := by
  refine callsIn_of_wp Tryz.func234 rfl trivial ?_ rfl
  simp only [Tryz.ntmps234, List.size_toArray, List.length_cons, List.length_nil, Nat.reduceAdd, Nat.reduceSub, Array.replicate_succ, Array.replicate_zero, List.push_toArray, List.append_toArray, List.nil_append, List.cons_append]
  have hc0 := hB.1.cell
  have hwr : wrap64 ((N : Int) - 1) = (N : Int) - 1 := by unfold wrap64; omega
  have HB := hideP hB
  have HY := hideP hY
  clear hB hY
  gi_wp2
  gi_loopw [3] (fun a wr => ∃ (k : Nat) (pre : List (ItV N)), a = .int .i64 ((k : Int) - 1) ∧ k ≤ N ∧ downs N = pre.map (fun y => y.1.1) ++ downs k ∧ J pre wr ∧ HasV bs p N c wr) (fun a _ => (intOf a + 1).toNat)
  case atStart => exact ⟨N, [], rfl, Nat.le_refl _, rfl, h0, HB.out⟩
  case round =>
    obtain ⟨k, pre, rfl, hk, hit, hJ, hBx⟩ := hrel
    have HT := hideP hit
    clear hit
    have hcx := hBx.1.cell
    cases k with
    | zero =>
      rw [show ((0 : Nat) : Int) - 1 = -1 by omega]
      gi_wp2
      go_end0
      refine ⟨⟨_, rfl⟩, .inl ?_⟩
      exact ⟨pre, by rw [HT.out]; simp [downs], hJ⟩
    | succ m =>
      rw [show ((m + 1 : Nat) : Int) - 1 = (m : Int) by omega]
      obtain ⟨-, L, hL, hVx⟩ := id hBx
      obtain ⟨z, hz⟩ := at_of_lt (show m < L.length by omega)
      obtain ⟨p', c', he, _, hcc⟩ := hVx
      obtain ⟨b, off, hp, hbl, g0, g1⟩ := hcc m z hz
      cases he
      subst hp
      obtain ⟨fn, tmps, assign, body, hy, hR⟩ := HY.out pre ⟨(m, z), by omega⟩ _ hJ (by have := congrArg List.length HT.out; simp [downs_length] at this; omega)
      dsimp only [encsV] at hy
      have hmt : (m : Int) < (L.length : Int) := by omega
      have HBX := hideP hBx
      clear hcc hz hBx hJ
      gi_wp2
      refine hR.mono ?_
      rintro e W3 (⟨rfl, hJ3, hk3⟩ | ⟨rfl, hJx3⟩)
      · gi_wp2
        go_roundw
        case rel =>
          refine ⟨m, pre ++ [⟨(m, z), by omega⟩], by go_num, by omega, ?_, hJ3, hk3 HBX.out⟩
          rw [HT.out]; simp [downs]
        case measure => simp [intOf] <;> omega
      · gi_wp2
        refine bodyPost_ret (results_none rfl _ _ _) rfl ?_
        exact ⟨⟨_, rfl⟩, .inr ⟨_, trivial, hJx3⟩⟩
set_option maxHeartbeats 1000000 in
theorem backwardV_any (p : Option Addr) (n c : Nat) (w : World) :
    Calls Tryz.prog 222 #[.slice p n c] w fun e w' => e = .returned (.func (.func 234) #[] #[.pointer (some ⟨w.heap.size, 0, none⟩)]) ∧ w' = w.alloc (.cells #[.slice p n c] 46) := by
  go_enter Tryz.func222, Tryz.ntmps222
  go_wp2
  go_ret
  exact ⟨rfl, rfl⟩
theorem HasV.below {bs : Nat} {p : Option Addr} {n c : Nat} {w W : World} (h : HasV bs p n c w) (hb : Below w.heap.size w W) : HasV bs p n c W :=
  ⟨(hb.block bs h.1.lt).trans h.1, by obtain ⟨l, h1, h2⟩ := h.2; exact ⟨l, h1, h2.below hb⟩⟩
theorem backwardV_stops (n : Nat) (hn : 1 ≤ n) (bs N : Nat) (p : Option Addr) (c : Nat) (hN : N ≤ 100) (w : World) (hB : HasV bs p N c w) :
    SeqStopsK Fence.wide n Tryz.prog 234 #[.pointer (some ⟨bs, 0, none⟩)] (encsV (n := N)) (KpV bs p N c) (fun ys => ys.map (fun y => y.1.1) = downs N) (fun _ => True) N w :=
  fun l J Jx W hW hA _ hY h0 => backV1_in n hn l bs N p c hN J Jx W hY (hB.below hW) h0
theorem kpV_t {bs : Nat} {p : Option Addr} {n c : Nat} {A B C : World} (h : KpV bs p n c A B) (k : KpV bs p n c B C) : KpV bs p n c A C := fun x => k (h x)
theorem vals_grown {w w' : World} {v : Value} {l : List Val} {row : Option Nat} (h : ValsAt w v l) (hg : w.grownBy w' row) (hn : ∀ b, (∃ off n c, v = .slice (some ⟨b, off, none⟩) n c) → some b ≠ row) : ValsAt w' v l := by
  obtain ⟨p, cap, rfl, hm, hc⟩ := h
  refine ⟨p, cap, rfl, hm, fun k o hk => ?_⟩
  obtain ⟨b, off, rfl, hlt, h0, h1⟩ := hc k o hk
  have hne : ∀ i : Nat, row ≠ some (⟨b, i, none⟩ : Addr).block := fun i e => hn b ⟨off, _, _, rfl⟩ e.symm
  exact ⟨b, off, rfl, Nat.lt_of_lt_of_le hlt hg.size, hg.cell h0 (fun e => hn b ⟨off, _, _, rfl⟩ e), hg.cell h1 (fun e => hn b ⟨off, _, _, rfl⟩ e)⟩
theorem kpV_b {bs : Nat} {p : Option Addr} {n c : Nat} {w : World} (W : World) (l : Nat) (o o' : Obj) (_ : w.heap.size ≤ l) (h : W.heap[l]? = some o) (ho : o.isCells = false) (_ : o.isWalk = false) : KpV bs p n c W (W.putObj l o') := fun ⟨x, L, hL, y⟩ => by
  refine ⟨x.kept (grownBy_putObj' W l o') (fun e => by cases e; rw [show W.heap[bs]? = _ from x] at h; cases h; cases ho), L, hL, ?_⟩
  subst hL
  obtain ⟨p', c', he, hm, hc⟩ := y
  cases he
  refine ⟨_, _, rfl, hm, fun k z hk => ?_⟩
  obtain ⟨b, off, rfl, hb, g, g'⟩ := hc k z hk
  have hg := grownBy_putObj' W l o'
  have hne : b ≠ l := fun e => by
    subst e
    obtain ⟨cs, t, fz, hcs, _⟩ := Sort.cells_of_cell? g
    rw [hcs] at h; cases h; cases ho
  exact ⟨b, off, rfl, Nat.lt_of_lt_of_le hb hg.size, hg.cell g (by simpa using hne), hg.cell g' (by simpa using hne)⟩
end Go.Proofs.YtcadpoknolefpaaGreat
/- stride's return. -/
namespace Go.Proofs.YtcadpoknolefpaaGreat
open Go.RowKit
set_option linter.unusedSimpArgs false
set_option linter.unusedVariables false
/-- without the last frame. -/
theorem DIn.cut {w0 W : World} {b : Nat} {pv : Value} {M : Mach} {D : List Frm} {x : Frm} {g cap : Nat} {bv iv ov : Value} {q : List FV} {c : FV} {qb : List Value} (h : DIn w0 W b pv M D x g cap bv iv ov q c qb) : Doer w0 (W.setCell ⟨b, 0, none⟩ (.slice (some ⟨g, 0, none⟩) D.length cap)) b pv { M with frames := D } := by
  have hA := h.at_
  have hgs := set_grown W ⟨b, 0, none⟩ (.slice (some ⟨g, 0, none⟩) D.length cap)
  have hty : TyRow W (some b) 120 := tyRow_at hA.cell
  have hs := heap_setCell_same W b 0 _ _ (.slice (some ⟨g, 0, none⟩) D.length cap) hA.cell
  have hk := hA.own.keep hgs hty (by decide) (by decide) (by decide) (by decide)
  have hrow := row_cut h.fr_row D.length (by omega)
  have e1 : (fCells (q ++ [c])).take (D.length * 4) = fCells q := by
    rw [fCells_append, List.take_append_of_le_length (by rw [fCells_length, h.len]; omega), List.take_of_length_le (by rw [fCells_length, h.len]; omega)]
  rw [e1] at hrow
  have hfrs := hA.own.frs
  rw [h.fr] at hfrs
  refine ⟨.slice (some ⟨g, 0, none⟩) D.length cap, bv, iv, ov, q, qb, ⟨by simpa using hs, ⟨?_, hfrs.cut.keep hgs hty (by decide), hk.bl, hk.rows⟩, hA.bel.setCell hA.lo _, hA.lo⟩⟩
  rw [h.len]
  exact row_keep hrow hgs hty (by decide)
set_option maxRecDepth 100000 in
set_option maxHeartbeats 2000000 in
theorem ret_done (w0 : World) (b : Nat) (pv : Value) (M : Mach) (D : List Frm) (x : Frm)  (w : World) (h : Doer w0 w b pv M) (hF : M.frames = D ++ [x]) (hD : D.length ≤ 100) (hl : x.stk.length ≤ 90) (h0 : D.length = 0) : Calls Tryz.prog 185 #[.pointer (some ⟨b, 0, none⟩)] w fun e w' => e = .returned (.tuple #[]) ∧ Doer w0 w' b pv { M with frames := [], status := 2 } := by
  obtain ⟨g, cap, bv, iv, ov, q, c, qb, H⟩ := h.open hF
  have HI := hideP (innermost_raw b g D.length cap w H.fcell hD)
  obtain ⟨pl, cl, hlv⟩ := row_shp H.loc
  obtain ⟨ps, cs, hsv⟩ := row_shp H.stk
  have hcap : D.length + 1 ≤ cap := by
    rcases H.fr_row.2 with ⟨h1, _⟩ | ⟨g', cap', cur', h1, _, _, h4, _⟩
    · cases h1
    · cases h1; exact h4
  have HH0 := hideP H
  clear h
  go_enter Tryz.func185, Tryz.ntmps185
  go_wp2_with fail
  refine HI.out.mono ?_
  rintro e w2 ⟨rfl, b2⟩
  have H2 := HH0.out.below b2
  have c0 := H2.c0
  have c1 := H2.c1
  have c2 := H2.c2
  have c3 := H2.c3
  rw [hlv] at c2
  rw [hsv] at c3
  obtain ⟨W3, hW3⟩ : ∃ W3, w2.alloc (.cells #[.int .i64 x.fn, .int .i64 x.pc, .slice pl x.loc.length cl, .slice ps x.stk.length cs] 48) = W3 := ⟨_, rfl⟩
  have b3 : Below w2.heap.size w2 W3 := by rw [← hW3]; exact (Below.refl _ w2).alloc (Nat.le_refl _) _
  have x3 : W3.heap[w2.heap.size]? = some (.cells #[.int .i64 x.fn, .int .i64 x.pc, .slice pl x.loc.length cl, .slice ps x.stk.length cs] 48 (0, 0)) := by rw [← hW3]; exact World.alloc_heap_new w2 _
  have H3 := H2.below b3
  have f0 := H3.fcell
  have f3 : W3.cell? ⟨w2.heap.size, 3, none⟩ = some (.slice ps x.stk.length cs) := cell_at' x3 3
  have z0 := Lib.frozen_of_heap H3.at_.cell 0
  have f4 := H3.at_.cells.2.2.2.2.1
  have z4 := Lib.frozen_of_heap H3.at_.cell 4
  have hbne : ¬ w2.heap.size = b := by have := H2.at_.lt; omega
  have hbne' : ¬ b = w2.heap.size := fun e => hbne e.symm
  have HH3 := hideP H3
  have HSV := hideP hsv
  have HX3 := hideP x3
  clear HI H H2 H3 hlv hsv x3 HH0 hF
  have h00 : ((D.length : Int) == 0) = true := by simp [h0]
  have H0 := hideP h0
  clear h0
  go_wp2_with fail
  go_region
  go_wp2
  first | go_end0 | refine bodyPost_ret (results_none rfl _ _ _) rfl ?_
  have hD0 : D = [] := List.length_eq_zero_iff.1 H0.out
  obtain ⟨fv5, bv5, iv5, ov5, q5, qb5, D5⟩ := HH3.out.cut
  have h5 := (D5.setSt 2).below ((Below.refl _ _).drew)
  subst hD0
  exact ⟨rfl, h5⟩
set_option maxRecDepth 100000 in
set_option maxHeartbeats 2000000 in
theorem ret_on (w0 : World) (b : Nat) (pv : Value) (M : Mach) (D : List Frm) (x : Frm) (D' : List Frm) (y : Frm) (w : World) (h : Doer w0 w b pv M) (hF : M.frames = D ++ [x]) (hD : D.length ≤ 100) (hl : x.stk.length ≤ 90) (h0 : D = D' ++ [y]) (hly : y.stk.length ≤ 90) : Calls Tryz.prog 185 #[.pointer (some ⟨b, 0, none⟩)] w fun e w' => e = .returned (.tuple #[]) ∧ Doer w0 w' b pv { M with frames := D' ++ [{ y with stk := y.stk ++ x.stk }] } := by
  obtain ⟨g, cap, bv, iv, ov, q, c, qb, H⟩ := h.open hF
  have HI := hideP (innermost_raw b g D.length cap w H.fcell hD)
  obtain ⟨pl, cl, hlv⟩ := row_shp H.loc
  obtain ⟨ps, cs, hsv⟩ := row_shp H.stk
  have hcap : D.length + 1 ≤ cap := by
    rcases H.fr_row.2 with ⟨h1, _⟩ | ⟨g', cap', cur', h1, _, _, h4, _⟩
    · cases h1
    · cases h1; exact h4
  have HH0 := hideP H
  clear h
  go_enter Tryz.func185, Tryz.ntmps185
  go_wp2_with fail
  refine HI.out.mono ?_
  rintro e w2 ⟨rfl, b2⟩
  have H2 := HH0.out.below b2
  have c0 := H2.c0
  have c1 := H2.c1
  have c2 := H2.c2
  have c3 := H2.c3
  rw [hlv] at c2
  rw [hsv] at c3
  obtain ⟨W3, hW3⟩ : ∃ W3, w2.alloc (.cells #[.int .i64 x.fn, .int .i64 x.pc, .slice pl x.loc.length cl, .slice ps x.stk.length cs] 48) = W3 := ⟨_, rfl⟩
  have b3 : Below w2.heap.size w2 W3 := by rw [← hW3]; exact (Below.refl _ w2).alloc (Nat.le_refl _) _
  have x3 : W3.heap[w2.heap.size]? = some (.cells #[.int .i64 x.fn, .int .i64 x.pc, .slice pl x.loc.length cl, .slice ps x.stk.length cs] 48 (0, 0)) := by rw [← hW3]; exact World.alloc_heap_new w2 _
  have H3 := H2.below b3
  have f0 := H3.fcell
  have f3 : W3.cell? ⟨w2.heap.size, 3, none⟩ = some (.slice ps x.stk.length cs) := cell_at' x3 3
  have z0 := Lib.frozen_of_heap H3.at_.cell 0
  have f4 := H3.at_.cells.2.2.2.2.1
  have z4 := Lib.frozen_of_heap H3.at_.cell 4
  have hbne : ¬ w2.heap.size = b := by have := H2.at_.lt; omega
  have hbne' : ¬ b = w2.heap.size := fun e => hbne e.symm
  have HH3 := hideP H3
  have HSV := hideP hsv
  have HX3 := hideP x3
  clear HI H H2 H3 hlv hsv x3 HH0 hF
  have h00 : ((D.length : Int) == 0) = false := by rw [h0]; simp; omega
  have hD' : D'.length ≤ 100 := by rw [h0] at hD; simp at hD; omega
  have H0 := hideP h0
  clear h0
  go_wp2_with fail
  go_region
  go_wp2_with fail
  have hcut := HH3.out.cut
  have hrow := row_keep HH3.out.stk (set_grown W3 ⟨b, 0, none⟩ (.slice (some ⟨g, 0, none⟩) D.length cap)) (tyRow_at HH3.out.at_.cell) (by decide)
  rw [HSV.out] at hrow
  have hv := valsAt_of_row hrow
  refine (dPut_any w0 b pv _ D' y _ x.stk _ (hcut.below ((Below.refl _ _).drew)) H0.out (hv.below ((Below.refl _ _).drew)) (nilOk_row hrow) hD' (by omega) (by omega)).mono ?_
  rintro e w4 ⟨rfl, h4, -, -⟩
  have H4 := hideP h4
  clear h4 hcut hrow hv
  go_wp2
  go_end0
  exact ⟨rfl, H4.out⟩
end Go.Proofs.YtcadpoknolefpaaGreat
/- stride's call. -/
namespace Go.Proofs.YtcadpoknolefpaaGreat
open Go.RowKit Go.Shelf
set_option linter.unusedSimpArgs false
set_option linter.unusedVariables false
attribute [local go_sem] Oper.semAt_some
theorem row_cells {W : World} {B : Nat} {e : TypeId} {size n cap g : Nat} {xs : List Value} (h : W.ownsRow B e size (.slice (some ⟨g, 0, none⟩) n cap) n xs) (j : Nat) (u : Value) (hj : xs[j]? = some u) : W.cell? ⟨g, j, none⟩ = some u := by
  rcases h.2 with ⟨h1, _⟩ | ⟨g', cap', cur, h1, h2, h3, h4, h5, h6, h7⟩
  · cases h1
  · cases h1
    rw [cell_at' h3]
    rw [← h7, List.getElem?_take] at hj
    split at hj
    · simpa using hj
    · cases hj
theorem DAt.open {w0 W : World} {b : Nat} {pv fv bv iv ov : Value} {q' : List FV} {qb : List Value} {M : Mach} {D : List Frm} {x : Frm} (h : DAt w0 W b pv fv bv iv ov q' qb M) (hF : M.frames = D ++ [x]) : ∃ g cap q c, q' = q ++ [c] ∧ fv = .slice (some ⟨g, 0, none⟩) (D.length + 1) cap ∧ DIn w0 W b pv M D x g cap bv iv ov q c qb := by
  have hl := h.own.frs.len
  rw [hF] at hl
  obtain ⟨q, c, rfl⟩ : ∃ q c, q' = q ++ [c] := by
    rcases List.eq_nil_or_concat q' with h0 | ⟨q, c, h0⟩
    · subst h0; simp at hl
    · exact ⟨q, c, by simpa using h0⟩
  have hlen : q.length = D.length := by simpa using hl
  have hrow := h.own.fr
  have hn : (q ++ [c]).length = D.length + 1 := by simp [hlen]
  rcases hrow.2 with ⟨_, h0⟩ | ⟨g, cap, cur, hv, hB, hg, h1, h2, h3, h4⟩
  · omega
  have hfrs := h.own.frs
  rw [hF] at hfrs
  have hx : (D ++ [x])[q.length]? = some x := by rw [hlen]; exact snoc_last _ _
  obtain ⟨e1, e2⟩ := hfrs.nums q.length c x (snoc_last _ _) hx
  obtain ⟨a0, a1, a2, a3⟩ := fCells_at (q ++ [c]) q.length c (snoc_last _ _)
  obtain ⟨r1, r2⟩ := fRows_at (q ++ [c]) q.length c (snoc_last _ _)
  obtain ⟨v1, v2⟩ := fVals_at (D ++ [x]) q.length x hx
  have o1 := hfrs.rows.each _ _ _ r1 v1
  have o2 := hfrs.rows.each _ _ _ r2 v2
  rw [← h4, List.getElem?_take_of_lt (by omega)] at a0 a1 a2 a3
  rw [hn] at hv
  subst hv
  refine ⟨g, cap, q, c, rfl, rfl, h, hF, hlen, e1, e2, ?_, ?_, ?_, ?_, ⟨_, hg⟩, o1, o2⟩
  · rw [cell_at' hg, ← e1, ← hlen]; simpa using a0
  · rw [cell_at' hg, ← e2, ← hlen]; simpa using a1
  · rw [cell_at' hg, ← hlen]; simpa using a2
  · rw [cell_at' hg, ← hlen]; simpa using a3
/-- a doer none of whose frames' rows is a block. -/
def DoerN (w0 W : World) (b : Nat) (pv : Value) (M : Mach) (z : Nat) : Prop := ∃ fv bv iv ov q qb, DAt w0 W b pv fv bv iv ov q qb M ∧ ∀ y ∈ fRows q, y.ownBlock ≠ some z
theorem DoerN.doer {w0 W : World} {b : Nat} {pv : Value} {M : Mach} {z : Nat} (h : DoerN w0 W b pv M z) : Doer w0 W b pv M := by
  obtain ⟨fv, bv, iv, ov, q, qb, h, _⟩ := h
  exact ⟨fv, bv, iv, ov, q, qb, h⟩
theorem DoerN.below {w0 W W' : World} {b : Nat} {pv : Value} {M : Mach} {z : Nat} (h : DoerN w0 W b pv M z) (hb : Below W.heap.size W W') : DoerN w0 W' b pv M z := by
  obtain ⟨fv, bv, iv, ov, q, qb, h, hn⟩ := h
  exact ⟨fv, bv, iv, ov, q, qb, h.below hb, hn⟩
theorem mem_fRows {q : List FV} {y : Value} (h : y ∈ fRows q) : ∃ (k : Nat) (c : FV), q[k]? = some c ∧ (y = c.lv ∨ y = c.sv) := by
  obtain ⟨c, hc, hy⟩ := List.mem_flatMap.1 h
  obtain ⟨k, hk⟩ := List.getElem?_of_mem hc
  exact ⟨k, c, hk, by simpa using hy⟩
theorem Doer.fresh {w0 W : World} {b : Nat} {pv : Value} {M : Mach} (h : Doer w0 W b pv M) {z : Nat} (hz : W.heap.size ≤ z) : DoerN w0 W b pv M z := by
  obtain ⟨fv, bv, iv, ov, q, qb, h⟩ := h
  refine ⟨fv, bv, iv, ov, q, qb, h, fun y hy e => ?_⟩
  obtain ⟨k, hk⟩ := List.getElem?_of_mem hy
  have := (h.own.frs.rows.lt hk e).2.1
  omega
theorem DoerN.take {w0 W W' : World} {b : Nat} {pv : Value} {M M' : Mach} {z : Nat} {D : List Frm} {x x' : Frm} (h : DoerN w0 W b pv M z) (hF : M.frames = D ++ [x]) (hx : x.stk ≠ []) (h' : Doer w0 W' b pv M') (hF' : M'.frames = D ++ [x']) (ho : OnlyFr b W W') (hc : StkCut b W W') : DoerN w0 W' b pv M' z := by
  obtain ⟨fv, bv, iv, ov, q0, qb, hA, hn⟩ := h
  obtain ⟨fv', bv', iv', ov', q0', qb', hA'⟩ := h'
  obtain ⟨g, cap, q, c, rfl, rfl, H⟩ := hA.open hF
  obtain ⟨g', cap', q', c', rfl, rfl, H'⟩ := hA'.open hF'
  obtain ⟨og, oj⟩ := ho _ _ _ H.fcell
  have hb0 := og.cell H.fcell (fun e => H.gne (by simpa using e))
  have hgg : g' = g := H'.one hb0
  subst hgg
  refine ⟨_, _, _, _, _, _, hA', fun y hy e => ?_⟩
  obtain ⟨k, d', hk, hy⟩ := mem_fRows hy
  have hkl := lt_of_at hk
  have hlen : (q' ++ [c']).length = (q ++ [c]).length := by simp [H.len, H'.len]
  obtain ⟨d, hd⟩ := at_of_lt (l := q ++ [c]) (k := k) (by omega)
  obtain ⟨-, -, a2, a3⟩ := fCells_at _ _ _ hd
  obtain ⟨-, -, b2, b3⟩ := fCells_at _ _ _ hk
  obtain ⟨r1, r2⟩ := fRows_at _ _ _ hd
  have ca2 := row_cells H.fr_row _ _ a2
  have ca3 := row_cells H.fr_row _ _ a3
  have cb2 := row_cells H'.fr_row _ _ b2
  have cb3 := row_cells H'.fr_row _ _ b3
  have hql : (q ++ [c]).length = D.length + 1 := by simp [H.len]
  rcases hy with rfl | rfl
  · have := (oj (k * 4 + 2) (by omega)).symm.trans cb2
    rw [ca2] at this
    rw [← Option.some.inj this] at e
    exact hn _ (List.mem_of_getElem? r1) e
  · by_cases hkD : k = D.length
    · have hst := H.stk
      obtain ⟨m, hm⟩ : ∃ m, x.stk.length = m + 1 := ⟨x.stk.length - 1, by have := List.length_pos_iff.2 hx; omega⟩
      rw [hm] at hst
      obtain ⟨gs, caps, hsv⟩ := ownsRow_succ hst
      have h3 := H.c3
      rw [hsv] at h3
      have := hc _ _ _ _ _ _ H.fcell (by rw [Nat.add_sub_cancel]; exact h3)
      rw [Nat.add_sub_cancel] at this
      rw [hkD, this] at cb3
      have e2 : d'.sv = .slice (some ⟨gs, 0, none⟩) (m + 1 - 1) caps := (Option.some.inj cb3).symm
      rw [e2] at e
      refine hn c.sv ?_ ?_
      · have hc1 : (q ++ [c])[D.length]? = some c := by rw [← H.len]; exact snoc_last _ _
        exact List.mem_of_getElem? (fRows_at _ _ _ hc1).2
      · rw [hsv]; exact e
    · have := (oj (k * 4 + 3) (by omega)).symm.trans cb3
      rw [ca3] at this
      rw [← Option.some.inj this] at e
      exact hn _ (List.mem_of_getElem? r2) e
/-- values elsewhere are written. -/
theorem DoerN.other {w0 W W' : World} {b : Nat} {pv : Value} {M : Mach} {z : Nat} (h : DoerN w0 W b pv M z) (hg : W.grownBy W' (some z)) (ht : TyRow W (some z) 50) (hz : w0.heap.size ≤ z) : DoerN w0 W' b pv M z := by
  obtain ⟨fv, bv, iv, ov, q, qb, h, hn⟩ := h
  refine ⟨fv, bv, iv, ov, q, qb, ⟨?_, ⟨row_keep h.own.fr hg ht (by decide), ⟨h.own.frs.len, h.own.frs.nums, h.own.frs.rows.same fun k x g hx hgx => ?_⟩, row_keep h.own.bl hg ht (by decide), h.own.rows.keep hg ht (by decide)⟩, h.bel.grown hg h.bel.size (fun k hk => by cases hk; exact hz), h.lo⟩, hn⟩
  · refine (hg.block b h.lt (fun e => ?_)).trans h.cell
    obtain ⟨cs, fz, hh⟩ := ht b e.symm
    rw [h.cell] at hh; simp at hh
  · refine hg.block g (h.own.frs.rows.lt hx hgx).2.1 (fun e => ?_)
    cases e
    exact hn x (List.mem_of_getElem? hx) hgx
/-- one frame more. -/
theorem DAt.push {w0 W : World} {b : Nat} {pv fv bv iv ov : Value} {q : List FV} {qb : List Value} {M : Mach} (h : DAt w0 W b pv fv bv iv ov q qb M) {W2 : World} {u : Value} {c : FV} {x : Frm} (hg : W.grownBy W2 fv.ownBlock) (hr : W2.ownsRow w0.heap.size 48 4 u (q.length + 1) (fCells (q ++ [c]))) (h1 : c.fn = x.fn) (h2 : c.pc = x.pc) (hl : W2.ownsRow w0.heap.size 50 2 c.lv x.loc.length (valCells x.loc)) (hs : c.sv = .slice none 0 0) (hx : x.stk = []) (hn : ∀ y ∈ fRows q, ∀ z, c.lv.ownBlock = some z → y.ownBlock ≠ some z) : Doer w0 (W2.setCell ⟨b, 0, none⟩ u) b pv { M with frames := M.frames ++ [x] } := by
  have hty : TyRow W fv.ownBlock 48 := tyRow_row h.own.fr
  have hcell2 : W2.heap[b]? = _ := (hg.block b h.lt (fun e => by
    obtain ⟨cs, fz, hh⟩ := hty b e.symm
    rw [h.cell] at hh; simp at hh)).trans h.cell
  have hgs := set_grown W2 ⟨b, 0, none⟩ u
  have hty2 : TyRow W2 (some b) 120 := tyRow_at hcell2
  have hsc := heap_setCell_same W2 b 0 _ _ u hcell2
  have hfr := h.own.frs.keep hg hty (by decide)
  have hfs : FRows W2 w0.heap.size (q ++ [c]) (M.frames ++ [x]) := by
    refine ⟨by simp [hfr.len], fun k d y hd hy => ?_, ?_⟩
    · rcases snoc_at hd with ⟨a1, a2⟩ | ⟨a1, rfl⟩
      · rcases snoc_at hy with ⟨b1, b2⟩ | ⟨b1, rfl⟩
        · exact hfr.nums k d y a2 b2
        · have := hfr.len; omega
      · rcases snoc_at hy with ⟨b1, b2⟩ | ⟨b1, rfl⟩
        · have := hfr.len; omega
        · exact ⟨h1, h2⟩
    · have e1 : fRows (q ++ [c]) = (fRows q ++ [c.lv]) ++ [c.sv] := by simp [fRows]
      have e2 : fVals (M.frames ++ [x]) = (fVals M.frames ++ [x.loc]) ++ [x.stk] := by simp [fVals]
      rw [e1, e2, hs, hx]
      refine (hfr.rows.snoc hl fun k y g h3 h4 h5 => hn y (List.mem_of_getElem? h3) g h5 h4).snoc (by simpa [valCells] using World.ownsRow_nil W2 w0.heap.size 50 2) fun k y g h3 h4 h5 => by cases h5
  refine ⟨u, bv, iv, ov, q ++ [c], qb, ⟨by simpa using hsc, ⟨?_, hfs.keep hgs hty2 (by decide), row_keep (row_keep h.own.bl hg hty (by decide)) hgs hty2 (by decide), (h.own.rows.keep hg hty (by decide)).keep hgs hty2 (by decide)⟩, (h.bel.grown hg h.bel.size (fun k hk => (h.own.fr.lt k hk).1)).setCell h.lo _, h.lo⟩⟩
  rw [show (q ++ [c]).length = q.length + 1 by simp]
  exact row_keep hr hgs hty2 (by decide)
end Go.Proofs.YtcadpoknolefpaaGreat
