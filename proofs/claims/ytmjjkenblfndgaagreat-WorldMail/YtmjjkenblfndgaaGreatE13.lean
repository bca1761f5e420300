/- My texts Mh Mq Qb Qc Qd Qe: what of them is needed, joined. -/
import Derived.Defers
import Derived.Recover
import Derived.Laws.Pointers
import Derived.Test.YtmjjkenblfndgaaGreatE5
import Derived.Test.YtmjjkenblfndgaaGreatE9
import Derived.Test.YtmjjkenblfndgaaGreatE12
set_option maxRecDepth 100000
set_option maxHeartbeats 8000000
/- stride's ops: new blocks, boxes, returns. -/
namespace Go.Proofs.YtmjjkenblfndgaaGreat
open Go.RowKit
set_option linter.unusedSimpArgs false
set_option linter.unusedVariables false
structure FAt (w0 W : World) (b : Nat) (pv fv bv iv ov : Value) (q : List FV) (qb : List Value) (M : Mach) (k : Nat) (iw : Value) (I : List Int) : Prop where
  cell : W.heap[b]? = some (.cells #[fv, bv, iv, ov, .int .i64 M.status, .int .i64 M.trap, pv] 162 (0, 0))
  own : MOwn W w0.heap.size fv bv iw ov q qb { M with inp := I }
  bel : Below w0.heap.size w0 W
  rest : M.inp = I.drop k
  val : (k = 0 ∧ iv = iw) ∨ ∃ g n cap j c, iw = .slice (some ⟨g, 0, none⟩) n cap ∧ iv = .slice (some ⟨g, j, none⟩) (n - k) c ∧ (j = k ∧ k ≤ n ∨ n - k = 0 ∧ c = 0) ∧ n - k ≤ c ∧ j + c ≤ cap ∧ n ≤ 1000
def Fin (w0 W : World) (b : Nat) (pv : Value) (M : Mach) : Prop := ∃ fv bv iv ov q qb k iw I, FAt w0 W b pv fv bv iv ov q qb M k iw I
theorem Doer.fin {w0 W : World} {b : Nat} {pv : Value} {M : Mach} (h : Doer w0 W b pv M) : Fin w0 W b pv M := by
  obtain ⟨fv, bv, iv, ov, q, qb, h⟩ := h
  exact ⟨fv, bv, iv, ov, q, qb, 0, iv, M.inp, h.cell, h.own, h.bel, rfl, .inl ⟨rfl, rfl⟩⟩
theorem row_cap {W : World} {B : Nat} {e : TypeId} {size n m cap : Nat} {p : Option Addr} {xs : List Value} (h : W.ownsRow B e size (.slice p m cap) n xs) (hn : 0 < n) : ∃ g, p = some ⟨g, 0, none⟩ ∧ m = n ∧ n ≤ cap := by
  rcases h.2 with ⟨h1, h0⟩ | ⟨g, cap', cur, h1, _, _, h2, h3, _⟩
  · omega
  · cases h1
    exact ⟨g, rfl, rfl, by omega⟩
theorem rc_any (w0 : World) (b : Nat) (pv : Value) (M : Mach) (D : List Frm) (x : Frm) (n : Int) (I : List Int) (w : World) (h : Doer w0 w b pv M) (hF : M.frames = D ++ [x]) (hD : D.length ≤ 100) (hl : x.stk.length ≤ 90) (hi : M.inp = n :: I) (hil : M.inp.length ≤ 100) : Calls Tryz.prog 150 #[.pointer (some ⟨b, 0, none⟩)] w fun e w' => e = .returned (.tuple #[]) ∧ Fin w0 w' b pv { M with frames := D ++ [{ x with stk := x.stk ++ [(false, n)] }], inp := I } := by
  obtain ⟨fv, bv, iv, ov, q, qb, D0⟩ := h
  obtain ⟨p, cap, hiv⟩ := xaiZ D0.own.inp
  have hin := D0.own.inp
  rw [hiv] at hin
  obtain ⟨g, hp, -, hcap⟩ := row_cap hin (by rw [hi]; simp)
  have hin2 := xbaZ rfl hin
  subst hp
  have hlen : M.inp.length = I.length + 1 := by rw [hi]; simp
  have k2 := D0.cells.2.2.1
  rw [hiv] at k2
  obtain ⟨p', cap', hv', -, hcc⟩ := hin2
  obtain ⟨b', off', hb', hbl, e0⟩ := hcc 0 n (by rw [hi]; rfl)
  cases hv'
  cases hb'
  simp only [Nat.add_zero] at e0
  rw [hlen] at k2
  have HD0 := hideP D0
  have HI := hideP hi
  have HV := hideP hiv
  have hc0 : (0 : Int) ≤ (cap : Int) - 1 := by omega
  have hgb : g ≠ b := fun e => by
    obtain ⟨cs, hh⟩ := xdnZ (g := g) hin rfl
    rw [e, D0.cell] at hh
    simp at hh
  clear D0 hcc hin hi hiv
  go_enter Tryz.func150, Tryz.ntmps150
  go_wp2_with (go_at_call 184; refine (xbtZ w0 b pv M D x _ _ ⟨_, _, _, _, _, _, HD0.out⟩ hF hD (by omega)).mono ?_; rintro e w2 ⟨rfl, h2, o2⟩; obtain ⟨fv2, bv2, iv2, ov2, q2, qb2, D2⟩ := h2; have j2 := D2.cells.2.2.1; have hiv2 : iv2 = .slice (some ⟨g, 0, none⟩) (I.length + 1) cap := (by have := (xaaZ (o2 _ _ _ _ HD0.out.cell (by decide) (by decide)) 2).symm.trans (D2.cells.2.2.1); rw [HV.out, hlen] at this; simpa using this.symm); rw [hiv2] at j2; have z2 := Lib.frozen_of_heap D2.cell 2; have HD2 := hideP D2; have HV2 := hideP hiv2; clear D2 o2 hiv2)
  · first | go_end0 | refine bodyPost_ret (results_none rfl _ _ _) rfl ?_
    have D2 := HD2.out
    have hgs := xakZ w2 ⟨b, 2, none⟩ (.slice (some ⟨g, 0, none⟩) I.length 0)
    have hty : TyRow w2 (some b) 162 := xatZ D2.cell
    have hs := heap_setCell_same w2 b 2 _ _ (.slice (some ⟨g, 0, none⟩) I.length 0) D2.cell
    have hk := D2.own.keep hgs hty (by decide) (by decide) (by decide) (by decide)
    have hrows := hk.rows
    simp only at hrows
    rw [HI.out] at hrows
    exact ⟨rfl, fv2, bv2, .slice (some ⟨g, 0, none⟩) I.length 0, ov2, q2, qb2, 1, iv2, n :: I, by simpa using hs, ⟨hk.fr, hk.frs, hk.bl, hrows⟩, D2.bel.setCell D2.lo _, rfl, .inr ⟨g, I.length + 1, cap, 0, 0, HV2.out, by simp, by omega, by omega, by omega, by omega⟩⟩
  · first | go_end0 | refine bodyPost_ret (results_none rfl _ _ _) rfl ?_
    have D2 := HD2.out
    have hgs := xakZ w2 ⟨b, 2, none⟩ (.slice (some ⟨g, 1, none⟩) I.length (cap - 1))
    have hty : TyRow w2 (some b) 162 := xatZ D2.cell
    have hs := heap_setCell_same w2 b 2 _ _ (.slice (some ⟨g, 1, none⟩) I.length (cap - 1)) D2.cell
    have hk := D2.own.keep hgs hty (by decide) (by decide) (by decide) (by decide)
    have hrows := hk.rows
    simp only at hrows
    rw [HI.out] at hrows
    exact ⟨rfl, fv2, bv2, .slice (some ⟨g, 1, none⟩) I.length (cap - 1), ov2, q2, qb2, 1, iv2, n :: I, by simpa using hs, ⟨hk.fr, hk.frs, hk.bl, hrows⟩, D2.bel.setCell D2.lo _, rfl, .inr ⟨g, I.length + 1, cap, 1, (cap - 1), HV2.out, by simp, by omega, by omega, by omega, by omega⟩⟩
theorem nb_trap (w0 : World) (b : Nat) (pv : Value) (M : Mach) (D : List Frm) (x : Frm) (r : List Val) (v : Val) (w : World) (h : Doer w0 w b pv M) (hF : M.frames = D ++ [x]) (hD : D.length ≤ 100) (hl : x.stk.length ≤ 90) (hs : x.stk = r ++ [v]) (hsz : -9223372036854775808 ≤ v.2 ∧ v.2 ≤ 9223372036854775807) (he : xbsZ M.blocks v.2 ≠ 0) : Calls Tryz.prog 194 #[.pointer (some ⟨b, 0, none⟩)] w fun e w' => e = .panicked [{ v := .iface 159 (.int .i64 3), recovered := false }] ∧ Below w0.heap.size w0 w' := by
  have hrl := xbgZ hs
  have hfd := xcmZ
  obtain ⟨g, cap, bv, iv, ov, q, c, qb, H0⟩ := h.open hF
  have k1 := H0.at_.cells.2.1
  obtain ⟨pb, nb, cb, hbv⟩ := xc2Z H0.at_.own.blks
  rw [hbv] at k1
  have HV := hideP hbv
  have H1 := hideP H0
  have HE := hideP he
  clear h H0 he hbv
  go_enter Tryz.func194, Tryz.ntmps194
  go_wp2_with fail
  go_region_held3 (fun W => W.cell? ⟨b, 1, none⟩ = some (.slice pb nb cb)) (first | go_keep | exact n1)
    (first
      | (go_at_call 186; (refine (xawZ w0 b pv M D x r v _ (H1.out.below ((Below.refl _ w).drew)).doer hF hs hD (by omega)).mono ?_); rintro e w2 ⟨rfl, h2, o2⟩; obtain ⟨og, oj⟩ := o2 _ _ _ (H1.out.below ((Below.refl _ w).drew)).fcell; have n1 := og.cell (H1.out.below ((Below.refl _ w).drew)).at_.cells.2.1 (fun e => (H1.out.below ((Below.refl _ w).drew)).gne (by simpa using e)); obtain ⟨fv2, bv2, iv2, ov2, q2, qb2, D2⟩ := h2; have hbv2 : bv2 = .slice pb nb cb := (by have := n1.symm.trans D2.cells.2.1; rw [HV.out] at this; simpa using this.symm); rw [HV.out] at n1; subst hbv2; have HD2 := hideP D2; clear D2 o2 og oj)
      | (go_at_call 226; (refine (bNew_any M.blocks v.2 hsz _ _ (xbjZ HD2.out.own.blks)).mono ?_); rintro e w3 ⟨u, rfl, u3, b3⟩; obtain ⟨pu, nu, cu, hpu⟩ := xc2Z u3; subst hpu; have HD3 := hideP (HD2.out.below b3); have n1 := HD3.out.cells.2.1; have z1 := Lib.frozen_of_heap HD3.out.cell 1; have U3 := hideP u3; have B3 := hideP b3; clear u3 b3))
  have he' : (xbsZ M.blocks v.2 != 0) = true := by simpa using HE.out
  go_wp2
  exact ⟨rfl, rfl, HD3.out.bel⟩
theorem nb_ok (w0 : World) (b : Nat) (pv : Value) (M : Mach) (D : List Frm) (x : Frm) (r : List Val) (v : Val) (w : World) (h : Doer w0 w b pv M) (hF : M.frames = D ++ [x]) (hD : D.length ≤ 100) (hl : x.stk.length ≤ 90) (hs : x.stk = r ++ [v]) (hsz : -9223372036854775808 ≤ v.2 ∧ v.2 ≤ 9223372036854775807) (he : xbsZ M.blocks v.2 = 0) : Calls Tryz.prog 194 #[.pointer (some ⟨b, 0, none⟩)] w fun e w' => e = .returned (.tuple #[]) ∧ Doer w0 w' b pv { M with frames := D ++ [{ x with stk := r ++ [(true, xg9Z M.blocks v.2)] }], blocks := newR M.blocks v.2 } := by
  have hrl := xbgZ hs
  have hfd := xcmZ
  obtain ⟨g, cap, bv, iv, ov, q, c, qb, H0⟩ := h.open hF
  have k1 := H0.at_.cells.2.1
  obtain ⟨pb, nb, cb, hbv⟩ := xc2Z H0.at_.own.blks
  rw [hbv] at k1
  have HV := hideP hbv
  have H1 := hideP H0
  have HE := hideP he
  clear h H0 he hbv
  go_enter Tryz.func194, Tryz.ntmps194
  go_wp2_with fail
  go_region_held3 (fun W => W.cell? ⟨b, 1, none⟩ = some (.slice pb nb cb)) (first | go_keep | exact n1)
    (first
      | (go_at_call 186; (refine (xawZ w0 b pv M D x r v _ (H1.out.below ((Below.refl _ w).drew)).doer hF hs hD (by omega)).mono ?_); rintro e w2 ⟨rfl, h2, o2⟩; obtain ⟨og, oj⟩ := o2 _ _ _ (H1.out.below ((Below.refl _ w).drew)).fcell; have n1 := og.cell (H1.out.below ((Below.refl _ w).drew)).at_.cells.2.1 (fun e => (H1.out.below ((Below.refl _ w).drew)).gne (by simpa using e)); obtain ⟨fv2, bv2, iv2, ov2, q2, qb2, D2⟩ := h2; have hbv2 : bv2 = .slice pb nb cb := (by have := n1.symm.trans D2.cells.2.1; rw [HV.out] at this; simpa using this.symm); rw [HV.out] at n1; subst hbv2; have HD2 := hideP D2; clear D2 o2 og oj)
      | (go_at_call 226; (refine (bNew_any M.blocks v.2 hsz _ _ (xbjZ HD2.out.own.blks)).mono ?_); rintro e w3 ⟨u, rfl, u3, b3⟩; obtain ⟨pu, nu, cu, hpu⟩ := xc2Z u3; subst hpu; have HD3 := hideP (HD2.out.below b3); have n1 := HD3.out.cells.2.1; have z1 := Lib.frozen_of_heap HD3.out.cell 1; have U3 := hideP u3; have B3 := hideP b3; clear u3 b3))
  rw [HE.out]
  go_wp2_with (go_at_call 185; refine (xi7Z w0 b pv _ D _ _ _ (HD2.out.setBl B3.out U3.out) rfl hD (by simp; omega)).mono ?_; rintro e w5 ⟨rfl, h5, -⟩; have H5 := hideP h5; clear h5)
  go_end0
  have := H5.out
  exact ⟨rfl, this⟩
theorem xfeZ {P : Program} {ops : Array Oper} {o : Oper} {a : Act} {w : World} {K : Act → World → Prop} {Q : Exit → Act → World → Prop} {E : Prop}
    (hg : o.guard = none) (s x : Operand) (t : TypeId) (hop : o.op = Op.call { callee := Callee.builtin Builtin.append, args := #[s, x], argTypes := #[t, t] })
    (base : Nat) (e : TypeId) (i : TypeInfo) (z : Value) (size bytes : Nat) (h1 : P.underlying t = some (.slice e)) (h2 : P.info? e = some i) (h3 : i.zero = some z) (h4 : i.size = size) (h5 : i.bytes = bytes) (h6 : z.cells.size = size) (h7 : 0 < size)
    (v : Value) (n : Nat) (xs : List Value) (hs : a.eval s = v) (hown : w.ownsRow base e size v n xs)
    (ad : Addr) (m c : Nat) (news : List Value) (hx : a.eval x = .slice (some ad) m c) (hn : news.length = m * size) (hc : ∀ j u, news[j]? = some u → w.cell? (ad.add j) = some u) (h1c : ∀ u ∈ news, u.oneCell' = true)
    (b1 : n + m ≤ maxLen) (b2 : (n + m) * bytes ≤ 140737488355328) (hbase : base ≤ w.heap.size)
    (hK : ∀ v' w', w'.ownsRow base e size v' (n + m) (xs ++ news) → w.grownBy w' v.ownBlock → (v'.ownBlock = v.ownBlock ∨ v'.ownBlock = some w.heap.size) → K (a.put o.dst v') w') :
    if Region.wanted o (yielded ops a.tmps) = true then Oper.wp P o a w K Q else E := by
  have hw : Region.wanted o (yielded ops a.tmps) = true := by simp [Region.wanted, hg]
  rw [if_pos hw]
  obtain ⟨v', w', hrun, r1, r2, _, r3⟩ := run_append_own_at (P := P) w base t o.type e i z size bytes h1 h2 h3 h4 h5 h6 h7 v n xs hown ad m c news hn hc h1c b1 b2 hbase
  unfold Oper.wp
  simp [execOp, hop, resolve, invoke, builtin, hs, hx, hrun, Result.andThen]
  exact hK v' w' r1 r2 r3
theorem BRows.swap {W W' : World} {B : Nat} {q : List Value} {L : List (List Int)} {k : Nat} {x y : Value} {b : List Int} (h : BRows W B q L) (hk : q[k]? = some x) (hg : W.grownBy W' x.ownBlock) (hy : W'.ownsRow B 3 1 y b.length (b.map (Value.int .i64))) (hat : ∀ g, y.ownBlock = some g → x.ownBlock = some g ∨ W.heap.size ≤ g) (hb : b.length ≤ 17592186044416) : BRows W' B (q.set k y) (L.set k b) := by
  have hlt := xadZ hk
  refine ⟨by simp [h.len], fun i z c hz hc => ?_, fun i j z u g hz hu gz gu => ?_, fun c hc => ?_⟩
  · by_cases e : k = i
    · subst e
      rw [List.getElem?_set_self hlt] at hz
      rw [List.getElem?_set_self (by rw [← h.len]; exact hlt)] at hc
      cases hz; cases hc
      exact hy
    · rw [List.getElem?_set_ne e] at hz hc
      refine xaoZ (h.each i z c hz hc) fun g hgz => hg.block g (h.lt hz hgz).2.1 fun e2 => ?_
      exact e (h.apart k i x z g hk hz e2.symm hgz)
  · by_cases e : k = i
    · by_cases e' : k = j
      · omega
      · subst e
        rw [List.getElem?_set_self hlt] at hz
        rw [List.getElem?_set_ne e'] at hu
        cases hz
        rcases hat g gz with h1 | h1
        · exact h.apart k j x u g hk hu h1 gu
        · have := (h.lt hu gu).2.1; omega
    · rw [List.getElem?_set_ne e] at hz
      by_cases e' : k = j
      · subst e'
        rw [List.getElem?_set_self hlt] at hu
        cases hu
        rcases hat g gu with h1 | h1
        · exact h.apart i k z x g hz hk gz h1
        · have := (h.lt hz gz).2.1; omega
      · rw [List.getElem?_set_ne e'] at hu
        exact h.apart i j z u g hz hu gz gu
  · rcases List.mem_or_eq_of_mem_set hc with h1 | rfl
    · exact h.small c h1
    · exact hb
theorem DAt.setOut {w0 W : World} {b : Nat} {pv fv bv iv ov : Value} {q : List FV} {qb : List Value} {M : Mach} (h : DAt w0 W b pv fv bv iv ov q qb M) {W2 : World} {u : Value} {O : List Int} (hg : W.grownBy W2 ov.ownBlock) (hr : W2.ownsRow w0.heap.size 3 1 u O.length (O.map (Value.int .i64))) (hat : ∀ z, u.ownBlock = some z → ov.ownBlock = some z ∨ W.heap.size ≤ z) (hO : O.length ≤ 40) : Doer w0 (W2.setCell ⟨b, 3, none⟩ u) b pv { M with out := O } := by
  have hty : TyRow W ov.ownBlock 3 := xcnZ h.own.out
  have hcell2 : W2.heap[b]? = _ := (hg.block b h.lt (fun e => by
    obtain ⟨cs, fz, hh⟩ := hty b e.symm
    rw [h.cell] at hh; simp at hh)).trans h.cell
  have hgs := xakZ W2 ⟨b, 3, none⟩ u
  have hty2 : TyRow W2 (some b) 162 := xatZ hcell2
  have hs := heap_setCell_same W2 b 3 _ _ u hcell2
  have hrows := h.own.rows.swap (k := 1) rfl hg hr hat (by omega)
  refine ⟨fv, bv, iv, u, q, qb, ⟨by simpa using hs, ⟨xasZ (xasZ h.own.fr hg hty (by decide)) hgs hty2 (by decide), (h.own.frs.keep hg hty (by decide)).keep hgs hty2 (by decide), xasZ (xasZ h.own.bl hg hty (by decide)) hgs hty2 (by decide), BRows.keep hrows hgs hty2 (by decide)⟩, (h.bel.grown hg h.bel.size (fun k hk => (h.own.out.lt k hk).1)).setCell h.lo _, h.lo⟩⟩
theorem sd_trap (w0 : World) (b : Nat) (pv : Value) (M : Mach) (D : List Frm) (x : Frm)  (w : World) (h : Doer w0 w b pv M) (hF : M.frames = D ++ [x]) (hD : D.length ≤ 100) (hl : x.stk.length ≤ 90) (ho : M.out.length = 10) : Calls Tryz.prog 149 #[.pointer (some ⟨b, 0, none⟩)] w fun e w' => e = .panicked [{ v := .iface 159 (.int .i64 5), recovered := false }] ∧ Below w0.heap.size w0 w' := by
  obtain ⟨fv, bv, iv, ov, q, qb, D0⟩ := h
  have k3 := D0.cells.2.2.2.1
  obtain ⟨po, co, hov⟩ := xaiZ D0.own.out
  rw [hov, ho] at k3
  have HD0 := hideP D0
  clear D0
  go_enter Tryz.func149, Tryz.ntmps149
  go_wp2
  exact ⟨rfl, rfl, HD0.out.bel⟩
theorem sd_ok (w0 : World) (b : Nat) (pv : Value) (M : Mach) (D : List Frm) (x : Frm) (r : List Val) (v : Val) (w : World) (h : Doer w0 w b pv M) (hF : M.frames = D ++ [x]) (hD : D.length ≤ 100) (hl : x.stk.length ≤ 90) (hs : x.stk = r ++ [v]) (ho : M.out.length < 10) : Calls Tryz.prog 149 #[.pointer (some ⟨b, 0, none⟩)] w fun e w' => e = .returned (.tuple #[]) ∧ Doer w0 w' b pv { M with frames := D ++ [{ x with stk := r }], out := M.out ++ [v.2] } := by
  have hrl := xbgZ hs
  have hfd := xcmZ
  obtain ⟨i0, hi, hz0, hz1, hz2⟩ := info_parts xe9Z
  obtain ⟨g, cap, bv, iv, ov, q, c, qb, H0⟩ := h.open hF
  have k3 := H0.at_.cells.2.2.2.1
  obtain ⟨po, co, hov⟩ := xaiZ H0.at_.own.out
  rw [hov] at k3
  have ho' : ((M.out.length : Int) == 10) = false := by simp; omega
  have HV := hideP hov
  have H1 := hideP H0
  clear h H0 hov
  go_enter Tryz.func149, Tryz.ntmps149
  go_wp2_with fail
  go_region_law
    (first
      | (refine xfeZ rfl _ _ 46 rfl w0.heap.size 3 i0 (.int .i64 0) 1 8 Tryz.underlying46 hi hz0 hz1 hz2 rfl (by decide) _ _ _ rfl (HROW.out.alloc _) ⟨w2.heap.size, 0, none⟩ 1 1 [.int .i64 v.2] rfl rfl (xfhZ (by rw [xaaZ (World.alloc_heap_new w2 (.cells #[.int .i64 v.2] 3)) 0]; rfl)) (by simp [Value.oneCell']) (by unfold maxLen; omega) (by omega) (by have := HD2.out.bel.size; simp; omega) ?_; intro v' w4 hown4 hg4 hat4; obtain ⟨g4, cap4, hv4⟩ := ownsRow_succ hown4; subst hv4; have hb4 := (hg4.block b (xacZ (xalZ HD2.out.cell _)) (xboZ HROW.out HD2.out.cell (by decide))).trans (xalZ HD2.out.cell _); have m4 := xaaZ hb4 3; have z4 := Lib.frozen_of_heap hb4 3; simp at m4; have HO4 := hideP hown4; have HG4 := hideP hg4; have HAT4 := hideP hat4; clear hown4 hg4 hb4 hat4)
      | (go_simp; go_at_call 186; (refine (xawZ w0 b pv M D x r v _ (H1.out.below ((Below.refl _ w).drew)).doer hF hs hD (by omega)).mono ?_); rintro e w2 ⟨rfl, h2, o2⟩; obtain ⟨og, oj⟩ := o2 _ _ _ (H1.out.below ((Below.refl _ w).drew)).fcell; have n3 := og.cell (H1.out.below ((Below.refl _ w).drew)).at_.cells.2.2.2.1 (fun e => (H1.out.below ((Below.refl _ w).drew)).gne (by simpa using e)); obtain ⟨fv2, bv2, iv2, ov2, q2, qb2, D2⟩ := h2; have hov2 : ov2 = .slice po M.out.length co := (by have := n3.symm.trans D2.cells.2.2.2.1; rw [HV.out] at this; simpa using this.symm); rw [HV.out] at n3; subst hov2; have HD2 := hideP D2; have HROW : Hid (w2.ownsRow w0.heap.size 3 1 (.slice po M.out.length co) M.out.length (M.out.map (Value.int .i64))) := D2.own.out; have z3 := Lib.frozen_of_heap D2.cell 3; have zz3 := fun o => Lib.frozen_of_heap (xalZ D2.cell o) 3; have n33 := fun o => xabZ n3 o; clear D2 o2 og oj))
  all_goals
    go_wp2
    go_end0
    have hO := HO4.out
    refine ⟨rfl, (HD2.out.below ((Below.refl _ w2).alloc (Nat.le_refl _) _)).setOut HG4.out (by simpa using hO) (fun z hz => ?_) (by simp; omega)⟩
    rcases HAT4.out with h1 | h1
    · exact .inl (h1.symm.trans hz)
    · rw [h1] at hz; cases hz; exact .inr (Nat.le_refl _)
end Go.Proofs.YtmjjkenblfndgaaGreat


/- stride.Do: what is recovered. -/
namespace Go.Proofs.YtmjjkenblfndgaaGreat
open Go.RowKit
set_option linter.unusedSimpArgs false
set_option linter.unusedVariables false
theorem ta_nil (w : World) : (Instr.typeAssert Value.nilIface 20 159 true).run Tryz.prog w = .ok (.tuple #[.int .i64 0, .bool false]) w := by kernel_rfl
theorem ta_trap (why : Int) (w : World) : (Instr.typeAssert (.iface 159 (.int .i64 why)) 20 159 true).run Tryz.prog w = .ok (.tuple #[.int .i64 why, .bool true]) w := by kernel_rfl
theorem xkdZ (bm ba : Nat) (w : World) :
    CallsD Tryz.prog 110 #[.pointer (some ⟨bm, 0, none⟩), .pointer (some ⟨ba, 0, none⟩)] .returning w fun e u' w' => e = .returned (.tuple #[]) ∧ u' = .returning ∧ w' = w := by
  refine callsD_of_wpS Tryz.func110 rfl fun c₀ cs hu => ?_
  apply wpS_seq
  apply wpS_region
  simp [wpOpsS, go_sem, recoverD, hu, Tryz.ntmps110, Exit.thenS, ta_nil, Array.replicate_succ]
  refine wpS_of_wp ?_
  go_wp2
  refine ⟨rfl, .returning, ?_, .tuple #[], results_none rfl _ _ _, rfl, rfl, rfl⟩
  cases c₀
  simp_all
theorem xkeZ (M : Mach) (fv bv iv ov : Value) (bm ba : Nat) (why : Int) (w : World) (h : MachAt w fv bv iv ov M) (hsm : SmallM M) (hm : w.heap[bm]? = some (.cells #[fv, bv, iv, ov, .int .i64 M.status, .int .i64 M.trap] 48 (0, 0))) (ha : w.heap[ba]? = some (.cells #[.slice none 0 0, .slice none 0 0, .slice none 0 0, .slice none 0 0, .int .i64 0, .int .i64 0] 48 (0, 0))) :
    CallsD Tryz.prog 110 #[.pointer (some ⟨bm, 0, none⟩), .pointer (some ⟨ba, 0, none⟩)] (.panicking [{ v := .iface 159 (.int .i64 why), recovered := false }]) w fun e u' w' =>
      e = .returned (.tuple #[]) ∧ u' = .panicking [{ v := .iface 159 (.int .i64 why), recovered := true }] ∧ ∃ fv' bv' iv' ov' q qb w2, MOwn w2 w.heap.size fv' bv' iv' ov' q qb M ∧ Below w.heap.size w w2 ∧ w' = ((((((((w2.setCell ⟨ba, 0, none⟩ fv').setCell ⟨ba, 1, none⟩ bv').setCell ⟨ba, 2, none⟩ iv').setCell ⟨ba, 3, none⟩ ov').setCell ⟨ba, 4, none⟩ (.int .i64 M.status)).setCell ⟨ba, 5, none⟩ (.int .i64 M.trap)).setCell ⟨ba, 4, none⟩ (.int .i64 3)).setCell ⟨ba, 5, none⟩ (.int .i64 why)) := by
  have HF := hideP (xcqZ M fv bv iv ov w h hsm)
  have la := xacZ ha
  obtain ⟨pf, cf, hfv, -, -, -⟩ := id h.fr
  obtain ⟨pb, cb, hbv, -, -⟩ := id h.bl
  obtain ⟨pi, ci, hiv, -⟩ := h.inp.shp
  obtain ⟨po, co, hov, -⟩ := h.out.shp
  subst hfv hbv hiv hov
  have d0 : w.cell? ⟨bm, 0, none⟩ = some (.slice pf M.frames.length cf) := xaaZ hm 0
  have d1 : w.cell? ⟨bm, 1, none⟩ = some (.slice pb M.blocks.length cb) := xaaZ hm 1
  have d2 : w.cell? ⟨bm, 2, none⟩ = some (.slice pi M.inp.length ci) := xaaZ hm 2
  have d3 : w.cell? ⟨bm, 3, none⟩ = some (.slice po M.out.length co) := xaaZ hm 3
  have d4 : w.cell? ⟨bm, 4, none⟩ = some (.int .i64 M.status) := xaaZ hm 4
  have d5 : w.cell? ⟨bm, 5, none⟩ = some (.int .i64 M.trap) := xaaZ hm 5
  have HA := hideP ha
  clear h hsm hm ha
  generalize hR : (fun e u' w' => e = Ending.returned (.tuple #[]) ∧ u' = FrameMode.panicking [{ v := .iface 159 (.int .i64 why), recovered := true }] ∧ ∃ fv' bv' iv' ov' q qb w2, MOwn w2 w.heap.size fv' bv' iv' ov' q qb M ∧ Below w.heap.size w w2 ∧ w' = ((((((((w2.setCell ⟨ba, 0, none⟩ fv').setCell ⟨ba, 1, none⟩ bv').setCell ⟨ba, 2, none⟩ iv').setCell ⟨ba, 3, none⟩ ov').setCell ⟨ba, 4, none⟩ (.int .i64 M.status)).setCell ⟨ba, 5, none⟩ (.int .i64 M.trap)).setCell ⟨ba, 4, none⟩ (.int .i64 3)).setCell ⟨ba, 5, none⟩ (.int .i64 why))) = R
  have HR := hideP hR
  clear hR
  refine callsD_of_wpS Tryz.func110 rfl fun c₀ cs hu => ?_
  apply wpS_seq
  apply wpS_region
  simp [wpOpsS, go_sem, recoverD, hu, Tryz.ntmps110, Exit.thenS, ta_trap, Array.replicate_succ]
  refine wpS_of_wp ?_
  go_wp2_with fail
  refine HF.out.mono ?_
  rintro e w2 ⟨fv', bv', iv', ov', rfl, q, qb, hown, b2⟩
  obtain ⟨pf2, cf2, hfv⟩ := xaiZ hown.fr
  obtain ⟨pb2, cb2, hbv⟩ := xaiZ hown.bl
  obtain ⟨pi2, ci2, hiv⟩ := xaiZ hown.inp
  obtain ⟨po2, co2, hov⟩ := xaiZ hown.out
  subst hfv hbv hiv hov
  have ha2 := (b2.block _ la).trans HA.out
  have a0 := xaaZ ha2 0
  have a1 := xaaZ ha2 1
  have a2 := xaaZ ha2 2
  have a3 := xaaZ ha2 3
  have a4 := xaaZ ha2 4
  have a5 := xaaZ ha2 5
  simp at a0 a1 a2 a3 a4 a5
  have z := Lib.frozen_of_heap ha2
  have z0 := z 0
  have z1 := z 1
  have z2 := z 2
  have z3 := z 3
  have z4 := z 4
  have z5 := z 5
  have HO := hideP hown
  clear z hown ha2
  go_wp2
  refine ⟨rfl, _, rfl, .tuple #[], results_none rfl _ _ _, ?_⟩
  rw [← HR.out]
  exact ⟨rfl, rfl, _, _, _, _, q, qb, w2, HO.out, b2, rfl⟩
def MRes (W : World) (B : Nat) (fv bv iv ov : Value) (M : Mach) : Prop := ∃ q qb k iw I, MOwn W B fv bv iw ov q qb { M with inp := I } ∧ M.inp = I.drop k ∧ ((k = 0 ∧ iv = iw) ∨ ∃ g n cap j c, iw = .slice (some ⟨g, 0, none⟩) n cap ∧ iv = .slice (some ⟨g, j, none⟩) (n - k) c ∧ (j = k ∧ k ≤ n ∨ n - k = 0 ∧ c = 0) ∧ n - k ≤ c ∧ j + c ≤ cap ∧ n ≤ 1000)
theorem MOwn.res {W : World} {B : Nat} {fv bv iv ov : Value} {q : List FV} {qb : List Value} {M : Mach} (h : MOwn W B fv bv iv ov q qb M) : MRes W B fv bv iv ov M := ⟨q, qb, 0, iv, M.inp, h, rfl, .inl ⟨rfl, rfl⟩⟩
theorem MRes.below {W W' : World} {B : Nat} {fv bv iv ov : Value} {M : Mach} (h : MRes W B fv bv iv ov M) (hb : Below W.heap.size W W') : MRes W' B fv bv iv ov M := by
  obtain ⟨q, qb, k, iw, I, h1, h2, h3⟩ := h
  exact ⟨q, qb, k, iw, I, h1.below hb, h2, h3⟩
theorem MRes.low {W : World} {B B' : Nat} {fv bv iv ov : Value} {M : Mach} (h : MRes W B fv bv iv ov M) (hB : B' ≤ B) : MRes W B' fv bv iv ov M := by
  obtain ⟨q, qb, k, iw, I, h1, h2, h3⟩ := h
  exact ⟨q, qb, k, iw, I, h1.low hB, h2, h3⟩
theorem MRes.keep {W W' : World} {B : Nat} {t : TypeId} {fv bv iv ov : Value} {M : Mach} {row : Option Nat} (h : MRes W B fv bv iv ov M) (hg : W.grownBy W' row) (ht : TyRow W row t) (h1 : t ≠ 89) (h2 : t ≠ 113) (h3 : t ≠ 46) (h4 : t ≠ 3) : MRes W' B fv bv iv ov M := by
  obtain ⟨q, qb, k, iw, I, a1, a2, a3⟩ := h
  exact ⟨q, qb, k, iw, I, a1.keep hg ht h1 h2 h3 h4, a2, a3⟩
theorem MRes.at_ {W : World} {B : Nat} {fv bv iv ov : Value} {M : Mach} (h : MRes W B fv bv iv ov M) (h100 : M.inp.length ≤ 100) : MachAt W fv bv iv ov M := by
  obtain ⟨q, qb, k, iw, I, h1, h2, h3⟩ := h
  have hA := h1.at_
  refine ⟨hA.fr, hA.bl, ?_, hA.out⟩
  rcases h3 with ⟨rfl, rfl⟩ | ⟨g, n, cap, j, c, rfl, rfl, hj, hc⟩
  · rw [h2]; exact hA.inp
  · have hin := h1.inp
    obtain ⟨p, cc, hv⟩ := xaiZ hin
    simp only at hv hin
    injection hv with _ hn _
    subst hn
    have hlen : M.inp.length = I.length - k := by rw [h2, List.length_drop]
    refine ⟨⟨_, c, by rw [hlen], by unfold maxLen; omega, fun i z hz => ?_⟩, xavZ _ _ _, fun p' n' c' e => by injection e with _ e2 e3; omega⟩
    have hil := xadZ hz
    rw [h2, List.getElem?_drop] at hz
    have hjk : j = k := by rcases hj with h | h <;> omega
    subst hjk
    refine ⟨g, j, rfl, (hin.lt g rfl).2, ?_⟩
    rcases hin.2 with ⟨h4, _⟩ | ⟨g', cap', cur, h4, h5, h6, h7, h8, h9, h10⟩
    · cases h4
    · injection h4 with e1 _ _
      cases e1
      rw [xaaZ h6]
      have hm : (I.map (Value.int .i64))[j + i]? = some (.int .i64 z) := by rw [List.getElem?_map, hz]; rfl
      rw [← h10, List.getElem?_take] at hm
      split at hm
      · simpa using hm
      · cases hm
end Go.Proofs.YtmjjkenblfndgaaGreat


/- A step of a right machine is a right machine, plainly. -/
namespace Go.Proofs.YtmjjkenblfndgaaGreat
open Go.RowKit
set_option linter.unusedSimpArgs false
set_option linter.unusedVariables false
theorem xerZ {p : List Fn} {f : Fn} {o : Int × Int} {s out : List Int} (h : tryOp p f o s = some out) : ∃ t l, xafZ p f o s = some (t, l) ∧ t.length ≤ s.length ∧ leS (s.drop (s.length - t.length)) t = true ∧ out = s.take (s.length - t.length) ++ l := by
  unfold tryOp at h
  obtain ⟨⟨t, l⟩, h1, h2⟩ := Option.bind_eq_some_iff.1 h
  simp only at h2
  split at h2
  · rename_i hc
    cases h2
    exact ⟨t, l, h1, hc.1, hc.2.1, rfl⟩
  · cases h2
theorem xhjZ {a b : Nat} (h : a ≤ b) {v : Val} (hv : okV a v = true) : okV b v = true := by
  unfold okV at hv ⊢
  split
  · rename_i h1
    rw [if_pos h1] at hv
    simp at hv ⊢
    omega
  · rename_i h1
    rw [if_neg h1] at hv
    exact hv
theorem RightF.mono {p : List Fn} {e : Nat → Nat → Option (List Int)} {a b : Nat} {next : Option Int} {x : Frm} {k : Nat} {f : Fn} (h : RightF p e a next x k f) (hab : a ≤ b) : RightF p e b next x k f :=
  ⟨h.fn, h.at_, h.loc, fun v hv => xhjZ hab (h.okl v hv), fun v hv => xhjZ hab (h.oks v hv), h.inner, h.outer⟩
theorem xcfZ {α : Type} {l : List α} {x : α} (h : l.getLast? = some x) : l = l.dropLast ++ [x] := by
  obtain ⟨ys, rfl⟩ := List.getLast?_eq_some_iff.1 h
  simp
theorem right_put {p : List Fn} {e : Nat → Nat → Option (List Int)} {m : Mach} {x x' : Frm} {k : Nat} {f : Fn} {B : List (List Int)} {I O : List Int} (h : RightM p e m) (hst : m.status = 0) (hl : m.frames.getLast? = some x) (hfn : x'.fn = x.fn) (hB : blkErr B = 0) (hnb : m.blocks.length ≤ B.length) (hI : I.length ≤ 10 ∧ ∀ n ∈ I, isI32 n = true) (hO : O.length ≤ 10 ∧ ∀ n ∈ O, isI32 n = true) (hr : RightF p e B.length none x' k f) :
    RightM p e { m with frames := m.frames.dropLast ++ [x'], blocks := B, inp := I, out := O } := by
  have hs := xcfZ hl
  generalize hd : m.frames.dropLast = D at *
  have hlen : m.frames.length = D.length + 1 := by rw [hs]; simp
  have hat : ∀ i y, i < D.length → (m.frames[i]? = some y ↔ (D ++ [x'])[i]? = some y) := by
    intro i y hi
    rw [hs, List.getElem?_append_left hi, List.getElem?_append_left hi]
  refine ⟨h.status, h.trap, hB, hI, hO, ⟨by simp; have := h.depth.1; omega, ?_⟩, ?_, ?_, fun hw => ?_⟩
  · simp [hst]
  · intro y hy
    simp only at hy
    cases D with
    | nil =>
      simp at hy
      subst hy
      rw [hfn]
      exact h.first x (by rw [hs]; rfl)
    | cons d r => exact h.first y ((hat 0 y (by simp)).2 hy)
  · intro i y hy
    simp only at hy ⊢
    by_cases hi : i < D.length
    · obtain ⟨k', f', hr'⟩ := h.each i y ((hat i y hi).2 hy)
      refine ⟨k', f', ?_⟩
      have hnext : (m.frames[i + 1]?).map Frm.fn = ((D ++ [x'])[i + 1]?).map Frm.fn := by
        by_cases hi2 : i + 1 < D.length
        · rw [hs, List.getElem?_append_left hi2, List.getElem?_append_left hi2]
        · have : i + 1 = D.length := by omega
          rw [hs, this]
          simp [hfn]
      rw [← hnext]
      exact hr'.mono hnb
    · have hi2 : i = D.length := by have := xadZ hy; simp at this; omega
      subst hi2
      simp at hy
      subst hy
      exact ⟨k, f, by simpa using hr⟩
  · rw [hst] at hw
    cases hw
theorem xczZ {p : List Fn} {e : Nat → Nat → Option (List Int)} {m : Mach} (h : RightM p e m) (hst : m.status = 0) {why : Int} (h1 : 1 ≤ why ∧ why ≤ 5) : RightM p e (trapM m why) := by
  refine ⟨by simp [trapM], ⟨fun _ => by simpa [trapM] using h1, fun hn => by simp [trapM] at hn⟩, h.blocks, h.inp, h.out, ⟨h.depth.1, ?_⟩, h.first, h.each, fun hw => by simp [trapM] at hw⟩
  simp only [trapM]
  constructor
  · intro hf
    have := h.depth.2.1 hf
    omega
  · intro hf; omega
theorem xkfZ {l : List Val} {s : List Int} (h : areOf l s = true) (n : Nat) : areOf (cutV l n) (s.take (s.length - n)) = true := by
  unfold cutV
  rw [xa6Z h]
  exact xkaZ _ h
theorem mem_cutV {l : List Val} {n : Nat} {v : Val} (h : v ∈ cutV l n) : v ∈ l := List.mem_of_mem_take h
theorem top_as {l : List Val} {s t : List Int} (h : areOf l s = true) (hle : t.length ≤ s.length) (hs : leS (s.drop (s.length - t.length)) t = true) : areOf (l.drop (l.length - t.length)) t = true := by
  rw [xa6Z h]
  exact xe6Z (xeuZ _ h) hs
theorem xi2Z {l : List Val} {t : List Int} (h : areOf (l.drop (l.length - t.length)) t = true) (hl : t.length ≤ l.length) (j : Nat) (hj : j < t.length) : topV l j ∈ l ∧ ∃ u, t[t.length - 1 - j]? = some u ∧ asT (topV l j) u = true := by
  have hlt : l.length - 1 - j < l.length := by omega
  have hv : l[l.length - 1 - j]? = some (topV l j) := by
    unfold topV
    rw [List.getD_eq_getElem?_getD, List.getElem?_eq_getElem hlt]; rfl
  refine ⟨List.mem_of_getElem? hv, ?_⟩
  obtain ⟨u, hu⟩ := xagZ (l := t) (k := t.length - 1 - j) (by omega)
  refine ⟨u, hu, xf8Z h (t.length - 1 - j) _ _ ?_ hu⟩
  rw [List.getElem?_drop, show l.length - t.length + (t.length - 1 - j) = l.length - 1 - j by omega]
  exact hv
theorem xfaZ {p : List Fn} {e : Nat → Nat → Option (List Int)} {nb : Nat} {x : Frm} {k : Nat} {f : Fn} (he : xaxZ p e) (hr : RightF p e nb none x k f) : ∃ (pc : Nat) (s : List Int) (o : Int × Int) (out : List Int), x.pc = (pc : Int) ∧ e k pc = some s ∧ areOf x.stk s = true ∧ f.2.2.2[pc]? = some o ∧ tryOp p f o s = some out ∧ ∀ to, goesOn f.2.2.2 pc to = true → to < f.2.2.2.length ∧ ∃ s', e k to = some s' ∧ leS out s' = true := by
  obtain ⟨pc, s, h1, h2, h3⟩ := hr.inner rfl
  obtain ⟨o, out, h4, h5, h6⟩ := (he k f hr.at_).1.on pc s h2
  exact ⟨pc, s, o, out, h1, h2, h3, h4, h5, h6⟩
theorem xc6Z {C : List (Int × Int)} {pc : Nat} {o : Int × Int} (h : C[pc]? = some o) (h13 : o.1 ≠ 13) (h10 : o.1 ≠ 10) : goesOn C pc (pc + 1) = true := by
  unfold goesOn
  rw [h]
  simp only
  rw [if_neg h13, if_neg h10]
  split <;> simp
theorem plain_case {p : List Fn} {e : Nat → Nat → Option (List Int)} {nb nb' : Nat} {x : Frm} {k : Nat} {f : Fn} {to : Nat} {s out t l : List Int} {o : Int × Int} {loc' res : List Val} (hr : RightF p e nb none x k f) (hnb : nb ≤ nb') (hst : areOf x.stk s = true) (ht : tryOp p f o s = some out) (htl : xafZ p f o s = some (t, l)) (hto : ∃ s', e k to = some s' ∧ leS out s' = true) (hres : areOf res l = true) (hok : ∀ v ∈ res, okV nb' v = true) (hloc : areOf loc' f.2.1 = true) (hokl : ∀ v ∈ loc', okV nb' v = true) {pc' : Int} (hpc : pc' = (to : Int)) :
    RightF p e nb' none { x with pc := pc', loc := loc', stk := cutV x.stk t.length ++ res } k f := by
  obtain ⟨t', l', h1, h2, h3, rfl⟩ := xerZ ht
  rw [htl] at h1
  cases h1
  obtain ⟨s', h4, h5⟩ := hto
  refine ⟨hr.fn, hr.at_, hloc, hokl, fun v hv => ?_, fun _ => ⟨to, s', hpc, h4, xe6Z (xc9Z (xkfZ hst _) hres) h5⟩, fun g hg => by cases hg⟩
  rcases List.mem_append.1 hv with hv | hv
  · exact xhjZ hnb (hr.oks v (mem_cutV hv))
  · exact hok v hv
theorem xbdZ {p : List Fn} {f : Fn} {o : Int × Int} {x : Frm} {s out t l : List Int} (hst : areOf x.stk s = true) (ht : tryOp p f o s = some out) (htl : xafZ p f o s = some (t, l)) : t.length ≤ x.stk.length ∧ areOf (x.stk.drop (x.stk.length - t.length)) t = true := by
  obtain ⟨t', l', h1, h2, h3, _⟩ := xerZ ht
  rw [htl] at h1
  cases h1
  exact ⟨by rw [xa6Z hst]; exact h2, top_as hst h2 h3⟩
theorem asT_int {v : Val} (h : asT v 1 = true) : v.1 = false := by simp [asT] at h; exact h
theorem asT_ref {v : Val} (h : asT v 2 = true) : v.1 = true := by simp [asT] at h; exact h
theorem xf6Z {nb : Nat} {n : Int} (h : isI32 n = true) : okV nb (false, n) = true := by simpa [okV] using h
theorem okV_ref {nb : Nat} {n : Int} (h0 : 0 ≤ n) (h1 : n ≤ (nb : Int)) : okV nb (true, n) = true := by simp [okV, h0, h1]
theorem wrap_i32 (n : Int) : isI32 (wrap32 n) = true := by rw [← xhuZ]; simp [wrap32]
end Go.Proofs.YtmjjkenblfndgaaGreat


/- A step of a right machine is a right machine: the ops that go on within their frame. -/
namespace Go.Proofs.YtmjjkenblfndgaaGreat
open Go.RowKit
set_option linter.unusedSimpArgs false
set_option linter.unusedVariables false
structure AtOp (p : List Fn) (e : Nat → Nat → Option (List Int)) (m : Mach) (x : Frm) (k : Nat) (f : Fn) (pc : Nat) (s out : List Int) (o : Int × Int) : Prop where
  right : RightM p e m
  run : m.status = 0
  last : m.frames.getLast? = some x
  frame : RightF p e m.blocks.length none x k f
  pcx : x.pc = (pc : Int)
  ent : e k pc = some s
  stk : areOf x.stk s = true
  op : f.2.2.2[pc]? = some o
  try_ : tryOp p f o s = some out
  on : ∀ to, goesOn f.2.2.2 pc to = true → to < f.2.2.2.length ∧ ∃ s', e k to = some s' ∧ leS out s' = true
  i32 : isI32 o.2 = true
theorem xfmZ (l : List Val) : cutV l 0 = l := by simp [cutV]
theorem AtOp.go {p : List Fn} {e : Nat → Nat → Option (List Int)} {m : Mach} {x : Frm} {k : Nat} {f : Fn} {pc : Nat} {s out : List Int} {o : Int × Int} (h : AtOp p e m x k f pc s out o) {t l : List Int} {res loc' : List Val} {B : List (List Int)} {I O : List Int} {to : Nat} {pc' : Int} (htl : xafZ p f o s = some (t, l)) (hto : goesOn f.2.2.2 pc to = true) (hpc : pc' = (to : Int)) (hres : areOf res l = true) (hok : ∀ v ∈ res, okV B.length v = true) (hloc : areOf loc' f.2.1 = true) (hokl : ∀ v ∈ loc', okV B.length v = true) (hB : blkErr B = 0) (hnb : m.blocks.length ≤ B.length) (hI : I.length ≤ 10 ∧ ∀ n ∈ I, isI32 n = true) (hO : O.length ≤ 10 ∧ ∀ n ∈ O, isI32 n = true) {st : List Val} (hst : st = cutV x.stk t.length ++ res) :
    RightM p e { m with frames := m.frames.dropLast ++ [{ x with pc := pc', loc := loc', stk := st }], blocks := B, inp := I, out := O } := by
  subst hst
  exact right_put (x' := { x with pc := pc', loc := loc', stk := cutV x.stk t.length ++ res }) h.right h.run h.last rfl hB hnb hI hO (plain_case h.frame hnb h.stk h.try_ htl (h.on to hto).2 hres hok hloc hokl hpc)
theorem AtOp.next {p : List Fn} {e : Nat → Nat → Option (List Int)} {m : Mach} {x : Frm} {k : Nat} {f : Fn} {pc : Nat} {s out : List Int} {o : Int × Int} (h : AtOp p e m x k f pc s out o) (h13 : o.1 ≠ 13) (h10 : o.1 ≠ 10) {t l : List Int} {res : List Val} {B : List (List Int)} {I O : List Int} (htl : xafZ p f o s = some (t, l)) (hres : areOf res l = true) (hok : ∀ v ∈ res, okV B.length v = true) (hB : blkErr B = 0) (hnb : m.blocks.length ≤ B.length) (hI : I.length ≤ 10 ∧ ∀ n ∈ I, isI32 n = true) (hO : O.length ≤ 10 ∧ ∀ n ∈ O, isI32 n = true) {st : List Val} (hst : st = cutV x.stk t.length ++ res) :
    RightM p e { onF m x st with blocks := B, inp := I, out := O } :=
  h.go htl (xc6Z h.op h13 h10) (by rw [h.pcx]; rfl) hres hok h.frame.loc (fun v hv => xhjZ hnb (h.frame.okl v hv)) hB hnb hI hO hst
theorem AtOp.plain {p : List Fn} {e : Nat → Nat → Option (List Int)} {m : Mach} {x : Frm} {k : Nat} {f : Fn} {pc : Nat} {s out : List Int} {o : Int × Int} (h : AtOp p e m x k f pc s out o) (h13 : o.1 ≠ 13) (h10 : o.1 ≠ 10) {t l : List Int} {res : List Val} (htl : xafZ p f o s = some (t, l)) (hres : areOf res l = true) (hok : ∀ v ∈ res, okV m.blocks.length v = true) {st : List Val} (hst : st = cutV x.stk t.length ++ res) : RightM p e (onF m x st) :=
  h.next h13 h10 htl hres hok h.right.blocks (Nat.le_refl _) h.right.inp h.right.out hst
section
variable {p : List Fn} {e : Nat → Nat → Option (List Int)} {m : Mach} {x : Frm} {k : Nat} {f : Fn} {pc : Nat} {s out : List Int} {o : Int × Int}
theorem op1 (h : AtOp p e m x k f pc s out o) (hc : o.1 = 1) : RightM p e (doOp p m x o) := by
  have hd : doOp p m x o = onF m x (x.stk ++ [(false, o.2)]) := by simp [doOp, hc]
  rw [hd]
  exact h.plain (by omega) (by omega) (t := []) (l := [1]) (res := [(false, o.2)]) (by simp [xafZ, hc, xaqZ, xauZ]) (by simp [areOf, asT]) (by simpa using xf6Z h.i32) (by simp [xfmZ])
theorem op18 (h : AtOp p e m x k f pc s out o) (hc : o.1 = 18) : RightM p e (doOp p m x o) := by
  have hd : doOp p m x o = onF m x (x.stk ++ [(true, 0)]) := by simp [doOp, hc]
  rw [hd]
  exact h.plain (by omega) (by omega) (t := []) (l := [3]) (res := [(true, 0)]) (by simp [xafZ, hc, xaqZ, xauZ]) (by simp [areOf, asT]) (by simpa using okV_ref (Int.le_refl 0) (by omega)) (by simp [xfmZ])
theorem op567 (h : AtOp p e m x k f pc s out o) (hc : o.1 = 5 ∨ o.1 = 6 ∨ o.1 = 7) : RightM p e (doOp p m x o) := by
  obtain ⟨n, hd⟩ : ∃ n, doOp p m x o = onF m x (cutV x.stk 2 ++ [(false, wrap32 n)]) := by
    rcases hc with hc | hc | hc
    · exact ⟨(topV x.stk 1).2 + (topV x.stk 0).2, by simp [doOp, hc]⟩
    · exact ⟨(topV x.stk 1).2 - (topV x.stk 0).2, by simp [doOp, hc]⟩
    · exact ⟨(topV x.stk 1).2 * (topV x.stk 0).2, by simp [doOp, hc]⟩
  rw [hd]
  exact h.plain (by omega) (by omega) (t := [1, 1]) (l := [1]) (res := [(false, wrap32 n)]) (by rcases hc with hc | hc | hc <;> simp [xafZ, hc, xaqZ, xauZ]) (by simp [areOf, asT]) (by simpa using xf6Z (wrap_i32 n)) rfl
theorem op19 (h : AtOp p e m x k f pc s out o) (hc : o.1 = 19) : RightM p e (doOp p m x o) := by
  have hd : doOp p m x o = onF m x (cutV x.stk 1 ++ [(false, if (topV x.stk 0).2 = 0 then 1 else 0)]) := by simp [doOp, hc]
  rw [hd]
  exact h.plain (by omega) (by omega) (t := [2]) (l := [1]) (res := [(false, if (topV x.stk 0).2 = 0 then 1 else 0)]) (by simp [xafZ, hc, xaqZ, xauZ]) (by simp [areOf, asT]) (by intro v hv; simp at hv; subst hv; apply xf6Z; split <;> rfl) rfl
theorem op21 (h : AtOp p e m x k f pc s out o) (hc : o.1 = 21) (hin : m.inp ≠ []) : RightM p e (doOp p m x o) := by
  have hd : doOp p m x o = { onF m x (x.stk ++ [(false, m.inp.headD 0)]) with inp := m.inp.tail } := by simp [doOp, hc, hin]
  rw [hd]
  have hI := h.right.inp
  have hh : isI32 (m.inp.headD 0) = true := by
    cases hi : m.inp with
    | nil => exact absurd hi hin
    | cons a r => exact hI.2 a (by rw [hi]; simp)
  exact h.next (by omega) (by omega) (t := []) (l := [1]) (res := [(false, m.inp.headD 0)]) (by simp [xafZ, hc, xaqZ, xauZ]) (by simp [areOf, asT]) (by simpa using xf6Z hh) h.right.blocks (Nat.le_refl _) ⟨by simp; omega, fun n hn => hI.2 n (List.mem_of_mem_tail hn)⟩ h.right.out (by simp [xfmZ])
theorem op10 (h : AtOp p e m x k f pc s out o) (hc : o.1 = 10) (hbad : ∀ o ∈ f.2.2.2, badTo f.2.2.2.length o = false) : RightM p e (doOp p m x o) := by
  have hd : doOp p m x o = putF m { x with pc := o.2 } := by simp [doOp, hc]
  rw [hd]
  have hb := hbad o (List.mem_of_getElem? h.op)
  have h0 : 0 ≤ o.2 := by simp [badTo, hc] at hb; omega
  have hgo : goesOn f.2.2.2 pc o.2.toNat = true := by
    unfold goesOn
    rw [h.op]
    simp [hc]
    omega
  exact h.go (t := []) (l := []) (res := []) (by simp [xafZ, hc, xaqZ, xauZ]) hgo (by omega) rfl (by simp) h.frame.loc h.frame.okl h.right.blocks (Nat.le_refl _) h.right.inp h.right.out (by simp [xfmZ])
theorem op11 (h : AtOp p e m x k f pc s out o) (hc : o.1 = 11) (hbad : ∀ o ∈ f.2.2.2, badTo f.2.2.2.length o = false) : RightM p e (doOp p m x o) := by
  have hd : doOp p m x o = putF m { x with pc := if (topV x.stk 0).2 = 0 then o.2 else x.pc + 1, stk := cutV x.stk 1 } := by simp [doOp, hc]
  rw [hd]
  have hb := hbad o (List.mem_of_getElem? h.op)
  have h0 : 0 ≤ o.2 := by simp [badTo, hc] at hb; omega
  have htl : xafZ p f o s = some ([1], []) := by simp [xafZ, hc, xaqZ, xauZ]
  by_cases hz : (topV x.stk 0).2 = 0
  · rw [if_pos hz]
    have hgo : goesOn f.2.2.2 pc o.2.toNat = true := by
      unfold goesOn
      rw [h.op]
      simp [hc]
      omega
    exact h.go htl hgo (by omega) (res := []) rfl (by simp) h.frame.loc h.frame.okl h.right.blocks (Nat.le_refl _) h.right.inp h.right.out (by simp)
  · rw [if_neg hz]
    exact h.go htl (xc6Z h.op (by omega) (by omega)) (by rw [h.pcx]; rfl) (res := []) rfl (by simp) h.frame.loc h.frame.okl h.right.blocks (Nat.le_refl _) h.right.inp h.right.out (by simp)
theorem op20 (h : AtOp p e m x k f pc s out o) (hc : o.1 = 20) : RightM p e (doOp p m x o) := by
  have htl : xafZ p f o s = some ([1], []) := by simp [xafZ, hc, xaqZ, xauZ]
  by_cases h10 : m.out.length = 10
  · have hd : doOp p m x o = trapM m 5 := by simp [doOp, hc, h10]
    rw [hd]
    exact xczZ h.right h.run (by omega)
  · have hd : doOp p m x o = { onF m x (cutV x.stk 1) with out := m.out ++ [(topV x.stk 0).2] } := by simp [doOp, hc, h10]
    rw [hd]
    obtain ⟨h1, h2⟩ := xbdZ h.stk h.try_ htl
    obtain ⟨hm, u, hu, hv⟩ := xi2Z h2 h1 0 (by simp)
    simp at hu
    subst hu
    have hi : isI32 (topV x.stk 0).2 = true := by
      have := h.frame.oks _ hm
      rw [okV, if_neg (by simp [asT_int hv])] at this
      exact this
    have hO := h.right.out
    exact h.next (by omega) (by omega) htl (res := []) rfl (by simp) h.right.blocks (Nat.le_refl _) h.right.inp ⟨by simp; omega, fun n hn => by
      rcases List.mem_append.1 hn with hn | hn
      · exact hO.2 n hn
      · simp at hn; subst hn; exact hi⟩ (by simp)
end
end Go.Proofs.YtmjjkenblfndgaaGreat


/- A step of a right machine is a right machine: ops that turn what is on top, locals, blocks. -/
namespace Go.Proofs.YtmjjkenblfndgaaGreat
open Go.RowKit
set_option linter.unusedSimpArgs false
set_option linter.unusedVariables false
section
variable {p : List Fn} {e : Nat → Nat → Option (List Int)} {m : Mach} {x : Frm} {k : Nat} {f : Fn} {pc : Nat} {s out : List Int} {o : Int × Int}
theorem drop_one {l : List Val} (h : 1 ≤ l.length) : l.drop (l.length - 1) = [topV l 0] := by
  apply List.ext_getElem?
  intro i
  rw [List.getElem?_drop]
  cases i with
  | zero =>
    unfold topV
    rw [List.getD_eq_getElem?_getD, List.getElem?_eq_getElem (by omega)]
    simp [List.getElem?_eq_getElem (show l.length - 1 < l.length by omega)]
  | succ i => rw [List.getElem?_eq_none (by omega)]; simp
theorem drop_two {l : List Val} (h : 2 ≤ l.length) : l.drop (l.length - 2) = [topV l 1, topV l 0] := by
  apply List.ext_getElem?
  intro i
  rw [List.getElem?_drop]
  match i with
  | 0 =>
    unfold topV
    simp [List.getD_eq_getElem?_getD, List.getElem?_eq_getElem (show l.length - 2 < l.length by omega), List.getElem?_eq_getElem (show l.length - 1 - 1 < l.length by omega), show l.length - 1 - 1 = l.length - 2 by omega]
  | 1 =>
    unfold topV
    simp [List.getD_eq_getElem?_getD, List.getElem?_eq_getElem (show l.length - 1 < l.length by omega), show l.length - 2 + 1 = l.length - 1 by omega]
  | i + 2 => rw [List.getElem?_eq_none (by omega)]; simp
theorem xj4Z {l : List Val} {j : Nat} (h : j < l.length) : topV l j ∈ l := by
  unfold topV
  rw [List.getD_eq_getElem?_getD, List.getElem?_eq_getElem (show l.length - 1 - j < l.length by omega)]
  exact List.getElem_mem _
theorem op2 (h : AtOp p e m x k f pc s out o) (hc : o.1 = 2) : RightM p e (doOp p m x o) := by
  have hd : doOp p m x o = onF m x (cutV x.stk 1) := by simp [doOp, hc]
  rw [hd]
  have hn : ¬ s.length < 1 := fun hl => by have := h.try_; simp [tryOp, xafZ, hc, hl] at this
  exact h.plain (by omega) (by omega) (t := s.drop (s.length - 1)) (l := []) (res := []) (by unfold xafZ; rw [if_pos hc, if_neg hn]) rfl (by simp) (by simp; congr 1; omega)
theorem op3 (h : AtOp p e m x k f pc s out o) (hc : o.1 = 3) : RightM p e (doOp p m x o) := by
  have hd : doOp p m x o = onF m x (cutV x.stk 1 ++ [topV x.stk 0, topV x.stk 0]) := by simp [doOp, hc]
  rw [hd]
  have hn : ¬ s.length < 1 := fun hl => by have := h.try_; simp [tryOp, xafZ, hc, hl] at this
  have hl := xa6Z h.stk
  have ha := xeuZ (x.stk.length - 1) h.stk
  rw [drop_one (by omega), hl] at ha
  have hm := h.frame.oks _ (xj4Z (l := x.stk) (j := 0) (by omega))
  exact h.plain (by omega) (by omega) (t := s.drop (s.length - 1)) (l := s.drop (s.length - 1) ++ s.drop (s.length - 1)) (res := [topV x.stk 0, topV x.stk 0]) (by unfold xafZ; rw [if_neg (by omega), if_pos hc, if_neg hn]) (xc9Z ha ha) (by intro v hv; simp at hv; subst hv; exact hm) (by congr 2; simp; omega)
theorem op4 (h : AtOp p e m x k f pc s out o) (hc : o.1 = 4) : RightM p e (doOp p m x o) := by
  have hd : doOp p m x o = onF m x (cutV x.stk 2 ++ [topV x.stk 0, topV x.stk 1]) := by simp [doOp, hc]
  rw [hd]
  have hn : ¬ s.length < 2 := fun hl => by have := h.try_; simp [tryOp, xafZ, hc, hl] at this
  have hl := xa6Z h.stk
  have ha := xmxZ (xeuZ (x.stk.length - 2) h.stk)
  rw [drop_two (by omega), hl] at ha
  have h0 := h.frame.oks _ (xj4Z (l := x.stk) (j := 0) (by omega))
  have h1 := h.frame.oks _ (xj4Z (l := x.stk) (j := 1) (by omega))
  exact h.plain (by omega) (by omega) (t := s.drop (s.length - 2)) (l := (s.drop (s.length - 2)).reverse) (res := [topV x.stk 0, topV x.stk 1]) (by simp [xafZ, hc]; omega) ha (by intro v hv; simp at hv; rcases hv with rfl | rfl <;> assumption) (by congr 2; simp; omega)
theorem op8 (h : AtOp p e m x k f pc s out o) (hc : o.1 = 8) (ho : 0 ≤ o.2 ∧ o.2 < (f.2.1.length : Int)) (hty : ∀ t ∈ f.2.1, 1 ≤ t ∧ t ≤ 2) : RightM p e (doOp p m x o) := by
  have hd : doOp p m x o = onF m x (x.stk ++ [x.loc.getD o.2.toNat (false, 0)]) := by simp [doOp, hc]
  rw [hd]
  have hll := xa6Z h.frame.loc
  obtain ⟨t, ht⟩ := xagZ (l := f.2.1) (k := o.2.toNat) (by omega)
  obtain ⟨v, hv⟩ := xagZ (l := x.loc) (k := o.2.toNat) (by omega)
  have ha := xf8Z h.frame.loc _ _ _ hv ht
  have ht0 := hty t (List.mem_of_getElem? ht)
  rw [List.getD_eq_getElem?_getD, hv, Option.getD_some]
  exact h.plain (by omega) (by omega) (t := []) (l := [t]) (res := [v]) (by simp [xafZ, hc, xaqZ, xauZ, List.getD_eq_getElem?_getD, ht]) (by simp [areOf, ha]) (by intro u hu; simp at hu; subst hu; exact h.frame.okl _ (List.mem_of_getElem? hv)) (by simp [xfmZ])
theorem op9 (h : AtOp p e m x k f pc s out o) (hc : o.1 = 9) (ho : 0 ≤ o.2 ∧ o.2 < (f.2.1.length : Int)) (hty : ∀ t ∈ f.2.1, 1 ≤ t ∧ t ≤ 2) : RightM p e (doOp p m x o) := by
  have hd : doOp p m x o = putF m { x with pc := x.pc + 1, loc := x.loc.set o.2.toNat (topV x.stk 0), stk := cutV x.stk 1 } := by simp [doOp, hc]
  rw [hd]
  obtain ⟨t, ht⟩ := xagZ (l := f.2.1) (k := o.2.toNat) (by omega)
  have htl : xafZ p f o s = some ([t], []) := by simp [xafZ, hc, xaqZ, xauZ, List.getD_eq_getElem?_getD, ht]
  obtain ⟨h1, h2⟩ := xbdZ h.stk h.try_ htl
  obtain ⟨hm, u, hu, hv⟩ := xi2Z h2 h1 0 (by simp)
  simp at hu
  subst hu
  refine h.go htl (xc6Z h.op (by omega) (by omega)) (by rw [h.pcx]; rfl) (res := []) rfl (by simp) (xluZ h.frame.loc _ _ _ ht hv) (fun w hw => ?_) h.right.blocks (Nat.le_refl _) h.right.inp h.right.out (by simp)
  rcases List.mem_or_eq_of_mem_set hw with hw | hw
  · exact h.frame.okl w hw
  · subst hw; exact h.frame.oks _ hm
theorem num_at (h : AtOp p e m x k f pc s out o) {t l : List Int} (htl : xafZ p f o s = some (t, l)) (j : Nat) (hj : j < t.length) (h1 : t[t.length - 1 - j]? = some 1) : isI32 (topV x.stk j).2 = true := by
  obtain ⟨a, b⟩ := xbdZ h.stk h.try_ htl
  obtain ⟨hm, u, hu, hv⟩ := xi2Z b a j hj
  rw [h1] at hu
  cases hu
  have := h.frame.oks _ hm
  rw [okV, if_neg (by simp [asT_int hv])] at this
  exact this
theorem ref_at (h : AtOp p e m x k f pc s out o) {t l : List Int} (htl : xafZ p f o s = some (t, l)) (j : Nat) (hj : j < t.length) (h1 : t[t.length - 1 - j]? = some 2) : 0 ≤ (topV x.stk j).2 ∧ (topV x.stk j).2 ≤ (m.blocks.length : Int) := by
  obtain ⟨a, b⟩ := xbdZ h.stk h.try_ htl
  obtain ⟨hm, u, hu, hv⟩ := xi2Z b a j hj
  rw [h1] at hu
  cases hu
  have := h.frame.oks _ hm
  rw [okV, if_pos (asT_ref hv)] at this
  simpa using this
theorem op17 (h : AtOp p e m x k f pc s out o) (hc : o.1 = 17) : RightM p e (doOp p m x o) := by
  have htl : xafZ p f o s = some ([2], [1]) := by simp [xafZ, hc, xaqZ, xauZ]
  have hr := ref_at h htl 0 (by simp) rfl
  by_cases hz : (topV x.stk 0).2 = 0
  · have hd : doOp p m x o = trapM m 1 := by simp [doOp, hc, hz]
    rw [hd]
    exact xczZ h.right h.run (by omega)
  · have hd : doOp p m x o = onF m x (cutV x.stk 1 ++ [(false, ((blkAt m.blocks (topV x.stk 0).2).length : Int))]) := by simp [doOp, hc, hz]
    rw [hd]
    obtain ⟨b, hb⟩ := xagZ (l := m.blocks) (k := ((topV x.stk 0).2 - 1).toNat) (by omega)
    have hbl : (blkAt m.blocks (topV x.stk 0).2).length ≤ 40 := by
      rw [xdjZ hb (by omega)]
      have := xfyZ hb
      have := (xceZ h.right.blocks).2.1
      omega
    exact h.plain (by omega) (by omega) htl (res := [(false, ((blkAt m.blocks (topV x.stk 0).2).length : Int))]) (by simp [areOf, asT]) (by intro v hv; simp at hv; subst hv; apply xf6Z; simp [isI32]; omega) rfl
theorem op15 (h : AtOp p e m x k f pc s out o) (hc : o.1 = 15) : RightM p e (doOp p m x o) := by
  have htl : xafZ p f o s = some ([2, 1], [1]) := by simp [xafZ, hc, xaqZ, xauZ]
  by_cases h5 : xa0Z m.blocks (topV x.stk 1).2 (topV x.stk 0).2 = 5
  · have hd : doOp p m x o = trapM m 1 := by simp [doOp, hc, h5]
    rw [hd]
    exact xczZ h.right h.run (by omega)
  · by_cases h0 : xa0Z m.blocks (topV x.stk 1).2 (topV x.stk 0).2 = 0
    · have hd : doOp p m x o = onF m x (cutV x.stk 2 ++ [(false, getL m.blocks (topV x.stk 1).2 (topV x.stk 0).2)]) := by simp [doOp, hc, h0]
      rw [hd]
      have hi : isI32 (getL m.blocks (topV x.stk 1).2 (topV x.stk 0).2) = true := by
        unfold getL blkAt
        cases hb : m.blocks[((topV x.stk 1).2 - 1).toNat]? with
        | none => simp [isI32]
        | some b =>
          simp only [Option.getD_some]
          cases hn : b[(topV x.stk 0).2.toNat]? with
          | none => rfl
          | some n => exact (xceZ h.right.blocks).2.2 b (List.mem_of_getElem? hb) n (List.mem_of_getElem? hn)
      exact h.plain (by omega) (by omega) htl (res := [(false, getL m.blocks (topV x.stk 1).2 (topV x.stk 0).2)]) (by simp [areOf, asT]) (by simpa using xf6Z hi) rfl
    · have hd : doOp p m x o = trapM m 2 := by simp [doOp, hc, h5, h0]
      rw [hd]
      exact xczZ h.right h.run (by omega)
end
end Go.Proofs.YtmjjkenblfndgaaGreat


/- A step of a right machine is a right machine: blocks that are made and set, calls and returns; all ops. -/
namespace Go.Proofs.YtmjjkenblfndgaaGreat
open Go.RowKit
set_option linter.unusedSimpArgs false
set_option linter.unusedVariables false
section
variable {p : List Fn} {e : Nat → Nat → Option (List Int)} {m : Mach} {x : Frm} {k : Nat} {f : Fn} {pc : Nat} {s out : List Int} {o : Int × Int}
theorem xoqZ {L : List (List Int)} {n : Int} (h : xbsZ L n = 0) : blkErr L = 0 ∧ 0 ≤ n ∧ L.length ≠ 8 ∧ n ≤ 40 - (xayZ L : Int) := by
  unfold xbsZ at h
  by_cases h1 : blkErr L ≠ 0
  · rw [if_pos h1] at h; exact absurd h h1
  rw [if_neg h1] at h
  by_cases h2 : n < 0
  · rw [if_pos h2] at h; cases h
  rw [if_neg h2] at h
  by_cases h3 : L.length = 8 ∨ 40 - (xayZ L : Int) < n
  · rw [if_pos h3] at h; cases h
  · exact ⟨by simpa using h1, by omega, by omega, by omega⟩
theorem op14 (h : AtOp p e m x k f pc s out o) (hc : o.1 = 14) : RightM p e (doOp p m x o) := by
  have htl : xafZ p f o s = some ([1], [2]) := by simp [xafZ, hc, xaqZ, xauZ]
  by_cases h0 : xbsZ m.blocks (topV x.stk 0).2 = 0
  · have hd : doOp p m x o = { onF m x (cutV x.stk 1 ++ [(true, (m.blocks.length : Int) + 1)]) with blocks := newL m.blocks (topV x.stk 0).2 } := by simp [doOp, hc, h0]
    rw [hd]
    obtain ⟨h1, h2, h3, h4⟩ := xoqZ h0
    obtain ⟨b1, b2, b3⟩ := xceZ h1
    have hlen : (newL m.blocks (topV x.stk 0).2).length = m.blocks.length + 1 := by simp [newL]
    refine h.next (by omega) (by omega) htl (res := [(true, (m.blocks.length : Int) + 1)]) (by simp [areOf, asT]) (by intro v hv; simp at hv; subst hv; exact okV_ref (by omega) (by rw [hlen]; omega)) (xlxZ (by omega) ?_ ?_) (by omega) h.right.inp h.right.out rfl
    · unfold newL
      rw [xftZ]
      simp [xayZ]
      simp [xayZ] at h4
      omega
    · intro b hb n hn
      rcases List.mem_append.1 hb with hb | hb
      · exact b3 b hb n hn
      · simp at hb
        subst hb
        rw [List.mem_replicate] at hn
        rw [hn.2]; rfl
  · have hd : doOp p m x o = trapM m 3 := by simp [doOp, hc, h0]
    rw [hd]
    exact xczZ h.right h.run (by omega)
theorem sum_set : ∀ (L : List (List Int)) (k : Nat) (b c : List Int), L[k]? = some b → c.length = b.length → xayZ (L.set k c) = xayZ L
  | [], k, b, c, h, _ => by simp at h
  | a :: r, 0, b, c, h, hl => by simp at h; subst h; simp [xayZ, hl]
  | a :: r, k + 1, b, c, h, hl => by
    have := sum_set r k b c (by simpa using h) hl
    simp [xayZ] at this ⊢
    exact this
theorem xoxZ {L : List (List Int)} {r a n : Int} (h : xbrZ L r a n = 0) : blkErr L = 0 ∧ r ≠ 0 ∧ 0 ≤ r ∧ r ≤ (L.length : Int) ∧ isI32 n = true := by
  unfold xbrZ at h
  by_cases h1 : xa0Z L r a ≠ 0
  · rw [if_pos h1] at h; exact absurd h h1
  rw [if_neg h1] at h
  have hn : isI32 n = true := by
    by_cases hn : isI32 n = true
    · exact hn
    · rw [if_neg hn] at h; cases h
  simp only [ne_eq, Decidable.not_not] at h1
  unfold xa0Z at h1
  by_cases h2 : blkErr L ≠ 0
  · rw [if_pos h2] at h1; exact absurd h1 h2
  rw [if_neg h2] at h1
  by_cases h3 : r = 0
  · rw [if_pos h3] at h1; cases h1
  rw [if_neg h3] at h1
  by_cases h4 : r < 0 ∨ (L.length : Int) < r ∨ a < 0 ∨ ((blkAt L r).length : Int) ≤ a
  · rw [if_pos h4] at h1; cases h1
  · exact ⟨by simpa using h2, h3, by omega, by omega, hn⟩
theorem op16 (h : AtOp p e m x k f pc s out o) (hc : o.1 = 16) : RightM p e (doOp p m x o) := by
  have htl : xafZ p f o s = some ([2, 1, 1], []) := by simp [xafZ, hc, xaqZ, xauZ]
  by_cases h5 : xbrZ m.blocks (topV x.stk 2).2 (topV x.stk 1).2 (topV x.stk 0).2 = 5
  · have hd : doOp p m x o = trapM m 1 := by simp [doOp, hc, h5]
    rw [hd]
    exact xczZ h.right h.run (by omega)
  · by_cases h0 : xbrZ m.blocks (topV x.stk 2).2 (topV x.stk 1).2 (topV x.stk 0).2 = 0
    · have hd : doOp p m x o = { onF m x (cutV x.stk 3) with blocks := setL m.blocks (topV x.stk 2).2 (topV x.stk 1).2 (topV x.stk 0).2 } := by simp [doOp, hc, h0]
      rw [hd]
      obtain ⟨h1, h2, h3, h4, h6⟩ := xoxZ h0
      obtain ⟨b1, b2, b3⟩ := xceZ h1
      obtain ⟨b, hb⟩ := xagZ (l := m.blocks) (k := ((topV x.stk 2).2 - 1).toNat) (by omega)
      have hba := xdjZ hb (ref := (topV x.stk 2).2) (by omega)
      have hlen : (setL m.blocks (topV x.stk 2).2 (topV x.stk 1).2 (topV x.stk 0).2).length = m.blocks.length := by simp [setL]
      refine h.next (by omega) (by omega) htl (res := []) rfl (by simp) (xlxZ (by omega) ?_ ?_) (by omega) h.right.inp h.right.out (by simp)
      · unfold setL
        rw [sum_set _ _ b _ hb (by rw [hba]; simp)]
        exact b2
      · intro c hcm n hn
        rcases List.mem_or_eq_of_mem_set hcm with hcm | hcm
        · exact b3 c hcm n hn
        · subst hcm
          rw [hba] at hn
          rcases List.mem_or_eq_of_mem_set hn with hn | hn
          · exact b3 b (List.mem_of_getElem? hb) n hn
          · subst hn; exact h6
    · have hd : doOp p m x o = trapM m 2 := by simp [doOp, hc, h5, h0]
      rw [hd]
      exact xczZ h.right h.run (by omega)
end
end Go.Proofs.YtmjjkenblfndgaaGreat


