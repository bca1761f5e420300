/- My texts Mg Mh Mq: what of them is needed, joined. -/
import Derived.Defers
import Derived.Recover
import Derived.Laws.Pointers
import Derived.Test.YtmjjkenblfndgaaGreatD11
import Derived.Test.YtmjjkenblfndgaaGreatD12
set_option maxRecDepth 100000
set_option maxHeartbeats 8000000
/- stride's ops: blocks, boxes, returns. -/
namespace Go.Proofs.YtmjjkenblfndgaaGreat
open Go.RowKit
set_option linter.unusedSimpArgs false
set_option linter.unusedVariables false
theorem xdfZ {W : World} {B : Nat} {u : Value} {L : List (List Int)} (h : xecZ W B u L) : ∃ p n cap, u = .slice p n cap := by
  obtain ⟨qq, h1, -⟩ := h
  obtain ⟨p, c, h2⟩ := xagZ h1
  exact ⟨p, _, c, h2⟩
theorem DAt.cells {w0 W : World} {b : Nat} {pv fv bv iv ov : Value} {q : List FV} {qb : List Value} {M : Mach} (h : DAt w0 W b pv fv bv iv ov q qb M) : W.cell? ⟨b, 0, none⟩ = some fv ∧ W.cell? ⟨b, 1, none⟩ = some bv ∧ W.cell? ⟨b, 2, none⟩ = some iv ∧ W.cell? ⟨b, 3, none⟩ = some ov ∧ W.cell? ⟨b, 4, none⟩ = some (.int .i64 M.status) ∧ W.cell? ⟨b, 5, none⟩ = some (.int .i64 M.trap) ∧ W.cell? ⟨b, 6, none⟩ = some pv := by
  refine ⟨?_, ?_, ?_, ?_, ?_, ?_, ?_⟩ <;> rw [xaaZ h.cell] <;> rfl
theorem DAt.setBl {w0 W : World} {b : Nat} {pv fv bv iv ov : Value} {q : List FV} {qb : List Value} {M : Mach} (h : DAt w0 W b pv fv bv iv ov q qb M) {W2 : World} {u : Value} {L : List (List Int)} (hb : Below W.heap.size W W2) (hu : xecZ W2 W.heap.size u L) : Doer w0 (W2.setCell ⟨b, 1, none⟩ u) b pv { M with blocks := L } := by
  obtain ⟨qb', h1, h2⟩ := hu
  have h' := h.below hb
  have hgs := xamZ W2 ⟨b, 1, none⟩ u
  have hty : TyRow W2 (some b) 162 := xa5Z h'.cell
  have hs := heap_setCell_same W2 b 1 _ _ u h'.cell
  have hlo : w0.heap.size ≤ W.heap.size := h.bel.size
  refine ⟨fv, u, iv, ov, q, qb', ⟨by simpa using hs, ⟨xarZ h'.own.fr hgs hty (by decide), h'.own.frs.keep hgs hty (by decide), xarZ (xapZ h1 hlo) hgs hty (by decide), ?_⟩, h'.bel.setCell h'.lo _, h'.lo⟩⟩
  refine BRows.keep ?_ hgs hty (by decide)
  refine ((h2.low hlo).cons (h'.own.out) (fun k y g h3 h4 h5 => ?_) (h'.own.rows.small _ (by simp))).cons (h'.own.inp) (fun k y g h3 h4 h5 => ?_) (h'.own.rows.small _ (by simp))
  · have a1 := (h.own.out.lt g h5).2
    have a2 := (h2.lt h3 h4).1
    omega
  · cases k with
    | zero =>
      simp at h3
      subst h3
      have := h'.own.rows.apart 0 1 iv ov g rfl rfl h5 h4
      omega
    | succ k =>
      have a1 := (h.own.inp.lt g h5).2
      have a2 := (h2.lt (k := k) (by simpa using h3) h4).1
      omega
theorem DAt.setSt {w0 W : World} {b : Nat} {pv fv bv iv ov : Value} {q : List FV} {qb : List Value} {M : Mach} (h : DAt w0 W b pv fv bv iv ov q qb M) (n : Int) : Doer w0 (W.setCell ⟨b, 4, none⟩ (.int .i64 n)) b pv { M with status := n } := by
  have hgs := xamZ W ⟨b, 4, none⟩ (.int .i64 n)
  have hty : TyRow W (some b) 162 := xa5Z h.cell
  have hs := heap_setCell_same W b 4 _ _ (.int .i64 n) h.cell
  have hk := h.own.keep hgs hty (by decide) (by decide) (by decide) (by decide)
  exact ⟨fv, bv, iv, ov, q, qb, ⟨by simpa using hs, ⟨hk.fr, hk.frs, hk.bl, hk.rows⟩, h.bel.setCell h.lo _, h.lo⟩⟩
theorem xm2Z (n : Int) (hn : n = 0) (w : World) : Calls Tryz.prog 196 #[.int .i64 n] w fun e w' => e = .returned (.tuple #[]) ∧ w' = w := by
  subst hn
  go_enter Tryz.func196, Tryz.ntmps196
  go_wp2
  exact bodyPost_ret (results_none rfl _ _ _) rfl ⟨rfl, rfl⟩
theorem xj5Z (n : Int) (hn : n = 5) (w : World) : Calls Tryz.prog 196 #[.int .i64 n] w fun e w' => e = .panicked [{ v := .iface 159 (.int .i64 1), recovered := false }] ∧ w' = w := by
  subst hn
  go_enter Tryz.func196, Tryz.ntmps196
  go_wp2
  exact ⟨rfl, rfl, rfl⟩
theorem xj4Z (n : Int) (h0 : n ≠ 0) (h5 : n ≠ 5) (w : World) : Calls Tryz.prog 196 #[.int .i64 n] w fun e w' => e = .panicked [{ v := .iface 159 (.int .i64 2), recovered := false }] ∧ w' = w := by
  have h0' : (n == 0) = false := by simp [h0]
  have h5' : (n == 5) = false := by simp [h5]
  go_enter Tryz.func196, Tryz.ntmps196
  go_wp2
  exact ⟨rfl, rfl, rfl⟩
theorem ub19z (w0 : World) (b : Nat) (pv : Value) (M : Mach) (D : List Frm) (x : Frm) (r : List Val) (v : Val) (w : World) (h : Doer w0 w b pv M) (hF : M.frames = D ++ [x]) (hD : D.length ≤ 100) (hl : x.stk.length ≤ 90) (hs : x.stk = r ++ [v]) (hz : v.2 = 0) : Calls Tryz.prog 148 #[.pointer (some ⟨b, 0, none⟩), .int .i64 19] w fun e w' => e = .returned (.tuple #[]) ∧ Doer w0 w' b pv { M with frames := D ++ [{ x with stk := r ++ [(false, 1)] }] } := by
  have hrl := xbmZ hs
  have hfd := xcsZ
  have hz' : (v.2 == 0) = true := by simp [hz]
  have H1 := hideP h
  clear h hz
  go_enter Tryz.func148, Tryz.ntmps148
  go_wp2_with (first
    | (go_at_call 186; refine (xaxZ w0 b pv M D x r v _ H1.out hF hs hD (by omega)).mono ?_; rintro e w2 ⟨rfl, h2, o2⟩; have H2 := hideP h2; have O2 := hideP o2; clear h2 o2)
    | (go_at_call 184; refine (xbzZ w0 b pv _ D _ _ _ H2.out rfl hD (by simp; omega)).mono ?_; rintro e w5 ⟨rfl, h5, -⟩; have H5 := hideP h5; clear h5))
  go_end0
  exact ⟨rfl, H5.out⟩
theorem ub19n (w0 : World) (b : Nat) (pv : Value) (M : Mach) (D : List Frm) (x : Frm) (r : List Val) (v : Val) (w : World) (h : Doer w0 w b pv M) (hF : M.frames = D ++ [x]) (hD : D.length ≤ 100) (hl : x.stk.length ≤ 90) (hs : x.stk = r ++ [v]) (hz : v.2 ≠ 0) : Calls Tryz.prog 148 #[.pointer (some ⟨b, 0, none⟩), .int .i64 19] w fun e w' => e = .returned (.tuple #[]) ∧ Doer w0 w' b pv { M with frames := D ++ [{ x with stk := r ++ [(false, 0)] }] } := by
  have hrl := xbmZ hs
  have hfd := xcsZ
  have hz' : (v.2 == 0) = false := by simp [hz]
  have H1 := hideP h
  clear h hz
  go_enter Tryz.func148, Tryz.ntmps148
  go_wp2_with (first
    | (go_at_call 186; refine (xaxZ w0 b pv M D x r v _ H1.out hF hs hD (by omega)).mono ?_; rintro e w2 ⟨rfl, h2, o2⟩; have H2 := hideP h2; have O2 := hideP o2; clear h2 o2)
    | (go_at_call 184; refine (xbzZ w0 b pv _ D _ _ _ H2.out rfl hD (by simp; omega)).mono ?_; rintro e w5 ⟨rfl, h5, -⟩; have H5 := hideP h5; clear h5))
  go_end0
  exact ⟨rfl, H5.out⟩
theorem ms_trap (w0 : World) (b : Nat) (pv : Value) (M : Mach) (D : List Frm) (x : Frm) (r : List Val) (v : Val) (w : World) (h : Doer w0 w b pv M) (hF : M.frames = D ++ [x]) (hD : D.length ≤ 100) (hl : x.stk.length ≤ 90) (hs : x.stk = r ++ [v]) (hz : v.2 = 0) : Calls Tryz.prog 198 #[.pointer (some ⟨b, 0, none⟩)] w fun e w' => e = .panicked [{ v := .iface 159 (.int .i64 1), recovered := false }] ∧ Below w0.heap.size w0 w' := by
  have hrl := xbmZ hs
  have hfd := xcsZ
  have hz' : (v.2 == 0) = true := by simp [hz]
  have H1 := hideP h
  clear h hz
  go_enter Tryz.func198, Tryz.ntmps198
  go_wp2_with (first
    | (go_at_call 186; refine (xaxZ w0 b pv M D x r v _ H1.out hF hs hD (by omega)).mono ?_; rintro e w2 ⟨rfl, h2, o2⟩; have H2 := hideP h2; have O2 := hideP o2; clear h2 o2))
  exact ⟨rfl, rfl, H2.out.bel⟩
theorem ms_ok (w0 : World) (b : Nat) (pv : Value) (M : Mach) (D : List Frm) (x : Frm) (r : List Val) (v : Val) (j : Nat) (bb : List Int) (w : World) (h : Doer w0 w b pv M) (hF : M.frames = D ++ [x]) (hD : D.length ≤ 100) (hl : x.stk.length ≤ 90) (hs : x.stk = r ++ [v]) (hz : v.2 = (j : Int) + 1) (hj : M.blocks[j]? = some bb) (hb8 : M.blocks.length ≤ 8) : Calls Tryz.prog 198 #[.pointer (some ⟨b, 0, none⟩)] w fun e w' => e = .returned (.tuple #[]) ∧ Doer w0 w' b pv { M with frames := D ++ [{ x with stk := r ++ [(false, (bb.length : Int))] }] } := by
  have hrl := xbmZ hs
  have hfd := xcsZ
  have hjl := xaeZ hj
  have hz' : (v.2 == 0) = false := by simp [hz]; omega
  have hz2 : wrap64 (v.2 - 1) = (j : Int) := by rw [hz]; unfold wrap64; omega
  have hz3 : v.2 - 1 = (j : Int) := by omega
  have hji : (j : Int) < (M.blocks.length : Int) := by omega
  have H1 := hideP h
  have HZ := hideP hz
  clear h hz
  go_enter Tryz.func198, Tryz.ntmps198
  go_wp2_with (first
    | (go_at_call 186; refine (xaxZ w0 b pv M D x r v _ H1.out hF hs hD (by omega)).mono ?_; rintro e w2 ⟨rfl, h2, -⟩; obtain ⟨fv2, bv2, iv2, ov2, q2, qb2, D2⟩ := h2; obtain ⟨pb, cb, hbv, -, hbc⟩ := xbxZ D2.own.blks; obtain ⟨gb, ob, cc, hpb, hgb, y0, ⟨pc, cc', hcc, -, -⟩, -, -⟩ := hbc j bb hj; have k1 := D2.cells.2.1; have k2 := y0; simp only at hbv; rw [hbv, hpb] at k1; rw [hcc] at k2; clear hbc hbv hpb hcc y0; have HD2 := hideP D2; clear D2)
    | (go_at_call 184; refine (xbzZ w0 b pv _ D _ _ _ ⟨_, _, _, _, _, _, HD2.out⟩ rfl hD (by simp; omega)).mono ?_; rintro e w5 ⟨rfl, h5, -⟩; have H5 := hideP h5; clear h5))
  go_end0
  exact ⟨rfl, H5.out⟩
theorem ub17t (w0 : World) (b : Nat) (pv : Value) (M : Mach) (D : List Frm) (x : Frm) (r : List Val) (v : Val) (w : World) (h : Doer w0 w b pv M) (hF : M.frames = D ++ [x]) (hD : D.length ≤ 100) (hl : x.stk.length ≤ 90) (hs : x.stk = r ++ [v]) (hz : v.2 = 0) : Calls Tryz.prog 148 #[.pointer (some ⟨b, 0, none⟩), .int .i64 17] w fun e w' => e = .panicked [{ v := .iface 159 (.int .i64 1), recovered := false }] ∧ Below w0.heap.size w0 w' := by
  have HC := hideP (ms_trap w0 b pv M D x r v w h hF hD hl hs hz)
  clear h
  go_enter Tryz.func148, Tryz.ntmps148
  go_wp2_with (go_at_call 198; refine HC.out.mono ?_; rintro e w2 ⟨rfl, h2⟩)
  exact ⟨rfl, rfl, h2⟩
theorem ub17o (w0 : World) (b : Nat) (pv : Value) (M : Mach) (D : List Frm) (x : Frm) (r : List Val) (v : Val) (j : Nat) (bb : List Int) (w : World) (h : Doer w0 w b pv M) (hF : M.frames = D ++ [x]) (hD : D.length ≤ 100) (hl : x.stk.length ≤ 90) (hs : x.stk = r ++ [v]) (hz : v.2 = (j : Int) + 1) (hj : M.blocks[j]? = some bb) (hb8 : M.blocks.length ≤ 8) : Calls Tryz.prog 148 #[.pointer (some ⟨b, 0, none⟩), .int .i64 17] w fun e w' => e = .returned (.tuple #[]) ∧ Doer w0 w' b pv { M with frames := D ++ [{ x with stk := r ++ [(false, (bb.length : Int))] }] } := by
  have HC := hideP (ms_ok w0 b pv M D x r v j bb w h hF hD hl hs hz hj hb8)
  clear h
  go_enter Tryz.func148, Tryz.ntmps148
  go_wp2_with (go_at_call 198; refine HC.out.mono ?_; rintro e w2 ⟨rfl, h2⟩; have H2 := hideP h2; clear h2)
  go_end0
  exact ⟨rfl, H2.out⟩
theorem ub15o (w0 : World) (b : Nat) (pv : Value) (M : Mach) (D : List Frm) (x : Frm) (r : List Val) (a v : Val) (w : World) (h : Doer w0 w b pv M) (hF : M.frames = D ++ [x]) (hD : D.length ≤ 100) (hl : x.stk.length ≤ 90) (hs : x.stk = r ++ [a, v]) (hr2 : -9223372036854775808 ≤ a.2 ∧ a.2 ≤ 9223372036854775807) (he : xa2Z M.blocks a.2 v.2 = 0) : Calls Tryz.prog 148 #[.pointer (some ⟨b, 0, none⟩), .int .i64 15] w fun e w' => e = .returned (.tuple #[]) ∧ Doer w0 w' b pv { M with frames := D ++ [{ x with stk := r ++ [(false, getR M.blocks a.2 v.2)] }] } := by
  have hs1 : x.stk = (r ++ [a]) ++ [v] := by rw [hs]; simp
  have hrl := xbmZ hs1
  simp at hrl
  have hfd := xcsZ
  have H1 := hideP h
  have HE := hideP he
  clear h hs he
  go_enter Tryz.func148, Tryz.ntmps148
  go_wp2_with (first
    | (go_at_call 186; refine (xaxZ w0 b pv M D x (r ++ [a]) v _ H1.out hF hs1 hD (by simp; omega)).mono ?_; rintro e w2 ⟨rfl, h2, o2⟩; have H2 := hideP h2; have O2 := hideP o2; clear h2 o2)
    | (go_at_call 186; refine (xaxZ w0 b pv _ D _ r a _ H2.out rfl rfl hD (by omega)).mono ?_; rintro e w3 ⟨rfl, h3, -⟩; obtain ⟨fv3, bv3, iv3, ov3, q3, qb3, D3⟩ := h3; have k1 := D3.cells.2.1; have HB := hideP (xbxZ D3.own.blks); have HD3 := hideP D3; clear D3)
    | (go_at_call 195; refine (xj6Z M.blocks a.2 v.2 hr2 _ _ HB.out).mono ?_; rintro e w4 ⟨rfl, b4⟩; have H4 := hideP (HD3.out.below b4); clear HD3 b4 k1)
    | (go_at_call 196; refine (xm2Z _ HE.out _).mono ?_; rintro e w5 ⟨rfl, hw5⟩; have hw5 := hw5.symm; subst hw5)
    | (go_at_call 184; refine (xbzZ w0 b pv _ D _ _ _ ⟨_, _, _, _, _, _, H4.out⟩ rfl hD (by simp; omega)).mono ?_; rintro e w6 ⟨rfl, h6, -⟩; have H6 := hideP h6; clear h6))
  go_end0
  exact ⟨rfl, H6.out⟩
theorem ub15n (w0 : World) (b : Nat) (pv : Value) (M : Mach) (D : List Frm) (x : Frm) (r : List Val) (a v : Val) (w : World) (h : Doer w0 w b pv M) (hF : M.frames = D ++ [x]) (hD : D.length ≤ 100) (hl : x.stk.length ≤ 90) (hs : x.stk = r ++ [a, v]) (hr2 : -9223372036854775808 ≤ a.2 ∧ a.2 ≤ 9223372036854775807) (he : xa2Z M.blocks a.2 v.2 = 5) : Calls Tryz.prog 148 #[.pointer (some ⟨b, 0, none⟩), .int .i64 15] w fun e w' => e = .panicked [{ v := .iface 159 (.int .i64 1), recovered := false }] ∧ Below w0.heap.size w0 w' := by
  have hs1 : x.stk = (r ++ [a]) ++ [v] := by rw [hs]; simp
  have hrl := xbmZ hs1
  simp at hrl
  have hfd := xcsZ
  have H1 := hideP h
  have HE := hideP he
  clear h hs he
  go_enter Tryz.func148, Tryz.ntmps148
  go_wp2_with (first
    | (go_at_call 186; refine (xaxZ w0 b pv M D x (r ++ [a]) v _ H1.out hF hs1 hD (by simp; omega)).mono ?_; rintro e w2 ⟨rfl, h2, o2⟩; have H2 := hideP h2; have O2 := hideP o2; clear h2 o2)
    | (go_at_call 186; refine (xaxZ w0 b pv _ D _ r a _ H2.out rfl rfl hD (by omega)).mono ?_; rintro e w3 ⟨rfl, h3, -⟩; obtain ⟨fv3, bv3, iv3, ov3, q3, qb3, D3⟩ := h3; have k1 := D3.cells.2.1; have HB := hideP (xbxZ D3.own.blks); have HD3 := hideP D3; clear D3)
    | (go_at_call 195; refine (xj6Z M.blocks a.2 v.2 hr2 _ _ HB.out).mono ?_; rintro e w4 ⟨rfl, b4⟩; have H4 := hideP (HD3.out.below b4); clear HD3 b4 k1)
    | (go_at_call 196; refine (xj5Z _ HE.out _).mono ?_; rintro e w5 ⟨rfl, hw5⟩; have hw5 := hw5.symm; subst hw5)
    | (go_at_call 184; refine (xbzZ w0 b pv _ D _ _ _ ⟨_, _, _, _, _, _, H4.out⟩ rfl hD (by simp; omega)).mono ?_; rintro e w6 ⟨rfl, h6, -⟩; have H6 := hideP h6; clear h6))
  exact ⟨rfl, rfl, H4.out.bel⟩
theorem ub15i (w0 : World) (b : Nat) (pv : Value) (M : Mach) (D : List Frm) (x : Frm) (r : List Val) (a v : Val) (w : World) (h : Doer w0 w b pv M) (hF : M.frames = D ++ [x]) (hD : D.length ≤ 100) (hl : x.stk.length ≤ 90) (hs : x.stk = r ++ [a, v]) (hr2 : -9223372036854775808 ≤ a.2 ∧ a.2 ≤ 9223372036854775807) (he : xa2Z M.blocks a.2 v.2 ≠ 0 ∧ xa2Z M.blocks a.2 v.2 ≠ 5) : Calls Tryz.prog 148 #[.pointer (some ⟨b, 0, none⟩), .int .i64 15] w fun e w' => e = .panicked [{ v := .iface 159 (.int .i64 2), recovered := false }] ∧ Below w0.heap.size w0 w' := by
  have hs1 : x.stk = (r ++ [a]) ++ [v] := by rw [hs]; simp
  have hrl := xbmZ hs1
  simp at hrl
  have hfd := xcsZ
  have H1 := hideP h
  have HE := hideP he
  clear h hs he
  go_enter Tryz.func148, Tryz.ntmps148
  go_wp2_with (first
    | (go_at_call 186; refine (xaxZ w0 b pv M D x (r ++ [a]) v _ H1.out hF hs1 hD (by simp; omega)).mono ?_; rintro e w2 ⟨rfl, h2, o2⟩; have H2 := hideP h2; have O2 := hideP o2; clear h2 o2)
    | (go_at_call 186; refine (xaxZ w0 b pv _ D _ r a _ H2.out rfl rfl hD (by omega)).mono ?_; rintro e w3 ⟨rfl, h3, -⟩; obtain ⟨fv3, bv3, iv3, ov3, q3, qb3, D3⟩ := h3; have k1 := D3.cells.2.1; have HB := hideP (xbxZ D3.own.blks); have HD3 := hideP D3; clear D3)
    | (go_at_call 195; refine (xj6Z M.blocks a.2 v.2 hr2 _ _ HB.out).mono ?_; rintro e w4 ⟨rfl, b4⟩; have H4 := hideP (HD3.out.below b4); clear HD3 b4 k1)
    | (go_at_call 196; refine (xj4Z _ HE.out.1 HE.out.2 _).mono ?_; rintro e w5 ⟨rfl, hw5⟩; have hw5 := hw5.symm; subst hw5)
    | (go_at_call 184; refine (xbzZ w0 b pv _ D _ _ _ ⟨_, _, _, _, _, _, H4.out⟩ rfl hD (by simp; omega)).mono ?_; rintro e w6 ⟨rfl, h6, -⟩; have H6 := hideP h6; clear h6))
  exact ⟨rfl, rfl, H4.out.bel⟩
theorem ub16o (w0 : World) (b : Nat) (pv : Value) (M : Mach) (D : List Frm) (x : Frm) (r : List Val) (c a v : Val) (w : World) (h : Doer w0 w b pv M) (hF : M.frames = D ++ [x]) (hD : D.length ≤ 100) (hl : x.stk.length ≤ 90) (hs : x.stk = r ++ [c, a, v]) (hr2 : -9223372036854775808 ≤ c.2 ∧ c.2 ≤ 9223372036854775807) (he : xbuZ M.blocks c.2 a.2 v.2 = 0) : Calls Tryz.prog 148 #[.pointer (some ⟨b, 0, none⟩), .int .i64 16] w fun e w' => e = .returned (.tuple #[]) ∧ Doer w0 w' b pv { M with frames := D ++ [{ x with stk := r }], blocks := setR M.blocks c.2 a.2 v.2 } := by
  have hs1 : x.stk = (r ++ [c, a]) ++ [v] := by rw [hs]; simp
  have hs2 : r ++ [c, a] = (r ++ [c]) ++ [a] := by simp
  have hrl := xbmZ hs1
  simp at hrl
  have hfd := xcsZ
  have H1 := hideP h
  have HE := hideP he
  clear h hs he
  go_enter Tryz.func148, Tryz.ntmps148
  go_wp2_with (first
    | (go_at_call 186; refine (xaxZ w0 b pv M D x (r ++ [c, a]) v _ H1.out hF hs1 hD (by simp; omega)).mono ?_; rintro e w2 ⟨rfl, h2, o2⟩; have H2 := hideP h2; have O2 := hideP o2; clear h2 o2)
    | (go_at_call 186; refine (xaxZ w0 b pv _ D _ (r ++ [c]) a _ H2.out rfl hs2 hD (by simp; omega)).mono ?_; rintro e w3 ⟨rfl, h3, o3⟩; have H3 := hideP h3; have O3 := hideP o3; clear h3 o3)
    | (go_at_call 186; refine (xaxZ w0 b pv _ D _ r c _ H3.out rfl rfl hD (by omega)).mono ?_; rintro e w4 ⟨rfl, h4, -⟩; obtain ⟨fv4, bv4, iv4, ov4, q4, qb4, D4⟩ := h4; have k1 := D4.cells.2.1; have HB := hideP (xbxZ D4.own.blks); have HD4 := hideP D4; clear D4)
    | (go_at_call 197; refine (xj7Z M.blocks c.2 a.2 v.2 hr2 _ _ HB.out).mono ?_; rintro e w5 ⟨u, rfl, u5, b5⟩; obtain ⟨pu, nu, cu, hpu⟩ := xdfZ u5; subst hpu; have U5 := hideP u5; have B5 := hideP b5; have HD5 := hideP (HD4.out.below b5); have m1 := HD5.out.cells.2.1; have z1 : w5.frozen? ⟨b, 1, none⟩ = false := Lib.frozen_of_heap HD5.out.cell 1; clear u5 b5 k1)
    | (go_at_call 196; refine (xm2Z _ HE.out _).mono ?_; rintro e w6 ⟨rfl, hw6⟩; have hw6 := hw6.symm; subst hw6))
  go_end0
  exact ⟨rfl, HD4.out.setBl B5.out U5.out⟩
theorem ub16n (w0 : World) (b : Nat) (pv : Value) (M : Mach) (D : List Frm) (x : Frm) (r : List Val) (c a v : Val) (w : World) (h : Doer w0 w b pv M) (hF : M.frames = D ++ [x]) (hD : D.length ≤ 100) (hl : x.stk.length ≤ 90) (hs : x.stk = r ++ [c, a, v]) (hr2 : -9223372036854775808 ≤ c.2 ∧ c.2 ≤ 9223372036854775807) (he : xbuZ M.blocks c.2 a.2 v.2 = 5) : Calls Tryz.prog 148 #[.pointer (some ⟨b, 0, none⟩), .int .i64 16] w fun e w' => e = .panicked [{ v := .iface 159 (.int .i64 1), recovered := false }] ∧ Below w0.heap.size w0 w' := by
  have hs1 : x.stk = (r ++ [c, a]) ++ [v] := by rw [hs]; simp
  have hs2 : r ++ [c, a] = (r ++ [c]) ++ [a] := by simp
  have hrl := xbmZ hs1
  simp at hrl
  have hfd := xcsZ
  have H1 := hideP h
  have HE := hideP he
  clear h hs he
  go_enter Tryz.func148, Tryz.ntmps148
  go_wp2_with (first
    | (go_at_call 186; refine (xaxZ w0 b pv M D x (r ++ [c, a]) v _ H1.out hF hs1 hD (by simp; omega)).mono ?_; rintro e w2 ⟨rfl, h2, o2⟩; have H2 := hideP h2; have O2 := hideP o2; clear h2 o2)
    | (go_at_call 186; refine (xaxZ w0 b pv _ D _ (r ++ [c]) a _ H2.out rfl hs2 hD (by simp; omega)).mono ?_; rintro e w3 ⟨rfl, h3, o3⟩; have H3 := hideP h3; have O3 := hideP o3; clear h3 o3)
    | (go_at_call 186; refine (xaxZ w0 b pv _ D _ r c _ H3.out rfl rfl hD (by omega)).mono ?_; rintro e w4 ⟨rfl, h4, -⟩; obtain ⟨fv4, bv4, iv4, ov4, q4, qb4, D4⟩ := h4; have k1 := D4.cells.2.1; have HB := hideP (xbxZ D4.own.blks); have HD4 := hideP D4; clear D4)
    | (go_at_call 197; refine (xj7Z M.blocks c.2 a.2 v.2 hr2 _ _ HB.out).mono ?_; rintro e w5 ⟨u, rfl, u5, b5⟩; obtain ⟨pu, nu, cu, hpu⟩ := xdfZ u5; subst hpu; have U5 := hideP u5; have B5 := hideP b5; have HD5 := hideP (HD4.out.below b5); have m1 := HD5.out.cells.2.1; have z1 : w5.frozen? ⟨b, 1, none⟩ = false := Lib.frozen_of_heap HD5.out.cell 1; clear u5 b5 k1)
    | (go_at_call 196; refine (xj5Z _ HE.out _).mono ?_; rintro e w6 ⟨rfl, hw6⟩; have hw6 := hw6.symm; subst hw6))
  exact ⟨rfl, rfl, HD5.out.bel⟩
theorem ub16i (w0 : World) (b : Nat) (pv : Value) (M : Mach) (D : List Frm) (x : Frm) (r : List Val) (c a v : Val) (w : World) (h : Doer w0 w b pv M) (hF : M.frames = D ++ [x]) (hD : D.length ≤ 100) (hl : x.stk.length ≤ 90) (hs : x.stk = r ++ [c, a, v]) (hr2 : -9223372036854775808 ≤ c.2 ∧ c.2 ≤ 9223372036854775807) (he : xbuZ M.blocks c.2 a.2 v.2 ≠ 0 ∧ xbuZ M.blocks c.2 a.2 v.2 ≠ 5) : Calls Tryz.prog 148 #[.pointer (some ⟨b, 0, none⟩), .int .i64 16] w fun e w' => e = .panicked [{ v := .iface 159 (.int .i64 2), recovered := false }] ∧ Below w0.heap.size w0 w' := by
  have hs1 : x.stk = (r ++ [c, a]) ++ [v] := by rw [hs]; simp
  have hs2 : r ++ [c, a] = (r ++ [c]) ++ [a] := by simp
  have hrl := xbmZ hs1
  simp at hrl
  have hfd := xcsZ
  have H1 := hideP h
  have HE := hideP he
  clear h hs he
  go_enter Tryz.func148, Tryz.ntmps148
  go_wp2_with (first
    | (go_at_call 186; refine (xaxZ w0 b pv M D x (r ++ [c, a]) v _ H1.out hF hs1 hD (by simp; omega)).mono ?_; rintro e w2 ⟨rfl, h2, o2⟩; have H2 := hideP h2; have O2 := hideP o2; clear h2 o2)
    | (go_at_call 186; refine (xaxZ w0 b pv _ D _ (r ++ [c]) a _ H2.out rfl hs2 hD (by simp; omega)).mono ?_; rintro e w3 ⟨rfl, h3, o3⟩; have H3 := hideP h3; have O3 := hideP o3; clear h3 o3)
    | (go_at_call 186; refine (xaxZ w0 b pv _ D _ r c _ H3.out rfl rfl hD (by omega)).mono ?_; rintro e w4 ⟨rfl, h4, -⟩; obtain ⟨fv4, bv4, iv4, ov4, q4, qb4, D4⟩ := h4; have k1 := D4.cells.2.1; have HB := hideP (xbxZ D4.own.blks); have HD4 := hideP D4; clear D4)
    | (go_at_call 197; refine (xj7Z M.blocks c.2 a.2 v.2 hr2 _ _ HB.out).mono ?_; rintro e w5 ⟨u, rfl, u5, b5⟩; obtain ⟨pu, nu, cu, hpu⟩ := xdfZ u5; subst hpu; have U5 := hideP u5; have B5 := hideP b5; have HD5 := hideP (HD4.out.below b5); have m1 := HD5.out.cells.2.1; have z1 : w5.frozen? ⟨b, 1, none⟩ = false := Lib.frozen_of_heap HD5.out.cell 1; clear u5 b5 k1)
    | (go_at_call 196; refine (xj4Z _ HE.out.1 HE.out.2 _).mono ?_; rintro e w6 ⟨rfl, hw6⟩; have hw6 := hw6.symm; subst hw6))
  exact ⟨rfl, rfl, HD5.out.bel⟩
end Go.Proofs.YtmjjkenblfndgaaGreat


/- stride's ops: new blocks, boxes, returns. -/
namespace Go.Proofs.YtmjjkenblfndgaaGreat
open Go.RowKit
set_option linter.unusedSimpArgs false
set_option linter.unusedVariables false
structure FAt (w0 W : World) (b : Nat) (pv fv bv iv ov : Value) (q : List FV) (qb : List Value) (M : Mach) (k : Nat) (iw : Value) (I : List Int) : Prop where
  cell : W.heap[b]? = some (.cells #[fv, bv, iv, ov, .int .i64 M.status, .int .i64 M.trap, pv] 162 (0, 0))
  own : MOwn W w0.heap.size fv bv iw ov q qb { M with inp := I }
  bel : Below w0.heap.size w0 W
  rest : M.inp = I.drop k
  val : (k = 0 ∧ iv = iw) ∨ ∃ g n cap j c, iw = .slice (some ⟨g, 0, none⟩) n cap ∧ iv = .slice (some ⟨g, j, none⟩) (n - k) c ∧ (j = k ∧ k ≤ n ∨ n - k = 0 ∧ c = 0) ∧ n - k ≤ c ∧ j + c ≤ cap ∧ n ≤ 1000
def Fin (w0 W : World) (b : Nat) (pv : Value) (M : Mach) : Prop := ∃ fv bv iv ov q qb k iw I, FAt w0 W b pv fv bv iv ov q qb M k iw I
theorem Doer.fin {w0 W : World} {b : Nat} {pv : Value} {M : Mach} (h : Doer w0 W b pv M) : Fin w0 W b pv M := by
  obtain ⟨fv, bv, iv, ov, q, qb, h⟩ := h
  exact ⟨fv, bv, iv, ov, q, qb, 0, iv, M.inp, h.cell, h.own, h.bel, rfl, .inl ⟨rfl, rfl⟩⟩
theorem row_cap {W : World} {B : Nat} {e : TypeId} {size n m cap : Nat} {p : Option Addr} {xs : List Value} (h : W.ownsRow B e size (.slice p m cap) n xs) (hn : 0 < n) : ∃ g, p = some ⟨g, 0, none⟩ ∧ m = n ∧ n ≤ cap := by
  rcases h.2 with ⟨h1, h0⟩ | ⟨g, cap', cur, h1, _, _, h2, h3, _⟩
  · omega
  · cases h1
    exact ⟨g, rfl, rfl, by omega⟩
theorem rc_any (w0 : World) (b : Nat) (pv : Value) (M : Mach) (D : List Frm) (x : Frm) (n : Int) (I : List Int) (w : World) (h : Doer w0 w b pv M) (hF : M.frames = D ++ [x]) (hD : D.length ≤ 100) (hl : x.stk.length ≤ 90) (hi : M.inp = n :: I) (hil : M.inp.length ≤ 100) : Calls Tryz.prog 150 #[.pointer (some ⟨b, 0, none⟩)] w fun e w' => e = .returned (.tuple #[]) ∧ Fin w0 w' b pv { M with frames := D ++ [{ x with stk := x.stk ++ [(false, n)] }], inp := I } := by
  obtain ⟨fv, bv, iv, ov, q, qb, D0⟩ := h
  obtain ⟨p, cap, hiv⟩ := xagZ D0.own.inp
  have hin := D0.own.inp
  rw [hiv] at hin
  obtain ⟨g, hp, -, hcap⟩ := row_cap hin (by rw [hi]; simp)
  have hin2 := xbyZ rfl hin
  subst hp
  have hlen : M.inp.length = I.length + 1 := by rw [hi]; simp
  have k2 := D0.cells.2.2.1
  rw [hiv] at k2
  obtain ⟨p', cap', hv', -, hcc⟩ := hin2
  obtain ⟨b', off', hb', hbl, e0⟩ := hcc 0 n (by rw [hi]; rfl)
  cases hv'
  cases hb'
  simp only [Nat.add_zero] at e0
  rw [hlen] at k2
  have HD0 := hideP D0
  have HI := hideP hi
  have HV := hideP hiv
  have hc0 : (0 : Int) ≤ (cap : Int) - 1 := by omega
  have hgb : g ≠ b := fun e => by
    obtain ⟨cs, hh⟩ := xd8Z (g := g) hin rfl
    rw [e, D0.cell] at hh
    simp at hh
  clear D0 hcc hin hi hiv
  go_enter Tryz.func150, Tryz.ntmps150
  go_wp2_with (go_at_call 184; refine (xbzZ w0 b pv M D x _ _ ⟨_, _, _, _, _, _, HD0.out⟩ hF hD (by omega)).mono ?_; rintro e w2 ⟨rfl, h2, o2⟩; obtain ⟨fv2, bv2, iv2, ov2, q2, qb2, D2⟩ := h2; have j2 := D2.cells.2.2.1; have hiv2 : iv2 = .slice (some ⟨g, 0, none⟩) (I.length + 1) cap := (by have := (xaaZ (o2 _ _ _ _ HD0.out.cell (by decide) (by decide)) 2).symm.trans (D2.cells.2.2.1); rw [HV.out, hlen] at this; simpa using this.symm); rw [hiv2] at j2; have z2 := Lib.frozen_of_heap D2.cell 2; have HD2 := hideP D2; have HV2 := hideP hiv2; clear D2 o2 hiv2)
  · first | go_end0 | refine bodyPost_ret (results_none rfl _ _ _) rfl ?_
    have D2 := HD2.out
    have hgs := xamZ w2 ⟨b, 2, none⟩ (.slice (some ⟨g, 0, none⟩) I.length 0)
    have hty : TyRow w2 (some b) 162 := xa5Z D2.cell
    have hs := heap_setCell_same w2 b 2 _ _ (.slice (some ⟨g, 0, none⟩) I.length 0) D2.cell
    have hk := D2.own.keep hgs hty (by decide) (by decide) (by decide) (by decide)
    have hrows := hk.rows
    simp only at hrows
    rw [HI.out] at hrows
    exact ⟨rfl, fv2, bv2, .slice (some ⟨g, 0, none⟩) I.length 0, ov2, q2, qb2, 1, iv2, n :: I, by simpa using hs, ⟨hk.fr, hk.frs, hk.bl, hrows⟩, D2.bel.setCell D2.lo _, rfl, .inr ⟨g, I.length + 1, cap, 0, 0, HV2.out, by simp, by omega, by omega, by omega, by omega⟩⟩
  · first | go_end0 | refine bodyPost_ret (results_none rfl _ _ _) rfl ?_
    have D2 := HD2.out
    have hgs := xamZ w2 ⟨b, 2, none⟩ (.slice (some ⟨g, 1, none⟩) I.length (cap - 1))
    have hty : TyRow w2 (some b) 162 := xa5Z D2.cell
    have hs := heap_setCell_same w2 b 2 _ _ (.slice (some ⟨g, 1, none⟩) I.length (cap - 1)) D2.cell
    have hk := D2.own.keep hgs hty (by decide) (by decide) (by decide) (by decide)
    have hrows := hk.rows
    simp only at hrows
    rw [HI.out] at hrows
    exact ⟨rfl, fv2, bv2, .slice (some ⟨g, 1, none⟩) I.length (cap - 1), ov2, q2, qb2, 1, iv2, n :: I, by simpa using hs, ⟨hk.fr, hk.frs, hk.bl, hrows⟩, D2.bel.setCell D2.lo _, rfl, .inr ⟨g, I.length + 1, cap, 1, (cap - 1), HV2.out, by simp, by omega, by omega, by omega, by omega⟩⟩
theorem nb_trap (w0 : World) (b : Nat) (pv : Value) (M : Mach) (D : List Frm) (x : Frm) (r : List Val) (v : Val) (w : World) (h : Doer w0 w b pv M) (hF : M.frames = D ++ [x]) (hD : D.length ≤ 100) (hl : x.stk.length ≤ 90) (hs : x.stk = r ++ [v]) (hsz : -9223372036854775808 ≤ v.2 ∧ v.2 ≤ 9223372036854775807) (he : xbwZ M.blocks v.2 ≠ 0) : Calls Tryz.prog 194 #[.pointer (some ⟨b, 0, none⟩)] w fun e w' => e = .panicked [{ v := .iface 159 (.int .i64 3), recovered := false }] ∧ Below w0.heap.size w0 w' := by
  have hrl := xbmZ hs
  have hfd := xcsZ
  obtain ⟨g, cap, bv, iv, ov, q, c, qb, H0⟩ := h.open hF
  have k1 := H0.at_.cells.2.1
  obtain ⟨pb, nb, cb, hbv⟩ := xdfZ H0.at_.own.blks
  rw [hbv] at k1
  have HV := hideP hbv
  have H1 := hideP H0
  have HE := hideP he
  clear h H0 he hbv
  go_enter Tryz.func194, Tryz.ntmps194
  go_wp2_with fail
  go_region_held3 (fun W => W.cell? ⟨b, 1, none⟩ = some (.slice pb nb cb)) (first | go_keep | exact n1)
    (first
      | (go_at_call 186; (refine (xaxZ w0 b pv M D x r v _ (H1.out.below ((Below.refl _ w).drew)).doer hF hs hD (by omega)).mono ?_); rintro e w2 ⟨rfl, h2, o2⟩; obtain ⟨og, oj⟩ := o2 _ _ _ (H1.out.below ((Below.refl _ w).drew)).fcell; have n1 := og.cell (H1.out.below ((Below.refl _ w).drew)).at_.cells.2.1 (fun e => (H1.out.below ((Below.refl _ w).drew)).gne (by simpa using e)); obtain ⟨fv2, bv2, iv2, ov2, q2, qb2, D2⟩ := h2; have hbv2 : bv2 = .slice pb nb cb := (by have := n1.symm.trans D2.cells.2.1; rw [HV.out] at this; simpa using this.symm); rw [HV.out] at n1; subst hbv2; have HD2 := hideP D2; clear D2 o2 og oj)
      | (go_at_call 226; (refine (bNew_any M.blocks v.2 hsz _ _ (xbxZ HD2.out.own.blks)).mono ?_); rintro e w3 ⟨u, rfl, u3, b3⟩; obtain ⟨pu, nu, cu, hpu⟩ := xdfZ u3; subst hpu; have HD3 := hideP (HD2.out.below b3); have n1 := HD3.out.cells.2.1; have z1 := Lib.frozen_of_heap HD3.out.cell 1; have U3 := hideP u3; have B3 := hideP b3; clear u3 b3))
  have he' : (xbwZ M.blocks v.2 != 0) = true := by simpa using HE.out
  go_wp2
  exact ⟨rfl, rfl, HD3.out.bel⟩
theorem nb_ok (w0 : World) (b : Nat) (pv : Value) (M : Mach) (D : List Frm) (x : Frm) (r : List Val) (v : Val) (w : World) (h : Doer w0 w b pv M) (hF : M.frames = D ++ [x]) (hD : D.length ≤ 100) (hl : x.stk.length ≤ 90) (hs : x.stk = r ++ [v]) (hsz : -9223372036854775808 ≤ v.2 ∧ v.2 ≤ 9223372036854775807) (he : xbwZ M.blocks v.2 = 0) : Calls Tryz.prog 194 #[.pointer (some ⟨b, 0, none⟩)] w fun e w' => e = .returned (.tuple #[]) ∧ Doer w0 w' b pv { M with frames := D ++ [{ x with stk := r ++ [(true, xhyZ M.blocks v.2)] }], blocks := newR M.blocks v.2 } := by
  have hrl := xbmZ hs
  have hfd := xcsZ
  obtain ⟨g, cap, bv, iv, ov, q, c, qb, H0⟩ := h.open hF
  have k1 := H0.at_.cells.2.1
  obtain ⟨pb, nb, cb, hbv⟩ := xdfZ H0.at_.own.blks
  rw [hbv] at k1
  have HV := hideP hbv
  have H1 := hideP H0
  have HE := hideP he
  clear h H0 he hbv
  go_enter Tryz.func194, Tryz.ntmps194
  go_wp2_with fail
  go_region_held3 (fun W => W.cell? ⟨b, 1, none⟩ = some (.slice pb nb cb)) (first | go_keep | exact n1)
    (first
      | (go_at_call 186; (refine (xaxZ w0 b pv M D x r v _ (H1.out.below ((Below.refl _ w).drew)).doer hF hs hD (by omega)).mono ?_); rintro e w2 ⟨rfl, h2, o2⟩; obtain ⟨og, oj⟩ := o2 _ _ _ (H1.out.below ((Below.refl _ w).drew)).fcell; have n1 := og.cell (H1.out.below ((Below.refl _ w).drew)).at_.cells.2.1 (fun e => (H1.out.below ((Below.refl _ w).drew)).gne (by simpa using e)); obtain ⟨fv2, bv2, iv2, ov2, q2, qb2, D2⟩ := h2; have hbv2 : bv2 = .slice pb nb cb := (by have := n1.symm.trans D2.cells.2.1; rw [HV.out] at this; simpa using this.symm); rw [HV.out] at n1; subst hbv2; have HD2 := hideP D2; clear D2 o2 og oj)
      | (go_at_call 226; (refine (bNew_any M.blocks v.2 hsz _ _ (xbxZ HD2.out.own.blks)).mono ?_); rintro e w3 ⟨u, rfl, u3, b3⟩; obtain ⟨pu, nu, cu, hpu⟩ := xdfZ u3; subst hpu; have HD3 := hideP (HD2.out.below b3); have n1 := HD3.out.cells.2.1; have z1 := Lib.frozen_of_heap HD3.out.cell 1; have U3 := hideP u3; have B3 := hideP b3; clear u3 b3))
  rw [HE.out]
  go_wp2_with (go_at_call 185; refine (xjzZ w0 b pv _ D _ _ _ (HD2.out.setBl B3.out U3.out) rfl hD (by simp; omega)).mono ?_; rintro e w5 ⟨rfl, h5, -⟩; have H5 := hideP h5; clear h5)
  go_end0
  have := H5.out
  exact ⟨rfl, this⟩
theorem xfxZ {P : Program} {ops : Array Oper} {o : Oper} {a : Act} {w : World} {K : Act → World → Prop} {Q : Exit → Act → World → Prop} {E : Prop}
    (hg : o.guard = none) (s x : Operand) (t : TypeId) (hop : o.op = Op.call { callee := Callee.builtin Builtin.append, args := #[s, x], argTypes := #[t, t] })
    (base : Nat) (e : TypeId) (i : TypeInfo) (z : Value) (size bytes : Nat) (h1 : P.underlying t = some (.slice e)) (h2 : P.info? e = some i) (h3 : i.zero = some z) (h4 : i.size = size) (h5 : i.bytes = bytes) (h6 : z.cells.size = size) (h7 : 0 < size)
    (v : Value) (n : Nat) (xs : List Value) (hs : a.eval s = v) (hown : w.ownsRow base e size v n xs)
    (ad : Addr) (m c : Nat) (news : List Value) (hx : a.eval x = .slice (some ad) m c) (hn : news.length = m * size) (hc : ∀ j u, news[j]? = some u → w.cell? (ad.add j) = some u) (h1c : ∀ u ∈ news, u.oneCell' = true)
    (b1 : n + m ≤ maxLen) (b2 : (n + m) * bytes ≤ 140737488355328) (hbase : base ≤ w.heap.size)
    (hK : ∀ v' w', w'.ownsRow base e size v' (n + m) (xs ++ news) → w.grownBy w' v.ownBlock → (v'.ownBlock = v.ownBlock ∨ v'.ownBlock = some w.heap.size) → K (a.put o.dst v') w') :
    if Region.wanted o (yielded ops a.tmps) = true then Oper.wp P o a w K Q else E := by
  have hw : Region.wanted o (yielded ops a.tmps) = true := by simp [Region.wanted, hg]
  rw [if_pos hw]
  obtain ⟨v', w', hrun, r1, r2, _, r3⟩ := run_append_own_at (P := P) w base t o.type e i z size bytes h1 h2 h3 h4 h5 h6 h7 v n xs hown ad m c news hn hc h1c b1 b2 hbase
  unfold Oper.wp
  simp [execOp, hop, resolve, invoke, builtin, hs, hx, hrun, Result.andThen]
  exact hK v' w' r1 r2 r3
theorem BRows.swap {W W' : World} {B : Nat} {q : List Value} {L : List (List Int)} {k : Nat} {x y : Value} {b : List Int} (h : BRows W B q L) (hk : q[k]? = some x) (hg : W.grownBy W' x.ownBlock) (hy : W'.ownsRow B 3 1 y b.length (b.map (Value.int .i64))) (hat : ∀ g, y.ownBlock = some g → x.ownBlock = some g ∨ W.heap.size ≤ g) (hb : b.length ≤ 17592186044416) : BRows W' B (q.set k y) (L.set k b) := by
  have hlt := xaeZ hk
  refine ⟨by simp [h.len], fun i z c hz hc => ?_, fun i j z u g hz hu gz gu => ?_, fun c hc => ?_⟩
  · by_cases e : k = i
    · subst e
      rw [List.getElem?_set_self hlt] at hz
      rw [List.getElem?_set_self (by rw [← h.len]; exact hlt)] at hc
      cases hz; cases hc
      exact hy
    · rw [List.getElem?_set_ne e] at hz hc
      refine xayZ (h.each i z c hz hc) fun g hgz => hg.block g (h.lt hz hgz).2.1 fun e2 => ?_
      exact e (h.apart k i x z g hk hz e2.symm hgz)
  · by_cases e : k = i
    · by_cases e' : k = j
      · omega
      · subst e
        rw [List.getElem?_set_self hlt] at hz
        rw [List.getElem?_set_ne e'] at hu
        cases hz
        rcases hat g gz with h1 | h1
        · exact h.apart k j x u g hk hu h1 gu
        · have := (h.lt hu gu).2.1; omega
    · rw [List.getElem?_set_ne e] at hz
      by_cases e' : k = j
      · subst e'
        rw [List.getElem?_set_self hlt] at hu
        cases hu
        rcases hat g gu with h1 | h1
        · exact h.apart i k z x g hz hk gz h1
        · have := (h.lt hz gz).2.1; omega
      · rw [List.getElem?_set_ne e'] at hu
        exact h.apart i j z u g hz hu gz gu
  · rcases List.mem_or_eq_of_mem_set hc with h1 | rfl
    · exact h.small c h1
    · exact hb
theorem DAt.setOut {w0 W : World} {b : Nat} {pv fv bv iv ov : Value} {q : List FV} {qb : List Value} {M : Mach} (h : DAt w0 W b pv fv bv iv ov q qb M) {W2 : World} {u : Value} {O : List Int} (hg : W.grownBy W2 ov.ownBlock) (hr : W2.ownsRow w0.heap.size 3 1 u O.length (O.map (Value.int .i64))) (hat : ∀ z, u.ownBlock = some z → ov.ownBlock = some z ∨ W.heap.size ≤ z) (hO : O.length ≤ 40) : Doer w0 (W2.setCell ⟨b, 3, none⟩ u) b pv { M with out := O } := by
  have hty : TyRow W ov.ownBlock 3 := xd1Z h.own.out
  have hcell2 : W2.heap[b]? = _ := (hg.block b h.lt (fun e => by
    obtain ⟨cs, fz, hh⟩ := hty b e.symm
    rw [h.cell] at hh; simp at hh)).trans h.cell
  have hgs := xamZ W2 ⟨b, 3, none⟩ u
  have hty2 : TyRow W2 (some b) 162 := xa5Z hcell2
  have hs := heap_setCell_same W2 b 3 _ _ u hcell2
  have hrows := h.own.rows.swap (k := 1) rfl hg hr hat (by omega)
  refine ⟨fv, bv, iv, u, q, qb, ⟨by simpa using hs, ⟨xarZ (xarZ h.own.fr hg hty (by decide)) hgs hty2 (by decide), (h.own.frs.keep hg hty (by decide)).keep hgs hty2 (by decide), xarZ (xarZ h.own.bl hg hty (by decide)) hgs hty2 (by decide), BRows.keep hrows hgs hty2 (by decide)⟩, (h.bel.grown hg h.bel.size (fun k hk => (h.own.out.lt k hk).1)).setCell h.lo _, h.lo⟩⟩
theorem sd_trap (w0 : World) (b : Nat) (pv : Value) (M : Mach) (D : List Frm) (x : Frm)  (w : World) (h : Doer w0 w b pv M) (hF : M.frames = D ++ [x]) (hD : D.length ≤ 100) (hl : x.stk.length ≤ 90) (ho : M.out.length = 10) : Calls Tryz.prog 149 #[.pointer (some ⟨b, 0, none⟩)] w fun e w' => e = .panicked [{ v := .iface 159 (.int .i64 5), recovered := false }] ∧ Below w0.heap.size w0 w' := by
  obtain ⟨fv, bv, iv, ov, q, qb, D0⟩ := h
  have k3 := D0.cells.2.2.2.1
  obtain ⟨po, co, hov⟩ := xagZ D0.own.out
  rw [hov, ho] at k3
  have HD0 := hideP D0
  clear D0
  go_enter Tryz.func149, Tryz.ntmps149
  go_wp2
  exact ⟨rfl, rfl, HD0.out.bel⟩
theorem sd_ok (w0 : World) (b : Nat) (pv : Value) (M : Mach) (D : List Frm) (x : Frm) (r : List Val) (v : Val) (w : World) (h : Doer w0 w b pv M) (hF : M.frames = D ++ [x]) (hD : D.length ≤ 100) (hl : x.stk.length ≤ 90) (hs : x.stk = r ++ [v]) (ho : M.out.length < 10) : Calls Tryz.prog 149 #[.pointer (some ⟨b, 0, none⟩)] w fun e w' => e = .returned (.tuple #[]) ∧ Doer w0 w' b pv { M with frames := D ++ [{ x with stk := r }], out := M.out ++ [v.2] } := by
  have hrl := xbmZ hs
  have hfd := xcsZ
  obtain ⟨i0, hi, hz0, hz1, hz2⟩ := info_parts xgoZ
  obtain ⟨g, cap, bv, iv, ov, q, c, qb, H0⟩ := h.open hF
  have k3 := H0.at_.cells.2.2.2.1
  obtain ⟨po, co, hov⟩ := xagZ H0.at_.own.out
  rw [hov] at k3
  have ho' : ((M.out.length : Int) == 10) = false := by simp; omega
  have HV := hideP hov
  have H1 := hideP H0
  clear h H0 hov
  go_enter Tryz.func149, Tryz.ntmps149
  go_wp2_with fail
  go_region_law
    (first
      | (refine xfxZ rfl _ _ 46 rfl w0.heap.size 3 i0 (.int .i64 0) 1 8 Tryz.underlying46 hi hz0 hz1 hz2 rfl (by decide) _ _ _ rfl (HROW.out.alloc _) ⟨w2.heap.size, 0, none⟩ 1 1 [.int .i64 v.2] rfl rfl (xfzZ (by rw [xaaZ (World.alloc_heap_new w2 (.cells #[.int .i64 v.2] 3)) 0]; rfl)) (by simp [Value.oneCell']) (by unfold maxLen; omega) (by omega) (by have := HD2.out.bel.size; simp; omega) ?_; intro v' w4 hown4 hg4 hat4; obtain ⟨g4, cap4, hv4⟩ := ownsRow_succ hown4; subst hv4; have hb4 := (hg4.block b (xacZ (xajZ HD2.out.cell _)) (xcyZ HROW.out HD2.out.cell (by decide))).trans (xajZ HD2.out.cell _); have m4 := xaaZ hb4 3; have z4 := Lib.frozen_of_heap hb4 3; simp at m4; have HO4 := hideP hown4; have HG4 := hideP hg4; have HAT4 := hideP hat4; clear hown4 hg4 hb4 hat4)
      | (go_simp; go_at_call 186; (refine (xaxZ w0 b pv M D x r v _ (H1.out.below ((Below.refl _ w).drew)).doer hF hs hD (by omega)).mono ?_); rintro e w2 ⟨rfl, h2, o2⟩; obtain ⟨og, oj⟩ := o2 _ _ _ (H1.out.below ((Below.refl _ w).drew)).fcell; have n3 := og.cell (H1.out.below ((Below.refl _ w).drew)).at_.cells.2.2.2.1 (fun e => (H1.out.below ((Below.refl _ w).drew)).gne (by simpa using e)); obtain ⟨fv2, bv2, iv2, ov2, q2, qb2, D2⟩ := h2; have hov2 : ov2 = .slice po M.out.length co := (by have := n3.symm.trans D2.cells.2.2.2.1; rw [HV.out] at this; simpa using this.symm); rw [HV.out] at n3; subst hov2; have HD2 := hideP D2; have HROW : Hid (w2.ownsRow w0.heap.size 3 1 (.slice po M.out.length co) M.out.length (M.out.map (Value.int .i64))) := D2.own.out; have z3 := Lib.frozen_of_heap D2.cell 3; have zz3 := fun o => Lib.frozen_of_heap (xajZ D2.cell o) 3; have n33 := fun o => xabZ n3 o; clear D2 o2 og oj))
  all_goals
    go_wp2
    go_end0
    have hO := HO4.out
    refine ⟨rfl, (HD2.out.below ((Below.refl _ w2).alloc (Nat.le_refl _) _)).setOut HG4.out (by simpa using hO) (fun z hz => ?_) (by simp; omega)⟩
    rcases HAT4.out with h1 | h1
    · exact .inl (h1.symm.trans hz)
    · rw [h1] at hz; cases hz; exact .inr (Nat.le_refl _)
end Go.Proofs.YtmjjkenblfndgaaGreat


/- stride.Do: what is recovered. -/
namespace Go.Proofs.YtmjjkenblfndgaaGreat
open Go.RowKit
set_option linter.unusedSimpArgs false
set_option linter.unusedVariables false
theorem ta_nil (w : World) : (Instr.typeAssert Value.nilIface 20 159 true).run Tryz.prog w = .ok (.tuple #[.int .i64 0, .bool false]) w := by kernel_rfl
theorem ta_trap (why : Int) (w : World) : (Instr.typeAssert (.iface 159 (.int .i64 why)) 20 159 true).run Tryz.prog w = .ok (.tuple #[.int .i64 why, .bool true]) w := by kernel_rfl
theorem xkuZ (bm ba : Nat) (w : World) :
    CallsD Tryz.prog 110 #[.pointer (some ⟨bm, 0, none⟩), .pointer (some ⟨ba, 0, none⟩)] .returning w fun e u' w' => e = .returned (.tuple #[]) ∧ u' = .returning ∧ w' = w := by
  refine callsD_of_wpS Tryz.func110 rfl fun c₀ cs hu => ?_
  apply wpS_seq
  apply wpS_region
  simp [wpOpsS, go_sem, recoverD, hu, Tryz.ntmps110, Exit.thenS, ta_nil, Array.replicate_succ]
  refine wpS_of_wp ?_
  go_wp2
  refine ⟨rfl, .returning, ?_, .tuple #[], results_none rfl _ _ _, rfl, rfl, rfl⟩
  cases c₀
  simp_all
theorem xkvZ (M : Mach) (fv bv iv ov : Value) (bm ba : Nat) (why : Int) (w : World) (h : MachAt w fv bv iv ov M) (hsm : SmallM M) (hm : w.heap[bm]? = some (.cells #[fv, bv, iv, ov, .int .i64 M.status, .int .i64 M.trap] 48 (0, 0))) (ha : w.heap[ba]? = some (.cells #[.slice none 0 0, .slice none 0 0, .slice none 0 0, .slice none 0 0, .int .i64 0, .int .i64 0] 48 (0, 0))) :
    CallsD Tryz.prog 110 #[.pointer (some ⟨bm, 0, none⟩), .pointer (some ⟨ba, 0, none⟩)] (.panicking [{ v := .iface 159 (.int .i64 why), recovered := false }]) w fun e u' w' =>
      e = .returned (.tuple #[]) ∧ u' = .panicking [{ v := .iface 159 (.int .i64 why), recovered := true }] ∧ ∃ fv' bv' iv' ov' q qb w2, MOwn w2 w.heap.size fv' bv' iv' ov' q qb M ∧ Below w.heap.size w w2 ∧ w' = ((((((((w2.setCell ⟨ba, 0, none⟩ fv').setCell ⟨ba, 1, none⟩ bv').setCell ⟨ba, 2, none⟩ iv').setCell ⟨ba, 3, none⟩ ov').setCell ⟨ba, 4, none⟩ (.int .i64 M.status)).setCell ⟨ba, 5, none⟩ (.int .i64 M.trap)).setCell ⟨ba, 4, none⟩ (.int .i64 3)).setCell ⟨ba, 5, none⟩ (.int .i64 why)) := by
  have HF := hideP (xcgZ M fv bv iv ov w h hsm)
  have la := xacZ ha
  obtain ⟨pf, cf, hfv, -, -, -⟩ := id h.fr
  obtain ⟨pb, cb, hbv, -, -⟩ := id h.bl
  obtain ⟨pi, ci, hiv, -⟩ := h.inp.shp
  obtain ⟨po, co, hov, -⟩ := h.out.shp
  subst hfv hbv hiv hov
  have d0 : w.cell? ⟨bm, 0, none⟩ = some (.slice pf M.frames.length cf) := xaaZ hm 0
  have d1 : w.cell? ⟨bm, 1, none⟩ = some (.slice pb M.blocks.length cb) := xaaZ hm 1
  have d2 : w.cell? ⟨bm, 2, none⟩ = some (.slice pi M.inp.length ci) := xaaZ hm 2
  have d3 : w.cell? ⟨bm, 3, none⟩ = some (.slice po M.out.length co) := xaaZ hm 3
  have d4 : w.cell? ⟨bm, 4, none⟩ = some (.int .i64 M.status) := xaaZ hm 4
  have d5 : w.cell? ⟨bm, 5, none⟩ = some (.int .i64 M.trap) := xaaZ hm 5
  have HA := hideP ha
  clear h hsm hm ha
  generalize hR : (fun e u' w' => e = Ending.returned (.tuple #[]) ∧ u' = FrameMode.panicking [{ v := .iface 159 (.int .i64 why), recovered := true }] ∧ ∃ fv' bv' iv' ov' q qb w2, MOwn w2 w.heap.size fv' bv' iv' ov' q qb M ∧ Below w.heap.size w w2 ∧ w' = ((((((((w2.setCell ⟨ba, 0, none⟩ fv').setCell ⟨ba, 1, none⟩ bv').setCell ⟨ba, 2, none⟩ iv').setCell ⟨ba, 3, none⟩ ov').setCell ⟨ba, 4, none⟩ (.int .i64 M.status)).setCell ⟨ba, 5, none⟩ (.int .i64 M.trap)).setCell ⟨ba, 4, none⟩ (.int .i64 3)).setCell ⟨ba, 5, none⟩ (.int .i64 why))) = R
  have HR := hideP hR
  clear hR
  refine callsD_of_wpS Tryz.func110 rfl fun c₀ cs hu => ?_
  apply wpS_seq
  apply wpS_region
  simp [wpOpsS, go_sem, recoverD, hu, Tryz.ntmps110, Exit.thenS, ta_trap, Array.replicate_succ]
  refine wpS_of_wp ?_
  go_wp2_with fail
  refine HF.out.mono ?_
  rintro e w2 ⟨fv', bv', iv', ov', rfl, q, qb, hown, b2⟩
  obtain ⟨pf2, cf2, hfv⟩ := xagZ hown.fr
  obtain ⟨pb2, cb2, hbv⟩ := xagZ hown.bl
  obtain ⟨pi2, ci2, hiv⟩ := xagZ hown.inp
  obtain ⟨po2, co2, hov⟩ := xagZ hown.out
  subst hfv hbv hiv hov
  have ha2 := (b2.block _ la).trans HA.out
  have a0 := xaaZ ha2 0
  have a1 := xaaZ ha2 1
  have a2 := xaaZ ha2 2
  have a3 := xaaZ ha2 3
  have a4 := xaaZ ha2 4
  have a5 := xaaZ ha2 5
  simp at a0 a1 a2 a3 a4 a5
  have z := Lib.frozen_of_heap ha2
  have z0 := z 0
  have z1 := z 1
  have z2 := z 2
  have z3 := z 3
  have z4 := z 4
  have z5 := z 5
  have HO := hideP hown
  clear z hown ha2
  go_wp2
  refine ⟨rfl, _, rfl, .tuple #[], results_none rfl _ _ _, ?_⟩
  rw [← HR.out]
  exact ⟨rfl, rfl, _, _, _, _, q, qb, w2, HO.out, b2, rfl⟩
def MRes (W : World) (B : Nat) (fv bv iv ov : Value) (M : Mach) : Prop := ∃ q qb k iw I, MOwn W B fv bv iw ov q qb { M with inp := I } ∧ M.inp = I.drop k ∧ ((k = 0 ∧ iv = iw) ∨ ∃ g n cap j c, iw = .slice (some ⟨g, 0, none⟩) n cap ∧ iv = .slice (some ⟨g, j, none⟩) (n - k) c ∧ (j = k ∧ k ≤ n ∨ n - k = 0 ∧ c = 0) ∧ n - k ≤ c ∧ j + c ≤ cap ∧ n ≤ 1000)
theorem MOwn.res {W : World} {B : Nat} {fv bv iv ov : Value} {q : List FV} {qb : List Value} {M : Mach} (h : MOwn W B fv bv iv ov q qb M) : MRes W B fv bv iv ov M := ⟨q, qb, 0, iv, M.inp, h, rfl, .inl ⟨rfl, rfl⟩⟩
theorem MRes.below {W W' : World} {B : Nat} {fv bv iv ov : Value} {M : Mach} (h : MRes W B fv bv iv ov M) (hb : Below W.heap.size W W') : MRes W' B fv bv iv ov M := by
  obtain ⟨q, qb, k, iw, I, h1, h2, h3⟩ := h
  exact ⟨q, qb, k, iw, I, h1.below hb, h2, h3⟩
theorem MRes.low {W : World} {B B' : Nat} {fv bv iv ov : Value} {M : Mach} (h : MRes W B fv bv iv ov M) (hB : B' ≤ B) : MRes W B' fv bv iv ov M := by
  obtain ⟨q, qb, k, iw, I, h1, h2, h3⟩ := h
  exact ⟨q, qb, k, iw, I, h1.low hB, h2, h3⟩
theorem MRes.keep {W W' : World} {B : Nat} {t : TypeId} {fv bv iv ov : Value} {M : Mach} {row : Option Nat} (h : MRes W B fv bv iv ov M) (hg : W.grownBy W' row) (ht : TyRow W row t) (h1 : t ≠ 89) (h2 : t ≠ 113) (h3 : t ≠ 46) (h4 : t ≠ 3) : MRes W' B fv bv iv ov M := by
  obtain ⟨q, qb, k, iw, I, a1, a2, a3⟩ := h
  exact ⟨q, qb, k, iw, I, a1.keep hg ht h1 h2 h3 h4, a2, a3⟩
theorem MRes.at_ {W : World} {B : Nat} {fv bv iv ov : Value} {M : Mach} (h : MRes W B fv bv iv ov M) (h100 : M.inp.length ≤ 100) : MachAt W fv bv iv ov M := by
  obtain ⟨q, qb, k, iw, I, h1, h2, h3⟩ := h
  have hA := h1.at_
  refine ⟨hA.fr, hA.bl, ?_, hA.out⟩
  rcases h3 with ⟨rfl, rfl⟩ | ⟨g, n, cap, j, c, rfl, rfl, hj, hc⟩
  · rw [h2]; exact hA.inp
  · have hin := h1.inp
    obtain ⟨p, cc, hv⟩ := xagZ hin
    simp only at hv hin
    injection hv with _ hn _
    subst hn
    have hlen : M.inp.length = I.length - k := by rw [h2, List.length_drop]
    refine ⟨⟨_, c, by rw [hlen], by unfold maxLen; omega, fun i z hz => ?_⟩, xazZ _ _ _, fun p' n' c' e => by injection e with _ e2 e3; omega⟩
    have hil := xaeZ hz
    rw [h2, List.getElem?_drop] at hz
    have hjk : j = k := by rcases hj with h | h <;> omega
    subst hjk
    refine ⟨g, j, rfl, (hin.lt g rfl).2, ?_⟩
    rcases hin.2 with ⟨h4, _⟩ | ⟨g', cap', cur, h4, h5, h6, h7, h8, h9, h10⟩
    · cases h4
    · injection h4 with e1 _ _
      cases e1
      rw [xaaZ h6]
      have hm : (I.map (Value.int .i64))[j + i]? = some (.int .i64 z) := by rw [List.getElem?_map, hz]; rfl
      rw [← h10, List.getElem?_take] at hm
      split at hm
      · simpa using hm
      · cases hm
end Go.Proofs.YtmjjkenblfndgaaGreat


