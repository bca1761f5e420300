/- My texts Mi Mj Mk Zc Zf: what of them is needed, joined. -/
import Derived.ArgAppend
import Derived.Maps.AppendAt
import Derived.Test.YtmjjkenblfndgaaGreatC4
import Derived.Test.YtmjjkenblfndgaaGreatC10
import Derived.Test.YtmjjkenblfndgaaGreatC12
import Derived.Test.YtmjjkenblfndgaaGreatC13
import Derived.Test.YtmjjkenblfndgaaGreatC17
set_option maxRecDepth 100000
set_option maxHeartbeats 8000000
/- stride.Begin; slices.Backward at values. -/
namespace Go.Proofs.YtmjjkenblfndgaaGreat
open Go.RowKit Go.Shelf
set_option linter.unusedSimpArgs false
set_option linter.unusedVariables false
attribute [local go_sem] Oper.semAt_some
theorem made_vals (n : Nat) : (madeCells (Value.agg #[.bool false, .int .i64 0]).cells (n * 2)).toList = valCells (List.replicate n (false, 0)) := by
  have h : (Value.agg #[.bool false, .int .i64 0]).cells = #[.bool false, .int .i64 0] := rfl
  rw [h]
  apply List.ext_getElem?
  intro k
  by_cases hk : k < n * 2
  · have hq : k / 2 < n := by omega
    obtain ⟨a0, a1⟩ := xcnZ (List.replicate n (false, 0)) (k / 2) (false, 0) (by simp [hq])
    have hm : k % 2 = 0 ∨ k % 2 = 1 := by omega
    rcases hm with hm | hm
    · rw [show k / 2 * 2 = k by omega] at a0
      rw [a0]; simp [madeCells, hk, hm]
    · rw [show k / 2 * 2 + 1 = k by omega] at a1
      rw [a1]; simp [madeCells, hk, hm]
  · rw [List.getElem?_eq_none (by simp [madeCells]; omega), List.getElem?_eq_none (by rw [xe2Z]; simp; omega)]
theorem xm7Z (l : List Val) (k : Nat) (b c : Bool) (n : Int) (h : l[k]? = some (c, n)) : (valCells l).set (k * 2) (.bool b) = valCells (l.set k (b, n)) := by
  induction l generalizing k with
  | nil => simp at h
  | cons y r ih =>
    cases k with
    | zero => simp at h; subst h; simp [valCells]
    | succ k =>
      have := ih k (by simpa using h)
      rw [show (k + 1) * 2 = k * 2 + 1 + 1 from by omega]
      simpa [valCells] using this
theorem xejZ (ts : List Int) : (xa6Z ts).length = ts.length := by simp [xa6Z]
theorem fresh_set (ts : List Int) (k : Nat) (t : Int) (h : ts[k]? = some t) : (xa6Z (ts.take k) ++ List.replicate (ts.length - k) (false, (0 : Int))).set k (decide (t = 2), 0) = xa6Z (ts.take (k + 1)) ++ List.replicate (ts.length - (k + 1)) (false, 0) := by
  have hl := xadZ h
  have e1 : (xa6Z (ts.take k)).length = k := by rw [xejZ, List.length_take]; omega
  have e2 : List.replicate (ts.length - k) (false, (0 : Int)) = (false, 0) :: List.replicate (ts.length - (k + 1)) (false, 0) := by
    rw [show ts.length - k = ts.length - (k + 1) + 1 by omega]; rfl
  rw [List.set_append_right _ _ (by omega), e1, Nat.sub_self, e2, List.set_cons_zero, xa1Z ts k t h]
  simp [xa6Z]
theorem xloZ (p : List Fn) (pv : Value) (k : Nat) (f : Fn) (w : World) (hp : FnsAt w pv p) (hk : p[k]? = some f) (hL : f.2.1.length ≤ 100) : Calls Tryz.prog 83 #[.agg #[pv], .int .i64 k] w fun e w' => ∃ gl, e = .returned (.agg #[.int .i64 k, .int .i64 0, .slice (some ⟨gl, 0, none⟩) f.2.1.length f.2.1.length, .slice none 0 0]) ∧ w'.ownsRow w.heap.size 113 2 (.slice (some ⟨gl, 0, none⟩) f.2.1.length f.2.1.length) f.2.1.length (valCells (xa6Z f.2.1)) ∧ Below w.heap.size w w' := by
  obtain ⟨i0, hi, hz0, hz1, hz2⟩ := info_parts infoVal
  obtain ⟨P, L, r, C⟩ := f
  simp only at hL
  obtain ⟨pp, qp, hpv, hpm, hpc⟩ := id hp
  subst hpv
  unfold maxLen at hpm
  obtain ⟨b, off, c0, c1, c2, c3, hpp, hlt, y0, y1, y2, y3, hfn⟩ := hpc k _ hk
  subst hpp
  have hkp := xadZ hk
  have hkpi : (k : Int) < (p.length : Int) := by omega
  obtain ⟨-, hI, -, -⟩ := hfn
  obtain ⟨p1, q1, e1, -, hIc⟩ := id hI
  simp only at e1
  subst e1
  obtain ⟨W1, hW1⟩ : ∃ W1, (w.alloc (.cells #[.slice (some ⟨b, off, none⟩) p.length qp] 24)).alloc (.cells #[.int .i64 0, .int .i64 0, .slice none 0 0, .slice none 0 0] 89) = W1 := ⟨_, rfl⟩
  have b1 : Below w.heap.size w W1 := by rw [← hW1]; exact ((Below.refl _ w).alloc (Nat.le_refl _) _).alloc (by simp) _
  have x1 : W1.heap[w.heap.size]? = some (.cells #[.slice (some ⟨b, off, none⟩) p.length qp] 24 (0, 0)) := by rw [← hW1]; exact xalZ (World.alloc_heap_new w _) _
  have y1' : W1.heap[w.heap.size + 1]? = some (.cells #[.int .i64 0, .int .i64 0, .slice none 0 0, .slice none 0 0] 89 (0, 0)) := by rw [← hW1]; exact xazZ w _ _
  have lx := xacZ x1
  have ly := xacZ y1'
  have d0 : W1.cell? ⟨w.heap.size, 0, none⟩ = some (.slice (some ⟨b, off, none⟩) p.length qp) := xaaZ x1 0
  have d1 := (b1.cell (p := ⟨b, off + k * 4 + 1, none⟩) hlt).trans y1
  have hlt1 : b < W1.heap.size := Nat.lt_of_lt_of_le hlt b1.size
  have HI := hideP (hI.below b1)
  have HX := hideP x1
  have HY := hideP y1'
  clear hp hpc hk hI hIc x1 y1' y0 y1 y2 y3
  go_enter Tryz.func83, Tryz.ntmps83
  go_wp2_with (at_make; refine wpList_make_full _ rfl _ _ 87 rfl W1.heap.size 113 i0 (.agg #[.bool false, .int .i64 0]) 2 Tryz.underlying87 hi hz0 hz1 _ _ _ _ L.length rfl rfl (by omega) (by omega) (by rw [hz2]; omega) (by unfold maxLen; omega) (Nat.le_refl _) ?_; intro w2 hown2 hg2; rw [made_vals] at hown2; have b2 : Below W1.heap.size W1 w2 := (Below.refl _ W1).grown hg2 (Nat.le_refl _) (fun k hk => by cases hk); have HOWN2 := hideP hown2; have k0 := (b2.cell (p := ⟨w.heap.size, 0, none⟩) lx).trans d0; have k1 := (b2.cell (p := ⟨b, off + k * 4 + 1, none⟩) hlt1).trans d1; clear hown2 hg2)
  go_loopw [6, 7, 23] (fun _ _ i wr => ∃ (j : Nat), j ≤ L.length ∧ i = .int .i64 j ∧ wr.ownsRow W1.heap.size 113 2 (.slice (some ⟨W1.heap.size, 0, none⟩) L.length L.length) L.length (valCells (xa6Z (L.take j) ++ List.replicate (L.length - j) (false, 0))) ∧ Below W1.heap.size W1 wr) (fun _ _ i _ => L.length - (intOf i).toNat)
  case atStart => exact ⟨0, Nat.zero_le _, rfl, by simpa [xa6Z] using HOWN2.out, b2⟩
  case round =>
    rename World => w3
    obtain ⟨j, hj, rfl, hrow, b3⟩ := hrel
    by_cases hlt3 : j < L.length
    · have hlti : (j : Int) < (L.length : Int) := by omega
      obtain ⟨t, ht⟩ := xagZ hlt3
      obtain ⟨p2, q2, he2, -, hc2⟩ := HI.out.below b3
      cases he2
      obtain ⟨g2, off2, hp2, -, g0⟩ := hc2 j t ht
      subst hp2
      have hlen : (xa6Z (L.take j) ++ List.replicate (L.length - j) (false, (0 : Int))).length = L.length := by simp [xa6Z]; omega
      have hat : (xa6Z (L.take j) ++ List.replicate (L.length - j) (false, (0 : Int)))[j]? = some (false, 0) := by
        have e1 : (xa6Z (L.take j)).length = j := by rw [xejZ, List.length_take]; omega
        rw [List.getElem?_append_right (by omega), e1, Nat.sub_self]
        rw [List.getElem?_replicate]; simp; omega
      have hvr := xb6Z (l := xa6Z (L.take j) ++ List.replicate (L.length - j) (false, (0 : Int))) (by rw [hlen]; exact hrow)
      obtain ⟨pv2, cv2, he3, -, hc3⟩ := hvr
      rw [hlen] at he3
      cases he3
      obtain ⟨gg, oo, hgo, -, v0, -⟩ := hc3 j _ hat
      cases hgo
      simp only [Nat.zero_add] at v0
      obtain ⟨cur, hcur⟩ := xdnZ (g := W1.heap.size) hrow rfl
      have z0 := Lib.frozen_of_heap hcur (j * 2)
      have HROW := hideP hrow
      have HT := hideP ht
      have HAT := hideP hat
      clear hc2 hc3 hcur hrow ht hat hlen
      go_wp2
      go_roundw
      case rel =>
        refine ⟨j + 1, by omega, by go_num, ?_, b3.setCell (p := ⟨W1.heap.size, j * 2, none⟩) (Nat.le_refl _) _⟩
        have h1 := xbnZ HROW.out (j * 2) (.bool (t == 2))
        rw [xm7Z _ j (t == 2) false 0 HAT.out] at h1
        have h2 := fresh_set L j t HT.out
        rw [show (decide (t = 2)) = (t == 2) from rfl] at h2
        rw [h2] at h1
        exact h1
      case measure => simp [intOf]; omega
    · have hlti : ¬ (j : Int) < (L.length : Int) := by omega
      have hjl : j = L.length := by omega
      subst hjl
      have HROW := hideP hrow
      have y3 := (b3.block _ ly).trans HY.out
      have yc0 := xaaZ y3 0
      have yc1 := xaaZ y3 1
      have yc2 := xaaZ y3 2
      have yc3 := xaaZ y3 3
      simp at yc0 yc1 yc2 yc3
      have yz := Lib.frozen_of_heap y3
      have yz0 := yz 0
      have yz1 := yz 1
      have yz2 := yz 2
      have yz3 := yz 3
      clear hrow yz y3
      go_wp2
      refine bodyPost_ret (v := .agg #[.int .i64 k, .int .i64 0, .slice (some ⟨W1.heap.size, 0, none⟩) L.length L.length, .slice none 0 0]) (by simp [results, Tryz.results83, go_sem, yc0, yc1, yc2, yc3]) rfl ?_
      have hfg := xkdZ w3 (w.heap.size + 1) 0 (.int .i64 k) (.int .i64 0) (.slice (some ⟨W1.heap.size, 0, none⟩) L.length L.length) (.slice none 0 0)
      simp only [Nat.zero_add] at hfg
      have hrow3 := HROW.out
      rw [List.take_of_length_le (Nat.le_refl _), Nat.sub_self, List.replicate_zero, List.append_nil] at hrow3
      refine ⟨_, rfl, xasZ (xapZ hrow3 b1.size) hfg (xatZ ((b3.block _ ly).trans HY.out)) (by decide), (b1.trans (b3.mono b1.size)).grown hfg (by have := b1.size; have := b3.size; omega) (fun j hj => by cases hj; omega)⟩
def downs : Nat → List Nat
  | 0 => []
  | k + 1 => k :: downs k
theorem xh0Z (k : Nat) : (downs k).length = k := by
  induction k with
  | zero => rfl
  | succ k ih => simp [downs, ih]
abbrev ItV (n : Nat) := { x : Nat × Val // x.1 < n }
abbrev encsV {n : Nat} (x : ItV n) : Array Value := #[.int .i64 x.1.1, .agg #[.bool x.1.2.1, .int .i64 x.1.2.2]]
def HasV (bs : Nat) (p : Option Addr) (n c : Nat) (W : World) : Prop := Boxed W bs 87 (.slice p n c) ∧ ∃ l : List Val, l.length = n ∧ ValsAt W (.slice p n c) l
def KpV (bs : Nat) (p : Option Addr) (n c : Nat) (W W' : World) : Prop := HasV bs p n c W → HasV bs p n c W'
theorem backV1_in (n : Nat) (hn : 1 ≤ n) (l bs N : Nat) (p : Option Addr) (c : Nat) (hN : N ≤ 100) (J Jx : List (ItV N) → World → Prop) (W : World)
    (hY : ∀ pre x W1, J pre W1 → pre.length < N → YieldAt Fence.wide (n - 1) Tryz.prog l (encsV x) W1 fun e W' =>
      (e = .returned (.bool true) ∧ J (pre ++ [x]) W' ∧ KpV bs p N c W1 W') ∨ (e = .returned (.bool false) ∧ Jx (pre ++ [x]) W'))
    (hB : HasV bs p N c W) (h0 : J [] W) :
    CallsIn Fence.wide n Tryz.prog 237 #[.func (.yield l) #[] #[], .pointer (some ⟨bs, 0, none⟩)] W fun e W' => (∃ v, e = .returned v) ∧
      ((∃ ys, ys.map (fun y => y.1.1) = downs N ∧ J ys W') ∨ (∃ pre, True ∧ Jx pre W')) := by
  refine callsIn_of_wp Tryz.func237 rfl trivial ?_ rfl
  simp only [Tryz.ntmps237, List.size_toArray, List.length_cons, List.length_nil, Nat.reduceAdd, Nat.reduceSub, Array.replicate_succ, Array.replicate_zero, List.push_toArray, List.append_toArray, List.nil_append, List.cons_append]
  have hc0 := hB.1.cell
  have hwr : wrap64 ((N : Int) - 1) = (N : Int) - 1 := by unfold wrap64; omega
  have HB := hideP hB
  have HY := hideP hY
  clear hB hY
  gi_wp2
  gi_loopw [3] (fun a wr => ∃ (k : Nat) (pre : List (ItV N)), a = .int .i64 ((k : Int) - 1) ∧ k ≤ N ∧ downs N = pre.map (fun y => y.1.1) ++ downs k ∧ J pre wr ∧ HasV bs p N c wr) (fun a _ => (intOf a + 1).toNat)
  case atStart => exact ⟨N, [], rfl, Nat.le_refl _, rfl, h0, HB.out⟩
  case round =>
    obtain ⟨k, pre, rfl, hk, hit, hJ, hBx⟩ := hrel
    have HT := hideP hit
    clear hit
    have hcx := hBx.1.cell
    cases k with
    | zero =>
      rw [show ((0 : Nat) : Int) - 1 = -1 by omega]
      gi_wp2
      go_end0
      refine ⟨⟨_, rfl⟩, .inl ?_⟩
      exact ⟨pre, by rw [HT.out]; simp [downs], hJ⟩
    | succ m =>
      rw [show ((m + 1 : Nat) : Int) - 1 = (m : Int) by omega]
      obtain ⟨-, L, hL, hVx⟩ := id hBx
      obtain ⟨z, hz⟩ := xagZ (show m < L.length by omega)
      obtain ⟨p', c', he, _, hcc⟩ := hVx
      obtain ⟨b, off, hp, hbl, g0, g1⟩ := hcc m z hz
      cases he
      subst hp
      obtain ⟨fn, tmps, assign, body, hy, hR⟩ := HY.out pre ⟨(m, z), by omega⟩ _ hJ (by have := congrArg List.length HT.out; simp [xh0Z] at this; omega)
      dsimp only [encsV] at hy
      have hmt : (m : Int) < (L.length : Int) := by omega
      have HBX := hideP hBx
      clear hcc hz hBx hJ
      gi_wp2
      refine hR.mono ?_
      rintro e W3 (⟨rfl, hJ3, hk3⟩ | ⟨rfl, hJx3⟩)
      · gi_wp2
        go_roundw
        case rel =>
          refine ⟨m, pre ++ [⟨(m, z), by omega⟩], by go_num, by omega, ?_, hJ3, hk3 HBX.out⟩
          rw [HT.out]; simp [downs]
        case measure => simp [intOf] <;> omega
      · gi_wp2
        refine bodyPost_ret (results_none rfl _ _ _) rfl ?_
        exact ⟨⟨_, rfl⟩, .inr ⟨_, trivial, hJx3⟩⟩
theorem xmpZ (p : Option Addr) (n c : Nat) (w : World) :
    Calls Tryz.prog 225 #[.slice p n c] w fun e w' => e = .returned (.func (.func 237) #[] #[.pointer (some ⟨w.heap.size, 0, none⟩)]) ∧ w' = w.alloc (.cells #[.slice p n c] 87) := by
  go_enter Tryz.func225, Tryz.ntmps225
  go_wp2
  go_ret
  exact ⟨rfl, rfl⟩
theorem HasV.below {bs : Nat} {p : Option Addr} {n c : Nat} {w W : World} (h : HasV bs p n c w) (hb : Below w.heap.size w W) : HasV bs p n c W :=
  ⟨(hb.block bs h.1.lt).trans h.1, by obtain ⟨l, h1, h2⟩ := h.2; exact ⟨l, h1, h2.below hb⟩⟩
theorem xj3Z (n : Nat) (hn : 1 ≤ n) (bs N : Nat) (p : Option Addr) (c : Nat) (hN : N ≤ 100) (w : World) (hB : HasV bs p N c w) :
    SeqStopsK Fence.wide n Tryz.prog 237 #[.pointer (some ⟨bs, 0, none⟩)] (encsV (n := N)) (KpV bs p N c) (fun ys => ys.map (fun y => y.1.1) = downs N) (fun _ => True) N w :=
  fun l J Jx W hW hA _ hY h0 => backV1_in n hn l bs N p c hN J Jx W hY (hB.below hW) h0
theorem kpV_t {bs : Nat} {p : Option Addr} {n c : Nat} {A B C : World} (h : KpV bs p n c A B) (k : KpV bs p n c B C) : KpV bs p n c A C := fun x => k (h x)
theorem kpV_b {bs : Nat} {p : Option Addr} {n c : Nat} {w : World} (W : World) (l : Nat) (o o' : Obj) (_ : w.heap.size ≤ l) (h : W.heap[l]? = some o) (ho : o.isCells = false) (_ : o.isWalk = false) : KpV bs p n c W (W.putObj l o') := fun ⟨x, L, hL, y⟩ => by
  refine ⟨x.kept (grownBy_putObj' W l o') (fun e => by cases e; rw [show W.heap[bs]? = _ from x] at h; cases h; cases ho), L, hL, ?_⟩
  subst hL
  obtain ⟨p', c', he, hm, hc⟩ := y
  cases he
  refine ⟨_, _, rfl, hm, fun k z hk => ?_⟩
  obtain ⟨b, off, rfl, hb, g, g'⟩ := hc k z hk
  have hg := grownBy_putObj' W l o'
  have hne : b ≠ l := fun e => by
    subst e
    obtain ⟨cs, t, fz, hcs, _⟩ := Sort.cells_of_cell? g
    rw [hcs] at h; cases h; cases ho
  exact ⟨b, off, rfl, Nat.lt_of_lt_of_le hb hg.size, hg.cell g (by simpa using hne), hg.cell g' (by simpa using hne)⟩
end Go.Proofs.YtmjjkenblfndgaaGreat


/- stride's return. -/
namespace Go.Proofs.YtmjjkenblfndgaaGreat
open Go.RowKit
set_option linter.unusedSimpArgs false
set_option linter.unusedVariables false
theorem DIn.cut {w0 W : World} {b : Nat} {pv : Value} {M : Mach} {D : List Frm} {x : Frm} {g cap : Nat} {bv iv ov : Value} {q : List FV} {c : FV} {qb : List Value} (h : DIn w0 W b pv M D x g cap bv iv ov q c qb) : Doer w0 (W.setCell ⟨b, 0, none⟩ (.slice (some ⟨g, 0, none⟩) D.length cap)) b pv { M with frames := D } := by
  have hA := h.at_
  have hgs := xakZ W ⟨b, 0, none⟩ (.slice (some ⟨g, 0, none⟩) D.length cap)
  have hty : TyRow W (some b) 162 := xatZ hA.cell
  have hs := heap_setCell_same W b 0 _ _ (.slice (some ⟨g, 0, none⟩) D.length cap) hA.cell
  have hk := hA.own.keep hgs hty (by decide) (by decide) (by decide) (by decide)
  have hrow := row_cut h.fr_row D.length (by omega)
  have e1 : (fCells (q ++ [c])).take (D.length * 4) = fCells q := by
    rw [xb5Z, List.take_append_of_le_length (by rw [xbxZ, h.len]; omega), List.take_of_length_le (by rw [xbxZ, h.len]; omega)]
  rw [e1] at hrow
  have hfrs := hA.own.frs
  rw [h.fr] at hfrs
  refine ⟨.slice (some ⟨g, 0, none⟩) D.length cap, bv, iv, ov, q, qb, ⟨by simpa using hs, ⟨?_, hfrs.cut.keep hgs hty (by decide), hk.bl, hk.rows⟩, hA.bel.setCell hA.lo _, hA.lo⟩⟩
  rw [h.len]
  exact xasZ hrow hgs hty (by decide)
theorem ret_done (w0 : World) (b : Nat) (pv : Value) (M : Mach) (D : List Frm) (x : Frm)  (w : World) (h : Doer w0 w b pv M) (hF : M.frames = D ++ [x]) (hD : D.length ≤ 100) (hl : x.stk.length ≤ 90) (h0 : D.length = 0) : Calls Tryz.prog 193 #[.pointer (some ⟨b, 0, none⟩)] w fun e w' => e = .returned (.tuple #[]) ∧ Doer w0 w' b pv { M with frames := [], status := 2 } := by
  obtain ⟨g, cap, bv, iv, ov, q, c, qb, H⟩ := h.open hF
  have HI := hideP (xamZ b g D.length cap w H.fcell hD)
  obtain ⟨pl, cl, hlv⟩ := xaiZ H.loc
  obtain ⟨ps, cs, hsv⟩ := xaiZ H.stk
  have hcap : D.length + 1 ≤ cap := by
    rcases H.fr_row.2 with ⟨h1, _⟩ | ⟨g', cap', cur', h1, _, _, h4, _⟩
    · cases h1
    · cases h1; exact h4
  have HH0 := hideP H
  clear h
  go_enter Tryz.func193, Tryz.ntmps193
  go_wp2_with fail
  refine HI.out.mono ?_
  rintro e w2 ⟨rfl, b2⟩
  have H2 := HH0.out.below b2
  have c0 := H2.c0
  have c1 := H2.c1
  have c2 := H2.c2
  have c3 := H2.c3
  rw [hlv] at c2
  rw [hsv] at c3
  obtain ⟨W3, hW3⟩ : ∃ W3, w2.alloc (.cells #[.int .i64 x.fn, .int .i64 x.pc, .slice pl x.loc.length cl, .slice ps x.stk.length cs] 89) = W3 := ⟨_, rfl⟩
  have b3 : Below w2.heap.size w2 W3 := by rw [← hW3]; exact (Below.refl _ w2).alloc (Nat.le_refl _) _
  have x3 : W3.heap[w2.heap.size]? = some (.cells #[.int .i64 x.fn, .int .i64 x.pc, .slice pl x.loc.length cl, .slice ps x.stk.length cs] 89 (0, 0)) := by rw [← hW3]; exact World.alloc_heap_new w2 _
  have H3 := H2.below b3
  have f0 := H3.fcell
  have f3 : W3.cell? ⟨w2.heap.size, 3, none⟩ = some (.slice ps x.stk.length cs) := xaaZ x3 3
  have z0 := Lib.frozen_of_heap H3.at_.cell 0
  have f4 := H3.at_.cells.2.2.2.2.1
  have z4 := Lib.frozen_of_heap H3.at_.cell 4
  have hbne : ¬ w2.heap.size = b := by have := H2.at_.lt; omega
  have hbne' : ¬ b = w2.heap.size := fun e => hbne e.symm
  have HH3 := hideP H3
  have HSV := hideP hsv
  have HX3 := hideP x3
  clear HI H H2 H3 hlv hsv x3 HH0 hF
  have h00 : ((D.length : Int) == 0) = true := by simp [h0]
  have H0 := hideP h0
  clear h0
  go_wp2_with fail
  go_region
  go_wp2
  first | go_end0 | refine bodyPost_ret (results_none rfl _ _ _) rfl ?_
  have hD0 : D = [] := List.length_eq_zero_iff.1 H0.out
  obtain ⟨fv5, bv5, iv5, ov5, q5, qb5, D5⟩ := HH3.out.cut
  have h5 := (D5.setSt 2).below ((Below.refl _ _).drew)
  subst hD0
  exact ⟨rfl, h5⟩
theorem ret_on (w0 : World) (b : Nat) (pv : Value) (M : Mach) (D : List Frm) (x : Frm) (D' : List Frm) (y : Frm) (w : World) (h : Doer w0 w b pv M) (hF : M.frames = D ++ [x]) (hD : D.length ≤ 100) (hl : x.stk.length ≤ 90) (h0 : D = D' ++ [y]) (hly : y.stk.length ≤ 90) : Calls Tryz.prog 193 #[.pointer (some ⟨b, 0, none⟩)] w fun e w' => e = .returned (.tuple #[]) ∧ Doer w0 w' b pv { M with frames := D' ++ [{ y with stk := y.stk ++ x.stk }] } := by
  obtain ⟨g, cap, bv, iv, ov, q, c, qb, H⟩ := h.open hF
  have HI := hideP (xamZ b g D.length cap w H.fcell hD)
  obtain ⟨pl, cl, hlv⟩ := xaiZ H.loc
  obtain ⟨ps, cs, hsv⟩ := xaiZ H.stk
  have hcap : D.length + 1 ≤ cap := by
    rcases H.fr_row.2 with ⟨h1, _⟩ | ⟨g', cap', cur', h1, _, _, h4, _⟩
    · cases h1
    · cases h1; exact h4
  have HH0 := hideP H
  clear h
  go_enter Tryz.func193, Tryz.ntmps193
  go_wp2_with fail
  refine HI.out.mono ?_
  rintro e w2 ⟨rfl, b2⟩
  have H2 := HH0.out.below b2
  have c0 := H2.c0
  have c1 := H2.c1
  have c2 := H2.c2
  have c3 := H2.c3
  rw [hlv] at c2
  rw [hsv] at c3
  obtain ⟨W3, hW3⟩ : ∃ W3, w2.alloc (.cells #[.int .i64 x.fn, .int .i64 x.pc, .slice pl x.loc.length cl, .slice ps x.stk.length cs] 89) = W3 := ⟨_, rfl⟩
  have b3 : Below w2.heap.size w2 W3 := by rw [← hW3]; exact (Below.refl _ w2).alloc (Nat.le_refl _) _
  have x3 : W3.heap[w2.heap.size]? = some (.cells #[.int .i64 x.fn, .int .i64 x.pc, .slice pl x.loc.length cl, .slice ps x.stk.length cs] 89 (0, 0)) := by rw [← hW3]; exact World.alloc_heap_new w2 _
  have H3 := H2.below b3
  have f0 := H3.fcell
  have f3 : W3.cell? ⟨w2.heap.size, 3, none⟩ = some (.slice ps x.stk.length cs) := xaaZ x3 3
  have z0 := Lib.frozen_of_heap H3.at_.cell 0
  have f4 := H3.at_.cells.2.2.2.2.1
  have z4 := Lib.frozen_of_heap H3.at_.cell 4
  have hbne : ¬ w2.heap.size = b := by have := H2.at_.lt; omega
  have hbne' : ¬ b = w2.heap.size := fun e => hbne e.symm
  have HH3 := hideP H3
  have HSV := hideP hsv
  have HX3 := hideP x3
  clear HI H H2 H3 hlv hsv x3 HH0 hF
  have h00 : ((D.length : Int) == 0) = false := by rw [h0]; simp; omega
  have hD' : D'.length ≤ 100 := by rw [h0] at hD; simp at hD; omega
  have H0 := hideP h0
  clear h0
  go_wp2_with fail
  go_region
  go_wp2_with fail
  have hcut := HH3.out.cut
  have hrow := xasZ HH3.out.stk (xakZ W3 ⟨b, 0, none⟩ (.slice (some ⟨g, 0, none⟩) D.length cap)) (xatZ HH3.out.at_.cell) (by decide)
  rw [HSV.out] at hrow
  have hv := xb6Z hrow
  refine (xe5Z w0 b pv _ D' y _ x.stk _ (hcut.below ((Below.refl _ _).drew)) H0.out (hv.below ((Below.refl _ _).drew)) (xdhZ hrow) hD' (by omega) (by omega)).mono ?_
  rintro e w4 ⟨rfl, h4, -, -⟩
  have H4 := hideP h4
  clear h4 hcut hrow hv
  go_wp2
  go_end0
  exact ⟨rfl, H4.out⟩
end Go.Proofs.YtmjjkenblfndgaaGreat


/- stride's call. -/
namespace Go.Proofs.YtmjjkenblfndgaaGreat
open Go.RowKit Go.Shelf
set_option linter.unusedSimpArgs false
set_option linter.unusedVariables false
attribute [local go_sem] Oper.semAt_some
theorem xa3Z {W : World} {B : Nat} {e : TypeId} {size n cap g : Nat} {xs : List Value} (h : W.ownsRow B e size (.slice (some ⟨g, 0, none⟩) n cap) n xs) (j : Nat) (u : Value) (hj : xs[j]? = some u) : W.cell? ⟨g, j, none⟩ = some u := by
  rcases h.2 with ⟨h1, _⟩ | ⟨g', cap', cur, h1, h2, h3, h4, h5, h6, h7⟩
  · cases h1
  · cases h1
    rw [xaaZ h3]
    rw [← h7, List.getElem?_take] at hj
    split at hj
    · simpa using hj
    · cases hj
theorem DAt.open {w0 W : World} {b : Nat} {pv fv bv iv ov : Value} {q' : List FV} {qb : List Value} {M : Mach} {D : List Frm} {x : Frm} (h : DAt w0 W b pv fv bv iv ov q' qb M) (hF : M.frames = D ++ [x]) : ∃ g cap q c, q' = q ++ [c] ∧ fv = .slice (some ⟨g, 0, none⟩) (D.length + 1) cap ∧ DIn w0 W b pv M D x g cap bv iv ov q c qb := by
  have hl := h.own.frs.len
  rw [hF] at hl
  obtain ⟨q, c, rfl⟩ : ∃ q c, q' = q ++ [c] := by
    rcases List.eq_nil_or_concat q' with h0 | ⟨q, c, h0⟩
    · subst h0; simp at hl
    · exact ⟨q, c, by simpa using h0⟩
  have hlen : q.length = D.length := by simpa using hl
  have hrow := h.own.fr
  have hn : (q ++ [c]).length = D.length + 1 := by simp [hlen]
  rcases hrow.2 with ⟨_, h0⟩ | ⟨g, cap, cur, hv, hB, hg, h1, h2, h3, h4⟩
  · omega
  have hfrs := h.own.frs
  rw [hF] at hfrs
  have hx : (D ++ [x])[q.length]? = some x := by rw [hlen]; exact xbcZ _ _
  obtain ⟨e1, e2⟩ := hfrs.nums q.length c x (xbcZ _ _) hx
  obtain ⟨a0, a1, a2, a3⟩ := xd2Z (q ++ [c]) q.length c (xbcZ _ _)
  obtain ⟨r1, r2⟩ := xd3Z (q ++ [c]) q.length c (xbcZ _ _)
  obtain ⟨v1, v2⟩ := xjmZ (D ++ [x]) q.length x hx
  have o1 := hfrs.rows.each _ _ _ r1 v1
  have o2 := hfrs.rows.each _ _ _ r2 v2
  rw [← h4, List.getElem?_take_of_lt (by omega)] at a0 a1 a2 a3
  rw [hn] at hv
  subst hv
  refine ⟨g, cap, q, c, rfl, rfl, h, hF, hlen, e1, e2, ?_, ?_, ?_, ?_, ⟨_, hg⟩, o1, o2⟩
  · rw [xaaZ hg, ← e1, ← hlen]; simpa using a0
  · rw [xaaZ hg, ← e2, ← hlen]; simpa using a1
  · rw [xaaZ hg, ← hlen]; simpa using a2
  · rw [xaaZ hg, ← hlen]; simpa using a3
def DoerN (w0 W : World) (b : Nat) (pv : Value) (M : Mach) (z : Nat) : Prop := ∃ fv bv iv ov q qb, DAt w0 W b pv fv bv iv ov q qb M ∧ ∀ y ∈ fRows q, y.ownBlock ≠ some z
theorem DoerN.doer {w0 W : World} {b : Nat} {pv : Value} {M : Mach} {z : Nat} (h : DoerN w0 W b pv M z) : Doer w0 W b pv M := by
  obtain ⟨fv, bv, iv, ov, q, qb, h, _⟩ := h
  exact ⟨fv, bv, iv, ov, q, qb, h⟩
theorem DoerN.below {w0 W W' : World} {b : Nat} {pv : Value} {M : Mach} {z : Nat} (h : DoerN w0 W b pv M z) (hb : Below W.heap.size W W') : DoerN w0 W' b pv M z := by
  obtain ⟨fv, bv, iv, ov, q, qb, h, hn⟩ := h
  exact ⟨fv, bv, iv, ov, q, qb, h.below hb, hn⟩
theorem mem_fRows {q : List FV} {y : Value} (h : y ∈ fRows q) : ∃ (k : Nat) (c : FV), q[k]? = some c ∧ (y = c.lv ∨ y = c.sv) := by
  obtain ⟨c, hc, hy⟩ := List.mem_flatMap.1 h
  obtain ⟨k, hk⟩ := List.getElem?_of_mem hc
  exact ⟨k, c, hk, by simpa using hy⟩
theorem Doer.fresh {w0 W : World} {b : Nat} {pv : Value} {M : Mach} (h : Doer w0 W b pv M) {z : Nat} (hz : W.heap.size ≤ z) : DoerN w0 W b pv M z := by
  obtain ⟨fv, bv, iv, ov, q, qb, h⟩ := h
  refine ⟨fv, bv, iv, ov, q, qb, h, fun y hy e => ?_⟩
  obtain ⟨k, hk⟩ := List.getElem?_of_mem hy
  have := (h.own.frs.rows.lt hk e).2.1
  omega
theorem DoerN.take {w0 W W' : World} {b : Nat} {pv : Value} {M M' : Mach} {z : Nat} {D : List Frm} {x x' : Frm} (h : DoerN w0 W b pv M z) (hF : M.frames = D ++ [x]) (hx : x.stk ≠ []) (h' : Doer w0 W' b pv M') (hF' : M'.frames = D ++ [x']) (ho : xg0Z b W W') (hc : StkCut b W W') : DoerN w0 W' b pv M' z := by
  obtain ⟨fv, bv, iv, ov, q0, qb, hA, hn⟩ := h
  obtain ⟨fv', bv', iv', ov', q0', qb', hA'⟩ := h'
  obtain ⟨g, cap, q, c, rfl, rfl, H⟩ := hA.open hF
  obtain ⟨g', cap', q', c', rfl, rfl, H'⟩ := hA'.open hF'
  obtain ⟨og, oj⟩ := ho _ _ _ H.fcell
  have hb0 := og.cell H.fcell (fun e => H.gne (by simpa using e))
  have hgg : g' = g := H'.one hb0
  subst hgg
  refine ⟨_, _, _, _, _, _, hA', fun y hy e => ?_⟩
  obtain ⟨k, d', hk, hy⟩ := mem_fRows hy
  have hkl := xadZ hk
  have hlen : (q' ++ [c']).length = (q ++ [c]).length := by simp [H.len, H'.len]
  obtain ⟨d, hd⟩ := xagZ (l := q ++ [c]) (k := k) (by omega)
  obtain ⟨-, -, a2, a3⟩ := xd2Z _ _ _ hd
  obtain ⟨-, -, b2, b3⟩ := xd2Z _ _ _ hk
  obtain ⟨r1, r2⟩ := xd3Z _ _ _ hd
  have ca2 := xa3Z H.fr_row _ _ a2
  have ca3 := xa3Z H.fr_row _ _ a3
  have cb2 := xa3Z H'.fr_row _ _ b2
  have cb3 := xa3Z H'.fr_row _ _ b3
  have hql : (q ++ [c]).length = D.length + 1 := by simp [H.len]
  rcases hy with rfl | rfl
  · have := (oj (k * 4 + 2) (by omega)).symm.trans cb2
    rw [ca2] at this
    rw [← Option.some.inj this] at e
    exact hn _ (List.mem_of_getElem? r1) e
  · by_cases hkD : k = D.length
    · have hst := H.stk
      obtain ⟨m, hm⟩ : ∃ m, x.stk.length = m + 1 := ⟨x.stk.length - 1, by have := List.length_pos_iff.2 hx; omega⟩
      rw [hm] at hst
      obtain ⟨gs, caps, hsv⟩ := ownsRow_succ hst
      have h3 := H.c3
      rw [hsv] at h3
      have := hc _ _ _ _ _ _ H.fcell (by rw [Nat.add_sub_cancel]; exact h3)
      rw [Nat.add_sub_cancel] at this
      rw [hkD, this] at cb3
      have e2 : d'.sv = .slice (some ⟨gs, 0, none⟩) (m + 1 - 1) caps := (Option.some.inj cb3).symm
      rw [e2] at e
      refine hn c.sv ?_ ?_
      · have hc1 : (q ++ [c])[D.length]? = some c := by rw [← H.len]; exact xbcZ _ _
        exact List.mem_of_getElem? (xd3Z _ _ _ hc1).2
      · rw [hsv]; exact e
    · have := (oj (k * 4 + 3) (by omega)).symm.trans cb3
      rw [ca3] at this
      rw [← Option.some.inj this] at e
      exact hn _ (List.mem_of_getElem? r2) e
theorem DoerN.other {w0 W W' : World} {b : Nat} {pv : Value} {M : Mach} {z : Nat} (h : DoerN w0 W b pv M z) (hg : W.grownBy W' (some z)) (ht : TyRow W (some z) 113) (hz : w0.heap.size ≤ z) : DoerN w0 W' b pv M z := by
  obtain ⟨fv, bv, iv, ov, q, qb, h, hn⟩ := h
  refine ⟨fv, bv, iv, ov, q, qb, ⟨?_, ⟨xasZ h.own.fr hg ht (by decide), ⟨h.own.frs.len, h.own.frs.nums, h.own.frs.rows.same fun k x g hx hgx => ?_⟩, xasZ h.own.bl hg ht (by decide), h.own.rows.keep hg ht (by decide)⟩, h.bel.grown hg h.bel.size (fun k hk => by cases hk; exact hz), h.lo⟩, hn⟩
  · refine (hg.block b h.lt (fun e => ?_)).trans h.cell
    obtain ⟨cs, fz, hh⟩ := ht b e.symm
    rw [h.cell] at hh; simp at hh
  · refine hg.block g (h.own.frs.rows.lt hx hgx).2.1 (fun e => ?_)
    cases e
    exact hn x (List.mem_of_getElem? hx) hgx
theorem DAt.push {w0 W : World} {b : Nat} {pv fv bv iv ov : Value} {q : List FV} {qb : List Value} {M : Mach} (h : DAt w0 W b pv fv bv iv ov q qb M) {W2 : World} {u : Value} {c : FV} {x : Frm} (hg : W.grownBy W2 fv.ownBlock) (hr : W2.ownsRow w0.heap.size 89 4 u (q.length + 1) (fCells (q ++ [c]))) (h1 : c.fn = x.fn) (h2 : c.pc = x.pc) (hl : W2.ownsRow w0.heap.size 113 2 c.lv x.loc.length (valCells x.loc)) (hs : c.sv = .slice none 0 0) (hx : x.stk = []) (hn : ∀ y ∈ fRows q, ∀ z, c.lv.ownBlock = some z → y.ownBlock ≠ some z) : Doer w0 (W2.setCell ⟨b, 0, none⟩ u) b pv { M with frames := M.frames ++ [x] } := by
  have hty : TyRow W fv.ownBlock 89 := xcmZ h.own.fr
  have hcell2 : W2.heap[b]? = _ := (hg.block b h.lt (fun e => by
    obtain ⟨cs, fz, hh⟩ := hty b e.symm
    rw [h.cell] at hh; simp at hh)).trans h.cell
  have hgs := xakZ W2 ⟨b, 0, none⟩ u
  have hty2 : TyRow W2 (some b) 162 := xatZ hcell2
  have hsc := heap_setCell_same W2 b 0 _ _ u hcell2
  have hfr := h.own.frs.keep hg hty (by decide)
  have hfs : FRows W2 w0.heap.size (q ++ [c]) (M.frames ++ [x]) := by
    refine ⟨by simp [hfr.len], fun k d y hd hy => ?_, ?_⟩
    · rcases xbaZ hd with ⟨a1, a2⟩ | ⟨a1, rfl⟩
      · rcases xbaZ hy with ⟨b1, b2⟩ | ⟨b1, rfl⟩
        · exact hfr.nums k d y a2 b2
        · have := hfr.len; omega
      · rcases xbaZ hy with ⟨b1, b2⟩ | ⟨b1, rfl⟩
        · have := hfr.len; omega
        · exact ⟨h1, h2⟩
    · have e1 : fRows (q ++ [c]) = (fRows q ++ [c.lv]) ++ [c.sv] := by simp [fRows]
      have e2 : fVals (M.frames ++ [x]) = (fVals M.frames ++ [x.loc]) ++ [x.stk] := by simp [fVals]
      rw [e1, e2, hs, hx]
      refine (hfr.rows.snoc hl fun k y g h3 h4 h5 => hn y (List.mem_of_getElem? h3) g h5 h4).snoc (by simpa [valCells] using World.ownsRow_nil W2 w0.heap.size 113 2) fun k y g h3 h4 h5 => by cases h5
  refine ⟨u, bv, iv, ov, q ++ [c], qb, ⟨by simpa using hsc, ⟨?_, hfs.keep hgs hty2 (by decide), xasZ (xasZ h.own.bl hg hty (by decide)) hgs hty2 (by decide), (h.own.rows.keep hg hty (by decide)).keep hgs hty2 (by decide)⟩, (h.bel.grown hg h.bel.size (fun k hk => (h.own.fr.lt k hk).1)).setCell h.lo _, h.lo⟩⟩
  rw [show (q ++ [c]).length = q.length + 1 by simp]
  exact xasZ hr hgs hty2 (by decide)
end Go.Proofs.YtmjjkenblfndgaaGreat


/- Worlds in memory of the call's own. -/
namespace Go.Proofs.YtmjjkenblfndgaaGreat
open Go.RowKit
set_option linter.unusedSimpArgs false
set_option linter.unusedVariables false
structure MV where
  fv : Value
  bv : Value
  iv : Value
  ov : Value
  st : Int
  tr : Int
def mvCells (q : List MV) : List Value := q.flatMap fun c => [c.fv, c.bv, c.iv, c.ov, .int .i64 c.st, .int .i64 c.tr]
theorem xg5Z (q r : List MV) : mvCells (q ++ r) = mvCells q ++ mvCells r := by simp [mvCells]
theorem xe9Z (q : List MV) : (mvCells q).length = q.length * 6 := by
  induction q with
  | nil => rfl
  | cons o r ih => simp [mvCells] at *; omega
theorem xfxZ (q : List MV) : ∀ (k : Nat) (c : MV), q[k]? = some c → (mvCells q)[k * 6]? = some c.fv ∧ (mvCells q)[k * 6 + 1]? = some c.bv ∧ (mvCells q)[k * 6 + 2]? = some c.iv ∧ (mvCells q)[k * 6 + 3]? = some c.ov ∧ (mvCells q)[k * 6 + 4]? = some (.int .i64 c.st) ∧ (mvCells q)[k * 6 + 5]? = some (.int .i64 c.tr) := by
  induction q with
  | nil => intro k o h; simp at h
  | cons x r ih =>
    intro k o h
    cases k with
    | zero => simp at h; subst h; simp [mvCells]
    | succ k =>
      have := ih k o (by simpa using h)
      rw [show (k + 1) * 6 = k * 6 + 1 + 1 + 1 + 1 + 1 + 1 from by omega]
      simpa [mvCells] using this
theorem xptZ (q r : List MV) (d c : MV) : ((((((mvCells (q ++ d :: r)).set (q.length * 6) c.fv).set (q.length * 6 + 1) c.bv).set (q.length * 6 + 2) c.iv).set (q.length * 6 + 3) c.ov).set (q.length * 6 + 4) (.int .i64 c.st)).set (q.length * 6 + 5) (.int .i64 c.tr) = mvCells (q ++ c :: r) := by
  have e : ∀ (l : List Value) (i : Nat) (u : Value), (mvCells q ++ l).set (q.length * 6 + i) u = mvCells q ++ l.set i u := fun l i u => by
    rw [List.set_append_right _ _ (by rw [xe9Z]; omega), xe9Z, Nat.add_sub_cancel_left]
  have e0 : ∀ (l : List Value) (u : Value), (mvCells q ++ l).set (q.length * 6) u = mvCells q ++ l.set 0 u := fun l u => e l 0 u
  rw [xg5Z, xg5Z, e0, e, e, e, e, e]
  simp [mvCells]
theorem xkoZ (q : List MV) (k : Nat) (c : MV) (v : Value) (h : q[k]? = some c) : (mvCells q).set (k * 6 + 2) v = mvCells (q.set k { c with iv := v }) := by
  induction q generalizing k with
  | nil => simp at h
  | cons x r ih =>
    cases k with
    | zero => simp at h; subst h; simp [mvCells]
    | succ k =>
      have := ih k (by simpa using h)
      rw [show (k + 1) * 6 + 2 = k * 6 + 2 + 1 + 1 + 1 + 1 + 1 + 1 from by omega]
      simpa [mvCells] using this
theorem mvCells_ov (q : List MV) (k : Nat) (c : MV) (v : Value) (h : q[k]? = some c) : (mvCells q).set (k * 6 + 3) v = mvCells (q.set k { c with ov := v }) := by
  induction q generalizing k with
  | nil => simp at h
  | cons x r ih =>
    cases k with
    | zero => simp at h; subst h; simp [mvCells]
    | succ k =>
      have := ih k (by simpa using h)
      rw [show (k + 1) * 6 + 3 = k * 6 + 3 + 1 + 1 + 1 + 1 + 1 + 1 from by omega]
      simpa [mvCells] using this
theorem mvCells_st (q : List MV) (k : Nat) (c : MV) (n : Int) (h : q[k]? = some c) : (mvCells q).set (k * 6 + 4) (.int .i64 n) = mvCells (q.set k { c with st := n }) := by
  induction q generalizing k with
  | nil => simp at h
  | cons x r ih =>
    cases k with
    | zero => simp at h; subst h; simp [mvCells]
    | succ k =>
      have := ih k (by simpa using h)
      rw [show (k + 1) * 6 + 4 = k * 6 + 4 + 1 + 1 + 1 + 1 + 1 + 1 from by omega]
      simpa [mvCells] using this
def RestV (v w : Value) (k n : Nat) : Prop := (k = 0 ∧ v = w) ∨ ∃ g cap j c, w = .slice (some ⟨g, 0, none⟩) n cap ∧ v = .slice (some ⟨g, j, none⟩) (n - k) c ∧ (j = k ∧ k ≤ n ∨ n - k = 0 ∧ c = 0) ∧ n - k ≤ c ∧ j + c ≤ cap
structure MR where
  q : List FV
  qb : List Value
  iw : Value
  ow : Value
  I : List Int
  O : List Int
def MR.rows (r : MR) : List Value := r.iw :: r.ow :: r.qb
structure MHas (W : World) (B : Nat) (c : MV) (r : MR) (M : Mach) : Prop where
  st : c.st = M.status
  tr : c.tr = M.trap
  fr : W.ownsRow B 89 4 c.fv r.q.length (fCells r.q)
  frs : FRows W B r.q M.frames
  bl : W.ownsRow B 46 1 c.bv r.qb.length r.qb
  ints : BRows W B r.rows (r.I :: r.O :: M.blocks)
  inp : ∃ k, M.inp = r.I.drop k ∧ RestV c.iv r.iw k r.I.length
  out : ∃ k, M.out = r.O.drop k ∧ RestV c.ov r.ow k r.O.length
theorem MHas.below {W W' : World} {B : Nat} {c : MV} {r : MR} {M : Mach} (h : MHas W B c r M) (hb : Below W.heap.size W W') : MHas W' B c r M :=
  ⟨h.st, h.tr, xaoZ h.fr fun g hg => hb.block g (h.fr.lt g hg).2, h.frs.below hb, xaoZ h.bl fun g hg => hb.block g (h.bl.lt g hg).2, h.ints.below hb, h.inp, h.out⟩
theorem MHas.low {W : World} {B B' : Nat} {c : MV} {r : MR} {M : Mach} (h : MHas W B c r M) (hB : B' ≤ B) : MHas W B' c r M :=
  ⟨h.st, h.tr, xapZ h.fr hB, h.frs.low hB, xapZ h.bl hB, h.ints.low hB, h.inp, h.out⟩
theorem MHas.keep {W W' : World} {B : Nat} {t : TypeId} {c : MV} {r : MR} {M : Mach} {row : Option Nat} (h : MHas W B c r M) (hg : W.grownBy W' row) (ht : TyRow W row t) (h1 : t ≠ 89) (h2 : t ≠ 113) (h3 : t ≠ 46) (h4 : t ≠ 3) : MHas W' B c r M :=
  ⟨h.st, h.tr, xasZ h.fr hg ht h1, h.frs.keep hg ht h2, xasZ h.bl hg ht h3, h.ints.keep hg ht h4, h.inp, h.out⟩
theorem MOwn.has {W : World} {B : Nat} {fv bv iv ov : Value} {q : List FV} {qb : List Value} {M : Mach} (h : MOwn W B fv bv iv ov q qb M) : MHas W B ⟨fv, bv, iv, ov, M.status, M.trap⟩ ⟨q, qb, iv, ov, M.inp, M.out⟩ M :=
  ⟨rfl, rfl, h.fr, h.frs, h.bl, h.rows, ⟨0, rfl, .inl ⟨rfl, rfl⟩⟩, ⟨0, rfl, .inl ⟨rfl, rfl⟩⟩⟩
theorem MRes.has {W : World} {B : Nat} {fv bv iv ov : Value} {M : Mach} (h : MRes W B fv bv iv ov M) (h100 : M.inp.length ≤ 1000) : ∃ r, MHas W B ⟨fv, bv, iv, ov, M.status, M.trap⟩ r M ∧ r.I.length ≤ 1000 := by
  obtain ⟨q, qb, k, iw, I, h1, h2, h3⟩ := h
  rcases h3 with h | ⟨g, n, cap, j, c, e1, e2, e3, e4, e5, e6⟩
  · refine ⟨⟨q, qb, iw, ov, I, M.out⟩, ⟨rfl, rfl, h1.fr, h1.frs, h1.bl, h1.rows, ⟨k, h2, .inl h⟩, ⟨0, rfl, .inl ⟨rfl, rfl⟩⟩⟩, ?_⟩
    rw [h.1, List.drop_zero] at h2
    rw [← h2]
    exact h100
  · obtain ⟨p, cc, hv⟩ := xaiZ h1.inp
    have hn : n = I.length := by rw [e1] at hv; injection hv
    subst hn
    exact ⟨⟨q, qb, iw, ov, I, M.out⟩, ⟨rfl, rfl, h1.fr, h1.frs, h1.bl, h1.rows, ⟨k, h2, .inr ⟨g, cap, j, c, e1, e2, e3, e4, e5⟩⟩, ⟨0, rfl, .inl ⟨rfl, rfl⟩⟩⟩, e6⟩
theorem xl8Z {W : World} {B : Nat} {v w : Value} {k : Nat} {I L : List Int} (hrow : W.ownsRow B 3 1 w I.length (I.map (Value.int .i64))) (hL : L = I.drop k) (h : RestV v w k I.length) (hm : I.length ≤ maxLen) : FullInts W v L := by
  rcases h with ⟨rfl, rfl⟩ | ⟨g, cap, j, c, rfl, rfl, hj, hc, hjc⟩
  · rw [hL]
    exact xewZ rfl (by simpa using hrow)
  · have hlen : L.length = I.length - k := by rw [hL, List.length_drop]
    refine ⟨⟨_, c, by rw [hlen], by omega, fun i z hz => ?_⟩, xauZ _ _ _, fun p' n' c' e => by injection e with _ e2 e3; omega⟩
    have hil := xadZ hz
    rw [hL, List.getElem?_drop] at hz
    have hjk : j = k := by rcases hj with h | h <;> omega
    subst hjk
    refine ⟨g, j, rfl, (hrow.lt g rfl).2, ?_⟩
    exact xa3Z hrow (j + i) _ (by rw [List.getElem?_map, hz]; rfl)
theorem MHas.at_ {W : World} {B : Nat} {c : MV} {r : MR} {M : Mach} (h : MHas W B c r M) : MachAt W c.fv c.bv c.iv c.ov M := by
  obtain ⟨k, hk1, hk2⟩ := h.inp
  obtain ⟨j, hj1, hj2⟩ := h.out
  have r1 := h.ints.each 0 _ _ rfl rfl
  have r2 := h.ints.each 1 _ _ rfl rfl
  have s1 := h.ints.small r.I (by simp)
  have s2 := h.ints.small r.O (by simp)
  exact ⟨xkfZ h.fr h.frs, xbgZ ⟨r.qb, h.bl, xfsZ (xfsZ h.ints)⟩, xl8Z r1 hk1 hk2 (by unfold maxLen; omega), xl8Z r2 hj1 hj2 (by unfold maxLen; omega)⟩
structure WRes (W : World) (B : Nat) (ms : List MV) (rs : List MR) (L : List Mach) : Prop where
  lenM : ms.length = L.length
  lenR : rs.length = L.length
  each : ∀ (k : Nat) (c : MV) (r : MR) (M : Mach), ms[k]? = some c → rs[k]? = some r → L[k]? = some M → MHas W B c r M
  apart : ∀ (i j : Nat) (r s : MR) (x y : Value) (g : Nat), rs[i]? = some r → rs[j]? = some s → x ∈ r.rows → y ∈ s.rows → x.ownBlock = some g → y.ownBlock = some g → i = j
theorem xjyZ (W : World) (B : Nat) : WRes W B [] [] [] := ⟨rfl, rfl, fun k c r M h => by simp at h, fun i j r s x y g h => by simp at h⟩
theorem WRes.below {W W' : World} {B : Nat} {ms : List MV} {rs : List MR} {L : List Mach} (h : WRes W B ms rs L) (hb : Below W.heap.size W W') : WRes W' B ms rs L := ⟨h.lenM, h.lenR, fun k c r M h1 h2 h3 => (h.each k c r M h1 h2 h3).below hb, h.apart⟩
theorem WRes.low {W : World} {B B' : Nat} {ms : List MV} {rs : List MR} {L : List Mach} (h : WRes W B ms rs L) (hB : B' ≤ B) : WRes W B' ms rs L := ⟨h.lenM, h.lenR, fun k c r M h1 h2 h3 => (h.each k c r M h1 h2 h3).low hB, h.apart⟩
theorem WRes.keep {W W' : World} {B : Nat} {t : TypeId} {ms : List MV} {rs : List MR} {L : List Mach} {row : Option Nat} (h : WRes W B ms rs L) (hg : W.grownBy W' row) (ht : TyRow W row t) (h1 : t ≠ 89) (h2 : t ≠ 113) (h3 : t ≠ 46) (h4 : t ≠ 3) : WRes W' B ms rs L := ⟨h.lenM, h.lenR, fun k c r M a1 a2 a3 => (h.each k c r M a1 a2 a3).keep hg ht h1 h2 h3 h4, h.apart⟩
theorem MHas.rows_lt {W : World} {B : Nat} {c : MV} {r : MR} {M : Mach} (h : MHas W B c r M) {x : Value} {g : Nat} (hx : x ∈ r.rows) (hg : x.ownBlock = some g) : B ≤ g ∧ g < W.heap.size := by
  obtain ⟨k, hk⟩ := List.getElem?_of_mem hx
  obtain ⟨b, hb⟩ := xagZ (l := r.I :: r.O :: M.blocks) (k := k) (by rw [← h.ints.len]; exact xadZ hk)
  exact (h.ints.each k x b hk hb).lt g hg
theorem WRes.snoc {W : World} {B B' : Nat} {ms : List MV} {rs : List MR} {L : List Mach} {c : MV} {r : MR} {M : Mach} (h : WRes W B ms rs L) (hn : MHas W B' c r M) (hB : B ≤ B') (hlow : ∀ (k : Nat) (s : MR) (x : Value) (g : Nat), rs[k]? = some s → x ∈ s.rows → x.ownBlock = some g → g < B') : WRes W B (ms ++ [c]) (rs ++ [r]) (L ++ [M]) := by
  refine ⟨by simp [h.lenM], by simp [h.lenR], fun k d s N h1 h2 h3 => ?_, fun i j s t x y g h1 h2 hx hy gx gy => ?_⟩
  · rcases xbaZ h1 with ⟨a1, a2⟩ | ⟨a1, rfl⟩
    · rcases xbaZ h2 with ⟨b1, b2⟩ | ⟨b1, rfl⟩
      · rcases xbaZ h3 with ⟨c1, c2⟩ | ⟨c1, rfl⟩
        · exact h.each k d s N a2 b2 c2
        · have := h.lenM; omega
      · have := h.lenM; have := h.lenR; omega
    · rcases xbaZ h2 with ⟨b1, b2⟩ | ⟨b1, rfl⟩
      · have := h.lenM; have := h.lenR; omega
      · rcases xbaZ h3 with ⟨c1, c2⟩ | ⟨c1, rfl⟩
        · have := h.lenM; omega
        · exact hn.low hB
  · rcases xbaZ h1 with ⟨a1, a2⟩ | ⟨a1, rfl⟩
    · rcases xbaZ h2 with ⟨b1, b2⟩ | ⟨b1, rfl⟩
      · exact h.apart i j s t x y g a2 b2 hx hy gx gy
      · have := hlow i s x g a2 hx gx
        have := (hn.rows_lt hy gy).1
        omega
    · rcases xbaZ h2 with ⟨b1, b2⟩ | ⟨b1, rfl⟩
      · have := hlow j t y g b2 hy gy
        have := (hn.rows_lt hx gx).1
        omega
      · omega
theorem WRes.lt {W : World} {B : Nat} {ms : List MV} {rs : List MR} {L : List Mach} (h : WRes W B ms rs L) {k : Nat} {s : MR} {x : Value} {g : Nat} (hs : rs[k]? = some s) (hx : x ∈ s.rows) (hg : x.ownBlock = some g) : g < W.heap.size := by
  have hl := xadZ hs
  have h1 := h.lenM
  have h2 := h.lenR
  obtain ⟨c, hc⟩ := xagZ (l := ms) (k := k) (by omega)
  obtain ⟨M, hM⟩ := xagZ (l := L) (k := k) (by omega)
  exact ((h.each k c s M hc hs hM).rows_lt hx hg).2
theorem WRes.at_ {W : World} {B B' : Nat} {v : Value} {ms : List MV} {rs : List MR} {L : List Mach} (h : WRes W B ms rs L) (hr : W.ownsRow B' 48 6 v ms.length (mvCells ms)) : MachsAt W v L := by
  rcases hr.2 with ⟨rfl, h0⟩ | ⟨g, cap, cur, rfl, hb, hg, h1, h2, h3, h4⟩
  · have hl : L = [] := List.length_eq_zero_iff.1 (by rw [← h.lenM]; exact h0)
    subst hl
    exact ⟨none, 0, rfl, Nat.zero_le _, Nat.le_refl _, fun k M hk => by simp at hk⟩
  · refine ⟨some ⟨g, 0, none⟩, cap, by rw [h.lenM], by rw [← h.lenM]; omega, by rw [← h.lenM]; exact h1, fun k M hk => ?_⟩
    have hkl := xadZ hk
    obtain ⟨c, hc⟩ := xagZ (l := ms) (k := k) (by rw [h.lenM]; exact hkl)
    obtain ⟨r, hrr⟩ := xagZ (l := rs) (k := k) (by rw [h.lenR]; exact hkl)
    have hM := h.each k c r M hc hrr hk
    obtain ⟨a0, a1, a2, a3, a4, a5⟩ := xfxZ ms k c hc
    refine ⟨g, 0, c.fv, c.bv, c.iv, c.ov, rfl, xacZ hg, ?_, ?_, ?_, ?_, ?_, ?_, hM.at_⟩
    · rw [Nat.zero_add]; exact xa3Z hr _ _ a0
    · rw [Nat.zero_add]; exact xa3Z hr _ _ a1
    · rw [Nat.zero_add]; exact xa3Z hr _ _ a2
    · rw [Nat.zero_add]; exact xa3Z hr _ _ a3
    · rw [Nat.zero_add, ← hM.st]; exact xa3Z hr _ _ a4
    · rw [Nat.zero_add, ← hM.tr]; exact xa3Z hr _ _ a5
end Go.Proofs.YtmjjkenblfndgaaGreat


/- append onto what is left of a row of numbers. -/
namespace Go.Proofs.YtmjjkenblfndgaaGreat
open Go.RowKit
set_option linter.unusedSimpArgs false
set_option linter.unusedVariables false
theorem xkzZ {P : Program} (w : World) (t ty e : TypeId) (i : TypeInfo) (ht : P.underlying t = some (.slice e)) (hi : P.info? e = some i) (base : Option Addr) (n c : Nat) (hle : n ≤ c) : (Builtin.append_ #[t, t] ty #[.slice base n c, .slice none 0 0]).run P w = .ok (.slice base n c) w := by
  cases base <;> simp [Builtin.append_, run_underlying ht, sizeOf, typeInfo, hi, Builtin.lenOf, Builtin.firstCells, hle, storeCells]
theorem xjrZ {v w : Value} {k n : Nat} (h : RestV v w k n) {W : World} {B : Nat} {xs : List Value} (hr : W.ownsRow B 3 1 w n xs) : ∃ p m c, v = .slice p m c ∧ m ≤ c ∧ m = n - k := by
  rcases h with ⟨rfl, rfl⟩ | ⟨g, cap, j, c, _, rfl, _, hc, _⟩
  · rcases hr.2 with ⟨rfl, h0⟩ | ⟨g, cap, cur, rfl, _, _, h1, _⟩
    · exact ⟨_, _, _, rfl, Nat.le_refl _, by omega⟩
    · exact ⟨_, _, _, rfl, h1, by omega⟩
  · exact ⟨_, _, _, rfl, hc, rfl⟩
theorem xehZ (l : List Int) : ∀ u ∈ l.map (Value.int .i64), u.oneCell' = true := fun u hu => by
  obtain ⟨n, _, rfl⟩ := List.mem_map.1 hu
  rfl
theorem xedZ {w : World} {ad : Addr} {n c : Nat} {l : List Int} (h : IntsAt w (.slice (some ad) n c) l) : ∀ (j : Nat) (u : Value), (l.map (Value.int .i64))[j]? = some u → w.cell? (ad.add j) = some u := fun j u hj => by
  obtain ⟨p, cap, he, _, hc⟩ := h
  cases he
  rw [List.getElem?_map] at hj
  cases hl : l[j]? with
  | none => rw [hl] at hj; cases hj
  | some z =>
    rw [hl] at hj
    cases hj
    obtain ⟨b, off, hb, _, hcell⟩ := hc j z hl
    cases hb
    rw [Addr.add_lit]
    exact hcell
theorem grown_any {w w' : World} (h : w.grownBy w' none) (r : Option Nat) : w.grownBy w' r := ⟨h.os, h.tape, h.output, h.size, fun k hk _ => h.block k hk (by simp)⟩
structure AppV (w w' : World) (B N : Nat) (iw : Value) (L : List Int) (iv' iw' : Value) (k' : Nat) (I' : List Int) : Prop where
  row : w'.ownsRow B 3 1 iw' I'.length (I'.map (Value.int .i64))
  rest : RestV iv' iw' k' I'.length
  is_ : I'.drop k' = L
  few : I'.length ≤ N
  grown : w.grownBy w' iw.ownBlock
  at_ : ∀ z, iw'.ownBlock = some z → iw.ownBlock = some z ∨ w.heap.size ≤ z
theorem xkyZ (w : World) {B k : Nat} {iv iw u : Value} {I l : List Int} (hrow : w.ownsRow B 3 1 iw I.length (I.map (Value.int .i64))) (hv : RestV iv iw k I.length) (hu : FullInts w u l) (hsz : I.length + l.length ≤ 100000) (hbase : B ≤ w.heap.size) (ty : TypeId) :
    ∃ iv' w' iw' k' I', (Builtin.append_ #[46, 46] ty #[iv, u]).run Tryz.prog w = .ok iv' w' ∧ AppV w w' B (I.length + l.length) iw (I.drop k ++ l) iv' iw' k' I' := by
  obtain ⟨i0, hi, hz0, hz1, hz2⟩ := info_parts xe7Z
  have hund := Tryz.underlying46
  obtain ⟨p, c', hu1, -, hcells⟩ := id hu.at_
  subst hu1
  have same : l = [] → ∀ (q : Option Addr) (n c : Nat), iv = .slice q n c → ∃ I' : List Int, I = I' ∧ AppV w w B (I.length + l.length) iw (I.drop k ++ l) iv iw k I := fun hl q n c he => ⟨I, rfl, hrow, hv, by rw [hl, List.append_nil], by omega, World.grownBy.refl _ _, fun z hz => .inl hz⟩
  cases p with
  | none =>
    have hl : l = [] := by
      cases l with
      | nil => rfl
      | cons a r => obtain ⟨b, off, hb, _⟩ := hcells 0 a rfl; cases hb
    obtain ⟨q, n, c, he, hle, -⟩ := xjrZ hv hrow
    obtain ⟨-, -, hA⟩ := same hl q n c he
    have hc0 : c' = 0 := hu.nil _ _ (by rw [hl])
    subst hl hc0
    rw [he] at hA ⊢
    exact ⟨_, w, iw, k, I, xkzZ w _ ty _ i0 hund hi q n c hle, hA⟩
  | some ad =>
    have hnl : (l.map (Value.int .i64)).length = l.length * 1 := by simp
    rcases hv with ⟨rfl, rfl⟩ | ⟨g, cap, j, c, rfl, rfl, hj, hc, hjc⟩
    · obtain ⟨v', w', hrun, r1, r2, _, r3⟩ := run_append_own_at (P := Tryz.prog) w B 46 ty 3 i0 (.int .i64 0) 1 8 hund hi hz0 hz1 hz2 rfl (by decide) iv I.length _ hrow ad l.length c' _ hnl (xedZ hu.at_) (xehZ l) (by unfold maxLen; omega) (by omega) hbase
      refine ⟨v', w', v', 0, I ++ l, hrun, ⟨by rw [List.length_append, List.map_append]; exact r1, .inl ⟨rfl, rfl⟩, by simp, by rw [List.length_append]; omega, r2, fun z hz => ?_⟩⟩
      rcases r3 with h | h
      · exact .inl (h.symm.trans hz)
      · rw [h] at hz; cases hz; exact .inr (Nat.le_refl _)
    · obtain ⟨cur, hg, hn, hcm, hcs⟩ : ∃ cur, w.heap[g]? = some (.cells cur 3 (0, 0)) ∧ I.length ≤ cap ∧ cap ≤ maxLen ∧ cur.size = cap * 1 := by
        rcases hrow.2 with ⟨h1, _⟩ | ⟨g', cap', cur, h1, _, h3, h4, h5, h6, _⟩
        · cases h1
        · cases h1; exact ⟨cur, h3, h4, h5, h6⟩
      by_cases hroom : (I.length - k) + l.length ≤ c
      · rcases hj with ⟨rfl, hkn⟩ | ⟨hn0, hc0⟩
        · have hsum : j + (I.length - j) * i0.size = 0 + I.length * i0.size := by rw [hz1]; omega
          have hin : ∀ x, x < (l.map (Value.int .i64)).length → (w.cell? ⟨g, j + (I.length - j) * i0.size + x, none⟩).isSome = true := fun x hx => by
            rw [xaaZ hg, hz1]
            have : j + (I.length - j) * 1 + x < cur.size := by simp at hx; omega
            rw [Array.getElem?_eq_getElem this]
            rfl
          have hfr : ∀ x, x < (l.map (Value.int .i64)).length → w.frozen? ⟨g, j + (I.length - j) * i0.size + x, none⟩ = false := fun x _ => Lib.frozen_of_heap hg _
          have hrun := run_append_room_cells (P := Tryz.prog) w 46 ty 3 i0 hund hi g j (I.length - j) c ad l.length c' _ (by rw [hz1]; exact hnl) (xedZ hu.at_) (xehZ l) hroom hin hfr
          have hrun2 := run_append_room_cells (P := Tryz.prog) w 46 ty 3 i0 hund hi g 0 I.length cap ad l.length c' _ (by rw [hz1]; exact hnl) (xedZ hu.at_) (xehZ l) (by omega) (by rw [← hsum]; exact hin) (by rw [← hsum]; exact hfr)
          obtain ⟨v', w', hrun3, r1, r2, _, r3⟩ := run_append_own_at (P := Tryz.prog) w B 46 ty 3 i0 (.int .i64 0) 1 8 hund hi hz0 hz1 hz2 rfl (by decide) _ I.length _ hrow ad l.length c' _ hnl (xedZ hu.at_) (xehZ l) (by unfold maxLen; omega) (by omega) hbase
          rw [hrun2] at hrun3
          cases hrun3
          rw [hsum] at hrun
          refine ⟨_, _, _, j, I ++ l, hrun, ⟨by rw [List.length_append, List.map_append]; exact r1, .inr ⟨g, cap, j, c, by rw [List.length_append], by rw [List.length_append, show I.length + l.length - j = I.length - j + l.length by omega], .inl ⟨rfl, by rw [List.length_append]; omega⟩, by rw [List.length_append]; omega, hjc⟩, ?_, by rw [List.length_append]; omega, r2, fun z hz => .inl (by simpa [Value.ownBlock] using hz)⟩⟩
          rw [List.drop_append_of_le_length hkn]
        · have hl : l = [] := List.length_eq_zero_iff.1 (by omega)
          subst hl
          have hrun := run_append_room_cells (P := Tryz.prog) w 46 ty 3 i0 hund hi g j (I.length - k) c ad 0 c' [] (by simp) (fun j u h => by simp at h) (fun u h => by simp at h) (by simpa using hroom) (fun x hx => by simp at hx) (fun x hx => by simp at hx)
          have hsc : w.setCells g (j + (I.length - k) * i0.size) [] = w := rfl
          rw [hsc, Nat.add_zero] at hrun
          exact ⟨_, w, _, k, I, hrun, hrow, .inr ⟨g, cap, j, c, rfl, rfl, .inr ⟨hn0, hc0⟩, hc, hjc⟩, by rw [List.append_nil], by omega, World.grownBy.refl _ _, fun z hz => .inl hz⟩
      · have hold : ∀ x y, ((I.drop k).map (Value.int .i64))[x]? = some y → w.cell? ((⟨g, j, none⟩ : Addr).add x) = some y := fun x y hx => by
          rcases hj with ⟨rfl, hkn⟩ | ⟨hn0, _⟩
          · rw [List.getElem?_map, List.getElem?_drop] at hx
            have := xa3Z hrow (j + x) y (by rw [List.getElem?_map]; exact hx)
            rw [Addr.add_lit]
            exact this
          · have : I.drop k = [] := List.drop_eq_nil_of_le (by omega)
            rw [this] at hx
            simp at hx
        obtain ⟨v', w', hrun, r1, r2⟩ := run_append_arg_grows (P := Tryz.prog) w 46 ty 3 i0 (.int .i64 0) 1 8 hund hi hz0 hz1 hz2 rfl (by decide) ⟨g, j, none⟩ (I.length - k) c ((I.drop k).map (Value.int .i64)) (by simp) hold ad l.length c' _ hnl (xedZ hu.at_) (by omega) (by unfold maxLen; omega) (by omega)
        refine ⟨v', w', v', 0, I.drop k ++ l, hrun, ⟨?_, .inl ⟨rfl, rfl⟩, rfl, by simp, grown_any r2 _, fun z hz => .inr (r1.lt z hz).1⟩⟩
        have h5 := xapZ r1 hbase
        rw [List.length_append, List.length_drop, List.map_append]
        exact h5
theorem xinZ {w : World} {ops : Array Oper} {rest : List Oper} {o : Oper} {a : Act} {Q : Exit → Act → World → Prop} (hgd : o.guard = none) (s x : Operand)
    (ho : o.op = .call { callee := .builtin .append, args := #[s, x], argTypes := #[46, 46] }) {B k : Nat} {iv iw u : Value} {I l : List Int} (hs : a.eval s = iv) (hrow : w.ownsRow B 3 1 iw I.length (I.map (Value.int .i64))) (hv : RestV iv iw k I.length) (hx : a.eval x = u) (hu : FullInts w u l) (hsz : I.length + l.length ≤ 100000) (hbase : B ≤ w.heap.size)
    (h : ∀ iv' w' iw' k' I', AppV w w' B (I.length + l.length) iw (I.drop k ++ l) iv' iw' k' I' → wpList Tryz.prog ops Q rest (a.put o.dst iv') w') : wpList Tryz.prog ops Q (o :: rest) a w := by
  obtain ⟨iv', w', iw', k', I', hrun, hA⟩ := xkyZ w hrow hv hu hsz hbase o.type
  refine wpList_plain hgd fun K hK => ?_
  unfold Oper.wp
  simp [execOp, ho, resolve, invoke, builtin, hs, hx, hrun, Result.andThen]
  exact hK _ _ (h _ _ _ _ _ hA)
end Go.Proofs.YtmjjkenblfndgaaGreat


