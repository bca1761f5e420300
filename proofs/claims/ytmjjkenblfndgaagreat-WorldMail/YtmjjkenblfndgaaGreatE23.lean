/- My texts Ml: what of them is needed, joined. -/
import Derived.Stop.RegionWithIn
import Derived.Test.YtmjjkenblfndgaaGreatE16
import Derived.Test.YtmjjkenblfndgaaGreatE18
set_option maxRecDepth 100000
set_option maxHeartbeats 8000000
/- stride's call. -/
namespace Go.Proofs.YtmjjkenblfndgaaGreat
open Go.RowKit Go.Shelf
set_option linter.unusedSimpArgs false
set_option linter.unusedVariables false
attribute [local go_sem] Oper.semAt_some
theorem DoerN.kept {w0 X Y : World} {b : Nat} {pv : Value} {M : Mach} {z : Nat} {row : Option Nat} (h : DoerN w0 X b pv M z) (hg : X.grownBy Y row) (hr : ∀ r, row = some r → w0.heap.size ≤ r ∧ ∃ o : Obj, X.heap[r]? = some o ∧ o.isCells = false) : DoerN w0 Y b pv M z := by
  obtain ⟨fv, bv, iv, ov, q, qb, h, hn⟩ := h
  have hcells : ∀ (k : Nat) (cs : Array Value) (t : TypeId) (fz : Nat × Nat), X.heap[k]? = some (.cells cs t fz) → Y.heap[k]? = X.heap[k]? := fun k cs t fz hk =>
    hg.block k (xacZ hk) (fun e => by
      obtain ⟨_, o, ho, hc⟩ := hr k e.symm
      rw [hk] at ho; cases ho; cases hc)
  refine ⟨fv, bv, iv, ov, q, qb, ⟨(hcells _ _ _ _ h.cell).trans h.cell, ⟨xaoZ h.own.fr fun g hgg => ?_, ⟨h.own.frs.len, h.own.frs.nums, h.own.frs.rows.same fun k x g hx hgx => ?_⟩, xaoZ h.own.bl fun g hgg => ?_, h.own.rows.same fun k x g hx hgx => ?_⟩, h.bel.grown hg h.bel.size (fun k hk => (hr k hk).1), h.lo⟩, hn⟩
  · obtain ⟨cur, hh⟩ := xdnZ h.own.fr hgg; exact hcells _ _ _ _ hh
  · obtain ⟨_, _, cs, hh⟩ := h.own.frs.rows.lt hx hgx; exact hcells _ _ _ _ hh
  · obtain ⟨cur, hh⟩ := xdnZ h.own.bl hgg; exact hcells _ _ _ _ hh
  · obtain ⟨_, _, cs, hh⟩ := h.own.rows.lt hx hgx; exact hcells _ _ _ _ hh
def contN (l args : List Val) (n j : Nat) : List Val := l.take (n - j) ++ args.drop (n - j) ++ l.drop n
theorem xnwZ (l args : List Val) (n j : Nat) (hn : n ≤ l.length) (ha : args.length = n) : (contN l args n j).length = l.length := by simp [contN]; omega
theorem contN_zero (l args : List Val) (n : Nat) (ha : args.length = n) : contN l args n 0 = l := by simp [contN, ← ha]
theorem contN_all (l args : List Val) (n : Nat) : contN l args n n = args ++ l.drop n := by simp [contN]
theorem contN_set (l args : List Val) (n j : Nat) (v : Val) (hn : n ≤ l.length) (ha : args.length = n) (hj : j < n) (hv : args[n - 1 - j]? = some v) : (contN l args n j).set (n - 1 - j) v = contN l args n (j + 1) := by
  apply List.ext_getElem?
  intro i
  have e1 := xadZ hv
  by_cases hi : i = n - 1 - j
  · subst hi
    rw [List.getElem?_set_self (by rw [xnwZ l args n j hn ha]; omega)]
    unfold contN
    rw [List.getElem?_append_left (by simp; omega), List.getElem?_append_right (by simp; omega), List.getElem?_drop]
    rw [← hv]
    congr 1
    simp
    omega
  · rw [List.getElem?_set_ne (fun e => hi e.symm)]
    unfold contN
    simp only [List.getElem?_append, List.length_append, List.length_take, List.length_drop, List.getElem?_take, List.getElem?_drop]
    by_cases h1 : i < n - 1 - j
    · rw [if_pos (by omega), if_pos (by omega), if_pos (by omega), if_pos (by omega), if_pos (by omega), if_pos (by omega)]
    · by_cases h2 : i < n
      · rw [if_pos (by omega), if_neg (by omega), if_pos (by omega), if_neg (by omega)]
        congr 1
        omega
      · rw [if_neg (by omega), if_neg (by omega)]
        congr 1
        omega
theorem downs_get (n j : Nat) (h : j < n) : (downs n)[j]? = some (n - 1 - j) := by
  induction n generalizing j with
  | zero => omega
  | succ n ih =>
    cases j with
    | zero => simp [downs]
    | succ j =>
      simp only [downs, List.getElem?_cons_succ]
      rw [ih j (by omega)]
      congr 1
      omega
theorem hasV_row {W : World} {B bs gl n L : Nat} {l : List Val} (hB : Boxed W bs 87 (.slice (some ⟨gl, 0, none⟩) n L)) (hr : W.ownsRow B 113 2 (.slice (some ⟨gl, 0, none⟩) L L) L (valCells l)) (hl : l.length = L) (hn : n ≤ L) (hn2 : n ≤ 100) : HasV bs (some ⟨gl, 0, none⟩) n L W := by
  have hlt := (hr.lt gl rfl).2
  have hc := xa5Z hr
  have ht : (l.take n).length = n := by rw [List.length_take, hl]; omega
  refine ⟨hB, l.take n, ht, some ⟨gl, 0, none⟩, L, by rw [ht], by rw [ht]; unfold maxLen; omega, fun j o hj => ⟨gl, 0, rfl, hlt, ?_, ?_⟩⟩
  all_goals
    have hj2 : l[j]? = some o := by
      have h1 := xadZ hj
      rw [List.getElem?_take_of_lt (by omega)] at hj
      exact hj
  · rw [Nat.zero_add]; exact hc _ _ (xcoZ _ _ _ hj2).1
  · rw [Nat.zero_add]; exact hc _ _ (xcoZ _ _ _ hj2).2
theorem xmrZ (W : World) (R i : Nat) (a b : Value) : W.grownBy ((W.setCell ⟨R, i, none⟩ a).setCell ⟨R, i + 1, none⟩ b) (some R) := (xakZ W ⟨R, i, none⟩ a).trans (xakZ _ ⟨R, i + 1, none⟩ b)
def CallI (w0 : World) (b : Nat) (pv : Value) (M : Mach) (D : List Frm) (x : Frm) (s args : List Val) (n : Nat) (lc : List Val) (g cap gl bd bp bf : Nat) (fc : Array Value) (B : Nat) (pre : List (ItV n)) (W : World) : Prop :=
  DoerN w0 W b pv { M with frames := D ++ [{ x with stk := s ++ args.take (n - pre.length) }] } gl ∧ W.cell? ⟨b, 0, none⟩ = some (.slice (some ⟨g, 0, none⟩) (D.length + 1) cap) ∧
  (∃ l : List Val, l.length = lc.length ∧ W.ownsRow B 113 2 (.slice (some ⟨gl, 0, none⟩) lc.length lc.length) lc.length (valCells l) ∧ (pre.map (fun y => y.1.1) <+: downs n → l = contN lc args n pre.length)) ∧
  Boxed W bd 186 (.pointer (some ⟨b, 0, none⟩)) ∧ Boxed W bp 87 (.slice (some ⟨gl, 0, none⟩) n lc.length) ∧ W.heap[bf]? = some (.cells fc 89 (0, 0))
theorem callI_own (w0 : World) (b : Nat) (pv : Value) (M : Mach) (D : List Frm) (x : Frm) (s args : List Val) (n : Nat) (lc : List Val) (g cap gl bd bp bf : Nat) (fc : Array Value) (B C : Nat) (hC : w0.heap.size ≤ C) : OwnFrom C (CallI w0 b pv M D x s args n lc g cap gl bd bp bf fc B) := fun pre X Y row hs hg hr => by
  obtain ⟨h1, h2, ⟨l, h3, h4, h5⟩, h6, h7, h8⟩ := hs
  have hcells : ∀ (k : Nat) (cs : Array Value) (t : TypeId) (fz : Nat × Nat), X.heap[k]? = some (.cells cs t fz) → Y.heap[k]? = X.heap[k]? := fun k cs t fz hk =>
    hg.block k (xacZ hk) (fun e => by
      obtain ⟨_, o, ho, hc⟩ := hr k e.symm
      rw [hk] at ho; cases ho; cases hc)
  refine ⟨h1.kept hg (fun r e => ⟨Nat.le_trans hC (hr r e).1, (hr r e).2⟩), ?_, ⟨l, h3, xaoZ h4 fun j hj => ?_, h5⟩, (hcells _ _ _ _ h6).trans h6, (hcells _ _ _ _ h7).trans h7, (hcells _ _ _ _ h8).trans h8⟩
  · obtain ⟨fv, bv, iv, ov, q, qb, hA, _⟩ := h1
    exact (World.cell?_of_block (a := ⟨b, 0, none⟩) (hcells _ _ _ _ hA.cell)).trans h2
  · obtain ⟨cur, hh⟩ := xdnZ h4 hj
    exact hcells _ _ _ _ hh
theorem callI_next {w0 : World} {b : Nat} {pv : Value} {M : Mach} {D : List Frm} {x : Frm} {s args : List Val} {n : Nat} {lc : List Val} {g cap gl bd bp bf : Nat} {fc : Array Value} {B : Nat} {pre : List (ItV n)} {y : ItV n} {v : Val} {W w3 : World} (hI : CallI w0 b pv M D x s args n lc g cap gl bd bp bf fc B pre W)
    (h3 : Doer w0 w3 b pv { M with frames := D ++ [{ x with stk := s ++ args.take (n - 1 - pre.length) }] }) (o3 : xg3Z b W.drew w3) (c3 : StkCut b W.drew w3) (hlt : pre.length < n) (hv : args[n - 1 - pre.length]? = some v) (hal : args.length = n) (hn : n ≤ lc.length)
    (hdg : bd ≠ g) (hpg : bp ≠ g) (hfg : bf ≠ g) (hdl : bd ≠ gl) (hpl : bp ≠ gl) (hfl : bf ≠ gl) (hgg : g ≠ gl) (hBw : w0.heap.size ≤ B) :
    CallI w0 b pv M D x s args n lc g cap gl bd bp bf fc B (pre ++ [y]) ((w3.setCell ⟨gl, y.1.1 * 2, none⟩ (.bool v.1)).setCell ⟨gl, y.1.1 * 2 + 1, none⟩ (.int .i64 v.2)) ∧ W.grownBy w3 (some g) := by
  obtain ⟨h1, h2, ⟨l, hl1, hl2, hl3⟩, h4, h5, h6⟩ := hI
  have hd1 := h1.below ((Below.refl _ W).drew)
  have h2' : W.drew.cell? ⟨b, 0, none⟩ = some (.slice (some ⟨g, 0, none⟩) (D.length + 1) cap) := h2
  obtain ⟨og', -⟩ := o3 _ _ _ h2'
  have og : W.grownBy w3 (some g) := (xgyZ W g).trans og'
  have hst : s ++ args.take (n - pre.length) ≠ [] := by
    intro e
    have hl1 : (s ++ args.take (n - pre.length)).length = 0 := by rw [e]; rfl
    rw [List.length_append, List.length_take] at hl1
    omega
  have hN := hd1.take rfl hst h3 rfl o3 c3
  have hglB := (hl2.lt gl rfl).1
  obtain ⟨cur, hcur⟩ := xdnZ (g := gl) hl2 rfl
  have hcur3 := (og.block gl (xacZ hcur) (fun e => hgg (by simpa using e.symm))).trans hcur
  have ht := xmrZ w3 gl (y.1.1 * 2) (.bool v.1) (.int .i64 v.2)
  have hty : TyRow w3 (some gl) 113 := xatZ hcur3
  have e1 : n - (pre ++ [y]).length = n - 1 - pre.length := by simp; omega
  have hrow3 : w3.ownsRow B 113 2 (.slice (some ⟨gl, 0, none⟩) lc.length lc.length) lc.length (valCells l) := xaoZ hl2 fun j hj => og.block j (hl2.lt j hj).2 (fun e => by cases hj; exact hgg (by simpa using e.symm))
  have hrow4 := xbpZ (xbpZ hrow3 (y.1.1 * 2) (.bool v.1)) (y.1.1 * 2 + 1) (.int .i64 v.2)
  rw [xipZ] at hrow4
  refine ⟨⟨?_, ?_, ⟨l.set y.1.1 v, by simp [hl1], hrow4, fun hp => ?_⟩, ?_, ?_, ?_⟩, og⟩
  · rw [e1]
    exact hN.other ht hty (by omega)
  · have hb3 := og.cell h2 (fun e => by
      obtain ⟨gg, cc, bvv, ivv, ovv, qq, ccc, qbb, HH⟩ := h1.doer.open rfl
      have e2 := HH.one h2
      exact HH.gne (by rw [e2]; simpa using e))
    refine ht.cell hb3 (fun e => ?_)
    have e2 : b = gl := by simpa using e
    obtain ⟨fv, bv, iv, ov, q, qb, hA⟩ := h3
    have := hA.cell
    rw [e2, hcur3] at this
    simp at this
  · obtain ⟨r, hr⟩ := hp
    have hp1 : pre.map (fun y => y.1.1) <+: downs n := ⟨y.1.1 :: r, by rw [← hr]; simp⟩
    have hy : y.1.1 = n - 1 - pre.length := by
      have := downs_get n pre.length hlt
      rw [← hr] at this
      simp at this
      exact this
    rw [hl3 hp1, hy, contN_set lc args n pre.length v hn hal hlt hv]
    simp
  · exact Boxed.kept (Boxed.kept h4 og (fun e => hdg (by simpa using e))) ht (fun e => hdl (by simpa using e))
  · exact Boxed.kept (Boxed.kept h5 og (fun e => hpg (by simpa using e))) ht (fun e => hpl (by simpa using e))
  · exact (ht.block bf (Nat.lt_of_lt_of_le (xacZ h6) og.size) (fun e => hfl (by simpa using e))).trans ((og.block bf (xacZ h6) (fun e => hfg (by simpa using e))).trans h6)
theorem xl0Z {X : World} {R : Nat} {l : List Value} {t : TypeId} {fz : Nat × Nat} (h : X.heap[R]? = some (.cells l.toArray t fz)) (j : Nat) (u : Value) (hj : l[j]? = some u) : X.cell? ((⟨R, 0, none⟩ : Addr).add j) = some u := by
  rw [xdsZ, xaaZ h]
  simpa using hj
theorem call_trap (w0 : World) (b : Nat) (pv : Value) (M : Mach) (w : World) (h : Doer w0 w b pv M) (k : Int) (h6 : M.frames.length = 6) : Calls Tryz.prog 192 #[.pointer (some ⟨b, 0, none⟩), .int .i64 k] w fun e w' => e = .panicked [{ v := .iface 159 (.int .i64 4), recovered := false }] ∧ Below w0.heap.size w0 w' := by
  obtain ⟨fv, bv, iv, ov, q, qb, D0⟩ := h
  obtain ⟨p, cap, hfv⟩ := xaiZ D0.own.fr
  have hql : q.length = 6 := by have := D0.own.frs.len; omega
  rw [hql] at hfv
  have hb1 : Below w.heap.size w (w.alloc (.cells #[.pointer (some ⟨b, 0, none⟩)] 186)) := (Below.refl _ w).alloc (Nat.le_refl _) _
  have D1 := D0.below hb1
  have c0 := D1.cells.1
  rw [hfv] at c0
  have HD1 := hideP D1
  clear D0 D1
  go_enter Tryz.func192, Tryz.ntmps192
  go_wp2
  exact ⟨rfl, rfl, HD1.out.bel⟩
theorem call_fin {w0 W Wa w4 : World} {b g gl cap g4 cap4 Dd B1 L n : Nat} {pv bv iv ov : Value} {q : List FV} {qb : List Value} {M : Mach} {k : Int} {l : List Val} (hA : DAt w0 W b pv (.slice (some ⟨g, 0, none⟩) n cap) bv iv ov q qb M) (hq : q.length = n) (ha : W.grownBy Wa (some g)) (hG : Wa.grownBy w4 (some g)) (hO : w4.ownsRow w0.heap.size 89 4 (.slice (some ⟨g4, 0, none⟩) (n + 1) cap4) (n + 1) (fCells q ++ [.int .i64 k, .int .i64 0, .slice (some ⟨gl, 0, none⟩) L L, .slice none 0 0])) (hl : W.ownsRow B1 113 2 (.slice (some ⟨gl, 0, none⟩) L L) L (valCells l)) (hL : L = l.length) (hB : w0.heap.size ≤ B1) (hgl : gl ≠ g) (hnot : ∀ y ∈ fRows q, y.ownBlock ≠ some gl) (hD : W.heap[Dd]? = some (.deferred (some []))) (hDd : w0.heap.size ≤ Dd) :
    (w4.setCell ⟨b, 0, none⟩ (.slice (some ⟨g4, 0, none⟩) (n + 1) cap4)).heap[Dd]? = some (.deferred (some [])) ∧ Doer w0 ((w4.setCell ⟨b, 0, none⟩ (.slice (some ⟨g4, 0, none⟩) (n + 1) cap4)).putObj Dd (.deferred none)) b pv { M with frames := M.frames ++ [{ fn := k, pc := 0, loc := l, stk := [] }] } := by
  subst hq hL
  have hg := ha.trans hG
  obtain ⟨cur, hgc⟩ := xdnZ (g := g) hA.own.fr rfl
  have hDg : Dd ≠ g := fun e => by rw [e, hgc] at hD; simp at hD
  have hDb : Dd ≠ b := fun e => by rw [e, hA.cell] at hD; simp at hD
  have hDl : Dd < W.heap.size := by
    rcases Nat.lt_or_ge Dd W.heap.size with h | h
    · exact h
    · rw [Array.getElem?_eq_none h] at hD; cases hD
  have h4 := (hg.block Dd hDl (fun e => hDg (by simpa using e))).trans hD
  have h5 : (w4.setCell ⟨b, 0, none⟩ (.slice (some ⟨g4, 0, none⟩) (q.length + 1) cap4)).heap[Dd]? = some (.deferred (some [])) := (Below.heap_setCell w4 _ _ Dd hDb).trans h4
  have hl4 : w4.ownsRow w0.heap.size 113 2 (.slice (some ⟨gl, 0, none⟩) l.length l.length) l.length (valCells l) := xapZ (xaoZ hl fun j hj => hg.block j (hl.lt j hj).2 (fun e => by cases hj; exact hgl (by simpa using e))) hB
  have hp := hA.push (W2 := w4) (u := .slice (some ⟨g4, 0, none⟩) (q.length + 1) cap4) (c := ⟨k, 0, .slice (some ⟨gl, 0, none⟩) l.length l.length, .slice none 0 0⟩) (x := { fn := k, pc := 0, loc := l, stk := [] }) hg (by rw [xb7Z]; exact hO) rfl rfl hl4 rfl rfl (fun y hy z hz => by cases hz; exact hnot y hy)
  exact ⟨h5, ((hp.fresh (Nat.le_refl _)).kept (grownBy_putObj' _ Dd (.deferred none)) (fun r hr => by cases hr; exact ⟨hDd, _, h5, rfl⟩)).doer⟩
theorem call_ok (w0 : World) (b : Nat) (pv : Value) (M : Mach) (D : List Frm) (x : Frm) (p : List Fn) (k n : Nat) (f : Fn) (s args : List Val) (w : World) (h : Doer w0 w b pv M) (hF : M.frames = D ++ [x]) (hD : D.length ≤ 100) (h6 : M.frames.length ≠ 6) (hs : x.stk = s ++ args) (hsl : x.stk.length ≤ 90) (hp : FnsAt w0 pv p) (hk : p[k]? = some f) (hP : f.1 = (n : Int)) (hal : args.length = n) (hn : n ≤ f.2.1.length) (hL : f.2.1.length ≤ 90) : Calls Tryz.prog 192 #[.pointer (some ⟨b, 0, none⟩), .int .i64 k] w fun e w' => e = .returned (.tuple #[]) ∧ Doer w0 w' b pv { M with frames := D ++ [{ x with stk := s }, { fn := (k : Int), pc := 0, loc := args ++ (xa7Z f.2.1).drop n, stk := [] }] } := by
  obtain ⟨g, cap, bv, iv, ov, q, c, qb, H0⟩ := h.open hF
  have hgw : g < w.heap.size := by obtain ⟨cur, hg⟩ := H0.gb; exact xacZ hg
  obtain ⟨W1, hW1⟩ : ∃ W1, w.alloc (.cells #[.pointer (some ⟨b, 0, none⟩)] 186) = W1 := ⟨_, rfl⟩
  have b1 : Below w.heap.size w W1 := by rw [← hW1]; exact (Below.refl _ w).alloc (Nat.le_refl _) _
  have x1 : W1.heap[w.heap.size]? = some (.cells #[.pointer (some ⟨b, 0, none⟩)] 186 (0, 0)) := by rw [← hW1]; exact World.alloc_heap_new w _
  have lx := xacZ x1
  have H1 := H0.below b1
  have d0 : W1.cell? ⟨w.heap.size, 0, none⟩ = some (.pointer (some ⟨b, 0, none⟩)) := xaaZ x1 0
  have f0 := H1.fcell
  have f6 := H1.at_.cells.2.2.2.2.2.2
  have hl6 : ((D.length : Int) + 1 == 6) = false := by rw [hF] at h6; simp at h6 ⊢; omega
  have hp1 : FnsAt W1 pv p := hp.below H1.at_.bel
  obtain ⟨pp, qp, hpv, hpm, -⟩ := id hp
  subst hpv
  have HBG := hideP (xlwZ p _ k f W1 hp1 hk (by omega))
  have HH1 := hideP H1
  have HX1 := hideP x1
  have HP := hideP hp
  have HK := hideP hk
  clear h H0 H1 x1 hp1 hp hk
  refine (callsIn_wide (n := 5)).1 ?_
  have h15 : 1 ≤ 5 := by omega
  refine callsIn_of_wp_marks Tryz.func192 rfl trivial ?_ rfl
  simp only [Tryz.ntmps192, List.size_toArray, List.length_cons, List.length_nil, Nat.reduceAdd, Nat.reduceSub, Array.replicate_succ, Array.replicate_zero, List.push_toArray, List.append_toArray, List.nil_append, List.cons_append]
  refine wpIn_wide.2 ?_
  go_wp2_with fail
  refine HBG.out.mono ?_
  rintro e w2 ⟨gl, rfl, hrow2, b2⟩
  obtain ⟨W3, hW3⟩ : ∃ W3, w2.alloc (.cells #[.int .i64 k, .int .i64 0, .slice (some ⟨gl, 0, none⟩) f.2.1.length f.2.1.length, .slice none 0 0] 89) = W3 := ⟨_, rfl⟩
  have b3 : Below w2.heap.size w2 W3 := by rw [← hW3]; exact (Below.refl _ w2).alloc (Nat.le_refl _) _
  have x3 : W3.heap[w2.heap.size]? = some (.cells #[.int .i64 k, .int .i64 0, .slice (some ⟨gl, 0, none⟩) f.2.1.length f.2.1.length, .slice none 0 0] 89 (0, 0)) := by rw [← hW3]; exact World.alloc_heap_new w2 _
  have b13 : Below W1.heap.size W1 W3 := b2.trans (b3.mono b2.size)
  have H3 := HH1.out.below b13
  have d3 := (b13.cell (p := ⟨w.heap.size, 0, none⟩) lx).trans d0
  have e6 := H3.at_.cells.2.2.2.2.2.2
  have e2 : W3.cell? ⟨w2.heap.size, 2, none⟩ = some (.slice (some ⟨gl, 0, none⟩) f.2.1.length f.2.1.length) := xaaZ x3 2
  have hp3 : FnsAt W3 (.slice pp p.length qp) p := HP.out.below H3.at_.bel
  obtain ⟨pp', qp', hpe, _, hpc⟩ := id hp3
  cases hpe
  obtain ⟨pb, po, c0, c1, c2, c3, hpp, hplt, y0, y1, y2, y3, hfn⟩ := hpc k f HK.out
  subst hpp
  have hc0 := hfn.1
  rw [hP] at hc0
  subst hc0
  have hkp := xadZ HK.out
  have hkpi : (k : Int) < (p.length : Int) := by omega
  have hcli : (n : Int) ≤ (f.2.1.length : Int) := by omega
  have HROW := hideP hrow2
  have HX3 := hideP x3
  have HH3 := hideP H3
  clear hrow2 x3 H3 hpc hp3 hfn HBG
  have d3a := fun o => xabZ d3 o
  have e6a := fun o => xabZ e6 o
  have e2a := fun o => xabZ e2 o
  have y0a := fun o => xabZ y0 o
  subst hW3
  go_wp2_with fail
  go_region
  obtain ⟨W5, hW5⟩ : ∃ W5, ((w2.alloc (.cells #[.int .i64 k, .int .i64 0, .slice (some ⟨gl, 0, none⟩) f.2.1.length f.2.1.length, .slice none 0 0] 89)).alloc (.cells #[.slice (some ⟨gl, 0, none⟩) n f.2.1.length] 87)).drew = W5 := ⟨_, rfl⟩
  have b5 : Below w2.heap.size w2 W5 := by rw [← hW5]; exact (((Below.refl _ w2).alloc (Nat.le_refl _) _).alloc (by simp) _).drew
  have x5 : W5.heap[w2.heap.size]? = some (.cells #[.int .i64 k, .int .i64 0, .slice (some ⟨gl, 0, none⟩) f.2.1.length f.2.1.length, .slice none 0 0] 89 (0, 0)) := by rw [← hW5]; exact xalZ (World.alloc_heap_new w2 _) _
  have p5 : W5.heap[w2.heap.size + 1]? = some (.cells #[.slice (some ⟨gl, 0, none⟩) n f.2.1.length] 87 (0, 0)) := by rw [← hW5]; exact xa1Z w2 _ _
  have s5 : W5.heap.size = w2.heap.size + 2 := by rw [← hW5]; show ((w2.alloc _).alloc _).heap.size = _; simp
  rw [hW5]
  have HB5 := hideP b5
  have HX5 := hideP x5
  have HP5 := hideP p5
  have HS5 := hideP s5
  have q5 : W5.cell? ⟨w2.heap.size + 1, 0, none⟩ = some (.slice (some ⟨gl, 0, none⟩) n f.2.1.length) := xaaZ p5 0
  have BV := hideP (xmyZ (some ⟨gl, 0, none⟩) n f.2.1.length W5)
  clear b5 x5 p5 s5 hW5 HH3 HX3 d3 e6 e2 y0 y1 y2 y3 d3a e6a e2a y0a b3 b13 d0 f0 f6
  go_wp2_with fail
  refine BV.out.mono ?_
  rintro e w6 ⟨rfl, hw6⟩
  subst hw6
  clear BV
  go_wp2_with fail
  have hsz6 : (W5.alloc (.cells #[.slice (some ⟨gl, 0, none⟩) n f.2.1.length] 87)).heap.size = W5.heap.size + 1 := by simp
  have b56 : Below W5.heap.size W5 (W5.alloc (.cells #[.slice (some ⟨gl, 0, none⟩) n f.2.1.length] 87)) := (Below.refl _ W5).alloc (Nat.le_refl _) _
  have x6 : Boxed (W5.alloc (.cells #[.slice (some ⟨gl, 0, none⟩) n f.2.1.length] 87)) W5.heap.size 87 (.slice (some ⟨gl, 0, none⟩) n f.2.1.length) := Boxed.new W5 87 _
  obtain ⟨W6, hW6⟩ : ∃ W6, W5.alloc (.cells #[.slice (some ⟨gl, 0, none⟩) n f.2.1.length] 87) = W6 := ⟨_, rfl⟩
  rw [hW6] at hsz6 b56 x6 ⊢
  clear hW6
  have b26 := HB5.out.trans (b56.mono HB5.out.size)
  have b16 : Below W1.heap.size W1 W6 := b2.trans (b26.mono b2.size)
  have hfl : (xa7Z f.2.1).length = f.2.1.length := xelZ _
  have hrow6 : W6.ownsRow W1.heap.size 113 2 (.slice (some ⟨gl, 0, none⟩) f.2.1.length f.2.1.length) f.2.1.length (valCells (xa7Z f.2.1)) := xaoZ HROW.out fun j hj => b26.block j (HROW.out.lt j hj).2
  have hgl1 := HROW.out.lt gl rfl
  have hgl2 := (HH1.out.fr_row.lt g rfl).2
  have hs12 := b2.size
  have h5' := HS5.out
  have HAS : HasV W5.heap.size (some ⟨gl, 0, none⟩) n f.2.1.length W6 := hasV_row x6 hrow6 hfl hn (by omega)
  have hD6 : DoerN w0 W6 b (.slice (some ⟨pb, po, none⟩) p.length qp) M gl := (HH1.out.doer.fresh (z := gl) hgl1.1).below b16
  have hM0 : { M with frames := D ++ [{ x with stk := s ++ args.take (n - ([] : List (ItV n)).length) }] } = M := by
    have e1 : s ++ args.take (n - ([] : List (ItV n)).length) = x.stk := by rw [hs]; simp [← hal]
    rw [e1, ← hF]
  have hI0 : CallI w0 b (.slice (some ⟨pb, po, none⟩) p.length qp) M D x s args n (xa7Z f.2.1) g cap gl w.heap.size (w2.heap.size + 1) w2.heap.size #[.int .i64 k, .int .i64 0, .slice (some ⟨gl, 0, none⟩) f.2.1.length f.2.1.length, .slice none 0 0] W1.heap.size [] W6 := by
    refine ⟨by rw [hM0]; exact hD6, (b16.cell (p := ⟨b, 0, none⟩) HH1.out.at_.lt).trans HH1.out.fcell, ⟨xa7Z f.2.1, rfl, by rw [hfl]; exact hrow6, fun _ => (contN_zero _ _ _ hal).symm⟩, (b16.block _ lx).trans HX1.out, by rw [hfl]; exact (b56.block _ (xacZ HP5.out)).trans HP5.out, (b56.block _ (xacZ HX5.out)).trans HX5.out⟩
  have HI0 := hideP hI0
  clear hI0 hM0 hD6 hrow6
  refine (wpIn_wide (n := 5)).1 ?_
  have hw06 : w0.heap.size ≤ W6.heap.size := by have := HH1.out.at_.bel.size; have := b16.size; omega
  have hown := callI_own w0 b (.slice (some ⟨pb, po, none⟩) p.length qp) M D x s args n (xa7Z f.2.1) g cap gl w.heap.size (w2.heap.size + 1) w2.heap.size #[.int .i64 k, .int .i64 0, .slice (some ⟨gl, 0, none⟩) f.2.1.length f.2.1.length, .slice none 0 0] W1.heap.size W6.heap.size hw06
  refine wpIn_rangeFunc_ownH rfl h15 (gf := 237) (lb := #[.pointer (some ⟨W5.heap.size, 0, none⟩)]) rfl trivial (enters_of Tryz.func237 (by kernel_rfl) rfl)
    (xkbZ (5 - 1) (by omega) W5.heap.size n (some ⟨gl, 0, none⟩) f.2.1.length (by omega) W6 HAS) kpV_t kpV_b (Below.refl _ _) (fun _ => rfl)
    (CallI w0 b (.slice (some ⟨pb, po, none⟩) p.length qp) M D x s args n (xa7Z f.2.1) g cap gl w.heap.size (w2.heap.size + 1) w2.heap.size #[.int .i64 k, .int .i64 0, .slice (some ⟨gl, 0, none⟩) f.2.1.length f.2.1.length, .slice none 0 0] W1.heap.size) (fun _ _ _ => False) hown (fun _ _ _ _ _ hs _ _ => hs)
    HI0.out
    (fun y a' _ => a' = { tmps := #[Value.pointer (some ⟨b, 0, none⟩), Value.int .i64 (k : Int), Value.pointer (some ⟨w.heap.size, 0, none⟩), undef, Value.pointer (some ⟨w2.heap.size, 0, none⟩), Value.pointer (some ⟨w2.heap.size + 1, 0, none⟩), Value.int .i64 (y.1.1 : Int), Value.pointer (some ⟨b, 0, none⟩), Value.pointer (some ⟨b, 0, none⟩), Value.pointer (some ⟨b, 0, none⟩), Value.pointer (some ⟨b, 0, none⟩), Value.slice (some ⟨g, 0, none⟩) (D.length + 1) cap, Value.int .i64 ((D.length : Int) + 1), Value.bool false, undef, Value.pointer (some ⟨b, 0, none⟩), Value.pointer (some ⟨b, 0, none⟩), Value.pointer (some ⟨b, 6, none⟩), Value.agg #[.slice (some ⟨pb, po, none⟩) p.length qp], Value.int .i64 (k : Int), Value.agg #[.int .i64 k, .int .i64 0, .slice (some ⟨gl, 0, none⟩) f.2.1.length f.2.1.length, .slice none 0 0], Value.pointer (some ⟨w2.heap.size, 2, none⟩), Value.slice (some ⟨gl, 0, none⟩) f.2.1.length f.2.1.length, Value.pointer (some ⟨b, 0, none⟩), Value.pointer (some ⟨b, 0, none⟩), Value.pointer (some ⟨b, 6, none⟩), Value.pointer (some ⟨b, 6, none⟩), Value.slice (some ⟨pb, po, none⟩) p.length qp, Value.int .i64 (k : Int), Value.pointer (some ⟨pb, po + k * 4, none⟩), Value.pointer (some ⟨pb, po + k * 4, none⟩), Value.int .i64 (n : Int), Value.slice (some ⟨gl, 0, none⟩) n f.2.1.length, Value.slice (some ⟨gl, 0, none⟩) n f.2.1.length, Value.func (.func 237) #[] #[.pointer (some ⟨W5.heap.size, 0, none⟩)], Value.int .i64 (y.1.1 : Int), Value.agg #[.bool y.1.2.1, .int .i64 y.1.2.2], undef, undef, undef, undef, undef, undef, undef, undef, undef, undef, undef, undef, undef, undef, undef, undef, undef], defers := [] })
    (fun x a' _ X Y row hs hg hr => hs)
    ?assign ?body ?done ?stop
  case assign =>
    as_aux_lemma =>
    clear h5' hsz6
    rintro l0 pre y W K hI hK
    gi_wp2
    exact hK _ _ (KeepsFrom.refl _ _) (fun h => h) hI rfl
  case body =>
    as_aux_lemma =>
    rintro l0 pre y a' W hl0 hr0 hI rfl hlt
    have HIW := hideP hI
    obtain ⟨hDN, hfc, ⟨l, hll, hrl, hpre⟩, hbd, hbp, hbf⟩ := hI
    obtain ⟨v, hv⟩ := xagZ (l := args) (k := n - 1 - pre.length) (by omega)
    have htk : args.take (n - pre.length) = args.take (n - 1 - pre.length) ++ [v] := by
      rw [show n - pre.length = n - 1 - pre.length + 1 by omega]
      exact xazZ args _ v hv
    have hyn := y.2
    have hyi : (y.1.1 : Int) < (n : Int) := by omega
    have HT : Hid (∀ W', Below W.heap.size W W' → Calls Tryz.prog 186 #[.pointer (some ⟨b, 0, none⟩)] W' fun e w' => e = .returned (.agg #[.bool v.1, .int .i64 v.2]) ∧ Doer w0 w' b (.slice (some ⟨pb, po, none⟩) p.length qp) { M with frames := D ++ [{ x with stk := s ++ args.take (n - 1 - pre.length) }] } ∧ xg3Z b W' w' ∧ StkCut b W' w') := fun W' hW' => by
      have := xkgZ w0 b (.slice (some ⟨pb, po, none⟩) p.length qp) _ D _ (s ++ args.take (n - 1 - pre.length)) v W' (hDN.doer.below hW') rfl (by rw [htk]; simp) hD (by have := congrArg List.length hs; simp at this ⊢; omega)
      exact this
    have kd := hbd.cell
    have kp := hbp.cell
    rw [hfl] at kp hrl
    have hdg : ¬ w.heap.size = g := by omega
    have hpg : ¬ w2.heap.size + 1 = g := by have := b1.size; omega
    have hvals := xb8Z (l := l) (by rw [hll, hfl]; exact hrl)
    obtain ⟨z, hz⟩ := xagZ (l := l) (k := y.1.1) (by rw [hll, hfl]; omega)
    obtain ⟨pv', cv', hve, -, hvc⟩ := hvals
    rw [hll, hfl] at hve
    cases hve
    obtain ⟨gg, oo, hgo, -, v0, v1⟩ := hvc y.1.1 z hz
    cases hgo
    simp only [Nat.zero_add] at v0 v1
    obtain ⟨cur, hcur⟩ := xdnZ (g := gl) hrl rfl
    have hgne : ¬ g = gl := fun e => by
      obtain ⟨gg, cc, bvv, ivv, ovv, qq, ccc, qbb, HH⟩ := hDN.doer.open rfl
      have := HH.one hfc
      obtain ⟨cu, hcu⟩ := HH.gb
      rw [this, e, hcur] at hcu
      simp at hcu
    have HDN := hideP hDN
    have HRL := hideP hrl
    have HPRE := hideP hpre
    have HBD := hideP hbd
    have HBP := hideP hbp
    have HBF := hideP hbf
    have HFC := hideP hfc
    have HCUR := hideP hcur
    have HV := hideP hv
    have HLL := hideP hll
    have HTK := hideP htk
    have HZ := hideP hz
    have HSZ5 := hideP h5'
    have HSZ6 := hideP hsz6
    have HFL := hideP hfl
    clear hDN hfc hpre hbd hbp hbf hvc hcur hv hll htk hz hrl h5' hsz6 hfl HAS HI0 hown
    have H_hs := hideP hs
    have H_hF := hideP hF
    have H_hal := hideP hal
    have H_hn := hideP hn
    have H_hgw := hideP hgw
    have H_hs12 := hideP hs12
    have H_hgl1 := hideP hgl1
    have H_hgl2 := hideP hgl2
    have H_hlt := hideP hlt
    have HN100 : Hid (n ≤ 100) := by have := hn; have := hL; show n ≤ 100; omega
    clear hs hF hal hn hgw hs12 hgl1 hgl2 hlt
    try clear hP
    try clear hL
    try clear hsl
    try clear h6
    try clear hl6
    try clear hpm
    try clear hkpi
    try clear hkp
    try clear hcli
    try clear hw06
    try clear hr0
    try clear q5
    refine wpIn_mono (Q := fun e _ w' => e = Exit.normal ∧ ∃ w3, Doer w0 w3 b (.slice (some ⟨pb, po, none⟩) p.length qp) { M with frames := D ++ [{ x with stk := s ++ args.take (n - 1 - pre.length) }] } ∧ xg3Z b W.drew w3 ∧ StkCut b W.drew w3 ∧ w' = (w3.setCell ⟨gl, y.1.1 * 2, none⟩ (.bool v.1)).setCell ⟨gl, y.1.1 * 2 + 1, none⟩ (.int .i64 v.2)) ?_ ?_
    rotate_left
    · rintro e a' w' ⟨rfl, w3, h3, o3, c3, rfl⟩
      have hs := H_hs.out
      have hF := H_hF.out
      have hal := H_hal.out
      have hn := H_hn.out
      have hgw := H_hgw.out
      have hs12 := H_hs12.out
      have hgl1 := H_hgl1.out
      have hgl2 := H_hgl2.out
      have hlt := H_hlt.out
      have hb1s := b1.size
      have h5s := HSZ5.out
      have h6s := HSZ6.out
      have h12 := hs12
      have hw01 := HH1.out.at_.bel.size
      obtain ⟨hN, og⟩ := callI_next (y := y) HIW.out h3 o3 c3 hlt HV.out hal (by rw [HFL.out]; exact hn) (by omega) (by omega) (by omega) (by omega) (by omega) (by omega) hgne hw01
      have ht := xmrZ w3 gl (y.1.1 * 2) (.bool v.1) (.int .i64 v.2)
      refine ⟨KeepsFrom.trans (KeepsFrom.of_grownBy og (fun j hj => by cases hj; omega)) (KeepsFrom.of_grownBy ht (fun j hj => by cases hj; omega)), fun hh => ?_, hN⟩
      obtain ⟨-, -, ⟨l', hl', hr', -⟩, -⟩ := hN
      rw [HFL.out] at hl' hr'
      exact hasV_row (Boxed.kept (Boxed.kept hh.1 og (fun e => by have e2 : W5.heap.size = g := (by simpa using e); omega)) ht (fun e => by have e2 : W5.heap.size = gl := (by simpa using e); omega)) hr' hl' hn HN100.out
    gi_wp2_with fail
    gi_region_with (refine ⟨trivial, ?_⟩; refine (CallsIn.inRound l0 (callsIn_wide.2 (HT.out _ ((Below.refl _ W).drew)))).mono ?_; rintro e w3 ⟨rfl, h3, o3, c3⟩; obtain ⟨og, oj⟩ := o3 _ _ _ HFC.out; have kd3 := og.cell kd (by simpa using hdg); have kp3 := og.cell kp (by simpa using hpg); have v03 := og.cell v0 (by simpa using fun e => hgne e.symm); have v13 := og.cell v1 (by simpa using fun e => hgne e.symm); have hcur3 := (og.block gl (xacZ HCUR.out) (fun e => hgne (by simpa using e.symm))).trans HCUR.out; have z0 := Lib.frozen_of_heap hcur3 (y.1.1 * 2); have z1 := Lib.frozen_of_heap hcur3 (y.1.1 * 2 + 1); have H3 := hideP h3; have O3 := hideP o3; have C3 := hideP c3; have OG := hideP og; have HC3 := hideP hcur3; clear h3 o3 c3 og oj hcur3)
    all_goals exact ⟨rfl, w3, H3.out, O3.out, C3.out, rfl⟩
  case done =>
    as_aux_lemma =>
    rintro Dd ys W hDd hys hI hKd
    obtain ⟨hDN, hfc, ⟨l, hll, hrl, hpre⟩, hbd, hbp, hbf⟩ := hI
    have hyl : ys.length = n := by have := congrArg List.length hys; simpa [xh8Z] using this
    have hlc := hpre (by rw [hys]; exact ⟨[], by simp⟩)
    rw [hyl, contN_all] at hlc
    rw [hyl, Nat.sub_self, List.take_zero, List.append_nil] at hDN
    obtain ⟨fv, bv2, iv2, ov2, q0, qb2, hA, hnot⟩ := hDN
    have hfv : fv = .slice (some ⟨g, 0, none⟩) (D.length + 1) cap := by have := hA.cells.1; rw [hfc] at this; exact (Option.some.inj this).symm
    subst hfv
    have hql : q0.length = D.length + 1 := by have := hA.own.frs.len; simpa using this
    obtain ⟨i0, hi, hz0, hz1, hz2⟩ := info_parts infoFrm
    have kd := hbd.cell
    have f0 : W.cell? ⟨w2.heap.size, 0, none⟩ = some (.int .i64 k) := xaaZ hbf 0
    have f1 : W.cell? ⟨w2.heap.size, 1, none⟩ = some (.int .i64 0) := xaaZ hbf 1
    have f2 : W.cell? ⟨w2.heap.size, 2, none⟩ = some (.slice (some ⟨gl, 0, none⟩) f.2.1.length f.2.1.length) := xaaZ hbf 2
    have f3 : W.cell? ⟨w2.heap.size, 3, none⟩ = some (.slice none 0 0) := xaaZ hbf 3
    have HROWF : Hid (W.ownsRow w0.heap.size 89 4 (.slice (some ⟨g, 0, none⟩) (D.length + 1) cap) (D.length + 1) (fCells q0)) := by have := hA.own.fr; rw [hql] at this; exact this
    have HA := hideP hA
    have HNOT := hideP hnot
    have HRL := hideP hrl
    have HLC := hideP hlc
    have HLL := hideP hll
    have HFL := hideP hfl
    have HQL := hideP hql
    have HSZ5 := hideP h5'
    have HSZ6 := hideP hsz6
    have HKD := hideP hKd
    have hdg : ¬ w.heap.size = g := by omega
    have hfg : ¬ w2.heap.size = g := by have := b1.size; omega
    have hbd' : ¬ w.heap.size = b := fun e => by
      have h1 := hA.cell
      rw [← e, show W.heap[w.heap.size]? = _ from hbd] at h1
      simp at h1
    have hbf' : ¬ w2.heap.size = b := fun e => by
      have h1 := hA.cell
      rw [← e, hbf] at h1
      simp at h1
    have kda := fun o => xabZ kd o
    have f0a := fun o => xabZ f0 o
    have f1a := fun o => xabZ f1 o
    have f2a := fun o => xabZ f2 o
    have f3a := fun o => xabZ f3 o
    have hfca := fun o => xabZ hfc o
    clear hA hnot hrl hlc hll hfl hql h5' hsz6 hpre hbd hbp hbf HAS HI0 hown hys hyl hKd
    gi_wp2_with fail
    have hfc0 := hfc
    refine xiwZ ?_
    refine wp_region_held_drew (S := fun X => X.cell? ⟨w.heap.size, 0, none⟩ = some (.pointer (some ⟨b, 0, none⟩)) ∧ X.cell? ⟨w2.heap.size, 0, none⟩ = some (.int .i64 (k : Int)) ∧ X.cell? ⟨w2.heap.size, 1, none⟩ = some (.int .i64 0) ∧ X.cell? ⟨w2.heap.size, 2, none⟩ = some (.slice (some ⟨gl, 0, none⟩) f.2.1.length f.2.1.length) ∧ X.cell? ⟨w2.heap.size, 3, none⟩ = some (.slice none 0 0)) (by kernel_rfl) ⟨kd, f0, f1, f2, f3⟩ (fun hHeld => ?_)
    refine wpAnyH_take (i := 0) (oi := { dst := some 42, op := Op.load 186 (Operand.tmp 2), type := 186, pos := "stride.go:133", after := #[], guard := none }) (v := ?_) rfl (by kernel_rfl) (by kernel_rfl) (by kernel_rfl) (fun _ _ _ h => h) (Or.inl ⟨by rfl, ?_⟩) (by assumption) ?_
    rotate_left
    · (intro wS hSw; (try dsimp only at hSw); go_simp) <;> (first | done | with_reducible rfl)
    try simp only [Act.put, List.setIfInBounds_toArray, List.set_cons_zero, List.set_cons_succ]
    refine wpAnyH_take (i := 1) (oi := { dst := some 43, op := Op.load 186 (Operand.tmp 2), type := 186, pos := "stride.go:133", after := #[], guard := none }) (v := ?_) rfl (by kernel_rfl) (by kernel_rfl) (by kernel_rfl) (fun _ _ _ h => h) (Or.inl ⟨by rfl, ?_⟩) (by assumption) ?_
    rotate_left
    · (intro wS hSw; (try dsimp only at hSw); go_simp) <;> (first | done | with_reducible rfl)
    try simp only [Act.put, List.setIfInBounds_toArray, List.set_cons_zero, List.set_cons_succ]
    refine wpAnyH_take (i := 2) (oi := { dst := some 44, op := Op.nilCheck (Operand.tmp 43), type := 0, pos := "stride.go:133", after := #[{ on := 1, ground := Ground.data }], guard := none }) (v := ?_) rfl (by kernel_rfl) (by kernel_rfl) (by kernel_rfl) (fun _ _ _ h => h) (Or.inl ⟨by rfl, ?_⟩) (by assumption) ?_
    rotate_left
    · (intro wS hSw; (try dsimp only at hSw); go_simp) <;> (first | done | with_reducible rfl)
    try simp only [Act.put, List.setIfInBounds_toArray, List.set_cons_zero, List.set_cons_succ]
    refine wpAnyH_take (i := 3) (oi := { dst := some 45, op := Op.fieldAddr 162 (Operand.tmp 44) 0, type := 0, pos := "stride.go:133", after := #[{ on := 2, ground := Ground.data }], guard := none }) (v := ?_) rfl (by kernel_rfl) (by kernel_rfl) (by kernel_rfl) (fun _ _ _ h => h) (Or.inl ⟨by rfl, ?_⟩) (by assumption) ?_
    rotate_left
    · (intro wS hSw; (try dsimp only at hSw); go_simp) <;> (first | done | with_reducible rfl)
    try simp only [Act.put, List.setIfInBounds_toArray, List.set_cons_zero, List.set_cons_succ]
    refine wpAnyH_take (i := 4) (oi := { dst := some 46, op := Op.fieldAddr 48 (Operand.tmp 45) 0, type := 0, pos := "stride.go:133", after := #[{ on := 3, ground := Ground.data }], guard := none }) (v := ?_) rfl (by kernel_rfl) (by kernel_rfl) (by kernel_rfl) (fun _ _ _ h => h) (Or.inl ⟨by rfl, ?_⟩) (by assumption) ?_
    rotate_left
    · (intro wS hSw; (try dsimp only at hSw); go_simp) <;> (first | done | with_reducible rfl)
    try simp only [Act.put, List.setIfInBounds_toArray, List.set_cons_zero, List.set_cons_succ]
    refine wpAnyH_take (i := 6) (oi := { dst := some 48, op := Op.load 89 (Operand.tmp 4), type := 89, pos := "stride.go:133", after := #[], guard := none }) (v := ?_) rfl (by kernel_rfl) (by kernel_rfl) (by kernel_rfl) (fun _ _ _ h => h) (Or.inl ⟨by rfl, ?_⟩) (by assumption) ?_
    rotate_left
    · (intro wS hSw; (try dsimp only at hSw); go_simp) <;> (first | done | with_reducible rfl)
    try simp only [Act.put, List.setIfInBounds_toArray, List.set_cons_zero, List.set_cons_succ]
    refine wpAnyH_ready (rs := [5, 7]) (by kernel_rfl) (by simp) ?_
    refine AllReadyH.cons (o := { dst := some 47, op := Op.load 44 (Operand.tmp 46), type := 44, pos := "stride.go:133", after := #[{ on := 4, ground := Ground.data }], guard := none }) rfl (fun K hK => ?_) (AllReadyH.cons (o := { dst := some 49, op := Op.buildSlice 44 1 #[(0, Operand.tmp 48)], type := 44, pos := "stride.go:133", after := #[{ on := 6, ground := Ground.data }], guard := none }) rfl (fun K hK => ?_) AllReadyH.nil)
    · go_simp
      refine hK.out _ _ ?_ (fun hHeld => ?_)
      · exact ⟨kd, f0, f1, f2, f3⟩
      clear hK K
      try simp only [Act.put, List.setIfInBounds_toArray, List.set_cons_zero, List.set_cons_succ]
      refine wpAnyH_ready (rs := [7]) (by kernel_rfl) (by simp) ?_
      refine AllReadyH.cons (o := { dst := some 49, op := Op.buildSlice 44 1 #[(0, Operand.tmp 48)], type := 44, pos := "stride.go:133", after := #[{ on := 6, ground := Ground.data }], guard := none }) rfl (fun K hK => ?_) AllReadyH.nil
      go_simp
      refine hK.out _ _ ?_ (fun hHeld => ?_)
      · exact ⟨kda _, f0a _, f1a _, f2a _, f3a _⟩
      clear hK K
      try simp only [Act.put, List.setIfInBounds_toArray, List.set_cons_zero, List.set_cons_succ]
      refine wpAnyH_ready (rs := [8]) (by kernel_rfl) (by simp) ?_
      refine AllReadyH.cons (o := { dst := some 50, op := Op.call { callee := Callee.builtin Builtin.append, args := #[Operand.tmp 47, Operand.tmp 49], argTypes := #[44, 44] }, type := 44, pos := "stride.go:133", after := #[{ on := 5, ground := Ground.data }, { on := 7, ground := Ground.data }], guard := none }) rfl (fun K hK => ?_) AllReadyH.nil
      refine xfeZ rfl _ _ 44 rfl w0.heap.size 89 i0 (.agg #[.int .i64 0, .int .i64 0, .slice none 0 0, .slice none 0 0]) 4 64 Tryz.underlying44 hi hz0 hz1 hz2 rfl (by decide) _ _ _ rfl (xaoZ HROWF.out (fun j hj => Below.heap_alloc W _ j (HROWF.out.lt j hj).2)) ⟨W.heap.size, 0, none⟩ 1 1 [.int .i64 k, .int .i64 0, .slice (some ⟨gl, 0, none⟩) f.2.1.length f.2.1.length, .slice none 0 0] rfl rfl (xl0Z (World.alloc_heap_new W _)) (by simp [Value.oneCell']) (by unfold maxLen; omega) (by omega) (by have := HA.out.bel.size; simp; omega) ?_
      intro v' w4 hown4 hg4 hat4; obtain ⟨g4, cap4, hv4⟩ := ownsRow_succ hown4; subst hv4; have hb4 := (hg4.block b (Nat.lt_of_lt_of_le HA.out.lt (by simp)) (xboZ HROWF.out HA.out.cell (by decide))).trans ((Below.heap_alloc W _ b HA.out.lt).trans HA.out.cell); have m4 := xaaZ hb4 0; have z4 := Lib.frozen_of_heap hb4 0; simp at m4; have kd4 := hg4.cell (kda _) (fun e => hdg (by have e2 : some w.heap.size = some g := e; simpa using e2)); have f04 := hg4.cell (f0a _) (fun e => hfg (by have e2 : some w2.heap.size = some g := e; simpa using e2)); have f14 := hg4.cell (f1a _) (fun e => hfg (by have e2 : some w2.heap.size = some g := e; simpa using e2)); have f24 := hg4.cell (f2a _) (fun e => hfg (by have e2 : some w2.heap.size = some g := e; simpa using e2)); have f34 := hg4.cell (f3a _) (fun e => hfg (by have e2 : some w2.heap.size = some g := e; simpa using e2)); have HO4 := hideP hown4; have HG4 := hideP hg4; have HB4 := hideP hb4; clear hown4 hg4 hb4 hat4
      refine hK.out _ _ ?_ (fun hHeld => ?_)
      · exact ⟨kd4, f04, f14, f24, f34⟩
      clear hK K
      try simp only [Act.put, List.setIfInBounds_toArray, List.set_cons_zero, List.set_cons_succ]
      refine wpAnyH_take (i := 9) (oi := { dst := some 51, op := Op.nilCheck (Operand.tmp 42), type := 0, pos := "stride.go:133", after := #[{ on := 0, ground := Ground.data }, { on := 0, ground := Ground.phase }, { on := 1, ground := Ground.phase }, { on := 2, ground := Ground.phase }, { on := 3, ground := Ground.phase }, { on := 4, ground := Ground.phase }, { on := 5, ground := Ground.phase }, { on := 6, ground := Ground.phase }, { on := 7, ground := Ground.phase }, { on := 8, ground := Ground.phase }], guard := none }) (v := ?_) rfl (by kernel_rfl) (by kernel_rfl) (by kernel_rfl) (fun _ _ _ h => h) (Or.inl ⟨by rfl, ?_⟩) (by assumption) ?_
      rotate_left
      · (intro wS hSw; (try dsimp only at hSw); go_simp) <;> (first | done | with_reducible rfl)
      try simp only [Act.put, List.setIfInBounds_toArray, List.set_cons_zero, List.set_cons_succ]
      refine wpAnyH_take (i := 10) (oi := { dst := some 52, op := Op.fieldAddr 162 (Operand.tmp 51) 0, type := 0, pos := "stride.go:133", after := #[{ on := 9, ground := Ground.data }, { on := 0, ground := Ground.phase }, { on := 1, ground := Ground.phase }, { on := 2, ground := Ground.phase }, { on := 3, ground := Ground.phase }, { on := 4, ground := Ground.phase }, { on := 5, ground := Ground.phase }, { on := 6, ground := Ground.phase }, { on := 7, ground := Ground.phase }, { on := 8, ground := Ground.phase }], guard := none }) (v := ?_) rfl (by kernel_rfl) (by kernel_rfl) (by kernel_rfl) (fun _ _ _ h => h) (Or.inl ⟨by rfl, ?_⟩) (by assumption) ?_
      rotate_left
      · (intro wS hSw; (try dsimp only at hSw); go_simp) <;> (first | done | with_reducible rfl)
      try simp only [Act.put, List.setIfInBounds_toArray, List.set_cons_zero, List.set_cons_succ]
      refine wpAnyH_take (i := 11) (oi := { dst := some 53, op := Op.fieldAddr 48 (Operand.tmp 52) 0, type := 0, pos := "stride.go:133", after := #[{ on := 10, ground := Ground.data }, { on := 0, ground := Ground.phase }, { on := 1, ground := Ground.phase }, { on := 2, ground := Ground.phase }, { on := 3, ground := Ground.phase }, { on := 4, ground := Ground.phase }, { on := 5, ground := Ground.phase }, { on := 6, ground := Ground.phase }, { on := 7, ground := Ground.phase }, { on := 8, ground := Ground.phase }], guard := none }) (v := ?_) rfl (by kernel_rfl) (by kernel_rfl) (by kernel_rfl) (fun _ _ _ h => h) (Or.inl ⟨by rfl, ?_⟩) (by assumption) ?_
      rotate_left
      · (intro wS hSw; (try dsimp only at hSw); go_simp) <;> (first | done | with_reducible rfl)
      try simp only [Act.put, List.setIfInBounds_toArray, List.set_cons_zero, List.set_cons_succ]
      refine wpAnyH_ready (rs := [12]) (by kernel_rfl) (by simp) ?_
      refine AllReadyH.cons (o := { dst := none, op := Op.store 44 (Operand.tmp 53) (Operand.tmp 50), type := 0, pos := "stride.go:133", after := #[{ on := 11, ground := Ground.data }, { on := 8, ground := Ground.data }, { on := 8, ground := Ground.chain }, { on := 0, ground := Ground.phase }, { on := 1, ground := Ground.phase }, { on := 2, ground := Ground.phase }, { on := 3, ground := Ground.phase }, { on := 4, ground := Ground.phase }, { on := 5, ground := Ground.phase }, { on := 6, ground := Ground.phase }, { on := 7, ground := Ground.phase }, { on := 8, ground := Ground.phase }], guard := none }) rfl (fun K hK => ?_) AllReadyH.nil
      go_simp
      refine hK.out _ _ ?_ (fun hHeld => ?_)
      · exact ⟨xcdZ kd4 hbd', xcdZ f04 hbf', xcdZ f14 hbf', xcdZ f24 hbf', xcdZ f34 hbf'⟩
      clear hK K
      try simp only [Act.put, List.setIfInBounds_toArray, List.set_cons_zero, List.set_cons_succ]
      refine wpAnyH_done (by kernel_rfl) ?_ _
      have hF := call_fin (Dd := Dd) (k := (k : Int)) (l := l) HA.out HQL.out ((World.grownBy_alloc W _ (some g)).trans (xgyZ _ g)) HG4.out HO4.out (by have := HRL.out; rw [HFL.out] at this; exact this) (by rw [HLL.out, HFL.out]) HH1.out.at_.bel.size (by omega) HNOT.out HKD.out (by omega)
      rw [HLC.out] at hF
      refine ⟨by simp, .inl ⟨_, _, rfl, run_takeDeferred hF.1, ?_⟩⟩
      refine ⟨.tuple #[], by simp [results, Tryz.results192, go_sem], rfl, ?_⟩
      simpa using hF.2
    · go_simp
      refine hK.out _ _ ?_ (fun hHeld => ?_)
      · exact ⟨kda _, f0a _, f1a _, f2a _, f3a _⟩
      clear hK K
      try simp only [Act.put, List.setIfInBounds_toArray, List.set_cons_zero, List.set_cons_succ]
      refine wpAnyH_ready (rs := [5]) (by kernel_rfl) (by simp) ?_
      refine AllReadyH.cons (o := { dst := some 47, op := Op.load 44 (Operand.tmp 46), type := 44, pos := "stride.go:133", after := #[{ on := 4, ground := Ground.data }], guard := none }) rfl (fun K hK => ?_) AllReadyH.nil
      go_simp
      refine hK.out _ _ ?_ (fun hHeld => ?_)
      · exact ⟨kda _, f0a _, f1a _, f2a _, f3a _⟩
      clear hK K
      try simp only [Act.put, List.setIfInBounds_toArray, List.set_cons_zero, List.set_cons_succ]
      refine wpAnyH_ready (rs := [8]) (by kernel_rfl) (by simp) ?_
      refine AllReadyH.cons (o := { dst := some 50, op := Op.call { callee := Callee.builtin Builtin.append, args := #[Operand.tmp 47, Operand.tmp 49], argTypes := #[44, 44] }, type := 44, pos := "stride.go:133", after := #[{ on := 5, ground := Ground.data }, { on := 7, ground := Ground.data }], guard := none }) rfl (fun K hK => ?_) AllReadyH.nil
      refine xfeZ rfl _ _ 44 rfl w0.heap.size 89 i0 (.agg #[.int .i64 0, .int .i64 0, .slice none 0 0, .slice none 0 0]) 4 64 Tryz.underlying44 hi hz0 hz1 hz2 rfl (by decide) _ _ _ rfl (xaoZ HROWF.out (fun j hj => Below.heap_alloc W _ j (HROWF.out.lt j hj).2)) ⟨W.heap.size, 0, none⟩ 1 1 [.int .i64 k, .int .i64 0, .slice (some ⟨gl, 0, none⟩) f.2.1.length f.2.1.length, .slice none 0 0] rfl rfl (xl0Z (World.alloc_heap_new W _)) (by simp [Value.oneCell']) (by unfold maxLen; omega) (by omega) (by have := HA.out.bel.size; simp; omega) ?_
      intro v' w4 hown4 hg4 hat4; obtain ⟨g4, cap4, hv4⟩ := ownsRow_succ hown4; subst hv4; have hb4 := (hg4.block b (Nat.lt_of_lt_of_le HA.out.lt (by simp)) (xboZ HROWF.out HA.out.cell (by decide))).trans ((Below.heap_alloc W _ b HA.out.lt).trans HA.out.cell); have m4 := xaaZ hb4 0; have z4 := Lib.frozen_of_heap hb4 0; simp at m4; have kd4 := hg4.cell (kda _) (fun e => hdg (by have e2 : some w.heap.size = some g := e; simpa using e2)); have f04 := hg4.cell (f0a _) (fun e => hfg (by have e2 : some w2.heap.size = some g := e; simpa using e2)); have f14 := hg4.cell (f1a _) (fun e => hfg (by have e2 : some w2.heap.size = some g := e; simpa using e2)); have f24 := hg4.cell (f2a _) (fun e => hfg (by have e2 : some w2.heap.size = some g := e; simpa using e2)); have f34 := hg4.cell (f3a _) (fun e => hfg (by have e2 : some w2.heap.size = some g := e; simpa using e2)); have HO4 := hideP hown4; have HG4 := hideP hg4; have HB4 := hideP hb4; clear hown4 hg4 hb4 hat4
      refine hK.out _ _ ?_ (fun hHeld => ?_)
      · exact ⟨kd4, f04, f14, f24, f34⟩
      clear hK K
      try simp only [Act.put, List.setIfInBounds_toArray, List.set_cons_zero, List.set_cons_succ]
      refine wpAnyH_take (i := 9) (oi := { dst := some 51, op := Op.nilCheck (Operand.tmp 42), type := 0, pos := "stride.go:133", after := #[{ on := 0, ground := Ground.data }, { on := 0, ground := Ground.phase }, { on := 1, ground := Ground.phase }, { on := 2, ground := Ground.phase }, { on := 3, ground := Ground.phase }, { on := 4, ground := Ground.phase }, { on := 5, ground := Ground.phase }, { on := 6, ground := Ground.phase }, { on := 7, ground := Ground.phase }, { on := 8, ground := Ground.phase }], guard := none }) (v := ?_) rfl (by kernel_rfl) (by kernel_rfl) (by kernel_rfl) (fun _ _ _ h => h) (Or.inl ⟨by rfl, ?_⟩) (by assumption) ?_
      rotate_left
      · (intro wS hSw; (try dsimp only at hSw); go_simp) <;> (first | done | with_reducible rfl)
      try simp only [Act.put, List.setIfInBounds_toArray, List.set_cons_zero, List.set_cons_succ]
      refine wpAnyH_take (i := 10) (oi := { dst := some 52, op := Op.fieldAddr 162 (Operand.tmp 51) 0, type := 0, pos := "stride.go:133", after := #[{ on := 9, ground := Ground.data }, { on := 0, ground := Ground.phase }, { on := 1, ground := Ground.phase }, { on := 2, ground := Ground.phase }, { on := 3, ground := Ground.phase }, { on := 4, ground := Ground.phase }, { on := 5, ground := Ground.phase }, { on := 6, ground := Ground.phase }, { on := 7, ground := Ground.phase }, { on := 8, ground := Ground.phase }], guard := none }) (v := ?_) rfl (by kernel_rfl) (by kernel_rfl) (by kernel_rfl) (fun _ _ _ h => h) (Or.inl ⟨by rfl, ?_⟩) (by assumption) ?_
      rotate_left
      · (intro wS hSw; (try dsimp only at hSw); go_simp) <;> (first | done | with_reducible rfl)
      try simp only [Act.put, List.setIfInBounds_toArray, List.set_cons_zero, List.set_cons_succ]
      refine wpAnyH_take (i := 11) (oi := { dst := some 53, op := Op.fieldAddr 48 (Operand.tmp 52) 0, type := 0, pos := "stride.go:133", after := #[{ on := 10, ground := Ground.data }, { on := 0, ground := Ground.phase }, { on := 1, ground := Ground.phase }, { on := 2, ground := Ground.phase }, { on := 3, ground := Ground.phase }, { on := 4, ground := Ground.phase }, { on := 5, ground := Ground.phase }, { on := 6, ground := Ground.phase }, { on := 7, ground := Ground.phase }, { on := 8, ground := Ground.phase }], guard := none }) (v := ?_) rfl (by kernel_rfl) (by kernel_rfl) (by kernel_rfl) (fun _ _ _ h => h) (Or.inl ⟨by rfl, ?_⟩) (by assumption) ?_
      rotate_left
      · (intro wS hSw; (try dsimp only at hSw); go_simp) <;> (first | done | with_reducible rfl)
      try simp only [Act.put, List.setIfInBounds_toArray, List.set_cons_zero, List.set_cons_succ]
      refine wpAnyH_ready (rs := [12]) (by kernel_rfl) (by simp) ?_
      refine AllReadyH.cons (o := { dst := none, op := Op.store 44 (Operand.tmp 53) (Operand.tmp 50), type := 0, pos := "stride.go:133", after := #[{ on := 11, ground := Ground.data }, { on := 8, ground := Ground.data }, { on := 8, ground := Ground.chain }, { on := 0, ground := Ground.phase }, { on := 1, ground := Ground.phase }, { on := 2, ground := Ground.phase }, { on := 3, ground := Ground.phase }, { on := 4, ground := Ground.phase }, { on := 5, ground := Ground.phase }, { on := 6, ground := Ground.phase }, { on := 7, ground := Ground.phase }, { on := 8, ground := Ground.phase }], guard := none }) rfl (fun K hK => ?_) AllReadyH.nil
      go_simp
      refine hK.out _ _ ?_ (fun hHeld => ?_)
      · exact ⟨xcdZ kd4 hbd', xcdZ f04 hbf', xcdZ f14 hbf', xcdZ f24 hbf', xcdZ f34 hbf'⟩
      clear hK K
      try simp only [Act.put, List.setIfInBounds_toArray, List.set_cons_zero, List.set_cons_succ]
      refine wpAnyH_done (by kernel_rfl) ?_ _
      have hF := call_fin (Dd := Dd) (k := (k : Int)) (l := l) HA.out HQL.out ((World.grownBy_alloc W _ (some g)).trans (xgyZ _ g)) HG4.out HO4.out (by have := HRL.out; rw [HFL.out] at this; exact this) (by rw [HLL.out, HFL.out]) HH1.out.at_.bel.size (by omega) HNOT.out HKD.out (by omega)
      rw [HLC.out] at hF
      refine ⟨by simp, .inl ⟨_, _, rfl, run_takeDeferred hF.1, ?_⟩⟩
      refine ⟨.tuple #[], by simp [results, Tryz.results192, go_sem], rfl, ?_⟩
      simpa using hF.2
  case stop =>
    rintro Dd c pre W _ _ h
    exact h.elim
end Go.Proofs.YtmjjkenblfndgaaGreat


