/- My texts Vg Pf Fa Shelf2 Fb: what of them is needed, joined. -/
import Derived.Deep.RegionHeld3
import Derived.Deep.RegionLaw
import Derived.Shelf.Sort.Plain
import Derived.Ground.Names2Prog
import Derived.Shelf.Slices.CompactI
import Derived.Test.YtgmkmlenhhhgkaaGreatProg
import Derived.Test.YtgmkmlenhhhgkaaGreatF2
import Derived.Test.YtgmkmlenhhhgkaaGreatF3
set_option maxRecDepth 100000
set_option maxHeartbeats 8000000
/- readFunc. -/
namespace Go.Proofs.YtgmkmlenhhhgkaaGreat
open Go.RowKit
set_option linter.unusedSimpArgs false
set_option linter.unusedVariables false
def xanZ : Nat → Rd → List Int × Rd
  | 0, st => ([], st)
  | n + 1, st => ((xanZ n st).1 ++ [((numOf (takeR (xanZ n st).2 1).1 : Nat) : Int)], (takeR (xanZ n st).2 1).2)
theorem xdvZ (n : Nat) (st : Rd) : (xanZ n st).1.length = n := by
  induction n with
  | zero => rfl
  | succ n ih => simp [xanZ, ih]
def xbeZ (st : Rd) : Fn × Bool × Rd :=
  let a := takeR st 1
  let c := takeR a.2 1
  let ls := xanZ (numOf c.1) c.2
  let d := takeR ls.2 1
  let e := takeR d.2 2
  let g := takeR e.2 (numOf e.1)
  let x := dec (items g.1.length g.1) []
  ((((numOf a.1 : Nat) : Int), ls.1, ((numOf d.1 : Nat) : Int), x.1), (decide (x.2 = 0) && g.2.isSome), g.2)
theorem xcxZ {P : Program} {ops : Array Oper} {o : Oper} {a : Act} {w : World} {K : Act → World → Prop} {Q : Exit → Act → World → Prop} {E : Prop}
    (hg : o.guard = none) (s x : Operand) (t : TypeId) (hop : o.op = Op.call { callee := Callee.builtin Builtin.append, args := #[s, x], argTypes := #[t, t] })
    (base : Nat) (e : TypeId) (i : TypeInfo) (z : Value) (size bytes : Nat) (h1 : P.underlying t = some (.slice e)) (h2 : P.info? e = some i) (h3 : i.zero = some z) (h4 : i.size = size) (h5 : i.bytes = bytes) (h6 : z.cells.size = size) (h7 : 0 < size)
    (v : Value) (n : Nat) (xs : List Value) (hs : a.eval s = v) (hown : w.ownsRow base e size v n xs)
    (ad : Addr) (m c : Nat) (news : List Value) (hx : a.eval x = .slice (some ad) m c) (hn : news.length = m * size) (hc : ∀ j u, news[j]? = some u → w.cell? (ad.add j) = some u) (h1c : ∀ u ∈ news, u.oneCell' = true)
    (b1 : n + m ≤ maxLen) (b2 : (n + m) * bytes ≤ 140737488355328) (hbase : base ≤ w.heap.size)
    (hK : ∀ v' w', w'.ownsRow base e size v' (n + m) (xs ++ news) → w.grownBy w' v.ownBlock → K (a.put o.dst v') w') :
    if Region.wanted o (yielded ops a.tmps) = true then Oper.wp P o a w K Q else E := by
  have hw : Region.wanted o (yielded ops a.tmps) = true := by simp [Region.wanted, hg]
  rw [if_pos hw]
  obtain ⟨v', w', hrun, r1, r2, _⟩ := run_append_own (P := P) w base t o.type e i z size bytes h1 h2 h3 h4 h5 h6 h7 v n xs hown ad m c news hn hc h1c b1 b2 hbase
  unfold Oper.wp
  simp [execOp, hop, resolve, invoke, builtin, hs, hx, hrun, Result.andThen]
  exact hK v' w' r1 r2
theorem hideP {p : Prop} (h : p) : Hid p := h
theorem xahZ {w : World} {base : Nat} {e : TypeId} {size : Nat} {v : Value} {n : Nat} {xs : List Value} (h : w.ownsRow base e size v n xs) : ∃ p cap, v = .slice p n cap := by
  rcases h.2 with ⟨rfl, h0⟩ | ⟨g, cap, cur, rfl, _⟩
  · exact ⟨none, 0, by rw [h0]⟩
  · exact ⟨_, _, rfl⟩
theorem xacZ {w : World} {a : Addr} {v : Value} (h : w.cell? a = some v) (o : Obj) : (w.alloc o).cell? a = some v := by
  have hlt : a.block < w.heap.size := by
    rcases Nat.lt_or_ge a.block w.heap.size with h' | h'
    · exact h'
    · simp [World.cell?, Array.getElem?_eq_none h'] at h
  exact (World.cell?_of_block (w := w) (Below.heap_alloc w o a.block hlt)).trans h
theorem drew_grown (w : World) : w.grownBy w.drew none := ⟨rfl, rfl, rfl, Nat.le_refl _, fun _ _ _ => rfl⟩
theorem xdyZ (w : World) (b : Nat) : w.grownBy w.drew (some b) := ⟨rfl, rfl, rfl, Nat.le_refl _, fun _ _ _ => rfl⟩
theorem xcmZ {w W W' : World} {b : Nat} {row : Option Nat} (h : w.grownBy W (some b)) (k : W.grownBy W' row) (hr : ∀ j, row = some j → w.heap.size ≤ j) : w.grownBy W' (some b) :=
  ⟨k.os.trans h.os, k.tape.trans h.tape, k.output.trans h.output, Nat.le_trans h.size k.size, fun j hj hne => (k.block j (Nat.lt_of_lt_of_le hj h.size) (fun e => by have := hr j e.symm; omega)).trans (h.block j hj hne)⟩
theorem xa0Z {w : World} {base : Nat} {e t : TypeId} {size : Nat} {v : Value} {n : Nat} {xs : List Value} {c : Array Value} {fz : Nat × Nat} {k : Nat} (h : w.ownsRow base e size v n xs) (hk : w.heap[k]? = some (.cells c t fz)) (hte : t ≠ e) : (some k : Option Nat) ≠ v.ownBlock := fun e1 => by
  rcases h.2 with ⟨hv, _⟩ | ⟨g, cap, cur, hv, hbg, hgg, _⟩
  · rw [hv] at e1; simp [Value.ownBlock] at e1
  · rw [hv] at e1
    obtain rfl : k = g := by simpa [Value.ownBlock] using e1
    rw [hk] at hgg; cases hgg; exact hte rfl
theorem xaqZ {W : World} {base : Nat} {v : Value} {l : List Int} {n : Nat} (hn : n = l.length) (h : W.ownsRow base 3 1 v n (l.map (Value.int .i64))) : IntsAt W v l := by
  subst hn
  rcases h.2 with ⟨rfl, h0⟩ | ⟨g, cap, cur, rfl, hb, hg, hn, hc, hs, ht⟩
  · refine ⟨none, 0, by rw [h0], by rw [h0]; exact Nat.zero_le _, fun k o hk => ?_⟩
    have := xbiZ hk
    omega
  · refine ⟨_, cap, rfl, by omega, fun k o hk => ⟨g, 0, rfl, (Array.getElem?_eq_some_iff.1 hg).1, ?_⟩⟩
    have hk2 := xbiZ hk
    have : (l.map (Value.int .i64))[k]? = some (.int .i64 o) := by simp [hk]
    rw [← ht, List.getElem?_take_of_lt (by omega)] at this
    rw [xaaZ hg]; simpa using this
def NoRow (W : World) (row : Option Nat) : Prop := ∀ r, row = some r → ∃ cs t fz, W.heap[r]? = some (.cells cs t fz) ∧ t ≠ 3 ∧ t ≠ 38
theorem xcuZ (W : World) : NoRow W none := fun r h => by cases h
theorem xczZ {W : World} {r : Nat} {cs : Array Value} {t : TypeId} {fz : Nat × Nat} (h : W.heap[r]? = some (.cells cs t fz)) (h1 : t ≠ 3) (h2 : t ≠ 38) : NoRow W (some r) := fun r' e => by cases e; exact ⟨_, _, _, h, h1, h2⟩
theorem noRow_row {W : World} {base : Nat} {e : TypeId} {size : Nat} {v : Value} {n : Nat} {xs : List Value} (h : W.ownsRow base e size v n xs) (h1 : e ≠ 3) (h2 : e ≠ 38) : NoRow W v.ownBlock := fun r hr => by
  rcases h.2 with ⟨hv, _⟩ | ⟨g, cap, cur, hv, hb, hg, _⟩
  · rw [hv] at hr; cases hr
  · rw [hv] at hr; cases hr; exact ⟨_, _, _, hg, h1, h2⟩
theorem xd1Z {W W' : World} {B : Nat} {e : TypeId} {v : Value} {row : Option Nat} (h : NewSl W B e v) (hg : W.grownBy W' row) (he : ∀ r, row = some r → ∃ cs t fz, W.heap[r]? = some (.cells cs t fz) ∧ t ≠ e) {a : Addr} {n c : Nat} (hv : v = .slice (some a) n c) : W'.heap[a.block]? = W.heap[a.block]? := by
  obtain ⟨_, cs, fz, hh⟩ := h a n c hv
  refine hg.block _ (xabZ hh) (fun e1 => ?_)
  obtain ⟨cs', t', fz', h1, h2⟩ := he _ e1.symm
  rw [hh] at h1; cases h1; exact h2 rfl
theorem NewSl.kept {W W' : World} {B : Nat} {e : TypeId} {v : Value} {row : Option Nat} (h : NewSl W B e v) (hg : W.grownBy W' row) (he : ∀ r, row = some r → ∃ cs t fz, W.heap[r]? = some (.cells cs t fz) ∧ t ≠ e) : NewSl W' B e v := fun a n c hv => by
  obtain ⟨h1, cs, fz, hh⟩ := h a n c hv
  exact ⟨h1, cs, fz, (xd1Z h hg he hv).trans hh⟩
theorem NewSl.low {W : World} {B B' : Nat} {e : TypeId} {v : Value} (h : NewSl W B e v) (hB : B' ≤ B) : NewSl W B' e v := fun a n c hv => ⟨Nat.le_trans hB (h a n c hv).1, (h a n c hv).2⟩
def FnOwn (W : World) (B : Nat) (c0 c1 c2 c3 : Value) (f : Fn) : Prop := FnAt W c0 c1 c2 c3 f ∧ NewSl W B 3 c1 ∧ NewSl W B 38 c3
theorem IntsAt.kept {W W' : World} {B : Nat} {v : Value} {l : List Int} {row : Option Nat} (h : IntsAt W v l) (hn : NewSl W B 3 v) (hg : W.grownBy W' row) (he : NoRow W row) : IntsAt W' v l := by
  obtain ⟨p, cap, rfl, hm, hc⟩ := h
  refine ⟨p, cap, rfl, hm, fun k o ho => ?_⟩
  obtain ⟨b, off, rfl, hlt, h0⟩ := hc k o ho
  have hb := xd1Z hn hg (fun r hr => by obtain ⟨cs, t, fz, h1, h2, _⟩ := he r hr; exact ⟨cs, t, fz, h1, h2⟩) rfl
  exact ⟨b, off, rfl, Nat.lt_of_lt_of_le hlt hg.size, (World.cell?_of_block (w := W) (a := ⟨b, off + k, none⟩) hb).trans h0⟩
theorem OpsAt.kept {W W' : World} {B : Nat} {v : Value} {l : List (Int × Int)} {row : Option Nat} (h : OpsAt W v l) (hn : NewSl W B 38 v) (hg : W.grownBy W' row) (he : NoRow W row) : OpsAt W' v l := by
  obtain ⟨p, cap, rfl, hm, hc⟩ := h
  refine ⟨p, cap, rfl, hm, fun k o ho => ?_⟩
  obtain ⟨b, off, rfl, hlt, h0, h1⟩ := hc k o ho
  have hb := xd1Z hn hg (fun r hr => by obtain ⟨cs, t, fz, h1, _, h2⟩ := he r hr; exact ⟨cs, t, fz, h1, h2⟩) rfl
  exact ⟨b, off, rfl, Nat.lt_of_lt_of_le hlt hg.size, (World.cell?_of_block (w := W) (a := ⟨b, off + k * 2, none⟩) hb).trans h0, (World.cell?_of_block (w := W) (a := ⟨b, off + k * 2 + 1, none⟩) hb).trans h1⟩
theorem FnOwn.kept {W W' : World} {B : Nat} {c0 c1 c2 c3 : Value} {f : Fn} {row : Option Nat} (h : FnOwn W B c0 c1 c2 c3 f) (hg : W.grownBy W' row) (he : NoRow W row) : FnOwn W' B c0 c1 c2 c3 f := by
  obtain ⟨⟨h0, h1, h2, h3⟩, n1, n3⟩ := h
  refine ⟨⟨h0, h1.kept n1 hg he, h2, h3.kept n3 hg he⟩, n1.kept hg fun r hr => ?_, n3.kept hg fun r hr => ?_⟩
  · obtain ⟨cs, t, fz, h1, h2, _⟩ := he r hr; exact ⟨cs, t, fz, h1, h2⟩
  · obtain ⟨cs, t, fz, h1, _, h2⟩ := he r hr; exact ⟨cs, t, fz, h1, h2⟩
theorem FnOwn.low {W : World} {B B' : Nat} {c0 c1 c2 c3 : Value} {f : Fn} (h : FnOwn W B c0 c1 c2 c3 f) (hB : B' ≤ B) : FnOwn W B' c0 c1 c2 c3 f := ⟨h.1, h.2.1.low hB, h.2.2.low hB⟩
theorem xdkZ : (Tryz.prog.info? 3).map (fun i => (i.zero, i.size, i.bytes)) = some (some (.int .i64 0), 1, 8) := by kernel_rfl
theorem xfcZ (st : Rd) (n : Nat) : (takeR st n).1.length ≤ n := by
  cases st with
  | none => simp [takeR]
  | some r => simp only [takeR]; split <;> simp; omega
theorem xg7Z (st : Rd) : numOf (takeR st 1).1 ≤ 255 := by
  have h := xfcZ st 1
  have := xfwZ (takeR st 1).1
  have h2 : 256 ^ (takeR st 1).1.length ≤ 256 ^ 1 := Nat.pow_le_pow_right (by omega) h
  omega
theorem numOf_two (st : Rd) : numOf (takeR st 2).1 ≤ 65535 := by
  have h := xfcZ st 2
  have := xfwZ (takeR st 2).1
  have h2 : 256 ^ (takeR st 2).1.length ≤ 256 ^ 2 := Nat.pow_le_pow_right (by omega) h
  omega
def LocI (b Bf : Nat) (base : Nat) (P : Int) (st : Rd) (k : Nat) (w wr : World) : Prop :=
  ∃ vL, RdAt wr b (xanZ k st).2 ∧ wr.heap[Bf]? = some (.cells #[.int .i64 P, vL, .int .i64 0, .slice none 0 0] 28 (0, 0)) ∧ wr.ownsRow base 3 1 vL k ((xanZ k st).1.map (Value.int .i64)) ∧ w.grownBy wr (some b)
theorem readFn_end {w WA : World} {b : Nat} {st6 : Rd} {X : ByteArray} {P R : Int} {pL pc : Option Addr} {k cL cc : Nat} {ls : List Int} {code : List (Int × Int)}
    (hr : WA.heap[w.heap.size]? = some (.cells #[.int .i64 0, .slice none 0 0, .int .i64 0, .slice none 0 0] 28 (0, 0)))
    (hX : WA.heap[b]? = some (.cells #[.string X, .bool st6.isNone] 116 (0, 0))) (hX2 : X.data.toList = st6.getD []) (hX3 : X.size ≤ 140737488351232)
    (hrow : WA.ownsRow w.heap.size 3 1 (.slice pL k cL) k (ls.map (Value.int .i64))) (hgw : w.grownBy WA (some b)) (hcv : OpsAt WA (.slice pc code.length cc) code) (hnew : NewSl WA w.heap.size 38 (.slice pc code.length cc)) (hbw : b < w.heap.size) (hk : k = ls.length) :
    ∃ WB, ((((WA.setCell ⟨w.heap.size, 0, none⟩ (.int .i64 P)).setCell ⟨w.heap.size, 1, none⟩ (.slice pL k cL)).setCell ⟨w.heap.size, 2, none⟩ (.int .i64 R)).setCell ⟨w.heap.size, 3, none⟩ (.slice pc code.length cc)).drew = WB ∧
      WB.cell? ⟨w.heap.size, 0, none⟩ = some (.int .i64 P) ∧ WB.cell? ⟨w.heap.size, 1, none⟩ = some (.slice pL k cL) ∧ WB.cell? ⟨w.heap.size, 2, none⟩ = some (.int .i64 R) ∧ WB.cell? ⟨w.heap.size, 3, none⟩ = some (.slice pc code.length cc) ∧
      FnOwn WB w.heap.size (.int .i64 P) (.slice pL k cL) (.int .i64 R) (.slice pc code.length cc) (P, ls, R, code) ∧ RdAt WB b st6 ∧ w.grownBy WB (some b) := by
  have hk0 := heap_setCell_same _ w.heap.size 0 _ _ (.int .i64 P) hr
  have hk1 := heap_setCell_same _ w.heap.size 1 _ _ (.slice pL k cL) hk0
  have hk2 := heap_setCell_same _ w.heap.size 2 _ _ (.int .i64 R) hk1
  have hk3 := heap_setCell_same _ w.heap.size 3 _ _ (.slice pc code.length cc) hk2
  have g0 := xarZ WA w.heap.size 0 (.int .i64 P)
  have g1 := g0.trans (xarZ _ w.heap.size 1 (.slice pL k cL))
  have g2 := g1.trans (xarZ _ w.heap.size 2 (.int .i64 R))
  have g3 := (g2.trans (xarZ _ w.heap.size 3 (.slice pc code.length cc))).trans (xdyZ _ w.heap.size)
  have hkd := (show (((((WA.setCell ⟨w.heap.size, 0, none⟩ (.int .i64 P)).setCell ⟨w.heap.size, 1, none⟩ (.slice pL k cL)).setCell ⟨w.heap.size, 2, none⟩ (.int .i64 R)).setCell ⟨w.heap.size, 3, none⟩ (.slice pc code.length cc)).drew).heap[w.heap.size]? = _ from hk3)
  refine ⟨_, rfl, (xaaZ hkd 0).trans (by simp), (xaaZ hkd 1).trans (by simp), (xaaZ hkd 2).trans (by simp), (xaaZ hkd 3).trans (by simp), ?_, ?_, ?_⟩
  · have hA : FnOwn WA w.heap.size (.int .i64 P) (.slice pL k cL) (.int .i64 R) (.slice pc code.length cc) (P, ls, R, code) := ⟨⟨rfl, xaqZ hk hrow, rfl, hcv⟩, xe8Z hrow, hnew⟩
    exact hA.kept g3 (xczZ hr (by decide) (by decide))
  · exact RdAt.kept ⟨X, hX, hX2, hX3⟩ g3 (by simp; omega)
  · exact xcmZ hgw g3 (fun j hj => by cases hj; exact Nat.le_refl _)
theorem xijZ (b : Nat) (st : Rd) (w : World) (h : RdAt w b st) : Calls Tryz.prog 78 #[.pointer (some ⟨b, 0, none⟩)] w fun e w' => ∃ c0 c1 c2 c3, e = .returned (.tuple #[.agg #[c0, c1, c2, c3], .bool (xbeZ st).2.1]) ∧ FnOwn w' w.heap.size c0 c1 c2 c3 (xbeZ st).1 ∧ RdAt w' b (xbeZ st).2.2 ∧ w.grownBy w' (some b) := by
  obtain ⟨i0, hi, hz0, hz1, hz2⟩ := info_parts xdkZ
  have hbw : b < w.heap.size := by obtain ⟨X, hh, _⟩ := h; exact xabZ hh
  have hg0 : w.grownBy (w.alloc (.cells #[.int .i64 0, .slice none 0 0, .int .i64 0, .slice none 0 0] 28)) (some b) := World.grownBy_alloc _ _ _
  have h0 : RdAt (w.alloc (.cells #[.int .i64 0, .slice none 0 0, .int .i64 0, .slice none 0 0] 28)) b st := h.kept (World.grownBy_alloc w _ none) (by simp)
  go_enter Tryz.func78, Tryz.ntmps78
  go_wp2_with fail
  refine (xcaZ b 1 st _ h0 (by omega)).mono ?_
  rintro e w1 ⟨rfl, h1, hg1⟩
  obtain ⟨P, hP⟩ : ∃ P : Int, ((numOf (takeR st 1).1 : Nat) : Int) = P := ⟨_, rfl⟩
  rw [hP]
  have hgw1 := hg0.trans hg1
  have hr1 : w1.heap[w.heap.size]? = some (.cells #[.int .i64 0, .slice none 0 0, .int .i64 0, .slice none 0 0] 28 (0, 0)) := (hg1.block _ (by simp) (by simp; omega)).trans (World.alloc_heap_new w _)
  have hs1 : w.heap.size < w1.heap.size := xabZ hr1
  have h1' : RdAt (w1.alloc (.cells #[.int .i64 P, .slice none 0 0, .int .i64 0, .slice none 0 0] 28)) b (takeR st 1).2 := h1.kept (World.grownBy_alloc w1 _ none) (by simp)
  have HP : Hid (((numOf (takeR st 1).1 : Nat) : Int) = P) := hP
  clear hP hg0 h0 h hg1 h1
  obtain ⟨st1, hst1⟩ : ∃ st1, (takeR st 1).2 = st1 := ⟨_, rfl⟩
  rw [hst1] at h1'
  have HST1 : Hid ((takeR st 1).2 = st1) := hst1
  clear hst1
  go_wp2_with fail
  refine (xcaZ b 1 st1 _ h1' (by omega)).mono ?_
  rintro e w2 ⟨rfl, h2, hg2⟩
  have hnl := xg7Z st1
  obtain ⟨nl, hnl'⟩ : ∃ nl, numOf (takeR st1 1).1 = nl := ⟨_, rfl⟩
  obtain ⟨st2, hst2⟩ : ∃ st2, (takeR st1 1).2 = st2 := ⟨_, rfl⟩
  rw [hnl'] at hnl ⊢
  rw [hst2] at h2
  have HNL : Hid (numOf (takeR st1 1).1 = nl) := hnl'
  have HST2 : Hid ((takeR st1 1).2 = st2) := hst2
  clear hnl' hst2 h1'
  have hf2 : w2.heap[w1.heap.size]? = some (.cells #[.int .i64 P, .slice none 0 0, .int .i64 0, .slice none 0 0] 28 (0, 0)) := (hg2.block _ (by simp) (by simp; omega)).trans (World.alloc_heap_new w1 _)
  have hgw2 : w.grownBy w2 (some b) := (hgw1.trans (World.grownBy_alloc w1 _ _)).trans hg2
  have hs2 : w1.heap.size < w2.heap.size := xabZ hf2
  have hr2 : w2.heap[w.heap.size]? = some (.cells #[.int .i64 0, .slice none 0 0, .int .i64 0, .slice none 0 0] 28 (0, 0)) := (hg2.block _ (by simp; omega) (by simp; omega)).trans (xaeZ hr1 _)
  clear hgw1 hg2 hr1
  go_wp2
  go_loopw [12] (fun i wr => ∃ k : Nat, k ≤ nl ∧ i = .int .i64 k ∧ LocI b w1.heap.size w.heap.size P st2 k w wr ∧ wr.heap[w.heap.size]? = some (.cells #[.int .i64 0, .slice none 0 0, .int .i64 0, .slice none 0 0] 28 (0, 0))) (fun i _ => nl - (intOf i).toNat)
  case atStart => exact ⟨0, Nat.zero_le _, rfl, ⟨_, h2, hf2, World.ownsRow_nil _ _ _ _, hgw2⟩, hr2⟩
  case round =>
    obtain ⟨k, hk, rfl, ⟨vL, hR, hf, hrow, hgw⟩, hr⟩ := hrel
    clear h2 hf2 hgw2 hr2
    have c1 : wr.cell? ⟨w1.heap.size, 1, none⟩ = some vL := xaaZ hf 1
    by_cases hlt : k < nl
    · have hlt' : (k : Int) < (nl : Int) := by omega
      have hbr : b < wr.heap.size := by have := hgw.size; omega
      have hfl : w1.heap.size < wr.heap.size := xabZ hf
      have hrl : w.heap.size < wr.heap.size := xabZ hr
      obtain ⟨Z, hZ⟩ : ∃ Z : Int, ((numOf (takeR (xanZ k st2).2 1).1 : Nat) : Int) = Z := ⟨_, rfl⟩
      have hnum : ∀ W, RdAt W b (xanZ k st2).2 → Calls Tryz.prog 77 #[.pointer (some ⟨b, 0, none⟩), .int .i64 1] W fun e w' => e = .returned (.int .i64 Z) ∧ RdAt w' b (takeR (xanZ k st2).2 1).2 ∧ W.grownBy w' (some b) := by
        intro W hW
        have := xcaZ b 1 (xanZ k st2).2 W hW (by omega)
        rw [hZ] at this
        exact this
      have HN := hideP hnum
      have HZ : Hid (((numOf (takeR (xanZ k st2).2 1).1 : Nat) : Int) = Z) := hZ
      clear hnum hZ
      obtain ⟨pL, cL, rfl⟩ := xahZ hrow
      have hvne : (some b : Option Nat) ≠ Value.ownBlock (.slice pL k cL) := by
        obtain ⟨X, hh, _⟩ := hR
        exact xa0Z hrow hh (by decide)
      have hfne : (some w1.heap.size : Option Nat) ≠ Value.ownBlock (.slice pL k cL) := xa0Z hrow hf (by decide)
      have hrne : (some w.heap.size : Option Nat) ≠ Value.ownBlock (.slice pL k cL) := xa0Z hrow hr (by decide)
      go_wp2
      go_region_law
        (first
          | (refine xcxZ rfl _ _ 25 rfl w.heap.size 3 i0 (.int .i64 0) 1 8 Tryz.underlying25 hi hz0 hz1 hz2 rfl (by decide) _ _ _ rfl (hrow3.alloc _) ⟨w3.heap.size, 0, none⟩ 1 1 [.int .i64 Z] rfl rfl (cell_one_new _ _ _) (by simp [Value.oneCell']) (by unfold maxLen; omega) (by omega) (by simp; omega) ?_; intro v' w4 hown4 hg4; obtain ⟨g4, cap4, rfl⟩ := ownsRow_succ hown4; have hf4 := (hg4.block _ (by simp; omega) hfne).trans (xaeZ hf3 _); have c4 := xaaZ hf4 1; have z4 := Lib.frozen_of_heap hf4 1)
          | (go_simp; go_at_call 77; refine (HN.out _ (hR.kept (drew_grown wr) (by simp))).mono ?_; rintro e w3 ⟨rfl, hR3, hg3'⟩; have hg3 := (xdyZ wr b).trans hg3'; have hf3 := (hg3.block _ hfl (by simp; omega)).trans hf; have c3 := xaaZ hf3 1; have c3a := fun o => xacZ c3 o; have hrow3 := hrow.kept hg3 (.inr hvne.symm); have hs3 := hg3.size))
      all_goals
        go_wp2
        go_roundw
        case rel =>
          have hr4 := (hg4.block _ (by simp; omega) hrne).trans (xaeZ ((hg3.block _ hrl (by simp; omega)).trans hr) _)
          refine ⟨k + 1, by omega, by go_num, ⟨_, ?_, heap_setCell_same w4 w1.heap.size 1 _ _ _ hf4, ?_, ?_⟩, (heap_setCell_other w4 _ _ _ (by simp; omega)).trans hr4⟩
          · exact ((hR3.kept (World.grownBy_alloc w3 _ none) (by simp)).kept hg4 (fun e => hvne e.symm)).kept (xarZ w4 w1.heap.size 1 _) (by simp; omega)
          · have e1 : (xanZ (k + 1) st2).1.map (Value.int .i64) = (xanZ k st2).1.map (Value.int .i64) ++ [.int .i64 Z] := by simp [xanZ, HZ.out]
            rw [e1]
            exact hown4.kept (xarZ w4 w1.heap.size 1 _) (.inr (xa0Z hown4 hf4 (by decide)).symm)
          · exact xcmZ (xcmZ ((hgw.trans hg3).trans (World.grownBy_alloc w3 _ _)) hg4 (fun j hj => (hrow.lt j hj).1)) (xarZ w4 w1.heap.size 1 _) (fun j hj => by cases hj; omega)
        case measure => simp [intOf]; omega
    · have hlt' : ¬ (k : Int) < (nl : Int) := by omega
      obtain rfl : k = nl := by omega
      obtain ⟨pL, cL, rfl⟩ := xahZ hrow
      have hbr : b < wr.heap.size := by have := hgw.size; omega
      have hfl : w1.heap.size < wr.heap.size := xabZ hf
      have hrl : w.heap.size < wr.heap.size := xabZ hr
      have hvne : (some b : Option Nat) ≠ Value.ownBlock (.slice pL k cL) := by
        obtain ⟨X, hh, _⟩ := hR
        exact xa0Z hrow hh (by decide)
      go_wp2_with fail
      refine (xcaZ b 1 _ _ hR (by omega)).mono ?_
      rintro e w5 ⟨rfl, h5, hg5⟩
      obtain ⟨R, hR'⟩ : ∃ R : Int, ((numOf (takeR (xanZ k st2).2 1).1 : Nat) : Int) = R := ⟨_, rfl⟩
      rw [hR']
      have HR : Hid (((numOf (takeR (xanZ k st2).2 1).1 : Nat) : Int) = R) := hR'
      have hf5 := (hg5.block _ hfl (by simp; omega)).trans hf
      have hr5 := (hg5.block _ hrl (by simp; omega)).trans hr
      have hrow5 := hrow.kept hg5 (.inr hvne.symm)
      have hgw5 := hgw.trans hg5
      have d2 := xaaZ hf5 2
      have z2 := Lib.frozen_of_heap hf5 2
      have hs5 := hg5.size
      obtain ⟨st4, hst4⟩ : ∃ st4, (takeR (xanZ k st2).2 1).2 = st4 := ⟨_, rfl⟩
      rw [hst4] at h5
      have HST4 : Hid ((takeR (xanZ k st2).2 1).2 = st4) := hst4
      simp at d2
      clear hR' hst4 hR hf hr hrow hgw hg5 c1
      -- the store of Result
      have hf6 := heap_setCell_same w5 w1.heap.size 2 _ _ (.int .i64 R) hf5
      have hr6 := (heap_setCell_other w5 ⟨w1.heap.size, 2, none⟩ w.heap.size (.int .i64 R) (by simp; omega)).trans hr5
      have h6 := h5.kept (xarZ w5 w1.heap.size 2 (.int .i64 R)) (by simp; omega)
      have hrow6 := hrow5.kept (xarZ w5 w1.heap.size 2 (.int .i64 R)) (.inr (xa0Z hrow5 hf5 (by decide)).symm)
      have hgw6 := xcmZ hgw5 (xarZ w5 w1.heap.size 2 (.int .i64 R)) (fun j hj => by cases hj; omega)
      have hs6 : (w5.setCell ⟨w1.heap.size, 2, none⟩ (.int .i64 R)).heap.size = w5.heap.size := by simp
      clear h5 hr5 hrow5 hgw5
      go_wp2_with fail
      refine (xcaZ b 2 st4 _ h6 (by omega)).mono ?_
      rintro e w7 ⟨rfl, h7, hg7⟩
      have hn2 := numOf_two st4
      obtain ⟨n, hn'⟩ : ∃ n, numOf (takeR st4 2).1 = n := ⟨_, rfl⟩
      obtain ⟨st5, hst5⟩ : ∃ st5, (takeR st4 2).2 = st5 := ⟨_, rfl⟩
      rw [hn'] at hn2 ⊢
      rw [hst5] at h7
      have HN : Hid (numOf (takeR st4 2).1 = n) := hn'
      have HST5 : Hid ((takeR st4 2).2 = st5) := hst5
      have hs7 := hg7.size
      rw [hs6] at hs7
      have hf7 := (hg7.block _ (by rw [hs6]; omega) (by simp; omega)).trans hf6
      have hr7 := (hg7.block _ (by rw [hs6]; omega) (by simp; omega)).trans hr6
      have hrow7 := hrow6.kept hg7 (.inr hvne.symm)
      have hgw7 := hgw6.trans hg7
      clear hn' hst5 h6 hf6 hr6 hrow6 hgw6 hg7 d2 z2 hf5
      go_wp2_with fail
      refine (take_any b n st5 _ h7 (by omega)).mono ?_
      rintro e w8 ⟨S, rfl, hS, h8, hg8⟩
      obtain ⟨bs, hbs⟩ : ∃ bs, (takeR st5 n).1 = bs := ⟨_, rfl⟩
      obtain ⟨st6, hst6⟩ : ∃ st6, (takeR st5 n).2 = st6 := ⟨_, rfl⟩
      rw [hbs] at hS
      rw [hst6] at h8
      have HBS : Hid ((takeR st5 n).1 = bs) := hbs
      have HST6 : Hid ((takeR st5 n).2 = st6) := hst6
      have hSs : S.size = bs.length := by rw [← hS]; simp
      have hbl : bs.length ≤ n := by rw [← hbs]; exact xfcZ st5 n
      have hs8 := hg8.size
      have hf8 := (hg8.block _ (by omega) (by simp; omega)).trans hf7
      have hr8 := (hg8.block _ (by omega) (by simp; omega)).trans hr7
      have hrow8 := hrow7.kept hg8 (.inr hvne.symm)
      have hgw8 := hgw7.trans hg8
      obtain ⟨⟨code, er⟩, hdec⟩ : ∃ x, dec (items bs.length bs) [] = x := ⟨_, rfl⟩
      have HDEC : Hid (dec (items bs.length bs) [] = (code, er)) := hdec
      have hdn := decode_new S (by unfold maxLen; omega) w8
      rw [hSs, hS, hdec] at hdn
      have HDN := hideP hdn
      clear hdn hdec hbs hst6 hS h7 hf7 hr7 hrow7 hgw7 hg8
      go_wp2_with fail
      refine HDN.out.mono ?_
      rintro e w9 ⟨cv, rfl, hcv, hb9, hnew⟩
      have hs9 := hb9.size
      have hf9 := (hb9.block _ (by omega)).trans hf8
      have hr9 := (hb9.block _ (by omega)).trans hr8
      have hrow9 : w9.ownsRow w.heap.size 3 1 (.slice pL k cL) k ((xanZ k st2).1.map (Value.int .i64)) := hrow8.kept (xbpZ hb9) (by cases hv : Value.ownBlock (.slice pL k cL) <;> simp)
      have hgw9 := xcmZ hgw8 (xbpZ hb9) (fun j hj => by cases hj)
      have h9 := h8.kept (xbpZ hb9) (by simp)
      have hcv' := hcv
      obtain ⟨pc, cc, hcvs, _, _⟩ := hcv'
      subst hcvs
      have d3 := xaaZ hf9 3
      have z3 := Lib.frozen_of_heap hf9 3
      simp at d3
      clear HDN h8 hf8 hr8 hrow8 hgw8 hb9
      -- the store of Code
      have hfA := heap_setCell_same w9 w1.heap.size 3 _ _ (.slice pc code.length cc) hf9
      have hrA := (heap_setCell_other w9 ⟨w1.heap.size, 3, none⟩ w.heap.size (.slice pc code.length cc) (by simp; omega)).trans hr9
      have hA := h9.kept (xarZ w9 w1.heap.size 3 (.slice pc code.length cc)) (by simp; omega)
      have hrowA := hrow9.kept (xarZ w9 w1.heap.size 3 (.slice pc code.length cc)) (.inr (xa0Z hrow9 hf9 (by decide)).symm)
      have hgwA := xcmZ hgw9 (xarZ w9 w1.heap.size 3 (.slice pc code.length cc)) (fun j hj => by cases hj; omega)
      have hnr9 : NoRow w9 (some w1.heap.size) := xczZ hf9 (by decide) (by decide)
      have hcvA := hcv.kept hnew (xarZ w9 w1.heap.size 3 (.slice pc code.length cc)) hnr9
      have hnewA := hnew.kept (xarZ w9 w1.heap.size 3 (.slice pc code.length cc)) (fun r hr => by obtain ⟨cs, t, fz, h1, _, h2⟩ := hnr9 r hr; exact ⟨cs, t, fz, h1, h2⟩)
      have hB8 : w.heap.size ≤ w8.heap.size := by omega
      have hnewA := hnewA.low hB8
      have hsA : (w9.setCell ⟨w1.heap.size, 3, none⟩ (.slice pc code.length cc)).heap.size = w9.heap.size := by simp
      go_wp2
      obtain ⟨WA, hWA⟩ : ∃ W, w9.setCell ⟨w1.heap.size, 3, none⟩ (.slice pc code.length cc) = W := ⟨_, rfl⟩
      rw [hWA] at hfA hrA hA hrowA hgwA hcvA hnewA hsA ⊢
      clear hf9 hr9 hrow9 hgw9 h9 d3 z3 hWA hcv hnew hnr9
      have q0 := xaaZ hfA 0
      have q1 := xaaZ hfA 1
      have q2 := xaaZ hfA 2
      have q3 := xaaZ hfA 3
      simp at q0 q1 q2 q3
      have r0 := xaaZ hrA 0
      have r1 := xaaZ hrA 1
      have r2 := xaaZ hrA 2
      have r3 := xaaZ hrA 3
      simp at r0 r1 r2 r3
      have y0 := Lib.frozen_of_heap hrA 0
      have y1 := Lib.frozen_of_heap hrA 1
      have y2 := Lib.frozen_of_heap hrA 2
      have y3 := Lib.frozen_of_heap hrA 3
      obtain ⟨X, hX, hX2, hX3⟩ := hA
      have s1 := xaaZ hX 1
      simp at s1
      have hfin := readFn_end hrA hX hX2 hX3 hrowA hgwA hcvA hnewA hbw (by have := xdvZ k st2; omega) (P := P) (R := R)
      have hform : xbeZ st = ((P, (xanZ k st2).1, R, code), (decide (er = 0) && st6.isSome), st6) := by
        simp only [xbeZ]
        rw [HST1.out, HP.out, HST2.out, HNL.out, HR.out, HST4.out, HN.out, HST5.out, HBS.out, HST6.out, HDEC.out]
      clear hrA hX hX2 hX3 hrowA hgwA hcvA hnewA
      by_cases her : er = 0
      · go_region
        all_goals
          go_wp2
          obtain ⟨WB, hWB, p0, p1, p2, p3, hF⟩ := hfin
          rw [hWB]
          refine bodyPost_ret (v := .tuple #[.agg #[.int .i64 P, .slice pL k cL, .int .i64 R, .slice pc code.length cc], .bool st6.isSome]) (by simp [results, Tryz.results78, go_sem, p0, p1, p2, p3]) rfl ?_
          rw [hform]
          exact ⟨_, _, _, _, by simp [her], hF⟩
      · have her' : (er == 0) = false := beq_eq_false_iff_ne.2 her
        go_region
        all_goals
          go_wp2
          obtain ⟨WB, hWB, p0, p1, p2, p3, hF⟩ := hfin
          rw [hWB]
          refine bodyPost_ret (v := .tuple #[.agg #[.int .i64 P, .slice pL k cL, .int .i64 R, .slice pc code.length cc], .bool false]) (by simp [results, Tryz.results78, go_sem, p0, p1, p2, p3]) rfl ?_
          rw [hform]
          exact ⟨_, _, _, _, by simp [her], hF⟩
end Go.Proofs.YtgmkmlenhhhgkaaGreat


/- Plain functions on where code goes on (chapter 3), ahead of stage 2: what Next, Back and Reach should tell, and how a set of places is known to be Reach's. -/
namespace Go.Proofs.YtgmkmlenhhhgkaaGreat
open Go.RowKit
set_option linter.unusedSimpArgs false
set_option linter.unusedVariables false
def goesOn (code : List (Int × Int)) (pc to : Nat) : Bool :=
  match code[pc]? with
  | none => false
  | some o => if o.1 = 13 then false else if o.1 = 10 then decide ((to : Int) = o.2) else if o.1 = 11 then decide (to = pc + 1) || decide ((to : Int) = o.2) else decide (to = pc + 1)
def badTo (n : Nat) (o : Int × Int) : Bool := (o.1 == 10 || o.1 == 11) && !(decide (0 ≤ o.2) && decide (o.2 < (n : Int)))
def flowErr (code : List (Int × Int)) : Int := if xaoZ code ≠ 0 then xaoZ code else if code.length = 0 then 5 else if code.any (badTo code.length) = true then 3 else 0
def xb4Z (code : List (Int × Int)) (pc : Int) : Int := if flowErr code ≠ 0 then flowErr code else if pc < 0 ∨ (code.length : Int) ≤ pc then 3 else 0
def xclZ (code : List (Int × Int)) (pc : Int) : Int := if flowErr code ≠ 0 then flowErr code else if pc < 0 ∨ (code.length : Int) < pc then 3 else 0
def nextL (code : List (Int × Int)) (pc : Nat) : List Nat := (List.range (code.length + 1)).filter (goesOn code pc)
def backL (code : List (Int × Int)) (to : Nat) : List Nat := (List.range code.length).filter fun pc => goesOn code pc to
inductive Come (code : List (Int × Int)) : Nat → Prop
  | zero : Come code 0
  | step {pc to : Nat} : Come code pc → goesOn code pc to = true → Come code to
open Classical in
noncomputable def xa9Z (code : List (Int × Int)) : List Nat := (List.range (code.length + 1)).filter fun x => decide (Come code x)
theorem xg1Z {code : List (Int × Int)} {pc to : Nat} (h : goesOn code pc to = true) : pc < code.length := by
  rcases Nat.lt_or_ge pc code.length with h' | h'
  · exact h'
  · simp [goesOn, List.getElem?_eq_none h'] at h
theorem xa4Z {code : List (Int × Int)} (h : flowErr code = 0) : xaoZ code = 0 ∧ code.length ≠ 0 ∧ ∀ o ∈ code, badTo code.length o = false := by
  unfold flowErr at h
  by_cases h1 : xaoZ code = 0
  · rw [if_neg (by simp [h1])] at h
    by_cases h2 : code.length = 0
    · rw [if_pos h2] at h; cases h
    · rw [if_neg h2] at h
      by_cases h3 : code.any (badTo code.length) = true
      · rw [if_pos h3] at h; cases h
      · refine ⟨h1, h2, fun o ho => ?_⟩
        cases hb : badTo code.length o
        · rfl
        · exact absurd (List.any_eq_true.2 ⟨o, ho, hb⟩) h3
  · rw [if_pos h1] at h; exact absurd h h1
theorem xcrZ {code : List (Int × Int)} (hc : ∀ o ∈ code, badTo code.length o = false) {pc to : Nat} (h : goesOn code pc to = true) : to ≤ code.length := by
  have hp := xg1Z h
  have ho := List.getElem?_eq_getElem hp
  have hb := hc _ (List.getElem_mem hp)
  simp only [goesOn, ho] at h
  by_cases h13 : code[pc].1 = 13
  · simp [h13] at h
  rw [if_neg h13] at h
  by_cases h10 : code[pc].1 = 10
  · rw [if_pos h10] at h
    simp [badTo, h10] at hb h
    omega
  rw [if_neg h10] at h
  by_cases h11 : code[pc].1 = 11
  · rw [if_pos h11] at h
    simp [badTo, h11] at hb h
    omega
  · rw [if_neg h11] at h
    simp at h
    omega
theorem come_le {code : List (Int × Int)} (hc : ∀ o ∈ code, badTo code.length o = false) {x : Nat} (h : Come code x) : x ≤ code.length := by
  cases h with
  | zero => omega
  | step _ h2 => exact xcrZ hc h2
theorem come_iff {code : List (Int × Int)} (M : Nat → Prop) (h0 : M 0) (hs : ∀ x, M x → Come code x) (hc : ∀ pc to, M pc → goesOn code pc to = true → M to) (x : Nat) : M x ↔ Come code x := by
  refine ⟨hs x, fun h => ?_⟩
  induction h with
  | zero => exact h0
  | step _ h2 ih => exact hc _ _ ih h2
theorem xdtZ {code : List (Int × Int)} (hc : ∀ o ∈ code, badTo code.length o = false) {pc to : Nat} : to ∈ nextL code pc ↔ goesOn code pc to = true := by
  simp only [nextL, List.mem_filter, List.mem_range]
  exact ⟨fun h => h.2, fun h => ⟨by have := xcrZ hc h; omega, h⟩⟩
theorem xgdZ {code : List (Int × Int)} (hc : ∀ o ∈ code, badTo code.length o = false) {x : Nat} : x ∈ xa9Z code ↔ Come code x := by
  simp only [xa9Z, List.mem_filter, List.mem_range, decide_eq_true_eq]
  exact ⟨fun h => h.2, fun h => ⟨by have := come_le hc h; omega, h⟩⟩
open Classical in
/-- .. as lists: what tells the places of a set, rising, is Reach's. -/
theorem xfaZ {code : List (Int × Int)} (M : Nat → Bool) (h0 : M 0 = true) (hs : ∀ x, M x = true → Come code x) (hc : ∀ pc to, M pc = true → goesOn code pc to = true → M to = true) : (List.range (code.length + 1)).filter M = xa9Z code := by
  unfold xa9Z
  refine List.filter_congr fun x _ => ?_
  have := come_iff (fun x => M x = true) h0 hs hc x
  rw [Bool.eq_iff_iff, decide_eq_true_iff]
  exact this
end Go.Proofs.YtgmkmlenhhhgkaaGreat


/- flow.isPlace, flow.check. -/
namespace Go.Proofs.YtgmkmlenhhhgkaaGreat
open Go.RowKit
set_option linter.unusedSimpArgs false
set_option linter.unusedVariables false
def isAt (n : Nat) (pc : Int) : Bool := decide (0 ≤ pc) && decide (pc < (n : Int))
theorem xbqZ (pc : Int) (l : List (Int × Int)) (v : Value) (w : World) (h : OpsAt w v l) : Calls Tryz.prog 37 #[.int .i64 pc, v] w fun e w' => e = .returned (.bool (isAt l.length pc)) ∧ w' = w := by
  obtain ⟨p, cap, rfl, hm, hc⟩ := h
  unfold maxLen at hm
  clear hc
  by_cases h0 : 0 ≤ pc
  · have h0' : decide (pc ≥ 0) = true := by simpa using h0
    by_cases h1 : pc < (l.length : Int)
    all_goals
      go_enter Tryz.func37, Tryz.ntmps37
      go_wp2
      go_ret
      exact ⟨by simp [isAt, h0, h1], rfl⟩
  · have h0' : decide (pc ≥ 0) = false := by simpa using h0
    go_enter Tryz.func37, Tryz.ntmps37
    go_wp2
    go_ret
    exact ⟨by simp only [isAt]; rw [decide_eq_false (by omega)]; rfl, rfl⟩
def CodeBox (w : World) (bc : Nat) (l : List (Int × Int)) : Prop := ∃ v, bc < w.heap.size ∧ w.cell? ⟨bc, 0, none⟩ = some v ∧ OpsAt w v l
theorem CodeBox.below {w w' : World} {bc : Nat} {l : List (Int × Int)} (h : CodeBox w bc l) (hb : Below w.heap.size w w') : CodeBox w' bc l := by
  obtain ⟨v, h1, h2, h3⟩ := h
  exact ⟨v, Nat.lt_of_lt_of_le h1 hb.size, (hb.cell (p := ⟨bc, 0, none⟩) h1).trans h2, h3.below hb⟩
theorem xd3Z (c a : Int) (l : List (Int × Int)) (bc : Nat) (w : World) (h : CodeBox w bc l) : Calls Tryz.prog 66 #[.agg #[.int .i64 c, .int .i64 a], .pointer (some ⟨bc, 0, none⟩)] w fun e w' => e = .returned (.bool (badTo l.length (c, a))) ∧ Below w.heap.size w w' := by
  have hw : Below w.heap.size w (w.alloc (.cells #[.int .i64 c, .int .i64 a] 38)) := (Below.refl _ w).alloc (Nat.le_refl _) _
  obtain ⟨v, h1, h2, h3⟩ := h.below hw
  have h3' := h3
  obtain ⟨p, q, rfl, _, _⟩ := h3'
  by_cases h10 : c = 10
  · subst h10
    go_enter Tryz.func66, Tryz.ntmps66
    go_wp2_with (go_at_call 37; refine (xbqZ a l _ _ h3).mono ?_; rintro e w2 ⟨rfl, hw2⟩; have hw2 := hw2.symm; subst hw2)
    go_ret
    exact ⟨by simp [badTo, isAt], hw⟩
  · have h10' : (c == 10) = false := by simp [h10]
    by_cases h11 : c = 11
    · subst h11
      go_enter Tryz.func66, Tryz.ntmps66
      go_wp2_with (go_at_call 37; refine (xbqZ a l _ _ h3).mono ?_; rintro e w2 ⟨rfl, hw2⟩; have hw2 := hw2.symm; subst hw2)
      go_ret
      exact ⟨by simp [badTo, isAt], hw⟩
    · have h11' : (c == 11) = false := by simp [h11]
      go_enter Tryz.func66, Tryz.ntmps66
      go_wp2
      go_ret
      exact ⟨by simp [badTo, h10, h11], hw⟩
theorem xh3Z (l : List (Int × Int)) (v : Value) (m : List (Int × Int)) (bc : Nat) (w : World) (h : OpsAt w v l) (hB : CodeBox w bc m) : Calls Tryz.prog 80 #[v, .func (.func 66) #[] #[.pointer (some ⟨bc, 0, none⟩)]] w fun e w' => ∃ r, e = .returned (.int .i64 r) ∧ decide (0 ≤ r) = (!l.all fun o => !badTo m.length o) ∧ Below w.heap.size w w' := by
  obtain ⟨p, cap, rfl, hm, hc⟩ := h
  unfold maxLen at hm
  go_enter Tryz.func80, Tryz.ntmps80
  go_wp2
  go_loopw [5, 8] (fun _ i wr => ∃ k : Nat, k ≤ l.length ∧ i = .int .i64 k ∧ (∀ o ∈ l.take k, (!badTo m.length o) = true) ∧ Below w.heap.size w wr) (fun _ i _ => l.length - (intOf i).toNat)
  case atStart => exact ⟨0, Nat.zero_le _, rfl, by simp, Below.refl _ _⟩
  case round =>
    obtain ⟨k, hk, rfl, hok, hbw⟩ := hrel
    have HK : Hid (∀ o ∈ l.take k, (!badTo m.length o) = true) := hok
    clear hok
    have HC : Hid (∀ k o, l[k]? = some o → ∃ b off, p = some ⟨b, off, none⟩ ∧ b < w.heap.size ∧ w.cell? ⟨b, off + k * 2, none⟩ = some (.int .i64 o.1) ∧ w.cell? ⟨b, off + k * 2 + 1, none⟩ = some (.int .i64 o.2)) := hc
    clear hc
    by_cases hlt : k < l.length
    · obtain ⟨⟨c, a⟩, ho⟩ := xagZ hlt
      obtain ⟨b, off, rfl, hb, h0, h1⟩ := HC.out k _ ho
      have g0 := (hbw.cell (p := ⟨b, off + k * 2, none⟩) hb).trans h0
      have g1 := (hbw.cell (p := ⟨b, off + k * 2 + 1, none⟩) hb).trans h1
      have hBr := hB.below hbw
      have HO : Hid (l[k]? = some (c, a)) := ho
      clear ho h0 h1
      cases hnb : badTo m.length (c, a)
      · go_wp2_with (go_at_call 66; refine (xd3Z c a m bc _ hBr).mono ?_; rintro e w2 ⟨rfl, hb2⟩)
        go_roundw
        case rel => exact ⟨k + 1, by omega, by go_num, xcyZ HK.out HO.out (by rw [hnb]; rfl), hbw.trans (hb2.mono hbw.size)⟩
        case measure => simp [intOf]; omega
      · go_wp2_with (go_at_call 66; refine (xd3Z c a m bc _ hBr).mono ?_; rintro e w2 ⟨rfl, hb2⟩)
        go_ret
        exact ⟨k, rfl, by rw [xc4Z HO.out (by rw [hnb]; rfl)]; simp, hbw.trans (hb2.mono hbw.size)⟩
    · have hlt' : ¬ (k : Int) < (l.length : Int) := by omega
      go_wp2
      go_ret
      refine ⟨-1, rfl, ?_, hbw⟩
      have := HK.out
      rw [List.take_of_length_le (by omega)] at this
      rw [xdnZ this]; decide
theorem xdrZ (l : List (Int × Int)) (v : Value) (bc : Nat) (w : World) (h : OpsAt w v l) (hB : CodeBox w bc l) : Calls Tryz.prog 57 #[v, .func (.func 66) #[] #[.pointer (some ⟨bc, 0, none⟩)]] w fun e w' => e = .returned (.bool (l.any (badTo l.length))) ∧ Below w.heap.size w w' := by
  go_enter Tryz.func57, Tryz.ntmps57
  go_wp2_with fail
  refine (xh3Z l v l bc _ h hB).mono ?_
  rintro e w2 ⟨r, rfl, hr, hb2⟩
  have hr2 : decide (0 ≤ r) = l.any (badTo l.length) := by rw [hr, List.not_all_eq_any_not]; simp
  have HR := hideP hr2
  clear hr hr2
  go_wp2
  go_ret
  exact ⟨by rw [← HR.out]; rfl, hb2⟩
theorem xbtZ (l : List (Int × Int)) (v : Value) (w : World) (h : OpsAt w v l) : Calls Tryz.prog 35 #[v] w fun e w' => e = .returned (.int .i64 (flowErr l)) ∧ Below w.heap.size w w' := by
  have h' := h
  obtain ⟨p, cap, rfl, hm, _⟩ := h'
  unfold maxLen at hm
  obtain ⟨W1, hW1⟩ : ∃ W1, w.alloc (.cells #[.slice p l.length cap] 26) = W1 := ⟨_, rfl⟩
  have hw : Below w.heap.size w W1 := by rw [← hW1]; exact (Below.refl _ w).alloc (Nat.le_refl _) _
  have hh : W1.heap[w.heap.size]? = some (.cells #[.slice p l.length cap] 26 (0, 0)) := by rw [← hW1]; exact World.alloc_heap_new w _
  have hB : CodeBox W1 w.heap.size l := ⟨_, xabZ hh, by have := xaaZ hh 0; simpa using this, h.below hw⟩
  have c1 : W1.cell? ⟨w.heap.size, 0, none⟩ = some (.slice p l.length cap) := by have := xaaZ hh 0; simpa using this
  have HH := hideP hh
  clear hh
  by_cases hc : xaoZ l = 0
  · go_enter Tryz.func35, Tryz.ntmps35
    go_wp2_with fail
    refine (xc7Z l _ _ (h.below hw)).mono ?_
    rintro e w2 ⟨T, rfl, hT, hb2⟩
    have hB2 := hB.below hb2
    have hb02 := hw.trans (hb2.mono hw.size)
    have c2 : w2.cell? ⟨w.heap.size, 0, none⟩ = some (.slice p l.length cap) := (hb2.cell (p := ⟨w.heap.size, 0, none⟩) (xabZ HH.out)).trans c1
    clear hT
    rw [hc]
    by_cases hl : l.length = 0
    · have hl' : (l.length : Int) = 0 := by omega
      go_wp2
      go_ret
      exact ⟨by simp [flowErr, hc, hl], hb02⟩
    · have hl' : ((l.length : Int) == 0) = false := by simp; simpa using hl
      have HL := hideP hl
      clear hl
      cases ha : l.any (badTo l.length)
      · go_wp2_with (go_at_call 57; refine (xdrZ l _ _ _ (h.below hb02) hB2).mono ?_; rw [ha]; rintro e w3 ⟨rfl, hb3⟩)
        go_ret
        exact ⟨by simp only [flowErr, hc, HL.out, ha]; rfl, hb02.trans (hb3.mono hb02.size)⟩
      · go_wp2_with (go_at_call 57; refine (xdrZ l _ _ _ (h.below hb02) hB2).mono ?_; rw [ha]; rintro e w3 ⟨rfl, hb3⟩)
        go_ret
        exact ⟨by simp only [flowErr, hc, HL.out, ha]; rfl, hb02.trans (hb3.mono hb02.size)⟩
  · have hc' : (xaoZ l != 0) = true := by simp [hc]
    go_enter Tryz.func35, Tryz.ntmps35
    go_wp2_with fail
    refine (xc7Z l _ _ (h.below hw)).mono ?_
    rintro e w2 ⟨T, rfl, hT, hb2⟩
    have HC := hideP hc
    clear hc hT
    go_wp2
    go_ret
    exact ⟨by rw [flowErr, if_pos HC.out]; rfl, hw.trans (hb2.mono hw.size)⟩
end Go.Proofs.YtgmkmlenhhhgkaaGreat


/- slices.Sort and slices.Compact at numbers: contracts of the library, laid at this program (layings and applications alone). -/
namespace Go.Proofs
open Go.Shelf
def Tryz.lays189_ren : Go.Shelf.Ren := ⟨fun | 189 => 92 | 125 => 107 | 257 => 106 | 128 => 121 | 129 => 122 | 294 => 112 | 295 => 113 | 296 => 114 | 297 => 115 | 298 => 116 | 299 => 117 | 216 => 118 | 300 => 119 | 301 => 120 | 328 => 125 | 329 => 126 | 330 => 127 | 331 => 128 | 332 => 129 | 215 => 130 | 343 => 132 | n => n, fun | 28 => 25 | 3 => 3 | 46 => 110 | 0 => 0 | 51 => 155 | 53 => 157 | 4 => 4 | 183 => 148 | 182 => 147 | 131 => 152 | 5 => 5 | 9 => 9 | 218 => 161 | 222 => 165 | 228 => 167 | 229 => 168 | n => n, fun | n => n⟩
theorem Tryz.lays189 : Go.Proofs.Lays.n189 Tryz.prog Tryz.lays189_ren := {
  mixed := by kernel_rfl
  f125 := Tryz.func107.trans (congrArg some (by kernel_rfl))
  f128 := Tryz.func121.trans (congrArg some (by kernel_rfl))
  f129 := Tryz.func122.trans (congrArg some (by kernel_rfl))
  f189 := Tryz.func92.trans (congrArg some (by kernel_rfl))
  f215 := Tryz.func130.trans (congrArg some (by kernel_rfl))
  f216 := Tryz.func118.trans (congrArg some (by kernel_rfl))
  f257 := Tryz.func106.trans (congrArg some (by kernel_rfl))
  f294 := Tryz.func112.trans (congrArg some (by kernel_rfl))
  f295 := Tryz.func113.trans (congrArg some (by kernel_rfl))
  f296 := Tryz.func114.trans (congrArg some (by kernel_rfl))
  f297 := Tryz.func115.trans (congrArg some (by kernel_rfl))
  f298 := Tryz.func116.trans (congrArg some (by kernel_rfl))
  f299 := Tryz.func117.trans (congrArg some (by kernel_rfl))
  f300 := Tryz.func119.trans (congrArg some (by kernel_rfl))
  f301 := Tryz.func120.trans (congrArg some (by kernel_rfl))
  f328 := Tryz.func125.trans (congrArg some (by kernel_rfl))
  f329 := Tryz.func126.trans (congrArg some (by kernel_rfl))
  f330 := Tryz.func127.trans (congrArg some (by kernel_rfl))
  f331 := Tryz.func128.trans (congrArg some (by kernel_rfl))
  f332 := Tryz.func129.trans (congrArg some (by kernel_rfl))
  f343 := Tryz.func132.trans (congrArg some (by kernel_rfl))
  t0 := Tryz.underlying0
  a0 := Tryz.isAgg0
  z0 := Tryz.sizeOf0
  v0 := Tryz.zeroValue0
  t3 := Tryz.underlying3
  a3 := Tryz.isAgg3
  z3 := Tryz.sizeOf3
  v3 := Tryz.zeroValue3
  t4 := Tryz.underlying4
  a4 := Tryz.isAgg4
  z4 := Tryz.sizeOf4
  v4 := Tryz.zeroValue4
  t5 := Tryz.underlying5
  a5 := Tryz.isAgg5
  z5 := Tryz.sizeOf5
  v5 := Tryz.zeroValue5
  t9 := Tryz.underlying9
  a9 := Tryz.isAgg9
  z9 := Tryz.sizeOf9
  v9 := Tryz.zeroValue9
  t28 := Tryz.underlying25
  a28 := Tryz.isAgg25
  z28 := Tryz.sizeOf25
  v28 := Tryz.zeroValue25
  t46 := Tryz.underlying110
  a46 := Tryz.isAgg110
  z46 := Tryz.sizeOf110
  v46 := Tryz.zeroValue110
  t51 := Tryz.underlying155
  a51 := Tryz.isAgg155
  z51 := Tryz.sizeOf155
  v51 := Tryz.zeroValue155
  t53 := Tryz.underlying157
  a53 := Tryz.isAgg157
  z53 := Tryz.sizeOf157
  v53 := Tryz.zeroValue157
  t131 := Tryz.underlying152
  a131 := Tryz.isAgg152
  z131 := Tryz.sizeOf152
  v131 := Tryz.zeroValue152
  t182 := Tryz.underlying147
  a182 := Tryz.isAgg147
  z182 := Tryz.sizeOf147
  v182 := Tryz.zeroValue147
  t183 := Tryz.underlying148
  a183 := Tryz.isAgg148
  z183 := Tryz.sizeOf148
  v183 := Tryz.zeroValue148
  t218 := Tryz.underlying161
  a218 := Tryz.isAgg161
  z218 := Tryz.sizeOf161
  v218 := Tryz.zeroValue161
  t222 := Tryz.underlying165
  a222 := Tryz.isAgg165
  z222 := Tryz.sizeOf165
  v222 := Tryz.zeroValue165
  t228 := Tryz.underlying167
  a228 := Tryz.isAgg167
  z228 := Tryz.sizeOf167
  v228 := Tryz.zeroValue167
  t229 := Tryz.underlying168
  a229 := Tryz.isAgg168
  z229 := Tryz.sizeOf168
  v229 := Tryz.zeroValue168 }
open Go.Sort Go.RowKit in
theorem Tryz.slices_Sort_int (blk off cap : Nat) (zs : List Int) (w : World) (hH : Holds (Value.int .i64) w blk off zs.toArray) (hblk : blk < w.heap.size) (hsz : zs.length < 4611686018427387904) :
    Calls Tryz.prog 92 #[.slice (some ⟨blk, off, none⟩) zs.length cap] w fun e w' =>
      e = .returned (.tuple #[]) ∧ ∃ n os, w' = grow (putRow (Value.int .i64) (Sort.ahead w n) blk off (zs.mergeSort fun x y => decide (x ≤ y)).toArray) os := Any.slices_Sort_int Tryz.lays189 blk off cap zs w hH hblk hsz
def Tryz.laysNm220_ren : Go.Shelf.Ren := ⟨fun | 20 => 93 | n => n, fun | 22 => 25 | 3 => 3 | 4 => 4 | 0 => 0 | n => n, fun | n => n⟩
theorem Tryz.laysNm220 : Go.Proofs.Lays2.n20 Tryz.prog Tryz.laysNm220_ren := {
  mixed := by kernel_rfl
  f20 := Tryz.func93.trans (congrArg some (by kernel_rfl))
  t0 := Tryz.underlying0
  a0 := Tryz.isAgg0
  z0 := Tryz.sizeOf0
  v0 := Tryz.zeroValue0
  t3 := Tryz.underlying3
  a3 := Tryz.isAgg3
  z3 := Tryz.sizeOf3
  v3 := Tryz.zeroValue3
  t4 := Tryz.underlying4
  a4 := Tryz.isAgg4
  z4 := Tryz.sizeOf4
  v4 := Tryz.zeroValue4
  t22 := Tryz.underlying25
  a22 := Tryz.isAgg25
  z22 := Tryz.sizeOf25
  v22 := Tryz.zeroValue25
  i3 := by kernel_rfl }
open Go.RowKit Go.Lib Go.Sort in
theorem Tryz.slices_Compact_int (blk off cap : Nat) (zs : List Int) (w : World) (hH : Holds (Value.int .i64) w blk off zs.toArray) (hsz : zs.length ≤ 9223372036854775807) (hcap : zs.length ≤ cap) :
    Calls Tryz.prog 93 #[.slice (some ⟨blk, off, none⟩) zs.length cap] w fun e w' => e = .returned (.slice (some ⟨blk, off, none⟩) (Lib.compact zs).length cap) ∧ ∃ q, w' = putRow (Value.int .i64) (Sort.ahead w q) blk off (Lib.compact zs ++ List.replicate (zs.length - (Lib.compact zs).length) 0).toArray := Any.slices_Compact_int Tryz.laysNm220 blk off cap zs w hH hsz hcap
end Go.Proofs


/- slices.Index and slices.Contains at numbers; flow.rising, flow.next. -/
namespace Go.Proofs.YtgmkmlenhhhgkaaGreat
open Go.RowKit
set_option linter.unusedSimpArgs false
set_option linter.unusedVariables false
theorem xh4Z (l : List Int) (x : Int) (v : Value) (w : World) (h : IntsAt w v l) : Calls Tryz.prog 70 #[v, .int .i64 x] w fun e w' => ∃ r, e = .returned (.int .i64 r) ∧ decide (0 ≤ r) = (!l.all fun z => !(z == x)) ∧ w' = w := by
  obtain ⟨p, cap, rfl, hm, hc⟩ := h
  unfold maxLen at hm
  go_enter Tryz.func70, Tryz.ntmps70
  go_wp2
  go_loopw [5, 8] (fun _ i wr => ∃ k : Nat, k ≤ l.length ∧ i = .int .i64 k ∧ (∀ o ∈ l.take k, (!(o == x)) = true) ∧ wr = w) (fun _ i _ => l.length - (intOf i).toNat)
  case atStart => exact ⟨0, Nat.zero_le _, rfl, by simp, rfl⟩
  case round =>
    obtain ⟨k, hk, rfl, hok, hbw⟩ := hrel
    subst hbw
    have HK : Hid (∀ o ∈ l.take k, (!(o == x)) = true) := hok
    clear hok
    have HC := hideP hc
    clear hc
    by_cases hlt : k < l.length
    · obtain ⟨z, ho⟩ := xagZ hlt
      obtain ⟨b, off, rfl, hb, h0⟩ := HC.out k _ ho
      have HO : Hid (l[k]? = some z) := ho
      clear ho
      cases hnb : (z == x)
      · have hnb' : (x == z) = false := by rw [Bool.eq_false_iff] at hnb ⊢; intro h; simp at h hnb; exact hnb h.symm
        go_wp2
        go_roundw
        case rel => exact ⟨k + 1, by omega, by go_num, xcyZ HK.out HO.out (by rw [hnb]; rfl), trivial⟩
        case measure => simp [intOf]; omega
      · obtain rfl : z = x := by simpa using hnb
        go_wp2
        go_ret
        exact ⟨k, rfl, by rw [xc4Z HO.out (by rw [hnb]; rfl)]; simp, rfl⟩
    · have hlt' : ¬ (k : Int) < (l.length : Int) := by omega
      go_wp2
      go_ret
      refine ⟨-1, rfl, ?_, rfl⟩
      have := HK.out
      rw [List.take_of_length_le (by omega)] at this
      rw [xdnZ this]; decide
theorem xctZ (l : List Int) (x : Int) (v : Value) (w : World) (h : IntsAt w v l) : Calls Tryz.prog 44 #[v, .int .i64 x] w fun e w' => e = .returned (.bool (decide (x ∈ l))) ∧ w' = w := by
  go_enter Tryz.func44, Tryz.ntmps44
  go_wp2_with fail
  refine (xh4Z l x v _ h).mono ?_
  rintro e w2 ⟨r, rfl, hr, hw⟩
  have hw := hw.symm
  subst hw
  have hr2 : decide (0 ≤ r) = decide (x ∈ l) := by
    rw [hr, List.not_all_eq_any_not, Bool.eq_iff_iff]
    simp
  have HR := hideP hr2
  clear hr hr2
  go_wp2
  go_ret
  exact ⟨by rw [← HR.out]; rfl, rfl⟩
theorem xayZ {W W' : World} {base : Nat} {e : TypeId} {size : Nat} {v : Value} {n : Nat} {xs : List Value} (h : W.ownsRow base e size v n xs) (hk : ∀ k, v.ownBlock = some k → W'.heap[k]? = W.heap[k]?) : W'.ownsRow base e size v n xs := by
  refine ⟨h.1, ?_⟩
  rcases h.2 with h | ⟨g, cap, cur, rfl, hb, hg, r⟩
  · exact .inl h
  · exact .inr ⟨g, cap, cur, rfl, hb, (hk g rfl).trans hg, r⟩
def rise (a b : Int) : List Int := if a = b then [a] else if a < b then [a, b] else [b, a]
theorem sort_two (a b : Int) : [a, b].mergeSort (fun x y => decide (x ≤ y)) = if a ≤ b then [a, b] else [b, a] := by
  by_cases h : a ≤ b
  · rw [if_pos h]
    exact List.mergeSort_of_pairwise (by simpa using h)
  · rw [if_neg h]
    have hp := List.mergeSort_perm [a, b] (fun x y => decide (x ≤ y))
    have hs := List.pairwise_mergeSort (le := fun x y : Int => decide (x ≤ y)) (by intro x y z; simp; omega) (by intro x y; simp; omega) [a, b]
    have hq : [b, a].Pairwise fun x y : Int => (decide (x ≤ y)) = true := by simp; omega
    have hp2 : ([a, b].mergeSort (fun x y => decide (x ≤ y))).Perm [b, a] := hp.trans (List.Perm.swap b a [])
    exact hp2.eq_of_pairwise (fun x y _ _ h1 h2 => by simp at h1 h2; omega) hs hq
theorem xi0Z (a b : Int) : Lib.compact [a, b] = if a = b then [a] else [a, b] := by
  by_cases h : a = b
  · subst h; simp [Lib.compact, Lib.compactUpTo, Lib.keeps, List.range_succ]
  · have h' : b ≠ a := fun e => h e.symm
    rw [if_neg h]
    simp [Lib.compact, Lib.compactUpTo, Lib.keeps, List.range_succ, h']
theorem xd4Z (w : World) (B : Nat) (f : Array Value → Array Value) (n : Nat) : w.grownBy (Sort.mapBlock (Sort.ahead w n) B f) (some B) :=
  ⟨rfl, rfl, rfl, by simp [Sort.mapBlock, Sort.ahead], fun k hk hne => by
    have hne' : ¬ B = k := fun e => hne (by rw [e])
    simp [Sort.mapBlock, Sort.ahead, Array.getElem?_modify, hne']⟩
theorem grow_grown (w : World) (os : Array Obj) (row : Option Nat) : w.grownBy (Sort.grow w os) row :=
  ⟨rfl, rfl, rfl, by simp [Sort.grow], fun k hk hne => by simp [Sort.grow, Array.getElem?_append, hk]⟩
theorem xeiZ (w : World) (B n : Nat) (x y a b : Value) (t : TypeId) (h : w.heap[B]? = some (.cells #[x, y] t (0, 0))) (l : Array Int) (hl : l.size = 2) : (Sort.putRow (Value.int .i64) (Sort.ahead w n) B 0 l).heap[B]? = some (.cells #[.int .i64 l[0]!, .int .i64 l[1]!] t (0, 0)) := by
  simp only [Sort.putRow, Sort.mapBlock, Sort.ahead, Array.getElem?_modify, if_true, h, Option.map_some, Sort.onCells, Option.some.injEq, Obj.cells.injEq, and_true]
  apply Array.ext_getElem?
  intro k
  simp only [Sort.putCells, Array.getElem?_mapIdx]
  match k with
  | 0 => simp [hl]
  | 1 => simp [hl]
  | k + 2 => simp
theorem xg3Z {w : World} {B : Nat} {a b : Int} {t : TypeId} (h : w.heap[B]? = some (.cells #[.int .i64 a, .int .i64 b] t (0, 0))) : Sort.Holds (Value.int .i64) w B 0 [a, b].toArray := by
  intro j hj
  have hf := Lib.frozen_of_heap h
  match j, hj with
  | 0, _ => exact ⟨by rw [xaaZ h]; rfl, by simpa using hf 0⟩
  | 1, _ => exact ⟨by rw [xaaZ h]; rfl, by simpa using hf 1⟩
theorem rising_any (a b : Int) (B : Nat) (w : World) (h : w.heap[B]? = some (.cells #[.int .i64 a, .int .i64 b] 3 (0, 0))) : Calls Tryz.prog 67 #[.slice (some ⟨B, 0, none⟩) 2 2] w fun e w' => ∃ v, e = .returned v ∧ w'.ownsRow B 3 1 v (rise a b).length ((rise a b).map (Value.int .i64)) ∧ w.grownBy w' (some B) := by
  have hlt := xabZ h
  have key : ∀ (x y : Int) (W : World), W.heap[B]? = some (.cells #[.int .i64 x, .int .i64 y] 3 (0, 0)) → (if x = y then [x] else [x, y]) = rise a b → Calls Tryz.prog 93 #[.slice (some ⟨B, 0, none⟩) 2 2] W fun e w' => ∃ v, e = .returned v ∧ w'.ownsRow B 3 1 v (rise a b).length ((rise a b).map (Value.int .i64)) ∧ W.grownBy w' (some B) := by
    intro x y W hW hr
    refine (Tryz.slices_Compact_int B 0 2 [x, y] W (xg3Z hW) (by simp) (by simp)).mono ?_
    rw [xi0Z]
    rintro e w' ⟨rfl, q, rfl⟩
    refine ⟨_, rfl, ?_, xd4Z _ _ _ _⟩
    rw [hr]
    rw [← hr]
    by_cases hxy : x = y
    · subst hxy
      simp only [if_true]
      have hh := xeiZ W B q _ _ (.int .i64 0) (.int .i64 0) _ hW (([x] ++ List.replicate ([x, x].length - [x].length) 0).toArray) (by simp)
      refine ⟨by simp, .inr ⟨B, 2, _, rfl, Nat.le_refl _, hh, by simp, by unfold maxLen; omega, by simp, by simp⟩⟩
    · simp only [if_neg hxy]
      have hh := xeiZ W B q _ _ (.int .i64 0) (.int .i64 0) _ hW (([x, y] ++ List.replicate ([x, y].length - [x, y].length) 0).toArray) (by simp)
      refine ⟨by simp, .inr ⟨B, 2, _, rfl, Nat.le_refl _, hh, by simp, by unfold maxLen; omega, by simp, by simp⟩⟩
  have KEY := hideP key
  clear key
  go_enter Tryz.func67, Tryz.ntmps67
  go_wp2_with fail
  refine (Tryz.slices_Sort_int B 0 2 [a, b] w (xg3Z h) hlt (by simp)).mono ?_
  rw [sort_two]
  rintro e w1 ⟨rfl, n, os, hw1⟩
  have hg1 : w.grownBy w1 (some B) := by rw [hw1]; exact (xd4Z w B _ n).trans (grow_grown _ _ _)
  have hh1 : w1.heap[B]? = some (.cells (if a ≤ b then #[.int .i64 a, .int .i64 b] else #[.int .i64 b, .int .i64 a]) 3 (0, 0)) := by
    rw [hw1]
    have := xeiZ w B n _ _ (.int .i64 0) (.int .i64 0) _ h (if a ≤ b then [a, b] else [b, a]).toArray (by split <;> rfl)
    have h2 : B < (Sort.putRow (Value.int .i64) (Sort.ahead w n) B 0 (if a ≤ b then [a, b] else [b, a]).toArray).heap.size := xabZ this
    show (_ ++ os)[B]? = _
    rw [Array.getElem?_append_left h2, this]
    split <;> rfl
  clear hw1
  have HH := hideP hh1
  clear hh1
  go_wp2_with fail
  by_cases hab : a ≤ b
  · have hh := HH.out
    rw [if_pos hab] at hh
    refine (KEY.out a b w1 hh (by unfold rise; by_cases h1 : a = b <;> simp [h1]; omega)).mono ?_
    rintro e w2 ⟨v, rfl, hrow, hg2⟩
    have HROW := hideP hrow
    clear hrow hh
    go_wp2
    go_ret
    exact ⟨_, rfl, HROW.out, hg1.trans hg2⟩
  · have hh := HH.out
    rw [if_neg hab] at hh
    refine (KEY.out b a w1 hh (by unfold rise; rw [if_neg (by omega), if_neg (by omega), if_neg (by omega)])).mono ?_
    rintro e w2 ⟨v, rfl, hrow, hg2⟩
    have HROW := hideP hrow
    clear hrow hh
    go_wp2
    go_ret
    exact ⟨_, rfl, HROW.out, hg1.trans hg2⟩
def nextI (c a pc : Int) : List Int := if c = 13 then [] else if c = 10 then [a] else if c = 11 then rise a (pc + 1) else [pc + 1]
theorem one_row {w : World} {B : Nat} {x : Int} (h : w.heap[B]? = some (.cells #[.int .i64 x] 3 (0, 0))) : w.ownsRow B 3 1 (.slice (some ⟨B, 0, none⟩) 1 1) 1 [.int .i64 x] :=
  ⟨by simp, .inr ⟨B, 1, _, rfl, Nat.le_refl _, h, Nat.le_refl _, by unfold maxLen; omega, by simp, by simp⟩⟩
theorem xa3Z (w : World) (o o' : Obj) : ((w.alloc o).alloc o').heap[w.heap.size + 1]? = some o' := by
  have := World.alloc_heap_new (w.alloc o) o'
  simpa using this
theorem xa2Z {w : World} {B B' : Nat} {e : TypeId} {size : Nat} {v : Value} {n : Nat} {xs : List Value} (h : w.ownsRow B e size v n xs) (hB : B' ≤ B) : w.ownsRow B' e size v n xs := by
  refine ⟨h.1, ?_⟩
  rcases h.2 with h | ⟨g, cap, cur, rfl, hb, r⟩
  · exact .inl h
  · exact .inr ⟨g, cap, cur, rfl, Nat.le_trans hB hb, r⟩
theorem xdeZ (c a pc : Int) (w : World) (hp : 0 ≤ pc ∧ pc ≤ 9223372036854775806) : Calls Tryz.prog 38 #[.agg #[.int .i64 c, .int .i64 a], .int .i64 pc] w fun e w' => ∃ v, e = .returned v ∧ w'.ownsRow w.heap.size 3 1 v (nextI c a pc).length ((nextI c a pc).map (Value.int .i64)) ∧ Below w.heap.size w w' := by
  have hw : Below w.heap.size w (w.alloc (.cells #[.int .i64 c, .int .i64 a] 38)) := (Below.refl _ w).alloc (Nat.le_refl _) _
  have hwr : wrap64 (pc + 1) = pc + 1 := by unfold wrap64; omega
  by_cases h13 : c = 13
  · subst h13
    go_enter Tryz.func38, Tryz.ntmps38
    go_wp2
    go_ret
    exact ⟨_, rfl, World.ownsRow_nil _ _ _ _, hw⟩
  have h13' : (c == 13) = false := by simp [h13]
  by_cases h10 : c = 10
  · subst h10
    go_enter Tryz.func38, Tryz.ntmps38
    go_wp2
    go_ret
    refine ⟨_, rfl, ?_, hw.alloc (by simp) _⟩
    exact xa2Z (one_row (xa3Z w _ _)) (by omega)
  have h10' : (c == 10) = false := by simp [h10]
  by_cases h11 : c = 11
  · subst h11
    obtain ⟨W1, hW1⟩ : ∃ W1, (w.alloc (.cells #[.int .i64 11, .int .i64 a] 38)).alloc (.cells #[.int .i64 a, .int .i64 (pc + 1)] 3) = W1 := ⟨_, rfl⟩
    have hB1 : Below w.heap.size w W1 := by rw [← hW1]; exact hw.alloc (by simp) _
    have hh : W1.heap[w.heap.size + 1]? = some (.cells #[.int .i64 a, .int .i64 (pc + 1)] 3 (0, 0)) := by
      rw [← hW1]
      have := World.alloc_heap_new (w.alloc (.cells #[.int .i64 11, .int .i64 a] 38)) (.cells #[.int .i64 a, .int .i64 (pc + 1)] 3)
      simpa using this
    have HH := hideP hh
    clear hh
    go_enter Tryz.func38, Tryz.ntmps38
    go_wp2_with (go_at_call 67; refine (rising_any a (pc + 1) (w.heap.size + 1) _ HH.out).mono ?_; rintro e w2 ⟨v, rfl, hrow, hg⟩; have HROW := hideP hrow; clear hrow)
    go_ret
    refine ⟨_, rfl, xa2Z HROW.out (by omega), hB1.grown hg hB1.size (fun k hk => by cases hk; omega)⟩
  have h11' : (c == 11) = false := by simp [h11]
  go_enter Tryz.func38, Tryz.ntmps38
  go_wp2
  go_ret
  refine ⟨_, rfl, ?_, hw.alloc (by simp) _⟩
  have e1 : nextI c a pc = [pc + 1] := by simp [nextI, h13, h10, h11]
  rw [e1]
  exact xa2Z (one_row (xa3Z w _ _)) (by omega)
end Go.Proofs.YtgmkmlenhhhgkaaGreat


