/- My texts Mb Be Md Me: what of them is needed, joined. -/
import Derived.Deep.RegionHeld3
import Derived.Test.YtmjjkenblfndgaaGreatE5
import Derived.Test.YtmjjkenblfndgaaGreatE9
set_option maxRecDepth 100000
set_option maxHeartbeats 8000000
/- Frames and machines in memory of the call's own, and what can be read of any. -/
namespace Go.Proofs.YtmjjkenblfndgaaGreat
open Go.RowKit
set_option linter.unusedSimpArgs false
set_option linter.unusedVariables false
structure FV where
  fn : Int
  pc : Int
  lv : Value
  sv : Value
def fCells (q : List FV) : List Value := q.flatMap fun c => [.int .i64 c.fn, .int .i64 c.pc, c.lv, c.sv]
def fRows (q : List FV) : List Value := q.flatMap fun c => [c.lv, c.sv]
def fVals (F : List Frm) : List (List Val) := F.flatMap fun x => [x.loc, x.stk]
theorem xb7Z (q r : List FV) : fCells (q ++ r) = fCells q ++ fCells r := by simp [fCells]
theorem xewZ (q r : List FV) : fRows (q ++ r) = fRows q ++ fRows r := by simp [fRows]
theorem xd4Z (q r : List Frm) : fVals (q ++ r) = fVals q ++ fVals r := by simp [fVals]
theorem xbxZ (q : List FV) : (fCells q).length = q.length * 4 := by
  induction q with
  | nil => rfl
  | cons o r ih => simp [fCells] at *; omega
theorem xdbZ (q : List FV) : (fRows q).length = q.length * 2 := by
  induction q with
  | nil => rfl
  | cons o r ih => simp [fRows] at *; omega
theorem xdcZ (q : List Frm) : (fVals q).length = q.length * 2 := by
  induction q with
  | nil => rfl
  | cons o r ih => simp [fVals] at *; omega
theorem xd2Z (q : List FV) : ∀ (k : Nat) (c : FV), q[k]? = some c → (fCells q)[k * 4]? = some (.int .i64 c.fn) ∧ (fCells q)[k * 4 + 1]? = some (.int .i64 c.pc) ∧ (fCells q)[k * 4 + 2]? = some c.lv ∧ (fCells q)[k * 4 + 3]? = some c.sv := by
  induction q with
  | nil => intro k o h; simp at h
  | cons x r ih =>
    intro k o h
    cases k with
    | zero => simp at h; subst h; simp [fCells]
    | succ k =>
      have := ih k o (by simpa using h)
      rw [show (k + 1) * 4 = k * 4 + 1 + 1 + 1 + 1 from by omega]
      simpa [fCells] using this
theorem xd3Z (q : List FV) : ∀ (k : Nat) (c : FV), q[k]? = some c → (fRows q)[k * 2]? = some c.lv ∧ (fRows q)[k * 2 + 1]? = some c.sv := by
  induction q with
  | nil => intro k o h; simp at h
  | cons x r ih =>
    intro k o h
    cases k with
    | zero => simp at h; subst h; simp [fRows]
    | succ k =>
      have := ih k o (by simpa using h)
      rw [show (k + 1) * 2 = k * 2 + 1 + 1 from by omega]
      simpa [fRows] using this
theorem xjtZ (q : List Frm) : ∀ (k : Nat) (c : Frm), q[k]? = some c → (fVals q)[k * 2]? = some c.loc ∧ (fVals q)[k * 2 + 1]? = some c.stk := by
  induction q with
  | nil => intro k o h; simp at h
  | cons x r ih =>
    intro k o h
    cases k with
    | zero => simp at h; subst h; simp [fVals]
    | succ k =>
      have := ih k o (by simpa using h)
      rw [show (k + 1) * 2 = k * 2 + 1 + 1 from by omega]
      simpa [fVals] using this
def FrmsAt (w : World) (v : Value) (F : List Frm) : Prop :=
  ∃ (p : Option Addr) (cap : Nat), v = .slice p F.length cap ∧ F.length ≤ maxLen ∧ F.length ≤ cap ∧ ∀ k x, F[k]? = some x →
    ∃ g off lv sv, p = some ⟨g, off, none⟩ ∧ g < w.heap.size ∧ w.cell? ⟨g, off + k * 4, none⟩ = some (.int .i64 x.fn) ∧ w.cell? ⟨g, off + k * 4 + 1, none⟩ = some (.int .i64 x.pc) ∧ w.cell? ⟨g, off + k * 4 + 2, none⟩ = some lv ∧ w.cell? ⟨g, off + k * 4 + 3, none⟩ = some sv ∧ ValsAt w lv x.loc ∧ NilOk lv ∧ ValsAt w sv x.stk ∧ NilOk sv
theorem FrmsAt.below {w w' : World} {v : Value} {F : List Frm} (h : FrmsAt w v F) (hb : Below w.heap.size w w') : FrmsAt w' v F := by
  obtain ⟨p, cap, rfl, hm, hc0, hc⟩ := h
  refine ⟨p, cap, rfl, hm, hc0, fun k x hk => ?_⟩
  obtain ⟨g, off, lv, sv, rfl, hlt, h0, h1, h2, h3, h4, h5, h6, h7⟩ := hc k x hk
  exact ⟨g, off, lv, sv, rfl, Nat.lt_of_lt_of_le hlt hb.size, (hb.cell (p := ⟨g, off + k * 4, none⟩) hlt).trans h0, (hb.cell (p := ⟨g, off + k * 4 + 1, none⟩) hlt).trans h1, (hb.cell (p := ⟨g, off + k * 4 + 2, none⟩) hlt).trans h2, (hb.cell (p := ⟨g, off + k * 4 + 3, none⟩) hlt).trans h3, h4.below hb, h5, h6.below hb, h7⟩
structure MachAt (W : World) (fv bv iv ov : Value) (M : Mach) : Prop where
  fr : FrmsAt W fv M.frames
  bl : BlksAt W bv M.blocks
  inp : FullInts W iv M.inp
  out : FullInts W ov M.out
theorem MachAt.below {w w' : World} {fv bv iv ov : Value} {M : Mach} (h : MachAt w fv bv iv ov M) (hb : Below w.heap.size w w') : MachAt w' fv bv iv ov M := ⟨h.fr.below hb, h.bl.below hb, h.inp.below hb, h.out.below hb⟩
def TyRow (W : World) (row : Option Nat) (t : TypeId) : Prop := ∀ r, row = some r → ∃ cs fz, W.heap[r]? = some (.cells cs t fz)
theorem xcnZ {W : World} {B : Nat} {e : TypeId} {size n : Nat} {v : Value} {xs : List Value} (h : W.ownsRow B e size v n xs) : TyRow W v.ownBlock e := fun r hr => by
  rcases h.2 with ⟨rfl, _⟩ | ⟨g, cap, cur, rfl, _, hg, _⟩
  · cases hr
  · cases hr; exact ⟨_, _, hg⟩
theorem xatZ {W : World} {r : Nat} {cs : Array Value} {t : TypeId} {fz : Nat × Nat} (h : W.heap[r]? = some (.cells cs t fz)) : TyRow W (some r) t := fun r' e => by cases e; exact ⟨_, _, h⟩
theorem xasZ {W W' : World} {B : Nat} {e t : TypeId} {size n : Nat} {v : Value} {xs : List Value} {row : Option Nat} (h : W.ownsRow B e size v n xs) (hg : W.grownBy W' row) (ht : TyRow W row t) (hne : t ≠ e) : W'.ownsRow B e size v n xs :=
  xaoZ h fun k hk => hg.block k (h.lt k hk).2 fun e1 => by
    obtain ⟨cs, fz, hh⟩ := ht k e1.symm
    exact xboZ h hh hne hk.symm
theorem VRows.keep {W W' : World} {B : Nat} {t : TypeId} {q : List Value} {L : List (List Val)} {row : Option Nat} (h : VRows W B q L) (hg : W.grownBy W' row) (ht : TyRow W row t) (hne : t ≠ 113) : VRows W' B q L :=
  ⟨h.len, fun k x b h1 h2 => xasZ (h.each k x b h1 h2) hg ht hne, h.apart⟩
theorem BRows.keep {W W' : World} {B : Nat} {t : TypeId} {q : List Value} {L : List (List Int)} {row : Option Nat} (h : BRows W B q L) (hg : W.grownBy W' row) (ht : TyRow W row t) (hne : t ≠ 3) : BRows W' B q L :=
  ⟨h.len, fun k x b h1 h2 => xasZ (h.each k x b h1 h2) hg ht hne, h.apart, h.small⟩
theorem xbpZ {W : World} {B : Nat} {e : TypeId} {size n cap g : Nat} {xs : List Value} (h : W.ownsRow B e size (.slice (some ⟨g, 0, none⟩) n cap) n xs) (i : Nat) (u : Value) : (W.setCell ⟨g, i, none⟩ u).ownsRow B e size (.slice (some ⟨g, 0, none⟩) n cap) n (xs.set i u) := by
  rcases h.2 with ⟨h1, _⟩ | ⟨g', cap', cur, h1, h2, h3, h4, h5, h6, h7⟩
  · cases h1
  · cases h1
    have hs := heap_setCell_same W g i _ _ u h3
    refine ⟨by simpa using h.1, .inr ⟨g, cap, _, rfl, h2, hs, h4, h5, by simpa using h6, ?_⟩⟩
    have e1 : (cur.setIfInBounds i u).toList = cur.toList.set i u := by simp
    rw [e1, List.take_set, h7]
structure FRows (W : World) (B : Nat) (q : List FV) (F : List Frm) : Prop where
  len : q.length = F.length
  nums : ∀ (k : Nat) (c : FV) (x : Frm), q[k]? = some c → F[k]? = some x → c.fn = x.fn ∧ c.pc = x.pc
  rows : VRows W B (fRows q) (fVals F)
theorem FRows.below {W W' : World} {B : Nat} {q : List FV} {F : List Frm} (h : FRows W B q F) (hb : Below W.heap.size W W') : FRows W' B q F := ⟨h.len, h.nums, h.rows.below hb⟩
theorem FRows.low {W : World} {B B' : Nat} {q : List FV} {F : List Frm} (h : FRows W B q F) (hB : B' ≤ B) : FRows W B' q F := ⟨h.len, h.nums, h.rows.low hB⟩
theorem FRows.keep {W W' : World} {B : Nat} {t : TypeId} {q : List FV} {F : List Frm} {row : Option Nat} (h : FRows W B q F) (hg : W.grownBy W' row) (ht : TyRow W row t) (hne : t ≠ 113) : FRows W' B q F := ⟨h.len, h.nums, h.rows.keep hg ht hne⟩
theorem xiaZ (W : World) (B : Nat) : FRows W B [] [] := ⟨rfl, fun k c x h => by simp at h, vRows_nil W B⟩
theorem xbcZ {α : Type} {l : List α} {x y : α} {k : Nat} (h : (l ++ [x])[k]? = some y) : (k < l.length ∧ l[k]? = some y) ∨ (k = l.length ∧ y = x) := by
  by_cases hl : k < l.length
  · rw [List.getElem?_append_left hl] at h; exact .inl ⟨hl, h⟩
  · rw [List.getElem?_append_right (by omega)] at h
    have h0 : k - l.length = 0 := by have := xadZ h; simp at this; omega
    rw [h0] at h; simp at h
    exact .inr ⟨by omega, h.symm⟩
theorem xbeZ {α : Type} (l : List α) (x : α) : (l ++ [x])[l.length]? = some x := by simp
theorem FRows.snoc {W : World} {B B' : Nat} {q : List FV} {F : List Frm} {c : FV} {x : Frm} (h : FRows W B q F) (h1 : c.fn = x.fn) (h2 : c.pc = x.pc) (hl : W.ownsRow B' 113 2 c.lv x.loc.length (valCells x.loc)) (hs : W.ownsRow B' 113 2 c.sv x.stk.length (valCells x.stk)) (hB : B ≤ B')
    (hn : ∀ (k : Nat) (y : Value) (g : Nat), (fRows q)[k]? = some y → y.ownBlock = some g → g < B') (hls : ∀ g, c.lv.ownBlock = some g → c.sv.ownBlock ≠ some g) : FRows W B (q ++ [c]) (F ++ [x]) := by
  refine ⟨by simp [h.len], fun k d y hd hy => ?_, ?_⟩
  · rcases xbcZ hd with ⟨a1, a2⟩ | ⟨a1, rfl⟩
    · rcases xbcZ hy with ⟨b1, b2⟩ | ⟨b1, rfl⟩
      · exact h.nums k d y a2 b2
      · have := h.len; omega
    · rcases xbcZ hy with ⟨b1, b2⟩ | ⟨b1, rfl⟩
      · have := h.len; omega
      · exact ⟨h1, h2⟩
  · have e1 : fRows (q ++ [c]) = (fRows q ++ [c.lv]) ++ [c.sv] := by simp [fRows]
    have e2 : fVals (F ++ [x]) = (fVals F ++ [x.loc]) ++ [x.stk] := by simp [fVals]
    rw [e1, e2]
    refine (h.rows.snoc (xapZ hl hB) fun k y g h3 h4 h5 => ?_).snoc (xapZ hs hB) fun k y g h3 h4 h5 => ?_
    · have := hn k y g h3 h4
      have := (hl.lt g h5).1
      omega
    · rcases xbcZ h3 with ⟨_, h6⟩ | ⟨_, rfl⟩
      · have := hn k y g h6 h4
        have := (hs.lt g h5).1
        omega
      · exact hls g h4 h5
theorem FRows.stk {W W' : World} {B : Nat} {q : List FV} {F : List Frm} {c : FV} {x : Frm} {sv : Value} {s : List Val} (h : FRows W B (q ++ [c]) (F ++ [x])) (hg : W.grownBy W' c.sv.ownBlock) (hy : W'.ownsRow B 113 2 sv s.length (valCells s)) (hat : ∀ g, sv.ownBlock = some g → c.sv.ownBlock = some g ∨ W.heap.size ≤ g) : FRows W' B (q ++ [{ c with sv := sv }]) (F ++ [{ x with stk := s }]) := by
  have hl : q.length = F.length := by have := h.len; simp at this; exact this
  refine ⟨by simp [hl], fun k d y hd hy => ?_, ?_⟩
  · rcases xbcZ hd with ⟨a1, a2⟩ | ⟨a1, rfl⟩
    · rcases xbcZ hy with ⟨b1, b2⟩ | ⟨b1, rfl⟩
      · exact h.nums k d y (by rw [List.getElem?_append_left a1]; exact a2) (by rw [List.getElem?_append_left b1]; exact b2)
      · omega
    · rcases xbcZ hy with ⟨b1, b2⟩ | ⟨b1, rfl⟩
      · omega
      · exact h.nums q.length c x (xbeZ _ _) (by rw [hl]; exact xbeZ _ _)
  · have hp := h.rows.put (k := q.length * 2 + 1) (x := c.sv) (y := sv) (b := s) (xd3Z _ _ c (xbeZ _ _)).2 hg hy hat
    have e1 : (fRows (q ++ [c])).set (q.length * 2 + 1) sv = fRows (q ++ [{ c with sv := sv }]) := by
      rw [xewZ, xewZ, List.set_append_right _ _ (by rw [xdbZ]; omega), xdbZ]
      simp [fRows]
    have e2 : (fVals (F ++ [x])).set (q.length * 2 + 1) s = fVals (F ++ [{ x with stk := s }]) := by
      rw [xd4Z, xd4Z, List.set_append_right _ _ (by rw [xdcZ]; omega), xdcZ, hl]
      simp [fVals]
    rw [e1, e2] at hp
    exact hp
theorem FRows.loc {W W' : World} {B : Nat} {q : List FV} {F : List Frm} {c : FV} {x : Frm} {s : List Val} (h : FRows W B (q ++ [c]) (F ++ [x])) (hg : W.grownBy W' c.lv.ownBlock) (hy : W'.ownsRow B 113 2 c.lv s.length (valCells s)) : FRows W' B (q ++ [c]) (F ++ [{ x with loc := s }]) := by
  have hl : q.length = F.length := by have := h.len; simp at this; exact this
  refine ⟨by simp [hl], fun k d y hd hy => ?_, ?_⟩
  · rcases xbcZ hy with ⟨b1, b2⟩ | ⟨b1, rfl⟩
    · exact h.nums k d y hd (by rw [List.getElem?_append_left b1]; exact b2)
    · exact h.nums k d x hd (by rw [b1]; exact xbeZ _ _)
  · have hp := h.rows.put (k := q.length * 2) (x := c.lv) (y := c.lv) (b := s) (xd3Z _ _ c (xbeZ _ _)).1 hg hy (fun g hg => .inl hg)
    have e1 : (fRows (q ++ [c])).set (q.length * 2) c.lv = fRows (q ++ [c]) := by
      rw [xewZ, List.set_append_right _ _ (by rw [xdbZ]; omega), xdbZ]
      simp [fRows]
    have e2 : (fVals (F ++ [x])).set (q.length * 2) s = fVals (F ++ [{ x with loc := s }]) := by
      rw [xd4Z, xd4Z, List.set_append_right _ _ (by rw [xdcZ]; omega), xdcZ, hl]
      simp [fVals]
    rw [e1, e2] at hp
    exact hp
theorem FRows.pc {W : World} {B : Nat} {q : List FV} {F : List Frm} {c : FV} {x : Frm} (h : FRows W B (q ++ [c]) (F ++ [x])) (n : Int) : FRows W B (q ++ [{ c with pc := n }]) (F ++ [{ x with pc := n }]) := by
  have hl : q.length = F.length := by have := h.len; simp at this; exact this
  refine ⟨by simp [hl], fun k d y hd hy => ?_, ?_⟩
  · rcases xbcZ hd with ⟨a1, a2⟩ | ⟨a1, rfl⟩
    · rcases xbcZ hy with ⟨b1, b2⟩ | ⟨b1, rfl⟩
      · exact h.nums k d y (by rw [List.getElem?_append_left a1]; exact a2) (by rw [List.getElem?_append_left b1]; exact b2)
      · omega
    · rcases xbcZ hy with ⟨b1, b2⟩ | ⟨b1, rfl⟩
      · omega
      · exact ⟨(h.nums q.length c x (xbeZ _ _) (by rw [hl]; exact xbeZ _ _)).1, rfl⟩
  · have e1 : fRows (q ++ [{ c with pc := n }]) = fRows (q ++ [c]) := by simp [fRows]
    have e2 : fVals (F ++ [{ x with pc := n }]) = fVals (F ++ [x]) := by simp [fVals]
    rw [e1, e2]
    exact h.rows
theorem FRows.cut {W : World} {B : Nat} {q : List FV} {F : List Frm} {c : FV} {x : Frm} (h : FRows W B (q ++ [c]) (F ++ [x])) : FRows W B q F := by
  have hl : q.length = F.length := by have := h.len; simp at this; exact this
  refine ⟨hl, fun k d y hd hy => h.nums k d y (by rw [List.getElem?_append_left (xadZ hd)]; exact hd) (by rw [List.getElem?_append_left (xadZ hy)]; exact hy), ?_⟩
  have := h.rows.take (q.length * 2)
  rw [xewZ, xd4Z, List.take_append_of_le_length (by rw [xdbZ]; omega), List.take_append_of_le_length (by rw [xdcZ]; omega), List.take_of_length_le (by rw [xdbZ]; omega), List.take_of_length_le (by rw [xdcZ]; omega)] at this
  exact this
theorem xkmZ {W : World} {B : Nat} {fv : Value} {q : List FV} {F : List Frm} (h : W.ownsRow B 89 4 fv q.length (fCells q)) (hr : FRows W B q F) : FrmsAt W fv F := by
  have hlen := hr.len
  rcases h.2 with ⟨rfl, h0⟩ | ⟨g, cap, cur, rfl, hb, hg, hn, hc, hs, ht⟩
  · have : F = [] := List.eq_nil_of_length_eq_zero (by omega)
    subst this
    exact ⟨none, 0, rfl, Nat.zero_le _, Nat.zero_le _, fun k x hk => by simp at hk⟩
  · refine ⟨_, cap, by rw [hlen], by omega, by omega, fun k x hk => ?_⟩
    have hk2 := xadZ hk
    obtain ⟨c, hcq⟩ := xagZ (l := q) (k := k) (by omega)
    obtain ⟨e1, e2⟩ := hr.nums k c x hcq hk
    obtain ⟨a0, a1, a2, a3⟩ := xd2Z q k c hcq
    obtain ⟨r1, r2⟩ := xd3Z q k c hcq
    obtain ⟨v1, v2⟩ := xjtZ F k x hk
    have o1 := hr.rows.each _ _ _ r1 v1
    have o2 := hr.rows.each _ _ _ r2 v2
    rw [← ht, List.getElem?_take_of_lt (by omega)] at a0 a1 a2 a3
    refine ⟨g, 0, c.lv, c.sv, rfl, xacZ hg, ?_, ?_, ?_, ?_, xb8Z o1, xdiZ o1, xb8Z o2, xdiZ o2⟩
    · rw [xaaZ hg, ← e1]; simpa using a0
    · rw [xaaZ hg, ← e2]; simpa using a1
    · rw [xaaZ hg]; simpa using a2
    · rw [xaaZ hg]; simpa using a3
structure MOwn (W : World) (B : Nat) (fv bv iv ov : Value) (q : List FV) (qb : List Value) (M : Mach) : Prop where
  fr : W.ownsRow B 89 4 fv q.length (fCells q)
  frs : FRows W B q M.frames
  bl : W.ownsRow B 46 1 bv qb.length qb
  rows : BRows W B (iv :: ov :: qb) (M.inp :: M.out :: M.blocks)
theorem MOwn.low {W : World} {B B' : Nat} {fv bv iv ov : Value} {q : List FV} {qb : List Value} {M : Mach} (h : MOwn W B fv bv iv ov q qb M) (hB : B' ≤ B) : MOwn W B' fv bv iv ov q qb M := ⟨xapZ h.fr hB, h.frs.low hB, xapZ h.bl hB, h.rows.low hB⟩
theorem MOwn.below {W W' : World} {B : Nat} {fv bv iv ov : Value} {q : List FV} {qb : List Value} {M : Mach} (h : MOwn W B fv bv iv ov q qb M) (hb : Below W.heap.size W W') : MOwn W' B fv bv iv ov q qb M :=
  ⟨xaoZ h.fr fun g hg => hb.block g (h.fr.lt g hg).2, h.frs.below hb, xaoZ h.bl fun g hg => hb.block g (h.bl.lt g hg).2, h.rows.below hb⟩
theorem MOwn.keep {W W' : World} {B : Nat} {t : TypeId} {fv bv iv ov : Value} {q : List FV} {qb : List Value} {M : Mach} {row : Option Nat} (h : MOwn W B fv bv iv ov q qb M) (hg : W.grownBy W' row) (ht : TyRow W row t) (h1 : t ≠ 89) (h2 : t ≠ 113) (h3 : t ≠ 46) (h4 : t ≠ 3) : MOwn W' B fv bv iv ov q qb M :=
  ⟨xasZ h.fr hg ht h1, h.frs.keep hg ht h2, xasZ h.bl hg ht h3, h.rows.keep hg ht h4⟩
theorem xfxZ {W : World} {B : Nat} {x : Value} {q : List Value} {b : List Int} {L : List (List Int)} (h : BRows W B (x :: q) (b :: L)) : BRows W B q L :=
  ⟨by have := h.len; simpa using this, fun k y c h1 h2 => h.each (k + 1) y c (by simpa using h1) (by simpa using h2), fun i j y z g h1 h2 g1 g2 => by have := h.apart (i + 1) (j + 1) y z g (by simpa using h1) (by simpa using h2) g1 g2; omega, fun c hc => h.small c (by simp [hc])⟩
theorem MOwn.inp {W : World} {B : Nat} {fv bv iv ov : Value} {q : List FV} {qb : List Value} {M : Mach} (h : MOwn W B fv bv iv ov q qb M) : W.ownsRow B 3 1 iv M.inp.length (M.inp.map (Value.int .i64)) := h.rows.each 0 _ _ rfl rfl
theorem MOwn.out {W : World} {B : Nat} {fv bv iv ov : Value} {q : List FV} {qb : List Value} {M : Mach} (h : MOwn W B fv bv iv ov q qb M) : W.ownsRow B 3 1 ov M.out.length (M.out.map (Value.int .i64)) := h.rows.each 1 _ _ rfl rfl
theorem MOwn.blks {W : World} {B : Nat} {fv bv iv ov : Value} {q : List FV} {qb : List Value} {M : Mach} (h : MOwn W B fv bv iv ov q qb M) : xdwZ W B bv M.blocks := ⟨qb, h.bl, xfxZ (xfxZ h.rows)⟩
theorem MOwn.at_ {W : World} {B : Nat} {fv bv iv ov : Value} {q : List FV} {qb : List Value} {M : Mach} (h : MOwn W B fv bv iv ov q qb M) : MachAt W fv bv iv ov M :=
  ⟨xkmZ h.fr h.frs, xbjZ h.blks, xezZ rfl h.inp, xezZ rfl h.out⟩
end Go.Proofs.YtmjjkenblfndgaaGreat


/- block.New. -/
namespace Go.Proofs.YtmjjkenblfndgaaGreat
open Go.RowKit
set_option linter.unusedSimpArgs false
set_option linter.unusedVariables false
theorem xfhZ {w : World} {b : Nat} {x : Value} (h : w.cell? ⟨b, 0, none⟩ = some x) : ∀ (j : Nat) (u : Value), [x][j]? = some u → w.cell? ((⟨b, 0, none⟩ : Addr).add j) = some u := by
  intro j u hj
  match j, hj with
  | 0, hj => simp at hj; subst hj; exact h
  | j + 1, hj => simp at hj
theorem new_end {w2 w3 w4 : World} {B Bc Br m n nn : Nat} {q q' : List Value} {L : List (List Int)} {u : Value} (hrs : BRows w2 Bc q L) (hBc : B ≤ Bc) (h23 : Below w2.heap.size w2 w3) (hm : w3.heap[m]? = some (.cells ((List.replicate n (0 : Int)).map (Value.int .i64)).toArray 3 (0, 0))) (hBm : B ≤ m) (hap : m < Bc ∨ w2.heap.size ≤ m)
    (hrow : w2.ownsRow Br 46 1 u nn q') (hg : w3.grownBy w4 u.ownBlock) (hn : n ≤ 40) : BRows w4 B (q ++ [.slice (some ⟨m, 0, none⟩) n n]) (L ++ [List.replicate n 0]) := by
  have hty : ∀ (g : Nat) (cs : Array Value), w3.heap[g]? = some (.cells cs 3 (0, 0)) → some g ≠ u.ownBlock := fun g cs hg1 e => by
    have hgl := (hrow.lt g e.symm).2
    have hg2 := (h23.block g hgl).symm.trans hg1
    exact xboZ hrow hg2 (by decide) e
  have h3 := hrs.below h23
  have h4 : BRows w4 Bc q L := h3.same fun k x g h1 hg1 => by
    obtain ⟨_, h5, cs, h6⟩ := h3.lt h1 hg1
    exact hg.block g h5 (hty g cs h6)
  have hm4 : w4.heap[m]? = _ := (hg.block m (xacZ hm) (hty m _ hm)).trans hm
  refine (h4.low hBc).snoc' ?_ (fun k y g h1 hg1 e => ?_) (by simp; omega)
  · refine ⟨by simp, .inr ⟨m, n, _, by simp, hBm, hm4, by simp, by unfold maxLen; omega, by simp, by simp⟩⟩
  · have e' : m = g := by simpa [Value.ownBlock] using e
    obtain ⟨h5, h6, _⟩ := hrs.lt h1 hg1
    omega
theorem bNew_ok (L : List (List Int)) (n : Nat) (v : Value) (w : World) (h : BlksAt w v L) (he : xbsZ L n = 0) : Calls Tryz.prog 226 #[v, .int .i64 n] w fun e w' => ∃ u, e = .returned (.tuple #[u, .int .i64 ((L.length : Int) + 1), .int .i64 0]) ∧ xdwZ w' w.heap.size u (L ++ [List.replicate n 0]) ∧ Below w.heap.size w w' := by
  obtain ⟨i0, hi, hz0, hz1, hz2⟩ := info_parts xe9Z
  obtain ⟨i1, hj, hy0, hy1, hy2⟩ := info_parts xjuZ
  have hbe : blkErr L = 0 := by
    unfold xbsZ at he
    by_cases hb : blkErr L = 0
    · exact hb
    · rw [if_pos hb] at he; exact absurd he hb
  obtain ⟨h8, h40, _⟩ := xceZ hbe
  have hsm : ∀ b ∈ L, b.length ≤ 40 := fun b hb => by
    obtain ⟨i, hi⟩ := List.getElem?_of_mem hb
    have := xfyZ hi
    omega
  unfold xbsZ at he
  rw [if_neg (by simpa using hbe), if_neg (by omega)] at he
  have hsp : L.length ≠ 8 ∧ (n : Int) ≤ 40 - (xayZ L : Int) := by
    by_cases hc : L.length = 8 ∨ 40 - (xayZ L : Int) < (n : Int)
    · rw [if_pos hc] at he; cases he
    · omega
  have hCK := xfuZ L v w h
  rw [hbe] at hCK
  have HCK := hideP hCK
  obtain ⟨p, cap, hv, _, _⟩ := id h
  subst hv
  have hl8 : ((L.length : Int) == 8) = false := by simp; omega
  have hn0 : ¬ (n : Int) < 0 := by omega
  have hng : ¬ (40 - (xayZ L : Int) < (n : Int)) := by omega
  have hn40 : n ≤ 40 := by omega
  obtain ⟨AZ, hAZ⟩ : ∃ AZ, ((List.replicate n (0 : Int)).map (Value.int .i64)).toArray = AZ := ⟨_, rfl⟩
  have mS := make_is 46 3 i0 (.int .i64 0) Tryz.underlying46 hi hz0 hz1 n (by rw [hz2]; omega) (by unfold maxLen; omega) AZ (by rw [xmcZ, ← hAZ])
  have H := hideP h
  have HSM := hideP hsm
  have HAZ := hideP hAZ
  clear hCK h he hbe hsm hAZ hi hz0 hz1 hz2
  go_enter Tryz.func226, Tryz.ntmps226
  go_wp2_with (first | (go_at_call 137; refine HCK.out.mono ?_; rintro e w1 ⟨rfl, hb1⟩) | (go_at_call 172; refine (xghZ L _ _ (H.out.below hb1) h8).mono ?_; rintro e w' ⟨rfl, hw⟩; have hw := hw.symm; subst hw))
  have hFB : ∀ W, Below w1.heap.size w1 W → Calls Tryz.prog 87 #[.slice p L.length cap] W fun e w' => ∃ q pu cu, e = .returned (.slice pu q.length cu) ∧ q.length = L.length ∧ w'.ownsRow W.heap.size 46 1 (.slice pu q.length cu) q.length q ∧ BRows w' W.heap.size q L ∧ Below W.heap.size W w' := fun W hW => by
    refine (xeyZ L _ W ((H.out.below hb1).below hW) h8 HSM.out).mono ?_
    rintro e w' ⟨u, rfl, ⟨q, h1, h2⟩, h3⟩
    obtain ⟨pu, cu, rfl⟩ := xaiZ h1
    exact ⟨q, pu, cu, rfl, h2.len, h1, h2, h3⟩
  have HFB := hideP hFB
  clear hFB HCK
  have hs1 := hb1.size
  go_region_law
    (first
      | (refine xd0Z rfl _ _ 45 rfl w.heap.size 46 i1 (.slice none 0 0) 1 24 Tryz.underlying45 hj hy0 hy1 hy2 rfl (by decide) _ _ _ rfl (xapZ ((HROW.out.alloc _).alloc _) (by simp; omega)) ⟨w2.heap.size + 1, 0, none⟩ 1 1 [.slice (some ⟨w2.heap.size, 0, none⟩) n n] rfl rfl (xfhZ (by rw [xaaZ (xa1Z w2 (.cells AZ 3) (.cells #[.slice (some ⟨w2.heap.size, 0, none⟩) n n] 46)) 0]; rfl)) (by simp [Value.oneCell']) (by unfold maxLen; omega) (by omega) (by simp; omega) ?_; intro v' w4 hown4 hg4; obtain ⟨g4, cap4, hv4⟩ := ownsRow_succ hown4; subst hv4)
      | (refine xd0Z rfl _ _ 45 rfl w.heap.size 46 i1 (.slice none 0 0) 1 24 Tryz.underlying45 hj hy0 hy1 hy2 rfl (by decide) _ _ _ rfl (xapZ (HROW.out.alloc _) (by simp; omega)) ⟨w2.heap.size, 0, none⟩ 1 1 [.slice (some ⟨w1.heap.size, 0, none⟩) n n] rfl rfl (xfhZ (by rw [xaaZ (World.alloc_heap_new w2 (.cells #[.slice (some ⟨w1.heap.size, 0, none⟩) n n] 46)) 0]; rfl)) (by simp [Value.oneCell']) (by unfold maxLen; omega) (by omega) (by simp; omega) ?_; intro v' w4 hown4 hg4; obtain ⟨g4, cap4, hv4⟩ := ownsRow_succ hown4; subst hv4)
      | (refine xd0Z rfl _ _ 45 rfl w.heap.size 46 i1 (.slice none 0 0) 1 24 Tryz.underlying45 hj hy0 hy1 hy2 rfl (by decide) _ _ _ rfl (xapZ HROW.out (by simp; omega)) ⟨w1.heap.size + 1, 0, none⟩ 1 1 [.slice (some ⟨w1.heap.size, 0, none⟩) n n] rfl rfl (xfhZ ((hb2.cell (p := ⟨w1.heap.size + 1, 0, none⟩) (by simp)).trans (by exact xaaZ (k := w1.heap.size + 1) (xa1Z w1 (.cells AZ 3) (.cells #[.slice (some ⟨w1.heap.size, 0, none⟩) n n] 46)) 0))) (by simp [Value.oneCell']) (by unfold maxLen; omega) (by omega) (by omega) ?_; intro v' w4 hown4 hg4; obtain ⟨g4, cap4, hv4⟩ := ownsRow_succ hown4; subst hv4)
      | (go_simp; go_at_call 87; refine (HFB.out _ (by first | exact (Below.refl _ w1).drew | exact ((Below.refl _ w1).drew).alloc (by simp) _ | exact (((Below.refl _ w1).drew).alloc (by simp) _).alloc (by simp) _)).mono ?_; rintro e w2 ⟨q, pu, cu, rfl, hql, hrow, hrs, hb2⟩; have HROW := hideP hrow; have HRS := hideP hrs; have HQL := hideP hql; have hq7 : q.length ≤ 7 := (by omega); have hs2 := hb2.size; simp at hs2; clear hrow hrs hql))
  · go_wp2
    go_ret3
    have hA : ((w2.alloc (.cells AZ 3)).alloc (.cells #[.slice (some ⟨w2.heap.size, 0, none⟩) n n] 46)).heap[w2.heap.size]? = some (.cells ((List.replicate n (0 : Int)).map (Value.int .i64)).toArray 3 (0, 0)) := by rw [HAZ.out]; exact xalZ (World.alloc_heap_new w2 _) _
    have h23 : Below w2.heap.size w2 ((w2.alloc (.cells AZ 3)).alloc (.cells #[.slice (some ⟨w2.heap.size, 0, none⟩) n n] 46)) := ((Below.refl _ w2).alloc (Nat.le_refl _) _).alloc (by simp) _
    have hend := new_end (B := w.heap.size) HRS.out hs1 h23 hA (by omega) (.inr (Nat.le_refl _)) HROW.out hg4 hn40
    refine ⟨_, by rw [← HQL.out]; rfl, ⟨_, by rw [List.length_append, List.length_singleton]; exact hown4, hend⟩, ?_⟩
    exact ((xaeZ hb1 (((Below.refl _ w1).drew).trans (show Below w1.heap.size w1.drew w2 from hb2))).trans (h23.mono (by omega))).grown hg4 (by simp; omega) (fun k hk => by have := (HROW.out.lt k hk).1; simp at this; omega)
  · go_wp2
    go_ret3
    have hx : w2.heap[w1.heap.size]? = some (.cells AZ 3 (0, 0)) := (hb2.block _ (by simp)).trans (World.alloc_heap_new w1 (.cells AZ 3))
    have hA : (w2.alloc (.cells #[.slice (some ⟨w1.heap.size, 0, none⟩) n n] 46)).heap[w1.heap.size]? = some (.cells ((List.replicate n (0 : Int)).map (Value.int .i64)).toArray 3 (0, 0)) := by rw [HAZ.out]; exact xalZ hx _
    have h23 : Below w2.heap.size w2 (w2.alloc (.cells #[.slice (some ⟨w1.heap.size, 0, none⟩) n n] 46)) := (Below.refl _ w2).alloc (Nat.le_refl _) _
    have hend := new_end (B := w.heap.size) HRS.out (by simp; omega) h23 hA (by omega) (.inl (by simp)) HROW.out hg4 hn40
    refine ⟨_, by rw [← HQL.out]; rfl, ⟨_, by rw [List.length_append, List.length_singleton]; exact hown4, hend⟩, ?_⟩
    have hb12 : Below w1.heap.size w1 w2 := (((Below.refl _ w1).alloc (Nat.le_refl _) _).drew).trans (hb2.mono (by simp))
    exact ((xaeZ hb1 hb12).trans (h23.mono (by omega))).grown hg4 (by simp; omega) (fun k hk => by have := (HROW.out.lt k hk).1; simp at this; omega)
  · go_wp2
    go_ret3
    have hx : w2.heap[w1.heap.size]? = some (.cells AZ 3 (0, 0)) := (hb2.block _ (by simp; omega)).trans (xalZ (World.alloc_heap_new w1 (.cells AZ 3)) _)
    have hA : w2.heap[w1.heap.size]? = some (.cells ((List.replicate n (0 : Int)).map (Value.int .i64)).toArray 3 (0, 0)) := by rw [HAZ.out]; exact hx
    have hend := new_end (B := w.heap.size) HRS.out (by simp; omega) (Below.refl _ w2) hA (by omega) (.inl (by simp; omega)) HROW.out hg4 hn40
    refine ⟨_, by rw [← HQL.out]; rfl, ⟨_, by rw [List.length_append, List.length_singleton]; exact hown4, hend⟩, ?_⟩
    have hb12 : Below w1.heap.size w1 w2 := ((((Below.refl _ w1).alloc (Nat.le_refl _) _).alloc (by simp) _).drew).trans (hb2.mono (by simp; omega))
    exact (xaeZ hb1 hb12).grown hg4 (by omega) (fun k hk => by have := (HROW.out.lt k hk).1; simp at this; omega)
theorem newErr_ge {L : List (List Int)} {size : Int} (h : xbsZ L size = 0) : 0 ≤ size := by
  unfold xbsZ at h
  by_cases hb : blkErr L = 0
  · rw [if_neg (by simpa using hb)] at h
    by_cases h0 : size < 0
    · rw [if_pos h0] at h; cases h
    · omega
  · rw [if_pos hb] at h; exact absurd h hb
theorem bNew_any (L : List (List Int)) (size : Int) (hsz : -9223372036854775808 ≤ size ∧ size ≤ 9223372036854775807) (v : Value) (w : World) (h : BlksAt w v L) : Calls Tryz.prog 226 #[v, .int .i64 size] w fun e w' => ∃ u, e = .returned (.tuple #[u, .int .i64 (xg9Z L size), .int .i64 (xbsZ L size)]) ∧ xdwZ w' w.heap.size u (newR L size) ∧ Below w.heap.size w w' := by
  by_cases he : xbsZ L size = 0
  · obtain ⟨n, rfl⟩ : ∃ n : Nat, size = n := ⟨size.toNat, by have := newErr_ge he; omega⟩
    rw [he, xg9Z, if_pos he, newR, if_pos he, newL, Int.toNat_natCast]
    exact bNew_ok L n v w h he
  · rw [xg9Z, if_neg he, newR, if_neg he]
    have HCK := hideP (xfuZ L v w h)
    obtain ⟨p, cap, hv, hm, _⟩ := id h
    unfold maxLen at hm
    subst hv
    by_cases hb : blkErr L = 0
    · rw [hb] at HCK
      obtain ⟨h8, h40, _⟩ := xceZ hb
      have hne : xbsZ L size = if size < 0 then 3 else if L.length = 8 ∨ 40 - (xayZ L : Int) < size then 7 else 0 := by unfold xbsZ; rw [if_neg (by simpa using hb)]
      have H := hideP h
      clear h hb
      by_cases h0 : size < 0
      · rw [hne, if_pos h0]
        clear hne he
        go_enter Tryz.func226, Tryz.ntmps226
        go_wp2_with (go_at_call 137; refine HCK.out.mono ?_; rintro e w1 ⟨rfl, hb1⟩)
        go_ret3
        exact ⟨_, rfl, xdxZ _ _, hb1⟩
      · have hc : L.length = 8 ∨ 40 - (xayZ L : Int) < size := by
          by_cases hc : L.length = 8 ∨ 40 - (xayZ L : Int) < size
          · exact hc
          · exfalso; apply he; rw [hne, if_neg h0, if_neg hc]
        rw [hne, if_neg h0, if_pos hc]
        clear hne he
        by_cases hl : L.length = 8
        · have hl8 : ((L.length : Int) == 8) = true := by simp; omega
          clear hl hc
          go_enter Tryz.func226, Tryz.ntmps226
          go_wp2_with (go_at_call 137; refine HCK.out.mono ?_; rintro e w1 ⟨rfl, hb1⟩)
          go_ret3
          exact ⟨_, rfl, xdxZ _ _, hb1⟩
        · have hl8 : ((L.length : Int) == 8) = false := by simp; omega
          have hgt : 40 - (xayZ L : Int) < size := by omega
          clear hl hc
          go_enter Tryz.func226, Tryz.ntmps226
          go_wp2_with (first | (go_at_call 137; refine HCK.out.mono ?_; rintro e w1 ⟨rfl, hb1⟩) | (go_at_call 172; refine (xghZ L _ _ (H.out.below hb1) h8).mono ?_; rintro e w' ⟨rfl, hw⟩; have hw := hw.symm; subst hw))
          go_ret3
          exact ⟨_, rfl, xdxZ _ _, hb1⟩
    · have hne : xbsZ L size = blkErr L := by unfold xbsZ; rw [if_pos hb]
      have he' : (blkErr L != 0) = true := by simp [hb]
      rw [hne]
      clear hne he hb h
      go_enter Tryz.func226, Tryz.ntmps226
      go_wp2_with (go_at_call 137; refine HCK.out.mono ?_; rintro e w1 ⟨rfl, hb1⟩)
      go_ret3
      exact ⟨_, rfl, xdxZ _ _, hb1⟩
end Go.Proofs.YtmjjkenblfndgaaGreat


/- fresh.Machine: a machine's own copy. -/
namespace Go.Proofs.YtmjjkenblfndgaaGreat
open Go.RowKit
set_option linter.unusedSimpArgs false
set_option linter.unusedVariables false
theorem xh6Z (l : List Val) (v : Value) (w : World) (h : ValsAt w v l) (hn : NilOk v) (hl : l.length ≤ 100) : Calls Tryz.prog 122 #[v] w fun e w' => ∃ u, e = .returned u ∧ w'.ownsRow w.heap.size 113 2 u l.length (valCells l) ∧ Below w.heap.size w w' := by
  have h' := h
  obtain ⟨p, c, rfl, hm, hc⟩ := h'
  cases p with
  | none =>
    have hl0 : l = [] := by
      cases l with
      | nil => rfl
      | cons o r => obtain ⟨b, off, hb, _⟩ := hc 0 o rfl; cases hb
    subst hl0
    clear hc h
    have heq := fun W => Lib.run_eql_slice_nil (P := Tryz.prog) W 87 113 none 0 c 0 0 Tryz.underlying87
    go_enter Tryz.func122, Tryz.ntmps122
    go_wp2
    go_ret
    exact ⟨_, rfl, World.ownsRow_nil _ _ _ _, Below.refl _ _⟩
  | some ad =>
    have hB := (Below.refl w.heap.size w).alloc (Nat.le_refl _) (.cells #[] 113)
    have hrow := World.ownsRow_made (base := w.heap.size) (e := 113) (size := 2) w #[] 0 (Nat.le_refl _) (by unfold maxLen; omega) rfl
    have HU := hideP (h.below hB)
    have heq := fun W => Lib.run_eql_slice_nil (P := Tryz.prog) W 87 113 (some ad) l.length c 0 0 Tryz.underlying87
    clear hc h
    go_enter Tryz.func122, Tryz.ntmps122
    go_wp2_with (at_builtin; refine xfsZ rfl _ _ rfl w.heap.size _ _ _ rfl hrow _ l rfl HU.out (xavZ _ _ _) (by unfold maxLen; omega) (by omega) (by simp) ?_; intro v2 w2 hown2 hg2 hat2; have HO2 := hideP hown2; clear hown2)
    go_ret
    refine ⟨_, rfl, ?_, hB.grown hg2 (by simp) (fun k hk => (hrow.lt k hk).1)⟩
    have := HO2.out
    simpa using this
def zFV : FV := ⟨0, 0, .slice none 0 0, .slice none 0 0⟩
theorem infoFrm : (Tryz.prog.info? 89).map (fun i => (i.zero, i.size, i.bytes)) = some (some (.agg #[.int .i64 0, .int .i64 0, .slice none 0 0, .slice none 0 0]), 4, 64) := by kernel_rfl
theorem xpyZ (n : Nat) : (madeCells (Value.agg #[.int .i64 0, .int .i64 0, .slice none 0 0, .slice none 0 0]).cells (n * 4)).toList = fCells (List.replicate n zFV) := by
  have h : (Value.agg #[.int .i64 0, .int .i64 0, .slice none 0 0, .slice none 0 0]).cells = #[.int .i64 0, .int .i64 0, .slice none 0 0, .slice none 0 0] := rfl
  rw [h]
  apply List.ext_getElem?
  intro k
  by_cases hk : k < n * 4
  · have hq : k / 4 < n := by omega
    obtain ⟨a0, a1, a2, a3⟩ := xd2Z (List.replicate n zFV) (k / 4) zFV (by simp [hq])
    have hm : k % 4 = 0 ∨ k % 4 = 1 ∨ k % 4 = 2 ∨ k % 4 = 3 := by omega
    rcases hm with hm | hm | hm | hm
    · rw [show k / 4 * 4 = k by omega] at a0
      rw [a0]; simp [madeCells, hk, hm, zFV]
    · rw [show k / 4 * 4 + 1 = k by omega] at a1
      rw [a1]; simp [madeCells, hk, hm, zFV]
    · rw [show k / 4 * 4 + 2 = k by omega] at a2
      rw [a2]; simp [madeCells, hk, hm, zFV]
    · rw [show k / 4 * 4 + 3 = k by omega] at a3
      rw [a3]; simp [madeCells, hk, hm, zFV]
  · rw [List.getElem?_eq_none (by simp [madeCells]; omega), List.getElem?_eq_none (by rw [xbxZ]; simp; omega)]
theorem fCells_set (q r : List FV) (d c : FV) : ((((fCells (q ++ d :: r)).set (q.length * 4) (.int .i64 c.fn)).set (q.length * 4 + 1) (.int .i64 c.pc)).set (q.length * 4 + 2) c.lv).set (q.length * 4 + 3) c.sv = fCells (q ++ c :: r) := by
  have e : ∀ (l : List Value) (i : Nat) (u : Value), (fCells q ++ l).set (q.length * 4 + i) u = fCells q ++ l.set i u := fun l i u => by
    rw [List.set_append_right _ _ (by rw [xbxZ]; omega), xbxZ, Nat.add_sub_cancel_left]
  have e0 : ∀ (l : List Value) (u : Value), (fCells q ++ l).set (q.length * 4) u = fCells q ++ l.set 0 u := fun l u => e l 0 u
  rw [xb7Z, xb7Z, e0, e, e, e]
  simp [fCells]
theorem four_set {W : World} {B R n : Nat} {q r : List FV} {d c : FV} (h : W.ownsRow B 89 4 (.slice (some ⟨R, 0, none⟩) n n) n (fCells (q ++ d :: r))) : ((((W.setCell ⟨R, q.length * 4, none⟩ (.int .i64 c.fn)).setCell ⟨R, q.length * 4 + 1, none⟩ (.int .i64 c.pc)).setCell ⟨R, q.length * 4 + 2, none⟩ c.lv).setCell ⟨R, q.length * 4 + 3, none⟩ c.sv).ownsRow B 89 4 (.slice (some ⟨R, 0, none⟩) n n) n (fCells (q ++ c :: r)) := by
  rw [← fCells_set q r d c]
  exact xbpZ (xbpZ (xbpZ (xbpZ h _ _) _ _) _ _) _ _
theorem xkkZ (W : World) (R i : Nat) (a b c d : Value) : W.grownBy ((((W.setCell ⟨R, i, none⟩ a).setCell ⟨R, i + 1, none⟩ b).setCell ⟨R, i + 2, none⟩ c).setCell ⟨R, i + 3, none⟩ d) (some R) :=
  (((xakZ W ⟨R, i, none⟩ a).trans (xakZ _ ⟨R, i + 1, none⟩ b)).trans (xakZ _ ⟨R, i + 2, none⟩ c)).trans (xakZ _ ⟨R, i + 3, none⟩ d)
theorem xgrZ {w : World} {R i : Nat} {a b c d v : Value} {p : Addr} (h : w.cell? p = some v) (hn : ¬ p.block = R) : ((((w.setCell ⟨R, i, none⟩ a).setCell ⟨R, i + 1, none⟩ b).setCell ⟨R, i + 2, none⟩ c).setCell ⟨R, i + 3, none⟩ d).cell? p = some v := by
  have key : ∀ (W : World) (j : Nat) (u : Value), W.cell? p = some v → (W.setCell ⟨R, j, none⟩ u).cell? p = some v := fun W j u h => (World.cell?_of_block (Below.heap_setCell W _ u p.block hn)).trans h
  exact key _ _ _ (key _ _ _ (key _ _ _ (key _ _ _ h)))
theorem xklZ (F : List Frm) (v : Value) (w : World) (h : FrmsAt w v F) (h6 : F.length ≤ 6) (hsm : ∀ x ∈ F, x.loc.length ≤ 20 ∧ x.stk.length ≤ 20) : Calls Tryz.prog 86 #[v] w fun e w' => ∃ u, e = .returned u ∧ ∃ q, w'.ownsRow w.heap.size 89 4 u q.length (fCells q) ∧ FRows w' w.heap.size q F ∧ Below w.heap.size w w' := by
  obtain ⟨i0, hi, hz0, hz1, hz2⟩ := info_parts infoFrm
  obtain ⟨p, cap, hv, -, -, -⟩ := id h
  subst hv
  have H := hideP h
  have HSM := hideP hsm
  clear h hsm
  go_enter Tryz.func86, Tryz.ntmps86
  go_wp2_with (at_make; refine wpList_make_full _ rfl _ _ 44 rfl w.heap.size 89 i0 (.agg #[.int .i64 0, .int .i64 0, .slice none 0 0, .slice none 0 0]) 4 Tryz.underlying44 hi hz0 hz1 _ _ _ _ F.length rfl rfl (by omega) (by omega) (by rw [hz2]; omega) (by unfold maxLen; omega) (Nat.le_refl _) ?_; intro w1 hown1 hg1; rw [xpyZ] at hown1; have b1 : Below w.heap.size w w1 := (Below.refl _ w).grown hg1 (Nat.le_refl _) (fun k hk => by cases hk); have HOWN1 := hideP hown1; clear hown1 hg1)
  go_loopw [4, 5, 11] (fun _ _ i wr => ∃ (k : Nat) (q : List FV), k ≤ F.length ∧ i = .int .i64 k ∧ q.length = k ∧ wr.ownsRow w.heap.size 89 4 (.slice (some ⟨w.heap.size, 0, none⟩) F.length F.length) F.length (fCells (q ++ List.replicate (F.length - k) zFV)) ∧ FRows wr w.heap.size q (F.take k) ∧ Below w.heap.size w wr) (fun _ _ i _ => F.length - (intOf i).toNat)
  case atStart => exact ⟨0, [], Nat.zero_le _, rfl, rfl, by simpa using HOWN1.out, by simpa using xiaZ w1 w.heap.size, b1⟩
  case round =>
    rename World => w2
    obtain ⟨k, q, hk, rfl, hql, hrow, hrs, b2⟩ := hrel
    by_cases hlt : k < F.length
    · have hlti : (k : Int) < (F.length : Int) := by omega
      obtain ⟨x, hx⟩ := xagZ hlt
      obtain ⟨p2, q2, he2, _, _, hc2⟩ := H.out.below b2
      cases he2
      obtain ⟨g, off, lv, sv, hp, hg, g0, g1, g2, g3, gl, gln, gs, gsn⟩ := hc2 k x hx
      subst hp
      obtain ⟨hl20, hs20⟩ := HSM.out x (List.mem_of_getElem? hx)
      obtain ⟨pl, cl, hlv, -, -⟩ := id gl
      obtain ⟨ps, cs, hsv, -, -⟩ := id gs
      subst hlv hsv
      obtain ⟨W3, hW3⟩ : ∃ W3, w2.alloc (.cells #[.int .i64 x.fn, .int .i64 x.pc, .slice pl x.loc.length cl, .slice ps x.stk.length cs] 89) = W3 := ⟨_, rfl⟩
      have b3 : Below w2.heap.size w2 W3 := by rw [← hW3]; exact (Below.refl _ w2).alloc (Nat.le_refl _) _
      have x3 : W3.heap[w2.heap.size]? = some (.cells #[.int .i64 x.fn, .int .i64 x.pc, .slice pl x.loc.length cl, .slice ps x.stk.length cs] 89 (0, 0)) := by rw [← hW3]; exact World.alloc_heap_new w2 _
      have l3 := xacZ x3
      have d0 : W3.cell? ⟨w2.heap.size, 0, none⟩ = some (.int .i64 x.fn) := xaaZ x3 0
      have d1 : W3.cell? ⟨w2.heap.size, 1, none⟩ = some (.int .i64 x.pc) := xaaZ x3 1
      have d2 : W3.cell? ⟨w2.heap.size, 2, none⟩ = some (.slice pl x.loc.length cl) := xaaZ x3 2
      have d3 : W3.cell? ⟨w2.heap.size, 3, none⟩ = some (.slice ps x.stk.length cs) := xaaZ x3 3
      have HCL : Hid (∀ W, Below W3.heap.size W3 W → Calls Tryz.prog 122 #[.slice pl x.loc.length cl] W fun e w' => ∃ u, e = .returned u ∧ w'.ownsRow W.heap.size 113 2 u x.loc.length (valCells x.loc) ∧ Below W.heap.size W w') := fun W hW => xh6Z x.loc _ W ((gl.below b3).below hW) gln (by omega)
      have HCS : Hid (∀ W, Below W3.heap.size W3 W → Calls Tryz.prog 122 #[.slice ps x.stk.length cs] W fun e w' => ∃ u, e = .returned u ∧ w'.ownsRow W.heap.size 113 2 u x.stk.length (valCells x.stk) ∧ Below W.heap.size W w') := fun W hW => xh6Z x.stk _ W ((gs.below b3).below hW) gsn (by omega)
      have HROW := hideP hrow
      have HRS := hideP hrs
      have HX := hideP hx
      have HQL := hideP hql
      clear hc2 gl gln gs gsn hx hrow hrs hql x3
      have hrep : List.replicate (F.length - k) zFV = zFV :: List.replicate (F.length - k - 1) zFV := by
        obtain ⟨m, hm⟩ : ∃ m, F.length - k = m + 1 := ⟨F.length - k - 1, by omega⟩
        rw [hm]; rfl
      have hrow3 := xaoZ HROW.out (W' := W3) fun j hj => b3.block j (HROW.out.lt j hj).2
      rw [hrep] at hrow3
      have HROW3 := hideP hrow3
      have hR3 : ∃ cur, W3.heap[w.heap.size]? = some (.cells cur 89 (0, 0)) ∧ ∀ (j : Nat) (u : Value), (fCells (q ++ zFV :: List.replicate (F.length - k - 1) zFV))[j]? = some u → cur[j]? = some u := by
        rcases hrow3.2 with ⟨h1, _⟩ | ⟨g', cap', cur, h1, _, h3, _, _, _, h7⟩
        · cases h1
        · cases h1
          refine ⟨cur, h3, fun j u hj => ?_⟩
          rw [← h7, List.getElem?_take] at hj
          split at hj
          · simpa using hj
          · cases hj
      obtain ⟨cur3, hR3, hcur3⟩ := hR3
      obtain ⟨a0, a1, a2, a3⟩ := xd2Z (q ++ zFV :: List.replicate (F.length - k - 1) zFV) q.length zFV (by simp)
      have hRl : w.heap.size < W3.heap.size := xacZ hR3
      have hRne : ¬ w2.heap.size = w.heap.size := by have := xacZ hR3; have h9 := (HROW.out.lt w.heap.size rfl).2; omega
      have r0 : W3.cell? ⟨w.heap.size, k * 4, none⟩ = some (.int .i64 0) := by rw [xaaZ hR3, ← HQL.out]; exact hcur3 _ _ a0
      have r1 : W3.cell? ⟨w.heap.size, k * 4 + 1, none⟩ = some (.int .i64 0) := by rw [xaaZ hR3, ← HQL.out]; exact hcur3 _ _ a1
      have r2 : W3.cell? ⟨w.heap.size, k * 4 + 2, none⟩ = some (.slice none 0 0) := by rw [xaaZ hR3, ← HQL.out]; exact hcur3 _ _ a2
      have r3 : W3.cell? ⟨w.heap.size, k * 4 + 3, none⟩ = some (.slice none 0 0) := by rw [xaaZ hR3, ← HQL.out]; exact hcur3 _ _ a3
      have HR3 := hideP hR3
      clear hrow3 hR3 hcur3 a0 a1 a2 a3 hrep
      go_wp2_with fail
      clear g0 g1 g2 g3
      go_region_held3 (fun W => W.cell? ⟨w2.heap.size, 0, none⟩ = some (.int .i64 x.fn) ∧ W.cell? ⟨w2.heap.size, 1, none⟩ = some (.int .i64 x.pc) ∧ W.cell? ⟨w2.heap.size, 2, none⟩ = some (.slice pl x.loc.length cl) ∧ W.cell? ⟨w2.heap.size, 3, none⟩ = some (.slice ps x.stk.length cs)) (first | go_keep | exact ⟨xgrZ h0 hRne, xgrZ h1 hRne, xgrZ h2 hRne, xgrZ h3 hRne⟩)
        (first
          | (go_at_call 122; (with_reducible refine (HCL.out _ ((Below.refl _ W3).drew)).mono ?_); rintro e w5 ⟨u5, rfl, r5, b5⟩; have b35 : Below W3.heap.size W3 w5 := ((Below.refl _ W3).drew).trans b5; obtain ⟨p5, c5, hu5⟩ := xaiZ r5; subst hu5; have R5 := hideP r5; clear r5; have f0 := (b35.cell (p := ⟨w2.heap.size, 0, none⟩) l3).trans d0; have f1 := (b35.cell (p := ⟨w2.heap.size, 1, none⟩) l3).trans d1; have f2 := (b35.cell (p := ⟨w2.heap.size, 2, none⟩) l3).trans d2; have f3 := (b35.cell (p := ⟨w2.heap.size, 3, none⟩) l3).trans d3)
          | (go_at_call 122; (with_reducible refine (HCS.out _ b35).mono ?_); rintro e w6 ⟨u6, rfl, r6, b6⟩; have b36 : Below W3.heap.size W3 w6 := b35.trans (b6.mono b35.size); obtain ⟨p6, c6, hu6⟩ := xaiZ r6; subst hu6; have R6 := hideP r6; clear r6; have h0 := (b36.cell (p := ⟨w2.heap.size, 0, none⟩) l3).trans d0; have h1 := (b36.cell (p := ⟨w2.heap.size, 1, none⟩) l3).trans d1; have h2 := (b36.cell (p := ⟨w2.heap.size, 2, none⟩) l3).trans d2; have h3 := (b36.cell (p := ⟨w2.heap.size, 3, none⟩) l3).trans d3; have s0 := (b36.cell (p := ⟨w.heap.size, k * 4, none⟩) hRl).trans r0; have s1 := (b36.cell (p := ⟨w.heap.size, k * 4 + 1, none⟩) hRl).trans r1; have s2 := (b36.cell (p := ⟨w.heap.size, k * 4 + 2, none⟩) hRl).trans r2; have s3 := (b36.cell (p := ⟨w.heap.size, k * 4 + 3, none⟩) hRl).trans r3; have y := Lib.frozen_of_heap ((b36.block _ hRl).trans HR3.out); have y0 := y (k * 4); have y1 := y (k * 4 + 1); have y2 := y (k * 4 + 2); have y3 := y (k * 4 + 3); clear y))
      go_wp2
      go_roundw
      case rel =>
        have hF4 := HROW3.out
        have hrow6 := xaoZ hF4 (W' := w6) fun j hj => b36.block j (hF4.lt j hj).2
        have hset := four_set (c := ⟨x.fn, x.pc, .slice p5 x.loc.length c5, .slice p6 x.stk.length c6⟩) hrow6
        have hgr := xkkZ w6 w.heap.size (q.length * 4) (.int .i64 x.fn) (.int .i64 x.pc) (.slice p5 x.loc.length c5) (.slice p6 x.stk.length c6)
        have hty : TyRow w6 (some w.heap.size) 89 := xatZ ((b36.block _ hRl).trans HR3.out)
        have hs3 := b3.size
        have hs5 := b35.size
        have hs6 := b6.size
        have hrs6 : FRows w6 w.heap.size (q ++ [⟨x.fn, x.pc, .slice p5 x.loc.length c5, .slice p6 x.stk.length c6⟩]) (F.take (k + 1)) := by
          rw [xazZ F k x HX.out]
          refine ((HRS.out.below b3).below b36).snoc (B' := W3.heap.size) rfl rfl (xaoZ R5.out fun j hj => b6.block j (R5.out.lt j hj).2) (xapZ R6.out hs5) (by have := b2.size; omega) (fun i y g h1 h2 => ?_) (fun g h1 h2 => ?_)
          · have := (HRS.out.rows.lt h1 h2).2.1; omega
          · have := (R5.out.lt g h1).2
            have := (R6.out.lt g h2).1
            omega
        refine ⟨k + 1, q ++ [⟨x.fn, x.pc, .slice p5 x.loc.length c5, .slice p6 x.stk.length c6⟩], by omega, by go_num, by rw [List.length_append, HQL.out]; rfl, ?_, ?_, ?_⟩
        · rw [HQL.out] at hset
          rw [List.append_assoc, List.singleton_append, show F.length - (k + 1) = F.length - k - 1 by omega]
          exact hset
        · rw [HQL.out] at hgr
          exact hrs6.keep hgr hty (by decide)
        · rw [HQL.out] at hgr
          exact (b2.trans ((xaeZ b3 b36).mono b2.size)).grown hgr (by have := b2.size; omega) (fun j hj => by cases hj; exact Nat.le_refl _)
      case measure => simp [intOf]; omega
    · have hlti : ¬ (k : Int) < (F.length : Int) := by omega
      have hkl : k = F.length := by omega
      subst hkl
      have HRS := hideP hrs
      have HROW := hideP hrow
      have HQL := hideP hql
      clear hrs hrow hql
      go_wp2
      go_ret
      have h1 := HRS.out
      rw [List.take_of_length_le (Nat.le_refl _)] at h1
      have h2 := HROW.out
      rw [Nat.sub_self, List.replicate_zero, List.append_nil] at h2
      exact ⟨_, rfl, q, by rw [HQL.out]; exact h2, h1, b2⟩
end Go.Proofs.YtmjjkenblfndgaaGreat


/- fresh.Machine: a machine's own copy. -/
namespace Go.Proofs.YtmjjkenblfndgaaGreat
open Go.RowKit
set_option linter.unusedSimpArgs false
set_option linter.unusedVariables false
structure SmallM (M : Mach) : Prop where
  fr : M.frames.length ≤ 6
  each : ∀ x ∈ M.frames, x.loc.length ≤ 20 ∧ x.stk.length ≤ 20
  bl : M.blocks.length ≤ 8
  cells : ∀ b ∈ M.blocks, b.length ≤ 40
  inp : M.inp.length ≤ 10
  out : M.out.length ≤ 10
theorem BRows.cons {W : World} {B : Nat} {q : List Value} {L : List (List Int)} {x : Value} {b : List Int} (h : BRows W B q L) (hx : W.ownsRow B 3 1 x b.length (b.map (Value.int .i64))) (hn : ∀ (k : Nat) (y : Value) (g : Nat), q[k]? = some y → y.ownBlock = some g → x.ownBlock ≠ some g) (hs : b.length ≤ 17592186044416) : BRows W B (x :: q) (b :: L) := by
  refine ⟨by simp [h.len], fun k y c hy hc => ?_, fun i j y z g hy hz gy gz => ?_, fun c hc => ?_⟩
  · cases k with
    | zero => simp at hy hc; subst hy hc; exact hx
    | succ k => exact h.each k y c (by simpa using hy) (by simpa using hc)
  · cases i with
    | zero =>
      cases j with
      | zero => rfl
      | succ j => simp at hy; subst hy; exact absurd gy (hn j z g (by simpa using hz) gz)
    | succ i =>
      cases j with
      | zero => simp at hz; subst hz; exact absurd gz (hn i y g (by simpa using hy) gy)
      | succ j => rw [h.apart i j y z g (by simpa using hy) (by simpa using hz) gy gz]
  · rcases List.mem_cons.1 hc with rfl | hc
    · exact hs
    · exact h.small c hc
theorem xd9Z {w : World} {R : Nat} {a b c d e f v : Value} {p : Addr} (h : w.cell? p = some v) (hn : ¬ p.block = R) : ((((((w.setCell ⟨R, 0, none⟩ a).setCell ⟨R, 1, none⟩ b).setCell ⟨R, 2, none⟩ c).setCell ⟨R, 3, none⟩ d).setCell ⟨R, 4, none⟩ e).setCell ⟨R, 5, none⟩ f).cell? p = some v := by
  have key : ∀ (W : World) (j : Nat) (u : Value), W.cell? p = some v → (W.setCell ⟨R, j, none⟩ u).cell? p = some v := fun W j u h => (World.cell?_of_block (Below.heap_setCell W _ u p.block hn)).trans h
  exact key _ _ _ (key _ _ _ (key _ _ _ (key _ _ _ (key _ _ _ (key _ _ _ h)))))
theorem xb2Z (W : World) (R : Nat) (a b c d e f : Value) : W.grownBy ((((((W.setCell ⟨R, 0, none⟩ a).setCell ⟨R, 1, none⟩ b).setCell ⟨R, 2, none⟩ c).setCell ⟨R, 3, none⟩ d).setCell ⟨R, 4, none⟩ e).setCell ⟨R, 5, none⟩ f) (some R) :=
  (((((xakZ W ⟨R, 0, none⟩ a).trans (xakZ _ ⟨R, 1, none⟩ b)).trans (xakZ _ ⟨R, 2, none⟩ c)).trans (xakZ _ ⟨R, 3, none⟩ d)).trans (xakZ _ ⟨R, 4, none⟩ e)).trans (xakZ _ ⟨R, 5, none⟩ f)
theorem xcqZ (M : Mach) (fv bv iv ov : Value) (w : World) (h : MachAt w fv bv iv ov M) (hsm : SmallM M) : Calls Tryz.prog 53 #[.agg #[fv, bv, iv, ov, .int .i64 M.status, .int .i64 M.trap]] w fun e w' => ∃ fv' bv' iv' ov', e = .returned (.agg #[fv', bv', iv', ov', .int .i64 M.status, .int .i64 M.trap]) ∧ ∃ q qb, MOwn w' w.heap.size fv' bv' iv' ov' q qb M ∧ Below w.heap.size w w' := by
  obtain ⟨pf, cf, hfv, -, -, -⟩ := id h.fr
  obtain ⟨pb, cb, hbv, -, -⟩ := id h.bl
  obtain ⟨pi, ci, hiv, -⟩ := h.inp.shp
  obtain ⟨po, co, hov, -⟩ := h.out.shp
  subst hfv hbv hiv hov
  obtain ⟨W1, hW1⟩ : ∃ W1, (w.alloc (.cells #[.slice pf M.frames.length cf, .slice pb M.blocks.length cb, .slice pi M.inp.length ci, .slice po M.out.length co, .int .i64 M.status, .int .i64 M.trap] 48)).alloc (.cells #[.slice none 0 0, .slice none 0 0, .slice none 0 0, .slice none 0 0, .int .i64 0, .int .i64 0] 48) = W1 := ⟨_, rfl⟩
  have b1 : Below w.heap.size w W1 := by rw [← hW1]; exact ((Below.refl _ w).alloc (Nat.le_refl _) _).alloc (by simp) _
  have x1 : W1.heap[w.heap.size]? = some (.cells #[.slice pf M.frames.length cf, .slice pb M.blocks.length cb, .slice pi M.inp.length ci, .slice po M.out.length co, .int .i64 M.status, .int .i64 M.trap] 48 (0, 0)) := by rw [← hW1]; exact xalZ (World.alloc_heap_new w _) _
  have y1 : W1.heap[w.heap.size + 1]? = some (.cells #[.slice none 0 0, .slice none 0 0, .slice none 0 0, .slice none 0 0, .int .i64 0, .int .i64 0] 48 (0, 0)) := by rw [← hW1]; exact xa1Z w _ _
  have lx := xacZ x1
  have ly := xacZ y1
  have d0 : W1.cell? ⟨w.heap.size, 0, none⟩ = some (.slice pf M.frames.length cf) := xaaZ x1 0
  have d1 : W1.cell? ⟨w.heap.size, 1, none⟩ = some (.slice pb M.blocks.length cb) := xaaZ x1 1
  have d2 : W1.cell? ⟨w.heap.size, 2, none⟩ = some (.slice pi M.inp.length ci) := xaaZ x1 2
  have d3 : W1.cell? ⟨w.heap.size, 3, none⟩ = some (.slice po M.out.length co) := xaaZ x1 3
  have d4 : W1.cell? ⟨w.heap.size, 4, none⟩ = some (.int .i64 M.status) := xaaZ x1 4
  have d5 : W1.cell? ⟨w.heap.size, 5, none⟩ = some (.int .i64 M.trap) := xaaZ x1 5
  have h1 := h.below b1
  have HFR : Hid (∀ W, Below W1.heap.size W1 W → Calls Tryz.prog 86 #[.slice pf M.frames.length cf] W fun e w' => ∃ u, e = .returned u ∧ ∃ q, w'.ownsRow W.heap.size 89 4 u q.length (fCells q) ∧ FRows w' W.heap.size q M.frames ∧ Below W.heap.size W w') := fun W hW => xklZ M.frames _ W (h1.fr.below hW) hsm.fr hsm.each
  have HBL : Hid (∀ W, Below W1.heap.size W1 W → Calls Tryz.prog 87 #[.slice pb M.blocks.length cb] W fun e w' => ∃ u, e = .returned u ∧ xdwZ w' W.heap.size u M.blocks ∧ Below W.heap.size W w') := fun W hW => xeyZ M.blocks _ W (h1.bl.below hW) hsm.bl hsm.cells
  have HIN : Hid (∀ W, Below W1.heap.size W1 W → Calls Tryz.prog 88 #[.slice pi M.inp.length ci] W fun e w' => ∃ u, e = .returned u ∧ w'.ownsRow W.heap.size 3 1 u M.inp.length (M.inp.map (Value.int .i64)) ∧ Below W.heap.size W w') := fun W hW => xbmZ M.inp _ W (h1.inp.at_.below hW) h1.inp.nil (by have := hsm.inp; omega)
  have HOU : Hid (∀ W, Below W1.heap.size W1 W → Calls Tryz.prog 88 #[.slice po M.out.length co] W fun e w' => ∃ u, e = .returned u ∧ w'.ownsRow W.heap.size 3 1 u M.out.length (M.out.map (Value.int .i64)) ∧ Below W.heap.size W w') := fun W hW => xbmZ M.out _ W (h1.out.at_.below hW) h1.out.nil (by have := hsm.out; omega)
  have hRne : ¬ w.heap.size = w.heap.size + 1 := by omega
  have HY1 := hideP y1
  have HX1 := hideP x1
  have HSM := hideP hsm
  clear h h1 x1 y1 hsm
  go_enter Tryz.func53, Tryz.ntmps53
  go_wp2_with fail
  go_region_held3 (fun W => W.cell? ⟨w.heap.size, 0, none⟩ = some (.slice pf M.frames.length cf) ∧ W.cell? ⟨w.heap.size, 1, none⟩ = some (.slice pb M.blocks.length cb) ∧ W.cell? ⟨w.heap.size, 2, none⟩ = some (.slice pi M.inp.length ci) ∧ W.cell? ⟨w.heap.size, 3, none⟩ = some (.slice po M.out.length co) ∧ W.cell? ⟨w.heap.size, 4, none⟩ = some (.int .i64 M.status) ∧ W.cell? ⟨w.heap.size, 5, none⟩ = some (.int .i64 M.trap)) (first | go_keep | exact ⟨xd9Z k0 hRne, xd9Z k1 hRne, xd9Z k2 hRne, xd9Z k3 hRne, xd9Z k4 hRne, xd9Z k5 hRne⟩)
    (first
      | (go_at_call 86; (with_reducible refine (HFR.out _ ((Below.refl _ W1).drew)).mono ?_); rintro e w2 ⟨u2, rfl, q2, r2, hr2, b2'⟩; have b2 : Below W1.heap.size W1 w2 := ((Below.refl _ W1).drew).trans b2'; have s2 : w2.heap.size = w2.heap.size := rfl; obtain ⟨p2, c2, hu2⟩ := xaiZ r2; subst hu2; have R2 := hideP r2; have HR2 := hideP hr2; clear r2 hr2; have f0 := (b2.cell (p := ⟨w.heap.size, 0, none⟩) lx).trans d0; have f1 := (b2.cell (p := ⟨w.heap.size, 1, none⟩) lx).trans d1; have f2 := (b2.cell (p := ⟨w.heap.size, 2, none⟩) lx).trans d2; have f3 := (b2.cell (p := ⟨w.heap.size, 3, none⟩) lx).trans d3; have f4 := (b2.cell (p := ⟨w.heap.size, 4, none⟩) lx).trans d4; have f5 := (b2.cell (p := ⟨w.heap.size, 5, none⟩) lx).trans d5)
      | (go_at_call 87; (with_reducible refine (HBL.out _ b2).mono ?_); rintro e w3 ⟨u3, rfl, ⟨qb, r3, hr3⟩, b3'⟩; have b3 : Below W1.heap.size W1 w3 := b2.trans (b3'.mono b2.size); obtain ⟨p3, c3, hu3⟩ := xaiZ r3; subst hu3; have R3 := hideP r3; have HR3 := hideP hr3; clear r3 hr3; have g0 := (b3.cell (p := ⟨w.heap.size, 0, none⟩) lx).trans d0; have g1 := (b3.cell (p := ⟨w.heap.size, 1, none⟩) lx).trans d1; have g2 := (b3.cell (p := ⟨w.heap.size, 2, none⟩) lx).trans d2; have g3 := (b3.cell (p := ⟨w.heap.size, 3, none⟩) lx).trans d3; have g4 := (b3.cell (p := ⟨w.heap.size, 4, none⟩) lx).trans d4; have g5 := (b3.cell (p := ⟨w.heap.size, 5, none⟩) lx).trans d5)
      | (go_at_call 88; (with_reducible refine (HIN.out _ b3).mono ?_); rintro e w4 ⟨u4, rfl, r4, b4'⟩; have b4 : Below W1.heap.size W1 w4 := b3.trans (b4'.mono b3.size); obtain ⟨p4, c4, hu4⟩ := xaiZ r4; subst hu4; have R4 := hideP r4; clear r4; have h0 := (b4.cell (p := ⟨w.heap.size, 0, none⟩) lx).trans d0; have h1 := (b4.cell (p := ⟨w.heap.size, 1, none⟩) lx).trans d1; have h2 := (b4.cell (p := ⟨w.heap.size, 2, none⟩) lx).trans d2; have h3 := (b4.cell (p := ⟨w.heap.size, 3, none⟩) lx).trans d3; have h4 := (b4.cell (p := ⟨w.heap.size, 4, none⟩) lx).trans d4; have h5 := (b4.cell (p := ⟨w.heap.size, 5, none⟩) lx).trans d5)
      | (go_at_call 88; (with_reducible refine (HOU.out _ b4).mono ?_); rintro e w5 ⟨u5, rfl, r5, b5'⟩; have b5 : Below W1.heap.size W1 w5 := b4.trans (b5'.mono b4.size); obtain ⟨p5, c5, hu5⟩ := xaiZ r5; subst hu5; have R5 := hideP r5; clear r5; have k0 := (b5.cell (p := ⟨w.heap.size, 0, none⟩) lx).trans d0; have k1 := (b5.cell (p := ⟨w.heap.size, 1, none⟩) lx).trans d1; have k2 := (b5.cell (p := ⟨w.heap.size, 2, none⟩) lx).trans d2; have k3 := (b5.cell (p := ⟨w.heap.size, 3, none⟩) lx).trans d3; have k4 := (b5.cell (p := ⟨w.heap.size, 4, none⟩) lx).trans d4; have k5 := (b5.cell (p := ⟨w.heap.size, 5, none⟩) lx).trans d5; have yy := (b5.block _ ly).trans HY1.out; have m0 := xaaZ yy 0; have m1 := xaaZ yy 1; have m2 := xaaZ yy 2; have m3 := xaaZ yy 3; have m4 := xaaZ yy 4; have m5 := xaaZ yy 5; simp at m0 m1 m2 m3 m4 m5; have z := Lib.frozen_of_heap yy; have z0 := z 0; have z1 := z 1; have z2 := z 2; have z3 := z 3; have z4 := z 4; have z5 := z 5; have YY := hideP yy; clear yy z))
  go_wp2
  refine bodyPost_ret (v := .agg #[.slice p2 q2.length c2, .slice p3 qb.length c3, .slice p4 M.inp.length c4, .slice p5 M.out.length c5, .int .i64 M.status, .int .i64 M.trap]) (by simp [results, Tryz.results53, go_sem, m0, m1, m2, m3, m4, m5]) rfl ⟨_, _, _, _, rfl, q2, qb, ?_, ?_⟩
  · have hs1 := b1.size
    have hs2 := b2.size
    have hs3 := b3'.size
    have hs4 := b4'.size
    have hs5 := b5'.size
    have hb25 : Below w2.heap.size w2 w5 := xaeZ (xaeZ b3' b4') b5'
    have hb35 : Below w3.heap.size w3 w5 := xaeZ b4' b5'
    have hR2l : W1.heap.size ≤ w2.heap.size := hs2
    refine MOwn.keep (t := 48) ?_ (xb2Z w5 (w.heap.size + 1) _ _ _ _ _ _) (xatZ YY.out) (by decide) (by decide) (by decide) (by decide)
    have hB1 : w.heap.size ≤ W1.drew.heap.size := hs1
    refine ⟨xapZ (xaoZ R2.out fun j hj => hb25.block j (R2.out.lt j hj).2) hB1, (HR2.out.below hb25).low hB1, xapZ (xaoZ R3.out fun j hj => hb35.block j (R3.out.lt j hj).2) (by omega), ?_⟩
    have hq5 := (HR3.out.below hb35).low (B' := w.heap.size) (by omega)
    have ho := xapZ (B' := w.heap.size) R5.out (by omega)
    have hi := xapZ (B' := w.heap.size) (xaoZ R4.out fun j hj => b5'.block j (R4.out.lt j hj).2) (by omega)
    refine (hq5.cons ho (fun i y g h1 h2 h3 => ?_) (by have := HSM.out.out; omega)).cons hi (fun i y g h1 h2 h3 => ?_) (by have := HSM.out.inp; omega)
    · have a1 := (HR3.out.lt h1 h2).2.1
      have a2 := (R5.out.lt g h3).1
      omega
    · cases i with
      | zero =>
        simp at h1
        subst h1
        have a1 := (R5.out.lt g h2).1
        have a2 := (R4.out.lt g h3).2
        omega
      | succ i =>
        have a1 := (HR3.out.lt (k := i) (by simpa using h1) h2).2.1
        have a2 := (R4.out.lt g h3).1
        omega
  · exact (xaeZ b1 b5).grown (xb2Z w5 (w.heap.size + 1) _ _ _ _ _ _) (by have := (xaeZ b1 b5).size; omega) (fun j hj => by cases hj; omega)
end Go.Proofs.YtmjjkenblfndgaaGreat


