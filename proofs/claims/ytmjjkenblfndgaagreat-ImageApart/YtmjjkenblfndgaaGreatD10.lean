/- My texts Mb Mt Mu Na: what of them is needed, joined. -/

import Derived.Test.YtmjjkenblfndgaaGreatD5
import Derived.Test.YtmjjkenblfndgaaGreatD6
import Derived.Test.YtmjjkenblfndgaaGreatD9
set_option maxRecDepth 100000
set_option maxHeartbeats 8000000
/- Frames and machines in memory of the call's own, and what can be read of any. -/
namespace Go.Proofs.YtmjjkenblfndgaaGreat
open Go.RowKit
set_option linter.unusedSimpArgs false
set_option linter.unusedVariables false
structure FV where
  fn : Int
  pc : Int
  lv : Value
  sv : Value
def fCells (q : List FV) : List Value := q.flatMap fun c => [.int .i64 c.fn, .int .i64 c.pc, c.lv, c.sv]
def fRows (q : List FV) : List Value := q.flatMap fun c => [c.lv, c.sv]
def fVals (F : List Frm) : List (List Val) := F.flatMap fun x => [x.loc, x.stk]
theorem xb3Z (q r : List FV) : fCells (q ++ r) = fCells q ++ fCells r := by simp [fCells]
theorem xffZ (q r : List FV) : fRows (q ++ r) = fRows q ++ fRows r := by simp [fRows]
theorem xelZ (q r : List Frm) : fVals (q ++ r) = fVals q ++ fVals r := by simp [fVals]
theorem xb4Z (q : List FV) : (fCells q).length = q.length * 4 := by
  induction q with
  | nil => rfl
  | cons o r ih => simp [fCells] at *; omega
theorem xdqZ (q : List FV) : (fRows q).length = q.length * 2 := by
  induction q with
  | nil => rfl
  | cons o r ih => simp [fRows] at *; omega
theorem xdrZ (q : List Frm) : (fVals q).length = q.length * 2 := by
  induction q with
  | nil => rfl
  | cons o r ih => simp [fVals] at *; omega
theorem xejZ (q : List FV) : ∀ (k : Nat) (c : FV), q[k]? = some c → (fCells q)[k * 4]? = some (.int .i64 c.fn) ∧ (fCells q)[k * 4 + 1]? = some (.int .i64 c.pc) ∧ (fCells q)[k * 4 + 2]? = some c.lv ∧ (fCells q)[k * 4 + 3]? = some c.sv := by
  induction q with
  | nil => intro k o h; simp at h
  | cons x r ih =>
    intro k o h
    cases k with
    | zero => simp at h; subst h; simp [fCells]
    | succ k =>
      have := ih k o (by simpa using h)
      rw [show (k + 1) * 4 = k * 4 + 1 + 1 + 1 + 1 from by omega]
      simpa [fCells] using this
theorem xekZ (q : List FV) : ∀ (k : Nat) (c : FV), q[k]? = some c → (fRows q)[k * 2]? = some c.lv ∧ (fRows q)[k * 2 + 1]? = some c.sv := by
  induction q with
  | nil => intro k o h; simp at h
  | cons x r ih =>
    intro k o h
    cases k with
    | zero => simp at h; subst h; simp [fRows]
    | succ k =>
      have := ih k o (by simpa using h)
      rw [show (k + 1) * 2 = k * 2 + 1 + 1 from by omega]
      simpa [fRows] using this
theorem xkgZ (q : List Frm) : ∀ (k : Nat) (c : Frm), q[k]? = some c → (fVals q)[k * 2]? = some c.loc ∧ (fVals q)[k * 2 + 1]? = some c.stk := by
  induction q with
  | nil => intro k o h; simp at h
  | cons x r ih =>
    intro k o h
    cases k with
    | zero => simp at h; subst h; simp [fVals]
    | succ k =>
      have := ih k o (by simpa using h)
      rw [show (k + 1) * 2 = k * 2 + 1 + 1 from by omega]
      simpa [fVals] using this
def FrmsAt (w : World) (v : Value) (F : List Frm) : Prop :=
  ∃ (p : Option Addr) (cap : Nat), v = .slice p F.length cap ∧ F.length ≤ maxLen ∧ F.length ≤ cap ∧ ∀ k x, F[k]? = some x →
    ∃ g off lv sv, p = some ⟨g, off, none⟩ ∧ g < w.heap.size ∧ w.cell? ⟨g, off + k * 4, none⟩ = some (.int .i64 x.fn) ∧ w.cell? ⟨g, off + k * 4 + 1, none⟩ = some (.int .i64 x.pc) ∧ w.cell? ⟨g, off + k * 4 + 2, none⟩ = some lv ∧ w.cell? ⟨g, off + k * 4 + 3, none⟩ = some sv ∧ ValsAt w lv x.loc ∧ NilOk lv ∧ ValsAt w sv x.stk ∧ NilOk sv
theorem FrmsAt.below {w w' : World} {v : Value} {F : List Frm} (h : FrmsAt w v F) (hb : Below w.heap.size w w') : FrmsAt w' v F := by
  obtain ⟨p, cap, rfl, hm, hc0, hc⟩ := h
  refine ⟨p, cap, rfl, hm, hc0, fun k x hk => ?_⟩
  obtain ⟨g, off, lv, sv, rfl, hlt, h0, h1, h2, h3, h4, h5, h6, h7⟩ := hc k x hk
  exact ⟨g, off, lv, sv, rfl, Nat.lt_of_lt_of_le hlt hb.size, (hb.cell (p := ⟨g, off + k * 4, none⟩) hlt).trans h0, (hb.cell (p := ⟨g, off + k * 4 + 1, none⟩) hlt).trans h1, (hb.cell (p := ⟨g, off + k * 4 + 2, none⟩) hlt).trans h2, (hb.cell (p := ⟨g, off + k * 4 + 3, none⟩) hlt).trans h3, h4.below hb, h5, h6.below hb, h7⟩
structure MachAt (W : World) (fv bv iv ov : Value) (M : Mach) : Prop where
  fr : FrmsAt W fv M.frames
  bl : BlksAt W bv M.blocks
  inp : FullInts W iv M.inp
  out : FullInts W ov M.out
theorem MachAt.below {w w' : World} {fv bv iv ov : Value} {M : Mach} (h : MachAt w fv bv iv ov M) (hb : Below w.heap.size w w') : MachAt w' fv bv iv ov M := ⟨h.fr.below hb, h.bl.below hb, h.inp.below hb, h.out.below hb⟩
def TyRow (W : World) (row : Option Nat) (t : TypeId) : Prop := ∀ r, row = some r → ∃ cs fz, W.heap[r]? = some (.cells cs t fz)
theorem xd1Z {W : World} {B : Nat} {e : TypeId} {size n : Nat} {v : Value} {xs : List Value} (h : W.ownsRow B e size v n xs) : TyRow W v.ownBlock e := fun r hr => by
  rcases h.2 with ⟨rfl, _⟩ | ⟨g, cap, cur, rfl, _, hg, _⟩
  · cases hr
  · cases hr; exact ⟨_, _, hg⟩
theorem xa5Z {W : World} {r : Nat} {cs : Array Value} {t : TypeId} {fz : Nat × Nat} (h : W.heap[r]? = some (.cells cs t fz)) : TyRow W (some r) t := fun r' e => by cases e; exact ⟨_, _, h⟩
theorem xfmZ (W : World) (t : TypeId) : TyRow W none t := fun r h => by cases h
theorem xarZ {W W' : World} {B : Nat} {e t : TypeId} {size n : Nat} {v : Value} {xs : List Value} {row : Option Nat} (h : W.ownsRow B e size v n xs) (hg : W.grownBy W' row) (ht : TyRow W row t) (hne : t ≠ e) : W'.ownsRow B e size v n xs :=
  xayZ h fun k hk => hg.block k (h.lt k hk).2 fun e1 => by
    obtain ⟨cs, fz, hh⟩ := ht k e1.symm
    exact xcyZ h hh hne hk.symm
theorem VRows.keep {W W' : World} {B : Nat} {t : TypeId} {q : List Value} {L : List (List Val)} {row : Option Nat} (h : VRows W B q L) (hg : W.grownBy W' row) (ht : TyRow W row t) (hne : t ≠ 113) : VRows W' B q L :=
  ⟨h.len, fun k x b h1 h2 => xarZ (h.each k x b h1 h2) hg ht hne, h.apart⟩
theorem BRows.keep {W W' : World} {B : Nat} {t : TypeId} {q : List Value} {L : List (List Int)} {row : Option Nat} (h : BRows W B q L) (hg : W.grownBy W' row) (ht : TyRow W row t) (hne : t ≠ 3) : BRows W' B q L :=
  ⟨h.len, fun k x b h1 h2 => xarZ (h.each k x b h1 h2) hg ht hne, h.apart, h.small⟩
theorem xdwZ {W : World} {B : Nat} {e : TypeId} {size n cap g : Nat} {xs : List Value} (h : W.ownsRow B e size (.slice (some ⟨g, 0, none⟩) n cap) n xs) (i : Nat) (u : Value) : (W.setCell ⟨g, i, none⟩ u).ownsRow B e size (.slice (some ⟨g, 0, none⟩) n cap) n (xs.set i u) := by
  rcases h.2 with ⟨h1, _⟩ | ⟨g', cap', cur, h1, h2, h3, h4, h5, h6, h7⟩
  · cases h1
  · cases h1
    have hs := heap_setCell_same W g i _ _ u h3
    refine ⟨by simpa using h.1, .inr ⟨g, cap, _, rfl, h2, hs, h4, h5, by simpa using h6, ?_⟩⟩
    have e1 : (cur.setIfInBounds i u).toList = cur.toList.set i u := by simp
    rw [e1, List.take_set, h7]
structure FRows (W : World) (B : Nat) (q : List FV) (F : List Frm) : Prop where
  len : q.length = F.length
  nums : ∀ (k : Nat) (c : FV) (x : Frm), q[k]? = some c → F[k]? = some x → c.fn = x.fn ∧ c.pc = x.pc
  rows : VRows W B (fRows q) (fVals F)
theorem FRows.below {W W' : World} {B : Nat} {q : List FV} {F : List Frm} (h : FRows W B q F) (hb : Below W.heap.size W W') : FRows W' B q F := ⟨h.len, h.nums, h.rows.below hb⟩
theorem FRows.low {W : World} {B B' : Nat} {q : List FV} {F : List Frm} (h : FRows W B q F) (hB : B' ≤ B) : FRows W B' q F := ⟨h.len, h.nums, h.rows.low hB⟩
theorem FRows.keep {W W' : World} {B : Nat} {t : TypeId} {q : List FV} {F : List Frm} {row : Option Nat} (h : FRows W B q F) (hg : W.grownBy W' row) (ht : TyRow W row t) (hne : t ≠ 113) : FRows W' B q F := ⟨h.len, h.nums, h.rows.keep hg ht hne⟩
theorem xf6Z (W : World) (B : Nat) : FRows W B [] [] := ⟨rfl, fun k c x h => by simp at h, vRows_nil W B⟩
theorem xcqZ {α : Type} {l : List α} {x y : α} {k : Nat} (h : (l ++ [x])[k]? = some y) : (k < l.length ∧ l[k]? = some y) ∨ (k = l.length ∧ y = x) := by
  by_cases hl : k < l.length
  · rw [List.getElem?_append_left hl] at h; exact .inl ⟨hl, h⟩
  · rw [List.getElem?_append_right (by omega)] at h
    have h0 : k - l.length = 0 := by have := xaeZ h; simp at this; omega
    rw [h0] at h; simp at h
    exact .inr ⟨by omega, h.symm⟩
theorem xbjZ {α : Type} (l : List α) (x : α) : (l ++ [x])[l.length]? = some x := by simp
theorem FRows.snoc {W : World} {B B' : Nat} {q : List FV} {F : List Frm} {c : FV} {x : Frm} (h : FRows W B q F) (h1 : c.fn = x.fn) (h2 : c.pc = x.pc) (hl : W.ownsRow B' 113 2 c.lv x.loc.length (valCells x.loc)) (hs : W.ownsRow B' 113 2 c.sv x.stk.length (valCells x.stk)) (hB : B ≤ B')
    (hn : ∀ (k : Nat) (y : Value) (g : Nat), (fRows q)[k]? = some y → y.ownBlock = some g → g < B') (hls : ∀ g, c.lv.ownBlock = some g → c.sv.ownBlock ≠ some g) : FRows W B (q ++ [c]) (F ++ [x]) := by
  refine ⟨by simp [h.len], fun k d y hd hy => ?_, ?_⟩
  · rcases xcqZ hd with ⟨a1, a2⟩ | ⟨a1, rfl⟩
    · rcases xcqZ hy with ⟨b1, b2⟩ | ⟨b1, rfl⟩
      · exact h.nums k d y a2 b2
      · have := h.len; omega
    · rcases xcqZ hy with ⟨b1, b2⟩ | ⟨b1, rfl⟩
      · have := h.len; omega
      · exact ⟨h1, h2⟩
  · have e1 : fRows (q ++ [c]) = (fRows q ++ [c.lv]) ++ [c.sv] := by simp [fRows]
    have e2 : fVals (F ++ [x]) = (fVals F ++ [x.loc]) ++ [x.stk] := by simp [fVals]
    rw [e1, e2]
    refine (h.rows.snoc (xapZ hl hB) fun k y g h3 h4 h5 => ?_).snoc (xapZ hs hB) fun k y g h3 h4 h5 => ?_
    · have := hn k y g h3 h4
      have := (hl.lt g h5).1
      omega
    · rcases xcqZ h3 with ⟨_, h6⟩ | ⟨_, rfl⟩
      · have := hn k y g h6 h4
        have := (hs.lt g h5).1
        omega
      · exact hls g h4 h5
theorem FRows.stk {W W' : World} {B : Nat} {q : List FV} {F : List Frm} {c : FV} {x : Frm} {sv : Value} {s : List Val} (h : FRows W B (q ++ [c]) (F ++ [x])) (hg : W.grownBy W' c.sv.ownBlock) (hy : W'.ownsRow B 113 2 sv s.length (valCells s)) (hat : ∀ g, sv.ownBlock = some g → c.sv.ownBlock = some g ∨ W.heap.size ≤ g) : FRows W' B (q ++ [{ c with sv := sv }]) (F ++ [{ x with stk := s }]) := by
  have hl : q.length = F.length := by have := h.len; simp at this; exact this
  refine ⟨by simp [hl], fun k d y hd hy => ?_, ?_⟩
  · rcases xcqZ hd with ⟨a1, a2⟩ | ⟨a1, rfl⟩
    · rcases xcqZ hy with ⟨b1, b2⟩ | ⟨b1, rfl⟩
      · exact h.nums k d y (by rw [List.getElem?_append_left a1]; exact a2) (by rw [List.getElem?_append_left b1]; exact b2)
      · omega
    · rcases xcqZ hy with ⟨b1, b2⟩ | ⟨b1, rfl⟩
      · omega
      · exact h.nums q.length c x (xbjZ _ _) (by rw [hl]; exact xbjZ _ _)
  · have hp := h.rows.put (k := q.length * 2 + 1) (x := c.sv) (y := sv) (b := s) (xekZ _ _ c (xbjZ _ _)).2 hg hy hat
    have e1 : (fRows (q ++ [c])).set (q.length * 2 + 1) sv = fRows (q ++ [{ c with sv := sv }]) := by
      rw [xffZ, xffZ, List.set_append_right _ _ (by rw [xdqZ]; omega), xdqZ]
      simp [fRows]
    have e2 : (fVals (F ++ [x])).set (q.length * 2 + 1) s = fVals (F ++ [{ x with stk := s }]) := by
      rw [xelZ, xelZ, List.set_append_right _ _ (by rw [xdrZ]; omega), xdrZ, hl]
      simp [fVals]
    rw [e1, e2] at hp
    exact hp
theorem FRows.loc {W W' : World} {B : Nat} {q : List FV} {F : List Frm} {c : FV} {x : Frm} {s : List Val} (h : FRows W B (q ++ [c]) (F ++ [x])) (hg : W.grownBy W' c.lv.ownBlock) (hy : W'.ownsRow B 113 2 c.lv s.length (valCells s)) : FRows W' B (q ++ [c]) (F ++ [{ x with loc := s }]) := by
  have hl : q.length = F.length := by have := h.len; simp at this; exact this
  refine ⟨by simp [hl], fun k d y hd hy => ?_, ?_⟩
  · rcases xcqZ hy with ⟨b1, b2⟩ | ⟨b1, rfl⟩
    · exact h.nums k d y hd (by rw [List.getElem?_append_left b1]; exact b2)
    · exact h.nums k d x hd (by rw [b1]; exact xbjZ _ _)
  · have hp := h.rows.put (k := q.length * 2) (x := c.lv) (y := c.lv) (b := s) (xekZ _ _ c (xbjZ _ _)).1 hg hy (fun g hg => .inl hg)
    have e1 : (fRows (q ++ [c])).set (q.length * 2) c.lv = fRows (q ++ [c]) := by
      rw [xffZ, List.set_append_right _ _ (by rw [xdqZ]; omega), xdqZ]
      simp [fRows]
    have e2 : (fVals (F ++ [x])).set (q.length * 2) s = fVals (F ++ [{ x with loc := s }]) := by
      rw [xelZ, xelZ, List.set_append_right _ _ (by rw [xdrZ]; omega), xdrZ, hl]
      simp [fVals]
    rw [e1, e2] at hp
    exact hp
theorem FRows.pc {W : World} {B : Nat} {q : List FV} {F : List Frm} {c : FV} {x : Frm} (h : FRows W B (q ++ [c]) (F ++ [x])) (n : Int) : FRows W B (q ++ [{ c with pc := n }]) (F ++ [{ x with pc := n }]) := by
  have hl : q.length = F.length := by have := h.len; simp at this; exact this
  refine ⟨by simp [hl], fun k d y hd hy => ?_, ?_⟩
  · rcases xcqZ hd with ⟨a1, a2⟩ | ⟨a1, rfl⟩
    · rcases xcqZ hy with ⟨b1, b2⟩ | ⟨b1, rfl⟩
      · exact h.nums k d y (by rw [List.getElem?_append_left a1]; exact a2) (by rw [List.getElem?_append_left b1]; exact b2)
      · omega
    · rcases xcqZ hy with ⟨b1, b2⟩ | ⟨b1, rfl⟩
      · omega
      · exact ⟨(h.nums q.length c x (xbjZ _ _) (by rw [hl]; exact xbjZ _ _)).1, rfl⟩
  · have e1 : fRows (q ++ [{ c with pc := n }]) = fRows (q ++ [c]) := by simp [fRows]
    have e2 : fVals (F ++ [{ x with pc := n }]) = fVals (F ++ [x]) := by simp [fVals]
    rw [e1, e2]
    exact h.rows
theorem FRows.cut {W : World} {B : Nat} {q : List FV} {F : List Frm} {c : FV} {x : Frm} (h : FRows W B (q ++ [c]) (F ++ [x])) : FRows W B q F := by
  have hl : q.length = F.length := by have := h.len; simp at this; exact this
  refine ⟨hl, fun k d y hd hy => h.nums k d y (by rw [List.getElem?_append_left (xaeZ hd)]; exact hd) (by rw [List.getElem?_append_left (xaeZ hy)]; exact hy), ?_⟩
  have := h.rows.take (q.length * 2)
  rw [xffZ, xelZ, List.take_append_of_le_length (by rw [xdqZ]; omega), List.take_append_of_le_length (by rw [xdrZ]; omega), List.take_of_length_le (by rw [xdqZ]; omega), List.take_of_length_le (by rw [xdrZ]; omega)] at this
  exact this
theorem frmsAt_own {W : World} {B : Nat} {fv : Value} {q : List FV} {F : List Frm} (h : W.ownsRow B 89 4 fv q.length (fCells q)) (hr : FRows W B q F) : FrmsAt W fv F := by
  have hlen := hr.len
  rcases h.2 with ⟨rfl, h0⟩ | ⟨g, cap, cur, rfl, hb, hg, hn, hc, hs, ht⟩
  · have : F = [] := List.eq_nil_of_length_eq_zero (by omega)
    subst this
    exact ⟨none, 0, rfl, Nat.zero_le _, Nat.zero_le _, fun k x hk => by simp at hk⟩
  · refine ⟨_, cap, by rw [hlen], by omega, by omega, fun k x hk => ?_⟩
    have hk2 := xaeZ hk
    obtain ⟨c, hcq⟩ := xaiZ (l := q) (k := k) (by omega)
    obtain ⟨e1, e2⟩ := hr.nums k c x hcq hk
    obtain ⟨a0, a1, a2, a3⟩ := xejZ q k c hcq
    obtain ⟨r1, r2⟩ := xekZ q k c hcq
    obtain ⟨v1, v2⟩ := xkgZ F k x hk
    have o1 := hr.rows.each _ _ _ r1 v1
    have o2 := hr.rows.each _ _ _ r2 v2
    rw [← ht, List.getElem?_take_of_lt (by omega)] at a0 a1 a2 a3
    refine ⟨g, 0, c.lv, c.sv, rfl, xacZ hg, ?_, ?_, ?_, ?_, xcdZ o1, xd0Z o1, xcdZ o2, xd0Z o2⟩
    · rw [xaaZ hg, ← e1]; simpa using a0
    · rw [xaaZ hg, ← e2]; simpa using a1
    · rw [xaaZ hg]; simpa using a2
    · rw [xaaZ hg]; simpa using a3
structure MOwn (W : World) (B : Nat) (fv bv iv ov : Value) (q : List FV) (qb : List Value) (M : Mach) : Prop where
  fr : W.ownsRow B 89 4 fv q.length (fCells q)
  frs : FRows W B q M.frames
  bl : W.ownsRow B 46 1 bv qb.length qb
  rows : BRows W B (iv :: ov :: qb) (M.inp :: M.out :: M.blocks)
theorem MOwn.low {W : World} {B B' : Nat} {fv bv iv ov : Value} {q : List FV} {qb : List Value} {M : Mach} (h : MOwn W B fv bv iv ov q qb M) (hB : B' ≤ B) : MOwn W B' fv bv iv ov q qb M := ⟨xapZ h.fr hB, h.frs.low hB, xapZ h.bl hB, h.rows.low hB⟩
theorem MOwn.below {W W' : World} {B : Nat} {fv bv iv ov : Value} {q : List FV} {qb : List Value} {M : Mach} (h : MOwn W B fv bv iv ov q qb M) (hb : Below W.heap.size W W') : MOwn W' B fv bv iv ov q qb M :=
  ⟨xayZ h.fr fun g hg => hb.block g (h.fr.lt g hg).2, h.frs.below hb, xayZ h.bl fun g hg => hb.block g (h.bl.lt g hg).2, h.rows.below hb⟩
theorem MOwn.keep {W W' : World} {B : Nat} {t : TypeId} {fv bv iv ov : Value} {q : List FV} {qb : List Value} {M : Mach} {row : Option Nat} (h : MOwn W B fv bv iv ov q qb M) (hg : W.grownBy W' row) (ht : TyRow W row t) (h1 : t ≠ 89) (h2 : t ≠ 113) (h3 : t ≠ 46) (h4 : t ≠ 3) : MOwn W' B fv bv iv ov q qb M :=
  ⟨xarZ h.fr hg ht h1, h.frs.keep hg ht h2, xarZ h.bl hg ht h3, h.rows.keep hg ht h4⟩
theorem xktZ {W : World} {B : Nat} {x : Value} {q : List Value} {b : List Int} {L : List (List Int)} (h : BRows W B (x :: q) (b :: L)) : BRows W B q L :=
  ⟨by have := h.len; simpa using this, fun k y c h1 h2 => h.each (k + 1) y c (by simpa using h1) (by simpa using h2), fun i j y z g h1 h2 g1 g2 => by have := h.apart (i + 1) (j + 1) y z g (by simpa using h1) (by simpa using h2) g1 g2; omega, fun c hc => h.small c (by simp [hc])⟩
theorem MOwn.inp {W : World} {B : Nat} {fv bv iv ov : Value} {q : List FV} {qb : List Value} {M : Mach} (h : MOwn W B fv bv iv ov q qb M) : W.ownsRow B 3 1 iv M.inp.length (M.inp.map (Value.int .i64)) := h.rows.each 0 _ _ rfl rfl
theorem MOwn.out {W : World} {B : Nat} {fv bv iv ov : Value} {q : List FV} {qb : List Value} {M : Mach} (h : MOwn W B fv bv iv ov q qb M) : W.ownsRow B 3 1 ov M.out.length (M.out.map (Value.int .i64)) := h.rows.each 1 _ _ rfl rfl
theorem MOwn.blks {W : World} {B : Nat} {fv bv iv ov : Value} {q : List FV} {qb : List Value} {M : Mach} (h : MOwn W B fv bv iv ov q qb M) : xecZ W B bv M.blocks := ⟨qb, h.bl, xktZ (xktZ h.rows)⟩
theorem MOwn.at_ {W : World} {B : Nat} {fv bv iv ov : Value} {q : List FV} {qb : List Value} {M : Mach} (h : MOwn W B fv bv iv ov q qb M) : MachAt W fv bv iv ov M :=
  ⟨frmsAt_own h.fr h.frs, xbxZ h.blks, xgtZ rfl h.inp, xgtZ rfl h.out⟩
end Go.Proofs.YtmjjkenblfndgaaGreat


/- machine's checker: status, blocks, boxes, depth. -/
namespace Go.Proofs.YtmjjkenblfndgaaGreat
open Go.RowKit
set_option linter.unusedSimpArgs false
set_option linter.unusedVariables false
abbrev chkV (pv fv bv iv ov : Value) (M : Mach) : Value := .agg #[fv, bv, iv, ov, .int .i64 M.status, .int .i64 M.trap, pv]
def Says (n : Int) (w : World) (e : Ending) (w' : World) : Prop := e = .returned (.int .i64 n) ∧ Below w.heap.size w w'
theorem xb0Z {w : World} {o : Obj} {n m : Int} (h : n = m) : Says m w (.returned (.int .i64 n)) (w.alloc o) := ⟨by rw [h], (Below.refl _ w).alloc (Nat.le_refl _) _⟩
theorem xn0Z (M : Mach) (pv fv bv iv ov : Value) (w : World) (h1 : ∃ p n c, pv = .slice p n c) (h2 : ∃ p n c, fv = .slice p n c) (h3 : ∃ p n c, bv = .slice p n c) (h4 : ∃ p n c, iv = .slice p n c) (h5 : ∃ p n c, ov = .slice p n c) : Calls Tryz.prog 103 #[chkV pv fv bv iv ov M] w (Says (stErr M) w) := by
  obtain ⟨_, _, _, rfl⟩ := h1
  obtain ⟨_, _, _, rfl⟩ := h2
  obtain ⟨_, _, _, rfl⟩ := h3
  obtain ⟨_, _, _, rfl⟩ := h4
  obtain ⟨_, _, _, rfl⟩ := h5
  obtain ⟨F, B, I, O, st, tr⟩ := M
  by_cases a1 : st < 0
  · go_enter Tryz.func103, Tryz.ntmps103
    have a3 : (st == 3) = false := by simp; omega
    go_wp2
    go_ret
    exact xb0Z (by simp [stErr]; omega)
  by_cases a2 : 3 < st
  · go_enter Tryz.func103, Tryz.ntmps103
    have a3 : (st == 3) = false := by simp; omega
    go_wp2
    go_ret
    exact xb0Z (by simp [stErr]; omega)
  by_cases a3 : st = 3
  · subst a3
    by_cases a4 : tr < 1
    · go_enter Tryz.func103, Tryz.ntmps103
      go_wp2
      go_ret
      exact xb0Z (by simp [stErr]; omega)
    by_cases a5 : 5 < tr
    · go_enter Tryz.func103, Tryz.ntmps103
      go_wp2
      go_ret
      exact xb0Z (by simp [stErr]; omega)
    · go_enter Tryz.func103, Tryz.ntmps103
      go_wp2
      go_ret
      exact xb0Z (by simp [stErr]; omega)
  · have a3' : (st == 3) = false := by simp; omega
    by_cases a4 : tr < 0
    · go_enter Tryz.func103, Tryz.ntmps103
      go_wp2
      go_ret
      exact xb0Z (by simp [stErr]; omega)
    by_cases a5 : 0 < tr
    · go_enter Tryz.func103, Tryz.ntmps103
      go_wp2
      go_ret
      exact xb0Z (by simp [stErr]; omega)
    · go_enter Tryz.func103, Tryz.ntmps103
      go_wp2
      go_ret
      exact xb0Z (by simp [stErr]; omega)
theorem xpoZ (M : Mach) (pv bv iv ov : Value) (pf : Option Addr) (cf : Nat) (w : World) (h1 : ∃ p n c, pv = .slice p n c) (h3 : ∃ p n c, bv = .slice p n c) (h4 : ∃ p n c, iv = .slice p n c) (h5 : ∃ p n c, ov = .slice p n c) : Calls Tryz.prog 106 #[chkV pv (.slice pf M.frames.length cf) bv iv ov M] w (Says (xdgZ M) w) := by
  obtain ⟨_, _, _, rfl⟩ := h1
  obtain ⟨_, _, _, rfl⟩ := h3
  obtain ⟨_, _, _, rfl⟩ := h4
  obtain ⟨_, _, _, rfl⟩ := h5
  obtain ⟨F, B, I, O, st, tr⟩ := M
  obtain ⟨n, hn⟩ : ∃ n, n = F.length := ⟨_, rfl⟩
  have hd : xdgZ ⟨F, B, I, O, st, tr⟩ = if 6 < n then 2 else if n = 0 ∧ st ≠ 2 then 5 else if 0 < n ∧ st = 2 then 1 else 0 := by rw [hn]; rfl
  rw [hd]
  simp only
  rw [← hn]
  clear hn hd
  by_cases a1 : 6 < n
  · have a1' : (6 : Int) < (n : Int) := by omega
    go_enter Tryz.func106, Tryz.ntmps106
    go_wp2
    go_ret
    exact xb0Z (by simp [a1])
  have a1' : ¬ (6 : Int) < (n : Int) := by omega
  by_cases a2 : n = 0
  · subst a2
    by_cases a3 : st = 2
    · subst a3
      go_enter Tryz.func106, Tryz.ntmps106
      go_wp2
      go_ret
      exact xb0Z (by simp)
    · have a3' : (st != 2) = true := by simpa using a3
      go_enter Tryz.func106, Tryz.ntmps106
      go_wp2
      go_ret
      exact xb0Z (by simp [a3])
  · have a2' : ((n : Int) == 0) = false := by simp; omega
    have a2'' : (0 : Int) < (n : Int) := by omega
    by_cases a3 : st = 2
    · subst a3
      go_enter Tryz.func106, Tryz.ntmps106
      go_wp2
      go_ret
      exact xb0Z (by simp [a1, a2] <;> omega)
    · have a3' : (st == 2) = false := by simpa using a3
      go_enter Tryz.func106, Tryz.ntmps106
      go_wp2
      go_ret
      exact xb0Z (by simp [a1, a2, a3])
theorem xnyZ (M : Mach) (pv fv bv iv ov : Value) (w : World) (h1 : ∃ p n c, pv = .slice p n c) (h2 : ∃ p n c, fv = .slice p n c) (hb : BlksAt w bv M.blocks) (h4 : ∃ p n c, iv = .slice p n c) (h5 : ∃ p n c, ov = .slice p n c) : Calls Tryz.prog 104 #[chkV pv fv bv iv ov M] w (Says (blkErr M.blocks) w) := by
  obtain ⟨_, _, _, rfl⟩ := h1
  obtain ⟨_, _, _, rfl⟩ := h2
  obtain ⟨_, _, _, rfl⟩ := h4
  obtain ⟨_, _, _, rfl⟩ := h5
  obtain ⟨pb, cb, hbv, -, -⟩ := id hb
  subst hbv
  have HB : Hid (∀ o, Calls Tryz.prog 137 #[.slice pb M.blocks.length cb] (w.alloc o) fun e w' => e = .returned (.int .i64 (blkErr M.blocks)) ∧ Below (w.alloc o).heap.size (w.alloc o) w') := fun o => xgeZ M.blocks _ _ (hb.below ((Below.refl _ w).alloc (Nat.le_refl _) _))
  clear hb
  go_enter Tryz.func104, Tryz.ntmps104
  go_wp2_with (go_at_call 137; refine (HB.out _).mono ?_; rintro e w2 ⟨rfl, b2⟩)
  go_ret
  exact ⟨rfl, xadZ ((Below.refl _ w).alloc (Nat.le_refl _) _) b2⟩
end Go.Proofs.YtmjjkenblfndgaaGreat


/- machine's checker: boxes; values and frames that stray. -/
namespace Go.Proofs.YtmjjkenblfndgaaGreat
open Go.RowKit
set_option linter.unusedSimpArgs false
set_option linter.unusedVariables false
theorem ximZ (n : Int) (w : World) : Calls Tryz.prog 139 #[.int .i64 n] w fun e w' => e = .returned (.bool (isI32 n)) ∧ w' = w := by
  go_enter Tryz.func139, Tryz.ntmps139
  go_wp2_with (go_at_call 41; refine (xigZ _ _).mono ?_; rintro e w4 ⟨rfl, hw4⟩; have hw4 := hw4.symm; subst hw4)
  go_ret
  exact ⟨by rw [← xihZ]; rfl, rfl⟩
theorem ckBox1_any (n : Int) (w : World) : Calls Tryz.prog 138 #[.int .i64 n] w fun e w' => e = .returned (.bool (!isI32 n)) ∧ w' = w := by
  have hnot : ∀ (x : Bool) (w : World), (Op.unary .not (.bool x)).run Tryz.prog w = .ok (.bool (!x)) w := fun _ _ => rfl
  go_enter Tryz.func138, Tryz.ntmps138
  go_wp2_with (go_at_call 139; refine (ximZ _ _).mono ?_; rintro e w4 ⟨rfl, hw4⟩; have hw4 := hw4.symm; subst hw4)
  go_ret
  exact ⟨rfl, rfl⟩
theorem xg3Z (l : List Int) (v : Value) (w : World) (h : IntsAt w v l) : Calls Tryz.prog 140 #[v, .func (.func 138) #[] #[]] w fun e w' => e = .returned (.bool (!l.all isI32)) ∧ Below w.heap.size w w' :=
  xgrZ 138 #[] (fun _ => True) isI32 l v w h trivial (fun _ _ _ _ => trivial) (xb1Z Tryz.func138 (by kernel_rfl) rfl) (fun z W _ => (ckBox1_any z W).mono (by rintro e w' ⟨rfl, rfl⟩; exact ⟨rfl, Below.refl _ _⟩))
/-- IndexFunc at a function whose contract is given: whether one is found. -/
theorem xngZ (F : Nat) (caps : Array Value) (I : World → Prop) (q : Frm → Bool) (l : List Frm) (v : Value) (w : World) (h : FrmsAt w v l) (hI : I w) (hkI : ∀ W W', I W → Below W.heap.size W W' → I W') (hE : Ent F)
    (hF : ∀ (z : Frm) (lv sv : Value) (W : World), I W → (∃ p n c, lv = .slice p n c) → (∃ p n c, sv = .slice p n c) → Calls Tryz.prog F (#[.agg #[.int .i64 z.fn, .int .i64 z.pc, lv, sv]] ++ caps) W fun e w' => e = .returned (.bool (!q z)) ∧ Below W.heap.size W w') :
    Calls Tryz.prog 178 #[v, .func (.func F) #[] caps] w fun e w' => ∃ r, e = .returned (.int .i64 r) ∧ decide (0 ≤ r) = (!l.all q) ∧ Below w.heap.size w w' := by
  obtain ⟨p, cap, rfl, hm, -, hc⟩ := h
  unfold maxLen at hm
  have HI := hideP hI
  have HKI := hideP hkI
  have HF := hideP hF
  have hEE := fun args W => hE args W
  clear hI hkI hF hE
  go_enter Tryz.func178, Tryz.ntmps178
  go_wp2
  go_loopw [5, 8] (fun _ i wr => ∃ k : Nat, k ≤ l.length ∧ i = .int .i64 k ∧ (∀ o ∈ l.take k, q o = true) ∧ Below w.heap.size w wr) (fun _ i _ => l.length - (intOf i).toNat)
  case atStart => exact ⟨0, Nat.zero_le _, rfl, by simp, Below.refl _ _⟩
  case round =>
    obtain ⟨k, hk, rfl, hok, hbw⟩ := hrel
    have HK := hideP hok
    have HC := hideP hc
    clear hok hc
    by_cases hlt : k < l.length
    · obtain ⟨z, ho⟩ := xaiZ hlt
      obtain ⟨b, off, lv, sv, rfl, hb, h0, h1, h2, h3, hl, -, hs, -⟩ := HC.out k _ ho
      obtain ⟨pl, cl, hlv, -, -⟩ := hl
      obtain ⟨ps, cs, hsv, -, -⟩ := hs
      subst hlv hsv
      have g0 := (hbw.cell (p := ⟨b, off + k * 4, none⟩) hb).trans h0
      have g1 := (hbw.cell (p := ⟨b, off + k * 4 + 1, none⟩) hb).trans h1
      have g2 := (hbw.cell (p := ⟨b, off + k * 4 + 2, none⟩) hb).trans h2
      have g3 := (hbw.cell (p := ⟨b, off + k * 4 + 3, none⟩) hb).trans h3
      have HO := hideP ho
      have hi := hideP (HKI.out _ _ HI.out hbw)
      clear ho h0 h1 h2 h3
      cases hnb : q z
      · go_wp2_with fail
        refine (HF.out z _ _ wr hi.out ⟨_, _, _, rfl⟩ ⟨_, _, _, rfl⟩).mono ?_
        rw [hnb]
        rintro e w2 ⟨rfl, hb2⟩
        go_wp2
        go_ret
        exact ⟨k, rfl, by rw [xc5Z HO.out hnb]; simp, hbw.trans (hb2.mono hbw.size)⟩
      · go_wp2_with fail
        refine (HF.out z _ _ wr hi.out ⟨_, _, _, rfl⟩ ⟨_, _, _, rfl⟩).mono ?_
        rw [hnb]
        rintro e w2 ⟨rfl, hb2⟩
        go_wp2
        go_roundw
        case rel => exact ⟨k + 1, by omega, by go_num, xddZ HK.out HO.out hnb, hbw.trans (hb2.mono hbw.size)⟩
        case measure => simp [intOf]; omega
    · have hlt' : ¬ (k : Int) < (l.length : Int) := by omega
      go_wp2
      go_ret
      refine ⟨-1, rfl, ?_, hbw⟩
      have := HK.out
      rw [List.take_of_length_le (by omega)] at this
      rw [xdeZ this]; decide
theorem xkcZ (F : Nat) (caps : Array Value) (I : World → Prop) (q : Frm → Bool) (l : List Frm) (v : Value) (w : World) (h : FrmsAt w v l) (hI : I w) (hkI : ∀ W W', I W → Below W.heap.size W W' → I W') (hE : Ent F)
    (hF : ∀ (z : Frm) (lv sv : Value) (W : World), I W → (∃ p n c, lv = .slice p n c) → (∃ p n c, sv = .slice p n c) → Calls Tryz.prog F (#[.agg #[.int .i64 z.fn, .int .i64 z.pc, lv, sv]] ++ caps) W fun e w' => e = .returned (.bool (!q z)) ∧ Below W.heap.size W w') :
    Calls Tryz.prog 142 #[v, .func (.func F) #[] caps] w fun e w' => e = .returned (.bool (!l.all q)) ∧ Below w.heap.size w w' := by
  go_enter Tryz.func142, Tryz.ntmps142
  go_wp2_with fail
  refine (xngZ F caps I q l v _ h hI hkI hE hF).mono ?_
  rintro e w2 ⟨r, rfl, hr, hb2⟩
  have HR := hideP hr
  clear hr
  go_wp2
  go_ret
  exact ⟨by rw [← HR.out]; rfl, hb2⟩
theorem xpnZ (M : Mach) (pv fv bv iv ov : Value) (w : World) (h1 : ∃ p n c, pv = .slice p n c) (h2 : ∃ p n c, fv = .slice p n c) (h3 : ∃ p n c, bv = .slice p n c) (hi : IntsAt w iv M.inp) (ho : IntsAt w ov M.out) : Calls Tryz.prog 105 #[chkV pv fv bv iv ov M] w (Says (xdoZ M) w) := by
  obtain ⟨p1, n1, c1, rfl⟩ := h1
  obtain ⟨p2, n2, c2, rfl⟩ := h2
  obtain ⟨p3, n3, c3, rfl⟩ := h3
  obtain ⟨pi, ci, hiv, him, -⟩ := id hi
  obtain ⟨po, co, hov, hom, -⟩ := id ho
  subst hiv hov
  unfold maxLen at him hom
  obtain ⟨F, B, I, O, st, tr⟩ := M
  simp only at him hom hi ho ⊢
  by_cases a1 : 10 < I.length
  · have a1' : (10 : Int) < (I.length : Int) := by omega
    go_enter Tryz.func105, Tryz.ntmps105
    go_wp2
    go_ret
    exact xb0Z (by simp [xdoZ, a1])
  have a1' : ¬ (10 : Int) < (I.length : Int) := by omega
  by_cases a2 : 10 < O.length
  · have a2' : (10 : Int) < (O.length : Int) := by omega
    go_enter Tryz.func105, Tryz.ntmps105
    go_wp2
    go_ret
    exact xb0Z (by simp [xdoZ, a2])
  have a2' : ¬ (10 : Int) < (O.length : Int) := by omega
  obtain ⟨W1, hW1⟩ : ∃ W1, w.alloc (.cells #[.slice p2 n2 c2, .slice p3 n3 c3, .slice pi I.length ci, .slice po O.length co, .int .i64 st, .int .i64 tr, .slice p1 n1 c1] 121) = W1 := ⟨_, rfl⟩
  have b1 : Below w.heap.size w W1 := by rw [← hW1]; exact (Below.refl _ w).alloc (Nat.le_refl _) _
  have x1 : W1.heap[w.heap.size]? = some (.cells #[.slice p2 n2 c2, .slice p3 n3 c3, .slice pi I.length ci, .slice po O.length co, .int .i64 st, .int .i64 tr, .slice p1 n1 c1] 121 (0, 0)) := by rw [← hW1]; exact World.alloc_heap_new w _
  have lx := xacZ x1
  have d2 : W1.cell? ⟨w.heap.size, 2, none⟩ = some (.slice pi I.length ci) := xaaZ x1 2
  have d3 : W1.cell? ⟨w.heap.size, 3, none⟩ = some (.slice po O.length co) := xaaZ x1 3
  have HI := hideP (xg3Z I _ W1 (hi.below b1))
  have HO : Hid (∀ W, Below W1.heap.size W1 W → Calls Tryz.prog 140 #[.slice po O.length co, .func (.func 138) #[] #[]] W fun e w' => e = .returned (.bool (!O.all isI32)) ∧ Below W.heap.size W w') := fun W hW => xg3Z O _ W ((ho.below b1).below hW)
  clear hi ho x1
  cases hI : I.all isI32
  · rw [hI] at HI
    go_enter Tryz.func105, Tryz.ntmps105
    go_wp2_with (go_at_call 140; refine HI.out.mono ?_; rintro e w2 ⟨rfl, b2⟩)
    go_ret
    exact ⟨by simp [xdoZ, a1, a2, hI], xadZ b1 b2⟩
  · rw [hI] at HI
    cases hO : O.all isI32
    · rw [hO] at HO
      go_enter Tryz.func105, Tryz.ntmps105
      go_wp2_with (first
        | (go_at_call 140; (with_reducible refine HI.out.mono ?_); rintro e w2 ⟨rfl, b2⟩; have e3 := (b2.cell (p := ⟨w.heap.size, 3, none⟩) lx).trans d3)
        | (go_at_call 140; (with_reducible refine (HO.out _ b2).mono ?_); rintro e w3 ⟨rfl, b3⟩))
      go_ret
      exact ⟨by simp [xdoZ, a1, a2, hI, hO], xadZ (xadZ b1 b2) b3⟩
    · rw [hO] at HO
      go_enter Tryz.func105, Tryz.ntmps105
      go_wp2_with (first
        | (go_at_call 140; (with_reducible refine HI.out.mono ?_); rintro e w2 ⟨rfl, b2⟩; have e3 := (b2.cell (p := ⟨w.heap.size, 3, none⟩) lx).trans d3)
        | (go_at_call 140; (with_reducible refine (HO.out _ b2).mono ?_); rintro e w3 ⟨rfl, b3⟩))
      go_ret
      exact ⟨by simp [xdoZ, a1, a2, hI, hO], xadZ (xadZ b1 b2) b3⟩
theorem xppZ (p : List Fn) (z : Frm) (lv sv : Value) (pp : Option Addr) (qp bx : Nat) (w : World) (h1 : ∃ p n c, lv = .slice p n c) (h2 : ∃ p n c, sv = .slice p n c) (hc : w.cell? ⟨bx, 6, none⟩ = some (.slice pp p.length qp)) : Calls Tryz.prog 141 #[.agg #[.int .i64 z.fn, .int .i64 z.pc, lv, sv], .pointer (some ⟨bx, 0, none⟩)] w fun e w' => e = .returned (.bool (!xb7Z p z)) ∧ Below w.heap.size w w' := by
  obtain ⟨p1, n1, c1, rfl⟩ := h1
  obtain ⟨p2, n2, c2, rfl⟩ := h2
  have hca := fun o => xabZ hc o
  by_cases a1 : z.fn < 0
  · go_enter Tryz.func141, Tryz.ntmps141
    go_wp2
    go_ret
    exact ⟨by simp [xb7Z]; omega, (Below.refl _ w).alloc (Nat.le_refl _) _⟩
  · by_cases a2 : z.fn ≥ (p.length : Int)
    · go_enter Tryz.func141, Tryz.ntmps141
      go_wp2
      go_ret
      exact ⟨by simp [xb7Z]; omega, (Below.refl _ w).alloc (Nat.le_refl _) _⟩
    · go_enter Tryz.func141, Tryz.ntmps141
      go_wp2
      go_ret
      exact ⟨by simp [xb7Z]; omega, (Below.refl _ w).alloc (Nat.le_refl _) _⟩
end Go.Proofs.YtmjjkenblfndgaaGreat


/- machine's checker: values that stray, entries, types of values. -/
namespace Go.Proofs.YtmjjkenblfndgaaGreat
open Go.RowKit
set_option linter.unusedSimpArgs false
set_option linter.unusedVariables false
/-- IndexFunc at a function whose contract is given: whether one is found. -/
theorem xnjZ (F : Nat) (fst : Array Value) (I : World → Prop) (q : Val → Bool) (l : List Val) (v : Value) (w : World) (h : ValsAt w v l) (hI : I w) (hkI : ∀ W W', I W → Below W.heap.size W W' → I W') (hE : Ent F)
    (hF : ∀ (z : Val) (W : World), I W → Calls Tryz.prog F (fst ++ #[.agg #[.bool z.1, .int .i64 z.2]]) W fun e w' => e = .returned (.bool (!q z)) ∧ Below W.heap.size W w') :
    Calls Tryz.prog 221 #[v, .func (.func F) fst #[]] w fun e w' => ∃ r, e = .returned (.int .i64 r) ∧ decide (0 ≤ r) = (!l.all q) ∧ Below w.heap.size w w' := by
  obtain ⟨p, cap, rfl, hm, hc⟩ := h
  unfold maxLen at hm
  have HI := hideP hI
  have HKI := hideP hkI
  have HF := hideP hF
  have hEE := fun args W => hE args W
  clear hI hkI hF hE
  go_enter Tryz.func221, Tryz.ntmps221
  go_wp2
  go_loopw [5, 8] (fun _ i wr => ∃ k : Nat, k ≤ l.length ∧ i = .int .i64 k ∧ (∀ o ∈ l.take k, q o = true) ∧ Below w.heap.size w wr) (fun _ i _ => l.length - (intOf i).toNat)
  case atStart => exact ⟨0, Nat.zero_le _, rfl, by simp, Below.refl _ _⟩
  case round =>
    obtain ⟨k, hk, rfl, hok, hbw⟩ := hrel
    have HK := hideP hok
    have HC := hideP hc
    clear hok hc
    by_cases hlt : k < l.length
    · obtain ⟨z, ho⟩ := xaiZ hlt
      obtain ⟨b, off, rfl, hb, h0, h1⟩ := HC.out k _ ho
      have g0 := (hbw.cell (p := ⟨b, off + k * 2, none⟩) hb).trans h0
      have g1 := (hbw.cell (p := ⟨b, off + k * 2 + 1, none⟩) hb).trans h1
      have HO := hideP ho
      have hi := hideP (HKI.out _ _ HI.out hbw)
      clear ho h0 h1
      cases hnb : q z
      · go_wp2_with fail
        refine (HF.out z wr hi.out).mono ?_
        rw [hnb]
        rintro e w2 ⟨rfl, hb2⟩
        go_wp2
        go_ret
        exact ⟨k, rfl, by rw [xc5Z HO.out hnb]; simp, hbw.trans (hb2.mono hbw.size)⟩
      · go_wp2_with fail
        refine (HF.out z wr hi.out).mono ?_
        rw [hnb]
        rintro e w2 ⟨rfl, hb2⟩
        go_wp2
        go_roundw
        case rel => exact ⟨k + 1, by omega, by go_num, xddZ HK.out HO.out hnb, hbw.trans (hb2.mono hbw.size)⟩
        case measure => simp [intOf]; omega
    · have hlt' : ¬ (k : Int) < (l.length : Int) := by omega
      go_wp2
      go_ret
      refine ⟨-1, rfl, ?_, hbw⟩
      have := HK.out
      rw [List.take_of_length_le (by omega)] at this
      rw [xdeZ this]; decide
theorem xkdZ (F : Nat) (fst : Array Value) (I : World → Prop) (q : Val → Bool) (l : List Val) (v : Value) (w : World) (h : ValsAt w v l) (hI : I w) (hkI : ∀ W W', I W → Below W.heap.size W W' → I W') (hE : Ent F)
    (hF : ∀ (z : Val) (W : World), I W → Calls Tryz.prog F (fst ++ #[.agg #[.bool z.1, .int .i64 z.2]]) W fun e w' => e = .returned (.bool (!q z)) ∧ Below W.heap.size W w') :
    Calls Tryz.prog 179 #[v, .func (.func F) fst #[]] w fun e w' => e = .returned (.bool (!l.all q)) ∧ Below w.heap.size w w' := by
  go_enter Tryz.func179, Tryz.ntmps179
  go_wp2_with fail
  refine (xnjZ F fst I q l v _ h hI hkI hE hF).mono ?_
  rintro e w2 ⟨r, rfl, hr, hb2⟩
  have HR := hideP hr
  clear hr
  go_wp2
  go_ret
  exact ⟨by rw [← HR.out]; rfl, hb2⟩
/-- IndexFunc at a function whose contract is given: whether one is found. -/
theorem xnfZ (F : Nat) (caps : Array Value) (I : World → Prop) (q : Nat × List Int → Bool) (l : List (Nat × List Int)) (v : Value) (w : World) (h : EntsRd w v l) (hI : I w) (hkI : ∀ W W', I W → Below W.heap.size W W' → I W') (hE : Ent F)
    (hF : ∀ (z : Nat × List Int) (u : Value) (W : World), I W → (∃ p n c, u = .slice p n c) → Calls Tryz.prog F (#[.agg #[.int .i64 z.1, u]] ++ caps) W fun e w' => e = .returned (.bool (!q z)) ∧ Below W.heap.size W w') :
    Calls Tryz.prog 235 #[v, .func (.func F) #[] caps] w fun e w' => ∃ r : Int, e = .returned (.int .i64 r) ∧ ((r = -1 ∧ l.all q = true) ∨ ∃ (k : Nat) (z : Nat × List Int), r = (k : Int) ∧ l[k]? = some z ∧ q z = false ∧ ∀ y ∈ l.take k, q y = true) ∧ Below w.heap.size w w' := by
  obtain ⟨p, cap, rfl, hm, hc⟩ := h
  unfold maxLen at hm
  have HI := hideP hI
  have HKI := hideP hkI
  have HF := hideP hF
  have hEE := fun args W => hE args W
  clear hI hkI hF hE
  go_enter Tryz.func235, Tryz.ntmps235
  go_wp2
  go_loopw [5, 8] (fun _ i wr => ∃ k : Nat, k ≤ l.length ∧ i = .int .i64 k ∧ (∀ o ∈ l.take k, q o = true) ∧ Below w.heap.size w wr) (fun _ i _ => l.length - (intOf i).toNat)
  case atStart => exact ⟨0, Nat.zero_le _, rfl, by simp, Below.refl _ _⟩
  case round =>
    obtain ⟨k, hk, rfl, hok, hbw⟩ := hrel
    have HK := hideP hok
    have HC := hideP hc
    clear hok hc
    by_cases hlt : k < l.length
    · obtain ⟨z, ho⟩ := xaiZ hlt
      obtain ⟨b, off, u, rfl, hb, h0, h1, hu⟩ := HC.out k z.1 z.2 ho
      obtain ⟨pu, cu, hus, -⟩ := hu.shp
      subst hus
      clear hu
      have g0 := (hbw.cell (p := ⟨b, off + k * 2, none⟩) hb).trans h0
      have g1 := (hbw.cell (p := ⟨b, off + k * 2 + 1, none⟩) hb).trans h1
      have HO := hideP ho
      have hi := hideP (HKI.out _ _ HI.out hbw)
      clear ho h0 h1
      cases hnb : q z
      · go_wp2_with fail
        refine (HF.out z _ wr hi.out ⟨_, _, _, rfl⟩).mono ?_
        rw [hnb]
        rintro e w2 ⟨rfl, hb2⟩
        go_wp2
        go_ret
        exact ⟨k, rfl, .inr ⟨k, z, rfl, HO.out, hnb, HK.out⟩, hbw.trans (hb2.mono hbw.size)⟩
      · go_wp2_with fail
        refine (HF.out z _ wr hi.out ⟨_, _, _, rfl⟩).mono ?_
        rw [hnb]
        rintro e w2 ⟨rfl, hb2⟩
        go_wp2
        go_roundw
        case rel => exact ⟨k + 1, by omega, by go_num, xddZ HK.out HO.out hnb, hbw.trans (hb2.mono hbw.size)⟩
        case measure => simp [intOf]; omega
    · have hlt' : ¬ (k : Int) < (l.length : Int) := by omega
      go_wp2
      go_ret
      refine ⟨-1, rfl, .inl ⟨rfl, ?_⟩, hbw⟩
      have := HK.out
      rw [List.take_of_length_le (by omega)] at this
      exact fun a b hab => List.all_eq_true.1 (xdeZ this) _ hab
theorem strays_any (M : Mach) (pv fv bv iv ov : Value) (z : Val) (w : World) (h1 : ∃ p n c, pv = .slice p n c) (h2 : ∃ p n c, fv = .slice p n c) (h3 : ∃ p c, bv = .slice p M.blocks.length c) (h4 : ∃ p n c, iv = .slice p n c) (h5 : ∃ p n c, ov = .slice p n c) : Calls Tryz.prog 180 #[chkV pv fv bv iv ov M, .agg #[.bool z.1, .int .i64 z.2]] w fun e w' => e = .returned (.bool (!okV M.blocks.length z)) ∧ Below w.heap.size w w' := by
  obtain ⟨p1, n1, c1, rfl⟩ := h1
  obtain ⟨p2, n2, c2, rfl⟩ := h2
  obtain ⟨p3, c3, rfl⟩ := h3
  obtain ⟨p4, n4, c4, rfl⟩ := h4
  obtain ⟨p5, n5, c5, rfl⟩ := h5
  obtain ⟨r, n⟩ := z
  cases r
  · go_enter Tryz.func180, Tryz.ntmps180
    have hnot : ∀ (x : Bool) (w : World), (Op.unary .not (.bool x)).run Tryz.prog w = .ok (.bool (!x)) w := fun _ _ => rfl
    go_wp2_with (go_at_call 139; refine (ximZ _ _).mono ?_; rintro e w4 ⟨rfl, hw4⟩; have hw4 := hw4.symm; subst hw4)
    go_ret
    exact ⟨by simp [okV], ((Below.refl _ w).alloc (Nat.le_refl _) _).alloc (by simp) _⟩
  · by_cases a1 : n < 0
    · go_enter Tryz.func180, Tryz.ntmps180
      go_wp2
      go_ret
      exact ⟨by simp [okV]; omega, ((Below.refl _ w).alloc (Nat.le_refl _) _).alloc (by simp) _⟩
    · have a1' : decide (n < 0) = false := by simpa using a1
      by_cases a2 : (M.blocks.length : Int) < n
      · go_enter Tryz.func180, Tryz.ntmps180
        go_wp2
        go_ret
        exact ⟨by simp [okV]; omega, ((Below.refl _ w).alloc (Nat.le_refl _) _).alloc (by simp) _⟩
      · go_enter Tryz.func180, Tryz.ntmps180
        go_wp2
        go_ret
        exact ⟨by simp [okV]; omega, ((Below.refl _ w).alloc (Nat.le_refl _) _).alloc (by simp) _⟩
theorem allOk_any (M : Mach) (pv fv bv iv ov : Value) (l : List Val) (v : Value) (w : World) (h : ValsAt w v l) (h1 : ∃ p n c, pv = .slice p n c) (h2 : ∃ p n c, fv = .slice p n c) (h3 : ∃ p c, bv = .slice p M.blocks.length c) (h4 : ∃ p n c, iv = .slice p n c) (h5 : ∃ p n c, ov = .slice p n c) : Calls Tryz.prog 179 #[v, .func (.func 180) #[chkV pv fv bv iv ov M] #[]] w fun e w' => e = .returned (.bool (!l.all (okV M.blocks.length))) ∧ Below w.heap.size w w' :=
  xkdZ 180 #[chkV pv fv bv iv ov M] (fun _ => True) (okV M.blocks.length) l v w h trivial (fun _ _ _ _ => trivial) (xb1Z Tryz.func180 (by kernel_rfl) rfl) (fun z W _ => strays_any M pv fv bv iv ov z W h1 h2 h3 h4 h5)
theorem entry1_any (n : Int) (z : Nat × List Int) (u : Value) (bx : Nat) (w : World) (h : ∃ p n c, u = .slice p n c) (hc : w.cell? ⟨bx, 0, none⟩ = some (.int .i64 n)) : Calls Tryz.prog 236 #[.agg #[.int .i64 z.1, u], .pointer (some ⟨bx, 0, none⟩)] w fun e w' => e = .returned (.bool (decide ((z.1 : Int) = n))) ∧ Below w.heap.size w w' := by
  obtain ⟨p1, n1, c1, rfl⟩ := h
  have hca := fun o => xabZ hc o
  by_cases a : (z.1 : Int) = n
  · have a' : ((z.1 : Int) == n) = true := by simpa using a
    go_enter Tryz.func236, Tryz.ntmps236
    go_wp2
    go_ret
    exact ⟨by simp [a], (Below.refl _ w).alloc (Nat.le_refl _) _⟩
  · have a' : ((z.1 : Int) == n) = false := by simpa using a
    go_enter Tryz.func236, Tryz.ntmps236
    go_wp2
    go_ret
    exact ⟨by simp [a], (Below.refl _ w).alloc (Nat.le_refl _) _⟩
def entIx : List (Nat × List Int) → Int → Int
  | [], _ => -1
  | z :: r, n => if (z.1 : Int) = n then 0 else if entIx r n < 0 then -1 else entIx r n + 1
theorem xkzZ : ∀ {l : List (Nat × List Int)} {n : Int}, (∀ z ∈ l, (z.1 : Int) ≠ n) → entIx l n = -1
  | [], _, _ => rfl
  | z :: r, n, h => by
    unfold entIx
    rw [if_neg (h z (by simp)), if_pos (by rw [xkzZ (fun y hy => h y (by simp [hy]))]; decide)]
theorem entIx_at : ∀ {l : List (Nat × List Int)} {n : Int} {k : Nat} {z : Nat × List Int}, l[k]? = some z → (z.1 : Int) = n → (∀ y ∈ l.take k, (y.1 : Int) ≠ n) → entIx l n = (k : Int)
  | [], _, k, _, h, _, _ => by simp at h
  | y :: r, n, 0, z, h, hz, _ => by
    simp at h
    subst h
    unfold entIx
    rw [if_pos hz]; rfl
  | y :: r, n, k + 1, z, h, hz, hk => by
    have ih := entIx_at (l := r) (n := n) (k := k) (by simpa using h) hz (fun y hy => hk y (by simp [hy]))
    unfold entIx
    rw [if_neg (hk y (by simp)), ih, if_neg (by omega)]
    omega
theorem xggZ : ∀ (l : List (Nat × List Int)) (n : Int), (entIx l n = -1 ∧ ∀ z ∈ l, (z.1 : Int) ≠ n) ∨ ∃ (k : Nat) (z : Nat × List Int), entIx l n = (k : Int) ∧ l[k]? = some z ∧ (z.1 : Int) = n
  | [], _ => .inl ⟨rfl, fun z hz => by simp at hz⟩
  | y :: r, n => by
    unfold entIx
    by_cases h : (y.1 : Int) = n
    · rw [if_pos h]
      exact .inr ⟨0, y, rfl, rfl, h⟩
    · rw [if_neg h]
      rcases xggZ r n with ⟨h1, h2⟩ | ⟨k, z, h1, h2, h3⟩
      · rw [h1]
        refine .inl ⟨rfl, fun z hz => ?_⟩
        rcases List.mem_cons.1 hz with rfl | hz
        · exact h
        · exact h2 z hz
      · rw [h1, if_neg (by omega)]
        exact .inr ⟨k + 1, z, by omega, by simpa using h2, h3⟩
theorem xe0Z (l : List (Nat × List Int)) (v : Value) (n : Int) (w : World) (h : EntsRd w v l) : Calls Tryz.prog 224 #[v, .int .i64 n] w fun e w' => e = .returned (.int .i64 (entIx l n)) ∧ Below w.heap.size w w' := by
  obtain ⟨W1, hW1⟩ : ∃ W1, w.alloc (.cells #[.int .i64 n] 3) = W1 := ⟨_, rfl⟩
  have b1 : Below w.heap.size w W1 := by rw [← hW1]; exact (Below.refl _ w).alloc (Nat.le_refl _) _
  have x1 : W1.heap[w.heap.size]? = some (.cells #[.int .i64 n] 3 (0, 0)) := by rw [← hW1]; exact World.alloc_heap_new w _
  have k1 : W1.cell? ⟨w.heap.size, 0, none⟩ = some (.int .i64 n) := xaaZ x1 0
  have lx := xacZ x1
  obtain ⟨pl, cl, hv⟩ := h.shp
  subst hv
  have HX := hideP (xnfZ 236 #[.pointer (some ⟨w.heap.size, 0, none⟩)] (fun W => W.cell? ⟨w.heap.size, 0, none⟩ = some (.int .i64 n) ∧ w.heap.size < W.heap.size) (fun z => !decide ((z.1 : Int) = n)) l _ W1 (h.below b1) ⟨k1, lx⟩ (fun W W' hI hb => ⟨(hb.cell (p := ⟨w.heap.size, 0, none⟩) hI.2).trans hI.1, Nat.lt_of_lt_of_le hI.2 hb.size⟩) (xb1Z Tryz.func236 (by kernel_rfl) rfl) (fun z u W hI hu => by
    have := entry1_any n z u w.heap.size W hu hI.1
    simpa using this))
  clear h x1
  go_enter Tryz.func224, Tryz.ntmps224
  go_wp2_with (go_at_call 235; refine HX.out.mono ?_; rintro e w2 ⟨r, rfl, hr, b2⟩; have HR := hideP hr; clear hr)
  go_ret
  refine ⟨?_, xadZ b1 b2⟩
  rcases HR.out with ⟨h1, h2⟩ | ⟨k, z, h1, h2, h3, h4⟩
  · have hn : ∀ z ∈ l, (z.1 : Int) ≠ n := fun z hz => by
      have h5 := List.all_eq_true.1 h2 z hz
      simp at h5
      exact h5
    rw [h1, xkzZ hn]; rfl
  · have hn : ∀ y ∈ l.take k, (y.1 : Int) ≠ n := fun y hy => by
      have h5 := h4 y hy
      simp at h5
      exact h5
    have h6 : (z.1 : Int) = n := by
      have h5 := h3
      simp at h5
      exact h5
    rw [h1, entIx_at h2 h6 hn]; rfl
theorem xkqZ (z : Val) (t : Int) (w : World) : Calls Tryz.prog 223 #[.agg #[.bool z.1, .int .i64 z.2], .int .i64 t] w fun e w' => e = .returned (.bool (asT z t)) ∧ Below w.heap.size w w' := by
  obtain ⟨r, n⟩ := z
  have hb : ∀ o, Below w.heap.size w (w.alloc o) := fun o => (Below.refl _ w).alloc (Nat.le_refl _) _
  by_cases a1 : t = 1
  · subst a1
    cases r
    · go_enter Tryz.func223, Tryz.ntmps223
      go_wp2
      go_ret
      exact ⟨by simp [asT], hb _⟩
    · go_enter Tryz.func223, Tryz.ntmps223
      go_wp2
      go_ret
      exact ⟨by simp [asT], hb _⟩
  · have a1' : (t != 1) = true := by simpa using a1
    cases r
    · go_enter Tryz.func223, Tryz.ntmps223
      go_wp2
      go_ret
      exact ⟨by simp [asT, a1], hb _⟩
    · by_cases a3 : t = 3
      · subst a3
        by_cases a0 : n = 0
        · subst a0
          go_enter Tryz.func223, Tryz.ntmps223
          go_wp2
          go_ret
          exact ⟨by simp [asT], hb _⟩
        · have a0' : (n == 0) = false := by simpa using a0
          go_enter Tryz.func223, Tryz.ntmps223
          go_wp2
          go_ret
          exact ⟨by simp [asT, a0], hb _⟩
      · have a3' : (t != 3) = true := by simpa using a3
        go_enter Tryz.func223, Tryz.ntmps223
        go_wp2
        go_ret
        exact ⟨by simp [asT, a1, a3], hb _⟩
theorem areOf_iff (l : List Val) (ts : List Int) : areOf l ts = true ↔ l.length = ts.length ∧ ∀ (k : Nat) (v : Val) (t : Int), l[k]? = some v → ts[k]? = some t → asT v t = true := by
  constructor
  · exact fun h => ⟨xbaZ h, xgqZ h⟩
  · intro ⟨h1, h2⟩
    induction l generalizing ts with
    | nil => cases ts with
      | nil => rfl
      | cons _ _ => simp at h1
    | cons a r ih => cases ts with
      | nil => simp at h1
      | cons b q =>
        simp only [areOf, Bool.and_eq_true]
        exact ⟨h2 0 a b rfl rfl, ih q (by simpa using h1) (fun k v t h3 h4 => h2 (k + 1) v t (by simpa using h3) (by simpa using h4))⟩
theorem xluZ (l : List Val) (ts : List Int) (v u : Value) (w : World) (hl : ValsAt w v l) (hu : IntsAt w u ts) : Calls Tryz.prog 222 #[v, u, .func (.func 223) #[] #[]] w fun e w' => e = .returned (.bool (areOf l ts)) ∧ Below w.heap.size w w' := by
  obtain ⟨p, cap, rfl, hlm, hc⟩ := hl
  obtain ⟨q, cap', rfl, hmm, hd⟩ := hu
  unfold maxLen at hlm hmm
  have hEE := fun args W => (xb1Z (F := 223) Tryz.func223 (by kernel_rfl) rfl) args W
  by_cases hlen : l.length = ts.length
  · have hlen' : ((l.length : Int) != (ts.length : Int)) = false := by simp; omega
    have HLEN := hideP hlen
    have HC := hideP hc
    have HD := hideP hd
    clear hc hd hlen
    go_enter Tryz.func222, Tryz.ntmps222
    go_wp2
    go_loopw [7, 8, 17] (fun _ _ i wr => ∃ k : Nat, k ≤ l.length ∧ i = .int .i64 k ∧ (∀ (j : Nat) (v : Val) (t : Int), j < k → l[j]? = some v → ts[j]? = some t → asT v t = true) ∧ Below w.heap.size w wr) (fun _ _ i _ => l.length - (intOf i).toNat)
    case atStart => exact ⟨0, Nat.zero_le _, rfl, fun j v t hj => by omega, Below.refl _ _⟩
    case round =>
      obtain ⟨k, hk, rfl, hok, hbw⟩ := hrel
      have HK := hideP hok
      clear hok
      by_cases hlt : k < l.length
      · obtain ⟨z, ho⟩ := xaiZ hlt
        obtain ⟨t, ht⟩ := xaiZ (l := ts) (k := k) (by have := HLEN.out; omega)
        obtain ⟨b, off, rfl, hb, h0, h1⟩ := HC.out k _ ho
        obtain ⟨b', off', rfl, hb', h2⟩ := HD.out k _ ht
        have g0 := (hbw.cell (p := ⟨b, off + k * 2, none⟩) hb).trans h0
        have g1 := (hbw.cell (p := ⟨b, off + k * 2 + 1, none⟩) hb).trans h1
        have g2 := (hbw.cell (p := ⟨b', off' + k, none⟩) hb').trans h2
        have g2a := fun o => xabZ g2 o
        have hlti2 : (k : Int) < (ts.length : Int) := by have := HLEN.out; omega
        have HO := hideP ho
        have HT := hideP ht
        clear ho ht h0 h1 h2
        have bA : ∀ o, Below wr.heap.size wr (wr.alloc o) := fun o => (Below.refl _ wr).alloc (Nat.le_refl _) _
        cases hnb : asT z t
        · go_wp2_with fail
          refine (xkqZ z t _).mono ?_
          rw [hnb]
          rintro e w2 ⟨rfl, hb2'⟩
          have hb2 := xadZ (bA _) hb2'
          go_wp2
          go_ret
          refine ⟨?_, hbw.trans (hb2.mono hbw.size)⟩
          cases hx : areOf l ts
          · rfl
          · have := xgqZ hx k z t HO.out HT.out
            rw [hnb] at this
            cases this
        · go_wp2_with fail
          refine (xkqZ z t _).mono ?_
          rw [hnb]
          rintro e w2 ⟨rfl, hb2'⟩
          have hb2 := xadZ (bA _) hb2'
          go_wp2
          go_roundw
          case rel =>
            refine ⟨k + 1, by omega, by go_num, fun j v t' hj h3 h4 => ?_, hbw.trans (hb2.mono hbw.size)⟩
            by_cases e : j = k
            · subst e
              rw [HO.out] at h3
              rw [HT.out] at h4
              cases h3
              cases h4
              exact hnb
            · exact HK.out j v t' (by omega) h3 h4
          case measure => simp [intOf]; omega
      · have hlt' : ¬ (k : Int) < (l.length : Int) := by omega
        go_wp2
        go_ret
        refine ⟨?_, hbw⟩
        have : areOf l ts = true := (areOf_iff l ts).2 ⟨HLEN.out, fun j v t h3 h4 => HK.out j v t (by have := xaeZ h3; omega) h3 h4⟩
        rw [this]; rfl
  · have hlen' : ((l.length : Int) != (ts.length : Int)) = true := by simp; omega
    have hne : areOf l ts = false := by
      cases hx : areOf l ts
      · rfl
      · exact absurd (xbaZ hx) hlen
    clear hc hd
    have HN := hideP hne
    clear hne hlen
    go_enter Tryz.func222, Tryz.ntmps222
    go_wp2
    go_ret
    exact ⟨by rw [HN.out]; rfl, Below.refl _ _⟩
theorem xl6Z (l : List Val) (ts : List Int) (v u : Value) (w : World) (hl : ValsAt w v l) (hu : IntsAt w u ts) : Calls Tryz.prog 181 #[v, u] w fun e w' => e = .returned (.bool (areOf l ts)) ∧ Below w.heap.size w w' := by
  have HX := hideP (xluZ l ts v u w hl hu)
  clear hl hu
  go_enter Tryz.func181, Tryz.ntmps181
  go_wp2_with (go_at_call 222; refine HX.out.mono ?_; rintro e w2 ⟨rfl, b2⟩)
  go_ret
  exact ⟨rfl, b2⟩
end Go.Proofs.YtmjjkenblfndgaaGreat


