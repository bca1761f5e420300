/- My texts Zc Zf Ze Zg: what of them is needed, joined. -/
import Derived.ArgAppend
import Derived.Maps.AppendAt
import Derived.Deep.RegionHeld3
import Derived.Test.YtmjjkenblfndgaaGreatE18
set_option maxRecDepth 100000
set_option maxHeartbeats 8000000
/- Worlds in memory of the call's own. -/
namespace Go.Proofs.YtmjjkenblfndgaaGreat
open Go.RowKit
set_option linter.unusedSimpArgs false
set_option linter.unusedVariables false
structure MV where
  fv : Value
  bv : Value
  iv : Value
  ov : Value
  st : Int
  tr : Int
def mvCells (q : List MV) : List Value := q.flatMap fun c => [c.fv, c.bv, c.iv, c.ov, .int .i64 c.st, .int .i64 c.tr]
theorem xg8Z (q r : List MV) : mvCells (q ++ r) = mvCells q ++ mvCells r := by simp [mvCells]
theorem xfbZ (q : List MV) : (mvCells q).length = q.length * 6 := by
  induction q with
  | nil => rfl
  | cons o r ih => simp [mvCells] at *; omega
theorem xf1Z (q : List MV) : ∀ (k : Nat) (c : MV), q[k]? = some c → (mvCells q)[k * 6]? = some c.fv ∧ (mvCells q)[k * 6 + 1]? = some c.bv ∧ (mvCells q)[k * 6 + 2]? = some c.iv ∧ (mvCells q)[k * 6 + 3]? = some c.ov ∧ (mvCells q)[k * 6 + 4]? = some (.int .i64 c.st) ∧ (mvCells q)[k * 6 + 5]? = some (.int .i64 c.tr) := by
  induction q with
  | nil => intro k o h; simp at h
  | cons x r ih =>
    intro k o h
    cases k with
    | zero => simp at h; subst h; simp [mvCells]
    | succ k =>
      have := ih k o (by simpa using h)
      rw [show (k + 1) * 6 = k * 6 + 1 + 1 + 1 + 1 + 1 + 1 from by omega]
      simpa [mvCells] using this
theorem xpzZ (q r : List MV) (d c : MV) : ((((((mvCells (q ++ d :: r)).set (q.length * 6) c.fv).set (q.length * 6 + 1) c.bv).set (q.length * 6 + 2) c.iv).set (q.length * 6 + 3) c.ov).set (q.length * 6 + 4) (.int .i64 c.st)).set (q.length * 6 + 5) (.int .i64 c.tr) = mvCells (q ++ c :: r) := by
  have e : ∀ (l : List Value) (i : Nat) (u : Value), (mvCells q ++ l).set (q.length * 6 + i) u = mvCells q ++ l.set i u := fun l i u => by
    rw [List.set_append_right _ _ (by rw [xfbZ]; omega), xfbZ, Nat.add_sub_cancel_left]
  have e0 : ∀ (l : List Value) (u : Value), (mvCells q ++ l).set (q.length * 6) u = mvCells q ++ l.set 0 u := fun l u => e l 0 u
  rw [xg8Z, xg8Z, e0, e, e, e, e, e]
  simp [mvCells]
theorem xkvZ (q : List MV) (k : Nat) (c : MV) (v : Value) (h : q[k]? = some c) : (mvCells q).set (k * 6 + 2) v = mvCells (q.set k { c with iv := v }) := by
  induction q generalizing k with
  | nil => simp at h
  | cons x r ih =>
    cases k with
    | zero => simp at h; subst h; simp [mvCells]
    | succ k =>
      have := ih k (by simpa using h)
      rw [show (k + 1) * 6 + 2 = k * 6 + 2 + 1 + 1 + 1 + 1 + 1 + 1 from by omega]
      simpa [mvCells] using this
theorem mvCells_ov (q : List MV) (k : Nat) (c : MV) (v : Value) (h : q[k]? = some c) : (mvCells q).set (k * 6 + 3) v = mvCells (q.set k { c with ov := v }) := by
  induction q generalizing k with
  | nil => simp at h
  | cons x r ih =>
    cases k with
    | zero => simp at h; subst h; simp [mvCells]
    | succ k =>
      have := ih k (by simpa using h)
      rw [show (k + 1) * 6 + 3 = k * 6 + 3 + 1 + 1 + 1 + 1 + 1 + 1 from by omega]
      simpa [mvCells] using this
theorem mvCells_st (q : List MV) (k : Nat) (c : MV) (n : Int) (h : q[k]? = some c) : (mvCells q).set (k * 6 + 4) (.int .i64 n) = mvCells (q.set k { c with st := n }) := by
  induction q generalizing k with
  | nil => simp at h
  | cons x r ih =>
    cases k with
    | zero => simp at h; subst h; simp [mvCells]
    | succ k =>
      have := ih k (by simpa using h)
      rw [show (k + 1) * 6 + 4 = k * 6 + 4 + 1 + 1 + 1 + 1 + 1 + 1 from by omega]
      simpa [mvCells] using this
def RestV (v w : Value) (k n : Nat) : Prop := (k = 0 ∧ v = w) ∨ ∃ g cap j c, w = .slice (some ⟨g, 0, none⟩) n cap ∧ v = .slice (some ⟨g, j, none⟩) (n - k) c ∧ (j = k ∧ k ≤ n ∨ n - k = 0 ∧ c = 0) ∧ n - k ≤ c ∧ j + c ≤ cap
structure MR where
  q : List FV
  qb : List Value
  iw : Value
  ow : Value
  I : List Int
  O : List Int
def MR.rows (r : MR) : List Value := r.iw :: r.ow :: r.qb
structure MHas (W : World) (B : Nat) (c : MV) (r : MR) (M : Mach) : Prop where
  st : c.st = M.status
  tr : c.tr = M.trap
  fr : W.ownsRow B 89 4 c.fv r.q.length (fCells r.q)
  frs : FRows W B r.q M.frames
  bl : W.ownsRow B 46 1 c.bv r.qb.length r.qb
  ints : BRows W B r.rows (r.I :: r.O :: M.blocks)
  inp : ∃ k, M.inp = r.I.drop k ∧ RestV c.iv r.iw k r.I.length
  out : ∃ k, M.out = r.O.drop k ∧ RestV c.ov r.ow k r.O.length
theorem MHas.below {W W' : World} {B : Nat} {c : MV} {r : MR} {M : Mach} (h : MHas W B c r M) (hb : Below W.heap.size W W') : MHas W' B c r M :=
  ⟨h.st, h.tr, xaoZ h.fr fun g hg => hb.block g (h.fr.lt g hg).2, h.frs.below hb, xaoZ h.bl fun g hg => hb.block g (h.bl.lt g hg).2, h.ints.below hb, h.inp, h.out⟩
theorem MHas.low {W : World} {B B' : Nat} {c : MV} {r : MR} {M : Mach} (h : MHas W B c r M) (hB : B' ≤ B) : MHas W B' c r M :=
  ⟨h.st, h.tr, xapZ h.fr hB, h.frs.low hB, xapZ h.bl hB, h.ints.low hB, h.inp, h.out⟩
theorem MHas.keep {W W' : World} {B : Nat} {t : TypeId} {c : MV} {r : MR} {M : Mach} {row : Option Nat} (h : MHas W B c r M) (hg : W.grownBy W' row) (ht : TyRow W row t) (h1 : t ≠ 89) (h2 : t ≠ 113) (h3 : t ≠ 46) (h4 : t ≠ 3) : MHas W' B c r M :=
  ⟨h.st, h.tr, xasZ h.fr hg ht h1, h.frs.keep hg ht h2, xasZ h.bl hg ht h3, h.ints.keep hg ht h4, h.inp, h.out⟩
theorem MOwn.has {W : World} {B : Nat} {fv bv iv ov : Value} {q : List FV} {qb : List Value} {M : Mach} (h : MOwn W B fv bv iv ov q qb M) : MHas W B ⟨fv, bv, iv, ov, M.status, M.trap⟩ ⟨q, qb, iv, ov, M.inp, M.out⟩ M :=
  ⟨rfl, rfl, h.fr, h.frs, h.bl, h.rows, ⟨0, rfl, .inl ⟨rfl, rfl⟩⟩, ⟨0, rfl, .inl ⟨rfl, rfl⟩⟩⟩
theorem MRes.has {W : World} {B : Nat} {fv bv iv ov : Value} {M : Mach} (h : MRes W B fv bv iv ov M) (h100 : M.inp.length ≤ 1000) : ∃ r, MHas W B ⟨fv, bv, iv, ov, M.status, M.trap⟩ r M ∧ r.I.length ≤ 1000 := by
  obtain ⟨q, qb, k, iw, I, h1, h2, h3⟩ := h
  rcases h3 with h | ⟨g, n, cap, j, c, e1, e2, e3, e4, e5, e6⟩
  · refine ⟨⟨q, qb, iw, ov, I, M.out⟩, ⟨rfl, rfl, h1.fr, h1.frs, h1.bl, h1.rows, ⟨k, h2, .inl h⟩, ⟨0, rfl, .inl ⟨rfl, rfl⟩⟩⟩, ?_⟩
    rw [h.1, List.drop_zero] at h2
    rw [← h2]
    exact h100
  · obtain ⟨p, cc, hv⟩ := xaiZ h1.inp
    have hn : n = I.length := by rw [e1] at hv; injection hv
    subst hn
    exact ⟨⟨q, qb, iw, ov, I, M.out⟩, ⟨rfl, rfl, h1.fr, h1.frs, h1.bl, h1.rows, ⟨k, h2, .inr ⟨g, cap, j, c, e1, e2, e3, e4, e5⟩⟩, ⟨0, rfl, .inl ⟨rfl, rfl⟩⟩⟩, e6⟩
theorem xmhZ {W : World} {B : Nat} {v w : Value} {k : Nat} {I L : List Int} (hrow : W.ownsRow B 3 1 w I.length (I.map (Value.int .i64))) (hL : L = I.drop k) (h : RestV v w k I.length) (hm : I.length ≤ maxLen) : FullInts W v L := by
  rcases h with ⟨rfl, rfl⟩ | ⟨g, cap, j, c, rfl, rfl, hj, hc, hjc⟩
  · rw [hL]
    exact xezZ rfl (by simpa using hrow)
  · have hlen : L.length = I.length - k := by rw [hL, List.length_drop]
    refine ⟨⟨_, c, by rw [hlen], by omega, fun i z hz => ?_⟩, xavZ _ _ _, fun p' n' c' e => by injection e with _ e2 e3; omega⟩
    have hil := xadZ hz
    rw [hL, List.getElem?_drop] at hz
    have hjk : j = k := by rcases hj with h | h <;> omega
    subst hjk
    refine ⟨g, j, rfl, (hrow.lt g rfl).2, ?_⟩
    exact xa5Z hrow (j + i) _ (by rw [List.getElem?_map, hz]; rfl)
theorem MHas.at_ {W : World} {B : Nat} {c : MV} {r : MR} {M : Mach} (h : MHas W B c r M) : MachAt W c.fv c.bv c.iv c.ov M := by
  obtain ⟨k, hk1, hk2⟩ := h.inp
  obtain ⟨j, hj1, hj2⟩ := h.out
  have r1 := h.ints.each 0 _ _ rfl rfl
  have r2 := h.ints.each 1 _ _ rfl rfl
  have s1 := h.ints.small r.I (by simp)
  have s2 := h.ints.small r.O (by simp)
  exact ⟨xkmZ h.fr h.frs, xbjZ ⟨r.qb, h.bl, xfxZ (xfxZ h.ints)⟩, xmhZ r1 hk1 hk2 (by unfold maxLen; omega), xmhZ r2 hj1 hj2 (by unfold maxLen; omega)⟩
structure WRes (W : World) (B : Nat) (ms : List MV) (rs : List MR) (L : List Mach) : Prop where
  lenM : ms.length = L.length
  lenR : rs.length = L.length
  each : ∀ (k : Nat) (c : MV) (r : MR) (M : Mach), ms[k]? = some c → rs[k]? = some r → L[k]? = some M → MHas W B c r M
  apart : ∀ (i j : Nat) (r s : MR) (x y : Value) (g : Nat), rs[i]? = some r → rs[j]? = some s → x ∈ r.rows → y ∈ s.rows → x.ownBlock = some g → y.ownBlock = some g → i = j
theorem xj5Z (W : World) (B : Nat) : WRes W B [] [] [] := ⟨rfl, rfl, fun k c r M h => by simp at h, fun i j r s x y g h => by simp at h⟩
theorem WRes.below {W W' : World} {B : Nat} {ms : List MV} {rs : List MR} {L : List Mach} (h : WRes W B ms rs L) (hb : Below W.heap.size W W') : WRes W' B ms rs L := ⟨h.lenM, h.lenR, fun k c r M h1 h2 h3 => (h.each k c r M h1 h2 h3).below hb, h.apart⟩
theorem WRes.low {W : World} {B B' : Nat} {ms : List MV} {rs : List MR} {L : List Mach} (h : WRes W B ms rs L) (hB : B' ≤ B) : WRes W B' ms rs L := ⟨h.lenM, h.lenR, fun k c r M h1 h2 h3 => (h.each k c r M h1 h2 h3).low hB, h.apart⟩
theorem WRes.keep {W W' : World} {B : Nat} {t : TypeId} {ms : List MV} {rs : List MR} {L : List Mach} {row : Option Nat} (h : WRes W B ms rs L) (hg : W.grownBy W' row) (ht : TyRow W row t) (h1 : t ≠ 89) (h2 : t ≠ 113) (h3 : t ≠ 46) (h4 : t ≠ 3) : WRes W' B ms rs L := ⟨h.lenM, h.lenR, fun k c r M a1 a2 a3 => (h.each k c r M a1 a2 a3).keep hg ht h1 h2 h3 h4, h.apart⟩
theorem MHas.rows_lt {W : World} {B : Nat} {c : MV} {r : MR} {M : Mach} (h : MHas W B c r M) {x : Value} {g : Nat} (hx : x ∈ r.rows) (hg : x.ownBlock = some g) : B ≤ g ∧ g < W.heap.size := by
  obtain ⟨k, hk⟩ := List.getElem?_of_mem hx
  obtain ⟨b, hb⟩ := xagZ (l := r.I :: r.O :: M.blocks) (k := k) (by rw [← h.ints.len]; exact xadZ hk)
  exact (h.ints.each k x b hk hb).lt g hg
theorem WRes.snoc {W : World} {B B' : Nat} {ms : List MV} {rs : List MR} {L : List Mach} {c : MV} {r : MR} {M : Mach} (h : WRes W B ms rs L) (hn : MHas W B' c r M) (hB : B ≤ B') (hlow : ∀ (k : Nat) (s : MR) (x : Value) (g : Nat), rs[k]? = some s → x ∈ s.rows → x.ownBlock = some g → g < B') : WRes W B (ms ++ [c]) (rs ++ [r]) (L ++ [M]) := by
  refine ⟨by simp [h.lenM], by simp [h.lenR], fun k d s N h1 h2 h3 => ?_, fun i j s t x y g h1 h2 hx hy gx gy => ?_⟩
  · rcases xbcZ h1 with ⟨a1, a2⟩ | ⟨a1, rfl⟩
    · rcases xbcZ h2 with ⟨b1, b2⟩ | ⟨b1, rfl⟩
      · rcases xbcZ h3 with ⟨c1, c2⟩ | ⟨c1, rfl⟩
        · exact h.each k d s N a2 b2 c2
        · have := h.lenM; omega
      · have := h.lenM; have := h.lenR; omega
    · rcases xbcZ h2 with ⟨b1, b2⟩ | ⟨b1, rfl⟩
      · have := h.lenM; have := h.lenR; omega
      · rcases xbcZ h3 with ⟨c1, c2⟩ | ⟨c1, rfl⟩
        · have := h.lenM; omega
        · exact hn.low hB
  · rcases xbcZ h1 with ⟨a1, a2⟩ | ⟨a1, rfl⟩
    · rcases xbcZ h2 with ⟨b1, b2⟩ | ⟨b1, rfl⟩
      · exact h.apart i j s t x y g a2 b2 hx hy gx gy
      · have := hlow i s x g a2 hx gx
        have := (hn.rows_lt hy gy).1
        omega
    · rcases xbcZ h2 with ⟨b1, b2⟩ | ⟨b1, rfl⟩
      · have := hlow j t y g b2 hy gy
        have := (hn.rows_lt hx gx).1
        omega
      · omega
theorem WRes.lt {W : World} {B : Nat} {ms : List MV} {rs : List MR} {L : List Mach} (h : WRes W B ms rs L) {k : Nat} {s : MR} {x : Value} {g : Nat} (hs : rs[k]? = some s) (hx : x ∈ s.rows) (hg : x.ownBlock = some g) : g < W.heap.size := by
  have hl := xadZ hs
  have h1 := h.lenM
  have h2 := h.lenR
  obtain ⟨c, hc⟩ := xagZ (l := ms) (k := k) (by omega)
  obtain ⟨M, hM⟩ := xagZ (l := L) (k := k) (by omega)
  exact ((h.each k c s M hc hs hM).rows_lt hx hg).2
theorem WRes.at_ {W : World} {B B' : Nat} {v : Value} {ms : List MV} {rs : List MR} {L : List Mach} (h : WRes W B ms rs L) (hr : W.ownsRow B' 48 6 v ms.length (mvCells ms)) : MachsAt W v L := by
  rcases hr.2 with ⟨rfl, h0⟩ | ⟨g, cap, cur, rfl, hb, hg, h1, h2, h3, h4⟩
  · have hl : L = [] := List.length_eq_zero_iff.1 (by rw [← h.lenM]; exact h0)
    subst hl
    exact ⟨none, 0, rfl, Nat.zero_le _, Nat.le_refl _, fun k M hk => by simp at hk⟩
  · refine ⟨some ⟨g, 0, none⟩, cap, by rw [h.lenM], by rw [← h.lenM]; omega, by rw [← h.lenM]; exact h1, fun k M hk => ?_⟩
    have hkl := xadZ hk
    obtain ⟨c, hc⟩ := xagZ (l := ms) (k := k) (by rw [h.lenM]; exact hkl)
    obtain ⟨r, hrr⟩ := xagZ (l := rs) (k := k) (by rw [h.lenR]; exact hkl)
    have hM := h.each k c r M hc hrr hk
    obtain ⟨a0, a1, a2, a3, a4, a5⟩ := xf1Z ms k c hc
    refine ⟨g, 0, c.fv, c.bv, c.iv, c.ov, rfl, xacZ hg, ?_, ?_, ?_, ?_, ?_, ?_, hM.at_⟩
    · rw [Nat.zero_add]; exact xa5Z hr _ _ a0
    · rw [Nat.zero_add]; exact xa5Z hr _ _ a1
    · rw [Nat.zero_add]; exact xa5Z hr _ _ a2
    · rw [Nat.zero_add]; exact xa5Z hr _ _ a3
    · rw [Nat.zero_add, ← hM.st]; exact xa5Z hr _ _ a4
    · rw [Nat.zero_add, ← hM.tr]; exact xa5Z hr _ _ a5
end Go.Proofs.YtmjjkenblfndgaaGreat


/- append onto what is left of a row of numbers. -/
namespace Go.Proofs.YtmjjkenblfndgaaGreat
open Go.RowKit
set_option linter.unusedSimpArgs false
set_option linter.unusedVariables false
theorem xk6Z {P : Program} (w : World) (t ty e : TypeId) (i : TypeInfo) (ht : P.underlying t = some (.slice e)) (hi : P.info? e = some i) (base : Option Addr) (n c : Nat) (hle : n ≤ c) : (Builtin.append_ #[t, t] ty #[.slice base n c, .slice none 0 0]).run P w = .ok (.slice base n c) w := by
  cases base <;> simp [Builtin.append_, run_underlying ht, sizeOf, typeInfo, hi, Builtin.lenOf, Builtin.firstCells, hle, storeCells]
theorem xjyZ {v w : Value} {k n : Nat} (h : RestV v w k n) {W : World} {B : Nat} {xs : List Value} (hr : W.ownsRow B 3 1 w n xs) : ∃ p m c, v = .slice p m c ∧ m ≤ c ∧ m = n - k := by
  rcases h with ⟨rfl, rfl⟩ | ⟨g, cap, j, c, _, rfl, _, hc, _⟩
  · rcases hr.2 with ⟨rfl, h0⟩ | ⟨g, cap, cur, rfl, _, _, h1, _⟩
    · exact ⟨_, _, _, rfl, Nat.le_refl _, by omega⟩
    · exact ⟨_, _, _, rfl, h1, by omega⟩
  · exact ⟨_, _, _, rfl, hc, rfl⟩
theorem xejZ (l : List Int) : ∀ u ∈ l.map (Value.int .i64), u.oneCell' = true := fun u hu => by
  obtain ⟨n, _, rfl⟩ := List.mem_map.1 hu
  rfl
theorem xeeZ {w : World} {ad : Addr} {n c : Nat} {l : List Int} (h : IntsAt w (.slice (some ad) n c) l) : ∀ (j : Nat) (u : Value), (l.map (Value.int .i64))[j]? = some u → w.cell? (ad.add j) = some u := fun j u hj => by
  obtain ⟨p, cap, he, _, hc⟩ := h
  cases he
  rw [List.getElem?_map] at hj
  cases hl : l[j]? with
  | none => rw [hl] at hj; cases hj
  | some z =>
    rw [hl] at hj
    cases hj
    obtain ⟨b, off, hb, _, hcell⟩ := hc j z hl
    cases hb
    rw [Addr.add_lit]
    exact hcell
theorem grown_any {w w' : World} (h : w.grownBy w' none) (r : Option Nat) : w.grownBy w' r := ⟨h.os, h.tape, h.output, h.size, fun k hk _ => h.block k hk (by simp)⟩
structure AppV (w w' : World) (B N : Nat) (iw : Value) (L : List Int) (iv' iw' : Value) (k' : Nat) (I' : List Int) : Prop where
  row : w'.ownsRow B 3 1 iw' I'.length (I'.map (Value.int .i64))
  rest : RestV iv' iw' k' I'.length
  is_ : I'.drop k' = L
  few : I'.length ≤ N
  grown : w.grownBy w' iw.ownBlock
  at_ : ∀ z, iw'.ownBlock = some z → iw.ownBlock = some z ∨ w.heap.size ≤ z
theorem xk5Z (w : World) {B k : Nat} {iv iw u : Value} {I l : List Int} (hrow : w.ownsRow B 3 1 iw I.length (I.map (Value.int .i64))) (hv : RestV iv iw k I.length) (hu : FullInts w u l) (hsz : I.length + l.length ≤ 100000) (hbase : B ≤ w.heap.size) (ty : TypeId) :
    ∃ iv' w' iw' k' I', (Builtin.append_ #[46, 46] ty #[iv, u]).run Tryz.prog w = .ok iv' w' ∧ AppV w w' B (I.length + l.length) iw (I.drop k ++ l) iv' iw' k' I' := by
  obtain ⟨i0, hi, hz0, hz1, hz2⟩ := info_parts xe9Z
  have hund := Tryz.underlying46
  obtain ⟨p, c', hu1, -, hcells⟩ := id hu.at_
  subst hu1
  have same : l = [] → ∀ (q : Option Addr) (n c : Nat), iv = .slice q n c → ∃ I' : List Int, I = I' ∧ AppV w w B (I.length + l.length) iw (I.drop k ++ l) iv iw k I := fun hl q n c he => ⟨I, rfl, hrow, hv, by rw [hl, List.append_nil], by omega, World.grownBy.refl _ _, fun z hz => .inl hz⟩
  cases p with
  | none =>
    have hl : l = [] := by
      cases l with
      | nil => rfl
      | cons a r => obtain ⟨b, off, hb, _⟩ := hcells 0 a rfl; cases hb
    obtain ⟨q, n, c, he, hle, -⟩ := xjyZ hv hrow
    obtain ⟨-, -, hA⟩ := same hl q n c he
    have hc0 : c' = 0 := hu.nil _ _ (by rw [hl])
    subst hl hc0
    rw [he] at hA ⊢
    exact ⟨_, w, iw, k, I, xk6Z w _ ty _ i0 hund hi q n c hle, hA⟩
  | some ad =>
    have hnl : (l.map (Value.int .i64)).length = l.length * 1 := by simp
    rcases hv with ⟨rfl, rfl⟩ | ⟨g, cap, j, c, rfl, rfl, hj, hc, hjc⟩
    · obtain ⟨v', w', hrun, r1, r2, _, r3⟩ := run_append_own_at (P := Tryz.prog) w B 46 ty 3 i0 (.int .i64 0) 1 8 hund hi hz0 hz1 hz2 rfl (by decide) iv I.length _ hrow ad l.length c' _ hnl (xeeZ hu.at_) (xejZ l) (by unfold maxLen; omega) (by omega) hbase
      refine ⟨v', w', v', 0, I ++ l, hrun, ⟨by rw [List.length_append, List.map_append]; exact r1, .inl ⟨rfl, rfl⟩, by simp, by rw [List.length_append]; omega, r2, fun z hz => ?_⟩⟩
      rcases r3 with h | h
      · exact .inl (h.symm.trans hz)
      · rw [h] at hz; cases hz; exact .inr (Nat.le_refl _)
    · obtain ⟨cur, hg, hn, hcm, hcs⟩ : ∃ cur, w.heap[g]? = some (.cells cur 3 (0, 0)) ∧ I.length ≤ cap ∧ cap ≤ maxLen ∧ cur.size = cap * 1 := by
        rcases hrow.2 with ⟨h1, _⟩ | ⟨g', cap', cur, h1, _, h3, h4, h5, h6, _⟩
        · cases h1
        · cases h1; exact ⟨cur, h3, h4, h5, h6⟩
      by_cases hroom : (I.length - k) + l.length ≤ c
      · rcases hj with ⟨rfl, hkn⟩ | ⟨hn0, hc0⟩
        · have hsum : j + (I.length - j) * i0.size = 0 + I.length * i0.size := by rw [hz1]; omega
          have hin : ∀ x, x < (l.map (Value.int .i64)).length → (w.cell? ⟨g, j + (I.length - j) * i0.size + x, none⟩).isSome = true := fun x hx => by
            rw [xaaZ hg, hz1]
            have : j + (I.length - j) * 1 + x < cur.size := by simp at hx; omega
            rw [Array.getElem?_eq_getElem this]
            rfl
          have hfr : ∀ x, x < (l.map (Value.int .i64)).length → w.frozen? ⟨g, j + (I.length - j) * i0.size + x, none⟩ = false := fun x _ => Lib.frozen_of_heap hg _
          have hrun := run_append_room_cells (P := Tryz.prog) w 46 ty 3 i0 hund hi g j (I.length - j) c ad l.length c' _ (by rw [hz1]; exact hnl) (xeeZ hu.at_) (xejZ l) hroom hin hfr
          have hrun2 := run_append_room_cells (P := Tryz.prog) w 46 ty 3 i0 hund hi g 0 I.length cap ad l.length c' _ (by rw [hz1]; exact hnl) (xeeZ hu.at_) (xejZ l) (by omega) (by rw [← hsum]; exact hin) (by rw [← hsum]; exact hfr)
          obtain ⟨v', w', hrun3, r1, r2, _, r3⟩ := run_append_own_at (P := Tryz.prog) w B 46 ty 3 i0 (.int .i64 0) 1 8 hund hi hz0 hz1 hz2 rfl (by decide) _ I.length _ hrow ad l.length c' _ hnl (xeeZ hu.at_) (xejZ l) (by unfold maxLen; omega) (by omega) hbase
          rw [hrun2] at hrun3
          cases hrun3
          rw [hsum] at hrun
          refine ⟨_, _, _, j, I ++ l, hrun, ⟨by rw [List.length_append, List.map_append]; exact r1, .inr ⟨g, cap, j, c, by rw [List.length_append], by rw [List.length_append, show I.length + l.length - j = I.length - j + l.length by omega], .inl ⟨rfl, by rw [List.length_append]; omega⟩, by rw [List.length_append]; omega, hjc⟩, ?_, by rw [List.length_append]; omega, r2, fun z hz => .inl (by simpa [Value.ownBlock] using hz)⟩⟩
          rw [List.drop_append_of_le_length hkn]
        · have hl : l = [] := List.length_eq_zero_iff.1 (by omega)
          subst hl
          have hrun := run_append_room_cells (P := Tryz.prog) w 46 ty 3 i0 hund hi g j (I.length - k) c ad 0 c' [] (by simp) (fun j u h => by simp at h) (fun u h => by simp at h) (by simpa using hroom) (fun x hx => by simp at hx) (fun x hx => by simp at hx)
          have hsc : w.setCells g (j + (I.length - k) * i0.size) [] = w := rfl
          rw [hsc, Nat.add_zero] at hrun
          exact ⟨_, w, _, k, I, hrun, hrow, .inr ⟨g, cap, j, c, rfl, rfl, .inr ⟨hn0, hc0⟩, hc, hjc⟩, by rw [List.append_nil], by omega, World.grownBy.refl _ _, fun z hz => .inl hz⟩
      · have hold : ∀ x y, ((I.drop k).map (Value.int .i64))[x]? = some y → w.cell? ((⟨g, j, none⟩ : Addr).add x) = some y := fun x y hx => by
          rcases hj with ⟨rfl, hkn⟩ | ⟨hn0, _⟩
          · rw [List.getElem?_map, List.getElem?_drop] at hx
            have := xa5Z hrow (j + x) y (by rw [List.getElem?_map]; exact hx)
            rw [Addr.add_lit]
            exact this
          · have : I.drop k = [] := List.drop_eq_nil_of_le (by omega)
            rw [this] at hx
            simp at hx
        obtain ⟨v', w', hrun, r1, r2⟩ := run_append_arg_grows (P := Tryz.prog) w 46 ty 3 i0 (.int .i64 0) 1 8 hund hi hz0 hz1 hz2 rfl (by decide) ⟨g, j, none⟩ (I.length - k) c ((I.drop k).map (Value.int .i64)) (by simp) hold ad l.length c' _ hnl (xeeZ hu.at_) (by omega) (by unfold maxLen; omega) (by omega)
        refine ⟨v', w', v', 0, I.drop k ++ l, hrun, ⟨?_, .inl ⟨rfl, rfl⟩, rfl, by simp, grown_any r2 _, fun z hz => .inr (r1.lt z hz).1⟩⟩
        have h5 := xapZ r1 hbase
        rw [List.length_append, List.length_drop, List.map_append]
        exact h5
theorem xivZ {w : World} {ops : Array Oper} {rest : List Oper} {o : Oper} {a : Act} {Q : Exit → Act → World → Prop} (hgd : o.guard = none) (s x : Operand)
    (ho : o.op = .call { callee := .builtin .append, args := #[s, x], argTypes := #[46, 46] }) {B k : Nat} {iv iw u : Value} {I l : List Int} (hs : a.eval s = iv) (hrow : w.ownsRow B 3 1 iw I.length (I.map (Value.int .i64))) (hv : RestV iv iw k I.length) (hx : a.eval x = u) (hu : FullInts w u l) (hsz : I.length + l.length ≤ 100000) (hbase : B ≤ w.heap.size)
    (h : ∀ iv' w' iw' k' I', AppV w w' B (I.length + l.length) iw (I.drop k ++ l) iv' iw' k' I' → wpList Tryz.prog ops Q rest (a.put o.dst iv') w') : wpList Tryz.prog ops Q (o :: rest) a w := by
  obtain ⟨iv', w', iw', k', I', hrun, hA⟩ := xk5Z w hrow hv hu hsz hbase o.type
  refine wpList_plain hgd fun K hK => ?_
  unfold Oper.wp
  simp [execOp, ho, resolve, invoke, builtin, hs, hx, hrun, Result.andThen]
  exact hK _ _ (h _ _ _ _ _ hA)
end Go.Proofs.YtmjjkenblfndgaaGreat


/- fresh.World. -/
namespace Go.Proofs.YtmjjkenblfndgaaGreat
open Go.RowKit
set_option linter.unusedSimpArgs false
set_option linter.unusedVariables false
def zMV : MV := ⟨.slice none 0 0, .slice none 0 0, .slice none 0 0, .slice none 0 0, 0, 0⟩
theorem infoMach : (Tryz.prog.info? 48).map (fun i => (i.zero, i.size, i.bytes)) = some (some (.agg #[.slice none 0 0, .slice none 0 0, .slice none 0 0, .slice none 0 0, .int .i64 0, .int .i64 0]), 6, 112) := by kernel_rfl
theorem made_machs (n : Nat) : (madeCells (Value.agg #[.slice none 0 0, .slice none 0 0, .slice none 0 0, .slice none 0 0, .int .i64 0, .int .i64 0]).cells (n * 6)).toList = mvCells (List.replicate n zMV) := by
  have h : (Value.agg #[.slice none 0 0, .slice none 0 0, .slice none 0 0, .slice none 0 0, .int .i64 0, .int .i64 0]).cells = #[.slice none 0 0, .slice none 0 0, .slice none 0 0, .slice none 0 0, .int .i64 0, .int .i64 0] := rfl
  rw [h]
  apply List.ext_getElem?
  intro k
  by_cases hk : k < n * 6
  · have hq : k / 6 < n := by omega
    obtain ⟨a0, a1, a2, a3, a4, a5⟩ := xf1Z (List.replicate n zMV) (k / 6) zMV (by simp [hq])
    have hm : k % 6 = 0 ∨ k % 6 = 1 ∨ k % 6 = 2 ∨ k % 6 = 3 ∨ k % 6 = 4 ∨ k % 6 = 5 := by omega
    rcases hm with hm | hm | hm | hm | hm | hm
    · rw [show k / 6 * 6 = k by omega] at a0
      rw [a0]; simp [madeCells, hk, hm, zMV]
    · rw [show k / 6 * 6 + 1 = k by omega] at a1
      rw [a1]; simp [madeCells, hk, hm, zMV]
    · rw [show k / 6 * 6 + 2 = k by omega] at a2
      rw [a2]; simp [madeCells, hk, hm, zMV]
    · rw [show k / 6 * 6 + 3 = k by omega] at a3
      rw [a3]; simp [madeCells, hk, hm, zMV]
    · rw [show k / 6 * 6 + 4 = k by omega] at a4
      rw [a4]; simp [madeCells, hk, hm, zMV]
    · rw [show k / 6 * 6 + 5 = k by omega] at a5
      rw [a5]; simp [madeCells, hk, hm, zMV]
  · rw [List.getElem?_eq_none (by simp [madeCells]; omega), List.getElem?_eq_none (by rw [xfbZ]; simp; omega)]
theorem sixAt_set {W : World} {B R n : Nat} {q r : List MV} {d c : MV} (h : W.ownsRow B 48 6 (.slice (some ⟨R, 0, none⟩) n n) n (mvCells (q ++ d :: r))) : ((((((W.setCell ⟨R, q.length * 6, none⟩ c.fv).setCell ⟨R, q.length * 6 + 1, none⟩ c.bv).setCell ⟨R, q.length * 6 + 2, none⟩ c.iv).setCell ⟨R, q.length * 6 + 3, none⟩ c.ov).setCell ⟨R, q.length * 6 + 4, none⟩ (.int .i64 c.st)).setCell ⟨R, q.length * 6 + 5, none⟩ (.int .i64 c.tr)).ownsRow B 48 6 (.slice (some ⟨R, 0, none⟩) n n) n (mvCells (q ++ c :: r)) := by
  rw [← xpzZ q r d c]
  exact xbpZ (xbpZ (xbpZ (xbpZ (xbpZ (xbpZ h _ _) _ _) _ _) _ _) _ _) _ _
theorem xp7Z (W : World) (R i : Nat) (a b c d e f : Value) : W.grownBy ((((((W.setCell ⟨R, i, none⟩ a).setCell ⟨R, i + 1, none⟩ b).setCell ⟨R, i + 2, none⟩ c).setCell ⟨R, i + 3, none⟩ d).setCell ⟨R, i + 4, none⟩ e).setCell ⟨R, i + 5, none⟩ f) (some R) :=
  (((((xakZ W ⟨R, i, none⟩ a).trans (xakZ _ ⟨R, i + 1, none⟩ b)).trans (xakZ _ ⟨R, i + 2, none⟩ c)).trans (xakZ _ ⟨R, i + 3, none⟩ d)).trans (xakZ _ ⟨R, i + 4, none⟩ e)).trans (xakZ _ ⟨R, i + 5, none⟩ f)
theorem xdoZ {W : World} {R i : Nat} {a b c d e f v : Value} {p : Addr} (h : W.cell? p = some v) (hn : ¬ p.block = R) : ((((((W.setCell ⟨R, i, none⟩ a).setCell ⟨R, i + 1, none⟩ b).setCell ⟨R, i + 2, none⟩ c).setCell ⟨R, i + 3, none⟩ d).setCell ⟨R, i + 4, none⟩ e).setCell ⟨R, i + 5, none⟩ f).cell? p = some v := by
  have key : ∀ (W : World) (j : Nat) (u : Value), W.cell? p = some v → (W.setCell ⟨R, j, none⟩ u).cell? p = some v := fun W j u h => (World.cell?_of_block (Below.heap_setCell W _ u p.block hn)).trans h
  exact key _ _ _ (key _ _ _ (key _ _ _ (key _ _ _ (key _ _ _ (key _ _ _ h)))))
def WNew (L : List Mach) (w : World) (u : Value) (w' : World) : Prop := ∃ ms rs, w'.ownsRow w.heap.size 48 6 u ms.length (mvCells ms) ∧ WRes w' w.heap.size ms rs L ∧ (∀ (k : Nat) (r : MR), rs[k]? = some r → r.I.length ≤ 1000) ∧ Below w.heap.size w w'
theorem xg6Z (L : List Mach) (v : Value) (w : World) (h : MachsAt w v L) (h4 : L.length ≤ 4) (hsm : ∀ M ∈ L, SmallM M) : Calls Tryz.prog 39 #[.agg #[v]] w fun e w' => ∃ u, e = .returned (.agg #[u]) ∧ WNew L w u w' := by
  obtain ⟨i0, hi, hz0, hz1, hz2⟩ := info_parts infoMach
  obtain ⟨pw, cw, hv, hcw⟩ := h.shp
  subst hv
  obtain ⟨W1, hW1⟩ : ∃ W1, (w.alloc (.cells #[.slice pw L.length cw] 27)).alloc (.cells #[.slice none 0 0] 27) = W1 := ⟨_, rfl⟩
  have b1 : Below w.heap.size w W1 := by rw [← hW1]; exact ((Below.refl _ w).alloc (Nat.le_refl _) _).alloc (by simp) _
  have u1 : W1.heap[w.heap.size]? = some (.cells #[.slice pw L.length cw] 27 (0, 0)) := by rw [← hW1]; exact xalZ (World.alloc_heap_new w _) _
  have u2 : W1.heap[w.heap.size + 1]? = some (.cells #[.slice none 0 0] 27 (0, 0)) := by rw [← hW1]; exact xa1Z _ _ _
  have sW1 : W1.heap.size = w.heap.size + 1 + 1 := by rw [← hW1]; simp
  have KC : Hid (∀ W, Below W1.heap.size W1 W → W.cell? ⟨w.heap.size, 0, none⟩ = some (.slice pw L.length cw) ∧ W.heap[w.heap.size + 1]? = some (.cells #[.slice none 0 0] 27 (0, 0))) := fun W hW => ⟨xaaZ ((hW.block _ (xacZ u1)).trans u1) 0, (hW.block _ (xacZ u2)).trans u2⟩
  have H := hideP (h.below b1)
  have HSM := hideP hsm
  have HB1 := hideP b1
  have HSW := hideP sW1
  obtain ⟨e0, e1⟩ := KC.out W1 (Below.refl _ _)
  clear h hsm u1 u2 b1 sW1
  go_enter Tryz.func39, Tryz.ntmps39
  go_wp2_with (at_make; refine wpList_make_full _ rfl _ _ 25 rfl W1.heap.size 48 i0 (.agg #[.slice none 0 0, .slice none 0 0, .slice none 0 0, .slice none 0 0, .int .i64 0, .int .i64 0]) 6 Tryz.underlying25 hi hz0 hz1 _ _ _ _ L.length rfl rfl (by omega) (by omega) (by rw [hz2]; omega) (by unfold maxLen; omega) (Nat.le_refl _) ?_; intro w1 hown1 hg1; rw [made_machs] at hown1; have bw1 : Below W1.heap.size W1 w1 := (Below.refl _ W1).grown hg1 (Nat.le_refl _) (fun k hk => by cases hk); have HOWN1 := hideP hown1; obtain ⟨W2, hW2⟩ : ∃ W2, w1.alloc (.cells #[.slice (some ⟨W1.heap.size, 0, none⟩) L.length L.length] 27) = W2 := ⟨_, rfl⟩; have bw2 : Below w1.heap.size w1 W2 := (by rw [← hW2]; exact (Below.refl _ w1).alloc (Nat.le_refl _) _); have hz2w : W2.heap[w1.heap.size]? = some (.cells #[.slice (some ⟨W1.heap.size, 0, none⟩) L.length L.length] 27 (0, 0)) := (by rw [← hW2]; exact World.alloc_heap_new w1 _); have e0' := (KC.out W2 (xaeZ bw1 bw2)).1; have hsz1 : W1.heap.size < w1.heap.size ∨ L.length = 0 := (by rcases hown1.2 with ⟨h1, h2⟩ | ⟨g, cap, cur, h1, h2, h3, h4⟩; exact .inr h2; cases h1; exact .inl (xacZ h3)); have BW2 := hideP (xaeZ bw1 bw2); have HZ2 := hideP hz2w; have z0' := xaaZ hz2w 0; have ROW2 := hideP (xaoZ hown1 (W' := W2) fun j hj => bw2.block j (hown1.lt j hj).2); simp at z0'; have lt1 := xacZ hz2w; clear hown1 hg1 hz2w bw2 bw1)
  go_loopw [4, 5, 14] (fun _ _ v14 wr => ∃ (k : Nat) (ms : List MV) (rs : List MR), k ≤ L.length ∧ v14 = .int .i64 k ∧ ms.length = k ∧ wr.ownsRow W1.heap.size 48 6 (.slice (some ⟨W1.heap.size, 0, none⟩) L.length L.length) L.length (mvCells (ms ++ List.replicate (L.length - k) zMV)) ∧ WRes wr W1.heap.size ms rs (L.take k) ∧ (∀ (i : Nat) (r : MR), rs[i]? = some r → r.I.length ≤ 1000) ∧ wr.heap[w1.heap.size]? = some (.cells #[.slice (some ⟨W1.heap.size, 0, none⟩) L.length L.length] 27 (0, 0)) ∧ Below W1.heap.size W1 wr) (fun _ _ v14 _ => L.length - (intOf v14).toNat)
  case atStart => exact ⟨0, [], [], Nat.zero_le _, rfl, rfl, by simpa using ROW2.out, by simpa using xj5Z W2 W1.heap.size, fun i r h => by simp at h, HZ2.out, BW2.out⟩
  case round =>
    rename World => w2
    obtain ⟨k, ms, rs, hk, rfl, hql, hrow, hrs, hfi, hzb, b2⟩ := hrel
    have HFI := hideP hfi
    clear hfi
    by_cases hlt : k < L.length
    rotate_left
    · have hlti : ¬ (k : Int) < (L.length : Int) := by omega
      have hkl : k = L.length := by omega
      subst hkl
      have HRS := hideP hrs
      have HROW := hideP hrow
      have HQL := hideP hql
      have HZB := hideP hzb
      have HBB := hideP b2
      have z0 := xaaZ hzb 0
      simp at z0
      have hres := (KC.out w2 b2).2
      have HRB := hideP hres
      have s0 := xaaZ hres 0
      simp at s0
      have y0 := Lib.frozen_of_heap hres 0
      clear hrs hrow hql hzb b2 hres
      go_wp2
      refine bodyPost_ret (v := .agg #[.slice (some ⟨W1.heap.size, 0, none⟩) L.length L.length]) (by simp [results, Tryz.results39, go_sem, s0]) rfl ?_
      have h1 := HRS.out
      rw [List.take_of_length_le (Nat.le_refl _)] at h1
      have h2 := HROW.out
      rw [Nat.sub_self, List.replicate_zero, List.append_nil] at h2
      have hg := xakZ w2 ⟨w.heap.size + 1, 0, none⟩ (.slice (some ⟨W1.heap.size, 0, none⟩) L.length L.length)
      have hty : TyRow w2 (some (w.heap.size + 1)) 27 := xatZ HRB.out
      have hs := HSW.out
      refine ⟨_, rfl, ms, rs, ?_, (h1.low (by omega)).keep hg hty (by decide) (by decide) (by decide) (by decide), HFI.out, ((HB1.out.trans (HBB.out.mono HB1.out.size))).grown hg (by have := (HB1.out.trans (HBB.out.mono HB1.out.size)).size; exact this) (fun k hk => by cases hk; exact Nat.le_succ _)⟩
      rw [HQL.out]
      exact xasZ (xapZ h2 (by omega)) hg hty (by decide)
    have hlti : (k : Int) < (L.length : Int) := by omega
    obtain ⟨M, hM⟩ := xagZ hlt
    obtain ⟨p9, c9, he9, -, -, hf⟩ := (H.out.below b2)
    cases he9
    obtain ⟨g, off, fv, bv, iv, ov, hpw, hg, m0, m1, m2, m3, m4, m5, hMA⟩ := hf k M hM
    subst hpw
    obtain ⟨⟨pf, cf, hfv⟩, ⟨pb, cb, hbv⟩, ⟨pi, ci, hiv⟩, ⟨po, co, hov⟩⟩ := hMA.shp
    subst hfv hbv hiv hov
    obtain ⟨W3, hW3⟩ : ∃ W3, w2.alloc (.cells #[.slice pf M.frames.length cf, .slice pb M.blocks.length cb, .slice pi M.inp.length ci, .slice po M.out.length co, .int .i64 M.status, .int .i64 M.trap] 48) = W3 := ⟨_, rfl⟩
    have b3 : Below w2.heap.size w2 W3 := by rw [← hW3]; exact (Below.refl _ w2).alloc (Nat.le_refl _) _
    have x3 : W3.heap[w2.heap.size]? = some (.cells #[.slice pf M.frames.length cf, .slice pb M.blocks.length cb, .slice pi M.inp.length ci, .slice po M.out.length co, .int .i64 M.status, .int .i64 M.trap] 48 (0, 0)) := by rw [← hW3]; exact World.alloc_heap_new w2 _
    have l3 := xacZ x3
    have d0 : W3.cell? ⟨w2.heap.size, 0, none⟩ = some (.slice pf M.frames.length cf) := xaaZ x3 0
    have d1 : W3.cell? ⟨w2.heap.size, 1, none⟩ = some (.slice pb M.blocks.length cb) := xaaZ x3 1
    have d2 : W3.cell? ⟨w2.heap.size, 2, none⟩ = some (.slice pi M.inp.length ci) := xaaZ x3 2
    have d3 : W3.cell? ⟨w2.heap.size, 3, none⟩ = some (.slice po M.out.length co) := xaaZ x3 3
    have d4 : W3.cell? ⟨w2.heap.size, 4, none⟩ = some (.int .i64 M.status) := xaaZ x3 4
    have d5 : W3.cell? ⟨w2.heap.size, 5, none⟩ = some (.int .i64 M.trap) := xaaZ x3 5
    have HFM : Hid (∀ W, Below W3.heap.size W3 W → Calls Tryz.prog 53 #[.agg #[.slice pf M.frames.length cf, .slice pb M.blocks.length cb, .slice pi M.inp.length ci, .slice po M.out.length co, .int .i64 M.status, .int .i64 M.trap]] W fun e w' => ∃ fv' bv' iv' ov', e = .returned (.agg #[fv', bv', iv', ov', .int .i64 M.status, .int .i64 M.trap]) ∧ ∃ q qb, MOwn w' W.heap.size fv' bv' iv' ov' q qb M ∧ Below W.heap.size W w') := fun W hW => xcqZ M _ _ _ _ W ((hMA.below b3).below hW) (HSM.out M (List.mem_of_getElem? hM))
    have HROW := hideP hrow
    have HRS := hideP hrs
    have HM := hideP hM
    have HQL := hideP hql
    have hzb3 := (b3.block _ (xacZ hzb)).trans hzb
    have lz := xacZ hzb3
    have o0 := xaaZ hzb3 0
    simp at o0
    have HZB3 := hideP hzb3
    have hrep : List.replicate (L.length - k) zMV = zMV :: List.replicate (L.length - k - 1) zMV := by
      obtain ⟨m, hm⟩ : ∃ m, L.length - k = m + 1 := ⟨L.length - k - 1, by omega⟩
      rw [hm]; rfl
    have hrow3 := xaoZ HROW.out (W' := W3) fun j hj => b3.block j (HROW.out.lt j hj).2
    rw [hrep] at hrow3
    have HROW3 := hideP hrow3
    obtain ⟨a0, a1, a2, a3, a4, a5⟩ := xf1Z (ms ++ zMV :: List.replicate (L.length - k - 1) zMV) ms.length zMV (by simp)
    have hRl : W1.heap.size < W3.heap.size := (hrow3.lt W1.heap.size rfl).2
    obtain ⟨cur3, hR3⟩ : ∃ cur, W3.heap[W1.heap.size]? = some (.cells cur 48 (0, 0)) := by
      rcases hrow3.2 with ⟨h1, _⟩ | ⟨g', cap', cur, h1, _, h3, _⟩
      · cases h1
      · cases h1; exact ⟨cur, h3⟩
    have hRne : ¬ w2.heap.size = W1.heap.size := by have h9 := (HROW.out.lt W1.heap.size rfl).2; omega
    have hZne : ¬ w1.heap.size = W1.heap.size := fun e => by
      have h9 := HZB3.out
      rw [e, hR3] at h9
      simp at h9
    have r0 : W3.cell? ⟨W1.heap.size, k * 6, none⟩ = some (.slice none 0 0) := by rw [← HQL.out]; exact xa5Z hrow3 _ _ a0
    have r1 : W3.cell? ⟨W1.heap.size, k * 6 + 1, none⟩ = some (.slice none 0 0) := by rw [← HQL.out]; exact xa5Z hrow3 _ _ a1
    have r2 : W3.cell? ⟨W1.heap.size, k * 6 + 2, none⟩ = some (.slice none 0 0) := by rw [← HQL.out]; exact xa5Z hrow3 _ _ a2
    have r3 : W3.cell? ⟨W1.heap.size, k * 6 + 3, none⟩ = some (.slice none 0 0) := by rw [← HQL.out]; exact xa5Z hrow3 _ _ a3
    have r4 : W3.cell? ⟨W1.heap.size, k * 6 + 4, none⟩ = some (.int .i64 0) := by rw [← HQL.out]; exact xa5Z hrow3 _ _ a4
    have r5 : W3.cell? ⟨W1.heap.size, k * 6 + 5, none⟩ = some (.int .i64 0) := by rw [← HQL.out]; exact xa5Z hrow3 _ _ a5
    have HR3 := hideP hR3
    clear hf hMA hM hrow hrs hql hzb hzb3 x3 hrow3 hR3 a0 a1 a2 a3 a4 a5 hrep
    go_wp2_with fail
    clear m0 m1 m2 m3 m4 m5
    go_region_held3 (fun W => W.cell? ⟨w1.heap.size, 0, none⟩ = some (.slice (some ⟨W1.heap.size, 0, none⟩) L.length L.length) ∧ W.cell? ⟨w2.heap.size, 0, none⟩ = some (.slice pf M.frames.length cf) ∧ W.cell? ⟨w2.heap.size, 1, none⟩ = some (.slice pb M.blocks.length cb) ∧ W.cell? ⟨w2.heap.size, 2, none⟩ = some (.slice pi M.inp.length ci) ∧ W.cell? ⟨w2.heap.size, 3, none⟩ = some (.slice po M.out.length co) ∧ W.cell? ⟨w2.heap.size, 4, none⟩ = some (.int .i64 M.status) ∧ W.cell? ⟨w2.heap.size, 5, none⟩ = some (.int .i64 M.trap)) (first | go_keep | exact ⟨xdoZ ho hZne, xdoZ h0 hRne, xdoZ h1 hRne, xdoZ h2 hRne, xdoZ h3 hRne, xdoZ h4 hRne, xdoZ h5 hRne⟩)
      (first
        | (go_at_call 53; (with_reducible refine (HFM.out _ ((Below.refl _ W3).drew)).mono ?_); rintro e w5 ⟨f5, b5v, i5, o5, rfl, q5, qb5, r5, b5'⟩; have b35 : Below W3.heap.size W3 w5 := ((Below.refl _ W3).drew).trans b5'; obtain ⟨p5, c5, hf5⟩ := xaiZ r5.fr; obtain ⟨p6, c6, hb5⟩ := xaiZ r5.bl; obtain ⟨p7, c7, hi5⟩ := xaiZ r5.inp; obtain ⟨p8, c8, ho5⟩ := xaiZ r5.out; subst hf5 hb5 hi5 ho5; have R5 := hideP r5; clear r5 b5'; have ho := (b35.cell (p := ⟨w1.heap.size, 0, none⟩) lz).trans o0; have h0 := (b35.cell (p := ⟨w2.heap.size, 0, none⟩) l3).trans d0; have h1 := (b35.cell (p := ⟨w2.heap.size, 1, none⟩) l3).trans d1; have h2 := (b35.cell (p := ⟨w2.heap.size, 2, none⟩) l3).trans d2; have h3 := (b35.cell (p := ⟨w2.heap.size, 3, none⟩) l3).trans d3; have h4 := (b35.cell (p := ⟨w2.heap.size, 4, none⟩) l3).trans d4; have h5 := (b35.cell (p := ⟨w2.heap.size, 5, none⟩) l3).trans d5; have s0 := (b35.cell (p := ⟨W1.heap.size, k * 6, none⟩) hRl).trans r0; have s1 := (b35.cell (p := ⟨W1.heap.size, k * 6 + 1, none⟩) hRl).trans r1; have s2 := (b35.cell (p := ⟨W1.heap.size, k * 6 + 2, none⟩) hRl).trans r2; have s3 := (b35.cell (p := ⟨W1.heap.size, k * 6 + 3, none⟩) hRl).trans r3; have s4 := (b35.cell (p := ⟨W1.heap.size, k * 6 + 4, none⟩) hRl).trans r4; have s5 := (b35.cell (p := ⟨W1.heap.size, k * 6 + 5, none⟩) hRl).trans r5; have y := Lib.frozen_of_heap ((b35.block _ hRl).trans HR3.out); have y0 := y (k * 6); have y1 := y (k * 6 + 1); have y2 := y (k * 6 + 2); have y3 := y (k * 6 + 3); have y4 := y (k * 6 + 4); have y5 := y (k * 6 + 5); clear y))
    go_wp2
    go_roundw
    case rel =>
      have hF4 := HROW3.out
      have hrow6 := xaoZ hF4 (W' := w5) fun j hj => b35.block j (hF4.lt j hj).2
      have hset := sixAt_set (c := ⟨.slice p5 q5.length c5, .slice p6 qb5.length c6, .slice p7 M.inp.length c7, .slice p8 M.out.length c8, M.status, M.trap⟩) hrow6
      have hgr := xp7Z w5 W1.heap.size (ms.length * 6) (.slice p5 q5.length c5) (.slice p6 qb5.length c6) (.slice p7 M.inp.length c7) (.slice p8 M.out.length c8) (.int .i64 M.status) (.int .i64 M.trap)
      have hty : TyRow w5 (some W1.heap.size) 48 := xatZ ((b35.block _ hRl).trans HR3.out)
      have hs3 := b3.size
      have hs5 := b35.size
      have hs2 := b2.size
      have hsn := ((HRS.out.below b3).below b35).snoc (B' := W3.heap.size) R5.out.has (by omega) (fun i s x g h1 h2 h3 => by
        have := HRS.out.lt h1 h2 h3
        omega)
      have hzb5 := (b35.block _ lz).trans HZB3.out
      rw [HQL.out] at hset hgr
      refine ⟨k + 1, ms ++ [⟨.slice p5 q5.length c5, .slice p6 qb5.length c6, .slice p7 M.inp.length c7, .slice p8 M.out.length c8, M.status, M.trap⟩], rs ++ [⟨q5, qb5, .slice p7 M.inp.length c7, .slice p8 M.out.length c8, M.inp, M.out⟩], by omega, by go_num, by rw [List.length_append, HQL.out]; rfl, ?_, ?_, (fun i r h => by
        rcases xbcZ h with ⟨_, h2⟩ | ⟨_, rfl⟩
        · exact HFI.out i r h2
        · show M.inp.length ≤ 1000
          have := (HSM.out M (List.mem_of_getElem? HM.out)).inp
          omega), ?_, ?_⟩
      · rw [List.append_assoc, List.singleton_append, show L.length - (k + 1) = L.length - k - 1 by omega]
        exact hset
      · rw [xazZ L k M HM.out]
        exact hsn.keep hgr hty (by decide) (by decide) (by decide) (by decide)
      · exact (hgr.block _ (xacZ hzb5) (fun e => hZne (Option.some.inj e))).trans hzb5
      · exact (b2.trans ((xaeZ b3 b35).mono b2.size)).grown hgr (by have := b2.size; omega) (fun j hj => by cases hj; exact Nat.le_refl _)
    case measure => simp [intOf]; omega
end Go.Proofs.YtmjjkenblfndgaaGreat


/- carriers: room, hand. -/
namespace Go.Proofs.YtmjjkenblfndgaaGreat
open Go.RowKit
set_option linter.unusedSimpArgs false
set_option linter.unusedVariables false
structure Carr (W0 W : World) (cb : Nat) (u : Value) (ms : List MV) (rs : List MR) (L : List Mach) (went : Nat) : Prop where
  cell : W.heap[cb]? = some (.cells #[u, .int .i64 went] 73 (0, 0))
  row : W.ownsRow W0.heap.size 48 6 u ms.length (mvCells ms)
  res : WRes W W0.heap.size ms rs L
  bel : Below W0.heap.size W0 W
  lo : W0.heap.size ≤ cb
def Carries (W0 W : World) (cb : Nat) (L : List Mach) (went : Nat) : Prop := ∃ u ms rs, Carr W0 W cb u ms rs L went
theorem Carr.below {W0 W W' : World} {cb : Nat} {u : Value} {ms : List MV} {rs : List MR} {L : List Mach} {went : Nat} (h : Carr W0 W cb u ms rs L went) (hb : Below W.heap.size W W') : Carr W0 W' cb u ms rs L went :=
  ⟨(hb.block _ (xacZ h.cell)).trans h.cell, xaoZ h.row fun k hk => hb.block k (h.row.lt k hk).2, h.res.below hb, h.bel.trans (hb.mono h.bel.size), h.lo⟩
theorem Carr.mach {W0 W : World} {cb : Nat} {u : Value} {ms : List MV} {rs : List MR} {L : List Mach} {went k : Nat} {M : Mach} (h : Carr W0 W cb u ms rs L went) (hM : L[k]? = some M) : ∃ R cap c r, u = .slice (some ⟨R, 0, none⟩) L.length cap ∧ ms[k]? = some c ∧ rs[k]? = some r ∧ MHas W W0.heap.size c r M ∧ W.cell? ⟨R, k * 6, none⟩ = some c.fv ∧ W.cell? ⟨R, k * 6 + 1, none⟩ = some c.bv ∧ W.cell? ⟨R, k * 6 + 2, none⟩ = some c.iv ∧ W.cell? ⟨R, k * 6 + 3, none⟩ = some c.ov ∧ W.cell? ⟨R, k * 6 + 4, none⟩ = some (.int .i64 M.status) ∧ W.cell? ⟨R, k * 6 + 5, none⟩ = some (.int .i64 M.trap) ∧ (∃ cs, W.heap[R]? = some (.cells cs 48 (0, 0))) ∧ W0.heap.size ≤ R := by
  have hkl := xadZ hM
  obtain ⟨c, hc⟩ := xagZ (l := ms) (k := k) (by rw [h.res.lenM]; exact hkl)
  obtain ⟨r, hr⟩ := xagZ (l := rs) (k := k) (by rw [h.res.lenR]; exact hkl)
  have hm := h.res.each k c r M hc hr hM
  have hrow := h.row
  rcases hrow.2 with ⟨_, h0⟩ | ⟨R, cap, cur, rfl, hb, hg, h1, h2, h3, h4⟩
  · have := h.res.lenM; omega
  · obtain ⟨a0, a1, a2, a3, a4, a5⟩ := xf1Z ms k c hc
    refine ⟨R, cap, c, r, by rw [h.res.lenM], hc, hr, hm, xa5Z hrow _ _ a0, xa5Z hrow _ _ a1, xa5Z hrow _ _ a2, xa5Z hrow _ _ a3, ?_, ?_, ⟨cur, hg⟩, hb⟩
    · rw [← hm.st]; exact xa5Z hrow _ _ a4
    · rw [← hm.tr]; exact xa5Z hrow _ _ a5
theorem xjzZ (W0 W : World) (cb : Nat) (L : List Mach) (went k : Nat) (M : Mach) (h : Carries W0 W cb L went) (hM : L[k]? = some M) (h10 : M.inp.length ≤ 10) : Calls Tryz.prog 42 #[.pointer (some ⟨cb, 0, none⟩), .int .i64 k] W fun e w' => e = .returned (.int .i64 (10 - (M.inp.length : Int))) ∧ w' = W := by
  obtain ⟨u, ms, rs, h⟩ := h
  obtain ⟨R, cap, c, r, hu, hc, hr, hm, c0, c1, c2, c3, c4, c5, -, -⟩ := h.mach hM
  have hlt := xadZ hM
  have hlti : (k : Int) < (L.length : Int) := by omega
  obtain ⟨-, -, ⟨pi, ci, hiv⟩, -⟩ := hm.at_.shp
  rw [hiv] at c2
  have d0 := xaaZ h.cell 0
  simp at d0
  rw [hu] at d0
  have hw : IntKind.i64.wrap (10 - (M.inp.length : Int)) = 10 - (M.inp.length : Int) := by rw [IntKind.wrap_i64]; omega
  clear h hM hm hc hr hu c0 c1 c3 c4 c5 hiv
  go_enter Tryz.func42, Tryz.ntmps42
  go_wp2
  go_ret
  exact ⟨rfl, rfl⟩
theorem row_grown {W W' : World} {B : Nat} {e : TypeId} {size n : Nat} {v : Value} {xs : List Value} {b : Option Nat} (h : W.ownsRow B e size v n xs) (hg : W.grownBy W' b) (hne : ∀ g, v.ownBlock = some g → b ≠ some g) : W'.ownsRow B e size v n xs :=
  xaoZ h fun k hk => hg.block k (h.lt k hk).2 fun e => hne k hk e.symm
theorem xmwZ {W w2 : World} {B N k k' : Nat} (hN : N ≤ 1000000) {ms : List MV} {rs : List MR} {L : List Mach} {c : MV} {r : MR} {M : Mach} {l I' : List Int} {iv' iw' : Value} (h : WRes W B ms rs L) (hc : ms[k]? = some c) (hr : rs[k]? = some r) (hM : L[k]? = some M) (hA : AppV W w2 B N r.iw (M.inp ++ l) iv' iw' k' I') :
    WRes w2 B (ms.set k { c with iv := iv', st := (giveM M l).status }) (rs.set k { r with iw := iw', I := I' }) (L.set k (giveM M l)) := by
  have hm := h.each k c r M hc hr hM
  have hrow := hm.ints.each 0 _ _ rfl rfl
  have hty : TyRow W r.iw.ownBlock 3 := xcnZ hrow
  have hgr := hA.grown
  refine ⟨by simp [h.lenM], by simp [h.lenR], fun i d s N h1 h2 h3 => ?_, fun i j s t x y g h1 h2 hx hy gx gy => ?_⟩
  · rw [List.getElem?_set] at h1 h2 h3
    by_cases hik : k = i
    · subst hik
      rw [if_pos rfl, if_pos (xadZ hc)] at h1
      rw [if_pos rfl, if_pos (xadZ hr)] at h2
      rw [if_pos rfl, if_pos (xadZ hM)] at h3
      cases h1
      cases h2
      cases h3
      obtain ⟨ko, ho1, ho2⟩ := hm.out
      exact ⟨rfl, hm.tr, xasZ hm.fr hgr hty (by decide), hm.frs.keep hgr hty (by decide), xasZ hm.bl hgr hty (by decide), hm.ints.swap (k := 0) rfl hgr hA.row hA.at_ (by have := hA.few; show I'.length ≤ _; omega), ⟨k', hA.is_.symm, hA.rest⟩, ⟨ko, ho1, ho2⟩⟩
    · rw [if_neg hik] at h1 h2 h3
      have hn := h.each i d s N h1 h2 h3
      refine ⟨hn.st, hn.tr, xasZ hn.fr hgr hty (by decide), hn.frs.keep hgr hty (by decide), xasZ hn.bl hgr hty (by decide), ⟨hn.ints.len, fun q x b hq hb => ?_, hn.ints.apart, hn.ints.small⟩, hn.inp, hn.out⟩
      refine row_grown (hn.ints.each q x b hq hb) hgr fun g hg e => ?_
      exact hik (h.apart k i r s r.iw x g hr h2 (by simp [MR.rows]) (List.mem_of_getElem? hq) e hg)
  · have key : ∀ (i : Nat) (s : MR) (x : Value) (g : Nat), (rs.set k { r with iw := iw', I := I' })[i]? = some s → x ∈ s.rows → x.ownBlock = some g → (∃ s' x', rs[i]? = some s' ∧ x' ∈ s'.rows ∧ x'.ownBlock = some g) ∨ (i = k ∧ W.heap.size ≤ g) := fun i s x g h1 hx gx => by
      rw [List.getElem?_set] at h1
      by_cases hik : k = i
      · subst hik
        rw [if_pos rfl, if_pos (xadZ hr)] at h1
        cases h1
        rcases List.mem_cons.1 hx with rfl | hx
        · rcases hA.at_ g gx with h5 | h5
          · exact .inl ⟨r, r.iw, hr, by simp [MR.rows], h5⟩
          · exact .inr ⟨rfl, h5⟩
        · exact .inl ⟨r, x, hr, List.mem_cons_of_mem _ hx, gx⟩
      · rw [if_neg hik] at h1
        exact .inl ⟨s, x, h1, hx, gx⟩
    rcases key i s x g h1 hx gx with ⟨s', x', a1, a2, a3⟩ | ⟨a1, a2⟩
    · rcases key j t y g h2 hy gy with ⟨t', y', b1, b2, b3⟩ | ⟨b1, b2⟩
      · exact h.apart i j s' t' x' y' g a1 b1 a2 b2 a3 b3
      · have := h.lt a1 a2 a3; omega
    · rcases key j t y g h2 hy gy with ⟨t', y', b1, b2, b3⟩ | ⟨b1, b2⟩
      · have := h.lt b1 b2 b3; omega
      · omega
theorem carr_hand {W0 W w2 : World} {cb R cap k k' went N : Nat} (hN : N ≤ 1000000) {ms : List MV} {rs : List MR} {L : List Mach} {c : MV} {r : MR} {M : Mach} {l I' : List Int} {iv' iw' : Value} (h : Carr W0 W cb (.slice (some ⟨R, 0, none⟩) L.length cap) ms rs L went) (hc : ms[k]? = some c) (hr : rs[k]? = some r) (hM : L[k]? = some M) (hA : AppV W w2 W0.heap.size N r.iw (M.inp ++ l) iv' iw' k' I') (went' : Nat) :
    Carr W0 (((w2.setCell ⟨R, k * 6 + 2, none⟩ iv').setCell ⟨R, k * 6 + 4, none⟩ (.int .i64 (giveM M l).status)).setCell ⟨cb, 1, none⟩ (.int .i64 went')) cb (.slice (some ⟨R, 0, none⟩) L.length cap) (ms.set k { c with iv := iv', st := (giveM M l).status }) (rs.set k { r with iw := iw', I := I' }) (L.set k (giveM M l)) went' := by
  have hm := h.res.each k c r M hc hr hM
  have hrow := hm.ints.each 0 _ _ rfl rfl
  have hty : TyRow W r.iw.ownBlock 3 := xcnZ hrow
  have hres := xmwZ hN h.res hc hr hM hA
  have hR : ∃ cs, W.heap[R]? = some (.cells cs 48 (0, 0)) := by
    rcases h.row.2 with ⟨h1, h2⟩ | ⟨g, cp, cur, h1, _, h3, _⟩
    · cases h1
    · have e := congrArg Value.ownBlock h1
      simp only [Value.ownBlock, Option.some.injEq] at e
      subst e
      exact ⟨cur, h3⟩
  obtain ⟨cs, hR⟩ := hR
  have hR2 : w2.heap[R]? = some (.cells cs 48 (0, 0)) := (hA.grown.block _ (xacZ hR) (xboZ hrow hR (by decide))).trans hR
  have hcb2 : w2.heap[cb]? = _ := (hA.grown.block _ (xacZ h.cell) (xboZ hrow h.cell (by decide))).trans h.cell
  have hRB : W0.heap.size ≤ R := (h.row.lt R rfl).1
  have hne : R ≠ cb := fun e => by rw [e, hcb2] at hR2; simp at hR2
  have hg1 := xakZ w2 ⟨R, k * 6 + 2, none⟩ iv'
  have hR3 := heap_setCell_same w2 R (k * 6 + 2) _ _ iv' hR2
  have hg2 := xakZ (w2.setCell ⟨R, k * 6 + 2, none⟩ iv') ⟨R, k * 6 + 4, none⟩ (.int .i64 (giveM M l).status)
  have hR4 := heap_setCell_same _ R (k * 6 + 4) _ _ (.int .i64 (giveM M l).status) hR3
  have hg3 := xakZ ((w2.setCell ⟨R, k * 6 + 2, none⟩ iv').setCell ⟨R, k * 6 + 4, none⟩ (.int .i64 (giveM M l).status)) ⟨cb, 1, none⟩ (.int .i64 went')
  have hcb3 := (hg1.block cb (xacZ hcb2) (fun e => hne (Option.some.inj e).symm)).trans hcb2
  have hcb4 := (hg2.block cb (xacZ hcb3) (fun e => hne (Option.some.inj e).symm)).trans hcb3
  have t2 : TyRow w2 (some R) 48 := xatZ hR2
  have t3 : TyRow (w2.setCell ⟨R, k * 6 + 2, none⟩ iv') (some R) 48 := xatZ hR3
  have t4 : TyRow ((w2.setCell ⟨R, k * 6 + 2, none⟩ iv').setCell ⟨R, k * 6 + 4, none⟩ (.int .i64 (giveM M l).status)) (some cb) 73 := xatZ hcb4
  have hrow2 : w2.ownsRow W0.heap.size 48 6 (.slice (some ⟨R, 0, none⟩) L.length cap) ms.length (mvCells ms) := xasZ h.row hA.grown hty (by decide)
  have hml := h.res.lenM
  rw [← hml] at hrow2
  have hrow4 := xbpZ (xbpZ hrow2 (k * 6 + 2) iv') (k * 6 + 4) (.int .i64 (giveM M l).status)
  rw [xkvZ ms k c iv' hc, mvCells_st _ k { c with iv := iv' } (giveM M l).status (by rw [List.getElem?_set_self (xadZ hc)]), List.set_set] at hrow4
  refine ⟨?_, ?_, (((hres.keep hg1 t2 (by decide) (by decide) (by decide) (by decide)).keep hg2 t3 (by decide) (by decide) (by decide) (by decide)).keep hg3 t4 (by decide) (by decide) (by decide) (by decide)), ?_, h.lo⟩
  · have := heap_setCell_same _ cb 1 _ _ (.int .i64 (went' : Int)) hcb4
    simpa using this
  · have := xasZ hrow4 hg3 t4 (by decide)
    rw [← hml, List.length_set]
    exact this
  · exact (((h.bel.grown hA.grown h.bel.size (fun z hz => (hrow.lt z hz).1)).setCell (p := ⟨R, k * 6 + 2, none⟩) hRB _).setCell (p := ⟨R, k * 6 + 4, none⟩) hRB _).setCell (p := ⟨cb, 1, none⟩) h.lo _
theorem xkcZ {W0 W w2 : World} {cb R cap k k' went N : Nat} (hN : N ≤ 1000000) {ms : List MV} {rs : List MR} {L : List Mach} {c : MV} {r : MR} {M : Mach} {l I' : List Int} {iv' iw' : Value} (h : Carr W0 W cb (.slice (some ⟨R, 0, none⟩) L.length cap) ms rs L went) (hc : ms[k]? = some c) (hr : rs[k]? = some r) (hM : L[k]? = some M) (hA : AppV W w2 W0.heap.size N r.iw (M.inp ++ l) iv' iw' k' I') (went' : Nat) (hst : (giveM M l).status = M.status) :
    Carr W0 ((w2.setCell ⟨R, k * 6 + 2, none⟩ iv').setCell ⟨cb, 1, none⟩ (.int .i64 went')) cb (.slice (some ⟨R, 0, none⟩) L.length cap) (ms.set k { c with iv := iv', st := (giveM M l).status }) (rs.set k { r with iw := iw', I := I' }) (L.set k (giveM M l)) went' := by
  have hm := h.res.each k c r M hc hr hM
  have hrow := hm.ints.each 0 _ _ rfl rfl
  have hty : TyRow W r.iw.ownBlock 3 := xcnZ hrow
  have hres := xmwZ hN h.res hc hr hM hA
  have hR : ∃ cs, W.heap[R]? = some (.cells cs 48 (0, 0)) := by
    rcases h.row.2 with ⟨h1, h2⟩ | ⟨g, cp, cur, h1, _, h3, _⟩
    · cases h1
    · have e := congrArg Value.ownBlock h1
      simp only [Value.ownBlock, Option.some.injEq] at e
      subst e
      exact ⟨cur, h3⟩
  obtain ⟨cs, hR⟩ := hR
  have hR2 : w2.heap[R]? = some (.cells cs 48 (0, 0)) := (hA.grown.block _ (xacZ hR) (xboZ hrow hR (by decide))).trans hR
  have hcb2 : w2.heap[cb]? = _ := (hA.grown.block _ (xacZ h.cell) (xboZ hrow h.cell (by decide))).trans h.cell
  have hRB : W0.heap.size ≤ R := (h.row.lt R rfl).1
  have hne : R ≠ cb := fun e => by rw [e, hcb2] at hR2; simp at hR2
  have hg1 := xakZ w2 ⟨R, k * 6 + 2, none⟩ iv'
  have hR3 := heap_setCell_same w2 R (k * 6 + 2) _ _ iv' hR2
  have hg3 := xakZ (w2.setCell ⟨R, k * 6 + 2, none⟩ iv') ⟨cb, 1, none⟩ (.int .i64 went')
  have hcb3 := (hg1.block cb (xacZ hcb2) (fun e => hne (Option.some.inj e).symm)).trans hcb2
  have t2 : TyRow w2 (some R) 48 := xatZ hR2
  have t3 : TyRow (w2.setCell ⟨R, k * 6 + 2, none⟩ iv') (some R) 48 := xatZ hR3
  have t4 : TyRow (w2.setCell ⟨R, k * 6 + 2, none⟩ iv') (some cb) 73 := xatZ hcb3
  have hrow2 : w2.ownsRow W0.heap.size 48 6 (.slice (some ⟨R, 0, none⟩) L.length cap) ms.length (mvCells ms) := xasZ h.row hA.grown hty (by decide)
  have hml := h.res.lenM
  rw [← hml] at hrow2
  have hrow4 := xbpZ hrow2 (k * 6 + 2) iv'
  rw [xkvZ ms k c iv' hc] at hrow4
  have hse : ({ c with iv := iv' } : MV) = { c with iv := iv', st := (giveM M l).status } := by rw [hst, ← hm.st]
  rw [hse] at hrow4
  refine ⟨?_, ?_, ((hres.keep hg1 t2 (by decide) (by decide) (by decide) (by decide)).keep hg3 t4 (by decide) (by decide) (by decide) (by decide)), ?_, h.lo⟩
  · have := heap_setCell_same _ cb 1 _ _ (.int .i64 (went' : Int)) hcb3
    simpa using this
  · have := xasZ hrow4 hg3 t4 (by decide)
    rw [← hml, List.length_set]
    exact this
  · exact ((h.bel.grown hA.grown h.bel.size (fun z hz => (hrow.lt z hz).1)).setCell (p := ⟨R, k * 6 + 2, none⟩) hRB _).setCell (p := ⟨cb, 1, none⟩) h.lo _
def HandP (W0 W : World) (cb : Nat) (u : Value) (ms : List MV) (rs : List MR) (L : List Mach) (went k : Nat) (c : MV) (r : MR) (M : Mach) (l : List Int) (w' : World) : Prop := ∃ iv' iw' I', I'.length ≤ r.I.length + l.length ∧ Carr W0 w' cb u (ms.set k { c with iv := iv', st := (giveM M l).status }) (rs.set k { r with iw := iw', I := I' }) (L.set k (giveM M l)) (went + l.length) ∧ (∀ z, iw'.ownBlock = some z → r.iw.ownBlock = some z ∨ W.heap.size ≤ z) ∧ W.heap.size ≤ w'.heap.size
theorem hand_any (W0 W : World) (cb : Nat) (u : Value) (ms : List MV) (rs : List MR) (L : List Mach) (went k : Nat) (c : MV) (r : MR) (M : Mach) (l : List Int) (lv : Value) (h : Carr W0 W cb u ms rs L went) (hc : ms[k]? = some c) (hr : rs[k]? = some r) (hM : L[k]? = some M) (hl : FullInts W lv l) (h10 : r.I.length ≤ 50000) (hl10 : l.length ≤ 10) (hst : 0 ≤ M.status ∧ M.status ≤ 3) (hw : went ≤ 1000) (h4 : L.length ≤ 4) :
    Calls Tryz.prog 43 #[.pointer (some ⟨cb, 0, none⟩), .int .i64 k, lv] W fun e w' => e = .returned (.tuple #[]) ∧ HandP W0 W cb u ms rs L went k c r M l w' := by
  obtain ⟨R, cap, c', r', hu, hc', hr', hm, c0, c1, c2, c3, c4, c5, ⟨cs, hR⟩, hRB⟩ := h.mach hM
  rw [hc] at hc'
  cases hc'
  rw [hr] at hr'
  cases hr'
  subst hu
  obtain ⟨ki, hi1, hi2⟩ := hm.inp
  have hrow := hm.ints.each 0 _ _ rfl rfl
  obtain ⟨pv, mv, cv, hive, hmv, hmv2⟩ := xjyZ hi2 hrow
  subst hmv2
  have hq1 : RestV (.slice pv (r.I.length - ki) cv) r.iw ki r.I.length := by rw [← hive]; exact hi2
  have HQ1 := hideP hq1
  clear hq1
  obtain ⟨pl, cl, hlv, hlc⟩ := hl.shp
  have hlt := xadZ hM
  have hlti : (k : Int) < (L.length : Int) := by omega
  have d0 := xaaZ h.cell 0
  have d1 := xaaZ h.cell 1
  simp at d0 d1
  have hls := h.bel.size
  have H := hideP h
  have HC := hideP (And.intro hc (And.intro hr hM))
  have HROW := hideP hrow
  have HI := hideP (And.intro hi1 hi2)
  have HL := hideP hl
  have HRR := hideP hR
  have HIV := hideP hive
  have hlR := xacZ hR
  have hlcb := xacZ h.cell
  have hneB : R ≠ cb := fun e => by
    have h1 := h.cell
    rw [← e, hR] at h1
    simp at h1
  clear h hc hr hM hm hi1 hi2 hrow hl hR c0 c1 c3 c5
  rw [hive] at c2
  subst hlv
  go_enter Tryz.func43, Tryz.ntmps43
  go_wp2_with (at_builtin; refine xivZ rfl _ _ rfl rfl HROW.out HQ1.out rfl HL.out (by omega) hls ?_; intro iv2 w2 iw2 k2 I2 hA2; have HA := hideP hA2; obtain ⟨p2, m2, cc2, hiv2, -, -⟩ := xjyZ hA2.rest hA2.row; subst hiv2; have hR2 := (hA2.grown.block _ hlR (xboZ HROW.out HRR.out (by decide))).trans HRR.out; have g2 := hA2.grown.cell c2 (fun e => xboZ HROW.out HRR.out (by decide) e); have g4 := hA2.grown.cell c4 (fun e => xboZ HROW.out HRR.out (by decide) e); have hcb2 := (hA2.grown.block _ hlcb (xboZ HROW.out H.out.cell (by decide))).trans H.out.cell; have e0 := xaaZ hcb2 0; have e1 := xaaZ hcb2 1; simp at e0 e1; have z2 := Lib.frozen_of_heap hR2 (k * 6 + 2); have z4 := Lib.frozen_of_heap hR2 (k * 6 + 4); have zc := Lib.frozen_of_heap hcb2 1; clear hA2 hR2 hcb2)
  · go_end0
    have hs : (giveM M l).status = 0 := by
      have hs1 : M.status = 1 := by assumption
      have hs2 : 0 < l.length := by assumption
      have hne : l ≠ [] := fun e => by rw [e] at hs2; simp at hs2
      unfold giveM
      exact if_pos ⟨hs1, hne⟩
    have hA := HA.out
    rw [← HI.out.1] at hA
    have h9 := carr_hand (by omega) H.out HC.out.1 HC.out.2.1 HC.out.2.2 hA (went + l.length)
    rw [hs] at h9
    refine ⟨rfl, .slice p2 m2 cc2, iw2, I2, hA.few, ?_, hA.at_, by simpa using hA.grown.size⟩
    rw [hs]
    exact h9
  · go_end0
    have hs : (giveM M l).status = M.status := by
      unfold giveM
      refine if_neg ?_
      rintro ⟨e1, e2⟩
      have h0 : ¬ 0 < l.length := by assumption
      cases l with
      | nil => exact e2 rfl
      | cons a r => simp at h0
    have hA := HA.out
    rw [← HI.out.1] at hA
    exact ⟨rfl, .slice p2 m2 cc2, iw2, I2, hA.few, xkcZ (by omega) H.out HC.out.1 HC.out.2.1 HC.out.2.2 hA (went + l.length) hs, hA.at_, by simpa using hA.grown.size⟩
  · go_end0
    have hs : (giveM M l).status = M.status := by
      unfold giveM
      refine if_neg ?_
      rintro ⟨e1, e2⟩
      have h0 : ¬ M.status = 1 := by assumption
      exact h0 e1
    have hA := HA.out
    rw [← HI.out.1] at hA
    exact ⟨rfl, .slice p2 m2 cc2, iw2, I2, hA.few, xkcZ (by omega) H.out HC.out.1 HC.out.2.1 HC.out.2.2 hA (went + l.length) hs, hA.at_, by simpa using hA.grown.size⟩
end Go.Proofs.YtmjjkenblfndgaaGreat


