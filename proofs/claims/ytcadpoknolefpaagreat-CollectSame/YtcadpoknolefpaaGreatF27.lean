/- My texts Uh: what of them is needed, joined. -/
import Derived.Deep.RegionHeld3
import Derived.Test.YtcadpoknolefpaaGreatF21
import Derived.Test.YtcadpoknolefpaaGreatF23
import Derived.Test.YtcadpoknolefpaaGreatF26
set_option maxRecDepth 100000
set_option maxHeartbeats 8000000
/- collect.Collect. -/
namespace Go.Proofs.YtcadpoknolefpaaGreat
open Go.RowKit
set_option linter.unusedSimpArgs false
set_option linter.unusedVariables false
theorem ent_coll1 : Ent 79 := xceZ Tryz.func79 (by kernel_rfl) rfl
theorem mvV_not {S : List Int} {o : Val} (h : xbsZ o = false) : mvV S o = o := by
  obtain ⟨b, n⟩ := o
  unfold mvV
  cases b
  · simp
  · simp only [if_true]
    have : n = 0 := by simpa [xbsZ] using h
    subst this
    simp [xaoZ, stays]
theorem mvV_is {S : List Int} {o : Val} (h : xbsZ o = true) : mvV S o = (o.1, xaoZ S o.2) := by
  obtain ⟨b, n⟩ := o
  have : b = true := by
    cases b
    · simp [xbsZ] at h
    · rfl
  subst this
  rfl
theorem set_self {α : Type} {l : List α} {j : Nat} {x : α} (h : l[j]? = some x) : l.set j x = l := by
  apply List.ext_getElem?
  intro k
  rw [List.getElem?_set]
  by_cases hk : j = k
  · subst hk
    rw [if_pos rfl, if_pos (xafZ h), h]
  · rw [if_neg hk]
structure MoveI (B : Nat) (W7 : World) (S : List Int) (rows : List Value) (L : List (List Val)) (r j : Nat) (W : World) : Prop where
  bel : Below B W7 W
  size : W7.heap.size ≤ W.heap.size
  rows : VRows W B rows (partV S L r j)
  kept : ∀ (k : Nat) (cs : Array Value) (t : TypeId) (fz : Nat × Nat), W7.heap[k]? = some (.cells cs t fz) → t ≠ 50 → W.heap[k]? = W7.heap[k]?
theorem xg9Z {W W' : World} {k : Nat} {cs : Array Value} {t : TypeId} {fz : Nat × Nat} (h : Below W.heap.size W W') (hk : W.heap[k]? = some (.cells cs t fz)) : W'.heap[k]? = W.heap[k]? := h.block k (xacZ hk)
theorem xnpZ {W : World} {k g i : Nat} {cs cu : Array Value} {t s : TypeId} {fz fy : Nat × Nat} {v : Value} (hk : W.heap[k]? = some (.cells cs t fz)) (hg : W.heap[g]? = some (.cells cu s fy)) (hne : t ≠ s) : (W.setCell ⟨g, i, none⟩ v).heap[k]? = W.heap[k]? := Below.heap_setCell W _ v k fun e => by
  simp only at e
  rw [e, hg] at hk
  cases hk
  exact hne rfl
theorem xokZ {B tb rb r j : Nat} {W7 : World} {S : List Int} {rows : List Value} {L : List (List Val)} {y u vy : Value} {l : List Val} {o : Val} (hy : rows[r]? = some y) (hl : L[r]? = some l) (ho : l[j]? = some o) (hrow : W7.ownsRow B 50 2 y l.length (valCells l)) (hS : xbsZ o = true → o.2 ∈ S) (hB : B ≤ W7.heap.size) (htb : W7.heap[tb]? = some (.cells #[vy] 27 (0, 0))) (hrb : W7.heap[rb]? = some (.cells #[u] 27 (0, 0))) (hu : ∀ W, Below B W7 W → IntsAt W u S) (hvy : ∀ W, Below B W7 W → IntsAt W vy (S.map (xaoZ S))) :
    ∃ g cap, y = .slice (some ⟨g, 0, none⟩) l.length cap ∧ ∀ W, MoveI B W7 S rows L r j W → Calls Tryz.prog 79 (#[.pointer (some ⟨g, 0 + j * 2, none⟩)] ++ #[.pointer (some ⟨tb, 0, none⟩), .pointer (some ⟨rb, 0, none⟩)]) W fun e w' => e = .returned (.tuple #[]) ∧ MoveI B W7 S rows L r (j + 1) w' ∧ FrKept W w' := by
  rcases hrow.2 with ⟨_, h0⟩ | ⟨g, cap, cur, rfl, hgB, hg0, h1, h2, h3, h4⟩
  · have := xafZ ho; omega
  refine ⟨g, cap, rfl, fun W hI => ?_⟩
  have hr := hI.rows.each r _ _ hy (xlaZ (j := j) hl)
  have hpl := xnfZ S l j
  have hr' : W.ownsRow B 50 2 (.slice (some ⟨g, 0, none⟩) (xbnZ S l j).length cap) (xbnZ S l j).length (valCells (xbnZ S l j)) := by rw [← hpl] at hr; exact hr
  have hva := xcyZ (xbnZ S l j) j o (xisZ ho)
  have hgl := (hr.lt g rfl).2
  obtain ⟨cu, hcu⟩ : ∃ cu, W.heap[g]? = some (.cells cu 50 (0, 0)) := by
    rcases hr'.2 with ⟨h5, _⟩ | ⟨g', cap', cu, h5, _, h6, _⟩
    · cases h5
    · cases h5; exact ⟨cu, h6⟩
  have hfz : ∀ W', Below W.heap.size W W' → W'.frozen? ⟨g, 0 + j * 2 + 1, none⟩ = false := fun W' hW => by
    have h5 := (hW.block g hgl).trans hcu
    exact Lib.frozen_of_heap h5 _
  refine (coll1_any tb rb g (0 + j * 2) o S u vy W (by rw [Nat.zero_add]; exact xc0Z hr' _ _ hva.1) (by rw [Nat.zero_add]; exact xc0Z hr' _ _ hva.2) hgl hfz ((hI.kept _ _ _ _ htb (by decide)).trans htb) ((hI.kept _ _ _ _ hrb (by decide)).trans hrb) (hu W hI.bel) (hvy W hI.bel) hS).mono ?_
  rintro e w' ⟨rfl, W2, hb, rfl⟩
  have hBW : B ≤ W.heap.size := Nat.le_trans hB hI.size
  have hb2 := hI.bel.trans (hb.mono hBW)
  by_cases hi : xbsZ o = true
  · rw [if_pos hi]
    have hcu2 := (hb.block g hgl).trans hcu
    have hr2 : W2.ownsRow B 50 2 (.slice (some ⟨g, 0, none⟩) (xbnZ S l j).length cap) (xbnZ S l j).length (valCells (xbnZ S l j)) := xavZ hr' fun k hk => hb.block k (hr'.lt k hk).2
    have hset := xdpZ hr2 (0 + j * 2 + 1) (.int .i64 (xaoZ S o.2))
    rw [Nat.zero_add] at hset ⊢
    rw [xo5Z _ j o (xisZ ho), ← mvV_is hi] at hset
    have hlen : ((xbnZ S l j).set j (mvV S o)).length = (xbnZ S l j).length := List.length_set
    have hset' : (W2.setCell ⟨g, j * 2 + 1, none⟩ (.int .i64 (xaoZ S o.2))).ownsRow B 50 2 (.slice (some ⟨g, 0, none⟩) l.length cap) ((xbnZ S l j).set j (mvV S o)).length (valCells ((xbnZ S l j).set j (mvV S o))) := by rw [hlen]; rw [hpl] at hset ⊢; exact hset
    have hrows := VRows.setRow (hI.rows.below hb) hy (xalZ W2 ⟨g, j * 2 + 1, none⟩ (.int .i64 (xaoZ S o.2))) rfl hset'
    rw [← xmmZ hl ho] at hrows
    refine ⟨rfl, ⟨hb2.setCell hgB _, by simpa using Nat.le_trans hI.size hb.size, hrows, fun k cs t fz hk hne => ?_⟩, ⟨by simpa using hb.size, fun k cs fz hk => ?_⟩⟩
    · have h5 := hI.kept k cs t fz hk hne
      have h6 := h5.trans hk
      have h7 := (xg9Z hb h6).trans h6
      rw [xnpZ h7 hcu2 hne, h7, hk]
    · have h7 := (xg9Z hb hk).trans hk
      rw [xnpZ h7 hcu2 (by decide), h7, hk]
  · rw [if_neg hi]
    have hi' : xbsZ o = false := by simpa using hi
    have he : partV S L r (j + 1) = partV S L r j := by
      rw [xmmZ hl ho, mvV_not hi', set_self (xisZ ho), set_self (xlaZ hl)]
    refine ⟨rfl, ⟨hb2, Nat.le_trans hI.size hb.size, by rw [he]; exact hI.rows.below hb, fun k cs t fz hk hne => ?_⟩, xhoZ hb⟩
    have h6 := (hI.kept k cs t fz hk hne).trans hk
    rw [xg9Z hb h6, h6, hk]
noncomputable def CollR (p : List Fn) (M : Mach) : Mach := if xaqZ p M = 0 then xajZ M else zeroM
noncomputable def goneR (p : List Fn) (M : Mach) : Int := if xaqZ p M = 0 then (M.blocks.length : Int) - ((xajZ M).blocks.length : Int) else 0
noncomputable def xemZ (p : List Fn) (M : Mach) (w : World) (e : Ending) (w' : World) : Prop := ∃ fv bv iv ov, e = .returned (.tuple #[.agg #[fv, bv, iv, ov, .int .i64 (CollR p M).status, .int .i64 (CollR p M).trap], .int .i64 (goneR p M), .int .i64 (xaqZ p M)]) ∧ MRes w' w.heap.size fv bv iv ov (CollR p M) ∧ Below w.heap.size w w'
theorem xfyZ {B B' : Nat} {W7 W : World} {S : List Int} {rows : List Value} {L : List (List Val)} {r j : Nat} {e : TypeId} {size n : Nat} {v : Value} {xs : List Value} (hI : MoveI B W7 S rows L r j W) (h : W7.ownsRow B' e size v n xs) (hne : e ≠ 50) : W.ownsRow B' e size v n xs := xavZ h fun k hk => by
  rcases h.2 with ⟨rfl, _⟩ | ⟨g, cap, cur, rfl, _, hg, _⟩
  · cases hk
  · cases hk; exact hI.kept _ _ _ _ hg hne
theorem xr5Z {B B' : Nat} {W7 W : World} {S : List Int} {rows : List Value} {L : List (List Val)} {r j : Nat} {q : List Value} {K : List (List Int)} (hI : MoveI B W7 S rows L r j W) (h : BRows W7 B' q K) : BRows W B' q K := ⟨h.len, fun k x b h1 h2 => xfyZ hI (h.each k x b h1 h2) (by decide), h.apart, h.small⟩
theorem coll_own {B B0 : Nat} {W7 W : World} {S : List Int} {fv bv iv ov x : Value} {q : List FV} {qb qk : List Value} {M : Mach} {K : List (List Int)} (hM : MOwn W7 B fv bv iv ov q qb M) (hk : W7.ownsRow B0 27 1 x qk.length qk) (hkr : BRows W7 B0 qk K) (hlow : ∀ (k : Nat) (y : Value) (g : Nat), qk[k]? = some y → y.ownBlock = some g → g < B) (hB : B0 ≤ B) (hI : MoveI B W7 S (fRows q) (fVals M.frames) (2 * M.frames.length) 0 W) : MOwn W B0 fv x iv ov q qk { M with frames := M.frames.map (mvF S), blocks := K } := by
  refine ⟨xawZ (xfyZ hI hM.fr (by decide)) hB, ⟨by simp [hM.frs.len], fun k c y hc hy => ?_, ?_⟩, xfyZ hI hk (by decide), ?_⟩
  · simp only [List.getElem?_map] at hy
    cases hm : M.frames[k]? with
    | none => rw [hm] at hy; cases hy
    | some z =>
      rw [hm] at hy
      cases hy
      exact hM.frs.nums k c z hc hm
  · have h1 := hI.rows
    rw [show 2 * M.frames.length = (fVals M.frames).length by rw [xbvZ]; omega, partV_end, fVals_mv] at h1
    exact h1.low hB
  · have h2 : BRows W B0 qk K := xr5Z hI hkr
    have hio : ∀ g, iv.ownBlock = some g → ov.ownBlock ≠ some g := fun g h3 h4 => by have := hM.rows.apart 0 1 iv ov g rfl rfl h3 h4; omega
    refine BRows.cons (BRows.cons h2 (xawZ (xfyZ hI hM.out (by decide)) hB) (fun k y g hy hg ho => ?_) (hM.rows.small _ (by simp))) (xawZ (xfyZ hI hM.inp (by decide)) hB) (fun k y g hy hg ho => ?_) (hM.rows.small _ (by simp))
    · have := hlow k y g hy hg
      have := (hM.out.lt g ho).1
      omega
    · cases k with
      | zero => simp at hy; subst hy; exact hio g ho hg
      | succ k =>
        have := hlow k y g (by simpa using hy) hg
        have := (hM.inp.lt g ho).1
        omega
theorem coll_plain {p : List Fn} {M : Mach} (h : xaqZ p M = 0) : xckZ M.blocks (xcfZ M) = 0 ∧ { M with frames := M.frames.map (mvF (xcfZ M)), blocks := keptL M.blocks (xcfZ M) M.blocks.length } = xajZ M := by
  obtain ⟨hp, he, hR⟩ := xa1Z.1 h
  have hk := keep_refs hR
  constructor
  · unfold xckZ at hk ⊢
    split at hk
    · rename_i h1; exact absurd hk h1
    · rename_i h1
      rw [if_neg h1]
      split at hk
      · rename_i h2
        rw [if_pos]
        rw [List.all_eq_true] at h2 ⊢
        exact fun x hx => h2 x (xizZ.1 hx)
      · cases hk
  · exact xk0Z (S := xcfZ M) (xfbZ hR) fun r _ _ => xizZ
theorem xd0Z (M : Mach) (p : List Fn) (pv fv bv iv ov : Value) (w : World) (h : CkAt w p pv fv bv iv ov M) (hpc : PcOk M) : Calls Tryz.prog 37 #[.agg #[pv], .agg #[fv, bv, iv, ov, .int .i64 M.status, .int .i64 M.trap]] w (xemZ p M w) := by
  obtain ⟨⟨pp, qp, hpv⟩, ⟨pf, cf, hfv⟩, ⟨pb, cb, hbv⟩, ⟨pi, ci, hiv⟩, ⟨po, co, hov⟩⟩ := h.shp
  subst hpv hfv hbv hiv hov
  obtain ⟨W1, hW1⟩ : ∃ W1, ((w.alloc (.cells #[.slice pp p.length qp] 24)).alloc (.cells #[.slice pf M.frames.length cf, .slice pb M.blocks.length cb, .slice pi M.inp.length ci, .slice po M.out.length co, .int .i64 M.status, .int .i64 M.trap] 29)).alloc (.cells #[.slice none 0 0, .slice none 0 0, .slice none 0 0, .slice none 0 0, .int .i64 0, .int .i64 0] 29) = W1 := ⟨_, rfl⟩
  have b1 : Below w.heap.size w W1 := by rw [← hW1]; exact (((Below.refl _ w).alloc (Nat.le_refl _) _).alloc (by simp) _).alloc (by simp; omega) _
  have u1 : W1.heap[w.heap.size]? = some (.cells #[.slice pp p.length qp] 24 (0, 0)) := by rw [← hW1]; exact xftZ _ _ _ _
  have u2 : W1.heap[w.heap.size + 1]? = some (.cells #[.slice pf M.frames.length cf, .slice pb M.blocks.length cb, .slice pi M.inp.length ci, .slice po M.out.length co, .int .i64 M.status, .int .i64 M.trap] 29 (0, 0)) := by rw [← hW1]; exact xfcZ _ _ _ _
  have u3 : W1.heap[w.heap.size + 1 + 1]? = some (.cells #[.slice none 0 0, .slice none 0 0, .slice none 0 0, .slice none 0 0, .int .i64 0, .int .i64 0] 29 (0, 0)) := by rw [← hW1]; exact new3 _ _ _ _
  have KB : Hid (∀ W, Below W1.heap.size W1 W → W.heap[w.heap.size]? = some (.cells #[.slice pp p.length qp] 24 (0, 0)) ∧ W.heap[w.heap.size + 1]? = some (.cells #[.slice pf M.frames.length cf, .slice pb M.blocks.length cb, .slice pi M.inp.length ci, .slice po M.out.length co, .int .i64 M.status, .int .i64 M.trap] 29 (0, 0)) ∧ W.heap[w.heap.size + 1 + 1]? = some (.cells #[.slice none 0 0, .slice none 0 0, .slice none 0 0, .slice none 0 0, .int .i64 0, .int .i64 0] 29 (0, 0))) := fun W hW => ⟨(hW.block _ (xacZ u1)).trans u1, (hW.block _ (xacZ u2)).trans u2, (hW.block _ (xacZ u3)).trans u3⟩
  have KC : Hid (∀ W, Below W1.heap.size W1 W → W.cell? ⟨w.heap.size, 0, none⟩ = some (.slice pp p.length qp) ∧ W.cell? ⟨w.heap.size + 1, 0, none⟩ = some (.slice pf M.frames.length cf) ∧ W.cell? ⟨w.heap.size + 1, 1, none⟩ = some (.slice pb M.blocks.length cb) ∧ W.cell? ⟨w.heap.size + 1, 2, none⟩ = some (.slice pi M.inp.length ci) ∧ W.cell? ⟨w.heap.size + 1, 3, none⟩ = some (.slice po M.out.length co) ∧ W.cell? ⟨w.heap.size + 1, 4, none⟩ = some (.int .i64 M.status) ∧ W.cell? ⟨w.heap.size + 1, 5, none⟩ = some (.int .i64 M.trap)) := fun W hW => by
    obtain ⟨h1, h2, _⟩ := KB.out W hW
    exact ⟨xaaZ h1 0, xaaZ h2 0, xaaZ h2 1, xaaZ h2 2, xaaZ h2 3, xaaZ h2 4, xaaZ h2 5⟩
  have H1 := h.below b1
  have HRO := hideP (xn8Z M p _ _ _ _ _ W1 H1 hpc)
  have HH := hideP H1
  have HB1 := hideP b1
  clear h H1 u1 u2 u3 hpc b1
  obtain ⟨e0, d0, d1, d2, d3, d4, d5⟩ := KC.out W1 (Below.refl _ _)
  by_cases hc : xaqZ p M = 0
  rotate_left
  · have hc' : (xaqZ p M != 0) = true := by simpa using hc
    have hR : xeiZ p M = [] := by unfold xeiZ; rw [if_neg hc]
    have hC : CollR p M = zeroM := by unfold CollR; rw [if_neg hc]
    have hG : goneR p M = 0 := by unfold goneR; rw [if_neg hc]
    unfold xemZ
    rw [hC, hG]
    rw [hR] at HRO
    generalize xaqZ p M = er at *
    clear hc hR hC hG
    go_enter Tryz.func37, Tryz.ntmps37
    go_wp2_with fail
    refine HRO.out.mono ?_
    rintro e w2 ⟨u, rfl, hrow2, b2⟩
    obtain ⟨pu, cu, hus⟩ := xahZ hrow2
    subst hus
    obtain ⟨W3, hW3⟩ : ∃ W3, w2.alloc (.cells #[.slice pu 0 cu] 27) = W3 := ⟨_, rfl⟩
    have b3 : Below w2.heap.size w2 W3 := by rw [← hW3]; exact (Below.refl _ w2).alloc (Nat.le_refl _) _
    have b23 := xadZ b2 b3
    have hr2 := (KB.out W3 b23).2.2
    have r0 := xaaZ hr2 0
    have r1 := xaaZ hr2 1
    have r2 := xaaZ hr2 2
    have r3 := xaaZ hr2 3
    have r4 := xaaZ hr2 4
    have r5 := xaaZ hr2 5
    simp at r0 r1 r2 r3 r4 r5
    have zq := Lib.frozen_of_heap hr2
    have z0 := zq 0
    have z1 := zq 1
    have z2 := zq 2
    have z3 := zq 3
    have z4 := zq 4
    have z5 := zq 5
    have HB3 := hideP b23
    clear zq hr2 hrow2 b2 b3 b23 e0 d0 d1 d2 d3 d4 d5
    go_wp2
    refine bodyPost_ret (v := .tuple #[.agg #[.slice none 0 0, .slice none 0 0, .slice none 0 0, .slice none 0 0, .int .i64 0, .int .i64 0], .int .i64 0, .int .i64 er]) (by simp [results, Tryz.results37, go_sem, r0, r1, r2, r3, r4, r5]) rfl ?_
    have hg6 := xbyZ W3 (w.heap.size + 1 + 1) (.slice none 0 0) (.slice none 0 0) (.slice none 0 0) (.slice none 0 0) (.int .i64 0) (.int .i64 0)
    exact ⟨_, _, _, _, rfl, xf0Z _ _, (xadZ HB1.out HB3.out).grown hg6 (xadZ HB1.out HB3.out).size (fun k hk => by cases hk; omega)⟩
  have hR : xeiZ p M = xcfZ M := by unfold xeiZ; rw [if_pos hc]
  have hC : CollR p M = xajZ M := by unfold CollR; rw [if_pos hc]
  have hG : goneR p M = (M.blocks.length : Int) - ((xajZ M).blocks.length : Int) := by unfold goneR; rw [if_pos hc]
  unfold xemZ
  rw [hC, hG]
  rw [hR] at HRO
  obtain ⟨hp, he, hRi⟩ := xa1Z.1 hc
  have sm := (xb1Z hp he hRi).1
  obtain ⟨hke, hcm⟩ := coll_plain hc
  have hkl : (xcfZ M).length ≤ 100000 := by
    have h1 : (xcfZ M).length ≤ (sortI (refsM M)).length := by
      unfold xcfZ Lib.compact Lib.compactUpTo
      rw [List.length_map]
      exact Nat.le_trans (List.length_filter_le _ _) (by simp)
    rw [xe4Z] at h1
    have hsm : ∀ l ∈ fVals M.frames, l.length ≤ 20 := fun l hl => by
      obtain ⟨x, hx, hxl⟩ := List.mem_flatMap.1 hl
      have := sm.each x hx
      simp at hxl
      rcases hxl with rfl | rfl
      · exact this.1
      · exact this.2
    have h2 := xkmZ (r := 2 * M.frames.length) (j := 0) hsm (by have := xbvZ M.frames; have := sm.fr; omega)
    rw [xi1Z] at h2
    omega
  have hbl8 := sm.bl
  have HSM := hideP sm
  have HCM := hideP hcm
  have HREF : Hid (∀ l ∈ fVals M.frames, ∀ o ∈ l, xbsZ o = true → o.2 ∈ xcfZ M) := fun l hl o ho hi => by
    obtain ⟨x, hx, hxl⟩ := List.mem_flatMap.1 hl
    obtain ⟨b, n⟩ := o
    have hi2 : b = true ∧ n ≠ 0 := by simpa [xbsZ] using hi
    obtain ⟨rfl, hn⟩ := hi2
    refine xizZ.2 (xdfZ.2 ⟨hn, x, hx, ?_⟩)
    simp at hxl
    rcases hxl with rfl | rfl
    · exact .inl ho
    · exact .inr ho
  have hKR : keptR M.blocks (xcfZ M) = keptL M.blocks (xcfZ M) M.blocks.length := by unfold keptR; rw [if_pos hke]
  have hTR : thenR M.blocks (xcfZ M) = (xcfZ M).map (xaoZ (xcfZ M)) := by unfold thenR; rw [if_pos hke]
  have hst : (xajZ M).status = M.status := rfl
  have htp : (xajZ M).trap = M.trap := rfl
  rw [hst, htp, hc]
  rw [hc] at HRO
  have HKL := hideP hkl
  have HE := hideP (And.intro hke (And.intro hKR hTR))
  have HPR := hideP (And.intro hp (And.intro he hRi))
  generalize hSS : xcfZ M = S at *
  generalize hKK : keptL M.blocks S M.blocks.length = K at *
  have hKlen : (xajZ M).blocks.length = K.length := by rw [← HCM.out]
  rw [hKlen]
  clear hR hC hG hp he hRi sm hke hcm hkl hKR hTR hst htp hc hSS hKK hKlen
  go_enter Tryz.func37, Tryz.ntmps37
  go_wp2_with fail
  refine HRO.out.mono ?_
  rintro e w2 ⟨u, rfl, hrow2, b2⟩
  obtain ⟨pu, cu, hus⟩ := xahZ hrow2
  subst hus
  obtain ⟨W3, hW3⟩ : ∃ W3, w2.alloc (.cells #[.slice pu S.length cu] 27) = W3 := ⟨_, rfl⟩
  have b3 : Below w2.heap.size w2 W3 := by rw [← hW3]; exact (Below.refl _ w2).alloc (Nat.le_refl _) _
  have u3 : W3.heap[w2.heap.size]? = some (.cells #[.slice pu S.length cu] 27 (0, 0)) := by rw [← hW3]; exact World.alloc_heap_new w2 _
  have HB3 := hideP (xadZ b2 b3)
  have hu3 := (xbkZ rfl hrow2).below b3
  have HU3 := hideP hu3
  have HBX := hideP u3
  have x0 := xaaZ u3 0
  simp at x0
  have HKEEP := hideP (bKeep_any M.blocks S _ _ W3 ((HH.out.below HB3.out).mach.bl) hu3 (by have := HKL.out; omega))
  rw [HE.out.1, HE.out.2.1, HE.out.2.2] at HKEEP
  obtain ⟨e0', d0', d1', d2', d3', d4', d5'⟩ := KC.out W3 HB3.out
  clear hrow2 b2 b3 u3 hu3 e0 d0 d1 d2 d3 d4 d5
  go_wp2_with fail
  refine HKEEP.out.mono ?_
  rintro e w4 ⟨x, y, rfl, hK, hT, b4⟩
  obtain ⟨py, cy, hys⟩ := xahZ hT
  subst hys
  rw [List.length_map] at hT ⊢
  obtain ⟨px, nx, cx, hxs⟩ := xdeZ hK
  subst hxs
  obtain ⟨W5, hW5⟩ : ∃ W5, w4.alloc (.cells #[.slice py S.length cy] 27) = W5 := ⟨_, rfl⟩
  have b5 : Below w4.heap.size w4 W5 := by rw [← hW5]; exact (Below.refl _ w4).alloc (Nat.le_refl _) _
  have u5 : W5.heap[w4.heap.size]? = some (.cells #[.slice py S.length cy] 27 (0, 0)) := by rw [← hW5]; exact World.alloc_heap_new w4 _
  have HTB := hideP u5
  have b35 := xadZ b4 b5
  have HRB := hideP ((b35.block _ (xacZ HBX.out)).trans HBX.out)
  have HB5 := hideP (xadZ HB3.out b35)
  have HT5 := hideP ((xbkZ (by simp) hT).below b5)
  have HU5 := hideP (HU3.out.below b35)
  have hK5 := hK.below b5
  have hnx : nx = K.length := by
    obtain ⟨qk, h1, h2⟩ := hK
    have := h2.len
    rcases h1.2 with ⟨h3, h4⟩ | ⟨g, cap, cur, h3, _⟩
    · cases h3; omega
    · cases h3; omega
  subst hnx
  have hK8 : K.length ≤ 100 := by
    rw [← show (xajZ M).blocks.length = K.length by rw [← HCM.out]]
    have h1 := (xgtZ (refsM M) HPR.out.2.2.blocks).2.1
    show (keptL M.blocks (refsM M) M.blocks.length).length ≤ 100
    omega
  have HK5 := hideP hK5
  have hs35 := b35.size
  have HSZ := hideP (Nat.le_trans HB3.out.size hs35)
  have HS35 := hideP hs35
  have HFM := hideP (xb8Z M _ _ _ _ W5 (HH.out.below HB5.out).mach HSM.out)
  obtain ⟨e0, d0, d1, d2, d3, d4, d5⟩ := KC.out W5 HB5.out
  clear hK hT b4 b5 u5 b35 hK5 e0' d0' d1' d2' d3' d4' d5' hs35 x0
  go_wp2_with fail
  refine HFM.out.mono ?_
  rintro e w6 ⟨f6, b6, i6, o6, rfl, q, qb, hM, bel6⟩
  obtain ⟨p6, c6, hf6⟩ := xahZ hM.fr
  obtain ⟨pb6, cb6, hb6⟩ := xahZ hM.bl
  obtain ⟨pi6, ci6, hi6⟩ := xahZ hM.inp
  obtain ⟨po6, co6, ho6⟩ := xahZ hM.out
  subst hf6 hb6 hi6 ho6
  obtain ⟨Wa, hWa⟩ : ∃ Wa, w6.alloc (.cells #[.slice p6 q.length c6, .slice pb6 qb.length cb6, .slice pi6 M.inp.length ci6, .slice po6 M.out.length co6, .int .i64 M.status, .int .i64 M.trap] 29) = Wa := ⟨_, rfl⟩
  have ba : Below w6.heap.size w6 Wa := by rw [← hWa]; exact (Below.refl _ w6).alloc (Nat.le_refl _) _
  have ua : Wa.heap[w6.heap.size]? = some (.cells #[.slice p6 q.length c6, .slice pb6 qb.length cb6, .slice pi6 M.inp.length ci6, .slice po6 M.out.length co6, .int .i64 M.status, .int .i64 M.trap] 29 (0, 0)) := by rw [← hWa]; exact World.alloc_heap_new w6 _
  obtain ⟨W7, hW7⟩ : ∃ W7, Wa.setCell ⟨w6.heap.size, 1, none⟩ (.slice px K.length cx) = W7 := ⟨_, rfl⟩
  have hz6 := Lib.frozen_of_heap ua 1
  have u7 : W7.heap[w6.heap.size]? = some (.cells #[.slice p6 q.length c6, .slice px K.length cx, .slice pi6 M.inp.length ci6, .slice po6 M.out.length co6, .int .i64 M.status, .int .i64 M.trap] 29 (0, 0)) := by rw [← hW7]; have := heap_setCell_same Wa w6.heap.size 1 _ _ (.slice px K.length cx) ua; simpa using this
  have hg7 := xalZ Wa ⟨w6.heap.size, 1, none⟩ (.slice px K.length cx)
  rw [hW7] at hg7
  have ht7 : TyRow Wa (some w6.heap.size) 29 := xbcZ ua
  have bel7 : Below W5.heap.size W5 W7 := (xadZ bel6 ba).grown hg7 (xadZ bel6 ba).size (fun k hk => by cases hk; exact bel6.size)
  have hM7 : MOwn W7 W5.heap.size _ _ _ _ q qb M := (hM.below ba).keep hg7 ht7 (by decide) (by decide) (by decide) (by decide)
  have hsz7 : W5.heap.size ≤ W7.heap.size := bel7.size
  have hn7 : 2 * M.frames.length = (fVals M.frames).length := by rw [xbvZ]; omega
  have hrows7 := hM7.frs.rows
  have hI0 : MoveI W5.heap.size W7 S (fRows q) (fVals M.frames) 0 0 W7 := ⟨Below.refl _ _, Nat.le_refl _, by rw [partV_zero]; exact hrows7, fun _ _ _ _ _ _ => rfl⟩
  have hU : ∀ W, Below W5.heap.size W7 W → IntsAt W (.slice pu S.length cu) S := fun W hW => HU5.out.below (bel7.trans hW)
  have hV : ∀ W, Below W5.heap.size W7 W → IntsAt W (.slice py S.length cy) (S.map (xaoZ S)) := fun W hW => HT5.out.below (bel7.trans hW)
  have htb7 : W7.heap[w4.heap.size]? = some (.cells #[.slice py S.length cy] 27 (0, 0)) := (bel7.block _ (xacZ HTB.out)).trans HTB.out
  have hrb7 : W7.heap[w2.heap.size]? = some (.cells #[.slice pu S.length cu] 27 (0, 0)) := (bel7.block _ (xacZ HRB.out)).trans HRB.out
  have hA : EachAt (MoveI W5.heap.size W7 S (fRows q) (fVals M.frames)) p6 c6 q M.frames := {
    len := hM7.frs.len
    few := HSM.out.fr
    rowL := fun i c x hc hx => ⟨by have := (HSM.out.each x (List.mem_of_getElem? hx)).1; omega, by
      have h1 := hrows7.each _ _ _ (xc8Z q i c hc).1 (xb9Z M.frames i x hx).1
      obtain ⟨a, b, h⟩ := xahZ h1
      exact ⟨a, b, h⟩⟩
    rowS := fun i c x hc hx => ⟨by have := (HSM.out.each x (List.mem_of_getElem? hx)).2; omega, by
      have h1 := hrows7.each _ _ _ (xc8Z q i c hc).2 (xb9Z M.frames i x hx).2
      obtain ⟨a, b, h⟩ := xahZ h1
      exact ⟨a, b, h⟩⟩
    cell := fun i c hc => by
      rcases hM7.fr.2 with ⟨h1, h2⟩ | ⟨g, cap, cur, h1, h2, h3, _⟩
      · have := xafZ hc; omega
      · cases h1
        refine ⟨g, 0, rfl, fun r j W hW => ?_⟩
        have h4 := xfyZ hW hM7.fr (by decide)
        obtain ⟨k0, k1, k2, k3⟩ := xeaZ q i c hc
        refine ⟨?_, ?_, ?_, ?_⟩
        · rw [Nat.zero_add]; exact xc0Z h4 _ _ k0
        · rw [Nat.zero_add]; exact xc0Z h4 _ _ k1
        · rw [Nat.zero_add]; exact xc0Z h4 _ _ k2
        · rw [Nat.zero_add]; exact xc0Z h4 _ _ k3
    keep := fun r j W W' hW hb => ⟨hW.bel.trans (hb.mono (Nat.le_trans hsz7 hW.size)), Nat.le_trans hW.size hb.size, hW.rows.below hb, fun k cs t fz hk hne => by
      have h6 := (hW.kept k cs t fz hk hne).trans hk
      rw [xg9Z hb h6, h6, hk]⟩
    nextL := fun i x W hx hW => by
      have h1 := (xb9Z M.frames i x hx).1
      rw [Nat.mul_comm] at h1
      exact ⟨hW.bel, hW.size, by rw [← xmyZ h1]; exact hW.rows, hW.kept⟩
    nextS := fun i x W hx hW => by
      have h1 := (xb9Z M.frames i x hx).2
      rw [Nat.mul_comm] at h1
      exact ⟨hW.bel, hW.size, by rw [show 2 * (i + 1) = 2 * i + 1 + 1 by omega, ← xmyZ h1]; exact hW.rows, hW.kept⟩ }
  have hD : DoesAt 79 #[.pointer (some ⟨w4.heap.size, 0, none⟩), .pointer (some ⟨w2.heap.size, 0, none⟩)] (MoveI W5.heap.size W7 S (fRows q) (fVals M.frames)) q M.frames := {
    doL := fun i j c x hc hx hj => by
      obtain ⟨o, ho⟩ := xaiZ hj
      have h1 := (xb9Z M.frames i x hx).1
      have h2 := (xc8Z q i c hc).1
      have h3 := hrows7.each _ _ _ h2 h1
      rw [Nat.mul_comm] at h1 h2
      obtain ⟨g, cap, hv, hdo⟩ := xokZ h2 h1 ho h3 (HREF.out _ (List.mem_of_getElem? h1) o (List.mem_of_getElem? ho)) hsz7 htb7 hrb7 hU hV
      exact ⟨g, 0, cap, hv, hdo⟩
    doS := fun i j c x hc hx hj => by
      obtain ⟨o, ho⟩ := xaiZ hj
      have h1 := (xb9Z M.frames i x hx).2
      have h2 := (xc8Z q i c hc).2
      have h3 := hrows7.each _ _ _ h2 h1
      rw [Nat.mul_comm] at h1 h2
      obtain ⟨g, cap, hv, hdo⟩ := xokZ h2 h1 ho h3 (HREF.out _ (List.mem_of_getElem? h1) o (List.mem_of_getElem? ho)) hsz7 htb7 hrb7 hU hV
      exact ⟨g, 0, cap, hv, hdo⟩ }
  have hEACH := each_gen 79 _ _ p6 c6 q M.frames W7 ent_coll1 hA hD hI0
  have hql := hM7.frs.len
  rw [← hql] at hEACH
  have HEACH := hideP hEACH
  have HW6 := hideP bel6.size
  have HM7 := hideP hM7
  have HB7 := hideP bel7
  have HU7 := hideP u7
  have HQL := hideP hql
  have m0 := xaaZ ua 0
  have m1 := xaaZ ua 1
  have n0 := xaaZ u7 0
  simp at m0 m1 n0
  clear hA hD hI0 hU hV htb7 hrb7 hrows7 hM hM7 bel6 bel7 ba ua u7 hg7 ht7 hsz7 hn7 hEACH hql e0 d0 d1 d2 d3 d4 d5
  go_wp2_with fail
  refine HEACH.out.mono ?_
  rintro e w8 ⟨rfl, hI⟩
  rw [HQL.out] at hI
  have hz8 := (hI.kept _ _ _ _ HU7.out (by decide)).trans HU7.out
  have b58 : Below W5.heap.size W5 w8 := HB7.out.trans hI.bel
  have b18 := xadZ HB5.out b58
  obtain ⟨k1, k2, k3⟩ := KB.out w8 b18
  have g1 := xaaZ k2 1
  have s0 := xaaZ k3 0
  have s1 := xaaZ k3 1
  have s2 := xaaZ k3 2
  have s3 := xaaZ k3 3
  have s4 := xaaZ k3 4
  have s5 := xaaZ k3 5
  simp at g1 s0 s1 s2 s3 s4 s5
  have yq := Lib.frozen_of_heap k3
  have y0 := yq 0
  have y1 := yq 1
  have y2 := yq 2
  have y3 := yq 3
  have y4 := yq 4
  have y5 := yq 5
  clear yq
  have c0 := xaaZ hz8 0
  have c1 := xaaZ hz8 1
  have c2 := xaaZ hz8 2
  have c3 := xaaZ hz8 3
  have c4 := xaaZ hz8 4
  have c5 := xaaZ hz8 5
  simp at c0 c1 c2 c3 c4 c5
  obtain ⟨z, hzz⟩ : ∃ z, w6.heap.size = z := ⟨_, rfl⟩
  rw [hzz] at c0 c1 c2 c3 c4 c5
  have hsz := HB1.out.size
  have hszz := HSZ.out
  have hne : ¬ z = w.heap.size + 1 + 1 := by
    have h1 := HB5.out.size
    have h2 := HB7.out.size
    have h3 : w.heap.size + 1 + 1 < W1.heap.size := xacZ (KB.out W1 (Below.refl _ _)).2.2
    have h4 : W5.heap.size ≤ w6.heap.size := HW6.out
    omega
  have hne1 : ¬ (w.heap.size + 1) = w.heap.size + 1 + 1 := by omega
  obtain ⟨qk, hk1, hk2⟩ := HK5.out
  have hkn : K.length = qk.length := by rw [hk2.len]
  have hk7 : W7.ownsRow W3.heap.size 27 1 (.slice px K.length cx) qk.length qk := xavZ (by rw [hkn] at hk1 ⊢; exact hk1) fun k hk => HB7.out.block k (hk1.lt k hk).2
  have hlow : ∀ (k : Nat) (y : Value) (g : Nat), qk[k]? = some y → y.ownBlock = some g → g < W5.heap.size := fun k y g hy hg => by
    obtain ⟨b, hb⟩ := xaiZ (l := K) (k := k) (by rw [← hk2.len]; exact xafZ hy)
    exact ((hk2.each k y b hy hb).lt g hg).2
  have hown := coll_own HM7.out hk7 (hk2.below HB7.out) hlow HS35.out hI
  rw [HCM.out] at hown
  have hHS3 : w.heap.size ≤ W3.heap.size := Nat.le_trans HB1.out.size HB3.out.size
  have HST := hideP (xehZ (w := w) (hown.res.low hHS3) (HB1.out.trans (b18.mono HB1.out.size)) k3 (by omega))
  have T0 := xb4Z (a := .slice p6 q.length c6) (b := .slice px K.length cx) (c := .slice pi6 M.inp.length ci6) (d := .slice po6 M.out.length co6) (e := .int .i64 M.status) (f := .int .i64 M.trap) c0 hne
  have T1 := xb4Z (a := .slice p6 q.length c6) (b := .slice px K.length cx) (c := .slice pi6 M.inp.length ci6) (d := .slice po6 M.out.length co6) (e := .int .i64 M.status) (f := .int .i64 M.trap) c1 hne
  have T2 := xb4Z (a := .slice p6 q.length c6) (b := .slice px K.length cx) (c := .slice pi6 M.inp.length ci6) (d := .slice po6 M.out.length co6) (e := .int .i64 M.status) (f := .int .i64 M.trap) c2 hne
  have T3 := xb4Z (a := .slice p6 q.length c6) (b := .slice px K.length cx) (c := .slice pi6 M.inp.length ci6) (d := .slice po6 M.out.length co6) (e := .int .i64 M.status) (f := .int .i64 M.trap) c3 hne
  have T4 := xb4Z (a := .slice p6 q.length c6) (b := .slice px K.length cx) (c := .slice pi6 M.inp.length ci6) (d := .slice po6 M.out.length co6) (e := .int .i64 M.status) (f := .int .i64 M.trap) c4 hne
  have T5 := xb4Z (a := .slice p6 q.length c6) (b := .slice px K.length cx) (c := .slice pi6 M.inp.length ci6) (d := .slice po6 M.out.length co6) (e := .int .i64 M.status) (f := .int .i64 M.trap) c5 hne
  have T6 := xb4Z (a := .slice p6 q.length c6) (b := .slice px K.length cx) (c := .slice pi6 M.inp.length ci6) (d := .slice po6 M.out.length co6) (e := .int .i64 M.status) (f := .int .i64 M.trap) g1 hne1
  have hwr : IntKind.i64.wrap ((M.blocks.length : Int) - (K.length : Int)) = (M.blocks.length : Int) - (K.length : Int) := by rw [IntKind.wrap_i64]; omega
  clear hI hz8 b58 b18 k1 k2 k3 hk1 hk2 hk7 hlow hown HEACH hkn
  go_wp2_with fail
  go_region_held3 (fun X => X.cell? ⟨z, 0, none⟩ = some (.slice p6 q.length c6) ∧ X.cell? ⟨z, 1, none⟩ = some (.slice px K.length cx) ∧ X.cell? ⟨z, 2, none⟩ = some (.slice pi6 M.inp.length ci6) ∧ X.cell? ⟨z, 3, none⟩ = some (.slice po6 M.out.length co6) ∧ X.cell? ⟨z, 4, none⟩ = some (.int .i64 M.status) ∧ X.cell? ⟨z, 5, none⟩ = some (.int .i64 M.trap) ∧ X.cell? ⟨w.heap.size + 1, 1, none⟩ = some (.slice pb M.blocks.length cb)) (first | go_keep | exact ⟨T0, T1, T2, T3, T4, T5, T6⟩) (fail)
  clear T0 T1 T2 T3 T4 T5 T6
  go_wp2
  refine bodyPost_ret (v := .tuple #[.agg #[.slice p6 q.length c6, .slice px K.length cx, .slice pi6 M.inp.length ci6, .slice po6 M.out.length co6, .int .i64 M.status, .int .i64 M.trap], .int .i64 ((M.blocks.length : Int) - (K.length : Int)), .int .i64 0]) (by simp [results, Tryz.results37, go_sem, s0, s1, s2, s3, s4, s5]) rfl ?_
  exact ⟨_, _, _, _, rfl, HST.out.1.below (Below.refl _ _).drew, HST.out.2.drew⟩
end Go.Proofs.YtcadpoknolefpaaGreat


