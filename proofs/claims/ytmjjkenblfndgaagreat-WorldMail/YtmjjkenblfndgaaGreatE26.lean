/- My texts Zk Zl Td Zd Zm: what of them is needed, joined. -/
import Derived.Deep.RegionWith
import Derived.Deep.RegionHeld3
import Derived.Test.YtmjjkenblfndgaaGreatE11
import Derived.Test.YtmjjkenblfndgaaGreatE18
import Derived.Test.YtmjjkenblfndgaaGreatE24
import Derived.Test.YtmjjkenblfndgaaGreatE25
set_option maxRecDepth 100000
set_option maxHeartbeats 8000000
/- world.Turn. -/
namespace Go.Proofs.YtmjjkenblfndgaaGreat
open Go.RowKit
set_option linter.unusedSimpArgs false
set_option linter.unusedVariables false
noncomputable def turnE (p : List Fn) (L : List Mach) (n : Int) : Int := if xa3Z p L ≠ 0 then xa3Z p L else if n < 0 ∨ 10000 < n then 3 else 0
def TurnIs (p : List Fn) (L : List Mach) (n : Int) (T : List Mach) : Prop := (turnE p L n = 0 → ∃ V, xflZ p L n V ∧ T = mailW V) ∧ (turnE p L n ≠ 0 → T = [])
theorem xhtZ {p : List Fn} {L : List Mach} {n : Int} : turnE p L n = 0 ↔ xa3Z p L = 0 ∧ 0 ≤ n ∧ n ≤ 10000 := by
  unfold turnE
  constructor
  · intro h
    split at h
    · contradiction
    · rename_i h1
      split at h
      · omega
      · rename_i h2
        exact ⟨by simpa using h1, by omega, by omega⟩
  · rintro ⟨h1, h2, h3⟩
    rw [if_neg (by simpa using h1), if_neg (by omega)]
def TurnI (p : List Fn) (L : List Mach) (n : Int) (w2 w3 : World) (i : Nat) : Prop := ∃ u ms rs V, V.length = i ∧ Carr w2 w3 w2.heap.size u ms rs V 0 ∧ (∀ (k : Nat) (r : MR), rs[k]? = some r → r.I.length ≤ 1000) ∧ ∀ (k : Nat) (m : Mach), k < i → L[k]? = some m → ∃ t : MF, RunIs p m n t ∧ V[k]? = some t.1
theorem xmuZ (L : List Mach) (p : List Fn) (n : Int) (pv wv : Value) (w : World) (hp : FnsAt w pv p) (hcp : CapAt w pv) (h : MachsAt w wv L) (hpc : ∀ M ∈ L, PcOk M) : Calls Tryz.prog 12 #[.agg #[pv], .agg #[wv], .int .i64 n] w fun e w' => ∃ T u, TurnIs p L n T ∧ e = .returned (.tuple #[.agg #[u], .int .i64 (turnE p L n)]) ∧ WOut T 1040 w u w' := by
  obtain ⟨i0, hi, hz0, hz1, hz2⟩ := info_parts infoMach
  obtain ⟨pp, qp, hpv, -⟩ := id hp
  subst hpv
  obtain ⟨pw, cw, hwv, hlw⟩ := h.shp
  subst hwv
  obtain ⟨-, -, -, hmx, -⟩ := id h
  unfold maxLen at hmx
  obtain ⟨W1, hW1⟩ : ∃ W1, ((w.alloc (.cells #[.slice pp p.length qp] 24)).alloc (.cells #[.slice pw L.length cw] 27)).alloc (.cells #[.slice none 0 0] 27) = W1 := ⟨_, rfl⟩
  have b1 : Below w.heap.size w W1 := by rw [← hW1]; exact (((Below.refl _ w).alloc (Nat.le_refl _) _).alloc (by simp) _).alloc (by simp; omega) _
  have u1 : W1.heap[w.heap.size]? = some (.cells #[.slice pp p.length qp] 24 (0, 0)) := by rw [← hW1]; exact xepZ _ _ _ _
  have u2 : W1.heap[w.heap.size + 1]? = some (.cells #[.slice pw L.length cw] 27 (0, 0)) := by rw [← hW1]; exact xedZ _ _ _ _
  have u3 : W1.heap[w.heap.size + 1 + 1]? = some (.cells #[.slice none 0 0] 27 (0, 0)) := by rw [← hW1]; exact new3 _ _ _ _
  have sW1 : W1.heap.size = w.heap.size + 1 + 1 + 1 := by rw [← hW1]; simp
  have KC : Hid (∀ W, Below W1.heap.size W1 W → W.cell? ⟨w.heap.size, 0, none⟩ = some (.slice pp p.length qp) ∧ W.cell? ⟨w.heap.size + 1, 0, none⟩ = some (.slice pw L.length cw) ∧ W.heap[w.heap.size + 1 + 1]? = some (.cells #[.slice none 0 0] 27 (0, 0))) := fun W hW => ⟨xaaZ ((hW.block _ (xacZ u1)).trans u1) 0, xaaZ ((hW.block _ (xacZ u2)).trans u2) 0, (hW.block _ (xacZ u3)).trans u3⟩
  have HCK := hideP (xf3Z L p _ _ W1 (hp.below b1) (hcp.below hp b1) (h.below b1) hpc)
  have HM := hideP (h.below b1)
  have HP := hideP (And.intro (hp.below b1) (hcp.below hp b1))
  have HPC := hideP hpc
  have HB1 := hideP b1
  have HSW := hideP sW1
  obtain ⟨e0, e1, -⟩ := KC.out W1 (Below.refl _ _)
  clear hp hcp h u1 u2 u3 b1 hpc sW1
  by_cases h0 : xa3Z p L = 0
  rotate_left
  · have t0 : (xa3Z p L != 0) = true := by simpa using h0
    have hE : turnE p L n = xa3Z p L := if_pos h0
    have hT : TurnIs p L n [] := ⟨fun h => absurd (hE ▸ h) h0, fun _ => rfl⟩
    have HT := hideP hT
    rw [hE]
    generalize xa3Z p L = er at *
    clear h0 hE hT
    go_enter Tryz.func12, Tryz.ntmps12
    go_wp2_with fail
    refine HCK.out.mono ?_
    rintro e w2 ⟨rfl, b2⟩
    obtain ⟨e0', e1', z2⟩ := KC.out w2 b2
    have y0 := Lib.frozen_of_heap z2 0
    have z0 := xaaZ z2 0
    simp at z0
    go_wp2
    refine bodyPost_ret (v := .tuple #[.agg #[.slice none 0 0], .int .i64 er]) (by simp [results, Tryz.results12, go_sem, z0, y0]) rfl ?_
    exact ⟨[], _, HT.out, rfl, xdqZ ((xaeZ HB1.out b2).setCell (p := ⟨w.heap.size + 1 + 1, 0, none⟩) (by simp only; omega) _) _⟩
  have t0 : (xa3Z p L != 0) = false := by simpa using h0
  by_cases hn : n < 0 ∨ 10000 < n
  · have hE : turnE p L n = 3 := by unfold turnE; rw [if_neg (by simpa using h0), if_pos hn]
    have HT := hideP (show TurnIs p L n [] from ⟨fun h => by rw [hE] at h; simp at h, fun _ => rfl⟩)
    rw [hE]
    rw [h0] at HCK
    clear h0 hE t0
    go_enter Tryz.func12, Tryz.ntmps12
    go_wp2_with fail
    refine HCK.out.mono ?_
    rintro e w2 ⟨rfl, b2⟩
    obtain ⟨e0', e1', z2⟩ := KC.out w2 b2
    have y0 := Lib.frozen_of_heap z2 0
    have z0 := xaaZ z2 0
    simp at z0
    by_cases hn1 : n < 0
    · have t1 : decide (n < 0) = true := by simpa using hn1
      go_wp2
      refine bodyPost_ret (v := .tuple #[.agg #[.slice none 0 0], .int .i64 3]) (by simp [results, Tryz.results12, go_sem, z0, y0]) rfl ?_
      exact ⟨[], _, HT.out, rfl, xdqZ ((xaeZ HB1.out b2).setCell (p := ⟨w.heap.size + 1 + 1, 0, none⟩) (by simp only; omega) _) _⟩
    · have t1 : decide (n < 0) = false := by simp; omega
      have hn2 : 10000 < n := by omega
      have t2 : decide (n > 10000) = true := by simp; omega
      have t2' : decide (10000 < n) = true := by simp; omega
      go_wp2
      refine bodyPost_ret (v := .tuple #[.agg #[.slice none 0 0], .int .i64 3]) (by simp [results, Tryz.results12, go_sem, z0, y0]) rfl ?_
      exact ⟨[], _, HT.out, rfl, xdqZ ((xaeZ HB1.out b2).setCell (p := ⟨w.heap.size + 1 + 1, 0, none⟩) (by simp only; omega) _) _⟩
  have hn1 : 0 ≤ n := by omega
  have hn2 : n ≤ 10000 := by omega
  have t1 : decide (n < 0) = false := by simp; omega
  have t2 : decide (n > 10000) = false := by simp; omega
  have t2' : decide (10000 < n) = false := by simp; omega
  have HE := hideP (xhtZ.2 ⟨h0, hn1, hn2⟩)
  obtain ⟨r1, r2, r3, r4, r5⟩ := xfkZ h0
  rw [HE.out]
  rw [h0] at HCK
  have HR := hideP r5
  have HF := hideP r4
  clear h0 t0 r1 r5 r4 hn
  go_enter Tryz.func12, Tryz.ntmps12
  go_wp2_with fail
  refine HCK.out.mono ?_
  rintro e w2 ⟨rfl, b2⟩
  obtain ⟨e0', e1', z2⟩ := KC.out w2 b2
  have HB2 := hideP b2
  obtain ⟨W3, hW3⟩ : ∃ W3, w2.alloc (.cells #[.slice none 0 0, .int .i64 0] 73) = W3 := ⟨_, rfl⟩
  have b3 : Below w2.heap.size w2 W3 := by rw [← hW3]; exact (Below.refl _ w2).alloc (Nat.le_refl _) _
  have x3 : W3.heap[w2.heap.size]? = some (.cells #[.slice none 0 0, .int .i64 0] 73 (0, 0)) := by rw [← hW3]; exact World.alloc_heap_new w2 _
  have HI0 := hideP (show TurnI p L n w2 W3 0 from ⟨.slice none 0 0, [], [], [], rfl, ⟨x3, ⟨rfl, .inl ⟨rfl, rfl⟩⟩, xj5Z _ _, b3, Nat.le_refl _⟩, fun k r h => by simp at h, fun k m h => by omega⟩)
  obtain ⟨e0'', e1'', -⟩ := KC.out W3 (xaeZ b2 b3)
  have HB3 := hideP b3
  clear z2 b2 e0' e1' e0 e1 x3 b3
  go_wp2
  go_loopw [11, 12, 13, 14, 32] (fun _ _ _ _ v32 wr => ∃ i : Nat, i ≤ L.length ∧ v32 = .int .i64 i ∧ TurnI p L n w2 wr i) (fun _ _ _ _ v32 _ => L.length - (intOf v32).toNat)
  case atStart => exact ⟨0, Nat.zero_le _, rfl, HI0.out⟩
  case round =>
    rename World => w3
    obtain ⟨i, hil, rfl, hti⟩ := hrel
    by_cases hlt : i < L.length
    rotate_left
    · have hlti : ¬ (i : Int) < (L.length : Int) := by omega
      have hil : i = L.length := by omega
      subst hil
      obtain ⟨u3, ms3, rs3, V, hVl, hC, hI, hV⟩ := hti
      have hRun : xflZ p L n V := ⟨hVl, fun k m hm => hV k m (xadZ hm) hm⟩
      have hVr := xgdZ r3 HF.out HR.out hn1 hRun
      have HCA := hideP (xlyZ w2 w3 w2.heap.size V ⟨_, _, _, hC, hI⟩ (by omega) (fun M hM => (hVr M hM).out.1) (fun M hM => (hVr M hM).inp.1) (fun M hM => (hVr M hM).status))
      have HRUN := hideP hRun
      have HVL := hideP hVl
      clear hC hI hV hRun hVr hVl
      go_wp2_with fail
      refine HCA.out.mono ?_
      rintro e w5 ⟨rfl, hcar⟩
      obtain ⟨u5, ms5, rs5, hC, hI⟩ := hcar
      obtain ⟨p5, c5, hu5⟩ := xaiZ hC.row
      rw [hC.res.lenM] at hu5
      subst hu5
      have b25 := hC.bel
      obtain ⟨-, -, z5⟩ := KC.out w5 (xaeZ HB2.out b25)
      have y0 := Lib.frozen_of_heap z5 0
      have z0 := xaaZ z5 0
      have k0 := xaaZ hC.cell 0
      simp at z0 k0
      have HC := hideP hC
      have HI5 := hideP hI
      have HZ5 := hideP z5
      clear hC hI b25 z5
      go_wp2
      refine bodyPost_ret (v := .tuple #[.agg #[.slice p5 (mailW V).length c5], .int .i64 0]) (by simp [results, Tryz.results12, go_sem, z0, y0]) rfl ?_
      exact ⟨mailW V, _, ⟨fun _ => ⟨V, HRUN.out, rfl⟩, fun h => absurd HE.out h⟩, rfl, xiuZ (m := 1040) HC.out HI5.out (xaeZ HB1.out HB2.out) (by omega) HZ5.out _ (by have := HVL.out; omega)⟩
    have hlti : (i : Int) < (L.length : Int) := by omega
    obtain ⟨M, hM⟩ := xagZ hlt
    obtain ⟨u, ms, rs, V, hVl, hC, hI, hV⟩ := hti
    have b23 := hC.bel
    obtain ⟨e30, e31, -⟩ := KC.out w3 (xaeZ HB2.out b23)
    obtain ⟨p9, c9, he9, -, -, hf⟩ := (HM.out.below (xaeZ HB2.out b23))
    cases he9
    obtain ⟨g, off, fv, bv, iv, ov, hpw, hg, m0, m1, m2, m3, m4, m5, hMA⟩ := hf i M hM
    subst hpw
    obtain ⟨⟨pf, cf, hfv⟩, ⟨pb, cb, hbv⟩, ⟨pi, ci, hiv⟩, ⟨po, co, hov⟩⟩ := hMA.shp
    subst hfv hbv hiv hov
    obtain ⟨W4, hW4⟩ : ∃ W4, w3.alloc (.cells #[.slice pf M.frames.length cf, .slice pb M.blocks.length cb, .slice pi M.inp.length ci, .slice po M.out.length co, .int .i64 M.status, .int .i64 M.trap] 48) = W4 := ⟨_, rfl⟩
    have b4 : Below w3.heap.size w3 W4 := by rw [← hW4]; exact (Below.refl _ w3).alloc (Nat.le_refl _) _
    have x4 : W4.heap[w3.heap.size]? = some (.cells #[.slice pf M.frames.length cf, .slice pb M.blocks.length cb, .slice pi M.inp.length ci, .slice po M.out.length co, .int .i64 M.status, .int .i64 M.trap] 48 (0, 0)) := by rw [← hW4]; exact World.alloc_heap_new w3 _
    have d0 : W4.cell? ⟨w3.heap.size, 0, none⟩ = some (.slice pf M.frames.length cf) := xaaZ x4 0
    have d1 : W4.cell? ⟨w3.heap.size, 1, none⟩ = some (.slice pb M.blocks.length cb) := xaaZ x4 1
    have d2 : W4.cell? ⟨w3.heap.size, 2, none⟩ = some (.slice pi M.inp.length ci) := xaaZ x4 2
    have d3 : W4.cell? ⟨w3.heap.size, 3, none⟩ = some (.slice po M.out.length co) := xaaZ x4 3
    have d4 : W4.cell? ⟨w3.heap.size, 4, none⟩ = some (.int .i64 M.status) := xaaZ x4 4
    have d5 : W4.cell? ⟨w3.heap.size, 5, none⟩ = some (.int .i64 M.trap) := xaaZ x4 5
    have b24 := xaeZ b23 b4
    obtain ⟨e40, e41, -⟩ := KC.out W4 (xaeZ HB2.out b24)
    have HRU := hideP (mRun_any M p n _ _ _ _ _ W4 ⟨HP.out.1.below (xaeZ HB2.out b24), HP.out.2.below HP.out.1 (xaeZ HB2.out b24), hMA.below b4⟩ (HPC.out M (List.mem_of_getElem? hM)))
    have hRM := HR.out M (List.mem_of_getElem? hM)
    have hcM : xblZ p M = 0 := xfiZ.2 ⟨r3, HF.out, hRM⟩
    have hre : runE p M n = 0 := xmjZ.2 ⟨hcM, hn1, hn2⟩
    have HRE := hideP hre
    have HRM := hideP hRM
    have HM0 := hideP hM
    have HV := hideP (And.intro hVl hV)
    have HC := hideP hC
    have HI := hideP hI
    have HB4 := hideP b4
    clear hf hMA hM hVl hC hI hV x4 b24 hRM hcM hre e30 b4
    go_wp2_with fail
    refine HRU.out.mono ?_
    rintro e w5 ⟨t, ht, nf, nb, ni, no, rfl, hr5, b5⟩
    have hrun : RunIs p M n t := ht.1 HRE.out
    obtain ⟨⟨qf, kf, hqf⟩, ⟨qb, kb, hqb⟩, ⟨qi, ki, hqi⟩, ⟨qo, ko, hqo⟩⟩ := xikZ hr5
    subst hqf hqb hqi hqo
    have hrr := (xmlZ r3 HF.out HRM.out hn1 hrun).1
    obtain ⟨rt, hmt, hrt⟩ := hr5.has (by have := hrr.inp.1; omega)
    obtain ⟨W6, hW6⟩ : ∃ W6, w5.alloc (.cells #[.slice qf t.1.frames.length kf, .slice qb t.1.blocks.length kb, .slice qi t.1.inp.length ki, .slice qo t.1.out.length ko, .int .i64 t.1.status, .int .i64 t.1.trap] 48) = W6 := ⟨_, rfl⟩
    have b6 : Below w5.heap.size w5 W6 := by rw [← hW6]; exact (Below.refl _ w5).alloc (Nat.le_refl _) _
    have x6 : W6.heap[w5.heap.size]? = some (.cells #[.slice qf t.1.frames.length kf, .slice qb t.1.blocks.length kb, .slice qi t.1.inp.length ki, .slice qo t.1.out.length ko, .int .i64 t.1.status, .int .i64 t.1.trap] 48 (0, 0)) := by rw [← hW6]; exact World.alloc_heap_new w5 _
    have f0 : W6.cell? ⟨w5.heap.size, 0, none⟩ = some (.slice qf t.1.frames.length kf) := xaaZ x6 0
    have f1 : W6.cell? ⟨w5.heap.size, 1, none⟩ = some (.slice qb t.1.blocks.length kb) := xaaZ x6 1
    have f2 : W6.cell? ⟨w5.heap.size, 2, none⟩ = some (.slice qi t.1.inp.length ki) := xaaZ x6 2
    have f3 : W6.cell? ⟨w5.heap.size, 3, none⟩ = some (.slice qo t.1.out.length ko) := xaaZ x6 3
    have f4 : W6.cell? ⟨w5.heap.size, 4, none⟩ = some (.int .i64 t.1.status) := xaaZ x6 4
    have f5 : W6.cell? ⟨w5.heap.size, 5, none⟩ = some (.int .i64 t.1.trap) := xaaZ x6 5
    obtain ⟨pu, cu, hu⟩ := xaiZ HC.out.row
    subst hu
    have b36 : Below w3.heap.size w3 W6 := xaeZ (xaeZ HB4.out b5) b6
    have hcb6 := (b36.block _ (xacZ HC.out.cell)).trans HC.out.cell
    have o0 := xaaZ hcb6 0
    simp at o0
    have hml : ms.length = i := HC.out.res.lenM.trans HV.out.1
    have b37 : Below w3.heap.size w3 (W6.alloc (.cells #[.slice qf t.1.frames.length kf, .slice qb t.1.blocks.length kb, .slice qi t.1.inp.length ki, .slice qo t.1.out.length ko, .int .i64 t.1.status, .int .i64 t.1.trap] 48)) := xaeZ b36 ((Below.refl _ W6).alloc (Nat.le_refl _) _)
    have hrow7 := xaoZ HC.out.row (W' := W6.alloc (.cells #[.slice qf t.1.frames.length kf, .slice qb t.1.blocks.length kb, .slice qi t.1.inp.length ki, .slice qo t.1.out.length ko, .int .i64 t.1.status, .int .i64 t.1.trap] 48)) fun k hk => b37.block k (HC.out.row.lt k hk).2
    have hcb7 := (b37.block _ (xacZ HC.out.cell)).trans HC.out.cell
    have hnews : ∀ (j : Nat) (u : Value), [Value.slice qf t.1.frames.length kf, .slice qb t.1.blocks.length kb, .slice qi t.1.inp.length ki, .slice qo t.1.out.length ko, .int .i64 t.1.status, .int .i64 t.1.trap][j]? = some u → (W6.alloc (.cells #[.slice qf t.1.frames.length kf, .slice qb t.1.blocks.length kb, .slice qi t.1.inp.length ki, .slice qo t.1.out.length ko, .int .i64 t.1.status, .int .i64 t.1.trap] 48)).cell? ((⟨W6.heap.size, 0, none⟩ : Addr).add j) = some u := by
      intro j u hj
      have hn := World.alloc_heap_new W6 (.cells #[.slice qf t.1.frames.length kf, .slice qb t.1.blocks.length kb, .slice qi t.1.inp.length ki, .slice qo t.1.out.length ko, .int .i64 t.1.status, .int .i64 t.1.trap] 48)
      match j, hj with
      | 0, hj => simp at hj; subst hj; exact xaaZ hn 0
      | 1, hj => simp at hj; subst hj; exact xaaZ hn 1
      | 2, hj => simp at hj; subst hj; exact xaaZ hn 2
      | 3, hj => simp at hj; subst hj; exact xaaZ hn 3
      | 4, hj => simp at hj; subst hj; exact xaaZ hn 4
      | 5, hj => simp at hj; subst hj; exact xaaZ hn 5
      | k + 6, hj => simp at hj
    have hone : ∀ u ∈ [Value.slice qf t.1.frames.length kf, .slice qb t.1.blocks.length kb, .slice qi t.1.inp.length ki, .slice qo t.1.out.length ko, .int .i64 t.1.status, .int .i64 t.1.trap], u.oneCell' = true := by
      intro u hu
      simp at hu
      rcases hu with rfl | rfl | rfl | rfl | rfl | rfl <;> rfl
    have h63 : ms.length + 1 ≤ maxLen := by unfold maxLen; omega
    have hby : (ms.length + 1) * 112 ≤ 140737488355328 := by omega
    have hb27 := (HC.out.bel.trans (b37.mono HC.out.bel.size)).size
    have HML := hideP hml
    have HROW7 := hideP hrow7
    have HCB7 := hideP hcb7
    have HNEWS := hideP hnews
    have HB37 := hideP b37
    have HT := hideP (And.intro hrun (And.intro hmt hrt))
    have HB5 := hideP b5
    have HB6 := hideP b6
    clear hml hrow7 hcb7 hnews b37 b36 hcb6 x6 hr5 ht hrr hmt hrun hrt b5 b6 d0 d1 d2 d3 d4 d5 m0 m1 m2 m3 m4 m5 e40 e41
    go_wp2_with (at_builtin; refine wpList_append_own _ rfl _ _ 25 rfl w2.heap.size 48 i0 (.agg #[.slice none 0 0, .slice none 0 0, .slice none 0 0, .slice none 0 0, .int .i64 0, .int .i64 0]) 6 112 Tryz.underlying25 hi hz0 hz1 hz2 rfl (by decide) _ _ _ rfl HROW7.out ⟨W6.heap.size, 0, none⟩ 1 1 [.slice qf t.1.frames.length kf, .slice qb t.1.blocks.length kb, .slice qi t.1.inp.length ki, .slice qo t.1.out.length ko, .int .i64 t.1.status, .int .i64 t.1.trap] rfl rfl HNEWS.out hone h63 hby hb27 ?_; intro v8 w8 hown8 hg8 _; obtain ⟨g8, cap8, rfl⟩ := ownsRow_succ hown8; have hcb8 := (hg8.block _ (xacZ HCB7.out) (xboZ HROW7.out HCB7.out (by decide))).trans HCB7.out; have a0 := xaaZ hcb8 0; have y0 := Lib.frozen_of_heap hcb8 0; simp at a0; have HO8 := hideP hown8; have HG8 := hideP hg8; have HCB8 := hideP hcb8; clear hown8 hg8 hcb8)
    obtain ⟨hrun, hmt, hrt⟩ := HT.out
    have hml := HML.out
    have hC := HC.out
    have hrow8 := HO8.out
    rw [show mvCells ms ++ [Value.slice qf t.1.frames.length kf, .slice qb t.1.blocks.length kb, .slice qi t.1.inp.length ki, .slice qo t.1.out.length ko, .int .i64 t.1.status, .int .i64 t.1.trap] = mvCells (ms ++ [⟨.slice qf t.1.frames.length kf, .slice qb t.1.blocks.length kb, .slice qi t.1.inp.length ki, .slice qo t.1.out.length ko, t.1.status, t.1.trap⟩]) from by simp [mvCells], show ms.length + 1 = (ms ++ [(⟨.slice qf t.1.frames.length kf, .slice qb t.1.blocks.length kb, .slice qi t.1.inp.length ki, .slice qo t.1.out.length ko, t.1.status, t.1.trap⟩ : MV)]).length from by simp] at hrow8
    have hsn := (hC.res.below (xaeZ HB4.out HB5.out)).snoc (B' := W4.heap.size) hmt (by have := hC.bel.size; have := HB4.out.size; omega) (fun k s x g h1 h2 h3 => by
      have h4 := hC.res.lt h1 h2 h3
      have h5 := HB4.out.size
      omega)
    have hb57 : Below w5.heap.size w5 (W6.alloc (.cells #[.slice qf t.1.frames.length kf, .slice qb t.1.blocks.length kb, .slice qi t.1.inp.length ki, .slice qo t.1.out.length ko, .int .i64 t.1.status, .int .i64 t.1.trap] 48)) := xaeZ HB6.out ((Below.refl _ W6).alloc (Nat.le_refl _) _)
    have hs8 := (hsn.below hb57).keep HG8.out (xcnZ HROW7.out) (by decide) (by decide) (by decide) (by decide)
    have hg9 := xakZ w8 ⟨w2.heap.size, 0, none⟩ (.slice (some ⟨g8, 0, none⟩) (ms.length + 1) cap8)
    have ht9 : TyRow w8 (some w2.heap.size) 73 := xatZ HCB8.out
    refine ⟨⟨i + 1, by omega, by go_num, .slice (some ⟨g8, 0, none⟩) (ms.length + 1) cap8, _, _, V ++ [t.1], by rw [List.length_append, HV.out.1]; rfl, ⟨?_, ?_, hs8.keep hg9 ht9 (by decide) (by decide) (by decide) (by decide), ?_, Nat.le_refl _⟩, ?_, ?_⟩, by simp [intOf]; omega⟩
    · have := heap_setCell_same w8 w2.heap.size 0 _ _ (.slice (some ⟨g8, 0, none⟩) (ms.length + 1) cap8) HCB8.out
      simpa using this
    · have := xasZ hrow8 hg9 ht9 (by decide)
      rw [List.length_append] at this ⊢
      exact this
    · exact ((hC.bel.trans (HB37.out.mono hC.bel.size)).grown HG8.out (hC.bel.trans (HB37.out.mono hC.bel.size)).size (fun z hz => (HROW7.out.lt z hz).1)).setCell (p := ⟨w2.heap.size, 0, none⟩) (Nat.le_refl _) _
    · intro k r hk
      rcases xbcZ hk with ⟨_, h2⟩ | ⟨_, rfl⟩
      · exact HI.out k r h2
      · exact hrt
    · intro k m hk hm
      by_cases hki : k < i
      · obtain ⟨t', h1, h2⟩ := HV.out.2 k m hki hm
        exact ⟨t', h1, by rw [List.getElem?_append_left (xadZ h2)]; exact h2⟩
      · have hke : k = i := by omega
        subst hke
        rw [HM0.out] at hm
        cases hm
        refine ⟨t, hrun, ?_⟩
        rw [← HV.out.1, List.getElem?_append_right (Nat.le_refl _)]
        simp
end Go.Proofs.YtmjjkenblfndgaaGreat


/- world.Send. -/
namespace Go.Proofs.YtmjjkenblfndgaaGreat
open Go.RowKit
set_option linter.unusedSimpArgs false
set_option linter.unusedVariables false
def fullAt (L : List Mach) (k : Nat) : Prop := ∃ M, L[k]? = some M ∧ M.inp.length = 10
open Classical in
noncomputable def sendE (p : List Fn) (L : List Mach) (k n : Int) : Int := if xa3Z p L ≠ 0 then xa3Z p L else if k < 0 ∨ (L.length : Int) ≤ k ∨ wrap32 n ≠ n then 3 else if fullAt L k.toNat then 7 else 0
noncomputable def sendL (p : List Fn) (L : List Mach) (k n : Int) : List Mach := if sendE p L k n = 0 then L.modify k.toNat (fun m => giveM m [n]) else []
theorem xoaZ (w : World) (n : Int) : FullInts (w.alloc (.cells #[.int .i64 n] 3)) (.slice (some ⟨w.heap.size, 0, none⟩) 1 1) [n] := by
  have h := World.alloc_heap_new w (.cells #[.int .i64 n] 3)
  refine ⟨⟨_, 1, rfl, by unfold maxLen; simp, fun i z hz => ?_⟩, xavZ _ _ _, fun p' n' c' e => by cases e; exact Nat.le_refl _⟩
  have hi := xadZ hz
  simp at hi
  subst hi
  simp at hz
  subst hz
  exact ⟨w.heap.size, 0, rfl, by simp, by simp⟩
theorem xh4Z {L : List Mach} {w2 w3 : World} {u : Value} (h : WNew L w2 u w3) (hs : w2.heap.size ≤ w3.heap.size) : Carries w2 (w3.alloc (.cells #[u, .int .i64 0] 73)) w3.heap.size L 0 := by
  obtain ⟨u', ms, rs, h1, -⟩ := xfgZ h hs
  exact ⟨u', ms, rs, h1⟩
theorem wSend_any (L : List Mach) (p : List Fn) (k n : Int) (hk63 : -9223372036854775808 ≤ k ∧ k ≤ 9223372036854775807) (pv wv : Value) (w : World) (hp : FnsAt w pv p) (hcp : CapAt w pv) (h : MachsAt w wv L) (hpc : ∀ M ∈ L, PcOk M) : Calls Tryz.prog 13 #[.agg #[pv], .agg #[wv], .int .i64 k, .int .i64 n] w fun e w' => ∃ u, e = .returned (.tuple #[.agg #[u], .int .i64 (sendE p L k n)]) ∧ WOut (sendL p L k n) 1040 w u w' := by
  obtain ⟨pp, qp, hpv, -⟩ := id hp
  subst hpv
  obtain ⟨pw, cw, hwv, hlw⟩ := h.shp
  subst hwv
  obtain ⟨-, -, -, hmx, -⟩ := id h
  unfold maxLen at hmx
  obtain ⟨W1, hW1⟩ : ∃ W1, ((w.alloc (.cells #[.slice pp p.length qp] 24)).alloc (.cells #[.slice pw L.length cw] 27)).alloc (.cells #[.slice none 0 0] 27) = W1 := ⟨_, rfl⟩
  have b1 : Below w.heap.size w W1 := by rw [← hW1]; exact (((Below.refl _ w).alloc (Nat.le_refl _) _).alloc (by simp) _).alloc (by simp; omega) _
  have u1 : W1.heap[w.heap.size]? = some (.cells #[.slice pp p.length qp] 24 (0, 0)) := by rw [← hW1]; exact xepZ _ _ _ _
  have u2 : W1.heap[w.heap.size + 1]? = some (.cells #[.slice pw L.length cw] 27 (0, 0)) := by rw [← hW1]; exact xedZ _ _ _ _
  have u3 : W1.heap[w.heap.size + 1 + 1]? = some (.cells #[.slice none 0 0] 27 (0, 0)) := by rw [← hW1]; exact new3 _ _ _ _
  have sW1 : W1.heap.size = w.heap.size + 1 + 1 + 1 := by rw [← hW1]; simp
  have KC : Hid (∀ W, Below W1.heap.size W1 W → W.cell? ⟨w.heap.size, 0, none⟩ = some (.slice pp p.length qp) ∧ W.cell? ⟨w.heap.size + 1, 0, none⟩ = some (.slice pw L.length cw) ∧ W.heap[w.heap.size + 1 + 1]? = some (.cells #[.slice none 0 0] 27 (0, 0))) := fun W hW => ⟨xaaZ ((hW.block _ (xacZ u1)).trans u1) 0, xaaZ ((hW.block _ (xacZ u2)).trans u2) 0, (hW.block _ (xacZ u3)).trans u3⟩
  have HCK := hideP (xf3Z L p _ _ W1 (hp.below b1) (hcp.below hp b1) (h.below b1) hpc)
  have HM := hideP (h.below b1)
  have HB1 := hideP b1
  have HSW := hideP sW1
  obtain ⟨e0, e1, -⟩ := KC.out W1 (Below.refl _ _)
  clear hp hcp h u1 u2 u3 b1 hpc sW1
  by_cases h0 : xa3Z p L = 0
  rotate_left
  · have t0 : (xa3Z p L != 0) = true := by simpa using h0
    have hE : sendE p L k n = xa3Z p L := by unfold sendE; rw [if_pos h0]
    have hS : sendL p L k n = [] := by unfold sendL; rw [hE, if_neg h0]
    rw [hE, hS]
    generalize xa3Z p L = er at *
    clear h0 hE hS
    go_enter Tryz.func13, Tryz.ntmps13
    go_wp2_with fail
    refine HCK.out.mono ?_
    rintro e w2 ⟨rfl, b2⟩
    obtain ⟨e0', e1', z2⟩ := KC.out w2 b2
    have y0 := Lib.frozen_of_heap z2 0
    have z0 := xaaZ z2 0
    simp at z0
    go_wp2_with (go_at_call 41; refine (xdrZ _ _).mono ?_; rintro e w9 ⟨rfl, hw9⟩; have hw9 := hw9.symm; subst hw9)
    refine bodyPost_ret (v := .tuple #[.agg #[.slice none 0 0], .int .i64 er]) (by simp [results, Tryz.results13, go_sem, z0, y0]) rfl ?_
    exact ⟨_, rfl, xdqZ ((xaeZ HB1.out b2).setCell (p := ⟨w.heap.size + 1 + 1, 0, none⟩) (by simp only; omega) _) _⟩
  have t0 : (xa3Z p L != 0) = false := by simpa using h0
  by_cases hr : k < 0 ∨ (L.length : Int) ≤ k ∨ wrap32 n ≠ n
  · have hE : sendE p L k n = 3 := by unfold sendE; rw [if_neg (by simpa using h0), if_pos hr]
    have hS : sendL p L k n = [] := by unfold sendL; rw [hE]; rfl
    rw [hE, hS]
    rw [h0] at HCK
    clear h0 hE hS t0
    by_cases h1 : k < 0
    · have t1 : decide (k < 0) = true := by simpa using h1
      go_enter Tryz.func13, Tryz.ntmps13
      go_wp2_with fail
      refine HCK.out.mono ?_
      rintro e w2 ⟨rfl, b2⟩
      obtain ⟨e0', e1', z2⟩ := KC.out w2 b2
      have y0 := Lib.frozen_of_heap z2 0
      have z0 := xaaZ z2 0
      simp at z0
      go_wp2_with (go_at_call 41; refine (xdrZ _ _).mono ?_; rintro e w9 ⟨rfl, hw9⟩; have hw9 := hw9.symm; subst hw9)
      refine bodyPost_ret (v := .tuple #[.agg #[.slice none 0 0], .int .i64 3]) (by simp [results, Tryz.results13, go_sem, z0, y0]) rfl ?_
      exact ⟨_, rfl, xdqZ ((xaeZ HB1.out b2).setCell (p := ⟨w.heap.size + 1 + 1, 0, none⟩) (by simp only; omega) _) _⟩
    have t1 : decide (k < 0) = false := by simpa using h1
    by_cases h2 : (L.length : Int) ≤ k
    · have t2 : decide (k ≥ (L.length : Int)) = true := by simpa using h2
      have t2' : decide ((L.length : Int) ≤ k) = true := by simpa using h2
      go_enter Tryz.func13, Tryz.ntmps13
      go_wp2_with fail
      refine HCK.out.mono ?_
      rintro e w2 ⟨rfl, b2⟩
      obtain ⟨e0', e1', z2⟩ := KC.out w2 b2
      have y0 := Lib.frozen_of_heap z2 0
      have z0 := xaaZ z2 0
      simp at z0
      go_wp2_with (go_at_call 41; refine (xdrZ _ _).mono ?_; rintro e w9 ⟨rfl, hw9⟩; have hw9 := hw9.symm; subst hw9)
      refine bodyPost_ret (v := .tuple #[.agg #[.slice none 0 0], .int .i64 3]) (by simp [results, Tryz.results13, go_sem, z0, y0]) rfl ?_
      exact ⟨_, rfl, xdqZ ((xaeZ HB1.out b2).setCell (p := ⟨w.heap.size + 1 + 1, 0, none⟩) (by simp only; omega) _) _⟩
    have t2 : decide (k ≥ (L.length : Int)) = false := by simpa using h2
    have t2' : decide ((L.length : Int) ≤ k) = false := by simpa using h2
    have h3 : wrap32 n ≠ n := by
      rcases hr with h | h | h
      · exact absurd h h1
      · exact absurd h h2
      · exact h
    have t3 : (wrap32 n != n) = true := by simpa using h3
    clear hr
    go_enter Tryz.func13, Tryz.ntmps13
    go_wp2_with fail
    refine HCK.out.mono ?_
    rintro e w2 ⟨rfl, b2⟩
    obtain ⟨e0', e1', z2⟩ := KC.out w2 b2
    have y0 := Lib.frozen_of_heap z2 0
    have z0 := xaaZ z2 0
    simp at z0
    go_wp2_with (go_at_call 41; refine (xdrZ _ _).mono ?_; rintro e w9 ⟨rfl, hw9⟩; have hw9 := hw9.symm; subst hw9)
    refine bodyPost_ret (v := .tuple #[.agg #[.slice none 0 0], .int .i64 3]) (by simp [results, Tryz.results13, go_sem, z0, y0]) rfl ?_
    exact ⟨_, rfl, xdqZ ((xaeZ HB1.out b2).setCell (p := ⟨w.heap.size + 1 + 1, 0, none⟩) (by simp only; omega) _) _⟩
  have h1 : 0 ≤ k := by omega
  have h2 : k < (L.length : Int) := by omega
  have h3 : wrap32 n = n := by
    by_cases h : wrap32 n = n
    · exact h
    · exact absurd (.inr (.inr h)) hr
  obtain ⟨K, rfl⟩ : ∃ K : Nat, k = K := ⟨k.toNat, by omega⟩
  have hKl : K < L.length := by omega
  obtain ⟨M, hM⟩ := xagZ hKl
  have t1 : decide ((K : Int) < 0) = false := by simp
  have t2 : decide ((K : Int) ≥ (L.length : Int)) = false := by simp; omega
  have t2' : decide ((L.length : Int) ≤ (K : Int)) = false := by simp; omega
  have t3 : (wrap32 n != n) = false := by simpa using h3
  obtain ⟨r1, r2, r3, r4, r5⟩ := xfkZ h0
  have hRM := r5 M (List.mem_of_getElem? hM)
  have hsm : ∀ M ∈ L, SmallM M := fun M hM => (xc8Z r3 r4 (r5 M hM)).1
  have HFW := hideP (fun (W : World) (hW : Below W1.heap.size W1 W) => xg6Z L _ W (HM.out.below hW) r2 hsm)
  have hi10 := hRM.inp.1
  have hst := hRM.status
  by_cases hf : M.inp.length = 10
  · have hE : sendE p L (K : Int) n = 7 := by
      unfold sendE
      rw [if_neg (by simpa using h0), if_neg hr]
      exact if_pos ⟨M, by simpa using hM, hf⟩
    have hS : sendL p L (K : Int) n = [] := by unfold sendL; rw [hE]; rfl
    rw [hE, hS]
    rw [h0] at HCK
    have t4 : ((10 - (M.inp.length : Int)) == 0) = true := beq_iff_eq.2 (by omega)
    have HMK := hideP hM
    clear h0 hE hS t0 r1 r3 r4 r5 hRM hsm hr hM hst
    go_enter Tryz.func13, Tryz.ntmps13
    go_wp2_with fail
    refine HCK.out.mono ?_
    rintro e w2 ⟨rfl, b2⟩
    obtain ⟨e0', e1', z2⟩ := KC.out w2 b2
    have HB2 := hideP b2
    clear z2 b2
    go_wp2_with (first | (go_at_call 41; refine (xdrZ _ _).mono ?_; rintro e w9 ⟨rfl, hw9⟩; have hw9 := hw9.symm; subst hw9) | fail)
    refine (HFW.out w2 HB2.out).mono ?_
    rintro e w3 ⟨u, rfl, hnew⟩
    have hb3 : Below w2.heap.size w2 w3 := WOut.bel hnew
    obtain ⟨pu, cu, hu⟩ := WOut.shp hnew
    subst hu
    have HN := hideP hnew
    have HB3 := hideP hb3
    clear hnew hb3
    go_wp2_with fail
    refine (xjzZ w2 _ w3.heap.size L 0 K M (xh4Z HN.out HB3.out.size) HMK.out hi10).mono ?_
    rintro e W4 ⟨rfl, hW4⟩
    have b4 : Below w3.heap.size w3 W4 := by rw [hW4]; exact (Below.refl _ w3).alloc (Nat.le_refl _) _
    have HCB := hideP (xfgZ HN.out HB3.out.size)
    have HX4 := hideP (World.alloc_heap_new w3 (.cells #[.slice pu L.length cu, .int .i64 0] 73))
    rw [← hW4] at HCB HX4
    obtain ⟨-, -, hz3⟩ := KC.out w3 (xaeZ HB2.out HB3.out)
    clear hW4
    have hz4 := (b4.block _ (xacZ hz3)).trans hz3
    have y0 := Lib.frozen_of_heap hz4 0
    have z0 := xaaZ hz4 0
    simp at z0
    have HB4 := hideP b4
    clear hz3 hz4 b4
    go_wp2
    refine bodyPost_ret (v := .tuple #[.agg #[.slice none 0 0], .int .i64 7]) (by simp [results, Tryz.results13, go_sem, z0, y0]) rfl ?_
    exact ⟨_, rfl, xdqZ ((xaeZ (xaeZ (xaeZ HB1.out HB2.out) HB3.out) HB4.out).setCell (p := ⟨w.heap.size + 1 + 1, 0, none⟩) (by simp only; omega) _) _⟩
  have hE : sendE p L (K : Int) n = 0 := by
    unfold sendE
    rw [if_neg (by simpa using h0), if_neg hr]
    refine if_neg ?_
    rintro ⟨M', hM', h10⟩
    rw [show ((K : Int)).toNat = K from rfl, hM] at hM'
    cases hM'
    exact hf h10
  have hS : sendL p L (K : Int) n = L.set K (giveM M [n]) := by
    unfold sendL
    rw [if_pos hE]
    exact xhiZ hM
  rw [hE, hS]
  rw [h0] at HCK
  have t4 : ((10 - (M.inp.length : Int)) == 0) = false := beq_eq_false_iff_ne.2 (by omega)
  have HMK := hideP hM
  clear h0 hE hS t0 r1 r3 r4 r5 hRM hsm hr hM
  go_enter Tryz.func13, Tryz.ntmps13
  go_wp2_with fail
  refine HCK.out.mono ?_
  rintro e w2 ⟨rfl, b2⟩
  obtain ⟨e0', e1', z2⟩ := KC.out w2 b2
  have HB2 := hideP b2
  clear z2 b2
  go_wp2_with (first | (go_at_call 41; refine (xdrZ _ _).mono ?_; rintro e w9 ⟨rfl, hw9⟩; have hw9 := hw9.symm; subst hw9) | fail)
  refine (HFW.out w2 HB2.out).mono ?_
  rintro e w3 ⟨u, rfl, hnew⟩
  have hb3 : Below w2.heap.size w2 w3 := WOut.bel hnew
  obtain ⟨pu, cu, hu⟩ := WOut.shp hnew
  subst hu
  have HN := hideP hnew
  have HB3 := hideP hb3
  clear hnew hb3
  go_wp2_with fail
  refine (xjzZ w2 _ w3.heap.size L 0 K M (xh4Z HN.out HB3.out.size) HMK.out hi10).mono ?_
  rintro e W4 ⟨rfl, hW4⟩
  have b4 : Below w3.heap.size w3 W4 := by rw [hW4]; exact (Below.refl _ w3).alloc (Nat.le_refl _) _
  have HCB := hideP (xfgZ HN.out HB3.out.size)
  have HX4 := hideP (World.alloc_heap_new w3 (.cells #[.slice pu L.length cu, .int .i64 0] 73))
  rw [← hW4] at HCB HX4
  obtain ⟨-, -, hz3⟩ := KC.out w3 (xaeZ HB2.out HB3.out)
  clear hW4
  have HB4 := hideP b4
  obtain ⟨u4, ms4, rs4, hC4, hI4⟩ := HCB.out
  have hu4 : u4 = .slice pu L.length cu := by
    have h5 := hC4.cell
    rw [HX4.out] at h5
    simp at h5
    exact h5.symm
  subst hu4
  obtain ⟨W5, hW5⟩ : ∃ W5, W4.alloc (.cells #[.int .i64 n] 3) = W5 := ⟨_, rfl⟩
  have b5 : Below W4.heap.size W4 W5 := by rw [← hW5]; exact (Below.refl _ W4).alloc (Nat.le_refl _) _
  have hfull : FullInts W5 (.slice (some ⟨W4.heap.size, 0, none⟩) 1 1) [n] := by rw [← hW5]; exact xoaZ W4 n
  have hC5 := hC4.below b5
  obtain ⟨c5, hc5⟩ := xagZ (l := ms4) (k := K) (by rw [hC4.res.lenM]; exact hKl)
  obtain ⟨q5, hq5⟩ := xagZ (l := rs4) (k := K) (by rw [hC4.res.lenR]; exact hKl)
  have hq50 := hI4 K q5 hq5
  have HHA := hideP (hand_any w2 W5 w3.heap.size _ ms4 rs4 L 0 K c5 q5 M [n] _ hC5 hc5 hq5 HMK.out hfull (by omega) (by simp) hst (by omega) r2)
  have HI4 := hideP hI4
  have HQ5 := hideP hq5
  clear hz3 b4 hC4 hI4 b5 hfull hC5 hc5 hq5 hst
  go_wp2_with fail
  refine HHA.out.mono ?_
  rintro e w6 ⟨rfl, iv', iw', I', hIl, hC6, -, -⟩
  have hlen : (L.set K (giveM M [n])).length = L.length := List.length_set
  have b26 := hC6.bel
  obtain ⟨-, -, hz6⟩ := KC.out w6 (xaeZ HB2.out b26)
  have y0 := Lib.frozen_of_heap hz6 0
  have z0 := xaaZ hz6 0
  have k0 := xaaZ hC6.cell 0
  simp at z0 k0
  have HC6 := hideP hC6
  have HZ6 := hideP hz6
  have HIL := hideP hIl
  clear hC6 hz6 b26 hIl
  go_wp2
  refine bodyPost_ret (v := .tuple #[.agg #[.slice pu L.length cu], .int .i64 0]) (by simp [results, Tryz.results13, go_sem, z0, y0]) rfl ?_
  refine ⟨_, rfl, xiuZ (n := 1001) (m := 1040) HC6.out (fun i r hi => ?_) (xaeZ HB1.out HB2.out) (by omega) HZ6.out _ (by omega)⟩
  rw [List.getElem?_set] at hi
  split at hi
  · rename_i he
    subst he
    rw [if_pos (xadZ HQ5.out)] at hi
    cases hi
    have h1 := HIL.out
    simp at h1
    show I'.length ≤ _
    omega
  · have := HI4.out _ _ hi
    omega
end Go.Proofs.YtmjjkenblfndgaaGreat


/- What must be in any case of fuel: meterBegun. -/
namespace Go.Proofs.YtmjjkenblfndgaaGreat
open Go.RowKit
set_option linter.unusedSimpArgs false
set_option linter.unusedVariables false
def runF (p : List Fn) : Nat → MF → MF
  | 0, s => s
  | k + 1, s => if s.1.status = 0 then (match pay p s with
    | none => s
    | some s' => runF p k s') else s
theorem xgoZ {p : List Fn} : ∀ (k : Nat) (s : MF), ((runF p k s).1.status ≠ 0 ∨ pay p (runF p k s) = none) → Ends p s (runF p k s)
  | 0, s, h => by
    rcases h with h | h
    · exact .stop h
    · exact .poor h
  | k + 1, s, h => by
    unfold runF at h ⊢
    by_cases h0 : s.1.status = 0
    · rw [if_pos h0] at h ⊢
      cases hp : pay p s with
      | none => exact .poor hp
      | some s' => rw [hp] at h; exact .on h0 hp (xgoZ k s' h)
    · rw [if_neg h0]
      exact .stop h0
end Go.Proofs.YtmjjkenblfndgaaGreat


/- The reference's SameWorld. -/
namespace Go.Proofs.YtmjjkenblfndgaaGreat
open Go.RowKit
set_option linter.unusedSimpArgs false
set_option linter.unusedVariables false
theorem xndZ (A B : List Mach) (v u : Value) (w : World) (hA : MachsAt w v A) (hB : MachsAt w u B) : Calls Tryz.prog 26 #[.agg #[v], .agg #[u]] w (SameIs A B w) := by
  obtain ⟨pa, ca, hv, hla⟩ := hA.shp
  obtain ⟨pb, cb, hu, hlb⟩ := hB.shp
  subst hv hu
  obtain ⟨-, -, -, hmx, -⟩ := id hA
  unfold maxLen at hmx
  obtain ⟨W1, hW1⟩ : ∃ W1, (w.alloc (.cells #[.slice pa A.length ca] 27)).alloc (.cells #[.slice pb B.length cb] 27) = W1 := ⟨_, rfl⟩
  have b1 : Below w.heap.size w W1 := by rw [← hW1]; exact ((Below.refl _ w).alloc (Nat.le_refl _) _).alloc (by simp) _
  have u1 : W1.heap[w.heap.size]? = some (.cells #[.slice pa A.length ca] 27 (0, 0)) := by rw [← hW1]; exact xalZ (World.alloc_heap_new w _) _
  have u2 : W1.heap[w.heap.size + 1]? = some (.cells #[.slice pb B.length cb] 27 (0, 0)) := by rw [← hW1]; exact xa1Z _ _ _
  have KC : Hid (∀ W, Below W1.heap.size W1 W → W.cell? ⟨w.heap.size, 0, none⟩ = some (.slice pa A.length ca) ∧ W.cell? ⟨w.heap.size + 1, 0, none⟩ = some (.slice pb B.length cb)) := fun W hW => ⟨xaaZ ((hW.block _ (xacZ u1)).trans u1) 0, xaaZ ((hW.block _ (xacZ u2)).trans u2) 0⟩
  have HA := hideP (hA.below b1)
  have HB := hideP (hB.below b1)
  have HB1 := hideP b1
  obtain ⟨e0, e1⟩ := KC.out W1 (Below.refl _ _)
  clear hA hB u1 u2 b1
  by_cases hlen : A.length = B.length
  rotate_left
  · have t0 : ((A.length : Int) != (B.length : Int)) = true := by simp; omega
    have t0' : (A.length != B.length) = true := by simp; omega
    have HN := hideP hlen
    clear hlen
    go_enter Tryz.func26, Tryz.ntmps26
    go_wp2
    go_ret
    exact xb6Z (fun h => HN.out (by rw [h])) HB1.out
  have t0 : ((A.length : Int) != (B.length : Int)) = false := by simp; omega
  have t0' : (A.length != B.length) = false := by simp; omega
  have HLEN := hideP hlen
  rw [← hlen] at KC e1 t0 t0' hW1
  clear hlen
  go_enter Tryz.func26, Tryz.ntmps26
  rw [← HLEN.out]
  go_wp2_with fail
  clear t0 t0' e0 e1
  go_loopw [5] (fun v5 wr => ∃ k : Nat, k ≤ A.length ∧ v5 = .int .i64 k ∧ A.take k = B.take k ∧ Below W1.heap.size W1 wr) (fun v5 _ => A.length - (intOf v5).toNat)
  case atStart => exact ⟨0, Nat.zero_le _, rfl, by simp, Below.refl _ _⟩
  case round =>
    rename World => wr
    obtain ⟨k, hk, rfl, htk, hb⟩ := hrel
    have HTK := hideP htk
    have HBR := hideP hb
    obtain ⟨f0, f1⟩ := KC.out wr hb
    by_cases hlt : k < A.length
    rotate_left
    · have hlti : ¬ (k : Int) < (A.length : Int) := by omega
      have hz : A = B := by
        rw [List.take_of_length_le (by omega), List.take_of_length_le (by have := HLEN.out; omega)] at htk
        exact htk
      have HZ := hideP hz
      clear htk hb hz
      go_wp2
      go_ret
      exact same_yes HZ.out (xaeZ HB1.out HBR.out)
    have hlti : (k : Int) < (A.length : Int) := by omega
    obtain ⟨M, hM⟩ := xagZ hlt
    obtain ⟨M', hM'⟩ := xagZ (l := B) (k := k) (by rw [← HLEN.out]; exact hlt)
    obtain ⟨p9, c9, he9, -, -, hf⟩ := (HA.out.below hb)
    cases he9
    obtain ⟨ga, oa, fv, bv, iv, ov, hpw, hga, m0, m1, m2, m3, m4, m5, hMA⟩ := hf k M hM
    subst hpw
    obtain ⟨p9, c9, he9, -, -, hf'⟩ := (HB.out.below hb)
    rw [← HLEN.out] at he9
    cases he9
    obtain ⟨gb, ob, fv', bv', iv', ov', hpw, hgb, n0, n1, n2, n3, n4, n5, hMB⟩ := hf' k M' hM'
    subst hpw
    obtain ⟨⟨pf1, cf1, h1⟩, ⟨pb1, cb1, h2⟩, ⟨pi1, ci1, h3⟩, ⟨po1, co1, h4⟩⟩ := hMA.shp
    subst h1 h2 h3 h4
    obtain ⟨⟨pf2, cf2, h1⟩, ⟨pb2, cb2, h2⟩, ⟨pi2, ci2, h3⟩, ⟨po2, co2, h4⟩⟩ := hMB.shp
    subst h1 h2 h3 h4
    have HSM := hideP (fun (W : World) (hW : Below wr.heap.size wr W) => xk7Z M M' _ _ _ _ _ _ _ _ W (hMA.below hW) (hMB.below hW))
    have HMM := hideP (And.intro hM hM')
    clear htk hb hf hf' hMA hMB hM hM'
    go_wp2_with fail
    go_region_held3 (fun X => X.cell? ⟨w.heap.size, 0, none⟩ = some (.slice (some ⟨ga, oa, none⟩) A.length ca) ∧ X.cell? ⟨w.heap.size + 1, 0, none⟩ = some (.slice (some ⟨gb, ob, none⟩) A.length cb) ∧ X.cell? ⟨ga, oa + k * 6, none⟩ = some (.slice pf1 M.frames.length cf1) ∧ X.cell? ⟨ga, oa + k * 6 + 1, none⟩ = some (.slice pb1 M.blocks.length cb1) ∧ X.cell? ⟨ga, oa + k * 6 + 2, none⟩ = some (.slice pi1 M.inp.length ci1) ∧ X.cell? ⟨ga, oa + k * 6 + 3, none⟩ = some (.slice po1 M.out.length co1) ∧ X.cell? ⟨ga, oa + k * 6 + 4, none⟩ = some (.int .i64 M.status) ∧ X.cell? ⟨ga, oa + k * 6 + 5, none⟩ = some (.int .i64 M.trap) ∧ X.cell? ⟨gb, ob + k * 6, none⟩ = some (.slice pf2 M'.frames.length cf2) ∧ X.cell? ⟨gb, ob + k * 6 + 1, none⟩ = some (.slice pb2 M'.blocks.length cb2) ∧ X.cell? ⟨gb, ob + k * 6 + 2, none⟩ = some (.slice pi2 M'.inp.length ci2) ∧ X.cell? ⟨gb, ob + k * 6 + 3, none⟩ = some (.slice po2 M'.out.length co2) ∧ X.cell? ⟨gb, ob + k * 6 + 4, none⟩ = some (.int .i64 M'.status) ∧ X.cell? ⟨gb, ob + k * 6 + 5, none⟩ = some (.int .i64 M'.trap)) (go_keep)
      (first
        | (go_at_call 24; (with_reducible refine (HSM.out _ (Below.refl _ wr).drew).mono ?_); rintro e w5 ⟨r, rfl, hrr, b5'⟩; have b5 : Below wr.heap.size wr w5 := xaeZ (Below.refl _ wr).drew b5'; clear b5'; have HR := hideP hrr; clear hrr; obtain ⟨g0, g1⟩ := KC.out w5 (xaeZ HBR.out b5); have p0 := (b5.cell (p := ⟨ga, oa + k * 6, none⟩) hga).trans m0; have p1 := (b5.cell (p := ⟨ga, oa + k * 6 + 1, none⟩) hga).trans m1; have p2 := (b5.cell (p := ⟨ga, oa + k * 6 + 2, none⟩) hga).trans m2; have p3 := (b5.cell (p := ⟨ga, oa + k * 6 + 3, none⟩) hga).trans m3; have p4 := (b5.cell (p := ⟨ga, oa + k * 6 + 4, none⟩) hga).trans m4; have p5 := (b5.cell (p := ⟨ga, oa + k * 6 + 5, none⟩) hga).trans m5; have q0 := (b5.cell (p := ⟨gb, ob + k * 6, none⟩) hgb).trans n0; have q1 := (b5.cell (p := ⟨gb, ob + k * 6 + 1, none⟩) hgb).trans n1; have q2 := (b5.cell (p := ⟨gb, ob + k * 6 + 2, none⟩) hgb).trans n2; have q3 := (b5.cell (p := ⟨gb, ob + k * 6 + 3, none⟩) hgb).trans n3; have q4 := (b5.cell (p := ⟨gb, ob + k * 6 + 4, none⟩) hgb).trans n4; have q5 := (b5.cell (p := ⟨gb, ob + k * 6 + 5, none⟩) hgb).trans n5))
    have HB5 := hideP (xaeZ HBR.out b5)
    cases r
    · have hne : ¬ A = B := fun h => by
        have h1 := HMM.out.1
        rw [h, HMM.out.2] at h1
        have h2 := HR.out.2 (Option.some.inj h1).symm
        cases h2
      have HNE := hideP hne
      clear b5 hne
      go_wp2
      go_ret
      exact xb6Z HNE.out (xaeZ HB1.out HB5.out)
    · have heq := HR.out.1 rfl
      have HEQ := hideP heq
      clear b5 heq
      go_wp2
      go_roundw
      case rel => exact ⟨k + 1, by omega, by go_num, by rw [xazZ A k M HMM.out.1, xazZ B k M' HMM.out.2, HTK.out, HEQ.out], HB5.out⟩
      case measure => simp [intOf]; omega
end Go.Proofs.YtmjjkenblfndgaaGreat


/- What must be in any case of worlds: pair, worldBegun. -/
namespace Go.Proofs.YtmjjkenblfndgaaGreat
open Go.RowKit
set_option linter.unusedSimpArgs false
set_option linter.unusedVariables false
def wV0 : Mach := ⟨[⟨0, 0, [], []⟩], [], [], [9], 1, 0⟩
def wW0 : Mach := ⟨[⟨0, 0, [], []⟩], [], [], [], 1, 0⟩
def wB1 : Mach := ⟨[⟨0, 0, [], []⟩], [], [9], [], 0, 0⟩
def wU1 : Mach := ⟨[⟨0, 0, [], []⟩], [], [], [81], 1, 0⟩
theorem wrun1 : (runF xajZ 60 (giveM beginM [3], 50)).1 = wV0 := by kernel_rfl
theorem wrun2 : (runF xajZ 60 (beginM, 50)).1 = wW0 := by kernel_rfl
theorem wrun3 : (runF xajZ 60 (wB1, 50)).1 = wU1 := by kernel_rfl
theorem wmail1 : mailW [wV0, wW0] = [wW0, wB1] := by kernel_rfl
theorem wmail2 : mailW [wW0, wU1] = [giveM wW0 [81], wW0] := by kernel_rfl
theorem wmail3 : mailW [giveM wW0 [81], wW0] = [giveM wW0 [81], wW0] := by kernel_rfl
theorem wwent3 : wentW [giveM wW0 [81], wW0] = 0 := by kernel_rfl
theorem xfdZ (hf : fitsE xajZ = 0) : xanZ xajZ = 0 ∧ xaxZ xajZ (entP xajZ) ∧ RightM xajZ (entP xajZ) beginM := by
  obtain ⟨hp, he⟩ := xdkZ.1 hf
  obtain ⟨f, _, _, hR⟩ := xinZ hp he
  rw [cb2.1] at hR
  exact ⟨hp, he, hR⟩
theorem sq_runs1 : xflZ xajZ [giveM beginM [3], beginM] 50 [wV0, wW0] := by
  refine ⟨rfl, fun i m hm => ?_⟩
  match i, hm with
  | 0, hm =>
    cases hm
    refine ⟨runF xajZ 60 (giveM beginM [3], 50), ?_, by rw [wrun1]; rfl⟩
    unfold RunIs
    rw [xfoZ (by decide)]
    exact xgoZ 60 _ (.inl (by rw [wrun1]; decide))
  | 1, hm =>
    cases hm
    refine ⟨runF xajZ 60 (beginM, 50), ?_, by rw [wrun2]; rfl⟩
    unfold RunIs
    rw [xfoZ (by decide)]
    exact xgoZ 60 _ (.inl (by rw [wrun2]; decide))
  | k + 2, hm => simp at hm
theorem xgeZ {L : List Mach} (hf : fitsE xajZ = 0) (h1 : L ≠ []) (h2 : L.length ≤ 4) (h3 : ∀ M ∈ L, RightM xajZ (entP xajZ) M) : xa3Z xajZ L = 0 ∧ ∀ M ∈ L, PcOk M := by
  obtain ⟨hp, he, -⟩ := xfdZ hf
  exact ⟨xlbZ h1 h2 hp he h3, fun M hM => right_pc hp he (h3 M hM)⟩
theorem sq_r0 (hf : fitsE xajZ = 0) : ∀ M ∈ [beginM, beginM], RightM xajZ (entP xajZ) M := fun M hM => by
  have := (xfdZ hf).2.2
  simp at hM
  subst hM
  exact this
theorem sq_r1 (hf : fitsE xajZ = 0) : ∀ M ∈ [giveM beginM [3], beginM], RightM xajZ (entP xajZ) M := fun M hM => by
  have h := (xfdZ hf).2.2
  simp at hM
  rcases hM with rfl | rfl
  · exact xk4Z h (by decide) (by decide)
  · exact h
theorem sq_r2 (hf : fitsE xajZ = 0) : ∀ M ∈ [wW0, wB1], RightM xajZ (entP xajZ) M := by
  obtain ⟨hp, he, -⟩ := xfdZ hf
  have := xhrZ (xgdZ hp he (sq_r1 hf) (by decide) sq_runs1)
  rw [wmail1] at this
  exact this
theorem sq_runs2 (hf : fitsE xajZ = 0) {V : List Mach} (h : xflZ xajZ [wW0, wB1] 50 V) : V = [wW0, wU1] := by
  obtain ⟨hp, he, -⟩ := xfdZ hf
  have hl := h.1
  obtain ⟨t, h1, h2⟩ := h.2 0 wW0 rfl
  obtain ⟨u, h3, h4⟩ := h.2 1 wB1 rfl
  have e1 := run_wait hp he (sq_r2 hf wW0 (by simp)) rfl h1
  have e2 : u = runF xajZ 60 (wB1, 50) := by
    refine xmkZ h3 ?_
    unfold RunIs
    rw [xfoZ (by decide)]
    exact xgoZ 60 _ (.inl (by rw [wrun3]; decide))
  rw [e1] at h2
  rw [e2, wrun3] at h4
  match V, hl, h2, h4 with
  | [a, b], _, h2, h4 => simp at h2 h4; rw [h2, h4]
theorem sq_r3 (hf : fitsE xajZ = 0) {V : List Mach} (h : xflZ xajZ [wW0, wB1] 50 V) : ∀ M ∈ [giveM wW0 [81], wW0], RightM xajZ (entP xajZ) M := by
  obtain ⟨hp, he, -⟩ := xfdZ hf
  have := xhrZ (xgdZ hp he (sq_r2 hf) (by decide) h)
  rw [sq_runs2 hf h, wmail2] at this
  exact this
def WRet (T : List Mach) (w : World) (e : Ending) (w' : World) : Prop := ∃ u, e = .returned (.tuple #[.agg #[u], .int .i64 0]) ∧ WOut T 1040 w u w'
theorem sq_send {pv wv : Value} {w : World} (hp : FnsAt w pv xajZ) (hcp : CapAt w pv) (h : MachsAt w wv [beginM, beginM]) (hf : fitsE xajZ = 0) : Calls Tryz.prog 13 #[.agg #[pv], .agg #[wv], .int .i64 0, .int .i64 3] w (WRet [giveM beginM [3], beginM] w) := by
  obtain ⟨h1, h2⟩ := xgeZ hf (by simp) (by decide) (sq_r0 hf)
  have hE : sendE xajZ [beginM, beginM] 0 3 = 0 := by
    unfold sendE
    rw [if_neg (by simpa using h1), if_neg (by rw [show wrap32 3 = 3 from by first | decide +kernel | (unfold wrap32; omega)]; decide)]
    refine if_neg ?_
    rintro ⟨M, hM, h10⟩
    cases hM
    exact absurd h10 (by decide)
  have hS : sendL xajZ [beginM, beginM] 0 3 = [giveM beginM [3], beginM] := by
    unfold sendL
    rw [if_pos hE]
    rfl
  have := wSend_any [beginM, beginM] xajZ 0 3 (by decide) pv wv w hp hcp h h2
  rw [hE, hS] at this
  exact this
theorem sq_check {pv wv : Value} {w : World} (hp : FnsAt w pv xajZ) (hcp : CapAt w pv) (h : MachsAt w wv [beginM, beginM]) (hf : fitsE xajZ = 0) : Calls Tryz.prog 20 #[.agg #[pv], .agg #[wv]] w fun e w' => e = .returned (.int .i64 0) ∧ Below w.heap.size w w' := by
  obtain ⟨h1, h2⟩ := xgeZ hf (by simp) (by decide) (sq_r0 hf)
  have := xf3Z [beginM, beginM] xajZ pv wv w hp hcp h h2
  rw [h1] at this
  exact this
theorem xj1Z {pv wv : Value} {w : World} (hp : FnsAt w pv xajZ) (hcp : CapAt w pv) (hf : fitsE xajZ = 0) (h : MachsAt w wv [giveM beginM [3], beginM]) : Calls Tryz.prog 12 #[.agg #[pv], .agg #[wv], .int .i64 50] w (WRet [wW0, wB1] w) := by
  obtain ⟨h1, h2⟩ := xgeZ hf (by simp) (by decide) (sq_r1 hf)
  have hE : turnE xajZ [giveM beginM [3], beginM] 50 = 0 := xhtZ.2 ⟨h1, by decide, by decide⟩
  refine (xmuZ _ xajZ 50 pv wv w hp hcp h h2).mono ?_
  rintro e w' ⟨T, u, hT, rfl, hW⟩
  obtain ⟨V, hV, rfl⟩ := hT.1 hE
  rw [runsIs_one hV sq_runs1, wmail1] at hW
  exact ⟨u, by rw [hE], hW⟩
theorem xj2Z {pv wv : Value} {w : World} (hp : FnsAt w pv xajZ) (hcp : CapAt w pv) (hf : fitsE xajZ = 0) (h : MachsAt w wv [wW0, wB1]) : Calls Tryz.prog 12 #[.agg #[pv], .agg #[wv], .int .i64 50] w fun e w' => WRet [giveM wW0 [81], wW0] w e w' ∧ ∀ M ∈ [giveM wW0 [81], wW0], RightM xajZ (entP xajZ) M := by
  obtain ⟨h1, h2⟩ := xgeZ hf (by simp) (by decide) (sq_r2 hf)
  have hE : turnE xajZ [wW0, wB1] 50 = 0 := xhtZ.2 ⟨h1, by decide, by decide⟩
  refine (xmuZ _ xajZ 50 pv wv w hp hcp h h2).mono ?_
  rintro e w' ⟨T, u, hT, rfl, hW⟩
  obtain ⟨V, hV, rfl⟩ := hT.1 hE
  rw [sq_runs2 hf hV, wmail2] at hW
  exact ⟨⟨u, by rw [hE], hW⟩, sq_r3 hf hV⟩
theorem sq_mail {pv wv : Value} {w : World} (hp : FnsAt w pv xajZ) (hcp : CapAt w pv) (hf : fitsE xajZ = 0) (hr : ∀ M ∈ [giveM wW0 [81], wW0], RightM xajZ (entP xajZ) M) (h : MachsAt w wv [giveM wW0 [81], wW0]) : Calls Tryz.prog 11 #[.agg #[pv], .agg #[wv]] w fun e w' => ∃ u, e = .returned (.tuple #[.agg #[u], .int .i64 0, .int .i64 0]) ∧ WOut [giveM wW0 [81], wW0] 1040 w u w' := by
  obtain ⟨h1, h2⟩ := xgeZ hf (by simp) (by decide) hr
  have hN : mailN xajZ [giveM wW0 [81], wW0] = 0 := by unfold mailN; rw [if_pos h1, wwent3]
  have hL : mailL xajZ [giveM wW0 [81], wW0] = [giveM wW0 [81], wW0] := by unfold mailL; rw [if_pos h1, wmail3]
  have := xirZ _ xajZ pv wv w hp hcp h h2
  rw [hN, hL, h1] at this
  exact this
theorem pair_any (w : World) : Calls Tryz.prog 48 #[] w fun e w' => ∃ u, e = .returned (.agg #[u]) ∧ MachsAt w' u [beginM, beginM] ∧ Below w.heap.size w w' := by
  obtain ⟨W0, hW0⟩ : ∃ W0, w.alloc (.cells #[.slice none 0 0] 27) = W0 := ⟨_, rfl⟩
  go_enter Tryz.func48, Tryz.ntmps48
  go_wp2_with fail
  refine (xb3Z _).mono ?_
  rintro e w1 ⟨v1, rfl, f1, k1, b1⟩
  have hf := xjfZ f1 k1
  have HST := hideP (xjgZ f1 k1 hf cb2.1)
  go_wp2_with fail
  refine HST.out.mono ?_
  rintro e w2 ⟨xf, xb, xi, xo, rfl, r2, b2⟩
  obtain ⟨⟨p1f, k1f, hf1⟩, ⟨p1b, k1b, hb1⟩, ⟨p1i, k1i, hi1⟩, ⟨p1o, k1o, ho1⟩⟩ := xikZ r2
  subst hf1 hb1 hi1 ho1
  have A1 : MachAt w2 _ _ _ _ beginM := r2.at_ (by decide)
  obtain ⟨W3, hW3⟩ : ∃ W3, w2.alloc (.cells #[.slice p1f beginM.frames.length k1f, .slice p1b beginM.blocks.length k1b, .slice p1i beginM.inp.length k1i, .slice p1o beginM.out.length k1o, .int .i64 beginM.status, .int .i64 beginM.trap] 48) = W3 := ⟨_, rfl⟩
  have c1 : Below w2.heap.size w2 W3 := by rw [← hW3]; exact (Below.refl _ w2).alloc (Nat.le_refl _) _
  have u1 : W3.heap[w2.heap.size]? = some (.cells #[.slice p1f beginM.frames.length k1f, .slice p1b beginM.blocks.length k1b, .slice p1i beginM.inp.length k1i, .slice p1o beginM.out.length k1o, .int .i64 beginM.status, .int .i64 beginM.trap] 48 (0, 0)) := by rw [← hW3]; exact World.alloc_heap_new w2 _
  have z1 : W0.heap[w.heap.size]? = some (.cells #[.slice none 0 0] 27 (0, 0)) := by rw [← hW0]; exact World.alloc_heap_new w _
  have bW0 : Below w.heap.size w W0 := by rw [← hW0]; exact (Below.refl _ w).alloc (Nat.le_refl _) _
  have B3 := xaeZ (xaeZ b1 b2) c1
  have HF := hideP hf
  clear f1 k1 HST hf
  go_wp2_with fail
  refine (xb3Z _).mono ?_
  rintro e w4 ⟨v4, rfl, f4, k4, b4⟩
  have HST := hideP (xjgZ f4 k4 HF.out cb2.1)
  clear f4 k4
  go_wp2_with fail
  refine HST.out.mono ?_
  rintro e w5 ⟨yf, yb, yi, yo, rfl, r5, b5⟩
  obtain ⟨⟨p2f, k2f, hf1⟩, ⟨p2b, k2b, hb1⟩, ⟨p2i, k2i, hi1⟩, ⟨p2o, k2o, ho1⟩⟩ := xikZ r5
  subst hf1 hb1 hi1 ho1
  have A2 : MachAt w5 _ _ _ _ beginM := r5.at_ (by decide)
  obtain ⟨W6, hW6⟩ : ∃ W6, w5.alloc (.cells #[.slice p2f beginM.frames.length k2f, .slice p2b beginM.blocks.length k2b, .slice p2i beginM.inp.length k2i, .slice p2o beginM.out.length k2o, .int .i64 beginM.status, .int .i64 beginM.trap] 48) = W6 := ⟨_, rfl⟩
  have c2 : Below w5.heap.size w5 W6 := by rw [← hW6]; exact (Below.refl _ w5).alloc (Nat.le_refl _) _
  have u2 : W6.heap[w5.heap.size]? = some (.cells #[.slice p2f beginM.frames.length k2f, .slice p2b beginM.blocks.length k2b, .slice p2i beginM.inp.length k2i, .slice p2o beginM.out.length k2o, .int .i64 beginM.status, .int .i64 beginM.trap] 48 (0, 0)) := by rw [← hW6]; exact World.alloc_heap_new w5 _
  have b36 := xaeZ (xaeZ b4 b5) c2
  have b06 := xaeZ B3 b36
  have u1' := (b36.block _ (xacZ u1)).trans u1
  have u0' := (b06.block _ (xacZ z1)).trans z1
  have d0 : W6.cell? ⟨w2.heap.size, 0, none⟩ = some (.slice p1f beginM.frames.length k1f) := xaaZ u1' 0
  have d1 : W6.cell? ⟨w2.heap.size, 1, none⟩ = some (.slice p1b beginM.blocks.length k1b) := xaaZ u1' 1
  have d2 : W6.cell? ⟨w2.heap.size, 2, none⟩ = some (.slice p1i beginM.inp.length k1i) := xaaZ u1' 2
  have d3 : W6.cell? ⟨w2.heap.size, 3, none⟩ = some (.slice p1o beginM.out.length k1o) := xaaZ u1' 3
  have d4 : W6.cell? ⟨w2.heap.size, 4, none⟩ = some (.int .i64 beginM.status) := xaaZ u1' 4
  have d5 : W6.cell? ⟨w2.heap.size, 5, none⟩ = some (.int .i64 beginM.trap) := xaaZ u1' 5
  have g0 : W6.cell? ⟨w5.heap.size, 0, none⟩ = some (.slice p2f beginM.frames.length k2f) := xaaZ u2 0
  have g1 : W6.cell? ⟨w5.heap.size, 1, none⟩ = some (.slice p2b beginM.blocks.length k2b) := xaaZ u2 1
  have g2 : W6.cell? ⟨w5.heap.size, 2, none⟩ = some (.slice p2i beginM.inp.length k2i) := xaaZ u2 2
  have g3 : W6.cell? ⟨w5.heap.size, 3, none⟩ = some (.slice p2o beginM.out.length k2o) := xaaZ u2 3
  have g4 : W6.cell? ⟨w5.heap.size, 4, none⟩ = some (.int .i64 beginM.status) := xaaZ u2 4
  have g5 : W6.cell? ⟨w5.heap.size, 5, none⟩ = some (.int .i64 beginM.trap) := xaaZ u2 5
  have y0 := Lib.frozen_of_heap u0' 0
  have z0 := xaaZ u0' 0
  simp at z0
  have HB := hideP (xaeZ bW0 b06)
  obtain ⟨q1, hm1, -⟩ := r2.has (by decide)
  obtain ⟨q2, hm2, -⟩ := r5.has (by decide)
  have H1 := hideP (hm1.below (xaeZ c1 b36))
  have H2 := hideP (hm2.below c2)
  have HZ := hideP u0'
  have ltz := xacZ u0'
  clear HST u1 u2 u1' u0' z1 b1 b2 b4 b5 B3 b36 b06 A1 A2 r2 r5 c1 c2 bW0 hm1 hm2
  go_wp2
  have hg := xakZ W6 ⟨w.heap.size, 0, none⟩ (.slice (some ⟨W6.heap.size, 0, none⟩) 2 2)
  have ht : TyRow W6 (some w.heap.size) 27 := xatZ HZ.out
  have hz7 := heap_setCell_same W6 w.heap.size 0 _ _ (.slice (some ⟨W6.heap.size, 0, none⟩) 2 2) HZ.out
  have b7 := HB.out.setCell (p := ⟨w.heap.size, 0, none⟩) (Nat.le_refl _) (.slice (some ⟨W6.heap.size, 0, none⟩) 2 2)
  have h1 := H1.out.keep hg ht (by decide) (by decide) (by decide) (by decide)
  have h2 := H2.out.keep hg ht (by decide) (by decide) (by decide) (by decide)
  have hs7 : (W6.setCell ⟨w.heap.size, 0, none⟩ (.slice (some ⟨W6.heap.size, 0, none⟩) 2 2)).heap.size = W6.heap.size := by simp
  generalize W6.setCell ⟨w.heap.size, 0, none⟩ (.slice (some ⟨W6.heap.size, 0, none⟩) 2 2) = W7 at *
  have b8 : Below W7.heap.size W7 (W7.alloc (.cells #[.slice p1f beginM.frames.length k1f, .slice p1b beginM.blocks.length k1b, .slice p1i beginM.inp.length k1i, .slice p1o beginM.out.length k1o, .int .i64 beginM.status, .int .i64 beginM.trap, .slice p2f beginM.frames.length k2f, .slice p2b beginM.blocks.length k2b, .slice p2i beginM.inp.length k2i, .slice p2o beginM.out.length k2o, .int .i64 beginM.status, .int .i64 beginM.trap] 48)) := (Below.refl _ W7).alloc (Nat.le_refl _) _
  have hx8 := World.alloc_heap_new W7 (.cells #[.slice p1f beginM.frames.length k1f, .slice p1b beginM.blocks.length k1b, .slice p1i beginM.inp.length k1i, .slice p1o beginM.out.length k1o, .int .i64 beginM.status, .int .i64 beginM.trap, .slice p2f beginM.frames.length k2f, .slice p2b beginM.blocks.length k2b, .slice p2i beginM.inp.length k2i, .slice p2o beginM.out.length k2o, .int .i64 beginM.status, .int .i64 beginM.trap] 48)
  have m1 := (h1.below b8).at_
  have m2 := (h2.below b8).at_
  have hz8 := (b8.block _ (xacZ hz7)).trans hz7
  have b08 := xaeZ b7 b8
  rw [hs7] at hx8
  generalize W7.alloc (.cells #[.slice p1f beginM.frames.length k1f, .slice p1b beginM.blocks.length k1b, .slice p1i beginM.inp.length k1i, .slice p1o beginM.out.length k1o, .int .i64 beginM.status, .int .i64 beginM.trap, .slice p2f beginM.frames.length k2f, .slice p2b beginM.blocks.length k2b, .slice p2i beginM.inp.length k2i, .slice p2o beginM.out.length k2o, .int .i64 beginM.status, .int .i64 beginM.trap] 48) = W8 at *
  have t0 := xaaZ hz8 0
  simp at t0
  refine bodyPost_ret (v := .agg #[.slice (some ⟨W6.heap.size, 0, none⟩) 2 2]) (by simp [results, Tryz.results48, go_sem, t0]) rfl ⟨_, rfl, ?_, b08⟩
  refine ⟨some ⟨W6.heap.size, 0, none⟩, 2, rfl, by unfold maxLen; decide, Nat.le_refl _, fun k M hk => ?_⟩
  match k, hk with
  | 0, hk =>
    cases hk
    exact ⟨W6.heap.size, 0, _, _, _, _, rfl, xacZ hx8, xaaZ hx8 0, xaaZ hx8 1, xaaZ hx8 2, xaaZ hx8 3, xaaZ hx8 4, xaaZ hx8 5, m1⟩
  | 1, hk =>
    cases hk
    exact ⟨W6.heap.size, 0, _, _, _, _, rfl, xacZ hx8, xaaZ hx8 6, xaaZ hx8 7, xaaZ hx8 8, xaaZ hx8 9, xaaZ hx8 10, xaaZ hx8 11, m2⟩
  | k + 2, hk => simp at hk
end Go.Proofs.YtmjjkenblfndgaaGreat


