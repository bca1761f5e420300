/- My texts Zk Zl Nr Td: what of them is needed, joined. -/
import Derived.Deep.RegionWith
import Derived.Test.YtmjjkenblfndgaaGreatB11
import Derived.Test.YtmjjkenblfndgaaGreatB24
import Derived.Test.YtmjjkenblfndgaaGreatB25
set_option maxRecDepth 100000
set_option maxHeartbeats 8000000
/- world.Turn. -/
namespace Go.Proofs.YtmjjkenblfndgaaGreat
open Go.RowKit
set_option linter.unusedSimpArgs false
set_option linter.unusedVariables false
noncomputable def turnE (p : List Fn) (L : List Mach) (n : Int) : Int := if xa7Z p L ≠ 0 then xa7Z p L else if n < 0 ∨ 10000 < n then 3 else 0
def TurnIs (p : List Fn) (L : List Mach) (n : Int) (T : List Mach) : Prop := (turnE p L n = 0 → ∃ V, xfrZ p L n V ∧ T = mailW V) ∧ (turnE p L n ≠ 0 → T = [])
theorem xf6Z {p : List Fn} {L : List Mach} {n : Int} : turnE p L n = 0 ↔ xa7Z p L = 0 ∧ 0 ≤ n ∧ n ≤ 10000 := by
  unfold turnE
  constructor
  · intro h
    split at h
    · contradiction
    · rename_i h1
      split at h
      · omega
      · rename_i h2
        exact ⟨by simpa using h1, by omega, by omega⟩
  · rintro ⟨h1, h2, h3⟩
    rw [if_neg (by simpa using h1), if_neg (by omega)]
def TurnI (p : List Fn) (L : List Mach) (n : Int) (w2 w3 : World) (i : Nat) : Prop := ∃ u ms rs V, V.length = i ∧ Carr w2 w3 w2.heap.size u ms rs V 0 ∧ (∀ (k : Nat) (r : MR), rs[k]? = some r → r.I.length ≤ 1000) ∧ ∀ (k : Nat) (m : Mach), k < i → L[k]? = some m → ∃ t : MF, RunIs p m n t ∧ V[k]? = some t.1
theorem xivZ (L : List Mach) (p : List Fn) (n : Int) (pv wv : Value) (w : World) (hp : FnsAt w pv p) (hcp : CapAt w pv) (h : MachsAt w wv L) (hpc : ∀ M ∈ L, PcOk M) : Calls Tryz.prog 12 #[.agg #[pv], .agg #[wv], .int .i64 n] w fun e w' => ∃ T u, TurnIs p L n T ∧ e = .returned (.tuple #[.agg #[u], .int .i64 (turnE p L n)]) ∧ WOut T 1040 w u w' := by
  obtain ⟨i0, hi, hz0, hz1, hz2⟩ := info_parts infoMach
  obtain ⟨pp, qp, hpv, -⟩ := id hp
  subst hpv
  obtain ⟨pw, cw, hwv, hlw⟩ := h.shp
  subst hwv
  obtain ⟨-, -, -, hmx, -⟩ := id h
  unfold maxLen at hmx
  obtain ⟨W1, hW1⟩ : ∃ W1, ((w.alloc (.cells #[.slice pp p.length qp] 24)).alloc (.cells #[.slice pw L.length cw] 27)).alloc (.cells #[.slice none 0 0] 27) = W1 := ⟨_, rfl⟩
  have b1 : Below w.heap.size w W1 := by rw [← hW1]; exact (((Below.refl _ w).alloc (Nat.le_refl _) _).alloc (by simp) _).alloc (by simp; omega) _
  have u1 : W1.heap[w.heap.size]? = some (.cells #[.slice pp p.length qp] 24 (0, 0)) := by rw [← hW1]; exact xepZ _ _ _ _
  have u2 : W1.heap[w.heap.size + 1]? = some (.cells #[.slice pw L.length cw] 27 (0, 0)) := by rw [← hW1]; exact xefZ _ _ _ _
  have u3 : W1.heap[w.heap.size + 1 + 1]? = some (.cells #[.slice none 0 0] 27 (0, 0)) := by rw [← hW1]; exact new3 _ _ _ _
  have sW1 : W1.heap.size = w.heap.size + 1 + 1 + 1 := by rw [← hW1]; simp
  have KC : Hid (∀ W, Below W1.heap.size W1 W → W.cell? ⟨w.heap.size, 0, none⟩ = some (.slice pp p.length qp) ∧ W.cell? ⟨w.heap.size + 1, 0, none⟩ = some (.slice pw L.length cw) ∧ W.heap[w.heap.size + 1 + 1]? = some (.cells #[.slice none 0 0] 27 (0, 0))) := fun W hW => ⟨xaaZ ((hW.block _ (xacZ u1)).trans u1) 0, xaaZ ((hW.block _ (xacZ u2)).trans u2) 0, (hW.block _ (xacZ u3)).trans u3⟩
  have HCK := hideP (xfaZ L p _ _ W1 (hp.below b1) (hcp.below hp b1) (h.below b1) hpc)
  have HM := hideP (h.below b1)
  have HP := hideP (And.intro (hp.below b1) (hcp.below hp b1))
  have HPC := hideP hpc
  have HB1 := hideP b1
  have HSW := hideP sW1
  obtain ⟨e0, e1, -⟩ := KC.out W1 (Below.refl _ _)
  clear hp hcp h u1 u2 u3 b1 hpc sW1
  by_cases h0 : xa7Z p L = 0
  rotate_left
  · have t0 : (xa7Z p L != 0) = true := by simpa using h0
    have hE : turnE p L n = xa7Z p L := if_pos h0
    have hT : TurnIs p L n [] := ⟨fun h => absurd (hE ▸ h) h0, fun _ => rfl⟩
    have HT := hideP hT
    rw [hE]
    generalize xa7Z p L = er at *
    clear h0 hE hT
    go_enter Tryz.func12, Tryz.ntmps12
    go_wp2_with fail
    refine HCK.out.mono ?_
    rintro e w2 ⟨rfl, b2⟩
    obtain ⟨e0', e1', z2⟩ := KC.out w2 b2
    have y0 := Lib.frozen_of_heap z2 0
    have z0 := xaaZ z2 0
    simp at z0
    go_wp2
    refine bodyPost_ret (v := .tuple #[.agg #[.slice none 0 0], .int .i64 er]) (by simp [results, Tryz.results12, go_sem, z0, y0]) rfl ?_
    exact ⟨[], _, HT.out, rfl, xdsZ ((xaeZ HB1.out b2).setCell (p := ⟨w.heap.size + 1 + 1, 0, none⟩) (by simp only; omega) _) _⟩
  have t0 : (xa7Z p L != 0) = false := by simpa using h0
  by_cases hn : n < 0 ∨ 10000 < n
  · have hE : turnE p L n = 3 := by unfold turnE; rw [if_neg (by simpa using h0), if_pos hn]
    have HT := hideP (show TurnIs p L n [] from ⟨fun h => by rw [hE] at h; simp at h, fun _ => rfl⟩)
    rw [hE]
    rw [h0] at HCK
    clear h0 hE t0
    go_enter Tryz.func12, Tryz.ntmps12
    go_wp2_with fail
    refine HCK.out.mono ?_
    rintro e w2 ⟨rfl, b2⟩
    obtain ⟨e0', e1', z2⟩ := KC.out w2 b2
    have y0 := Lib.frozen_of_heap z2 0
    have z0 := xaaZ z2 0
    simp at z0
    by_cases hn1 : n < 0
    · have t1 : decide (n < 0) = true := by simpa using hn1
      go_wp2
      refine bodyPost_ret (v := .tuple #[.agg #[.slice none 0 0], .int .i64 3]) (by simp [results, Tryz.results12, go_sem, z0, y0]) rfl ?_
      exact ⟨[], _, HT.out, rfl, xdsZ ((xaeZ HB1.out b2).setCell (p := ⟨w.heap.size + 1 + 1, 0, none⟩) (by simp only; omega) _) _⟩
    · have t1 : decide (n < 0) = false := by simp; omega
      have hn2 : 10000 < n := by omega
      have t2 : decide (n > 10000) = true := by simp; omega
      have t2' : decide (10000 < n) = true := by simp; omega
      go_wp2
      refine bodyPost_ret (v := .tuple #[.agg #[.slice none 0 0], .int .i64 3]) (by simp [results, Tryz.results12, go_sem, z0, y0]) rfl ?_
      exact ⟨[], _, HT.out, rfl, xdsZ ((xaeZ HB1.out b2).setCell (p := ⟨w.heap.size + 1 + 1, 0, none⟩) (by simp only; omega) _) _⟩
  have hn1 : 0 ≤ n := by omega
  have hn2 : n ≤ 10000 := by omega
  have t1 : decide (n < 0) = false := by simp; omega
  have t2 : decide (n > 10000) = false := by simp; omega
  have t2' : decide (10000 < n) = false := by simp; omega
  have HE := hideP (xf6Z.2 ⟨h0, hn1, hn2⟩)
  obtain ⟨r1, r2, r3, r4, r5⟩ := xfqZ h0
  rw [HE.out]
  rw [h0] at HCK
  have HR := hideP r5
  have HF := hideP r4
  clear h0 t0 r1 r5 r4 hn
  go_enter Tryz.func12, Tryz.ntmps12
  go_wp2_with fail
  refine HCK.out.mono ?_
  rintro e w2 ⟨rfl, b2⟩
  obtain ⟨e0', e1', z2⟩ := KC.out w2 b2
  have HB2 := hideP b2
  obtain ⟨W3, hW3⟩ : ∃ W3, w2.alloc (.cells #[.slice none 0 0, .int .i64 0] 73) = W3 := ⟨_, rfl⟩
  have b3 : Below w2.heap.size w2 W3 := by rw [← hW3]; exact (Below.refl _ w2).alloc (Nat.le_refl _) _
  have x3 : W3.heap[w2.heap.size]? = some (.cells #[.slice none 0 0, .int .i64 0] 73 (0, 0)) := by rw [← hW3]; exact World.alloc_heap_new w2 _
  have HI0 := hideP (show TurnI p L n w2 W3 0 from ⟨.slice none 0 0, [], [], [], rfl, ⟨x3, ⟨rfl, .inl ⟨rfl, rfl⟩⟩, xkaZ _ _, b3, Nat.le_refl _⟩, fun k r h => by simp at h, fun k m h => by omega⟩)
  obtain ⟨e0'', e1'', -⟩ := KC.out W3 (xaeZ b2 b3)
  have HB3 := hideP b3
  clear z2 b2 e0' e1' e0 e1 x3 b3
  go_wp2
  go_loopw [11, 12, 13, 14, 32] (fun _ _ _ _ v32 wr => ∃ i : Nat, i ≤ L.length ∧ v32 = .int .i64 i ∧ TurnI p L n w2 wr i) (fun _ _ _ _ v32 _ => L.length - (intOf v32).toNat)
  case atStart => exact ⟨0, Nat.zero_le _, rfl, HI0.out⟩
  case round =>
    rename World => w3
    obtain ⟨i, hil, rfl, hti⟩ := hrel
    by_cases hlt : i < L.length
    rotate_left
    · have hlti : ¬ (i : Int) < (L.length : Int) := by omega
      have hil : i = L.length := by omega
      subst hil
      obtain ⟨u3, ms3, rs3, V, hVl, hC, hI, hV⟩ := hti
      have hRun : xfrZ p L n V := ⟨hVl, fun k m hm => hV k m (xadZ hm) hm⟩
      have hVr := xe4Z r3 HF.out HR.out hn1 hRun
      have HCA := hideP (xl2Z w2 w3 w2.heap.size V ⟨_, _, _, hC, hI⟩ (by omega) (fun M hM => (hVr M hM).out.1) (fun M hM => (hVr M hM).inp.1) (fun M hM => (hVr M hM).status))
      have HRUN := hideP hRun
      have HVL := hideP hVl
      clear hC hI hV hRun hVr hVl
      go_wp2_with fail
      refine HCA.out.mono ?_
      rintro e w5 ⟨rfl, hcar⟩
      obtain ⟨u5, ms5, rs5, hC, hI⟩ := hcar
      obtain ⟨p5, c5, hu5⟩ := xaiZ hC.row
      rw [hC.res.lenM] at hu5
      subst hu5
      have b25 := hC.bel
      obtain ⟨-, -, z5⟩ := KC.out w5 (xaeZ HB2.out b25)
      have y0 := Lib.frozen_of_heap z5 0
      have z0 := xaaZ z5 0
      have k0 := xaaZ hC.cell 0
      simp at z0 k0
      have HC := hideP hC
      have HI5 := hideP hI
      have HZ5 := hideP z5
      clear hC hI b25 z5
      go_wp2
      refine bodyPost_ret (v := .tuple #[.agg #[.slice p5 (mailW V).length c5], .int .i64 0]) (by simp [results, Tryz.results12, go_sem, z0, y0]) rfl ?_
      exact ⟨mailW V, _, ⟨fun _ => ⟨V, HRUN.out, rfl⟩, fun h => absurd HE.out h⟩, rfl, xiyZ (m := 1040) HC.out HI5.out (xaeZ HB1.out HB2.out) (by omega) HZ5.out _ (by have := HVL.out; omega)⟩
    have hlti : (i : Int) < (L.length : Int) := by omega
    obtain ⟨M, hM⟩ := xahZ hlt
    obtain ⟨u, ms, rs, V, hVl, hC, hI, hV⟩ := hti
    have b23 := hC.bel
    obtain ⟨e30, e31, -⟩ := KC.out w3 (xaeZ HB2.out b23)
    obtain ⟨p9, c9, he9, -, -, hf⟩ := (HM.out.below (xaeZ HB2.out b23))
    cases he9
    obtain ⟨g, off, fv, bv, iv, ov, hpw, hg, m0, m1, m2, m3, m4, m5, hMA⟩ := hf i M hM
    subst hpw
    obtain ⟨⟨pf, cf, hfv⟩, ⟨pb, cb, hbv⟩, ⟨pi, ci, hiv⟩, ⟨po, co, hov⟩⟩ := hMA.shp
    subst hfv hbv hiv hov
    obtain ⟨W4, hW4⟩ : ∃ W4, w3.alloc (.cells #[.slice pf M.frames.length cf, .slice pb M.blocks.length cb, .slice pi M.inp.length ci, .slice po M.out.length co, .int .i64 M.status, .int .i64 M.trap] 48) = W4 := ⟨_, rfl⟩
    have b4 : Below w3.heap.size w3 W4 := by rw [← hW4]; exact (Below.refl _ w3).alloc (Nat.le_refl _) _
    have x4 : W4.heap[w3.heap.size]? = some (.cells #[.slice pf M.frames.length cf, .slice pb M.blocks.length cb, .slice pi M.inp.length ci, .slice po M.out.length co, .int .i64 M.status, .int .i64 M.trap] 48 (0, 0)) := by rw [← hW4]; exact World.alloc_heap_new w3 _
    have d0 : W4.cell? ⟨w3.heap.size, 0, none⟩ = some (.slice pf M.frames.length cf) := xaaZ x4 0
    have d1 : W4.cell? ⟨w3.heap.size, 1, none⟩ = some (.slice pb M.blocks.length cb) := xaaZ x4 1
    have d2 : W4.cell? ⟨w3.heap.size, 2, none⟩ = some (.slice pi M.inp.length ci) := xaaZ x4 2
    have d3 : W4.cell? ⟨w3.heap.size, 3, none⟩ = some (.slice po M.out.length co) := xaaZ x4 3
    have d4 : W4.cell? ⟨w3.heap.size, 4, none⟩ = some (.int .i64 M.status) := xaaZ x4 4
    have d5 : W4.cell? ⟨w3.heap.size, 5, none⟩ = some (.int .i64 M.trap) := xaaZ x4 5
    have b24 := xaeZ b23 b4
    obtain ⟨e40, e41, -⟩ := KC.out W4 (xaeZ HB2.out b24)
    have HRU := hideP (xj1Z M p n _ _ _ _ _ W4 ⟨HP.out.1.below (xaeZ HB2.out b24), HP.out.2.below HP.out.1 (xaeZ HB2.out b24), hMA.below b4⟩ (HPC.out M (List.mem_of_getElem? hM)))
    have hRM := HR.out M (List.mem_of_getElem? hM)
    have hcM : xbfZ p M = 0 := xc6Z.2 ⟨r3, HF.out, hRM⟩
    have hre : runE p M n = 0 := xgwZ.2 ⟨hcM, hn1, hn2⟩
    have HRE := hideP hre
    have HRM := hideP hRM
    have HM0 := hideP hM
    have HV := hideP (And.intro hVl hV)
    have HC := hideP hC
    have HI := hideP hI
    have HB4 := hideP b4
    clear hf hMA hM hVl hC hI hV x4 b24 hRM hcM hre e30 b4
    go_wp2_with fail
    refine HRU.out.mono ?_
    rintro e w5 ⟨t, ht, nf, nb, ni, no, rfl, hr5, b5⟩
    have hrun : RunIs p M n t := ht.1 HRE.out
    obtain ⟨⟨qf, kf, hqf⟩, ⟨qb, kb, hqb⟩, ⟨qi, ki, hqi⟩, ⟨qo, ko, hqo⟩⟩ := xb8Z hr5
    subst hqf hqb hqi hqo
    have hrr := (xirZ r3 HF.out HRM.out hn1 hrun).1
    obtain ⟨rt, hmt, hrt⟩ := hr5.has (by have := hrr.inp.1; omega)
    obtain ⟨W6, hW6⟩ : ∃ W6, w5.alloc (.cells #[.slice qf t.1.frames.length kf, .slice qb t.1.blocks.length kb, .slice qi t.1.inp.length ki, .slice qo t.1.out.length ko, .int .i64 t.1.status, .int .i64 t.1.trap] 48) = W6 := ⟨_, rfl⟩
    have b6 : Below w5.heap.size w5 W6 := by rw [← hW6]; exact (Below.refl _ w5).alloc (Nat.le_refl _) _
    have x6 : W6.heap[w5.heap.size]? = some (.cells #[.slice qf t.1.frames.length kf, .slice qb t.1.blocks.length kb, .slice qi t.1.inp.length ki, .slice qo t.1.out.length ko, .int .i64 t.1.status, .int .i64 t.1.trap] 48 (0, 0)) := by rw [← hW6]; exact World.alloc_heap_new w5 _
    have f0 : W6.cell? ⟨w5.heap.size, 0, none⟩ = some (.slice qf t.1.frames.length kf) := xaaZ x6 0
    have f1 : W6.cell? ⟨w5.heap.size, 1, none⟩ = some (.slice qb t.1.blocks.length kb) := xaaZ x6 1
    have f2 : W6.cell? ⟨w5.heap.size, 2, none⟩ = some (.slice qi t.1.inp.length ki) := xaaZ x6 2
    have f3 : W6.cell? ⟨w5.heap.size, 3, none⟩ = some (.slice qo t.1.out.length ko) := xaaZ x6 3
    have f4 : W6.cell? ⟨w5.heap.size, 4, none⟩ = some (.int .i64 t.1.status) := xaaZ x6 4
    have f5 : W6.cell? ⟨w5.heap.size, 5, none⟩ = some (.int .i64 t.1.trap) := xaaZ x6 5
    obtain ⟨pu, cu, hu⟩ := xaiZ HC.out.row
    subst hu
    have b36 : Below w3.heap.size w3 W6 := xaeZ (xaeZ HB4.out b5) b6
    have hcb6 := (b36.block _ (xacZ HC.out.cell)).trans HC.out.cell
    have o0 := xaaZ hcb6 0
    simp at o0
    have hml : ms.length = i := HC.out.res.lenM.trans HV.out.1
    have b37 : Below w3.heap.size w3 (W6.alloc (.cells #[.slice qf t.1.frames.length kf, .slice qb t.1.blocks.length kb, .slice qi t.1.inp.length ki, .slice qo t.1.out.length ko, .int .i64 t.1.status, .int .i64 t.1.trap] 48)) := xaeZ b36 ((Below.refl _ W6).alloc (Nat.le_refl _) _)
    have hrow7 := xaoZ HC.out.row (W' := W6.alloc (.cells #[.slice qf t.1.frames.length kf, .slice qb t.1.blocks.length kb, .slice qi t.1.inp.length ki, .slice qo t.1.out.length ko, .int .i64 t.1.status, .int .i64 t.1.trap] 48)) fun k hk => b37.block k (HC.out.row.lt k hk).2
    have hcb7 := (b37.block _ (xacZ HC.out.cell)).trans HC.out.cell
    have hnews : ∀ (j : Nat) (u : Value), [Value.slice qf t.1.frames.length kf, .slice qb t.1.blocks.length kb, .slice qi t.1.inp.length ki, .slice qo t.1.out.length ko, .int .i64 t.1.status, .int .i64 t.1.trap][j]? = some u → (W6.alloc (.cells #[.slice qf t.1.frames.length kf, .slice qb t.1.blocks.length kb, .slice qi t.1.inp.length ki, .slice qo t.1.out.length ko, .int .i64 t.1.status, .int .i64 t.1.trap] 48)).cell? ((⟨W6.heap.size, 0, none⟩ : Addr).add j) = some u := by
      intro j u hj
      have hn := World.alloc_heap_new W6 (.cells #[.slice qf t.1.frames.length kf, .slice qb t.1.blocks.length kb, .slice qi t.1.inp.length ki, .slice qo t.1.out.length ko, .int .i64 t.1.status, .int .i64 t.1.trap] 48)
      match j, hj with
      | 0, hj => simp at hj; subst hj; exact xaaZ hn 0
      | 1, hj => simp at hj; subst hj; exact xaaZ hn 1
      | 2, hj => simp at hj; subst hj; exact xaaZ hn 2
      | 3, hj => simp at hj; subst hj; exact xaaZ hn 3
      | 4, hj => simp at hj; subst hj; exact xaaZ hn 4
      | 5, hj => simp at hj; subst hj; exact xaaZ hn 5
      | k + 6, hj => simp at hj
    have hone : ∀ u ∈ [Value.slice qf t.1.frames.length kf, .slice qb t.1.blocks.length kb, .slice qi t.1.inp.length ki, .slice qo t.1.out.length ko, .int .i64 t.1.status, .int .i64 t.1.trap], u.oneCell' = true := by
      intro u hu
      simp at hu
      rcases hu with rfl | rfl | rfl | rfl | rfl | rfl <;> rfl
    have h63 : ms.length + 1 ≤ maxLen := by unfold maxLen; omega
    have hby : (ms.length + 1) * 112 ≤ 140737488355328 := by omega
    have hb27 := (HC.out.bel.trans (b37.mono HC.out.bel.size)).size
    have HML := hideP hml
    have HROW7 := hideP hrow7
    have HCB7 := hideP hcb7
    have HNEWS := hideP hnews
    have HB37 := hideP b37
    have HT := hideP (And.intro hrun (And.intro hmt hrt))
    have HB5 := hideP b5
    have HB6 := hideP b6
    clear hml hrow7 hcb7 hnews b37 b36 hcb6 x6 hr5 ht hrr hmt hrun hrt b5 b6 d0 d1 d2 d3 d4 d5 m0 m1 m2 m3 m4 m5 e40 e41
    go_wp2_with (at_builtin; refine wpList_append_own _ rfl _ _ 25 rfl w2.heap.size 48 i0 (.agg #[.slice none 0 0, .slice none 0 0, .slice none 0 0, .slice none 0 0, .int .i64 0, .int .i64 0]) 6 112 Tryz.underlying25 hi hz0 hz1 hz2 rfl (by decide) _ _ _ rfl HROW7.out ⟨W6.heap.size, 0, none⟩ 1 1 [.slice qf t.1.frames.length kf, .slice qb t.1.blocks.length kb, .slice qi t.1.inp.length ki, .slice qo t.1.out.length ko, .int .i64 t.1.status, .int .i64 t.1.trap] rfl rfl HNEWS.out hone h63 hby hb27 ?_; intro v8 w8 hown8 hg8 _; obtain ⟨g8, cap8, rfl⟩ := ownsRow_succ hown8; have hcb8 := (hg8.block _ (xacZ HCB7.out) (xbnZ HROW7.out HCB7.out (by decide))).trans HCB7.out; have a0 := xaaZ hcb8 0; have y0 := Lib.frozen_of_heap hcb8 0; simp at a0; have HO8 := hideP hown8; have HG8 := hideP hg8; have HCB8 := hideP hcb8; clear hown8 hg8 hcb8)
    obtain ⟨hrun, hmt, hrt⟩ := HT.out
    have hml := HML.out
    have hC := HC.out
    have hrow8 := HO8.out
    rw [show mvCells ms ++ [Value.slice qf t.1.frames.length kf, .slice qb t.1.blocks.length kb, .slice qi t.1.inp.length ki, .slice qo t.1.out.length ko, .int .i64 t.1.status, .int .i64 t.1.trap] = mvCells (ms ++ [⟨.slice qf t.1.frames.length kf, .slice qb t.1.blocks.length kb, .slice qi t.1.inp.length ki, .slice qo t.1.out.length ko, t.1.status, t.1.trap⟩]) from by simp [mvCells], show ms.length + 1 = (ms ++ [(⟨.slice qf t.1.frames.length kf, .slice qb t.1.blocks.length kb, .slice qi t.1.inp.length ki, .slice qo t.1.out.length ko, t.1.status, t.1.trap⟩ : MV)]).length from by simp] at hrow8
    have hsn := (hC.res.below (xaeZ HB4.out HB5.out)).snoc (B' := W4.heap.size) hmt (by have := hC.bel.size; have := HB4.out.size; omega) (fun k s x g h1 h2 h3 => by
      have h4 := hC.res.lt h1 h2 h3
      have h5 := HB4.out.size
      omega)
    have hb57 : Below w5.heap.size w5 (W6.alloc (.cells #[.slice qf t.1.frames.length kf, .slice qb t.1.blocks.length kb, .slice qi t.1.inp.length ki, .slice qo t.1.out.length ko, .int .i64 t.1.status, .int .i64 t.1.trap] 48)) := xaeZ HB6.out ((Below.refl _ W6).alloc (Nat.le_refl _) _)
    have hs8 := (hsn.below hb57).keep HG8.out (xcpZ HROW7.out) (by decide) (by decide) (by decide) (by decide)
    have hg9 := xajZ w8 ⟨w2.heap.size, 0, none⟩ (.slice (some ⟨g8, 0, none⟩) (ms.length + 1) cap8)
    have ht9 : TyRow w8 (some w2.heap.size) 73 := xaqZ HCB8.out
    refine ⟨⟨i + 1, by omega, by go_num, .slice (some ⟨g8, 0, none⟩) (ms.length + 1) cap8, _, _, V ++ [t.1], by rw [List.length_append, HV.out.1]; rfl, ⟨?_, ?_, hs8.keep hg9 ht9 (by decide) (by decide) (by decide) (by decide), ?_, Nat.le_refl _⟩, ?_, ?_⟩, by simp [intOf]; omega⟩
    · have := heap_setCell_same w8 w2.heap.size 0 _ _ (.slice (some ⟨g8, 0, none⟩) (ms.length + 1) cap8) HCB8.out
      simpa using this
    · have := xatZ hrow8 hg9 ht9 (by decide)
      rw [List.length_append] at this ⊢
      exact this
    · exact ((hC.bel.trans (HB37.out.mono hC.bel.size)).grown HG8.out (hC.bel.trans (HB37.out.mono hC.bel.size)).size (fun z hz => (HROW7.out.lt z hz).1)).setCell (p := ⟨w2.heap.size, 0, none⟩) (Nat.le_refl _) _
    · intro k r hk
      rcases xbcZ hk with ⟨_, h2⟩ | ⟨_, rfl⟩
      · exact HI.out k r h2
      · exact hrt
    · intro k m hk hm
      by_cases hki : k < i
      · obtain ⟨t', h1, h2⟩ := HV.out.2 k m hki hm
        exact ⟨t', h1, by rw [List.getElem?_append_left (xadZ h2)]; exact h2⟩
      · have hke : k = i := by omega
        subst hke
        rw [HM0.out] at hm
        cases hm
        refine ⟨t, hrun, ?_⟩
        rw [← HV.out.1, List.getElem?_append_right (Nat.le_refl _)]
        simp
end Go.Proofs.YtmjjkenblfndgaaGreat


/- world.Send. -/
namespace Go.Proofs.YtmjjkenblfndgaaGreat
open Go.RowKit
set_option linter.unusedSimpArgs false
set_option linter.unusedVariables false
def fullAt (L : List Mach) (k : Nat) : Prop := ∃ M, L[k]? = some M ∧ M.inp.length = 10
open Classical in
noncomputable def sendE (p : List Fn) (L : List Mach) (k n : Int) : Int := if xa7Z p L ≠ 0 then xa7Z p L else if k < 0 ∨ (L.length : Int) ≤ k ∨ wrap32 n ≠ n then 3 else if fullAt L k.toNat then 7 else 0
noncomputable def sendL (p : List Fn) (L : List Mach) (k n : Int) : List Mach := if sendE p L k n = 0 then L.modify k.toNat (fun m => giveM m [n]) else []
theorem xobZ (w : World) (n : Int) : FullInts (w.alloc (.cells #[.int .i64 n] 3)) (.slice (some ⟨w.heap.size, 0, none⟩) 1 1) [n] := by
  have h := World.alloc_heap_new w (.cells #[.int .i64 n] 3)
  refine ⟨⟨_, 1, rfl, by unfold maxLen; simp, fun i z hz => ?_⟩, xavZ _ _ _, fun p' n' c' e => by cases e; exact Nat.le_refl _⟩
  have hi := xadZ hz
  simp at hi
  subst hi
  simp at hz
  subst hz
  exact ⟨w.heap.size, 0, rfl, by simp, by simp⟩
theorem xh6Z {L : List Mach} {w2 w3 : World} {u : Value} (h : WNew L w2 u w3) (hs : w2.heap.size ≤ w3.heap.size) : Carries w2 (w3.alloc (.cells #[u, .int .i64 0] 73)) w3.heap.size L 0 := by
  obtain ⟨u', ms, rs, h1, -⟩ := xflZ h hs
  exact ⟨u', ms, rs, h1⟩
theorem wSend_any (L : List Mach) (p : List Fn) (k n : Int) (hk63 : -9223372036854775808 ≤ k ∧ k ≤ 9223372036854775807) (pv wv : Value) (w : World) (hp : FnsAt w pv p) (hcp : CapAt w pv) (h : MachsAt w wv L) (hpc : ∀ M ∈ L, PcOk M) : Calls Tryz.prog 13 #[.agg #[pv], .agg #[wv], .int .i64 k, .int .i64 n] w fun e w' => ∃ u, e = .returned (.tuple #[.agg #[u], .int .i64 (sendE p L k n)]) ∧ WOut (sendL p L k n) 1040 w u w' := by
  obtain ⟨pp, qp, hpv, -⟩ := id hp
  subst hpv
  obtain ⟨pw, cw, hwv, hlw⟩ := h.shp
  subst hwv
  obtain ⟨-, -, -, hmx, -⟩ := id h
  unfold maxLen at hmx
  obtain ⟨W1, hW1⟩ : ∃ W1, ((w.alloc (.cells #[.slice pp p.length qp] 24)).alloc (.cells #[.slice pw L.length cw] 27)).alloc (.cells #[.slice none 0 0] 27) = W1 := ⟨_, rfl⟩
  have b1 : Below w.heap.size w W1 := by rw [← hW1]; exact (((Below.refl _ w).alloc (Nat.le_refl _) _).alloc (by simp) _).alloc (by simp; omega) _
  have u1 : W1.heap[w.heap.size]? = some (.cells #[.slice pp p.length qp] 24 (0, 0)) := by rw [← hW1]; exact xepZ _ _ _ _
  have u2 : W1.heap[w.heap.size + 1]? = some (.cells #[.slice pw L.length cw] 27 (0, 0)) := by rw [← hW1]; exact xefZ _ _ _ _
  have u3 : W1.heap[w.heap.size + 1 + 1]? = some (.cells #[.slice none 0 0] 27 (0, 0)) := by rw [← hW1]; exact new3 _ _ _ _
  have sW1 : W1.heap.size = w.heap.size + 1 + 1 + 1 := by rw [← hW1]; simp
  have KC : Hid (∀ W, Below W1.heap.size W1 W → W.cell? ⟨w.heap.size, 0, none⟩ = some (.slice pp p.length qp) ∧ W.cell? ⟨w.heap.size + 1, 0, none⟩ = some (.slice pw L.length cw) ∧ W.heap[w.heap.size + 1 + 1]? = some (.cells #[.slice none 0 0] 27 (0, 0))) := fun W hW => ⟨xaaZ ((hW.block _ (xacZ u1)).trans u1) 0, xaaZ ((hW.block _ (xacZ u2)).trans u2) 0, (hW.block _ (xacZ u3)).trans u3⟩
  have HCK := hideP (xfaZ L p _ _ W1 (hp.below b1) (hcp.below hp b1) (h.below b1) hpc)
  have HM := hideP (h.below b1)
  have HB1 := hideP b1
  have HSW := hideP sW1
  obtain ⟨e0, e1, -⟩ := KC.out W1 (Below.refl _ _)
  clear hp hcp h u1 u2 u3 b1 hpc sW1
  by_cases h0 : xa7Z p L = 0
  rotate_left
  · have t0 : (xa7Z p L != 0) = true := by simpa using h0
    have hE : sendE p L k n = xa7Z p L := by unfold sendE; rw [if_pos h0]
    have hS : sendL p L k n = [] := by unfold sendL; rw [hE, if_neg h0]
    rw [hE, hS]
    generalize xa7Z p L = er at *
    clear h0 hE hS
    go_enter Tryz.func13, Tryz.ntmps13
    go_wp2_with fail
    refine HCK.out.mono ?_
    rintro e w2 ⟨rfl, b2⟩
    obtain ⟨e0', e1', z2⟩ := KC.out w2 b2
    have y0 := Lib.frozen_of_heap z2 0
    have z0 := xaaZ z2 0
    simp at z0
    go_wp2_with (go_at_call 41; refine (xdtZ _ _).mono ?_; rintro e w9 ⟨rfl, hw9⟩; have hw9 := hw9.symm; subst hw9)
    refine bodyPost_ret (v := .tuple #[.agg #[.slice none 0 0], .int .i64 er]) (by simp [results, Tryz.results13, go_sem, z0, y0]) rfl ?_
    exact ⟨_, rfl, xdsZ ((xaeZ HB1.out b2).setCell (p := ⟨w.heap.size + 1 + 1, 0, none⟩) (by simp only; omega) _) _⟩
  have t0 : (xa7Z p L != 0) = false := by simpa using h0
  by_cases hr : k < 0 ∨ (L.length : Int) ≤ k ∨ wrap32 n ≠ n
  · have hE : sendE p L k n = 3 := by unfold sendE; rw [if_neg (by simpa using h0), if_pos hr]
    have hS : sendL p L k n = [] := by unfold sendL; rw [hE]; rfl
    rw [hE, hS]
    rw [h0] at HCK
    clear h0 hE hS t0
    by_cases h1 : k < 0
    · have t1 : decide (k < 0) = true := by simpa using h1
      go_enter Tryz.func13, Tryz.ntmps13
      go_wp2_with fail
      refine HCK.out.mono ?_
      rintro e w2 ⟨rfl, b2⟩
      obtain ⟨e0', e1', z2⟩ := KC.out w2 b2
      have y0 := Lib.frozen_of_heap z2 0
      have z0 := xaaZ z2 0
      simp at z0
      go_wp2_with (go_at_call 41; refine (xdtZ _ _).mono ?_; rintro e w9 ⟨rfl, hw9⟩; have hw9 := hw9.symm; subst hw9)
      refine bodyPost_ret (v := .tuple #[.agg #[.slice none 0 0], .int .i64 3]) (by simp [results, Tryz.results13, go_sem, z0, y0]) rfl ?_
      exact ⟨_, rfl, xdsZ ((xaeZ HB1.out b2).setCell (p := ⟨w.heap.size + 1 + 1, 0, none⟩) (by simp only; omega) _) _⟩
    have t1 : decide (k < 0) = false := by simpa using h1
    by_cases h2 : (L.length : Int) ≤ k
    · have t2 : decide (k ≥ (L.length : Int)) = true := by simpa using h2
      have t2' : decide ((L.length : Int) ≤ k) = true := by simpa using h2
      go_enter Tryz.func13, Tryz.ntmps13
      go_wp2_with fail
      refine HCK.out.mono ?_
      rintro e w2 ⟨rfl, b2⟩
      obtain ⟨e0', e1', z2⟩ := KC.out w2 b2
      have y0 := Lib.frozen_of_heap z2 0
      have z0 := xaaZ z2 0
      simp at z0
      go_wp2_with (go_at_call 41; refine (xdtZ _ _).mono ?_; rintro e w9 ⟨rfl, hw9⟩; have hw9 := hw9.symm; subst hw9)
      refine bodyPost_ret (v := .tuple #[.agg #[.slice none 0 0], .int .i64 3]) (by simp [results, Tryz.results13, go_sem, z0, y0]) rfl ?_
      exact ⟨_, rfl, xdsZ ((xaeZ HB1.out b2).setCell (p := ⟨w.heap.size + 1 + 1, 0, none⟩) (by simp only; omega) _) _⟩
    have t2 : decide (k ≥ (L.length : Int)) = false := by simpa using h2
    have t2' : decide ((L.length : Int) ≤ k) = false := by simpa using h2
    have h3 : wrap32 n ≠ n := by
      rcases hr with h | h | h
      · exact absurd h h1
      · exact absurd h h2
      · exact h
    have t3 : (wrap32 n != n) = true := by simpa using h3
    clear hr
    go_enter Tryz.func13, Tryz.ntmps13
    go_wp2_with fail
    refine HCK.out.mono ?_
    rintro e w2 ⟨rfl, b2⟩
    obtain ⟨e0', e1', z2⟩ := KC.out w2 b2
    have y0 := Lib.frozen_of_heap z2 0
    have z0 := xaaZ z2 0
    simp at z0
    go_wp2_with (go_at_call 41; refine (xdtZ _ _).mono ?_; rintro e w9 ⟨rfl, hw9⟩; have hw9 := hw9.symm; subst hw9)
    refine bodyPost_ret (v := .tuple #[.agg #[.slice none 0 0], .int .i64 3]) (by simp [results, Tryz.results13, go_sem, z0, y0]) rfl ?_
    exact ⟨_, rfl, xdsZ ((xaeZ HB1.out b2).setCell (p := ⟨w.heap.size + 1 + 1, 0, none⟩) (by simp only; omega) _) _⟩
  have h1 : 0 ≤ k := by omega
  have h2 : k < (L.length : Int) := by omega
  have h3 : wrap32 n = n := by
    by_cases h : wrap32 n = n
    · exact h
    · exact absurd (.inr (.inr h)) hr
  obtain ⟨K, rfl⟩ : ∃ K : Nat, k = K := ⟨k.toNat, by omega⟩
  have hKl : K < L.length := by omega
  obtain ⟨M, hM⟩ := xahZ hKl
  have t1 : decide ((K : Int) < 0) = false := by simp
  have t2 : decide ((K : Int) ≥ (L.length : Int)) = false := by simp; omega
  have t2' : decide ((L.length : Int) ≤ (K : Int)) = false := by simp; omega
  have t3 : (wrap32 n != n) = false := by simpa using h3
  obtain ⟨r1, r2, r3, r4, r5⟩ := xfqZ h0
  have hRM := r5 M (List.mem_of_getElem? hM)
  have hsm : ∀ M ∈ L, SmallM M := fun M hM => (xdcZ r3 r4 (r5 M hM)).1
  have HFW := hideP (fun (W : World) (hW : Below W1.heap.size W1 W) => xhbZ L _ W (HM.out.below hW) r2 hsm)
  have hi10 := hRM.inp.1
  have hst := hRM.status
  by_cases hf : M.inp.length = 10
  · have hE : sendE p L (K : Int) n = 7 := by
      unfold sendE
      rw [if_neg (by simpa using h0), if_neg hr]
      exact if_pos ⟨M, by simpa using hM, hf⟩
    have hS : sendL p L (K : Int) n = [] := by unfold sendL; rw [hE]; rfl
    rw [hE, hS]
    rw [h0] at HCK
    have t4 : ((10 - (M.inp.length : Int)) == 0) = true := beq_iff_eq.2 (by omega)
    have HMK := hideP hM
    clear h0 hE hS t0 r1 r3 r4 r5 hRM hsm hr hM hst
    go_enter Tryz.func13, Tryz.ntmps13
    go_wp2_with fail
    refine HCK.out.mono ?_
    rintro e w2 ⟨rfl, b2⟩
    obtain ⟨e0', e1', z2⟩ := KC.out w2 b2
    have HB2 := hideP b2
    clear z2 b2
    go_wp2_with (first | (go_at_call 41; refine (xdtZ _ _).mono ?_; rintro e w9 ⟨rfl, hw9⟩; have hw9 := hw9.symm; subst hw9) | fail)
    refine (HFW.out w2 HB2.out).mono ?_
    rintro e w3 ⟨u, rfl, hnew⟩
    have hb3 : Below w2.heap.size w2 w3 := WOut.bel hnew
    obtain ⟨pu, cu, hu⟩ := WOut.shp hnew
    subst hu
    have HN := hideP hnew
    have HB3 := hideP hb3
    clear hnew hb3
    go_wp2_with fail
    refine (xj4Z w2 _ w3.heap.size L 0 K M (xh6Z HN.out HB3.out.size) HMK.out hi10).mono ?_
    rintro e W4 ⟨rfl, hW4⟩
    have b4 : Below w3.heap.size w3 W4 := by rw [hW4]; exact (Below.refl _ w3).alloc (Nat.le_refl _) _
    have HCB := hideP (xflZ HN.out HB3.out.size)
    have HX4 := hideP (World.alloc_heap_new w3 (.cells #[.slice pu L.length cu, .int .i64 0] 73))
    rw [← hW4] at HCB HX4
    obtain ⟨-, -, hz3⟩ := KC.out w3 (xaeZ HB2.out HB3.out)
    clear hW4
    have hz4 := (b4.block _ (xacZ hz3)).trans hz3
    have y0 := Lib.frozen_of_heap hz4 0
    have z0 := xaaZ hz4 0
    simp at z0
    have HB4 := hideP b4
    clear hz3 hz4 b4
    go_wp2
    refine bodyPost_ret (v := .tuple #[.agg #[.slice none 0 0], .int .i64 7]) (by simp [results, Tryz.results13, go_sem, z0, y0]) rfl ?_
    exact ⟨_, rfl, xdsZ ((xaeZ (xaeZ (xaeZ HB1.out HB2.out) HB3.out) HB4.out).setCell (p := ⟨w.heap.size + 1 + 1, 0, none⟩) (by simp only; omega) _) _⟩
  have hE : sendE p L (K : Int) n = 0 := by
    unfold sendE
    rw [if_neg (by simpa using h0), if_neg hr]
    refine if_neg ?_
    rintro ⟨M', hM', h10⟩
    rw [show ((K : Int)).toNat = K from rfl, hM] at hM'
    cases hM'
    exact hf h10
  have hS : sendL p L (K : Int) n = L.set K (giveM M [n]) := by
    unfold sendL
    rw [if_pos hE]
    exact xhkZ hM
  rw [hE, hS]
  rw [h0] at HCK
  have t4 : ((10 - (M.inp.length : Int)) == 0) = false := beq_eq_false_iff_ne.2 (by omega)
  have HMK := hideP hM
  clear h0 hE hS t0 r1 r3 r4 r5 hRM hsm hr hM
  go_enter Tryz.func13, Tryz.ntmps13
  go_wp2_with fail
  refine HCK.out.mono ?_
  rintro e w2 ⟨rfl, b2⟩
  obtain ⟨e0', e1', z2⟩ := KC.out w2 b2
  have HB2 := hideP b2
  clear z2 b2
  go_wp2_with (first | (go_at_call 41; refine (xdtZ _ _).mono ?_; rintro e w9 ⟨rfl, hw9⟩; have hw9 := hw9.symm; subst hw9) | fail)
  refine (HFW.out w2 HB2.out).mono ?_
  rintro e w3 ⟨u, rfl, hnew⟩
  have hb3 : Below w2.heap.size w2 w3 := WOut.bel hnew
  obtain ⟨pu, cu, hu⟩ := WOut.shp hnew
  subst hu
  have HN := hideP hnew
  have HB3 := hideP hb3
  clear hnew hb3
  go_wp2_with fail
  refine (xj4Z w2 _ w3.heap.size L 0 K M (xh6Z HN.out HB3.out.size) HMK.out hi10).mono ?_
  rintro e W4 ⟨rfl, hW4⟩
  have b4 : Below w3.heap.size w3 W4 := by rw [hW4]; exact (Below.refl _ w3).alloc (Nat.le_refl _) _
  have HCB := hideP (xflZ HN.out HB3.out.size)
  have HX4 := hideP (World.alloc_heap_new w3 (.cells #[.slice pu L.length cu, .int .i64 0] 73))
  rw [← hW4] at HCB HX4
  obtain ⟨-, -, hz3⟩ := KC.out w3 (xaeZ HB2.out HB3.out)
  clear hW4
  have HB4 := hideP b4
  obtain ⟨u4, ms4, rs4, hC4, hI4⟩ := HCB.out
  have hu4 : u4 = .slice pu L.length cu := by
    have h5 := hC4.cell
    rw [HX4.out] at h5
    simp at h5
    exact h5.symm
  subst hu4
  obtain ⟨W5, hW5⟩ : ∃ W5, W4.alloc (.cells #[.int .i64 n] 3) = W5 := ⟨_, rfl⟩
  have b5 : Below W4.heap.size W4 W5 := by rw [← hW5]; exact (Below.refl _ W4).alloc (Nat.le_refl _) _
  have hfull : FullInts W5 (.slice (some ⟨W4.heap.size, 0, none⟩) 1 1) [n] := by rw [← hW5]; exact xobZ W4 n
  have hC5 := hC4.below b5
  obtain ⟨c5, hc5⟩ := xahZ (l := ms4) (k := K) (by rw [hC4.res.lenM]; exact hKl)
  obtain ⟨q5, hq5⟩ := xahZ (l := rs4) (k := K) (by rw [hC4.res.lenR]; exact hKl)
  have hq50 := hI4 K q5 hq5
  have HHA := hideP (hand_any w2 W5 w3.heap.size _ ms4 rs4 L 0 K c5 q5 M [n] _ hC5 hc5 hq5 HMK.out hfull (by omega) (by simp) hst (by omega) r2)
  have HI4 := hideP hI4
  have HQ5 := hideP hq5
  clear hz3 b4 hC4 hI4 b5 hfull hC5 hc5 hq5 hst
  go_wp2_with fail
  refine HHA.out.mono ?_
  rintro e w6 ⟨rfl, iv', iw', I', hIl, hC6, -, -⟩
  have hlen : (L.set K (giveM M [n])).length = L.length := List.length_set
  have b26 := hC6.bel
  obtain ⟨-, -, hz6⟩ := KC.out w6 (xaeZ HB2.out b26)
  have y0 := Lib.frozen_of_heap hz6 0
  have z0 := xaaZ hz6 0
  have k0 := xaaZ hC6.cell 0
  simp at z0 k0
  have HC6 := hideP hC6
  have HZ6 := hideP hz6
  have HIL := hideP hIl
  clear hC6 hz6 b26 hIl
  go_wp2
  refine bodyPost_ret (v := .tuple #[.agg #[.slice pu L.length cu], .int .i64 0]) (by simp [results, Tryz.results13, go_sem, z0, y0]) rfl ?_
  refine ⟨_, rfl, xiyZ (n := 1001) (m := 1040) HC6.out (fun i r hi => ?_) (xaeZ HB1.out HB2.out) (by omega) HZ6.out _ (by omega)⟩
  rw [List.getElem?_set] at hi
  split at hi
  · rename_i he
    subst he
    rw [if_pos (xadZ HQ5.out)] at hi
    cases hi
    have h1 := HIL.out
    simp at h1
    show I'.length ≤ _
    omega
  · have := HI4.out _ _ hi
    omega
end Go.Proofs.YtmjjkenblfndgaaGreat


/- What must be in any case of machines: machineBegun. -/
namespace Go.Proofs.YtmjjkenblfndgaaGreat
open Go.RowKit
set_option linter.unusedSimpArgs false
set_option linter.unusedVariables false
theorem six_heap {W : World} {R : Nat} {t : TypeId} {a0 a1 a2 a3 a4 a5 : Value} (h : W.heap[R]? = some (.cells #[a0, a1, a2, a3, a4, a5] t (0, 0))) {a b c d e f : Value} : ((((((W.setCell ⟨R, 0, none⟩ a).setCell ⟨R, 1, none⟩ b).setCell ⟨R, 2, none⟩ c).setCell ⟨R, 3, none⟩ d).setCell ⟨R, 4, none⟩ e).setCell ⟨R, 5, none⟩ f).heap[R]? = some (.cells #[a, b, c, d, e, f] t (0, 0)) := by
  have h1 := heap_setCell_same W R 0 _ _ a h
  have h2 := heap_setCell_same _ R 1 _ _ b h1
  have h3 := heap_setCell_same _ R 2 _ _ c h2
  have h4 := heap_setCell_same _ R 3 _ _ d h3
  have h5 := heap_setCell_same _ R 4 _ _ e h4
  have h6 := heap_setCell_same _ R 5 _ _ f h5
  simpa using h6
theorem xgjZ {w0 w6 : World} {z : Nat} {fv bv iv ov a0 a1 a2 a3 a4 a5 : Value} {M : Mach} (hr : MRes w6 w0.heap.size fv bv iv ov M) (h100 : M.inp.length ≤ 100) (hb : Below w0.heap.size w0 w6) (hz : w6.heap[z]? = some (.cells #[a0, a1, a2, a3, a4, a5] 48 (0, 0))) (hzb : w0.heap.size ≤ z) :
    ((((((w6.setCell ⟨z, 0, none⟩ fv).setCell ⟨z, 1, none⟩ bv).setCell ⟨z, 2, none⟩ iv).setCell ⟨z, 3, none⟩ ov).setCell ⟨z, 4, none⟩ (.int .i64 M.status)).setCell ⟨z, 5, none⟩ (.int .i64 M.trap)).heap[z]? = some (.cells #[fv, bv, iv, ov, .int .i64 M.status, .int .i64 M.trap] 48 (0, 0)) ∧ MachAt ((((((w6.setCell ⟨z, 0, none⟩ fv).setCell ⟨z, 1, none⟩ bv).setCell ⟨z, 2, none⟩ iv).setCell ⟨z, 3, none⟩ ov).setCell ⟨z, 4, none⟩ (.int .i64 M.status)).setCell ⟨z, 5, none⟩ (.int .i64 M.trap)) fv bv iv ov M ∧ Below w0.heap.size w0 ((((((w6.setCell ⟨z, 0, none⟩ fv).setCell ⟨z, 1, none⟩ bv).setCell ⟨z, 2, none⟩ iv).setCell ⟨z, 3, none⟩ ov).setCell ⟨z, 4, none⟩ (.int .i64 M.status)).setCell ⟨z, 5, none⟩ (.int .i64 M.trap)) := by
  obtain ⟨h1, h2⟩ := xhlZ hr hb hz hzb
  exact ⟨six_heap hz, h1.at_ h100, h2⟩
theorem xkeZ {w0 w6 : World} {fv bv iv ov : Value} {M : Mach} (hr : MRes w6 w0.heap.size fv bv iv ov M) (h100 : M.inp.length ≤ 100) (hb : Below w0.heap.size w0 w6) :
    (w6.alloc (.cells #[fv, bv, iv, ov, .int .i64 M.status, .int .i64 M.trap] 48)).heap[w6.heap.size]? = some (.cells #[fv, bv, iv, ov, .int .i64 M.status, .int .i64 M.trap] 48 (0, 0)) ∧ MachAt (w6.alloc (.cells #[fv, bv, iv, ov, .int .i64 M.status, .int .i64 M.trap] 48)) fv bv iv ov M ∧ Below w0.heap.size w0 (w6.alloc (.cells #[fv, bv, iv, ov, .int .i64 M.status, .int .i64 M.trap] 48)) :=
  ⟨World.alloc_heap_new w6 _, (hr.at_ h100).below ((Below.refl _ w6).alloc (Nat.le_refl _) _), hb.alloc hb.size _⟩
end Go.Proofs.YtmjjkenblfndgaaGreat


/- What must be in any case of fuel: meterBegun. -/
namespace Go.Proofs.YtmjjkenblfndgaaGreat
open Go.RowKit
set_option linter.unusedSimpArgs false
set_option linter.unusedVariables false
def runF (p : List Fn) : Nat → MF → MF
  | 0, s => s
  | k + 1, s => if s.1.status = 0 then (match pay p s with
    | none => s
    | some s' => runF p k s') else s
theorem xenZ {p : List Fn} : ∀ (k : Nat) (s : MF), ((runF p k s).1.status ≠ 0 ∨ pay p (runF p k s) = none) → Ends p s (runF p k s)
  | 0, s, h => by
    rcases h with h | h
    · exact .stop h
    · exact .poor h
  | k + 1, s, h => by
    unfold runF at h ⊢
    by_cases h0 : s.1.status = 0
    · rw [if_pos h0] at h ⊢
      cases hp : pay p s with
      | none => exact .poor hp
      | some s' => rw [hp] at h; exact .on h0 hp (xenZ k s' h)
    · rw [if_neg h0]
      exact .stop h0
def doneM : Mach := ⟨[], [], [], [3, 2, 1], 2, 0⟩
def fiveM : Mach := ⟨[⟨0, 5, [], [(false, 2)]⟩], [], [], [3], 0, 0⟩
theorem run100 : runF xa1Z 60 (beginM, 100) = (doneM, 77) := by kernel_rfl
theorem run5 : runF xa1Z 60 (beginM, 5) = (fiveM, 0) ∧ pay xa1Z (fiveM, 0) = none := ⟨by kernel_rfl, by kernel_rfl⟩
theorem is100 : RunIs xa1Z beginM 100 (doneM, 77) := by
  unfold RunIs
  rw [xd6Z (by decide), ← run100]
  exact xenZ 60 _ (.inl (by rw [run100]; decide))
theorem is5 : RunIs xa1Z beginM 5 (fiveM, 0) := by
  unfold RunIs
  rw [xd6Z (by decide), ← run5.1]
  exact xenZ 60 _ (.inr (by rw [run5.1]; exact run5.2))
def MRet3 (R : Mach) (k : Int) (w : World) (e : Ending) (w' : World) : Prop := ∃ fv bv iv ov, e = .returned (.tuple #[.agg #[fv, bv, iv, ov, .int .i64 R.status, .int .i64 R.trap], .int .i64 k, .int .i64 0]) ∧ MRes w' w.heap.size fv bv iv ov R ∧ Below w.heap.size w w'
theorem xmmZ {n k : Int} {R : Mach} (hr : RunIs xa1Z beginM n (R, k)) (hn : 0 ≤ n ∧ n ≤ 10000) {pv fv bv iv ov : Value} {w : World} (h : CkAt w xa1Z pv fv bv iv ov beginM) (hf : fitsE xa1Z = 0) : Calls Tryz.prog 23 #[.agg #[pv], .agg #[fv, bv, iv, ov, .int .i64 beginM.status, .int .i64 beginM.trap], .int .i64 n] w (MRet3 R k w) := by
  have hE : runE xa1Z beginM n = 0 := xgwZ.2 ⟨(begin_ok hf cb1.1).1, hn⟩
  refine (xj1Z beginM xa1Z n pv fv bv iv ov w h pcOk_begin).mono ?_
  rintro e w' ⟨t, ht, f', b', i', o', h1, h2, h3⟩
  have := xfwZ (ht.1 hE) hr
  subst this
  rw [hE] at h1
  exact ⟨_, _, _, _, h1, h2, h3⟩
theorem run_100 {pv fv bv iv ov : Value} {w : World} (h : CkAt w xa1Z pv fv bv iv ov beginM) (hf : fitsE xa1Z = 0) : Calls Tryz.prog 23 #[.agg #[pv], .agg #[fv, bv, iv, ov, .int .i64 beginM.status, .int .i64 beginM.trap], .int .i64 100] w (MRet3 doneM 77 w) := xmmZ is100 (by decide) h hf
theorem run_5 {pv fv bv iv ov : Value} {w : World} (h : CkAt w xa1Z pv fv bv iv ov beginM) (hf : fitsE xa1Z = 0) : Calls Tryz.prog 23 #[.agg #[pv], .agg #[fv, bv, iv, ov, .int .i64 beginM.status, .int .i64 beginM.trap], .int .i64 5] w (MRet3 fiveM 0 w) := xmmZ is5 (by decide) h hf
theorem xloZ (w : World) : Calls Tryz.prog 22 #[] w fun e w' => e = .returned (.bool true) ∧ Below w.heap.size w w' := by
  go_enter Tryz.func22, Tryz.ntmps22
  go_wp2_with fail
  refine (xehZ _).mono ?_
  rintro e w1 ⟨v1, rfl, f1, k1, b1⟩
  have hcf := xnxZ f1 k1
  have HST := hideP (xg7Z f1 k1 hcf cb1.1)
  go_wp2_with fail
  refine HST.out.mono ?_
  rintro e w2 ⟨xf, xb, xi, xo, rfl, r2, b2⟩
  have B2 := xaeZ b1 b2
  have HCF := hideP hcf
  obtain ⟨⟨pf, kf, hf⟩, ⟨pb, kb, hb⟩, ⟨pi, ki, hi⟩, ⟨po, ko, ho⟩⟩ := xb8Z r2
  subst hf hb hi ho
  have A2 : MachAt w2 _ _ _ _ beginM := r2.at_ (by decide)
  obtain ⟨W3, hW3⟩ : ∃ W3, w2.alloc (.cells #[.slice pf beginM.frames.length kf, .slice pb beginM.blocks.length kb, .slice pi beginM.inp.length ki, .slice po beginM.out.length ko, .int .i64 beginM.status, .int .i64 beginM.trap] 48) = W3 := ⟨_, rfl⟩
  have b3 : Below w2.heap.size w2 W3 := by rw [← hW3]; exact (Below.refl _ w2).alloc (Nat.le_refl _) _
  have u3 : W3.heap[w2.heap.size]? = some (.cells #[.slice pf beginM.frames.length kf, .slice pb beginM.blocks.length kb, .slice pi beginM.inp.length ki, .slice po beginM.out.length ko, .int .i64 beginM.status, .int .i64 beginM.trap] 48 (0, 0)) := by rw [← hW3]; exact World.alloc_heap_new w2 _
  have B3 := xaeZ B2 b3
  have A3 := hideP (A2.below b3)
  have l3 := xacZ u3
  have a0 := xaaZ u3 0
  have a1 := xaaZ u3 1
  have a2 := xaaZ u3 2
  have a3 := xaaZ u3 3
  have a4 := xaaZ u3 4
  have a5 := xaaZ u3 5
  simp at a0 a1 a2 a3 a4 a5
  have HB3 := hideP B3
  clear f1 k1 hcf HST b1 b2 B2 r2 A2 b3 u3 B3
  go_upto_region 2 with fail
  go_cut [3, 4, 5] from 16 (fun sa sb sc wx => ∃ (z : Nat) (fv bv iv ov : Value), sa = .pointer (some ⟨z, 0, none⟩) ∧ sb = .int .i64 (77) ∧ sc = .int .i64 0 ∧ wx.heap[z]? = some (.cells #[fv, bv, iv, ov, .int .i64 (doneM).status, .int .i64 (doneM).trap] 48 (0, 0)) ∧ MachAt wx fv bv iv ov doneM ∧ Below W3.heap.size W3 wx)
  case first =>
    have hdA : ∀ o, Below W3.heap.size W3 (W3.alloc o).drew := fun o => ((Below.refl _ W3).alloc (Nat.le_refl _) o).drew
    go_region_held3 (fun W => W.cell? ⟨w2.heap.size, 0, none⟩ = some (.slice pf beginM.frames.length kf) ∧ W.cell? ⟨w2.heap.size, 1, none⟩ = some (.slice pb beginM.blocks.length kb) ∧ W.cell? ⟨w2.heap.size, 2, none⟩ = some (.slice pi beginM.inp.length ki) ∧ W.cell? ⟨w2.heap.size, 3, none⟩ = some (.slice po beginM.out.length ko) ∧ W.cell? ⟨w2.heap.size, 4, none⟩ = some (.int .i64 beginM.status) ∧ W.cell? ⟨w2.heap.size, 5, none⟩ = some (.int .i64 beginM.trap)) (first | go_keep | exact ⟨xa5Z g0 nz, xa5Z g1 nz, xa5Z g2 nz, xa5Z g3 nz, xa5Z g4 nz, xa5Z g5 nz⟩)
      (first
        | (go_at_call 51; (with_reducible refine (xehZ _).mono ?_); rintro e w5 ⟨v5, rfl, f5, k5, b5'⟩; have b5 : Below W3.heap.size W3 w5 := xaeZ ((Below.refl _ W3).drew) b5'; clear b5'; have h0 := (b5.cell (p := ⟨w2.heap.size, 0, none⟩) l3).trans a0; have h1 := (b5.cell (p := ⟨w2.heap.size, 1, none⟩) l3).trans a1; have h2 := (b5.cell (p := ⟨w2.heap.size, 2, none⟩) l3).trans a2; have h3 := (b5.cell (p := ⟨w2.heap.size, 3, none⟩) l3).trans a3; have h4 := (b5.cell (p := ⟨w2.heap.size, 4, none⟩) l3).trans a4; have h5 := (b5.cell (p := ⟨w2.heap.size, 5, none⟩) l3).trans a5; have hd5 : ∀ o, Below w5.heap.size w5 (w5.alloc o) := fun o => (Below.refl _ w5).alloc (Nat.le_refl _) o)
        | (go_at_call 51; (with_reducible refine (xehZ _).mono ?_); rintro e w5 ⟨v5, rfl, f5, k5, b5'⟩; have b5 : Below W3.heap.size W3 w5 := xaeZ (hdA _) b5'; have q5 := (b5'.block W3.heap.size (xacZ (World.alloc_heap_new W3 _))).trans (World.alloc_heap_new W3 _); have Q5 := hideP q5; have m0 := xaaZ q5 0; have m1 := xaaZ q5 1; have m2 := xaaZ q5 2; have m3 := xaaZ q5 3; have m4 := xaaZ q5 4; have m5 := xaaZ q5 5; simp at m0 m1 m2 m3 m4 m5; have mz := Lib.frozen_of_heap q5; have mz0 := mz 0; have mz1 := mz 1; have mz2 := mz 2; have mz3 := mz 3; have mz4 := mz 4; have mz5 := mz 5; clear mz; clear b5' q5; have h0 := (b5.cell (p := ⟨w2.heap.size, 0, none⟩) l3).trans a0; have h1 := (b5.cell (p := ⟨w2.heap.size, 1, none⟩) l3).trans a1; have h2 := (b5.cell (p := ⟨w2.heap.size, 2, none⟩) l3).trans a2; have h3 := (b5.cell (p := ⟨w2.heap.size, 3, none⟩) l3).trans a3; have h4 := (b5.cell (p := ⟨w2.heap.size, 4, none⟩) l3).trans a4; have h5 := (b5.cell (p := ⟨w2.heap.size, 5, none⟩) l3).trans a5)
        | (go_at_call 23; (with_reducible refine (run_100 (w := w5) ⟨f5, k5, A3.out.below b5⟩ HCF.out).mono ?_); rintro e w6 ⟨nf, nb, ni, no, rfl, r6, b6'⟩; have b6 : Below W3.heap.size W3 w6 := xaeZ b5 b6'; have nz : ¬ w2.heap.size = W3.heap.size := (by omega); have q6 := (b6'.block W3.heap.size (xacZ Q5.out)).trans Q5.out; have Q6 := hideP q6; clear m0 m1 m2 m3 m4 m5 mz0 mz1 mz2 mz3 mz4 mz5; have m0 := xaaZ q6 0; have m1 := xaaZ q6 1; have m2 := xaaZ q6 2; have m3 := xaaZ q6 3; have m4 := xaaZ q6 4; have m5 := xaaZ q6 5; simp at m0 m1 m2 m3 m4 m5; have mz := Lib.frozen_of_heap q6; have mz0 := mz 0; have mz1 := mz 1; have mz2 := mz 2; have mz3 := mz 3; have mz4 := mz 4; have mz5 := mz 5; clear mz; clear q6; have R6b : Hid (MRes w6 W3.heap.size _ _ _ _ _) := hideP (r6.low b5.size); obtain ⟨⟨qf, jf, hqf⟩, ⟨qb, jb, hqb⟩, ⟨qi, ji, hqi⟩, ⟨qo, jo, hqo⟩⟩ := xb8Z r6; subst hqf hqb hqi hqo; have R6 := hideP r6; clear r6; have g0 := (b6.cell (p := ⟨w2.heap.size, 0, none⟩) l3).trans a0; have g1 := (b6.cell (p := ⟨w2.heap.size, 1, none⟩) l3).trans a1; have g2 := (b6.cell (p := ⟨w2.heap.size, 2, none⟩) l3).trans a2; have g3 := (b6.cell (p := ⟨w2.heap.size, 3, none⟩) l3).trans a3; have g4 := (b6.cell (p := ⟨w2.heap.size, 4, none⟩) l3).trans a4; have g5 := (b6.cell (p := ⟨w2.heap.size, 5, none⟩) l3).trans a5)
        | (go_at_call 23; (with_reducible refine (run_100 (w := w5) ⟨f5, k5, A3.out.below b5⟩ HCF.out).mono ?_); rintro e w6 ⟨nf, nb, ni, no, rfl, r6, b6'⟩; have b6 : Below W3.heap.size W3 w6 := xaeZ b5 b6'; have nz : ¬ w2.heap.size = w6.heap.size := (by have := b6.size; omega); have R6b : Hid (MRes w6 W3.heap.size _ _ _ _ _) := hideP (r6.low b5.size); obtain ⟨⟨qf, jf, hqf⟩, ⟨qb, jb, hqb⟩, ⟨qi, ji, hqi⟩, ⟨qo, jo, hqo⟩⟩ := xb8Z r6; subst hqf hqb hqi hqo; have R6 := hideP r6; clear r6; have g0 := (b6.cell (p := ⟨w2.heap.size, 0, none⟩) l3).trans a0; have g1 := (b6.cell (p := ⟨w2.heap.size, 1, none⟩) l3).trans a1; have g2 := (b6.cell (p := ⟨w2.heap.size, 2, none⟩) l3).trans a2; have g3 := (b6.cell (p := ⟨w2.heap.size, 3, none⟩) l3).trans a3; have g4 := (b6.cell (p := ⟨w2.heap.size, 4, none⟩) l3).trans a4; have g5 := (b6.cell (p := ⟨w2.heap.size, 5, none⟩) l3).trans a5)
        | (go_at_call 23; (with_reducible refine (run_100 (w := w5.alloc _) ⟨f5.below (hd5 _), k5.below f5 (hd5 _), A3.out.below (xaeZ b5 (hd5 _))⟩ HCF.out).mono ?_); rintro e w6 ⟨nf, nb, ni, no, rfl, r6, b6'⟩; have b6 : Below W3.heap.size W3 w6 := xaeZ (xaeZ b5 (hd5 _)) b6'; have nz : ¬ w2.heap.size = w5.heap.size := (by have := b5.size; omega); have q6 := (b6'.block w5.heap.size (xacZ (World.alloc_heap_new w5 _))).trans (World.alloc_heap_new w5 _); have Q6 := hideP q6; have m0 := xaaZ q6 0; have m1 := xaaZ q6 1; have m2 := xaaZ q6 2; have m3 := xaaZ q6 3; have m4 := xaaZ q6 4; have m5 := xaaZ q6 5; simp at m0 m1 m2 m3 m4 m5; have mz := Lib.frozen_of_heap q6; have mz0 := mz 0; have mz1 := mz 1; have mz2 := mz 2; have mz3 := mz 3; have mz4 := mz 4; have mz5 := mz 5; clear mz; clear q6; have R6b : Hid (MRes w6 W3.heap.size _ _ _ _ _) := hideP (r6.low (Nat.le_trans b5.size (hd5 _).size)); obtain ⟨⟨qf, jf, hqf⟩, ⟨qb, jb, hqb⟩, ⟨qi, ji, hqi⟩, ⟨qo, jo, hqo⟩⟩ := xb8Z r6; subst hqf hqb hqi hqo; have R6 := hideP r6; clear r6; have g0 := (b6.cell (p := ⟨w2.heap.size, 0, none⟩) l3).trans a0; have g1 := (b6.cell (p := ⟨w2.heap.size, 1, none⟩) l3).trans a1; have g2 := (b6.cell (p := ⟨w2.heap.size, 2, none⟩) l3).trans a2; have g3 := (b6.cell (p := ⟨w2.heap.size, 3, none⟩) l3).trans a3; have g4 := (b6.cell (p := ⟨w2.heap.size, 4, none⟩) l3).trans a4; have g5 := (b6.cell (p := ⟨w2.heap.size, 5, none⟩) l3).trans a5))
    all_goals
      go_wp2_with fail
      go_meet
    · have hF := xkeZ R6b.out (by decide) b6
      exact ⟨_, _, _, _, _, rfl, rfl, rfl, hF⟩
    · have hF := xgjZ R6b.out (by decide) b6 Q6.out b5.size
      exact ⟨_, _, _, _, _, rfl, rfl, rfl, hF⟩
    · have hF := xgjZ R6b.out (by decide) b6 Q6.out (Nat.le_refl _)
      exact ⟨_, _, _, _, _, rfl, rfl, rfl, hF⟩
  case rest =>
    obtain ⟨z, cf, cb, ci, co, rfl, rfl, rfl, hz, hA, hb⟩ := hcut
    have B4 := hideP (xaeZ HB3.out hb)
    have lz := xacZ hz
    have HZ := hideP hz
    have HA := hideP hA
    replace A3 := hideP (A3.out.below hb)
    have s4 := hb.size
    replace a0 := (hb.cell (p := ⟨w2.heap.size, 0, none⟩) l3).trans a0
    replace a1 := (hb.cell (p := ⟨w2.heap.size, 1, none⟩) l3).trans a1
    replace a2 := (hb.cell (p := ⟨w2.heap.size, 2, none⟩) l3).trans a2
    replace a3 := (hb.cell (p := ⟨w2.heap.size, 3, none⟩) l3).trans a3
    replace a4 := (hb.cell (p := ⟨w2.heap.size, 4, none⟩) l3).trans a4
    replace a5 := (hb.cell (p := ⟨w2.heap.size, 5, none⟩) l3).trans a5
    replace l3 : w2.heap.size < wc.heap.size := by omega
    clear hz hA hb HB3
    go_upto_region 3 with fail
    go_cut [6, 7, 8] from 23 (fun sa sb sc wx => ∃ (z : Nat) (fv bv iv ov : Value), sa = .pointer (some ⟨z, 0, none⟩) ∧ sb = .int .i64 (0) ∧ sc = .int .i64 0 ∧ wx.heap[z]? = some (.cells #[fv, bv, iv, ov, .int .i64 (fiveM).status, .int .i64 (fiveM).trap] 48 (0, 0)) ∧ MachAt wx fv bv iv ov fiveM ∧ Below wc.heap.size wc wx)
    case first =>
      have hdA : ∀ o, Below wc.heap.size wc (wc.alloc o).drew := fun o => ((Below.refl _ wc).alloc (Nat.le_refl _) o).drew
      go_region_held3 (fun W => W.cell? ⟨w2.heap.size, 0, none⟩ = some (.slice pf beginM.frames.length kf) ∧ W.cell? ⟨w2.heap.size, 1, none⟩ = some (.slice pb beginM.blocks.length kb) ∧ W.cell? ⟨w2.heap.size, 2, none⟩ = some (.slice pi beginM.inp.length ki) ∧ W.cell? ⟨w2.heap.size, 3, none⟩ = some (.slice po beginM.out.length ko) ∧ W.cell? ⟨w2.heap.size, 4, none⟩ = some (.int .i64 beginM.status) ∧ W.cell? ⟨w2.heap.size, 5, none⟩ = some (.int .i64 beginM.trap)) (first | go_keep | exact ⟨xa5Z g0 nz, xa5Z g1 nz, xa5Z g2 nz, xa5Z g3 nz, xa5Z g4 nz, xa5Z g5 nz⟩)
        (first
          | (go_at_call 51; (with_reducible refine (xehZ _).mono ?_); rintro e w5 ⟨v5, rfl, f5, k5, b5'⟩; have b5 : Below wc.heap.size wc w5 := xaeZ ((Below.refl _ wc).drew) b5'; clear b5'; have h0 := (b5.cell (p := ⟨w2.heap.size, 0, none⟩) l3).trans a0; have h1 := (b5.cell (p := ⟨w2.heap.size, 1, none⟩) l3).trans a1; have h2 := (b5.cell (p := ⟨w2.heap.size, 2, none⟩) l3).trans a2; have h3 := (b5.cell (p := ⟨w2.heap.size, 3, none⟩) l3).trans a3; have h4 := (b5.cell (p := ⟨w2.heap.size, 4, none⟩) l3).trans a4; have h5 := (b5.cell (p := ⟨w2.heap.size, 5, none⟩) l3).trans a5; have hd5 : ∀ o, Below w5.heap.size w5 (w5.alloc o) := fun o => (Below.refl _ w5).alloc (Nat.le_refl _) o)
          | (go_at_call 51; (with_reducible refine (xehZ _).mono ?_); rintro e w5 ⟨v5, rfl, f5, k5, b5'⟩; have b5 : Below wc.heap.size wc w5 := xaeZ (hdA _) b5'; have q5 := (b5'.block wc.heap.size (xacZ (World.alloc_heap_new wc _))).trans (World.alloc_heap_new wc _); have Q5 := hideP q5; have m0 := xaaZ q5 0; have m1 := xaaZ q5 1; have m2 := xaaZ q5 2; have m3 := xaaZ q5 3; have m4 := xaaZ q5 4; have m5 := xaaZ q5 5; simp at m0 m1 m2 m3 m4 m5; have mz := Lib.frozen_of_heap q5; have mz0 := mz 0; have mz1 := mz 1; have mz2 := mz 2; have mz3 := mz 3; have mz4 := mz 4; have mz5 := mz 5; clear mz; clear b5' q5; have h0 := (b5.cell (p := ⟨w2.heap.size, 0, none⟩) l3).trans a0; have h1 := (b5.cell (p := ⟨w2.heap.size, 1, none⟩) l3).trans a1; have h2 := (b5.cell (p := ⟨w2.heap.size, 2, none⟩) l3).trans a2; have h3 := (b5.cell (p := ⟨w2.heap.size, 3, none⟩) l3).trans a3; have h4 := (b5.cell (p := ⟨w2.heap.size, 4, none⟩) l3).trans a4; have h5 := (b5.cell (p := ⟨w2.heap.size, 5, none⟩) l3).trans a5)
          | (go_at_call 23; (with_reducible refine (run_5 (w := w5) ⟨f5, k5, A3.out.below b5⟩ HCF.out).mono ?_); rintro e w6 ⟨nf, nb, ni, no, rfl, r6, b6'⟩; have b6 : Below wc.heap.size wc w6 := xaeZ b5 b6'; have nz : ¬ w2.heap.size = wc.heap.size := (by omega); have q6 := (b6'.block wc.heap.size (xacZ Q5.out)).trans Q5.out; have Q6 := hideP q6; clear m0 m1 m2 m3 m4 m5 mz0 mz1 mz2 mz3 mz4 mz5; have m0 := xaaZ q6 0; have m1 := xaaZ q6 1; have m2 := xaaZ q6 2; have m3 := xaaZ q6 3; have m4 := xaaZ q6 4; have m5 := xaaZ q6 5; simp at m0 m1 m2 m3 m4 m5; have mz := Lib.frozen_of_heap q6; have mz0 := mz 0; have mz1 := mz 1; have mz2 := mz 2; have mz3 := mz 3; have mz4 := mz 4; have mz5 := mz 5; clear mz; clear q6; have R6b : Hid (MRes w6 wc.heap.size _ _ _ _ _) := hideP (r6.low b5.size); obtain ⟨⟨qf, jf, hqf⟩, ⟨qb, jb, hqb⟩, ⟨qi, ji, hqi⟩, ⟨qo, jo, hqo⟩⟩ := xb8Z r6; subst hqf hqb hqi hqo; have R6 := hideP r6; clear r6; have g0 := (b6.cell (p := ⟨w2.heap.size, 0, none⟩) l3).trans a0; have g1 := (b6.cell (p := ⟨w2.heap.size, 1, none⟩) l3).trans a1; have g2 := (b6.cell (p := ⟨w2.heap.size, 2, none⟩) l3).trans a2; have g3 := (b6.cell (p := ⟨w2.heap.size, 3, none⟩) l3).trans a3; have g4 := (b6.cell (p := ⟨w2.heap.size, 4, none⟩) l3).trans a4; have g5 := (b6.cell (p := ⟨w2.heap.size, 5, none⟩) l3).trans a5)
          | (go_at_call 23; (with_reducible refine (run_5 (w := w5) ⟨f5, k5, A3.out.below b5⟩ HCF.out).mono ?_); rintro e w6 ⟨nf, nb, ni, no, rfl, r6, b6'⟩; have b6 : Below wc.heap.size wc w6 := xaeZ b5 b6'; have nz : ¬ w2.heap.size = w6.heap.size := (by have := b6.size; omega); have R6b : Hid (MRes w6 wc.heap.size _ _ _ _ _) := hideP (r6.low b5.size); obtain ⟨⟨qf, jf, hqf⟩, ⟨qb, jb, hqb⟩, ⟨qi, ji, hqi⟩, ⟨qo, jo, hqo⟩⟩ := xb8Z r6; subst hqf hqb hqi hqo; have R6 := hideP r6; clear r6; have g0 := (b6.cell (p := ⟨w2.heap.size, 0, none⟩) l3).trans a0; have g1 := (b6.cell (p := ⟨w2.heap.size, 1, none⟩) l3).trans a1; have g2 := (b6.cell (p := ⟨w2.heap.size, 2, none⟩) l3).trans a2; have g3 := (b6.cell (p := ⟨w2.heap.size, 3, none⟩) l3).trans a3; have g4 := (b6.cell (p := ⟨w2.heap.size, 4, none⟩) l3).trans a4; have g5 := (b6.cell (p := ⟨w2.heap.size, 5, none⟩) l3).trans a5)
          | (go_at_call 23; (with_reducible refine (run_5 (w := w5.alloc _) ⟨f5.below (hd5 _), k5.below f5 (hd5 _), A3.out.below (xaeZ b5 (hd5 _))⟩ HCF.out).mono ?_); rintro e w6 ⟨nf, nb, ni, no, rfl, r6, b6'⟩; have b6 : Below wc.heap.size wc w6 := xaeZ (xaeZ b5 (hd5 _)) b6'; have nz : ¬ w2.heap.size = w5.heap.size := (by have := b5.size; omega); have q6 := (b6'.block w5.heap.size (xacZ (World.alloc_heap_new w5 _))).trans (World.alloc_heap_new w5 _); have Q6 := hideP q6; have m0 := xaaZ q6 0; have m1 := xaaZ q6 1; have m2 := xaaZ q6 2; have m3 := xaaZ q6 3; have m4 := xaaZ q6 4; have m5 := xaaZ q6 5; simp at m0 m1 m2 m3 m4 m5; have mz := Lib.frozen_of_heap q6; have mz0 := mz 0; have mz1 := mz 1; have mz2 := mz 2; have mz3 := mz 3; have mz4 := mz 4; have mz5 := mz 5; clear mz; clear q6; have R6b : Hid (MRes w6 wc.heap.size _ _ _ _ _) := hideP (r6.low (Nat.le_trans b5.size (hd5 _).size)); obtain ⟨⟨qf, jf, hqf⟩, ⟨qb, jb, hqb⟩, ⟨qi, ji, hqi⟩, ⟨qo, jo, hqo⟩⟩ := xb8Z r6; subst hqf hqb hqi hqo; have R6 := hideP r6; clear r6; have g0 := (b6.cell (p := ⟨w2.heap.size, 0, none⟩) l3).trans a0; have g1 := (b6.cell (p := ⟨w2.heap.size, 1, none⟩) l3).trans a1; have g2 := (b6.cell (p := ⟨w2.heap.size, 2, none⟩) l3).trans a2; have g3 := (b6.cell (p := ⟨w2.heap.size, 3, none⟩) l3).trans a3; have g4 := (b6.cell (p := ⟨w2.heap.size, 4, none⟩) l3).trans a4; have g5 := (b6.cell (p := ⟨w2.heap.size, 5, none⟩) l3).trans a5))
      all_goals
        go_wp2_with fail
        go_meet
      · have hF := xkeZ R6b.out (by decide) b6
        exact ⟨_, _, _, _, _, rfl, rfl, rfl, hF⟩
      · have hF := xgjZ R6b.out (by decide) b6 Q6.out b5.size
        exact ⟨_, _, _, _, _, rfl, rfl, rfl, hF⟩
      · have hF := xgjZ R6b.out (by decide) b6 Q6.out (Nat.le_refl _)
        exact ⟨_, _, _, _, _, rfl, rfl, rfl, hF⟩
    case rest =>
      obtain ⟨z5, ef, eb, ei, eo, rfl, rfl, rfl, hz5, hA5, hb5⟩ := hcut
      have hz := (hb5.block z lz).trans HZ.out
      have hA := HA.out.below hb5
      have B5 := hideP (xaeZ B4.out hb5)
      have lz' := xacZ hz
      have lz5 := xacZ hz5
      obtain ⟨pe, ce, hpe, -, -, hfe⟩ := hA5.fr
      obtain ⟨ge, oe, le, se, rfl, hge, -, g1, -⟩ := hfe 0 _ rfl
      subst hpe
      simp at g1
      have x3 := xaaZ hz 3
      have x4 := xaaZ hz 4
      have y0 := xaaZ hz5 0
      have y4 := xaaZ hz5 4
      simp at x3 x4 y0 y4
      have HO := hideP hA.out
      have HCO : Hid (Calls Tryz.prog 52 #[.agg #[.int .i64 14, .int .i64 0]] wc fun e w' => e = .returned (.tuple #[.int .i64 3, .int .i64 0]) ∧ Below wc.heap.size wc w') := by
        have := xmgZ 14 0 wc
        rw [show chk 14 0 = 0 by decide, if_pos rfl, show costM 14 = 3 by decide] at this
        exact this
      have KX : Hid (∀ W, Below wc.heap.size wc W → W.cell? ⟨z, 3, none⟩ = some co ∧ W.cell? ⟨z, 4, none⟩ = some (.int .i64 doneM.status) ∧ W.cell? ⟨z5, 0, none⟩ = some (.slice (some ⟨ge, oe, none⟩) fiveM.frames.length ce) ∧ W.cell? ⟨z5, 4, none⟩ = some (.int .i64 fiveM.status) ∧ W.cell? ⟨ge, oe + 1, none⟩ = some (.int .i64 5)) := fun W hW => ⟨(hW.cell (p := ⟨z, 3, none⟩) lz').trans x3, (hW.cell (p := ⟨z, 4, none⟩) lz').trans x4, (hW.cell (p := ⟨z5, 0, none⟩) lz5).trans y0, (hW.cell (p := ⟨z5, 4, none⟩) lz5).trans y4, (hW.cell (p := ⟨ge, oe + 1, none⟩) hge).trans g1⟩
      clear hz hA hz5 hA5 hfe g1 x3 x4 y0 y4 HZ HA hb5 A3 a0 a1 a2 a3 a4 a5
      go_wp2_with fail
      refine HCO.out.mono ?_
      rintro e w7 ⟨rfl, b7⟩
      obtain ⟨x3, x4, y0, y4, g1⟩ := KX.out w7 b7
      have e1 : doneM.status = 2 := rfl
      have e2 : fiveM.status = 0 := rfl
      have e3 : fiveM.frames.length = 1 := rfl
      rw [e1] at x4
      rw [e2] at y4
      rw [e3] at y0
      clear e1 e2 e3
      have q9 := World.alloc_heap_new w7 (.cells #[.int .i64 3, .int .i64 2, .int .i64 1] 3)
      have a9 := (Below.refl w7.heap.size w7).alloc (Nat.le_refl _) (.cells #[.int .i64 3, .int .i64 2, .int .i64 1] 3)
      have HSI := hideP (xdjZ [3, 2, 1] [3, 2, 1] co _ (w7.alloc (.cells #[.int .i64 3, .int .i64 2, .int .i64 1] 3)) ((HO.out.at_.below b7).below a9) (xa8Z 3 3 q9 rfl (by unfold maxLen; decide)))
      have HQ9 := hideP a9
      clear q9 a9
      go_wp2_with fail
      refine HSI.out.mono ?_
      rintro e w8 ⟨rfl, b8⟩
      have b78 := xaeZ b7 (xaeZ HQ9.out b8)
      obtain ⟨x3', x4', y0', y4', g1'⟩ := KX.out w8 b78
      have e2 : fiveM.status = 0 := rfl
      have e3 : fiveM.frames.length = 1 := rfl
      rw [e2] at y4'
      rw [e3] at y0'
      clear e2 e3 x3 x4 y0 y4 g1
      go_wp2
      go_ret
      exact ⟨by simp, xaeZ B5.out b78⟩
end Go.Proofs.YtmjjkenblfndgaaGreat


