/- My texts Jj: what of them is needed, joined. -/

import Derived.Test.YtcadpoknolefpaaGreatF7
/- verify.behind. -/
namespace Go.Proofs.YtcadpoknolefpaaGreat
open Go.RowKit
set_option linter.unusedSimpArgs false
set_option linter.unusedVariables false
def CapAt (W : World) (v : Value) : Prop := ∀ (b off n cap k : Nat) (p' : Option Addr) (n' c' : Nat), v = .slice (some ⟨b, off, none⟩) n cap → k < n → W.cell? ⟨b, off + k * 4 + 1, none⟩ = some (.slice p' n' c') → n' ≤ c'
theorem CapAt.below {W W' : World} {v : Value} {l : List Fn} (h : CapAt W v) (hf : FnsAt W v l) (hb : Below W.heap.size W W') : CapAt W' v := by
  intro b off n cap k p' n' c' hv hk hc
  obtain ⟨p, cap2, rfl, hm, hcc⟩ := hf
  cases hv
  obtain ⟨f, hf⟩ := at_of_lt hk
  obtain ⟨b2, off2, c0, c1, c2, c3, hp, hlt, _⟩ := hcc k f hf
  cases hp
  rw [hb.cell (p := ⟨b, off + k * 4 + 1, none⟩) hlt] at hc
  exact h b off l.length cap k p' n' c' rfl hk hc
set_option maxRecDepth 100000 in
set_option maxHeartbeats 1000000 in
theorem behind2_any (c a : Int) (p : List Fn) (f : Fn) (s : List Int) (vs pv c0 c1 c2 c3 : Value) (w : World) (ho : OkOp p f (c, a)) (hs : s.length ≤ 8) (hvs : IntsAt w vs s) (hnil : NilOk vs) (hp : FnsAt w pv p) (hcp : CapAt w pv) (hf : FnAt w c0 c1 c2 c3 f) (hc : c = 2) : Calls Tryz.prog 143 #[.agg #[.int .i64 c, .int .i64 a], vs, .agg #[pv], .agg #[c0, c1, c2, c3]] w fun e w' => ∃ u, e = .returned (.tuple #[u, .bool (!(bhP p f (c, a) s).2)]) ∧ w'.ownsRow w.heap.size 3 1 u (bhP p f (c, a) s).1.length ((bhP p f (c, a) s).1.map (Value.int .i64)) ∧ Below w.heap.size w w' := by
  subst hc
  obtain ⟨P, L, r, C⟩ := f
  obtain ⟨rfl, hI, rfl, hO⟩ := id hf
  simp only at hI hO
  obtain ⟨p1, q1, rfl, _, hLc⟩ := id hI
  obtain ⟨p3, q3, rfl, _, _⟩ := id hO
  obtain ⟨pp, qp, rfl, _, hpc⟩ := id hp
  obtain ⟨ps, qs, rfl, _, _⟩ := id hvs
  obtain ⟨W3, hW3⟩ : ∃ W3, ((w.alloc (.cells #[.int .i64 2, .int .i64 a] 43)).alloc (.cells #[.slice pp p.length qp] 24)).alloc (.cells #[.int .i64 P, .slice p1 L.length q1, .int .i64 r, .slice p3 C.length q3] 78) = W3 := ⟨_, rfl⟩
  have hw3 : Below w.heap.size w W3 := by rw [← hW3]; exact (((Below.refl _ w).alloc (Nat.le_refl _) _).alloc (by simp) _).alloc (by simp; omega) _
  have x0 : W3.heap[w.heap.size]? = some (.cells #[.int .i64 2, .int .i64 a] 43 (0, 0)) := by rw [← hW3]; exact heap_old (heap_old (World.alloc_heap_new w _) _) _
  have x1 : W3.heap[w.heap.size + 1]? = some (.cells #[.slice pp p.length qp] 24 (0, 0)) := by rw [← hW3]; exact heap_old (new_two w _ _) _
  have x2 : W3.heap[w.heap.size + 1 + 1]? = some (.cells #[.int .i64 P, .slice p1 L.length q1, .int .i64 r, .slice p3 C.length q3] 78 (0, 0)) := by
    rw [← hW3]
    have := World.alloc_heap_new ((w.alloc (.cells #[.int .i64 2, .int .i64 a] 43)).alloc (.cells #[.slice pp p.length qp] 24)) (.cells #[.int .i64 P, .slice p1 L.length q1, .int .i64 r, .slice p3 C.length q3] 78)
    simpa using this
  have HVS := hideP (hvs.below hw3)
  have HNIL := hideP hnil
  have HCL := hideP (cloneInt_any s _ W3 HVS.out HNIL.out (by omega))
  have HP3 := hideP (hp.below hw3)
  have HC3 := hideP (hcp.below hp hw3)
  have HF3 := hideP (hf.below hw3)
  have HOK := hideP ho
  have X0 := hideP x0
  have X1 := hideP x1
  have X2 := hideP x2
  have HS8 := hideP hs
  clear ho hvs hnil hp hcp hf hI hO hLc hpc x0 x1 x2 hs
  go_enter Tryz.func143, Tryz.ntmps143
  go_wp2_with fail
  refine HCL.out.mono ?_
  rintro e w4 ⟨u4, rfl, r4, hb4⟩
  obtain ⟨p4, q4, rfl⟩ := row_shp r4
  obtain ⟨W5, hW5⟩ : ∃ W5, w4.alloc (.cells #[.slice p4 s.length q4, .bool false] 207) = W5 := ⟨_, rfl⟩
  have hb5 : Below W3.heap.size W3 W5 := by rw [← hW5]; exact hb4.alloc hb4.size _
  have y5 : W5.heap[w4.heap.size]? = some (.cells #[.slice p4 s.length q4, .bool false] 207 (0, 0)) := by rw [← hW5]; exact World.alloc_heap_new w4 _
  have hsz5 : W5.heap.size = w4.heap.size + 1 := by rw [← hW5]; simp
  have hsa : SA W5 w4.heap.size w.heap.size (s, false) := ⟨_, y5, by rw [← hW5]; exact (row_low r4 hw3.size).alloc _⟩
  have X05 := hideP ((hb4.block _ (heap_lt X0.out)).trans X0.out)
  have X15 := hideP ((hb4.block _ (heap_lt X1.out)).trans X1.out)
  have X25 := hideP ((hb4.block _ (heap_lt X2.out)).trans X2.out)
  have d0 := cell_at' X05.out 0
  have d1 := cell_at' X05.out 1
  have k0 := cell_at' X15.out 0
  have f0 := cell_at' X25.out 0
  have f1 := cell_at' X25.out 1
  have f2 := cell_at' X25.out 2
  have f3 := cell_at' X25.out 3
  simp at d0 d1 k0 f0 f1 f2 f3
  have d0 := fun o => cell_old d0 o
  have d1 := fun o => cell_old d1 o
  have k0 := fun o => cell_old k0 o
  have f0 := fun o => cell_old f0 o
  have f1 := fun o => cell_old f1 o
  have f2 := fun o => cell_old f2 o
  have f3 := fun o => cell_old f3 o
  have hB5 : w.heap.size ≤ W5.heap.size := Nat.le_trans hw3.size hb5.size
  have hBb : w.heap.size ≤ w4.heap.size := Nat.le_trans hw3.size hb4.size
  have hl5 : ((s, false) : St).1.length ≤ 100 := Nat.le_trans HS8.out (by omega)
  have hw5 : Below w.heap.size w W5 := hw3.trans (hb5.mono hw3.size)
  have HY5 := hideP y5
  have HW5 := hideP hW5
  have HSZ5 := hideP hsz5
  clear hsz5
  clear r4 y5 X0 X1 X2 X05 X15 X25 HCL HVS HNIL hW5
  go_wp2_with fail
  rw [HW5.out]
  refine (turn2_any (s, false) w4.heap.size w.heap.size W5 hsa hl5 hB5 hBb).mono ?_
  rintro e w6 ⟨rfl, h6, b6⟩
  obtain ⟨v6, q6, r6⟩ := h6
  have g0 := cell_at' q6 0
  have g1 := cell_at' q6 1
  simp at g0 g1
  obtain ⟨p6, c6, rfl⟩ := row_shp r6
  have HR6 := hideP r6
  clear r6 q6
  have hfin := hideP (show bhP p (P, L, r, C) (2, a) s = popS (s, false) from rfl)
  go_wp2_with fail
  go_quiet (fail)
  go_wp2
  go_ret2
  rw [hfin.out]
  refine ⟨_, rfl, ?_, (hw5.trans b6).trans ⟨rfl, rfl, rfl, Nat.le_refl _, fun _ _ => rfl⟩⟩
  exact HR6.out
set_option maxRecDepth 100000 in
set_option maxHeartbeats 1000000 in
theorem behind3_any (c a : Int) (p : List Fn) (f : Fn) (s : List Int) (vs pv c0 c1 c2 c3 : Value) (w : World) (ho : OkOp p f (c, a)) (hs : s.length ≤ 8) (hvs : IntsAt w vs s) (hnil : NilOk vs) (hp : FnsAt w pv p) (hcp : CapAt w pv) (hf : FnAt w c0 c1 c2 c3 f) (hc : c = 3) : Calls Tryz.prog 143 #[.agg #[.int .i64 c, .int .i64 a], vs, .agg #[pv], .agg #[c0, c1, c2, c3]] w fun e w' => ∃ u, e = .returned (.tuple #[u, .bool (!(bhP p f (c, a) s).2)]) ∧ w'.ownsRow w.heap.size 3 1 u (bhP p f (c, a) s).1.length ((bhP p f (c, a) s).1.map (Value.int .i64)) ∧ Below w.heap.size w w' := by
  subst hc
  obtain ⟨P, L, r, C⟩ := f
  obtain ⟨rfl, hI, rfl, hO⟩ := id hf
  simp only at hI hO
  obtain ⟨p1, q1, rfl, _, hLc⟩ := id hI
  obtain ⟨p3, q3, rfl, _, _⟩ := id hO
  obtain ⟨pp, qp, rfl, _, hpc⟩ := id hp
  obtain ⟨ps, qs, rfl, _, _⟩ := id hvs
  obtain ⟨W3, hW3⟩ : ∃ W3, ((w.alloc (.cells #[.int .i64 3, .int .i64 a] 43)).alloc (.cells #[.slice pp p.length qp] 24)).alloc (.cells #[.int .i64 P, .slice p1 L.length q1, .int .i64 r, .slice p3 C.length q3] 78) = W3 := ⟨_, rfl⟩
  have hw3 : Below w.heap.size w W3 := by rw [← hW3]; exact (((Below.refl _ w).alloc (Nat.le_refl _) _).alloc (by simp) _).alloc (by simp; omega) _
  have x0 : W3.heap[w.heap.size]? = some (.cells #[.int .i64 3, .int .i64 a] 43 (0, 0)) := by rw [← hW3]; exact heap_old (heap_old (World.alloc_heap_new w _) _) _
  have x1 : W3.heap[w.heap.size + 1]? = some (.cells #[.slice pp p.length qp] 24 (0, 0)) := by rw [← hW3]; exact heap_old (new_two w _ _) _
  have x2 : W3.heap[w.heap.size + 1 + 1]? = some (.cells #[.int .i64 P, .slice p1 L.length q1, .int .i64 r, .slice p3 C.length q3] 78 (0, 0)) := by
    rw [← hW3]
    have := World.alloc_heap_new ((w.alloc (.cells #[.int .i64 3, .int .i64 a] 43)).alloc (.cells #[.slice pp p.length qp] 24)) (.cells #[.int .i64 P, .slice p1 L.length q1, .int .i64 r, .slice p3 C.length q3] 78)
    simpa using this
  have HVS := hideP (hvs.below hw3)
  have HNIL := hideP hnil
  have HCL := hideP (cloneInt_any s _ W3 HVS.out HNIL.out (by omega))
  have HP3 := hideP (hp.below hw3)
  have HC3 := hideP (hcp.below hp hw3)
  have HF3 := hideP (hf.below hw3)
  have HOK := hideP ho
  have X0 := hideP x0
  have X1 := hideP x1
  have X2 := hideP x2
  have HS8 := hideP hs
  clear ho hvs hnil hp hcp hf hI hO hLc hpc x0 x1 x2 hs
  go_enter Tryz.func143, Tryz.ntmps143
  go_wp2_with fail
  refine HCL.out.mono ?_
  rintro e w4 ⟨u4, rfl, r4, hb4⟩
  obtain ⟨p4, q4, rfl⟩ := row_shp r4
  obtain ⟨W5, hW5⟩ : ∃ W5, w4.alloc (.cells #[.slice p4 s.length q4, .bool false] 207) = W5 := ⟨_, rfl⟩
  have hb5 : Below W3.heap.size W3 W5 := by rw [← hW5]; exact hb4.alloc hb4.size _
  have y5 : W5.heap[w4.heap.size]? = some (.cells #[.slice p4 s.length q4, .bool false] 207 (0, 0)) := by rw [← hW5]; exact World.alloc_heap_new w4 _
  have hsz5 : W5.heap.size = w4.heap.size + 1 := by rw [← hW5]; simp
  have hsa : SA W5 w4.heap.size w.heap.size (s, false) := ⟨_, y5, by rw [← hW5]; exact (row_low r4 hw3.size).alloc _⟩
  have X05 := hideP ((hb4.block _ (heap_lt X0.out)).trans X0.out)
  have X15 := hideP ((hb4.block _ (heap_lt X1.out)).trans X1.out)
  have X25 := hideP ((hb4.block _ (heap_lt X2.out)).trans X2.out)
  have d0 := cell_at' X05.out 0
  have d1 := cell_at' X05.out 1
  have k0 := cell_at' X15.out 0
  have f0 := cell_at' X25.out 0
  have f1 := cell_at' X25.out 1
  have f2 := cell_at' X25.out 2
  have f3 := cell_at' X25.out 3
  simp at d0 d1 k0 f0 f1 f2 f3
  have d0 := fun o => cell_old d0 o
  have d1 := fun o => cell_old d1 o
  have k0 := fun o => cell_old k0 o
  have f0 := fun o => cell_old f0 o
  have f1 := fun o => cell_old f1 o
  have f2 := fun o => cell_old f2 o
  have f3 := fun o => cell_old f3 o
  have hB5 : w.heap.size ≤ W5.heap.size := Nat.le_trans hw3.size hb5.size
  have hBb : w.heap.size ≤ w4.heap.size := Nat.le_trans hw3.size hb4.size
  have hl5 : ((s, false) : St).1.length ≤ 100 := Nat.le_trans HS8.out (by omega)
  have hw5 : Below w.heap.size w W5 := hw3.trans (hb5.mono hw3.size)
  have HY5 := hideP y5
  have HW5 := hideP hW5
  have HSZ5 := hideP hsz5
  clear hsz5
  clear r4 y5 X0 X1 X2 X05 X15 X25 HCL HVS HNIL hW5
  go_wp2_with fail
  rw [HW5.out]
  refine (turn3_any (s, false) w4.heap.size w.heap.size W5 hsa hl5 hB5 hBb).mono ?_
  rintro e w6 ⟨rfl, h6, b6⟩
  obtain ⟨v6, q6, r6⟩ := h6
  have g0 := cell_at' q6 0
  have g1 := cell_at' q6 1
  simp at g0 g1
  obtain ⟨p6, c6, rfl⟩ := row_shp r6
  have HR6 := hideP r6
  clear r6 q6
  have hfin := hideP (show bhP p (P, L, r, C) (3, a) s = lv (popS (s, false)) [topP s, topP s] from rfl)
  go_wp2_with fail
  go_quiet (fail)
  go_wp2
  go_ret2
  rw [hfin.out]
  refine ⟨_, rfl, ?_, (hw5.trans b6).trans ⟨rfl, rfl, rfl, Nat.le_refl _, fun _ _ => rfl⟩⟩
  exact HR6.out
set_option maxRecDepth 100000 in
set_option maxHeartbeats 1000000 in
theorem behind4_any (c a : Int) (p : List Fn) (f : Fn) (s : List Int) (vs pv c0 c1 c2 c3 : Value) (w : World) (ho : OkOp p f (c, a)) (hs : s.length ≤ 8) (hvs : IntsAt w vs s) (hnil : NilOk vs) (hp : FnsAt w pv p) (hcp : CapAt w pv) (hf : FnAt w c0 c1 c2 c3 f) (hc : c = 4) : Calls Tryz.prog 143 #[.agg #[.int .i64 c, .int .i64 a], vs, .agg #[pv], .agg #[c0, c1, c2, c3]] w fun e w' => ∃ u, e = .returned (.tuple #[u, .bool (!(bhP p f (c, a) s).2)]) ∧ w'.ownsRow w.heap.size 3 1 u (bhP p f (c, a) s).1.length ((bhP p f (c, a) s).1.map (Value.int .i64)) ∧ Below w.heap.size w w' := by
  subst hc
  obtain ⟨P, L, r, C⟩ := f
  obtain ⟨rfl, hI, rfl, hO⟩ := id hf
  simp only at hI hO
  obtain ⟨p1, q1, rfl, _, hLc⟩ := id hI
  obtain ⟨p3, q3, rfl, _, _⟩ := id hO
  obtain ⟨pp, qp, rfl, _, hpc⟩ := id hp
  obtain ⟨ps, qs, rfl, _, _⟩ := id hvs
  obtain ⟨W3, hW3⟩ : ∃ W3, ((w.alloc (.cells #[.int .i64 4, .int .i64 a] 43)).alloc (.cells #[.slice pp p.length qp] 24)).alloc (.cells #[.int .i64 P, .slice p1 L.length q1, .int .i64 r, .slice p3 C.length q3] 78) = W3 := ⟨_, rfl⟩
  have hw3 : Below w.heap.size w W3 := by rw [← hW3]; exact (((Below.refl _ w).alloc (Nat.le_refl _) _).alloc (by simp) _).alloc (by simp; omega) _
  have x0 : W3.heap[w.heap.size]? = some (.cells #[.int .i64 4, .int .i64 a] 43 (0, 0)) := by rw [← hW3]; exact heap_old (heap_old (World.alloc_heap_new w _) _) _
  have x1 : W3.heap[w.heap.size + 1]? = some (.cells #[.slice pp p.length qp] 24 (0, 0)) := by rw [← hW3]; exact heap_old (new_two w _ _) _
  have x2 : W3.heap[w.heap.size + 1 + 1]? = some (.cells #[.int .i64 P, .slice p1 L.length q1, .int .i64 r, .slice p3 C.length q3] 78 (0, 0)) := by
    rw [← hW3]
    have := World.alloc_heap_new ((w.alloc (.cells #[.int .i64 4, .int .i64 a] 43)).alloc (.cells #[.slice pp p.length qp] 24)) (.cells #[.int .i64 P, .slice p1 L.length q1, .int .i64 r, .slice p3 C.length q3] 78)
    simpa using this
  have HVS := hideP (hvs.below hw3)
  have HNIL := hideP hnil
  have HCL := hideP (cloneInt_any s _ W3 HVS.out HNIL.out (by omega))
  have HP3 := hideP (hp.below hw3)
  have HC3 := hideP (hcp.below hp hw3)
  have HF3 := hideP (hf.below hw3)
  have HOK := hideP ho
  have X0 := hideP x0
  have X1 := hideP x1
  have X2 := hideP x2
  have HS8 := hideP hs
  clear ho hvs hnil hp hcp hf hI hO hLc hpc x0 x1 x2 hs
  go_enter Tryz.func143, Tryz.ntmps143
  go_wp2_with fail
  refine HCL.out.mono ?_
  rintro e w4 ⟨u4, rfl, r4, hb4⟩
  obtain ⟨p4, q4, rfl⟩ := row_shp r4
  obtain ⟨W5, hW5⟩ : ∃ W5, w4.alloc (.cells #[.slice p4 s.length q4, .bool false] 207) = W5 := ⟨_, rfl⟩
  have hb5 : Below W3.heap.size W3 W5 := by rw [← hW5]; exact hb4.alloc hb4.size _
  have y5 : W5.heap[w4.heap.size]? = some (.cells #[.slice p4 s.length q4, .bool false] 207 (0, 0)) := by rw [← hW5]; exact World.alloc_heap_new w4 _
  have hsz5 : W5.heap.size = w4.heap.size + 1 := by rw [← hW5]; simp
  have hsa : SA W5 w4.heap.size w.heap.size (s, false) := ⟨_, y5, by rw [← hW5]; exact (row_low r4 hw3.size).alloc _⟩
  have X05 := hideP ((hb4.block _ (heap_lt X0.out)).trans X0.out)
  have X15 := hideP ((hb4.block _ (heap_lt X1.out)).trans X1.out)
  have X25 := hideP ((hb4.block _ (heap_lt X2.out)).trans X2.out)
  have d0 := cell_at' X05.out 0
  have d1 := cell_at' X05.out 1
  have k0 := cell_at' X15.out 0
  have f0 := cell_at' X25.out 0
  have f1 := cell_at' X25.out 1
  have f2 := cell_at' X25.out 2
  have f3 := cell_at' X25.out 3
  simp at d0 d1 k0 f0 f1 f2 f3
  have d0 := fun o => cell_old d0 o
  have d1 := fun o => cell_old d1 o
  have k0 := fun o => cell_old k0 o
  have f0 := fun o => cell_old f0 o
  have f1 := fun o => cell_old f1 o
  have f2 := fun o => cell_old f2 o
  have f3 := fun o => cell_old f3 o
  have hB5 : w.heap.size ≤ W5.heap.size := Nat.le_trans hw3.size hb5.size
  have hBb : w.heap.size ≤ w4.heap.size := Nat.le_trans hw3.size hb4.size
  have hl5 : ((s, false) : St).1.length ≤ 100 := Nat.le_trans HS8.out (by omega)
  have hw5 : Below w.heap.size w W5 := hw3.trans (hb5.mono hw3.size)
  have HY5 := hideP y5
  have HW5 := hideP hW5
  have HSZ5 := hideP hsz5
  clear hsz5
  clear r4 y5 X0 X1 X2 X05 X15 X25 HCL HVS HNIL hW5
  go_wp2_with fail
  rw [HW5.out]
  refine (turn4_any (s, false) w4.heap.size w.heap.size W5 hsa hl5 hB5 hBb).mono ?_
  rintro e w6 ⟨rfl, h6, b6⟩
  obtain ⟨v6, q6, r6⟩ := h6
  have g0 := cell_at' q6 0
  have g1 := cell_at' q6 1
  simp at g0 g1
  obtain ⟨p6, c6, rfl⟩ := row_shp r6
  have HR6 := hideP r6
  clear r6 q6
  have hfin := hideP (show bhP p (P, L, r, C) (4, a) s = lv (popS (popS (s, false))) [topP s, topP s.dropLast] from rfl)
  go_wp2_with fail
  go_quiet (fail)
  go_wp2
  go_ret2
  rw [hfin.out]
  refine ⟨_, rfl, ?_, (hw5.trans b6).trans ⟨rfl, rfl, rfl, Nat.le_refl _, fun _ _ => rfl⟩⟩
  exact HR6.out
set_option maxRecDepth 100000 in
set_option maxHeartbeats 1000000 in
theorem behind8_any (c a : Int) (p : List Fn) (f : Fn) (s : List Int) (vs pv c0 c1 c2 c3 : Value) (w : World) (ho : OkOp p f (c, a)) (hs : s.length ≤ 8) (hvs : IntsAt w vs s) (hnil : NilOk vs) (hp : FnsAt w pv p) (hcp : CapAt w pv) (hf : FnAt w c0 c1 c2 c3 f) (hc : c = 8) : Calls Tryz.prog 143 #[.agg #[.int .i64 c, .int .i64 a], vs, .agg #[pv], .agg #[c0, c1, c2, c3]] w fun e w' => ∃ u, e = .returned (.tuple #[u, .bool (!(bhP p f (c, a) s).2)]) ∧ w'.ownsRow w.heap.size 3 1 u (bhP p f (c, a) s).1.length ((bhP p f (c, a) s).1.map (Value.int .i64)) ∧ Below w.heap.size w w' := by
  subst hc
  obtain ⟨P, L, r, C⟩ := f
  obtain ⟨rfl, hI, rfl, hO⟩ := id hf
  simp only at hI hO
  obtain ⟨p1, q1, rfl, _, hLc⟩ := id hI
  obtain ⟨p3, q3, rfl, _, _⟩ := id hO
  obtain ⟨pp, qp, rfl, _, hpc⟩ := id hp
  obtain ⟨ps, qs, rfl, _, _⟩ := id hvs
  obtain ⟨W3, hW3⟩ : ∃ W3, ((w.alloc (.cells #[.int .i64 8, .int .i64 a] 43)).alloc (.cells #[.slice pp p.length qp] 24)).alloc (.cells #[.int .i64 P, .slice p1 L.length q1, .int .i64 r, .slice p3 C.length q3] 78) = W3 := ⟨_, rfl⟩
  have hw3 : Below w.heap.size w W3 := by rw [← hW3]; exact (((Below.refl _ w).alloc (Nat.le_refl _) _).alloc (by simp) _).alloc (by simp; omega) _
  have x0 : W3.heap[w.heap.size]? = some (.cells #[.int .i64 8, .int .i64 a] 43 (0, 0)) := by rw [← hW3]; exact heap_old (heap_old (World.alloc_heap_new w _) _) _
  have x1 : W3.heap[w.heap.size + 1]? = some (.cells #[.slice pp p.length qp] 24 (0, 0)) := by rw [← hW3]; exact heap_old (new_two w _ _) _
  have x2 : W3.heap[w.heap.size + 1 + 1]? = some (.cells #[.int .i64 P, .slice p1 L.length q1, .int .i64 r, .slice p3 C.length q3] 78 (0, 0)) := by
    rw [← hW3]
    have := World.alloc_heap_new ((w.alloc (.cells #[.int .i64 8, .int .i64 a] 43)).alloc (.cells #[.slice pp p.length qp] 24)) (.cells #[.int .i64 P, .slice p1 L.length q1, .int .i64 r, .slice p3 C.length q3] 78)
    simpa using this
  have HVS := hideP (hvs.below hw3)
  have HNIL := hideP hnil
  have HCL := hideP (cloneInt_any s _ W3 HVS.out HNIL.out (by omega))
  have HP3 := hideP (hp.below hw3)
  have HC3 := hideP (hcp.below hp hw3)
  have HF3 := hideP (hf.below hw3)
  have HOK := hideP ho
  have X0 := hideP x0
  have X1 := hideP x1
  have X2 := hideP x2
  have HS8 := hideP hs
  clear ho hvs hnil hp hcp hf hI hO hLc hpc x0 x1 x2 hs
  go_enter Tryz.func143, Tryz.ntmps143
  go_wp2_with fail
  refine HCL.out.mono ?_
  rintro e w4 ⟨u4, rfl, r4, hb4⟩
  obtain ⟨p4, q4, rfl⟩ := row_shp r4
  obtain ⟨W5, hW5⟩ : ∃ W5, w4.alloc (.cells #[.slice p4 s.length q4, .bool false] 207) = W5 := ⟨_, rfl⟩
  have hb5 : Below W3.heap.size W3 W5 := by rw [← hW5]; exact hb4.alloc hb4.size _
  have y5 : W5.heap[w4.heap.size]? = some (.cells #[.slice p4 s.length q4, .bool false] 207 (0, 0)) := by rw [← hW5]; exact World.alloc_heap_new w4 _
  have hsz5 : W5.heap.size = w4.heap.size + 1 := by rw [← hW5]; simp
  have hsa : SA W5 w4.heap.size w.heap.size (s, false) := ⟨_, y5, by rw [← hW5]; exact (row_low r4 hw3.size).alloc _⟩
  have X05 := hideP ((hb4.block _ (heap_lt X0.out)).trans X0.out)
  have X15 := hideP ((hb4.block _ (heap_lt X1.out)).trans X1.out)
  have X25 := hideP ((hb4.block _ (heap_lt X2.out)).trans X2.out)
  have d0 := cell_at' X05.out 0
  have d1 := cell_at' X05.out 1
  have k0 := cell_at' X15.out 0
  have f0 := cell_at' X25.out 0
  have f1 := cell_at' X25.out 1
  have f2 := cell_at' X25.out 2
  have f3 := cell_at' X25.out 3
  simp at d0 d1 k0 f0 f1 f2 f3
  have d0 := fun o => cell_old d0 o
  have d1 := fun o => cell_old d1 o
  have k0 := fun o => cell_old k0 o
  have f0 := fun o => cell_old f0 o
  have f1 := fun o => cell_old f1 o
  have f2 := fun o => cell_old f2 o
  have f3 := fun o => cell_old f3 o
  have hB5 : w.heap.size ≤ W5.heap.size := Nat.le_trans hw3.size hb5.size
  have hBb : w.heap.size ≤ w4.heap.size := Nat.le_trans hw3.size hb4.size
  have hl5 : ((s, false) : St).1.length ≤ 100 := Nat.le_trans HS8.out (by omega)
  have hw5 : Below w.heap.size w W5 := hw3.trans (hb5.mono hw3.size)
  have HY5 := hideP y5
  have HW5 := hideP hW5
  have HSZ5 := hideP hsz5
  clear hsz5
  clear r4 y5 X0 X1 X2 X05 X15 X25 HCL HVS HNIL hW5
  have hloc := HOK.out.loc (by simp)
  simp only at hloc
  obtain ⟨k, rfl⟩ : ∃ k : Nat, a = k := ⟨a.toNat, by omega⟩
  have hk : k < L.length := by omega
  obtain ⟨t, ht⟩ := at_of_lt hk
  obtain ⟨pL, qL, heL, _, hcL⟩ := HF3.out.2.1
  cases heL
  obtain ⟨bL, oL, hpL, hbL, gL⟩ := hcL k t ht
  subst hpL
  have gL5 := fun o => cell_old ((hb4.cell (p := ⟨bL, oL + k, none⟩) hbL).trans gL) o
  have hkL : (k : Int) < (L.length : Int) := by omega
  have htd : L.getD k 0 = t := by rw [List.getD_eq_getElem?_getD, ht]; rfl
  have HTD := hideP htd
  clear ht hcL gL hloc htd
  go_wp2_with fail
  rw [HW5.out]
  have qn : (W5.alloc (.cells #[.int .i64 t] 3)).heap[w4.heap.size + 1]? = some (.cells #[.int .i64 t] 3 (0, 0)) := by rw [← HSZ5.out]; exact World.alloc_heap_new W5 _
  have an := (Below.refl W5.heap.size W5).alloc (Nat.le_refl _) (.cells #[.int .i64 t] 3)
  refine (lvS_any (s, false) [t] w4.heap.size w.heap.size _ _ (hsa.kept an) (ints_lit 1 1 qn rfl (by unfold maxLen; simp)) (nilOk_some _ _ _) hl5 (by simp) (Nat.le_trans hB5 an.size) hBb).mono ?_
  rintro e w6 ⟨rfl, h6, b6'⟩
  have b6 := (an.mono hB5).trans b6'
  clear qn an b6'
  obtain ⟨v6, q6, r6⟩ := h6
  have g0 := cell_at' q6 0
  have g1 := cell_at' q6 1
  simp at g0 g1
  obtain ⟨p6, c6, rfl⟩ := row_shp r6
  have HR6 := hideP r6
  clear r6 q6
  have hfin := hideP (show bhP p (P, L, r, C) (8, (k : Int)) s = lv (s, false) [t] by rw [← HTD.out]; rfl)
  go_wp2_with fail
  go_quiet (fail)
  go_wp2
  go_ret2
  rw [hfin.out]
  refine ⟨_, rfl, ?_, (hw5.trans b6).trans ⟨rfl, rfl, rfl, Nat.le_refl _, fun _ _ => rfl⟩⟩
  exact HR6.out
set_option maxRecDepth 100000 in
set_option maxHeartbeats 1000000 in
theorem behind9_any (c a : Int) (p : List Fn) (f : Fn) (s : List Int) (vs pv c0 c1 c2 c3 : Value) (w : World) (ho : OkOp p f (c, a)) (hs : s.length ≤ 8) (hvs : IntsAt w vs s) (hnil : NilOk vs) (hp : FnsAt w pv p) (hcp : CapAt w pv) (hf : FnAt w c0 c1 c2 c3 f) (hc : c = 9) : Calls Tryz.prog 143 #[.agg #[.int .i64 c, .int .i64 a], vs, .agg #[pv], .agg #[c0, c1, c2, c3]] w fun e w' => ∃ u, e = .returned (.tuple #[u, .bool (!(bhP p f (c, a) s).2)]) ∧ w'.ownsRow w.heap.size 3 1 u (bhP p f (c, a) s).1.length ((bhP p f (c, a) s).1.map (Value.int .i64)) ∧ Below w.heap.size w w' := by
  subst hc
  obtain ⟨P, L, r, C⟩ := f
  obtain ⟨rfl, hI, rfl, hO⟩ := id hf
  simp only at hI hO
  obtain ⟨p1, q1, rfl, _, hLc⟩ := id hI
  obtain ⟨p3, q3, rfl, _, _⟩ := id hO
  obtain ⟨pp, qp, rfl, _, hpc⟩ := id hp
  obtain ⟨ps, qs, rfl, _, _⟩ := id hvs
  obtain ⟨W3, hW3⟩ : ∃ W3, ((w.alloc (.cells #[.int .i64 9, .int .i64 a] 43)).alloc (.cells #[.slice pp p.length qp] 24)).alloc (.cells #[.int .i64 P, .slice p1 L.length q1, .int .i64 r, .slice p3 C.length q3] 78) = W3 := ⟨_, rfl⟩
  have hw3 : Below w.heap.size w W3 := by rw [← hW3]; exact (((Below.refl _ w).alloc (Nat.le_refl _) _).alloc (by simp) _).alloc (by simp; omega) _
  have x0 : W3.heap[w.heap.size]? = some (.cells #[.int .i64 9, .int .i64 a] 43 (0, 0)) := by rw [← hW3]; exact heap_old (heap_old (World.alloc_heap_new w _) _) _
  have x1 : W3.heap[w.heap.size + 1]? = some (.cells #[.slice pp p.length qp] 24 (0, 0)) := by rw [← hW3]; exact heap_old (new_two w _ _) _
  have x2 : W3.heap[w.heap.size + 1 + 1]? = some (.cells #[.int .i64 P, .slice p1 L.length q1, .int .i64 r, .slice p3 C.length q3] 78 (0, 0)) := by
    rw [← hW3]
    have := World.alloc_heap_new ((w.alloc (.cells #[.int .i64 9, .int .i64 a] 43)).alloc (.cells #[.slice pp p.length qp] 24)) (.cells #[.int .i64 P, .slice p1 L.length q1, .int .i64 r, .slice p3 C.length q3] 78)
    simpa using this
  have HVS := hideP (hvs.below hw3)
  have HNIL := hideP hnil
  have HCL := hideP (cloneInt_any s _ W3 HVS.out HNIL.out (by omega))
  have HP3 := hideP (hp.below hw3)
  have HC3 := hideP (hcp.below hp hw3)
  have HF3 := hideP (hf.below hw3)
  have HOK := hideP ho
  have X0 := hideP x0
  have X1 := hideP x1
  have X2 := hideP x2
  have HS8 := hideP hs
  clear ho hvs hnil hp hcp hf hI hO hLc hpc x0 x1 x2 hs
  go_enter Tryz.func143, Tryz.ntmps143
  go_wp2_with fail
  refine HCL.out.mono ?_
  rintro e w4 ⟨u4, rfl, r4, hb4⟩
  obtain ⟨p4, q4, rfl⟩ := row_shp r4
  obtain ⟨W5, hW5⟩ : ∃ W5, w4.alloc (.cells #[.slice p4 s.length q4, .bool false] 207) = W5 := ⟨_, rfl⟩
  have hb5 : Below W3.heap.size W3 W5 := by rw [← hW5]; exact hb4.alloc hb4.size _
  have y5 : W5.heap[w4.heap.size]? = some (.cells #[.slice p4 s.length q4, .bool false] 207 (0, 0)) := by rw [← hW5]; exact World.alloc_heap_new w4 _
  have hsz5 : W5.heap.size = w4.heap.size + 1 := by rw [← hW5]; simp
  have hsa : SA W5 w4.heap.size w.heap.size (s, false) := ⟨_, y5, by rw [← hW5]; exact (row_low r4 hw3.size).alloc _⟩
  have X05 := hideP ((hb4.block _ (heap_lt X0.out)).trans X0.out)
  have X15 := hideP ((hb4.block _ (heap_lt X1.out)).trans X1.out)
  have X25 := hideP ((hb4.block _ (heap_lt X2.out)).trans X2.out)
  have d0 := cell_at' X05.out 0
  have d1 := cell_at' X05.out 1
  have k0 := cell_at' X15.out 0
  have f0 := cell_at' X25.out 0
  have f1 := cell_at' X25.out 1
  have f2 := cell_at' X25.out 2
  have f3 := cell_at' X25.out 3
  simp at d0 d1 k0 f0 f1 f2 f3
  have d0 := fun o => cell_old d0 o
  have d1 := fun o => cell_old d1 o
  have k0 := fun o => cell_old k0 o
  have f0 := fun o => cell_old f0 o
  have f1 := fun o => cell_old f1 o
  have f2 := fun o => cell_old f2 o
  have f3 := fun o => cell_old f3 o
  have hB5 : w.heap.size ≤ W5.heap.size := Nat.le_trans hw3.size hb5.size
  have hBb : w.heap.size ≤ w4.heap.size := Nat.le_trans hw3.size hb4.size
  have hl5 : ((s, false) : St).1.length ≤ 100 := Nat.le_trans HS8.out (by omega)
  have hw5 : Below w.heap.size w W5 := hw3.trans (hb5.mono hw3.size)
  have HY5 := hideP y5
  have HW5 := hideP hW5
  have HSZ5 := hideP hsz5
  clear hsz5
  clear r4 y5 X0 X1 X2 X05 X15 X25 HCL HVS HNIL hW5
  have hloc := HOK.out.loc (by simp)
  simp only at hloc
  obtain ⟨k, rfl⟩ : ∃ k : Nat, a = k := ⟨a.toNat, by omega⟩
  have hk : k < L.length := by omega
  obtain ⟨t, ht⟩ := at_of_lt hk
  obtain ⟨pL, qL, heL, _, hcL⟩ := HF3.out.2.1
  cases heL
  obtain ⟨bL, oL, hpL, hbL, gL⟩ := hcL k t ht
  subst hpL
  have gL5 := fun o => cell_old ((hb4.cell (p := ⟨bL, oL + k, none⟩) hbL).trans gL) o
  have hkL : (k : Int) < (L.length : Int) := by omega
  have htd : L.getD k 0 = t := by rw [List.getD_eq_getElem?_getD, ht]; rfl
  have HTD := hideP htd
  clear ht hcL gL hloc htd
  go_wp2_with fail
  rw [HW5.out]
  have qn : (W5.alloc (.cells #[.int .i64 t] 3)).heap[w4.heap.size + 1]? = some (.cells #[.int .i64 t] 3 (0, 0)) := by rw [← HSZ5.out]; exact World.alloc_heap_new W5 _
  have an := (Below.refl W5.heap.size W5).alloc (Nat.le_refl _) (.cells #[.int .i64 t] 3)
  refine (tkS_any (s, false) [t] w4.heap.size w.heap.size _ _ (hsa.kept an) (ints_lit 1 1 qn rfl (by unfold maxLen; simp)) hl5 (by simp) (Nat.le_trans hB5 an.size) hBb).mono ?_
  rintro e w6 ⟨rfl, h6, b6'⟩
  have b6 := (an.mono hB5).trans b6'
  clear qn an b6'
  obtain ⟨v6, q6, r6⟩ := h6
  have g0 := cell_at' q6 0
  have g1 := cell_at' q6 1
  simp at g0 g1
  obtain ⟨p6, c6, rfl⟩ := row_shp r6
  have HR6 := hideP r6
  clear r6 q6
  have hfin := hideP (show bhP p (P, L, r, C) (9, (k : Int)) s = tk (s, false) [t] by rw [← HTD.out]; rfl)
  go_wp2_with fail
  go_quiet (fail)
  go_wp2
  go_ret2
  rw [hfin.out]
  refine ⟨_, rfl, ?_, (hw5.trans b6).trans ⟨rfl, rfl, rfl, Nat.le_refl _, fun _ _ => rfl⟩⟩
  exact HR6.out
set_option maxRecDepth 100000 in
set_option maxHeartbeats 1000000 in
theorem behind12_any (c a : Int) (p : List Fn) (f : Fn) (s : List Int) (vs pv c0 c1 c2 c3 : Value) (w : World) (ho : OkOp p f (c, a)) (hs : s.length ≤ 8) (hvs : IntsAt w vs s) (hnil : NilOk vs) (hp : FnsAt w pv p) (hcp : CapAt w pv) (hf : FnAt w c0 c1 c2 c3 f) (hc : c = 12) : Calls Tryz.prog 143 #[.agg #[.int .i64 c, .int .i64 a], vs, .agg #[pv], .agg #[c0, c1, c2, c3]] w fun e w' => ∃ u, e = .returned (.tuple #[u, .bool (!(bhP p f (c, a) s).2)]) ∧ w'.ownsRow w.heap.size 3 1 u (bhP p f (c, a) s).1.length ((bhP p f (c, a) s).1.map (Value.int .i64)) ∧ Below w.heap.size w w' := by
  subst hc
  obtain ⟨P, L, r, C⟩ := f
  obtain ⟨rfl, hI, rfl, hO⟩ := id hf
  simp only at hI hO
  obtain ⟨p1, q1, rfl, _, hLc⟩ := id hI
  obtain ⟨p3, q3, rfl, _, _⟩ := id hO
  obtain ⟨pp, qp, rfl, _, hpc⟩ := id hp
  obtain ⟨ps, qs, rfl, _, _⟩ := id hvs
  obtain ⟨W3, hW3⟩ : ∃ W3, ((w.alloc (.cells #[.int .i64 12, .int .i64 a] 43)).alloc (.cells #[.slice pp p.length qp] 24)).alloc (.cells #[.int .i64 P, .slice p1 L.length q1, .int .i64 r, .slice p3 C.length q3] 78) = W3 := ⟨_, rfl⟩
  have hw3 : Below w.heap.size w W3 := by rw [← hW3]; exact (((Below.refl _ w).alloc (Nat.le_refl _) _).alloc (by simp) _).alloc (by simp; omega) _
  have x0 : W3.heap[w.heap.size]? = some (.cells #[.int .i64 12, .int .i64 a] 43 (0, 0)) := by rw [← hW3]; exact heap_old (heap_old (World.alloc_heap_new w _) _) _
  have x1 : W3.heap[w.heap.size + 1]? = some (.cells #[.slice pp p.length qp] 24 (0, 0)) := by rw [← hW3]; exact heap_old (new_two w _ _) _
  have x2 : W3.heap[w.heap.size + 1 + 1]? = some (.cells #[.int .i64 P, .slice p1 L.length q1, .int .i64 r, .slice p3 C.length q3] 78 (0, 0)) := by
    rw [← hW3]
    have := World.alloc_heap_new ((w.alloc (.cells #[.int .i64 12, .int .i64 a] 43)).alloc (.cells #[.slice pp p.length qp] 24)) (.cells #[.int .i64 P, .slice p1 L.length q1, .int .i64 r, .slice p3 C.length q3] 78)
    simpa using this
  have HVS := hideP (hvs.below hw3)
  have HNIL := hideP hnil
  have HCL := hideP (cloneInt_any s _ W3 HVS.out HNIL.out (by omega))
  have HP3 := hideP (hp.below hw3)
  have HC3 := hideP (hcp.below hp hw3)
  have HF3 := hideP (hf.below hw3)
  have HOK := hideP ho
  have X0 := hideP x0
  have X1 := hideP x1
  have X2 := hideP x2
  have HS8 := hideP hs
  clear ho hvs hnil hp hcp hf hI hO hLc hpc x0 x1 x2 hs
  go_enter Tryz.func143, Tryz.ntmps143
  go_wp2_with fail
  refine HCL.out.mono ?_
  rintro e w4 ⟨u4, rfl, r4, hb4⟩
  obtain ⟨p4, q4, rfl⟩ := row_shp r4
  obtain ⟨W5, hW5⟩ : ∃ W5, w4.alloc (.cells #[.slice p4 s.length q4, .bool false] 207) = W5 := ⟨_, rfl⟩
  have hb5 : Below W3.heap.size W3 W5 := by rw [← hW5]; exact hb4.alloc hb4.size _
  have y5 : W5.heap[w4.heap.size]? = some (.cells #[.slice p4 s.length q4, .bool false] 207 (0, 0)) := by rw [← hW5]; exact World.alloc_heap_new w4 _
  have hsz5 : W5.heap.size = w4.heap.size + 1 := by rw [← hW5]; simp
  have hsa : SA W5 w4.heap.size w.heap.size (s, false) := ⟨_, y5, by rw [← hW5]; exact (row_low r4 hw3.size).alloc _⟩
  have X05 := hideP ((hb4.block _ (heap_lt X0.out)).trans X0.out)
  have X15 := hideP ((hb4.block _ (heap_lt X1.out)).trans X1.out)
  have X25 := hideP ((hb4.block _ (heap_lt X2.out)).trans X2.out)
  have d0 := cell_at' X05.out 0
  have d1 := cell_at' X05.out 1
  have k0 := cell_at' X15.out 0
  have f0 := cell_at' X25.out 0
  have f1 := cell_at' X25.out 1
  have f2 := cell_at' X25.out 2
  have f3 := cell_at' X25.out 3
  simp at d0 d1 k0 f0 f1 f2 f3
  have d0 := fun o => cell_old d0 o
  have d1 := fun o => cell_old d1 o
  have k0 := fun o => cell_old k0 o
  have f0 := fun o => cell_old f0 o
  have f1 := fun o => cell_old f1 o
  have f2 := fun o => cell_old f2 o
  have f3 := fun o => cell_old f3 o
  have hB5 : w.heap.size ≤ W5.heap.size := Nat.le_trans hw3.size hb5.size
  have hBb : w.heap.size ≤ w4.heap.size := Nat.le_trans hw3.size hb4.size
  have hl5 : ((s, false) : St).1.length ≤ 100 := Nat.le_trans HS8.out (by omega)
  have hw5 : Below w.heap.size w W5 := hw3.trans (hb5.mono hw3.size)
  have HY5 := hideP y5
  have HW5 := hideP hW5
  have HSZ5 := hideP hsz5
  clear hsz5
  clear r4 y5 X0 X1 X2 X05 X15 X25 HCL HVS HNIL hW5
  have hcall := HOK.out.call rfl
  simp only at hcall
  obtain ⟨k, rfl⟩ : ∃ k : Nat, a = k := ⟨a.toNat, by omega⟩
  have hk : k < p.length := by omega
  obtain ⟨g, hg⟩ := at_of_lt hk
  have hgo := HOK.out.fns g (List.mem_of_getElem? hg)
  obtain ⟨pF, qF, heF, _, hcF⟩ := HP3.out
  cases heF
  obtain ⟨bF, oF, e0, e1, e2, e3, hpF, hbF, y0, y1, y2, y3, hfn⟩ := hcF k g hg
  subst hpF
  have z0 := fun o => cell_old ((hb4.cell (p := ⟨bF, oF + k * 4, none⟩) hbF).trans y0) o
  have z1 := fun o => cell_old ((hb4.cell (p := ⟨bF, oF + k * 4 + 1, none⟩) hbF).trans y1) o
  have z2 := fun o => cell_old ((hb4.cell (p := ⟨bF, oF + k * 4 + 2, none⟩) hbF).trans y2) o
  have z3 := fun o => cell_old ((hb4.cell (p := ⟨bF, oF + k * 4 + 3, none⟩) hbF).trans y3) o
  have hfn5 := hfn.below hb5
  have hcapg : ∀ p n c, e1 = .slice p n c → n ≤ c := fun p' n' c' he => HC3.out bF oF _ _ k p' n' c' rfl hk (by rw [y1, he])
  have HG := hideP hg
  have hkp : (k : Int) < (p.length : Int) := by omega
  have HCALL := hideP (call_any g e0 e1 e2 e3 (s, false) w4.heap.size w.heap.size W5 hsa hl5 hB5 hBb hfn5 ⟨hgo.1, hgo.2.1⟩ hgo.2.2.1 hcapg)
  obtain ⟨hh0, ⟨pg1, qg1, hh1, _, _⟩, hh2, ⟨pg3, qg3, hh3, _, _⟩⟩ := id hfn5
  subst hh0 hh1 hh2 hh3
  clear hcF hg y0 y1 y2 y3 hfn hfn5 hcapg hcall hgo
  go_wp2_with fail
  rw [HW5.out]
  refine HCALL.out.mono ?_
  rintro e w6 ⟨rfl, h6, b6⟩
  obtain ⟨v6, q6, r6⟩ := h6
  have g0 := cell_at' q6 0
  have g1 := cell_at' q6 1
  simp at g0 g1
  obtain ⟨p6, c6, rfl⟩ := row_shp r6
  have HR6 := hideP r6
  clear r6 q6
  have hfin := hideP (show bhP p (P, L, r, C) (12, (k : Int)) s = lv (tk (s, false) (g.2.1.take g.1.toNat)) (resL g) by simp [bhP, HG.out])
  go_wp2_with fail
  go_quiet (fail)
  go_wp2
  go_ret2
  rw [hfin.out]
  refine ⟨_, rfl, ?_, (hw5.trans b6).trans ⟨rfl, rfl, rfl, Nat.le_refl _, fun _ _ => rfl⟩⟩
  exact HR6.out
set_option maxRecDepth 100000 in
set_option maxHeartbeats 1000000 in
theorem behind13_any (c a : Int) (p : List Fn) (f : Fn) (s : List Int) (vs pv c0 c1 c2 c3 : Value) (w : World) (ho : OkOp p f (c, a)) (hs : s.length ≤ 8) (hvs : IntsAt w vs s) (hnil : NilOk vs) (hp : FnsAt w pv p) (hcp : CapAt w pv) (hf : FnAt w c0 c1 c2 c3 f) (hc : c = 13) : Calls Tryz.prog 143 #[.agg #[.int .i64 c, .int .i64 a], vs, .agg #[pv], .agg #[c0, c1, c2, c3]] w fun e w' => ∃ u, e = .returned (.tuple #[u, .bool (!(bhP p f (c, a) s).2)]) ∧ w'.ownsRow w.heap.size 3 1 u (bhP p f (c, a) s).1.length ((bhP p f (c, a) s).1.map (Value.int .i64)) ∧ Below w.heap.size w w' := by
  subst hc
  obtain ⟨P, L, r, C⟩ := f
  obtain ⟨rfl, hI, rfl, hO⟩ := id hf
  simp only at hI hO
  obtain ⟨p1, q1, rfl, _, hLc⟩ := id hI
  obtain ⟨p3, q3, rfl, _, _⟩ := id hO
  obtain ⟨pp, qp, rfl, _, hpc⟩ := id hp
  obtain ⟨ps, qs, rfl, _, _⟩ := id hvs
  obtain ⟨W3, hW3⟩ : ∃ W3, ((w.alloc (.cells #[.int .i64 13, .int .i64 a] 43)).alloc (.cells #[.slice pp p.length qp] 24)).alloc (.cells #[.int .i64 P, .slice p1 L.length q1, .int .i64 r, .slice p3 C.length q3] 78) = W3 := ⟨_, rfl⟩
  have hw3 : Below w.heap.size w W3 := by rw [← hW3]; exact (((Below.refl _ w).alloc (Nat.le_refl _) _).alloc (by simp) _).alloc (by simp; omega) _
  have x0 : W3.heap[w.heap.size]? = some (.cells #[.int .i64 13, .int .i64 a] 43 (0, 0)) := by rw [← hW3]; exact heap_old (heap_old (World.alloc_heap_new w _) _) _
  have x1 : W3.heap[w.heap.size + 1]? = some (.cells #[.slice pp p.length qp] 24 (0, 0)) := by rw [← hW3]; exact heap_old (new_two w _ _) _
  have x2 : W3.heap[w.heap.size + 1 + 1]? = some (.cells #[.int .i64 P, .slice p1 L.length q1, .int .i64 r, .slice p3 C.length q3] 78 (0, 0)) := by
    rw [← hW3]
    have := World.alloc_heap_new ((w.alloc (.cells #[.int .i64 13, .int .i64 a] 43)).alloc (.cells #[.slice pp p.length qp] 24)) (.cells #[.int .i64 P, .slice p1 L.length q1, .int .i64 r, .slice p3 C.length q3] 78)
    simpa using this
  have HVS := hideP (hvs.below hw3)
  have HNIL := hideP hnil
  have HCL := hideP (cloneInt_any s _ W3 HVS.out HNIL.out (by omega))
  have HP3 := hideP (hp.below hw3)
  have HC3 := hideP (hcp.below hp hw3)
  have HF3 := hideP (hf.below hw3)
  have HOK := hideP ho
  have X0 := hideP x0
  have X1 := hideP x1
  have X2 := hideP x2
  have HS8 := hideP hs
  clear ho hvs hnil hp hcp hf hI hO hLc hpc x0 x1 x2 hs
  go_enter Tryz.func143, Tryz.ntmps143
  go_wp2_with fail
  refine HCL.out.mono ?_
  rintro e w4 ⟨u4, rfl, r4, hb4⟩
  obtain ⟨p4, q4, rfl⟩ := row_shp r4
  obtain ⟨W5, hW5⟩ : ∃ W5, w4.alloc (.cells #[.slice p4 s.length q4, .bool false] 207) = W5 := ⟨_, rfl⟩
  have hb5 : Below W3.heap.size W3 W5 := by rw [← hW5]; exact hb4.alloc hb4.size _
  have y5 : W5.heap[w4.heap.size]? = some (.cells #[.slice p4 s.length q4, .bool false] 207 (0, 0)) := by rw [← hW5]; exact World.alloc_heap_new w4 _
  have hsz5 : W5.heap.size = w4.heap.size + 1 := by rw [← hW5]; simp
  have hsa : SA W5 w4.heap.size w.heap.size (s, false) := ⟨_, y5, by rw [← hW5]; exact (row_low r4 hw3.size).alloc _⟩
  have X05 := hideP ((hb4.block _ (heap_lt X0.out)).trans X0.out)
  have X15 := hideP ((hb4.block _ (heap_lt X1.out)).trans X1.out)
  have X25 := hideP ((hb4.block _ (heap_lt X2.out)).trans X2.out)
  have d0 := cell_at' X05.out 0
  have d1 := cell_at' X05.out 1
  have k0 := cell_at' X15.out 0
  have f0 := cell_at' X25.out 0
  have f1 := cell_at' X25.out 1
  have f2 := cell_at' X25.out 2
  have f3 := cell_at' X25.out 3
  simp at d0 d1 k0 f0 f1 f2 f3
  have d0 := fun o => cell_old d0 o
  have d1 := fun o => cell_old d1 o
  have k0 := fun o => cell_old k0 o
  have f0 := fun o => cell_old f0 o
  have f1 := fun o => cell_old f1 o
  have f2 := fun o => cell_old f2 o
  have f3 := fun o => cell_old f3 o
  have hB5 : w.heap.size ≤ W5.heap.size := Nat.le_trans hw3.size hb5.size
  have hBb : w.heap.size ≤ w4.heap.size := Nat.le_trans hw3.size hb4.size
  have hl5 : ((s, false) : St).1.length ≤ 100 := Nat.le_trans HS8.out (by omega)
  have hw5 : Below w.heap.size w W5 := hw3.trans (hb5.mono hw3.size)
  have HY5 := hideP y5
  have HW5 := hideP hW5
  have HSZ5 := hideP hsz5
  clear hsz5
  clear r4 y5 X0 X1 X2 X05 X15 X25 HCL HVS HNIL hW5
  go_wp2_with fail
  rw [HW5.out]
  refine (result_raw P r p1 p3 L.length q1 C.length q3 W5).mono ?_
  rintro e w7 ⟨u7, rfl, hr7, hb7⟩
  have hR7 : w7.ownsRow W5.heap.size 3 1 u7 (resL (P, L, r, C)).length ((resL (P, L, r, C)).map (Value.int .i64)) := hr7
  have hrl : (resL (P, L, r, C)).length ≤ 100 := by unfold resL; split <;> simp
  have HI7 := hideP (intsAt_of_row rfl hR7)
  clear hr7 hR7
  go_wp2_with fail
  refine (tkS_any (s, false) _ w4.heap.size w.heap.size u7 w7 (hsa.kept hb7) HI7.out hl5 hrl (Nat.le_trans hB5 hb7.size) hBb).mono ?_
  rintro e w8 ⟨rfl, h8, b8⟩
  obtain ⟨RR, hRR⟩ : ∃ RR, tk (s, false) (resL (P, L, r, C)) = RR := ⟨_, rfl⟩
  rw [hRR] at h8
  have HRR := hideP hRR
  clear hRR
  obtain ⟨R1, R2⟩ := RR
  obtain ⟨v8, q8, r8⟩ := h8
  simp only at q8 r8
  obtain ⟨p8, c8, rfl⟩ := row_shp r8
  have m0 := cell_at' q8 0
  have m1 := cell_at' q8 1
  have n1 := Lib.frozen_of_heap q8 1
  simp at m0 m1
  have HQ8 := hideP q8
  have HR8 := hideP r8
  clear q8 r8
  obtain ⟨w6, hw6⟩ : ∃ w6, w8.setCell ⟨w4.heap.size, 1, none⟩ (.bool (R2 || decide (0 < R1.length))) = w6 := ⟨_, rfl⟩
  have hg6 : w8.grownBy w6 (some w4.heap.size) := by rw [← hw6]; exact set_grown _ _ _
  have h6 : SA w6 w4.heap.size w.heap.size (R1, R2 || decide (0 < R1.length)) := by
    have := heap_setCell_same w8 w4.heap.size 1 _ _ (.bool (R2 || decide (0 < R1.length))) HQ8.out
    rw [hw6] at this
    exact StAt.set HQ8.out (by simpa using this) HR8.out hg6
  have b6 : Below w.heap.size W5 w6 := ((hb7.mono hB5).trans b8).grown hg6 (by have := b8.size; have := hb7.size; omega) (fun k hk => by cases hk; exact hBb)
  have hdec : decide ((R1.length : Int) > 0) = decide (0 < R1.length) := by rw [Bool.eq_iff_iff, decide_eq_true_iff, decide_eq_true_iff]; omega
  have hdec2 : decide ((0 : Int) < (R1.length : Int)) = decide (0 < R1.length) := by rw [Bool.eq_iff_iff, decide_eq_true_iff, decide_eq_true_iff]; omega
  obtain ⟨v6, q6, r6⟩ := h6
  have g0 := cell_at' q6 0
  have g1 := cell_at' q6 1
  simp at g0 g1
  obtain ⟨p6, c6, rfl⟩ := row_shp r6
  have HR6 := hideP r6
  clear r6 q6
  have hfin := hideP (show bhP p (P, L, r, C) (13, a) s = (R1, R2 || decide (0 < R1.length)) by simp only [bhP]; rw [HRR.out]; rfl)
  obtain ⟨dd, hdd⟩ : ∃ dd, decide (0 < R1.length) = dd := ⟨_, rfl⟩
  rw [hdd] at hw6 g1 hfin hdec hdec2
  cases R2
  all_goals
    simp only [Bool.false_or, Bool.true_or] at hw6 g1 hfin m1
    go_wp2_with fail
    go_quiet (fail)
    go_wp2
    go_ret2
    rw [hfin.out]
    refine ⟨_, rfl, ?_, (hw5.trans b6).trans ⟨rfl, rfl, rfl, Nat.le_refl _, fun _ _ => rfl⟩⟩
    exact HR6.out
set_option maxRecDepth 100000 in
set_option maxHeartbeats 1000000 in
theorem behindX_any (c a : Int) (p : List Fn) (f : Fn) (s : List Int) (vs pv c0 c1 c2 c3 : Value) (w : World) (ho : OkOp p f (c, a)) (hs : s.length ≤ 8) (hvs : IntsAt w vs s) (hnil : NilOk vs) (hp : FnsAt w pv p) (hcp : CapAt w pv) (hf : FnAt w c0 c1 c2 c3 f) (n2 : c ≠ 2) (n3 : c ≠ 3) (n4 : c ≠ 4) (n8 : c ≠ 8) (n9 : c ≠ 9) (n12 : c ≠ 12) (n13 : c ≠ 13) : Calls Tryz.prog 143 #[.agg #[.int .i64 c, .int .i64 a], vs, .agg #[pv], .agg #[c0, c1, c2, c3]] w fun e w' => ∃ u, e = .returned (.tuple #[u, .bool (!(bhP p f (c, a) s).2)]) ∧ w'.ownsRow w.heap.size 3 1 u (bhP p f (c, a) s).1.length ((bhP p f (c, a) s).1.map (Value.int .i64)) ∧ Below w.heap.size w w' := by
  have hcode := ho.code
  simp only at hcode
  have e2 : (c == 2) = false := by simp [n2]
  have e3 : (c == 3) = false := by simp [n3]
  have e4 : (c == 4) = false := by simp [n4]
  have e8 : (c == 8) = false := by simp [n8]
  have e9 : (c == 9) = false := by simp [n9]
  have e12 : (c == 12) = false := by simp [n12]
  have e13 : (c == 13) = false := by simp [n13]
  obtain ⟨P, L, r, C⟩ := f
  obtain ⟨rfl, hI, rfl, hO⟩ := id hf
  simp only at hI hO
  obtain ⟨p1, q1, rfl, _, hLc⟩ := id hI
  obtain ⟨p3, q3, rfl, _, _⟩ := id hO
  obtain ⟨pp, qp, rfl, _, hpc⟩ := id hp
  obtain ⟨ps, qs, rfl, _, _⟩ := id hvs
  obtain ⟨W3, hW3⟩ : ∃ W3, ((w.alloc (.cells #[.int .i64 c, .int .i64 a] 43)).alloc (.cells #[.slice pp p.length qp] 24)).alloc (.cells #[.int .i64 P, .slice p1 L.length q1, .int .i64 r, .slice p3 C.length q3] 78) = W3 := ⟨_, rfl⟩
  have hw3 : Below w.heap.size w W3 := by rw [← hW3]; exact (((Below.refl _ w).alloc (Nat.le_refl _) _).alloc (by simp) _).alloc (by simp; omega) _
  have x0 : W3.heap[w.heap.size]? = some (.cells #[.int .i64 c, .int .i64 a] 43 (0, 0)) := by rw [← hW3]; exact heap_old (heap_old (World.alloc_heap_new w _) _) _
  have x1 : W3.heap[w.heap.size + 1]? = some (.cells #[.slice pp p.length qp] 24 (0, 0)) := by rw [← hW3]; exact heap_old (new_two w _ _) _
  have x2 : W3.heap[w.heap.size + 1 + 1]? = some (.cells #[.int .i64 P, .slice p1 L.length q1, .int .i64 r, .slice p3 C.length q3] 78 (0, 0)) := by
    rw [← hW3]
    have := World.alloc_heap_new ((w.alloc (.cells #[.int .i64 c, .int .i64 a] 43)).alloc (.cells #[.slice pp p.length qp] 24)) (.cells #[.int .i64 P, .slice p1 L.length q1, .int .i64 r, .slice p3 C.length q3] 78)
    simpa using this
  have HVS := hideP (hvs.below hw3)
  have HNIL := hideP hnil
  have HCL := hideP (cloneInt_any s _ W3 HVS.out HNIL.out (by omega))
  have HP3 := hideP (hp.below hw3)
  have HC3 := hideP (hcp.below hp hw3)
  have HF3 := hideP (hf.below hw3)
  have HOK := hideP ho
  have X0 := hideP x0
  have X1 := hideP x1
  have X2 := hideP x2
  have HS8 := hideP hs
  clear ho hvs hnil hp hcp hf hI hO hLc hpc x0 x1 x2 hs
  go_enter Tryz.func143, Tryz.ntmps143
  go_wp2_with fail
  refine HCL.out.mono ?_
  rintro e w4 ⟨u4, rfl, r4, hb4⟩
  obtain ⟨p4, q4, rfl⟩ := row_shp r4
  obtain ⟨W5, hW5⟩ : ∃ W5, w4.alloc (.cells #[.slice p4 s.length q4, .bool false] 207) = W5 := ⟨_, rfl⟩
  have hb5 : Below W3.heap.size W3 W5 := by rw [← hW5]; exact hb4.alloc hb4.size _
  have y5 : W5.heap[w4.heap.size]? = some (.cells #[.slice p4 s.length q4, .bool false] 207 (0, 0)) := by rw [← hW5]; exact World.alloc_heap_new w4 _
  have hsz5 : W5.heap.size = w4.heap.size + 1 := by rw [← hW5]; simp
  have hsa : SA W5 w4.heap.size w.heap.size (s, false) := ⟨_, y5, by rw [← hW5]; exact (row_low r4 hw3.size).alloc _⟩
  have X05 := hideP ((hb4.block _ (heap_lt X0.out)).trans X0.out)
  have X15 := hideP ((hb4.block _ (heap_lt X1.out)).trans X1.out)
  have X25 := hideP ((hb4.block _ (heap_lt X2.out)).trans X2.out)
  have d0 := cell_at' X05.out 0
  have d1 := cell_at' X05.out 1
  have k0 := cell_at' X15.out 0
  have f0 := cell_at' X25.out 0
  have f1 := cell_at' X25.out 1
  have f2 := cell_at' X25.out 2
  have f3 := cell_at' X25.out 3
  simp at d0 d1 k0 f0 f1 f2 f3
  have d0 := fun o => cell_old d0 o
  have d1 := fun o => cell_old d1 o
  have k0 := fun o => cell_old k0 o
  have f0 := fun o => cell_old f0 o
  have f1 := fun o => cell_old f1 o
  have f2 := fun o => cell_old f2 o
  have f3 := fun o => cell_old f3 o
  have hB5 : w.heap.size ≤ W5.heap.size := Nat.le_trans hw3.size hb5.size
  have hBb : w.heap.size ≤ w4.heap.size := Nat.le_trans hw3.size hb4.size
  have hl5 : ((s, false) : St).1.length ≤ 100 := Nat.le_trans HS8.out (by omega)
  have hw5 : Below w.heap.size w W5 := hw3.trans (hb5.mono hw3.size)
  have HY5 := hideP y5
  have HW5 := hideP hW5
  have HSZ5 := hideP hsz5
  clear hsz5
  clear r4 y5 X0 X1 X2 X05 X15 X25 HCL HVS HNIL hW5
  go_wp2_with fail
  rw [HW5.out]
  refine (do_any c hcode ⟨n2, n3, n4, n8, n9, n12, n13⟩ (s, false) w4.heap.size w.heap.size W5 hsa hl5 hB5 hBb).mono ?_
  rintro e w6 ⟨rfl, h6, b6⟩
  obtain ⟨v6, q6, r6⟩ := h6
  have g0 := cell_at' q6 0
  have g1 := cell_at' q6 1
  simp at g0 g1
  obtain ⟨p6, c6, rfl⟩ := row_shp r6
  have HR6 := hideP r6
  clear r6 q6
  have hfin := hideP (show bhP p (P, L, r, C) (c, a) s = doS (s, false) c by simp only [bhP, if_neg n2, if_neg n3, if_neg n4, if_neg n8, if_neg n9, if_neg n12, if_neg n13]; rfl)
  go_wp2_with fail
  go_quiet (fail)
  go_wp2
  go_ret2
  rw [hfin.out]
  refine ⟨_, rfl, ?_, (hw5.trans b6).trans ⟨rfl, rfl, rfl, Nat.le_refl _, fun _ _ => rfl⟩⟩
  exact HR6.out
theorem behind_any (c a : Int) (p : List Fn) (f : Fn) (s : List Int) (vs pv c0 c1 c2 c3 : Value) (w : World) (ho : OkOp p f (c, a)) (hs : s.length ≤ 8) (hvs : IntsAt w vs s) (hnil : NilOk vs) (hp : FnsAt w pv p) (hcp : CapAt w pv) (hf : FnAt w c0 c1 c2 c3 f) : Calls Tryz.prog 143 #[.agg #[.int .i64 c, .int .i64 a], vs, .agg #[pv], .agg #[c0, c1, c2, c3]] w fun e w' => ∃ u, e = .returned (.tuple #[u, .bool (tryOp p f (c, a) s).isSome]) ∧ (∀ out, tryOp p f (c, a) s = some out → w'.ownsRow w.heap.size 3 1 u out.length (out.map (Value.int .i64))) ∧ (∃ p n c, u = .slice p n c) ∧ Below w.heap.size w w' := by
  have key : Calls Tryz.prog 143 #[.agg #[.int .i64 c, .int .i64 a], vs, .agg #[pv], .agg #[c0, c1, c2, c3]] w fun e w' => ∃ u, e = .returned (.tuple #[u, .bool (!(bhP p f (c, a) s).2)]) ∧ w'.ownsRow w.heap.size 3 1 u (bhP p f (c, a) s).1.length ((bhP p f (c, a) s).1.map (Value.int .i64)) ∧ Below w.heap.size w w' := by
    by_cases n2 : c = 2
    · exact behind2_any c a p f s vs pv c0 c1 c2 c3 w ho hs hvs hnil hp hcp hf n2
    by_cases n3 : c = 3
    · exact behind3_any c a p f s vs pv c0 c1 c2 c3 w ho hs hvs hnil hp hcp hf n3
    by_cases n4 : c = 4
    · exact behind4_any c a p f s vs pv c0 c1 c2 c3 w ho hs hvs hnil hp hcp hf n4
    by_cases n8 : c = 8
    · exact behind8_any c a p f s vs pv c0 c1 c2 c3 w ho hs hvs hnil hp hcp hf n8
    by_cases n9 : c = 9
    · exact behind9_any c a p f s vs pv c0 c1 c2 c3 w ho hs hvs hnil hp hcp hf n9
    by_cases n12 : c = 12
    · exact behind12_any c a p f s vs pv c0 c1 c2 c3 w ho hs hvs hnil hp hcp hf n12
    by_cases n13 : c = 13
    · exact behind13_any c a p f s vs pv c0 c1 c2 c3 w ho hs hvs hnil hp hcp hf n13
    exact behindX_any c a p f s vs pv c0 c1 c2 c3 w ho hs hvs hnil hp hcp hf n2 n3 n4 n8 n9 n12 n13
  refine key.mono ?_
  rintro e w' ⟨u, rfl, hr, hb⟩
  have ht := bh_try (o := (c, a)) ho hs
  obtain ⟨q, d, hq⟩ := row_shp hr
  refine ⟨u, ?_, fun out hout => ?_, ⟨_, _, _, hq⟩, hb⟩
  · rw [ht]
    cases (bhP p f (c, a) s).2 <;> rfl
  · rw [ht] at hout
    split at hout
    · cases hout
    · cases hout
      exact hr
end Go.Proofs.YtcadpoknolefpaaGreat


