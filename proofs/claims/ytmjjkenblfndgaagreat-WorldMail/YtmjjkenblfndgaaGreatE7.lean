/- My texts Jj Jk: what of them is needed, joined. -/
import Derived.Laws.EntriesVeiled
import Derived.Test.YtmjjkenblfndgaaGreatE5
import Derived.Test.YtmjjkenblfndgaaGreatE6
set_option maxRecDepth 100000
set_option maxHeartbeats 8000000
/- verify.behind. -/
namespace Go.Proofs.YtmjjkenblfndgaaGreat
open Go.RowKit
set_option linter.unusedSimpArgs false
set_option linter.unusedVariables false
def CapAt (W : World) (v : Value) : Prop := ∀ (b off n cap k : Nat) (p' : Option Addr) (n' c' : Nat), v = .slice (some ⟨b, off, none⟩) n cap → k < n → W.cell? ⟨b, off + k * 4 + 1, none⟩ = some (.slice p' n' c') → n' ≤ c'
theorem CapAt.below {W W' : World} {v : Value} {l : List Fn} (h : CapAt W v) (hf : FnsAt W v l) (hb : Below W.heap.size W W') : CapAt W' v := by
  intro b off n cap k p' n' c' hv hk hc
  obtain ⟨p, cap2, rfl, hm, hcc⟩ := hf
  cases hv
  obtain ⟨f, hf⟩ := xagZ hk
  obtain ⟨b2, off2, c0, c1, c2, c3, hp, hlt, _⟩ := hcc k f hf
  cases hp
  rw [hb.cell (p := ⟨b, off + k * 4 + 1, none⟩) hlt] at hc
  exact h b off l.length cap k p' n' c' rfl hk hc
theorem xo8Z (c a : Int) (p : List Fn) (f : Fn) (s : List Int) (vs pv c0 c1 c2 c3 : Value) (w : World) (ho : OkOp p f (c, a)) (hs : s.length ≤ 8) (hvs : IntsAt w vs s) (hnil : NilOk vs) (hp : FnsAt w pv p) (hcp : CapAt w pv) (hf : FnAt w c0 c1 c2 c3 f) (hc : c = 2) : Calls Tryz.prog 159 #[.agg #[.int .i64 c, .int .i64 a], vs, .agg #[pv], .agg #[c0, c1, c2, c3]] w fun e w' => ∃ u, e = .returned (.tuple #[u, .bool (!(bhP p f (c, a) s).2)]) ∧ w'.ownsRow w.heap.size 3 1 u (bhP p f (c, a) s).1.length ((bhP p f (c, a) s).1.map (Value.int .i64)) ∧ Below w.heap.size w w' := by
  subst hc
  obtain ⟨P, L, r, C⟩ := f
  obtain ⟨rfl, hI, rfl, hO⟩ := id hf
  simp only at hI hO
  obtain ⟨p1, q1, rfl, _, hLc⟩ := id hI
  obtain ⟨p3, q3, rfl, _, _⟩ := id hO
  obtain ⟨pp, qp, rfl, _, hpc⟩ := id hp
  obtain ⟨ps, qs, rfl, _, _⟩ := id hvs
  obtain ⟨W3, hW3⟩ : ∃ W3, ((w.alloc (.cells #[.int .i64 2, .int .i64 a] 86)).alloc (.cells #[.slice pp p.length qp] 24)).alloc (.cells #[.int .i64 P, .slice p1 L.length q1, .int .i64 r, .slice p3 C.length q3] 119) = W3 := ⟨_, rfl⟩
  have hw3 : Below w.heap.size w W3 := by rw [← hW3]; exact (((Below.refl _ w).alloc (Nat.le_refl _) _).alloc (by simp) _).alloc (by simp; omega) _
  have x0 : W3.heap[w.heap.size]? = some (.cells #[.int .i64 2, .int .i64 a] 86 (0, 0)) := by rw [← hW3]; exact xalZ (xalZ (World.alloc_heap_new w _) _) _
  have x1 : W3.heap[w.heap.size + 1]? = some (.cells #[.slice pp p.length qp] 24 (0, 0)) := by rw [← hW3]; exact xalZ (xa1Z w _ _) _
  have x2 : W3.heap[w.heap.size + 1 + 1]? = some (.cells #[.int .i64 P, .slice p1 L.length q1, .int .i64 r, .slice p3 C.length q3] 119 (0, 0)) := by
    rw [← hW3]
    have := World.alloc_heap_new ((w.alloc (.cells #[.int .i64 2, .int .i64 a] 86)).alloc (.cells #[.slice pp p.length qp] 24)) (.cells #[.int .i64 P, .slice p1 L.length q1, .int .i64 r, .slice p3 C.length q3] 119)
    simpa using this
  have HVS := hideP (hvs.below hw3)
  have HNIL := hideP hnil
  have HCL := hideP (xbmZ s _ W3 HVS.out HNIL.out (by omega))
  have HP3 := hideP (hp.below hw3)
  have HC3 := hideP (hcp.below hp hw3)
  have HF3 := hideP (hf.below hw3)
  have HOK := hideP ho
  have X0 := hideP x0
  have X1 := hideP x1
  have X2 := hideP x2
  have HS8 := hideP hs
  clear ho hvs hnil hp hcp hf hI hO hLc hpc x0 x1 x2 hs
  go_enter Tryz.func159, Tryz.ntmps159
  go_wp2_with fail
  refine HCL.out.mono ?_
  rintro e w4 ⟨u4, rfl, r4, hb4⟩
  obtain ⟨p4, q4, rfl⟩ := xaiZ r4
  obtain ⟨W5, hW5⟩ : ∃ W5, w4.alloc (.cells #[.slice p4 s.length q4, .bool false] 227) = W5 := ⟨_, rfl⟩
  have hb5 : Below W3.heap.size W3 W5 := by rw [← hW5]; exact hb4.alloc hb4.size _
  have y5 : W5.heap[w4.heap.size]? = some (.cells #[.slice p4 s.length q4, .bool false] 227 (0, 0)) := by rw [← hW5]; exact World.alloc_heap_new w4 _
  have hsz5 : W5.heap.size = w4.heap.size + 1 := by rw [← hW5]; simp
  have hsa : SA W5 w4.heap.size w.heap.size (s, false) := ⟨_, y5, by rw [← hW5]; exact (xapZ r4 hw3.size).alloc _⟩
  have X05 := hideP ((hb4.block _ (xacZ X0.out)).trans X0.out)
  have X15 := hideP ((hb4.block _ (xacZ X1.out)).trans X1.out)
  have X25 := hideP ((hb4.block _ (xacZ X2.out)).trans X2.out)
  have d0 := xaaZ X05.out 0
  have d1 := xaaZ X05.out 1
  have k0 := xaaZ X15.out 0
  have f0 := xaaZ X25.out 0
  have f1 := xaaZ X25.out 1
  have f2 := xaaZ X25.out 2
  have f3 := xaaZ X25.out 3
  simp at d0 d1 k0 f0 f1 f2 f3
  have d0 := fun o => xabZ d0 o
  have d1 := fun o => xabZ d1 o
  have k0 := fun o => xabZ k0 o
  have f0 := fun o => xabZ f0 o
  have f1 := fun o => xabZ f1 o
  have f2 := fun o => xabZ f2 o
  have f3 := fun o => xabZ f3 o
  have hB5 : w.heap.size ≤ W5.heap.size := Nat.le_trans hw3.size hb5.size
  have hBb : w.heap.size ≤ w4.heap.size := Nat.le_trans hw3.size hb4.size
  have hl5 : ((s, false) : St).1.length ≤ 100 := Nat.le_trans HS8.out (by omega)
  have hw5 : Below w.heap.size w W5 := hw3.trans (hb5.mono hw3.size)
  have HY5 := hideP y5
  have HW5 := hideP hW5
  have HSZ5 := hideP hsz5
  clear hsz5
  clear r4 y5 X0 X1 X2 X05 X15 X25 HCL HVS HNIL hW5
  go_wp2_with fail
  rw [HW5.out]
  refine (turn2_any (s, false) w4.heap.size w.heap.size W5 hsa hl5 hB5 hBb).mono ?_
  rintro e w6 ⟨rfl, h6, b6⟩
  obtain ⟨v6, q6, r6⟩ := h6
  have g0 := xaaZ q6 0
  have g1 := xaaZ q6 1
  simp at g0 g1
  obtain ⟨p6, c6, rfl⟩ := xaiZ r6
  have HR6 := hideP r6
  clear r6 q6
  have hfin := hideP (show bhP p (P, L, r, C) (2, a) s = popS (s, false) from rfl)
  go_wp2_with fail
  go_quiet (fail)
  go_wp2
  go_ret2
  rw [hfin.out]
  refine ⟨_, rfl, ?_, (hw5.trans b6).trans ⟨rfl, rfl, rfl, Nat.le_refl _, fun _ _ => rfl⟩⟩
  exact HR6.out
theorem xo9Z (c a : Int) (p : List Fn) (f : Fn) (s : List Int) (vs pv c0 c1 c2 c3 : Value) (w : World) (ho : OkOp p f (c, a)) (hs : s.length ≤ 8) (hvs : IntsAt w vs s) (hnil : NilOk vs) (hp : FnsAt w pv p) (hcp : CapAt w pv) (hf : FnAt w c0 c1 c2 c3 f) (hc : c = 3) : Calls Tryz.prog 159 #[.agg #[.int .i64 c, .int .i64 a], vs, .agg #[pv], .agg #[c0, c1, c2, c3]] w fun e w' => ∃ u, e = .returned (.tuple #[u, .bool (!(bhP p f (c, a) s).2)]) ∧ w'.ownsRow w.heap.size 3 1 u (bhP p f (c, a) s).1.length ((bhP p f (c, a) s).1.map (Value.int .i64)) ∧ Below w.heap.size w w' := by
  subst hc
  obtain ⟨P, L, r, C⟩ := f
  obtain ⟨rfl, hI, rfl, hO⟩ := id hf
  simp only at hI hO
  obtain ⟨p1, q1, rfl, _, hLc⟩ := id hI
  obtain ⟨p3, q3, rfl, _, _⟩ := id hO
  obtain ⟨pp, qp, rfl, _, hpc⟩ := id hp
  obtain ⟨ps, qs, rfl, _, _⟩ := id hvs
  obtain ⟨W3, hW3⟩ : ∃ W3, ((w.alloc (.cells #[.int .i64 3, .int .i64 a] 86)).alloc (.cells #[.slice pp p.length qp] 24)).alloc (.cells #[.int .i64 P, .slice p1 L.length q1, .int .i64 r, .slice p3 C.length q3] 119) = W3 := ⟨_, rfl⟩
  have hw3 : Below w.heap.size w W3 := by rw [← hW3]; exact (((Below.refl _ w).alloc (Nat.le_refl _) _).alloc (by simp) _).alloc (by simp; omega) _
  have x0 : W3.heap[w.heap.size]? = some (.cells #[.int .i64 3, .int .i64 a] 86 (0, 0)) := by rw [← hW3]; exact xalZ (xalZ (World.alloc_heap_new w _) _) _
  have x1 : W3.heap[w.heap.size + 1]? = some (.cells #[.slice pp p.length qp] 24 (0, 0)) := by rw [← hW3]; exact xalZ (xa1Z w _ _) _
  have x2 : W3.heap[w.heap.size + 1 + 1]? = some (.cells #[.int .i64 P, .slice p1 L.length q1, .int .i64 r, .slice p3 C.length q3] 119 (0, 0)) := by
    rw [← hW3]
    have := World.alloc_heap_new ((w.alloc (.cells #[.int .i64 3, .int .i64 a] 86)).alloc (.cells #[.slice pp p.length qp] 24)) (.cells #[.int .i64 P, .slice p1 L.length q1, .int .i64 r, .slice p3 C.length q3] 119)
    simpa using this
  have HVS := hideP (hvs.below hw3)
  have HNIL := hideP hnil
  have HCL := hideP (xbmZ s _ W3 HVS.out HNIL.out (by omega))
  have HP3 := hideP (hp.below hw3)
  have HC3 := hideP (hcp.below hp hw3)
  have HF3 := hideP (hf.below hw3)
  have HOK := hideP ho
  have X0 := hideP x0
  have X1 := hideP x1
  have X2 := hideP x2
  have HS8 := hideP hs
  clear ho hvs hnil hp hcp hf hI hO hLc hpc x0 x1 x2 hs
  go_enter Tryz.func159, Tryz.ntmps159
  go_wp2_with fail
  refine HCL.out.mono ?_
  rintro e w4 ⟨u4, rfl, r4, hb4⟩
  obtain ⟨p4, q4, rfl⟩ := xaiZ r4
  obtain ⟨W5, hW5⟩ : ∃ W5, w4.alloc (.cells #[.slice p4 s.length q4, .bool false] 227) = W5 := ⟨_, rfl⟩
  have hb5 : Below W3.heap.size W3 W5 := by rw [← hW5]; exact hb4.alloc hb4.size _
  have y5 : W5.heap[w4.heap.size]? = some (.cells #[.slice p4 s.length q4, .bool false] 227 (0, 0)) := by rw [← hW5]; exact World.alloc_heap_new w4 _
  have hsz5 : W5.heap.size = w4.heap.size + 1 := by rw [← hW5]; simp
  have hsa : SA W5 w4.heap.size w.heap.size (s, false) := ⟨_, y5, by rw [← hW5]; exact (xapZ r4 hw3.size).alloc _⟩
  have X05 := hideP ((hb4.block _ (xacZ X0.out)).trans X0.out)
  have X15 := hideP ((hb4.block _ (xacZ X1.out)).trans X1.out)
  have X25 := hideP ((hb4.block _ (xacZ X2.out)).trans X2.out)
  have d0 := xaaZ X05.out 0
  have d1 := xaaZ X05.out 1
  have k0 := xaaZ X15.out 0
  have f0 := xaaZ X25.out 0
  have f1 := xaaZ X25.out 1
  have f2 := xaaZ X25.out 2
  have f3 := xaaZ X25.out 3
  simp at d0 d1 k0 f0 f1 f2 f3
  have d0 := fun o => xabZ d0 o
  have d1 := fun o => xabZ d1 o
  have k0 := fun o => xabZ k0 o
  have f0 := fun o => xabZ f0 o
  have f1 := fun o => xabZ f1 o
  have f2 := fun o => xabZ f2 o
  have f3 := fun o => xabZ f3 o
  have hB5 : w.heap.size ≤ W5.heap.size := Nat.le_trans hw3.size hb5.size
  have hBb : w.heap.size ≤ w4.heap.size := Nat.le_trans hw3.size hb4.size
  have hl5 : ((s, false) : St).1.length ≤ 100 := Nat.le_trans HS8.out (by omega)
  have hw5 : Below w.heap.size w W5 := hw3.trans (hb5.mono hw3.size)
  have HY5 := hideP y5
  have HW5 := hideP hW5
  have HSZ5 := hideP hsz5
  clear hsz5
  clear r4 y5 X0 X1 X2 X05 X15 X25 HCL HVS HNIL hW5
  go_wp2_with fail
  rw [HW5.out]
  refine (turn3_any (s, false) w4.heap.size w.heap.size W5 hsa hl5 hB5 hBb).mono ?_
  rintro e w6 ⟨rfl, h6, b6⟩
  obtain ⟨v6, q6, r6⟩ := h6
  have g0 := xaaZ q6 0
  have g1 := xaaZ q6 1
  simp at g0 g1
  obtain ⟨p6, c6, rfl⟩ := xaiZ r6
  have HR6 := hideP r6
  clear r6 q6
  have hfin := hideP (show bhP p (P, L, r, C) (3, a) s = lv (popS (s, false)) [topP s, topP s] from rfl)
  go_wp2_with fail
  go_quiet (fail)
  go_wp2
  go_ret2
  rw [hfin.out]
  refine ⟨_, rfl, ?_, (hw5.trans b6).trans ⟨rfl, rfl, rfl, Nat.le_refl _, fun _ _ => rfl⟩⟩
  exact HR6.out
theorem xpaZ (c a : Int) (p : List Fn) (f : Fn) (s : List Int) (vs pv c0 c1 c2 c3 : Value) (w : World) (ho : OkOp p f (c, a)) (hs : s.length ≤ 8) (hvs : IntsAt w vs s) (hnil : NilOk vs) (hp : FnsAt w pv p) (hcp : CapAt w pv) (hf : FnAt w c0 c1 c2 c3 f) (hc : c = 4) : Calls Tryz.prog 159 #[.agg #[.int .i64 c, .int .i64 a], vs, .agg #[pv], .agg #[c0, c1, c2, c3]] w fun e w' => ∃ u, e = .returned (.tuple #[u, .bool (!(bhP p f (c, a) s).2)]) ∧ w'.ownsRow w.heap.size 3 1 u (bhP p f (c, a) s).1.length ((bhP p f (c, a) s).1.map (Value.int .i64)) ∧ Below w.heap.size w w' := by
  subst hc
  obtain ⟨P, L, r, C⟩ := f
  obtain ⟨rfl, hI, rfl, hO⟩ := id hf
  simp only at hI hO
  obtain ⟨p1, q1, rfl, _, hLc⟩ := id hI
  obtain ⟨p3, q3, rfl, _, _⟩ := id hO
  obtain ⟨pp, qp, rfl, _, hpc⟩ := id hp
  obtain ⟨ps, qs, rfl, _, _⟩ := id hvs
  obtain ⟨W3, hW3⟩ : ∃ W3, ((w.alloc (.cells #[.int .i64 4, .int .i64 a] 86)).alloc (.cells #[.slice pp p.length qp] 24)).alloc (.cells #[.int .i64 P, .slice p1 L.length q1, .int .i64 r, .slice p3 C.length q3] 119) = W3 := ⟨_, rfl⟩
  have hw3 : Below w.heap.size w W3 := by rw [← hW3]; exact (((Below.refl _ w).alloc (Nat.le_refl _) _).alloc (by simp) _).alloc (by simp; omega) _
  have x0 : W3.heap[w.heap.size]? = some (.cells #[.int .i64 4, .int .i64 a] 86 (0, 0)) := by rw [← hW3]; exact xalZ (xalZ (World.alloc_heap_new w _) _) _
  have x1 : W3.heap[w.heap.size + 1]? = some (.cells #[.slice pp p.length qp] 24 (0, 0)) := by rw [← hW3]; exact xalZ (xa1Z w _ _) _
  have x2 : W3.heap[w.heap.size + 1 + 1]? = some (.cells #[.int .i64 P, .slice p1 L.length q1, .int .i64 r, .slice p3 C.length q3] 119 (0, 0)) := by
    rw [← hW3]
    have := World.alloc_heap_new ((w.alloc (.cells #[.int .i64 4, .int .i64 a] 86)).alloc (.cells #[.slice pp p.length qp] 24)) (.cells #[.int .i64 P, .slice p1 L.length q1, .int .i64 r, .slice p3 C.length q3] 119)
    simpa using this
  have HVS := hideP (hvs.below hw3)
  have HNIL := hideP hnil
  have HCL := hideP (xbmZ s _ W3 HVS.out HNIL.out (by omega))
  have HP3 := hideP (hp.below hw3)
  have HC3 := hideP (hcp.below hp hw3)
  have HF3 := hideP (hf.below hw3)
  have HOK := hideP ho
  have X0 := hideP x0
  have X1 := hideP x1
  have X2 := hideP x2
  have HS8 := hideP hs
  clear ho hvs hnil hp hcp hf hI hO hLc hpc x0 x1 x2 hs
  go_enter Tryz.func159, Tryz.ntmps159
  go_wp2_with fail
  refine HCL.out.mono ?_
  rintro e w4 ⟨u4, rfl, r4, hb4⟩
  obtain ⟨p4, q4, rfl⟩ := xaiZ r4
  obtain ⟨W5, hW5⟩ : ∃ W5, w4.alloc (.cells #[.slice p4 s.length q4, .bool false] 227) = W5 := ⟨_, rfl⟩
  have hb5 : Below W3.heap.size W3 W5 := by rw [← hW5]; exact hb4.alloc hb4.size _
  have y5 : W5.heap[w4.heap.size]? = some (.cells #[.slice p4 s.length q4, .bool false] 227 (0, 0)) := by rw [← hW5]; exact World.alloc_heap_new w4 _
  have hsz5 : W5.heap.size = w4.heap.size + 1 := by rw [← hW5]; simp
  have hsa : SA W5 w4.heap.size w.heap.size (s, false) := ⟨_, y5, by rw [← hW5]; exact (xapZ r4 hw3.size).alloc _⟩
  have X05 := hideP ((hb4.block _ (xacZ X0.out)).trans X0.out)
  have X15 := hideP ((hb4.block _ (xacZ X1.out)).trans X1.out)
  have X25 := hideP ((hb4.block _ (xacZ X2.out)).trans X2.out)
  have d0 := xaaZ X05.out 0
  have d1 := xaaZ X05.out 1
  have k0 := xaaZ X15.out 0
  have f0 := xaaZ X25.out 0
  have f1 := xaaZ X25.out 1
  have f2 := xaaZ X25.out 2
  have f3 := xaaZ X25.out 3
  simp at d0 d1 k0 f0 f1 f2 f3
  have d0 := fun o => xabZ d0 o
  have d1 := fun o => xabZ d1 o
  have k0 := fun o => xabZ k0 o
  have f0 := fun o => xabZ f0 o
  have f1 := fun o => xabZ f1 o
  have f2 := fun o => xabZ f2 o
  have f3 := fun o => xabZ f3 o
  have hB5 : w.heap.size ≤ W5.heap.size := Nat.le_trans hw3.size hb5.size
  have hBb : w.heap.size ≤ w4.heap.size := Nat.le_trans hw3.size hb4.size
  have hl5 : ((s, false) : St).1.length ≤ 100 := Nat.le_trans HS8.out (by omega)
  have hw5 : Below w.heap.size w W5 := hw3.trans (hb5.mono hw3.size)
  have HY5 := hideP y5
  have HW5 := hideP hW5
  have HSZ5 := hideP hsz5
  clear hsz5
  clear r4 y5 X0 X1 X2 X05 X15 X25 HCL HVS HNIL hW5
  go_wp2_with fail
  rw [HW5.out]
  refine (turn4_any (s, false) w4.heap.size w.heap.size W5 hsa hl5 hB5 hBb).mono ?_
  rintro e w6 ⟨rfl, h6, b6⟩
  obtain ⟨v6, q6, r6⟩ := h6
  have g0 := xaaZ q6 0
  have g1 := xaaZ q6 1
  simp at g0 g1
  obtain ⟨p6, c6, rfl⟩ := xaiZ r6
  have HR6 := hideP r6
  clear r6 q6
  have hfin := hideP (show bhP p (P, L, r, C) (4, a) s = lv (popS (popS (s, false))) [topP s, topP s.dropLast] from rfl)
  go_wp2_with fail
  go_quiet (fail)
  go_wp2
  go_ret2
  rw [hfin.out]
  refine ⟨_, rfl, ?_, (hw5.trans b6).trans ⟨rfl, rfl, rfl, Nat.le_refl _, fun _ _ => rfl⟩⟩
  exact HR6.out
theorem xpbZ (c a : Int) (p : List Fn) (f : Fn) (s : List Int) (vs pv c0 c1 c2 c3 : Value) (w : World) (ho : OkOp p f (c, a)) (hs : s.length ≤ 8) (hvs : IntsAt w vs s) (hnil : NilOk vs) (hp : FnsAt w pv p) (hcp : CapAt w pv) (hf : FnAt w c0 c1 c2 c3 f) (hc : c = 8) : Calls Tryz.prog 159 #[.agg #[.int .i64 c, .int .i64 a], vs, .agg #[pv], .agg #[c0, c1, c2, c3]] w fun e w' => ∃ u, e = .returned (.tuple #[u, .bool (!(bhP p f (c, a) s).2)]) ∧ w'.ownsRow w.heap.size 3 1 u (bhP p f (c, a) s).1.length ((bhP p f (c, a) s).1.map (Value.int .i64)) ∧ Below w.heap.size w w' := by
  subst hc
  obtain ⟨P, L, r, C⟩ := f
  obtain ⟨rfl, hI, rfl, hO⟩ := id hf
  simp only at hI hO
  obtain ⟨p1, q1, rfl, _, hLc⟩ := id hI
  obtain ⟨p3, q3, rfl, _, _⟩ := id hO
  obtain ⟨pp, qp, rfl, _, hpc⟩ := id hp
  obtain ⟨ps, qs, rfl, _, _⟩ := id hvs
  obtain ⟨W3, hW3⟩ : ∃ W3, ((w.alloc (.cells #[.int .i64 8, .int .i64 a] 86)).alloc (.cells #[.slice pp p.length qp] 24)).alloc (.cells #[.int .i64 P, .slice p1 L.length q1, .int .i64 r, .slice p3 C.length q3] 119) = W3 := ⟨_, rfl⟩
  have hw3 : Below w.heap.size w W3 := by rw [← hW3]; exact (((Below.refl _ w).alloc (Nat.le_refl _) _).alloc (by simp) _).alloc (by simp; omega) _
  have x0 : W3.heap[w.heap.size]? = some (.cells #[.int .i64 8, .int .i64 a] 86 (0, 0)) := by rw [← hW3]; exact xalZ (xalZ (World.alloc_heap_new w _) _) _
  have x1 : W3.heap[w.heap.size + 1]? = some (.cells #[.slice pp p.length qp] 24 (0, 0)) := by rw [← hW3]; exact xalZ (xa1Z w _ _) _
  have x2 : W3.heap[w.heap.size + 1 + 1]? = some (.cells #[.int .i64 P, .slice p1 L.length q1, .int .i64 r, .slice p3 C.length q3] 119 (0, 0)) := by
    rw [← hW3]
    have := World.alloc_heap_new ((w.alloc (.cells #[.int .i64 8, .int .i64 a] 86)).alloc (.cells #[.slice pp p.length qp] 24)) (.cells #[.int .i64 P, .slice p1 L.length q1, .int .i64 r, .slice p3 C.length q3] 119)
    simpa using this
  have HVS := hideP (hvs.below hw3)
  have HNIL := hideP hnil
  have HCL := hideP (xbmZ s _ W3 HVS.out HNIL.out (by omega))
  have HP3 := hideP (hp.below hw3)
  have HC3 := hideP (hcp.below hp hw3)
  have HF3 := hideP (hf.below hw3)
  have HOK := hideP ho
  have X0 := hideP x0
  have X1 := hideP x1
  have X2 := hideP x2
  have HS8 := hideP hs
  clear ho hvs hnil hp hcp hf hI hO hLc hpc x0 x1 x2 hs
  go_enter Tryz.func159, Tryz.ntmps159
  go_wp2_with fail
  refine HCL.out.mono ?_
  rintro e w4 ⟨u4, rfl, r4, hb4⟩
  obtain ⟨p4, q4, rfl⟩ := xaiZ r4
  obtain ⟨W5, hW5⟩ : ∃ W5, w4.alloc (.cells #[.slice p4 s.length q4, .bool false] 227) = W5 := ⟨_, rfl⟩
  have hb5 : Below W3.heap.size W3 W5 := by rw [← hW5]; exact hb4.alloc hb4.size _
  have y5 : W5.heap[w4.heap.size]? = some (.cells #[.slice p4 s.length q4, .bool false] 227 (0, 0)) := by rw [← hW5]; exact World.alloc_heap_new w4 _
  have hsz5 : W5.heap.size = w4.heap.size + 1 := by rw [← hW5]; simp
  have hsa : SA W5 w4.heap.size w.heap.size (s, false) := ⟨_, y5, by rw [← hW5]; exact (xapZ r4 hw3.size).alloc _⟩
  have X05 := hideP ((hb4.block _ (xacZ X0.out)).trans X0.out)
  have X15 := hideP ((hb4.block _ (xacZ X1.out)).trans X1.out)
  have X25 := hideP ((hb4.block _ (xacZ X2.out)).trans X2.out)
  have d0 := xaaZ X05.out 0
  have d1 := xaaZ X05.out 1
  have k0 := xaaZ X15.out 0
  have f0 := xaaZ X25.out 0
  have f1 := xaaZ X25.out 1
  have f2 := xaaZ X25.out 2
  have f3 := xaaZ X25.out 3
  simp at d0 d1 k0 f0 f1 f2 f3
  have d0 := fun o => xabZ d0 o
  have d1 := fun o => xabZ d1 o
  have k0 := fun o => xabZ k0 o
  have f0 := fun o => xabZ f0 o
  have f1 := fun o => xabZ f1 o
  have f2 := fun o => xabZ f2 o
  have f3 := fun o => xabZ f3 o
  have hB5 : w.heap.size ≤ W5.heap.size := Nat.le_trans hw3.size hb5.size
  have hBb : w.heap.size ≤ w4.heap.size := Nat.le_trans hw3.size hb4.size
  have hl5 : ((s, false) : St).1.length ≤ 100 := Nat.le_trans HS8.out (by omega)
  have hw5 : Below w.heap.size w W5 := hw3.trans (hb5.mono hw3.size)
  have HY5 := hideP y5
  have HW5 := hideP hW5
  have HSZ5 := hideP hsz5
  clear hsz5
  clear r4 y5 X0 X1 X2 X05 X15 X25 HCL HVS HNIL hW5
  have hloc := HOK.out.loc (by simp)
  simp only at hloc
  obtain ⟨k, rfl⟩ : ∃ k : Nat, a = k := ⟨a.toNat, by omega⟩
  have hk : k < L.length := by omega
  obtain ⟨t, ht⟩ := xagZ hk
  obtain ⟨pL, qL, heL, _, hcL⟩ := HF3.out.2.1
  cases heL
  obtain ⟨bL, oL, hpL, hbL, gL⟩ := hcL k t ht
  subst hpL
  have gL5 := fun o => xabZ ((hb4.cell (p := ⟨bL, oL + k, none⟩) hbL).trans gL) o
  have hkL : (k : Int) < (L.length : Int) := by omega
  have htd : L.getD k 0 = t := by rw [List.getD_eq_getElem?_getD, ht]; rfl
  have HTD := hideP htd
  clear ht hcL gL hloc htd
  go_wp2_with fail
  rw [HW5.out]
  have qn : (W5.alloc (.cells #[.int .i64 t] 3)).heap[w4.heap.size + 1]? = some (.cells #[.int .i64 t] 3 (0, 0)) := by rw [← HSZ5.out]; exact World.alloc_heap_new W5 _
  have an := (Below.refl W5.heap.size W5).alloc (Nat.le_refl _) (.cells #[.int .i64 t] 3)
  refine (xcjZ (s, false) [t] w4.heap.size w.heap.size _ _ (hsa.kept an) (xa8Z 1 1 qn rfl (by unfold maxLen; simp)) (xavZ _ _ _) hl5 (by simp) (Nat.le_trans hB5 an.size) hBb).mono ?_
  rintro e w6 ⟨rfl, h6, b6'⟩
  have b6 := (an.mono hB5).trans b6'
  clear qn an b6'
  obtain ⟨v6, q6, r6⟩ := h6
  have g0 := xaaZ q6 0
  have g1 := xaaZ q6 1
  simp at g0 g1
  obtain ⟨p6, c6, rfl⟩ := xaiZ r6
  have HR6 := hideP r6
  clear r6 q6
  have hfin := hideP (show bhP p (P, L, r, C) (8, (k : Int)) s = lv (s, false) [t] by rw [← HTD.out]; rfl)
  go_wp2_with fail
  go_quiet (fail)
  go_wp2
  go_ret2
  rw [hfin.out]
  refine ⟨_, rfl, ?_, (hw5.trans b6).trans ⟨rfl, rfl, rfl, Nat.le_refl _, fun _ _ => rfl⟩⟩
  exact HR6.out
theorem xpcZ (c a : Int) (p : List Fn) (f : Fn) (s : List Int) (vs pv c0 c1 c2 c3 : Value) (w : World) (ho : OkOp p f (c, a)) (hs : s.length ≤ 8) (hvs : IntsAt w vs s) (hnil : NilOk vs) (hp : FnsAt w pv p) (hcp : CapAt w pv) (hf : FnAt w c0 c1 c2 c3 f) (hc : c = 9) : Calls Tryz.prog 159 #[.agg #[.int .i64 c, .int .i64 a], vs, .agg #[pv], .agg #[c0, c1, c2, c3]] w fun e w' => ∃ u, e = .returned (.tuple #[u, .bool (!(bhP p f (c, a) s).2)]) ∧ w'.ownsRow w.heap.size 3 1 u (bhP p f (c, a) s).1.length ((bhP p f (c, a) s).1.map (Value.int .i64)) ∧ Below w.heap.size w w' := by
  subst hc
  obtain ⟨P, L, r, C⟩ := f
  obtain ⟨rfl, hI, rfl, hO⟩ := id hf
  simp only at hI hO
  obtain ⟨p1, q1, rfl, _, hLc⟩ := id hI
  obtain ⟨p3, q3, rfl, _, _⟩ := id hO
  obtain ⟨pp, qp, rfl, _, hpc⟩ := id hp
  obtain ⟨ps, qs, rfl, _, _⟩ := id hvs
  obtain ⟨W3, hW3⟩ : ∃ W3, ((w.alloc (.cells #[.int .i64 9, .int .i64 a] 86)).alloc (.cells #[.slice pp p.length qp] 24)).alloc (.cells #[.int .i64 P, .slice p1 L.length q1, .int .i64 r, .slice p3 C.length q3] 119) = W3 := ⟨_, rfl⟩
  have hw3 : Below w.heap.size w W3 := by rw [← hW3]; exact (((Below.refl _ w).alloc (Nat.le_refl _) _).alloc (by simp) _).alloc (by simp; omega) _
  have x0 : W3.heap[w.heap.size]? = some (.cells #[.int .i64 9, .int .i64 a] 86 (0, 0)) := by rw [← hW3]; exact xalZ (xalZ (World.alloc_heap_new w _) _) _
  have x1 : W3.heap[w.heap.size + 1]? = some (.cells #[.slice pp p.length qp] 24 (0, 0)) := by rw [← hW3]; exact xalZ (xa1Z w _ _) _
  have x2 : W3.heap[w.heap.size + 1 + 1]? = some (.cells #[.int .i64 P, .slice p1 L.length q1, .int .i64 r, .slice p3 C.length q3] 119 (0, 0)) := by
    rw [← hW3]
    have := World.alloc_heap_new ((w.alloc (.cells #[.int .i64 9, .int .i64 a] 86)).alloc (.cells #[.slice pp p.length qp] 24)) (.cells #[.int .i64 P, .slice p1 L.length q1, .int .i64 r, .slice p3 C.length q3] 119)
    simpa using this
  have HVS := hideP (hvs.below hw3)
  have HNIL := hideP hnil
  have HCL := hideP (xbmZ s _ W3 HVS.out HNIL.out (by omega))
  have HP3 := hideP (hp.below hw3)
  have HC3 := hideP (hcp.below hp hw3)
  have HF3 := hideP (hf.below hw3)
  have HOK := hideP ho
  have X0 := hideP x0
  have X1 := hideP x1
  have X2 := hideP x2
  have HS8 := hideP hs
  clear ho hvs hnil hp hcp hf hI hO hLc hpc x0 x1 x2 hs
  go_enter Tryz.func159, Tryz.ntmps159
  go_wp2_with fail
  refine HCL.out.mono ?_
  rintro e w4 ⟨u4, rfl, r4, hb4⟩
  obtain ⟨p4, q4, rfl⟩ := xaiZ r4
  obtain ⟨W5, hW5⟩ : ∃ W5, w4.alloc (.cells #[.slice p4 s.length q4, .bool false] 227) = W5 := ⟨_, rfl⟩
  have hb5 : Below W3.heap.size W3 W5 := by rw [← hW5]; exact hb4.alloc hb4.size _
  have y5 : W5.heap[w4.heap.size]? = some (.cells #[.slice p4 s.length q4, .bool false] 227 (0, 0)) := by rw [← hW5]; exact World.alloc_heap_new w4 _
  have hsz5 : W5.heap.size = w4.heap.size + 1 := by rw [← hW5]; simp
  have hsa : SA W5 w4.heap.size w.heap.size (s, false) := ⟨_, y5, by rw [← hW5]; exact (xapZ r4 hw3.size).alloc _⟩
  have X05 := hideP ((hb4.block _ (xacZ X0.out)).trans X0.out)
  have X15 := hideP ((hb4.block _ (xacZ X1.out)).trans X1.out)
  have X25 := hideP ((hb4.block _ (xacZ X2.out)).trans X2.out)
  have d0 := xaaZ X05.out 0
  have d1 := xaaZ X05.out 1
  have k0 := xaaZ X15.out 0
  have f0 := xaaZ X25.out 0
  have f1 := xaaZ X25.out 1
  have f2 := xaaZ X25.out 2
  have f3 := xaaZ X25.out 3
  simp at d0 d1 k0 f0 f1 f2 f3
  have d0 := fun o => xabZ d0 o
  have d1 := fun o => xabZ d1 o
  have k0 := fun o => xabZ k0 o
  have f0 := fun o => xabZ f0 o
  have f1 := fun o => xabZ f1 o
  have f2 := fun o => xabZ f2 o
  have f3 := fun o => xabZ f3 o
  have hB5 : w.heap.size ≤ W5.heap.size := Nat.le_trans hw3.size hb5.size
  have hBb : w.heap.size ≤ w4.heap.size := Nat.le_trans hw3.size hb4.size
  have hl5 : ((s, false) : St).1.length ≤ 100 := Nat.le_trans HS8.out (by omega)
  have hw5 : Below w.heap.size w W5 := hw3.trans (hb5.mono hw3.size)
  have HY5 := hideP y5
  have HW5 := hideP hW5
  have HSZ5 := hideP hsz5
  clear hsz5
  clear r4 y5 X0 X1 X2 X05 X15 X25 HCL HVS HNIL hW5
  have hloc := HOK.out.loc (by simp)
  simp only at hloc
  obtain ⟨k, rfl⟩ : ∃ k : Nat, a = k := ⟨a.toNat, by omega⟩
  have hk : k < L.length := by omega
  obtain ⟨t, ht⟩ := xagZ hk
  obtain ⟨pL, qL, heL, _, hcL⟩ := HF3.out.2.1
  cases heL
  obtain ⟨bL, oL, hpL, hbL, gL⟩ := hcL k t ht
  subst hpL
  have gL5 := fun o => xabZ ((hb4.cell (p := ⟨bL, oL + k, none⟩) hbL).trans gL) o
  have hkL : (k : Int) < (L.length : Int) := by omega
  have htd : L.getD k 0 = t := by rw [List.getD_eq_getElem?_getD, ht]; rfl
  have HTD := hideP htd
  clear ht hcL gL hloc htd
  go_wp2_with fail
  rw [HW5.out]
  have qn : (W5.alloc (.cells #[.int .i64 t] 3)).heap[w4.heap.size + 1]? = some (.cells #[.int .i64 t] 3 (0, 0)) := by rw [← HSZ5.out]; exact World.alloc_heap_new W5 _
  have an := (Below.refl W5.heap.size W5).alloc (Nat.le_refl _) (.cells #[.int .i64 t] 3)
  refine (xcuZ (s, false) [t] w4.heap.size w.heap.size _ _ (hsa.kept an) (xa8Z 1 1 qn rfl (by unfold maxLen; simp)) hl5 (by simp) (Nat.le_trans hB5 an.size) hBb).mono ?_
  rintro e w6 ⟨rfl, h6, b6'⟩
  have b6 := (an.mono hB5).trans b6'
  clear qn an b6'
  obtain ⟨v6, q6, r6⟩ := h6
  have g0 := xaaZ q6 0
  have g1 := xaaZ q6 1
  simp at g0 g1
  obtain ⟨p6, c6, rfl⟩ := xaiZ r6
  have HR6 := hideP r6
  clear r6 q6
  have hfin := hideP (show bhP p (P, L, r, C) (9, (k : Int)) s = tk (s, false) [t] by rw [← HTD.out]; rfl)
  go_wp2_with fail
  go_quiet (fail)
  go_wp2
  go_ret2
  rw [hfin.out]
  refine ⟨_, rfl, ?_, (hw5.trans b6).trans ⟨rfl, rfl, rfl, Nat.le_refl _, fun _ _ => rfl⟩⟩
  exact HR6.out
theorem xnnZ (c a : Int) (p : List Fn) (f : Fn) (s : List Int) (vs pv c0 c1 c2 c3 : Value) (w : World) (ho : OkOp p f (c, a)) (hs : s.length ≤ 8) (hvs : IntsAt w vs s) (hnil : NilOk vs) (hp : FnsAt w pv p) (hcp : CapAt w pv) (hf : FnAt w c0 c1 c2 c3 f) (hc : c = 12) : Calls Tryz.prog 159 #[.agg #[.int .i64 c, .int .i64 a], vs, .agg #[pv], .agg #[c0, c1, c2, c3]] w fun e w' => ∃ u, e = .returned (.tuple #[u, .bool (!(bhP p f (c, a) s).2)]) ∧ w'.ownsRow w.heap.size 3 1 u (bhP p f (c, a) s).1.length ((bhP p f (c, a) s).1.map (Value.int .i64)) ∧ Below w.heap.size w w' := by
  subst hc
  obtain ⟨P, L, r, C⟩ := f
  obtain ⟨rfl, hI, rfl, hO⟩ := id hf
  simp only at hI hO
  obtain ⟨p1, q1, rfl, _, hLc⟩ := id hI
  obtain ⟨p3, q3, rfl, _, _⟩ := id hO
  obtain ⟨pp, qp, rfl, _, hpc⟩ := id hp
  obtain ⟨ps, qs, rfl, _, _⟩ := id hvs
  obtain ⟨W3, hW3⟩ : ∃ W3, ((w.alloc (.cells #[.int .i64 12, .int .i64 a] 86)).alloc (.cells #[.slice pp p.length qp] 24)).alloc (.cells #[.int .i64 P, .slice p1 L.length q1, .int .i64 r, .slice p3 C.length q3] 119) = W3 := ⟨_, rfl⟩
  have hw3 : Below w.heap.size w W3 := by rw [← hW3]; exact (((Below.refl _ w).alloc (Nat.le_refl _) _).alloc (by simp) _).alloc (by simp; omega) _
  have x0 : W3.heap[w.heap.size]? = some (.cells #[.int .i64 12, .int .i64 a] 86 (0, 0)) := by rw [← hW3]; exact xalZ (xalZ (World.alloc_heap_new w _) _) _
  have x1 : W3.heap[w.heap.size + 1]? = some (.cells #[.slice pp p.length qp] 24 (0, 0)) := by rw [← hW3]; exact xalZ (xa1Z w _ _) _
  have x2 : W3.heap[w.heap.size + 1 + 1]? = some (.cells #[.int .i64 P, .slice p1 L.length q1, .int .i64 r, .slice p3 C.length q3] 119 (0, 0)) := by
    rw [← hW3]
    have := World.alloc_heap_new ((w.alloc (.cells #[.int .i64 12, .int .i64 a] 86)).alloc (.cells #[.slice pp p.length qp] 24)) (.cells #[.int .i64 P, .slice p1 L.length q1, .int .i64 r, .slice p3 C.length q3] 119)
    simpa using this
  have HVS := hideP (hvs.below hw3)
  have HNIL := hideP hnil
  have HCL := hideP (xbmZ s _ W3 HVS.out HNIL.out (by omega))
  have HP3 := hideP (hp.below hw3)
  have HC3 := hideP (hcp.below hp hw3)
  have HF3 := hideP (hf.below hw3)
  have HOK := hideP ho
  have X0 := hideP x0
  have X1 := hideP x1
  have X2 := hideP x2
  have HS8 := hideP hs
  clear ho hvs hnil hp hcp hf hI hO hLc hpc x0 x1 x2 hs
  go_enter Tryz.func159, Tryz.ntmps159
  go_wp2_with fail
  refine HCL.out.mono ?_
  rintro e w4 ⟨u4, rfl, r4, hb4⟩
  obtain ⟨p4, q4, rfl⟩ := xaiZ r4
  obtain ⟨W5, hW5⟩ : ∃ W5, w4.alloc (.cells #[.slice p4 s.length q4, .bool false] 227) = W5 := ⟨_, rfl⟩
  have hb5 : Below W3.heap.size W3 W5 := by rw [← hW5]; exact hb4.alloc hb4.size _
  have y5 : W5.heap[w4.heap.size]? = some (.cells #[.slice p4 s.length q4, .bool false] 227 (0, 0)) := by rw [← hW5]; exact World.alloc_heap_new w4 _
  have hsz5 : W5.heap.size = w4.heap.size + 1 := by rw [← hW5]; simp
  have hsa : SA W5 w4.heap.size w.heap.size (s, false) := ⟨_, y5, by rw [← hW5]; exact (xapZ r4 hw3.size).alloc _⟩
  have X05 := hideP ((hb4.block _ (xacZ X0.out)).trans X0.out)
  have X15 := hideP ((hb4.block _ (xacZ X1.out)).trans X1.out)
  have X25 := hideP ((hb4.block _ (xacZ X2.out)).trans X2.out)
  have d0 := xaaZ X05.out 0
  have d1 := xaaZ X05.out 1
  have k0 := xaaZ X15.out 0
  have f0 := xaaZ X25.out 0
  have f1 := xaaZ X25.out 1
  have f2 := xaaZ X25.out 2
  have f3 := xaaZ X25.out 3
  simp at d0 d1 k0 f0 f1 f2 f3
  have d0 := fun o => xabZ d0 o
  have d1 := fun o => xabZ d1 o
  have k0 := fun o => xabZ k0 o
  have f0 := fun o => xabZ f0 o
  have f1 := fun o => xabZ f1 o
  have f2 := fun o => xabZ f2 o
  have f3 := fun o => xabZ f3 o
  have hB5 : w.heap.size ≤ W5.heap.size := Nat.le_trans hw3.size hb5.size
  have hBb : w.heap.size ≤ w4.heap.size := Nat.le_trans hw3.size hb4.size
  have hl5 : ((s, false) : St).1.length ≤ 100 := Nat.le_trans HS8.out (by omega)
  have hw5 : Below w.heap.size w W5 := hw3.trans (hb5.mono hw3.size)
  have HY5 := hideP y5
  have HW5 := hideP hW5
  have HSZ5 := hideP hsz5
  clear hsz5
  clear r4 y5 X0 X1 X2 X05 X15 X25 HCL HVS HNIL hW5
  have hcall := HOK.out.call rfl
  simp only at hcall
  obtain ⟨k, rfl⟩ : ∃ k : Nat, a = k := ⟨a.toNat, by omega⟩
  have hk : k < p.length := by omega
  obtain ⟨g, hg⟩ := xagZ hk
  have hgo := HOK.out.fns g (List.mem_of_getElem? hg)
  obtain ⟨pF, qF, heF, _, hcF⟩ := HP3.out
  cases heF
  obtain ⟨bF, oF, e0, e1, e2, e3, hpF, hbF, y0, y1, y2, y3, hfn⟩ := hcF k g hg
  subst hpF
  have z0 := fun o => xabZ ((hb4.cell (p := ⟨bF, oF + k * 4, none⟩) hbF).trans y0) o
  have z1 := fun o => xabZ ((hb4.cell (p := ⟨bF, oF + k * 4 + 1, none⟩) hbF).trans y1) o
  have z2 := fun o => xabZ ((hb4.cell (p := ⟨bF, oF + k * 4 + 2, none⟩) hbF).trans y2) o
  have z3 := fun o => xabZ ((hb4.cell (p := ⟨bF, oF + k * 4 + 3, none⟩) hbF).trans y3) o
  have hfn5 := hfn.below hb5
  have hcapg : ∀ p n c, e1 = .slice p n c → n ≤ c := fun p' n' c' he => HC3.out bF oF _ _ k p' n' c' rfl hk (by rw [y1, he])
  have HG := hideP hg
  have hkp : (k : Int) < (p.length : Int) := by omega
  have HCALL := hideP (call_any g e0 e1 e2 e3 (s, false) w4.heap.size w.heap.size W5 hsa hl5 hB5 hBb hfn5 ⟨hgo.1, hgo.2.1⟩ hgo.2.2.1 hcapg)
  obtain ⟨hh0, ⟨pg1, qg1, hh1, _, _⟩, hh2, ⟨pg3, qg3, hh3, _, _⟩⟩ := id hfn5
  subst hh0 hh1 hh2 hh3
  clear hcF hg y0 y1 y2 y3 hfn hfn5 hcapg hcall hgo
  go_wp2_with fail
  rw [HW5.out]
  refine HCALL.out.mono ?_
  rintro e w6 ⟨rfl, h6, b6⟩
  obtain ⟨v6, q6, r6⟩ := h6
  have g0 := xaaZ q6 0
  have g1 := xaaZ q6 1
  simp at g0 g1
  obtain ⟨p6, c6, rfl⟩ := xaiZ r6
  have HR6 := hideP r6
  clear r6 q6
  have hfin := hideP (show bhP p (P, L, r, C) (12, (k : Int)) s = lv (tk (s, false) (g.2.1.take g.1.toNat)) (resL g) by simp [bhP, HG.out])
  go_wp2_with fail
  go_quiet (fail)
  go_wp2
  go_ret2
  rw [hfin.out]
  refine ⟨_, rfl, ?_, (hw5.trans b6).trans ⟨rfl, rfl, rfl, Nat.le_refl _, fun _ _ => rfl⟩⟩
  exact HR6.out
theorem xnoZ (c a : Int) (p : List Fn) (f : Fn) (s : List Int) (vs pv c0 c1 c2 c3 : Value) (w : World) (ho : OkOp p f (c, a)) (hs : s.length ≤ 8) (hvs : IntsAt w vs s) (hnil : NilOk vs) (hp : FnsAt w pv p) (hcp : CapAt w pv) (hf : FnAt w c0 c1 c2 c3 f) (hc : c = 13) : Calls Tryz.prog 159 #[.agg #[.int .i64 c, .int .i64 a], vs, .agg #[pv], .agg #[c0, c1, c2, c3]] w fun e w' => ∃ u, e = .returned (.tuple #[u, .bool (!(bhP p f (c, a) s).2)]) ∧ w'.ownsRow w.heap.size 3 1 u (bhP p f (c, a) s).1.length ((bhP p f (c, a) s).1.map (Value.int .i64)) ∧ Below w.heap.size w w' := by
  subst hc
  obtain ⟨P, L, r, C⟩ := f
  obtain ⟨rfl, hI, rfl, hO⟩ := id hf
  simp only at hI hO
  obtain ⟨p1, q1, rfl, _, hLc⟩ := id hI
  obtain ⟨p3, q3, rfl, _, _⟩ := id hO
  obtain ⟨pp, qp, rfl, _, hpc⟩ := id hp
  obtain ⟨ps, qs, rfl, _, _⟩ := id hvs
  obtain ⟨W3, hW3⟩ : ∃ W3, ((w.alloc (.cells #[.int .i64 13, .int .i64 a] 86)).alloc (.cells #[.slice pp p.length qp] 24)).alloc (.cells #[.int .i64 P, .slice p1 L.length q1, .int .i64 r, .slice p3 C.length q3] 119) = W3 := ⟨_, rfl⟩
  have hw3 : Below w.heap.size w W3 := by rw [← hW3]; exact (((Below.refl _ w).alloc (Nat.le_refl _) _).alloc (by simp) _).alloc (by simp; omega) _
  have x0 : W3.heap[w.heap.size]? = some (.cells #[.int .i64 13, .int .i64 a] 86 (0, 0)) := by rw [← hW3]; exact xalZ (xalZ (World.alloc_heap_new w _) _) _
  have x1 : W3.heap[w.heap.size + 1]? = some (.cells #[.slice pp p.length qp] 24 (0, 0)) := by rw [← hW3]; exact xalZ (xa1Z w _ _) _
  have x2 : W3.heap[w.heap.size + 1 + 1]? = some (.cells #[.int .i64 P, .slice p1 L.length q1, .int .i64 r, .slice p3 C.length q3] 119 (0, 0)) := by
    rw [← hW3]
    have := World.alloc_heap_new ((w.alloc (.cells #[.int .i64 13, .int .i64 a] 86)).alloc (.cells #[.slice pp p.length qp] 24)) (.cells #[.int .i64 P, .slice p1 L.length q1, .int .i64 r, .slice p3 C.length q3] 119)
    simpa using this
  have HVS := hideP (hvs.below hw3)
  have HNIL := hideP hnil
  have HCL := hideP (xbmZ s _ W3 HVS.out HNIL.out (by omega))
  have HP3 := hideP (hp.below hw3)
  have HC3 := hideP (hcp.below hp hw3)
  have HF3 := hideP (hf.below hw3)
  have HOK := hideP ho
  have X0 := hideP x0
  have X1 := hideP x1
  have X2 := hideP x2
  have HS8 := hideP hs
  clear ho hvs hnil hp hcp hf hI hO hLc hpc x0 x1 x2 hs
  go_enter Tryz.func159, Tryz.ntmps159
  go_wp2_with fail
  refine HCL.out.mono ?_
  rintro e w4 ⟨u4, rfl, r4, hb4⟩
  obtain ⟨p4, q4, rfl⟩ := xaiZ r4
  obtain ⟨W5, hW5⟩ : ∃ W5, w4.alloc (.cells #[.slice p4 s.length q4, .bool false] 227) = W5 := ⟨_, rfl⟩
  have hb5 : Below W3.heap.size W3 W5 := by rw [← hW5]; exact hb4.alloc hb4.size _
  have y5 : W5.heap[w4.heap.size]? = some (.cells #[.slice p4 s.length q4, .bool false] 227 (0, 0)) := by rw [← hW5]; exact World.alloc_heap_new w4 _
  have hsz5 : W5.heap.size = w4.heap.size + 1 := by rw [← hW5]; simp
  have hsa : SA W5 w4.heap.size w.heap.size (s, false) := ⟨_, y5, by rw [← hW5]; exact (xapZ r4 hw3.size).alloc _⟩
  have X05 := hideP ((hb4.block _ (xacZ X0.out)).trans X0.out)
  have X15 := hideP ((hb4.block _ (xacZ X1.out)).trans X1.out)
  have X25 := hideP ((hb4.block _ (xacZ X2.out)).trans X2.out)
  have d0 := xaaZ X05.out 0
  have d1 := xaaZ X05.out 1
  have k0 := xaaZ X15.out 0
  have f0 := xaaZ X25.out 0
  have f1 := xaaZ X25.out 1
  have f2 := xaaZ X25.out 2
  have f3 := xaaZ X25.out 3
  simp at d0 d1 k0 f0 f1 f2 f3
  have d0 := fun o => xabZ d0 o
  have d1 := fun o => xabZ d1 o
  have k0 := fun o => xabZ k0 o
  have f0 := fun o => xabZ f0 o
  have f1 := fun o => xabZ f1 o
  have f2 := fun o => xabZ f2 o
  have f3 := fun o => xabZ f3 o
  have hB5 : w.heap.size ≤ W5.heap.size := Nat.le_trans hw3.size hb5.size
  have hBb : w.heap.size ≤ w4.heap.size := Nat.le_trans hw3.size hb4.size
  have hl5 : ((s, false) : St).1.length ≤ 100 := Nat.le_trans HS8.out (by omega)
  have hw5 : Below w.heap.size w W5 := hw3.trans (hb5.mono hw3.size)
  have HY5 := hideP y5
  have HW5 := hideP hW5
  have HSZ5 := hideP hsz5
  clear hsz5
  clear r4 y5 X0 X1 X2 X05 X15 X25 HCL HVS HNIL hW5
  go_wp2_with fail
  rw [HW5.out]
  refine (xk3Z P r p1 p3 L.length q1 C.length q3 W5).mono ?_
  rintro e w7 ⟨u7, rfl, hr7, hb7⟩
  have hR7 : w7.ownsRow W5.heap.size 3 1 u7 (resL (P, L, r, C)).length ((resL (P, L, r, C)).map (Value.int .i64)) := hr7
  have hrl : (resL (P, L, r, C)).length ≤ 100 := by unfold resL; split <;> simp
  have HI7 := hideP (xbaZ rfl hR7)
  clear hr7 hR7
  go_wp2_with fail
  refine (xcuZ (s, false) _ w4.heap.size w.heap.size u7 w7 (hsa.kept hb7) HI7.out hl5 hrl (Nat.le_trans hB5 hb7.size) hBb).mono ?_
  rintro e w8 ⟨rfl, h8, b8⟩
  obtain ⟨RR, hRR⟩ : ∃ RR, tk (s, false) (resL (P, L, r, C)) = RR := ⟨_, rfl⟩
  rw [hRR] at h8
  have HRR := hideP hRR
  clear hRR
  obtain ⟨R1, R2⟩ := RR
  obtain ⟨v8, q8, r8⟩ := h8
  simp only at q8 r8
  obtain ⟨p8, c8, rfl⟩ := xaiZ r8
  have m0 := xaaZ q8 0
  have m1 := xaaZ q8 1
  have n1 := Lib.frozen_of_heap q8 1
  simp at m0 m1
  have HQ8 := hideP q8
  have HR8 := hideP r8
  clear q8 r8
  obtain ⟨w6, hw6⟩ : ∃ w6, w8.setCell ⟨w4.heap.size, 1, none⟩ (.bool (R2 || decide (0 < R1.length))) = w6 := ⟨_, rfl⟩
  have hg6 : w8.grownBy w6 (some w4.heap.size) := by rw [← hw6]; exact xakZ _ _ _
  have h6 : SA w6 w4.heap.size w.heap.size (R1, R2 || decide (0 < R1.length)) := by
    have := heap_setCell_same w8 w4.heap.size 1 _ _ (.bool (R2 || decide (0 < R1.length))) HQ8.out
    rw [hw6] at this
    exact StAt.set HQ8.out (by simpa using this) HR8.out hg6
  have b6 : Below w.heap.size W5 w6 := ((hb7.mono hB5).trans b8).grown hg6 (by have := b8.size; have := hb7.size; omega) (fun k hk => by cases hk; exact hBb)
  have hdec : decide ((R1.length : Int) > 0) = decide (0 < R1.length) := by rw [Bool.eq_iff_iff, decide_eq_true_iff, decide_eq_true_iff]; omega
  have hdec2 : decide ((0 : Int) < (R1.length : Int)) = decide (0 < R1.length) := by rw [Bool.eq_iff_iff, decide_eq_true_iff, decide_eq_true_iff]; omega
  obtain ⟨v6, q6, r6⟩ := h6
  have g0 := xaaZ q6 0
  have g1 := xaaZ q6 1
  simp at g0 g1
  obtain ⟨p6, c6, rfl⟩ := xaiZ r6
  have HR6 := hideP r6
  clear r6 q6
  have hfin := hideP (show bhP p (P, L, r, C) (13, a) s = (R1, R2 || decide (0 < R1.length)) by simp only [bhP]; rw [HRR.out]; rfl)
  obtain ⟨dd, hdd⟩ : ∃ dd, decide (0 < R1.length) = dd := ⟨_, rfl⟩
  rw [hdd] at hw6 g1 hfin hdec hdec2
  cases R2
  all_goals
    simp only [Bool.false_or, Bool.true_or] at hw6 g1 hfin m1
    go_wp2_with fail
    go_quiet (fail)
    go_wp2
    go_ret2
    rw [hfin.out]
    refine ⟨_, rfl, ?_, (hw5.trans b6).trans ⟨rfl, rfl, rfl, Nat.le_refl _, fun _ _ => rfl⟩⟩
    exact HR6.out
theorem xpdZ (c a : Int) (p : List Fn) (f : Fn) (s : List Int) (vs pv c0 c1 c2 c3 : Value) (w : World) (ho : OkOp p f (c, a)) (hs : s.length ≤ 8) (hvs : IntsAt w vs s) (hnil : NilOk vs) (hp : FnsAt w pv p) (hcp : CapAt w pv) (hf : FnAt w c0 c1 c2 c3 f) (n2 : c ≠ 2) (n3 : c ≠ 3) (n4 : c ≠ 4) (n8 : c ≠ 8) (n9 : c ≠ 9) (n12 : c ≠ 12) (n13 : c ≠ 13) : Calls Tryz.prog 159 #[.agg #[.int .i64 c, .int .i64 a], vs, .agg #[pv], .agg #[c0, c1, c2, c3]] w fun e w' => ∃ u, e = .returned (.tuple #[u, .bool (!(bhP p f (c, a) s).2)]) ∧ w'.ownsRow w.heap.size 3 1 u (bhP p f (c, a) s).1.length ((bhP p f (c, a) s).1.map (Value.int .i64)) ∧ Below w.heap.size w w' := by
  have hcode := ho.code
  simp only at hcode
  have e2 : (c == 2) = false := by simp [n2]
  have e3 : (c == 3) = false := by simp [n3]
  have e4 : (c == 4) = false := by simp [n4]
  have e8 : (c == 8) = false := by simp [n8]
  have e9 : (c == 9) = false := by simp [n9]
  have e12 : (c == 12) = false := by simp [n12]
  have e13 : (c == 13) = false := by simp [n13]
  obtain ⟨P, L, r, C⟩ := f
  obtain ⟨rfl, hI, rfl, hO⟩ := id hf
  simp only at hI hO
  obtain ⟨p1, q1, rfl, _, hLc⟩ := id hI
  obtain ⟨p3, q3, rfl, _, _⟩ := id hO
  obtain ⟨pp, qp, rfl, _, hpc⟩ := id hp
  obtain ⟨ps, qs, rfl, _, _⟩ := id hvs
  obtain ⟨W3, hW3⟩ : ∃ W3, ((w.alloc (.cells #[.int .i64 c, .int .i64 a] 86)).alloc (.cells #[.slice pp p.length qp] 24)).alloc (.cells #[.int .i64 P, .slice p1 L.length q1, .int .i64 r, .slice p3 C.length q3] 119) = W3 := ⟨_, rfl⟩
  have hw3 : Below w.heap.size w W3 := by rw [← hW3]; exact (((Below.refl _ w).alloc (Nat.le_refl _) _).alloc (by simp) _).alloc (by simp; omega) _
  have x0 : W3.heap[w.heap.size]? = some (.cells #[.int .i64 c, .int .i64 a] 86 (0, 0)) := by rw [← hW3]; exact xalZ (xalZ (World.alloc_heap_new w _) _) _
  have x1 : W3.heap[w.heap.size + 1]? = some (.cells #[.slice pp p.length qp] 24 (0, 0)) := by rw [← hW3]; exact xalZ (xa1Z w _ _) _
  have x2 : W3.heap[w.heap.size + 1 + 1]? = some (.cells #[.int .i64 P, .slice p1 L.length q1, .int .i64 r, .slice p3 C.length q3] 119 (0, 0)) := by
    rw [← hW3]
    have := World.alloc_heap_new ((w.alloc (.cells #[.int .i64 c, .int .i64 a] 86)).alloc (.cells #[.slice pp p.length qp] 24)) (.cells #[.int .i64 P, .slice p1 L.length q1, .int .i64 r, .slice p3 C.length q3] 119)
    simpa using this
  have HVS := hideP (hvs.below hw3)
  have HNIL := hideP hnil
  have HCL := hideP (xbmZ s _ W3 HVS.out HNIL.out (by omega))
  have HP3 := hideP (hp.below hw3)
  have HC3 := hideP (hcp.below hp hw3)
  have HF3 := hideP (hf.below hw3)
  have HOK := hideP ho
  have X0 := hideP x0
  have X1 := hideP x1
  have X2 := hideP x2
  have HS8 := hideP hs
  clear ho hvs hnil hp hcp hf hI hO hLc hpc x0 x1 x2 hs
  go_enter Tryz.func159, Tryz.ntmps159
  go_wp2_with fail
  refine HCL.out.mono ?_
  rintro e w4 ⟨u4, rfl, r4, hb4⟩
  obtain ⟨p4, q4, rfl⟩ := xaiZ r4
  obtain ⟨W5, hW5⟩ : ∃ W5, w4.alloc (.cells #[.slice p4 s.length q4, .bool false] 227) = W5 := ⟨_, rfl⟩
  have hb5 : Below W3.heap.size W3 W5 := by rw [← hW5]; exact hb4.alloc hb4.size _
  have y5 : W5.heap[w4.heap.size]? = some (.cells #[.slice p4 s.length q4, .bool false] 227 (0, 0)) := by rw [← hW5]; exact World.alloc_heap_new w4 _
  have hsz5 : W5.heap.size = w4.heap.size + 1 := by rw [← hW5]; simp
  have hsa : SA W5 w4.heap.size w.heap.size (s, false) := ⟨_, y5, by rw [← hW5]; exact (xapZ r4 hw3.size).alloc _⟩
  have X05 := hideP ((hb4.block _ (xacZ X0.out)).trans X0.out)
  have X15 := hideP ((hb4.block _ (xacZ X1.out)).trans X1.out)
  have X25 := hideP ((hb4.block _ (xacZ X2.out)).trans X2.out)
  have d0 := xaaZ X05.out 0
  have d1 := xaaZ X05.out 1
  have k0 := xaaZ X15.out 0
  have f0 := xaaZ X25.out 0
  have f1 := xaaZ X25.out 1
  have f2 := xaaZ X25.out 2
  have f3 := xaaZ X25.out 3
  simp at d0 d1 k0 f0 f1 f2 f3
  have d0 := fun o => xabZ d0 o
  have d1 := fun o => xabZ d1 o
  have k0 := fun o => xabZ k0 o
  have f0 := fun o => xabZ f0 o
  have f1 := fun o => xabZ f1 o
  have f2 := fun o => xabZ f2 o
  have f3 := fun o => xabZ f3 o
  have hB5 : w.heap.size ≤ W5.heap.size := Nat.le_trans hw3.size hb5.size
  have hBb : w.heap.size ≤ w4.heap.size := Nat.le_trans hw3.size hb4.size
  have hl5 : ((s, false) : St).1.length ≤ 100 := Nat.le_trans HS8.out (by omega)
  have hw5 : Below w.heap.size w W5 := hw3.trans (hb5.mono hw3.size)
  have HY5 := hideP y5
  have HW5 := hideP hW5
  have HSZ5 := hideP hsz5
  clear hsz5
  clear r4 y5 X0 X1 X2 X05 X15 X25 HCL HVS HNIL hW5
  go_wp2_with fail
  rw [HW5.out]
  refine (do_any c hcode ⟨n2, n3, n4, n8, n9, n12, n13⟩ (s, false) w4.heap.size w.heap.size W5 hsa hl5 hB5 hBb).mono ?_
  rintro e w6 ⟨rfl, h6, b6⟩
  obtain ⟨v6, q6, r6⟩ := h6
  have g0 := xaaZ q6 0
  have g1 := xaaZ q6 1
  simp at g0 g1
  obtain ⟨p6, c6, rfl⟩ := xaiZ r6
  have HR6 := hideP r6
  clear r6 q6
  have hfin := hideP (show bhP p (P, L, r, C) (c, a) s = doS (s, false) c by simp only [bhP, if_neg n2, if_neg n3, if_neg n4, if_neg n8, if_neg n9, if_neg n12, if_neg n13]; rfl)
  go_wp2_with fail
  go_quiet (fail)
  go_wp2
  go_ret2
  rw [hfin.out]
  refine ⟨_, rfl, ?_, (hw5.trans b6).trans ⟨rfl, rfl, rfl, Nat.le_refl _, fun _ _ => rfl⟩⟩
  exact HR6.out
theorem behind_any (c a : Int) (p : List Fn) (f : Fn) (s : List Int) (vs pv c0 c1 c2 c3 : Value) (w : World) (ho : OkOp p f (c, a)) (hs : s.length ≤ 8) (hvs : IntsAt w vs s) (hnil : NilOk vs) (hp : FnsAt w pv p) (hcp : CapAt w pv) (hf : FnAt w c0 c1 c2 c3 f) : Calls Tryz.prog 159 #[.agg #[.int .i64 c, .int .i64 a], vs, .agg #[pv], .agg #[c0, c1, c2, c3]] w fun e w' => ∃ u, e = .returned (.tuple #[u, .bool (tryOp p f (c, a) s).isSome]) ∧ (∀ out, tryOp p f (c, a) s = some out → w'.ownsRow w.heap.size 3 1 u out.length (out.map (Value.int .i64))) ∧ (∃ p n c, u = .slice p n c) ∧ Below w.heap.size w w' := by
  have key : Calls Tryz.prog 159 #[.agg #[.int .i64 c, .int .i64 a], vs, .agg #[pv], .agg #[c0, c1, c2, c3]] w fun e w' => ∃ u, e = .returned (.tuple #[u, .bool (!(bhP p f (c, a) s).2)]) ∧ w'.ownsRow w.heap.size 3 1 u (bhP p f (c, a) s).1.length ((bhP p f (c, a) s).1.map (Value.int .i64)) ∧ Below w.heap.size w w' := by
    by_cases n2 : c = 2
    · exact xo8Z c a p f s vs pv c0 c1 c2 c3 w ho hs hvs hnil hp hcp hf n2
    by_cases n3 : c = 3
    · exact xo9Z c a p f s vs pv c0 c1 c2 c3 w ho hs hvs hnil hp hcp hf n3
    by_cases n4 : c = 4
    · exact xpaZ c a p f s vs pv c0 c1 c2 c3 w ho hs hvs hnil hp hcp hf n4
    by_cases n8 : c = 8
    · exact xpbZ c a p f s vs pv c0 c1 c2 c3 w ho hs hvs hnil hp hcp hf n8
    by_cases n9 : c = 9
    · exact xpcZ c a p f s vs pv c0 c1 c2 c3 w ho hs hvs hnil hp hcp hf n9
    by_cases n12 : c = 12
    · exact xnnZ c a p f s vs pv c0 c1 c2 c3 w ho hs hvs hnil hp hcp hf n12
    by_cases n13 : c = 13
    · exact xnoZ c a p f s vs pv c0 c1 c2 c3 w ho hs hvs hnil hp hcp hf n13
    exact xpdZ c a p f s vs pv c0 c1 c2 c3 w ho hs hvs hnil hp hcp hf n2 n3 n4 n8 n9 n12 n13
  refine key.mono ?_
  rintro e w' ⟨u, rfl, hr, hb⟩
  have ht := bh_try (o := (c, a)) ho hs
  obtain ⟨q, d, hq⟩ := xaiZ hr
  refine ⟨u, ?_, fun out hout => ?_, ⟨_, _, _, hq⟩, hb⟩
  · rw [ht]
    cases (bhP p f (c, a) s).2 <;> rfl
  · rw [ht] at hout
    split at hout
    · cases hout
    · cases hout
      exact hr
end Go.Proofs.YtmjjkenblfndgaaGreat


/- verify.fit's closures: what lies in memory, and the round over the next places. -/
namespace Go.Proofs.YtmjjkenblfndgaaGreat
open Go.RowKit
set_option linter.unusedSimpArgs false
set_option linter.unusedVariables false
structure Wr (Rs Rm : Nat) (w w' : World) : Prop where
  os : w'.os = w.os
  tape : w'.tape = w.tape
  output : w'.output = w.output
  size : w.heap.size ≤ w'.heap.size
  block : ∀ k, k < w.heap.size → k ≠ Rs → k ≠ Rm → w'.heap[k]? = w.heap[k]?
theorem Wr.refl (Rs Rm : Nat) (w : World) : Wr Rs Rm w w := ⟨rfl, rfl, rfl, Nat.le_refl _, fun _ _ _ _ => rfl⟩
theorem Wr.trans {Rs Rm : Nat} {a b c : World} (h : Wr Rs Rm a b) (k : Wr Rs Rm b c) : Wr Rs Rm a c :=
  ⟨k.os.trans h.os, k.tape.trans h.tape, k.output.trans h.output, Nat.le_trans h.size k.size, fun j hj h1 h2 => (k.block j (Nat.lt_of_lt_of_le hj h.size) h1 h2).trans (h.block j hj h1 h2)⟩
theorem Wr.of_below {Rs Rm : Nat} {w w' : World} (h : Below w.heap.size w w') : Wr Rs Rm w w' := ⟨h.os, h.tape, h.output, h.size, fun k hk _ _ => h.block k hk⟩
theorem Wr.of_grown {Rs Rm r : Nat} {w w' : World} (h : w.grownBy w' (some r)) (hr : r = Rs ∨ r = Rm) : Wr Rs Rm w w' :=
  ⟨h.os, h.tape, h.output, h.size, fun k hk h1 h2 => h.block k hk (fun e => by cases e; rcases hr with h | h <;> omega)⟩
structure FB where
  pv : Value
  c0 : Value
  c1 : Value
  c2 : Value
  c3 : Value
  bf : Nat
  bm : Nat
  bs : Nat
  bp : Nat
  bc : Nat
  Rs : Nat
  Rm : Nat
abbrev caps (x : FB) : Array Value := #[.pointer (some ⟨x.bf, 0, none⟩), .pointer (some ⟨x.bm, 0, none⟩), .pointer (some ⟨x.bs, 0, none⟩), .pointer (some ⟨x.bp, 0, none⟩), .pointer (some ⟨x.bc, 0, none⟩)]
structure FI (x : FB) (W0 : World) (p : List Fn) (f : Fn) (E : Ents) (w : World) : Prop where
  bel : Below W0.heap.size W0 w
  len : E.length = f.2.2.2.length
  hRm : w.heap[x.Rm]? = some (.cells ((E.map Option.isSome).map Value.bool).toArray 4 (0, 0))
  hRs : ∃ V : List Value, V.length = E.length ∧ w.heap[x.Rs]? = some (.cells V.toArray 46 (0, 0)) ∧ (∀ v ∈ V, ∃ p n c, v = .slice p n c) ∧ ∀ (k : Nat) (s : List Int), E[k]? = some (some s) → ∃ v, V[k]? = some v ∧ IntsAt w v s ∧ NilOk v
  hbm : w.heap[x.bm]? = some (.cells #[.slice (some ⟨x.Rm, 0, none⟩) E.length E.length] 148 (0, 0))
  hbs : w.heap[x.bs]? = some (.cells #[.slice (some ⟨x.Rs, 0, none⟩) E.length E.length] 45 (0, 0))
  hbf : w.heap[x.bf]? = some (.cells #[x.c0, x.c1, x.c2, x.c3] 119 (0, 0))
  hbp : w.heap[x.bp]? = some (.cells #[x.pv] 24 (0, 0))
  hbc : w.heap[x.bc]? = some (.cells #[.func (.func 156) #[] (caps x)] 195 (0, 0))
  ok : ∀ (k : Nat) (s : List Int), E[k]? = some (some s) → s.length ≤ 8 ∧ tyL s
theorem IntsAt.wr {Rs Rm : Nat} {w w' : World} {v : Value} {l : List Int} {V : List Value} {B : List Bool} {t t' : TypeId} {fz fz' : Nat × Nat} (h : IntsAt w v l) (hs : w.heap[Rs]? = some (.cells V.toArray t fz)) (hV : ∀ v ∈ V, ∃ p n c, v = .slice p n c) (hm : w.heap[Rm]? = some (.cells (B.map Value.bool).toArray t' fz')) (hw : Wr Rs Rm w w') : IntsAt w' v l := by
  obtain ⟨p, c, rfl, hl, hc⟩ := h
  refine ⟨p, c, rfl, hl, fun k z hk => ?_⟩
  obtain ⟨b, off, rfl, hb, g⟩ := hc k z hk
  have n1 : b ≠ Rs := fun e => by
    subst e
    rw [xaaZ hs] at g
    have g2 : V[off + k]? = some (Value.int .i64 z) := by simpa using g
    obtain ⟨_, _, _, h⟩ := hV _ (List.mem_of_getElem? g2)
    cases h
  have n2 : b ≠ Rm := fun e => by
    subst e
    rw [xaaZ hm] at g
    simp at g
  exact ⟨b, off, rfl, Nat.lt_of_lt_of_le hb hw.size, (World.cell?_of_block (hw.block b hb n1 n2)).trans g⟩
theorem FI.ints {x : FB} {W0 : World} {p : List Fn} {f : Fn} {E : Ents} {w w' : World} {v : Value} {l : List Int} (h : FI x W0 p f E w) (hv : IntsAt w v l) (hw : Wr x.Rs x.Rm w w') : IntsAt w' v l := by
  obtain ⟨V, _, h2, h3, _⟩ := h.hRs
  exact hv.wr h2 h3 h.hRm hw
theorem FI.below {x : FB} {W0 : World} {p : List Fn} {f : Fn} {E : Ents} {w w' : World} (h : FI x W0 p f E w) (hb : Below w.heap.size w w') : FI x W0 p f E w' := by
  obtain ⟨V, h1, h2, h3, h4⟩ := h.hRs
  refine ⟨h.bel.trans (hb.mono h.bel.size), h.len, (hb.block _ (xacZ h.hRm)).trans h.hRm, ⟨V, h1, (hb.block _ (xacZ h2)).trans h2, h3, fun k s hk => ?_⟩, (hb.block _ (xacZ h.hbm)).trans h.hbm, (hb.block _ (xacZ h.hbs)).trans h.hbs, (hb.block _ (xacZ h.hbf)).trans h.hbf, (hb.block _ (xacZ h.hbp)).trans h.hbp, (hb.block _ (xacZ h.hbc)).trans h.hbc, h.ok⟩
  obtain ⟨v, a, b, c⟩ := h4 k s hk
  exact ⟨v, a, b.below hb, c⟩
def ComeP (x : FB) (W0 : World) (p : List Fn) (f : Fn) (E : Ents) (k : Nat) (s : List Int) (w : World) (e : Ending) (w' : World) : Prop :=
  ∃ ok E', e = .returned (.bool ok) ∧ FI x W0 p f E' w' ∧ Wr x.Rs x.Rm w w' ∧
    (∀ e', FitsBy p f e' → leE (ent E) e' → (∃ s', e' k = some s' ∧ leS s s' = true) → ok = true ∧ leE (ent E') e') ∧
    (ok = true → Went p f E E' ∧ k < f.2.2.2.length ∧ ∃ s', ent E' k = some s' ∧ leS s s' = true)
def ComeH (x : FB) (W0 : World) (p : List Fn) (f : Fn) (n : Nat) : Prop :=
  ∀ (E : Ents) (k : Nat) (s : List Int) (vs : Value) (w : World), mu E ≤ n → FI x W0 p f E w → k ≤ f.2.2.2.length → IntsAt w vs s → NilOk vs → s.length ≤ 8 → tyL s →
    Calls Tryz.prog 156 (#[.int .i64 k, vs] ++ caps x) w (ComeP x W0 p f E k s w)
theorem come1_any (x : FB) (W0 : World) (p : List Fn) (f : Fn) (n : Nat) (ih : ComeH x W0 p f n) (E : Ents) (k bl : Nat) (s : List Int) (vs : Value) (w : World) (hmu : mu E ≤ n) (hI : FI x W0 p f E w) (hk : k ≤ f.2.2.2.length) (hl : w.heap[bl]? = some (.cells #[vs] 46 (0, 0))) (hv : IntsAt w vs s) (hn : NilOk vs) (h8 : s.length ≤ 8) (ht : tyL s) :
    Calls Tryz.prog 161 #[.int .i64 k, .pointer (some ⟨x.bc, 0, none⟩), .pointer (some ⟨bl, 0, none⟩)] w fun e w' => ∃ e1, ComeP x W0 p f E k s w e1 w' ∧ ∃ ok, e1 = .returned (.bool ok) ∧ e = .returned (.bool (!ok)) := by
  have c1 := xaaZ hI.hbc 0
  have c2 := xaaZ hl 0
  simp at c1 c2
  have HC := hideP (ih E k s vs w hmu hI hk hv hn h8 ht)
  obtain ⟨pv, cv, hvs, _, _⟩ := id hv
  subst hvs
  dsimp only [caps] at c1
  clear hI hl hv ih
  go_enter Tryz.func161, Tryz.ntmps161
  go_wp2_with fail
  refine HC.out.mono ?_
  rintro e w2 ⟨ok, E', rfl, h1, h2, h3, h4⟩
  go_wp2
  go_ret
  exact ⟨_, ⟨ok, E', rfl, h1, h2, h3, h4⟩, ok, rfl, rfl⟩
def AllP (x : FB) (W0 : World) (p : List Fn) (f : Fn) (E : Ents) (L : List Nat) (s : List Int) (w : World) (ok : Bool) (w' : World) : Prop :=
  ∃ E', FI x W0 p f E' w' ∧ Wr x.Rs x.Rm w w' ∧
    (∀ e', FitsBy p f e' → leE (ent E) e' → (∀ k ∈ L, ∃ s', e' k = some s' ∧ leS s s' = true) → ok = true ∧ leE (ent E') e') ∧
    (ok = true → Went p f E E' ∧ ∀ k ∈ L, k < f.2.2.2.length ∧ ∃ s', ent E' k = some s' ∧ leS s s' = true)
def IdxP (x : FB) (W0 : World) (p : List Fn) (f : Fn) (E : Ents) (L : List Nat) (s : List Int) (w : World) (e : Ending) (w' : World) : Prop := ∃ r ok, e = .returned (.int .i64 r) ∧ decide (0 ≤ r) = !ok ∧ AllP x W0 p f E L s w ok w'
theorem ents8 {x : FB} {W0 : World} {p : List Fn} {f : Fn} {E : Ents} {w : World} (h : FI x W0 p f E w) : ∀ k s, ent E k = some s → s.length ≤ 8 := fun k s hs => (h.ok k s (xjsZ hs)).1
theorem xm7Z (x : FB) (W0 : World) (p : List Fn) (f : Fn) (n : Nat) (ih : ComeH x W0 p f n) (E : Ents) (L : List Nat) (bl : Nat) (s : List Int) (vs : Value) (pL : Option Addr) (cL : Nat) (w : World) (hmu : mu E ≤ n) (hI : FI x W0 p f E w) (hL : ∀ k ∈ L, k ≤ f.2.2.2.length) (hl : w.heap[bl]? = some (.cells #[vs] 46 (0, 0))) (hbl : bl ≠ x.Rs ∧ bl ≠ x.Rm) (hv : IntsAt w vs s) (hn : NilOk vs) (h8 : s.length ≤ 8) (ht : tyL s) (hvL : IntsAt w (.slice pL L.length cL) (L.map Int.ofNat)) (hLl : L.length ≤ 41) :
    Calls Tryz.prog 177 #[.slice pL L.length cL, .func (.func 161) #[] #[.pointer (some ⟨x.bc, 0, none⟩), .pointer (some ⟨bl, 0, none⟩)]] w (IdxP x W0 p f E L s w) := by
  have HI := hideP hI
  have HV := hideP hv
  have HVL := hideP hvL
  have HL := hideP hL
  have HLB := hideP hl
  clear hI hv hvL hL hl
  go_enter Tryz.func177, Tryz.ntmps177
  go_wp2
  go_loopw [5, 8] (fun _ i wr => ∃ (j : Nat) (E' : Ents), j ≤ L.length ∧ i = .int .i64 j ∧ FI x W0 p f E' wr ∧ Wr x.Rs x.Rm w wr ∧ (∀ e', FitsBy p f e' → leE (ent E) e' → (∀ k ∈ L, ∃ s', e' k = some s' ∧ leS s s' = true) → leE (ent E') e') ∧ Went p f E E' ∧ ∀ k ∈ L.take j, k < f.2.2.2.length ∧ ∃ s', ent E' k = some s' ∧ leS s s' = true) (fun _ i _ => L.length - (intOf i).toNat)
  case atStart => exact ⟨0, E, Nat.zero_le _, rfl, HI.out, Wr.refl _ _ _, fun _ _ h _ => h, Went.refl _ _ _, by simp⟩
  case round =>
    rename World => w2
    obtain ⟨j, E2, hj, rfl, hI2, hw2, hso, hwe, hall⟩ := hrel
    by_cases hjl : j < L.length
    · have hjli : (j : Int) < (L.length : Int) := by omega
      obtain ⟨k, hk⟩ := xagZ hjl
      have hvL2 := HI.out.ints HVL.out hw2
      have hv2 := HI.out.ints HV.out hw2
      have hlb2 := (hw2.block bl (xacZ HLB.out) hbl.1 hbl.2).trans HLB.out
      have hmu2 : mu E2 ≤ n := Nat.le_trans (mu_mono (by rw [hI2.len, HI.out.len]) (ents8 hI2) hwe.le) hmu
      obtain ⟨p', c', he, _, hc⟩ := hvL2
      obtain ⟨b, off, hp, hb, g⟩ := hc j (Int.ofNat k) (by rw [List.getElem?_map, hk]; rfl)
      rw [List.length_map] at he
      cases he
      subst hp
      have g' : w2.cell? ⟨b, off + j, none⟩ = some (.int .i64 (k : Int)) := g
      have HC := hideP (come1_any x W0 p f n ih E2 k bl s vs w2 hmu2 hI2 (HL.out k (List.mem_of_getElem? hk)) hlb2 hv2 hn h8 ht)
      have HK := hideP hk
      have HALL := hideP hall
      have HSO := hideP hso
      have HWE := hideP hwe
      clear hc g hk hall hso hwe hI2 hlb2
      go_wp2_with fail
      refine HC.out.mono ?_
      rintro e w3 ⟨e1, ⟨ok, E3, rfl, hI3, hw3, hs3, ho3⟩, ok', hok, rfl⟩
      cases hok
      cases ok
      · go_wp2
        go_ret
        refine ⟨j, false, rfl, by simp, E3, hI3, hw2.trans hw3, fun e' hf hle hto => ?_, fun h => by cases h⟩
        have := hs3 e' hf (HSO.out e' hf hle hto) (hto k (List.mem_of_getElem? HK.out))
        exact absurd this.1 (by decide)
      · go_wp2
        go_roundw
        case rel =>
          obtain ⟨hwe3, hk3, hsk3⟩ := ho3 trivial
          refine ⟨j + 1, E3, by omega, by go_num, hI3, hw2.trans hw3, fun e' hf hle hto => ?_, HWE.out.trans hwe3, fun y hy => ?_⟩
          · exact (hs3 e' hf (HSO.out e' hf hle hto) (hto k (List.mem_of_getElem? HK.out))).2
          · rw [xazZ L j k HK.out] at hy
            rcases List.mem_append.1 hy with hy | hy
            · obtain ⟨h1, s', h2, h3⟩ := HALL.out y hy
              obtain ⟨s'', h4, h5⟩ := hwe3.le y s' h2
              exact ⟨h1, s'', h4, xcwZ h3 h5⟩
            · simp at hy
              subst hy
              exact ⟨hk3, hsk3⟩
        case measure => simp [intOf]; omega
    · have hjli : ¬ (j : Int) < (L.length : Int) := by omega
      have HI2 := hideP hI2
      have HALL := hideP hall
      have HSO := hideP hso
      have HWE := hideP hwe
      clear hI2 hall hso hwe
      go_wp2
      go_ret
      refine ⟨-1, true, rfl, by decide, E2, HI2.out, hw2, fun e' hf hle hto => ⟨rfl, HSO.out e' hf hle hto⟩, fun _ => ⟨HWE.out, ?_⟩⟩
      have := HALL.out
      rw [List.take_of_length_le (by omega)] at this
      exact this
theorem xjoZ (x : FB) (W0 : World) (p : List Fn) (f : Fn) (n : Nat) (ih : ComeH x W0 p f n) (E : Ents) (L : List Nat) (bl : Nat) (s : List Int) (vs : Value) (pL : Option Addr) (cL : Nat) (w : World) (hmu : mu E ≤ n) (hI : FI x W0 p f E w) (hL : ∀ k ∈ L, k ≤ f.2.2.2.length) (hl : w.heap[bl]? = some (.cells #[vs] 46 (0, 0))) (hbl : bl ≠ x.Rs ∧ bl ≠ x.Rm) (hv : IntsAt w vs s) (hn : NilOk vs) (h8 : s.length ≤ 8) (ht : tyL s) (hvL : IntsAt w (.slice pL L.length cL) (L.map Int.ofNat)) (hLl : L.length ≤ 41) :
    Calls Tryz.prog 140 #[.slice pL L.length cL, .func (.func 161) #[] #[.pointer (some ⟨x.bc, 0, none⟩), .pointer (some ⟨bl, 0, none⟩)]] w fun e w' => ∃ ok, e = .returned (.bool (!ok)) ∧ AllP x W0 p f E L s w ok w' := by
  have HX := hideP (xm7Z x W0 p f n ih E L bl s vs pL cL w hmu hI hL hl hbl hv hn h8 ht hvL hLl)
  clear ih hI hL hl hv hvL
  go_enter Tryz.func140, Tryz.ntmps140
  go_wp2_with fail
  refine HX.out.mono ?_
  rintro e w2 ⟨r, ok, rfl, hr, hA⟩
  have HR := hideP hr
  have HA := hideP hA
  clear hr hA
  go_wp2
  go_ret
  exact ⟨ok, by rw [← HR.out]; rfl, HA.out⟩
end Go.Proofs.YtmjjkenblfndgaaGreat


