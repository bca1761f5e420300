/- My texts Ji Jj Xe: what of them is needed, joined. -/

import Derived.Test.YtgmkmlenhhhgkaaGreatF8
set_option maxRecDepth 100000
set_option maxHeartbeats 8000000
/- verify's stack: call; verify.behind. -/
namespace Go.Proofs.YtgmkmlenhhhgkaaGreat
open Go.RowKit
set_option linter.unusedSimpArgs false
set_option linter.unusedVariables false
theorem ints_take {w : World} {p : Option Addr} {q k : Nat} {L : List Int} (h : IntsAt w (.slice p L.length q) L) (hk : k ≤ L.length) : IntsAt w (.slice p k q) (L.take k) := by
  obtain ⟨p', q', he, hm, hc⟩ := h
  cases he
  refine ⟨p, q, by rw [List.length_take, Nat.min_eq_left hk], by rw [List.length_take]; omega, fun j z hj => ?_⟩
  have hj2 : j < k := by have := xauZ hj; rw [List.length_take] at this; omega
  rw [List.getElem?_take_of_lt hj2] at hj
  exact hc j z hj
theorem call_any (g : Fn) (c0 c1 c2 c3 : Value) (s : St) (b B : Nat) (w : World) (h : SA w b B s) (hl : s.1.length ≤ 100) (hB : B ≤ w.heap.size) (hBb : B ≤ b) (hg : FnAt w c0 c1 c2 c3 g) (hP : 0 ≤ g.1 ∧ g.1 ≤ (g.2.1.length : Int)) (h6 : g.2.1.length ≤ 6) (hcap : ∀ p n c, c1 = .slice p n c → n ≤ c) : Calls Tryz.prog 89 #[.pointer (some ⟨b, 0, none⟩), .agg #[c0, c1, c2, c3]] w fun e w' => e = .returned (.tuple #[]) ∧ SA w' b B (lv (tk s (g.2.1.take g.1.toNat)) (resL g)) ∧ Below B w w' := by
  obtain ⟨P, L, r, C⟩ := g
  have hg' := hg
  obtain ⟨rfl, hI, rfl, hO⟩ := hg'
  simp only at hP h6 hI hO
  obtain ⟨p1, q1, rfl, _, _⟩ := id hI
  obtain ⟨p3, q3, rfl, _, _⟩ := id hO
  obtain ⟨k, rfl⟩ : ∃ k : Nat, P = k := ⟨P.toNat, by omega⟩
  have hk : k ≤ L.length := by omega
  have hq1 : k ≤ q1 := by have := hcap _ _ _ rfl; omega
  obtain ⟨W1, hW1⟩ : ∃ W1, w.alloc (.cells #[.int .i64 k, .slice p1 L.length q1, .int .i64 r, .slice p3 C.length q3] 28) = W1 := ⟨_, rfl⟩
  have hw1 : Below w.heap.size w W1 := by rw [← hW1]; exact (Below.refl _ w).alloc (Nat.le_refl _) _
  have hh : W1.heap[w.heap.size]? = some (.cells #[.int .i64 k, .slice p1 L.length q1, .int .i64 r, .slice p3 C.length q3] 28 (0, 0)) := by rw [← hW1]; exact World.alloc_heap_new w _
  have d0 := xaaZ hh 0
  have d1 := xaaZ hh 1
  have d2 := xaaZ hh 2
  have d3 := xaaZ hh 3
  simp at d0 d1 d2 d3
  have hz := xabZ hh
  have HI1 := hideP (ints_take (hI.below hw1) hk)
  have HS1 := hideP (h.kept hw1)
  have HG1 := hideP (hg.below hw1)
  have hB1 : B ≤ W1.heap.size := Nat.le_trans hB hw1.size
  have hlt : (L.take k).length ≤ 100 := by rw [List.length_take]; omega
  have HH := hideP hh
  have e0 : ((k : Nat) : Int).toNat = k := by omega
  simp only [e0]
  have hblt := StAt.lt h
  clear h hg hI hO hh e0 hP hcap
  go_enter Tryz.func89, Tryz.ntmps89
  have hbl : b < w.heap.size := hblt
  go_wp2_with fail
  have hlen : (L.take k).length = k := by rw [List.length_take, Nat.min_eq_left hk]
  have hI1 := HI1.out
  rw [← hlen] at hI1
  have htk := xheZ s.1 (L.take k) s.2 b B p1 q1 W1 HS1.out (by rw [hlen]; rw [hlen] at hI1; exact hI1) hB1 hBb hl hlt
  rw [hlen] at htk
  have HTK := hideP htk
  clear hI1 htk
  refine HTK.out.mono ?_
  rintro e w2 ⟨rfl, hs2, hg2⟩
  have hS2 : SA w2 b B (tk s (L.take k)) := by
    have := hs2
    rw [← hlen] at this
    unfold SA tk
    rw [hlen] at this ⊢
    exact this
  have hl2 := Nat.le_trans (xciZ s (L.take k)) hl
  have hB2 : B ≤ w2.heap.size := Nat.le_trans hB1 hg2.size
  have hne : (some w.heap.size : Option Nat) ≠ some b := fun e => by have e2 : w.heap.size = b := (by simpa using e); omega
  have g0 := hg2.cell d0 hne
  have g1 := hg2.cell d1 hne
  have g2 := hg2.cell d2 hne
  have g3 := hg2.cell d3 hne
  have hBel2 : Below B W1 w2 := (Below.refl B W1).grown hg2 hB1 (fun k hk => by cases hk; exact hBb)
  clear hs2
  go_wp2_with fail
  refine (xgjZ k r p1 p3 L.length q1 C.length q3 w2).mono ?_
  rintro e w3 ⟨u, rfl, hr3, hb3⟩
  have hR3 : w3.ownsRow w2.heap.size 3 1 u (resL (k, L, r, C)).length ((resL (k, L, r, C)).map (Value.int .i64)) := hr3
  have hrl : (resL ((k : Int), L, r, C)).length ≤ 100 := by unfold resL; split <;> simp
  have HR3 := hideP (xaqZ rfl hR3)
  have HN3 := hideP (xc9Z hR3)
  have hS3 := hS2.kept hb3
  have hB3 : B ≤ w3.heap.size := Nat.le_trans hB2 hb3.size
  clear hr3 hR3
  go_wp2_with fail
  refine (xbsZ _ _ b B u w3 hS3 HR3.out HN3.out hl2 hrl hB3 hBb).mono ?_
  rintro e w4 ⟨rfl, hs4, hb4⟩
  go_wp2
  go_end0
  exact ⟨rfl, hs4, (hw1.mono hB).trans (hBel2.trans ((hb3.mono hB2).trans hb4))⟩
end Go.Proofs.YtgmkmlenhhhgkaaGreat


/- verify.behind. -/
namespace Go.Proofs.YtgmkmlenhhhgkaaGreat
open Go.RowKit
set_option linter.unusedSimpArgs false
set_option linter.unusedVariables false
def CapAt (W : World) (v : Value) : Prop := ∀ (b off n cap k : Nat) (p' : Option Addr) (n' c' : Nat), v = .slice (some ⟨b, off, none⟩) n cap → k < n → W.cell? ⟨b, off + k * 4 + 1, none⟩ = some (.slice p' n' c') → n' ≤ c'
theorem CapAt.below {W W' : World} {v : Value} {l : List Fn} (h : CapAt W v) (hf : FnsAt W v l) (hb : Below W.heap.size W W') : CapAt W' v := by
  intro b off n cap k p' n' c' hv hk hc
  obtain ⟨p, cap2, rfl, hm, hcc⟩ := hf
  cases hv
  obtain ⟨f, hf⟩ := xagZ hk
  obtain ⟨b2, off2, c0, c1, c2, c3, hp, hlt, _⟩ := hcc k f hf
  cases hp
  rw [hb.cell (p := ⟨b, off + k * 4 + 1, none⟩) hlt] at hc
  exact h b off l.length cap k p' n' c' rfl hk hc
theorem xisZ (c a : Int) (p : List Fn) (f : Fn) (s : List Int) (vs pv c0 c1 c2 c3 : Value) (w : World) (ho : OkOp p f (c, a)) (hs : s.length ≤ 8) (hvs : IntsAt w vs s) (hnil : NilOk vs) (hp : FnsAt w pv p) (hcp : CapAt w pv) (hf : FnAt w c0 c1 c2 c3 f) (hc : c = 2) : Calls Tryz.prog 62 #[.agg #[.int .i64 c, .int .i64 a], vs, .agg #[pv], .agg #[c0, c1, c2, c3]] w fun e w' => ∃ u, e = .returned (.tuple #[u, .bool (!(bhP p f (c, a) s).2)]) ∧ w'.ownsRow w.heap.size 3 1 u (bhP p f (c, a) s).1.length ((bhP p f (c, a) s).1.map (Value.int .i64)) ∧ Below w.heap.size w w' := by
  subst hc
  obtain ⟨P, L, r, C⟩ := f
  obtain ⟨rfl, hI, rfl, hO⟩ := id hf
  simp only at hI hO
  obtain ⟨p1, q1, rfl, _, hLc⟩ := id hI
  obtain ⟨p3, q3, rfl, _, _⟩ := id hO
  obtain ⟨pp, qp, rfl, _, hpc⟩ := id hp
  obtain ⟨ps, qs, rfl, _, _⟩ := id hvs
  obtain ⟨W3, hW3⟩ : ∃ W3, ((w.alloc (.cells #[.int .i64 2, .int .i64 a] 38)).alloc (.cells #[.slice pp p.length qp] 24)).alloc (.cells #[.int .i64 P, .slice p1 L.length q1, .int .i64 r, .slice p3 C.length q3] 28) = W3 := ⟨_, rfl⟩
  have hw3 : Below w.heap.size w W3 := by rw [← hW3]; exact (((Below.refl _ w).alloc (Nat.le_refl _) _).alloc (by simp) _).alloc (by simp; omega) _
  have x0 : W3.heap[w.heap.size]? = some (.cells #[.int .i64 2, .int .i64 a] 38 (0, 0)) := by rw [← hW3]; exact xaeZ (xaeZ (World.alloc_heap_new w _) _) _
  have x1 : W3.heap[w.heap.size + 1]? = some (.cells #[.slice pp p.length qp] 24 (0, 0)) := by rw [← hW3]; exact xaeZ (xa3Z w _ _) _
  have x2 : W3.heap[w.heap.size + 1 + 1]? = some (.cells #[.int .i64 P, .slice p1 L.length q1, .int .i64 r, .slice p3 C.length q3] 28 (0, 0)) := by
    rw [← hW3]
    have := World.alloc_heap_new ((w.alloc (.cells #[.int .i64 2, .int .i64 a] 38)).alloc (.cells #[.slice pp p.length qp] 24)) (.cells #[.int .i64 P, .slice p1 L.length q1, .int .i64 r, .slice p3 C.length q3] 28)
    simpa using this
  have HVS := hideP (hvs.below hw3)
  have HNIL := hideP hnil
  have HCL := hideP (xbkZ s _ W3 HVS.out HNIL.out (by omega))
  have HP3 := hideP (hp.below hw3)
  have HC3 := hideP (hcp.below hp hw3)
  have HF3 := hideP (hf.below hw3)
  have HOK := hideP ho
  have X0 := hideP x0
  have X1 := hideP x1
  have X2 := hideP x2
  have HS8 := hideP hs
  clear ho hvs hnil hp hcp hf hI hO hLc hpc x0 x1 x2 hs
  go_enter Tryz.func62, Tryz.ntmps62
  go_wp2_with fail
  refine HCL.out.mono ?_
  rintro e w4 ⟨u4, rfl, r4, hb4⟩
  obtain ⟨p4, q4, rfl⟩ := xahZ r4
  obtain ⟨W5, hW5⟩ : ∃ W5, w4.alloc (.cells #[.slice p4 s.length q4, .bool false] 123) = W5 := ⟨_, rfl⟩
  have hb5 : Below W3.heap.size W3 W5 := by rw [← hW5]; exact hb4.alloc hb4.size _
  have y5 : W5.heap[w4.heap.size]? = some (.cells #[.slice p4 s.length q4, .bool false] 123 (0, 0)) := by rw [← hW5]; exact World.alloc_heap_new w4 _
  have hsz5 : W5.heap.size = w4.heap.size + 1 := by rw [← hW5]; simp
  have hsa : SA W5 w4.heap.size w.heap.size (s, false) := ⟨_, y5, by rw [← hW5]; exact (xa2Z r4 hw3.size).alloc _⟩
  have X05 := hideP ((hb4.block _ (xabZ X0.out)).trans X0.out)
  have X15 := hideP ((hb4.block _ (xabZ X1.out)).trans X1.out)
  have X25 := hideP ((hb4.block _ (xabZ X2.out)).trans X2.out)
  have d0 := xaaZ X05.out 0
  have d1 := xaaZ X05.out 1
  have k0 := xaaZ X15.out 0
  have f0 := xaaZ X25.out 0
  have f1 := xaaZ X25.out 1
  have f2 := xaaZ X25.out 2
  have f3 := xaaZ X25.out 3
  simp at d0 d1 k0 f0 f1 f2 f3
  have d0 := fun o => xacZ d0 o
  have d1 := fun o => xacZ d1 o
  have k0 := fun o => xacZ k0 o
  have f0 := fun o => xacZ f0 o
  have f1 := fun o => xacZ f1 o
  have f2 := fun o => xacZ f2 o
  have f3 := fun o => xacZ f3 o
  have hB5 : w.heap.size ≤ W5.heap.size := Nat.le_trans hw3.size hb5.size
  have hBb : w.heap.size ≤ w4.heap.size := Nat.le_trans hw3.size hb4.size
  have hl5 : ((s, false) : St).1.length ≤ 100 := Nat.le_trans HS8.out (by omega)
  have hw5 : Below w.heap.size w W5 := hw3.trans (hb5.mono hw3.size)
  have HY5 := hideP y5
  have HW5 := hideP hW5
  have HSZ5 := hideP hsz5
  clear hsz5
  clear r4 y5 X0 X1 X2 X05 X15 X25 HCL HVS HNIL hW5
  go_wp2_with fail
  rw [HW5.out]
  refine (turn2_any (s, false) w4.heap.size w.heap.size W5 hsa hl5 hB5 hBb).mono ?_
  rintro e w6 ⟨rfl, h6, b6⟩
  obtain ⟨v6, q6, r6⟩ := h6
  have g0 := xaaZ q6 0
  have g1 := xaaZ q6 1
  simp at g0 g1
  obtain ⟨p6, c6, rfl⟩ := xahZ r6
  have HR6 := hideP r6
  clear r6 q6
  have hfin := hideP (show bhP p (P, L, r, C) (2, a) s = popS (s, false) from rfl)
  go_wp2_with fail
  go_quiet (fail)
  go_wp2
  go_ret2
  rw [hfin.out]
  refine ⟨_, rfl, ?_, (hw5.trans b6).trans ⟨rfl, rfl, rfl, Nat.le_refl _, fun _ _ => rfl⟩⟩
  exact HR6.out
theorem xitZ (c a : Int) (p : List Fn) (f : Fn) (s : List Int) (vs pv c0 c1 c2 c3 : Value) (w : World) (ho : OkOp p f (c, a)) (hs : s.length ≤ 8) (hvs : IntsAt w vs s) (hnil : NilOk vs) (hp : FnsAt w pv p) (hcp : CapAt w pv) (hf : FnAt w c0 c1 c2 c3 f) (hc : c = 3) : Calls Tryz.prog 62 #[.agg #[.int .i64 c, .int .i64 a], vs, .agg #[pv], .agg #[c0, c1, c2, c3]] w fun e w' => ∃ u, e = .returned (.tuple #[u, .bool (!(bhP p f (c, a) s).2)]) ∧ w'.ownsRow w.heap.size 3 1 u (bhP p f (c, a) s).1.length ((bhP p f (c, a) s).1.map (Value.int .i64)) ∧ Below w.heap.size w w' := by
  subst hc
  obtain ⟨P, L, r, C⟩ := f
  obtain ⟨rfl, hI, rfl, hO⟩ := id hf
  simp only at hI hO
  obtain ⟨p1, q1, rfl, _, hLc⟩ := id hI
  obtain ⟨p3, q3, rfl, _, _⟩ := id hO
  obtain ⟨pp, qp, rfl, _, hpc⟩ := id hp
  obtain ⟨ps, qs, rfl, _, _⟩ := id hvs
  obtain ⟨W3, hW3⟩ : ∃ W3, ((w.alloc (.cells #[.int .i64 3, .int .i64 a] 38)).alloc (.cells #[.slice pp p.length qp] 24)).alloc (.cells #[.int .i64 P, .slice p1 L.length q1, .int .i64 r, .slice p3 C.length q3] 28) = W3 := ⟨_, rfl⟩
  have hw3 : Below w.heap.size w W3 := by rw [← hW3]; exact (((Below.refl _ w).alloc (Nat.le_refl _) _).alloc (by simp) _).alloc (by simp; omega) _
  have x0 : W3.heap[w.heap.size]? = some (.cells #[.int .i64 3, .int .i64 a] 38 (0, 0)) := by rw [← hW3]; exact xaeZ (xaeZ (World.alloc_heap_new w _) _) _
  have x1 : W3.heap[w.heap.size + 1]? = some (.cells #[.slice pp p.length qp] 24 (0, 0)) := by rw [← hW3]; exact xaeZ (xa3Z w _ _) _
  have x2 : W3.heap[w.heap.size + 1 + 1]? = some (.cells #[.int .i64 P, .slice p1 L.length q1, .int .i64 r, .slice p3 C.length q3] 28 (0, 0)) := by
    rw [← hW3]
    have := World.alloc_heap_new ((w.alloc (.cells #[.int .i64 3, .int .i64 a] 38)).alloc (.cells #[.slice pp p.length qp] 24)) (.cells #[.int .i64 P, .slice p1 L.length q1, .int .i64 r, .slice p3 C.length q3] 28)
    simpa using this
  have HVS := hideP (hvs.below hw3)
  have HNIL := hideP hnil
  have HCL := hideP (xbkZ s _ W3 HVS.out HNIL.out (by omega))
  have HP3 := hideP (hp.below hw3)
  have HC3 := hideP (hcp.below hp hw3)
  have HF3 := hideP (hf.below hw3)
  have HOK := hideP ho
  have X0 := hideP x0
  have X1 := hideP x1
  have X2 := hideP x2
  have HS8 := hideP hs
  clear ho hvs hnil hp hcp hf hI hO hLc hpc x0 x1 x2 hs
  go_enter Tryz.func62, Tryz.ntmps62
  go_wp2_with fail
  refine HCL.out.mono ?_
  rintro e w4 ⟨u4, rfl, r4, hb4⟩
  obtain ⟨p4, q4, rfl⟩ := xahZ r4
  obtain ⟨W5, hW5⟩ : ∃ W5, w4.alloc (.cells #[.slice p4 s.length q4, .bool false] 123) = W5 := ⟨_, rfl⟩
  have hb5 : Below W3.heap.size W3 W5 := by rw [← hW5]; exact hb4.alloc hb4.size _
  have y5 : W5.heap[w4.heap.size]? = some (.cells #[.slice p4 s.length q4, .bool false] 123 (0, 0)) := by rw [← hW5]; exact World.alloc_heap_new w4 _
  have hsz5 : W5.heap.size = w4.heap.size + 1 := by rw [← hW5]; simp
  have hsa : SA W5 w4.heap.size w.heap.size (s, false) := ⟨_, y5, by rw [← hW5]; exact (xa2Z r4 hw3.size).alloc _⟩
  have X05 := hideP ((hb4.block _ (xabZ X0.out)).trans X0.out)
  have X15 := hideP ((hb4.block _ (xabZ X1.out)).trans X1.out)
  have X25 := hideP ((hb4.block _ (xabZ X2.out)).trans X2.out)
  have d0 := xaaZ X05.out 0
  have d1 := xaaZ X05.out 1
  have k0 := xaaZ X15.out 0
  have f0 := xaaZ X25.out 0
  have f1 := xaaZ X25.out 1
  have f2 := xaaZ X25.out 2
  have f3 := xaaZ X25.out 3
  simp at d0 d1 k0 f0 f1 f2 f3
  have d0 := fun o => xacZ d0 o
  have d1 := fun o => xacZ d1 o
  have k0 := fun o => xacZ k0 o
  have f0 := fun o => xacZ f0 o
  have f1 := fun o => xacZ f1 o
  have f2 := fun o => xacZ f2 o
  have f3 := fun o => xacZ f3 o
  have hB5 : w.heap.size ≤ W5.heap.size := Nat.le_trans hw3.size hb5.size
  have hBb : w.heap.size ≤ w4.heap.size := Nat.le_trans hw3.size hb4.size
  have hl5 : ((s, false) : St).1.length ≤ 100 := Nat.le_trans HS8.out (by omega)
  have hw5 : Below w.heap.size w W5 := hw3.trans (hb5.mono hw3.size)
  have HY5 := hideP y5
  have HW5 := hideP hW5
  have HSZ5 := hideP hsz5
  clear hsz5
  clear r4 y5 X0 X1 X2 X05 X15 X25 HCL HVS HNIL hW5
  go_wp2_with fail
  rw [HW5.out]
  refine (turn3_any (s, false) w4.heap.size w.heap.size W5 hsa hl5 hB5 hBb).mono ?_
  rintro e w6 ⟨rfl, h6, b6⟩
  obtain ⟨v6, q6, r6⟩ := h6
  have g0 := xaaZ q6 0
  have g1 := xaaZ q6 1
  simp at g0 g1
  obtain ⟨p6, c6, rfl⟩ := xahZ r6
  have HR6 := hideP r6
  clear r6 q6
  have hfin := hideP (show bhP p (P, L, r, C) (3, a) s = lv (popS (s, false)) [topP s, topP s] from rfl)
  go_wp2_with fail
  go_quiet (fail)
  go_wp2
  go_ret2
  rw [hfin.out]
  refine ⟨_, rfl, ?_, (hw5.trans b6).trans ⟨rfl, rfl, rfl, Nat.le_refl _, fun _ _ => rfl⟩⟩
  exact HR6.out
theorem xiuZ (c a : Int) (p : List Fn) (f : Fn) (s : List Int) (vs pv c0 c1 c2 c3 : Value) (w : World) (ho : OkOp p f (c, a)) (hs : s.length ≤ 8) (hvs : IntsAt w vs s) (hnil : NilOk vs) (hp : FnsAt w pv p) (hcp : CapAt w pv) (hf : FnAt w c0 c1 c2 c3 f) (hc : c = 4) : Calls Tryz.prog 62 #[.agg #[.int .i64 c, .int .i64 a], vs, .agg #[pv], .agg #[c0, c1, c2, c3]] w fun e w' => ∃ u, e = .returned (.tuple #[u, .bool (!(bhP p f (c, a) s).2)]) ∧ w'.ownsRow w.heap.size 3 1 u (bhP p f (c, a) s).1.length ((bhP p f (c, a) s).1.map (Value.int .i64)) ∧ Below w.heap.size w w' := by
  subst hc
  obtain ⟨P, L, r, C⟩ := f
  obtain ⟨rfl, hI, rfl, hO⟩ := id hf
  simp only at hI hO
  obtain ⟨p1, q1, rfl, _, hLc⟩ := id hI
  obtain ⟨p3, q3, rfl, _, _⟩ := id hO
  obtain ⟨pp, qp, rfl, _, hpc⟩ := id hp
  obtain ⟨ps, qs, rfl, _, _⟩ := id hvs
  obtain ⟨W3, hW3⟩ : ∃ W3, ((w.alloc (.cells #[.int .i64 4, .int .i64 a] 38)).alloc (.cells #[.slice pp p.length qp] 24)).alloc (.cells #[.int .i64 P, .slice p1 L.length q1, .int .i64 r, .slice p3 C.length q3] 28) = W3 := ⟨_, rfl⟩
  have hw3 : Below w.heap.size w W3 := by rw [← hW3]; exact (((Below.refl _ w).alloc (Nat.le_refl _) _).alloc (by simp) _).alloc (by simp; omega) _
  have x0 : W3.heap[w.heap.size]? = some (.cells #[.int .i64 4, .int .i64 a] 38 (0, 0)) := by rw [← hW3]; exact xaeZ (xaeZ (World.alloc_heap_new w _) _) _
  have x1 : W3.heap[w.heap.size + 1]? = some (.cells #[.slice pp p.length qp] 24 (0, 0)) := by rw [← hW3]; exact xaeZ (xa3Z w _ _) _
  have x2 : W3.heap[w.heap.size + 1 + 1]? = some (.cells #[.int .i64 P, .slice p1 L.length q1, .int .i64 r, .slice p3 C.length q3] 28 (0, 0)) := by
    rw [← hW3]
    have := World.alloc_heap_new ((w.alloc (.cells #[.int .i64 4, .int .i64 a] 38)).alloc (.cells #[.slice pp p.length qp] 24)) (.cells #[.int .i64 P, .slice p1 L.length q1, .int .i64 r, .slice p3 C.length q3] 28)
    simpa using this
  have HVS := hideP (hvs.below hw3)
  have HNIL := hideP hnil
  have HCL := hideP (xbkZ s _ W3 HVS.out HNIL.out (by omega))
  have HP3 := hideP (hp.below hw3)
  have HC3 := hideP (hcp.below hp hw3)
  have HF3 := hideP (hf.below hw3)
  have HOK := hideP ho
  have X0 := hideP x0
  have X1 := hideP x1
  have X2 := hideP x2
  have HS8 := hideP hs
  clear ho hvs hnil hp hcp hf hI hO hLc hpc x0 x1 x2 hs
  go_enter Tryz.func62, Tryz.ntmps62
  go_wp2_with fail
  refine HCL.out.mono ?_
  rintro e w4 ⟨u4, rfl, r4, hb4⟩
  obtain ⟨p4, q4, rfl⟩ := xahZ r4
  obtain ⟨W5, hW5⟩ : ∃ W5, w4.alloc (.cells #[.slice p4 s.length q4, .bool false] 123) = W5 := ⟨_, rfl⟩
  have hb5 : Below W3.heap.size W3 W5 := by rw [← hW5]; exact hb4.alloc hb4.size _
  have y5 : W5.heap[w4.heap.size]? = some (.cells #[.slice p4 s.length q4, .bool false] 123 (0, 0)) := by rw [← hW5]; exact World.alloc_heap_new w4 _
  have hsz5 : W5.heap.size = w4.heap.size + 1 := by rw [← hW5]; simp
  have hsa : SA W5 w4.heap.size w.heap.size (s, false) := ⟨_, y5, by rw [← hW5]; exact (xa2Z r4 hw3.size).alloc _⟩
  have X05 := hideP ((hb4.block _ (xabZ X0.out)).trans X0.out)
  have X15 := hideP ((hb4.block _ (xabZ X1.out)).trans X1.out)
  have X25 := hideP ((hb4.block _ (xabZ X2.out)).trans X2.out)
  have d0 := xaaZ X05.out 0
  have d1 := xaaZ X05.out 1
  have k0 := xaaZ X15.out 0
  have f0 := xaaZ X25.out 0
  have f1 := xaaZ X25.out 1
  have f2 := xaaZ X25.out 2
  have f3 := xaaZ X25.out 3
  simp at d0 d1 k0 f0 f1 f2 f3
  have d0 := fun o => xacZ d0 o
  have d1 := fun o => xacZ d1 o
  have k0 := fun o => xacZ k0 o
  have f0 := fun o => xacZ f0 o
  have f1 := fun o => xacZ f1 o
  have f2 := fun o => xacZ f2 o
  have f3 := fun o => xacZ f3 o
  have hB5 : w.heap.size ≤ W5.heap.size := Nat.le_trans hw3.size hb5.size
  have hBb : w.heap.size ≤ w4.heap.size := Nat.le_trans hw3.size hb4.size
  have hl5 : ((s, false) : St).1.length ≤ 100 := Nat.le_trans HS8.out (by omega)
  have hw5 : Below w.heap.size w W5 := hw3.trans (hb5.mono hw3.size)
  have HY5 := hideP y5
  have HW5 := hideP hW5
  have HSZ5 := hideP hsz5
  clear hsz5
  clear r4 y5 X0 X1 X2 X05 X15 X25 HCL HVS HNIL hW5
  go_wp2_with fail
  rw [HW5.out]
  refine (turn4_any (s, false) w4.heap.size w.heap.size W5 hsa hl5 hB5 hBb).mono ?_
  rintro e w6 ⟨rfl, h6, b6⟩
  obtain ⟨v6, q6, r6⟩ := h6
  have g0 := xaaZ q6 0
  have g1 := xaaZ q6 1
  simp at g0 g1
  obtain ⟨p6, c6, rfl⟩ := xahZ r6
  have HR6 := hideP r6
  clear r6 q6
  have hfin := hideP (show bhP p (P, L, r, C) (4, a) s = lv (popS (popS (s, false))) [topP s, topP s.dropLast] from rfl)
  go_wp2_with fail
  go_quiet (fail)
  go_wp2
  go_ret2
  rw [hfin.out]
  refine ⟨_, rfl, ?_, (hw5.trans b6).trans ⟨rfl, rfl, rfl, Nat.le_refl _, fun _ _ => rfl⟩⟩
  exact HR6.out
theorem xivZ (c a : Int) (p : List Fn) (f : Fn) (s : List Int) (vs pv c0 c1 c2 c3 : Value) (w : World) (ho : OkOp p f (c, a)) (hs : s.length ≤ 8) (hvs : IntsAt w vs s) (hnil : NilOk vs) (hp : FnsAt w pv p) (hcp : CapAt w pv) (hf : FnAt w c0 c1 c2 c3 f) (hc : c = 8) : Calls Tryz.prog 62 #[.agg #[.int .i64 c, .int .i64 a], vs, .agg #[pv], .agg #[c0, c1, c2, c3]] w fun e w' => ∃ u, e = .returned (.tuple #[u, .bool (!(bhP p f (c, a) s).2)]) ∧ w'.ownsRow w.heap.size 3 1 u (bhP p f (c, a) s).1.length ((bhP p f (c, a) s).1.map (Value.int .i64)) ∧ Below w.heap.size w w' := by
  subst hc
  obtain ⟨P, L, r, C⟩ := f
  obtain ⟨rfl, hI, rfl, hO⟩ := id hf
  simp only at hI hO
  obtain ⟨p1, q1, rfl, _, hLc⟩ := id hI
  obtain ⟨p3, q3, rfl, _, _⟩ := id hO
  obtain ⟨pp, qp, rfl, _, hpc⟩ := id hp
  obtain ⟨ps, qs, rfl, _, _⟩ := id hvs
  obtain ⟨W3, hW3⟩ : ∃ W3, ((w.alloc (.cells #[.int .i64 8, .int .i64 a] 38)).alloc (.cells #[.slice pp p.length qp] 24)).alloc (.cells #[.int .i64 P, .slice p1 L.length q1, .int .i64 r, .slice p3 C.length q3] 28) = W3 := ⟨_, rfl⟩
  have hw3 : Below w.heap.size w W3 := by rw [← hW3]; exact (((Below.refl _ w).alloc (Nat.le_refl _) _).alloc (by simp) _).alloc (by simp; omega) _
  have x0 : W3.heap[w.heap.size]? = some (.cells #[.int .i64 8, .int .i64 a] 38 (0, 0)) := by rw [← hW3]; exact xaeZ (xaeZ (World.alloc_heap_new w _) _) _
  have x1 : W3.heap[w.heap.size + 1]? = some (.cells #[.slice pp p.length qp] 24 (0, 0)) := by rw [← hW3]; exact xaeZ (xa3Z w _ _) _
  have x2 : W3.heap[w.heap.size + 1 + 1]? = some (.cells #[.int .i64 P, .slice p1 L.length q1, .int .i64 r, .slice p3 C.length q3] 28 (0, 0)) := by
    rw [← hW3]
    have := World.alloc_heap_new ((w.alloc (.cells #[.int .i64 8, .int .i64 a] 38)).alloc (.cells #[.slice pp p.length qp] 24)) (.cells #[.int .i64 P, .slice p1 L.length q1, .int .i64 r, .slice p3 C.length q3] 28)
    simpa using this
  have HVS := hideP (hvs.below hw3)
  have HNIL := hideP hnil
  have HCL := hideP (xbkZ s _ W3 HVS.out HNIL.out (by omega))
  have HP3 := hideP (hp.below hw3)
  have HC3 := hideP (hcp.below hp hw3)
  have HF3 := hideP (hf.below hw3)
  have HOK := hideP ho
  have X0 := hideP x0
  have X1 := hideP x1
  have X2 := hideP x2
  have HS8 := hideP hs
  clear ho hvs hnil hp hcp hf hI hO hLc hpc x0 x1 x2 hs
  go_enter Tryz.func62, Tryz.ntmps62
  go_wp2_with fail
  refine HCL.out.mono ?_
  rintro e w4 ⟨u4, rfl, r4, hb4⟩
  obtain ⟨p4, q4, rfl⟩ := xahZ r4
  obtain ⟨W5, hW5⟩ : ∃ W5, w4.alloc (.cells #[.slice p4 s.length q4, .bool false] 123) = W5 := ⟨_, rfl⟩
  have hb5 : Below W3.heap.size W3 W5 := by rw [← hW5]; exact hb4.alloc hb4.size _
  have y5 : W5.heap[w4.heap.size]? = some (.cells #[.slice p4 s.length q4, .bool false] 123 (0, 0)) := by rw [← hW5]; exact World.alloc_heap_new w4 _
  have hsz5 : W5.heap.size = w4.heap.size + 1 := by rw [← hW5]; simp
  have hsa : SA W5 w4.heap.size w.heap.size (s, false) := ⟨_, y5, by rw [← hW5]; exact (xa2Z r4 hw3.size).alloc _⟩
  have X05 := hideP ((hb4.block _ (xabZ X0.out)).trans X0.out)
  have X15 := hideP ((hb4.block _ (xabZ X1.out)).trans X1.out)
  have X25 := hideP ((hb4.block _ (xabZ X2.out)).trans X2.out)
  have d0 := xaaZ X05.out 0
  have d1 := xaaZ X05.out 1
  have k0 := xaaZ X15.out 0
  have f0 := xaaZ X25.out 0
  have f1 := xaaZ X25.out 1
  have f2 := xaaZ X25.out 2
  have f3 := xaaZ X25.out 3
  simp at d0 d1 k0 f0 f1 f2 f3
  have d0 := fun o => xacZ d0 o
  have d1 := fun o => xacZ d1 o
  have k0 := fun o => xacZ k0 o
  have f0 := fun o => xacZ f0 o
  have f1 := fun o => xacZ f1 o
  have f2 := fun o => xacZ f2 o
  have f3 := fun o => xacZ f3 o
  have hB5 : w.heap.size ≤ W5.heap.size := Nat.le_trans hw3.size hb5.size
  have hBb : w.heap.size ≤ w4.heap.size := Nat.le_trans hw3.size hb4.size
  have hl5 : ((s, false) : St).1.length ≤ 100 := Nat.le_trans HS8.out (by omega)
  have hw5 : Below w.heap.size w W5 := hw3.trans (hb5.mono hw3.size)
  have HY5 := hideP y5
  have HW5 := hideP hW5
  have HSZ5 := hideP hsz5
  clear hsz5
  clear r4 y5 X0 X1 X2 X05 X15 X25 HCL HVS HNIL hW5
  have hloc := HOK.out.loc (by simp)
  simp only at hloc
  obtain ⟨k, rfl⟩ : ∃ k : Nat, a = k := ⟨a.toNat, by omega⟩
  have hk : k < L.length := by omega
  obtain ⟨t, ht⟩ := xagZ hk
  obtain ⟨pL, qL, heL, _, hcL⟩ := HF3.out.2.1
  cases heL
  obtain ⟨bL, oL, hpL, hbL, gL⟩ := hcL k t ht
  subst hpL
  have gL5 := fun o => xacZ ((hb4.cell (p := ⟨bL, oL + k, none⟩) hbL).trans gL) o
  have hkL : (k : Int) < (L.length : Int) := by omega
  have htd : L.getD k 0 = t := by rw [List.getD_eq_getElem?_getD, ht]; rfl
  have HTD := hideP htd
  clear ht hcL gL hloc htd
  go_wp2_with fail
  rw [HW5.out]
  have qn : (W5.alloc (.cells #[.int .i64 t] 3)).heap[w4.heap.size + 1]? = some (.cells #[.int .i64 t] 3 (0, 0)) := by rw [← HSZ5.out]; exact World.alloc_heap_new W5 _
  have an := (Below.refl W5.heap.size W5).alloc (Nat.le_refl _) (.cells #[.int .i64 t] 3)
  refine (xbsZ (s, false) [t] w4.heap.size w.heap.size _ _ (hsa.kept an) (xamZ 1 1 qn rfl (by unfold maxLen; simp)) (xaxZ _ _ _) hl5 (by simp) (Nat.le_trans hB5 an.size) hBb).mono ?_
  rintro e w6 ⟨rfl, h6, b6'⟩
  have b6 := (an.mono hB5).trans b6'
  clear qn an b6'
  obtain ⟨v6, q6, r6⟩ := h6
  have g0 := xaaZ q6 0
  have g1 := xaaZ q6 1
  simp at g0 g1
  obtain ⟨p6, c6, rfl⟩ := xahZ r6
  have HR6 := hideP r6
  clear r6 q6
  have hfin := hideP (show bhP p (P, L, r, C) (8, (k : Int)) s = lv (s, false) [t] by rw [← HTD.out]; rfl)
  go_wp2_with fail
  go_quiet (fail)
  go_wp2
  go_ret2
  rw [hfin.out]
  refine ⟨_, rfl, ?_, (hw5.trans b6).trans ⟨rfl, rfl, rfl, Nat.le_refl _, fun _ _ => rfl⟩⟩
  exact HR6.out
theorem xiwZ (c a : Int) (p : List Fn) (f : Fn) (s : List Int) (vs pv c0 c1 c2 c3 : Value) (w : World) (ho : OkOp p f (c, a)) (hs : s.length ≤ 8) (hvs : IntsAt w vs s) (hnil : NilOk vs) (hp : FnsAt w pv p) (hcp : CapAt w pv) (hf : FnAt w c0 c1 c2 c3 f) (hc : c = 9) : Calls Tryz.prog 62 #[.agg #[.int .i64 c, .int .i64 a], vs, .agg #[pv], .agg #[c0, c1, c2, c3]] w fun e w' => ∃ u, e = .returned (.tuple #[u, .bool (!(bhP p f (c, a) s).2)]) ∧ w'.ownsRow w.heap.size 3 1 u (bhP p f (c, a) s).1.length ((bhP p f (c, a) s).1.map (Value.int .i64)) ∧ Below w.heap.size w w' := by
  subst hc
  obtain ⟨P, L, r, C⟩ := f
  obtain ⟨rfl, hI, rfl, hO⟩ := id hf
  simp only at hI hO
  obtain ⟨p1, q1, rfl, _, hLc⟩ := id hI
  obtain ⟨p3, q3, rfl, _, _⟩ := id hO
  obtain ⟨pp, qp, rfl, _, hpc⟩ := id hp
  obtain ⟨ps, qs, rfl, _, _⟩ := id hvs
  obtain ⟨W3, hW3⟩ : ∃ W3, ((w.alloc (.cells #[.int .i64 9, .int .i64 a] 38)).alloc (.cells #[.slice pp p.length qp] 24)).alloc (.cells #[.int .i64 P, .slice p1 L.length q1, .int .i64 r, .slice p3 C.length q3] 28) = W3 := ⟨_, rfl⟩
  have hw3 : Below w.heap.size w W3 := by rw [← hW3]; exact (((Below.refl _ w).alloc (Nat.le_refl _) _).alloc (by simp) _).alloc (by simp; omega) _
  have x0 : W3.heap[w.heap.size]? = some (.cells #[.int .i64 9, .int .i64 a] 38 (0, 0)) := by rw [← hW3]; exact xaeZ (xaeZ (World.alloc_heap_new w _) _) _
  have x1 : W3.heap[w.heap.size + 1]? = some (.cells #[.slice pp p.length qp] 24 (0, 0)) := by rw [← hW3]; exact xaeZ (xa3Z w _ _) _
  have x2 : W3.heap[w.heap.size + 1 + 1]? = some (.cells #[.int .i64 P, .slice p1 L.length q1, .int .i64 r, .slice p3 C.length q3] 28 (0, 0)) := by
    rw [← hW3]
    have := World.alloc_heap_new ((w.alloc (.cells #[.int .i64 9, .int .i64 a] 38)).alloc (.cells #[.slice pp p.length qp] 24)) (.cells #[.int .i64 P, .slice p1 L.length q1, .int .i64 r, .slice p3 C.length q3] 28)
    simpa using this
  have HVS := hideP (hvs.below hw3)
  have HNIL := hideP hnil
  have HCL := hideP (xbkZ s _ W3 HVS.out HNIL.out (by omega))
  have HP3 := hideP (hp.below hw3)
  have HC3 := hideP (hcp.below hp hw3)
  have HF3 := hideP (hf.below hw3)
  have HOK := hideP ho
  have X0 := hideP x0
  have X1 := hideP x1
  have X2 := hideP x2
  have HS8 := hideP hs
  clear ho hvs hnil hp hcp hf hI hO hLc hpc x0 x1 x2 hs
  go_enter Tryz.func62, Tryz.ntmps62
  go_wp2_with fail
  refine HCL.out.mono ?_
  rintro e w4 ⟨u4, rfl, r4, hb4⟩
  obtain ⟨p4, q4, rfl⟩ := xahZ r4
  obtain ⟨W5, hW5⟩ : ∃ W5, w4.alloc (.cells #[.slice p4 s.length q4, .bool false] 123) = W5 := ⟨_, rfl⟩
  have hb5 : Below W3.heap.size W3 W5 := by rw [← hW5]; exact hb4.alloc hb4.size _
  have y5 : W5.heap[w4.heap.size]? = some (.cells #[.slice p4 s.length q4, .bool false] 123 (0, 0)) := by rw [← hW5]; exact World.alloc_heap_new w4 _
  have hsz5 : W5.heap.size = w4.heap.size + 1 := by rw [← hW5]; simp
  have hsa : SA W5 w4.heap.size w.heap.size (s, false) := ⟨_, y5, by rw [← hW5]; exact (xa2Z r4 hw3.size).alloc _⟩
  have X05 := hideP ((hb4.block _ (xabZ X0.out)).trans X0.out)
  have X15 := hideP ((hb4.block _ (xabZ X1.out)).trans X1.out)
  have X25 := hideP ((hb4.block _ (xabZ X2.out)).trans X2.out)
  have d0 := xaaZ X05.out 0
  have d1 := xaaZ X05.out 1
  have k0 := xaaZ X15.out 0
  have f0 := xaaZ X25.out 0
  have f1 := xaaZ X25.out 1
  have f2 := xaaZ X25.out 2
  have f3 := xaaZ X25.out 3
  simp at d0 d1 k0 f0 f1 f2 f3
  have d0 := fun o => xacZ d0 o
  have d1 := fun o => xacZ d1 o
  have k0 := fun o => xacZ k0 o
  have f0 := fun o => xacZ f0 o
  have f1 := fun o => xacZ f1 o
  have f2 := fun o => xacZ f2 o
  have f3 := fun o => xacZ f3 o
  have hB5 : w.heap.size ≤ W5.heap.size := Nat.le_trans hw3.size hb5.size
  have hBb : w.heap.size ≤ w4.heap.size := Nat.le_trans hw3.size hb4.size
  have hl5 : ((s, false) : St).1.length ≤ 100 := Nat.le_trans HS8.out (by omega)
  have hw5 : Below w.heap.size w W5 := hw3.trans (hb5.mono hw3.size)
  have HY5 := hideP y5
  have HW5 := hideP hW5
  have HSZ5 := hideP hsz5
  clear hsz5
  clear r4 y5 X0 X1 X2 X05 X15 X25 HCL HVS HNIL hW5
  have hloc := HOK.out.loc (by simp)
  simp only at hloc
  obtain ⟨k, rfl⟩ : ∃ k : Nat, a = k := ⟨a.toNat, by omega⟩
  have hk : k < L.length := by omega
  obtain ⟨t, ht⟩ := xagZ hk
  obtain ⟨pL, qL, heL, _, hcL⟩ := HF3.out.2.1
  cases heL
  obtain ⟨bL, oL, hpL, hbL, gL⟩ := hcL k t ht
  subst hpL
  have gL5 := fun o => xacZ ((hb4.cell (p := ⟨bL, oL + k, none⟩) hbL).trans gL) o
  have hkL : (k : Int) < (L.length : Int) := by omega
  have htd : L.getD k 0 = t := by rw [List.getD_eq_getElem?_getD, ht]; rfl
  have HTD := hideP htd
  clear ht hcL gL hloc htd
  go_wp2_with fail
  rw [HW5.out]
  have qn : (W5.alloc (.cells #[.int .i64 t] 3)).heap[w4.heap.size + 1]? = some (.cells #[.int .i64 t] 3 (0, 0)) := by rw [← HSZ5.out]; exact World.alloc_heap_new W5 _
  have an := (Below.refl W5.heap.size W5).alloc (Nat.le_refl _) (.cells #[.int .i64 t] 3)
  refine (xbzZ (s, false) [t] w4.heap.size w.heap.size _ _ (hsa.kept an) (xamZ 1 1 qn rfl (by unfold maxLen; simp)) hl5 (by simp) (Nat.le_trans hB5 an.size) hBb).mono ?_
  rintro e w6 ⟨rfl, h6, b6'⟩
  have b6 := (an.mono hB5).trans b6'
  clear qn an b6'
  obtain ⟨v6, q6, r6⟩ := h6
  have g0 := xaaZ q6 0
  have g1 := xaaZ q6 1
  simp at g0 g1
  obtain ⟨p6, c6, rfl⟩ := xahZ r6
  have HR6 := hideP r6
  clear r6 q6
  have hfin := hideP (show bhP p (P, L, r, C) (9, (k : Int)) s = tk (s, false) [t] by rw [← HTD.out]; rfl)
  go_wp2_with fail
  go_quiet (fail)
  go_wp2
  go_ret2
  rw [hfin.out]
  refine ⟨_, rfl, ?_, (hw5.trans b6).trans ⟨rfl, rfl, rfl, Nat.le_refl _, fun _ _ => rfl⟩⟩
  exact HR6.out
theorem xhrZ (c a : Int) (p : List Fn) (f : Fn) (s : List Int) (vs pv c0 c1 c2 c3 : Value) (w : World) (ho : OkOp p f (c, a)) (hs : s.length ≤ 8) (hvs : IntsAt w vs s) (hnil : NilOk vs) (hp : FnsAt w pv p) (hcp : CapAt w pv) (hf : FnAt w c0 c1 c2 c3 f) (hc : c = 12) : Calls Tryz.prog 62 #[.agg #[.int .i64 c, .int .i64 a], vs, .agg #[pv], .agg #[c0, c1, c2, c3]] w fun e w' => ∃ u, e = .returned (.tuple #[u, .bool (!(bhP p f (c, a) s).2)]) ∧ w'.ownsRow w.heap.size 3 1 u (bhP p f (c, a) s).1.length ((bhP p f (c, a) s).1.map (Value.int .i64)) ∧ Below w.heap.size w w' := by
  subst hc
  obtain ⟨P, L, r, C⟩ := f
  obtain ⟨rfl, hI, rfl, hO⟩ := id hf
  simp only at hI hO
  obtain ⟨p1, q1, rfl, _, hLc⟩ := id hI
  obtain ⟨p3, q3, rfl, _, _⟩ := id hO
  obtain ⟨pp, qp, rfl, _, hpc⟩ := id hp
  obtain ⟨ps, qs, rfl, _, _⟩ := id hvs
  obtain ⟨W3, hW3⟩ : ∃ W3, ((w.alloc (.cells #[.int .i64 12, .int .i64 a] 38)).alloc (.cells #[.slice pp p.length qp] 24)).alloc (.cells #[.int .i64 P, .slice p1 L.length q1, .int .i64 r, .slice p3 C.length q3] 28) = W3 := ⟨_, rfl⟩
  have hw3 : Below w.heap.size w W3 := by rw [← hW3]; exact (((Below.refl _ w).alloc (Nat.le_refl _) _).alloc (by simp) _).alloc (by simp; omega) _
  have x0 : W3.heap[w.heap.size]? = some (.cells #[.int .i64 12, .int .i64 a] 38 (0, 0)) := by rw [← hW3]; exact xaeZ (xaeZ (World.alloc_heap_new w _) _) _
  have x1 : W3.heap[w.heap.size + 1]? = some (.cells #[.slice pp p.length qp] 24 (0, 0)) := by rw [← hW3]; exact xaeZ (xa3Z w _ _) _
  have x2 : W3.heap[w.heap.size + 1 + 1]? = some (.cells #[.int .i64 P, .slice p1 L.length q1, .int .i64 r, .slice p3 C.length q3] 28 (0, 0)) := by
    rw [← hW3]
    have := World.alloc_heap_new ((w.alloc (.cells #[.int .i64 12, .int .i64 a] 38)).alloc (.cells #[.slice pp p.length qp] 24)) (.cells #[.int .i64 P, .slice p1 L.length q1, .int .i64 r, .slice p3 C.length q3] 28)
    simpa using this
  have HVS := hideP (hvs.below hw3)
  have HNIL := hideP hnil
  have HCL := hideP (xbkZ s _ W3 HVS.out HNIL.out (by omega))
  have HP3 := hideP (hp.below hw3)
  have HC3 := hideP (hcp.below hp hw3)
  have HF3 := hideP (hf.below hw3)
  have HOK := hideP ho
  have X0 := hideP x0
  have X1 := hideP x1
  have X2 := hideP x2
  have HS8 := hideP hs
  clear ho hvs hnil hp hcp hf hI hO hLc hpc x0 x1 x2 hs
  go_enter Tryz.func62, Tryz.ntmps62
  go_wp2_with fail
  refine HCL.out.mono ?_
  rintro e w4 ⟨u4, rfl, r4, hb4⟩
  obtain ⟨p4, q4, rfl⟩ := xahZ r4
  obtain ⟨W5, hW5⟩ : ∃ W5, w4.alloc (.cells #[.slice p4 s.length q4, .bool false] 123) = W5 := ⟨_, rfl⟩
  have hb5 : Below W3.heap.size W3 W5 := by rw [← hW5]; exact hb4.alloc hb4.size _
  have y5 : W5.heap[w4.heap.size]? = some (.cells #[.slice p4 s.length q4, .bool false] 123 (0, 0)) := by rw [← hW5]; exact World.alloc_heap_new w4 _
  have hsz5 : W5.heap.size = w4.heap.size + 1 := by rw [← hW5]; simp
  have hsa : SA W5 w4.heap.size w.heap.size (s, false) := ⟨_, y5, by rw [← hW5]; exact (xa2Z r4 hw3.size).alloc _⟩
  have X05 := hideP ((hb4.block _ (xabZ X0.out)).trans X0.out)
  have X15 := hideP ((hb4.block _ (xabZ X1.out)).trans X1.out)
  have X25 := hideP ((hb4.block _ (xabZ X2.out)).trans X2.out)
  have d0 := xaaZ X05.out 0
  have d1 := xaaZ X05.out 1
  have k0 := xaaZ X15.out 0
  have f0 := xaaZ X25.out 0
  have f1 := xaaZ X25.out 1
  have f2 := xaaZ X25.out 2
  have f3 := xaaZ X25.out 3
  simp at d0 d1 k0 f0 f1 f2 f3
  have d0 := fun o => xacZ d0 o
  have d1 := fun o => xacZ d1 o
  have k0 := fun o => xacZ k0 o
  have f0 := fun o => xacZ f0 o
  have f1 := fun o => xacZ f1 o
  have f2 := fun o => xacZ f2 o
  have f3 := fun o => xacZ f3 o
  have hB5 : w.heap.size ≤ W5.heap.size := Nat.le_trans hw3.size hb5.size
  have hBb : w.heap.size ≤ w4.heap.size := Nat.le_trans hw3.size hb4.size
  have hl5 : ((s, false) : St).1.length ≤ 100 := Nat.le_trans HS8.out (by omega)
  have hw5 : Below w.heap.size w W5 := hw3.trans (hb5.mono hw3.size)
  have HY5 := hideP y5
  have HW5 := hideP hW5
  have HSZ5 := hideP hsz5
  clear hsz5
  clear r4 y5 X0 X1 X2 X05 X15 X25 HCL HVS HNIL hW5
  have hcall := HOK.out.call rfl
  simp only at hcall
  obtain ⟨k, rfl⟩ : ∃ k : Nat, a = k := ⟨a.toNat, by omega⟩
  have hk : k < p.length := by omega
  obtain ⟨g, hg⟩ := xagZ hk
  have hgo := HOK.out.fns g (List.mem_of_getElem? hg)
  obtain ⟨pF, qF, heF, _, hcF⟩ := HP3.out
  cases heF
  obtain ⟨bF, oF, e0, e1, e2, e3, hpF, hbF, y0, y1, y2, y3, hfn⟩ := hcF k g hg
  subst hpF
  have z0 := fun o => xacZ ((hb4.cell (p := ⟨bF, oF + k * 4, none⟩) hbF).trans y0) o
  have z1 := fun o => xacZ ((hb4.cell (p := ⟨bF, oF + k * 4 + 1, none⟩) hbF).trans y1) o
  have z2 := fun o => xacZ ((hb4.cell (p := ⟨bF, oF + k * 4 + 2, none⟩) hbF).trans y2) o
  have z3 := fun o => xacZ ((hb4.cell (p := ⟨bF, oF + k * 4 + 3, none⟩) hbF).trans y3) o
  have hfn5 := hfn.below hb5
  have hcapg : ∀ p n c, e1 = .slice p n c → n ≤ c := fun p' n' c' he => HC3.out bF oF _ _ k p' n' c' rfl hk (by rw [y1, he])
  have HG := hideP hg
  have hkp : (k : Int) < (p.length : Int) := by omega
  have HCALL := hideP (call_any g e0 e1 e2 e3 (s, false) w4.heap.size w.heap.size W5 hsa hl5 hB5 hBb hfn5 ⟨hgo.1, hgo.2.1⟩ hgo.2.2.1 hcapg)
  obtain ⟨hh0, ⟨pg1, qg1, hh1, _, _⟩, hh2, ⟨pg3, qg3, hh3, _, _⟩⟩ := id hfn5
  subst hh0 hh1 hh2 hh3
  clear hcF hg y0 y1 y2 y3 hfn hfn5 hcapg hcall hgo
  go_wp2_with fail
  rw [HW5.out]
  refine HCALL.out.mono ?_
  rintro e w6 ⟨rfl, h6, b6⟩
  obtain ⟨v6, q6, r6⟩ := h6
  have g0 := xaaZ q6 0
  have g1 := xaaZ q6 1
  simp at g0 g1
  obtain ⟨p6, c6, rfl⟩ := xahZ r6
  have HR6 := hideP r6
  clear r6 q6
  have hfin := hideP (show bhP p (P, L, r, C) (12, (k : Int)) s = lv (tk (s, false) (g.2.1.take g.1.toNat)) (resL g) by simp [bhP, HG.out])
  go_wp2_with fail
  go_quiet (fail)
  go_wp2
  go_ret2
  rw [hfin.out]
  refine ⟨_, rfl, ?_, (hw5.trans b6).trans ⟨rfl, rfl, rfl, Nat.le_refl _, fun _ _ => rfl⟩⟩
  exact HR6.out
theorem xhsZ (c a : Int) (p : List Fn) (f : Fn) (s : List Int) (vs pv c0 c1 c2 c3 : Value) (w : World) (ho : OkOp p f (c, a)) (hs : s.length ≤ 8) (hvs : IntsAt w vs s) (hnil : NilOk vs) (hp : FnsAt w pv p) (hcp : CapAt w pv) (hf : FnAt w c0 c1 c2 c3 f) (hc : c = 13) : Calls Tryz.prog 62 #[.agg #[.int .i64 c, .int .i64 a], vs, .agg #[pv], .agg #[c0, c1, c2, c3]] w fun e w' => ∃ u, e = .returned (.tuple #[u, .bool (!(bhP p f (c, a) s).2)]) ∧ w'.ownsRow w.heap.size 3 1 u (bhP p f (c, a) s).1.length ((bhP p f (c, a) s).1.map (Value.int .i64)) ∧ Below w.heap.size w w' := by
  subst hc
  obtain ⟨P, L, r, C⟩ := f
  obtain ⟨rfl, hI, rfl, hO⟩ := id hf
  simp only at hI hO
  obtain ⟨p1, q1, rfl, _, hLc⟩ := id hI
  obtain ⟨p3, q3, rfl, _, _⟩ := id hO
  obtain ⟨pp, qp, rfl, _, hpc⟩ := id hp
  obtain ⟨ps, qs, rfl, _, _⟩ := id hvs
  obtain ⟨W3, hW3⟩ : ∃ W3, ((w.alloc (.cells #[.int .i64 13, .int .i64 a] 38)).alloc (.cells #[.slice pp p.length qp] 24)).alloc (.cells #[.int .i64 P, .slice p1 L.length q1, .int .i64 r, .slice p3 C.length q3] 28) = W3 := ⟨_, rfl⟩
  have hw3 : Below w.heap.size w W3 := by rw [← hW3]; exact (((Below.refl _ w).alloc (Nat.le_refl _) _).alloc (by simp) _).alloc (by simp; omega) _
  have x0 : W3.heap[w.heap.size]? = some (.cells #[.int .i64 13, .int .i64 a] 38 (0, 0)) := by rw [← hW3]; exact xaeZ (xaeZ (World.alloc_heap_new w _) _) _
  have x1 : W3.heap[w.heap.size + 1]? = some (.cells #[.slice pp p.length qp] 24 (0, 0)) := by rw [← hW3]; exact xaeZ (xa3Z w _ _) _
  have x2 : W3.heap[w.heap.size + 1 + 1]? = some (.cells #[.int .i64 P, .slice p1 L.length q1, .int .i64 r, .slice p3 C.length q3] 28 (0, 0)) := by
    rw [← hW3]
    have := World.alloc_heap_new ((w.alloc (.cells #[.int .i64 13, .int .i64 a] 38)).alloc (.cells #[.slice pp p.length qp] 24)) (.cells #[.int .i64 P, .slice p1 L.length q1, .int .i64 r, .slice p3 C.length q3] 28)
    simpa using this
  have HVS := hideP (hvs.below hw3)
  have HNIL := hideP hnil
  have HCL := hideP (xbkZ s _ W3 HVS.out HNIL.out (by omega))
  have HP3 := hideP (hp.below hw3)
  have HC3 := hideP (hcp.below hp hw3)
  have HF3 := hideP (hf.below hw3)
  have HOK := hideP ho
  have X0 := hideP x0
  have X1 := hideP x1
  have X2 := hideP x2
  have HS8 := hideP hs
  clear ho hvs hnil hp hcp hf hI hO hLc hpc x0 x1 x2 hs
  go_enter Tryz.func62, Tryz.ntmps62
  go_wp2_with fail
  refine HCL.out.mono ?_
  rintro e w4 ⟨u4, rfl, r4, hb4⟩
  obtain ⟨p4, q4, rfl⟩ := xahZ r4
  obtain ⟨W5, hW5⟩ : ∃ W5, w4.alloc (.cells #[.slice p4 s.length q4, .bool false] 123) = W5 := ⟨_, rfl⟩
  have hb5 : Below W3.heap.size W3 W5 := by rw [← hW5]; exact hb4.alloc hb4.size _
  have y5 : W5.heap[w4.heap.size]? = some (.cells #[.slice p4 s.length q4, .bool false] 123 (0, 0)) := by rw [← hW5]; exact World.alloc_heap_new w4 _
  have hsz5 : W5.heap.size = w4.heap.size + 1 := by rw [← hW5]; simp
  have hsa : SA W5 w4.heap.size w.heap.size (s, false) := ⟨_, y5, by rw [← hW5]; exact (xa2Z r4 hw3.size).alloc _⟩
  have X05 := hideP ((hb4.block _ (xabZ X0.out)).trans X0.out)
  have X15 := hideP ((hb4.block _ (xabZ X1.out)).trans X1.out)
  have X25 := hideP ((hb4.block _ (xabZ X2.out)).trans X2.out)
  have d0 := xaaZ X05.out 0
  have d1 := xaaZ X05.out 1
  have k0 := xaaZ X15.out 0
  have f0 := xaaZ X25.out 0
  have f1 := xaaZ X25.out 1
  have f2 := xaaZ X25.out 2
  have f3 := xaaZ X25.out 3
  simp at d0 d1 k0 f0 f1 f2 f3
  have d0 := fun o => xacZ d0 o
  have d1 := fun o => xacZ d1 o
  have k0 := fun o => xacZ k0 o
  have f0 := fun o => xacZ f0 o
  have f1 := fun o => xacZ f1 o
  have f2 := fun o => xacZ f2 o
  have f3 := fun o => xacZ f3 o
  have hB5 : w.heap.size ≤ W5.heap.size := Nat.le_trans hw3.size hb5.size
  have hBb : w.heap.size ≤ w4.heap.size := Nat.le_trans hw3.size hb4.size
  have hl5 : ((s, false) : St).1.length ≤ 100 := Nat.le_trans HS8.out (by omega)
  have hw5 : Below w.heap.size w W5 := hw3.trans (hb5.mono hw3.size)
  have HY5 := hideP y5
  have HW5 := hideP hW5
  have HSZ5 := hideP hsz5
  clear hsz5
  clear r4 y5 X0 X1 X2 X05 X15 X25 HCL HVS HNIL hW5
  go_wp2_with fail
  rw [HW5.out]
  refine (xgjZ P r p1 p3 L.length q1 C.length q3 W5).mono ?_
  rintro e w7 ⟨u7, rfl, hr7, hb7⟩
  have hR7 : w7.ownsRow W5.heap.size 3 1 u7 (resL (P, L, r, C)).length ((resL (P, L, r, C)).map (Value.int .i64)) := hr7
  have hrl : (resL (P, L, r, C)).length ≤ 100 := by unfold resL; split <;> simp
  have HI7 := hideP (xaqZ rfl hR7)
  clear hr7 hR7
  go_wp2_with fail
  refine (xbzZ (s, false) _ w4.heap.size w.heap.size u7 w7 (hsa.kept hb7) HI7.out hl5 hrl (Nat.le_trans hB5 hb7.size) hBb).mono ?_
  rintro e w8 ⟨rfl, h8, b8⟩
  obtain ⟨RR, hRR⟩ : ∃ RR, tk (s, false) (resL (P, L, r, C)) = RR := ⟨_, rfl⟩
  rw [hRR] at h8
  have HRR := hideP hRR
  clear hRR
  obtain ⟨R1, R2⟩ := RR
  obtain ⟨v8, q8, r8⟩ := h8
  simp only at q8 r8
  obtain ⟨p8, c8, rfl⟩ := xahZ r8
  have m0 := xaaZ q8 0
  have m1 := xaaZ q8 1
  have n1 := Lib.frozen_of_heap q8 1
  simp at m0 m1
  have HQ8 := hideP q8
  have HR8 := hideP r8
  clear q8 r8
  obtain ⟨w6, hw6⟩ : ∃ w6, w8.setCell ⟨w4.heap.size, 1, none⟩ (.bool (R2 || decide (0 < R1.length))) = w6 := ⟨_, rfl⟩
  have hg6 : w8.grownBy w6 (some w4.heap.size) := by rw [← hw6]; exact xbbZ _ _ _
  have h6 : SA w6 w4.heap.size w.heap.size (R1, R2 || decide (0 < R1.length)) := by
    have := heap_setCell_same w8 w4.heap.size 1 _ _ (.bool (R2 || decide (0 < R1.length))) HQ8.out
    rw [hw6] at this
    exact StAt.set HQ8.out (by simpa using this) HR8.out hg6
  have b6 : Below w.heap.size W5 w6 := ((hb7.mono hB5).trans b8).grown hg6 (by have := b8.size; have := hb7.size; omega) (fun k hk => by cases hk; exact hBb)
  have hdec : decide ((R1.length : Int) > 0) = decide (0 < R1.length) := by rw [Bool.eq_iff_iff, decide_eq_true_iff, decide_eq_true_iff]; omega
  have hdec2 : decide ((0 : Int) < (R1.length : Int)) = decide (0 < R1.length) := by rw [Bool.eq_iff_iff, decide_eq_true_iff, decide_eq_true_iff]; omega
  obtain ⟨v6, q6, r6⟩ := h6
  have g0 := xaaZ q6 0
  have g1 := xaaZ q6 1
  simp at g0 g1
  obtain ⟨p6, c6, rfl⟩ := xahZ r6
  have HR6 := hideP r6
  clear r6 q6
  have hfin := hideP (show bhP p (P, L, r, C) (13, a) s = (R1, R2 || decide (0 < R1.length)) by simp only [bhP]; rw [HRR.out]; rfl)
  obtain ⟨dd, hdd⟩ : ∃ dd, decide (0 < R1.length) = dd := ⟨_, rfl⟩
  rw [hdd] at hw6 g1 hfin hdec hdec2
  cases R2
  all_goals
    simp only [Bool.false_or, Bool.true_or] at hw6 g1 hfin m1
    go_wp2_with fail
    go_quiet (fail)
    go_wp2
    go_ret2
    rw [hfin.out]
    refine ⟨_, rfl, ?_, (hw5.trans b6).trans ⟨rfl, rfl, rfl, Nat.le_refl _, fun _ _ => rfl⟩⟩
    exact HR6.out
theorem xixZ (c a : Int) (p : List Fn) (f : Fn) (s : List Int) (vs pv c0 c1 c2 c3 : Value) (w : World) (ho : OkOp p f (c, a)) (hs : s.length ≤ 8) (hvs : IntsAt w vs s) (hnil : NilOk vs) (hp : FnsAt w pv p) (hcp : CapAt w pv) (hf : FnAt w c0 c1 c2 c3 f) (n2 : c ≠ 2) (n3 : c ≠ 3) (n4 : c ≠ 4) (n8 : c ≠ 8) (n9 : c ≠ 9) (n12 : c ≠ 12) (n13 : c ≠ 13) : Calls Tryz.prog 62 #[.agg #[.int .i64 c, .int .i64 a], vs, .agg #[pv], .agg #[c0, c1, c2, c3]] w fun e w' => ∃ u, e = .returned (.tuple #[u, .bool (!(bhP p f (c, a) s).2)]) ∧ w'.ownsRow w.heap.size 3 1 u (bhP p f (c, a) s).1.length ((bhP p f (c, a) s).1.map (Value.int .i64)) ∧ Below w.heap.size w w' := by
  have hcode := ho.code
  simp only at hcode
  have e2 : (c == 2) = false := by simp [n2]
  have e3 : (c == 3) = false := by simp [n3]
  have e4 : (c == 4) = false := by simp [n4]
  have e8 : (c == 8) = false := by simp [n8]
  have e9 : (c == 9) = false := by simp [n9]
  have e12 : (c == 12) = false := by simp [n12]
  have e13 : (c == 13) = false := by simp [n13]
  obtain ⟨P, L, r, C⟩ := f
  obtain ⟨rfl, hI, rfl, hO⟩ := id hf
  simp only at hI hO
  obtain ⟨p1, q1, rfl, _, hLc⟩ := id hI
  obtain ⟨p3, q3, rfl, _, _⟩ := id hO
  obtain ⟨pp, qp, rfl, _, hpc⟩ := id hp
  obtain ⟨ps, qs, rfl, _, _⟩ := id hvs
  obtain ⟨W3, hW3⟩ : ∃ W3, ((w.alloc (.cells #[.int .i64 c, .int .i64 a] 38)).alloc (.cells #[.slice pp p.length qp] 24)).alloc (.cells #[.int .i64 P, .slice p1 L.length q1, .int .i64 r, .slice p3 C.length q3] 28) = W3 := ⟨_, rfl⟩
  have hw3 : Below w.heap.size w W3 := by rw [← hW3]; exact (((Below.refl _ w).alloc (Nat.le_refl _) _).alloc (by simp) _).alloc (by simp; omega) _
  have x0 : W3.heap[w.heap.size]? = some (.cells #[.int .i64 c, .int .i64 a] 38 (0, 0)) := by rw [← hW3]; exact xaeZ (xaeZ (World.alloc_heap_new w _) _) _
  have x1 : W3.heap[w.heap.size + 1]? = some (.cells #[.slice pp p.length qp] 24 (0, 0)) := by rw [← hW3]; exact xaeZ (xa3Z w _ _) _
  have x2 : W3.heap[w.heap.size + 1 + 1]? = some (.cells #[.int .i64 P, .slice p1 L.length q1, .int .i64 r, .slice p3 C.length q3] 28 (0, 0)) := by
    rw [← hW3]
    have := World.alloc_heap_new ((w.alloc (.cells #[.int .i64 c, .int .i64 a] 38)).alloc (.cells #[.slice pp p.length qp] 24)) (.cells #[.int .i64 P, .slice p1 L.length q1, .int .i64 r, .slice p3 C.length q3] 28)
    simpa using this
  have HVS := hideP (hvs.below hw3)
  have HNIL := hideP hnil
  have HCL := hideP (xbkZ s _ W3 HVS.out HNIL.out (by omega))
  have HP3 := hideP (hp.below hw3)
  have HC3 := hideP (hcp.below hp hw3)
  have HF3 := hideP (hf.below hw3)
  have HOK := hideP ho
  have X0 := hideP x0
  have X1 := hideP x1
  have X2 := hideP x2
  have HS8 := hideP hs
  clear ho hvs hnil hp hcp hf hI hO hLc hpc x0 x1 x2 hs
  go_enter Tryz.func62, Tryz.ntmps62
  go_wp2_with fail
  refine HCL.out.mono ?_
  rintro e w4 ⟨u4, rfl, r4, hb4⟩
  obtain ⟨p4, q4, rfl⟩ := xahZ r4
  obtain ⟨W5, hW5⟩ : ∃ W5, w4.alloc (.cells #[.slice p4 s.length q4, .bool false] 123) = W5 := ⟨_, rfl⟩
  have hb5 : Below W3.heap.size W3 W5 := by rw [← hW5]; exact hb4.alloc hb4.size _
  have y5 : W5.heap[w4.heap.size]? = some (.cells #[.slice p4 s.length q4, .bool false] 123 (0, 0)) := by rw [← hW5]; exact World.alloc_heap_new w4 _
  have hsz5 : W5.heap.size = w4.heap.size + 1 := by rw [← hW5]; simp
  have hsa : SA W5 w4.heap.size w.heap.size (s, false) := ⟨_, y5, by rw [← hW5]; exact (xa2Z r4 hw3.size).alloc _⟩
  have X05 := hideP ((hb4.block _ (xabZ X0.out)).trans X0.out)
  have X15 := hideP ((hb4.block _ (xabZ X1.out)).trans X1.out)
  have X25 := hideP ((hb4.block _ (xabZ X2.out)).trans X2.out)
  have d0 := xaaZ X05.out 0
  have d1 := xaaZ X05.out 1
  have k0 := xaaZ X15.out 0
  have f0 := xaaZ X25.out 0
  have f1 := xaaZ X25.out 1
  have f2 := xaaZ X25.out 2
  have f3 := xaaZ X25.out 3
  simp at d0 d1 k0 f0 f1 f2 f3
  have d0 := fun o => xacZ d0 o
  have d1 := fun o => xacZ d1 o
  have k0 := fun o => xacZ k0 o
  have f0 := fun o => xacZ f0 o
  have f1 := fun o => xacZ f1 o
  have f2 := fun o => xacZ f2 o
  have f3 := fun o => xacZ f3 o
  have hB5 : w.heap.size ≤ W5.heap.size := Nat.le_trans hw3.size hb5.size
  have hBb : w.heap.size ≤ w4.heap.size := Nat.le_trans hw3.size hb4.size
  have hl5 : ((s, false) : St).1.length ≤ 100 := Nat.le_trans HS8.out (by omega)
  have hw5 : Below w.heap.size w W5 := hw3.trans (hb5.mono hw3.size)
  have HY5 := hideP y5
  have HW5 := hideP hW5
  have HSZ5 := hideP hsz5
  clear hsz5
  clear r4 y5 X0 X1 X2 X05 X15 X25 HCL HVS HNIL hW5
  go_wp2_with fail
  rw [HW5.out]
  refine (do_any c hcode ⟨n2, n3, n4, n8, n9, n12, n13⟩ (s, false) w4.heap.size w.heap.size W5 hsa hl5 hB5 hBb).mono ?_
  rintro e w6 ⟨rfl, h6, b6⟩
  obtain ⟨v6, q6, r6⟩ := h6
  have g0 := xaaZ q6 0
  have g1 := xaaZ q6 1
  simp at g0 g1
  obtain ⟨p6, c6, rfl⟩ := xahZ r6
  have HR6 := hideP r6
  clear r6 q6
  have hfin := hideP (show bhP p (P, L, r, C) (c, a) s = doS (s, false) c by simp only [bhP, if_neg n2, if_neg n3, if_neg n4, if_neg n8, if_neg n9, if_neg n12, if_neg n13]; rfl)
  go_wp2_with fail
  go_quiet (fail)
  go_wp2
  go_ret2
  rw [hfin.out]
  refine ⟨_, rfl, ?_, (hw5.trans b6).trans ⟨rfl, rfl, rfl, Nat.le_refl _, fun _ _ => rfl⟩⟩
  exact HR6.out
theorem behind_any (c a : Int) (p : List Fn) (f : Fn) (s : List Int) (vs pv c0 c1 c2 c3 : Value) (w : World) (ho : OkOp p f (c, a)) (hs : s.length ≤ 8) (hvs : IntsAt w vs s) (hnil : NilOk vs) (hp : FnsAt w pv p) (hcp : CapAt w pv) (hf : FnAt w c0 c1 c2 c3 f) : Calls Tryz.prog 62 #[.agg #[.int .i64 c, .int .i64 a], vs, .agg #[pv], .agg #[c0, c1, c2, c3]] w fun e w' => ∃ u, e = .returned (.tuple #[u, .bool (tryOp p f (c, a) s).isSome]) ∧ (∀ out, tryOp p f (c, a) s = some out → w'.ownsRow w.heap.size 3 1 u out.length (out.map (Value.int .i64))) ∧ (∃ p n c, u = .slice p n c) ∧ Below w.heap.size w w' := by
  have key : Calls Tryz.prog 62 #[.agg #[.int .i64 c, .int .i64 a], vs, .agg #[pv], .agg #[c0, c1, c2, c3]] w fun e w' => ∃ u, e = .returned (.tuple #[u, .bool (!(bhP p f (c, a) s).2)]) ∧ w'.ownsRow w.heap.size 3 1 u (bhP p f (c, a) s).1.length ((bhP p f (c, a) s).1.map (Value.int .i64)) ∧ Below w.heap.size w w' := by
    by_cases n2 : c = 2
    · exact xisZ c a p f s vs pv c0 c1 c2 c3 w ho hs hvs hnil hp hcp hf n2
    by_cases n3 : c = 3
    · exact xitZ c a p f s vs pv c0 c1 c2 c3 w ho hs hvs hnil hp hcp hf n3
    by_cases n4 : c = 4
    · exact xiuZ c a p f s vs pv c0 c1 c2 c3 w ho hs hvs hnil hp hcp hf n4
    by_cases n8 : c = 8
    · exact xivZ c a p f s vs pv c0 c1 c2 c3 w ho hs hvs hnil hp hcp hf n8
    by_cases n9 : c = 9
    · exact xiwZ c a p f s vs pv c0 c1 c2 c3 w ho hs hvs hnil hp hcp hf n9
    by_cases n12 : c = 12
    · exact xhrZ c a p f s vs pv c0 c1 c2 c3 w ho hs hvs hnil hp hcp hf n12
    by_cases n13 : c = 13
    · exact xhsZ c a p f s vs pv c0 c1 c2 c3 w ho hs hvs hnil hp hcp hf n13
    exact xixZ c a p f s vs pv c0 c1 c2 c3 w ho hs hvs hnil hp hcp hf n2 n3 n4 n8 n9 n12 n13
  refine key.mono ?_
  rintro e w' ⟨u, rfl, hr, hb⟩
  have ht := bh_try (o := (c, a)) ho hs
  obtain ⟨q, d, hq⟩ := xahZ hr
  refine ⟨u, ?_, fun out hout => ?_, ⟨_, _, _, hq⟩, hb⟩
  · rw [ht]
    cases (bhP p f (c, a) s).2 <;> rfl
  · rw [ht] at hout
    split at hout
    · cases hout
    · cases hout
      exact hr
end Go.Proofs.YtgmkmlenhhhgkaaGreat


/- Programs that came in, whole: room, nil or not, lengths. -/
namespace Go.Proofs.YtgmkmlenhhhgkaaGreat
open Go.ChangeShapes Go.WideShapes Go.ChangeAt Go.RowKit
set_option linter.unusedVariables false
set_option linter.unusedSimpArgs false
section
variable {H : Type} {enc : TypeId × Value → H} {W : World} {fuel : Nat} {x : DataW H × List MemPlace}
theorem bytes_op : Tryz.prog.bytesOf 38 = 16 := by kernel_rfl
theorem bytes_fn : Tryz.prog.bytesOf 28 = 64 := by kernel_rfl
theorem open_opsN {c : Value} (h : DataW.trod enc Tryz.prog W 0 (fun _ => true) true fuel 26 [c] = some x) (hs : ∀ n ∈ x.1.weights Tryz.prog 26, n ≤ reachBytes) : ∃ l : List (Int × Int), OpsAt W c l ∧ NilOk c ∧ l.length ≤ 8796093022208 := by
  rcases Deep.open_slice_pairs Tryz.underlying26 Tryz.underlying38 (by kernel_rfl) rfl rfl (by kernel_rfl) (by kernel_rfl) h with ⟨hcs, hx⟩ | ⟨a, len', cap', m, n, V0, V1, D0, D1, P0, P1, hcs, hb, hl, hm, hmm, hx, hc⟩
  · simp at hcs
    subst hcs
    exact ⟨[], ⟨none, 0, rfl, Nat.zero_le _, fun k o hk => by simp at hk⟩, xduZ, by simp⟩
  · simp at hcs
    subst hcs
    simp only [if_true] at hmm
    subst hmm
    have hlen : len' ≤ 8796093022208 := by
      have hx1 := congrArg Prod.fst hx
      simp only at hx1
      rw [hx1] at hs
      simp only [DataW.weights, Tryz.underlying26] at hs
      have h1 := hs _ (List.mem_cons_self ..)
      rw [bytes_op] at h1
      simp [reachBytes] at h1
      omega
    refine ⟨(List.range len').map fun i => (intOf (V0 i), intOf (V1 i)), ⟨some a, m, by simp, by simp; omega, fun k o hk => ?_⟩, xaxZ _ _ _, by simpa using hlen⟩
    have hk1 : k < len' := by have := xbiZ hk; simpa using this
    have ho : o = (intOf (V0 k), intOf (V1 k)) := by simp [hk1] at hk; exact hk.symm
    obtain ⟨c0, c1, t0, t1⟩ := hc k (by omega)
    obtain ⟨x, e0, _, wx⟩ := DataW.trod_int Tryz.underlying3 t0
    obtain ⟨y, e1, _, wy⟩ := DataW.trod_int Tryz.underlying3 t1
    simp at e0 e1
    obtain ⟨b, off, spot⟩ := a
    have hs0 := (hc 0 (by omega)).1
    have hspot : spot = none := by simpa [Addr.add] using World.cell?_spot hs0
    subst hspot
    rw [xc3Z] at c0 c1
    rw [e0] at c0
    rw [e1] at c1
    exact ⟨b, off, rfl, xddZ c0, by rw [ho, e0]; exact c0, by rw [ho, e1]; exact c1⟩
def FnFull (c1 c3 : Value) : Prop := NilOk c1 ∧ NilOk c3 ∧ (∃ p n cap, c1 = .slice p n cap ∧ n ≤ cap ∧ n ≤ 17592186044416) ∧ ∃ p n cap, c3 = .slice p n cap ∧ n ≤ 8796093022208
theorem open_fnN {c0 c1 c2 c3 : Value} (h : DataW.trod enc Tryz.prog W 0 (fun _ => true) true fuel 28 [c0, c1, c2, c3] = some x) (hs : ∀ n ∈ x.1.weights Tryz.prog 28, n ≤ reachBytes) : ∃ f : Fn, FnAt W c0 c1 c2 c3 f ∧ FnFull c1 c3 := by
  obtain ⟨y0, y1, y2, y3, n, hx, _, h0, h1, h2, h3⟩ := Go.Joins.trod_struct4 Tryz.underlying28 h
  simp [xgzZ, cells_ints, cells_ops] at h0 h1 h2 h3
  have hx1 := congrArg Prod.fst hx
  simp only at hx1
  rw [hx1] at hs
  simp only [DataW.weights, Tryz.underlying28] at hs
  obtain ⟨P, e0, _⟩ := DataW.trod_int Tryz.underlying3 h0
  obtain ⟨R, e2, _⟩ := DataW.trod_int Tryz.underlying3 h2
  obtain ⟨L, hL, nL, zL, pL, qL, capL, eL, lL⟩ := open_intsN h1 (fun n hn => hs n (by simp [DataW.weightsEach, hn]))
  obtain ⟨C, hC, nC, zC⟩ := open_opsN h3 (fun n hn => hs n (by simp [DataW.weightsEach, hn]))
  simp at e0 e2
  have hLs : qL = L.length := by obtain ⟨_, _, e, _⟩ := hL; rw [eL] at e; cases e; rfl
  obtain ⟨pC, capC, eC, _, _⟩ := id hC
  exact ⟨(P, L, R, C), ⟨e0, hL, e2, hC⟩, nL, nC, ⟨pL, qL, capL, eL, lL, by rw [hLs]; exact zL⟩, ⟨pC, _, capC, eC, zC⟩⟩
structure ProgFull (W : World) (v : Value) (l : List Fn) : Prop where
  at_ : FnsAt W v l
  nil : NilOk v
  len : l.length ≤ 2199023255488
  each : ∀ (b off n cap k : Nat) (c1 c3 : Value), v = .slice (some ⟨b, off, none⟩) n cap → k < n → W.cell? ⟨b, off + k * 4 + 1, none⟩ = some c1 → W.cell? ⟨b, off + k * 4 + 3, none⟩ = some c3 → FnFull c1 c3
theorem ProgFull.cap {W : World} {v : Value} {l : List Fn} (h : ProgFull W v l) : CapAt W v := by
  intro b off n cap k p' n' c' hv hk hc
  obtain ⟨p, cap2, hv2, hm, hcc⟩ := h.at_
  rw [hv] at hv2
  cases hv2
  obtain ⟨f, hf⟩ := xagZ (l := l) hk
  obtain ⟨b2, off2, c0, c1, c2, c3, hp, hlt, _, _, _, g3, _⟩ := hcc k f hf
  cases hp
  obtain ⟨_, _, ⟨p1, n1, cap1, e1, h1, _⟩, _⟩ := h.each b off l.length cap k _ _ hv hk hc g3
  cases e1
  exact h1
theorem open_fnsD {c : Value} (h : DataW.trod enc Tryz.prog W 0 (fun _ => true) true fuel 22 [c] = some x) (hs : ∀ n ∈ x.1.weights Tryz.prog 22, n ≤ reachBytes) : ∃ l : List Fn, ProgFull W c l := by
  rcases Deep.open_slice Tryz.underlying22 h with ⟨hcs, hx⟩ | ⟨a, len', cap', m, n, D, Pl, hcs, hb, hl, hm, hmm, hx, hc⟩
  · simp at hcs
    subst hcs
    exact ⟨[], ⟨none, 0, rfl, Nat.zero_le _, fun k o hk => by simp at hk⟩, xduZ, by simp, fun b off n cap k c1 c3 hv => by cases hv⟩
  · simp at hcs
    subst hcs
    simp only [if_true] at hmm
    subst hmm
    rw [hx] at hs
    simp only [DataW.weights, Tryz.underlying22] at hs
    have hlen : len' ≤ 2199023255488 := by
      have h1 := hs _ (List.mem_cons_self ..)
      rw [bytes_fn] at h1
      simp [reachBytes] at h1
      omega
    have each : ∀ i, i < len' → ∃ q : FnV × Fn, W.cell? (a.add (i * 4)) = some q.1.1 ∧ W.cell? (a.add (i * 4 + 1)) = some q.1.2.1 ∧ W.cell? (a.add (i * 4 + 2)) = some q.1.2.2.1 ∧ W.cell? (a.add (i * 4 + 3)) = some q.1.2.2.2 ∧ FnAt W q.1.1 q.1.2.1 q.1.2.2.1 q.1.2.2.2 q.2 ∧ FnFull q.1.2.1 q.1.2.2.2 := by
      intro i hi
      obtain ⟨cs', h1, h2⟩ := hc i (by omega)
      rw [cells_fn] at h1
      obtain ⟨_, hlen, hcell⟩ := World.cells?_some h1
      match cs', hlen with
      | [c0, c1, c2, c3], _ =>
        obtain ⟨f, hf, hff⟩ := open_fnN (x := (D i, Pl i)) h2 (fun n hn => hs n (List.mem_cons_of_mem _ (List.mem_append_left _ (xd9Z (List.mem_map.2 ⟨i, List.mem_range.2 hi, rfl⟩) n hn))))
        have e0 := hcell 0 (by omega)
        have e1 := hcell 1 (by omega)
        have e2 := hcell 2 (by omega)
        have e3 := hcell 3 (by omega)
        rw [Deep.add_add] at e0 e1 e2 e3
        exact ⟨((c0, c1, c2, c3), f), by simpa using e0, by simpa using e1, by simpa using e2, by simpa using e3, hf, hff⟩
    obtain ⟨q, hq⟩ := Deep.choose_lt each
    obtain ⟨b, off, spot⟩ := a
    refine ⟨(List.range len').map fun i => (q i).2, ⟨some ⟨b, off, spot⟩, m, by simp, by simp; omega, fun k f hk => ?_⟩, xaxZ _ _ _, by simpa using hlen, ?_⟩
    · have hk1 : k < len' := by have := xbiZ hk; simpa using this
      have ho : f = (q k).2 := by simp [hk1] at hk; exact hk.symm
      obtain ⟨c0, c1, c2, c3, hf, _⟩ := hq k hk1
      have hs0 := (hq 0 (by omega)).1
      have hspot : spot = none := by simpa [Addr.add] using World.cell?_spot hs0
      subst hspot
      rw [xc3Z] at c0 c1 c2 c3
      exact ⟨b, off, _, _, _, _, rfl, xddZ c0, c0, c1, c2, c3, by rw [ho]; exact hf⟩
    · intro b' off' n' cap' k c1 c3 hv hk g1 g3
      cases hv
      obtain ⟨_, d1, _, d3, _, hff⟩ := hq k hk
      rw [xc3Z] at d1 d3
      rw [show off + (k * 4 + 1) = off + k * 4 + 1 by omega, g1] at d1
      rw [show off + (k * 4 + 3) = off + k * 4 + 3 by omega, g3] at d3
      cases d1
      cases d3
      exact hff
theorem open_progC {base : Nat} {r : Reach} {v : Value} {d : DataW H} {p : List MemPlace} (hv : Value.okWide Tryz.prog W r base 24 v) (h : DataW.Trod enc Tryz.prog W 0 (fun _ => true) true 24 v d p) (hs : ∀ n ∈ d.weights Tryz.prog 24, n ≤ reachBytes) :
    ∃ (c : Value) (l : List Fn), v = .agg #[c] ∧ ProgFull W c l := by
  obtain ⟨cs, rfl, hsz⟩ := okWide_struct Tryz.underlying24 hv
  rw [cells_prog] at hsz
  obtain ⟨cs⟩ := cs
  match cs, hsz with
  | [c], _ =>
    obtain ⟨fuel, hf⟩ := h
    obtain ⟨y0, n, hx, _, h0⟩ := trod_struct1 Tryz.underlying24 hf
    simp [cells_fns, Value.cells] at h0
    have hx1 := congrArg Prod.fst hx
    simp only at hx1
    rw [hx1] at hs
    simp only [DataW.weights, Tryz.underlying24] at hs
    obtain ⟨l, hl⟩ := open_fnsD h0 (fun n hn => hs n (by simp [DataW.weightsEach, hn]))
    exact ⟨c, l, rfl, hl⟩
end
end Go.Proofs.YtgmkmlenhhhgkaaGreat


