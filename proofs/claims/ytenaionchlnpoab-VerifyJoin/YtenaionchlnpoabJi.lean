/- verify's stack: call; verify.behind. -/
import Derived.Test.YtenaionchlnpoabJh
namespace Go.Proofs.Ytenaionchlnpoab
open Go.RowKit
set_option linter.unusedSimpArgs false
set_option linter.unusedVariables false
theorem ints_take {w : World} {p : Option Addr} {q k : Nat} {L : List Int} (h : IntsAt w (.slice p L.length q) L) (hk : k ≤ L.length) : IntsAt w (.slice p k q) (L.take k) := by
  obtain ⟨p', q', he, hm, hc⟩ := h
  cases he
  refine ⟨p, q, by rw [List.length_take, Nat.min_eq_left hk], by rw [List.length_take]; omega, fun j z hj => ?_⟩
  have hj2 : j < k := by have := lt_of_at hj; rw [List.length_take] at this; omega
  rw [List.getElem?_take_of_lt hj2] at hj
  exact hc j z hj
set_option maxRecDepth 100000 in
set_option maxHeartbeats 2000000 in
theorem call_any (g : Fn) (c0 c1 c2 c3 : Value) (s : St) (b B : Nat) (w : World) (h : SA w b B s) (hl : s.1.length ≤ 100) (hB : B ≤ w.heap.size) (hBb : B ≤ b) (hg : FnAt w c0 c1 c2 c3 g) (hP : 0 ≤ g.1 ∧ g.1 ≤ (g.2.1.length : Int)) (h6 : g.2.1.length ≤ 6) (hcap : ∀ p n c, c1 = .slice p n c → n ≤ c) : Calls Try.prog 76 #[.pointer (some ⟨b, 0, none⟩), .agg #[c0, c1, c2, c3]] w fun e w' => e = .returned (.tuple #[]) ∧ SA w' b B (lv (tk s (g.2.1.take g.1.toNat)) (resL g)) ∧ Below B w w' := by
  obtain ⟨P, L, r, C⟩ := g
  have hg' := hg
  obtain ⟨rfl, hI, rfl, hO⟩ := hg'
  simp only at hP h6 hI hO
  obtain ⟨p1, q1, rfl, _, _⟩ := id hI
  obtain ⟨p3, q3, rfl, _, _⟩ := id hO
  obtain ⟨k, rfl⟩ : ∃ k : Nat, P = k := ⟨P.toNat, by omega⟩
  have hk : k ≤ L.length := by omega
  have hq1 : k ≤ q1 := by have := hcap _ _ _ rfl; omega
  obtain ⟨W1, hW1⟩ : ∃ W1, w.alloc (.cells #[.int .i64 k, .slice p1 L.length q1, .int .i64 r, .slice p3 C.length q3] 59) = W1 := ⟨_, rfl⟩
  have hw1 : Below w.heap.size w W1 := by rw [← hW1]; exact (Below.refl _ w).alloc (Nat.le_refl _) _
  have hh : W1.heap[w.heap.size]? = some (.cells #[.int .i64 k, .slice p1 L.length q1, .int .i64 r, .slice p3 C.length q3] 59 (0, 0)) := by rw [← hW1]; exact World.alloc_heap_new w _
  have d0 := cell_at' hh 0
  have d1 := cell_at' hh 1
  have d2 := cell_at' hh 2
  have d3 := cell_at' hh 3
  simp at d0 d1 d2 d3
  have hz := heap_lt hh
  have HI1 := hideP (ints_take (hI.below hw1) hk)
  have HS1 := hideP (h.kept hw1)
  have HG1 := hideP (hg.below hw1)
  have hB1 : B ≤ W1.heap.size := Nat.le_trans hB hw1.size
  have hlt : (L.take k).length ≤ 100 := by rw [List.length_take]; omega
  have HH := hideP hh
  have e0 : ((k : Nat) : Int).toNat = k := by omega
  simp only [e0]
  have hblt := StAt.lt h
  clear h hg hI hO hh e0 hP hcap
  go_enter Try.func76, Try.ntmps76
  have hbl : b < w.heap.size := hblt
  go_wp2_with fail
  have hlen : (L.take k).length = k := by rw [List.length_take, Nat.min_eq_left hk]
  have hI1 := HI1.out
  rw [← hlen] at hI1
  have htk := vTake_any s.1 (L.take k) s.2 b B p1 q1 W1 HS1.out (by rw [hlen]; rw [hlen] at hI1; exact hI1) hB1 hBb hl hlt
  rw [hlen] at htk
  have HTK := hideP htk
  clear hI1 htk
  refine HTK.out.mono ?_
  rintro e w2 ⟨rfl, hs2, hg2⟩
  have hS2 : SA w2 b B (tk s (L.take k)) := by
    have := hs2
    rw [← hlen] at this
    unfold SA tk
    rw [hlen] at this ⊢
    exact this
  have hl2 := Nat.le_trans (tk_len s (L.take k)) hl
  have hB2 : B ≤ w2.heap.size := Nat.le_trans hB1 hg2.size
  have hne : (some w.heap.size : Option Nat) ≠ some b := fun e => by have e2 : w.heap.size = b := (by simpa using e); omega
  have g0 := hg2.cell d0 hne
  have g1 := hg2.cell d1 hne
  have g2 := hg2.cell d2 hne
  have g3 := hg2.cell d3 hne
  have hBel2 : Below B W1 w2 := (Below.refl B W1).grown hg2 hB1 (fun k hk => by cases hk; exact hBb)
  clear hs2
  go_wp2_with fail
  refine (result_raw k r p1 p3 L.length q1 C.length q3 w2).mono ?_
  rintro e w3 ⟨u, rfl, hr3, hb3⟩
  have hR3 : w3.ownsRow w2.heap.size 3 1 u (resL (k, L, r, C)).length ((resL (k, L, r, C)).map (Value.int .i64)) := hr3
  have hrl : (resL ((k : Int), L, r, C)).length ≤ 100 := by unfold resL; split <;> simp
  have HR3 := hideP (intsAt_of_row rfl hR3)
  have HN3 := hideP (nilOk_row hR3)
  have hS3 := hS2.kept hb3
  have hB3 : B ≤ w3.heap.size := Nat.le_trans hB2 hb3.size
  clear hr3 hR3
  go_wp2_with fail
  refine (lvS_any _ _ b B u w3 hS3 HR3.out HN3.out hl2 hrl hB3 hBb).mono ?_
  rintro e w4 ⟨rfl, hs4, hb4⟩
  go_wp2
  go_end0
  exact ⟨rfl, hs4, (hw1.mono hB).trans (hBel2.trans ((hb3.mono hB2).trans hb4))⟩
end Go.Proofs.Ytenaionchlnpoab

