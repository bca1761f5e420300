/- verify.Func. -/
import Derived.Test.YtenaionchlnpoabJn
namespace Go.Proofs.Ytenaionchlnpoab
open Go.RowKit
set_option linter.unusedSimpArgs false
set_option linter.unusedVariables false
/-- entries in memory of the call's own. -/
def EntsOwn (W : World) (B : Nat) (v : Value) (l : List (Nat × List Int)) : Prop := ∃ q, W.ownsRow B 61 2 v q.length (entCells q) ∧ EntRows W B q l
theorem entsOwn_nil (W : World) (B : Nat) : EntsOwn W B (.slice none 0 0) [] := ⟨[], World.ownsRow_nil _ _ _ _, rfl, fun k x y hx => by simp at hx⟩
/-- what Func tells. -/
def FuncIs (p : List Fn) (k : Int) (er : Int) (l : List (Nat × List Int)) : Prop :=
  (progErr p ≠ 0 ∧ er = progErr p ∧ l = []) ∨ (progErr p = 0 ∧ (k < 0 ∨ (p.length : Int) ≤ k) ∧ er = 3 ∧ l = []) ∨
    (progErr p = 0 ∧ ∃ (n : Nat) (f : Fn) (r : Option (Nat → Option (List Int))), k = n ∧ p[n]? = some f ∧ Least p f r ∧ ((r = none ∧ er = 4 ∧ l = []) ∨ ∃ e, r = some e ∧ er = 0 ∧ l = (reachL f.2.2.2).map fun pc => (pc, (e pc).getD [])))
theorem funcIs_one {p : List Fn} {k er er' : Int} {l l' : List (Nat × List Int)} (h : FuncIs p k er l) (h' : FuncIs p k er' l') : er = er' ∧ l = l' := by
  rcases h with ⟨a1, a2, a3⟩ | ⟨a1, a2, a3, a4⟩ | ⟨a1, n, f, r, rfl, a3, a4, a5⟩
  · rcases h' with ⟨b1, b2, b3⟩ | ⟨b1, _⟩ | ⟨b1, _⟩
    · exact ⟨a2.trans b2.symm, a3.trans b3.symm⟩
    · exact absurd b1 a1
    · exact absurd b1 a1
  · rcases h' with ⟨b1, _⟩ | ⟨b1, b2, b3, b4⟩ | ⟨b1, n, f, r, rfl, b3, _⟩
    · exact absurd a1 b1
    · exact ⟨a3.trans b3.symm, a4.trans b4.symm⟩
    · have := lt_of_at b3; omega
  · rcases h' with ⟨b1, _⟩ | ⟨b1, b2, _⟩ | ⟨b1, n', f', r', hn, b3, b4, b5⟩
    · exact absurd a1 b1
    · have := lt_of_at a3; omega
    · obtain rfl : n = n' := by omega
      rw [a3] at b3
      cases b3
      obtain rfl := least_one a4 b4
      rcases a5 with ⟨c1, c2, c3⟩ | ⟨e, c1, c2, c3⟩
      · rcases b5 with ⟨d1, d2, d3⟩ | ⟨e', d1, _⟩
        · exact ⟨c2.trans d2.symm, c3.trans d3.symm⟩
        · rw [c1] at d1; cases d1
      · rcases b5 with ⟨d1, _⟩ | ⟨e', d1, d2, d3⟩
        · rw [c1] at d1; cases d1
        · rw [c1] at d1
          cases d1
          exact ⟨c2.trans d2.symm, c3.trans d3.symm⟩
def FuncP (p : List Fn) (k : Int) (w : World) (e : Ending) (w' : World) : Prop := ∃ v er l, e = .returned (.tuple #[v, .int .i64 er]) ∧ FuncIs p k er l ∧ EntsOwn w' w.heap.size v l ∧ Below w.heap.size w w'
set_option maxRecDepth 100000 in
set_option maxHeartbeats 2000000 in
theorem vFunc_any (p : List Fn) (k : Int) (pv : Value) (w : World) (hp : FnsAt w pv p) (hcp : CapAt w pv) : Calls Try.prog 32 #[.agg #[pv], .int .i64 k] w (FuncP p k w) := by
  obtain ⟨pp, qp, hpv, hpm, _⟩ := id hp
  subst hpv
  unfold maxLen at hpm
  obtain ⟨W1, hW1⟩ : ∃ W1, w.alloc (.cells #[.slice pp p.length qp] 56) = W1 := ⟨_, rfl⟩
  have hb1 : Below w.heap.size w W1 := by rw [← hW1]; exact (Below.refl _ w).alloc (Nat.le_refl _) _
  have x1 : W1.heap[w.heap.size]? = some (.cells #[.slice pp p.length qp] 56 (0, 0)) := by rw [← hW1]; exact World.alloc_heap_new w _
  have c1 := cell_at' x1 0
  simp at c1
  have lx := heap_lt x1
  have hp1 := hp.below hb1
  have HCK := hideP (progCheck_any p _ W1 hp1)
  have HP := hideP hp
  have HCP := hideP hcp
  have HP1 := hideP hp1
  clear x1 hp1 hp hcp
  by_cases he : progErr p = 0
  · rw [he] at HCK
    have HE := hideP he
    clear he
    go_enter Try.func32, Try.ntmps32
    go_wp2_with fail
    refine HCK.out.mono ?_
    rintro e w2 ⟨rfl, hb2⟩
    have c2 := (hb2.cell (p := ⟨w.heap.size, 0, none⟩) lx).trans c1
    have hB2 := hb1.trans (hb2.mono hb1.size)
    by_cases h0 : k < 0
    · go_wp2
      go_ret2
      exact ⟨_, _, [], rfl, .inr (.inl ⟨HE.out, .inl h0, rfl, rfl⟩), entsOwn_nil _ _, hB2⟩
    by_cases h1 : k ≥ (p.length : Int)
    · go_wp2
      go_ret2
      exact ⟨_, _, [], rfl, .inr (.inl ⟨HE.out, .inr h1, rfl, rfl⟩), entsOwn_nil _ _, hB2⟩
    obtain ⟨n, rfl⟩ : ∃ n : Nat, k = n := ⟨k.toNat, by omega⟩
    have hnp : n < p.length := by omega
    have hnpi : (n : Int) < (p.length : Int) := by omega
    obtain ⟨f, hf⟩ := at_of_lt hnp
    have hp2 := HP.out.below hB2
    have hcp2 := HCP.out.below HP.out hB2
    obtain ⟨p', q', hpe, _, hpc⟩ := id hp2
    cases hpe
    obtain ⟨b, off, c0, c1', c2', c3', hpp, hlt, y0, y1, y2, y3, hfn⟩ := hpc n f hf
    subst hpp
    have hok := okFn HE.out (List.mem_of_getElem? hf)
    have HFIT := hideP (fit_any p f (.slice (some ⟨b, off, none⟩) p.length qp) c0 c1' c2' c3' w2.drew (hp2.below ((Below.refl _ w2).drew)) (hcp2.below hp2 ((Below.refl _ w2).drew)) (hfn.below ((Below.refl _ w2).drew)) hok)
    obtain ⟨P, L, r, C⟩ := f
    obtain ⟨e0, ⟨p1, q1, e1, _, _⟩, e2, ⟨p3, q3, e3, _, _⟩⟩ := id hfn
    simp only at e0 e1 e2 e3
    subst e0 e1 e2 e3
    have HF := hideP hf
    have HOK := hideP hok
    have HFN := hideP hfn
    have lx2 : w.heap.size < w2.heap.size := Nat.lt_of_lt_of_le lx hb2.size
    clear hpc hp2 hcp2 hf hok hfn
    go_wp2_with fail
    go_region_held3 (fun W => W.cell? ⟨w.heap.size, 0, none⟩ = some (.slice (some ⟨b, off, none⟩) p.length qp) ∧ W.cell? ⟨b, off + n * 4, none⟩ = some (.int .i64 P) ∧ W.cell? ⟨b, off + n * 4 + 1, none⟩ = some (.slice p1 L.length q1) ∧ W.cell? ⟨b, off + n * 4 + 2, none⟩ = some (.int .i64 r) ∧ W.cell? ⟨b, off + n * 4 + 3, none⟩ = some (.slice p3 C.length q3)) (go_keep)
      (first
        | (go_at_call 46; refine HFIT.out.mono ?_; rintro e w3 ⟨ok, E, Rs, V, rfl, hE, hV, hRs, hall, hle, hb3⟩; have hbw : Below w2.heap.size w2 w3 := ((Below.refl w2.heap.size w2).drew).trans hb3; have u0 := (hbw.cell (p := ⟨w.heap.size, 0, none⟩) lx2).trans c2; have u1 := (hbw.cell (p := ⟨b, off + n * 4, none⟩) hlt).trans y0; have u2 := (hbw.cell (p := ⟨b, off + n * 4 + 1, none⟩) hlt).trans y1; have u3 := (hbw.cell (p := ⟨b, off + n * 4 + 2, none⟩) hlt).trans y2; have u4 := (hbw.cell (p := ⟨b, off + n * 4 + 3, none⟩) hlt).trans y3; have HEL := hideP hE; have HVL := hideP hV; have HRS := hideP hRs; have HALL := hideP hall; have HLE := hideP hle; clear hE hV hRs hall hle))
    all_goals
      have hB3 := hB2.trans (hbw.mono hB2.size)
      cases ok
      · go_wp2
        go_ret2
        exact ⟨_, _, [], rfl, .inr (.inr ⟨HE.out, n, _, none, rfl, HF.out, HLE.out, .inl ⟨rfl, rfl, rfl⟩⟩), entsOwn_nil _ _, hB3⟩
      · have hfit := HLE.out.1
        have HEN := hideP (entries_any C E V Rs (.slice p3 C.length q3) w3 ((HFN.out.below hbw).2.2.2) HOK.out.flow HEL.out HVL.out HRS.out HALL.out (fun pc hc => by
          obtain ⟨s, hs⟩ := fits_come hfit hc
          obtain ⟨o, _, ho, _⟩ := hfit.on pc s hs
          exact ⟨lt_of_at ho, s, hs⟩))
        clear hfit
        go_wp2_with fail
        refine HEN.out.mono ?_
        rintro e w4 ⟨v4, q4, rfl, r4, hq4, hb4⟩
        have HR4 := hideP r4
        have HQ4 := hideP hq4
        clear r4 hq4
        go_wp2
        go_ret2
        refine ⟨_, _, _, rfl, .inr (.inr ⟨HE.out, n, _, some (ent E), rfl, HF.out, HLE.out, .inr ⟨_, rfl, rfl, rfl⟩⟩), ⟨q4, row_low HR4.out hB3.size, HQ4.out.1, fun a x y hx hy => ?_⟩, hB3.trans (hb4.mono hB3.size)⟩
        obtain ⟨h1, h2⟩ := HQ4.out.2 a x y hx hy
        exact ⟨h1, row_low h2 hB3.size⟩
  · have he' : (progErr p != 0) = true := by simp [he]
    have HE := hideP he
    clear he
    go_enter Try.func32, Try.ntmps32
    go_wp2_with fail
    refine HCK.out.mono ?_
    rintro e w2 ⟨rfl, hb2⟩
    go_wp2
    go_ret2
    exact ⟨_, _, [], rfl, .inl ⟨HE.out, rfl, rfl⟩, entsOwn_nil _ _, hb1.trans (hb2.mono hb1.size)⟩
end Go.Proofs.Ytenaionchlnpoab

