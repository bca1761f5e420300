/- My texts Jo Jp Vi Vj Vk Pc Jq, joined. -/
import Derived.Deep.RegionHeld3
import Derived.Test.YtcadpoknolefpaaGreatU2
import Derived.Test.YtcadpoknolefpaaGreatU12
import Derived.Test.YtcadpoknolefpaaGreatU13
/- verify.Func. -/
namespace Go.Proofs.YtcadpoknolefpaaGreat
open Go.RowKit
set_option linter.unusedSimpArgs false
set_option linter.unusedVariables false
/-- entries in memory of the call's own. -/
def EntsOwn (W : World) (B : Nat) (v : Value) (l : List (Nat × List Int)) : Prop := ∃ q, W.ownsRow B 94 2 v q.length (entCells q) ∧ EntRows W B q l
theorem entsOwn_nil (W : World) (B : Nat) : EntsOwn W B (.slice none 0 0) [] := ⟨[], World.ownsRow_nil _ _ _ _, rfl, fun k x y hx => by simp at hx⟩
/-- what Func tells. -/
def FuncIs (p : List Fn) (k : Int) (er : Int) (l : List (Nat × List Int)) : Prop :=
  (progErr p ≠ 0 ∧ er = progErr p ∧ l = []) ∨ (progErr p = 0 ∧ (k < 0 ∨ (p.length : Int) ≤ k) ∧ er = 3 ∧ l = []) ∨
    (progErr p = 0 ∧ ∃ (n : Nat) (f : Fn) (r : Option (Nat → Option (List Int))), k = n ∧ p[n]? = some f ∧ Least p f r ∧ ((r = none ∧ er = 4 ∧ l = []) ∨ ∃ e, r = some e ∧ er = 0 ∧ l = (reachL f.2.2.2).map fun pc => (pc, (e pc).getD [])))
theorem funcIs_one {p : List Fn} {k er er' : Int} {l l' : List (Nat × List Int)} (h : FuncIs p k er l) (h' : FuncIs p k er' l') : er = er' ∧ l = l' := by
  rcases h with ⟨a1, a2, a3⟩ | ⟨a1, a2, a3, a4⟩ | ⟨a1, n, f, r, rfl, a3, a4, a5⟩
  · rcases h' with ⟨b1, b2, b3⟩ | ⟨b1, _⟩ | ⟨b1, _⟩
    · exact ⟨a2.trans b2.symm, a3.trans b3.symm⟩
    · exact absurd b1 a1
    · exact absurd b1 a1
  · rcases h' with ⟨b1, _⟩ | ⟨b1, b2, b3, b4⟩ | ⟨b1, n, f, r, rfl, b3, _⟩
    · exact absurd a1 b1
    · exact ⟨a3.trans b3.symm, a4.trans b4.symm⟩
    · have := lt_of_at b3; omega
  · rcases h' with ⟨b1, _⟩ | ⟨b1, b2, _⟩ | ⟨b1, n', f', r', hn, b3, b4, b5⟩
    · exact absurd a1 b1
    · have := lt_of_at a3; omega
    · obtain rfl : n = n' := by omega
      rw [a3] at b3
      cases b3
      obtain rfl := least_one a4 b4
      rcases a5 with ⟨c1, c2, c3⟩ | ⟨e, c1, c2, c3⟩
      · rcases b5 with ⟨d1, d2, d3⟩ | ⟨e', d1, _⟩
        · exact ⟨c2.trans d2.symm, c3.trans d3.symm⟩
        · rw [c1] at d1; cases d1
      · rcases b5 with ⟨d1, _⟩ | ⟨e', d1, d2, d3⟩
        · rw [c1] at d1; cases d1
        · rw [c1] at d1
          cases d1
          exact ⟨c2.trans d2.symm, c3.trans d3.symm⟩
def FuncP (p : List Fn) (k : Int) (w : World) (e : Ending) (w' : World) : Prop := ∃ v er l, e = .returned (.tuple #[v, .int .i64 er]) ∧ FuncIs p k er l ∧ EntsOwn w' w.heap.size v l ∧ Below w.heap.size w w'
set_option maxRecDepth 100000 in
set_option maxHeartbeats 2000000 in
theorem vFunc_any (p : List Fn) (k : Int) (pv : Value) (w : World) (hp : FnsAt w pv p) (hcp : CapAt w pv) : Calls Tryz.prog 62 #[.agg #[pv], .int .i64 k] w (FuncP p k w) := by
  obtain ⟨pp, qp, hpv, hpm, _⟩ := id hp
  subst hpv
  unfold maxLen at hpm
  obtain ⟨W1, hW1⟩ : ∃ W1, w.alloc (.cells #[.slice pp p.length qp] 24) = W1 := ⟨_, rfl⟩
  have hb1 : Below w.heap.size w W1 := by rw [← hW1]; exact (Below.refl _ w).alloc (Nat.le_refl _) _
  have x1 : W1.heap[w.heap.size]? = some (.cells #[.slice pp p.length qp] 24 (0, 0)) := by rw [← hW1]; exact World.alloc_heap_new w _
  have c1 := cell_at' x1 0
  simp at c1
  have lx := heap_lt x1
  have hp1 := hp.below hb1
  have HCK := hideP (progCheck_any p _ W1 hp1)
  have HP := hideP hp
  have HCP := hideP hcp
  have HP1 := hideP hp1
  clear x1 hp1 hp hcp
  by_cases he : progErr p = 0
  · rw [he] at HCK
    have HE := hideP he
    clear he
    go_enter Tryz.func62, Tryz.ntmps62
    go_wp2_with fail
    refine HCK.out.mono ?_
    rintro e w2 ⟨rfl, hb2⟩
    have c2 := (hb2.cell (p := ⟨w.heap.size, 0, none⟩) lx).trans c1
    have hB2 := hb1.trans (hb2.mono hb1.size)
    by_cases h0 : k < 0
    · go_wp2
      go_ret2
      exact ⟨_, _, [], rfl, .inr (.inl ⟨HE.out, .inl h0, rfl, rfl⟩), entsOwn_nil _ _, hB2⟩
    by_cases h1 : k ≥ (p.length : Int)
    · go_wp2
      go_ret2
      exact ⟨_, _, [], rfl, .inr (.inl ⟨HE.out, .inr h1, rfl, rfl⟩), entsOwn_nil _ _, hB2⟩
    obtain ⟨n, rfl⟩ : ∃ n : Nat, k = n := ⟨k.toNat, by omega⟩
    have hnp : n < p.length := by omega
    have hnpi : (n : Int) < (p.length : Int) := by omega
    obtain ⟨f, hf⟩ := at_of_lt hnp
    have hp2 := HP.out.below hB2
    have hcp2 := HCP.out.below HP.out hB2
    obtain ⟨p', q', hpe, _, hpc⟩ := id hp2
    cases hpe
    obtain ⟨b, off, c0, c1', c2', c3', hpp, hlt, y0, y1, y2, y3, hfn⟩ := hpc n f hf
    subst hpp
    have hok := okFn HE.out (List.mem_of_getElem? hf)
    have HFIT := hideP (fit_any p f (.slice (some ⟨b, off, none⟩) p.length qp) c0 c1' c2' c3' w2.drew (hp2.below ((Below.refl _ w2).drew)) (hcp2.below hp2 ((Below.refl _ w2).drew)) (hfn.below ((Below.refl _ w2).drew)) hok)
    obtain ⟨P, L, r, C⟩ := f
    obtain ⟨e0, ⟨p1, q1, e1, _, _⟩, e2, ⟨p3, q3, e3, _, _⟩⟩ := id hfn
    simp only at e0 e1 e2 e3
    subst e0 e1 e2 e3
    have HF := hideP hf
    have HOK := hideP hok
    have HFN := hideP hfn
    have lx2 : w.heap.size < w2.heap.size := Nat.lt_of_lt_of_le lx hb2.size
    clear hpc hp2 hcp2 hf hok hfn
    go_wp2_with fail
    go_region_held3 (fun W => W.cell? ⟨w.heap.size, 0, none⟩ = some (.slice (some ⟨b, off, none⟩) p.length qp) ∧ W.cell? ⟨b, off + n * 4, none⟩ = some (.int .i64 P) ∧ W.cell? ⟨b, off + n * 4 + 1, none⟩ = some (.slice p1 L.length q1) ∧ W.cell? ⟨b, off + n * 4 + 2, none⟩ = some (.int .i64 r) ∧ W.cell? ⟨b, off + n * 4 + 3, none⟩ = some (.slice p3 C.length q3)) (go_keep)
      (first
        | (go_at_call 103; refine HFIT.out.mono ?_; rintro e w3 ⟨ok, E, Rs, V, rfl, hE, hV, hRs, hall, hle, hb3⟩; have hbw : Below w2.heap.size w2 w3 := ((Below.refl w2.heap.size w2).drew).trans hb3; have u0 := (hbw.cell (p := ⟨w.heap.size, 0, none⟩) lx2).trans c2; have u1 := (hbw.cell (p := ⟨b, off + n * 4, none⟩) hlt).trans y0; have u2 := (hbw.cell (p := ⟨b, off + n * 4 + 1, none⟩) hlt).trans y1; have u3 := (hbw.cell (p := ⟨b, off + n * 4 + 2, none⟩) hlt).trans y2; have u4 := (hbw.cell (p := ⟨b, off + n * 4 + 3, none⟩) hlt).trans y3; have HEL := hideP hE; have HVL := hideP hV; have HRS := hideP hRs; have HALL := hideP hall; have HLE := hideP hle; clear hE hV hRs hall hle))
    all_goals
      have hB3 := hB2.trans (hbw.mono hB2.size)
      cases ok
      · go_wp2
        go_ret2
        exact ⟨_, _, [], rfl, .inr (.inr ⟨HE.out, n, _, none, rfl, HF.out, HLE.out, .inl ⟨rfl, rfl, rfl⟩⟩), entsOwn_nil _ _, hB3⟩
      · have hfit := HLE.out.1
        have HEN := hideP (entries_any C E V Rs (.slice p3 C.length q3) w3 ((HFN.out.below hbw).2.2.2) HOK.out.flow HEL.out HVL.out HRS.out HALL.out (fun pc hc => by
          obtain ⟨s, hs⟩ := fits_come hfit hc
          obtain ⟨o, _, ho, _⟩ := hfit.on pc s hs
          exact ⟨lt_of_at ho, s, hs⟩))
        clear hfit
        go_wp2_with fail
        refine HEN.out.mono ?_
        rintro e w4 ⟨v4, q4, rfl, r4, hq4, hb4⟩
        have HR4 := hideP r4
        have HQ4 := hideP hq4
        clear r4 hq4
        go_wp2
        go_ret2
        refine ⟨_, _, _, rfl, .inr (.inr ⟨HE.out, n, _, some (ent E), rfl, HF.out, HLE.out, .inr ⟨_, rfl, rfl, rfl⟩⟩), ⟨q4, row_low HR4.out hB3.size, HQ4.out.1, fun a x y hx hy => ?_⟩, hB3.trans (hb4.mono hB3.size)⟩
        obtain ⟨h1, h2⟩ := HQ4.out.2 a x y hx hy
        exact ⟨h1, row_low h2 hB3.size⟩
  · have he' : (progErr p != 0) = true := by simp [he]
    have HE := hideP he
    clear he
    go_enter Tryz.func62, Tryz.ntmps62
    go_wp2_with fail
    refine HCK.out.mono ?_
    rintro e w2 ⟨rfl, hb2⟩
    go_wp2
    go_ret2
    exact ⟨_, _, [], rfl, .inl ⟨HE.out, rfl, rfl⟩, entsOwn_nil _ _, hb1.trans (hb2.mono hb1.size)⟩
end Go.Proofs.YtcadpoknolefpaaGreat
/- verify.Program. -/
namespace Go.Proofs.YtcadpoknolefpaaGreat
open Go.RowKit
set_option linter.unusedSimpArgs false
set_option linter.unusedVariables false
/-- what Program tells. -/
def ProgIs (p : List Fn) (er : Int) : Prop :=
  (progErr p ≠ 0 ∧ er = progErr p) ∨ (progErr p = 0 ∧ er = 0 ∧ ∀ f ∈ p, ∃ e, Least p f (some e)) ∨ (progErr p = 0 ∧ er = 4 ∧ ∃ f ∈ p, Least p f none)
theorem progIs_one {p : List Fn} {er er' : Int} (h : ProgIs p er) (h' : ProgIs p er') : er = er' := by
  rcases h with ⟨a1, a2⟩ | ⟨a1, a2, a3⟩ | ⟨a1, a2, f, hf, hl⟩
  · rcases h' with ⟨_, b2⟩ | ⟨b1, _⟩ | ⟨b1, _⟩
    · exact a2.trans b2.symm
    · exact absurd b1 a1
    · exact absurd b1 a1
  · rcases h' with ⟨b1, _⟩ | ⟨_, b2, _⟩ | ⟨_, _, f, hf, hl⟩
    · exact absurd a1 b1
    · exact a2.trans b2.symm
    · obtain ⟨e, he⟩ := a3 f hf
      have := least_one he hl
      cases this
  · rcases h' with ⟨b1, _⟩ | ⟨_, _, b3⟩ | ⟨_, b2, _⟩
    · exact absurd a1 b1
    · obtain ⟨e, he⟩ := b3 f hf
      have := least_one he hl
      cases this
    · exact a2.trans b2.symm
def ProgP (p : List Fn) (w : World) (e : Ending) (w' : World) : Prop := ∃ er, e = .returned (.int .i64 er) ∧ ProgIs p er ∧ Below w.heap.size w w'
theorem entsOwn_shp {W : World} {B : Nat} {v : Value} {l : List (Nat × List Int)} (h : EntsOwn W B v l) : ∃ q n c, v = .slice q n c := by
  obtain ⟨q, hr, _⟩ := h
  obtain ⟨a, b, hv⟩ := row_shp hr
  exact ⟨_, _, _, hv⟩
set_option maxRecDepth 100000 in
set_option maxHeartbeats 2000000 in
theorem vProgram_any (p : List Fn) (pv : Value) (w : World) (hp : FnsAt w pv p) (hcp : CapAt w pv) : Calls Tryz.prog 42 #[.agg #[pv]] w (ProgP p w) := by
  obtain ⟨pp, qp, hpv, hpm, _⟩ := id hp
  subst hpv
  unfold maxLen at hpm
  obtain ⟨W1, hW1⟩ : ∃ W1, w.alloc (.cells #[.slice pp p.length qp] 24) = W1 := ⟨_, rfl⟩
  have hb1 : Below w.heap.size w W1 := by rw [← hW1]; exact (Below.refl _ w).alloc (Nat.le_refl _) _
  have x1 : W1.heap[w.heap.size]? = some (.cells #[.slice pp p.length qp] 24 (0, 0)) := by rw [← hW1]; exact World.alloc_heap_new w _
  have c1 := cell_at' x1 0
  simp at c1
  have lx := heap_lt x1
  have hp1 := hp.below hb1
  have HCK := hideP (progCheck_any p _ W1 hp1)
  have HP := hideP hp
  have HCP := hideP hcp
  clear x1 hp1 hp hcp
  by_cases he : progErr p = 0
  · rw [he] at HCK
    have HE := hideP he
    clear he
    go_enter Tryz.func42, Tryz.ntmps42
    go_wp2_with fail
    refine HCK.out.mono ?_
    rintro e w2 ⟨rfl, hb2⟩
    have c2 := (hb2.cell (p := ⟨w.heap.size, 0, none⟩) lx).trans c1
    have hB2 := hb1.trans (hb2.mono hb1.size)
    have lx2 : w.heap.size < w2.heap.size := Nat.lt_of_lt_of_le lx hb2.size
    go_wp2
    go_loopw [4, 5, 6, 15] (fun _ _ _ i wr => ∃ k : Nat, k ≤ p.length ∧ i = .int .i64 k ∧ (∀ f ∈ p.take k, ∃ e, Least p f (some e)) ∧ Below w2.heap.size w2 wr) (fun _ _ _ i _ => p.length - (intOf i).toNat)
    case atStart => exact ⟨0, Nat.zero_le _, rfl, by simp, Below.refl _ _⟩
    case round =>
      rename World => w3
      obtain ⟨k, hk, rfl, hok, hb3⟩ := hrel
      have c3 := (hb3.cell (p := ⟨w.heap.size, 0, none⟩) lx2).trans c2
      have hB3 := hB2.trans (hb3.mono hB2.size)
      have HK := hideP hok
      clear hok
      by_cases hlt : k < p.length
      · have hlti : (k : Int) < (p.length : Int) := by omega
        obtain ⟨f, hf⟩ := at_of_lt hlt
        have HFU := hideP (vFunc_any p (k : Int) _ w3 (HP.out.below hB3) (HCP.out.below HP.out hB3))
        have HF := hideP hf
        clear hf
        go_wp2_with fail
        refine HFU.out.mono ?_
        rintro e w4 ⟨v4, er, l4, rfl, hi4, ho4, hb4⟩
        obtain ⟨q4, n4, c4, hv4⟩ := entsOwn_shp ho4
        subst hv4
        clear ho4
        have hcase : (er = 0 ∧ ∃ e, Least p f (some e)) ∨ (er = 4 ∧ Least p f none) := by
          rcases hi4 with ⟨a1, _⟩ | ⟨_, a2, _⟩ | ⟨_, n, f', r, a1, a2, a3, a4⟩
          · exact absurd HE.out a1
          · omega
          · obtain rfl : n = k := by omega
            rw [HF.out] at a2
            cases a2
            rcases a4 with ⟨h1, h2, _⟩ | ⟨e, h1, h2, _⟩
            · rw [h1] at a3; exact .inr ⟨h2, a3⟩
            · rw [h1] at a3; exact .inl ⟨h2, e, a3⟩
        clear hi4
        rcases hcase with ⟨rfl, hfit⟩ | ⟨rfl, hno⟩
        · have HFT := hideP hfit
          clear hfit
          go_wp2
          go_roundw
          case rel =>
            refine ⟨k + 1, by omega, by go_num, fun g hg => ?_, hb3.trans (hb4.mono hb3.size)⟩
            rw [take_snoc p k f HF.out] at hg
            rcases List.mem_append.1 hg with hg | hg
            · exact HK.out g hg
            · simp at hg; subst hg; exact HFT.out
          case measure => simp [intOf]; omega
        · have HNO := hideP hno
          clear hno
          go_wp2
          go_ret
          exact ⟨4, rfl, .inr (.inr ⟨HE.out, rfl, f, List.mem_of_getElem? HF.out, HNO.out⟩), hB3.trans (hb4.mono hB3.size)⟩
      · have hlti : ¬ (k : Int) < (p.length : Int) := by omega
        go_wp2
        go_ret
        have := HK.out
        rw [List.take_of_length_le (by omega)] at this
        exact ⟨0, rfl, .inr (.inl ⟨HE.out, rfl, this⟩), hB3⟩
  · have he' : (progErr p != 0) = true := by simp [he]
    have HE := hideP he
    clear he
    go_enter Tryz.func42, Tryz.ntmps42
    go_wp2_with fail
    refine HCK.out.mono ?_
    rintro e w2 ⟨rfl, hb2⟩
    go_wp2
    go_ret
    exact ⟨_, rfl, .inl ⟨HE.out, rfl⟩, hb1.trans (hb2.mono hb1.size)⟩
end Go.Proofs.YtcadpoknolefpaaGreat
/- prog.Decode. -/
namespace Go.Proofs.YtcadpoknolefpaaGreat
open Go.RowKit
set_option linter.unusedSimpArgs false
set_option linter.unusedVariables false
theorem fnsAt_nil (W : World) : FnsAt W (.slice none 0 0) [] := ⟨none, 0, rfl, Nat.zero_le _, fun k f h => by simp at h⟩
end Go.Proofs.YtcadpoknolefpaaGreat
/- SameProgram. -/
namespace Go.Proofs.YtcadpoknolefpaaGreat
open Go.RowKit
set_option linter.unusedSimpArgs false
set_option linter.unusedVariables false
end Go.Proofs.YtcadpoknolefpaaGreat
/- square, progBegun. -/
namespace Go.Proofs.YtcadpoknolefpaaGreat
open Go.RowKit
set_option linter.unusedSimpArgs false
set_option linter.unusedVariables false
def squareFns : List Fn := [(0, [], 0, [(21, 0), (12, 1), (20, 0), (10, 0)]), (1, [1], 1, [(8, 0), (3, 0), (7, 0), (13, 0)])]
theorem intsAt_nil (W : World) : IntsAt W (.slice none 0 0) [] := ⟨none, 0, rfl, Nat.zero_le _, fun k f h => by simp at h⟩
theorem square_at {w W1 W2 W3 W4 W5 : World} {o1 : Obj} (hW1 : w.alloc o1 = W1) (hW2 : W1.alloc (.cells #[.int .i64 21, .int .i64 0, .int .i64 12, .int .i64 1, .int .i64 20, .int .i64 0, .int .i64 10, .int .i64 0] 43) = W2)
    (hW3 : W2.alloc (.cells #[.int .i64 1] 3) = W3) (hW4 : W3.alloc (.cells #[.int .i64 8, .int .i64 0, .int .i64 3, .int .i64 0, .int .i64 7, .int .i64 0, .int .i64 13, .int .i64 0] 43) = W4)
    (hW5 : W4.alloc (.cells #[.int .i64 0, .slice none 0 0, .int .i64 0, .slice (some ⟨w.heap.size + 1, 0, none⟩) 4 4, .int .i64 1, .slice (some ⟨w.heap.size + 1 + 1, 0, none⟩) 1 1, .int .i64 1, .slice (some ⟨w.heap.size + 1 + 1 + 1, 0, none⟩) 4 4] 78) = W5) :
    FnsAt W5 (.slice (some ⟨w.heap.size + 1 + 1 + 1 + 1, 0, none⟩) 2 2) squareFns ∧ Below w.heap.size w W5 ∧ W5.heap[w.heap.size]? = some o1 := by
  have s1 : W1.heap.size = w.heap.size + 1 := by rw [← hW1]; simp
  have s2 : W2.heap.size = w.heap.size + 1 + 1 := by rw [← hW2]; simp; exact s1
  have s3 : W3.heap.size = w.heap.size + 1 + 1 + 1 := by rw [← hW3]; simp; exact s2
  have s4 : W4.heap.size = w.heap.size + 1 + 1 + 1 + 1 := by rw [← hW4]; simp; exact s3
  have h1 := heap_new w o1
  rw [hW1] at h1
  have h2 := heap_new W1 (.cells #[.int .i64 21, .int .i64 0, .int .i64 12, .int .i64 1, .int .i64 20, .int .i64 0, .int .i64 10, .int .i64 0] 43)
  rw [hW2, s1] at h2
  have h3 := heap_new W2 (.cells #[.int .i64 1] 3)
  rw [hW3, s2] at h3
  have h4 := heap_new W3 (.cells #[.int .i64 8, .int .i64 0, .int .i64 3, .int .i64 0, .int .i64 7, .int .i64 0, .int .i64 13, .int .i64 0] 43)
  rw [hW4, s3] at h4
  have h5 := heap_new W4 (.cells #[.int .i64 0, .slice none 0 0, .int .i64 0, .slice (some ⟨w.heap.size + 1, 0, none⟩) 4 4, .int .i64 1, .slice (some ⟨w.heap.size + 1 + 1, 0, none⟩) 1 1, .int .i64 1, .slice (some ⟨w.heap.size + 1 + 1 + 1, 0, none⟩) 4 4] 78)
  rw [hW5, s4] at h5
  have k2 : ∀ {k : Nat} {o : Obj}, W1.heap[k]? = some o → W2.heap[k]? = some o := fun h => by rw [← hW2]; exact heap_old h _
  have k3 : ∀ {k : Nat} {o : Obj}, W2.heap[k]? = some o → W3.heap[k]? = some o := fun h => by rw [← hW3]; exact heap_old h _
  have k4 : ∀ {k : Nat} {o : Obj}, W3.heap[k]? = some o → W4.heap[k]? = some o := fun h => by rw [← hW4]; exact heap_old h _
  have k5 : ∀ {k : Nat} {o : Obj}, W4.heap[k]? = some o → W5.heap[k]? = some o := fun h => by rw [← hW5]; exact heap_old h _
  have b1 : Below w.heap.size w W1 := by rw [← hW1]; exact (Below.refl _ w).alloc (Nat.le_refl _) _
  have b2 : Below w.heap.size w W2 := by rw [← hW2]; exact b1.alloc (by omega) _
  have b3 : Below w.heap.size w W3 := by rw [← hW3]; exact b2.alloc (by omega) _
  have b4 : Below w.heap.size w W4 := by rw [← hW4]; exact b3.alloc (by omega) _
  have b5 : Below w.heap.size w W5 := by rw [← hW5]; exact b4.alloc (by omega) _
  refine ⟨⟨_, 2, rfl, by unfold maxLen; decide, fun k f hk => ?_⟩, b5, k5 (k4 (k3 (k2 h1)))⟩
  have o1 : OpsAt W5 (.slice (some ⟨w.heap.size + 1, 0, none⟩) 4 4) [(21, 0), (12, 1), (20, 0), (10, 0)] := opsAt_new (l := [(21, 0), (12, 1), (20, 0), (10, 0)]) (m := []) (fz := (0, 0)) 4 4 (k5 (k4 (k3 h2))) rfl (by unfold maxLen; decide)
  have o2 : OpsAt W5 (.slice (some ⟨w.heap.size + 1 + 1 + 1, 0, none⟩) 4 4) [(8, 0), (3, 0), (7, 0), (13, 0)] := opsAt_new (l := [(8, 0), (3, 0), (7, 0), (13, 0)]) (m := []) (fz := (0, 0)) 4 4 (k5 h4) rfl (by unfold maxLen; decide)
  have i1 : IntsAt W5 (.slice (some ⟨w.heap.size + 1 + 1, 0, none⟩) 1 1) [1] := ⟨_, 1, rfl, by unfold maxLen; decide, fun k z hk => by
    match k, hk with
    | 0, hk => simp at hk; subst hk; exact ⟨_, 0, rfl, heap_lt (k5 (k4 h3)), cell_at' (k5 (k4 h3)) 0⟩
    | k + 1, hk => simp at hk⟩
  match k, hk with
  | 0, hk =>
    simp [squareFns] at hk; subst hk
    exact ⟨_, 0, _, _, _, _, rfl, heap_lt h5, cell_at' h5 0, cell_at' h5 1, cell_at' h5 2, cell_at' h5 3, rfl, intsAt_nil _, rfl, o1⟩
  | 1, hk =>
    simp [squareFns] at hk; subst hk
    exact ⟨_, 0, _, _, _, _, rfl, heap_lt h5, cell_at' h5 4, cell_at' h5 5, cell_at' h5 6, cell_at' h5 7, rfl, i1, rfl, o2⟩
  | k + 2, hk => simp [squareFns] at hk
set_option maxRecDepth 100000 in
set_option maxHeartbeats 4000000 in
theorem square_any (w : World) : Calls Tryz.prog 60 #[] w fun e w' => ∃ v, e = .returned (.agg #[v]) ∧ FnsAt w' v squareFns ∧ Below w.heap.size w w' := by
  go_enter Tryz.func60, Tryz.ntmps60
  go_wp2
  obtain ⟨hf, hb, hh⟩ := square_at (w := w) (o1 := .cells #[.slice (some ⟨w.heap.size + 1 + 1 + 1 + 1, 0, none⟩) 2 2] 24) rfl rfl rfl rfl rfl
  have t0 := cell_at' hh 0
  simp only [List.getElem?_toArray, List.getElem?_cons_zero] at t0
  refine bodyPost_ret (v := .agg #[.slice (some ⟨w.heap.size + 1 + 1 + 1 + 1, 0, none⟩) 2 2]) (by simp [results, Tryz.results60, go_sem, t0]) rfl ⟨_, rfl, hf, hb⟩
theorem sq1 : progErr squareFns = 0 := by decide +kernel
theorem sq2 : progBytes squareFns = [2, 0, 0, 0, 0, 12, 21, 12, 0, 0, 0, 1, 20, 10, 0, 0, 0, 0, 1, 1, 1, 1, 0, 8, 8, 0, 0, 0, 0, 3, 7, 13] := by decide +kernel
theorem sq3 : decProg (progBytes squareFns) = (squareFns, 0) := dec_prog _ sq1 (by rw [sq2]; decide)
theorem sq4 : (decProg (progBytes squareFns ++ [122])).2 = 1 := by decide +kernel
end Go.Proofs.YtcadpoknolefpaaGreat
/- The programs of verifyBegun, plainly. -/
namespace Go.Proofs.YtcadpoknolefpaaGreat
open Go.RowKit
set_option linter.unusedSimpArgs false
set_option linter.unusedVariables false
/-- do entries fit? -/
def fitsB (p : List Fn) (f : Fn) (E : Ents) : Bool :=
  decide (ent E 0 = some []) && decide (E.length ≤ f.2.2.2.length) && (List.range f.2.2.2.length).all fun pc => match ent E pc, f.2.2.2[pc]? with
    | some s, some o => (match tryOp p f o s with
      | some out => (List.range (f.2.2.2.length + 1)).all fun to => !goesOn f.2.2.2 pc to || (decide (to < f.2.2.2.length) && (match ent E to with | some s' => leS out s' | none => false))
      | none => false)
    | some _, none => false
    | none, _ => true
theorem fitsB_sound {p : List Fn} {f : Fn} {E : Ents} (hf : flowErr f.2.2.2 = 0) (h : fitsB p f E = true) : FitsBy p f (ent E) := by
  simp only [fitsB, Bool.and_eq_true, decide_eq_true_eq] at h
  obtain ⟨⟨h0, hl⟩, h1⟩ := h
  refine ⟨h0, fun pc s hs => ?_⟩
  have hlt : pc < f.2.2.2.length := Nat.lt_of_lt_of_le (lt_of_at (ent_some hs)) hl
  obtain ⟨o, ho⟩ := at_of_lt hlt
  have h2 := List.all_eq_true.1 h1 pc (by simpa using hlt)
  rw [hs, ho] at h2
  simp only at h2
  cases ht : tryOp p f o s with
  | none => rw [ht] at h2; cases h2
  | some out =>
    rw [ht] at h2
    simp only at h2
    refine ⟨o, out, ho, ht, fun to hto => ?_⟩
    have hle := goesOn_le (flowErr_zero hf).2.2 hto
    have h3 := List.all_eq_true.1 h2 to (by simp; omega)
    rw [hto] at h3
    simp only [Bool.not_true, Bool.false_or, Bool.and_eq_true, decide_eq_true_eq] at h3
    refine ⟨h3.1, ?_⟩
    cases he : ent E to with
    | none => rw [he] at h3; cases h3.2
    | some s' => rw [he] at h3; exact ⟨s', rfl, h3.2⟩
def counterFns : List Fn := [(0, [], 0, loopOps)]
def badFns : List Fn := [(0, [], 0, [(2, 0), (13, 0)])]
def counterE : Ents := [some [], some [1], some [1, 1], some [1], some [1, 1], some [1], some [1, 1], some [1], some [1], some []]
theorem ct1 : progErr counterFns = 0 ∧ flowErr loopOps = 0 ∧ fitsB counterFns (0, [], 0, loopOps) counterE = true := by decide +kernel
theorem bd1 : progErr badFns = 0 ∧ tryOp badFns (0, [], 0, [(2, 0), (13, 0)]) (2, 0) [] = none := by decide +kernel
theorem sqf : ∀ f ∈ squareFns, flowErr f.2.2.2 = 0 ∧ (fitsB squareFns f [some [], some [1], some [1], some []] = true ∨ fitsB squareFns f [some [], some [1], some [1, 1], some [1]] = true) := by decide +kernel
theorem bad_prog {er : Int} (h : ProgIs badFns er) : er = 4 := by
  rcases h with ⟨a, _⟩ | ⟨_, _, h⟩ | ⟨_, h, _⟩
  · exact absurd bd1.1 a
  · obtain ⟨e, he⟩ := h _ (List.mem_singleton.2 rfl)
    obtain ⟨o, out, h1, h2, _⟩ := he.1.on 0 [] he.1.first
    have ho : o = (2, 0) := by simpa using h1.symm
    subst ho
    rw [bd1.2] at h2
    cases h2
  · exact h
theorem square_prog {er : Int} (h : ProgIs squareFns er) : er = 0 := by
  rcases h with ⟨a, _⟩ | ⟨_, h, _⟩ | ⟨_, _, f, hf, hl⟩
  · exact absurd sq1 a
  · exact h
  · obtain ⟨h1, h2 | h2⟩ := sqf f hf
    · exact absurd (fitsB_sound h1 h2) (hl _)
    · exact absurd (fitsB_sound h1 h2) (hl _)
theorem loop_reach : reachL loopOps = List.range 10 := by
  have c0 : Come loopOps 0 := .zero
  have c1 : Come loopOps 1 := .step c0 (by decide +kernel)
  have c2 : Come loopOps 2 := .step c1 (by decide +kernel)
  have c3 : Come loopOps 3 := .step c2 (by decide +kernel)
  have c4 : Come loopOps 4 := .step c3 (by decide +kernel)
  have c5 : Come loopOps 5 := .step c4 (by decide +kernel)
  have c6 : Come loopOps 6 := .step c5 (by decide +kernel)
  have c7 : Come loopOps 7 := .step c6 (by decide +kernel)
  have c8 : Come loopOps 8 := .step c6 (by decide +kernel)
  have c9 : Come loopOps 9 := .step c8 (by decide +kernel)
  rw [← reachL_eq (code := loopOps) (fun x => decide (x < 10)) rfl ?_ ?_]
  · decide +kernel
  · intro x hx
    have : x < 10 := by simpa using hx
    match x, this with
    | 0, _ => exact c0
    | 1, _ => exact c1
    | 2, _ => exact c2
    | 3, _ => exact c3
    | 4, _ => exact c4
    | 5, _ => exact c5
    | 6, _ => exact c6
    | 7, _ => exact c7
    | 8, _ => exact c8
    | 9, _ => exact c9
  · intro pc to hp hg
    have hle := goesOn_le (flowErr_zero ct1.2.1).2.2 hg
    have hlen : loopOps.length = 10 := rfl
    rcases Nat.lt_or_ge to 10 with h | h
    · simpa using h
    · have h10 : to = 10 := by omega
      subst h10
      have hall : ∀ pc, pc < 10 → goesOn loopOps pc 10 = false := by decide +kernel
      rw [hall pc (by simpa using hp)] at hg
      cases hg
theorem counter_func {er : Int} {l : List (Nat × List Int)} (h : FuncIs counterFns 0 er l) : er = 0 ∧ l.length = 10 ∧ l[3]? = some (3, [1]) := by
  have hfit := fitsB_sound (p := counterFns) (f := (0, [], 0, loopOps)) ct1.2.1 ct1.2.2
  rcases h with ⟨a, _⟩ | ⟨_, a, _⟩ | ⟨_, n, f, r, hn, hf, hl, hr⟩
  · exact absurd ct1.1 a
  · simp [counterFns] at a
  · obtain rfl : n = 0 := by omega
    have hf' : f = (0, [], 0, loopOps) := by simpa [counterFns] using hf.symm
    subst hf'
    rcases hr with ⟨rfl, _⟩ | ⟨e, rfl, h2, h3⟩
    · exact absurd hfit (hl _)
    · refine ⟨h2, by rw [h3, List.length_map]; show (reachL loopOps).length = 10; rw [loop_reach]; rfl, ?_⟩
      have hle := hl.2 _ hfit
      obtain ⟨s, hs⟩ := fits_come hl.1 (x := 3) (by
        have : (3 : Nat) ∈ reachL loopOps := by rw [loop_reach]; decide
        exact (mem_reachL (flowErr_zero ct1.2.1).2.2).1 this)
      obtain ⟨s', h4, h5⟩ := hle 3 s hs
      have h4' : s' = [1] := by
        have : ent counterE 3 = some [1] := by decide +kernel
        rw [this] at h4
        cases h4
        rfl
      subst h4'
      have hs1 : s = [1] := by
        match s, h5 with
        | [a], h5 =>
          simp [leS, standsB] at h5
          rw [h5]
        | [], h5 => simp [leS] at h5
        | _ :: _ :: _, h5 => simp [leS] at h5
      rw [h3]
      show ((reachL loopOps).map fun pc => (pc, (e pc).getD []))[3]? = _
      rw [loop_reach, List.getElem?_map]
      have : (List.range 10)[3]? = some 3 := by decide
      rw [this]
      simp [hs, hs1]
end Go.Proofs.YtcadpoknolefpaaGreat
/- counter, square, verifyBegun. -/
namespace Go.Proofs.YtcadpoknolefpaaGreat
open Go.RowKit
set_option linter.unusedSimpArgs false
set_option linter.unusedVariables false
theorem cap_of {W : World} {b n cap : Nat} {cs : Array Value} {t : TypeId} {fz : Nat × Nat} (h : W.heap[b]? = some (.cells cs t fz)) (hc : ∀ (k : Nat) (p : Option Addr) (n' c' : Nat), cs[k * 4 + 1]? = some (.slice p n' c') → n' ≤ c') : CapAt W (.slice (some ⟨b, 0, none⟩) n cap) := by
  intro b' off n1 cap1 k p' n' c' hv hk hcell
  cases hv
  rw [cell_at' h, Nat.zero_add] at hcell
  exact hc k p' n' c' hcell
theorem fns_one {W : World} {b : Nat} {cv : Value} {C : List (Int × Int)} {fz : Nat × Nat} (h : W.heap[b]? = some (.cells #[.int .i64 0, .slice none 0 0, .int .i64 0, cv] 78 fz)) (hC : OpsAt W cv C) : FnsAt W (.slice (some ⟨b, 0, none⟩) 1 1) [(0, [], 0, C)] ∧ CapAt W (.slice (some ⟨b, 0, none⟩) 1 1) := by
  refine ⟨⟨_, 1, rfl, by unfold maxLen; simp, fun k f hk => ?_⟩, cap_of h ?_⟩
  · match k, hk with
    | 0, hk =>
      simp at hk
      subst hk
      exact ⟨_, 0, _, _, _, _, rfl, heap_lt h, cell_at' h 0, cell_at' h 1, cell_at' h 2, cell_at' h 3, rfl, intsAt_nil _, rfl, hC⟩
    | k + 1, hk => simp at hk
  · intro k p n' c' hk
    match k, hk with
    | 0, hk => simp at hk; omega
    | k + 1, hk =>
      have := lt_of_at (l := #[Value.int .i64 0, .slice none 0 0, .int .i64 0, cv].toList) (k := (k + 1) * 4 + 1) (o := Value.slice p n' c') (by simpa using hk)
      simp at this
      omega
set_option maxRecDepth 100000 in
set_option maxHeartbeats 2000000 in
theorem counter_any (w : World) : Calls Tryz.prog 59 #[] w fun e w' => ∃ v, e = .returned (.agg #[v]) ∧ FnsAt w' v counterFns ∧ CapAt w' v ∧ Below w.heap.size w w' := by
  obtain ⟨W0, hW0⟩ : ∃ W0, w.alloc (.cells #[.slice none 0 0] 24) = W0 := ⟨_, rfl⟩
  have hb0 : Below w.heap.size w W0 := by rw [← hW0]; exact (Below.refl _ w).alloc (Nat.le_refl _) _
  have x0 : W0.heap[w.heap.size]? = some (.cells #[.slice none 0 0] 24 (0, 0)) := by rw [← hW0]; exact World.alloc_heap_new w _
  have X0 := hideP x0
  clear x0
  go_enter Tryz.func59, Tryz.ntmps59
  go_wp2_with fail
  refine (loop_ops _).mono ?_
  rintro e w1 ⟨v1, rfl, ho, hb1⟩
  obtain ⟨p1, c1, hv1, _, _⟩ := id ho
  subst hv1
  have x1 := (hb1.block _ (heap_lt X0.out)).trans X0.out
  obtain ⟨W2, hW2⟩ : ∃ W2, w1.alloc (.cells #[.int .i64 0, .slice none 0 0, .int .i64 0, .slice p1 loopOps.length c1] 78) = W2 := ⟨_, rfl⟩
  have hb2 : Below w1.heap.size w1 W2 := by rw [← hW2]; exact (Below.refl _ w1).alloc (Nat.le_refl _) _
  have y2 : W2.heap[w1.heap.size]? = some (.cells #[.int .i64 0, .slice none 0 0, .int .i64 0, .slice p1 loopOps.length c1] 78 (0, 0)) := by rw [← hW2]; exact World.alloc_heap_new w1 _
  have x2 := (hb2.block _ (heap_lt x1)).trans x1
  have d2 := cell_at' x2 0
  have z2 := Lib.frozen_of_heap x2 0
  simp at d2
  have HO := hideP (ho.below hb2)
  have X2 := hideP x2
  have Y2 := hideP y2
  have hne : w1.heap.size ≠ w.heap.size := by have := heap_lt x1; omega
  have hgs := set_grown W2 ⟨w.heap.size, 0, none⟩ (.slice (some ⟨w1.heap.size, 0, none⟩) 1 1)
  have x3 := heap_setCell_same W2 w.heap.size 0 _ _ (.slice (some ⟨w1.heap.size, 0, none⟩) 1 1) x2
  have d3 := cell_at' x3 0
  simp at d3
  clear x1 x2 y2 ho x3
  go_wp2
  have hops : OpsAt (W2.setCell ⟨w.heap.size, 0, none⟩ (.slice (some ⟨w1.heap.size, 0, none⟩) 1 1)) (.slice p1 loopOps.length c1) loopOps := by
    obtain ⟨p, c, he, hm, hc⟩ := HO.out
    refine ⟨p, c, he, hm, fun k o hk => ?_⟩
    obtain ⟨b, off, hp, hlt, g0, g1⟩ := hc k o hk
    have hnb : b ≠ w.heap.size := fun e => by
      subst e
      rw [cell_at' X2.out] at g0
      match h : off + k * 2, g0 with
      | 0, g0 => simp at g0
      | j + 1, g0 => simp at g0
    exact ⟨b, off, hp, Nat.lt_of_lt_of_le hlt hgs.size, hgs.cell g0 (by simpa using hnb), hgs.cell g1 (by simpa using hnb)⟩
  have hh := (hgs.block w1.heap.size (heap_lt Y2.out) (by simpa using hne)).trans Y2.out
  obtain ⟨hF, hCp⟩ := fns_one hh hops
  have hbw : Below w.heap.size w W2 := hb0.trans ((hb1.trans (hb2.mono hb1.size)).mono hb0.size)
  refine bodyPost_ret (v := .agg #[.slice (some ⟨w1.heap.size, 0, none⟩) 1 1]) (by simp [results, Tryz.results59, go_sem, d3]) rfl ⟨_, rfl, hF, hCp, hbw.setCell (p := ⟨w.heap.size, 0, none⟩) (Nat.le_refl _) _⟩
set_option maxRecDepth 100000 in
set_option maxHeartbeats 4000000 in
theorem squareC_any (w : World) : Calls Tryz.prog 60 #[] w fun e w' => ∃ v, e = .returned (.agg #[v]) ∧ FnsAt w' v squareFns ∧ CapAt w' v ∧ Below w.heap.size w w' := by
  go_enter Tryz.func60, Tryz.ntmps60
  go_wp2
  obtain ⟨hf, hb, hh⟩ := square_at (w := w) (o1 := .cells #[.slice (some ⟨w.heap.size + 1 + 1 + 1 + 1, 0, none⟩) 2 2] 24) rfl rfl rfl rfl rfl
  have t0 := cell_at' hh 0
  simp only [List.getElem?_toArray, List.getElem?_cons_zero] at t0
  refine bodyPost_ret (v := .agg #[.slice (some ⟨w.heap.size + 1 + 1 + 1 + 1, 0, none⟩) 2 2]) (by simp [results, Tryz.results60, go_sem, t0]) rfl ⟨_, rfl, hf, ?_, hb⟩
  refine cap_of (cs := #[.int .i64 0, .slice none 0 0, .int .i64 0, .slice (some ⟨w.heap.size + 1, 0, none⟩) 4 4, .int .i64 1, .slice (some ⟨w.heap.size + 1 + 1, 0, none⟩) 1 1, .int .i64 1, .slice (some ⟨w.heap.size + 1 + 1 + 1, 0, none⟩) 4 4]) (t := 78) (fz := (0, 0)) ?_ ?_
  · have := World.alloc_heap_new ((((w.alloc (.cells #[.slice (some ⟨w.heap.size + 1 + 1 + 1 + 1, 0, none⟩) 2 2] 24)).alloc (.cells #[.int .i64 21, .int .i64 0, .int .i64 12, .int .i64 1, .int .i64 20, .int .i64 0, .int .i64 10, .int .i64 0] 43)).alloc (.cells #[.int .i64 1] 3)).alloc (.cells #[.int .i64 8, .int .i64 0, .int .i64 3, .int .i64 0, .int .i64 7, .int .i64 0, .int .i64 13, .int .i64 0] 43)) (.cells #[.int .i64 0, .slice none 0 0, .int .i64 0, .slice (some ⟨w.heap.size + 1, 0, none⟩) 4 4, .int .i64 1, .slice (some ⟨w.heap.size + 1 + 1, 0, none⟩) 1 1, .int .i64 1, .slice (some ⟨w.heap.size + 1 + 1 + 1, 0, none⟩) 4 4] 78)
    simpa using this
  · intro k p n' c' hk
    match k, hk with
    | 0, hk => simp at hk; omega
    | 1, hk => simp at hk; omega
    | k + 2, hk =>
      have := (Array.getElem?_eq_some_iff.1 hk).1
      simp at this
      omega
end Go.Proofs.YtcadpoknolefpaaGreat
