/- verify.Program. -/
import Derived.Test.YtenaionchlnpoabJo
namespace Go.Proofs.Ytenaionchlnpoab
open Go.RowKit
set_option linter.unusedSimpArgs false
set_option linter.unusedVariables false
/-- what Program tells. -/
def ProgIs (p : List Fn) (er : Int) : Prop :=
  (progErr p ≠ 0 ∧ er = progErr p) ∨ (progErr p = 0 ∧ er = 0 ∧ ∀ f ∈ p, ∃ e, Least p f (some e)) ∨ (progErr p = 0 ∧ er = 4 ∧ ∃ f ∈ p, Least p f none)
theorem progIs_one {p : List Fn} {er er' : Int} (h : ProgIs p er) (h' : ProgIs p er') : er = er' := by
  rcases h with ⟨a1, a2⟩ | ⟨a1, a2, a3⟩ | ⟨a1, a2, f, hf, hl⟩
  · rcases h' with ⟨_, b2⟩ | ⟨b1, _⟩ | ⟨b1, _⟩
    · exact a2.trans b2.symm
    · exact absurd b1 a1
    · exact absurd b1 a1
  · rcases h' with ⟨b1, _⟩ | ⟨_, b2, _⟩ | ⟨_, _, f, hf, hl⟩
    · exact absurd a1 b1
    · exact a2.trans b2.symm
    · obtain ⟨e, he⟩ := a3 f hf
      have := least_one he hl
      cases this
  · rcases h' with ⟨b1, _⟩ | ⟨_, _, b3⟩ | ⟨_, b2, _⟩
    · exact absurd a1 b1
    · obtain ⟨e, he⟩ := b3 f hf
      have := least_one he hl
      cases this
    · exact a2.trans b2.symm
def ProgP (p : List Fn) (w : World) (e : Ending) (w' : World) : Prop := ∃ er, e = .returned (.int .i64 er) ∧ ProgIs p er ∧ Below w.heap.size w w'
theorem entsOwn_shp {W : World} {B : Nat} {v : Value} {l : List (Nat × List Int)} (h : EntsOwn W B v l) : ∃ q n c, v = .slice q n c := by
  obtain ⟨q, hr, _⟩ := h
  obtain ⟨a, b, hv⟩ := row_shp hr
  exact ⟨_, _, _, hv⟩
set_option maxRecDepth 100000 in
set_option maxHeartbeats 2000000 in
theorem vProgram_any (p : List Fn) (pv : Value) (w : World) (hp : FnsAt w pv p) (hcp : CapAt w pv) : Calls Try.prog 34 #[.agg #[pv]] w (ProgP p w) := by
  obtain ⟨pp, qp, hpv, hpm, _⟩ := id hp
  subst hpv
  unfold maxLen at hpm
  obtain ⟨W1, hW1⟩ : ∃ W1, w.alloc (.cells #[.slice pp p.length qp] 56) = W1 := ⟨_, rfl⟩
  have hb1 : Below w.heap.size w W1 := by rw [← hW1]; exact (Below.refl _ w).alloc (Nat.le_refl _) _
  have x1 : W1.heap[w.heap.size]? = some (.cells #[.slice pp p.length qp] 56 (0, 0)) := by rw [← hW1]; exact World.alloc_heap_new w _
  have c1 := cell_at' x1 0
  simp at c1
  have lx := heap_lt x1
  have hp1 := hp.below hb1
  have HCK := hideP (progCheck_any p _ W1 hp1)
  have HP := hideP hp
  have HCP := hideP hcp
  clear x1 hp1 hp hcp
  by_cases he : progErr p = 0
  · rw [he] at HCK
    have HE := hideP he
    clear he
    go_enter Try.func34, Try.ntmps34
    go_wp2_with fail
    refine HCK.out.mono ?_
    rintro e w2 ⟨rfl, hb2⟩
    have c2 := (hb2.cell (p := ⟨w.heap.size, 0, none⟩) lx).trans c1
    have hB2 := hb1.trans (hb2.mono hb1.size)
    have lx2 : w.heap.size < w2.heap.size := Nat.lt_of_lt_of_le lx hb2.size
    go_wp2
    go_loopw [4, 5, 6, 15] (fun _ _ _ i wr => ∃ k : Nat, k ≤ p.length ∧ i = .int .i64 k ∧ (∀ f ∈ p.take k, ∃ e, Least p f (some e)) ∧ Below w2.heap.size w2 wr) (fun _ _ _ i _ => p.length - (intOf i).toNat)
    case atStart => exact ⟨0, Nat.zero_le _, rfl, by simp, Below.refl _ _⟩
    case round =>
      rename World => w3
      obtain ⟨k, hk, rfl, hok, hb3⟩ := hrel
      have c3 := (hb3.cell (p := ⟨w.heap.size, 0, none⟩) lx2).trans c2
      have hB3 := hB2.trans (hb3.mono hB2.size)
      have HK := hideP hok
      clear hok
      by_cases hlt : k < p.length
      · have hlti : (k : Int) < (p.length : Int) := by omega
        obtain ⟨f, hf⟩ := at_of_lt hlt
        have HFU := hideP (vFunc_any p (k : Int) _ w3 (HP.out.below hB3) (HCP.out.below HP.out hB3))
        have HF := hideP hf
        clear hf
        go_wp2_with fail
        refine HFU.out.mono ?_
        rintro e w4 ⟨v4, er, l4, rfl, hi4, ho4, hb4⟩
        obtain ⟨q4, n4, c4, hv4⟩ := entsOwn_shp ho4
        subst hv4
        clear ho4
        have hcase : (er = 0 ∧ ∃ e, Least p f (some e)) ∨ (er = 4 ∧ Least p f none) := by
          rcases hi4 with ⟨a1, _⟩ | ⟨_, a2, _⟩ | ⟨_, n, f', r, a1, a2, a3, a4⟩
          · exact absurd HE.out a1
          · omega
          · obtain rfl : n = k := by omega
            rw [HF.out] at a2
            cases a2
            rcases a4 with ⟨h1, h2, _⟩ | ⟨e, h1, h2, _⟩
            · rw [h1] at a3; exact .inr ⟨h2, a3⟩
            · rw [h1] at a3; exact .inl ⟨h2, e, a3⟩
        clear hi4
        rcases hcase with ⟨rfl, hfit⟩ | ⟨rfl, hno⟩
        · have HFT := hideP hfit
          clear hfit
          go_wp2
          go_roundw
          case rel =>
            refine ⟨k + 1, by omega, by go_num, fun g hg => ?_, hb3.trans (hb4.mono hb3.size)⟩
            rw [take_snoc p k f HF.out] at hg
            rcases List.mem_append.1 hg with hg | hg
            · exact HK.out g hg
            · simp at hg; subst hg; exact HFT.out
          case measure => simp [intOf]; omega
        · have HNO := hideP hno
          clear hno
          go_wp2
          go_ret
          exact ⟨4, rfl, .inr (.inr ⟨HE.out, rfl, f, List.mem_of_getElem? HF.out, HNO.out⟩), hB3.trans (hb4.mono hB3.size)⟩
      · have hlti : ¬ (k : Int) < (p.length : Int) := by omega
        go_wp2
        go_ret
        have := HK.out
        rw [List.take_of_length_le (by omega)] at this
        exact ⟨0, rfl, .inr (.inl ⟨HE.out, rfl, this⟩), hB3⟩
  · have he' : (progErr p != 0) = true := by simp [he]
    have HE := hideP he
    clear he
    go_enter Try.func34, Try.ntmps34
    go_wp2_with fail
    refine HCK.out.mono ?_
    rintro e w2 ⟨rfl, hb2⟩
    go_wp2
    go_ret
    exact ⟨_, rfl, .inl ⟨HE.out, rfl⟩, hb1.trans (hb2.mono hb1.size)⟩
end Go.Proofs.Ytenaionchlnpoab

