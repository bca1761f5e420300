/- Blocks that came in. -/
import Derived.Test.YtjaklmmekmhfcaaBa
import Derived.Test.YtjaklmmekmhfcaaXc
namespace Go.Proofs.Ytjaklmmekmhfcaa
open Go.ChangeShapes Go.WideShapes Go.ChangeAt Go.RowKit
set_option linter.unusedVariables false
set_option linter.unusedSimpArgs false
section
variable {H : Type} {enc : TypeId × Value → H} {W : World} {fuel : Nat} {x : DataW H × List MemPlace}
theorem weightsAll_mem {P : Program} {e : TypeId} : ∀ {ds : List (DataW H)} {d : DataW H}, d ∈ ds → ∀ n ∈ d.weights P e, n ∈ DataW.weightsAll P e ds
  | [], _, h, _, _ => by simp at h
  | d0 :: r, d, h, n, hn => by
    simp only [DataW.weightsAll, List.mem_append]
    rcases List.mem_cons.1 h with rfl | h
    · exact .inl hn
    · exact .inr (weightsAll_mem h n hn)
theorem bytes_int : Try.prog.bytesOf 3 = 8 := by kernel_rfl
/-- numbers that came in: nil or not, no longer than what weighs them. -/
theorem open_intsN {c : Value} (h : DataW.trod enc Try.prog W 0 (fun _ => true) true fuel 26 [c] = some x) (hs : ∀ n ∈ x.1.weights Try.prog 26, n ≤ reachBytes) : ∃ l : List Int, IntsAt W c l ∧ NilOk c ∧ l.length ≤ 17592186044416 ∧ ∃ p n cap, c = .slice p n cap ∧ n ≤ cap := by
  rcases Deep.open_slice1 Try.underlying26 cells_int h with ⟨hcs, hx⟩ | ⟨a, len', cap', m, n, V, D, Pl, hcs, hb, hl, hm, hmm, hx, hc⟩
  · simp at hcs
    subst hcs
    exact ⟨[], ⟨none, 0, rfl, Nat.zero_le _, fun k o hk => by simp at hk⟩, nilOk_nil, by simp, none, 0, 0, rfl, Nat.le_refl _⟩
  · simp at hcs
    subst hcs
    simp only [if_true] at hmm
    subst hmm
    have hlen : len' ≤ 17592186044416 := by
      have h1 := hs ((((List.range len').map D).length + ((List.range (m - len')).map fun j => D (len' + j)).length) * Try.prog.bytesOf 3) (by
        rw [hx]
        simp only [DataW.weights, Try.underlying26]
        exact List.mem_cons_self ..)
      rw [bytes_int] at h1
      simp [reachBytes] at h1
      omega
    refine ⟨(List.range len').map fun i => intOf (V i), ⟨some a, m, by simp, by simp; omega, fun k o hk => ?_⟩, nilOk_some _ _ _, by simpa using hlen, _, _, _, rfl, hl⟩
    have hk1 : k < len' := by have := lt_of_at' hk; simpa using this
    have ho : o = intOf (V k) := by simp [hk1] at hk; exact hk.symm
    obtain ⟨c0, t0⟩ := hc k (by omega)
    obtain ⟨y, e0, _, wx⟩ := DataW.trod_int Try.underlying3 t0
    simp at e0
    obtain ⟨b, off, spot⟩ := a
    have hs0 := (hc 0 (by omega)).1
    have hspot : spot = none := by simpa [Addr.add] using World.cell?_spot hs0
    subst hspot
    rw [add_at] at c0
    rw [e0] at c0
    exact ⟨b, off, rfl, block_of_cell c0, by rw [ho, e0]; exact c0⟩
theorem open_intsW {v : Value} {d : DataW H} {p : List MemPlace} (hv : ∃ a len cap, v = .slice a len cap) (h : DataW.Trod enc Try.prog W 0 (fun _ => true) true 26 v d p) (hs : ∀ n ∈ d.weights Try.prog 26, n ≤ reachBytes) : ∃ l : List Int, IntsAt W v l ∧ NilOk v ∧ l.length ≤ 17592186044416 := by
  obtain ⟨ao, len, cap, rfl⟩ := hv
  obtain ⟨fuel, hf⟩ := h
  obtain ⟨l, h1, h2, h3, _⟩ := open_intsN (x := (d, p)) (by simpa [Value.cells] using hf) hs
  exact ⟨l, h1, h2, h3⟩
theorem open_blksC {c : Value} (h : DataW.trod enc Try.prog W 0 (fun _ => true) true fuel 22 [c] = some x) (hs : ∀ n ∈ x.1.weights Try.prog 22, n ≤ reachBytes) : ∃ L : List (List Int), BlksAt W c L := by
  rcases Deep.open_slice Try.underlying22 h with ⟨hcs, hx⟩ | ⟨a, len', cap', m, n, D, Pl, hcs, hb, hl, hm, hmm, hx, hc⟩
  · simp at hcs
    subst hcs
    exact ⟨[], none, 0, rfl, Nat.zero_le _, fun k o hk => by simp at hk⟩
  · simp at hcs
    subst hcs
    simp only [if_true] at hmm
    subst hmm
    have each : ∀ i, i < len' → ∃ q : Value × List Int, W.cell? (a.add (i * 1)) = some q.1 ∧ IntsAt W q.1 q.2 ∧ NilOk q.1 ∧ q.2.length ≤ 17592186044416 := by
      intro i hi
      obtain ⟨cs', h1, h2⟩ := hc i (by omega)
      rw [cells_ints] at h1
      obtain ⟨_, hlen, hcell⟩ := World.cells?_some h1
      match cs', hlen with
      | [c0], _ =>
        obtain ⟨l, g1, g2, g3, _⟩ := open_intsN (x := (D i, Pl i)) h2 (fun n hn => hs n (by
          rw [hx]
          simp only [DataW.weights, Try.underlying22]
          refine List.mem_cons_of_mem _ (List.mem_append_left _ ?_)
          exact weightsAll_mem (List.mem_map.2 ⟨i, List.mem_range.2 hi, rfl⟩) n hn))
        have e0 := hcell 0 (by omega)
        rw [Deep.add_add] at e0
        exact ⟨(c0, l), by simpa using e0, g1, g2, g3⟩
    obtain ⟨q, hq⟩ := Deep.choose_lt each
    refine ⟨(List.range len').map fun i => (q i).2, some a, m, by simp, by simp; omega, fun k f hk => ?_⟩
    have hk1 : k < len' := by have := lt_of_at' hk; simpa using this
    have ho : f = (q k).2 := by simp [hk1] at hk; exact hk.symm
    obtain ⟨c0, c1, c2, c3⟩ := hq k hk1
    obtain ⟨b, off, spot⟩ := a
    have hs0 := (hq 0 (by omega)).1
    have hspot : spot = none := by simpa [Addr.add] using World.cell?_spot hs0
    subst hspot
    rw [add_at, Nat.mul_one] at c0
    exact ⟨b, off, _, rfl, block_of_cell c0, c0, by rw [ho]; exact c1, c2, by rw [ho]; exact c3⟩
theorem open_blksV {v : Value} {d : DataW H} {p : List MemPlace} (hv : ∃ a len cap, v = .slice a len cap) (h : DataW.Trod enc Try.prog W 0 (fun _ => true) true 22 v d p) (hs : ∀ n ∈ d.weights Try.prog 22, n ≤ reachBytes) : ∃ L : List (List Int), BlksAt W v L := by
  obtain ⟨ao, len, cap, rfl⟩ := hv
  obtain ⟨fuel, hf⟩ := h
  exact open_blksC (x := (d, p)) (by simpa [Value.cells] using hf) hs
end
end Go.Proofs.Ytjaklmmekmhfcaa

