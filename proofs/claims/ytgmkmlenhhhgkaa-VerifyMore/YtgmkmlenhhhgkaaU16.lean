/- My texts Xb Xc Xd Ya Yb Yc Yd, joined. -/
import Derived.ProofKit
import Derived.OpenShut
import Derived.ShutString
import Derived.ChangeOld
import Derived.SizedLaws
import Derived.Deep.SlicePairs
import Derived.Lib.SmallJoins
import Derived.BigQuiet
import Derived.Deep.RegionHeld3
import Derived.Test.YtgmkmlenhhhgkaaU1
import Derived.Test.YtgmkmlenhhhgkaaU7
import Derived.Test.YtgmkmlenhhhgkaaU15
/- Programs that came in. -/
namespace Go.Proofs.Ytgmkmlenhhhgkaa
open Go.ChangeShapes Go.WideShapes Go.ChangeAt Go.RowKit
set_option linter.unusedVariables false
set_option linter.unusedSimpArgs false
section
variable {H : Type} {enc : TypeId × Value → H} {W : World} {fuel : Nat} {x : DataW H × List MemPlace}
theorem block_of_cell {W : World} {b j : Nat} {v : Value} (h : W.cell? ⟨b, j, none⟩ = some v) : b < W.heap.size := by
  rcases Nat.lt_or_ge b W.heap.size with h' | h'
  · exact h'
  · simp [World.cell?, Array.getElem?_eq_none h'] at h
theorem cells_ops : Try.prog.cellsOf 31 = 1 := by kernel_rfl
theorem cells_ints : Try.prog.cellsOf 30 = 1 := by kernel_rfl
theorem cells_int : Try.prog.cellsOf 3 = 1 := by kernel_rfl
theorem cells_fns : Try.prog.cellsOf 22 = 1 := by kernel_rfl
theorem cells_fn : Try.prog.cellsOf 33 = 4 := by kernel_rfl
theorem cells_prog : Try.prog.cellsOf 24 = 1 := by kernel_rfl
theorem open_opsC {c : Value} (h : DataW.trod enc Try.prog W 0 (fun _ => true) true fuel 31 [c] = some x) : ∃ l : List (Int × Int), OpsAt W c l := by
  rcases Deep.open_slice_pairs Try.underlying31 Try.underlying42 (by kernel_rfl) rfl rfl (by kernel_rfl) (by kernel_rfl) h with ⟨hcs, hx⟩ | ⟨a, len', cap', m, n, V0, V1, D0, D1, P0, P1, hcs, hb, hl, hm, hmm, hx, hc⟩
  · simp at hcs
    subst hcs
    exact ⟨[], none, 0, rfl, Nat.zero_le _, fun k o hk => by simp at hk⟩
  · simp at hcs
    subst hcs
    simp only [if_true] at hmm
    subst hmm
    refine ⟨(List.range len').map fun i => (intOf (V0 i), intOf (V1 i)), some a, m, by simp, by simp; omega, fun k o hk => ?_⟩
    have hk1 : k < len' := by have := lt_of_at' hk; simpa using this
    have ho : o = (intOf (V0 k), intOf (V1 k)) := by simp [hk1] at hk; exact hk.symm
    obtain ⟨c0, c1, t0, t1⟩ := hc k (by omega)
    obtain ⟨x, e0, _, wx⟩ := DataW.trod_int Try.underlying3 t0
    obtain ⟨y, e1, _, wy⟩ := DataW.trod_int Try.underlying3 t1
    simp at e0 e1
    obtain ⟨b, off, spot⟩ := a
    have hs0 := (hc 0 (by omega)).1
    have hspot : spot = none := by simpa [Addr.add] using World.cell?_spot hs0
    subst hspot
    rw [add_at] at c0 c1
    rw [e0] at c0
    rw [e1] at c1
    exact ⟨b, off, rfl, block_of_cell c0, by rw [ho, e0]; exact c0, by rw [ho, e1]; exact c1⟩
theorem open_intsC {c : Value} (h : DataW.trod enc Try.prog W 0 (fun _ => true) true fuel 30 [c] = some x) : ∃ l : List Int, IntsAt W c l := by
  rcases Deep.open_slice1 Try.underlying30 cells_int h with ⟨hcs, hx⟩ | ⟨a, len', cap', m, n, V, D, Pl, hcs, hb, hl, hm, hmm, hx, hc⟩
  · simp at hcs
    subst hcs
    exact ⟨[], none, 0, rfl, Nat.zero_le _, fun k o hk => by simp at hk⟩
  · simp at hcs
    subst hcs
    simp only [if_true] at hmm
    subst hmm
    refine ⟨(List.range len').map fun i => intOf (V i), some a, m, by simp, by simp; omega, fun k o hk => ?_⟩
    have hk1 : k < len' := by have := lt_of_at' hk; simpa using this
    have ho : o = intOf (V k) := by simp [hk1] at hk; exact hk.symm
    obtain ⟨c0, t0⟩ := hc k (by omega)
    obtain ⟨x, e0, _, wx⟩ := DataW.trod_int Try.underlying3 t0
    simp at e0
    obtain ⟨b, off, spot⟩ := a
    have hs0 := (hc 0 (by omega)).1
    have hspot : spot = none := by simpa [Addr.add] using World.cell?_spot hs0
    subst hspot
    rw [add_at] at c0
    rw [e0] at c0
    exact ⟨b, off, rfl, block_of_cell c0, by rw [ho, e0]; exact c0⟩
theorem open_fnC {c0 c1 c2 c3 : Value} (h : DataW.trod enc Try.prog W 0 (fun _ => true) true fuel 33 [c0, c1, c2, c3] = some x) : ∃ f : Fn, FnAt W c0 c1 c2 c3 f := by
  obtain ⟨y0, y1, y2, y3, n, _, _, h0, h1, h2, h3⟩ := Go.Joins.trod_struct4 Try.underlying33 h
  simp [cells_int, cells_ints, cells_ops] at h0 h1 h2 h3
  obtain ⟨P, e0, _⟩ := DataW.trod_int Try.underlying3 h0
  obtain ⟨R, e2, _⟩ := DataW.trod_int Try.underlying3 h2
  obtain ⟨L, hL⟩ := open_intsC h1
  obtain ⟨C, hC⟩ := open_opsC h3
  simp at e0 e2
  exact ⟨(P, L, R, C), e0, hL, e2, hC⟩
instance : Inhabited Fn := ⟨(0, [], 0, [])⟩
instance : Inhabited FnV := ⟨(.int .i64 0, .int .i64 0, .int .i64 0, .int .i64 0)⟩
theorem open_fnsC {c : Value} (h : DataW.trod enc Try.prog W 0 (fun _ => true) true fuel 22 [c] = some x) : ∃ l : List Fn, FnsAt W c l := by
  rcases Deep.open_slice Try.underlying22 h with ⟨hcs, hx⟩ | ⟨a, len', cap', m, n, D, Pl, hcs, hb, hl, hm, hmm, hx, hc⟩
  · simp at hcs
    subst hcs
    exact ⟨[], none, 0, rfl, Nat.zero_le _, fun k o hk => by simp at hk⟩
  · simp at hcs
    subst hcs
    simp only [if_true] at hmm
    subst hmm
    have each : ∀ i, i < m → ∃ q : FnV × Fn, W.cell? (a.add (i * 4)) = some q.1.1 ∧ W.cell? (a.add (i * 4 + 1)) = some q.1.2.1 ∧ W.cell? (a.add (i * 4 + 2)) = some q.1.2.2.1 ∧ W.cell? (a.add (i * 4 + 3)) = some q.1.2.2.2 ∧ FnAt W q.1.1 q.1.2.1 q.1.2.2.1 q.1.2.2.2 q.2 := by
      intro i hi
      obtain ⟨cs', h1, h2⟩ := hc i hi
      rw [cells_fn] at h1
      obtain ⟨_, hlen, hcell⟩ := World.cells?_some h1
      match cs', hlen with
      | [c0, c1, c2, c3], _ =>
        obtain ⟨f, hf⟩ := open_fnC h2
        have e0 := hcell 0 (by omega)
        have e1 := hcell 1 (by omega)
        have e2 := hcell 2 (by omega)
        have e3 := hcell 3 (by omega)
        rw [Deep.add_add] at e0 e1 e2 e3
        exact ⟨((c0, c1, c2, c3), f), by simpa using e0, by simpa using e1, by simpa using e2, by simpa using e3, hf⟩
    obtain ⟨q, hq⟩ := Deep.choose_lt each
    refine ⟨(List.range len').map fun i => (q i).2, some a, m, by simp, by simp; omega, fun k f hk => ?_⟩
    have hk1 : k < len' := by have := lt_of_at' hk; simpa using this
    have ho : f = (q k).2 := by simp [hk1] at hk; exact hk.symm
    obtain ⟨c0, c1, c2, c3, hf⟩ := hq k (by omega)
    obtain ⟨b, off, spot⟩ := a
    have hs0 := (hq 0 (by omega)).1
    have hspot : spot = none := by simpa [Addr.add] using World.cell?_spot hs0
    subst hspot
    rw [add_at] at c0 c1 c2 c3
    exact ⟨b, off, _, _, _, _, rfl, block_of_cell c0, c0, c1, c2, c3, by rw [ho]; exact hf⟩
set_option maxRecDepth 100000 in
/-- a program that came in. -/
theorem open_prog {base : Nat} {r : Reach} {v : Value} {d : DataW H} {p : List MemPlace} (hv : Value.okWide Try.prog W r base 24 v) (h : DataW.Trod enc Try.prog W 0 (fun _ => true) true 24 v d p) :
    ∃ (c : Value) (l : List Fn), v = .agg #[c] ∧ FnsAt W c l := by
  obtain ⟨cs, rfl, hsz⟩ := okWide_struct Try.underlying24 hv
  rw [cells_prog] at hsz
  obtain ⟨cs⟩ := cs
  match cs, hsz with
  | [c], _ =>
    obtain ⟨fuel, hf⟩ := h
    obtain ⟨y0, n, _, _, h0⟩ := trod_struct1 Try.underlying24 hf
    simp [cells_fns, Value.cells] at h0
    obtain ⟨l, hl⟩ := open_fnsC h0
    exact ⟨c, l, rfl, hl⟩
end
end Go.Proofs.Ytgmkmlenhhhgkaa
/- Arguments that came in, besides. -/
namespace Go.Proofs.Ytgmkmlenhhhgkaa
open Go.ChangeShapes Go.WideShapes Go.ChangeAt Go.RowKit
set_option linter.unusedVariables false
section
variable {H : Type} {enc : TypeId × Value → H} {W : World}
theorem open_opsV {v : Value} {d : DataW H} {p : List MemPlace} (hv : ∃ a len cap, v = .slice a len cap) (h : DataW.Trod enc Try.prog W 0 (fun _ => true) true 31 v d p) : ∃ l : List (Int × Int), OpsAt W v l := by
  obtain ⟨ao, len, cap, rfl⟩ := hv
  obtain ⟨fuel, hf⟩ := h
  exact open_opsC (by simpa [Value.cells] using hf)
theorem open_intsV {v : Value} {d : DataW H} {p : List MemPlace} (hv : ∃ a len cap, v = .slice a len cap) (h : DataW.Trod enc Try.prog W 0 (fun _ => true) true 30 v d p) : ∃ l : List Int, IntsAt W v l := by
  obtain ⟨ao, len, cap, rfl⟩ := hv
  obtain ⟨fuel, hf⟩ := h
  exact open_intsC (by simpa [Value.cells] using hf)
end
end Go.Proofs.Ytgmkmlenhhhgkaa
/- Blocks that came in. -/
namespace Go.Proofs.Ytgmkmlenhhhgkaa
open Go.ChangeShapes Go.WideShapes Go.ChangeAt Go.RowKit
set_option linter.unusedVariables false
set_option linter.unusedSimpArgs false
section
variable {H : Type} {enc : TypeId × Value → H} {W : World} {fuel : Nat} {x : DataW H × List MemPlace}
theorem weightsAll_mem {P : Program} {e : TypeId} : ∀ {ds : List (DataW H)} {d : DataW H}, d ∈ ds → ∀ n ∈ d.weights P e, n ∈ DataW.weightsAll P e ds
  | [], _, h, _, _ => by simp at h
  | d0 :: r, d, h, n, hn => by
    simp only [DataW.weightsAll, List.mem_append]
    rcases List.mem_cons.1 h with rfl | h
    · exact .inl hn
    · exact .inr (weightsAll_mem h n hn)
theorem bytes_int : Try.prog.bytesOf 3 = 8 := by kernel_rfl
/-- numbers that came in: nil or not, no longer than what weighs them. -/
theorem open_intsN {c : Value} (h : DataW.trod enc Try.prog W 0 (fun _ => true) true fuel 30 [c] = some x) (hs : ∀ n ∈ x.1.weights Try.prog 30, n ≤ reachBytes) : ∃ l : List Int, IntsAt W c l ∧ NilOk c ∧ l.length ≤ 17592186044416 ∧ ∃ p n cap, c = .slice p n cap ∧ n ≤ cap := by
  rcases Deep.open_slice1 Try.underlying30 cells_int h with ⟨hcs, hx⟩ | ⟨a, len', cap', m, n, V, D, Pl, hcs, hb, hl, hm, hmm, hx, hc⟩
  · simp at hcs
    subst hcs
    exact ⟨[], ⟨none, 0, rfl, Nat.zero_le _, fun k o hk => by simp at hk⟩, nilOk_nil, by simp, none, 0, 0, rfl, Nat.le_refl _⟩
  · simp at hcs
    subst hcs
    simp only [if_true] at hmm
    subst hmm
    have hlen : len' ≤ 17592186044416 := by
      have h1 := hs ((((List.range len').map D).length + ((List.range (m - len')).map fun j => D (len' + j)).length) * Try.prog.bytesOf 3) (by
        rw [hx]
        simp only [DataW.weights, Try.underlying30]
        exact List.mem_cons_self ..)
      rw [bytes_int] at h1
      simp [reachBytes] at h1
      omega
    refine ⟨(List.range len').map fun i => intOf (V i), ⟨some a, m, by simp, by simp; omega, fun k o hk => ?_⟩, nilOk_some _ _ _, by simpa using hlen, _, _, _, rfl, hl⟩
    have hk1 : k < len' := by have := lt_of_at' hk; simpa using this
    have ho : o = intOf (V k) := by simp [hk1] at hk; exact hk.symm
    obtain ⟨c0, t0⟩ := hc k (by omega)
    obtain ⟨y, e0, _, wx⟩ := DataW.trod_int Try.underlying3 t0
    simp at e0
    obtain ⟨b, off, spot⟩ := a
    have hs0 := (hc 0 (by omega)).1
    have hspot : spot = none := by simpa [Addr.add] using World.cell?_spot hs0
    subst hspot
    rw [add_at] at c0
    rw [e0] at c0
    exact ⟨b, off, rfl, block_of_cell c0, by rw [ho, e0]; exact c0⟩
theorem open_intsW {v : Value} {d : DataW H} {p : List MemPlace} (hv : ∃ a len cap, v = .slice a len cap) (h : DataW.Trod enc Try.prog W 0 (fun _ => true) true 30 v d p) (hs : ∀ n ∈ d.weights Try.prog 30, n ≤ reachBytes) : ∃ l : List Int, IntsAt W v l ∧ NilOk v ∧ l.length ≤ 17592186044416 := by
  obtain ⟨ao, len, cap, rfl⟩ := hv
  obtain ⟨fuel, hf⟩ := h
  obtain ⟨l, h1, h2, h3, _⟩ := open_intsN (x := (d, p)) (by simpa [Value.cells] using hf) hs
  exact ⟨l, h1, h2, h3⟩
theorem open_blksC {c : Value} (h : DataW.trod enc Try.prog W 0 (fun _ => true) true fuel 38 [c] = some x) (hs : ∀ n ∈ x.1.weights Try.prog 38, n ≤ reachBytes) : ∃ L : List (List Int), BlksAt W c L := by
  rcases Deep.open_slice Try.underlying38 h with ⟨hcs, hx⟩ | ⟨a, len', cap', m, n, D, Pl, hcs, hb, hl, hm, hmm, hx, hc⟩
  · simp at hcs
    subst hcs
    exact ⟨[], none, 0, rfl, Nat.zero_le _, fun k o hk => by simp at hk⟩
  · simp at hcs
    subst hcs
    simp only [if_true] at hmm
    subst hmm
    have each : ∀ i, i < len' → ∃ q : Value × List Int, W.cell? (a.add (i * 1)) = some q.1 ∧ IntsAt W q.1 q.2 ∧ NilOk q.1 ∧ q.2.length ≤ 17592186044416 := by
      intro i hi
      obtain ⟨cs', h1, h2⟩ := hc i (by omega)
      rw [cells_ints] at h1
      obtain ⟨_, hlen, hcell⟩ := World.cells?_some h1
      match cs', hlen with
      | [c0], _ =>
        obtain ⟨l, g1, g2, g3, _⟩ := open_intsN (x := (D i, Pl i)) h2 (fun n hn => hs n (by
          rw [hx]
          simp only [DataW.weights, Try.underlying38]
          refine List.mem_cons_of_mem _ (List.mem_append_left _ ?_)
          exact weightsAll_mem (List.mem_map.2 ⟨i, List.mem_range.2 hi, rfl⟩) n hn))
        have e0 := hcell 0 (by omega)
        rw [Deep.add_add] at e0
        exact ⟨(c0, l), by simpa using e0, g1, g2, g3⟩
    obtain ⟨q, hq⟩ := Deep.choose_lt each
    refine ⟨(List.range len').map fun i => (q i).2, some a, m, by simp, by simp; omega, fun k f hk => ?_⟩
    have hk1 : k < len' := by have := lt_of_at' hk; simpa using this
    have ho : f = (q k).2 := by simp [hk1] at hk; exact hk.symm
    obtain ⟨c0, c1, c2, c3⟩ := hq k hk1
    obtain ⟨b, off, spot⟩ := a
    have hs0 := (hq 0 (by omega)).1
    have hspot : spot = none := by simpa [Addr.add] using World.cell?_spot hs0
    subst hspot
    rw [add_at, Nat.mul_one] at c0
    exact ⟨b, off, _, rfl, block_of_cell c0, c0, by rw [ho]; exact c1, c2, by rw [ho]; exact c3⟩
theorem open_blksV {v : Value} {d : DataW H} {p : List MemPlace} (hv : ∃ a len cap, v = .slice a len cap) (h : DataW.Trod enc Try.prog W 0 (fun _ => true) true 38 v d p) (hs : ∀ n ∈ d.weights Try.prog 38, n ≤ reachBytes) : ∃ L : List (List Int), BlksAt W v L := by
  obtain ⟨ao, len, cap, rfl⟩ := hv
  obtain ⟨fuel, hf⟩ := h
  exact open_blksC (x := (d, p)) (by simpa [Value.cells] using hf) hs
end
end Go.Proofs.Ytgmkmlenhhhgkaa
/- CheckProgram. -/
namespace Go.Proofs.Ytgmkmlenhhhgkaa
open Go.RowKit
set_option linter.unusedSimpArgs false
set_option linter.unusedVariables false
theorem progErr_at {l : List Fn} {k : Nat} {f : Fn} (h0 : ¬ l.length = 0) (h5 : ¬ 5 < l.length) (hk : l[k]? = some f) (hpre : ∀ x ∈ l.take k, fnErr x l.length = 0) {r : Int} (hr : fnErr f l.length = r) (he : ¬ r = 0) : progErr l = r := by
  have h1 := fnsErr_at l.length l k f hk hpre (by rw [hr]; exact he)
  unfold progErr
  rw [if_neg h0, if_neg h5, h1, hr, if_pos he]
theorem okType_eq (z : Int) : okType z = (decide (1 ≤ z) && decide (z ≤ 2)) := by
  unfold okType
  rw [Bool.eq_iff_iff]
  simp
  omega
/-- are the result and the locals so far of types that they may have? -/
def kindsB (R : Int) (L : List Int) (j : Nat) : Bool := (decide (0 ≤ R) && decide (R ≤ 2)) && (L.take j).all okType
theorem kindsB_zero (R : Int) (L : List Int) : kindsB R L 0 = (decide (0 ≤ R) && decide (R ≤ 2)) := by simp [kindsB]
theorem kindsB_succ (R : Int) (L : List Int) (j : Nat) (z : Int) (h : L[j]? = some z) : kindsB R L (j + 1) = (kindsB R L j && (decide (1 ≤ z) && decide (z ≤ 2))) := by
  unfold kindsB
  rw [take_snoc L j z h, List.all_append, ← okType_eq]
  simp [Bool.and_assoc]
theorem kindsB_all (P R : Int) (L : List Int) (C : List (Int × Int)) : kindsB R L L.length = typedB (P, L, R, C) := by
  simp [kindsB, typedB, Bool.and_comm]
end Go.Proofs.Ytgmkmlenhhhgkaa
/- ProgramBytes. -/
namespace Go.Proofs.Ytgmkmlenhhhgkaa
open Go.RowKit
set_option linter.unusedSimpArgs false
set_option linter.unusedVariables false
theorem flat_take (l : List Fn) (k : Nat) (f : Fn) (h : l[k]? = some f) : (l.take (k + 1)).flatMap fnBytes = (l.take k).flatMap fnBytes ++ fnBytes f := by
  rw [take_snoc l k f h, List.flatMap_append]; simp
theorem list_app (X Y : ByteArray) : (X ++ Y).data.toList = X.data.toList ++ Y.data.toList := by rw [ByteArray.data_append, Array.toList_append]
end Go.Proofs.Ytgmkmlenhhhgkaa
/- The reader of the reference. -/
namespace Go.Proofs.Ytgmkmlenhhhgkaa
open Go.RowKit
set_option linter.unusedSimpArgs false
set_option linter.unusedVariables false
/-- the place in block A, the text in block S, whether all is well in block O. -/
def RO (W : World) (A S O : Nat) (s : ByteArray) (st : Rd) : Prop :=
  ∃ k : Nat, W.heap[A]? = some (.cells #[.int .i64 k] 3 (0, 0)) ∧ W.heap[S]? = some (.cells #[.string s] 9 (0, 0)) ∧ W.heap[O]? = some (.cells #[.bool st.isSome] 4 (0, 0)) ∧ k ≤ s.size ∧ (∀ r, st = some r → r = s.data.toList.drop k) ∧ (st = none → k = s.size)
theorem RO.kept {W W' : World} {A S O : Nat} {s : ByteArray} {st : Rd} {row : Option Nat} (h : RO W A S O s st) (hg : W.grownBy W' row) (hr : ∀ r, row = some r → r ≠ A ∧ r ≠ S ∧ r ≠ O) : RO W' A S O s st := by
  obtain ⟨k, h1, h2, h3, h4⟩ := h
  exact ⟨k, (hg.block _ (heap_lt h1) (fun e => (hr _ e.symm).1 rfl)).trans h1, (hg.block _ (heap_lt h2) (fun e => (hr _ e.symm).2.1 rfl)).trans h2, (hg.block _ (heap_lt h3) (fun e => (hr _ e.symm).2.2 rfl)).trans h3, h4⟩
/-- what lies below F stays, but for the blocks A and O. -/
structure KL (A O F : Nat) (W W' : World) : Prop where
  os : W'.os = W.os
  tape : W'.tape = W.tape
  output : W'.output = W.output
  size : W.heap.size ≤ W'.heap.size
  block : ∀ k, k < F → k ≠ A → k ≠ O → W'.heap[k]? = W.heap[k]?
theorem KL.refl (A O F : Nat) (W : World) : KL A O F W W := ⟨rfl, rfl, rfl, Nat.le_refl _, fun _ _ _ _ => rfl⟩
theorem KL.grown {A O F : Nat} {W W' W'' : World} {row : Option Nat} (h : KL A O F W W') (hg : W'.grownBy W'' row) (hF : F ≤ W'.heap.size) (hr : ∀ r, row = some r → r = A ∨ r = O ∨ F ≤ r) : KL A O F W W'' :=
  ⟨hg.os.trans h.os, hg.tape.trans h.tape, hg.output.trans h.output, Nat.le_trans h.size hg.size, fun k hk ha ho => (hg.block k (by omega) (fun e => by rcases hr k e.symm with h1 | h1 | h1 <;> omega)).trans (h.block k hk ha ho)⟩
/-- one of the blocks A and O was written, and no other one. -/
def Wrote (A O : Nat) (W W' : World) : Prop := ∃ r, (r = A ∨ r = O) ∧ W.grownBy W' (some r)
end Go.Proofs.Ytgmkmlenhhhgkaa
/- Plain laws for the reference's reading. -/
namespace Go.Proofs.Ytgmkmlenhhhgkaa
open Go.RowKit
set_option linter.unusedSimpArgs false
set_option linter.unusedVariables false
theorem takeR_none (n : Nat) : takeR none n = ([], none) := rfl
theorem readLocs_none (j : Nat) (st : Rd) (h : (readLocs j st).2 = none) : ∀ d, (readLocs (j + d) st).2 = none := by
  intro d
  induction d with
  | zero => exact h
  | succ d ih => show (takeR (readLocs (j + d) st).2 1).2 = none; rw [ih]; rfl
theorem takeR_two (S : Rd) : ((takeR (takeR S 1).2 1).2 = none → (takeR S 2).2 = none) ∧ (∀ r, (takeR (takeR S 1).2 1).2 = some r → ∃ b c, (takeR S 1).1 = [b] ∧ (takeR (takeR S 1).2 1).1 = [c] ∧ takeR S 2 = ([b, c], some r)) := by
  cases S with
  | none => exact ⟨fun _ => rfl, fun r h => by simp [takeR] at h⟩
  | some s =>
    match s with
    | [] => exact ⟨fun _ => by simp [takeR], fun r h => by simp [takeR] at h⟩
    | [b] => exact ⟨fun _ => by simp [takeR], fun r h => by simp [takeR] at h⟩
    | b :: c :: t => exact ⟨fun h => by simp [takeR] at h, fun r h => ⟨b, c, by simp [takeR], by simp [takeR], by simp [takeR] at h ⊢; exact h⟩⟩
theorem readFn_some (st : Rd) (h : (readFn st).2.1 = true) : ∃ r, (readFn st).2.2 = some r := by
  simp only [readFn, Bool.and_eq_true] at h ⊢
  exact Option.isSome_iff_exists.1 h.2
theorem some_at {s : List UInt8} {n : Nat} {st : Rd} (hn : numOf (takeR (some s) 1).1 = n) (hst : (takeR (some s) 1).2 = st) {k : Nat} (hk : k < n) (hok : ∀ i, i < k → (readFn (stAt i st)).2.1 = true) : ∃ r, stAt k st = some r := by
  cases k with
  | zero =>
    cases st with
    | some r => exact ⟨r, rfl⟩
    | none =>
      exfalso
      cases s with
      | nil => simp [takeR, numOf] at hn; omega
      | cons b r => simp [takeR] at hst
  | succ k => exact readFn_some _ (hok k (by omega))
theorem decProg_bad {s : List UInt8} {n : Nat} {st : Rd} (hn : numOf (takeR (some s) 1).1 = n) (hst : (takeR (some s) 1).2 = st) (hs : s.length ≤ 2000) {k : Nat} (hk : k < n) (hb : (readFn (stAt k st)).2.1 = false) : decProg s = ([], 1) := by
  have hr : readProg s = ([], false) := by
    unfold readProg
    rw [if_neg]
    intro h
    have := h k (by rw [hn]; exact hk)
    rw [hst, hb] at this
    cases this
  unfold decProg
  rw [if_neg (by omega), hr]
  simp
theorem decProg_end {s : List UInt8} {n : Nat} {st : Rd} (hn : numOf (takeR (some s) 1).1 = n) (hst : (takeR (some s) 1).2 = st) (hs : s.length ≤ 2000) (hok : ∀ i, i < n → (readFn (stAt i st)).2.1 = true) : decProg s = if stAt n st = some [] then (if progErr (fnsTo n st) ≠ 0 then ([], progErr (fnsTo n st)) else (fnsTo n st, 0)) else ([], 1) := by
  have hr : readProg s = (fnsTo n st, decide (stAt n st = some [])) := by
    unfold readProg
    rw [hn, hst, if_pos hok]
  unfold decProg
  rw [if_neg (by omega), hr]
  by_cases h : stAt n st = some []
  · simp [h]
  · simp [h]
theorem readFn_steps {S S1 st2 S3 S4 S5 S6 : Rd} {P R : Int} {nl x y j : Nat} (HP : ((numOf (takeR S 1).1 : Nat) : Int) = P) (HS1 : (takeR S 1).2 = S1) (HNL : numOf (takeR S1 1).1 = nl) (HST2 : (takeR S1 1).2 = st2) (HS3 : (readLocs j st2).2 = S3)
    (HR : ((numOf (takeR S3 1).1 : Nat) : Int) = R) (HS4 : (takeR S3 1).2 = S4) (HX : numOf (takeR S4 1).1 = x) (HS5 : (takeR S4 1).2 = S5) (HY : numOf (takeR S5 1).1 = y) (HS6 : (takeR S5 1).2 = S6) (hj : j ≤ nl) (hex : j = nl ∨ S3 = none) :
    (S6 = none → (readFn S).2.1 = false) ∧ (∀ r, S6 = some r → j = nl ∧ readFn S = ((P, (readLocs nl st2).1, R, (dec (items (takeR (some r) (256 * x + y)).1.length (takeR (some r) (256 * x + y)).1) []).1), (decide ((dec (items (takeR (some r) (256 * x + y)).1.length (takeR (some r) (256 * x + y)).1) []).2 = 0) && (takeR (some r) (256 * x + y)).2.isSome), (takeR (some r) (256 * x + y)).2)) := by
  have hnone : S3 = none → (readFn S).2.1 = false := fun h3 => by
    have h1 : (readLocs nl st2).2 = none := by
      have := readLocs_none j st2 (HS3.trans h3) (nl - j)
      rwa [show j + (nl - j) = nl by omega] at this
    simp only [readFn]
    rw [HS1, HNL, HST2, h1]
    simp [takeR]
  constructor
  · intro h6
    rcases hex with rfl | h3
    · have h2 := (takeR_two S4).1 (by rw [HS5, HS6]; exact h6)
      simp only [readFn]
      rw [HS1, HNL, HST2, HS3, HS4, h2]
      simp [takeR]
    · exact hnone h3
  · intro r h6
    have hjn : j = nl := by
      rcases hex with h | h3
      · exact h
      · rw [h3] at HS4
        rw [← HS4] at HS5
        rw [← HS5] at HS6
        rw [← HS6] at h6
        simp [takeR] at h6
    subst hjn
    refine ⟨rfl, ?_⟩
    obtain ⟨b, c, e1, e2, e3⟩ := (takeR_two S4).2 r (by rw [HS5, HS6]; exact h6)
    rw [HS5] at e2
    have hxy : numOf [b, c] = 256 * x + y := by
      rw [← HX, ← HY, e1, e2, numOf_bc, numOf_b, numOf_b]
    simp only [readFn]
    rw [HS1, HP, HNL, HST2, HS3, HR, HS4, e3, hxy]
/-- what lies in blocks that stay, stays. -/
theorem ownsRow_same {W W' : World} {base : Nat} {e : TypeId} {size : Nat} {v : Value} {n : Nat} {xs : List Value} (h : W.ownsRow base e size v n xs) (hk : ∀ k, v.ownBlock = some k → W'.heap[k]? = W.heap[k]?) : W'.ownsRow base e size v n xs := by
  refine ⟨h.1, ?_⟩
  rcases h.2 with h0 | ⟨g, cap, cur, hv, hb, hg, hr⟩
  · exact .inl h0
  · exact .inr ⟨g, cap, cur, hv, hb, (hk g (by rw [hv]; rfl)).trans hg, hr⟩
theorem FnOwn.same {W W' : World} {B : Nat} {c0 c1 c2 c3 : Value} {f : Fn} (h : FnOwn W B c0 c1 c2 c3 f) (hs : W.heap.size ≤ W'.heap.size) (hk : ∀ k, B ≤ k → k < W.heap.size → W'.heap[k]? = W.heap[k]?) : FnOwn W' B c0 c1 c2 c3 f := by
  obtain ⟨⟨h0, h1, h2, h3⟩, n1, n3⟩ := h
  refine ⟨⟨h0, ?_, h2, ?_⟩, fun a n c hv => ?_, fun a n c hv => ?_⟩
  · obtain ⟨p, cap, rfl, hm, hc⟩ := h1
    refine ⟨p, cap, rfl, hm, fun k o ho => ?_⟩
    obtain ⟨b, off, rfl, hlt, x0⟩ := hc k o ho
    have hb := hk b (n1 ⟨b, off, none⟩ _ _ rfl).1 hlt
    exact ⟨b, off, rfl, Nat.lt_of_lt_of_le hlt hs, (World.cell?_of_block (w := W) (a := ⟨b, off + k, none⟩) hb).trans x0⟩
  · obtain ⟨p, cap, rfl, hm, hc⟩ := h3
    refine ⟨p, cap, rfl, hm, fun k o ho => ?_⟩
    obtain ⟨b, off, rfl, hlt, x0, x1⟩ := hc k o ho
    have hb := hk b (n3 ⟨b, off, none⟩ _ _ rfl).1 hlt
    exact ⟨b, off, rfl, Nat.lt_of_lt_of_le hlt hs, (World.cell?_of_block (w := W) (a := ⟨b, off + k * 2, none⟩) hb).trans x0, (World.cell?_of_block (w := W) (a := ⟨b, off + k * 2 + 1, none⟩) hb).trans x1⟩
  · obtain ⟨x1, cs, fz, x2⟩ := n1 a n c hv
    exact ⟨x1, cs, fz, (hk _ x1 (heap_lt x2)).trans x2⟩
  · obtain ⟨x1, cs, fz, x2⟩ := n3 a n c hv
    exact ⟨x1, cs, fz, (hk _ x1 (heap_lt x2)).trans x2⟩
theorem FnRows.same {W W' : World} {B : Nat} {q : List FnV} {l : List Fn} (h : FnRows W B q l) (hs : W.heap.size ≤ W'.heap.size) (hk : ∀ k, B ≤ k → k < W.heap.size → W'.heap[k]? = W.heap[k]?) : FnRows W' B q l := ⟨h.1, fun k c f h1 h2 => (h.2 k c f h1 h2).same hs hk⟩
theorem Below.kl {B0 A O F : Nat} {w W W' : World} (h : Below B0 w W) (k : KL A O F W W') (hF : B0 ≤ F) (hA : B0 ≤ A) (hO : B0 ≤ O) : Below B0 w W' :=
  ⟨k.os.trans h.os, k.tape.trans h.tape, k.output.trans h.output, Nat.le_trans h.size k.size, fun i hi => (k.block i (by omega) (by omega) (by omega)).trans (h.block i hi)⟩
end Go.Proofs.Ytgmkmlenhhhgkaa
