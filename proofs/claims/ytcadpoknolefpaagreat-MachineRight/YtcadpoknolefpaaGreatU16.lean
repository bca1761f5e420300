/- My texts Xb Xc Xd Ya Yb Yc Yd, joined. -/
import Derived.ProofKit
import Derived.OpenShut
import Derived.ShutString
import Derived.ChangeOld
import Derived.SizedLaws
import Derived.Deep.SlicePairs
import Derived.Lib.SmallJoins
import Derived.BigQuiet
import Derived.Deep.RegionHeld3
import Derived.Test.YtcadpoknolefpaaGreatU1
import Derived.Test.YtcadpoknolefpaaGreatU7
import Derived.Test.YtcadpoknolefpaaGreatU15
/- Programs that came in. -/
namespace Go.Proofs.YtcadpoknolefpaaGreat
open Go.ChangeShapes Go.WideShapes Go.ChangeAt Go.RowKit
set_option linter.unusedVariables false
set_option linter.unusedSimpArgs false
section
variable {H : Type} {enc : TypeId × Value → H} {W : World} {fuel : Nat} {x : DataW H × List MemPlace}
theorem block_of_cell {W : World} {b j : Nat} {v : Value} (h : W.cell? ⟨b, j, none⟩ = some v) : b < W.heap.size := by
  rcases Nat.lt_or_ge b W.heap.size with h' | h'
  · exact h'
  · simp [World.cell?, Array.getElem?_eq_none h'] at h
theorem cells_ops : Tryz.prog.cellsOf 76 = 1 := by kernel_rfl
theorem cells_ints : Tryz.prog.cellsOf 27 = 1 := by kernel_rfl
theorem cells_int : Tryz.prog.cellsOf 3 = 1 := by kernel_rfl
theorem cells_fns : Tryz.prog.cellsOf 22 = 1 := by kernel_rfl
theorem cells_fn : Tryz.prog.cellsOf 78 = 4 := by kernel_rfl
theorem cells_prog : Tryz.prog.cellsOf 24 = 1 := by kernel_rfl
theorem open_opsC {c : Value} (h : DataW.trod enc Tryz.prog W 0 (fun _ => true) true fuel 76 [c] = some x) : ∃ l : List (Int × Int), OpsAt W c l := by
  rcases Deep.open_slice_pairs Tryz.underlying76 Tryz.underlying43 (by kernel_rfl) rfl rfl (by kernel_rfl) (by kernel_rfl) h with ⟨hcs, hx⟩ | ⟨a, len', cap', m, n, V0, V1, D0, D1, P0, P1, hcs, hb, hl, hm, hmm, hx, hc⟩
  · simp at hcs
    subst hcs
    exact ⟨[], none, 0, rfl, Nat.zero_le _, fun k o hk => by simp at hk⟩
  · simp at hcs
    subst hcs
    simp only [if_true] at hmm
    subst hmm
    refine ⟨(List.range len').map fun i => (intOf (V0 i), intOf (V1 i)), some a, m, by simp, by simp; omega, fun k o hk => ?_⟩
    have hk1 : k < len' := by have := lt_of_at' hk; simpa using this
    have ho : o = (intOf (V0 k), intOf (V1 k)) := by simp [hk1] at hk; exact hk.symm
    obtain ⟨c0, c1, t0, t1⟩ := hc k (by omega)
    obtain ⟨x, e0, _, wx⟩ := DataW.trod_int Tryz.underlying3 t0
    obtain ⟨y, e1, _, wy⟩ := DataW.trod_int Tryz.underlying3 t1
    simp at e0 e1
    obtain ⟨b, off, spot⟩ := a
    have hs0 := (hc 0 (by omega)).1
    have hspot : spot = none := by simpa [Addr.add] using World.cell?_spot hs0
    subst hspot
    rw [add_at] at c0 c1
    rw [e0] at c0
    rw [e1] at c1
    exact ⟨b, off, rfl, block_of_cell c0, by rw [ho, e0]; exact c0, by rw [ho, e1]; exact c1⟩
theorem open_intsC {c : Value} (h : DataW.trod enc Tryz.prog W 0 (fun _ => true) true fuel 27 [c] = some x) : ∃ l : List Int, IntsAt W c l := by
  rcases Deep.open_slice1 Tryz.underlying27 cells_int h with ⟨hcs, hx⟩ | ⟨a, len', cap', m, n, V, D, Pl, hcs, hb, hl, hm, hmm, hx, hc⟩
  · simp at hcs
    subst hcs
    exact ⟨[], none, 0, rfl, Nat.zero_le _, fun k o hk => by simp at hk⟩
  · simp at hcs
    subst hcs
    simp only [if_true] at hmm
    subst hmm
    refine ⟨(List.range len').map fun i => intOf (V i), some a, m, by simp, by simp; omega, fun k o hk => ?_⟩
    have hk1 : k < len' := by have := lt_of_at' hk; simpa using this
    have ho : o = intOf (V k) := by simp [hk1] at hk; exact hk.symm
    obtain ⟨c0, t0⟩ := hc k (by omega)
    obtain ⟨x, e0, _, wx⟩ := DataW.trod_int Tryz.underlying3 t0
    simp at e0
    obtain ⟨b, off, spot⟩ := a
    have hs0 := (hc 0 (by omega)).1
    have hspot : spot = none := by simpa [Addr.add] using World.cell?_spot hs0
    subst hspot
    rw [add_at] at c0
    rw [e0] at c0
    exact ⟨b, off, rfl, block_of_cell c0, by rw [ho, e0]; exact c0⟩
theorem open_fnC {c0 c1 c2 c3 : Value} (h : DataW.trod enc Tryz.prog W 0 (fun _ => true) true fuel 78 [c0, c1, c2, c3] = some x) : ∃ f : Fn, FnAt W c0 c1 c2 c3 f := by
  obtain ⟨y0, y1, y2, y3, n, _, _, h0, h1, h2, h3⟩ := Go.Joins.trod_struct4 Tryz.underlying78 h
  simp [cells_int, cells_ints, cells_ops] at h0 h1 h2 h3
  obtain ⟨P, e0, _⟩ := DataW.trod_int Tryz.underlying3 h0
  obtain ⟨R, e2, _⟩ := DataW.trod_int Tryz.underlying3 h2
  obtain ⟨L, hL⟩ := open_intsC h1
  obtain ⟨C, hC⟩ := open_opsC h3
  simp at e0 e2
  exact ⟨(P, L, R, C), e0, hL, e2, hC⟩
instance : Inhabited Fn := ⟨(0, [], 0, [])⟩
instance : Inhabited FnV := ⟨(.int .i64 0, .int .i64 0, .int .i64 0, .int .i64 0)⟩
theorem open_fnsC {c : Value} (h : DataW.trod enc Tryz.prog W 0 (fun _ => true) true fuel 22 [c] = some x) : ∃ l : List Fn, FnsAt W c l := by
  rcases Deep.open_slice Tryz.underlying22 h with ⟨hcs, hx⟩ | ⟨a, len', cap', m, n, D, Pl, hcs, hb, hl, hm, hmm, hx, hc⟩
  · simp at hcs
    subst hcs
    exact ⟨[], none, 0, rfl, Nat.zero_le _, fun k o hk => by simp at hk⟩
  · simp at hcs
    subst hcs
    simp only [if_true] at hmm
    subst hmm
    have each : ∀ i, i < m → ∃ q : FnV × Fn, W.cell? (a.add (i * 4)) = some q.1.1 ∧ W.cell? (a.add (i * 4 + 1)) = some q.1.2.1 ∧ W.cell? (a.add (i * 4 + 2)) = some q.1.2.2.1 ∧ W.cell? (a.add (i * 4 + 3)) = some q.1.2.2.2 ∧ FnAt W q.1.1 q.1.2.1 q.1.2.2.1 q.1.2.2.2 q.2 := by
      intro i hi
      obtain ⟨cs', h1, h2⟩ := hc i hi
      rw [cells_fn] at h1
      obtain ⟨_, hlen, hcell⟩ := World.cells?_some h1
      match cs', hlen with
      | [c0, c1, c2, c3], _ =>
        obtain ⟨f, hf⟩ := open_fnC h2
        have e0 := hcell 0 (by omega)
        have e1 := hcell 1 (by omega)
        have e2 := hcell 2 (by omega)
        have e3 := hcell 3 (by omega)
        rw [Deep.add_add] at e0 e1 e2 e3
        exact ⟨((c0, c1, c2, c3), f), by simpa using e0, by simpa using e1, by simpa using e2, by simpa using e3, hf⟩
    obtain ⟨q, hq⟩ := Deep.choose_lt each
    refine ⟨(List.range len').map fun i => (q i).2, some a, m, by simp, by simp; omega, fun k f hk => ?_⟩
    have hk1 : k < len' := by have := lt_of_at' hk; simpa using this
    have ho : f = (q k).2 := by simp [hk1] at hk; exact hk.symm
    obtain ⟨c0, c1, c2, c3, hf⟩ := hq k (by omega)
    obtain ⟨b, off, spot⟩ := a
    have hs0 := (hq 0 (by omega)).1
    have hspot : spot = none := by simpa [Addr.add] using World.cell?_spot hs0
    subst hspot
    rw [add_at] at c0 c1 c2 c3
    exact ⟨b, off, _, _, _, _, rfl, block_of_cell c0, c0, c1, c2, c3, by rw [ho]; exact hf⟩
set_option maxRecDepth 100000 in
/-- a program that came in. -/
theorem open_prog {base : Nat} {r : Reach} {v : Value} {d : DataW H} {p : List MemPlace} (hv : Value.okWide Tryz.prog W r base 24 v) (h : DataW.Trod enc Tryz.prog W 0 (fun _ => true) true 24 v d p) :
    ∃ (c : Value) (l : List Fn), v = .agg #[c] ∧ FnsAt W c l := by
  obtain ⟨cs, rfl, hsz⟩ := okWide_struct Tryz.underlying24 hv
  rw [cells_prog] at hsz
  obtain ⟨cs⟩ := cs
  match cs, hsz with
  | [c], _ =>
    obtain ⟨fuel, hf⟩ := h
    obtain ⟨y0, n, _, _, h0⟩ := trod_struct1 Tryz.underlying24 hf
    simp [cells_fns, Value.cells] at h0
    obtain ⟨l, hl⟩ := open_fnsC h0
    exact ⟨c, l, rfl, hl⟩
end
end Go.Proofs.YtcadpoknolefpaaGreat
/- Arguments that came in, besides. -/
namespace Go.Proofs.YtcadpoknolefpaaGreat
open Go.ChangeShapes Go.WideShapes Go.ChangeAt Go.RowKit
set_option linter.unusedVariables false
section
variable {H : Type} {enc : TypeId × Value → H} {W : World}
theorem open_opsV {v : Value} {d : DataW H} {p : List MemPlace} (hv : ∃ a len cap, v = .slice a len cap) (h : DataW.Trod enc Tryz.prog W 0 (fun _ => true) true 76 v d p) : ∃ l : List (Int × Int), OpsAt W v l := by
  obtain ⟨ao, len, cap, rfl⟩ := hv
  obtain ⟨fuel, hf⟩ := h
  exact open_opsC (by simpa [Value.cells] using hf)
theorem open_intsV {v : Value} {d : DataW H} {p : List MemPlace} (hv : ∃ a len cap, v = .slice a len cap) (h : DataW.Trod enc Tryz.prog W 0 (fun _ => true) true 27 v d p) : ∃ l : List Int, IntsAt W v l := by
  obtain ⟨ao, len, cap, rfl⟩ := hv
  obtain ⟨fuel, hf⟩ := h
  exact open_intsC (by simpa [Value.cells] using hf)
end
end Go.Proofs.YtcadpoknolefpaaGreat
/- Blocks that came in. -/
namespace Go.Proofs.YtcadpoknolefpaaGreat
open Go.ChangeShapes Go.WideShapes Go.ChangeAt Go.RowKit
set_option linter.unusedVariables false
set_option linter.unusedSimpArgs false
section
variable {H : Type} {enc : TypeId × Value → H} {W : World} {fuel : Nat} {x : DataW H × List MemPlace}
theorem weightsAll_mem {P : Program} {e : TypeId} : ∀ {ds : List (DataW H)} {d : DataW H}, d ∈ ds → ∀ n ∈ d.weights P e, n ∈ DataW.weightsAll P e ds
  | [], _, h, _, _ => by simp at h
  | d0 :: r, d, h, n, hn => by
    simp only [DataW.weightsAll, List.mem_append]
    rcases List.mem_cons.1 h with rfl | h
    · exact .inl hn
    · exact .inr (weightsAll_mem h n hn)
theorem bytes_int : Tryz.prog.bytesOf 3 = 8 := by kernel_rfl
/-- numbers that came in: nil or not, no longer than what weighs them. -/
theorem open_intsN {c : Value} (h : DataW.trod enc Tryz.prog W 0 (fun _ => true) true fuel 27 [c] = some x) (hs : ∀ n ∈ x.1.weights Tryz.prog 27, n ≤ reachBytes) : ∃ l : List Int, IntsAt W c l ∧ NilOk c ∧ l.length ≤ 17592186044416 ∧ ∃ p n cap, c = .slice p n cap ∧ n ≤ cap := by
  rcases Deep.open_slice1 Tryz.underlying27 cells_int h with ⟨hcs, hx⟩ | ⟨a, len', cap', m, n, V, D, Pl, hcs, hb, hl, hm, hmm, hx, hc⟩
  · simp at hcs
    subst hcs
    exact ⟨[], ⟨none, 0, rfl, Nat.zero_le _, fun k o hk => by simp at hk⟩, nilOk_nil, by simp, none, 0, 0, rfl, Nat.le_refl _⟩
  · simp at hcs
    subst hcs
    simp only [if_true] at hmm
    subst hmm
    have hlen : len' ≤ 17592186044416 := by
      have h1 := hs ((((List.range len').map D).length + ((List.range (m - len')).map fun j => D (len' + j)).length) * Tryz.prog.bytesOf 3) (by
        rw [hx]
        simp only [DataW.weights, Tryz.underlying27]
        exact List.mem_cons_self ..)
      rw [bytes_int] at h1
      simp [reachBytes] at h1
      omega
    refine ⟨(List.range len').map fun i => intOf (V i), ⟨some a, m, by simp, by simp; omega, fun k o hk => ?_⟩, nilOk_some _ _ _, by simpa using hlen, _, _, _, rfl, hl⟩
    have hk1 : k < len' := by have := lt_of_at' hk; simpa using this
    have ho : o = intOf (V k) := by simp [hk1] at hk; exact hk.symm
    obtain ⟨c0, t0⟩ := hc k (by omega)
    obtain ⟨y, e0, _, wx⟩ := DataW.trod_int Tryz.underlying3 t0
    simp at e0
    obtain ⟨b, off, spot⟩ := a
    have hs0 := (hc 0 (by omega)).1
    have hspot : spot = none := by simpa [Addr.add] using World.cell?_spot hs0
    subst hspot
    rw [add_at] at c0
    rw [e0] at c0
    exact ⟨b, off, rfl, block_of_cell c0, by rw [ho, e0]; exact c0⟩
theorem open_intsW {v : Value} {d : DataW H} {p : List MemPlace} (hv : ∃ a len cap, v = .slice a len cap) (h : DataW.Trod enc Tryz.prog W 0 (fun _ => true) true 27 v d p) (hs : ∀ n ∈ d.weights Tryz.prog 27, n ≤ reachBytes) : ∃ l : List Int, IntsAt W v l ∧ NilOk v ∧ l.length ≤ 17592186044416 := by
  obtain ⟨ao, len, cap, rfl⟩ := hv
  obtain ⟨fuel, hf⟩ := h
  obtain ⟨l, h1, h2, h3, _⟩ := open_intsN (x := (d, p)) (by simpa [Value.cells] using hf) hs
  exact ⟨l, h1, h2, h3⟩
theorem open_blksC {c : Value} (h : DataW.trod enc Tryz.prog W 0 (fun _ => true) true fuel 26 [c] = some x) (hs : ∀ n ∈ x.1.weights Tryz.prog 26, n ≤ reachBytes) : ∃ L : List (List Int), BlksAt W c L := by
  rcases Deep.open_slice Tryz.underlying26 h with ⟨hcs, hx⟩ | ⟨a, len', cap', m, n, D, Pl, hcs, hb, hl, hm, hmm, hx, hc⟩
  · simp at hcs
    subst hcs
    exact ⟨[], none, 0, rfl, Nat.zero_le _, fun k o hk => by simp at hk⟩
  · simp at hcs
    subst hcs
    simp only [if_true] at hmm
    subst hmm
    have each : ∀ i, i < len' → ∃ q : Value × List Int, W.cell? (a.add (i * 1)) = some q.1 ∧ IntsAt W q.1 q.2 ∧ NilOk q.1 ∧ q.2.length ≤ 17592186044416 := by
      intro i hi
      obtain ⟨cs', h1, h2⟩ := hc i (by omega)
      rw [cells_ints] at h1
      obtain ⟨_, hlen, hcell⟩ := World.cells?_some h1
      match cs', hlen with
      | [c0], _ =>
        obtain ⟨l, g1, g2, g3, _⟩ := open_intsN (x := (D i, Pl i)) h2 (fun n hn => hs n (by
          rw [hx]
          simp only [DataW.weights, Tryz.underlying26]
          refine List.mem_cons_of_mem _ (List.mem_append_left _ ?_)
          exact weightsAll_mem (List.mem_map.2 ⟨i, List.mem_range.2 hi, rfl⟩) n hn))
        have e0 := hcell 0 (by omega)
        rw [Deep.add_add] at e0
        exact ⟨(c0, l), by simpa using e0, g1, g2, g3⟩
    obtain ⟨q, hq⟩ := Deep.choose_lt each
    refine ⟨(List.range len').map fun i => (q i).2, some a, m, by simp, by simp; omega, fun k f hk => ?_⟩
    have hk1 : k < len' := by have := lt_of_at' hk; simpa using this
    have ho : f = (q k).2 := by simp [hk1] at hk; exact hk.symm
    obtain ⟨c0, c1, c2, c3⟩ := hq k hk1
    obtain ⟨b, off, spot⟩ := a
    have hs0 := (hq 0 (by omega)).1
    have hspot : spot = none := by simpa [Addr.add] using World.cell?_spot hs0
    subst hspot
    rw [add_at, Nat.mul_one] at c0
    exact ⟨b, off, _, rfl, block_of_cell c0, c0, by rw [ho]; exact c1, c2, by rw [ho]; exact c3⟩
theorem open_blksV {v : Value} {d : DataW H} {p : List MemPlace} (hv : ∃ a len cap, v = .slice a len cap) (h : DataW.Trod enc Tryz.prog W 0 (fun _ => true) true 26 v d p) (hs : ∀ n ∈ d.weights Tryz.prog 26, n ≤ reachBytes) : ∃ L : List (List Int), BlksAt W v L := by
  obtain ⟨ao, len, cap, rfl⟩ := hv
  obtain ⟨fuel, hf⟩ := h
  exact open_blksC (x := (d, p)) (by simpa [Value.cells] using hf) hs
end
end Go.Proofs.YtcadpoknolefpaaGreat
/- CheckProgram. -/
namespace Go.Proofs.YtcadpoknolefpaaGreat
open Go.RowKit
set_option linter.unusedSimpArgs false
set_option linter.unusedVariables false
theorem progErr_at {l : List Fn} {k : Nat} {f : Fn} (h0 : ¬ l.length = 0) (h5 : ¬ 5 < l.length) (hk : l[k]? = some f) (hpre : ∀ x ∈ l.take k, fnErr x l.length = 0) {r : Int} (hr : fnErr f l.length = r) (he : ¬ r = 0) : progErr l = r := by
  have h1 := fnsErr_at l.length l k f hk hpre (by rw [hr]; exact he)
  unfold progErr
  rw [if_neg h0, if_neg h5, h1, hr, if_pos he]
theorem okType_eq (z : Int) : okType z = (decide (1 ≤ z) && decide (z ≤ 2)) := by
  unfold okType
  rw [Bool.eq_iff_iff]
  simp
  omega
/-- are the result and the locals so far of types that they may have? -/
def kindsB (R : Int) (L : List Int) (j : Nat) : Bool := (decide (0 ≤ R) && decide (R ≤ 2)) && (L.take j).all okType
theorem kindsB_zero (R : Int) (L : List Int) : kindsB R L 0 = (decide (0 ≤ R) && decide (R ≤ 2)) := by simp [kindsB]
theorem kindsB_succ (R : Int) (L : List Int) (j : Nat) (z : Int) (h : L[j]? = some z) : kindsB R L (j + 1) = (kindsB R L j && (decide (1 ≤ z) && decide (z ≤ 2))) := by
  unfold kindsB
  rw [take_snoc L j z h, List.all_append, ← okType_eq]
  simp [Bool.and_assoc]
theorem kindsB_all (P R : Int) (L : List Int) (C : List (Int × Int)) : kindsB R L L.length = typedB (P, L, R, C) := by
  simp [kindsB, typedB, Bool.and_comm]
set_option maxRecDepth 100000 in
set_option maxHeartbeats 16000000 in
theorem checkProgram_any (l : List Fn) (v : Value) (w : World) (h : FnsAt w v l) : Calls Tryz.prog 46 #[.agg #[v]] w fun e w' => e = .returned (.int .i64 (progErr l)) ∧ Below w.heap.size w w' := by
  obtain ⟨p, cap, rfl, hm, hc⟩ := h
  unfold maxLen at hm
  have n1 := heap_new w (.cells #[.slice p l.length cap] 24)
  have hw : Below w.heap.size w (w.alloc (.cells #[.slice p l.length cap] 24)) := (Below.refl _ w).alloc (Nat.le_refl _) _
  obtain ⟨W1, hW1⟩ : ∃ W, w.alloc (.cells #[.slice p l.length cap] 24) = W := ⟨_, rfl⟩
  rw [hW1] at n1 hw
  have hz1 := heap_lt n1
  have a1 := cell_at' n1 0
  simp only [List.getElem?_toArray, List.getElem?_cons_zero] at a1
  have HC := hideP hc
  clear hc n1
  by_cases h0 : l.length = 0
  · have h0' : ((l.length : Int) == 0) = true := beq_iff_eq.2 (by omega)
    have HE : Hid (progErr l = 5) := by show _ = _; simp [progErr, h0]
    clear h0
    go_enter Tryz.func46, Tryz.ntmps46
    go_wp2
    go_ret
    exact ⟨by rw [HE.out]; rfl, hw⟩
  have h0' : ((l.length : Int) == 0) = false := beq_eq_false_iff_ne.2 (by omega)
  by_cases h5 : 5 < l.length
  · have h5' : (5 : Int) < (l.length : Int) := by omega
    have HE : Hid (progErr l = 2) := by show _ = _; simp [progErr, h0, h5]
    clear h0
    go_enter Tryz.func46, Tryz.ntmps46
    go_wp2
    go_ret
    exact ⟨by rw [HE.out]; rfl, hw⟩
  have h5' : ¬ (5 : Int) < (l.length : Int) := by omega
  have hl5 : l.length ≤ 5 := by omega
  have hpos : 0 < l.length := by omega
  have H0 := hideP h0
  have H5 := hideP h5
  clear h0 h5
  go_enter Tryz.func46, Tryz.ntmps46
  go_wp2
  go_loopw [3] (fun i wr => ∃ k : Nat, k ≤ l.length ∧ i = .int .i64 k ∧ (∀ f ∈ l.take k, fnErr f l.length = 0) ∧ Below W1.heap.size W1 wr) (fun i _ => l.length - (intOf i).toNat)
  case atStart => exact ⟨0, Nat.zero_le _, rfl, by simp, Below.refl _ _⟩
  case round =>
    rename World => w2
    obtain ⟨k, hk, rfl, hok, hbw1⟩ := hrel
    have HK := hideP hok
    clear hok
    have hbw := hw.trans (hbw1.mono hw.size)
    have b1 := (hbw1.cell (p := ⟨w.heap.size, 0, none⟩) hz1).trans a1
    have hzr := hbw1.size
    by_cases hlt : k < l.length
    · have hlti : (k : Int) < (l.length : Int) := by omega
      obtain ⟨⟨P, L, R, C⟩, ho⟩ := at_of_lt hlt
      obtain ⟨b, off, c0, c1, c2, c3, rfl, hb, x0, x1, x2, x3, hF⟩ := HC.out k _ ho
      have g0 := (hbw.cell (p := ⟨b, off + k * 4, none⟩) hb).trans x0
      have g1 := (hbw.cell (p := ⟨b, off + k * 4 + 1, none⟩) hb).trans x1
      have g2 := (hbw.cell (p := ⟨b, off + k * 4 + 2, none⟩) hb).trans x2
      have g3 := (hbw.cell (p := ⟨b, off + k * 4 + 3, none⟩) hb).trans x3
      have hFr := hF.below hbw
      have HO := hideP ho
      clear ho x0 x1 x2 x3
      obtain ⟨rfl, ⟨p1, q1, rfl, hLm, _⟩, rfl, ⟨p3, q3, rfl, hCm, _⟩⟩ := hF
      simp only at g0 g1 g2 g3 hFr hLm hCm
      unfold maxLen at hLm hCm
      have nF := heap_new w2 (.cells #[.int .i64 P, .slice p1 L.length q1, .int .i64 R, .slice p3 C.length q3] 78)
      have bF : Below w2.heap.size w2 (w2.alloc (.cells #[.int .i64 P, .slice p1 L.length q1, .int .i64 R, .slice p3 C.length q3] 78)) := (Below.refl _ w2).alloc (Nat.le_refl _) _
      obtain ⟨WF, hWF⟩ : ∃ W, w2.alloc (.cells #[.int .i64 P, .slice p1 L.length q1, .int .i64 R, .slice p3 C.length q3] 78) = W := ⟨_, rfl⟩
      rw [hWF] at nF bF
      have hzF := heap_lt nF
      have hFF := hFr.below bF
      have e0 := cell_at' nF 0
      have e1 := cell_at' nF 1
      have e2 := cell_at' nF 2
      have e3 := cell_at' nF 3
      have e4 := (bF.cell (p := ⟨w.heap.size, 0, none⟩) (by simp; omega)).trans b1
      simp at e0 e1 e2 e3
      have hBF1 := hbw1.trans (bF.mono hbw1.size)
      have hBF := hbw.trans (bF.mono hbw.size)
      by_cases h6 : 6 < L.length
      · have h6' : (6 : Int) < (L.length : Int) := by omega
        go_wp2
        go_ret
        exact ⟨by rw [progErr_at H0.out H5.out HO.out HK.out (r := 2) (by simp [fnErr, h6]) (by decide)]; rfl, hBF⟩
      have h6' : ¬ (6 : Int) < (L.length : Int) := by omega
      obtain ⟨x1, hx1⟩ : ∃ x, (decide (0 ≤ P) && decide (P ≤ (L.length : Int))) = x := ⟨_, rfl⟩
      cases x1
      · have hP : P < 0 ∨ (L.length : Int) < P := by simp at hx1; omega
        have HX := hideP hx1
        have HP := hideP hP
        clear hx1 hP
        go_wp2_with fail
        refine (between_any _ _ _ _).mono ?_
        rintro e w' ⟨rfl, hw'⟩
        have hw' := hw'.symm
        subst hw'
        rw [HX.out]
        go_wp2
        go_ret
        exact ⟨by rw [progErr_at H0.out H5.out HO.out HK.out (r := 3) (by simp only [fnErr]; rw [if_neg h6, if_pos HP.out]) (by decide)]; rfl, hBF⟩
      have hP : ¬ (P < 0 ∨ (L.length : Int) < P) := by simp at hx1; omega
      have HX := hideP hx1
      have HP := hideP hP
      clear hx1 hP
      go_wp2_with fail
      refine (between_any _ _ _ _).mono ?_
      rintro e w' ⟨rfl, hw'⟩
      have hw' := hw'.symm
      subst hw'
      rw [HX.out]
      go_wp2_with fail
      refine (between_any _ _ _ _).mono ?_
      rintro e w' ⟨rfl, hw'⟩
      have hw' := hw'.symm
      subst hw'
      rw [← kindsB_zero R L]
      go_wp2
      go_loopw [5, 6] (fun a i wr => ∃ j : Nat, j ≤ L.length ∧ i = .int .i64 j ∧ a = .bool (kindsB R L j) ∧ wr = WF) (fun _ i _ => L.length - (intOf i).toNat)
      case atStart => exact ⟨0, Nat.zero_le _, rfl, rfl, rfl⟩
      case round =>
        rename World => w3
        obtain ⟨j, hj, rfl, rfl, hw3⟩ := hrel
        subst hw3
        obtain ⟨kb, hkb⟩ : ∃ x, kindsB R L j = x := ⟨_, rfl⟩
        rw [hkb]
        have HKB := hideP hkb
        clear hkb
        by_cases hjl : j < L.length
        · have hji : (j : Int) < (L.length : Int) := by omega
          cases kb
          · go_wp2
            go_roundw
            case rel =>
              obtain ⟨z, hz⟩ := at_of_lt hjl
              exact ⟨j + 1, by omega, by go_num, by rw [kindsB_succ R L j z hz, HKB.out]; rfl, trivial⟩
            case measure => simp [intOf]; omega
          · obtain ⟨z, hz⟩ := at_of_lt hjl
            obtain ⟨_, _, hpp, _, hcc⟩ := hFF.2.1
            obtain ⟨bL, oL, hpe, _, cz⟩ := hcc j z hz
            cases hpp
            subst hpe
            have HZ := hideP hz
            clear hz hcc
            go_wp2_with fail
            refine (between_any _ _ _ _).mono ?_
            rintro e w' ⟨rfl, hw'⟩
            have hw' := hw'.symm
            subst hw'
            go_wp2
            go_roundw
            case rel => exact ⟨j + 1, by omega, by go_num, by rw [kindsB_succ R L j z HZ.out, HKB.out]; rfl, trivial⟩
            case measure => simp [intOf]; omega
        · have hji : ¬ (j : Int) < (L.length : Int) := by omega
          obtain rfl : j = L.length := by omega
          have HT : Hid (typedB (P, L, R, C) = kb) := by show _ = _; rw [← HKB.out, kindsB_all P R L C]
          clear HKB
          cases kb
          · go_wp2
            go_ret
            exact ⟨by rw [progErr_at H0.out H5.out HO.out HK.out (r := 6) (by simp only [fnErr]; rw [if_neg h6, if_neg HP.out, if_pos HT.out]) (by decide)]; rfl, hBF⟩
          by_cases hC0 : C.length = 0
          · have hC0' : ((C.length : Int) == 0) = true := beq_iff_eq.2 (by omega)
            have HC0 := hideP hC0
            clear hC0
            go_wp2
            go_ret
            exact ⟨by rw [progErr_at H0.out H5.out HO.out HK.out (r := 5) (by simp only [fnErr]; rw [if_neg h6, if_neg HP.out, if_neg (by rw [HT.out]; decide), if_pos HC0.out]) (by decide)]; rfl, hBF⟩
          have hC0' : ((C.length : Int) == 0) = false := beq_eq_false_iff_ne.2 (by omega)
          have HC0 := hideP hC0
          obtain ⟨ce, hce⟩ : ∃ x, codeErr C = x := ⟨_, rfl⟩
          have hck := checkCode_any C _ _ hFF.2.2.2
          rw [hce] at hck
          have HCK := hideP hck
          have HCE := hideP hce
          clear hck hce hC0
          go_wp2_with fail
          refine HCK.out.mono ?_
          rintro e w4 ⟨rfl, hb4⟩
          have hB4 := hBF.trans (hb4.mono hBF.size)
          have hB41 := hBF1.trans (hb4.mono hBF1.size)
          clear HCK
          by_cases hce : ce = 0
          · subst hce
            have hF4 := hFF.below hb4
            have n4 := (hb4.block _ hzF).trans nF
            have hz4 := heap_lt n4
            go_wp2
            go_loopw [8] (fun i wr => ∃ j : Nat, j ≤ C.length ∧ i = .int .i64 j ∧ (∀ o ∈ C.take j, namesB o (P, L, R, C) l.length = true) ∧ Below w4.heap.size w4 wr) (fun i _ => C.length - (intOf i).toNat)
            case atStart => exact ⟨0, Nat.zero_le _, rfl, by simp, Below.refl _ _⟩
            case round =>
              rename World => w5
              obtain ⟨j, hj, rfl, hok, hb5⟩ := hrel
              have HNB := hideP hok
              clear hok
              have n5 := (hb5.block _ hz4).trans n4
              have f1 := cell_at' n5 1
              have f3 := cell_at' n5 3
              have f0 := (hb5.cell (p := ⟨w.heap.size, 0, none⟩) (by simp; omega)).trans ((hb4.cell (p := ⟨w.heap.size, 0, none⟩) (by simp; omega)).trans e4)
              simp at f1 f3
              have hB5 := hB4.trans (hb5.mono hB4.size)
              have hB51 := hB41.trans (hb5.mono hB41.size)
              have hz5 := heap_lt n5
              by_cases hjl : j < C.length
              · skip
                obtain ⟨⟨c, a⟩, hz⟩ := at_of_lt hjl
                have hji : (j : Int) < (C.length : Int) := by omega
                have hO5 := hF4.2.2.2.below hb5
                obtain ⟨_, _, hpp, _, hcc⟩ := hO5
                obtain ⟨bC, oC, hpe, hbC, cz0, cz1⟩ := hcc j (c, a) hz
                cases hpp
                subst hpe
                simp only at cz0 cz1
                have HZ := hideP hz
                have hC40 : C.length ≤ 40 := (codeErr_zero _ HCE.out).1
                clear hz hcc
                have n6 := heap_old n5 (.cells #[.int .i64 c, .int .i64 a] 43)
                have m6 := heap_new w5 (.cells #[.int .i64 c, .int .i64 a] 43)
                have hb6 : Below w5.heap.size w5 (w5.alloc (.cells #[.int .i64 c, .int .i64 a] 43)) := (Below.refl _ w5).alloc (Nat.le_refl _) _
                have i0 := cell_old f0 (.cells #[.int .i64 c, .int .i64 a] 43)
                obtain ⟨W6, hW6⟩ : ∃ W, w5.alloc (.cells #[.int .i64 c, .int .i64 a] 43) = W := ⟨_, rfl⟩
                rw [hW6] at n6 m6 hb6 i0
                have i1 := cell_at' n6 1
                have i3 := cell_at' n6 3
                have k0 := cell_at' m6 0
                have k1 := cell_at' m6 1
                simp at i1 i3 k0 k1
                have hb46 := hb5.trans (hb6.mono hb5.size)
                have hB6 := hB5.trans (hb6.mono hB5.size)
                have hbad : namesB (c, a) (P, L, R, C) l.length = false → fnErr (P, L, R, C) l.length = 3 := fun hn => by
                  simp only [fnErr]
                  rw [if_neg h6, if_neg HP.out, if_neg (by rw [HT.out]; decide), if_neg HC0.out, if_neg (by rw [HCE.out]; decide), if_pos]
                  rw [List.all_eq_false]
                  exact ⟨(c, a), List.mem_of_getElem? HZ.out, by rw [hn]; decide⟩
                have hgood : namesB (c, a) (P, L, R, C) l.length = true → ∀ o ∈ C.take (j + 1), namesB o (P, L, R, C) l.length = true := fun hn => by
                  rw [take_snoc C j _ HZ.out]; intro x hx; rcases List.mem_append.1 hx with hx | hx
                  · exact HNB.out x hx
                  · simp at hx; subst hx; exact hn
                have HBAD := hideP hbad
                have HGOOD := hideP hgood
                clear hbad hgood n6 m6
                have hcase : (c = 8 ∨ c = 9) ∨ (c = 10 ∨ c = 11) ∨ c = 12 ∨ (¬ c = 8 ∧ ¬ c = 9 ∧ ¬ c = 10 ∧ ¬ c = 11 ∧ ¬ c = 12) := by omega
                rcases hcase with hcc | hcc | hcc | hcc
                · skip
                  obtain ⟨x, hx⟩ : ∃ x, (decide (0 ≤ a) && decide (a ≤ ((L.length : Int) : Int) - 1)) = x := ⟨_, rfl⟩
                  have HX := hideP hx
                  have HNM : Hid (namesB (c, a) (P, L, R, C) l.length = x) := by
                    show _ = _
                    rw [← hx]
                    have e9 : isNum a L.length = (decide (0 ≤ a) && decide (a ≤ ((L.length : Int) : Int) - 1)) := by unfold isNum; congr 1; simp only [decide_eq_decide]; omega
                    rw [← e9]
                    rcases hcc with rfl | rfl <;> simp [namesB]
                  clear hx
                  rcases hcc with rfl | rfl
                  all_goals
                    cases x
                    · go_wp2_with (go_at_call 48; refine (between_any _ _ _ _).mono ?_; rintro e w' ⟨rfl, hw'⟩; have hw' := hw'.symm; subst hw'; rw [HX.out])
                      go_ret
                      exact ⟨by rw [progErr_at H0.out H5.out HO.out HK.out (r := 3) (HBAD.out HNM.out) (by decide)]; rfl, hB6⟩
                    · go_wp2_with (go_at_call 48; refine (between_any _ _ _ _).mono ?_; rintro e w' ⟨rfl, hw'⟩; have hw' := hw'.symm; subst hw'; rw [HX.out])
                      go_roundw
                      case rel => exact ⟨j + 1, by omega, by go_num, HGOOD.out HNM.out, hb46⟩
                      case measure => simp [intOf]; omega
                · skip
                  obtain ⟨x, hx⟩ : ∃ x, (decide (0 ≤ a) && decide (a ≤ ((C.length : Int) : Int) - 1)) = x := ⟨_, rfl⟩
                  have HX := hideP hx
                  have HNM : Hid (namesB (c, a) (P, L, R, C) l.length = x) := by
                    show _ = _
                    rw [← hx]
                    have e9 : isNum a C.length = (decide (0 ≤ a) && decide (a ≤ ((C.length : Int) : Int) - 1)) := by unfold isNum; congr 1; simp only [decide_eq_decide]; omega
                    rw [← e9]
                    rcases hcc with rfl | rfl <;> simp [namesB]
                  clear hx
                  rcases hcc with rfl | rfl
                  all_goals
                    cases x
                    · go_wp2_with (go_at_call 48; refine (between_any _ _ _ _).mono ?_; rintro e w' ⟨rfl, hw'⟩; have hw' := hw'.symm; subst hw'; rw [HX.out])
                      go_ret
                      exact ⟨by rw [progErr_at H0.out H5.out HO.out HK.out (r := 3) (HBAD.out HNM.out) (by decide)]; rfl, hB6⟩
                    · go_wp2_with (go_at_call 48; refine (between_any _ _ _ _).mono ?_; rintro e w' ⟨rfl, hw'⟩; have hw' := hw'.symm; subst hw'; rw [HX.out])
                      go_roundw
                      case rel => exact ⟨j + 1, by omega, by go_num, HGOOD.out HNM.out, hb46⟩
                      case measure => simp [intOf]; omega
                · have hcc : c = 12 ∨ c = 12 := .inl hcc
                  obtain ⟨x, hx⟩ : ∃ x, (decide (0 ≤ a) && decide (a ≤ ((l.length : Int) : Int) - 1)) = x := ⟨_, rfl⟩
                  have HX := hideP hx
                  have HNM : Hid (namesB (c, a) (P, L, R, C) l.length = x) := by
                    show _ = _
                    rw [← hx]
                    have e9 : isNum a l.length = (decide (0 ≤ a) && decide (a ≤ ((l.length : Int) : Int) - 1)) := by unfold isNum; congr 1; simp only [decide_eq_decide]; omega
                    rw [← e9]
                    rcases hcc with rfl | rfl <;> simp [namesB]
                  clear hx
                  rcases hcc with rfl | rfl
                  all_goals
                    cases x
                    · go_wp2_with (go_at_call 48; refine (between_any _ _ _ _).mono ?_; rintro e w' ⟨rfl, hw'⟩; have hw' := hw'.symm; subst hw'; rw [HX.out])
                      go_ret
                      exact ⟨by rw [progErr_at H0.out H5.out HO.out HK.out (r := 3) (HBAD.out HNM.out) (by decide)]; rfl, hB6⟩
                    · go_wp2_with (go_at_call 48; refine (between_any _ _ _ _).mono ?_; rintro e w' ⟨rfl, hw'⟩; have hw' := hw'.symm; subst hw'; rw [HX.out])
                      go_roundw
                      case rel => exact ⟨j + 1, by omega, by go_num, HGOOD.out HNM.out, hb46⟩
                      case measure => simp [intOf]; omega
                · obtain ⟨c8, c9, c10, c11, c12⟩ := hcc
                  have b8 : (c == 8) = false := beq_eq_false_iff_ne.2 c8
                  have b9 : (c == 9) = false := beq_eq_false_iff_ne.2 c9
                  have b10 : (c == 10) = false := beq_eq_false_iff_ne.2 c10
                  have b11 : (c == 11) = false := beq_eq_false_iff_ne.2 c11
                  have b12 : (c == 12) = false := beq_eq_false_iff_ne.2 c12
                  have HNM : Hid (namesB (c, a) (P, L, R, C) l.length = true) := by show _ = _; simp [namesB, c8, c9, c10, c11, c12]
                  clear c8 c9 c10 c11 c12
                  go_wp2
                  go_roundw
                  case rel => exact ⟨j + 1, by omega, by go_num, HGOOD.out HNM.out, hb46⟩
                  case measure => simp [intOf]; omega
              · have hji : ¬ (j : Int) < (C.length : Int) := by omega
                obtain rfl : j = C.length := by omega
                have hfe : fnErr (P, L, R, C) l.length = 0 := by
                  have := HNB.out
                  rw [List.take_of_length_le (Nat.le_refl _)] at this
                  simp only [fnErr]
                  rw [if_neg h6, if_neg HP.out, if_neg (by rw [HT.out]; decide), if_neg HC0.out, if_neg (by rw [HCE.out]; decide), if_neg (by rw [List.all_eq_true.2 this]; decide)]
                have HFE := hideP hfe
                clear hfe
                go_wp2
                go_roundw
                case rel => exact ⟨k + 1, by omega, by go_num, by
                  rw [take_snoc l k _ HO.out]; intro x hx; rcases List.mem_append.1 hx with hx | hx
                  · exact HK.out x hx
                  · simp at hx; subst hx; exact HFE.out, hB51⟩
                case measure => simp [intOf]; omega
          · have hce' : (ce != 0) = true := by simpa using hce
            go_wp2
            go_ret
            exact ⟨by rw [progErr_at H0.out H5.out HO.out HK.out (r := ce) (by simp only [fnErr]; rw [if_neg h6, if_neg HP.out, if_neg (by rw [HT.out]; decide), if_neg HC0.out, if_pos (by rw [HCE.out]; exact hce)]; exact HCE.out) hce]; rfl, hB4⟩
    · have hlti : ¬ (k : Int) < (l.length : Int) := by omega
      have hall := HK.out
      rw [List.take_of_length_le (by omega)] at hall
      obtain ⟨⟨P, L, R, C⟩, ho⟩ := at_of_lt hpos
      obtain ⟨b, off, c0, c1, c2, c3, rfl, hb, x0, x1, x2, x3, hF⟩ := HC.out 0 _ ho
      have g0 := (hbw.cell (p := ⟨b, off + 0 * 4, none⟩) hb).trans x0
      have g2 := (hbw.cell (p := ⟨b, off + 0 * 4 + 2, none⟩) hb).trans x2
      simp only [Nat.zero_mul, Nat.add_zero] at g0 g2
      obtain ⟨rfl, _, rfl, _⟩ := hF
      simp only at g0 g2
      have hfz := fnsErr_all l.length l hall
      obtain ⟨_, hPr, hTy, _⟩ := fnErr_zero (hall _ (List.mem_of_getElem? ho))
      simp only [typedB, Bool.and_eq_true, decide_eq_true_eq] at hPr hTy
      have HE2 : Hid (progErr l = if P ≠ 0 ∨ R ≠ 0 then 4 else 0) := by
        show _ = _
        unfold progErr
        rw [if_neg H0.out, if_neg H5.out, hfz]
        cases l with
        | nil => simp at ho
        | cons x r => simp at ho; subst ho; simp [headErr]
      have hpi : (0 : Int) < (l.length : Int) := by omega
      have hP0 : 0 ≤ P := hPr.1
      have hR0 : 0 ≤ R := hTy.2.1
      clear hall hfz ho x0 x1 x2 x3 hPr hTy
      by_cases hP : 0 < P
      · have HEE : Hid (progErr l = 4) := by show _ = _; rw [HE2.out]; simp; omega
        go_wp2
        go_ret
        exact ⟨by rw [HEE.out]; rfl, hbw⟩
      · by_cases hR : 0 < R
        · have HEE : Hid (progErr l = 4) := by show _ = _; rw [HE2.out]; simp; omega
          go_wp2
          go_ret
          exact ⟨by rw [HEE.out]; rfl, hbw⟩
        · have HEE : Hid (progErr l = 0) := by
            show _ = _
            rw [HE2.out, if_neg (by omega)]
          go_wp2
          go_ret
          exact ⟨by rw [HEE.out]; rfl, hbw⟩
end Go.Proofs.YtcadpoknolefpaaGreat
/- ProgramBytes. -/
namespace Go.Proofs.YtcadpoknolefpaaGreat
open Go.RowKit
set_option linter.unusedSimpArgs false
set_option linter.unusedVariables false
theorem flat_take (l : List Fn) (k : Nat) (f : Fn) (h : l[k]? = some f) : (l.take (k + 1)).flatMap fnBytes = (l.take k).flatMap fnBytes ++ fnBytes f := by
  rw [take_snoc l k f h, List.flatMap_append]; simp
theorem list_app (X Y : ByteArray) : (X ++ Y).data.toList = X.data.toList ++ Y.data.toList := by rw [ByteArray.data_append, Array.toList_append]
end Go.Proofs.YtcadpoknolefpaaGreat
/- The reader of the reference. -/
namespace Go.Proofs.YtcadpoknolefpaaGreat
open Go.RowKit
set_option linter.unusedSimpArgs false
set_option linter.unusedVariables false
/-- the place in block A, the text in block S, whether all is well in block O. -/
def RO (W : World) (A S O : Nat) (s : ByteArray) (st : Rd) : Prop :=
  ∃ k : Nat, W.heap[A]? = some (.cells #[.int .i64 k] 3 (0, 0)) ∧ W.heap[S]? = some (.cells #[.string s] 9 (0, 0)) ∧ W.heap[O]? = some (.cells #[.bool st.isSome] 4 (0, 0)) ∧ k ≤ s.size ∧ (∀ r, st = some r → r = s.data.toList.drop k) ∧ (st = none → k = s.size)
theorem RO.kept {W W' : World} {A S O : Nat} {s : ByteArray} {st : Rd} {row : Option Nat} (h : RO W A S O s st) (hg : W.grownBy W' row) (hr : ∀ r, row = some r → r ≠ A ∧ r ≠ S ∧ r ≠ O) : RO W' A S O s st := by
  obtain ⟨k, h1, h2, h3, h4⟩ := h
  exact ⟨k, (hg.block _ (heap_lt h1) (fun e => (hr _ e.symm).1 rfl)).trans h1, (hg.block _ (heap_lt h2) (fun e => (hr _ e.symm).2.1 rfl)).trans h2, (hg.block _ (heap_lt h3) (fun e => (hr _ e.symm).2.2 rfl)).trans h3, h4⟩
/-- what lies below F stays, but for the blocks A and O. -/
structure KL (A O F : Nat) (W W' : World) : Prop where
  os : W'.os = W.os
  tape : W'.tape = W.tape
  output : W'.output = W.output
  size : W.heap.size ≤ W'.heap.size
  block : ∀ k, k < F → k ≠ A → k ≠ O → W'.heap[k]? = W.heap[k]?
theorem KL.refl (A O F : Nat) (W : World) : KL A O F W W := ⟨rfl, rfl, rfl, Nat.le_refl _, fun _ _ _ _ => rfl⟩
theorem KL.grown {A O F : Nat} {W W' W'' : World} {row : Option Nat} (h : KL A O F W W') (hg : W'.grownBy W'' row) (hF : F ≤ W'.heap.size) (hr : ∀ r, row = some r → r = A ∨ r = O ∨ F ≤ r) : KL A O F W W'' :=
  ⟨hg.os.trans h.os, hg.tape.trans h.tape, hg.output.trans h.output, Nat.le_trans h.size hg.size, fun k hk ha ho => (hg.block k (by omega) (fun e => by rcases hr k e.symm with h1 | h1 | h1 <;> omega)).trans (h.block k hk ha ho)⟩
/-- one of the blocks A and O was written, and no other one. -/
def Wrote (A O : Nat) (W W' : World) : Prop := ∃ r, (r = A ∨ r = O) ∧ W.grownBy W' (some r)
end Go.Proofs.YtcadpoknolefpaaGreat
/- Plain laws for the reference's reading. -/
namespace Go.Proofs.YtcadpoknolefpaaGreat
open Go.RowKit
set_option linter.unusedSimpArgs false
set_option linter.unusedVariables false
theorem takeR_none (n : Nat) : takeR none n = ([], none) := rfl
theorem readLocs_none (j : Nat) (st : Rd) (h : (readLocs j st).2 = none) : ∀ d, (readLocs (j + d) st).2 = none := by
  intro d
  induction d with
  | zero => exact h
  | succ d ih => show (takeR (readLocs (j + d) st).2 1).2 = none; rw [ih]; rfl
theorem takeR_two (S : Rd) : ((takeR (takeR S 1).2 1).2 = none → (takeR S 2).2 = none) ∧ (∀ r, (takeR (takeR S 1).2 1).2 = some r → ∃ b c, (takeR S 1).1 = [b] ∧ (takeR (takeR S 1).2 1).1 = [c] ∧ takeR S 2 = ([b, c], some r)) := by
  cases S with
  | none => exact ⟨fun _ => rfl, fun r h => by simp [takeR] at h⟩
  | some s =>
    match s with
    | [] => exact ⟨fun _ => by simp [takeR], fun r h => by simp [takeR] at h⟩
    | [b] => exact ⟨fun _ => by simp [takeR], fun r h => by simp [takeR] at h⟩
    | b :: c :: t => exact ⟨fun h => by simp [takeR] at h, fun r h => ⟨b, c, by simp [takeR], by simp [takeR], by simp [takeR] at h ⊢; exact h⟩⟩
theorem readFn_some (st : Rd) (h : (readFn st).2.1 = true) : ∃ r, (readFn st).2.2 = some r := by
  simp only [readFn, Bool.and_eq_true] at h ⊢
  exact Option.isSome_iff_exists.1 h.2
theorem some_at {s : List UInt8} {n : Nat} {st : Rd} (hn : numOf (takeR (some s) 1).1 = n) (hst : (takeR (some s) 1).2 = st) {k : Nat} (hk : k < n) (hok : ∀ i, i < k → (readFn (stAt i st)).2.1 = true) : ∃ r, stAt k st = some r := by
  cases k with
  | zero =>
    cases st with
    | some r => exact ⟨r, rfl⟩
    | none =>
      exfalso
      cases s with
      | nil => simp [takeR, numOf] at hn; omega
      | cons b r => simp [takeR] at hst
  | succ k => exact readFn_some _ (hok k (by omega))
theorem decProg_bad {s : List UInt8} {n : Nat} {st : Rd} (hn : numOf (takeR (some s) 1).1 = n) (hst : (takeR (some s) 1).2 = st) (hs : s.length ≤ 2000) {k : Nat} (hk : k < n) (hb : (readFn (stAt k st)).2.1 = false) : decProg s = ([], 1) := by
  have hr : readProg s = ([], false) := by
    unfold readProg
    rw [if_neg]
    intro h
    have := h k (by rw [hn]; exact hk)
    rw [hst, hb] at this
    cases this
  unfold decProg
  rw [if_neg (by omega), hr]
  simp
theorem decProg_end {s : List UInt8} {n : Nat} {st : Rd} (hn : numOf (takeR (some s) 1).1 = n) (hst : (takeR (some s) 1).2 = st) (hs : s.length ≤ 2000) (hok : ∀ i, i < n → (readFn (stAt i st)).2.1 = true) : decProg s = if stAt n st = some [] then (if progErr (fnsTo n st) ≠ 0 then ([], progErr (fnsTo n st)) else (fnsTo n st, 0)) else ([], 1) := by
  have hr : readProg s = (fnsTo n st, decide (stAt n st = some [])) := by
    unfold readProg
    rw [hn, hst, if_pos hok]
  unfold decProg
  rw [if_neg (by omega), hr]
  by_cases h : stAt n st = some []
  · simp [h]
  · simp [h]
theorem readFn_steps {S S1 st2 S3 S4 S5 S6 : Rd} {P R : Int} {nl x y j : Nat} (HP : ((numOf (takeR S 1).1 : Nat) : Int) = P) (HS1 : (takeR S 1).2 = S1) (HNL : numOf (takeR S1 1).1 = nl) (HST2 : (takeR S1 1).2 = st2) (HS3 : (readLocs j st2).2 = S3)
    (HR : ((numOf (takeR S3 1).1 : Nat) : Int) = R) (HS4 : (takeR S3 1).2 = S4) (HX : numOf (takeR S4 1).1 = x) (HS5 : (takeR S4 1).2 = S5) (HY : numOf (takeR S5 1).1 = y) (HS6 : (takeR S5 1).2 = S6) (hj : j ≤ nl) (hex : j = nl ∨ S3 = none) :
    (S6 = none → (readFn S).2.1 = false) ∧ (∀ r, S6 = some r → j = nl ∧ readFn S = ((P, (readLocs nl st2).1, R, (dec (items (takeR (some r) (256 * x + y)).1.length (takeR (some r) (256 * x + y)).1) []).1), (decide ((dec (items (takeR (some r) (256 * x + y)).1.length (takeR (some r) (256 * x + y)).1) []).2 = 0) && (takeR (some r) (256 * x + y)).2.isSome), (takeR (some r) (256 * x + y)).2)) := by
  have hnone : S3 = none → (readFn S).2.1 = false := fun h3 => by
    have h1 : (readLocs nl st2).2 = none := by
      have := readLocs_none j st2 (HS3.trans h3) (nl - j)
      rwa [show j + (nl - j) = nl by omega] at this
    simp only [readFn]
    rw [HS1, HNL, HST2, h1]
    simp [takeR]
  constructor
  · intro h6
    rcases hex with rfl | h3
    · have h2 := (takeR_two S4).1 (by rw [HS5, HS6]; exact h6)
      simp only [readFn]
      rw [HS1, HNL, HST2, HS3, HS4, h2]
      simp [takeR]
    · exact hnone h3
  · intro r h6
    have hjn : j = nl := by
      rcases hex with h | h3
      · exact h
      · rw [h3] at HS4
        rw [← HS4] at HS5
        rw [← HS5] at HS6
        rw [← HS6] at h6
        simp [takeR] at h6
    subst hjn
    refine ⟨rfl, ?_⟩
    obtain ⟨b, c, e1, e2, e3⟩ := (takeR_two S4).2 r (by rw [HS5, HS6]; exact h6)
    rw [HS5] at e2
    have hxy : numOf [b, c] = 256 * x + y := by
      rw [← HX, ← HY, e1, e2, numOf_bc, numOf_b, numOf_b]
    simp only [readFn]
    rw [HS1, HP, HNL, HST2, HS3, HR, HS4, e3, hxy]
/-- what lies in blocks that stay, stays. -/
theorem ownsRow_same {W W' : World} {base : Nat} {e : TypeId} {size : Nat} {v : Value} {n : Nat} {xs : List Value} (h : W.ownsRow base e size v n xs) (hk : ∀ k, v.ownBlock = some k → W'.heap[k]? = W.heap[k]?) : W'.ownsRow base e size v n xs := by
  refine ⟨h.1, ?_⟩
  rcases h.2 with h0 | ⟨g, cap, cur, hv, hb, hg, hr⟩
  · exact .inl h0
  · exact .inr ⟨g, cap, cur, hv, hb, (hk g (by rw [hv]; rfl)).trans hg, hr⟩
theorem FnOwn.same {W W' : World} {B : Nat} {c0 c1 c2 c3 : Value} {f : Fn} (h : FnOwn W B c0 c1 c2 c3 f) (hs : W.heap.size ≤ W'.heap.size) (hk : ∀ k, B ≤ k → k < W.heap.size → W'.heap[k]? = W.heap[k]?) : FnOwn W' B c0 c1 c2 c3 f := by
  obtain ⟨⟨h0, h1, h2, h3⟩, n1, n3⟩ := h
  refine ⟨⟨h0, ?_, h2, ?_⟩, fun a n c hv => ?_, fun a n c hv => ?_⟩
  · obtain ⟨p, cap, rfl, hm, hc⟩ := h1
    refine ⟨p, cap, rfl, hm, fun k o ho => ?_⟩
    obtain ⟨b, off, rfl, hlt, x0⟩ := hc k o ho
    have hb := hk b (n1 ⟨b, off, none⟩ _ _ rfl).1 hlt
    exact ⟨b, off, rfl, Nat.lt_of_lt_of_le hlt hs, (World.cell?_of_block (w := W) (a := ⟨b, off + k, none⟩) hb).trans x0⟩
  · obtain ⟨p, cap, rfl, hm, hc⟩ := h3
    refine ⟨p, cap, rfl, hm, fun k o ho => ?_⟩
    obtain ⟨b, off, rfl, hlt, x0, x1⟩ := hc k o ho
    have hb := hk b (n3 ⟨b, off, none⟩ _ _ rfl).1 hlt
    exact ⟨b, off, rfl, Nat.lt_of_lt_of_le hlt hs, (World.cell?_of_block (w := W) (a := ⟨b, off + k * 2, none⟩) hb).trans x0, (World.cell?_of_block (w := W) (a := ⟨b, off + k * 2 + 1, none⟩) hb).trans x1⟩
  · obtain ⟨x1, cs, fz, x2⟩ := n1 a n c hv
    exact ⟨x1, cs, fz, (hk _ x1 (heap_lt x2)).trans x2⟩
  · obtain ⟨x1, cs, fz, x2⟩ := n3 a n c hv
    exact ⟨x1, cs, fz, (hk _ x1 (heap_lt x2)).trans x2⟩
theorem FnRows.same {W W' : World} {B : Nat} {q : List FnV} {l : List Fn} (h : FnRows W B q l) (hs : W.heap.size ≤ W'.heap.size) (hk : ∀ k, B ≤ k → k < W.heap.size → W'.heap[k]? = W.heap[k]?) : FnRows W' B q l := ⟨h.1, fun k c f h1 h2 => (h.2 k c f h1 h2).same hs hk⟩
theorem Below.kl {B0 A O F : Nat} {w W W' : World} (h : Below B0 w W) (k : KL A O F W W') (hF : B0 ≤ F) (hA : B0 ≤ A) (hO : B0 ≤ O) : Below B0 w W' :=
  ⟨k.os.trans h.os, k.tape.trans h.tape, k.output.trans h.output, Nat.le_trans h.size k.size, fun i hi => (k.block i (by omega) (by omega) (by omega)).trans (h.block i hi)⟩
end Go.Proofs.YtcadpoknolefpaaGreat
