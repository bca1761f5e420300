/- My texts Nf Xb Xd Xe Xg Ni Nj Mj Mv: what of them is needed, joined. -/
import Derived.ProofKit
import Derived.OpenShut
import Derived.ShutString
import Derived.ChangeOld
import Derived.SizedLaws
import Derived.Deep.SlicePairs
import Derived.Lib.SmallJoins
import Derived.BigQuiet
import Derived.Test.YtcadpoknolefpaaGreatF6
import Derived.Test.YtcadpoknolefpaaGreatF8
import Derived.Test.YtcadpoknolefpaaGreatF11
import Derived.Test.YtcadpoknolefpaaGreatF14
import Derived.Test.YtcadpoknolefpaaGreatF16
import Derived.Test.YtcadpoknolefpaaGreatF17
/- machine's checker: one thing behind the other; Check. -/
namespace Go.Proofs.YtcadpoknolefpaaGreat
open Go.RowKit
set_option linter.unusedSimpArgs false
set_option linter.unusedVariables false
def ckRow (c : Value) : List Value := ckFns.map fun F => .func (.func F) #[c] #[]
theorem ckRow_at (c : Value) {k F : Nat} (h : ckFns[k]? = some F) : (ckRow c)[k]? = some (.func (.func F) #[c] #[]) := by
  unfold ckRow
  rw [List.getElem?_map, h]
  rfl
set_option maxRecDepth 100000 in
set_option maxHeartbeats 4000000 in
theorem check_gen (M : Mach) (pv fv bv iv ov : Value) (es : List Int) (w : World) (h1 : ∃ p n c, pv = .slice p n c) (h2 : ∃ p n c, fv = .slice p n c) (h3 : ∃ p n c, bv = .slice p n c) (h4 : ∃ p n c, iv = .slice p n c) (h5 : ∃ p n c, ov = .slice p n c) (hes : es.length = 7)
    (hF : ∀ (k F : Nat) (a : Int), ckFns[k]? = some F → es[k]? = some a → (∀ b ∈ es.take k, b = 0) → ∀ W, Below w.heap.size w W → Calls Tryz.prog F #[chkV pv fv bv iv ov M] W (Says a W)) : Calls Tryz.prog 61 #[chkV pv fv bv iv ov M] w (Says (firstE es) w) := by
  obtain ⟨p1, n1, c1, rfl⟩ := h1
  obtain ⟨p2, n2, c2, rfl⟩ := h2
  obtain ⟨p3, n3, c3, rfl⟩ := h3
  obtain ⟨p4, n4, c4, rfl⟩ := h4
  obtain ⟨p5, n5, c5, rfl⟩ := h5
  have HF := hideP hF
  have HEE := hideP ckFns_ent
  have HES := hideP hes
  have hmf : ∀ (fn : Go.Fn) (first cap : Array Value) (w : World), (Instr.makeFunc fn first cap).run Tryz.prog w = .ok (.func fn first cap) w := fun _ _ _ _ => rfl
  obtain ⟨c, hc⟩ : ∃ c, chkV (.slice p1 n1 c1) (.slice p2 n2 c2) (.slice p3 n3 c3) (.slice p4 n4 c4) (.slice p5 n5 c5) M = c := ⟨_, rfl⟩
  have hb2 : ∀ o o', Below w.heap.size w ((w.alloc o).alloc o') := fun o o' => ((Below.refl _ w).alloc (Nat.le_refl _) _).alloc (by simp) _
  have hx2 : ∀ o o', ((w.alloc o).alloc o').heap[w.heap.size + 1]? = some o' := fun o o' => new_two w o o'
  have HC := hideP hc
  clear hF hes hc
  go_enter Tryz.func61, Tryz.ntmps61
  go_wp2_with fail
  go_loopw [5, 24] (fun _ i wr => ∃ k : Nat, k ≤ 7 ∧ i = .int .i64 k ∧ (∀ b ∈ es.take k, b = 0) ∧ Below w.heap.size w wr ∧ wr.heap[w.heap.size + 1]? = some (.cells (ckRow c).toArray 89 (0, 0))) (fun _ i _ => 7 - (intOf i).toNat)
  case atStart => exact ⟨0, Nat.zero_le _, rfl, by simp, hb2 _ _, by rw [← HC.out]; exact hx2 _ _⟩
  case round =>
    obtain ⟨k, hk, rfl, hok, hbw, hrow⟩ := hrel
    have HK := hideP hok
    clear hok
    by_cases hlt : k < 7
    · obtain ⟨F, hFk⟩ := at_of_lt (l := ckFns) (k := k) hlt
      obtain ⟨a, ha⟩ := at_of_lt (l := es) (k := k) (by rw [HES.out]; exact hlt)
      have hcell : wr.cell? ⟨w.heap.size + 1, k, none⟩ = some (.func (.func F) #[c] #[]) := by
        rw [cell_at' hrow]
        simpa using ckRow_at c hFk
      have hlti : (k : Int) < (7 : Int) := by omega
      have hent := HEE.out F (List.mem_of_getElem? hFk)
      have hEE : ∀ (args : Array Value) (W : World), (callFunc F args).run Tryz.prog W = .ok (.enter F args) W := hent
      have hlx := heap_lt hrow
      have HROW := hideP hrow
      have hcall := HF.out k F a hFk ha HK.out wr hbw
      rw [HC.out] at hcall
      have HCALL := hideP hcall
      have HA := hideP ha
      clear hrow hent hcall hFk ha
      by_cases h0 : a = 0
      · subst h0
        go_wp2_with fail
        refine HCALL.out.mono ?_
        rintro e w2 ⟨rfl, b2⟩
        go_wp2
        go_roundw
        case rel =>
          refine ⟨k + 1, by omega, by go_num, fun b hb => ?_, hbw.trans (b2.mono hbw.size), (b2.block _ hlx).trans HROW.out⟩
          rw [take_snoc es k _ HA.out] at hb
          rcases List.mem_append.1 hb with hb | hb
          · exact HK.out b hb
          · simpa using hb
        case measure => simp [intOf]; omega
      · have h0' : (a != 0) = true := by simpa using h0
        have HN := hideP h0
        clear h0
        go_wp2_with fail
        refine HCALL.out.mono ?_
        rintro e w2 ⟨rfl, b2⟩
        go_wp2
        go_ret
        exact ⟨by rw [firstE_at HA.out HK.out HN.out]; rfl, hbw.trans (b2.mono hbw.size)⟩
    · have hlt' : ¬ (k : Int) < (7 : Int) := by omega
      go_wp2
      go_ret
      refine ⟨?_, hbw⟩
      have h := HK.out
      rw [List.take_of_length_le (by rw [HES.out]; omega)] at h
      rw [firstE_zero.2 h]; rfl
end Go.Proofs.YtcadpoknolefpaaGreat


/- Programs that came in. -/
namespace Go.Proofs.YtcadpoknolefpaaGreat
open Go.ChangeShapes Go.WideShapes Go.ChangeAt Go.RowKit
set_option linter.unusedVariables false
set_option linter.unusedSimpArgs false
section
variable {H : Type} {enc : TypeId × Value → H} {W : World} {fuel : Nat} {x : DataW H × List MemPlace}
theorem block_of_cell {W : World} {b j : Nat} {v : Value} (h : W.cell? ⟨b, j, none⟩ = some v) : b < W.heap.size := by
  rcases Nat.lt_or_ge b W.heap.size with h' | h'
  · exact h'
  · simp [World.cell?, Array.getElem?_eq_none h'] at h
theorem cells_ops : Tryz.prog.cellsOf 76 = 1 := by kernel_rfl
theorem cells_ints : Tryz.prog.cellsOf 27 = 1 := by kernel_rfl
theorem cells_int : Tryz.prog.cellsOf 3 = 1 := by kernel_rfl
theorem cells_fns : Tryz.prog.cellsOf 22 = 1 := by kernel_rfl
theorem cells_fn : Tryz.prog.cellsOf 78 = 4 := by kernel_rfl
theorem cells_prog : Tryz.prog.cellsOf 24 = 1 := by kernel_rfl
instance : Inhabited Fn := ⟨(0, [], 0, [])⟩
instance : Inhabited FnV := ⟨(.int .i64 0, .int .i64 0, .int .i64 0, .int .i64 0)⟩
end
end Go.Proofs.YtcadpoknolefpaaGreat


/- Blocks that came in. -/
namespace Go.Proofs.YtcadpoknolefpaaGreat
open Go.ChangeShapes Go.WideShapes Go.ChangeAt Go.RowKit
set_option linter.unusedVariables false
set_option linter.unusedSimpArgs false
section
variable {H : Type} {enc : TypeId × Value → H} {W : World} {fuel : Nat} {x : DataW H × List MemPlace}
theorem weightsAll_mem {P : Program} {e : TypeId} : ∀ {ds : List (DataW H)} {d : DataW H}, d ∈ ds → ∀ n ∈ d.weights P e, n ∈ DataW.weightsAll P e ds
  | [], _, h, _, _ => by simp at h
  | d0 :: r, d, h, n, hn => by
    simp only [DataW.weightsAll, List.mem_append]
    rcases List.mem_cons.1 h with rfl | h
    · exact .inl hn
    · exact .inr (weightsAll_mem h n hn)
theorem bytes_int : Tryz.prog.bytesOf 3 = 8 := by kernel_rfl
theorem open_intsN {c : Value} (h : DataW.trod enc Tryz.prog W 0 (fun _ => true) true fuel 27 [c] = some x) (hs : ∀ n ∈ x.1.weights Tryz.prog 27, n ≤ reachBytes) : ∃ l : List Int, IntsAt W c l ∧ NilOk c ∧ l.length ≤ 17592186044416 ∧ ∃ p n cap, c = .slice p n cap ∧ n ≤ cap := by
  rcases Deep.open_slice1 Tryz.underlying27 cells_int h with ⟨hcs, hx⟩ | ⟨a, len', cap', m, n, V, D, Pl, hcs, hb, hl, hm, hmm, hx, hc⟩
  · simp at hcs
    subst hcs
    exact ⟨[], ⟨none, 0, rfl, Nat.zero_le _, fun k o hk => by simp at hk⟩, nilOk_nil, by simp, none, 0, 0, rfl, Nat.le_refl _⟩
  · simp at hcs
    subst hcs
    simp only [if_true] at hmm
    subst hmm
    have hlen : len' ≤ 17592186044416 := by
      have h1 := hs ((((List.range len').map D).length + ((List.range (m - len')).map fun j => D (len' + j)).length) * Tryz.prog.bytesOf 3) (by
        rw [hx]
        simp only [DataW.weights, Tryz.underlying27]
        exact List.mem_cons_self ..)
      rw [bytes_int] at h1
      simp [reachBytes] at h1
      omega
    refine ⟨(List.range len').map fun i => intOf (V i), ⟨some a, m, by simp, by simp; omega, fun k o hk => ?_⟩, nilOk_some _ _ _, by simpa using hlen, _, _, _, rfl, hl⟩
    have hk1 : k < len' := by have := lt_of_at' hk; simpa using this
    have ho : o = intOf (V k) := by simp [hk1] at hk; exact hk.symm
    obtain ⟨c0, t0⟩ := hc k (by omega)
    obtain ⟨y, e0, _, wx⟩ := DataW.trod_int Tryz.underlying3 t0
    simp at e0
    obtain ⟨b, off, spot⟩ := a
    have hs0 := (hc 0 (by omega)).1
    have hspot : spot = none := by simpa [Addr.add] using World.cell?_spot hs0
    subst hspot
    rw [add_at] at c0
    rw [e0] at c0
    exact ⟨b, off, rfl, block_of_cell c0, by rw [ho, e0]; exact c0⟩
theorem open_blksC {c : Value} (h : DataW.trod enc Tryz.prog W 0 (fun _ => true) true fuel 26 [c] = some x) (hs : ∀ n ∈ x.1.weights Tryz.prog 26, n ≤ reachBytes) : ∃ L : List (List Int), BlksAt W c L := by
  rcases Deep.open_slice Tryz.underlying26 h with ⟨hcs, hx⟩ | ⟨a, len', cap', m, n, D, Pl, hcs, hb, hl, hm, hmm, hx, hc⟩
  · simp at hcs
    subst hcs
    exact ⟨[], none, 0, rfl, Nat.zero_le _, fun k o hk => by simp at hk⟩
  · simp at hcs
    subst hcs
    simp only [if_true] at hmm
    subst hmm
    have each : ∀ i, i < len' → ∃ q : Value × List Int, W.cell? (a.add (i * 1)) = some q.1 ∧ IntsAt W q.1 q.2 ∧ NilOk q.1 ∧ q.2.length ≤ 17592186044416 := by
      intro i hi
      obtain ⟨cs', h1, h2⟩ := hc i (by omega)
      rw [cells_ints] at h1
      obtain ⟨_, hlen, hcell⟩ := World.cells?_some h1
      match cs', hlen with
      | [c0], _ =>
        obtain ⟨l, g1, g2, g3, _⟩ := open_intsN (x := (D i, Pl i)) h2 (fun n hn => hs n (by
          rw [hx]
          simp only [DataW.weights, Tryz.underlying26]
          refine List.mem_cons_of_mem _ (List.mem_append_left _ ?_)
          exact weightsAll_mem (List.mem_map.2 ⟨i, List.mem_range.2 hi, rfl⟩) n hn))
        have e0 := hcell 0 (by omega)
        rw [Deep.add_add] at e0
        exact ⟨(c0, l), by simpa using e0, g1, g2, g3⟩
    obtain ⟨q, hq⟩ := Deep.choose_lt each
    refine ⟨(List.range len').map fun i => (q i).2, some a, m, by simp, by simp; omega, fun k f hk => ?_⟩
    have hk1 : k < len' := by have := lt_of_at' hk; simpa using this
    have ho : f = (q k).2 := by simp [hk1] at hk; exact hk.symm
    obtain ⟨c0, c1, c2, c3⟩ := hq k hk1
    obtain ⟨b, off, spot⟩ := a
    have hs0 := (hq 0 (by omega)).1
    have hspot : spot = none := by simpa [Addr.add] using World.cell?_spot hs0
    subst hspot
    rw [add_at, Nat.mul_one] at c0
    exact ⟨b, off, _, rfl, block_of_cell c0, c0, by rw [ho]; exact c1, c2, by rw [ho]; exact c3⟩
end
end Go.Proofs.YtcadpoknolefpaaGreat


/- Programs that came in, whole: room, nil or not, lengths. -/
namespace Go.Proofs.YtcadpoknolefpaaGreat
open Go.ChangeShapes Go.WideShapes Go.ChangeAt Go.RowKit
set_option linter.unusedVariables false
set_option linter.unusedSimpArgs false
section
variable {H : Type} {enc : TypeId × Value → H} {W : World} {fuel : Nat} {x : DataW H × List MemPlace}
theorem bytes_op : Tryz.prog.bytesOf 43 = 16 := by kernel_rfl
theorem bytes_fn : Tryz.prog.bytesOf 78 = 64 := by kernel_rfl
theorem open_opsN {c : Value} (h : DataW.trod enc Tryz.prog W 0 (fun _ => true) true fuel 76 [c] = some x) (hs : ∀ n ∈ x.1.weights Tryz.prog 76, n ≤ reachBytes) : ∃ l : List (Int × Int), OpsAt W c l ∧ NilOk c ∧ l.length ≤ 8796093022208 := by
  rcases Deep.open_slice_pairs Tryz.underlying76 Tryz.underlying43 (by kernel_rfl) rfl rfl (by kernel_rfl) (by kernel_rfl) h with ⟨hcs, hx⟩ | ⟨a, len', cap', m, n, V0, V1, D0, D1, P0, P1, hcs, hb, hl, hm, hmm, hx, hc⟩
  · simp at hcs
    subst hcs
    exact ⟨[], ⟨none, 0, rfl, Nat.zero_le _, fun k o hk => by simp at hk⟩, nilOk_nil, by simp⟩
  · simp at hcs
    subst hcs
    simp only [if_true] at hmm
    subst hmm
    have hlen : len' ≤ 8796093022208 := by
      have hx1 := congrArg Prod.fst hx
      simp only at hx1
      rw [hx1] at hs
      simp only [DataW.weights, Tryz.underlying76] at hs
      have h1 := hs _ (List.mem_cons_self ..)
      rw [bytes_op] at h1
      simp [reachBytes] at h1
      omega
    refine ⟨(List.range len').map fun i => (intOf (V0 i), intOf (V1 i)), ⟨some a, m, by simp, by simp; omega, fun k o hk => ?_⟩, nilOk_some _ _ _, by simpa using hlen⟩
    have hk1 : k < len' := by have := lt_of_at' hk; simpa using this
    have ho : o = (intOf (V0 k), intOf (V1 k)) := by simp [hk1] at hk; exact hk.symm
    obtain ⟨c0, c1, t0, t1⟩ := hc k (by omega)
    obtain ⟨x, e0, _, wx⟩ := DataW.trod_int Tryz.underlying3 t0
    obtain ⟨y, e1, _, wy⟩ := DataW.trod_int Tryz.underlying3 t1
    simp at e0 e1
    obtain ⟨b, off, spot⟩ := a
    have hs0 := (hc 0 (by omega)).1
    have hspot : spot = none := by simpa [Addr.add] using World.cell?_spot hs0
    subst hspot
    rw [add_at] at c0 c1
    rw [e0] at c0
    rw [e1] at c1
    exact ⟨b, off, rfl, block_of_cell c0, by rw [ho, e0]; exact c0, by rw [ho, e1]; exact c1⟩
def FnFull (c1 c3 : Value) : Prop := NilOk c1 ∧ NilOk c3 ∧ (∃ p n cap, c1 = .slice p n cap ∧ n ≤ cap ∧ n ≤ 17592186044416) ∧ ∃ p n cap, c3 = .slice p n cap ∧ n ≤ 8796093022208
theorem open_fnN {c0 c1 c2 c3 : Value} (h : DataW.trod enc Tryz.prog W 0 (fun _ => true) true fuel 78 [c0, c1, c2, c3] = some x) (hs : ∀ n ∈ x.1.weights Tryz.prog 78, n ≤ reachBytes) : ∃ f : Fn, FnAt W c0 c1 c2 c3 f ∧ FnFull c1 c3 := by
  obtain ⟨y0, y1, y2, y3, n, hx, _, h0, h1, h2, h3⟩ := Go.Joins.trod_struct4 Tryz.underlying78 h
  simp [cells_int, cells_ints, cells_ops] at h0 h1 h2 h3
  have hx1 := congrArg Prod.fst hx
  simp only at hx1
  rw [hx1] at hs
  simp only [DataW.weights, Tryz.underlying78] at hs
  obtain ⟨P, e0, _⟩ := DataW.trod_int Tryz.underlying3 h0
  obtain ⟨R, e2, _⟩ := DataW.trod_int Tryz.underlying3 h2
  obtain ⟨L, hL, nL, zL, pL, qL, capL, eL, lL⟩ := open_intsN h1 (fun n hn => hs n (by simp [DataW.weightsEach, hn]))
  obtain ⟨C, hC, nC, zC⟩ := open_opsN h3 (fun n hn => hs n (by simp [DataW.weightsEach, hn]))
  simp at e0 e2
  have hLs : qL = L.length := by obtain ⟨_, _, e, _⟩ := hL; rw [eL] at e; cases e; rfl
  obtain ⟨pC, capC, eC, _, _⟩ := id hC
  exact ⟨(P, L, R, C), ⟨e0, hL, e2, hC⟩, nL, nC, ⟨pL, qL, capL, eL, lL, by rw [hLs]; exact zL⟩, ⟨pC, _, capC, eC, zC⟩⟩
structure ProgFull (W : World) (v : Value) (l : List Fn) : Prop where
  at_ : FnsAt W v l
  nil : NilOk v
  len : l.length ≤ 2199023255488
  each : ∀ (b off n cap k : Nat) (c1 c3 : Value), v = .slice (some ⟨b, off, none⟩) n cap → k < n → W.cell? ⟨b, off + k * 4 + 1, none⟩ = some c1 → W.cell? ⟨b, off + k * 4 + 3, none⟩ = some c3 → FnFull c1 c3
theorem ProgFull.cap {W : World} {v : Value} {l : List Fn} (h : ProgFull W v l) : CapAt W v := by
  intro b off n cap k p' n' c' hv hk hc
  obtain ⟨p, cap2, hv2, hm, hcc⟩ := h.at_
  rw [hv] at hv2
  cases hv2
  obtain ⟨f, hf⟩ := at_of_lt (l := l) hk
  obtain ⟨b2, off2, c0, c1, c2, c3, hp, hlt, _, _, _, g3, _⟩ := hcc k f hf
  cases hp
  obtain ⟨_, _, ⟨p1, n1, cap1, e1, h1, _⟩, _⟩ := h.each b off l.length cap k _ _ hv hk hc g3
  cases e1
  exact h1
theorem open_fnsD {c : Value} (h : DataW.trod enc Tryz.prog W 0 (fun _ => true) true fuel 22 [c] = some x) (hs : ∀ n ∈ x.1.weights Tryz.prog 22, n ≤ reachBytes) : ∃ l : List Fn, ProgFull W c l := by
  rcases Deep.open_slice Tryz.underlying22 h with ⟨hcs, hx⟩ | ⟨a, len', cap', m, n, D, Pl, hcs, hb, hl, hm, hmm, hx, hc⟩
  · simp at hcs
    subst hcs
    exact ⟨[], ⟨none, 0, rfl, Nat.zero_le _, fun k o hk => by simp at hk⟩, nilOk_nil, by simp, fun b off n cap k c1 c3 hv => by cases hv⟩
  · simp at hcs
    subst hcs
    simp only [if_true] at hmm
    subst hmm
    rw [hx] at hs
    simp only [DataW.weights, Tryz.underlying22] at hs
    have hlen : len' ≤ 2199023255488 := by
      have h1 := hs _ (List.mem_cons_self ..)
      rw [bytes_fn] at h1
      simp [reachBytes] at h1
      omega
    have each : ∀ i, i < len' → ∃ q : FnV × Fn, W.cell? (a.add (i * 4)) = some q.1.1 ∧ W.cell? (a.add (i * 4 + 1)) = some q.1.2.1 ∧ W.cell? (a.add (i * 4 + 2)) = some q.1.2.2.1 ∧ W.cell? (a.add (i * 4 + 3)) = some q.1.2.2.2 ∧ FnAt W q.1.1 q.1.2.1 q.1.2.2.1 q.1.2.2.2 q.2 ∧ FnFull q.1.2.1 q.1.2.2.2 := by
      intro i hi
      obtain ⟨cs', h1, h2⟩ := hc i (by omega)
      rw [cells_fn] at h1
      obtain ⟨_, hlen, hcell⟩ := World.cells?_some h1
      match cs', hlen with
      | [c0, c1, c2, c3], _ =>
        obtain ⟨f, hf, hff⟩ := open_fnN (x := (D i, Pl i)) h2 (fun n hn => hs n (List.mem_cons_of_mem _ (List.mem_append_left _ (weightsAll_mem (List.mem_map.2 ⟨i, List.mem_range.2 hi, rfl⟩) n hn))))
        have e0 := hcell 0 (by omega)
        have e1 := hcell 1 (by omega)
        have e2 := hcell 2 (by omega)
        have e3 := hcell 3 (by omega)
        rw [Deep.add_add] at e0 e1 e2 e3
        exact ⟨((c0, c1, c2, c3), f), by simpa using e0, by simpa using e1, by simpa using e2, by simpa using e3, hf, hff⟩
    obtain ⟨q, hq⟩ := Deep.choose_lt each
    obtain ⟨b, off, spot⟩ := a
    refine ⟨(List.range len').map fun i => (q i).2, ⟨some ⟨b, off, spot⟩, m, by simp, by simp; omega, fun k f hk => ?_⟩, nilOk_some _ _ _, by simpa using hlen, ?_⟩
    · have hk1 : k < len' := by have := lt_of_at' hk; simpa using this
      have ho : f = (q k).2 := by simp [hk1] at hk; exact hk.symm
      obtain ⟨c0, c1, c2, c3, hf, _⟩ := hq k hk1
      have hs0 := (hq 0 (by omega)).1
      have hspot : spot = none := by simpa [Addr.add] using World.cell?_spot hs0
      subst hspot
      rw [add_at] at c0 c1 c2 c3
      exact ⟨b, off, _, _, _, _, rfl, block_of_cell c0, c0, c1, c2, c3, by rw [ho]; exact hf⟩
    · intro b' off' n' cap' k c1 c3 hv hk g1 g3
      cases hv
      obtain ⟨_, d1, _, d3, _, hff⟩ := hq k hk
      rw [add_at] at d1 d3
      rw [show off + (k * 4 + 1) = off + k * 4 + 1 by omega, g1] at d1
      rw [show off + (k * 4 + 3) = off + k * 4 + 3 by omega, g3] at d3
      cases d1
      cases d3
      exact hff
set_option maxRecDepth 100000 in
theorem open_progC {base : Nat} {r : Reach} {v : Value} {d : DataW H} {p : List MemPlace} (hv : Value.okWide Tryz.prog W r base 24 v) (h : DataW.Trod enc Tryz.prog W 0 (fun _ => true) true 24 v d p) (hs : ∀ n ∈ d.weights Tryz.prog 24, n ≤ reachBytes) :
    ∃ (c : Value) (l : List Fn), v = .agg #[c] ∧ ProgFull W c l := by
  obtain ⟨cs, rfl, hsz⟩ := okWide_struct Tryz.underlying24 hv
  rw [cells_prog] at hsz
  obtain ⟨cs⟩ := cs
  match cs, hsz with
  | [c], _ =>
    obtain ⟨fuel, hf⟩ := h
    obtain ⟨y0, n, hx, _, h0⟩ := trod_struct1 Tryz.underlying24 hf
    simp [cells_fns, Value.cells] at h0
    have hx1 := congrArg Prod.fst hx
    simp only at hx1
    rw [hx1] at hs
    simp only [DataW.weights, Tryz.underlying24] at hs
    obtain ⟨l, hl⟩ := open_fnsD h0 (fun n hn => hs n (by simp [DataW.weightsEach, hn]))
    exact ⟨c, l, rfl, hl⟩
end
end Go.Proofs.YtcadpoknolefpaaGreat


/- Machines that came in. -/
namespace Go.Proofs.YtcadpoknolefpaaGreat
open Go.ChangeShapes Go.WideShapes Go.ChangeAt Go.RowKit
set_option linter.unusedVariables false
set_option linter.unusedSimpArgs false
section
variable {H : Type} {enc : TypeId × Value → H} {W : World} {fuel : Nat} {x : DataW H × List MemPlace}
theorem bytes_val : Tryz.prog.bytesOf 50 = 16 := by kernel_rfl
theorem bytes_frm : Tryz.prog.bytesOf 48 = 64 := by kernel_rfl
theorem cells_vals : Tryz.prog.cellsOf 46 = 1 := by kernel_rfl
theorem cells_frm : Tryz.prog.cellsOf 48 = 4 := by kernel_rfl
theorem cells_frms : Tryz.prog.cellsOf 25 = 1 := by kernel_rfl
theorem cells_blks : Tryz.prog.cellsOf 26 = 1 := by kernel_rfl
theorem cells_mach : Tryz.prog.cellsOf 29 = 6 := by kernel_rfl
def boolOf : Value → Bool
  | .bool b => b
  | _ => false
theorem open_valsN {c : Value} (h : DataW.trod enc Tryz.prog W 0 (fun _ => true) true fuel 46 [c] = some x) (hs : ∀ n ∈ x.1.weights Tryz.prog 46, n ≤ reachBytes) : ∃ l : List Val, ValsAt W c l ∧ NilOk c ∧ l.length ≤ 8796093022208 := by
  rcases Deep.open_slice_pairs Tryz.underlying46 Tryz.underlying50 (by kernel_rfl) rfl rfl (by kernel_rfl) (by kernel_rfl) h with ⟨hcs, hx⟩ | ⟨a, len', cap', m, n, V0, V1, D0, D1, P0, P1, hcs, hb, hl, hm, hmm, hx, hc⟩
  · simp at hcs
    subst hcs
    exact ⟨[], ⟨none, 0, rfl, Nat.zero_le _, fun k o hk => by simp at hk⟩, nilOk_nil, by simp⟩
  · simp at hcs
    subst hcs
    simp only [if_true] at hmm
    subst hmm
    have hlen : len' ≤ 8796093022208 := by
      have hx1 := congrArg Prod.fst hx
      simp only at hx1
      rw [hx1] at hs
      simp only [DataW.weights, Tryz.underlying46] at hs
      have h1 := hs _ (List.mem_cons_self ..)
      rw [bytes_val] at h1
      simp [reachBytes] at h1
      omega
    refine ⟨(List.range len').map fun i => (boolOf (V0 i), intOf (V1 i)), ⟨some a, m, by simp, by simp; omega, fun k o hk => ?_⟩, nilOk_some _ _ _, by simpa using hlen⟩
    have hk1 : k < len' := by have := lt_of_at' hk; simpa using this
    have ho : o = (boolOf (V0 k), intOf (V1 k)) := by simp [hk1] at hk; exact hk.symm
    obtain ⟨c0, c1, t0, t1⟩ := hc k (by omega)
    obtain ⟨x, e0, _⟩ := DataW.trod_bool Tryz.underlying4 t0
    obtain ⟨y, e1, _, wy⟩ := DataW.trod_int Tryz.underlying3 t1
    simp at e0 e1
    obtain ⟨b, off, spot⟩ := a
    have hs0 := (hc 0 (by omega)).1
    have hspot : spot = none := by simpa [Addr.add] using World.cell?_spot hs0
    subst hspot
    rw [add_at] at c0 c1
    rw [e0] at c0
    rw [e1] at c1
    exact ⟨b, off, rfl, block_of_cell c0, by rw [ho, e0]; exact c0, by rw [ho, e1]; exact c1⟩
instance : Inhabited Frm := ⟨⟨0, 0, [], []⟩⟩
theorem open_frmN {c0 c1 c2 c3 : Value} (h : DataW.trod enc Tryz.prog W 0 (fun _ => true) true fuel 48 [c0, c1, c2, c3] = some x) (hs : ∀ n ∈ x.1.weights Tryz.prog 48, n ≤ reachBytes) : ∃ f : Frm, c0 = .int .i64 f.fn ∧ c1 = .int .i64 f.pc ∧ ValsAt W c2 f.loc ∧ NilOk c2 ∧ ValsAt W c3 f.stk ∧ NilOk c3 ∧ f.loc.length ≤ 8796093022208 ∧ f.stk.length ≤ 8796093022208 ∧ -9223372036854775808 ≤ f.pc ∧ f.pc ≤ 9223372036854775807 := by
  obtain ⟨y0, y1, y2, y3, n, hx, _, h0, h1, h2, h3⟩ := Go.Joins.trod_struct4 Tryz.underlying48 h
  simp [cells_int, cells_vals] at h0 h1 h2 h3
  have hx1 := congrArg Prod.fst hx
  simp only at hx1
  rw [hx1] at hs
  simp only [DataW.weights, Tryz.underlying48] at hs
  obtain ⟨P, e0, _⟩ := DataW.trod_int Tryz.underlying3 h0
  obtain ⟨R, e1, _, wR⟩ := DataW.trod_int Tryz.underlying3 h1
  have hR : -9223372036854775808 ≤ R ∧ R ≤ 9223372036854775807 := by simpa [Lit.wf, IntKind.min, IntKind.max, IntKind.bits, IntKind.signed] using wR
  obtain ⟨L, hL, nL, zL⟩ := open_valsN h2 (fun n hn => hs n (by simp [DataW.weightsEach, hn]))
  obtain ⟨C, hC, nC, zC⟩ := open_valsN h3 (fun n hn => hs n (by simp [DataW.weightsEach, hn]))
  simp at e0 e1
  exact ⟨⟨P, R, L, C⟩, e0, e1, hL, nL, hC, nC, zL, zC, hR.1, hR.2⟩
def FrmsLong (F : List Frm) : Prop := F.length ≤ 2199023255488 ∧ ∀ x ∈ F, x.loc.length ≤ 8796093022208 ∧ x.stk.length ≤ 8796093022208 ∧ -9223372036854775808 ≤ x.pc ∧ x.pc ≤ 9223372036854775807
theorem open_frmsC {c : Value} (h : DataW.trod enc Tryz.prog W 0 (fun _ => true) true fuel 25 [c] = some x) (hs : ∀ n ∈ x.1.weights Tryz.prog 25, n ≤ reachBytes) : ∃ F : List Frm, FrmsAt W c F ∧ NilOk c ∧ FrmsLong F := by
  rcases Deep.open_slice Tryz.underlying25 h with ⟨hcs, hx⟩ | ⟨a, len', cap', m, n, D, Pl, hcs, hb, hl, hm, hmm, hx, hc⟩
  · simp at hcs
    subst hcs
    exact ⟨[], ⟨none, 0, rfl, Nat.zero_le _, Nat.zero_le _, fun k o hk => by simp at hk⟩, nilOk_nil, by simp [FrmsLong]⟩
  · simp at hcs
    subst hcs
    simp only [if_true] at hmm
    subst hmm
    rw [hx] at hs
    simp only [DataW.weights, Tryz.underlying25] at hs
    have hlen : len' ≤ 2199023255488 := by
      have h1 := hs _ (List.mem_cons_self ..)
      rw [bytes_frm] at h1
      simp [reachBytes] at h1
      omega
    have each : ∀ i, i < len' → ∃ q : (Value × Value) × Frm, W.cell? (a.add (i * 4)) = some (.int .i64 q.2.fn) ∧ W.cell? (a.add (i * 4 + 1)) = some (.int .i64 q.2.pc) ∧ W.cell? (a.add (i * 4 + 2)) = some q.1.1 ∧ W.cell? (a.add (i * 4 + 3)) = some q.1.2 ∧ ValsAt W q.1.1 q.2.loc ∧ NilOk q.1.1 ∧ ValsAt W q.1.2 q.2.stk ∧ NilOk q.1.2 ∧ q.2.loc.length ≤ 8796093022208 ∧ q.2.stk.length ≤ 8796093022208 ∧ -9223372036854775808 ≤ q.2.pc ∧ q.2.pc ≤ 9223372036854775807 := by
      intro i hi
      obtain ⟨cs', h1, h2⟩ := hc i (by omega)
      rw [cells_frm] at h1
      obtain ⟨_, hlen, hcell⟩ := World.cells?_some h1
      match cs', hlen with
      | [c0, c1, c2, c3], _ =>
        obtain ⟨f, rfl, rfl, g2, g3, g4, g5, g6, g7⟩ := open_frmN (x := (D i, Pl i)) h2 (fun n hn => hs n (List.mem_cons_of_mem _ (List.mem_append_left _ (weightsAll_mem (List.mem_map.2 ⟨i, List.mem_range.2 hi, rfl⟩) n hn))))
        have e0 := hcell 0 (by omega)
        have e1 := hcell 1 (by omega)
        have e2 := hcell 2 (by omega)
        have e3 := hcell 3 (by omega)
        rw [Deep.add_add] at e0 e1 e2 e3
        exact ⟨((c2, c3), f), by simpa using e0, by simpa using e1, by simpa using e2, by simpa using e3, g2, g3, g4, g5, g6, g7⟩
    obtain ⟨q, hq⟩ := Deep.choose_lt each
    refine ⟨(List.range len').map fun i => (q i).2, ⟨some a, m, by simp, by simp; omega, by simpa using hl, fun k f hk => ?_⟩, nilOk_some _ _ _, by simpa using hlen, fun f hf => ?_⟩
    · have hk1 : k < len' := by have := lt_of_at' hk; simpa using this
      have ho : f = (q k).2 := by simp [hk1] at hk; exact hk.symm
      obtain ⟨c0, c1, c2, c3, f1, f2, f3, f4, _⟩ := hq k (by omega)
      obtain ⟨b, off, spot⟩ := a
      have hs0 := (hq 0 (by omega)).1
      have hspot : spot = none := by simpa [Addr.add] using World.cell?_spot hs0
      subst hspot
      rw [add_at] at c0 c1 c2 c3
      rw [ho]
      exact ⟨b, off, _, _, rfl, block_of_cell c0, c0, c1, c2, c3, f1, f2, f3, f4⟩
    · obtain ⟨i, hi, rfl⟩ := List.mem_map.1 hf
      obtain ⟨_, _, _, _, _, _, _, _, g6, g7⟩ := hq i (List.mem_range.1 hi)
      exact ⟨g6, g7⟩
structure MachLong (M : Mach) : Prop where
  fr : FrmsLong M.frames
  inp : M.inp.length ≤ 17592186044416
  out : M.out.length ≤ 17592186044416
theorem open_fullInts {c : Value} (h : DataW.trod enc Tryz.prog W 0 (fun _ => true) true fuel 27 [c] = some x) (hs : ∀ n ∈ x.1.weights Tryz.prog 27, n ≤ reachBytes) : ∃ l : List Int, FullInts W c l ∧ l.length ≤ 17592186044416 := by
  obtain ⟨L, hL, nL, zL, pL, qL, capL, eL, lL⟩ := open_intsN h hs
  refine ⟨L, ⟨hL, nL, fun p n c e => ?_⟩, zL⟩
  rw [eL] at e
  cases e
  exact lL
set_option maxRecDepth 100000 in
theorem open_machV {base : Nat} {r : Reach} {v : Value} {d : DataW H} {p : List MemPlace} (hv : Value.okWide Tryz.prog W r base 29 v) (h : DataW.Trod enc Tryz.prog W 0 (fun _ => true) true 29 v d p) (hs : ∀ n ∈ d.weights Tryz.prog 29, n ≤ reachBytes) :
    ∃ (fv bv iv ov : Value) (M : Mach), v = .agg #[fv, bv, iv, ov, .int .i64 M.status, .int .i64 M.trap] ∧ MachAt W fv bv iv ov M ∧ MachLong M := by
  obtain ⟨cs, rfl, hsz⟩ := okWide_struct Tryz.underlying29 hv
  rw [cells_mach] at hsz
  obtain ⟨cs⟩ := cs
  match cs, hsz with
  | [c0, c1, c2, c3, c4, c5], _ =>
    obtain ⟨fuel, hf⟩ := h
    obtain ⟨xs, n, _, hx, hl, hlen, hg⟩ := DataW.trod_struct Tryz.underlying29 hf
    match xs, hlen with
    | [y0, y1, y2, y3, y4, y5], _ =>
      have h0 := hg 0 _ rfl
      have h1 := hg 1 _ rfl
      have h2 := hg 2 _ rfl
      have h3 := hg 3 _ rfl
      have h4 := hg 4 _ rfl
      have h5 := hg 5 _ rfl
      simp [cells_frms, cells_blks, cells_ints, cells_int, Value.cells] at h0 h1 h2 h3 h4 h5
      have hx1 := congrArg Prod.fst hx
      simp only at hx1
      rw [hx1] at hs
      simp only [DataW.weights, Tryz.underlying29] at hs
      obtain ⟨F, hF, nF, zF⟩ := open_frmsC h0 (fun n hn => hs n (by simp [DataW.weightsEach, hn]))
      obtain ⟨B, hB⟩ := open_blksC h1 (fun n hn => hs n (by simp [DataW.weightsEach, hn]))
      obtain ⟨I, hI, zI⟩ := open_fullInts h2 (fun n hn => hs n (by simp [DataW.weightsEach, hn]))
      obtain ⟨O, hO, zO⟩ := open_fullInts h3 (fun n hn => hs n (by simp [DataW.weightsEach, hn]))
      obtain ⟨st, e4, _⟩ := DataW.trod_int Tryz.underlying3 h4
      obtain ⟨tr, e5, _⟩ := DataW.trod_int Tryz.underlying3 h5
      simp at e4 e5
      subst e4 e5
      exact ⟨c0, c1, c2, c3, ⟨F, B, I, O, st, tr⟩, rfl, ⟨hF, hB, hI, hO⟩, zF, zI, zO⟩
end
end Go.Proofs.YtcadpoknolefpaaGreat


/- machine's checker: all frames, one that waits; Check. -/
namespace Go.Proofs.YtcadpoknolefpaaGreat
open Go.RowKit
set_option linter.unusedSimpArgs false
set_option linter.unusedVariables false
def PcOk (M : Mach) : Prop := ∀ x ∈ M.frames, -9223372036854775808 ≤ x.pc ∧ x.pc ≤ 9223372036854775807
theorem framesErr_at {p : List Fn} {e : Nat → Nat → Option (List Int)} {nb k kk : Nat} {F : List Frm} {x : Frm} {f : Fn} (hx : F[k]? = some x) (hk : x.fn = (kk : Int)) (hf : p[kk]? = some f) : framesErr p e nb (F.drop k) = if fitErr p e nb ((F[k + 1]?).map Frm.fn) x kk f ≠ 0 then fitErr p e nb ((F[k + 1]?).map Frm.fn) x kk f else framesErr p e nb (F.drop (k + 1)) := by
  have hd : F.drop k = x :: F.drop (k + 1) := by
    rw [List.drop_eq_getElem_cons (lt_of_at hx)]
    congr 1
    exact Option.some.inj ((List.getElem?_eq_getElem (lt_of_at hx)).symm.trans hx)
  rw [hd]
  have hkt : x.fn.toNat = kk := by omega
  simp only [framesErr]
  rw [hkt, hf]
  simp only
  have hh : (F.drop (k + 1)).head?.map Frm.fn = (F[k + 1]?).map Frm.fn := by rw [List.head?_drop]
  rw [hh]
set_option maxRecDepth 100000 in
set_option maxHeartbeats 4000000 in
theorem ckFrames_any (M : Mach) (p : List Fn) (e : Nat → Nat → Option (List Int)) (pv fv bv iv ov : Value) (w : World) (hp : progErr p = 0) (he : AllFit p e) (h : CkAt w p pv fv bv iv ov M) (hall : M.frames.all (inProg p) = true) (h6 : M.frames.length ≤ 6) (hpc : PcOk M) : Calls Tryz.prog 101 #[chkV pv fv bv iv ov M] w (Says (framesErr p e M.blocks.length M.frames) w) := by
  obtain ⟨⟨pp, qp, hpv⟩, ⟨pf, cf, hfv⟩, ⟨pb, cb, hbv⟩, ⟨pi, ci, hiv⟩, ⟨po, co, hov⟩⟩ := h.shp
  subst hpv hfv hbv hiv hov
  obtain ⟨W1, hW1⟩ : ∃ W1, w.alloc (.cells #[.slice pf M.frames.length cf, .slice pb M.blocks.length cb, .slice pi M.inp.length ci, .slice po M.out.length co, .int .i64 M.status, .int .i64 M.trap, .slice pp p.length qp] 88) = W1 := ⟨_, rfl⟩
  have b1 : Below w.heap.size w W1 := by rw [← hW1]; exact (Below.refl _ w).alloc (Nat.le_refl _) _
  have u1 : W1.heap[w.heap.size]? = some (.cells #[.slice pf M.frames.length cf, .slice pb M.blocks.length cb, .slice pi M.inp.length ci, .slice po M.out.length co, .int .i64 M.status, .int .i64 M.trap, .slice pp p.length qp] 88 (0, 0)) := by rw [← hW1]; exact World.alloc_heap_new w _
  have l1 := heap_lt u1
  have a0 : W1.cell? ⟨w.heap.size, 0, none⟩ = some (.slice pf M.frames.length cf) := cell_at' u1 0
  have KC : Hid (∀ W, Below W1.heap.size W1 W → W.cell? ⟨w.heap.size, 0, none⟩ = some (.slice pf M.frames.length cf) ∧ W.cell? ⟨w.heap.size, 1, none⟩ = some (.slice pb M.blocks.length cb) ∧ W.cell? ⟨w.heap.size, 2, none⟩ = some (.slice pi M.inp.length ci) ∧ W.cell? ⟨w.heap.size, 3, none⟩ = some (.slice po M.out.length co) ∧ W.cell? ⟨w.heap.size, 4, none⟩ = some (.int .i64 M.status) ∧ W.cell? ⟨w.heap.size, 5, none⟩ = some (.int .i64 M.trap) ∧ W.cell? ⟨w.heap.size, 6, none⟩ = some (.slice pp p.length qp)) := fun W hW => by
    have hu := (hW.block _ l1).trans u1
    exact ⟨cell_at' hu 0, cell_at' hu 1, cell_at' hu 2, cell_at' hu 3, cell_at' hu 4, cell_at' hu 5, cell_at' hu 6⟩
  have HH := hideP h
  have HALL := hideP hall
  have HPC := hideP hpc
  have HP := hideP hp
  have HE := hideP he
  clear h hall hpc hp he u1
  go_enter Tryz.func101, Tryz.ntmps101
  go_wp2
  go_loopw [3, 9] (fun _ i wr => ∃ k : Nat, k ≤ M.frames.length ∧ i = .int .i64 k ∧ framesErr p e M.blocks.length M.frames = framesErr p e M.blocks.length (M.frames.drop k) ∧ Below W1.heap.size W1 wr) (fun _ i _ => M.frames.length - (intOf i).toNat)
  case atStart => exact ⟨0, Nat.zero_le _, rfl, by simp, Below.refl _ _⟩
  case round =>
    obtain ⟨k, hk, rfl, hfe, hbw⟩ := hrel
    have HFE := hideP hfe
    clear hfe
    by_cases hlt : k < M.frames.length
    · obtain ⟨x, hx⟩ := at_of_lt hlt
      obtain ⟨kk, f, hkk, hf⟩ := progFn (List.all_eq_true.1 HALL.out x (List.mem_of_getElem? hx))
      have hpcx := HPC.out x (List.mem_of_getElem? hx)
      have hbw1 := b1.trans (hbw.mono b1.size)
      obtain ⟨q0, q1, q2, q3, q4, q5, q6⟩ := KC.out wr hbw
      have HC := hideP (fits_any M p e _ _ _ _ _ k kk x f wr HP.out HE.out (HH.out.below hbw1) HALL.out hx hf hkk h6 hpcx.1 hpcx.2)
      have HAT := hideP (framesErr_at (e := e) (nb := M.blocks.length) hx hkk hf)
      have hlti : (k : Int) < (M.frames.length : Int) := by omega
      generalize fitErr p e M.blocks.length ((M.frames[k + 1]?).map Frm.fn) x kk f = a at HC HAT
      clear hx hkk hf hpcx
      by_cases h0 : a = 0
      · subst h0
        go_wp2_with fail
        refine HC.out.mono ?_
        rintro e' w2 ⟨rfl, b2⟩
        go_wp2
        go_roundw
        case rel => exact ⟨k + 1, by omega, by go_num, by rw [HFE.out, HAT.out, if_neg (by simp)], hbw.trans (b2.mono hbw.size)⟩
        case measure => simp [intOf]; omega
      · have h0' : (a != 0) = true := by simpa using h0
        have HN := hideP h0
        clear h0
        go_wp2_with fail
        refine HC.out.mono ?_
        rintro e' w2 ⟨rfl, b2⟩
        go_wp2
        go_ret
        exact ⟨by rw [HFE.out, HAT.out, if_pos HN.out]; rfl, hbw1.trans (b2.mono hbw1.size)⟩
    · have hlt' : ¬ (k : Int) < (M.frames.length : Int) := by omega
      go_wp2
      go_ret
      refine ⟨?_, b1.trans (hbw.mono b1.size)⟩
      rw [HFE.out, List.drop_of_length_le (by omega)]
      rfl
set_option maxRecDepth 100000 in
set_option maxHeartbeats 4000000 in
theorem ckWaiting_any (M : Mach) (p : List Fn) (pv fv bv iv ov : Value) (w : World) (h : CkAt w p pv fv bv iv ov M) (hpl : p.length ≤ 1000) (h6 : M.frames.length ≤ 1000) (hi10 : M.inp.length ≤ 1000)
    (hw : M.status = 1 → ∃ (x : Frm) (kk pc : Nat) (f : Fn) (o : Int × Int), M.frames.getLast? = some x ∧ x.fn = (kk : Int) ∧ p[kk]? = some f ∧ x.pc = (pc : Int) ∧ f.2.2.2[pc]? = some o ∧ f.2.2.2.length ≤ 1000) : Calls Tryz.prog 102 #[chkV pv fv bv iv ov M] w (Says (waitErr p M) w) := by
  obtain ⟨⟨pp, qp, hpv⟩, -, ⟨pb, cb, hbv⟩, ⟨pi, ci, hiv⟩, ⟨po, co, hov⟩⟩ := h.shp
  obtain ⟨pf, cf, hfv, hfm, -, hfc⟩ := id h.mach.fr
  subst hpv hfv hbv hiv hov
  by_cases h1 : M.status = 1
  rotate_left
  · have h1' : (M.status != 1) = true := by simpa using h1
    have HN := hideP h1
    clear h1 hw hfc h
    go_enter Tryz.func102, Tryz.ntmps102
    go_wp2
    go_ret
    exact says_box (by unfold waitErr; rw [if_pos HN.out])
  obtain ⟨x, kk, pc, f, o, hx, hkk, hf, hxp, ho, hcl⟩ := hw h1
  obtain ⟨c, A⟩ := o
  have hlo : lastOp p M = some (c, A) := by
    unfold lastOp
    rw [hx]
    simp only [Option.bind_some, show x.fn.toNat = kk by omega, hf, show x.pc.toNat = pc by omega, ho]
  have h1' : (M.status != 1) = false := by simpa using h1
  have hwe : waitErr p M = if c ≠ 21 ∨ 0 < M.inp.length then 4 else 0 := by
    unfold waitErr
    rw [if_neg (by simpa using h1), hlo]
  obtain ⟨n, hn⟩ : ∃ n, M.frames.length = n + 1 := by
    cases hm : M.frames with
    | nil => rw [hm] at hx; simp at hx
    | cons a r => exact ⟨r.length, by simp⟩
  have hxn : M.frames[n]? = some x := by rw [← hx, List.getLast?_eq_getElem?, hn]; rfl
  obtain ⟨g, off, lv1, sv1, rfl, hg, x0, x1, x2, x3, hL, -, hS, -⟩ := hfc n x hxn
  obtain ⟨pl1, cl1, hlv1, hlm1, -⟩ := id hL
  obtain ⟨ps1, cs1, hsv1, hsm1, -⟩ := id hS
  subst hlv1 hsv1
  obtain ⟨pp', qp', hpe, -, hpc⟩ := id h.fns
  cases hpe
  obtain ⟨fb, fo, c0, c1, c2, c3, hpp, hplt, -, -, -, z3, hfn⟩ := hpc kk f hf
  subst hpp
  obtain ⟨-, -, -, hops⟩ := hfn
  obtain ⟨p3, q3, he3, -, hoc⟩ := id hops
  subst he3
  obtain ⟨ob, oo, hob, holt, o0, o1⟩ := hoc pc _ ho
  subst hob
  simp only at o0
  have hkl := lt_of_at hf
  have hpl' := lt_of_at ho
  have hkli : (kk : Int) < (p.length : Int) := by omega
  have hpcli : (pc : Int) < (f.2.2.2.length : Int) := by omega
  rw [hkk] at x0
  rw [hxp] at x1
  have x0a := fun o => cell_old x0 o
  have x1a := fun o => cell_old x1 o
  have x2a := fun o => cell_old x2 o
  have x3a := fun o => cell_old x3 o
  have z3b := fun o o' => cell_old (cell_old z3 o) o'
  have o0b := fun o o' => cell_old (cell_old o0 o) o'
  rw [hn]
  have hnlt : (n : Int) < ((n + 1 : Nat) : Int) := by omega
  have hn6 : n ≤ 1000 := by omega
  have hb2 : ∀ o o', Below w.heap.size w ((w.alloc o).alloc o') := fun o o' => ((Below.refl _ w).alloc (Nat.le_refl _) _).alloc (by simp) _
  have HWE := hideP hwe
  have HST := hideP h1
  clear hw h hx hkk hf hxp ho hlo hwe hn hxn hfc hpc hoc hops hL hS x0 x1 x2 x3 h1
  by_cases hc : c = 21
  · have hc' : (c != 21) = false := by simpa using hc
    have HC := hideP hc
    clear hc
    by_cases hi : 0 < M.inp.length
    · have hi' : (0 : Int) < (M.inp.length : Int) := by omega
      have hid : decide ((M.inp.length : Int) > 0) = true := by simpa using hi'
      go_enter Tryz.func102, Tryz.ntmps102
      go_wp2
      go_quiet (fail)
      go_wp2
      go_ret
      exact ⟨by rw [HWE.out, if_pos (.inr hi)]; rfl, below_drewN (hb2 _ _) _⟩
    · have hi' : ¬ (0 : Int) < (M.inp.length : Int) := by omega
      have hid : decide ((M.inp.length : Int) > 0) = false := by simpa using hi'
      go_enter Tryz.func102, Tryz.ntmps102
      go_wp2
      go_quiet (fail)
      go_wp2
      go_ret
      exact ⟨by rw [HWE.out, if_neg (by have := HC.out; omega)]; rfl, below_drewN (hb2 _ _) _⟩
  · have hc' : (c != 21) = true := by simpa using hc
    have HC := hideP hc
    clear hc
    go_enter Tryz.func102, Tryz.ntmps102
    go_wp2
    go_quiet (fail)
    go_wp2
    go_ret
    exact ⟨by rw [HWE.out, if_pos (.inl HC.out)]; rfl, below_drewN (hb2 _ _) _⟩
end Go.Proofs.YtcadpoknolefpaaGreat


/- machine.Check. -/
namespace Go.Proofs.YtcadpoknolefpaaGreat
open Go.RowKit
set_option linter.unusedSimpArgs false
set_option linter.unusedVariables false
theorem funcsErr_all {p : List Fn} {M : Mach} (h : funcsErr p M = 0) : M.frames.all (inProg p) = true := by
  unfold funcsErr at h
  split at h
  · cases h
  · rename_i a; simpa using a
theorem depthErr_zero {M : Mach} (h : depthErr M = 0) : M.frames.length ≤ 6 ∧ (M.frames.length = 0 → M.status = 2) := by
  unfold depthErr at h
  split at h
  · cases h
  split at h
  · cases h
  · omega
theorem boxErr_zero {M : Mach} (h : boxErr M = 0) : M.inp.length ≤ 10 := by
  unfold boxErr at h
  split at h
  · cases h
  · omega
set_option maxRecDepth 100000 in
theorem ckAll_any (M : Mach) (p : List Fn) (e : Nat → Nat → Option (List Int)) (pv fv bv iv ov : Value) (w : World) (hp : progErr p = 0) (he : AllFit p e) (h : CkAt w p pv fv bv iv ov M) (hpc : PcOk M) : Calls Tryz.prog 61 #[chkV pv fv bv iv ov M] w (Says (machErr p e M) w) := by
  obtain ⟨⟨pp, qp, hpv⟩, ⟨pf, cf, hfv⟩, ⟨pb, cb, hbv⟩, ⟨pi, ci, hiv⟩, ⟨po, co, hov⟩⟩ := h.shp
  have s1 : ∃ q n c, pv = .slice q n c := ⟨_, _, _, hpv⟩
  have s2 : ∃ q n c, fv = .slice q n c := ⟨_, _, _, hfv⟩
  have s3 : ∃ q n c, bv = .slice q n c := ⟨_, _, _, hbv⟩
  have s4 : ∃ q n c, iv = .slice q n c := ⟨_, _, _, hiv⟩
  have s5 : ∃ q n c, ov = .slice q n c := ⟨_, _, _, hov⟩
  refine check_gen M pv fv bv iv ov [stErr M, blkErr M.blocks, boxErr M, depthErr M, funcsErr p M, framesErr p e M.blocks.length M.frames, waitErr p M] w s1 s2 s3 s4 s5 rfl (fun k F a hF ha hz W hW => ?_)
  have hW' := h.below hW
  rcases k with _ | _ | _ | _ | _ | _ | _ | k
  · cases hF
    cases ha
    exact ckStatus_any M pv fv bv iv ov W s1 s2 s3 s4 s5
  · cases hF
    cases ha
    exact ckBlocks_any M pv fv bv iv ov W s1 s2 hW'.mach.bl s4 s5
  · cases hF
    cases ha
    exact ckBoxes_any M pv fv bv iv ov W s1 s2 s3 hW'.mach.inp.at_ hW'.mach.out.at_
  · cases hF
    cases ha
    rw [hfv]
    exact ckDepth_any M pv bv iv ov pf cf W s1 s3 s4 s5
  · cases hF
    cases ha
    rw [hpv]
    exact ckFuncs_any M p fv bv iv ov pp qp W hW'.mach.fr s3 s4 s5
  · cases hF
    cases ha
    have h4 : funcsErr p M = 0 := hz _ (by simp)
    have h3 : depthErr M = 0 := hz _ (by simp)
    exact ckFrames_any M p e pv fv bv iv ov W hp he hW' (funcsErr_all h4) (depthErr_zero h3).1 hpc
  · cases hF
    cases ha
    have h5 : framesErr p e M.blocks.length M.frames = 0 := hz _ (by simp)
    have h4 : funcsErr p M = 0 := hz _ (by simp)
    have h3 : depthErr M = 0 := hz _ (by simp)
    have h2 : boxErr M = 0 := hz _ (by simp)
    obtain ⟨d6, d0⟩ := depthErr_zero h3
    have hb := boxErr_zero h2
    have hps := prog_short hp
    refine ckWaiting_any M p pv fv bv iv ov W hW' (by omega) (by omega) (by omega) (fun hst => ?_)
    have hne : M.frames ≠ [] := fun h0 => by have := d0 (by rw [h0]; rfl); omega
    obtain ⟨x, hx⟩ : ∃ x, M.frames.getLast? = some x := ⟨_, List.getLast?_eq_some_getLast hne⟩
    have hi : M.frames[M.frames.length - 1]? = some x := by rw [← hx, List.getLast?_eq_getElem?]
    obtain ⟨k, f, hr⟩ := (frames_right he (funcsErr_all h4)).1 h5 _ x hi
    have hpos := List.length_pos_iff.2 hne
    rw [show M.frames[M.frames.length - 1 + 1]? = none from List.getElem?_eq_none (by omega)] at hr
    obtain ⟨pc, s, o, out, g1, g2, g3, g4, _⟩ := inner_go he hr
    exact ⟨x, k, pc, f, o, hx, hr.fn, hr.at_, g1, g4, (entsOk_at hp he hr.at_).2⟩
  · simp [ckFns] at hF
set_option maxRecDepth 100000 in
set_option maxHeartbeats 4000000 in
theorem mCheck_any (M : Mach) (p : List Fn) (pv fv bv iv ov : Value) (w : World) (h : CkAt w p pv fv bv iv ov M) (hpc : PcOk M) : Calls Tryz.prog 21 #[.agg #[pv], .agg #[fv, bv, iv, ov, .int .i64 M.status, .int .i64 M.trap]] w (Says (checkE p M) w) := by
  obtain ⟨⟨pp, qp, hpv⟩, ⟨pf, cf, hfv⟩, ⟨pb, cb, hbv⟩, ⟨pi, ci, hiv⟩, ⟨po, co, hov⟩⟩ := h.shp
  subst hpv hfv hbv hiv hov
  obtain ⟨W1, hW1⟩ : ∃ W1, (w.alloc (.cells #[.slice pp p.length qp] 24)).alloc (.cells #[.slice pf M.frames.length cf, .slice pb M.blocks.length cb, .slice pi M.inp.length ci, .slice po M.out.length co, .int .i64 M.status, .int .i64 M.trap] 29) = W1 := ⟨_, rfl⟩
  have b1 : Below w.heap.size w W1 := by rw [← hW1]; exact ((Below.refl _ w).alloc (Nat.le_refl _) _).alloc (by simp) _
  have u1 : W1.heap[w.heap.size]? = some (.cells #[.slice pp p.length qp] 24 (0, 0)) := by rw [← hW1]; exact heap_old (World.alloc_heap_new w _) _
  have u2 : W1.heap[w.heap.size + 1]? = some (.cells #[.slice pf M.frames.length cf, .slice pb M.blocks.length cb, .slice pi M.inp.length ci, .slice po M.out.length co, .int .i64 M.status, .int .i64 M.trap] 29 (0, 0)) := by rw [← hW1]; exact new_two w _ _
  have l1 := heap_lt u1
  have l2 := heap_lt u2
  have a0 : W1.cell? ⟨w.heap.size, 0, none⟩ = some (.slice pp p.length qp) := cell_at' u1 0
  have H1 := h.below b1
  have HV := hideP (vProgram_any p _ W1 H1.fns H1.cap)
  have HH := hideP H1
  have HU1 := hideP u1
  have HU2 := hideP u2
  have HPC := hideP hpc
  clear h H1 u1 u2 hpc
  go_enter Tryz.func21, Tryz.ntmps21
  go_wp2_with fail
  refine HV.out.mono ?_
  rintro e' w2 ⟨er, rfl, hpi, b2⟩
  have hfe := progIs_fitsE hpi
  have v1 := (b2.block _ l1).trans HU1.out
  have v2 := (b2.block _ l2).trans HU2.out
  have c0 : w2.cell? ⟨w.heap.size, 0, none⟩ = some (.slice pp p.length qp) := cell_at' v1 0
  have d0 : w2.cell? ⟨w.heap.size + 1, 0, none⟩ = some (.slice pf M.frames.length cf) := cell_at' v2 0
  have d1 : w2.cell? ⟨w.heap.size + 1, 1, none⟩ = some (.slice pb M.blocks.length cb) := cell_at' v2 1
  have d2 : w2.cell? ⟨w.heap.size + 1, 2, none⟩ = some (.slice pi M.inp.length ci) := cell_at' v2 2
  have d3 : w2.cell? ⟨w.heap.size + 1, 3, none⟩ = some (.slice po M.out.length co) := cell_at' v2 3
  have d4 : w2.cell? ⟨w.heap.size + 1, 4, none⟩ = some (.int .i64 M.status) := cell_at' v2 4
  have d5 : w2.cell? ⟨w.heap.size + 1, 5, none⟩ = some (.int .i64 M.trap) := cell_at' v2 5
  have HFE := hideP hfe
  clear v1 v2 hfe hpi
  by_cases h0 : er = 0
  · subst h0
    obtain ⟨hp, he⟩ := fitsE_zero.1 HFE.out.symm
    have HC := hideP (ckAll_any M p (entP p) _ _ _ _ _ w2 hp he (HH.out.below b2) HPC.out)
    clear hp he
    go_wp2_with fail
    refine HC.out.mono ?_
    rintro e' w3 ⟨rfl, b3⟩
    go_wp2
    go_ret
    exact ⟨by unfold checkE; rw [if_neg (by rw [← HFE.out]; simp)]; rfl, bthen0 (bthen0 b1 b2) b3⟩
  · have h0' : (er != 0) = true := by simpa using h0
    have HN := hideP h0
    clear h0
    go_wp2
    go_ret
    exact ⟨by unfold checkE; rw [if_pos (by rw [← HFE.out]; exact HN.out), HFE.out]; rfl, bthen0 b1 b2⟩
end Go.Proofs.YtcadpoknolefpaaGreat


/- stride's return. -/
namespace Go.Proofs.YtcadpoknolefpaaGreat
open Go.RowKit
set_option linter.unusedSimpArgs false
set_option linter.unusedVariables false
theorem DIn.cut {w0 W : World} {b : Nat} {pv : Value} {M : Mach} {D : List Frm} {x : Frm} {g cap : Nat} {bv iv ov : Value} {q : List FV} {c : FV} {qb : List Value} (h : DIn w0 W b pv M D x g cap bv iv ov q c qb) : Doer w0 (W.setCell ⟨b, 0, none⟩ (.slice (some ⟨g, 0, none⟩) D.length cap)) b pv { M with frames := D } := by
  have hA := h.at_
  have hgs := set_grown W ⟨b, 0, none⟩ (.slice (some ⟨g, 0, none⟩) D.length cap)
  have hty : TyRow W (some b) 120 := tyRow_at hA.cell
  have hs := heap_setCell_same W b 0 _ _ (.slice (some ⟨g, 0, none⟩) D.length cap) hA.cell
  have hk := hA.own.keep hgs hty (by decide) (by decide) (by decide) (by decide)
  have hrow := row_cut h.fr_row D.length (by omega)
  have e1 : (fCells (q ++ [c])).take (D.length * 4) = fCells q := by
    rw [fCells_append, List.take_append_of_le_length (by rw [fCells_length, h.len]; omega), List.take_of_length_le (by rw [fCells_length, h.len]; omega)]
  rw [e1] at hrow
  have hfrs := hA.own.frs
  rw [h.fr] at hfrs
  refine ⟨.slice (some ⟨g, 0, none⟩) D.length cap, bv, iv, ov, q, qb, ⟨by simpa using hs, ⟨?_, hfrs.cut.keep hgs hty (by decide), hk.bl, hk.rows⟩, hA.bel.setCell hA.lo _, hA.lo⟩⟩
  rw [h.len]
  exact row_keep hrow hgs hty (by decide)
set_option maxRecDepth 100000 in
set_option maxHeartbeats 2000000 in
theorem ret_done (w0 : World) (b : Nat) (pv : Value) (M : Mach) (D : List Frm) (x : Frm)  (w : World) (h : Doer w0 w b pv M) (hF : M.frames = D ++ [x]) (hD : D.length ≤ 100) (hl : x.stk.length ≤ 90) (h0 : D.length = 0) : Calls Tryz.prog 185 #[.pointer (some ⟨b, 0, none⟩)] w fun e w' => e = .returned (.tuple #[]) ∧ Doer w0 w' b pv { M with frames := [], status := 2 } := by
  obtain ⟨g, cap, bv, iv, ov, q, c, qb, H⟩ := h.open hF
  have HI := hideP (innermost_raw b g D.length cap w H.fcell hD)
  obtain ⟨pl, cl, hlv⟩ := row_shp H.loc
  obtain ⟨ps, cs, hsv⟩ := row_shp H.stk
  have hcap : D.length + 1 ≤ cap := by
    rcases H.fr_row.2 with ⟨h1, _⟩ | ⟨g', cap', cur', h1, _, _, h4, _⟩
    · cases h1
    · cases h1; exact h4
  have HH0 := hideP H
  clear h
  go_enter Tryz.func185, Tryz.ntmps185
  go_wp2_with fail
  refine HI.out.mono ?_
  rintro e w2 ⟨rfl, b2⟩
  have H2 := HH0.out.below b2
  have c0 := H2.c0
  have c1 := H2.c1
  have c2 := H2.c2
  have c3 := H2.c3
  rw [hlv] at c2
  rw [hsv] at c3
  obtain ⟨W3, hW3⟩ : ∃ W3, w2.alloc (.cells #[.int .i64 x.fn, .int .i64 x.pc, .slice pl x.loc.length cl, .slice ps x.stk.length cs] 48) = W3 := ⟨_, rfl⟩
  have b3 : Below w2.heap.size w2 W3 := by rw [← hW3]; exact (Below.refl _ w2).alloc (Nat.le_refl _) _
  have x3 : W3.heap[w2.heap.size]? = some (.cells #[.int .i64 x.fn, .int .i64 x.pc, .slice pl x.loc.length cl, .slice ps x.stk.length cs] 48 (0, 0)) := by rw [← hW3]; exact World.alloc_heap_new w2 _
  have H3 := H2.below b3
  have f0 := H3.fcell
  have f3 : W3.cell? ⟨w2.heap.size, 3, none⟩ = some (.slice ps x.stk.length cs) := cell_at' x3 3
  have z0 := Lib.frozen_of_heap H3.at_.cell 0
  have f4 := H3.at_.cells.2.2.2.2.1
  have z4 := Lib.frozen_of_heap H3.at_.cell 4
  have hbne : ¬ w2.heap.size = b := by have := H2.at_.lt; omega
  have hbne' : ¬ b = w2.heap.size := fun e => hbne e.symm
  have HH3 := hideP H3
  have HSV := hideP hsv
  have HX3 := hideP x3
  clear HI H H2 H3 hlv hsv x3 HH0 hF
  have h00 : ((D.length : Int) == 0) = true := by simp [h0]
  have H0 := hideP h0
  clear h0
  go_wp2_with fail
  go_region
  go_wp2
  first | go_end0 | refine bodyPost_ret (results_none rfl _ _ _) rfl ?_
  have hD0 : D = [] := List.length_eq_zero_iff.1 H0.out
  obtain ⟨fv5, bv5, iv5, ov5, q5, qb5, D5⟩ := HH3.out.cut
  have h5 := (D5.setSt 2).below ((Below.refl _ _).drew)
  subst hD0
  exact ⟨rfl, h5⟩
set_option maxRecDepth 100000 in
set_option maxHeartbeats 2000000 in
theorem ret_on (w0 : World) (b : Nat) (pv : Value) (M : Mach) (D : List Frm) (x : Frm) (D' : List Frm) (y : Frm) (w : World) (h : Doer w0 w b pv M) (hF : M.frames = D ++ [x]) (hD : D.length ≤ 100) (hl : x.stk.length ≤ 90) (h0 : D = D' ++ [y]) (hly : y.stk.length ≤ 90) : Calls Tryz.prog 185 #[.pointer (some ⟨b, 0, none⟩)] w fun e w' => e = .returned (.tuple #[]) ∧ Doer w0 w' b pv { M with frames := D' ++ [{ y with stk := y.stk ++ x.stk }] } := by
  obtain ⟨g, cap, bv, iv, ov, q, c, qb, H⟩ := h.open hF
  have HI := hideP (innermost_raw b g D.length cap w H.fcell hD)
  obtain ⟨pl, cl, hlv⟩ := row_shp H.loc
  obtain ⟨ps, cs, hsv⟩ := row_shp H.stk
  have hcap : D.length + 1 ≤ cap := by
    rcases H.fr_row.2 with ⟨h1, _⟩ | ⟨g', cap', cur', h1, _, _, h4, _⟩
    · cases h1
    · cases h1; exact h4
  have HH0 := hideP H
  clear h
  go_enter Tryz.func185, Tryz.ntmps185
  go_wp2_with fail
  refine HI.out.mono ?_
  rintro e w2 ⟨rfl, b2⟩
  have H2 := HH0.out.below b2
  have c0 := H2.c0
  have c1 := H2.c1
  have c2 := H2.c2
  have c3 := H2.c3
  rw [hlv] at c2
  rw [hsv] at c3
  obtain ⟨W3, hW3⟩ : ∃ W3, w2.alloc (.cells #[.int .i64 x.fn, .int .i64 x.pc, .slice pl x.loc.length cl, .slice ps x.stk.length cs] 48) = W3 := ⟨_, rfl⟩
  have b3 : Below w2.heap.size w2 W3 := by rw [← hW3]; exact (Below.refl _ w2).alloc (Nat.le_refl _) _
  have x3 : W3.heap[w2.heap.size]? = some (.cells #[.int .i64 x.fn, .int .i64 x.pc, .slice pl x.loc.length cl, .slice ps x.stk.length cs] 48 (0, 0)) := by rw [← hW3]; exact World.alloc_heap_new w2 _
  have H3 := H2.below b3
  have f0 := H3.fcell
  have f3 : W3.cell? ⟨w2.heap.size, 3, none⟩ = some (.slice ps x.stk.length cs) := cell_at' x3 3
  have z0 := Lib.frozen_of_heap H3.at_.cell 0
  have f4 := H3.at_.cells.2.2.2.2.1
  have z4 := Lib.frozen_of_heap H3.at_.cell 4
  have hbne : ¬ w2.heap.size = b := by have := H2.at_.lt; omega
  have hbne' : ¬ b = w2.heap.size := fun e => hbne e.symm
  have HH3 := hideP H3
  have HSV := hideP hsv
  have HX3 := hideP x3
  clear HI H H2 H3 hlv hsv x3 HH0 hF
  have h00 : ((D.length : Int) == 0) = false := by rw [h0]; simp; omega
  have hD' : D'.length ≤ 100 := by rw [h0] at hD; simp at hD; omega
  have H0 := hideP h0
  clear h0
  go_wp2_with fail
  go_region
  go_wp2_with fail
  have hcut := HH3.out.cut
  have hrow := row_keep HH3.out.stk (set_grown W3 ⟨b, 0, none⟩ (.slice (some ⟨g, 0, none⟩) D.length cap)) (tyRow_at HH3.out.at_.cell) (by decide)
  rw [HSV.out] at hrow
  have hv := valsAt_of_row hrow
  refine (dPut_any w0 b pv _ D' y _ x.stk _ (hcut.below ((Below.refl _ _).drew)) H0.out (hv.below ((Below.refl _ _).drew)) (nilOk_row hrow) hD' (by omega) (by omega)).mono ?_
  rintro e w4 ⟨rfl, h4, -, -⟩
  have H4 := hideP h4
  clear h4 hcut hrow hv
  go_wp2
  go_end0
  exact ⟨rfl, H4.out⟩
end Go.Proofs.YtcadpoknolefpaaGreat


/- stride's do where it waits. -/
namespace Go.Proofs.YtcadpoknolefpaaGreat
open Go.RowKit
set_option linter.unusedSimpArgs false
set_option linter.unusedVariables false
set_option maxRecDepth 100000 in
set_option maxHeartbeats 2000000 in
theorem do21w (w0 : World) (b : Nat) (pv : Value) (M : Mach) (D : List Frm) (x : Frm) (p : List Fn) (k pc : Nat) (f : Fn) (A : Int) (w : World) (h : Doer w0 w b pv M) (hF : M.frames = D ++ [x]) (hD : D.length ≤ 100) (hp : FnsAt w0 pv p) (hk : p[k]? = some f) (hfn : x.fn = (k : Int)) (hpc : x.pc = (pc : Int)) (hpl : f.2.2.2.length ≤ 1000) (ho : f.2.2.2[pc]? = some (21, A)) (hin : M.inp = []) : Calls Tryz.prog 88 #[.pointer (some ⟨b, 0, none⟩)] w fun e w' => e = .returned (.tuple #[]) ∧ Doer w0 w' b pv { M with status := 1 } := by
  obtain ⟨g, cap, bv, iv, ov, q, c, qb, H⟩ := h.open hF
  have HI := hideP (innermost_raw b g D.length cap w H.fcell hD)
  have hin' : ((M.inp.length : Int) == 0) = true := by simp [hin]
  obtain ⟨pin, cin, hinv⟩ := row_shp H.at_.own.inp
  have HH0 := hideP H
  obtain ⟨pp, qp, hpv, hpm, -⟩ := id hp
  subst hpv
  have HP := hideP hp
  have hpcl := lt_of_at ho
  have hkl := lt_of_at hk
  have HO := hideP ho
  have HK := hideP hk
  have HFN := hideP hfn
  have HPC := hideP hpc
  clear h hF H hp ho hin hk hfn hpc
  go_enter Tryz.func88, Tryz.ntmps88
  go_wp2_with fail
  refine HI.out.mono ?_
  rintro e w2 ⟨rfl, b2⟩
  have H2 := HH0.out.below b2
  have c0 := H2.c0
  have c1 := H2.c1
  rw [HFN.out] at c0
  rw [HPC.out] at c1
  have c6 := H2.at_.cells.2.2.2.2.2.2
  obtain ⟨pp', qp', hpe, -, hpc⟩ := id (HP.out.below H2.at_.bel)
  cases hpe
  obtain ⟨pb, po, f0, f1, f2, f3, hpp, hplt, -, -, -, y3, hfn⟩ := hpc k f HK.out
  subst hpp
  obtain ⟨-, -, -, hops⟩ := hfn
  obtain ⟨p3, q3, he3, -, hoc⟩ := id hops
  subst he3
  obtain ⟨ob, oo, hob, holt, o0, o1⟩ := hoc pc _ HO.out
  subst hob
  have hkli : (k : Int) < (p.length : Int) := by omega
  have hpcli : (pc : Int) < (f.2.2.2.length : Int) := by omega
  have c0a := fun o => cell_old c0 o
  have c1a := fun o => cell_old c1 o
  have c6a := fun o => cell_old c6 o
  have y3a := fun o => cell_old y3 o
  have o0a := fun o => cell_old o0 o
  have o1a := fun o => cell_old o1 o
  clear hpc hoc hops
  go_wp2_with fail
  go_region
  obtain ⟨W3, hW3⟩ : ∃ W3, (w2.alloc (.cells #[.int .i64 21, .int .i64 A] 43)).drew = W3 := ⟨_, rfl⟩
  have b3 : Below w2.heap.size w2 W3 := by rw [← hW3]; exact ((Below.refl _ w2).alloc (Nat.le_refl _) _).drew
  have x3 : W3.heap[w2.heap.size]? = some (.cells #[.int .i64 21, .int .i64 A] 43 (0, 0)) := by rw [← hW3]; exact World.alloc_heap_new w2 _
  rw [hW3]
  clear hW3 c0 c1 c6 y3 o0 o1 c0a c1a c6a y3a o0a o1a
  have H3 := H2.below b3
  have e0 : W3.cell? ⟨w2.heap.size, 0, none⟩ = some (.int .i64 21) := cell_at' x3 0
  have e1 : W3.cell? ⟨w2.heap.size, 1, none⟩ = some (.int .i64 A) := cell_at' x3 1
  have d1 := H3.c1
  rw [HPC.out] at d1
  have z1 : W3.frozen? ⟨g, D.length * 4 + 1, none⟩ = false := by obtain ⟨cur, hh⟩ := H3.gb; exact Lib.frozen_of_heap hh _
  have hne : ¬ w2.heap.size = g := by obtain ⟨cur, hh⟩ := H2.gb; have := heap_lt hh; omega
  have hne' : ¬ g = w2.heap.size := fun e => hne e.symm
  have i2 := H3.at_.cells.2.2.1
  rw [hinv] at i2
  have z4 := Lib.frozen_of_heap H3.at_.cell 4
  have j4 := H3.at_.cells.2.2.2.2.1
  have HS := hideP H3
  clear H2 H3 x3
  go_wp2_with fail
  first | go_end0 | refine bodyPost_ret (results_none rfl _ _ _) rfl ?_
  exact ⟨rfl, HS.out.at_.setSt 1⟩
end Go.Proofs.YtcadpoknolefpaaGreat


