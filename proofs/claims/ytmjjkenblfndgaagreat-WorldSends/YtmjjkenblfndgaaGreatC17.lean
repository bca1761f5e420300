/- My texts Ne Nf Xb Xd Xe Xg Ni Nj Za: what of them is needed, joined. -/
import Derived.ProofKit
import Derived.OpenShut
import Derived.ShutString
import Derived.ChangeOld
import Derived.SizedLaws
import Derived.Deep.SlicePairs
import Derived.Lib.SmallJoins
import Derived.BigQuiet
import Derived.Test.YtmjjkenblfndgaaGreatC4
import Derived.Test.YtmjjkenblfndgaaGreatC7
import Derived.Test.YtmjjkenblfndgaaGreatC9
import Derived.Test.YtmjjkenblfndgaaGreatC10
import Derived.Test.YtmjjkenblfndgaaGreatC11
import Derived.Test.YtmjjkenblfndgaaGreatC13
import Derived.Test.YtmjjkenblfndgaaGreatC14
import Derived.Test.YtmjjkenblfndgaaGreatC15
import Derived.Test.YtmjjkenblfndgaaGreatC16
set_option maxRecDepth 100000
set_option maxHeartbeats 8000000
/- machine's checker: functions of frames, one that waits; all of them in order. -/
namespace Go.Proofs.YtmjjkenblfndgaaGreat
open Go.RowKit
set_option linter.unusedSimpArgs false
set_option linter.unusedVariables false
theorem xpgZ (M : Mach) (p : List Fn) (fv bv iv ov : Value) (pp : Option Addr) (qp : Nat) (w : World) (hf : FrmsAt w fv M.frames) (h3 : ∃ p n c, bv = .slice p n c) (h4 : ∃ p n c, iv = .slice p n c) (h5 : ∃ p n c, ov = .slice p n c) : Calls Tryz.prog 107 #[chkV (.slice pp p.length qp) fv bv iv ov M] w (Says (xb9Z p M) w) := by
  obtain ⟨p3, n3, c3, rfl⟩ := h3
  obtain ⟨p4, n4, c4, rfl⟩ := h4
  obtain ⟨p5, n5, c5, rfl⟩ := h5
  obtain ⟨pf, cf, hfv, hfm, -, hfc⟩ := id hf
  subst hfv
  unfold maxLen at hfm
  obtain ⟨W1, hW1⟩ : ∃ W1, w.alloc (.cells #[.slice pf M.frames.length cf, .slice p3 n3 c3, .slice p4 n4 c4, .slice p5 n5 c5, .int .i64 M.status, .int .i64 M.trap, .slice pp p.length qp] 121) = W1 := ⟨_, rfl⟩
  have b1 : Below w.heap.size w W1 := by rw [← hW1]; exact (Below.refl _ w).alloc (Nat.le_refl _) _
  have x1 : W1.heap[w.heap.size]? = some (.cells #[.slice pf M.frames.length cf, .slice p3 n3 c3, .slice p4 n4 c4, .slice p5 n5 c5, .int .i64 M.status, .int .i64 M.trap, .slice pp p.length qp] 121 (0, 0)) := by rw [← hW1]; exact World.alloc_heap_new w _
  have lx := xacZ x1
  have d0 : W1.cell? ⟨w.heap.size, 0, none⟩ = some (.slice pf M.frames.length cf) := xaaZ x1 0
  have d6 : W1.cell? ⟨w.heap.size, 6, none⟩ = some (.slice pp p.length qp) := xaaZ x1 6
  have HC := hideP (xjiZ 141 #[.pointer (some ⟨w.heap.size, 0, none⟩)] (fun W => W.cell? ⟨w.heap.size, 6, none⟩ = some (.slice pp p.length qp) ∧ w.heap.size < W.heap.size) (xb0Z p) M.frames _ W1 (hf.below b1) ⟨d6, lx⟩ (fun W W' hI hb => ⟨(hb.cell (p := ⟨w.heap.size, 6, none⟩) hI.2).trans hI.1, Nat.lt_of_lt_of_le hI.2 hb.size⟩) (xceZ Tryz.func141 (by kernel_rfl) rfl) (fun z lv sv W hI h1 h2 => xpfZ p z lv sv pp qp w.heap.size W h1 h2 hI.1))
  have HFC := hideP hfc
  have hmf : ∀ (fn : Go.Fn) (first cap : Array Value) (w : World), (Instr.makeFunc fn first cap).run Tryz.prog w = .ok (.func fn first cap) w := fun _ _ _ _ => rfl
  clear hf hfc x1
  cases hall : M.frames.all (xb0Z p)
  · rw [hall] at HC
    go_enter Tryz.func107, Tryz.ntmps107
    go_wp2_with (go_at_call 142; refine HC.out.mono ?_; rintro e w2 ⟨rfl, b2⟩)
    go_ret
    exact ⟨by simp [xb9Z, hall], xafZ b1 b2⟩
  · rw [hall] at HC
    obtain hM | ⟨x, r, hM⟩ : M.frames = [] ∨ ∃ x r, M.frames = x :: r := by
      cases M.frames with
      | nil => exact .inl rfl
      | cons x r => exact .inr ⟨x, r, rfl⟩
    · have h0len : ¬ (0 : Int) < (M.frames.length : Int) := by rw [hM]; simp
      have h0d : decide ((M.frames.length : Int) > 0) = false := by simpa using h0len
      have HM := hideP hM
      have HALL := hideP hall
      clear hM hall
      go_enter Tryz.func107, Tryz.ntmps107
      go_wp2_with (go_at_call 142; refine HC.out.mono ?_; rintro e w2 ⟨rfl, b2⟩; have k0 := (b2.cell (p := ⟨w.heap.size, 0, none⟩) lx).trans d0)
      go_ret
      refine ⟨?_, xafZ b1 b2⟩
      unfold xb9Z
      rw [HALL.out, HM.out]
      simp
    · obtain ⟨g, off, lv, sv, rfl, hg, y0, -⟩ := HFC.out 0 x (by rw [hM]; rfl)
      have hpos : (0 : Int) < (M.frames.length : Int) := by rw [hM]; simp
      have hposd : decide ((M.frames.length : Int) > 0) = true := by simpa using hpos
      have HM := hideP hM
      have HALL := hideP hall
      clear hM hall
      have g0 := (b1.cell (p := ⟨g, off + 0 * 4, none⟩) hg).trans y0
      simp only [Nat.zero_mul, Nat.add_zero] at g0
      have hg1 := Nat.lt_of_lt_of_le hg b1.size
      by_cases h0 : x.fn = 0
      · have h0' : (x.fn != 0) = false := by simpa using h0
        go_enter Tryz.func107, Tryz.ntmps107
        go_wp2_with (go_at_call 142; refine HC.out.mono ?_; rintro e w2 ⟨rfl, b2⟩; have k0 := (b2.cell (p := ⟨w.heap.size, 0, none⟩) lx).trans d0; have k1 := (b2.cell (p := ⟨g, off, none⟩) hg1).trans g0)
        go_ret
        refine ⟨?_, xafZ b1 b2⟩
        unfold xb9Z
        rw [HALL.out, HM.out]
        simp [h0]
      · have h0' : (x.fn != 0) = true := by simpa using h0
        go_enter Tryz.func107, Tryz.ntmps107
        go_wp2_with (go_at_call 142; refine HC.out.mono ?_; rintro e w2 ⟨rfl, b2⟩; have k0 := (b2.cell (p := ⟨w.heap.size, 0, none⟩) lx).trans d0; have k1 := (b2.cell (p := ⟨g, off, none⟩) hg1).trans g0)
        go_ret
        refine ⟨?_, xafZ b1 b2⟩
        unfold xb9Z
        rw [HALL.out, HM.out]
        simp [h0]
theorem xluZ : ∀ {es : List Int} {k : Nat} {a : Int}, es[k]? = some a → (∀ b ∈ es.take k, b = 0) → a ≠ 0 → xeuZ es = a
  | [], k, a, h, _, _ => by simp at h
  | b :: r, 0, a, h, _, ha => by
    simp at h
    subst h
    simp [xeuZ, ha]
  | b :: r, k + 1, a, h, hk, ha => by
    have h0 : b = 0 := hk b (by simp)
    simp only [xeuZ]
    rw [if_neg (by simp [h0])]
    exact xluZ (by simpa using h) (fun c hc => hk c (by simp [hc])) ha
def ckFns : List Nat := [103, 104, 105, 106, 107, 108, 109]
theorem ckFns_ent : ∀ F ∈ ckFns, Ent F := by
  intro F hF
  simp only [ckFns, List.mem_cons, List.not_mem_nil, or_false] at hF
  rcases hF with rfl | rfl | rfl | rfl | rfl | rfl | rfl
  · exact xceZ Tryz.func103 (by kernel_rfl) rfl
  · exact xceZ Tryz.func104 (by kernel_rfl) rfl
  · exact xceZ Tryz.func105 (by kernel_rfl) rfl
  · exact xceZ Tryz.func106 (by kernel_rfl) rfl
  · exact xceZ Tryz.func107 (by kernel_rfl) rfl
  · exact xceZ Tryz.func108 (by kernel_rfl) rfl
  · exact xceZ Tryz.func109 (by kernel_rfl) rfl
end Go.Proofs.YtmjjkenblfndgaaGreat


/- machine's checker: one thing behind the other; Check. -/
namespace Go.Proofs.YtmjjkenblfndgaaGreat
open Go.RowKit
set_option linter.unusedSimpArgs false
set_option linter.unusedVariables false
def ckRow (c : Value) : List Value := ckFns.map fun F => .func (.func F) #[c] #[]
theorem ckRow_at (c : Value) {k F : Nat} (h : ckFns[k]? = some F) : (ckRow c)[k]? = some (.func (.func F) #[c] #[]) := by
  unfold ckRow
  rw [List.getElem?_map, h]
  rfl
theorem check_gen (M : Mach) (pv fv bv iv ov : Value) (es : List Int) (w : World) (h1 : ∃ p n c, pv = .slice p n c) (h2 : ∃ p n c, fv = .slice p n c) (h3 : ∃ p n c, bv = .slice p n c) (h4 : ∃ p n c, iv = .slice p n c) (h5 : ∃ p n c, ov = .slice p n c) (hes : es.length = 7)
    (hF : ∀ (k F : Nat) (a : Int), ckFns[k]? = some F → es[k]? = some a → (∀ b ∈ es.take k, b = 0) → ∀ W, Below w.heap.size w W → Calls Tryz.prog F #[chkV pv fv bv iv ov M] W (Says a W)) : Calls Tryz.prog 75 #[chkV pv fv bv iv ov M] w (Says (xeuZ es) w) := by
  obtain ⟨p1, n1, c1, rfl⟩ := h1
  obtain ⟨p2, n2, c2, rfl⟩ := h2
  obtain ⟨p3, n3, c3, rfl⟩ := h3
  obtain ⟨p4, n4, c4, rfl⟩ := h4
  obtain ⟨p5, n5, c5, rfl⟩ := h5
  have HF := hideP hF
  have HEE := hideP ckFns_ent
  have HES := hideP hes
  have hmf : ∀ (fn : Go.Fn) (first cap : Array Value) (w : World), (Instr.makeFunc fn first cap).run Tryz.prog w = .ok (.func fn first cap) w := fun _ _ _ _ => rfl
  obtain ⟨c, hc⟩ : ∃ c, chkV (.slice p1 n1 c1) (.slice p2 n2 c2) (.slice p3 n3 c3) (.slice p4 n4 c4) (.slice p5 n5 c5) M = c := ⟨_, rfl⟩
  have hb2 : ∀ o o', Below w.heap.size w ((w.alloc o).alloc o') := fun o o' => ((Below.refl _ w).alloc (Nat.le_refl _) _).alloc (by simp) _
  have hx2 : ∀ o o', ((w.alloc o).alloc o').heap[w.heap.size + 1]? = some o' := fun o o' => xazZ w o o'
  have HC := hideP hc
  clear hF hes hc
  go_enter Tryz.func75, Tryz.ntmps75
  go_wp2_with fail
  go_loopw [5, 24] (fun _ i wr => ∃ k : Nat, k ≤ 7 ∧ i = .int .i64 k ∧ (∀ b ∈ es.take k, b = 0) ∧ Below w.heap.size w wr ∧ wr.heap[w.heap.size + 1]? = some (.cells (ckRow c).toArray 122 (0, 0))) (fun _ i _ => 7 - (intOf i).toNat)
  case atStart => exact ⟨0, Nat.zero_le _, rfl, by simp, hb2 _ _, by rw [← HC.out]; exact hx2 _ _⟩
  case round =>
    obtain ⟨k, hk, rfl, hok, hbw, hrow⟩ := hrel
    have HK := hideP hok
    clear hok
    by_cases hlt : k < 7
    · obtain ⟨F, hFk⟩ := xagZ (l := ckFns) (k := k) hlt
      obtain ⟨a, ha⟩ := xagZ (l := es) (k := k) (by rw [HES.out]; exact hlt)
      have hcell : wr.cell? ⟨w.heap.size + 1, k, none⟩ = some (.func (.func F) #[c] #[]) := by
        rw [xaaZ hrow]
        simpa using ckRow_at c hFk
      have hlti : (k : Int) < (7 : Int) := by omega
      have hent := HEE.out F (List.mem_of_getElem? hFk)
      have hEE : ∀ (args : Array Value) (W : World), (callFunc F args).run Tryz.prog W = .ok (.enter F args) W := hent
      have hlx := xacZ hrow
      have HROW := hideP hrow
      have hcall := HF.out k F a hFk ha HK.out wr hbw
      rw [HC.out] at hcall
      have HCALL := hideP hcall
      have HA := hideP ha
      clear hrow hent hcall hFk ha
      by_cases h0 : a = 0
      · subst h0
        go_wp2_with fail
        refine HCALL.out.mono ?_
        rintro e w2 ⟨rfl, b2⟩
        go_wp2
        go_roundw
        case rel =>
          refine ⟨k + 1, by omega, by go_num, fun b hb => ?_, hbw.trans (b2.mono hbw.size), (b2.block _ hlx).trans HROW.out⟩
          rw [xa1Z es k _ HA.out] at hb
          rcases List.mem_append.1 hb with hb | hb
          · exact HK.out b hb
          · simpa using hb
        case measure => simp [intOf]; omega
      · have h0' : (a != 0) = true := by simpa using h0
        have HN := hideP h0
        clear h0
        go_wp2_with fail
        refine HCALL.out.mono ?_
        rintro e w2 ⟨rfl, b2⟩
        go_wp2
        go_ret
        exact ⟨by rw [xluZ HA.out HK.out HN.out]; rfl, hbw.trans (b2.mono hbw.size)⟩
    · have hlt' : ¬ (k : Int) < (7 : Int) := by omega
      go_wp2
      go_ret
      refine ⟨?_, hbw⟩
      have h := HK.out
      rw [List.take_of_length_le (by rw [HES.out]; omega)] at h
      rw [xi1Z.2 h]; rfl
end Go.Proofs.YtmjjkenblfndgaaGreat


/- Programs that came in. -/
namespace Go.Proofs.YtmjjkenblfndgaaGreat
open Go.ChangeShapes Go.WideShapes Go.ChangeAt Go.RowKit
set_option linter.unusedVariables false
set_option linter.unusedSimpArgs false
section
variable {H : Type} {enc : TypeId × Value → H} {W : World} {fuel : Nat} {x : DataW H × List MemPlace}
theorem xbwZ {W : World} {b j : Nat} {v : Value} (h : W.cell? ⟨b, j, none⟩ = some v) : b < W.heap.size := by
  rcases Nat.lt_or_ge b W.heap.size with h' | h'
  · exact h'
  · simp [World.cell?, Array.getElem?_eq_none h'] at h
theorem cells_ops : Tryz.prog.cellsOf 117 = 1 := by kernel_rfl
theorem xhaZ : Tryz.prog.cellsOf 46 = 1 := by kernel_rfl
theorem xgeZ : Tryz.prog.cellsOf 3 = 1 := by kernel_rfl
theorem cells_fns : Tryz.prog.cellsOf 22 = 1 := by kernel_rfl
theorem cells_fn : Tryz.prog.cellsOf 119 = 4 := by kernel_rfl
theorem cells_prog : Tryz.prog.cellsOf 24 = 1 := by kernel_rfl
instance : Inhabited Fn := ⟨(0, [], 0, [])⟩
instance : Inhabited FnV := ⟨(.int .i64 0, .int .i64 0, .int .i64 0, .int .i64 0)⟩
end
end Go.Proofs.YtmjjkenblfndgaaGreat


/- Blocks that came in. -/
namespace Go.Proofs.YtmjjkenblfndgaaGreat
open Go.ChangeShapes Go.WideShapes Go.ChangeAt Go.RowKit
set_option linter.unusedVariables false
set_option linter.unusedSimpArgs false
section
variable {H : Type} {enc : TypeId × Value → H} {W : World} {fuel : Nat} {x : DataW H × List MemPlace}
theorem xdgZ {P : Program} {e : TypeId} : ∀ {ds : List (DataW H)} {d : DataW H}, d ∈ ds → ∀ n ∈ d.weights P e, n ∈ DataW.weightsAll P e ds
  | [], _, h, _, _ => by simp at h
  | d0 :: r, d, h, n, hn => by
    simp only [DataW.weightsAll, List.mem_append]
    rcases List.mem_cons.1 h with rfl | h
    · exact .inl hn
    · exact .inr (xdgZ h n hn)
theorem bytes_int : Tryz.prog.bytesOf 3 = 8 := by kernel_rfl
theorem xheZ {c : Value} (h : DataW.trod enc Tryz.prog W 0 (fun _ => true) true fuel 46 [c] = some x) (hs : ∀ n ∈ x.1.weights Tryz.prog 46, n ≤ reachBytes) : ∃ l : List Int, IntsAt W c l ∧ NilOk c ∧ l.length ≤ 17592186044416 ∧ ∃ p n cap, c = .slice p n cap ∧ n ≤ cap := by
  rcases Deep.open_slice1 Tryz.underlying46 xgeZ h with ⟨hcs, hx⟩ | ⟨a, len', cap', m, n, V, D, Pl, hcs, hb, hl, hm, hmm, hx, hc⟩
  · simp at hcs
    subst hcs
    exact ⟨[], ⟨none, 0, rfl, Nat.zero_le _, fun k o hk => by simp at hk⟩, xenZ, by simp, none, 0, 0, rfl, Nat.le_refl _⟩
  · simp at hcs
    subst hcs
    simp only [if_true] at hmm
    subst hmm
    have hlen : len' ≤ 17592186044416 := by
      have h1 := hs ((((List.range len').map D).length + ((List.range (m - len')).map fun j => D (len' + j)).length) * Tryz.prog.bytesOf 3) (by
        rw [hx]
        simp only [DataW.weights, Tryz.underlying46]
        exact List.mem_cons_self ..)
      rw [bytes_int] at h1
      simp [reachBytes] at h1
      omega
    refine ⟨(List.range len').map fun i => intOf (V i), ⟨some a, m, by simp, by simp; omega, fun k o hk => ?_⟩, xauZ _ _ _, by simpa using hlen, _, _, _, rfl, hl⟩
    have hk1 : k < len' := by have := xcgZ hk; simpa using this
    have ho : o = intOf (V k) := by simp [hk1] at hk; exact hk.symm
    obtain ⟨c0, t0⟩ := hc k (by omega)
    obtain ⟨y, e0, _, wx⟩ := DataW.trod_int Tryz.underlying3 t0
    simp at e0
    obtain ⟨b, off, spot⟩ := a
    have hs0 := (hc 0 (by omega)).1
    have hspot : spot = none := by simpa [Addr.add] using World.cell?_spot hs0
    subst hspot
    rw [xdrZ] at c0
    rw [e0] at c0
    exact ⟨b, off, rfl, xbwZ c0, by rw [ho, e0]; exact c0⟩
theorem open_blksC {c : Value} (h : DataW.trod enc Tryz.prog W 0 (fun _ => true) true fuel 45 [c] = some x) (hs : ∀ n ∈ x.1.weights Tryz.prog 45, n ≤ reachBytes) : ∃ L : List (List Int), BlksAt W c L := by
  rcases Deep.open_slice Tryz.underlying45 h with ⟨hcs, hx⟩ | ⟨a, len', cap', m, n, D, Pl, hcs, hb, hl, hm, hmm, hx, hc⟩
  · simp at hcs
    subst hcs
    exact ⟨[], none, 0, rfl, Nat.zero_le _, fun k o hk => by simp at hk⟩
  · simp at hcs
    subst hcs
    simp only [if_true] at hmm
    subst hmm
    have each : ∀ i, i < len' → ∃ q : Value × List Int, W.cell? (a.add (i * 1)) = some q.1 ∧ IntsAt W q.1 q.2 ∧ NilOk q.1 ∧ q.2.length ≤ 17592186044416 := by
      intro i hi
      obtain ⟨cs', h1, h2⟩ := hc i (by omega)
      rw [xhaZ] at h1
      obtain ⟨_, hlen, hcell⟩ := World.cells?_some h1
      match cs', hlen with
      | [c0], _ =>
        obtain ⟨l, g1, g2, g3, _⟩ := xheZ (x := (D i, Pl i)) h2 (fun n hn => hs n (by
          rw [hx]
          simp only [DataW.weights, Tryz.underlying45]
          refine List.mem_cons_of_mem _ (List.mem_append_left _ ?_)
          exact xdgZ (List.mem_map.2 ⟨i, List.mem_range.2 hi, rfl⟩) n hn))
        have e0 := hcell 0 (by omega)
        rw [Deep.add_add] at e0
        exact ⟨(c0, l), by simpa using e0, g1, g2, g3⟩
    obtain ⟨q, hq⟩ := Deep.choose_lt each
    refine ⟨(List.range len').map fun i => (q i).2, some a, m, by simp, by simp; omega, fun k f hk => ?_⟩
    have hk1 : k < len' := by have := xcgZ hk; simpa using this
    have ho : f = (q k).2 := by simp [hk1] at hk; exact hk.symm
    obtain ⟨c0, c1, c2, c3⟩ := hq k hk1
    obtain ⟨b, off, spot⟩ := a
    have hs0 := (hq 0 (by omega)).1
    have hspot : spot = none := by simpa [Addr.add] using World.cell?_spot hs0
    subst hspot
    rw [xdrZ, Nat.mul_one] at c0
    exact ⟨b, off, _, rfl, xbwZ c0, c0, by rw [ho]; exact c1, c2, by rw [ho]; exact c3⟩
end
end Go.Proofs.YtmjjkenblfndgaaGreat


/- Programs that came in, whole: room, nil or not, lengths. -/
namespace Go.Proofs.YtmjjkenblfndgaaGreat
open Go.ChangeShapes Go.WideShapes Go.ChangeAt Go.RowKit
set_option linter.unusedVariables false
set_option linter.unusedSimpArgs false
section
variable {H : Type} {enc : TypeId × Value → H} {W : World} {fuel : Nat} {x : DataW H × List MemPlace}
theorem bytes_op : Tryz.prog.bytesOf 86 = 16 := by kernel_rfl
theorem bytes_fn : Tryz.prog.bytesOf 119 = 64 := by kernel_rfl
theorem open_opsN {c : Value} (h : DataW.trod enc Tryz.prog W 0 (fun _ => true) true fuel 117 [c] = some x) (hs : ∀ n ∈ x.1.weights Tryz.prog 117, n ≤ reachBytes) : ∃ l : List (Int × Int), OpsAt W c l ∧ NilOk c ∧ l.length ≤ 8796093022208 := by
  rcases Deep.open_slice_pairs Tryz.underlying117 Tryz.underlying86 (by kernel_rfl) rfl rfl (by kernel_rfl) (by kernel_rfl) h with ⟨hcs, hx⟩ | ⟨a, len', cap', m, n, V0, V1, D0, D1, P0, P1, hcs, hb, hl, hm, hmm, hx, hc⟩
  · simp at hcs
    subst hcs
    exact ⟨[], ⟨none, 0, rfl, Nat.zero_le _, fun k o hk => by simp at hk⟩, xenZ, by simp⟩
  · simp at hcs
    subst hcs
    simp only [if_true] at hmm
    subst hmm
    have hlen : len' ≤ 8796093022208 := by
      have hx1 := congrArg Prod.fst hx
      simp only at hx1
      rw [hx1] at hs
      simp only [DataW.weights, Tryz.underlying117] at hs
      have h1 := hs _ (List.mem_cons_self ..)
      rw [bytes_op] at h1
      simp [reachBytes] at h1
      omega
    refine ⟨(List.range len').map fun i => (intOf (V0 i), intOf (V1 i)), ⟨some a, m, by simp, by simp; omega, fun k o hk => ?_⟩, xauZ _ _ _, by simpa using hlen⟩
    have hk1 : k < len' := by have := xcgZ hk; simpa using this
    have ho : o = (intOf (V0 k), intOf (V1 k)) := by simp [hk1] at hk; exact hk.symm
    obtain ⟨c0, c1, t0, t1⟩ := hc k (by omega)
    obtain ⟨x, e0, _, wx⟩ := DataW.trod_int Tryz.underlying3 t0
    obtain ⟨y, e1, _, wy⟩ := DataW.trod_int Tryz.underlying3 t1
    simp at e0 e1
    obtain ⟨b, off, spot⟩ := a
    have hs0 := (hc 0 (by omega)).1
    have hspot : spot = none := by simpa [Addr.add] using World.cell?_spot hs0
    subst hspot
    rw [xdrZ] at c0 c1
    rw [e0] at c0
    rw [e1] at c1
    exact ⟨b, off, rfl, xbwZ c0, by rw [ho, e0]; exact c0, by rw [ho, e1]; exact c1⟩
def FnFull (c1 c3 : Value) : Prop := NilOk c1 ∧ NilOk c3 ∧ (∃ p n cap, c1 = .slice p n cap ∧ n ≤ cap ∧ n ≤ 17592186044416) ∧ ∃ p n cap, c3 = .slice p n cap ∧ n ≤ 8796093022208
theorem open_fnN {c0 c1 c2 c3 : Value} (h : DataW.trod enc Tryz.prog W 0 (fun _ => true) true fuel 119 [c0, c1, c2, c3] = some x) (hs : ∀ n ∈ x.1.weights Tryz.prog 119, n ≤ reachBytes) : ∃ f : Fn, FnAt W c0 c1 c2 c3 f ∧ FnFull c1 c3 := by
  obtain ⟨y0, y1, y2, y3, n, hx, _, h0, h1, h2, h3⟩ := Go.Joins.trod_struct4 Tryz.underlying119 h
  simp [xgeZ, xhaZ, cells_ops] at h0 h1 h2 h3
  have hx1 := congrArg Prod.fst hx
  simp only at hx1
  rw [hx1] at hs
  simp only [DataW.weights, Tryz.underlying119] at hs
  obtain ⟨P, e0, _⟩ := DataW.trod_int Tryz.underlying3 h0
  obtain ⟨R, e2, _⟩ := DataW.trod_int Tryz.underlying3 h2
  obtain ⟨L, hL, nL, zL, pL, qL, capL, eL, lL⟩ := xheZ h1 (fun n hn => hs n (by simp [DataW.weightsEach, hn]))
  obtain ⟨C, hC, nC, zC⟩ := open_opsN h3 (fun n hn => hs n (by simp [DataW.weightsEach, hn]))
  simp at e0 e2
  have hLs : qL = L.length := by obtain ⟨_, _, e, _⟩ := hL; rw [eL] at e; cases e; rfl
  obtain ⟨pC, capC, eC, _, _⟩ := id hC
  exact ⟨(P, L, R, C), ⟨e0, hL, e2, hC⟩, nL, nC, ⟨pL, qL, capL, eL, lL, by rw [hLs]; exact zL⟩, ⟨pC, _, capC, eC, zC⟩⟩
structure ProgFull (W : World) (v : Value) (l : List Fn) : Prop where
  at_ : FnsAt W v l
  nil : NilOk v
  len : l.length ≤ 2199023255488
  each : ∀ (b off n cap k : Nat) (c1 c3 : Value), v = .slice (some ⟨b, off, none⟩) n cap → k < n → W.cell? ⟨b, off + k * 4 + 1, none⟩ = some c1 → W.cell? ⟨b, off + k * 4 + 3, none⟩ = some c3 → FnFull c1 c3
theorem ProgFull.cap {W : World} {v : Value} {l : List Fn} (h : ProgFull W v l) : CapAt W v := by
  intro b off n cap k p' n' c' hv hk hc
  obtain ⟨p, cap2, hv2, hm, hcc⟩ := h.at_
  rw [hv] at hv2
  cases hv2
  obtain ⟨f, hf⟩ := xagZ (l := l) hk
  obtain ⟨b2, off2, c0, c1, c2, c3, hp, hlt, _, _, _, g3, _⟩ := hcc k f hf
  cases hp
  obtain ⟨_, _, ⟨p1, n1, cap1, e1, h1, _⟩, _⟩ := h.each b off l.length cap k _ _ hv hk hc g3
  cases e1
  exact h1
theorem open_fnsD {c : Value} (h : DataW.trod enc Tryz.prog W 0 (fun _ => true) true fuel 22 [c] = some x) (hs : ∀ n ∈ x.1.weights Tryz.prog 22, n ≤ reachBytes) : ∃ l : List Fn, ProgFull W c l := by
  rcases Deep.open_slice Tryz.underlying22 h with ⟨hcs, hx⟩ | ⟨a, len', cap', m, n, D, Pl, hcs, hb, hl, hm, hmm, hx, hc⟩
  · simp at hcs
    subst hcs
    exact ⟨[], ⟨none, 0, rfl, Nat.zero_le _, fun k o hk => by simp at hk⟩, xenZ, by simp, fun b off n cap k c1 c3 hv => by cases hv⟩
  · simp at hcs
    subst hcs
    simp only [if_true] at hmm
    subst hmm
    rw [hx] at hs
    simp only [DataW.weights, Tryz.underlying22] at hs
    have hlen : len' ≤ 2199023255488 := by
      have h1 := hs _ (List.mem_cons_self ..)
      rw [bytes_fn] at h1
      simp [reachBytes] at h1
      omega
    have each : ∀ i, i < len' → ∃ q : FnV × Fn, W.cell? (a.add (i * 4)) = some q.1.1 ∧ W.cell? (a.add (i * 4 + 1)) = some q.1.2.1 ∧ W.cell? (a.add (i * 4 + 2)) = some q.1.2.2.1 ∧ W.cell? (a.add (i * 4 + 3)) = some q.1.2.2.2 ∧ FnAt W q.1.1 q.1.2.1 q.1.2.2.1 q.1.2.2.2 q.2 ∧ FnFull q.1.2.1 q.1.2.2.2 := by
      intro i hi
      obtain ⟨cs', h1, h2⟩ := hc i (by omega)
      rw [cells_fn] at h1
      obtain ⟨_, hlen, hcell⟩ := World.cells?_some h1
      match cs', hlen with
      | [c0, c1, c2, c3], _ =>
        obtain ⟨f, hf, hff⟩ := open_fnN (x := (D i, Pl i)) h2 (fun n hn => hs n (List.mem_cons_of_mem _ (List.mem_append_left _ (xdgZ (List.mem_map.2 ⟨i, List.mem_range.2 hi, rfl⟩) n hn))))
        have e0 := hcell 0 (by omega)
        have e1 := hcell 1 (by omega)
        have e2 := hcell 2 (by omega)
        have e3 := hcell 3 (by omega)
        rw [Deep.add_add] at e0 e1 e2 e3
        exact ⟨((c0, c1, c2, c3), f), by simpa using e0, by simpa using e1, by simpa using e2, by simpa using e3, hf, hff⟩
    obtain ⟨q, hq⟩ := Deep.choose_lt each
    obtain ⟨b, off, spot⟩ := a
    refine ⟨(List.range len').map fun i => (q i).2, ⟨some ⟨b, off, spot⟩, m, by simp, by simp; omega, fun k f hk => ?_⟩, xauZ _ _ _, by simpa using hlen, ?_⟩
    · have hk1 : k < len' := by have := xcgZ hk; simpa using this
      have ho : f = (q k).2 := by simp [hk1] at hk; exact hk.symm
      obtain ⟨c0, c1, c2, c3, hf, _⟩ := hq k hk1
      have hs0 := (hq 0 (by omega)).1
      have hspot : spot = none := by simpa [Addr.add] using World.cell?_spot hs0
      subst hspot
      rw [xdrZ] at c0 c1 c2 c3
      exact ⟨b, off, _, _, _, _, rfl, xbwZ c0, c0, c1, c2, c3, by rw [ho]; exact hf⟩
    · intro b' off' n' cap' k c1 c3 hv hk g1 g3
      cases hv
      obtain ⟨_, d1, _, d3, _, hff⟩ := hq k hk
      rw [xdrZ] at d1 d3
      rw [show off + (k * 4 + 1) = off + k * 4 + 1 by omega, g1] at d1
      rw [show off + (k * 4 + 3) = off + k * 4 + 3 by omega, g3] at d3
      cases d1
      cases d3
      exact hff
theorem open_progC {base : Nat} {r : Reach} {v : Value} {d : DataW H} {p : List MemPlace} (hv : Value.okWide Tryz.prog W r base 24 v) (h : DataW.Trod enc Tryz.prog W 0 (fun _ => true) true 24 v d p) (hs : ∀ n ∈ d.weights Tryz.prog 24, n ≤ reachBytes) :
    ∃ (c : Value) (l : List Fn), v = .agg #[c] ∧ ProgFull W c l := by
  obtain ⟨cs, rfl, hsz⟩ := okWide_struct Tryz.underlying24 hv
  rw [cells_prog] at hsz
  obtain ⟨cs⟩ := cs
  match cs, hsz with
  | [c], _ =>
    obtain ⟨fuel, hf⟩ := h
    obtain ⟨y0, n, hx, _, h0⟩ := trod_struct1 Tryz.underlying24 hf
    simp [cells_fns, Value.cells] at h0
    have hx1 := congrArg Prod.fst hx
    simp only at hx1
    rw [hx1] at hs
    simp only [DataW.weights, Tryz.underlying24] at hs
    obtain ⟨l, hl⟩ := open_fnsD h0 (fun n hn => hs n (by simp [DataW.weightsEach, hn]))
    exact ⟨c, l, rfl, hl⟩
end
end Go.Proofs.YtmjjkenblfndgaaGreat


/- Machines that came in. -/
namespace Go.Proofs.YtmjjkenblfndgaaGreat
open Go.ChangeShapes Go.WideShapes Go.ChangeAt Go.RowKit
set_option linter.unusedVariables false
set_option linter.unusedSimpArgs false
section
variable {H : Type} {enc : TypeId × Value → H} {W : World} {fuel : Nat} {x : DataW H × List MemPlace}
theorem bytes_val : Tryz.prog.bytesOf 113 = 16 := by kernel_rfl
theorem bytes_frm : Tryz.prog.bytesOf 89 = 64 := by kernel_rfl
theorem cells_vals : Tryz.prog.cellsOf 87 = 1 := by kernel_rfl
theorem cells_frm : Tryz.prog.cellsOf 89 = 4 := by kernel_rfl
theorem cells_frms : Tryz.prog.cellsOf 44 = 1 := by kernel_rfl
theorem cells_blks : Tryz.prog.cellsOf 45 = 1 := by kernel_rfl
theorem cells_mach : Tryz.prog.cellsOf 48 = 6 := by kernel_rfl
def boolOf : Value → Bool
  | .bool b => b
  | _ => false
theorem xkqZ {c : Value} (h : DataW.trod enc Tryz.prog W 0 (fun _ => true) true fuel 87 [c] = some x) (hs : ∀ n ∈ x.1.weights Tryz.prog 87, n ≤ reachBytes) : ∃ l : List Val, ValsAt W c l ∧ NilOk c ∧ l.length ≤ 8796093022208 := by
  rcases Deep.open_slice_pairs Tryz.underlying87 Tryz.underlying113 (by kernel_rfl) rfl rfl (by kernel_rfl) (by kernel_rfl) h with ⟨hcs, hx⟩ | ⟨a, len', cap', m, n, V0, V1, D0, D1, P0, P1, hcs, hb, hl, hm, hmm, hx, hc⟩
  · simp at hcs
    subst hcs
    exact ⟨[], ⟨none, 0, rfl, Nat.zero_le _, fun k o hk => by simp at hk⟩, xenZ, by simp⟩
  · simp at hcs
    subst hcs
    simp only [if_true] at hmm
    subst hmm
    have hlen : len' ≤ 8796093022208 := by
      have hx1 := congrArg Prod.fst hx
      simp only at hx1
      rw [hx1] at hs
      simp only [DataW.weights, Tryz.underlying87] at hs
      have h1 := hs _ (List.mem_cons_self ..)
      rw [bytes_val] at h1
      simp [reachBytes] at h1
      omega
    refine ⟨(List.range len').map fun i => (boolOf (V0 i), intOf (V1 i)), ⟨some a, m, by simp, by simp; omega, fun k o hk => ?_⟩, xauZ _ _ _, by simpa using hlen⟩
    have hk1 : k < len' := by have := xcgZ hk; simpa using this
    have ho : o = (boolOf (V0 k), intOf (V1 k)) := by simp [hk1] at hk; exact hk.symm
    obtain ⟨c0, c1, t0, t1⟩ := hc k (by omega)
    obtain ⟨x, e0, _⟩ := DataW.trod_bool Tryz.underlying4 t0
    obtain ⟨y, e1, _, wy⟩ := DataW.trod_int Tryz.underlying3 t1
    simp at e0 e1
    obtain ⟨b, off, spot⟩ := a
    have hs0 := (hc 0 (by omega)).1
    have hspot : spot = none := by simpa [Addr.add] using World.cell?_spot hs0
    subst hspot
    rw [xdrZ] at c0 c1
    rw [e0] at c0
    rw [e1] at c1
    exact ⟨b, off, rfl, xbwZ c0, by rw [ho, e0]; exact c0, by rw [ho, e1]; exact c1⟩
instance : Inhabited Frm := ⟨⟨0, 0, [], []⟩⟩
theorem open_frmN {c0 c1 c2 c3 : Value} (h : DataW.trod enc Tryz.prog W 0 (fun _ => true) true fuel 89 [c0, c1, c2, c3] = some x) (hs : ∀ n ∈ x.1.weights Tryz.prog 89, n ≤ reachBytes) : ∃ f : Frm, c0 = .int .i64 f.fn ∧ c1 = .int .i64 f.pc ∧ ValsAt W c2 f.loc ∧ NilOk c2 ∧ ValsAt W c3 f.stk ∧ NilOk c3 ∧ f.loc.length ≤ 8796093022208 ∧ f.stk.length ≤ 8796093022208 ∧ -9223372036854775808 ≤ f.pc ∧ f.pc ≤ 9223372036854775807 := by
  obtain ⟨y0, y1, y2, y3, n, hx, _, h0, h1, h2, h3⟩ := Go.Joins.trod_struct4 Tryz.underlying89 h
  simp [xgeZ, cells_vals] at h0 h1 h2 h3
  have hx1 := congrArg Prod.fst hx
  simp only at hx1
  rw [hx1] at hs
  simp only [DataW.weights, Tryz.underlying89] at hs
  obtain ⟨P, e0, _⟩ := DataW.trod_int Tryz.underlying3 h0
  obtain ⟨R, e1, _, wR⟩ := DataW.trod_int Tryz.underlying3 h1
  have hR : -9223372036854775808 ≤ R ∧ R ≤ 9223372036854775807 := by simpa [Lit.wf, IntKind.min, IntKind.max, IntKind.bits, IntKind.signed] using wR
  obtain ⟨L, hL, nL, zL⟩ := xkqZ h2 (fun n hn => hs n (by simp [DataW.weightsEach, hn]))
  obtain ⟨C, hC, nC, zC⟩ := xkqZ h3 (fun n hn => hs n (by simp [DataW.weightsEach, hn]))
  simp at e0 e1
  exact ⟨⟨P, R, L, C⟩, e0, e1, hL, nL, hC, nC, zL, zC, hR.1, hR.2⟩
def FrmsLong (F : List Frm) : Prop := F.length ≤ 2199023255488 ∧ ∀ x ∈ F, x.loc.length ≤ 8796093022208 ∧ x.stk.length ≤ 8796093022208 ∧ -9223372036854775808 ≤ x.pc ∧ x.pc ≤ 9223372036854775807
theorem open_frmsC {c : Value} (h : DataW.trod enc Tryz.prog W 0 (fun _ => true) true fuel 44 [c] = some x) (hs : ∀ n ∈ x.1.weights Tryz.prog 44, n ≤ reachBytes) : ∃ F : List Frm, FrmsAt W c F ∧ NilOk c ∧ FrmsLong F := by
  rcases Deep.open_slice Tryz.underlying44 h with ⟨hcs, hx⟩ | ⟨a, len', cap', m, n, D, Pl, hcs, hb, hl, hm, hmm, hx, hc⟩
  · simp at hcs
    subst hcs
    exact ⟨[], ⟨none, 0, rfl, Nat.zero_le _, Nat.zero_le _, fun k o hk => by simp at hk⟩, xenZ, by simp [FrmsLong]⟩
  · simp at hcs
    subst hcs
    simp only [if_true] at hmm
    subst hmm
    rw [hx] at hs
    simp only [DataW.weights, Tryz.underlying44] at hs
    have hlen : len' ≤ 2199023255488 := by
      have h1 := hs _ (List.mem_cons_self ..)
      rw [bytes_frm] at h1
      simp [reachBytes] at h1
      omega
    have each : ∀ i, i < len' → ∃ q : (Value × Value) × Frm, W.cell? (a.add (i * 4)) = some (.int .i64 q.2.fn) ∧ W.cell? (a.add (i * 4 + 1)) = some (.int .i64 q.2.pc) ∧ W.cell? (a.add (i * 4 + 2)) = some q.1.1 ∧ W.cell? (a.add (i * 4 + 3)) = some q.1.2 ∧ ValsAt W q.1.1 q.2.loc ∧ NilOk q.1.1 ∧ ValsAt W q.1.2 q.2.stk ∧ NilOk q.1.2 ∧ q.2.loc.length ≤ 8796093022208 ∧ q.2.stk.length ≤ 8796093022208 ∧ -9223372036854775808 ≤ q.2.pc ∧ q.2.pc ≤ 9223372036854775807 := by
      intro i hi
      obtain ⟨cs', h1, h2⟩ := hc i (by omega)
      rw [cells_frm] at h1
      obtain ⟨_, hlen, hcell⟩ := World.cells?_some h1
      match cs', hlen with
      | [c0, c1, c2, c3], _ =>
        obtain ⟨f, rfl, rfl, g2, g3, g4, g5, g6, g7⟩ := open_frmN (x := (D i, Pl i)) h2 (fun n hn => hs n (List.mem_cons_of_mem _ (List.mem_append_left _ (xdgZ (List.mem_map.2 ⟨i, List.mem_range.2 hi, rfl⟩) n hn))))
        have e0 := hcell 0 (by omega)
        have e1 := hcell 1 (by omega)
        have e2 := hcell 2 (by omega)
        have e3 := hcell 3 (by omega)
        rw [Deep.add_add] at e0 e1 e2 e3
        exact ⟨((c2, c3), f), by simpa using e0, by simpa using e1, by simpa using e2, by simpa using e3, g2, g3, g4, g5, g6, g7⟩
    obtain ⟨q, hq⟩ := Deep.choose_lt each
    refine ⟨(List.range len').map fun i => (q i).2, ⟨some a, m, by simp, by simp; omega, by simpa using hl, fun k f hk => ?_⟩, xauZ _ _ _, by simpa using hlen, fun f hf => ?_⟩
    · have hk1 : k < len' := by have := xcgZ hk; simpa using this
      have ho : f = (q k).2 := by simp [hk1] at hk; exact hk.symm
      obtain ⟨c0, c1, c2, c3, f1, f2, f3, f4, _⟩ := hq k (by omega)
      obtain ⟨b, off, spot⟩ := a
      have hs0 := (hq 0 (by omega)).1
      have hspot : spot = none := by simpa [Addr.add] using World.cell?_spot hs0
      subst hspot
      rw [xdrZ] at c0 c1 c2 c3
      rw [ho]
      exact ⟨b, off, _, _, rfl, xbwZ c0, c0, c1, c2, c3, f1, f2, f3, f4⟩
    · obtain ⟨i, hi, rfl⟩ := List.mem_map.1 hf
      obtain ⟨_, _, _, _, _, _, _, _, g6, g7⟩ := hq i (List.mem_range.1 hi)
      exact ⟨g6, g7⟩
structure MachLong (M : Mach) : Prop where
  fr : FrmsLong M.frames
  inp : M.inp.length ≤ 17592186044416
  out : M.out.length ≤ 17592186044416
theorem xhsZ {c : Value} (h : DataW.trod enc Tryz.prog W 0 (fun _ => true) true fuel 46 [c] = some x) (hs : ∀ n ∈ x.1.weights Tryz.prog 46, n ≤ reachBytes) : ∃ l : List Int, FullInts W c l ∧ l.length ≤ 17592186044416 := by
  obtain ⟨L, hL, nL, zL, pL, qL, capL, eL, lL⟩ := xheZ h hs
  refine ⟨L, ⟨hL, nL, fun p n c e => ?_⟩, zL⟩
  rw [eL] at e
  cases e
  exact lL
end
end Go.Proofs.YtmjjkenblfndgaaGreat


/- machine's checker: all frames, one that waits; Check. -/
namespace Go.Proofs.YtmjjkenblfndgaaGreat
open Go.RowKit
set_option linter.unusedSimpArgs false
set_option linter.unusedVariables false
def PcOk (M : Mach) : Prop := ∀ x ∈ M.frames, -9223372036854775808 ≤ x.pc ∧ x.pc ≤ 9223372036854775807
theorem xn0Z {p : List Fn} {e : Nat → Nat → Option (List Int)} {nb k kk : Nat} {F : List Frm} {x : Frm} {f : Fn} (hx : F[k]? = some x) (hk : x.fn = (kk : Int)) (hf : p[kk]? = some f) : xbzZ p e nb (F.drop k) = if xb8Z p e nb ((F[k + 1]?).map Frm.fn) x kk f ≠ 0 then xb8Z p e nb ((F[k + 1]?).map Frm.fn) x kk f else xbzZ p e nb (F.drop (k + 1)) := by
  have hd : F.drop k = x :: F.drop (k + 1) := by
    rw [List.drop_eq_getElem_cons (xadZ hx)]
    congr 1
    exact Option.some.inj ((List.getElem?_eq_getElem (xadZ hx)).symm.trans hx)
  rw [hd]
  have hkt : x.fn.toNat = kk := by omega
  simp only [xbzZ]
  rw [hkt, hf]
  simp only
  have hh : (F.drop (k + 1)).head?.map Frm.fn = (F[k + 1]?).map Frm.fn := by rw [List.head?_drop]
  rw [hh]
theorem xnlZ (M : Mach) (p : List Fn) (e : Nat → Nat → Option (List Int)) (pv fv bv iv ov : Value) (w : World) (hp : xanZ p = 0) (he : xaxZ p e) (h : CkAt w p pv fv bv iv ov M) (hall : M.frames.all (xb0Z p) = true) (h6 : M.frames.length ≤ 6) (hpc : PcOk M) : Calls Tryz.prog 108 #[chkV pv fv bv iv ov M] w (Says (xbzZ p e M.blocks.length M.frames) w) := by
  obtain ⟨⟨pp, qp, hpv⟩, ⟨pf, cf, hfv⟩, ⟨pb, cb, hbv⟩, ⟨pi, ci, hiv⟩, ⟨po, co, hov⟩⟩ := h.shp
  subst hpv hfv hbv hiv hov
  obtain ⟨W1, hW1⟩ : ∃ W1, w.alloc (.cells #[.slice pf M.frames.length cf, .slice pb M.blocks.length cb, .slice pi M.inp.length ci, .slice po M.out.length co, .int .i64 M.status, .int .i64 M.trap, .slice pp p.length qp] 121) = W1 := ⟨_, rfl⟩
  have b1 : Below w.heap.size w W1 := by rw [← hW1]; exact (Below.refl _ w).alloc (Nat.le_refl _) _
  have u1 : W1.heap[w.heap.size]? = some (.cells #[.slice pf M.frames.length cf, .slice pb M.blocks.length cb, .slice pi M.inp.length ci, .slice po M.out.length co, .int .i64 M.status, .int .i64 M.trap, .slice pp p.length qp] 121 (0, 0)) := by rw [← hW1]; exact World.alloc_heap_new w _
  have l1 := xacZ u1
  have a0 : W1.cell? ⟨w.heap.size, 0, none⟩ = some (.slice pf M.frames.length cf) := xaaZ u1 0
  have KC : Hid (∀ W, Below W1.heap.size W1 W → W.cell? ⟨w.heap.size, 0, none⟩ = some (.slice pf M.frames.length cf) ∧ W.cell? ⟨w.heap.size, 1, none⟩ = some (.slice pb M.blocks.length cb) ∧ W.cell? ⟨w.heap.size, 2, none⟩ = some (.slice pi M.inp.length ci) ∧ W.cell? ⟨w.heap.size, 3, none⟩ = some (.slice po M.out.length co) ∧ W.cell? ⟨w.heap.size, 4, none⟩ = some (.int .i64 M.status) ∧ W.cell? ⟨w.heap.size, 5, none⟩ = some (.int .i64 M.trap) ∧ W.cell? ⟨w.heap.size, 6, none⟩ = some (.slice pp p.length qp)) := fun W hW => by
    have hu := (hW.block _ l1).trans u1
    exact ⟨xaaZ hu 0, xaaZ hu 1, xaaZ hu 2, xaaZ hu 3, xaaZ hu 4, xaaZ hu 5, xaaZ hu 6⟩
  have HH := hideP h
  have HALL := hideP hall
  have HPC := hideP hpc
  have HP := hideP hp
  have HE := hideP he
  clear h hall hpc hp he u1
  go_enter Tryz.func108, Tryz.ntmps108
  go_wp2
  go_loopw [3, 9] (fun _ i wr => ∃ k : Nat, k ≤ M.frames.length ∧ i = .int .i64 k ∧ xbzZ p e M.blocks.length M.frames = xbzZ p e M.blocks.length (M.frames.drop k) ∧ Below W1.heap.size W1 wr) (fun _ i _ => M.frames.length - (intOf i).toNat)
  case atStart => exact ⟨0, Nat.zero_le _, rfl, by simp, Below.refl _ _⟩
  case round =>
    obtain ⟨k, hk, rfl, hfe, hbw⟩ := hrel
    have HFE := hideP hfe
    clear hfe
    by_cases hlt : k < M.frames.length
    · obtain ⟨x, hx⟩ := xagZ hlt
      obtain ⟨kk, f, hkk, hf⟩ := progFn (List.all_eq_true.1 HALL.out x (List.mem_of_getElem? hx))
      have hpcx := HPC.out x (List.mem_of_getElem? hx)
      have hbw1 := b1.trans (hbw.mono b1.size)
      obtain ⟨q0, q1, q2, q3, q4, q5, q6⟩ := KC.out wr hbw
      have HC := hideP (fits_any M p e _ _ _ _ _ k kk x f wr HP.out HE.out (HH.out.below hbw1) HALL.out hx hf hkk h6 hpcx.1 hpcx.2)
      have HAT := hideP (xn0Z (e := e) (nb := M.blocks.length) hx hkk hf)
      have hlti : (k : Int) < (M.frames.length : Int) := by omega
      generalize xb8Z p e M.blocks.length ((M.frames[k + 1]?).map Frm.fn) x kk f = a at HC HAT
      clear hx hkk hf hpcx
      by_cases h0 : a = 0
      · subst h0
        go_wp2_with fail
        refine HC.out.mono ?_
        rintro e' w2 ⟨rfl, b2⟩
        go_wp2
        go_roundw
        case rel => exact ⟨k + 1, by omega, by go_num, by rw [HFE.out, HAT.out, if_neg (by simp)], hbw.trans (b2.mono hbw.size)⟩
        case measure => simp [intOf]; omega
      · have h0' : (a != 0) = true := by simpa using h0
        have HN := hideP h0
        clear h0
        go_wp2_with fail
        refine HC.out.mono ?_
        rintro e' w2 ⟨rfl, b2⟩
        go_wp2
        go_ret
        exact ⟨by rw [HFE.out, HAT.out, if_pos HN.out]; rfl, hbw1.trans (b2.mono hbw1.size)⟩
    · have hlt' : ¬ (k : Int) < (M.frames.length : Int) := by omega
      go_wp2
      go_ret
      refine ⟨?_, b1.trans (hbw.mono b1.size)⟩
      rw [HFE.out, List.drop_of_length_le (by omega)]
      rfl
theorem xmrZ (M : Mach) (p : List Fn) (pv fv bv iv ov : Value) (w : World) (h : CkAt w p pv fv bv iv ov M) (hpl : p.length ≤ 1000) (h6 : M.frames.length ≤ 1000) (hi10 : M.inp.length ≤ 1000)
    (hw : M.status = 1 → ∃ (x : Frm) (kk pc : Nat) (f : Fn) (o : Int × Int), M.frames.getLast? = some x ∧ x.fn = (kk : Int) ∧ p[kk]? = some f ∧ x.pc = (pc : Int) ∧ f.2.2.2[pc]? = some o ∧ f.2.2.2.length ≤ 1000) : Calls Tryz.prog 109 #[chkV pv fv bv iv ov M] w (Says (xepZ p M) w) := by
  obtain ⟨⟨pp, qp, hpv⟩, -, ⟨pb, cb, hbv⟩, ⟨pi, ci, hiv⟩, ⟨po, co, hov⟩⟩ := h.shp
  obtain ⟨pf, cf, hfv, hfm, -, hfc⟩ := id h.mach.fr
  subst hpv hfv hbv hiv hov
  by_cases h1 : M.status = 1
  rotate_left
  · have h1' : (M.status != 1) = true := by simpa using h1
    have HN := hideP h1
    clear h1 hw hfc h
    go_enter Tryz.func109, Tryz.ntmps109
    go_wp2
    go_ret
    exact xbtZ (by unfold xepZ; rw [if_pos HN.out])
  obtain ⟨x, kk, pc, f, o, hx, hkk, hf, hxp, ho, hcl⟩ := hw h1
  obtain ⟨c, A⟩ := o
  have hlo : xcfZ p M = some (c, A) := by
    unfold xcfZ
    rw [hx]
    simp only [Option.bind_some, show x.fn.toNat = kk by omega, hf, show x.pc.toNat = pc by omega, ho]
  have h1' : (M.status != 1) = false := by simpa using h1
  have hwe : xepZ p M = if c ≠ 21 ∨ 0 < M.inp.length then 4 else 0 := by
    unfold xepZ
    rw [if_neg (by simpa using h1), hlo]
  obtain ⟨n, hn⟩ : ∃ n, M.frames.length = n + 1 := by
    cases hm : M.frames with
    | nil => rw [hm] at hx; simp at hx
    | cons a r => exact ⟨r.length, by simp⟩
  have hxn : M.frames[n]? = some x := by rw [← hx, List.getLast?_eq_getElem?, hn]; rfl
  obtain ⟨g, off, lv1, sv1, rfl, hg, x0, x1, x2, x3, hL, -, hS, -⟩ := hfc n x hxn
  obtain ⟨pl1, cl1, hlv1, hlm1, -⟩ := id hL
  obtain ⟨ps1, cs1, hsv1, hsm1, -⟩ := id hS
  subst hlv1 hsv1
  obtain ⟨pp', qp', hpe, -, hpc⟩ := id h.fns
  cases hpe
  obtain ⟨fb, fo, c0, c1, c2, c3, hpp, hplt, -, -, -, z3, hfn⟩ := hpc kk f hf
  subst hpp
  obtain ⟨-, -, -, hops⟩ := hfn
  obtain ⟨p3, q3, he3, -, hoc⟩ := id hops
  subst he3
  obtain ⟨ob, oo, hob, holt, o0, o1⟩ := hoc pc _ ho
  subst hob
  simp only at o0
  have hkl := xadZ hf
  have hpl' := xadZ ho
  have hkli : (kk : Int) < (p.length : Int) := by omega
  have hpcli : (pc : Int) < (f.2.2.2.length : Int) := by omega
  rw [hkk] at x0
  rw [hxp] at x1
  have x0a := fun o => xabZ x0 o
  have x1a := fun o => xabZ x1 o
  have x2a := fun o => xabZ x2 o
  have x3a := fun o => xabZ x3 o
  have z3b := fun o o' => xabZ (xabZ z3 o) o'
  have o0b := fun o o' => xabZ (xabZ o0 o) o'
  rw [hn]
  have hnlt : (n : Int) < ((n + 1 : Nat) : Int) := by omega
  have hn6 : n ≤ 1000 := by omega
  have hb2 : ∀ o o', Below w.heap.size w ((w.alloc o).alloc o') := fun o o' => ((Below.refl _ w).alloc (Nat.le_refl _) _).alloc (by simp) _
  have HWE := hideP hwe
  have HST := hideP h1
  clear hw h hx hkk hf hxp ho hlo hwe hn hxn hfc hpc hoc hops hL hS x0 x1 x2 x3 h1
  by_cases hc : c = 21
  · have hc' : (c != 21) = false := by simpa using hc
    have HC := hideP hc
    clear hc
    by_cases hi : 0 < M.inp.length
    · have hi' : (0 : Int) < (M.inp.length : Int) := by omega
      have hid : decide ((M.inp.length : Int) > 0) = true := by simpa using hi'
      go_enter Tryz.func109, Tryz.ntmps109
      go_wp2
      go_quiet (fail)
      go_wp2
      go_ret
      exact ⟨by rw [HWE.out, if_pos (.inr hi)]; rfl, below_drewN (hb2 _ _) _⟩
    · have hi' : ¬ (0 : Int) < (M.inp.length : Int) := by omega
      have hid : decide ((M.inp.length : Int) > 0) = false := by simpa using hi'
      go_enter Tryz.func109, Tryz.ntmps109
      go_wp2
      go_quiet (fail)
      go_wp2
      go_ret
      exact ⟨by rw [HWE.out, if_neg (by have := HC.out; omega)]; rfl, below_drewN (hb2 _ _) _⟩
  · have hc' : (c != 21) = true := by simpa using hc
    have HC := hideP hc
    clear hc
    go_enter Tryz.func109, Tryz.ntmps109
    go_wp2
    go_quiet (fail)
    go_wp2
    go_ret
    exact ⟨by rw [HWE.out, if_pos (.inl HC.out)]; rfl, below_drewN (hb2 _ _) _⟩
end Go.Proofs.YtmjjkenblfndgaaGreat


/- machine.Check. -/
namespace Go.Proofs.YtmjjkenblfndgaaGreat
open Go.RowKit
set_option linter.unusedSimpArgs false
set_option linter.unusedVariables false
theorem xh4Z {p : List Fn} {M : Mach} (h : xb9Z p M = 0) : M.frames.all (xb0Z p) = true := by
  unfold xb9Z at h
  split at h
  · cases h
  · rename_i a; simpa using a
theorem xhoZ {M : Mach} (h : xc2Z M = 0) : M.frames.length ≤ 6 ∧ (M.frames.length = 0 → M.status = 2) := by
  unfold xc2Z at h
  split at h
  · cases h
  split at h
  · cases h
  · omega
theorem xo8Z {M : Mach} (h : xc9Z M = 0) : M.inp.length ≤ 10 := by
  unfold xc9Z at h
  split at h
  · cases h
  · omega
theorem ckAll_any (M : Mach) (p : List Fn) (e : Nat → Nat → Option (List Int)) (pv fv bv iv ov : Value) (w : World) (hp : xanZ p = 0) (he : xaxZ p e) (h : CkAt w p pv fv bv iv ov M) (hpc : PcOk M) : Calls Tryz.prog 75 #[chkV pv fv bv iv ov M] w (Says (xisZ p e M) w) := by
  obtain ⟨⟨pp, qp, hpv⟩, ⟨pf, cf, hfv⟩, ⟨pb, cb, hbv⟩, ⟨pi, ci, hiv⟩, ⟨po, co, hov⟩⟩ := h.shp
  have s1 : ∃ q n c, pv = .slice q n c := ⟨_, _, _, hpv⟩
  have s2 : ∃ q n c, fv = .slice q n c := ⟨_, _, _, hfv⟩
  have s3 : ∃ q n c, bv = .slice q n c := ⟨_, _, _, hbv⟩
  have s4 : ∃ q n c, iv = .slice q n c := ⟨_, _, _, hiv⟩
  have s5 : ∃ q n c, ov = .slice q n c := ⟨_, _, _, hov⟩
  refine check_gen M pv fv bv iv ov [stErr M, blkErr M.blocks, xc9Z M, xc2Z M, xb9Z p M, xbzZ p e M.blocks.length M.frames, xepZ p M] w s1 s2 s3 s4 s5 rfl (fun k F a hF ha hz W hW => ?_)
  have hW' := h.below hW
  rcases k with _ | _ | _ | _ | _ | _ | _ | k
  · cases hF
    cases ha
    exact xnmZ M pv fv bv iv ov W s1 s2 s3 s4 s5
  · cases hF
    cases ha
    exact xnkZ M pv fv bv iv ov W s1 s2 hW'.mach.bl s4 s5
  · cases hF
    cases ha
    exact xpdZ M pv fv bv iv ov W s1 s2 s3 hW'.mach.inp.at_ hW'.mach.out.at_
  · cases hF
    cases ha
    rw [hfv]
    exact xpeZ M pv bv iv ov pf cf W s1 s3 s4 s5
  · cases hF
    cases ha
    rw [hpv]
    exact xpgZ M p fv bv iv ov pp qp W hW'.mach.fr s3 s4 s5
  · cases hF
    cases ha
    have h4 : xb9Z p M = 0 := hz _ (by simp)
    have h3 : xc2Z M = 0 := hz _ (by simp)
    exact xnlZ M p e pv fv bv iv ov W hp he hW' (xh4Z h4) (xhoZ h3).1 hpc
  · cases hF
    cases ha
    have h5 : xbzZ p e M.blocks.length M.frames = 0 := hz _ (by simp)
    have h4 : xb9Z p M = 0 := hz _ (by simp)
    have h3 : xc2Z M = 0 := hz _ (by simp)
    have h2 : xc9Z M = 0 := hz _ (by simp)
    obtain ⟨d6, d0⟩ := xhoZ h3
    have hb := xo8Z h2
    have hps := xhiZ hp
    refine xmrZ M p pv fv bv iv ov W hW' (by omega) (by omega) (by omega) (fun hst => ?_)
    have hne : M.frames ≠ [] := fun h0 => by have := d0 (by rw [h0]; rfl); omega
    obtain ⟨x, hx⟩ : ∃ x, M.frames.getLast? = some x := ⟨_, List.getLast?_eq_some_getLast hne⟩
    have hi : M.frames[M.frames.length - 1]? = some x := by rw [← hx, List.getLast?_eq_getElem?]
    obtain ⟨k, f, hr⟩ := (xd5Z he (xh4Z h4)).1 h5 _ x hi
    have hpos := List.length_pos_iff.2 hne
    rw [show M.frames[M.frames.length - 1 + 1]? = none from List.getElem?_eq_none (by omega)] at hr
    obtain ⟨pc, s, o, out, g1, g2, g3, g4, _⟩ := xe8Z he hr
    exact ⟨x, k, pc, f, o, hx, hr.fn, hr.at_, g1, g4, (xglZ hp he hr.at_).2⟩
  · simp [ckFns] at hF
theorem xkjZ (M : Mach) (p : List Fn) (pv fv bv iv ov : Value) (w : World) (h : CkAt w p pv fv bv iv ov M) (hpc : PcOk M) : Calls Tryz.prog 36 #[.agg #[pv], .agg #[fv, bv, iv, ov, .int .i64 M.status, .int .i64 M.trap]] w (Says (xbiZ p M) w) := by
  obtain ⟨⟨pp, qp, hpv⟩, ⟨pf, cf, hfv⟩, ⟨pb, cb, hbv⟩, ⟨pi, ci, hiv⟩, ⟨po, co, hov⟩⟩ := h.shp
  subst hpv hfv hbv hiv hov
  obtain ⟨W1, hW1⟩ : ∃ W1, (w.alloc (.cells #[.slice pp p.length qp] 24)).alloc (.cells #[.slice pf M.frames.length cf, .slice pb M.blocks.length cb, .slice pi M.inp.length ci, .slice po M.out.length co, .int .i64 M.status, .int .i64 M.trap] 48) = W1 := ⟨_, rfl⟩
  have b1 : Below w.heap.size w W1 := by rw [← hW1]; exact ((Below.refl _ w).alloc (Nat.le_refl _) _).alloc (by simp) _
  have u1 : W1.heap[w.heap.size]? = some (.cells #[.slice pp p.length qp] 24 (0, 0)) := by rw [← hW1]; exact xalZ (World.alloc_heap_new w _) _
  have u2 : W1.heap[w.heap.size + 1]? = some (.cells #[.slice pf M.frames.length cf, .slice pb M.blocks.length cb, .slice pi M.inp.length ci, .slice po M.out.length co, .int .i64 M.status, .int .i64 M.trap] 48 (0, 0)) := by rw [← hW1]; exact xazZ w _ _
  have l1 := xacZ u1
  have l2 := xacZ u2
  have a0 : W1.cell? ⟨w.heap.size, 0, none⟩ = some (.slice pp p.length qp) := xaaZ u1 0
  have H1 := h.below b1
  have HV := hideP (xe1Z p _ W1 H1.fns H1.cap)
  have HH := hideP H1
  have HU1 := hideP u1
  have HU2 := hideP u2
  have HPC := hideP hpc
  clear h H1 u1 u2 hpc
  go_enter Tryz.func36, Tryz.ntmps36
  go_wp2_with fail
  refine HV.out.mono ?_
  rintro e' w2 ⟨er, rfl, hpi, b2⟩
  have hfe := xezZ hpi
  have v1 := (b2.block _ l1).trans HU1.out
  have v2 := (b2.block _ l2).trans HU2.out
  have c0 : w2.cell? ⟨w.heap.size, 0, none⟩ = some (.slice pp p.length qp) := xaaZ v1 0
  have d0 : w2.cell? ⟨w.heap.size + 1, 0, none⟩ = some (.slice pf M.frames.length cf) := xaaZ v2 0
  have d1 : w2.cell? ⟨w.heap.size + 1, 1, none⟩ = some (.slice pb M.blocks.length cb) := xaaZ v2 1
  have d2 : w2.cell? ⟨w.heap.size + 1, 2, none⟩ = some (.slice pi M.inp.length ci) := xaaZ v2 2
  have d3 : w2.cell? ⟨w.heap.size + 1, 3, none⟩ = some (.slice po M.out.length co) := xaaZ v2 3
  have d4 : w2.cell? ⟨w.heap.size + 1, 4, none⟩ = some (.int .i64 M.status) := xaaZ v2 4
  have d5 : w2.cell? ⟨w.heap.size + 1, 5, none⟩ = some (.int .i64 M.trap) := xaaZ v2 5
  have HFE := hideP hfe
  clear v1 v2 hfe hpi
  by_cases h0 : er = 0
  · subst h0
    obtain ⟨hp, he⟩ := xdkZ.1 HFE.out.symm
    have HC := hideP (ckAll_any M p (entP p) _ _ _ _ _ w2 hp he (HH.out.below b2) HPC.out)
    clear hp he
    go_wp2_with fail
    refine HC.out.mono ?_
    rintro e' w3 ⟨rfl, b3⟩
    go_wp2
    go_ret
    exact ⟨by unfold xbiZ; rw [if_neg (by rw [← HFE.out]; simp)]; rfl, xafZ (xafZ b1 b2) b3⟩
  · have h0' : (er != 0) = true := by simpa using h0
    have HN := hideP h0
    clear h0
    go_wp2
    go_ret
    exact ⟨by unfold xbiZ; rw [if_pos (by rw [← HFE.out]; exact HN.out), HFE.out]; rfl, xafZ b1 b2⟩
end Go.Proofs.YtmjjkenblfndgaaGreat


/- Worlds in memory. -/
namespace Go.Proofs.YtmjjkenblfndgaaGreat
open Go.RowKit
set_option linter.unusedSimpArgs false
set_option linter.unusedVariables false
def MachsAt (W : World) (v : Value) (L : List Mach) : Prop :=
  ∃ (p : Option Addr) (cap : Nat), v = .slice p L.length cap ∧ L.length ≤ maxLen ∧ L.length ≤ cap ∧ ∀ k M, L[k]? = some M →
    ∃ g off fv bv iv ov, p = some ⟨g, off, none⟩ ∧ g < W.heap.size ∧ W.cell? ⟨g, off + k * 6, none⟩ = some fv ∧ W.cell? ⟨g, off + k * 6 + 1, none⟩ = some bv ∧ W.cell? ⟨g, off + k * 6 + 2, none⟩ = some iv ∧ W.cell? ⟨g, off + k * 6 + 3, none⟩ = some ov ∧ W.cell? ⟨g, off + k * 6 + 4, none⟩ = some (.int .i64 M.status) ∧ W.cell? ⟨g, off + k * 6 + 5, none⟩ = some (.int .i64 M.trap) ∧ MachAt W fv bv iv ov M
theorem MachsAt.below {w w' : World} {v : Value} {L : List Mach} (h : MachsAt w v L) (hb : Below w.heap.size w w') : MachsAt w' v L := by
  obtain ⟨p, cap, rfl, hm, hc, hf⟩ := h
  refine ⟨p, cap, rfl, hm, hc, fun k M hk => ?_⟩
  obtain ⟨g, off, fv, bv, iv, ov, hp, hg, h0, h1, h2, h3, h4, h5, h6⟩ := hf k M hk
  exact ⟨g, off, fv, bv, iv, ov, hp, Nat.lt_of_lt_of_le hg hb.size, (hb.cell (p := ⟨g, off + k * 6, none⟩) hg).trans h0, (hb.cell (p := ⟨g, off + k * 6 + 1, none⟩) hg).trans h1, (hb.cell (p := ⟨g, off + k * 6 + 2, none⟩) hg).trans h2, (hb.cell (p := ⟨g, off + k * 6 + 3, none⟩) hg).trans h3, (hb.cell (p := ⟨g, off + k * 6 + 4, none⟩) hg).trans h4, (hb.cell (p := ⟨g, off + k * 6 + 5, none⟩) hg).trans h5, h6.below hb⟩
theorem MachsAt.shp {W : World} {v : Value} {L : List Mach} (h : MachsAt W v L) : ∃ p c, v = .slice p L.length c ∧ L.length ≤ c := by
  obtain ⟨p, c, h1, _, h2, _⟩ := h
  exact ⟨p, c, h1, h2⟩
theorem MachAt.shp {W : World} {fv bv iv ov : Value} {M : Mach} (h : MachAt W fv bv iv ov M) : (∃ q c, fv = .slice q M.frames.length c) ∧ (∃ q c, bv = .slice q M.blocks.length c) ∧ (∃ q c, iv = .slice q M.inp.length c) ∧ ∃ q c, ov = .slice q M.out.length c := by
  obtain ⟨pf, cf, h2, -, -, -⟩ := h.fr
  obtain ⟨pb, cb, h3, -⟩ := h.bl
  obtain ⟨pi, ci, h4, -⟩ := h.inp.shp
  obtain ⟨po, co, h5, -⟩ := h.out.shp
  exact ⟨⟨_, _, h2⟩, ⟨_, _, h3⟩, ⟨_, _, h4⟩, ⟨_, _, h5⟩⟩
end Go.Proofs.YtmjjkenblfndgaaGreat


