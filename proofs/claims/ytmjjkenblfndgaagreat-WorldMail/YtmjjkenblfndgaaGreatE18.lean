/- My texts Xg Ni Nj Za Mi Mj Mk: what of them is needed, joined. -/
import Derived.Lib.SmallJoins
import Derived.Test.YtmjjkenblfndgaaGreatE4
import Derived.Test.YtmjjkenblfndgaaGreatE10
import Derived.Test.YtmjjkenblfndgaaGreatE11
import Derived.Test.YtmjjkenblfndgaaGreatE12
import Derived.Test.YtmjjkenblfndgaaGreatE13
import Derived.Test.YtmjjkenblfndgaaGreatE14
import Derived.Test.YtmjjkenblfndgaaGreatE17
set_option maxRecDepth 100000
set_option maxHeartbeats 8000000
/- Machines that came in. -/
namespace Go.Proofs.YtmjjkenblfndgaaGreat
open Go.ChangeShapes Go.WideShapes Go.ChangeAt Go.RowKit
set_option linter.unusedVariables false
set_option linter.unusedSimpArgs false
section
variable {H : Type} {enc : TypeId × Value → H} {W : World} {fuel : Nat} {x : DataW H × List MemPlace}
theorem bytes_val : Tryz.prog.bytesOf 113 = 16 := by kernel_rfl
theorem bytes_frm : Tryz.prog.bytesOf 89 = 64 := by kernel_rfl
theorem cells_vals : Tryz.prog.cellsOf 87 = 1 := by kernel_rfl
theorem cells_frm : Tryz.prog.cellsOf 89 = 4 := by kernel_rfl
theorem cells_frms : Tryz.prog.cellsOf 44 = 1 := by kernel_rfl
theorem cells_blks : Tryz.prog.cellsOf 45 = 1 := by kernel_rfl
theorem cells_mach : Tryz.prog.cellsOf 48 = 6 := by kernel_rfl
def boolOf : Value → Bool
  | .bool b => b
  | _ => false
theorem xkyZ {c : Value} (h : DataW.trod enc Tryz.prog W 0 (fun _ => true) true fuel 87 [c] = some x) (hs : ∀ n ∈ x.1.weights Tryz.prog 87, n ≤ reachBytes) : ∃ l : List Val, ValsAt W c l ∧ NilOk c ∧ l.length ≤ 8796093022208 := by
  rcases Deep.open_slice_pairs Tryz.underlying87 Tryz.underlying113 (by kernel_rfl) rfl rfl (by kernel_rfl) (by kernel_rfl) h with ⟨hcs, hx⟩ | ⟨a, len', cap', m, n, V0, V1, D0, D1, P0, P1, hcs, hb, hl, hm, hmm, hx, hc⟩
  · simp at hcs
    subst hcs
    exact ⟨[], ⟨none, 0, rfl, Nat.zero_le _, fun k o hk => by simp at hk⟩, xeqZ, by simp⟩
  · simp at hcs
    subst hcs
    simp only [if_true] at hmm
    subst hmm
    have hlen : len' ≤ 8796093022208 := by
      have hx1 := congrArg Prod.fst hx
      simp only at hx1
      rw [hx1] at hs
      simp only [DataW.weights, Tryz.underlying87] at hs
      have h1 := hs _ (List.mem_cons_self ..)
      rw [bytes_val] at h1
      simp [reachBytes] at h1
      omega
    refine ⟨(List.range len').map fun i => (boolOf (V0 i), intOf (V1 i)), ⟨some a, m, by simp, by simp; omega, fun k o hk => ?_⟩, xavZ _ _ _, by simpa using hlen⟩
    have hk1 : k < len' := by have := xciZ hk; simpa using this
    have ho : o = (boolOf (V0 k), intOf (V1 k)) := by simp [hk1] at hk; exact hk.symm
    obtain ⟨c0, c1, t0, t1⟩ := hc k (by omega)
    obtain ⟨x, e0, _⟩ := DataW.trod_bool Tryz.underlying4 t0
    obtain ⟨y, e1, _, wy⟩ := DataW.trod_int Tryz.underlying3 t1
    simp at e0 e1
    obtain ⟨b, off, spot⟩ := a
    have hs0 := (hc 0 (by omega)).1
    have hspot : spot = none := by simpa [Addr.add] using World.cell?_spot hs0
    subst hspot
    rw [xdsZ] at c0 c1
    rw [e0] at c0
    rw [e1] at c1
    exact ⟨b, off, rfl, xbkZ c0, by rw [ho, e0]; exact c0, by rw [ho, e1]; exact c1⟩
instance : Inhabited Frm := ⟨⟨0, 0, [], []⟩⟩
theorem open_frmN {c0 c1 c2 c3 : Value} (h : DataW.trod enc Tryz.prog W 0 (fun _ => true) true fuel 89 [c0, c1, c2, c3] = some x) (hs : ∀ n ∈ x.1.weights Tryz.prog 89, n ≤ reachBytes) : ∃ f : Frm, c0 = .int .i64 f.fn ∧ c1 = .int .i64 f.pc ∧ ValsAt W c2 f.loc ∧ NilOk c2 ∧ ValsAt W c3 f.stk ∧ NilOk c3 ∧ f.loc.length ≤ 8796093022208 ∧ f.stk.length ≤ 8796093022208 ∧ -9223372036854775808 ≤ f.pc ∧ f.pc ≤ 9223372036854775807 := by
  obtain ⟨y0, y1, y2, y3, n, hx, _, h0, h1, h2, h3⟩ := Go.Joins.trod_struct4 Tryz.underlying89 h
  simp [xgiZ, cells_vals] at h0 h1 h2 h3
  have hx1 := congrArg Prod.fst hx
  simp only at hx1
  rw [hx1] at hs
  simp only [DataW.weights, Tryz.underlying89] at hs
  obtain ⟨P, e0, _⟩ := DataW.trod_int Tryz.underlying3 h0
  obtain ⟨R, e1, _, wR⟩ := DataW.trod_int Tryz.underlying3 h1
  have hR : -9223372036854775808 ≤ R ∧ R ≤ 9223372036854775807 := by simpa [Lit.wf, IntKind.min, IntKind.max, IntKind.bits, IntKind.signed] using wR
  obtain ⟨L, hL, nL, zL⟩ := xkyZ h2 (fun n hn => hs n (by simp [DataW.weightsEach, hn]))
  obtain ⟨C, hC, nC, zC⟩ := xkyZ h3 (fun n hn => hs n (by simp [DataW.weightsEach, hn]))
  simp at e0 e1
  exact ⟨⟨P, R, L, C⟩, e0, e1, hL, nL, hC, nC, zL, zC, hR.1, hR.2⟩
def FrmsLong (F : List Frm) : Prop := F.length ≤ 2199023255488 ∧ ∀ x ∈ F, x.loc.length ≤ 8796093022208 ∧ x.stk.length ≤ 8796093022208 ∧ -9223372036854775808 ≤ x.pc ∧ x.pc ≤ 9223372036854775807
theorem open_frmsC {c : Value} (h : DataW.trod enc Tryz.prog W 0 (fun _ => true) true fuel 44 [c] = some x) (hs : ∀ n ∈ x.1.weights Tryz.prog 44, n ≤ reachBytes) : ∃ F : List Frm, FrmsAt W c F ∧ NilOk c ∧ FrmsLong F := by
  rcases Deep.open_slice Tryz.underlying44 h with ⟨hcs, hx⟩ | ⟨a, len', cap', m, n, D, Pl, hcs, hb, hl, hm, hmm, hx, hc⟩
  · simp at hcs
    subst hcs
    exact ⟨[], ⟨none, 0, rfl, Nat.zero_le _, Nat.zero_le _, fun k o hk => by simp at hk⟩, xeqZ, by simp [FrmsLong]⟩
  · simp at hcs
    subst hcs
    simp only [if_true] at hmm
    subst hmm
    rw [hx] at hs
    simp only [DataW.weights, Tryz.underlying44] at hs
    have hlen : len' ≤ 2199023255488 := by
      have h1 := hs _ (List.mem_cons_self ..)
      rw [bytes_frm] at h1
      simp [reachBytes] at h1
      omega
    have each : ∀ i, i < len' → ∃ q : (Value × Value) × Frm, W.cell? (a.add (i * 4)) = some (.int .i64 q.2.fn) ∧ W.cell? (a.add (i * 4 + 1)) = some (.int .i64 q.2.pc) ∧ W.cell? (a.add (i * 4 + 2)) = some q.1.1 ∧ W.cell? (a.add (i * 4 + 3)) = some q.1.2 ∧ ValsAt W q.1.1 q.2.loc ∧ NilOk q.1.1 ∧ ValsAt W q.1.2 q.2.stk ∧ NilOk q.1.2 ∧ q.2.loc.length ≤ 8796093022208 ∧ q.2.stk.length ≤ 8796093022208 ∧ -9223372036854775808 ≤ q.2.pc ∧ q.2.pc ≤ 9223372036854775807 := by
      intro i hi
      obtain ⟨cs', h1, h2⟩ := hc i (by omega)
      rw [cells_frm] at h1
      obtain ⟨_, hlen, hcell⟩ := World.cells?_some h1
      match cs', hlen with
      | [c0, c1, c2, c3], _ =>
        obtain ⟨f, rfl, rfl, g2, g3, g4, g5, g6, g7⟩ := open_frmN (x := (D i, Pl i)) h2 (fun n hn => hs n (List.mem_cons_of_mem _ (List.mem_append_left _ (xdhZ (List.mem_map.2 ⟨i, List.mem_range.2 hi, rfl⟩) n hn))))
        have e0 := hcell 0 (by omega)
        have e1 := hcell 1 (by omega)
        have e2 := hcell 2 (by omega)
        have e3 := hcell 3 (by omega)
        rw [Deep.add_add] at e0 e1 e2 e3
        exact ⟨((c2, c3), f), by simpa using e0, by simpa using e1, by simpa using e2, by simpa using e3, g2, g3, g4, g5, g6, g7⟩
    obtain ⟨q, hq⟩ := Deep.choose_lt each
    refine ⟨(List.range len').map fun i => (q i).2, ⟨some a, m, by simp, by simp; omega, by simpa using hl, fun k f hk => ?_⟩, xavZ _ _ _, by simpa using hlen, fun f hf => ?_⟩
    · have hk1 : k < len' := by have := xciZ hk; simpa using this
      have ho : f = (q k).2 := by simp [hk1] at hk; exact hk.symm
      obtain ⟨c0, c1, c2, c3, f1, f2, f3, f4, _⟩ := hq k (by omega)
      obtain ⟨b, off, spot⟩ := a
      have hs0 := (hq 0 (by omega)).1
      have hspot : spot = none := by simpa [Addr.add] using World.cell?_spot hs0
      subst hspot
      rw [xdsZ] at c0 c1 c2 c3
      rw [ho]
      exact ⟨b, off, _, _, rfl, xbkZ c0, c0, c1, c2, c3, f1, f2, f3, f4⟩
    · obtain ⟨i, hi, rfl⟩ := List.mem_map.1 hf
      obtain ⟨_, _, _, _, _, _, _, _, g6, g7⟩ := hq i (List.mem_range.1 hi)
      exact ⟨g6, g7⟩
structure MachLong (M : Mach) : Prop where
  fr : FrmsLong M.frames
  inp : M.inp.length ≤ 17592186044416
  out : M.out.length ≤ 17592186044416
theorem xh0Z {c : Value} (h : DataW.trod enc Tryz.prog W 0 (fun _ => true) true fuel 46 [c] = some x) (hs : ∀ n ∈ x.1.weights Tryz.prog 46, n ≤ reachBytes) : ∃ l : List Int, FullInts W c l ∧ l.length ≤ 17592186044416 := by
  obtain ⟨L, hL, nL, zL, pL, qL, capL, eL, lL⟩ := xhkZ h hs
  refine ⟨L, ⟨hL, nL, fun p n c e => ?_⟩, zL⟩
  rw [eL] at e
  cases e
  exact lL
end
end Go.Proofs.YtmjjkenblfndgaaGreat


/- machine's checker: all frames, one that waits; Check. -/
namespace Go.Proofs.YtmjjkenblfndgaaGreat
open Go.RowKit
set_option linter.unusedSimpArgs false
set_option linter.unusedVariables false
def PcOk (M : Mach) : Prop := ∀ x ∈ M.frames, -9223372036854775808 ≤ x.pc ∧ x.pc ≤ 9223372036854775807
theorem xn8Z {p : List Fn} {e : Nat → Nat → Option (List Int)} {nb k kk : Nat} {F : List Frm} {x : Frm} {f : Fn} (hx : F[k]? = some x) (hk : x.fn = (kk : Int)) (hf : p[kk]? = some f) : xbzZ p e nb (F.drop k) = if xcaZ p e nb ((F[k + 1]?).map Frm.fn) x kk f ≠ 0 then xcaZ p e nb ((F[k + 1]?).map Frm.fn) x kk f else xbzZ p e nb (F.drop (k + 1)) := by
  have hd : F.drop k = x :: F.drop (k + 1) := by
    rw [List.drop_eq_getElem_cons (xadZ hx)]
    congr 1
    exact Option.some.inj ((List.getElem?_eq_getElem (xadZ hx)).symm.trans hx)
  rw [hd]
  have hkt : x.fn.toNat = kk := by omega
  simp only [xbzZ]
  rw [hkt, hf]
  simp only
  have hh : (F.drop (k + 1)).head?.map Frm.fn = (F[k + 1]?).map Frm.fn := by rw [List.head?_drop]
  rw [hh]
theorem xntZ (M : Mach) (p : List Fn) (e : Nat → Nat → Option (List Int)) (pv fv bv iv ov : Value) (w : World) (hp : xanZ p = 0) (he : xaxZ p e) (h : CkAt w p pv fv bv iv ov M) (hall : M.frames.all (xb0Z p) = true) (h6 : M.frames.length ≤ 6) (hpc : PcOk M) : Calls Tryz.prog 108 #[chkV pv fv bv iv ov M] w (Says (xbzZ p e M.blocks.length M.frames) w) := by
  obtain ⟨⟨pp, qp, hpv⟩, ⟨pf, cf, hfv⟩, ⟨pb, cb, hbv⟩, ⟨pi, ci, hiv⟩, ⟨po, co, hov⟩⟩ := h.shp
  subst hpv hfv hbv hiv hov
  obtain ⟨W1, hW1⟩ : ∃ W1, w.alloc (.cells #[.slice pf M.frames.length cf, .slice pb M.blocks.length cb, .slice pi M.inp.length ci, .slice po M.out.length co, .int .i64 M.status, .int .i64 M.trap, .slice pp p.length qp] 121) = W1 := ⟨_, rfl⟩
  have b1 : Below w.heap.size w W1 := by rw [← hW1]; exact (Below.refl _ w).alloc (Nat.le_refl _) _
  have u1 : W1.heap[w.heap.size]? = some (.cells #[.slice pf M.frames.length cf, .slice pb M.blocks.length cb, .slice pi M.inp.length ci, .slice po M.out.length co, .int .i64 M.status, .int .i64 M.trap, .slice pp p.length qp] 121 (0, 0)) := by rw [← hW1]; exact World.alloc_heap_new w _
  have l1 := xacZ u1
  have a0 : W1.cell? ⟨w.heap.size, 0, none⟩ = some (.slice pf M.frames.length cf) := xaaZ u1 0
  have KC : Hid (∀ W, Below W1.heap.size W1 W → W.cell? ⟨w.heap.size, 0, none⟩ = some (.slice pf M.frames.length cf) ∧ W.cell? ⟨w.heap.size, 1, none⟩ = some (.slice pb M.blocks.length cb) ∧ W.cell? ⟨w.heap.size, 2, none⟩ = some (.slice pi M.inp.length ci) ∧ W.cell? ⟨w.heap.size, 3, none⟩ = some (.slice po M.out.length co) ∧ W.cell? ⟨w.heap.size, 4, none⟩ = some (.int .i64 M.status) ∧ W.cell? ⟨w.heap.size, 5, none⟩ = some (.int .i64 M.trap) ∧ W.cell? ⟨w.heap.size, 6, none⟩ = some (.slice pp p.length qp)) := fun W hW => by
    have hu := (hW.block _ l1).trans u1
    exact ⟨xaaZ hu 0, xaaZ hu 1, xaaZ hu 2, xaaZ hu 3, xaaZ hu 4, xaaZ hu 5, xaaZ hu 6⟩
  have HH := hideP h
  have HALL := hideP hall
  have HPC := hideP hpc
  have HP := hideP hp
  have HE := hideP he
  clear h hall hpc hp he u1
  go_enter Tryz.func108, Tryz.ntmps108
  go_wp2
  go_loopw [3, 9] (fun _ i wr => ∃ k : Nat, k ≤ M.frames.length ∧ i = .int .i64 k ∧ xbzZ p e M.blocks.length M.frames = xbzZ p e M.blocks.length (M.frames.drop k) ∧ Below W1.heap.size W1 wr) (fun _ i _ => M.frames.length - (intOf i).toNat)
  case atStart => exact ⟨0, Nat.zero_le _, rfl, by simp, Below.refl _ _⟩
  case round =>
    obtain ⟨k, hk, rfl, hfe, hbw⟩ := hrel
    have HFE := hideP hfe
    clear hfe
    by_cases hlt : k < M.frames.length
    · obtain ⟨x, hx⟩ := xagZ hlt
      obtain ⟨kk, f, hkk, hf⟩ := progFn (List.all_eq_true.1 HALL.out x (List.mem_of_getElem? hx))
      have hpcx := HPC.out x (List.mem_of_getElem? hx)
      have hbw1 := b1.trans (hbw.mono b1.size)
      obtain ⟨q0, q1, q2, q3, q4, q5, q6⟩ := KC.out wr hbw
      have HC := hideP (fits_any M p e _ _ _ _ _ k kk x f wr HP.out HE.out (HH.out.below hbw1) HALL.out hx hf hkk h6 hpcx.1 hpcx.2)
      have HAT := hideP (xn8Z (e := e) (nb := M.blocks.length) hx hkk hf)
      have hlti : (k : Int) < (M.frames.length : Int) := by omega
      generalize xcaZ p e M.blocks.length ((M.frames[k + 1]?).map Frm.fn) x kk f = a at HC HAT
      clear hx hkk hf hpcx
      by_cases h0 : a = 0
      · subst h0
        go_wp2_with fail
        refine HC.out.mono ?_
        rintro e' w2 ⟨rfl, b2⟩
        go_wp2
        go_roundw
        case rel => exact ⟨k + 1, by omega, by go_num, by rw [HFE.out, HAT.out, if_neg (by simp)], hbw.trans (b2.mono hbw.size)⟩
        case measure => simp [intOf]; omega
      · have h0' : (a != 0) = true := by simpa using h0
        have HN := hideP h0
        clear h0
        go_wp2_with fail
        refine HC.out.mono ?_
        rintro e' w2 ⟨rfl, b2⟩
        go_wp2
        go_ret
        exact ⟨by rw [HFE.out, HAT.out, if_pos HN.out]; rfl, hbw1.trans (b2.mono hbw1.size)⟩
    · have hlt' : ¬ (k : Int) < (M.frames.length : Int) := by omega
      go_wp2
      go_ret
      refine ⟨?_, b1.trans (hbw.mono b1.size)⟩
      rw [HFE.out, List.drop_of_length_le (by omega)]
      rfl
theorem xm0Z (M : Mach) (p : List Fn) (pv fv bv iv ov : Value) (w : World) (h : CkAt w p pv fv bv iv ov M) (hpl : p.length ≤ 1000) (h6 : M.frames.length ≤ 1000) (hi10 : M.inp.length ≤ 1000)
    (hw : M.status = 1 → ∃ (x : Frm) (kk pc : Nat) (f : Fn) (o : Int × Int), M.frames.getLast? = some x ∧ x.fn = (kk : Int) ∧ p[kk]? = some f ∧ x.pc = (pc : Int) ∧ f.2.2.2[pc]? = some o ∧ f.2.2.2.length ≤ 1000) : Calls Tryz.prog 109 #[chkV pv fv bv iv ov M] w (Says (xesZ p M) w) := by
  obtain ⟨⟨pp, qp, hpv⟩, -, ⟨pb, cb, hbv⟩, ⟨pi, ci, hiv⟩, ⟨po, co, hov⟩⟩ := h.shp
  obtain ⟨pf, cf, hfv, hfm, -, hfc⟩ := id h.mach.fr
  subst hpv hfv hbv hiv hov
  by_cases h1 : M.status = 1
  rotate_left
  · have h1' : (M.status != 1) = true := by simpa using h1
    have HN := hideP h1
    clear h1 hw hfc h
    go_enter Tryz.func109, Tryz.ntmps109
    go_wp2
    go_ret
    exact xbuZ (by unfold xesZ; rw [if_pos HN.out])
  obtain ⟨x, kk, pc, f, o, hx, hkk, hf, hxp, ho, hcl⟩ := hw h1
  obtain ⟨c, A⟩ := o
  have hlo : xcbZ p M = some (c, A) := by
    unfold xcbZ
    rw [hx]
    simp only [Option.bind_some, show x.fn.toNat = kk by omega, hf, show x.pc.toNat = pc by omega, ho]
  have h1' : (M.status != 1) = false := by simpa using h1
  have hwe : xesZ p M = if c ≠ 21 ∨ 0 < M.inp.length then 4 else 0 := by
    unfold xesZ
    rw [if_neg (by simpa using h1), hlo]
  obtain ⟨n, hn⟩ : ∃ n, M.frames.length = n + 1 := by
    cases hm : M.frames with
    | nil => rw [hm] at hx; simp at hx
    | cons a r => exact ⟨r.length, by simp⟩
  have hxn : M.frames[n]? = some x := by rw [← hx, List.getLast?_eq_getElem?, hn]; rfl
  obtain ⟨g, off, lv1, sv1, rfl, hg, x0, x1, x2, x3, hL, -, hS, -⟩ := hfc n x hxn
  obtain ⟨pl1, cl1, hlv1, hlm1, -⟩ := id hL
  obtain ⟨ps1, cs1, hsv1, hsm1, -⟩ := id hS
  subst hlv1 hsv1
  obtain ⟨pp', qp', hpe, -, hpc⟩ := id h.fns
  cases hpe
  obtain ⟨fb, fo, c0, c1, c2, c3, hpp, hplt, -, -, -, z3, hfn⟩ := hpc kk f hf
  subst hpp
  obtain ⟨-, -, -, hops⟩ := hfn
  obtain ⟨p3, q3, he3, -, hoc⟩ := id hops
  subst he3
  obtain ⟨ob, oo, hob, holt, o0, o1⟩ := hoc pc _ ho
  subst hob
  simp only at o0
  have hkl := xadZ hf
  have hpl' := xadZ ho
  have hkli : (kk : Int) < (p.length : Int) := by omega
  have hpcli : (pc : Int) < (f.2.2.2.length : Int) := by omega
  rw [hkk] at x0
  rw [hxp] at x1
  have x0a := fun o => xabZ x0 o
  have x1a := fun o => xabZ x1 o
  have x2a := fun o => xabZ x2 o
  have x3a := fun o => xabZ x3 o
  have z3b := fun o o' => xabZ (xabZ z3 o) o'
  have o0b := fun o o' => xabZ (xabZ o0 o) o'
  rw [hn]
  have hnlt : (n : Int) < ((n + 1 : Nat) : Int) := by omega
  have hn6 : n ≤ 1000 := by omega
  have hb2 : ∀ o o', Below w.heap.size w ((w.alloc o).alloc o') := fun o o' => ((Below.refl _ w).alloc (Nat.le_refl _) _).alloc (by simp) _
  have HWE := hideP hwe
  have HST := hideP h1
  clear hw h hx hkk hf hxp ho hlo hwe hn hxn hfc hpc hoc hops hL hS x0 x1 x2 x3 h1
  by_cases hc : c = 21
  · have hc' : (c != 21) = false := by simpa using hc
    have HC := hideP hc
    clear hc
    by_cases hi : 0 < M.inp.length
    · have hi' : (0 : Int) < (M.inp.length : Int) := by omega
      have hid : decide ((M.inp.length : Int) > 0) = true := by simpa using hi'
      go_enter Tryz.func109, Tryz.ntmps109
      go_wp2
      go_quiet (fail)
      go_wp2
      go_ret
      exact ⟨by rw [HWE.out, if_pos (.inr hi)]; rfl, below_drewN (hb2 _ _) _⟩
    · have hi' : ¬ (0 : Int) < (M.inp.length : Int) := by omega
      have hid : decide ((M.inp.length : Int) > 0) = false := by simpa using hi'
      go_enter Tryz.func109, Tryz.ntmps109
      go_wp2
      go_quiet (fail)
      go_wp2
      go_ret
      exact ⟨by rw [HWE.out, if_neg (by have := HC.out; omega)]; rfl, below_drewN (hb2 _ _) _⟩
  · have hc' : (c != 21) = true := by simpa using hc
    have HC := hideP hc
    clear hc
    go_enter Tryz.func109, Tryz.ntmps109
    go_wp2
    go_quiet (fail)
    go_wp2
    go_ret
    exact ⟨by rw [HWE.out, if_pos (.inl HC.out)]; rfl, below_drewN (hb2 _ _) _⟩
end Go.Proofs.YtmjjkenblfndgaaGreat


/- machine.Check. -/
namespace Go.Proofs.YtmjjkenblfndgaaGreat
open Go.RowKit
set_option linter.unusedSimpArgs false
set_option linter.unusedVariables false
theorem xicZ {p : List Fn} {M : Mach} (h : xccZ p M = 0) : M.frames.all (xb0Z p) = true := by
  unfold xccZ at h
  split at h
  · cases h
  · rename_i a; simpa using a
theorem xhwZ {M : Mach} (h : xc3Z M = 0) : M.frames.length ≤ 6 ∧ (M.frames.length = 0 → M.status = 2) := by
  unfold xc3Z at h
  split at h
  · cases h
  split at h
  · cases h
  · omega
theorem xpeZ {M : Mach} (h : xdaZ M = 0) : M.inp.length ≤ 10 := by
  unfold xdaZ at h
  split at h
  · cases h
  · omega
theorem ckAll_any (M : Mach) (p : List Fn) (e : Nat → Nat → Option (List Int)) (pv fv bv iv ov : Value) (w : World) (hp : xanZ p = 0) (he : xaxZ p e) (h : CkAt w p pv fv bv iv ov M) (hpc : PcOk M) : Calls Tryz.prog 75 #[chkV pv fv bv iv ov M] w (Says (xi0Z p e M) w) := by
  obtain ⟨⟨pp, qp, hpv⟩, ⟨pf, cf, hfv⟩, ⟨pb, cb, hbv⟩, ⟨pi, ci, hiv⟩, ⟨po, co, hov⟩⟩ := h.shp
  have s1 : ∃ q n c, pv = .slice q n c := ⟨_, _, _, hpv⟩
  have s2 : ∃ q n c, fv = .slice q n c := ⟨_, _, _, hfv⟩
  have s3 : ∃ q n c, bv = .slice q n c := ⟨_, _, _, hbv⟩
  have s4 : ∃ q n c, iv = .slice q n c := ⟨_, _, _, hiv⟩
  have s5 : ∃ q n c, ov = .slice q n c := ⟨_, _, _, hov⟩
  refine check_gen M pv fv bv iv ov [stErr M, blkErr M.blocks, xdaZ M, xc3Z M, xccZ p M, xbzZ p e M.blocks.length M.frames, xesZ p M] w s1 s2 s3 s4 s5 rfl (fun k F a hF ha hz W hW => ?_)
  have hW' := h.below hW
  rcases k with _ | _ | _ | _ | _ | _ | _ | k
  · cases hF
    cases ha
    exact xnuZ M pv fv bv iv ov W s1 s2 s3 s4 s5
  · cases hF
    cases ha
    exact xnsZ M pv fv bv iv ov W s1 s2 hW'.mach.bl s4 s5
  · cases hF
    cases ha
    exact xpjZ M pv fv bv iv ov W s1 s2 s3 hW'.mach.inp.at_ hW'.mach.out.at_
  · cases hF
    cases ha
    rw [hfv]
    exact xpkZ M pv bv iv ov pf cf W s1 s3 s4 s5
  · cases hF
    cases ha
    rw [hpv]
    exact xpmZ M p fv bv iv ov pp qp W hW'.mach.fr s3 s4 s5
  · cases hF
    cases ha
    have h4 : xccZ p M = 0 := hz _ (by simp)
    have h3 : xc3Z M = 0 := hz _ (by simp)
    exact xntZ M p e pv fv bv iv ov W hp he hW' (xicZ h4) (xhwZ h3).1 hpc
  · cases hF
    cases ha
    have h5 : xbzZ p e M.blocks.length M.frames = 0 := hz _ (by simp)
    have h4 : xccZ p M = 0 := hz _ (by simp)
    have h3 : xc3Z M = 0 := hz _ (by simp)
    have h2 : xdaZ M = 0 := hz _ (by simp)
    obtain ⟨d6, d0⟩ := xhwZ h3
    have hb := xpeZ h2
    have hps := xhpZ hp
    refine xm0Z M p pv fv bv iv ov W hW' (by omega) (by omega) (by omega) (fun hst => ?_)
    have hne : M.frames ≠ [] := fun h0 => by have := d0 (by rw [h0]; rfl); omega
    obtain ⟨x, hx⟩ : ∃ x, M.frames.getLast? = some x := ⟨_, List.getLast?_eq_some_getLast hne⟩
    have hi : M.frames[M.frames.length - 1]? = some x := by rw [← hx, List.getLast?_eq_getElem?]
    obtain ⟨k, f, hr⟩ := (xd5Z he (xicZ h4)).1 h5 _ x hi
    have hpos := List.length_pos_iff.2 hne
    rw [show M.frames[M.frames.length - 1 + 1]? = none from List.getElem?_eq_none (by omega)] at hr
    obtain ⟨pc, s, o, out, g1, g2, g3, g4, _⟩ := xfaZ he hr
    exact ⟨x, k, pc, f, o, hx, hr.fn, hr.at_, g1, g4, (xgpZ hp he hr.at_).2⟩
  · simp [ckFns] at hF
theorem xkqZ (M : Mach) (p : List Fn) (pv fv bv iv ov : Value) (w : World) (h : CkAt w p pv fv bv iv ov M) (hpc : PcOk M) : Calls Tryz.prog 36 #[.agg #[pv], .agg #[fv, bv, iv, ov, .int .i64 M.status, .int .i64 M.trap]] w (Says (xblZ p M) w) := by
  obtain ⟨⟨pp, qp, hpv⟩, ⟨pf, cf, hfv⟩, ⟨pb, cb, hbv⟩, ⟨pi, ci, hiv⟩, ⟨po, co, hov⟩⟩ := h.shp
  subst hpv hfv hbv hiv hov
  obtain ⟨W1, hW1⟩ : ∃ W1, (w.alloc (.cells #[.slice pp p.length qp] 24)).alloc (.cells #[.slice pf M.frames.length cf, .slice pb M.blocks.length cb, .slice pi M.inp.length ci, .slice po M.out.length co, .int .i64 M.status, .int .i64 M.trap] 48) = W1 := ⟨_, rfl⟩
  have b1 : Below w.heap.size w W1 := by rw [← hW1]; exact ((Below.refl _ w).alloc (Nat.le_refl _) _).alloc (by simp) _
  have u1 : W1.heap[w.heap.size]? = some (.cells #[.slice pp p.length qp] 24 (0, 0)) := by rw [← hW1]; exact xalZ (World.alloc_heap_new w _) _
  have u2 : W1.heap[w.heap.size + 1]? = some (.cells #[.slice pf M.frames.length cf, .slice pb M.blocks.length cb, .slice pi M.inp.length ci, .slice po M.out.length co, .int .i64 M.status, .int .i64 M.trap] 48 (0, 0)) := by rw [← hW1]; exact xa1Z w _ _
  have l1 := xacZ u1
  have l2 := xacZ u2
  have a0 : W1.cell? ⟨w.heap.size, 0, none⟩ = some (.slice pp p.length qp) := xaaZ u1 0
  have H1 := h.below b1
  have HV := hideP (xe4Z p _ W1 H1.fns H1.cap)
  have HH := hideP H1
  have HU1 := hideP u1
  have HU2 := hideP u2
  have HPC := hideP hpc
  clear h H1 u1 u2 hpc
  go_enter Tryz.func36, Tryz.ntmps36
  go_wp2_with fail
  refine HV.out.mono ?_
  rintro e' w2 ⟨er, rfl, hpi, b2⟩
  have hfe := xe2Z hpi
  have v1 := (b2.block _ l1).trans HU1.out
  have v2 := (b2.block _ l2).trans HU2.out
  have c0 : w2.cell? ⟨w.heap.size, 0, none⟩ = some (.slice pp p.length qp) := xaaZ v1 0
  have d0 : w2.cell? ⟨w.heap.size + 1, 0, none⟩ = some (.slice pf M.frames.length cf) := xaaZ v2 0
  have d1 : w2.cell? ⟨w.heap.size + 1, 1, none⟩ = some (.slice pb M.blocks.length cb) := xaaZ v2 1
  have d2 : w2.cell? ⟨w.heap.size + 1, 2, none⟩ = some (.slice pi M.inp.length ci) := xaaZ v2 2
  have d3 : w2.cell? ⟨w.heap.size + 1, 3, none⟩ = some (.slice po M.out.length co) := xaaZ v2 3
  have d4 : w2.cell? ⟨w.heap.size + 1, 4, none⟩ = some (.int .i64 M.status) := xaaZ v2 4
  have d5 : w2.cell? ⟨w.heap.size + 1, 5, none⟩ = some (.int .i64 M.trap) := xaaZ v2 5
  have HFE := hideP hfe
  clear v1 v2 hfe hpi
  by_cases h0 : er = 0
  · subst h0
    obtain ⟨hp, he⟩ := xdkZ.1 HFE.out.symm
    have HC := hideP (ckAll_any M p (entP p) _ _ _ _ _ w2 hp he (HH.out.below b2) HPC.out)
    clear hp he
    go_wp2_with fail
    refine HC.out.mono ?_
    rintro e' w3 ⟨rfl, b3⟩
    go_wp2
    go_ret
    exact ⟨by unfold xblZ; rw [if_neg (by rw [← HFE.out]; simp)]; rfl, xaeZ (xaeZ b1 b2) b3⟩
  · have h0' : (er != 0) = true := by simpa using h0
    have HN := hideP h0
    clear h0
    go_wp2
    go_ret
    exact ⟨by unfold xblZ; rw [if_pos (by rw [← HFE.out]; exact HN.out), HFE.out]; rfl, xaeZ b1 b2⟩
end Go.Proofs.YtmjjkenblfndgaaGreat


/- Worlds in memory. -/
namespace Go.Proofs.YtmjjkenblfndgaaGreat
open Go.RowKit
set_option linter.unusedSimpArgs false
set_option linter.unusedVariables false
def MachsAt (W : World) (v : Value) (L : List Mach) : Prop :=
  ∃ (p : Option Addr) (cap : Nat), v = .slice p L.length cap ∧ L.length ≤ maxLen ∧ L.length ≤ cap ∧ ∀ k M, L[k]? = some M →
    ∃ g off fv bv iv ov, p = some ⟨g, off, none⟩ ∧ g < W.heap.size ∧ W.cell? ⟨g, off + k * 6, none⟩ = some fv ∧ W.cell? ⟨g, off + k * 6 + 1, none⟩ = some bv ∧ W.cell? ⟨g, off + k * 6 + 2, none⟩ = some iv ∧ W.cell? ⟨g, off + k * 6 + 3, none⟩ = some ov ∧ W.cell? ⟨g, off + k * 6 + 4, none⟩ = some (.int .i64 M.status) ∧ W.cell? ⟨g, off + k * 6 + 5, none⟩ = some (.int .i64 M.trap) ∧ MachAt W fv bv iv ov M
theorem MachsAt.below {w w' : World} {v : Value} {L : List Mach} (h : MachsAt w v L) (hb : Below w.heap.size w w') : MachsAt w' v L := by
  obtain ⟨p, cap, rfl, hm, hc, hf⟩ := h
  refine ⟨p, cap, rfl, hm, hc, fun k M hk => ?_⟩
  obtain ⟨g, off, fv, bv, iv, ov, hp, hg, h0, h1, h2, h3, h4, h5, h6⟩ := hf k M hk
  exact ⟨g, off, fv, bv, iv, ov, hp, Nat.lt_of_lt_of_le hg hb.size, (hb.cell (p := ⟨g, off + k * 6, none⟩) hg).trans h0, (hb.cell (p := ⟨g, off + k * 6 + 1, none⟩) hg).trans h1, (hb.cell (p := ⟨g, off + k * 6 + 2, none⟩) hg).trans h2, (hb.cell (p := ⟨g, off + k * 6 + 3, none⟩) hg).trans h3, (hb.cell (p := ⟨g, off + k * 6 + 4, none⟩) hg).trans h4, (hb.cell (p := ⟨g, off + k * 6 + 5, none⟩) hg).trans h5, h6.below hb⟩
theorem MachsAt.shp {W : World} {v : Value} {L : List Mach} (h : MachsAt W v L) : ∃ p c, v = .slice p L.length c ∧ L.length ≤ c := by
  obtain ⟨p, c, h1, _, h2, _⟩ := h
  exact ⟨p, c, h1, h2⟩
theorem MachAt.shp {W : World} {fv bv iv ov : Value} {M : Mach} (h : MachAt W fv bv iv ov M) : (∃ q c, fv = .slice q M.frames.length c) ∧ (∃ q c, bv = .slice q M.blocks.length c) ∧ (∃ q c, iv = .slice q M.inp.length c) ∧ ∃ q c, ov = .slice q M.out.length c := by
  obtain ⟨pf, cf, h2, -, -, -⟩ := h.fr
  obtain ⟨pb, cb, h3, -⟩ := h.bl
  obtain ⟨pi, ci, h4, -⟩ := h.inp.shp
  obtain ⟨po, co, h5, -⟩ := h.out.shp
  exact ⟨⟨_, _, h2⟩, ⟨_, _, h3⟩, ⟨_, _, h4⟩, ⟨_, _, h5⟩⟩
end Go.Proofs.YtmjjkenblfndgaaGreat


/- stride.Begin; slices.Backward at values. -/
namespace Go.Proofs.YtmjjkenblfndgaaGreat
open Go.RowKit Go.Shelf
set_option linter.unusedSimpArgs false
set_option linter.unusedVariables false
attribute [local go_sem] Oper.semAt_some
theorem made_vals (n : Nat) : (madeCells (Value.agg #[.bool false, .int .i64 0]).cells (n * 2)).toList = valCells (List.replicate n (false, 0)) := by
  have h : (Value.agg #[.bool false, .int .i64 0]).cells = #[.bool false, .int .i64 0] := rfl
  rw [h]
  apply List.ext_getElem?
  intro k
  by_cases hk : k < n * 2
  · have hq : k / 2 < n := by omega
    obtain ⟨a0, a1⟩ := xcoZ (List.replicate n (false, 0)) (k / 2) (false, 0) (by simp [hq])
    have hm : k % 2 = 0 ∨ k % 2 = 1 := by omega
    rcases hm with hm | hm
    · rw [show k / 2 * 2 = k by omega] at a0
      rw [a0]; simp [madeCells, hk, hm]
    · rw [show k / 2 * 2 + 1 = k by omega] at a1
      rw [a1]; simp [madeCells, hk, hm]
  · rw [List.getElem?_eq_none (by simp [madeCells]; omega), List.getElem?_eq_none (by rw [xe5Z]; simp; omega)]
theorem xngZ (l : List Val) (k : Nat) (b c : Bool) (n : Int) (h : l[k]? = some (c, n)) : (valCells l).set (k * 2) (.bool b) = valCells (l.set k (b, n)) := by
  induction l generalizing k with
  | nil => simp at h
  | cons y r ih =>
    cases k with
    | zero => simp at h; subst h; simp [valCells]
    | succ k =>
      have := ih k (by simpa using h)
      rw [show (k + 1) * 2 = k * 2 + 1 + 1 from by omega]
      simpa [valCells] using this
theorem xelZ (ts : List Int) : (xa7Z ts).length = ts.length := by simp [xa7Z]
theorem fresh_set (ts : List Int) (k : Nat) (t : Int) (h : ts[k]? = some t) : (xa7Z (ts.take k) ++ List.replicate (ts.length - k) (false, (0 : Int))).set k (decide (t = 2), 0) = xa7Z (ts.take (k + 1)) ++ List.replicate (ts.length - (k + 1)) (false, 0) := by
  have hl := xadZ h
  have e1 : (xa7Z (ts.take k)).length = k := by rw [xelZ, List.length_take]; omega
  have e2 : List.replicate (ts.length - k) (false, (0 : Int)) = (false, 0) :: List.replicate (ts.length - (k + 1)) (false, 0) := by
    rw [show ts.length - k = ts.length - (k + 1) + 1 by omega]; rfl
  rw [List.set_append_right _ _ (by omega), e1, Nat.sub_self, e2, List.set_cons_zero, xazZ ts k t h]
  simp [xa7Z]
theorem xlwZ (p : List Fn) (pv : Value) (k : Nat) (f : Fn) (w : World) (hp : FnsAt w pv p) (hk : p[k]? = some f) (hL : f.2.1.length ≤ 100) : Calls Tryz.prog 83 #[.agg #[pv], .int .i64 k] w fun e w' => ∃ gl, e = .returned (.agg #[.int .i64 k, .int .i64 0, .slice (some ⟨gl, 0, none⟩) f.2.1.length f.2.1.length, .slice none 0 0]) ∧ w'.ownsRow w.heap.size 113 2 (.slice (some ⟨gl, 0, none⟩) f.2.1.length f.2.1.length) f.2.1.length (valCells (xa7Z f.2.1)) ∧ Below w.heap.size w w' := by
  obtain ⟨i0, hi, hz0, hz1, hz2⟩ := info_parts infoVal
  obtain ⟨P, L, r, C⟩ := f
  simp only at hL
  obtain ⟨pp, qp, hpv, hpm, hpc⟩ := id hp
  subst hpv
  unfold maxLen at hpm
  obtain ⟨b, off, c0, c1, c2, c3, hpp, hlt, y0, y1, y2, y3, hfn⟩ := hpc k _ hk
  subst hpp
  have hkp := xadZ hk
  have hkpi : (k : Int) < (p.length : Int) := by omega
  obtain ⟨-, hI, -, -⟩ := hfn
  obtain ⟨p1, q1, e1, -, hIc⟩ := id hI
  simp only at e1
  subst e1
  obtain ⟨W1, hW1⟩ : ∃ W1, (w.alloc (.cells #[.slice (some ⟨b, off, none⟩) p.length qp] 24)).alloc (.cells #[.int .i64 0, .int .i64 0, .slice none 0 0, .slice none 0 0] 89) = W1 := ⟨_, rfl⟩
  have b1 : Below w.heap.size w W1 := by rw [← hW1]; exact ((Below.refl _ w).alloc (Nat.le_refl _) _).alloc (by simp) _
  have x1 : W1.heap[w.heap.size]? = some (.cells #[.slice (some ⟨b, off, none⟩) p.length qp] 24 (0, 0)) := by rw [← hW1]; exact xalZ (World.alloc_heap_new w _) _
  have y1' : W1.heap[w.heap.size + 1]? = some (.cells #[.int .i64 0, .int .i64 0, .slice none 0 0, .slice none 0 0] 89 (0, 0)) := by rw [← hW1]; exact xa1Z w _ _
  have lx := xacZ x1
  have ly := xacZ y1'
  have d0 : W1.cell? ⟨w.heap.size, 0, none⟩ = some (.slice (some ⟨b, off, none⟩) p.length qp) := xaaZ x1 0
  have d1 := (b1.cell (p := ⟨b, off + k * 4 + 1, none⟩) hlt).trans y1
  have hlt1 : b < W1.heap.size := Nat.lt_of_lt_of_le hlt b1.size
  have HI := hideP (hI.below b1)
  have HX := hideP x1
  have HY := hideP y1'
  clear hp hpc hk hI hIc x1 y1' y0 y1 y2 y3
  go_enter Tryz.func83, Tryz.ntmps83
  go_wp2_with (at_make; refine wpList_make_full _ rfl _ _ 87 rfl W1.heap.size 113 i0 (.agg #[.bool false, .int .i64 0]) 2 Tryz.underlying87 hi hz0 hz1 _ _ _ _ L.length rfl rfl (by omega) (by omega) (by rw [hz2]; omega) (by unfold maxLen; omega) (Nat.le_refl _) ?_; intro w2 hown2 hg2; rw [made_vals] at hown2; have b2 : Below W1.heap.size W1 w2 := (Below.refl _ W1).grown hg2 (Nat.le_refl _) (fun k hk => by cases hk); have HOWN2 := hideP hown2; have k0 := (b2.cell (p := ⟨w.heap.size, 0, none⟩) lx).trans d0; have k1 := (b2.cell (p := ⟨b, off + k * 4 + 1, none⟩) hlt1).trans d1; clear hown2 hg2)
  go_loopw [6, 7, 23] (fun _ _ i wr => ∃ (j : Nat), j ≤ L.length ∧ i = .int .i64 j ∧ wr.ownsRow W1.heap.size 113 2 (.slice (some ⟨W1.heap.size, 0, none⟩) L.length L.length) L.length (valCells (xa7Z (L.take j) ++ List.replicate (L.length - j) (false, 0))) ∧ Below W1.heap.size W1 wr) (fun _ _ i _ => L.length - (intOf i).toNat)
  case atStart => exact ⟨0, Nat.zero_le _, rfl, by simpa [xa7Z] using HOWN2.out, b2⟩
  case round =>
    rename World => w3
    obtain ⟨j, hj, rfl, hrow, b3⟩ := hrel
    by_cases hlt3 : j < L.length
    · have hlti : (j : Int) < (L.length : Int) := by omega
      obtain ⟨t, ht⟩ := xagZ hlt3
      obtain ⟨p2, q2, he2, -, hc2⟩ := HI.out.below b3
      cases he2
      obtain ⟨g2, off2, hp2, -, g0⟩ := hc2 j t ht
      subst hp2
      have hlen : (xa7Z (L.take j) ++ List.replicate (L.length - j) (false, (0 : Int))).length = L.length := by simp [xa7Z]; omega
      have hat : (xa7Z (L.take j) ++ List.replicate (L.length - j) (false, (0 : Int)))[j]? = some (false, 0) := by
        have e1 : (xa7Z (L.take j)).length = j := by rw [xelZ, List.length_take]; omega
        rw [List.getElem?_append_right (by omega), e1, Nat.sub_self]
        rw [List.getElem?_replicate]; simp; omega
      have hvr := xb8Z (l := xa7Z (L.take j) ++ List.replicate (L.length - j) (false, (0 : Int))) (by rw [hlen]; exact hrow)
      obtain ⟨pv2, cv2, he3, -, hc3⟩ := hvr
      rw [hlen] at he3
      cases he3
      obtain ⟨gg, oo, hgo, -, v0, -⟩ := hc3 j _ hat
      cases hgo
      simp only [Nat.zero_add] at v0
      obtain ⟨cur, hcur⟩ := xdnZ (g := W1.heap.size) hrow rfl
      have z0 := Lib.frozen_of_heap hcur (j * 2)
      have HROW := hideP hrow
      have HT := hideP ht
      have HAT := hideP hat
      clear hc2 hc3 hcur hrow ht hat hlen
      go_wp2
      go_roundw
      case rel =>
        refine ⟨j + 1, by omega, by go_num, ?_, b3.setCell (p := ⟨W1.heap.size, j * 2, none⟩) (Nat.le_refl _) _⟩
        have h1 := xbpZ HROW.out (j * 2) (.bool (t == 2))
        rw [xngZ _ j (t == 2) false 0 HAT.out] at h1
        have h2 := fresh_set L j t HT.out
        rw [show (decide (t = 2)) = (t == 2) from rfl] at h2
        rw [h2] at h1
        exact h1
      case measure => simp [intOf]; omega
    · have hlti : ¬ (j : Int) < (L.length : Int) := by omega
      have hjl : j = L.length := by omega
      subst hjl
      have HROW := hideP hrow
      have y3 := (b3.block _ ly).trans HY.out
      have yc0 := xaaZ y3 0
      have yc1 := xaaZ y3 1
      have yc2 := xaaZ y3 2
      have yc3 := xaaZ y3 3
      simp at yc0 yc1 yc2 yc3
      have yz := Lib.frozen_of_heap y3
      have yz0 := yz 0
      have yz1 := yz 1
      have yz2 := yz 2
      have yz3 := yz 3
      clear hrow yz y3
      go_wp2
      refine bodyPost_ret (v := .agg #[.int .i64 k, .int .i64 0, .slice (some ⟨W1.heap.size, 0, none⟩) L.length L.length, .slice none 0 0]) (by simp [results, Tryz.results83, go_sem, yc0, yc1, yc2, yc3]) rfl ?_
      have hfg := xkkZ w3 (w.heap.size + 1) 0 (.int .i64 k) (.int .i64 0) (.slice (some ⟨W1.heap.size, 0, none⟩) L.length L.length) (.slice none 0 0)
      simp only [Nat.zero_add] at hfg
      have hrow3 := HROW.out
      rw [List.take_of_length_le (Nat.le_refl _), Nat.sub_self, List.replicate_zero, List.append_nil] at hrow3
      refine ⟨_, rfl, xasZ (xapZ hrow3 b1.size) hfg (xatZ ((b3.block _ ly).trans HY.out)) (by decide), (b1.trans (b3.mono b1.size)).grown hfg (by have := b1.size; have := b3.size; omega) (fun j hj => by cases hj; omega)⟩
def downs : Nat → List Nat
  | 0 => []
  | k + 1 => k :: downs k
theorem xh8Z (k : Nat) : (downs k).length = k := by
  induction k with
  | zero => rfl
  | succ k ih => simp [downs, ih]
abbrev ItV (n : Nat) := { x : Nat × Val // x.1 < n }
abbrev encsV {n : Nat} (x : ItV n) : Array Value := #[.int .i64 x.1.1, .agg #[.bool x.1.2.1, .int .i64 x.1.2.2]]
def HasV (bs : Nat) (p : Option Addr) (n c : Nat) (W : World) : Prop := Boxed W bs 87 (.slice p n c) ∧ ∃ l : List Val, l.length = n ∧ ValsAt W (.slice p n c) l
def KpV (bs : Nat) (p : Option Addr) (n c : Nat) (W W' : World) : Prop := HasV bs p n c W → HasV bs p n c W'
theorem backV1_in (n : Nat) (hn : 1 ≤ n) (l bs N : Nat) (p : Option Addr) (c : Nat) (hN : N ≤ 100) (J Jx : List (ItV N) → World → Prop) (W : World)
    (hY : ∀ pre x W1, J pre W1 → pre.length < N → YieldAt Fence.wide (n - 1) Tryz.prog l (encsV x) W1 fun e W' =>
      (e = .returned (.bool true) ∧ J (pre ++ [x]) W' ∧ KpV bs p N c W1 W') ∨ (e = .returned (.bool false) ∧ Jx (pre ++ [x]) W'))
    (hB : HasV bs p N c W) (h0 : J [] W) :
    CallsIn Fence.wide n Tryz.prog 237 #[.func (.yield l) #[] #[], .pointer (some ⟨bs, 0, none⟩)] W fun e W' => (∃ v, e = .returned v) ∧
      ((∃ ys, ys.map (fun y => y.1.1) = downs N ∧ J ys W') ∨ (∃ pre, True ∧ Jx pre W')) := by
  refine callsIn_of_wp Tryz.func237 rfl trivial ?_ rfl
  simp only [Tryz.ntmps237, List.size_toArray, List.length_cons, List.length_nil, Nat.reduceAdd, Nat.reduceSub, Array.replicate_succ, Array.replicate_zero, List.push_toArray, List.append_toArray, List.nil_append, List.cons_append]
  have hc0 := hB.1.cell
  have hwr : wrap64 ((N : Int) - 1) = (N : Int) - 1 := by unfold wrap64; omega
  have HB := hideP hB
  have HY := hideP hY
  clear hB hY
  gi_wp2
  gi_loopw [3] (fun a wr => ∃ (k : Nat) (pre : List (ItV N)), a = .int .i64 ((k : Int) - 1) ∧ k ≤ N ∧ downs N = pre.map (fun y => y.1.1) ++ downs k ∧ J pre wr ∧ HasV bs p N c wr) (fun a _ => (intOf a + 1).toNat)
  case atStart => exact ⟨N, [], rfl, Nat.le_refl _, rfl, h0, HB.out⟩
  case round =>
    obtain ⟨k, pre, rfl, hk, hit, hJ, hBx⟩ := hrel
    have HT := hideP hit
    clear hit
    have hcx := hBx.1.cell
    cases k with
    | zero =>
      rw [show ((0 : Nat) : Int) - 1 = -1 by omega]
      gi_wp2
      go_end0
      refine ⟨⟨_, rfl⟩, .inl ?_⟩
      exact ⟨pre, by rw [HT.out]; simp [downs], hJ⟩
    | succ m =>
      rw [show ((m + 1 : Nat) : Int) - 1 = (m : Int) by omega]
      obtain ⟨-, L, hL, hVx⟩ := id hBx
      obtain ⟨z, hz⟩ := xagZ (show m < L.length by omega)
      obtain ⟨p', c', he, _, hcc⟩ := hVx
      obtain ⟨b, off, hp, hbl, g0, g1⟩ := hcc m z hz
      cases he
      subst hp
      obtain ⟨fn, tmps, assign, body, hy, hR⟩ := HY.out pre ⟨(m, z), by omega⟩ _ hJ (by have := congrArg List.length HT.out; simp [xh8Z] at this; omega)
      dsimp only [encsV] at hy
      have hmt : (m : Int) < (L.length : Int) := by omega
      have HBX := hideP hBx
      clear hcc hz hBx hJ
      gi_wp2
      refine hR.mono ?_
      rintro e W3 (⟨rfl, hJ3, hk3⟩ | ⟨rfl, hJx3⟩)
      · gi_wp2
        go_roundw
        case rel =>
          refine ⟨m, pre ++ [⟨(m, z), by omega⟩], by go_num, by omega, ?_, hJ3, hk3 HBX.out⟩
          rw [HT.out]; simp [downs]
        case measure => simp [intOf] <;> omega
      · gi_wp2
        refine bodyPost_ret (results_none rfl _ _ _) rfl ?_
        exact ⟨⟨_, rfl⟩, .inr ⟨_, trivial, hJx3⟩⟩
theorem xmyZ (p : Option Addr) (n c : Nat) (w : World) :
    Calls Tryz.prog 225 #[.slice p n c] w fun e w' => e = .returned (.func (.func 237) #[] #[.pointer (some ⟨w.heap.size, 0, none⟩)]) ∧ w' = w.alloc (.cells #[.slice p n c] 87) := by
  go_enter Tryz.func225, Tryz.ntmps225
  go_wp2
  go_ret
  exact ⟨rfl, rfl⟩
theorem HasV.below {bs : Nat} {p : Option Addr} {n c : Nat} {w W : World} (h : HasV bs p n c w) (hb : Below w.heap.size w W) : HasV bs p n c W :=
  ⟨(hb.block bs h.1.lt).trans h.1, by obtain ⟨l, h1, h2⟩ := h.2; exact ⟨l, h1, h2.below hb⟩⟩
theorem xkbZ (n : Nat) (hn : 1 ≤ n) (bs N : Nat) (p : Option Addr) (c : Nat) (hN : N ≤ 100) (w : World) (hB : HasV bs p N c w) :
    SeqStopsK Fence.wide n Tryz.prog 237 #[.pointer (some ⟨bs, 0, none⟩)] (encsV (n := N)) (KpV bs p N c) (fun ys => ys.map (fun y => y.1.1) = downs N) (fun _ => True) N w :=
  fun l J Jx W hW hA _ hY h0 => backV1_in n hn l bs N p c hN J Jx W hY (hB.below hW) h0
theorem kpV_t {bs : Nat} {p : Option Addr} {n c : Nat} {A B C : World} (h : KpV bs p n c A B) (k : KpV bs p n c B C) : KpV bs p n c A C := fun x => k (h x)
theorem kpV_b {bs : Nat} {p : Option Addr} {n c : Nat} {w : World} (W : World) (l : Nat) (o o' : Obj) (_ : w.heap.size ≤ l) (h : W.heap[l]? = some o) (ho : o.isCells = false) (_ : o.isWalk = false) : KpV bs p n c W (W.putObj l o') := fun ⟨x, L, hL, y⟩ => by
  refine ⟨x.kept (grownBy_putObj' W l o') (fun e => by cases e; rw [show W.heap[bs]? = _ from x] at h; cases h; cases ho), L, hL, ?_⟩
  subst hL
  obtain ⟨p', c', he, hm, hc⟩ := y
  cases he
  refine ⟨_, _, rfl, hm, fun k z hk => ?_⟩
  obtain ⟨b, off, rfl, hb, g, g'⟩ := hc k z hk
  have hg := grownBy_putObj' W l o'
  have hne : b ≠ l := fun e => by
    subst e
    obtain ⟨cs, t, fz, hcs, _⟩ := Sort.cells_of_cell? g
    rw [hcs] at h; cases h; cases ho
  exact ⟨b, off, rfl, Nat.lt_of_lt_of_le hb hg.size, hg.cell g (by simpa using hne), hg.cell g' (by simpa using hne)⟩
end Go.Proofs.YtmjjkenblfndgaaGreat


/- stride's return. -/
namespace Go.Proofs.YtmjjkenblfndgaaGreat
open Go.RowKit
set_option linter.unusedSimpArgs false
set_option linter.unusedVariables false
theorem DIn.cut {w0 W : World} {b : Nat} {pv : Value} {M : Mach} {D : List Frm} {x : Frm} {g cap : Nat} {bv iv ov : Value} {q : List FV} {c : FV} {qb : List Value} (h : DIn w0 W b pv M D x g cap bv iv ov q c qb) : Doer w0 (W.setCell ⟨b, 0, none⟩ (.slice (some ⟨g, 0, none⟩) D.length cap)) b pv { M with frames := D } := by
  have hA := h.at_
  have hgs := xakZ W ⟨b, 0, none⟩ (.slice (some ⟨g, 0, none⟩) D.length cap)
  have hty : TyRow W (some b) 162 := xatZ hA.cell
  have hs := heap_setCell_same W b 0 _ _ (.slice (some ⟨g, 0, none⟩) D.length cap) hA.cell
  have hk := hA.own.keep hgs hty (by decide) (by decide) (by decide) (by decide)
  have hrow := row_cut h.fr_row D.length (by omega)
  have e1 : (fCells (q ++ [c])).take (D.length * 4) = fCells q := by
    rw [xb7Z, List.take_append_of_le_length (by rw [xbxZ, h.len]; omega), List.take_of_length_le (by rw [xbxZ, h.len]; omega)]
  rw [e1] at hrow
  have hfrs := hA.own.frs
  rw [h.fr] at hfrs
  refine ⟨.slice (some ⟨g, 0, none⟩) D.length cap, bv, iv, ov, q, qb, ⟨by simpa using hs, ⟨?_, hfrs.cut.keep hgs hty (by decide), hk.bl, hk.rows⟩, hA.bel.setCell hA.lo _, hA.lo⟩⟩
  rw [h.len]
  exact xasZ hrow hgs hty (by decide)
theorem ret_done (w0 : World) (b : Nat) (pv : Value) (M : Mach) (D : List Frm) (x : Frm)  (w : World) (h : Doer w0 w b pv M) (hF : M.frames = D ++ [x]) (hD : D.length ≤ 100) (hl : x.stk.length ≤ 90) (h0 : D.length = 0) : Calls Tryz.prog 193 #[.pointer (some ⟨b, 0, none⟩)] w fun e w' => e = .returned (.tuple #[]) ∧ Doer w0 w' b pv { M with frames := [], status := 2 } := by
  obtain ⟨g, cap, bv, iv, ov, q, c, qb, H⟩ := h.open hF
  have HI := hideP (xamZ b g D.length cap w H.fcell hD)
  obtain ⟨pl, cl, hlv⟩ := xaiZ H.loc
  obtain ⟨ps, cs, hsv⟩ := xaiZ H.stk
  have hcap : D.length + 1 ≤ cap := by
    rcases H.fr_row.2 with ⟨h1, _⟩ | ⟨g', cap', cur', h1, _, _, h4, _⟩
    · cases h1
    · cases h1; exact h4
  have HH0 := hideP H
  clear h
  go_enter Tryz.func193, Tryz.ntmps193
  go_wp2_with fail
  refine HI.out.mono ?_
  rintro e w2 ⟨rfl, b2⟩
  have H2 := HH0.out.below b2
  have c0 := H2.c0
  have c1 := H2.c1
  have c2 := H2.c2
  have c3 := H2.c3
  rw [hlv] at c2
  rw [hsv] at c3
  obtain ⟨W3, hW3⟩ : ∃ W3, w2.alloc (.cells #[.int .i64 x.fn, .int .i64 x.pc, .slice pl x.loc.length cl, .slice ps x.stk.length cs] 89) = W3 := ⟨_, rfl⟩
  have b3 : Below w2.heap.size w2 W3 := by rw [← hW3]; exact (Below.refl _ w2).alloc (Nat.le_refl _) _
  have x3 : W3.heap[w2.heap.size]? = some (.cells #[.int .i64 x.fn, .int .i64 x.pc, .slice pl x.loc.length cl, .slice ps x.stk.length cs] 89 (0, 0)) := by rw [← hW3]; exact World.alloc_heap_new w2 _
  have H3 := H2.below b3
  have f0 := H3.fcell
  have f3 : W3.cell? ⟨w2.heap.size, 3, none⟩ = some (.slice ps x.stk.length cs) := xaaZ x3 3
  have z0 := Lib.frozen_of_heap H3.at_.cell 0
  have f4 := H3.at_.cells.2.2.2.2.1
  have z4 := Lib.frozen_of_heap H3.at_.cell 4
  have hbne : ¬ w2.heap.size = b := by have := H2.at_.lt; omega
  have hbne' : ¬ b = w2.heap.size := fun e => hbne e.symm
  have HH3 := hideP H3
  have HSV := hideP hsv
  have HX3 := hideP x3
  clear HI H H2 H3 hlv hsv x3 HH0 hF
  have h00 : ((D.length : Int) == 0) = true := by simp [h0]
  have H0 := hideP h0
  clear h0
  go_wp2_with fail
  go_region
  go_wp2
  first | go_end0 | refine bodyPost_ret (results_none rfl _ _ _) rfl ?_
  have hD0 : D = [] := List.length_eq_zero_iff.1 H0.out
  obtain ⟨fv5, bv5, iv5, ov5, q5, qb5, D5⟩ := HH3.out.cut
  have h5 := (D5.setSt 2).below ((Below.refl _ _).drew)
  subst hD0
  exact ⟨rfl, h5⟩
theorem ret_on (w0 : World) (b : Nat) (pv : Value) (M : Mach) (D : List Frm) (x : Frm) (D' : List Frm) (y : Frm) (w : World) (h : Doer w0 w b pv M) (hF : M.frames = D ++ [x]) (hD : D.length ≤ 100) (hl : x.stk.length ≤ 90) (h0 : D = D' ++ [y]) (hly : y.stk.length ≤ 90) : Calls Tryz.prog 193 #[.pointer (some ⟨b, 0, none⟩)] w fun e w' => e = .returned (.tuple #[]) ∧ Doer w0 w' b pv { M with frames := D' ++ [{ y with stk := y.stk ++ x.stk }] } := by
  obtain ⟨g, cap, bv, iv, ov, q, c, qb, H⟩ := h.open hF
  have HI := hideP (xamZ b g D.length cap w H.fcell hD)
  obtain ⟨pl, cl, hlv⟩ := xaiZ H.loc
  obtain ⟨ps, cs, hsv⟩ := xaiZ H.stk
  have hcap : D.length + 1 ≤ cap := by
    rcases H.fr_row.2 with ⟨h1, _⟩ | ⟨g', cap', cur', h1, _, _, h4, _⟩
    · cases h1
    · cases h1; exact h4
  have HH0 := hideP H
  clear h
  go_enter Tryz.func193, Tryz.ntmps193
  go_wp2_with fail
  refine HI.out.mono ?_
  rintro e w2 ⟨rfl, b2⟩
  have H2 := HH0.out.below b2
  have c0 := H2.c0
  have c1 := H2.c1
  have c2 := H2.c2
  have c3 := H2.c3
  rw [hlv] at c2
  rw [hsv] at c3
  obtain ⟨W3, hW3⟩ : ∃ W3, w2.alloc (.cells #[.int .i64 x.fn, .int .i64 x.pc, .slice pl x.loc.length cl, .slice ps x.stk.length cs] 89) = W3 := ⟨_, rfl⟩
  have b3 : Below w2.heap.size w2 W3 := by rw [← hW3]; exact (Below.refl _ w2).alloc (Nat.le_refl _) _
  have x3 : W3.heap[w2.heap.size]? = some (.cells #[.int .i64 x.fn, .int .i64 x.pc, .slice pl x.loc.length cl, .slice ps x.stk.length cs] 89 (0, 0)) := by rw [← hW3]; exact World.alloc_heap_new w2 _
  have H3 := H2.below b3
  have f0 := H3.fcell
  have f3 : W3.cell? ⟨w2.heap.size, 3, none⟩ = some (.slice ps x.stk.length cs) := xaaZ x3 3
  have z0 := Lib.frozen_of_heap H3.at_.cell 0
  have f4 := H3.at_.cells.2.2.2.2.1
  have z4 := Lib.frozen_of_heap H3.at_.cell 4
  have hbne : ¬ w2.heap.size = b := by have := H2.at_.lt; omega
  have hbne' : ¬ b = w2.heap.size := fun e => hbne e.symm
  have HH3 := hideP H3
  have HSV := hideP hsv
  have HX3 := hideP x3
  clear HI H H2 H3 hlv hsv x3 HH0 hF
  have h00 : ((D.length : Int) == 0) = false := by rw [h0]; simp; omega
  have hD' : D'.length ≤ 100 := by rw [h0] at hD; simp at hD; omega
  have H0 := hideP h0
  clear h0
  go_wp2_with fail
  go_region
  go_wp2_with fail
  have hcut := HH3.out.cut
  have hrow := xasZ HH3.out.stk (xakZ W3 ⟨b, 0, none⟩ (.slice (some ⟨g, 0, none⟩) D.length cap)) (xatZ HH3.out.at_.cell) (by decide)
  rw [HSV.out] at hrow
  have hv := xb8Z hrow
  refine (xe7Z w0 b pv _ D' y _ x.stk _ (hcut.below ((Below.refl _ _).drew)) H0.out (hv.below ((Below.refl _ _).drew)) (xdiZ hrow) hD' (by omega) (by omega)).mono ?_
  rintro e w4 ⟨rfl, h4, -, -⟩
  have H4 := hideP h4
  clear h4 hcut hrow hv
  go_wp2
  go_end0
  exact ⟨rfl, H4.out⟩
end Go.Proofs.YtmjjkenblfndgaaGreat


/- stride's call. -/
namespace Go.Proofs.YtmjjkenblfndgaaGreat
open Go.RowKit Go.Shelf
set_option linter.unusedSimpArgs false
set_option linter.unusedVariables false
attribute [local go_sem] Oper.semAt_some
theorem xa5Z {W : World} {B : Nat} {e : TypeId} {size n cap g : Nat} {xs : List Value} (h : W.ownsRow B e size (.slice (some ⟨g, 0, none⟩) n cap) n xs) (j : Nat) (u : Value) (hj : xs[j]? = some u) : W.cell? ⟨g, j, none⟩ = some u := by
  rcases h.2 with ⟨h1, _⟩ | ⟨g', cap', cur, h1, h2, h3, h4, h5, h6, h7⟩
  · cases h1
  · cases h1
    rw [xaaZ h3]
    rw [← h7, List.getElem?_take] at hj
    split at hj
    · simpa using hj
    · cases hj
theorem DAt.open {w0 W : World} {b : Nat} {pv fv bv iv ov : Value} {q' : List FV} {qb : List Value} {M : Mach} {D : List Frm} {x : Frm} (h : DAt w0 W b pv fv bv iv ov q' qb M) (hF : M.frames = D ++ [x]) : ∃ g cap q c, q' = q ++ [c] ∧ fv = .slice (some ⟨g, 0, none⟩) (D.length + 1) cap ∧ DIn w0 W b pv M D x g cap bv iv ov q c qb := by
  have hl := h.own.frs.len
  rw [hF] at hl
  obtain ⟨q, c, rfl⟩ : ∃ q c, q' = q ++ [c] := by
    rcases List.eq_nil_or_concat q' with h0 | ⟨q, c, h0⟩
    · subst h0; simp at hl
    · exact ⟨q, c, by simpa using h0⟩
  have hlen : q.length = D.length := by simpa using hl
  have hrow := h.own.fr
  have hn : (q ++ [c]).length = D.length + 1 := by simp [hlen]
  rcases hrow.2 with ⟨_, h0⟩ | ⟨g, cap, cur, hv, hB, hg, h1, h2, h3, h4⟩
  · omega
  have hfrs := h.own.frs
  rw [hF] at hfrs
  have hx : (D ++ [x])[q.length]? = some x := by rw [hlen]; exact xbeZ _ _
  obtain ⟨e1, e2⟩ := hfrs.nums q.length c x (xbeZ _ _) hx
  obtain ⟨a0, a1, a2, a3⟩ := xd2Z (q ++ [c]) q.length c (xbeZ _ _)
  obtain ⟨r1, r2⟩ := xd3Z (q ++ [c]) q.length c (xbeZ _ _)
  obtain ⟨v1, v2⟩ := xjtZ (D ++ [x]) q.length x hx
  have o1 := hfrs.rows.each _ _ _ r1 v1
  have o2 := hfrs.rows.each _ _ _ r2 v2
  rw [← h4, List.getElem?_take_of_lt (by omega)] at a0 a1 a2 a3
  rw [hn] at hv
  subst hv
  refine ⟨g, cap, q, c, rfl, rfl, h, hF, hlen, e1, e2, ?_, ?_, ?_, ?_, ⟨_, hg⟩, o1, o2⟩
  · rw [xaaZ hg, ← e1, ← hlen]; simpa using a0
  · rw [xaaZ hg, ← e2, ← hlen]; simpa using a1
  · rw [xaaZ hg, ← hlen]; simpa using a2
  · rw [xaaZ hg, ← hlen]; simpa using a3
def DoerN (w0 W : World) (b : Nat) (pv : Value) (M : Mach) (z : Nat) : Prop := ∃ fv bv iv ov q qb, DAt w0 W b pv fv bv iv ov q qb M ∧ ∀ y ∈ fRows q, y.ownBlock ≠ some z
theorem DoerN.doer {w0 W : World} {b : Nat} {pv : Value} {M : Mach} {z : Nat} (h : DoerN w0 W b pv M z) : Doer w0 W b pv M := by
  obtain ⟨fv, bv, iv, ov, q, qb, h, _⟩ := h
  exact ⟨fv, bv, iv, ov, q, qb, h⟩
theorem DoerN.below {w0 W W' : World} {b : Nat} {pv : Value} {M : Mach} {z : Nat} (h : DoerN w0 W b pv M z) (hb : Below W.heap.size W W') : DoerN w0 W' b pv M z := by
  obtain ⟨fv, bv, iv, ov, q, qb, h, hn⟩ := h
  exact ⟨fv, bv, iv, ov, q, qb, h.below hb, hn⟩
theorem mem_fRows {q : List FV} {y : Value} (h : y ∈ fRows q) : ∃ (k : Nat) (c : FV), q[k]? = some c ∧ (y = c.lv ∨ y = c.sv) := by
  obtain ⟨c, hc, hy⟩ := List.mem_flatMap.1 h
  obtain ⟨k, hk⟩ := List.getElem?_of_mem hc
  exact ⟨k, c, hk, by simpa using hy⟩
theorem Doer.fresh {w0 W : World} {b : Nat} {pv : Value} {M : Mach} (h : Doer w0 W b pv M) {z : Nat} (hz : W.heap.size ≤ z) : DoerN w0 W b pv M z := by
  obtain ⟨fv, bv, iv, ov, q, qb, h⟩ := h
  refine ⟨fv, bv, iv, ov, q, qb, h, fun y hy e => ?_⟩
  obtain ⟨k, hk⟩ := List.getElem?_of_mem hy
  have := (h.own.frs.rows.lt hk e).2.1
  omega
theorem DoerN.take {w0 W W' : World} {b : Nat} {pv : Value} {M M' : Mach} {z : Nat} {D : List Frm} {x x' : Frm} (h : DoerN w0 W b pv M z) (hF : M.frames = D ++ [x]) (hx : x.stk ≠ []) (h' : Doer w0 W' b pv M') (hF' : M'.frames = D ++ [x']) (ho : xg3Z b W W') (hc : StkCut b W W') : DoerN w0 W' b pv M' z := by
  obtain ⟨fv, bv, iv, ov, q0, qb, hA, hn⟩ := h
  obtain ⟨fv', bv', iv', ov', q0', qb', hA'⟩ := h'
  obtain ⟨g, cap, q, c, rfl, rfl, H⟩ := hA.open hF
  obtain ⟨g', cap', q', c', rfl, rfl, H'⟩ := hA'.open hF'
  obtain ⟨og, oj⟩ := ho _ _ _ H.fcell
  have hb0 := og.cell H.fcell (fun e => H.gne (by simpa using e))
  have hgg : g' = g := H'.one hb0
  subst hgg
  refine ⟨_, _, _, _, _, _, hA', fun y hy e => ?_⟩
  obtain ⟨k, d', hk, hy⟩ := mem_fRows hy
  have hkl := xadZ hk
  have hlen : (q' ++ [c']).length = (q ++ [c]).length := by simp [H.len, H'.len]
  obtain ⟨d, hd⟩ := xagZ (l := q ++ [c]) (k := k) (by omega)
  obtain ⟨-, -, a2, a3⟩ := xd2Z _ _ _ hd
  obtain ⟨-, -, b2, b3⟩ := xd2Z _ _ _ hk
  obtain ⟨r1, r2⟩ := xd3Z _ _ _ hd
  have ca2 := xa5Z H.fr_row _ _ a2
  have ca3 := xa5Z H.fr_row _ _ a3
  have cb2 := xa5Z H'.fr_row _ _ b2
  have cb3 := xa5Z H'.fr_row _ _ b3
  have hql : (q ++ [c]).length = D.length + 1 := by simp [H.len]
  rcases hy with rfl | rfl
  · have := (oj (k * 4 + 2) (by omega)).symm.trans cb2
    rw [ca2] at this
    rw [← Option.some.inj this] at e
    exact hn _ (List.mem_of_getElem? r1) e
  · by_cases hkD : k = D.length
    · have hst := H.stk
      obtain ⟨m, hm⟩ : ∃ m, x.stk.length = m + 1 := ⟨x.stk.length - 1, by have := List.length_pos_iff.2 hx; omega⟩
      rw [hm] at hst
      obtain ⟨gs, caps, hsv⟩ := ownsRow_succ hst
      have h3 := H.c3
      rw [hsv] at h3
      have := hc _ _ _ _ _ _ H.fcell (by rw [Nat.add_sub_cancel]; exact h3)
      rw [Nat.add_sub_cancel] at this
      rw [hkD, this] at cb3
      have e2 : d'.sv = .slice (some ⟨gs, 0, none⟩) (m + 1 - 1) caps := (Option.some.inj cb3).symm
      rw [e2] at e
      refine hn c.sv ?_ ?_
      · have hc1 : (q ++ [c])[D.length]? = some c := by rw [← H.len]; exact xbeZ _ _
        exact List.mem_of_getElem? (xd3Z _ _ _ hc1).2
      · rw [hsv]; exact e
    · have := (oj (k * 4 + 3) (by omega)).symm.trans cb3
      rw [ca3] at this
      rw [← Option.some.inj this] at e
      exact hn _ (List.mem_of_getElem? r2) e
theorem DoerN.other {w0 W W' : World} {b : Nat} {pv : Value} {M : Mach} {z : Nat} (h : DoerN w0 W b pv M z) (hg : W.grownBy W' (some z)) (ht : TyRow W (some z) 113) (hz : w0.heap.size ≤ z) : DoerN w0 W' b pv M z := by
  obtain ⟨fv, bv, iv, ov, q, qb, h, hn⟩ := h
  refine ⟨fv, bv, iv, ov, q, qb, ⟨?_, ⟨xasZ h.own.fr hg ht (by decide), ⟨h.own.frs.len, h.own.frs.nums, h.own.frs.rows.same fun k x g hx hgx => ?_⟩, xasZ h.own.bl hg ht (by decide), h.own.rows.keep hg ht (by decide)⟩, h.bel.grown hg h.bel.size (fun k hk => by cases hk; exact hz), h.lo⟩, hn⟩
  · refine (hg.block b h.lt (fun e => ?_)).trans h.cell
    obtain ⟨cs, fz, hh⟩ := ht b e.symm
    rw [h.cell] at hh; simp at hh
  · refine hg.block g (h.own.frs.rows.lt hx hgx).2.1 (fun e => ?_)
    cases e
    exact hn x (List.mem_of_getElem? hx) hgx
theorem DAt.push {w0 W : World} {b : Nat} {pv fv bv iv ov : Value} {q : List FV} {qb : List Value} {M : Mach} (h : DAt w0 W b pv fv bv iv ov q qb M) {W2 : World} {u : Value} {c : FV} {x : Frm} (hg : W.grownBy W2 fv.ownBlock) (hr : W2.ownsRow w0.heap.size 89 4 u (q.length + 1) (fCells (q ++ [c]))) (h1 : c.fn = x.fn) (h2 : c.pc = x.pc) (hl : W2.ownsRow w0.heap.size 113 2 c.lv x.loc.length (valCells x.loc)) (hs : c.sv = .slice none 0 0) (hx : x.stk = []) (hn : ∀ y ∈ fRows q, ∀ z, c.lv.ownBlock = some z → y.ownBlock ≠ some z) : Doer w0 (W2.setCell ⟨b, 0, none⟩ u) b pv { M with frames := M.frames ++ [x] } := by
  have hty : TyRow W fv.ownBlock 89 := xcnZ h.own.fr
  have hcell2 : W2.heap[b]? = _ := (hg.block b h.lt (fun e => by
    obtain ⟨cs, fz, hh⟩ := hty b e.symm
    rw [h.cell] at hh; simp at hh)).trans h.cell
  have hgs := xakZ W2 ⟨b, 0, none⟩ u
  have hty2 : TyRow W2 (some b) 162 := xatZ hcell2
  have hsc := heap_setCell_same W2 b 0 _ _ u hcell2
  have hfr := h.own.frs.keep hg hty (by decide)
  have hfs : FRows W2 w0.heap.size (q ++ [c]) (M.frames ++ [x]) := by
    refine ⟨by simp [hfr.len], fun k d y hd hy => ?_, ?_⟩
    · rcases xbcZ hd with ⟨a1, a2⟩ | ⟨a1, rfl⟩
      · rcases xbcZ hy with ⟨b1, b2⟩ | ⟨b1, rfl⟩
        · exact hfr.nums k d y a2 b2
        · have := hfr.len; omega
      · rcases xbcZ hy with ⟨b1, b2⟩ | ⟨b1, rfl⟩
        · have := hfr.len; omega
        · exact ⟨h1, h2⟩
    · have e1 : fRows (q ++ [c]) = (fRows q ++ [c.lv]) ++ [c.sv] := by simp [fRows]
      have e2 : fVals (M.frames ++ [x]) = (fVals M.frames ++ [x.loc]) ++ [x.stk] := by simp [fVals]
      rw [e1, e2, hs, hx]
      refine (hfr.rows.snoc hl fun k y g h3 h4 h5 => hn y (List.mem_of_getElem? h3) g h5 h4).snoc (by simpa [valCells] using World.ownsRow_nil W2 w0.heap.size 113 2) fun k y g h3 h4 h5 => by cases h5
  refine ⟨u, bv, iv, ov, q ++ [c], qb, ⟨by simpa using hsc, ⟨?_, hfs.keep hgs hty2 (by decide), xasZ (xasZ h.own.bl hg hty (by decide)) hgs hty2 (by decide), (h.own.rows.keep hg hty (by decide)).keep hgs hty2 (by decide)⟩, (h.bel.grown hg h.bel.size (fun k hk => (h.own.fr.lt k hk).1)).setCell h.lo _, h.lo⟩⟩
  rw [show (q ++ [c]).length = q.length + 1 by simp]
  exact xasZ hr hgs hty2 (by decide)
end Go.Proofs.YtmjjkenblfndgaaGreat


