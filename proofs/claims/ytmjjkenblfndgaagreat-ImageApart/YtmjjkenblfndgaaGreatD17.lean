/- My texts Ni Nj Mj Mv Mm: what of them is needed, joined. -/

import Derived.Test.YtmjjkenblfndgaaGreatD13
import Derived.Test.YtmjjkenblfndgaaGreatD15
import Derived.Test.YtmjjkenblfndgaaGreatD16
set_option maxRecDepth 100000
set_option maxHeartbeats 8000000
/- machine's checker: all frames, one that waits; Check. -/
namespace Go.Proofs.YtmjjkenblfndgaaGreat
open Go.RowKit
set_option linter.unusedSimpArgs false
set_option linter.unusedVariables false
def PcOk (M : Mach) : Prop := ∀ x ∈ M.frames, -9223372036854775808 ≤ x.pc ∧ x.pc ≤ 9223372036854775807
theorem xofZ {p : List Fn} {e : Nat → Nat → Option (List Int)} {nb k kk : Nat} {F : List Frm} {x : Frm} {f : Fn} (hx : F[k]? = some x) (hk : x.fn = (kk : Int)) (hf : p[kk]? = some f) : xb6Z p e nb (F.drop k) = if xceZ p e nb ((F[k + 1]?).map Frm.fn) x kk f ≠ 0 then xceZ p e nb ((F[k + 1]?).map Frm.fn) x kk f else xb6Z p e nb (F.drop (k + 1)) := by
  have hd : F.drop k = x :: F.drop (k + 1) := by
    rw [List.drop_eq_getElem_cons (xaeZ hx)]
    congr 1
    exact Option.some.inj ((List.getElem?_eq_getElem (xaeZ hx)).symm.trans hx)
  rw [hd]
  have hkt : x.fn.toNat = kk := by omega
  simp only [xb6Z]
  rw [hkt, hf]
  simp only
  have hh : (F.drop (k + 1)).head?.map Frm.fn = (F[k + 1]?).map Frm.fn := by rw [List.head?_drop]
  rw [hh]
theorem xnzZ (M : Mach) (p : List Fn) (e : Nat → Nat → Option (List Int)) (pv fv bv iv ov : Value) (w : World) (hp : xanZ p = 0) (he : xa1Z p e) (h : CkAt w p pv fv bv iv ov M) (hall : M.frames.all (xb7Z p) = true) (h6 : M.frames.length ≤ 6) (hpc : PcOk M) : Calls Tryz.prog 108 #[chkV pv fv bv iv ov M] w (Says (xb6Z p e M.blocks.length M.frames) w) := by
  obtain ⟨⟨pp, qp, hpv⟩, ⟨pf, cf, hfv⟩, ⟨pb, cb, hbv⟩, ⟨pi, ci, hiv⟩, ⟨po, co, hov⟩⟩ := h.shp
  subst hpv hfv hbv hiv hov
  obtain ⟨W1, hW1⟩ : ∃ W1, w.alloc (.cells #[.slice pf M.frames.length cf, .slice pb M.blocks.length cb, .slice pi M.inp.length ci, .slice po M.out.length co, .int .i64 M.status, .int .i64 M.trap, .slice pp p.length qp] 121) = W1 := ⟨_, rfl⟩
  have b1 : Below w.heap.size w W1 := by rw [← hW1]; exact (Below.refl _ w).alloc (Nat.le_refl _) _
  have u1 : W1.heap[w.heap.size]? = some (.cells #[.slice pf M.frames.length cf, .slice pb M.blocks.length cb, .slice pi M.inp.length ci, .slice po M.out.length co, .int .i64 M.status, .int .i64 M.trap, .slice pp p.length qp] 121 (0, 0)) := by rw [← hW1]; exact World.alloc_heap_new w _
  have l1 := xacZ u1
  have a0 : W1.cell? ⟨w.heap.size, 0, none⟩ = some (.slice pf M.frames.length cf) := xaaZ u1 0
  have KC : Hid (∀ W, Below W1.heap.size W1 W → W.cell? ⟨w.heap.size, 0, none⟩ = some (.slice pf M.frames.length cf) ∧ W.cell? ⟨w.heap.size, 1, none⟩ = some (.slice pb M.blocks.length cb) ∧ W.cell? ⟨w.heap.size, 2, none⟩ = some (.slice pi M.inp.length ci) ∧ W.cell? ⟨w.heap.size, 3, none⟩ = some (.slice po M.out.length co) ∧ W.cell? ⟨w.heap.size, 4, none⟩ = some (.int .i64 M.status) ∧ W.cell? ⟨w.heap.size, 5, none⟩ = some (.int .i64 M.trap) ∧ W.cell? ⟨w.heap.size, 6, none⟩ = some (.slice pp p.length qp)) := fun W hW => by
    have hu := (hW.block _ l1).trans u1
    exact ⟨xaaZ hu 0, xaaZ hu 1, xaaZ hu 2, xaaZ hu 3, xaaZ hu 4, xaaZ hu 5, xaaZ hu 6⟩
  have HH := hideP h
  have HALL := hideP hall
  have HPC := hideP hpc
  have HP := hideP hp
  have HE := hideP he
  clear h hall hpc hp he u1
  go_enter Tryz.func108, Tryz.ntmps108
  go_wp2
  go_loopw [3, 9] (fun _ i wr => ∃ k : Nat, k ≤ M.frames.length ∧ i = .int .i64 k ∧ xb6Z p e M.blocks.length M.frames = xb6Z p e M.blocks.length (M.frames.drop k) ∧ Below W1.heap.size W1 wr) (fun _ i _ => M.frames.length - (intOf i).toNat)
  case atStart => exact ⟨0, Nat.zero_le _, rfl, by simp, Below.refl _ _⟩
  case round =>
    obtain ⟨k, hk, rfl, hfe, hbw⟩ := hrel
    have HFE := hideP hfe
    clear hfe
    by_cases hlt : k < M.frames.length
    · obtain ⟨x, hx⟩ := xaiZ hlt
      obtain ⟨kk, f, hkk, hf⟩ := progFn (List.all_eq_true.1 HALL.out x (List.mem_of_getElem? hx))
      have hpcx := HPC.out x (List.mem_of_getElem? hx)
      have hbw1 := b1.trans (hbw.mono b1.size)
      obtain ⟨q0, q1, q2, q3, q4, q5, q6⟩ := KC.out wr hbw
      have HC := hideP (fits_any M p e _ _ _ _ _ k kk x f wr HP.out HE.out (HH.out.below hbw1) HALL.out hx hf hkk h6 hpcx.1 hpcx.2)
      have HAT := hideP (xofZ (e := e) (nb := M.blocks.length) hx hkk hf)
      have hlti : (k : Int) < (M.frames.length : Int) := by omega
      generalize xceZ p e M.blocks.length ((M.frames[k + 1]?).map Frm.fn) x kk f = a at HC HAT
      clear hx hkk hf hpcx
      by_cases h0 : a = 0
      · subst h0
        go_wp2_with fail
        refine HC.out.mono ?_
        rintro e' w2 ⟨rfl, b2⟩
        go_wp2
        go_roundw
        case rel => exact ⟨k + 1, by omega, by go_num, by rw [HFE.out, HAT.out, if_neg (by simp)], hbw.trans (b2.mono hbw.size)⟩
        case measure => simp [intOf]; omega
      · have h0' : (a != 0) = true := by simpa using h0
        have HN := hideP h0
        clear h0
        go_wp2_with fail
        refine HC.out.mono ?_
        rintro e' w2 ⟨rfl, b2⟩
        go_wp2
        go_ret
        exact ⟨by rw [HFE.out, HAT.out, if_pos HN.out]; rfl, hbw1.trans (b2.mono hbw1.size)⟩
    · have hlt' : ¬ (k : Int) < (M.frames.length : Int) := by omega
      go_wp2
      go_ret
      refine ⟨?_, b1.trans (hbw.mono b1.size)⟩
      rw [HFE.out, List.drop_of_length_le (by omega)]
      rfl
theorem xm8Z (M : Mach) (p : List Fn) (pv fv bv iv ov : Value) (w : World) (h : CkAt w p pv fv bv iv ov M) (hpl : p.length ≤ 1000) (h6 : M.frames.length ≤ 1000) (hi10 : M.inp.length ≤ 1000)
    (hw : M.status = 1 → ∃ (x : Frm) (kk pc : Nat) (f : Fn) (o : Int × Int), M.frames.getLast? = some x ∧ x.fn = (kk : Int) ∧ p[kk]? = some f ∧ x.pc = (pc : Int) ∧ f.2.2.2[pc]? = some o ∧ f.2.2.2.length ≤ 1000) : Calls Tryz.prog 109 #[chkV pv fv bv iv ov M] w (Says (xfbZ p M) w) := by
  obtain ⟨⟨pp, qp, hpv⟩, -, ⟨pb, cb, hbv⟩, ⟨pi, ci, hiv⟩, ⟨po, co, hov⟩⟩ := h.shp
  obtain ⟨pf, cf, hfv, hfm, -, hfc⟩ := id h.mach.fr
  subst hpv hfv hbv hiv hov
  by_cases h1 : M.status = 1
  rotate_left
  · have h1' : (M.status != 1) = true := by simpa using h1
    have HN := hideP h1
    clear h1 hw hfc h
    go_enter Tryz.func109, Tryz.ntmps109
    go_wp2
    go_ret
    exact xb0Z (by unfold xfbZ; rw [if_pos HN.out])
  obtain ⟨x, kk, pc, f, o, hx, hkk, hf, hxp, ho, hcl⟩ := hw h1
  obtain ⟨c, A⟩ := o
  have hlo : xcfZ p M = some (c, A) := by
    unfold xcfZ
    rw [hx]
    simp only [Option.bind_some, show x.fn.toNat = kk by omega, hf, show x.pc.toNat = pc by omega, ho]
  have h1' : (M.status != 1) = false := by simpa using h1
  have hwe : xfbZ p M = if c ≠ 21 ∨ 0 < M.inp.length then 4 else 0 := by
    unfold xfbZ
    rw [if_neg (by simpa using h1), hlo]
  obtain ⟨n, hn⟩ : ∃ n, M.frames.length = n + 1 := by
    cases hm : M.frames with
    | nil => rw [hm] at hx; simp at hx
    | cons a r => exact ⟨r.length, by simp⟩
  have hxn : M.frames[n]? = some x := by rw [← hx, List.getLast?_eq_getElem?, hn]; rfl
  obtain ⟨g, off, lv1, sv1, rfl, hg, x0, x1, x2, x3, hL, -, hS, -⟩ := hfc n x hxn
  obtain ⟨pl1, cl1, hlv1, hlm1, -⟩ := id hL
  obtain ⟨ps1, cs1, hsv1, hsm1, -⟩ := id hS
  subst hlv1 hsv1
  obtain ⟨pp', qp', hpe, -, hpc⟩ := id h.fns
  cases hpe
  obtain ⟨fb, fo, c0, c1, c2, c3, hpp, hplt, -, -, -, z3, hfn⟩ := hpc kk f hf
  subst hpp
  obtain ⟨-, -, -, hops⟩ := hfn
  obtain ⟨p3, q3, he3, -, hoc⟩ := id hops
  subst he3
  obtain ⟨ob, oo, hob, holt, o0, o1⟩ := hoc pc _ ho
  subst hob
  simp only at o0
  have hkl := xaeZ hf
  have hpl' := xaeZ ho
  have hkli : (kk : Int) < (p.length : Int) := by omega
  have hpcli : (pc : Int) < (f.2.2.2.length : Int) := by omega
  rw [hkk] at x0
  rw [hxp] at x1
  have x0a := fun o => xabZ x0 o
  have x1a := fun o => xabZ x1 o
  have x2a := fun o => xabZ x2 o
  have x3a := fun o => xabZ x3 o
  have z3b := fun o o' => xabZ (xabZ z3 o) o'
  have o0b := fun o o' => xabZ (xabZ o0 o) o'
  rw [hn]
  have hnlt : (n : Int) < ((n + 1 : Nat) : Int) := by omega
  have hn6 : n ≤ 1000 := by omega
  have hb2 : ∀ o o', Below w.heap.size w ((w.alloc o).alloc o') := fun o o' => ((Below.refl _ w).alloc (Nat.le_refl _) _).alloc (by simp) _
  have HWE := hideP hwe
  have HST := hideP h1
  clear hw h hx hkk hf hxp ho hlo hwe hn hxn hfc hpc hoc hops hL hS x0 x1 x2 x3 h1
  by_cases hc : c = 21
  · have hc' : (c != 21) = false := by simpa using hc
    have HC := hideP hc
    clear hc
    by_cases hi : 0 < M.inp.length
    · have hi' : (0 : Int) < (M.inp.length : Int) := by omega
      have hid : decide ((M.inp.length : Int) > 0) = true := by simpa using hi'
      go_enter Tryz.func109, Tryz.ntmps109
      go_wp2
      go_quiet (fail)
      go_wp2
      go_ret
      exact ⟨by rw [HWE.out, if_pos (.inr hi)]; rfl, below_drewN (hb2 _ _) _⟩
    · have hi' : ¬ (0 : Int) < (M.inp.length : Int) := by omega
      have hid : decide ((M.inp.length : Int) > 0) = false := by simpa using hi'
      go_enter Tryz.func109, Tryz.ntmps109
      go_wp2
      go_quiet (fail)
      go_wp2
      go_ret
      exact ⟨by rw [HWE.out, if_neg (by have := HC.out; omega)]; rfl, below_drewN (hb2 _ _) _⟩
  · have hc' : (c != 21) = true := by simpa using hc
    have HC := hideP hc
    clear hc
    go_enter Tryz.func109, Tryz.ntmps109
    go_wp2
    go_quiet (fail)
    go_wp2
    go_ret
    exact ⟨by rw [HWE.out, if_pos (.inl HC.out)]; rfl, below_drewN (hb2 _ _) _⟩
end Go.Proofs.YtmjjkenblfndgaaGreat


/- machine.Check. -/
namespace Go.Proofs.YtmjjkenblfndgaaGreat
open Go.RowKit
set_option linter.unusedSimpArgs false
set_option linter.unusedVariables false
theorem xi3Z {p : List Fn} {M : Mach} (h : xchZ p M = 0) : M.frames.all (xb7Z p) = true := by
  unfold xchZ at h
  split at h
  · cases h
  · rename_i a; simpa using a
theorem xijZ {M : Mach} (h : xdgZ M = 0) : M.frames.length ≤ 6 ∧ (M.frames.length = 0 → M.status = 2) := by
  unfold xdgZ at h
  split at h
  · cases h
  split at h
  · cases h
  · omega
theorem xplZ {M : Mach} (h : xdoZ M = 0) : M.inp.length ≤ 10 := by
  unfold xdoZ at h
  split at h
  · cases h
  · omega
theorem ckAll_any (M : Mach) (p : List Fn) (e : Nat → Nat → Option (List Int)) (pv fv bv iv ov : Value) (w : World) (hp : xanZ p = 0) (he : xa1Z p e) (h : CkAt w p pv fv bv iv ov M) (hpc : PcOk M) : Calls Tryz.prog 75 #[chkV pv fv bv iv ov M] w (Says (xjrZ p e M) w) := by
  obtain ⟨⟨pp, qp, hpv⟩, ⟨pf, cf, hfv⟩, ⟨pb, cb, hbv⟩, ⟨pi, ci, hiv⟩, ⟨po, co, hov⟩⟩ := h.shp
  have s1 : ∃ q n c, pv = .slice q n c := ⟨_, _, _, hpv⟩
  have s2 : ∃ q n c, fv = .slice q n c := ⟨_, _, _, hfv⟩
  have s3 : ∃ q n c, bv = .slice q n c := ⟨_, _, _, hbv⟩
  have s4 : ∃ q n c, iv = .slice q n c := ⟨_, _, _, hiv⟩
  have s5 : ∃ q n c, ov = .slice q n c := ⟨_, _, _, hov⟩
  refine check_gen M pv fv bv iv ov [stErr M, blkErr M.blocks, xdoZ M, xdgZ M, xchZ p M, xb6Z p e M.blocks.length M.frames, xfbZ p M] w s1 s2 s3 s4 s5 rfl (fun k F a hF ha hz W hW => ?_)
  have hW' := h.below hW
  rcases k with _ | _ | _ | _ | _ | _ | _ | k
  · cases hF
    cases ha
    exact xn0Z M pv fv bv iv ov W s1 s2 s3 s4 s5
  · cases hF
    cases ha
    exact xnyZ M pv fv bv iv ov W s1 s2 hW'.mach.bl s4 s5
  · cases hF
    cases ha
    exact xpnZ M pv fv bv iv ov W s1 s2 s3 hW'.mach.inp.at_ hW'.mach.out.at_
  · cases hF
    cases ha
    rw [hfv]
    exact xpoZ M pv bv iv ov pf cf W s1 s3 s4 s5
  · cases hF
    cases ha
    rw [hpv]
    exact xpqZ M p fv bv iv ov pp qp W hW'.mach.fr s3 s4 s5
  · cases hF
    cases ha
    have h4 : xchZ p M = 0 := hz _ (by simp)
    have h3 : xdgZ M = 0 := hz _ (by simp)
    exact xnzZ M p e pv fv bv iv ov W hp he hW' (xi3Z h4) (xijZ h3).1 hpc
  · cases hF
    cases ha
    have h5 : xb6Z p e M.blocks.length M.frames = 0 := hz _ (by simp)
    have h4 : xchZ p M = 0 := hz _ (by simp)
    have h3 : xdgZ M = 0 := hz _ (by simp)
    have h2 : xdoZ M = 0 := hz _ (by simp)
    obtain ⟨d6, d0⟩ := xijZ h3
    have hb := xplZ h2
    have hps := xieZ hp
    refine xm8Z M p pv fv bv iv ov W hW' (by omega) (by omega) (by omega) (fun hst => ?_)
    have hne : M.frames ≠ [] := fun h0 => by have := d0 (by rw [h0]; rfl); omega
    obtain ⟨x, hx⟩ : ∃ x, M.frames.getLast? = some x := ⟨_, List.getLast?_eq_some_getLast hne⟩
    have hi : M.frames[M.frames.length - 1]? = some x := by rw [← hx, List.getLast?_eq_getElem?]
    obtain ⟨k, f, hr⟩ := (xemZ he (xi3Z h4)).1 h5 _ x hi
    have hpos := List.length_pos_iff.2 hne
    rw [show M.frames[M.frames.length - 1 + 1]? = none from List.getElem?_eq_none (by omega)] at hr
    obtain ⟨pc, s, o, out, g1, g2, g3, g4, _⟩ := xfsZ he hr
    exact ⟨x, k, pc, f, o, hx, hr.fn, hr.at_, g1, g4, (xg7Z hp he hr.at_).2⟩
  · simp [ckFns] at hF
theorem xd6Z (M : Mach) (p : List Fn) (pv fv bv iv ov : Value) (w : World) (h : CkAt w p pv fv bv iv ov M) (hpc : PcOk M) : Calls Tryz.prog 36 #[.agg #[pv], .agg #[fv, bv, iv, ov, .int .i64 M.status, .int .i64 M.trap]] w (Says (xaoZ p M) w) := by
  obtain ⟨⟨pp, qp, hpv⟩, ⟨pf, cf, hfv⟩, ⟨pb, cb, hbv⟩, ⟨pi, ci, hiv⟩, ⟨po, co, hov⟩⟩ := h.shp
  subst hpv hfv hbv hiv hov
  obtain ⟨W1, hW1⟩ : ∃ W1, (w.alloc (.cells #[.slice pp p.length qp] 24)).alloc (.cells #[.slice pf M.frames.length cf, .slice pb M.blocks.length cb, .slice pi M.inp.length ci, .slice po M.out.length co, .int .i64 M.status, .int .i64 M.trap] 48) = W1 := ⟨_, rfl⟩
  have b1 : Below w.heap.size w W1 := by rw [← hW1]; exact ((Below.refl _ w).alloc (Nat.le_refl _) _).alloc (by simp) _
  have u1 : W1.heap[w.heap.size]? = some (.cells #[.slice pp p.length qp] 24 (0, 0)) := by rw [← hW1]; exact xajZ (World.alloc_heap_new w _) _
  have u2 : W1.heap[w.heap.size + 1]? = some (.cells #[.slice pf M.frames.length cf, .slice pb M.blocks.length cb, .slice pi M.inp.length ci, .slice po M.out.length co, .int .i64 M.status, .int .i64 M.trap] 48 (0, 0)) := by rw [← hW1]; exact xa9Z w _ _
  have l1 := xacZ u1
  have l2 := xacZ u2
  have a0 : W1.cell? ⟨w.heap.size, 0, none⟩ = some (.slice pp p.length qp) := xaaZ u1 0
  have H1 := h.below b1
  have HV := hideP (xfnZ p _ W1 H1.fns H1.cap)
  have HH := hideP H1
  have HU1 := hideP u1
  have HU2 := hideP u2
  have HPC := hideP hpc
  clear h H1 u1 u2 hpc
  go_enter Tryz.func36, Tryz.ntmps36
  go_wp2_with fail
  refine HV.out.mono ?_
  rintro e' w2 ⟨er, rfl, hpi, b2⟩
  have hfe := xdvZ hpi
  have v1 := (b2.block _ l1).trans HU1.out
  have v2 := (b2.block _ l2).trans HU2.out
  have c0 : w2.cell? ⟨w.heap.size, 0, none⟩ = some (.slice pp p.length qp) := xaaZ v1 0
  have d0 : w2.cell? ⟨w.heap.size + 1, 0, none⟩ = some (.slice pf M.frames.length cf) := xaaZ v2 0
  have d1 : w2.cell? ⟨w.heap.size + 1, 1, none⟩ = some (.slice pb M.blocks.length cb) := xaaZ v2 1
  have d2 : w2.cell? ⟨w.heap.size + 1, 2, none⟩ = some (.slice pi M.inp.length ci) := xaaZ v2 2
  have d3 : w2.cell? ⟨w.heap.size + 1, 3, none⟩ = some (.slice po M.out.length co) := xaaZ v2 3
  have d4 : w2.cell? ⟨w.heap.size + 1, 4, none⟩ = some (.int .i64 M.status) := xaaZ v2 4
  have d5 : w2.cell? ⟨w.heap.size + 1, 5, none⟩ = some (.int .i64 M.trap) := xaaZ v2 5
  have HFE := hideP hfe
  clear v1 v2 hfe hpi
  by_cases h0 : er = 0
  · subst h0
    obtain ⟨hp, he⟩ := xc6Z.1 HFE.out.symm
    have HC := hideP (ckAll_any M p (entP p) _ _ _ _ _ w2 hp he (HH.out.below b2) HPC.out)
    clear hp he
    go_wp2_with fail
    refine HC.out.mono ?_
    rintro e' w3 ⟨rfl, b3⟩
    go_wp2
    go_ret
    exact ⟨by unfold xaoZ; rw [if_neg (by rw [← HFE.out]; simp)]; rfl, xadZ (xadZ b1 b2) b3⟩
  · have h0' : (er != 0) = true := by simpa using h0
    have HN := hideP h0
    clear h0
    go_wp2
    go_ret
    exact ⟨by unfold xaoZ; rw [if_pos (by rw [← HFE.out]; exact HN.out), HFE.out]; rfl, xadZ b1 b2⟩
end Go.Proofs.YtmjjkenblfndgaaGreat


/- stride's return. -/
namespace Go.Proofs.YtmjjkenblfndgaaGreat
open Go.RowKit
set_option linter.unusedSimpArgs false
set_option linter.unusedVariables false
theorem DIn.cut {w0 W : World} {b : Nat} {pv : Value} {M : Mach} {D : List Frm} {x : Frm} {g cap : Nat} {bv iv ov : Value} {q : List FV} {c : FV} {qb : List Value} (h : DIn w0 W b pv M D x g cap bv iv ov q c qb) : Doer w0 (W.setCell ⟨b, 0, none⟩ (.slice (some ⟨g, 0, none⟩) D.length cap)) b pv { M with frames := D } := by
  have hA := h.at_
  have hgs := xamZ W ⟨b, 0, none⟩ (.slice (some ⟨g, 0, none⟩) D.length cap)
  have hty : TyRow W (some b) 162 := xa5Z hA.cell
  have hs := heap_setCell_same W b 0 _ _ (.slice (some ⟨g, 0, none⟩) D.length cap) hA.cell
  have hk := hA.own.keep hgs hty (by decide) (by decide) (by decide) (by decide)
  have hrow := row_cut h.fr_row D.length (by omega)
  have e1 : (fCells (q ++ [c])).take (D.length * 4) = fCells q := by
    rw [xb3Z, List.take_append_of_le_length (by rw [xb4Z, h.len]; omega), List.take_of_length_le (by rw [xb4Z, h.len]; omega)]
  rw [e1] at hrow
  have hfrs := hA.own.frs
  rw [h.fr] at hfrs
  refine ⟨.slice (some ⟨g, 0, none⟩) D.length cap, bv, iv, ov, q, qb, ⟨by simpa using hs, ⟨?_, hfrs.cut.keep hgs hty (by decide), hk.bl, hk.rows⟩, hA.bel.setCell hA.lo _, hA.lo⟩⟩
  rw [h.len]
  exact xarZ hrow hgs hty (by decide)
theorem ret_done (w0 : World) (b : Nat) (pv : Value) (M : Mach) (D : List Frm) (x : Frm)  (w : World) (h : Doer w0 w b pv M) (hF : M.frames = D ++ [x]) (hD : D.length ≤ 100) (hl : x.stk.length ≤ 90) (h0 : D.length = 0) : Calls Tryz.prog 193 #[.pointer (some ⟨b, 0, none⟩)] w fun e w' => e = .returned (.tuple #[]) ∧ Doer w0 w' b pv { M with frames := [], status := 2 } := by
  obtain ⟨g, cap, bv, iv, ov, q, c, qb, H⟩ := h.open hF
  have HI := hideP (xalZ b g D.length cap w H.fcell hD)
  obtain ⟨pl, cl, hlv⟩ := xagZ H.loc
  obtain ⟨ps, cs, hsv⟩ := xagZ H.stk
  have hcap : D.length + 1 ≤ cap := by
    rcases H.fr_row.2 with ⟨h1, _⟩ | ⟨g', cap', cur', h1, _, _, h4, _⟩
    · cases h1
    · cases h1; exact h4
  have HH0 := hideP H
  clear h
  go_enter Tryz.func193, Tryz.ntmps193
  go_wp2_with fail
  refine HI.out.mono ?_
  rintro e w2 ⟨rfl, b2⟩
  have H2 := HH0.out.below b2
  have c0 := H2.c0
  have c1 := H2.c1
  have c2 := H2.c2
  have c3 := H2.c3
  rw [hlv] at c2
  rw [hsv] at c3
  obtain ⟨W3, hW3⟩ : ∃ W3, w2.alloc (.cells #[.int .i64 x.fn, .int .i64 x.pc, .slice pl x.loc.length cl, .slice ps x.stk.length cs] 89) = W3 := ⟨_, rfl⟩
  have b3 : Below w2.heap.size w2 W3 := by rw [← hW3]; exact (Below.refl _ w2).alloc (Nat.le_refl _) _
  have x3 : W3.heap[w2.heap.size]? = some (.cells #[.int .i64 x.fn, .int .i64 x.pc, .slice pl x.loc.length cl, .slice ps x.stk.length cs] 89 (0, 0)) := by rw [← hW3]; exact World.alloc_heap_new w2 _
  have H3 := H2.below b3
  have f0 := H3.fcell
  have f3 : W3.cell? ⟨w2.heap.size, 3, none⟩ = some (.slice ps x.stk.length cs) := xaaZ x3 3
  have z0 := Lib.frozen_of_heap H3.at_.cell 0
  have f4 := H3.at_.cells.2.2.2.2.1
  have z4 := Lib.frozen_of_heap H3.at_.cell 4
  have hbne : ¬ w2.heap.size = b := by have := H2.at_.lt; omega
  have hbne' : ¬ b = w2.heap.size := fun e => hbne e.symm
  have HH3 := hideP H3
  have HSV := hideP hsv
  have HX3 := hideP x3
  clear HI H H2 H3 hlv hsv x3 HH0 hF
  have h00 : ((D.length : Int) == 0) = true := by simp [h0]
  have H0 := hideP h0
  clear h0
  go_wp2_with fail
  go_region
  go_wp2
  first | go_end0 | refine bodyPost_ret (results_none rfl _ _ _) rfl ?_
  have hD0 : D = [] := List.length_eq_zero_iff.1 H0.out
  obtain ⟨fv5, bv5, iv5, ov5, q5, qb5, D5⟩ := HH3.out.cut
  have h5 := (D5.setSt 2).below ((Below.refl _ _).drew)
  subst hD0
  exact ⟨rfl, h5⟩
theorem ret_on (w0 : World) (b : Nat) (pv : Value) (M : Mach) (D : List Frm) (x : Frm) (D' : List Frm) (y : Frm) (w : World) (h : Doer w0 w b pv M) (hF : M.frames = D ++ [x]) (hD : D.length ≤ 100) (hl : x.stk.length ≤ 90) (h0 : D = D' ++ [y]) (hly : y.stk.length ≤ 90) : Calls Tryz.prog 193 #[.pointer (some ⟨b, 0, none⟩)] w fun e w' => e = .returned (.tuple #[]) ∧ Doer w0 w' b pv { M with frames := D' ++ [{ y with stk := y.stk ++ x.stk }] } := by
  obtain ⟨g, cap, bv, iv, ov, q, c, qb, H⟩ := h.open hF
  have HI := hideP (xalZ b g D.length cap w H.fcell hD)
  obtain ⟨pl, cl, hlv⟩ := xagZ H.loc
  obtain ⟨ps, cs, hsv⟩ := xagZ H.stk
  have hcap : D.length + 1 ≤ cap := by
    rcases H.fr_row.2 with ⟨h1, _⟩ | ⟨g', cap', cur', h1, _, _, h4, _⟩
    · cases h1
    · cases h1; exact h4
  have HH0 := hideP H
  clear h
  go_enter Tryz.func193, Tryz.ntmps193
  go_wp2_with fail
  refine HI.out.mono ?_
  rintro e w2 ⟨rfl, b2⟩
  have H2 := HH0.out.below b2
  have c0 := H2.c0
  have c1 := H2.c1
  have c2 := H2.c2
  have c3 := H2.c3
  rw [hlv] at c2
  rw [hsv] at c3
  obtain ⟨W3, hW3⟩ : ∃ W3, w2.alloc (.cells #[.int .i64 x.fn, .int .i64 x.pc, .slice pl x.loc.length cl, .slice ps x.stk.length cs] 89) = W3 := ⟨_, rfl⟩
  have b3 : Below w2.heap.size w2 W3 := by rw [← hW3]; exact (Below.refl _ w2).alloc (Nat.le_refl _) _
  have x3 : W3.heap[w2.heap.size]? = some (.cells #[.int .i64 x.fn, .int .i64 x.pc, .slice pl x.loc.length cl, .slice ps x.stk.length cs] 89 (0, 0)) := by rw [← hW3]; exact World.alloc_heap_new w2 _
  have H3 := H2.below b3
  have f0 := H3.fcell
  have f3 : W3.cell? ⟨w2.heap.size, 3, none⟩ = some (.slice ps x.stk.length cs) := xaaZ x3 3
  have z0 := Lib.frozen_of_heap H3.at_.cell 0
  have f4 := H3.at_.cells.2.2.2.2.1
  have z4 := Lib.frozen_of_heap H3.at_.cell 4
  have hbne : ¬ w2.heap.size = b := by have := H2.at_.lt; omega
  have hbne' : ¬ b = w2.heap.size := fun e => hbne e.symm
  have HH3 := hideP H3
  have HSV := hideP hsv
  have HX3 := hideP x3
  clear HI H H2 H3 hlv hsv x3 HH0 hF
  have h00 : ((D.length : Int) == 0) = false := by rw [h0]; simp; omega
  have hD' : D'.length ≤ 100 := by rw [h0] at hD; simp at hD; omega
  have H0 := hideP h0
  clear h0
  go_wp2_with fail
  go_region
  go_wp2_with fail
  have hcut := HH3.out.cut
  have hrow := xarZ HH3.out.stk (xamZ W3 ⟨b, 0, none⟩ (.slice (some ⟨g, 0, none⟩) D.length cap)) (xa5Z HH3.out.at_.cell) (by decide)
  rw [HSV.out] at hrow
  have hv := xcdZ hrow
  refine (xfqZ w0 b pv _ D' y _ x.stk _ (hcut.below ((Below.refl _ _).drew)) H0.out (hv.below ((Below.refl _ _).drew)) (xd0Z hrow) hD' (by omega) (by omega)).mono ?_
  rintro e w4 ⟨rfl, h4, -, -⟩
  have H4 := hideP h4
  clear h4 hcut hrow hv
  go_wp2
  go_end0
  exact ⟨rfl, H4.out⟩
end Go.Proofs.YtmjjkenblfndgaaGreat


/- stride's do where it waits. -/
namespace Go.Proofs.YtmjjkenblfndgaaGreat
open Go.RowKit
set_option linter.unusedSimpArgs false
set_option linter.unusedVariables false
theorem do21w (w0 : World) (b : Nat) (pv : Value) (M : Mach) (D : List Frm) (x : Frm) (p : List Fn) (k pc : Nat) (f : Fn) (A : Int) (w : World) (h : Doer w0 w b pv M) (hF : M.frames = D ++ [x]) (hD : D.length ≤ 100) (hp : FnsAt w0 pv p) (hk : p[k]? = some f) (hfn : x.fn = (k : Int)) (hpc : x.pc = (pc : Int)) (hpl : f.2.2.2.length ≤ 1000) (ho : f.2.2.2[pc]? = some (21, A)) (hin : M.inp = []) : Calls Tryz.prog 111 #[.pointer (some ⟨b, 0, none⟩)] w fun e w' => e = .returned (.tuple #[]) ∧ Doer w0 w' b pv { M with status := 1 } := by
  obtain ⟨g, cap, bv, iv, ov, q, c, qb, H⟩ := h.open hF
  have HI := hideP (xalZ b g D.length cap w H.fcell hD)
  have hin' : ((M.inp.length : Int) == 0) = true := by simp [hin]
  obtain ⟨pin, cin, hinv⟩ := xagZ H.at_.own.inp
  have HH0 := hideP H
  obtain ⟨pp, qp, hpv, hpm, -⟩ := id hp
  subst hpv
  have HP := hideP hp
  have hpcl := xaeZ ho
  have hkl := xaeZ hk
  have HO := hideP ho
  have HK := hideP hk
  have HFN := hideP hfn
  have HPC := hideP hpc
  clear h hF H hp ho hin hk hfn hpc
  go_enter Tryz.func111, Tryz.ntmps111
  go_wp2_with fail
  refine HI.out.mono ?_
  rintro e w2 ⟨rfl, b2⟩
  have H2 := HH0.out.below b2
  have c0 := H2.c0
  have c1 := H2.c1
  rw [HFN.out] at c0
  rw [HPC.out] at c1
  have c6 := H2.at_.cells.2.2.2.2.2.2
  obtain ⟨pp', qp', hpe, -, hpc⟩ := id (HP.out.below H2.at_.bel)
  cases hpe
  obtain ⟨pb, po, f0, f1, f2, f3, hpp, hplt, -, -, -, y3, hfn⟩ := hpc k f HK.out
  subst hpp
  obtain ⟨-, -, -, hops⟩ := hfn
  obtain ⟨p3, q3, he3, -, hoc⟩ := id hops
  subst he3
  obtain ⟨ob, oo, hob, holt, o0, o1⟩ := hoc pc _ HO.out
  subst hob
  have hkli : (k : Int) < (p.length : Int) := by omega
  have hpcli : (pc : Int) < (f.2.2.2.length : Int) := by omega
  have c0a := fun o => xabZ c0 o
  have c1a := fun o => xabZ c1 o
  have c6a := fun o => xabZ c6 o
  have y3a := fun o => xabZ y3 o
  have o0a := fun o => xabZ o0 o
  have o1a := fun o => xabZ o1 o
  clear hpc hoc hops
  go_wp2_with fail
  go_region
  obtain ⟨W3, hW3⟩ : ∃ W3, (w2.alloc (.cells #[.int .i64 21, .int .i64 A] 86)).drew = W3 := ⟨_, rfl⟩
  have b3 : Below w2.heap.size w2 W3 := by rw [← hW3]; exact ((Below.refl _ w2).alloc (Nat.le_refl _) _).drew
  have x3 : W3.heap[w2.heap.size]? = some (.cells #[.int .i64 21, .int .i64 A] 86 (0, 0)) := by rw [← hW3]; exact World.alloc_heap_new w2 _
  rw [hW3]
  clear hW3 c0 c1 c6 y3 o0 o1 c0a c1a c6a y3a o0a o1a
  have H3 := H2.below b3
  have e0 : W3.cell? ⟨w2.heap.size, 0, none⟩ = some (.int .i64 21) := xaaZ x3 0
  have e1 : W3.cell? ⟨w2.heap.size, 1, none⟩ = some (.int .i64 A) := xaaZ x3 1
  have d1 := H3.c1
  rw [HPC.out] at d1
  have z1 : W3.frozen? ⟨g, D.length * 4 + 1, none⟩ = false := by obtain ⟨cur, hh⟩ := H3.gb; exact Lib.frozen_of_heap hh _
  have hne : ¬ w2.heap.size = g := by obtain ⟨cur, hh⟩ := H2.gb; have := xacZ hh; omega
  have hne' : ¬ g = w2.heap.size := fun e => hne e.symm
  have i2 := H3.at_.cells.2.2.1
  rw [hinv] at i2
  have z4 := Lib.frozen_of_heap H3.at_.cell 4
  have j4 := H3.at_.cells.2.2.2.2.1
  have HS := hideP H3
  clear H2 H3 x3
  go_wp2_with fail
  first | go_end0 | refine bodyPost_ret (results_none rfl _ _ _) rfl ?_
  exact ⟨rfl, HS.out.at_.setSt 1⟩
end Go.Proofs.YtmjjkenblfndgaaGreat


/- stride's do: one op (1). -/
namespace Go.Proofs.YtmjjkenblfndgaaGreat
open Go.RowKit
set_option linter.unusedSimpArgs false
set_option linter.unusedVariables false
theorem do1 (w0 : World) (b : Nat) (pv : Value) (M : Mach) (D : List Frm) (x : Frm) (p : List Fn) (k pc : Nat) (f : Fn) (A : Int) (w : World) (h : Doer w0 w b pv M) (hF : M.frames = D ++ [x]) (hD : D.length ≤ 100) (hp : FnsAt w0 pv p) (hk : p[k]? = some f) (hfn : x.fn = (k : Int)) (hpc : x.pc = (pc : Int)) (hpl : f.2.2.2.length ≤ 1000) (ho : f.2.2.2[pc]? = some (1, A)) (P : World → Prop)
    (HC : ∀ W, Doer w0 W b pv { M with frames := D ++ [{ x with pc := (pc : Int) + 1 }] } → Calls Tryz.prog 145 #[.pointer (some ⟨b, 0, none⟩), .agg #[.int .i64 1, .int .i64 A]] W fun e w' => e = .returned (.tuple #[]) ∧ P w') : Calls Tryz.prog 111 #[.pointer (some ⟨b, 0, none⟩)] w fun e w' => e = .returned (.tuple #[]) ∧ P w' := by
  obtain ⟨g, cap, bv, iv, ov, q, c, qb, H⟩ := h.open hF
  have HI := hideP (xalZ b g D.length cap w H.fcell hD)
  have HH0 := hideP H
  have HCC := hideP HC
  obtain ⟨pp, qp, hpv, hpm, -⟩ := id hp
  subst hpv
  have HP := hideP hp
  have hpcl := xaeZ ho
  have hkl := xaeZ hk
  have HO := hideP ho
  have HK := hideP hk
  have HFN := hideP hfn
  have HPC := hideP hpc
  clear h hF HC H hp ho hk hfn hpc
  go_enter Tryz.func111, Tryz.ntmps111
  go_wp2_with fail
  refine HI.out.mono ?_
  rintro e w2 ⟨rfl, b2⟩
  have H2 := HH0.out.below b2
  have c0 := H2.c0
  have c1 := H2.c1
  rw [HFN.out] at c0
  rw [HPC.out] at c1
  have c6 := H2.at_.cells.2.2.2.2.2.2
  obtain ⟨pp', qp', hpe, -, hpc⟩ := id (HP.out.below H2.at_.bel)
  cases hpe
  obtain ⟨pb, po, f0, f1, f2, f3, hpp, hplt, -, -, -, y3, hfn⟩ := hpc k f HK.out
  subst hpp
  obtain ⟨-, -, -, hops⟩ := hfn
  obtain ⟨p3, q3, he3, -, hoc⟩ := id hops
  subst he3
  obtain ⟨ob, oo, hob, holt, o0, o1⟩ := hoc pc _ HO.out
  subst hob
  have hkli : (k : Int) < (p.length : Int) := by omega
  have hpcli : (pc : Int) < (f.2.2.2.length : Int) := by omega
  have c0a := fun o => xabZ c0 o
  have c1a := fun o => xabZ c1 o
  have c6a := fun o => xabZ c6 o
  have y3a := fun o => xabZ y3 o
  have o0a := fun o => xabZ o0 o
  have o1a := fun o => xabZ o1 o
  clear hpc hoc hops
  go_wp2_with fail
  go_region
  obtain ⟨W3, hW3⟩ : ∃ W3, (w2.alloc (.cells #[.int .i64 1, .int .i64 A] 86)).drew = W3 := ⟨_, rfl⟩
  have b3 : Below w2.heap.size w2 W3 := by rw [← hW3]; exact ((Below.refl _ w2).alloc (Nat.le_refl _) _).drew
  have x3 : W3.heap[w2.heap.size]? = some (.cells #[.int .i64 1, .int .i64 A] 86 (0, 0)) := by rw [← hW3]; exact World.alloc_heap_new w2 _
  rw [hW3]
  clear hW3 c0 c1 c6 y3 o0 o1 c0a c1a c6a y3a o0a o1a
  have H3 := H2.below b3
  have e0 : W3.cell? ⟨w2.heap.size, 0, none⟩ = some (.int .i64 1) := xaaZ x3 0
  have e1 : W3.cell? ⟨w2.heap.size, 1, none⟩ = some (.int .i64 A) := xaaZ x3 1
  have d1 := H3.c1
  rw [HPC.out] at d1
  have z1 : W3.frozen? ⟨g, D.length * 4 + 1, none⟩ = false := by obtain ⟨cur, hh⟩ := H3.gb; exact Lib.frozen_of_heap hh _
  have hne : ¬ w2.heap.size = g := by obtain ⟨cur, hh⟩ := H2.gb; have := xacZ hh; omega
  have hne' : ¬ g = w2.heap.size := fun e => hne e.symm
  have HS := hideP (H3.setPc ((pc : Int) + 1))
  clear H2 H3 x3
  go_wp2_with (go_at_call 145; refine (HCC.out _ HS.out).mono ?_; rintro e w9 ⟨rfl, h9⟩)
  first | go_end0 | refine bodyPost_ret (results_none rfl _ _ _) rfl ?_
  exact ⟨rfl, h9⟩
theorem do4 (w0 : World) (b : Nat) (pv : Value) (M : Mach) (D : List Frm) (x : Frm) (p : List Fn) (k pc : Nat) (f : Fn) (A : Int) (w : World) (h : Doer w0 w b pv M) (hF : M.frames = D ++ [x]) (hD : D.length ≤ 100) (hp : FnsAt w0 pv p) (hk : p[k]? = some f) (hfn : x.fn = (k : Int)) (hpc : x.pc = (pc : Int)) (hpl : f.2.2.2.length ≤ 1000) (ho : f.2.2.2[pc]? = some (4, A)) (P : World → Prop)
    (HC : ∀ W, Doer w0 W b pv { M with frames := D ++ [{ x with pc := (pc : Int) + 1 }] } → Calls Tryz.prog 145 #[.pointer (some ⟨b, 0, none⟩), .agg #[.int .i64 4, .int .i64 A]] W fun e w' => e = .returned (.tuple #[]) ∧ P w') : Calls Tryz.prog 111 #[.pointer (some ⟨b, 0, none⟩)] w fun e w' => e = .returned (.tuple #[]) ∧ P w' := by
  obtain ⟨g, cap, bv, iv, ov, q, c, qb, H⟩ := h.open hF
  have HI := hideP (xalZ b g D.length cap w H.fcell hD)
  have HH0 := hideP H
  have HCC := hideP HC
  obtain ⟨pp, qp, hpv, hpm, -⟩ := id hp
  subst hpv
  have HP := hideP hp
  have hpcl := xaeZ ho
  have hkl := xaeZ hk
  have HO := hideP ho
  have HK := hideP hk
  have HFN := hideP hfn
  have HPC := hideP hpc
  clear h hF HC H hp ho hk hfn hpc
  go_enter Tryz.func111, Tryz.ntmps111
  go_wp2_with fail
  refine HI.out.mono ?_
  rintro e w2 ⟨rfl, b2⟩
  have H2 := HH0.out.below b2
  have c0 := H2.c0
  have c1 := H2.c1
  rw [HFN.out] at c0
  rw [HPC.out] at c1
  have c6 := H2.at_.cells.2.2.2.2.2.2
  obtain ⟨pp', qp', hpe, -, hpc⟩ := id (HP.out.below H2.at_.bel)
  cases hpe
  obtain ⟨pb, po, f0, f1, f2, f3, hpp, hplt, -, -, -, y3, hfn⟩ := hpc k f HK.out
  subst hpp
  obtain ⟨-, -, -, hops⟩ := hfn
  obtain ⟨p3, q3, he3, -, hoc⟩ := id hops
  subst he3
  obtain ⟨ob, oo, hob, holt, o0, o1⟩ := hoc pc _ HO.out
  subst hob
  have hkli : (k : Int) < (p.length : Int) := by omega
  have hpcli : (pc : Int) < (f.2.2.2.length : Int) := by omega
  have c0a := fun o => xabZ c0 o
  have c1a := fun o => xabZ c1 o
  have c6a := fun o => xabZ c6 o
  have y3a := fun o => xabZ y3 o
  have o0a := fun o => xabZ o0 o
  have o1a := fun o => xabZ o1 o
  clear hpc hoc hops
  go_wp2_with fail
  go_region
  obtain ⟨W3, hW3⟩ : ∃ W3, (w2.alloc (.cells #[.int .i64 4, .int .i64 A] 86)).drew = W3 := ⟨_, rfl⟩
  have b3 : Below w2.heap.size w2 W3 := by rw [← hW3]; exact ((Below.refl _ w2).alloc (Nat.le_refl _) _).drew
  have x3 : W3.heap[w2.heap.size]? = some (.cells #[.int .i64 4, .int .i64 A] 86 (0, 0)) := by rw [← hW3]; exact World.alloc_heap_new w2 _
  rw [hW3]
  clear hW3 c0 c1 c6 y3 o0 o1 c0a c1a c6a y3a o0a o1a
  have H3 := H2.below b3
  have e0 : W3.cell? ⟨w2.heap.size, 0, none⟩ = some (.int .i64 4) := xaaZ x3 0
  have e1 : W3.cell? ⟨w2.heap.size, 1, none⟩ = some (.int .i64 A) := xaaZ x3 1
  have d1 := H3.c1
  rw [HPC.out] at d1
  have z1 : W3.frozen? ⟨g, D.length * 4 + 1, none⟩ = false := by obtain ⟨cur, hh⟩ := H3.gb; exact Lib.frozen_of_heap hh _
  have hne : ¬ w2.heap.size = g := by obtain ⟨cur, hh⟩ := H2.gb; have := xacZ hh; omega
  have hne' : ¬ g = w2.heap.size := fun e => hne e.symm
  have HS := hideP (H3.setPc ((pc : Int) + 1))
  clear H2 H3 x3
  go_wp2_with (go_at_call 145; refine (HCC.out _ HS.out).mono ?_; rintro e w9 ⟨rfl, h9⟩)
  first | go_end0 | refine bodyPost_ret (results_none rfl _ _ _) rfl ?_
  exact ⟨rfl, h9⟩
theorem do18 (w0 : World) (b : Nat) (pv : Value) (M : Mach) (D : List Frm) (x : Frm) (p : List Fn) (k pc : Nat) (f : Fn) (A : Int) (w : World) (h : Doer w0 w b pv M) (hF : M.frames = D ++ [x]) (hD : D.length ≤ 100) (hp : FnsAt w0 pv p) (hk : p[k]? = some f) (hfn : x.fn = (k : Int)) (hpc : x.pc = (pc : Int)) (hpl : f.2.2.2.length ≤ 1000) (ho : f.2.2.2[pc]? = some (18, A)) (P : World → Prop)
    (HC : ∀ W, Doer w0 W b pv { M with frames := D ++ [{ x with pc := (pc : Int) + 1 }] } → Calls Tryz.prog 145 #[.pointer (some ⟨b, 0, none⟩), .agg #[.int .i64 18, .int .i64 A]] W fun e w' => e = .returned (.tuple #[]) ∧ P w') : Calls Tryz.prog 111 #[.pointer (some ⟨b, 0, none⟩)] w fun e w' => e = .returned (.tuple #[]) ∧ P w' := by
  obtain ⟨g, cap, bv, iv, ov, q, c, qb, H⟩ := h.open hF
  have HI := hideP (xalZ b g D.length cap w H.fcell hD)
  have HH0 := hideP H
  have HCC := hideP HC
  obtain ⟨pp, qp, hpv, hpm, -⟩ := id hp
  subst hpv
  have HP := hideP hp
  have hpcl := xaeZ ho
  have hkl := xaeZ hk
  have HO := hideP ho
  have HK := hideP hk
  have HFN := hideP hfn
  have HPC := hideP hpc
  clear h hF HC H hp ho hk hfn hpc
  go_enter Tryz.func111, Tryz.ntmps111
  go_wp2_with fail
  refine HI.out.mono ?_
  rintro e w2 ⟨rfl, b2⟩
  have H2 := HH0.out.below b2
  have c0 := H2.c0
  have c1 := H2.c1
  rw [HFN.out] at c0
  rw [HPC.out] at c1
  have c6 := H2.at_.cells.2.2.2.2.2.2
  obtain ⟨pp', qp', hpe, -, hpc⟩ := id (HP.out.below H2.at_.bel)
  cases hpe
  obtain ⟨pb, po, f0, f1, f2, f3, hpp, hplt, -, -, -, y3, hfn⟩ := hpc k f HK.out
  subst hpp
  obtain ⟨-, -, -, hops⟩ := hfn
  obtain ⟨p3, q3, he3, -, hoc⟩ := id hops
  subst he3
  obtain ⟨ob, oo, hob, holt, o0, o1⟩ := hoc pc _ HO.out
  subst hob
  have hkli : (k : Int) < (p.length : Int) := by omega
  have hpcli : (pc : Int) < (f.2.2.2.length : Int) := by omega
  have c0a := fun o => xabZ c0 o
  have c1a := fun o => xabZ c1 o
  have c6a := fun o => xabZ c6 o
  have y3a := fun o => xabZ y3 o
  have o0a := fun o => xabZ o0 o
  have o1a := fun o => xabZ o1 o
  clear hpc hoc hops
  go_wp2_with fail
  go_region
  obtain ⟨W3, hW3⟩ : ∃ W3, (w2.alloc (.cells #[.int .i64 18, .int .i64 A] 86)).drew = W3 := ⟨_, rfl⟩
  have b3 : Below w2.heap.size w2 W3 := by rw [← hW3]; exact ((Below.refl _ w2).alloc (Nat.le_refl _) _).drew
  have x3 : W3.heap[w2.heap.size]? = some (.cells #[.int .i64 18, .int .i64 A] 86 (0, 0)) := by rw [← hW3]; exact World.alloc_heap_new w2 _
  rw [hW3]
  clear hW3 c0 c1 c6 y3 o0 o1 c0a c1a c6a y3a o0a o1a
  have H3 := H2.below b3
  have e0 : W3.cell? ⟨w2.heap.size, 0, none⟩ = some (.int .i64 18) := xaaZ x3 0
  have e1 : W3.cell? ⟨w2.heap.size, 1, none⟩ = some (.int .i64 A) := xaaZ x3 1
  have d1 := H3.c1
  rw [HPC.out] at d1
  have z1 : W3.frozen? ⟨g, D.length * 4 + 1, none⟩ = false := by obtain ⟨cur, hh⟩ := H3.gb; exact Lib.frozen_of_heap hh _
  have hne : ¬ w2.heap.size = g := by obtain ⟨cur, hh⟩ := H2.gb; have := xacZ hh; omega
  have hne' : ¬ g = w2.heap.size := fun e => hne e.symm
  have HS := hideP (H3.setPc ((pc : Int) + 1))
  clear H2 H3 x3
  go_wp2_with (go_at_call 145; refine (HCC.out _ HS.out).mono ?_; rintro e w9 ⟨rfl, h9⟩)
  first | go_end0 | refine bodyPost_ret (results_none rfl _ _ _) rfl ?_
  exact ⟨rfl, h9⟩
theorem do7 (w0 : World) (b : Nat) (pv : Value) (M : Mach) (D : List Frm) (x : Frm) (p : List Fn) (k pc : Nat) (f : Fn) (A : Int) (w : World) (h : Doer w0 w b pv M) (hF : M.frames = D ++ [x]) (hD : D.length ≤ 100) (hp : FnsAt w0 pv p) (hk : p[k]? = some f) (hfn : x.fn = (k : Int)) (hpc : x.pc = (pc : Int)) (hpl : f.2.2.2.length ≤ 1000) (ho : f.2.2.2[pc]? = some (7, A)) (P : World → Prop)
    (HC : ∀ W, Doer w0 W b pv { M with frames := D ++ [{ x with pc := (pc : Int) + 1 }] } → Calls Tryz.prog 146 #[.pointer (some ⟨b, 0, none⟩), .int .i64 7] W fun e w' => e = .returned (.tuple #[]) ∧ P w') : Calls Tryz.prog 111 #[.pointer (some ⟨b, 0, none⟩)] w fun e w' => e = .returned (.tuple #[]) ∧ P w' := by
  obtain ⟨g, cap, bv, iv, ov, q, c, qb, H⟩ := h.open hF
  have HI := hideP (xalZ b g D.length cap w H.fcell hD)
  have HH0 := hideP H
  have HCC := hideP HC
  obtain ⟨pp, qp, hpv, hpm, -⟩ := id hp
  subst hpv
  have HP := hideP hp
  have hpcl := xaeZ ho
  have hkl := xaeZ hk
  have HO := hideP ho
  have HK := hideP hk
  have HFN := hideP hfn
  have HPC := hideP hpc
  clear h hF HC H hp ho hk hfn hpc
  go_enter Tryz.func111, Tryz.ntmps111
  go_wp2_with fail
  refine HI.out.mono ?_
  rintro e w2 ⟨rfl, b2⟩
  have H2 := HH0.out.below b2
  have c0 := H2.c0
  have c1 := H2.c1
  rw [HFN.out] at c0
  rw [HPC.out] at c1
  have c6 := H2.at_.cells.2.2.2.2.2.2
  obtain ⟨pp', qp', hpe, -, hpc⟩ := id (HP.out.below H2.at_.bel)
  cases hpe
  obtain ⟨pb, po, f0, f1, f2, f3, hpp, hplt, -, -, -, y3, hfn⟩ := hpc k f HK.out
  subst hpp
  obtain ⟨-, -, -, hops⟩ := hfn
  obtain ⟨p3, q3, he3, -, hoc⟩ := id hops
  subst he3
  obtain ⟨ob, oo, hob, holt, o0, o1⟩ := hoc pc _ HO.out
  subst hob
  have hkli : (k : Int) < (p.length : Int) := by omega
  have hpcli : (pc : Int) < (f.2.2.2.length : Int) := by omega
  have c0a := fun o => xabZ c0 o
  have c1a := fun o => xabZ c1 o
  have c6a := fun o => xabZ c6 o
  have y3a := fun o => xabZ y3 o
  have o0a := fun o => xabZ o0 o
  have o1a := fun o => xabZ o1 o
  clear hpc hoc hops
  go_wp2_with fail
  go_region
  obtain ⟨W3, hW3⟩ : ∃ W3, (w2.alloc (.cells #[.int .i64 7, .int .i64 A] 86)).drew = W3 := ⟨_, rfl⟩
  have b3 : Below w2.heap.size w2 W3 := by rw [← hW3]; exact ((Below.refl _ w2).alloc (Nat.le_refl _) _).drew
  have x3 : W3.heap[w2.heap.size]? = some (.cells #[.int .i64 7, .int .i64 A] 86 (0, 0)) := by rw [← hW3]; exact World.alloc_heap_new w2 _
  rw [hW3]
  clear hW3 c0 c1 c6 y3 o0 o1 c0a c1a c6a y3a o0a o1a
  have H3 := H2.below b3
  have e0 : W3.cell? ⟨w2.heap.size, 0, none⟩ = some (.int .i64 7) := xaaZ x3 0
  have e1 : W3.cell? ⟨w2.heap.size, 1, none⟩ = some (.int .i64 A) := xaaZ x3 1
  have d1 := H3.c1
  rw [HPC.out] at d1
  have z1 : W3.frozen? ⟨g, D.length * 4 + 1, none⟩ = false := by obtain ⟨cur, hh⟩ := H3.gb; exact Lib.frozen_of_heap hh _
  have hne : ¬ w2.heap.size = g := by obtain ⟨cur, hh⟩ := H2.gb; have := xacZ hh; omega
  have hne' : ¬ g = w2.heap.size := fun e => hne e.symm
  have HS := hideP (H3.setPc ((pc : Int) + 1))
  clear H2 H3 x3
  go_wp2_with (go_at_call 146; refine (HCC.out _ HS.out).mono ?_; rintro e w9 ⟨rfl, h9⟩)
  first | go_end0 | refine bodyPost_ret (results_none rfl _ _ _) rfl ?_
  exact ⟨rfl, h9⟩
theorem do12 (w0 : World) (b : Nat) (pv : Value) (M : Mach) (D : List Frm) (x : Frm) (p : List Fn) (k pc : Nat) (f : Fn) (A : Int) (w : World) (h : Doer w0 w b pv M) (hF : M.frames = D ++ [x]) (hD : D.length ≤ 100) (hp : FnsAt w0 pv p) (hk : p[k]? = some f) (hfn : x.fn = (k : Int)) (hpc : x.pc = (pc : Int)) (hpl : f.2.2.2.length ≤ 1000) (ho : f.2.2.2[pc]? = some (12, A)) (P : World → Prop)
    (HC : ∀ W, Doer w0 W b pv { M with frames := D ++ [{ x with pc := (pc : Int) + 1 }] } → Calls Tryz.prog 147 #[.pointer (some ⟨b, 0, none⟩), .agg #[.int .i64 12, .int .i64 A]] W fun e w' => e = .returned (.tuple #[]) ∧ P w') : Calls Tryz.prog 111 #[.pointer (some ⟨b, 0, none⟩)] w fun e w' => e = .returned (.tuple #[]) ∧ P w' := by
  obtain ⟨g, cap, bv, iv, ov, q, c, qb, H⟩ := h.open hF
  have HI := hideP (xalZ b g D.length cap w H.fcell hD)
  have HH0 := hideP H
  have HCC := hideP HC
  obtain ⟨pp, qp, hpv, hpm, -⟩ := id hp
  subst hpv
  have HP := hideP hp
  have hpcl := xaeZ ho
  have hkl := xaeZ hk
  have HO := hideP ho
  have HK := hideP hk
  have HFN := hideP hfn
  have HPC := hideP hpc
  clear h hF HC H hp ho hk hfn hpc
  go_enter Tryz.func111, Tryz.ntmps111
  go_wp2_with fail
  refine HI.out.mono ?_
  rintro e w2 ⟨rfl, b2⟩
  have H2 := HH0.out.below b2
  have c0 := H2.c0
  have c1 := H2.c1
  rw [HFN.out] at c0
  rw [HPC.out] at c1
  have c6 := H2.at_.cells.2.2.2.2.2.2
  obtain ⟨pp', qp', hpe, -, hpc⟩ := id (HP.out.below H2.at_.bel)
  cases hpe
  obtain ⟨pb, po, f0, f1, f2, f3, hpp, hplt, -, -, -, y3, hfn⟩ := hpc k f HK.out
  subst hpp
  obtain ⟨-, -, -, hops⟩ := hfn
  obtain ⟨p3, q3, he3, -, hoc⟩ := id hops
  subst he3
  obtain ⟨ob, oo, hob, holt, o0, o1⟩ := hoc pc _ HO.out
  subst hob
  have hkli : (k : Int) < (p.length : Int) := by omega
  have hpcli : (pc : Int) < (f.2.2.2.length : Int) := by omega
  have c0a := fun o => xabZ c0 o
  have c1a := fun o => xabZ c1 o
  have c6a := fun o => xabZ c6 o
  have y3a := fun o => xabZ y3 o
  have o0a := fun o => xabZ o0 o
  have o1a := fun o => xabZ o1 o
  clear hpc hoc hops
  go_wp2_with fail
  go_region
  obtain ⟨W3, hW3⟩ : ∃ W3, (w2.alloc (.cells #[.int .i64 12, .int .i64 A] 86)).drew = W3 := ⟨_, rfl⟩
  have b3 : Below w2.heap.size w2 W3 := by rw [← hW3]; exact ((Below.refl _ w2).alloc (Nat.le_refl _) _).drew
  have x3 : W3.heap[w2.heap.size]? = some (.cells #[.int .i64 12, .int .i64 A] 86 (0, 0)) := by rw [← hW3]; exact World.alloc_heap_new w2 _
  rw [hW3]
  clear hW3 c0 c1 c6 y3 o0 o1 c0a c1a c6a y3a o0a o1a
  have H3 := H2.below b3
  have e0 : W3.cell? ⟨w2.heap.size, 0, none⟩ = some (.int .i64 12) := xaaZ x3 0
  have e1 : W3.cell? ⟨w2.heap.size, 1, none⟩ = some (.int .i64 A) := xaaZ x3 1
  have d1 := H3.c1
  rw [HPC.out] at d1
  have z1 : W3.frozen? ⟨g, D.length * 4 + 1, none⟩ = false := by obtain ⟨cur, hh⟩ := H3.gb; exact Lib.frozen_of_heap hh _
  have hne : ¬ w2.heap.size = g := by obtain ⟨cur, hh⟩ := H2.gb; have := xacZ hh; omega
  have hne' : ¬ g = w2.heap.size := fun e => hne e.symm
  have HS := hideP (H3.setPc ((pc : Int) + 1))
  clear H2 H3 x3
  go_wp2_with (go_at_call 147; refine (HCC.out _ HS.out).mono ?_; rintro e w9 ⟨rfl, h9⟩)
  first | go_end0 | refine bodyPost_ret (results_none rfl _ _ _) rfl ?_
  exact ⟨rfl, h9⟩
theorem do15 (w0 : World) (b : Nat) (pv : Value) (M : Mach) (D : List Frm) (x : Frm) (p : List Fn) (k pc : Nat) (f : Fn) (A : Int) (w : World) (h : Doer w0 w b pv M) (hF : M.frames = D ++ [x]) (hD : D.length ≤ 100) (hp : FnsAt w0 pv p) (hk : p[k]? = some f) (hfn : x.fn = (k : Int)) (hpc : x.pc = (pc : Int)) (hpl : f.2.2.2.length ≤ 1000) (ho : f.2.2.2[pc]? = some (15, A)) (P : World → Prop)
    (HC : ∀ W, Doer w0 W b pv { M with frames := D ++ [{ x with pc := (pc : Int) + 1 }] } → Calls Tryz.prog 148 #[.pointer (some ⟨b, 0, none⟩), .int .i64 15] W fun e w' => e = .returned (.tuple #[]) ∧ P w') : Calls Tryz.prog 111 #[.pointer (some ⟨b, 0, none⟩)] w fun e w' => e = .returned (.tuple #[]) ∧ P w' := by
  obtain ⟨g, cap, bv, iv, ov, q, c, qb, H⟩ := h.open hF
  have HI := hideP (xalZ b g D.length cap w H.fcell hD)
  have HH0 := hideP H
  have HCC := hideP HC
  obtain ⟨pp, qp, hpv, hpm, -⟩ := id hp
  subst hpv
  have HP := hideP hp
  have hpcl := xaeZ ho
  have hkl := xaeZ hk
  have HO := hideP ho
  have HK := hideP hk
  have HFN := hideP hfn
  have HPC := hideP hpc
  clear h hF HC H hp ho hk hfn hpc
  go_enter Tryz.func111, Tryz.ntmps111
  go_wp2_with fail
  refine HI.out.mono ?_
  rintro e w2 ⟨rfl, b2⟩
  have H2 := HH0.out.below b2
  have c0 := H2.c0
  have c1 := H2.c1
  rw [HFN.out] at c0
  rw [HPC.out] at c1
  have c6 := H2.at_.cells.2.2.2.2.2.2
  obtain ⟨pp', qp', hpe, -, hpc⟩ := id (HP.out.below H2.at_.bel)
  cases hpe
  obtain ⟨pb, po, f0, f1, f2, f3, hpp, hplt, -, -, -, y3, hfn⟩ := hpc k f HK.out
  subst hpp
  obtain ⟨-, -, -, hops⟩ := hfn
  obtain ⟨p3, q3, he3, -, hoc⟩ := id hops
  subst he3
  obtain ⟨ob, oo, hob, holt, o0, o1⟩ := hoc pc _ HO.out
  subst hob
  have hkli : (k : Int) < (p.length : Int) := by omega
  have hpcli : (pc : Int) < (f.2.2.2.length : Int) := by omega
  have c0a := fun o => xabZ c0 o
  have c1a := fun o => xabZ c1 o
  have c6a := fun o => xabZ c6 o
  have y3a := fun o => xabZ y3 o
  have o0a := fun o => xabZ o0 o
  have o1a := fun o => xabZ o1 o
  clear hpc hoc hops
  go_wp2_with fail
  go_region
  obtain ⟨W3, hW3⟩ : ∃ W3, (w2.alloc (.cells #[.int .i64 15, .int .i64 A] 86)).drew = W3 := ⟨_, rfl⟩
  have b3 : Below w2.heap.size w2 W3 := by rw [← hW3]; exact ((Below.refl _ w2).alloc (Nat.le_refl _) _).drew
  have x3 : W3.heap[w2.heap.size]? = some (.cells #[.int .i64 15, .int .i64 A] 86 (0, 0)) := by rw [← hW3]; exact World.alloc_heap_new w2 _
  rw [hW3]
  clear hW3 c0 c1 c6 y3 o0 o1 c0a c1a c6a y3a o0a o1a
  have H3 := H2.below b3
  have e0 : W3.cell? ⟨w2.heap.size, 0, none⟩ = some (.int .i64 15) := xaaZ x3 0
  have e1 : W3.cell? ⟨w2.heap.size, 1, none⟩ = some (.int .i64 A) := xaaZ x3 1
  have d1 := H3.c1
  rw [HPC.out] at d1
  have z1 : W3.frozen? ⟨g, D.length * 4 + 1, none⟩ = false := by obtain ⟨cur, hh⟩ := H3.gb; exact Lib.frozen_of_heap hh _
  have hne : ¬ w2.heap.size = g := by obtain ⟨cur, hh⟩ := H2.gb; have := xacZ hh; omega
  have hne' : ¬ g = w2.heap.size := fun e => hne e.symm
  have HS := hideP (H3.setPc ((pc : Int) + 1))
  clear H2 H3 x3
  go_wp2_with (go_at_call 148; refine (HCC.out _ HS.out).mono ?_; rintro e w9 ⟨rfl, h9⟩)
  first | go_end0 | refine bodyPost_ret (results_none rfl _ _ _) rfl ?_
  exact ⟨rfl, h9⟩
theorem do19 (w0 : World) (b : Nat) (pv : Value) (M : Mach) (D : List Frm) (x : Frm) (p : List Fn) (k pc : Nat) (f : Fn) (A : Int) (w : World) (h : Doer w0 w b pv M) (hF : M.frames = D ++ [x]) (hD : D.length ≤ 100) (hp : FnsAt w0 pv p) (hk : p[k]? = some f) (hfn : x.fn = (k : Int)) (hpc : x.pc = (pc : Int)) (hpl : f.2.2.2.length ≤ 1000) (ho : f.2.2.2[pc]? = some (19, A)) (P : World → Prop)
    (HC : ∀ W, Doer w0 W b pv { M with frames := D ++ [{ x with pc := (pc : Int) + 1 }] } → Calls Tryz.prog 148 #[.pointer (some ⟨b, 0, none⟩), .int .i64 19] W fun e w' => e = .returned (.tuple #[]) ∧ P w') : Calls Tryz.prog 111 #[.pointer (some ⟨b, 0, none⟩)] w fun e w' => e = .returned (.tuple #[]) ∧ P w' := by
  obtain ⟨g, cap, bv, iv, ov, q, c, qb, H⟩ := h.open hF
  have HI := hideP (xalZ b g D.length cap w H.fcell hD)
  have HH0 := hideP H
  have HCC := hideP HC
  obtain ⟨pp, qp, hpv, hpm, -⟩ := id hp
  subst hpv
  have HP := hideP hp
  have hpcl := xaeZ ho
  have hkl := xaeZ hk
  have HO := hideP ho
  have HK := hideP hk
  have HFN := hideP hfn
  have HPC := hideP hpc
  clear h hF HC H hp ho hk hfn hpc
  go_enter Tryz.func111, Tryz.ntmps111
  go_wp2_with fail
  refine HI.out.mono ?_
  rintro e w2 ⟨rfl, b2⟩
  have H2 := HH0.out.below b2
  have c0 := H2.c0
  have c1 := H2.c1
  rw [HFN.out] at c0
  rw [HPC.out] at c1
  have c6 := H2.at_.cells.2.2.2.2.2.2
  obtain ⟨pp', qp', hpe, -, hpc⟩ := id (HP.out.below H2.at_.bel)
  cases hpe
  obtain ⟨pb, po, f0, f1, f2, f3, hpp, hplt, -, -, -, y3, hfn⟩ := hpc k f HK.out
  subst hpp
  obtain ⟨-, -, -, hops⟩ := hfn
  obtain ⟨p3, q3, he3, -, hoc⟩ := id hops
  subst he3
  obtain ⟨ob, oo, hob, holt, o0, o1⟩ := hoc pc _ HO.out
  subst hob
  have hkli : (k : Int) < (p.length : Int) := by omega
  have hpcli : (pc : Int) < (f.2.2.2.length : Int) := by omega
  have c0a := fun o => xabZ c0 o
  have c1a := fun o => xabZ c1 o
  have c6a := fun o => xabZ c6 o
  have y3a := fun o => xabZ y3 o
  have o0a := fun o => xabZ o0 o
  have o1a := fun o => xabZ o1 o
  clear hpc hoc hops
  go_wp2_with fail
  go_region
  obtain ⟨W3, hW3⟩ : ∃ W3, (w2.alloc (.cells #[.int .i64 19, .int .i64 A] 86)).drew = W3 := ⟨_, rfl⟩
  have b3 : Below w2.heap.size w2 W3 := by rw [← hW3]; exact ((Below.refl _ w2).alloc (Nat.le_refl _) _).drew
  have x3 : W3.heap[w2.heap.size]? = some (.cells #[.int .i64 19, .int .i64 A] 86 (0, 0)) := by rw [← hW3]; exact World.alloc_heap_new w2 _
  rw [hW3]
  clear hW3 c0 c1 c6 y3 o0 o1 c0a c1a c6a y3a o0a o1a
  have H3 := H2.below b3
  have e0 : W3.cell? ⟨w2.heap.size, 0, none⟩ = some (.int .i64 19) := xaaZ x3 0
  have e1 : W3.cell? ⟨w2.heap.size, 1, none⟩ = some (.int .i64 A) := xaaZ x3 1
  have d1 := H3.c1
  rw [HPC.out] at d1
  have z1 : W3.frozen? ⟨g, D.length * 4 + 1, none⟩ = false := by obtain ⟨cur, hh⟩ := H3.gb; exact Lib.frozen_of_heap hh _
  have hne : ¬ w2.heap.size = g := by obtain ⟨cur, hh⟩ := H2.gb; have := xacZ hh; omega
  have hne' : ¬ g = w2.heap.size := fun e => hne e.symm
  have HS := hideP (H3.setPc ((pc : Int) + 1))
  clear H2 H3 x3
  go_wp2_with (go_at_call 148; refine (HCC.out _ HS.out).mono ?_; rintro e w9 ⟨rfl, h9⟩)
  first | go_end0 | refine bodyPost_ret (results_none rfl _ _ _) rfl ?_
  exact ⟨rfl, h9⟩
theorem do12p (w0 : World) (b : Nat) (pv : Value) (M : Mach) (D : List Frm) (x : Frm) (p : List Fn) (k pc : Nat) (f : Fn) (A : Int) (w : World) (h : Doer w0 w b pv M) (hF : M.frames = D ++ [x]) (hD : D.length ≤ 100) (hp : FnsAt w0 pv p) (hk : p[k]? = some f) (hfn : x.fn = (k : Int)) (hpc : x.pc = (pc : Int)) (hpl : f.2.2.2.length ≤ 1000) (ho : f.2.2.2[pc]? = some (12, A)) (why : Int) (P : World → Prop)
    (HC : ∀ W, Doer w0 W b pv { M with frames := D ++ [{ x with pc := (pc : Int) + 1 }] } → Calls Tryz.prog 147 #[.pointer (some ⟨b, 0, none⟩), .agg #[.int .i64 12, .int .i64 A]] W fun e w' => e = .panicked [{ v := .iface 159 (.int .i64 why), recovered := false }] ∧ P w') : Calls Tryz.prog 111 #[.pointer (some ⟨b, 0, none⟩)] w fun e w' => e = .panicked [{ v := .iface 159 (.int .i64 why), recovered := false }] ∧ P w' := by
  obtain ⟨g, cap, bv, iv, ov, q, c, qb, H⟩ := h.open hF
  have HI := hideP (xalZ b g D.length cap w H.fcell hD)
  have HH0 := hideP H
  have HCC := hideP HC
  obtain ⟨pp, qp, hpv, hpm, -⟩ := id hp
  subst hpv
  have HP := hideP hp
  have hpcl := xaeZ ho
  have hkl := xaeZ hk
  have HO := hideP ho
  have HK := hideP hk
  have HFN := hideP hfn
  have HPC := hideP hpc
  clear h hF HC H hp ho hk hfn hpc
  go_enter Tryz.func111, Tryz.ntmps111
  go_wp2_with fail
  refine HI.out.mono ?_
  rintro e w2 ⟨rfl, b2⟩
  have H2 := HH0.out.below b2
  have c0 := H2.c0
  have c1 := H2.c1
  rw [HFN.out] at c0
  rw [HPC.out] at c1
  have c6 := H2.at_.cells.2.2.2.2.2.2
  obtain ⟨pp', qp', hpe, -, hpc⟩ := id (HP.out.below H2.at_.bel)
  cases hpe
  obtain ⟨pb, po, f0, f1, f2, f3, hpp, hplt, -, -, -, y3, hfn⟩ := hpc k f HK.out
  subst hpp
  obtain ⟨-, -, -, hops⟩ := hfn
  obtain ⟨p3, q3, he3, -, hoc⟩ := id hops
  subst he3
  obtain ⟨ob, oo, hob, holt, o0, o1⟩ := hoc pc _ HO.out
  subst hob
  have hkli : (k : Int) < (p.length : Int) := by omega
  have hpcli : (pc : Int) < (f.2.2.2.length : Int) := by omega
  have c0a := fun o => xabZ c0 o
  have c1a := fun o => xabZ c1 o
  have c6a := fun o => xabZ c6 o
  have y3a := fun o => xabZ y3 o
  have o0a := fun o => xabZ o0 o
  have o1a := fun o => xabZ o1 o
  clear hpc hoc hops
  go_wp2_with fail
  go_region
  obtain ⟨W3, hW3⟩ : ∃ W3, (w2.alloc (.cells #[.int .i64 12, .int .i64 A] 86)).drew = W3 := ⟨_, rfl⟩
  have b3 : Below w2.heap.size w2 W3 := by rw [← hW3]; exact ((Below.refl _ w2).alloc (Nat.le_refl _) _).drew
  have x3 : W3.heap[w2.heap.size]? = some (.cells #[.int .i64 12, .int .i64 A] 86 (0, 0)) := by rw [← hW3]; exact World.alloc_heap_new w2 _
  rw [hW3]
  clear hW3 c0 c1 c6 y3 o0 o1 c0a c1a c6a y3a o0a o1a
  have H3 := H2.below b3
  have e0 : W3.cell? ⟨w2.heap.size, 0, none⟩ = some (.int .i64 12) := xaaZ x3 0
  have e1 : W3.cell? ⟨w2.heap.size, 1, none⟩ = some (.int .i64 A) := xaaZ x3 1
  have d1 := H3.c1
  rw [HPC.out] at d1
  have z1 : W3.frozen? ⟨g, D.length * 4 + 1, none⟩ = false := by obtain ⟨cur, hh⟩ := H3.gb; exact Lib.frozen_of_heap hh _
  have hne : ¬ w2.heap.size = g := by obtain ⟨cur, hh⟩ := H2.gb; have := xacZ hh; omega
  have hne' : ¬ g = w2.heap.size := fun e => hne e.symm
  have HS := hideP (H3.setPc ((pc : Int) + 1))
  clear H2 H3 x3
  go_wp2_with (go_at_call 147; refine (HCC.out _ HS.out).mono ?_; rintro e w9 ⟨rfl, h9⟩)
  exact ⟨rfl, rfl, h9⟩
theorem do16p (w0 : World) (b : Nat) (pv : Value) (M : Mach) (D : List Frm) (x : Frm) (p : List Fn) (k pc : Nat) (f : Fn) (A : Int) (w : World) (h : Doer w0 w b pv M) (hF : M.frames = D ++ [x]) (hD : D.length ≤ 100) (hp : FnsAt w0 pv p) (hk : p[k]? = some f) (hfn : x.fn = (k : Int)) (hpc : x.pc = (pc : Int)) (hpl : f.2.2.2.length ≤ 1000) (ho : f.2.2.2[pc]? = some (16, A)) (why : Int) (P : World → Prop)
    (HC : ∀ W, Doer w0 W b pv { M with frames := D ++ [{ x with pc := (pc : Int) + 1 }] } → Calls Tryz.prog 148 #[.pointer (some ⟨b, 0, none⟩), .int .i64 16] W fun e w' => e = .panicked [{ v := .iface 159 (.int .i64 why), recovered := false }] ∧ P w') : Calls Tryz.prog 111 #[.pointer (some ⟨b, 0, none⟩)] w fun e w' => e = .panicked [{ v := .iface 159 (.int .i64 why), recovered := false }] ∧ P w' := by
  obtain ⟨g, cap, bv, iv, ov, q, c, qb, H⟩ := h.open hF
  have HI := hideP (xalZ b g D.length cap w H.fcell hD)
  have HH0 := hideP H
  have HCC := hideP HC
  obtain ⟨pp, qp, hpv, hpm, -⟩ := id hp
  subst hpv
  have HP := hideP hp
  have hpcl := xaeZ ho
  have hkl := xaeZ hk
  have HO := hideP ho
  have HK := hideP hk
  have HFN := hideP hfn
  have HPC := hideP hpc
  clear h hF HC H hp ho hk hfn hpc
  go_enter Tryz.func111, Tryz.ntmps111
  go_wp2_with fail
  refine HI.out.mono ?_
  rintro e w2 ⟨rfl, b2⟩
  have H2 := HH0.out.below b2
  have c0 := H2.c0
  have c1 := H2.c1
  rw [HFN.out] at c0
  rw [HPC.out] at c1
  have c6 := H2.at_.cells.2.2.2.2.2.2
  obtain ⟨pp', qp', hpe, -, hpc⟩ := id (HP.out.below H2.at_.bel)
  cases hpe
  obtain ⟨pb, po, f0, f1, f2, f3, hpp, hplt, -, -, -, y3, hfn⟩ := hpc k f HK.out
  subst hpp
  obtain ⟨-, -, -, hops⟩ := hfn
  obtain ⟨p3, q3, he3, -, hoc⟩ := id hops
  subst he3
  obtain ⟨ob, oo, hob, holt, o0, o1⟩ := hoc pc _ HO.out
  subst hob
  have hkli : (k : Int) < (p.length : Int) := by omega
  have hpcli : (pc : Int) < (f.2.2.2.length : Int) := by omega
  have c0a := fun o => xabZ c0 o
  have c1a := fun o => xabZ c1 o
  have c6a := fun o => xabZ c6 o
  have y3a := fun o => xabZ y3 o
  have o0a := fun o => xabZ o0 o
  have o1a := fun o => xabZ o1 o
  clear hpc hoc hops
  go_wp2_with fail
  go_region
  obtain ⟨W3, hW3⟩ : ∃ W3, (w2.alloc (.cells #[.int .i64 16, .int .i64 A] 86)).drew = W3 := ⟨_, rfl⟩
  have b3 : Below w2.heap.size w2 W3 := by rw [← hW3]; exact ((Below.refl _ w2).alloc (Nat.le_refl _) _).drew
  have x3 : W3.heap[w2.heap.size]? = some (.cells #[.int .i64 16, .int .i64 A] 86 (0, 0)) := by rw [← hW3]; exact World.alloc_heap_new w2 _
  rw [hW3]
  clear hW3 c0 c1 c6 y3 o0 o1 c0a c1a c6a y3a o0a o1a
  have H3 := H2.below b3
  have e0 : W3.cell? ⟨w2.heap.size, 0, none⟩ = some (.int .i64 16) := xaaZ x3 0
  have e1 : W3.cell? ⟨w2.heap.size, 1, none⟩ = some (.int .i64 A) := xaaZ x3 1
  have d1 := H3.c1
  rw [HPC.out] at d1
  have z1 : W3.frozen? ⟨g, D.length * 4 + 1, none⟩ = false := by obtain ⟨cur, hh⟩ := H3.gb; exact Lib.frozen_of_heap hh _
  have hne : ¬ w2.heap.size = g := by obtain ⟨cur, hh⟩ := H2.gb; have := xacZ hh; omega
  have hne' : ¬ g = w2.heap.size := fun e => hne e.symm
  have HS := hideP (H3.setPc ((pc : Int) + 1))
  clear H2 H3 x3
  go_wp2_with (go_at_call 148; refine (HCC.out _ HS.out).mono ?_; rintro e w9 ⟨rfl, h9⟩)
  exact ⟨rfl, rfl, h9⟩
end Go.Proofs.YtmjjkenblfndgaaGreat


