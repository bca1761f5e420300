/- ONLY A SEND SENDS, ONLY A RECV TAKES WHAT CAME, only a call goes deeper; a number is always wrapped: for every program and machine MachineSends returns true. No condition. -/
import Derived.Test.YtcadpoknolefpaaGreatC24
import Derived.Test.YtcadpoknolefpaaGreatC23
import Derived.Test.YtcadpoknolefpaaGreatC11
import Derived.Laws.StructEq
import Derived.Deep.QuietTactic
import Derived.BigQuiet
import Derived.Test.YtcadpoknolefpaaGreatC18
import Derived.Test.YtcadpoknolefpaaGreatC2
import Derived.Test.YtcadpoknolefpaaGreatC22
namespace Go.Proofs.YtcadpoknolefpaaGreat.machineSends
open Go.ChangeShapes Go.WideShapes Go.ChangeAt Go.RowKit
set_option linter.unusedVariables false
set_option linter.unusedSimpArgs false
theorem own : ownKnob Tryz.prog.godebug = none := by kernel_rfl
theorem laidOut : laidOutB Tryz.prog = true := by kernel_rfl
theorem fieldOp (a n : Int) (w : World) : (Instr.field 43 (.agg #[.int .i64 a, .int .i64 n]) 0).run Tryz.prog w = .ok (.int .i64 a) w := by kernel_rfl
set_option maxRecDepth 100000 in
set_option maxHeartbeats 8000000 in
theorem walk (w : World) (p : List Fn) (pv : Value) (hpf : ProgFull w pv p) (M : Mach) (fv bv iv ov : Value) (hM : MachAt w fv bv iv ov M) (hML : MachLong M) :
    Calls Tryz.prog 6 #[.agg #[pv], .agg #[fv, bv, iv, ov, .int .i64 M.status, .int .i64 M.trap]] w fun e w' => e = .returned (.bool true) ∧ Below w.heap.size w w' := by
  have hCk : CkAt w p pv fv bv iv ov M := ⟨hpf.at_, hpf.cap, hM⟩
  have hpc : PcOk M := fun x hx => (hML.fr.2 x hx).2.2
  obtain ⟨⟨pp, qp, hpv⟩, ⟨pf, cf, hfv⟩, ⟨pb, cb, hbv⟩, ⟨pi, ci, hiv⟩, ⟨po, co, hov⟩⟩ := hCk.shp
  subst hpv hfv hbv hiv hov
  obtain ⟨W1, hW1⟩ : ∃ W1, (w.alloc (.cells #[.slice pp p.length qp] 24)).alloc (.cells #[.slice pf M.frames.length cf, .slice pb M.blocks.length cb, .slice pi M.inp.length ci, .slice po M.out.length co, .int .i64 M.status, .int .i64 M.trap] 29) = W1 := ⟨_, rfl⟩
  have b1 : Below w.heap.size w W1 := by rw [← hW1]; exact ((Below.refl _ w).alloc (Nat.le_refl _) _).alloc (by simp) _
  have u1 : W1.heap[w.heap.size]? = some (.cells #[.slice pp p.length qp] 24 (0, 0)) := by rw [← hW1]; exact heap_old (World.alloc_heap_new w _) _
  have u2 : W1.heap[w.heap.size + 1]? = some (.cells #[.slice pf M.frames.length cf, .slice pb M.blocks.length cb, .slice pi M.inp.length ci, .slice po M.out.length co, .int .i64 M.status, .int .i64 M.trap] 29 (0, 0)) := by rw [← hW1]; exact new_two _ _ _
  have l1 := heap_lt u1
  have l2 := heap_lt u2
  have KC : Hid (∀ W, Below W1.heap.size W1 W → W.cell? ⟨w.heap.size, 0, none⟩ = some (.slice pp p.length qp) ∧ W.cell? ⟨w.heap.size + 1, 0, none⟩ = some (.slice pf M.frames.length cf) ∧ W.cell? ⟨w.heap.size + 1, 1, none⟩ = some (.slice pb M.blocks.length cb) ∧ W.cell? ⟨w.heap.size + 1, 2, none⟩ = some (.slice pi M.inp.length ci) ∧ W.cell? ⟨w.heap.size + 1, 3, none⟩ = some (.slice po M.out.length co) ∧ W.cell? ⟨w.heap.size + 1, 4, none⟩ = some (.int .i64 M.status) ∧ W.cell? ⟨w.heap.size + 1, 5, none⟩ = some (.int .i64 M.trap)) := fun W hW => by
    have h1 := (hW.block _ l1).trans u1
    have h2 := (hW.block _ l2).trans u2
    exact ⟨cell_at' h1 0, cell_at' h2 0, cell_at' h2 1, cell_at' h2 2, cell_at' h2 3, cell_at' h2 4, cell_at' h2 5⟩
  have HH := hideP (hCk.below b1)
  have HPC := hideP hpc
  have HB1 := hideP b1
  clear hpf hML hM hCk hpc u1 u2 b1
  obtain ⟨e0, d0, d1, d2, d3, d4, d5⟩ := KC.out W1 (Below.refl _ _)
  have HST := hideP (mStep_any M p _ _ _ _ _ W1 HH.out HPC.out)
  go_enter Tryz.func6, Tryz.ntmps6
  go_wp2_with fail
  refine HST.out.mono ?_
  rintro e w4 ⟨nf, nb, ni, no, rfl, hres, b4⟩
  clear e0 d0 d1 d2 d3 d4 d5 HST
  obtain ⟨⟨qf, kf, hqf⟩, ⟨qb, kb, hqb⟩, ⟨qi, ki, hqi⟩, ⟨qo, ko, hqo⟩⟩ := mres_shpN hres
  subst hqf hqb hqi hqo
  obtain ⟨R, hRR⟩ : ∃ R, (if checkE p M = 0 then stepM p M else zeroM) = R := ⟨_, rfl⟩
  rw [hRR] at hres ⊢
  obtain ⟨W5, hW5⟩ : ∃ W5, w4.alloc (.cells #[.slice qf R.frames.length kf, .slice qb R.blocks.length kb, .slice qi R.inp.length ki, .slice qo R.out.length ko, .int .i64 R.status, .int .i64 R.trap] 29) = W5 := ⟨_, rfl⟩
  have b5 : Below w4.heap.size w4 W5 := by rw [← hW5]; exact (Below.refl _ w4).alloc (Nat.le_refl _) _
  have u5 : W5.heap[w4.heap.size]? = some (.cells #[.slice qf R.frames.length kf, .slice qb R.blocks.length kb, .slice qi R.inp.length ki, .slice qo R.out.length ko, .int .i64 R.status, .int .i64 R.trap] 29 (0, 0)) := by rw [← hW5]; exact World.alloc_heap_new w4 _
  have B5 := hideP (bthen0 b4 b5)
  have KN : Hid (∀ W, Below W5.heap.size W5 W → W.cell? ⟨w4.heap.size, 0, none⟩ = some (.slice qf R.frames.length kf) ∧ W.cell? ⟨w4.heap.size, 1, none⟩ = some (.slice qb R.blocks.length kb) ∧ W.cell? ⟨w4.heap.size, 2, none⟩ = some (.slice qi R.inp.length ki) ∧ W.cell? ⟨w4.heap.size, 3, none⟩ = some (.slice qo R.out.length ko) ∧ W.cell? ⟨w4.heap.size, 4, none⟩ = some (.int .i64 R.status) ∧ W.cell? ⟨w4.heap.size, 5, none⟩ = some (.int .i64 R.trap)) := fun W hW => by
    have h1 := (hW.block _ (heap_lt u5)).trans u5
    exact ⟨cell_at' h1 0, cell_at' h1 1, cell_at' h1 2, cell_at' h1 3, cell_at' h1 4, cell_at' h1 5⟩
  have HRES := hideP (hres.below b5)
  clear u5 hres b4 b5
  go_wp2_with fail
  refine (machineBegun_any _).mono ?_
  rintro e w6 ⟨rfl, b6⟩
  go_wp2_with fail
  refine (opBegun_any _).mono ?_
  rintro e w7 ⟨rfl, b7'⟩
  have b7 := bthen0 b6 b7'
  have b17 := bthen0 B5.out b7
  obtain ⟨e0, d0, d1, d2, d3, d4, d5⟩ := KC.out w7 b17
  have HB7 := hideP b7
  have HB17 := hideP b17
  have HFIN := hideP (bthen0 HB1.out b17)
  clear b6 b7' b7 b17
  by_cases hc : checkE p M = 0
  rotate_left
  · have hc' : (checkE p M != 0) = true := by simpa using hc
    generalize checkE p M = er at *
    clear hc
    go_wp2
    go_ret
    exact ⟨rfl, HFIN.out⟩
  rw [if_pos hc] at hRR
  rw [hc]
  obtain ⟨hp, he, hR⟩ := checkE_zero.1 hc
  have hst := hR.status
  by_cases h23 : M.status = 2 ∨ M.status = 3
  · clear hRR
    by_cases h2 : M.status = 2
    · have t1 : (M.status == 2) = true := by simpa using h2
      clear h2 h23 hst
      go_wp2
      go_ret
      exact ⟨rfl, HFIN.out⟩
    · have t1 : (M.status == 2) = false := by simpa using h2
      have t2 : (M.status == 3) = true := by simp; omega
      clear h2 h23 hst
      go_wp2
      go_ret
      exact ⟨rfl, HFIN.out⟩
  have t1 : (M.status == 2) = false := by simp; omega
  have t2 : (M.status == 3) = false := by simp; omega
  obtain ⟨x, kk, pc, f, o, n1, n2, n3, n4, n5, n6, n7, n8, n9, n10⟩ := next_small hp he hR (by omega)
  have hsn := sends_step (p := p) (o := o) n1 (by omega) (fun h1 => (hR.wait h1).1)
  rw [← n10, hRR] at hsn
  have hRR2 : RightM p (entP p) R := by rw [← hRR]; exact stepM_right hp he hR
  have hfr6 := (right_small hp he hR).1.fr
  have HOP := hideP (opOf_any M p _ _ _ _ _ w7 (HH.out.below HB17.out) (by omega) x kk pc f o n1 n2 n3 n4 n5 n6 n7)
  obtain ⟨c, A⟩ := o
  have HS := hideP hsn
  have HR2 := hideP hRR2
  have smR := (right_small hp he hRR2).1
  have HAT := hideP ((HRES.out.below HB7.out).at_ (by have := smR.inp; omega))
  have HSM := hideP (right_small hp he hRR2)
  clear n1 n2 n3 n4 n5 n6 n7 n8 n9 n10 hsn hRR2 hfr6 hst h23 hp he hR hRR hc smR
  have hfd := fieldOp
  go_wp2_with fail
  refine HOP.out.mono ?_
  rintro e w8 ⟨rfl, b8⟩
  have b18 := bthen0 HB17.out b8
  clear e0 d0 d1 d2 d3 d4 d5 HOP
  obtain ⟨e0, d0, d1, d2, d3, d4, d5⟩ := KC.out w8 b18
  obtain ⟨y0, y1, y2, y3, y4, y5⟩ := KN.out w8 (bthen0 HB7.out b8)
  have HAT8 := hideP (HAT.out.below b8)
  have HFIN8 := hideP (bthen0 HB1.out b18)
  have HB8 := hideP b8
  clear b18 b8
  simp only
  have hs1 := HS.out
  go_upto_region 7 with fail
  go_cut [101] from 39 (fun s wx => s = .bool false ∧ wx = w8)
  case first =>
    have H1 : (decide ((R.out.length : Int) > (M.out.length : Int)) = false ∧ decide (M.out.length < R.out.length) = false) ∨ (decide ((R.out.length : Int) > (M.out.length : Int)) = true ∧ decide (M.out.length < R.out.length) = true ∧ (c != 20) = false) := by
      by_cases h : M.out.length < R.out.length
      · exact .inr ⟨by simp; omega, by simpa using h, by simpa using hs1.out h⟩
      · exact .inl ⟨by simp; omega, by simpa using h⟩
    have H2 : (decide ((R.inp.length : Int) < (M.inp.length : Int)) = false ∧ decide (R.inp.length < M.inp.length) = false) ∨ (decide ((R.inp.length : Int) < (M.inp.length : Int)) = true ∧ decide (R.inp.length < M.inp.length) = true ∧ (c != 21) = false) := by
      by_cases h : R.inp.length < M.inp.length
      · exact .inr ⟨by simp; omega, by simpa using h, by simpa using hs1.inp h⟩
      · exact .inl ⟨by simp; omega, by simpa using h⟩
    have H3 : (decide ((R.frames.length : Int) > (M.frames.length : Int)) = false ∧ decide (M.frames.length < R.frames.length) = false) ∨ (decide ((R.frames.length : Int) > (M.frames.length : Int)) = true ∧ decide (M.frames.length < R.frames.length) = true ∧ (c != 12) = false) := by
      by_cases h : M.frames.length < R.frames.length
      · exact .inr ⟨by simp; omega, by simpa using h, by simpa using hs1.deep h⟩
      · exact .inl ⟨by simp; omega, by simpa using h⟩
    have H4 : (decide ((R.frames.length : Int) < (M.frames.length : Int)) = false ∧ decide (R.frames.length < M.frames.length) = false) ∨ (decide ((R.frames.length : Int) < (M.frames.length : Int)) = true ∧ decide (R.frames.length < M.frames.length) = true ∧ (c != 13) = false) := by
      by_cases h : R.frames.length < M.frames.length
      · exact .inr ⟨by simp; omega, by simpa using h, by simpa using hs1.back h⟩
      · exact .inl ⟨by simp; omega, by simpa using h⟩
    have H5 : (decide ((R.blocks.length : Int) > (M.blocks.length : Int)) = false ∧ decide (M.blocks.length < R.blocks.length) = false) ∨ (decide ((R.blocks.length : Int) > (M.blocks.length : Int)) = true ∧ decide (M.blocks.length < R.blocks.length) = true ∧ (c != 14) = false) := by
      by_cases h : M.blocks.length < R.blocks.length
      · exact .inr ⟨by simp; omega, by simpa using h, by simpa using hs1.blocks h⟩
      · exact .inl ⟨by simp; omega, by simpa using h⟩
    clear hs1 HS HR2 HAT HSM HAT8 KC KN HRES t1 t2 hfd
    rcases H1 with ⟨i1, j1⟩ | ⟨i1, j1, k1⟩ <;> rcases H2 with ⟨i2, j2⟩ | ⟨i2, j2, k2⟩ <;> rcases H3 with ⟨i3, j3⟩ | ⟨i3, j3, k3⟩ <;> rcases H4 with ⟨i4, j4⟩ | ⟨i4, j4, k4⟩ <;> rcases H5 with ⟨i5, j5⟩ | ⟨i5, j5, k5⟩
    all_goals
      go_wp2_with fail
      go_meet
      exact ⟨rfl, rfl⟩
  case rest =>
    obtain ⟨rfl, rfl⟩ := hcut
    go_upto_region 9 with fail
    go_cut [121] from 102 (fun s wx => s = .bool false ∧ wx = wc)
    case first =>
      have H6 : ((R.status == 2) = false) ∨ ((R.status == 2) = true ∧ ((M.frames.length : Int) != 1) = false) := by
        by_cases h : R.status = 2
        · exact .inr ⟨by simpa using h, by have := hs1.done h; simp; omega⟩
        · exact .inl (by simpa using h)
      have H7 : ((R.status == 1) = false) ∨ ((R.status == 1) = true ∧ decide ((M.inp.length : Int) > 0) = false ∧ decide (0 < M.inp.length) = false) := by
        by_cases h : R.status = 1
        · exact .inr ⟨by simpa using h, by have := hs1.wait h; simp [this], by have := hs1.wait h; simp [this]⟩
        · exact .inl (by simpa using h)
      clear hs1 HS HR2 HAT HSM HAT8 KC KN HRES t1 t2 hfd
      rcases H6 with i6 | ⟨i6, j6⟩ <;> rcases H7 with i7 | ⟨i7, j7, k7⟩
      all_goals
        go_wp2_with fail
        go_meet
        exact ⟨rfl, rfl⟩
    case rest =>
      obtain ⟨rfl, rfl⟩ := hcut
      clear hs1 e0 d0 d1 d2 d3 d4 d5 y0 y1 y2 y3 y4 y5
      have KN8 : Hid (∀ W, Below wc.heap.size wc W → W.cell? ⟨w4.heap.size, 0, none⟩ = some (.slice qf R.frames.length kf)) := fun W hW => (KN.out W (bthen0 (bthen0 HB7.out HB8.out) hW)).1
      have h6 : R.frames.length ≤ 6 := HSM.out.1.fr
      go_wp2_with fail
      go_loopw [8, 9, 10] (fun i _ _ wr => ∃ k : Nat, k ≤ R.frames.length ∧ i = .int .i64 k ∧ Below wc.heap.size wc wr) (fun i _ _ _ => R.frames.length - (intOf i).toNat)
      case atStart => exact ⟨0, Nat.zero_le _, rfl, Below.refl _ _⟩
      case round =>
        rename World => wo
        obtain ⟨k, hk, rfl, hb⟩ := hrel
        have y0 := KN8.out wo hb
        by_cases hlt : k < R.frames.length
        · have hlti : (k : Int) < (R.frames.length : Int) := by omega
          obtain ⟨x, hx⟩ : ∃ x, R.frames[k]? = some x := ⟨_, List.getElem?_eq_getElem hlt⟩
          obtain ⟨pf9, cf9, hqe, -, -, hfc⟩ := (HAT8.out.below hb).fr
          obtain ⟨g, off, lv, sv, hpe, hg, -, -, -, x3, -, -, hS, -⟩ := hfc k x hx
          cases hqe
          subst hpe
          obtain ⟨ps, cs, hsv, hsm, hsc⟩ := hS
          subst hsv
          have hin := List.mem_of_getElem? hx
          have hs8 := HSM.out.2 x hin
          have hok : ∀ v ∈ x.stk, v.1 = false → isI32 v.2 = true := fun v hv h1 => by
            obtain ⟨kk, ff, hrf⟩ := HR2.out.each k x hx
            have := hrf.oks v hv
            rw [okV, if_neg (by simp [h1])] at this
            exact this
          have HSC := hideP hsc
          have HOK := hideP hok
          have HX3 := hideP x3
          have HBW := hideP hb
          have HS8 := hideP hs8
          clear hsc hok hfc hs8 hin
          go_wp2_with fail
          go_loopw [9, 10] (fun j _ wr => ∃ m : Nat, m ≤ x.stk.length ∧ j = .int .i64 m ∧ Below wo.heap.size wo wr) (fun j _ _ => x.stk.length - (intOf j).toNat)
          case atStart => exact ⟨0, Nat.zero_le _, rfl, Below.refl _ _⟩
          case round =>
            rename World => wi
            obtain ⟨m, hm, rfl, hb2⟩ := hrel
            have y1 := KN8.out wi (bthen0 HBW.out hb2)
            have x4 := (hb2.cell (p := ⟨g, off + k * 4 + 3, none⟩) hg).trans HX3.out
            by_cases hltm : m < x.stk.length
            · have hltmi : (m : Int) < (x.stk.length : Int) := by omega
              obtain ⟨v, hv⟩ : ∃ v, x.stk[m]? = some v := ⟨_, List.getElem?_eq_getElem hltm⟩
              obtain ⟨sb, so, hps, hsb, s0, s1⟩ := HSC.out m v hv
              subst hps
              replace s0 := (hb2.cell (p := ⟨sb, so + m * 2, none⟩) hsb).trans s0
              replace s1 := (hb2.cell (p := ⟨sb, so + m * 2 + 1, none⟩) hsb).trans s1
              have HV := hideP (HOK.out v (List.mem_of_getElem? hv))
              have HB2 := hideP hb2
              have HLT := hideP hltm
              have hm9 : m ≤ 100 := by have := HS8.out; omega
              obtain ⟨vb, vn⟩ := v
              simp only at s0 s1
              clear hv hb2 y0
              cases vb
              · have hi : (wrap32 vn != vn) = false := by
                  have := HV.out rfl
                  simp only at this
                  rw [← wrap_isI32] at this
                  simpa using this
                go_wp2_with fail
                go_quiet ((go_at_call 28; exact Calls.quiet_of_same (wrap_any _ _)))
                go_wp2
                go_roundw
                case rel => exact ⟨m + 1, HLT.out, by go_num, below_drewN (HB2.out.alloc HB2.out.size _) _⟩
                case measure =>
                  have hlt9 := HLT.out
                  simp [intOf]
                  omega
              · go_wp2_with fail
                go_quiet (fail)
                go_wp2
                go_roundw
                case rel => exact ⟨m + 1, HLT.out, by go_num, below_drewN (HB2.out.alloc HB2.out.size _) _⟩
                case measure =>
                  have hlt9 := HLT.out
                  simp [intOf]
                  omega
            · have hltmi : ¬ (m : Int) < (x.stk.length : Int) := by omega
              have HB2 := hideP hb2
              clear hb2
              go_wp2_with fail
              go_roundw
              case rel => exact ⟨k + 1, by omega, by go_num, bthen0 HBW.out HB2.out⟩
              case measure => simp [intOf]; omega
        · have hlti : ¬ (k : Int) < (R.frames.length : Int) := by omega
          go_wp2
          go_ret
          exact ⟨rfl, bthen0 HFIN8.out hb⟩
set_option maxRecDepth 100000 in
theorem lifted (os : Os) (started : os.Started) (H : Type) (enc : TypeId × Value → H) :
    ReturnsInHanded {} Tryz.checked os 6 .any (Rows.machineSendsSpec.pre6 enc Tryz.prog Tryz.f6 Rows.machineSendsRow.domain false) (Rows.machineSendsSpec.post enc Tryz.prog Tryz.f6 false true false false) := by
  refine returnsInHanded_of_change_sized (C := Tryz.checked) own started (by kernel_rfl) Tryz.func6
    (ChangeSpec.witness6 (enc := enc) (C := Tryz.checked) false ⟨#[], #[.agg #[.slice none 0 0], .agg #[.slice none 0 0, .slice none 0 0, .slice none 0 0, .slice none 0 0, .int .i64 0, .int .i64 0]], []⟩ 8 (by kernel_rfl) (by kernel_rfl) (by kernel_rfl) (by kernel_rfl)) ?_
  intro W base args ds gs before hval0 hW hcnd hsz0 hholds
  have hval : ∀ (j : Nat) t v, Tryz.f6.params[j]? = some t → args[j]? = some v → Value.okWide Tryz.prog W .any base t v := hval0
  have hsz : (DataW.weightsEach Tryz.prog (Tryz.f6.params.toList ++ Rows.machineSendsSpec.plain.varTypes Tryz.prog) (ds ++ gs)).all (· ≤ reachBytes) = true := hsz0
  have hW' := hW
  obtain ⟨p, q, hA0, hV, rfl, hfz, hnd⟩ := hW
  have hA : DataW.TrodAll enc Tryz.prog W 0 (fun _ => true) true Tryz.f6.params.toList args.toList ds p := hA0
  rw [Tryz.params6] at hA hval hsz
  obtain ⟨v0, vs0, d0, ds0, p0, q0, hargs, rfl, rfl, h0, r0⟩ := trodAll_cons hA
  obtain ⟨v1, vs1, d1, ds1, p1, q1, rfl, rfl, rfl, h1, r1⟩ := trodAll_cons r0
  obtain ⟨rfl, rfl, rfl⟩ := trodAll_nil r1
  obtain rfl : args = #[v0, v1] := by cases args; simp_all
  obtain ⟨rfl, rfl⟩ := trodVars_none hV
  have k0 := h0
  have k1 := h1
  have lt0 : ∀ x ∈ p0, x.block < W.heap.size := by obtain ⟨m, hm⟩ := k0; exact DataW.trod_lt m _ _ _ hm
  have lt1 : ∀ x ∈ p1, x.block < W.heap.size := by obtain ⟨m, hm⟩ := k1; exact DataW.trod_lt m _ _ _ hm
  have hw0 : ∀ n ∈ d0.weights Tryz.prog 24, n ≤ reachBytes := fun n hn => by have := List.all_eq_true.1 hsz n (DataW.weights_mem_each (j := 0) rfl rfl n hn); simpa using this
  obtain ⟨c0, l0, rfl, hl0⟩ := open_progC (hval 0 24 v0 rfl rfl) h0 hw0
  have hw1 : ∀ n ∈ d1.weights Tryz.prog 29, n ≤ reachBytes := fun n hn => by have := List.all_eq_true.1 hsz n (DataW.weights_mem_each (j := 1) rfl rfl n hn); simpa using this
  obtain ⟨e10, e11, e12, e13, M1, rfl, hM1, hL1⟩ := open_machV (hval 1 29 v1 rfl rfl) h1 hw1
  clear hA0 hval0 hsz0
  refine (walk W l0 c0 hl0 M1 e10 e11 e12 e13 hM1 hL1).mono fun e W' ⟨he, bel⟩ => ?_
  subst he
  exact ⟨_, rfl, _, _, _, [], _, [], hW', trodAll_mk1 (shut_bool Tryz.underlying4 _), (trodAll_cons_mk (Below.trod laidOut (by kernel_rfl) (of_decide_eq_true (by kernel_rfl)) k0 bel lt0) (trodAll_cons_mk (Below.trod laidOut (by kernel_rfl) (of_decide_eq_true (by kernel_rfl)) k1 bel lt1) trodAll_mk0)), rfl, bel.frame _, fun h => by cases h⟩
theorem over : Rows.machineSendsRow.holds Tryz.pinned (OpenSpec.ofChange Rows.machineSendsSpec) :=
  OpenClaim.holds_of_wide 6 Tryz.f6 rfl rfl rfl rfl rfl rfl rfl ⟨rfl, rfl, rfl, rfl, rfl⟩ rfl rfl rfl rfl rfl (by kernel_rfl) Tryz.func6 (by kernel_rfl)
    (of_decide_eq_true (by kernel_rfl)) (by unfold Func.isWrapper; first | (rw [if_pos (by decide +kernel)]; kernel_rfl) | (rw [if_neg (by decide +kernel)]; exact ⟨rfl, rfl⟩))
    (fun os started H enc _ => lifted os started H enc)
end Go.Proofs.YtcadpoknolefpaaGreat.machineSends
namespace Go.Proofs.YtcadpoknolefpaaGreat
/-- For every input the law MachineSends returns true, and the arguments read as they did. -/
theorem machineSends_holds : Rows.MachineSendsSaid := machineSends.over
end Go.Proofs.YtcadpoknolefpaaGreat

