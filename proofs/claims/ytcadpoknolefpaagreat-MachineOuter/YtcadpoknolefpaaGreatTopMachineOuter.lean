/- ONLY THE INNERMOST FRAME IS OTHER BEHIND A STEP (and the one ahead, where one goes): what is sent stays sent, blocks stay as long as they are, what came is taken in order: for every program and machine MachineOuter returns true. No condition. -/
import Derived.Test.YtcadpoknolefpaaGreatD24
import Derived.Test.YtcadpoknolefpaaGreatD23
import Derived.Test.YtcadpoknolefpaaGreatD18
import Derived.Test.YtcadpoknolefpaaGreatD25
import Derived.Test.YtcadpoknolefpaaGreatD22
import Derived.Test.YtcadpoknolefpaaGreatD7
import Derived.Deep.CutRange
namespace Go.Proofs.YtcadpoknolefpaaGreat.machineOuter
open Go.ChangeShapes Go.WideShapes Go.ChangeAt Go.RowKit
set_option linter.unusedVariables false
set_option linter.unusedSimpArgs false
theorem own : ownKnob Tryz.prog.godebug = none := by kernel_rfl
theorem laidOut : laidOutB Tryz.prog = true := by kernel_rfl
theorem frms_part {W : World} {g off n cap : Nat} {F : List Frm} (h : FrmsAt W (.slice (some ⟨g, off, none⟩) n cap) F) {k : Nat} {x : Frm} (hk : F[k]? = some x) (c : Nat) (hc : 1 ≤ c) : FrmsAt W (.slice (some ⟨g, off + k * 4, none⟩) 1 c) [x] := by
  obtain ⟨p, cap', he, hm, hcc, hf⟩ := h
  cases he
  refine ⟨_, c, rfl, by unfold maxLen; simp, by simpa using hc, fun j y hj => ?_⟩
  cases j with
  | succ j => simp at hj
  | zero =>
    simp at hj
    subst hj
    obtain ⟨g', o', lv, sv, hp, h1, h2, h3, h4, h5, h6⟩ := hf k x hk
    cases hp
    exact ⟨g, _, lv, sv, rfl, h1, by simpa using h2, by simpa using h3, by simpa using h4, by simpa using h5, h6⟩
theorem mach_part {W : World} {fv : Value} {x : Frm} (h : FrmsAt W fv [x]) : MachAt W fv (.slice none 0 0) (.slice none 0 0) (.slice none 0 0) { zeroM with frames := [x] } := by
  have hz := (mres_zero W 0).at_ (by decide)
  exact ⟨h, hz.bl, hz.inp, hz.out⟩
theorem ints_drop {W : World} {p : Option Addr} {c d : Nat} {L : List Int} (h : IntsAt W (.slice p L.length c) L) (hd : d ≤ L.length) (hc : L.length ≤ c) : IntsAt W (.slice (if c = d then p else Option.map (fun x => x.add d) p) (L.length - d) (c - d)) (L.drop d) := by
  obtain ⟨p', c', he, hm, hz⟩ := h
  cases he
  refine ⟨_, _, by rw [List.length_drop], by rw [List.length_drop]; omega, fun k z hk => ?_⟩
  rw [List.getElem?_drop] at hk
  have hlt := lt_of_at hk
  obtain ⟨b, off, hp, hb, hcell⟩ := hz (d + k) z hk
  subst hp
  rw [if_neg (by omega)]
  exact ⟨b, off + d, by show some (Addr.add ⟨b, off, none⟩ d) = _; simp [Addr.add], hb, by rw [Nat.add_assoc]; exact hcell⟩
set_option maxRecDepth 100000 in
set_option maxHeartbeats 8000000 in
theorem walk (w : World) (p : List Fn) (pv : Value) (hpf : ProgFull w pv p) (M : Mach) (fv bv iv ov : Value) (hM : MachAt w fv bv iv ov M) (hML : MachLong M) :
    Calls Tryz.prog 5 #[.agg #[pv], .agg #[fv, bv, iv, ov, .int .i64 M.status, .int .i64 M.trap]] w fun e w' => e = .returned (.bool true) ∧ Below w.heap.size w w' := by
  have hCk : CkAt w p pv fv bv iv ov M := ⟨hpf.at_, hpf.cap, hM⟩
  have hpc : PcOk M := fun x hx => (hML.fr.2 x hx).2.2
  obtain ⟨⟨pp, qp, hpv⟩, ⟨pf, cf, hfv⟩, ⟨pb, cb, hbv⟩, ⟨pi, ci, hiv⟩, ⟨po, co, hov⟩⟩ := hCk.shp
  subst hpv hfv hbv hiv hov
  obtain ⟨W1, hW1⟩ : ∃ W1, (w.alloc (.cells #[.slice pp p.length qp] 24)).alloc (.cells #[.slice pf M.frames.length cf, .slice pb M.blocks.length cb, .slice pi M.inp.length ci, .slice po M.out.length co, .int .i64 M.status, .int .i64 M.trap] 29) = W1 := ⟨_, rfl⟩
  have b1 : Below w.heap.size w W1 := by rw [← hW1]; exact ((Below.refl _ w).alloc (Nat.le_refl _) _).alloc (by simp) _
  have u1 : W1.heap[w.heap.size]? = some (.cells #[.slice pp p.length qp] 24 (0, 0)) := by rw [← hW1]; exact heap_old (World.alloc_heap_new w _) _
  have u2 : W1.heap[w.heap.size + 1]? = some (.cells #[.slice pf M.frames.length cf, .slice pb M.blocks.length cb, .slice pi M.inp.length ci, .slice po M.out.length co, .int .i64 M.status, .int .i64 M.trap] 29 (0, 0)) := by rw [← hW1]; exact new_two _ _ _
  have l1 := heap_lt u1
  have l2 := heap_lt u2
  have KC : Hid (∀ W, Below W1.heap.size W1 W → W.cell? ⟨w.heap.size, 0, none⟩ = some (.slice pp p.length qp) ∧ W.cell? ⟨w.heap.size + 1, 0, none⟩ = some (.slice pf M.frames.length cf) ∧ W.cell? ⟨w.heap.size + 1, 1, none⟩ = some (.slice pb M.blocks.length cb) ∧ W.cell? ⟨w.heap.size + 1, 2, none⟩ = some (.slice pi M.inp.length ci) ∧ W.cell? ⟨w.heap.size + 1, 3, none⟩ = some (.slice po M.out.length co) ∧ W.cell? ⟨w.heap.size + 1, 4, none⟩ = some (.int .i64 M.status) ∧ W.cell? ⟨w.heap.size + 1, 5, none⟩ = some (.int .i64 M.trap)) := fun W hW => by
    have h1 := (hW.block _ l1).trans u1
    have h2 := (hW.block _ l2).trans u2
    exact ⟨cell_at' h1 0, cell_at' h2 0, cell_at' h2 1, cell_at' h2 2, cell_at' h2 3, cell_at' h2 4, cell_at' h2 5⟩
  have HH := hideP (hCk.below b1)
  have HPC := hideP hpc
  have HB1 := hideP b1
  clear hpf hML hM hCk hpc u1 u2 b1
  go_enter Tryz.func5, Tryz.ntmps5
  go_wp2_with fail
  refine (machineBegun_any _).mono ?_
  rintro e w2 ⟨rfl, b2⟩
  obtain ⟨e0, d0, d1, d2, d3, d4, d5⟩ := KC.out w2 b2
  have HST := hideP (mStep_any M p _ _ _ _ _ w2 (HH.out.below b2) HPC.out)
  go_wp2_with fail
  refine HST.out.mono ?_
  rintro e w4 ⟨nf, nb, ni, no, rfl, hres, b4'⟩
  have b4 := bthen0 b2 b4'
  clear e0 d0 d1 d2 d3 d4 d5 HST b2 b4'
  obtain ⟨⟨qf, kf, hqf⟩, ⟨qb, kb, hqb⟩, ⟨qi, ki, hqi⟩, ⟨qo, ko, hqo⟩⟩ := mres_shpN hres
  subst hqf hqb hqi hqo
  obtain ⟨R, hRR⟩ : ∃ R, (if checkE p M = 0 then stepM p M else zeroM) = R := ⟨_, rfl⟩
  rw [hRR] at hres ⊢
  obtain ⟨W5, hW5⟩ : ∃ W5, w4.alloc (.cells #[.slice qf R.frames.length kf, .slice qb R.blocks.length kb, .slice qi R.inp.length ki, .slice qo R.out.length ko, .int .i64 R.status, .int .i64 R.trap] 29) = W5 := ⟨_, rfl⟩
  have b5 : Below w4.heap.size w4 W5 := by rw [← hW5]; exact (Below.refl _ w4).alloc (Nat.le_refl _) _
  have u5 : W5.heap[w4.heap.size]? = some (.cells #[.slice qf R.frames.length kf, .slice qb R.blocks.length kb, .slice qi R.inp.length ki, .slice qo R.out.length ko, .int .i64 R.status, .int .i64 R.trap] 29 (0, 0)) := by rw [← hW5]; exact World.alloc_heap_new w4 _
  have B5 := hideP (bthen0 b4 b5)
  have KN : Hid (∀ W, Below W5.heap.size W5 W → W.cell? ⟨w4.heap.size, 0, none⟩ = some (.slice qf R.frames.length kf) ∧ W.cell? ⟨w4.heap.size, 1, none⟩ = some (.slice qb R.blocks.length kb) ∧ W.cell? ⟨w4.heap.size, 2, none⟩ = some (.slice qi R.inp.length ki) ∧ W.cell? ⟨w4.heap.size, 3, none⟩ = some (.slice qo R.out.length ko) ∧ W.cell? ⟨w4.heap.size, 4, none⟩ = some (.int .i64 R.status) ∧ W.cell? ⟨w4.heap.size, 5, none⟩ = some (.int .i64 R.trap)) := fun W hW => by
    have h1 := (hW.block _ (heap_lt u5)).trans u5
    exact ⟨cell_at' h1 0, cell_at' h1 1, cell_at' h1 2, cell_at' h1 3, cell_at' h1 4, cell_at' h1 5⟩
  have HRES := hideP (hres.below b5)
  have HFIN := hideP (bthen0 HB1.out B5.out)
  obtain ⟨e0, d0, d1, d2, d3, d4, d5⟩ := KC.out W5 B5.out
  obtain ⟨y0, y1, y2, y3, y4, y5⟩ := KN.out W5 (Below.refl _ _)
  clear u5 hres b4 b5
  by_cases hc : checkE p M = 0
  rotate_left
  · have hc' : (checkE p M != 0) = true := by simpa using hc
    rw [if_neg hc] at hRR
    generalize checkE p M = er at *
    subst hRR
    change W5.cell? ⟨w4.heap.size, 0, none⟩ = some (.slice qf 0 kf) at y0
    clear hc
    go_wp2
    go_ret
    exact ⟨by simp, HFIN.out⟩
  rw [if_pos hc] at hRR
  rw [hc]
  obtain ⟨hp, he, hR⟩ := checkE_zero.1 hc
  have hou := stepM_outer hp he hR
  have hRR2 := stepM_right hp he hR
  rw [hRR] at hou hRR2
  have smM := (right_small hp he hR).1
  have smR := (right_small hp he hRR2).1
  have HAT := hideP (HRES.out.at_ (by have := smR.inp; omega))
  have HAM := hideP (HH.out.below B5.out).mach
  have f6 := smM.fr
  have r6 := smR.fr
  have HM10 := hideP smM.inp
  have m8 := smM.bl
  have r8 := smR.bl
  have g1 := hou.few
  have g2 := hou.many
  have g3 := hou.blocks
  have g4 := hou.out.1
  have g5 := hou.inp.1
  have hw1 : IntKind.i64.wrap ((M.frames.length : Int) - 1) = (M.frames.length : Int) - 1 := by rw [IntKind.wrap_i64]; omega
  have z1 : decide ((R.frames.length : Int) < (M.frames.length : Int) - 1) = false := by simp; omega
  have z2 : decide ((R.frames.length : Int) > (M.frames.length : Int) + 1) = false := by simp; omega
  have z2' : decide ((M.frames.length : Int) + 1 < (R.frames.length : Int)) = false := by simp; omega
  have z2'' : decide (M.frames.length + 1 < R.frames.length) = false := by simp; omega
  have z3 : decide ((R.blocks.length : Int) < (M.blocks.length : Int)) = false := by simp; omega
  have z3' : decide (R.blocks.length < M.blocks.length) = false := by simp; omega
  have z4 : decide ((R.out.length : Int) < (M.out.length : Int)) = false := by simp; omega
  have z4' : decide (R.out.length < M.out.length) = false := by simp; omega
  have z5 : decide ((R.inp.length : Int) > (M.inp.length : Int)) = false := by simp; omega
  have z5' : decide (M.inp.length < R.inp.length) = false := by simp; omega
  have HOU := hideP hou
  have HG := hideP (And.intro g1 (And.intro g2 (And.intro g3 (And.intro g4 g5))))
  clear hou hRR2 smM smR hp he hR hRR hc g1 g2 g3 g4 g5
  go_wp2_with fail
  clear z1 z2 z2' z2'' z3 z3' z4 z4' z5 z5' hw1 e0 d0 d1 d2 d3 d4 d5 y0 y1 y2 y3 y4 y5
  go_loopw [7] (fun i wr => ∃ k : Nat, k ≤ M.frames.length ∧ i = .int .i64 k ∧ Below W5.heap.size W5 wr) (fun i _ => M.frames.length - (intOf i).toNat)
  case atStart => exact ⟨0, Nat.zero_le _, rfl, Below.refl _ _⟩
  case round =>
    rename World => wo
    obtain ⟨k, hk, rfl, hb⟩ := hrel
    obtain ⟨e0, d0, d1, d2, d3, d4, d5⟩ := KC.out wo (bthen0 B5.out hb)
    obtain ⟨y0, y1, y2, y3, y4, y5⟩ := KN.out wo hb
    obtain ⟨bb, hcb⟩ : ∃ bb, decide (k + 2 < M.frames.length ∨ (k + 1 < M.frames.length ∧ k < R.frames.length ∧ M.frames.length ≤ R.frames.length)) = bb := ⟨_, rfl⟩
    have HB := hideP hb
    have HCB := hideP hcb
    clear hb hcb
    go_upto_region 9 with fail
    go_cut [97] from 68 to 122 (fun s wx => s = .bool bb ∧ wx = wo)
    case first =>
      have hcb := HCB.out
      have two : ∀ (P : Prop) [Decidable P], decide P = false ∨ decide P = true := fun P _ => by cases decide P <;> simp
      have H1 : (¬ k + 2 < M.frames.length ∧ decide ((k : Int) + 2 < (M.frames.length : Int)) = false ∧ decide (k + 2 < M.frames.length) = false) ∨ (k + 2 < M.frames.length ∧ decide ((k : Int) + 2 < (M.frames.length : Int)) = true ∧ decide (k + 2 < M.frames.length) = true) := by
        by_cases h : k + 2 < M.frames.length
        · exact .inr ⟨h, by simp; omega, by simpa using h⟩
        · exact .inl ⟨h, by simp; omega, by simpa using h⟩
      have H2 : (¬ k + 1 < M.frames.length ∧ decide ((k : Int) + 1 < (M.frames.length : Int)) = false ∧ decide (k + 1 < M.frames.length) = false) ∨ (k + 1 < M.frames.length ∧ decide ((k : Int) + 1 < (M.frames.length : Int)) = true ∧ decide (k + 1 < M.frames.length) = true) := by
        by_cases h : k + 1 < M.frames.length
        · exact .inr ⟨h, by simp; omega, by simpa using h⟩
        · exact .inl ⟨h, by simp; omega, by simpa using h⟩
      have H3 : (¬ k < R.frames.length ∧ decide ((k : Int) < (R.frames.length : Int)) = false ∧ decide (k < R.frames.length) = false) ∨ (k < R.frames.length ∧ decide ((k : Int) < (R.frames.length : Int)) = true ∧ decide (k < R.frames.length) = true) := by
        by_cases h : k < R.frames.length
        · exact .inr ⟨h, by simp; omega, by simpa using h⟩
        · exact .inl ⟨h, by simp; omega, by simpa using h⟩
      have H4 : (¬ M.frames.length ≤ R.frames.length ∧ decide ((R.frames.length : Int) ≥ (M.frames.length : Int)) = false ∧ decide (M.frames.length ≤ R.frames.length) = false) ∨ (M.frames.length ≤ R.frames.length ∧ decide ((R.frames.length : Int) ≥ (M.frames.length : Int)) = true ∧ decide (M.frames.length ≤ R.frames.length) = true) := by
        by_cases h : M.frames.length ≤ R.frames.length
        · exact .inr ⟨h, by simp; omega, by simpa using h⟩
        · exact .inl ⟨h, by simp; omega, by simpa using h⟩
      clear HOU HG HAT HAM HRES KC KN two
      rcases H1 with ⟨v1, i1, j1⟩ | ⟨v1, i1, j1⟩ <;> rcases H2 with ⟨v2, i2, j2⟩ | ⟨v2, i2, j2⟩ <;> rcases H3 with ⟨v3, i3, j3⟩ | ⟨v3, i3, j3⟩ <;> rcases H4 with ⟨v4, i4, j4⟩ | ⟨v4, i4, j4⟩
      all_goals
        have HV := hideP (And.intro v1 (And.intro v2 (And.intro v3 v4)))
        clear v1 v2 v3 v4 hcb
        go_wp2_with fail
        go_meet
        refine ⟨?_, rfl⟩
        rw [← HCB.out]
        obtain ⟨v1, v2, v3, v4⟩ := HV.out
        simp [v1, v2, v3, v4]
    case rest =>
      obtain ⟨rfl, rfl⟩ := hcut
      cases bb
      · clear HCB e0 d0 d1 d2 d3 d4 d5 y0 y1 y2 y3 y4 y5
        go_wp2_with fail
        go_loopw [8] (fun i wr => ∃ k : Nat, k ≤ M.blocks.length ∧ i = .int .i64 k ∧ Below W5.heap.size W5 wr) (fun i _ => M.blocks.length - (intOf i).toNat)
        case atStart => exact ⟨0, Nat.zero_le _, rfl, HB.out⟩
        case round =>
          rename World => wi
          obtain ⟨m, hm, rfl, hb2⟩ := hrel
          obtain ⟨e0, d0, d1, d2, d3, d4, d5⟩ := KC.out wi (bthen0 B5.out hb2)
          obtain ⟨y0, y1, y2, y3, y4, y5⟩ := KN.out wi hb2
          have HB2 := hideP hb2
          have hm9 : m ≤ 100 := by omega
          clear hb2
          by_cases hlt : m < M.blocks.length
          · have hlti : (m : Int) < (M.blocks.length : Int) := by omega
            have hlti2 : (m : Int) < (R.blocks.length : Int) := by have := HG.out.2.2.1; omega
            obtain ⟨b, hbm⟩ : ∃ b, M.blocks[m]? = some b := ⟨_, List.getElem?_eq_getElem hlt⟩
            obtain ⟨b', hbr, hbl⟩ := HOU.out.each m b hbm
            obtain ⟨pM, cM, heM, hmM, hfM⟩ := (HAM.out.below HB2.out).bl
            obtain ⟨pR, cR, heR, hmR, hfR⟩ := (HAT.out.below HB2.out).bl
            cases heM
            cases heR
            obtain ⟨gM, oM, uM, hpM, -, cM, iM, -⟩ := hfM m b hbm
            obtain ⟨gR, oR, uR, hpR, -, cR, iR, -⟩ := hfR m b' hbr
            subst hpM hpR
            obtain ⟨pm, cm, hum, -, -⟩ := iM
            obtain ⟨pr, cr, hur, -, -⟩ := iR
            subst hum hur
            have z6 : ((b.length : Int) != (b'.length : Int)) = false := by simp; omega
            have z7 : (b.length != b'.length) = false := by simp; omega
            have HL2 := hideP hlt
            have HBL := hideP hbl
            clear hfM hfR hbm hbr hbl
            go_wp2_with fail
            go_quiet (fail)
            go_wp2
            go_roundw
            case rel => exact ⟨m + 1, HL2.out, by go_num, below_drewN HB2.out _⟩
            case measure =>
              have hlt9 := HL2.out
              simp [intOf]
              omega
          · have hlti : ¬ (m : Int) < (M.blocks.length : Int) := by omega
            have hcap := (HAT.out.out).cap _ _ _ rfl
            have hcapI := (HAM.out.inp).cap _ _ _ rfl
            have hg4 := HG.out.2.2.2.1
            have hg5 := HG.out.2.2.2.2
            have htk := HOU.out.out.2
            have HSI1 : Hid (∀ W, Below W5.heap.size W5 W → Calls Tryz.prog 26 #[.slice qo M.out.length ko, .slice po M.out.length co] W fun e w' => e = .returned (.bool true) ∧ Below W.heap.size W w') := fun W hW => by
              have h1 := ints_take (HAT.out.out.at_.below hW) hg4
              rw [htk] at h1
              have := sameInts_any M.out M.out _ _ W h1 (HAM.out.out.at_.below hW)
              rw [decide_eq_true rfl] at this
              exact this
            have q1 : (0 : Int) ≤ (M.out.length : Int) := by omega
            have q2 : (M.out.length : Int) ≤ (ko : Int) := by omega
            have q3 : M.out.length ≤ ko := by omega
            have s10 : M.inp.length ≤ 10 := HM10.out
            have q4 : IntKind.i64.wrap ((M.inp.length : Int) - (R.inp.length : Int)) = (M.inp.length : Int) - (R.inp.length : Int) := by rw [IntKind.wrap_i64]; omega
            have q5 : (0 : Int) ≤ (M.inp.length : Int) - (R.inp.length : Int) := by omega
            have q6 : (M.inp.length : Int) - (R.inp.length : Int) ≤ (M.inp.length : Int) := by omega
            have q7 : (M.inp.length : Int) ≤ (ci : Int) := by omega
            have hdr := HOU.out.inp.2
            obtain ⟨pX, hpX⟩ : ∃ pX, (if ci = M.inp.length - R.inp.length then pi else Option.map (fun x => x.add (M.inp.length - R.inp.length)) pi) = pX := ⟨_, rfl⟩
            have HSI2 : Hid (∀ W, Below W5.heap.size W5 W → Calls Tryz.prog 26 #[.slice qi R.inp.length ki, .slice pX (M.inp.length - (M.inp.length - R.inp.length)) (ci - (M.inp.length - R.inp.length))] W fun e w' => e = .returned (.bool true) ∧ Below W.heap.size W w') := fun W hW => by
              have h1 := ints_drop (d := M.inp.length - R.inp.length) (HAM.out.inp.at_.below hW) (by omega) hcapI
              rw [← hdr, hpX] at h1
              have := sameInts_any R.inp R.inp _ _ W (HAT.out.inp.at_.below hW) h1
              rw [decide_eq_true rfl] at this
              exact this
            clear htk hdr
            go_wp2_with fail
            go_region_held3 (fun X => X.cell? ⟨w4.heap.size, 3, none⟩ = some (.slice qo R.out.length ko) ∧ X.cell? ⟨w.heap.size + 1, 3, none⟩ = some (.slice po M.out.length co) ∧ X.cell? ⟨w4.heap.size, 2, none⟩ = some (.slice qi R.inp.length ki) ∧ X.cell? ⟨w.heap.size + 1, 2, none⟩ = some (.slice pi M.inp.length ci)) (go_keep)
              (first
                | (go_at_call 26; (with_reducible refine (HSI1.out _ (bthen0 HB2.out (Below.refl _ _).drew)).mono ?_); rintro e w7 ⟨rfl, b7'⟩; have b7 := bthen0 (bthen0 HB2.out (Below.refl _ _).drew) b7'; clear b7'; obtain ⟨e0', d0', d1', d2', d3', d4', d5'⟩ := KC.out w7 (bthen0 B5.out b7); obtain ⟨y0', y1', y2', y3', y4', y5'⟩ := KN.out w7 b7)
                | (go_at_call 26; (with_reducible refine (HSI2.out w7 b7).mono ?_); rintro e w8 ⟨rfl, b8'⟩; have b8 := bthen0 b7 b8'; obtain ⟨e0'', d0'', d1'', d2'', d3'', d4'', d5''⟩ := KC.out w8 (bthen0 B5.out b8); obtain ⟨y0'', y1'', y2'', y3'', y4'', y5''⟩ := KN.out w8 b8))
            go_wp2
            go_ret
            exact ⟨by simp, bthen0 HFIN.out b8⟩
      · have hcb := HCB.out
        simp only [decide_eq_true_eq] at hcb
        have hfr := HOU.out.frames k (by omega)
        obtain ⟨x, hx⟩ : ∃ x, M.frames[k]? = some x := ⟨_, List.getElem?_eq_getElem (by omega)⟩
        rw [hx] at hfr
        have hlr := lt_of_at hfr
        have hlm := lt_of_at hx
        have z1 : decide ((k : Int) ≥ (R.frames.length : Int)) = false := by simp; omega
        have z1' : decide (R.frames.length ≤ k) = false := by simp; omega
        obtain ⟨pM, cM, heM, -, hcM, hfM⟩ := HAM.out.fr
        obtain ⟨pR, cR, heR, -, hcR, hfR⟩ := HAT.out.fr
        cases heM
        cases heR
        obtain ⟨gM, oM, -, -, hpM, -⟩ := hfM k x hx
        obtain ⟨gR, oR, -, -, hpR, -⟩ := hfR k x hfr
        subst hpM hpR
        have HLT := hideP hlm
        have HPM := hideP (fun (W : World) (hW : Below W5.heap.size W5 W) (c : Nat) (hc : 1 ≤ c) => mach_part (frms_part (HAM.out.below hW).fr hx c hc))
        have HPR := hideP (fun (W : World) (hW : Below W5.heap.size W5 W) (c : Nat) (hc : 1 ≤ c) => mach_part (frms_part (HAT.out.below hW).fr hfr c hc))
        have q1 : (k : Int) ≤ (k : Int) + 1 := by omega
        have q2 : (k : Int) + 1 ≤ (cf : Int) := by omega
        have q3 : (k : Int) + 1 ≤ (kf : Int) := by omega
        have q4 : k + 1 ≤ cf := by omega
        have q5 : k + 1 ≤ kf := by omega
        have q0 : (0 : Int) ≤ (k : Int) := by omega
        have q6 : (k : Int) < (cf : Int) := by omega
        have q10 : (k : Int) ≤ 6 := by omega
        have q11 : IntKind.i64.wrap ((k : Int) + 1) = (k : Int) + 1 := by rw [IntKind.wrap_i64]; omega
        have q7 : (k : Int) < (kf : Int) := by omega
        have q8 : k < cf := by omega
        have q9 : k < kf := by omega
        have HSM : Hid (∀ W, Below W5.heap.size W5 W → ∀ c c', 1 ≤ c → 1 ≤ c' → Calls Tryz.prog 24 #[.agg #[.slice (some ⟨gM, oM + k * 4, none⟩) 1 c, .slice none 0 0, .slice none 0 0, .slice none 0 0, .int .i64 0, .int .i64 0], .agg #[.slice (some ⟨gR, oR + k * 4, none⟩) 1 c', .slice none 0 0, .slice none 0 0, .slice none 0 0, .int .i64 0, .int .i64 0]] W fun e w' => e = .returned (.bool true) ∧ Below W.heap.size W w') := fun W hW c c' h1 h2 => (sameMachine_any { zeroM with frames := [x] } { zeroM with frames := [x] } _ _ _ _ _ _ _ _ W (HPM.out W hW c h1) (HPR.out W hW c' h2)).mono fun e w' ⟨r, z1, z2, z3⟩ => ⟨by rw [z1, z2.2 rfl], z3⟩
        have r1 : 1 ≤ cf - k := by omega
        have r2 : 1 ≤ kf - k := by omega
        have r3 : ¬ cf = k := by omega
        have r4 : ¬ kf = k := by omega
        clear hcb hfM hfR hfr
        go_wp2_with fail
        go_region_held3 (fun X => X.cell? ⟨w4.heap.size, 0, none⟩ = some (.slice (some ⟨gR, oR, none⟩) R.frames.length kf) ∧ X.cell? ⟨w.heap.size + 1, 0, none⟩ = some (.slice (some ⟨gM, oM, none⟩) M.frames.length cf)) (go_keep) (first | (go_at_call 24; (with_reducible refine (HSM.out _ (bthen0 HB.out (Below.refl _ _).drew) (cf - k) (kf - k) r1 r2).mono ?_); rintro e w7 ⟨rfl, b7'⟩; have b7 := bthen0 (bthen0 HB.out (Below.refl _ _).drew) b7'; obtain ⟨e0', d0', d1', d2', d3', d4', d5'⟩ := KC.out w7 (bthen0 B5.out b7); obtain ⟨y0', y1', y2', y3', y4', y5'⟩ := KN.out w7 b7))
        go_wp2
        go_roundw
        case rel => exact ⟨k + 1, HLT.out, by go_num, b7⟩
        case measure =>
          have hlt9 := HLT.out
          simp [intOf]
          omega
set_option maxRecDepth 100000 in
theorem lifted (os : Os) (started : os.Started) (H : Type) (enc : TypeId × Value → H) :
    ReturnsInHanded {} Tryz.checked os 5 .any (Rows.machineOuterSpec.pre6 enc Tryz.prog Tryz.f5 Rows.machineOuterRow.domain false) (Rows.machineOuterSpec.post enc Tryz.prog Tryz.f5 false true false false) := by
  refine returnsInHanded_of_change_sized (C := Tryz.checked) own started (by kernel_rfl) Tryz.func5
    (ChangeSpec.witness6 (enc := enc) (C := Tryz.checked) false ⟨#[], #[.agg #[.slice none 0 0], .agg #[.slice none 0 0, .slice none 0 0, .slice none 0 0, .slice none 0 0, .int .i64 0, .int .i64 0]], []⟩ 8 (by kernel_rfl) (by kernel_rfl) (by kernel_rfl) (by kernel_rfl)) ?_
  intro W base args ds gs before hval0 hW hcnd hsz0 hholds
  have hval : ∀ (j : Nat) t v, Tryz.f5.params[j]? = some t → args[j]? = some v → Value.okWide Tryz.prog W .any base t v := hval0
  have hsz : (DataW.weightsEach Tryz.prog (Tryz.f5.params.toList ++ Rows.machineOuterSpec.plain.varTypes Tryz.prog) (ds ++ gs)).all (· ≤ reachBytes) = true := hsz0
  have hW' := hW
  obtain ⟨p, q, hA0, hV, rfl, hfz, hnd⟩ := hW
  have hA : DataW.TrodAll enc Tryz.prog W 0 (fun _ => true) true Tryz.f5.params.toList args.toList ds p := hA0
  rw [Tryz.params5] at hA hval hsz
  obtain ⟨v0, vs0, d0, ds0, p0, q0, hargs, rfl, rfl, h0, r0⟩ := trodAll_cons hA
  obtain ⟨v1, vs1, d1, ds1, p1, q1, rfl, rfl, rfl, h1, r1⟩ := trodAll_cons r0
  obtain ⟨rfl, rfl, rfl⟩ := trodAll_nil r1
  obtain rfl : args = #[v0, v1] := by cases args; simp_all
  obtain ⟨rfl, rfl⟩ := trodVars_none hV
  have k0 := h0
  have k1 := h1
  have lt0 : ∀ x ∈ p0, x.block < W.heap.size := by obtain ⟨m, hm⟩ := k0; exact DataW.trod_lt m _ _ _ hm
  have lt1 : ∀ x ∈ p1, x.block < W.heap.size := by obtain ⟨m, hm⟩ := k1; exact DataW.trod_lt m _ _ _ hm
  have hw0 : ∀ n ∈ d0.weights Tryz.prog 24, n ≤ reachBytes := fun n hn => by have := List.all_eq_true.1 hsz n (DataW.weights_mem_each (j := 0) rfl rfl n hn); simpa using this
  obtain ⟨c0, l0, rfl, hl0⟩ := open_progC (hval 0 24 v0 rfl rfl) h0 hw0
  have hw1 : ∀ n ∈ d1.weights Tryz.prog 29, n ≤ reachBytes := fun n hn => by have := List.all_eq_true.1 hsz n (DataW.weights_mem_each (j := 1) rfl rfl n hn); simpa using this
  obtain ⟨e10, e11, e12, e13, M1, rfl, hM1, hL1⟩ := open_machV (hval 1 29 v1 rfl rfl) h1 hw1
  clear hA0 hval0 hsz0
  refine (walk W l0 c0 hl0 M1 e10 e11 e12 e13 hM1 hL1).mono fun e W' ⟨he, bel⟩ => ?_
  subst he
  exact ⟨_, rfl, _, _, _, [], _, [], hW', trodAll_mk1 (shut_bool Tryz.underlying4 _), (trodAll_cons_mk (Below.trod laidOut (by kernel_rfl) (of_decide_eq_true (by kernel_rfl)) k0 bel lt0) (trodAll_cons_mk (Below.trod laidOut (by kernel_rfl) (of_decide_eq_true (by kernel_rfl)) k1 bel lt1) trodAll_mk0)), rfl, bel.frame _, fun h => by cases h⟩
theorem over : Rows.machineOuterRow.holds Tryz.pinned (OpenSpec.ofChange Rows.machineOuterSpec) :=
  OpenClaim.holds_of_wide 5 Tryz.f5 rfl rfl rfl rfl rfl rfl rfl ⟨rfl, rfl, rfl, rfl, rfl⟩ rfl rfl rfl rfl rfl (by kernel_rfl) Tryz.func5 (by kernel_rfl)
    (of_decide_eq_true (by kernel_rfl)) (by unfold Func.isWrapper; first | (rw [if_pos (by decide +kernel)]; kernel_rfl) | (rw [if_neg (by decide +kernel)]; exact ⟨rfl, rfl⟩))
    (fun os started H enc _ => lifted os started H enc)
end Go.Proofs.YtcadpoknolefpaaGreat.machineOuter
namespace Go.Proofs.YtcadpoknolefpaaGreat
/-- For every input the law MachineOuter returns true, and the arguments read as they did. -/
theorem machineOuter_holds : Rows.MachineOuterSaid := machineOuter.over
end Go.Proofs.YtcadpoknolefpaaGreat

