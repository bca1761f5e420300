/- Func, Program and Join answer just what the document says, errors too, whatever they are handed: for every program and number and slice of numbers and slice of numbers VerifyTells returns true. No condition. -/
import Derived.Test.YtgmkmlenhhhgkaaGreatU22
import Derived.Test.YtgmkmlenhhhgkaaGreatU15
import Derived.Test.YtgmkmlenhhhgkaaGreatU18
import Derived.Test.YtgmkmlenhhhgkaaGreatU16
namespace Go.Proofs.YtgmkmlenhhhgkaaGreat.verifyTells
open Go.ChangeShapes Go.WideShapes Go.ChangeAt Go.RowKit
set_option linter.unusedVariables false
set_option linter.unusedSimpArgs false
theorem own : ownKnob Tryz.prog.godebug = none := by kernel_rfl
theorem laidOut : laidOutB Tryz.prog = true := by kernel_rfl
set_option maxHeartbeats 2000000 in
theorem intsAre_true (l : List Int) (x : Int) (v u : Value) (w : World) (hl : IntsAt w v l) (hu : x = 0 → IntsAt w u l) (hx : x ≠ 0 → l = []) (hs : ∃ p n c, u = .slice p n c) : Calls Tryz.prog 22 #[v, .int .i64 x, .int .i64 x, u] w fun e w' => e = .returned (.bool true) ∧ Below w.heap.size w w' := by
  have hS : ∀ (W : World) (v u : Value), IntsAt W v l → IntsAt W u l → Calls Tryz.prog 24 #[v, u] W fun e w' => e = .returned (.bool true) ∧ Below W.heap.size W w' := by
    intro W v u h1 h2
    have := sameInts_any l l v u W h1 h2
    rw [decide_eq_true rfl] at this
    exact this
  have HS := hideP hS
  obtain ⟨p, n, c, rfl⟩ := hs
  have hl' := hl
  obtain ⟨p', c', rfl, _, _⟩ := hl'
  clear hS
  by_cases h0 : x = 0
  · subst h0
    have hu' := hu rfl
    clear hu hx
    go_enter Tryz.func22, Tryz.ntmps22
    go_wp2_with (go_at_call 24; refine (HS.out _ _ _ hl hu').mono ?_; rintro e w2 ⟨rfl, hb2⟩)
    go_ret
    exact ⟨rfl, hb2⟩
  · have h0' : (x != 0) = true := by simp [h0]
    have h1' : (x == x) = true := by simp
    obtain rfl := hx h0
    have hn : IntsAt w (.slice none 0 0) [] := ⟨none, 0, rfl, by unfold maxLen; simp, fun k z hk => by simp at hk⟩
    clear hu hx
    go_enter Tryz.func22, Tryz.ntmps22
    go_wp2_with (go_at_call 24; refine (HS.out _ _ _ hl hn).mono ?_; rintro e w2 ⟨rfl, hb2⟩)
    go_ret
    exact ⟨rfl, hb2⟩
theorem entsNil (W : World) : EntsRd W (.slice none 0 0) [] := ⟨none, 0, rfl, Nat.zero_le _, fun k pc s hk => by simp at hk⟩
theorem prog_one (p : List Fn) : ∃ er0 : Int, ∀ er, ProgIs p er → er = er0 := by
  by_cases h : ∃ er, ProgIs p er
  · obtain ⟨er0, h0⟩ := h
    exact ⟨er0, fun er he => progIs_one he h0⟩
  · exact ⟨0, fun er he => absurd ⟨er, he⟩ h⟩
/-- the reference's first errno. -/
noncomputable def firstE (p : List Fn) (n : Int) : Int := if progErr p = 0 ∧ (n < 0 ∨ (p.length : Int) ≤ n) then 3 else progErr p
set_option maxRecDepth 100000 in
set_option maxHeartbeats 8000000 in
theorem walk (w : World) (p : List Fn) (pv : Value) (hpf : ProgFull w pv p) (n : Int) (hn : -9223372036854775808 ≤ n ∧ n ≤ 9223372036854775807) (a : List Int) (va : Value) (hA : IntsAt w va a) (b : List Int) (vb : Value) (hB : IntsAt w vb b) :
    Calls Tryz.prog 5 #[.agg #[pv], .int .i64 n, va, vb] w fun e w' => e = .returned (.bool true) ∧ Below w.heap.size w w' := by
  have hp := hpf.at_
  have hcp := hpf.cap
  clear hpf
  obtain ⟨er0, her0⟩ := prog_one p
  obtain ⟨pp, qp, hpv, hpm, -⟩ := id hp
  subst hpv
  unfold maxLen at hpm
  obtain ⟨pa, ca, ha1, -, -⟩ := id hA
  obtain ⟨pb, cb, hb1, -, -⟩ := id hB
  subst ha1 hb1
  obtain ⟨W1, hW1⟩ : ∃ W1, w.alloc (.cells #[.slice pp p.length qp] 24) = W1 := ⟨_, rfl⟩
  have hb1 : Below w.heap.size w W1 := by rw [← hW1]; exact (Below.refl _ w).alloc (Nat.le_refl _) _
  have x1 : W1.heap[w.heap.size]? = some (.cells #[.slice pp p.length qp] 24 (0, 0)) := by rw [← hW1]; exact World.alloc_heap_new w _
  have c1 := cell_at' x1 0
  simp at c1
  have lx := heap_lt x1
  have p1 := hp.below hb1
  have cp1 := hcp.below hp hb1
  have HF := hideP (vFunc_any p n _ W1 p1 cp1)
  have HJ : Hid (∀ W, Below W1.heap.size W1 W → Calls Tryz.prog 15 #[.slice pa a.length ca, .slice pb b.length cb] W fun e w' => ∃ q c, e = .returned (.tuple #[.slice q (joinR a b).length c, .int .i64 (joinErr a b)]) ∧ IntsAt w' (.slice q (joinR a b).length c) (joinR a b) ∧ Below W.heap.size W w') := fun W hW => by
    refine (vJoin_any a b _ _ W ((hA.below hb1).below hW) ((hB.below hb1).below hW)).mono ?_
    rintro e w' ⟨z, rfl, hr, hb⟩
    obtain ⟨q, c, rfl⟩ := row_shp hr
    exact ⟨_, _, rfl, intsAt_of_row rfl hr, hb⟩
  have HCP : Hid (∀ W, Below W1.heap.size W1 W → Calls Tryz.prog 16 #[.agg #[.slice pp p.length qp]] W fun e w' => e = .returned (.int .i64 (progErr p)) ∧ Below W.heap.size W w') := fun W hW => checkProgram_any p _ W (p1.below hW)
  have HCJ : Hid (∀ W, Below W1.heap.size W1 W → Calls Tryz.prog 17 #[.slice pa a.length ca, .slice pb b.length cb] W fun e w' => e = .returned (.int .i64 (joinErr a b)) ∧ Below W.heap.size W w') := fun W hW => checkJoin_any a b _ _ W ((hA.below hb1).below hW) ((hB.below hb1).below hW)
  have HVP : Hid (∀ W, Below W1.heap.size W1 W → Calls Tryz.prog 20 #[.agg #[.slice pp p.length qp]] W fun e w' => e = .returned (.int .i64 er0) ∧ Below W.heap.size W w') := fun W hW => by
    refine (vProgram_any p _ W (p1.below hW) (cp1.below p1 hW)).mono ?_
    rintro e w' ⟨er, rfl, h1, h2⟩
    rw [her0 er h1]
    exact ⟨rfl, h2⟩
  have HCF : Hid (∀ W, Below W1.heap.size W1 W → Calls Tryz.prog 21 #[.agg #[.slice pp p.length qp]] W fun e w' => e = .returned (.int .i64 er0) ∧ Below W.heap.size W w') := fun W hW => by
    refine (checkFits_any p _ W (p1.below hW) (cp1.below p1 hW)).mono ?_
    rintro e w' ⟨er, rfl, h1, h2⟩
    rw [her0 er h1]
    exact ⟨rfl, h2⟩
  have HEN : Hid (∀ W (m : Nat) (f : Fn), Below W1.heap.size W1 W → p[m]? = some f → progErr p = 0 → Calls Tryz.prog 18 #[.agg #[.slice pp p.length qp], .int .i64 m] W (EntP p f W)) := fun W m f hW hf he => entriesOf_any p m f _ W (p1.below hW) (cp1.below p1 hW) hf (okFn he (List.mem_of_getElem? hf))
  have HJO : Hid (∀ W, Below W1.heap.size W1 W → joinErr a b = 0 → Calls Tryz.prog 19 #[.slice pa a.length ca, .slice pb b.length cb] W fun e w' => ∃ q c ok, e = .returned (.tuple #[.slice q (joinR a b).length c, .bool ok]) ∧ IntsAt w' (.slice q (joinR a b).length c) (joinR a b) ∧ Below W.heap.size W w') := fun W hW he => by
    cases ka : a.all isType
    · rw [joinErr_kind (by rw [ka]; rfl)] at he; cases he
    cases kb : b.all isType
    · rw [joinErr_kind (by rw [ka, kb]; rfl)] at he; cases he
    by_cases hl : 8 < a.length ∨ 8 < b.length
    · rw [joinErr_many ka kb hl] at he; cases he
    have hr := joinErr_rest ka kb (by omega) (by omega)
    refine (joinOf_any a b _ _ W ((hA.below hb1).below hW) ((hB.below hb1).below hW) (List.all_eq_true.1 ka) (List.all_eq_true.1 kb) (by omega)).mono ?_
    rintro e w' ⟨u, r, ok, rfl, h1, h2, h3⟩
    cases ok
    · rw [hr, h2] at he; cases he
    · have hjr : joinR a b = r := by rw [joinR, if_pos he, h2]; rfl
      rw [hjr]
      obtain ⟨q, c, rfl⟩ := row_shp h1
      exact ⟨q, c, true, rfl, intsAt_of_row rfl h1, h3⟩
  have hjn : joinErr a b ≠ 0 → joinR a b = [] := fun h => by rw [joinR, if_neg h]
  have HJN := hideP hjn
  have HER0 := hideP her0
  clear x1 hp hcp p1 cp1 hA hB hjn her0
  generalize hJR : joinR a b = J at *
  generalize hJE : joinErr a b = je at *
  clear hJR hJE
  go_enter Tryz.func5, Tryz.ntmps5
  go_wp2_with fail
  refine HF.out.mono ?_
  rintro e w2 ⟨v, er, l, rfl, hF, hE, hb2⟩
  have rd2 := entsRd_own hE
  obtain ⟨pl, cl, rfl⟩ := rd2.shp
  have RD2 := hideP rd2
  have HFI := hideP hF
  clear rd2 hE HF hF
  go_wp2_with fail
  refine (HJ.out _ hb2).mono ?_
  rintro e w3 ⟨qj, cj, rfl, ij, hb3⟩
  have hb13 := bthen hb2 hb3
  have IJ3 := hideP ij
  have RD3 := hideP (RD2.out.below hb3)
  have c3 := (hb13.cell (p := ⟨w.heap.size, 0, none⟩) lx).trans c1
  clear ij HJ RD2
  go_wp2_with fail
  refine (HCP.out _ hb13).mono ?_
  rintro e w4 ⟨rfl, hb4⟩
  have hb14 := bthen hb13 hb4
  go_wp2_with fail
  refine (HCJ.out _ hb14).mono ?_
  rintro e w5 ⟨rfl, hb5⟩
  have hb15 := bthen hb14 hb5
  have c5 := (hb15.cell (p := ⟨w.heap.size, 0, none⟩) lx).trans c1
  have IJ5 := hideP (IJ3.out.below (bthen hb4 hb5))
  have RD5 := hideP (RD3.out.below (bthen hb4 hb5))
  clear HCP HCJ c3 IJ3 RD3
  rcases HFI.out with ⟨a1, a2, rfl⟩ | ⟨a1, a2, rfl, rfl⟩ | ⟨a1, m, f, r, rfl, a3, a4, a5⟩
  · subst a2
    have hpb : (progErr p == 0) = false := by simp [a1]
    have RDL := RD5
    have IJ := IJ5
    have RDW := hideP (entsNil w5)
    obtain ⟨pw, hpw⟩ : ∃ pw : Option Addr, pw = none := ⟨_, rfl⟩
    obtain ⟨cw, hcw⟩ : ∃ cw : Nat, cw = 0 := ⟨_, rfl⟩
    have hl0 : ([] : List (Nat × List Int)).length = 0 := rfl
    generalize hpe : progErr p = er at *
    clear hpe HFI RD5 IJ5 a1
    as_aux_lemma =>
      by_cases hje : je = 0
      · subst hje
        go_wp2_with fail
        refine (HJO.out _ hb15 (by trivial)).mono ?_
        rintro e w8 ⟨q8, c8, ok8, rfl, i8, hb8⟩
        have hb18 := bthen hb15 hb8
        have I8 := hideP i8
        have RDL := hideP (RDL.out.below hb8)
        have RDW := hideP (RDW.out.below hb8)
        have IJ := hideP (IJ.out.below hb8)
        clear i8
        have cc8 := (hb18.cell (p := ⟨w.heap.size, 0, none⟩) lx).trans c1
        have l8 : w.heap.size < w8.heap.size := Nat.lt_of_lt_of_le lx hb18.size
        have HSE : Hid (∀ W, Below w8.heap.size w8 W → Calls Tryz.prog 10 #[.slice pl 0 cl, .slice none 0 0] W fun e w' => e = .returned (.bool true) ∧ Below W.heap.size W w') := fun W hW => sameEntries_same [] _ _ W (RDL.out.below hW) (RDW.out.below hW)
        have HIA : Hid (∀ W, Below w8.heap.size w8 W → Calls Tryz.prog 22 #[.slice qj J.length cj, .int .i64 0, .int .i64 0, .slice q8 J.length c8] W fun e w' => e = .returned (.bool true) ∧ Below W.heap.size W w') := fun W hW => intsAre_true J 0 _ _ W (IJ.out.below hW) (fun _ => I8.out.below hW) (fun h => absurd rfl h) ⟨_, _, _, rfl⟩
        have hs1 : (er == er) = true := by simp
        have hs2 : (er0 == er0) = true := by simp
        clear RDL RDW IJ HJN HEN HJO HER0 hpm hn
        go_wp2_with fail
        go_region_held3 (fun W => W.cell? ⟨w.heap.size, 0, none⟩ = some (.slice pp p.length qp)) (go_keep)
          (first
            | (go_at_call 6; refine (verifyBegun_any _).mono ?_; rintro e wa ⟨rfl, hba⟩; have hBa : Below w8.heap.size w8 wa := (by first | exact hba | exact bthen ((Below.refl _ w8).drew) hba | exact bthen ((Below.refl _ w8).drew.drew) hba); have sa := (hBa.cell (p := ⟨w.heap.size, 0, none⟩) l8).trans cc8)
            | (go_at_call 10; refine (HSE.out _ (by first | exact hBa | exact hBa.drew | exact hBa.drew.drew)).mono ?_; rintro e wb ⟨rfl, hbb⟩; have hBb : Below w8.heap.size w8 wb := (by first | exact bthen hBa hbb | exact bthen hBa.drew hbb | exact bthen hBa.drew.drew hbb); have sb := (hBb.cell (p := ⟨w.heap.size, 0, none⟩) l8).trans cc8)
            | (go_at_call 20; refine (HVP.out _ (by first | exact bthen hb18 hBb | exact bthen hb18 hBb.drew | exact bthen hb18 hBb.drew.drew | exact bthen hb18 hBd | exact bthen hb18 hBd.drew | exact bthen hb18 hBd.drew.drew)).mono ?_; rintro e wc ⟨rfl, hbc⟩; have hBc : Below w8.heap.size w8 wc := (by first | exact bthen hBb hbc | exact bthen hBb.drew hbc | exact bthen hBb.drew.drew hbc | exact bthen hBd hbc | exact bthen hBd.drew hbc | exact bthen hBd.drew.drew hbc); have sc := (hBc.cell (p := ⟨w.heap.size, 0, none⟩) l8).trans cc8)
            | (go_at_call 21; refine (HCF.out _ (by first | exact bthen hb18 hBb | exact bthen hb18 hBb.drew | exact bthen hb18 hBb.drew.drew | exact bthen hb18 hBc | exact bthen hb18 hBc.drew | exact bthen hb18 hBc.drew.drew)).mono ?_; rintro e wd ⟨rfl, hbd⟩; have hBd : Below w8.heap.size w8 wd := (by first | exact bthen hBb hbd | exact bthen hBb.drew hbd | exact bthen hBb.drew.drew hbd | exact bthen hBc hbd | exact bthen hBc.drew hbd | exact bthen hBc.drew.drew hbd); have sd := (hBd.cell (p := ⟨w.heap.size, 0, none⟩) l8).trans cc8)
            | (go_at_call 22; refine (HIA.out _ (by first | exact hBc | exact hBc.drew | exact hBc.drew.drew | exact hBd | exact hBd.drew | exact hBd.drew.drew)).mono ?_; rintro e we ⟨rfl, hbe⟩; have hBe : Below w8.heap.size w8 we := (by first | exact bthen hBc hbe | exact bthen hBc.drew hbe | exact bthen hBc.drew.drew hbe | exact bthen hBd hbe | exact bthen hBd.drew hbe | exact bthen hBd.drew.drew hbe); have se := (hBe.cell (p := ⟨w.heap.size, 0, none⟩) l8).trans cc8))
        all_goals
          go_wp2
          go_ret
          exact ⟨rfl, bthen hb1 (bthen hb18 hBe)⟩
      · have hjb : (je == 0) = false := by simp [hje]
        have HJ0 := hideP hje
        clear hje
        have cc5 := (hb15.cell (p := ⟨w.heap.size, 0, none⟩) lx).trans c1
        have l5 : w.heap.size < w5.heap.size := Nat.lt_of_lt_of_le lx hb15.size
        have HSE : Hid (∀ W, Below w5.heap.size w5 W → Calls Tryz.prog 10 #[.slice pl 0 cl, .slice none 0 0] W fun e w' => e = .returned (.bool true) ∧ Below W.heap.size W w') := fun W hW => sameEntries_same [] _ _ W (RDL.out.below hW) (RDW.out.below hW)
        have HIA : Hid (∀ W, Below w5.heap.size w5 W → Calls Tryz.prog 22 #[.slice qj J.length cj, .int .i64 je, .int .i64 je, .slice none 0 0] W fun e w' => e = .returned (.bool true) ∧ Below W.heap.size W w') := fun W hW => intsAre_true J je _ _ W (IJ.out.below hW) (fun h => absurd h HJ0.out) (fun h => HJN.out h) ⟨_, _, _, rfl⟩
        have hs1 : (er == er) = true := by simp
        have hs2 : (er0 == er0) = true := by simp
        clear RDL RDW IJ HJN HEN HJO HER0 hpm hn
        go_wp2_with fail
        go_region_held3 (fun W => W.cell? ⟨w.heap.size, 0, none⟩ = some (.slice pp p.length qp)) (go_keep)
          (first
            | (go_at_call 6; refine (verifyBegun_any _).mono ?_; rintro e wa ⟨rfl, hba⟩; have hBa : Below w5.heap.size w5 wa := (by first | exact hba | exact bthen ((Below.refl _ w5).drew) hba | exact bthen ((Below.refl _ w5).drew.drew) hba); have sa := (hBa.cell (p := ⟨w.heap.size, 0, none⟩) l5).trans cc5)
            | (go_at_call 10; refine (HSE.out _ (by first | exact hBa | exact hBa.drew | exact hBa.drew.drew)).mono ?_; rintro e wb ⟨rfl, hbb⟩; have hBb : Below w5.heap.size w5 wb := (by first | exact bthen hBa hbb | exact bthen hBa.drew hbb | exact bthen hBa.drew.drew hbb); have sb := (hBb.cell (p := ⟨w.heap.size, 0, none⟩) l5).trans cc5)
            | (go_at_call 20; refine (HVP.out _ (by first | exact bthen hb15 hBb | exact bthen hb15 hBb.drew | exact bthen hb15 hBb.drew.drew | exact bthen hb15 hBd | exact bthen hb15 hBd.drew | exact bthen hb15 hBd.drew.drew)).mono ?_; rintro e wc ⟨rfl, hbc⟩; have hBc : Below w5.heap.size w5 wc := (by first | exact bthen hBb hbc | exact bthen hBb.drew hbc | exact bthen hBb.drew.drew hbc | exact bthen hBd hbc | exact bthen hBd.drew hbc | exact bthen hBd.drew.drew hbc); have sc := (hBc.cell (p := ⟨w.heap.size, 0, none⟩) l5).trans cc5)
            | (go_at_call 21; refine (HCF.out _ (by first | exact bthen hb15 hBb | exact bthen hb15 hBb.drew | exact bthen hb15 hBb.drew.drew | exact bthen hb15 hBc | exact bthen hb15 hBc.drew | exact bthen hb15 hBc.drew.drew)).mono ?_; rintro e wd ⟨rfl, hbd⟩; have hBd : Below w5.heap.size w5 wd := (by first | exact bthen hBb hbd | exact bthen hBb.drew hbd | exact bthen hBb.drew.drew hbd | exact bthen hBc hbd | exact bthen hBc.drew hbd | exact bthen hBc.drew.drew hbd); have sd := (hBd.cell (p := ⟨w.heap.size, 0, none⟩) l5).trans cc5)
            | (go_at_call 22; refine (HIA.out _ (by first | exact hBc | exact hBc.drew | exact hBc.drew.drew | exact hBd | exact hBd.drew | exact hBd.drew.drew)).mono ?_; rintro e we ⟨rfl, hbe⟩; have hBe : Below w5.heap.size w5 we := (by first | exact bthen hBc hbe | exact bthen hBc.drew hbe | exact bthen hBc.drew.drew hbe | exact bthen hBd hbe | exact bthen hBd.drew hbe | exact bthen hBd.drew.drew hbe); have se := (hBe.cell (p := ⟨w.heap.size, 0, none⟩) l5).trans cc5))
        all_goals
          go_wp2
          go_ret
          exact ⟨rfl, bthen hb1 (bthen hb15 hBe)⟩
  · rw [a1] at *
    have RDL := RD5
    have IJ := IJ5
    have RDW := hideP (entsNil w5)
    obtain ⟨er, her⟩ : ∃ er : Int, er = 3 := ⟨_, rfl⟩
    clear HFI RD5 IJ5 a1
    by_cases h1 : n < 0
    · as_aux_lemma =>
        by_cases hje : je = 0
        · subst hje
          go_wp2_with fail
          refine (HJO.out _ hb15 (by trivial)).mono ?_
          rintro e w8 ⟨q8, c8, ok8, rfl, i8, hb8⟩
          have hb18 := bthen hb15 hb8
          have I8 := hideP i8
          have RDL := hideP (RDL.out.below hb8)
          have RDW := hideP (RDW.out.below hb8)
          have IJ := hideP (IJ.out.below hb8)
          clear i8
          have cc8 := (hb18.cell (p := ⟨w.heap.size, 0, none⟩) lx).trans c1
          have l8 : w.heap.size < w8.heap.size := Nat.lt_of_lt_of_le lx hb18.size
          have HSE : Hid (∀ W, Below w8.heap.size w8 W → Calls Tryz.prog 10 #[.slice pl 0 cl, .slice none 0 0] W fun e w' => e = .returned (.bool true) ∧ Below W.heap.size W w') := fun W hW => sameEntries_same [] _ _ W (RDL.out.below hW) (RDW.out.below hW)
          have HIA : Hid (∀ W, Below w8.heap.size w8 W → Calls Tryz.prog 22 #[.slice qj J.length cj, .int .i64 0, .int .i64 0, .slice q8 J.length c8] W fun e w' => e = .returned (.bool true) ∧ Below W.heap.size W w') := fun W hW => intsAre_true J 0 _ _ W (IJ.out.below hW) (fun _ => I8.out.below hW) (fun h => absurd rfl h) ⟨_, _, _, rfl⟩
          have hs1 : ((3 : Int) == 3) = true := by simp
          have hs2 : (er0 == er0) = true := by simp
          clear RDL RDW IJ HJN HEN HJO HER0 hpm hn
          go_wp2_with fail
          go_region_held3 (fun W => W.cell? ⟨w.heap.size, 0, none⟩ = some (.slice pp p.length qp)) (go_keep)
            (first
              | (go_at_call 6; refine (verifyBegun_any _).mono ?_; rintro e wa ⟨rfl, hba⟩; have hBa : Below w8.heap.size w8 wa := (by first | exact hba | exact bthen ((Below.refl _ w8).drew) hba | exact bthen ((Below.refl _ w8).drew.drew) hba); have sa := (hBa.cell (p := ⟨w.heap.size, 0, none⟩) l8).trans cc8)
              | (go_at_call 10; refine (HSE.out _ (by first | exact hBa | exact hBa.drew | exact hBa.drew.drew)).mono ?_; rintro e wb ⟨rfl, hbb⟩; have hBb : Below w8.heap.size w8 wb := (by first | exact bthen hBa hbb | exact bthen hBa.drew hbb | exact bthen hBa.drew.drew hbb); have sb := (hBb.cell (p := ⟨w.heap.size, 0, none⟩) l8).trans cc8)
              | (go_at_call 20; refine (HVP.out _ (by first | exact bthen hb18 hBb | exact bthen hb18 hBb.drew | exact bthen hb18 hBb.drew.drew | exact bthen hb18 hBd | exact bthen hb18 hBd.drew | exact bthen hb18 hBd.drew.drew)).mono ?_; rintro e wc ⟨rfl, hbc⟩; have hBc : Below w8.heap.size w8 wc := (by first | exact bthen hBb hbc | exact bthen hBb.drew hbc | exact bthen hBb.drew.drew hbc | exact bthen hBd hbc | exact bthen hBd.drew hbc | exact bthen hBd.drew.drew hbc); have sc := (hBc.cell (p := ⟨w.heap.size, 0, none⟩) l8).trans cc8)
              | (go_at_call 21; refine (HCF.out _ (by first | exact bthen hb18 hBb | exact bthen hb18 hBb.drew | exact bthen hb18 hBb.drew.drew | exact bthen hb18 hBc | exact bthen hb18 hBc.drew | exact bthen hb18 hBc.drew.drew)).mono ?_; rintro e wd ⟨rfl, hbd⟩; have hBd : Below w8.heap.size w8 wd := (by first | exact bthen hBb hbd | exact bthen hBb.drew hbd | exact bthen hBb.drew.drew hbd | exact bthen hBc hbd | exact bthen hBc.drew hbd | exact bthen hBc.drew.drew hbd); have sd := (hBd.cell (p := ⟨w.heap.size, 0, none⟩) l8).trans cc8)
              | (go_at_call 22; refine (HIA.out _ (by first | exact hBc | exact hBc.drew | exact hBc.drew.drew | exact hBd | exact hBd.drew | exact hBd.drew.drew)).mono ?_; rintro e we ⟨rfl, hbe⟩; have hBe : Below w8.heap.size w8 we := (by first | exact bthen hBc hbe | exact bthen hBc.drew hbe | exact bthen hBc.drew.drew hbe | exact bthen hBd hbe | exact bthen hBd.drew hbe | exact bthen hBd.drew.drew hbe); have se := (hBe.cell (p := ⟨w.heap.size, 0, none⟩) l8).trans cc8))
          all_goals
            go_wp2
            go_ret
            exact ⟨rfl, bthen hb1 (bthen hb18 hBe)⟩
        · have hjb : (je == 0) = false := by simp [hje]
          have HJ0 := hideP hje
          clear hje
          have cc5 := (hb15.cell (p := ⟨w.heap.size, 0, none⟩) lx).trans c1
          have l5 : w.heap.size < w5.heap.size := Nat.lt_of_lt_of_le lx hb15.size
          have HSE : Hid (∀ W, Below w5.heap.size w5 W → Calls Tryz.prog 10 #[.slice pl 0 cl, .slice none 0 0] W fun e w' => e = .returned (.bool true) ∧ Below W.heap.size W w') := fun W hW => sameEntries_same [] _ _ W (RDL.out.below hW) (RDW.out.below hW)
          have HIA : Hid (∀ W, Below w5.heap.size w5 W → Calls Tryz.prog 22 #[.slice qj J.length cj, .int .i64 je, .int .i64 je, .slice none 0 0] W fun e w' => e = .returned (.bool true) ∧ Below W.heap.size W w') := fun W hW => intsAre_true J je _ _ W (IJ.out.below hW) (fun h => absurd h HJ0.out) (fun h => HJN.out h) ⟨_, _, _, rfl⟩
          have hs1 : ((3 : Int) == 3) = true := by simp
          have hs2 : (er0 == er0) = true := by simp
          clear RDL RDW IJ HJN HEN HJO HER0 hpm hn
          go_wp2_with fail
          go_region_held3 (fun W => W.cell? ⟨w.heap.size, 0, none⟩ = some (.slice pp p.length qp)) (go_keep)
            (first
              | (go_at_call 6; refine (verifyBegun_any _).mono ?_; rintro e wa ⟨rfl, hba⟩; have hBa : Below w5.heap.size w5 wa := (by first | exact hba | exact bthen ((Below.refl _ w5).drew) hba | exact bthen ((Below.refl _ w5).drew.drew) hba); have sa := (hBa.cell (p := ⟨w.heap.size, 0, none⟩) l5).trans cc5)
              | (go_at_call 10; refine (HSE.out _ (by first | exact hBa | exact hBa.drew | exact hBa.drew.drew)).mono ?_; rintro e wb ⟨rfl, hbb⟩; have hBb : Below w5.heap.size w5 wb := (by first | exact bthen hBa hbb | exact bthen hBa.drew hbb | exact bthen hBa.drew.drew hbb); have sb := (hBb.cell (p := ⟨w.heap.size, 0, none⟩) l5).trans cc5)
              | (go_at_call 20; refine (HVP.out _ (by first | exact bthen hb15 hBb | exact bthen hb15 hBb.drew | exact bthen hb15 hBb.drew.drew | exact bthen hb15 hBd | exact bthen hb15 hBd.drew | exact bthen hb15 hBd.drew.drew)).mono ?_; rintro e wc ⟨rfl, hbc⟩; have hBc : Below w5.heap.size w5 wc := (by first | exact bthen hBb hbc | exact bthen hBb.drew hbc | exact bthen hBb.drew.drew hbc | exact bthen hBd hbc | exact bthen hBd.drew hbc | exact bthen hBd.drew.drew hbc); have sc := (hBc.cell (p := ⟨w.heap.size, 0, none⟩) l5).trans cc5)
              | (go_at_call 21; refine (HCF.out _ (by first | exact bthen hb15 hBb | exact bthen hb15 hBb.drew | exact bthen hb15 hBb.drew.drew | exact bthen hb15 hBc | exact bthen hb15 hBc.drew | exact bthen hb15 hBc.drew.drew)).mono ?_; rintro e wd ⟨rfl, hbd⟩; have hBd : Below w5.heap.size w5 wd := (by first | exact bthen hBb hbd | exact bthen hBb.drew hbd | exact bthen hBb.drew.drew hbd | exact bthen hBc hbd | exact bthen hBc.drew hbd | exact bthen hBc.drew.drew hbd); have sd := (hBd.cell (p := ⟨w.heap.size, 0, none⟩) l5).trans cc5)
              | (go_at_call 22; refine (HIA.out _ (by first | exact hBc | exact hBc.drew | exact hBc.drew.drew | exact hBd | exact hBd.drew | exact hBd.drew.drew)).mono ?_; rintro e we ⟨rfl, hbe⟩; have hBe : Below w5.heap.size w5 we := (by first | exact bthen hBc hbe | exact bthen hBc.drew hbe | exact bthen hBc.drew.drew hbe | exact bthen hBd hbe | exact bthen hBd.drew hbe | exact bthen hBd.drew.drew hbe); have se := (hBe.cell (p := ⟨w.heap.size, 0, none⟩) l5).trans cc5))
          all_goals
            go_wp2
            go_ret
            exact ⟨rfl, bthen hb1 (bthen hb15 hBe)⟩
    · have h2 : n ≥ (p.length : Int) := by omega
      as_aux_lemma =>
        by_cases hje : je = 0
        · subst hje
          go_wp2_with fail
          refine (HJO.out _ hb15 (by trivial)).mono ?_
          rintro e w8 ⟨q8, c8, ok8, rfl, i8, hb8⟩
          have hb18 := bthen hb15 hb8
          have I8 := hideP i8
          have RDL := hideP (RDL.out.below hb8)
          have RDW := hideP (RDW.out.below hb8)
          have IJ := hideP (IJ.out.below hb8)
          clear i8
          have cc8 := (hb18.cell (p := ⟨w.heap.size, 0, none⟩) lx).trans c1
          have l8 : w.heap.size < w8.heap.size := Nat.lt_of_lt_of_le lx hb18.size
          have HSE : Hid (∀ W, Below w8.heap.size w8 W → Calls Tryz.prog 10 #[.slice pl 0 cl, .slice none 0 0] W fun e w' => e = .returned (.bool true) ∧ Below W.heap.size W w') := fun W hW => sameEntries_same [] _ _ W (RDL.out.below hW) (RDW.out.below hW)
          have HIA : Hid (∀ W, Below w8.heap.size w8 W → Calls Tryz.prog 22 #[.slice qj J.length cj, .int .i64 0, .int .i64 0, .slice q8 J.length c8] W fun e w' => e = .returned (.bool true) ∧ Below W.heap.size W w') := fun W hW => intsAre_true J 0 _ _ W (IJ.out.below hW) (fun _ => I8.out.below hW) (fun h => absurd rfl h) ⟨_, _, _, rfl⟩
          have hs1 : ((3 : Int) == 3) = true := by simp
          have hs2 : (er0 == er0) = true := by simp
          clear RDL RDW IJ HJN HEN HJO HER0 hpm hn
          go_wp2_with fail
          go_region_held3 (fun W => W.cell? ⟨w.heap.size, 0, none⟩ = some (.slice pp p.length qp)) (go_keep)
            (first
              | (go_at_call 6; refine (verifyBegun_any _).mono ?_; rintro e wa ⟨rfl, hba⟩; have hBa : Below w8.heap.size w8 wa := (by first | exact hba | exact bthen ((Below.refl _ w8).drew) hba | exact bthen ((Below.refl _ w8).drew.drew) hba); have sa := (hBa.cell (p := ⟨w.heap.size, 0, none⟩) l8).trans cc8)
              | (go_at_call 10; refine (HSE.out _ (by first | exact hBa | exact hBa.drew | exact hBa.drew.drew)).mono ?_; rintro e wb ⟨rfl, hbb⟩; have hBb : Below w8.heap.size w8 wb := (by first | exact bthen hBa hbb | exact bthen hBa.drew hbb | exact bthen hBa.drew.drew hbb); have sb := (hBb.cell (p := ⟨w.heap.size, 0, none⟩) l8).trans cc8)
              | (go_at_call 20; refine (HVP.out _ (by first | exact bthen hb18 hBb | exact bthen hb18 hBb.drew | exact bthen hb18 hBb.drew.drew | exact bthen hb18 hBd | exact bthen hb18 hBd.drew | exact bthen hb18 hBd.drew.drew)).mono ?_; rintro e wc ⟨rfl, hbc⟩; have hBc : Below w8.heap.size w8 wc := (by first | exact bthen hBb hbc | exact bthen hBb.drew hbc | exact bthen hBb.drew.drew hbc | exact bthen hBd hbc | exact bthen hBd.drew hbc | exact bthen hBd.drew.drew hbc); have sc := (hBc.cell (p := ⟨w.heap.size, 0, none⟩) l8).trans cc8)
              | (go_at_call 21; refine (HCF.out _ (by first | exact bthen hb18 hBb | exact bthen hb18 hBb.drew | exact bthen hb18 hBb.drew.drew | exact bthen hb18 hBc | exact bthen hb18 hBc.drew | exact bthen hb18 hBc.drew.drew)).mono ?_; rintro e wd ⟨rfl, hbd⟩; have hBd : Below w8.heap.size w8 wd := (by first | exact bthen hBb hbd | exact bthen hBb.drew hbd | exact bthen hBb.drew.drew hbd | exact bthen hBc hbd | exact bthen hBc.drew hbd | exact bthen hBc.drew.drew hbd); have sd := (hBd.cell (p := ⟨w.heap.size, 0, none⟩) l8).trans cc8)
              | (go_at_call 22; refine (HIA.out _ (by first | exact hBc | exact hBc.drew | exact hBc.drew.drew | exact hBd | exact hBd.drew | exact hBd.drew.drew)).mono ?_; rintro e we ⟨rfl, hbe⟩; have hBe : Below w8.heap.size w8 we := (by first | exact bthen hBc hbe | exact bthen hBc.drew hbe | exact bthen hBc.drew.drew hbe | exact bthen hBd hbe | exact bthen hBd.drew hbe | exact bthen hBd.drew.drew hbe); have se := (hBe.cell (p := ⟨w.heap.size, 0, none⟩) l8).trans cc8))
          all_goals
            go_wp2
            go_ret
            exact ⟨rfl, bthen hb1 (bthen hb18 hBe)⟩
        · have hjb : (je == 0) = false := by simp [hje]
          have HJ0 := hideP hje
          clear hje
          have cc5 := (hb15.cell (p := ⟨w.heap.size, 0, none⟩) lx).trans c1
          have l5 : w.heap.size < w5.heap.size := Nat.lt_of_lt_of_le lx hb15.size
          have HSE : Hid (∀ W, Below w5.heap.size w5 W → Calls Tryz.prog 10 #[.slice pl 0 cl, .slice none 0 0] W fun e w' => e = .returned (.bool true) ∧ Below W.heap.size W w') := fun W hW => sameEntries_same [] _ _ W (RDL.out.below hW) (RDW.out.below hW)
          have HIA : Hid (∀ W, Below w5.heap.size w5 W → Calls Tryz.prog 22 #[.slice qj J.length cj, .int .i64 je, .int .i64 je, .slice none 0 0] W fun e w' => e = .returned (.bool true) ∧ Below W.heap.size W w') := fun W hW => intsAre_true J je _ _ W (IJ.out.below hW) (fun h => absurd h HJ0.out) (fun h => HJN.out h) ⟨_, _, _, rfl⟩
          have hs1 : ((3 : Int) == 3) = true := by simp
          have hs2 : (er0 == er0) = true := by simp
          clear RDL RDW IJ HJN HEN HJO HER0 hpm hn
          go_wp2_with fail
          go_region_held3 (fun W => W.cell? ⟨w.heap.size, 0, none⟩ = some (.slice pp p.length qp)) (go_keep)
            (first
              | (go_at_call 6; refine (verifyBegun_any _).mono ?_; rintro e wa ⟨rfl, hba⟩; have hBa : Below w5.heap.size w5 wa := (by first | exact hba | exact bthen ((Below.refl _ w5).drew) hba | exact bthen ((Below.refl _ w5).drew.drew) hba); have sa := (hBa.cell (p := ⟨w.heap.size, 0, none⟩) l5).trans cc5)
              | (go_at_call 10; refine (HSE.out _ (by first | exact hBa | exact hBa.drew | exact hBa.drew.drew)).mono ?_; rintro e wb ⟨rfl, hbb⟩; have hBb : Below w5.heap.size w5 wb := (by first | exact bthen hBa hbb | exact bthen hBa.drew hbb | exact bthen hBa.drew.drew hbb); have sb := (hBb.cell (p := ⟨w.heap.size, 0, none⟩) l5).trans cc5)
              | (go_at_call 20; refine (HVP.out _ (by first | exact bthen hb15 hBb | exact bthen hb15 hBb.drew | exact bthen hb15 hBb.drew.drew | exact bthen hb15 hBd | exact bthen hb15 hBd.drew | exact bthen hb15 hBd.drew.drew)).mono ?_; rintro e wc ⟨rfl, hbc⟩; have hBc : Below w5.heap.size w5 wc := (by first | exact bthen hBb hbc | exact bthen hBb.drew hbc | exact bthen hBb.drew.drew hbc | exact bthen hBd hbc | exact bthen hBd.drew hbc | exact bthen hBd.drew.drew hbc); have sc := (hBc.cell (p := ⟨w.heap.size, 0, none⟩) l5).trans cc5)
              | (go_at_call 21; refine (HCF.out _ (by first | exact bthen hb15 hBb | exact bthen hb15 hBb.drew | exact bthen hb15 hBb.drew.drew | exact bthen hb15 hBc | exact bthen hb15 hBc.drew | exact bthen hb15 hBc.drew.drew)).mono ?_; rintro e wd ⟨rfl, hbd⟩; have hBd : Below w5.heap.size w5 wd := (by first | exact bthen hBb hbd | exact bthen hBb.drew hbd | exact bthen hBb.drew.drew hbd | exact bthen hBc hbd | exact bthen hBc.drew hbd | exact bthen hBc.drew.drew hbd); have sd := (hBd.cell (p := ⟨w.heap.size, 0, none⟩) l5).trans cc5)
              | (go_at_call 22; refine (HIA.out _ (by first | exact hBc | exact hBc.drew | exact hBc.drew.drew | exact hBd | exact hBd.drew | exact hBd.drew.drew)).mono ?_; rintro e we ⟨rfl, hbe⟩; have hBe : Below w5.heap.size w5 we := (by first | exact bthen hBc hbe | exact bthen hBc.drew hbe | exact bthen hBc.drew.drew hbe | exact bthen hBd hbe | exact bthen hBd.drew hbe | exact bthen hBd.drew.drew hbe); have se := (hBe.cell (p := ⟨w.heap.size, 0, none⟩) l5).trans cc5))
          all_goals
            go_wp2
            go_ret
            exact ⟨rfl, bthen hb1 (bthen hb15 hBe)⟩
  · have hml := lt_of_at a3
    have h1 : ¬ (m : Int) < 0 := by omega
    have h2 : ¬ (m : Int) ≥ (p.length : Int) := by omega
    have HEO := hideP (HEN.out w5 m f hb15 a3 a1)
    have HLE := hideP a4
    rw [a1] at *
    clear a3 a4 a1 HFI hml
    rcases a5 with ⟨rfl, rfl, rfl⟩ | ⟨ee, rfl, rfl, hl⟩
    · go_wp2_with fail
      refine HEO.out.mono ?_
      rintro e w6 ⟨v6, ok6, r6, rfl, hl6, hok6, hrd6, hb6⟩
      obtain rfl := least_one HLE.out hl6
      have hok7 : ok6 = false := hok6
      clear hok6
      subst hok7
      obtain ⟨p6, c6, hv6⟩ := hrd6.shp
      have hv7 : v6 = .slice p6 0 c6 := hv6
      clear hv6
      subst hv7
      have RDL := hideP (RD5.out.below hb6)
      have IJ := hideP (IJ5.out.below hb6)
      have RDW := hideP (entsNil w6)
      have hb16 := bthen hb15 hb6
      clear hl6 hrd6 HLE HEO RD5 IJ5
      by_cases hje : je = 0
      · subst hje
        go_wp2_with fail
        refine (HJO.out _ hb16 (by trivial)).mono ?_
        rintro e w8 ⟨q8, c8, ok8, rfl, i8, hb8⟩
        have hb18 := bthen hb16 hb8
        have I8 := hideP i8
        have RDL := hideP (RDL.out.below hb8)
        have RDW := hideP (RDW.out.below hb8)
        have IJ := hideP (IJ.out.below hb8)
        clear i8
        have cc8 := (hb18.cell (p := ⟨w.heap.size, 0, none⟩) lx).trans c1
        have l8 : w.heap.size < w8.heap.size := Nat.lt_of_lt_of_le lx hb18.size
        have HSE : Hid (∀ W, Below w8.heap.size w8 W → Calls Tryz.prog 10 #[.slice pl 0 cl, .slice none 0 0] W fun e w' => e = .returned (.bool true) ∧ Below W.heap.size W w') := fun W hW => sameEntries_same [] _ _ W (RDL.out.below hW) (RDW.out.below hW)
        have HIA : Hid (∀ W, Below w8.heap.size w8 W → Calls Tryz.prog 22 #[.slice qj J.length cj, .int .i64 0, .int .i64 0, .slice q8 J.length c8] W fun e w' => e = .returned (.bool true) ∧ Below W.heap.size W w') := fun W hW => intsAre_true J 0 _ _ W (IJ.out.below hW) (fun _ => I8.out.below hW) (fun h => absurd rfl h) ⟨_, _, _, rfl⟩
        have hs1 : ((4 : Int) == 4) = true := by simp
        have hs2 : (er0 == er0) = true := by simp
        clear RDL RDW IJ HJN HEN HJO HER0 hpm hn
        go_wp2_with fail
        go_region_held3 (fun W => W.cell? ⟨w.heap.size, 0, none⟩ = some (.slice pp p.length qp)) (go_keep)
          (first
            | (go_at_call 6; refine (verifyBegun_any _).mono ?_; rintro e wa ⟨rfl, hba⟩; have hBa : Below w8.heap.size w8 wa := (by first | exact hba | exact bthen ((Below.refl _ w8).drew) hba | exact bthen ((Below.refl _ w8).drew.drew) hba); have sa := (hBa.cell (p := ⟨w.heap.size, 0, none⟩) l8).trans cc8)
            | (go_at_call 10; refine (HSE.out _ (by first | exact hBa | exact hBa.drew | exact hBa.drew.drew)).mono ?_; rintro e wb ⟨rfl, hbb⟩; have hBb : Below w8.heap.size w8 wb := (by first | exact bthen hBa hbb | exact bthen hBa.drew hbb | exact bthen hBa.drew.drew hbb); have sb := (hBb.cell (p := ⟨w.heap.size, 0, none⟩) l8).trans cc8)
            | (go_at_call 20; refine (HVP.out _ (by first | exact bthen hb18 hBb | exact bthen hb18 hBb.drew | exact bthen hb18 hBb.drew.drew | exact bthen hb18 hBd | exact bthen hb18 hBd.drew | exact bthen hb18 hBd.drew.drew)).mono ?_; rintro e wc ⟨rfl, hbc⟩; have hBc : Below w8.heap.size w8 wc := (by first | exact bthen hBb hbc | exact bthen hBb.drew hbc | exact bthen hBb.drew.drew hbc | exact bthen hBd hbc | exact bthen hBd.drew hbc | exact bthen hBd.drew.drew hbc); have sc := (hBc.cell (p := ⟨w.heap.size, 0, none⟩) l8).trans cc8)
            | (go_at_call 21; refine (HCF.out _ (by first | exact bthen hb18 hBb | exact bthen hb18 hBb.drew | exact bthen hb18 hBb.drew.drew | exact bthen hb18 hBc | exact bthen hb18 hBc.drew | exact bthen hb18 hBc.drew.drew)).mono ?_; rintro e wd ⟨rfl, hbd⟩; have hBd : Below w8.heap.size w8 wd := (by first | exact bthen hBb hbd | exact bthen hBb.drew hbd | exact bthen hBb.drew.drew hbd | exact bthen hBc hbd | exact bthen hBc.drew hbd | exact bthen hBc.drew.drew hbd); have sd := (hBd.cell (p := ⟨w.heap.size, 0, none⟩) l8).trans cc8)
            | (go_at_call 22; refine (HIA.out _ (by first | exact hBc | exact hBc.drew | exact hBc.drew.drew | exact hBd | exact hBd.drew | exact hBd.drew.drew)).mono ?_; rintro e we ⟨rfl, hbe⟩; have hBe : Below w8.heap.size w8 we := (by first | exact bthen hBc hbe | exact bthen hBc.drew hbe | exact bthen hBc.drew.drew hbe | exact bthen hBd hbe | exact bthen hBd.drew hbe | exact bthen hBd.drew.drew hbe); have se := (hBe.cell (p := ⟨w.heap.size, 0, none⟩) l8).trans cc8))
        all_goals
          go_wp2
          go_ret
          exact ⟨rfl, bthen hb1 (bthen hb18 hBe)⟩
      · have hjb : (je == 0) = false := by simp [hje]
        have HJ0 := hideP hje
        clear hje
        have cc6 := (hb16.cell (p := ⟨w.heap.size, 0, none⟩) lx).trans c1
        have l6 : w.heap.size < w6.heap.size := Nat.lt_of_lt_of_le lx hb16.size
        have HSE : Hid (∀ W, Below w6.heap.size w6 W → Calls Tryz.prog 10 #[.slice pl 0 cl, .slice none 0 0] W fun e w' => e = .returned (.bool true) ∧ Below W.heap.size W w') := fun W hW => sameEntries_same [] _ _ W (RDL.out.below hW) (RDW.out.below hW)
        have HIA : Hid (∀ W, Below w6.heap.size w6 W → Calls Tryz.prog 22 #[.slice qj J.length cj, .int .i64 je, .int .i64 je, .slice none 0 0] W fun e w' => e = .returned (.bool true) ∧ Below W.heap.size W w') := fun W hW => intsAre_true J je _ _ W (IJ.out.below hW) (fun h => absurd h HJ0.out) (fun h => HJN.out h) ⟨_, _, _, rfl⟩
        have hs1 : ((4 : Int) == 4) = true := by simp
        have hs2 : (er0 == er0) = true := by simp
        clear RDL RDW IJ HJN HEN HJO HER0 hpm hn
        go_wp2_with fail
        go_region_held3 (fun W => W.cell? ⟨w.heap.size, 0, none⟩ = some (.slice pp p.length qp)) (go_keep)
          (first
            | (go_at_call 6; refine (verifyBegun_any _).mono ?_; rintro e wa ⟨rfl, hba⟩; have hBa : Below w6.heap.size w6 wa := (by first | exact hba | exact bthen ((Below.refl _ w6).drew) hba | exact bthen ((Below.refl _ w6).drew.drew) hba); have sa := (hBa.cell (p := ⟨w.heap.size, 0, none⟩) l6).trans cc6)
            | (go_at_call 10; refine (HSE.out _ (by first | exact hBa | exact hBa.drew | exact hBa.drew.drew)).mono ?_; rintro e wb ⟨rfl, hbb⟩; have hBb : Below w6.heap.size w6 wb := (by first | exact bthen hBa hbb | exact bthen hBa.drew hbb | exact bthen hBa.drew.drew hbb); have sb := (hBb.cell (p := ⟨w.heap.size, 0, none⟩) l6).trans cc6)
            | (go_at_call 20; refine (HVP.out _ (by first | exact bthen hb16 hBb | exact bthen hb16 hBb.drew | exact bthen hb16 hBb.drew.drew | exact bthen hb16 hBd | exact bthen hb16 hBd.drew | exact bthen hb16 hBd.drew.drew)).mono ?_; rintro e wc ⟨rfl, hbc⟩; have hBc : Below w6.heap.size w6 wc := (by first | exact bthen hBb hbc | exact bthen hBb.drew hbc | exact bthen hBb.drew.drew hbc | exact bthen hBd hbc | exact bthen hBd.drew hbc | exact bthen hBd.drew.drew hbc); have sc := (hBc.cell (p := ⟨w.heap.size, 0, none⟩) l6).trans cc6)
            | (go_at_call 21; refine (HCF.out _ (by first | exact bthen hb16 hBb | exact bthen hb16 hBb.drew | exact bthen hb16 hBb.drew.drew | exact bthen hb16 hBc | exact bthen hb16 hBc.drew | exact bthen hb16 hBc.drew.drew)).mono ?_; rintro e wd ⟨rfl, hbd⟩; have hBd : Below w6.heap.size w6 wd := (by first | exact bthen hBb hbd | exact bthen hBb.drew hbd | exact bthen hBb.drew.drew hbd | exact bthen hBc hbd | exact bthen hBc.drew hbd | exact bthen hBc.drew.drew hbd); have sd := (hBd.cell (p := ⟨w.heap.size, 0, none⟩) l6).trans cc6)
            | (go_at_call 22; refine (HIA.out _ (by first | exact hBc | exact hBc.drew | exact hBc.drew.drew | exact hBd | exact hBd.drew | exact hBd.drew.drew)).mono ?_; rintro e we ⟨rfl, hbe⟩; have hBe : Below w6.heap.size w6 we := (by first | exact bthen hBc hbe | exact bthen hBc.drew hbe | exact bthen hBc.drew.drew hbe | exact bthen hBd hbe | exact bthen hBd.drew hbe | exact bthen hBd.drew.drew hbe); have se := (hBe.cell (p := ⟨w.heap.size, 0, none⟩) l6).trans cc6))
        all_goals
          go_wp2
          go_ret
          exact ⟨rfl, bthen hb1 (bthen hb16 hBe)⟩
    · have HLL := hideP hl
      clear hl
      go_wp2_with fail
      refine HEO.out.mono ?_
      rintro e w6 ⟨v6, ok6, r6, rfl, hl6, hok6, hrd6, hb6⟩
      obtain rfl := least_one HLE.out hl6
      have hok7 : ok6 = true := hok6
      clear hok6
      subst hok7
      have hle : entL f (some ee) = l := HLL.out.symm
      rw [hle] at hrd6
      obtain ⟨pw, cw, rfl⟩ := hrd6.shp
      have RDL := hideP (RD5.out.below hb6)
      have IJ := hideP (IJ5.out.below hb6)
      have RDW := hideP hrd6
      have hb16 := bthen hb15 hb6
      clear hl6 hrd6 HLE HEO RD5 IJ5 HLL hle
      by_cases hje : je = 0
      · subst hje
        go_wp2_with fail
        refine (HJO.out _ hb16 (by trivial)).mono ?_
        rintro e w8 ⟨q8, c8, ok8, rfl, i8, hb8⟩
        have hb18 := bthen hb16 hb8
        have I8 := hideP i8
        have RDL := hideP (RDL.out.below hb8)
        have RDW := hideP (RDW.out.below hb8)
        have IJ := hideP (IJ.out.below hb8)
        clear i8
        have cc8 := (hb18.cell (p := ⟨w.heap.size, 0, none⟩) lx).trans c1
        have l8 : w.heap.size < w8.heap.size := Nat.lt_of_lt_of_le lx hb18.size
        have HSE : Hid (∀ W, Below w8.heap.size w8 W → Calls Tryz.prog 10 #[.slice pl l.length cl, .slice pw l.length cw] W fun e w' => e = .returned (.bool true) ∧ Below W.heap.size W w') := fun W hW => sameEntries_same l _ _ W (RDL.out.below hW) (RDW.out.below hW)
        have HIA : Hid (∀ W, Below w8.heap.size w8 W → Calls Tryz.prog 22 #[.slice qj J.length cj, .int .i64 0, .int .i64 0, .slice q8 J.length c8] W fun e w' => e = .returned (.bool true) ∧ Below W.heap.size W w') := fun W hW => intsAre_true J 0 _ _ W (IJ.out.below hW) (fun _ => I8.out.below hW) (fun h => absurd rfl h) ⟨_, _, _, rfl⟩
        have hs1 : ((0 : Int) == 0) = true := by simp
        have hs2 : (er0 == er0) = true := by simp
        clear RDL RDW IJ HJN HEN HJO HER0 hpm hn
        go_wp2_with fail
        go_region_held3 (fun W => W.cell? ⟨w.heap.size, 0, none⟩ = some (.slice pp p.length qp)) (go_keep)
          (first
            | (go_at_call 6; refine (verifyBegun_any _).mono ?_; rintro e wa ⟨rfl, hba⟩; have hBa : Below w8.heap.size w8 wa := (by first | exact hba | exact bthen ((Below.refl _ w8).drew) hba | exact bthen ((Below.refl _ w8).drew.drew) hba); have sa := (hBa.cell (p := ⟨w.heap.size, 0, none⟩) l8).trans cc8)
            | (go_at_call 10; refine (HSE.out _ (by first | exact hBa | exact hBa.drew | exact hBa.drew.drew)).mono ?_; rintro e wb ⟨rfl, hbb⟩; have hBb : Below w8.heap.size w8 wb := (by first | exact bthen hBa hbb | exact bthen hBa.drew hbb | exact bthen hBa.drew.drew hbb); have sb := (hBb.cell (p := ⟨w.heap.size, 0, none⟩) l8).trans cc8)
            | (go_at_call 20; refine (HVP.out _ (by first | exact bthen hb18 hBb | exact bthen hb18 hBb.drew | exact bthen hb18 hBb.drew.drew | exact bthen hb18 hBd | exact bthen hb18 hBd.drew | exact bthen hb18 hBd.drew.drew)).mono ?_; rintro e wc ⟨rfl, hbc⟩; have hBc : Below w8.heap.size w8 wc := (by first | exact bthen hBb hbc | exact bthen hBb.drew hbc | exact bthen hBb.drew.drew hbc | exact bthen hBd hbc | exact bthen hBd.drew hbc | exact bthen hBd.drew.drew hbc); have sc := (hBc.cell (p := ⟨w.heap.size, 0, none⟩) l8).trans cc8)
            | (go_at_call 21; refine (HCF.out _ (by first | exact bthen hb18 hBb | exact bthen hb18 hBb.drew | exact bthen hb18 hBb.drew.drew | exact bthen hb18 hBc | exact bthen hb18 hBc.drew | exact bthen hb18 hBc.drew.drew)).mono ?_; rintro e wd ⟨rfl, hbd⟩; have hBd : Below w8.heap.size w8 wd := (by first | exact bthen hBb hbd | exact bthen hBb.drew hbd | exact bthen hBb.drew.drew hbd | exact bthen hBc hbd | exact bthen hBc.drew hbd | exact bthen hBc.drew.drew hbd); have sd := (hBd.cell (p := ⟨w.heap.size, 0, none⟩) l8).trans cc8)
            | (go_at_call 22; refine (HIA.out _ (by first | exact hBc | exact hBc.drew | exact hBc.drew.drew | exact hBd | exact hBd.drew | exact hBd.drew.drew)).mono ?_; rintro e we ⟨rfl, hbe⟩; have hBe : Below w8.heap.size w8 we := (by first | exact bthen hBc hbe | exact bthen hBc.drew hbe | exact bthen hBc.drew.drew hbe | exact bthen hBd hbe | exact bthen hBd.drew hbe | exact bthen hBd.drew.drew hbe); have se := (hBe.cell (p := ⟨w.heap.size, 0, none⟩) l8).trans cc8))
        all_goals
          go_wp2
          go_ret
          exact ⟨rfl, bthen hb1 (bthen hb18 hBe)⟩
      · have hjb : (je == 0) = false := by simp [hje]
        have HJ0 := hideP hje
        clear hje
        have cc6 := (hb16.cell (p := ⟨w.heap.size, 0, none⟩) lx).trans c1
        have l6 : w.heap.size < w6.heap.size := Nat.lt_of_lt_of_le lx hb16.size
        have HSE : Hid (∀ W, Below w6.heap.size w6 W → Calls Tryz.prog 10 #[.slice pl l.length cl, .slice pw l.length cw] W fun e w' => e = .returned (.bool true) ∧ Below W.heap.size W w') := fun W hW => sameEntries_same l _ _ W (RDL.out.below hW) (RDW.out.below hW)
        have HIA : Hid (∀ W, Below w6.heap.size w6 W → Calls Tryz.prog 22 #[.slice qj J.length cj, .int .i64 je, .int .i64 je, .slice none 0 0] W fun e w' => e = .returned (.bool true) ∧ Below W.heap.size W w') := fun W hW => intsAre_true J je _ _ W (IJ.out.below hW) (fun h => absurd h HJ0.out) (fun h => HJN.out h) ⟨_, _, _, rfl⟩
        have hs1 : ((0 : Int) == 0) = true := by simp
        have hs2 : (er0 == er0) = true := by simp
        clear RDL RDW IJ HJN HEN HJO HER0 hpm hn
        go_wp2_with fail
        go_region_held3 (fun W => W.cell? ⟨w.heap.size, 0, none⟩ = some (.slice pp p.length qp)) (go_keep)
          (first
            | (go_at_call 6; refine (verifyBegun_any _).mono ?_; rintro e wa ⟨rfl, hba⟩; have hBa : Below w6.heap.size w6 wa := (by first | exact hba | exact bthen ((Below.refl _ w6).drew) hba | exact bthen ((Below.refl _ w6).drew.drew) hba); have sa := (hBa.cell (p := ⟨w.heap.size, 0, none⟩) l6).trans cc6)
            | (go_at_call 10; refine (HSE.out _ (by first | exact hBa | exact hBa.drew | exact hBa.drew.drew)).mono ?_; rintro e wb ⟨rfl, hbb⟩; have hBb : Below w6.heap.size w6 wb := (by first | exact bthen hBa hbb | exact bthen hBa.drew hbb | exact bthen hBa.drew.drew hbb); have sb := (hBb.cell (p := ⟨w.heap.size, 0, none⟩) l6).trans cc6)
            | (go_at_call 20; refine (HVP.out _ (by first | exact bthen hb16 hBb | exact bthen hb16 hBb.drew | exact bthen hb16 hBb.drew.drew | exact bthen hb16 hBd | exact bthen hb16 hBd.drew | exact bthen hb16 hBd.drew.drew)).mono ?_; rintro e wc ⟨rfl, hbc⟩; have hBc : Below w6.heap.size w6 wc := (by first | exact bthen hBb hbc | exact bthen hBb.drew hbc | exact bthen hBb.drew.drew hbc | exact bthen hBd hbc | exact bthen hBd.drew hbc | exact bthen hBd.drew.drew hbc); have sc := (hBc.cell (p := ⟨w.heap.size, 0, none⟩) l6).trans cc6)
            | (go_at_call 21; refine (HCF.out _ (by first | exact bthen hb16 hBb | exact bthen hb16 hBb.drew | exact bthen hb16 hBb.drew.drew | exact bthen hb16 hBc | exact bthen hb16 hBc.drew | exact bthen hb16 hBc.drew.drew)).mono ?_; rintro e wd ⟨rfl, hbd⟩; have hBd : Below w6.heap.size w6 wd := (by first | exact bthen hBb hbd | exact bthen hBb.drew hbd | exact bthen hBb.drew.drew hbd | exact bthen hBc hbd | exact bthen hBc.drew hbd | exact bthen hBc.drew.drew hbd); have sd := (hBd.cell (p := ⟨w.heap.size, 0, none⟩) l6).trans cc6)
            | (go_at_call 22; refine (HIA.out _ (by first | exact hBc | exact hBc.drew | exact hBc.drew.drew | exact hBd | exact hBd.drew | exact hBd.drew.drew)).mono ?_; rintro e we ⟨rfl, hbe⟩; have hBe : Below w6.heap.size w6 we := (by first | exact bthen hBc hbe | exact bthen hBc.drew hbe | exact bthen hBc.drew.drew hbe | exact bthen hBd hbe | exact bthen hBd.drew hbe | exact bthen hBd.drew.drew hbe); have se := (hBe.cell (p := ⟨w.heap.size, 0, none⟩) l6).trans cc6))
        all_goals
          go_wp2
          go_ret
          exact ⟨rfl, bthen hb1 (bthen hb16 hBe)⟩
set_option maxRecDepth 100000 in
theorem lifted (os : Os) (started : os.Started) (H : Type) (enc : TypeId × Value → H) :
    ReturnsInHanded {} Tryz.checked os 5 .any (Rows.verifyTellsSpec.pre6 enc Tryz.prog Tryz.f5 Rows.verifyTellsRow.domain false) (Rows.verifyTellsSpec.post enc Tryz.prog Tryz.f5 false true false false) := by
  refine returnsInHanded_of_change_sized (C := Tryz.checked) own started (by kernel_rfl) Tryz.func5
    (ChangeSpec.witness6 (enc := enc) (C := Tryz.checked) false ⟨#[], #[.agg #[.slice none 0 0], .int .i64 0, .slice none 0 0, .slice none 0 0], []⟩ 8 (by kernel_rfl) (by kernel_rfl) (by kernel_rfl) (by kernel_rfl)) ?_
  intro W base args ds gs before hval0 hW hcnd hsz0 hholds
  have hval : ∀ (j : Nat) t v, Tryz.f5.params[j]? = some t → args[j]? = some v → Value.okWide Tryz.prog W .any base t v := hval0
  have hsz : (DataW.weightsEach Tryz.prog (Tryz.f5.params.toList ++ Rows.verifyTellsSpec.plain.varTypes Tryz.prog) (ds ++ gs)).all (· ≤ reachBytes) = true := hsz0
  have hW' := hW
  obtain ⟨p, q, hA0, hV, rfl, hfz, hnd⟩ := hW
  have hA : DataW.TrodAll enc Tryz.prog W 0 (fun _ => true) true Tryz.f5.params.toList args.toList ds p := hA0
  rw [Tryz.params5] at hA hval hsz
  obtain ⟨v0, vs0, d0, ds0, p0, q0, hargs, rfl, rfl, h0, r0⟩ := trodAll_cons hA
  obtain ⟨v1, vs1, d1, ds1, p1, q1, rfl, rfl, rfl, h1, r1⟩ := trodAll_cons r0
  obtain ⟨v2, vs2, d2, ds2, p2, q2, rfl, rfl, rfl, h2, r2⟩ := trodAll_cons r1
  obtain ⟨v3, vs3, d3, ds3, p3, q3, rfl, rfl, rfl, h3, r3⟩ := trodAll_cons r2
  obtain ⟨rfl, rfl, rfl⟩ := trodAll_nil r3
  obtain rfl : args = #[v0, v1, v2, v3] := by cases args; simp_all
  obtain ⟨rfl, rfl⟩ := trodVars_none hV
  have k0 := h0
  have k1 := h1
  have k2 := h2
  have k3 := h3
  have lt0 : ∀ x ∈ p0, x.block < W.heap.size := by obtain ⟨m, hm⟩ := k0; exact DataW.trod_lt m _ _ _ hm
  have lt1 : ∀ x ∈ p1, x.block < W.heap.size := by obtain ⟨m, hm⟩ := k1; exact DataW.trod_lt m _ _ _ hm
  have lt2 : ∀ x ∈ p2, x.block < W.heap.size := by obtain ⟨m, hm⟩ := k2; exact DataW.trod_lt m _ _ _ hm
  have lt3 : ∀ x ∈ p3, x.block < W.heap.size := by obtain ⟨m, hm⟩ := k3; exact DataW.trod_lt m _ _ _ hm
  have hw0 : ∀ n ∈ d0.weights Tryz.prog 24, n ≤ reachBytes := fun n hn => by have := List.all_eq_true.1 hsz n (DataW.weights_mem_each (j := 0) rfl rfl n hn); simpa using this
  obtain ⟨c0, l0, rfl, hl0⟩ := open_progC (hval 0 24 v0 rfl rfl) h0 hw0
  obtain ⟨x1, rfl, hd1, hp1, wx1⟩ := open_int Tryz.underlying3 (hval 1 3 v1 rfl rfl) h1
  have hx1 : -9223372036854775808 ≤ x1 ∧ x1 ≤ 9223372036854775807 := by simpa [Lit.wf, IntKind.min, IntKind.max, IntKind.bits, IntKind.signed] using wx1
  obtain ⟨l2, hl2⟩ := open_intsV (okWide_slice Tryz.underlying25 (hval 2 25 v2 rfl rfl)) h2
  obtain ⟨l3, hl3⟩ := open_intsV (okWide_slice Tryz.underlying25 (hval 3 25 v3 rfl rfl)) h3
  clear hA0 hval0 hsz0
  refine (walk W l0 c0 hl0 x1 hx1 l2 v2 hl2 l3 v3 hl3).mono fun e W' ⟨he, bel⟩ => ?_
  subst he
  exact ⟨_, rfl, _, _, _, [], _, [], hW', trodAll_mk1 (shut_bool Tryz.underlying4 _), (trodAll_cons_mk (Below.trod laidOut (by kernel_rfl) (of_decide_eq_true (by kernel_rfl)) k0 bel lt0) (trodAll_cons_mk (Below.trod laidOut (by kernel_rfl) (of_decide_eq_true (by kernel_rfl)) k1 bel lt1) (trodAll_cons_mk (Below.trod laidOut (by kernel_rfl) (of_decide_eq_true (by kernel_rfl)) k2 bel lt2) (trodAll_cons_mk (Below.trod laidOut (by kernel_rfl) (of_decide_eq_true (by kernel_rfl)) k3 bel lt3) trodAll_mk0)))), rfl, bel.frame _, fun h => by cases h⟩
theorem over : Rows.verifyTellsRow.holds Tryz.pinned (OpenSpec.ofChange Rows.verifyTellsSpec) :=
  OpenClaim.holds_of_wide 5 Tryz.f5 rfl rfl rfl rfl rfl rfl rfl ⟨rfl, rfl, rfl, rfl, rfl⟩ rfl rfl rfl rfl rfl (by kernel_rfl) Tryz.func5 (by kernel_rfl)
    (of_decide_eq_true (by kernel_rfl)) (by unfold Func.isWrapper; first | (rw [if_pos (by decide +kernel)]; kernel_rfl) | (rw [if_neg (by decide +kernel)]; exact ⟨rfl, rfl⟩))
    (fun os started H enc _ => lifted os started H enc)
end Go.Proofs.YtgmkmlenhhhgkaaGreat.verifyTells
namespace Go.Proofs.YtgmkmlenhhhgkaaGreat
/-- For every input the law VerifyTells returns true, and the arguments read as they did. -/
theorem verifyTells_holds : Rows.VerifyTellsSaid := verifyTells.over
end Go.Proofs.YtgmkmlenhhhgkaaGreat

