/- My texts Rb Rc, joined. -/
import Derived.Deep.Cut
import Derived.Test.YtcadpoknolefpaaGreatU9
import Derived.Test.YtcadpoknolefpaaGreatU18
/- The reference's TryOp. -/
namespace Go.Proofs.YtcadpoknolefpaaGreat
open Go.RowKit
set_option linter.unusedSimpArgs false
set_option linter.unusedVariables false
/-- what TryOp answers. -/
def TryP (p : List Fn) (f : Fn) (o : Int × Int) (s : List Int) (w : World) (e : Ending) (w' : World) : Prop := ∃ u r ok, e = .returned (.tuple #[u, .bool ok]) ∧ w'.ownsRow w.heap.size 3 1 u r.length (r.map (Value.int .i64)) ∧ tryOp p f o s = (if ok = true then some r else none) ∧ Below w.heap.size w w'
theorem three_new (w : World) (a b c : Obj) : (((w.alloc a).alloc b).alloc c).heap[w.heap.size]? = some a ∧ (((w.alloc a).alloc b).alloc c).heap[w.heap.size + 1]? = some b ∧ (((w.alloc a).alloc b).alloc c).heap[w.heap.size + 1 + 1]? = some c := by
  refine ⟨heap_old (heap_old (World.alloc_heap_new w a) _) _, heap_old (new_two w a b) _, ?_⟩
  have := World.alloc_heap_new ((w.alloc a).alloc b) c
  simpa using this
theorem three_below (w : World) (a b c : Obj) : Below w.heap.size w (((w.alloc a).alloc b).alloc c) := (((Below.refl _ w).alloc (Nat.le_refl _) _).alloc (by simp) _).alloc (by simp; omega) _
set_option maxRecDepth 100000 in
set_option maxHeartbeats 4000000 in
theorem tryX_any (c a : Int) (p : List Fn) (f : Fn) (s : List Int) (vs pv c0 c1 c2 c3 : Value) (w : World) (h8 : s.length ≤ 8) (hvs : IntsAt w vs s) (hnil : NilOk vs) (hcap : ∀ p n c, vs = .slice p n c → n ≤ c) (hp : FnsAt w pv p) (hcp : CapAt w pv) (hf : FnAt w c0 c1 c2 c3 f) (ho : OkOp p f (c, a)) (n2 : c ≠ 2) (n3 : c ≠ 3) (n4 : c ≠ 4) (n12 : c ≠ 12) (n13 : c ≠ 13) : Calls Tryz.prog 90 #[.agg #[pv], .agg #[c0, c1, c2, c3], .agg #[.int .i64 c, .int .i64 a], vs] w (TryP p f (c, a) s w) := by
  obtain ⟨P, L, r, C⟩ := f
  obtain ⟨rfl, hI, rfl, hO⟩ := id hf
  simp only at hI hO
  obtain ⟨p1, q1, rfl, _, hLc⟩ := id hI
  obtain ⟨p3, q3, rfl, _, _⟩ := id hO
  obtain ⟨pp, qp, rfl, _, hpc⟩ := id hp
  obtain ⟨ps, cs, rfl, _, _⟩ := id hvs
  have hcs : s.length ≤ cs := hcap _ _ _ rfl
  obtain ⟨W3, hW3⟩ : ∃ W3, ((w.alloc (.cells #[.slice pp p.length qp] 24)).alloc (.cells #[.int .i64 P, .slice p1 L.length q1, .int .i64 r, .slice p3 C.length q3] 78)).alloc (.cells #[.int .i64 c, .int .i64 a] 43) = W3 := ⟨_, rfl⟩
  have b3 : Below w.heap.size w W3 := by rw [← hW3]; exact three_below w _ _ _
  have x0 : W3.heap[w.heap.size]? = some (.cells #[.slice pp p.length qp] 24 (0, 0)) := by rw [← hW3]; exact (three_new w _ _ _).1
  have x1 : W3.heap[w.heap.size + 1]? = some (.cells #[.int .i64 P, .slice p1 L.length q1, .int .i64 r, .slice p3 C.length q3] 78 (0, 0)) := by rw [← hW3]; exact (three_new w _ _ _).2.1
  have x2 : W3.heap[w.heap.size + 1 + 1]? = some (.cells #[.int .i64 c, .int .i64 a] 43 (0, 0)) := by rw [← hW3]; exact (three_new w _ _ _).2.2
  have k0 := cell_at' x0 0
  have f0 := cell_at' x1 0
  have f1 := cell_at' x1 1
  have f2 := cell_at' x1 2
  have f3 := cell_at' x1 3
  have o0 := cell_at' x2 0
  have o1 := cell_at' x2 1
  simp at k0 f0 f1 f2 f3 o0 o1
  have lx0 := heap_lt x0
  have lx1 := heap_lt x1
  have lx2 := heap_lt x2
  have HSw := hideP hvs
  have HNS := hideP hnil
  have HP3 := hideP (hp.below b3)
  have HC3 := hideP (hcp.below hp b3)
  have HI3 := hideP (hI.below b3)
  have HOK := hideP ho
  have m2 : (c == 2) = false := by simp [n2]
  have m3 : (c == 3) = false := by simp [n3]
  have m4 : (c == 4) = false := by simp [n4]
  have m12 : (c == 12) = false := by simp [n12]
  have m13 : (c == 13) = false := by simp [n13]
  obtain ⟨loc, hloc, htl⟩ : ∃ loc : Int, (((c == 8) = true ∨ (c == 9) = true) → (0 ≤ a ∧ a < (L.length : Int)) ∧ L[a.toNat]? = some loc) ∧ ((c == 8) = false → (c == 9) = false → loc = 0) ∧ takesLeaves p (P, L, r, C) (c, a) s = some (withLocal loc (plainTL c).1, withLocal loc (plainTL c).2) := by
    by_cases h89 : c = 8 ∨ c = 9
    · have hr := ho.loc h89
      simp only at hr
      obtain ⟨loc, hl⟩ := at_of_lt (l := L) (k := a.toNat) (by omega)
      refine ⟨loc, fun _ => ⟨hr, hl⟩, fun h1 h2 => by simp at h1 h2; omega, ?_⟩
      unfold takesLeaves
      simp only [n2, n3, n4, n12, n13, if_false]
      rw [List.getD_eq_getElem?_getD, hl]; rfl
    · refine ⟨0, fun h => by simp at h; exact absurd h h89, fun _ _ => rfl, ?_⟩
      unfold takesLeaves
      simp only [n2, n3, n4, n12, n13, if_false]
      have hno : ∀ x, (withLocal x (plainTL c).1 = withLocal 0 (plainTL c).1) ∧ withLocal x (plainTL c).2 = withLocal 0 (plainTL c).2 := fun x => by
        have hn0 : (∀ y ∈ (plainTL c).1, y ≠ 0) ∧ ∀ y ∈ (plainTL c).2, y ≠ 0 := by
          have n8 : c ≠ 8 := fun h => h89 (.inl h)
          have n9 : c ≠ 9 := fun h => h89 (.inr h)
          unfold plainTL
          simp only [n8, n9, if_false]
          repeat' split
          all_goals simp
        exact ⟨List.map_congr_left fun y hy => by simp [hn0.1 y hy], List.map_congr_left fun y hy => by simp [hn0.2 y hy]⟩
      rw [(hno _).1, (hno _).2]
  obtain ⟨hl0, htl⟩ := htl
  have hpl : (plainTL c).1.length ≤ 3 ∧ (plainTL c).2.length ≤ 3 := by
    unfold plainTL
    repeat' split
    all_goals simp
  have HLOC := hideP hloc
  have HL0 := hideP hl0
  have HTLV := hideP htl
  have HPL := hideP hpl
  clear n2 n3 n4 n12 n13 hloc hl0 htl ho hvs hnil hcap hp hcp hf hI hO hLc hpc x0 x1 x2 hpl
  have HCELL : Hid (((c == 8) = true ∨ (c == 9) = true) → ∃ b off, p1 = some ⟨b, off, none⟩ ∧ W3.cell? ⟨b, off + a.toNat, none⟩ = some (.int .i64 loc)) := fun h => by
    obtain ⟨_, hl⟩ := HLOC.out h
    obtain ⟨p', q', e', _, hc'⟩ := HI3.out
    cases e'
    obtain ⟨b, off, hb, _, g⟩ := hc' _ _ hl
    exact ⟨b, off, hb, g⟩
  have main : ∀ (K : Prop), K → K := fun _ h => h
  cases m8 : (c == 8)
  · cases m9 : (c == 9)
    · have hloc0 := HL0.out m8 m9
      subst hloc0
      go_enter Tryz.func90, Tryz.ntmps90
      go_wp2_with fail
      refine (plainOf_any c _).mono ?_
      rintro e wA ⟨A, B, rfl, hA, hB, hwA⟩
      have hwA := hwA.symm
      subst hwA
      go_wp2_with fail
      refine (typesOf_any A _ 0 _ hA).mono ?_
      rintro e w4 ⟨u4, rfl, r4, b4⟩
      obtain ⟨p4, q4, hu4⟩ := row_shp r4
      subst hu4
      go_wp2_with fail
      refine (typesOf_any B _ 0 _ hB).mono ?_
      rintro e wT ⟨u5, rfl, r5, b5⟩
      obtain ⟨p5, q5, hu5⟩ := row_shp r5
      subst hu5
      have bT : Below w.heap.size w wT := bthen0 b3 (bthen0 b4 b5)
      have HT := hideP ((intsAt_of_row rfl r4).below b5)
      have HLV := hideP (intsAt_of_row rfl r5)
      have HNL := hideP (nilOk_row r5)
      have hl8 : (withLocal 0 (plainTL c).2).length ≤ 3 := by have := HPL.out.2; simpa [withLocal] using this
      have ht8 : (withLocal 0 (plainTL c).1).length ≤ 3 := by have := HPL.out.1; simpa [withLocal] using this
      clear r4 r5 hA hB b4 b5 HPL HLOC HL0 HCELL main
      generalize withLocal 0 (plainTL c).1 = t at *
      generalize withLocal 0 (plainTL c).2 = l at *
      have HTM := hideP (rfl : t.length = t.length)
      by_cases hle : t.length ≤ s.length
      · have hlei : ¬ ((s.length : Int) < ((t.length : Nat) : Int)) := by omega
        have hled : decide ((s.length : Int) < ((t.length : Nat) : Int)) = false := by simp; omega
        have hled2 : decide (s.length < t.length) = false := by simp; omega
        have htd : t.length = t.length := HTM.out
        obtain ⟨d, hd⟩ : ∃ d : Nat, s.length = d + t.length := ⟨s.length - t.length, by omega⟩
        have HD := hideP hd
        have hdi : (s.length : Int) - ((t.length : Nat) : Int) = (d : Int) := by omega
        have hd8 : d ≤ 8 := by omega
        have HTD := hideP htd
        clear hd htd
        go_wp2
        go_loopw [17] (fun v17 wr => ∃ k : Nat, k ≤ t.length ∧ v17 = .int .i64 k ∧ leS ((s.drop d).take k) (t.take k) = true ∧ Below wT.heap.size wT wr) (fun v17 _ => t.length - (intOf v17).toNat)
        case atStart => exact ⟨0, Nat.zero_le _, rfl, by simp [leS], Below.refl _ _⟩
        case round =>
          rename World => wr
          obtain ⟨k, hk, rfl, hle2, bR⟩ := hrel
          have HLE := hideP hle2
          clear hle2
          have bWR := bthen0 bT bR
          by_cases hkt : k < t.length
          · have hkti : (k : Int) < ((t.length : Nat) : Int) := by omega
            obtain ⟨y, hy⟩ := at_of_lt (l := t) (k := k) (by have := HTD.out; omega)
            obtain ⟨x, hx⟩ := at_of_lt (l := s) (k := d + k) (by have := HD.out; omega)
            obtain ⟨p1, q1, e1, _, g1⟩ := HSw.out.below bWR
            obtain ⟨p2, q2, e2, _, g2⟩ := HT.out.below bR
            cases e1
            cases e2
            obtain ⟨ba, oa, hpa, _, ga⟩ := g1 (d + k) x hx
            obtain ⟨bb, ob, hpb, _, gb⟩ := g2 k y hy
            subst hpa
            subst hpb
            have hdk : (d : Int) + (k : Int) = ((d + k : Nat) : Int) := by omega
            have hdk1 : ((d + k : Nat) : Int) < (s.length : Int) := by have := HD.out; omega
            have hdk2 : (d : Int) + (k : Int) < (s.length : Int) := by omega
            have hwk : IntKind.i64.wrap ((d : Int) + (k : Int)) = (d : Int) + (k : Int) := by rw [IntKind.wrap_i64]; omega
            have hwd : IntKind.i64.wrap (d : Int) = (d : Int) := by rw [IntKind.wrap_i64]; omega
            have htn : ((d : Int) + (k : Int)).toNat = d + k := by omega
            have hdk3 : (0 : Int) ≤ (d : Int) + (k : Int) := by omega
            have hwk2 : IntKind.i64.wrap ((s.length : Int) - ((t.length : Nat) : Int)) = (d : Int) := by rw [IntKind.wrap_i64]; omega
            have hk0 : (0 : Int) ≤ (k : Int) := by omega
            have hd0 : (0 : Int) ≤ (d : Int) := by omega
            have hix : decide ((0 : Int) ≤ (d : Int) + (k : Int) ∧ (d : Int) + (k : Int) < (s.length : Int)) = true := by simp; omega
            have hst2 : leS ((s.drop d).take (k + 1)) (t.take (k + 1)) = (leS ((s.drop d).take k) (t.take k) && standsB x y) := by
              have hx2 : (s.drop d)[k]? = some x := by rw [List.getElem?_drop]; exact hx
              rw [take_snoc _ k x hx2, take_snoc _ k y hy]
              exact leS_snoc (by simp only [List.length_take, List.length_drop]; have := HD.out; have := HTD.out; omega)
            have HST2 := hideP hst2
            have HY := hideP hy
            clear g1 g2 hx hy hst2 hdk
            have D1 : Hid (∀ W : World, Calls Tryz.prog 134 #[.int .i64 x, .int .i64 y] W fun e w' => e = .returned (.bool (standsB x y)) ∧ w' = W) := fun W => standR_any x y W
            cases hsb : standsB x y
            · rw [hsb] at D1
              go_wp2_with fail
              go_region_held3 (fun W => W.cell? ⟨ba, oa + (d + k), none⟩ = some (.int .i64 x) ∧ W.cell? ⟨bb, ob + k, none⟩ = some (.int .i64 y)) (go_keep)
                (first
                | (go_at_call 134; refine (D1.out _).mono ?_; rintro e wq ⟨rfl, hwq⟩; have hwq := hwq.symm; subst hwq))
              go_wp2
              go_ret2
              refine ⟨_, [], false, rfl, World.ownsRow_nil _ _ _ _, ?_, bWR.trans ⟨rfl, rfl, rfl, Nat.le_refl _, fun _ _ => rfl⟩⟩
              rw [tl_of HTLV.out h8, if_neg]
              · rfl
              · intro h
                have h1 := h.1
                unfold fitsS at h1
                rw [Bool.and_eq_true] at h1
                have h2 := leS_take (k + 1) h1.2
                have hdd : s.length - t.length = d := by have := HD.out; have := HTD.out; omega
                rw [hdd] at h2
                rw [HST2.out, hsb] at h2
                simp at h2
            · rw [hsb] at D1
              go_wp2_with fail
              go_region_held3 (fun W => W.cell? ⟨ba, oa + (d + k), none⟩ = some (.int .i64 x) ∧ W.cell? ⟨bb, ob + k, none⟩ = some (.int .i64 y)) (go_keep)
                (first
                | (go_at_call 134; refine (D1.out _).mono ?_; rintro e wq ⟨rfl, hwq⟩; have hwq := hwq.symm; subst hwq))
              go_wp2
              go_roundw
              case rel => exact ⟨k + 1, by omega, by go_num, by rw [HST2.out, HLE.out, hsb]; rfl, bR.trans ⟨rfl, rfl, rfl, Nat.le_refl _, fun _ _ => rfl⟩⟩
              case measure => simp [intOf]; omega
          · have hkti : ¬ (k : Int) < ((t.length : Nat) : Int) := by omega
            have hfit : fitsS s t = true := by
              have h1 := HLE.out
              have h2 := HD.out
              have h3 := HTD.out
              rw [List.take_of_length_le (by simp; omega), List.take_of_length_le (by omega)] at h1
              unfold fitsS
              rw [show s.length - t.length = d by omega, h1]
              simp; omega
            have HFIT := hideP hfit
            have hbA := (Below.refl wr.heap.size wr).alloc (Nat.le_refl _) (.cells #[] 3)
            have hmade := World.ownsRow_made (base := wr.heap.size) (e := 3) (size := 1) wr #[] 0 (Nat.le_refl _) (by unfold maxLen; omega) rfl
            have HMADE := hideP hmade
            have hpre := ints_take (k := d) ((HSw.out.below bWR).below hbA) (by have := HD.out; omega)
            have hdl : (s.take d).length = d := by rw [List.length_take]; have := HD.out; omega
            rw [← hdl] at hpre
            have HPRE := hideP hpre
            have HDL := hideP hdl
            have hdn : NilOk (.slice ps d cs) := fun a c h => by cases h; exact HNS.out _ _ rfl
            have HDN := hideP hdn
            have hdc : d ≤ cs := by have := HD.out; omega
            have HLR := hideP (HLV.out.below bR)
            clear hfit hmade hpre hdl hdn
            go_wp2_with (first
              | (at_builtin; refine wpList_append_ints rfl _ _ rfl wr.heap.size _ _ _ rfl HMADE.out (.slice ps d cs) (s.take d) rfl (by have := HPRE.out; rw [HDL.out] at this; exact this) HDN.out (by rw [HDL.out]; unfold maxLen; omega) (by rw [HDL.out]; omega) (by simp) ?_; intro v6 w6 hown6 hg6; rw [HDL.out] at hown6; simp only [Nat.zero_add, List.nil_append] at hown6; have b6 : Below wr.heap.size wr w6 := (hbA.grown hg6 (by simp) (fun j hj => (HMADE.out.lt j hj).1)); obtain ⟨p7, c7, hv7⟩ := row_shp hown6; subst hv7; have HOWN6 := hideP hown6; have HL6 := hideP (HLR.out.below b6); have s6 := b6.size; clear hown6)
              | (at_builtin; refine wpList_append_ints rfl _ _ rfl wr.heap.size _ _ _ rfl HOWN6.out _ l rfl HL6.out HNL.out (by unfold maxLen; omega) (by omega) (by omega) ?_; intro v9 w9 hown9 hg9; obtain ⟨p9, c9, hv9⟩ := row_shp hown9; subst hv9; have HOWN9 := hideP hown9; clear hown9))
            go_ret2
            have hb9 : Below wr.heap.size wr w9 := b6.grown hg9 s6 (fun j hj => (HOWN6.out.lt j hj).1)
            have hrl : (s.take d ++ l).length = d + l.length := by rw [List.length_append, HDL.out]
            refine ⟨.slice p9 (d + l.length) c9, s.take d ++ l, decide ((s.take d ++ l).length ≤ 8), ?_, ?_, ?_, bthen0 bWR hb9⟩
            · rw [hrl]
              congr 1
              simp
              omega
            · rw [hrl, List.map_append]
              exact row_low HOWN9.out bWR.size
            · rw [tl_of HTLV.out h8, show s.length - t.length = d by have := HD.out; have := HTD.out; omega]
              by_cases hc : (s.take d ++ l).length ≤ 8
              · rw [if_pos ⟨HFIT.out, hc⟩, decide_eq_true hc]; rfl
              · rw [if_neg (fun h => hc h.2), decide_eq_false hc]; rfl
      · have hlei : (s.length : Int) < ((t.length : Nat) : Int) := by omega
        go_wp2
        go_ret2
        refine ⟨_, [], false, rfl, World.ownsRow_nil _ _ _ _, ?_, bT⟩
        rw [tl_of HTLV.out h8, if_neg]
        · rfl
        · intro h
          have h1 := h.1
          unfold fitsS at h1
          simp at h1
          have := HTM.out
          omega
    · obtain ⟨b, off, hb, gl⟩ := HCELL.out (.inr m9)
      obtain ⟨⟨ha0, ha1⟩, -⟩ := HLOC.out (.inr m9)
      subst hb
      obtain ⟨an, rfl⟩ : ∃ an : Nat, a = an := ⟨a.toNat, by omega⟩
      simp only [Int.toNat_natCast] at gl
      go_enter Tryz.func90, Tryz.ntmps90
      go_wp2_with fail
      refine (plainOf_any c _).mono ?_
      rintro e wA ⟨A, B, rfl, hA, hB, hwA⟩
      have hwA := hwA.symm
      subst hwA
      go_wp2_with fail
      refine (typesOf_any A _ loc _ hA).mono ?_
      rintro e w4 ⟨u4, rfl, r4, b4⟩
      obtain ⟨p4, q4, hu4⟩ := row_shp r4
      subst hu4
      go_wp2_with fail
      refine (typesOf_any B _ loc _ hB).mono ?_
      rintro e wT ⟨u5, rfl, r5, b5⟩
      obtain ⟨p5, q5, hu5⟩ := row_shp r5
      subst hu5
      have bT : Below w.heap.size w wT := bthen0 b3 (bthen0 b4 b5)
      have HT := hideP ((intsAt_of_row rfl r4).below b5)
      have HLV := hideP (intsAt_of_row rfl r5)
      have HNL := hideP (nilOk_row r5)
      have hl8 : (withLocal loc (plainTL c).2).length ≤ 3 := by have := HPL.out.2; simpa [withLocal] using this
      have ht8 : (withLocal loc (plainTL c).1).length ≤ 3 := by have := HPL.out.1; simpa [withLocal] using this
      clear r4 r5 hA hB b4 b5 HPL HLOC HL0 HCELL main
      generalize withLocal loc (plainTL c).1 = t at *
      generalize withLocal loc (plainTL c).2 = l at *
      have HTM := hideP (rfl : t.length = t.length)
      by_cases hle : t.length ≤ s.length
      · have hlei : ¬ ((s.length : Int) < ((t.length : Nat) : Int)) := by omega
        have hled : decide ((s.length : Int) < ((t.length : Nat) : Int)) = false := by simp; omega
        have hled2 : decide (s.length < t.length) = false := by simp; omega
        have htd : t.length = t.length := HTM.out
        obtain ⟨d, hd⟩ : ∃ d : Nat, s.length = d + t.length := ⟨s.length - t.length, by omega⟩
        have HD := hideP hd
        have hdi : (s.length : Int) - ((t.length : Nat) : Int) = (d : Int) := by omega
        have hd8 : d ≤ 8 := by omega
        have HTD := hideP htd
        clear hd htd
        go_wp2
        go_loopw [17] (fun v17 wr => ∃ k : Nat, k ≤ t.length ∧ v17 = .int .i64 k ∧ leS ((s.drop d).take k) (t.take k) = true ∧ Below wT.heap.size wT wr) (fun v17 _ => t.length - (intOf v17).toNat)
        case atStart => exact ⟨0, Nat.zero_le _, rfl, by simp [leS], Below.refl _ _⟩
        case round =>
          rename World => wr
          obtain ⟨k, hk, rfl, hle2, bR⟩ := hrel
          have HLE := hideP hle2
          clear hle2
          have bWR := bthen0 bT bR
          by_cases hkt : k < t.length
          · have hkti : (k : Int) < ((t.length : Nat) : Int) := by omega
            obtain ⟨y, hy⟩ := at_of_lt (l := t) (k := k) (by have := HTD.out; omega)
            obtain ⟨x, hx⟩ := at_of_lt (l := s) (k := d + k) (by have := HD.out; omega)
            obtain ⟨p1, q1, e1, _, g1⟩ := HSw.out.below bWR
            obtain ⟨p2, q2, e2, _, g2⟩ := HT.out.below bR
            cases e1
            cases e2
            obtain ⟨ba, oa, hpa, _, ga⟩ := g1 (d + k) x hx
            obtain ⟨bb, ob, hpb, _, gb⟩ := g2 k y hy
            subst hpa
            subst hpb
            have hdk : (d : Int) + (k : Int) = ((d + k : Nat) : Int) := by omega
            have hdk1 : ((d + k : Nat) : Int) < (s.length : Int) := by have := HD.out; omega
            have hdk2 : (d : Int) + (k : Int) < (s.length : Int) := by omega
            have hwk : IntKind.i64.wrap ((d : Int) + (k : Int)) = (d : Int) + (k : Int) := by rw [IntKind.wrap_i64]; omega
            have hwd : IntKind.i64.wrap (d : Int) = (d : Int) := by rw [IntKind.wrap_i64]; omega
            have htn : ((d : Int) + (k : Int)).toNat = d + k := by omega
            have hdk3 : (0 : Int) ≤ (d : Int) + (k : Int) := by omega
            have hwk2 : IntKind.i64.wrap ((s.length : Int) - ((t.length : Nat) : Int)) = (d : Int) := by rw [IntKind.wrap_i64]; omega
            have hk0 : (0 : Int) ≤ (k : Int) := by omega
            have hd0 : (0 : Int) ≤ (d : Int) := by omega
            have hix : decide ((0 : Int) ≤ (d : Int) + (k : Int) ∧ (d : Int) + (k : Int) < (s.length : Int)) = true := by simp; omega
            have hst2 : leS ((s.drop d).take (k + 1)) (t.take (k + 1)) = (leS ((s.drop d).take k) (t.take k) && standsB x y) := by
              have hx2 : (s.drop d)[k]? = some x := by rw [List.getElem?_drop]; exact hx
              rw [take_snoc _ k x hx2, take_snoc _ k y hy]
              exact leS_snoc (by simp only [List.length_take, List.length_drop]; have := HD.out; have := HTD.out; omega)
            have HST2 := hideP hst2
            have HY := hideP hy
            clear g1 g2 hx hy hst2 hdk
            have D1 : Hid (∀ W : World, Calls Tryz.prog 134 #[.int .i64 x, .int .i64 y] W fun e w' => e = .returned (.bool (standsB x y)) ∧ w' = W) := fun W => standR_any x y W
            cases hsb : standsB x y
            · rw [hsb] at D1
              go_wp2_with fail
              go_region_held3 (fun W => W.cell? ⟨ba, oa + (d + k), none⟩ = some (.int .i64 x) ∧ W.cell? ⟨bb, ob + k, none⟩ = some (.int .i64 y)) (go_keep)
                (first
                | (go_at_call 134; refine (D1.out _).mono ?_; rintro e wq ⟨rfl, hwq⟩; have hwq := hwq.symm; subst hwq))
              go_wp2
              go_ret2
              refine ⟨_, [], false, rfl, World.ownsRow_nil _ _ _ _, ?_, bWR.trans ⟨rfl, rfl, rfl, Nat.le_refl _, fun _ _ => rfl⟩⟩
              rw [tl_of HTLV.out h8, if_neg]
              · rfl
              · intro h
                have h1 := h.1
                unfold fitsS at h1
                rw [Bool.and_eq_true] at h1
                have h2 := leS_take (k + 1) h1.2
                have hdd : s.length - t.length = d := by have := HD.out; have := HTD.out; omega
                rw [hdd] at h2
                rw [HST2.out, hsb] at h2
                simp at h2
            · rw [hsb] at D1
              go_wp2_with fail
              go_region_held3 (fun W => W.cell? ⟨ba, oa + (d + k), none⟩ = some (.int .i64 x) ∧ W.cell? ⟨bb, ob + k, none⟩ = some (.int .i64 y)) (go_keep)
                (first
                | (go_at_call 134; refine (D1.out _).mono ?_; rintro e wq ⟨rfl, hwq⟩; have hwq := hwq.symm; subst hwq))
              go_wp2
              go_roundw
              case rel => exact ⟨k + 1, by omega, by go_num, by rw [HST2.out, HLE.out, hsb]; rfl, bR.trans ⟨rfl, rfl, rfl, Nat.le_refl _, fun _ _ => rfl⟩⟩
              case measure => simp [intOf]; omega
          · have hkti : ¬ (k : Int) < ((t.length : Nat) : Int) := by omega
            have hfit : fitsS s t = true := by
              have h1 := HLE.out
              have h2 := HD.out
              have h3 := HTD.out
              rw [List.take_of_length_le (by simp; omega), List.take_of_length_le (by omega)] at h1
              unfold fitsS
              rw [show s.length - t.length = d by omega, h1]
              simp; omega
            have HFIT := hideP hfit
            have hbA := (Below.refl wr.heap.size wr).alloc (Nat.le_refl _) (.cells #[] 3)
            have hmade := World.ownsRow_made (base := wr.heap.size) (e := 3) (size := 1) wr #[] 0 (Nat.le_refl _) (by unfold maxLen; omega) rfl
            have HMADE := hideP hmade
            have hpre := ints_take (k := d) ((HSw.out.below bWR).below hbA) (by have := HD.out; omega)
            have hdl : (s.take d).length = d := by rw [List.length_take]; have := HD.out; omega
            rw [← hdl] at hpre
            have HPRE := hideP hpre
            have HDL := hideP hdl
            have hdn : NilOk (.slice ps d cs) := fun a c h => by cases h; exact HNS.out _ _ rfl
            have HDN := hideP hdn
            have hdc : d ≤ cs := by have := HD.out; omega
            have HLR := hideP (HLV.out.below bR)
            clear hfit hmade hpre hdl hdn
            go_wp2_with (first
              | (at_builtin; refine wpList_append_ints rfl _ _ rfl wr.heap.size _ _ _ rfl HMADE.out (.slice ps d cs) (s.take d) rfl (by have := HPRE.out; rw [HDL.out] at this; exact this) HDN.out (by rw [HDL.out]; unfold maxLen; omega) (by rw [HDL.out]; omega) (by simp) ?_; intro v6 w6 hown6 hg6; rw [HDL.out] at hown6; simp only [Nat.zero_add, List.nil_append] at hown6; have b6 : Below wr.heap.size wr w6 := (hbA.grown hg6 (by simp) (fun j hj => (HMADE.out.lt j hj).1)); obtain ⟨p7, c7, hv7⟩ := row_shp hown6; subst hv7; have HOWN6 := hideP hown6; have HL6 := hideP (HLR.out.below b6); have s6 := b6.size; clear hown6)
              | (at_builtin; refine wpList_append_ints rfl _ _ rfl wr.heap.size _ _ _ rfl HOWN6.out _ l rfl HL6.out HNL.out (by unfold maxLen; omega) (by omega) (by omega) ?_; intro v9 w9 hown9 hg9; obtain ⟨p9, c9, hv9⟩ := row_shp hown9; subst hv9; have HOWN9 := hideP hown9; clear hown9))
            go_ret2
            have hb9 : Below wr.heap.size wr w9 := b6.grown hg9 s6 (fun j hj => (HOWN6.out.lt j hj).1)
            have hrl : (s.take d ++ l).length = d + l.length := by rw [List.length_append, HDL.out]
            refine ⟨.slice p9 (d + l.length) c9, s.take d ++ l, decide ((s.take d ++ l).length ≤ 8), ?_, ?_, ?_, bthen0 bWR hb9⟩
            · rw [hrl]
              congr 1
              simp
              omega
            · rw [hrl, List.map_append]
              exact row_low HOWN9.out bWR.size
            · rw [tl_of HTLV.out h8, show s.length - t.length = d by have := HD.out; have := HTD.out; omega]
              by_cases hc : (s.take d ++ l).length ≤ 8
              · rw [if_pos ⟨HFIT.out, hc⟩, decide_eq_true hc]; rfl
              · rw [if_neg (fun h => hc h.2), decide_eq_false hc]; rfl
      · have hlei : (s.length : Int) < ((t.length : Nat) : Int) := by omega
        go_wp2
        go_ret2
        refine ⟨_, [], false, rfl, World.ownsRow_nil _ _ _ _, ?_, bT⟩
        rw [tl_of HTLV.out h8, if_neg]
        · rfl
        · intro h
          have h1 := h.1
          unfold fitsS at h1
          simp at h1
          have := HTM.out
          omega
  · obtain ⟨b, off, hb, gl⟩ := HCELL.out (.inl m8)
    obtain ⟨⟨ha0, ha1⟩, -⟩ := HLOC.out (.inl m8)
    subst hb
    obtain ⟨an, rfl⟩ : ∃ an : Nat, a = an := ⟨a.toNat, by omega⟩
    simp only [Int.toNat_natCast] at gl
    go_enter Tryz.func90, Tryz.ntmps90
    go_wp2_with fail
    refine (plainOf_any c _).mono ?_
    rintro e wA ⟨A, B, rfl, hA, hB, hwA⟩
    have hwA := hwA.symm
    subst hwA
    go_wp2_with fail
    refine (typesOf_any A _ loc _ hA).mono ?_
    rintro e w4 ⟨u4, rfl, r4, b4⟩
    obtain ⟨p4, q4, hu4⟩ := row_shp r4
    subst hu4
    go_wp2_with fail
    refine (typesOf_any B _ loc _ hB).mono ?_
    rintro e wT ⟨u5, rfl, r5, b5⟩
    obtain ⟨p5, q5, hu5⟩ := row_shp r5
    subst hu5
    have bT : Below w.heap.size w wT := bthen0 b3 (bthen0 b4 b5)
    have HT := hideP ((intsAt_of_row rfl r4).below b5)
    have HLV := hideP (intsAt_of_row rfl r5)
    have HNL := hideP (nilOk_row r5)
    have hl8 : (withLocal loc (plainTL c).2).length ≤ 3 := by have := HPL.out.2; simpa [withLocal] using this
    have ht8 : (withLocal loc (plainTL c).1).length ≤ 3 := by have := HPL.out.1; simpa [withLocal] using this
    clear r4 r5 hA hB b4 b5 HPL HLOC HL0 HCELL main
    generalize withLocal loc (plainTL c).1 = t at *
    generalize withLocal loc (plainTL c).2 = l at *
    have HTM := hideP (rfl : t.length = t.length)
    by_cases hle : t.length ≤ s.length
    · have hlei : ¬ ((s.length : Int) < ((t.length : Nat) : Int)) := by omega
      have hled : decide ((s.length : Int) < ((t.length : Nat) : Int)) = false := by simp; omega
      have hled2 : decide (s.length < t.length) = false := by simp; omega
      have htd : t.length = t.length := HTM.out
      obtain ⟨d, hd⟩ : ∃ d : Nat, s.length = d + t.length := ⟨s.length - t.length, by omega⟩
      have HD := hideP hd
      have hdi : (s.length : Int) - ((t.length : Nat) : Int) = (d : Int) := by omega
      have hd8 : d ≤ 8 := by omega
      have HTD := hideP htd
      clear hd htd
      go_wp2
      go_loopw [17] (fun v17 wr => ∃ k : Nat, k ≤ t.length ∧ v17 = .int .i64 k ∧ leS ((s.drop d).take k) (t.take k) = true ∧ Below wT.heap.size wT wr) (fun v17 _ => t.length - (intOf v17).toNat)
      case atStart => exact ⟨0, Nat.zero_le _, rfl, by simp [leS], Below.refl _ _⟩
      case round =>
        rename World => wr
        obtain ⟨k, hk, rfl, hle2, bR⟩ := hrel
        have HLE := hideP hle2
        clear hle2
        have bWR := bthen0 bT bR
        by_cases hkt : k < t.length
        · have hkti : (k : Int) < ((t.length : Nat) : Int) := by omega
          obtain ⟨y, hy⟩ := at_of_lt (l := t) (k := k) (by have := HTD.out; omega)
          obtain ⟨x, hx⟩ := at_of_lt (l := s) (k := d + k) (by have := HD.out; omega)
          obtain ⟨p1, q1, e1, _, g1⟩ := HSw.out.below bWR
          obtain ⟨p2, q2, e2, _, g2⟩ := HT.out.below bR
          cases e1
          cases e2
          obtain ⟨ba, oa, hpa, _, ga⟩ := g1 (d + k) x hx
          obtain ⟨bb, ob, hpb, _, gb⟩ := g2 k y hy
          subst hpa
          subst hpb
          have hdk : (d : Int) + (k : Int) = ((d + k : Nat) : Int) := by omega
          have hdk1 : ((d + k : Nat) : Int) < (s.length : Int) := by have := HD.out; omega
          have hdk2 : (d : Int) + (k : Int) < (s.length : Int) := by omega
          have hwk : IntKind.i64.wrap ((d : Int) + (k : Int)) = (d : Int) + (k : Int) := by rw [IntKind.wrap_i64]; omega
          have hwd : IntKind.i64.wrap (d : Int) = (d : Int) := by rw [IntKind.wrap_i64]; omega
          have htn : ((d : Int) + (k : Int)).toNat = d + k := by omega
          have hdk3 : (0 : Int) ≤ (d : Int) + (k : Int) := by omega
          have hwk2 : IntKind.i64.wrap ((s.length : Int) - ((t.length : Nat) : Int)) = (d : Int) := by rw [IntKind.wrap_i64]; omega
          have hk0 : (0 : Int) ≤ (k : Int) := by omega
          have hd0 : (0 : Int) ≤ (d : Int) := by omega
          have hix : decide ((0 : Int) ≤ (d : Int) + (k : Int) ∧ (d : Int) + (k : Int) < (s.length : Int)) = true := by simp; omega
          have hst2 : leS ((s.drop d).take (k + 1)) (t.take (k + 1)) = (leS ((s.drop d).take k) (t.take k) && standsB x y) := by
            have hx2 : (s.drop d)[k]? = some x := by rw [List.getElem?_drop]; exact hx
            rw [take_snoc _ k x hx2, take_snoc _ k y hy]
            exact leS_snoc (by simp only [List.length_take, List.length_drop]; have := HD.out; have := HTD.out; omega)
          have HST2 := hideP hst2
          have HY := hideP hy
          clear g1 g2 hx hy hst2 hdk
          have D1 : Hid (∀ W : World, Calls Tryz.prog 134 #[.int .i64 x, .int .i64 y] W fun e w' => e = .returned (.bool (standsB x y)) ∧ w' = W) := fun W => standR_any x y W
          cases hsb : standsB x y
          · rw [hsb] at D1
            go_wp2_with fail
            go_region_held3 (fun W => W.cell? ⟨ba, oa + (d + k), none⟩ = some (.int .i64 x) ∧ W.cell? ⟨bb, ob + k, none⟩ = some (.int .i64 y)) (go_keep)
              (first
              | (go_at_call 134; refine (D1.out _).mono ?_; rintro e wq ⟨rfl, hwq⟩; have hwq := hwq.symm; subst hwq))
            go_wp2
            go_ret2
            refine ⟨_, [], false, rfl, World.ownsRow_nil _ _ _ _, ?_, bWR.trans ⟨rfl, rfl, rfl, Nat.le_refl _, fun _ _ => rfl⟩⟩
            rw [tl_of HTLV.out h8, if_neg]
            · rfl
            · intro h
              have h1 := h.1
              unfold fitsS at h1
              rw [Bool.and_eq_true] at h1
              have h2 := leS_take (k + 1) h1.2
              have hdd : s.length - t.length = d := by have := HD.out; have := HTD.out; omega
              rw [hdd] at h2
              rw [HST2.out, hsb] at h2
              simp at h2
          · rw [hsb] at D1
            go_wp2_with fail
            go_region_held3 (fun W => W.cell? ⟨ba, oa + (d + k), none⟩ = some (.int .i64 x) ∧ W.cell? ⟨bb, ob + k, none⟩ = some (.int .i64 y)) (go_keep)
              (first
              | (go_at_call 134; refine (D1.out _).mono ?_; rintro e wq ⟨rfl, hwq⟩; have hwq := hwq.symm; subst hwq))
            go_wp2
            go_roundw
            case rel => exact ⟨k + 1, by omega, by go_num, by rw [HST2.out, HLE.out, hsb]; rfl, bR.trans ⟨rfl, rfl, rfl, Nat.le_refl _, fun _ _ => rfl⟩⟩
            case measure => simp [intOf]; omega
        · have hkti : ¬ (k : Int) < ((t.length : Nat) : Int) := by omega
          have hfit : fitsS s t = true := by
            have h1 := HLE.out
            have h2 := HD.out
            have h3 := HTD.out
            rw [List.take_of_length_le (by simp; omega), List.take_of_length_le (by omega)] at h1
            unfold fitsS
            rw [show s.length - t.length = d by omega, h1]
            simp; omega
          have HFIT := hideP hfit
          have hbA := (Below.refl wr.heap.size wr).alloc (Nat.le_refl _) (.cells #[] 3)
          have hmade := World.ownsRow_made (base := wr.heap.size) (e := 3) (size := 1) wr #[] 0 (Nat.le_refl _) (by unfold maxLen; omega) rfl
          have HMADE := hideP hmade
          have hpre := ints_take (k := d) ((HSw.out.below bWR).below hbA) (by have := HD.out; omega)
          have hdl : (s.take d).length = d := by rw [List.length_take]; have := HD.out; omega
          rw [← hdl] at hpre
          have HPRE := hideP hpre
          have HDL := hideP hdl
          have hdn : NilOk (.slice ps d cs) := fun a c h => by cases h; exact HNS.out _ _ rfl
          have HDN := hideP hdn
          have hdc : d ≤ cs := by have := HD.out; omega
          have HLR := hideP (HLV.out.below bR)
          clear hfit hmade hpre hdl hdn
          go_wp2_with (first
            | (at_builtin; refine wpList_append_ints rfl _ _ rfl wr.heap.size _ _ _ rfl HMADE.out (.slice ps d cs) (s.take d) rfl (by have := HPRE.out; rw [HDL.out] at this; exact this) HDN.out (by rw [HDL.out]; unfold maxLen; omega) (by rw [HDL.out]; omega) (by simp) ?_; intro v6 w6 hown6 hg6; rw [HDL.out] at hown6; simp only [Nat.zero_add, List.nil_append] at hown6; have b6 : Below wr.heap.size wr w6 := (hbA.grown hg6 (by simp) (fun j hj => (HMADE.out.lt j hj).1)); obtain ⟨p7, c7, hv7⟩ := row_shp hown6; subst hv7; have HOWN6 := hideP hown6; have HL6 := hideP (HLR.out.below b6); have s6 := b6.size; clear hown6)
            | (at_builtin; refine wpList_append_ints rfl _ _ rfl wr.heap.size _ _ _ rfl HOWN6.out _ l rfl HL6.out HNL.out (by unfold maxLen; omega) (by omega) (by omega) ?_; intro v9 w9 hown9 hg9; obtain ⟨p9, c9, hv9⟩ := row_shp hown9; subst hv9; have HOWN9 := hideP hown9; clear hown9))
          go_ret2
          have hb9 : Below wr.heap.size wr w9 := b6.grown hg9 s6 (fun j hj => (HOWN6.out.lt j hj).1)
          have hrl : (s.take d ++ l).length = d + l.length := by rw [List.length_append, HDL.out]
          refine ⟨.slice p9 (d + l.length) c9, s.take d ++ l, decide ((s.take d ++ l).length ≤ 8), ?_, ?_, ?_, bthen0 bWR hb9⟩
          · rw [hrl]
            congr 1
            simp
            omega
          · rw [hrl, List.map_append]
            exact row_low HOWN9.out bWR.size
          · rw [tl_of HTLV.out h8, show s.length - t.length = d by have := HD.out; have := HTD.out; omega]
            by_cases hc : (s.take d ++ l).length ≤ 8
            · rw [if_pos ⟨HFIT.out, hc⟩, decide_eq_true hc]; rfl
            · rw [if_neg (fun h => hc h.2), decide_eq_false hc]; rfl
    · have hlei : (s.length : Int) < ((t.length : Nat) : Int) := by omega
      go_wp2
      go_ret2
      refine ⟨_, [], false, rfl, World.ownsRow_nil _ _ _ _, ?_, bT⟩
      rw [tl_of HTLV.out h8, if_neg]
      · rfl
      · intro h
        have h1 := h.1
        unfold fitsS at h1
        simp at h1
        have := HTM.out
        omega
end Go.Proofs.YtcadpoknolefpaaGreat
/- The reference's TryOp: pop, ret. -/
namespace Go.Proofs.YtcadpoknolefpaaGreat
open Go.RowKit
set_option linter.unusedSimpArgs false
set_option linter.unusedVariables false
theorem ints_drop {w : World} {p : Option Addr} {q m : Nat} {L : List Int} (h : IntsAt w (.slice p L.length q) L) (hk : m ≤ L.length) : IntsAt w (.slice (Option.map (fun x => x.add m) p) (L.drop m).length (q - m)) (L.drop m) := by
  obtain ⟨p', q', he, hm, hc⟩ := h
  cases he
  refine ⟨_, _, rfl, by rw [List.length_drop]; omega, fun j z hj => ?_⟩
  rw [List.getElem?_drop] at hj
  obtain ⟨b, off, rfl, hb, g⟩ := hc _ z hj
  exact ⟨b, off + m, by simp [add_at], hb, by rw [Nat.add_assoc]; exact g⟩
set_option maxRecDepth 100000 in
set_option maxHeartbeats 4000000 in
theorem tryPop_any (c a : Int) (p : List Fn) (f : Fn) (s : List Int) (vs pv c0 c1 c2 c3 : Value) (w : World) (h8 : s.length ≤ 8) (hvs : IntsAt w vs s) (hnil : NilOk vs) (hcap : ∀ p n c, vs = .slice p n c → n ≤ c) (hp : FnsAt w pv p) (hcp : CapAt w pv) (hf : FnAt w c0 c1 c2 c3 f) (ho : OkOp p f (c, a)) (hc : c = 2) : Calls Tryz.prog 90 #[.agg #[pv], .agg #[c0, c1, c2, c3], .agg #[.int .i64 c, .int .i64 a], vs] w (TryP p f (c, a) s w) := by
  subst hc
  obtain ⟨P, L, r, C⟩ := f
  obtain ⟨rfl, hI, rfl, hO⟩ := id hf
  simp only at hI hO
  obtain ⟨p1, q1, rfl, _, hLc⟩ := id hI
  obtain ⟨p3, q3, rfl, _, _⟩ := id hO
  obtain ⟨pp, qp, rfl, _, hpc⟩ := id hp
  obtain ⟨ps, cs, rfl, _, _⟩ := id hvs
  have hcs : s.length ≤ cs := hcap _ _ _ rfl
  obtain ⟨W3, hW3⟩ : ∃ W3, ((w.alloc (.cells #[.slice pp p.length qp] 24)).alloc (.cells #[.int .i64 P, .slice p1 L.length q1, .int .i64 r, .slice p3 C.length q3] 78)).alloc (.cells #[.int .i64 2, .int .i64 a] 43) = W3 := ⟨_, rfl⟩
  have b3 : Below w.heap.size w W3 := by rw [← hW3]; exact three_below w _ _ _
  have x0 : W3.heap[w.heap.size]? = some (.cells #[.slice pp p.length qp] 24 (0, 0)) := by rw [← hW3]; exact (three_new w _ _ _).1
  have x1 : W3.heap[w.heap.size + 1]? = some (.cells #[.int .i64 P, .slice p1 L.length q1, .int .i64 r, .slice p3 C.length q3] 78 (0, 0)) := by rw [← hW3]; exact (three_new w _ _ _).2.1
  have x2 : W3.heap[w.heap.size + 1 + 1]? = some (.cells #[.int .i64 2, .int .i64 a] 43 (0, 0)) := by rw [← hW3]; exact (three_new w _ _ _).2.2
  have k0 := cell_at' x0 0
  have f0 := cell_at' x1 0
  have f1 := cell_at' x1 1
  have f2 := cell_at' x1 2
  have f3 := cell_at' x1 3
  have o0 := cell_at' x2 0
  have o1 := cell_at' x2 1
  simp at k0 f0 f1 f2 f3 o0 o1
  have lx0 := heap_lt x0
  have lx1 := heap_lt x1
  have lx2 := heap_lt x2
  have HSw := hideP hvs
  have HNS := hideP hnil
  have HP3 := hideP (hp.below b3)
  have HC3 := hideP (hcp.below hp b3)
  have HI3 := hideP (hI.below b3)
  have HOK := hideP ho
  clear ho hvs hnil hcap hp hcp hf hI hO hLc hpc x0 x1 x2
  by_cases hn : s.length < 1
  · have hni : (s.length : Int) < 1 := by omega
    have htl : takesLeaves p (P, L, r, C) (2, a) s = none := by unfold takesLeaves; rw [if_pos rfl, if_pos hn]
    have HTL := hideP htl
    clear htl
    go_enter Tryz.func90, Tryz.ntmps90
    go_wp2
    go_ret2
    exact ⟨_, [], false, rfl, World.ownsRow_nil _ _ _ _, by unfold tryOp; rw [HTL.out]; rfl, b3⟩
  · have hni : ¬ (s.length : Int) < 1 := by omega
    obtain ⟨m, hm⟩ : ∃ m : Nat, s.length = m + 1 := ⟨s.length - 1, by omega⟩
    have htl : takesLeaves p (P, L, r, C) (2, a) s = some (s.drop m, []) := by unfold takesLeaves; rw [if_pos rfl, if_neg hn, show s.length - 1 = m by omega]
    have hmi : (s.length : Int) - 1 = (m : Int) := by omega
    have HM := hideP hm
    have HTLV := hideP htl
    have hT := (ints_drop (m := m) HSw.out (by omega)).below b3
    have htm : (s.drop m).length = s.length - m := List.length_drop
    have HT0 := hideP hT
    have HTM0 := hideP htm
    have hq1 : s.length - m ≤ 8 := by omega
    clear htl hm hT htm hn
    go_enter Tryz.func90, Tryz.ntmps90
    go_upto_region 30 with fail
    generalize s.drop m = t at *
    generalize Option.map (fun x : Addr => x.add m) ps = pt at *
    generalize s.length - m = q at *
    obtain ⟨wT, hwT⟩ : ∃ wT, W3 = wT := ⟨_, rfl⟩
    subst hwT
    have bT := b3
    have HT := HT0
    have HTM := HTM0
    obtain ⟨l, hl⟩ : ∃ l : List Int, l = [] := ⟨_, rfl⟩
    have HLV : Hid (IntsAt W3 (.slice none 0 0) l) := by subst hl; exact ⟨none, 0, rfl, Nat.zero_le _, fun k b hk => by simp at hk⟩
    have HNL : Hid (NilOk (.slice none 0 0)) := nilOk_nil
    have hl8 : l.length ≤ 3 := by subst hl; simp
    rw [← hl] at HTLV
    have HLN := hideP hl
    clear HT0 HTM0 hl
    by_cases hle : q ≤ s.length
    · have hlei : ¬ ((s.length : Int) < ((q : Nat) : Int)) := by omega
      have hled : decide ((s.length : Int) < ((q : Nat) : Int)) = false := by simp; omega
      have hled2 : decide (s.length < q) = false := by simp; omega
      have htd : t.length = q := HTM.out
      obtain ⟨d, hd⟩ : ∃ d : Nat, s.length = d + q := ⟨s.length - q, by omega⟩
      have HD := hideP hd
      have hdi : (s.length : Int) - ((q : Nat) : Int) = (d : Int) := by omega
      have hd8 : d ≤ 8 := by omega
      have HTD := hideP htd
      clear hd htd
      go_wp2
      go_loopw [17] (fun v17 wr => ∃ k : Nat, k ≤ q ∧ v17 = .int .i64 k ∧ leS ((s.drop d).take k) (t.take k) = true ∧ Below W3.heap.size W3 wr) (fun v17 _ => q - (intOf v17).toNat)
      case atStart => exact ⟨0, Nat.zero_le _, rfl, by simp [leS], Below.refl _ _⟩
      case round =>
        rename World => wr
        obtain ⟨k, hk, rfl, hle2, bR⟩ := hrel
        have HLE := hideP hle2
        clear hle2
        have bWR := bthen0 bT bR
        by_cases hkt : k < q
        · have hkti : (k : Int) < ((q : Nat) : Int) := by omega
          obtain ⟨y, hy⟩ := at_of_lt (l := t) (k := k) (by have := HTD.out; omega)
          obtain ⟨x, hx⟩ := at_of_lt (l := s) (k := d + k) (by have := HD.out; omega)
          obtain ⟨p1, q1, e1, _, g1⟩ := HSw.out.below bWR
          obtain ⟨p2, q2, e2, _, g2⟩ := HT.out.below bR
          cases e1
          cases e2
          obtain ⟨ba, oa, hpa, _, ga⟩ := g1 (d + k) x hx
          obtain ⟨bb, ob, hpb, _, gb⟩ := g2 k y hy
          subst hpa
          subst hpb
          have hdk : (d : Int) + (k : Int) = ((d + k : Nat) : Int) := by omega
          have hdk1 : ((d + k : Nat) : Int) < (s.length : Int) := by have := HD.out; omega
          have hdk2 : (d : Int) + (k : Int) < (s.length : Int) := by omega
          have hwk : IntKind.i64.wrap ((d : Int) + (k : Int)) = (d : Int) + (k : Int) := by rw [IntKind.wrap_i64]; omega
          have hwd : IntKind.i64.wrap (d : Int) = (d : Int) := by rw [IntKind.wrap_i64]; omega
          have htn : ((d : Int) + (k : Int)).toNat = d + k := by omega
          have hdk3 : (0 : Int) ≤ (d : Int) + (k : Int) := by omega
          have hwk2 : IntKind.i64.wrap ((s.length : Int) - ((q : Nat) : Int)) = (d : Int) := by rw [IntKind.wrap_i64]; omega
          have hk0 : (0 : Int) ≤ (k : Int) := by omega
          have hd0 : (0 : Int) ≤ (d : Int) := by omega
          have hix : decide ((0 : Int) ≤ (d : Int) + (k : Int) ∧ (d : Int) + (k : Int) < (s.length : Int)) = true := by simp; omega
          have hst2 : leS ((s.drop d).take (k + 1)) (t.take (k + 1)) = (leS ((s.drop d).take k) (t.take k) && standsB x y) := by
            have hx2 : (s.drop d)[k]? = some x := by rw [List.getElem?_drop]; exact hx
            rw [take_snoc _ k x hx2, take_snoc _ k y hy]
            exact leS_snoc (by simp only [List.length_take, List.length_drop]; have := HD.out; have := HTD.out; omega)
          have HST2 := hideP hst2
          have HY := hideP hy
          clear g1 g2 hx hy hst2 hdk
          have D1 : Hid (∀ W : World, Calls Tryz.prog 134 #[.int .i64 x, .int .i64 y] W fun e w' => e = .returned (.bool (standsB x y)) ∧ w' = W) := fun W => standR_any x y W
          cases hsb : standsB x y
          · rw [hsb] at D1
            go_wp2_with fail
            go_region_held3 (fun W => W.cell? ⟨ba, oa + (d + k), none⟩ = some (.int .i64 x) ∧ W.cell? ⟨bb, ob + k, none⟩ = some (.int .i64 y)) (go_keep)
              (first
              | (go_at_call 134; refine (D1.out _).mono ?_; rintro e wq ⟨rfl, hwq⟩; have hwq := hwq.symm; subst hwq))
            go_wp2
            go_ret2
            refine ⟨_, [], false, rfl, World.ownsRow_nil _ _ _ _, ?_, bWR.trans ⟨rfl, rfl, rfl, Nat.le_refl _, fun _ _ => rfl⟩⟩
            rw [tl_of HTLV.out h8, if_neg]
            · rfl
            · intro h
              have h1 := h.1
              unfold fitsS at h1
              rw [Bool.and_eq_true] at h1
              have h2 := leS_take (k + 1) h1.2
              have hdd : s.length - t.length = d := by have := HD.out; have := HTD.out; omega
              rw [hdd] at h2
              rw [HST2.out, hsb] at h2
              simp at h2
          · rw [hsb] at D1
            go_wp2_with fail
            go_region_held3 (fun W => W.cell? ⟨ba, oa + (d + k), none⟩ = some (.int .i64 x) ∧ W.cell? ⟨bb, ob + k, none⟩ = some (.int .i64 y)) (go_keep)
              (first
              | (go_at_call 134; refine (D1.out _).mono ?_; rintro e wq ⟨rfl, hwq⟩; have hwq := hwq.symm; subst hwq))
            go_wp2
            go_roundw
            case rel => exact ⟨k + 1, by omega, by go_num, by rw [HST2.out, HLE.out, hsb]; rfl, bR.trans ⟨rfl, rfl, rfl, Nat.le_refl _, fun _ _ => rfl⟩⟩
            case measure => simp [intOf]; omega
        · have hkti : ¬ (k : Int) < ((q : Nat) : Int) := by omega
          have hfit : fitsS s t = true := by
            have h1 := HLE.out
            have h2 := HD.out
            have h3 := HTD.out
            rw [List.take_of_length_le (by simp; omega), List.take_of_length_le (by omega)] at h1
            unfold fitsS
            rw [show s.length - t.length = d by omega, h1]
            simp; omega
          have HFIT := hideP hfit
          have hbA := (Below.refl wr.heap.size wr).alloc (Nat.le_refl _) (.cells #[] 3)
          have hmade := World.ownsRow_made (base := wr.heap.size) (e := 3) (size := 1) wr #[] 0 (Nat.le_refl _) (by unfold maxLen; omega) rfl
          have HMADE := hideP hmade
          have hpre := ints_take (k := d) ((HSw.out.below bWR).below hbA) (by have := HD.out; omega)
          have hdl : (s.take d).length = d := by rw [List.length_take]; have := HD.out; omega
          rw [← hdl] at hpre
          have HPRE := hideP hpre
          have HDL := hideP hdl
          have hdn : NilOk (.slice ps d cs) := fun a c h => by cases h; exact HNS.out _ _ rfl
          have HDN := hideP hdn
          have hdc : d ≤ cs := by have := HD.out; omega
          have HLR := hideP (HLV.out.below bR)
          clear hfit hmade hpre hdl hdn
          go_wp2_with (first
            | (at_builtin; refine wpList_append_ints rfl _ _ rfl wr.heap.size _ _ _ rfl HMADE.out (.slice ps d cs) (s.take d) rfl (by have := HPRE.out; rw [HDL.out] at this; exact this) HDN.out (by rw [HDL.out]; unfold maxLen; omega) (by rw [HDL.out]; omega) (by simp) ?_; intro v6 w6 hown6 hg6; rw [HDL.out] at hown6; simp only [Nat.zero_add, List.nil_append] at hown6; have b6 : Below wr.heap.size wr w6 := (hbA.grown hg6 (by simp) (fun j hj => (HMADE.out.lt j hj).1)); obtain ⟨p7, c7, hv7⟩ := row_shp hown6; subst hv7; have HOWN6 := hideP hown6; have HL6 := hideP (HLR.out.below b6); have s6 := b6.size; clear hown6)
            | (at_builtin; refine wpList_append_ints rfl _ _ rfl wr.heap.size _ _ _ rfl HOWN6.out _ l rfl HL6.out HNL.out (by unfold maxLen; omega) (by omega) (by omega) ?_; intro v9 w9 hown9 hg9; obtain ⟨p9, c9, hv9⟩ := row_shp hown9; subst hv9; have HOWN9 := hideP hown9; clear hown9))
          go_ret2
          have hb9 : Below wr.heap.size wr w9 := b6.grown hg9 s6 (fun j hj => (HOWN6.out.lt j hj).1)
          have hrl : (s.take d ++ l).length = d + l.length := by rw [List.length_append, HDL.out]
          refine ⟨.slice p9 (d + l.length) c9, s.take d ++ l, decide ((s.take d ++ l).length ≤ 8), ?_, ?_, ?_, bthen0 bWR hb9⟩
          · rw [hrl]
            congr 1
            simp
            omega
          · rw [hrl, List.map_append]
            exact row_low HOWN9.out bWR.size
          · rw [tl_of HTLV.out h8, show s.length - t.length = d by have := HD.out; have := HTD.out; omega]
            by_cases hc : (s.take d ++ l).length ≤ 8
            · rw [if_pos ⟨HFIT.out, hc⟩, decide_eq_true hc]; rfl
            · rw [if_neg (fun h => hc h.2), decide_eq_false hc]; rfl
    · have hlei : (s.length : Int) < ((q : Nat) : Int) := by omega
      go_wp2
      go_ret2
      refine ⟨_, [], false, rfl, World.ownsRow_nil _ _ _ _, ?_, bT⟩
      rw [tl_of HTLV.out h8, if_neg]
      · rfl
      · intro h
        have h1 := h.1
        unfold fitsS at h1
        simp at h1
        have := HTM.out
        omega
end Go.Proofs.YtcadpoknolefpaaGreat
