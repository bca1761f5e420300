/- My texts Rd Re Rf, joined. -/
import Derived.Test.YtcadpoknolefpaaGreatU7
import Derived.Test.YtcadpoknolefpaaGreatU19
/- The reference's TryOp: ret. -/
namespace Go.Proofs.YtcadpoknolefpaaGreat
open Go.RowKit
set_option linter.unusedSimpArgs false
set_option linter.unusedVariables false
set_option maxRecDepth 100000 in
set_option maxHeartbeats 4000000 in
theorem tryRet_any (c a : Int) (p : List Fn) (f : Fn) (s : List Int) (vs pv c0 c1 c2 c3 : Value) (w : World) (h8 : s.length ≤ 8) (hvs : IntsAt w vs s) (hnil : NilOk vs) (hcap : ∀ p n c, vs = .slice p n c → n ≤ c) (hp : FnsAt w pv p) (hcp : CapAt w pv) (hf : FnAt w c0 c1 c2 c3 f) (ho : OkOp p f (c, a)) (hc : c = 13) : Calls Tryz.prog 90 #[.agg #[pv], .agg #[c0, c1, c2, c3], .agg #[.int .i64 c, .int .i64 a], vs] w (TryP p f (c, a) s w) := by
  subst hc
  obtain ⟨P, L, r, C⟩ := f
  obtain ⟨rfl, hI, rfl, hO⟩ := id hf
  simp only at hI hO
  obtain ⟨p1, q1, rfl, _, hLc⟩ := id hI
  obtain ⟨p3, q3, rfl, _, _⟩ := id hO
  obtain ⟨pp, qp, rfl, _, hpc⟩ := id hp
  obtain ⟨ps, cs, rfl, _, _⟩ := id hvs
  have hcs : s.length ≤ cs := hcap _ _ _ rfl
  obtain ⟨W3, hW3⟩ : ∃ W3, ((w.alloc (.cells #[.slice pp p.length qp] 24)).alloc (.cells #[.int .i64 P, .slice p1 L.length q1, .int .i64 r, .slice p3 C.length q3] 78)).alloc (.cells #[.int .i64 13, .int .i64 a] 43) = W3 := ⟨_, rfl⟩
  have b3 : Below w.heap.size w W3 := by rw [← hW3]; exact three_below w _ _ _
  have x0 : W3.heap[w.heap.size]? = some (.cells #[.slice pp p.length qp] 24 (0, 0)) := by rw [← hW3]; exact (three_new w _ _ _).1
  have x1 : W3.heap[w.heap.size + 1]? = some (.cells #[.int .i64 P, .slice p1 L.length q1, .int .i64 r, .slice p3 C.length q3] 78 (0, 0)) := by rw [← hW3]; exact (three_new w _ _ _).2.1
  have x2 : W3.heap[w.heap.size + 1 + 1]? = some (.cells #[.int .i64 13, .int .i64 a] 43 (0, 0)) := by rw [← hW3]; exact (three_new w _ _ _).2.2
  have k0 := cell_at' x0 0
  have f0 := cell_at' x1 0
  have f1 := cell_at' x1 1
  have f2 := cell_at' x1 2
  have f3 := cell_at' x1 3
  have o0 := cell_at' x2 0
  have o1 := cell_at' x2 1
  simp at k0 f0 f1 f2 f3 o0 o1
  have lx0 := heap_lt x0
  have lx1 := heap_lt x1
  have lx2 := heap_lt x2
  have HSw := hideP hvs
  have HNS := hideP hnil
  have HP3 := hideP (hp.below b3)
  have HC3 := hideP (hcp.below hp b3)
  have HI3 := hideP (hI.below b3)
  have HOK := hideP ho
  have hr0 := ho.own.2
  simp only at hr0
  clear ho hvs hnil hcap hp hcp hf hI hO hLc hpc x0 x1 x2
  by_cases hr : 0 < r
  · by_cases hn : s.length = 1
    · have htl : takesLeaves p (P, L, r, C) (13, a) s = some ([r], []) := by unfold takesLeaves; simp [hr, hn]
      have hnb : ((s.length : Int) != 1) = false := by simp; omega
      have HTLV := hideP htl
      have HN1 := hideP hn
      clear htl hn
      go_enter Tryz.func90, Tryz.ntmps90
      go_upto_region 30 with fail
      obtain ⟨q, hq⟩ : ∃ q : Nat, 1 = q := ⟨1, rfl⟩
      rw [show Value.slice (some ⟨W3.heap.size, 0, none⟩) 1 1 = Value.slice (some ⟨W3.heap.size, 0, none⟩) q 1 from by rw [← hq]]
      have hq8 : q ≤ 8 := by omega
      have HQ := hideP hq
      clear hq
      have bT0 : Below w.heap.size w (W3.alloc (.cells #[.int .i64 r] 3)) := b3.alloc b3.size _
      have HT0 : Hid (IntsAt (W3.alloc (.cells #[.int .i64 r] 3)) (.slice (some ⟨W3.heap.size, 0, none⟩) [r].length 1) [r]) := ints_lit (l := [r]) 1 1 (World.alloc_heap_new W3 _) rfl (by unfold maxLen; simp)
      generalize W3.alloc (.cells #[.int .i64 r] 3) = wT at *
      generalize (some (⟨W3.heap.size, 0, none⟩ : Addr)) = pt at *
      obtain ⟨t, ht⟩ : ∃ t : List Int, t = [r] := ⟨_, rfl⟩
      have HTM : Hid (t.length = q) := by subst ht; exact HQ.out
      rw [← ht] at HTLV HT0
      have HTE := hideP ht
      have bT := bT0
      have HT := HT0
      clear ht bT0 HT0
      obtain ⟨l, hl⟩ : ∃ l : List Int, l = [] := ⟨_, rfl⟩
      have HLV : Hid (IntsAt wT (.slice none 0 0) l) := by subst hl; exact ⟨none, 0, rfl, Nat.zero_le _, fun k b hk => by simp at hk⟩
      have HNL : Hid (NilOk (.slice none 0 0)) := nilOk_nil
      have hl8 : l.length ≤ 3 := by subst hl; simp
      rw [← hl] at HTLV
      have HLN := hideP hl
      clear hl
      by_cases hle : q ≤ s.length
      · have hlei : ¬ ((s.length : Int) < ((q : Nat) : Int)) := by omega
        have hled : decide ((s.length : Int) < ((q : Nat) : Int)) = false := by simp; omega
        have hled2 : decide (s.length < q) = false := by simp; omega
        have htd : t.length = q := HTM.out
        obtain ⟨d, hd⟩ : ∃ d : Nat, s.length = d + q := ⟨s.length - q, by omega⟩
        have HD := hideP hd
        have hdi : (s.length : Int) - ((q : Nat) : Int) = (d : Int) := by omega
        have hd8 : d ≤ 8 := by omega
        have HTD := hideP htd
        clear hd htd
        go_wp2
        go_loopw [17] (fun v17 wr => ∃ k : Nat, k ≤ q ∧ v17 = .int .i64 k ∧ leS ((s.drop d).take k) (t.take k) = true ∧ Below wT.heap.size wT wr) (fun v17 _ => q - (intOf v17).toNat)
        case atStart => exact ⟨0, Nat.zero_le _, rfl, by simp [leS], Below.refl _ _⟩
        case round =>
          rename World => wr
          obtain ⟨k, hk, rfl, hle2, bR⟩ := hrel
          have HLE := hideP hle2
          clear hle2
          have bWR := bthen0 bT bR
          by_cases hkt : k < q
          · have hkti : (k : Int) < ((q : Nat) : Int) := by omega
            obtain ⟨y, hy⟩ := at_of_lt (l := t) (k := k) (by have := HTD.out; omega)
            obtain ⟨x, hx⟩ := at_of_lt (l := s) (k := d + k) (by have := HD.out; omega)
            obtain ⟨p1, q1, e1, _, g1⟩ := HSw.out.below bWR
            obtain ⟨p2, q2, e2, _, g2⟩ := HT.out.below bR
            cases e1
            cases e2
            obtain ⟨ba, oa, hpa, _, ga⟩ := g1 (d + k) x hx
            obtain ⟨bb, ob, hpb, _, gb⟩ := g2 k y hy
            subst hpa
            subst hpb
            have hdk : (d : Int) + (k : Int) = ((d + k : Nat) : Int) := by omega
            have hdk1 : ((d + k : Nat) : Int) < (s.length : Int) := by have := HD.out; omega
            have hdk2 : (d : Int) + (k : Int) < (s.length : Int) := by omega
            have hwk : IntKind.i64.wrap ((d : Int) + (k : Int)) = (d : Int) + (k : Int) := by rw [IntKind.wrap_i64]; omega
            have hwd : IntKind.i64.wrap (d : Int) = (d : Int) := by rw [IntKind.wrap_i64]; omega
            have htn : ((d : Int) + (k : Int)).toNat = d + k := by omega
            have hdk3 : (0 : Int) ≤ (d : Int) + (k : Int) := by omega
            have hwk2 : IntKind.i64.wrap ((s.length : Int) - ((q : Nat) : Int)) = (d : Int) := by rw [IntKind.wrap_i64]; omega
            have hk0 : (0 : Int) ≤ (k : Int) := by omega
            have hd0 : (0 : Int) ≤ (d : Int) := by omega
            have hix : decide ((0 : Int) ≤ (d : Int) + (k : Int) ∧ (d : Int) + (k : Int) < (s.length : Int)) = true := by simp; omega
            have hst2 : leS ((s.drop d).take (k + 1)) (t.take (k + 1)) = (leS ((s.drop d).take k) (t.take k) && standsB x y) := by
              have hx2 : (s.drop d)[k]? = some x := by rw [List.getElem?_drop]; exact hx
              rw [take_snoc _ k x hx2, take_snoc _ k y hy]
              exact leS_snoc (by simp only [List.length_take, List.length_drop]; have := HD.out; have := HTD.out; omega)
            have HST2 := hideP hst2
            have HY := hideP hy
            clear g1 g2 hx hy hst2 hdk
            have D1 : Hid (∀ W : World, Calls Tryz.prog 134 #[.int .i64 x, .int .i64 y] W fun e w' => e = .returned (.bool (standsB x y)) ∧ w' = W) := fun W => standR_any x y W
            cases hsb : standsB x y
            · rw [hsb] at D1
              go_wp2_with fail
              go_region_held3 (fun W => W.cell? ⟨ba, oa + (d + k), none⟩ = some (.int .i64 x) ∧ W.cell? ⟨bb, ob + k, none⟩ = some (.int .i64 y)) (go_keep)
                (first
                | (go_at_call 134; refine (D1.out _).mono ?_; rintro e wq ⟨rfl, hwq⟩; have hwq := hwq.symm; subst hwq))
              go_wp2
              go_ret2
              refine ⟨_, [], false, rfl, World.ownsRow_nil _ _ _ _, ?_, bWR.trans ⟨rfl, rfl, rfl, Nat.le_refl _, fun _ _ => rfl⟩⟩
              rw [tl_of HTLV.out h8, if_neg]
              · rfl
              · intro h
                have h1 := h.1
                unfold fitsS at h1
                rw [Bool.and_eq_true] at h1
                have h2 := leS_take (k + 1) h1.2
                have hdd : s.length - t.length = d := by have := HD.out; have := HTD.out; omega
                rw [hdd] at h2
                rw [HST2.out, hsb] at h2
                simp at h2
            · rw [hsb] at D1
              go_wp2_with fail
              go_region_held3 (fun W => W.cell? ⟨ba, oa + (d + k), none⟩ = some (.int .i64 x) ∧ W.cell? ⟨bb, ob + k, none⟩ = some (.int .i64 y)) (go_keep)
                (first
                | (go_at_call 134; refine (D1.out _).mono ?_; rintro e wq ⟨rfl, hwq⟩; have hwq := hwq.symm; subst hwq))
              go_wp2
              go_roundw
              case rel => exact ⟨k + 1, by omega, by go_num, by rw [HST2.out, HLE.out, hsb]; rfl, bR.trans ⟨rfl, rfl, rfl, Nat.le_refl _, fun _ _ => rfl⟩⟩
              case measure => simp [intOf]; omega
          · have hkti : ¬ (k : Int) < ((q : Nat) : Int) := by omega
            have hfit : fitsS s t = true := by
              have h1 := HLE.out
              have h2 := HD.out
              have h3 := HTD.out
              rw [List.take_of_length_le (by simp; omega), List.take_of_length_le (by omega)] at h1
              unfold fitsS
              rw [show s.length - t.length = d by omega, h1]
              simp; omega
            have HFIT := hideP hfit
            have hbA := (Below.refl wr.heap.size wr).alloc (Nat.le_refl _) (.cells #[] 3)
            have hmade := World.ownsRow_made (base := wr.heap.size) (e := 3) (size := 1) wr #[] 0 (Nat.le_refl _) (by unfold maxLen; omega) rfl
            have HMADE := hideP hmade
            have hpre := ints_take (k := d) ((HSw.out.below bWR).below hbA) (by have := HD.out; omega)
            have hdl : (s.take d).length = d := by rw [List.length_take]; have := HD.out; omega
            rw [← hdl] at hpre
            have HPRE := hideP hpre
            have HDL := hideP hdl
            have hdn : NilOk (.slice ps d cs) := fun a c h => by cases h; exact HNS.out _ _ rfl
            have HDN := hideP hdn
            have hdc : d ≤ cs := by have := HD.out; omega
            have HLR := hideP (HLV.out.below bR)
            clear hfit hmade hpre hdl hdn
            go_wp2_with (first
              | (at_builtin; refine wpList_append_ints rfl _ _ rfl wr.heap.size _ _ _ rfl HMADE.out (.slice ps d cs) (s.take d) rfl (by have := HPRE.out; rw [HDL.out] at this; exact this) HDN.out (by rw [HDL.out]; unfold maxLen; omega) (by rw [HDL.out]; omega) (by simp) ?_; intro v6 w6 hown6 hg6; rw [HDL.out] at hown6; simp only [Nat.zero_add, List.nil_append] at hown6; have b6 : Below wr.heap.size wr w6 := (hbA.grown hg6 (by simp) (fun j hj => (HMADE.out.lt j hj).1)); obtain ⟨p7, c7, hv7⟩ := row_shp hown6; subst hv7; have HOWN6 := hideP hown6; have HL6 := hideP (HLR.out.below b6); have s6 := b6.size; clear hown6)
              | (at_builtin; refine wpList_append_ints rfl _ _ rfl wr.heap.size _ _ _ rfl HOWN6.out _ l rfl HL6.out HNL.out (by unfold maxLen; omega) (by omega) (by omega) ?_; intro v9 w9 hown9 hg9; obtain ⟨p9, c9, hv9⟩ := row_shp hown9; subst hv9; have HOWN9 := hideP hown9; clear hown9))
            go_ret2
            have hb9 : Below wr.heap.size wr w9 := b6.grown hg9 s6 (fun j hj => (HOWN6.out.lt j hj).1)
            have hrl : (s.take d ++ l).length = d + l.length := by rw [List.length_append, HDL.out]
            refine ⟨.slice p9 (d + l.length) c9, s.take d ++ l, decide ((s.take d ++ l).length ≤ 8), ?_, ?_, ?_, bthen0 bWR hb9⟩
            · rw [hrl]
              congr 1
              simp
              omega
            · rw [hrl, List.map_append]
              exact row_low HOWN9.out bWR.size
            · rw [tl_of HTLV.out h8, show s.length - t.length = d by have := HD.out; have := HTD.out; omega]
              by_cases hc : (s.take d ++ l).length ≤ 8
              · rw [if_pos ⟨HFIT.out, hc⟩, decide_eq_true hc]; rfl
              · rw [if_neg (fun h => hc h.2), decide_eq_false hc]; rfl
      · have hlei : (s.length : Int) < ((q : Nat) : Int) := by omega
        go_wp2
        go_ret2
        refine ⟨_, [], false, rfl, World.ownsRow_nil _ _ _ _, ?_, bT⟩
        rw [tl_of HTLV.out h8, if_neg]
        · rfl
        · intro h
          have h1 := h.1
          unfold fitsS at h1
          simp at h1
          have := HTM.out
          omega
    · have htl : takesLeaves p (P, L, r, C) (13, a) s = none := by unfold takesLeaves; simp [hr, hn]
      have hnb : ((s.length : Int) != 1) = true := by simp; omega
      have HTL := hideP htl
      have hn2 : ¬ (s.length : Int) = 1 := by omega
      have hn3 : (s.length == 1) = false := by simp [hn]
      clear htl
      go_enter Tryz.func90, Tryz.ntmps90
      go_wp2
      go_ret2
      exact ⟨_, [], false, rfl, World.ownsRow_nil _ _ _ _, by unfold tryOp; rw [HTL.out]; rfl, b3.alloc b3.size _⟩
  · by_cases hn : s.length = 0
    · have htl : takesLeaves p (P, L, r, C) (13, a) s = some ([], []) := by unfold takesLeaves; simp [hr, hn]
      have hs0 : s = [] := List.eq_nil_of_length_eq_zero hn
      have HTLV := hideP htl
      have HS0 := hideP hs0
      have hnb : ((s.length : Int) != 0) = false := by simp; omega
      have hni : (s.length : Int) = 0 := by omega
      subst hs0
      clear htl hn hni hnb
      have hbA := (Below.refl W3.heap.size W3).alloc (Nat.le_refl _) (.cells #[] 3)
      have hmade := World.ownsRow_made (base := W3.heap.size) (e := 3) (size := 1) W3 #[] 0 (Nat.le_refl _) (by unfold maxLen; omega) rfl
      have HMADE := hideP hmade
      have hpre := ints_take (k := 0) ((HSw.out.below b3).below hbA) (by simp)
      have HPRE := hideP hpre
      have hdn : NilOk (.slice ps 0 cs) := fun a c h => by cases h; exact HNS.out _ _ rfl
      have HDN := hideP hdn
      clear hmade hpre hdn
      go_enter Tryz.func90, Tryz.ntmps90
      go_wp2
      go_loopw [17] (fun v17 wr => v17 = .int .i64 0 ∧ wr = W3) (fun _ _ => 0)
      case atStart => exact ⟨rfl, rfl⟩
      case round =>
        rename World => wr
        obtain ⟨rfl, hwr⟩ := hrel
        subst hwr
        go_wp2_with (first
          | (at_builtin; refine wpList_append_ints rfl _ _ rfl wr.heap.size _ _ _ rfl HMADE.out (.slice ps 0 cs) [] rfl (by have := HPRE.out; simpa using this) HDN.out (by simp [maxLen]) (by simp) (by simp) ?_; intro v6 w6 hown6 hg6; simp only [List.length_nil, Nat.add_zero, List.map_nil, List.append_nil] at hown6; have b6 : Below wr.heap.size wr w6 := (hbA.grown hg6 (by simp) (fun j hj => (HMADE.out.lt j hj).1)); obtain ⟨p7, c7, hv7⟩ := row_shp hown6; subst hv7; have HOWN6 := hideP hown6; have s6 := b6.size; clear hown6)
          | (at_builtin; refine wpList_append_ints rfl _ _ rfl wr.heap.size _ _ _ rfl HOWN6.out (.slice none 0 0) [] rfl ⟨none, 0, rfl, Nat.zero_le _, fun k b hk => by simp at hk⟩ nilOk_nil (by simp [maxLen]) (by simp) (by omega) ?_; intro v9 w9 hown9 hg9; simp only [List.length_nil, Nat.add_zero, List.map_nil, List.append_nil] at hown9; obtain ⟨p9, c9, hv9⟩ := row_shp hown9; subst hv9; have HOWN9 := hideP hown9; clear hown9))
        go_ret2
        have hb9 : Below wr.heap.size wr w9 := b6.grown hg9 s6 (fun j hj => (HOWN6.out.lt j hj).1)
        refine ⟨.slice p9 0 c9, [], true, rfl, row_low HOWN9.out b3.size, ?_, bthen0 b3 hb9⟩
        rw [tl_of HTLV.out h8]
        simp [fitsS, leS]
    · have htl : takesLeaves p (P, L, r, C) (13, a) s = none := by unfold takesLeaves; simp [hr]; intro h; rw [h] at hn; exact hn rfl
      have hnb : ((s.length : Int) != 0) = true := by rw [bne_iff_ne]; omega
      have HTL := hideP htl
      clear hn htl
      go_enter Tryz.func90, Tryz.ntmps90
      go_wp2
      go_ret2
      exact ⟨_, [], false, rfl, World.ownsRow_nil _ _ _ _, by unfold tryOp; rw [HTL.out]; rfl, b3⟩
end Go.Proofs.YtcadpoknolefpaaGreat
/- The reference's TryOp: dup. -/
namespace Go.Proofs.YtcadpoknolefpaaGreat
open Go.RowKit
set_option linter.unusedSimpArgs false
set_option linter.unusedVariables false
set_option maxRecDepth 100000 in
set_option maxHeartbeats 4000000 in
theorem tryDup_any (c a : Int) (p : List Fn) (f : Fn) (s : List Int) (vs pv c0 c1 c2 c3 : Value) (w : World) (h8 : s.length ≤ 8) (hvs : IntsAt w vs s) (hnil : NilOk vs) (hcap : ∀ p n c, vs = .slice p n c → n ≤ c) (hp : FnsAt w pv p) (hcp : CapAt w pv) (hf : FnAt w c0 c1 c2 c3 f) (ho : OkOp p f (c, a)) (hc : c = 3) : Calls Tryz.prog 90 #[.agg #[pv], .agg #[c0, c1, c2, c3], .agg #[.int .i64 c, .int .i64 a], vs] w (TryP p f (c, a) s w) := by
  subst hc
  obtain ⟨P, L, r, C⟩ := f
  obtain ⟨rfl, hI, rfl, hO⟩ := id hf
  simp only at hI hO
  obtain ⟨p1, q1, rfl, _, hLc⟩ := id hI
  obtain ⟨p3, q3, rfl, _, _⟩ := id hO
  obtain ⟨pp, qp, rfl, _, hpc⟩ := id hp
  obtain ⟨ps, cs, rfl, _, _⟩ := id hvs
  have hcs : s.length ≤ cs := hcap _ _ _ rfl
  obtain ⟨W3, hW3⟩ : ∃ W3, ((w.alloc (.cells #[.slice pp p.length qp] 24)).alloc (.cells #[.int .i64 P, .slice p1 L.length q1, .int .i64 r, .slice p3 C.length q3] 78)).alloc (.cells #[.int .i64 3, .int .i64 a] 43) = W3 := ⟨_, rfl⟩
  have b3 : Below w.heap.size w W3 := by rw [← hW3]; exact three_below w _ _ _
  have x0 : W3.heap[w.heap.size]? = some (.cells #[.slice pp p.length qp] 24 (0, 0)) := by rw [← hW3]; exact (three_new w _ _ _).1
  have x1 : W3.heap[w.heap.size + 1]? = some (.cells #[.int .i64 P, .slice p1 L.length q1, .int .i64 r, .slice p3 C.length q3] 78 (0, 0)) := by rw [← hW3]; exact (three_new w _ _ _).2.1
  have x2 : W3.heap[w.heap.size + 1 + 1]? = some (.cells #[.int .i64 3, .int .i64 a] 43 (0, 0)) := by rw [← hW3]; exact (three_new w _ _ _).2.2
  have k0 := cell_at' x0 0
  have f0 := cell_at' x1 0
  have f1 := cell_at' x1 1
  have f2 := cell_at' x1 2
  have f3 := cell_at' x1 3
  have o0 := cell_at' x2 0
  have o1 := cell_at' x2 1
  simp at k0 f0 f1 f2 f3 o0 o1
  have lx0 := heap_lt x0
  have lx1 := heap_lt x1
  have lx2 := heap_lt x2
  have HSw := hideP hvs
  have HNS := hideP hnil
  have HP3 := hideP (hp.below b3)
  have HC3 := hideP (hcp.below hp b3)
  have HI3 := hideP (hI.below b3)
  have HOK := hideP ho
  clear ho hvs hnil hcap hp hcp hf hI hO hLc hpc x0 x1 x2
  by_cases hn : s.length < 1
  · have hni : (s.length : Int) < 1 := by omega
    have htl : takesLeaves p (P, L, r, C) (3, a) s = none := by unfold takesLeaves; simp [hn]
    have HTL := hideP htl
    clear htl
    go_enter Tryz.func90, Tryz.ntmps90
    go_wp2
    go_ret2
    exact ⟨_, [], false, rfl, World.ownsRow_nil _ _ _ _, by unfold tryOp; rw [HTL.out]; rfl, b3⟩
  · have hni : ¬ (s.length : Int) < 1 := by omega
    obtain ⟨m, hm⟩ : ∃ m : Nat, s.length = m + 1 := ⟨s.length - 1, by omega⟩
    obtain ⟨x, hx⟩ := at_of_lt (l := s) (k := m) (by omega)
    have hdr : s.drop m = [x] := by
      rw [List.drop_eq_getElem_cons (by omega), List.drop_of_length_le (by omega)]
      congr 1
      exact (List.getElem?_eq_some_iff.1 hx).2
    have htl : takesLeaves p (P, L, r, C) (3, a) s = some (s.drop m, [x, x]) := by
      have e1 : s.length - 1 = m := by omega
      unfold takesLeaves
      simp only [if_neg hn, e1, hdr]
      rfl
    have hmi : (s.length : Int) - 1 = (m : Int) := by omega
    have hmw : IntKind.i64.wrap ((s.length : Int) - 1) = (m : Int) := by rw [IntKind.wrap_i64]; omega
    have hml : (m : Int) < (s.length : Int) := by omega
    have hm0 : (0 : Int) ≤ (m : Int) := by omega
    have hT := (ints_drop (m := m) HSw.out (by omega)).below b3
    obtain ⟨p', q', e', _, hc'⟩ := HSw.out.below b3
    cases e'
    obtain ⟨bs, os, hps, _, gx⟩ := hc' m x hx
    subst hps
    have htm : (s.drop m).length = s.length - m := List.length_drop
    have HM := hideP hm
    have HTLV := hideP htl
    have HT0 := hideP hT
    have HTM0 := hideP htm
    have hq1 : s.length - m ≤ 8 := by omega
    clear htl hm hT htm hn hdr hx hc'
    rw [Option.map_some, add_at] at HT0
    go_enter Tryz.func90, Tryz.ntmps90
    go_upto_region 15 with fail
    go_region
    all_goals go_upto_region 30 with fail
    all_goals
      have bW : Below W3.heap.size W3 (W3.alloc (.cells #[.int .i64 x, .int .i64 x] 3)).drew := ((Below.refl _ W3).alloc (Nat.le_refl _) _).drew
      have bT0 : Below w.heap.size w (W3.alloc (.cells #[.int .i64 x, .int .i64 x] 3)).drew := bthen0 b3 bW
      have HT1 := hideP (HT0.out.below bW)
      have HLV0 : Hid (IntsAt (W3.alloc (.cells #[.int .i64 x, .int .i64 x] 3)).drew (.slice (some ⟨W3.heap.size, 0, none⟩) 2 2) [x, x]) := (ints_lit (l := [x, x]) 2 2 (World.alloc_heap_new W3 _) rfl (by unfold maxLen; simp)).below ((Below.refl _ _).drew)
      have HNL : Hid (NilOk (.slice (some ⟨W3.heap.size, 0, none⟩) 2 2)) := nilOk_some _ _ _
      generalize (W3.alloc (.cells #[.int .i64 x, .int .i64 x] 3)).drew = wT at *
      generalize s.drop m = t at *
      generalize (some (⟨bs, os + m, none⟩ : Addr)) = pt at *
      generalize (some (⟨bs, os, none⟩ : Addr)) = ps at *
      generalize s.length - m = q at *
      obtain ⟨l, hl⟩ : ∃ l : List Int, l = [x, x] := ⟨_, rfl⟩
      rw [← hl] at HTLV HLV0
      have HLV := HLV0
      have hl8 : l.length ≤ 3 := by subst hl; simp
      have HLN := hideP hl
      have bT := bT0
      have HT := HT1
      have HTM := HTM0
      clear HT0 HTM0 HT1 HLV0 bT0 hl bW
      by_cases hle : q ≤ s.length
      · have hlei : ¬ ((s.length : Int) < ((q : Nat) : Int)) := by omega
        have hled : decide ((s.length : Int) < ((q : Nat) : Int)) = false := by simp; omega
        have hled2 : decide (s.length < q) = false := by simp; omega
        have htd : t.length = q := HTM.out
        obtain ⟨d, hd⟩ : ∃ d : Nat, s.length = d + q := ⟨s.length - q, by omega⟩
        have HD := hideP hd
        have hdi : (s.length : Int) - ((q : Nat) : Int) = (d : Int) := by omega
        have hd8 : d ≤ 8 := by omega
        have HTD := hideP htd
        clear hd htd
        go_wp2
        go_loopw [17] (fun v17 wr => ∃ k : Nat, k ≤ q ∧ v17 = .int .i64 k ∧ leS ((s.drop d).take k) (t.take k) = true ∧ Below wT.heap.size wT wr) (fun v17 _ => q - (intOf v17).toNat)
        case atStart => exact ⟨0, Nat.zero_le _, rfl, by simp [leS], Below.refl _ _⟩
        case round =>
          rename World => wr
          obtain ⟨k, hk, rfl, hle2, bR⟩ := hrel
          have HLE := hideP hle2
          clear hle2
          have bWR := bthen0 bT bR
          by_cases hkt : k < q
          · have hkti : (k : Int) < ((q : Nat) : Int) := by omega
            obtain ⟨y, hy⟩ := at_of_lt (l := t) (k := k) (by have := HTD.out; omega)
            obtain ⟨x, hx⟩ := at_of_lt (l := s) (k := d + k) (by have := HD.out; omega)
            obtain ⟨p1, q1, e1, _, g1⟩ := HSw.out.below bWR
            obtain ⟨p2, q2, e2, _, g2⟩ := HT.out.below bR
            cases e1
            cases e2
            obtain ⟨ba, oa, hpa, _, ga⟩ := g1 (d + k) x hx
            obtain ⟨bb, ob, hpb, _, gb⟩ := g2 k y hy
            subst hpa
            subst hpb
            have hdk : (d : Int) + (k : Int) = ((d + k : Nat) : Int) := by omega
            have hdk1 : ((d + k : Nat) : Int) < (s.length : Int) := by have := HD.out; omega
            have hdk2 : (d : Int) + (k : Int) < (s.length : Int) := by omega
            have hwk : IntKind.i64.wrap ((d : Int) + (k : Int)) = (d : Int) + (k : Int) := by rw [IntKind.wrap_i64]; omega
            have hwd : IntKind.i64.wrap (d : Int) = (d : Int) := by rw [IntKind.wrap_i64]; omega
            have htn : ((d : Int) + (k : Int)).toNat = d + k := by omega
            have hdk3 : (0 : Int) ≤ (d : Int) + (k : Int) := by omega
            have hwk2 : IntKind.i64.wrap ((s.length : Int) - ((q : Nat) : Int)) = (d : Int) := by rw [IntKind.wrap_i64]; omega
            have hk0 : (0 : Int) ≤ (k : Int) := by omega
            have hd0 : (0 : Int) ≤ (d : Int) := by omega
            have hix : decide ((0 : Int) ≤ (d : Int) + (k : Int) ∧ (d : Int) + (k : Int) < (s.length : Int)) = true := by simp; omega
            have hst2 : leS ((s.drop d).take (k + 1)) (t.take (k + 1)) = (leS ((s.drop d).take k) (t.take k) && standsB x y) := by
              have hx2 : (s.drop d)[k]? = some x := by rw [List.getElem?_drop]; exact hx
              rw [take_snoc _ k x hx2, take_snoc _ k y hy]
              exact leS_snoc (by simp only [List.length_take, List.length_drop]; have := HD.out; have := HTD.out; omega)
            have HST2 := hideP hst2
            have HY := hideP hy
            clear g1 g2 hx hy hst2 hdk
            have D1 : Hid (∀ W : World, Calls Tryz.prog 134 #[.int .i64 x, .int .i64 y] W fun e w' => e = .returned (.bool (standsB x y)) ∧ w' = W) := fun W => standR_any x y W
            cases hsb : standsB x y
            · rw [hsb] at D1
              go_wp2_with fail
              go_region_held3 (fun W => W.cell? ⟨ba, oa + (d + k), none⟩ = some (.int .i64 x) ∧ W.cell? ⟨bb, ob + k, none⟩ = some (.int .i64 y)) (go_keep)
                (first
                | (go_at_call 134; refine (D1.out _).mono ?_; rintro e wq ⟨rfl, hwq⟩; have hwq := hwq.symm; subst hwq))
              go_wp2
              go_ret2
              refine ⟨_, [], false, rfl, World.ownsRow_nil _ _ _ _, ?_, bWR.trans ⟨rfl, rfl, rfl, Nat.le_refl _, fun _ _ => rfl⟩⟩
              rw [tl_of HTLV.out h8, if_neg]
              · rfl
              · intro h
                have h1 := h.1
                unfold fitsS at h1
                rw [Bool.and_eq_true] at h1
                have h2 := leS_take (k + 1) h1.2
                have hdd : s.length - t.length = d := by have := HD.out; have := HTD.out; omega
                rw [hdd] at h2
                rw [HST2.out, hsb] at h2
                simp at h2
            · rw [hsb] at D1
              go_wp2_with fail
              go_region_held3 (fun W => W.cell? ⟨ba, oa + (d + k), none⟩ = some (.int .i64 x) ∧ W.cell? ⟨bb, ob + k, none⟩ = some (.int .i64 y)) (go_keep)
                (first
                | (go_at_call 134; refine (D1.out _).mono ?_; rintro e wq ⟨rfl, hwq⟩; have hwq := hwq.symm; subst hwq))
              go_wp2
              go_roundw
              case rel => exact ⟨k + 1, by omega, by go_num, by rw [HST2.out, HLE.out, hsb]; rfl, bR.trans ⟨rfl, rfl, rfl, Nat.le_refl _, fun _ _ => rfl⟩⟩
              case measure => simp [intOf]; omega
          · have hkti : ¬ (k : Int) < ((q : Nat) : Int) := by omega
            have hfit : fitsS s t = true := by
              have h1 := HLE.out
              have h2 := HD.out
              have h3 := HTD.out
              rw [List.take_of_length_le (by simp; omega), List.take_of_length_le (by omega)] at h1
              unfold fitsS
              rw [show s.length - t.length = d by omega, h1]
              simp; omega
            have HFIT := hideP hfit
            have hbA := (Below.refl wr.heap.size wr).alloc (Nat.le_refl _) (.cells #[] 3)
            have hmade := World.ownsRow_made (base := wr.heap.size) (e := 3) (size := 1) wr #[] 0 (Nat.le_refl _) (by unfold maxLen; omega) rfl
            have HMADE := hideP hmade
            have hpre := ints_take (k := d) ((HSw.out.below bWR).below hbA) (by have := HD.out; omega)
            have hdl : (s.take d).length = d := by rw [List.length_take]; have := HD.out; omega
            rw [← hdl] at hpre
            have HPRE := hideP hpre
            have HDL := hideP hdl
            have hdn : NilOk (.slice ps d cs) := fun a c h => by cases h; exact HNS.out _ _ rfl
            have HDN := hideP hdn
            have hdc : d ≤ cs := by have := HD.out; omega
            have HLR := hideP (HLV.out.below bR)
            clear hfit hmade hpre hdl hdn
            go_wp2_with (first
              | (at_builtin; refine wpList_append_ints rfl _ _ rfl wr.heap.size _ _ _ rfl HMADE.out (.slice ps d cs) (s.take d) rfl (by have := HPRE.out; rw [HDL.out] at this; exact this) HDN.out (by rw [HDL.out]; unfold maxLen; omega) (by rw [HDL.out]; omega) (by simp) ?_; intro v6 w6 hown6 hg6; rw [HDL.out] at hown6; simp only [Nat.zero_add, List.nil_append] at hown6; have b6 : Below wr.heap.size wr w6 := (hbA.grown hg6 (by simp) (fun j hj => (HMADE.out.lt j hj).1)); obtain ⟨p7, c7, hv7⟩ := row_shp hown6; subst hv7; have HOWN6 := hideP hown6; have HL6 := hideP (HLR.out.below b6); have s6 := b6.size; clear hown6)
              | (at_builtin; refine wpList_append_ints rfl _ _ rfl wr.heap.size _ _ _ rfl HOWN6.out _ l rfl HL6.out HNL.out (by unfold maxLen; omega) (by omega) (by omega) ?_; intro v9 w9 hown9 hg9; obtain ⟨p9, c9, hv9⟩ := row_shp hown9; subst hv9; have HOWN9 := hideP hown9; clear hown9))
            go_ret2
            have hb9 : Below wr.heap.size wr w9 := b6.grown hg9 s6 (fun j hj => (HOWN6.out.lt j hj).1)
            have hrl : (s.take d ++ l).length = d + l.length := by rw [List.length_append, HDL.out]
            refine ⟨.slice p9 (d + l.length) c9, s.take d ++ l, decide ((s.take d ++ l).length ≤ 8), ?_, ?_, ?_, bthen0 bWR hb9⟩
            · rw [hrl]
              congr 1
              simp
              omega
            · rw [hrl, List.map_append]
              exact row_low HOWN9.out bWR.size
            · rw [tl_of HTLV.out h8, show s.length - t.length = d by have := HD.out; have := HTD.out; omega]
              by_cases hc : (s.take d ++ l).length ≤ 8
              · rw [if_pos ⟨HFIT.out, hc⟩, decide_eq_true hc]; rfl
              · rw [if_neg (fun h => hc h.2), decide_eq_false hc]; rfl
      · have hlei : (s.length : Int) < ((q : Nat) : Int) := by omega
        go_wp2
        go_ret2
        refine ⟨_, [], false, rfl, World.ownsRow_nil _ _ _ _, ?_, bT⟩
        rw [tl_of HTLV.out h8, if_neg]
        · rfl
        · intro h
          have h1 := h.1
          unfold fitsS at h1
          simp at h1
          have := HTM.out
          omega
end Go.Proofs.YtcadpoknolefpaaGreat
/- The reference's TryOp: call. -/
namespace Go.Proofs.YtcadpoknolefpaaGreat
open Go.RowKit
set_option linter.unusedSimpArgs false
set_option linter.unusedVariables false
set_option maxRecDepth 100000 in
set_option maxHeartbeats 4000000 in
theorem tryCall_any (c a : Int) (p : List Fn) (f : Fn) (s : List Int) (vs pv c0 c1 c2 c3 : Value) (w : World) (h8 : s.length ≤ 8) (hvs : IntsAt w vs s) (hnil : NilOk vs) (hcap : ∀ p n c, vs = .slice p n c → n ≤ c) (hp : FnsAt w pv p) (hcp : CapAt w pv) (hf : FnAt w c0 c1 c2 c3 f) (ho : OkOp p f (c, a)) (hc : c = 12) : Calls Tryz.prog 90 #[.agg #[pv], .agg #[c0, c1, c2, c3], .agg #[.int .i64 c, .int .i64 a], vs] w (TryP p f (c, a) s w) := by
  subst hc
  obtain ⟨P, L, r, C⟩ := f
  obtain ⟨rfl, hI, rfl, hO⟩ := id hf
  simp only at hI hO
  obtain ⟨p1, q1, rfl, _, hLc⟩ := id hI
  obtain ⟨p3, q3, rfl, _, _⟩ := id hO
  obtain ⟨pp, qp, rfl, _, hpc⟩ := id hp
  obtain ⟨ps, cs, rfl, _, _⟩ := id hvs
  have hcs : s.length ≤ cs := hcap _ _ _ rfl
  obtain ⟨W3, hW3⟩ : ∃ W3, ((w.alloc (.cells #[.slice pp p.length qp] 24)).alloc (.cells #[.int .i64 P, .slice p1 L.length q1, .int .i64 r, .slice p3 C.length q3] 78)).alloc (.cells #[.int .i64 12, .int .i64 a] 43) = W3 := ⟨_, rfl⟩
  have b3 : Below w.heap.size w W3 := by rw [← hW3]; exact three_below w _ _ _
  have x0 : W3.heap[w.heap.size]? = some (.cells #[.slice pp p.length qp] 24 (0, 0)) := by rw [← hW3]; exact (three_new w _ _ _).1
  have x1 : W3.heap[w.heap.size + 1]? = some (.cells #[.int .i64 P, .slice p1 L.length q1, .int .i64 r, .slice p3 C.length q3] 78 (0, 0)) := by rw [← hW3]; exact (three_new w _ _ _).2.1
  have x2 : W3.heap[w.heap.size + 1 + 1]? = some (.cells #[.int .i64 12, .int .i64 a] 43 (0, 0)) := by rw [← hW3]; exact (three_new w _ _ _).2.2
  have k0 := cell_at' x0 0
  have f0 := cell_at' x1 0
  have f1 := cell_at' x1 1
  have f2 := cell_at' x1 2
  have f3 := cell_at' x1 3
  have o0 := cell_at' x2 0
  have o1 := cell_at' x2 1
  simp at k0 f0 f1 f2 f3 o0 o1
  have lx0 := heap_lt x0
  have lx1 := heap_lt x1
  have lx2 := heap_lt x2
  have HSw := hideP hvs
  have HNS := hideP hnil
  have HP3 := hideP (hp.below b3)
  have HC3 := hideP (hcp.below hp b3)
  have HI3 := hideP (hI.below b3)
  have HOK := hideP ho
  obtain ⟨ha0, ha1⟩ := ho.call rfl
  simp only at ha0 ha1
  obtain ⟨an, rfl⟩ : ∃ an : Nat, a = an := ⟨a.toNat, by omega⟩
  obtain ⟨g, hg⟩ := at_of_lt (l := p) (k := an) (by omega)
  obtain ⟨hG0, hG1, hG2, hG3⟩ := ho.fns g (List.mem_of_getElem? hg)
  obtain ⟨bp, op_, d0, d1, d2, d3, hpp, hltp, y0, y1, y2, y3, hgf⟩ := hpc an g hg
  subst hpp
  obtain ⟨G, LL, gr, GC⟩ := g
  simp only at hG0 hG1 hG2 hG3
  obtain ⟨e0, hgI, e2, hgO⟩ := id hgf
  simp only at e0 hgI e2 hgO
  obtain ⟨pg, qg, eg, _, _⟩ := id hgI
  obtain ⟨ph, qh, eh, _, _⟩ := id hgO
  subst e0 e2 eg eh
  have hqg : LL.length ≤ qg := hcp bp op_ p.length qp an pg LL.length qg rfl (by omega) y1
  obtain ⟨kp, rfl⟩ : ∃ kp : Nat, G = kp := ⟨G.toNat, by omega⟩
  have hkp : kp ≤ LL.length := by omega
  have hkq : kp ≤ qg := by omega
  have htl : takesLeaves p (P, L, r, C) (12, an) s = some (LL.take kp, if 0 < gr then [gr] else []) := by
    unfold takesLeaves
    simp [hg]
  have z0 := (b3.cell (p := ⟨bp, op_ + an * 4, none⟩) hltp).trans y0
  have z1 := (b3.cell (p := ⟨bp, op_ + an * 4 + 1, none⟩) hltp).trans y1
  have z2 := (b3.cell (p := ⟨bp, op_ + an * 4 + 2, none⟩) hltp).trans y2
  have z3 := (b3.cell (p := ⟨bp, op_ + an * 4 + 3, none⟩) hltp).trans y3
  have HTLV := hideP htl
  have HGI := hideP hgI
  clear htl hg hgf hgI hgO y0 y1 y2 y3
  clear ho hvs hnil hcap hp hcp hf hI hO hLc hpc x0 x1 x2
  by_cases hgr : 0 < gr
  · rw [if_pos hgr] at HTLV
    go_enter Tryz.func90, Tryz.ntmps90
    go_upto_region 30 with fail
    have bW : Below W3.heap.size W3 ((W3.alloc (.cells #[.int .i64 kp, .slice pg LL.length qg, .int .i64 gr, .slice ph GC.length qh] 78)).alloc (.cells #[.int .i64 gr] 3)) := ((Below.refl _ W3).alloc (Nat.le_refl _) _).alloc (by simp) _
    have bT := bthen0 b3 bW
    have hT := ((ints_take HGI.out hkp).below b3).below bW
    have htl2 : (LL.take kp).length = kp := by rw [List.length_take]; omega
    have hT2 : IntsAt ((W3.alloc (.cells #[.int .i64 kp, .slice pg LL.length qg, .int .i64 gr, .slice ph GC.length qh] 78)).alloc (.cells #[.int .i64 gr] 3)) (.slice pg (LL.take kp).length qg) (LL.take kp) := by rw [htl2]; exact hT
    have HT := hideP hT2
    have HTM := hideP htl2
    have HLV0 : Hid (IntsAt ((W3.alloc (.cells #[.int .i64 kp, .slice pg LL.length qg, .int .i64 gr, .slice ph GC.length qh] 78)).alloc (.cells #[.int .i64 gr] 3)) (.slice (some ⟨W3.heap.size + 1, 0, none⟩) 1 1) [gr]) := ints_lit (l := [gr]) 1 1 (new_two W3 _ _) rfl (by unfold maxLen; simp)
    have HNL : Hid (NilOk (.slice (some ⟨W3.heap.size + 1, 0, none⟩) 1 1)) := nilOk_some _ _ _
    clear hT hT2 htl2
    generalize (W3.alloc (.cells #[.int .i64 kp, .slice pg LL.length qg, .int .i64 gr, .slice ph GC.length qh] 78)).alloc (.cells #[.int .i64 gr] 3) = wT at *
    generalize LL.take kp = t at *
    obtain ⟨l, hl⟩ : ∃ l : List Int, l = [gr] := ⟨_, rfl⟩
    rw [← hl] at HTLV HLV0
    have HLV := HLV0
    have hl8 : l.length ≤ 3 := by subst hl; simp
    have HLN := hideP hl
    have hkp8 : kp ≤ 8 := by omega
    clear hl HLV0 bW
    by_cases hle : kp ≤ s.length
    · have hlei : ¬ ((s.length : Int) < ((kp : Nat) : Int)) := by omega
      have hled : decide ((s.length : Int) < ((kp : Nat) : Int)) = false := by simp; omega
      have hled2 : decide (s.length < kp) = false := by simp; omega
      have htd : t.length = kp := HTM.out
      obtain ⟨d, hd⟩ : ∃ d : Nat, s.length = d + kp := ⟨s.length - kp, by omega⟩
      have HD := hideP hd
      have hdi : (s.length : Int) - ((kp : Nat) : Int) = (d : Int) := by omega
      have hd8 : d ≤ 8 := by omega
      have HTD := hideP htd
      clear hd htd
      go_wp2
      go_loopw [17] (fun v17 wr => ∃ k : Nat, k ≤ kp ∧ v17 = .int .i64 k ∧ leS ((s.drop d).take k) (t.take k) = true ∧ Below wT.heap.size wT wr) (fun v17 _ => kp - (intOf v17).toNat)
      case atStart => exact ⟨0, Nat.zero_le _, rfl, by simp [leS], Below.refl _ _⟩
      case round =>
        rename World => wr
        obtain ⟨k, hk, rfl, hle2, bR⟩ := hrel
        have HLE := hideP hle2
        clear hle2
        have bWR := bthen0 bT bR
        by_cases hkt : k < kp
        · have hkti : (k : Int) < ((kp : Nat) : Int) := by omega
          obtain ⟨y, hy⟩ := at_of_lt (l := t) (k := k) (by have := HTD.out; omega)
          obtain ⟨x, hx⟩ := at_of_lt (l := s) (k := d + k) (by have := HD.out; omega)
          obtain ⟨p1, q1, e1, _, g1⟩ := HSw.out.below bWR
          obtain ⟨p2, q2, e2, _, g2⟩ := HT.out.below bR
          cases e1
          cases e2
          obtain ⟨ba, oa, hpa, _, ga⟩ := g1 (d + k) x hx
          obtain ⟨bb, ob, hpb, _, gb⟩ := g2 k y hy
          subst hpa
          subst hpb
          have hdk : (d : Int) + (k : Int) = ((d + k : Nat) : Int) := by omega
          have hdk1 : ((d + k : Nat) : Int) < (s.length : Int) := by have := HD.out; omega
          have hdk2 : (d : Int) + (k : Int) < (s.length : Int) := by omega
          have hwk : IntKind.i64.wrap ((d : Int) + (k : Int)) = (d : Int) + (k : Int) := by rw [IntKind.wrap_i64]; omega
          have hwd : IntKind.i64.wrap (d : Int) = (d : Int) := by rw [IntKind.wrap_i64]; omega
          have htn : ((d : Int) + (k : Int)).toNat = d + k := by omega
          have hdk3 : (0 : Int) ≤ (d : Int) + (k : Int) := by omega
          have hwk2 : IntKind.i64.wrap ((s.length : Int) - ((kp : Nat) : Int)) = (d : Int) := by rw [IntKind.wrap_i64]; omega
          have hk0 : (0 : Int) ≤ (k : Int) := by omega
          have hd0 : (0 : Int) ≤ (d : Int) := by omega
          have hix : decide ((0 : Int) ≤ (d : Int) + (k : Int) ∧ (d : Int) + (k : Int) < (s.length : Int)) = true := by simp; omega
          have hst2 : leS ((s.drop d).take (k + 1)) (t.take (k + 1)) = (leS ((s.drop d).take k) (t.take k) && standsB x y) := by
            have hx2 : (s.drop d)[k]? = some x := by rw [List.getElem?_drop]; exact hx
            rw [take_snoc _ k x hx2, take_snoc _ k y hy]
            exact leS_snoc (by simp only [List.length_take, List.length_drop]; have := HD.out; have := HTD.out; omega)
          have HST2 := hideP hst2
          have HY := hideP hy
          clear g1 g2 hx hy hst2 hdk
          have D1 : Hid (∀ W : World, Calls Tryz.prog 134 #[.int .i64 x, .int .i64 y] W fun e w' => e = .returned (.bool (standsB x y)) ∧ w' = W) := fun W => standR_any x y W
          cases hsb : standsB x y
          · rw [hsb] at D1
            go_wp2_with fail
            go_region_held3 (fun W => W.cell? ⟨ba, oa + (d + k), none⟩ = some (.int .i64 x) ∧ W.cell? ⟨bb, ob + k, none⟩ = some (.int .i64 y)) (go_keep)
              (first
              | (go_at_call 134; refine (D1.out _).mono ?_; rintro e wq ⟨rfl, hwq⟩; have hwq := hwq.symm; subst hwq))
            go_wp2
            go_ret2
            refine ⟨_, [], false, rfl, World.ownsRow_nil _ _ _ _, ?_, bWR.trans ⟨rfl, rfl, rfl, Nat.le_refl _, fun _ _ => rfl⟩⟩
            rw [tl_of HTLV.out h8, if_neg]
            · rfl
            · intro h
              have h1 := h.1
              unfold fitsS at h1
              rw [Bool.and_eq_true] at h1
              have h2 := leS_take (k + 1) h1.2
              have hdd : s.length - t.length = d := by have := HD.out; have := HTD.out; omega
              rw [hdd] at h2
              rw [HST2.out, hsb] at h2
              simp at h2
          · rw [hsb] at D1
            go_wp2_with fail
            go_region_held3 (fun W => W.cell? ⟨ba, oa + (d + k), none⟩ = some (.int .i64 x) ∧ W.cell? ⟨bb, ob + k, none⟩ = some (.int .i64 y)) (go_keep)
              (first
              | (go_at_call 134; refine (D1.out _).mono ?_; rintro e wq ⟨rfl, hwq⟩; have hwq := hwq.symm; subst hwq))
            go_wp2
            go_roundw
            case rel => exact ⟨k + 1, by omega, by go_num, by rw [HST2.out, HLE.out, hsb]; rfl, bR.trans ⟨rfl, rfl, rfl, Nat.le_refl _, fun _ _ => rfl⟩⟩
            case measure => simp [intOf]; omega
        · have hkti : ¬ (k : Int) < ((kp : Nat) : Int) := by omega
          have hfit : fitsS s t = true := by
            have h1 := HLE.out
            have h2 := HD.out
            have h3 := HTD.out
            rw [List.take_of_length_le (by simp; omega), List.take_of_length_le (by omega)] at h1
            unfold fitsS
            rw [show s.length - t.length = d by omega, h1]
            simp; omega
          have HFIT := hideP hfit
          have hbA := (Below.refl wr.heap.size wr).alloc (Nat.le_refl _) (.cells #[] 3)
          have hmade := World.ownsRow_made (base := wr.heap.size) (e := 3) (size := 1) wr #[] 0 (Nat.le_refl _) (by unfold maxLen; omega) rfl
          have HMADE := hideP hmade
          have hpre := ints_take (k := d) ((HSw.out.below bWR).below hbA) (by have := HD.out; omega)
          have hdl : (s.take d).length = d := by rw [List.length_take]; have := HD.out; omega
          rw [← hdl] at hpre
          have HPRE := hideP hpre
          have HDL := hideP hdl
          have hdn : NilOk (.slice ps d cs) := fun a c h => by cases h; exact HNS.out _ _ rfl
          have HDN := hideP hdn
          have hdc : d ≤ cs := by have := HD.out; omega
          have HLR := hideP (HLV.out.below bR)
          clear hfit hmade hpre hdl hdn
          go_wp2_with (first
            | (at_builtin; refine wpList_append_ints rfl _ _ rfl wr.heap.size _ _ _ rfl HMADE.out (.slice ps d cs) (s.take d) rfl (by have := HPRE.out; rw [HDL.out] at this; exact this) HDN.out (by rw [HDL.out]; unfold maxLen; omega) (by rw [HDL.out]; omega) (by simp) ?_; intro v6 w6 hown6 hg6; rw [HDL.out] at hown6; simp only [Nat.zero_add, List.nil_append] at hown6; have b6 : Below wr.heap.size wr w6 := (hbA.grown hg6 (by simp) (fun j hj => (HMADE.out.lt j hj).1)); obtain ⟨p7, c7, hv7⟩ := row_shp hown6; subst hv7; have HOWN6 := hideP hown6; have HL6 := hideP (HLR.out.below b6); have s6 := b6.size; clear hown6)
            | (at_builtin; refine wpList_append_ints rfl _ _ rfl wr.heap.size _ _ _ rfl HOWN6.out _ l rfl HL6.out HNL.out (by unfold maxLen; omega) (by omega) (by omega) ?_; intro v9 w9 hown9 hg9; obtain ⟨p9, c9, hv9⟩ := row_shp hown9; subst hv9; have HOWN9 := hideP hown9; clear hown9))
          go_ret2
          have hb9 : Below wr.heap.size wr w9 := b6.grown hg9 s6 (fun j hj => (HOWN6.out.lt j hj).1)
          have hrl : (s.take d ++ l).length = d + l.length := by rw [List.length_append, HDL.out]
          refine ⟨.slice p9 (d + l.length) c9, s.take d ++ l, decide ((s.take d ++ l).length ≤ 8), ?_, ?_, ?_, bthen0 bWR hb9⟩
          · rw [hrl]
            congr 1
            simp
            omega
          · rw [hrl, List.map_append]
            exact row_low HOWN9.out bWR.size
          · rw [tl_of HTLV.out h8, show s.length - t.length = d by have := HD.out; have := HTD.out; omega]
            by_cases hc : (s.take d ++ l).length ≤ 8
            · rw [if_pos ⟨HFIT.out, hc⟩, decide_eq_true hc]; rfl
            · rw [if_neg (fun h => hc h.2), decide_eq_false hc]; rfl
    · have hlei : (s.length : Int) < ((kp : Nat) : Int) := by omega
      go_wp2
      go_ret2
      refine ⟨_, [], false, rfl, World.ownsRow_nil _ _ _ _, ?_, bT⟩
      rw [tl_of HTLV.out h8, if_neg]
      · rfl
      · intro h
        have h1 := h.1
        unfold fitsS at h1
        simp at h1
        have := HTM.out
        omega
  · rw [if_neg hgr] at HTLV
    go_enter Tryz.func90, Tryz.ntmps90
    go_upto_region 30 with fail
    have bW : Below W3.heap.size W3 (W3.alloc (.cells #[.int .i64 kp, .slice pg LL.length qg, .int .i64 gr, .slice ph GC.length qh] 78)) := (Below.refl _ W3).alloc (Nat.le_refl _) _
    have bT := bthen0 b3 bW
    have hT := ((ints_take HGI.out hkp).below b3).below bW
    have htl2 : (LL.take kp).length = kp := by rw [List.length_take]; omega
    have hT2 : IntsAt (W3.alloc (.cells #[.int .i64 kp, .slice pg LL.length qg, .int .i64 gr, .slice ph GC.length qh] 78)) (.slice pg (LL.take kp).length qg) (LL.take kp) := by rw [htl2]; exact hT
    have HT := hideP hT2
    have HTM := hideP htl2
    clear hT hT2 htl2
    generalize W3.alloc (.cells #[.int .i64 kp, .slice pg LL.length qg, .int .i64 gr, .slice ph GC.length qh] 78) = wT at *
    generalize LL.take kp = t at *
    have hkp8 : kp ≤ 8 := by omega
    obtain ⟨l, hl⟩ : ∃ l : List Int, l = [] := ⟨_, rfl⟩
    have HLV : Hid (IntsAt wT (.slice none 0 0) l) := by subst hl; exact ⟨none, 0, rfl, Nat.zero_le _, fun k b hk => by simp at hk⟩
    have HNL : Hid (NilOk (.slice none 0 0)) := nilOk_nil
    have hl8 : l.length ≤ 3 := by subst hl; simp
    rw [← hl] at HTLV
    have HLN := hideP hl
    clear hl
    by_cases hle : kp ≤ s.length
    · have hlei : ¬ ((s.length : Int) < ((kp : Nat) : Int)) := by omega
      have hled : decide ((s.length : Int) < ((kp : Nat) : Int)) = false := by simp; omega
      have hled2 : decide (s.length < kp) = false := by simp; omega
      have htd : t.length = kp := HTM.out
      obtain ⟨d, hd⟩ : ∃ d : Nat, s.length = d + kp := ⟨s.length - kp, by omega⟩
      have HD := hideP hd
      have hdi : (s.length : Int) - ((kp : Nat) : Int) = (d : Int) := by omega
      have hd8 : d ≤ 8 := by omega
      have HTD := hideP htd
      clear hd htd
      go_wp2
      go_loopw [17] (fun v17 wr => ∃ k : Nat, k ≤ kp ∧ v17 = .int .i64 k ∧ leS ((s.drop d).take k) (t.take k) = true ∧ Below wT.heap.size wT wr) (fun v17 _ => kp - (intOf v17).toNat)
      case atStart => exact ⟨0, Nat.zero_le _, rfl, by simp [leS], Below.refl _ _⟩
      case round =>
        rename World => wr
        obtain ⟨k, hk, rfl, hle2, bR⟩ := hrel
        have HLE := hideP hle2
        clear hle2
        have bWR := bthen0 bT bR
        by_cases hkt : k < kp
        · have hkti : (k : Int) < ((kp : Nat) : Int) := by omega
          obtain ⟨y, hy⟩ := at_of_lt (l := t) (k := k) (by have := HTD.out; omega)
          obtain ⟨x, hx⟩ := at_of_lt (l := s) (k := d + k) (by have := HD.out; omega)
          obtain ⟨p1, q1, e1, _, g1⟩ := HSw.out.below bWR
          obtain ⟨p2, q2, e2, _, g2⟩ := HT.out.below bR
          cases e1
          cases e2
          obtain ⟨ba, oa, hpa, _, ga⟩ := g1 (d + k) x hx
          obtain ⟨bb, ob, hpb, _, gb⟩ := g2 k y hy
          subst hpa
          subst hpb
          have hdk : (d : Int) + (k : Int) = ((d + k : Nat) : Int) := by omega
          have hdk1 : ((d + k : Nat) : Int) < (s.length : Int) := by have := HD.out; omega
          have hdk2 : (d : Int) + (k : Int) < (s.length : Int) := by omega
          have hwk : IntKind.i64.wrap ((d : Int) + (k : Int)) = (d : Int) + (k : Int) := by rw [IntKind.wrap_i64]; omega
          have hwd : IntKind.i64.wrap (d : Int) = (d : Int) := by rw [IntKind.wrap_i64]; omega
          have htn : ((d : Int) + (k : Int)).toNat = d + k := by omega
          have hdk3 : (0 : Int) ≤ (d : Int) + (k : Int) := by omega
          have hwk2 : IntKind.i64.wrap ((s.length : Int) - ((kp : Nat) : Int)) = (d : Int) := by rw [IntKind.wrap_i64]; omega
          have hk0 : (0 : Int) ≤ (k : Int) := by omega
          have hd0 : (0 : Int) ≤ (d : Int) := by omega
          have hix : decide ((0 : Int) ≤ (d : Int) + (k : Int) ∧ (d : Int) + (k : Int) < (s.length : Int)) = true := by simp; omega
          have hst2 : leS ((s.drop d).take (k + 1)) (t.take (k + 1)) = (leS ((s.drop d).take k) (t.take k) && standsB x y) := by
            have hx2 : (s.drop d)[k]? = some x := by rw [List.getElem?_drop]; exact hx
            rw [take_snoc _ k x hx2, take_snoc _ k y hy]
            exact leS_snoc (by simp only [List.length_take, List.length_drop]; have := HD.out; have := HTD.out; omega)
          have HST2 := hideP hst2
          have HY := hideP hy
          clear g1 g2 hx hy hst2 hdk
          have D1 : Hid (∀ W : World, Calls Tryz.prog 134 #[.int .i64 x, .int .i64 y] W fun e w' => e = .returned (.bool (standsB x y)) ∧ w' = W) := fun W => standR_any x y W
          cases hsb : standsB x y
          · rw [hsb] at D1
            go_wp2_with fail
            go_region_held3 (fun W => W.cell? ⟨ba, oa + (d + k), none⟩ = some (.int .i64 x) ∧ W.cell? ⟨bb, ob + k, none⟩ = some (.int .i64 y)) (go_keep)
              (first
              | (go_at_call 134; refine (D1.out _).mono ?_; rintro e wq ⟨rfl, hwq⟩; have hwq := hwq.symm; subst hwq))
            go_wp2
            go_ret2
            refine ⟨_, [], false, rfl, World.ownsRow_nil _ _ _ _, ?_, bWR.trans ⟨rfl, rfl, rfl, Nat.le_refl _, fun _ _ => rfl⟩⟩
            rw [tl_of HTLV.out h8, if_neg]
            · rfl
            · intro h
              have h1 := h.1
              unfold fitsS at h1
              rw [Bool.and_eq_true] at h1
              have h2 := leS_take (k + 1) h1.2
              have hdd : s.length - t.length = d := by have := HD.out; have := HTD.out; omega
              rw [hdd] at h2
              rw [HST2.out, hsb] at h2
              simp at h2
          · rw [hsb] at D1
            go_wp2_with fail
            go_region_held3 (fun W => W.cell? ⟨ba, oa + (d + k), none⟩ = some (.int .i64 x) ∧ W.cell? ⟨bb, ob + k, none⟩ = some (.int .i64 y)) (go_keep)
              (first
              | (go_at_call 134; refine (D1.out _).mono ?_; rintro e wq ⟨rfl, hwq⟩; have hwq := hwq.symm; subst hwq))
            go_wp2
            go_roundw
            case rel => exact ⟨k + 1, by omega, by go_num, by rw [HST2.out, HLE.out, hsb]; rfl, bR.trans ⟨rfl, rfl, rfl, Nat.le_refl _, fun _ _ => rfl⟩⟩
            case measure => simp [intOf]; omega
        · have hkti : ¬ (k : Int) < ((kp : Nat) : Int) := by omega
          have hfit : fitsS s t = true := by
            have h1 := HLE.out
            have h2 := HD.out
            have h3 := HTD.out
            rw [List.take_of_length_le (by simp; omega), List.take_of_length_le (by omega)] at h1
            unfold fitsS
            rw [show s.length - t.length = d by omega, h1]
            simp; omega
          have HFIT := hideP hfit
          have hbA := (Below.refl wr.heap.size wr).alloc (Nat.le_refl _) (.cells #[] 3)
          have hmade := World.ownsRow_made (base := wr.heap.size) (e := 3) (size := 1) wr #[] 0 (Nat.le_refl _) (by unfold maxLen; omega) rfl
          have HMADE := hideP hmade
          have hpre := ints_take (k := d) ((HSw.out.below bWR).below hbA) (by have := HD.out; omega)
          have hdl : (s.take d).length = d := by rw [List.length_take]; have := HD.out; omega
          rw [← hdl] at hpre
          have HPRE := hideP hpre
          have HDL := hideP hdl
          have hdn : NilOk (.slice ps d cs) := fun a c h => by cases h; exact HNS.out _ _ rfl
          have HDN := hideP hdn
          have hdc : d ≤ cs := by have := HD.out; omega
          have HLR := hideP (HLV.out.below bR)
          clear hfit hmade hpre hdl hdn
          go_wp2_with (first
            | (at_builtin; refine wpList_append_ints rfl _ _ rfl wr.heap.size _ _ _ rfl HMADE.out (.slice ps d cs) (s.take d) rfl (by have := HPRE.out; rw [HDL.out] at this; exact this) HDN.out (by rw [HDL.out]; unfold maxLen; omega) (by rw [HDL.out]; omega) (by simp) ?_; intro v6 w6 hown6 hg6; rw [HDL.out] at hown6; simp only [Nat.zero_add, List.nil_append] at hown6; have b6 : Below wr.heap.size wr w6 := (hbA.grown hg6 (by simp) (fun j hj => (HMADE.out.lt j hj).1)); obtain ⟨p7, c7, hv7⟩ := row_shp hown6; subst hv7; have HOWN6 := hideP hown6; have HL6 := hideP (HLR.out.below b6); have s6 := b6.size; clear hown6)
            | (at_builtin; refine wpList_append_ints rfl _ _ rfl wr.heap.size _ _ _ rfl HOWN6.out _ l rfl HL6.out HNL.out (by unfold maxLen; omega) (by omega) (by omega) ?_; intro v9 w9 hown9 hg9; obtain ⟨p9, c9, hv9⟩ := row_shp hown9; subst hv9; have HOWN9 := hideP hown9; clear hown9))
          go_ret2
          have hb9 : Below wr.heap.size wr w9 := b6.grown hg9 s6 (fun j hj => (HOWN6.out.lt j hj).1)
          have hrl : (s.take d ++ l).length = d + l.length := by rw [List.length_append, HDL.out]
          refine ⟨.slice p9 (d + l.length) c9, s.take d ++ l, decide ((s.take d ++ l).length ≤ 8), ?_, ?_, ?_, bthen0 bWR hb9⟩
          · rw [hrl]
            congr 1
            simp
            omega
          · rw [hrl, List.map_append]
            exact row_low HOWN9.out bWR.size
          · rw [tl_of HTLV.out h8, show s.length - t.length = d by have := HD.out; have := HTD.out; omega]
            by_cases hc : (s.take d ++ l).length ≤ 8
            · rw [if_pos ⟨HFIT.out, hc⟩, decide_eq_true hc]; rfl
            · rw [if_neg (fun h => hc h.2), decide_eq_false hc]; rfl
    · have hlei : (s.length : Int) < ((kp : Nat) : Int) := by omega
      go_wp2
      go_ret2
      refine ⟨_, [], false, rfl, World.ownsRow_nil _ _ _ _, ?_, bT⟩
      rw [tl_of HTLV.out h8, if_neg]
      · rfl
      · intro h
        have h1 := h.1
        unfold fitsS at h1
        simp at h1
        have := HTM.out
        omega
end Go.Proofs.YtcadpoknolefpaaGreat
