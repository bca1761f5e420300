/- My texts Rg Rh Ea Eb Ec Ed, joined. -/
import Derived.Deep.RegionHeld3
import Derived.Test.YtcadpoknolefpaaGreatU10
import Derived.Test.YtcadpoknolefpaaGreatU15
import Derived.Test.YtcadpoknolefpaaGreatU18
import Derived.Test.YtcadpoknolefpaaGreatU20
/- The reference's TryOp: swap. -/
namespace Go.Proofs.YtcadpoknolefpaaGreat
open Go.RowKit
set_option linter.unusedSimpArgs false
set_option linter.unusedVariables false
set_option maxRecDepth 100000 in
set_option maxHeartbeats 4000000 in
theorem trySwap_any (c a : Int) (p : List Fn) (f : Fn) (s : List Int) (vs pv c0 c1 c2 c3 : Value) (w : World) (h8 : s.length ≤ 8) (hvs : IntsAt w vs s) (hnil : NilOk vs) (hcap : ∀ p n c, vs = .slice p n c → n ≤ c) (hp : FnsAt w pv p) (hcp : CapAt w pv) (hf : FnAt w c0 c1 c2 c3 f) (ho : OkOp p f (c, a)) (hc : c = 4) : Calls Tryz.prog 90 #[.agg #[pv], .agg #[c0, c1, c2, c3], .agg #[.int .i64 c, .int .i64 a], vs] w (TryP p f (c, a) s w) := by
  subst hc
  obtain ⟨P, L, r, C⟩ := f
  obtain ⟨rfl, hI, rfl, hO⟩ := id hf
  simp only at hI hO
  obtain ⟨p1, q1, rfl, _, hLc⟩ := id hI
  obtain ⟨p3, q3, rfl, _, _⟩ := id hO
  obtain ⟨pp, qp, rfl, _, hpc⟩ := id hp
  obtain ⟨ps, cs, rfl, _, _⟩ := id hvs
  have hcs : s.length ≤ cs := hcap _ _ _ rfl
  obtain ⟨W3, hW3⟩ : ∃ W3, ((w.alloc (.cells #[.slice pp p.length qp] 24)).alloc (.cells #[.int .i64 P, .slice p1 L.length q1, .int .i64 r, .slice p3 C.length q3] 78)).alloc (.cells #[.int .i64 4, .int .i64 a] 43) = W3 := ⟨_, rfl⟩
  have b3 : Below w.heap.size w W3 := by rw [← hW3]; exact three_below w _ _ _
  have x0 : W3.heap[w.heap.size]? = some (.cells #[.slice pp p.length qp] 24 (0, 0)) := by rw [← hW3]; exact (three_new w _ _ _).1
  have x1 : W3.heap[w.heap.size + 1]? = some (.cells #[.int .i64 P, .slice p1 L.length q1, .int .i64 r, .slice p3 C.length q3] 78 (0, 0)) := by rw [← hW3]; exact (three_new w _ _ _).2.1
  have x2 : W3.heap[w.heap.size + 1 + 1]? = some (.cells #[.int .i64 4, .int .i64 a] 43 (0, 0)) := by rw [← hW3]; exact (three_new w _ _ _).2.2
  have k0 := cell_at' x0 0
  have f0 := cell_at' x1 0
  have f1 := cell_at' x1 1
  have f2 := cell_at' x1 2
  have f3 := cell_at' x1 3
  have o0 := cell_at' x2 0
  have o1 := cell_at' x2 1
  simp at k0 f0 f1 f2 f3 o0 o1
  have lx0 := heap_lt x0
  have lx1 := heap_lt x1
  have lx2 := heap_lt x2
  have HSw := hideP hvs
  have HNS := hideP hnil
  have HP3 := hideP (hp.below b3)
  have HC3 := hideP (hcp.below hp b3)
  have HI3 := hideP (hI.below b3)
  have HOK := hideP ho
  clear ho hvs hnil hcap hp hcp hf hI hO hLc hpc x0 x1 x2
  by_cases hn : s.length < 2
  · have hni : (s.length : Int) < 2 := by omega
    have htl : takesLeaves p (P, L, r, C) (4, a) s = none := by unfold takesLeaves; simp [hn]
    have HTL := hideP htl
    clear htl
    go_enter Tryz.func90, Tryz.ntmps90
    go_wp2
    go_ret2
    exact ⟨_, [], false, rfl, World.ownsRow_nil _ _ _ _, by unfold tryOp; rw [HTL.out]; rfl, b3⟩
  · have hni : ¬ (s.length : Int) < 2 := by omega
    obtain ⟨m, hm⟩ : ∃ m : Nat, s.length = m + 2 := ⟨s.length - 2, by omega⟩
    obtain ⟨x, hx⟩ := at_of_lt (l := s) (k := m) (by omega)
    obtain ⟨y, hy⟩ := at_of_lt (l := s) (k := m + 1) (by omega)
    have hdr : s.drop m = [x, y] := by
      rw [List.drop_eq_getElem_cons (by omega), List.drop_eq_getElem_cons (by omega), List.drop_of_length_le (by omega)]
      congr 1
      · exact (List.getElem?_eq_some_iff.1 hx).2
      · congr 1
        exact (List.getElem?_eq_some_iff.1 hy).2
    have htl : takesLeaves p (P, L, r, C) (4, a) s = some (s.drop m, [y, x]) := by
      have e1 : s.length - 2 = m := by omega
      unfold takesLeaves
      simp only [if_neg hn, e1, hdr]
      rfl
    have hmi : (s.length : Int) - 2 = (m : Int) := by omega
    have hmw : IntKind.i64.wrap ((s.length : Int) - 2) = (m : Int) := by rw [IntKind.wrap_i64]; omega
    have hni1 : (s.length : Int) - 1 = (m : Int) + 1 := by omega
    have hnw1 : IntKind.i64.wrap ((s.length : Int) - 1) = (m : Int) + 1 := by rw [IntKind.wrap_i64]; omega
    have hml : (m : Int) < (s.length : Int) := by omega
    have hml1 : (m : Int) + 1 < (s.length : Int) := by omega
    have hm0 : (0 : Int) ≤ (m : Int) := by omega
    have hm1 : (0 : Int) ≤ (m : Int) + 1 := by omega
    have hmt : ((m : Int) + 1).toNat = m + 1 := by omega
    have hT := (ints_drop (m := m) HSw.out (by omega)).below b3
    obtain ⟨p', q', e', _, hc'⟩ := HSw.out.below b3
    cases e'
    obtain ⟨bs, os, hps, _, gx⟩ := hc' m x hx
    subst hps
    obtain ⟨bs', os', hps', _, gy⟩ := hc' (m + 1) y hy
    cases hps'
    have htm : (s.drop m).length = s.length - m := List.length_drop
    have HM := hideP hm
    have HTLV := hideP htl
    have HT0 := hideP hT
    have HTM0 := hideP htm
    have hq1 : s.length - m ≤ 8 := by omega
    clear htl hm hT htm hn hdr hx hy hc'
    rw [Option.map_some, add_at] at HT0
    go_enter Tryz.func90, Tryz.ntmps90
    go_upto_region 19 with fail
    go_region
    all_goals go_upto_region 30 with fail
    all_goals
      have bW : Below W3.heap.size W3 (W3.alloc (.cells #[.int .i64 y, .int .i64 x] 3)).drew := ((Below.refl _ W3).alloc (Nat.le_refl _) _).drew
      have bT0 : Below w.heap.size w (W3.alloc (.cells #[.int .i64 y, .int .i64 x] 3)).drew := bthen0 b3 bW
      have HT1 := hideP (HT0.out.below bW)
      have HLV0 : Hid (IntsAt (W3.alloc (.cells #[.int .i64 y, .int .i64 x] 3)).drew (.slice (some ⟨W3.heap.size, 0, none⟩) 2 2) [y, x]) := (ints_lit (l := [y, x]) 2 2 (World.alloc_heap_new W3 _) rfl (by unfold maxLen; simp)).below ((Below.refl _ _).drew)
      have HNL : Hid (NilOk (.slice (some ⟨W3.heap.size, 0, none⟩) 2 2)) := nilOk_some _ _ _
      generalize (W3.alloc (.cells #[.int .i64 y, .int .i64 x] 3)).drew = wT at *
      generalize s.drop m = t at *
      generalize (some (⟨bs, os + m, none⟩ : Addr)) = pt at *
      generalize (some (⟨bs, os, none⟩ : Addr)) = ps at *
      generalize s.length - m = q at *
      obtain ⟨l, hl⟩ : ∃ l : List Int, l = [y, x] := ⟨_, rfl⟩
      rw [← hl] at HTLV HLV0
      have HLV := HLV0
      have hl8 : l.length ≤ 3 := by subst hl; simp
      have HLN := hideP hl
      have bT := bT0
      have HT := HT1
      have HTM := HTM0
      clear HT0 HTM0 HT1 HLV0 bT0 hl bW
      by_cases hle : q ≤ s.length
      · have hlei : ¬ ((s.length : Int) < ((q : Nat) : Int)) := by omega
        have hled : decide ((s.length : Int) < ((q : Nat) : Int)) = false := by simp; omega
        have hled2 : decide (s.length < q) = false := by simp; omega
        have htd : t.length = q := HTM.out
        obtain ⟨d, hd⟩ : ∃ d : Nat, s.length = d + q := ⟨s.length - q, by omega⟩
        have HD := hideP hd
        have hdi : (s.length : Int) - ((q : Nat) : Int) = (d : Int) := by omega
        have hd8 : d ≤ 8 := by omega
        have HTD := hideP htd
        clear hd htd
        go_wp2
        go_loopw [17] (fun v17 wr => ∃ k : Nat, k ≤ q ∧ v17 = .int .i64 k ∧ leS ((s.drop d).take k) (t.take k) = true ∧ Below wT.heap.size wT wr) (fun v17 _ => q - (intOf v17).toNat)
        case atStart => exact ⟨0, Nat.zero_le _, rfl, by simp [leS], Below.refl _ _⟩
        case round =>
          rename World => wr
          obtain ⟨k, hk, rfl, hle2, bR⟩ := hrel
          have HLE := hideP hle2
          clear hle2
          have bWR := bthen0 bT bR
          by_cases hkt : k < q
          · have hkti : (k : Int) < ((q : Nat) : Int) := by omega
            obtain ⟨y, hy⟩ := at_of_lt (l := t) (k := k) (by have := HTD.out; omega)
            obtain ⟨x, hx⟩ := at_of_lt (l := s) (k := d + k) (by have := HD.out; omega)
            obtain ⟨p1, q1, e1, _, g1⟩ := HSw.out.below bWR
            obtain ⟨p2, q2, e2, _, g2⟩ := HT.out.below bR
            cases e1
            cases e2
            obtain ⟨ba, oa, hpa, _, ga⟩ := g1 (d + k) x hx
            obtain ⟨bb, ob, hpb, _, gb⟩ := g2 k y hy
            subst hpa
            subst hpb
            have hdk : (d : Int) + (k : Int) = ((d + k : Nat) : Int) := by omega
            have hdk1 : ((d + k : Nat) : Int) < (s.length : Int) := by have := HD.out; omega
            have hdk2 : (d : Int) + (k : Int) < (s.length : Int) := by omega
            have hwk : IntKind.i64.wrap ((d : Int) + (k : Int)) = (d : Int) + (k : Int) := by rw [IntKind.wrap_i64]; omega
            have hwd : IntKind.i64.wrap (d : Int) = (d : Int) := by rw [IntKind.wrap_i64]; omega
            have htn : ((d : Int) + (k : Int)).toNat = d + k := by omega
            have hdk3 : (0 : Int) ≤ (d : Int) + (k : Int) := by omega
            have hwk2 : IntKind.i64.wrap ((s.length : Int) - ((q : Nat) : Int)) = (d : Int) := by rw [IntKind.wrap_i64]; omega
            have hk0 : (0 : Int) ≤ (k : Int) := by omega
            have hd0 : (0 : Int) ≤ (d : Int) := by omega
            have hix : decide ((0 : Int) ≤ (d : Int) + (k : Int) ∧ (d : Int) + (k : Int) < (s.length : Int)) = true := by simp; omega
            have hst2 : leS ((s.drop d).take (k + 1)) (t.take (k + 1)) = (leS ((s.drop d).take k) (t.take k) && standsB x y) := by
              have hx2 : (s.drop d)[k]? = some x := by rw [List.getElem?_drop]; exact hx
              rw [take_snoc _ k x hx2, take_snoc _ k y hy]
              exact leS_snoc (by simp only [List.length_take, List.length_drop]; have := HD.out; have := HTD.out; omega)
            have HST2 := hideP hst2
            have HY := hideP hy
            clear g1 g2 hx hy hst2 hdk
            have D1 : Hid (∀ W : World, Calls Tryz.prog 134 #[.int .i64 x, .int .i64 y] W fun e w' => e = .returned (.bool (standsB x y)) ∧ w' = W) := fun W => standR_any x y W
            cases hsb : standsB x y
            · rw [hsb] at D1
              go_wp2_with fail
              go_region_held3 (fun W => W.cell? ⟨ba, oa + (d + k), none⟩ = some (.int .i64 x) ∧ W.cell? ⟨bb, ob + k, none⟩ = some (.int .i64 y)) (go_keep)
                (first
                | (go_at_call 134; refine (D1.out _).mono ?_; rintro e wq ⟨rfl, hwq⟩; have hwq := hwq.symm; subst hwq))
              go_wp2
              go_ret2
              refine ⟨_, [], false, rfl, World.ownsRow_nil _ _ _ _, ?_, bWR.trans ⟨rfl, rfl, rfl, Nat.le_refl _, fun _ _ => rfl⟩⟩
              rw [tl_of HTLV.out h8, if_neg]
              · rfl
              · intro h
                have h1 := h.1
                unfold fitsS at h1
                rw [Bool.and_eq_true] at h1
                have h2 := leS_take (k + 1) h1.2
                have hdd : s.length - t.length = d := by have := HD.out; have := HTD.out; omega
                rw [hdd] at h2
                rw [HST2.out, hsb] at h2
                simp at h2
            · rw [hsb] at D1
              go_wp2_with fail
              go_region_held3 (fun W => W.cell? ⟨ba, oa + (d + k), none⟩ = some (.int .i64 x) ∧ W.cell? ⟨bb, ob + k, none⟩ = some (.int .i64 y)) (go_keep)
                (first
                | (go_at_call 134; refine (D1.out _).mono ?_; rintro e wq ⟨rfl, hwq⟩; have hwq := hwq.symm; subst hwq))
              go_wp2
              go_roundw
              case rel => exact ⟨k + 1, by omega, by go_num, by rw [HST2.out, HLE.out, hsb]; rfl, bR.trans ⟨rfl, rfl, rfl, Nat.le_refl _, fun _ _ => rfl⟩⟩
              case measure => simp [intOf]; omega
          · have hkti : ¬ (k : Int) < ((q : Nat) : Int) := by omega
            have hfit : fitsS s t = true := by
              have h1 := HLE.out
              have h2 := HD.out
              have h3 := HTD.out
              rw [List.take_of_length_le (by simp; omega), List.take_of_length_le (by omega)] at h1
              unfold fitsS
              rw [show s.length - t.length = d by omega, h1]
              simp; omega
            have HFIT := hideP hfit
            have hbA := (Below.refl wr.heap.size wr).alloc (Nat.le_refl _) (.cells #[] 3)
            have hmade := World.ownsRow_made (base := wr.heap.size) (e := 3) (size := 1) wr #[] 0 (Nat.le_refl _) (by unfold maxLen; omega) rfl
            have HMADE := hideP hmade
            have hpre := ints_take (k := d) ((HSw.out.below bWR).below hbA) (by have := HD.out; omega)
            have hdl : (s.take d).length = d := by rw [List.length_take]; have := HD.out; omega
            rw [← hdl] at hpre
            have HPRE := hideP hpre
            have HDL := hideP hdl
            have hdn : NilOk (.slice ps d cs) := fun a c h => by cases h; exact HNS.out _ _ rfl
            have HDN := hideP hdn
            have hdc : d ≤ cs := by have := HD.out; omega
            have HLR := hideP (HLV.out.below bR)
            clear hfit hmade hpre hdl hdn
            go_wp2_with (first
              | (at_builtin; refine wpList_append_ints rfl _ _ rfl wr.heap.size _ _ _ rfl HMADE.out (.slice ps d cs) (s.take d) rfl (by have := HPRE.out; rw [HDL.out] at this; exact this) HDN.out (by rw [HDL.out]; unfold maxLen; omega) (by rw [HDL.out]; omega) (by simp) ?_; intro v6 w6 hown6 hg6; rw [HDL.out] at hown6; simp only [Nat.zero_add, List.nil_append] at hown6; have b6 : Below wr.heap.size wr w6 := (hbA.grown hg6 (by simp) (fun j hj => (HMADE.out.lt j hj).1)); obtain ⟨p7, c7, hv7⟩ := row_shp hown6; subst hv7; have HOWN6 := hideP hown6; have HL6 := hideP (HLR.out.below b6); have s6 := b6.size; clear hown6)
              | (at_builtin; refine wpList_append_ints rfl _ _ rfl wr.heap.size _ _ _ rfl HOWN6.out _ l rfl HL6.out HNL.out (by unfold maxLen; omega) (by omega) (by omega) ?_; intro v9 w9 hown9 hg9; obtain ⟨p9, c9, hv9⟩ := row_shp hown9; subst hv9; have HOWN9 := hideP hown9; clear hown9))
            go_ret2
            have hb9 : Below wr.heap.size wr w9 := b6.grown hg9 s6 (fun j hj => (HOWN6.out.lt j hj).1)
            have hrl : (s.take d ++ l).length = d + l.length := by rw [List.length_append, HDL.out]
            refine ⟨.slice p9 (d + l.length) c9, s.take d ++ l, decide ((s.take d ++ l).length ≤ 8), ?_, ?_, ?_, bthen0 bWR hb9⟩
            · rw [hrl]
              congr 1
              simp
              omega
            · rw [hrl, List.map_append]
              exact row_low HOWN9.out bWR.size
            · rw [tl_of HTLV.out h8, show s.length - t.length = d by have := HD.out; have := HTD.out; omega]
              by_cases hc : (s.take d ++ l).length ≤ 8
              · rw [if_pos ⟨HFIT.out, hc⟩, decide_eq_true hc]; rfl
              · rw [if_neg (fun h => hc h.2), decide_eq_false hc]; rfl
      · have hlei : (s.length : Int) < ((q : Nat) : Int) := by omega
        go_wp2
        go_ret2
        refine ⟨_, [], false, rfl, World.ownsRow_nil _ _ _ _, ?_, bT⟩
        rw [tl_of HTLV.out h8, if_neg]
        · rfl
        · intro h
          have h1 := h.1
          unfold fitsS at h1
          simp at h1
          have := HTM.out
          omega
end Go.Proofs.YtcadpoknolefpaaGreat
/- The reference's TryOp, at every op that may be. -/
namespace Go.Proofs.YtcadpoknolefpaaGreat
open Go.RowKit
theorem tryRef_any (o : Int × Int) (p : List Fn) (f : Fn) (s : List Int) (vs pv c0 c1 c2 c3 : Value) (w : World) (h8 : s.length ≤ 8) (hvs : IntsAt w vs s) (hnil : NilOk vs) (hcap : ∀ p n c, vs = .slice p n c → n ≤ c) (hp : FnsAt w pv p) (hcp : CapAt w pv) (hf : FnAt w c0 c1 c2 c3 f) (ho : OkOp p f o) : Calls Tryz.prog 90 #[.agg #[pv], .agg #[c0, c1, c2, c3], .agg #[.int .i64 o.1, .int .i64 o.2], vs] w (TryP p f o s w) := by
  obtain ⟨c, a⟩ := o
  by_cases n2 : c = 2
  · exact tryPop_any c a p f s vs pv c0 c1 c2 c3 w h8 hvs hnil hcap hp hcp hf ho n2
  by_cases n3 : c = 3
  · exact tryDup_any c a p f s vs pv c0 c1 c2 c3 w h8 hvs hnil hcap hp hcp hf ho n3
  by_cases n4 : c = 4
  · exact trySwap_any c a p f s vs pv c0 c1 c2 c3 w h8 hvs hnil hcap hp hcp hf ho n4
  by_cases n12 : c = 12
  · exact tryCall_any c a p f s vs pv c0 c1 c2 c3 w h8 hvs hnil hcap hp hcp hf ho n12
  by_cases n13 : c = 13
  · exact tryRet_any c a p f s vs pv c0 c1 c2 c3 w h8 hvs hnil hcap hp hcp hf ho n13
  exact tryX_any c a p f s vs pv c0 c1 c2 c3 w h8 hvs hnil hcap hp hcp hf ho n2 n3 n4 n12 n13
end Go.Proofs.YtcadpoknolefpaaGreat
/- Entries that can be read; plain facts on the entries that Func tells. -/
namespace Go.Proofs.YtcadpoknolefpaaGreat
open Go.RowKit
set_option linter.unusedSimpArgs false
set_option linter.unusedVariables false
/-- numbers that can be read, no longer than their room. -/
structure FullInts (W : World) (u : Value) (s : List Int) : Prop where
  at_ : IntsAt W u s
  nil : NilOk u
  cap : ∀ p n c, u = .slice p n c → n ≤ c
theorem FullInts.below {W W' : World} {u : Value} {s : List Int} (h : FullInts W u s) (hb : Below W.heap.size W W') : FullInts W' u s := ⟨h.at_.below hb, h.nil, h.cap⟩
theorem fullInts_row {W : World} {B : Nat} {u : Value} {s : List Int} {n : Nat} (hn : n = s.length) (h : W.ownsRow B 3 1 u n (s.map (Value.int .i64))) : FullInts W u s :=
  ⟨intsAt_of_row hn h, nilOk_row h, fun p n c hu => by
    rcases h.2 with ⟨rfl, _⟩ | ⟨g, cap, cur, rfl, _, _, h1, _⟩
    · cases hu; exact Nat.le_refl _
    · cases hu; exact h1⟩
theorem fullInts_nil (W : World) : FullInts W (.slice none 0 0) [] := ⟨⟨none, 0, rfl, Nat.zero_le _, fun k z hk => by simp at hk⟩, nilOk_nil, fun p n c h => by cases h; exact Nat.le_refl _⟩
theorem FullInts.shp {W : World} {u : Value} {s : List Int} (h : FullInts W u s) : ∃ p c, u = .slice p s.length c ∧ s.length ≤ c := by
  obtain ⟨p, c, hu, _⟩ := h.at_
  exact ⟨p, c, hu, h.cap _ _ _ hu⟩
/-- entries that can be read. -/
def EntsRd (W : World) (v : Value) (l : List (Nat × List Int)) : Prop :=
  ∃ p cap, v = .slice p l.length cap ∧ l.length ≤ maxLen ∧ ∀ (k pc : Nat) (s : List Int), l[k]? = some (pc, s) → ∃ b off u, p = some ⟨b, off, none⟩ ∧ b < W.heap.size ∧ W.cell? ⟨b, off + k * 2, none⟩ = some (.int .i64 pc) ∧ W.cell? ⟨b, off + k * 2 + 1, none⟩ = some u ∧ FullInts W u s
theorem EntsRd.below {W W' : World} {v : Value} {l : List (Nat × List Int)} (h : EntsRd W v l) (hb : Below W.heap.size W W') : EntsRd W' v l := by
  obtain ⟨p, cap, rfl, hm, hc⟩ := h
  refine ⟨p, cap, rfl, hm, fun k pc s hk => ?_⟩
  obtain ⟨b, off, u, rfl, hlt, h0, h1, h2⟩ := hc k pc s hk
  exact ⟨b, off, u, rfl, Nat.lt_of_lt_of_le hlt hb.size, (hb.cell (p := ⟨b, off + k * 2, none⟩) hlt).trans h0, (hb.cell (p := ⟨b, off + k * 2 + 1, none⟩) hlt).trans h1, h2.below hb⟩
theorem EntsRd.shp {W : World} {v : Value} {l : List (Nat × List Int)} (h : EntsRd W v l) : ∃ p cap, v = .slice p l.length cap := by
  obtain ⟨p, cap, hv, _⟩ := h
  exact ⟨p, cap, hv⟩
theorem entsRd_own {W : World} {B : Nat} {v : Value} {l : List (Nat × List Int)} (h : EntsOwn W B v l) : EntsRd W v l := by
  obtain ⟨q, hr, hlen, hq⟩ := h
  rcases hr.2 with ⟨rfl, h0⟩ | ⟨g, cap, cur, rfl, hb, hg, hn, hc, hs, ht⟩
  · have hl : l = [] := List.eq_nil_of_length_eq_zero (by omega)
    subst hl
    exact ⟨none, 0, rfl, Nat.zero_le _, fun k pc s hk => by simp at hk⟩
  · refine ⟨_, cap, by rw [hlen], by omega, fun k pc s hk => ?_⟩
    have hkl := lt_of_at hk
    obtain ⟨⟨pc', u⟩, hx⟩ := at_of_lt (l := q) (k := k) (by omega)
    obtain ⟨h1, h2⟩ := hq k _ _ hx hk
    simp only at h1 h2
    subst h1
    have hcl := entCells_at q k _ hx
    refine ⟨g, 0, u, rfl, heap_lt hg, ?_, ?_, fullInts_row rfl h2⟩
    · have := hcl.1
      rw [← ht, List.getElem?_take_of_lt (by omega)] at this
      rw [cell_at' hg]; simpa using this
    · have := hcl.2
      rw [← ht, List.getElem?_take_of_lt (by omega)] at this
      rw [cell_at' hg]; simpa using this
/-- the entries that Func tells of a function that fits. -/
noncomputable def entsOf (C : List (Int × Int)) (e : Nat → Option (List Int)) : List (Nat × List Int) := (reachL C).map fun pc => (pc, (e pc).getD [])
theorem reachL_zero (C : List (Int × Int)) : (reachL C)[0]? = some 0 := by
  unfold reachL
  rw [List.range_succ_eq_map, List.filter_cons_of_pos (by simpa using Come.zero)]
  rfl
theorem reachL_len (C : List (Int × Int)) : (reachL C).length ≤ C.length + 1 := by
  unfold reachL
  have := List.length_filter_le (fun x => @decide (Come C x) (Classical.propDecidable _)) (List.range (C.length + 1))
  rw [List.length_range] at this
  exact this
/-- what is known of the entries of a function that fits. -/
structure EntsOk (p : List Fn) (f : Fn) (e : Nat → Option (List Int)) (l : List (Nat × List Int)) : Prop where
  len : l.length ≤ f.2.2.2.length + 1
  zero : l[0]? = some (0, [])
  on : ∀ (k pc : Nat) (s : List Int), l[k]? = some (pc, s) → e pc = some s ∧ s.length ≤ 8 ∧ pc < f.2.2.2.length
  all : ∀ (pc : Nat) (s : List Int), e pc = some s → ∃ k : Nat, l[k]? = some (pc, s)
  reach : l.map (fun x => ((x.1 : Nat) : Int)) = (reachL f.2.2.2).map Int.ofNat
theorem fits_short {p : List Fn} {f : Fn} {e : Nat → Option (List Int)} (hf : FitsBy p f e) {x : Nat} (h : Come f.2.2.2 x) {s : List Int} (hs : e x = some s) : s.length ≤ 8 := by
  cases h with
  | zero => rw [hf.first] at hs; cases hs; simp
  | step h1 h2 =>
    obtain ⟨s0, hs0⟩ := fits_come hf h1
    obtain ⟨o, out, h3, h4, h5⟩ := hf.on _ _ hs0
    obtain ⟨_, s', h6, h7⟩ := h5 _ h2
    rw [hs] at h6
    cases h6
    rw [← leS_length h7]
    unfold tryOp at h4
    obtain ⟨⟨t, l⟩, h8, h9⟩ := Option.bind_eq_some_iff.1 h4
    simp only at h9
    split at h9
    · rename_i hc
      cases h9
      exact hc.2.2
    · cases h9
theorem entsOk {p : List Fn} {f : Fn} {e : Nat → Option (List Int)} (hfl : flowErr f.2.2.2 = 0) (h : Least p f (some e)) : EntsOk p f e (entsOf f.2.2.2 e) := by
  have hmem : ∀ pc, pc ∈ reachL f.2.2.2 ↔ Come f.2.2.2 pc := fun pc => mem_reachL (flowErr_zero hfl).2.2
  refine ⟨by unfold entsOf; rw [List.length_map]; exact reachL_len _, ?_, fun k pc s hk => ?_, fun pc s hs => ?_, ?_⟩
  · unfold entsOf
    rw [List.getElem?_map, reachL_zero, Option.map_some, h.1.first]
    rfl
  · unfold entsOf at hk
    rw [List.getElem?_map] at hk
    obtain ⟨x, hx, hxe⟩ := Option.map_eq_some_iff.1 hk
    simp only [Prod.mk.injEq] at hxe
    obtain ⟨hx1, hx2⟩ := hxe
    subst hx1 hx2
    have hc := (hmem x).1 (List.mem_of_getElem? hx)
    obtain ⟨s, hs⟩ := fits_come h.1 hc
    obtain ⟨o, _, ho, _⟩ := h.1.on x s hs
    rw [hs]
    exact ⟨rfl, fits_short h.1 hc hs, lt_of_at ho⟩
  · have hc := (hmem pc).2 ((least_come h pc).1 ⟨s, hs⟩)
    obtain ⟨k, hk⟩ := List.mem_iff_getElem?.1 hc
    exact ⟨k, by unfold entsOf; rw [List.getElem?_map, hk, Option.map_some, hs]; rfl⟩
  · unfold entsOf
    rw [List.map_map]
    rfl
end Go.Proofs.YtcadpoknolefpaaGreat
/- SameEntries of entries that are the same. -/
namespace Go.Proofs.YtcadpoknolefpaaGreat
open Go.RowKit
set_option linter.unusedSimpArgs false
set_option linter.unusedVariables false
end Go.Proofs.YtcadpoknolefpaaGreat
/- The reference's JoinOf and CheckJoin. -/
namespace Go.Proofs.YtcadpoknolefpaaGreat
open Go.RowKit
set_option linter.unusedSimpArgs false
set_option linter.unusedVariables false
/-- what has been found when all above x were looked at. -/
def Found (a b x t : Int) : Prop := (t = 0 ∧ ∀ y, x < y → y ≤ 3 → ¬ (standsB a y = true ∧ standsB b y = true)) ∨ (t ≠ 0 ∧ 1 ≤ t ∧ t ≤ 3 ∧ standsB a t = true ∧ standsB b t = true ∧ ∀ y, t < y → y ≤ 3 → ¬ (standsB a y = true ∧ standsB b y = true))
theorem found_end {a b t : Int} (ha : isType a = true) (hb : isType b = true) (h : Found a b 0 t) : joinT a b = if t = 0 then none else some t := by
  simp only [isType, Bool.and_eq_true, decide_eq_true_eq] at ha hb
  simp only [Found, standsB, Bool.or_eq_true, Bool.and_eq_true, decide_eq_true_eq] at h
  unfold joinT
  rcases h with ⟨rfl, h⟩ | ⟨h0, h1, h2, h3, h4, h5⟩
  · rw [if_pos rfl]
    by_cases e : a = b
    · exact absurd ⟨.inl rfl, .inl e.symm⟩ (h a (by omega) (by omega))
    · rw [if_neg e]
      by_cases e2 : a = 2 ∧ b = 3 ∨ a = 3 ∧ b = 2
      · exact absurd ⟨by omega, by omega⟩ (h 2 (by omega) (by omega))
      · rw [if_neg e2]
  · rw [if_neg h0]
    by_cases e : a = b
    · rw [if_pos e]
      have := h5 a
      by_cases h6 : t < a
      · exact absurd ⟨.inl rfl, .inl e.symm⟩ (h5 a h6 (by omega))
      · congr 1; omega
    · rw [if_neg e, if_pos (by omega)]
      congr 1; omega
theorem joinL_cut {a b : List Int} {k : Nat} {x y : Int} (ha : a[k]? = some x) (hb : b[k]? = some y) : joinL (a.take (k + 1)) (b.take (k + 1)) = (joinL (a.take k) (b.take k)).bind fun l => (joinT x y).map fun t => l ++ [t] := by
  induction a generalizing b k with
  | nil => simp at ha
  | cons x0 r ih =>
    cases b with
    | nil => simp at hb
    | cons y0 q =>
      cases k with
      | zero =>
        simp at ha hb
        subst ha hb
        simp [joinL]
        cases joinT x0 y0 <;> rfl
      | succ k =>
        simp only [List.take_succ_cons, joinL]
        rw [ih (by simpa using ha) (by simpa using hb)]
        cases joinT x0 y0 with
        | none => rfl
        | some t =>
          simp only [Option.bind_some]
          cases joinL (r.take k) (q.take k) with
          | none => rfl
          | some l =>
            simp only [Option.bind_some, Option.map_some]
            cases joinT x y with
            | none => rfl
            | some t' => rfl
theorem joinL_none {a b : List Int} {k : Nat} (h : joinL (a.take k) (b.take k) = none) (hl : a.length = b.length) : joinL a b = none := by
  induction k generalizing a b with
  | zero => simp [joinL] at h
  | succ k ih =>
    cases a with
    | nil =>
      cases b with
      | nil => simp [joinL] at h
      | cons _ _ => simp at hl
    | cons x r =>
      cases b with
      | nil => simp at hl
      | cons y q =>
        simp only [List.take_succ_cons, joinL] at h
        simp only [joinL]
        cases hj : joinT x y with
        | none => rfl
        | some t =>
          rw [hj] at h
          simp only [Option.bind_some] at h ⊢
          rw [ih (Option.map_eq_none_iff.1 h) (by simpa using hl)]
          rfl
def JoinP (a b : List Int) (w : World) (e : Ending) (w' : World) : Prop := ∃ u r ok, e = .returned (.tuple #[u, .bool ok]) ∧ w'.ownsRow w.heap.size 3 1 u r.length (r.map (Value.int .i64)) ∧ joinL a b = (if ok = true then some r else none) ∧ Below w.heap.size w w'
set_option maxRecDepth 100000 in
set_option maxHeartbeats 4000000 in
theorem joinOf_any (a b : List Int) (va vb : Value) (w : World) (ha : IntsAt w va a) (hb : IntsAt w vb b) (ta : tyL a) (tb : tyL b) (h8 : a.length ≤ 8) : Calls Tryz.prog 92 #[va, vb] w (JoinP a b w) := by
  obtain ⟨i0, hi, hz0, hz1, hz2⟩ := info_parts infoInt
  obtain ⟨pa, ca, rfl, hma, hca⟩ := ha
  obtain ⟨pb, cb, rfl, hmb, hcb⟩ := hb
  unfold maxLen at hma hmb
  by_cases hl : a.length = b.length
  case neg =>
    have hne : ((a.length : Int) != (b.length : Int)) = true := by simp; omega
    have hj := joinL_lens hl
    clear hca hcb
    go_enter Tryz.func92, Tryz.ntmps92
    go_wp2
    go_ret2
    exact ⟨_, [], false, rfl, World.ownsRow_nil _ _ _ _, hj, Below.refl _ _⟩
  have hne : ((a.length : Int) != (b.length : Int)) = false := by simp; omega
  have HL := hideP hl
  have HCA := hideP hca
  have HCB := hideP hcb
  have HTA := hideP ta
  have HTB := hideP tb
  clear hl hca hcb ta tb
  go_enter Tryz.func92, Tryz.ntmps92
  go_wp2
  go_loopw [6, 7, 8, 9] (fun v6 v7 _ _ wr => ∃ (k : Nat) (r : List Int), k ≤ a.length ∧ r.length = k ∧ v7 = .int .i64 k ∧ wr.ownsRow w.heap.size 3 1 v6 k (r.map (Value.int .i64)) ∧ joinL (a.take k) (b.take k) = some r ∧ Below w.heap.size w wr) (fun _ v7 _ _ _ => a.length - (intOf v7).toNat)
  case atStart => exact ⟨0, [], Nat.zero_le _, rfl, rfl, World.ownsRow_nil _ _ _ _, rfl, Below.refl _ _⟩
  case round =>
    rename World => w1
    obtain ⟨k, r, hk, hrl, rfl, hrow, hjk, b1⟩ := hrel
    obtain ⟨p6, c6, hv6⟩ := row_shp hrow
    subst hv6
    have s1 := b1.size
    have HROW := hideP hrow
    have HJK := hideP hjk
    have HRL := hideP hrl
    clear hrow hjk hrl
    by_cases hlt : k < a.length
    · have hlti : (k : Int) < (a.length : Int) := by omega
      have hltj : (k : Int) < (b.length : Int) := by have := HL.out; omega
      obtain ⟨x, hx⟩ := at_of_lt hlt
      obtain ⟨y, hy⟩ := at_of_lt (l := b) (k := k) (by have := HL.out; omega)
      obtain ⟨ba, oa, rfl, hba, z0⟩ := HCA.out k x hx
      obtain ⟨bb, ob, rfl, hbb, z1⟩ := HCB.out k y hy
      have y0 := (b1.cell (p := ⟨ba, oa + k, none⟩) hba).trans z0
      have y1 := (b1.cell (p := ⟨bb, ob + k, none⟩) hbb).trans z1
      have tx := HTA.out x (List.mem_of_getElem? hx)
      have ty := HTB.out y (List.mem_of_getElem? hy)
      have HCUT := hideP (joinL_cut hx hy)
      have HTX := hideP tx
      have HTY := hideP ty
      clear hx hy z0 z1 tx ty
      go_wp2
      go_loopw [8, 9] (fun v8 v9 wr => ∃ t z : Int, 0 ≤ z ∧ z ≤ 3 ∧ 0 ≤ t ∧ t ≤ 3 ∧ v8 = .int .i64 t ∧ v9 = .int .i64 z ∧ Found x y z t ∧ wr = w1) (fun _ v9 _ => (intOf v9).toNat)
      case atStart => exact ⟨0, 3, by omega, by omega, by omega, by omega, rfl, rfl, .inl ⟨rfl, fun y h1 h2 => by omega⟩, rfl⟩
      case round =>
        rename World => w2
        obtain ⟨t, z, hz0', hz3, ht0, ht3, rfl, rfl, hf, hw2⟩ := hrel
        subst hw2
        have HF := hideP hf
        clear hf
        by_cases hz1' : 1 ≤ z
        · have hzi : z ≥ 1 := hz1'
          by_cases ht : t = 0
          · subst ht
            have hnone : ∀ q, z < q → q ≤ 3 → ¬ (standsB x q = true ∧ standsB y q = true) := by
              rcases HF.out with ⟨_, h⟩ | ⟨h, _⟩
              · exact h
              · exact absurd rfl h
            have HNO := hideP hnone
            clear hnone
            cases hs1 : standsB x z
            · have D1 : Hid (∀ W : World, Calls Tryz.prog 134 #[.int .i64 x, .int .i64 z] W fun e w' => e = .returned (.bool false) ∧ w' = W) := fun W => by have := standR_any x z W; rw [hs1] at this; exact this
              have HS1 := hideP hs1
              clear hs1
              go_wp2_with (go_at_call 134; refine (D1.out _).mono ?_; rintro e wq ⟨rfl, hwq⟩; have hwq := hwq.symm; subst hwq)
              go_roundw
              case rel => exact ⟨0, z - 1, by omega, by omega, by omega, by omega, rfl, rfl, .inl ⟨rfl, fun q h1 h2 => by
                by_cases e : q = z
                · subst e; rw [HS1.out]; simp
                · exact HNO.out q (by omega) h2⟩, trivial⟩
              case measure => simp [intOf]; omega
            · cases hs2 : standsB y z
              case false =>
                have D1 : Hid (∀ W : World, Calls Tryz.prog 134 #[.int .i64 x, .int .i64 z] W fun e w' => e = .returned (.bool true) ∧ w' = W) := fun W => by have := standR_any x z W; rw [hs1] at this; exact this
                have D2 : Hid (∀ W : World, Calls Tryz.prog 134 #[.int .i64 y, .int .i64 z] W fun e w' => e = .returned (.bool false) ∧ w' = W) := fun W => by have := standR_any y z W; rw [hs2] at this; exact this
                have HS1 := hideP hs1
                have HS2 := hideP hs2
                clear hs1 hs2
                go_wp2_with fail
                refine (D1.out _).mono ?_
                rintro e wq ⟨rfl, hwq⟩
                have hwq := hwq.symm
                subst hwq
                go_wp2_with fail
                refine (D2.out _).mono ?_
                rintro e wq ⟨rfl, hwq⟩
                have hwq := hwq.symm
                subst hwq
                go_wp2
                go_roundw
                case rel => exact ⟨0, z - 1, by omega, by omega, by omega, by omega, rfl, rfl, .inl ⟨rfl, fun q h1 h2 => by
                  by_cases e : q = z
                  · subst e; rw [HS2.out]; simp
                  · exact HNO.out q (by omega) h2⟩, trivial⟩
                case measure => simp [intOf]; omega
              case true =>
                have D1 : Hid (∀ W : World, Calls Tryz.prog 134 #[.int .i64 x, .int .i64 z] W fun e w' => e = .returned (.bool true) ∧ w' = W) := fun W => by have := standR_any x z W; rw [hs1] at this; exact this
                have D2 : Hid (∀ W : World, Calls Tryz.prog 134 #[.int .i64 y, .int .i64 z] W fun e w' => e = .returned (.bool true) ∧ w' = W) := fun W => by have := standR_any y z W; rw [hs2] at this; exact this
                have HS1 := hideP hs1
                have HS2 := hideP hs2
                clear hs1 hs2
                go_wp2_with fail
                refine (D1.out _).mono ?_
                rintro e wq ⟨rfl, hwq⟩
                have hwq := hwq.symm
                subst hwq
                go_wp2_with fail
                refine (D2.out _).mono ?_
                rintro e wq ⟨rfl, hwq⟩
                have hwq := hwq.symm
                subst hwq
                go_wp2
                go_roundw
                case rel => exact ⟨z, z - 1, by omega, by omega, by omega, by omega, rfl, rfl, .inr ⟨by omega, by omega, by omega, HS1.out, HS2.out, fun q h1 h2 => HNO.out q h1 h2⟩, trivial⟩
                case measure => simp [intOf]; omega
          · have htb : (t == 0) = false := by simp [ht]
            have HT := hideP ht
            clear ht
            go_wp2
            go_roundw
            case rel =>
              refine ⟨t, z - 1, by omega, by omega, by omega, by omega, rfl, rfl, ?_, trivial⟩
              rcases HF.out with ⟨h, _⟩ | h
              · exact absurd h HT.out
              · exact .inr h
            case measure => simp [intOf]; omega
        · obtain rfl : z = 0 := by omega
          have hjt := found_end HTX.out HTY.out HF.out
          by_cases ht : t = 0
          · subst ht
            have hno : joinL a b = none := by
              refine joinL_none (k := k + 1) ?_ HL.out
              rw [HCUT.out, HJK.out, hjt]; rfl
            have HNO := hideP hno
            clear hjt hno
            go_wp2
            go_ret2
            exact ⟨_, [], false, rfl, World.ownsRow_nil _ _ _ _, HNO.out, b1⟩
          · have htb : (t == 0) = false := by simp [ht]
            rw [if_neg ht] at hjt
            have HJT := hideP hjt
            have HR2 := hideP (HROW.out.alloc (.cells #[.int .i64 t] 3))
            clear hjt ht
            go_wp2_with (at_builtin; refine wpList_append_own _ rfl _ _ 27 rfl w.heap.size 3 i0 (.int .i64 0) 1 8 Tryz.underlying27 hi hz0 hz1 hz2 rfl (by decide) _ _ _ rfl HR2.out ⟨w2.heap.size, 0, none⟩ 1 1 [.int .i64 t] rfl rfl (cell_one_at (by rw [cell_at' (World.alloc_heap_new w2 (.cells #[.int .i64 t] 3)) 0]; rfl)) (by simp [Value.oneCell']) (by unfold maxLen; omega) (by omega) (by simp; omega) ?_; intro v9 w9 hown9 hg9 _; have HO := hideP hown9; clear hown9)
            go_roundw
            case rel =>
              refine ⟨k + 1, r ++ [t], by omega, by rw [List.length_append, HRL.out]; rfl, by go_num, by simpa using HO.out, ?_, ?_⟩
              · rw [HCUT.out, HJK.out, HJT.out]; rfl
              · exact (b1.alloc s1 _).grown hg9 (by simp; omega) (fun j hj => (HR2.out.lt j hj).1)
            case measure => simp [intOf]; omega
    · have hlti : ¬ (k : Int) < (a.length : Int) := by omega
      go_wp2
      go_ret2
      have hj := HJK.out
      rw [List.take_of_length_le (by omega), List.take_of_length_le (by have := HL.out; omega)] at hj
      exact ⟨_, r, true, rfl, by rw [HRL.out]; exact HROW.out, hj, b1⟩
theorem all_take_snoc {l : List Int} {k : Nat} {x : Int} (h : ∀ t ∈ l.take k, isType t = true) (hx : l[k]? = some x) (hs : isType x = true) : ∀ t ∈ l.take (k + 1), isType t = true := by
  rw [take_snoc l k _ hx]
  intro t ht
  rcases List.mem_append.1 ht with ht | ht
  · exact h t ht
  · simp at ht; subst ht; exact hs
end Go.Proofs.YtcadpoknolefpaaGreat
/- The reference's EntriesOf: what lies in memory while it reckons. -/
namespace Go.Proofs.YtcadpoknolefpaaGreat
open Go.RowKit
set_option linter.unusedSimpArgs false
set_option linter.unusedVariables false
/-- entries as EntriesOf has them: the rows of stacks and of marks. -/
structure EI (w : World) (Ra Rm : Nat) (p : List Fn) (f : Fn) (E : Ents) (wr : World) : Prop where
  bel : Below w.heap.size w wr
  len : E.length = f.2.2.2.length
  hRm : wr.heap[Rm]? = some (.cells ((E.map Option.isSome).map Value.bool).toArray 4 (0, 0))
  hRs : ∃ V : List Value, V.length = E.length ∧ wr.heap[Ra]? = some (.cells V.toArray 27 (0, 0)) ∧ (∀ v ∈ V, ∃ p n c, v = .slice p n c) ∧ ∀ (k : Nat) (s : List Int), E[k]? = some (some s) → ∃ v, V[k]? = some v ∧ FullInts wr v s
  ok : ∀ (k : Nat) (s : List Int), E[k]? = some (some s) → s.length ≤ 8 ∧ tyL s
  zero : ent E 0 = some []
  low : ∀ e', FitsBy p f e' → leE (ent E) e'
/-- numbers stay where only the two rows are written. -/
theorem EI.full {w : World} {Ra Rm : Nat} {p : List Fn} {f : Fn} {E : Ents} {wr wr' : World} (h : EI w Ra Rm p f E wr) {v : Value} {s : List Int} (hv : FullInts wr v s) (hw : Wr Ra Rm wr wr') : FullInts wr' v s := by
  obtain ⟨V, _, h2, h3, _⟩ := h.hRs
  exact ⟨hv.at_.wr h2 h3 h.hRm hw, hv.nil, hv.cap⟩
theorem EI.put {w : World} {Ra Rm : Nat} {p : List Fn} {f : Fn} {E : Ents} {wr wr' : World} (h : EI w Ra Rm p f E wr) (ha : w.heap.size ≤ Ra) (hm : w.heap.size ≤ Rm) {k : Nat} {s : List Int} {v : Value} (hk : k < E.length) (hv : FullInts wr v s) (h8 : s.length ≤ 8) (ht : tyL s) (hw : Wr Ra Rm wr wr')
    (hs : ∀ V : List Value, wr.heap[Ra]? = some (.cells V.toArray 27 (0, 0)) → wr'.heap[Ra]? = some (.cells (V.set k v).toArray 27 (0, 0)))
    (hmm : wr'.heap[Rm]? = some (.cells (((E.set k (some s)).map Option.isSome).map Value.bool).toArray 4 (0, 0)))
    (hz : ent (E.set k (some s)) 0 = some []) (hl : ∀ e', FitsBy p f e' → leE (ent (E.set k (some s))) e') : EI w Ra Rm p f (E.set k (some s)) wr' := by
  obtain ⟨V, h1, h2, h3, h4⟩ := h.hRs
  have hvs : ∃ p n c, v = .slice p n c := by obtain ⟨p, c, rfl, _⟩ := hv.at_; exact ⟨_, _, _, rfl⟩
  refine ⟨⟨hw.os.trans h.bel.os, hw.tape.trans h.bel.tape, hw.output.trans h.bel.output, Nat.le_trans h.bel.size hw.size, fun j hj => (hw.block j (Nat.lt_of_lt_of_le hj h.bel.size) (by omega) (by omega)).trans (h.bel.block j hj)⟩, by rw [List.length_set]; exact h.len, hmm, ⟨V.set k v, by simp [h1], hs V h2, ?_, ?_⟩, ?_, hz, hl⟩
  · intro u hu
    rcases List.mem_or_eq_of_mem_set hu with h | h
    · exact h3 u h
    · subst h; exact hvs
  · intro j s' hj
    by_cases e : j = k
    · subst e
      rw [List.getElem?_set_self hk] at hj
      cases hj
      exact ⟨v, by rw [List.getElem?_set_self (by omega)], h.full hv hw⟩
    · rw [List.getElem?_set_ne (fun e2 => e e2.symm)] at hj
      obtain ⟨u, a, b⟩ := h4 j s' hj
      exact ⟨u, by rw [List.getElem?_set_ne (fun e2 => e e2.symm)]; exact a, h.full b hw⟩
  · intro j s' hj
    by_cases e : j = k
    · subst e
      rw [List.getElem?_set_self hk] at hj
      cases hj
      exact ⟨h8, ht⟩
    · rw [List.getElem?_set_ne (fun e2 => e e2.symm)] at hj
      exact h.ok j s' hj
theorem EI.after {w : World} {Ra Rm : Nat} {p : List Fn} {f : Fn} {E : Ents} {wr wr' : World} (h : EI w Ra Rm p f E wr) (hb : Below wr.heap.size wr wr') : EI w Ra Rm p f E wr' := by
  obtain ⟨V, h1, h2, h3, h4⟩ := h.hRs
  exact ⟨bthen h.bel hb, h.len, (hb.block _ (heap_lt h.hRm)).trans h.hRm, ⟨V, h1, (hb.block _ (heap_lt h2)).trans h2, h3, fun k s hk => by
    obtain ⟨v, a, b⟩ := h4 k s hk
    exact ⟨v, a, b.below hb⟩⟩, h.ok, h.zero, h.low⟩
theorem ints_one {w : World} {v : Value} {l m : List Int} (h : IntsAt w v l) (k : IntsAt w v m) : l = m := by
  obtain ⟨p, c, rfl, _, h1⟩ := h
  obtain ⟨p', c', he, _, h2⟩ := k
  simp only [Value.slice.injEq] at he
  obtain ⟨rfl, hlen, rfl⟩ := he
  apply List.ext_getElem?
  intro j
  by_cases hj : j < l.length
  · obtain ⟨x, hx⟩ := at_of_lt hj
    obtain ⟨y, hy⟩ := at_of_lt (l := m) (k := j) (by omega)
    obtain ⟨b, off, rfl, _, g1⟩ := h1 j x hx
    obtain ⟨b', off', he, _, g2⟩ := h2 j y hy
    cases he
    rw [g1] at g2
    cases g2
    rw [hx, hy]
  · rw [List.getElem?_eq_none (by omega), List.getElem?_eq_none (by omega)]
theorem bools_one : ∀ {a b : List Bool}, a.map Value.bool = b.map Value.bool → a = b
  | [], [], _ => rfl
  | [], _ :: _, h => by simp at h
  | _ :: _, [], h => by simp at h
  | x :: r, y :: q, h => by
    simp only [List.map_cons, List.cons.injEq, Value.bool.injEq] at h
    rw [h.1, bools_one h.2]
theorem EI.one {w : World} {Ra Rm : Nat} {p : List Fn} {f : Fn} {E E' : Ents} {wr : World} (h : EI w Ra Rm p f E wr) (k : EI w Ra Rm p f E' wr) : E = E' := by
  have hm := h.hRm
  rw [k.hRm] at hm
  have hm2 : E'.map Option.isSome = E.map Option.isSome := by
    injection hm with hm
    injection hm with hm1 _ _
    exact bools_one (congrArg Array.toList hm1)
  obtain ⟨V, _, h2, _, h4⟩ := h.hRs
  obtain ⟨V', _, k2, _, k4⟩ := k.hRs
  rw [h2] at k2
  have hV : V = V' := by simpa using k2
  subst hV
  apply List.ext_getElem?
  intro j
  have hj := congrArg (fun l : List Bool => l[j]?) hm2
  simp only [List.getElem?_map] at hj
  cases hE : E[j]? with
  | none =>
    cases hE' : E'[j]? with
    | none => rfl
    | some x => rw [hE, hE'] at hj; simp at hj
  | some x =>
    cases hE' : E'[j]? with
    | none => rw [hE, hE'] at hj; simp at hj
    | some y =>
      rw [hE, hE'] at hj
      simp at hj
      cases x with
      | none => cases y with
        | none => rfl
        | some s => simp at hj
      | some s => cases y with
        | none => simp at hj
        | some s' =>
          obtain ⟨v, a1, a2⟩ := h4 j s hE
          obtain ⟨v', b1, b2⟩ := k4 j s' hE'
          rw [a1] at b1
          cases b1
          rw [ints_one a2.at_ b2.at_]
open Classical in
/-- how much is still to come, of whatever entries lie there. -/
noncomputable def muW (w : World) (Ra Rm : Nat) (p : List Fn) (f : Fn) (wr : World) : Nat := if h : ∃ E, EI w Ra Rm p f E wr then mu (Classical.choose h) else 0
theorem EI.mu {w : World} {Ra Rm : Nat} {p : List Fn} {f : Fn} {E : Ents} {wr : World} (h : EI w Ra Rm p f E wr) : muW w Ra Rm p f wr = mu E := by
  unfold muW
  rw [dif_pos ⟨E, h⟩]
  rw [EI.one (Classical.choose_spec (⟨E, h⟩ : ∃ E, EI w Ra Rm p f E wr)) h]
/-- how far a pass has come: something is other, or nothing is, and so far all is done. -/
def Pass (Es E : Ents) (more : Bool) (P : Prop) : Prop := (more = true ∧ mu E < mu Es) ∨ (more = false ∧ E = Es ∧ P)
/-- all that is gone on to from a place, of those looked at, has what is left. -/
def OnTo (C : List (Int × Int)) (E : Ents) (out : List Int) (to : Nat) : Prop := to < C.length ∧ ∃ s', ent E to = some s' ∧ leS out s' = true
theorem ent_lt {E : Ents} {k : Nat} {s : List Int} (h : ent E k = some s) : k < E.length := lt_of_at (ent_some h)
/-- a place that is new. -/
theorem low_new {p : List Fn} {f : Fn} {E : Ents} {to : Nat} {out : List Int} (hlow : ∀ e', FitsBy p f e' → leE (ent E) e') (hto : to < E.length) (hout : ∀ e', FitsBy p f e' → ∃ s', e' to = some s' ∧ leS out s' = true) : ∀ e', FitsBy p f e' → leE (ent (E.set to (some out))) e' := by
  intro e' he' x s hs
  rw [ent_set E to x out hto] at hs
  by_cases e : x = to
  · subst e; rw [if_pos rfl] at hs; cases hs; exact hout e' he'
  · rw [if_neg e] at hs; exact hlow e' he' x s hs
theorem mu_new {E : Ents} {to : Nat} {out : List Int} (hto : to < E.length) (hn : ent E to = none) (h8 : out.length ≤ 8) : mu (E.set to (some out)) < mu E := by
  obtain ⟨x, hx⟩ := at_of_lt hto
  rw [ent_at hx] at hn
  subst hn
  refine mu_set E to none (some out) hx ?_
  have := List.count_le_length (a := (3 : Int)) (l := out)
  simp only [m1]; omega
theorem mu_join {E : Ents} {to : Nat} {s j : List Int} (h : ent E to = some s) (hle : leS s j = true) (hne : j ≠ s) : mu (E.set to (some j)) < mu E :=
  mu_set E to (some s) (some j) (ent_some h) (by simp only [m1]; exact leS_count_lt hle (fun e => hne e.symm))
/-- nothing is other in a whole pass: these are the least. -/
theorem least_pass {p : List Fn} {f : Fn} {E : Ents} (hz : ent E 0 = some []) (hlow : ∀ e', FitsBy p f e' → leE (ent E) e') (hd : ∀ x s, ent E x = some s → DoneAt p f (ent E) x) : Least p f (some (ent E)) := by
  refine ⟨⟨hz, fun pc s hs => ?_⟩, hlow⟩
  obtain ⟨s', o, out, h1, h2, h3, h4⟩ := hd pc s hs
  rw [hs] at h1
  cases h1
  exact ⟨o, out, h2, h3, h4⟩
end Go.Proofs.YtcadpoknolefpaaGreat
