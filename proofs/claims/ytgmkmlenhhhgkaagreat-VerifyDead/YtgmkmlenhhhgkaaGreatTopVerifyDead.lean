/- What is never come to does not matter: another op there, that may be, changes no entry: for every program and number and number and op VerifyDead returns true. No condition. -/
import Derived.Test.YtgmkmlenhhhgkaaGreatF13
import Derived.Test.YtgmkmlenhhhgkaaGreatF8
import Derived.BigQuiet
import Derived.Test.YtgmkmlenhhhgkaaGreatF6
import Derived.Test.YtgmkmlenhhhgkaaGreatF12
import Derived.Test.YtgmkmlenhhhgkaaGreatF9
set_option maxRecDepth 100000
set_option maxHeartbeats 8000000
namespace Go.Proofs.YtgmkmlenhhhgkaaGreat.verifyDead
open Go.ChangeShapes Go.WideShapes Go.ChangeAt Go.RowKit
set_option linter.unusedVariables false
set_option linter.unusedSimpArgs false
theorem own : ownKnob Tryz.prog.godebug = none := by kernel_rfl
theorem laidOut : laidOutB Tryz.prog = true := by kernel_rfl
theorem reach_mem {l : List (Int × Int)} (hf : flowErr l = 0) {x : Nat} : (x : Int) ∈ xboZ l ↔ Come l x ∧ x < l.length + 1 := by
  unfold xboZ xa9Z
  rw [if_pos hf, List.mem_map]
  constructor
  · rintro ⟨y, hy, e⟩
    rw [List.mem_filter, List.mem_range] at hy
    have hxy : y = x := Int.ofNat.inj e
    subst hxy
    exact ⟨by simpa using hy.2, hy.1⟩
  · rintro ⟨h1, h2⟩
    exact ⟨x, by rw [List.mem_filter, List.mem_range]; exact ⟨h2, by simpa using h1⟩, rfl⟩
theorem two_cellV {w : World} {R i i' : Nat} {a b v : Value} {p : Addr} (h : w.cell? p = some v) (hn : ¬ p.block = R) : ((w.setCell ⟨R, i, none⟩ a).setCell ⟨R, i', none⟩ b).cell? p = some v := by
  have key : ∀ (W : World) (j : Nat) (u : Value), W.cell? p = some v → (W.setCell ⟨R, j, none⟩ u).cell? p = some v := fun W j u h => (World.cell?_of_block (Below.heap_setCell W _ u p.block hn)).trans h
  exact key _ _ _ (key _ _ _ h)
theorem pfull_below {W W' : World} {v : Value} {l : List Fn} (h : ProgFull W v l) (hb : Below W.heap.size W W') : ProgFull W' v l := by
  refine ⟨h.at_.below hb, h.nil, h.len, fun b off n cap k c1 c3 hv hk h1 h3 => ?_⟩
  obtain ⟨p, cap2, hv2, hm, hcc⟩ := h.at_
  rw [hv] at hv2
  cases hv2
  obtain ⟨f, hf⟩ := xagZ hk
  obtain ⟨b', off', c0', c1', c2', c3', hp, hlt, -⟩ := hcc k f hf
  cases hp
  exact h.each b off _ cap k c1 c3 hv hk ((hb.cell (p := ⟨b, off + k * 4 + 1, none⟩) hlt).symm.trans h1) ((hb.cell (p := ⟨b, off + k * 4 + 3, none⟩) hlt).symm.trans h3)
theorem walk (w : World) (p : List Fn) (pv : Value) (hpf : ProgFull w pv p) (n : Int) (hn : -9223372036854775808 ≤ n ∧ n ≤ 9223372036854775807) (m : Int) (hm : -9223372036854775808 ≤ m ∧ m ≤ 9223372036854775807) (oc oa : Int) :
    Calls Tryz.prog 4 #[.agg #[pv], .int .i64 n, .int .i64 m, .agg #[.int .i64 oc, .int .i64 oa]] w fun e w' => e = .returned (.bool true) ∧ Below w.heap.size w w' := by
  obtain ⟨pp, qp, hpv, hpm, -⟩ := id hpf.at_
  subst hpv
  obtain ⟨W1, hW1⟩ : ∃ W1, (w.alloc (.cells #[.slice pp p.length qp] 24)).alloc (.cells #[.int .i64 oc, .int .i64 oa] 38) = W1 := ⟨_, rfl⟩
  have hb1 : Below w.heap.size w W1 := by rw [← hW1]; exact ((Below.refl _ w).alloc (Nat.le_refl _) _).alloc (by simp) _
  have x0 : W1.heap[w.heap.size]? = some (.cells #[.slice pp p.length qp] 24 (0, 0)) := by rw [← hW1]; exact xaeZ (World.alloc_heap_new w _) _
  have x1 : W1.heap[w.heap.size + 1]? = some (.cells #[.int .i64 oc, .int .i64 oa] 38 (0, 0)) := by rw [← hW1]; exact xa3Z _ _ _
  have KC : Hid (∀ W, Below W1.heap.size W1 W → W.cell? ⟨w.heap.size, 0, none⟩ = some (.slice pp p.length qp) ∧ W.cell? ⟨w.heap.size + 1, 0, none⟩ = some (.int .i64 oc) ∧ W.cell? ⟨w.heap.size + 1, 1, none⟩ = some (.int .i64 oa)) := fun W hW => by
    have h1 := (hW.block _ (xabZ x0)).trans x0
    have h2 := (hW.block _ (xabZ x1)).trans x1
    exact ⟨xaaZ h1 0, xaaZ h2 0, xaaZ h2 1⟩
  have lx1 := xabZ x1
  have HPF := hideP (pfull_below hpf hb1)
  have HB1 := hideP hb1
  clear hpf x0 x1 hb1
  go_enter Tryz.func4, Tryz.ntmps4
  go_wp2_with fail
  refine (xgmZ _).mono ?_
  rintro e w2 ⟨rfl, b2⟩
  have B2 := hideP b2
  clear b2
  go_wp2_with fail
  refine (xhiZ _).mono ?_
  rintro e w3 ⟨rfl, b3⟩
  have B3 := hideP (bthen B2.out b3)
  clear b3
  go_wp2_with fail
  refine (xhmZ _).mono ?_
  rintro e w4 ⟨rfl, b4⟩
  have b14 := bthen B3.out b4
  obtain ⟨e0, -⟩ := KC.out w4 b14
  have HK := hideP (xbnZ p _ w4 (HPF.out.at_.below b14))
  have B4 := hideP b14
  clear b4 b14
  go_wp2_with fail
  refine HK.out.mono ?_
  rintro e w5 ⟨rfl, b5⟩
  have b15 := bthen B4.out b5
  clear e0 HK
  obtain ⟨e0, -⟩ := KC.out w5 b15
  have B5 := hideP b15
  have FIN5 := hideP (bthen HB1.out b15)
  clear b5
  by_cases he : xakZ p = 0
  case neg =>
    have heb : (xakZ p != 0) = true := by simp [he]
    generalize xakZ p = er at *
    clear he b15
    go_wp2
    go_ret
    exact ⟨rfl, FIN5.out⟩
  have HE := hideP he
  rw [he]
  clear he
  by_cases h0 : n < 0
  · have t0 : decide (n < 0) = true := by simpa using h0
    clear h0 b15
    go_wp2
    go_ret
    exact ⟨rfl, FIN5.out⟩
  have t0 : decide (n < 0) = false := by simpa using h0
  by_cases h1 : n ≥ (p.length : Int)
  · have t1 : decide (n ≥ (p.length : Int)) = true := by simpa using h1
    clear h0 h1 b15
    go_wp2
    go_ret
    exact ⟨rfl, FIN5.out⟩
  have t1 : decide (n ≥ (p.length : Int)) = false := decide_eq_false h1
  obtain ⟨k, rfl⟩ := Int.eq_ofNat_of_zero_le (show 0 ≤ n by omega)
  have hkl : k < p.length := by omega
  have hki : (k : Int) < (p.length : Int) := by omega
  have hk0 : (0 : Int) ≤ (k : Int) := by omega
  obtain ⟨f, hf⟩ := xagZ hkl
  obtain ⟨pp', qp', hpv', -, hcc⟩ := HPF.out.at_.below b15
  cases hpv'
  obtain ⟨b, off, c0, c1, c2, c3, hpb, hb, g0, g1, g2, g3, hfn⟩ := hcc k f hf
  subst hpb
  obtain ⟨P, L, Rr, D⟩ := f
  obtain ⟨rfl, -, rfl, hD⟩ := hfn
  simp only at hD
  obtain ⟨pd, qd, hdv, -, -⟩ := id hD
  subst hdv
  have HF := hideP hf
  have HD := hideP hD
  have hok := okFn HE.out (List.mem_of_getElem? hf)
  have hfl : flowErr D = 0 := hok.flow
  have HFL := hideP hfl
  have HOK := hideP hok
  clear hcc hf hD hok hfl g0 g1 g2 h0 h1 b15
  by_cases m0 : m < 0
  · have t2 : decide (m < 0) = true := by simpa using m0
    clear m0
    go_wp2
    go_ret
    exact ⟨rfl, FIN5.out⟩
  have t2 : decide (m < 0) = false := by simpa using m0
  by_cases m1 : m ≥ (D.length : Int)
  · have t3 : decide (m ≥ (D.length : Int)) = true := by simpa using m1
    clear m0 m1
    go_wp2
    go_ret
    exact ⟨rfl, FIN5.out⟩
  have t3 : decide (m ≥ (D.length : Int)) = false := decide_eq_false m1
  obtain ⟨j, rfl⟩ := Int.eq_ofNat_of_zero_le (show 0 ≤ m by omega)
  have hjl : j < D.length := by omega
  have hji : (j : Int) < (D.length : Int) := by omega
  have hj0 : (0 : Int) ≤ (j : Int) := by omega
  have HR := hideP (xdfZ D _ w5 HD.out)
  clear m0 m1
  go_wp2_with fail
  refine HR.out.mono ?_
  rintro e w6 ⟨u6, rfl, r6, b6⟩
  rw [HFL.out]
  obtain ⟨p6, c6, hu6⟩ := xahZ r6
  subst hu6
  have b16 := bthen B5.out b6
  have HCP := hideP (xflZ p _ w6 (pfull_below HPF.out b16))
  have R6 := hideP r6
  have B6 := hideP b16
  clear e0 g3 t0 t1 t2 t3 HR b6 r6
  obtain ⟨e0, -⟩ := KC.out w6 b16
  clear b16
  go_wp2_with fail
  refine HCP.out.mono ?_
  rintro e w7 ⟨u7, q, rfl, hq, b7⟩
  obtain ⟨p7, c7, hu7⟩ := xahZ hq.row
  subst hu7
  obtain ⟨W8, hW8⟩ : ∃ W, w7.alloc (.cells #[.slice p7 q.length c7] 24) = W := ⟨_, rfl⟩
  have b8 : Below w7.heap.size w7 W8 := by rw [← hW8]; exact (Below.refl _ w7).alloc (Nat.le_refl _) _
  have z8 : W8.heap[w7.heap.size]? = some (.cells #[.slice p7 q.length c7] 24 (0, 0)) := by rw [← hW8]; exact World.alloc_heap_new w7 _
  have hq8 := hq.below b8
  have b18 := bthen B6.out (bthen b7 b8)
  have b68 := bthen b7 b8
  have hql : q.length = p.length := hq.len
  obtain ⟨c, hc⟩ := xagZ (l := q) (k := k) (by omega)
  have hcr := hq8.code k c _ hc HF.out
  have hcn := xeaZ q k c hc
  obtain ⟨d7, hd7⟩ : ∃ d : List Value, fnCells q = d := ⟨_, rfl⟩
  simp only at hcr
  -- the copy's code is not empty: it lies in a block
  obtain ⟨gc, capc, curc, hcv, hcb, hch, hc1, hc2, hc3, hc4⟩ : ∃ g cap cur, c.2.2.2 = .slice (some ⟨g, 0, none⟩) D.length cap ∧ w6.heap.size ≤ g ∧ W8.heap[g]? = some (.cells cur 38 (0, 0)) ∧ D.length ≤ cap ∧ cap ≤ maxLen ∧ cur.size = cap * 2 ∧ cur.toList.take (D.length * 2) = opCells D := by
    rcases hcr.2 with ⟨h1, h2⟩ | ⟨g, cap, cur, h1, h2, h3, h4, h5, h6, h7⟩
    · omega
    · exact ⟨g, cap, cur, h1, h2, h3, h4, h5, h6, h7⟩
  obtain ⟨gr, capr, curr, hrv, hrb, hrh, hr1, hr2, hr3, hr4⟩ : ∃ g cap cur, (Value.slice p7 q.length c7) = .slice (some ⟨g, 0, none⟩) q.length cap ∧ w6.heap.size ≤ g ∧ W8.heap[g]? = some (.cells cur 28 (0, 0)) ∧ q.length ≤ cap ∧ cap ≤ maxLen ∧ cur.size = cap * 4 ∧ cur.toList.take (q.length * 4) = fnCells q := by
    rcases hq8.row.2 with ⟨h1, h2⟩ | ⟨g, cap, cur, h1, h2, h3, h4, h5, h6, h7⟩
    · omega
    · exact ⟨g, cap, cur, h1, h2, h3, h4, h5, h6, h7⟩
  cases hrv
  have y3 : W8.cell? ⟨gr, k * 4 + 3, none⟩ = some (.slice (some ⟨gc, 0, none⟩) D.length capc) := by
    have h1 := hcn.2.2.2
    rw [← hr4, List.getElem?_take, hcv] at h1
    split at h1
    · rw [xaaZ hrh]
      simpa using h1
    · cases h1
  have y0 : W8.cell? ⟨w7.heap.size, 0, none⟩ = some (.slice (some ⟨gr, 0, none⟩) q.length c7) := xaaZ z8 0
  obtain ⟨-, o0, o1⟩ := KC.out W8 b18
  have ho0 : ∃ v, W8.cell? ⟨gc, j * 2, none⟩ = some v := by
    rw [xaaZ hch]
    exact ⟨_, Array.getElem?_eq_getElem (by omega)⟩
  have ho1 : ∃ v, W8.cell? ⟨gc, j * 2 + 1, none⟩ = some v := by
    rw [xaaZ hch]
    exact ⟨_, Array.getElem?_eq_getElem (by omega)⟩
  obtain ⟨v0, ho0⟩ := ho0
  obtain ⟨v1, ho1⟩ := ho1
  have fz := Lib.frozen_of_heap hch
  have f0 := fz (j * 2)
  have f1 := fz (j * 2 + 1)
  have hkq : (k : Int) < (q.length : Int) := by omega
  have n1 : ¬ w7.heap.size = gc := fun e => by rw [e, hch] at z8; cases z8
  have n2 : ¬ gr = gc := fun e => by rw [e, hch] at hrh; cases hrh
  have lw : w.heap.size + 1 < w6.heap.size := Nat.lt_of_lt_of_le lx1 B6.out.size
  have n3 : ¬ w.heap.size + 1 = gc := by omega
  have n4 : ¬ w.heap.size = gc := by omega
  have HQ8 := hideP hq8
  have HCC := hideP hc
  have HCV := hideP hcv
  have Z8 := hideP z8
  have B8 := hideP b18
  have B68 := hideP b68
  have HQL := hideP hql
  have HCH := hideP hch
  clear hq hq8 b7 b8 z8 b18 b68 hc hcr hcn hd7 hcv hch hc3 hc4 hrh hr3 hr4 fz e0 HCP hql
  have d8 : Below W8.heap.size W8 W8.drew := (Below.refl _ W8).drew
  have SETD := hideP ((HQ8.out.below d8).setsOp (pc := j) HCC.out HF.out HCV.out (oc, oa))
  go_upto_region 9 with fail
  go_cut [76] from 68 (fun _ wx => PCopy wx w6.heap.size (.slice (some ⟨gr, 0, none⟩) q.length c7) q (p.set k (setOp (P, L, Rr, D) j (oc, oa))) ∧ wx.cell? ⟨w7.heap.size, 0, none⟩ = some (.slice (some ⟨gr, 0, none⟩) q.length c7) ∧ Below w6.heap.size w6 wx)
  case first =>
    have k0 := two_cellV (a := .int .i64 oc) (b := .int .i64 oa) (i := j * 2) (i' := j * 2 + 1) y0 n1
    have k3 := two_cellV (a := .int .i64 oc) (b := .int .i64 oa) (i := j * 2) (i' := j * 2 + 1) y3 n2
    have k4 := two_cellV (a := .int .i64 oc) (b := .int .i64 oa) (i := j * 2) (i' := j * 2 + 1) o0 n3
    have k5 := two_cellV (a := .int .i64 oc) (b := .int .i64 oa) (i := j * 2) (i' := j * 2 + 1) o1 n3
    go_region_held3 (fun W => W.cell? ⟨w7.heap.size, 0, none⟩ = some (.slice (some ⟨gr, 0, none⟩) q.length c7) ∧ W.cell? ⟨gr, k * 4 + 3, none⟩ = some (.slice (some ⟨gc, 0, none⟩) D.length capc) ∧ W.cell? ⟨w.heap.size + 1, 0, none⟩ = some (.int .i64 oc) ∧ W.cell? ⟨w.heap.size + 1, 1, none⟩ = some (.int .i64 oa)) (first | go_keep | exact ⟨two_cellV y0 n1, two_cellV y3 n2, two_cellV o0 n3, two_cellV o1 n3⟩) (fail)
    all_goals
      go_wp2_with fail
      go_meet
      exact ⟨SETD.out, k0, ((B68.out.drew).setCell (p := ⟨gc, j * 2, none⟩) hcb _).setCell (p := ⟨gc, j * 2 + 1, none⟩) hcb _⟩
  case rest =>
    rename World => w9
    obtain ⟨hq9, y9, b69⟩ := hcut
    have b19 := bthen B6.out b69
    have hi9 : IntsAt w9 (.slice p6 (xboZ D).length c6) (xboZ D) := (xaqZ rfl R6.out).below b69
    have HQ9 := hideP hq9
    have B9 := hideP b19
    have hbox : w7.heap.size < w9.heap.size := xgbZ y9
    obtain ⟨pl, hpl⟩ : ∃ pl, p.set k (setOp (P, L, Rr, D) j (oc, oa)) = pl := ⟨_, rfl⟩
    rw [hpl] at HQ9
    have HPL := hideP hpl
    have HHAS := hideP (has_any (xboZ D) (j : Int) _ w9 hi9)
    obtain ⟨hfq, hcq⟩ := HQ9.out.at_
    have HKQ := hideP (xbnZ pl _ w9 hfq)
    clear hq9 b69 b19 hi9 hpl hfq hcq y0 y3 o0 o1 ho0 ho1 f0 f1
    go_wp2_with fail
    refine HHAS.out.mono ?_
    rintro e wh ⟨rfl, hwh⟩
    have hwh := hwh.symm
    subst hwh
    by_cases hin : (j : Int) ∈ xboZ D
    · have t4 : decide ((j : Int) ∈ xboZ D) = true := decide_eq_true hin
      rw [t4]
      clear hin t4
      go_wp2
      go_ret
      exact ⟨rfl, bthen HB1.out B9.out⟩
    have t4 : decide ((j : Int) ∈ xboZ D) = false := decide_eq_false hin
    have hnc : ¬ Come D j := fun h => hin ((reach_mem HFL.out).2 ⟨h, by omega⟩)
    have HNC := hideP hnc
    rw [t4]
    clear hin t4 hnc
    go_wp2_with fail
    refine HKQ.out.mono ?_
    rintro e wA ⟨rfl, bA⟩
    have b1A := bthen B9.out bA
    have FINA := hideP (bthen HB1.out b1A)
    by_cases he2 : xakZ pl = 0
    case neg =>
      have heb : (xakZ pl != 0) = true := by simp [he2]
      generalize xakZ pl = er at *
      clear he2 b1A
      go_wp2
      go_ret
      exact ⟨rfl, FINA.out⟩
    have HE2 := hideP he2
    rw [he2]
    clear he2
    obtain ⟨eA, -⟩ := KC.out wA b1A
    have yA := (bA.cell (p := ⟨w7.heap.size, 0, none⟩) hbox).trans y9
    have HPA := HPF.out.at_.below b1A
    have HF1 := hideP (xdxZ p (k : Int) _ wA HPA (HPF.out.cap.below HPF.out.at_ b1A))
    have BA := hideP bA
    have B1A := hideP b1A
    clear bA b1A HPA y9
    go_wp2_with fail
    refine HF1.out.mono ?_
    rintro e wB ⟨v7, er7, l7, rfl, hF7, hE7, bB⟩
    have rd7 := xf1Z hE7
    obtain ⟨p7', c7', rfl⟩ := rd7.shp
    have RD7 := hideP rd7
    have HF7 := hideP hF7
    have yB := (bB.cell (p := ⟨w7.heap.size, 0, none⟩) (xgbZ yA)).trans yA
    have b9B := bthen BA.out bB
    obtain ⟨hfq, hcq⟩ := (HQ9.out.below b9B).at_
    have HF2 := hideP (xdxZ pl (k : Int) _ wB hfq hcq)
    have B1B := hideP (bthen B1A.out bB)
    clear rd7 hE7 hF7 HF1 yA eA hfq hcq b9B bB
    go_wp2_with fail
    refine HF2.out.mono ?_
    rintro e wC ⟨v8, er8, l8, rfl, hF8, hE8, bC⟩
    have hsame : xdmZ pl (k : Int) er7 l7 := by
      have h1 := func_dead (o := (oc, oa)) HE.out (by rw [HPL.out]; exact HE2.out) HF7.out HF.out HNC.out
      rw [HPL.out] at h1
      exact h1
    obtain ⟨rfl, rfl⟩ := funcIs_one hF8 hsame
    have rd8 := xf1Z hE8
    obtain ⟨p8, c8, rfl⟩ := rd8.shp
    have hself : (er8 == er8) = true := by simp
    have HS := hideP (xfxZ l8 _ _ wC (RD7.out.below bC) rd8)
    have B1C := hideP (bthen B1B.out bC)
    clear rd8 hE8 hF8 HF2 hsame HF7 bC yB
    go_wp2_with fail
    refine HS.out.mono ?_
    rintro e wD ⟨rfl, bD⟩
    go_wp2
    go_ret
    exact ⟨rfl, bthen HB1.out (bthen B1C.out bD)⟩
theorem lifted (os : Os) (started : os.Started) (H : Type) (enc : TypeId × Value → H) :
    ReturnsInHanded {} Tryz.checked os 4 .any (Rows.verifyDeadSpec.pre6 enc Tryz.prog Tryz.f4 Rows.verifyDeadRow.domain false) (Rows.verifyDeadSpec.post enc Tryz.prog Tryz.f4 false true false false) := by
  refine returnsInHanded_of_change_sized (C := Tryz.checked) own started (by kernel_rfl) Tryz.func4
    (ChangeSpec.witness6 (enc := enc) (C := Tryz.checked) false ⟨#[], #[.agg #[.slice none 0 0], .int .i64 0, .int .i64 0, .agg #[.int .i64 0, .int .i64 0]], []⟩ 8 (by kernel_rfl) (by kernel_rfl) (by kernel_rfl) (by kernel_rfl)) ?_
  intro W base args ds gs before hval0 hW hcnd hsz0 hholds
  have hval : ∀ (j : Nat) t v, Tryz.f4.params[j]? = some t → args[j]? = some v → Value.okWide Tryz.prog W .any base t v := hval0
  have hsz : (DataW.weightsEach Tryz.prog (Tryz.f4.params.toList ++ Rows.verifyDeadSpec.plain.varTypes Tryz.prog) (ds ++ gs)).all (· ≤ reachBytes) = true := hsz0
  have hW' := hW
  obtain ⟨p, q, hA0, hV, rfl, hfz, hnd⟩ := hW
  have hA : DataW.TrodAll enc Tryz.prog W 0 (fun _ => true) true Tryz.f4.params.toList args.toList ds p := hA0
  rw [Tryz.params4] at hA hval hsz
  obtain ⟨v0, vs0, d0, ds0, p0, q0, hargs, rfl, rfl, h0, r0⟩ := trodAll_cons hA
  obtain ⟨v1, vs1, d1, ds1, p1, q1, rfl, rfl, rfl, h1, r1⟩ := trodAll_cons r0
  obtain ⟨v2, vs2, d2, ds2, p2, q2, rfl, rfl, rfl, h2, r2⟩ := trodAll_cons r1
  obtain ⟨v3, vs3, d3, ds3, p3, q3, rfl, rfl, rfl, h3, r3⟩ := trodAll_cons r2
  obtain ⟨rfl, rfl, rfl⟩ := trodAll_nil r3
  obtain rfl : args = #[v0, v1, v2, v3] := by cases args; simp_all
  obtain ⟨rfl, rfl⟩ := trodVars_none hV
  have k0 := h0
  have k1 := h1
  have k2 := h2
  have k3 := h3
  have lt0 : ∀ x ∈ p0, x.block < W.heap.size := by obtain ⟨m, hm⟩ := k0; exact DataW.trod_lt m _ _ _ hm
  have lt1 : ∀ x ∈ p1, x.block < W.heap.size := by obtain ⟨m, hm⟩ := k1; exact DataW.trod_lt m _ _ _ hm
  have lt2 : ∀ x ∈ p2, x.block < W.heap.size := by obtain ⟨m, hm⟩ := k2; exact DataW.trod_lt m _ _ _ hm
  have lt3 : ∀ x ∈ p3, x.block < W.heap.size := by obtain ⟨m, hm⟩ := k3; exact DataW.trod_lt m _ _ _ hm
  have hw0 : ∀ n ∈ d0.weights Tryz.prog 24, n ≤ reachBytes := fun n hn => by have := List.all_eq_true.1 hsz n (DataW.weights_mem_each (j := 0) rfl rfl n hn); simpa using this
  obtain ⟨c0, l0, rfl, hl0⟩ := open_progC (hval 0 24 v0 rfl rfl) h0 hw0
  obtain ⟨x1, rfl, hd1, hp1, wx1⟩ := open_int Tryz.underlying3 (hval 1 3 v1 rfl rfl) h1
  have hx1 : -9223372036854775808 ≤ x1 ∧ x1 ≤ 9223372036854775807 := by simpa [Lit.wf, IntKind.min, IntKind.max, IntKind.bits, IntKind.signed] using wx1
  obtain ⟨x2, rfl, hd2, hp2, wx2⟩ := open_int Tryz.underlying3 (hval 2 3 v2 rfl rfl) h2
  have hx2 : -9223372036854775808 ≤ x2 ∧ x2 ≤ 9223372036854775807 := by simpa [Lit.wf, IntKind.min, IntKind.max, IntKind.bits, IntKind.signed] using wx2
  obtain ⟨c3, a3, rfl⟩ := open_opV (hval 3 38 v3 rfl rfl) h3
  clear hA0 hval0 hsz0
  refine (walk W l0 c0 hl0 x1 hx1 x2 hx2 c3 a3).mono fun e W' ⟨he, bel⟩ => ?_
  subst he
  exact ⟨_, rfl, _, _, _, [], _, [], hW', trodAll_mk1 (shut_bool Tryz.underlying4 _), (trodAll_cons_mk (Below.trod laidOut (by kernel_rfl) (of_decide_eq_true (by kernel_rfl)) k0 bel lt0) (trodAll_cons_mk (Below.trod laidOut (by kernel_rfl) (of_decide_eq_true (by kernel_rfl)) k1 bel lt1) (trodAll_cons_mk (Below.trod laidOut (by kernel_rfl) (of_decide_eq_true (by kernel_rfl)) k2 bel lt2) (trodAll_cons_mk (Below.trod laidOut (by kernel_rfl) (of_decide_eq_true (by kernel_rfl)) k3 bel lt3) trodAll_mk0)))), rfl, bel.frame _, fun h => by cases h⟩
theorem over : Rows.verifyDeadRow.holds Tryz.pinned (OpenSpec.ofChange Rows.verifyDeadSpec) :=
  OpenClaim.holds_of_wide 4 Tryz.f4 rfl rfl rfl rfl rfl rfl rfl ⟨rfl, rfl, rfl, rfl, rfl⟩ rfl rfl rfl rfl rfl (by kernel_rfl) Tryz.func4 (by kernel_rfl)
    (of_decide_eq_true (by kernel_rfl)) (by unfold Func.isWrapper; first | (rw [if_pos (by decide +kernel)]; kernel_rfl) | (rw [if_neg (by decide +kernel)]; exact ⟨rfl, rfl⟩))
    (fun os started H enc _ => lifted os started H enc)
end Go.Proofs.YtgmkmlenhhhgkaaGreat.verifyDead
namespace Go.Proofs.YtgmkmlenhhhgkaaGreat
/-- For every input the law VerifyDead returns true, and the arguments read as they did. -/
theorem verifyDead_holds : Rows.VerifyDeadSaid := verifyDead.over
end Go.Proofs.YtgmkmlenhhhgkaaGreat

