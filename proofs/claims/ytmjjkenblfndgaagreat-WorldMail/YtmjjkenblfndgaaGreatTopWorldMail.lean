/- Nothing that is sent is lost, or told twice: for every program and world WorldMail returns true. No condition. -/
import Derived.Test.YtmjjkenblfndgaaGreatE27
import Derived.Test.YtmjjkenblfndgaaGreatE26
import Derived.Test.YtmjjkenblfndgaaGreatE17
import Derived.Test.YtmjjkenblfndgaaGreatE6
import Derived.Deep.CutRange
import Derived.Deep.QuietTactic
import Derived.BigQuiet
set_option maxRecDepth 100000
set_option maxHeartbeats 8000000
namespace Go.Proofs.YtmjjkenblfndgaaGreat.worldMail
open Go.ChangeShapes Go.WideShapes Go.ChangeAt Go.RowKit
set_option linter.unusedVariables false
set_option linter.unusedSimpArgs false
theorem own : ownKnob Tryz.prog.godebug = none := by kernel_rfl
theorem laidOut : laidOutB Tryz.prog = true := by kernel_rfl
theorem manyAt_le (W : List Mach) (i : Nat) : xa4Z W i ≤ 10 := by
  unfold xa4Z
  split
  · omega
  · omega
theorem xggZ (W : List Mach) : ∀ n, wentN W n ≤ 10 * n
  | 0 => by simp [wentN]
  | n + 1 => by
    have := xggZ W n
    have := manyAt_le (xbhZ W n) n
    rw [wentN]
    omega
theorem wentN_step {W : List Mach} {i : Nat} (hi : i < W.length) : wentN W (i + 1) = wentN W i + xa4Z W i := by
  rw [wentN, (xenZ W (i + 1) hi).2 i (by omega)]
theorem walk (w : World) (p : List Fn) (pv : Value) (hpf : ProgFull w pv p) (L : List Mach) (wv : Value) (hW : MachsAt w wv L) (hWL : ∀ M ∈ L, MachLong M) :
    Calls Tryz.prog 5 #[.agg #[pv], .agg #[wv]] w fun e w' => e = .returned (.bool true) ∧ Below w.heap.size w w' := by
  have hpc : ∀ M ∈ L, PcOk M := fun M hM x hx => ((hWL M hM).fr.2 x hx).2.2
  have hcp := hpf.cap
  have hpp := hpf.at_
  obtain ⟨pp, qp, hpv, -⟩ := id hpp
  subst hpv
  obtain ⟨pw, cw, hwv, -⟩ := hW.shp
  subst hwv
  obtain ⟨W1, hW1⟩ : ∃ W1, (w.alloc (.cells #[.slice pp p.length qp] 24)).alloc (.cells #[.slice pw L.length cw] 27) = W1 := ⟨_, rfl⟩
  have b1 : Below w.heap.size w W1 := by rw [← hW1]; exact ((Below.refl _ w).alloc (Nat.le_refl _) _).alloc (by simp) _
  have u1 : W1.heap[w.heap.size]? = some (.cells #[.slice pp p.length qp] 24 (0, 0)) := by rw [← hW1]; exact xalZ (World.alloc_heap_new w _) _
  have u2 : W1.heap[w.heap.size + 1]? = some (.cells #[.slice pw L.length cw] 27 (0, 0)) := by rw [← hW1]; exact xa1Z _ _ _
  have KC : Hid (∀ W, Below W1.heap.size W1 W → W.cell? ⟨w.heap.size, 0, none⟩ = some (.slice pp p.length qp) ∧ W.cell? ⟨w.heap.size + 1, 0, none⟩ = some (.slice pw L.length cw)) := fun W hW => ⟨xaaZ ((hW.block _ (xacZ u1)).trans u1) 0, xaaZ ((hW.block _ (xacZ u2)).trans u2) 0⟩
  have HP := hideP (And.intro (hpp.below b1) (hcp.below hpp b1))
  have HM := hideP (hW.below b1)
  have HPC := hideP hpc
  have HB1 := hideP b1
  obtain ⟨e0, e1⟩ := KC.out W1 (Below.refl _ _)
  clear hpf hW hWL hpc hcp hpp u1 u2 b1
  go_enter Tryz.func5, Tryz.ntmps5
  go_wp2_with fail
  refine (xirZ L p _ _ W1 HP.out.1 HP.out.2 HM.out HPC.out).mono ?_
  rintro e w2 ⟨u2, rfl, o2⟩
  obtain ⟨T, hT⟩ : ∃ T, mailL p L = T := ⟨_, rfl⟩
  obtain ⟨nn, hnn⟩ : ∃ nn, mailN p L = nn := ⟨_, rfl⟩
  rw [hT] at o2
  rw [hnn]
  obtain ⟨p2, c2, hu2⟩ := o2.shp
  subst hu2
  obtain ⟨V2, hV2⟩ : ∃ V2, w2.alloc (.cells #[.slice p2 (T).length c2] 27) = V2 := ⟨_, rfl⟩
  have d2 : Below w2.heap.size w2 V2 := by rw [← hV2]; exact (Below.refl _ w2).alloc (Nat.le_refl _) _
  have x2 : V2.heap[w2.heap.size]? = some (.cells #[.slice p2 (T).length c2] 27 (0, 0)) := by rw [← hV2]; exact World.alloc_heap_new w2 _
  have A2 := hideP (o2.at_.below d2)
  have F2 := hideP (xaeZ o2.bel d2)
  have K2 : Hid (∀ W, Below V2.heap.size V2 W → W.cell? ⟨w2.heap.size, 0, none⟩ = some (.slice p2 (T).length c2)) := fun W hW => xaaZ ((hW.block _ (xacZ x2)).trans x2) 0
  clear o2 d2 x2
  obtain ⟨e0', e1'⟩ := KC.out V2 F2.out
  have HTT := hideP hT
  have HNN := hideP hnn
  clear e0 e1 hT hnn
  go_wp2_with fail
  refine (xlsZ V2).mono ?_
  rintro e w3 ⟨rfl, b3⟩
  obtain ⟨e0, e1⟩ := KC.out w3 (xaeZ F2.out b3)
  have k3 := K2.out w3 b3
  have HB3 := hideP b3
  clear e0' e1' b3
  by_cases hE : xa3Z p L = 0
  rotate_left
  · have hT0 : T = [] := by rw [← HTT.out]; exact if_neg hE
    have hN0 : nn = 0 := by rw [← HNN.out]; exact if_neg hE
    subst hN0
    have t1 : ((T.length : Int) == 0) = true := by rw [hT0]; rfl
    have t2 : (T.length == 0) = true := by rw [hT0]; rfl
    have t0 : (xa3Z p L != 0) = true := by simpa using hE
    generalize xa3Z p L = er at *
    clear hE hT0
    go_wp2
    go_ret
    exact ⟨rfl, xaeZ HB1.out (xaeZ F2.out HB3.out)⟩
  have hTs : T = mailW L := by rw [← HTT.out]; exact if_pos hE
  have hNs : nn = wentW L := by rw [← HNN.out]; exact if_pos hE
  rw [hE]
  obtain ⟨r1, r2, r3, r4, r5⟩ := xfkZ hE
  have hTr : ∀ M ∈ T, RightM p (entP p) M := by rw [hTs]; exact xhrZ r5
  have hTl : T.length = L.length := by rw [hTs]; exact xd8Z L
  have hL0 : 0 < L.length := List.length_pos_iff.2 r1
  have hT0 : xa3Z p T = 0 := xlbZ (fun h => by rw [h] at hTl; simp at hTl; omega) (by omega) r3 r4 hTr
  have h10 : ∀ m ∈ L, m.inp.length ≤ 10 := fun m hm => (r5 m hm).inp.1
  obtain ⟨-, hag1, hag2⟩ := mail_again h10
  have HAG := hideP (show mailL p T = T ∧ mailN p T = 0 from ⟨by unfold mailL; rw [if_pos hT0, hTs, hag1], by unfold mailN; rw [if_pos hT0, hTs, hag2]⟩)
  have HT0 := hideP hT0
  have HPT := hideP (show ∀ M ∈ T, PcOk M from fun M hM => right_pc r3 r4 (hTr M hM))
  have HTS := hideP hTs
  have HNS := hideP hNs
  have HTL := hideP hTl
  have HR := hideP r5
  clear hE hTs hNs r1 r3 r4 r5 hTr hT0 hag1 hag2 h10 hTl e0 e1 k3
  go_wp2
  go_loopw [8, 9, 10, 11, 12] (fun v8 v9 _ _ _ wr => ∃ i : Nat, i ≤ L.length ∧ v8 = .int .i64 (wentN L i) ∧ v9 = .int .i64 i ∧ Below V2.heap.size V2 wr) (fun _ v9 _ _ _ _ => L.length - (intOf v9).toNat)
  case atStart => exact ⟨0, Nat.zero_le _, rfl, rfl, HB3.out⟩
  case round =>
    rename World => w6
    obtain ⟨i, hil, rfl, rfl, b6⟩ := hrel
    have b16 := xaeZ F2.out b6
    obtain ⟨x0, x1⟩ := KC.out w6 b16
    have k6 := K2.out w6 b6
    by_cases hlt : i < L.length
    rotate_left
    · have hlti : ¬ (i : Int) < (L.length : Int) := by omega
      have hil : i = L.length := by omega
      subst hil
      have hwn : wentN L L.length = nn := HNS.out.symm
      rw [hwn]
      have HB6 := hideP b6
      have HMA := hideP (xirZ T p _ _ w6 (HP.out.1.below b16) (HP.out.2.below HP.out.1 b16) (A2.out.below b6) HPT.out)
      clear hwn b6 b16
      go_wp2_with fail
      refine HMA.out.mono ?_
      rintro e w7 ⟨u7, rfl, o7⟩
      rw [HAG.out.1] at o7
      rw [HAG.out.2, HT0.out]
      obtain ⟨p7, c7, hu7⟩ := o7.shp
      subst hu7
      obtain ⟨V7, hV7⟩ : ∃ V7, w7.alloc (.cells #[.slice p7 (T).length c7] 27) = V7 := ⟨_, rfl⟩
      have d7 : Below w7.heap.size w7 V7 := by rw [← hV7]; exact (Below.refl _ w7).alloc (Nat.le_refl _) _
      have x7 : V7.heap[w7.heap.size]? = some (.cells #[.slice p7 (T).length c7] 27 (0, 0)) := by rw [← hV7]; exact World.alloc_heap_new w7 _
      have A7 := hideP (o7.at_.below d7)
      have F7 := hideP (xaeZ o7.bel d7)
      have K7 : Hid (∀ W, Below V7.heap.size V7 W → W.cell? ⟨w7.heap.size, 0, none⟩ = some (.slice p7 (T).length c7)) := fun W hW => xaaZ ((hW.block _ (xacZ x7)).trans x7) 0
      clear o7 d7 x7
      have k7 := K7.out V7 (Below.refl _ _)
      have k2 := K2.out V7 (xaeZ HB6.out F7.out)
      have HSW := hideP (xndZ T T _ _ V7 A7.out (A2.out.below (xaeZ HB6.out F7.out)))
      go_wp2_with fail
      refine HSW.out.mono ?_
      rintro e w8 ⟨r, rfl, hr, b8⟩
      have hr1 : r = true := hr.2 rfl
      subst hr1
      go_wp2
      go_ret
      exact ⟨rfl, xaeZ HB1.out (xaeZ F2.out (xaeZ HB6.out (xaeZ F7.out b8)))⟩
    have hlti : (i : Int) < (L.length : Int) := by omega
    have hm1 : ((i : Int) + 1) % (L.length : Int) = ((nextW L.length i : Nat) : Int) := by simp [nextW]
    have hnl : nextW L.length i < L.length := xf5Z (by omega)
    have hnli : ((nextW L.length i : Nat) : Int) < (L.length : Int) := by omega
    obtain ⟨a, ha⟩ := xagZ hlt
    obtain ⟨b, hb⟩ := xagZ hnl
    obtain ⟨a', b', ha', hb', hsum, hfull, hcount⟩ := xmdZ ha hb (HR.out b (List.mem_of_getElem? hb)).inp.1
    rw [← HTS.out] at ha' hb'
    have hlT : (i : Int) < (T.length : Int) := by rw [HTL.out]; exact hlti
    have hnT : ((nextW L.length i : Nat) : Int) < (T.length : Int) := by rw [HTL.out]; exact hnli
    obtain ⟨p9, c9, he9, -, -, hf⟩ := (HM.out.below b16)
    cases he9
    obtain ⟨g, off, fa, ba, ia, oa, hpw, hg, -, -, -, m3, -, -, hA⟩ := hf i a ha
    subst hpw
    obtain ⟨gq, oq, fb, bb, ib, ob, hpq, -, -, -, n2, -, -, -, hB⟩ := hf _ b hb
    cases hpq
    obtain ⟨-, -, -, ⟨po, co, hoa⟩⟩ := hA.shp
    obtain ⟨-, -, ⟨pi, ci, hib⟩, -⟩ := hB.shp
    subst hoa hib
    obtain ⟨p5, c5, he5, -, -, hf5⟩ := (A2.out.below b6)
    cases he5
    obtain ⟨g5, o5, fa5, ba5, ia5, oa5, hp5, hg5, -, -, -, m35, -, -, hA5⟩ := hf5 i a' ha'
    subst hp5
    obtain ⟨gq5, oq5, fb5, bb5, ib5, ob5, hpq5, -, -, -, n25, -, -, -, hB5⟩ := hf5 _ b' hb'
    cases hpq5
    obtain ⟨-, -, -, ⟨po5, co5, hoa5⟩⟩ := hA5.shp
    obtain ⟨-, -, ⟨pi5, ci5, hib5⟩, -⟩ := hB5.shp
    subst hoa5 hib5
    have HA10 := hideP (HR.out a (List.mem_of_getElem? ha)).out.1
    have HB10 := hideP (HR.out b (List.mem_of_getElem? hb)).inp.1
    have HO := hideP hA.out
    have HI := hideP hB.inp
    have HO5 := hideP hA5.out
    have HI5 := hideP hB5.inp
    have HX := hideP (And.intro hsum (And.intro hfull hcount))
    have HB6 := hideP b6
    have HB16 := hideP b16
    clear hf hf5 hA hB hA5 hB5 ha hb ha' hb' hsum hfull hcount b6 b16
    have lx1 := xbkZ x1
    have lk6 := xbkZ k6
    have ha10 : a.out.length ≤ 10 := HA10.out
    have hb10 : b.inp.length ≤ 10 := HB10.out
    go_upto_region 11 with fail
    go_cut [11] from 47 to 117 (fun sa wq => ∃ (q : Option Addr) (c : Nat), sa = .slice q (b.inp.length + a.out.length) c ∧ IntsAt wq (.slice q (b.inp.length + a.out.length) c) (b.inp ++ a.out) ∧ Below w6.heap.size w6 wq)
    case first =>
      have BR := Below.refl w6.heap.size w6
      go_region_held3 (fun W => W.cell? ⟨w.heap.size + 1, 0, none⟩ = some (.slice (some ⟨g, off, none⟩) L.length cw) ∧ W.cell? ⟨g, off + nextW L.length i * 6 + 2, none⟩ = some (.slice pi b.inp.length ci) ∧ W.cell? ⟨g, off + i * 6 + 3, none⟩ = some (.slice po a.out.length co)) (first | go_keep)
        (first
          | (refine xdpZ (by rfl) _ _ (by rfl) w6.heap.size _ (b.inp) (by rfl) (by exact xhsZ ho1 rfl) _ (a.out) (by rfl) (HO.out.below (by exact xb4Z kp1 rfl rfl rfl rfl)) (by omega) (by have := kp1.size; first | (simp; done) | (simp; omega)) ?_; intro u2x w2x ho2 hg2; rw [List.length_append] at ho2; obtain ⟨q2, cc2, hu2⟩ := xaiZ ho2; subst hu2; have kp2 : Below w6.heap.size w6 w2x := xfwZ (by exact xb4Z kp1 rfl rfl rfl rfl) hg2 (fun k hk => (ho1.lt k hk).1); have rx0 := (kp2.cell (p := ⟨w.heap.size + 1, 0, none⟩) lx1).trans x1; have rx1 := (kp2.cell (p := ⟨g, off + nextW L.length i * 6 + 2, none⟩) hg).trans n2; have rx2 := (kp2.cell (p := ⟨g, off + i * 6 + 3, none⟩) hg).trans m3)
          | (refine xdpZ (by rfl) _ _ (by rfl) w6.heap.size _ [] (by rfl) (xkwZ (by first | exact World.alloc_heap_new _ _ | exact xalZ (World.alloc_heap_new _ _) _) (by omega)) _ (b.inp) (by rfl) (HI.out.below (by first | exact xb4Z BR rfl rfl rfl rfl | exact xb4Z (xfvZ BR _) rfl rfl rfl rfl)) (by simp; omega) (by first | (simp; done) | (simp; omega)) ?_; intro u1 w1 ho1 hg1; simp only [List.nil_append] at ho1; obtain ⟨q1, cc1, hu1⟩ := xaiZ ho1; subst hu1; have kp1 : Below w6.heap.size w6 w1 := xfwZ (by first | exact xb4Z BR rfl rfl rfl rfl | exact xb4Z (xfvZ BR _) rfl rfl rfl rfl) hg1 (by intro k e; simp [Value.ownBlock] at e; omega); have sx0 := (kp1.cell (p := ⟨w.heap.size + 1, 0, none⟩) lx1).trans x1; have sx1 := (kp1.cell (p := ⟨g, off + nextW L.length i * 6 + 2, none⟩) hg).trans n2; have sx2 := (kp1.cell (p := ⟨g, off + i * 6 + 3, none⟩) hg).trans m3))
      all_goals
        go_wp2_with fail
        go_meet
        first | exact ⟨_, _, rfl, xbaZ (by simp) ho2, kp2⟩ | exact ⟨_, _, rfl, xbaZ (by simp) (xhsZ ho2 rfl), xb4Z kp2 rfl rfl rfl rfl⟩
    case rest =>
      obtain ⟨q11, c11, rfl, hwas, hbx⟩ := hcut
      rename World => wx
      have k6x := (hbx.cell (p := ⟨w2.heap.size, 0, none⟩) lk6).trans k6
      have n25x := (hbx.cell (p := ⟨g5, o5 + nextW L.length i * 6 + 2, none⟩) hg5).trans n25
      have m35x := (hbx.cell (p := ⟨g5, o5 + i * 6 + 3, none⟩) hg5).trans m35
      have lk6x := xbkZ k6x
      have hg5x := xbkZ m35x
      have ha5 : a'.out.length ≤ 10 := by have := HX.out.2.2; omega
      have hb5 : b'.inp.length ≤ 100 := by
        have := congrArg List.length HX.out.1
        simp at this
        omega
      have HI5x := hideP (HI5.out.below hbx)
      have HO5x := hideP (HO5.out.below hbx)
      have HBX := hideP hbx
      have HWAS := hideP hwas
      clear hwas hbx k6 n25 m35 lk6 hg5
      go_upto_region 12 with fail
      go_cut [12] from 62 to 117 (fun sa wq => ∃ (q : Option Addr) (c : Nat), sa = .slice q (b'.inp.length + a'.out.length) c ∧ IntsAt wq (.slice q (b'.inp.length + a'.out.length) c) (b'.inp ++ a'.out) ∧ Below wx.heap.size wx wq)
      case first =>
        have BR := Below.refl wx.heap.size wx
        go_region_held3 (fun W => W.cell? ⟨w2.heap.size, 0, none⟩ = some (.slice (some ⟨g5, o5, none⟩) T.length c2) ∧ W.cell? ⟨g5, o5 + nextW L.length i * 6 + 2, none⟩ = some (.slice pi5 b'.inp.length ci5) ∧ W.cell? ⟨g5, o5 + i * 6 + 3, none⟩ = some (.slice po5 a'.out.length co5)) (first | go_keep)
          (first
            | (refine xdpZ (by rfl) _ _ (by rfl) wx.heap.size _ (b'.inp) (by rfl) (by exact xhsZ ho1 rfl) _ (a'.out) (by rfl) (HO5x.out.below (by exact xb4Z kp1 rfl rfl rfl rfl)) (by omega) (by have := kp1.size; first | (simp; done) | (simp; omega)) ?_; intro u2x w2x ho2 hg2; rw [List.length_append] at ho2; obtain ⟨q2, cc2, hu2⟩ := xaiZ ho2; subst hu2; have kp2 : Below wx.heap.size wx w2x := xfwZ (by exact xb4Z kp1 rfl rfl rfl rfl) hg2 (fun k hk => (ho1.lt k hk).1); have rx0 := (kp2.cell (p := ⟨w2.heap.size, 0, none⟩) lk6x).trans k6x; have rx1 := (kp2.cell (p := ⟨g5, o5 + nextW L.length i * 6 + 2, none⟩) hg5x).trans n25x; have rx2 := (kp2.cell (p := ⟨g5, o5 + i * 6 + 3, none⟩) hg5x).trans m35x)
            | (refine xdpZ (by rfl) _ _ (by rfl) wx.heap.size _ [] (by rfl) (xkwZ (by first | exact World.alloc_heap_new _ _ | exact xalZ (World.alloc_heap_new _ _) _) (by omega)) _ (b'.inp) (by rfl) (HI5x.out.below (by first | exact xb4Z BR rfl rfl rfl rfl | exact xb4Z (xfvZ BR _) rfl rfl rfl rfl)) (by simp; omega) (by first | (simp; done) | (simp; omega)) ?_; intro u1 w1 ho1 hg1; simp only [List.nil_append] at ho1; obtain ⟨q1, cc1, hu1⟩ := xaiZ ho1; subst hu1; have kp1 : Below wx.heap.size wx w1 := xfwZ (by first | exact xb4Z BR rfl rfl rfl rfl | exact xb4Z (xfvZ BR _) rfl rfl rfl rfl) hg1 (by intro k e; simp [Value.ownBlock] at e; omega); have sx0 := (kp1.cell (p := ⟨w2.heap.size, 0, none⟩) lk6x).trans k6x; have sx1 := (kp1.cell (p := ⟨g5, o5 + nextW L.length i * 6 + 2, none⟩) hg5x).trans n25x; have sx2 := (kp1.cell (p := ⟨g5, o5 + i * 6 + 3, none⟩) hg5x).trans m35x))
        all_goals
          go_wp2_with fail
          go_meet
          first | exact ⟨_, _, rfl, xbaZ (by simp) ho2, kp2⟩ | exact ⟨_, _, rfl, xbaZ (by simp) (xhsZ ho2 rfl), xb4Z kp2 rfl rfl rfl rfl⟩
      case rest =>
        obtain ⟨q12, c12, rfl, his, hby⟩ := hcut
        rename World => wy
        have hbxy := xaeZ HBX.out hby
        have HS := hideP (xdfZ (b.inp ++ a.out) (b'.inp ++ a'.out) _ _ wy (HWAS.out.below hby) his)
        have HDEC := hideP (show decide (b.inp ++ a.out = b'.inp ++ a'.out) = true by rw [HX.out.1]; simp)
        have HBXY := hideP hbxy
        have KX : Hid (∀ W, Below wy.heap.size wy W → W.cell? ⟨w.heap.size + 1, 0, none⟩ = some (.slice (some ⟨g, off, none⟩) L.length cw) ∧ W.cell? ⟨g, off + i * 6 + 3, none⟩ = some (.slice po a.out.length co) ∧ W.cell? ⟨w2.heap.size, 0, none⟩ = some (.slice (some ⟨g5, o5, none⟩) T.length c2) ∧ W.cell? ⟨g5, o5 + nextW L.length i * 6 + 2, none⟩ = some (.slice pi5 b'.inp.length ci5) ∧ W.cell? ⟨g5, o5 + i * 6 + 3, none⟩ = some (.slice po5 a'.out.length co5)) := fun W hW => by
          have h1 := xaeZ hbxy hW
          have h2 := xaeZ hby hW
          exact ⟨(h1.cell (p := ⟨w.heap.size + 1, 0, none⟩) lx1).trans x1, (h1.cell (p := ⟨g, off + i * 6 + 3, none⟩) hg).trans m3, (h2.cell (p := ⟨w2.heap.size, 0, none⟩) lk6x).trans k6x, (h2.cell (p := ⟨g5, o5 + nextW L.length i * 6 + 2, none⟩) hg5x).trans n25x, (h2.cell (p := ⟨g5, o5 + i * 6 + 3, none⟩) hg5x).trans m35x⟩
        have hwent : (wentN L i : Int) + ((a.out.length : Int) - (a'.out.length : Int)) = ((wentN L (i + 1) : Nat) : Int) := by
          have h1 := wentN_step hlt
          have h2 := HX.out.2.2
          omega
        have HWENT := hideP hwent
        have hg12 : a'.out.length = 0 ∨ b'.inp.length = 10 := by
          by_cases h : a'.out = []
          · exact .inl (by rw [h]; rfl)
          · exact .inr (HX.out.2.1 h)
        clear his hby hbxy hwent x0 x1 m3 n2 k6x n25x m35x
        go_wp2_with fail
        refine HS.out.mono ?_
        rintro e wz ⟨rfl, bz⟩
        rw [HDEC.out]
        obtain ⟨x1, m3, k6x, n25x, m35x⟩ := KX.out wz bz
        have HEND := hideP (xaeZ HB6.out (xaeZ HBXY.out bz))
        clear bz
        have hwle := xggZ L i
        have hwr : IntKind.i64.wrap ((a.out.length : Int) - (a'.out.length : Int)) = (a.out.length : Int) - (a'.out.length : Int) := by rw [IntKind.wrap_i64]; omega
        have hcnt := HX.out.2.2
        have hwr2 : IntKind.i64.wrap ((wentN L i : Int) + ((a.out.length : Int) - (a'.out.length : Int))) = (wentN L i : Int) + ((a.out.length : Int) - (a'.out.length : Int)) := by rw [IntKind.wrap_i64]; omega
        clear hcnt
        have hii : (0 : Int) ≤ (i : Int) := by omega
        rcases hg12 with h0 | h0
        · have t1 : decide ((a'.out.length : Int) > 0) = false := decide_eq_false (by omega)
          have t1' : decide (0 < a'.out.length) = false := decide_eq_false (by omega)
          have t1'' : decide ((0 : Int) < (a'.out.length : Int)) = false := decide_eq_false (by omega)
          have H0 := hideP h0
          clear h0
          go_wp2_with fail
          go_upto_region 15 with fail
          go_quiet (fail)
          go_wp2
          go_roundw
          case rel =>
            refine ⟨i + 1, by omega, ?_, by go_num, HEND.out.trans ⟨rfl, rfl, rfl, Nat.le_refl _, fun _ _ => rfl⟩⟩
            rw [← HWENT.out]
          case measure => simp [intOf]; omega
        · by_cases hz : a'.out.length = 0
          · have t1 : decide ((a'.out.length : Int) > 0) = false := decide_eq_false (by omega)
            have t1' : decide (0 < a'.out.length) = false := decide_eq_false (by omega)
            have t1'' : decide ((0 : Int) < (a'.out.length : Int)) = false := decide_eq_false (by omega)
            have H0 := hideP h0
            have HZ := hideP hz
            clear h0 hz
            go_wp2_with fail
            go_upto_region 15 with fail
            go_quiet (fail)
            go_wp2
            go_roundw
            case rel =>
              refine ⟨i + 1, by omega, ?_, by go_num, HEND.out.trans ⟨rfl, rfl, rfl, Nat.le_refl _, fun _ _ => rfl⟩⟩
              rw [← HWENT.out]
            case measure => simp [intOf]; omega
          · have t1 : decide ((a'.out.length : Int) > 0) = true := decide_eq_true (by omega)
            have t1' : decide (0 < a'.out.length) = true := decide_eq_true (by omega)
            have t1'' : decide ((0 : Int) < (a'.out.length : Int)) = true := decide_eq_true (by omega)
            have t2 : decide ((b'.inp.length : Int) < 10) = false := decide_eq_false (by omega)
            have t2' : decide (b'.inp.length < 10) = false := decide_eq_false (by omega)
            have H0 := hideP h0
            have HZ := hideP hz
            clear h0 hz
            go_wp2_with fail
            go_upto_region 15 with fail
            go_quiet (fail)
            go_wp2
            go_roundw
            case rel =>
              refine ⟨i + 1, by omega, ?_, by go_num, HEND.out.trans ⟨rfl, rfl, rfl, Nat.le_refl _, fun _ _ => rfl⟩⟩
              rw [← HWENT.out]
            case measure => simp [intOf]; omega
theorem lifted (os : Os) (started : os.Started) (H : Type) (enc : TypeId × Value → H) :
    ReturnsInHanded {} Tryz.checked os 5 .any (Rows.worldMailSpec.pre6 enc Tryz.prog Tryz.f5 Rows.worldMailRow.domain false) (Rows.worldMailSpec.post enc Tryz.prog Tryz.f5 false true false false) := by
  refine returnsInHanded_of_change_sized (C := Tryz.checked) own started (by kernel_rfl) Tryz.func5
    (ChangeSpec.witness6 (enc := enc) (C := Tryz.checked) false ⟨#[], #[.agg #[.slice none 0 0], .agg #[.slice none 0 0]], []⟩ 8 (by kernel_rfl) (by kernel_rfl) (by kernel_rfl) (by kernel_rfl)) ?_
  intro W base args ds gs before hval0 hW hcnd hsz0 hholds
  have hval : ∀ (j : Nat) t v, Tryz.f5.params[j]? = some t → args[j]? = some v → Value.okWide Tryz.prog W .any base t v := hval0
  have hsz : (DataW.weightsEach Tryz.prog (Tryz.f5.params.toList ++ Rows.worldMailSpec.plain.varTypes Tryz.prog) (ds ++ gs)).all (· ≤ reachBytes) = true := hsz0
  have hW' := hW
  obtain ⟨p, q, hA0, hV, rfl, hfz, hnd⟩ := hW
  have hA : DataW.TrodAll enc Tryz.prog W 0 (fun _ => true) true Tryz.f5.params.toList args.toList ds p := hA0
  rw [Tryz.params5] at hA hval hsz
  obtain ⟨v0, vs0, d0, ds0, p0, q0, hargs, rfl, rfl, h0, r0⟩ := trodAll_cons hA
  obtain ⟨v1, vs1, d1, ds1, p1, q1, rfl, rfl, rfl, h1, r1⟩ := trodAll_cons r0
  obtain ⟨rfl, rfl, rfl⟩ := trodAll_nil r1
  obtain rfl : args = #[v0, v1] := by cases args; simp_all
  obtain ⟨rfl, rfl⟩ := trodVars_none hV
  have k0 := h0
  have k1 := h1
  have lt0 : ∀ x ∈ p0, x.block < W.heap.size := by obtain ⟨m, hm⟩ := k0; exact DataW.trod_lt m _ _ _ hm
  have lt1 : ∀ x ∈ p1, x.block < W.heap.size := by obtain ⟨m, hm⟩ := k1; exact DataW.trod_lt m _ _ _ hm
  have hw0 : ∀ n ∈ d0.weights Tryz.prog 24, n ≤ reachBytes := fun n hn => by have := List.all_eq_true.1 hsz n (DataW.weights_mem_each (j := 0) rfl rfl n hn); simpa using this
  obtain ⟨c0, l0, rfl, hl0⟩ := open_progC (hval 0 24 v0 rfl rfl) h0 hw0
  have hw1 : ∀ n ∈ d1.weights Tryz.prog 27, n ≤ reachBytes := fun n hn => by have := List.all_eq_true.1 hsz n (DataW.weights_mem_each (j := 1) rfl rfl n hn); simpa using this
  obtain ⟨c1, L1, rfl, hM1, hL1⟩ := xp1Z (hval 1 27 v1 rfl rfl) h1 hw1
  clear hA0 hval0 hsz0
  refine (walk W l0 c0 hl0 L1 c1 hM1 hL1).mono fun e W' ⟨he, bel⟩ => ?_
  subst he
  exact ⟨_, rfl, _, _, _, [], _, [], hW', trodAll_mk1 (shut_bool Tryz.underlying4 _), (trodAll_cons_mk (Below.trod laidOut (by kernel_rfl) (of_decide_eq_true (by kernel_rfl)) k0 bel lt0) (trodAll_cons_mk (Below.trod laidOut (by kernel_rfl) (of_decide_eq_true (by kernel_rfl)) k1 bel lt1) trodAll_mk0)), rfl, bel.frame _, fun h => by cases h⟩
theorem over : Rows.worldMailRow.holds Tryz.pinned (OpenSpec.ofChange Rows.worldMailSpec) :=
  OpenClaim.holds_of_wide 5 Tryz.f5 rfl rfl rfl rfl rfl rfl rfl ⟨rfl, rfl, rfl, rfl, rfl⟩ rfl rfl rfl rfl rfl (by kernel_rfl) Tryz.func5 (by kernel_rfl)
    (of_decide_eq_true (by kernel_rfl)) (by unfold Func.isWrapper; first | (rw [if_pos (by decide +kernel)]; kernel_rfl) | (rw [if_neg (by decide +kernel)]; exact ⟨rfl, rfl⟩))
    (fun os started H enc _ => lifted os started H enc)
end Go.Proofs.YtmjjkenblfndgaaGreat.worldMail
namespace Go.Proofs.YtmjjkenblfndgaaGreat
/-- For every input the law WorldMail returns true, and the arguments read as they did. -/
theorem worldMail_holds : Rows.WorldMailSaid := worldMail.over
end Go.Proofs.YtmjjkenblfndgaaGreat

