/- My texts Il: what of them is needed, joined. -/

import Derived.Test.YtmjjkenblfndgaaGreatD24
import Derived.Test.YtmjjkenblfndgaaGreatD25
import Derived.Test.YtmjjkenblfndgaaGreatD27
set_option maxRecDepth 100000
set_option maxHeartbeats 8000000
/- What must be in any case of images: imageBegun. -/
namespace Go.Proofs.YtmjjkenblfndgaaGreat
open Go.RowKit
set_option linter.unusedSimpArgs false
set_option linter.unusedVariables false
theorem hb_save (hf : fitsE xaqZ = 0) : saveB xaqZ hBeginM = machB hBeginM := if_pos (hb_ok hf).1
theorem xp5Z {pv fv bv iv ov : Value} {w : World} (h : CkAt w xaqZ pv fv bv iv ov hBeginM) (hf : fitsE xaqZ = 0) : Calls Tryz.prog 27 #[.agg #[pv], .agg #[fv, bv, iv, ov, .int .i64 hBeginM.status, .int .i64 hBeginM.trap]] w fun e w' => ∃ T : ByteArray, e = .returned (.tuple #[.string T, .int .i64 0]) ∧ T.data.toList = machB hBeginM ∧ Below w.heap.size w w' := by
  refine (xe6Z hBeginM xaqZ pv fv bv iv ov w h pcOk_hb).mono ?_
  rintro e w' ⟨T, h1, h2, h3⟩
  rw [(hb_ok hf).1] at h1
  rw [hb_save hf] at h2
  exact ⟨T, h1, h2, h3⟩
theorem xjtZ {p : List Fn} {M : Mach} (h : xaoZ p M = 0) : restE p (machB M) = 0 ∧ restM p (machB M) = M := by
  have hf : fitsE p = 0 := xc6Z.2 ⟨(xa8Z.1 h).1, (xa8Z.1 h).2.1⟩
  have ho := xgwZ (xdlZ h)
  have he : restE p (machB M) = 0 := by rw [restE, if_neg (by simpa using hf), ho]; exact h
  exact ⟨he, by rw [restM, if_pos he, ho]; rfl⟩
theorem xmtZ {p : List Fn} {M : Mach} (h : xaoZ p M = 0) (c : UInt8) : restE p (machB M ++ [c]) = 1 ∧ restM p (machB M ++ [c]) = zeroM := by
  have hf : fitsE p = 0 := xc6Z.2 ⟨(xa8Z.1 h).1, (xa8Z.1 h).2.1⟩
  have ho : xbqZ (machB M ++ [c]) = none := by rw [xbqZ, xh7Z.1 M [c] (xdlZ h)]
  have he : restE p (machB M ++ [c]) = 1 := by rw [restE, if_neg (by simpa using hf), ho]
  exact ⟨he, by rw [restM, if_neg (by rw [he]; decide)]⟩
theorem xp4Z {pv : Value} {X : ByteArray} {w : World} (hp : FnsAt w pv xaqZ) (hcp : CapAt w pv) (hf : fitsE xaqZ = 0) (hX : X.data.toList = machB hBeginM) : Calls Tryz.prog 28 #[.agg #[pv], .string X] w (MRet hBeginM 0 w) := by
  have hs : X.size = (machB hBeginM).length := by rw [← hX]; simp
  have h15 : (machB hBeginM).length = 15 := by decide
  have := xe2Z xaqZ pv X w hp hcp (by omega)
  rw [hX, (xjtZ (hb_ok hf).1).1, (xjtZ (hb_ok hf).1).2] at this
  exact this
theorem holder_bad {pv : Value} {X : ByteArray} {w : World} (hp : FnsAt w pv xaqZ) (hcp : CapAt w pv) (hf : fitsE xaqZ = 0) (hX : X.data.toList = machB hBeginM ++ [122]) : Calls Tryz.prog 28 #[.agg #[pv], .string X] w (MRet zeroM 1 w) := by
  have hs : X.size = (machB hBeginM ++ [122]).length := by rw [← hX]; simp
  have h15 : (machB hBeginM ++ [122]).length = 16 := by decide
  have := xe2Z xaqZ pv X w hp hcp (by omega)
  rw [hX, (xmtZ (hb_ok hf).1 122).1, (xmtZ (hb_ok hf).1 122).2] at this
  exact this
theorem xhwZ (w : World) : Calls Tryz.prog 34 #[] w fun e w' => e = .returned (.bool true) ∧ Below w.heap.size w w' := by
  go_enter Tryz.func34, Tryz.ntmps34
  go_wp2_with fail
  refine (xghZ _).mono ?_
  rintro e w1 ⟨v1, rfl, f1, k1, b1⟩
  have hcf := xp2Z f1 k1
  have HST := hideP (xoiZ f1 k1 hcf)
  go_wp2_with fail
  refine HST.out.mono ?_
  rintro e w2 ⟨xf, xb, xi, xo, rfl, r2, b2⟩
  have B2 := xadZ b1 b2
  have HCF := hideP hcf
  obtain ⟨⟨pf, kf, hf⟩, ⟨pb, kb, hb⟩, ⟨pi, ki, hi⟩, ⟨po, ko, ho⟩⟩ := xbbZ r2
  subst hf hb hi ho
  have A2 : MachAt w2 _ _ _ _ hBeginM := r2.at_ (by decide)
  obtain ⟨W3, hW3⟩ : ∃ W3, w2.alloc (.cells #[.slice pf hBeginM.frames.length kf, .slice pb hBeginM.blocks.length kb, .slice pi hBeginM.inp.length ki, .slice po hBeginM.out.length ko, .int .i64 hBeginM.status, .int .i64 hBeginM.trap] 48) = W3 := ⟨_, rfl⟩
  have b3 : Below w2.heap.size w2 W3 := by rw [← hW3]; exact (Below.refl _ w2).alloc (Nat.le_refl _) _
  have u3 : W3.heap[w2.heap.size]? = some (.cells #[.slice pf hBeginM.frames.length kf, .slice pb hBeginM.blocks.length kb, .slice pi hBeginM.inp.length ki, .slice po hBeginM.out.length ko, .int .i64 hBeginM.status, .int .i64 hBeginM.trap] 48 (0, 0)) := by rw [← hW3]; exact World.alloc_heap_new w2 _
  have B3 := xadZ B2 b3
  have A3 := hideP (A2.below b3)
  have l3 := xacZ u3
  have a0 := xaaZ u3 0
  have a1 := xaaZ u3 1
  have a2 := xaaZ u3 2
  have a3 := xaaZ u3 3
  have a4 := xaaZ u3 4
  have a5 := xaaZ u3 5
  simp at a0 a1 a2 a3 a4 a5
  have HB3 := hideP B3
  clear f1 k1 hcf HST b1 b2 B2 r2 A2 b3 u3 B3
  go_upto_region 2 with fail
  go_cut [3, 4] from 15 (fun sa sb wx => ∃ T : ByteArray, sa = .string T ∧ sb = .int .i64 0 ∧ T.data.toList = machB hBeginM ∧ Below W3.heap.size W3 wx)
  case first =>
    go_region_held3 (fun W => W.cell? ⟨w2.heap.size, 0, none⟩ = some (.slice pf hBeginM.frames.length kf) ∧ W.cell? ⟨w2.heap.size, 1, none⟩ = some (.slice pb hBeginM.blocks.length kb) ∧ W.cell? ⟨w2.heap.size, 2, none⟩ = some (.slice pi hBeginM.inp.length ki) ∧ W.cell? ⟨w2.heap.size, 3, none⟩ = some (.slice po hBeginM.out.length ko) ∧ W.cell? ⟨w2.heap.size, 4, none⟩ = some (.int .i64 hBeginM.status) ∧ W.cell? ⟨w2.heap.size, 5, none⟩ = some (.int .i64 hBeginM.trap)) (go_keep)
      (first
        | (go_at_call 74; (with_reducible refine (xghZ _).mono ?_); rintro e w5 ⟨v5, rfl, f5, k5, b5'⟩; have b5 : Below W3.heap.size W3 w5 := xadZ ((Below.refl _ W3).drew) b5'; clear b5'; have h0 := (b5.cell (p := ⟨w2.heap.size, 0, none⟩) l3).trans a0; have h1 := (b5.cell (p := ⟨w2.heap.size, 1, none⟩) l3).trans a1; have h2 := (b5.cell (p := ⟨w2.heap.size, 2, none⟩) l3).trans a2; have h3 := (b5.cell (p := ⟨w2.heap.size, 3, none⟩) l3).trans a3; have h4 := (b5.cell (p := ⟨w2.heap.size, 4, none⟩) l3).trans a4; have h5 := (b5.cell (p := ⟨w2.heap.size, 5, none⟩) l3).trans a5)
        | (go_at_call 27; (with_reducible refine (xp5Z (w := w5) ⟨f5, k5, A3.out.below b5⟩ HCF.out).mono ?_); rintro e w6 ⟨T, rfl, hT, b6'⟩; have b6 : Below W3.heap.size W3 w6 := xadZ b5 b6'; have HT := hideP hT; clear hT; have g0 := (b6.cell (p := ⟨w2.heap.size, 0, none⟩) l3).trans a0; have g1 := (b6.cell (p := ⟨w2.heap.size, 1, none⟩) l3).trans a1; have g2 := (b6.cell (p := ⟨w2.heap.size, 2, none⟩) l3).trans a2; have g3 := (b6.cell (p := ⟨w2.heap.size, 3, none⟩) l3).trans a3; have g4 := (b6.cell (p := ⟨w2.heap.size, 4, none⟩) l3).trans a4; have g5 := (b6.cell (p := ⟨w2.heap.size, 5, none⟩) l3).trans a5))
    all_goals
      go_wp2_with fail
      go_meet
      exact ⟨_, rfl, rfl, HT.out, b6⟩
  case rest =>
    rename World => wd
    obtain ⟨T, rfl, rfl, hT, hb⟩ := hcut
    have HT := hideP hT
    have HBd := hideP (xadZ HB3.out hb)
    replace a0 := (hb.cell (p := ⟨w2.heap.size, 0, none⟩) l3).trans a0
    replace a1 := (hb.cell (p := ⟨w2.heap.size, 1, none⟩) l3).trans a1
    replace a2 := (hb.cell (p := ⟨w2.heap.size, 2, none⟩) l3).trans a2
    replace a3 := (hb.cell (p := ⟨w2.heap.size, 3, none⟩) l3).trans a3
    replace a4 := (hb.cell (p := ⟨w2.heap.size, 4, none⟩) l3).trans a4
    replace a5 := (hb.cell (p := ⟨w2.heap.size, 5, none⟩) l3).trans a5
    have ld : w2.heap.size < wd.heap.size := Nat.lt_of_lt_of_le l3 hb.size
    have Ad := hideP (A3.out.below hb)
    have KA : Hid (∀ W, Below wd.heap.size wd W → W.cell? ⟨w2.heap.size, 0, none⟩ = some (.slice pf hBeginM.frames.length kf) ∧ W.cell? ⟨w2.heap.size, 1, none⟩ = some (.slice pb hBeginM.blocks.length kb) ∧ W.cell? ⟨w2.heap.size, 2, none⟩ = some (.slice pi hBeginM.inp.length ki) ∧ W.cell? ⟨w2.heap.size, 3, none⟩ = some (.slice po hBeginM.out.length ko) ∧ W.cell? ⟨w2.heap.size, 4, none⟩ = some (.int .i64 hBeginM.status) ∧ W.cell? ⟨w2.heap.size, 5, none⟩ = some (.int .i64 hBeginM.trap)) := fun W hW => ⟨(hW.cell (p := ⟨w2.heap.size, 0, none⟩) ld).trans a0, (hW.cell (p := ⟨w2.heap.size, 1, none⟩) ld).trans a1, (hW.cell (p := ⟨w2.heap.size, 2, none⟩) ld).trans a2, (hW.cell (p := ⟨w2.heap.size, 3, none⟩) ld).trans a3, (hW.cell (p := ⟨w2.heap.size, 4, none⟩) ld).trans a4, (hW.cell (p := ⟨w2.heap.size, 5, none⟩) ld).trans a5⟩
    clear hT hb a0 a1 a2 a3 a4 a5 A3 HB3
    go_wp2_with fail
    refine (xghZ _).mono ?_
    rintro e we ⟨ve, rfl, fe, ke, be⟩
    have HRE := hideP (xp4Z fe ke HCF.out HT.out)
    clear fe ke
    go_wp2_with fail
    refine HRE.out.mono ?_
    rintro e wf ⟨yf, yb, yi, yo, rfl, rf, bf⟩
    have Bf := xadZ be bf
    obtain ⟨⟨qf, jf, hqf⟩, ⟨qb, jb, hqb⟩, ⟨qi, ji, hqi⟩, ⟨qo, jo, hqo⟩⟩ := xbbZ rf
    subst hqf hqb hqi hqo
    have Af : MachAt wf _ _ _ _ hBeginM := rf.at_ (by decide)
    obtain ⟨Wg, hWg⟩ : ∃ Wg, wf.alloc (.cells #[.slice qf hBeginM.frames.length jf, .slice qb hBeginM.blocks.length jb, .slice qi hBeginM.inp.length ji, .slice qo hBeginM.out.length jo, .int .i64 hBeginM.status, .int .i64 hBeginM.trap] 48) = Wg := ⟨_, rfl⟩
    have bg : Below wf.heap.size wf Wg := by rw [← hWg]; exact (Below.refl _ wf).alloc (Nat.le_refl _) _
    have ug : Wg.heap[wf.heap.size]? = some (.cells #[.slice qf hBeginM.frames.length jf, .slice qb hBeginM.blocks.length jb, .slice qi hBeginM.inp.length ji, .slice qo hBeginM.out.length jo, .int .i64 hBeginM.status, .int .i64 hBeginM.trap] 48 (0, 0)) := by rw [← hWg]; exact World.alloc_heap_new wf _
    have Bg := xadZ Bf bg
    have Ag := hideP (Af.below bg)
    have lg := xacZ ug
    have KG : Hid (∀ W, Below Wg.heap.size Wg W → W.cell? ⟨wf.heap.size, 0, none⟩ = some (.slice qf hBeginM.frames.length jf) ∧ W.cell? ⟨wf.heap.size, 1, none⟩ = some (.slice qb hBeginM.blocks.length jb) ∧ W.cell? ⟨wf.heap.size, 2, none⟩ = some (.slice qi hBeginM.inp.length ji) ∧ W.cell? ⟨wf.heap.size, 3, none⟩ = some (.slice qo hBeginM.out.length jo) ∧ W.cell? ⟨wf.heap.size, 4, none⟩ = some (.int .i64 hBeginM.status) ∧ W.cell? ⟨wf.heap.size, 5, none⟩ = some (.int .i64 hBeginM.trap)) := fun W hW => by
      have h1 := (hW.block _ lg).trans ug
      exact ⟨xaaZ h1 0, xaaZ h1 1, xaaZ h1 2, xaaZ h1 3, xaaZ h1 4, xaaZ h1 5⟩
    have HBg := hideP Bg
    clear be HRE bf Bf rf Af bg ug Bg
    go_wp2_with fail
    refine (xghZ _).mono ?_
    rintro e wh ⟨vh, rfl, fh, kh, bh⟩
    have HRB := hideP (holder_bad (X := T ++ ⟨#[122]⟩) fh kh HCF.out (by simp [HT.out]))
    have hTl : T.size = 15 := by
      have h1 : T.size = (machB hBeginM).length := by rw [← HT.out]; simp
      rw [h1]; decide
    clear fh kh
    have HBh := hideP bh
    clear bh
    go_wp2_with fail
    refine HRB.out.mono ?_
    rintro e wi ⟨yf, yb, yi, yo, rfl, ri, bi⟩
    obtain ⟨⟨rf, tf, hqf⟩, ⟨rb, tb, hqb⟩, ⟨ri', ti, hqi⟩, ⟨ro, to, hqo⟩⟩ := xbbZ ri
    subst hqf hqb hqi hqo
    obtain ⟨Wj, hWj⟩ : ∃ Wj, wi.alloc (.cells #[.slice rf zeroM.frames.length tf, .slice rb zeroM.blocks.length tb, .slice ri' zeroM.inp.length ti, .slice ro zeroM.out.length to, .int .i64 zeroM.status, .int .i64 zeroM.trap] 48) = Wj := ⟨_, rfl⟩
    have bj : Below wi.heap.size wi Wj := by rw [← hWj]; exact (Below.refl _ wi).alloc (Nat.le_refl _) _
    have Bj := xadZ HBh.out (xadZ bi bj)
    obtain ⟨x0, x1, x2, x3, x4, x5⟩ := KA.out Wj (xadZ HBg.out Bj)
    obtain ⟨y0, y1, y2, y3, y4, y5⟩ := KG.out Wj Bj
    have HSM := hideP (xdbZ hBeginM hBeginM _ _ _ _ _ _ _ _ Wj (Ad.out.below (xadZ HBg.out Bj)) (Ag.out.below Bj))
    have t15 : ((T.size : Int) == 15) = true := by rw [hTl]; rfl
    have HBj := hideP Bj
    clear ri bi bj Bj hTl
    go_wp2_with fail
    refine HSM.out.mono ?_
    rintro e wk ⟨r, rfl, hr, bk⟩
    have hr1 : r = true := hr.2 rfl
    subst hr1
    go_wp2
    go_ret
    exact ⟨rfl, xadZ HBd.out (xadZ HBg.out (xadZ HBj.out bk))⟩
end Go.Proofs.YtmjjkenblfndgaaGreat


