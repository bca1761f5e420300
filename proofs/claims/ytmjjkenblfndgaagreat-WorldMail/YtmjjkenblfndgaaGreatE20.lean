/- My texts Zh Zi Mv Mm: what of them is needed, joined. -/

import Derived.Test.YtmjjkenblfndgaaGreatE13
import Derived.Test.YtmjjkenblfndgaaGreatE18
import Derived.Test.YtmjjkenblfndgaaGreatE19
set_option maxRecDepth 100000
set_option maxHeartbeats 8000000
/- carry. -/
namespace Go.Proofs.YtmjjkenblfndgaaGreat
open Go.RowKit
set_option linter.unusedSimpArgs false
set_option linter.unusedVariables false
theorem rest_more {p : Option Addr} {m c k n q : Nat} {w : Value} {W : World} {B : Nat} {xs : List Value} (h : RestV (.slice p m c) w k n) (hr : W.ownsRow B 3 1 w n xs) (hq : q ≤ m) (hc : m ≤ c) : ∃ k', RestV (.slice (if c = q then p else Option.map (fun x => x.add q) p) (m - q) (c - q)) w k' n ∧ ∀ O : List Int, O.length = n → O.drop k' = (O.drop k).drop q := by
  rcases h with ⟨rfl, rfl⟩ | ⟨g, cap, j, c', rfl, he, hj, hc1, hjc⟩
  · rcases hr.2 with ⟨e1, h0⟩ | ⟨g, cap, cur, e1, _, _, h1, _⟩
    · cases e1
      have : q = 0 := by omega
      subst this
      exact ⟨0, .inl ⟨rfl, by simp⟩, fun O _ => by simp⟩
    · injection e1 with e2 e3 e4
      subst e2 e3 e4
      refine ⟨q, .inr ⟨g, c, if c = q then 0 else q, c - q, rfl, ?_, ?_, by omega, ?_⟩, fun O _ => by simp⟩
      · by_cases hcq : c = q
        · simp [hcq]
        · simp [hcq, Addr.add]
          try omega
      · by_cases hcq : c = q
        · rw [if_pos hcq]; exact .inr ⟨by omega, by omega⟩
        · rw [if_neg hcq]; exact .inl ⟨rfl, hq⟩
      · split <;> omega
  · injection he with e2 e3 e4
    subst e2 e3 e4
    by_cases hcq : c = q
    · refine ⟨k + q, .inr ⟨g, cap, j, 0, rfl, ?_, .inr ⟨by omega, rfl⟩, by omega, by omega⟩, fun O _ => by rw [List.drop_drop]⟩
      rw [if_pos hcq, show n - k - q = n - (k + q) by omega, show c - q = 0 by omega]
    · rcases hj with ⟨rfl, hkn⟩ | ⟨h0, hc0⟩
      · refine ⟨j + q, .inr ⟨g, cap, j + q, c - q, rfl, ?_, .inl ⟨rfl, by omega⟩, by omega, by omega⟩, fun O _ => by rw [List.drop_drop]⟩
        rw [if_neg hcq, show n - j - q = n - (j + q) by omega]
        simp [Addr.add]
      · omega
theorem wres_left {W : World} {B k q : Nat} {ms : List MV} {rs : List MR} {L : List Mach} {c : MV} {r : MR} {M : Mach} {ov' : Value} {k' : Nat} (h : WRes W B ms rs L) (hc : ms[k]? = some c) (hr : rs[k]? = some r) (hM : L[k]? = some M) (ho : M.out.drop q = r.O.drop k') (hv : RestV ov' r.ow k' r.O.length) : WRes W B (ms.set k { c with ov := ov' }) rs (L.set k (leftM M q)) := by
  have hm := h.each k c r M hc hr hM
  refine ⟨by simp [h.lenM], by simp [h.lenR], fun i d s N h1 h2 h3 => ?_, h.apart⟩
  rw [List.getElem?_set] at h1 h3
  by_cases hik : k = i
  · subst hik
    rw [if_pos rfl, if_pos (xadZ hc)] at h1
    rw [if_pos rfl, if_pos (xadZ hM)] at h3
    cases h1
    cases h3
    rw [hr] at h2
    cases h2
    exact ⟨hm.st, hm.tr, hm.fr, hm.frs, hm.bl, hm.ints, hm.inp, ⟨k', ho, hv⟩⟩
  · rw [if_neg hik] at h1 h3
    exact h.each i d s N h1 h2 h3
theorem carr_left {W0 W : World} {cb R cap k q went k' : Nat} {ms : List MV} {rs : List MR} {L : List Mach} {c : MV} {r : MR} {M : Mach} {ov' : Value} (h : Carr W0 W cb (.slice (some ⟨R, 0, none⟩) L.length cap) ms rs L went) (hc : ms[k]? = some c) (hr : rs[k]? = some r) (hM : L[k]? = some M) (ho : M.out.drop q = r.O.drop k') (hv : RestV ov' r.ow k' r.O.length) :
    Carr W0 (W.setCell ⟨R, k * 6 + 3, none⟩ ov') cb (.slice (some ⟨R, 0, none⟩) L.length cap) (ms.set k { c with ov := ov' }) rs (L.set k (leftM M q)) went := by
  have hres := wres_left h.res hc hr hM ho hv
  have hml := h.res.lenM
  have hR : ∃ cs, W.heap[R]? = some (.cells cs 48 (0, 0)) := by
    rcases h.row.2 with ⟨h1, h2⟩ | ⟨g, cp, cur, h1, _, h3, _⟩
    · cases h1
    · have e := congrArg Value.ownBlock h1
      simp only [Value.ownBlock, Option.some.injEq] at e
      subst e
      exact ⟨cur, h3⟩
  obtain ⟨cs, hR⟩ := hR
  have hRB : W0.heap.size ≤ R := (h.row.lt R rfl).1
  have hne : R ≠ cb := fun e => by
    have h1 := h.cell
    rw [← e, hR] at h1
    simp at h1
  have hg := xakZ W ⟨R, k * 6 + 3, none⟩ ov'
  have t : TyRow W (some R) 48 := xatZ hR
  have hrow := h.row
  rw [← hml] at hrow
  have hrow2 := xbpZ hrow (k * 6 + 3) ov'
  rw [mvCells_ov ms k c ov' hc] at hrow2
  refine ⟨(hg.block cb (xacZ h.cell) (fun e => hne (Option.some.inj e).symm)).trans h.cell, ?_, hres.keep hg t (by decide) (by decide) (by decide) (by decide), h.bel.setCell (p := ⟨R, k * 6 + 3, none⟩) hRB _, h.lo⟩
  rw [← hml, List.length_set]
  exact hrow2
theorem xhiZ {α : Type} {l : List α} {i : Nat} {x : α} {f : α → α} (h : l[i]? = some x) : l.modify i f = l.set i (f x) := by
  apply List.ext_getElem?
  intro j
  rw [List.getElem?_modify, List.getElem?_set]
  by_cases hij : i = j
  · subst hij
    rw [if_pos rfl, if_pos (xadZ h), h]
    simp
  · simp [hij]
theorem carry1_set {N : List Mach} {i : Nat} {a b d : Mach} (ha : N[i]? = some a) (hb : N[nextW N.length i]? = some b) (hd : (N.set (nextW N.length i) (giveM b (a.out.take (xa4Z N i))))[i]? = some d) :
    xf9Z N i = (N.set (nextW N.length i) (giveM b (a.out.take (xa4Z N i)))).set i (leftM d (xa4Z N i)) := by
  unfold xf9Z
  rw [xhlZ ha, xhiZ hb, xhiZ hd]
end Go.Proofs.YtmjjkenblfndgaaGreat


/- carry. -/
namespace Go.Proofs.YtmjjkenblfndgaaGreat
open Go.RowKit
set_option linter.unusedSimpArgs false
set_option linter.unusedVariables false
theorem mix_status {W : List Mach} {n j : Nat} {m : Mach} (h : n ≤ predW W.length j) : (mixAt W n j m).status = m.status := by
  unfold mixAt
  simp only
  rw [if_neg (show ¬ predW W.length j < n by omega)]
  split <;> rfl
theorem xggZ (W : List Mach) (h10 : ∀ m ∈ W, m.out.length ≤ 10) : ∀ n, n ≤ W.length → wentN W n ≤ 10 * n
  | 0, _ => Nat.le_refl _
  | n + 1, h => by
    have ih := xggZ W h10 n (by omega)
    rw [wentN, (xenZ W (n + 1) h).2 n (by omega)]
    obtain ⟨a, ha⟩ := xagZ (l := W) (k := n) (by omega)
    obtain ⟨b, hb⟩ := xagZ (l := W) (k := nextW W.length n) (xf5Z (by omega))
    rw [xeiZ ha hb]
    have := h10 a (List.mem_of_getElem? ha)
    omega
theorem xpgZ {W : List Mach} {n : Nat} (hn : n < W.length) : ∃ a b a0 b0 : Mach, (xbhZ W n)[n]? = some a ∧ (xbhZ W n)[nextW W.length n]? = some b ∧ W[n]? = some a0 ∧ W[nextW W.length n]? = some b0 ∧ a.out = a0.out ∧ b.inp = b0.inp ∧ b.status = b0.status := by
  obtain ⟨a0, ha⟩ := xagZ hn
  have hnl : nextW W.length n < W.length := xf5Z (by omega)
  obtain ⟨b0, hb⟩ := xagZ hnl
  have hat := (xenZ W n (by omega)).1
  have hp : predW W.length (nextW W.length n) = n := xgtZ hn
  exact ⟨_, _, a0, b0, hat n a0 ha, hat _ b0 hb, ha, hb, mix_out (Nat.le_refl n), mix_inp (by omega), mix_status (by omega)⟩
theorem xm5Z {W : World} {p : Option Addr} {m c n : Nat} {s : List Int} (h : FullInts W (.slice p m c) s) (hn : n ≤ m) : FullInts W (.slice p n c) (s.take n) := by
  obtain ⟨q, c', hv, hm, hc⟩ := h.at_
  injection hv with e1 e2 e3
  subst e1
  have hl : (s.take n).length = n := by rw [List.length_take]; omega
  refine ⟨⟨p, c, by rw [hl], by omega, fun k z hk => ?_⟩, fun n' c' e => ?_, fun p' n' c' e => ?_⟩
  · rw [List.getElem?_take] at hk
    split at hk
    · exact hc k z hk
    · cases hk
  · cases e
    have := h.nil m c rfl
    omega
  · cases e
    have := h.cap _ _ _ rfl
    omega
def xf7Z (W0 W : World) (cb : Nat) (L : List Mach) (went n : Nat) : Prop := ∃ u ms rs, Carr W0 W cb u ms rs L went ∧ ∀ (i : Nat) (r : MR), rs[i]? = some r → r.I.length ≤ n
theorem xlyZ (W0 W : World) (cb : Nat) (L : List Mach) (h : xf7Z W0 W cb L 0 1000) (h4 : L.length ≤ 4) (ho10 : ∀ m ∈ L, m.out.length ≤ 10) (hi10 : ∀ m ∈ L, m.inp.length ≤ 10) (hst : ∀ m ∈ L, 0 ≤ m.status ∧ m.status ≤ 3) :
    Calls Tryz.prog 40 #[.pointer (some ⟨cb, 0, none⟩)] W fun e w' => e = .returned (.tuple #[]) ∧ xf7Z W0 w' cb (mailW L) (wentW L) (1000 + 10 * L.length) := by
  have H := hideP h
  obtain ⟨u, ms, rs, hC, hI⟩ := h
  have d0 := xaaZ hC.cell 0
  simp at d0
  obtain ⟨pu, cu, hu⟩ := xaiZ hC.row
  rw [hu, hC.res.lenM] at d0
  have HO := hideP ho10
  have HI := hideP hi10
  have HS := hideP hst
  clear hC hI hu ho10 hi10 hst
  go_enter Tryz.func40, Tryz.ntmps40
  go_wp2
  go_loopw [2, 3, 4, 5, 12] (fun _ _ _ _ v12 wr => ∃ i : Nat, i ≤ L.length ∧ v12 = .int .i64 i ∧ xf7Z W0 wr cb (xbhZ L i) (wentN L i) (1000 + 10 * i)) (fun _ _ _ _ v12 _ => L.length - (intOf v12).toNat)
  case atStart => exact ⟨0, Nat.zero_le _, rfl, H.out⟩
  case round =>
    rename World => w2
    obtain ⟨i, hi, rfl, hcar⟩ := hrel
    by_cases hlt : i < L.length
    rotate_left
    · have hlti : ¬ (i : Int) < (L.length : Int) := by omega
      have hil : i = L.length := by omega
      subst hil
      have HC := hideP hcar
      clear hcar
      go_wp2
      go_end0
      exact ⟨rfl, HC.out⟩
    have hlti : (i : Int) < (L.length : Int) := by omega
    obtain ⟨u2, ms2, rs2, hC, hI⟩ := hcar
    obtain ⟨a, b, a0, b0, ha, hb, ha0, hb0, eo, ei, es⟩ := xpgZ hlt
    have hnl : nextW L.length i < L.length := xf5Z (by omega)
    have hln := xekZ L i
    obtain ⟨R, cap, ca, ra, hu, hca, hra, hma, -, -, -, m3, -, -, ⟨cs, hR⟩, hRB⟩ := hC.mach ha
    obtain ⟨R', cap', cx, rx, hu', hcx, hrx, hmx, -⟩ := hC.mach hb
    subst hu
    have o10 := HO.out a0 (List.mem_of_getElem? ha0)
    have i10 := HI.out b0 (List.mem_of_getElem? hb0)
    have s10 := HS.out b0 (List.mem_of_getElem? hb0)
    rw [← eo] at o10
    rw [← ei] at i10
    rw [← es] at s10
    obtain ⟨-, -, -, ⟨po, co, hov⟩⟩ := hma.at_.shp
    have c0 := xaaZ hC.cell 0
    simp at c0
    rw [hov] at m3
    have hm1 : ((i : Int) + 1) % (L.length : Int) = ((nextW L.length i : Nat) : Int) := by simp [nextW]
    rw [hln] at c0
    clear hu'
    obtain ⟨q, hq⟩ : ∃ q, xa4Z (xbhZ L i) i = q := ⟨_, rfl⟩
    have hqv := xeiZ ha (by rw [hln]; exact hb)
    rw [hq] at hqv
    have hqa : q ≤ a.out.length := by omega
    have hq10 : q ≤ 10 := by omega
    have hfull : FullInts w2 (.slice po q co) (a.out.take q) := xm5Z (by rw [← hov]; exact hma.at_.out) hqa
    have hwl := xggZ L HO.out i hi
    have hmin : min (a.out.length : Int) (10 - (b.inp.length : Int)) = (q : Int) := by omega
    have HC := hideP hC
    have HI2 := hideP hI
    have HA := hideP (And.intro hca (And.intro hra ha))
    have HB := hideP (And.intro hcx (And.intro hrx hb))
    have HF := hideP hfull
    have HOV := hideP hov
    have HMA := hideP hma
    have HR := hideP hR
    have HQ := hideP (And.intro hq hqv)
    have hlR := xacZ hR
    have HCB := hideP hC.cell
    have hac : a.out.length ≤ co := by
      have h9 := hma.at_.out
      rw [hov] at h9
      exact h9.cap _ _ _ rfl
    have hqc : q ≤ co := by omega
    have hqci : (q : Int) ≤ (co : Int) := by omega
    have hs50 : rx.I.length ≤ 50000 := by
      have := hI _ _ hrx
      omega
    have hlt10 : (a.out.take q).length ≤ 10 := by rw [List.length_take]; omega
    have hw1000 : wentN L i ≤ 1000 := by omega
    have hiN : i < ((xbhZ L i).set (nextW L.length i) (giveM b (a.out.take q))).length := by rw [List.length_set]; omega
    have hN4 : (xbhZ L i).length ≤ 4 := by omega
    clear eo ei es hca hra ha hcx hrx hb hC hI hov hma hmx hR hfull ha0 hb0 hq hqv
    go_wp2_with (go_at_call 42; refine (xjzZ W0 w2 cb (xbhZ L i) (wentN L i) (nextW L.length i) b ⟨_, ms2, rs2, HC.out⟩ HB.out.2.2 i10).mono ?_; rintro e w3 ⟨rfl, rfl⟩)
    go_at_call 43
    refine (hand_any W0 _ cb (.slice (some ⟨R, 0, none⟩) (xbhZ L i).length cap) ms2 rs2 (xbhZ L i) (wentN L i) (nextW L.length i) cx rx b (a.out.take q) (.slice po q co) HC.out HB.out.1 HB.out.2.1 HB.out.2.2 HF.out hs50 hlt10 s10 hw1000 hN4).mono ?_
    rintro e w4 ⟨rfl, iv', iw', I', hIl, hC4, hrw, hsz⟩
    obtain ⟨d, hd⟩ := xagZ (l := (xbhZ L i).set (nextW L.length i) (giveM b (a.out.take q))) (k := i) hiN
    obtain ⟨R4, cap4, c4, r4, hu4, hc4, hr4, hm4, -, -, -, n3, -, -, ⟨cs4, hR4⟩, -⟩ := hC4.mach hd
    rw [List.length_set] at hu4
    injection hu4 with e1 e2 e3
    injection e1 with e1
    injection e1 with e1
    subst e1
    have f3 := Lib.frozen_of_heap hR4 (i * 6 + 3)
    have k0 := xaaZ hC4.cell 0
    simp at k0
    rw [hln] at k0
    have HC4 := hideP hC4
    have HD := hideP (And.intro hd (And.intro hc4 hr4))
    have HIL := hideP hIl
    have HM4 := hideP hm4
    clear hd hc4 hr4 hC4 hR4 hm4 hIl hrw
    go_wp2
    go_region
    all_goals go_wp2
    obtain ⟨hq, hqv⟩ := HQ.out
    obtain ⟨hca, hra, ha⟩ := HA.out
    obtain ⟨hcx, hrx, hb⟩ := HB.out
    obtain ⟨hd, hc4, hr4⟩ := HD.out
    have hC4 := HC4.out
    have hov := HOV.out
    have hdo : d.out = a.out ∧ c4.ov = ca.ov ∧ r4.O = ra.O ∧ r4.ow = ra.ow := by
      rw [List.getElem?_set] at hd hc4 hr4
      by_cases hni : nextW L.length i = i
      · rw [hni] at hd hc4 hr4 hb hcx hrx
        rw [if_pos rfl, if_pos (xadZ ha)] at hd
        rw [if_pos rfl, if_pos (xadZ hca)] at hc4
        rw [if_pos rfl, if_pos (xadZ hra)] at hr4
        rw [ha] at hb
        rw [hca] at hcx
        rw [hra] at hrx
        cases hb
        cases hcx
        cases hrx
        cases hd
        cases hc4
        cases hr4
        exact ⟨rfl, rfl, rfl, rfl⟩
      · rw [if_neg hni] at hd hc4 hr4
        rw [ha] at hd
        rw [hca] at hc4
        rw [hra] at hr4
        cases hd
        cases hc4
        cases hr4
        exact ⟨rfl, rfl, rfl, rfl⟩
    obtain ⟨ho1, ho2, ho3, ho4⟩ := hdo
    obtain ⟨j, hj1, hj2⟩ := HMA.out.out
    rw [hov] at hj2
    obtain ⟨k', hv, hdr⟩ := rest_more (q := q) hj2 (HMA.out.ints.each 1 _ _ rfl rfl) hqa hac
    have hlen : ((xbhZ L i).set (nextW L.length i) (giveM b (a.out.take q))).length = (xbhZ L i).length := List.length_set
    rw [← hlen] at hC4
    have hfin := carr_left (q := q) hC4 hc4 hr4 hd (by rw [ho1, ho3, hdr _ rfl, ← hj1]) (by rw [ho3, ho4]; exact hv)
    have hcn : xbhZ L (i + 1) = ((xbhZ L i).set (nextW L.length i) (giveM b (a.out.take q))).set i (leftM d q) := by
      have h9 := carry1_set (d := d) ha (by rw [hln]; exact hb) (by rw [hln, hq]; exact hd)
      rw [hln, hq] at h9
      exact h9
    have hwn : wentN L (i + 1) = wentN L i + (a.out.take q).length := by
      rw [wentN, hq, List.length_take]
      omega
    refine ⟨⟨i + 1, by omega, by go_num, ?_⟩, by simp [intOf]; omega⟩
    rw [hcn, hwn]
    refine ⟨_, _, _, hfin.below ((Below.refl _ _).drew), fun z r hz => ?_⟩
    rw [List.getElem?_set] at hz
    split at hz
    · rename_i he
      subst he
      rw [if_pos (xadZ hrx)] at hz
      cases hz
      have h1 := HI2.out _ _ hrx
      have h2 := HIL.out
      show I'.length ≤ _
      omega
    · have := HI2.out _ _ hz
      omega
end Go.Proofs.YtmjjkenblfndgaaGreat


/- stride's do where it waits. -/
namespace Go.Proofs.YtmjjkenblfndgaaGreat
open Go.RowKit
set_option linter.unusedSimpArgs false
set_option linter.unusedVariables false
theorem do21w (w0 : World) (b : Nat) (pv : Value) (M : Mach) (D : List Frm) (x : Frm) (p : List Fn) (k pc : Nat) (f : Fn) (A : Int) (w : World) (h : Doer w0 w b pv M) (hF : M.frames = D ++ [x]) (hD : D.length ≤ 100) (hp : FnsAt w0 pv p) (hk : p[k]? = some f) (hfn : x.fn = (k : Int)) (hpc : x.pc = (pc : Int)) (hpl : f.2.2.2.length ≤ 1000) (ho : f.2.2.2[pc]? = some (21, A)) (hin : M.inp = []) : Calls Tryz.prog 111 #[.pointer (some ⟨b, 0, none⟩)] w fun e w' => e = .returned (.tuple #[]) ∧ Doer w0 w' b pv { M with status := 1 } := by
  obtain ⟨g, cap, bv, iv, ov, q, c, qb, H⟩ := h.open hF
  have HI := hideP (xamZ b g D.length cap w H.fcell hD)
  have hin' : ((M.inp.length : Int) == 0) = true := by simp [hin]
  obtain ⟨pin, cin, hinv⟩ := xaiZ H.at_.own.inp
  have HH0 := hideP H
  obtain ⟨pp, qp, hpv, hpm, -⟩ := id hp
  subst hpv
  have HP := hideP hp
  have hpcl := xadZ ho
  have hkl := xadZ hk
  have HO := hideP ho
  have HK := hideP hk
  have HFN := hideP hfn
  have HPC := hideP hpc
  clear h hF H hp ho hin hk hfn hpc
  go_enter Tryz.func111, Tryz.ntmps111
  go_wp2_with fail
  refine HI.out.mono ?_
  rintro e w2 ⟨rfl, b2⟩
  have H2 := HH0.out.below b2
  have c0 := H2.c0
  have c1 := H2.c1
  rw [HFN.out] at c0
  rw [HPC.out] at c1
  have c6 := H2.at_.cells.2.2.2.2.2.2
  obtain ⟨pp', qp', hpe, -, hpc⟩ := id (HP.out.below H2.at_.bel)
  cases hpe
  obtain ⟨pb, po, f0, f1, f2, f3, hpp, hplt, -, -, -, y3, hfn⟩ := hpc k f HK.out
  subst hpp
  obtain ⟨-, -, -, hops⟩ := hfn
  obtain ⟨p3, q3, he3, -, hoc⟩ := id hops
  subst he3
  obtain ⟨ob, oo, hob, holt, o0, o1⟩ := hoc pc _ HO.out
  subst hob
  have hkli : (k : Int) < (p.length : Int) := by omega
  have hpcli : (pc : Int) < (f.2.2.2.length : Int) := by omega
  have c0a := fun o => xabZ c0 o
  have c1a := fun o => xabZ c1 o
  have c6a := fun o => xabZ c6 o
  have y3a := fun o => xabZ y3 o
  have o0a := fun o => xabZ o0 o
  have o1a := fun o => xabZ o1 o
  clear hpc hoc hops
  go_wp2_with fail
  go_region
  obtain ⟨W3, hW3⟩ : ∃ W3, (w2.alloc (.cells #[.int .i64 21, .int .i64 A] 86)).drew = W3 := ⟨_, rfl⟩
  have b3 : Below w2.heap.size w2 W3 := by rw [← hW3]; exact ((Below.refl _ w2).alloc (Nat.le_refl _) _).drew
  have x3 : W3.heap[w2.heap.size]? = some (.cells #[.int .i64 21, .int .i64 A] 86 (0, 0)) := by rw [← hW3]; exact World.alloc_heap_new w2 _
  rw [hW3]
  clear hW3 c0 c1 c6 y3 o0 o1 c0a c1a c6a y3a o0a o1a
  have H3 := H2.below b3
  have e0 : W3.cell? ⟨w2.heap.size, 0, none⟩ = some (.int .i64 21) := xaaZ x3 0
  have e1 : W3.cell? ⟨w2.heap.size, 1, none⟩ = some (.int .i64 A) := xaaZ x3 1
  have d1 := H3.c1
  rw [HPC.out] at d1
  have z1 : W3.frozen? ⟨g, D.length * 4 + 1, none⟩ = false := by obtain ⟨cur, hh⟩ := H3.gb; exact Lib.frozen_of_heap hh _
  have hne : ¬ w2.heap.size = g := by obtain ⟨cur, hh⟩ := H2.gb; have := xacZ hh; omega
  have hne' : ¬ g = w2.heap.size := fun e => hne e.symm
  have i2 := H3.at_.cells.2.2.1
  rw [hinv] at i2
  have z4 := Lib.frozen_of_heap H3.at_.cell 4
  have j4 := H3.at_.cells.2.2.2.2.1
  have HS := hideP H3
  clear H2 H3 x3
  go_wp2_with fail
  first | go_end0 | refine bodyPost_ret (results_none rfl _ _ _) rfl ?_
  exact ⟨rfl, HS.out.at_.setSt 1⟩
end Go.Proofs.YtmjjkenblfndgaaGreat


/- stride's do: one op (1). -/
namespace Go.Proofs.YtmjjkenblfndgaaGreat
open Go.RowKit
set_option linter.unusedSimpArgs false
set_option linter.unusedVariables false
theorem do1 (w0 : World) (b : Nat) (pv : Value) (M : Mach) (D : List Frm) (x : Frm) (p : List Fn) (k pc : Nat) (f : Fn) (A : Int) (w : World) (h : Doer w0 w b pv M) (hF : M.frames = D ++ [x]) (hD : D.length ≤ 100) (hp : FnsAt w0 pv p) (hk : p[k]? = some f) (hfn : x.fn = (k : Int)) (hpc : x.pc = (pc : Int)) (hpl : f.2.2.2.length ≤ 1000) (ho : f.2.2.2[pc]? = some (1, A)) (P : World → Prop)
    (HC : ∀ W, Doer w0 W b pv { M with frames := D ++ [{ x with pc := (pc : Int) + 1 }] } → Calls Tryz.prog 145 #[.pointer (some ⟨b, 0, none⟩), .agg #[.int .i64 1, .int .i64 A]] W fun e w' => e = .returned (.tuple #[]) ∧ P w') : Calls Tryz.prog 111 #[.pointer (some ⟨b, 0, none⟩)] w fun e w' => e = .returned (.tuple #[]) ∧ P w' := by
  obtain ⟨g, cap, bv, iv, ov, q, c, qb, H⟩ := h.open hF
  have HI := hideP (xamZ b g D.length cap w H.fcell hD)
  have HH0 := hideP H
  have HCC := hideP HC
  obtain ⟨pp, qp, hpv, hpm, -⟩ := id hp
  subst hpv
  have HP := hideP hp
  have hpcl := xadZ ho
  have hkl := xadZ hk
  have HO := hideP ho
  have HK := hideP hk
  have HFN := hideP hfn
  have HPC := hideP hpc
  clear h hF HC H hp ho hk hfn hpc
  go_enter Tryz.func111, Tryz.ntmps111
  go_wp2_with fail
  refine HI.out.mono ?_
  rintro e w2 ⟨rfl, b2⟩
  have H2 := HH0.out.below b2
  have c0 := H2.c0
  have c1 := H2.c1
  rw [HFN.out] at c0
  rw [HPC.out] at c1
  have c6 := H2.at_.cells.2.2.2.2.2.2
  obtain ⟨pp', qp', hpe, -, hpc⟩ := id (HP.out.below H2.at_.bel)
  cases hpe
  obtain ⟨pb, po, f0, f1, f2, f3, hpp, hplt, -, -, -, y3, hfn⟩ := hpc k f HK.out
  subst hpp
  obtain ⟨-, -, -, hops⟩ := hfn
  obtain ⟨p3, q3, he3, -, hoc⟩ := id hops
  subst he3
  obtain ⟨ob, oo, hob, holt, o0, o1⟩ := hoc pc _ HO.out
  subst hob
  have hkli : (k : Int) < (p.length : Int) := by omega
  have hpcli : (pc : Int) < (f.2.2.2.length : Int) := by omega
  have c0a := fun o => xabZ c0 o
  have c1a := fun o => xabZ c1 o
  have c6a := fun o => xabZ c6 o
  have y3a := fun o => xabZ y3 o
  have o0a := fun o => xabZ o0 o
  have o1a := fun o => xabZ o1 o
  clear hpc hoc hops
  go_wp2_with fail
  go_region
  obtain ⟨W3, hW3⟩ : ∃ W3, (w2.alloc (.cells #[.int .i64 1, .int .i64 A] 86)).drew = W3 := ⟨_, rfl⟩
  have b3 : Below w2.heap.size w2 W3 := by rw [← hW3]; exact ((Below.refl _ w2).alloc (Nat.le_refl _) _).drew
  have x3 : W3.heap[w2.heap.size]? = some (.cells #[.int .i64 1, .int .i64 A] 86 (0, 0)) := by rw [← hW3]; exact World.alloc_heap_new w2 _
  rw [hW3]
  clear hW3 c0 c1 c6 y3 o0 o1 c0a c1a c6a y3a o0a o1a
  have H3 := H2.below b3
  have e0 : W3.cell? ⟨w2.heap.size, 0, none⟩ = some (.int .i64 1) := xaaZ x3 0
  have e1 : W3.cell? ⟨w2.heap.size, 1, none⟩ = some (.int .i64 A) := xaaZ x3 1
  have d1 := H3.c1
  rw [HPC.out] at d1
  have z1 : W3.frozen? ⟨g, D.length * 4 + 1, none⟩ = false := by obtain ⟨cur, hh⟩ := H3.gb; exact Lib.frozen_of_heap hh _
  have hne : ¬ w2.heap.size = g := by obtain ⟨cur, hh⟩ := H2.gb; have := xacZ hh; omega
  have hne' : ¬ g = w2.heap.size := fun e => hne e.symm
  have HS := hideP (H3.setPc ((pc : Int) + 1))
  clear H2 H3 x3
  go_wp2_with (go_at_call 145; refine (HCC.out _ HS.out).mono ?_; rintro e w9 ⟨rfl, h9⟩)
  first | go_end0 | refine bodyPost_ret (results_none rfl _ _ _) rfl ?_
  exact ⟨rfl, h9⟩
theorem do4 (w0 : World) (b : Nat) (pv : Value) (M : Mach) (D : List Frm) (x : Frm) (p : List Fn) (k pc : Nat) (f : Fn) (A : Int) (w : World) (h : Doer w0 w b pv M) (hF : M.frames = D ++ [x]) (hD : D.length ≤ 100) (hp : FnsAt w0 pv p) (hk : p[k]? = some f) (hfn : x.fn = (k : Int)) (hpc : x.pc = (pc : Int)) (hpl : f.2.2.2.length ≤ 1000) (ho : f.2.2.2[pc]? = some (4, A)) (P : World → Prop)
    (HC : ∀ W, Doer w0 W b pv { M with frames := D ++ [{ x with pc := (pc : Int) + 1 }] } → Calls Tryz.prog 145 #[.pointer (some ⟨b, 0, none⟩), .agg #[.int .i64 4, .int .i64 A]] W fun e w' => e = .returned (.tuple #[]) ∧ P w') : Calls Tryz.prog 111 #[.pointer (some ⟨b, 0, none⟩)] w fun e w' => e = .returned (.tuple #[]) ∧ P w' := by
  obtain ⟨g, cap, bv, iv, ov, q, c, qb, H⟩ := h.open hF
  have HI := hideP (xamZ b g D.length cap w H.fcell hD)
  have HH0 := hideP H
  have HCC := hideP HC
  obtain ⟨pp, qp, hpv, hpm, -⟩ := id hp
  subst hpv
  have HP := hideP hp
  have hpcl := xadZ ho
  have hkl := xadZ hk
  have HO := hideP ho
  have HK := hideP hk
  have HFN := hideP hfn
  have HPC := hideP hpc
  clear h hF HC H hp ho hk hfn hpc
  go_enter Tryz.func111, Tryz.ntmps111
  go_wp2_with fail
  refine HI.out.mono ?_
  rintro e w2 ⟨rfl, b2⟩
  have H2 := HH0.out.below b2
  have c0 := H2.c0
  have c1 := H2.c1
  rw [HFN.out] at c0
  rw [HPC.out] at c1
  have c6 := H2.at_.cells.2.2.2.2.2.2
  obtain ⟨pp', qp', hpe, -, hpc⟩ := id (HP.out.below H2.at_.bel)
  cases hpe
  obtain ⟨pb, po, f0, f1, f2, f3, hpp, hplt, -, -, -, y3, hfn⟩ := hpc k f HK.out
  subst hpp
  obtain ⟨-, -, -, hops⟩ := hfn
  obtain ⟨p3, q3, he3, -, hoc⟩ := id hops
  subst he3
  obtain ⟨ob, oo, hob, holt, o0, o1⟩ := hoc pc _ HO.out
  subst hob
  have hkli : (k : Int) < (p.length : Int) := by omega
  have hpcli : (pc : Int) < (f.2.2.2.length : Int) := by omega
  have c0a := fun o => xabZ c0 o
  have c1a := fun o => xabZ c1 o
  have c6a := fun o => xabZ c6 o
  have y3a := fun o => xabZ y3 o
  have o0a := fun o => xabZ o0 o
  have o1a := fun o => xabZ o1 o
  clear hpc hoc hops
  go_wp2_with fail
  go_region
  obtain ⟨W3, hW3⟩ : ∃ W3, (w2.alloc (.cells #[.int .i64 4, .int .i64 A] 86)).drew = W3 := ⟨_, rfl⟩
  have b3 : Below w2.heap.size w2 W3 := by rw [← hW3]; exact ((Below.refl _ w2).alloc (Nat.le_refl _) _).drew
  have x3 : W3.heap[w2.heap.size]? = some (.cells #[.int .i64 4, .int .i64 A] 86 (0, 0)) := by rw [← hW3]; exact World.alloc_heap_new w2 _
  rw [hW3]
  clear hW3 c0 c1 c6 y3 o0 o1 c0a c1a c6a y3a o0a o1a
  have H3 := H2.below b3
  have e0 : W3.cell? ⟨w2.heap.size, 0, none⟩ = some (.int .i64 4) := xaaZ x3 0
  have e1 : W3.cell? ⟨w2.heap.size, 1, none⟩ = some (.int .i64 A) := xaaZ x3 1
  have d1 := H3.c1
  rw [HPC.out] at d1
  have z1 : W3.frozen? ⟨g, D.length * 4 + 1, none⟩ = false := by obtain ⟨cur, hh⟩ := H3.gb; exact Lib.frozen_of_heap hh _
  have hne : ¬ w2.heap.size = g := by obtain ⟨cur, hh⟩ := H2.gb; have := xacZ hh; omega
  have hne' : ¬ g = w2.heap.size := fun e => hne e.symm
  have HS := hideP (H3.setPc ((pc : Int) + 1))
  clear H2 H3 x3
  go_wp2_with (go_at_call 145; refine (HCC.out _ HS.out).mono ?_; rintro e w9 ⟨rfl, h9⟩)
  first | go_end0 | refine bodyPost_ret (results_none rfl _ _ _) rfl ?_
  exact ⟨rfl, h9⟩
theorem do18 (w0 : World) (b : Nat) (pv : Value) (M : Mach) (D : List Frm) (x : Frm) (p : List Fn) (k pc : Nat) (f : Fn) (A : Int) (w : World) (h : Doer w0 w b pv M) (hF : M.frames = D ++ [x]) (hD : D.length ≤ 100) (hp : FnsAt w0 pv p) (hk : p[k]? = some f) (hfn : x.fn = (k : Int)) (hpc : x.pc = (pc : Int)) (hpl : f.2.2.2.length ≤ 1000) (ho : f.2.2.2[pc]? = some (18, A)) (P : World → Prop)
    (HC : ∀ W, Doer w0 W b pv { M with frames := D ++ [{ x with pc := (pc : Int) + 1 }] } → Calls Tryz.prog 145 #[.pointer (some ⟨b, 0, none⟩), .agg #[.int .i64 18, .int .i64 A]] W fun e w' => e = .returned (.tuple #[]) ∧ P w') : Calls Tryz.prog 111 #[.pointer (some ⟨b, 0, none⟩)] w fun e w' => e = .returned (.tuple #[]) ∧ P w' := by
  obtain ⟨g, cap, bv, iv, ov, q, c, qb, H⟩ := h.open hF
  have HI := hideP (xamZ b g D.length cap w H.fcell hD)
  have HH0 := hideP H
  have HCC := hideP HC
  obtain ⟨pp, qp, hpv, hpm, -⟩ := id hp
  subst hpv
  have HP := hideP hp
  have hpcl := xadZ ho
  have hkl := xadZ hk
  have HO := hideP ho
  have HK := hideP hk
  have HFN := hideP hfn
  have HPC := hideP hpc
  clear h hF HC H hp ho hk hfn hpc
  go_enter Tryz.func111, Tryz.ntmps111
  go_wp2_with fail
  refine HI.out.mono ?_
  rintro e w2 ⟨rfl, b2⟩
  have H2 := HH0.out.below b2
  have c0 := H2.c0
  have c1 := H2.c1
  rw [HFN.out] at c0
  rw [HPC.out] at c1
  have c6 := H2.at_.cells.2.2.2.2.2.2
  obtain ⟨pp', qp', hpe, -, hpc⟩ := id (HP.out.below H2.at_.bel)
  cases hpe
  obtain ⟨pb, po, f0, f1, f2, f3, hpp, hplt, -, -, -, y3, hfn⟩ := hpc k f HK.out
  subst hpp
  obtain ⟨-, -, -, hops⟩ := hfn
  obtain ⟨p3, q3, he3, -, hoc⟩ := id hops
  subst he3
  obtain ⟨ob, oo, hob, holt, o0, o1⟩ := hoc pc _ HO.out
  subst hob
  have hkli : (k : Int) < (p.length : Int) := by omega
  have hpcli : (pc : Int) < (f.2.2.2.length : Int) := by omega
  have c0a := fun o => xabZ c0 o
  have c1a := fun o => xabZ c1 o
  have c6a := fun o => xabZ c6 o
  have y3a := fun o => xabZ y3 o
  have o0a := fun o => xabZ o0 o
  have o1a := fun o => xabZ o1 o
  clear hpc hoc hops
  go_wp2_with fail
  go_region
  obtain ⟨W3, hW3⟩ : ∃ W3, (w2.alloc (.cells #[.int .i64 18, .int .i64 A] 86)).drew = W3 := ⟨_, rfl⟩
  have b3 : Below w2.heap.size w2 W3 := by rw [← hW3]; exact ((Below.refl _ w2).alloc (Nat.le_refl _) _).drew
  have x3 : W3.heap[w2.heap.size]? = some (.cells #[.int .i64 18, .int .i64 A] 86 (0, 0)) := by rw [← hW3]; exact World.alloc_heap_new w2 _
  rw [hW3]
  clear hW3 c0 c1 c6 y3 o0 o1 c0a c1a c6a y3a o0a o1a
  have H3 := H2.below b3
  have e0 : W3.cell? ⟨w2.heap.size, 0, none⟩ = some (.int .i64 18) := xaaZ x3 0
  have e1 : W3.cell? ⟨w2.heap.size, 1, none⟩ = some (.int .i64 A) := xaaZ x3 1
  have d1 := H3.c1
  rw [HPC.out] at d1
  have z1 : W3.frozen? ⟨g, D.length * 4 + 1, none⟩ = false := by obtain ⟨cur, hh⟩ := H3.gb; exact Lib.frozen_of_heap hh _
  have hne : ¬ w2.heap.size = g := by obtain ⟨cur, hh⟩ := H2.gb; have := xacZ hh; omega
  have hne' : ¬ g = w2.heap.size := fun e => hne e.symm
  have HS := hideP (H3.setPc ((pc : Int) + 1))
  clear H2 H3 x3
  go_wp2_with (go_at_call 145; refine (HCC.out _ HS.out).mono ?_; rintro e w9 ⟨rfl, h9⟩)
  first | go_end0 | refine bodyPost_ret (results_none rfl _ _ _) rfl ?_
  exact ⟨rfl, h9⟩
theorem do7 (w0 : World) (b : Nat) (pv : Value) (M : Mach) (D : List Frm) (x : Frm) (p : List Fn) (k pc : Nat) (f : Fn) (A : Int) (w : World) (h : Doer w0 w b pv M) (hF : M.frames = D ++ [x]) (hD : D.length ≤ 100) (hp : FnsAt w0 pv p) (hk : p[k]? = some f) (hfn : x.fn = (k : Int)) (hpc : x.pc = (pc : Int)) (hpl : f.2.2.2.length ≤ 1000) (ho : f.2.2.2[pc]? = some (7, A)) (P : World → Prop)
    (HC : ∀ W, Doer w0 W b pv { M with frames := D ++ [{ x with pc := (pc : Int) + 1 }] } → Calls Tryz.prog 146 #[.pointer (some ⟨b, 0, none⟩), .int .i64 7] W fun e w' => e = .returned (.tuple #[]) ∧ P w') : Calls Tryz.prog 111 #[.pointer (some ⟨b, 0, none⟩)] w fun e w' => e = .returned (.tuple #[]) ∧ P w' := by
  obtain ⟨g, cap, bv, iv, ov, q, c, qb, H⟩ := h.open hF
  have HI := hideP (xamZ b g D.length cap w H.fcell hD)
  have HH0 := hideP H
  have HCC := hideP HC
  obtain ⟨pp, qp, hpv, hpm, -⟩ := id hp
  subst hpv
  have HP := hideP hp
  have hpcl := xadZ ho
  have hkl := xadZ hk
  have HO := hideP ho
  have HK := hideP hk
  have HFN := hideP hfn
  have HPC := hideP hpc
  clear h hF HC H hp ho hk hfn hpc
  go_enter Tryz.func111, Tryz.ntmps111
  go_wp2_with fail
  refine HI.out.mono ?_
  rintro e w2 ⟨rfl, b2⟩
  have H2 := HH0.out.below b2
  have c0 := H2.c0
  have c1 := H2.c1
  rw [HFN.out] at c0
  rw [HPC.out] at c1
  have c6 := H2.at_.cells.2.2.2.2.2.2
  obtain ⟨pp', qp', hpe, -, hpc⟩ := id (HP.out.below H2.at_.bel)
  cases hpe
  obtain ⟨pb, po, f0, f1, f2, f3, hpp, hplt, -, -, -, y3, hfn⟩ := hpc k f HK.out
  subst hpp
  obtain ⟨-, -, -, hops⟩ := hfn
  obtain ⟨p3, q3, he3, -, hoc⟩ := id hops
  subst he3
  obtain ⟨ob, oo, hob, holt, o0, o1⟩ := hoc pc _ HO.out
  subst hob
  have hkli : (k : Int) < (p.length : Int) := by omega
  have hpcli : (pc : Int) < (f.2.2.2.length : Int) := by omega
  have c0a := fun o => xabZ c0 o
  have c1a := fun o => xabZ c1 o
  have c6a := fun o => xabZ c6 o
  have y3a := fun o => xabZ y3 o
  have o0a := fun o => xabZ o0 o
  have o1a := fun o => xabZ o1 o
  clear hpc hoc hops
  go_wp2_with fail
  go_region
  obtain ⟨W3, hW3⟩ : ∃ W3, (w2.alloc (.cells #[.int .i64 7, .int .i64 A] 86)).drew = W3 := ⟨_, rfl⟩
  have b3 : Below w2.heap.size w2 W3 := by rw [← hW3]; exact ((Below.refl _ w2).alloc (Nat.le_refl _) _).drew
  have x3 : W3.heap[w2.heap.size]? = some (.cells #[.int .i64 7, .int .i64 A] 86 (0, 0)) := by rw [← hW3]; exact World.alloc_heap_new w2 _
  rw [hW3]
  clear hW3 c0 c1 c6 y3 o0 o1 c0a c1a c6a y3a o0a o1a
  have H3 := H2.below b3
  have e0 : W3.cell? ⟨w2.heap.size, 0, none⟩ = some (.int .i64 7) := xaaZ x3 0
  have e1 : W3.cell? ⟨w2.heap.size, 1, none⟩ = some (.int .i64 A) := xaaZ x3 1
  have d1 := H3.c1
  rw [HPC.out] at d1
  have z1 : W3.frozen? ⟨g, D.length * 4 + 1, none⟩ = false := by obtain ⟨cur, hh⟩ := H3.gb; exact Lib.frozen_of_heap hh _
  have hne : ¬ w2.heap.size = g := by obtain ⟨cur, hh⟩ := H2.gb; have := xacZ hh; omega
  have hne' : ¬ g = w2.heap.size := fun e => hne e.symm
  have HS := hideP (H3.setPc ((pc : Int) + 1))
  clear H2 H3 x3
  go_wp2_with (go_at_call 146; refine (HCC.out _ HS.out).mono ?_; rintro e w9 ⟨rfl, h9⟩)
  first | go_end0 | refine bodyPost_ret (results_none rfl _ _ _) rfl ?_
  exact ⟨rfl, h9⟩
theorem do12 (w0 : World) (b : Nat) (pv : Value) (M : Mach) (D : List Frm) (x : Frm) (p : List Fn) (k pc : Nat) (f : Fn) (A : Int) (w : World) (h : Doer w0 w b pv M) (hF : M.frames = D ++ [x]) (hD : D.length ≤ 100) (hp : FnsAt w0 pv p) (hk : p[k]? = some f) (hfn : x.fn = (k : Int)) (hpc : x.pc = (pc : Int)) (hpl : f.2.2.2.length ≤ 1000) (ho : f.2.2.2[pc]? = some (12, A)) (P : World → Prop)
    (HC : ∀ W, Doer w0 W b pv { M with frames := D ++ [{ x with pc := (pc : Int) + 1 }] } → Calls Tryz.prog 147 #[.pointer (some ⟨b, 0, none⟩), .agg #[.int .i64 12, .int .i64 A]] W fun e w' => e = .returned (.tuple #[]) ∧ P w') : Calls Tryz.prog 111 #[.pointer (some ⟨b, 0, none⟩)] w fun e w' => e = .returned (.tuple #[]) ∧ P w' := by
  obtain ⟨g, cap, bv, iv, ov, q, c, qb, H⟩ := h.open hF
  have HI := hideP (xamZ b g D.length cap w H.fcell hD)
  have HH0 := hideP H
  have HCC := hideP HC
  obtain ⟨pp, qp, hpv, hpm, -⟩ := id hp
  subst hpv
  have HP := hideP hp
  have hpcl := xadZ ho
  have hkl := xadZ hk
  have HO := hideP ho
  have HK := hideP hk
  have HFN := hideP hfn
  have HPC := hideP hpc
  clear h hF HC H hp ho hk hfn hpc
  go_enter Tryz.func111, Tryz.ntmps111
  go_wp2_with fail
  refine HI.out.mono ?_
  rintro e w2 ⟨rfl, b2⟩
  have H2 := HH0.out.below b2
  have c0 := H2.c0
  have c1 := H2.c1
  rw [HFN.out] at c0
  rw [HPC.out] at c1
  have c6 := H2.at_.cells.2.2.2.2.2.2
  obtain ⟨pp', qp', hpe, -, hpc⟩ := id (HP.out.below H2.at_.bel)
  cases hpe
  obtain ⟨pb, po, f0, f1, f2, f3, hpp, hplt, -, -, -, y3, hfn⟩ := hpc k f HK.out
  subst hpp
  obtain ⟨-, -, -, hops⟩ := hfn
  obtain ⟨p3, q3, he3, -, hoc⟩ := id hops
  subst he3
  obtain ⟨ob, oo, hob, holt, o0, o1⟩ := hoc pc _ HO.out
  subst hob
  have hkli : (k : Int) < (p.length : Int) := by omega
  have hpcli : (pc : Int) < (f.2.2.2.length : Int) := by omega
  have c0a := fun o => xabZ c0 o
  have c1a := fun o => xabZ c1 o
  have c6a := fun o => xabZ c6 o
  have y3a := fun o => xabZ y3 o
  have o0a := fun o => xabZ o0 o
  have o1a := fun o => xabZ o1 o
  clear hpc hoc hops
  go_wp2_with fail
  go_region
  obtain ⟨W3, hW3⟩ : ∃ W3, (w2.alloc (.cells #[.int .i64 12, .int .i64 A] 86)).drew = W3 := ⟨_, rfl⟩
  have b3 : Below w2.heap.size w2 W3 := by rw [← hW3]; exact ((Below.refl _ w2).alloc (Nat.le_refl _) _).drew
  have x3 : W3.heap[w2.heap.size]? = some (.cells #[.int .i64 12, .int .i64 A] 86 (0, 0)) := by rw [← hW3]; exact World.alloc_heap_new w2 _
  rw [hW3]
  clear hW3 c0 c1 c6 y3 o0 o1 c0a c1a c6a y3a o0a o1a
  have H3 := H2.below b3
  have e0 : W3.cell? ⟨w2.heap.size, 0, none⟩ = some (.int .i64 12) := xaaZ x3 0
  have e1 : W3.cell? ⟨w2.heap.size, 1, none⟩ = some (.int .i64 A) := xaaZ x3 1
  have d1 := H3.c1
  rw [HPC.out] at d1
  have z1 : W3.frozen? ⟨g, D.length * 4 + 1, none⟩ = false := by obtain ⟨cur, hh⟩ := H3.gb; exact Lib.frozen_of_heap hh _
  have hne : ¬ w2.heap.size = g := by obtain ⟨cur, hh⟩ := H2.gb; have := xacZ hh; omega
  have hne' : ¬ g = w2.heap.size := fun e => hne e.symm
  have HS := hideP (H3.setPc ((pc : Int) + 1))
  clear H2 H3 x3
  go_wp2_with (go_at_call 147; refine (HCC.out _ HS.out).mono ?_; rintro e w9 ⟨rfl, h9⟩)
  first | go_end0 | refine bodyPost_ret (results_none rfl _ _ _) rfl ?_
  exact ⟨rfl, h9⟩
theorem do15 (w0 : World) (b : Nat) (pv : Value) (M : Mach) (D : List Frm) (x : Frm) (p : List Fn) (k pc : Nat) (f : Fn) (A : Int) (w : World) (h : Doer w0 w b pv M) (hF : M.frames = D ++ [x]) (hD : D.length ≤ 100) (hp : FnsAt w0 pv p) (hk : p[k]? = some f) (hfn : x.fn = (k : Int)) (hpc : x.pc = (pc : Int)) (hpl : f.2.2.2.length ≤ 1000) (ho : f.2.2.2[pc]? = some (15, A)) (P : World → Prop)
    (HC : ∀ W, Doer w0 W b pv { M with frames := D ++ [{ x with pc := (pc : Int) + 1 }] } → Calls Tryz.prog 148 #[.pointer (some ⟨b, 0, none⟩), .int .i64 15] W fun e w' => e = .returned (.tuple #[]) ∧ P w') : Calls Tryz.prog 111 #[.pointer (some ⟨b, 0, none⟩)] w fun e w' => e = .returned (.tuple #[]) ∧ P w' := by
  obtain ⟨g, cap, bv, iv, ov, q, c, qb, H⟩ := h.open hF
  have HI := hideP (xamZ b g D.length cap w H.fcell hD)
  have HH0 := hideP H
  have HCC := hideP HC
  obtain ⟨pp, qp, hpv, hpm, -⟩ := id hp
  subst hpv
  have HP := hideP hp
  have hpcl := xadZ ho
  have hkl := xadZ hk
  have HO := hideP ho
  have HK := hideP hk
  have HFN := hideP hfn
  have HPC := hideP hpc
  clear h hF HC H hp ho hk hfn hpc
  go_enter Tryz.func111, Tryz.ntmps111
  go_wp2_with fail
  refine HI.out.mono ?_
  rintro e w2 ⟨rfl, b2⟩
  have H2 := HH0.out.below b2
  have c0 := H2.c0
  have c1 := H2.c1
  rw [HFN.out] at c0
  rw [HPC.out] at c1
  have c6 := H2.at_.cells.2.2.2.2.2.2
  obtain ⟨pp', qp', hpe, -, hpc⟩ := id (HP.out.below H2.at_.bel)
  cases hpe
  obtain ⟨pb, po, f0, f1, f2, f3, hpp, hplt, -, -, -, y3, hfn⟩ := hpc k f HK.out
  subst hpp
  obtain ⟨-, -, -, hops⟩ := hfn
  obtain ⟨p3, q3, he3, -, hoc⟩ := id hops
  subst he3
  obtain ⟨ob, oo, hob, holt, o0, o1⟩ := hoc pc _ HO.out
  subst hob
  have hkli : (k : Int) < (p.length : Int) := by omega
  have hpcli : (pc : Int) < (f.2.2.2.length : Int) := by omega
  have c0a := fun o => xabZ c0 o
  have c1a := fun o => xabZ c1 o
  have c6a := fun o => xabZ c6 o
  have y3a := fun o => xabZ y3 o
  have o0a := fun o => xabZ o0 o
  have o1a := fun o => xabZ o1 o
  clear hpc hoc hops
  go_wp2_with fail
  go_region
  obtain ⟨W3, hW3⟩ : ∃ W3, (w2.alloc (.cells #[.int .i64 15, .int .i64 A] 86)).drew = W3 := ⟨_, rfl⟩
  have b3 : Below w2.heap.size w2 W3 := by rw [← hW3]; exact ((Below.refl _ w2).alloc (Nat.le_refl _) _).drew
  have x3 : W3.heap[w2.heap.size]? = some (.cells #[.int .i64 15, .int .i64 A] 86 (0, 0)) := by rw [← hW3]; exact World.alloc_heap_new w2 _
  rw [hW3]
  clear hW3 c0 c1 c6 y3 o0 o1 c0a c1a c6a y3a o0a o1a
  have H3 := H2.below b3
  have e0 : W3.cell? ⟨w2.heap.size, 0, none⟩ = some (.int .i64 15) := xaaZ x3 0
  have e1 : W3.cell? ⟨w2.heap.size, 1, none⟩ = some (.int .i64 A) := xaaZ x3 1
  have d1 := H3.c1
  rw [HPC.out] at d1
  have z1 : W3.frozen? ⟨g, D.length * 4 + 1, none⟩ = false := by obtain ⟨cur, hh⟩ := H3.gb; exact Lib.frozen_of_heap hh _
  have hne : ¬ w2.heap.size = g := by obtain ⟨cur, hh⟩ := H2.gb; have := xacZ hh; omega
  have hne' : ¬ g = w2.heap.size := fun e => hne e.symm
  have HS := hideP (H3.setPc ((pc : Int) + 1))
  clear H2 H3 x3
  go_wp2_with (go_at_call 148; refine (HCC.out _ HS.out).mono ?_; rintro e w9 ⟨rfl, h9⟩)
  first | go_end0 | refine bodyPost_ret (results_none rfl _ _ _) rfl ?_
  exact ⟨rfl, h9⟩
theorem do19 (w0 : World) (b : Nat) (pv : Value) (M : Mach) (D : List Frm) (x : Frm) (p : List Fn) (k pc : Nat) (f : Fn) (A : Int) (w : World) (h : Doer w0 w b pv M) (hF : M.frames = D ++ [x]) (hD : D.length ≤ 100) (hp : FnsAt w0 pv p) (hk : p[k]? = some f) (hfn : x.fn = (k : Int)) (hpc : x.pc = (pc : Int)) (hpl : f.2.2.2.length ≤ 1000) (ho : f.2.2.2[pc]? = some (19, A)) (P : World → Prop)
    (HC : ∀ W, Doer w0 W b pv { M with frames := D ++ [{ x with pc := (pc : Int) + 1 }] } → Calls Tryz.prog 148 #[.pointer (some ⟨b, 0, none⟩), .int .i64 19] W fun e w' => e = .returned (.tuple #[]) ∧ P w') : Calls Tryz.prog 111 #[.pointer (some ⟨b, 0, none⟩)] w fun e w' => e = .returned (.tuple #[]) ∧ P w' := by
  obtain ⟨g, cap, bv, iv, ov, q, c, qb, H⟩ := h.open hF
  have HI := hideP (xamZ b g D.length cap w H.fcell hD)
  have HH0 := hideP H
  have HCC := hideP HC
  obtain ⟨pp, qp, hpv, hpm, -⟩ := id hp
  subst hpv
  have HP := hideP hp
  have hpcl := xadZ ho
  have hkl := xadZ hk
  have HO := hideP ho
  have HK := hideP hk
  have HFN := hideP hfn
  have HPC := hideP hpc
  clear h hF HC H hp ho hk hfn hpc
  go_enter Tryz.func111, Tryz.ntmps111
  go_wp2_with fail
  refine HI.out.mono ?_
  rintro e w2 ⟨rfl, b2⟩
  have H2 := HH0.out.below b2
  have c0 := H2.c0
  have c1 := H2.c1
  rw [HFN.out] at c0
  rw [HPC.out] at c1
  have c6 := H2.at_.cells.2.2.2.2.2.2
  obtain ⟨pp', qp', hpe, -, hpc⟩ := id (HP.out.below H2.at_.bel)
  cases hpe
  obtain ⟨pb, po, f0, f1, f2, f3, hpp, hplt, -, -, -, y3, hfn⟩ := hpc k f HK.out
  subst hpp
  obtain ⟨-, -, -, hops⟩ := hfn
  obtain ⟨p3, q3, he3, -, hoc⟩ := id hops
  subst he3
  obtain ⟨ob, oo, hob, holt, o0, o1⟩ := hoc pc _ HO.out
  subst hob
  have hkli : (k : Int) < (p.length : Int) := by omega
  have hpcli : (pc : Int) < (f.2.2.2.length : Int) := by omega
  have c0a := fun o => xabZ c0 o
  have c1a := fun o => xabZ c1 o
  have c6a := fun o => xabZ c6 o
  have y3a := fun o => xabZ y3 o
  have o0a := fun o => xabZ o0 o
  have o1a := fun o => xabZ o1 o
  clear hpc hoc hops
  go_wp2_with fail
  go_region
  obtain ⟨W3, hW3⟩ : ∃ W3, (w2.alloc (.cells #[.int .i64 19, .int .i64 A] 86)).drew = W3 := ⟨_, rfl⟩
  have b3 : Below w2.heap.size w2 W3 := by rw [← hW3]; exact ((Below.refl _ w2).alloc (Nat.le_refl _) _).drew
  have x3 : W3.heap[w2.heap.size]? = some (.cells #[.int .i64 19, .int .i64 A] 86 (0, 0)) := by rw [← hW3]; exact World.alloc_heap_new w2 _
  rw [hW3]
  clear hW3 c0 c1 c6 y3 o0 o1 c0a c1a c6a y3a o0a o1a
  have H3 := H2.below b3
  have e0 : W3.cell? ⟨w2.heap.size, 0, none⟩ = some (.int .i64 19) := xaaZ x3 0
  have e1 : W3.cell? ⟨w2.heap.size, 1, none⟩ = some (.int .i64 A) := xaaZ x3 1
  have d1 := H3.c1
  rw [HPC.out] at d1
  have z1 : W3.frozen? ⟨g, D.length * 4 + 1, none⟩ = false := by obtain ⟨cur, hh⟩ := H3.gb; exact Lib.frozen_of_heap hh _
  have hne : ¬ w2.heap.size = g := by obtain ⟨cur, hh⟩ := H2.gb; have := xacZ hh; omega
  have hne' : ¬ g = w2.heap.size := fun e => hne e.symm
  have HS := hideP (H3.setPc ((pc : Int) + 1))
  clear H2 H3 x3
  go_wp2_with (go_at_call 148; refine (HCC.out _ HS.out).mono ?_; rintro e w9 ⟨rfl, h9⟩)
  first | go_end0 | refine bodyPost_ret (results_none rfl _ _ _) rfl ?_
  exact ⟨rfl, h9⟩
theorem do12p (w0 : World) (b : Nat) (pv : Value) (M : Mach) (D : List Frm) (x : Frm) (p : List Fn) (k pc : Nat) (f : Fn) (A : Int) (w : World) (h : Doer w0 w b pv M) (hF : M.frames = D ++ [x]) (hD : D.length ≤ 100) (hp : FnsAt w0 pv p) (hk : p[k]? = some f) (hfn : x.fn = (k : Int)) (hpc : x.pc = (pc : Int)) (hpl : f.2.2.2.length ≤ 1000) (ho : f.2.2.2[pc]? = some (12, A)) (why : Int) (P : World → Prop)
    (HC : ∀ W, Doer w0 W b pv { M with frames := D ++ [{ x with pc := (pc : Int) + 1 }] } → Calls Tryz.prog 147 #[.pointer (some ⟨b, 0, none⟩), .agg #[.int .i64 12, .int .i64 A]] W fun e w' => e = .panicked [{ v := .iface 159 (.int .i64 why), recovered := false }] ∧ P w') : Calls Tryz.prog 111 #[.pointer (some ⟨b, 0, none⟩)] w fun e w' => e = .panicked [{ v := .iface 159 (.int .i64 why), recovered := false }] ∧ P w' := by
  obtain ⟨g, cap, bv, iv, ov, q, c, qb, H⟩ := h.open hF
  have HI := hideP (xamZ b g D.length cap w H.fcell hD)
  have HH0 := hideP H
  have HCC := hideP HC
  obtain ⟨pp, qp, hpv, hpm, -⟩ := id hp
  subst hpv
  have HP := hideP hp
  have hpcl := xadZ ho
  have hkl := xadZ hk
  have HO := hideP ho
  have HK := hideP hk
  have HFN := hideP hfn
  have HPC := hideP hpc
  clear h hF HC H hp ho hk hfn hpc
  go_enter Tryz.func111, Tryz.ntmps111
  go_wp2_with fail
  refine HI.out.mono ?_
  rintro e w2 ⟨rfl, b2⟩
  have H2 := HH0.out.below b2
  have c0 := H2.c0
  have c1 := H2.c1
  rw [HFN.out] at c0
  rw [HPC.out] at c1
  have c6 := H2.at_.cells.2.2.2.2.2.2
  obtain ⟨pp', qp', hpe, -, hpc⟩ := id (HP.out.below H2.at_.bel)
  cases hpe
  obtain ⟨pb, po, f0, f1, f2, f3, hpp, hplt, -, -, -, y3, hfn⟩ := hpc k f HK.out
  subst hpp
  obtain ⟨-, -, -, hops⟩ := hfn
  obtain ⟨p3, q3, he3, -, hoc⟩ := id hops
  subst he3
  obtain ⟨ob, oo, hob, holt, o0, o1⟩ := hoc pc _ HO.out
  subst hob
  have hkli : (k : Int) < (p.length : Int) := by omega
  have hpcli : (pc : Int) < (f.2.2.2.length : Int) := by omega
  have c0a := fun o => xabZ c0 o
  have c1a := fun o => xabZ c1 o
  have c6a := fun o => xabZ c6 o
  have y3a := fun o => xabZ y3 o
  have o0a := fun o => xabZ o0 o
  have o1a := fun o => xabZ o1 o
  clear hpc hoc hops
  go_wp2_with fail
  go_region
  obtain ⟨W3, hW3⟩ : ∃ W3, (w2.alloc (.cells #[.int .i64 12, .int .i64 A] 86)).drew = W3 := ⟨_, rfl⟩
  have b3 : Below w2.heap.size w2 W3 := by rw [← hW3]; exact ((Below.refl _ w2).alloc (Nat.le_refl _) _).drew
  have x3 : W3.heap[w2.heap.size]? = some (.cells #[.int .i64 12, .int .i64 A] 86 (0, 0)) := by rw [← hW3]; exact World.alloc_heap_new w2 _
  rw [hW3]
  clear hW3 c0 c1 c6 y3 o0 o1 c0a c1a c6a y3a o0a o1a
  have H3 := H2.below b3
  have e0 : W3.cell? ⟨w2.heap.size, 0, none⟩ = some (.int .i64 12) := xaaZ x3 0
  have e1 : W3.cell? ⟨w2.heap.size, 1, none⟩ = some (.int .i64 A) := xaaZ x3 1
  have d1 := H3.c1
  rw [HPC.out] at d1
  have z1 : W3.frozen? ⟨g, D.length * 4 + 1, none⟩ = false := by obtain ⟨cur, hh⟩ := H3.gb; exact Lib.frozen_of_heap hh _
  have hne : ¬ w2.heap.size = g := by obtain ⟨cur, hh⟩ := H2.gb; have := xacZ hh; omega
  have hne' : ¬ g = w2.heap.size := fun e => hne e.symm
  have HS := hideP (H3.setPc ((pc : Int) + 1))
  clear H2 H3 x3
  go_wp2_with (go_at_call 147; refine (HCC.out _ HS.out).mono ?_; rintro e w9 ⟨rfl, h9⟩)
  exact ⟨rfl, rfl, h9⟩
theorem do16p (w0 : World) (b : Nat) (pv : Value) (M : Mach) (D : List Frm) (x : Frm) (p : List Fn) (k pc : Nat) (f : Fn) (A : Int) (w : World) (h : Doer w0 w b pv M) (hF : M.frames = D ++ [x]) (hD : D.length ≤ 100) (hp : FnsAt w0 pv p) (hk : p[k]? = some f) (hfn : x.fn = (k : Int)) (hpc : x.pc = (pc : Int)) (hpl : f.2.2.2.length ≤ 1000) (ho : f.2.2.2[pc]? = some (16, A)) (why : Int) (P : World → Prop)
    (HC : ∀ W, Doer w0 W b pv { M with frames := D ++ [{ x with pc := (pc : Int) + 1 }] } → Calls Tryz.prog 148 #[.pointer (some ⟨b, 0, none⟩), .int .i64 16] W fun e w' => e = .panicked [{ v := .iface 159 (.int .i64 why), recovered := false }] ∧ P w') : Calls Tryz.prog 111 #[.pointer (some ⟨b, 0, none⟩)] w fun e w' => e = .panicked [{ v := .iface 159 (.int .i64 why), recovered := false }] ∧ P w' := by
  obtain ⟨g, cap, bv, iv, ov, q, c, qb, H⟩ := h.open hF
  have HI := hideP (xamZ b g D.length cap w H.fcell hD)
  have HH0 := hideP H
  have HCC := hideP HC
  obtain ⟨pp, qp, hpv, hpm, -⟩ := id hp
  subst hpv
  have HP := hideP hp
  have hpcl := xadZ ho
  have hkl := xadZ hk
  have HO := hideP ho
  have HK := hideP hk
  have HFN := hideP hfn
  have HPC := hideP hpc
  clear h hF HC H hp ho hk hfn hpc
  go_enter Tryz.func111, Tryz.ntmps111
  go_wp2_with fail
  refine HI.out.mono ?_
  rintro e w2 ⟨rfl, b2⟩
  have H2 := HH0.out.below b2
  have c0 := H2.c0
  have c1 := H2.c1
  rw [HFN.out] at c0
  rw [HPC.out] at c1
  have c6 := H2.at_.cells.2.2.2.2.2.2
  obtain ⟨pp', qp', hpe, -, hpc⟩ := id (HP.out.below H2.at_.bel)
  cases hpe
  obtain ⟨pb, po, f0, f1, f2, f3, hpp, hplt, -, -, -, y3, hfn⟩ := hpc k f HK.out
  subst hpp
  obtain ⟨-, -, -, hops⟩ := hfn
  obtain ⟨p3, q3, he3, -, hoc⟩ := id hops
  subst he3
  obtain ⟨ob, oo, hob, holt, o0, o1⟩ := hoc pc _ HO.out
  subst hob
  have hkli : (k : Int) < (p.length : Int) := by omega
  have hpcli : (pc : Int) < (f.2.2.2.length : Int) := by omega
  have c0a := fun o => xabZ c0 o
  have c1a := fun o => xabZ c1 o
  have c6a := fun o => xabZ c6 o
  have y3a := fun o => xabZ y3 o
  have o0a := fun o => xabZ o0 o
  have o1a := fun o => xabZ o1 o
  clear hpc hoc hops
  go_wp2_with fail
  go_region
  obtain ⟨W3, hW3⟩ : ∃ W3, (w2.alloc (.cells #[.int .i64 16, .int .i64 A] 86)).drew = W3 := ⟨_, rfl⟩
  have b3 : Below w2.heap.size w2 W3 := by rw [← hW3]; exact ((Below.refl _ w2).alloc (Nat.le_refl _) _).drew
  have x3 : W3.heap[w2.heap.size]? = some (.cells #[.int .i64 16, .int .i64 A] 86 (0, 0)) := by rw [← hW3]; exact World.alloc_heap_new w2 _
  rw [hW3]
  clear hW3 c0 c1 c6 y3 o0 o1 c0a c1a c6a y3a o0a o1a
  have H3 := H2.below b3
  have e0 : W3.cell? ⟨w2.heap.size, 0, none⟩ = some (.int .i64 16) := xaaZ x3 0
  have e1 : W3.cell? ⟨w2.heap.size, 1, none⟩ = some (.int .i64 A) := xaaZ x3 1
  have d1 := H3.c1
  rw [HPC.out] at d1
  have z1 : W3.frozen? ⟨g, D.length * 4 + 1, none⟩ = false := by obtain ⟨cur, hh⟩ := H3.gb; exact Lib.frozen_of_heap hh _
  have hne : ¬ w2.heap.size = g := by obtain ⟨cur, hh⟩ := H2.gb; have := xacZ hh; omega
  have hne' : ¬ g = w2.heap.size := fun e => hne e.symm
  have HS := hideP (H3.setPc ((pc : Int) + 1))
  clear H2 H3 x3
  go_wp2_with (go_at_call 148; refine (HCC.out _ HS.out).mono ?_; rintro e w9 ⟨rfl, h9⟩)
  exact ⟨rfl, rfl, h9⟩
end Go.Proofs.YtmjjkenblfndgaaGreat


