/- My texts Bd Jn Jo Jp Vh Vk Pc Jq Jr Pw Ea: what of them is needed, joined. -/
import Derived.RangeFuncBox
import Derived.Deep.RegionHeld3
import Derived.Test.YtmjjkenblfndgaaGreatE1
import Derived.Test.YtmjjkenblfndgaaGreatE2
import Derived.Test.YtmjjkenblfndgaaGreatE3
import Derived.Test.YtmjjkenblfndgaaGreatE8
set_option maxRecDepth 100000
set_option maxHeartbeats 8000000
/- block.Get, Set, New. -/
namespace Go.Proofs.YtmjjkenblfndgaaGreat
open Go.RowKit
set_option linter.unusedSimpArgs false
set_option linter.unusedVariables false
theorem xk0Z {L : List (List Int)} {ref at_ : Int} (h : xa0Z L ref at_ = 0) : blkErr L = 0 ∧ ∃ (j k : Nat) (b : List Int) (z : Int), ref = (j : Int) + 1 ∧ at_ = (k : Int) ∧ L[j]? = some b ∧ b[k]? = some z := by
  unfold xa0Z at h
  by_cases he : blkErr L = 0
  · rw [if_neg (by simpa using he)] at h
    by_cases h0 : ref = 0
    · rw [if_pos h0] at h; cases h
    rw [if_neg h0] at h
    by_cases h1 : ref < 0 ∨ (L.length : Int) < ref ∨ at_ < 0 ∨ ((blkAt L ref).length : Int) ≤ at_
    · rw [if_pos h1] at h; cases h
    obtain ⟨j, hj⟩ : ∃ j : Nat, ref = (j : Int) + 1 := ⟨(ref - 1).toNat, by omega⟩
    obtain ⟨k, hk⟩ : ∃ k : Nat, at_ = (k : Int) := ⟨at_.toNat, by omega⟩
    obtain ⟨b, hb⟩ := xagZ (l := L) (k := j) (by omega)
    have hba := xdjZ hb hj
    rw [hba] at h1
    obtain ⟨z, hz⟩ := xagZ (l := b) (k := k) (by omega)
    exact ⟨he, j, k, b, z, hj, hk, hb, hz⟩
  · rw [if_pos he] at h; exact absurd h he
theorem xjkZ (L : List (List Int)) (ref at_ : Int) (hr : -9223372036854775808 ≤ ref ∧ ref ≤ 9223372036854775807) (v : Value) (w : World) (h : BlksAt w v L) : Calls Tryz.prog 195 #[v, .int .i64 ref, .int .i64 at_] w fun e w' => e = .returned (.tuple #[.int .i64 (getR L ref at_), .int .i64 (xa0Z L ref at_)]) ∧ Below w.heap.size w w' := by
  obtain ⟨p, cap, hv, _, _⟩ := id h
  subst hv
  have HF := hideP (find_any L ref at_ hr _ w h)
  by_cases he : xa0Z L ref at_ = 0
  · obtain ⟨_, j, k, b, z, hj, hk, hb, hz⟩ := xk0Z he
    have hg : getR L ref at_ = z := by
      rw [getR, if_pos he, getL, xdjZ hb hj, hk]
      simp [hz]
    rw [he] at HF
    rw [he, hg]
    have hjl := xadZ hb
    have hkl := xadZ hz
    have hm : (L.length : Int) ≤ 9223372036854775807 := by obtain ⟨_, _, _, hm, _⟩ := h; unfold maxLen at hm; omega
    have H := hideP h
    have HB := hideP hb
    have HZ := hideP hz
    subst hj hk
    clear h hb hz he hg
    have hw1 : wrap64 ((j : Int) + 1 - 1) = (j : Int) := by unfold wrap64; omega
    have hw2 : (j : Int) + 1 - 1 = (j : Int) := by omega
    have hji : (j : Int) < (L.length : Int) := by omega
    have hki : (k : Int) < (b.length : Int) := by omega
    go_enter Tryz.func195, Tryz.ntmps195
    go_wp2_with fail
    refine HF.out.mono ?_
    rintro e w1 ⟨rfl, hb1⟩
    obtain ⟨p2, c2, hee, _, hc⟩ := H.out.below hb1
    cases hee
    obtain ⟨g, off, c, hp, hg, g0, g1, _, _⟩ := hc j b HB.out
    subst hp
    obtain ⟨p3, c3, hc3, _, hc4⟩ := g1
    subst hc3
    obtain ⟨g', off', hp', _, g2⟩ := hc4 k z HZ.out
    subst hp'
    clear hc hc4
    go_wp2
    go_ret2
    exact ⟨rfl, hb1⟩
  · have he' : (xa0Z L ref at_ != 0) = true := by simp [he]
    have hg : getR L ref at_ = 0 := by rw [getR, if_neg he]
    rw [hg]
    clear h hg he
    go_enter Tryz.func195, Tryz.ntmps195
    go_wp2_with (go_at_call 227; refine HF.out.mono ?_; rintro e w1 ⟨rfl, hb1⟩)
    go_ret2
    exact ⟨rfl, hb1⟩
theorem BRows.put {W : World} {B : Nat} {q : List Value} {L : List (List Int)} (h : BRows W B q L) {j k g : Nat} {b : List Int} {n cap : Nat} (hq : q[j]? = some (.slice (some ⟨g, 0, none⟩) n cap)) (hb : L[j]? = some b) (hk : k < b.length) (z : Int) : BRows (W.setCell ⟨g, k, none⟩ (.int .i64 z)) B q (L.set j (b.set k z)) := by
  have hgs := xakZ W ⟨g, k, none⟩ (.int .i64 z)
  refine ⟨by simp [h.len], fun i x c hx hc => ?_, h.apart, fun c hc => ?_⟩
  · by_cases e : j = i
    · subst e
      rw [hq] at hx; cases hx
      rw [List.getElem?_set_self (xadZ hb)] at hc
      cases hc
      have hr := h.each j _ b hq hb
      rcases hr.2 with ⟨h1, _⟩ | ⟨g', cap', cur, h1, h2, h3, h4, h5, h6, h7⟩
      · cases h1
      · cases h1
        have hs := heap_setCell_same W g k _ _ (.int .i64 z) h3
        refine ⟨by simp, .inr ⟨g, cap, _, by simp, h2, hs, by simpa using h4, h5, by simpa using h6, ?_⟩⟩
        have e1 : (cur.setIfInBounds k (Value.int .i64 z)).toList = cur.toList.set k (.int .i64 z) := by simp
        rw [e1, List.length_set, List.take_set, h7, List.map_set]
    · rw [List.getElem?_set_ne e] at hc
      refine (h.each i x c hx hc).kept hgs ?_
      cases ho : x.ownBlock with
      | none => exact .inl rfl
      | some y =>
        right
        intro e2
        simp at e2
        exact e (h.apart j i _ x g hq hx rfl (by rw [ho, e2]))
  · rcases List.mem_or_eq_of_mem_set hc with hc | rfl
    · exact h.small c hc
    · rw [List.length_set]; exact h.small b (List.mem_of_getElem? hb)
theorem xjlZ (L : List (List Int)) (ref at_ n : Int) (hr : -9223372036854775808 ≤ ref ∧ ref ≤ 9223372036854775807) (v : Value) (w : World) (h : BlksAt w v L) : Calls Tryz.prog 197 #[v, .int .i64 ref, .int .i64 at_, .int .i64 n] w fun e w' => ∃ u, e = .returned (.tuple #[u, .int .i64 (xbrZ L ref at_ n)]) ∧ xdwZ w' w.heap.size u (setR L ref at_ n) ∧ Below w.heap.size w w' := by
  obtain ⟨p, cap, hv, _, _⟩ := id h
  subst hv
  have HF := hideP (find_any L ref at_ hr _ w h)
  by_cases he : xa0Z L ref at_ = 0
  · rw [he] at HF
    have hse : xbrZ L ref at_ n = if isI32 n = true then 0 else 3 := by unfold xbrZ; rw [if_neg (by simpa using he)]
    cases hn : isI32 n
    · have hse2 : xbrZ L ref at_ n = 3 := by rw [hse, hn]; rfl
      have hsr : setR L ref at_ n = [] := by rw [setR, if_neg (by rw [hse2]; decide)]
      rw [hse2, hsr]
      clear h he hse hse2 hsr
      go_enter Tryz.func197, Tryz.ntmps197
      go_wp2_with (first | (go_at_call 227; refine HF.out.mono ?_; rintro e w1 ⟨rfl, hb1⟩) | (go_at_call 174; refine (xgvZ n _).mono ?_; rw [hn]; rintro e w2 ⟨rfl, hw⟩; have hw := hw.symm; subst hw))
      go_ret2
      exact ⟨_, rfl, xdxZ _ _, hb1⟩
    · have hse2 : xbrZ L ref at_ n = 0 := by rw [hse, hn]; rfl
      obtain ⟨hbe, j, k, b, z, hj, hk, hb, hz⟩ := xk0Z he
      have hsr : setR L ref at_ n = L.set j (b.set k n) := by
        rw [setR, if_pos hse2, setL, xdjZ hb hj, hk, hj, show ((j : Int) + 1 - 1).toNat = j by omega, Int.toNat_natCast]
      rw [hse2, hsr]
      obtain ⟨h8, h40, _⟩ := xceZ hbe
      have hsm : ∀ b ∈ L, b.length ≤ 40 := fun b hb => by
        obtain ⟨i, hi⟩ := List.getElem?_of_mem hb
        have := xfyZ hi
        omega
      have hjl := xadZ hb
      have hkl := xadZ hz
      have H := hideP h
      have HB := hideP hb
      have HSM := hideP hsm
      subst hj hk
      clear h hb hz he hse hse2 hsr hbe hsm
      have hw1 : wrap64 ((j : Int) + 1 - 1) = (j : Int) := by unfold wrap64; omega
      have hw2 : (j : Int) + 1 - 1 = (j : Int) := by omega
      have hji : (j : Int) < (L.length : Int) := by omega
      have hki : (k : Int) < (b.length : Int) := by omega
      go_enter Tryz.func197, Tryz.ntmps197
      go_wp2_with (first | (go_at_call 227; refine HF.out.mono ?_; rintro e w1 ⟨rfl, hb1⟩) | (go_at_call 174; refine (xgvZ n _).mono ?_; rw [hn]; rintro e w2 ⟨rfl, hw⟩; have hw := hw.symm; subst hw) | fail)
      refine (xeyZ L _ _ (H.out.below hb1) h8 HSM.out).mono ?_
      rintro e w2 ⟨u, rfl, ⟨q, hrow, hrs⟩, hb2⟩
      obtain ⟨x, hx⟩ := xagZ (l := q) (k := j) (by rw [hrs.len]; exact hjl)
      have hbx := hrs.each j x b hx HB.out
      rcases hrow.2 with ⟨hu, h0⟩ | ⟨R, capR, cur, hu, hBR, hR, hn1, hn2, hn3, hn4⟩
      · have := hrs.len; omega
      rcases hbx.2 with ⟨hxv, h0⟩ | ⟨g, capg, curg, hxv, hBg, hg, hm1, hm2, hm3, hm4⟩
      · omega
      subst hu hxv
      have c0 : w2.cell? ⟨R, j, none⟩ = some (.slice (some ⟨g, 0, none⟩) b.length capg) := by
        have hq := hx
        rw [← hn4, List.getElem?_take_of_lt (by have := hrs.len; omega)] at hq
        rw [xaaZ hR]; simpa using hq
      have c1 : ∃ y, w2.cell? ⟨g, k, none⟩ = some y := by
        rw [xaaZ hg]
        obtain ⟨y, hy⟩ := xagZ (l := curg.toList) (k := k) (by simp; omega)
        exact ⟨y, by simpa using hy⟩
      obtain ⟨y, c1⟩ := c1
      have z1 := Lib.frozen_of_heap hg k
      have hqL := hrs.len
      have hRg : R ≠ g := fun e => by rw [e, hg] at hR; simp at hR
      have HRS := hideP hrs
      have HROW := hideP hrow
      have HX := hideP hx
      have hjq : (j : Int) < (q.length : Int) := by omega
      have HQL := hideP hqL
      clear hrs hrow hx hbx hR hg hn1 hn2 hn3 hn4 hm1 hm2 hm3 hm4 hqL
      go_wp2
      go_ret2
      refine ⟨.slice (some ⟨R, 0, none⟩) q.length capR, rfl, ⟨q, ?_, (HRS.out.put HX.out HB.out hkl n).low hb1.size⟩, (xaeZ hb1 hb2).setCell ?_ _⟩
      · exact xaoZ (xapZ HROW.out hb1.size) fun r hr => by
          cases hr
          exact (xakZ w2 ⟨g, k, none⟩ (.int .i64 n)).block R (HROW.out.lt R rfl).2 (fun e => hRg (by simpa using e))
      · show w.heap.size ≤ g
        have := hb1.size
        omega
  · have he' : (xa0Z L ref at_ != 0) = true := by simp [he]
    have hse : xbrZ L ref at_ n = xa0Z L ref at_ := by unfold xbrZ; rw [if_pos he]
    have hg : setR L ref at_ n = [] := by rw [setR, if_neg (by rw [hse]; exact he)]
    rw [hse, hg]
    clear h hg he hse
    go_enter Tryz.func197, Tryz.ntmps197
    go_wp2_with (go_at_call 227; refine HF.out.mono ?_; rintro e w1 ⟨rfl, hb1⟩)
    go_ret2
    exact ⟨_, rfl, xdxZ _ _, hb1⟩
end Go.Proofs.YtmjjkenblfndgaaGreat


/- verify.entries. -/
namespace Go.Proofs.YtmjjkenblfndgaaGreat
open Go.RowKit
set_option linter.unusedSimpArgs false
set_option linter.unusedVariables false
theorem infoEntry : (Tryz.prog.info? 154).map (fun i => (i.zero, i.size, i.bytes)) = some (some (.agg #[.int .i64 0, .slice none 0 0]), 2, 32) := by kernel_rfl
def xc5Z (q : List (Nat × Value)) : List Value := q.flatMap fun x => [.int .i64 x.1, x.2]
def EntRows (W : World) (B : Nat) (q : List (Nat × Value)) (l : List (Nat × List Int)) : Prop :=
  q.length = l.length ∧ ∀ (k : Nat) (x : Nat × Value) (y : Nat × List Int), q[k]? = some x → l[k]? = some y → x.1 = y.1 ∧ W.ownsRow B 3 1 x.2 y.2.length (y.2.map (Value.int .i64))
theorem EntRows.kept {W W' : World} {B : Nat} {q : List (Nat × Value)} {l : List (Nat × List Int)} {row : Option Nat} (h : EntRows W B q l) (hg : W.grownBy W' row) (hr : ∀ r, row = some r → ∃ cs t fz, W.heap[r]? = some (.cells cs t fz) ∧ t ≠ 3) : EntRows W' B q l := by
  refine ⟨h.1, fun k x y hx hy => ?_⟩
  obtain ⟨h1, h2⟩ := h.2 k x y hx hy
  refine ⟨h1, xaoZ h2 fun j hj => hg.block j (h2.lt j hj).2 (fun e => ?_)⟩
  obtain ⟨cs, t, fz, h3, h4⟩ := hr j e.symm
  exact xboZ h2 h3 h4 hj.symm
theorem EntRows.snoc {W : World} {B : Nat} {q : List (Nat × Value)} {l : List (Nat × List Int)} {pc : Nat} {u : Value} {s : List Int} (h : EntRows W B q l) (hu : W.ownsRow B 3 1 u s.length (s.map (Value.int .i64))) : EntRows W B (q ++ [(pc, u)]) (l ++ [(pc, s)]) := by
  refine ⟨by simp [h.1], fun k x y hx hy => ?_⟩
  by_cases hk : k < q.length
  · rw [List.getElem?_append_left hk] at hx
    rw [List.getElem?_append_left (by rw [← h.1]; exact hk)] at hy
    exact h.2 k x y hx hy
  · rw [List.getElem?_append_right (by omega)] at hx
    rw [List.getElem?_append_right (by rw [← h.1]; omega)] at hy
    have hk0 : k - q.length = 0 := by
      have := xadZ hx
      simp at this
      omega
    rw [hk0] at hx
    rw [← h.1, hk0] at hy
    simp at hx hy
    subst hx hy
    exact ⟨rfl, hu⟩
def EntsP (w : World) (l : List (Nat × List Int)) (e : Ending) (w' : World) : Prop := ∃ v q, e = .returned v ∧ w'.ownsRow w.heap.size 154 2 v q.length (xc5Z q) ∧ EntRows w' w.heap.size q l ∧ Below w.heap.size w w'
theorem xprZ (C : List (Int × Int)) (E : Ents) (V : List Value) (Rs : Nat) (vC : Value) (w : World) (hC : OpsAt w vC C) (hfl : flowErr C = 0) (hE : E.length = C.length) (hV : V.length = E.length) (hRs : w.heap[Rs]? = some (.cells V.toArray 46 (0, 0)))
    (hall : ∀ (k : Nat) (s : List Int), E[k]? = some (some s) → s.length ≤ 8 ∧ ∃ v, V[k]? = some v ∧ IntsAt w v s ∧ NilOk v) (hre : ∀ pc, Come C pc → pc < C.length ∧ ∃ s, ent E pc = some s) :
    Calls Tryz.prog 119 #[vC, .slice (some ⟨Rs, 0, none⟩) E.length E.length] w (EntsP w ((reachL C).map fun pc => (pc, (ent E pc).getD []))) := by
  obtain ⟨i0, hi, hz0, hz1, hz2⟩ := info_parts infoEntry
  have h40 := xdlZ hfl
  have hR := xm4Z C vC w hC
  have hrr : xfqZ C = (reachL C).map Int.ofNat := by rw [xfqZ, if_pos hfl]
  rw [hfl, hrr] at hR
  have hlr : (reachL C).length ≤ 41 := by
    unfold reachL
    have := List.length_filter_le (fun x => @decide (Come C x) (Classical.propDecidable _)) (List.range (C.length + 1))
    rw [List.length_range] at this
    omega
  have hmem : ∀ pc, pc ∈ reachL C → Come C pc := fun pc h => (xktZ (xbfZ hfl).2.2).1 h
  obtain ⟨p0, c0, hvC, _, _⟩ := id hC
  subst hvC
  have HALL := hideP hall
  have HRE := hideP hre
  have HMEM := hideP hmem
  have HR := hideP hR
  have HRS := hideP hRs
  generalize reachL C = R at *
  clear hall hre hmem hR hrr hRs hC hfl
  go_enter Tryz.func119, Tryz.ntmps119
  go_wp2_with fail
  refine HR.out.mono ?_
  rintro e w1 ⟨u1, rfl, r1, hb1⟩
  obtain ⟨p1, c1, hu1⟩ := xaiZ r1
  rw [List.length_map] at hu1
  subst hu1
  have R1 := hideP (xbaZ rfl r1)
  clear r1
  go_wp2
  go_loopw [7, 9, 17] (fun v7 _ i wr => ∃ (k : Nat) (q : List (Nat × Value)), k ≤ R.length ∧ i = .int .i64 k ∧ wr.ownsRow w1.heap.size 154 2 v7 q.length (xc5Z q) ∧ EntRows wr w.heap.size q ((R.take k).map fun pc => (pc, (ent E pc).getD [])) ∧ Below w1.heap.size w1 wr) (fun _ _ i _ => R.length - (intOf i).toNat)
  case atStart => exact ⟨0, [], Nat.zero_le _, rfl, World.ownsRow_nil _ _ _ _, ⟨rfl, fun k x y hx => by simp at hx⟩, Below.refl _ _⟩
  case round =>
    rename World => w2
    obtain ⟨k, q, hk, rfl, hrow, hq, hb2⟩ := hrel
    obtain ⟨p7, c7, hv7⟩ := xaiZ hrow
    subst hv7
    have hB2 := hb1.trans (hb2.mono hb1.size)
    have hql : q.length = k := by rw [hq.1]; simp; omega
    by_cases hlt : k < R.length
    · have hlti : (k : Int) < (R.length : Int) := by omega
      obtain ⟨pc, hpc⟩ := xagZ hlt
      obtain ⟨hpl, s, hes⟩ := HRE.out pc (HMEM.out pc (List.mem_of_getElem? hpc))
      obtain ⟨h8, v, hv1, hv2, hv3⟩ := HALL.out pc s (xjsZ hes)
      have i2 := R1.out.below hb2
      obtain ⟨pr, cr, her, _, hcr⟩ := i2
      obtain ⟨br, or_, hpr, hbr, gr⟩ := hcr k (Int.ofNat pc) (by rw [List.getElem?_map, hpc]; rfl)
      rw [List.length_map] at her
      cases her
      subst hpr
      have gr' : w2.cell? ⟨br, or_ + k, none⟩ = some (.int .i64 (pc : Int)) := gr
      have gs : w2.cell? ⟨Rs, pc, none⟩ = some v := by
        rw [hB2.cell (p := ⟨Rs, pc, none⟩) (xacZ HRS.out), xaaZ HRS.out]
        simp [hv1]
      have hpE : (pc : Int) < (E.length : Int) := by omega
      obtain ⟨ps, cs, hvs, _, _⟩ := id hv2
      subst hvs
      have HCL := hideP (xbmZ s _ w2 (hv2.below hB2) hv3 (by omega))
      have HES := hideP hes
      have HPC := hideP hpc
      have HQ := hideP hq
      have HROW := hideP hrow
      have HQL := hideP hql
      clear hcr gr hv1 hv2 hv3 hes hpc hq hrow hql
      go_wp2_with fail
      refine HCL.out.mono ?_
      rintro e w3 ⟨u3, rfl, r3, hb3⟩
      obtain ⟨p3, c3, hu3⟩ := xaiZ r3
      subst hu3
      have hB3 := hB2.trans (hb3.mono hB2.size)
      have hrow3 := xaoZ HROW.out (W' := w3) fun j hj => hb3.block j (HROW.out.lt j hj).2
      have hq3 : EntRows w3 w.heap.size q ((R.take k).map fun pc => (pc, (ent E pc).getD [])) := ⟨HQ.out.1, fun a x y hx hy => by
        obtain ⟨h1, h2⟩ := HQ.out.2 a x y hx hy
        exact ⟨h1, xaoZ h2 fun j hj => hb3.block j (h2.lt j hj).2⟩⟩
      have hu3 := xapZ r3 hB2.size
      have hrow4 := hrow3.alloc (.cells #[.int .i64 pc, .slice p3 s.length c3] 154)
      have HROW4 := hideP hrow4
      have HQ3 := hideP hq3
      have HU3 := hideP hu3
      have hqk : q.length ≤ 41 := by rw [HQL.out]; omega
      have hnews : ∀ (j : Nat) (u : Value), [Value.int .i64 pc, .slice p3 s.length c3][j]? = some u → (w3.alloc (.cells #[.int .i64 pc, .slice p3 s.length c3] 154)).cell? ((⟨w3.heap.size, 0, none⟩ : Addr).add j) = some u := by
        intro j u hj
        have hn := World.alloc_heap_new w3 (.cells #[.int .i64 pc, .slice p3 s.length c3] 154)
        match j, hj with
        | 0, hj => simp at hj; subst hj; exact xaaZ hn 0
        | 1, hj => simp at hj; subst hj; exact xaaZ hn 1
        | k + 2, hj => simp at hj
      have HNEWS := hideP hnews
      clear r3 hrow3 hq3 hu3 hrow4 hnews
      go_wp2_with (at_builtin; refine wpList_append_own _ rfl _ _ 103 rfl w1.heap.size 154 i0 (.agg #[.int .i64 0, .slice none 0 0]) 2 32 Tryz.underlying103 hi hz0 hz1 hz2 rfl (by decide) _ _ _ rfl HROW4.out ⟨w3.heap.size, 0, none⟩ 1 1 [.int .i64 pc, .slice p3 s.length c3] rfl rfl HNEWS.out (by intro u hu; simp at hu; rcases hu with rfl | rfl <;> rfl) (by unfold maxLen; omega) (by omega) (by have := hb3.size; have := hb2.size; simp; omega) ?_; intro v' w4 hown4 hg4 _; obtain ⟨g', cap', rfl⟩ := ownsRow_succ hown4)
      go_roundw
      case rel =>
        have hga := World.grownBy_alloc w3 (.cells #[.int .i64 pc, .slice p3 s.length c3] 154) none
        have hq4 := HQ3.out.kept hga (fun r h => by cases h)
        have hne4 : ∀ r, Value.ownBlock (.slice p7 q.length c7) = some r → ∃ cs t fz, (w3.alloc (.cells #[.int .i64 pc, .slice p3 s.length c3] 154)).heap[r]? = some (.cells cs t fz) ∧ t ≠ 3 := by
          intro r hr
          rcases HROW4.out.2 with ⟨hv, _⟩ | ⟨g, cap, cur, hv, _, hg, _⟩
          · rw [hv] at hr; cases hr
          · rw [hv] at hr; cases hr; exact ⟨_, _, _, hg, by decide⟩
        have hq5 := hq4.kept hg4 hne4
        have hu4 := (HU3.out.alloc (.cells #[.int .i64 pc, .slice p3 s.length c3] 154))
        have hu5 := xaoZ hu4 (W' := w4) fun j hj => hg4.block j (hu4.lt j hj).2 (fun e => by
          obtain ⟨cs, t, fz, h3, h4⟩ := hne4 j e.symm
          exact xboZ hu4 h3 h4 hj.symm)
        refine ⟨k + 1, q ++ [(pc, .slice p3 s.length c3)], by omega, by go_num, ?_, ?_, ?_⟩
        · have e1 : xc5Z (q ++ [(pc, .slice p3 s.length c3)]) = xc5Z q ++ [.int .i64 pc, .slice p3 s.length c3] := by simp [xc5Z]
          rw [e1, List.length_append, List.length_singleton]
          exact hown4
        · rw [xazZ R k pc HPC.out, List.map_append]
          have e2 : (List.map (fun pc => (pc, (ent E pc).getD [])) [pc]) = [(pc, s)] := by simp [HES.out]
          rw [e2]
          exact hq5.snoc hu5
        · have hbA := (hb2.trans (hb3.mono hb2.size)).alloc (Nat.le_trans hb2.size hb3.size) (.cells #[.int .i64 pc, .slice p3 s.length c3] 154)
          exact hbA.grown hg4 (by have := hb3.size; have := hb2.size; simp; omega) (fun j hj => (HROW4.out.lt j hj).1)
      case measure => simp [intOf]; omega
    · have hlti : ¬ (k : Int) < (R.length : Int) := by omega
      have HQ := hideP hq
      have HROW := hideP hrow
      clear hq hrow hql
      go_wp2
      go_ret
      have h1 := HQ.out
      rw [List.take_of_length_le (by omega)] at h1
      exact ⟨_, q, rfl, xapZ HROW.out hb1.size, h1, hB2⟩
end Go.Proofs.YtmjjkenblfndgaaGreat


/- verify.Func. -/
namespace Go.Proofs.YtmjjkenblfndgaaGreat
open Go.RowKit
set_option linter.unusedSimpArgs false
set_option linter.unusedVariables false
def xixZ (W : World) (B : Nat) (v : Value) (l : List (Nat × List Int)) : Prop := ∃ q, W.ownsRow B 154 2 v q.length (xc5Z q) ∧ EntRows W B q l
theorem xfjZ (W : World) (B : Nat) : xixZ W B (.slice none 0 0) [] := ⟨[], World.ownsRow_nil _ _ _ _, rfl, fun k x y hx => by simp at hx⟩
def FuncIs (p : List Fn) (k : Int) (er : Int) (l : List (Nat × List Int)) : Prop :=
  (xanZ p ≠ 0 ∧ er = xanZ p ∧ l = []) ∨ (xanZ p = 0 ∧ (k < 0 ∨ (p.length : Int) ≤ k) ∧ er = 3 ∧ l = []) ∨
    (xanZ p = 0 ∧ ∃ (n : Nat) (f : Fn) (r : Option (Nat → Option (List Int))), k = n ∧ p[n]? = some f ∧ Least p f r ∧ ((r = none ∧ er = 4 ∧ l = []) ∨ ∃ e, r = some e ∧ er = 0 ∧ l = (reachL f.2.2.2).map fun pc => (pc, (e pc).getD [])))
def FuncP (p : List Fn) (k : Int) (w : World) (e : Ending) (w' : World) : Prop := ∃ v er l, e = .returned (.tuple #[v, .int .i64 er]) ∧ FuncIs p k er l ∧ xixZ w' w.heap.size v l ∧ Below w.heap.size w w'
theorem xmsZ (p : List Fn) (k : Int) (pv : Value) (w : World) (hp : FnsAt w pv p) (hcp : CapAt w pv) : Calls Tryz.prog 82 #[.agg #[pv], .int .i64 k] w (FuncP p k w) := by
  obtain ⟨pp, qp, hpv, hpm, _⟩ := id hp
  subst hpv
  unfold maxLen at hpm
  obtain ⟨W1, hW1⟩ : ∃ W1, w.alloc (.cells #[.slice pp p.length qp] 24) = W1 := ⟨_, rfl⟩
  have hb1 : Below w.heap.size w W1 := by rw [← hW1]; exact (Below.refl _ w).alloc (Nat.le_refl _) _
  have x1 : W1.heap[w.heap.size]? = some (.cells #[.slice pp p.length qp] 24 (0, 0)) := by rw [← hW1]; exact World.alloc_heap_new w _
  have c1 := xaaZ x1 0
  simp at c1
  have lx := xacZ x1
  have hp1 := hp.below hb1
  have HCK := hideP (xh1Z p _ W1 hp1)
  have HP := hideP hp
  have HCP := hideP hcp
  have HP1 := hideP hp1
  clear x1 hp1 hp hcp
  by_cases he : xanZ p = 0
  · rw [he] at HCK
    have HE := hideP he
    clear he
    go_enter Tryz.func82, Tryz.ntmps82
    go_wp2_with fail
    refine HCK.out.mono ?_
    rintro e w2 ⟨rfl, hb2⟩
    have c2 := (hb2.cell (p := ⟨w.heap.size, 0, none⟩) lx).trans c1
    have hB2 := hb1.trans (hb2.mono hb1.size)
    by_cases h0 : k < 0
    · go_wp2
      go_ret2
      exact ⟨_, _, [], rfl, .inr (.inl ⟨HE.out, .inl h0, rfl, rfl⟩), xfjZ _ _, hB2⟩
    by_cases h1 : k ≥ (p.length : Int)
    · go_wp2
      go_ret2
      exact ⟨_, _, [], rfl, .inr (.inl ⟨HE.out, .inr h1, rfl, rfl⟩), xfjZ _ _, hB2⟩
    obtain ⟨n, rfl⟩ : ∃ n : Nat, k = n := ⟨k.toNat, by omega⟩
    have hnp : n < p.length := by omega
    have hnpi : (n : Int) < (p.length : Int) := by omega
    obtain ⟨f, hf⟩ := xagZ hnp
    have hp2 := HP.out.below hB2
    have hcp2 := HCP.out.below HP.out hB2
    obtain ⟨p', q', hpe, _, hpc⟩ := id hp2
    cases hpe
    obtain ⟨b, off, c0, c1', c2', c3', hpp, hlt, y0, y1, y2, y3, hfn⟩ := hpc n f hf
    subst hpp
    have hok := okFn HE.out (List.mem_of_getElem? hf)
    have HFIT := hideP (fit_any p f (.slice (some ⟨b, off, none⟩) p.length qp) c0 c1' c2' c3' w2.drew (hp2.below ((Below.refl _ w2).drew)) (hcp2.below hp2 ((Below.refl _ w2).drew)) (hfn.below ((Below.refl _ w2).drew)) hok)
    obtain ⟨P, L, r, C⟩ := f
    obtain ⟨e0, ⟨p1, q1, e1, _, _⟩, e2, ⟨p3, q3, e3, _, _⟩⟩ := id hfn
    simp only at e0 e1 e2 e3
    subst e0 e1 e2 e3
    have HF := hideP hf
    have HOK := hideP hok
    have HFN := hideP hfn
    have lx2 : w.heap.size < w2.heap.size := Nat.lt_of_lt_of_le lx hb2.size
    clear hpc hp2 hcp2 hf hok hfn
    go_wp2_with fail
    go_region_held3 (fun W => W.cell? ⟨w.heap.size, 0, none⟩ = some (.slice (some ⟨b, off, none⟩) p.length qp) ∧ W.cell? ⟨b, off + n * 4, none⟩ = some (.int .i64 P) ∧ W.cell? ⟨b, off + n * 4 + 1, none⟩ = some (.slice p1 L.length q1) ∧ W.cell? ⟨b, off + n * 4 + 2, none⟩ = some (.int .i64 r) ∧ W.cell? ⟨b, off + n * 4 + 3, none⟩ = some (.slice p3 C.length q3)) (go_keep)
      (first
        | (go_at_call 118; refine HFIT.out.mono ?_; rintro e w3 ⟨ok, E, Rs, V, rfl, hE, hV, hRs, hall, hle, hb3⟩; have hbw : Below w2.heap.size w2 w3 := ((Below.refl w2.heap.size w2).drew).trans hb3; have u0 := (hbw.cell (p := ⟨w.heap.size, 0, none⟩) lx2).trans c2; have u1 := (hbw.cell (p := ⟨b, off + n * 4, none⟩) hlt).trans y0; have u2 := (hbw.cell (p := ⟨b, off + n * 4 + 1, none⟩) hlt).trans y1; have u3 := (hbw.cell (p := ⟨b, off + n * 4 + 2, none⟩) hlt).trans y2; have u4 := (hbw.cell (p := ⟨b, off + n * 4 + 3, none⟩) hlt).trans y3; have HEL := hideP hE; have HVL := hideP hV; have HRS := hideP hRs; have HALL := hideP hall; have HLE := hideP hle; clear hE hV hRs hall hle))
    all_goals
      have hB3 := hB2.trans (hbw.mono hB2.size)
      cases ok
      · go_wp2
        go_ret2
        exact ⟨_, _, [], rfl, .inr (.inr ⟨HE.out, n, _, none, rfl, HF.out, HLE.out, .inl ⟨rfl, rfl, rfl⟩⟩), xfjZ _ _, hB3⟩
      · have hfit := HLE.out.1
        have HEN := hideP (xprZ C E V Rs (.slice p3 C.length q3) w3 ((HFN.out.below hbw).2.2.2) HOK.out.flow HEL.out HVL.out HRS.out HALL.out (fun pc hc => by
          obtain ⟨s, hs⟩ := xgqZ hfit hc
          obtain ⟨o, _, ho, _⟩ := hfit.on pc s hs
          exact ⟨xadZ ho, s, hs⟩))
        clear hfit
        go_wp2_with fail
        refine HEN.out.mono ?_
        rintro e w4 ⟨v4, q4, rfl, r4, hq4, hb4⟩
        have HR4 := hideP r4
        have HQ4 := hideP hq4
        clear r4 hq4
        go_wp2
        go_ret2
        refine ⟨_, _, _, rfl, .inr (.inr ⟨HE.out, n, _, some (ent E), rfl, HF.out, HLE.out, .inr ⟨_, rfl, rfl, rfl⟩⟩), ⟨q4, xapZ HR4.out hB3.size, HQ4.out.1, fun a x y hx hy => ?_⟩, hB3.trans (hb4.mono hB3.size)⟩
        obtain ⟨h1, h2⟩ := HQ4.out.2 a x y hx hy
        exact ⟨h1, xapZ h2 hB3.size⟩
  · have he' : (xanZ p != 0) = true := by simp [he]
    have HE := hideP he
    clear he
    go_enter Tryz.func82, Tryz.ntmps82
    go_wp2_with fail
    refine HCK.out.mono ?_
    rintro e w2 ⟨rfl, hb2⟩
    go_wp2
    go_ret2
    exact ⟨_, _, [], rfl, .inl ⟨HE.out, rfl, rfl⟩, xfjZ _ _, hb1.trans (hb2.mono hb1.size)⟩
end Go.Proofs.YtmjjkenblfndgaaGreat


/- verify.Program. -/
namespace Go.Proofs.YtmjjkenblfndgaaGreat
open Go.RowKit
set_option linter.unusedSimpArgs false
set_option linter.unusedVariables false
def ProgIs (p : List Fn) (er : Int) : Prop :=
  (xanZ p ≠ 0 ∧ er = xanZ p) ∨ (xanZ p = 0 ∧ er = 0 ∧ ∀ f ∈ p, ∃ e, Least p f (some e)) ∨ (xanZ p = 0 ∧ er = 4 ∧ ∃ f ∈ p, Least p f none)
def ProgP (p : List Fn) (w : World) (e : Ending) (w' : World) : Prop := ∃ er, e = .returned (.int .i64 er) ∧ ProgIs p er ∧ Below w.heap.size w w'
theorem xpsZ {W : World} {B : Nat} {v : Value} {l : List (Nat × List Int)} (h : xixZ W B v l) : ∃ q n c, v = .slice q n c := by
  obtain ⟨q, hr, _⟩ := h
  obtain ⟨a, b, hv⟩ := xaiZ hr
  exact ⟨_, _, _, hv⟩
theorem xe4Z (p : List Fn) (pv : Value) (w : World) (hp : FnsAt w pv p) (hcp : CapAt w pv) : Calls Tryz.prog 49 #[.agg #[pv]] w (ProgP p w) := by
  obtain ⟨pp, qp, hpv, hpm, _⟩ := id hp
  subst hpv
  unfold maxLen at hpm
  obtain ⟨W1, hW1⟩ : ∃ W1, w.alloc (.cells #[.slice pp p.length qp] 24) = W1 := ⟨_, rfl⟩
  have hb1 : Below w.heap.size w W1 := by rw [← hW1]; exact (Below.refl _ w).alloc (Nat.le_refl _) _
  have x1 : W1.heap[w.heap.size]? = some (.cells #[.slice pp p.length qp] 24 (0, 0)) := by rw [← hW1]; exact World.alloc_heap_new w _
  have c1 := xaaZ x1 0
  simp at c1
  have lx := xacZ x1
  have hp1 := hp.below hb1
  have HCK := hideP (xh1Z p _ W1 hp1)
  have HP := hideP hp
  have HCP := hideP hcp
  clear x1 hp1 hp hcp
  by_cases he : xanZ p = 0
  · rw [he] at HCK
    have HE := hideP he
    clear he
    go_enter Tryz.func49, Tryz.ntmps49
    go_wp2_with fail
    refine HCK.out.mono ?_
    rintro e w2 ⟨rfl, hb2⟩
    have c2 := (hb2.cell (p := ⟨w.heap.size, 0, none⟩) lx).trans c1
    have hB2 := hb1.trans (hb2.mono hb1.size)
    have lx2 : w.heap.size < w2.heap.size := Nat.lt_of_lt_of_le lx hb2.size
    go_wp2
    go_loopw [4, 5, 6, 15] (fun _ _ _ i wr => ∃ k : Nat, k ≤ p.length ∧ i = .int .i64 k ∧ (∀ f ∈ p.take k, ∃ e, Least p f (some e)) ∧ Below w2.heap.size w2 wr) (fun _ _ _ i _ => p.length - (intOf i).toNat)
    case atStart => exact ⟨0, Nat.zero_le _, rfl, by simp, Below.refl _ _⟩
    case round =>
      rename World => w3
      obtain ⟨k, hk, rfl, hok, hb3⟩ := hrel
      have c3 := (hb3.cell (p := ⟨w.heap.size, 0, none⟩) lx2).trans c2
      have hB3 := hB2.trans (hb3.mono hB2.size)
      have HK := hideP hok
      clear hok
      by_cases hlt : k < p.length
      · have hlti : (k : Int) < (p.length : Int) := by omega
        obtain ⟨f, hf⟩ := xagZ hlt
        have HFU := hideP (xmsZ p (k : Int) _ w3 (HP.out.below hB3) (HCP.out.below HP.out hB3))
        have HF := hideP hf
        clear hf
        go_wp2_with fail
        refine HFU.out.mono ?_
        rintro e w4 ⟨v4, er, l4, rfl, hi4, ho4, hb4⟩
        obtain ⟨q4, n4, c4, hv4⟩ := xpsZ ho4
        subst hv4
        clear ho4
        have hcase : (er = 0 ∧ ∃ e, Least p f (some e)) ∨ (er = 4 ∧ Least p f none) := by
          rcases hi4 with ⟨a1, _⟩ | ⟨_, a2, _⟩ | ⟨_, n, f', r, a1, a2, a3, a4⟩
          · exact absurd HE.out a1
          · omega
          · obtain rfl : n = k := by omega
            rw [HF.out] at a2
            cases a2
            rcases a4 with ⟨h1, h2, _⟩ | ⟨e, h1, h2, _⟩
            · rw [h1] at a3; exact .inr ⟨h2, a3⟩
            · rw [h1] at a3; exact .inl ⟨h2, e, a3⟩
        clear hi4
        rcases hcase with ⟨rfl, hfit⟩ | ⟨rfl, hno⟩
        · have HFT := hideP hfit
          clear hfit
          go_wp2
          go_roundw
          case rel =>
            refine ⟨k + 1, by omega, by go_num, fun g hg => ?_, hb3.trans (hb4.mono hb3.size)⟩
            rw [xazZ p k f HF.out] at hg
            rcases List.mem_append.1 hg with hg | hg
            · exact HK.out g hg
            · simp at hg; subst hg; exact HFT.out
          case measure => simp [intOf]; omega
        · have HNO := hideP hno
          clear hno
          go_wp2
          go_ret
          exact ⟨4, rfl, .inr (.inr ⟨HE.out, rfl, f, List.mem_of_getElem? HF.out, HNO.out⟩), hB3.trans (hb4.mono hB3.size)⟩
      · have hlti : ¬ (k : Int) < (p.length : Int) := by omega
        go_wp2
        go_ret
        have := HK.out
        rw [List.take_of_length_le (by omega)] at this
        exact ⟨0, rfl, .inr (.inl ⟨HE.out, rfl, this⟩), hB3⟩
  · have he' : (xanZ p != 0) = true := by simp [he]
    have HE := hideP he
    clear he
    go_enter Tryz.func49, Tryz.ntmps49
    go_wp2_with fail
    refine HCK.out.mono ?_
    rintro e w2 ⟨rfl, hb2⟩
    go_wp2
    go_ret
    exact ⟨_, rfl, .inl ⟨HE.out, rfl⟩, hb1.trans (hb2.mono hb1.size)⟩
end Go.Proofs.YtmjjkenblfndgaaGreat


/- read. -/
namespace Go.Proofs.YtmjjkenblfndgaaGreat
open Go.RowKit
set_option linter.unusedSimpArgs false
set_option linter.unusedVariables false
abbrev FnV := Value × Value × Value × Value
end Go.Proofs.YtmjjkenblfndgaaGreat


/- square, progBegun. -/
namespace Go.Proofs.YtmjjkenblfndgaaGreat
open Go.RowKit
set_option linter.unusedSimpArgs false
set_option linter.unusedVariables false
def xajZ : List Fn := [(0, [], 0, [(21, 0), (12, 1), (20, 0), (10, 0)]), (1, [1], 1, [(8, 0), (3, 0), (7, 0), (13, 0)])]
theorem intsAt_nil (W : World) : IntsAt W (.slice none 0 0) [] := ⟨none, 0, rfl, Nat.zero_le _, fun k f h => by simp at h⟩
theorem square_at {w W1 W2 W3 W4 W5 : World} {o1 : Obj} (hW1 : w.alloc o1 = W1) (hW2 : W1.alloc (.cells #[.int .i64 21, .int .i64 0, .int .i64 12, .int .i64 1, .int .i64 20, .int .i64 0, .int .i64 10, .int .i64 0] 86) = W2)
    (hW3 : W2.alloc (.cells #[.int .i64 1] 3) = W3) (hW4 : W3.alloc (.cells #[.int .i64 8, .int .i64 0, .int .i64 3, .int .i64 0, .int .i64 7, .int .i64 0, .int .i64 13, .int .i64 0] 86) = W4)
    (hW5 : W4.alloc (.cells #[.int .i64 0, .slice none 0 0, .int .i64 0, .slice (some ⟨w.heap.size + 1, 0, none⟩) 4 4, .int .i64 1, .slice (some ⟨w.heap.size + 1 + 1, 0, none⟩) 1 1, .int .i64 1, .slice (some ⟨w.heap.size + 1 + 1 + 1, 0, none⟩) 4 4] 119) = W5) :
    FnsAt W5 (.slice (some ⟨w.heap.size + 1 + 1 + 1 + 1, 0, none⟩) 2 2) xajZ ∧ Below w.heap.size w W5 ∧ W5.heap[w.heap.size]? = some o1 := by
  have s1 : W1.heap.size = w.heap.size + 1 := by rw [← hW1]; simp
  have s2 : W2.heap.size = w.heap.size + 1 + 1 := by rw [← hW2]; simp; exact s1
  have s3 : W3.heap.size = w.heap.size + 1 + 1 + 1 := by rw [← hW3]; simp; exact s2
  have s4 : W4.heap.size = w.heap.size + 1 + 1 + 1 + 1 := by rw [← hW4]; simp; exact s3
  have h1 := xd6Z w o1
  rw [hW1] at h1
  have h2 := xd6Z W1 (.cells #[.int .i64 21, .int .i64 0, .int .i64 12, .int .i64 1, .int .i64 20, .int .i64 0, .int .i64 10, .int .i64 0] 86)
  rw [hW2, s1] at h2
  have h3 := xd6Z W2 (.cells #[.int .i64 1] 3)
  rw [hW3, s2] at h3
  have h4 := xd6Z W3 (.cells #[.int .i64 8, .int .i64 0, .int .i64 3, .int .i64 0, .int .i64 7, .int .i64 0, .int .i64 13, .int .i64 0] 86)
  rw [hW4, s3] at h4
  have h5 := xd6Z W4 (.cells #[.int .i64 0, .slice none 0 0, .int .i64 0, .slice (some ⟨w.heap.size + 1, 0, none⟩) 4 4, .int .i64 1, .slice (some ⟨w.heap.size + 1 + 1, 0, none⟩) 1 1, .int .i64 1, .slice (some ⟨w.heap.size + 1 + 1 + 1, 0, none⟩) 4 4] 119)
  rw [hW5, s4] at h5
  have k2 : ∀ {k : Nat} {o : Obj}, W1.heap[k]? = some o → W2.heap[k]? = some o := fun h => by rw [← hW2]; exact xalZ h _
  have k3 : ∀ {k : Nat} {o : Obj}, W2.heap[k]? = some o → W3.heap[k]? = some o := fun h => by rw [← hW3]; exact xalZ h _
  have k4 : ∀ {k : Nat} {o : Obj}, W3.heap[k]? = some o → W4.heap[k]? = some o := fun h => by rw [← hW4]; exact xalZ h _
  have k5 : ∀ {k : Nat} {o : Obj}, W4.heap[k]? = some o → W5.heap[k]? = some o := fun h => by rw [← hW5]; exact xalZ h _
  have b1 : Below w.heap.size w W1 := by rw [← hW1]; exact (Below.refl _ w).alloc (Nat.le_refl _) _
  have b2 : Below w.heap.size w W2 := by rw [← hW2]; exact b1.alloc (by omega) _
  have b3 : Below w.heap.size w W3 := by rw [← hW3]; exact b2.alloc (by omega) _
  have b4 : Below w.heap.size w W4 := by rw [← hW4]; exact b3.alloc (by omega) _
  have b5 : Below w.heap.size w W5 := by rw [← hW5]; exact b4.alloc (by omega) _
  refine ⟨⟨_, 2, rfl, by unfold maxLen; decide, fun k f hk => ?_⟩, b5, k5 (k4 (k3 (k2 h1)))⟩
  have o1 : OpsAt W5 (.slice (some ⟨w.heap.size + 1, 0, none⟩) 4 4) [(21, 0), (12, 1), (20, 0), (10, 0)] := xmgZ (l := [(21, 0), (12, 1), (20, 0), (10, 0)]) (m := []) (fz := (0, 0)) 4 4 (k5 (k4 (k3 h2))) rfl (by unfold maxLen; decide)
  have o2 : OpsAt W5 (.slice (some ⟨w.heap.size + 1 + 1 + 1, 0, none⟩) 4 4) [(8, 0), (3, 0), (7, 0), (13, 0)] := xmgZ (l := [(8, 0), (3, 0), (7, 0), (13, 0)]) (m := []) (fz := (0, 0)) 4 4 (k5 h4) rfl (by unfold maxLen; decide)
  have i1 : IntsAt W5 (.slice (some ⟨w.heap.size + 1 + 1, 0, none⟩) 1 1) [1] := ⟨_, 1, rfl, by unfold maxLen; decide, fun k z hk => by
    match k, hk with
    | 0, hk => simp at hk; subst hk; exact ⟨_, 0, rfl, xacZ (k5 (k4 h3)), xaaZ (k5 (k4 h3)) 0⟩
    | k + 1, hk => simp at hk⟩
  match k, hk with
  | 0, hk =>
    simp [xajZ] at hk; subst hk
    exact ⟨_, 0, _, _, _, _, rfl, xacZ h5, xaaZ h5 0, xaaZ h5 1, xaaZ h5 2, xaaZ h5 3, rfl, intsAt_nil _, rfl, o1⟩
  | 1, hk =>
    simp [xajZ] at hk; subst hk
    exact ⟨_, 0, _, _, _, _, rfl, xacZ h5, xaaZ h5 4, xaaZ h5 5, xaaZ h5 6, xaaZ h5 7, rfl, i1, rfl, o2⟩
  | k + 2, hk => simp [xajZ] at hk
theorem sq1 : xanZ xajZ = 0 := by decide +kernel
end Go.Proofs.YtmjjkenblfndgaaGreat


/- The programs of verifyBegun, plainly. -/
namespace Go.Proofs.YtmjjkenblfndgaaGreat
open Go.RowKit
set_option linter.unusedSimpArgs false
set_option linter.unusedVariables false
def fitsB (p : List Fn) (f : Fn) (E : Ents) : Bool :=
  decide (ent E 0 = some []) && decide (E.length ≤ f.2.2.2.length) && (List.range f.2.2.2.length).all fun pc => match ent E pc, f.2.2.2[pc]? with
    | some s, some o => (match tryOp p f o s with
      | some out => (List.range (f.2.2.2.length + 1)).all fun to => !goesOn f.2.2.2 pc to || (decide (to < f.2.2.2.length) && (match ent E to with | some s' => leS out s' | none => false))
      | none => false)
    | some _, none => false
    | none, _ => true
theorem xjaZ {p : List Fn} {f : Fn} {E : Ents} (hf : flowErr f.2.2.2 = 0) (h : fitsB p f E = true) : FitsBy p f (ent E) := by
  simp only [fitsB, Bool.and_eq_true, decide_eq_true_eq] at h
  obtain ⟨⟨h0, hl⟩, h1⟩ := h
  refine ⟨h0, fun pc s hs => ?_⟩
  have hlt : pc < f.2.2.2.length := Nat.lt_of_lt_of_le (xadZ (xjsZ hs)) hl
  obtain ⟨o, ho⟩ := xagZ hlt
  have h2 := List.all_eq_true.1 h1 pc (by simpa using hlt)
  rw [hs, ho] at h2
  simp only at h2
  cases ht : tryOp p f o s with
  | none => rw [ht] at h2; cases h2
  | some out =>
    rw [ht] at h2
    simp only at h2
    refine ⟨o, out, ho, ht, fun to hto => ?_⟩
    have hle := xfpZ (xbfZ hf).2.2 hto
    have h3 := List.all_eq_true.1 h2 to (by simp; omega)
    rw [hto] at h3
    simp only [Bool.not_true, Bool.false_or, Bool.and_eq_true, decide_eq_true_eq] at h3
    refine ⟨h3.1, ?_⟩
    cases he : ent E to with
    | none => rw [he] at h3; cases h3.2
    | some s' => rw [he] at h3; exact ⟨s', rfl, h3.2⟩
def xheZ : List Fn := [(0, [], 0, loopOps)]
theorem sqf : ∀ f ∈ xajZ, flowErr f.2.2.2 = 0 ∧ (fitsB xajZ f [some [], some [1], some [1], some []] = true ∨ fitsB xajZ f [some [], some [1], some [1, 1], some [1]] = true) := by decide +kernel
theorem xp8Z {er : Int} (h : ProgIs xajZ er) : er = 0 := by
  rcases h with ⟨a, _⟩ | ⟨_, h, _⟩ | ⟨_, _, f, hf, hl⟩
  · exact absurd sq1 a
  · exact h
  · obtain ⟨h1, h2 | h2⟩ := sqf f hf
    · exact absurd (xjaZ h1 h2) (hl _)
    · exact absurd (xjaZ h1 h2) (hl _)
end Go.Proofs.YtmjjkenblfndgaaGreat


/- counter, square, verifyBegun. -/
namespace Go.Proofs.YtmjjkenblfndgaaGreat
open Go.RowKit
set_option linter.unusedSimpArgs false
set_option linter.unusedVariables false
theorem cap_of {W : World} {b n cap : Nat} {cs : Array Value} {t : TypeId} {fz : Nat × Nat} (h : W.heap[b]? = some (.cells cs t fz)) (hc : ∀ (k : Nat) (p : Option Addr) (n' c' : Nat), cs[k * 4 + 1]? = some (.slice p n' c') → n' ≤ c') : CapAt W (.slice (some ⟨b, 0, none⟩) n cap) := by
  intro b' off n1 cap1 k p' n' c' hv hk hcell
  cases hv
  rw [xaaZ h, Nat.zero_add] at hcell
  exact hc k p' n' c' hcell
theorem xb3Z (w : World) : Calls Tryz.prog 47 #[] w fun e w' => ∃ v, e = .returned (.agg #[v]) ∧ FnsAt w' v xajZ ∧ CapAt w' v ∧ Below w.heap.size w w' := by
  go_enter Tryz.func47, Tryz.ntmps47
  go_wp2
  obtain ⟨hf, hb, hh⟩ := square_at (w := w) (o1 := .cells #[.slice (some ⟨w.heap.size + 1 + 1 + 1 + 1, 0, none⟩) 2 2] 24) rfl rfl rfl rfl rfl
  have t0 := xaaZ hh 0
  simp only [List.getElem?_toArray, List.getElem?_cons_zero] at t0
  refine bodyPost_ret (v := .agg #[.slice (some ⟨w.heap.size + 1 + 1 + 1 + 1, 0, none⟩) 2 2]) (by simp [results, Tryz.results47, go_sem, t0]) rfl ⟨_, rfl, hf, ?_, hb⟩
  refine cap_of (cs := #[.int .i64 0, .slice none 0 0, .int .i64 0, .slice (some ⟨w.heap.size + 1, 0, none⟩) 4 4, .int .i64 1, .slice (some ⟨w.heap.size + 1 + 1, 0, none⟩) 1 1, .int .i64 1, .slice (some ⟨w.heap.size + 1 + 1 + 1, 0, none⟩) 4 4]) (t := 119) (fz := (0, 0)) ?_ ?_
  · have := World.alloc_heap_new ((((w.alloc (.cells #[.slice (some ⟨w.heap.size + 1 + 1 + 1 + 1, 0, none⟩) 2 2] 24)).alloc (.cells #[.int .i64 21, .int .i64 0, .int .i64 12, .int .i64 1, .int .i64 20, .int .i64 0, .int .i64 10, .int .i64 0] 86)).alloc (.cells #[.int .i64 1] 3)).alloc (.cells #[.int .i64 8, .int .i64 0, .int .i64 3, .int .i64 0, .int .i64 7, .int .i64 0, .int .i64 13, .int .i64 0] 86)) (.cells #[.int .i64 0, .slice none 0 0, .int .i64 0, .slice (some ⟨w.heap.size + 1, 0, none⟩) 4 4, .int .i64 1, .slice (some ⟨w.heap.size + 1 + 1, 0, none⟩) 1 1, .int .i64 1, .slice (some ⟨w.heap.size + 1 + 1 + 1, 0, none⟩) 4 4] 119)
    simpa using this
  · intro k p n' c' hk
    match k, hk with
    | 0, hk => simp at hk; omega
    | 1, hk => simp at hk; omega
    | k + 2, hk =>
      have := (Array.getElem?_eq_some_iff.1 hk).1
      simp at this
      omega
end Go.Proofs.YtmjjkenblfndgaaGreat


/- verifyBegun. -/
namespace Go.Proofs.YtmjjkenblfndgaaGreat
open Go.RowKit
set_option linter.unusedSimpArgs false
set_option linter.unusedVariables false
theorem xpqZ (q : List (Nat × Value)) : ∀ (k : Nat) (x : Nat × Value), q[k]? = some x → (xc5Z q)[k * 2]? = some (.int .i64 x.1) ∧ (xc5Z q)[k * 2 + 1]? = some x.2 := by
  induction q with
  | nil => intro k x h; simp at h
  | cons y r ih =>
    intro k x h
    cases k with
    | zero => simp at h; subst h; simp [xc5Z]
    | succ k =>
      have := ih k x (by simpa using h)
      rw [show (k + 1) * 2 = k * 2 + 1 + 1 from by omega]
      simpa [xc5Z] using this
end Go.Proofs.YtmjjkenblfndgaaGreat


/- Plain laws on least entries, ahead of stage 2: a function more at the end, and an op that is never come to, change none. -/
namespace Go.Proofs.YtmjjkenblfndgaaGreat
open Go.RowKit
set_option linter.unusedSimpArgs false
set_option linter.unusedVariables false
open Classical in
/-- only what may be come to. -/
noncomputable def onCome (code : List (Int × Int)) (e : Nat → Option (List Int)) : Nat → Option (List Int) := fun x => if Come code x then e x else none
open Classical in
theorem xjeZ {code : List (Int × Int)} {e : Nat → Option (List Int)} {x : Nat} {s : List Int} (h : onCome code e x = some s) : Come code x ∧ e x = some s := by
  unfold onCome at h
  by_cases hc : Come code x
  · rw [if_pos hc] at h; exact ⟨hc, h⟩
  · rw [if_neg hc] at h; cases h
open Classical in
theorem xmfZ {code : List (Int × Int)} {e : Nat → Option (List Int)} {x : Nat} {s : List Int} (hc : Come code x) (h : e x = some s) : onCome code e x = some s := by
  unfold onCome
  rw [if_pos hc]; exact h
theorem xpuZ {p : List Fn} {f : Fn} {e : Nat → Option (List Int)} (hf : FitsBy p f e) : FitsBy p f (onCome f.2.2.2 e) := by
  refine ⟨xmfZ .zero hf.first, fun pc s hs => ?_⟩
  obtain ⟨hc, hs'⟩ := xjeZ hs
  obtain ⟨o, out, h1, h2, h3⟩ := hf.on pc s hs'
  refine ⟨o, out, h1, h2, fun to hto => ?_⟩
  obtain ⟨h4, s', h5, h6⟩ := h3 to hto
  exact ⟨h4, s', xmfZ (.step hc hto) h5, h6⟩
theorem xkpZ {p : List Fn} {f : Fn} {e : Nat → Option (List Int)} (h : Least p f (some e)) (x : Nat) : (∃ s, e x = some s) ↔ Come f.2.2.2 x := by
  constructor
  · rintro ⟨s, hs⟩
    obtain ⟨s', h1, _⟩ := h.2 _ (xpuZ h.1) x s hs
    exact (xjeZ h1).1
  · intro hc
    exact xgqZ h.1 hc
end Go.Proofs.YtmjjkenblfndgaaGreat


/- Entries that can be read; plain facts on the entries that Func tells. -/
namespace Go.Proofs.YtmjjkenblfndgaaGreat
open Go.RowKit
set_option linter.unusedSimpArgs false
set_option linter.unusedVariables false
structure FullInts (W : World) (u : Value) (s : List Int) : Prop where
  at_ : IntsAt W u s
  nil : NilOk u
  cap : ∀ p n c, u = .slice p n c → n ≤ c
theorem FullInts.below {W W' : World} {u : Value} {s : List Int} (h : FullInts W u s) (hb : Below W.heap.size W W') : FullInts W' u s := ⟨h.at_.below hb, h.nil, h.cap⟩
theorem xezZ {W : World} {B : Nat} {u : Value} {s : List Int} {n : Nat} (hn : n = s.length) (h : W.ownsRow B 3 1 u n (s.map (Value.int .i64))) : FullInts W u s :=
  ⟨xbaZ hn h, xdiZ h, fun p n c hu => by
    rcases h.2 with ⟨rfl, _⟩ | ⟨g, cap, cur, rfl, _, _, h1, _⟩
    · cases hu; exact Nat.le_refl _
    · cases hu; exact h1⟩
theorem FullInts.shp {W : World} {u : Value} {s : List Int} (h : FullInts W u s) : ∃ p c, u = .slice p s.length c ∧ s.length ≤ c := by
  obtain ⟨p, c, hu, _⟩ := h.at_
  exact ⟨p, c, hu, h.cap _ _ _ hu⟩
def EntsRd (W : World) (v : Value) (l : List (Nat × List Int)) : Prop :=
  ∃ p cap, v = .slice p l.length cap ∧ l.length ≤ maxLen ∧ ∀ (k pc : Nat) (s : List Int), l[k]? = some (pc, s) → ∃ b off u, p = some ⟨b, off, none⟩ ∧ b < W.heap.size ∧ W.cell? ⟨b, off + k * 2, none⟩ = some (.int .i64 pc) ∧ W.cell? ⟨b, off + k * 2 + 1, none⟩ = some u ∧ FullInts W u s
theorem EntsRd.below {W W' : World} {v : Value} {l : List (Nat × List Int)} (h : EntsRd W v l) (hb : Below W.heap.size W W') : EntsRd W' v l := by
  obtain ⟨p, cap, rfl, hm, hc⟩ := h
  refine ⟨p, cap, rfl, hm, fun k pc s hk => ?_⟩
  obtain ⟨b, off, u, rfl, hlt, h0, h1, h2⟩ := hc k pc s hk
  exact ⟨b, off, u, rfl, Nat.lt_of_lt_of_le hlt hb.size, (hb.cell (p := ⟨b, off + k * 2, none⟩) hlt).trans h0, (hb.cell (p := ⟨b, off + k * 2 + 1, none⟩) hlt).trans h1, h2.below hb⟩
theorem EntsRd.shp {W : World} {v : Value} {l : List (Nat × List Int)} (h : EntsRd W v l) : ∃ p cap, v = .slice p l.length cap := by
  obtain ⟨p, cap, hv, _⟩ := h
  exact ⟨p, cap, hv⟩
theorem entsRd_own {W : World} {B : Nat} {v : Value} {l : List (Nat × List Int)} (h : xixZ W B v l) : EntsRd W v l := by
  obtain ⟨q, hr, hlen, hq⟩ := h
  rcases hr.2 with ⟨rfl, h0⟩ | ⟨g, cap, cur, rfl, hb, hg, hn, hc, hs, ht⟩
  · have hl : l = [] := List.eq_nil_of_length_eq_zero (by omega)
    subst hl
    exact ⟨none, 0, rfl, Nat.zero_le _, fun k pc s hk => by simp at hk⟩
  · refine ⟨_, cap, by rw [hlen], by omega, fun k pc s hk => ?_⟩
    have hkl := xadZ hk
    obtain ⟨⟨pc', u⟩, hx⟩ := xagZ (l := q) (k := k) (by omega)
    obtain ⟨h1, h2⟩ := hq k _ _ hx hk
    simp only at h1 h2
    subst h1
    have hcl := xpqZ q k _ hx
    refine ⟨g, 0, u, rfl, xacZ hg, ?_, ?_, xezZ rfl h2⟩
    · have := hcl.1
      rw [← ht, List.getElem?_take_of_lt (by omega)] at this
      rw [xaaZ hg]; simpa using this
    · have := hcl.2
      rw [← ht, List.getElem?_take_of_lt (by omega)] at this
      rw [xaaZ hg]; simpa using this
noncomputable def xdtZ (C : List (Int × Int)) (e : Nat → Option (List Int)) : List (Nat × List Int) := (reachL C).map fun pc => (pc, (e pc).getD [])
theorem xp5Z (C : List (Int × Int)) : (reachL C)[0]? = some 0 := by
  unfold reachL
  rw [List.range_succ_eq_map, List.filter_cons_of_pos (by simpa using Come.zero)]
  rfl
theorem reachL_len (C : List (Int × Int)) : (reachL C).length ≤ C.length + 1 := by
  unfold reachL
  have := List.length_filter_le (fun x => @decide (Come C x) (Classical.propDecidable _)) (List.range (C.length + 1))
  rw [List.length_range] at this
  exact this
structure EntsOk (p : List Fn) (f : Fn) (e : Nat → Option (List Int)) (l : List (Nat × List Int)) : Prop where
  len : l.length ≤ f.2.2.2.length + 1
  zero : l[0]? = some (0, [])
  on : ∀ (k pc : Nat) (s : List Int), l[k]? = some (pc, s) → e pc = some s ∧ s.length ≤ 8 ∧ pc < f.2.2.2.length
  all : ∀ (pc : Nat) (s : List Int), e pc = some s → ∃ k : Nat, l[k]? = some (pc, s)
  reach : l.map (fun x => ((x.1 : Nat) : Int)) = (reachL f.2.2.2).map Int.ofNat
theorem xkjZ {p : List Fn} {f : Fn} {e : Nat → Option (List Int)} (hf : FitsBy p f e) {x : Nat} (h : Come f.2.2.2 x) {s : List Int} (hs : e x = some s) : s.length ≤ 8 := by
  cases h with
  | zero => rw [hf.first] at hs; cases hs; simp
  | step h1 h2 =>
    obtain ⟨s0, hs0⟩ := xgqZ hf h1
    obtain ⟨o, out, h3, h4, h5⟩ := hf.on _ _ hs0
    obtain ⟨_, s', h6, h7⟩ := h5 _ h2
    rw [hs] at h6
    cases h6
    rw [← xdmZ h7]
    unfold tryOp at h4
    obtain ⟨⟨t, l⟩, h8, h9⟩ := Option.bind_eq_some_iff.1 h4
    simp only at h9
    split at h9
    · rename_i hc
      cases h9
      exact hc.2.2
    · cases h9
theorem entsOk {p : List Fn} {f : Fn} {e : Nat → Option (List Int)} (hfl : flowErr f.2.2.2 = 0) (h : Least p f (some e)) : EntsOk p f e (xdtZ f.2.2.2 e) := by
  have hmem : ∀ pc, pc ∈ reachL f.2.2.2 ↔ Come f.2.2.2 pc := fun pc => xktZ (xbfZ hfl).2.2
  refine ⟨by unfold xdtZ; rw [List.length_map]; exact reachL_len _, ?_, fun k pc s hk => ?_, fun pc s hs => ?_, ?_⟩
  · unfold xdtZ
    rw [List.getElem?_map, xp5Z, Option.map_some, h.1.first]
    rfl
  · unfold xdtZ at hk
    rw [List.getElem?_map] at hk
    obtain ⟨x, hx, hxe⟩ := Option.map_eq_some_iff.1 hk
    simp only [Prod.mk.injEq] at hxe
    obtain ⟨hx1, hx2⟩ := hxe
    subst hx1 hx2
    have hc := (hmem x).1 (List.mem_of_getElem? hx)
    obtain ⟨s, hs⟩ := xgqZ h.1 hc
    obtain ⟨o, _, ho, _⟩ := h.1.on x s hs
    rw [hs]
    exact ⟨rfl, xkjZ h.1 hc hs, xadZ ho⟩
  · have hc := (hmem pc).2 ((xkpZ h pc).1 ⟨s, hs⟩)
    obtain ⟨k, hk⟩ := List.mem_iff_getElem?.1 hc
    exact ⟨k, by unfold xdtZ; rw [List.getElem?_map, hk, Option.map_some, hs]; rfl⟩
  · unfold xdtZ
    rw [List.map_map]
    rfl
end Go.Proofs.YtmjjkenblfndgaaGreat


