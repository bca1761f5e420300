/- Where a function fits each op has what it takes, and what it leaves stands for what is wanted where it goes on; nothing is wanted at first; each place that may be come to has its entry: for every program and number VerifyFits returns true. No condition. -/
import Derived.Test.YtgmkmlenhhhgkaaU21
import Derived.Test.YtgmkmlenhhhgkaaU7
import Derived.Test.YtgmkmlenhhhgkaaU18
import Derived.Test.YtgmkmlenhhhgkaaU16
namespace Go.Proofs.Ytgmkmlenhhhgkaa.verifyFits
open Go.ChangeShapes Go.WideShapes Go.ChangeAt Go.RowKit
set_option linter.unusedVariables false
set_option linter.unusedSimpArgs false
theorem own : ownKnob Try.prog.godebug = none := by kernel_rfl
theorem laidOut : laidOutB Try.prog = true := by kernel_rfl
theorem nextR_mem {l : List (Int × Int)} (hf : flowErr l = 0) {x : Nat} (hb : nextErr l x = 0) {z : Int} : z ∈ nextR l x ↔ ∃ y : Nat, z = (y : Int) ∧ goesOn l x y = true := by
  rw [nextR, if_pos hb, List.mem_map]
  constructor
  · rintro ⟨y, h1, rfl⟩
    exact ⟨y, rfl, (mem_nextL (flowErr_zero hf).2.2).1 h1⟩
  · rintro ⟨y, rfl, h⟩
    exact ⟨y, (mem_nextL (flowErr_zero hf).2.2).2 h, rfl⟩
theorem nextErr0 {l : List (Int × Int)} (hf : flowErr l = 0) {x : Nat} (h : x < l.length) : nextErr l x = 0 := by
  rw [nextErr, if_neg (by simp [hf]), if_neg (by omega)]
theorem leS_at : ∀ {s t : List Int}, leS s t = true → ∀ (k : Nat) (x y : Int), s[k]? = some x → t[k]? = some y → standsB x y = true
  | [], _, _, k, x, y, h, _ => by simp at h
  | _ :: _, [], _, k, x, y, _, h => by simp at h
  | a :: r, b :: q, h, 0, x, y, h1, h2 => by simp at h1 h2; subst h1 h2; simp [leS] at h; exact h.1
  | a :: r, b :: q, h, k + 1, x, y, h1, h2 => by simp [leS] at h; exact leS_at h.2 k x y (by simpa using h1) (by simpa using h2)
theorem drewN_below (W : World) (n : Nat) : Below W.heap.size W (W.drewN n) := ⟨rfl, rfl, rfl, Nat.le_refl _, fun _ _ => rfl⟩
/-- the row of stacks, some of them laid. -/
structure AtI (w5 : World) (R : Nat) (l : List (Nat × List Int)) (n k : Nat) (V : List Value) (wr : World) : Prop where
  row : wr.heap[R]? = some (.cells V.toArray 30 (0, 0))
  len : V.length = n
  laid : ∀ (j pc : Nat) (s : List Int), j < k → l[j]? = some (pc, s) → ∃ u, V[pc]? = some u ∧ FullInts w5 u s
  bel : Below w5.heap.size w5 wr
theorem AtI.after {w5 wr wr' : World} {R : Nat} {l : List (Nat × List Int)} {n k : Nat} {V : List Value} (h : AtI w5 R l n k V wr) (hb : Below wr.heap.size wr wr') : AtI w5 R l n k V wr' :=
  ⟨(hb.block R (heap_lt h.row)).trans h.row, h.len, h.laid, bthen h.bel hb⟩
theorem AtI.drew {w5 wr : World} {R : Nat} {l : List (Nat × List Int)} {n k : Nat} {V : List Value} (h : AtI w5 R l n k V wr) : AtI w5 R l n k V wr.drew := h.after ((Below.refl _ _).drew)
theorem AtI.put {w5 wr : World} {l : List (Nat × List Int)} {n k : Nat} {V : List Value} (h : AtI w5 w5.heap.size l n k V wr) {pc : Nat} {s : List Int} {u : Value} (hk : l[k]? = some (pc, s)) (hpc : pc < n) (hu : FullInts w5 u s) (hone : ∀ (j pc : Nat) (s : List Int) (j' : Nat) (s' : List Int), l[j]? = some (pc, s) → l[j']? = some (pc, s') → s = s') :
    AtI w5 w5.heap.size l n (k + 1) (V.set pc u) (wr.setCell ⟨w5.heap.size, pc, none⟩ u) := by
  refine ⟨?_, by simp [h.len], fun j pc' s' hj hl => ?_, h.bel.setCell (Nat.le_refl _) _⟩
  · have := heap_setCell_same wr w5.heap.size pc _ _ u h.row
    simpa using this
  · by_cases e : pc' = pc
    · subst e
      rw [hone _ _ _ _ _ hl hk]
      exact ⟨u, by rw [List.getElem?_set_self (by rw [h.len]; exact hpc)], hu⟩
    · rw [List.getElem?_set_ne (fun e2 => e e2.symm)]
      exact h.laid j pc' s' (by
        rcases Nat.lt_or_ge j k with h1 | h1
        · exact h1
        · obtain rfl : j = k := by omega
          rw [hl] at hk; cases hk; exact absurd rfl e) hl
set_option maxRecDepth 100000 in
set_option maxHeartbeats 8000000 in
theorem walk (w : World) (p : List Fn) (pv : Value) (hpf : ProgFull w pv p) (n : Int) (hn : -9223372036854775808 ≤ n ∧ n ≤ 9223372036854775807) :
    Calls Try.prog 3 #[.agg #[pv], .int .i64 n] w fun e w' => e = .returned (.bool true) ∧ Below w.heap.size w w' := by
  obtain ⟨i0, hi, hz0, hz1, hz2⟩ := info_parts infoInts
  have hp := hpf.at_
  have hcp := hpf.cap
  clear hpf
  obtain ⟨pp, qp, hpv, hpm, -⟩ := id hp
  subst hpv
  unfold maxLen at hpm
  obtain ⟨W1, hW1⟩ : ∃ W1, w.alloc (.cells #[.slice pp p.length qp] 24) = W1 := ⟨_, rfl⟩
  have hb1 : Below w.heap.size w W1 := by rw [← hW1]; exact (Below.refl _ w).alloc (Nat.le_refl _) _
  have x1 : W1.heap[w.heap.size]? = some (.cells #[.slice pp p.length qp] 24 (0, 0)) := by rw [← hW1]; exact World.alloc_heap_new w _
  have c1 := cell_at' x1 0
  simp at c1
  have lx := heap_lt x1
  have HF := hideP (vFunc_any p n _ W1 (hp.below hb1) (hcp.below hp hb1))
  have HP := hideP hp
  have HCP := hideP hcp
  clear x1 hp hcp
  go_enter Try.func3, Try.ntmps3
  go_wp2_with fail
  refine HF.out.mono ?_
  rintro e w2 ⟨v, er, l, rfl, hF, hE, hb2⟩
  have hB2 := bthen hb1 hb2
  have rd2 := entsRd_own hE
  obtain ⟨pl, cl, rfl⟩ := rd2.shp
  have RD2 := hideP rd2
  clear rd2 hE HF
  go_wp2_with fail
  refine (verifyBegun_any _).mono ?_
  rintro e w3 ⟨rfl, hb3⟩
  go_wp2_with fail
  refine (flowBegun_any _).mono ?_
  rintro e w4 ⟨rfl, hb4⟩
  have hB4 := bthen hB2 (bthen hb3 hb4)
  have RD4 := hideP ((RD2.out.below hb3).below hb4)
  have c4 : w4.cell? ⟨w.heap.size, 0, none⟩ = some (.slice pp p.length qp) := by
    have h24 := bthen hb2 (bthen hb3 hb4)
    exact (h24.cell (p := ⟨w.heap.size, 0, none⟩) lx).trans c1
  clear RD2 c1
  have hno : ∀ er : Int, er ≠ 0 → (er != 0) = true := fun er h => by simp [h]
  rcases hF with ⟨a1, a2, rfl⟩ | ⟨a1, a2, rfl, rfl⟩ | ⟨a1, m, f, r, rfl, a3, a4, a5⟩
  · have he := hno er (by rw [a2]; exact a1)
    clear a2 a1 hno c4
    go_wp2
    go_ret
    exact ⟨rfl, hB4⟩
  · clear a2 a1 hno c4
    go_wp2
    go_ret
    exact ⟨rfl, hB4⟩
  rcases a5 with ⟨b1, rfl, rfl⟩ | ⟨e, rfl, rfl, hl⟩
  · clear a1 hno c4
    go_wp2
    go_ret
    exact ⟨rfl, hB4⟩
  clear hno
  have hmp : (m : Int) < (p.length : Int) := by have := lt_of_at a3; omega
  have hok := okFn a1 (List.mem_of_getElem? a3)
  have hfl := hok.flow
  have hEO := entsOk hfl a4
  have hl' : entsOf f.2.2.2 e = l := hl.symm
  rw [hl'] at hEO
  clear hl hl'
  have hfit := a4.1
  have p4 := HP.out.below hB4
  have cp4 := HCP.out.below HP.out hB4
  obtain ⟨p', q', hpe, -, hpc⟩ := id p4
  cases hpe
  obtain ⟨b, off, c0, c1', c2', c3', hpp, hlt, y0, y1, y2, y3, hfn⟩ := hpc m f a3
  subst hpp
  obtain ⟨P, L, r, C⟩ := f
  have h40 : C.length ≤ 40 := flowErr_40 hfl
  have hfn0 := hfn
  obtain ⟨e0, ⟨p1, q1, e1, -, -⟩, e2, hC⟩ := hfn0
  simp only at e0 e1 e2 hC
  obtain ⟨p3, q3, e3, -, -⟩ := id hC
  subst e0 e1 e2 e3
  have hR := flowReach_any C _ w4 hC
  simp only at hfl
  have hrr : reachR C = l.map (fun x => ((x.1 : Nat) : Int)) := by rw [reachR, if_pos hfl]; exact hEO.reach.symm
  have hrl : (reachR C).length = l.length := by rw [hrr]; simp
  rw [hfl, hrl] at hR
  have hRM : ∀ (k pc : Nat) (s : List Int), l[k]? = some (pc, s) → (reachR C)[k]? = some (pc : Int) := fun k pc s hk => by rw [hrr, List.getElem?_map, hk]; rfl
  have hll : l.length ≤ 41 := by have := hEO.len; simp only at this; omega
  have h0l : 0 < l.length := lt_of_at hEO.zero
  have hone : ∀ (j pc : Nat) (s : List Int) (j' : Nat) (s' : List Int), l[j]? = some (pc, s) → l[j']? = some (pc, s') → s = s' := fun j pc s j' s' h1 h2 => by
    have g1 := (hEO.on _ _ _ h1).1
    rw [(hEO.on _ _ _ h2).1] at g1
    exact (Option.some.inj g1).symm
  have HONE := hideP hone
  have HRL := hideP hrl
  have HEO := hideP hEO
  have HFIT := hideP hfit
  have HFL := hideP hfl
  have HRM := hideP hRM
  have HOK := hideP hok
  have HFN := hideP hfn
  have HC := hideP hC
  have HR := hideP hR
  have P4 := hideP p4
  have CP4 := hideP cp4
  clear hone hrr hrl hEO hfit hfl hRM hok hfn hC hR p4 cp4 hpc a1 a3 a4 HP HCP
  go_wp2_with fail
  refine HR.out.mono ?_
  rintro e w5 ⟨u5, rfl, r5, hb5⟩
  have hB5 := bthen hB4 hb5
  have hu5 : ∃ p c, u5 = .slice p l.length c := row_shp r5
  obtain ⟨pr, cr, rfl⟩ := hu5
  have R5 := hideP (intsAt_of_row HRL.out.symm r5)
  have RD5 := hideP (RD4.out.below hb5)
  have c5 := (hb5.cell (p := ⟨w.heap.size, 0, none⟩) (Nat.lt_of_lt_of_le lx (by have := hb2.size; have := hb3.size; have := hb4.size; omega))).trans c4
  clear r5 HR RD4 c4
  obtain ⟨pl', cl', hle, -, hlc⟩ := RD5.out
  cases hle
  obtain ⟨bl, ol, u0, hpl, hbl, -, y6, hu0⟩ := hlc 0 0 [] HEO.out.zero
  subst hpl
  obtain ⟨pu, cu, hu0e, -⟩ := hu0.shp
  subst hu0e
  have y6' : w5.cell? ⟨bl, ol + 1, none⟩ = some (.slice pu 0 cu) := by simpa using y6
  have h0li : (0 : Int) < (l.length : Int) := by omega
  have hself : ((l.length : Int) != (l.length : Int)) = false := by simp
  have HLC := hideP hlc
  clear hlc y6 hu0
  go_wp2_with (at_make; refine wpList_make_full _ rfl _ _ 38 rfl w5.heap.size 30 i0 (.slice none 0 0) 1 Try.underlying38 hi hz0 hz1 _ _ _ _ C.length rfl rfl (by omega) (by omega) (by rw [hz2]; omega) (by unfold maxLen; omega) (Nat.le_refl _) ?_; intro w6 hown6 hg6)
  rw [made_slices] at hown6
  have q6 := row_full hown6 (by simp)
  have hb6 : Below w5.heap.size w5 w6 := (Below.refl w5.heap.size w5).grown hg6 (Nat.le_refl _) (fun k hk => by cases hk)
  have hI6 : AtI w5 w5.heap.size l C.length 0 (List.replicate C.length (Value.slice none 0 0)) w6 := ⟨q6, by simp, fun j pc s hj => by omega, hb6⟩
  have HI6 := hideP hI6
  clear hI6 q6 hown6 hg6 hb6 y6' hW1 hself h0li
  go_loopw [10] (fun v10 wr => ∃ (k : Nat) (V : List Value), k ≤ l.length ∧ v10 = .int .i64 k ∧ AtI w5 w5.heap.size l C.length k V wr) (fun v10 _ => l.length - (intOf v10).toNat)
  case atStart => exact ⟨0, _, Nat.zero_le _, rfl, HI6.out⟩
  case round =>
    rename World => w7
    obtain ⟨k, V, hk, rfl, hI⟩ := hrel
    have hb7 := hI.bel
    by_cases hlt7 : k < l.length
    · have hlti : (k : Int) < (l.length : Int) := by omega
      obtain ⟨⟨pc, s⟩, hks⟩ := at_of_lt hlt7
      obtain ⟨b9, o9, u, hpe, hb9, z0, z1, hu⟩ := HLC.out k pc s hks
      cases hpe
      obtain ⟨pR, cR, hRe, -, hRc⟩ := R5.out
      simp only [Value.slice.injEq] at hRe
      obtain ⟨rfl, -, rfl⟩ := hRe
      obtain ⟨bR, oR, hpR, hbR, z2⟩ := hRc k pc (HRM.out k pc s hks)
      cases hpR
      have y0' := (hb7.cell (p := ⟨bl, ol + k * 2, none⟩) hbl).trans z0
      have y1' := (hb7.cell (p := ⟨bl, ol + k * 2 + 1, none⟩) hbl).trans z1
      have y2' := (hb7.cell (p := ⟨bR, oR + k, none⟩) hbR).trans z2
      have hpcC : pc < C.length := (HEO.out.on k pc s hks).2.2
      have d1 : ((pc : Int) != (pc : Int)) = false := by simp
      have d2 : ((pc : Int) == (C.length : Int)) = false := by simp; omega
      have hpi : (pc : Int) < (C.length : Int) := by omega
      have HI := hideP hI
      have HKS := hideP hks
      have HU := hideP hu
      obtain ⟨pu2, cu2, hue, -⟩ := hu.shp
      subst hue
      have r7 := hI.row
      have f7 := Lib.frozen_of_heap r7 pc
      have k7 : ∃ vv, w7.cell? ⟨w5.heap.size, pc, none⟩ = some vv := by
        obtain ⟨vv, hvv⟩ := at_of_lt (l := V) (k := pc) (by rw [hI.len]; exact hpcC)
        exact ⟨vv, by rw [cell_at' r7]; simpa using hvv⟩
      obtain ⟨vv, k7⟩ := k7
      clear hRc z0 z1 z2 hks hu hI r7
      go_wp2_with fail
      go_quiet (fail)
      obtain ⟨w8, hw8⟩ : ∃ w8, w7.drewN nq = w8 := ⟨_, rfl⟩
      have hh8 : w8.heap = w7.heap := by rw [← hw8]; rfl
      have hb8 : Below w7.heap.size w7 w8 := by rw [← hw8]; exact drewN_below _ _
      rw [hw8]
      have y08 := (hb8.cell (p := ⟨bl, ol + k * 2, none⟩) (Nat.lt_of_lt_of_le hbl hb7.size)).trans y0'
      have y18 := (hb8.cell (p := ⟨bl, ol + k * 2 + 1, none⟩) (Nat.lt_of_lt_of_le hbl hb7.size)).trans y1'
      have k8 := (hb8.cell (p := ⟨w5.heap.size, pc, none⟩) (heap_lt HI.out.row)).trans k7
      have f8 := (hb8.frozen (p := ⟨w5.heap.size, pc, none⟩) (heap_lt HI.out.row)).trans f7
      have HB8 := hideP hb8
      clear hw8 y0' y1' y2' k7 f7 d1 d2 hh8 hb8
      go_wp2_with fail
      go_region
      all_goals
        go_wp2
        go_roundw
        case rel =>
          refine ⟨k + 1, V.set pc (.slice pu2 s.length cu2), by omega, by go_num, ?_⟩
          exact ((HI.out.after HB8.out).put HKS.out hpcC HU.out HONE.out).drew
        case measure => simp [intOf]; omega
    · have hlti : ¬ (k : Int) < (l.length : Int) := by omega
      have hk7 : k = l.length := by omega
      have hat : ∀ (pc : Nat) (s : List Int), e pc = some s → ∃ u, V[pc]? = some u ∧ FullInts w5 u s := fun pc s h => by
        obtain ⟨j, hj⟩ := HEO.out.all pc s h
        exact hI.laid j pc s (by rw [hk7]; exact lt_of_at hj) hj
      have HAT := hideP hat
      have HROW := hideP hI.row
      have hVl : V.length = C.length := hI.len
      clear hat hI hk7 hk
      go_wp2
      go_loopw [11, 12, 13, 14, 15, 16, 17, 18] (fun v11 _ _ _ _ _ _ _ wr => ∃ k : Nat, k ≤ l.length ∧ v11 = .int .i64 k ∧ Below w7.heap.size w7 wr) (fun v11 _ _ _ _ _ _ _ _ => l.length - (intOf v11).toNat)
      case atStart => exact ⟨0, Nat.zero_le _, rfl, Below.refl _ _⟩
      case round =>
        rename World => w8
        obtain ⟨k, hk, rfl, hb8⟩ := hrel
        by_cases hlt8 : k < l.length
        · have hlti : (k : Int) < (l.length : Int) := by omega
          have hb58 := bthen hb7 hb8
          have hb48 := bthen hb5 hb58
          obtain ⟨⟨pc, s⟩, hks⟩ := at_of_lt hlt8
          obtain ⟨b9, o9, u, hpe, hb9, z0, z1, hu⟩ := HLC.out k pc s hks
          cases hpe
          obtain ⟨g1, g2, g3⟩ := HEO.out.on k pc s hks
          obtain ⟨⟨oc, oa⟩, out, g4, g5, g6⟩ := HFIT.out.on pc s g1
          simp only at g3 g4 g6
          have hpi : (pc : Int) < (C.length : Int) := by omega
          obtain ⟨pC, qC, hCe, -, hCc⟩ := HC.out
          cases hCe
          obtain ⟨bC, oC, hpC, hbC, t0, t1⟩ := hCc pc (oc, oa) g4
          subst hpC
          have y08 := (hb58.cell (p := ⟨bl, ol + k * 2, none⟩) hbl).trans z0
          have y18 := (hb58.cell (p := ⟨bl, ol + k * 2 + 1, none⟩) hbl).trans z1
          have v0 := (hb48.cell (p := ⟨b, off + m * 4, none⟩) hlt).trans y0
          have v1 := (hb48.cell (p := ⟨b, off + m * 4 + 1, none⟩) hlt).trans y1
          have v2 := (hb48.cell (p := ⟨b, off + m * 4 + 2, none⟩) hlt).trans y2
          have v3 := (hb48.cell (p := ⟨b, off + m * 4 + 3, none⟩) hlt).trans y3
          have v4 := (hb48.cell (p := ⟨bC, oC + pc * 2, none⟩) hbC).trans t0
          have v5 := (hb48.cell (p := ⟨bC, oC + pc * 2 + 1, none⟩) hbC).trans t1
          have v6 := (hb58.cell (p := ⟨w.heap.size, 0, none⟩) (Nat.lt_of_lt_of_le lx (by have := hb2.size; have := hb3.size; have := hb4.size; have := hb5.size; omega))).trans c5
          have hbig : Below w8.heap.size w8 w8.drew := (Below.refl _ w8).drew
          have HTRY := hideP (tryRef_any (oc, oa) p (P, L, r, C) s u _ _ _ _ _ w8.drew g2 ((hu.at_.below hb58).below hbig) hu.nil hu.cap ((P4.out.below hb48).below hbig) ((CP4.out.below P4.out hb48).below (P4.out.below hb48) hbig) ((HFN.out.below hb48).below hbig) (HOK.out.ops _ (List.mem_of_getElem? g4)))
          have G5 := hideP g5
          have G6 := hideP g6
          obtain ⟨pu2, cu2, hue, -⟩ := hu.shp
          subst hue
          clear hCc t0 t1 z0 z1 g1 g5 g6 hks hu g4 hbig
          have lb0 : w.heap.size < w8.heap.size := by have := hb58.size; have := hb2.size; have := hb3.size; have := hb4.size; have := hb5.size; omega
          have lb1 : b < w8.heap.size := by have := hb48.size; omega
          have lb2 : bC < w8.heap.size := by have := hb48.size; omega
          have lb3 : bl < w8.heap.size := by have := hb58.size; omega
          go_wp2_with fail
          go_region_held3 (fun W => W.cell? ⟨w.heap.size, 0, none⟩ = some (.slice (some ⟨b, off, none⟩) p.length qp) ∧ W.cell? ⟨b, off + m * 4, none⟩ = some (.int .i64 P) ∧ W.cell? ⟨b, off + m * 4 + 1, none⟩ = some (.slice p1 L.length q1) ∧ W.cell? ⟨b, off + m * 4 + 2, none⟩ = some (.int .i64 r) ∧ W.cell? ⟨b, off + m * 4 + 3, none⟩ = some (.slice (some ⟨bC, oC, none⟩) C.length q3) ∧ W.cell? ⟨bC, oC + pc * 2, none⟩ = some (.int .i64 oc) ∧ W.cell? ⟨bC, oC + pc * 2 + 1, none⟩ = some (.int .i64 oa) ∧ W.cell? ⟨bl, ol + k * 2, none⟩ = some (.int .i64 pc) ∧ W.cell? ⟨bl, ol + k * 2 + 1, none⟩ = some (.slice pu2 s.length cu2)) (go_keep)
            (first
              | (go_at_call 8; refine HTRY.out.mono ?_; rintro e w9 ⟨u9, r9, ok9, rfl, hr9, ht9, hb9⟩; have hbw : Below w8.heap.size w8 w9 := ((Below.refl w8.heap.size w8).drew).trans hb9; have s6 := (hbw.cell (p := ⟨w.heap.size, 0, none⟩) lb0).trans v6; have s0 := (hbw.cell (p := ⟨b, off + m * 4, none⟩) lb1).trans v0; have s1 := (hbw.cell (p := ⟨b, off + m * 4 + 1, none⟩) lb1).trans v1; have s2 := (hbw.cell (p := ⟨b, off + m * 4 + 2, none⟩) lb1).trans v2; have s3 := (hbw.cell (p := ⟨b, off + m * 4 + 3, none⟩) lb1).trans v3; have s4 := (hbw.cell (p := ⟨bC, oC + pc * 2, none⟩) lb2).trans v4; have s5 := (hbw.cell (p := ⟨bC, oC + pc * 2 + 1, none⟩) lb2).trans v5; have s7 := (hbw.cell (p := ⟨bl, ol + k * 2, none⟩) lb3).trans y08; have s8 := (hbw.cell (p := ⟨bl, ol + k * 2 + 1, none⟩) lb3).trans y18; have HR9 := hideP hr9; have HT9 := hideP ht9; clear hr9 ht9))
          all_goals
            have hrok : ok9 = true ∧ r9 = out := by
              have h1 := HT9.out
              rw [G5.out] at h1
              cases ok9
              · cases h1
              · exact ⟨rfl, (Option.some.inj h1).symm⟩
            obtain ⟨rfl, rfl⟩ := hrok
            have fi9 := fullInts_row rfl HR9.out
            obtain ⟨p9, c9, hu9, -⟩ := fi9.shp
            subst hu9
            have FI9 := hideP fi9
            have hn1 := flowNext_any C pc _ w9 ((HC.out.below hb48).below hbw)
            have hne := nextErr0 HFL.out g3
            have hnm := fun z => nextR_mem HFL.out hne (z := z)
            rw [hne] at hn1
            generalize nextR C pc = N at *
            have HNM := hideP hnm
            have HN1 := hideP hn1
            clear hnm hne hn1 fi9 HTRY HR9 HT9 v0 v1 v2 v3 v4 v5 v6 y08 y18
            go_wp2_with fail
            refine HN1.out.mono ?_
            rintro e w10 ⟨u10, rfl, r10, hb10⟩
            obtain ⟨pn, cn, rfl⟩ := row_shp r10
            have I10 := hideP (intsAt_of_row rfl r10)
            have FI10 := hideP (FI9.out.below hb10)
            have hNl : N.length ≤ 9223372036854775807 := by obtain ⟨_, _, _, h2, _⟩ := I10.out; unfold maxLen at h2; omega
            have hr8 : r9.length ≤ 9223372036854775807 := by obtain ⟨_, _, _, h2, _⟩ := FI10.out.at_; unfold maxLen at h2; omega
            have hb810 := bthen hbw hb10
            clear r10 s0 s1 s2 s3 s4 s5 s6 s7 s8 FI9 HN1
            go_wp2
            go_loopw [16, 17, 18] (fun v16 _ _ wr => ∃ k2 : Nat, k2 ≤ N.length ∧ v16 = .int .i64 k2 ∧ Below w10.heap.size w10 wr) (fun v16 _ _ _ => N.length - (intOf v16).toNat)
            case atStart => exact ⟨0, Nat.zero_le _, rfl, Below.refl _ _⟩
            case round =>
              rename World => w11
              obtain ⟨k2, hk2, rfl, hb11⟩ := hrel
              by_cases hlt11 : k2 < N.length
              · have hlti2 : (k2 : Int) < (N.length : Int) := by omega
                obtain ⟨zn, hzn⟩ := at_of_lt hlt11
                obtain ⟨to, rfl, hgo⟩ := (HNM.out zn).1 (List.mem_of_getElem? hzn)
                obtain ⟨hto, s', he', hle'⟩ := G6.out to hgo
                obtain ⟨u', hu', hfu'⟩ := HAT.out to s' he'
                obtain ⟨pu3, cu3, hue3, -⟩ := hfu'.shp
                subst hue3
                have hb711 := bthen hb8 (bthen hb810 hb11)
                have hb511 := bthen hb7 hb711
                obtain ⟨pN, qN, hNe, -, hNc⟩ := I10.out
                cases hNe
                obtain ⟨bN, oN, hpN, hbN, n0⟩ := hNc k2 _ hzn
                subst hpN
                have n1 := (hb11.cell (p := ⟨bN, oN + k2, none⟩) hbN).trans n0
                have row11 := (hb711.block _ (heap_lt HROW.out)).trans HROW.out
                have n2 : w11.cell? ⟨w5.heap.size, to, none⟩ = some (.slice pu3 s'.length cu3) := by rw [cell_at' row11]; simpa using hu'
                have hti : (to : Int) < (C.length : Int) := by omega
                have hlen : ((s'.length : Int) != (r9.length : Int)) = false := by have := leS_length hle'; simp; omega
                have HLE := hideP hle'
                have FS := hideP ((hfu'.below hb511).at_)
                have FR := hideP ((FI10.out.below hb11).at_)
                clear hzn hNc n0 hu' hfu' row11 hle' he'
                go_wp2
                go_loopw [18] (fun v18 wr => ∃ h : Nat, h ≤ r9.length ∧ v18 = .int .i64 h ∧ Below w11.heap.size w11 wr) (fun v18 _ => r9.length - (intOf v18).toNat)
                case atStart => exact ⟨0, Nat.zero_le _, rfl, Below.refl _ _⟩
                case round =>
                  rename World => w12
                  obtain ⟨h, hh, rfl, hb12⟩ := hrel
                  by_cases hlt12 : h < r9.length
                  · have hlti3 : (h : Int) < (r9.length : Int) := by omega
                    have hls := leS_length HLE.out
                    have hlti4 : (h : Int) < (s'.length : Int) := by omega
                    obtain ⟨xa, hxa⟩ := at_of_lt hlt12
                    obtain ⟨xb, hxb⟩ := at_of_lt (l := s') (k := h) (by omega)
                    obtain ⟨q1', q2', e1', -, ga⟩ := FR.out.below hb12
                    cases e1'
                    obtain ⟨ba, oa', hpa, hba, za⟩ := ga h xa hxa
                    subst hpa
                    obtain ⟨q3', q4', e2', -, gb⟩ := FS.out.below hb12
                    cases e2'
                    obtain ⟨bb, ob', hpb, hbb, zb⟩ := gb h xb hxb
                    subst hpb
                    have hst := leS_at HLE.out h xa xb hxa hxb
                    have D1 : Hid (∀ W : World, Calls Try.prog 10 #[.int .i64 xa, .int .i64 xb] W fun e w' => e = .returned (.bool true) ∧ w' = W) := fun W => by have := standR_any xa xb W; rw [hst] at this; exact this
                    clear ga gb hxa hxb hst hls
                    go_wp2_with fail
                    go_quiet ((go_at_call 10; exact Calls.quiet_of_same (D1.out _)))
                    go_wp2
                    go_roundw
                    case rel => exact ⟨h + 1, by omega, by go_num, bthen hb12 (drewN_below _ _)⟩
                    case measure => simp [intOf]; omega
                  · have hlti3 : ¬ (h : Int) < (r9.length : Int) := by omega
                    go_wp2
                    go_roundw
                    case rel => exact ⟨k2 + 1, by omega, by go_num, bthen hb11 hb12⟩
                    case measure => simp [intOf]; omega
              · have hlti2 : ¬ (k2 : Int) < (N.length : Int) := by omega
                go_wp2
                go_roundw
                case rel => exact ⟨k + 1, by omega, by go_num, bthen hb8 (bthen hb810 hb11)⟩
                case measure => simp [intOf]; omega
        · have hlti : ¬ (k : Int) < (l.length : Int) := by omega
          go_wp2
          go_ret
          exact ⟨rfl, bthen hB5 (bthen hb7 hb8)⟩
set_option maxRecDepth 100000 in
theorem lifted (os : Os) (started : os.Started) (H : Type) (enc : TypeId × Value → H) :
    ReturnsInHanded {} Try.checked os 3 .any (Rows.verifyFitsSpec.pre6 enc Try.prog Try.f3 Rows.verifyFitsRow.domain false) (Rows.verifyFitsSpec.post enc Try.prog Try.f3 false true false false) := by
  refine returnsInHanded_of_change_sized (C := Try.checked) own started (by kernel_rfl) Try.func3
    (ChangeSpec.witness6 (enc := enc) (C := Try.checked) false ⟨#[], #[.agg #[.slice none 0 0], .int .i64 0], []⟩ 8 (by kernel_rfl) (by kernel_rfl) (by kernel_rfl) (by kernel_rfl)) ?_
  intro W base args ds gs before hval0 hW hcnd hsz0 hholds
  have hval : ∀ (j : Nat) t v, Try.f3.params[j]? = some t → args[j]? = some v → Value.okWide Try.prog W .any base t v := hval0
  have hsz : (DataW.weightsEach Try.prog (Try.f3.params.toList ++ Rows.verifyFitsSpec.plain.varTypes Try.prog) (ds ++ gs)).all (· ≤ reachBytes) = true := hsz0
  have hW' := hW
  obtain ⟨p, q, hA0, hV, rfl, hfz, hnd⟩ := hW
  have hA : DataW.TrodAll enc Try.prog W 0 (fun _ => true) true Try.f3.params.toList args.toList ds p := hA0
  rw [Try.params3] at hA hval hsz
  obtain ⟨v0, vs0, d0, ds0, p0, q0, hargs, rfl, rfl, h0, r0⟩ := trodAll_cons hA
  obtain ⟨v1, vs1, d1, ds1, p1, q1, rfl, rfl, rfl, h1, r1⟩ := trodAll_cons r0
  obtain ⟨rfl, rfl, rfl⟩ := trodAll_nil r1
  obtain rfl : args = #[v0, v1] := by cases args; simp_all
  obtain ⟨rfl, rfl⟩ := trodVars_none hV
  have k0 := h0
  have k1 := h1
  have lt0 : ∀ x ∈ p0, x.block < W.heap.size := by obtain ⟨m, hm⟩ := k0; exact DataW.trod_lt m _ _ _ hm
  have lt1 : ∀ x ∈ p1, x.block < W.heap.size := by obtain ⟨m, hm⟩ := k1; exact DataW.trod_lt m _ _ _ hm
  have hw0 : ∀ n ∈ d0.weights Try.prog 24, n ≤ reachBytes := fun n hn => by have := List.all_eq_true.1 hsz n (DataW.weights_mem_each (j := 0) rfl rfl n hn); simpa using this
  obtain ⟨c0, l0, rfl, hl0⟩ := open_progC (hval 0 24 v0 rfl rfl) h0 hw0
  obtain ⟨x1, rfl, hd1, hp1, wx1⟩ := open_int Try.underlying3 (hval 1 3 v1 rfl rfl) h1
  have hx1 : -9223372036854775808 ≤ x1 ∧ x1 ≤ 9223372036854775807 := by simpa [Lit.wf, IntKind.min, IntKind.max, IntKind.bits, IntKind.signed] using wx1
  clear hA0 hval0 hsz0
  refine (walk W l0 c0 hl0 x1 hx1).mono fun e W' ⟨he, bel⟩ => ?_
  subst he
  exact ⟨_, rfl, _, _, _, [], _, [], hW', trodAll_mk1 (shut_bool Try.underlying4 _), (trodAll_cons_mk (Below.trod laidOut (by kernel_rfl) (of_decide_eq_true (by kernel_rfl)) k0 bel lt0) (trodAll_cons_mk (Below.trod laidOut (by kernel_rfl) (of_decide_eq_true (by kernel_rfl)) k1 bel lt1) trodAll_mk0)), rfl, bel.frame _, fun h => by cases h⟩
theorem over : Rows.verifyFitsRow.holds Try.pinned (OpenSpec.ofChange Rows.verifyFitsSpec) :=
  OpenClaim.holds_of_wide 3 Try.f3 rfl rfl rfl rfl rfl rfl rfl ⟨rfl, rfl, rfl, rfl, rfl⟩ rfl rfl rfl rfl rfl (by kernel_rfl) Try.func3 (by kernel_rfl)
    (of_decide_eq_true (by kernel_rfl)) (by unfold Func.isWrapper; first | (rw [if_pos (by decide +kernel)]; kernel_rfl) | (rw [if_neg (by decide +kernel)]; exact ⟨rfl, rfl⟩))
    (fun os started H enc _ => lifted os started H enc)
end Go.Proofs.Ytgmkmlenhhhgkaa.verifyFits
namespace Go.Proofs.Ytgmkmlenhhhgkaa
/-- For every input the law VerifyFits returns true, and the arguments read as they did. -/
theorem verifyFits_holds : Rows.VerifyFitsSaid := verifyFits.over
end Go.Proofs.Ytgmkmlenhhhgkaa

