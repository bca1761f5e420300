/- My texts Jl Jm Bc: what of them is needed, joined. -/
import Derived.Deep.Cut
import Derived.Test.YtmjjkenblfndgaaGreatE6
import Derived.Test.YtmjjkenblfndgaaGreatE7
set_option maxRecDepth 100000
set_option maxHeartbeats 8000000
/- verify.fit's closure: a visit. -/
namespace Go.Proofs.YtmjjkenblfndgaaGreat
open Go.RowKit
set_option linter.unusedSimpArgs false
set_option linter.unusedVariables false
theorem xn4Z (l m : List Int) (v u : Value) (w : World) (hl : IntsAt w v l) (hm : IntsAt w u m) (hll : l.length = m.length) : Calls Tryz.prog 158 #[v, u] w fun e w' => e = .returned (.bool (decide (l = m))) ∧ Below w.heap.size w w' := by
  obtain ⟨p, cap, rfl, hl1, hc⟩ := hl
  obtain ⟨q, cap', rfl, hm1, hd⟩ := hm
  unfold maxLen at hl1
  have HC := hideP hc
  have HD := hideP hd
  rw [← hll]
  have HLL := hideP hll
  clear hc hd hll hm1
  go_enter Tryz.func158, Tryz.ntmps158
  go_wp2
  go_loopw [5, 13] (fun _ i wr => ∃ k : Nat, k ≤ l.length ∧ i = .int .i64 k ∧ (∀ j, j < k → l[j]? = m[j]?) ∧ Below w.heap.size w wr) (fun _ i _ => l.length - (intOf i).toNat)
  case atStart => exact ⟨0, Nat.zero_le _, rfl, fun j hj => by omega, Below.refl _ _⟩
  case round =>
    obtain ⟨k, hk, rfl, hok, hbw⟩ := hrel
    have HK := hideP hok
    clear hok
    by_cases hlt : k < l.length
    · obtain ⟨a, ha⟩ := xagZ hlt
      obtain ⟨b, hb⟩ := xagZ (show k < m.length by rw [← HLL.out]; exact hlt)
      obtain ⟨b1, o1, hp1, l1, g1⟩ := HC.out k a ha
      obtain ⟨b2, o2, hp2, l2, g2⟩ := HD.out k b hb
      subst hp1 hp2
      have d1 := (hbw.cell (p := ⟨b1, o1 + k, none⟩) l1).trans g1
      have d2 := (hbw.cell (p := ⟨b2, o2 + k, none⟩) l2).trans g2
      have hlti : (k : Int) < (l.length : Int) := by omega
      have HA := hideP ha
      have HB := hideP hb
      clear g1 g2 ha hb
      by_cases hab : a = b
      · subst hab
        have hne : (a != a) = false := by simp
        go_wp2_with fail
        go_quiet (fail)
        go_wp2
        go_roundw
        case rel =>
          refine ⟨k + 1, by omega, by go_num, fun j hj => ?_, hbw.trans ⟨rfl, rfl, rfl, Nat.le_refl _, fun _ _ => rfl⟩⟩
          rcases Nat.lt_succ_iff_lt_or_eq.1 hj with h | rfl
          · exact HK.out j h
          · rw [HA.out, HB.out]
        case measure => simp [intOf]; omega
      · have hne : (a != b) = true := by simp [hab]
        have HAB := hideP hab
        clear hab
        go_wp2_with fail
        go_quiet (fail)
        go_wp2
        go_ret
        refine ⟨?_, hbw.trans ⟨rfl, rfl, rfl, Nat.le_refl _, fun _ _ => rfl⟩⟩
        rw [decide_eq_false (fun e => by
          have h1 := HA.out
          rw [e, HB.out] at h1
          cases h1
          exact HAB.out rfl)]
        rfl
    · have hlt' : ¬ (k : Int) < (l.length : Int) := by omega
      go_wp2
      go_ret
      refine ⟨?_, hbw⟩
      rw [decide_eq_true (List.ext_getElem? fun j => by
        by_cases hj : j < l.length
        · exact HK.out j (by omega)
        · rw [List.getElem?_eq_none (by omega), List.getElem?_eq_none (by have := HLL.out; omega)])]
      rfl
theorem FI.put {x : FB} {W0 : World} {p : List Fn} {f : Fn} {E : Ents} {w w' : World} {k : Nat} {s : List Int} {v : Value} (h : FI x W0 p f E w) (hne : x.Rs ≠ x.Rm) (hs0 : W0.heap.size ≤ x.Rs) (hm0 : W0.heap.size ≤ x.Rm) (hk : k < E.length) (hv : IntsAt w v s) (hn : NilOk v) (h8 : s.length ≤ 8) (ht : tyL s) (hw : Wr x.Rs x.Rm w w')
    (hRs : ∀ V : List Value, w.heap[x.Rs]? = some (.cells V.toArray 46 (0, 0)) → w'.heap[x.Rs]? = some (.cells (V.set k v).toArray 46 (0, 0)))
    (hRm : ∀ M : List Bool, w.heap[x.Rm]? = some (.cells (M.map Value.bool).toArray 4 (0, 0)) → w'.heap[x.Rm]? = some (.cells ((M.set k true).map Value.bool).toArray 4 (0, 0))) : FI x W0 p f (E.set k (some s)) w' := by
  obtain ⟨V, h1, h2, h3, h4⟩ := h.hRs
  have hvs : ∃ p n c, v = .slice p n c := by obtain ⟨p, c, rfl, _⟩ := hv; exact ⟨_, _, _, rfl⟩
  have nb : ∀ (b : Nat) (c : Array Value) (t : TypeId), w.heap[b]? = some (.cells c t (0, 0)) → t ≠ 46 → t ≠ 4 → w'.heap[b]? = some (.cells c t (0, 0)) := by
    intro b c t hb n1 n2
    refine (hw.block b (xacZ hb) (fun e => ?_) (fun e => ?_)).trans hb
    · subst e; rw [h2] at hb; cases hb; exact n1 rfl
    · subst e; rw [h.hRm] at hb; cases hb; exact n2 rfl
  refine ⟨⟨hw.os.trans h.bel.os, hw.tape.trans h.bel.tape, hw.output.trans h.bel.output, Nat.le_trans h.bel.size hw.size, fun j hj => (hw.block j (Nat.lt_of_lt_of_le hj h.bel.size) (by omega) (by omega)).trans (h.bel.block j hj)⟩, by rw [List.length_set]; exact h.len, ?_, ⟨V.set k v, by simp [h1], hRs V h2, ?_, ?_⟩, ?_, ?_, nb _ _ _ h.hbf (by decide) (by decide), nb _ _ _ h.hbp (by decide) (by decide), nb _ _ _ h.hbc (by decide) (by decide), ?_⟩
  · have := hRm _ h.hRm
    rw [List.map_set]
    exact this
  · intro u hu
    rcases List.mem_or_eq_of_mem_set hu with h | h
    · exact h3 u h
    · subst h; exact hvs
  · intro j s' hj
    by_cases e : j = k
    · subst e
      rw [List.getElem?_set_self hk] at hj
      cases hj
      exact ⟨v, by rw [List.getElem?_set_self (by omega)], h.ints hv hw, hn⟩
    · rw [List.getElem?_set_ne (fun e2 => e e2.symm)] at hj
      obtain ⟨u, a, b, c⟩ := h4 j s' hj
      exact ⟨u, by rw [List.getElem?_set_ne (fun e2 => e e2.symm)]; exact a, h.ints b hw, c⟩
  · rw [List.length_set]; exact nb _ _ _ h.hbm (by decide) (by decide)
  · rw [List.length_set]; exact nb _ _ _ h.hbs (by decide) (by decide)
  · intro j s' hj
    by_cases e : j = k
    · subst e
      rw [List.getElem?_set_self hk] at hj
      cases hj
      exact ⟨h8, ht⟩
    · rw [List.getElem?_set_ne (fun e2 => e e2.symm)] at hj
      exact h.ok j s' hj
theorem xbnZ {w : World} {a b : Addr} {u v : Value} (h : w.cell? b = some v) (hn : b.block ≠ a.block) : (w.setCell a u).cell? b = some v := (World.cell?_of_block (Below.heap_setCell w a u b.block hn)).trans h
theorem xhyZ {w : World} {a b : Addr} {u : Value} (h : w.frozen? b = false) (hn : b.block ≠ a.block) : (w.setCell a u).frozen? b = false := (World.frozen?_of_block (Below.heap_setCell w a u b.block hn)).trans h
theorem xfnZ (w : World) : w.drew.heap = w.heap := rfl
theorem box_after {W w3 : World} {o : Obj} (h : Below (W.alloc o).drew.heap.size (W.alloc o).drew w3) : w3.heap[W.heap.size]? = some o := by
  have h1 := h.block W.heap.size (by rw [xfnZ]; simp)
  rw [h1, xfnZ]
  exact World.alloc_heap_new W o
theorem come_any (x : FB) (W0 : World) (p : List Fn) (f : Fn) (hp : FnsAt W0 x.pv p) (hcp : CapAt W0 x.pv) (hf : FnAt W0 x.c0 x.c1 x.c2 x.c3 f) (hok : OkFn p f) (hne : x.Rs ≠ x.Rm) (hs0 : W0.heap.size ≤ x.Rs) (hm0 : W0.heap.size ≤ x.Rm) (n : Nat) : ComeH x W0 p f n := by
  have h40 := xdlZ hok.flow
  induction n using Nat.strongRecOn with
  | ind n ih =>
    intro E k s vs w hmu hI hk hv hn h8 ht
    obtain ⟨pv0, cv0, hvs, _, _⟩ := id hv
    have hfw := hf.below hI.bel
    obtain ⟨C3p, C3c, hC3, hC3m, hC3c⟩ := id hfw.2.2.2
    obtain ⟨P, L, r, C⟩ := f
    obtain ⟨e0, ⟨p1, q1, e1, _, _⟩, e2, _⟩ := id hfw
    simp only at e0 e1 e2 hC3 h40 hk
    have f0 := xaaZ hI.hbf 0
    have f1 := xaaZ hI.hbf 1
    have f2 := xaaZ hI.hbf 2
    have f3 := xaaZ hI.hbf 3
    have m0 := xaaZ hI.hbm 0
    have s0 := xaaZ hI.hbs 0
    have k0 := xaaZ hI.hbp 0
    rw [e0] at f0
    rw [e1] at f1
    rw [e2] at f2
    rw [hC3] at f3
    simp at f0 f1 f2 f3 m0 s0 k0
    subst hvs
    dsimp only [caps]
    have hlenE := hI.len
    simp only at hlenE
    rw [hlenE] at m0 s0
    have HI := hideP hI
    have HV := hideP hv
    have HN := hideP hn
    have HT := hideP ht
    have HIH := hideP ih
    clear hI hv hn ht ih hC3c
    by_cases hkl : k = C.length
    · have hkl' : ((k : Int) == (C.length : Int)) = true := by simp [hkl]
      have HK := hideP hkl
      clear hkl
      go_enter Tryz.func156, Tryz.ntmps156
      go_wp2
      go_ret
      refine ⟨false, E, rfl, HI.out, Wr.refl _ _ _, fun e' hfit _ hto => ?_, fun h => by cases h⟩
      obtain ⟨s', h1, _⟩ := hto
      obtain ⟨o, _, h2, _⟩ := hfit.on k s' h1
      have := xadZ h2
      have hk2 := HK.out
      simp only at this
      omega
    · have hkl' : ((k : Int) == (C.length : Int)) = false := by simp; omega
      have hkC : k < C.length := by omega
      have hkCi : (k : Int) < (C.length : Int) := by omega
      have hkE : k < E.length := by omega
      obtain ⟨ek, hek⟩ := xagZ hkE
      have mk : w.cell? ⟨x.Rm, k, none⟩ = some (.bool ek.isSome) := by
        rw [xaaZ HI.out.hRm]
        simp [hek]
      have HEK := hideP hek
      clear hkl
      by_cases hmet : ∃ s0, ek = some s0
      case' neg =>
        have hek0 : ek = none := by cases ek with | none => rfl | some s0 => exact absurd ⟨s0, rfl⟩ hmet
        subst hek0
        simp only [Option.isSome_none] at mk
        obtain ⟨w1, rfl⟩ : ∃ w1, w1 = w := ⟨_, rfl⟩
        obtain ⟨s1, rfl⟩ : ∃ s1, s1 = s := ⟨_, rfl⟩
        obtain ⟨pj, rfl⟩ : ∃ pj, pj = pv0 := ⟨_, rfl⟩
        obtain ⟨cj, rfl⟩ : ∃ cj, cj = cv0 := ⟨_, rfl⟩
        have hent : ent E k = none := ent_at HEK.out
        have HI1 := HI
        have HW1 := hideP (Wr.refl x.Rs x.Rm w1)
        have HV1 := HV
        have HN1 := HN
        have H81 := h8
        have HT1 := HT
        have HLE1 := hideP (show ∀ s0, ent E k = some s0 → leS s0 s1 = true from fun s0 h => by rw [hent] at h; cases h)
        have HMU1 := hideP (mu_set E k none (some s1) HEK.out (by have := List.count_le_length (a := (3 : Int)) (l := s1); simp only [m1]; omega))
        have HSS := hideP (xc7Z s1)
        have HST := hideP (show ∀ e', FitsBy p (P, L, r, C) e' → leE (ent E) e' → (∃ s', e' k = some s' ∧ leS s1 s' = true) → ∃ s', e' k = some s' ∧ leS s1 s' = true from fun _ _ _ h => h)
        clear hent
        go_enter Tryz.func156, Tryz.ntmps156
        go_wp2_with fail
      case' pos =>
        obtain ⟨sm, rfl⟩ := hmet
        simp only [Option.isSome_some] at mk
        obtain ⟨V0, hV01, hV02, hV03, hV04⟩ := HI.out.hRs
        obtain ⟨vk0, hvk0, hvi, hvn⟩ := hV04 k sm HEK.out
        have skk : w.cell? ⟨x.Rs, k, none⟩ = some vk0 := by rw [xaaZ hV02]; simp [hvk0]
        have lbs0 := xacZ HI.out.hbs
        have lRs0 := xacZ hV02
        have hokm := HI.out.ok k sm HEK.out
        obtain ⟨pk, ck, hvk, _, _⟩ := id hvi
        subst hvk
        have hjr := xifZ (tyL_all hokm.2) (tyL_all HT.out) hokm.1 h8
        have hJ := vJoin_any sm s _ _ w hvi HV.out
        have hent : ent E k = some sm := ent_at HEK.out
        have HVI := hideP hvi
        clear hV01 hV02 hV03 hV04 hvk0 hvi
        by_cases hj : ∃ j, joinL sm s = some j
        case' neg =>
          have hjn : joinL sm s = none := by cases h : joinL sm s with | none => rfl | some j => exact absurd ⟨j, h⟩ hj
          rw [hjn] at hjr
          have hje : xb1Z sm s = 4 := hjr
          rw [hje] at hJ
          have HJ := hideP hJ
          have HJN := hideP hjn
          have HENT := hideP hent
          clear hJ hj hjn hje hjr hent
          go_enter Tryz.func156, Tryz.ntmps156
          go_wp2_with fail
          refine HJ.out.mono ?_
          rintro e w3 ⟨u3, rfl, r3, hb3⟩
          clear r3
          go_wp2
          go_ret
          refine ⟨false, E, rfl, HI.out.below hb3, Wr.of_below hb3, fun e' hfit hle hto => ?_, fun h => by cases h⟩
          obtain ⟨s', h1, h2⟩ := hto
          obtain ⟨s2, h3, h4⟩ := hle k sm HENT.out
          rw [h1] at h3
          cases h3
          obtain ⟨j, h5, _⟩ := xhgZ h4 h2
          rw [HJN.out] at h5
          cases h5
        case' pos =>
          obtain ⟨s1, hj⟩ := hj
          rw [hj] at hjr
          have hje : xb1Z sm s = 0 := hjr
          have hjR : joinR sm s = s1 := by rw [joinR, if_pos hje, hj]; rfl
          rw [hje, hjR] at hJ
          have hst := xigZ hj
          have hlj := xgcZ _ _ _ hj
          have htj := join_types hokm.2 HT.out hj
          have HJ := hideP hJ
          have HENT := hideP hent
          have HST0 := hideP hst
          have HJS := hideP hj
          have HTJ := hideP htj
          have hlen1 : s1.length = sm.length := hlj.1
          have H81 : s1.length ≤ 8 := by rw [hlen1]; exact hokm.1
          have HLEN1 := hideP hlen1
          clear hJ hj hje hjr hent hjR hst htj hlj hlen1
          go_enter Tryz.func156, Tryz.ntmps156
          go_wp2_with fail
          refine HJ.out.mono ?_
          rintro e w3 ⟨u3, rfl, r3, hb3⟩
          obtain ⟨pj, cj, hu3⟩ := xaiZ r3
          subst hu3
          have HV3a := hideP (xbaZ rfl r3)
          have HN3a := hideP (xdiZ r3)
          have s03 := (hb3.cell (p := ⟨x.bs, 0, none⟩) lbs0).trans s0
          have sk3 := (hb3.cell (p := ⟨x.Rs, k, none⟩) lRs0).trans skk
          have HEQ := hideP (xn4Z s1 sm _ _ w3 HV3a.out (HVI.out.below hb3) HLEN1.out)
          clear r3
          by_cases heq : s1 = sm
          case' pos =>
            rw [decide_eq_true heq] at HEQ
            have HEQ2 := hideP heq
            clear heq
            go_wp2_with fail
            refine HEQ.out.mono ?_
            rintro e w4 ⟨rfl, hb4⟩
            go_wp2
            go_ret
            have hb04 := hb3.trans (hb4.mono hb3.size)
            refine ⟨true, E, rfl, HI.out.below hb04, Wr.of_below hb04, fun e' hfit hle hto => ⟨rfl, hle⟩, fun _ => ⟨Went.refl _ _ _, hkC, sm, HENT.out, ?_⟩⟩
            have := HST0.out.2
            rw [HEQ2.out] at this
            exact this
          case' neg =>
            rw [decide_eq_false heq] at HEQ
            have HNEQ := hideP heq
            clear heq
            go_wp2_with fail
            refine HEQ.out.mono ?_
            rintro e w1 ⟨rfl, hb4⟩
            have hb04 := hb3.trans (hb4.mono hb3.size)
            have HI1 := hideP (HI.out.below hb04)
            have HW1 := hideP (Wr.of_below (Rs := x.Rs) (Rm := x.Rm) hb04)
            have HV1 := hideP (HV3a.out.below hb4)
            have HN1 := HN3a
            have HT1 := HTJ
            have HLE1 := hideP (show ∀ s0, ent E k = some s0 → leS s0 s1 = true from fun s0 h => by rw [HENT.out] at h; cases h; exact HST0.out.1)
            have HMU1 := hideP (mu_set E k (some sm) (some s1) HEK.out (xiiZ HST0.out.1 (fun e => HNEQ.out e.symm)))
            have HSS := hideP HST0.out.2
            have HST := hideP (show ∀ e', FitsBy p (P, L, r, C) e' → leE (ent E) e' → (∃ s', e' k = some s' ∧ leS s s' = true) → ∃ s', e' k = some s' ∧ leS s1 s' = true from fun e' hfit hle hto => by
              obtain ⟨s', h1, h2⟩ := hto
              obtain ⟨s2, h3, h4⟩ := hle k sm HENT.out
              rw [h1] at h3
              cases h3
              obtain ⟨j, h5, h6⟩ := xhgZ h4 h2
              rw [HJS.out] at h5
              cases h5
              exact ⟨s', h1, h6⟩)
            clear f0 f1 f2 f3 m0 k0 mk s03 sk3 skk
            go_wp2_with fail
      all_goals
        have F0 := xaaZ HI1.out.hbf 0
        have F1 := xaaZ HI1.out.hbf 1
        have F2 := xaaZ HI1.out.hbf 2
        have F3 := xaaZ HI1.out.hbf 3
        have M0 := xaaZ HI1.out.hbm 0
        have S0 := xaaZ HI1.out.hbs 0
        have K0 := xaaZ HI1.out.hbp 0
        rw [e0] at F0
        rw [e1] at F1
        rw [e2] at F2
        rw [hC3] at F3
        simp at F0 F1 F2 F3 M0 S0 K0
        rw [hlenE] at M0 S0
        obtain ⟨V, hV1, hV2, hV3, hV4⟩ := HI1.out.hRs
        obtain ⟨vk, hvk⟩ := xagZ (l := V) (k := k) (by omega)
        have sk : w1.cell? ⟨x.Rs, k, none⟩ = some vk := by rw [xaaZ hV2]; simp [hvk]
        have sz := Lib.frozen_of_heap hV2 k
        have mz := Lib.frozen_of_heap HI1.out.hRm k
        obtain ⟨bk, mk1⟩ : ∃ b, w1.cell? ⟨x.Rm, k, none⟩ = some (.bool b) := by
          rw [xaaZ HI1.out.hRm]
          simp [HEK.out]
        have HV2 := hideP hV2
        have hne2 : x.Rm ≠ x.Rs := fun e => hne e.symm
        have nbm : x.bm ≠ x.Rs := fun e => by have h := HI1.out.hbm; rw [e, hV2] at h; simp at h
        have nbs : x.bs ≠ x.Rm := fun e => by have h := HI1.out.hbs; rw [e, HI1.out.hRm] at h; simp at h
        have nbs2 : x.bs ≠ x.Rs := fun e => by have h := HI1.out.hbs; rw [e, hV2] at h; simp at h
        have nbm2 : x.bm ≠ x.Rm := fun e => by have h := HI1.out.hbm; rw [e, HI1.out.hRm] at h; simp at h
        have A1 := xbnZ (u := .slice pj s1.length cj) (a := ⟨x.Rs, k, none⟩) M0 nbm
        have A2 := xbnZ (u := .slice pj s1.length cj) (a := ⟨x.Rs, k, none⟩) mk1 hne2
        have A3 := xhyZ (u := .slice pj s1.length cj) (a := ⟨x.Rs, k, none⟩) mz hne2
        have A4 := xbnZ (u := .slice pj s1.length cj) (a := ⟨x.Rs, k, none⟩) S0 nbs2
        have B1 := xbnZ (u := .bool true) (a := ⟨x.Rm, k, none⟩) S0 nbs
        have B2 := xbnZ (u := .bool true) (a := ⟨x.Rm, k, none⟩) sk hne
        have B3 := xhyZ (u := .bool true) (a := ⟨x.Rm, k, none⟩) sz hne
        have B4 := xbnZ (u := .bool true) (a := ⟨x.Rm, k, none⟩) M0 nbm2
        clear hV1 hV2 hV3 hV4 hvk
        go_region
        obtain ⟨W2, hW2⟩ : ∃ W2, ((w1.setCell ⟨x.Rs, k, none⟩ (.slice pj s1.length cj)).setCell ⟨x.Rm, k, none⟩ (.bool true)).drew = W2 := ⟨_, rfl⟩
        have hwr2 : Wr x.Rs x.Rm w1 W2 := by
          rw [← hW2]
          exact ((Wr.of_grown (xakZ w1 ⟨x.Rs, k, none⟩ _) (.inl rfl)).trans (Wr.of_grown (xakZ _ ⟨x.Rm, k, none⟩ _) (.inr rfl))).trans ⟨rfl, rfl, rfl, Nat.le_refl _, fun _ _ _ _ => rfl⟩
        have hI2 : FI x W0 p (P, L, r, C) (E.set k (some s1)) W2 := by
          refine HI1.out.put hne hs0 hm0 hkE HV1.out HN1.out H81 HT1.out hwr2 (fun V h => ?_) (fun M h => ?_)
          · rw [← hW2]
            show ((w1.setCell ⟨x.Rs, k, none⟩ (.slice pj s1.length cj)).setCell ⟨x.Rm, k, none⟩ (.bool true)).heap[x.Rs]? = _
            rw [heap_setCell_other _ _ _ _ (by simpa using hne), heap_setCell_same w1 x.Rs k _ _ _ h]
            simp
          · rw [← hW2]
            show ((w1.setCell ⟨x.Rs, k, none⟩ (.slice pj s1.length cj)).setCell ⟨x.Rm, k, none⟩ (.bool true)).heap[x.Rm]? = _
            have h' : (w1.setCell ⟨x.Rs, k, none⟩ (.slice pj s1.length cj)).heap[x.Rm]? = some (.cells (M.map Value.bool).toArray 4 (0, 0)) := by rw [heap_setCell_other _ _ _ _ (by simpa using hne2)]; exact h
            rw [heap_setCell_same _ x.Rm k _ _ _ h', xmmZ]
        rw [hW2]
        have HV3 := hideP (HI1.out.ints HV1.out hwr2)
        have HI2 := hideP hI2
        have HW2 := hideP (HW1.out.trans hwr2)
        have hfw2 := hf.below hI2.bel
        obtain ⟨o, ho⟩ := xagZ hkC
        obtain ⟨C3p', C3c', hC3', _, hC3c⟩ := hfw2.2.2.2
        rw [hC3] at hC3'
        cases hC3'
        obtain ⟨bo, oo, hpo, hbo, go0, go1⟩ := hC3c k o ho
        subst hpo
        obtain ⟨oc, oa⟩ := o
        simp only at go0 go1
        have G0 := xaaZ hI2.hbf 0
        have G1 := xaaZ hI2.hbf 1
        have G2 := xaaZ hI2.hbf 2
        have G3 := xaaZ hI2.hbf 3
        have GK := xaaZ hI2.hbp 0
        rw [e0] at G0
        rw [e1] at G1
        rw [e2] at G2
        rw [hC3] at G3
        simp at G0 G1 G2 G3 GK
        have hmemo : (oc, oa) ∈ C := List.mem_of_getElem? ho
        have hbh : ∀ W : World, Below W2.heap.size W2 W → Calls Tryz.prog 159 #[.agg #[.int .i64 oc, .int .i64 oa], .slice pj s1.length cj, .agg #[x.pv], .agg #[.int .i64 P, .slice p1 L.length q1, .int .i64 r, .slice (some ⟨bo, oo, none⟩) C.length C3c]] W fun e w' => ∃ u, e = .returned (.tuple #[u, .bool (tryOp p (P, L, r, C) (oc, oa) s1).isSome]) ∧ (∀ out, tryOp p (P, L, r, C) (oc, oa) s1 = some out → w'.ownsRow W.heap.size 3 1 u out.length (out.map (Value.int .i64))) ∧ (∃ p n c, u = .slice p n c) ∧ Below W.heap.size W w' := by
          intro W hW
          have := behind_any oc oa p (P, L, r, C) s1 (.slice pj s1.length cj) x.pv x.c0 x.c1 x.c2 x.c3 W (hok.ops _ hmemo) H81 (HV3.out.below hW) HN1.out ((hp.below hI2.bel).below hW) ((hcp.below hp hI2.bel).below (hp.below hI2.bel) hW) (hfw2.below hW)
          rw [e0, e1, e2, hC3] at this
          exact this
        have HBH := hideP hbh
        have HO := hideP ho
        obtain ⟨pp, qp, hppv, _, _⟩ := id hp
        rw [hppv] at GK
        rw [hppv] at HBH
        clear hW2 hwr2 hI2 hfw2 hC3c ho hbh A1 A2 A3 A4 B1 B2 B3 B4 F0 F1 F2 F3 M0 S0 K0 sk sz mz mk1 HV2
        have G0' := fun o => xabZ G0 o
        have G1' := fun o => xabZ G1 o
        have G2' := fun o => xabZ G2 o
        have G3' := fun o => xabZ G3 o
        have GK' := fun o => xabZ GK o
        have go0' := fun o => xabZ go0 o
        have go1' := fun o => xabZ go1 o
        have lbf := xacZ HI2.out.hbf
        have lbp := xacZ HI2.out.hbp
        have bA : Below W2.heap.size W2 W2.drew := (Below.refl W2.heap.size W2).drew
        have bB : Below W2.heap.size W2 (W2.alloc (.cells #[.slice none 0 0] 46)).drew := ((Below.refl W2.heap.size W2).alloc (Nat.le_refl _) _).drew
        obtain ⟨tb, htb⟩ : ∃ tb, (tryOp p (P, L, r, C) (oc, oa) s1).isSome = tb := ⟨_, rfl⟩
        rw [htb] at HBH
        have HTB := hideP htb
        clear htb
        go_wp2_with fail
        go_cut [12, 13] from 50 (fun s12 s13 wx => ∃ (bl : Nat) (u : Value), s12 = .pointer (some ⟨bl, 0, none⟩) ∧ s13 = .bool tb ∧ W2.heap.size ≤ bl ∧ wx.heap[bl]? = some (.cells #[u] 46 (0, 0)) ∧ (∀ out, tryOp p (P, L, r, C) (oc, oa) s1 = some out → wx.ownsRow W2.heap.size 3 1 u out.length (out.map (Value.int .i64))) ∧ Below W2.heap.size W2 wx)
        case first =>
          try clear hp
          try clear hcp
          try clear hne
          try clear hs0
          try clear hm0
          try clear hmu
          try clear hf
          try clear hok
          try clear h40
          try clear hk
          try clear hC3m
          try clear e0
          try clear e1
          try clear e2
          try clear hlenE
          try clear HIH
          try clear hkl'
          try clear hkC
          try clear hkE
          try clear hfw
          try clear f0
          try clear f1
          try clear f2
          try clear f3
          try clear m0
          try clear s0
          try clear k0
          try clear HI
          try clear mk
          try clear h8
          try clear HT
          try clear HN
          try clear HV
          try clear HI1
          try clear HW1
          try clear HV1
          try clear HN1
          try clear H81
          try clear HT1
          try clear HLE1
          try clear HMU1
          try clear HSS
          try clear HST
          try clear hne2
          try clear nbm
          try clear nbs
          try clear nbs2
          try clear nbm2
          try clear HV3
          try clear HI2
          try clear HW2
          try clear hC3
          try clear hmemo
          try clear HO
          try clear hppv
          try clear HTB
          try clear HEK
          try clear hek
          try clear hmet
          try clear hokm
          try clear HVI
          try clear HENT
          try clear HST0
          try clear HJS
          try clear HTJ
          try clear HJ
          try clear HEQ
          try clear HNEQ
          try clear HV3a
          try clear HN3a
          try clear hvn
          try clear hb3
          try clear hb4
          try clear hb04
          try clear HLEN1
          go_region_held3 (fun W => W.cell? ⟨x.bf, 0, none⟩ = some (.int .i64 P) ∧ W.cell? ⟨x.bf, 1, none⟩ = some (.slice p1 L.length q1) ∧ W.cell? ⟨x.bf, 2, none⟩ = some (.int .i64 r) ∧ W.cell? ⟨x.bf, 3, none⟩ = some (.slice (some ⟨bo, oo, none⟩) C.length C3c) ∧ W.cell? ⟨x.bp, 0, none⟩ = some (.slice pp p.length qp) ∧ W.cell? ⟨bo, oo + k * 2, none⟩ = some (.int .i64 oc) ∧ W.cell? ⟨bo, oo + k * 2 + 1, none⟩ = some (.int .i64 oa)) (go_keep) (first
            | (go_at_call 159; with_reducible refine (HBH.out _ bA).mono ?_; rintro e w3 ⟨u, rfl, hout, ⟨pu, nu, cu, rfl⟩, hb3⟩; have hbw := bA.trans (hb3.mono bA.size); have v0 := (hbw.cell (p := ⟨x.bf, 0, none⟩) lbf).trans G0; have v1 := (hbw.cell (p := ⟨x.bf, 1, none⟩) lbf).trans G1; have v2 := (hbw.cell (p := ⟨x.bf, 2, none⟩) lbf).trans G2; have v3 := (hbw.cell (p := ⟨x.bf, 3, none⟩) lbf).trans G3; have v4 := (hbw.cell (p := ⟨x.bp, 0, none⟩) lbp).trans GK; have v5 := (hbw.cell (p := ⟨bo, oo + k * 2, none⟩) hbo).trans go0; have v6 := (hbw.cell (p := ⟨bo, oo + k * 2 + 1, none⟩) hbo).trans go1; have y0 := fun o => xabZ v0 o; have y1 := fun o => xabZ v1 o; have y2 := fun o => xabZ v2 o; have y3 := fun o => xabZ v3 o; have y4 := fun o => xabZ v4 o; have y5 := fun o => xabZ v5 o; have y6 := fun o => xabZ v6 o; have HOUT := hideP hout; clear hout)
            | (go_at_call 159; with_reducible refine (HBH.out _ bB).mono ?_; rintro e w3 ⟨u, rfl, hout, ⟨pu, nu, cu, rfl⟩, hb3⟩; have hbw := bB.trans (hb3.mono bB.size); have v0 := (hbw.cell (p := ⟨x.bf, 0, none⟩) lbf).trans G0; have v1 := (hbw.cell (p := ⟨x.bf, 1, none⟩) lbf).trans G1; have v2 := (hbw.cell (p := ⟨x.bf, 2, none⟩) lbf).trans G2; have v3 := (hbw.cell (p := ⟨x.bf, 3, none⟩) lbf).trans G3; have v4 := (hbw.cell (p := ⟨x.bp, 0, none⟩) lbp).trans GK; have v5 := (hbw.cell (p := ⟨bo, oo + k * 2, none⟩) hbo).trans go0; have v6 := (hbw.cell (p := ⟨bo, oo + k * 2 + 1, none⟩) hbo).trans go1; have qb := box_after hb3; have x0 := xbnZ (u := .slice pu nu cu) (a := ⟨W2.heap.size, 0, none⟩) v0 (Nat.ne_of_lt lbf); have x1 := xbnZ (u := .slice pu nu cu) (a := ⟨W2.heap.size, 0, none⟩) v1 (Nat.ne_of_lt lbf); have x2 := xbnZ (u := .slice pu nu cu) (a := ⟨W2.heap.size, 0, none⟩) v2 (Nat.ne_of_lt lbf); have x3 := xbnZ (u := .slice pu nu cu) (a := ⟨W2.heap.size, 0, none⟩) v3 (Nat.ne_of_lt lbf); have x4 := xbnZ (u := .slice pu nu cu) (a := ⟨W2.heap.size, 0, none⟩) v4 (Nat.ne_of_lt lbp); have x5 := xbnZ (u := .slice pu nu cu) (a := ⟨W2.heap.size, 0, none⟩) v5 (Nat.ne_of_lt hbo); have x6 := xbnZ (u := .slice pu nu cu) (a := ⟨W2.heap.size, 0, none⟩) v6 (Nat.ne_of_lt hbo); have qb0 := xaaZ qb 0; have qz0 := Lib.frozen_of_heap qb 0; have QB := hideP qb; clear qb; simp at qb0; have HOUT := hideP hout; clear hout))
          all_goals go_wp2_with fail
          · go_meet
            refine ⟨w3.heap.size, .slice pu nu cu, rfl, rfl, hbw.size, World.alloc_heap_new w3 _, fun out ho => ?_, hbw.alloc hbw.size _⟩
            exact (HOUT.out out ho).alloc _
          · go_meet
            have hgs := xakZ w3 ⟨W2.heap.size, 0, none⟩ (.slice pu nu cu)
            refine ⟨W2.heap.size, .slice pu nu cu, rfl, rfl, Nat.le_refl _, ?_, fun out ho => ?_, hbw.setCell (p := ⟨W2.heap.size, 0, none⟩) (Nat.le_refl _) _⟩
            · have := heap_setCell_same w3 W2.heap.size 0 _ _ (.slice pu nu cu) QB.out
              simpa using this
            · have hr := HOUT.out out ho
              have hne : (Value.slice pu nu cu).ownBlock ≠ some W2.heap.size := fun e => by
                have := (hr.lt _ e).1
                rw [xfnZ] at this
                simp at this
                omega
              exact xapZ (hr.kept hgs (.inr hne)) (by rw [xfnZ]; simp)
        case rest =>
          obtain ⟨bl, u, rfl, rfl, hbl, qbl, hrow, hbc⟩ := hcut
          have hIc := HI2.out.below hbc
          have HIC := hideP hIc
          have HWC := hideP (HW2.out.trans (Wr.of_below hbc))
          have c3 := (hbc.cell (p := ⟨x.bf, 3, none⟩) lbf).trans G3
          have hleE1 : ∀ e', FitsBy p (P, L, r, C) e' → leE (ent E) e' → (∃ s', e' k = some s' ∧ leS s1 s' = true) → leE (ent (E.set k (some s1))) e' := by
            intro e' hfit hle hto y sy hy
            rw [ent_set E k y s1 hkE] at hy
            by_cases e : y = k
            · subst e
              rw [if_pos rfl] at hy
              cases hy
              exact hto
            · rw [if_neg e] at hy
              exact hle y sy hy
          have hstep : ∀ e', FitsBy p (P, L, r, C) e' → leE (ent (E.set k (some s1))) e' → ∃ out, tryOp p (P, L, r, C) (oc, oa) s1 = some out ∧ ∀ to, goesOn C k to = true → ∃ s', e' to = some s' ∧ leS out s' = true := by
            intro e' hfit hle
            obtain ⟨o', out', h1, h2, h3⟩ := step_below hfit hle (pc := k) (s := s1) (by rw [ent_set E k k s1 hkE, if_pos rfl])
            have h1' : C[k]? = some o' := h1
            rw [HO.out] at h1'
            cases h1'
            exact ⟨out', h2, fun to hto => by obtain ⟨_, s', h4, h5, _⟩ := h3 to hto; exact ⟨s', h4, h5⟩⟩
          have HLE := hideP hleE1
          have HSTEP := hideP hstep
          clear hleE1 hstep
          cases tb
          · have HROW := hideP hrow
            clear hrow hIc
            go_wp2
            go_ret
            refine ⟨false, _, rfl, HIC.out, HWC.out, fun e' hfit hle hto => ?_, fun h => by cases h⟩
            obtain ⟨out, ho, _⟩ := HSTEP.out e' hfit (HLE.out e' hfit hle (HST.out e' hfit hle hto))
            have := HTB.out
            rw [ho] at this
            cases this
          · obtain ⟨out, hout⟩ := Option.isSome_iff_exists.1 HTB.out
            have hrow' := hrow out hout
            obtain ⟨tyo, leo⟩ := try_types hok hmemo HT1.out hout
            have hIu := xbaZ rfl hrow'
            have hNu := xdiZ hrow'
            obtain ⟨pu, cu, hu⟩ := xaiZ hrow'
            subst hu
            have hnx := xn7Z C k _ wc ((hf.below hIc.bel).2.2.2)
            have hne0 : xdzZ C k = 0 := by rw [xdzZ, if_neg (by simp [hok.flow]), if_neg (by omega)]
            have hnr : nextR C k = (nextL C k).map Int.ofNat := by rw [nextR, if_pos hne0]; rfl
            rw [hne0, hnr, hC3] at hnx
            have hbadC := (xbfZ hok.flow).2.2
            have hmemL : ∀ to, to ∈ nextL C k ↔ goesOn C k to = true := fun to => xijZ hbadC
            have hleL : ∀ to ∈ nextL C k, to ≤ C.length := fun to h => xfpZ hbadC ((hmemL to).1 h)
            have hLl : (nextL C k).length ≤ 41 := by
              have := List.length_filter_le (goesOn C k) (List.range (C.length + 1))
              unfold nextL
              rw [List.length_range] at this
              omega
            obtain ⟨NL, hNL⟩ : ∃ NL, nextL C k = NL := ⟨_, rfl⟩
            rw [hNL] at hnx hmemL hleL hLl
            have HNX := hideP hnx
            have HML := hideP hmemL
            have HLL := hideP hleL
            have HOUT := hideP hout
            have HIU := hideP hIu
            have HNU := hideP hNu
            have HTY := hideP tyo
            have hRs := xacZ HI2.out.hRm
            have hRs2 : x.Rs < W2.heap.size := by obtain ⟨V', _, h2, _⟩ := HI2.out.hRs; exact xacZ h2
            have HQB := hideP qbl
            clear hnx hmemL hleL hNL hout hIu hNu tyo hrow' hrow hIc hne0 hnr qbl
            go_wp2_with fail
            refine HNX.out.mono ?_
            rintro e w5 ⟨v5, rfl, r5, hb5⟩
            obtain ⟨p5, c5, hv5⟩ := xaiZ r5
            rw [List.length_map] at hv5
            subst hv5
            have hI5 := xbaZ rfl r5
            have HC5 := hideP (xjoZ x W0 p (P, L, r, C) (mu (E.set k (some s1))) (HIH.out _ (Nat.lt_of_lt_of_le HMU1.out hmu)) (E.set k (some s1)) NL bl out (.slice pu out.length cu) p5 c5 w5 (Nat.le_refl _) (HIC.out.below hb5) HLL.out ((hb5.block bl (xacZ HQB.out)).trans HQB.out) ⟨by omega, by omega⟩ (HIU.out.below hb5) HNU.out leo HTY.out hI5 hLl)
            clear r5 hI5
            go_wp2_with fail
            refine HC5.out.mono ?_
            rintro e w6 ⟨ok, rfl, hA⟩
            have HA := hideP hA
            clear hA
            go_wp2
            go_ret
            obtain ⟨E6, hI6, hw6, hs6, hd6⟩ := HA.out
            refine ⟨ok, E6, by simp, hI6, (HWC.out.trans (Wr.of_below hb5)).trans hw6, fun e' hfit hle hto => ?_, fun hok6 => ?_⟩
            · have hle1 := HLE.out e' hfit hle (HST.out e' hfit hle hto)
              obtain ⟨out', ho', hto'⟩ := HSTEP.out e' hfit hle1
              rw [HOUT.out] at ho'
              cases ho'
              exact hs6 e' hfit hle1 (fun to hm => hto' to ((HML.out to).1 hm))
            · obtain ⟨hwe, hall⟩ := hd6 hok6
              obtain ⟨h1, s', h2, h3⟩ := went_set (o := (oc, oa)) (out := out) hkE HLE1.out HO.out HOUT.out hwe (fun to hg => hall to ((HML.out to).2 hg))
              exact ⟨h1, hkC, s', h2, xcwZ HSS.out h3⟩
end Go.Proofs.YtmjjkenblfndgaaGreat


/- verify.fit. -/
namespace Go.Proofs.YtmjjkenblfndgaaGreat
open Go.RowKit
set_option linter.unusedSimpArgs false
set_option linter.unusedVariables false
theorem four_new (W : World) (a b c d : Obj) : ((((W.alloc a).alloc b).alloc c).alloc d).heap[W.heap.size]? = some a ∧ ((((W.alloc a).alloc b).alloc c).alloc d).heap[W.heap.size + 1]? = some b ∧ ((((W.alloc a).alloc b).alloc c).alloc d).heap[W.heap.size + 1 + 1]? = some c ∧ ((((W.alloc a).alloc b).alloc c).alloc d).heap[W.heap.size + 1 + 1 + 1]? = some d := by
  refine ⟨xalZ (xalZ (xalZ (World.alloc_heap_new W a) _) _) _, xalZ (xalZ (xa1Z W a b) _) _, xalZ ?_ _, ?_⟩
  · have := World.alloc_heap_new ((W.alloc a).alloc b) c
    simpa using this
  · have := World.alloc_heap_new (((W.alloc a).alloc b).alloc c) d
    simpa using this
theorem xa2Z (W : World) (a b c d : Obj) : Below W.heap.size W ((((W.alloc a).alloc b).alloc c).alloc d) :=
  ((((Below.refl _ W).alloc (Nat.le_refl _) _).alloc (by simp) _).alloc (by simp; omega) _).alloc (by simp; omega) _
theorem xahZ (W : World) (a b c d : Obj) : ((((W.alloc a).alloc b).alloc c).alloc d).drew.heap[W.heap.size]? = some a ∧ ((((W.alloc a).alloc b).alloc c).alloc d).drew.heap[W.heap.size + 1]? = some b ∧ ((((W.alloc a).alloc b).alloc c).alloc d).drew.heap[W.heap.size + 1 + 1]? = some c ∧ ((((W.alloc a).alloc b).alloc c).alloc d).drew.heap[W.heap.size + 1 + 1 + 1]? = some d := by
  rw [xfnZ]
  exact four_new W a b c d
theorem make_is (t e : TypeId) (i : TypeInfo) (z : Value) (ht : Tryz.prog.underlying t = some (.slice e)) (hi : Tryz.prog.info? e = some i) (hz : i.zero = some z) (hs : i.size = 1) (n : Nat) (hb : i.bytes * n ≤ 281474976710656) (hn : n ≤ maxLen) (A : Array Value) (hA : A.toList = (madeCells z.cells (n * 1)).toList) (W : World) :
    (Instr.makeSlice t (.int .i64 (n : Int)) (.int .i64 (n : Int))).run Tryz.prog W = .ok (.slice (some ⟨W.heap.size, 0, none⟩) n n) (W.alloc (.cells A e)) := by
  have h63' : (n : Int) ≤ 9223372036854775807 := by
    have h := hn
    simp [maxLen] at h
    omega
  have hb' : (i.bytes : Int) * (n : Int) ≤ 281474976710656 := by
    have h : ((i.bytes * n : Nat) : Int) ≤ 281474976710656 := by omega
    rwa [Int.natCast_mul] at h
  have hr := run_make (P := Tryz.prog) W t e i z ht hi hz .i64 .i64 n n (by omega) (Int.le_refl _) hb' h63'
  simp only [Int.toNat_natCast, hs] at hr
  have hA2 : A = madeCells z.cells (n * 1) := Array.ext' hA
  rw [hA2]
  exact hr
theorem xjuZ : (Tryz.prog.info? 46).map (fun i => (i.zero, i.size, i.bytes)) = some (some (.slice none 0 0), 1, 24) := by kernel_rfl
theorem xjdZ (n : Nat) : (madeCells (Value.slice none 0 0).cells (n * 1)).toList = List.replicate n (Value.slice none 0 0) := by
  have h : (Value.slice none 0 0).cells = #[.slice none 0 0] := rfl
  rw [h]
  apply List.ext_getElem?
  intro k
  by_cases hk : k < n
  · simp [madeCells, hk, Nat.mod_one]
  · simp [madeCells, hk]
theorem fit_any (p : List Fn) (f : Fn) (pv c0 c1 c2 c3 : Value) (w : World) (hp : FnsAt w pv p) (hcp : CapAt w pv) (hf : FnAt w c0 c1 c2 c3 f) (hok : OkFn p f) : Calls Tryz.prog 118 #[.agg #[pv], .agg #[c0, c1, c2, c3]] w fun e w' => ∃ (ok : Bool) (E : Ents) (Rs : Nat) (V : List Value), e = .returned (.tuple #[.slice (some ⟨Rs, 0, none⟩) E.length E.length, .bool ok]) ∧ E.length = f.2.2.2.length ∧ V.length = E.length ∧ w'.heap[Rs]? = some (.cells V.toArray 46 (0, 0)) ∧ (∀ (k : Nat) (s : List Int), E[k]? = some (some s) → s.length ≤ 8 ∧ ∃ v, V[k]? = some v ∧ IntsAt w' v s ∧ NilOk v) ∧ Least p f (if ok = true then some (ent E) else none) ∧ Below w.heap.size w w' := by
  obtain ⟨i0, hi, hz0, hz1, hz2⟩ := info_parts infoBool
  obtain ⟨i1, hj, hy0, hy1, hy2⟩ := info_parts xjuZ
  have h40 := xdlZ hok.flow
  obtain ⟨P, L, r, C⟩ := f
  obtain ⟨e0, ⟨p1, q1, e1, _, _⟩, e2, ⟨p3, q3, e3, _, _⟩⟩ := id hf
  simp only at e0 e1 e2 e3 h40
  subst e0 e1 e2 e3
  obtain ⟨pp, qp, hpv, _, _⟩ := id hp
  subst hpv
  obtain ⟨W2, hW2⟩ : ∃ W2, (w.alloc (.cells #[.slice pp p.length qp] 24)).alloc (.cells #[.int .i64 P, .slice p1 L.length q1, .int .i64 r, .slice p3 C.length q3] 119) = W2 := ⟨_, rfl⟩
  have hb2 : Below w.heap.size w W2 := by rw [← hW2]; exact ((Below.refl _ w).alloc (Nat.le_refl _) _).alloc (by simp) _
  have x0 : W2.heap[w.heap.size]? = some (.cells #[.slice pp p.length qp] 24 (0, 0)) := by rw [← hW2]; exact xalZ (World.alloc_heap_new w _) _
  have x1 : W2.heap[w.heap.size + 1]? = some (.cells #[.int .i64 P, .slice p1 L.length q1, .int .i64 r, .slice p3 C.length q3] 119 (0, 0)) := by rw [← hW2]; exact xa1Z _ _ _
  have f3 := xaaZ x1 3
  simp at f3
  have f3a := fun o => xabZ f3 o
  have f3b := fun o o' => xabZ (xabZ f3 o) o'
  have lx1 := xacZ x1
  have X0 := hideP x0
  have X1 := hideP x1
  clear x0 x1
  obtain ⟨AS, hAS⟩ : ∃ AS, (List.replicate C.length (Value.slice none 0 0)).toArray = AS := ⟨_, rfl⟩
  obtain ⟨AB, hAB⟩ : ∃ AB, ((List.replicate C.length false).map Value.bool).toArray = AB := ⟨_, rfl⟩
  have HAS := hideP hAS
  have HAB := hideP hAB
  clear hAS hAB
  go_enter Tryz.func118, Tryz.ntmps118
  go_wp2_with fail
  go_cut [6, 7] from 9 (fun s6 s7 wx => ∃ (bs bm Rs Rm : Nat), s6 = .pointer (some ⟨bs, 0, none⟩) ∧ s7 = .pointer (some ⟨bm, 0, none⟩) ∧ wx.heap[Rs]? = some (.cells AS 46 (0, 0)) ∧ wx.heap[Rm]? = some (.cells AB 4 (0, 0)) ∧ wx.heap[bs]? = some (.cells #[.slice (some ⟨Rs, 0, none⟩) C.length C.length] 45 (0, 0)) ∧ wx.heap[bm]? = some (.cells #[.slice (some ⟨Rm, 0, none⟩) C.length C.length] 148 (0, 0)) ∧ W2.heap.size ≤ Rs ∧ W2.heap.size ≤ Rm ∧ Below W2.heap.size W2 wx)
  case first =>
    clear hp hcp hf hok X0 X1 hb2
    have hml : C.length ≤ maxLen := by unfold maxLen; omega
    have mS := make_is 45 46 i1 (.slice none 0 0) Tryz.underlying45 hj hy0 hy1 C.length (by rw [hy2]; omega) hml AS (by rw [xjdZ, ← HAS.out])
    have mB := make_is 148 4 i0 (.bool false) Tryz.underlying148 hi hz0 hz1 C.length (by rw [hz2]; omega) hml AB (by rw [xksZ, ← HAB.out])
    clear HAS HAB hi hz0 hz1 hz2 hj hy0 hy1 hy2 hml
    have f3c := fun o o' o2 => xabZ (xabZ (xabZ f3 o) o') o2
    go_region
    all_goals go_wp2_with fail
    all_goals go_meet
    all_goals first
      | exact ⟨_, _, _, _, rfl, rfl, (xahZ W2 _ _ _ _).1, (xahZ W2 _ _ _ _).2.1, (xahZ W2 _ _ _ _).2.2.1, (xahZ W2 _ _ _ _).2.2.2, by omega, by omega, (xa2Z W2 _ _ _ _).drew⟩
      | exact ⟨_, _, _, _, rfl, rfl, (xahZ W2 _ _ _ _).1, (xahZ W2 _ _ _ _).2.1, (xahZ W2 _ _ _ _).2.2.2, (xahZ W2 _ _ _ _).2.2.1, by omega, by omega, (xa2Z W2 _ _ _ _).drew⟩
      | exact ⟨_, _, _, _, rfl, rfl, (xahZ W2 _ _ _ _).1, (xahZ W2 _ _ _ _).2.2.1, (xahZ W2 _ _ _ _).2.1, (xahZ W2 _ _ _ _).2.2.2, by omega, by omega, (xa2Z W2 _ _ _ _).drew⟩
      | exact ⟨_, _, _, _, rfl, rfl, (xahZ W2 _ _ _ _).1, (xahZ W2 _ _ _ _).2.2.1, (xahZ W2 _ _ _ _).2.2.2, (xahZ W2 _ _ _ _).2.1, by omega, by omega, (xa2Z W2 _ _ _ _).drew⟩
      | exact ⟨_, _, _, _, rfl, rfl, (xahZ W2 _ _ _ _).1, (xahZ W2 _ _ _ _).2.2.2, (xahZ W2 _ _ _ _).2.1, (xahZ W2 _ _ _ _).2.2.1, by omega, by omega, (xa2Z W2 _ _ _ _).drew⟩
      | exact ⟨_, _, _, _, rfl, rfl, (xahZ W2 _ _ _ _).1, (xahZ W2 _ _ _ _).2.2.2, (xahZ W2 _ _ _ _).2.2.1, (xahZ W2 _ _ _ _).2.1, by omega, by omega, (xa2Z W2 _ _ _ _).drew⟩
      | exact ⟨_, _, _, _, rfl, rfl, (xahZ W2 _ _ _ _).2.1, (xahZ W2 _ _ _ _).1, (xahZ W2 _ _ _ _).2.2.1, (xahZ W2 _ _ _ _).2.2.2, by omega, by omega, (xa2Z W2 _ _ _ _).drew⟩
      | exact ⟨_, _, _, _, rfl, rfl, (xahZ W2 _ _ _ _).2.1, (xahZ W2 _ _ _ _).1, (xahZ W2 _ _ _ _).2.2.2, (xahZ W2 _ _ _ _).2.2.1, by omega, by omega, (xa2Z W2 _ _ _ _).drew⟩
      | exact ⟨_, _, _, _, rfl, rfl, (xahZ W2 _ _ _ _).2.1, (xahZ W2 _ _ _ _).2.2.1, (xahZ W2 _ _ _ _).1, (xahZ W2 _ _ _ _).2.2.2, by omega, by omega, (xa2Z W2 _ _ _ _).drew⟩
      | exact ⟨_, _, _, _, rfl, rfl, (xahZ W2 _ _ _ _).2.1, (xahZ W2 _ _ _ _).2.2.1, (xahZ W2 _ _ _ _).2.2.2, (xahZ W2 _ _ _ _).1, by omega, by omega, (xa2Z W2 _ _ _ _).drew⟩
      | exact ⟨_, _, _, _, rfl, rfl, (xahZ W2 _ _ _ _).2.1, (xahZ W2 _ _ _ _).2.2.2, (xahZ W2 _ _ _ _).1, (xahZ W2 _ _ _ _).2.2.1, by omega, by omega, (xa2Z W2 _ _ _ _).drew⟩
      | exact ⟨_, _, _, _, rfl, rfl, (xahZ W2 _ _ _ _).2.1, (xahZ W2 _ _ _ _).2.2.2, (xahZ W2 _ _ _ _).2.2.1, (xahZ W2 _ _ _ _).1, by omega, by omega, (xa2Z W2 _ _ _ _).drew⟩
      | exact ⟨_, _, _, _, rfl, rfl, (xahZ W2 _ _ _ _).2.2.1, (xahZ W2 _ _ _ _).1, (xahZ W2 _ _ _ _).2.1, (xahZ W2 _ _ _ _).2.2.2, by omega, by omega, (xa2Z W2 _ _ _ _).drew⟩
      | exact ⟨_, _, _, _, rfl, rfl, (xahZ W2 _ _ _ _).2.2.1, (xahZ W2 _ _ _ _).1, (xahZ W2 _ _ _ _).2.2.2, (xahZ W2 _ _ _ _).2.1, by omega, by omega, (xa2Z W2 _ _ _ _).drew⟩
      | exact ⟨_, _, _, _, rfl, rfl, (xahZ W2 _ _ _ _).2.2.1, (xahZ W2 _ _ _ _).2.1, (xahZ W2 _ _ _ _).1, (xahZ W2 _ _ _ _).2.2.2, by omega, by omega, (xa2Z W2 _ _ _ _).drew⟩
      | exact ⟨_, _, _, _, rfl, rfl, (xahZ W2 _ _ _ _).2.2.1, (xahZ W2 _ _ _ _).2.1, (xahZ W2 _ _ _ _).2.2.2, (xahZ W2 _ _ _ _).1, by omega, by omega, (xa2Z W2 _ _ _ _).drew⟩
      | exact ⟨_, _, _, _, rfl, rfl, (xahZ W2 _ _ _ _).2.2.1, (xahZ W2 _ _ _ _).2.2.2, (xahZ W2 _ _ _ _).1, (xahZ W2 _ _ _ _).2.1, by omega, by omega, (xa2Z W2 _ _ _ _).drew⟩
      | exact ⟨_, _, _, _, rfl, rfl, (xahZ W2 _ _ _ _).2.2.1, (xahZ W2 _ _ _ _).2.2.2, (xahZ W2 _ _ _ _).2.1, (xahZ W2 _ _ _ _).1, by omega, by omega, (xa2Z W2 _ _ _ _).drew⟩
      | exact ⟨_, _, _, _, rfl, rfl, (xahZ W2 _ _ _ _).2.2.2, (xahZ W2 _ _ _ _).1, (xahZ W2 _ _ _ _).2.1, (xahZ W2 _ _ _ _).2.2.1, by omega, by omega, (xa2Z W2 _ _ _ _).drew⟩
      | exact ⟨_, _, _, _, rfl, rfl, (xahZ W2 _ _ _ _).2.2.2, (xahZ W2 _ _ _ _).1, (xahZ W2 _ _ _ _).2.2.1, (xahZ W2 _ _ _ _).2.1, by omega, by omega, (xa2Z W2 _ _ _ _).drew⟩
      | exact ⟨_, _, _, _, rfl, rfl, (xahZ W2 _ _ _ _).2.2.2, (xahZ W2 _ _ _ _).2.1, (xahZ W2 _ _ _ _).1, (xahZ W2 _ _ _ _).2.2.1, by omega, by omega, (xa2Z W2 _ _ _ _).drew⟩
      | exact ⟨_, _, _, _, rfl, rfl, (xahZ W2 _ _ _ _).2.2.2, (xahZ W2 _ _ _ _).2.1, (xahZ W2 _ _ _ _).2.2.1, (xahZ W2 _ _ _ _).1, by omega, by omega, (xa2Z W2 _ _ _ _).drew⟩
      | exact ⟨_, _, _, _, rfl, rfl, (xahZ W2 _ _ _ _).2.2.2, (xahZ W2 _ _ _ _).2.2.1, (xahZ W2 _ _ _ _).1, (xahZ W2 _ _ _ _).2.1, by omega, by omega, (xa2Z W2 _ _ _ _).drew⟩
      | exact ⟨_, _, _, _, rfl, rfl, (xahZ W2 _ _ _ _).2.2.2, (xahZ W2 _ _ _ _).2.2.1, (xahZ W2 _ _ _ _).2.1, (xahZ W2 _ _ _ _).1, by omega, by omega, (xa2Z W2 _ _ _ _).drew⟩
  case rest =>
    obtain ⟨bs, bm, Rs, Rm, rfl, rfl, qRs, qRm, qbs, qbm, lRs, lRm, hbc⟩ := hcut
    have hne : Rs ≠ Rm := fun e => by rw [e, qRm] at qRs; simp at qRs
    have hBw : Below w.heap.size w wc := hb2.trans (hbc.mono hb2.size)
    have qf := (hbc.block _ lx1).trans X1.out
    have qp0 := (hbc.block _ (xacZ X0.out)).trans X0.out
    obtain ⟨x, hx⟩ : ∃ x : FB, x = ⟨.slice pp p.length qp, .int .i64 P, .slice p1 L.length q1, .int .i64 r, .slice p3 C.length q3, w.heap.size + 1, bm, bs, w.heap.size, wc.heap.size, Rs, Rm⟩ := ⟨_, rfl⟩
    obtain ⟨W3, hW3⟩ : ∃ W3, wc.alloc (.cells #[.func (.func 156) #[] #[.pointer (some ⟨w.heap.size + 1, 0, none⟩), .pointer (some ⟨bm, 0, none⟩), .pointer (some ⟨bs, 0, none⟩), .pointer (some ⟨w.heap.size, 0, none⟩), .pointer (some ⟨wc.heap.size, 0, none⟩)]] 195) = W3 := ⟨_, rfl⟩
    have hI3 : FI x w p (P, L, r, C) (List.replicate C.length none) W3 := by
      subst hx
      have hb3 : Below wc.heap.size wc W3 := by rw [← hW3]; exact (Below.refl _ wc).alloc (Nat.le_refl _) _
      have old : ∀ (k : Nat) (o : Obj), wc.heap[k]? = some o → W3.heap[k]? = some o := fun k o h => (hb3.block k (xacZ h)).trans h
      refine ⟨hBw.trans (hb3.mono hBw.size), by simp, ?_, ⟨List.replicate C.length (.slice none 0 0), by simp, ?_, ?_, ?_⟩, ?_, ?_, old _ _ qf, old _ _ qp0, ?_, ?_⟩
      · have := old _ _ qRm
        rw [← HAB.out] at this
        simpa using this
      · have := old _ _ qRs
        rw [← HAS.out] at this
        exact this
      · intro v hv
        exact ⟨_, _, _, List.eq_of_mem_replicate hv⟩
      · intro k s hk
        rw [List.getElem?_replicate] at hk
        split at hk <;> cases hk
      · have := old _ _ qbm
        simpa using this
      · have := old _ _ qbs
        simpa using this
      · show W3.heap[wc.heap.size]? = _
        rw [← hW3]
        exact World.alloc_heap_new wc _
      · intro k s hk
        rw [List.getElem?_replicate] at hk
        split at hk <;> cases hk
    have hCl : C.length ≠ 0 := by
      have := (xbfZ hok.flow).2.1
      exact this
    have hcome := come_any x w p (P, L, r, C) (by rw [hx]; exact hp) (by rw [hx]; exact hcp) (by rw [hx]; exact hf) hok (by rw [hx]; exact hne) (by rw [hx]; exact Nat.le_trans hb2.size lRs) (by rw [hx]; exact Nat.le_trans hb2.size lRm) (mu (List.replicate C.length none)) (List.replicate C.length none) 0 [] (.slice none 0 0) W3.drew (Nat.le_refl _) (hI3.below ((Below.refl _ W3).drew)) (Nat.zero_le _) ⟨none, 0, rfl, by simp, fun k z hk => by simp at hk⟩ xeqZ (by simp) (fun t ht => by simp at ht)
    have c1 := xaaZ hI3.hbs 0
    have c2 := xaaZ hI3.hbc 0
    have hbs3 : x.bs = bs := by rw [hx]
    have hbc3 : x.bc = wc.heap.size := by rw [hx]
    have hRs3 : x.Rs = Rs := by rw [hx]
    have hcaps : caps x = #[.pointer (some ⟨w.heap.size + 1, 0, none⟩), .pointer (some ⟨bm, 0, none⟩), .pointer (some ⟨bs, 0, none⟩), .pointer (some ⟨w.heap.size, 0, none⟩), .pointer (some ⟨wc.heap.size, 0, none⟩)] := by rw [hx]
    rw [hbs3, hRs3] at c1
    rw [hbc3, hcaps] at c2
    rw [hcaps] at hcome
    simp at c1 c2
    have HC := hideP hcome
    have HBS := hideP hbs3
    have HBC := hideP hbc3
    have HRS := hideP hRs3
    have HCAPS := hideP hcaps
    clear hcome hx hbs3 hbc3 hRs3 hcaps hI3 qRs qRm qbs qbm qf qp0 X0 X1 HAS HAB hBw f3 f3a f3b
    go_wp2_with fail
    go_region_held3 (fun W => W.cell? ⟨bs, 0, none⟩ = some (.slice (some ⟨Rs, 0, none⟩) C.length C.length) ∧ W.cell? ⟨wc.heap.size, 0, none⟩ = some (.func (.func 156) #[] #[.pointer (some ⟨w.heap.size + 1, 0, none⟩), .pointer (some ⟨bm, 0, none⟩), .pointer (some ⟨bs, 0, none⟩), .pointer (some ⟨w.heap.size, 0, none⟩), .pointer (some ⟨wc.heap.size, 0, none⟩)])) (go_keep)
      (first
        | (go_at_call 156; refine HC.out.mono ?_; rintro e w4 ⟨ok, E4, rfl, hI4, hw4, hs4, hd4⟩; have d1 := xaaZ hI4.hbs 0; have d2 := xaaZ hI4.hbc 0; rw [HBS.out, HRS.out, hI4.len] at d1; rw [HBC.out, HCAPS.out] at d2; simp at d1 d2; have HI4 := hideP hI4; have HS4 := hideP hs4; have HD4 := hideP hd4; clear hI4 hs4 hd4))
    all_goals go_wp2
    all_goals go_ret2
    all_goals
      obtain ⟨V, v1, v2, v3, v4⟩ := HI4.out.hRs
      rw [HRS.out] at v2
      have hlen4 := HI4.out.len
      simp only at hlen4
      refine ⟨ok, E4, Rs, V, by rw [hlen4]; rfl, hlen4, v1, v2, fun k s hk => ?_, ?_, HI4.out.bel⟩
      · obtain ⟨v, a, b, c⟩ := v4 k s hk
        exact ⟨(HI4.out.ok k s hk).1, v, a, b, c⟩
      · have hnone : ∀ k, ent (List.replicate C.length (none : Option (List Int))) k = none := by
          intro k
          unfold ent
          rw [List.getElem?_replicate]
          split <;> rfl
        have hle0 : ∀ e' : Nat → Option (List Int), leE (ent (List.replicate C.length none)) e' := fun e' pc s h => by rw [hnone] at h; cases h
        cases ok
        · intro e' hfit
          have := HS4.out e' hfit (hle0 e') ⟨[], hfit.first, rfl⟩
          exact absurd this.1 (by decide)
        · obtain ⟨hwe, _, s', h1, h2⟩ := HD4.out rfl
          have hs' : s' = [] := by
            cases s' with
            | nil => rfl
            | cons _ _ => simp [leS] at h2
          subst hs'
          refine ⟨⟨h1, fun pc s hs => ?_⟩, fun e' hfit => (HS4.out e' hfit (hle0 e') ⟨[], hfit.first, rfl⟩).2⟩
          rcases hwe.done pc with h3 | h3
          · rw [hs, hnone] at h3; cases h3
          · obtain ⟨s2, o, out, a1, a2, a3, a4⟩ := h3
            rw [hs] at a1
            cases a1
            exact ⟨o, out, a2, a3, a4⟩
end Go.Proofs.YtmjjkenblfndgaaGreat


/- fresh.Blocks; block.find, Get, Set. -/
namespace Go.Proofs.YtmjjkenblfndgaaGreat
open Go.RowKit
set_option linter.unusedSimpArgs false
set_option linter.unusedVariables false
theorem set_list (q : List Value) (k : Nat) (x : Value) : q.toArray.setIfInBounds k x = (q.set k x).toArray := by
  apply Array.ext'
  simp
theorem set_mid {α : Type} (q : List α) (n : Nat) (z x : α) (hk : q.length < n) : (q ++ List.replicate (n - q.length) z).set q.length x = (q ++ [x]) ++ List.replicate (n - (q ++ [x]).length) z := by
  obtain ⟨m, hm⟩ : ∃ m, n - q.length = m + 1 := ⟨n - q.length - 1, by omega⟩
  have h2 : n - (q ++ [x]).length = m := by simp; omega
  rw [hm, h2, List.set_append_right _ _ (Nat.le_refl _), Nat.sub_self, List.replicate_succ, List.set_cons_zero, List.append_assoc]
  rfl
theorem xeyZ (L : List (List Int)) (v : Value) (w : World) (h : BlksAt w v L) (h8 : L.length ≤ 8) (h40 : ∀ b ∈ L, b.length ≤ 40) : Calls Tryz.prog 87 #[v] w fun e w' => ∃ u, e = .returned u ∧ xdwZ w' w.heap.size u L ∧ Below w.heap.size w w' := by
  obtain ⟨i1, hj, hy0, hy1, hy2⟩ := info_parts xjuZ
  obtain ⟨p, cap, hv, hm, hc⟩ := id h
  subst hv
  have H := hideP h
  have H40 := hideP h40
  clear h h40 hm hc
  go_enter Tryz.func87, Tryz.ntmps87
  go_wp2_with (at_make; refine wpList_make_full _ rfl _ _ 45 rfl w.heap.size 46 i1 (.slice none 0 0) 1 Tryz.underlying45 hj hy0 hy1 _ _ _ _ L.length rfl rfl rfl rfl (by rw [hy2]; omega) (by unfold maxLen; omega) (Nat.le_refl _) ?_; intro w1 hown1 hg1)
  rw [xjdZ] at hown1
  have hR1 := xj0Z hown1 (by simp)
  have hB1 : Below w.heap.size w w1 := (Below.refl _ w).grown hg1 (Nat.le_refl _) (fun k hk => by cases hk)
  have hlt1 := xacZ hR1
  clear hown1 hg1 hj hy0 hy1 hy2
  have HR1 := hideP hR1
  clear hR1
  go_loopw [4, 5, 11] (fun _ _ i wr => ∃ q : List Value, q.length ≤ L.length ∧ i = .int .i64 q.length ∧ wr.heap[w.heap.size]? = some (.cells (q ++ List.replicate (L.length - q.length) (Value.slice none 0 0)).toArray 46 (0, 0)) ∧ BRows wr w.heap.size q (L.take q.length) ∧ Below w.heap.size w wr) (fun _ _ i _ => L.length - (intOf i).toNat)
  case atStart => exact ⟨[], Nat.zero_le _, rfl, by simpa using HR1.out, xlvZ _ _, hB1⟩
  case round =>
    rename World => w2
    obtain ⟨q, hq, rfl, hR2, hr2, hb2⟩ := hrel
    have HR2 := hideP hR2
    have HRW := hideP hr2
    have hlt2 := xacZ hR2
    have hz : ∀ k, w2.frozen? ⟨w.heap.size, k, none⟩ = false := fun k => Lib.frozen_of_heap hR2 k
    clear hR2 hr2
    by_cases hlt : q.length < L.length
    · have hlti : (q.length : Int) < (L.length : Int) := by omega
      obtain ⟨b, hb⟩ := xagZ hlt
      have h2 := H.out.below hb2
      obtain ⟨p2, c2, he, _, hc⟩ := h2
      cases he
      obtain ⟨g, off, c, hp, hg, h0, h1, hn, _⟩ := hc _ b hb
      subst hp
      obtain ⟨p1, q1, hc1, _, _⟩ := id h1
      subst hc1
      have hbl := H40.out b (List.mem_of_getElem? hb)
      have HCL := hideP (xbmZ b _ w2 h1 hn (by omega))
      have HB := hideP hb
      clear hc hb h1 hn
      go_wp2_with fail
      refine HCL.out.mono ?_
      rintro e w3 ⟨u3, rfl, r3, hb3⟩
      obtain ⟨p3, c3, hu3⟩ := xaiZ r3
      subst hu3
      have hR3 := (hb3.block _ hlt2).trans HR2.out
      have hz3 : ∀ k, w3.frozen? ⟨w.heap.size, k, none⟩ = false := fun k => Lib.frozen_of_heap hR3 k
      have hw3 : ∀ k, k < L.length → ∃ u, w3.cell? ⟨w.heap.size, k, none⟩ = some u := fun k hk => by
        rw [xaaZ hR3]
        have : k < (q ++ List.replicate (L.length - q.length) (Value.slice none 0 0)).length := by simp; omega
        obtain ⟨u, hu⟩ := xagZ this
        exact ⟨u, by simpa using hu⟩
      obtain ⟨u9, hu9⟩ := hw3 q.length hlt
      have hz9 := hz3 q.length
      have HR3 := hideP hR3
      have HR := hideP r3
      clear hR3 r3 hz3 hw3 hz
      go_wp2
      go_roundw
      case rel =>
        have hs := heap_setCell_same w3 w.heap.size q.length _ _ (.slice p3 b.length c3) HR3.out
        rw [set_list, set_mid q L.length _ _ hlt] at hs
        have hgs := xakZ w3 ⟨w.heap.size, q.length, none⟩ (.slice p3 b.length c3)
        have hb23 := hb2.trans (hb3.mono hb2.size)
        have hrow : (w3.setCell ⟨w.heap.size, q.length, none⟩ (.slice p3 b.length c3)).ownsRow w2.heap.size 3 1 (.slice p3 b.length c3) b.length (b.map (Value.int .i64)) := HR.out.kept hgs (.inr (xboZ HR.out HR3.out (by decide)).symm)
        have hrows : BRows (w3.setCell ⟨w.heap.size, q.length, none⟩ (.slice p3 b.length c3)) w.heap.size q (L.take q.length) := (HRW.out.below hb3).same fun k x g h1 hg => by
          obtain ⟨_, hg2, cs, hg3⟩ := (HRW.out.below hb3).lt h1 hg
          exact hgs.block g hg2 (fun e => by cases e; rw [HR3.out] at hg3; simp at hg3)
        refine ⟨q ++ [.slice p3 b.length c3], by simp; omega, by rw [List.length_append, List.length_singleton]; go_num, hs, ?_, hb23.setCell (Nat.le_refl _) _⟩
        rw [List.length_append, List.length_singleton, xazZ L q.length b HB.out]
        exact hrows.snoc hrow (by have := hb2.size; omega) (fun k y g h1 hg => (HRW.out.lt h1 hg).2.1) (by omega)
      case measure => simp [intOf]; omega
    · have hlti : ¬ (q.length : Int) < (L.length : Int) := by omega
      have hql : q.length = L.length := by omega
      have HQL := hideP hql
      clear hql
      go_wp2
      go_ret
      have hr := HRW.out
      have hh := HR2.out
      rw [HQL.out, Nat.sub_self] at hh
      rw [HQL.out, List.take_of_length_le (Nat.le_refl _)] at hr
      refine ⟨_, rfl, ⟨q, ?_, hr⟩, hb2⟩
      rw [HQL.out]
      exact ⟨by rw [HQL.out]; simp, .inr ⟨w.heap.size, L.length, _, rfl, Nat.le_refl _, hh, Nat.le_refl _, by unfold maxLen; omega, by simp [HQL.out], by simp; rw [← HQL.out]; simp⟩⟩
theorem find_any (L : List (List Int)) (ref at_ : Int) (hr : -9223372036854775808 ≤ ref ∧ ref ≤ 9223372036854775807) (v : Value) (w : World) (h : BlksAt w v L) : Calls Tryz.prog 227 #[v, .int .i64 ref, .int .i64 at_] w fun e w' => e = .returned (.int .i64 (xa0Z L ref at_)) ∧ Below w.heap.size w w' := by
  obtain ⟨p, cap, hv, _, _⟩ := id h
  subst hv
  have HCK := hideP (xfuZ L _ w h)
  by_cases he : blkErr L = 0
  · have hp : xa0Z L ref at_ = if ref = 0 then 5 else if ref < 0 ∨ (L.length : Int) < ref ∨ at_ < 0 ∨ ((blkAt L ref).length : Int) ≤ at_ then 3 else 0 := by unfold xa0Z; rw [if_neg (by simpa using he)]
    rw [he] at HCK
    obtain ⟨h8, _, _⟩ := xceZ he
    rw [hp]
    clear he hp
    by_cases h0 : ref = 0
    · subst h0
      rw [if_pos rfl]
      clear h
      go_enter Tryz.func227, Tryz.ntmps227
      go_wp2_with (go_at_call 137; refine HCK.out.mono ?_; rintro e w1 ⟨rfl, hb1⟩)
      go_ret
      exact ⟨rfl, hb1⟩
    rw [if_neg h0]
    have h0' : (ref == 0) = false := by simp [h0]
    cases hro : refOk L.length ref
    · have hbad : ref < 0 ∨ (L.length : Int) < ref := by
        unfold refOk at hro
        simp at hro
        omega
      rw [if_pos (by omega)]
      clear hbad h h0
      go_enter Tryz.func227, Tryz.ntmps227
      go_wp2_with (first | (go_at_call 137; refine HCK.out.mono ?_; rintro e w1 ⟨rfl, hb1⟩) | (go_at_call 238; refine (xhcZ L ref _ _ _).mono ?_; rw [hro]; rintro e w2 ⟨rfl, hw⟩; have hw := hw.symm; subst hw))
      go_ret
      exact ⟨rfl, hb1⟩
    · have hgood : 0 ≤ ref ∧ ref ≤ (L.length : Int) := by
        unfold refOk at hro
        simpa using hro
      obtain ⟨j, hj⟩ : ∃ j : Nat, ref = (j : Int) + 1 := ⟨(ref - 1).toNat, by omega⟩
      have hjl : j < L.length := by omega
      obtain ⟨b, hb⟩ := xagZ hjl
      have hba := xdjZ hb hj
      rw [hba]
      by_cases ha : at_ < 0
      · rw [if_pos (by omega)]
        clear h h0 hj hb hba
        have hd : decide (at_ < 0) = true := by simpa using ha
        go_enter Tryz.func227, Tryz.ntmps227
        go_wp2_with (first | (go_at_call 137; refine HCK.out.mono ?_; rintro e w1 ⟨rfl, hb1⟩) | (go_at_call 238; refine (xhcZ L ref _ _ _).mono ?_; rw [hro]; rintro e w2 ⟨rfl, hw⟩; have hw := hw.symm; subst hw))
        go_ret
        exact ⟨rfl, hb1⟩
      · have hd : decide (at_ < 0) = false := by simpa using ha
        have H := hideP h
        have HB := hideP hb
        subst hj
        clear h h0 hb hba
        have hw1 : wrap64 ((j : Int) + 1 - 1) = (j : Int) := by unfold wrap64; omega
        have hw2 : (j : Int) + 1 - 1 = (j : Int) := by omega
        have hji : (j : Int) < (L.length : Int) := by omega
        by_cases hge : ((b.length : Nat) : Int) ≤ at_
        all_goals
          first
            | rw [if_pos (by omega)]
            | rw [if_neg (by omega)]
          go_enter Tryz.func227, Tryz.ntmps227
          go_wp2_with fail
          refine HCK.out.mono ?_
          rintro e w1 ⟨rfl, hb1⟩
          obtain ⟨p2, c2, hee, _, hc⟩ := H.out.below hb1
          cases hee
          obtain ⟨g, off, c, hp, hg, g0, g1, _, _⟩ := hc j b HB.out
          subst hp
          obtain ⟨p3, c3, hc3, _, _⟩ := g1
          subst hc3
          clear hc
          go_wp2_with (go_at_call 238; refine (xhcZ L _ _ _ _).mono ?_; rw [hro]; rintro e w2 ⟨rfl, hw⟩; have hw := hw.symm; subst hw)
          go_ret
          exact ⟨rfl, hb1⟩
  · have hp : xa0Z L ref at_ = blkErr L := by unfold xa0Z; rw [if_pos he]
    have he' : (blkErr L != 0) = true := by simp [he]
    rw [hp]
    clear h hp he
    go_enter Tryz.func227, Tryz.ntmps227
    go_wp2_with (go_at_call 137; refine HCK.out.mono ?_; rintro e w1 ⟨rfl, hb1⟩)
    go_ret
    exact ⟨rfl, hb1⟩
end Go.Proofs.YtmjjkenblfndgaaGreat


