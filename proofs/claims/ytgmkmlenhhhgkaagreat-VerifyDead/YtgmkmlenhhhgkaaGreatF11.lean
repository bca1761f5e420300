/- My texts Jm Jn Jo Jp Pc Jq: what of them is needed, joined. -/

import Derived.Test.YtgmkmlenhhhgkaaGreatF7
import Derived.Test.YtgmkmlenhhhgkaaGreatF10
set_option maxRecDepth 100000
set_option maxHeartbeats 8000000
/- verify.fit. -/
namespace Go.Proofs.YtgmkmlenhhhgkaaGreat
open Go.RowKit
set_option linter.unusedSimpArgs false
set_option linter.unusedVariables false
theorem four_new (W : World) (a b c d : Obj) : ((((W.alloc a).alloc b).alloc c).alloc d).heap[W.heap.size]? = some a ∧ ((((W.alloc a).alloc b).alloc c).alloc d).heap[W.heap.size + 1]? = some b ∧ ((((W.alloc a).alloc b).alloc c).alloc d).heap[W.heap.size + 1 + 1]? = some c ∧ ((((W.alloc a).alloc b).alloc c).alloc d).heap[W.heap.size + 1 + 1 + 1]? = some d := by
  refine ⟨xaeZ (xaeZ (xaeZ (World.alloc_heap_new W a) _) _) _, xaeZ (xaeZ (xa3Z W a b) _) _, xaeZ ?_ _, ?_⟩
  · have := World.alloc_heap_new ((W.alloc a).alloc b) c
    simpa using this
  · have := World.alloc_heap_new (((W.alloc a).alloc b).alloc c) d
    simpa using this
theorem xapZ (W : World) (a b c d : Obj) : Below W.heap.size W ((((W.alloc a).alloc b).alloc c).alloc d) :=
  ((((Below.refl _ W).alloc (Nat.le_refl _) _).alloc (by simp) _).alloc (by simp; omega) _).alloc (by simp; omega) _
theorem xadZ (W : World) (a b c d : Obj) : ((((W.alloc a).alloc b).alloc c).alloc d).drew.heap[W.heap.size]? = some a ∧ ((((W.alloc a).alloc b).alloc c).alloc d).drew.heap[W.heap.size + 1]? = some b ∧ ((((W.alloc a).alloc b).alloc c).alloc d).drew.heap[W.heap.size + 1 + 1]? = some c ∧ ((((W.alloc a).alloc b).alloc c).alloc d).drew.heap[W.heap.size + 1 + 1 + 1]? = some d := by
  rw [xc6Z]
  exact four_new W a b c d
theorem make_is (t e : TypeId) (i : TypeInfo) (z : Value) (ht : Tryz.prog.underlying t = some (.slice e)) (hi : Tryz.prog.info? e = some i) (hz : i.zero = some z) (hs : i.size = 1) (n : Nat) (hb : i.bytes * n ≤ 281474976710656) (hn : n ≤ maxLen) (A : Array Value) (hA : A.toList = (madeCells z.cells (n * 1)).toList) (W : World) :
    (Instr.makeSlice t (.int .i64 (n : Int)) (.int .i64 (n : Int))).run Tryz.prog W = .ok (.slice (some ⟨W.heap.size, 0, none⟩) n n) (W.alloc (.cells A e)) := by
  have h63' : (n : Int) ≤ 9223372036854775807 := by
    have h := hn
    simp [maxLen] at h
    omega
  have hb' : (i.bytes : Int) * (n : Int) ≤ 281474976710656 := by
    have h : ((i.bytes * n : Nat) : Int) ≤ 281474976710656 := by omega
    rwa [Int.natCast_mul] at h
  have hr := run_make (P := Tryz.prog) W t e i z ht hi hz .i64 .i64 n n (by omega) (Int.le_refl _) hb' h63'
  simp only [Int.toNat_natCast, hs] at hr
  have hA2 : A = madeCells z.cells (n * 1) := Array.ext' hA
  rw [hA2]
  exact hr
theorem infoInts : (Tryz.prog.info? 25).map (fun i => (i.zero, i.size, i.bytes)) = some (some (.slice none 0 0), 1, 24) := by kernel_rfl
theorem xjaZ (n : Nat) : (madeCells (Value.slice none 0 0).cells (n * 1)).toList = List.replicate n (Value.slice none 0 0) := by
  have h : (Value.slice none 0 0).cells = #[.slice none 0 0] := rfl
  rw [h]
  apply List.ext_getElem?
  intro k
  by_cases hk : k < n
  · simp [madeCells, hk, Nat.mod_one]
  · simp [madeCells, hk]
theorem fit_any (p : List Fn) (f : Fn) (pv c0 c1 c2 c3 : Value) (w : World) (hp : FnsAt w pv p) (hcp : CapAt w pv) (hf : FnAt w c0 c1 c2 c3 f) (hok : OkFn p f) : Calls Tryz.prog 30 #[.agg #[pv], .agg #[c0, c1, c2, c3]] w fun e w' => ∃ (ok : Bool) (E : Ents) (Rs : Nat) (V : List Value), e = .returned (.tuple #[.slice (some ⟨Rs, 0, none⟩) E.length E.length, .bool ok]) ∧ E.length = f.2.2.2.length ∧ V.length = E.length ∧ w'.heap[Rs]? = some (.cells V.toArray 25 (0, 0)) ∧ (∀ (k : Nat) (s : List Int), E[k]? = some (some s) → s.length ≤ 8 ∧ ∃ v, V[k]? = some v ∧ IntsAt w' v s ∧ NilOk v) ∧ Least p f (if ok = true then some (ent E) else none) ∧ Below w.heap.size w w' := by
  obtain ⟨i0, hi, hz0, hz1, hz2⟩ := info_parts infoBool
  obtain ⟨i1, hj, hy0, hy1, hy2⟩ := info_parts infoInts
  have h40 := xb7Z hok.flow
  obtain ⟨P, L, r, C⟩ := f
  obtain ⟨e0, ⟨p1, q1, e1, _, _⟩, e2, ⟨p3, q3, e3, _, _⟩⟩ := id hf
  simp only at e0 e1 e2 e3 h40
  subst e0 e1 e2 e3
  obtain ⟨pp, qp, hpv, _, _⟩ := id hp
  subst hpv
  obtain ⟨W2, hW2⟩ : ∃ W2, (w.alloc (.cells #[.slice pp p.length qp] 24)).alloc (.cells #[.int .i64 P, .slice p1 L.length q1, .int .i64 r, .slice p3 C.length q3] 28) = W2 := ⟨_, rfl⟩
  have hb2 : Below w.heap.size w W2 := by rw [← hW2]; exact ((Below.refl _ w).alloc (Nat.le_refl _) _).alloc (by simp) _
  have x0 : W2.heap[w.heap.size]? = some (.cells #[.slice pp p.length qp] 24 (0, 0)) := by rw [← hW2]; exact xaeZ (World.alloc_heap_new w _) _
  have x1 : W2.heap[w.heap.size + 1]? = some (.cells #[.int .i64 P, .slice p1 L.length q1, .int .i64 r, .slice p3 C.length q3] 28 (0, 0)) := by rw [← hW2]; exact xa3Z _ _ _
  have f3 := xaaZ x1 3
  simp at f3
  have f3a := fun o => xacZ f3 o
  have f3b := fun o o' => xacZ (xacZ f3 o) o'
  have lx1 := xabZ x1
  have X0 := hideP x0
  have X1 := hideP x1
  clear x0 x1
  obtain ⟨AS, hAS⟩ : ∃ AS, (List.replicate C.length (Value.slice none 0 0)).toArray = AS := ⟨_, rfl⟩
  obtain ⟨AB, hAB⟩ : ∃ AB, ((List.replicate C.length false).map Value.bool).toArray = AB := ⟨_, rfl⟩
  have HAS := hideP hAS
  have HAB := hideP hAB
  clear hAS hAB
  go_enter Tryz.func30, Tryz.ntmps30
  go_wp2_with fail
  go_cut [6, 7] from 9 (fun s6 s7 wx => ∃ (bs bm Rs Rm : Nat), s6 = .pointer (some ⟨bs, 0, none⟩) ∧ s7 = .pointer (some ⟨bm, 0, none⟩) ∧ wx.heap[Rs]? = some (.cells AS 25 (0, 0)) ∧ wx.heap[Rm]? = some (.cells AB 4 (0, 0)) ∧ wx.heap[bs]? = some (.cells #[.slice (some ⟨Rs, 0, none⟩) C.length C.length] 62 (0, 0)) ∧ wx.heap[bm]? = some (.cells #[.slice (some ⟨Rm, 0, none⟩) C.length C.length] 69 (0, 0)) ∧ W2.heap.size ≤ Rs ∧ W2.heap.size ≤ Rm ∧ Below W2.heap.size W2 wx)
  case first =>
    clear hp hcp hf hok X0 X1 hb2
    have hml : C.length ≤ maxLen := by unfold maxLen; omega
    have mS := make_is 62 25 i1 (.slice none 0 0) Tryz.underlying62 hj hy0 hy1 C.length (by rw [hy2]; omega) hml AS (by rw [xjaZ, ← HAS.out])
    have mB := make_is 69 4 i0 (.bool false) Tryz.underlying69 hi hz0 hz1 C.length (by rw [hz2]; omega) hml AB (by rw [xgcZ, ← HAB.out])
    clear HAS HAB hi hz0 hz1 hz2 hj hy0 hy1 hy2 hml
    have f3c := fun o o' o2 => xacZ (xacZ (xacZ f3 o) o') o2
    go_region
    all_goals go_wp2_with fail
    all_goals go_meet
    all_goals first
      | exact ⟨_, _, _, _, rfl, rfl, (xadZ W2 _ _ _ _).1, (xadZ W2 _ _ _ _).2.1, (xadZ W2 _ _ _ _).2.2.1, (xadZ W2 _ _ _ _).2.2.2, by omega, by omega, (xapZ W2 _ _ _ _).drew⟩
      | exact ⟨_, _, _, _, rfl, rfl, (xadZ W2 _ _ _ _).1, (xadZ W2 _ _ _ _).2.1, (xadZ W2 _ _ _ _).2.2.2, (xadZ W2 _ _ _ _).2.2.1, by omega, by omega, (xapZ W2 _ _ _ _).drew⟩
      | exact ⟨_, _, _, _, rfl, rfl, (xadZ W2 _ _ _ _).1, (xadZ W2 _ _ _ _).2.2.1, (xadZ W2 _ _ _ _).2.1, (xadZ W2 _ _ _ _).2.2.2, by omega, by omega, (xapZ W2 _ _ _ _).drew⟩
      | exact ⟨_, _, _, _, rfl, rfl, (xadZ W2 _ _ _ _).1, (xadZ W2 _ _ _ _).2.2.1, (xadZ W2 _ _ _ _).2.2.2, (xadZ W2 _ _ _ _).2.1, by omega, by omega, (xapZ W2 _ _ _ _).drew⟩
      | exact ⟨_, _, _, _, rfl, rfl, (xadZ W2 _ _ _ _).1, (xadZ W2 _ _ _ _).2.2.2, (xadZ W2 _ _ _ _).2.1, (xadZ W2 _ _ _ _).2.2.1, by omega, by omega, (xapZ W2 _ _ _ _).drew⟩
      | exact ⟨_, _, _, _, rfl, rfl, (xadZ W2 _ _ _ _).1, (xadZ W2 _ _ _ _).2.2.2, (xadZ W2 _ _ _ _).2.2.1, (xadZ W2 _ _ _ _).2.1, by omega, by omega, (xapZ W2 _ _ _ _).drew⟩
      | exact ⟨_, _, _, _, rfl, rfl, (xadZ W2 _ _ _ _).2.1, (xadZ W2 _ _ _ _).1, (xadZ W2 _ _ _ _).2.2.1, (xadZ W2 _ _ _ _).2.2.2, by omega, by omega, (xapZ W2 _ _ _ _).drew⟩
      | exact ⟨_, _, _, _, rfl, rfl, (xadZ W2 _ _ _ _).2.1, (xadZ W2 _ _ _ _).1, (xadZ W2 _ _ _ _).2.2.2, (xadZ W2 _ _ _ _).2.2.1, by omega, by omega, (xapZ W2 _ _ _ _).drew⟩
      | exact ⟨_, _, _, _, rfl, rfl, (xadZ W2 _ _ _ _).2.1, (xadZ W2 _ _ _ _).2.2.1, (xadZ W2 _ _ _ _).1, (xadZ W2 _ _ _ _).2.2.2, by omega, by omega, (xapZ W2 _ _ _ _).drew⟩
      | exact ⟨_, _, _, _, rfl, rfl, (xadZ W2 _ _ _ _).2.1, (xadZ W2 _ _ _ _).2.2.1, (xadZ W2 _ _ _ _).2.2.2, (xadZ W2 _ _ _ _).1, by omega, by omega, (xapZ W2 _ _ _ _).drew⟩
      | exact ⟨_, _, _, _, rfl, rfl, (xadZ W2 _ _ _ _).2.1, (xadZ W2 _ _ _ _).2.2.2, (xadZ W2 _ _ _ _).1, (xadZ W2 _ _ _ _).2.2.1, by omega, by omega, (xapZ W2 _ _ _ _).drew⟩
      | exact ⟨_, _, _, _, rfl, rfl, (xadZ W2 _ _ _ _).2.1, (xadZ W2 _ _ _ _).2.2.2, (xadZ W2 _ _ _ _).2.2.1, (xadZ W2 _ _ _ _).1, by omega, by omega, (xapZ W2 _ _ _ _).drew⟩
      | exact ⟨_, _, _, _, rfl, rfl, (xadZ W2 _ _ _ _).2.2.1, (xadZ W2 _ _ _ _).1, (xadZ W2 _ _ _ _).2.1, (xadZ W2 _ _ _ _).2.2.2, by omega, by omega, (xapZ W2 _ _ _ _).drew⟩
      | exact ⟨_, _, _, _, rfl, rfl, (xadZ W2 _ _ _ _).2.2.1, (xadZ W2 _ _ _ _).1, (xadZ W2 _ _ _ _).2.2.2, (xadZ W2 _ _ _ _).2.1, by omega, by omega, (xapZ W2 _ _ _ _).drew⟩
      | exact ⟨_, _, _, _, rfl, rfl, (xadZ W2 _ _ _ _).2.2.1, (xadZ W2 _ _ _ _).2.1, (xadZ W2 _ _ _ _).1, (xadZ W2 _ _ _ _).2.2.2, by omega, by omega, (xapZ W2 _ _ _ _).drew⟩
      | exact ⟨_, _, _, _, rfl, rfl, (xadZ W2 _ _ _ _).2.2.1, (xadZ W2 _ _ _ _).2.1, (xadZ W2 _ _ _ _).2.2.2, (xadZ W2 _ _ _ _).1, by omega, by omega, (xapZ W2 _ _ _ _).drew⟩
      | exact ⟨_, _, _, _, rfl, rfl, (xadZ W2 _ _ _ _).2.2.1, (xadZ W2 _ _ _ _).2.2.2, (xadZ W2 _ _ _ _).1, (xadZ W2 _ _ _ _).2.1, by omega, by omega, (xapZ W2 _ _ _ _).drew⟩
      | exact ⟨_, _, _, _, rfl, rfl, (xadZ W2 _ _ _ _).2.2.1, (xadZ W2 _ _ _ _).2.2.2, (xadZ W2 _ _ _ _).2.1, (xadZ W2 _ _ _ _).1, by omega, by omega, (xapZ W2 _ _ _ _).drew⟩
      | exact ⟨_, _, _, _, rfl, rfl, (xadZ W2 _ _ _ _).2.2.2, (xadZ W2 _ _ _ _).1, (xadZ W2 _ _ _ _).2.1, (xadZ W2 _ _ _ _).2.2.1, by omega, by omega, (xapZ W2 _ _ _ _).drew⟩
      | exact ⟨_, _, _, _, rfl, rfl, (xadZ W2 _ _ _ _).2.2.2, (xadZ W2 _ _ _ _).1, (xadZ W2 _ _ _ _).2.2.1, (xadZ W2 _ _ _ _).2.1, by omega, by omega, (xapZ W2 _ _ _ _).drew⟩
      | exact ⟨_, _, _, _, rfl, rfl, (xadZ W2 _ _ _ _).2.2.2, (xadZ W2 _ _ _ _).2.1, (xadZ W2 _ _ _ _).1, (xadZ W2 _ _ _ _).2.2.1, by omega, by omega, (xapZ W2 _ _ _ _).drew⟩
      | exact ⟨_, _, _, _, rfl, rfl, (xadZ W2 _ _ _ _).2.2.2, (xadZ W2 _ _ _ _).2.1, (xadZ W2 _ _ _ _).2.2.1, (xadZ W2 _ _ _ _).1, by omega, by omega, (xapZ W2 _ _ _ _).drew⟩
      | exact ⟨_, _, _, _, rfl, rfl, (xadZ W2 _ _ _ _).2.2.2, (xadZ W2 _ _ _ _).2.2.1, (xadZ W2 _ _ _ _).1, (xadZ W2 _ _ _ _).2.1, by omega, by omega, (xapZ W2 _ _ _ _).drew⟩
      | exact ⟨_, _, _, _, rfl, rfl, (xadZ W2 _ _ _ _).2.2.2, (xadZ W2 _ _ _ _).2.2.1, (xadZ W2 _ _ _ _).2.1, (xadZ W2 _ _ _ _).1, by omega, by omega, (xapZ W2 _ _ _ _).drew⟩
  case rest =>
    obtain ⟨bs, bm, Rs, Rm, rfl, rfl, qRs, qRm, qbs, qbm, lRs, lRm, hbc⟩ := hcut
    have hne : Rs ≠ Rm := fun e => by rw [e, qRm] at qRs; simp at qRs
    have hBw : Below w.heap.size w wc := hb2.trans (hbc.mono hb2.size)
    have qf := (hbc.block _ lx1).trans X1.out
    have qp0 := (hbc.block _ (xabZ X0.out)).trans X0.out
    obtain ⟨x, hx⟩ : ∃ x : FB, x = ⟨.slice pp p.length qp, .int .i64 P, .slice p1 L.length q1, .int .i64 r, .slice p3 C.length q3, w.heap.size + 1, bm, bs, w.heap.size, wc.heap.size, Rs, Rm⟩ := ⟨_, rfl⟩
    obtain ⟨W3, hW3⟩ : ∃ W3, wc.alloc (.cells #[.func (.func 60) #[] #[.pointer (some ⟨w.heap.size + 1, 0, none⟩), .pointer (some ⟨bm, 0, none⟩), .pointer (some ⟨bs, 0, none⟩), .pointer (some ⟨w.heap.size, 0, none⟩), .pointer (some ⟨wc.heap.size, 0, none⟩)]] 96) = W3 := ⟨_, rfl⟩
    have hI3 : FI x w p (P, L, r, C) (List.replicate C.length none) W3 := by
      subst hx
      have hb3 : Below wc.heap.size wc W3 := by rw [← hW3]; exact (Below.refl _ wc).alloc (Nat.le_refl _) _
      have old : ∀ (k : Nat) (o : Obj), wc.heap[k]? = some o → W3.heap[k]? = some o := fun k o h => (hb3.block k (xabZ h)).trans h
      refine ⟨hBw.trans (hb3.mono hBw.size), by simp, ?_, ⟨List.replicate C.length (.slice none 0 0), by simp, ?_, ?_, ?_⟩, ?_, ?_, old _ _ qf, old _ _ qp0, ?_, ?_⟩
      · have := old _ _ qRm
        rw [← HAB.out] at this
        simpa using this
      · have := old _ _ qRs
        rw [← HAS.out] at this
        exact this
      · intro v hv
        exact ⟨_, _, _, List.eq_of_mem_replicate hv⟩
      · intro k s hk
        rw [List.getElem?_replicate] at hk
        split at hk <;> cases hk
      · have := old _ _ qbm
        simpa using this
      · have := old _ _ qbs
        simpa using this
      · show W3.heap[wc.heap.size]? = _
        rw [← hW3]
        exact World.alloc_heap_new wc _
      · intro k s hk
        rw [List.getElem?_replicate] at hk
        split at hk <;> cases hk
    have hCl : C.length ≠ 0 := by
      have := (xa4Z hok.flow).2.1
      exact this
    have hcome := come_any x w p (P, L, r, C) (by rw [hx]; exact hp) (by rw [hx]; exact hcp) (by rw [hx]; exact hf) hok (by rw [hx]; exact hne) (by rw [hx]; exact Nat.le_trans hb2.size lRs) (by rw [hx]; exact Nat.le_trans hb2.size lRm) (mu (List.replicate C.length none)) (List.replicate C.length none) 0 [] (.slice none 0 0) W3.drew (Nat.le_refl _) (hI3.below ((Below.refl _ W3).drew)) (Nat.zero_le _) ⟨none, 0, rfl, by simp, fun k z hk => by simp at hk⟩ xduZ (by simp) (fun t ht => by simp at ht)
    have c1 := xaaZ hI3.hbs 0
    have c2 := xaaZ hI3.hbc 0
    have hbs3 : x.bs = bs := by rw [hx]
    have hbc3 : x.bc = wc.heap.size := by rw [hx]
    have hRs3 : x.Rs = Rs := by rw [hx]
    have hcaps : caps x = #[.pointer (some ⟨w.heap.size + 1, 0, none⟩), .pointer (some ⟨bm, 0, none⟩), .pointer (some ⟨bs, 0, none⟩), .pointer (some ⟨w.heap.size, 0, none⟩), .pointer (some ⟨wc.heap.size, 0, none⟩)] := by rw [hx]
    rw [hbs3, hRs3] at c1
    rw [hbc3, hcaps] at c2
    rw [hcaps] at hcome
    simp at c1 c2
    have HC := hideP hcome
    have HBS := hideP hbs3
    have HBC := hideP hbc3
    have HRS := hideP hRs3
    have HCAPS := hideP hcaps
    clear hcome hx hbs3 hbc3 hRs3 hcaps hI3 qRs qRm qbs qbm qf qp0 X0 X1 HAS HAB hBw f3 f3a f3b
    go_wp2_with fail
    go_region_held3 (fun W => W.cell? ⟨bs, 0, none⟩ = some (.slice (some ⟨Rs, 0, none⟩) C.length C.length) ∧ W.cell? ⟨wc.heap.size, 0, none⟩ = some (.func (.func 60) #[] #[.pointer (some ⟨w.heap.size + 1, 0, none⟩), .pointer (some ⟨bm, 0, none⟩), .pointer (some ⟨bs, 0, none⟩), .pointer (some ⟨w.heap.size, 0, none⟩), .pointer (some ⟨wc.heap.size, 0, none⟩)])) (go_keep)
      (first
        | (go_at_call 60; refine HC.out.mono ?_; rintro e w4 ⟨ok, E4, rfl, hI4, hw4, hs4, hd4⟩; have d1 := xaaZ hI4.hbs 0; have d2 := xaaZ hI4.hbc 0; rw [HBS.out, HRS.out, hI4.len] at d1; rw [HBC.out, HCAPS.out] at d2; simp at d1 d2; have HI4 := hideP hI4; have HS4 := hideP hs4; have HD4 := hideP hd4; clear hI4 hs4 hd4))
    all_goals go_wp2
    all_goals go_ret2
    all_goals
      obtain ⟨V, v1, v2, v3, v4⟩ := HI4.out.hRs
      rw [HRS.out] at v2
      have hlen4 := HI4.out.len
      simp only at hlen4
      refine ⟨ok, E4, Rs, V, by rw [hlen4]; rfl, hlen4, v1, v2, fun k s hk => ?_, ?_, HI4.out.bel⟩
      · obtain ⟨v, a, b, c⟩ := v4 k s hk
        exact ⟨(HI4.out.ok k s hk).1, v, a, b, c⟩
      · have hnone : ∀ k, ent (List.replicate C.length (none : Option (List Int))) k = none := by
          intro k
          unfold ent
          rw [List.getElem?_replicate]
          split <;> rfl
        have hle0 : ∀ e' : Nat → Option (List Int), leE (ent (List.replicate C.length none)) e' := fun e' pc s h => by rw [hnone] at h; cases h
        cases ok
        · intro e' hfit
          have := HS4.out e' hfit (hle0 e') ⟨[], hfit.first, rfl⟩
          exact absurd this.1 (by decide)
        · obtain ⟨hwe, _, s', h1, h2⟩ := HD4.out rfl
          have hs' : s' = [] := by
            cases s' with
            | nil => rfl
            | cons _ _ => simp [leS] at h2
          subst hs'
          refine ⟨⟨h1, fun pc s hs => ?_⟩, fun e' hfit => (HS4.out e' hfit (hle0 e') ⟨[], hfit.first, rfl⟩).2⟩
          rcases hwe.done pc with h3 | h3
          · rw [hs, hnone] at h3; cases h3
          · obtain ⟨s2, o, out, a1, a2, a3, a4⟩ := h3
            rw [hs] at a1
            cases a1
            exact ⟨o, out, a2, a3, a4⟩
end Go.Proofs.YtgmkmlenhhhgkaaGreat


/- verify.entries. -/
namespace Go.Proofs.YtgmkmlenhhhgkaaGreat
open Go.RowKit
set_option linter.unusedSimpArgs false
set_option linter.unusedVariables false
theorem infoEntry : (Tryz.prog.info? 55).map (fun i => (i.zero, i.size, i.bytes)) = some (some (.agg #[.int .i64 0, .slice none 0 0]), 2, 32) := by kernel_rfl
def xb1Z (q : List (Nat × Value)) : List Value := q.flatMap fun x => [.int .i64 x.1, x.2]
def EntRows (W : World) (B : Nat) (q : List (Nat × Value)) (l : List (Nat × List Int)) : Prop :=
  q.length = l.length ∧ ∀ (k : Nat) (x : Nat × Value) (y : Nat × List Int), q[k]? = some x → l[k]? = some y → x.1 = y.1 ∧ W.ownsRow B 3 1 x.2 y.2.length (y.2.map (Value.int .i64))
theorem EntRows.kept {W W' : World} {B : Nat} {q : List (Nat × Value)} {l : List (Nat × List Int)} {row : Option Nat} (h : EntRows W B q l) (hg : W.grownBy W' row) (hr : ∀ r, row = some r → ∃ cs t fz, W.heap[r]? = some (.cells cs t fz) ∧ t ≠ 3) : EntRows W' B q l := by
  refine ⟨h.1, fun k x y hx hy => ?_⟩
  obtain ⟨h1, h2⟩ := h.2 k x y hx hy
  refine ⟨h1, xayZ h2 fun j hj => hg.block j (h2.lt j hj).2 (fun e => ?_)⟩
  obtain ⟨cs, t, fz, h3, h4⟩ := hr j e.symm
  exact xa0Z h2 h3 h4 hj.symm
theorem EntRows.snoc {W : World} {B : Nat} {q : List (Nat × Value)} {l : List (Nat × List Int)} {pc : Nat} {u : Value} {s : List Int} (h : EntRows W B q l) (hu : W.ownsRow B 3 1 u s.length (s.map (Value.int .i64))) : EntRows W B (q ++ [(pc, u)]) (l ++ [(pc, s)]) := by
  refine ⟨by simp [h.1], fun k x y hx hy => ?_⟩
  by_cases hk : k < q.length
  · rw [List.getElem?_append_left hk] at hx
    rw [List.getElem?_append_left (by rw [← h.1]; exact hk)] at hy
    exact h.2 k x y hx hy
  · rw [List.getElem?_append_right (by omega)] at hx
    rw [List.getElem?_append_right (by rw [← h.1]; omega)] at hy
    have hk0 : k - q.length = 0 := by
      have := xauZ hx
      simp at this
      omega
    rw [hk0] at hx
    rw [← h.1, hk0] at hy
    simp at hx hy
    subst hx hy
    exact ⟨rfl, hu⟩
def EntsP (w : World) (l : List (Nat × List Int)) (e : Ending) (w' : World) : Prop := ∃ v q, e = .returned v ∧ w'.ownsRow w.heap.size 55 2 v q.length (xb1Z q) ∧ EntRows w' w.heap.size q l ∧ Below w.heap.size w w'
theorem xi2Z (C : List (Int × Int)) (E : Ents) (V : List Value) (Rs : Nat) (vC : Value) (w : World) (hC : OpsAt w vC C) (hfl : flowErr C = 0) (hE : E.length = C.length) (hV : V.length = E.length) (hRs : w.heap[Rs]? = some (.cells V.toArray 25 (0, 0)))
    (hall : ∀ (k : Nat) (s : List Int), E[k]? = some (some s) → s.length ≤ 8 ∧ ∃ v, V[k]? = some v ∧ IntsAt w v s ∧ NilOk v) (hre : ∀ pc, Come C pc → pc < C.length ∧ ∃ s, ent E pc = some s) :
    Calls Tryz.prog 31 #[vC, .slice (some ⟨Rs, 0, none⟩) E.length E.length] w (EntsP w ((xa9Z C).map fun pc => (pc, (ent E pc).getD []))) := by
  obtain ⟨i0, hi, hz0, hz1, hz2⟩ := info_parts infoEntry
  have h40 := xb7Z hfl
  have hR := xdfZ C vC w hC
  have hrr : xboZ C = (xa9Z C).map Int.ofNat := by rw [xboZ, if_pos hfl]
  rw [hfl, hrr] at hR
  have hlr : (xa9Z C).length ≤ 41 := by
    unfold xa9Z
    have := List.length_filter_le (fun x => @decide (Come C x) (Classical.propDecidable _)) (List.range (C.length + 1))
    rw [List.length_range] at this
    omega
  have hmem : ∀ pc, pc ∈ xa9Z C → Come C pc := fun pc h => (xgdZ (xa4Z hfl).2.2).1 h
  obtain ⟨p0, c0, hvC, _, _⟩ := id hC
  subst hvC
  have HALL := hideP hall
  have HRE := hideP hre
  have HMEM := hideP hmem
  have HR := hideP hR
  have HRS := hideP hRs
  generalize xa9Z C = R at *
  clear hall hre hmem hR hrr hRs hC hfl
  go_enter Tryz.func31, Tryz.ntmps31
  go_wp2_with fail
  refine HR.out.mono ?_
  rintro e w1 ⟨u1, rfl, r1, hb1⟩
  obtain ⟨p1, c1, hu1⟩ := xahZ r1
  rw [List.length_map] at hu1
  subst hu1
  have R1 := hideP (xaqZ rfl r1)
  clear r1
  go_wp2
  go_loopw [7, 9, 17] (fun v7 _ i wr => ∃ (k : Nat) (q : List (Nat × Value)), k ≤ R.length ∧ i = .int .i64 k ∧ wr.ownsRow w1.heap.size 55 2 v7 q.length (xb1Z q) ∧ EntRows wr w.heap.size q ((R.take k).map fun pc => (pc, (ent E pc).getD [])) ∧ Below w1.heap.size w1 wr) (fun _ _ i _ => R.length - (intOf i).toNat)
  case atStart => exact ⟨0, [], Nat.zero_le _, rfl, World.ownsRow_nil _ _ _ _, ⟨rfl, fun k x y hx => by simp at hx⟩, Below.refl _ _⟩
  case round =>
    rename World => w2
    obtain ⟨k, q, hk, rfl, hrow, hq, hb2⟩ := hrel
    obtain ⟨p7, c7, hv7⟩ := xahZ hrow
    subst hv7
    have hB2 := hb1.trans (hb2.mono hb1.size)
    have hql : q.length = k := by rw [hq.1]; simp; omega
    by_cases hlt : k < R.length
    · have hlti : (k : Int) < (R.length : Int) := by omega
      obtain ⟨pc, hpc⟩ := xagZ hlt
      obtain ⟨hpl, s, hes⟩ := HRE.out pc (HMEM.out pc (List.mem_of_getElem? hpc))
      obtain ⟨h8, v, hv1, hv2, hv3⟩ := HALL.out pc s (xfsZ hes)
      have i2 := R1.out.below hb2
      obtain ⟨pr, cr, her, _, hcr⟩ := i2
      obtain ⟨br, or_, hpr, hbr, gr⟩ := hcr k (Int.ofNat pc) (by rw [List.getElem?_map, hpc]; rfl)
      rw [List.length_map] at her
      cases her
      subst hpr
      have gr' : w2.cell? ⟨br, or_ + k, none⟩ = some (.int .i64 (pc : Int)) := gr
      have gs : w2.cell? ⟨Rs, pc, none⟩ = some v := by
        rw [hB2.cell (p := ⟨Rs, pc, none⟩) (xabZ HRS.out), xaaZ HRS.out]
        simp [hv1]
      have hpE : (pc : Int) < (E.length : Int) := by omega
      obtain ⟨ps, cs, hvs, _, _⟩ := id hv2
      subst hvs
      have HCL := hideP (xbkZ s _ w2 (hv2.below hB2) hv3 (by omega))
      have HES := hideP hes
      have HPC := hideP hpc
      have HQ := hideP hq
      have HROW := hideP hrow
      have HQL := hideP hql
      clear hcr gr hv1 hv2 hv3 hes hpc hq hrow hql
      go_wp2_with fail
      refine HCL.out.mono ?_
      rintro e w3 ⟨u3, rfl, r3, hb3⟩
      obtain ⟨p3, c3, hu3⟩ := xahZ r3
      subst hu3
      have hB3 := hB2.trans (hb3.mono hB2.size)
      have hrow3 := xayZ HROW.out (W' := w3) fun j hj => hb3.block j (HROW.out.lt j hj).2
      have hq3 : EntRows w3 w.heap.size q ((R.take k).map fun pc => (pc, (ent E pc).getD [])) := ⟨HQ.out.1, fun a x y hx hy => by
        obtain ⟨h1, h2⟩ := HQ.out.2 a x y hx hy
        exact ⟨h1, xayZ h2 fun j hj => hb3.block j (h2.lt j hj).2⟩⟩
      have hu3 := xa2Z r3 hB2.size
      have hrow4 := hrow3.alloc (.cells #[.int .i64 pc, .slice p3 s.length c3] 55)
      have HROW4 := hideP hrow4
      have HQ3 := hideP hq3
      have HU3 := hideP hu3
      have hqk : q.length ≤ 41 := by rw [HQL.out]; omega
      have hnews : ∀ (j : Nat) (u : Value), [Value.int .i64 pc, .slice p3 s.length c3][j]? = some u → (w3.alloc (.cells #[.int .i64 pc, .slice p3 s.length c3] 55)).cell? ((⟨w3.heap.size, 0, none⟩ : Addr).add j) = some u := by
        intro j u hj
        have hn := World.alloc_heap_new w3 (.cells #[.int .i64 pc, .slice p3 s.length c3] 55)
        match j, hj with
        | 0, hj => simp at hj; subst hj; exact xaaZ hn 0
        | 1, hj => simp at hj; subst hj; exact xaaZ hn 1
        | k + 2, hj => simp at hj
      have HNEWS := hideP hnews
      clear r3 hrow3 hq3 hu3 hrow4 hnews
      go_wp2_with (at_builtin; refine wpList_append_own _ rfl _ _ 32 rfl w1.heap.size 55 i0 (.agg #[.int .i64 0, .slice none 0 0]) 2 32 Tryz.underlying32 hi hz0 hz1 hz2 rfl (by decide) _ _ _ rfl HROW4.out ⟨w3.heap.size, 0, none⟩ 1 1 [.int .i64 pc, .slice p3 s.length c3] rfl rfl HNEWS.out (by intro u hu; simp at hu; rcases hu with rfl | rfl <;> rfl) (by unfold maxLen; omega) (by omega) (by have := hb3.size; have := hb2.size; simp; omega) ?_; intro v' w4 hown4 hg4 _; obtain ⟨g', cap', rfl⟩ := ownsRow_succ hown4)
      go_roundw
      case rel =>
        have hga := World.grownBy_alloc w3 (.cells #[.int .i64 pc, .slice p3 s.length c3] 55) none
        have hq4 := HQ3.out.kept hga (fun r h => by cases h)
        have hne4 : ∀ r, Value.ownBlock (.slice p7 q.length c7) = some r → ∃ cs t fz, (w3.alloc (.cells #[.int .i64 pc, .slice p3 s.length c3] 55)).heap[r]? = some (.cells cs t fz) ∧ t ≠ 3 := by
          intro r hr
          rcases HROW4.out.2 with ⟨hv, _⟩ | ⟨g, cap, cur, hv, _, hg, _⟩
          · rw [hv] at hr; cases hr
          · rw [hv] at hr; cases hr; exact ⟨_, _, _, hg, by decide⟩
        have hq5 := hq4.kept hg4 hne4
        have hu4 := (HU3.out.alloc (.cells #[.int .i64 pc, .slice p3 s.length c3] 55))
        have hu5 := xayZ hu4 (W' := w4) fun j hj => hg4.block j (hu4.lt j hj).2 (fun e => by
          obtain ⟨cs, t, fz, h3, h4⟩ := hne4 j e.symm
          exact xa0Z hu4 h3 h4 hj.symm)
        refine ⟨k + 1, q ++ [(pc, .slice p3 s.length c3)], by omega, by go_num, ?_, ?_, ?_⟩
        · have e1 : xb1Z (q ++ [(pc, .slice p3 s.length c3)]) = xb1Z q ++ [.int .i64 pc, .slice p3 s.length c3] := by simp [xb1Z]
          rw [e1, List.length_append, List.length_singleton]
          exact hown4
        · rw [xavZ R k pc HPC.out, List.map_append]
          have e2 : (List.map (fun pc => (pc, (ent E pc).getD [])) [pc]) = [(pc, s)] := by simp [HES.out]
          rw [e2]
          exact hq5.snoc hu5
        · have hbA := (hb2.trans (hb3.mono hb2.size)).alloc (Nat.le_trans hb2.size hb3.size) (.cells #[.int .i64 pc, .slice p3 s.length c3] 55)
          exact hbA.grown hg4 (by have := hb3.size; have := hb2.size; simp; omega) (fun j hj => (HROW4.out.lt j hj).1)
      case measure => simp [intOf]; omega
    · have hlti : ¬ (k : Int) < (R.length : Int) := by omega
      have HQ := hideP hq
      have HROW := hideP hrow
      clear hq hrow hql
      go_wp2
      go_ret
      have h1 := HQ.out
      rw [List.take_of_length_le (by omega)] at h1
      exact ⟨_, q, rfl, xa2Z HROW.out hb1.size, h1, hB2⟩
end Go.Proofs.YtgmkmlenhhhgkaaGreat


/- verify.Func. -/
namespace Go.Proofs.YtgmkmlenhhhgkaaGreat
open Go.RowKit
set_option linter.unusedSimpArgs false
set_option linter.unusedVariables false
def xd2Z (W : World) (B : Nat) (v : Value) (l : List (Nat × List Int)) : Prop := ∃ q, W.ownsRow B 55 2 v q.length (xb1Z q) ∧ EntRows W B q l
theorem xc0Z (W : World) (B : Nat) : xd2Z W B (.slice none 0 0) [] := ⟨[], World.ownsRow_nil _ _ _ _, rfl, fun k x y hx => by simp at hx⟩
def xdmZ (p : List Fn) (k : Int) (er : Int) (l : List (Nat × List Int)) : Prop :=
  (xakZ p ≠ 0 ∧ er = xakZ p ∧ l = []) ∨ (xakZ p = 0 ∧ (k < 0 ∨ (p.length : Int) ≤ k) ∧ er = 3 ∧ l = []) ∨
    (xakZ p = 0 ∧ ∃ (n : Nat) (f : Fn) (r : Option (Nat → Option (List Int))), k = n ∧ p[n]? = some f ∧ Least p f r ∧ ((r = none ∧ er = 4 ∧ l = []) ∨ ∃ e, r = some e ∧ er = 0 ∧ l = (xa9Z f.2.2.2).map fun pc => (pc, (e pc).getD [])))
theorem funcIs_one {p : List Fn} {k er er' : Int} {l l' : List (Nat × List Int)} (h : xdmZ p k er l) (h' : xdmZ p k er' l') : er = er' ∧ l = l' := by
  rcases h with ⟨a1, a2, a3⟩ | ⟨a1, a2, a3, a4⟩ | ⟨a1, n, f, r, rfl, a3, a4, a5⟩
  · rcases h' with ⟨b1, b2, b3⟩ | ⟨b1, _⟩ | ⟨b1, _⟩
    · exact ⟨a2.trans b2.symm, a3.trans b3.symm⟩
    · exact absurd b1 a1
    · exact absurd b1 a1
  · rcases h' with ⟨b1, _⟩ | ⟨b1, b2, b3, b4⟩ | ⟨b1, n, f, r, rfl, b3, _⟩
    · exact absurd a1 b1
    · exact ⟨a3.trans b3.symm, a4.trans b4.symm⟩
    · have := xauZ b3; omega
  · rcases h' with ⟨b1, _⟩ | ⟨b1, b2, _⟩ | ⟨b1, n', f', r', hn, b3, b4, b5⟩
    · exact absurd a1 b1
    · have := xauZ a3; omega
    · obtain rfl : n = n' := by omega
      rw [a3] at b3
      cases b3
      obtain rfl := least_one a4 b4
      rcases a5 with ⟨c1, c2, c3⟩ | ⟨e, c1, c2, c3⟩
      · rcases b5 with ⟨d1, d2, d3⟩ | ⟨e', d1, _⟩
        · exact ⟨c2.trans d2.symm, c3.trans d3.symm⟩
        · rw [c1] at d1; cases d1
      · rcases b5 with ⟨d1, _⟩ | ⟨e', d1, d2, d3⟩
        · rw [c1] at d1; cases d1
        · rw [c1] at d1
          cases d1
          exact ⟨c2.trans d2.symm, c3.trans d3.symm⟩
def FuncP (p : List Fn) (k : Int) (w : World) (e : Ending) (w' : World) : Prop := ∃ v er l, e = .returned (.tuple #[v, .int .i64 er]) ∧ xdmZ p k er l ∧ xd2Z w' w.heap.size v l ∧ Below w.heap.size w w'
theorem xdxZ (p : List Fn) (k : Int) (pv : Value) (w : World) (hp : FnsAt w pv p) (hcp : CapAt w pv) : Calls Tryz.prog 9 #[.agg #[pv], .int .i64 k] w (FuncP p k w) := by
  obtain ⟨pp, qp, hpv, hpm, _⟩ := id hp
  subst hpv
  unfold maxLen at hpm
  obtain ⟨W1, hW1⟩ : ∃ W1, w.alloc (.cells #[.slice pp p.length qp] 24) = W1 := ⟨_, rfl⟩
  have hb1 : Below w.heap.size w W1 := by rw [← hW1]; exact (Below.refl _ w).alloc (Nat.le_refl _) _
  have x1 : W1.heap[w.heap.size]? = some (.cells #[.slice pp p.length qp] 24 (0, 0)) := by rw [← hW1]; exact World.alloc_heap_new w _
  have c1 := xaaZ x1 0
  simp at c1
  have lx := xabZ x1
  have hp1 := hp.below hb1
  have HCK := hideP (xbnZ p _ W1 hp1)
  have HP := hideP hp
  have HCP := hideP hcp
  have HP1 := hideP hp1
  clear x1 hp1 hp hcp
  by_cases he : xakZ p = 0
  · rw [he] at HCK
    have HE := hideP he
    clear he
    go_enter Tryz.func9, Tryz.ntmps9
    go_wp2_with fail
    refine HCK.out.mono ?_
    rintro e w2 ⟨rfl, hb2⟩
    have c2 := (hb2.cell (p := ⟨w.heap.size, 0, none⟩) lx).trans c1
    have hB2 := hb1.trans (hb2.mono hb1.size)
    by_cases h0 : k < 0
    · go_wp2
      go_ret2
      exact ⟨_, _, [], rfl, .inr (.inl ⟨HE.out, .inl h0, rfl, rfl⟩), xc0Z _ _, hB2⟩
    by_cases h1 : k ≥ (p.length : Int)
    · go_wp2
      go_ret2
      exact ⟨_, _, [], rfl, .inr (.inl ⟨HE.out, .inr h1, rfl, rfl⟩), xc0Z _ _, hB2⟩
    obtain ⟨n, rfl⟩ : ∃ n : Nat, k = n := ⟨k.toNat, by omega⟩
    have hnp : n < p.length := by omega
    have hnpi : (n : Int) < (p.length : Int) := by omega
    obtain ⟨f, hf⟩ := xagZ hnp
    have hp2 := HP.out.below hB2
    have hcp2 := HCP.out.below HP.out hB2
    obtain ⟨p', q', hpe, _, hpc⟩ := id hp2
    cases hpe
    obtain ⟨b, off, c0, c1', c2', c3', hpp, hlt, y0, y1, y2, y3, hfn⟩ := hpc n f hf
    subst hpp
    have hok := okFn HE.out (List.mem_of_getElem? hf)
    have HFIT := hideP (fit_any p f (.slice (some ⟨b, off, none⟩) p.length qp) c0 c1' c2' c3' w2.drew (hp2.below ((Below.refl _ w2).drew)) (hcp2.below hp2 ((Below.refl _ w2).drew)) (hfn.below ((Below.refl _ w2).drew)) hok)
    obtain ⟨P, L, r, C⟩ := f
    obtain ⟨e0, ⟨p1, q1, e1, _, _⟩, e2, ⟨p3, q3, e3, _, _⟩⟩ := id hfn
    simp only at e0 e1 e2 e3
    subst e0 e1 e2 e3
    have HF := hideP hf
    have HOK := hideP hok
    have HFN := hideP hfn
    have lx2 : w.heap.size < w2.heap.size := Nat.lt_of_lt_of_le lx hb2.size
    clear hpc hp2 hcp2 hf hok hfn
    go_wp2_with fail
    go_region_held3 (fun W => W.cell? ⟨w.heap.size, 0, none⟩ = some (.slice (some ⟨b, off, none⟩) p.length qp) ∧ W.cell? ⟨b, off + n * 4, none⟩ = some (.int .i64 P) ∧ W.cell? ⟨b, off + n * 4 + 1, none⟩ = some (.slice p1 L.length q1) ∧ W.cell? ⟨b, off + n * 4 + 2, none⟩ = some (.int .i64 r) ∧ W.cell? ⟨b, off + n * 4 + 3, none⟩ = some (.slice p3 C.length q3)) (go_keep)
      (first
        | (go_at_call 30; refine HFIT.out.mono ?_; rintro e w3 ⟨ok, E, Rs, V, rfl, hE, hV, hRs, hall, hle, hb3⟩; have hbw : Below w2.heap.size w2 w3 := ((Below.refl w2.heap.size w2).drew).trans hb3; have u0 := (hbw.cell (p := ⟨w.heap.size, 0, none⟩) lx2).trans c2; have u1 := (hbw.cell (p := ⟨b, off + n * 4, none⟩) hlt).trans y0; have u2 := (hbw.cell (p := ⟨b, off + n * 4 + 1, none⟩) hlt).trans y1; have u3 := (hbw.cell (p := ⟨b, off + n * 4 + 2, none⟩) hlt).trans y2; have u4 := (hbw.cell (p := ⟨b, off + n * 4 + 3, none⟩) hlt).trans y3; have HEL := hideP hE; have HVL := hideP hV; have HRS := hideP hRs; have HALL := hideP hall; have HLE := hideP hle; clear hE hV hRs hall hle))
    all_goals
      have hB3 := hB2.trans (hbw.mono hB2.size)
      cases ok
      · go_wp2
        go_ret2
        exact ⟨_, _, [], rfl, .inr (.inr ⟨HE.out, n, _, none, rfl, HF.out, HLE.out, .inl ⟨rfl, rfl, rfl⟩⟩), xc0Z _ _, hB3⟩
      · have hfit := HLE.out.1
        have HEN := hideP (xi2Z C E V Rs (.slice p3 C.length q3) w3 ((HFN.out.below hbw).2.2.2) HOK.out.flow HEL.out HVL.out HRS.out HALL.out (fun pc hc => by
          obtain ⟨s, hs⟩ := xexZ hfit hc
          obtain ⟨o, _, ho, _⟩ := hfit.on pc s hs
          exact ⟨xauZ ho, s, hs⟩))
        clear hfit
        go_wp2_with fail
        refine HEN.out.mono ?_
        rintro e w4 ⟨v4, q4, rfl, r4, hq4, hb4⟩
        have HR4 := hideP r4
        have HQ4 := hideP hq4
        clear r4 hq4
        go_wp2
        go_ret2
        refine ⟨_, _, _, rfl, .inr (.inr ⟨HE.out, n, _, some (ent E), rfl, HF.out, HLE.out, .inr ⟨_, rfl, rfl, rfl⟩⟩), ⟨q4, xa2Z HR4.out hB3.size, HQ4.out.1, fun a x y hx hy => ?_⟩, hB3.trans (hb4.mono hB3.size)⟩
        obtain ⟨h1, h2⟩ := HQ4.out.2 a x y hx hy
        exact ⟨h1, xa2Z h2 hB3.size⟩
  · have he' : (xakZ p != 0) = true := by simp [he]
    have HE := hideP he
    clear he
    go_enter Tryz.func9, Tryz.ntmps9
    go_wp2_with fail
    refine HCK.out.mono ?_
    rintro e w2 ⟨rfl, hb2⟩
    go_wp2
    go_ret2
    exact ⟨_, _, [], rfl, .inl ⟨HE.out, rfl, rfl⟩, xc0Z _ _, hb1.trans (hb2.mono hb1.size)⟩
end Go.Proofs.YtgmkmlenhhhgkaaGreat


/- verify.Program. -/
namespace Go.Proofs.YtgmkmlenhhhgkaaGreat
open Go.RowKit
set_option linter.unusedSimpArgs false
set_option linter.unusedVariables false
def ProgIs (p : List Fn) (er : Int) : Prop :=
  (xakZ p ≠ 0 ∧ er = xakZ p) ∨ (xakZ p = 0 ∧ er = 0 ∧ ∀ f ∈ p, ∃ e, Least p f (some e)) ∨ (xakZ p = 0 ∧ er = 4 ∧ ∃ f ∈ p, Least p f none)
def ProgP (p : List Fn) (w : World) (e : Ending) (w' : World) : Prop := ∃ er, e = .returned (.int .i64 er) ∧ ProgIs p er ∧ Below w.heap.size w w'
theorem xi3Z {W : World} {B : Nat} {v : Value} {l : List (Nat × List Int)} (h : xd2Z W B v l) : ∃ q n c, v = .slice q n c := by
  obtain ⟨q, hr, _⟩ := h
  obtain ⟨a, b, hv⟩ := xahZ hr
  exact ⟨_, _, _, hv⟩
theorem xfeZ (p : List Fn) (pv : Value) (w : World) (hp : FnsAt w pv p) (hcp : CapAt w pv) : Calls Tryz.prog 20 #[.agg #[pv]] w (ProgP p w) := by
  obtain ⟨pp, qp, hpv, hpm, _⟩ := id hp
  subst hpv
  unfold maxLen at hpm
  obtain ⟨W1, hW1⟩ : ∃ W1, w.alloc (.cells #[.slice pp p.length qp] 24) = W1 := ⟨_, rfl⟩
  have hb1 : Below w.heap.size w W1 := by rw [← hW1]; exact (Below.refl _ w).alloc (Nat.le_refl _) _
  have x1 : W1.heap[w.heap.size]? = some (.cells #[.slice pp p.length qp] 24 (0, 0)) := by rw [← hW1]; exact World.alloc_heap_new w _
  have c1 := xaaZ x1 0
  simp at c1
  have lx := xabZ x1
  have hp1 := hp.below hb1
  have HCK := hideP (xbnZ p _ W1 hp1)
  have HP := hideP hp
  have HCP := hideP hcp
  clear x1 hp1 hp hcp
  by_cases he : xakZ p = 0
  · rw [he] at HCK
    have HE := hideP he
    clear he
    go_enter Tryz.func20, Tryz.ntmps20
    go_wp2_with fail
    refine HCK.out.mono ?_
    rintro e w2 ⟨rfl, hb2⟩
    have c2 := (hb2.cell (p := ⟨w.heap.size, 0, none⟩) lx).trans c1
    have hB2 := hb1.trans (hb2.mono hb1.size)
    have lx2 : w.heap.size < w2.heap.size := Nat.lt_of_lt_of_le lx hb2.size
    go_wp2
    go_loopw [4, 5, 6, 15] (fun _ _ _ i wr => ∃ k : Nat, k ≤ p.length ∧ i = .int .i64 k ∧ (∀ f ∈ p.take k, ∃ e, Least p f (some e)) ∧ Below w2.heap.size w2 wr) (fun _ _ _ i _ => p.length - (intOf i).toNat)
    case atStart => exact ⟨0, Nat.zero_le _, rfl, by simp, Below.refl _ _⟩
    case round =>
      rename World => w3
      obtain ⟨k, hk, rfl, hok, hb3⟩ := hrel
      have c3 := (hb3.cell (p := ⟨w.heap.size, 0, none⟩) lx2).trans c2
      have hB3 := hB2.trans (hb3.mono hB2.size)
      have HK := hideP hok
      clear hok
      by_cases hlt : k < p.length
      · have hlti : (k : Int) < (p.length : Int) := by omega
        obtain ⟨f, hf⟩ := xagZ hlt
        have HFU := hideP (xdxZ p (k : Int) _ w3 (HP.out.below hB3) (HCP.out.below HP.out hB3))
        have HF := hideP hf
        clear hf
        go_wp2_with fail
        refine HFU.out.mono ?_
        rintro e w4 ⟨v4, er, l4, rfl, hi4, ho4, hb4⟩
        obtain ⟨q4, n4, c4, hv4⟩ := xi3Z ho4
        subst hv4
        clear ho4
        have hcase : (er = 0 ∧ ∃ e, Least p f (some e)) ∨ (er = 4 ∧ Least p f none) := by
          rcases hi4 with ⟨a1, _⟩ | ⟨_, a2, _⟩ | ⟨_, n, f', r, a1, a2, a3, a4⟩
          · exact absurd HE.out a1
          · omega
          · obtain rfl : n = k := by omega
            rw [HF.out] at a2
            cases a2
            rcases a4 with ⟨h1, h2, _⟩ | ⟨e, h1, h2, _⟩
            · rw [h1] at a3; exact .inr ⟨h2, a3⟩
            · rw [h1] at a3; exact .inl ⟨h2, e, a3⟩
        clear hi4
        rcases hcase with ⟨rfl, hfit⟩ | ⟨rfl, hno⟩
        · have HFT := hideP hfit
          clear hfit
          go_wp2
          go_roundw
          case rel =>
            refine ⟨k + 1, by omega, by go_num, fun g hg => ?_, hb3.trans (hb4.mono hb3.size)⟩
            rw [xavZ p k f HF.out] at hg
            rcases List.mem_append.1 hg with hg | hg
            · exact HK.out g hg
            · simp at hg; subst hg; exact HFT.out
          case measure => simp [intOf]; omega
        · have HNO := hideP hno
          clear hno
          go_wp2
          go_ret
          exact ⟨4, rfl, .inr (.inr ⟨HE.out, rfl, f, List.mem_of_getElem? HF.out, HNO.out⟩), hB3.trans (hb4.mono hB3.size)⟩
      · have hlti : ¬ (k : Int) < (p.length : Int) := by omega
        go_wp2
        go_ret
        have := HK.out
        rw [List.take_of_length_le (by omega)] at this
        exact ⟨0, rfl, .inr (.inl ⟨HE.out, rfl, this⟩), hB3⟩
  · have he' : (xakZ p != 0) = true := by simp [he]
    have HE := hideP he
    clear he
    go_enter Tryz.func20, Tryz.ntmps20
    go_wp2_with fail
    refine HCK.out.mono ?_
    rintro e w2 ⟨rfl, hb2⟩
    go_wp2
    go_ret
    exact ⟨_, rfl, .inl ⟨HE.out, rfl⟩, hb1.trans (hb2.mono hb1.size)⟩
end Go.Proofs.YtgmkmlenhhhgkaaGreat


/- The programs of verifyBegun, plainly. -/
namespace Go.Proofs.YtgmkmlenhhhgkaaGreat
open Go.RowKit
set_option linter.unusedSimpArgs false
set_option linter.unusedVariables false
def fitsB (p : List Fn) (f : Fn) (E : Ents) : Bool :=
  decide (ent E 0 = some []) && decide (E.length ≤ f.2.2.2.length) && (List.range f.2.2.2.length).all fun pc => match ent E pc, f.2.2.2[pc]? with
    | some s, some o => (match tryOp p f o s with
      | some out => (List.range (f.2.2.2.length + 1)).all fun to => !goesOn f.2.2.2 pc to || (decide (to < f.2.2.2.length) && (match ent E to with | some s' => leS out s' | none => false))
      | none => false)
    | some _, none => false
    | none, _ => true
theorem xdzZ {p : List Fn} {f : Fn} {E : Ents} (hf : flowErr f.2.2.2 = 0) (h : fitsB p f E = true) : FitsBy p f (ent E) := by
  simp only [fitsB, Bool.and_eq_true, decide_eq_true_eq] at h
  obtain ⟨⟨h0, hl⟩, h1⟩ := h
  refine ⟨h0, fun pc s hs => ?_⟩
  have hlt : pc < f.2.2.2.length := Nat.lt_of_lt_of_le (xauZ (xfsZ hs)) hl
  obtain ⟨o, ho⟩ := xagZ hlt
  have h2 := List.all_eq_true.1 h1 pc (by simpa using hlt)
  rw [hs, ho] at h2
  simp only at h2
  cases ht : tryOp p f o s with
  | none => rw [ht] at h2; cases h2
  | some out =>
    rw [ht] at h2
    simp only at h2
    refine ⟨o, out, ho, ht, fun to hto => ?_⟩
    have hle := xcrZ (xa4Z hf).2.2 hto
    have h3 := List.all_eq_true.1 h2 to (by simp; omega)
    rw [hto] at h3
    simp only [Bool.not_true, Bool.false_or, Bool.and_eq_true, decide_eq_true_eq] at h3
    refine ⟨h3.1, ?_⟩
    cases he : ent E to with
    | none => rw [he] at h3; cases h3.2
    | some s' => rw [he] at h3; exact ⟨s', rfl, h3.2⟩
def xbuZ : List Fn := [(0, [], 0, loopOps)]
def badFns : List Fn := [(0, [], 0, [(2, 0), (13, 0)])]
def counterE : Ents := [some [], some [1], some [1, 1], some [1], some [1, 1], some [1], some [1, 1], some [1], some [1], some []]
theorem ct1 : xakZ xbuZ = 0 ∧ flowErr loopOps = 0 ∧ fitsB xbuZ (0, [], 0, loopOps) counterE = true := by decide +kernel
theorem bd1 : xakZ badFns = 0 ∧ tryOp badFns (0, [], 0, [(2, 0), (13, 0)]) (2, 0) [] = none := by decide +kernel
theorem sqf : ∀ f ∈ squareFns, flowErr f.2.2.2 = 0 ∧ (fitsB squareFns f [some [], some [1], some [1], some []] = true ∨ fitsB squareFns f [some [], some [1], some [1, 1], some [1]] = true) := by decide +kernel
theorem bad_prog {er : Int} (h : ProgIs badFns er) : er = 4 := by
  rcases h with ⟨a, _⟩ | ⟨_, _, h⟩ | ⟨_, h, _⟩
  · exact absurd bd1.1 a
  · obtain ⟨e, he⟩ := h _ (List.mem_singleton.2 rfl)
    obtain ⟨o, out, h1, h2, _⟩ := he.1.on 0 [] he.1.first
    have ho : o = (2, 0) := by simpa using h1.symm
    subst ho
    rw [bd1.2] at h2
    cases h2
  · exact h
theorem xjjZ {er : Int} (h : ProgIs squareFns er) : er = 0 := by
  rcases h with ⟨a, _⟩ | ⟨_, h, _⟩ | ⟨_, _, f, hf, hl⟩
  · exact absurd sq1 a
  · exact h
  · obtain ⟨h1, h2 | h2⟩ := sqf f hf
    · exact absurd (xdzZ h1 h2) (hl _)
    · exact absurd (xdzZ h1 h2) (hl _)
theorem xefZ : xa9Z loopOps = List.range 10 := by
  have c0 : Come loopOps 0 := .zero
  have c1 : Come loopOps 1 := .step c0 (by decide +kernel)
  have c2 : Come loopOps 2 := .step c1 (by decide +kernel)
  have c3 : Come loopOps 3 := .step c2 (by decide +kernel)
  have c4 : Come loopOps 4 := .step c3 (by decide +kernel)
  have c5 : Come loopOps 5 := .step c4 (by decide +kernel)
  have c6 : Come loopOps 6 := .step c5 (by decide +kernel)
  have c7 : Come loopOps 7 := .step c6 (by decide +kernel)
  have c8 : Come loopOps 8 := .step c6 (by decide +kernel)
  have c9 : Come loopOps 9 := .step c8 (by decide +kernel)
  rw [← xfaZ (code := loopOps) (fun x => decide (x < 10)) rfl ?_ ?_]
  · decide +kernel
  · intro x hx
    have : x < 10 := by simpa using hx
    match x, this with
    | 0, _ => exact c0
    | 1, _ => exact c1
    | 2, _ => exact c2
    | 3, _ => exact c3
    | 4, _ => exact c4
    | 5, _ => exact c5
    | 6, _ => exact c6
    | 7, _ => exact c7
    | 8, _ => exact c8
    | 9, _ => exact c9
  · intro pc to hp hg
    have hle := xcrZ (xa4Z ct1.2.1).2.2 hg
    have hlen : loopOps.length = 10 := rfl
    rcases Nat.lt_or_ge to 10 with h | h
    · simpa using h
    · have h10 : to = 10 := by omega
      subst h10
      have hall : ∀ pc, pc < 10 → goesOn loopOps pc 10 = false := by decide +kernel
      rw [hall pc (by simpa using hp)] at hg
      cases hg
theorem xhwZ {er : Int} {l : List (Nat × List Int)} (h : xdmZ xbuZ 0 er l) : er = 0 ∧ l.length = 10 ∧ l[3]? = some (3, [1]) := by
  have hfit := xdzZ (p := xbuZ) (f := (0, [], 0, loopOps)) ct1.2.1 ct1.2.2
  rcases h with ⟨a, _⟩ | ⟨_, a, _⟩ | ⟨_, n, f, r, hn, hf, hl, hr⟩
  · exact absurd ct1.1 a
  · simp [xbuZ] at a
  · obtain rfl : n = 0 := by omega
    have hf' : f = (0, [], 0, loopOps) := by simpa [xbuZ] using hf.symm
    subst hf'
    rcases hr with ⟨rfl, _⟩ | ⟨e, rfl, h2, h3⟩
    · exact absurd hfit (hl _)
    · refine ⟨h2, by rw [h3, List.length_map]; show (xa9Z loopOps).length = 10; rw [xefZ]; rfl, ?_⟩
      have hle := hl.2 _ hfit
      obtain ⟨s, hs⟩ := xexZ hl.1 (x := 3) (by
        have : (3 : Nat) ∈ xa9Z loopOps := by rw [xefZ]; decide
        exact (xgdZ (xa4Z ct1.2.1).2.2).1 this)
      obtain ⟨s', h4, h5⟩ := hle 3 s hs
      have h4' : s' = [1] := by
        have : ent counterE 3 = some [1] := by decide +kernel
        rw [this] at h4
        cases h4
        rfl
      subst h4'
      have hs1 : s = [1] := by
        match s, h5 with
        | [a], h5 =>
          simp [leS, xalZ] at h5
          rw [h5]
        | [], h5 => simp [leS] at h5
        | _ :: _ :: _, h5 => simp [leS] at h5
      rw [h3]
      show ((xa9Z loopOps).map fun pc => (pc, (e pc).getD []))[3]? = _
      rw [xefZ, List.getElem?_map]
      have : (List.range 10)[3]? = some 3 := by decide
      rw [this]
      simp [hs, hs1]
end Go.Proofs.YtgmkmlenhhhgkaaGreat


/- counter, square, verifyBegun. -/
namespace Go.Proofs.YtgmkmlenhhhgkaaGreat
open Go.RowKit
set_option linter.unusedSimpArgs false
set_option linter.unusedVariables false
theorem cap_of {W : World} {b n cap : Nat} {cs : Array Value} {t : TypeId} {fz : Nat × Nat} (h : W.heap[b]? = some (.cells cs t fz)) (hc : ∀ (k : Nat) (p : Option Addr) (n' c' : Nat), cs[k * 4 + 1]? = some (.slice p n' c') → n' ≤ c') : CapAt W (.slice (some ⟨b, 0, none⟩) n cap) := by
  intro b' off n1 cap1 k p' n' c' hv hk hcell
  cases hv
  rw [xaaZ h, Nat.zero_add] at hcell
  exact hc k p' n' c' hcell
theorem fns_one {W : World} {b : Nat} {cv : Value} {C : List (Int × Int)} {fz : Nat × Nat} (h : W.heap[b]? = some (.cells #[.int .i64 0, .slice none 0 0, .int .i64 0, cv] 28 fz)) (hC : OpsAt W cv C) : FnsAt W (.slice (some ⟨b, 0, none⟩) 1 1) [(0, [], 0, C)] ∧ CapAt W (.slice (some ⟨b, 0, none⟩) 1 1) := by
  refine ⟨⟨_, 1, rfl, by unfold maxLen; simp, fun k f hk => ?_⟩, cap_of h ?_⟩
  · match k, hk with
    | 0, hk =>
      simp at hk
      subst hk
      exact ⟨_, 0, _, _, _, _, rfl, xabZ h, xaaZ h 0, xaaZ h 1, xaaZ h 2, xaaZ h 3, rfl, xf6Z _, rfl, hC⟩
    | k + 1, hk => simp at hk
  · intro k p n' c' hk
    match k, hk with
    | 0, hk => simp at hk; omega
    | k + 1, hk =>
      have := xauZ (l := #[Value.int .i64 0, .slice none 0 0, .int .i64 0, cv].toList) (k := (k + 1) * 4 + 1) (o := Value.slice p n' c') (by simpa using hk)
      simp at this
      omega
theorem xi1Z (w : World) : Calls Tryz.prog 23 #[] w fun e w' => ∃ v, e = .returned (.agg #[v]) ∧ FnsAt w' v xbuZ ∧ CapAt w' v ∧ Below w.heap.size w w' := by
  obtain ⟨W0, hW0⟩ : ∃ W0, w.alloc (.cells #[.slice none 0 0] 24) = W0 := ⟨_, rfl⟩
  have hb0 : Below w.heap.size w W0 := by rw [← hW0]; exact (Below.refl _ w).alloc (Nat.le_refl _) _
  have x0 : W0.heap[w.heap.size]? = some (.cells #[.slice none 0 0] 24 (0, 0)) := by rw [← hW0]; exact World.alloc_heap_new w _
  have X0 := hideP x0
  clear x0
  go_enter Tryz.func23, Tryz.ntmps23
  go_wp2_with fail
  refine (xftZ _).mono ?_
  rintro e w1 ⟨v1, rfl, ho, hb1⟩
  obtain ⟨p1, c1, hv1, _, _⟩ := id ho
  subst hv1
  have x1 := (hb1.block _ (xabZ X0.out)).trans X0.out
  obtain ⟨W2, hW2⟩ : ∃ W2, w1.alloc (.cells #[.int .i64 0, .slice none 0 0, .int .i64 0, .slice p1 loopOps.length c1] 28) = W2 := ⟨_, rfl⟩
  have hb2 : Below w1.heap.size w1 W2 := by rw [← hW2]; exact (Below.refl _ w1).alloc (Nat.le_refl _) _
  have y2 : W2.heap[w1.heap.size]? = some (.cells #[.int .i64 0, .slice none 0 0, .int .i64 0, .slice p1 loopOps.length c1] 28 (0, 0)) := by rw [← hW2]; exact World.alloc_heap_new w1 _
  have x2 := (hb2.block _ (xabZ x1)).trans x1
  have d2 := xaaZ x2 0
  have z2 := Lib.frozen_of_heap x2 0
  simp at d2
  have HO := hideP (ho.below hb2)
  have X2 := hideP x2
  have Y2 := hideP y2
  have hne : w1.heap.size ≠ w.heap.size := by have := xabZ x1; omega
  have hgs := xbbZ W2 ⟨w.heap.size, 0, none⟩ (.slice (some ⟨w1.heap.size, 0, none⟩) 1 1)
  have x3 := heap_setCell_same W2 w.heap.size 0 _ _ (.slice (some ⟨w1.heap.size, 0, none⟩) 1 1) x2
  have d3 := xaaZ x3 0
  simp at d3
  clear x1 x2 y2 ho x3
  go_wp2
  have hops : OpsAt (W2.setCell ⟨w.heap.size, 0, none⟩ (.slice (some ⟨w1.heap.size, 0, none⟩) 1 1)) (.slice p1 loopOps.length c1) loopOps := by
    obtain ⟨p, c, he, hm, hc⟩ := HO.out
    refine ⟨p, c, he, hm, fun k o hk => ?_⟩
    obtain ⟨b, off, hp, hlt, g0, g1⟩ := hc k o hk
    have hnb : b ≠ w.heap.size := fun e => by
      subst e
      rw [xaaZ X2.out] at g0
      match h : off + k * 2, g0 with
      | 0, g0 => simp at g0
      | j + 1, g0 => simp at g0
    exact ⟨b, off, hp, Nat.lt_of_lt_of_le hlt hgs.size, hgs.cell g0 (by simpa using hnb), hgs.cell g1 (by simpa using hnb)⟩
  have hh := (hgs.block w1.heap.size (xabZ Y2.out) (by simpa using hne)).trans Y2.out
  obtain ⟨hF, hCp⟩ := fns_one hh hops
  have hbw : Below w.heap.size w W2 := hb0.trans ((hb1.trans (hb2.mono hb1.size)).mono hb0.size)
  refine bodyPost_ret (v := .agg #[.slice (some ⟨w1.heap.size, 0, none⟩) 1 1]) (by simp [results, Tryz.results23, go_sem, d3]) rfl ⟨_, rfl, hF, hCp, hbw.setCell (p := ⟨w.heap.size, 0, none⟩) (Nat.le_refl _) _⟩
theorem xjiZ (w : World) : Calls Tryz.prog 25 #[] w fun e w' => ∃ v, e = .returned (.agg #[v]) ∧ FnsAt w' v squareFns ∧ CapAt w' v ∧ Below w.heap.size w w' := by
  go_enter Tryz.func25, Tryz.ntmps25
  go_wp2
  obtain ⟨hf, hb, hh⟩ := xhaZ (w := w) (o1 := .cells #[.slice (some ⟨w.heap.size + 1 + 1 + 1 + 1, 0, none⟩) 2 2] 24) rfl rfl rfl rfl rfl
  have t0 := xaaZ hh 0
  simp only [List.getElem?_toArray, List.getElem?_cons_zero] at t0
  refine bodyPost_ret (v := .agg #[.slice (some ⟨w.heap.size + 1 + 1 + 1 + 1, 0, none⟩) 2 2]) (by simp [results, Tryz.results25, go_sem, t0]) rfl ⟨_, rfl, hf, ?_, hb⟩
  refine cap_of (cs := #[.int .i64 0, .slice none 0 0, .int .i64 0, .slice (some ⟨w.heap.size + 1, 0, none⟩) 4 4, .int .i64 1, .slice (some ⟨w.heap.size + 1 + 1, 0, none⟩) 1 1, .int .i64 1, .slice (some ⟨w.heap.size + 1 + 1 + 1, 0, none⟩) 4 4]) (t := 28) (fz := (0, 0)) ?_ ?_
  · have := World.alloc_heap_new ((((w.alloc (.cells #[.slice (some ⟨w.heap.size + 1 + 1 + 1 + 1, 0, none⟩) 2 2] 24)).alloc (.cells #[.int .i64 21, .int .i64 0, .int .i64 12, .int .i64 1, .int .i64 20, .int .i64 0, .int .i64 10, .int .i64 0] 38)).alloc (.cells #[.int .i64 1] 3)).alloc (.cells #[.int .i64 8, .int .i64 0, .int .i64 3, .int .i64 0, .int .i64 7, .int .i64 0, .int .i64 13, .int .i64 0] 38)) (.cells #[.int .i64 0, .slice none 0 0, .int .i64 0, .slice (some ⟨w.heap.size + 1, 0, none⟩) 4 4, .int .i64 1, .slice (some ⟨w.heap.size + 1 + 1, 0, none⟩) 1 1, .int .i64 1, .slice (some ⟨w.heap.size + 1 + 1 + 1, 0, none⟩) 4 4] 28)
    simpa using this
  · intro k p n' c' hk
    match k, hk with
    | 0, hk => simp at hk; omega
    | 1, hk => simp at hk; omega
    | k + 2, hk =>
      have := (Array.getElem?_eq_some_iff.1 hk).1
      simp at this
      omega
end Go.Proofs.YtgmkmlenhhhgkaaGreat


