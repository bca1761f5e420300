/- verify.fit. -/
import Derived.Test.YtenaionchlnpoabJl
namespace Go.Proofs.Ytenaionchlnpoab
open Go.RowKit
set_option linter.unusedSimpArgs false
set_option linter.unusedVariables false
theorem four_new (W : World) (a b c d : Obj) : ((((W.alloc a).alloc b).alloc c).alloc d).heap[W.heap.size]? = some a ∧ ((((W.alloc a).alloc b).alloc c).alloc d).heap[W.heap.size + 1]? = some b ∧ ((((W.alloc a).alloc b).alloc c).alloc d).heap[W.heap.size + 1 + 1]? = some c ∧ ((((W.alloc a).alloc b).alloc c).alloc d).heap[W.heap.size + 1 + 1 + 1]? = some d := by
  refine ⟨heap_old (heap_old (heap_old (World.alloc_heap_new W a) _) _) _, heap_old (heap_old (new_two W a b) _) _, heap_old ?_ _, ?_⟩
  · have := World.alloc_heap_new ((W.alloc a).alloc b) c
    simpa using this
  · have := World.alloc_heap_new (((W.alloc a).alloc b).alloc c) d
    simpa using this
theorem four_below (W : World) (a b c d : Obj) : Below W.heap.size W ((((W.alloc a).alloc b).alloc c).alloc d) :=
  ((((Below.refl _ W).alloc (Nat.le_refl _) _).alloc (by simp) _).alloc (by simp; omega) _).alloc (by simp; omega) _
theorem four_newD (W : World) (a b c d : Obj) : ((((W.alloc a).alloc b).alloc c).alloc d).drew.heap[W.heap.size]? = some a ∧ ((((W.alloc a).alloc b).alloc c).alloc d).drew.heap[W.heap.size + 1]? = some b ∧ ((((W.alloc a).alloc b).alloc c).alloc d).drew.heap[W.heap.size + 1 + 1]? = some c ∧ ((((W.alloc a).alloc b).alloc c).alloc d).drew.heap[W.heap.size + 1 + 1 + 1]? = some d := by
  rw [drew_heap]
  exact four_new W a b c d
theorem make_is (t e : TypeId) (i : TypeInfo) (z : Value) (ht : Try.prog.underlying t = some (.slice e)) (hi : Try.prog.info? e = some i) (hz : i.zero = some z) (hs : i.size = 1) (n : Nat) (hb : i.bytes * n ≤ 281474976710656) (hn : n ≤ maxLen) (A : Array Value) (hA : A.toList = (madeCells z.cells (n * 1)).toList) (W : World) :
    (Instr.makeSlice t (.int .i64 (n : Int)) (.int .i64 (n : Int))).run Try.prog W = .ok (.slice (some ⟨W.heap.size, 0, none⟩) n n) (W.alloc (.cells A e)) := by
  have h63' : (n : Int) ≤ 9223372036854775807 := by
    have h := hn
    simp [maxLen] at h
    omega
  have hb' : (i.bytes : Int) * (n : Int) ≤ 281474976710656 := by
    have h : ((i.bytes * n : Nat) : Int) ≤ 281474976710656 := by omega
    rwa [Int.natCast_mul] at h
  have hr := run_make (P := Try.prog) W t e i z ht hi hz .i64 .i64 n n (by omega) (Int.le_refl _) hb' h63'
  simp only [Int.toNat_natCast, hs] at hr
  have hA2 : A = madeCells z.cells (n * 1) := Array.ext' hA
  rw [hA2]
  exact hr
theorem infoInts : (Try.prog.info? 23).map (fun i => (i.zero, i.size, i.bytes)) = some (some (.slice none 0 0), 1, 24) := by kernel_rfl
theorem made_slices (n : Nat) : (madeCells (Value.slice none 0 0).cells (n * 1)).toList = List.replicate n (Value.slice none 0 0) := by
  have h : (Value.slice none 0 0).cells = #[.slice none 0 0] := rfl
  rw [h]
  apply List.ext_getElem?
  intro k
  by_cases hk : k < n
  · simp [madeCells, hk, Nat.mod_one]
  · simp [madeCells, hk]
set_option maxRecDepth 100000 in
set_option maxHeartbeats 4000000 in
theorem fit_any (p : List Fn) (f : Fn) (pv c0 c1 c2 c3 : Value) (w : World) (hp : FnsAt w pv p) (hcp : CapAt w pv) (hf : FnAt w c0 c1 c2 c3 f) (hok : OkFn p f) : Calls Try.prog 46 #[.agg #[pv], .agg #[c0, c1, c2, c3]] w fun e w' => ∃ (ok : Bool) (E : Ents) (Rs : Nat) (V : List Value), e = .returned (.tuple #[.slice (some ⟨Rs, 0, none⟩) E.length E.length, .bool ok]) ∧ E.length = f.2.2.2.length ∧ V.length = E.length ∧ w'.heap[Rs]? = some (.cells V.toArray 23 (0, 0)) ∧ (∀ (k : Nat) (s : List Int), E[k]? = some (some s) → s.length ≤ 8 ∧ ∃ v, V[k]? = some v ∧ IntsAt w' v s ∧ NilOk v) ∧ Least p f (if ok = true then some (ent E) else none) ∧ Below w.heap.size w w' := by
  obtain ⟨i0, hi, hz0, hz1, hz2⟩ := info_parts infoBool
  obtain ⟨i1, hj, hy0, hy1, hy2⟩ := info_parts infoInts
  have h40 := flowErr_40 hok.flow
  obtain ⟨P, L, r, C⟩ := f
  obtain ⟨e0, ⟨p1, q1, e1, _, _⟩, e2, ⟨p3, q3, e3, _, _⟩⟩ := id hf
  simp only at e0 e1 e2 e3 h40
  subst e0 e1 e2 e3
  obtain ⟨pp, qp, hpv, _, _⟩ := id hp
  subst hpv
  obtain ⟨W2, hW2⟩ : ∃ W2, (w.alloc (.cells #[.slice pp p.length qp] 56)).alloc (.cells #[.int .i64 P, .slice p1 L.length q1, .int .i64 r, .slice p3 C.length q3] 59) = W2 := ⟨_, rfl⟩
  have hb2 : Below w.heap.size w W2 := by rw [← hW2]; exact ((Below.refl _ w).alloc (Nat.le_refl _) _).alloc (by simp) _
  have x0 : W2.heap[w.heap.size]? = some (.cells #[.slice pp p.length qp] 56 (0, 0)) := by rw [← hW2]; exact heap_old (World.alloc_heap_new w _) _
  have x1 : W2.heap[w.heap.size + 1]? = some (.cells #[.int .i64 P, .slice p1 L.length q1, .int .i64 r, .slice p3 C.length q3] 59 (0, 0)) := by rw [← hW2]; exact new_two _ _ _
  have f3 := cell_at' x1 3
  simp at f3
  have f3a := fun o => cell_old f3 o
  have f3b := fun o o' => cell_old (cell_old f3 o) o'
  have lx1 := heap_lt x1
  have X0 := hideP x0
  have X1 := hideP x1
  clear x0 x1
  obtain ⟨AS, hAS⟩ : ∃ AS, (List.replicate C.length (Value.slice none 0 0)).toArray = AS := ⟨_, rfl⟩
  obtain ⟨AB, hAB⟩ : ∃ AB, ((List.replicate C.length false).map Value.bool).toArray = AB := ⟨_, rfl⟩
  have HAS := hideP hAS
  have HAB := hideP hAB
  clear hAS hAB
  go_enter Try.func46, Try.ntmps46
  go_wp2_with fail
  go_cut [6, 7] from 9 (fun s6 s7 wx => ∃ (bs bm Rs Rm : Nat), s6 = .pointer (some ⟨bs, 0, none⟩) ∧ s7 = .pointer (some ⟨bm, 0, none⟩) ∧ wx.heap[Rs]? = some (.cells AS 23 (0, 0)) ∧ wx.heap[Rm]? = some (.cells AB 4 (0, 0)) ∧ wx.heap[bs]? = some (.cells #[.slice (some ⟨Rs, 0, none⟩) C.length C.length] 72 (0, 0)) ∧ wx.heap[bm]? = some (.cells #[.slice (some ⟨Rm, 0, none⟩) C.length C.length] 44 (0, 0)) ∧ W2.heap.size ≤ Rs ∧ W2.heap.size ≤ Rm ∧ Below W2.heap.size W2 wx)
  case first =>
    clear hp hcp hf hok X0 X1 hb2
    have hml : C.length ≤ maxLen := by unfold maxLen; omega
    have mS := make_is 72 23 i1 (.slice none 0 0) Try.underlying72 hj hy0 hy1 C.length (by rw [hy2]; omega) hml AS (by rw [made_slices, ← HAS.out])
    have mB := make_is 44 4 i0 (.bool false) Try.underlying44 hi hz0 hz1 C.length (by rw [hz2]; omega) hml AB (by rw [made_bools, ← HAB.out])
    clear HAS HAB hi hz0 hz1 hz2 hj hy0 hy1 hy2 hml
    have f3c := fun o o' o2 => cell_old (cell_old (cell_old f3 o) o') o2
    go_region
    all_goals go_wp2_with fail
    all_goals go_meet
    all_goals first
      | exact ⟨_, _, _, _, rfl, rfl, (four_newD W2 _ _ _ _).1, (four_newD W2 _ _ _ _).2.1, (four_newD W2 _ _ _ _).2.2.1, (four_newD W2 _ _ _ _).2.2.2, by omega, by omega, (four_below W2 _ _ _ _).drew⟩
      | exact ⟨_, _, _, _, rfl, rfl, (four_newD W2 _ _ _ _).1, (four_newD W2 _ _ _ _).2.1, (four_newD W2 _ _ _ _).2.2.2, (four_newD W2 _ _ _ _).2.2.1, by omega, by omega, (four_below W2 _ _ _ _).drew⟩
      | exact ⟨_, _, _, _, rfl, rfl, (four_newD W2 _ _ _ _).1, (four_newD W2 _ _ _ _).2.2.1, (four_newD W2 _ _ _ _).2.1, (four_newD W2 _ _ _ _).2.2.2, by omega, by omega, (four_below W2 _ _ _ _).drew⟩
      | exact ⟨_, _, _, _, rfl, rfl, (four_newD W2 _ _ _ _).1, (four_newD W2 _ _ _ _).2.2.1, (four_newD W2 _ _ _ _).2.2.2, (four_newD W2 _ _ _ _).2.1, by omega, by omega, (four_below W2 _ _ _ _).drew⟩
      | exact ⟨_, _, _, _, rfl, rfl, (four_newD W2 _ _ _ _).1, (four_newD W2 _ _ _ _).2.2.2, (four_newD W2 _ _ _ _).2.1, (four_newD W2 _ _ _ _).2.2.1, by omega, by omega, (four_below W2 _ _ _ _).drew⟩
      | exact ⟨_, _, _, _, rfl, rfl, (four_newD W2 _ _ _ _).1, (four_newD W2 _ _ _ _).2.2.2, (four_newD W2 _ _ _ _).2.2.1, (four_newD W2 _ _ _ _).2.1, by omega, by omega, (four_below W2 _ _ _ _).drew⟩
      | exact ⟨_, _, _, _, rfl, rfl, (four_newD W2 _ _ _ _).2.1, (four_newD W2 _ _ _ _).1, (four_newD W2 _ _ _ _).2.2.1, (four_newD W2 _ _ _ _).2.2.2, by omega, by omega, (four_below W2 _ _ _ _).drew⟩
      | exact ⟨_, _, _, _, rfl, rfl, (four_newD W2 _ _ _ _).2.1, (four_newD W2 _ _ _ _).1, (four_newD W2 _ _ _ _).2.2.2, (four_newD W2 _ _ _ _).2.2.1, by omega, by omega, (four_below W2 _ _ _ _).drew⟩
      | exact ⟨_, _, _, _, rfl, rfl, (four_newD W2 _ _ _ _).2.1, (four_newD W2 _ _ _ _).2.2.1, (four_newD W2 _ _ _ _).1, (four_newD W2 _ _ _ _).2.2.2, by omega, by omega, (four_below W2 _ _ _ _).drew⟩
      | exact ⟨_, _, _, _, rfl, rfl, (four_newD W2 _ _ _ _).2.1, (four_newD W2 _ _ _ _).2.2.1, (four_newD W2 _ _ _ _).2.2.2, (four_newD W2 _ _ _ _).1, by omega, by omega, (four_below W2 _ _ _ _).drew⟩
      | exact ⟨_, _, _, _, rfl, rfl, (four_newD W2 _ _ _ _).2.1, (four_newD W2 _ _ _ _).2.2.2, (four_newD W2 _ _ _ _).1, (four_newD W2 _ _ _ _).2.2.1, by omega, by omega, (four_below W2 _ _ _ _).drew⟩
      | exact ⟨_, _, _, _, rfl, rfl, (four_newD W2 _ _ _ _).2.1, (four_newD W2 _ _ _ _).2.2.2, (four_newD W2 _ _ _ _).2.2.1, (four_newD W2 _ _ _ _).1, by omega, by omega, (four_below W2 _ _ _ _).drew⟩
      | exact ⟨_, _, _, _, rfl, rfl, (four_newD W2 _ _ _ _).2.2.1, (four_newD W2 _ _ _ _).1, (four_newD W2 _ _ _ _).2.1, (four_newD W2 _ _ _ _).2.2.2, by omega, by omega, (four_below W2 _ _ _ _).drew⟩
      | exact ⟨_, _, _, _, rfl, rfl, (four_newD W2 _ _ _ _).2.2.1, (four_newD W2 _ _ _ _).1, (four_newD W2 _ _ _ _).2.2.2, (four_newD W2 _ _ _ _).2.1, by omega, by omega, (four_below W2 _ _ _ _).drew⟩
      | exact ⟨_, _, _, _, rfl, rfl, (four_newD W2 _ _ _ _).2.2.1, (four_newD W2 _ _ _ _).2.1, (four_newD W2 _ _ _ _).1, (four_newD W2 _ _ _ _).2.2.2, by omega, by omega, (four_below W2 _ _ _ _).drew⟩
      | exact ⟨_, _, _, _, rfl, rfl, (four_newD W2 _ _ _ _).2.2.1, (four_newD W2 _ _ _ _).2.1, (four_newD W2 _ _ _ _).2.2.2, (four_newD W2 _ _ _ _).1, by omega, by omega, (four_below W2 _ _ _ _).drew⟩
      | exact ⟨_, _, _, _, rfl, rfl, (four_newD W2 _ _ _ _).2.2.1, (four_newD W2 _ _ _ _).2.2.2, (four_newD W2 _ _ _ _).1, (four_newD W2 _ _ _ _).2.1, by omega, by omega, (four_below W2 _ _ _ _).drew⟩
      | exact ⟨_, _, _, _, rfl, rfl, (four_newD W2 _ _ _ _).2.2.1, (four_newD W2 _ _ _ _).2.2.2, (four_newD W2 _ _ _ _).2.1, (four_newD W2 _ _ _ _).1, by omega, by omega, (four_below W2 _ _ _ _).drew⟩
      | exact ⟨_, _, _, _, rfl, rfl, (four_newD W2 _ _ _ _).2.2.2, (four_newD W2 _ _ _ _).1, (four_newD W2 _ _ _ _).2.1, (four_newD W2 _ _ _ _).2.2.1, by omega, by omega, (four_below W2 _ _ _ _).drew⟩
      | exact ⟨_, _, _, _, rfl, rfl, (four_newD W2 _ _ _ _).2.2.2, (four_newD W2 _ _ _ _).1, (four_newD W2 _ _ _ _).2.2.1, (four_newD W2 _ _ _ _).2.1, by omega, by omega, (four_below W2 _ _ _ _).drew⟩
      | exact ⟨_, _, _, _, rfl, rfl, (four_newD W2 _ _ _ _).2.2.2, (four_newD W2 _ _ _ _).2.1, (four_newD W2 _ _ _ _).1, (four_newD W2 _ _ _ _).2.2.1, by omega, by omega, (four_below W2 _ _ _ _).drew⟩
      | exact ⟨_, _, _, _, rfl, rfl, (four_newD W2 _ _ _ _).2.2.2, (four_newD W2 _ _ _ _).2.1, (four_newD W2 _ _ _ _).2.2.1, (four_newD W2 _ _ _ _).1, by omega, by omega, (four_below W2 _ _ _ _).drew⟩
      | exact ⟨_, _, _, _, rfl, rfl, (four_newD W2 _ _ _ _).2.2.2, (four_newD W2 _ _ _ _).2.2.1, (four_newD W2 _ _ _ _).1, (four_newD W2 _ _ _ _).2.1, by omega, by omega, (four_below W2 _ _ _ _).drew⟩
      | exact ⟨_, _, _, _, rfl, rfl, (four_newD W2 _ _ _ _).2.2.2, (four_newD W2 _ _ _ _).2.2.1, (four_newD W2 _ _ _ _).2.1, (four_newD W2 _ _ _ _).1, by omega, by omega, (four_below W2 _ _ _ _).drew⟩
  case rest =>
    obtain ⟨bs, bm, Rs, Rm, rfl, rfl, qRs, qRm, qbs, qbm, lRs, lRm, hbc⟩ := hcut
    have hne : Rs ≠ Rm := fun e => by rw [e, qRm] at qRs; simp at qRs
    have hBw : Below w.heap.size w wc := hb2.trans (hbc.mono hb2.size)
    have qf := (hbc.block _ lx1).trans X1.out
    have qp0 := (hbc.block _ (heap_lt X0.out)).trans X0.out
    obtain ⟨x, hx⟩ : ∃ x : FB, x = ⟨.slice pp p.length qp, .int .i64 P, .slice p1 L.length q1, .int .i64 r, .slice p3 C.length q3, w.heap.size + 1, bm, bs, w.heap.size, wc.heap.size, Rs, Rm⟩ := ⟨_, rfl⟩
    obtain ⟨W3, hW3⟩ : ∃ W3, wc.alloc (.cells #[.func (.func 60) #[] #[.pointer (some ⟨w.heap.size + 1, 0, none⟩), .pointer (some ⟨bm, 0, none⟩), .pointer (some ⟨bs, 0, none⟩), .pointer (some ⟨w.heap.size, 0, none⟩), .pointer (some ⟨wc.heap.size, 0, none⟩)]] 87) = W3 := ⟨_, rfl⟩
    have hI3 : FI x w p (P, L, r, C) (List.replicate C.length none) W3 := by
      subst hx
      have hb3 : Below wc.heap.size wc W3 := by rw [← hW3]; exact (Below.refl _ wc).alloc (Nat.le_refl _) _
      have old : ∀ (k : Nat) (o : Obj), wc.heap[k]? = some o → W3.heap[k]? = some o := fun k o h => (hb3.block k (heap_lt h)).trans h
      refine ⟨hBw.trans (hb3.mono hBw.size), by simp, ?_, ⟨List.replicate C.length (.slice none 0 0), by simp, ?_, ?_, ?_⟩, ?_, ?_, old _ _ qf, old _ _ qp0, ?_, ?_⟩
      · have := old _ _ qRm
        rw [← HAB.out] at this
        simpa using this
      · have := old _ _ qRs
        rw [← HAS.out] at this
        exact this
      · intro v hv
        exact ⟨_, _, _, List.eq_of_mem_replicate hv⟩
      · intro k s hk
        rw [List.getElem?_replicate] at hk
        split at hk <;> cases hk
      · have := old _ _ qbm
        simpa using this
      · have := old _ _ qbs
        simpa using this
      · show W3.heap[wc.heap.size]? = _
        rw [← hW3]
        exact World.alloc_heap_new wc _
      · intro k s hk
        rw [List.getElem?_replicate] at hk
        split at hk <;> cases hk
    have hCl : C.length ≠ 0 := by
      have := (flowErr_zero hok.flow).2.1
      exact this
    have hcome := come_any x w p (P, L, r, C) (by rw [hx]; exact hp) (by rw [hx]; exact hcp) (by rw [hx]; exact hf) hok (by rw [hx]; exact hne) (by rw [hx]; exact Nat.le_trans hb2.size lRs) (by rw [hx]; exact Nat.le_trans hb2.size lRm) (mu (List.replicate C.length none)) (List.replicate C.length none) 0 [] (.slice none 0 0) W3.drew (Nat.le_refl _) (hI3.below ((Below.refl _ W3).drew)) (Nat.zero_le _) ⟨none, 0, rfl, by simp, fun k z hk => by simp at hk⟩ nilOk_nil (by simp) (fun t ht => by simp at ht)
    have c1 := cell_at' hI3.hbs 0
    have c2 := cell_at' hI3.hbc 0
    have hbs3 : x.bs = bs := by rw [hx]
    have hbc3 : x.bc = wc.heap.size := by rw [hx]
    have hRs3 : x.Rs = Rs := by rw [hx]
    have hcaps : caps x = #[.pointer (some ⟨w.heap.size + 1, 0, none⟩), .pointer (some ⟨bm, 0, none⟩), .pointer (some ⟨bs, 0, none⟩), .pointer (some ⟨w.heap.size, 0, none⟩), .pointer (some ⟨wc.heap.size, 0, none⟩)] := by rw [hx]
    rw [hbs3, hRs3] at c1
    rw [hbc3, hcaps] at c2
    rw [hcaps] at hcome
    simp at c1 c2
    have HC := hideP hcome
    have HBS := hideP hbs3
    have HBC := hideP hbc3
    have HRS := hideP hRs3
    have HCAPS := hideP hcaps
    clear hcome hx hbs3 hbc3 hRs3 hcaps hI3 qRs qRm qbs qbm qf qp0 X0 X1 HAS HAB hBw f3 f3a f3b
    go_wp2_with fail
    go_region_held3 (fun W => W.cell? ⟨bs, 0, none⟩ = some (.slice (some ⟨Rs, 0, none⟩) C.length C.length) ∧ W.cell? ⟨wc.heap.size, 0, none⟩ = some (.func (.func 60) #[] #[.pointer (some ⟨w.heap.size + 1, 0, none⟩), .pointer (some ⟨bm, 0, none⟩), .pointer (some ⟨bs, 0, none⟩), .pointer (some ⟨w.heap.size, 0, none⟩), .pointer (some ⟨wc.heap.size, 0, none⟩)])) (go_keep)
      (first
        | (go_at_call 60; refine HC.out.mono ?_; rintro e w4 ⟨ok, E4, rfl, hI4, hw4, hs4, hd4⟩; have d1 := cell_at' hI4.hbs 0; have d2 := cell_at' hI4.hbc 0; rw [HBS.out, HRS.out, hI4.len] at d1; rw [HBC.out, HCAPS.out] at d2; simp at d1 d2; have HI4 := hideP hI4; have HS4 := hideP hs4; have HD4 := hideP hd4; clear hI4 hs4 hd4))
    all_goals go_wp2
    all_goals go_ret2
    all_goals
      obtain ⟨V, v1, v2, v3, v4⟩ := HI4.out.hRs
      rw [HRS.out] at v2
      have hlen4 := HI4.out.len
      simp only at hlen4
      refine ⟨ok, E4, Rs, V, by rw [hlen4]; rfl, hlen4, v1, v2, fun k s hk => ?_, ?_, HI4.out.bel⟩
      · obtain ⟨v, a, b, c⟩ := v4 k s hk
        exact ⟨(HI4.out.ok k s hk).1, v, a, b, c⟩
      · have hnone : ∀ k, ent (List.replicate C.length (none : Option (List Int))) k = none := by
          intro k
          unfold ent
          rw [List.getElem?_replicate]
          split <;> rfl
        have hle0 : ∀ e' : Nat → Option (List Int), leE (ent (List.replicate C.length none)) e' := fun e' pc s h => by rw [hnone] at h; cases h
        cases ok
        · intro e' hfit
          have := HS4.out e' hfit (hle0 e') ⟨[], hfit.first, rfl⟩
          exact absurd this.1 (by decide)
        · obtain ⟨hwe, _, s', h1, h2⟩ := HD4.out rfl
          have hs' : s' = [] := by
            cases s' with
            | nil => rfl
            | cons _ _ => simp [leS] at h2
          subst hs'
          refine ⟨⟨h1, fun pc s hs => ?_⟩, fun e' hfit => (HS4.out e' hfit (hle0 e') ⟨[], hfit.first, rfl⟩).2⟩
          rcases hwe.done pc with h3 | h3
          · rw [hs, hnone] at h3; cases h3
          · obtain ⟨s2, o, out, a1, a2, a3, a4⟩ := h3
            rw [hs] at a1
            cases a1
            exact ⟨o, out, a2, a3, a4⟩
end Go.Proofs.Ytenaionchlnpoab

