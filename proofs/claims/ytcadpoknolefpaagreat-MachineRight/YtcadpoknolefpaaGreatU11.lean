/- My texts Jm Bc Bd Pr, joined. -/
import Derived.Test.YtcadpoknolefpaaGreatU4
import Derived.Test.YtcadpoknolefpaaGreatU7
import Derived.Test.YtcadpoknolefpaaGreatU10
/- verify.fit. -/
namespace Go.Proofs.YtcadpoknolefpaaGreat
open Go.RowKit
set_option linter.unusedSimpArgs false
set_option linter.unusedVariables false
theorem four_new (W : World) (a b c d : Obj) : ((((W.alloc a).alloc b).alloc c).alloc d).heap[W.heap.size]? = some a ∧ ((((W.alloc a).alloc b).alloc c).alloc d).heap[W.heap.size + 1]? = some b ∧ ((((W.alloc a).alloc b).alloc c).alloc d).heap[W.heap.size + 1 + 1]? = some c ∧ ((((W.alloc a).alloc b).alloc c).alloc d).heap[W.heap.size + 1 + 1 + 1]? = some d := by
  refine ⟨heap_old (heap_old (heap_old (World.alloc_heap_new W a) _) _) _, heap_old (heap_old (new_two W a b) _) _, heap_old ?_ _, ?_⟩
  · have := World.alloc_heap_new ((W.alloc a).alloc b) c
    simpa using this
  · have := World.alloc_heap_new (((W.alloc a).alloc b).alloc c) d
    simpa using this
theorem four_below (W : World) (a b c d : Obj) : Below W.heap.size W ((((W.alloc a).alloc b).alloc c).alloc d) :=
  ((((Below.refl _ W).alloc (Nat.le_refl _) _).alloc (by simp) _).alloc (by simp; omega) _).alloc (by simp; omega) _
theorem four_newD (W : World) (a b c d : Obj) : ((((W.alloc a).alloc b).alloc c).alloc d).drew.heap[W.heap.size]? = some a ∧ ((((W.alloc a).alloc b).alloc c).alloc d).drew.heap[W.heap.size + 1]? = some b ∧ ((((W.alloc a).alloc b).alloc c).alloc d).drew.heap[W.heap.size + 1 + 1]? = some c ∧ ((((W.alloc a).alloc b).alloc c).alloc d).drew.heap[W.heap.size + 1 + 1 + 1]? = some d := by
  rw [drew_heap]
  exact four_new W a b c d
theorem make_is (t e : TypeId) (i : TypeInfo) (z : Value) (ht : Tryz.prog.underlying t = some (.slice e)) (hi : Tryz.prog.info? e = some i) (hz : i.zero = some z) (hs : i.size = 1) (n : Nat) (hb : i.bytes * n ≤ 281474976710656) (hn : n ≤ maxLen) (A : Array Value) (hA : A.toList = (madeCells z.cells (n * 1)).toList) (W : World) :
    (Instr.makeSlice t (.int .i64 (n : Int)) (.int .i64 (n : Int))).run Tryz.prog W = .ok (.slice (some ⟨W.heap.size, 0, none⟩) n n) (W.alloc (.cells A e)) := by
  have h63' : (n : Int) ≤ 9223372036854775807 := by
    have h := hn
    simp [maxLen] at h
    omega
  have hb' : (i.bytes : Int) * (n : Int) ≤ 281474976710656 := by
    have h : ((i.bytes * n : Nat) : Int) ≤ 281474976710656 := by omega
    rwa [Int.natCast_mul] at h
  have hr := run_make (P := Tryz.prog) W t e i z ht hi hz .i64 .i64 n n (by omega) (Int.le_refl _) hb' h63'
  simp only [Int.toNat_natCast, hs] at hr
  have hA2 : A = madeCells z.cells (n * 1) := Array.ext' hA
  rw [hA2]
  exact hr
theorem infoInts : (Tryz.prog.info? 27).map (fun i => (i.zero, i.size, i.bytes)) = some (some (.slice none 0 0), 1, 24) := by kernel_rfl
theorem made_slices (n : Nat) : (madeCells (Value.slice none 0 0).cells (n * 1)).toList = List.replicate n (Value.slice none 0 0) := by
  have h : (Value.slice none 0 0).cells = #[.slice none 0 0] := rfl
  rw [h]
  apply List.ext_getElem?
  intro k
  by_cases hk : k < n
  · simp [madeCells, hk, Nat.mod_one]
  · simp [madeCells, hk]
set_option maxRecDepth 100000 in
set_option maxHeartbeats 4000000 in
theorem fit_any (p : List Fn) (f : Fn) (pv c0 c1 c2 c3 : Value) (w : World) (hp : FnsAt w pv p) (hcp : CapAt w pv) (hf : FnAt w c0 c1 c2 c3 f) (hok : OkFn p f) : Calls Tryz.prog 103 #[.agg #[pv], .agg #[c0, c1, c2, c3]] w fun e w' => ∃ (ok : Bool) (E : Ents) (Rs : Nat) (V : List Value), e = .returned (.tuple #[.slice (some ⟨Rs, 0, none⟩) E.length E.length, .bool ok]) ∧ E.length = f.2.2.2.length ∧ V.length = E.length ∧ w'.heap[Rs]? = some (.cells V.toArray 27 (0, 0)) ∧ (∀ (k : Nat) (s : List Int), E[k]? = some (some s) → s.length ≤ 8 ∧ ∃ v, V[k]? = some v ∧ IntsAt w' v s ∧ NilOk v) ∧ Least p f (if ok = true then some (ent E) else none) ∧ Below w.heap.size w w' := by
  obtain ⟨i0, hi, hz0, hz1, hz2⟩ := info_parts infoBool
  obtain ⟨i1, hj, hy0, hy1, hy2⟩ := info_parts infoInts
  have h40 := flowErr_40 hok.flow
  obtain ⟨P, L, r, C⟩ := f
  obtain ⟨e0, ⟨p1, q1, e1, _, _⟩, e2, ⟨p3, q3, e3, _, _⟩⟩ := id hf
  simp only at e0 e1 e2 e3 h40
  subst e0 e1 e2 e3
  obtain ⟨pp, qp, hpv, _, _⟩ := id hp
  subst hpv
  obtain ⟨W2, hW2⟩ : ∃ W2, (w.alloc (.cells #[.slice pp p.length qp] 24)).alloc (.cells #[.int .i64 P, .slice p1 L.length q1, .int .i64 r, .slice p3 C.length q3] 78) = W2 := ⟨_, rfl⟩
  have hb2 : Below w.heap.size w W2 := by rw [← hW2]; exact ((Below.refl _ w).alloc (Nat.le_refl _) _).alloc (by simp) _
  have x0 : W2.heap[w.heap.size]? = some (.cells #[.slice pp p.length qp] 24 (0, 0)) := by rw [← hW2]; exact heap_old (World.alloc_heap_new w _) _
  have x1 : W2.heap[w.heap.size + 1]? = some (.cells #[.int .i64 P, .slice p1 L.length q1, .int .i64 r, .slice p3 C.length q3] 78 (0, 0)) := by rw [← hW2]; exact new_two _ _ _
  have f3 := cell_at' x1 3
  simp at f3
  have f3a := fun o => cell_old f3 o
  have f3b := fun o o' => cell_old (cell_old f3 o) o'
  have lx1 := heap_lt x1
  have X0 := hideP x0
  have X1 := hideP x1
  clear x0 x1
  obtain ⟨AS, hAS⟩ : ∃ AS, (List.replicate C.length (Value.slice none 0 0)).toArray = AS := ⟨_, rfl⟩
  obtain ⟨AB, hAB⟩ : ∃ AB, ((List.replicate C.length false).map Value.bool).toArray = AB := ⟨_, rfl⟩
  have HAS := hideP hAS
  have HAB := hideP hAB
  clear hAS hAB
  go_enter Tryz.func103, Tryz.ntmps103
  go_wp2_with fail
  go_cut [6, 7] from 9 (fun s6 s7 wx => ∃ (bs bm Rs Rm : Nat), s6 = .pointer (some ⟨bs, 0, none⟩) ∧ s7 = .pointer (some ⟨bm, 0, none⟩) ∧ wx.heap[Rs]? = some (.cells AS 27 (0, 0)) ∧ wx.heap[Rm]? = some (.cells AB 4 (0, 0)) ∧ wx.heap[bs]? = some (.cells #[.slice (some ⟨Rs, 0, none⟩) C.length C.length] 26 (0, 0)) ∧ wx.heap[bm]? = some (.cells #[.slice (some ⟨Rm, 0, none⟩) C.length C.length] 122 (0, 0)) ∧ W2.heap.size ≤ Rs ∧ W2.heap.size ≤ Rm ∧ Below W2.heap.size W2 wx)
  case first =>
    clear hp hcp hf hok X0 X1 hb2
    have hml : C.length ≤ maxLen := by unfold maxLen; omega
    have mS := make_is 26 27 i1 (.slice none 0 0) Tryz.underlying26 hj hy0 hy1 C.length (by rw [hy2]; omega) hml AS (by rw [made_slices, ← HAS.out])
    have mB := make_is 122 4 i0 (.bool false) Tryz.underlying122 hi hz0 hz1 C.length (by rw [hz2]; omega) hml AB (by rw [made_bools, ← HAB.out])
    clear HAS HAB hi hz0 hz1 hz2 hj hy0 hy1 hy2 hml
    have f3c := fun o o' o2 => cell_old (cell_old (cell_old f3 o) o') o2
    go_region
    all_goals go_wp2_with fail
    all_goals go_meet
    all_goals first
      | exact ⟨_, _, _, _, rfl, rfl, (four_newD W2 _ _ _ _).1, (four_newD W2 _ _ _ _).2.1, (four_newD W2 _ _ _ _).2.2.1, (four_newD W2 _ _ _ _).2.2.2, by omega, by omega, (four_below W2 _ _ _ _).drew⟩
      | exact ⟨_, _, _, _, rfl, rfl, (four_newD W2 _ _ _ _).1, (four_newD W2 _ _ _ _).2.1, (four_newD W2 _ _ _ _).2.2.2, (four_newD W2 _ _ _ _).2.2.1, by omega, by omega, (four_below W2 _ _ _ _).drew⟩
      | exact ⟨_, _, _, _, rfl, rfl, (four_newD W2 _ _ _ _).1, (four_newD W2 _ _ _ _).2.2.1, (four_newD W2 _ _ _ _).2.1, (four_newD W2 _ _ _ _).2.2.2, by omega, by omega, (four_below W2 _ _ _ _).drew⟩
      | exact ⟨_, _, _, _, rfl, rfl, (four_newD W2 _ _ _ _).1, (four_newD W2 _ _ _ _).2.2.1, (four_newD W2 _ _ _ _).2.2.2, (four_newD W2 _ _ _ _).2.1, by omega, by omega, (four_below W2 _ _ _ _).drew⟩
      | exact ⟨_, _, _, _, rfl, rfl, (four_newD W2 _ _ _ _).1, (four_newD W2 _ _ _ _).2.2.2, (four_newD W2 _ _ _ _).2.1, (four_newD W2 _ _ _ _).2.2.1, by omega, by omega, (four_below W2 _ _ _ _).drew⟩
      | exact ⟨_, _, _, _, rfl, rfl, (four_newD W2 _ _ _ _).1, (four_newD W2 _ _ _ _).2.2.2, (four_newD W2 _ _ _ _).2.2.1, (four_newD W2 _ _ _ _).2.1, by omega, by omega, (four_below W2 _ _ _ _).drew⟩
      | exact ⟨_, _, _, _, rfl, rfl, (four_newD W2 _ _ _ _).2.1, (four_newD W2 _ _ _ _).1, (four_newD W2 _ _ _ _).2.2.1, (four_newD W2 _ _ _ _).2.2.2, by omega, by omega, (four_below W2 _ _ _ _).drew⟩
      | exact ⟨_, _, _, _, rfl, rfl, (four_newD W2 _ _ _ _).2.1, (four_newD W2 _ _ _ _).1, (four_newD W2 _ _ _ _).2.2.2, (four_newD W2 _ _ _ _).2.2.1, by omega, by omega, (four_below W2 _ _ _ _).drew⟩
      | exact ⟨_, _, _, _, rfl, rfl, (four_newD W2 _ _ _ _).2.1, (four_newD W2 _ _ _ _).2.2.1, (four_newD W2 _ _ _ _).1, (four_newD W2 _ _ _ _).2.2.2, by omega, by omega, (four_below W2 _ _ _ _).drew⟩
      | exact ⟨_, _, _, _, rfl, rfl, (four_newD W2 _ _ _ _).2.1, (four_newD W2 _ _ _ _).2.2.1, (four_newD W2 _ _ _ _).2.2.2, (four_newD W2 _ _ _ _).1, by omega, by omega, (four_below W2 _ _ _ _).drew⟩
      | exact ⟨_, _, _, _, rfl, rfl, (four_newD W2 _ _ _ _).2.1, (four_newD W2 _ _ _ _).2.2.2, (four_newD W2 _ _ _ _).1, (four_newD W2 _ _ _ _).2.2.1, by omega, by omega, (four_below W2 _ _ _ _).drew⟩
      | exact ⟨_, _, _, _, rfl, rfl, (four_newD W2 _ _ _ _).2.1, (four_newD W2 _ _ _ _).2.2.2, (four_newD W2 _ _ _ _).2.2.1, (four_newD W2 _ _ _ _).1, by omega, by omega, (four_below W2 _ _ _ _).drew⟩
      | exact ⟨_, _, _, _, rfl, rfl, (four_newD W2 _ _ _ _).2.2.1, (four_newD W2 _ _ _ _).1, (four_newD W2 _ _ _ _).2.1, (four_newD W2 _ _ _ _).2.2.2, by omega, by omega, (four_below W2 _ _ _ _).drew⟩
      | exact ⟨_, _, _, _, rfl, rfl, (four_newD W2 _ _ _ _).2.2.1, (four_newD W2 _ _ _ _).1, (four_newD W2 _ _ _ _).2.2.2, (four_newD W2 _ _ _ _).2.1, by omega, by omega, (four_below W2 _ _ _ _).drew⟩
      | exact ⟨_, _, _, _, rfl, rfl, (four_newD W2 _ _ _ _).2.2.1, (four_newD W2 _ _ _ _).2.1, (four_newD W2 _ _ _ _).1, (four_newD W2 _ _ _ _).2.2.2, by omega, by omega, (four_below W2 _ _ _ _).drew⟩
      | exact ⟨_, _, _, _, rfl, rfl, (four_newD W2 _ _ _ _).2.2.1, (four_newD W2 _ _ _ _).2.1, (four_newD W2 _ _ _ _).2.2.2, (four_newD W2 _ _ _ _).1, by omega, by omega, (four_below W2 _ _ _ _).drew⟩
      | exact ⟨_, _, _, _, rfl, rfl, (four_newD W2 _ _ _ _).2.2.1, (four_newD W2 _ _ _ _).2.2.2, (four_newD W2 _ _ _ _).1, (four_newD W2 _ _ _ _).2.1, by omega, by omega, (four_below W2 _ _ _ _).drew⟩
      | exact ⟨_, _, _, _, rfl, rfl, (four_newD W2 _ _ _ _).2.2.1, (four_newD W2 _ _ _ _).2.2.2, (four_newD W2 _ _ _ _).2.1, (four_newD W2 _ _ _ _).1, by omega, by omega, (four_below W2 _ _ _ _).drew⟩
      | exact ⟨_, _, _, _, rfl, rfl, (four_newD W2 _ _ _ _).2.2.2, (four_newD W2 _ _ _ _).1, (four_newD W2 _ _ _ _).2.1, (four_newD W2 _ _ _ _).2.2.1, by omega, by omega, (four_below W2 _ _ _ _).drew⟩
      | exact ⟨_, _, _, _, rfl, rfl, (four_newD W2 _ _ _ _).2.2.2, (four_newD W2 _ _ _ _).1, (four_newD W2 _ _ _ _).2.2.1, (four_newD W2 _ _ _ _).2.1, by omega, by omega, (four_below W2 _ _ _ _).drew⟩
      | exact ⟨_, _, _, _, rfl, rfl, (four_newD W2 _ _ _ _).2.2.2, (four_newD W2 _ _ _ _).2.1, (four_newD W2 _ _ _ _).1, (four_newD W2 _ _ _ _).2.2.1, by omega, by omega, (four_below W2 _ _ _ _).drew⟩
      | exact ⟨_, _, _, _, rfl, rfl, (four_newD W2 _ _ _ _).2.2.2, (four_newD W2 _ _ _ _).2.1, (four_newD W2 _ _ _ _).2.2.1, (four_newD W2 _ _ _ _).1, by omega, by omega, (four_below W2 _ _ _ _).drew⟩
      | exact ⟨_, _, _, _, rfl, rfl, (four_newD W2 _ _ _ _).2.2.2, (four_newD W2 _ _ _ _).2.2.1, (four_newD W2 _ _ _ _).1, (four_newD W2 _ _ _ _).2.1, by omega, by omega, (four_below W2 _ _ _ _).drew⟩
      | exact ⟨_, _, _, _, rfl, rfl, (four_newD W2 _ _ _ _).2.2.2, (four_newD W2 _ _ _ _).2.2.1, (four_newD W2 _ _ _ _).2.1, (four_newD W2 _ _ _ _).1, by omega, by omega, (four_below W2 _ _ _ _).drew⟩
  case rest =>
    obtain ⟨bs, bm, Rs, Rm, rfl, rfl, qRs, qRm, qbs, qbm, lRs, lRm, hbc⟩ := hcut
    have hne : Rs ≠ Rm := fun e => by rw [e, qRm] at qRs; simp at qRs
    have hBw : Below w.heap.size w wc := hb2.trans (hbc.mono hb2.size)
    have qf := (hbc.block _ lx1).trans X1.out
    have qp0 := (hbc.block _ (heap_lt X0.out)).trans X0.out
    obtain ⟨x, hx⟩ : ∃ x : FB, x = ⟨.slice pp p.length qp, .int .i64 P, .slice p1 L.length q1, .int .i64 r, .slice p3 C.length q3, w.heap.size + 1, bm, bs, w.heap.size, wc.heap.size, Rs, Rm⟩ := ⟨_, rfl⟩
    obtain ⟨W3, hW3⟩ : ∃ W3, wc.alloc (.cells #[.func (.func 141) #[] #[.pointer (some ⟨w.heap.size + 1, 0, none⟩), .pointer (some ⟨bm, 0, none⟩), .pointer (some ⟨bs, 0, none⟩), .pointer (some ⟨w.heap.size, 0, none⟩), .pointer (some ⟨wc.heap.size, 0, none⟩)]] 165) = W3 := ⟨_, rfl⟩
    have hI3 : FI x w p (P, L, r, C) (List.replicate C.length none) W3 := by
      subst hx
      have hb3 : Below wc.heap.size wc W3 := by rw [← hW3]; exact (Below.refl _ wc).alloc (Nat.le_refl _) _
      have old : ∀ (k : Nat) (o : Obj), wc.heap[k]? = some o → W3.heap[k]? = some o := fun k o h => (hb3.block k (heap_lt h)).trans h
      refine ⟨hBw.trans (hb3.mono hBw.size), by simp, ?_, ⟨List.replicate C.length (.slice none 0 0), by simp, ?_, ?_, ?_⟩, ?_, ?_, old _ _ qf, old _ _ qp0, ?_, ?_⟩
      · have := old _ _ qRm
        rw [← HAB.out] at this
        simpa using this
      · have := old _ _ qRs
        rw [← HAS.out] at this
        exact this
      · intro v hv
        exact ⟨_, _, _, List.eq_of_mem_replicate hv⟩
      · intro k s hk
        rw [List.getElem?_replicate] at hk
        split at hk <;> cases hk
      · have := old _ _ qbm
        simpa using this
      · have := old _ _ qbs
        simpa using this
      · show W3.heap[wc.heap.size]? = _
        rw [← hW3]
        exact World.alloc_heap_new wc _
      · intro k s hk
        rw [List.getElem?_replicate] at hk
        split at hk <;> cases hk
    have hCl : C.length ≠ 0 := by
      have := (flowErr_zero hok.flow).2.1
      exact this
    have hcome := come_any x w p (P, L, r, C) (by rw [hx]; exact hp) (by rw [hx]; exact hcp) (by rw [hx]; exact hf) hok (by rw [hx]; exact hne) (by rw [hx]; exact Nat.le_trans hb2.size lRs) (by rw [hx]; exact Nat.le_trans hb2.size lRm) (mu (List.replicate C.length none)) (List.replicate C.length none) 0 [] (.slice none 0 0) W3.drew (Nat.le_refl _) (hI3.below ((Below.refl _ W3).drew)) (Nat.zero_le _) ⟨none, 0, rfl, by simp, fun k z hk => by simp at hk⟩ nilOk_nil (by simp) (fun t ht => by simp at ht)
    have c1 := cell_at' hI3.hbs 0
    have c2 := cell_at' hI3.hbc 0
    have hbs3 : x.bs = bs := by rw [hx]
    have hbc3 : x.bc = wc.heap.size := by rw [hx]
    have hRs3 : x.Rs = Rs := by rw [hx]
    have hcaps : caps x = #[.pointer (some ⟨w.heap.size + 1, 0, none⟩), .pointer (some ⟨bm, 0, none⟩), .pointer (some ⟨bs, 0, none⟩), .pointer (some ⟨w.heap.size, 0, none⟩), .pointer (some ⟨wc.heap.size, 0, none⟩)] := by rw [hx]
    rw [hbs3, hRs3] at c1
    rw [hbc3, hcaps] at c2
    rw [hcaps] at hcome
    simp at c1 c2
    have HC := hideP hcome
    have HBS := hideP hbs3
    have HBC := hideP hbc3
    have HRS := hideP hRs3
    have HCAPS := hideP hcaps
    clear hcome hx hbs3 hbc3 hRs3 hcaps hI3 qRs qRm qbs qbm qf qp0 X0 X1 HAS HAB hBw f3 f3a f3b
    go_wp2_with fail
    go_region_held3 (fun W => W.cell? ⟨bs, 0, none⟩ = some (.slice (some ⟨Rs, 0, none⟩) C.length C.length) ∧ W.cell? ⟨wc.heap.size, 0, none⟩ = some (.func (.func 141) #[] #[.pointer (some ⟨w.heap.size + 1, 0, none⟩), .pointer (some ⟨bm, 0, none⟩), .pointer (some ⟨bs, 0, none⟩), .pointer (some ⟨w.heap.size, 0, none⟩), .pointer (some ⟨wc.heap.size, 0, none⟩)])) (go_keep)
      (first
        | (go_at_call 141; refine HC.out.mono ?_; rintro e w4 ⟨ok, E4, rfl, hI4, hw4, hs4, hd4⟩; have d1 := cell_at' hI4.hbs 0; have d2 := cell_at' hI4.hbc 0; rw [HBS.out, HRS.out, hI4.len] at d1; rw [HBC.out, HCAPS.out] at d2; simp at d1 d2; have HI4 := hideP hI4; have HS4 := hideP hs4; have HD4 := hideP hd4; clear hI4 hs4 hd4))
    all_goals go_wp2
    all_goals go_ret2
    all_goals
      obtain ⟨V, v1, v2, v3, v4⟩ := HI4.out.hRs
      rw [HRS.out] at v2
      have hlen4 := HI4.out.len
      simp only at hlen4
      refine ⟨ok, E4, Rs, V, by rw [hlen4]; rfl, hlen4, v1, v2, fun k s hk => ?_, ?_, HI4.out.bel⟩
      · obtain ⟨v, a, b, c⟩ := v4 k s hk
        exact ⟨(HI4.out.ok k s hk).1, v, a, b, c⟩
      · have hnone : ∀ k, ent (List.replicate C.length (none : Option (List Int))) k = none := by
          intro k
          unfold ent
          rw [List.getElem?_replicate]
          split <;> rfl
        have hle0 : ∀ e' : Nat → Option (List Int), leE (ent (List.replicate C.length none)) e' := fun e' pc s h => by rw [hnone] at h; cases h
        cases ok
        · intro e' hfit
          have := HS4.out e' hfit (hle0 e') ⟨[], hfit.first, rfl⟩
          exact absurd this.1 (by decide)
        · obtain ⟨hwe, _, s', h1, h2⟩ := HD4.out rfl
          have hs' : s' = [] := by
            cases s' with
            | nil => rfl
            | cons _ _ => simp [leS] at h2
          subst hs'
          refine ⟨⟨h1, fun pc s hs => ?_⟩, fun e' hfit => (HS4.out e' hfit (hle0 e') ⟨[], hfit.first, rfl⟩).2⟩
          rcases hwe.done pc with h3 | h3
          · rw [hs, hnone] at h3; cases h3
          · obtain ⟨s2, o, out, a1, a2, a3, a4⟩ := h3
            rw [hs] at a1
            cases a1
            exact ⟨o, out, a2, a3, a4⟩
end Go.Proofs.YtcadpoknolefpaaGreat
/- fresh.Blocks; block.find, Get, Set. -/
namespace Go.Proofs.YtcadpoknolefpaaGreat
open Go.RowKit
set_option linter.unusedSimpArgs false
set_option linter.unusedVariables false
theorem set_list (q : List Value) (k : Nat) (x : Value) : q.toArray.setIfInBounds k x = (q.set k x).toArray := by
  apply Array.ext'
  simp
theorem set_mid {α : Type} (q : List α) (n : Nat) (z x : α) (hk : q.length < n) : (q ++ List.replicate (n - q.length) z).set q.length x = (q ++ [x]) ++ List.replicate (n - (q ++ [x]).length) z := by
  obtain ⟨m, hm⟩ : ∃ m, n - q.length = m + 1 := ⟨n - q.length - 1, by omega⟩
  have h2 : n - (q ++ [x]).length = m := by simp; omega
  rw [hm, h2, List.set_append_right _ _ (Nat.le_refl _), Nat.sub_self, List.replicate_succ, List.set_cons_zero, List.append_assoc]
  rfl
set_option maxRecDepth 100000 in
set_option maxHeartbeats 2000000 in
theorem freshBlocks_any (L : List (List Int)) (v : Value) (w : World) (h : BlksAt w v L) (h8 : L.length ≤ 8) (h40 : ∀ b ∈ L, b.length ≤ 40) : Calls Tryz.prog 85 #[v] w fun e w' => ∃ u, e = .returned u ∧ BlksOwn w' w.heap.size u L ∧ Below w.heap.size w w' := by
  obtain ⟨i1, hj, hy0, hy1, hy2⟩ := info_parts infoInts
  obtain ⟨p, cap, hv, hm, hc⟩ := id h
  subst hv
  have H := hideP h
  have H40 := hideP h40
  clear h h40 hm hc
  go_enter Tryz.func85, Tryz.ntmps85
  go_wp2_with (at_make; refine wpList_make_full _ rfl _ _ 26 rfl w.heap.size 27 i1 (.slice none 0 0) 1 Tryz.underlying26 hj hy0 hy1 _ _ _ _ L.length rfl rfl rfl rfl (by rw [hy2]; omega) (by unfold maxLen; omega) (Nat.le_refl _) ?_; intro w1 hown1 hg1)
  rw [made_slices] at hown1
  have hR1 := row_full hown1 (by simp)
  have hB1 : Below w.heap.size w w1 := (Below.refl _ w).grown hg1 (Nat.le_refl _) (fun k hk => by cases hk)
  have hlt1 := heap_lt hR1
  clear hown1 hg1 hj hy0 hy1 hy2
  have HR1 := hideP hR1
  clear hR1
  go_loopw [4, 5, 11] (fun _ _ i wr => ∃ q : List Value, q.length ≤ L.length ∧ i = .int .i64 q.length ∧ wr.heap[w.heap.size]? = some (.cells (q ++ List.replicate (L.length - q.length) (Value.slice none 0 0)).toArray 27 (0, 0)) ∧ BRows wr w.heap.size q (L.take q.length) ∧ Below w.heap.size w wr) (fun _ _ i _ => L.length - (intOf i).toNat)
  case atStart => exact ⟨[], Nat.zero_le _, rfl, by simpa using HR1.out, bRows_nil _ _, hB1⟩
  case round =>
    rename World => w2
    obtain ⟨q, hq, rfl, hR2, hr2, hb2⟩ := hrel
    have HR2 := hideP hR2
    have HRW := hideP hr2
    have hlt2 := heap_lt hR2
    have hz : ∀ k, w2.frozen? ⟨w.heap.size, k, none⟩ = false := fun k => Lib.frozen_of_heap hR2 k
    clear hR2 hr2
    by_cases hlt : q.length < L.length
    · have hlti : (q.length : Int) < (L.length : Int) := by omega
      obtain ⟨b, hb⟩ := at_of_lt hlt
      have h2 := H.out.below hb2
      obtain ⟨p2, c2, he, _, hc⟩ := h2
      cases he
      obtain ⟨g, off, c, hp, hg, h0, h1, hn, _⟩ := hc _ b hb
      subst hp
      obtain ⟨p1, q1, hc1, _, _⟩ := id h1
      subst hc1
      have hbl := H40.out b (List.mem_of_getElem? hb)
      have HCL := hideP (cloneInt_any b _ w2 h1 hn (by omega))
      have HB := hideP hb
      clear hc hb h1 hn
      go_wp2_with fail
      refine HCL.out.mono ?_
      rintro e w3 ⟨u3, rfl, r3, hb3⟩
      obtain ⟨p3, c3, hu3⟩ := row_shp r3
      subst hu3
      have hR3 := (hb3.block _ hlt2).trans HR2.out
      have hz3 : ∀ k, w3.frozen? ⟨w.heap.size, k, none⟩ = false := fun k => Lib.frozen_of_heap hR3 k
      have hw3 : ∀ k, k < L.length → ∃ u, w3.cell? ⟨w.heap.size, k, none⟩ = some u := fun k hk => by
        rw [cell_at' hR3]
        have : k < (q ++ List.replicate (L.length - q.length) (Value.slice none 0 0)).length := by simp; omega
        obtain ⟨u, hu⟩ := at_of_lt this
        exact ⟨u, by simpa using hu⟩
      obtain ⟨u9, hu9⟩ := hw3 q.length hlt
      have hz9 := hz3 q.length
      have HR3 := hideP hR3
      have HR := hideP r3
      clear hR3 r3 hz3 hw3 hz
      go_wp2
      go_roundw
      case rel =>
        have hs := heap_setCell_same w3 w.heap.size q.length _ _ (.slice p3 b.length c3) HR3.out
        rw [set_list, set_mid q L.length _ _ hlt] at hs
        have hgs := set_grown w3 ⟨w.heap.size, q.length, none⟩ (.slice p3 b.length c3)
        have hb23 := hb2.trans (hb3.mono hb2.size)
        have hrow : (w3.setCell ⟨w.heap.size, q.length, none⟩ (.slice p3 b.length c3)).ownsRow w2.heap.size 3 1 (.slice p3 b.length c3) b.length (b.map (Value.int .i64)) := HR.out.kept hgs (.inr (row_not HR.out HR3.out (by decide)).symm)
        have hrows : BRows (w3.setCell ⟨w.heap.size, q.length, none⟩ (.slice p3 b.length c3)) w.heap.size q (L.take q.length) := (HRW.out.below hb3).same fun k x g h1 hg => by
          obtain ⟨_, hg2, cs, hg3⟩ := (HRW.out.below hb3).lt h1 hg
          exact hgs.block g hg2 (fun e => by cases e; rw [HR3.out] at hg3; simp at hg3)
        refine ⟨q ++ [.slice p3 b.length c3], by simp; omega, by rw [List.length_append, List.length_singleton]; go_num, hs, ?_, hb23.setCell (Nat.le_refl _) _⟩
        rw [List.length_append, List.length_singleton, take_snoc L q.length b HB.out]
        exact hrows.snoc hrow (by have := hb2.size; omega) (fun k y g h1 hg => (HRW.out.lt h1 hg).2.1) (by omega)
      case measure => simp [intOf]; omega
    · have hlti : ¬ (q.length : Int) < (L.length : Int) := by omega
      have hql : q.length = L.length := by omega
      have HQL := hideP hql
      clear hql
      go_wp2
      go_ret
      have hr := HRW.out
      have hh := HR2.out
      rw [HQL.out, Nat.sub_self] at hh
      rw [HQL.out, List.take_of_length_le (Nat.le_refl _)] at hr
      refine ⟨_, rfl, ⟨q, ?_, hr⟩, hb2⟩
      rw [HQL.out]
      exact ⟨by rw [HQL.out]; simp, .inr ⟨w.heap.size, L.length, _, rfl, Nat.le_refl _, hh, Nat.le_refl _, by unfold maxLen; omega, by simp [HQL.out], by simp; rw [← HQL.out]; simp⟩⟩
theorem get_at {α : Type} {l : List α} {k : Nat} {d o : α} (h : l[k]? = some o) : (l[k]?).getD d = o := by rw [h]; rfl
set_option maxRecDepth 100000 in
set_option maxHeartbeats 1000000 in
theorem find_any (L : List (List Int)) (ref at_ : Int) (hr : -9223372036854775808 ≤ ref ∧ ref ≤ 9223372036854775807) (v : Value) (w : World) (h : BlksAt w v L) : Calls Tryz.prog 224 #[v, .int .i64 ref, .int .i64 at_] w fun e w' => e = .returned (.int .i64 (placeErr L ref at_)) ∧ Below w.heap.size w w' := by
  obtain ⟨p, cap, hv, _, _⟩ := id h
  subst hv
  have HCK := hideP (bCheck_any L _ w h)
  by_cases he : blkErr L = 0
  · have hp : placeErr L ref at_ = if ref = 0 then 5 else if ref < 0 ∨ (L.length : Int) < ref ∨ at_ < 0 ∨ ((blkAt L ref).length : Int) ≤ at_ then 3 else 0 := by unfold placeErr; rw [if_neg (by simpa using he)]
    rw [he] at HCK
    obtain ⟨h8, _, _⟩ := blkErr_zero he
    rw [hp]
    clear he hp
    by_cases h0 : ref = 0
    · subst h0
      rw [if_pos rfl]
      clear h
      go_enter Tryz.func224, Tryz.ntmps224
      go_wp2_with (go_at_call 120; refine HCK.out.mono ?_; rintro e w1 ⟨rfl, hb1⟩)
      go_ret
      exact ⟨rfl, hb1⟩
    rw [if_neg h0]
    have h0' : (ref == 0) = false := by simp [h0]
    cases hro : refOk L.length ref
    · have hbad : ref < 0 ∨ (L.length : Int) < ref := by
        unfold refOk at hro
        simp at hro
        omega
      rw [if_pos (by omega)]
      clear hbad h h0
      go_enter Tryz.func224, Tryz.ntmps224
      go_wp2_with (first | (go_at_call 120; refine HCK.out.mono ?_; rintro e w1 ⟨rfl, hb1⟩) | (go_at_call 122; refine (bIsRef_any L ref _ _ _).mono ?_; rw [hro]; rintro e w2 ⟨rfl, hw⟩; have hw := hw.symm; subst hw))
      go_ret
      exact ⟨rfl, hb1⟩
    · have hgood : 0 ≤ ref ∧ ref ≤ (L.length : Int) := by
        unfold refOk at hro
        simpa using hro
      obtain ⟨j, hj⟩ : ∃ j : Nat, ref = (j : Int) + 1 := ⟨(ref - 1).toNat, by omega⟩
      have hjl : j < L.length := by omega
      obtain ⟨b, hb⟩ := at_of_lt hjl
      have hba := blkAt_some hb hj
      rw [hba]
      by_cases ha : at_ < 0
      · rw [if_pos (by omega)]
        clear h h0 hj hb hba
        have hd : decide (at_ < 0) = true := by simpa using ha
        go_enter Tryz.func224, Tryz.ntmps224
        go_wp2_with (first | (go_at_call 120; refine HCK.out.mono ?_; rintro e w1 ⟨rfl, hb1⟩) | (go_at_call 122; refine (bIsRef_any L ref _ _ _).mono ?_; rw [hro]; rintro e w2 ⟨rfl, hw⟩; have hw := hw.symm; subst hw))
        go_ret
        exact ⟨rfl, hb1⟩
      · have hd : decide (at_ < 0) = false := by simpa using ha
        have H := hideP h
        have HB := hideP hb
        subst hj
        clear h h0 hb hba
        have hw1 : wrap64 ((j : Int) + 1 - 1) = (j : Int) := by unfold wrap64; omega
        have hw2 : (j : Int) + 1 - 1 = (j : Int) := by omega
        have hji : (j : Int) < (L.length : Int) := by omega
        by_cases hge : ((b.length : Nat) : Int) ≤ at_
        all_goals
          first
            | rw [if_pos (by omega)]
            | rw [if_neg (by omega)]
          go_enter Tryz.func224, Tryz.ntmps224
          go_wp2_with fail
          refine HCK.out.mono ?_
          rintro e w1 ⟨rfl, hb1⟩
          obtain ⟨p2, c2, hee, _, hc⟩ := H.out.below hb1
          cases hee
          obtain ⟨g, off, c, hp, hg, g0, g1, _, _⟩ := hc j b HB.out
          subst hp
          obtain ⟨p3, c3, hc3, _, _⟩ := g1
          subst hc3
          clear hc
          go_wp2_with (go_at_call 122; refine (bIsRef_any L _ _ _ _).mono ?_; rw [hro]; rintro e w2 ⟨rfl, hw⟩; have hw := hw.symm; subst hw)
          go_ret
          exact ⟨rfl, hb1⟩
  · have hp : placeErr L ref at_ = blkErr L := by unfold placeErr; rw [if_pos he]
    have he' : (blkErr L != 0) = true := by simp [he]
    rw [hp]
    clear h hp he
    go_enter Tryz.func224, Tryz.ntmps224
    go_wp2_with (go_at_call 120; refine HCK.out.mono ?_; rintro e w1 ⟨rfl, hb1⟩)
    go_ret
    exact ⟨rfl, hb1⟩
end Go.Proofs.YtcadpoknolefpaaGreat
/- block.Get, Set, New. -/
namespace Go.Proofs.YtcadpoknolefpaaGreat
open Go.RowKit
set_option linter.unusedSimpArgs false
set_option linter.unusedVariables false
theorem place_zero {L : List (List Int)} {ref at_ : Int} (h : placeErr L ref at_ = 0) : blkErr L = 0 ∧ ∃ (j k : Nat) (b : List Int) (z : Int), ref = (j : Int) + 1 ∧ at_ = (k : Int) ∧ L[j]? = some b ∧ b[k]? = some z := by
  unfold placeErr at h
  by_cases he : blkErr L = 0
  · rw [if_neg (by simpa using he)] at h
    by_cases h0 : ref = 0
    · rw [if_pos h0] at h; cases h
    rw [if_neg h0] at h
    by_cases h1 : ref < 0 ∨ (L.length : Int) < ref ∨ at_ < 0 ∨ ((blkAt L ref).length : Int) ≤ at_
    · rw [if_pos h1] at h; cases h
    obtain ⟨j, hj⟩ : ∃ j : Nat, ref = (j : Int) + 1 := ⟨(ref - 1).toNat, by omega⟩
    obtain ⟨k, hk⟩ : ∃ k : Nat, at_ = (k : Int) := ⟨at_.toNat, by omega⟩
    obtain ⟨b, hb⟩ := at_of_lt (l := L) (k := j) (by omega)
    have hba := blkAt_some hb hj
    rw [hba] at h1
    obtain ⟨z, hz⟩ := at_of_lt (l := b) (k := k) (by omega)
    exact ⟨he, j, k, b, z, hj, hk, hb, hz⟩
  · rw [if_pos he] at h; exact absurd h he
set_option maxRecDepth 100000 in
set_option maxHeartbeats 1000000 in
theorem bGet_any (L : List (List Int)) (ref at_ : Int) (hr : -9223372036854775808 ≤ ref ∧ ref ≤ 9223372036854775807) (v : Value) (w : World) (h : BlksAt w v L) : Calls Tryz.prog 187 #[v, .int .i64 ref, .int .i64 at_] w fun e w' => e = .returned (.tuple #[.int .i64 (getR L ref at_), .int .i64 (placeErr L ref at_)]) ∧ Below w.heap.size w w' := by
  obtain ⟨p, cap, hv, _, _⟩ := id h
  subst hv
  have HF := hideP (find_any L ref at_ hr _ w h)
  by_cases he : placeErr L ref at_ = 0
  · obtain ⟨_, j, k, b, z, hj, hk, hb, hz⟩ := place_zero he
    have hg : getR L ref at_ = z := by
      rw [getR, if_pos he, getL, blkAt_some hb hj, hk]
      simp [hz]
    rw [he] at HF
    rw [he, hg]
    have hjl := lt_of_at hb
    have hkl := lt_of_at hz
    have hm : (L.length : Int) ≤ 9223372036854775807 := by obtain ⟨_, _, _, hm, _⟩ := h; unfold maxLen at hm; omega
    have H := hideP h
    have HB := hideP hb
    have HZ := hideP hz
    subst hj hk
    clear h hb hz he hg
    have hw1 : wrap64 ((j : Int) + 1 - 1) = (j : Int) := by unfold wrap64; omega
    have hw2 : (j : Int) + 1 - 1 = (j : Int) := by omega
    have hji : (j : Int) < (L.length : Int) := by omega
    have hki : (k : Int) < (b.length : Int) := by omega
    go_enter Tryz.func187, Tryz.ntmps187
    go_wp2_with fail
    refine HF.out.mono ?_
    rintro e w1 ⟨rfl, hb1⟩
    obtain ⟨p2, c2, hee, _, hc⟩ := H.out.below hb1
    cases hee
    obtain ⟨g, off, c, hp, hg, g0, g1, _, _⟩ := hc j b HB.out
    subst hp
    obtain ⟨p3, c3, hc3, _, hc4⟩ := g1
    subst hc3
    obtain ⟨g', off', hp', _, g2⟩ := hc4 k z HZ.out
    subst hp'
    clear hc hc4
    go_wp2
    go_ret2
    exact ⟨rfl, hb1⟩
  · have he' : (placeErr L ref at_ != 0) = true := by simp [he]
    have hg : getR L ref at_ = 0 := by rw [getR, if_neg he]
    rw [hg]
    clear h hg he
    go_enter Tryz.func187, Tryz.ntmps187
    go_wp2_with (go_at_call 224; refine HF.out.mono ?_; rintro e w1 ⟨rfl, hb1⟩)
    go_ret2
    exact ⟨rfl, hb1⟩
/-- one number of one row is set. -/
theorem BRows.put {W : World} {B : Nat} {q : List Value} {L : List (List Int)} (h : BRows W B q L) {j k g : Nat} {b : List Int} {n cap : Nat} (hq : q[j]? = some (.slice (some ⟨g, 0, none⟩) n cap)) (hb : L[j]? = some b) (hk : k < b.length) (z : Int) : BRows (W.setCell ⟨g, k, none⟩ (.int .i64 z)) B q (L.set j (b.set k z)) := by
  have hgs := set_grown W ⟨g, k, none⟩ (.int .i64 z)
  refine ⟨by simp [h.len], fun i x c hx hc => ?_, h.apart, fun c hc => ?_⟩
  · by_cases e : j = i
    · subst e
      rw [hq] at hx; cases hx
      rw [List.getElem?_set_self (lt_of_at hb)] at hc
      cases hc
      have hr := h.each j _ b hq hb
      rcases hr.2 with ⟨h1, _⟩ | ⟨g', cap', cur, h1, h2, h3, h4, h5, h6, h7⟩
      · cases h1
      · cases h1
        have hs := heap_setCell_same W g k _ _ (.int .i64 z) h3
        refine ⟨by simp, .inr ⟨g, cap, _, by simp, h2, hs, by simpa using h4, h5, by simpa using h6, ?_⟩⟩
        have e1 : (cur.setIfInBounds k (Value.int .i64 z)).toList = cur.toList.set k (.int .i64 z) := by simp
        rw [e1, List.length_set, List.take_set, h7, List.map_set]
    · rw [List.getElem?_set_ne e] at hc
      refine (h.each i x c hx hc).kept hgs ?_
      cases ho : x.ownBlock with
      | none => exact .inl rfl
      | some y =>
        right
        intro e2
        simp at e2
        exact e (h.apart j i _ x g hq hx rfl (by rw [ho, e2]))
  · rcases List.mem_or_eq_of_mem_set hc with hc | rfl
    · exact h.small c hc
    · rw [List.length_set]; exact h.small b (List.mem_of_getElem? hb)
set_option maxRecDepth 100000 in
set_option maxHeartbeats 1000000 in
theorem bSet_any (L : List (List Int)) (ref at_ n : Int) (hr : -9223372036854775808 ≤ ref ∧ ref ≤ 9223372036854775807) (v : Value) (w : World) (h : BlksAt w v L) : Calls Tryz.prog 189 #[v, .int .i64 ref, .int .i64 at_, .int .i64 n] w fun e w' => ∃ u, e = .returned (.tuple #[u, .int .i64 (setErr L ref at_ n)]) ∧ BlksOwn w' w.heap.size u (setR L ref at_ n) ∧ Below w.heap.size w w' := by
  obtain ⟨p, cap, hv, _, _⟩ := id h
  subst hv
  have HF := hideP (find_any L ref at_ hr _ w h)
  by_cases he : placeErr L ref at_ = 0
  · rw [he] at HF
    have hse : setErr L ref at_ n = if isI32 n = true then 0 else 3 := by unfold setErr; rw [if_neg (by simpa using he)]
    cases hn : isI32 n
    · have hse2 : setErr L ref at_ n = 3 := by rw [hse, hn]; rfl
      have hsr : setR L ref at_ n = [] := by rw [setR, if_neg (by rw [hse2]; decide)]
      rw [hse2, hsr]
      clear h he hse hse2 hsr
      go_enter Tryz.func189, Tryz.ntmps189
      go_wp2_with (first | (go_at_call 224; refine HF.out.mono ?_; rintro e w1 ⟨rfl, hb1⟩) | (go_at_call 169; refine (bNumber_any n _).mono ?_; rw [hn]; rintro e w2 ⟨rfl, hw⟩; have hw := hw.symm; subst hw))
      go_ret2
      exact ⟨_, rfl, blksOwn_nil _ _, hb1⟩
    · have hse2 : setErr L ref at_ n = 0 := by rw [hse, hn]; rfl
      obtain ⟨hbe, j, k, b, z, hj, hk, hb, hz⟩ := place_zero he
      have hsr : setR L ref at_ n = L.set j (b.set k n) := by
        rw [setR, if_pos hse2, setL, blkAt_some hb hj, hk, hj, show ((j : Int) + 1 - 1).toNat = j by omega, Int.toNat_natCast]
      rw [hse2, hsr]
      obtain ⟨h8, h40, _⟩ := blkErr_zero hbe
      have hsm : ∀ b ∈ L, b.length ≤ 40 := fun b hb => by
        obtain ⟨i, hi⟩ := List.getElem?_of_mem hb
        have := cellsN_mem hi
        omega
      have hjl := lt_of_at hb
      have hkl := lt_of_at hz
      have H := hideP h
      have HB := hideP hb
      have HSM := hideP hsm
      subst hj hk
      clear h hb hz he hse hse2 hsr hbe hsm
      have hw1 : wrap64 ((j : Int) + 1 - 1) = (j : Int) := by unfold wrap64; omega
      have hw2 : (j : Int) + 1 - 1 = (j : Int) := by omega
      have hji : (j : Int) < (L.length : Int) := by omega
      have hki : (k : Int) < (b.length : Int) := by omega
      go_enter Tryz.func189, Tryz.ntmps189
      go_wp2_with (first | (go_at_call 224; refine HF.out.mono ?_; rintro e w1 ⟨rfl, hb1⟩) | (go_at_call 169; refine (bNumber_any n _).mono ?_; rw [hn]; rintro e w2 ⟨rfl, hw⟩; have hw := hw.symm; subst hw) | fail)
      refine (freshBlocks_any L _ _ (H.out.below hb1) h8 HSM.out).mono ?_
      rintro e w2 ⟨u, rfl, ⟨q, hrow, hrs⟩, hb2⟩
      obtain ⟨x, hx⟩ := at_of_lt (l := q) (k := j) (by rw [hrs.len]; exact hjl)
      have hbx := hrs.each j x b hx HB.out
      rcases hrow.2 with ⟨hu, h0⟩ | ⟨R, capR, cur, hu, hBR, hR, hn1, hn2, hn3, hn4⟩
      · have := hrs.len; omega
      rcases hbx.2 with ⟨hxv, h0⟩ | ⟨g, capg, curg, hxv, hBg, hg, hm1, hm2, hm3, hm4⟩
      · omega
      subst hu hxv
      have c0 : w2.cell? ⟨R, j, none⟩ = some (.slice (some ⟨g, 0, none⟩) b.length capg) := by
        have hq := hx
        rw [← hn4, List.getElem?_take_of_lt (by have := hrs.len; omega)] at hq
        rw [cell_at' hR]; simpa using hq
      have c1 : ∃ y, w2.cell? ⟨g, k, none⟩ = some y := by
        rw [cell_at' hg]
        obtain ⟨y, hy⟩ := at_of_lt (l := curg.toList) (k := k) (by simp; omega)
        exact ⟨y, by simpa using hy⟩
      obtain ⟨y, c1⟩ := c1
      have z1 := Lib.frozen_of_heap hg k
      have hqL := hrs.len
      have hRg : R ≠ g := fun e => by rw [e, hg] at hR; simp at hR
      have HRS := hideP hrs
      have HROW := hideP hrow
      have HX := hideP hx
      have hjq : (j : Int) < (q.length : Int) := by omega
      have HQL := hideP hqL
      clear hrs hrow hx hbx hR hg hn1 hn2 hn3 hn4 hm1 hm2 hm3 hm4 hqL
      go_wp2
      go_ret2
      refine ⟨.slice (some ⟨R, 0, none⟩) q.length capR, rfl, ⟨q, ?_, (HRS.out.put HX.out HB.out hkl n).low hb1.size⟩, (bthen0 hb1 hb2).setCell ?_ _⟩
      · exact row_same (row_low HROW.out hb1.size) fun r hr => by
          cases hr
          exact (set_grown w2 ⟨g, k, none⟩ (.int .i64 n)).block R (HROW.out.lt R rfl).2 (fun e => hRg (by simpa using e))
      · show w.heap.size ≤ g
        have := hb1.size
        omega
  · have he' : (placeErr L ref at_ != 0) = true := by simp [he]
    have hse : setErr L ref at_ n = placeErr L ref at_ := by unfold setErr; rw [if_pos he]
    have hg : setR L ref at_ n = [] := by rw [setR, if_neg (by rw [hse]; exact he)]
    rw [hse, hg]
    clear h hg he hse
    go_enter Tryz.func189, Tryz.ntmps189
    go_wp2_with (go_at_call 224; refine HF.out.mono ?_; rintro e w1 ⟨rfl, hb1⟩)
    go_ret2
    exact ⟨_, rfl, blksOwn_nil _ _, hb1⟩
end Go.Proofs.YtcadpoknolefpaaGreat
/- Plain laws of reading a program back. -/
namespace Go.Proofs.YtcadpoknolefpaaGreat
open Go.RowKit
set_option linter.unusedSimpArgs false
set_option linter.unusedVariables false
theorem takeR_inv {st : Rd} {n : Nat} {r : List UInt8} (h : (takeR st n).2 = some r) : st = some ((takeR st n).1 ++ r) ∧ (takeR st n).1.length = n := by
  cases st with
  | none => simp [takeR] at h
  | some s =>
    by_cases hle : n ≤ s.length
    · simp [takeR, hle] at h ⊢
      subst h
      simp
    · simp [takeR, hle] at h
theorem takeR_app (l r : List UInt8) (n : Nat) (h : l.length = n) : takeR (some (l ++ r)) n = (l, some r) := by
  subst h; simp [takeR]
theorem len_one {l : List UInt8} (h : l.length = 1) : ∃ b, l = [b] := by
  cases l with
  | nil => simp at h
  | cons b r => cases r with
    | nil => exact ⟨b, rfl⟩
    | cons _ _ => simp at h
theorem len_two {l : List UInt8} (h : l.length = 2) : ∃ b c, l = [b, c] := by
  cases l with
  | nil => simp at h
  | cons b r =>
    obtain ⟨c, rfl⟩ := len_one (l := r) (by simpa using h)
    exact ⟨b, c, rfl⟩
theorem numOf_b (b : UInt8) : numOf [b] = b.toNat := by simp [numOf]
theorem numOf_bc (b c : UInt8) : numOf [b, c] = 256 * b.toNat + c.toNat := by simp [numOf]
theorem byteOf_num1 {l : List UInt8} (h : l.length = 1) : [byteOf ((numOf l : Nat) : Int)] = l := by
  obtain ⟨b, rfl⟩ := len_one h
  have := b.toNat_lt
  rw [byteOf_eq _ b (by rw [numOf_b]; omega)]
theorem byteOf_num2 {l : List UInt8} (h : l.length = 2) : [byteOf (((numOf l : Nat) : Int) / 256), byteOf ((numOf l : Nat) : Int)] = l := by
  obtain ⟨b, c, rfl⟩ := len_two h
  have := b.toNat_lt
  have := c.toNat_lt
  rw [byteOf_eq _ b (by rw [numOf_bc]; omega), byteOf_eq _ c (by rw [numOf_bc]; omega)]
theorem num1_byteOf (z : Int) (h : 0 ≤ z ∧ z < 256) : ((numOf [byteOf z] : Nat) : Int) = z := by
  rw [numOf_b, byteOf_toNat]; omega
theorem num1_byteN (n : Nat) (h : n < 256) : numOf [byteOf (n : Int)] = n := by
  have := num1_byteOf (n : Int) (by omega)
  omega
theorem num2_byteN (n : Nat) (h : n < 65536) : numOf [byteOf ((n : Int) / 256), byteOf (n : Int)] = n := by
  have h1 := byteOf_toNat ((n : Int) / 256)
  have h2 := byteOf_toNat (n : Int)
  rw [numOf_bc]; omega
theorem readLocs_inv (n : Nat) (st : Rd) : ∀ r, (readLocs n st).2 = some r → ∃ bs, bs.length = n ∧ st = some (bs ++ r) ∧ (readLocs n st).1.map byteOf = bs := by
  induction n with
  | zero => intro r h; exact ⟨[], rfl, by simpa [readLocs] using h, rfl⟩
  | succ n ih =>
    intro r h
    simp only [readLocs] at h ⊢
    obtain ⟨h1, h2⟩ := takeR_inv h
    obtain ⟨bs, h3, h4, h5⟩ := ih _ h1
    refine ⟨bs ++ (takeR (readLocs n st).2 1).1, by simp [h3, h2], by rw [List.append_assoc]; exact h4, ?_⟩
    rw [List.map_append, h5]
    congr 1
    exact byteOf_num1 h2
theorem readLocs_app (l : List Int) (r : List UInt8) (h : ∀ z ∈ l, 0 ≤ z ∧ z < 256) : ∀ n, n ≤ l.length → readLocs n (some (l.map byteOf ++ r)) = (l.take n, some ((l.drop n).map byteOf ++ r)) := by
  intro n
  induction n with
  | zero => intro _; simp [readLocs]
  | succ n ih =>
    intro hn
    have hn' : n < l.length := by omega
    have e1 : (l.drop n).map byteOf ++ r = [byteOf l[n]] ++ ((l.drop (n + 1)).map byteOf ++ r) := by rw [List.drop_eq_getElem_cons hn', List.map_cons]; rfl
    simp only [readLocs]
    rw [ih (by omega)]
    simp only []
    rw [e1, takeR_app [byteOf l[n]] _ 1 rfl]
    simp only []
    rw [num1_byteOf _ (h _ (List.getElem_mem hn')), take_snoc l n l[n] (List.getElem?_eq_getElem hn')]
theorem readFn_app (f : Fn) (n : Nat) (r : List UInt8) (h : fnErr f n = 0) : readFn (some (fnBytes f ++ r)) = (f, true, some r) := by
  obtain ⟨hL, hP, hT, hC0, hC, _⟩ := fnErr_zero h
  obtain ⟨P, ls, R, code⟩ := f
  simp only at hL hP hT hC0 hC
  have hcl := codeBytes_le code
  have hc40 := (codeErr_zero _ hC).1
  simp only [typedB, Bool.and_eq_true, decide_eq_true_eq, List.all_eq_true] at hT
  have hls : ∀ z ∈ ls, 0 ≤ z ∧ z < 256 := fun z hz => by
    have := hT.1 z hz
    simp [okType] at this
    omega
  have e0 : fnBytes (P, ls, R, code) ++ r = [byteOf P] ++ ([byteOf (ls.length : Int)] ++ (ls.map byteOf ++ ([byteOf R] ++ ([byteOf (((codeBytes code).length : Int) / 256), byteOf ((codeBytes code).length : Int)] ++ (codeBytes code ++ r))))) := by simp [fnBytes]
  rw [e0]
  simp only [readFn]
  rw [takeR_app [byteOf P] _ 1 rfl]
  simp only []
  rw [takeR_app [byteOf (ls.length : Int)] _ 1 rfl]
  simp only []
  rw [num1_byteN _ (by omega), readLocs_app ls _ hls ls.length (Nat.le_refl _)]
  simp only [List.drop_length, List.take_length, List.map_nil, List.nil_append]
  rw [takeR_app [byteOf R] _ 1 rfl]
  simp only []
  rw [takeR_app [byteOf (((codeBytes code).length : Int) / 256), byteOf ((codeBytes code).length : Int)] _ 2 rfl]
  simp only []
  rw [num2_byteN _ (by omega), takeR_app (codeBytes code) _ _ rfl]
  simp only []
  rw [dec_enc code _ (Nat.le_refl _) hC, num1_byteOf P (by omega), num1_byteOf R (by omega)]
  simp
theorem readFn_inv (st : Rd) (r : List UInt8) (hok : (readFn st).2.1 = true) (h : (readFn st).2.2 = some r) : st = some (fnBytes (readFn st).1 ++ r) := by
  simp only [readFn] at hok h ⊢
  obtain ⟨g1, g2⟩ := takeR_inv h
  obtain ⟨e1, e2⟩ := takeR_inv g1
  obtain ⟨d1, d2⟩ := takeR_inv e1
  obtain ⟨bs, l1, l2, l3⟩ := readLocs_inv _ _ _ d1
  obtain ⟨c1, c2⟩ := takeR_inv l2
  obtain ⟨a1, a2⟩ := takeR_inv c1
  simp only [Bool.and_eq_true, decide_eq_true_eq] at hok
  have hx := enc_dec _ _ (Nat.le_refl (takeR (takeR (takeR (readLocs (numOf (takeR (takeR st 1).2 1).1) (takeR (takeR st 1).2 1).2).2 1).2 2).2 (numOf (takeR (takeR (readLocs (numOf (takeR (takeR st 1).2 1).1) (takeR (takeR st 1).2 1).2).2 1).2 2).1)).1.length)
  rcases hx with ⟨hx, _⟩ | ⟨_, _, hx⟩
  · exact absurd hok.1 hx
  have b1 := byteOf_num1 a2
  have b2 := byteOf_num1 c2
  have b3 := byteOf_num1 d2
  have b4 := byteOf_num2 e2
  have hll := readLocs_length (numOf (takeR (takeR st 1).2 1).1) (takeR (takeR st 1).2 1).2
  clear h g1 e1 d1 l1 l2 c1
  generalize takeR st 1 = A at *
  generalize takeR A.2 1 = C at *
  generalize readLocs (numOf C.1) C.2 = L at *
  generalize takeR L.2 1 = D at *
  generalize takeR D.2 2 = E at *
  generalize takeR E.2 (numOf E.1) = G at *
  rw [a1]
  simp only [fnBytes]
  rw [hx, g2, l3, hll]
  generalize byteOf ((numOf A.1 : Nat) : Int) = y1 at b1 ⊢
  generalize byteOf ((numOf C.1 : Nat) : Int) = y2 at b2 ⊢
  generalize byteOf ((numOf D.1 : Nat) : Int) = y3 at b3 ⊢
  generalize byteOf ((numOf E.1 : Nat) : Int) = y4 at b4 ⊢
  generalize byteOf (((numOf E.1 : Nat) : Int) / 256) = y5 at b4 ⊢
  rw [← b1, ← b2, ← b3, ← b4]
  simp
/-- what is left, so many functions later. -/
def stAt : Nat → Rd → Rd
  | 0, st => st
  | k + 1, st => (readFn (stAt k st)).2.2
def fnsTo (k : Nat) (st : Rd) : List Fn := (List.range k).map fun i => (readFn (stAt i st)).1
theorem fnsTo_succ (k : Nat) (st : Rd) : fnsTo (k + 1) st = fnsTo k st ++ [(readFn (stAt k st)).1] := by simp [fnsTo, List.range_succ]
theorem fnsTo_length (k : Nat) (st : Rd) : (fnsTo k st).length = k := by simp [fnsTo]
/-- a program, and whether it was told to its end. -/
def readProg (s : List UInt8) : List Fn × Bool :=
  if ∀ i, i < numOf (takeR (some s) 1).1 → (readFn (stAt i (takeR (some s) 1).2)).2.1 = true then (fnsTo (numOf (takeR (some s) 1).1) (takeR (some s) 1).2, decide (stAt (numOf (takeR (some s) 1).1) (takeR (some s) 1).2 = some [])) else ([], false)
def decProg (s : List UInt8) : List Fn × Int :=
  if 2000 < s.length then ([], 2) else if (readProg s).2 = false then ([], 1) else if progErr (readProg s).1 ≠ 0 then ([], progErr (readProg s).1) else ((readProg s).1, 0)
theorem stAt_app (l : List Fn) (n : Nat) (r : List UInt8) (h : ∀ f ∈ l, fnErr f n = 0) : ∀ i, i ≤ l.length → stAt i (some (l.flatMap fnBytes ++ r)) = some ((l.drop i).flatMap fnBytes ++ r) := by
  intro i
  induction i with
  | zero => intro _; rfl
  | succ i ih =>
    intro hi
    have hi' : i < l.length := by omega
    simp only [stAt]
    rw [ih (by omega), List.drop_eq_getElem_cons hi', List.flatMap_cons, List.append_assoc, readFn_app _ n _ (h _ (List.getElem_mem hi'))]
theorem stAt_inv (st : Rd) : ∀ k r, (∀ i, i < k → (readFn (stAt i st)).2.1 = true) → stAt k st = some r → st = some ((fnsTo k st).flatMap fnBytes ++ r) := by
  intro k
  induction k with
  | zero => intro r _ h; exact h
  | succ k ih =>
    intro r hok h
    have h1 := readFn_inv (stAt k st) r (hok k (by omega)) h
    have h2 := ih _ (fun i hi => hok i (by omega)) h1
    rw [fnsTo_succ, List.flatMap_append]
    simpa using h2
theorem dec_prog (l : List Fn) (h : progErr l = 0) (hs : (progBytes l).length ≤ 2000) : decProg (progBytes l) = (l, 0) := by
  obtain ⟨h0, h5, hf, hh⟩ := progErr_zero h
  have t1 : takeR (some (progBytes l)) 1 = ([byteOf (l.length : Int)], some (l.flatMap fnBytes)) := takeR_app [byteOf (l.length : Int)] _ 1 rfl
  have hst : ∀ i, i ≤ l.length → stAt i (some (l.flatMap fnBytes)) = some ((l.drop i).flatMap fnBytes) := fun i hi => by
    have := stAt_app l l.length [] hf i hi
    simpa using this
  have hrf : ∀ i (hi : i < l.length), readFn (stAt i (some (l.flatMap fnBytes))) = (l[i], true, some ((l.drop (i + 1)).flatMap fnBytes)) := fun i hi => by
    rw [hst i (by omega), List.drop_eq_getElem_cons hi, List.flatMap_cons, readFn_app _ l.length _ (hf _ (List.getElem_mem hi))]
  have hp : readProg (progBytes l) = (l, true) := by
    unfold readProg
    rw [t1]
    simp only []
    rw [num1_byteN _ (by omega), if_pos (fun i hi => by rw [hrf i hi])]
    rw [hst l.length (Nat.le_refl _)]
    simp only [List.drop_length, List.flatMap_nil, decide_true]
    congr 1
    refine List.ext_getElem (fnsTo_length _ _) fun i h1 h2 => ?_
    simp [fnsTo, hrf i h2]
  unfold decProg
  rw [if_neg (by omega), hp]
  simp [h]
theorem prog_dec (s : List UInt8) : ((decProg s).2 ≠ 0 ∧ (decProg s).1 = []) ∨ ((decProg s).2 = 0 ∧ progErr (decProg s).1 = 0 ∧ progBytes (decProg s).1 = s) := by
  unfold decProg
  by_cases h1 : 2000 < s.length
  · rw [if_pos h1]; exact .inl ⟨by decide, rfl⟩
  rw [if_neg h1]
  by_cases h2 : (readProg s).2 = false
  · rw [if_pos h2]; exact .inl ⟨by decide, rfl⟩
  rw [if_neg h2]
  by_cases h3 : progErr (readProg s).1 = 0
  · rw [if_neg (by simp [h3])]
    refine .inr ⟨rfl, h3, ?_⟩
    unfold readProg at h2 ⊢
    split at h2
    · rename_i hok
      rw [if_pos hok]
      simp at h2
      have h4 := stAt_inv _ _ _ hok h2
      obtain ⟨a1, a2⟩ := takeR_inv h4
      simp only [progBytes]
      rw [fnsTo_length]
      have := byteOf_num1 a2
      have h5 : s = (takeR (some s) 1).1 ++ ((fnsTo (numOf (takeR (some s) 1).1) (takeR (some s) 1).2).flatMap fnBytes ++ []) := by simpa using a1
      generalize (fnsTo (numOf (takeR (some s) 1).1) (takeR (some s) 1).2).flatMap fnBytes = X at h5 ⊢
      rw [← this] at h5
      simpa using h5.symm
    · simp at h2
  · rw [if_pos h3]; exact .inl ⟨h3, rfl⟩
end Go.Proofs.YtcadpoknolefpaaGreat
