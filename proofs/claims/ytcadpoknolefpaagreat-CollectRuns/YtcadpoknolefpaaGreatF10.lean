/- My texts Jm Bc Bd Jn Jo Jp Vh: what of them is needed, joined. -/
import Derived.RangeFuncBox
import Derived.Test.YtcadpoknolefpaaGreatF2
import Derived.Test.YtcadpoknolefpaaGreatF6
import Derived.Test.YtcadpoknolefpaaGreatF9
/- verify.fit. -/
namespace Go.Proofs.YtcadpoknolefpaaGreat
open Go.RowKit
set_option linter.unusedSimpArgs false
set_option linter.unusedVariables false
theorem four_new (W : World) (a b c d : Obj) : ((((W.alloc a).alloc b).alloc c).alloc d).heap[W.heap.size]? = some a ∧ ((((W.alloc a).alloc b).alloc c).alloc d).heap[W.heap.size + 1]? = some b ∧ ((((W.alloc a).alloc b).alloc c).alloc d).heap[W.heap.size + 1 + 1]? = some c ∧ ((((W.alloc a).alloc b).alloc c).alloc d).heap[W.heap.size + 1 + 1 + 1]? = some d := by
  refine ⟨heap_old (heap_old (heap_old (World.alloc_heap_new W a) _) _) _, heap_old (heap_old (new_two W a b) _) _, heap_old ?_ _, ?_⟩
  · have := World.alloc_heap_new ((W.alloc a).alloc b) c
    simpa using this
  · have := World.alloc_heap_new (((W.alloc a).alloc b).alloc c) d
    simpa using this
theorem four_below (W : World) (a b c d : Obj) : Below W.heap.size W ((((W.alloc a).alloc b).alloc c).alloc d) :=
  ((((Below.refl _ W).alloc (Nat.le_refl _) _).alloc (by simp) _).alloc (by simp; omega) _).alloc (by simp; omega) _
theorem four_newD (W : World) (a b c d : Obj) : ((((W.alloc a).alloc b).alloc c).alloc d).drew.heap[W.heap.size]? = some a ∧ ((((W.alloc a).alloc b).alloc c).alloc d).drew.heap[W.heap.size + 1]? = some b ∧ ((((W.alloc a).alloc b).alloc c).alloc d).drew.heap[W.heap.size + 1 + 1]? = some c ∧ ((((W.alloc a).alloc b).alloc c).alloc d).drew.heap[W.heap.size + 1 + 1 + 1]? = some d := by
  rw [drew_heap]
  exact four_new W a b c d
theorem make_is (t e : TypeId) (i : TypeInfo) (z : Value) (ht : Tryz.prog.underlying t = some (.slice e)) (hi : Tryz.prog.info? e = some i) (hz : i.zero = some z) (hs : i.size = 1) (n : Nat) (hb : i.bytes * n ≤ 281474976710656) (hn : n ≤ maxLen) (A : Array Value) (hA : A.toList = (madeCells z.cells (n * 1)).toList) (W : World) :
    (Instr.makeSlice t (.int .i64 (n : Int)) (.int .i64 (n : Int))).run Tryz.prog W = .ok (.slice (some ⟨W.heap.size, 0, none⟩) n n) (W.alloc (.cells A e)) := by
  have h63' : (n : Int) ≤ 9223372036854775807 := by
    have h := hn
    simp [maxLen] at h
    omega
  have hb' : (i.bytes : Int) * (n : Int) ≤ 281474976710656 := by
    have h : ((i.bytes * n : Nat) : Int) ≤ 281474976710656 := by omega
    rwa [Int.natCast_mul] at h
  have hr := run_make (P := Tryz.prog) W t e i z ht hi hz .i64 .i64 n n (by omega) (Int.le_refl _) hb' h63'
  simp only [Int.toNat_natCast, hs] at hr
  have hA2 : A = madeCells z.cells (n * 1) := Array.ext' hA
  rw [hA2]
  exact hr
theorem infoInts : (Tryz.prog.info? 27).map (fun i => (i.zero, i.size, i.bytes)) = some (some (.slice none 0 0), 1, 24) := by kernel_rfl
theorem made_slices (n : Nat) : (madeCells (Value.slice none 0 0).cells (n * 1)).toList = List.replicate n (Value.slice none 0 0) := by
  have h : (Value.slice none 0 0).cells = #[.slice none 0 0] := rfl
  rw [h]
  apply List.ext_getElem?
  intro k
  by_cases hk : k < n
  · simp [madeCells, hk, Nat.mod_one]
  · simp [madeCells, hk]
set_option maxRecDepth 100000 in
set_option maxHeartbeats 4000000 in
theorem fit_any (p : List Fn) (f : Fn) (pv c0 c1 c2 c3 : Value) (w : World) (hp : FnsAt w pv p) (hcp : CapAt w pv) (hf : FnAt w c0 c1 c2 c3 f) (hok : OkFn p f) : Calls Tryz.prog 103 #[.agg #[pv], .agg #[c0, c1, c2, c3]] w fun e w' => ∃ (ok : Bool) (E : Ents) (Rs : Nat) (V : List Value), e = .returned (.tuple #[.slice (some ⟨Rs, 0, none⟩) E.length E.length, .bool ok]) ∧ E.length = f.2.2.2.length ∧ V.length = E.length ∧ w'.heap[Rs]? = some (.cells V.toArray 27 (0, 0)) ∧ (∀ (k : Nat) (s : List Int), E[k]? = some (some s) → s.length ≤ 8 ∧ ∃ v, V[k]? = some v ∧ IntsAt w' v s ∧ NilOk v) ∧ Least p f (if ok = true then some (ent E) else none) ∧ Below w.heap.size w w' := by
  obtain ⟨i0, hi, hz0, hz1, hz2⟩ := info_parts infoBool
  obtain ⟨i1, hj, hy0, hy1, hy2⟩ := info_parts infoInts
  have h40 := flowErr_40 hok.flow
  obtain ⟨P, L, r, C⟩ := f
  obtain ⟨e0, ⟨p1, q1, e1, _, _⟩, e2, ⟨p3, q3, e3, _, _⟩⟩ := id hf
  simp only at e0 e1 e2 e3 h40
  subst e0 e1 e2 e3
  obtain ⟨pp, qp, hpv, _, _⟩ := id hp
  subst hpv
  obtain ⟨W2, hW2⟩ : ∃ W2, (w.alloc (.cells #[.slice pp p.length qp] 24)).alloc (.cells #[.int .i64 P, .slice p1 L.length q1, .int .i64 r, .slice p3 C.length q3] 78) = W2 := ⟨_, rfl⟩
  have hb2 : Below w.heap.size w W2 := by rw [← hW2]; exact ((Below.refl _ w).alloc (Nat.le_refl _) _).alloc (by simp) _
  have x0 : W2.heap[w.heap.size]? = some (.cells #[.slice pp p.length qp] 24 (0, 0)) := by rw [← hW2]; exact heap_old (World.alloc_heap_new w _) _
  have x1 : W2.heap[w.heap.size + 1]? = some (.cells #[.int .i64 P, .slice p1 L.length q1, .int .i64 r, .slice p3 C.length q3] 78 (0, 0)) := by rw [← hW2]; exact new_two _ _ _
  have f3 := cell_at' x1 3
  simp at f3
  have f3a := fun o => cell_old f3 o
  have f3b := fun o o' => cell_old (cell_old f3 o) o'
  have lx1 := heap_lt x1
  have X0 := hideP x0
  have X1 := hideP x1
  clear x0 x1
  obtain ⟨AS, hAS⟩ : ∃ AS, (List.replicate C.length (Value.slice none 0 0)).toArray = AS := ⟨_, rfl⟩
  obtain ⟨AB, hAB⟩ : ∃ AB, ((List.replicate C.length false).map Value.bool).toArray = AB := ⟨_, rfl⟩
  have HAS := hideP hAS
  have HAB := hideP hAB
  clear hAS hAB
  go_enter Tryz.func103, Tryz.ntmps103
  go_wp2_with fail
  go_cut [6, 7] from 9 (fun s6 s7 wx => ∃ (bs bm Rs Rm : Nat), s6 = .pointer (some ⟨bs, 0, none⟩) ∧ s7 = .pointer (some ⟨bm, 0, none⟩) ∧ wx.heap[Rs]? = some (.cells AS 27 (0, 0)) ∧ wx.heap[Rm]? = some (.cells AB 4 (0, 0)) ∧ wx.heap[bs]? = some (.cells #[.slice (some ⟨Rs, 0, none⟩) C.length C.length] 26 (0, 0)) ∧ wx.heap[bm]? = some (.cells #[.slice (some ⟨Rm, 0, none⟩) C.length C.length] 122 (0, 0)) ∧ W2.heap.size ≤ Rs ∧ W2.heap.size ≤ Rm ∧ Below W2.heap.size W2 wx)
  case first =>
    clear hp hcp hf hok X0 X1 hb2
    have hml : C.length ≤ maxLen := by unfold maxLen; omega
    have mS := make_is 26 27 i1 (.slice none 0 0) Tryz.underlying26 hj hy0 hy1 C.length (by rw [hy2]; omega) hml AS (by rw [made_slices, ← HAS.out])
    have mB := make_is 122 4 i0 (.bool false) Tryz.underlying122 hi hz0 hz1 C.length (by rw [hz2]; omega) hml AB (by rw [made_bools, ← HAB.out])
    clear HAS HAB hi hz0 hz1 hz2 hj hy0 hy1 hy2 hml
    have f3c := fun o o' o2 => cell_old (cell_old (cell_old f3 o) o') o2
    go_region
    all_goals go_wp2_with fail
    all_goals go_meet
    all_goals first
      | exact ⟨_, _, _, _, rfl, rfl, (four_newD W2 _ _ _ _).1, (four_newD W2 _ _ _ _).2.1, (four_newD W2 _ _ _ _).2.2.1, (four_newD W2 _ _ _ _).2.2.2, by omega, by omega, (four_below W2 _ _ _ _).drew⟩
      | exact ⟨_, _, _, _, rfl, rfl, (four_newD W2 _ _ _ _).1, (four_newD W2 _ _ _ _).2.1, (four_newD W2 _ _ _ _).2.2.2, (four_newD W2 _ _ _ _).2.2.1, by omega, by omega, (four_below W2 _ _ _ _).drew⟩
      | exact ⟨_, _, _, _, rfl, rfl, (four_newD W2 _ _ _ _).1, (four_newD W2 _ _ _ _).2.2.1, (four_newD W2 _ _ _ _).2.1, (four_newD W2 _ _ _ _).2.2.2, by omega, by omega, (four_below W2 _ _ _ _).drew⟩
      | exact ⟨_, _, _, _, rfl, rfl, (four_newD W2 _ _ _ _).1, (four_newD W2 _ _ _ _).2.2.1, (four_newD W2 _ _ _ _).2.2.2, (four_newD W2 _ _ _ _).2.1, by omega, by omega, (four_below W2 _ _ _ _).drew⟩
      | exact ⟨_, _, _, _, rfl, rfl, (four_newD W2 _ _ _ _).1, (four_newD W2 _ _ _ _).2.2.2, (four_newD W2 _ _ _ _).2.1, (four_newD W2 _ _ _ _).2.2.1, by omega, by omega, (four_below W2 _ _ _ _).drew⟩
      | exact ⟨_, _, _, _, rfl, rfl, (four_newD W2 _ _ _ _).1, (four_newD W2 _ _ _ _).2.2.2, (four_newD W2 _ _ _ _).2.2.1, (four_newD W2 _ _ _ _).2.1, by omega, by omega, (four_below W2 _ _ _ _).drew⟩
      | exact ⟨_, _, _, _, rfl, rfl, (four_newD W2 _ _ _ _).2.1, (four_newD W2 _ _ _ _).1, (four_newD W2 _ _ _ _).2.2.1, (four_newD W2 _ _ _ _).2.2.2, by omega, by omega, (four_below W2 _ _ _ _).drew⟩
      | exact ⟨_, _, _, _, rfl, rfl, (four_newD W2 _ _ _ _).2.1, (four_newD W2 _ _ _ _).1, (four_newD W2 _ _ _ _).2.2.2, (four_newD W2 _ _ _ _).2.2.1, by omega, by omega, (four_below W2 _ _ _ _).drew⟩
      | exact ⟨_, _, _, _, rfl, rfl, (four_newD W2 _ _ _ _).2.1, (four_newD W2 _ _ _ _).2.2.1, (four_newD W2 _ _ _ _).1, (four_newD W2 _ _ _ _).2.2.2, by omega, by omega, (four_below W2 _ _ _ _).drew⟩
      | exact ⟨_, _, _, _, rfl, rfl, (four_newD W2 _ _ _ _).2.1, (four_newD W2 _ _ _ _).2.2.1, (four_newD W2 _ _ _ _).2.2.2, (four_newD W2 _ _ _ _).1, by omega, by omega, (four_below W2 _ _ _ _).drew⟩
      | exact ⟨_, _, _, _, rfl, rfl, (four_newD W2 _ _ _ _).2.1, (four_newD W2 _ _ _ _).2.2.2, (four_newD W2 _ _ _ _).1, (four_newD W2 _ _ _ _).2.2.1, by omega, by omega, (four_below W2 _ _ _ _).drew⟩
      | exact ⟨_, _, _, _, rfl, rfl, (four_newD W2 _ _ _ _).2.1, (four_newD W2 _ _ _ _).2.2.2, (four_newD W2 _ _ _ _).2.2.1, (four_newD W2 _ _ _ _).1, by omega, by omega, (four_below W2 _ _ _ _).drew⟩
      | exact ⟨_, _, _, _, rfl, rfl, (four_newD W2 _ _ _ _).2.2.1, (four_newD W2 _ _ _ _).1, (four_newD W2 _ _ _ _).2.1, (four_newD W2 _ _ _ _).2.2.2, by omega, by omega, (four_below W2 _ _ _ _).drew⟩
      | exact ⟨_, _, _, _, rfl, rfl, (four_newD W2 _ _ _ _).2.2.1, (four_newD W2 _ _ _ _).1, (four_newD W2 _ _ _ _).2.2.2, (four_newD W2 _ _ _ _).2.1, by omega, by omega, (four_below W2 _ _ _ _).drew⟩
      | exact ⟨_, _, _, _, rfl, rfl, (four_newD W2 _ _ _ _).2.2.1, (four_newD W2 _ _ _ _).2.1, (four_newD W2 _ _ _ _).1, (four_newD W2 _ _ _ _).2.2.2, by omega, by omega, (four_below W2 _ _ _ _).drew⟩
      | exact ⟨_, _, _, _, rfl, rfl, (four_newD W2 _ _ _ _).2.2.1, (four_newD W2 _ _ _ _).2.1, (four_newD W2 _ _ _ _).2.2.2, (four_newD W2 _ _ _ _).1, by omega, by omega, (four_below W2 _ _ _ _).drew⟩
      | exact ⟨_, _, _, _, rfl, rfl, (four_newD W2 _ _ _ _).2.2.1, (four_newD W2 _ _ _ _).2.2.2, (four_newD W2 _ _ _ _).1, (four_newD W2 _ _ _ _).2.1, by omega, by omega, (four_below W2 _ _ _ _).drew⟩
      | exact ⟨_, _, _, _, rfl, rfl, (four_newD W2 _ _ _ _).2.2.1, (four_newD W2 _ _ _ _).2.2.2, (four_newD W2 _ _ _ _).2.1, (four_newD W2 _ _ _ _).1, by omega, by omega, (four_below W2 _ _ _ _).drew⟩
      | exact ⟨_, _, _, _, rfl, rfl, (four_newD W2 _ _ _ _).2.2.2, (four_newD W2 _ _ _ _).1, (four_newD W2 _ _ _ _).2.1, (four_newD W2 _ _ _ _).2.2.1, by omega, by omega, (four_below W2 _ _ _ _).drew⟩
      | exact ⟨_, _, _, _, rfl, rfl, (four_newD W2 _ _ _ _).2.2.2, (four_newD W2 _ _ _ _).1, (four_newD W2 _ _ _ _).2.2.1, (four_newD W2 _ _ _ _).2.1, by omega, by omega, (four_below W2 _ _ _ _).drew⟩
      | exact ⟨_, _, _, _, rfl, rfl, (four_newD W2 _ _ _ _).2.2.2, (four_newD W2 _ _ _ _).2.1, (four_newD W2 _ _ _ _).1, (four_newD W2 _ _ _ _).2.2.1, by omega, by omega, (four_below W2 _ _ _ _).drew⟩
      | exact ⟨_, _, _, _, rfl, rfl, (four_newD W2 _ _ _ _).2.2.2, (four_newD W2 _ _ _ _).2.1, (four_newD W2 _ _ _ _).2.2.1, (four_newD W2 _ _ _ _).1, by omega, by omega, (four_below W2 _ _ _ _).drew⟩
      | exact ⟨_, _, _, _, rfl, rfl, (four_newD W2 _ _ _ _).2.2.2, (four_newD W2 _ _ _ _).2.2.1, (four_newD W2 _ _ _ _).1, (four_newD W2 _ _ _ _).2.1, by omega, by omega, (four_below W2 _ _ _ _).drew⟩
      | exact ⟨_, _, _, _, rfl, rfl, (four_newD W2 _ _ _ _).2.2.2, (four_newD W2 _ _ _ _).2.2.1, (four_newD W2 _ _ _ _).2.1, (four_newD W2 _ _ _ _).1, by omega, by omega, (four_below W2 _ _ _ _).drew⟩
  case rest =>
    obtain ⟨bs, bm, Rs, Rm, rfl, rfl, qRs, qRm, qbs, qbm, lRs, lRm, hbc⟩ := hcut
    have hne : Rs ≠ Rm := fun e => by rw [e, qRm] at qRs; simp at qRs
    have hBw : Below w.heap.size w wc := hb2.trans (hbc.mono hb2.size)
    have qf := (hbc.block _ lx1).trans X1.out
    have qp0 := (hbc.block _ (heap_lt X0.out)).trans X0.out
    obtain ⟨x, hx⟩ : ∃ x : FB, x = ⟨.slice pp p.length qp, .int .i64 P, .slice p1 L.length q1, .int .i64 r, .slice p3 C.length q3, w.heap.size + 1, bm, bs, w.heap.size, wc.heap.size, Rs, Rm⟩ := ⟨_, rfl⟩
    obtain ⟨W3, hW3⟩ : ∃ W3, wc.alloc (.cells #[.func (.func 141) #[] #[.pointer (some ⟨w.heap.size + 1, 0, none⟩), .pointer (some ⟨bm, 0, none⟩), .pointer (some ⟨bs, 0, none⟩), .pointer (some ⟨w.heap.size, 0, none⟩), .pointer (some ⟨wc.heap.size, 0, none⟩)]] 165) = W3 := ⟨_, rfl⟩
    have hI3 : FI x w p (P, L, r, C) (List.replicate C.length none) W3 := by
      subst hx
      have hb3 : Below wc.heap.size wc W3 := by rw [← hW3]; exact (Below.refl _ wc).alloc (Nat.le_refl _) _
      have old : ∀ (k : Nat) (o : Obj), wc.heap[k]? = some o → W3.heap[k]? = some o := fun k o h => (hb3.block k (heap_lt h)).trans h
      refine ⟨hBw.trans (hb3.mono hBw.size), by simp, ?_, ⟨List.replicate C.length (.slice none 0 0), by simp, ?_, ?_, ?_⟩, ?_, ?_, old _ _ qf, old _ _ qp0, ?_, ?_⟩
      · have := old _ _ qRm
        rw [← HAB.out] at this
        simpa using this
      · have := old _ _ qRs
        rw [← HAS.out] at this
        exact this
      · intro v hv
        exact ⟨_, _, _, List.eq_of_mem_replicate hv⟩
      · intro k s hk
        rw [List.getElem?_replicate] at hk
        split at hk <;> cases hk
      · have := old _ _ qbm
        simpa using this
      · have := old _ _ qbs
        simpa using this
      · show W3.heap[wc.heap.size]? = _
        rw [← hW3]
        exact World.alloc_heap_new wc _
      · intro k s hk
        rw [List.getElem?_replicate] at hk
        split at hk <;> cases hk
    have hCl : C.length ≠ 0 := by
      have := (flowErr_zero hok.flow).2.1
      exact this
    have hcome := come_any x w p (P, L, r, C) (by rw [hx]; exact hp) (by rw [hx]; exact hcp) (by rw [hx]; exact hf) hok (by rw [hx]; exact hne) (by rw [hx]; exact Nat.le_trans hb2.size lRs) (by rw [hx]; exact Nat.le_trans hb2.size lRm) (mu (List.replicate C.length none)) (List.replicate C.length none) 0 [] (.slice none 0 0) W3.drew (Nat.le_refl _) (hI3.below ((Below.refl _ W3).drew)) (Nat.zero_le _) ⟨none, 0, rfl, by simp, fun k z hk => by simp at hk⟩ nilOk_nil (by simp) (fun t ht => by simp at ht)
    have c1 := cell_at' hI3.hbs 0
    have c2 := cell_at' hI3.hbc 0
    have hbs3 : x.bs = bs := by rw [hx]
    have hbc3 : x.bc = wc.heap.size := by rw [hx]
    have hRs3 : x.Rs = Rs := by rw [hx]
    have hcaps : caps x = #[.pointer (some ⟨w.heap.size + 1, 0, none⟩), .pointer (some ⟨bm, 0, none⟩), .pointer (some ⟨bs, 0, none⟩), .pointer (some ⟨w.heap.size, 0, none⟩), .pointer (some ⟨wc.heap.size, 0, none⟩)] := by rw [hx]
    rw [hbs3, hRs3] at c1
    rw [hbc3, hcaps] at c2
    rw [hcaps] at hcome
    simp at c1 c2
    have HC := hideP hcome
    have HBS := hideP hbs3
    have HBC := hideP hbc3
    have HRS := hideP hRs3
    have HCAPS := hideP hcaps
    clear hcome hx hbs3 hbc3 hRs3 hcaps hI3 qRs qRm qbs qbm qf qp0 X0 X1 HAS HAB hBw f3 f3a f3b
    go_wp2_with fail
    go_region_held3 (fun W => W.cell? ⟨bs, 0, none⟩ = some (.slice (some ⟨Rs, 0, none⟩) C.length C.length) ∧ W.cell? ⟨wc.heap.size, 0, none⟩ = some (.func (.func 141) #[] #[.pointer (some ⟨w.heap.size + 1, 0, none⟩), .pointer (some ⟨bm, 0, none⟩), .pointer (some ⟨bs, 0, none⟩), .pointer (some ⟨w.heap.size, 0, none⟩), .pointer (some ⟨wc.heap.size, 0, none⟩)])) (go_keep)
      (first
        | (go_at_call 141; refine HC.out.mono ?_; rintro e w4 ⟨ok, E4, rfl, hI4, hw4, hs4, hd4⟩; have d1 := cell_at' hI4.hbs 0; have d2 := cell_at' hI4.hbc 0; rw [HBS.out, HRS.out, hI4.len] at d1; rw [HBC.out, HCAPS.out] at d2; simp at d1 d2; have HI4 := hideP hI4; have HS4 := hideP hs4; have HD4 := hideP hd4; clear hI4 hs4 hd4))
    all_goals go_wp2
    all_goals go_ret2
    all_goals
      obtain ⟨V, v1, v2, v3, v4⟩ := HI4.out.hRs
      rw [HRS.out] at v2
      have hlen4 := HI4.out.len
      simp only at hlen4
      refine ⟨ok, E4, Rs, V, by rw [hlen4]; rfl, hlen4, v1, v2, fun k s hk => ?_, ?_, HI4.out.bel⟩
      · obtain ⟨v, a, b, c⟩ := v4 k s hk
        exact ⟨(HI4.out.ok k s hk).1, v, a, b, c⟩
      · have hnone : ∀ k, ent (List.replicate C.length (none : Option (List Int))) k = none := by
          intro k
          unfold ent
          rw [List.getElem?_replicate]
          split <;> rfl
        have hle0 : ∀ e' : Nat → Option (List Int), leE (ent (List.replicate C.length none)) e' := fun e' pc s h => by rw [hnone] at h; cases h
        cases ok
        · intro e' hfit
          have := HS4.out e' hfit (hle0 e') ⟨[], hfit.first, rfl⟩
          exact absurd this.1 (by decide)
        · obtain ⟨hwe, _, s', h1, h2⟩ := HD4.out rfl
          have hs' : s' = [] := by
            cases s' with
            | nil => rfl
            | cons _ _ => simp [leS] at h2
          subst hs'
          refine ⟨⟨h1, fun pc s hs => ?_⟩, fun e' hfit => (HS4.out e' hfit (hle0 e') ⟨[], hfit.first, rfl⟩).2⟩
          rcases hwe.done pc with h3 | h3
          · rw [hs, hnone] at h3; cases h3
          · obtain ⟨s2, o, out, a1, a2, a3, a4⟩ := h3
            rw [hs] at a1
            cases a1
            exact ⟨o, out, a2, a3, a4⟩
end Go.Proofs.YtcadpoknolefpaaGreat


/- fresh.Blocks; block.find, Get, Set. -/
namespace Go.Proofs.YtcadpoknolefpaaGreat
open Go.RowKit
set_option linter.unusedSimpArgs false
set_option linter.unusedVariables false
theorem set_list (q : List Value) (k : Nat) (x : Value) : q.toArray.setIfInBounds k x = (q.set k x).toArray := by
  apply Array.ext'
  simp
theorem set_mid {α : Type} (q : List α) (n : Nat) (z x : α) (hk : q.length < n) : (q ++ List.replicate (n - q.length) z).set q.length x = (q ++ [x]) ++ List.replicate (n - (q ++ [x]).length) z := by
  obtain ⟨m, hm⟩ : ∃ m, n - q.length = m + 1 := ⟨n - q.length - 1, by omega⟩
  have h2 : n - (q ++ [x]).length = m := by simp; omega
  rw [hm, h2, List.set_append_right _ _ (Nat.le_refl _), Nat.sub_self, List.replicate_succ, List.set_cons_zero, List.append_assoc]
  rfl
set_option maxRecDepth 100000 in
set_option maxHeartbeats 2000000 in
theorem freshBlocks_any (L : List (List Int)) (v : Value) (w : World) (h : BlksAt w v L) (h8 : L.length ≤ 8) (h40 : ∀ b ∈ L, b.length ≤ 40) : Calls Tryz.prog 85 #[v] w fun e w' => ∃ u, e = .returned u ∧ BlksOwn w' w.heap.size u L ∧ Below w.heap.size w w' := by
  obtain ⟨i1, hj, hy0, hy1, hy2⟩ := info_parts infoInts
  obtain ⟨p, cap, hv, hm, hc⟩ := id h
  subst hv
  have H := hideP h
  have H40 := hideP h40
  clear h h40 hm hc
  go_enter Tryz.func85, Tryz.ntmps85
  go_wp2_with (at_make; refine wpList_make_full _ rfl _ _ 26 rfl w.heap.size 27 i1 (.slice none 0 0) 1 Tryz.underlying26 hj hy0 hy1 _ _ _ _ L.length rfl rfl rfl rfl (by rw [hy2]; omega) (by unfold maxLen; omega) (Nat.le_refl _) ?_; intro w1 hown1 hg1)
  rw [made_slices] at hown1
  have hR1 := row_full hown1 (by simp)
  have hB1 : Below w.heap.size w w1 := (Below.refl _ w).grown hg1 (Nat.le_refl _) (fun k hk => by cases hk)
  have hlt1 := heap_lt hR1
  clear hown1 hg1 hj hy0 hy1 hy2
  have HR1 := hideP hR1
  clear hR1
  go_loopw [4, 5, 11] (fun _ _ i wr => ∃ q : List Value, q.length ≤ L.length ∧ i = .int .i64 q.length ∧ wr.heap[w.heap.size]? = some (.cells (q ++ List.replicate (L.length - q.length) (Value.slice none 0 0)).toArray 27 (0, 0)) ∧ BRows wr w.heap.size q (L.take q.length) ∧ Below w.heap.size w wr) (fun _ _ i _ => L.length - (intOf i).toNat)
  case atStart => exact ⟨[], Nat.zero_le _, rfl, by simpa using HR1.out, bRows_nil _ _, hB1⟩
  case round =>
    rename World => w2
    obtain ⟨q, hq, rfl, hR2, hr2, hb2⟩ := hrel
    have HR2 := hideP hR2
    have HRW := hideP hr2
    have hlt2 := heap_lt hR2
    have hz : ∀ k, w2.frozen? ⟨w.heap.size, k, none⟩ = false := fun k => Lib.frozen_of_heap hR2 k
    clear hR2 hr2
    by_cases hlt : q.length < L.length
    · have hlti : (q.length : Int) < (L.length : Int) := by omega
      obtain ⟨b, hb⟩ := at_of_lt hlt
      have h2 := H.out.below hb2
      obtain ⟨p2, c2, he, _, hc⟩ := h2
      cases he
      obtain ⟨g, off, c, hp, hg, h0, h1, hn, _⟩ := hc _ b hb
      subst hp
      obtain ⟨p1, q1, hc1, _, _⟩ := id h1
      subst hc1
      have hbl := H40.out b (List.mem_of_getElem? hb)
      have HCL := hideP (cloneInt_any b _ w2 h1 hn (by omega))
      have HB := hideP hb
      clear hc hb h1 hn
      go_wp2_with fail
      refine HCL.out.mono ?_
      rintro e w3 ⟨u3, rfl, r3, hb3⟩
      obtain ⟨p3, c3, hu3⟩ := row_shp r3
      subst hu3
      have hR3 := (hb3.block _ hlt2).trans HR2.out
      have hz3 : ∀ k, w3.frozen? ⟨w.heap.size, k, none⟩ = false := fun k => Lib.frozen_of_heap hR3 k
      have hw3 : ∀ k, k < L.length → ∃ u, w3.cell? ⟨w.heap.size, k, none⟩ = some u := fun k hk => by
        rw [cell_at' hR3]
        have : k < (q ++ List.replicate (L.length - q.length) (Value.slice none 0 0)).length := by simp; omega
        obtain ⟨u, hu⟩ := at_of_lt this
        exact ⟨u, by simpa using hu⟩
      obtain ⟨u9, hu9⟩ := hw3 q.length hlt
      have hz9 := hz3 q.length
      have HR3 := hideP hR3
      have HR := hideP r3
      clear hR3 r3 hz3 hw3 hz
      go_wp2
      go_roundw
      case rel =>
        have hs := heap_setCell_same w3 w.heap.size q.length _ _ (.slice p3 b.length c3) HR3.out
        rw [set_list, set_mid q L.length _ _ hlt] at hs
        have hgs := set_grown w3 ⟨w.heap.size, q.length, none⟩ (.slice p3 b.length c3)
        have hb23 := hb2.trans (hb3.mono hb2.size)
        have hrow : (w3.setCell ⟨w.heap.size, q.length, none⟩ (.slice p3 b.length c3)).ownsRow w2.heap.size 3 1 (.slice p3 b.length c3) b.length (b.map (Value.int .i64)) := HR.out.kept hgs (.inr (row_not HR.out HR3.out (by decide)).symm)
        have hrows : BRows (w3.setCell ⟨w.heap.size, q.length, none⟩ (.slice p3 b.length c3)) w.heap.size q (L.take q.length) := (HRW.out.below hb3).same fun k x g h1 hg => by
          obtain ⟨_, hg2, cs, hg3⟩ := (HRW.out.below hb3).lt h1 hg
          exact hgs.block g hg2 (fun e => by cases e; rw [HR3.out] at hg3; simp at hg3)
        refine ⟨q ++ [.slice p3 b.length c3], by simp; omega, by rw [List.length_append, List.length_singleton]; go_num, hs, ?_, hb23.setCell (Nat.le_refl _) _⟩
        rw [List.length_append, List.length_singleton, take_snoc L q.length b HB.out]
        exact hrows.snoc hrow (by have := hb2.size; omega) (fun k y g h1 hg => (HRW.out.lt h1 hg).2.1) (by omega)
      case measure => simp [intOf]; omega
    · have hlti : ¬ (q.length : Int) < (L.length : Int) := by omega
      have hql : q.length = L.length := by omega
      have HQL := hideP hql
      clear hql
      go_wp2
      go_ret
      have hr := HRW.out
      have hh := HR2.out
      rw [HQL.out, Nat.sub_self] at hh
      rw [HQL.out, List.take_of_length_le (Nat.le_refl _)] at hr
      refine ⟨_, rfl, ⟨q, ?_, hr⟩, hb2⟩
      rw [HQL.out]
      exact ⟨by rw [HQL.out]; simp, .inr ⟨w.heap.size, L.length, _, rfl, Nat.le_refl _, hh, Nat.le_refl _, by unfold maxLen; omega, by simp [HQL.out], by simp; rw [← HQL.out]; simp⟩⟩
set_option maxRecDepth 100000 in
set_option maxHeartbeats 1000000 in
theorem find_any (L : List (List Int)) (ref at_ : Int) (hr : -9223372036854775808 ≤ ref ∧ ref ≤ 9223372036854775807) (v : Value) (w : World) (h : BlksAt w v L) : Calls Tryz.prog 224 #[v, .int .i64 ref, .int .i64 at_] w fun e w' => e = .returned (.int .i64 (placeErr L ref at_)) ∧ Below w.heap.size w w' := by
  obtain ⟨p, cap, hv, _, _⟩ := id h
  subst hv
  have HCK := hideP (bCheck_any L _ w h)
  by_cases he : blkErr L = 0
  · have hp : placeErr L ref at_ = if ref = 0 then 5 else if ref < 0 ∨ (L.length : Int) < ref ∨ at_ < 0 ∨ ((blkAt L ref).length : Int) ≤ at_ then 3 else 0 := by unfold placeErr; rw [if_neg (by simpa using he)]
    rw [he] at HCK
    obtain ⟨h8, _, _⟩ := blkErr_zero he
    rw [hp]
    clear he hp
    by_cases h0 : ref = 0
    · subst h0
      rw [if_pos rfl]
      clear h
      go_enter Tryz.func224, Tryz.ntmps224
      go_wp2_with (go_at_call 120; refine HCK.out.mono ?_; rintro e w1 ⟨rfl, hb1⟩)
      go_ret
      exact ⟨rfl, hb1⟩
    rw [if_neg h0]
    have h0' : (ref == 0) = false := by simp [h0]
    cases hro : refOk L.length ref
    · have hbad : ref < 0 ∨ (L.length : Int) < ref := by
        unfold refOk at hro
        simp at hro
        omega
      rw [if_pos (by omega)]
      clear hbad h h0
      go_enter Tryz.func224, Tryz.ntmps224
      go_wp2_with (first | (go_at_call 120; refine HCK.out.mono ?_; rintro e w1 ⟨rfl, hb1⟩) | (go_at_call 122; refine (bIsRef_any L ref _ _ _).mono ?_; rw [hro]; rintro e w2 ⟨rfl, hw⟩; have hw := hw.symm; subst hw))
      go_ret
      exact ⟨rfl, hb1⟩
    · have hgood : 0 ≤ ref ∧ ref ≤ (L.length : Int) := by
        unfold refOk at hro
        simpa using hro
      obtain ⟨j, hj⟩ : ∃ j : Nat, ref = (j : Int) + 1 := ⟨(ref - 1).toNat, by omega⟩
      have hjl : j < L.length := by omega
      obtain ⟨b, hb⟩ := at_of_lt hjl
      have hba := blkAt_some hb hj
      rw [hba]
      by_cases ha : at_ < 0
      · rw [if_pos (by omega)]
        clear h h0 hj hb hba
        have hd : decide (at_ < 0) = true := by simpa using ha
        go_enter Tryz.func224, Tryz.ntmps224
        go_wp2_with (first | (go_at_call 120; refine HCK.out.mono ?_; rintro e w1 ⟨rfl, hb1⟩) | (go_at_call 122; refine (bIsRef_any L ref _ _ _).mono ?_; rw [hro]; rintro e w2 ⟨rfl, hw⟩; have hw := hw.symm; subst hw))
        go_ret
        exact ⟨rfl, hb1⟩
      · have hd : decide (at_ < 0) = false := by simpa using ha
        have H := hideP h
        have HB := hideP hb
        subst hj
        clear h h0 hb hba
        have hw1 : wrap64 ((j : Int) + 1 - 1) = (j : Int) := by unfold wrap64; omega
        have hw2 : (j : Int) + 1 - 1 = (j : Int) := by omega
        have hji : (j : Int) < (L.length : Int) := by omega
        by_cases hge : ((b.length : Nat) : Int) ≤ at_
        all_goals
          first
            | rw [if_pos (by omega)]
            | rw [if_neg (by omega)]
          go_enter Tryz.func224, Tryz.ntmps224
          go_wp2_with fail
          refine HCK.out.mono ?_
          rintro e w1 ⟨rfl, hb1⟩
          obtain ⟨p2, c2, hee, _, hc⟩ := H.out.below hb1
          cases hee
          obtain ⟨g, off, c, hp, hg, g0, g1, _, _⟩ := hc j b HB.out
          subst hp
          obtain ⟨p3, c3, hc3, _, _⟩ := g1
          subst hc3
          clear hc
          go_wp2_with (go_at_call 122; refine (bIsRef_any L _ _ _ _).mono ?_; rw [hro]; rintro e w2 ⟨rfl, hw⟩; have hw := hw.symm; subst hw)
          go_ret
          exact ⟨rfl, hb1⟩
  · have hp : placeErr L ref at_ = blkErr L := by unfold placeErr; rw [if_pos he]
    have he' : (blkErr L != 0) = true := by simp [he]
    rw [hp]
    clear h hp he
    go_enter Tryz.func224, Tryz.ntmps224
    go_wp2_with (go_at_call 120; refine HCK.out.mono ?_; rintro e w1 ⟨rfl, hb1⟩)
    go_ret
    exact ⟨rfl, hb1⟩
end Go.Proofs.YtcadpoknolefpaaGreat


/- block.Get, Set, New. -/
namespace Go.Proofs.YtcadpoknolefpaaGreat
open Go.RowKit
set_option linter.unusedSimpArgs false
set_option linter.unusedVariables false
theorem place_zero {L : List (List Int)} {ref at_ : Int} (h : placeErr L ref at_ = 0) : blkErr L = 0 ∧ ∃ (j k : Nat) (b : List Int) (z : Int), ref = (j : Int) + 1 ∧ at_ = (k : Int) ∧ L[j]? = some b ∧ b[k]? = some z := by
  unfold placeErr at h
  by_cases he : blkErr L = 0
  · rw [if_neg (by simpa using he)] at h
    by_cases h0 : ref = 0
    · rw [if_pos h0] at h; cases h
    rw [if_neg h0] at h
    by_cases h1 : ref < 0 ∨ (L.length : Int) < ref ∨ at_ < 0 ∨ ((blkAt L ref).length : Int) ≤ at_
    · rw [if_pos h1] at h; cases h
    obtain ⟨j, hj⟩ : ∃ j : Nat, ref = (j : Int) + 1 := ⟨(ref - 1).toNat, by omega⟩
    obtain ⟨k, hk⟩ : ∃ k : Nat, at_ = (k : Int) := ⟨at_.toNat, by omega⟩
    obtain ⟨b, hb⟩ := at_of_lt (l := L) (k := j) (by omega)
    have hba := blkAt_some hb hj
    rw [hba] at h1
    obtain ⟨z, hz⟩ := at_of_lt (l := b) (k := k) (by omega)
    exact ⟨he, j, k, b, z, hj, hk, hb, hz⟩
  · rw [if_pos he] at h; exact absurd h he
set_option maxRecDepth 100000 in
set_option maxHeartbeats 1000000 in
theorem bGet_any (L : List (List Int)) (ref at_ : Int) (hr : -9223372036854775808 ≤ ref ∧ ref ≤ 9223372036854775807) (v : Value) (w : World) (h : BlksAt w v L) : Calls Tryz.prog 187 #[v, .int .i64 ref, .int .i64 at_] w fun e w' => e = .returned (.tuple #[.int .i64 (getR L ref at_), .int .i64 (placeErr L ref at_)]) ∧ Below w.heap.size w w' := by
  obtain ⟨p, cap, hv, _, _⟩ := id h
  subst hv
  have HF := hideP (find_any L ref at_ hr _ w h)
  by_cases he : placeErr L ref at_ = 0
  · obtain ⟨_, j, k, b, z, hj, hk, hb, hz⟩ := place_zero he
    have hg : getR L ref at_ = z := by
      rw [getR, if_pos he, getL, blkAt_some hb hj, hk]
      simp [hz]
    rw [he] at HF
    rw [he, hg]
    have hjl := lt_of_at hb
    have hkl := lt_of_at hz
    have hm : (L.length : Int) ≤ 9223372036854775807 := by obtain ⟨_, _, _, hm, _⟩ := h; unfold maxLen at hm; omega
    have H := hideP h
    have HB := hideP hb
    have HZ := hideP hz
    subst hj hk
    clear h hb hz he hg
    have hw1 : wrap64 ((j : Int) + 1 - 1) = (j : Int) := by unfold wrap64; omega
    have hw2 : (j : Int) + 1 - 1 = (j : Int) := by omega
    have hji : (j : Int) < (L.length : Int) := by omega
    have hki : (k : Int) < (b.length : Int) := by omega
    go_enter Tryz.func187, Tryz.ntmps187
    go_wp2_with fail
    refine HF.out.mono ?_
    rintro e w1 ⟨rfl, hb1⟩
    obtain ⟨p2, c2, hee, _, hc⟩ := H.out.below hb1
    cases hee
    obtain ⟨g, off, c, hp, hg, g0, g1, _, _⟩ := hc j b HB.out
    subst hp
    obtain ⟨p3, c3, hc3, _, hc4⟩ := g1
    subst hc3
    obtain ⟨g', off', hp', _, g2⟩ := hc4 k z HZ.out
    subst hp'
    clear hc hc4
    go_wp2
    go_ret2
    exact ⟨rfl, hb1⟩
  · have he' : (placeErr L ref at_ != 0) = true := by simp [he]
    have hg : getR L ref at_ = 0 := by rw [getR, if_neg he]
    rw [hg]
    clear h hg he
    go_enter Tryz.func187, Tryz.ntmps187
    go_wp2_with (go_at_call 224; refine HF.out.mono ?_; rintro e w1 ⟨rfl, hb1⟩)
    go_ret2
    exact ⟨rfl, hb1⟩
theorem BRows.put {W : World} {B : Nat} {q : List Value} {L : List (List Int)} (h : BRows W B q L) {j k g : Nat} {b : List Int} {n cap : Nat} (hq : q[j]? = some (.slice (some ⟨g, 0, none⟩) n cap)) (hb : L[j]? = some b) (hk : k < b.length) (z : Int) : BRows (W.setCell ⟨g, k, none⟩ (.int .i64 z)) B q (L.set j (b.set k z)) := by
  have hgs := set_grown W ⟨g, k, none⟩ (.int .i64 z)
  refine ⟨by simp [h.len], fun i x c hx hc => ?_, h.apart, fun c hc => ?_⟩
  · by_cases e : j = i
    · subst e
      rw [hq] at hx; cases hx
      rw [List.getElem?_set_self (lt_of_at hb)] at hc
      cases hc
      have hr := h.each j _ b hq hb
      rcases hr.2 with ⟨h1, _⟩ | ⟨g', cap', cur, h1, h2, h3, h4, h5, h6, h7⟩
      · cases h1
      · cases h1
        have hs := heap_setCell_same W g k _ _ (.int .i64 z) h3
        refine ⟨by simp, .inr ⟨g, cap, _, by simp, h2, hs, by simpa using h4, h5, by simpa using h6, ?_⟩⟩
        have e1 : (cur.setIfInBounds k (Value.int .i64 z)).toList = cur.toList.set k (.int .i64 z) := by simp
        rw [e1, List.length_set, List.take_set, h7, List.map_set]
    · rw [List.getElem?_set_ne e] at hc
      refine (h.each i x c hx hc).kept hgs ?_
      cases ho : x.ownBlock with
      | none => exact .inl rfl
      | some y =>
        right
        intro e2
        simp at e2
        exact e (h.apart j i _ x g hq hx rfl (by rw [ho, e2]))
  · rcases List.mem_or_eq_of_mem_set hc with hc | rfl
    · exact h.small c hc
    · rw [List.length_set]; exact h.small b (List.mem_of_getElem? hb)
set_option maxRecDepth 100000 in
set_option maxHeartbeats 1000000 in
theorem bSet_any (L : List (List Int)) (ref at_ n : Int) (hr : -9223372036854775808 ≤ ref ∧ ref ≤ 9223372036854775807) (v : Value) (w : World) (h : BlksAt w v L) : Calls Tryz.prog 189 #[v, .int .i64 ref, .int .i64 at_, .int .i64 n] w fun e w' => ∃ u, e = .returned (.tuple #[u, .int .i64 (setErr L ref at_ n)]) ∧ BlksOwn w' w.heap.size u (setR L ref at_ n) ∧ Below w.heap.size w w' := by
  obtain ⟨p, cap, hv, _, _⟩ := id h
  subst hv
  have HF := hideP (find_any L ref at_ hr _ w h)
  by_cases he : placeErr L ref at_ = 0
  · rw [he] at HF
    have hse : setErr L ref at_ n = if isI32 n = true then 0 else 3 := by unfold setErr; rw [if_neg (by simpa using he)]
    cases hn : isI32 n
    · have hse2 : setErr L ref at_ n = 3 := by rw [hse, hn]; rfl
      have hsr : setR L ref at_ n = [] := by rw [setR, if_neg (by rw [hse2]; decide)]
      rw [hse2, hsr]
      clear h he hse hse2 hsr
      go_enter Tryz.func189, Tryz.ntmps189
      go_wp2_with (first | (go_at_call 224; refine HF.out.mono ?_; rintro e w1 ⟨rfl, hb1⟩) | (go_at_call 169; refine (bNumber_any n _).mono ?_; rw [hn]; rintro e w2 ⟨rfl, hw⟩; have hw := hw.symm; subst hw))
      go_ret2
      exact ⟨_, rfl, blksOwn_nil _ _, hb1⟩
    · have hse2 : setErr L ref at_ n = 0 := by rw [hse, hn]; rfl
      obtain ⟨hbe, j, k, b, z, hj, hk, hb, hz⟩ := place_zero he
      have hsr : setR L ref at_ n = L.set j (b.set k n) := by
        rw [setR, if_pos hse2, setL, blkAt_some hb hj, hk, hj, show ((j : Int) + 1 - 1).toNat = j by omega, Int.toNat_natCast]
      rw [hse2, hsr]
      obtain ⟨h8, h40, _⟩ := blkErr_zero hbe
      have hsm : ∀ b ∈ L, b.length ≤ 40 := fun b hb => by
        obtain ⟨i, hi⟩ := List.getElem?_of_mem hb
        have := cellsN_mem hi
        omega
      have hjl := lt_of_at hb
      have hkl := lt_of_at hz
      have H := hideP h
      have HB := hideP hb
      have HSM := hideP hsm
      subst hj hk
      clear h hb hz he hse hse2 hsr hbe hsm
      have hw1 : wrap64 ((j : Int) + 1 - 1) = (j : Int) := by unfold wrap64; omega
      have hw2 : (j : Int) + 1 - 1 = (j : Int) := by omega
      have hji : (j : Int) < (L.length : Int) := by omega
      have hki : (k : Int) < (b.length : Int) := by omega
      go_enter Tryz.func189, Tryz.ntmps189
      go_wp2_with (first | (go_at_call 224; refine HF.out.mono ?_; rintro e w1 ⟨rfl, hb1⟩) | (go_at_call 169; refine (bNumber_any n _).mono ?_; rw [hn]; rintro e w2 ⟨rfl, hw⟩; have hw := hw.symm; subst hw) | fail)
      refine (freshBlocks_any L _ _ (H.out.below hb1) h8 HSM.out).mono ?_
      rintro e w2 ⟨u, rfl, ⟨q, hrow, hrs⟩, hb2⟩
      obtain ⟨x, hx⟩ := at_of_lt (l := q) (k := j) (by rw [hrs.len]; exact hjl)
      have hbx := hrs.each j x b hx HB.out
      rcases hrow.2 with ⟨hu, h0⟩ | ⟨R, capR, cur, hu, hBR, hR, hn1, hn2, hn3, hn4⟩
      · have := hrs.len; omega
      rcases hbx.2 with ⟨hxv, h0⟩ | ⟨g, capg, curg, hxv, hBg, hg, hm1, hm2, hm3, hm4⟩
      · omega
      subst hu hxv
      have c0 : w2.cell? ⟨R, j, none⟩ = some (.slice (some ⟨g, 0, none⟩) b.length capg) := by
        have hq := hx
        rw [← hn4, List.getElem?_take_of_lt (by have := hrs.len; omega)] at hq
        rw [cell_at' hR]; simpa using hq
      have c1 : ∃ y, w2.cell? ⟨g, k, none⟩ = some y := by
        rw [cell_at' hg]
        obtain ⟨y, hy⟩ := at_of_lt (l := curg.toList) (k := k) (by simp; omega)
        exact ⟨y, by simpa using hy⟩
      obtain ⟨y, c1⟩ := c1
      have z1 := Lib.frozen_of_heap hg k
      have hqL := hrs.len
      have hRg : R ≠ g := fun e => by rw [e, hg] at hR; simp at hR
      have HRS := hideP hrs
      have HROW := hideP hrow
      have HX := hideP hx
      have hjq : (j : Int) < (q.length : Int) := by omega
      have HQL := hideP hqL
      clear hrs hrow hx hbx hR hg hn1 hn2 hn3 hn4 hm1 hm2 hm3 hm4 hqL
      go_wp2
      go_ret2
      refine ⟨.slice (some ⟨R, 0, none⟩) q.length capR, rfl, ⟨q, ?_, (HRS.out.put HX.out HB.out hkl n).low hb1.size⟩, (bthen0 hb1 hb2).setCell ?_ _⟩
      · exact row_same (row_low HROW.out hb1.size) fun r hr => by
          cases hr
          exact (set_grown w2 ⟨g, k, none⟩ (.int .i64 n)).block R (HROW.out.lt R rfl).2 (fun e => hRg (by simpa using e))
      · show w.heap.size ≤ g
        have := hb1.size
        omega
  · have he' : (placeErr L ref at_ != 0) = true := by simp [he]
    have hse : setErr L ref at_ n = placeErr L ref at_ := by unfold setErr; rw [if_pos he]
    have hg : setR L ref at_ n = [] := by rw [setR, if_neg (by rw [hse]; exact he)]
    rw [hse, hg]
    clear h hg he hse
    go_enter Tryz.func189, Tryz.ntmps189
    go_wp2_with (go_at_call 224; refine HF.out.mono ?_; rintro e w1 ⟨rfl, hb1⟩)
    go_ret2
    exact ⟨_, rfl, blksOwn_nil _ _, hb1⟩
end Go.Proofs.YtcadpoknolefpaaGreat


/- verify.entries. -/
namespace Go.Proofs.YtcadpoknolefpaaGreat
open Go.RowKit
set_option linter.unusedSimpArgs false
set_option linter.unusedVariables false
theorem infoEntry : (Tryz.prog.info? 94).map (fun i => (i.zero, i.size, i.bytes)) = some (some (.agg #[.int .i64 0, .slice none 0 0]), 2, 32) := by kernel_rfl
def entCells (q : List (Nat × Value)) : List Value := q.flatMap fun x => [.int .i64 x.1, x.2]
def EntRows (W : World) (B : Nat) (q : List (Nat × Value)) (l : List (Nat × List Int)) : Prop :=
  q.length = l.length ∧ ∀ (k : Nat) (x : Nat × Value) (y : Nat × List Int), q[k]? = some x → l[k]? = some y → x.1 = y.1 ∧ W.ownsRow B 3 1 x.2 y.2.length (y.2.map (Value.int .i64))
theorem EntRows.kept {W W' : World} {B : Nat} {q : List (Nat × Value)} {l : List (Nat × List Int)} {row : Option Nat} (h : EntRows W B q l) (hg : W.grownBy W' row) (hr : ∀ r, row = some r → ∃ cs t fz, W.heap[r]? = some (.cells cs t fz) ∧ t ≠ 3) : EntRows W' B q l := by
  refine ⟨h.1, fun k x y hx hy => ?_⟩
  obtain ⟨h1, h2⟩ := h.2 k x y hx hy
  refine ⟨h1, row_same h2 fun j hj => hg.block j (h2.lt j hj).2 (fun e => ?_)⟩
  obtain ⟨cs, t, fz, h3, h4⟩ := hr j e.symm
  exact row_not h2 h3 h4 hj.symm
theorem EntRows.snoc {W : World} {B : Nat} {q : List (Nat × Value)} {l : List (Nat × List Int)} {pc : Nat} {u : Value} {s : List Int} (h : EntRows W B q l) (hu : W.ownsRow B 3 1 u s.length (s.map (Value.int .i64))) : EntRows W B (q ++ [(pc, u)]) (l ++ [(pc, s)]) := by
  refine ⟨by simp [h.1], fun k x y hx hy => ?_⟩
  by_cases hk : k < q.length
  · rw [List.getElem?_append_left hk] at hx
    rw [List.getElem?_append_left (by rw [← h.1]; exact hk)] at hy
    exact h.2 k x y hx hy
  · rw [List.getElem?_append_right (by omega)] at hx
    rw [List.getElem?_append_right (by rw [← h.1]; omega)] at hy
    have hk0 : k - q.length = 0 := by
      have := lt_of_at hx
      simp at this
      omega
    rw [hk0] at hx
    rw [← h.1, hk0] at hy
    simp at hx hy
    subst hx hy
    exact ⟨rfl, hu⟩
def EntsP (w : World) (l : List (Nat × List Int)) (e : Ending) (w' : World) : Prop := ∃ v q, e = .returned v ∧ w'.ownsRow w.heap.size 94 2 v q.length (entCells q) ∧ EntRows w' w.heap.size q l ∧ Below w.heap.size w w'
set_option maxRecDepth 100000 in
set_option maxHeartbeats 4000000 in
theorem entries_any (C : List (Int × Int)) (E : Ents) (V : List Value) (Rs : Nat) (vC : Value) (w : World) (hC : OpsAt w vC C) (hfl : flowErr C = 0) (hE : E.length = C.length) (hV : V.length = E.length) (hRs : w.heap[Rs]? = some (.cells V.toArray 27 (0, 0)))
    (hall : ∀ (k : Nat) (s : List Int), E[k]? = some (some s) → s.length ≤ 8 ∧ ∃ v, V[k]? = some v ∧ IntsAt w v s ∧ NilOk v) (hre : ∀ pc, Come C pc → pc < C.length ∧ ∃ s, ent E pc = some s) :
    Calls Tryz.prog 104 #[vC, .slice (some ⟨Rs, 0, none⟩) E.length E.length] w (EntsP w ((reachL C).map fun pc => (pc, (ent E pc).getD []))) := by
  obtain ⟨i0, hi, hz0, hz1, hz2⟩ := info_parts infoEntry
  have h40 := flowErr_40 hfl
  have hR := flowReach_any C vC w hC
  have hrr : reachR C = (reachL C).map Int.ofNat := by rw [reachR, if_pos hfl]
  rw [hfl, hrr] at hR
  have hlr : (reachL C).length ≤ 41 := by
    unfold reachL
    have := List.length_filter_le (fun x => @decide (Come C x) (Classical.propDecidable _)) (List.range (C.length + 1))
    rw [List.length_range] at this
    omega
  have hmem : ∀ pc, pc ∈ reachL C → Come C pc := fun pc h => (mem_reachL (flowErr_zero hfl).2.2).1 h
  obtain ⟨p0, c0, hvC, _, _⟩ := id hC
  subst hvC
  have HALL := hideP hall
  have HRE := hideP hre
  have HMEM := hideP hmem
  have HR := hideP hR
  have HRS := hideP hRs
  generalize reachL C = R at *
  clear hall hre hmem hR hrr hRs hC hfl
  go_enter Tryz.func104, Tryz.ntmps104
  go_wp2_with fail
  refine HR.out.mono ?_
  rintro e w1 ⟨u1, rfl, r1, hb1⟩
  obtain ⟨p1, c1, hu1⟩ := row_shp r1
  rw [List.length_map] at hu1
  subst hu1
  have R1 := hideP (intsAt_of_row rfl r1)
  clear r1
  go_wp2
  go_loopw [7, 9, 17] (fun v7 _ i wr => ∃ (k : Nat) (q : List (Nat × Value)), k ≤ R.length ∧ i = .int .i64 k ∧ wr.ownsRow w1.heap.size 94 2 v7 q.length (entCells q) ∧ EntRows wr w.heap.size q ((R.take k).map fun pc => (pc, (ent E pc).getD [])) ∧ Below w1.heap.size w1 wr) (fun _ _ i _ => R.length - (intOf i).toNat)
  case atStart => exact ⟨0, [], Nat.zero_le _, rfl, World.ownsRow_nil _ _ _ _, ⟨rfl, fun k x y hx => by simp at hx⟩, Below.refl _ _⟩
  case round =>
    rename World => w2
    obtain ⟨k, q, hk, rfl, hrow, hq, hb2⟩ := hrel
    obtain ⟨p7, c7, hv7⟩ := row_shp hrow
    subst hv7
    have hB2 := hb1.trans (hb2.mono hb1.size)
    have hql : q.length = k := by rw [hq.1]; simp; omega
    by_cases hlt : k < R.length
    · have hlti : (k : Int) < (R.length : Int) := by omega
      obtain ⟨pc, hpc⟩ := at_of_lt hlt
      obtain ⟨hpl, s, hes⟩ := HRE.out pc (HMEM.out pc (List.mem_of_getElem? hpc))
      obtain ⟨h8, v, hv1, hv2, hv3⟩ := HALL.out pc s (ent_some hes)
      have i2 := R1.out.below hb2
      obtain ⟨pr, cr, her, _, hcr⟩ := i2
      obtain ⟨br, or_, hpr, hbr, gr⟩ := hcr k (Int.ofNat pc) (by rw [List.getElem?_map, hpc]; rfl)
      rw [List.length_map] at her
      cases her
      subst hpr
      have gr' : w2.cell? ⟨br, or_ + k, none⟩ = some (.int .i64 (pc : Int)) := gr
      have gs : w2.cell? ⟨Rs, pc, none⟩ = some v := by
        rw [hB2.cell (p := ⟨Rs, pc, none⟩) (heap_lt HRS.out), cell_at' HRS.out]
        simp [hv1]
      have hpE : (pc : Int) < (E.length : Int) := by omega
      obtain ⟨ps, cs, hvs, _, _⟩ := id hv2
      subst hvs
      have HCL := hideP (cloneInt_any s _ w2 (hv2.below hB2) hv3 (by omega))
      have HES := hideP hes
      have HPC := hideP hpc
      have HQ := hideP hq
      have HROW := hideP hrow
      have HQL := hideP hql
      clear hcr gr hv1 hv2 hv3 hes hpc hq hrow hql
      go_wp2_with fail
      refine HCL.out.mono ?_
      rintro e w3 ⟨u3, rfl, r3, hb3⟩
      obtain ⟨p3, c3, hu3⟩ := row_shp r3
      subst hu3
      have hB3 := hB2.trans (hb3.mono hB2.size)
      have hrow3 := row_same HROW.out (W' := w3) fun j hj => hb3.block j (HROW.out.lt j hj).2
      have hq3 : EntRows w3 w.heap.size q ((R.take k).map fun pc => (pc, (ent E pc).getD [])) := ⟨HQ.out.1, fun a x y hx hy => by
        obtain ⟨h1, h2⟩ := HQ.out.2 a x y hx hy
        exact ⟨h1, row_same h2 fun j hj => hb3.block j (h2.lt j hj).2⟩⟩
      have hu3 := row_low r3 hB2.size
      have hrow4 := hrow3.alloc (.cells #[.int .i64 pc, .slice p3 s.length c3] 94)
      have HROW4 := hideP hrow4
      have HQ3 := hideP hq3
      have HU3 := hideP hu3
      have hqk : q.length ≤ 41 := by rw [HQL.out]; omega
      have hnews : ∀ (j : Nat) (u : Value), [Value.int .i64 pc, .slice p3 s.length c3][j]? = some u → (w3.alloc (.cells #[.int .i64 pc, .slice p3 s.length c3] 94)).cell? ((⟨w3.heap.size, 0, none⟩ : Addr).add j) = some u := by
        intro j u hj
        have hn := World.alloc_heap_new w3 (.cells #[.int .i64 pc, .slice p3 s.length c3] 94)
        match j, hj with
        | 0, hj => simp at hj; subst hj; exact cell_at' hn 0
        | 1, hj => simp at hj; subst hj; exact cell_at' hn 1
        | k + 2, hj => simp at hj
      have HNEWS := hideP hnews
      clear r3 hrow3 hq3 hu3 hrow4 hnews
      go_wp2_with (at_builtin; refine wpList_append_own _ rfl _ _ 69 rfl w1.heap.size 94 i0 (.agg #[.int .i64 0, .slice none 0 0]) 2 32 Tryz.underlying69 hi hz0 hz1 hz2 rfl (by decide) _ _ _ rfl HROW4.out ⟨w3.heap.size, 0, none⟩ 1 1 [.int .i64 pc, .slice p3 s.length c3] rfl rfl HNEWS.out (by intro u hu; simp at hu; rcases hu with rfl | rfl <;> rfl) (by unfold maxLen; omega) (by omega) (by have := hb3.size; have := hb2.size; simp; omega) ?_; intro v' w4 hown4 hg4 _; obtain ⟨g', cap', rfl⟩ := ownsRow_succ hown4)
      go_roundw
      case rel =>
        have hga := World.grownBy_alloc w3 (.cells #[.int .i64 pc, .slice p3 s.length c3] 94) none
        have hq4 := HQ3.out.kept hga (fun r h => by cases h)
        have hne4 : ∀ r, Value.ownBlock (.slice p7 q.length c7) = some r → ∃ cs t fz, (w3.alloc (.cells #[.int .i64 pc, .slice p3 s.length c3] 94)).heap[r]? = some (.cells cs t fz) ∧ t ≠ 3 := by
          intro r hr
          rcases HROW4.out.2 with ⟨hv, _⟩ | ⟨g, cap, cur, hv, _, hg, _⟩
          · rw [hv] at hr; cases hr
          · rw [hv] at hr; cases hr; exact ⟨_, _, _, hg, by decide⟩
        have hq5 := hq4.kept hg4 hne4
        have hu4 := (HU3.out.alloc (.cells #[.int .i64 pc, .slice p3 s.length c3] 94))
        have hu5 := row_same hu4 (W' := w4) fun j hj => hg4.block j (hu4.lt j hj).2 (fun e => by
          obtain ⟨cs, t, fz, h3, h4⟩ := hne4 j e.symm
          exact row_not hu4 h3 h4 hj.symm)
        refine ⟨k + 1, q ++ [(pc, .slice p3 s.length c3)], by omega, by go_num, ?_, ?_, ?_⟩
        · have e1 : entCells (q ++ [(pc, .slice p3 s.length c3)]) = entCells q ++ [.int .i64 pc, .slice p3 s.length c3] := by simp [entCells]
          rw [e1, List.length_append, List.length_singleton]
          exact hown4
        · rw [take_snoc R k pc HPC.out, List.map_append]
          have e2 : (List.map (fun pc => (pc, (ent E pc).getD [])) [pc]) = [(pc, s)] := by simp [HES.out]
          rw [e2]
          exact hq5.snoc hu5
        · have hbA := (hb2.trans (hb3.mono hb2.size)).alloc (Nat.le_trans hb2.size hb3.size) (.cells #[.int .i64 pc, .slice p3 s.length c3] 94)
          exact hbA.grown hg4 (by have := hb3.size; have := hb2.size; simp; omega) (fun j hj => (HROW4.out.lt j hj).1)
      case measure => simp [intOf]; omega
    · have hlti : ¬ (k : Int) < (R.length : Int) := by omega
      have HQ := hideP hq
      have HROW := hideP hrow
      clear hq hrow hql
      go_wp2
      go_ret
      have h1 := HQ.out
      rw [List.take_of_length_le (by omega)] at h1
      exact ⟨_, q, rfl, row_low HROW.out hb1.size, h1, hB2⟩
end Go.Proofs.YtcadpoknolefpaaGreat


/- verify.Func. -/
namespace Go.Proofs.YtcadpoknolefpaaGreat
open Go.RowKit
set_option linter.unusedSimpArgs false
set_option linter.unusedVariables false
def EntsOwn (W : World) (B : Nat) (v : Value) (l : List (Nat × List Int)) : Prop := ∃ q, W.ownsRow B 94 2 v q.length (entCells q) ∧ EntRows W B q l
theorem entsOwn_nil (W : World) (B : Nat) : EntsOwn W B (.slice none 0 0) [] := ⟨[], World.ownsRow_nil _ _ _ _, rfl, fun k x y hx => by simp at hx⟩
def FuncIs (p : List Fn) (k : Int) (er : Int) (l : List (Nat × List Int)) : Prop :=
  (progErr p ≠ 0 ∧ er = progErr p ∧ l = []) ∨ (progErr p = 0 ∧ (k < 0 ∨ (p.length : Int) ≤ k) ∧ er = 3 ∧ l = []) ∨
    (progErr p = 0 ∧ ∃ (n : Nat) (f : Fn) (r : Option (Nat → Option (List Int))), k = n ∧ p[n]? = some f ∧ Least p f r ∧ ((r = none ∧ er = 4 ∧ l = []) ∨ ∃ e, r = some e ∧ er = 0 ∧ l = (reachL f.2.2.2).map fun pc => (pc, (e pc).getD [])))
def FuncP (p : List Fn) (k : Int) (w : World) (e : Ending) (w' : World) : Prop := ∃ v er l, e = .returned (.tuple #[v, .int .i64 er]) ∧ FuncIs p k er l ∧ EntsOwn w' w.heap.size v l ∧ Below w.heap.size w w'
set_option maxRecDepth 100000 in
set_option maxHeartbeats 2000000 in
theorem vFunc_any (p : List Fn) (k : Int) (pv : Value) (w : World) (hp : FnsAt w pv p) (hcp : CapAt w pv) : Calls Tryz.prog 62 #[.agg #[pv], .int .i64 k] w (FuncP p k w) := by
  obtain ⟨pp, qp, hpv, hpm, _⟩ := id hp
  subst hpv
  unfold maxLen at hpm
  obtain ⟨W1, hW1⟩ : ∃ W1, w.alloc (.cells #[.slice pp p.length qp] 24) = W1 := ⟨_, rfl⟩
  have hb1 : Below w.heap.size w W1 := by rw [← hW1]; exact (Below.refl _ w).alloc (Nat.le_refl _) _
  have x1 : W1.heap[w.heap.size]? = some (.cells #[.slice pp p.length qp] 24 (0, 0)) := by rw [← hW1]; exact World.alloc_heap_new w _
  have c1 := cell_at' x1 0
  simp at c1
  have lx := heap_lt x1
  have hp1 := hp.below hb1
  have HCK := hideP (progCheck_any p _ W1 hp1)
  have HP := hideP hp
  have HCP := hideP hcp
  have HP1 := hideP hp1
  clear x1 hp1 hp hcp
  by_cases he : progErr p = 0
  · rw [he] at HCK
    have HE := hideP he
    clear he
    go_enter Tryz.func62, Tryz.ntmps62
    go_wp2_with fail
    refine HCK.out.mono ?_
    rintro e w2 ⟨rfl, hb2⟩
    have c2 := (hb2.cell (p := ⟨w.heap.size, 0, none⟩) lx).trans c1
    have hB2 := hb1.trans (hb2.mono hb1.size)
    by_cases h0 : k < 0
    · go_wp2
      go_ret2
      exact ⟨_, _, [], rfl, .inr (.inl ⟨HE.out, .inl h0, rfl, rfl⟩), entsOwn_nil _ _, hB2⟩
    by_cases h1 : k ≥ (p.length : Int)
    · go_wp2
      go_ret2
      exact ⟨_, _, [], rfl, .inr (.inl ⟨HE.out, .inr h1, rfl, rfl⟩), entsOwn_nil _ _, hB2⟩
    obtain ⟨n, rfl⟩ : ∃ n : Nat, k = n := ⟨k.toNat, by omega⟩
    have hnp : n < p.length := by omega
    have hnpi : (n : Int) < (p.length : Int) := by omega
    obtain ⟨f, hf⟩ := at_of_lt hnp
    have hp2 := HP.out.below hB2
    have hcp2 := HCP.out.below HP.out hB2
    obtain ⟨p', q', hpe, _, hpc⟩ := id hp2
    cases hpe
    obtain ⟨b, off, c0, c1', c2', c3', hpp, hlt, y0, y1, y2, y3, hfn⟩ := hpc n f hf
    subst hpp
    have hok := okFn HE.out (List.mem_of_getElem? hf)
    have HFIT := hideP (fit_any p f (.slice (some ⟨b, off, none⟩) p.length qp) c0 c1' c2' c3' w2.drew (hp2.below ((Below.refl _ w2).drew)) (hcp2.below hp2 ((Below.refl _ w2).drew)) (hfn.below ((Below.refl _ w2).drew)) hok)
    obtain ⟨P, L, r, C⟩ := f
    obtain ⟨e0, ⟨p1, q1, e1, _, _⟩, e2, ⟨p3, q3, e3, _, _⟩⟩ := id hfn
    simp only at e0 e1 e2 e3
    subst e0 e1 e2 e3
    have HF := hideP hf
    have HOK := hideP hok
    have HFN := hideP hfn
    have lx2 : w.heap.size < w2.heap.size := Nat.lt_of_lt_of_le lx hb2.size
    clear hpc hp2 hcp2 hf hok hfn
    go_wp2_with fail
    go_region_held3 (fun W => W.cell? ⟨w.heap.size, 0, none⟩ = some (.slice (some ⟨b, off, none⟩) p.length qp) ∧ W.cell? ⟨b, off + n * 4, none⟩ = some (.int .i64 P) ∧ W.cell? ⟨b, off + n * 4 + 1, none⟩ = some (.slice p1 L.length q1) ∧ W.cell? ⟨b, off + n * 4 + 2, none⟩ = some (.int .i64 r) ∧ W.cell? ⟨b, off + n * 4 + 3, none⟩ = some (.slice p3 C.length q3)) (go_keep)
      (first
        | (go_at_call 103; refine HFIT.out.mono ?_; rintro e w3 ⟨ok, E, Rs, V, rfl, hE, hV, hRs, hall, hle, hb3⟩; have hbw : Below w2.heap.size w2 w3 := ((Below.refl w2.heap.size w2).drew).trans hb3; have u0 := (hbw.cell (p := ⟨w.heap.size, 0, none⟩) lx2).trans c2; have u1 := (hbw.cell (p := ⟨b, off + n * 4, none⟩) hlt).trans y0; have u2 := (hbw.cell (p := ⟨b, off + n * 4 + 1, none⟩) hlt).trans y1; have u3 := (hbw.cell (p := ⟨b, off + n * 4 + 2, none⟩) hlt).trans y2; have u4 := (hbw.cell (p := ⟨b, off + n * 4 + 3, none⟩) hlt).trans y3; have HEL := hideP hE; have HVL := hideP hV; have HRS := hideP hRs; have HALL := hideP hall; have HLE := hideP hle; clear hE hV hRs hall hle))
    all_goals
      have hB3 := hB2.trans (hbw.mono hB2.size)
      cases ok
      · go_wp2
        go_ret2
        exact ⟨_, _, [], rfl, .inr (.inr ⟨HE.out, n, _, none, rfl, HF.out, HLE.out, .inl ⟨rfl, rfl, rfl⟩⟩), entsOwn_nil _ _, hB3⟩
      · have hfit := HLE.out.1
        have HEN := hideP (entries_any C E V Rs (.slice p3 C.length q3) w3 ((HFN.out.below hbw).2.2.2) HOK.out.flow HEL.out HVL.out HRS.out HALL.out (fun pc hc => by
          obtain ⟨s, hs⟩ := fits_come hfit hc
          obtain ⟨o, _, ho, _⟩ := hfit.on pc s hs
          exact ⟨lt_of_at ho, s, hs⟩))
        clear hfit
        go_wp2_with fail
        refine HEN.out.mono ?_
        rintro e w4 ⟨v4, q4, rfl, r4, hq4, hb4⟩
        have HR4 := hideP r4
        have HQ4 := hideP hq4
        clear r4 hq4
        go_wp2
        go_ret2
        refine ⟨_, _, _, rfl, .inr (.inr ⟨HE.out, n, _, some (ent E), rfl, HF.out, HLE.out, .inr ⟨_, rfl, rfl, rfl⟩⟩), ⟨q4, row_low HR4.out hB3.size, HQ4.out.1, fun a x y hx hy => ?_⟩, hB3.trans (hb4.mono hB3.size)⟩
        obtain ⟨h1, h2⟩ := HQ4.out.2 a x y hx hy
        exact ⟨h1, row_low h2 hB3.size⟩
  · have he' : (progErr p != 0) = true := by simp [he]
    have HE := hideP he
    clear he
    go_enter Tryz.func62, Tryz.ntmps62
    go_wp2_with fail
    refine HCK.out.mono ?_
    rintro e w2 ⟨rfl, hb2⟩
    go_wp2
    go_ret2
    exact ⟨_, _, [], rfl, .inl ⟨HE.out, rfl, rfl⟩, entsOwn_nil _ _, hb1.trans (hb2.mono hb1.size)⟩
end Go.Proofs.YtcadpoknolefpaaGreat


/- verify.Program. -/
namespace Go.Proofs.YtcadpoknolefpaaGreat
open Go.RowKit
set_option linter.unusedSimpArgs false
set_option linter.unusedVariables false
def ProgIs (p : List Fn) (er : Int) : Prop :=
  (progErr p ≠ 0 ∧ er = progErr p) ∨ (progErr p = 0 ∧ er = 0 ∧ ∀ f ∈ p, ∃ e, Least p f (some e)) ∨ (progErr p = 0 ∧ er = 4 ∧ ∃ f ∈ p, Least p f none)
def ProgP (p : List Fn) (w : World) (e : Ending) (w' : World) : Prop := ∃ er, e = .returned (.int .i64 er) ∧ ProgIs p er ∧ Below w.heap.size w w'
theorem entsOwn_shp {W : World} {B : Nat} {v : Value} {l : List (Nat × List Int)} (h : EntsOwn W B v l) : ∃ q n c, v = .slice q n c := by
  obtain ⟨q, hr, _⟩ := h
  obtain ⟨a, b, hv⟩ := row_shp hr
  exact ⟨_, _, _, hv⟩
set_option maxRecDepth 100000 in
set_option maxHeartbeats 2000000 in
theorem vProgram_any (p : List Fn) (pv : Value) (w : World) (hp : FnsAt w pv p) (hcp : CapAt w pv) : Calls Tryz.prog 42 #[.agg #[pv]] w (ProgP p w) := by
  obtain ⟨pp, qp, hpv, hpm, _⟩ := id hp
  subst hpv
  unfold maxLen at hpm
  obtain ⟨W1, hW1⟩ : ∃ W1, w.alloc (.cells #[.slice pp p.length qp] 24) = W1 := ⟨_, rfl⟩
  have hb1 : Below w.heap.size w W1 := by rw [← hW1]; exact (Below.refl _ w).alloc (Nat.le_refl _) _
  have x1 : W1.heap[w.heap.size]? = some (.cells #[.slice pp p.length qp] 24 (0, 0)) := by rw [← hW1]; exact World.alloc_heap_new w _
  have c1 := cell_at' x1 0
  simp at c1
  have lx := heap_lt x1
  have hp1 := hp.below hb1
  have HCK := hideP (progCheck_any p _ W1 hp1)
  have HP := hideP hp
  have HCP := hideP hcp
  clear x1 hp1 hp hcp
  by_cases he : progErr p = 0
  · rw [he] at HCK
    have HE := hideP he
    clear he
    go_enter Tryz.func42, Tryz.ntmps42
    go_wp2_with fail
    refine HCK.out.mono ?_
    rintro e w2 ⟨rfl, hb2⟩
    have c2 := (hb2.cell (p := ⟨w.heap.size, 0, none⟩) lx).trans c1
    have hB2 := hb1.trans (hb2.mono hb1.size)
    have lx2 : w.heap.size < w2.heap.size := Nat.lt_of_lt_of_le lx hb2.size
    go_wp2
    go_loopw [4, 5, 6, 15] (fun _ _ _ i wr => ∃ k : Nat, k ≤ p.length ∧ i = .int .i64 k ∧ (∀ f ∈ p.take k, ∃ e, Least p f (some e)) ∧ Below w2.heap.size w2 wr) (fun _ _ _ i _ => p.length - (intOf i).toNat)
    case atStart => exact ⟨0, Nat.zero_le _, rfl, by simp, Below.refl _ _⟩
    case round =>
      rename World => w3
      obtain ⟨k, hk, rfl, hok, hb3⟩ := hrel
      have c3 := (hb3.cell (p := ⟨w.heap.size, 0, none⟩) lx2).trans c2
      have hB3 := hB2.trans (hb3.mono hB2.size)
      have HK := hideP hok
      clear hok
      by_cases hlt : k < p.length
      · have hlti : (k : Int) < (p.length : Int) := by omega
        obtain ⟨f, hf⟩ := at_of_lt hlt
        have HFU := hideP (vFunc_any p (k : Int) _ w3 (HP.out.below hB3) (HCP.out.below HP.out hB3))
        have HF := hideP hf
        clear hf
        go_wp2_with fail
        refine HFU.out.mono ?_
        rintro e w4 ⟨v4, er, l4, rfl, hi4, ho4, hb4⟩
        obtain ⟨q4, n4, c4, hv4⟩ := entsOwn_shp ho4
        subst hv4
        clear ho4
        have hcase : (er = 0 ∧ ∃ e, Least p f (some e)) ∨ (er = 4 ∧ Least p f none) := by
          rcases hi4 with ⟨a1, _⟩ | ⟨_, a2, _⟩ | ⟨_, n, f', r, a1, a2, a3, a4⟩
          · exact absurd HE.out a1
          · omega
          · obtain rfl : n = k := by omega
            rw [HF.out] at a2
            cases a2
            rcases a4 with ⟨h1, h2, _⟩ | ⟨e, h1, h2, _⟩
            · rw [h1] at a3; exact .inr ⟨h2, a3⟩
            · rw [h1] at a3; exact .inl ⟨h2, e, a3⟩
        clear hi4
        rcases hcase with ⟨rfl, hfit⟩ | ⟨rfl, hno⟩
        · have HFT := hideP hfit
          clear hfit
          go_wp2
          go_roundw
          case rel =>
            refine ⟨k + 1, by omega, by go_num, fun g hg => ?_, hb3.trans (hb4.mono hb3.size)⟩
            rw [take_snoc p k f HF.out] at hg
            rcases List.mem_append.1 hg with hg | hg
            · exact HK.out g hg
            · simp at hg; subst hg; exact HFT.out
          case measure => simp [intOf]; omega
        · have HNO := hideP hno
          clear hno
          go_wp2
          go_ret
          exact ⟨4, rfl, .inr (.inr ⟨HE.out, rfl, f, List.mem_of_getElem? HF.out, HNO.out⟩), hB3.trans (hb4.mono hB3.size)⟩
      · have hlti : ¬ (k : Int) < (p.length : Int) := by omega
        go_wp2
        go_ret
        have := HK.out
        rw [List.take_of_length_le (by omega)] at this
        exact ⟨0, rfl, .inr (.inl ⟨HE.out, rfl, this⟩), hB3⟩
  · have he' : (progErr p != 0) = true := by simp [he]
    have HE := hideP he
    clear he
    go_enter Tryz.func42, Tryz.ntmps42
    go_wp2_with fail
    refine HCK.out.mono ?_
    rintro e w2 ⟨rfl, hb2⟩
    go_wp2
    go_ret
    exact ⟨_, rfl, .inl ⟨HE.out, rfl⟩, hb1.trans (hb2.mono hb1.size)⟩
end Go.Proofs.YtcadpoknolefpaaGreat


/- read. -/
namespace Go.Proofs.YtcadpoknolefpaaGreat
open Go.RowKit
set_option linter.unusedSimpArgs false
set_option linter.unusedVariables false
abbrev FnV := Value × Value × Value × Value
end Go.Proofs.YtcadpoknolefpaaGreat


