/- My texts Ye Bh, joined. -/
import Derived.Test.YtjcaapgecimooaaU13
import Derived.Test.YtjcaapgecimooaaU16
/- ProgramOf. -/
namespace Go.Proofs.Ytjcaapgecimooaa
open Go.RowKit
set_option linter.unusedSimpArgs false
set_option linter.unusedVariables false
theorem Wrote.block {A O : Nat} {W W' : World} (h : Wrote A O W W') {k : Nat} (hk : k < W.heap.size) (h1 : k ≠ A) (h2 : k ≠ O) : W'.heap[k]? = W.heap[k]? := by
  obtain ⟨r, hr, hg⟩ := h
  exact hg.block k hk (fun e => by cases e; rcases hr with h | h <;> omega)
theorem Wrote.kl {A O F : Nat} {W W' W'' : World} (h : Wrote A O W' W'') (k : KL A O F W W') (hF : F ≤ W'.heap.size) : KL A O F W W'' := by
  obtain ⟨r, hr, hg⟩ := h
  exact k.grown hg hF (fun r' e => by cases e; rcases hr with h | h <;> simp [h])
theorem Wrote.size {A O : Nat} {W W' : World} (h : Wrote A O W W') : W.heap.size ≤ W'.heap.size := by
  obtain ⟨r, hr, hg⟩ := h
  exact hg.size
theorem Wrote.row {A O : Nat} {W W' : World} (h : Wrote A O W W') {base : Nat} {e : TypeId} {size : Nat} {v : Value} {n : Nat} {xs : List Value} (hr : W.ownsRow base e size v n xs) (h1 : A < base) (h2 : O < base) : W'.ownsRow base e size v n xs :=
  ownsRow_same hr fun k hk => h.block (hr.lt k hk).2 (by have := (hr.lt k hk).1; omega) (by have := (hr.lt k hk).1; omega)
theorem Wrote.drew {A O : Nat} {W W' : World} (h : Wrote A O W.drew W') : Wrote A O W W' := by
  obtain ⟨r, hr, hg⟩ := h
  exact ⟨r, hr, (drew_grown' W r).trans hg⟩
theorem Wrote.below {A O B0 : Nat} {w W W' : World} (h : Wrote A O W W') (hB : Below B0 w W) (hW : B0 ≤ W.heap.size) (hA : B0 ≤ A) (hO : B0 ≤ O) : Below B0 w W' := by
  obtain ⟨r, hr, hg⟩ := h
  exact hB.grown hg hW (fun k e => by cases e; rcases hr with h | h <;> omega)
/-- what the loop over functions keeps. -/
def ProgI (w : World) (s : ByteArray) (st : Rd) (k : Nat) (wr : World) : Prop :=
  ∃ vF q, RO wr (w.heap.size + 1 + 1) w.heap.size (w.heap.size + 1 + 1 + 1) s (stAt k st) ∧ wr.heap[w.heap.size + 1]? = some (.cells #[.slice none 0 0] 41 (0, 0)) ∧ wr.heap[w.heap.size + 1 + 1 + 1 + 1]? = some (.cells #[vF] 41 (0, 0)) ∧
    wr.ownsRow (w.heap.size + 1 + 1 + 1 + 1 + 1) 82 4 vF k (fnCells q) ∧ FnRows wr (w.heap.size + 1 + 1 + 1 + 1 + 1) q (fnsTo k st) ∧ (∀ i, i < k → (readFn (stAt i st)).2.1 = true) ∧ Below w.heap.size w wr
/-- what the loop over locals keeps. -/
def LocK (A S O F : Nat) (s : ByteArray) (P : Int) (st : Rd) (j : Nat) (w2 wr : World) : Prop :=
  ∃ vL, RO wr A S O s (readLocs j st).2 ∧ wr.heap[F]? = some (.cells #[.int .i64 P, vL, .int .i64 0, .slice none 0 0] 82 (0, 0)) ∧ wr.ownsRow F 3 1 vL j ((readLocs j st).1.map (Value.int .i64)) ∧ KL A O F w2 wr
set_option maxRecDepth 100000 in
set_option maxHeartbeats 16000000 in
theorem programOf_any (s : ByteArray) (hs : s.size ≤ maxLen) (w : World) : Calls Try.prog 27 #[.string s] w fun e w' => ∃ v, e = .returned (.tuple #[.agg #[v], .int .i64 (decProg s.data.toList).2]) ∧ FnsAt w' v (decProg s.data.toList).1 ∧ Below w.heap.size w w' := by
  unfold maxLen at hs
  have hlen : s.data.toList.length = s.size := by simp
  by_cases hbig : 2000 < s.size
  · have hbig' : (2000 : Int) < (s.size : Int) := by omega
    have e0 : decProg s.data.toList = ([], 2) := by unfold decProg; rw [if_pos (by omega)]
    have HE := hideP e0
    clear e0 hlen
    have g1 := heap_new (w.alloc (.cells #[.string s] 9)) (.cells #[.slice none 0 0] 41)
    have hB1 : Below w.heap.size w ((w.alloc (.cells #[.string s] 9)).alloc (.cells #[.slice none 0 0] 41)) := ((Below.refl _ w).alloc (Nat.le_refl _) _).alloc (by simp) _
    have g0 := heap_old (heap_new w (.cells #[.string s] 9)) (.cells #[.slice none 0 0] 41)
    simp only [World.size_alloc] at g1
    obtain ⟨W1, hW1⟩ : ∃ W, (w.alloc (.cells #[.string s] 9)).alloc (.cells #[.slice none 0 0] 41) = W := ⟨_, rfl⟩
    rw [hW1] at g1 hB1 g0
    have d0 := cell_at' g0 0
    have d1 := cell_at' g1 0
    have z1 := Lib.frozen_of_heap g1 0
    simp at d0 d1
    have hr2 := heap_setCell_same W1 (w.heap.size + 1) 0 _ _ (.slice none 0 0) g1
    have t0 := cell_at' hr2 0
    simp at t0
    have hB2 := hB1.setCell (p := ⟨w.heap.size + 1, 0, none⟩) (by simp) (.slice none 0 0)
    clear g0 g1 hr2
    go_enter Try.func27, Try.ntmps27
    go_wp2
    refine bodyPost_ret (v := .tuple #[.agg #[.slice none 0 0], .int .i64 2]) (by simp [results, Try.results27, go_sem, t0]) rfl ?_
    rw [HE.out]
    exact ⟨_, rfl, fnsAt_nil _, hB2⟩
  have hbig' : ¬ (2000 : Int) < (s.size : Int) := by omega
  have hs2 : s.size ≤ 2000 := by omega
  have HLEN := hideP hlen
  obtain ⟨i0, hi, hz0, hz1, hz2⟩ := info_parts infoInt
  obtain ⟨i1, hj, hy0, hy1, hy2⟩ := info_parts infoFn
  clear hlen hs hbig
  -- the five blocks
  have g1 := heap_new w (.cells #[.string s] 9)
  have g2 := heap_new (w.alloc (.cells #[.string s] 9)) (.cells #[.slice none 0 0] 41)
  have g3 := heap_new ((w.alloc (.cells #[.string s] 9)).alloc (.cells #[.slice none 0 0] 41)) (.cells #[.int .i64 0] 3)
  have g4 := heap_new (((w.alloc (.cells #[.string s] 9)).alloc (.cells #[.slice none 0 0] 41)).alloc (.cells #[.int .i64 0] 3)) (.cells #[.bool true] 4)
  have g5 := heap_new ((((w.alloc (.cells #[.string s] 9)).alloc (.cells #[.slice none 0 0] 41)).alloc (.cells #[.int .i64 0] 3)).alloc (.cells #[.bool true] 4)) (.cells #[.slice none 0 0] 41)
  have k1 := heap_old (heap_old (heap_old (heap_old g1 (.cells #[.slice none 0 0] 41)) (.cells #[.int .i64 0] 3)) (.cells #[.bool true] 4)) (.cells #[.slice none 0 0] 41)
  have k2 := heap_old (heap_old (heap_old g2 (.cells #[.int .i64 0] 3)) (.cells #[.bool true] 4)) (.cells #[.slice none 0 0] 41)
  have k3 := heap_old (heap_old g3 (.cells #[.bool true] 4)) (.cells #[.slice none 0 0] 41)
  have k4 := heap_old g4 (.cells #[.slice none 0 0] 41)
  have hB5 : Below w.heap.size w (((((w.alloc (.cells #[.string s] 9)).alloc (.cells #[.slice none 0 0] 41)).alloc (.cells #[.int .i64 0] 3)).alloc (.cells #[.bool true] 4)).alloc (.cells #[.slice none 0 0] 41)) := (((((Below.refl _ w).alloc (Nat.le_refl _) _).alloc (by simp) _).alloc (by simp; omega) _).alloc (by simp; omega) _).alloc (by simp; omega) _
  simp only [World.size_alloc] at k2 k3 k4 g5
  obtain ⟨W5, hW5⟩ : ∃ W, (((((w.alloc (.cells #[.string s] 9)).alloc (.cells #[.slice none 0 0] 41)).alloc (.cells #[.int .i64 0] 3)).alloc (.cells #[.bool true] 4)).alloc (.cells #[.slice none 0 0] 41)) = W := ⟨_, rfl⟩
  rw [hW5] at k1 k2 k3 k4 g5 hB5
  clear g1 g2 g3 g4
  have hRO5 : RO W5 (w.heap.size + 1 + 1) w.heap.size (w.heap.size + 1 + 1 + 1) s (some s.data.toList) := ⟨0, k3, k1, k4, by omega, fun r hr => by cases hr; simp, fun h => by cases h⟩
  have hl5 := heap_lt g5
  have hone : ∀ (st : Rd) (W : World), RO W (w.heap.size + 1 + 1) w.heap.size (w.heap.size + 1 + 1 + 1) s st → Calls Try.prog 63 #[.pointer (some ⟨w.heap.size + 1 + 1, 0, none⟩), .pointer (some ⟨w.heap.size, 0, none⟩), .pointer (some ⟨w.heap.size + 1 + 1 + 1, 0, none⟩)] W fun e w' => e = .returned (.int .i64 (numOf (takeR st 1).1)) ∧ RO w' (w.heap.size + 1 + 1) w.heap.size (w.heap.size + 1 + 1 + 1) s (takeR st 1).2 ∧ Wrote (w.heap.size + 1 + 1) (w.heap.size + 1 + 1 + 1) W w' :=
    fun st W h => one2_any _ _ _ s st W h hs2 (by omega) (by omega) (by omega)
  have HONE := hideP hone
  clear hone k1 k3 k4
  go_enter Try.func27, Try.ntmps27
  go_wp2_with fail
  refine (HONE.out _ _ hRO5).mono ?_
  rintro e w6 ⟨rfl, hRO6, hwr6⟩
  have hl6 := hwr6.size
  have p6 := (hwr6.block hl5 (by omega) (by omega)).trans g5
  have r6 := (hwr6.block (k := (w.heap.size + 1)) (by omega) (by omega) (by omega)).trans k2
  have hB6 := Wrote.below hwr6 hB5 (by omega) (by omega) (by omega)
  have hn := numOf_one (some s.data.toList)
  obtain ⟨n, hn'⟩ : ∃ n, numOf (takeR (some s.data.toList) 1).1 = n := ⟨_, rfl⟩
  obtain ⟨st, hst⟩ : ∃ st, (takeR (some s.data.toList) 1).2 = st := ⟨_, rfl⟩
  rw [hn'] at hn ⊢
  rw [hst] at hRO6
  have HN := hideP hn'
  have HST := hideP hst
  clear hn' hst hW5 g5 k2 hwr6 hRO5
  go_wp2
  go_loopw [9] (fun i wr => ∃ k : Nat, k ≤ n ∧ i = .int .i64 k ∧ ProgI w s st k wr) (fun i _ => n - (intOf i).toNat)
  case atStart => exact ⟨0, Nat.zero_le _, rfl, _, [], hRO6, r6, p6, World.ownsRow_nil _ _ _ _, ⟨rfl, fun k c f h => by simp at h⟩, fun i hi => by omega, hB6⟩
  case round =>
    rename World => w2
    obtain ⟨k, hk, rfl, ⟨vF, q, hRO, hr, hp, hrow, hq, hok, hB⟩⟩ := hrel
    clear hRO6 r6 p6 hB6 hB5
    have hpl := heap_lt hp
    obtain ⟨pF, cF, rfl⟩ := row_shp hrow
    obtain ⟨S0, hS0⟩ : ∃ S, stAt k st = S := ⟨_, rfl⟩
    rw [hS0] at hRO
    have HS0 := hideP hS0
    have HOK := hideP hok
    clear hS0 hok
    by_cases hlt : k < n
    · have hlti : (k : Int) < (n : Int) := by omega
      obtain ⟨r0, hr0⟩ := some_at HN.out HST.out hlt HOK.out
      rw [HS0.out] at hr0
      have o2 : w2.cell? ⟨(w.heap.size + 1 + 1 + 1), 0, none⟩ = some (.bool true) := by
        obtain ⟨_, _, _, h3, _⟩ := hRO
        rw [cell_at' h3 0, hr0]; rfl
      have nF := heap_new w2 (.cells #[.int .i64 0, .slice none 0 0, .int .i64 0, .slice none 0 0] 82)
      have gF := World.grownBy_alloc w2 (.cells #[.int .i64 0, .slice none 0 0, .int .i64 0, .slice none 0 0] 82) none
      obtain ⟨WF, hWF⟩ : ∃ W, w2.alloc (.cells #[.int .i64 0, .slice none 0 0, .int .i64 0, .slice none 0 0] 82) = W := ⟨_, rfl⟩
      rw [hWF] at nF gF
      have hROF := hRO.kept gF (fun r h => by cases h)
      have klF := (KL.refl (w.heap.size + 1 + 1) (w.heap.size + 1 + 1 + 1) w2.heap.size w2).grown gF (Nat.le_refl _) (fun r h => by cases h)
      have hzF := heap_lt nF
      clear hr0 gF
      go_wp2_with fail
      refine (HONE.out _ _ hROF).mono ?_
      rintro e w3 ⟨rfl, hRO3, hwr3⟩
      obtain ⟨P, hP⟩ : ∃ P : Int, ((numOf (takeR S0 1).1 : Nat) : Int) = P := ⟨_, rfl⟩
      obtain ⟨S1, hS1⟩ : ∃ S, (takeR S0 1).2 = S := ⟨_, rfl⟩
      rw [hP]
      rw [hS1] at hRO3
      have HP := hideP hP
      have HS1 := hideP hS1
      have n3 := (hwr3.block hzF (by omega) (by omega)).trans nF
      have kl3 := hwr3.kl klF (by omega)
      have hz3 := heap_lt n3
      have d3 := cell_at' n3 0
      have z3 := Lib.frozen_of_heap n3 0
      simp at d3
      have n4 := heap_setCell_same w3 w2.heap.size 0 _ _ (.int .i64 P) n3
      have hRO4 := hRO3.kept (grown_set w3 w2.heap.size 0 (.int .i64 P)) (fun r e => by cases e; omega)
      have kl4 := kl3.grown (grown_set w3 w2.heap.size 0 (.int .i64 P)) (by omega) (fun r e => by cases e; exact .inr (.inr (Nat.le_refl _)))
      obtain ⟨W4, hW4⟩ : ∃ W, w3.setCell ⟨w2.heap.size, 0, none⟩ (.int .i64 P) = W := ⟨_, rfl⟩
      rw [hW4] at n4 hRO4 kl4
      have hz4 := heap_lt n4
      clear hP hS1 hROF hRO3 hwr3 hWF nF klF n3 kl3
      go_wp2_with fail
      refine (HONE.out _ _ hRO4).mono ?_
      rintro e w5 ⟨rfl, hRO5, hwr5⟩
      have hnl := numOf_one S1
      obtain ⟨nl, hnl'⟩ : ∃ nl, numOf (takeR S1 1).1 = nl := ⟨_, rfl⟩
      obtain ⟨st2, hst2⟩ : ∃ S, (takeR S1 1).2 = S := ⟨_, rfl⟩
      rw [hnl'] at hnl ⊢
      rw [hst2] at hRO5
      have HNL := hideP hnl'
      have HST2 := hideP hst2
      have n5 := (hwr5.block hz4 (by omega) (by omega)).trans n4
      have kl5 := hwr5.kl kl4 (by omega)
      have hz5 := heap_lt n5
      clear hnl' hst2 hRO4 hwr5 hW4 n4 kl4 d3 z3
      go_wp2
      go_loopw [12] (fun i wr => ∃ j : Nat, j ≤ nl ∧ i = .int .i64 j ∧ LocK (w.heap.size + 1 + 1) w.heap.size (w.heap.size + 1 + 1 + 1) w2.heap.size s P st2 j w2 wr) (fun i _ => nl - (intOf i).toNat)
      case atStart => exact ⟨0, Nat.zero_le _, rfl, _, hRO5, n5, World.ownsRow_nil _ _ _ _, kl5⟩
      case round =>
        rename World => w7
        obtain ⟨j, hjn, rfl, ⟨vL, hRO7, n7, row7, kl7⟩⟩ := hrel
        clear hRO5 n5 kl5
        obtain ⟨pL, cL, rfl⟩ := row_shp row7
        have hz7 := heap_lt n7
        have c7 := cell_at' n7 1
        simp at c7
        obtain ⟨S3, hS3⟩ : ∃ S, (readLocs j st2).2 = S := ⟨_, rfl⟩
        rw [hS3] at hRO7
        have HS3 := hideP hS3
        clear hS3
        by_cases hgo : j < nl ∧ ∃ r, S3 = some r
        · obtain ⟨hjl, r3, hr3⟩ := hgo
          have hji : (j : Int) < (nl : Int) := by omega
          have o7 : w7.cell? ⟨(w.heap.size + 1 + 1 + 1), 0, none⟩ = some (.bool true) := by
            obtain ⟨_, _, _, h3, _⟩ := hRO7
            rw [cell_at' h3 0, hr3]; rfl
          obtain ⟨Z, hZ⟩ : ∃ Z : Int, ((numOf (takeR S3 1).1 : Nat) : Int) = Z := ⟨_, rfl⟩
          have hnum : ∀ W, RO W (w.heap.size + 1 + 1) w.heap.size (w.heap.size + 1 + 1 + 1) s S3 → Calls Try.prog 63 #[.pointer (some ⟨w.heap.size + 1 + 1, 0, none⟩), .pointer (some ⟨w.heap.size, 0, none⟩), .pointer (some ⟨w.heap.size + 1 + 1 + 1, 0, none⟩)] W fun e w' => e = .returned (.int .i64 Z) ∧ RO w' (w.heap.size + 1 + 1) w.heap.size (w.heap.size + 1 + 1 + 1) s (takeR S3 1).2 ∧ Wrote (w.heap.size + 1 + 1) (w.heap.size + 1 + 1 + 1) W w' := by
            intro W hW
            have := HONE.out S3 W hW
            rw [hZ] at this
            exact this
          have HNUM := hideP hnum
          have HZ := hideP hZ
          clear hnum hZ hr3
          have hfne : (some w2.heap.size : Option Nat) ≠ Value.ownBlock (.slice pL j cL) := row_not row7 n7 (by decide)
          go_wp2
          go_region_law
            (first
              | (refine step_append_row rfl _ _ 49 rfl w2.heap.size 3 i0 (.int .i64 0) 1 8 Try.underlying49 hi hz0 hz1 hz2 rfl (by decide) _ _ _ rfl (row8.alloc _) ⟨w8.heap.size, 0, none⟩ 1 1 [.int .i64 Z] rfl rfl (cell_one_new _ _ _) (by simp [Value.oneCell']) (by unfold maxLen; omega) (by omega) (by simp; omega) ?_; intro v' w9 hown9 hg9; obtain ⟨g9, cap9, rfl⟩ := ownsRow_succ hown9; have n9 := (hg9.block _ (by simp; omega) hfne).trans (heap_old n8 _); have c9 := cell_at' n9 1; have z9 := Lib.frozen_of_heap n9 1)
              | (go_simp; go_at_call 63; refine (HNUM.out _ (hRO7.kept (drew_grown w7) (fun r h => by cases h))).mono ?_; rintro e w8 ⟨rfl, hRO8, hwr8'⟩; have hwr8 := Wrote.drew hwr8'; have n8 := (hwr8.block hz7 (by omega) (by omega)).trans n7; have c8 := cell_at' n8 1; have c8a := fun o => cell_old c8 o; have row8 := hwr8.row row7 (by omega) (by omega); have hs8 := hwr8.size; have hz8 := heap_lt n8; have kl8 := hwr8.kl kl7 (by omega)))
          all_goals
            go_wp2
            go_roundw
            case rel =>
              have hgs := grown_set w9 w2.heap.size 1 (.slice (some ⟨g9, 0, none⟩) (j + 1) cap9)
              have hal := World.grownBy_alloc w8 (.cells #[.int .i64 Z] 3) none
              refine ⟨j + 1, by omega, by go_num, _, ?_, heap_setCell_same w9 w2.heap.size 1 _ _ _ n9, ?_, ?_⟩
              · show RO _ _ _ _ _ (takeR (readLocs j st2).2 1).2
                rw [HS3.out]
                exact ((hRO8.kept hal (fun r h => by cases h)).kept hg9 (fun r h => by have := (row7.lt r h).1; omega)).kept hgs (fun r h => by cases h; omega)
              · have e1 : (readLocs (j + 1) st2).1.map (Value.int .i64) = (readLocs j st2).1.map (Value.int .i64) ++ [.int .i64 Z] := by simp [readLocs, HS3.out, HZ.out]
                rw [e1]
                exact hown9.kept hgs (.inr (row_not hown9 n9 (by decide)).symm)
              · exact ((kl8.grown hal (by omega) (fun r h => by cases h)).grown hg9 (by simp; omega) (fun r h => .inr (.inr (row7.lt r h).1))).grown hgs (by have := hg9.size; simp at this; omega) (fun r h => by cases h; exact .inr (.inr (Nat.le_refl _)))
            case measure => simp [intOf]; omega
        · have hex : j = nl ∨ S3 = none := by
            by_cases hjl : j < nl
            · right
              cases h3 : S3 with
              | none => rfl
              | some r => exact absurd ⟨hjl, r, h3⟩ hgo
            · left; omega
          clear hgo
          by_cases hjl : j < nl
          · have hS3n : S3 = none := by rcases hex with h | h; omega; exact h
            have hji : (j : Int) < (nl : Int) := by omega
            have o7 : w7.cell? ⟨(w.heap.size + 1 + 1 + 1), 0, none⟩ = some (.bool false) := by
              obtain ⟨_, _, _, h3, _⟩ := hRO7
              rw [cell_at' h3 0, hS3n]; rfl
            have hbad : (readFn S0).2.1 = false := (readFn_steps HP.out HS1.out HNL.out HST2.out HS3.out rfl rfl rfl rfl rfl rfl hjn hex).1 (by rw [hS3n]; rfl)
            have HBD := hideP hbad
            rw [hS3n] at hRO7
            have hone0 : ∀ W, RO W (w.heap.size + 1 + 1) w.heap.size (w.heap.size + 1 + 1 + 1) s none → Calls Try.prog 63 #[.pointer (some ⟨w.heap.size + 1 + 1, 0, none⟩), .pointer (some ⟨w.heap.size, 0, none⟩), .pointer (some ⟨w.heap.size + 1 + 1 + 1, 0, none⟩)] W fun e w' => e = .returned (.int .i64 0) ∧ RO w' (w.heap.size + 1 + 1) w.heap.size (w.heap.size + 1 + 1 + 1) s none ∧ Wrote (w.heap.size + 1 + 1) (w.heap.size + 1 + 1 + 1) W w' := by
              intro W h
              have := HONE.out none W h
              rw [takeR_none] at this
              exact this
            have HONE0 := hideP hone0
            clear hone0 hbad hS3n hex
            go_wp2_with fail
            refine (HONE0.out _ hRO7).mono ?_
            rintro e w8 ⟨rfl, hRO8, hwr8⟩
            have n8 := (hwr8.block hz7 (by omega) (by omega)).trans n7
            have kl8 := hwr8.kl kl7 (by omega)
            have hz8 := heap_lt n8
            have d8 := cell_at' n8 2
            have z8 := Lib.frozen_of_heap n8 2
            simp at d8
            have hRO9 := hRO8.kept (grown_set w8 w2.heap.size 2 (.int .i64 0)) (fun r e => by cases e; omega)
            have kl9 := kl8.grown (grown_set w8 w2.heap.size 2 (.int .i64 0)) (by omega) (fun r e => by cases e; exact .inr (.inr (Nat.le_refl _)))
            have hz9 : w2.heap.size < (w8.setCell ⟨w2.heap.size, 2, none⟩ (.int .i64 0)).heap.size := by simpa using hz8
            obtain ⟨W9, hW9⟩ : ∃ W, w8.setCell ⟨w2.heap.size, 2, none⟩ (.int .i64 0) = W := ⟨_, rfl⟩
            rw [hW9] at hRO9 kl9 hz9
            clear n8 kl8 hRO8 hwr8
            go_wp2_with fail
            refine (HONE0.out _ hRO9).mono ?_
            rintro e w10 ⟨rfl, hRO10, hwr10⟩
            have kl10 := hwr10.kl kl9 (by omega)
            have hs10 := hwr10.size
            clear hW9 d8 z8
            go_wp2_with fail
            refine (HONE0.out _ hRO10).mono ?_
            rintro e w11 ⟨rfl, hRO11, hwr11⟩
            have kl11 := hwr11.kl kl10 (by omega)
            have o11 : w11.cell? ⟨(w.heap.size + 1 + 1 + 1), 0, none⟩ = some (.bool false) := by
              obtain ⟨_, _, _, h3, _⟩ := hRO11
              exact cell_at' h3 0
            have rE := (kl11.block (w.heap.size + 1) (by omega) (by omega) (by omega)).trans hr
            have dE := cell_at' rE 0
            have zE := Lib.frozen_of_heap rE 0
            simp at dE
            have tE := cell_at' (heap_setCell_same w11 (w.heap.size + 1) 0 _ _ (.slice none 0 0) rE) 0
            simp at tE
            have hBE := (Below.kl hB kl11 (by omega) (by omega) (by omega)).setCell (p := ⟨(w.heap.size + 1), 0, none⟩) (by simp) (.slice none 0 0)
            have HBAD := hideP (decProg_bad HN.out HST.out (by rw [HLEN.out]; exact hs2) hlt (by rw [HS0.out]; exact HBD.out))
            clear rE
            go_wp2
            refine bodyPost_ret (v := .tuple #[.agg #[.slice none 0 0], .int .i64 1]) (by simp [results, Try.results27, go_sem, tE]) rfl ?_
            rw [HBAD.out]
            exact ⟨_, rfl, fnsAt_nil _, hBE⟩
          · skip
            obtain rfl : j = nl := by omega
            clear hex
            go_wp2_with fail
            refine (HONE.out _ _ hRO7).mono ?_
            rintro e w8 ⟨rfl, hRO8, hwr8⟩
            obtain ⟨R, hR⟩ : ∃ R : Int, ((numOf (takeR S3 1).1 : Nat) : Int) = R := ⟨_, rfl⟩
            obtain ⟨S4, hS4⟩ : ∃ S, (takeR S3 1).2 = S := ⟨_, rfl⟩
            rw [hR]
            rw [hS4] at hRO8
            have HR := hideP hR
            have HS4 := hideP hS4
            have n8 := (hwr8.block hz7 (by omega) (by omega)).trans n7
            have row8 := hwr8.row row7 (by omega) (by omega)
            have kl8 := hwr8.kl kl7 (by omega)
            have hz8 := heap_lt n8
            have d8 := cell_at' n8 2
            have z8 := Lib.frozen_of_heap n8 2
            simp at d8
            have n9 := heap_setCell_same w8 w2.heap.size 2 _ _ (.int .i64 R) n8
            have hRO9 := hRO8.kept (grown_set w8 w2.heap.size 2 (.int .i64 R)) (fun r e => by cases e; omega)
            have row9 := row8.kept (grown_set w8 w2.heap.size 2 (.int .i64 R)) (.inr (row_not row8 n8 (by decide)).symm)
            have kl9 := kl8.grown (grown_set w8 w2.heap.size 2 (.int .i64 R)) (by omega) (fun r e => by cases e; exact .inr (.inr (Nat.le_refl _)))
            obtain ⟨W9, hW9⟩ : ∃ W, w8.setCell ⟨w2.heap.size, 2, none⟩ (.int .i64 R) = W := ⟨_, rfl⟩
            rw [hW9] at n9 hRO9 row9 kl9
            have hz9 := heap_lt n9
            clear hR hS4 n8 row8 kl8 hRO8 hwr8 n7 row7 kl7 hRO7
            go_wp2_with fail
            refine (HONE.out _ _ hRO9).mono ?_
            rintro e w10 ⟨rfl, hRO10, hwr10⟩
            have hx := numOf_one S4
            obtain ⟨x, hx'⟩ : ∃ x, numOf (takeR S4 1).1 = x := ⟨_, rfl⟩
            obtain ⟨S5, hS5⟩ : ∃ S, (takeR S4 1).2 = S := ⟨_, rfl⟩
            rw [hx'] at hx ⊢
            rw [hS5] at hRO10
            have HX := hideP hx'
            have HS5 := hideP hS5
            have n10 := (hwr10.block hz9 (by omega) (by omega)).trans n9
            have row10 := hwr10.row row9 (by omega) (by omega)
            have kl10 := hwr10.kl kl9 (by omega)
            have hz10 := heap_lt n10
            clear hx' hS5 n9 row9 kl9 hRO9 hwr10 hW9 d8 z8
            go_wp2_with fail
            refine (HONE.out _ _ hRO10).mono ?_
            rintro e w11 ⟨rfl, hRO11, hwr11⟩
            have hy := numOf_one S5
            obtain ⟨y, hy'⟩ : ∃ x, numOf (takeR S5 1).1 = x := ⟨_, rfl⟩
            obtain ⟨S6, hS6⟩ : ∃ S, (takeR S5 1).2 = S := ⟨_, rfl⟩
            rw [hy'] at hy ⊢
            rw [hS6] at hRO11
            have HY := hideP hy'
            have HS6 := hideP hS6
            have n11 := (hwr11.block hz10 (by omega) (by omega)).trans n10
            have row11 := hwr11.row row10 (by omega) (by omega)
            have kl11 := hwr11.kl kl10 (by omega)
            have hz11 := heap_lt n11
            clear hy' hS6 n10 row10 kl10 hRO10 hwr11
            have HSTEPS := hideP (readFn_steps HP.out HS1.out HNL.out HST2.out HS3.out HR.out HS4.out HX.out HS5.out HY.out HS6.out (Nat.le_refl _) (.inl rfl))
            rcases hS6c : S6 with _ | r6
            · have o11 : w11.cell? ⟨(w.heap.size + 1 + 1 + 1), 0, none⟩ = some (.bool false) := by
                obtain ⟨_, _, _, h3, _⟩ := hRO11
                rw [cell_at' h3 0, hS6c]; rfl
              have HBD := hideP (HSTEPS.out.1 hS6c)
              clear hS6c
              have rE := (kl11.block (w.heap.size + 1) (by omega) (by omega) (by omega)).trans hr
              have dE := cell_at' rE 0
              have zE := Lib.frozen_of_heap rE 0
              simp at dE
              have tE := cell_at' (heap_setCell_same w11 (w.heap.size + 1) 0 _ _ (.slice none 0 0) rE) 0
              simp at tE
              have hBE := (Below.kl hB kl11 (by omega) (by omega) (by omega)).setCell (p := ⟨(w.heap.size + 1), 0, none⟩) (by simp) (.slice none 0 0)
              have HBAD := hideP (decProg_bad HN.out HST.out (by rw [HLEN.out]; exact hs2) hlt (by rw [HS0.out]; exact HBD.out))
              clear rE
              go_wp2
              refine bodyPost_ret (v := .tuple #[.agg #[.slice none 0 0], .int .i64 1]) (by simp [results, Try.results27, go_sem, tE]) rfl ?_
              rw [HBAD.out]
              exact ⟨_, rfl, fnsAt_nil _, hBE⟩
            · obtain ⟨k6, hA6, hSS6, hO6, hk6, hr6', _⟩ := hRO11
              have hr6 := hr6' r6 hS6c
              rw [hS6c] at hO6
              have cA := cell_at' hA6 0
              have cS := cell_at' hSS6 0
              have cO := cell_at' hO6 0
              simp at cA cS cO
              have hl6 : r6.length = s.size - k6 := by rw [hr6, List.length_drop, HLEN.out]
              have HST6 := hideP (HSTEPS.out.2 r6 hS6c).2
              have HR6 := hideP hr6
              clear hr6' hr6 hS6c
              by_cases hmany : (s.size : Int) - (k6 : Int) < 256 * (x : Int) + (y : Int)
              · have ht : takeR (some r6) (256 * x + y) = ([], none) := by simp only [takeR]; rw [if_neg (by omega)]
                have HBD : Hid ((readFn S0).2.1 = false) := by show _ = _; rw [HST6.out, ht]; simp
                clear ht hl6
                have rE := (kl11.block (w.heap.size + 1) (by omega) (by omega) (by omega)).trans hr
                have dE := cell_at' rE 0
                have zE := Lib.frozen_of_heap rE 0
                simp at dE
                have tE := cell_at' (heap_setCell_same w11 (w.heap.size + 1) 0 _ _ (.slice none 0 0) rE) 0
                simp at tE
                have hBE := (Below.kl hB kl11 (by omega) (by omega) (by omega)).setCell (p := ⟨(w.heap.size + 1), 0, none⟩) (by simp) (.slice none 0 0)
                have HBAD := hideP (decProg_bad HN.out HST.out (by rw [HLEN.out]; exact hs2) hlt (by rw [HS0.out]; exact HBD.out))
                clear rE
                go_wp2
                refine bodyPost_ret (v := .tuple #[.agg #[.slice none 0 0], .int .i64 1]) (by simp [results, Try.results27, go_sem, tE]) rfl ?_
                rw [HBAD.out]
                exact ⟨_, rfl, fnsAt_nil _, hBE⟩
              · obtain ⟨many, hmn⟩ : ∃ m : Nat, 256 * x + y = m := ⟨_, rfl⟩
                have ht : takeR (some r6) many = (r6.take many, some (r6.drop many)) := by simp only [takeR]; rw [if_pos (by omega)]
                rw [hmn] at HST6
                have hmi : 256 * (x : Int) + (y : Int) = (many : Int) := by omega
                have hk6m : k6 + many ≤ s.size := by omega
                have hk6i : (k6 : Int) + (many : Int) ≤ (s.size : Int) := by omega
                clear hmn hl6
                have hxs : (s.extract k6 (k6 + many)).size = many := by simp; omega
                have hxl : (s.extract k6 (k6 + many)).data.toList = r6.take many := by rw [extract_list, HR6.out]; congr 1; omega
                have hlm : (r6.take many).length = many := by rw [← hxl, Array.length_toList]; exact hxs
                obtain ⟨⟨code, er⟩, hdec⟩ : ∃ z, dec (items many (r6.take many)) [] = z := ⟨_, rfl⟩
                have HFN : Hid (readFn S0 = ((P, (readLocs j st2).1, R, code), decide (er = 0), some (r6.drop many))) := by
                  show _ = _
                  rw [HST6.out, ht]
                  simp only []
                  rw [hlm, hdec]
                  simp
                have hco := codeOf_new (s.extract k6 (k6 + many)) (by omega) w11
                rw [hxs, hxl, hdec] at hco
                have HCO := hideP hco
                clear hxs hxl hlm hdec hco ht HST6
                go_wp2_with fail
                refine HCO.out.mono ?_
                rintro e w12 ⟨cv, rfl, hcv, hb12, hnew⟩
                have g12 := grown_of_below hb12
                have n12 := (hb12.block _ hz11).trans n11
                have row12 := row11.kept g12 (by cases hv : Value.ownBlock (.slice pL j cL) <;> simp)
                have kl12 := kl11.grown g12 (by omega) (fun r e => by cases e)
                have A12 := (hb12.block _ (heap_lt hA6)).trans hA6
                have S12 := (hb12.block _ (heap_lt hSS6)).trans hSS6
                have O12 := (hb12.block _ (heap_lt hO6)).trans hO6
                have hz12 := heap_lt n12
                have hcv' := hcv
                obtain ⟨pc, cc, hcvs, _, _⟩ := hcv'
                subst hcvs
                clear HCO n11 row11 kl11 hA6 hSS6 hO6 cA cS cO
                by_cases her : er = 0
                · subst her
                  have d12 := cell_at' n12 3
                  have z12 := Lib.frozen_of_heap n12 3
                  simp at d12
                  have n13 := heap_setCell_same w12 w2.heap.size 3 _ _ (.slice pc code.length cc) n12
                  have g13 := grown_set w12 w2.heap.size 3 (.slice pc code.length cc)
                  have row13 := row12.kept g13 (.inr (row_not row12 n12 (by decide)).symm)
                  have kl13 := kl12.grown g13 (by omega) (fun r e => by cases e; exact .inr (.inr (Nat.le_refl _)))
                  have A13 := (heap_setCell_other w12 ⟨w2.heap.size, 3, none⟩ (w.heap.size + 1 + 1) (.slice pc code.length cc) (by simp; omega)).trans A12
                  have S13 := (heap_setCell_other w12 ⟨w2.heap.size, 3, none⟩ w.heap.size (.slice pc code.length cc) (by simp; omega)).trans S12
                  have O13 := (heap_setCell_other w12 ⟨w2.heap.size, 3, none⟩ (w.heap.size + 1 + 1 + 1) (.slice pc code.length cc) (by simp; omega)).trans O12
                  have hnr12 : NoRow w12 (some w2.heap.size) := noRow_at n12 (by decide) (by decide)
                  have ops13 := hcv.kept hnew g13 hnr12
                  have new13 := hnew.kept g13 (fun r hr => by obtain ⟨cs, t, fz, h1, _, h2⟩ := hnr12 r hr; exact ⟨cs, t, fz, h1, h2⟩)
                  have fo13 : FnOwn (w12.setCell ⟨w2.heap.size, 3, none⟩ (.slice pc code.length cc)) (w.heap.size + 1 + 1 + 1 + 1 + 1) (.int .i64 P) (.slice pL j cL) (.int .i64 R) (.slice pc code.length cc) (P, (readLocs j st2).1, R, code) := ⟨⟨rfl, intsAt_of_row (readLocs_length j st2).symm row13, rfl, ops13⟩, (newSl_of_row row13).low (by omega), new13.low (by omega)⟩
                  obtain ⟨W13, hW13⟩ : ∃ W, w12.setCell ⟨w2.heap.size, 3, none⟩ (.slice pc code.length cc) = W := ⟨_, rfl⟩
                  rw [hW13] at n13 kl13 A13 S13 O13 fo13
                  have hz13 := heap_lt n13
                  have cA13 := cell_at' A13 0
                  have zA13 := Lib.frozen_of_heap A13 0
                  simp at cA13
                  clear hnr12 ops13 new13 row13 g13 hcv hnew row12
                  have n14 := (heap_setCell_other W13 ⟨(w.heap.size + 1 + 1), 0, none⟩ w2.heap.size (.int .i64 ((k6 : Int) + (many : Int))) (by simp <;> omega)).trans n13
                  have A14 := heap_setCell_same W13 (w.heap.size + 1 + 1) 0 _ _ (.int .i64 ((k6 : Int) + (many : Int))) A13
                  have S14 := (heap_setCell_other W13 ⟨(w.heap.size + 1 + 1), 0, none⟩ w.heap.size (.int .i64 ((k6 : Int) + (many : Int))) (by simp <;> omega)).trans S13
                  have O14 := (heap_setCell_other W13 ⟨(w.heap.size + 1 + 1), 0, none⟩ (w.heap.size + 1 + 1 + 1) (.int .i64 ((k6 : Int) + (many : Int))) (by simp <;> omega)).trans O13
                  have kl14 := kl13.grown (grown_set W13 (w.heap.size + 1 + 1) 0 (.int .i64 ((k6 : Int) + (many : Int)))) (by omega) (fun r e => by cases e; exact .inl rfl)
                  have fo14 := fo13.same (W' := W13.setCell ⟨(w.heap.size + 1 + 1), 0, none⟩ (.int .i64 ((k6 : Int) + (many : Int)))) (by simp) (fun i hi _ => heap_setCell_other W13 ⟨(w.heap.size + 1 + 1), 0, none⟩ i _ (by simp; omega))
                  obtain ⟨W14, hW14⟩ : ∃ W, W13.setCell ⟨(w.heap.size + 1 + 1), 0, none⟩ (.int .i64 ((k6 : Int) + (many : Int))) = W := ⟨_, rfl⟩
                  rw [hW14] at n14 A14 S14 O14 kl14 fo14
                  have hRO14 : RO W14 (w.heap.size + 1 + 1) w.heap.size (w.heap.size + 1 + 1 + 1) s (some (r6.drop many)) := ⟨k6 + many, A14, S14, O14, hk6m, (fun r hr => by cases hr; rw [HR6.out, List.drop_drop]), (fun h => by cases h)⟩
                  have p14 := (kl14.block (w.heap.size + 1 + 1 + 1 + 1) (by omega) (by omega) (by omega)).trans hp
                  have r14 := (kl14.block (w.heap.size + 1) (by omega) (by omega) (by omega)).trans hr
                  have hrow14 := ownsRow_same (W' := W14) hrow (fun i hi => kl14.block i (hrow.lt i hi).2 (by have := (hrow.lt i hi).1; omega) (by have := (hrow.lt i hi).1; omega))
                  have hq14 := hq.same kl14.size (fun i hi hl => kl14.block i hl (by omega) (by omega))
                  have hB14 := Below.kl hB kl14 (by omega) (by omega) (by omega)
                  have hz14 := heap_lt n14
                  have e0 := cell_at' n14 0
                  have e1 := cell_at' n14 1
                  have e2 := cell_at' n14 2
                  have e3 := cell_at' n14 3
                  have e4 := cell_at' p14 0
                  simp at e0 e1 e2 e3 e4
                  clear n13 A13 S13 O13 kl13 fo13 A14 S14 O14 A12 S12 O12 kl12 n12
                  have hnews : ∀ (j' : Nat) (u : Value), [Value.int .i64 P, .slice pL j cL, .int .i64 R, .slice pc code.length cc][j']? = some u → (W14.alloc (.cells #[.int .i64 P, .slice pL j cL, .int .i64 R, .slice pc code.length cc] 82)).cell? ((⟨W14.heap.size, 0, none⟩ : Addr).add j') = some u := by
                    intro j' u hj'
                    have hn := World.alloc_heap_new W14 (.cells #[.int .i64 P, .slice pL j cL, .int .i64 R, .slice pc code.length cc] 82)
                    match j', hj' with
                    | 0, hj' => simp at hj'; subst hj'; exact cell_at' hn 0
                    | 1, hj' => simp at hj'; subst hj'; exact cell_at' hn 1
                    | 2, hj' => simp at hj'; subst hj'; exact cell_at' hn 2
                    | 3, hj' => simp at hj'; subst hj'; exact cell_at' hn 3
                    | j'' + 4, hj' => simp at hj'
                  have hso : ∀ u ∈ [Value.int .i64 P, .slice pL j cL, .int .i64 R, .slice pc code.length cc], u.oneCell' = true := by
                    intro u hu; simp at hu; rcases hu with rfl | rfl | rfl | rfl <;> rfl
                  have hpne : (some (w.heap.size + 1 + 1 + 1 + 1) : Option Nat) ≠ Value.ownBlock (.slice pF k cF) := row_not hrow hp (by decide)
                  have hrne : (some (w.heap.size + 1) : Option Nat) ≠ Value.ownBlock (.slice pF k cF) := row_not hrow hr (by decide)
                  have hg15 := World.grownBy_alloc W14 (.cells #[.int .i64 P, .slice pL j cL, .int .i64 R, .slice pc code.length cc] 82) none
                  have hrow15 := hrow14.alloc (.cells #[.int .i64 P, .slice pL j cL, .int .i64 R, .slice pc code.length cc] 82)
                  have p15 := heap_old p14 (.cells #[.int .i64 P, .slice pL j cL, .int .i64 R, .slice pc code.length cc] 82)
                  have r15 := heap_old r14 (.cells #[.int .i64 P, .slice pL j cL, .int .i64 R, .slice pc code.length cc] 82)
                  go_wp2_with (at_builtin; refine wpList_append_own _ rfl _ _ 39 rfl (w.heap.size + 1 + 1 + 1 + 1 + 1) 82 i1 (.agg #[.int .i64 0, .slice none 0 0, .int .i64 0, .slice none 0 0]) 4 64 Try.underlying39 hj hy0 hy1 hy2 rfl (by decide) _ _ _ rfl hrow15 ⟨W14.heap.size, 0, none⟩ 1 1 _ rfl rfl hnews hso (by unfold maxLen; omega) (by omega) (by simp; omega) ?_; intro v' w16 hown16 hg16 _; obtain ⟨g', cap', rfl⟩ := ownsRow_succ hown16; have p16 := (hg16.block _ (heap_lt p15) hpne).trans p15; have d16 := cell_at' p16 0; have z16 := Lib.frozen_of_heap p16 0)
                  go_roundw
                  case rel =>
                    have r16 := (hg16.block _ (heap_lt r15) hrne).trans r15
                    have hgs := grown_set w16 (w.heap.size + 1 + 1 + 1 + 1) 0 (.slice (some ⟨g', 0, none⟩) (k + 1) cap')
                    have hnp : NoRow w16 (some (w.heap.size + 1 + 1 + 1 + 1)) := noRow_at p16 (by decide) (by decide)
                    have hnr15 := noRow_row hrow15 (by decide) (by decide)
                    refine ⟨k + 1, by omega, by go_num, _, q ++ [(.int .i64 P, .slice pL j cL, .int .i64 R, .slice pc code.length cc)], ?_, (heap_setCell_other w16 _ _ _ (by simp)).trans r16, heap_setCell_same w16 _ 0 _ _ _ p16, ?_, ?_, ?_, ?_⟩
                    · show RO _ _ _ _ _ (readFn (stAt k st)).2.2
                      rw [HS0.out, HFN.out]
                      exact ((hRO14.kept hg15 (fun r h => by cases h)).kept hg16 (fun r h => by have := (hrow.lt r h).1; omega)).kept hgs (fun r h => by cases h; omega)
                    · have e1 : fnCells (q ++ [(.int .i64 P, .slice pL j cL, .int .i64 R, .slice pc code.length cc)]) = fnCells q ++ [.int .i64 P, .slice pL j cL, .int .i64 R, .slice pc code.length cc] := by simp [fnCells]
                      rw [e1]
                      exact hown16.kept hgs (.inr (row_not hown16 p16 (by decide)).symm)
                    · rw [fnsTo_succ, HS0.out, HFN.out]
                      exact ((((hq14.kept hg15 (noRow_none _)).kept hg16 hnr15).kept hgs hnp)).snoc (((fo14.kept hg15 (noRow_none _)).kept hg16 hnr15).kept hgs hnp)
                    · intro i hi
                      rcases Nat.lt_succ_iff_lt_or_eq.1 hi with h | rfl
                      · exact HOK.out i h
                      · rw [HS0.out, HFN.out]; simp
                    · have hB15 := hB14.grown hg15 (by omega) (fun j hj => by cases hj)
                      have hB16 := hB15.grown hg16 (by simp; omega) (fun i hi => by have := (hrow.lt i hi).1; omega)
                      exact hB16.setCell (p := ⟨(w.heap.size + 1 + 1 + 1 + 1), 0, none⟩) (by simp; omega) _
                  case measure => simp [intOf]; omega
                · have her' : (er != 0) = true := by simpa using her
                  have HBD : Hid ((readFn S0).2.1 = false) := by show _ = _; rw [HFN.out]; simp [her]
                  have rE := (kl12.block (w.heap.size + 1) (by omega) (by omega) (by omega)).trans hr
                  have dE := cell_at' rE 0
                  have zE := Lib.frozen_of_heap rE 0
                  simp at dE
                  have tE := cell_at' (heap_setCell_same w12 (w.heap.size + 1) 0 _ _ (.slice none 0 0) rE) 0
                  simp at tE
                  have hBE := (Below.kl hB kl12 (by omega) (by omega) (by omega)).setCell (p := ⟨(w.heap.size + 1), 0, none⟩) (by simp) (.slice none 0 0)
                  have HBAD := hideP (decProg_bad HN.out HST.out (by rw [HLEN.out]; exact hs2) hlt (by rw [HS0.out]; exact HBD.out))
                  clear rE
                  go_wp2
                  refine bodyPost_ret (v := .tuple #[.agg #[.slice none 0 0], .int .i64 1]) (by simp [results, Try.results27, go_sem, tE]) rfl ?_
                  rw [HBAD.out]
                  exact ⟨_, rfl, fnsAt_nil _, hBE⟩
    · skip
      have hlti : ¬ (k : Int) < (n : Int) := by omega
      obtain rfl : k = n := by omega
      have hend := decProg_end HN.out HST.out (by rw [HLEN.out]; exact hs2) HOK.out
      rw [HS0.out] at hend
      have HEND := hideP hend
      obtain ⟨k6, hA6, hSS6, hO6, hk6, hr6, _⟩ := hRO
      have cA := cell_at' hA6 0
      have cS := cell_at' hSS6 0
      have cO := cell_at' hO6 0
      simp at cA cS
      clear hend
      rcases hS : S0 with _ | r
      · rw [hS] at cO
        simp at cO
        have HSN := hideP hS
        clear hS
        have dE := cell_at' hr 0
        have zE := Lib.frozen_of_heap hr 0
        simp at dE
        have tE := cell_at' (heap_setCell_same w2 (w.heap.size + 1) 0 _ _ (.slice none 0 0) hr) 0
        simp at tE
        have hBE := hB.setCell (p := ⟨(w.heap.size + 1), 0, none⟩) (by simp) (.slice none 0 0)
        have HBAD : Hid (decProg s.data.toList = ([], 1)) := by show _ = _; rw [HEND.out, HSN.out]; rfl
        go_wp2
        refine bodyPost_ret (v := .tuple #[.agg #[.slice none 0 0], .int .i64 1]) (by simp [results, Try.results27, go_sem, tE]) rfl ?_
        rw [HBAD.out]
        exact ⟨_, rfl, fnsAt_nil _, hBE⟩
      · have hr7 := hr6 r hS
        rw [hS] at cO
        simp at cO
        have HSN := hideP hS
        clear hS hr6
        by_cases hlt6 : k6 < s.size
        · have hlt6i : (k6 : Int) < (s.size : Int) := by omega
          have hne : ¬ r = [] := by rw [hr7]; simp; omega
          have HNE := hideP hne
          clear hne hr7
          have dE := cell_at' hr 0
          have zE := Lib.frozen_of_heap hr 0
          simp at dE
          have tE := cell_at' (heap_setCell_same w2 (w.heap.size + 1) 0 _ _ (.slice none 0 0) hr) 0
          simp at tE
          have hBE := hB.setCell (p := ⟨(w.heap.size + 1), 0, none⟩) (by simp) (.slice none 0 0)
          have HBAD : Hid (decProg s.data.toList = ([], 1)) := by show _ = _; rw [HEND.out, HSN.out]; simp [HNE.out]
          go_wp2
          refine bodyPost_ret (v := .tuple #[.agg #[.slice none 0 0], .int .i64 1]) (by simp [results, Try.results27, go_sem, tE]) rfl ?_
          rw [HBAD.out]
          exact ⟨_, rfl, fnsAt_nil _, hBE⟩
        · have hlt6i : ¬ (k6 : Int) < (s.size : Int) := by omega
          have hnil : r = [] := by rw [hr7]; simp; omega
          obtain ⟨er, her⟩ : ∃ x, progErr (fnsTo k st) = x := ⟨_, rfl⟩
          have HD : Hid (decProg s.data.toList = if er ≠ 0 then ([], er) else (fnsTo k st, 0)) := by show _ = _; rw [HEND.out, HSN.out, hnil, if_pos rfl, her]
          have hfo : FnsOwn w2 (w.heap.size + 1 + 1 + 1 + 1 + 1) (.slice pF k cF) (fnsTo k st) := ⟨q, k, (fnsTo_length k st).symm, hn, hrow, hq⟩
          have hck := checkProgram_any (fnsTo k st) _ w2 hfo.at
          rw [her] at hck
          have HCK := hideP hck
          have d2 := cell_at' hp 0
          simp at d2
          clear hck her hnil hr7 HEND
          go_wp2_with fail
          refine HCK.out.mono ?_
          rintro e w3 ⟨rfl, hb3⟩
          have r3 := (hb3.block _ (heap_lt hr)).trans hr
          have p3 := (hb3.block _ (heap_lt hp)).trans hp
          have hB3 := hB.trans (hb3.mono hB.size)
          have hfo3 := hfo.below hb3
          have d3 := cell_at' p3 0
          have dE := cell_at' r3 0
          have zE := Lib.frozen_of_heap r3 0
          simp at d3 dE
          clear HCK
          by_cases h0 : er = 0
          · subst h0
            have tE := cell_at' (heap_setCell_same w3 (w.heap.size + 1) 0 _ _ (.slice pF k cF) r3) 0
            simp at tE
            have hBE := hB3.setCell (p := ⟨(w.heap.size + 1), 0, none⟩) (by simp) (.slice pF k cF)
            have hfx := (hfo3.set (j := 0) r3 (.slice pF k cF)).at
            go_wp2
            refine bodyPost_ret (v := .tuple #[.agg #[.slice pF k cF], .int .i64 0]) (by simp [results, Try.results27, go_sem, tE]) rfl ?_
            rw [HD.out]
            exact ⟨_, rfl, hfx, hBE⟩
          · have h0' : (er != 0) = true := by simpa using h0
            have tE := cell_at' (heap_setCell_same w3 (w.heap.size + 1) 0 _ _ (.slice none 0 0) r3) 0
            simp at tE
            have hBE := hB3.setCell (p := ⟨(w.heap.size + 1), 0, none⟩) (by simp) (.slice none 0 0)
            go_wp2
            refine bodyPost_ret (v := .tuple #[.agg #[.slice none 0 0], .int .i64 er]) (by simp [results, Try.results27, go_sem, tE]) rfl ?_
            rw [HD.out, if_pos h0]
            exact ⟨_, rfl, fnsAt_nil _, hBE⟩
end Go.Proofs.Ytjcaapgecimooaa
/- The reference on blocks: CheckBlocks, CheckPlace, CopyBlocks; blocksAre. -/
namespace Go.Proofs.Ytjcaapgecimooaa
open Go.RowKit
set_option linter.unusedSimpArgs false
set_option linter.unusedVariables false
theorem blkErr_stray {L : List (List Int)} {i k : Nat} {b : List Int} {z : Int} (h8 : L.length ≤ 8) (h40 : cellsN L ≤ 40) (hb : L[i]? = some b) (hz : b[k]? = some z) (hn : isI32 z = false) : blkErr L = 3 := by
  unfold blkErr
  rw [if_neg (by omega), if_neg]
  intro h
  have := List.all_eq_true.1 (List.all_eq_true.1 h b (List.mem_of_getElem? hb)) z (List.mem_of_getElem? hz)
  rw [hn] at this; cases this
/-- the place alone, of blocks that are right. -/
theorem placeErr_right {L : List (List Int)} {ref at_ : Int} (hb : blkErr L = 0) : placeErr L ref at_ = if ref = 0 then 5 else if ref < 0 ∨ (L.length : Int) < ref ∨ at_ < 0 ∨ ((blkAt L ref).length : Int) ≤ at_ then 3 else 0 := by unfold placeErr; rw [if_neg (by simpa using hb)]
end Go.Proofs.Ytjcaapgecimooaa
