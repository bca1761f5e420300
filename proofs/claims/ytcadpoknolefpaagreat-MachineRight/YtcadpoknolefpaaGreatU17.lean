/- My texts Ye Bh, joined. -/
import Derived.Test.YtcadpoknolefpaaGreatU13
import Derived.Test.YtcadpoknolefpaaGreatU16
/- ProgramOf. -/
namespace Go.Proofs.YtcadpoknolefpaaGreat
open Go.RowKit
set_option linter.unusedSimpArgs false
set_option linter.unusedVariables false
theorem Wrote.block {A O : Nat} {W W' : World} (h : Wrote A O W W') {k : Nat} (hk : k < W.heap.size) (h1 : k ≠ A) (h2 : k ≠ O) : W'.heap[k]? = W.heap[k]? := by
  obtain ⟨r, hr, hg⟩ := h
  exact hg.block k hk (fun e => by cases e; rcases hr with h | h <;> omega)
theorem Wrote.kl {A O F : Nat} {W W' W'' : World} (h : Wrote A O W' W'') (k : KL A O F W W') (hF : F ≤ W'.heap.size) : KL A O F W W'' := by
  obtain ⟨r, hr, hg⟩ := h
  exact k.grown hg hF (fun r' e => by cases e; rcases hr with h | h <;> simp [h])
theorem Wrote.size {A O : Nat} {W W' : World} (h : Wrote A O W W') : W.heap.size ≤ W'.heap.size := by
  obtain ⟨r, hr, hg⟩ := h
  exact hg.size
theorem Wrote.row {A O : Nat} {W W' : World} (h : Wrote A O W W') {base : Nat} {e : TypeId} {size : Nat} {v : Value} {n : Nat} {xs : List Value} (hr : W.ownsRow base e size v n xs) (h1 : A < base) (h2 : O < base) : W'.ownsRow base e size v n xs :=
  ownsRow_same hr fun k hk => h.block (hr.lt k hk).2 (by have := (hr.lt k hk).1; omega) (by have := (hr.lt k hk).1; omega)
theorem Wrote.drew {A O : Nat} {W W' : World} (h : Wrote A O W.drew W') : Wrote A O W W' := by
  obtain ⟨r, hr, hg⟩ := h
  exact ⟨r, hr, (drew_grown' W r).trans hg⟩
theorem Wrote.below {A O B0 : Nat} {w W W' : World} (h : Wrote A O W W') (hB : Below B0 w W) (hW : B0 ≤ W.heap.size) (hA : B0 ≤ A) (hO : B0 ≤ O) : Below B0 w W' := by
  obtain ⟨r, hr, hg⟩ := h
  exact hB.grown hg hW (fun k e => by cases e; rcases hr with h | h <;> omega)
/-- what the loop over functions keeps. -/
def ProgI (w : World) (s : ByteArray) (st : Rd) (k : Nat) (wr : World) : Prop :=
  ∃ vF q, RO wr (w.heap.size + 1 + 1) w.heap.size (w.heap.size + 1 + 1 + 1) s (stAt k st) ∧ wr.heap[w.heap.size + 1]? = some (.cells #[.slice none 0 0] 24 (0, 0)) ∧ wr.heap[w.heap.size + 1 + 1 + 1 + 1]? = some (.cells #[vF] 24 (0, 0)) ∧
    wr.ownsRow (w.heap.size + 1 + 1 + 1 + 1 + 1) 78 4 vF k (fnCells q) ∧ FnRows wr (w.heap.size + 1 + 1 + 1 + 1 + 1) q (fnsTo k st) ∧ (∀ i, i < k → (readFn (stAt i st)).2.1 = true) ∧ Below w.heap.size w wr
/-- what the loop over locals keeps. -/
def LocK (A S O F : Nat) (s : ByteArray) (P : Int) (st : Rd) (j : Nat) (w2 wr : World) : Prop :=
  ∃ vL, RO wr A S O s (readLocs j st).2 ∧ wr.heap[F]? = some (.cells #[.int .i64 P, vL, .int .i64 0, .slice none 0 0] 78 (0, 0)) ∧ wr.ownsRow F 3 1 vL j ((readLocs j st).1.map (Value.int .i64)) ∧ KL A O F w2 wr
end Go.Proofs.YtcadpoknolefpaaGreat
/- The reference on blocks: CheckBlocks, CheckPlace, CopyBlocks; blocksAre. -/
namespace Go.Proofs.YtcadpoknolefpaaGreat
open Go.RowKit
set_option linter.unusedSimpArgs false
set_option linter.unusedVariables false
theorem blkErr_stray {L : List (List Int)} {i k : Nat} {b : List Int} {z : Int} (h8 : L.length ≤ 8) (h40 : cellsN L ≤ 40) (hb : L[i]? = some b) (hz : b[k]? = some z) (hn : isI32 z = false) : blkErr L = 3 := by
  unfold blkErr
  rw [if_neg (by omega), if_neg]
  intro h
  have := List.all_eq_true.1 (List.all_eq_true.1 h b (List.mem_of_getElem? hb)) z (List.mem_of_getElem? hz)
  rw [hn] at this; cases this
set_option maxRecDepth 100000 in
set_option maxHeartbeats 2000000 in
theorem checkBlocks_any (L : List (List Int)) (v : Value) (w : World) (h : BlksAt w v L) : Calls Tryz.prog 49 #[v] w fun e w' => e = .returned (.int .i64 (blkErr L)) ∧ w' = w := by
  obtain ⟨p, cap, hv, hm, hc⟩ := id h
  unfold maxLen at hm
  subst hv
  by_cases h8 : 8 < L.length
  · have h8' : (8 : Int) < (L.length : Int) := by omega
    have hd : decide ((L.length : Int) > 8) = true := by simpa using h8'
    have he : blkErr L = 2 := by unfold blkErr; rw [if_pos (.inl h8)]
    rw [he]
    clear h he hc
    go_enter Tryz.func49, Tryz.ntmps49
    go_wp2
    go_ret
    exact ⟨rfl, rfl⟩
  · have h8' : ¬ (8 : Int) < (L.length : Int) := by omega
    have hd : decide ((L.length : Int) > 8) = false := by simp; omega
    have H := hideP h
    have HC := hideP hc
    clear h hc
    by_cases h40 : 40 < cellsN L
    · have h40' : (40 : Int) < (cellsN L : Int) := by omega
      have he : blkErr L = 2 := by unfold blkErr; rw [if_pos (.inr h40)]
      rw [he]
      clear he
      go_enter Tryz.func49, Tryz.ntmps49
      go_wp2_with (go_at_call 58; refine (cellsOf_any L _ _ H.out (by omega)).mono ?_; rintro e w' ⟨rfl, hw⟩; have hw := hw.symm; subst hw)
      go_ret
      exact ⟨rfl, rfl⟩
    · have h40' : ¬ (40 : Int) < (cellsN L : Int) := by omega
      have hbl : ∀ (i : Nat) (b : List Int), L[i]? = some b → b.length ≤ 40 := fun i b hb => by have := cellsN_mem hb; omega
      have HBL := hideP hbl
      clear hbl
      go_enter Tryz.func49, Tryz.ntmps49
      go_wp2_with (go_at_call 58; refine (cellsOf_any L _ _ H.out (by omega)).mono ?_; rintro e w' ⟨rfl, hw⟩; have hw := hw.symm; subst hw)
      go_loopw [3, 4] (fun v3 _ wr => ∃ i : Nat, i ≤ L.length ∧ v3 = .int .i64 i ∧ (∀ b ∈ L.take i, b.all isI32 = true) ∧ wr = w) (fun v3 _ _ => L.length - (intOf v3).toNat)
      case atStart => exact ⟨0, Nat.zero_le _, rfl, by simp, rfl⟩
      case round =>
        rename World => w1
        obtain ⟨i, hi, rfl, hok, hw1⟩ := hrel
        subst hw1
        have HOK := hideP hok
        clear hok
        by_cases hil : i < L.length
        · have hili : (i : Int) < (L.length : Int) := by omega
          obtain ⟨b, hb⟩ := at_of_lt hil
          obtain ⟨g, off, c, hp, hg, g0, g1, _, _⟩ := HC.out i b hb
          subst hp
          obtain ⟨p1, q1, hc1, _, hcc⟩ := g1
          subst hc1
          have hb40 := HBL.out i b hb
          have HB := hideP hb
          have HCC := hideP hcc
          clear hb hcc
          go_wp2
          go_loopw [4] (fun v4 wr => ∃ k : Nat, k ≤ b.length ∧ v4 = .int .i64 k ∧ (∀ z ∈ b.take k, isI32 z = true) ∧ wr = w1) (fun v4 _ => b.length - (intOf v4).toNat)
          case atStart => exact ⟨0, Nat.zero_le _, rfl, by simp, rfl⟩
          case round =>
            rename World => w2
            obtain ⟨k, hk, rfl, hok2, hw2⟩ := hrel
            subst hw2
            have HOK2 := hideP hok2
            clear hok2
            by_cases hkl : k < b.length
            · have hkli : (k : Int) < (b.length : Int) := by omega
              obtain ⟨z, hz⟩ := at_of_lt hkl
              obtain ⟨g', off', hp', _, g2⟩ := HCC.out k z hz
              subst hp'
              have HZ := hideP hz
              clear hz
              cases hn : isI32 z
              · go_wp2_with (go_at_call 50; refine (isInt_any z _).mono ?_; rw [hn]; rintro e w3 ⟨rfl, hw⟩; have hw := hw.symm; subst hw)
                go_ret
                exact ⟨by rw [blkErr_stray (by omega) (by omega) HB.out HZ.out hn]; rfl, rfl⟩
              · go_wp2_with (go_at_call 50; refine (isInt_any z _).mono ?_; rw [hn]; rintro e w3 ⟨rfl, hw⟩; have hw := hw.symm; subst hw)
                go_roundw
                case rel => exact ⟨k + 1, by omega, by go_num, all_snoc HOK2.out HZ.out hn, trivial⟩
                case measure => simp [intOf]; omega
            · have hkli : ¬ (k : Int) < (b.length : Int) := by omega
              go_wp2
              go_roundw
              case rel =>
                refine ⟨i + 1, by omega, by go_num, all_snoc (p := fun b => b.all isI32) HOK.out HB.out ?_, trivial⟩
                have := HOK2.out
                rw [List.take_of_length_le (by omega)] at this
                exact all_true this
              case measure => simp [intOf]; omega
        · have hili : ¬ (i : Int) < (L.length : Int) := by omega
          go_wp2
          go_ret
          have := HOK.out
          rw [List.take_of_length_le (by omega)] at this
          have he : blkErr L = 0 := by unfold blkErr; rw [if_neg (by omega), if_pos (all_true this)]
          exact ⟨by rw [he]; rfl, rfl⟩
/-- the place alone, of blocks that are right. -/
theorem placeErr_right {L : List (List Int)} {ref at_ : Int} (hb : blkErr L = 0) : placeErr L ref at_ = if ref = 0 then 5 else if ref < 0 ∨ (L.length : Int) < ref ∨ at_ < 0 ∨ ((blkAt L ref).length : Int) ≤ at_ then 3 else 0 := by unfold placeErr; rw [if_neg (by simpa using hb)]
set_option maxRecDepth 100000 in
set_option maxHeartbeats 2000000 in
theorem copyBlocks_any (L : List (List Int)) (v : Value) (w : World) (h : BlksAt w v L) (h8 : L.length ≤ 8) (h40 : ∀ b ∈ L, b.length ≤ 40) : Calls Tryz.prog 95 #[v] w fun e w' => ∃ u, e = .returned u ∧ BlksOwn w' w.heap.size u L ∧ Below w.heap.size w w' := by
  obtain ⟨i1, hj, hy0, hy1, hy2⟩ := info_parts infoInts
  obtain ⟨p, cap, hv, -, -⟩ := id h
  subst hv
  have H := hideP h
  have H40 := hideP h40
  clear h h40
  go_enter Tryz.func95, Tryz.ntmps95
  go_wp2
  go_loopw [3, 4] (fun v3 v4 wr => ∃ (k : Nat) (q : List Value), k ≤ L.length ∧ v4 = .int .i64 k ∧ wr.ownsRow w.heap.size 27 1 v3 q.length q ∧ BRows wr w.heap.size q (L.take k) ∧ Below w.heap.size w wr) (fun _ v4 _ => L.length - (intOf v4).toNat)
  case atStart => exact ⟨0, [], Nat.zero_le _, rfl, World.ownsRow_nil _ _ _ _, bRows_nil _ _, Below.refl _ _⟩
  case round =>
    rename World => w1
    obtain ⟨k, q, hk, rfl, hrow, hrs, b1⟩ := hrel
    obtain ⟨p3, c3, hv3⟩ := row_shp hrow
    subst hv3
    have s1 := b1.size
    have hql : q.length = k := by rw [hrs.len]; simp; omega
    by_cases hlt : k < L.length
    · have hlti : (k : Int) < (L.length : Int) := by omega
      obtain ⟨b, hb⟩ := at_of_lt hlt
      obtain ⟨p5, q5, he5, _, hc5⟩ := H.out.below b1
      cases he5
      obtain ⟨g, off, c, hp, hg, g0, g1, gn, _⟩ := hc5 k b hb
      subst hp
      obtain ⟨p6, c6, hc6, _, _⟩ := id g1
      subst hc6
      have hbl := H40.out b (List.mem_of_getElem? hb)
      have hbA := (Below.refl w1.heap.size w1).alloc (Nat.le_refl _) (.cells #[] 3)
      have hmade := World.ownsRow_made (base := w1.heap.size) (e := 3) (size := 1) w1 #[] 0 (Nat.le_refl _) (by unfold maxLen; omega) rfl
      have HMADE := hideP hmade
      have HG1 := hideP (g1.below hbA)
      have HGN := hideP gn
      have HB := hideP hb
      have HRS := hideP hrs
      have HROW := hideP hrow
      have hq8 : q.length ≤ 8 := by omega
      have HQL := hideP hql
      clear hc5 g1 gn hb hrs hrow hmade hql
      go_wp2_with (first
        | (at_builtin; refine wpList_append_ints rfl _ _ rfl w1.heap.size _ _ _ rfl HMADE.out _ b rfl HG1.out HGN.out (by unfold maxLen; omega) (by omega) (by simp) ?_; intro v6 w6 hown6 hg6; simp only [Nat.zero_add, List.nil_append] at hown6; have b6 : Below w1.heap.size w1 w6 := (hbA.grown hg6 (by simp) (fun j hj => (HMADE.out.lt j hj).1)); obtain ⟨p7, c7, hv7⟩ := row_shp hown6; subst hv7; have hrow6 := row_same HROW.out (W' := w6) (fun j hj => b6.block j (HROW.out.lt j hj).2); have HROW7 := hideP (hrow6.alloc (.cells #[.slice p7 b.length c7] 27)); have HOWN6 := hideP hown6; have s6 := b6.size; clear hown6 hrow6)
        | (at_builtin; refine wpList_append_own _ rfl _ _ 26 rfl w.heap.size 27 i1 (.slice none 0 0) 1 24 Tryz.underlying26 hj hy0 hy1 hy2 rfl (by decide) _ _ _ rfl HROW7.out ⟨w6.heap.size, 0, none⟩ 1 1 [.slice p7 b.length c7] rfl rfl (cell_one_at (by rw [cell_at' (World.alloc_heap_new w6 (.cells #[.slice p7 b.length c7] 27)) 0]; rfl)) (by simp [Value.oneCell']) (by unfold maxLen; omega) (by omega) (by simp; omega) ?_; intro v9 w9 hown9 hg9 _; have HOWN9 := hideP hown9; clear hown9))
      go_roundw
      case rel =>
        have hA := (HRS.out.below b6).below ((Below.refl w6.heap.size w6).alloc (Nat.le_refl _) (.cells #[.slice p7 b.length c7] 27))
        have hne : ∀ (g : Nat) (cs : Array Value), (w6.alloc (.cells #[.slice p7 b.length c7] 27)).heap[g]? = some (.cells cs 3 (0, 0)) → some g ≠ Value.ownBlock (.slice p3 q.length c3) := fun g cs h1 => row_not HROW7.out h1 (by decide)
        have hB9 : BRows w9 w.heap.size q (L.take k) := hA.same fun i x g h1 h2 => by
          obtain ⟨_, h5, cs, h6⟩ := hA.lt h1 h2
          exact hg9.block g h5 (hne g cs h6)
        have hr7 := HOWN6.out.alloc (.cells #[.slice p7 b.length c7] 27)
        have hr9 : w9.ownsRow w1.heap.size 3 1 (.slice p7 b.length c7) b.length (b.map (Value.int .i64)) := row_same hr7 fun g h2 => by
          rcases hr7.2 with ⟨h3, _⟩ | ⟨g', cap', cur, h3, _, h6, _⟩
          · rw [h3] at h2; cases h2
          · rw [h3] at h2; cases h2
            exact hg9.block g' (heap_lt h6) (hne g' _ h6)
        refine ⟨k + 1, q ++ [.slice p7 b.length c7], by omega, by go_num, ?_, ?_, ?_⟩
        · rw [List.length_append, List.length_singleton]
          exact HOWN9.out
        · rw [take_snoc L k b HB.out]
          exact hB9.snoc hr9 s1 (fun i y g h1 h2 => (HRS.out.lt h1 h2).2.1) (by omega)
        · exact ((bthen0 b1 b6).alloc (by omega) _).grown hg9 (by simp; omega) (fun j hj => (HROW7.out.lt j hj).1)
      case measure => simp [intOf]; omega
    · have hlti : ¬ (k : Int) < (L.length : Int) := by omega
      have HRS := hideP hrs
      have HROW := hideP hrow
      clear hrs hrow hql
      go_wp2
      go_ret
      have h1 := HRS.out
      rw [List.take_of_length_le (by omega)] at h1
      exact ⟨_, rfl, ⟨q, HROW.out, h1⟩, b1⟩
end Go.Proofs.YtcadpoknolefpaaGreat
