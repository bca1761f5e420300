/- My texts Bg Ga Gb Jn, joined. -/
import Derived.Test.YtjmpbnfkiikiaaaU1
import Derived.Test.YtjmpbnfkiikiaaaU7
import Derived.Test.YtjmpbnfkiikiaaaU11
import Derived.Test.YtjmpbnfkiikiaaaU12
/- the reference's SameBlocks, CellsOf; blockBegun. -/
namespace Go.Proofs.Ytjmpbnfkiikiaaa
open Go.RowKit
set_option linter.unusedSimpArgs false
set_option linter.unusedVariables false
set_option maxHeartbeats 1000000 in
theorem sameBlocks_any (L M : List (List Int)) (v u : Value) (w : World) (hL : BlksAt w v L) (hM : BlksAt w u M) : Calls Try.prog 11 #[v, u] w fun e w' => e = .returned (.bool (decide (L = M))) ∧ Below w.heap.size w w' := by
  obtain ⟨p, cap, rfl, hlm, hc⟩ := hL
  obtain ⟨q, cap', rfl, hmm, hd⟩ := hM
  unfold maxLen at hlm hmm
  by_cases hlen : L.length = M.length
  · have hlen' : ((L.length : Int) != (M.length : Int)) = false := by simp; omega
    have HLEN := hideP hlen
    have HC := hideP hc
    have HD := hideP hd
    clear hc hd hlen
    go_enter Try.func11, Try.ntmps11
    go_wp2
    go_loopw [5] (fun i wr => ∃ k : Nat, k ≤ L.length ∧ i = .int .i64 k ∧ L.take k = M.take k ∧ Below w.heap.size w wr) (fun i _ => L.length - (intOf i).toNat)
    case atStart => exact ⟨0, Nat.zero_le _, rfl, by simp, Below.refl _ _⟩
    case round =>
      rename World => w1
      obtain ⟨k, hk, rfl, htk, hbw⟩ := hrel
      have HT := hideP htk
      clear htk
      by_cases hlt : k < L.length
      · have hlt2 : k < M.length := by have := HLEN.out; omega
        obtain ⟨x, ho⟩ := at_of_lt hlt
        obtain ⟨y, ho'⟩ := at_of_lt hlt2
        obtain ⟨b, off, c, rfl, hb, h0, h1, _, _⟩ := HC.out k _ ho
        obtain ⟨b', off', c', rfl, hb', h0', h1', _, _⟩ := HD.out k _ ho'
        have g0 := (hbw.cell (p := ⟨b, off + k, none⟩) hb).trans h0
        have g0' := (hbw.cell (p := ⟨b', off' + k, none⟩) hb').trans h0'
        have hlti : (k : Int) < (L.length : Int) := by omega
        have hlti2 : (k : Int) < (M.length : Int) := by omega
        obtain ⟨p1, c1, hc1, _, _⟩ := id h1
        obtain ⟨p2, c2, hc2, _, _⟩ := id h1'
        subst hc1 hc2
        have HS := hideP (sameInts_any x y _ _ w1.drew ((h1.below hbw).below (Below.refl _ w1).drew) ((h1'.below hbw).below (Below.refl _ w1).drew))
        have HO := hideP ho
        have HO' := hideP ho'
        clear ho ho' h0 h0' h1 h1'
        by_cases he : x = y
        · rw [decide_eq_true he] at HS
          have HE := hideP he
          clear he
          go_wp2_with fail
          go_region_held3 (fun W => W.cell? ⟨b, off + k, none⟩ = some (.slice p1 x.length c1) ∧ W.cell? ⟨b', off' + k, none⟩ = some (.slice p2 y.length c2)) (go_keep)
            (first
            | (go_at_call 21; refine HS.out.mono ?_; rintro e w2 ⟨rfl, hb2⟩; have g2 := (hb2.cell (p := ⟨b, off + k, none⟩) (Nat.lt_of_lt_of_le hb hbw.size)).trans g0; have g2' := (hb2.cell (p := ⟨b', off' + k, none⟩) (Nat.lt_of_lt_of_le hb' hbw.size)).trans g0'))
          go_wp2
          go_roundw
          case rel => exact ⟨k + 1, by omega, by go_num, by rw [take_snoc L k _ HO.out, take_snoc M k _ HO'.out, HT.out, HE.out], hbw.trans ((((Below.refl w1.heap.size w1).drew).trans hb2).mono hbw.size)⟩
          case measure => simp [intOf]; omega
        · rw [decide_eq_false he] at HS
          have HE := hideP he
          clear he
          go_wp2_with fail
          go_region_held3 (fun W => W.cell? ⟨b, off + k, none⟩ = some (.slice p1 x.length c1) ∧ W.cell? ⟨b', off' + k, none⟩ = some (.slice p2 y.length c2)) (go_keep)
            (first
            | (go_at_call 21; refine HS.out.mono ?_; rintro e w2 ⟨rfl, hb2⟩; have g2 := (hb2.cell (p := ⟨b, off + k, none⟩) (Nat.lt_of_lt_of_le hb hbw.size)).trans g0; have g2' := (hb2.cell (p := ⟨b', off' + k, none⟩) (Nat.lt_of_lt_of_le hb' hbw.size)).trans g0'))
          go_wp2
          go_ret
          refine ⟨?_, hbw.trans ((((Below.refl w1.heap.size w1).drew).trans hb2).mono hbw.size)⟩
          have : ¬ L = M := fun h => by
            have h1 := HO.out
            rw [h, HO'.out] at h1
            simp at h1
            exact HE.out h1.symm
          simp [this]
      · have hlt' : ¬ (k : Int) < (L.length : Int) := by omega
        go_wp2
        go_ret
        refine ⟨?_, hbw⟩
        have : L = M := by
          have h := HT.out
          rwa [List.take_of_length_le (by omega), List.take_of_length_le (by have := HLEN.out; omega)] at h
        simp [this]
  · have hlen' : ((L.length : Int) != (M.length : Int)) = true := by simp; omega
    have hne : ¬ L = M := fun h => hlen (by rw [h])
    clear hc hd
    have HN := hideP hne
    clear hne hlen
    go_enter Try.func11, Try.ntmps11
    go_wp2
    go_ret
    exact ⟨by simp [HN.out], Below.refl _ _⟩
set_option maxHeartbeats 1000000 in
theorem cellsOf_any (L : List (List Int)) (v : Value) (w : World) (h : BlksAt w v L) (h8 : L.length ≤ 8) : Calls Try.prog 12 #[v] w fun e w' => e = .returned (.int .i64 (cellsN L)) ∧ w' = w := by
  obtain ⟨p, cap, rfl, hm, hc⟩ := h
  have hbd : ∀ k, cellsN (L.take k) ≤ 140737488355328 := fun k => by
    have h1 := cellsN_le L k
    have h2 := cellsN_bound L 17592186044416 fun b hb => by
      obtain ⟨j, hj⟩ := List.getElem?_of_mem hb
      obtain ⟨_, _, _, _, _, _, _, _, h⟩ := hc j b hj
      exact h
    omega
  have HBD := hideP hbd
  clear hbd hm
  go_enter Try.func12, Try.ntmps12
  go_wp2
  go_loopw [3, 4] (fun s i wr => ∃ k : Nat, k ≤ L.length ∧ i = .int .i64 k ∧ s = .int .i64 (cellsN (L.take k)) ∧ wr = w) (fun _ i _ => L.length - (intOf i).toNat)
  case atStart => exact ⟨0, Nat.zero_le _, rfl, rfl, rfl⟩
  case round =>
    obtain ⟨k, hk, rfl, rfl, rfl⟩ := hrel
    have HC := hideP hc
    clear hc
    by_cases hlt : k < L.length
    · obtain ⟨z, ho⟩ := at_of_lt hlt
      obtain ⟨b, off, c, rfl, hb, h0, h1, _, h44⟩ := HC.out k _ ho
      obtain ⟨p1, q1, hc1, _, _⟩ := id h1
      subst hc1
      have hs := cellsN_take L k z ho
      have hb1 := HBD.out k
      have HS := hideP hs
      clear ho h1 hs
      generalize cellsN (L.take k) = s at *
      go_wp2
      go_roundw
      case rel => exact ⟨k + 1, by omega, by go_num, by rw [HS.out]; go_num, trivial⟩
      case measure => simp [intOf]; omega
    · have hlt' : ¬ (k : Int) < (L.length : Int) := by omega
      go_wp2
      go_ret
      exact ⟨by simp [List.take_of_length_le (show L.length ≤ k by omega)], rfl⟩
theorem bf1 : newErr [[7]] 2 = 0 ∧ newR [[7]] 2 = [[7], [0, 0]] ∧ newRef [[7]] 2 = 2 ∧ setErr [[7], [0, 0]] 2 1 5 = 0 ∧ setR [[7], [0, 0]] 2 1 5 = [[7], [0, 5]] := by decide +kernel
theorem bf2 : placeErr [[7], [0, 5]] 2 1 = 0 ∧ getR [[7], [0, 5]] 2 1 = 5 ∧ placeErr [[7], [0, 5]] 0 0 = 5 ∧ getR [[7], [0, 5]] 0 0 = 0 ∧ blkErr [[7], [0, 5]] = 0 := by decide +kernel
theorem bf3 : keepErr [[7], [0, 5]] [2, 0] = 0 ∧ keptR [[7], [0, 5]] [2, 0] = [[0, 5]] ∧ thenR [[7], [0, 5]] [2, 0] = [1, 0] := by decide +kernel
/-- one block that a literal made. -/
theorem blks_lit {W : World} {g B : Nat} {b : List Int} {n : Nat} (hB : W.heap[B]? = some (.cells #[.slice (some ⟨g, 0, none⟩) n n] 26 (0, 0))) (hg : W.heap[g]? = some (.cells (b.map (Value.int .i64)).toArray 3 (0, 0))) (hn : n = b.length) (h40 : b.length ≤ 40) : BlksAt W (.slice (some ⟨B, 0, none⟩) 1 1) [b] := by
  refine ⟨_, 1, rfl, by unfold maxLen; simp, fun k c hk => ?_⟩
  match k, hk with
  | 0, hk =>
    simp at hk; subst hk
    exact ⟨B, 0, _, rfl, heap_lt hB, by rw [cell_at' hB]; rfl, ints_lit n n hg hn (by unfold maxLen; omega), nilOk_some _ _ _, by omega⟩
  | k + 1, hk => simp at hk
set_option maxRecDepth 100000 in
set_option maxHeartbeats 4000000 in
theorem blockBegun_any (w : World) : Calls Try.prog 7 #[] w fun e w' => e = .returned (.bool true) ∧ Below w.heap.size w w' := by
  have hN : ∀ (W : World) (v : Value), BlksAt W v [[7]] → Calls Try.prog 9 #[v, .int .i64 2] W fun e w' => ∃ p c, e = .returned (.tuple #[.slice p 2 c, .int .i64 2, .int .i64 0]) ∧ BlksAt w' (.slice p 2 c) [[7], [0, 0]] ∧ Below W.heap.size W w' := by
    intro W v h1
    have := bNew_any [[7]] 2 (by omega) v W h1
    rw [bf1.1, bf1.2.1, bf1.2.2.1] at this
    refine this.mono ?_
    rintro e w' ⟨u, rfl, h2, h3⟩
    obtain ⟨p, c, rfl⟩ := h2.shp
    exact ⟨p, c, rfl, blksAt_of_own h2, h3⟩
  have hS : ∀ (W : World) (v : Value), BlksAt W v [[7], [0, 0]] → Calls Try.prog 14 #[v, .int .i64 2, .int .i64 1, .int .i64 5] W fun e w' => ∃ p c, e = .returned (.tuple #[.slice p 2 c, .int .i64 0]) ∧ BlksAt w' (.slice p 2 c) [[7], [0, 5]] ∧ Below W.heap.size W w' := by
    intro W v h1
    have := bSet_any [[7], [0, 0]] 2 1 5 (by omega) v W h1
    rw [bf1.2.2.2.1, bf1.2.2.2.2] at this
    refine this.mono ?_
    rintro e w' ⟨u, rfl, h2, h3⟩
    obtain ⟨p, c, rfl⟩ := h2.shp
    exact ⟨p, c, rfl, blksAt_of_own h2, h3⟩
  have hG : ∀ (W : World) (v : Value), BlksAt W v [[7], [0, 5]] → Calls Try.prog 13 #[v, .int .i64 2, .int .i64 1] W fun e w' => e = .returned (.tuple #[.int .i64 5, .int .i64 0]) ∧ Below W.heap.size W w' := by
    intro W v h1
    have := bGet_any [[7], [0, 5]] 2 1 (by omega) v W h1
    rw [bf2.1, bf2.2.1] at this
    exact this
  have hG0 : ∀ (W : World) (v : Value), BlksAt W v [[7], [0, 5]] → Calls Try.prog 13 #[v, .int .i64 0, .int .i64 0] W fun e w' => e = .returned (.tuple #[.int .i64 0, .int .i64 5]) ∧ Below W.heap.size W w' := by
    intro W v h1
    have := bGet_any [[7], [0, 5]] 0 0 (by omega) v W h1
    rw [bf2.2.2.1, bf2.2.2.2.1] at this
    exact this
  have hC : ∀ (W : World) (v : Value), BlksAt W v [[7], [0, 5]] → Calls Try.prog 8 #[v] W fun e w' => e = .returned (.int .i64 0) ∧ Below W.heap.size W w' := by
    intro W v h1
    have := bCheck_any [[7], [0, 5]] v W h1
    rw [bf2.2.2.2.2] at this
    exact this
  have hK : ∀ (W : World) (v u : Value), BlksAt W v [[7], [0, 5]] → IntsAt W u [2, 0] → Calls Try.prog 10 #[v, u] W fun e w' => ∃ p c p' c', e = .returned (.tuple #[.slice p 1 c, .slice p' 2 c', .int .i64 0]) ∧ BlksAt w' (.slice p 1 c) [[0, 5]] ∧ IntsAt w' (.slice p' 2 c') [1, 0] ∧ Below W.heap.size W w' := by
    intro W v u h1 h2
    have := bKeep_any [[7], [0, 5]] [2, 0] v u W h1 h2 (by simp)
    rw [bf3.1, bf3.2.1, bf3.2.2] at this
    refine this.mono ?_
    rintro e w' ⟨x, y, rfl, h3, h4, h5⟩
    obtain ⟨p, c, rfl⟩ := h3.shp
    obtain ⟨p', c', rfl⟩ := row_shp h4
    exact ⟨p, c, p', c', rfl, blksAt_of_own h3, intsAt_of_row rfl h4, h5⟩
  have hSB : ∀ (W : World) (v u : Value) (L : List (List Int)), BlksAt W v L → BlksAt W u L → Calls Try.prog 11 #[v, u] W fun e w' => e = .returned (.bool true) ∧ Below W.heap.size W w' := by
    intro W v u L h1 h2
    have := sameBlocks_any L L v u W h1 h2
    rw [decide_eq_true rfl] at this
    exact this
  have hSI : ∀ (W : World) (v u : Value) (l : List Int), IntsAt W v l → IntsAt W u l → Calls Try.prog 21 #[v, u] W fun e w' => e = .returned (.bool true) ∧ Below W.heap.size W w' := by
    intro W v u l h1 h2
    have := sameInts_any l l v u W h1 h2
    rw [decide_eq_true rfl] at this
    exact this
  have HN := hideP hN
  have HS := hideP hS
  have HG := hideP hG
  have HG0 := hideP hG0
  have HC := hideP hC
  have HK := hideP hK
  have HSB := hideP hSB
  have HSI := hideP hSI
  clear hN hS hG hG0 hC hK hSB hSI
  go_enter Try.func7, Try.ntmps7
  go_wp2_with fail
  have a1 := ((Below.refl w.heap.size w).alloc (Nat.le_refl _) (.cells #[.int .i64 7] 3)).alloc (by simp) (.cells #[.slice (some ⟨w.heap.size, 0, none⟩) 1 1] 26)
  refine (HN.out _ _ (blks_lit (b := [7]) (new_two w _ _) (heap_old (World.alloc_heap_new w _) _) rfl (by simp))).mono ?_
  rintro e w1 ⟨p1, c1, rfl, h1, b1⟩
  have B1 := bthen0 a1 b1
  clear a1 b1
  go_wp2_with fail
  refine (HS.out _ _ h1).mono ?_
  rintro e w2 ⟨p2, c2, rfl, h2, b2⟩
  have B2 := bthen0 B1 b2
  clear h1 B1 b2
  go_wp2_with fail
  refine (HG.out _ _ h2).mono ?_
  rintro e w3 ⟨rfl, b3⟩
  have h3 := h2.below b3
  have B3 := bthen0 B2 b3
  clear h2 B2 b3
  go_wp2_with fail
  refine (HG0.out _ _ h3).mono ?_
  rintro e w4 ⟨rfl, b4⟩
  have h4 := h3.below b4
  have B4 := bthen0 B3 b4
  clear h3 B3 b4
  go_wp2_with fail
  have a5 := (Below.refl w4.heap.size w4).alloc (Nat.le_refl _) (.cells #[.int .i64 2, .int .i64 0] 3)
  refine (HK.out _ _ _ (h4.below a5) (ints_lit (l := [2, 0]) 2 2 (World.alloc_heap_new w4 _) rfl (by unfold maxLen; decide))).mono ?_
  rintro e w5 ⟨p5, c5, p6, c6, rfl, h5, h6, b5⟩
  have hm5 := (h4.below a5).below b5
  have B5 := bthen0 B4 (bthen0 a5 b5)
  clear h4 a5 b5 B4
  go_wp2_with fail
  refine (HC.out _ _ hm5).mono ?_
  rintro e w6 ⟨rfl, b6⟩
  have h56 := h5.below b6
  have h66 := h6.below b6
  have B6 := bthen0 B5 b6
  clear h5 h6 b6 B5 hm5
  go_wp2_with fail
  have a7 := ((Below.refl w6.heap.size w6).alloc (Nat.le_refl _) (.cells #[.int .i64 0, .int .i64 5] 3)).alloc (by simp) (.cells #[.slice (some ⟨w6.heap.size, 0, none⟩) 2 2] 26)
  refine (HSB.out _ _ _ [[0, 5]] (h56.below a7) (blks_lit (b := [0, 5]) (new_two w6 _ _) (heap_old (World.alloc_heap_new w6 _) _) rfl (by simp))).mono ?_
  rintro e w7 ⟨rfl, b7⟩
  have h67 := h66.below (bthen0 a7 b7)
  have B7 := bthen0 B6 (bthen0 a7 b7)
  clear h56 h66 a7 b7 B6
  go_wp2_with fail
  have a8 := (Below.refl w7.heap.size w7).alloc (Nat.le_refl _) (.cells #[.int .i64 1, .int .i64 0] 3)
  refine (HSI.out _ _ _ [1, 0] (h67.below a8) (ints_lit (l := [1, 0]) 2 2 (World.alloc_heap_new w7 _) rfl (by unfold maxLen; decide))).mono ?_
  rintro e w8 ⟨rfl, b8⟩
  go_wp2
  go_ret
  exact ⟨rfl, bthen0 B7 (bthen0 a8 b8)⟩
end Go.Proofs.Ytjmpbnfkiikiaaa
/- The reference's flow: CheckFlow, GoesOn, NextOf, BackOf. -/
namespace Go.Proofs.Ytjmpbnfkiikiaaa
open Go.RowKit
set_option linter.unusedSimpArgs false
set_option linter.unusedVariables false
end Go.Proofs.Ytjmpbnfkiikiaaa
/- The reference's ReachOf. -/
namespace Go.Proofs.Ytjmpbnfkiikiaaa
open Go.RowKit
set_option linter.unusedSimpArgs false
set_option linter.unusedVariables false
/-- the marks in block R. -/
def boolOf : Value → Bool | .bool b => b | _ => false
def marksOf (w : World) (R : Nat) : List Bool := match w.heap[R]? with | some (.cells c _ _) => c.toList.map boolOf | _ => []
theorem marksOf_eq {w : World} {R : Nat} {M : List Bool} {t : TypeId} {fz : Nat × Nat} (h : w.heap[R]? = some (.cells (M.map Value.bool).toArray t fz)) : marksOf w R = M := by
  simp [marksOf, h, Function.comp_def, boolOf]
def moreOf : Value → Nat | .bool true => 1 | _ => 0
/-- marks that only have what may be come to, place 0 too. -/
structure MarkI (w : World) (l : List (Int × Int)) (R : Nat) (M : List Bool) (wr : World) : Prop where
  at_ : wr.heap[R]? = some (.cells (M.map Value.bool).toArray 4 (0, 0))
  len : M.length = l.length + 1
  zero : M.getD 0 false = true
  come : ∀ x, M.getD x false = true → Come l x
  bel : Below w.heap.size w wr
theorem MarkI.mark {w wr : World} {l : List (Int × Int)} {R : Nat} {M : List Bool} (h : MarkI w l R M wr) (hR : w.heap.size ≤ R) {k j : Nat} (hk : M.getD k false = true) (hg : goesOn l k j = true) (hj : j < M.length) : MarkI w l R (M.set j true) (wr.setCell ⟨R, j, none⟩ (.bool true)) := by
  refine ⟨?_, by rw [List.length_set]; exact h.len, ?_, fun x hx => ?_, h.bel.setCell hR _⟩
  · have := heap_setCell_same wr R j _ _ (.bool true) h.at_
    rw [set_marks] at this
    exact this
  · rw [getD_set _ _ _ hj]; split
    · rfl
    · exact h.zero
  · rw [getD_set _ _ _ hj] at hx
    by_cases e : x = j
    · subst e; exact Come.step (h.come k hk) hg
    · rw [if_neg e] at hx; exact h.come x hx
/-- what a round over all has done so far: something was marked, or all is as it was. -/
def Done (l : List (Int × Int)) (Ms M : List Bool) (more : Value) (P : Prop) : Prop := (more = .bool true ∧ cf M < cf Ms) ∨ (more = .bool false ∧ M = Ms ∧ P)
theorem getD_at {M : List Bool} {k : Nat} {b : Bool} (h : M[k]? = some b) : M.getD k false = b := by rw [List.getD_eq_getElem?_getD, h]; rfl
end Go.Proofs.Ytjmpbnfkiikiaaa
/- verify.entries. -/
namespace Go.Proofs.Ytjmpbnfkiikiaaa
open Go.RowKit
set_option linter.unusedSimpArgs false
set_option linter.unusedVariables false
/-- the cells of entries. -/
def entCells (q : List (Nat × Value)) : List Value := q.flatMap fun x => [.int .i64 x.1, x.2]
def EntRows (W : World) (B : Nat) (q : List (Nat × Value)) (l : List (Nat × List Int)) : Prop :=
  q.length = l.length ∧ ∀ (k : Nat) (x : Nat × Value) (y : Nat × List Int), q[k]? = some x → l[k]? = some y → x.1 = y.1 ∧ W.ownsRow B 3 1 x.2 y.2.length (y.2.map (Value.int .i64))
theorem EntRows.kept {W W' : World} {B : Nat} {q : List (Nat × Value)} {l : List (Nat × List Int)} {row : Option Nat} (h : EntRows W B q l) (hg : W.grownBy W' row) (hr : ∀ r, row = some r → ∃ cs t fz, W.heap[r]? = some (.cells cs t fz) ∧ t ≠ 3) : EntRows W' B q l := by
  refine ⟨h.1, fun k x y hx hy => ?_⟩
  obtain ⟨h1, h2⟩ := h.2 k x y hx hy
  refine ⟨h1, row_same h2 fun j hj => hg.block j (h2.lt j hj).2 (fun e => ?_)⟩
  obtain ⟨cs, t, fz, h3, h4⟩ := hr j e.symm
  exact row_not h2 h3 h4 hj.symm
theorem EntRows.snoc {W : World} {B : Nat} {q : List (Nat × Value)} {l : List (Nat × List Int)} {pc : Nat} {u : Value} {s : List Int} (h : EntRows W B q l) (hu : W.ownsRow B 3 1 u s.length (s.map (Value.int .i64))) : EntRows W B (q ++ [(pc, u)]) (l ++ [(pc, s)]) := by
  refine ⟨by simp [h.1], fun k x y hx hy => ?_⟩
  by_cases hk : k < q.length
  · rw [List.getElem?_append_left hk] at hx
    rw [List.getElem?_append_left (by rw [← h.1]; exact hk)] at hy
    exact h.2 k x y hx hy
  · rw [List.getElem?_append_right (by omega)] at hx
    rw [List.getElem?_append_right (by rw [← h.1]; omega)] at hy
    have hk0 : k - q.length = 0 := by
      have := lt_of_at hx
      simp at this
      omega
    rw [hk0] at hx
    rw [← h.1, hk0] at hy
    simp at hx hy
    subst hx hy
    exact ⟨rfl, hu⟩
end Go.Proofs.Ytjmpbnfkiikiaaa
