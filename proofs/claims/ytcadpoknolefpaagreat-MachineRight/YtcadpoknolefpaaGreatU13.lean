/- My texts Bg Ga Gb Jn, joined. -/
import Derived.Test.YtcadpoknolefpaaGreatU1
import Derived.Test.YtcadpoknolefpaaGreatU7
import Derived.Test.YtcadpoknolefpaaGreatU11
import Derived.Test.YtcadpoknolefpaaGreatU12
/- the reference's SameBlocks, CellsOf; blockBegun. -/
namespace Go.Proofs.YtcadpoknolefpaaGreat
open Go.RowKit
set_option linter.unusedSimpArgs false
set_option linter.unusedVariables false
set_option maxHeartbeats 1000000 in
theorem sameBlocks_any (L M : List (List Int)) (v u : Value) (w : World) (hL : BlksAt w v L) (hM : BlksAt w u M) : Calls Tryz.prog 64 #[v, u] w fun e w' => e = .returned (.bool (decide (L = M))) ∧ Below w.heap.size w w' := by
  obtain ⟨p, cap, rfl, hlm, hc⟩ := hL
  obtain ⟨q, cap', rfl, hmm, hd⟩ := hM
  unfold maxLen at hlm hmm
  by_cases hlen : L.length = M.length
  · have hlen' : ((L.length : Int) != (M.length : Int)) = false := by simp; omega
    have HLEN := hideP hlen
    have HC := hideP hc
    have HD := hideP hd
    clear hc hd hlen
    go_enter Tryz.func64, Tryz.ntmps64
    go_wp2
    go_loopw [5] (fun i wr => ∃ k : Nat, k ≤ L.length ∧ i = .int .i64 k ∧ L.take k = M.take k ∧ Below w.heap.size w wr) (fun i _ => L.length - (intOf i).toNat)
    case atStart => exact ⟨0, Nat.zero_le _, rfl, by simp, Below.refl _ _⟩
    case round =>
      rename World => w1
      obtain ⟨k, hk, rfl, htk, hbw⟩ := hrel
      have HT := hideP htk
      clear htk
      by_cases hlt : k < L.length
      · have hlt2 : k < M.length := by have := HLEN.out; omega
        obtain ⟨x, ho⟩ := at_of_lt hlt
        obtain ⟨y, ho'⟩ := at_of_lt hlt2
        obtain ⟨b, off, c, rfl, hb, h0, h1, _, _⟩ := HC.out k _ ho
        obtain ⟨b', off', c', rfl, hb', h0', h1', _, _⟩ := HD.out k _ ho'
        have g0 := (hbw.cell (p := ⟨b, off + k, none⟩) hb).trans h0
        have g0' := (hbw.cell (p := ⟨b', off' + k, none⟩) hb').trans h0'
        have hlti : (k : Int) < (L.length : Int) := by omega
        have hlti2 : (k : Int) < (M.length : Int) := by omega
        obtain ⟨p1, c1, hc1, _, _⟩ := id h1
        obtain ⟨p2, c2, hc2, _, _⟩ := id h1'
        subst hc1 hc2
        have HS := hideP (sameInts_any x y _ _ w1.drew ((h1.below hbw).below (Below.refl _ w1).drew) ((h1'.below hbw).below (Below.refl _ w1).drew))
        have HO := hideP ho
        have HO' := hideP ho'
        clear ho ho' h0 h0' h1 h1'
        by_cases he : x = y
        · rw [decide_eq_true he] at HS
          have HE := hideP he
          clear he
          go_wp2_with fail
          go_region_held3 (fun W => W.cell? ⟨b, off + k, none⟩ = some (.slice p1 x.length c1) ∧ W.cell? ⟨b', off' + k, none⟩ = some (.slice p2 y.length c2)) (go_keep)
            (first
            | (go_at_call 26; refine HS.out.mono ?_; rintro e w2 ⟨rfl, hb2⟩; have g2 := (hb2.cell (p := ⟨b, off + k, none⟩) (Nat.lt_of_lt_of_le hb hbw.size)).trans g0; have g2' := (hb2.cell (p := ⟨b', off' + k, none⟩) (Nat.lt_of_lt_of_le hb' hbw.size)).trans g0'))
          go_wp2
          go_roundw
          case rel => exact ⟨k + 1, by omega, by go_num, by rw [take_snoc L k _ HO.out, take_snoc M k _ HO'.out, HT.out, HE.out], hbw.trans ((((Below.refl w1.heap.size w1).drew).trans hb2).mono hbw.size)⟩
          case measure => simp [intOf]; omega
        · rw [decide_eq_false he] at HS
          have HE := hideP he
          clear he
          go_wp2_with fail
          go_region_held3 (fun W => W.cell? ⟨b, off + k, none⟩ = some (.slice p1 x.length c1) ∧ W.cell? ⟨b', off' + k, none⟩ = some (.slice p2 y.length c2)) (go_keep)
            (first
            | (go_at_call 26; refine HS.out.mono ?_; rintro e w2 ⟨rfl, hb2⟩; have g2 := (hb2.cell (p := ⟨b, off + k, none⟩) (Nat.lt_of_lt_of_le hb hbw.size)).trans g0; have g2' := (hb2.cell (p := ⟨b', off' + k, none⟩) (Nat.lt_of_lt_of_le hb' hbw.size)).trans g0'))
          go_wp2
          go_ret
          refine ⟨?_, hbw.trans ((((Below.refl w1.heap.size w1).drew).trans hb2).mono hbw.size)⟩
          have : ¬ L = M := fun h => by
            have h1 := HO.out
            rw [h, HO'.out] at h1
            simp at h1
            exact HE.out h1.symm
          simp [this]
      · have hlt' : ¬ (k : Int) < (L.length : Int) := by omega
        go_wp2
        go_ret
        refine ⟨?_, hbw⟩
        have : L = M := by
          have h := HT.out
          rwa [List.take_of_length_le (by omega), List.take_of_length_le (by have := HLEN.out; omega)] at h
        simp [this]
  · have hlen' : ((L.length : Int) != (M.length : Int)) = true := by simp; omega
    have hne : ¬ L = M := fun h => hlen (by rw [h])
    clear hc hd
    have HN := hideP hne
    clear hne hlen
    go_enter Tryz.func64, Tryz.ntmps64
    go_wp2
    go_ret
    exact ⟨by simp [HN.out], Below.refl _ _⟩
set_option maxHeartbeats 1000000 in
theorem cellsOf_any (L : List (List Int)) (v : Value) (w : World) (h : BlksAt w v L) (h8 : L.length ≤ 8) : Calls Tryz.prog 58 #[v] w fun e w' => e = .returned (.int .i64 (cellsN L)) ∧ w' = w := by
  obtain ⟨p, cap, rfl, hm, hc⟩ := h
  have hbd : ∀ k, cellsN (L.take k) ≤ 140737488355328 := fun k => by
    have h1 := cellsN_le L k
    have h2 := cellsN_bound L 17592186044416 fun b hb => by
      obtain ⟨j, hj⟩ := List.getElem?_of_mem hb
      obtain ⟨_, _, _, _, _, _, _, _, h⟩ := hc j b hj
      exact h
    omega
  have HBD := hideP hbd
  clear hbd hm
  go_enter Tryz.func58, Tryz.ntmps58
  go_wp2
  go_loopw [3, 4] (fun s i wr => ∃ k : Nat, k ≤ L.length ∧ i = .int .i64 k ∧ s = .int .i64 (cellsN (L.take k)) ∧ wr = w) (fun _ i _ => L.length - (intOf i).toNat)
  case atStart => exact ⟨0, Nat.zero_le _, rfl, rfl, rfl⟩
  case round =>
    obtain ⟨k, hk, rfl, rfl, rfl⟩ := hrel
    have HC := hideP hc
    clear hc
    by_cases hlt : k < L.length
    · obtain ⟨z, ho⟩ := at_of_lt hlt
      obtain ⟨b, off, c, rfl, hb, h0, h1, _, h44⟩ := HC.out k _ ho
      obtain ⟨p1, q1, hc1, _, _⟩ := id h1
      subst hc1
      have hs := cellsN_take L k z ho
      have hb1 := HBD.out k
      have HS := hideP hs
      clear ho h1 hs
      generalize cellsN (L.take k) = s at *
      go_wp2
      go_roundw
      case rel => exact ⟨k + 1, by omega, by go_num, by rw [HS.out]; go_num, trivial⟩
      case measure => simp [intOf]; omega
    · have hlt' : ¬ (k : Int) < (L.length : Int) := by omega
      go_wp2
      go_ret
      exact ⟨by simp [List.take_of_length_le (show L.length ≤ k by omega)], rfl⟩
theorem bf1 : newErr [[7]] 2 = 0 ∧ newR [[7]] 2 = [[7], [0, 0]] ∧ newRef [[7]] 2 = 2 ∧ setErr [[7], [0, 0]] 2 1 5 = 0 ∧ setR [[7], [0, 0]] 2 1 5 = [[7], [0, 5]] := by decide +kernel
theorem bf2 : placeErr [[7], [0, 5]] 2 1 = 0 ∧ getR [[7], [0, 5]] 2 1 = 5 ∧ placeErr [[7], [0, 5]] 0 0 = 5 ∧ getR [[7], [0, 5]] 0 0 = 0 ∧ blkErr [[7], [0, 5]] = 0 := by decide +kernel
theorem bf3 : keepErr [[7], [0, 5]] [2, 0] = 0 ∧ keptR [[7], [0, 5]] [2, 0] = [[0, 5]] ∧ thenR [[7], [0, 5]] [2, 0] = [1, 0] := by decide +kernel
/-- one block that a literal made. -/
theorem blks_lit {W : World} {g B : Nat} {b : List Int} {n : Nat} (hB : W.heap[B]? = some (.cells #[.slice (some ⟨g, 0, none⟩) n n] 27 (0, 0))) (hg : W.heap[g]? = some (.cells (b.map (Value.int .i64)).toArray 3 (0, 0))) (hn : n = b.length) (h40 : b.length ≤ 40) : BlksAt W (.slice (some ⟨B, 0, none⟩) 1 1) [b] := by
  refine ⟨_, 1, rfl, by unfold maxLen; simp, fun k c hk => ?_⟩
  match k, hk with
  | 0, hk =>
    simp at hk; subst hk
    exact ⟨B, 0, _, rfl, heap_lt hB, by rw [cell_at' hB]; rfl, ints_lit n n hg hn (by unfold maxLen; omega), nilOk_some _ _ _, by omega⟩
  | k + 1, hk => simp at hk
end Go.Proofs.YtcadpoknolefpaaGreat
/- The reference's flow: CheckFlow, GoesOn, NextOf, BackOf. -/
namespace Go.Proofs.YtcadpoknolefpaaGreat
open Go.RowKit
set_option linter.unusedSimpArgs false
set_option linter.unusedVariables false
set_option maxHeartbeats 2000000 in
theorem goesOn_any (l : List (Int × Int)) (k t : Nat) (v : Value) (w : World) (h : OpsAt w v l) (hk : k < l.length) : Calls Tryz.prog 135 #[v, .int .i64 k, .int .i64 t] w fun e w' => e = .returned (.bool (goesOn l k t)) ∧ w' = w := by
  obtain ⟨p, cap, rfl, hm, hc⟩ := h
  obtain ⟨⟨c, a⟩, ho⟩ := at_of_lt hk
  obtain ⟨b, off, rfl, hbl, g0, g1⟩ := hc k _ ho
  simp only at g0 g1
  unfold maxLen at hm
  have hlti : (k : Int) < (l.length : Int) := by omega
  have hg : goesOn l k t = if c = 13 then false else if c = 10 then decide ((t : Int) = a) else if c = 11 then decide (t = k + 1) || decide ((t : Int) = a) else decide (t = k + 1) := by simp [goesOn, ho]
  rw [hg]
  clear hc ho hg
  have hwr : wrap64 ((k : Int) + 1) = (k : Int) + 1 := by unfold wrap64; omega
  by_cases h13 : c = 13
  · subst h13
    go_enter Tryz.func135, Tryz.ntmps135
    go_wp2
    go_ret
    exact ⟨rfl, rfl⟩
  have h13' : (c == 13) = false := by simp [h13]
  by_cases h10 : c = 10
  · subst h10
    by_cases ha : (t : Int) = a
    · have ha' : ((t : Int) == a) = true := by simp [ha]
      go_enter Tryz.func135, Tryz.ntmps135
      go_wp2
      go_ret
      exact ⟨by simp, rfl⟩
    · have ha' : ((t : Int) == a) = false := by simp [ha]
      go_enter Tryz.func135, Tryz.ntmps135
      go_wp2
      go_ret
      exact ⟨by simp [ha], rfl⟩
  have h10' : (c == 10) = false := by simp [h10]
  by_cases h11 : c = 11
  · subst h11
    by_cases hp : t = k + 1
    · have hp' : ((t : Int) == (k : Int) + 1) = true := by simp [hp]
      have hp2 : decide (t = k + 1) = true := by simp [hp]
      clear hp
      go_enter Tryz.func135, Tryz.ntmps135
      go_wp2
      go_ret
      exact ⟨by simp, rfl⟩
    · have hp' : ((t : Int) == (k : Int) + 1) = false := by simp; omega
      have hp2 : decide (t = k + 1) = false := by simp [hp]
      clear hp
      by_cases ha : (t : Int) = a
      · have ha' : ((t : Int) == a) = true := by simp [ha]
        have ha2 : decide ((t : Int) = a) = true := by simp [ha]
        clear ha
        go_enter Tryz.func135, Tryz.ntmps135
        go_wp2
        go_ret
        exact ⟨by simp, rfl⟩
      · have ha' : ((t : Int) == a) = false := by simp [ha]
        have ha2 : decide ((t : Int) = a) = false := by simp [ha]
        clear ha
        go_enter Tryz.func135, Tryz.ntmps135
        go_wp2
        go_ret
        exact ⟨by simp, rfl⟩
  have h11' : (c == 11) = false := by simp [h11]
  have hif : (if c = 13 then false else if c = 10 then decide ((t : Int) = a) else if c = 11 then decide (t = k + 1) || decide ((t : Int) = a) else decide (t = k + 1)) = decide (t = k + 1) := by rw [if_neg h13, if_neg h10, if_neg h11]
  rw [hif]
  clear hif
  by_cases hp : t = k + 1
  · have hp' : ((t : Int) == (k : Int) + 1) = true := by simp [hp]
    have hp2 : decide (t = k + 1) = true := by simp [hp]
    rw [hp2]
    clear hp hp2 h13 h10 h11
    go_enter Tryz.func135, Tryz.ntmps135
    go_wp2
    go_ret
    exact ⟨by simp, rfl⟩
  · have hp' : ((t : Int) == (k : Int) + 1) = false := by simp; omega
    have hp2 : decide (t = k + 1) = false := by simp [hp]
    rw [hp2]
    clear hp hp2 h13 h10 h11
    go_enter Tryz.func135, Tryz.ntmps135
    go_wp2
    go_ret
    exact ⟨by simp, rfl⟩
set_option maxHeartbeats 2000000 in
theorem nextOf_any (l : List (Int × Int)) (t : Nat) (v : Value) (w : World) (h : OpsAt w v l) (h40 : l.length ≤ 40) (ht : t < l.length) : Calls Tryz.prog 91 #[v, .int .i64 t] w fun e w' => ∃ u, e = .returned u ∧ w'.ownsRow w.heap.size 3 1 u (placesL (fun to => goesOn l t to) (l.length + 1)).length ((placesL (fun to => goesOn l t to) (l.length + 1)).map (Value.int .i64)) ∧ Below w.heap.size w w' := by
  obtain ⟨i0, hi, hz0, hz1, hz2⟩ := info_parts infoInt
  have hcall : ∀ (k : Nat) (W : World), k < l.length + 1 → Below w.heap.size w W → Calls Tryz.prog 135 #[v, .int .i64 t, .int .i64 k] W fun e w' => e = .returned (.bool ((fun to => goesOn l t to) k)) ∧ w' = W := by
    intro k W hk hb
    exact goesOn_any l t k v W (h.below hb) (by omega)
  obtain ⟨P, hP⟩ : ∃ P : Nat → Bool, (fun to => goesOn l t to) = P := ⟨_, rfl⟩
  rw [hP] at hcall ⊢
  have HCALL := hideP hcall
  obtain ⟨p, cap, rfl, hm, _⟩ := h
  unfold maxLen at hm
  clear hcall hP
  go_enter Tryz.func91, Tryz.ntmps91
  go_wp2
  go_loopw [5, 6] (fun v5 i wr => ∃ k : Nat, k ≤ l.length + 1 ∧ i = .int .i64 k ∧ wr.ownsRow w.heap.size 3 1 v5 (placesL P k).length ((placesL P k).map (Value.int .i64)) ∧ Below w.heap.size w wr) (fun _ i _ => l.length + 1 - (intOf i).toNat)
  case atStart => exact ⟨0, Nat.zero_le _, rfl, World.ownsRow_nil _ _ _ _, Below.refl _ _⟩
  case round =>
    rename World => w2
    obtain ⟨k, hk, rfl, hrow, hbw⟩ := hrel
    obtain ⟨p5, c5, rfl⟩ := row_shp hrow
    by_cases hlt : k < l.length + 1
    · have hlti : (k : Int) ≤ (l.length : Int) := by omega
      have hle := placesL_le P k
      have HROW := hideP hrow
      clear hrow
      cases hp : P k
      · go_wp2_with (go_at_call 135; refine (HCALL.out k _ hlt hbw).mono ?_; rw [hp]; rintro e w3 ⟨rfl, hw3⟩; have hw3 := hw3.symm; subst hw3)
        go_roundw
        case rel =>
          refine ⟨k + 1, by omega, by go_num, ?_, hbw⟩
          rw [placesL_succ_false hp]
          exact HROW.out
        case measure => simp [intOf]; omega
      · have hrow3 := hideP (HROW.out.alloc (.cells #[.int .i64 k] 3))
        go_wp2_with (first
          | (go_at_call 135; refine (HCALL.out k _ hlt hbw).mono ?_; rw [hp]; rintro e w3 ⟨rfl, hw3⟩; have hw3 := hw3.symm; subst hw3)
          | (at_builtin; refine wpList_append_own _ rfl _ _ 27 rfl w.heap.size 3 i0 (.int .i64 0) 1 8 Tryz.underlying27 hi hz0 hz1 hz2 rfl (by decide) _ _ _ rfl hrow3.out ⟨w2.heap.size, 0, none⟩ 1 1 [.int .i64 k] rfl rfl (cell_one_new _ _ _) (by simp [Value.oneCell']) (by unfold maxLen; omega) (by omega) (by have := hbw.size; simp; omega) ?_; intro v' w4 hown4 hg4 _; obtain ⟨g', cap', rfl⟩ := ownsRow_succ hown4))
        go_roundw
        case rel =>
          refine ⟨k + 1, by omega, by go_num, ?_, ?_⟩
          · rw [placesL_succ_true hp]
            simpa using hown4
          · have h4 := hbw.alloc hbw.size (.cells #[.int .i64 k] 3)
            exact h4.grown hg4 (by have := hbw.size; simp; omega) (fun j hj => (hrow3.out.lt j hj).1)
        case measure => simp [intOf]; omega
    · have hlt' : ¬ (k : Int) ≤ (l.length : Int) := by omega
      have hkn := hideP (show k = l.length + 1 by omega)
      clear hlt hk
      go_wp2
      go_ret
      have hkn := hkn.out
      subst hkn
      exact ⟨_, rfl, hrow, hbw⟩
end Go.Proofs.YtcadpoknolefpaaGreat
/- The reference's ReachOf. -/
namespace Go.Proofs.YtcadpoknolefpaaGreat
open Go.RowKit
set_option linter.unusedSimpArgs false
set_option linter.unusedVariables false
/-- the marks in block R. -/
def boolOf : Value → Bool | .bool b => b | _ => false
def marksOf (w : World) (R : Nat) : List Bool := match w.heap[R]? with | some (.cells c _ _) => c.toList.map boolOf | _ => []
theorem marksOf_eq {w : World} {R : Nat} {M : List Bool} {t : TypeId} {fz : Nat × Nat} (h : w.heap[R]? = some (.cells (M.map Value.bool).toArray t fz)) : marksOf w R = M := by
  simp [marksOf, h, Function.comp_def, boolOf]
def moreOf : Value → Nat | .bool true => 1 | _ => 0
/-- marks that only have what may be come to, place 0 too. -/
structure MarkI (w : World) (l : List (Int × Int)) (R : Nat) (M : List Bool) (wr : World) : Prop where
  at_ : wr.heap[R]? = some (.cells (M.map Value.bool).toArray 4 (0, 0))
  len : M.length = l.length + 1
  zero : M.getD 0 false = true
  come : ∀ x, M.getD x false = true → Come l x
  bel : Below w.heap.size w wr
theorem MarkI.mark {w wr : World} {l : List (Int × Int)} {R : Nat} {M : List Bool} (h : MarkI w l R M wr) (hR : w.heap.size ≤ R) {k j : Nat} (hk : M.getD k false = true) (hg : goesOn l k j = true) (hj : j < M.length) : MarkI w l R (M.set j true) (wr.setCell ⟨R, j, none⟩ (.bool true)) := by
  refine ⟨?_, by rw [List.length_set]; exact h.len, ?_, fun x hx => ?_, h.bel.setCell hR _⟩
  · have := heap_setCell_same wr R j _ _ (.bool true) h.at_
    rw [set_marks] at this
    exact this
  · rw [getD_set _ _ _ hj]; split
    · rfl
    · exact h.zero
  · rw [getD_set _ _ _ hj] at hx
    by_cases e : x = j
    · subst e; exact Come.step (h.come k hk) hg
    · rw [if_neg e] at hx; exact h.come x hx
/-- what a round over all has done so far: something was marked, or all is as it was. -/
def Done (l : List (Int × Int)) (Ms M : List Bool) (more : Value) (P : Prop) : Prop := (more = .bool true ∧ cf M < cf Ms) ∨ (more = .bool false ∧ M = Ms ∧ P)
theorem getD_at {M : List Bool} {k : Nat} {b : Bool} (h : M[k]? = some b) : M.getD k false = b := by rw [List.getD_eq_getElem?_getD, h]; rfl
end Go.Proofs.YtcadpoknolefpaaGreat
/- verify.entries. -/
namespace Go.Proofs.YtcadpoknolefpaaGreat
open Go.RowKit
set_option linter.unusedSimpArgs false
set_option linter.unusedVariables false
theorem infoEntry : (Tryz.prog.info? 94).map (fun i => (i.zero, i.size, i.bytes)) = some (some (.agg #[.int .i64 0, .slice none 0 0]), 2, 32) := by kernel_rfl
/-- the cells of entries. -/
def entCells (q : List (Nat × Value)) : List Value := q.flatMap fun x => [.int .i64 x.1, x.2]
def EntRows (W : World) (B : Nat) (q : List (Nat × Value)) (l : List (Nat × List Int)) : Prop :=
  q.length = l.length ∧ ∀ (k : Nat) (x : Nat × Value) (y : Nat × List Int), q[k]? = some x → l[k]? = some y → x.1 = y.1 ∧ W.ownsRow B 3 1 x.2 y.2.length (y.2.map (Value.int .i64))
theorem EntRows.kept {W W' : World} {B : Nat} {q : List (Nat × Value)} {l : List (Nat × List Int)} {row : Option Nat} (h : EntRows W B q l) (hg : W.grownBy W' row) (hr : ∀ r, row = some r → ∃ cs t fz, W.heap[r]? = some (.cells cs t fz) ∧ t ≠ 3) : EntRows W' B q l := by
  refine ⟨h.1, fun k x y hx hy => ?_⟩
  obtain ⟨h1, h2⟩ := h.2 k x y hx hy
  refine ⟨h1, row_same h2 fun j hj => hg.block j (h2.lt j hj).2 (fun e => ?_)⟩
  obtain ⟨cs, t, fz, h3, h4⟩ := hr j e.symm
  exact row_not h2 h3 h4 hj.symm
theorem EntRows.snoc {W : World} {B : Nat} {q : List (Nat × Value)} {l : List (Nat × List Int)} {pc : Nat} {u : Value} {s : List Int} (h : EntRows W B q l) (hu : W.ownsRow B 3 1 u s.length (s.map (Value.int .i64))) : EntRows W B (q ++ [(pc, u)]) (l ++ [(pc, s)]) := by
  refine ⟨by simp [h.1], fun k x y hx hy => ?_⟩
  by_cases hk : k < q.length
  · rw [List.getElem?_append_left hk] at hx
    rw [List.getElem?_append_left (by rw [← h.1]; exact hk)] at hy
    exact h.2 k x y hx hy
  · rw [List.getElem?_append_right (by omega)] at hx
    rw [List.getElem?_append_right (by rw [← h.1]; omega)] at hy
    have hk0 : k - q.length = 0 := by
      have := lt_of_at hx
      simp at this
      omega
    rw [hk0] at hx
    rw [← h.1, hk0] at hy
    simp at hx hy
    subst hx hy
    exact ⟨rfl, hu⟩
/-- a slice of entries comes back, in memory of the call's own. -/
def EntsP (w : World) (l : List (Nat × List Int)) (e : Ending) (w' : World) : Prop := ∃ v q, e = .returned v ∧ w'.ownsRow w.heap.size 94 2 v q.length (entCells q) ∧ EntRows w' w.heap.size q l ∧ Below w.heap.size w w'
set_option maxRecDepth 100000 in
set_option maxHeartbeats 4000000 in
theorem entries_any (C : List (Int × Int)) (E : Ents) (V : List Value) (Rs : Nat) (vC : Value) (w : World) (hC : OpsAt w vC C) (hfl : flowErr C = 0) (hE : E.length = C.length) (hV : V.length = E.length) (hRs : w.heap[Rs]? = some (.cells V.toArray 27 (0, 0)))
    (hall : ∀ (k : Nat) (s : List Int), E[k]? = some (some s) → s.length ≤ 8 ∧ ∃ v, V[k]? = some v ∧ IntsAt w v s ∧ NilOk v) (hre : ∀ pc, Come C pc → pc < C.length ∧ ∃ s, ent E pc = some s) :
    Calls Tryz.prog 104 #[vC, .slice (some ⟨Rs, 0, none⟩) E.length E.length] w (EntsP w ((reachL C).map fun pc => (pc, (ent E pc).getD []))) := by
  obtain ⟨i0, hi, hz0, hz1, hz2⟩ := info_parts infoEntry
  have h40 := flowErr_40 hfl
  have hR := flowReach_any C vC w hC
  have hrr : reachR C = (reachL C).map Int.ofNat := by rw [reachR, if_pos hfl]
  rw [hfl, hrr] at hR
  have hlr : (reachL C).length ≤ 41 := by
    unfold reachL
    have := List.length_filter_le (fun x => @decide (Come C x) (Classical.propDecidable _)) (List.range (C.length + 1))
    rw [List.length_range] at this
    omega
  have hmem : ∀ pc, pc ∈ reachL C → Come C pc := fun pc h => (mem_reachL (flowErr_zero hfl).2.2).1 h
  obtain ⟨p0, c0, hvC, _, _⟩ := id hC
  subst hvC
  have HALL := hideP hall
  have HRE := hideP hre
  have HMEM := hideP hmem
  have HR := hideP hR
  have HRS := hideP hRs
  generalize reachL C = R at *
  clear hall hre hmem hR hrr hRs hC hfl
  go_enter Tryz.func104, Tryz.ntmps104
  go_wp2_with fail
  refine HR.out.mono ?_
  rintro e w1 ⟨u1, rfl, r1, hb1⟩
  obtain ⟨p1, c1, hu1⟩ := row_shp r1
  rw [List.length_map] at hu1
  subst hu1
  have R1 := hideP (intsAt_of_row rfl r1)
  clear r1
  go_wp2
  go_loopw [7, 9, 17] (fun v7 _ i wr => ∃ (k : Nat) (q : List (Nat × Value)), k ≤ R.length ∧ i = .int .i64 k ∧ wr.ownsRow w1.heap.size 94 2 v7 q.length (entCells q) ∧ EntRows wr w.heap.size q ((R.take k).map fun pc => (pc, (ent E pc).getD [])) ∧ Below w1.heap.size w1 wr) (fun _ _ i _ => R.length - (intOf i).toNat)
  case atStart => exact ⟨0, [], Nat.zero_le _, rfl, World.ownsRow_nil _ _ _ _, ⟨rfl, fun k x y hx => by simp at hx⟩, Below.refl _ _⟩
  case round =>
    rename World => w2
    obtain ⟨k, q, hk, rfl, hrow, hq, hb2⟩ := hrel
    obtain ⟨p7, c7, hv7⟩ := row_shp hrow
    subst hv7
    have hB2 := hb1.trans (hb2.mono hb1.size)
    have hql : q.length = k := by rw [hq.1]; simp; omega
    by_cases hlt : k < R.length
    · have hlti : (k : Int) < (R.length : Int) := by omega
      obtain ⟨pc, hpc⟩ := at_of_lt hlt
      obtain ⟨hpl, s, hes⟩ := HRE.out pc (HMEM.out pc (List.mem_of_getElem? hpc))
      obtain ⟨h8, v, hv1, hv2, hv3⟩ := HALL.out pc s (ent_some hes)
      have i2 := R1.out.below hb2
      obtain ⟨pr, cr, her, _, hcr⟩ := i2
      obtain ⟨br, or_, hpr, hbr, gr⟩ := hcr k (Int.ofNat pc) (by rw [List.getElem?_map, hpc]; rfl)
      rw [List.length_map] at her
      cases her
      subst hpr
      have gr' : w2.cell? ⟨br, or_ + k, none⟩ = some (.int .i64 (pc : Int)) := gr
      have gs : w2.cell? ⟨Rs, pc, none⟩ = some v := by
        rw [hB2.cell (p := ⟨Rs, pc, none⟩) (heap_lt HRS.out), cell_at' HRS.out]
        simp [hv1]
      have hpE : (pc : Int) < (E.length : Int) := by omega
      obtain ⟨ps, cs, hvs, _, _⟩ := id hv2
      subst hvs
      have HCL := hideP (cloneInt_any s _ w2 (hv2.below hB2) hv3 (by omega))
      have HES := hideP hes
      have HPC := hideP hpc
      have HQ := hideP hq
      have HROW := hideP hrow
      have HQL := hideP hql
      clear hcr gr hv1 hv2 hv3 hes hpc hq hrow hql
      go_wp2_with fail
      refine HCL.out.mono ?_
      rintro e w3 ⟨u3, rfl, r3, hb3⟩
      obtain ⟨p3, c3, hu3⟩ := row_shp r3
      subst hu3
      have hB3 := hB2.trans (hb3.mono hB2.size)
      have hrow3 := row_same HROW.out (W' := w3) fun j hj => hb3.block j (HROW.out.lt j hj).2
      have hq3 : EntRows w3 w.heap.size q ((R.take k).map fun pc => (pc, (ent E pc).getD [])) := ⟨HQ.out.1, fun a x y hx hy => by
        obtain ⟨h1, h2⟩ := HQ.out.2 a x y hx hy
        exact ⟨h1, row_same h2 fun j hj => hb3.block j (h2.lt j hj).2⟩⟩
      have hu3 := row_low r3 hB2.size
      have hrow4 := hrow3.alloc (.cells #[.int .i64 pc, .slice p3 s.length c3] 94)
      have HROW4 := hideP hrow4
      have HQ3 := hideP hq3
      have HU3 := hideP hu3
      have hqk : q.length ≤ 41 := by rw [HQL.out]; omega
      have hnews : ∀ (j : Nat) (u : Value), [Value.int .i64 pc, .slice p3 s.length c3][j]? = some u → (w3.alloc (.cells #[.int .i64 pc, .slice p3 s.length c3] 94)).cell? ((⟨w3.heap.size, 0, none⟩ : Addr).add j) = some u := by
        intro j u hj
        have hn := World.alloc_heap_new w3 (.cells #[.int .i64 pc, .slice p3 s.length c3] 94)
        match j, hj with
        | 0, hj => simp at hj; subst hj; exact cell_at' hn 0
        | 1, hj => simp at hj; subst hj; exact cell_at' hn 1
        | k + 2, hj => simp at hj
      have HNEWS := hideP hnews
      clear r3 hrow3 hq3 hu3 hrow4 hnews
      go_wp2_with (at_builtin; refine wpList_append_own _ rfl _ _ 69 rfl w1.heap.size 94 i0 (.agg #[.int .i64 0, .slice none 0 0]) 2 32 Tryz.underlying69 hi hz0 hz1 hz2 rfl (by decide) _ _ _ rfl HROW4.out ⟨w3.heap.size, 0, none⟩ 1 1 [.int .i64 pc, .slice p3 s.length c3] rfl rfl HNEWS.out (by intro u hu; simp at hu; rcases hu with rfl | rfl <;> rfl) (by unfold maxLen; omega) (by omega) (by have := hb3.size; have := hb2.size; simp; omega) ?_; intro v' w4 hown4 hg4 _; obtain ⟨g', cap', rfl⟩ := ownsRow_succ hown4)
      go_roundw
      case rel =>
        have hga := World.grownBy_alloc w3 (.cells #[.int .i64 pc, .slice p3 s.length c3] 94) none
        have hq4 := HQ3.out.kept hga (fun r h => by cases h)
        have hne4 : ∀ r, Value.ownBlock (.slice p7 q.length c7) = some r → ∃ cs t fz, (w3.alloc (.cells #[.int .i64 pc, .slice p3 s.length c3] 94)).heap[r]? = some (.cells cs t fz) ∧ t ≠ 3 := by
          intro r hr
          rcases HROW4.out.2 with ⟨hv, _⟩ | ⟨g, cap, cur, hv, _, hg, _⟩
          · rw [hv] at hr; cases hr
          · rw [hv] at hr; cases hr; exact ⟨_, _, _, hg, by decide⟩
        have hq5 := hq4.kept hg4 hne4
        have hu4 := (HU3.out.alloc (.cells #[.int .i64 pc, .slice p3 s.length c3] 94))
        have hu5 := row_same hu4 (W' := w4) fun j hj => hg4.block j (hu4.lt j hj).2 (fun e => by
          obtain ⟨cs, t, fz, h3, h4⟩ := hne4 j e.symm
          exact row_not hu4 h3 h4 hj.symm)
        refine ⟨k + 1, q ++ [(pc, .slice p3 s.length c3)], by omega, by go_num, ?_, ?_, ?_⟩
        · have e1 : entCells (q ++ [(pc, .slice p3 s.length c3)]) = entCells q ++ [.int .i64 pc, .slice p3 s.length c3] := by simp [entCells]
          rw [e1, List.length_append, List.length_singleton]
          exact hown4
        · rw [take_snoc R k pc HPC.out, List.map_append]
          have e2 : (List.map (fun pc => (pc, (ent E pc).getD [])) [pc]) = [(pc, s)] := by simp [HES.out]
          rw [e2]
          exact hq5.snoc hu5
        · have hbA := (hb2.trans (hb3.mono hb2.size)).alloc (Nat.le_trans hb2.size hb3.size) (.cells #[.int .i64 pc, .slice p3 s.length c3] 94)
          exact hbA.grown hg4 (by have := hb3.size; have := hb2.size; simp; omega) (fun j hj => (HROW4.out.lt j hj).1)
      case measure => simp [intOf]; omega
    · have hlti : ¬ (k : Int) < (R.length : Int) := by omega
      have HQ := hideP hq
      have HROW := hideP hrow
      clear hq hrow hql
      go_wp2
      go_ret
      have h1 := HQ.out
      rw [List.take_of_length_le (by omega)] at h1
      exact ⟨_, q, rfl, row_low HROW.out hb1.size, h1, hB2⟩
end Go.Proofs.YtcadpoknolefpaaGreat
