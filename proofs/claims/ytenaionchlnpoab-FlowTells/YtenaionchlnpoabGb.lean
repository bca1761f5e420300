/- The reference's ReachOf. -/
import Derived.Test.YtenaionchlnpoabGa
namespace Go.Proofs.Ytenaionchlnpoab
open Go.RowKit
set_option linter.unusedSimpArgs false
set_option linter.unusedVariables false
/-- the marks in block R. -/
def boolOf : Value → Bool | .bool b => b | _ => false
def marksOf (w : World) (R : Nat) : List Bool := match w.heap[R]? with | some (.cells c _ _) => c.toList.map boolOf | _ => []
theorem marksOf_eq {w : World} {R : Nat} {M : List Bool} {t : TypeId} {fz : Nat × Nat} (h : w.heap[R]? = some (.cells (M.map Value.bool).toArray t fz)) : marksOf w R = M := by
  simp [marksOf, h, Function.comp_def, boolOf]
def moreOf : Value → Nat | .bool true => 1 | _ => 0
/-- marks that only have what may be come to, place 0 too. -/
structure MarkI (w : World) (l : List (Int × Int)) (R : Nat) (M : List Bool) (wr : World) : Prop where
  at_ : wr.heap[R]? = some (.cells (M.map Value.bool).toArray 4 (0, 0))
  len : M.length = l.length + 1
  zero : M.getD 0 false = true
  come : ∀ x, M.getD x false = true → Come l x
  bel : Below w.heap.size w wr
theorem MarkI.mark {w wr : World} {l : List (Int × Int)} {R : Nat} {M : List Bool} (h : MarkI w l R M wr) (hR : w.heap.size ≤ R) {k j : Nat} (hk : M.getD k false = true) (hg : goesOn l k j = true) (hj : j < M.length) : MarkI w l R (M.set j true) (wr.setCell ⟨R, j, none⟩ (.bool true)) := by
  refine ⟨?_, by rw [List.length_set]; exact h.len, ?_, fun x hx => ?_, h.bel.setCell hR _⟩
  · have := heap_setCell_same wr R j _ _ (.bool true) h.at_
    rw [set_marks] at this
    exact this
  · rw [getD_set _ _ _ hj]; split
    · rfl
    · exact h.zero
  · rw [getD_set _ _ _ hj] at hx
    by_cases e : x = j
    · subst e; exact Come.step (h.come k hk) hg
    · rw [if_neg e] at hx; exact h.come x hx
/-- what a round over all has done so far: something was marked, or all is as it was. -/
def Done (l : List (Int × Int)) (Ms M : List Bool) (more : Value) (P : Prop) : Prop := (more = .bool true ∧ cf M < cf Ms) ∨ (more = .bool false ∧ M = Ms ∧ P)
theorem getD_at {M : List Bool} {k : Nat} {b : Bool} (h : M[k]? = some b) : M.getD k false = b := by rw [List.getD_eq_getElem?_getD, h]; rfl
set_option maxHeartbeats 16000000 in
theorem reachOf_any (l : List (Int × Int)) (v : Value) (w : World) (h : OpsAt w v l) (hf : flowErr l = 0) : Calls Try.prog 11 #[v] w fun e w' => ∃ u, e = .returned u ∧ w'.ownsRow w.heap.size 3 1 u (reachR l).length ((reachR l).map (Value.int .i64)) ∧ Below w.heap.size w w' := by
  have h40 := flowErr_40 hf
  obtain ⟨i0, hi, hz0, hz1, hz2⟩ := info_parts infoBool
  obtain ⟨i1, hj, hy0, hy1, hy2⟩ := info_parts infoInt
  have hrr : reachR l = (reachL l).map Int.ofNat := by rw [reachR, if_pos hf]
  have hcall : ∀ (k t : Nat) (W : World), k < l.length → Below w.heap.size w W → Calls Try.prog 30 #[v, .int .i64 k, .int .i64 t] W fun e w' => e = .returned (.bool (goesOn l k t)) ∧ w' = W := fun k t W hk hb => goesOn_any l k t v W (h.below hb) hk
  have hbad := (flowErr_zero hf).2.2
  have HCALL := hideP hcall
  have HRR := hideP hrr
  have HBAD := hideP hbad
  obtain ⟨p, cap, rfl, hm, _⟩ := h
  unfold maxLen at hm
  clear hcall hrr hf hbad
  have hwr : wrap64 ((l.length : Int) + 1) = (l.length : Int) + 1 := by unfold wrap64; omega
  obtain ⟨M0, hM0⟩ : ∃ M0, (List.replicate (l.length + 1) false).set 0 true = M0 := ⟨_, rfl⟩
  go_enter Try.func11, Try.ntmps11
  go_wp2_with (at_make; refine wpList_make_full _ rfl _ _ 44 rfl w.heap.size 4 i0 (.bool false) 1 Try.underlying44 hi hz0 hz1 _ _ _ _ (l.length + 1) rfl rfl (by omega) (by omega) (by rw [hz2]; omega) (by unfold maxLen; omega) (Nat.le_refl _) ?_; intro w1 hown1 hg1; rw [made_bools] at hown1; have q1 := row_full hown1 (by simp); have c1 := cell_at' q1 0; have z1 := Lib.frozen_of_heap q1 0; have Q1 := hideP q1; clear q1 hown1; simp at c1 z1)
  have hI0 : MarkI w l w.heap.size M0 (w1.setCell ⟨w.heap.size, 0, none⟩ (.bool true)) := by
    have hb1 : Below w.heap.size w w1 := (Below.refl w.heap.size w).grown hg1 (Nat.le_refl _) (fun k hk => by cases hk)
    refine ⟨?_, by rw [← hM0]; simp, ?_, fun x hx => ?_, hb1.setCell (Nat.le_refl _) _⟩
    · have := heap_setCell_same w1 w.heap.size 0 _ _ (.bool true) Q1.out
      rw [set_marks, hM0] at this
      exact this
    · rw [← hM0, getD_set _ _ _ (by simp)]; rfl
    · rw [← hM0, getD_set _ _ _ (by simp)] at hx
      by_cases e : x = 0
      · subst e; exact .zero
      · rw [if_neg e, List.getD_eq_getElem?_getD, List.getElem?_replicate] at hx
        split at hx <;> cases hx
  clear c1 z1
  go_loopw [4, 5, 6] (fun v4 _ _ wr => ∃ M, MarkI w l w.heap.size M wr ∧ (v4 = .bool true ∨ (v4 = .bool false ∧ ∀ x y, M.getD x false = true → goesOn l x y = true → M.getD y false = true))) (fun v4 _ _ wr => 2 * cf (marksOf wr w.heap.size) + moreOf v4)
  case atStart => exact ⟨M0, hI0, .inl rfl⟩
  case round =>
    rename World => w2
    obtain ⟨Ms, hIs, hmore⟩ := hrel
    have hcf := marksOf_eq hIs.at_
    rcases hmore with rfl | ⟨rfl, hshut⟩
    · go_wp2
      go_loopw [4, 5, 6] (fun v4 v5 _ wr => ∃ (M : List Bool) (k : Nat), MarkI w l w.heap.size M wr ∧ k ≤ l.length ∧ v5 = .int .i64 k ∧ Done l Ms M v4 (∀ x y, x < k → M.getD x false = true → goesOn l x y = true → M.getD y false = true)) (fun _ v5 _ _ => l.length - (intOf v5).toNat)
      case atStart => exact ⟨Ms, 0, hIs, Nat.zero_le _, rfl, .inr ⟨rfl, rfl, fun x y hx => by omega⟩⟩
      case round =>
        rename World => w3
        obtain ⟨M3, k, hI3, hk, rfl, hdone⟩ := hrel
        by_cases hlt : k < l.length
        · have hlti : (k : Int) < (l.length : Int) := by omega
          have hsh : ∃ b4, u4 = Value.bool b4 := by rcases hdone with ⟨h, _⟩ | ⟨h, _⟩ <;> exact ⟨_, h⟩
          obtain ⟨b4, rfl⟩ := hsh
          have hdone2 : Done l Ms M3 (.bool b4) ((∀ x y, x < k → M3.getD x false = true → goesOn l x y = true → M3.getD y false = true) ∧ ∀ y, y < 0 → M3.getD k false = true → goesOn l k y = true → M3.getD y false = true) := by
            rcases hdone with h | ⟨h1, h2, h3⟩
            · exact .inl h
            · exact .inr ⟨h1, h2, h3, fun y hy => by omega⟩
          have HD3 := hideP hdone2
          have HI3 := hideP hI3
          clear hdone hdone2 hI3
          go_wp2
          go_loopw [4, 6] (fun v4 v6 wr => ∃ (M : List Bool) (j : Nat), MarkI w l w.heap.size M wr ∧ j ≤ l.length + 1 ∧ v6 = .int .i64 j ∧ (∃ b, v4 = .bool b) ∧ Done l Ms M v4 ((∀ x y, x < k → M.getD x false = true → goesOn l x y = true → M.getD y false = true) ∧ ∀ y, y < j → M.getD k false = true → goesOn l k y = true → M.getD y false = true)) (fun _ v6 _ => l.length + 1 - (intOf v6).toNat)
          case atStart => exact ⟨M3, 0, HI3.out, Nat.zero_le _, rfl, ⟨_, rfl⟩, HD3.out⟩
          case round =>
            rename World => w4
            obtain ⟨M, j, hI, hj, rfl, ⟨c4, rfl⟩, hdn⟩ := hrel
            by_cases hjl : j ≤ l.length
            · have hjli : (j : Int) ≤ (l.length : Int) := by omega
              have hkM : k < M.length := by rw [hI.len]; omega
              have hjM : j < M.length := by rw [hI.len]; omega
              obtain ⟨bk, hbk⟩ := at_of_lt hkM
              obtain ⟨bj, hbj⟩ := at_of_lt hjM
              have ck : w4.cell? ⟨w.heap.size, k, none⟩ = some (.bool bk) := (cell_at' hI.at_ k).trans (marks_cells hbk)
              have cj : w4.cell? ⟨w.heap.size, j, none⟩ = some (.bool bj) := (cell_at' hI.at_ j).trans (marks_cells hbj)
              have zj := Lib.frozen_of_heap hI.at_ j
              have hb4 := hI.bel
              have hk1 : (k : Int) < (l.length : Int) + 1 := by omega
              have hj1 : (j : Int) < (l.length : Int) + 1 := by omega
              have HK := hideP (getD_at hbk)
              have HJ := hideP (getD_at hbj)
              have HBJ := hideP hbj
              have HI := hideP hI
              have HDN := hideP hdn
              have keep : (M.getD k false = true → goesOn l k j = true → M.getD j false = true) → Done l Ms M (.bool c4) ((∀ x y, x < k → M.getD x false = true → goesOn l x y = true → M.getD y false = true) ∧ ∀ y, y < j + 1 → M.getD k false = true → goesOn l k y = true → M.getD y false = true) := by
                intro hnew
                rcases hdn with h | ⟨h1, h2, h3, h4⟩
                · exact .inl h
                · refine .inr ⟨h1, h2, h3, fun y hy => ?_⟩
                  rcases Nat.lt_succ_iff_lt_or_eq.1 hy with h | rfl
                  · exact h4 y h
                  · exact hnew
              have KEEP := hideP keep
              clear hbk hbj hI hdn keep hkM hjM
              cases bk
              · go_wp2
                go_roundw
                case rel => exact ⟨M, j + 1, HI.out, by omega, by go_num, ⟨_, rfl⟩, KEEP.out (fun h => by rw [HK.out] at h; cases h)⟩
                case measure => simp [intOf]; omega
              · cases bj
                · cases hgo : goesOn l k j
                  · go_wp2_with (go_at_call 30; refine (HCALL.out k j _ hlt hb4).mono ?_; rw [hgo]; rintro e w5 ⟨rfl, hw5⟩; have hw5 := hw5.symm; subst hw5)
                    go_roundw
                    case rel => exact ⟨M, j + 1, HI.out, by omega, by go_num, ⟨_, rfl⟩, KEEP.out (fun _ h => by rw [hgo] at h; cases h)⟩
                    case measure => simp [intOf]; omega
                  · go_wp2_with (go_at_call 30; refine (HCALL.out k j _ hlt hb4).mono ?_; rw [hgo]; rintro e w5 ⟨rfl, hw5⟩; have hw5 := hw5.symm; subst hw5)
                    go_roundw
                    case rel =>
                      refine ⟨M.set j true, j + 1, HI.out.mark (Nat.le_refl _) HK.out hgo (by rw [HI.out.len]; omega), by omega, by go_num, ⟨_, rfl⟩, .inl ⟨rfl, ?_⟩⟩
                      have := cf_set M j HBJ.out
                      rcases HDN.out with ⟨_, h2⟩ | ⟨_, h2, _⟩
                      · omega
                      · subst h2; omega
                    case measure => simp [intOf]; omega
                · go_wp2
                  go_roundw
                  case rel => exact ⟨M, j + 1, HI.out, by omega, by go_num, ⟨_, rfl⟩, KEEP.out (fun _ _ => HJ.out)⟩
                  case measure => simp [intOf]; omega
            · have hjli : ¬ (j : Int) ≤ (l.length : Int) := by omega
              have HI := hideP hI
              have HDN := hideP hdn
              clear hI hdn
              go_wp2
              go_roundw
              case rel =>
                refine ⟨M, k + 1, HI.out, by omega, by go_num, ?_⟩
                rcases HDN.out with h | ⟨h1, h2, h3, h4⟩
                · exact .inl h
                · refine .inr ⟨h1, h2, fun x y hx hm hg => ?_⟩
                  rcases Nat.lt_succ_iff_lt_or_eq.1 hx with h | rfl
                  · exact h3 x y h hm hg
                  · exact h4 y (by have := goesOn_le HBAD.out hg; omega) hm hg
              case measure => simp [intOf]; omega
        · have hlti : ¬ (k : Int) < (l.length : Int) := by omega
          have hsh : ∃ b4, u4 = Value.bool b4 := by rcases hdone with ⟨h, _⟩ | ⟨h, _⟩ <;> exact ⟨_, h⟩
          obtain ⟨b4, rfl⟩ := hsh
          have HD3 := hideP hdone
          have HI3 := hideP hI3
          have hcf3 := marksOf_eq hI3.at_
          have HCF := hideP hcf
          have HCF3 := hideP hcf3
          clear hdone hI3 hcf hcf3
          go_wp2
          go_roundw
          case rel =>
            refine ⟨M3, HI3.out, ?_⟩
            rcases HD3.out with ⟨h1, _⟩ | ⟨h1, _, h3⟩
            · exact .inl h1
            · exact .inr ⟨h1, fun x y hm hg => h3 x y (by have := goesOn_lt hg; omega) hm hg⟩
          case measure =>
            have e1 := HCF.out
            have e2 := HCF3.out
            rcases HD3.out with ⟨h1, h2⟩ | ⟨h1, h2, _⟩
            · cases h1
              simp only [e1, e2, moreOf]; omega
            · cases h1
              subst h2
              simp only [e1, e2, moreOf]; omega
    · have hpl : placesL (fun pc => Ms.getD pc false) (l.length + 1) = (reachL l).map Int.ofNat := by
        unfold placesL
        rw [reachL_eq (code := l) (fun pc => Ms.getD pc false) hIs.zero hIs.come hshut]
      have hb2 := hIs.bel
      have hcell : ∀ k b, Ms[k]? = some b → ∀ W : World, W.grownBy w2 none ∨ True → w2.cell? ⟨w.heap.size, k, none⟩ = some (.bool b) := fun k b hb _ _ => (cell_at' hIs.at_ k).trans (marks_cells hb)
      have HI := hideP hIs
      obtain ⟨P, hP⟩ : ∃ P : Nat → Bool, (fun pc => Ms.getD pc false) = P := ⟨_, rfl⟩
      rw [hP] at hpl
      have HP := hideP hP
      have HPL := hideP (HRR.out.trans hpl.symm)
      have hlen := hIs.len
      clear hcell hIs hshut hpl hP hcf
      go_wp2
      go_loopw [7, 8] (fun v7 i wr => ∃ k : Nat, k ≤ l.length + 1 ∧ i = .int .i64 k ∧ wr.ownsRow (w.heap.size + 1) 3 1 v7 (placesL P k).length ((placesL P k).map (Value.int .i64)) ∧ Below (w.heap.size + 1) w2 wr ∧ w.heap.size + 1 ≤ wr.heap.size) (fun _ i _ => l.length + 1 - (intOf i).toNat)
      case atStart => exact ⟨0, Nat.zero_le _, rfl, World.ownsRow_nil _ _ _ _, Below.refl _ _, heap_lt HI.out.at_⟩
      case round =>
        rename World => w3
        obtain ⟨k, hk, rfl, hrow, hbw, hsz⟩ := hrel
        obtain ⟨p7, c7, rfl⟩ := row_shp hrow
        by_cases hlt : k < l.length + 1
        · have hlti : (k : Int) ≤ (l.length : Int) := by omega
          have hlti2 : (k : Int) < (l.length : Int) + 1 := by omega
          have hle := placesL_le P k
          obtain ⟨b, hb⟩ := at_of_lt (l := Ms) (k := k) (by omega)
          have ck : w3.cell? ⟨w.heap.size, k, none⟩ = some (.bool b) := (hbw.cell (p := ⟨w.heap.size, k, none⟩) (by simp)).trans ((cell_at' HI.out.at_ k).trans (marks_cells hb))
          have hp : P k = b := by rw [← HP.out]; exact getD_at hb
          have HPK := hideP hp
          have HROW := hideP hrow
          have hrow3 := hideP (hrow.alloc (.cells #[.int .i64 k] 3))
          clear hrow hb hp
          cases b
          · go_wp2
            go_roundw
            case rel =>
              refine ⟨k + 1, by omega, by go_num, ?_, hbw, hsz⟩
              rw [placesL_succ_false HPK.out]
              exact HROW.out
            case measure => simp [intOf]; omega
          · go_wp2_with (at_builtin; refine wpList_append_own _ rfl _ _ 23 rfl (w.heap.size + 1) 3 i1 (.int .i64 0) 1 8 Try.underlying23 hj hy0 hy1 hy2 rfl (by decide) _ _ _ rfl hrow3.out ⟨w3.heap.size, 0, none⟩ 1 1 [.int .i64 k] rfl rfl (cell_one_new _ _ _) (by simp [Value.oneCell']) (by unfold maxLen; omega) (by omega) (by simp; omega) ?_; intro v' w4 hown4 hg4 _; obtain ⟨g', cap', rfl⟩ := ownsRow_succ hown4)
            go_roundw
            case rel =>
              refine ⟨k + 1, by omega, by go_num, ?_, ?_, ?_⟩
              · rw [placesL_succ_true HPK.out]
                simpa using hown4
              · have h4 := hbw.alloc hsz (.cells #[.int .i64 k] 3)
                exact h4.grown hg4 (by simp; omega) (fun j hj => (hrow3.out.lt j hj).1)
              · have := hg4.size
                simp at this
                omega
            case measure => simp [intOf]; omega
        · have hlti : ¬ (k : Int) ≤ (l.length : Int) := by omega
          have hkn := hideP (show k = l.length + 1 by omega)
          clear hlt hk
          go_wp2
          go_ret
          have hkn := hkn.out
          subst hkn
          rw [HPL.out]
          exact ⟨_, rfl, row_low hrow (by omega), hb2.trans (hbw.mono (by omega))⟩
end Go.Proofs.Ytenaionchlnpoab

