/- The reference's CodeOf. -/
import Derived.Test.YtenaionchlnpoaaWk
namespace Go.Proofs.Ytenaionchlnpoaa
open Go.RowKit
set_option linter.unusedSimpArgs false
set_option linter.unusedVariables false
theorem firstOf_drop (s : ByteArray) (k : Nat) (h : k < s.size) : firstOf (s.data.toList.drop k) = if isCode (s[k].toNat : Int) = false then none else if hasA (s[k].toNat : Int) then (if s.size < k + 5 then none else some (((s[k].toNat : Int), wrap32 (numOf ((s.data.toList.drop (k + 1)).take 4))), 5)) else some (((s[k].toNat : Int), 0), 1) := by
  have hl : s.data.toList.length = s.size := by simp
  rw [List.drop_eq_getElem_cons (by omega)]
  have hg : s.data.toList[k]'(by omega) = s[k] := rfl
  rw [hg]
  simp only [firstOf]
  have e : ((s.data.toList.drop (k + 1)).length < 4) ↔ (s.size < k + 5) := by rw [List.length_drop]; omega
  simp only [e]
theorem row_shape {w : World} {base : Nat} {e : TypeId} {size : Nat} {v : Value} {n : Nat} {xs : List Value} (h : w.ownsRow base e size v n xs) : ∃ p cap, v = .slice p n cap := by
  rcases h.2 with ⟨rfl, h0⟩ | ⟨g, cap, cur, rfl, _⟩
  · exact ⟨none, 0, by rw [h0]⟩
  · exact ⟨_, _, rfl⟩
theorem cells2_new (W : World) (c a : Int) : ∀ (j : Nat) (u : Value), [Value.int .i64 c, Value.int .i64 a][j]? = some u → (W.alloc (.cells #[.int .i64 c, .int .i64 a] 23)).cell? ((⟨W.heap.size, 0, none⟩ : Addr).add j) = some u := by
  intro j u hj
  have hn := World.alloc_heap_new W (.cells #[.int .i64 c, .int .i64 a] 23)
  match j, hj with
  | 0, hj => simp at hj; subst hj; exact cell_at' hn 0
  | 1, hj => simp at hj; subst hj; exact cell_at' hn 1
  | k + 2, hj => simp at hj
theorem cells2_one (c a : Int) : ∀ u ∈ [Value.int .i64 c, Value.int .i64 a], u.oneCell' = true := by
  intro u hu; simp at hu; rcases hu with rfl | rfl <;> rfl
theorem opCells_snoc (l : List (Int × Int)) (o : Int × Int) : opCells (l ++ [o]) = opCells l ++ [.int .i64 o.1, .int .i64 o.2] := by simp [opCells]
theorem row_low' {w : World} {base : Nat} {e : TypeId} {size : Nat} {v : Value} {n : Nat} {xs : List Value} (h : w.ownsRow base e size v n xs) : ∀ k, v.ownBlock = some k → base ≤ k := fun k hk => (h.lt k hk).1
set_option maxRecDepth 100000 in
set_option maxHeartbeats 4000000 in
theorem codeOf_new (s : ByteArray) (hm : s.size ≤ 140737488351232) (w : World) :
    Calls Try.prog 13 #[.string s] w fun e w' => ∃ v, e = .returned (.tuple #[v, .int .i64 (dec (items s.size s.data.toList) []).2]) ∧ OpsAt w' v (dec (items s.size s.data.toList) []).1 ∧ Below w.heap.size w w' ∧ NewSl w' w.heap.size 23 v := by
  obtain ⟨⟨ops, er⟩, hdec⟩ : ∃ x, dec (items s.size s.data.toList) [] = x := ⟨_, rfl⟩
  rw [hdec]
  have HDEC : Hid (dec (items s.size s.data.toList) [] = (ops, er)) := hdec
  clear hdec
  have hm' : s.size ≤ maxLen := by unfold maxLen; omega
  obtain ⟨i0, hi, hz0, hz1, hz2⟩ := info_parts infoOp
  go_enter Try.func13, Try.ntmps13
  go_wp2
  go_loopw [4, 5, 6] (fun x i _ wr => ∃ (k f : Nat) (acc : List (Int × Int)), k ≤ s.size ∧ s.size ≤ k + f ∧ i = .int .i64 k ∧ acc.length ≤ 40 ∧ wr.ownsRow w.heap.size 23 2 x acc.length (opCells acc) ∧ dec (items f (s.data.toList.drop k)) acc = (ops, er) ∧ Below w.heap.size w wr) (fun _ i _ _ => s.size - (intOf i).toNat)
  case atStart => exact ⟨0, s.size, [], Nat.zero_le _, by omega, rfl, by simp, World.ownsRow_nil _ _ _ _, HDEC.out, Below.refl _ _⟩
  case round =>
    obtain ⟨k, f, acc, hk, hf, rfl, h40, hrow, hd, hbw⟩ := hrel
    obtain ⟨p, cap, rfl⟩ := row_shape hrow
    by_cases hlt : k < s.size
    · obtain ⟨f, rfl⟩ : ∃ g, f = g + 1 := ⟨f - 1, by omega⟩
      have hne : s.data.toList.drop k ≠ [] := by simp; omega
      have hfo := firstOf_drop s k hlt
      obtain ⟨c, hc⟩ : ∃ c : Int, (s[k].toNat : Int) = c := ⟨_, rfl⟩
      have hc0 : 0 ≤ c := by omega
      have hc1 : c ≤ 255 := by have := s[k].toNat_lt; omega
      rw [hc] at hfo
      cases hcode : isCode c
      · rw [hcode] at hfo
        simp only [if_true] at hfo
        rw [items_none f _ hne hfo] at hd
        simp [dec] at hd
        obtain ⟨rfl, rfl⟩ := hd
        have hcode' := hcode
        unfold isCode at hcode'
        clear hfo hne
        go_wp2_with (go_at_call 39; refine (between_any _ _ _ _).mono ?_; rintro e w' ⟨rfl, hw⟩; have hw := hw.symm; subst hw; rw [hcode'])
        go_ret2
        exact ⟨_, rfl, ⟨none, 0, rfl, Nat.zero_le _, fun k o hk => by simp at hk⟩, hbw.alloc hbw.size _, fun a n c h => by cases h⟩
      · have hcode' := hcode
        unfold isCode at hcode'
        rw [hcode] at hfo
        cases hh : hasA c
        · rw [hh] at hfo
          simp at hfo
          rw [items_some f _ _ _ hfo] at hd
          simp only [dec, if_true] at hd
          by_cases hfull : acc.length = 40
          · rw [if_pos hfull] at hd
            simp at hd
            obtain ⟨rfl, rfl⟩ := hd
            have hf' : ((acc.length : Int) == 40) = true := by simp; omega
            clear hfo hne hfull
            go_wp2_with (first | (go_at_call 39; refine (between_any _ _ _ _).mono ?_; rintro e w' ⟨rfl, hw⟩; have hw := hw.symm; subst hw; rw [hcode']) | (go_at_call 37; refine (hasA_any _ _).mono ?_; rintro e w' ⟨rfl, hw⟩; have hw := hw.symm; subst hw))
            go_ret2
            exact ⟨_, rfl, ⟨none, 0, rfl, Nat.zero_le _, fun k o hk => by simp at hk⟩, hbw.alloc hbw.size _, fun a n c h => by cases h⟩
          · rw [if_neg hfull] at hd
            have hf' : ((acc.length : Int) == 40) = false := by simp; omega
            have h41 : acc.length + 1 ≤ 40 := by omega
            have HD : Hid (dec (items f (s.data.toList.drop (k + 1))) (acc ++ [(c, 0)]) = (ops, er)) := by
              show _ = _
              rw [List.drop_drop] at hd
              exact hd
            have hnews := cells2_new (wr.alloc (.cells #[.int .i64 c, .int .i64 0] 23)) c 0
            rw [World.size_alloc] at hnews
            have hso := cells2_one c 0
            have hbs := hbw.size
            clear hfo hne hd hfull
            go_wp2_with (first | (go_at_call 39; refine (between_any _ _ _ _).mono ?_; rintro e w' ⟨rfl, hw⟩; have hw := hw.symm; subst hw; rw [hcode']) | (go_at_call 37; refine (hasA_any _ _).mono ?_; rintro e w' ⟨rfl, hw⟩; have hw := hw.symm; subst hw) | (at_builtin; refine wpList_append_own _ rfl _ _ 24 rfl w.heap.size 23 i0 (.agg #[.int .i64 0, .int .i64 0]) 2 16 Try.underlying24 hi hz0 hz1 hz2 rfl (by decide) _ _ _ rfl ((hrow.alloc _).alloc _) ⟨wr.heap.size + 1, 0, none⟩ 1 1 [.int .i64 c, .int .i64 0] rfl rfl hnews hso (by unfold maxLen; omega) (by omega) (by simp; omega) ?_; intro v' w1 hown' hgrow _))
            go_roundw
            case rel =>
              refine ⟨k + 1, f, acc ++ [(c, 0)], by omega, by omega, by go_num, by simp; omega, ?_, HD.out, ((hbw.alloc hbs _).alloc (by simp; omega) _).grown hgrow (by simp; omega) (row_low' hrow)⟩
              rw [opCells_snoc, List.length_append, List.length_singleton]
              exact hown'
            case measure => simp [intOf]; omega
        · rw [hh] at hfo
          by_cases h5 : s.size < k + 5
          · simp [h5] at hfo
            rw [items_none f _ hne hfo] at hd
            simp [dec] at hd
            obtain ⟨rfl, rfl⟩ := hd
            have h5' : (s.size : Int) < (k : Int) + 5 := by omega
            clear hfo hne
            go_wp2_with (first | (go_at_call 39; refine (between_any _ _ _ _).mono ?_; rintro e w' ⟨rfl, hw⟩; have hw := hw.symm; subst hw; rw [hcode']) | (go_at_call 37; refine (hasA_any _ _).mono ?_; rintro e w' ⟨rfl, hw⟩; have hw := hw.symm; subst hw))
            go_ret2
            exact ⟨_, rfl, ⟨none, 0, rfl, Nat.zero_le _, fun k o hk => by simp at hk⟩, hbw.alloc hbw.size _, fun a n c h => by cases h⟩
          · simp [h5] at hfo
            have h5' : ¬ (s.size : Int) < (k : Int) + 5 := by omega
            have hnum := fun W => numberAt_any s (k + 1) W (by omega) hm'
            rw [show ((k + 1 : Nat) : Int) = (k : Int) + 1 from by omega] at hnum
            rw [items_some f _ _ _ hfo] at hd
            obtain ⟨A, hA⟩ : ∃ A, wrap32 (numOf ((s.data.toList.drop (k + 1)).take 4)) = A := ⟨_, rfl⟩
            rw [hA] at hd hnum
            simp only [dec, if_true] at hd
            by_cases hfull : acc.length = 40
            · rw [if_pos hfull] at hd
              simp at hd
              obtain ⟨rfl, rfl⟩ := hd
              have hf' : ((acc.length : Int) == 40) = true := by simp; omega
              have HN : Hid (∀ W, Calls Try.prog 40 #[.string s, .int .i64 ((k : Int) + 1)] W fun e w' => e = .returned (.int .i64 A) ∧ w' = W) := hnum
              clear hfo hne hfull hA hnum
              go_wp2_with (first | (go_at_call 39; refine (between_any _ _ _ _).mono ?_; rintro e w' ⟨rfl, hw⟩; have hw := hw.symm; subst hw; rw [hcode']) | (go_at_call 37; refine (hasA_any _ _).mono ?_; rintro e w' ⟨rfl, hw⟩; have hw := hw.symm; subst hw) | (go_at_call 40; refine (HN.out _).mono ?_; rintro e w' ⟨rfl, hw⟩; have hw := hw.symm; subst hw))
              go_ret2
              exact ⟨_, rfl, ⟨none, 0, rfl, Nat.zero_le _, fun k o hk => by simp at hk⟩, hbw.alloc hbw.size _, fun a n c h => by cases h⟩
            · rw [if_neg hfull] at hd
              have hf' : ((acc.length : Int) == 40) = false := by simp; omega
              have h41 : acc.length + 1 ≤ 40 := by omega
              have HD : Hid (dec (items f (s.data.toList.drop (k + 5))) (acc ++ [(c, A)]) = (ops, er)) := by
                show _ = _
                rw [List.drop_drop] at hd
                exact hd
              have hnews := cells2_new (wr.alloc (.cells #[.int .i64 c, .int .i64 A] 23)) c A
              rw [World.size_alloc] at hnews
              have hso := cells2_one c A
              have hbs := hbw.size
              have HN : Hid (∀ W, Calls Try.prog 40 #[.string s, .int .i64 ((k : Int) + 1)] W fun e w' => e = .returned (.int .i64 A) ∧ w' = W) := hnum
              clear hfo hne hd hfull hA hnum
              go_wp2_with (first | (go_at_call 39; refine (between_any _ _ _ _).mono ?_; rintro e w' ⟨rfl, hw⟩; have hw := hw.symm; subst hw; rw [hcode']) | (go_at_call 37; refine (hasA_any _ _).mono ?_; rintro e w' ⟨rfl, hw⟩; have hw := hw.symm; subst hw) | (go_at_call 40; refine (HN.out _).mono ?_; rintro e w' ⟨rfl, hw⟩; have hw := hw.symm; subst hw) | (at_builtin; refine wpList_append_own _ rfl _ _ 24 rfl w.heap.size 23 i0 (.agg #[.int .i64 0, .int .i64 0]) 2 16 Try.underlying24 hi hz0 hz1 hz2 rfl (by decide) _ _ _ rfl ((hrow.alloc _).alloc _) ⟨wr.heap.size + 1, 0, none⟩ 1 1 [.int .i64 c, .int .i64 A] rfl rfl hnews hso (by unfold maxLen; omega) (by omega) (by simp; omega) ?_; intro v' w1 hown' hgrow _))
              go_roundw
              case rel =>
                refine ⟨k + 5, f, acc ++ [(c, A)], by omega, by omega, by go_num, by simp; omega, ?_, HD.out, ((hbw.alloc hbs _).alloc (by simp; omega) _).grown hgrow (by simp; omega) (row_low' hrow)⟩
                rw [opCells_snoc, List.length_append, List.length_singleton]
                exact hown'
              case measure => simp [intOf]; omega
    · have hlt' : ¬ (k : Int) < (s.size : Int) := by omega
      rw [List.drop_eq_nil_of_le (by simp; omega), items_nil] at hd
      simp [dec] at hd
      obtain ⟨rfl, rfl⟩ := hd
      go_wp2
      go_ret2
      exact ⟨_, rfl, opsAt_of_row hrow, hbw, newSl_of_row hrow⟩
theorem codeOf_any (s : ByteArray) (hm : s.size ≤ 140737488351232) (w : World) :
    Calls Try.prog 13 #[.string s] w fun e w' => ∃ v, e = .returned (.tuple #[v, .int .i64 (dec (items s.size s.data.toList) []).2]) ∧ OpsAt w' v (dec (items s.size s.data.toList) []).1 ∧ Below w.heap.size w w' :=
  (codeOf_new s hm w).mono fun _ _ ⟨v, h1, h2, h3, _⟩ => ⟨v, h1, h2, h3⟩
end Go.Proofs.Ytenaionchlnpoaa

