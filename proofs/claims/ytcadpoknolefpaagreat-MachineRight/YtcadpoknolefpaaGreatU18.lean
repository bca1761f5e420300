/- My texts Bi Ra Xe, joined. -/
import Derived.Test.YtcadpoknolefpaaGreatU8
import Derived.Test.YtcadpoknolefpaaGreatU9
import Derived.Test.YtcadpoknolefpaaGreatU12
import Derived.Test.YtcadpoknolefpaaGreatU15
import Derived.Test.YtcadpoknolefpaaGreatU16
import Derived.Test.YtcadpoknolefpaaGreatU17
/- The reference's KeepOf. -/
namespace Go.Proofs.YtcadpoknolefpaaGreat
open Go.RowKit
set_option linter.unusedSimpArgs false
set_option linter.unusedVariables false
/-- what stands beside a ref behind i rounds. -/
def thenI (refs : List Int) (i : Nat) (r : Int) : Int := if 1 ≤ r ∧ r ≤ (i : Int) then thenOf refs r else 0
def rowI (refs : List Int) (i k : Nat) : List Int := (refs.take k).map (thenI refs (i + 1)) ++ (refs.drop k).map (thenI refs i)
theorem rowI_length (refs : List Int) (i k : Nat) (hk : k ≤ refs.length) : (rowI refs i k).length = refs.length := by simp [rowI]; omega
theorem rowI_end (refs : List Int) (i : Nat) : rowI refs i refs.length = rowI refs (i + 1) 0 := by simp [rowI]
theorem rowI_start (refs : List Int) : rowI refs 0 0 = List.replicate refs.length 0 := by
  have h : ∀ r ∈ refs, thenI refs 0 r = 0 := fun r _ => by unfold thenI; rw [if_neg (by omega)]
  simp only [rowI, List.take_zero, List.map_nil, List.nil_append, List.drop_zero]
  rw [List.map_congr_left h]
  exact List.map_const'
theorem rowI_same {refs : List Int} {i k : Nat} {r : Int} (hr : refs[k]? = some r) (hne : ¬ r = (i : Int) + 1) : rowI refs i k = rowI refs i (k + 1) := by
  have hk := lt_of_at hr
  have hd : refs.drop k = r :: refs.drop (k + 1) := by
    rw [List.drop_eq_getElem_cons hk]; congr 1; exact (List.getElem?_eq_some_iff.1 hr).2
  have he : thenI refs i r = thenI refs (i + 1) r := by
    unfold thenI
    by_cases hc : 1 ≤ r ∧ r ≤ (i : Int)
    · rw [if_pos hc, if_pos (by omega)]
    · rw [if_neg hc, if_neg (by omega)]
  unfold rowI
  rw [hd, take_snoc refs k r hr, List.map_append, List.map_cons, he, List.append_assoc]
  rfl
theorem rowI_set {refs : List Int} {i k : Nat} (hr : refs[k]? = some ((i : Int) + 1)) : (rowI refs i k).set k ((stays refs i).length + 1 : Int) = rowI refs i (k + 1) := by
  have hk := lt_of_at hr
  have hd : refs.drop k = ((i : Int) + 1) :: refs.drop (k + 1) := by
    rw [List.drop_eq_getElem_cons hk]; congr 1; exact (List.getElem?_eq_some_iff.1 hr).2
  have he : thenI refs (i + 1) ((i : Int) + 1) = ((stays refs i).length + 1 : Int) := by
    unfold thenI thenOf
    rw [if_pos (by omega), show ((i : Int) + 1).toNat = i + 1 by omega, stays_true (List.mem_of_getElem? hr), List.length_append, List.length_singleton]
    omega
  have hl : ((refs.take k).map (thenI refs (i + 1))).length = k := by simp; omega
  unfold rowI
  rw [hd, take_snoc refs k _ hr, List.map_append, List.map_cons]
  conv => lhs; rw [List.set_append_right _ _ (by omega), hl, Nat.sub_self, List.set_cons_zero]
  rw [List.append_assoc, List.map_cons, List.map_nil, he]
  rfl
theorem rowI_all {L : List (List Int)} {refs : List Int} (h : ∀ r ∈ refs, 0 ≤ r ∧ r ≤ (L.length : Int)) : rowI refs L.length 0 = refs.map (thenOf refs) := by
  simp only [rowI, List.take_zero, List.map_nil, List.nil_append, List.drop_zero]
  apply List.map_congr_left
  intro r hr
  obtain ⟨h1, h2⟩ := h r hr
  unfold thenI
  by_cases h0 : r = 0
  · subst h0; rfl
  · rw [if_pos (by omega)]
theorem mem_take_succ {refs : List Int} {k : Nat} {r x : Int} (hr : refs[k]? = some r) : decide (x ∈ refs.take (k + 1)) = (decide (x ∈ refs.take k) || decide (r = x)) := by
  rw [take_snoc refs k r hr, Bool.eq_iff_iff]
  simp only [decide_eq_true_eq, Bool.or_eq_true, List.mem_append, List.mem_singleton]
  constructor
  · rintro (h | h)
    · exact .inl h
    · exact .inr h.symm
  · rintro (h | h)
    · exact .inl h
    · exact .inr h.symm
end Go.Proofs.YtcadpoknolefpaaGreat
/- The reference's plainOf, typesOf, DoesStand. -/
namespace Go.Proofs.YtcadpoknolefpaaGreat
open Go.RowKit
set_option linter.unusedSimpArgs false
set_option linter.unusedVariables false
set_option maxHeartbeats 1000000 in
theorem standR_any (a b : Int) (w : World) : Calls Tryz.prog 134 #[.int .i64 a, .int .i64 b] w fun e w' => e = .returned (.bool (standsB a b)) ∧ w' = w := by
  by_cases h : a = b
  · subst h
    have h' : (a == a) = true := by simp
    go_enter Tryz.func134, Tryz.ntmps134
    go_wp2
    go_ret
    exact ⟨by simp [standsB], rfl⟩
  · have h' : (a == b) = false := by simp [h]
    by_cases h3 : a = 3
    · subst h3
      by_cases h2 : b = 2
      · subst h2
        go_enter Tryz.func134, Tryz.ntmps134
        go_wp2
        go_ret
        exact ⟨by simp [standsB], rfl⟩
      · have h2' : (b == 2) = false := by simp [h2]
        have hs : standsB 3 b = false := by simp [standsB, h, h2]
        rw [hs]
        clear h h2 hs
        go_enter Tryz.func134, Tryz.ntmps134
        go_wp2
        go_ret
        exact ⟨rfl, rfl⟩
    · have h3' : (a == 3) = false := by simp [h3]
      have hs : standsB a b = false := by simp [standsB, h, h3]
      rw [hs]
      clear h h3 hs
      go_enter Tryz.func134, Tryz.ntmps134
      go_wp2
      go_ret
      exact ⟨rfl, rfl⟩
/-- a letter's type; 0: the local's. -/
def letT (b : UInt8) : Int := if b = 105 then 1 else if b = 114 then 2 else if b = 110 then 3 else 0
def isLet (b : UInt8) : Prop := b = 105 ∨ b = 114 ∨ b = 110 ∨ b = 108
def Letters (A : ByteArray) (l : List Int) : Prop := A.data.toList.map letT = l ∧ (∀ b ∈ A.data.toList, isLet b) ∧ A.size ≤ 3
theorem letters_lit {a : Array UInt8} {l : List Int} (h : a.toList.map letT = l) (h2 : ∀ b ∈ a.toList, b = 105 ∨ b = 114 ∨ b = 110 ∨ b = 108) (h3 : a.size ≤ 3) : Letters ⟨a⟩ l := ⟨h, h2, h3⟩
set_option maxHeartbeats 2000000 in
theorem plainOf_any (c : Int) (w : World) : Calls Tryz.prog 132 #[.int .i64 c] w fun e w' => ∃ A B, e = .returned (.tuple #[.string A, .string B]) ∧ Letters A (plainTL c).1 ∧ Letters B (plainTL c).2 ∧ w' = w := by
  by_cases k1 : c = 1
  · subst k1
    go_enter Tryz.func132, Tryz.ntmps132
    go_wp2
    go_ret2
    exact ⟨_, _, rfl, letters_lit (by decide) (by decide) (by decide), letters_lit (by decide) (by decide) (by decide), rfl⟩
  have n1 : (c == 1) = false := by simp [k1]
  by_cases k21 : c = 21
  · subst k21
    go_enter Tryz.func132, Tryz.ntmps132
    go_wp2
    go_ret2
    exact ⟨_, _, rfl, letters_lit (by decide) (by decide) (by decide), letters_lit (by decide) (by decide) (by decide), rfl⟩
  have n21 : (c == 21) = false := by simp [k21]
  by_cases k5 : c = 5
  · subst k5
    go_enter Tryz.func132, Tryz.ntmps132
    go_wp2
    go_ret2
    exact ⟨_, _, rfl, letters_lit (by decide) (by decide) (by decide), letters_lit (by decide) (by decide) (by decide), rfl⟩
  have n5 : (c == 5) = false := by simp [k5]
  by_cases k6 : c = 6
  · subst k6
    go_enter Tryz.func132, Tryz.ntmps132
    go_wp2
    go_ret2
    exact ⟨_, _, rfl, letters_lit (by decide) (by decide) (by decide), letters_lit (by decide) (by decide) (by decide), rfl⟩
  have n6 : (c == 6) = false := by simp [k6]
  by_cases k7 : c = 7
  · subst k7
    go_enter Tryz.func132, Tryz.ntmps132
    go_wp2
    go_ret2
    exact ⟨_, _, rfl, letters_lit (by decide) (by decide) (by decide), letters_lit (by decide) (by decide) (by decide), rfl⟩
  have n7 : (c == 7) = false := by simp [k7]
  by_cases k8 : c = 8
  · subst k8
    go_enter Tryz.func132, Tryz.ntmps132
    go_wp2
    go_ret2
    exact ⟨_, _, rfl, letters_lit (by decide) (by decide) (by decide), letters_lit (by decide) (by decide) (by decide), rfl⟩
  have n8 : (c == 8) = false := by simp [k8]
  by_cases k9 : c = 9
  · subst k9
    go_enter Tryz.func132, Tryz.ntmps132
    go_wp2
    go_ret2
    exact ⟨_, _, rfl, letters_lit (by decide) (by decide) (by decide), letters_lit (by decide) (by decide) (by decide), rfl⟩
  have n9 : (c == 9) = false := by simp [k9]
  by_cases k11 : c = 11
  · subst k11
    go_enter Tryz.func132, Tryz.ntmps132
    go_wp2
    go_ret2
    exact ⟨_, _, rfl, letters_lit (by decide) (by decide) (by decide), letters_lit (by decide) (by decide) (by decide), rfl⟩
  have n11 : (c == 11) = false := by simp [k11]
  by_cases k20 : c = 20
  · subst k20
    go_enter Tryz.func132, Tryz.ntmps132
    go_wp2
    go_ret2
    exact ⟨_, _, rfl, letters_lit (by decide) (by decide) (by decide), letters_lit (by decide) (by decide) (by decide), rfl⟩
  have n20 : (c == 20) = false := by simp [k20]
  by_cases k14 : c = 14
  · subst k14
    go_enter Tryz.func132, Tryz.ntmps132
    go_wp2
    go_ret2
    exact ⟨_, _, rfl, letters_lit (by decide) (by decide) (by decide), letters_lit (by decide) (by decide) (by decide), rfl⟩
  have n14 : (c == 14) = false := by simp [k14]
  by_cases k15 : c = 15
  · subst k15
    go_enter Tryz.func132, Tryz.ntmps132
    go_wp2
    go_ret2
    exact ⟨_, _, rfl, letters_lit (by decide) (by decide) (by decide), letters_lit (by decide) (by decide) (by decide), rfl⟩
  have n15 : (c == 15) = false := by simp [k15]
  by_cases k16 : c = 16
  · subst k16
    go_enter Tryz.func132, Tryz.ntmps132
    go_wp2
    go_ret2
    exact ⟨_, _, rfl, letters_lit (by decide) (by decide) (by decide), letters_lit (by decide) (by decide) (by decide), rfl⟩
  have n16 : (c == 16) = false := by simp [k16]
  by_cases k17 : c = 17
  · subst k17
    go_enter Tryz.func132, Tryz.ntmps132
    go_wp2
    go_ret2
    exact ⟨_, _, rfl, letters_lit (by decide) (by decide) (by decide), letters_lit (by decide) (by decide) (by decide), rfl⟩
  have n17 : (c == 17) = false := by simp [k17]
  by_cases k19 : c = 19
  · subst k19
    go_enter Tryz.func132, Tryz.ntmps132
    go_wp2
    go_ret2
    exact ⟨_, _, rfl, letters_lit (by decide) (by decide) (by decide), letters_lit (by decide) (by decide) (by decide), rfl⟩
  have n19 : (c == 19) = false := by simp [k19]
  by_cases k18 : c = 18
  · subst k18
    go_enter Tryz.func132, Tryz.ntmps132
    go_wp2
    go_ret2
    exact ⟨_, _, rfl, letters_lit (by decide) (by decide) (by decide), letters_lit (by decide) (by decide) (by decide), rfl⟩
  have n18 : (c == 18) = false := by simp [k18]
  have hp : plainTL c = ([], []) := by simp [plainTL, k1, k21, k5, k6, k7, k8, k9, k11, k20, k14, k15, k16, k17, k19, k18]
  rw [hp]
  clear k1 k21 k5 k6 k7 k8 k9 k11 k20 k14 k15 k16 k17 k19 k18 hp
  go_enter Tryz.func132, Tryz.ntmps132
  go_wp2
  go_ret2
  exact ⟨_, _, rfl, letters_lit (by decide) (by decide) (by decide), letters_lit (by decide) (by decide) (by decide), rfl⟩
set_option maxRecDepth 100000 in
set_option maxHeartbeats 2000000 in
theorem typesOf_any (A : ByteArray) (l : List Int) (t : Int) (w : World) (hA : Letters A l) : Calls Tryz.prog 133 #[.string A, .int .i64 t] w fun e w' => ∃ u, e = .returned u ∧ w'.ownsRow w.heap.size 3 1 u (withLocal t l).length ((withLocal t l).map (Value.int .i64)) ∧ Below w.heap.size w w' := by
  obtain ⟨i0, hi, hz0, hz1, hz2⟩ := info_parts infoInt
  obtain ⟨rfl, hlet, h3⟩ := hA
  have HLET := hideP hlet
  clear hlet
  go_enter Tryz.func133, Tryz.ntmps133
  go_wp2
  go_loopw [5, 6] (fun v5 v6 wr => ∃ k : Nat, k ≤ A.size ∧ v6 = .int .i64 k ∧ wr.ownsRow w.heap.size 3 1 v5 k ((withLocal t ((A.data.toList.take k).map letT)).map (Value.int .i64)) ∧ Below w.heap.size w wr) (fun _ v6 _ => A.size - (intOf v6).toNat)
  case atStart => exact ⟨0, Nat.zero_le _, rfl, World.ownsRow_nil _ _ _ _, Below.refl _ _⟩
  case round =>
    rename World => w1
    obtain ⟨k, hk, rfl, hrow, b1⟩ := hrel
    obtain ⟨p5, c5, hv5⟩ := row_shp hrow
    subst hv5
    have s1 := b1.size
    by_cases hlt : k < A.size
    · have hlti : (k : Int) < (A.size : Int) := by omega
      have hat : A.data.toList[k]? = some A[k] := by
        rw [List.getElem?_eq_some_iff]
        exact ⟨by simpa using hlt, rfl⟩
      have hl := HLET.out A[k] (List.mem_of_getElem? hat)
      have hsn : ∀ z : Int, letT A[k] = z → (withLocal t ((A.data.toList.take (k + 1)).map letT)).map (Value.int .i64) = (withLocal t ((A.data.toList.take k).map letT)).map (Value.int .i64) ++ [.int .i64 (if z = 0 then t else z)] := fun z hz => by
        rw [take_snoc _ k _ hat]
        simp [withLocal, hz]
      have HSN := hideP hsn
      clear hat hsn
      have hlk := hl
      rcases hl with hl | hl | hl | hl
      · have hbn : (A[k].toNat : Int) = 105 := by rw [hl]; rfl
        have hz := HSN.out 1 (by rw [hl]; decide)
        have HZ := hideP hz
        have HROW := hideP (hrow.alloc (.cells #[.int .i64 1] 3))
        clear hrow hz hl hlk
        go_wp2_with (at_builtin; refine wpList_append_own _ rfl _ _ 27 rfl w.heap.size 3 i0 (.int .i64 0) 1 8 Tryz.underlying27 hi hz0 hz1 hz2 rfl (by decide) _ _ _ rfl HROW.out ⟨w1.heap.size, 0, none⟩ 1 1 [.int .i64 1] rfl rfl (cell_one_at (by rw [cell_at' (World.alloc_heap_new w1 (.cells #[.int .i64 1] 3)) 0]; rfl)) (by simp [Value.oneCell']) (by unfold maxLen; omega) (by omega) (by simp; omega) ?_; intro v9 w9 hown9 hg9 _; have HO := hideP hown9; clear hown9)
        go_roundw
        case rel =>
          refine ⟨k + 1, by omega, by go_num, by rw [HZ.out]; exact HO.out, ?_⟩
          exact (b1.alloc s1 _).grown hg9 (by simp; omega) (fun j hj => (HROW.out.lt j hj).1)
        case measure => simp [intOf]; omega
      · have hbn : (A[k].toNat : Int) = 114 := by rw [hl]; rfl
        have hz := HSN.out 2 (by rw [hl]; decide)
        have HZ := hideP hz
        have HROW := hideP (hrow.alloc (.cells #[.int .i64 2] 3))
        clear hrow hz hl hlk
        go_wp2_with (at_builtin; refine wpList_append_own _ rfl _ _ 27 rfl w.heap.size 3 i0 (.int .i64 0) 1 8 Tryz.underlying27 hi hz0 hz1 hz2 rfl (by decide) _ _ _ rfl HROW.out ⟨w1.heap.size, 0, none⟩ 1 1 [.int .i64 2] rfl rfl (cell_one_at (by rw [cell_at' (World.alloc_heap_new w1 (.cells #[.int .i64 2] 3)) 0]; rfl)) (by simp [Value.oneCell']) (by unfold maxLen; omega) (by omega) (by simp; omega) ?_; intro v9 w9 hown9 hg9 _; have HO := hideP hown9; clear hown9)
        go_roundw
        case rel =>
          refine ⟨k + 1, by omega, by go_num, by rw [HZ.out]; exact HO.out, ?_⟩
          exact (b1.alloc s1 _).grown hg9 (by simp; omega) (fun j hj => (HROW.out.lt j hj).1)
        case measure => simp [intOf]; omega
      · have hbn : (A[k].toNat : Int) = 110 := by rw [hl]; rfl
        have hz := HSN.out 3 (by rw [hl]; decide)
        have HZ := hideP hz
        have HROW := hideP (hrow.alloc (.cells #[.int .i64 3] 3))
        clear hrow hz hl hlk
        go_wp2_with (at_builtin; refine wpList_append_own _ rfl _ _ 27 rfl w.heap.size 3 i0 (.int .i64 0) 1 8 Tryz.underlying27 hi hz0 hz1 hz2 rfl (by decide) _ _ _ rfl HROW.out ⟨w1.heap.size, 0, none⟩ 1 1 [.int .i64 3] rfl rfl (cell_one_at (by rw [cell_at' (World.alloc_heap_new w1 (.cells #[.int .i64 3] 3)) 0]; rfl)) (by simp [Value.oneCell']) (by unfold maxLen; omega) (by omega) (by simp; omega) ?_; intro v9 w9 hown9 hg9 _; have HO := hideP hown9; clear hown9)
        go_roundw
        case rel =>
          refine ⟨k + 1, by omega, by go_num, by rw [HZ.out]; exact HO.out, ?_⟩
          exact (b1.alloc s1 _).grown hg9 (by simp; omega) (fun j hj => (HROW.out.lt j hj).1)
        case measure => simp [intOf]; omega
      · have hbn : (A[k].toNat : Int) = 108 := by rw [hl]; rfl
        have hz := HSN.out 0 (by rw [hl]; decide)
        have HZ := hideP hz
        have HROW := hideP (hrow.alloc (.cells #[.int .i64 t] 3))
        clear hrow hz hl hlk
        go_wp2_with (at_builtin; refine wpList_append_own _ rfl _ _ 27 rfl w.heap.size 3 i0 (.int .i64 0) 1 8 Tryz.underlying27 hi hz0 hz1 hz2 rfl (by decide) _ _ _ rfl HROW.out ⟨w1.heap.size, 0, none⟩ 1 1 [.int .i64 t] rfl rfl (cell_one_at (by rw [cell_at' (World.alloc_heap_new w1 (.cells #[.int .i64 t] 3)) 0]; rfl)) (by simp [Value.oneCell']) (by unfold maxLen; omega) (by omega) (by simp; omega) ?_; intro v9 w9 hown9 hg9 _; have HO := hideP hown9; clear hown9)
        go_roundw
        case rel =>
          refine ⟨k + 1, by omega, by go_num, by rw [HZ.out]; exact HO.out, ?_⟩
          exact (b1.alloc s1 _).grown hg9 (by simp; omega) (fun j hj => (HROW.out.lt j hj).1)
        case measure => simp [intOf]; omega
    · have hlti : ¬ (k : Int) < (A.size : Int) := by omega
      have HROW := hideP hrow
      clear hrow
      go_wp2
      go_ret
      have h1 := HROW.out
      rw [List.take_of_length_le (by simp; omega)] at h1
      have hkl : k = (withLocal t (A.data.toList.map letT)).length := by simp [withLocal]; omega
      exact ⟨_, rfl, by rw [← hkl]; exact h1, b1⟩
end Go.Proofs.YtcadpoknolefpaaGreat
/- Programs that came in, whole: room, nil or not, lengths. -/
namespace Go.Proofs.YtcadpoknolefpaaGreat
open Go.ChangeShapes Go.WideShapes Go.ChangeAt Go.RowKit
set_option linter.unusedVariables false
set_option linter.unusedSimpArgs false
section
variable {H : Type} {enc : TypeId × Value → H} {W : World} {fuel : Nat} {x : DataW H × List MemPlace}
theorem bytes_op : Tryz.prog.bytesOf 43 = 16 := by kernel_rfl
theorem bytes_fn : Tryz.prog.bytesOf 78 = 64 := by kernel_rfl
theorem open_opsN {c : Value} (h : DataW.trod enc Tryz.prog W 0 (fun _ => true) true fuel 76 [c] = some x) (hs : ∀ n ∈ x.1.weights Tryz.prog 76, n ≤ reachBytes) : ∃ l : List (Int × Int), OpsAt W c l ∧ NilOk c ∧ l.length ≤ 8796093022208 := by
  rcases Deep.open_slice_pairs Tryz.underlying76 Tryz.underlying43 (by kernel_rfl) rfl rfl (by kernel_rfl) (by kernel_rfl) h with ⟨hcs, hx⟩ | ⟨a, len', cap', m, n, V0, V1, D0, D1, P0, P1, hcs, hb, hl, hm, hmm, hx, hc⟩
  · simp at hcs
    subst hcs
    exact ⟨[], ⟨none, 0, rfl, Nat.zero_le _, fun k o hk => by simp at hk⟩, nilOk_nil, by simp⟩
  · simp at hcs
    subst hcs
    simp only [if_true] at hmm
    subst hmm
    have hlen : len' ≤ 8796093022208 := by
      have hx1 := congrArg Prod.fst hx
      simp only at hx1
      rw [hx1] at hs
      simp only [DataW.weights, Tryz.underlying76] at hs
      have h1 := hs _ (List.mem_cons_self ..)
      rw [bytes_op] at h1
      simp [reachBytes] at h1
      omega
    refine ⟨(List.range len').map fun i => (intOf (V0 i), intOf (V1 i)), ⟨some a, m, by simp, by simp; omega, fun k o hk => ?_⟩, nilOk_some _ _ _, by simpa using hlen⟩
    have hk1 : k < len' := by have := lt_of_at' hk; simpa using this
    have ho : o = (intOf (V0 k), intOf (V1 k)) := by simp [hk1] at hk; exact hk.symm
    obtain ⟨c0, c1, t0, t1⟩ := hc k (by omega)
    obtain ⟨x, e0, _, wx⟩ := DataW.trod_int Tryz.underlying3 t0
    obtain ⟨y, e1, _, wy⟩ := DataW.trod_int Tryz.underlying3 t1
    simp at e0 e1
    obtain ⟨b, off, spot⟩ := a
    have hs0 := (hc 0 (by omega)).1
    have hspot : spot = none := by simpa [Addr.add] using World.cell?_spot hs0
    subst hspot
    rw [add_at] at c0 c1
    rw [e0] at c0
    rw [e1] at c1
    exact ⟨b, off, rfl, block_of_cell c0, by rw [ho, e0]; exact c0, by rw [ho, e1]; exact c1⟩
/-- a function's lists: nil or not, no longer than may be, the locals no longer than their room. -/
def FnFull (c1 c3 : Value) : Prop := NilOk c1 ∧ NilOk c3 ∧ (∃ p n cap, c1 = .slice p n cap ∧ n ≤ cap ∧ n ≤ 17592186044416) ∧ ∃ p n cap, c3 = .slice p n cap ∧ n ≤ 8796093022208
theorem open_fnN {c0 c1 c2 c3 : Value} (h : DataW.trod enc Tryz.prog W 0 (fun _ => true) true fuel 78 [c0, c1, c2, c3] = some x) (hs : ∀ n ∈ x.1.weights Tryz.prog 78, n ≤ reachBytes) : ∃ f : Fn, FnAt W c0 c1 c2 c3 f ∧ FnFull c1 c3 := by
  obtain ⟨y0, y1, y2, y3, n, hx, _, h0, h1, h2, h3⟩ := Go.Joins.trod_struct4 Tryz.underlying78 h
  simp [cells_int, cells_ints, cells_ops] at h0 h1 h2 h3
  have hx1 := congrArg Prod.fst hx
  simp only at hx1
  rw [hx1] at hs
  simp only [DataW.weights, Tryz.underlying78] at hs
  obtain ⟨P, e0, _⟩ := DataW.trod_int Tryz.underlying3 h0
  obtain ⟨R, e2, _⟩ := DataW.trod_int Tryz.underlying3 h2
  obtain ⟨L, hL, nL, zL, pL, qL, capL, eL, lL⟩ := open_intsN h1 (fun n hn => hs n (by simp [DataW.weightsEach, hn]))
  obtain ⟨C, hC, nC, zC⟩ := open_opsN h3 (fun n hn => hs n (by simp [DataW.weightsEach, hn]))
  simp at e0 e2
  have hLs : qL = L.length := by obtain ⟨_, _, e, _⟩ := hL; rw [eL] at e; cases e; rfl
  obtain ⟨pC, capC, eC, _, _⟩ := id hC
  exact ⟨(P, L, R, C), ⟨e0, hL, e2, hC⟩, nL, nC, ⟨pL, qL, capL, eL, lL, by rw [hLs]; exact zL⟩, ⟨pC, _, capC, eC, zC⟩⟩
/-- all of a program that came in. -/
structure ProgFull (W : World) (v : Value) (l : List Fn) : Prop where
  at_ : FnsAt W v l
  nil : NilOk v
  len : l.length ≤ 2199023255488
  each : ∀ (b off n cap k : Nat) (c1 c3 : Value), v = .slice (some ⟨b, off, none⟩) n cap → k < n → W.cell? ⟨b, off + k * 4 + 1, none⟩ = some c1 → W.cell? ⟨b, off + k * 4 + 3, none⟩ = some c3 → FnFull c1 c3
theorem ProgFull.cap {W : World} {v : Value} {l : List Fn} (h : ProgFull W v l) : CapAt W v := by
  intro b off n cap k p' n' c' hv hk hc
  obtain ⟨p, cap2, hv2, hm, hcc⟩ := h.at_
  rw [hv] at hv2
  cases hv2
  obtain ⟨f, hf⟩ := at_of_lt (l := l) hk
  obtain ⟨b2, off2, c0, c1, c2, c3, hp, hlt, _, _, _, g3, _⟩ := hcc k f hf
  cases hp
  obtain ⟨_, _, ⟨p1, n1, cap1, e1, h1, _⟩, _⟩ := h.each b off l.length cap k _ _ hv hk hc g3
  cases e1
  exact h1
theorem open_fnsD {c : Value} (h : DataW.trod enc Tryz.prog W 0 (fun _ => true) true fuel 22 [c] = some x) (hs : ∀ n ∈ x.1.weights Tryz.prog 22, n ≤ reachBytes) : ∃ l : List Fn, ProgFull W c l := by
  rcases Deep.open_slice Tryz.underlying22 h with ⟨hcs, hx⟩ | ⟨a, len', cap', m, n, D, Pl, hcs, hb, hl, hm, hmm, hx, hc⟩
  · simp at hcs
    subst hcs
    exact ⟨[], ⟨none, 0, rfl, Nat.zero_le _, fun k o hk => by simp at hk⟩, nilOk_nil, by simp, fun b off n cap k c1 c3 hv => by cases hv⟩
  · simp at hcs
    subst hcs
    simp only [if_true] at hmm
    subst hmm
    rw [hx] at hs
    simp only [DataW.weights, Tryz.underlying22] at hs
    have hlen : len' ≤ 2199023255488 := by
      have h1 := hs _ (List.mem_cons_self ..)
      rw [bytes_fn] at h1
      simp [reachBytes] at h1
      omega
    have each : ∀ i, i < len' → ∃ q : FnV × Fn, W.cell? (a.add (i * 4)) = some q.1.1 ∧ W.cell? (a.add (i * 4 + 1)) = some q.1.2.1 ∧ W.cell? (a.add (i * 4 + 2)) = some q.1.2.2.1 ∧ W.cell? (a.add (i * 4 + 3)) = some q.1.2.2.2 ∧ FnAt W q.1.1 q.1.2.1 q.1.2.2.1 q.1.2.2.2 q.2 ∧ FnFull q.1.2.1 q.1.2.2.2 := by
      intro i hi
      obtain ⟨cs', h1, h2⟩ := hc i (by omega)
      rw [cells_fn] at h1
      obtain ⟨_, hlen, hcell⟩ := World.cells?_some h1
      match cs', hlen with
      | [c0, c1, c2, c3], _ =>
        obtain ⟨f, hf, hff⟩ := open_fnN (x := (D i, Pl i)) h2 (fun n hn => hs n (List.mem_cons_of_mem _ (List.mem_append_left _ (weightsAll_mem (List.mem_map.2 ⟨i, List.mem_range.2 hi, rfl⟩) n hn))))
        have e0 := hcell 0 (by omega)
        have e1 := hcell 1 (by omega)
        have e2 := hcell 2 (by omega)
        have e3 := hcell 3 (by omega)
        rw [Deep.add_add] at e0 e1 e2 e3
        exact ⟨((c0, c1, c2, c3), f), by simpa using e0, by simpa using e1, by simpa using e2, by simpa using e3, hf, hff⟩
    obtain ⟨q, hq⟩ := Deep.choose_lt each
    obtain ⟨b, off, spot⟩ := a
    refine ⟨(List.range len').map fun i => (q i).2, ⟨some ⟨b, off, spot⟩, m, by simp, by simp; omega, fun k f hk => ?_⟩, nilOk_some _ _ _, by simpa using hlen, ?_⟩
    · have hk1 : k < len' := by have := lt_of_at' hk; simpa using this
      have ho : f = (q k).2 := by simp [hk1] at hk; exact hk.symm
      obtain ⟨c0, c1, c2, c3, hf, _⟩ := hq k hk1
      have hs0 := (hq 0 (by omega)).1
      have hspot : spot = none := by simpa [Addr.add] using World.cell?_spot hs0
      subst hspot
      rw [add_at] at c0 c1 c2 c3
      exact ⟨b, off, _, _, _, _, rfl, block_of_cell c0, c0, c1, c2, c3, by rw [ho]; exact hf⟩
    · intro b' off' n' cap' k c1 c3 hv hk g1 g3
      cases hv
      obtain ⟨_, d1, _, d3, _, hff⟩ := hq k hk
      rw [add_at] at d1 d3
      rw [show off + (k * 4 + 1) = off + k * 4 + 1 by omega, g1] at d1
      rw [show off + (k * 4 + 3) = off + k * 4 + 3 by omega, g3] at d3
      cases d1
      cases d3
      exact hff
set_option maxRecDepth 100000 in
theorem open_progC {base : Nat} {r : Reach} {v : Value} {d : DataW H} {p : List MemPlace} (hv : Value.okWide Tryz.prog W r base 24 v) (h : DataW.Trod enc Tryz.prog W 0 (fun _ => true) true 24 v d p) (hs : ∀ n ∈ d.weights Tryz.prog 24, n ≤ reachBytes) :
    ∃ (c : Value) (l : List Fn), v = .agg #[c] ∧ ProgFull W c l := by
  obtain ⟨cs, rfl, hsz⟩ := okWide_struct Tryz.underlying24 hv
  rw [cells_prog] at hsz
  obtain ⟨cs⟩ := cs
  match cs, hsz with
  | [c], _ =>
    obtain ⟨fuel, hf⟩ := h
    obtain ⟨y0, n, hx, _, h0⟩ := trod_struct1 Tryz.underlying24 hf
    simp [cells_fns, Value.cells] at h0
    have hx1 := congrArg Prod.fst hx
    simp only at hx1
    rw [hx1] at hs
    simp only [DataW.weights, Tryz.underlying24] at hs
    obtain ⟨l, hl⟩ := open_fnsD h0 (fun n hn => hs n (by simp [DataW.weightsEach, hn]))
    exact ⟨c, l, rfl, hl⟩
end
end Go.Proofs.YtcadpoknolefpaaGreat
