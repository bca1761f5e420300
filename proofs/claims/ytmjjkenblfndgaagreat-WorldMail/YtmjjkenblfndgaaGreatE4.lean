/- My texts Jb Jc Jd Fg Pb Ba Je Jf: what of them is needed, joined. -/
import Derived.Lib.SliceRun
import Derived.Test.YtmjjkenblfndgaaGreatE1
import Derived.Test.YtmjjkenblfndgaaGreatE2
import Derived.Test.YtmjjkenblfndgaaGreatE3
set_option maxRecDepth 100000
set_option maxHeartbeats 8000000
/- verify.Join. -/
namespace Go.Proofs.YtmjjkenblfndgaaGreat
open Go.RowKit
set_option linter.unusedSimpArgs false
set_option linter.unusedVariables false
def joinR (a b : List Int) : List Int := if xb1Z a b = 0 then (joinL a b).getD [] else []
theorem xidZ {a b : List Int} (h : (a.all xbbZ && b.all xbbZ) = false) : xb1Z a b = 6 := by
  unfold xb1Z
  rw [if_pos]
  rw [List.any_append, Bool.or_eq_true]
  rcases Bool.and_eq_false_iff.1 h with h | h
  · left; rw [← List.not_all_eq_any_not, h]; rfl
  · right; rw [← List.not_all_eq_any_not, h]; rfl
theorem xieZ {a b : List Int} (ha : a.all xbbZ = true) (hb : b.all xbbZ = true) (h : 8 < a.length ∨ 8 < b.length) : xb1Z a b = 2 := by
  unfold xb1Z
  rw [if_neg (by rw [List.any_append, ← List.not_all_eq_any_not, ← List.not_all_eq_any_not, ha, hb]; decide), if_pos h]
theorem xifZ {a b : List Int} (ha : a.all xbbZ = true) (hb : b.all xbbZ = true) (h1 : a.length ≤ 8) (h2 : b.length ≤ 8) : xb1Z a b = if (joinL a b).isNone = true then 4 else 0 := by
  unfold xb1Z
  rw [if_neg (by rw [List.any_append, ← List.not_all_eq_any_not, ← List.not_all_eq_any_not, ha, hb]; decide), if_neg (by omega)]
theorem joinL_lens {a b : List Int} (h : a.length ≠ b.length) : joinL a b = none := by
  cases e : joinL a b with
  | none => rfl
  | some l => exact absurd (xgcZ _ _ _ e).2 h
theorem xohZ {w : World} {R n : Nat} {J : List Int} (h : w.heap[R]? = some (.cells (J.map (Value.int .i64)).toArray 3 (0, 0))) (hn : J.length = n) (hm : n ≤ maxLen := by unfold maxLen; omega) : IntsAt w (.slice (some ⟨R, 0, none⟩) n n) J := by
  subst hn
  refine ⟨_, _, rfl, hm, fun k z hk => ⟨R, 0, rfl, xacZ h, ?_⟩⟩
  rw [xaaZ h]
  simp [hk]
theorem vJoin_any (a b : List Int) (v u : Value) (w : World) (ha : IntsAt w v a) (hb : IntsAt w u b) : Calls Tryz.prog 157 #[v, u] w fun e w' => ∃ x, e = .returned (.tuple #[x, .int .i64 (xb1Z a b)]) ∧ w'.ownsRow w.heap.size 3 1 x (joinR a b).length ((joinR a b).map (Value.int .i64)) ∧ Below w.heap.size w w' := by
  have ha' := ha
  have hb' := hb
  obtain ⟨pa, ca, rfl, hma, hca⟩ := ha'
  obtain ⟨pb, cb, rfl, hmb, hcb⟩ := hb'
  unfold maxLen at hma hmb
  have HCA := hideP hca
  have HCB := hideP hcb
  have HA := hideP ha
  have HB := hideP hb
  clear hca hcb ha hb
  cases ka : a.all xbbZ
  · have he : xb1Z a b = 6 := xidZ (by rw [ka]; rfl)
    have hr : joinR a b = [] := by rw [joinR, if_neg (by rw [he]; decide)]
    rw [he, hr]
    clear he hr
    go_enter Tryz.func157, Tryz.ntmps157
    go_wp2_with fail
    refine (xcgZ a _ _ HA.out).mono ?_
    rw [ka]
    rintro e w1 ⟨rfl, hw⟩
    have hw := hw.symm
    subst hw
    go_wp2
    go_ret2
    exact ⟨_, rfl, World.ownsRow_nil _ _ _ _, Below.refl _ _⟩
  · cases kb : b.all xbbZ
    · have he : xb1Z a b = 6 := xidZ (by rw [ka, kb]; rfl)
      have hr : joinR a b = [] := by rw [joinR, if_neg (by rw [he]; decide)]
      rw [he, hr]
      clear he hr
      go_enter Tryz.func157, Tryz.ntmps157
      go_wp2_with fail
      refine (xcgZ a _ _ HA.out).mono ?_
      rw [ka]
      rintro e w1 ⟨rfl, hw⟩
      have hw := hw.symm
      subst hw
      go_wp2_with fail
      refine (xcgZ b _ _ HB.out).mono ?_
      rw [kb]
      rintro e w1 ⟨rfl, hw⟩
      have hw := hw.symm
      subst hw
      go_wp2
      go_ret2
      exact ⟨_, rfl, World.ownsRow_nil _ _ _ _, Below.refl _ _⟩
    · go_enter Tryz.func157, Tryz.ntmps157
      go_wp2_with fail
      refine (xcgZ a _ _ HA.out).mono ?_
      rw [ka]
      rintro e w1 ⟨rfl, hw⟩
      have hw := hw.symm
      subst hw
      go_wp2_with fail
      refine (xcgZ b _ _ HB.out).mono ?_
      rw [kb]
      rintro e w1 ⟨rfl, hw⟩
      have hw := hw.symm
      subst hw
      by_cases la : 8 < a.length
      · have he : xb1Z a b = 2 := xieZ ka kb (.inl la)
        have hr : joinR a b = [] := by rw [joinR, if_neg (by rw [he]; decide)]
        have HE := hideP he
        have HR := hideP hr
        have la' : (a.length : Int) > 8 := by omega
        clear he hr ka kb
        go_wp2
        go_ret2
        rw [HE.out, HR.out]
        exact ⟨_, rfl, World.ownsRow_nil _ _ _ _, Below.refl _ _⟩
      · have la' : ¬ (a.length : Int) > 8 := by omega
        by_cases lb : 8 < b.length
        · have he : xb1Z a b = 2 := xieZ ka kb (.inr lb)
          have hr : joinR a b = [] := by rw [joinR, if_neg (by rw [he]; decide)]
          have HE := hideP he
          have HR := hideP hr
          have lb' : (b.length : Int) > 8 := by omega
          clear he hr ka kb
          go_wp2
          go_ret2
          rw [HE.out, HR.out]
          exact ⟨_, rfl, World.ownsRow_nil _ _ _ _, Below.refl _ _⟩
        · have lb' : ¬ (b.length : Int) > 8 := by omega
          have hrest := xifZ ka kb (by omega) (by omega)
          by_cases hl : a.length = b.length
          · rw [← hl]
            have hz := jt_zero hl (List.all_eq_true.1 ka) (List.all_eq_true.1 kb)
            have hjl : (List.zipWith jt a b).length = a.length := by simp; omega
            have hjt := fun l (h : joinL a b = some l) => jt_list h
            obtain ⟨J, hJ⟩ : ∃ J, List.zipWith jt a b = J := ⟨_, rfl⟩
            have hJk : ∀ (k : Nat) (x y : Int), a[k]? = some x → b[k]? = some y → J[k]? = some (jt x y) := by
              intro k x y h1 h2
              rw [← hJ, List.getElem?_zipWith, h1, h2]
            rw [hJ] at hz hjl hjt
            have HJK := hideP hJk
            have HZ := hideP hz
            have HJT := hideP hjt
            have HRE := hideP hrest
            have HLL := hideP hl
            obtain ⟨i0, hi, hz0, hz1, hz2⟩ := info_parts xe9Z
            have hla2 : a.length ≤ 8 := by omega
            have HBL := hideP hl.symm
            clear hz hjt hrest ka kb hJk hJ hl lb lb' hmb
            go_wp2_with (at_make; go_must (refine wpList_make_full _ rfl _ _ 46 rfl w.heap.size 3 i0 (.int .i64 0) 1 Tryz.underlying46 hi hz0 hz1 _ _ _ _ a.length rfl rfl (by omega) (by omega) (by rw [hz2]; omega) (by unfold maxLen; omega) (Nat.le_refl _) ?_; intro w2 hown2 hg2; rw [xmcZ] at hown2; have Q2 := hideP (xj0Z hown2 (by simp)); clear hown2))
            have hB2 : Below w.heap.size w w2 := (Below.refl w.heap.size w).grown hg2 (Nat.le_refl _) (fun k hk => by cases hk)
            go_loopw [8, 38] (fun _ i wr => ∃ k : Nat, k ≤ a.length ∧ i = .int .i64 k ∧ wr.heap[w.heap.size]? = some (.cells ((upTo J k).map (Value.int .i64)).toArray 3 (0, 0)) ∧ Below w.heap.size w wr) (fun _ i _ => a.length - (intOf i).toNat)
            case atStart =>
              refine ⟨0, Nat.zero_le _, rfl, ?_, hB2⟩
              rw [upTo_none, hjl]
              exact Q2.out
            case round =>
              rename World => w3
              obtain ⟨k, hk, rfl, hq3, hB3⟩ := hrel
              by_cases hlt : k < a.length
              · have hlti : (k : Int) < (a.length : Int) := by omega
                obtain ⟨x, hx⟩ := xagZ hlt
                obtain ⟨y, hy⟩ := xagZ (show k < b.length by rw [HBL.out]; omega)
                obtain ⟨b1, o1, hp1, hb1, g1⟩ := HCA.out k x hx
                obtain ⟨b2, o2, hp2, hb2, g2⟩ := HCB.out k y hy
                subst hp1 hp2
                have d1 := (hB3.cell (p := ⟨b1, o1 + k, none⟩) hb1).trans g1
                have d2 := (hB3.cell (p := ⟨b2, o2 + k, none⟩) hb2).trans g2
                have z3 := Lib.frozen_of_heap hq3 k
                have hu : (upTo J k).length = J.length := by simp [upTo]; omega
                have d3 : ∃ v3, w3.cell? ⟨w.heap.size, k, none⟩ = some v3 := by
                  rw [xaaZ hq3]
                  refine ⟨_, Array.getElem?_eq_getElem (by simp; omega)⟩
                obtain ⟨v3, d3⟩ := d3
                have hset := upTo_set (HJK.out k x y hx hy)
                have HSET := hideP hset
                have Q3 := hideP hq3
                clear g1 g2 hx hy hset hq3 hu
                go_wp2
                go_region_law (go_simp; go_at_call 206; refine (xokZ x y _).mono ?_; rintro e w4 ⟨rfl, hw4⟩; have hw4 := hw4.symm; subst hw4)
                all_goals
                  go_wp2
                  go_roundw
                  case rel =>
                    refine ⟨k + 1, by omega, by go_num, ?_, ?_⟩
                    · have := heap_setCell_same w3 w.heap.size k _ _ (.int .i64 (jt x y)) Q3.out
                      rw [set_ints, HSET.out] at this
                      exact this
                    · first
                      | exact (hB3.setCell (p := ⟨w.heap.size, k, none⟩) (Nat.le_refl _) _).drew
                      | exact hB3.setCell (p := ⟨w.heap.size, k, none⟩) (Nat.le_refl _) _
                  case measure => simp [intOf]; omega
              · have hlti : ¬ (k : Int) < (a.length : Int) := by omega
                obtain rfl : k = a.length := by omega
                rw [← hjl, upTo_all] at hq3
                have hI3 : IntsAt w3 (.slice (some ⟨w.heap.size, 0, none⟩) a.length a.length) J := xohZ hq3 hjl
                have Q3 := hideP hq3
                clear hq3
                by_cases h0 : (0 : Int) ∈ J
                · have hjn := HZ.out.1 h0
                  have he : xb1Z a b = 4 := by rw [HRE.out, hjn]; rfl
                  have hr : joinR a b = [] := by rw [joinR, if_neg (by rw [he]; decide)]
                  have HE := hideP he
                  have HR := hideP hr
                  have HD := hideP (decide_eq_true h0)
                  clear he hr hjn h0
                  go_wp2_with fail
                  refine (xgmZ J 0 _ _ hI3).mono ?_
                  rw [HD.out]
                  rintro e w4 ⟨rfl, hw4⟩
                  have hw4 := hw4.symm
                  subst hw4
                  go_wp2
                  go_ret2
                  rw [HE.out, HR.out]
                  exact ⟨_, rfl, World.ownsRow_nil _ _ _ _, hB3⟩
                · have hjs : ∃ l, joinL a b = some l := by
                    cases e : joinL a b with
                    | none => exact absurd (HZ.out.2 e) h0
                    | some l => exact ⟨l, rfl⟩
                  obtain ⟨l, hjs⟩ := hjs
                  have he : xb1Z a b = 0 := by rw [HRE.out, hjs]; rfl
                  have hr : joinR a b = J := by rw [joinR, if_pos he, hjs, HJT.out l hjs]; rfl
                  have HE := hideP he
                  have HR := hideP hr
                  have HD := hideP (decide_eq_false h0)
                  clear he hr hjs h0
                  go_wp2_with fail
                  refine (xgmZ J 0 _ _ hI3).mono ?_
                  rw [HD.out]
                  rintro e w4 ⟨rfl, hw4⟩
                  have hw4 := hw4.symm
                  subst hw4
                  go_wp2
                  go_ret2
                  rw [HE.out, HR.out]
                  refine ⟨_, rfl, ?_, hB3⟩
                  refine ⟨by simp, .inr ⟨w.heap.size, a.length, _, ?_, Nat.le_refl _, Q3.out, by omega, by unfold maxLen; omega, by simp [hjl], by rw [Nat.mul_one]; exact List.take_of_length_le (by simp)⟩⟩
                  rw [hjl]
                  rfl
          · have he : xb1Z a b = 4 := by rw [hrest, joinL_lens hl]; rfl
            have hr : joinR a b = [] := by rw [joinR, if_neg (by rw [he]; decide)]
            have HE := hideP he
            have HR := hideP hr
            have hl' : ((a.length : Int) != (b.length : Int)) = true := by simp; omega
            clear he hr ka kb hrest hl
            go_wp2
            go_ret2
            rw [HE.out, HR.out]
            exact ⟨_, rfl, World.ownsRow_nil _ _ _ _, Below.refl _ _⟩
end Go.Proofs.YtmjjkenblfndgaaGreat


/- verify's stack: pop, leave, result. -/
namespace Go.Proofs.YtmjjkenblfndgaaGreat
open Go.RowKit
set_option linter.unusedSimpArgs false
set_option linter.unusedVariables false
def StAt (W : World) (b B : Nat) (l : List Int) (wr : Bool) : Prop := ∃ v, W.heap[b]? = some (.cells #[v, .bool wr] 227 (0, 0)) ∧ W.ownsRow B 3 1 v l.length (l.map (Value.int .i64))
theorem StAt.lt {W : World} {b B : Nat} {l : List Int} {wr : Bool} (h : StAt W b B l wr) : b < W.heap.size := by
  obtain ⟨v, h, _⟩ := h
  exact xacZ h
theorem StAt.kept {W W' : World} {b B : Nat} {l : List Int} {wr : Bool} (h : StAt W b B l wr) (hb : Below W.heap.size W W') : StAt W' b B l wr := by
  obtain ⟨v, h1, h2⟩ := h
  exact ⟨v, (hb.block _ (xacZ h1)).trans h1, xaoZ h2 fun j hj => hb.block j (h2.lt j hj).2⟩
theorem xh2Z {W : World} {b B : Nat} {v v' : Value} {wr : Bool} {n : Nat} {xs : List Value} (h : W.heap[b]? = some (.cells #[v, .bool wr] 227 (0, 0))) (hr : W.ownsRow B 3 1 v' n xs) : v'.ownBlock ≠ some b := (xboZ hr h (by decide)).symm
theorem StAt.set {W : World} {b B : Nat} {v v' : Value} {wr wr' : Bool} {l : List Int} (h : W.heap[b]? = some (.cells #[v, .bool wr] 227 (0, 0))) {W' : World} (hW : W'.heap[b]? = some (.cells #[v', .bool wr'] 227 (0, 0))) (hr : W.ownsRow B 3 1 v' l.length (l.map (Value.int .i64))) (hg : W.grownBy W' (some b)) : StAt W' b B l wr' :=
  ⟨v', hW, hr.kept hg (.inr (xh2Z h hr))⟩
def topP (l : List Int) : Int := l.getLast?.getD 0
theorem pop_any (l : List Int) (wr : Bool) (b B : Nat) (w : World) (h : StAt w b B l wr) (hl : l.length ≤ 100) : Calls Tryz.prog 231 #[.pointer (some ⟨b, 0, none⟩)] w fun e w' => e = .returned (.int .i64 (topP l)) ∧ StAt w' b B l.dropLast (wr || l.isEmpty) ∧ w.grownBy w' (some b) := by
  obtain ⟨v, h1, h2⟩ := h
  have c0 := xaaZ h1 0
  have c1 := xaaZ h1 1
  have z0 := Lib.frozen_of_heap h1 0
  have z1 := Lib.frozen_of_heap h1 1
  simp at c0 c1
  have H1 := hideP h1
  have H2 := hideP h2
  rcases List.eq_nil_or_concat l with rfl | ⟨r, x, hlx⟩
  · obtain ⟨p, c, rfl⟩ := xaiZ h2
    clear h1 h2
    simp only [List.length_nil] at c0
    go_enter Tryz.func231, Tryz.ntmps231
    go_wp2
    go_ret
    refine ⟨rfl, ?_, xakZ _ _ _⟩
    have := heap_setCell_same w b 1 _ _ (.bool true) H1.out
    exact StAt.set (l := []) H1.out (by simpa using this) H2.out (xakZ _ _ _)
  · rw [List.concat_eq_append] at hlx
    subst hlx
    have hlen : (r ++ [x]).length = r.length + 1 := by simp
    rw [hlen] at h2
    rcases h2.2 with ⟨_, h0⟩ | ⟨g, cap, cur, rfl, hBg, hg, hn, hm, hs, ht⟩
    · omega
    · have hcell : w.cell? ⟨g, r.length, none⟩ = some (.int .i64 x) := by
        rw [xaaZ hg]
        have : (cur.toList.take ((r.length + 1) * 1))[r.length]? = some (.int .i64 x) := by rw [ht]; simp
        rw [List.getElem?_take_of_lt (by omega)] at this
        simpa using this
      have hrow' : w.ownsRow B 3 1 (.slice (some ⟨g, 0, none⟩) r.length cap) r.length (r.map (Value.int .i64)) := by
        refine ⟨by simp, .inr ⟨g, cap, cur, rfl, hBg, hg, by omega, hm, hs, ?_⟩⟩
        have h3 : (cur.toList.take ((r.length + 1) * 1)).take (r.length * 1) = r.map (Value.int .i64) := by
          rw [ht, List.map_append, List.take_append_of_le_length (by simp)]
          exact List.take_of_length_le (by simp)
        rw [List.take_take, Nat.min_eq_left (by omega)] at h3
        exact h3
      have HR := hideP hrow'
      have hwm : (r.length : Int) + 1 - 1 = (r.length : Int) := by omega
      have hnn : ¬ (r.length : Int) < 0 := by omega
      have hcap : r.length ≤ cap := by omega
      have e1 : topP (r ++ [x]) = x := by simp [topP]
      have e2 : (r ++ [x]).dropLast = r := by simp
      have e3 : (wr || (r ++ [x]).isEmpty) = wr := by simp
      rw [e1, e2, e3]
      have hrl : r.length ≤ 100 := by omega
      unfold maxLen at hm
      clear h1 h2 hlen hrow' hg hs ht e1 e2 e3 hl
      go_enter Tryz.func231, Tryz.ntmps231
      go_wp2
      go_ret
      refine ⟨rfl, ?_, xakZ _ _ _⟩
      have := heap_setCell_same w b 0 _ _ (.slice (some ⟨g, 0, none⟩) r.length cap) H1.out
      exact StAt.set H1.out (by simpa using this) HR.out (xakZ _ _ _)
end Go.Proofs.YtmjjkenblfndgaaGreat


/- verify's stack: leave, result; slices.Clone at numbers. -/
namespace Go.Proofs.YtmjjkenblfndgaaGreat
open Go.RowKit
set_option linter.unusedSimpArgs false
set_option linter.unusedVariables false
theorem xecZ {w : World} {ops : Array Oper} {rest : List Oper} {o : Oper} {a : Act} {Q : Exit → Act → World → Prop} (hgd : o.guard = none) (s x : Operand)
    (ho : o.op = .call { callee := .builtin .append, args := #[s, x], argTypes := #[46, 46] }) (base : Nat)
    (v : Value) (n : Nat) (xs : List Value) (hs : a.eval s = v) (hown : w.ownsRow base 3 1 v n xs)
    (u : Value) (l : List Int) (hx : a.eval x = u) (hu : IntsAt w u l) (hnil : NilOk u)
    (h63 : n + l.length ≤ maxLen) (hbytes : (n + l.length) * 8 ≤ 140737488355328) (hbase : base ≤ w.heap.size)
    (h : ∀ v' w', w'.ownsRow base 3 1 v' (n + l.length) (xs ++ l.map (Value.int .i64)) → w.grownBy w' v.ownBlock → wpList Tryz.prog ops Q rest (a.put o.dst v') w') : wpList Tryz.prog ops Q (o :: rest) a w := by
  obtain ⟨i0, hi, hz0, hz1, hz2⟩ := info_parts xe9Z
  have hu' := hu
  obtain ⟨p, cap, rfl, hm, hc⟩ := hu'
  cases p with
  | none =>
    have hl : l = [] := by
      cases l with
      | nil => rfl
      | cons o r => obtain ⟨b, off, hb, _⟩ := hc 0 o rfl; cases hb
    subst hl
    have hcap : cap = 0 := hnil _ _ rfl
    subst hcap
    exact wpList_append_own_none hgd s x 46 ho base 3 i0 1 Tryz.underlying46 hi v n xs hs hown hx (h v w (by simpa using hown) (World.grownBy.refl _ _))
  | some ad =>
    refine wpList_append_own w hgd s x 46 ho base 3 i0 (.int .i64 0) 1 8 Tryz.underlying46 hi hz0 hz1 hz2 rfl (by decide) v n xs hs hown ad l.length cap (l.map (Value.int .i64)) hx (by simp)
      (fun j u hj => ?_) (fun u hu => by obtain ⟨z, _, rfl⟩ := List.mem_map.1 hu; rfl) h63 hbytes hbase (fun v' w' h1 h2 _ => h v' w' h1 h2)
    rw [List.getElem?_map] at hj
    obtain ⟨z, hz, rfl⟩ := Option.map_eq_some_iff.1 hj
    obtain ⟨b, off, hb, _, hcell⟩ := hc j z hz
    cases hb
    rw [xdsZ]
    exact hcell
theorem xdiZ {W : World} {B : Nat} {v : Value} {n : Nat} {xs : List Value} {e : TypeId} {k : Nat} (h : W.ownsRow B e k v n xs) : NilOk v := by
  intro m c hv
  rcases h.2 with ⟨rfl, _⟩ | ⟨g, cap, cur, rfl, _⟩
  · cases hv; rfl
  · cases hv
theorem xavZ (a : Addr) (n c : Nat) : NilOk (.slice (some a) n c) := fun m d h => by cases h
theorem xeqZ : NilOk (.slice none 0 0) := fun m d h => by cases h; rfl
theorem leave_any (l ts : List Int) (wr : Bool) (b B : Nat) (u : Value) (w : World) (h : StAt w b B l wr) (hu : IntsAt w u ts) (hn : NilOk u) (hB : B ≤ w.heap.size) (hBb : B ≤ b) (hl : l.length ≤ 100) (ht : ts.length ≤ 100) : Calls Tryz.prog 209 #[.pointer (some ⟨b, 0, none⟩), u] w fun e w' => e = .returned (.tuple #[]) ∧ StAt w' b B (l ++ ts) (wr || decide (8 < (l ++ ts).length)) ∧ Below B w w' := by
  obtain ⟨v, h1, h2⟩ := h
  have c0 := xaaZ h1 0
  have c1 := xaaZ h1 1
  have z0 := Lib.frozen_of_heap h1 0
  have z1 := Lib.frozen_of_heap h1 1
  simp at c0 c1
  have hlt := xacZ h1
  have hvb := xh2Z h1 h2
  obtain ⟨p, c, hv⟩ := xaiZ h2
  obtain ⟨p', c', hu1, _, _⟩ := id hu
  have H1 := hideP h1
  have H2 := hideP h2
  have HU := hideP hu
  have HN := hideP hn
  subst hv hu1
  clear h1 h2 hu hn
  cases wr
  · go_enter Tryz.func209, Tryz.ntmps209
    go_wp2_with (at_builtin; refine xecZ rfl _ _ rfl B _ _ _ rfl H2.out _ ts rfl HU.out HN.out (by unfold maxLen; omega) (by omega) hB ?_; intro v2 w2 hown2 hg2; have q2 := (hg2.block _ hlt (fun e => hvb e.symm)).trans H1.out; have d0 := xaaZ q2 0; have d1 := xaaZ q2 1; have y0 := Lib.frozen_of_heap q2 0; have y1 := Lib.frozen_of_heap q2 1; have Q2 := hideP q2; have HO2 := hideP hown2; obtain ⟨p2, c2, hv2⟩ := xaiZ hown2; subst hv2; clear q2 hown2; simp at d0 d1)
    go_end0
    have s1 := heap_setCell_same w2 b 0 _ _ (.slice p2 (l.length + ts.length) c2) Q2.out
    have s2 := heap_setCell_same _ b 1 _ _ (.bool (decide ((8 : Int) < (l.length : Int) + (ts.length : Int)))) s1
    have hgA := (xakZ w2 ⟨b, 0, none⟩ (.slice p2 (l.length + ts.length) c2)).trans (xakZ _ ⟨b, 1, none⟩ (.bool (decide ((8 : Int) < (l.length : Int) + (ts.length : Int)))))
    have hd : decide ((8 : Int) < (l.length : Int) + (ts.length : Int)) = decide (8 < (l ++ ts).length) := by
      rw [Bool.eq_iff_iff, decide_eq_true_iff, decide_eq_true_iff, List.length_append]; omega
    refine ⟨rfl, ?_, ?_⟩
    · rw [Bool.false_or, ← hd]
      refine StAt.set (l := l ++ ts) Q2.out (by simpa using s2) ?_ hgA
      have := HO2.out
      rw [List.length_append, List.map_append]
      exact this
    · have hb0 : Below B w w2 := (Below.refl B w).grown hg2 hB (fun k hk => (H2.out.lt k hk).1)
      exact hb0.grown hgA (Nat.le_trans hB hg2.size) (fun k hk => by cases hk; exact hBb)
  · go_enter Tryz.func209, Tryz.ntmps209
    go_wp2_with (at_builtin; refine xecZ rfl _ _ rfl B _ _ _ rfl H2.out _ ts rfl HU.out HN.out (by unfold maxLen; omega) (by omega) hB ?_; intro v2 w2 hown2 hg2; have q2 := (hg2.block _ hlt (fun e => hvb e.symm)).trans H1.out; have d0 := xaaZ q2 0; have d1 := xaaZ q2 1; have y0 := Lib.frozen_of_heap q2 0; have y1 := Lib.frozen_of_heap q2 1; have Q2 := hideP q2; have HO2 := hideP hown2; obtain ⟨p2, c2, hv2⟩ := xaiZ hown2; subst hv2; clear q2 hown2; simp at d0 d1)
    go_end0
    have s1 := heap_setCell_same w2 b 0 _ _ (.slice p2 (l.length + ts.length) c2) Q2.out
    have s2 := heap_setCell_same _ b 1 _ _ (.bool true) s1
    have hgA := (xakZ w2 ⟨b, 0, none⟩ (.slice p2 (l.length + ts.length) c2)).trans (xakZ _ ⟨b, 1, none⟩ (.bool true))
    refine ⟨rfl, ?_, ?_⟩
    · rw [Bool.true_or]
      refine StAt.set (l := l ++ ts) Q2.out (by simpa using s2) ?_ hgA
      have := HO2.out
      rw [List.length_append, List.map_append]
      exact this
    · have hb0 : Below B w w2 := (Below.refl B w).grown hg2 hB (fun k hk => (H2.out.lt k hk).1)
      exact hb0.grown hgA (Nat.le_trans hB hg2.size) (fun k hk => by cases hk; exact hBb)
theorem xbmZ (l : List Int) (v : Value) (w : World) (h : IntsAt w v l) (hn : NilOk v) (hl : l.length ≤ 100) : Calls Tryz.prog 88 #[v] w fun e w' => ∃ u, e = .returned u ∧ w'.ownsRow w.heap.size 3 1 u l.length (l.map (Value.int .i64)) ∧ Below w.heap.size w w' := by
  have h' := h
  obtain ⟨p, c, rfl, hm, hc⟩ := h'
  cases p with
  | none =>
    have hl0 : l = [] := by
      cases l with
      | nil => rfl
      | cons o r => obtain ⟨b, off, hb, _⟩ := hc 0 o rfl; cases hb
    subst hl0
    clear hc h
    have heq := fun W => Lib.run_eql_slice_nil (P := Tryz.prog) W 46 3 none 0 c 0 0 Tryz.underlying46
    go_enter Tryz.func88, Tryz.ntmps88
    go_wp2
    go_ret
    exact ⟨_, rfl, World.ownsRow_nil _ _ _ _, Below.refl _ _⟩
  | some ad =>
    have hB := (Below.refl w.heap.size w).alloc (Nat.le_refl _) (.cells #[] 3)
    have hrow := World.ownsRow_made (base := w.heap.size) (e := 3) (size := 1) w #[] 0 (Nat.le_refl _) (by unfold maxLen; omega) rfl
    have HU := hideP (h.below hB)
    have heq := fun W => Lib.run_eql_slice_nil (P := Tryz.prog) W 46 3 (some ad) l.length c 0 0 Tryz.underlying46
    clear hc h
    go_enter Tryz.func88, Tryz.ntmps88
    go_wp2_with (at_builtin; refine xecZ rfl _ _ rfl w.heap.size _ _ _ rfl hrow _ l rfl HU.out (xavZ _ _ _) (by unfold maxLen; omega) (by omega) (by simp) ?_; intro v2 w2 hown2 hg2; have HO2 := hideP hown2; clear hown2)
    go_ret
    refine ⟨_, rfl, ?_, hB.grown hg2 (by simp) (fun k hk => (hrow.lt k hk).1)⟩
    have := HO2.out
    simpa using this
theorem xk3Z (P r : Int) (p1 p3 : Option Addr) (n1 q1 n3 q3 : Nat) (w : World) : Calls Tryz.prog 212 #[.agg #[.int .i64 P, .slice p1 n1 q1, .int .i64 r, .slice p3 n3 q3]] w fun e w' => ∃ u, e = .returned u ∧ w'.ownsRow w.heap.size 3 1 u (if r = 0 then [] else [r]).length ((if r = 0 then [] else [r]).map (Value.int .i64)) ∧ Below w.heap.size w w' := by
  have hw : Below w.heap.size w (w.alloc (.cells #[.int .i64 P, .slice p1 n1 q1, .int .i64 r, .slice p3 n3 q3] 119)) := (Below.refl _ w).alloc (Nat.le_refl _) _
  by_cases h0 : r = 0
  · subst h0
    go_enter Tryz.func212, Tryz.ntmps212
    go_wp2
    go_ret
    exact ⟨_, rfl, World.ownsRow_nil _ _ _ _, hw⟩
  · have h0' : (r == 0) = false := by simp [h0]
    have e1 : (if r = 0 then [] else [r]) = [r] := if_neg h0
    rw [e1]
    clear h0 e1
    go_enter Tryz.func212, Tryz.ntmps212
    go_wp2
    go_ret
    refine ⟨_, rfl, xapZ (one_row (xa1Z w _ _)) (by omega), hw.alloc (by simp) _⟩
end Go.Proofs.YtmjjkenblfndgaaGreat


/- has, flowBegun. -/
namespace Go.Proofs.YtmjjkenblfndgaaGreat
open Go.RowKit
set_option linter.unusedSimpArgs false
set_option linter.unusedVariables false
theorem xa8Z {w : World} {b : Nat} {l : List Int} {t : TypeId} {fz : Nat × Nat} (n cap : Nat) (h : w.heap[b]? = some (.cells (l.map (Value.int .i64)).toArray t fz)) (hn : n = l.length) (hm : l.length ≤ maxLen) : IntsAt w (.slice (some ⟨b, 0, none⟩) n cap) l := by
  subst hn
  refine ⟨_, cap, rfl, hm, fun k z hk => ⟨b, 0, rfl, xacZ h, ?_⟩⟩
  rw [xaaZ h]
  simp [hk]
end Go.Proofs.YtmjjkenblfndgaaGreat


/- Plain functions on blocks (chapter 5). -/
namespace Go.Proofs.YtmjjkenblfndgaaGreat
open Go.RowKit
set_option linter.unusedSimpArgs false
set_option linter.unusedVariables false
def xayZ (L : List (List Int)) : Nat := (L.map List.length).sum
def blkErr (L : List (List Int)) : Int := if 8 < L.length ∨ 40 < xayZ L then 2 else if (L.all fun b => b.all isI32) = true then 0 else 3
def xbsZ (L : List (List Int)) (size : Int) : Int := if blkErr L ≠ 0 then blkErr L else if size < 0 then 3 else if L.length = 8 ∨ 40 - (xayZ L : Int) < size then 7 else 0
def newL (L : List (List Int)) (size : Int) : List (List Int) := L ++ [List.replicate size.toNat 0]
def newR (L : List (List Int)) (size : Int) : List (List Int) := if xbsZ L size = 0 then newL L size else []
def xg9Z (L : List (List Int)) (size : Int) : Int := if xbsZ L size = 0 then (L.length : Int) + 1 else 0
def blkAt (L : List (List Int)) (ref : Int) : List Int := (L[(ref - 1).toNat]?).getD []
def xa0Z (L : List (List Int)) (ref at_ : Int) : Int := if blkErr L ≠ 0 then blkErr L else if ref = 0 then 5 else if ref < 0 ∨ (L.length : Int) < ref ∨ at_ < 0 ∨ ((blkAt L ref).length : Int) ≤ at_ then 3 else 0
def getL (L : List (List Int)) (ref at_ : Int) : Int := ((blkAt L ref)[at_.toNat]?).getD 0
def getR (L : List (List Int)) (ref at_ : Int) : Int := if xa0Z L ref at_ = 0 then getL L ref at_ else 0
def xbrZ (L : List (List Int)) (ref at_ n : Int) : Int := if xa0Z L ref at_ ≠ 0 then xa0Z L ref at_ else if isI32 n = true then 0 else 3
def setL (L : List (List Int)) (ref at_ n : Int) : List (List Int) := L.set (ref - 1).toNat ((blkAt L ref).set at_.toNat n)
def setR (L : List (List Int)) (ref at_ n : Int) : List (List Int) := if xbrZ L ref at_ n = 0 then setL L ref at_ n else []
def refOk (n : Nat) (ref : Int) : Bool := decide (0 ≤ ref) && decide (ref ≤ (n : Int))
theorem xhuZ (n : Int) : (wrap32 n == n) = isI32 n := by
  rw [Bool.eq_iff_iff]
  simp [isI32, wrap32]
  omega
theorem xftZ (L M : List (List Int)) : xayZ (L ++ M) = xayZ L + xayZ M := by simp [xayZ]
theorem xi6Z (L : List (List Int)) (k : Nat) (b : List Int) (h : L[k]? = some b) : xayZ (L.take (k + 1)) = xayZ (L.take k) + b.length := by
  rw [xazZ L k b h, xftZ]; simp [xayZ]
theorem xlzZ (L : List (List Int)) (k : Nat) : xayZ (L.take k) ≤ xayZ L := by
  have h : xayZ L = xayZ (L.take k) + xayZ (L.drop k) := by rw [← xftZ, List.take_append_drop]
  omega
theorem xfyZ {L : List (List Int)} {k : Nat} {b : List Int} (h : L[k]? = some b) : b.length ≤ xayZ L := by
  have h1 := xi6Z L k b h
  have h2 := xlzZ L (k + 1)
  omega
theorem xnqZ (L : List (List Int)) (M : Nat) (h : ∀ b ∈ L, b.length ≤ M) : xayZ L ≤ L.length * M := by
  induction L with
  | nil => simp [xayZ]
  | cons b r ih =>
    have h1 := ih fun x hx => h x (by simp [hx])
    have h2 := h b (by simp)
    have h3 : xayZ (b :: r) = b.length + xayZ r := by simp [xayZ]
    rw [h3, List.length_cons, Nat.add_mul]
    omega
theorem xceZ {L : List (List Int)} (h : blkErr L = 0) : L.length ≤ 8 ∧ xayZ L ≤ 40 ∧ ∀ b ∈ L, ∀ n ∈ b, isI32 n = true := by
  unfold blkErr at h
  by_cases h1 : 8 < L.length ∨ 40 < xayZ L
  · rw [if_pos h1] at h; cases h
  · rw [if_neg h1] at h
    by_cases h2 : (L.all fun b => b.all isI32) = true
    · refine ⟨by omega, by omega, fun b hb n hn => ?_⟩
      exact List.all_eq_true.1 (List.all_eq_true.1 h2 b hb) n hn
    · rw [if_neg h2] at h; cases h
theorem xlxZ {L : List (List Int)} (h1 : L.length ≤ 8) (h2 : xayZ L ≤ 40) (h3 : ∀ b ∈ L, ∀ n ∈ b, isI32 n = true) : blkErr L = 0 := by
  unfold blkErr
  rw [if_neg (by omega), if_pos]
  exact List.all_eq_true.2 fun b hb => List.all_eq_true.2 fun n hn => h3 b hb n hn
theorem xdjZ {L : List (List Int)} {ref : Int} {b : List Int} {k : Nat} (h : L[k]? = some b) (hr : ref = (k : Int) + 1) : blkAt L ref = b := by
  unfold blkAt
  rw [show (ref - 1).toNat = k from by omega, h]; rfl
end Go.Proofs.YtmjjkenblfndgaaGreat


/- Blocks in memory. -/
namespace Go.Proofs.YtmjjkenblfndgaaGreat
open Go.RowKit
set_option linter.unusedSimpArgs false
set_option linter.unusedVariables false
def BlksAt (w : World) (v : Value) (L : List (List Int)) : Prop :=
  ∃ (p : Option Addr) (cap : Nat), v = .slice p L.length cap ∧ L.length ≤ maxLen ∧ ∀ k b, L[k]? = some b →
    ∃ g off c, p = some ⟨g, off, none⟩ ∧ g < w.heap.size ∧ w.cell? ⟨g, off + k, none⟩ = some c ∧ IntsAt w c b ∧ NilOk c ∧ b.length ≤ 17592186044416
theorem BlksAt.below {w w' : World} {v : Value} {L : List (List Int)} (h : BlksAt w v L) (hb : Below w.heap.size w w') : BlksAt w' v L := by
  obtain ⟨p, cap, rfl, hm, hc⟩ := h
  refine ⟨p, cap, rfl, hm, fun k b hk => ?_⟩
  obtain ⟨g, off, c, rfl, hlt, h0, h1, h2, h3⟩ := hc k b hk
  exact ⟨g, off, c, rfl, Nat.lt_of_lt_of_le hlt hb.size, (hb.cell (p := ⟨g, off + k, none⟩) hlt).trans h0, h1.below hb, h2, h3⟩
structure BRows (W : World) (B : Nat) (q : List Value) (L : List (List Int)) : Prop where
  len : q.length = L.length
  each : ∀ (k : Nat) (x : Value) (b : List Int), q[k]? = some x → L[k]? = some b → W.ownsRow B 3 1 x b.length (b.map (Value.int .i64))
  apart : ∀ (i j : Nat) (x y : Value) (g : Nat), q[i]? = some x → q[j]? = some y → x.ownBlock = some g → y.ownBlock = some g → i = j
  small : ∀ b ∈ L, b.length ≤ 17592186044416
def xdwZ (W : World) (B : Nat) (v : Value) (L : List (List Int)) : Prop := ∃ q, W.ownsRow B 46 1 v q.length q ∧ BRows W B q L
theorem xlvZ (W : World) (B : Nat) : BRows W B [] [] := ⟨rfl, fun k x b h => by simp at h, fun i j x y g h => by simp at h, fun b h => by simp at h⟩
theorem xdxZ (W : World) (B : Nat) : xdwZ W B (.slice none 0 0) [] := ⟨[], World.ownsRow_nil _ _ _ _, xlvZ W B⟩
theorem BRows.low {W : World} {B B' : Nat} {q : List Value} {L : List (List Int)} (h : BRows W B q L) (hB : B' ≤ B) : BRows W B' q L :=
  ⟨h.len, fun k x b h1 h2 => xapZ (h.each k x b h1 h2) hB, h.apart, h.small⟩
theorem BRows.same {W W' : World} {B : Nat} {q : List Value} {L : List (List Int)} (h : BRows W B q L) (hk : ∀ (k : Nat) (x : Value) (g : Nat), q[k]? = some x → x.ownBlock = some g → W'.heap[g]? = W.heap[g]?) : BRows W' B q L :=
  ⟨h.len, fun k x b h1 h2 => xaoZ (h.each k x b h1 h2) fun g hg => hk k x g h1 hg, h.apart, h.small⟩
theorem BRows.below {W W' : World} {B : Nat} {q : List Value} {L : List (List Int)} (h : BRows W B q L) (hb : Below W.heap.size W W') : BRows W' B q L :=
  h.same fun k x g h1 hg => by
    obtain ⟨b, h2⟩ := xagZ (l := L) (k := k) (by rw [← h.len]; exact xadZ h1)
    exact hb.block g ((h.each k x b h1 h2).lt g hg).2
theorem BRows.lt {W : World} {B : Nat} {q : List Value} {L : List (List Int)} (h : BRows W B q L) {k : Nat} {x : Value} {g : Nat} (hx : q[k]? = some x) (hg : x.ownBlock = some g) : B ≤ g ∧ g < W.heap.size ∧ ∃ cs, W.heap[g]? = some (.cells cs 3 (0, 0)) := by
  obtain ⟨b, h2⟩ := xagZ (l := L) (k := k) (by rw [← h.len]; exact xadZ hx)
  have hr := h.each k x b hx h2
  refine ⟨(hr.lt g hg).1, (hr.lt g hg).2, ?_⟩
  rcases hr.2 with ⟨rfl, _⟩ | ⟨g', cap, cur, rfl, _, hh, _⟩
  · cases hg
  · cases hg; exact ⟨_, hh⟩
theorem BRows.snoc' {W : World} {B : Nat} {q : List Value} {L : List (List Int)} {x : Value} {b : List Int} (h : BRows W B q L) (hx : W.ownsRow B 3 1 x b.length (b.map (Value.int .i64))) (hn : ∀ (k : Nat) (y : Value) (g : Nat), q[k]? = some y → y.ownBlock = some g → x.ownBlock ≠ some g) (hs : b.length ≤ 17592186044416) : BRows W B (q ++ [x]) (L ++ [b]) := by
  have key : ∀ (k : Nat) (y : Value), (q ++ [x])[k]? = some y → (k < q.length ∧ q[k]? = some y) ∨ (k = q.length ∧ y = x) := by
    intro k y hk
    by_cases hl : k < q.length
    · rw [List.getElem?_append_left hl] at hk; exact .inl ⟨hl, hk⟩
    · rw [List.getElem?_append_right (by omega)] at hk
      have h0 : k - q.length = 0 := by have := xadZ hk; simp at this; omega
      rw [h0] at hk; simp at hk
      exact .inr ⟨by omega, hk.symm⟩
  refine ⟨by simp [h.len], fun k y c hy hc => ?_, fun i j y z g hy hz gy gz => ?_, fun c hc => ?_⟩
  · rcases key k y hy with ⟨h1, h2⟩ | ⟨rfl, rfl⟩
    · rw [List.getElem?_append_left (by rw [← h.len]; exact h1)] at hc
      exact h.each k y c h2 hc
    · rw [List.getElem?_append_right (by rw [h.len]; omega), h.len, Nat.sub_self] at hc
      simp at hc; subst hc
      exact hx
  · rcases key i y hy with ⟨h1, h2⟩ | ⟨rfl, rfl⟩
    · rcases key j z hz with ⟨h3, h4⟩ | ⟨rfl, rfl⟩
      · exact h.apart i j y z g h2 h4 gy gz
      · exact absurd gz (hn i y g h2 gy)
    · rcases key j z hz with ⟨h3, h4⟩ | ⟨rfl, rfl⟩
      · exact absurd gy (hn j z g h4 gz)
      · rfl
  · rcases List.mem_append.1 hc with hc | hc
    · exact h.small c hc
    · simp at hc; subst hc; exact hs
theorem BRows.snoc {W : World} {B B' : Nat} {q : List Value} {L : List (List Int)} {x : Value} {b : List Int} (h : BRows W B q L) (hx : W.ownsRow B' 3 1 x b.length (b.map (Value.int .i64))) (hB : B ≤ B') (hn : ∀ (k : Nat) (y : Value) (g : Nat), q[k]? = some y → y.ownBlock = some g → g < B') (hs : b.length ≤ 17592186044416) : BRows W B (q ++ [x]) (L ++ [b]) :=
  h.snoc' (xapZ hx hB) (fun k y g h1 h2 h3 => by
    have := hn k y g h1 h2
    have := (hx.lt g h3).1
    omega) hs
theorem xldZ {W : World} {B : Nat} {p : Option Addr} {cap : Nat} {q : List Value} {L : List (List Int)} (hr : BRows W B q L) (hm : L.length ≤ maxLen) (hp : ∀ k x, q[k]? = some x → ∃ g off, p = some ⟨g, off, none⟩ ∧ g < W.heap.size ∧ W.cell? ⟨g, off + k, none⟩ = some x) : BlksAt W (.slice p L.length cap) L := by
  refine ⟨p, cap, rfl, hm, fun k b hk => ?_⟩
  obtain ⟨x, hx⟩ := xagZ (l := q) (k := k) (by rw [hr.len]; exact xadZ hk)
  obtain ⟨g, off, h1, h2, h3⟩ := hp k x hx
  have h4 := hr.each k x b hx hk
  exact ⟨g, off, x, h1, h2, h3, xbaZ rfl h4, xdiZ h4, hr.small b (List.mem_of_getElem? hk)⟩
theorem xbjZ {W : World} {B : Nat} {v : Value} {L : List (List Int)} (h : xdwZ W B v L) : BlksAt W v L := by
  obtain ⟨q, h1, h2⟩ := h
  rcases h1.2 with ⟨rfl, h0⟩ | ⟨g, cap, cur, rfl, hb, hg, hn, hc, hs, ht⟩
  · have hL : L = [] := List.eq_nil_of_length_eq_zero (by rw [← h2.len]; exact h0)
    subst hL
    exact ⟨none, 0, rfl, Nat.zero_le _, fun k b hk => by simp at hk⟩
  · rw [h2.len]
    refine xldZ h2 (by rw [← h2.len]; omega) fun k x hx => ⟨g, 0, rfl, xacZ hg, ?_⟩
    have hk := xadZ hx
    rw [← ht, List.getElem?_take_of_lt (by omega)] at hx
    rw [xaaZ hg]; simpa using hx
theorem xaeZ {a b c : World} (h : Below a.heap.size a b) (k : Below b.heap.size b c) : Below a.heap.size a c := h.trans (k.mono h.size)
end Go.Proofs.YtmjjkenblfndgaaGreat


/- slices.Backward at numbers: the iterator's contract. -/
namespace Go.Proofs.YtmjjkenblfndgaaGreat
open Go.RowKit Go.Shelf
set_option linter.unusedSimpArgs false
set_option linter.unusedVariables false
attribute [local go_sem] Oper.semAt_some
def itsB (ts : List Int) : Nat → List (Nat × Int)
  | 0 => []
  | k + 1 => (k, ts.getD k 0) :: itsB ts k
abbrev encsB (x : Nat × Int) : Array Value := #[.int .i64 x.1, .int .i64 x.2]
def KpB (bs : Nat) (v : Value) (ts : List Int) (W W' : World) : Prop := (Boxed W bs 46 v ∧ IntsAt W v ts) → (Boxed W' bs 46 v ∧ IntsAt W' v ts)
theorem back1_in (n : Nat) (hn : 1 ≤ n) (l bs : Nat) (ts : List Int) (p : Option Addr) (c : Nat) (hts : ts.length ≤ 100) (J Jx : List (Nat × Int) → World → Prop) (W : World)
    (hY : ∀ pre x W1, J pre W1 → pre.length < (itsB ts ts.length).length → YieldAt Fence.wide (n - 1) Tryz.prog l (encsB x) W1 fun e W' =>
      (e = .returned (.bool true) ∧ J (pre ++ [x]) W' ∧ KpB bs (.slice p ts.length c) ts W1 W') ∨ (e = .returned (.bool false) ∧ Jx (pre ++ [x]) W'))
    (hB : Boxed W bs 46 (.slice p ts.length c)) (hI : IntsAt W (.slice p ts.length c) ts) (h0 : J [] W) :
    CallsIn Fence.wide n Tryz.prog 240 #[.func (.yield l) #[] #[], .pointer (some ⟨bs, 0, none⟩)] W fun e W' => (∃ v, e = .returned v) ∧
      ((∃ ys, ys = itsB ts ts.length ∧ J ys W') ∨ (∃ pre, pre <+: itsB ts ts.length ∧ Jx pre W')) := by
  refine callsIn_of_wp Tryz.func240 rfl trivial ?_ rfl
  simp only [Tryz.ntmps240, List.size_toArray, List.length_cons, List.length_nil, Nat.reduceAdd, Nat.reduceSub, Array.replicate_succ, Array.replicate_zero, List.push_toArray, List.append_toArray, List.nil_append, List.cons_append]
  have hc0 := hB.cell
  have hwr : wrap64 ((ts.length : Int) - 1) = (ts.length : Int) - 1 := by unfold wrap64; omega
  have HB := hideP hB
  have HI := hideP hI
  have HY := hideP hY
  clear hB hI hY
  gi_wp2
  gi_loopw [3] (fun a wr => ∃ (k : Nat) (pre : List (Nat × Int)), a = .int .i64 ((k : Int) - 1) ∧ k ≤ ts.length ∧ itsB ts ts.length = pre ++ itsB ts k ∧ J pre wr ∧ Boxed wr bs 46 (.slice p ts.length c) ∧ IntsAt wr (.slice p ts.length c) ts) (fun a _ => (intOf a + 1).toNat)
  case atStart => exact ⟨ts.length, [], rfl, Nat.le_refl _, rfl, h0, HB.out, HI.out⟩
  case round =>
    obtain ⟨k, pre, rfl, hk, hit, hJ, hBx, hIx⟩ := hrel
    have HT := hideP hit
    clear hit
    have hcx := hBx.cell
    cases k with
    | zero =>
      rw [show ((0 : Nat) : Int) - 1 = -1 by omega]
      gi_wp2
      go_end0
      refine ⟨⟨_, rfl⟩, .inl ?_⟩
      exact ⟨pre, by rw [HT.out]; simp [itsB], hJ⟩
    | succ m =>
      rw [show ((m + 1 : Nat) : Int) - 1 = (m : Int) by omega]
      obtain ⟨z, hz⟩ := xagZ (show m < ts.length by omega)
      have hIx' := hIx
      obtain ⟨p', c', he, _, hcc⟩ := hIx'
      obtain ⟨b, off, hp, hbl, g⟩ := hcc m z hz
      cases he
      subst hp
      have hzd : ts.getD m 0 = z := by rw [List.getD_eq_getElem?_getD, hz]; rfl
      obtain ⟨fn, tmps, assign, body, hy, hR⟩ := HY.out pre (m, z) _ hJ (by rw [HT.out]; simp [itsB])
      dsimp only [encsB] at hy
      have hmt : (m : Int) < (ts.length : Int) := by omega
      have HZD := hideP hzd
      have HIX := hideP hIx
      have HBX := hideP hBx
      clear hcc hz hzd hIx hBx hJ
      gi_wp2
      refine hR.mono ?_
      rintro e W3 (⟨rfl, hJ3, hk3⟩ | ⟨rfl, hJx3⟩)
      · gi_wp2
        go_roundw
        case rel =>
          obtain ⟨b3, i3⟩ := hk3 ⟨HBX.out, HIX.out⟩
          refine ⟨m, pre ++ [(m, z)], by go_num, by omega, ?_, hJ3, b3, i3⟩
          rw [HT.out, itsB, HZD.out]; simp
        case measure => simp [intOf] <;> omega
      · gi_wp2
        refine bodyPost_ret (results_none rfl _ _ _) rfl ?_
        refine ⟨⟨_, rfl⟩, .inr ⟨_, ?_, hJx3⟩⟩
        rw [HT.out, itsB, HZD.out]
        exact ⟨itsB ts m, by simp⟩
theorem xnmZ (p : Option Addr) (n c : Nat) (w : World) :
    Calls Tryz.prog 232 #[.slice p n c] w fun e w' => e = .returned (.func (.func 240) #[] #[.pointer (some ⟨w.heap.size, 0, none⟩)]) ∧ w' = w.alloc (.cells #[.slice p n c] 46) := by
  go_enter Tryz.func232, Tryz.ntmps232
  go_wp2
  go_ret
  exact ⟨rfl, rfl⟩
theorem xlcZ (n : Nat) (hn : 1 ≤ n) (bs : Nat) (ts : List Int) (p : Option Addr) (c : Nat) (hts : ts.length ≤ 100) (w : World) (hB : Boxed w bs 46 (.slice p ts.length c)) (hI : IntsAt w (.slice p ts.length c) ts) :
    SeqStopsK Fence.wide n Tryz.prog 240 #[.pointer (some ⟨bs, 0, none⟩)] encsB (KpB bs (.slice p ts.length c) ts) (fun ys => ys = itsB ts ts.length) (fun pre => pre <+: itsB ts ts.length) (itsB ts ts.length).length w :=
  fun l J Jx W hW hA _ hY h0 => back1_in n hn l bs ts p c hts J Jx W hY ((hW.block bs hB.lt).trans hB) (hI.below hW) h0
theorem kpB_t {bs : Nat} {v : Value} {ts : List Int} {A B C : World} (h : KpB bs v ts A B) (k : KpB bs v ts B C) : KpB bs v ts A C := fun x => k (h x)
theorem kpB_b {bs : Nat} {v : Value} {ts : List Int} {w : World} (W : World) (l : Nat) (o o' : Obj) (_ : w.heap.size ≤ l) (h : W.heap[l]? = some o) (ho : o.isCells = false) (_ : o.isWalk = false) : KpB bs v ts W (W.putObj l o') := fun ⟨x, y⟩ => by
  refine ⟨x.kept (grownBy_putObj' W l o') (fun e => by cases e; rw [show W.heap[bs]? = _ from x] at h; cases h; cases ho), ?_⟩
  obtain ⟨p, c, rfl, hm, hc⟩ := y
  refine ⟨p, c, rfl, hm, fun k z hk => ?_⟩
  obtain ⟨b, off, rfl, hb, g⟩ := hc k z hk
  have hg := grownBy_putObj' W l o'
  have hne : b ≠ l := fun e => by
    subst e
    obtain ⟨cs, t, fz, hcs, _⟩ := Sort.cells_of_cell? g
    rw [hcs] at h; cases h; cases ho
  exact ⟨b, off, rfl, Nat.lt_of_lt_of_le hb hg.size, hg.cell g (by simpa using hne)⟩
end Go.Proofs.YtmjjkenblfndgaaGreat


/- verify's stack: take. -/
namespace Go.Proofs.YtmjjkenblfndgaaGreat
open Go.RowKit Go.Shelf
set_option linter.unusedSimpArgs false
set_option linter.unusedVariables false
attribute [local go_sem] Oper.semAt_some
def take1 (s : List Int × Bool) (t : Int) : List Int × Bool := (s.1.dropLast, s.2 || s.1.isEmpty || !xarZ (topP s.1) t)
def takeP (s : List Int × Bool) (its : List (Nat × Int)) : List Int × Bool := its.foldl (fun s x => take1 s x.2) s
theorem takeP_snoc (s : List Int × Bool) (its : List (Nat × Int)) (x : Nat × Int) : takeP s (its ++ [x]) = take1 (takeP s its) x.2 := by simp [takeP]
theorem xmpZ (s : List Int × Bool) (its : List (Nat × Int)) : (takeP s its).1.length ≤ s.1.length := by
  induction its generalizing s with
  | nil => exact Nat.le_refl _
  | cons x r ih =>
    have h2 : (take1 s x.2).1.length ≤ s.1.length := by simp [take1]
    exact Nat.le_trans (ih (take1 s x.2)) h2
def TakeI (w : World) (b B : Nat) (s : List Int × Bool) (pre : List (Nat × Int)) (W : World) : Prop :=
  (StAt W b B (takeP s pre).1 (takeP s pre).2 ∧ Boxed W w.heap.size 245 (.pointer (some ⟨b, 0, none⟩))) ∧ w.grownBy W (some b)
theorem xmoZ (w : World) (b B : Nat) (s : List Int × Bool) (C : Nat) (hC : w.heap.size ≤ C) : OwnFrom C (TakeI w b B s) := fun pre X Y row hs hg hr => by
  obtain ⟨⟨⟨v, q, r⟩, bx⟩, g⟩ := hs
  have hcells : ∀ (k : Nat) (cs : Array Value) (t : TypeId) (fz : Nat × Nat), X.heap[k]? = some (.cells cs t fz) → Y.heap[k]? = X.heap[k]? := fun k cs t fz hk =>
    hg.block k (xacZ hk) (fun e => by
      obtain ⟨_, o, ho, hc⟩ := hr k e.symm
      rw [hk] at ho; cases ho; cases hc)
  refine ⟨⟨⟨v, (hcells _ _ _ _ q).trans q, xaoZ r fun j hj => ?_⟩, (hcells _ _ _ _ bx).trans bx⟩, g.andThen hg (fun j hj => .inl ?_)⟩
  · rcases r.2 with ⟨rfl, _⟩ | ⟨g', cap, cur, rfl, _, hgg, _⟩
    · cases hj
    · cases hj; exact hcells _ _ _ _ hgg
  · exact Nat.le_trans hC (hr j hj).1
theorem xl9Z {bs b : Nat} {v v0 : Value} {wr : Bool} {ts : List Int} {W W' : World} (hg : W.grownBy W' (some b)) (hb : W.heap[b]? = some (.cells #[v0, .bool wr] 227 (0, 0))) (hv : ∃ p n c, v0 = .slice p n c) : KpB bs v ts W W' := fun ⟨x, y⟩ => by
  obtain ⟨p0, n0, c0, rfl⟩ := hv
  refine ⟨x.kept hg (fun e => ?_), ?_⟩
  · cases e
    rw [show W.heap[bs]? = _ from x] at hb
    simp at hb
  · obtain ⟨p, c, rfl, hm, hc⟩ := y
    refine ⟨p, c, rfl, hm, fun k z hk => ?_⟩
    obtain ⟨b1, off, rfl, hb1, g⟩ := hc k z hk
    have hne : b1 ≠ b := fun e => by
      subst e
      rw [xaaZ hb] at g
      match h : off + k, g with
      | 0, g => simp at g
      | 1, g => simp at g
      | j + 2, g => simp at g
    exact ⟨b1, off, rfl, Nat.lt_of_lt_of_le hb1 hg.size, hg.cell g (by simpa using hne)⟩
theorem xmtZ (l ts : List Int) (wr : Bool) (b B : Nat) (p : Option Addr) (c : Nat) (w : World) (h : StAt w b B l wr) (hu : IntsAt w (.slice p ts.length c) ts) (hB : B ≤ w.heap.size) (hBb : B ≤ b) (hl : l.length ≤ 100) (ht : ts.length ≤ 100) : Calls Tryz.prog 210 #[.pointer (some ⟨b, 0, none⟩), .slice p ts.length c] w fun e w' => e = .returned (.tuple #[]) ∧ StAt w' b B (takeP (l, wr) (itsB ts ts.length)).1 (takeP (l, wr) (itsB ts ts.length)).2 ∧ w.grownBy w' (some b) := by
  refine (callsIn_wide (n := 5)).1 ?_
  have h1 : 1 ≤ 5 := by omega
  refine callsIn_of_wp_marks Tryz.func210 rfl trivial ?_ rfl
  simp only [Tryz.ntmps210, List.size_toArray, List.length_cons, List.length_nil, Nat.reduceAdd, Nat.reduceSub, Array.replicate_succ, Array.replicate_zero, List.push_toArray, List.append_toArray, List.nil_append, List.cons_append]
  gi_wp2_with fail
  refine ⟨trivial, ?_⟩
  refine (callsIn_wide.2 (xnmZ p ts.length c _)).mono ?_
  rintro e w' ⟨rfl, rfl⟩
  gi_wp2
  have hB0 : Below w.heap.size w ((w.alloc (.cells #[.pointer (some ⟨b, 0, none⟩)] 245)).alloc (.cells #[.slice p ts.length c] 46)) := ((Below.refl _ w).alloc (Nat.le_refl _) _).alloc (by simp) _
  have b0 : Boxed ((w.alloc (.cells #[.pointer (some ⟨b, 0, none⟩)] 245)).alloc (.cells #[.slice p ts.length c] 46)) w.heap.size 245 (.pointer (some ⟨b, 0, none⟩)) := (Boxed.new w 245 (.pointer (some ⟨b, 0, none⟩))).alloc (.cells #[.slice p ts.length c] 46)
  have b1 : Boxed ((w.alloc (.cells #[.pointer (some ⟨b, 0, none⟩)] 245)).alloc (.cells #[.slice p ts.length c] 46)) (w.heap.size + 1) 46 (.slice p ts.length c) := xa1Z _ _ _
  obtain ⟨W0, hW0⟩ : ∃ W0, (w.alloc (.cells #[.pointer (some ⟨b, 0, none⟩)] 245)).alloc (.cells #[.slice p ts.length c] 46) = W0 := ⟨_, rfl⟩
  have hsz : W0.heap.size = w.heap.size + 1 + 1 := by rw [← hW0]; simp
  have hblt := h.lt
  rw [hW0] at hB0 b0 b1 ⊢
  clear hW0
  refine wpIn_rangeFunc_ownH rfl h1 (gf := 240) (lb := #[.pointer (some ⟨w.heap.size + 1, 0, none⟩)]) rfl trivial (enters_of Tryz.func240 (by kernel_rfl) rfl)
    (xlcZ (5 - 1) (by omega) (w.heap.size + 1) ts p c ht W0 b1 (hu.below hB0)) kpB_t kpB_b (Below.refl _ _) (fun _ => rfl)
    (TakeI w b B (l, wr)) (fun _ _ _ => False) (xmoZ w b B (l, wr) _ (by omega)) (fun _ _ _ _ _ hs _ _ => hs)
    ⟨⟨h.kept hB0, b0⟩, xgwZ hB0 _⟩
    (fun x a' _ => a' = { tmps := #[.pointer (some ⟨b, 0, none⟩), .slice p ts.length c, .pointer (some ⟨w.heap.size, 0, none⟩), undef, undef, .int .i64 x.2, .slice p ts.length c, .func (.func 240) #[] #[.pointer (some ⟨w.heap.size + 1, 0, none⟩)], .int .i64 x.1, .int .i64 x.2, undef, undef, undef, undef, undef, undef, undef, undef], defers := [] })
    (fun x a' _ X Y row hs hg hr => hs)
    ?assign ?body ?done ?stop
  case assign =>
    rintro l0 pre x W K hI hK
    gi_wp2
    exact hK _ _ (KeepsFrom.refl _ _) (fun h => h) hI rfl
  case body =>
    rintro l0 pre ⟨ix, t⟩ a' W hl0 ⟨r, hr⟩ ⟨⟨hst, bx⟩, hgw⟩ rfl hlt
    have kx := bx.cell
    obtain ⟨v0, q0, row0⟩ := id hst
    have hshp : ∃ p n c, v0 = Value.slice p n c := by obtain ⟨p, c, h⟩ := xaiZ row0; exact ⟨_, _, _, h⟩
    have hlen : (takeP (l, wr) pre).1.length ≤ 100 := Nat.le_trans (xmpZ _ _) hl
    have hpop := pop_any (takeP (l, wr) pre).1 (takeP (l, wr) pre).2 b B W hst hlen
    have HP := hideP hpop
    have HSN := hideP (takeP_snoc (l, wr) pre (ix, t))
    generalize takeP (l, wr) pre = S at *
    obtain ⟨S1, S2⟩ := S
    simp only at HP hlen hst row0
    have Q0 := hideP q0
    clear hpop hr hlt hst row0 q0
    gi_wp2_with fail
    refine ⟨trivial, ?_⟩
    refine (callsIn_wide.2 HP.out).mono ?_
    rintro e W2 ⟨rfl, hst2, hg2⟩
    have bx2 : Boxed W2 w.heap.size 245 (.pointer (some ⟨b, 0, none⟩)) := Boxed.kept bx hg2 (fun e => by cases e; omega)
    have kx2 := bx2.cell
    have hkp2 : KpB (w.heap.size + 1) (.slice p ts.length c) ts W W2 := xl9Z hg2 Q0.out hshp
    gi_wp2_with fail
    refine ⟨trivial, ?_⟩
    refine (callsIn_wide.2 (xctZ (topP S1) t _)).mono ?_
    rintro e W3 ⟨rfl, hw3⟩
    have hw3 := hw3.symm
    subst hw3
    cases hs : xarZ (topP S1) t
    · obtain ⟨v2, q2, row2⟩ := id hst2
      have d1 := xaaZ q2 1
      have z1 := Lib.frozen_of_heap q2 1
      simp at d1
      have Q2 := hideP q2
      have R2 := hideP row2
      have hshp2 : ∃ p n c, v2 = Value.slice p n c := by obtain ⟨p, c, h⟩ := xaiZ row2; exact ⟨_, _, _, h⟩
      clear q2 row2 hst2
      gi_wp2
      have hgs := xakZ W2 ⟨b, 1, none⟩ (.bool true)
      have hb3 := heap_setCell_same W2 b 1 _ _ (.bool true) Q2.out
      refine ⟨KeepsFrom.of_grownBy (hg2.trans hgs) (fun j hj => by cases hj; omega), kpB_t hkp2 (xl9Z hgs Q2.out hshp2), ⟨?_, Boxed.kept bx2 hgs (fun e => by have e2 : w.heap.size = b := (by simpa using e); omega)⟩, (hgw.trans hg2).trans hgs⟩
      rw [HSN.out]
      have e1 : take1 (S1, S2) t = (S1.dropLast, true) := by simp [take1, hs]
      rw [e1]
      exact StAt.set Q2.out (by simpa using hb3) R2.out hgs
    · gi_wp2
      refine ⟨KeepsFrom.of_grownBy hg2 (fun j hj => by cases hj; omega), hkp2, ⟨?_, bx2⟩, hgw.trans hg2⟩
      rw [HSN.out]
      have e1 : take1 (S1, S2) t = (S1.dropLast, S2 || S1.isEmpty) := by simp [take1, hs]
      rw [e1]
      exact hst2
  case done =>
    rintro D ys W hD rfl hI hK
    have hI2 := xmoZ w b B (l, wr) W0.heap.size (by omega) _ W _ (some D) hI (grownBy_putObj' W D (.deferred none)) (fun r e => by cases e; exact ⟨hD, _, hK, rfl⟩)
    have HI2 := hideP hI2
    clear hI2 hI
    gi_wp2
    refine ⟨by simp, .inl ⟨_, _, rfl, run_takeDeferred hK, ?_⟩⟩
    refine ⟨.tuple #[], by simp [results, Tryz.results210, go_sem], rfl, HI2.out.1.1, HI2.out.2⟩
  case stop =>
    rintro D c pre W _ _ h
    exact h.elim
end Go.Proofs.YtmjjkenblfndgaaGreat


