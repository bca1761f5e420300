/- My texts Ud Ua Uf Ug: what of them is needed, joined. -/
import Derived.Deep.QuietTactic
import Derived.BigQuiet
import Derived.Shelf.Slices.In.SortNone
import Derived.Deep.RegionHeld3
import Derived.Test.YtcadpoknolefpaaGreatF2
import Derived.Test.YtcadpoknolefpaaGreatF13
import Derived.Test.YtcadpoknolefpaaGreatF17
import Derived.Test.YtcadpoknolefpaaGreatF21
import Derived.Test.YtcadpoknolefpaaGreatF25
set_option maxRecDepth 100000
set_option maxHeartbeats 8000000
/- collect.each at a function whose contract is given. -/
namespace Go.Proofs.YtcadpoknolefpaaGreat
open Go.RowKit
set_option linter.unusedSimpArgs false
set_option linter.unusedVariables false
structure EachAt (I : Nat → Nat → World → Prop) (p : Option Addr) (cap : Nat) (q : List FV) (F : List Frm) : Prop where
  len : q.length = F.length
  few : F.length ≤ 6
  rowL : ∀ (i : Nat) (c : FV) (x : Frm), q[i]? = some c → F[i]? = some x → x.loc.length ≤ 100 ∧ ∃ pl cl, c.lv = .slice pl x.loc.length cl
  rowS : ∀ (i : Nat) (c : FV) (x : Frm), q[i]? = some c → F[i]? = some x → x.stk.length ≤ 100 ∧ ∃ ps cs, c.sv = .slice ps x.stk.length cs
  cell : ∀ (i : Nat) (c : FV), q[i]? = some c → ∃ g off, p = some ⟨g, off, none⟩ ∧ ∀ r j W, I r j W → W.cell? ⟨g, off + i * 4, none⟩ = some (.int .i64 c.fn) ∧ W.cell? ⟨g, off + i * 4 + 1, none⟩ = some (.int .i64 c.pc) ∧ W.cell? ⟨g, off + i * 4 + 2, none⟩ = some c.lv ∧ W.cell? ⟨g, off + i * 4 + 3, none⟩ = some c.sv
  keep : ∀ r j W W', I r j W → Below W.heap.size W W' → I r j W'
  nextL : ∀ (i : Nat) (x : Frm) W, F[i]? = some x → I (2 * i) x.loc.length W → I (2 * i + 1) 0 W
  nextS : ∀ (i : Nat) (x : Frm) W, F[i]? = some x → I (2 * i + 1) x.stk.length W → I (2 * (i + 1)) 0 W
structure DoesAt (fn : Nat) (caps : Array Value) (I : Nat → Nat → World → Prop) (q : List FV) (F : List Frm) : Prop where
  doL : ∀ (i j : Nat) (c : FV) (x : Frm), q[i]? = some c → F[i]? = some x → j < x.loc.length → ∃ gl ol cl, c.lv = .slice (some ⟨gl, ol, none⟩) x.loc.length cl ∧ ∀ W, I (2 * i) j W → Calls Tryz.prog fn (#[.pointer (some ⟨gl, ol + j * 2, none⟩)] ++ caps) W fun e w' => e = .returned (.tuple #[]) ∧ I (2 * i) (j + 1) w' ∧ FrKept W w'
  doS : ∀ (i j : Nat) (c : FV) (x : Frm), q[i]? = some c → F[i]? = some x → j < x.stk.length → ∃ gs os cs, c.sv = .slice (some ⟨gs, os, none⟩) x.stk.length cs ∧ ∀ W, I (2 * i + 1) j W → Calls Tryz.prog fn (#[.pointer (some ⟨gs, os + j * 2, none⟩)] ++ caps) W fun e w' => e = .returned (.tuple #[]) ∧ I (2 * i + 1) (j + 1) w' ∧ FrKept W w'
theorem each_gen (fn : Nat) (caps : Array Value) (I : Nat → Nat → World → Prop) (p : Option Addr) (cap : Nat) (q : List FV) (F : List Frm) (w : World) (hE : Ent fn) (hA : EachAt I p cap q F) (hD : DoesAt fn caps I q F) (h0 : I 0 0 w) : Calls Tryz.prog 73 #[.slice p F.length cap, .func (.func fn) #[] caps] w fun e w' => e = .returned (.tuple #[]) ∧ I (2 * F.length) 0 w' := by
  have HA := hideP hA
  have HD := hideP hD
  have H0 := hideP h0
  have hEE := fun args W => hE args W
  have hfew := hA.few
  clear hA hD h0 hE
  go_enter Tryz.func73, Tryz.ntmps73
  go_wp2
  go_loopw [5, 6, 7, 10] (fun _ _ _ v10 wr => ∃ i : Nat, i ≤ F.length ∧ v10 = .int .i64 i ∧ I (2 * i) 0 wr) (fun _ _ _ v10 _ => F.length - (intOf v10).toNat)
  case atStart => exact ⟨0, Nat.zero_le _, rfl, H0.out⟩
  case round =>
    rename World => wo
    obtain ⟨i, hi, rfl, hI⟩ := hrel
    have HI := hideP hI
    clear hI
    by_cases hlt0 : i < F.length
    rotate_left
    · have hlti0 : ¬ (i : Int) < (F.length : Int) := by omega
      have hie : i = F.length := by omega
      subst hie
      go_wp2
      go_end0
      exact ⟨rfl, HI.out⟩
    have hlti0 : (i : Int) < (F.length : Int) := by omega
    obtain ⟨x, hx⟩ := xaiZ hlt0
    obtain ⟨c, hc⟩ := xaiZ (l := q) (k := i) (by rw [HA.out.len]; exact hlt0)
    obtain ⟨g, off, hp, hcell⟩ := HA.out.cell i c hc
    subst hp
    obtain ⟨c0, c1, c2, c3⟩ := hcell _ _ _ HI.out
    obtain ⟨hl100, pl, cl, hlv⟩ := HA.out.rowL i c x hc hx
    obtain ⟨hs100, ps, cs, hsv⟩ := HA.out.rowS i c x hc hx
    obtain ⟨z, hz⟩ : ∃ z, wo.heap.size = z := ⟨_, rfl⟩
    obtain ⟨W2, hW2⟩ : ∃ W2, wo.alloc (.cells #[.int .i64 c.fn, .int .i64 c.pc, c.lv, c.sv] 48) = W2 := ⟨_, rfl⟩
    have hW2b : Below wo.heap.size wo W2 := by rw [← hW2]; exact (Below.refl _ wo).alloc (Nat.le_refl _) _
    have hz2 : W2.heap[z]? = some (.cells #[.int .i64 c.fn, .int .i64 c.pc, c.lv, c.sv] 48 (0, 0)) := by rw [← hW2, ← hz]; exact World.alloc_heap_new wo _
    have HI2 := hideP (HA.out.keep _ _ _ _ HI.out hW2b)
    have HZ := hideP hz2
    have HX := hideP (And.intro hx hc)
    rw [hlv, hsv] at hW2
    rw [hlv] at c2
    rw [hsv] at c3
    have g2 := xaaZ hz2 2
    have g3 := xaaZ hz2 3
    simp at g2 g3
    rw [hlv] at g2
    rw [hsv] at g3
    generalize hLl : x.loc.length = Ll at *
    generalize hLs : x.stk.length = Ls at *
    clear hW2b hz2 hcell hx hc
    --INNER
    go_wp2_with fail
    go_loopw [6, 17] (fun _ v17 wr => ∃ j : Nat, j ≤ Ll ∧ v17 = .int .i64 j ∧ I (2 * i) j wr ∧ wr.heap[z]? = some (.cells #[.int .i64 c.fn, .int .i64 c.pc, c.lv, c.sv] 48 (0, 0))) (fun _ v17 _ => Ll - (intOf v17).toNat)
    case atStart => exact ⟨0, Nat.zero_le _, rfl, HI2.out, HZ.out⟩
    case round =>
      rename World => wi
      obtain ⟨j, hj, rfl, hI, hz⟩ := hrel
      have f2 := xaaZ hz 2
      have f3 := xaaZ hz 3
      simp at f2 f3
      rw [hlv] at f2
      rw [hsv] at f3
      have HI3 := hideP hI
      have HZ3 := hideP hz
      clear hI hz
      by_cases hlt : j < Ll
      · have hlti : (j : Int) < (Ll : Int) := by omega
        obtain ⟨gl, ol, cl9, hlv9, hdo⟩ := HD.out.doL i j c x HX.out.2 HX.out.1 (by rw [hLl]; exact hlt)
        rw [hlv, hLl] at hlv9
        cases hlv9
        have HDO := hideP (hdo wi HI3.out)
        clear hdo
        go_wp2_with fail
        refine HDO.out.mono ?_
        rintro e w5 ⟨rfl, hI5, hk5⟩
        have HI5 := hideP hI5
        have HZ5 := hideP ((hk5.2 _ _ _ HZ3.out).trans HZ3.out)
        clear hI5 hk5
        go_wp2
        go_roundw
        case rel => exact ⟨j + 1, by omega, by go_num, HI5.out, HZ5.out⟩
        case measure => simp [intOf]; omega
      · have hlti : ¬ (j : Int) < (Ll : Int) := by omega
        have hje : j = Ll := by omega
        subst hje
        have HI4 := hideP (HA.out.nextL i x _ HX.out.1 (by rw [hLl]; exact HI3.out))
        have HI2 := HI4
        have HZ := HZ3
        clear HI3 HI4 hlti hj HZ3 f2
        go_wp2_with fail
        clear f3
        go_loopw [7, 30] (fun _ v30 wr => ∃ j : Nat, j ≤ Ls ∧ v30 = .int .i64 j ∧ I (2 * i + 1) j wr ∧ wr.heap[z]? = some (.cells #[.int .i64 c.fn, .int .i64 c.pc, c.lv, c.sv] 48 (0, 0))) (fun _ v30 _ => Ls - (intOf v30).toNat)
        case atStart => exact ⟨0, Nat.zero_le _, rfl, HI2.out, HZ.out⟩
        case round =>
          rename World => wi
          obtain ⟨j, hj, rfl, hI, hz⟩ := hrel
          have f2 := xaaZ hz 2
          have f3 := xaaZ hz 3
          simp at f2 f3
          rw [hlv] at f2
          rw [hsv] at f3
          have HI3 := hideP hI
          have HZ3 := hideP hz
          clear hI hz
          by_cases hlt : j < Ls
          · have hlti : (j : Int) < (Ls : Int) := by omega
            obtain ⟨gl, ol, cl9, hlv9, hdo⟩ := HD.out.doS i j c x HX.out.2 HX.out.1 (by rw [hLs]; exact hlt)
            rw [hsv, hLs] at hlv9
            cases hlv9
            have HDO := hideP (hdo wi HI3.out)
            clear hdo
            go_wp2_with fail
            refine HDO.out.mono ?_
            rintro e w5 ⟨rfl, hI5, hk5⟩
            have HI5 := hideP hI5
            have HZ5 := hideP ((hk5.2 _ _ _ HZ3.out).trans HZ3.out)
            clear hI5 hk5
            go_wp2
            go_roundw
            case rel => exact ⟨j + 1, by omega, by go_num, HI5.out, HZ5.out⟩
            case measure => simp [intOf]; omega
          · have hlti : ¬ (j : Int) < (Ls : Int) := by omega
            have hje : j = Ls := by omega
            subst hje
            have HI4 := hideP (HA.out.nextS i x _ HX.out.1 (by rw [hLs]; exact HI3.out))
            clear f2 f3 hlti hj HZ3 HI3
            go_wp2
            go_roundw
            case rel => exact ⟨i + 1, by omega, by go_num, HI4.out⟩
            case measure => simp [intOf]; omega
end Go.Proofs.YtcadpoknolefpaaGreat


/- slices.Sort and slices.Compact at rows of numbers that are our own. -/
namespace Go.Proofs.YtcadpoknolefpaaGreat
open Go.RowKit
set_option linter.unusedSimpArgs false
set_option linter.unusedVariables false
abbrev sortI (zs : List Int) : List Int := zs.mergeSort fun x y => decide (x ≤ y)
theorem xojZ (zs : List Int) : ∀ j, j < zs.length → zs.toArray[j]! ∈ Lib.compact zs
  | 0, h => by
    unfold Lib.compact Lib.compactUpTo
    exact List.mem_map.2 ⟨0, List.mem_filter.2 ⟨List.mem_range.2 h, by simp [Lib.keeps]⟩, rfl⟩
  | j + 1, h => by
    by_cases hk : Lib.keeps zs.toArray (j + 1) = true
    · unfold Lib.compact Lib.compactUpTo
      exact List.mem_map.2 ⟨j + 1, List.mem_filter.2 ⟨List.mem_range.2 h, hk⟩, rfl⟩
    · have h1 := xojZ zs j (by omega)
      simp [Lib.keeps] at hk
      have : zs.toArray[j + 1]! = zs.toArray[j]! := by simpa using hk
      rw [this]
      exact h1
theorem xq8Z {zs : List Int} {x : Int} : x ∈ Lib.compact zs ↔ x ∈ zs := by
  constructor
  · intro h
    unfold Lib.compact Lib.compactUpTo at h
    obtain ⟨j, hj, rfl⟩ := List.mem_map.1 h
    have hl := List.mem_range.1 (List.mem_filter.1 hj).1
    have : zs.toArray[j]! = zs[j] := by simp [hl]
    rw [this]
    exact List.getElem_mem hl
  · intro h
    obtain ⟨j, hj, rfl⟩ := List.getElem_of_mem h
    have := xojZ zs j hj
    have e : zs.toArray[j]! = zs[j] := by simp [hj]
    rwa [e] at this
theorem mem_sortI {zs : List Int} {x : Int} : x ∈ sortI zs ↔ x ∈ zs := List.mem_mergeSort
theorem xe4Z (zs : List Int) : (sortI zs).length = zs.length := List.length_mergeSort zs
theorem xnmZ {w : World} {g : Nat} {cur : Array Value} {zs : List Int} {t : TypeId} (hg : w.heap[g]? = some (.cells cur t (0, 0))) (hx : cur.toList.take (zs.length * 1) = zs.map (Value.int .i64)) : Sort.Holds (Value.int .i64) w g 0 zs.toArray := by
  intro j hj
  have hf := Lib.frozen_of_heap hg j
  have hj' : j < zs.length := by simpa using hj
  have h1 : cur.toList[j]? = some (.int .i64 zs[j]) := by
    have h2 : (cur.toList.take (zs.length * 1))[j]? = some (.int .i64 zs[j]) := by rw [hx]; simp [hj']
    rw [List.getElem?_take] at h2
    split at h2
    · exact h2
    · cases h2
  refine ⟨?_, by simpa using hf⟩
  rw [xaaZ hg]
  simp [hj'] at h1 ⊢
  simpa using h1
theorem put_row {w : World} {g n : Nat} {cur : Array Value} {t : TypeId} (hg : w.heap[g]? = some (.cells cur t (0, 0))) (d : List Int) (hd : d.length ≤ cur.size) : ∃ cur', (Sort.putRow (Value.int .i64) (Sort.ahead w n) g 0 d.toArray).heap[g]? = some (.cells cur' t (0, 0)) ∧ cur'.size = cur.size ∧ cur'.toList.take d.length = d.map (Value.int .i64) := by
  refine ⟨Sort.putCells (Value.int .i64) 0 d.toArray cur, ?_, ?_, ?_⟩
  · simp only [Sort.putRow, Sort.mapBlock, Sort.ahead, Array.getElem?_modify, if_true, hg, Option.map_some, Sort.onCells]
  · simp [Sort.putCells]
  · apply List.ext_getElem?
    intro k
    rw [List.getElem?_take]
    by_cases hk : k < d.length
    · rw [if_pos hk]
      have hk2 : k < cur.size := by omega
      simp [Sort.putCells, hk, hk2]
    · rw [if_neg hk]
      simp [hk]
theorem sort_row {w : World} {B : Nat} {v : Value} {zs : List Int} (h : w.ownsRow B 3 1 v zs.length (zs.map (Value.int .i64))) (hn : zs.length ≤ 100000) : Calls Tryz.prog 76 #[v] w fun e w' => e = .returned (.tuple #[]) ∧ w'.ownsRow B 3 1 v zs.length ((sortI zs).map (Value.int .i64)) ∧ w.grownBy w' v.ownBlock := by
  rcases h.2 with ⟨rfl, h0⟩ | ⟨g, cap, cur, rfl, hb, hg, h1, h2, h3, h4⟩
  · have hz : zs = [] := List.length_eq_zero_iff.1 h0
    subst hz
    refine (Any.slices_Sort_int_none Tryz.lays189 none 0 w).mono ?_
    rintro e w' ⟨rfl, rfl⟩
    exact ⟨rfl, by simpa using World.ownsRow_nil _ _ _ _, ⟨rfl, rfl, rfl, Nat.le_refl _, fun _ _ _ => rfl⟩⟩
  · have hlt := xacZ hg
    refine (Tryz.slices_Sort_int g 0 cap zs w (xnmZ hg h4) hlt (by omega)).mono ?_
    rintro e w' ⟨rfl, n, os, rfl⟩
    obtain ⟨cur', hc, hs, ht⟩ := put_row (n := n) hg (sortI zs) (by rw [xe4Z]; omega)
    refine ⟨rfl, ⟨by simp, .inr ⟨g, cap, cur', rfl, hb, ?_, h1, h2, by omega, by rw [xe4Z] at ht; simpa using ht⟩⟩, (xe7Z w g _ n).trans (xmaZ _ _ _)⟩
    have h5 := xacZ hc
    show (_ ++ os)[g]? = _
    rw [Array.getElem?_append_left h5]
    exact hc
theorem xr7Z {w : World} {B : Nat} {v : Value} {zs : List Int} (h : w.ownsRow B 3 1 v zs.length (zs.map (Value.int .i64))) (hn : zs.length ≤ 100000) : Calls Tryz.prog 77 #[v] w fun e w' => ∃ u, e = .returned u ∧ w'.ownsRow B 3 1 u (Lib.compact zs).length ((Lib.compact zs).map (Value.int .i64)) ∧ w.grownBy w' v.ownBlock ∧ ∀ k, u.ownBlock = some k → v.ownBlock = some k := by
  rcases h.2 with ⟨rfl, h0⟩ | ⟨g, cap, cur, rfl, hb, hg, h1, h2, h3, h4⟩
  · have hz : zs = [] := List.length_eq_zero_iff.1 h0
    subst hz
    refine (Tryz.slices_Compact_int_empty none 0 w).mono ?_
    rintro e w' ⟨rfl, rfl⟩
    exact ⟨_, rfl, by simpa [Lib.compact, Lib.compactUpTo] using World.ownsRow_nil _ _ _ _, ⟨rfl, rfl, rfl, Nat.le_refl _, fun _ _ _ => rfl⟩, fun k hk => hk⟩
  · have hle : (Lib.compact zs).length ≤ zs.length := by
      unfold Lib.compact Lib.compactUpTo
      rw [List.length_map]
      exact Nat.le_trans (List.length_filter_le _ _) (by simp)
    refine (Tryz.slices_Compact_int g 0 cap zs w (xnmZ hg h4) (by omega) h1).mono ?_
    rintro e w' ⟨rfl, n, rfl⟩
    obtain ⟨cur', hc, hs, ht⟩ := put_row (n := n) hg (Lib.compact zs ++ List.replicate (zs.length - (Lib.compact zs).length) 0) (by simp; omega)
    refine ⟨_, rfl, ⟨by simp, .inr ⟨g, cap, cur', rfl, hb, hc, by omega, h2, by omega, ?_⟩⟩, xe7Z w g _ n, fun k hk => hk⟩
    have h5 := congrArg (List.take (Lib.compact zs).length) ht
    rw [List.take_take] at h5
    simp only [List.length_append, List.length_replicate, List.map_append] at h5
    rw [Nat.min_eq_left (by omega), List.take_left' (by simp)] at h5
    simpa using h5
end Go.Proofs.YtcadpoknolefpaaGreat


/- collect: what is done at each value: Roots$1, Collect$1. -/
namespace Go.Proofs.YtcadpoknolefpaaGreat
open Go.RowKit
set_option linter.unusedSimpArgs false
set_option linter.unusedVariables false
theorem xjuZ (b : Bool) (n : Int) (w : World) : Calls Tryz.prog 75 #[.agg #[.bool b, .int .i64 n]] w fun e w' => e = .returned (.bool (xbsZ (b, n))) ∧ Below w.heap.size w w' := by
  obtain ⟨W1, hW1⟩ : ∃ W1, w.alloc (.cells #[.bool b, .int .i64 n] 50) = W1 := ⟨_, rfl⟩
  have b1 : Below w.heap.size w W1 := by rw [← hW1]; exact (Below.refl _ w).alloc (Nat.le_refl _) _
  have u1 : W1.heap[w.heap.size]? = some (.cells #[.bool b, .int .i64 n] 50 (0, 0)) := by rw [← hW1]; exact World.alloc_heap_new w _
  have a0 := xaaZ u1 0
  have a1 := xaaZ u1 1
  simp at a0 a1
  have HB := hideP b1
  clear u1 b1
  cases b
  · go_enter Tryz.func75, Tryz.ntmps75
    go_wp2
    go_ret
    exact ⟨by simp [xbsZ], HB.out⟩
  · by_cases hn : n = 0
    · have e1 : (n != 0) = false := by simpa using hn
      have e2 : xbsZ (true, n) = false := by simp [xbsZ, hn]
      rw [e2]
      clear hn e2
      go_enter Tryz.func75, Tryz.ntmps75
      go_wp2
      go_ret
      exact ⟨rfl, HB.out⟩
    · have e1 : (n != 0) = true := by simpa using hn
      have e2 : xbsZ (true, n) = true := by simp [xbsZ, hn]
      rw [e2]
      clear hn e2
      go_enter Tryz.func75, Tryz.ntmps75
      go_wp2
      go_ret
      exact ⟨rfl, HB.out⟩
theorem idxOf_at {x : Int} : ∀ {l : List Int} {k : Nat}, l[k]? = some x → (∀ o ∈ l.take k, (!(o == x)) = true) → l.idxOf x = k
  | [], k, h, _ => by simp at h
  | a :: l, 0, h, _ => by simp at h; subst h; simp
  | a :: l, k + 1, h, hn => by
    have h1 : (!(a == x)) = true := hn a (by simp)
    have h2 : (a == x) = false := by simpa using h1
    rw [List.idxOf_cons, h2]
    simp only [cond_false]
    rw [idxOf_at (l := l) (k := k) (by simpa using h) (fun o ho => hn o (by simp [ho]))]
theorem xr3Z (l : List Int) (x : Int) (v : Value) (w : World) (h : IntsAt w v l) (hx : x ∈ l) : Calls Tryz.prog 80 #[v, .int .i64 x] w fun e w' => e = .returned (.int .i64 (l.idxOf x : Nat)) ∧ w' = w := by
  obtain ⟨p, cap, rfl, hm, hc⟩ := h
  unfold maxLen at hm
  have HX := hideP hx
  clear hx
  go_enter Tryz.func80, Tryz.ntmps80
  go_wp2
  go_loopw [5, 8] (fun _ i wr => ∃ k : Nat, k ≤ l.length ∧ i = .int .i64 k ∧ (∀ o ∈ l.take k, (!(o == x)) = true) ∧ wr = w) (fun _ i _ => l.length - (intOf i).toNat)
  case atStart => exact ⟨0, Nat.zero_le _, rfl, by simp, rfl⟩
  case round =>
    obtain ⟨k, hk, rfl, hok, hbw⟩ := hrel
    subst hbw
    have HK : Hid (∀ o ∈ l.take k, (!(o == x)) = true) := hok
    clear hok
    have HC := hideP hc
    clear hc
    by_cases hlt : k < l.length
    · obtain ⟨z, ho⟩ := xaiZ hlt
      obtain ⟨b, off, rfl, hb, h0⟩ := HC.out k _ ho
      have HO : Hid (l[k]? = some z) := ho
      clear ho
      cases hnb : (z == x)
      · have hnb' : (x == z) = false := by rw [Bool.eq_false_iff] at hnb ⊢; intro h; simp at h hnb; exact hnb h.symm
        go_wp2
        go_roundw
        case rel => exact ⟨k + 1, by omega, by go_num, xdjZ HK.out HO.out (by rw [hnb]; rfl), trivial⟩
        case measure => simp [intOf]; omega
      · obtain rfl : z = x := by simpa using hnb
        go_wp2
        go_ret
        exact ⟨by rw [idxOf_at HO.out HK.out]; rfl, rfl⟩
    · have hlt' : ¬ (k : Int) < (l.length : Int) := by omega
      exfalso
      have := HK.out
      rw [List.take_of_length_le (by omega)] at this
      have := this x HX.out
      simp at this
theorem drew_new1 (w : World) (n : Int) : (w.alloc (.cells #[.int .i64 n] 3)).drew.cell? ⟨w.heap.size, 0, none⟩ = some (.int .i64 n) := (xaaZ (World.alloc_heap_new w (.cells #[.int .i64 n] 3)) 0).trans rfl
theorem roots1_any (rb gl off B : Nat) (v : Val) (u : Value) (zs : List Int) (W : World) (h0 : W.cell? ⟨gl, off, none⟩ = some (.bool v.1)) (h1 : W.cell? ⟨gl, off + 1, none⟩ = some (.int .i64 v.2)) (hgl : gl < W.heap.size) (hrb : W.heap[rb]? = some (.cells #[u] 27 (0, 0))) (hrow : W.ownsRow B 3 1 u zs.length (zs.map (Value.int .i64))) (hn : zs.length ≤ 100000) (hB : B ≤ W.heap.size) : Calls Tryz.prog 74 #[.pointer (some ⟨gl, off, none⟩), .pointer (some ⟨rb, 0, none⟩)] W fun e w' => e = .returned (.tuple #[]) ∧ ∃ u', w'.heap[rb]? = some (.cells #[u'] 27 (0, 0)) ∧ w'.ownsRow B 3 1 u' (zs ++ if xbsZ v = true then [v.2] else []).length ((zs ++ if xbsZ v = true then [v.2] else []).map (Value.int .i64)) ∧ FrKept W w' ∧ ∀ (B0 : Nat) (W0 : World), B0 ≤ B → B0 ≤ rb → B0 ≤ W.heap.size → Below B0 W0 W → Below B0 W0 w' := by
  obtain ⟨b, n⟩ := v
  simp only at h0 h1
  have HRB := hideP hrb
  have HROW := hideP hrow
  have HH := hideP (xjuZ b n W)
  have hlb := xacZ hrb
  by_cases hi : xbsZ (b, n) = true
  rotate_left
  · have hi' : xbsZ (b, n) = false := by simpa using hi
    rw [if_neg hi, List.append_nil]
    rw [hi'] at HH
    clear hrb hrow
    go_enter Tryz.func74, Tryz.ntmps74
    go_wp2_with fail
    refine HH.out.mono ?_
    rintro e w2 ⟨rfl, b2⟩
    go_wp2
    go_end0
    have h2 := (b2.block rb hlb).trans HRB.out
    exact ⟨rfl, u, h2, xavZ HROW.out fun j hj => b2.block j (HROW.out.lt j hj).2, xhoZ b2, fun B0 W0 _ _ hs hb => hb.trans (b2.mono hs)⟩
  · rw [if_pos hi]
    rw [hi] at HH
    obtain ⟨i0, hi0, hz0, hz1, hz2⟩ := info_parts xgnZ
    clear hrb hrow
    go_enter Tryz.func74, Tryz.ntmps74
    go_wp2_with fail
    refine HH.out.mono ?_
    rintro e w2 ⟨rfl, b2⟩
    have d1 := (b2.cell (p := ⟨gl, off + 1, none⟩) hgl).trans h1
    have hr2 := (b2.block rb hlb).trans HRB.out
    have r0 := xaaZ hr2 0
    simp at r0
    have z0 := Lib.frozen_of_heap hr2 0
    have HR2 := hideP hr2
    have HROW2 : Hid (w2.ownsRow B 3 1 u zs.length (zs.map (Value.int .i64))) := xavZ HROW.out fun j hj => b2.block j (HROW.out.lt j hj).2
    have HB2 := hideP b2
    have hB2 : B ≤ w2.heap.size := Nat.le_trans hB b2.size
    have hr2a := fun o => xakZ HR2.out o
    have r0a := fun o => xabZ r0 o
    have d1a := fun o => xabZ d1 o
    clear hr2 h0 h1 hi
    go_wp2_with fail
    go_region_law
      (refine xe6Z rfl _ _ 27 rfl B 3 i0 (.int .i64 0) 1 8 Tryz.underlying27 hi0 hz0 hz1 hz2 rfl (by decide) _ _ _ rfl (HROW2.out.alloc _) ⟨w2.heap.size, 0, none⟩ 1 1 [.int .i64 n] rfl rfl (xepZ (drew_new1 w2 n)) (by simp [Value.oneCell']) (by unfold maxLen; omega) (by omega) (by simp; omega) ?_; intro v' w4 hown4 hg4 hat4; obtain ⟨p4, c4, hv4⟩ := xahZ hown4; subst hv4; have hb4 := (hg4.block rb (xacZ (hr2a _)) (xcgZ HROW2.out HR2.out (by decide))).trans (hr2a _); have m4 := xaaZ hb4 0; have z4 := Lib.frozen_of_heap hb4 0; simp at m4; have HO4 := hideP hown4; have HG4 := hideP hg4; have HB4 := hideP hb4; clear hown4 hg4 hb4 hat4)
    all_goals
      go_wp2
      go_end0
      have hO := HO4.out
      have hhs := heap_setCell_same w4 rb 0 _ _ (.slice p4 (zs.length + 1) c4) HB4.out
      have hsg := xalZ w4 ⟨rb, 0, none⟩ (.slice p4 (zs.length + 1) c4)
      have hty : TyRow w4 (some rb) 27 := xbcZ HB4.out
      have hO2 := xbgZ hO hsg hty (by decide)
      have hb9 : Below w2.heap.size w2 (w2.alloc (.cells #[.int .i64 n] 3)).drew := ((Below.refl _ w2).alloc (Nat.le_refl _) _).drew
      have hb10 : Below W.heap.size W (w2.alloc (.cells #[.int .i64 n] 3)).drew := xadZ HB2.out hb9
      have htr : TyRow (w2.alloc (.cells #[.int .i64 n] 3)).drew u.ownBlock 3 := fun r hr => (by
        obtain ⟨cs, fz, h⟩ := xe1Z HROW2.out r hr
        exact ⟨cs, fz, xakZ h _⟩)
      have hsz := hb10.size
      refine ⟨rfl, _, by simpa using hhs, by simpa using hO2, ((xhoZ hb10).trans (xkeZ HG4.out htr (by decide))).trans (xkeZ hsg hty (by decide)), fun B0 W0 h1 h2 h3 h4 => ?_⟩
      exact ((h4.trans (hb10.mono h3)).grown HG4.out (by omega) (fun k hk => Nat.le_trans h1 (HROW2.out.lt k hk).1)).setCell h2 _
theorem coll1_any (tb rb gl off : Nat) (v : Val) (S : List Int) (u y : Value) (W : World) (h0 : W.cell? ⟨gl, off, none⟩ = some (.bool v.1)) (h1 : W.cell? ⟨gl, off + 1, none⟩ = some (.int .i64 v.2)) (hgl : gl < W.heap.size) (hf : ∀ W', Below W.heap.size W W' → W'.frozen? ⟨gl, off + 1, none⟩ = false) (htb : W.heap[tb]? = some (.cells #[y] 27 (0, 0))) (hrb : W.heap[rb]? = some (.cells #[u] 27 (0, 0))) (hu : IntsAt W u S) (hy : IntsAt W y (S.map (xaoZ S))) (hv : xbsZ v = true → v.2 ∈ S) : Calls Tryz.prog 79 #[.pointer (some ⟨gl, off, none⟩), .pointer (some ⟨tb, 0, none⟩), .pointer (some ⟨rb, 0, none⟩)] W fun e w' => e = .returned (.tuple #[]) ∧ ∃ W2, Below W.heap.size W W2 ∧ w' = if xbsZ v = true then W2.setCell ⟨gl, off + 1, none⟩ (.int .i64 (xaoZ S v.2)) else W2 := by
  obtain ⟨b, n⟩ := v
  simp only at h0 h1 hv ⊢
  have HH := hideP (xjuZ b n W)
  have ltb := xacZ htb
  have lrb := xacZ hrb
  by_cases hi : xbsZ (b, n) = true
  rotate_left
  · have hi' : xbsZ (b, n) = false := by simpa using hi
    rw [hi'] at HH ⊢
    clear htb hrb hu hy hv
    go_enter Tryz.func79, Tryz.ntmps79
    go_wp2_with fail
    refine HH.out.mono ?_
    rintro e w2 ⟨rfl, b2⟩
    go_wp2
    go_end0
    first
      | exact ⟨rfl, b2⟩
      | exact ⟨rfl, _, b2, rfl⟩
  · rw [hi] at HH ⊢
    have hmem := hv hi
    obtain ⟨k, hk⟩ : ∃ k, S.idxOf n = k := ⟨_, rfl⟩
    have hkl : k < S.length := by rw [← hk]; exact List.idxOf_lt_length_iff.2 hmem
    have hSk : S[k]? = some n := by
      rw [List.getElem?_eq_getElem hkl]
      congr 1
      subst hk
      exact List.getElem_idxOf hkl
    have HIX : Hid (∀ W', Below W.heap.size W W' → Calls Tryz.prog 80 #[u, .int .i64 n] W' fun e w' => e = .returned (.int .i64 (k : Nat)) ∧ w' = W') := fun W' hW => by
      have := xr3Z S n u W' (hu.below hW) hmem
      rw [hk] at this
      exact this
    obtain ⟨py, cy, hys, -, hyc⟩ := id hy
    rw [List.length_map] at hys
    obtain ⟨gy, oy, hpy, hgy, hyk⟩ := hyc k (xaoZ S n) (by rw [List.getElem?_map, hSk]; rfl)
    subst hpy hys
    have hkli : (k : Int) < (S.length : Int) := by omega
    have HF := hideP hf
    have HK := hideP (And.intro htb (And.intro hrb hyk))
    clear hu hy hyc hv hmem hk hSk htb hrb hyk hi
    go_enter Tryz.func79, Tryz.ntmps79
    go_wp2_with fail
    refine HH.out.mono ?_
    rintro e w2 ⟨rfl, b2⟩
    have d1 := (b2.cell (p := ⟨gl, off + 1, none⟩) hgl).trans h1
    have r0 := xaaZ ((b2.block rb lrb).trans HK.out.2.1) 0
    have t0 := xaaZ ((b2.block tb ltb).trans HK.out.1) 0
    have y0 := (b2.cell (p := ⟨gy, oy + k, none⟩) hgy).trans HK.out.2.2
    have z0 := HF.out w2 b2
    have HB2 := hideP b2
    have HIX2 : Hid (∀ W', Below w2.heap.size w2 W' → Calls Tryz.prog 80 #[u, .int .i64 n] W' fun e w' => e = .returned (.int .i64 (k : Nat)) ∧ w' = W') := fun W' hW => HIX.out W' (xadZ b2 hW)
    simp at r0 t0
    clear h0 h1 b2 HIX
    go_wp2_with fail
    go_region_with (first
      | (go_at_call 80; refine (HIX2.out _ (Below.refl _ w2).drew).mono ?_; rintro e w5 ⟨rfl, rfl⟩))
    all_goals
      go_wp2
      go_end0
      exact ⟨rfl, _, xadZ HB2.out (Below.refl _ w2).drew, rfl⟩
end Go.Proofs.YtcadpoknolefpaaGreat


/- collect.Roots. -/
namespace Go.Proofs.YtcadpoknolefpaaGreat
open Go.RowKit
set_option linter.unusedSimpArgs false
set_option linter.unusedVariables false
theorem xkyZ {α β : Type} : ∀ (l : List α) (P : Nat → α → β → Prop), (∀ k x, l[k]? = some x → ∃ y, P k x y) → ∃ q : List β, q.length = l.length ∧ ∀ k x y, l[k]? = some x → q[k]? = some y → P k x y
  | [], P, h => ⟨[], rfl, fun k x y h1 => by simp at h1⟩
  | a :: l, P, h => by
    obtain ⟨b, hb⟩ := h 0 a rfl
    obtain ⟨q, h1, h2⟩ := xkyZ l (fun k => P (k + 1)) (fun k x hk => h (k + 1) x (by simpa using hk))
    refine ⟨b :: q, by simp [h1], fun k x y hx hy => ?_⟩
    cases k with
    | zero => simp at hx hy; subst hx hy; exact hb
    | succ k => exact h2 k x y (by simpa using hx) (by simpa using hy)
def FrmIs (W : World) (p : Option Addr) (i : Nat) (x : Frm) (c : FV) : Prop := ∃ g off, p = some ⟨g, off, none⟩ ∧ g < W.heap.size ∧ W.cell? ⟨g, off + i * 4, none⟩ = some (.int .i64 c.fn) ∧ W.cell? ⟨g, off + i * 4 + 1, none⟩ = some (.int .i64 c.pc) ∧ W.cell? ⟨g, off + i * 4 + 2, none⟩ = some c.lv ∧ W.cell? ⟨g, off + i * 4 + 3, none⟩ = some c.sv ∧ ValsAt W c.lv x.loc ∧ ValsAt W c.sv x.stk
theorem frms_list {W : World} {p : Option Addr} {n cap : Nat} {F : List Frm} (h : FrmsAt W (.slice p n cap) F) : ∃ q : List FV, q.length = F.length ∧ ∀ i x c, F[i]? = some x → q[i]? = some c → FrmIs W p i x c := by
  obtain ⟨p', cap', he, -, -, hf⟩ := h
  cases he
  refine xkyZ F (FrmIs W p) fun i x hx => ?_
  obtain ⟨g, off, lv, sv, hp, hg, h0, h1, h2, h3, h4, _, h5, _⟩ := hf i x hx
  exact ⟨⟨x.fn, x.pc, lv, sv⟩, g, off, hp, hg, h0, h1, h2, h3, h4, h5⟩
def xcfZ (M : Mach) : List Int := Lib.compact (sortI (refsM M))
theorem xizZ {M : Mach} {x : Int} : x ∈ xcfZ M ↔ x ∈ refsM M := xq8Z.trans mem_sortI
noncomputable def xeiZ (p : List Fn) (M : Mach) : List Int := if xaqZ p M = 0 then xcfZ M else []
theorem ent_roots1 : Ent 74 := xceZ Tryz.func74 (by kernel_rfl) rfl
def RootI (rb : Nat) (W0 : World) (L : List (List Val)) (r j : Nat) (W : World) : Prop := Below rb W0 W ∧ rb < W.heap.size ∧ ∃ u, W.heap[rb]? = some (.cells #[u] 27 (0, 0)) ∧ W.ownsRow rb 3 1 u (xd3Z L r j).length ((xd3Z L r j).map (Value.int .i64))
theorem vals_at {W : World} {v : Value} {l : List Val} {j : Nat} (h : ValsAt W v l) (hj : j < l.length) : ∃ b off cap o, v = .slice (some ⟨b, off, none⟩) l.length cap ∧ l[j]? = some o ∧ b < W.heap.size ∧ W.cell? ⟨b, off + j * 2, none⟩ = some (.bool o.1) ∧ W.cell? ⟨b, off + j * 2 + 1, none⟩ = some (.int .i64 o.2) := by
  obtain ⟨p, cap, rfl, _, hc⟩ := h
  obtain ⟨o, ho⟩ := xaiZ hj
  obtain ⟨b, off, rfl, hb, h0, h1⟩ := hc j o ho
  exact ⟨b, off, cap, o, rfl, ho, hb, h0, h1⟩
theorem vals_shp {W : World} {v : Value} {l : List Val} (h : ValsAt W v l) : ∃ p c, v = .slice p l.length c := by
  obtain ⟨p, cap, rfl, _⟩ := h
  exact ⟨p, cap, rfl⟩
theorem xn3Z {rb b off r j : Nat} {W0 : World} {F : List Frm} {l : List Val} {o : Val} (hr : (fVals F)[r]? = some l) (ho : l[j]? = some o) (hs : ∀ l ∈ fVals F, l.length ≤ 20) (h6 : F.length ≤ 6) (hb : b < rb) (h0 : W0.cell? ⟨b, off, none⟩ = some (.bool o.1)) (h1 : W0.cell? ⟨b, off + 1, none⟩ = some (.int .i64 o.2)) (W : World) (hI : RootI rb W0 (fVals F) r j W) : Calls Tryz.prog 74 (#[.pointer (some ⟨b, off, none⟩)] ++ #[.pointer (some ⟨rb, 0, none⟩)]) W fun e w' => e = .returned (.tuple #[]) ∧ RootI rb W0 (fVals F) r (j + 1) w' ∧ FrKept W w' := by
  obtain ⟨hbel, hlt, u, hu, hrow⟩ := hI
  have hL := xbvZ F
  have hle := xkmZ (r := r) (j := j) hs (by omega)
  refine (roots1_any rb b off rb o u _ W ((hbel.cell (p := ⟨b, off, none⟩) hb).trans h0) ((hbel.cell (p := ⟨b, off + 1, none⟩) hb).trans h1) (by omega) hu hrow (by omega) (by omega)).mono ?_
  rintro e w' ⟨rfl, u', h2, h3, h4, h5⟩
  refine ⟨rfl, ⟨h5 rb W0 (Nat.le_refl _) (Nat.le_refl _) (by omega) hbel, Nat.lt_of_lt_of_le hlt h4.1, u', h2, ?_⟩, h4⟩
  rw [xr0Z hr ho]
  exact h3
theorem xn8Z (M : Mach) (p : List Fn) (pv fv bv iv ov : Value) (w : World) (h : CkAt w p pv fv bv iv ov M) (hpc : PcOk M) : Calls Tryz.prog 36 #[.agg #[pv], .agg #[fv, bv, iv, ov, .int .i64 M.status, .int .i64 M.trap]] w fun e w' => ∃ u, e = .returned (.tuple #[u, .int .i64 (xaqZ p M)]) ∧ w'.ownsRow w.heap.size 3 1 u (xeiZ p M).length ((xeiZ p M).map (Value.int .i64)) ∧ Below w.heap.size w w' := by
  obtain ⟨⟨pp, qp, hpv⟩, ⟨pf, cf, hfv⟩, ⟨pb, cb, hbv⟩, ⟨pi, ci, hiv⟩, ⟨po, co, hov⟩⟩ := h.shp
  subst hpv hfv hbv hiv hov
  obtain ⟨W1, hW1⟩ : ∃ W1, (w.alloc (.cells #[.slice pp p.length qp] 24)).alloc (.cells #[.slice pf M.frames.length cf, .slice pb M.blocks.length cb, .slice pi M.inp.length ci, .slice po M.out.length co, .int .i64 M.status, .int .i64 M.trap] 29) = W1 := ⟨_, rfl⟩
  have b1 : Below w.heap.size w W1 := by rw [← hW1]; exact ((Below.refl _ w).alloc (Nat.le_refl _) _).alloc (by simp) _
  have u1 : W1.heap[w.heap.size]? = some (.cells #[.slice pp p.length qp] 24 (0, 0)) := by rw [← hW1]; exact xakZ (World.alloc_heap_new w _) _
  have u2 : W1.heap[w.heap.size + 1]? = some (.cells #[.slice pf M.frames.length cf, .slice pb M.blocks.length cb, .slice pi M.inp.length ci, .slice po M.out.length co, .int .i64 M.status, .int .i64 M.trap] 29 (0, 0)) := by rw [← hW1]; exact xbaZ _ _ _
  have KC : Hid (∀ W, Below W1.heap.size W1 W → W.cell? ⟨w.heap.size, 0, none⟩ = some (.slice pp p.length qp) ∧ W.cell? ⟨w.heap.size + 1, 0, none⟩ = some (.slice pf M.frames.length cf) ∧ W.cell? ⟨w.heap.size + 1, 1, none⟩ = some (.slice pb M.blocks.length cb) ∧ W.cell? ⟨w.heap.size + 1, 2, none⟩ = some (.slice pi M.inp.length ci) ∧ W.cell? ⟨w.heap.size + 1, 3, none⟩ = some (.slice po M.out.length co) ∧ W.cell? ⟨w.heap.size + 1, 4, none⟩ = some (.int .i64 M.status) ∧ W.cell? ⟨w.heap.size + 1, 5, none⟩ = some (.int .i64 M.trap)) := fun W hW => by
    have h1 := (hW.block _ (xacZ u1)).trans u1
    have h2 := (hW.block _ (xacZ u2)).trans u2
    exact ⟨xaaZ h1 0, xaaZ h2 0, xaaZ h2 1, xaaZ h2 2, xaaZ h2 3, xaaZ h2 4, xaaZ h2 5⟩
  have H1 := h.below b1
  have HCK := hideP (xgcZ M p _ _ _ _ _ W1 H1 hpc)
  have HH := hideP H1
  have HB1 := hideP b1
  clear h H1 u1 u2 hpc b1
  obtain ⟨e0, d0, d1, d2, d3, d4, d5⟩ := KC.out W1 (Below.refl _ _)
  by_cases hc : xaqZ p M = 0
  rotate_left
  · have hc' : (xaqZ p M != 0) = true := by simpa using hc
    have hR : xeiZ p M = [] := by unfold xeiZ; rw [if_neg hc]
    rw [hR]
    generalize xaqZ p M = er at *
    clear hc hR
    go_enter Tryz.func36, Tryz.ntmps36
    go_wp2_with fail
    refine HCK.out.mono ?_
    rintro e w2 ⟨rfl, b2⟩
    go_wp2
    go_ret2
    exact ⟨_, rfl, World.ownsRow_nil _ _ _ _, xadZ HB1.out b2⟩
  have hR : xeiZ p M = xcfZ M := by unfold xeiZ; rw [if_pos hc]
  rw [hR]
  obtain ⟨hp, he, hRi⟩ := xa1Z.1 hc
  have sm := (xb1Z hp he hRi).1
  have h6 : M.frames.length ≤ 6 := sm.fr
  have hsm : ∀ l ∈ fVals M.frames, l.length ≤ 20 := fun l hl => by
    obtain ⟨x, hx, hxl⟩ := List.mem_flatMap.1 hl
    have := sm.each x hx
    simp at hxl
    rcases hxl with rfl | rfl
    · exact this.1
    · exact this.2
  have hrl : (refsM M).length ≤ 260 := by
    have := xkmZ (r := 2 * M.frames.length) (j := 0) hsm (by have := xbvZ M.frames; omega)
    rw [xi1Z] at this
    exact this
  have HSM := hideP (And.intro hsm (And.intro h6 hrl))
  rw [hc] at HCK ⊢
  clear hR hp he hRi sm hsm hrl hc
  go_enter Tryz.func36, Tryz.ntmps36
  go_wp2_with fail
  refine HCK.out.mono ?_
  rintro e w2 ⟨rfl, b2⟩
  obtain ⟨rb, hrb⟩ : ∃ rb, w2.heap.size = rb := ⟨_, rfl⟩
  obtain ⟨W3, hW3⟩ : ∃ W3, w2.alloc (.cells #[.slice none 0 0] 27) = W3 := ⟨_, rfl⟩
  have b3 : Below w2.heap.size w2 W3 := by rw [← hW3]; exact (Below.refl _ w2).alloc (Nat.le_refl _) _
  have u3 : W3.heap[rb]? = some (.cells #[.slice none 0 0] 27 (0, 0)) := by rw [← hW3, ← hrb]; exact World.alloc_heap_new w2 _
  have hb2 := xadZ HB1.out b2
  obtain ⟨q, hql, hq⟩ := frms_list (HH.out.below b2).mach.fr
  have hI0 : RootI rb w2 (fVals M.frames) 0 0 W3 := ⟨hrb ▸ b3, xacZ u3, _, u3, World.ownsRow_nil _ _ _ _⟩
  have hA : EachAt (RootI rb w2 (fVals M.frames)) pf cf q M.frames := {
    len := hql
    few := h6
    rowL := fun i c x hc hx => ⟨by have := HSM.out.1 x.loc (List.mem_of_getElem? (xb9Z M.frames i x hx).1); omega, by obtain ⟨g, off, _, _, _, _, _, _, h4, _⟩ := hq i x c hx hc; exact vals_shp h4⟩
    rowS := fun i c x hc hx => ⟨by have := HSM.out.1 x.stk (List.mem_of_getElem? (xb9Z M.frames i x hx).2); omega, by obtain ⟨g, off, _, _, _, _, _, _, _, h5⟩ := hq i x c hx hc; exact vals_shp h5⟩
    cell := fun i c hc => by
      obtain ⟨x, hx⟩ := xaiZ (l := M.frames) (k := i) (by rw [← hql]; exact xafZ hc)
      obtain ⟨g, off, hpf, hg, h0, h1, h2, h3, _, _⟩ := hq i x c hx hc
      rw [hrb] at hg
      exact ⟨g, off, hpf, fun r j W hW => ⟨(hW.1.cell (p := ⟨g, off + i * 4, none⟩) hg).trans h0, (hW.1.cell (p := ⟨g, off + i * 4 + 1, none⟩) hg).trans h1, (hW.1.cell (p := ⟨g, off + i * 4 + 2, none⟩) hg).trans h2, (hW.1.cell (p := ⟨g, off + i * 4 + 3, none⟩) hg).trans h3⟩⟩
    keep := fun r j W W' hW hb => by
      obtain ⟨h1, h2, u, h3, h4⟩ := hW
      exact ⟨h1.trans (hb.mono (by omega)), Nat.lt_of_lt_of_le h2 hb.size, u, (hb.block rb h2).trans h3, xavZ h4 fun j hj => hb.block j (h4.lt j hj).2⟩
    nextL := fun i x W hx hW => by
      have h1 := (xb9Z M.frames i x hx).1
      rw [Nat.mul_comm] at h1
      unfold RootI at hW ⊢
      rw [xk3Z h1] at hW
      exact hW
    nextS := fun i x W hx hW => by
      have h1 := (xb9Z M.frames i x hx).2
      rw [Nat.mul_comm] at h1
      unfold RootI at hW ⊢
      rw [xk3Z h1] at hW
      exact hW }
  have hD : DoesAt 74 #[.pointer (some ⟨rb, 0, none⟩)] (RootI rb w2 (fVals M.frames)) q M.frames := {
    doL := fun i j c x hc hx hj => by
      obtain ⟨g, off, _, _, _, _, _, _, h4, _⟩ := hq i x c hx hc
      obtain ⟨b, o1, cl, o, hv, ho, hb, h0, h1⟩ := vals_at h4 hj
      have h2 := (xb9Z M.frames i x hx).1
      rw [Nat.mul_comm] at h2
      exact ⟨b, o1, cl, hv, fun W hW => xn3Z h2 ho HSM.out.1 HSM.out.2.1 (by omega) h0 h1 W hW⟩
    doS := fun i j c x hc hx hj => by
      obtain ⟨g, off, _, _, _, _, _, _, _, h4⟩ := hq i x c hx hc
      obtain ⟨b, o1, cl, o, hv, ho, hb, h0, h1⟩ := vals_at h4 hj
      have h2 := (xb9Z M.frames i x hx).2
      rw [Nat.mul_comm] at h2
      exact ⟨b, o1, cl, hv, fun W hW => xn3Z h2 ho HSM.out.1 HSM.out.2.1 (by omega) h0 h1 W hW⟩ }
  have HEACH := hideP (each_gen 74 _ _ pf cf q M.frames W3 ent_roots1 hA hD hI0)
  obtain ⟨e0', d0', d1', d2', d3', d4', d5'⟩ := KC.out W3 (xadZ b2 b3)
  have HB2 := hideP hb2
  have hrb2 := hideP hrb
  clear hA hD hI0 hq b2 b3 u3 hb2 e0 d0 d1 d2 d3 d4 d5
  go_wp2_with fail
  refine HEACH.out.mono ?_
  rintro e w4 ⟨rfl, hI⟩
  rw [show 2 * M.frames.length = 2 * M.frames.length from rfl] at hI
  unfold RootI at hI
  rw [xi1Z] at hI
  obtain ⟨hb4, hlt4, u, hu, hrow⟩ := hI
  obtain ⟨pu, cu, hus⟩ := xahZ hrow
  subst hus
  have c0 := xaaZ hu 0
  simp at c0
  have HU := hideP hu
  have HROW := hideP hrow
  have HSORT := hideP (sort_row hrow (by have := HSM.out.2.2; omega))
  have HB4 := hideP hb4
  clear hu hrow hb4 HEACH e0' d0' d1' d2' d3' d4' d5'
  go_wp2_with fail
  refine HSORT.out.mono ?_
  rintro e w5 ⟨rfl, hrow5, hg5⟩
  have hu5 := (hg5.block rb hlt4 (fun e => xcgZ HROW.out HU.out (by decide) e)).trans HU.out
  have hb5 : Below rb w2 w5 := HB4.out.grown hg5 (by omega) (fun k hk => (HROW.out.lt k hk).1)
  have c5 := xaaZ hu5 0
  simp at c5
  have hrow5' : w5.ownsRow rb 3 1 (.slice pu (refsM M).length cu) (sortI (refsM M)).length ((sortI (refsM M)).map (Value.int .i64)) := by rw [xe4Z]; exact hrow5
  have HCOMP := hideP (xr7Z hrow5' (by rw [xe4Z]; have := HSM.out.2.2; omega))
  have HB5 := hideP hb5
  have HROW5 := hideP hrow5'
  clear hu5 hb5 hrow5 hrow5' hg5 c0
  go_wp2_with fail
  refine HCOMP.out.mono ?_
  rintro e w6 ⟨u6, rfl, hrow6, hg6, -⟩
  have HB6 : Hid (Below rb w2 w6) := hideP (HB5.out.grown hg6 (by have := HB5.out.size; omega) (fun k hk => (HROW5.out.lt k hk).1))
  have HROW6 := hideP hrow6
  clear hrow6 hg6
  go_wp2
  go_ret2
  have hs := HB2.out.size
  have hrr := hrb2.out
  exact ⟨u6, rfl, xawZ HROW6.out (by omega), HB2.out.trans (HB6.out.mono (by omega))⟩
end Go.Proofs.YtcadpoknolefpaaGreat


