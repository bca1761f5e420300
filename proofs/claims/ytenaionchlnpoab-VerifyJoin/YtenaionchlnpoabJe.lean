/- slices.Backward at numbers: the iterator's contract. -/
import Derived.Test.YtenaionchlnpoabJd
import Derived.Test.YtenaionchlnpoabWh
namespace Go.Proofs.Ytenaionchlnpoab
open Go.RowKit Go.Shelf
set_option linter.unusedSimpArgs false
set_option linter.unusedVariables false
attribute [local go_sem] Oper.semAt_some
/-- what comes, from the k-th place down: the place, and what lies there. -/
def itsB (ts : List Int) : Nat → List (Nat × Int)
  | 0 => []
  | k + 1 => (k, ts.getD k 0) :: itsB ts k
theorem itsB_length (ts : List Int) (k : Nat) : (itsB ts k).length = k := by
  induction k with
  | zero => rfl
  | succ k ih => simp [itsB, ih]
abbrev encsB (x : Nat × Int) : Array Value := #[.int .i64 x.1, .int .i64 x.2]
/-- the box of the slice, and what it holds, stay as they are. -/
def KpB (bs : Nat) (v : Value) (ts : List Int) (W W' : World) : Prop := (Boxed W bs 23 v ∧ IntsAt W v ts) → (Boxed W' bs 23 v ∧ IntsAt W' v ts)
set_option maxRecDepth 100000 in
set_option maxHeartbeats 2000000 in
theorem back1_in (n : Nat) (hn : 1 ≤ n) (l bs : Nat) (ts : List Int) (p : Option Addr) (c : Nat) (hts : ts.length ≤ 100) (J Jx : List (Nat × Int) → World → Prop) (W : World)
    (hY : ∀ pre x W1, J pre W1 → pre.length < (itsB ts ts.length).length → YieldAt Fence.wide (n - 1) Try.prog l (encsB x) W1 fun e W' =>
      (e = .returned (.bool true) ∧ J (pre ++ [x]) W' ∧ KpB bs (.slice p ts.length c) ts W1 W') ∨ (e = .returned (.bool false) ∧ Jx (pre ++ [x]) W'))
    (hB : Boxed W bs 23 (.slice p ts.length c)) (hI : IntsAt W (.slice p ts.length c) ts) (h0 : J [] W) :
    CallsIn Fence.wide n Try.prog 102 #[.func (.yield l) #[] #[], .pointer (some ⟨bs, 0, none⟩)] W fun e W' => (∃ v, e = .returned v) ∧
      ((∃ ys, ys = itsB ts ts.length ∧ J ys W') ∨ (∃ pre, pre <+: itsB ts ts.length ∧ Jx pre W')) := by
  refine callsIn_of_wp Try.func102 rfl trivial ?_ rfl
  simp only [Try.ntmps102, List.size_toArray, List.length_cons, List.length_nil, Nat.reduceAdd, Nat.reduceSub, Array.replicate_succ, Array.replicate_zero, List.push_toArray, List.append_toArray, List.nil_append, List.cons_append]
  have hc0 := hB.cell
  have hwr : wrap64 ((ts.length : Int) - 1) = (ts.length : Int) - 1 := by unfold wrap64; omega
  have HB := hideP hB
  have HI := hideP hI
  have HY := hideP hY
  clear hB hI hY
  gi_wp2
  gi_loopw [3] (fun a wr => ∃ (k : Nat) (pre : List (Nat × Int)), a = .int .i64 ((k : Int) - 1) ∧ k ≤ ts.length ∧ itsB ts ts.length = pre ++ itsB ts k ∧ J pre wr ∧ Boxed wr bs 23 (.slice p ts.length c) ∧ IntsAt wr (.slice p ts.length c) ts) (fun a _ => (intOf a + 1).toNat)
  case atStart => exact ⟨ts.length, [], rfl, Nat.le_refl _, rfl, h0, HB.out, HI.out⟩
  case round =>
    obtain ⟨k, pre, rfl, hk, hit, hJ, hBx, hIx⟩ := hrel
    have HT := hideP hit
    clear hit
    have hcx := hBx.cell
    cases k with
    | zero =>
      rw [show ((0 : Nat) : Int) - 1 = -1 by omega]
      gi_wp2
      go_end0
      refine ⟨⟨_, rfl⟩, .inl ?_⟩
      exact ⟨pre, by rw [HT.out]; simp [itsB], hJ⟩
    | succ m =>
      rw [show ((m + 1 : Nat) : Int) - 1 = (m : Int) by omega]
      obtain ⟨z, hz⟩ := at_of_lt (show m < ts.length by omega)
      have hIx' := hIx
      obtain ⟨p', c', he, _, hcc⟩ := hIx'
      obtain ⟨b, off, hp, hbl, g⟩ := hcc m z hz
      cases he
      subst hp
      have hzd : ts.getD m 0 = z := by rw [List.getD_eq_getElem?_getD, hz]; rfl
      obtain ⟨fn, tmps, assign, body, hy, hR⟩ := HY.out pre (m, z) _ hJ (by rw [HT.out]; simp [itsB])
      dsimp only [encsB] at hy
      have hmt : (m : Int) < (ts.length : Int) := by omega
      have HZD := hideP hzd
      have HIX := hideP hIx
      have HBX := hideP hBx
      clear hcc hz hzd hIx hBx hJ
      gi_wp2
      refine hR.mono ?_
      rintro e W3 (⟨rfl, hJ3, hk3⟩ | ⟨rfl, hJx3⟩)
      · gi_wp2
        go_roundw
        case rel =>
          obtain ⟨b3, i3⟩ := hk3 ⟨HBX.out, HIX.out⟩
          refine ⟨m, pre ++ [(m, z)], by go_num, by omega, ?_, hJ3, b3, i3⟩
          rw [HT.out, itsB, HZD.out]; simp
        case measure => simp [intOf] <;> omega
      · gi_wp2
        refine bodyPost_ret (results_none rfl _ _ _) rfl ?_
        refine ⟨⟨_, rfl⟩, .inr ⟨_, ?_, hJx3⟩⟩
        rw [HT.out, itsB, HZD.out]
        exact ⟨itsB ts m, by simp⟩
set_option maxHeartbeats 1000000 in
theorem backward_any (p : Option Addr) (n c : Nat) (w : World) :
    Calls Try.prog 94 #[.slice p n c] w fun e w' => e = .returned (.func (.func 102) #[] #[.pointer (some ⟨w.heap.size, 0, none⟩)]) ∧ w' = w.alloc (.cells #[.slice p n c] 23) := by
  go_enter Try.func94, Try.ntmps94
  go_wp2
  go_ret
  exact ⟨rfl, rfl⟩
theorem backward_stops (n : Nat) (hn : 1 ≤ n) (bs : Nat) (ts : List Int) (p : Option Addr) (c : Nat) (hts : ts.length ≤ 100) (w : World) (hB : Boxed w bs 23 (.slice p ts.length c)) (hI : IntsAt w (.slice p ts.length c) ts) :
    SeqStopsK Fence.wide n Try.prog 102 #[.pointer (some ⟨bs, 0, none⟩)] encsB (KpB bs (.slice p ts.length c) ts) (fun ys => ys = itsB ts ts.length) (fun pre => pre <+: itsB ts ts.length) (itsB ts ts.length).length w :=
  fun l J Jx W hW hA _ hY h0 => back1_in n hn l bs ts p c hts J Jx W hY ((hW.block bs hB.lt).trans hB) (hI.below hW) h0
theorem kpB_t {bs : Nat} {v : Value} {ts : List Int} {A B C : World} (h : KpB bs v ts A B) (k : KpB bs v ts B C) : KpB bs v ts A C := fun x => k (h x)
theorem kpB_b {bs : Nat} {v : Value} {ts : List Int} {w : World} (W : World) (l : Nat) (o o' : Obj) (_ : w.heap.size ≤ l) (h : W.heap[l]? = some o) (ho : o.isCells = false) (_ : o.isWalk = false) : KpB bs v ts W (W.putObj l o') := fun ⟨x, y⟩ => by
  refine ⟨x.kept (grownBy_putObj' W l o') (fun e => by cases e; rw [show W.heap[bs]? = _ from x] at h; cases h; cases ho), ?_⟩
  obtain ⟨p, c, rfl, hm, hc⟩ := y
  refine ⟨p, c, rfl, hm, fun k z hk => ?_⟩
  obtain ⟨b, off, rfl, hb, g⟩ := hc k z hk
  have hg := grownBy_putObj' W l o'
  have hne : b ≠ l := fun e => by
    subst e
    obtain ⟨cs, t, fz, hcs, _⟩ := Sort.cells_of_cell? g
    rw [hcs] at h; cases h; cases ho
  exact ⟨b, off, rfl, Nat.lt_of_lt_of_le hb hg.size, hg.cell g (by simpa using hne)⟩
end Go.Proofs.Ytenaionchlnpoab

