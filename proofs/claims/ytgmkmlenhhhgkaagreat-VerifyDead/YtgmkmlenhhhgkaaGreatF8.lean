/- My texts Vl Xb Xd Je Jf Jg Jh: what of them is needed, joined. -/
import Derived.ProofKit
import Derived.OpenShut
import Derived.ShutString
import Derived.ChangeOld
import Derived.SizedLaws
import Derived.Deep.SlicePairs
import Derived.Lib.SmallJoins
import Derived.BigQuiet
import Derived.Test.YtgmkmlenhhhgkaaGreatF1
import Derived.Test.YtgmkmlenhhhgkaaGreatF2
import Derived.Test.YtgmkmlenhhhgkaaGreatF6
import Derived.Test.YtgmkmlenhhhgkaaGreatF7
set_option maxRecDepth 100000
set_option maxHeartbeats 8000000
/- progBegun. -/
namespace Go.Proofs.YtgmkmlenhhhgkaaGreat
open Go.RowKit
set_option linter.unusedSimpArgs false
set_option linter.unusedVariables false
theorem FnsAt.shp {W : World} {v : Value} {l : List Fn} (h : FnsAt W v l) : ∃ p c, v = .slice p l.length c := by
  obtain ⟨p, c, rfl, _⟩ := h
  exact ⟨p, c, rfl⟩
theorem xeoZ (s : ByteArray) (hs : s.size ≤ maxLen) (w : World) (m : List Fn) (er : Int) (h : xbcZ s.data.toList = (m, er)) :
    Calls Tryz.prog 27 #[.string s] w fun e w' => ∃ p c, e = .returned (.tuple #[.agg #[.slice p m.length c], .int .i64 er]) ∧ FnsAt w' (.slice p m.length c) m ∧ Below w.heap.size w w' := by
  have := xgwZ s hs w
  rw [h] at this
  refine this.mono ?_
  rintro e w' ⟨v, rfl, h1, h2⟩
  obtain ⟨p, c, rfl⟩ := h1.shp
  exact ⟨p, c, rfl, h1, h2⟩
theorem sq5 : xbcZ (xa8Z squareFns ++ [122]) = ([], 1) := by
  rcases prog_dec (xa8Z squareFns ++ [122]) with ⟨h1, h2⟩ | ⟨h1, _⟩
  · exact Prod.ext h2 sq4
  · rw [sq4] at h1; cases h1
structure Tok : Prop where
theorem xhmZ (w : World) : Calls Tryz.prog 7 #[] w fun e w' => e = .returned (.bool true) ∧ Below w.heap.size w w' := by
  go_enter Tryz.func7, Tryz.ntmps7
  go_wp2_with fail
  refine (xejZ _).mono ?_
  rintro e w1 ⟨v1, rfl, hf1, hB1⟩
  go_wp2_with fail
  refine (xgxZ squareFns _ _ hf1).mono ?_
  rintro e w2 ⟨T, rfl, hT, hb2⟩
  have hB2 := hB1.trans (hb2.mono hB1.size)
  rw [sq1]
  have hT1 : T.data.toList = xa8Z squareFns := by rw [hT]; unfold xd7Z; rw [if_pos sq1]
  have hTs : T.size = 32 := by
    have := congrArg List.length hT1
    rw [sq2] at this
    simpa using this
  have HT := hideP hT1
  have hd1 := xeoZ T (by unfold maxLen; omega) w2 squareFns 0 (by rw [hT1]; exact sq3)
  have HD1 := hideP hd1
  clear hd1 hT hT1 hf1
  go_wp2_with fail
  refine HD1.out.mono ?_
  rintro e w3 ⟨p3, c3, rfl, hf3, hb3⟩
  have hB3 := hB2.trans (hb3.mono hB2.size)
  have h4 := xatZ w3 (.cells #[.slice p3 squareFns.length c3] 24)
  have hb4 : Below w3.heap.size w3 (w3.alloc (.cells #[.slice p3 squareFns.length c3] 24)) := (Below.refl _ w3).alloc (Nat.le_refl _) _
  obtain ⟨W4, hW4⟩ : ∃ W, w3.alloc (.cells #[.slice p3 squareFns.length c3] 24) = W := ⟨_, rfl⟩
  rw [hW4] at h4 hb4
  have hf4 := hf3.below hb4
  have hB4 := hB3.trans (hb4.mono hB3.size)
  have hl4 := xabZ h4
  clear HD1 hf3
  have hTz : xbcZ (T ++ (⟨#[122]⟩ : ByteArray)).data.toList = ([], 1) := by rw [ByteArray.data_append, Array.toList_append, HT.out]; exact sq5
  have hTzs : (T ++ (⟨#[122]⟩ : ByteArray)).size ≤ maxLen := by rw [ByteArray.size_append, hTs]; unfold maxLen; decide
  have HD2 := hideP (xeoZ (T ++ (⟨#[122]⟩ : ByteArray)) hTzs W4 [] 1 hTz)
  clear hTz hTzs
  go_wp2_with fail
  refine HD2.out.mono ?_
  rintro e w5 ⟨p5, c5, rfl, _, hb5⟩
  have hB5 := hB4.trans (hb5.mono hB4.size)
  have h5 := (hb5.block _ hl4).trans h4
  have hf5 := hf4.below hb5
  have hb6 : Below w5.heap.size w5 (w5.alloc (.cells #[.slice p5 ([] : List Fn).length c5] 24)) := (Below.refl _ w5).alloc (Nat.le_refl _) _
  have h6 := xaeZ h5 (.cells #[.slice p5 ([] : List Fn).length c5] 24)
  obtain ⟨W6, hW6⟩ : ∃ W, w5.alloc (.cells #[.slice p5 ([] : List Fn).length c5] 24) = W := ⟨_, rfl⟩
  rw [hW6] at h6 hb6
  have hf6 := hf5.below hb6
  have hB6 := hB5.trans (hb6.mono hB5.size)
  have hl6 := xabZ h6
  have a6 := xaaZ h6 0
  simp only [List.getElem?_toArray, List.getElem?_cons_zero] at a6
  clear HD2 hf5 hf4 h4 h5 hW4 h6
  simp only [List.length_nil] at hW6
  have tok1 : Tok := ⟨⟩
  have tok2 : Hid Tok := ⟨⟩
  have hck : ∀ v W, FnsAt W v squareFns → Calls Tryz.prog 8 #[.agg #[v]] W fun e w' => e = .returned (.int .i64 0) ∧ Below W.heap.size W w' := fun v W h => by
    have := xbnZ squareFns v W h
    rw [sq1] at this
    exact this
  have hsame : ∀ v u W, FnsAt W v squareFns → FnsAt W u squareFns → Calls Tryz.prog 28 #[.agg #[v], .agg #[u]] W fun e w' => e = .returned (.bool true) ∧ Below W.heap.size W w' := fun v u W h k => by
    have := xgkZ squareFns squareFns v u W h k
    rw [decide_eq_true rfl] at this
    exact this
  have HCK := hideP hck
  have HSM := hideP hsame
  clear hck hsame
  generalize squareFns.length = nl at *
  go_wp2_with fail
  go_region_held3 (fun W => W.cell? ⟨w3.heap.size, 0, none⟩ = some (.slice p3 nl c3)) (go_keep)
    (first
      | (go_at_call 25; have _t := tok1; go_must (refine (xejZ _).mono ?_; rintro e w7 ⟨v7, rfl, hs7, hb7'⟩; clear tok1; have hb7 : Below W6.heap.size W6 w7 := ((Below.refl W6.heap.size W6).drew).trans hb7'; have a7 := (hb7.cell (p := ⟨w3.heap.size, 0, none⟩) hl6).trans a6; have hf7 := hf6.below hb7; have hB7 := hB6.trans (hb7.mono hB6.size); have hl7 := Nat.lt_of_lt_of_le hl6 hb7.size; clear hb7 hb7'))
      | (go_at_call 8; go_must (refine (HCK.out _ _ hs7).mono ?_; rintro e w8 ⟨rfl, hb8⟩; have tok2 := tok2.out; have a8 := (hb8.cell (p := ⟨w3.heap.size, 0, none⟩) hl7).trans a7; have hf8 := hf7.below hb8; have hB8 := hB7.trans (hb8.mono hB7.size); have hl8 := Nat.lt_of_lt_of_le hl7 hb8.size; clear hb8))
      | (go_at_call 25; go_must (refine (xejZ _).mono ?_; rintro e w9 ⟨v9, rfl, hs9, hb9⟩; have a9 := (hb9.cell (p := ⟨w3.heap.size, 0, none⟩) hl8).trans a8; have hf9 := hf8.below hb9; have hB9 := hB8.trans (hb9.mono hB8.size); have hl9 := Nat.lt_of_lt_of_le hl8 hb9.size; clear hb9))
      | (go_at_call 28; go_must (refine (HSM.out _ _ _ hf9 hs9).mono ?_; rintro e w10 ⟨rfl, hb10⟩; have a10 := (hb10.cell (p := ⟨w3.heap.size, 0, none⟩) hl9).trans a9; have hB10 := hB9.trans (hb10.mono hB9.size))))
  all_goals go_wp2
  all_goals go_ret
  all_goals exact ⟨rfl, hB10⟩
end Go.Proofs.YtgmkmlenhhhgkaaGreat


/- Programs that came in. -/
namespace Go.Proofs.YtgmkmlenhhhgkaaGreat
open Go.ChangeShapes Go.WideShapes Go.ChangeAt Go.RowKit
set_option linter.unusedVariables false
set_option linter.unusedSimpArgs false
section
variable {H : Type} {enc : TypeId × Value → H} {W : World} {fuel : Nat} {x : DataW H × List MemPlace}
theorem xddZ {W : World} {b j : Nat} {v : Value} (h : W.cell? ⟨b, j, none⟩ = some v) : b < W.heap.size := by
  rcases Nat.lt_or_ge b W.heap.size with h' | h'
  · exact h'
  · simp [World.cell?, Array.getElem?_eq_none h'] at h
theorem cells_ops : Tryz.prog.cellsOf 26 = 1 := by kernel_rfl
theorem cells_ints : Tryz.prog.cellsOf 25 = 1 := by kernel_rfl
theorem xgzZ : Tryz.prog.cellsOf 3 = 1 := by kernel_rfl
theorem cells_fns : Tryz.prog.cellsOf 22 = 1 := by kernel_rfl
theorem cells_fn : Tryz.prog.cellsOf 28 = 4 := by kernel_rfl
theorem cells_prog : Tryz.prog.cellsOf 24 = 1 := by kernel_rfl
instance : Inhabited Fn := ⟨(0, [], 0, [])⟩
instance : Inhabited FnV := ⟨(.int .i64 0, .int .i64 0, .int .i64 0, .int .i64 0)⟩
end
end Go.Proofs.YtgmkmlenhhhgkaaGreat


/- Blocks that came in. -/
namespace Go.Proofs.YtgmkmlenhhhgkaaGreat
open Go.ChangeShapes Go.WideShapes Go.ChangeAt Go.RowKit
set_option linter.unusedVariables false
set_option linter.unusedSimpArgs false
section
variable {H : Type} {enc : TypeId × Value → H} {W : World} {fuel : Nat} {x : DataW H × List MemPlace}
theorem xd9Z {P : Program} {e : TypeId} : ∀ {ds : List (DataW H)} {d : DataW H}, d ∈ ds → ∀ n ∈ d.weights P e, n ∈ DataW.weightsAll P e ds
  | [], _, h, _, _ => by simp at h
  | d0 :: r, d, h, n, hn => by
    simp only [DataW.weightsAll, List.mem_append]
    rcases List.mem_cons.1 h with rfl | h
    · exact .inl hn
    · exact .inr (xd9Z h n hn)
theorem bytes_int : Tryz.prog.bytesOf 3 = 8 := by kernel_rfl
theorem open_intsN {c : Value} (h : DataW.trod enc Tryz.prog W 0 (fun _ => true) true fuel 25 [c] = some x) (hs : ∀ n ∈ x.1.weights Tryz.prog 25, n ≤ reachBytes) : ∃ l : List Int, IntsAt W c l ∧ NilOk c ∧ l.length ≤ 17592186044416 ∧ ∃ p n cap, c = .slice p n cap ∧ n ≤ cap := by
  rcases Deep.open_slice1 Tryz.underlying25 xgzZ h with ⟨hcs, hx⟩ | ⟨a, len', cap', m, n, V, D, Pl, hcs, hb, hl, hm, hmm, hx, hc⟩
  · simp at hcs
    subst hcs
    exact ⟨[], ⟨none, 0, rfl, Nat.zero_le _, fun k o hk => by simp at hk⟩, xduZ, by simp, none, 0, 0, rfl, Nat.le_refl _⟩
  · simp at hcs
    subst hcs
    simp only [if_true] at hmm
    subst hmm
    have hlen : len' ≤ 17592186044416 := by
      have h1 := hs ((((List.range len').map D).length + ((List.range (m - len')).map fun j => D (len' + j)).length) * Tryz.prog.bytesOf 3) (by
        rw [hx]
        simp only [DataW.weights, Tryz.underlying25]
        exact List.mem_cons_self ..)
      rw [bytes_int] at h1
      simp [reachBytes] at h1
      omega
    refine ⟨(List.range len').map fun i => intOf (V i), ⟨some a, m, by simp, by simp; omega, fun k o hk => ?_⟩, xaxZ _ _ _, by simpa using hlen, _, _, _, rfl, hl⟩
    have hk1 : k < len' := by have := xbiZ hk; simpa using this
    have ho : o = intOf (V k) := by simp [hk1] at hk; exact hk.symm
    obtain ⟨c0, t0⟩ := hc k (by omega)
    obtain ⟨y, e0, _, wx⟩ := DataW.trod_int Tryz.underlying3 t0
    simp at e0
    obtain ⟨b, off, spot⟩ := a
    have hs0 := (hc 0 (by omega)).1
    have hspot : spot = none := by simpa [Addr.add] using World.cell?_spot hs0
    subst hspot
    rw [xc3Z] at c0
    rw [e0] at c0
    exact ⟨b, off, rfl, xddZ c0, by rw [ho, e0]; exact c0⟩
end
end Go.Proofs.YtgmkmlenhhhgkaaGreat


/- slices.Backward at numbers: the iterator's contract. -/
namespace Go.Proofs.YtgmkmlenhhhgkaaGreat
open Go.RowKit Go.Shelf
set_option linter.unusedSimpArgs false
set_option linter.unusedVariables false
attribute [local go_sem] Oper.semAt_some
def itsB (ts : List Int) : Nat → List (Nat × Int)
  | 0 => []
  | k + 1 => (k, ts.getD k 0) :: itsB ts k
abbrev encsB (x : Nat × Int) : Array Value := #[.int .i64 x.1, .int .i64 x.2]
def KpB (bs : Nat) (v : Value) (ts : List Int) (W W' : World) : Prop := (Boxed W bs 25 v ∧ IntsAt W v ts) → (Boxed W' bs 25 v ∧ IntsAt W' v ts)
theorem back1_in (n : Nat) (hn : 1 ≤ n) (l bs : Nat) (ts : List Int) (p : Option Addr) (c : Nat) (hts : ts.length ≤ 100) (J Jx : List (Nat × Int) → World → Prop) (W : World)
    (hY : ∀ pre x W1, J pre W1 → pre.length < (itsB ts ts.length).length → YieldAt Fence.wide (n - 1) Tryz.prog l (encsB x) W1 fun e W' =>
      (e = .returned (.bool true) ∧ J (pre ++ [x]) W' ∧ KpB bs (.slice p ts.length c) ts W1 W') ∨ (e = .returned (.bool false) ∧ Jx (pre ++ [x]) W'))
    (hB : Boxed W bs 25 (.slice p ts.length c)) (hI : IntsAt W (.slice p ts.length c) ts) (h0 : J [] W) :
    CallsIn Fence.wide n Tryz.prog 111 #[.func (.yield l) #[] #[], .pointer (some ⟨bs, 0, none⟩)] W fun e W' => (∃ v, e = .returned v) ∧
      ((∃ ys, ys = itsB ts ts.length ∧ J ys W') ∨ (∃ pre, pre <+: itsB ts ts.length ∧ Jx pre W')) := by
  refine callsIn_of_wp Tryz.func111 rfl trivial ?_ rfl
  simp only [Tryz.ntmps111, List.size_toArray, List.length_cons, List.length_nil, Nat.reduceAdd, Nat.reduceSub, Array.replicate_succ, Array.replicate_zero, List.push_toArray, List.append_toArray, List.nil_append, List.cons_append]
  have hc0 := hB.cell
  have hwr : wrap64 ((ts.length : Int) - 1) = (ts.length : Int) - 1 := by unfold wrap64; omega
  have HB := hideP hB
  have HI := hideP hI
  have HY := hideP hY
  clear hB hI hY
  gi_wp2
  gi_loopw [3] (fun a wr => ∃ (k : Nat) (pre : List (Nat × Int)), a = .int .i64 ((k : Int) - 1) ∧ k ≤ ts.length ∧ itsB ts ts.length = pre ++ itsB ts k ∧ J pre wr ∧ Boxed wr bs 25 (.slice p ts.length c) ∧ IntsAt wr (.slice p ts.length c) ts) (fun a _ => (intOf a + 1).toNat)
  case atStart => exact ⟨ts.length, [], rfl, Nat.le_refl _, rfl, h0, HB.out, HI.out⟩
  case round =>
    obtain ⟨k, pre, rfl, hk, hit, hJ, hBx, hIx⟩ := hrel
    have HT := hideP hit
    clear hit
    have hcx := hBx.cell
    cases k with
    | zero =>
      rw [show ((0 : Nat) : Int) - 1 = -1 by omega]
      gi_wp2
      go_end0
      refine ⟨⟨_, rfl⟩, .inl ?_⟩
      exact ⟨pre, by rw [HT.out]; simp [itsB], hJ⟩
    | succ m =>
      rw [show ((m + 1 : Nat) : Int) - 1 = (m : Int) by omega]
      obtain ⟨z, hz⟩ := xagZ (show m < ts.length by omega)
      have hIx' := hIx
      obtain ⟨p', c', he, _, hcc⟩ := hIx'
      obtain ⟨b, off, hp, hbl, g⟩ := hcc m z hz
      cases he
      subst hp
      have hzd : ts.getD m 0 = z := by rw [List.getD_eq_getElem?_getD, hz]; rfl
      obtain ⟨fn, tmps, assign, body, hy, hR⟩ := HY.out pre (m, z) _ hJ (by rw [HT.out]; simp [itsB])
      dsimp only [encsB] at hy
      have hmt : (m : Int) < (ts.length : Int) := by omega
      have HZD := hideP hzd
      have HIX := hideP hIx
      have HBX := hideP hBx
      clear hcc hz hzd hIx hBx hJ
      gi_wp2
      refine hR.mono ?_
      rintro e W3 (⟨rfl, hJ3, hk3⟩ | ⟨rfl, hJx3⟩)
      · gi_wp2
        go_roundw
        case rel =>
          obtain ⟨b3, i3⟩ := hk3 ⟨HBX.out, HIX.out⟩
          refine ⟨m, pre ++ [(m, z)], by go_num, by omega, ?_, hJ3, b3, i3⟩
          rw [HT.out, itsB, HZD.out]; simp
        case measure => simp [intOf] <;> omega
      · gi_wp2
        refine bodyPost_ret (results_none rfl _ _ _) rfl ?_
        refine ⟨⟨_, rfl⟩, .inr ⟨_, ?_, hJx3⟩⟩
        rw [HT.out, itsB, HZD.out]
        exact ⟨itsB ts m, by simp⟩
theorem xhqZ (p : Option Addr) (n c : Nat) (w : World) :
    Calls Tryz.prog 105 #[.slice p n c] w fun e w' => e = .returned (.func (.func 111) #[] #[.pointer (some ⟨w.heap.size, 0, none⟩)]) ∧ w' = w.alloc (.cells #[.slice p n c] 25) := by
  go_enter Tryz.func105, Tryz.ntmps105
  go_wp2
  go_ret
  exact ⟨rfl, rfl⟩
theorem xgoZ (n : Nat) (hn : 1 ≤ n) (bs : Nat) (ts : List Int) (p : Option Addr) (c : Nat) (hts : ts.length ≤ 100) (w : World) (hB : Boxed w bs 25 (.slice p ts.length c)) (hI : IntsAt w (.slice p ts.length c) ts) :
    SeqStopsK Fence.wide n Tryz.prog 111 #[.pointer (some ⟨bs, 0, none⟩)] encsB (KpB bs (.slice p ts.length c) ts) (fun ys => ys = itsB ts ts.length) (fun pre => pre <+: itsB ts ts.length) (itsB ts ts.length).length w :=
  fun l J Jx W hW hA _ hY h0 => back1_in n hn l bs ts p c hts J Jx W hY ((hW.block bs hB.lt).trans hB) (hI.below hW) h0
theorem kpB_t {bs : Nat} {v : Value} {ts : List Int} {A B C : World} (h : KpB bs v ts A B) (k : KpB bs v ts B C) : KpB bs v ts A C := fun x => k (h x)
theorem kpB_b {bs : Nat} {v : Value} {ts : List Int} {w : World} (W : World) (l : Nat) (o o' : Obj) (_ : w.heap.size ≤ l) (h : W.heap[l]? = some o) (ho : o.isCells = false) (_ : o.isWalk = false) : KpB bs v ts W (W.putObj l o') := fun ⟨x, y⟩ => by
  refine ⟨x.kept (grownBy_putObj' W l o') (fun e => by cases e; rw [show W.heap[bs]? = _ from x] at h; cases h; cases ho), ?_⟩
  obtain ⟨p, c, rfl, hm, hc⟩ := y
  refine ⟨p, c, rfl, hm, fun k z hk => ?_⟩
  obtain ⟨b, off, rfl, hb, g⟩ := hc k z hk
  have hg := grownBy_putObj' W l o'
  have hne : b ≠ l := fun e => by
    subst e
    obtain ⟨cs, t, fz, hcs, _⟩ := Sort.cells_of_cell? g
    rw [hcs] at h; cases h; cases ho
  exact ⟨b, off, rfl, Nat.lt_of_lt_of_le hb hg.size, hg.cell g (by simpa using hne)⟩
end Go.Proofs.YtgmkmlenhhhgkaaGreat


/- verify's stack: take. -/
namespace Go.Proofs.YtgmkmlenhhhgkaaGreat
open Go.RowKit Go.Shelf
set_option linter.unusedSimpArgs false
set_option linter.unusedVariables false
attribute [local go_sem] Oper.semAt_some
def take1 (s : List Int × Bool) (t : Int) : List Int × Bool := (s.1.dropLast, s.2 || s.1.isEmpty || !xalZ (topP s.1) t)
def takeP (s : List Int × Bool) (its : List (Nat × Int)) : List Int × Bool := its.foldl (fun s x => take1 s x.2) s
theorem takeP_snoc (s : List Int × Bool) (its : List (Nat × Int)) (x : Nat × Int) : takeP s (its ++ [x]) = take1 (takeP s its) x.2 := by simp [takeP]
theorem xhdZ (s : List Int × Bool) (its : List (Nat × Int)) : (takeP s its).1.length ≤ s.1.length := by
  induction its generalizing s with
  | nil => exact Nat.le_refl _
  | cons x r ih =>
    have h2 : (take1 s x.2).1.length ≤ s.1.length := by simp [take1]
    exact Nat.le_trans (ih (take1 s x.2)) h2
def TakeI (w : World) (b B : Nat) (s : List Int × Bool) (pre : List (Nat × Int)) (W : World) : Prop :=
  (StAt W b B (takeP s pre).1 (takeP s pre).2 ∧ Boxed W w.heap.size 133 (.pointer (some ⟨b, 0, none⟩))) ∧ w.grownBy W (some b)
theorem xhcZ (w : World) (b B : Nat) (s : List Int × Bool) (C : Nat) (hC : w.heap.size ≤ C) : OwnFrom C (TakeI w b B s) := fun pre X Y row hs hg hr => by
  obtain ⟨⟨⟨v, q, r⟩, bx⟩, g⟩ := hs
  have hcells : ∀ (k : Nat) (cs : Array Value) (t : TypeId) (fz : Nat × Nat), X.heap[k]? = some (.cells cs t fz) → Y.heap[k]? = X.heap[k]? := fun k cs t fz hk =>
    hg.block k (xabZ hk) (fun e => by
      obtain ⟨_, o, ho, hc⟩ := hr k e.symm
      rw [hk] at ho; cases ho; cases hc)
  refine ⟨⟨⟨v, (hcells _ _ _ _ q).trans q, xayZ r fun j hj => ?_⟩, (hcells _ _ _ _ bx).trans bx⟩, g.andThen hg (fun j hj => .inl ?_)⟩
  · rcases r.2 with ⟨rfl, _⟩ | ⟨g', cap, cur, rfl, _, hgg, _⟩
    · cases hj
    · cases hj; exact hcells _ _ _ _ hgg
  · exact Nat.le_trans hC (hr j hj).1
theorem xg5Z {bs b : Nat} {v v0 : Value} {wr : Bool} {ts : List Int} {W W' : World} (hg : W.grownBy W' (some b)) (hb : W.heap[b]? = some (.cells #[v0, .bool wr] 123 (0, 0))) (hv : ∃ p n c, v0 = .slice p n c) : KpB bs v ts W W' := fun ⟨x, y⟩ => by
  obtain ⟨p0, n0, c0, rfl⟩ := hv
  refine ⟨x.kept hg (fun e => ?_), ?_⟩
  · cases e
    rw [show W.heap[bs]? = _ from x] at hb
    simp at hb
  · obtain ⟨p, c, rfl, hm, hc⟩ := y
    refine ⟨p, c, rfl, hm, fun k z hk => ?_⟩
    obtain ⟨b1, off, rfl, hb1, g⟩ := hc k z hk
    have hne : b1 ≠ b := fun e => by
      subst e
      rw [xaaZ hb] at g
      match h : off + k, g with
      | 0, g => simp at g
      | 1, g => simp at g
      | j + 2, g => simp at g
    exact ⟨b1, off, rfl, Nat.lt_of_lt_of_le hb1 hg.size, hg.cell g (by simpa using hne)⟩
theorem xheZ (l ts : List Int) (wr : Bool) (b B : Nat) (p : Option Addr) (c : Nat) (w : World) (h : StAt w b B l wr) (hu : IntsAt w (.slice p ts.length c) ts) (hB : B ≤ w.heap.size) (hBb : B ≤ b) (hl : l.length ≤ 100) (ht : ts.length ≤ 100) : Calls Tryz.prog 88 #[.pointer (some ⟨b, 0, none⟩), .slice p ts.length c] w fun e w' => e = .returned (.tuple #[]) ∧ StAt w' b B (takeP (l, wr) (itsB ts ts.length)).1 (takeP (l, wr) (itsB ts ts.length)).2 ∧ w.grownBy w' (some b) := by
  refine (callsIn_wide (n := 5)).1 ?_
  have h1 : 1 ≤ 5 := by omega
  refine callsIn_of_wp_marks Tryz.func88 rfl trivial ?_ rfl
  simp only [Tryz.ntmps88, List.size_toArray, List.length_cons, List.length_nil, Nat.reduceAdd, Nat.reduceSub, Array.replicate_succ, Array.replicate_zero, List.push_toArray, List.append_toArray, List.nil_append, List.cons_append]
  gi_wp2_with fail
  refine ⟨trivial, ?_⟩
  refine (callsIn_wide.2 (xhqZ p ts.length c _)).mono ?_
  rintro e w' ⟨rfl, rfl⟩
  gi_wp2
  have hB0 : Below w.heap.size w ((w.alloc (.cells #[.pointer (some ⟨b, 0, none⟩)] 133)).alloc (.cells #[.slice p ts.length c] 25)) := ((Below.refl _ w).alloc (Nat.le_refl _) _).alloc (by simp) _
  have b0 : Boxed ((w.alloc (.cells #[.pointer (some ⟨b, 0, none⟩)] 133)).alloc (.cells #[.slice p ts.length c] 25)) w.heap.size 133 (.pointer (some ⟨b, 0, none⟩)) := (Boxed.new w 133 (.pointer (some ⟨b, 0, none⟩))).alloc (.cells #[.slice p ts.length c] 25)
  have b1 : Boxed ((w.alloc (.cells #[.pointer (some ⟨b, 0, none⟩)] 133)).alloc (.cells #[.slice p ts.length c] 25)) (w.heap.size + 1) 25 (.slice p ts.length c) := xa3Z _ _ _
  obtain ⟨W0, hW0⟩ : ∃ W0, (w.alloc (.cells #[.pointer (some ⟨b, 0, none⟩)] 133)).alloc (.cells #[.slice p ts.length c] 25) = W0 := ⟨_, rfl⟩
  have hsz : W0.heap.size = w.heap.size + 1 + 1 := by rw [← hW0]; simp
  have hblt := h.lt
  rw [hW0] at hB0 b0 b1 ⊢
  clear hW0
  refine wpIn_rangeFunc_ownH rfl h1 (gf := 111) (lb := #[.pointer (some ⟨w.heap.size + 1, 0, none⟩)]) rfl trivial (enters_of Tryz.func111 (by kernel_rfl) rfl)
    (xgoZ (5 - 1) (by omega) (w.heap.size + 1) ts p c ht W0 b1 (hu.below hB0)) kpB_t kpB_b (Below.refl _ _) (fun _ => rfl)
    (TakeI w b B (l, wr)) (fun _ _ _ => False) (xhcZ w b B (l, wr) _ (by omega)) (fun _ _ _ _ _ hs _ _ => hs)
    ⟨⟨h.kept hB0, b0⟩, xfmZ hB0 _⟩
    (fun x a' _ => a' = { tmps := #[.pointer (some ⟨b, 0, none⟩), .slice p ts.length c, .pointer (some ⟨w.heap.size, 0, none⟩), undef, undef, .int .i64 x.2, .slice p ts.length c, .func (.func 111) #[] #[.pointer (some ⟨w.heap.size + 1, 0, none⟩)], .int .i64 x.1, .int .i64 x.2, undef, undef, undef, undef, undef, undef, undef, undef], defers := [] })
    (fun x a' _ X Y row hs hg hr => hs)
    ?assign ?body ?done ?stop
  case assign =>
    rintro l0 pre x W K hI hK
    gi_wp2
    exact hK _ _ (KeepsFrom.refl _ _) (fun h => h) hI rfl
  case body =>
    rintro l0 pre ⟨ix, t⟩ a' W hl0 ⟨r, hr⟩ ⟨⟨hst, bx⟩, hgw⟩ rfl hlt
    have kx := bx.cell
    obtain ⟨v0, q0, row0⟩ := id hst
    have hshp : ∃ p n c, v0 = Value.slice p n c := by obtain ⟨p, c, h⟩ := xahZ row0; exact ⟨_, _, _, h⟩
    have hlen : (takeP (l, wr) pre).1.length ≤ 100 := Nat.le_trans (xhdZ _ _) hl
    have hpop := pop_any (takeP (l, wr) pre).1 (takeP (l, wr) pre).2 b B W hst hlen
    have HP := hideP hpop
    have HSN := hideP (takeP_snoc (l, wr) pre (ix, t))
    generalize takeP (l, wr) pre = S at *
    obtain ⟨S1, S2⟩ := S
    simp only at HP hlen hst row0
    have Q0 := hideP q0
    clear hpop hr hlt hst row0 q0
    gi_wp2_with fail
    refine ⟨trivial, ?_⟩
    refine (callsIn_wide.2 HP.out).mono ?_
    rintro e W2 ⟨rfl, hst2, hg2⟩
    have bx2 : Boxed W2 w.heap.size 133 (.pointer (some ⟨b, 0, none⟩)) := Boxed.kept bx hg2 (fun e => by cases e; omega)
    have kx2 := bx2.cell
    have hkp2 : KpB (w.heap.size + 1) (.slice p ts.length c) ts W W2 := xg5Z hg2 Q0.out hshp
    gi_wp2_with fail
    refine ⟨trivial, ?_⟩
    refine (callsIn_wide.2 (xbyZ (topP S1) t _)).mono ?_
    rintro e W3 ⟨rfl, hw3⟩
    have hw3 := hw3.symm
    subst hw3
    cases hs : xalZ (topP S1) t
    · obtain ⟨v2, q2, row2⟩ := id hst2
      have d1 := xaaZ q2 1
      have z1 := Lib.frozen_of_heap q2 1
      simp at d1
      have Q2 := hideP q2
      have R2 := hideP row2
      have hshp2 : ∃ p n c, v2 = Value.slice p n c := by obtain ⟨p, c, h⟩ := xahZ row2; exact ⟨_, _, _, h⟩
      clear q2 row2 hst2
      gi_wp2
      have hgs := xbbZ W2 ⟨b, 1, none⟩ (.bool true)
      have hb3 := heap_setCell_same W2 b 1 _ _ (.bool true) Q2.out
      refine ⟨KeepsFrom.of_grownBy (hg2.trans hgs) (fun j hj => by cases hj; omega), kpB_t hkp2 (xg5Z hgs Q2.out hshp2), ⟨?_, Boxed.kept bx2 hgs (fun e => by have e2 : w.heap.size = b := (by simpa using e); omega)⟩, (hgw.trans hg2).trans hgs⟩
      rw [HSN.out]
      have e1 : take1 (S1, S2) t = (S1.dropLast, true) := by simp [take1, hs]
      rw [e1]
      exact StAt.set Q2.out (by simpa using hb3) R2.out hgs
    · gi_wp2
      refine ⟨KeepsFrom.of_grownBy hg2 (fun j hj => by cases hj; omega), hkp2, ⟨?_, bx2⟩, hgw.trans hg2⟩
      rw [HSN.out]
      have e1 : take1 (S1, S2) t = (S1.dropLast, S2 || S1.isEmpty) := by simp [take1, hs]
      rw [e1]
      exact hst2
  case done =>
    rintro D ys W hD rfl hI hK
    have hI2 := xhcZ w b B (l, wr) W0.heap.size (by omega) _ W _ (some D) hI (grownBy_putObj' W D (.deferred none)) (fun r e => by cases e; exact ⟨hD, _, hK, rfl⟩)
    have HI2 := hideP hI2
    clear hI2 hI
    gi_wp2
    refine ⟨by simp, .inl ⟨_, _, rfl, run_takeDeferred hK, ?_⟩⟩
    refine ⟨.tuple #[], by simp [results, Tryz.results88, go_sem], rfl, HI2.out.1.1, HI2.out.2⟩
  case stop =>
    rintro D c pre W _ _ h
    exact h.elim
end Go.Proofs.YtgmkmlenhhhgkaaGreat


/- What verify's stack does, plainly: it is what an op leaves. -/
namespace Go.Proofs.YtgmkmlenhhhgkaaGreat
open Go.RowKit
set_option linter.unusedSimpArgs false
set_option linter.unusedVariables false
abbrev St := List Int × Bool
def tk (s : St) (ts : List Int) : St := takeP s (itsB ts ts.length)
def lv (s : St) (ts : List Int) : St := (s.1 ++ ts, s.2 || decide (8 < (s.1 ++ ts).length))
def popS (s : St) : St := (s.1.dropLast, s.2 || s.1.isEmpty)
theorem itsB_map (ts : List Int) : ∀ k, k ≤ ts.length → (itsB ts k).map Prod.snd = (ts.take k).reverse
  | 0, _ => rfl
  | k + 1, h => by
    obtain ⟨z, hz⟩ := xagZ (show k < ts.length by omega)
    rw [xavZ ts k z hz, List.reverse_append, itsB, List.map_cons, itsB_map ts k (by omega), List.getD_eq_getElem?_getD, hz]
    rfl
theorem tk_eq (s : St) (ts : List Int) : tk s ts = ts.reverse.foldl take1 s := by
  have h := itsB_map ts ts.length (Nat.le_refl _)
  rw [List.take_length] at h
  rw [← h, List.foldl_map]
  rfl
theorem leS_snoc : ∀ {D R : List Int} {a t : Int}, D.length = R.length → leS (D ++ [a]) (R ++ [t]) = (leS D R && xalZ a t)
  | [], [], a, t, _ => by simp [leS]
  | [], _ :: _, a, t, h => by simp at h
  | _ :: _, [], a, t, h => by simp at h
  | d :: D, r :: R, a, t, h => by
    simp only [List.cons_append, leS]
    rw [leS_snoc (by simpa using h), Bool.and_assoc]
def fitsS (s ts : List Int) : Bool := decide (ts.length ≤ s.length) && leS (s.drop (s.length - ts.length)) ts
theorem xecZ : ∀ (rs : List Int) (s : List Int) (wr : Bool), rs.foldl take1 (s, wr) = (s.take (s.length - rs.length), wr || !fitsS s rs.reverse)
  | [], s, wr => by simp [fitsS, leS]
  | t :: r, s, wr => by
    rw [List.foldl_cons]
    rcases List.eq_nil_or_concat s with rfl | ⟨s', a, hs⟩
    · have e : take1 ([], wr) t = ([], true) := by simp [take1]
      rw [e, xecZ r [] true]
      simp [fitsS]
    · rw [List.concat_eq_append] at hs
      subst hs
      have hem : (s' ++ [a]).isEmpty = false := by cases s' <;> rfl
      have e : take1 (s' ++ [a], wr) t = (s', wr || !xalZ a t) := by simp only [take1, topP, hem]; simp
      rw [e, xecZ r s' _]
      have e1 : (s' ++ [a]).length - (t :: r).length = s'.length - r.length := by simp
      have e2 : (s' ++ [a]).take (s'.length - r.length) = s'.take (s'.length - r.length) := List.take_append_of_le_length (by omega)
      rw [e1, e2]
      refine Prod.ext rfl ?_
      show (wr || !xalZ a t || !fitsS s' r.reverse) = (wr || !fitsS (s' ++ [a]) (t :: r).reverse)
      have e3 : fitsS (s' ++ [a]) (t :: r).reverse = (xalZ a t && fitsS s' r.reverse) := by
        unfold fitsS
        by_cases h : r.length ≤ s'.length
        · have h1 : decide ((t :: r).reverse.length ≤ (s' ++ [a]).length) = true := by simp; omega
          have h2 : decide (r.reverse.length ≤ s'.length) = true := by simpa using h
          rw [h1, h2, Bool.true_and, Bool.true_and]
          have h3 : (s' ++ [a]).drop ((s' ++ [a]).length - (t :: r).reverse.length) = s'.drop (s'.length - r.reverse.length) ++ [a] := by
            rw [show (s' ++ [a]).length - (t :: r).reverse.length = s'.length - r.reverse.length by simp]
            exact List.drop_append_of_le_length (by omega)
          rw [h3, List.reverse_cons, leS_snoc (by simp; omega), Bool.and_comm]
        · have h1 : decide ((t :: r).reverse.length ≤ (s' ++ [a]).length) = false := by simp; omega
          have h2 : decide (r.reverse.length ≤ s'.length) = false := by simp; omega
          rw [h1, h2]
          simp
      rw [e3]
      cases wr <;> cases xalZ a t <;> cases fitsS s' r.reverse <;> rfl
theorem xd8Z (s ts : List Int) (wr : Bool) : tk (s, wr) ts = (s.take (s.length - ts.length), wr || !fitsS s ts) := by
  rw [tk_eq, xecZ]
  simp
def resL (f : Fn) : List Int := if f.2.2.1 = 0 then [] else [f.2.2.1]
def bhP (p : List Fn) (f : Fn) (o : Int × Int) (s : List Int) : St :=
  if o.1 = 2 then popS (s, false)
  else if o.1 = 3 then lv (popS (s, false)) [topP s, topP s]
  else if o.1 = 4 then lv (popS (popS (s, false))) [topP s, topP s.dropLast]
  else if o.1 = 8 then lv (s, false) [f.2.1.getD o.2.toNat 0]
  else if o.1 = 9 then tk (s, false) [f.2.1.getD o.2.toNat 0]
  else if o.1 = 12 then (match p[o.2.toNat]? with | some g => lv (tk (s, false) (g.2.1.take g.1.toNat)) (resL g) | none => (s, true))
  else if o.1 = 13 then ((tk (s, false) (resL f)).1, (tk (s, false) (resL f)).2 || decide (0 < (tk (s, false) (resL f)).1.length))
  else (if (xa6Z o.1).2 = [] then tk (s, false) (xa6Z o.1).1 else lv (tk (s, false) (xa6Z o.1).1) (xa6Z o.1).2)
structure OkOp (p : List Fn) (f : Fn) (o : Int × Int) : Prop where
  code : 1 ≤ o.1 ∧ o.1 ≤ 21
  loc : o.1 = 8 ∨ o.1 = 9 → 0 ≤ o.2 ∧ o.2 < (f.2.1.length : Int)
  call : o.1 = 12 → 0 ≤ o.2 ∧ o.2 < (p.length : Int)
  fns : ∀ g ∈ p, 0 ≤ g.1 ∧ g.1 ≤ (g.2.1.length : Int) ∧ g.2.1.length ≤ 6 ∧ 0 ≤ g.2.2.1
  own : f.2.1.length ≤ 6 ∧ 0 ≤ f.2.2.1
theorem tl_of {p : List Fn} {f : Fn} {o : Int × Int} {s t l : List Int} (h : xajZ p f o s = some (t, l)) (hs : s.length ≤ 8) : tryOp p f o s = if fitsS s t = true ∧ (s.take (s.length - t.length) ++ l).length ≤ 8 then some (s.take (s.length - t.length) ++ l) else none := by
  unfold tryOp
  rw [h]
  simp only [Option.bind_some, fitsS, Bool.and_eq_true, decide_eq_true_eq, and_assoc]
theorem tl_lv {p : List Fn} {f : Fn} {o : Int × Int} {s t l : List Int} (h : xajZ p f o s = some (t, l)) (hs : s.length ≤ 8) : tryOp p f o s = if (lv (tk (s, false) t) l).2 = true then none else some (lv (tk (s, false) t) l).1 := by
  rw [tl_of h hs, xd8Z]
  simp only [lv, Bool.false_or]
  cases h1 : fitsS s t
  · simp
  · by_cases h2 : (s.take (s.length - t.length) ++ l).length ≤ 8
    · rw [if_pos ⟨rfl, h2⟩, if_neg]
      simp at h2 ⊢
      omega
    · rw [if_neg (fun h => h2 h.2), if_pos]
      simp at h2 ⊢
      omega
theorem tl_tk {p : List Fn} {f : Fn} {o : Int × Int} {s t : List Int} (h : xajZ p f o s = some (t, [])) (hs : s.length ≤ 8) : tryOp p f o s = if (tk (s, false) t).2 = true then none else some (tk (s, false) t).1 := by
  rw [tl_of h hs, xd8Z]
  simp only [Bool.false_or, List.append_nil]
  have h2 : (s.take (s.length - t.length)).length ≤ 8 := by simp; omega
  cases h1 : fitsS s t
  · simp
  · rw [if_pos ⟨rfl, h2⟩]; simp
theorem xeyZ (s : List Int) (k : Nat) (h : k ≤ s.length) : fitsS s (s.drop (s.length - k)) = true := by
  unfold fitsS
  rw [List.length_drop, show s.length - (s.length - (s.length - k)) = s.length - k by omega, xb2Z]
  simp
theorem xfgZ {t : Int} {l : List Int} (h : ∀ x ∈ l, x ≠ 0) : xcjZ t l = l := by
  unfold xcjZ
  conv => rhs; rw [← List.map_id l]
  exact List.map_congr_left fun x hx => by rw [if_neg (h x hx)]; rfl
theorem plain_nz {c : Int} (h8 : c ≠ 8) (h9 : c ≠ 9) : (∀ x ∈ (xa6Z c).1, x ≠ 0) ∧ ∀ x ∈ (xa6Z c).2, x ≠ 0 := by
  unfold xa6Z
  repeat' split
  all_goals first | (exact absurd ‹c = 8› h8) | (exact absurd ‹c = 9› h9) | (constructor <;> intro x hx <;> simp at hx <;> omega)
theorem bh_try {p : List Fn} {f : Fn} {o : Int × Int} {s : List Int} (ho : OkOp p f o) (hs : s.length ≤ 8) : tryOp p f o s = if (bhP p f o s).2 = true then none else some (bhP p f o s).1 := by
  unfold bhP
  by_cases c2 : o.1 = 2
  · rw [if_pos c2]
    by_cases hn : s.length < 1
    · have : xajZ p f o s = none := by simp [xajZ, c2, hn]
      have hs0 : s = [] := List.eq_nil_of_length_eq_zero (by omega)
      subst hs0
      simp [tryOp, this, popS]
    · have h : xajZ p f o s = some (s.drop (s.length - 1), []) := by simp [xajZ, c2, hn]
      rw [tl_of h hs, List.length_drop, show s.length - (s.length - (s.length - 1)) = s.length - 1 by omega, if_pos ⟨xeyZ s 1 (by omega), by simp; omega⟩]
      have hne : s ≠ [] := fun e => by subst e; simp at hn
      simp [popS, hne, List.dropLast_eq_take]
  rw [if_neg c2]
  by_cases c3 : o.1 = 3
  · rw [if_pos c3]
    by_cases hn : s.length < 1
    · have : xajZ p f o s = none := by simp [xajZ, c3, hn]
      have hs0 : s = [] := List.eq_nil_of_length_eq_zero (by omega)
      subst hs0
      simp [tryOp, this, popS, lv]
    · have h : xajZ p f o s = some (s.drop (s.length - 1), s.drop (s.length - 1) ++ s.drop (s.length - 1)) := by simp [xajZ, c3, hn]
      rcases List.eq_nil_or_concat s with rfl | ⟨s', a, hsa⟩
      · simp at hn
      · rw [List.concat_eq_append] at hsa
        subst hsa
        have hd : (s' ++ [a]).drop ((s' ++ [a]).length - 1) = [a] := by simp
        rw [hd] at h
        rw [tl_of h hs]
        have hf : fitsS (s' ++ [a]) [a] = true := by have := xeyZ (s' ++ [a]) 1 (by simp); rw [hd] at this; exact this
        have ht : (s' ++ [a]).take ((s' ++ [a]).length - [a].length) = s' := by simp
        rw [hf, ht]
        simp only [true_and, lv, popS, topP]
        simp
        by_cases h8 : s'.length ≤ 6
        · rw [if_pos h8, if_neg (by omega)]
        · rw [if_neg h8, if_pos (by omega)]
  rw [if_neg c3]
  by_cases c4 : o.1 = 4
  · rw [if_pos c4]
    by_cases hn : s.length < 2
    · have : xajZ p f o s = none := by simp [xajZ, c4, hn]
      rcases s with _ | ⟨a, _ | ⟨b, r⟩⟩
      · simp [tryOp, this, popS, lv]
      · simp [tryOp, this, popS, lv]
      · simp at hn; omega
    · have h : xajZ p f o s = some (s.drop (s.length - 2), (s.drop (s.length - 2)).reverse) := by simp [xajZ, c4, hn]
      rcases List.eq_nil_or_concat s with rfl | ⟨s1, b, hsb⟩
      · simp at hn
      rw [List.concat_eq_append] at hsb
      subst hsb
      rcases List.eq_nil_or_concat s1 with rfl | ⟨s2, a, hsa⟩
      · simp at hn
      rw [List.concat_eq_append] at hsa
      subst hsa
      have hd : (s2 ++ [a] ++ [b]).drop ((s2 ++ [a] ++ [b]).length - 2) = [a, b] := by simp
      rw [hd] at h
      rw [tl_of h hs]
      have hf : fitsS (s2 ++ [a] ++ [b]) [a, b] = true := by have := xeyZ (s2 ++ [a] ++ [b]) 2 (by simp); rw [hd] at this; exact this
      have ht : (s2 ++ [a] ++ [b]).take ((s2 ++ [a] ++ [b]).length - [a, b].length) = s2 := by simp
      rw [hf, ht]
      simp only [true_and, lv, popS, topP]
      simp at hs ⊢
      rw [if_pos (by omega), if_neg (by omega)]
  rw [if_neg c4]
  by_cases c8 : o.1 = 8
  · rw [if_pos c8]
    have h : xajZ p f o s = some ([], [f.2.1.getD o.2.toNat 0]) := by simp [xajZ, c2, c3, c4, c8, xa6Z, xcjZ]
    rw [tl_lv h hs, xd8Z]
    simp [fitsS, leS]
  rw [if_neg c8]
  by_cases c9 : o.1 = 9
  · rw [if_pos c9]
    have h : xajZ p f o s = some ([f.2.1.getD o.2.toNat 0], []) := by simp [xajZ, c2, c3, c4, c9, xa6Z, xcjZ]
    exact tl_tk h hs
  rw [if_neg c9]
  have hres : ∀ g : Fn, 0 ≤ g.2.2.1 → (if 0 < g.2.2.1 then [g.2.2.1] else []) = resL g := by
    intro g hg
    unfold resL
    by_cases h0 : g.2.2.1 = 0
    · rw [if_pos h0, if_neg (by omega)]
    · rw [if_neg h0, if_pos (by omega)]
  by_cases c12 : o.1 = 12
  · rw [if_pos c12]
    have hc := ho.call c12
    obtain ⟨g, hg⟩ := xagZ (l := p) (k := o.2.toNat) (by omega)
    have hgo := ho.fns g (List.mem_of_getElem? hg)
    have h : xajZ p f o s = some (g.2.1.take g.1.toNat, resL g) := by
      rw [← hres g hgo.2.2.2]
      simp [xajZ, c12, hg]
    rw [hg]
    exact tl_lv h hs
  rw [if_neg c12]
  by_cases c13 : o.1 = 13
  · rw [if_pos c13]
    have hr := hres f ho.own.2
    by_cases hl : s.length = (resL f).length
    · have h : xajZ p f o s = some (resL f, []) := by
        simp only [xajZ, c13, hr]
        simp [hl]
      rw [tl_tk h hs, xd8Z]
      simp [hl]
    · have h : tryOp p f o s = none := by
        simp only [tryOp, xajZ, c13, hr]
        simp [hl]
      rw [h, xd8Z]
      simp only [Bool.false_or]
      rw [if_pos]
      by_cases hle : (resL f).length ≤ s.length
      · have : decide (0 < (s.take (s.length - (resL f).length)).length) = true := by simp; omega
        rw [this, Bool.or_true]
      · have : fitsS s (resL f) = false := by simp [fitsS]; omega
        rw [this]; rfl
  rw [if_neg c13]
  have hz := plain_nz c8 c9
  have h : xajZ p f o s = some ((xa6Z o.1).1, (xa6Z o.1).2) := by
    simp only [xajZ, if_neg c2, if_neg c3, if_neg c4, if_neg c12, if_neg c13]
    rw [xfgZ hz.1, xfgZ hz.2]
  by_cases hl : (xa6Z o.1).2 = []
  · rw [if_pos hl]
    rw [hl] at h
    exact tl_tk h hs
  · rw [if_neg hl]
    exact tl_lv h hs
end Go.Proofs.YtgmkmlenhhhgkaaGreat


/- verify's stack: turn, call, do. -/
namespace Go.Proofs.YtgmkmlenhhhgkaaGreat
open Go.RowKit
set_option linter.unusedSimpArgs false
set_option linter.unusedVariables false
def SA (W : World) (b B : Nat) (s : St) : Prop := StAt W b B s.1 s.2
theorem SA.kept {W W' : World} {b B : Nat} {s : St} (h : SA W b B s) (hb : Below W.heap.size W W') : SA W' b B s := StAt.kept h hb
theorem xegZ (s : St) (b B : Nat) (w : World) (h : SA w b B s) (hl : s.1.length ≤ 100) (hB : B ≤ w.heap.size) (hBb : B ≤ b) : Calls Tryz.prog 104 #[.pointer (some ⟨b, 0, none⟩)] w fun e w' => e = .returned (.int .i64 (topP s.1)) ∧ SA w' b B (popS s) ∧ Below B w w' := by
  refine (pop_any s.1 s.2 b B w h hl).mono ?_
  rintro e w' ⟨rfl, h1, h2⟩
  exact ⟨rfl, h1, (Below.refl B w).grown h2 hB (fun k hk => by cases hk; exact hBb)⟩
theorem xbzZ (s : St) (ts : List Int) (b B : Nat) (u : Value) (w : World) (h : SA w b B s) (hu : IntsAt w u ts) (hl : s.1.length ≤ 100) (ht : ts.length ≤ 100) (hB : B ≤ w.heap.size) (hBb : B ≤ b) : Calls Tryz.prog 88 #[.pointer (some ⟨b, 0, none⟩), u] w fun e w' => e = .returned (.tuple #[]) ∧ SA w' b B (tk s ts) ∧ Below B w w' := by
  obtain ⟨p, c, rfl, _, _⟩ := id hu
  refine (xheZ s.1 ts s.2 b B p c w h hu hB hBb hl ht).mono ?_
  rintro e w' ⟨rfl, h1, h2⟩
  exact ⟨rfl, h1, (Below.refl B w).grown h2 hB (fun k hk => by cases hk; exact hBb)⟩
theorem xbsZ (s : St) (ts : List Int) (b B : Nat) (u : Value) (w : World) (h : SA w b B s) (hu : IntsAt w u ts) (hn : NilOk u) (hl : s.1.length ≤ 100) (ht : ts.length ≤ 100) (hB : B ≤ w.heap.size) (hBb : B ≤ b) : Calls Tryz.prog 87 #[.pointer (some ⟨b, 0, none⟩), u] w fun e w' => e = .returned (.tuple #[]) ∧ SA w' b B (lv s ts) ∧ Below B w w' := by
  refine (leave_any s.1 ts s.2 b B u w h hu hn hB hBb hl ht).mono ?_
  rintro e w' ⟨rfl, h1, h2⟩
  exact ⟨rfl, h1, h2⟩
theorem xciZ (s : St) (ts : List Int) : (tk s ts).1.length ≤ s.1.length := xhdZ s _
theorem xehZ (s : St) : (popS s).1.length ≤ s.1.length := by simp [popS]
theorem turn2_any (s : St) (b B : Nat) (w : World) (h : SA w b B s) (hl : s.1.length ≤ 100) (hB : B ≤ w.heap.size) (hBb : B ≤ b) : Calls Tryz.prog 86 #[.pointer (some ⟨b, 0, none⟩), .int .i64 2] w fun e w' => e = .returned (.tuple #[]) ∧ SA w' b B (popS s) ∧ Below B w w' := by
  go_enter Tryz.func86, Tryz.ntmps86
  go_wp2_with fail
  refine (xegZ s b B w h hl hB hBb).mono ?_
  rintro e w1 ⟨rfl, h1, b1⟩
  have l1 : (popS s).1.length ≤ 100 := Nat.le_trans (xehZ _) hl
  have z1 : B ≤ w1.heap.size := Nat.le_trans hB b1.size
  have B1 := b1
  go_wp2
  go_end0
  exact ⟨rfl, h1, B1⟩
theorem turn3_any (s : St) (b B : Nat) (w : World) (h : SA w b B s) (hl : s.1.length ≤ 100) (hB : B ≤ w.heap.size) (hBb : B ≤ b) : Calls Tryz.prog 86 #[.pointer (some ⟨b, 0, none⟩), .int .i64 3] w fun e w' => e = .returned (.tuple #[]) ∧ SA w' b B (lv (popS s) [topP s.1, topP s.1]) ∧ Below B w w' := by
  go_enter Tryz.func86, Tryz.ntmps86
  go_wp2_with fail
  refine (xegZ s b B w h hl hB hBb).mono ?_
  rintro e w1 ⟨rfl, h1, b1⟩
  have l1 : (popS s).1.length ≤ 100 := Nat.le_trans (xehZ _) hl
  have z1 : B ≤ w1.heap.size := Nat.le_trans hB b1.size
  have B1 := b1
  go_wp2_with fail
  have q2 := World.alloc_heap_new w1 (.cells #[.int .i64 (topP s.1), .int .i64 (topP s.1)] 3)
  have a2 := (Below.refl w1.heap.size w1).alloc (Nat.le_refl _) (.cells #[.int .i64 (topP s.1), .int .i64 (topP s.1)] 3)
  refine (xbsZ (popS s) [(topP s.1), (topP s.1)] b B _ _ (h1.kept a2) (xamZ 2 2 q2 rfl (by unfold maxLen; simp)) (xaxZ _ _ _) l1 (by simp) (Nat.le_trans z1 a2.size) hBb).mono ?_
  rintro e w2 ⟨rfl, h2, b2⟩
  have z2 : B ≤ w2.heap.size := Nat.le_trans (Nat.le_trans z1 a2.size) b2.size
  have c2 := (a2.mono z1).trans b2
  have B2 := B1.trans c2
  clear q2 a2
  go_wp2
  go_end0
  exact ⟨rfl, h2, B2⟩
theorem turn4_any (s : St) (b B : Nat) (w : World) (h : SA w b B s) (hl : s.1.length ≤ 100) (hB : B ≤ w.heap.size) (hBb : B ≤ b) : Calls Tryz.prog 86 #[.pointer (some ⟨b, 0, none⟩), .int .i64 4] w fun e w' => e = .returned (.tuple #[]) ∧ SA w' b B (lv (popS (popS s)) [topP s.1, topP (popS s).1]) ∧ Below B w w' := by
  go_enter Tryz.func86, Tryz.ntmps86
  go_wp2_with fail
  refine (xegZ s b B w h hl hB hBb).mono ?_
  rintro e w1 ⟨rfl, h1, b1⟩
  have l1 : (popS s).1.length ≤ 100 := Nat.le_trans (xehZ _) hl
  have z1 : B ≤ w1.heap.size := Nat.le_trans hB b1.size
  have B1 := b1
  go_wp2_with fail
  refine (xegZ (popS s) b B w1 h1 l1 z1 hBb).mono ?_
  rintro e w2 ⟨rfl, h2, b2⟩
  have l2 : (popS (popS s)).1.length ≤ 100 := Nat.le_trans (xehZ _) l1
  have z2 : B ≤ w2.heap.size := Nat.le_trans z1 b2.size
  have B2 := B1.trans b2
  go_wp2_with fail
  have q3 := World.alloc_heap_new w2 (.cells #[.int .i64 (topP s.1), .int .i64 (topP (popS s).1)] 3)
  have a3 := (Below.refl w2.heap.size w2).alloc (Nat.le_refl _) (.cells #[.int .i64 (topP s.1), .int .i64 (topP (popS s).1)] 3)
  refine (xbsZ (popS (popS s)) [(topP s.1), (topP (popS s).1)] b B _ _ (h2.kept a3) (xamZ 2 2 q3 rfl (by unfold maxLen; simp)) (xaxZ _ _ _) l2 (by simp) (Nat.le_trans z2 a3.size) hBb).mono ?_
  rintro e w3 ⟨rfl, h3, b3⟩
  have z3 : B ≤ w3.heap.size := Nat.le_trans (Nat.le_trans z2 a3.size) b3.size
  have c3 := (a3.mono z2).trans b3
  have B3 := B2.trans c3
  clear q3 a3
  go_wp2
  go_end0
  exact ⟨rfl, h3, B3⟩
theorem do1_any (s : St) (b B : Nat) (w : World) (h : SA w b B s) (hl : s.1.length ≤ 100) (hB : B ≤ w.heap.size) (hBb : B ≤ b) : Calls Tryz.prog 91 #[.pointer (some ⟨b, 0, none⟩), .int .i64 1] w fun e w' => e = .returned (.tuple #[]) ∧ SA w' b B (lv s [1]) ∧ Below B w w' := by
  go_enter Tryz.func91, Tryz.ntmps91
  go_wp2_with fail
  have q1 := World.alloc_heap_new w (.cells #[.int .i64 1] 3)
  have a1 := (Below.refl w.heap.size w).alloc (Nat.le_refl _) (.cells #[.int .i64 1] 3)
  refine (xbsZ s [1] b B _ _ (h.kept a1) (xamZ 1 1 q1 rfl (by unfold maxLen; simp)) (xaxZ _ _ _) hl (by simp) (Nat.le_trans hB a1.size) hBb).mono ?_
  rintro e w1 ⟨rfl, h1, b1⟩
  have z1 : B ≤ w1.heap.size := Nat.le_trans (Nat.le_trans hB a1.size) b1.size
  have c1 := (a1.mono hB).trans b1
  have B1 := c1
  clear q1 a1
  go_wp2
  go_end0
  exact ⟨rfl, h1, B1⟩
theorem do21_any (s : St) (b B : Nat) (w : World) (h : SA w b B s) (hl : s.1.length ≤ 100) (hB : B ≤ w.heap.size) (hBb : B ≤ b) : Calls Tryz.prog 91 #[.pointer (some ⟨b, 0, none⟩), .int .i64 21] w fun e w' => e = .returned (.tuple #[]) ∧ SA w' b B (lv s [1]) ∧ Below B w w' := by
  go_enter Tryz.func91, Tryz.ntmps91
  go_wp2_with fail
  have q1 := World.alloc_heap_new w (.cells #[.int .i64 1] 3)
  have a1 := (Below.refl w.heap.size w).alloc (Nat.le_refl _) (.cells #[.int .i64 1] 3)
  refine (xbsZ s [1] b B _ _ (h.kept a1) (xamZ 1 1 q1 rfl (by unfold maxLen; simp)) (xaxZ _ _ _) hl (by simp) (Nat.le_trans hB a1.size) hBb).mono ?_
  rintro e w1 ⟨rfl, h1, b1⟩
  have z1 : B ≤ w1.heap.size := Nat.le_trans (Nat.le_trans hB a1.size) b1.size
  have c1 := (a1.mono hB).trans b1
  have B1 := c1
  clear q1 a1
  go_wp2
  go_end0
  exact ⟨rfl, h1, B1⟩
theorem do5_any (s : St) (b B : Nat) (w : World) (h : SA w b B s) (hl : s.1.length ≤ 100) (hB : B ≤ w.heap.size) (hBb : B ≤ b) : Calls Tryz.prog 91 #[.pointer (some ⟨b, 0, none⟩), .int .i64 5] w fun e w' => e = .returned (.tuple #[]) ∧ SA w' b B (lv (tk s [1, 1]) [1]) ∧ Below B w w' := by
  go_enter Tryz.func91, Tryz.ntmps91
  go_wp2_with fail
  have q1 := World.alloc_heap_new w (.cells #[.int .i64 1, .int .i64 1] 3)
  have a1 := (Below.refl w.heap.size w).alloc (Nat.le_refl _) (.cells #[.int .i64 1, .int .i64 1] 3)
  refine (xbzZ s [1, 1] b B _ _ (h.kept a1) (xamZ 2 2 q1 rfl (by unfold maxLen; simp)) hl (by simp) (Nat.le_trans hB a1.size) hBb).mono ?_
  rintro e w1 ⟨rfl, h1, b1⟩
  have l1 : (tk s [1, 1]).1.length ≤ 100 := Nat.le_trans (xciZ _ _) hl
  have z1 : B ≤ w1.heap.size := Nat.le_trans (Nat.le_trans hB a1.size) b1.size
  have c1 := (a1.mono hB).trans b1
  have B1 := c1
  clear q1 a1
  go_wp2_with fail
  have q2 := World.alloc_heap_new w1 (.cells #[.int .i64 1] 3)
  have a2 := (Below.refl w1.heap.size w1).alloc (Nat.le_refl _) (.cells #[.int .i64 1] 3)
  refine (xbsZ (tk s [1, 1]) [1] b B _ _ (h1.kept a2) (xamZ 1 1 q2 rfl (by unfold maxLen; simp)) (xaxZ _ _ _) l1 (by simp) (Nat.le_trans z1 a2.size) hBb).mono ?_
  rintro e w2 ⟨rfl, h2, b2⟩
  have z2 : B ≤ w2.heap.size := Nat.le_trans (Nat.le_trans z1 a2.size) b2.size
  have c2 := (a2.mono z1).trans b2
  have B2 := B1.trans c2
  clear q2 a2
  go_wp2
  go_end0
  exact ⟨rfl, h2, B2⟩
theorem do6_any (s : St) (b B : Nat) (w : World) (h : SA w b B s) (hl : s.1.length ≤ 100) (hB : B ≤ w.heap.size) (hBb : B ≤ b) : Calls Tryz.prog 91 #[.pointer (some ⟨b, 0, none⟩), .int .i64 6] w fun e w' => e = .returned (.tuple #[]) ∧ SA w' b B (lv (tk s [1, 1]) [1]) ∧ Below B w w' := by
  go_enter Tryz.func91, Tryz.ntmps91
  go_wp2_with fail
  have q1 := World.alloc_heap_new w (.cells #[.int .i64 1, .int .i64 1] 3)
  have a1 := (Below.refl w.heap.size w).alloc (Nat.le_refl _) (.cells #[.int .i64 1, .int .i64 1] 3)
  refine (xbzZ s [1, 1] b B _ _ (h.kept a1) (xamZ 2 2 q1 rfl (by unfold maxLen; simp)) hl (by simp) (Nat.le_trans hB a1.size) hBb).mono ?_
  rintro e w1 ⟨rfl, h1, b1⟩
  have l1 : (tk s [1, 1]).1.length ≤ 100 := Nat.le_trans (xciZ _ _) hl
  have z1 : B ≤ w1.heap.size := Nat.le_trans (Nat.le_trans hB a1.size) b1.size
  have c1 := (a1.mono hB).trans b1
  have B1 := c1
  clear q1 a1
  go_wp2_with fail
  have q2 := World.alloc_heap_new w1 (.cells #[.int .i64 1] 3)
  have a2 := (Below.refl w1.heap.size w1).alloc (Nat.le_refl _) (.cells #[.int .i64 1] 3)
  refine (xbsZ (tk s [1, 1]) [1] b B _ _ (h1.kept a2) (xamZ 1 1 q2 rfl (by unfold maxLen; simp)) (xaxZ _ _ _) l1 (by simp) (Nat.le_trans z1 a2.size) hBb).mono ?_
  rintro e w2 ⟨rfl, h2, b2⟩
  have z2 : B ≤ w2.heap.size := Nat.le_trans (Nat.le_trans z1 a2.size) b2.size
  have c2 := (a2.mono z1).trans b2
  have B2 := B1.trans c2
  clear q2 a2
  go_wp2
  go_end0
  exact ⟨rfl, h2, B2⟩
theorem do7_any (s : St) (b B : Nat) (w : World) (h : SA w b B s) (hl : s.1.length ≤ 100) (hB : B ≤ w.heap.size) (hBb : B ≤ b) : Calls Tryz.prog 91 #[.pointer (some ⟨b, 0, none⟩), .int .i64 7] w fun e w' => e = .returned (.tuple #[]) ∧ SA w' b B (lv (tk s [1, 1]) [1]) ∧ Below B w w' := by
  go_enter Tryz.func91, Tryz.ntmps91
  go_wp2_with fail
  have q1 := World.alloc_heap_new w (.cells #[.int .i64 1, .int .i64 1] 3)
  have a1 := (Below.refl w.heap.size w).alloc (Nat.le_refl _) (.cells #[.int .i64 1, .int .i64 1] 3)
  refine (xbzZ s [1, 1] b B _ _ (h.kept a1) (xamZ 2 2 q1 rfl (by unfold maxLen; simp)) hl (by simp) (Nat.le_trans hB a1.size) hBb).mono ?_
  rintro e w1 ⟨rfl, h1, b1⟩
  have l1 : (tk s [1, 1]).1.length ≤ 100 := Nat.le_trans (xciZ _ _) hl
  have z1 : B ≤ w1.heap.size := Nat.le_trans (Nat.le_trans hB a1.size) b1.size
  have c1 := (a1.mono hB).trans b1
  have B1 := c1
  clear q1 a1
  go_wp2_with fail
  have q2 := World.alloc_heap_new w1 (.cells #[.int .i64 1] 3)
  have a2 := (Below.refl w1.heap.size w1).alloc (Nat.le_refl _) (.cells #[.int .i64 1] 3)
  refine (xbsZ (tk s [1, 1]) [1] b B _ _ (h1.kept a2) (xamZ 1 1 q2 rfl (by unfold maxLen; simp)) (xaxZ _ _ _) l1 (by simp) (Nat.le_trans z1 a2.size) hBb).mono ?_
  rintro e w2 ⟨rfl, h2, b2⟩
  have z2 : B ≤ w2.heap.size := Nat.le_trans (Nat.le_trans z1 a2.size) b2.size
  have c2 := (a2.mono z1).trans b2
  have B2 := B1.trans c2
  clear q2 a2
  go_wp2
  go_end0
  exact ⟨rfl, h2, B2⟩
theorem do11_any (s : St) (b B : Nat) (w : World) (h : SA w b B s) (hl : s.1.length ≤ 100) (hB : B ≤ w.heap.size) (hBb : B ≤ b) : Calls Tryz.prog 91 #[.pointer (some ⟨b, 0, none⟩), .int .i64 11] w fun e w' => e = .returned (.tuple #[]) ∧ SA w' b B (tk s [1]) ∧ Below B w w' := by
  go_enter Tryz.func91, Tryz.ntmps91
  go_wp2_with fail
  have q1 := World.alloc_heap_new w (.cells #[.int .i64 1] 3)
  have a1 := (Below.refl w.heap.size w).alloc (Nat.le_refl _) (.cells #[.int .i64 1] 3)
  refine (xbzZ s [1] b B _ _ (h.kept a1) (xamZ 1 1 q1 rfl (by unfold maxLen; simp)) hl (by simp) (Nat.le_trans hB a1.size) hBb).mono ?_
  rintro e w1 ⟨rfl, h1, b1⟩
  have l1 : (tk s [1]).1.length ≤ 100 := Nat.le_trans (xciZ _ _) hl
  have z1 : B ≤ w1.heap.size := Nat.le_trans (Nat.le_trans hB a1.size) b1.size
  have c1 := (a1.mono hB).trans b1
  have B1 := c1
  clear q1 a1
  go_wp2
  go_end0
  exact ⟨rfl, h1, B1⟩
theorem do20_any (s : St) (b B : Nat) (w : World) (h : SA w b B s) (hl : s.1.length ≤ 100) (hB : B ≤ w.heap.size) (hBb : B ≤ b) : Calls Tryz.prog 91 #[.pointer (some ⟨b, 0, none⟩), .int .i64 20] w fun e w' => e = .returned (.tuple #[]) ∧ SA w' b B (tk s [1]) ∧ Below B w w' := by
  go_enter Tryz.func91, Tryz.ntmps91
  go_wp2_with fail
  have q1 := World.alloc_heap_new w (.cells #[.int .i64 1] 3)
  have a1 := (Below.refl w.heap.size w).alloc (Nat.le_refl _) (.cells #[.int .i64 1] 3)
  refine (xbzZ s [1] b B _ _ (h.kept a1) (xamZ 1 1 q1 rfl (by unfold maxLen; simp)) hl (by simp) (Nat.le_trans hB a1.size) hBb).mono ?_
  rintro e w1 ⟨rfl, h1, b1⟩
  have l1 : (tk s [1]).1.length ≤ 100 := Nat.le_trans (xciZ _ _) hl
  have z1 : B ≤ w1.heap.size := Nat.le_trans (Nat.le_trans hB a1.size) b1.size
  have c1 := (a1.mono hB).trans b1
  have B1 := c1
  clear q1 a1
  go_wp2
  go_end0
  exact ⟨rfl, h1, B1⟩
theorem do14_any (s : St) (b B : Nat) (w : World) (h : SA w b B s) (hl : s.1.length ≤ 100) (hB : B ≤ w.heap.size) (hBb : B ≤ b) : Calls Tryz.prog 91 #[.pointer (some ⟨b, 0, none⟩), .int .i64 14] w fun e w' => e = .returned (.tuple #[]) ∧ SA w' b B (lv (tk s [1]) [2]) ∧ Below B w w' := by
  go_enter Tryz.func91, Tryz.ntmps91
  go_wp2_with fail
  have q1 := World.alloc_heap_new w (.cells #[.int .i64 1] 3)
  have a1 := (Below.refl w.heap.size w).alloc (Nat.le_refl _) (.cells #[.int .i64 1] 3)
  refine (xbzZ s [1] b B _ _ (h.kept a1) (xamZ 1 1 q1 rfl (by unfold maxLen; simp)) hl (by simp) (Nat.le_trans hB a1.size) hBb).mono ?_
  rintro e w1 ⟨rfl, h1, b1⟩
  have l1 : (tk s [1]).1.length ≤ 100 := Nat.le_trans (xciZ _ _) hl
  have z1 : B ≤ w1.heap.size := Nat.le_trans (Nat.le_trans hB a1.size) b1.size
  have c1 := (a1.mono hB).trans b1
  have B1 := c1
  clear q1 a1
  go_wp2_with fail
  have q2 := World.alloc_heap_new w1 (.cells #[.int .i64 2] 3)
  have a2 := (Below.refl w1.heap.size w1).alloc (Nat.le_refl _) (.cells #[.int .i64 2] 3)
  refine (xbsZ (tk s [1]) [2] b B _ _ (h1.kept a2) (xamZ 1 1 q2 rfl (by unfold maxLen; simp)) (xaxZ _ _ _) l1 (by simp) (Nat.le_trans z1 a2.size) hBb).mono ?_
  rintro e w2 ⟨rfl, h2, b2⟩
  have z2 : B ≤ w2.heap.size := Nat.le_trans (Nat.le_trans z1 a2.size) b2.size
  have c2 := (a2.mono z1).trans b2
  have B2 := B1.trans c2
  clear q2 a2
  go_wp2
  go_end0
  exact ⟨rfl, h2, B2⟩
theorem do15_any (s : St) (b B : Nat) (w : World) (h : SA w b B s) (hl : s.1.length ≤ 100) (hB : B ≤ w.heap.size) (hBb : B ≤ b) : Calls Tryz.prog 91 #[.pointer (some ⟨b, 0, none⟩), .int .i64 15] w fun e w' => e = .returned (.tuple #[]) ∧ SA w' b B (lv (tk s [2, 1]) [1]) ∧ Below B w w' := by
  go_enter Tryz.func91, Tryz.ntmps91
  go_wp2_with fail
  have q1 := World.alloc_heap_new w (.cells #[.int .i64 2, .int .i64 1] 3)
  have a1 := (Below.refl w.heap.size w).alloc (Nat.le_refl _) (.cells #[.int .i64 2, .int .i64 1] 3)
  refine (xbzZ s [2, 1] b B _ _ (h.kept a1) (xamZ 2 2 q1 rfl (by unfold maxLen; simp)) hl (by simp) (Nat.le_trans hB a1.size) hBb).mono ?_
  rintro e w1 ⟨rfl, h1, b1⟩
  have l1 : (tk s [2, 1]).1.length ≤ 100 := Nat.le_trans (xciZ _ _) hl
  have z1 : B ≤ w1.heap.size := Nat.le_trans (Nat.le_trans hB a1.size) b1.size
  have c1 := (a1.mono hB).trans b1
  have B1 := c1
  clear q1 a1
  go_wp2_with fail
  have q2 := World.alloc_heap_new w1 (.cells #[.int .i64 1] 3)
  have a2 := (Below.refl w1.heap.size w1).alloc (Nat.le_refl _) (.cells #[.int .i64 1] 3)
  refine (xbsZ (tk s [2, 1]) [1] b B _ _ (h1.kept a2) (xamZ 1 1 q2 rfl (by unfold maxLen; simp)) (xaxZ _ _ _) l1 (by simp) (Nat.le_trans z1 a2.size) hBb).mono ?_
  rintro e w2 ⟨rfl, h2, b2⟩
  have z2 : B ≤ w2.heap.size := Nat.le_trans (Nat.le_trans z1 a2.size) b2.size
  have c2 := (a2.mono z1).trans b2
  have B2 := B1.trans c2
  clear q2 a2
  go_wp2
  go_end0
  exact ⟨rfl, h2, B2⟩
theorem do16_any (s : St) (b B : Nat) (w : World) (h : SA w b B s) (hl : s.1.length ≤ 100) (hB : B ≤ w.heap.size) (hBb : B ≤ b) : Calls Tryz.prog 91 #[.pointer (some ⟨b, 0, none⟩), .int .i64 16] w fun e w' => e = .returned (.tuple #[]) ∧ SA w' b B (tk s [2, 1, 1]) ∧ Below B w w' := by
  go_enter Tryz.func91, Tryz.ntmps91
  go_wp2_with fail
  have q1 := World.alloc_heap_new w (.cells #[.int .i64 2, .int .i64 1, .int .i64 1] 3)
  have a1 := (Below.refl w.heap.size w).alloc (Nat.le_refl _) (.cells #[.int .i64 2, .int .i64 1, .int .i64 1] 3)
  refine (xbzZ s [2, 1, 1] b B _ _ (h.kept a1) (xamZ 3 3 q1 rfl (by unfold maxLen; simp)) hl (by simp) (Nat.le_trans hB a1.size) hBb).mono ?_
  rintro e w1 ⟨rfl, h1, b1⟩
  have l1 : (tk s [2, 1, 1]).1.length ≤ 100 := Nat.le_trans (xciZ _ _) hl
  have z1 : B ≤ w1.heap.size := Nat.le_trans (Nat.le_trans hB a1.size) b1.size
  have c1 := (a1.mono hB).trans b1
  have B1 := c1
  clear q1 a1
  go_wp2
  go_end0
  exact ⟨rfl, h1, B1⟩
theorem do17_any (s : St) (b B : Nat) (w : World) (h : SA w b B s) (hl : s.1.length ≤ 100) (hB : B ≤ w.heap.size) (hBb : B ≤ b) : Calls Tryz.prog 91 #[.pointer (some ⟨b, 0, none⟩), .int .i64 17] w fun e w' => e = .returned (.tuple #[]) ∧ SA w' b B (lv (tk s [2]) [1]) ∧ Below B w w' := by
  go_enter Tryz.func91, Tryz.ntmps91
  go_wp2_with fail
  have q1 := World.alloc_heap_new w (.cells #[.int .i64 2] 3)
  have a1 := (Below.refl w.heap.size w).alloc (Nat.le_refl _) (.cells #[.int .i64 2] 3)
  refine (xbzZ s [2] b B _ _ (h.kept a1) (xamZ 1 1 q1 rfl (by unfold maxLen; simp)) hl (by simp) (Nat.le_trans hB a1.size) hBb).mono ?_
  rintro e w1 ⟨rfl, h1, b1⟩
  have l1 : (tk s [2]).1.length ≤ 100 := Nat.le_trans (xciZ _ _) hl
  have z1 : B ≤ w1.heap.size := Nat.le_trans (Nat.le_trans hB a1.size) b1.size
  have c1 := (a1.mono hB).trans b1
  have B1 := c1
  clear q1 a1
  go_wp2_with fail
  have q2 := World.alloc_heap_new w1 (.cells #[.int .i64 1] 3)
  have a2 := (Below.refl w1.heap.size w1).alloc (Nat.le_refl _) (.cells #[.int .i64 1] 3)
  refine (xbsZ (tk s [2]) [1] b B _ _ (h1.kept a2) (xamZ 1 1 q2 rfl (by unfold maxLen; simp)) (xaxZ _ _ _) l1 (by simp) (Nat.le_trans z1 a2.size) hBb).mono ?_
  rintro e w2 ⟨rfl, h2, b2⟩
  have z2 : B ≤ w2.heap.size := Nat.le_trans (Nat.le_trans z1 a2.size) b2.size
  have c2 := (a2.mono z1).trans b2
  have B2 := B1.trans c2
  clear q2 a2
  go_wp2
  go_end0
  exact ⟨rfl, h2, B2⟩
theorem do19_any (s : St) (b B : Nat) (w : World) (h : SA w b B s) (hl : s.1.length ≤ 100) (hB : B ≤ w.heap.size) (hBb : B ≤ b) : Calls Tryz.prog 91 #[.pointer (some ⟨b, 0, none⟩), .int .i64 19] w fun e w' => e = .returned (.tuple #[]) ∧ SA w' b B (lv (tk s [2]) [1]) ∧ Below B w w' := by
  go_enter Tryz.func91, Tryz.ntmps91
  go_wp2_with fail
  have q1 := World.alloc_heap_new w (.cells #[.int .i64 2] 3)
  have a1 := (Below.refl w.heap.size w).alloc (Nat.le_refl _) (.cells #[.int .i64 2] 3)
  refine (xbzZ s [2] b B _ _ (h.kept a1) (xamZ 1 1 q1 rfl (by unfold maxLen; simp)) hl (by simp) (Nat.le_trans hB a1.size) hBb).mono ?_
  rintro e w1 ⟨rfl, h1, b1⟩
  have l1 : (tk s [2]).1.length ≤ 100 := Nat.le_trans (xciZ _ _) hl
  have z1 : B ≤ w1.heap.size := Nat.le_trans (Nat.le_trans hB a1.size) b1.size
  have c1 := (a1.mono hB).trans b1
  have B1 := c1
  clear q1 a1
  go_wp2_with fail
  have q2 := World.alloc_heap_new w1 (.cells #[.int .i64 1] 3)
  have a2 := (Below.refl w1.heap.size w1).alloc (Nat.le_refl _) (.cells #[.int .i64 1] 3)
  refine (xbsZ (tk s [2]) [1] b B _ _ (h1.kept a2) (xamZ 1 1 q2 rfl (by unfold maxLen; simp)) (xaxZ _ _ _) l1 (by simp) (Nat.le_trans z1 a2.size) hBb).mono ?_
  rintro e w2 ⟨rfl, h2, b2⟩
  have z2 : B ≤ w2.heap.size := Nat.le_trans (Nat.le_trans z1 a2.size) b2.size
  have c2 := (a2.mono z1).trans b2
  have B2 := B1.trans c2
  clear q2 a2
  go_wp2
  go_end0
  exact ⟨rfl, h2, B2⟩
theorem do18_any (s : St) (b B : Nat) (w : World) (h : SA w b B s) (hl : s.1.length ≤ 100) (hB : B ≤ w.heap.size) (hBb : B ≤ b) : Calls Tryz.prog 91 #[.pointer (some ⟨b, 0, none⟩), .int .i64 18] w fun e w' => e = .returned (.tuple #[]) ∧ SA w' b B (lv s [3]) ∧ Below B w w' := by
  go_enter Tryz.func91, Tryz.ntmps91
  go_wp2_with fail
  have q1 := World.alloc_heap_new w (.cells #[.int .i64 3] 3)
  have a1 := (Below.refl w.heap.size w).alloc (Nat.le_refl _) (.cells #[.int .i64 3] 3)
  refine (xbsZ s [3] b B _ _ (h.kept a1) (xamZ 1 1 q1 rfl (by unfold maxLen; simp)) (xaxZ _ _ _) hl (by simp) (Nat.le_trans hB a1.size) hBb).mono ?_
  rintro e w1 ⟨rfl, h1, b1⟩
  have z1 : B ≤ w1.heap.size := Nat.le_trans (Nat.le_trans hB a1.size) b1.size
  have c1 := (a1.mono hB).trans b1
  have B1 := c1
  clear q1 a1
  go_wp2
  go_end0
  exact ⟨rfl, h1, B1⟩
theorem do10_any (s : St) (b B : Nat) (w : World) (h : SA w b B s) (hl : s.1.length ≤ 100) (hB : B ≤ w.heap.size) (hBb : B ≤ b) : Calls Tryz.prog 91 #[.pointer (some ⟨b, 0, none⟩), .int .i64 10] w fun e w' => e = .returned (.tuple #[]) ∧ SA w' b B (s) ∧ Below B w w' := by
  go_enter Tryz.func91, Tryz.ntmps91
  go_wp2
  go_end0
  exact ⟨rfl, h, Below.refl _ _⟩
def doS (s : St) (c : Int) : St := if (xa6Z c).2 = [] then tk s (xa6Z c).1 else lv (tk s (xa6Z c).1) (xa6Z c).2
theorem do_any (c : Int) (hc : 1 ≤ c ∧ c ≤ 21) (hne : c ≠ 2 ∧ c ≠ 3 ∧ c ≠ 4 ∧ c ≠ 8 ∧ c ≠ 9 ∧ c ≠ 12 ∧ c ≠ 13) (s : St) (b B : Nat) (w : World) (h : SA w b B s) (hl : s.1.length ≤ 100) (hB : B ≤ w.heap.size) (hBb : B ≤ b) : Calls Tryz.prog 91 #[.pointer (some ⟨b, 0, none⟩), .int .i64 c] w fun e w' => e = .returned (.tuple #[]) ∧ SA w' b B (doS s c) ∧ Below B w w' := by
  have hall : c = 1 ∨ c = 5 ∨ c = 6 ∨ c = 7 ∨ c = 10 ∨ c = 11 ∨ c = 14 ∨ c = 15 ∨ c = 16 ∨ c = 17 ∨ c = 18 ∨ c = 19 ∨ c = 20 ∨ c = 21 := by omega
  rcases hall with rfl | rfl | rfl | rfl | rfl | rfl | rfl | rfl | rfl | rfl | rfl | rfl | rfl | rfl
  · exact do1_any s b B w h hl hB hBb
  · exact do5_any s b B w h hl hB hBb
  · exact do6_any s b B w h hl hB hBb
  · exact do7_any s b B w h hl hB hBb
  · exact do10_any s b B w h hl hB hBb
  · exact do11_any s b B w h hl hB hBb
  · exact do14_any s b B w h hl hB hBb
  · exact do15_any s b B w h hl hB hBb
  · exact do16_any s b B w h hl hB hBb
  · exact do17_any s b B w h hl hB hBb
  · exact do18_any s b B w h hl hB hBb
  · exact do19_any s b B w h hl hB hBb
  · exact do20_any s b B w h hl hB hBb
  · exact do21_any s b B w h hl hB hBb
end Go.Proofs.YtgmkmlenhhhgkaaGreat


