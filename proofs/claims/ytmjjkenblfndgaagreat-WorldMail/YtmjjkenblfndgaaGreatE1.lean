/- My texts Pl Wa Mem Wb Wc Shelf Bld Wd Bgr We Wh Wi Wj Mp Pm Pq Va: what of them is needed, joined. -/
import Derived.WalkKit
import Derived.Test.YtmjjkenblfndgaaGreatRows
import Derived.WalkSpells
import Derived.WalkLawsBesides
import Derived.Shelf.Strings.BuilderK
import Derived.Test.YtmjjkenblfndgaaGreatProg
import Derived.Lib.MakeNoZero
import Derived.Laws.IdiomCopy
import Derived.RangeFuncNested
import Derived.RangeFuncBound
import Derived.RangeFuncCalls
import Derived.RangeFuncLeaves
import Derived.Shelf.Abstract
import Derived.Shelf.RegionOpen
import Derived.OwnWalkIn
import Derived.TacticsInMore
import Derived.LoopNIn
import Derived.LoopIn
import Derived.Maps.AppendAt
import Derived.Lib.Strings
import Derived.Laws.StructEq
import Derived.Deep.QuietTactic
import Derived.BigQuiet

set_option maxRecDepth 100000
set_option maxHeartbeats 8000000
/- Plain functions on numbers and lists: what the ops' functions compute. Of no program. -/
namespace Go.Proofs.YtmjjkenblfndgaaGreat
def hasA (c : Int) : Bool := c == 1 || c == 8 || c == 9 || c == 10 || c == 11 || c == 12
def xe0Z (c : Int) : Bool := decide (1 ≤ c) && decide (c ≤ 21)
def isI32 (a : Int) : Bool := decide (-2147483648 ≤ a) && decide (a ≤ 2147483647)
def chk (c a : Int) : Int := if xe0Z c = false then 6 else if hasA c = false ∧ a ≠ 0 then 1 else if isI32 a = false then 3 else 0
def xcpZ : List (Int × Int) → Int
  | [] => 0
  | o :: r => if chk o.1 o.2 = 0 then xcpZ r else chk o.1 o.2
def xa9Z (l : List (Int × Int)) : Int := if 40 < l.length then 2 else xcpZ l
theorem xn6Z (l : List (Int × Int)) (h : ∀ o ∈ l, chk o.1 o.2 = 0) : xcpZ l = 0 := by
  induction l with
  | nil => rfl
  | cons o r ih => rw [xcpZ, if_pos (h o (by simp))]; exact ih fun x hx => h x (by simp [hx])
theorem xptZ (l : List (Int × Int)) (k : Nat) (o : Int × Int) (hk : l[k]? = some o) (h : ∀ x ∈ l.take k, chk x.1 x.2 = 0) (he : ¬ chk o.1 o.2 = 0) : xcpZ l = chk o.1 o.2 := by
  induction l generalizing k with
  | nil => simp at hk
  | cons x r ih =>
    cases k with
    | zero => simp at hk; subst hk; rw [xcpZ, if_neg he]
    | succ k => rw [xcpZ, if_pos (h x (by simp))]; exact ih k (by simpa using hk) fun y hy => h y (by simp [hy])
theorem xazZ {α : Type} (l : List α) (k : Nat) (o : α) (hk : l[k]? = some o) : l.take (k + 1) = l.take k ++ [o] := by
  rw [List.take_add_one, hk]; rfl
end Go.Proofs.YtmjjkenblfndgaaGreat


/- Walks of the leaf functions of package op and of the reference: each returns what the plain function says. -/
namespace Go.Proofs.YtmjjkenblfndgaaGreat
open Go.RowKit
set_option linter.unusedSimpArgs false
set_option linter.unusedVariables false
theorem xeoZ (c : Int) (w : World) : Calls Tryz.prog 120 #[.int .i64 c] w fun e w' => e = .returned (.bool (xe0Z c)) ∧ w' = w := by
  by_cases h1 : 1 ≤ c
  · by_cases h2 : c ≤ 21
    · go_enter Tryz.func120, Tryz.ntmps120
      go_wp2
      go_ret
      exact ⟨by simp [xe0Z, h1, h2], rfl⟩
    · go_enter Tryz.func120, Tryz.ntmps120
      go_wp2
      go_ret
      exact ⟨by simp [xe0Z, h1, h2], rfl⟩
  · have hd : decide (1 ≤ c) = false := by simpa using h1
    go_enter Tryz.func120, Tryz.ntmps120
    go_wp2
    go_ret
    exact ⟨by simp [xe0Z, hd], rfl⟩
theorem xcyZ (c : Int) (w : World) : Calls Tryz.prog 121 #[.int .i64 c] w fun e w' => e = .returned (.bool (hasA c)) ∧ w' = w := by
  go_enter Tryz.func121, Tryz.ntmps121
  go_wp2
  all_goals
    go_ret
    exact ⟨by simp [hasA, *], rfl⟩
theorem wrap_wrap (n : Int) : wrap64 (wrap32 n) = wrap32 n := by unfold wrap64 wrap32; omega
theorem xdrZ (n : Int) (w : World) : Calls Tryz.prog 41 #[.int .i64 n] w fun e w' => e = .returned (.int .i64 (wrap32 n)) ∧ w' = w := by
  go_enter Tryz.func41, Tryz.ntmps41
  go_wp2
  go_ret
  exact ⟨by simp [wrap_wrap], rfl⟩
theorem xgjZ (c a : Int) (w : World) : Calls Tryz.prog 85 #[.agg #[.int .i64 c, .int .i64 a]] w fun e w' => e = .returned (.int .i64 (chk c a)) ∧ Below w.heap.size w w' := by
  have hb : ∀ o, Below w.heap.size w (w.alloc o) := fun o => (Below.refl _ _).alloc (Nat.le_refl _) _
  cases hk : xe0Z c
  · go_enter Tryz.func85, Tryz.ntmps85
    go_wp2_with (first | (go_at_call 120; refine (xeoZ _ _).mono ?_; rintro e w' ⟨rfl, rfl⟩) | (go_at_call 121; refine (xcyZ _ _).mono ?_; rintro e w' ⟨rfl, rfl⟩))
    go_ret
    exact ⟨by simp [chk, hk], hb _⟩
  cases hh : hasA c
  · cases h0 : (a != 0)
    · by_cases h1 : a < -2147483648
      · simp at h0; omega
      by_cases h2 : 2147483647 < a
      · simp at h0; omega
      go_enter Tryz.func85, Tryz.ntmps85
      go_wp2_with (first | (go_at_call 120; refine (xeoZ _ _).mono ?_; rintro e w' ⟨rfl, rfl⟩) | (go_at_call 121; refine (xcyZ _ _).mono ?_; rintro e w' ⟨rfl, rfl⟩))
      go_ret
      exact ⟨by simp at h0; simp [chk, hk, hh, isI32, h0], hb _⟩
    · go_enter Tryz.func85, Tryz.ntmps85
      go_wp2_with (first | (go_at_call 120; refine (xeoZ _ _).mono ?_; rintro e w' ⟨rfl, rfl⟩) | (go_at_call 121; refine (xcyZ _ _).mono ?_; rintro e w' ⟨rfl, rfl⟩))
      go_ret
      exact ⟨by simp at h0; simp [chk, hk, hh, h0], hb _⟩
  · by_cases h1 : a < -2147483648
    · go_enter Tryz.func85, Tryz.ntmps85
      go_wp2_with (first | (go_at_call 120; refine (xeoZ _ _).mono ?_; rintro e w' ⟨rfl, rfl⟩) | (go_at_call 121; refine (xcyZ _ _).mono ?_; rintro e w' ⟨rfl, rfl⟩))
      go_ret
      exact ⟨by have : ¬ -2147483648 ≤ a := by omega
                simp [chk, hk, hh, isI32, this], hb _⟩
    · have hd : decide (a < -2147483648) = false := by simpa using h1
      by_cases h2 : 2147483647 < a
      · go_enter Tryz.func85, Tryz.ntmps85
        go_wp2_with (first | (go_at_call 120; refine (xeoZ _ _).mono ?_; rintro e w' ⟨rfl, rfl⟩) | (go_at_call 121; refine (xcyZ _ _).mono ?_; rintro e w' ⟨rfl, rfl⟩))
        go_ret
        exact ⟨by have : ¬ a ≤ 2147483647 := by omega
                  simp [chk, hk, hh, isI32, this], hb _⟩
      · go_enter Tryz.func85, Tryz.ntmps85
        go_wp2_with (first | (go_at_call 120; refine (xeoZ _ _).mono ?_; rintro e w' ⟨rfl, rfl⟩) | (go_at_call 121; refine (xcyZ _ _).mono ?_; rintro e w' ⟨rfl, rfl⟩))
        go_ret
        exact ⟨by have h3 : -2147483648 ≤ a := by omega
                  have h4 : a ≤ 2147483647 := by omega
                  simp [chk, hk, hh, isI32, h3, h4], hb _⟩
end Go.Proofs.YtmjjkenblfndgaaGreat


/- Code in memory: a slice value and the cells behind it. -/
namespace Go.Proofs.YtmjjkenblfndgaaGreat
open Go.RowKit
def OpsAt (w : World) (v : Value) (l : List (Int × Int)) : Prop :=
  ∃ (p : Option Addr) (cap : Nat), v = .slice p l.length cap ∧ l.length ≤ maxLen ∧ ∀ k o, l[k]? = some o →
    ∃ b off, p = some ⟨b, off, none⟩ ∧ b < w.heap.size ∧ w.cell? ⟨b, off + k * 2, none⟩ = some (.int .i64 o.1) ∧ w.cell? ⟨b, off + k * 2 + 1, none⟩ = some (.int .i64 o.2)
theorem OpsAt.below {w w' : World} {v : Value} {l : List (Int × Int)} (h : OpsAt w v l) (hb : Below w.heap.size w w') : OpsAt w' v l := by
  obtain ⟨p, cap, rfl, hm, hc⟩ := h
  refine ⟨p, cap, rfl, hm, fun k o hk => ?_⟩
  obtain ⟨b, off, rfl, hlt, h0, h1⟩ := hc k o hk
  exact ⟨b, off, rfl, Nat.lt_of_lt_of_le hlt hb.size, (hb.cell (p := ⟨b, off + k * 2, none⟩) hlt).trans h0, (hb.cell (p := ⟨b, off + k * 2 + 1, none⟩) hlt).trans h1⟩
end Go.Proofs.YtmjjkenblfndgaaGreat


/- Walks over code in memory: CheckOp, CheckCode, IndexFunc at Encode's closure. -/
namespace Go.Proofs.YtmjjkenblfndgaaGreat
open Go.RowKit
set_option linter.unusedSimpArgs false
set_option linter.unusedVariables false
theorem xadZ {α : Type} {l : List α} {k : Nat} {o : α} (h : l[k]? = some o) : k < l.length := (List.getElem?_eq_some_iff.1 h).1
theorem xagZ {α : Type} {l : List α} {k : Nat} (h : k < l.length) : ∃ o, l[k]? = some o := ⟨l[k], List.getElem?_eq_some_iff.2 ⟨h, rfl⟩⟩
end Go.Proofs.YtmjjkenblfndgaaGreat


/- Encode's closure, and IndexFunc at it. -/
namespace Go.Proofs.YtmjjkenblfndgaaGreat
open Go.RowKit
set_option linter.unusedSimpArgs false
set_option linter.unusedVariables false
theorem xh9Z (c a : Int) (w : World) : Calls Tryz.prog 201 #[.agg #[.int .i64 c, .int .i64 a]] w fun e w' => e = .returned (.bool (chk c a != 0)) ∧ Below w.heap.size w w' := by
  have hb : ∀ o, Below w.heap.size w (w.alloc o) := fun o => (Below.refl _ _).alloc (Nat.le_refl _) _
  go_enter Tryz.func201, Tryz.ntmps201
  go_wp2_with (go_at_call 85; refine (xgjZ _ _ _).mono ?_; rintro e w2 ⟨rfl, hb2⟩)
  go_ret
  exact ⟨rfl, (hb _).trans (hb2.mono (by simp))⟩
def isFirst (l : List (Int × Int)) (r : Int) : Prop :=
  (r = -1 ∧ ∀ o ∈ l, chk o.1 o.2 = 0) ∨ ∃ k o, r = ((k : Nat) : Int) ∧ l[k]? = some o ∧ (∀ x ∈ l.take k, chk x.1 x.2 = 0) ∧ ¬ chk o.1 o.2 = 0
theorem xnaZ (l : List (Int × Int)) (v : Value) (w : World) (h : OpsAt w v l) : Calls Tryz.prog 200 #[v, .func (.func 201) #[] #[]] w fun e w' => ∃ r, e = .returned (.int .i64 r) ∧ isFirst l r ∧ Below w.heap.size w w' := by
  obtain ⟨p, cap, rfl, hm, hc⟩ := h
  unfold maxLen at hm
  go_enter Tryz.func200, Tryz.ntmps200
  go_wp2
  go_loopw [5, 8] (fun _ i wr => ∃ k : Nat, k ≤ l.length ∧ i = .int .i64 k ∧ (∀ o ∈ l.take k, chk o.1 o.2 = 0) ∧ Below w.heap.size w wr) (fun _ i _ => l.length - (intOf i).toNat)
  case atStart => exact ⟨0, Nat.zero_le _, rfl, by simp, Below.refl _ _⟩
  case round =>
    obtain ⟨k, hk, rfl, hok, hbw⟩ := hrel
    have HK : Hid (∀ o ∈ l.take k, chk o.1 o.2 = 0) := hok
    clear hok
    have HC : Hid (∀ k o, l[k]? = some o → ∃ b off, p = some ⟨b, off, none⟩ ∧ b < w.heap.size ∧ w.cell? ⟨b, off + k * 2, none⟩ = some (.int .i64 o.1) ∧ w.cell? ⟨b, off + k * 2 + 1, none⟩ = some (.int .i64 o.2)) := hc
    clear hc
    by_cases hlt : k < l.length
    · obtain ⟨⟨c, a⟩, ho⟩ := xagZ hlt
      obtain ⟨b, off, rfl, hb, h0, h1⟩ := HC.out k _ ho
      have g0 := (hbw.cell (p := ⟨b, off + k * 2, none⟩) hb).trans h0
      have g1 := (hbw.cell (p := ⟨b, off + k * 2 + 1, none⟩) hb).trans h1
      have HO : Hid (l[k]? = some (c, a)) := ho
      clear ho h0 h1
      by_cases he : chk c a = 0
      · have he' : (chk c a != 0) = false := by simp [he]
        have HE : Hid (chk c a = 0) := he
        clear he
        go_wp2_with (go_at_call 201; refine (xh9Z _ _ _).mono ?_; rintro e w2 ⟨rfl, hb2⟩)
        go_roundw
        case rel => exact ⟨k + 1, by omega, by go_num, by
          rw [xazZ l k _ HO.out]; intro x hx; rcases List.mem_append.1 hx with hx | hx
          · exact HK.out x hx
          · simp at hx; subst hx; exact HE.out, hbw.trans (hb2.mono hbw.size)⟩
        case measure => simp [intOf]; omega
      · have he' : (chk c a != 0) = true := by simp [he]
        go_wp2_with (go_at_call 201; refine (xh9Z _ _ _).mono ?_; rintro e w2 ⟨rfl, hb2⟩)
        go_ret
        exact ⟨k, rfl, .inr ⟨k, _, rfl, HO.out, HK.out, he⟩, hbw.trans (hb2.mono hbw.size)⟩
    · have hlt' : ¬ (k : Int) < (l.length : Int) := by omega
      go_wp2
      go_ret
      exact ⟨-1, rfl, .inl ⟨rfl, by have := HK.out; rwa [List.take_of_length_le (by omega)] at this⟩, hbw⟩
end Go.Proofs.YtmjjkenblfndgaaGreat


/- strings.Builder's String: the library's contract, laid at this program's numbers (one laying, one application). -/
namespace Go.Proofs
open Go.Shelf
def Tryz.lays169_ren : Go.Shelf.Ren := ⟨fun | 169 => 60 | n => n, fun | 70 => 95 | 9 => 9 | 0 => 0 | 72 => 98 | 37 => 96 | 127 => 139 | 3 => 3 | 5 => 5 | n => n, fun | n => n⟩
theorem Tryz.lays169 : Go.Proofs.Lays.n169 Tryz.prog Tryz.lays169_ren := {
  mixed := by kernel_rfl
  f169 := Tryz.func60.trans (congrArg some (by kernel_rfl))
  t0 := Tryz.underlying0
  a0 := Tryz.isAgg0
  z0 := Tryz.sizeOf0
  v0 := Tryz.zeroValue0
  t3 := Tryz.underlying3
  a3 := Tryz.isAgg3
  z3 := Tryz.sizeOf3
  v3 := Tryz.zeroValue3
  t9 := Tryz.underlying9
  a9 := Tryz.isAgg9
  z9 := Tryz.sizeOf9
  v9 := Tryz.zeroValue9
  t37 := Tryz.underlying96
  a37 := Tryz.isAgg96
  z37 := Tryz.sizeOf96
  v37 := Tryz.zeroValue96
  t70 := Tryz.underlying95
  a70 := Tryz.isAgg95
  z70 := Tryz.sizeOf95
  v70 := Tryz.zeroValue95
  t72 := Tryz.underlying98
  a72 := Tryz.isAgg98
  z72 := Tryz.sizeOf98
  v72 := Tryz.zeroValue98
  t127 := Tryz.underlying139
  a127 := Tryz.isAgg139
  z127 := Tryz.sizeOf139
  v127 := Tryz.zeroValue139 }
theorem Tryz.Builder_Extra_169 : Builder.Extra Tryz.prog Tryz.lays169_ren := {
  sizeBuilder := by kernel_rfl
  liesBuilder := by kernel_rfl
  t5 := Tryz.underlying5
  a5 := Tryz.isAgg5
  z5 := Tryz.sizeOf5
  v5 := Tryz.zeroValue5
  infoByte := by kernel_rfl
  cellsByte := by kernel_rfl
  sizeByte := by kernel_rfl
  neB5 := by decide }
open Go.RowKit in
theorem Tryz.string_any (B b : Nat) (l : List UInt8) (w : World) (h : Lib.IsBuilderF 98 5 B b (Lib.byteCells l) w) (hBw : B ≤ w.heap.size) :
    Calls Tryz.prog 60 #[.pointer (some ⟨b, 0, none⟩)] w fun e w' => e = .returned (.string ⟨l.toArray⟩) ∧ (Lib.IsBuilderF 98 5 B b (Lib.byteCells l) w' ∧ Below B w w' ∧ Lib.OthersKept 5 (some b) w w') := Any.Builder_String_any_k Tryz.lays169 Tryz.Builder_Extra_169 B b l w h hBw
end Go.Proofs


/- strings.Builder at this program: copyCheck, WriteByte, WriteString (the shelf's layings of these fall here: this translation has a refused statement in the place of copyCheck's panic). -/
namespace Go.Proofs.YtmjjkenblfndgaaGreat
open Go.RowKit
set_option linter.unusedSimpArgs false
set_option linter.unusedVariables false
abbrev Bld (B b : Nat) (bs : List Value) (w : World) : Prop := Lib.IsBuilderF 98 5 B b bs w
theorem xmnZ : (Tryz.prog.info? 98).map (fun i => i.size) = some 2 := by kernel_rfl
theorem liesBuilder : liesAt Tryz.prog Tryz.prog.depth 98 (2 / Tryz.prog.cellsOf 98) 0 98 1 = true := by kernel_rfl
theorem infoByte : (Tryz.prog.info? 5).map (fun i => (i.zero, i.size, i.bytes)) = some (some (.int .u8 0), 1, 1) := by kernel_rfl
theorem xm1Z (B b : Nat) (bs : List Value) (w : World) (h : Bld B b bs w) :
    Calls Tryz.prog 124 #[.pointer (some ⟨b, 0, none⟩)] w fun e w' => e = .returned (.tuple #[]) ∧ (Lib.BuilderAtF 98 5 B b (.pointer (some ⟨b, 0, none⟩)) bs w' ∧ Below B w w' ∧ Lib.OthersKept 5 (some b) w w') := by
  obtain ⟨j, hj, hjs⟩ := Option.map_eq_some_iff.1 xmnZ
  rcases h with h | h
  · have h0 := h.cell0
    have hsh := h.shape
    have hfz := h.frozen0
    go_enter Tryz.func124, Tryz.ntmps124
    go_wp2
    rw [Lib.run_to_unsafe w ⟨b, 0, none⟩ Tryz.underlying95 Tryz.underlying201 hj (by rw [hjs]; decide) hsh (Nat.zero_lt_succ 1)]
    simp only [Result.andThen]
    rw [Oper.upon_value]
    go_wp2
    rw [run_callFunc_extern Tryz.func163 (by kernel_rfl) (by kernel_rfl) (by kernel_rfl) (e := Extern.AbiNoEscape.same) (by kernel_rfl)]
    rw [Lib.run_noEscape]
    simp only [Result.andThen]
    rw [Oper.upon_value]
    go_wp2
    rw [Lib.run_from_unsafe w ⟨b, 0, none⟩ Tryz.underlying201 Tryz.underlying95 hj hsh liesBuilder]
    simp only [Result.andThen]
    rw [Oper.upon_value]
    go_wp2
    go_end0
    exact ⟨rfl, h.used _, (Below.refl B w).setCell (p := ⟨b, 0, none⟩) h.1 _, (Lib.OthersKept.refl _ _ w).setCell ⟨b, 0, none⟩ rfl _⟩
  · have h0 := h.cell0
    go_enter Tryz.func124, Tryz.ntmps124
    go_wp2
    rw [Lib.run_neq_ptr_same w _ Tryz.underlying95 hj]
    go_wp2
    go_end0
    exact ⟨rfl, h, Below.refl B _, Lib.OthersKept.refl _ _ _⟩
theorem xacZ {w : World} {b : Nat} {o : Obj} (h : w.heap[b]? = some o) : b < w.heap.size := (Array.getElem?_eq_some_iff.1 h).1
theorem xniZ (B b : Nat) (bs : List Value) (c : Int) (w : World) (h : Bld B b bs w) (hlen : bs.length + 1 ≤ 140737488355328) (hBw : B ≤ w.heap.size) :
    Calls Tryz.prog 90 #[.pointer (some ⟨b, 0, none⟩), .int .u8 c] w fun e w' => e = .returned .nilIface ∧ (Bld B b (bs ++ [.int .u8 c]) w' ∧ Below B w w' ∧ Lib.OthersKept 5 (some b) w w') := by
  obtain ⟨i0, hi, hz0, hz1, hz2⟩ := info_parts infoByte
  go_enter Tryz.func90, Tryz.ntmps90
  go_wp2_with (go_at_call 124; refine (xm1Z B b bs _ h).mono ?_)
  rintro e w1 ⟨rfl, h1, hb1, hk1⟩
  obtain ⟨hB, v, hbk, hown, hne⟩ := h1
  have c0 : w1.cell? ⟨b, 0, none⟩ = some (.pointer (some ⟨b, 0, none⟩)) := by rw [Lib.cell_of_heap hbk]; rfl
  have c1 : w1.cell? ⟨b, 1, none⟩ = some v := by rw [Lib.cell_of_heap hbk]; rfl
  go_wp2_with (at_builtin; refine wpList_append_ownF _ rfl _ _ 96 rfl B 5 i0 (.int .u8 0) 1 1 Tryz.underlying96 hi hz0 hz1 hz2 rfl (by decide) _ _ _ rfl (hown.alloc _) ⟨w1.heap.size, 0, none⟩ 1 1 [.int .u8 c] rfl rfl ?c1 ?c2 ?c3 ?c4 ?c5 ?_)
  case c1 =>
    intro j u hj
    match j, hj with
    | 0, hj => simp at hj; subst hj; simp [Addr.add]
  case c2 => intro u hu; simp at hu; subst hu; rfl
  case c3 => unfold maxLen; omega
  case c4 => omega
  case c5 => have := hb1.size; simp; omega
  intro v' w2 hown' hgrow _
  have hlt := xacZ hbk
  have hb2 : w2.heap[b]? = some (.cells #[.pointer (some ⟨b, 0, none⟩), v] 98 (0, 0)) := by
    rw [hgrow.block b (by simp; omega) (fun e => hne e.symm), Lib.alloc_old w1 _ b hlt]
    exact hbk
  have d0 : w2.cell? ⟨b, 0, none⟩ = some (.pointer (some ⟨b, 0, none⟩)) := by rw [Lib.cell_of_heap hb2]; rfl
  have d1 : w2.cell? ⟨b, 1, none⟩ = some v := by rw [Lib.cell_of_heap hb2]; rfl
  have f1 : w2.frozen? ⟨b, 1, none⟩ = false := Lib.frozen_of_heap hb2 1
  obtain ⟨g, cap, rfl⟩ : ∃ g cap, v' = .slice (some ⟨g, 0, none⟩) (bs.length + 1) cap := by
    rcases hown'.2 with ⟨_, h0⟩ | ⟨g, cap, cur, fz, hv, _⟩
    · omega
    · exact ⟨g, cap, hv⟩
  go_wp2
  go_ret
  refine ⟨rfl, .inr ?_, ?_, ((hk1.alloc _).grown hgrow (Lib.ownsRowF_kind (hown.alloc _))).setCell ⟨b, 1, none⟩ rfl _⟩
  · exact Lib.BuilderAtF.put (T := 98) (e := 5) hB hb2 (bs' := bs ++ [.int .u8 c]) (by simpa using hown') (by decide)
  · exact ((hb1.alloc (by have := hb1.size; omega) _).grown hgrow (by have := hb1.size; simp; omega) (fun k hk => (hown.lt k hk).1)).setCell (p := ⟨b, 1, none⟩) hB _
end Go.Proofs.YtmjjkenblfndgaaGreat


/- octet.Put and op.putOp. -/
namespace Go.Proofs.YtmjjkenblfndgaaGreat
open Go.RowKit
set_option linter.unusedSimpArgs false
set_option linter.unusedVariables false
def Stay (B b : Nat) (w : World) (a : Addr) (v : Value) : Prop := ∀ w', Below B w w' → Lib.OthersKept 5 (some b) w w' → w'.cell? a = some v
theorem Stay.high {B b k : Nat} {w : World} {c : Array Value} {t : TypeId} {fz : Nat × Nat} {a : Addr} {v : Value} (h : w.heap[a.block]? = some (.cells c t fz)) (hk : a.block ≠ b) (ht : t ≠ 5) (hc : w.cell? a = some v) : Stay B b w a v := by
  intro w' hw hO
  have h2 := hO a.block _ h (fun e => hk (Option.some.inj e)) (fun c' fz' e => ht (by cases e; rfl))
  rw [World.cell?_of_block (w := w) (by rw [h2, h])]
  exact hc
def xb9Z (z : Int) : UInt8 := UInt8.ofNat (z % 256).toNat
theorem xpfZ (z : Int) : Value.int .u8 (z % 256) = .int .u8 ((xb9Z z).toNat : Int) := by
  have h : (xb9Z z).toNat = (z % 256).toNat := by unfold xb9Z; rw [UInt8.toNat_ofNat']; omega
  rw [h]
  congr 1
  omega
theorem put_any (B b : Nat) (bs : List UInt8) (zs : List Int) (p : Option Addr) (cap : Nat) (w : World) (h : Bld B b (Lib.byteCells bs) w) (hlen : bs.length + zs.length ≤ 140737488355328) (hBw : B ≤ w.heap.size)
    (hz : ∀ k z, zs[k]? = some z → ∃ bl off, p = some ⟨bl, off, none⟩ ∧ Stay B b w ⟨bl, off + k, none⟩ (.int .i64 z)) :
    Calls Tryz.prog 57 #[.pointer (some ⟨b, 0, none⟩), .slice p zs.length cap] w fun e w' => e = .returned (.tuple #[]) ∧ (Bld B b (Lib.byteCells (bs ++ zs.map xb9Z)) w' ∧ Below B w w' ∧ Lib.OthersKept 5 (some b) w w') := by
  go_enter Tryz.func57, Tryz.ntmps57
  go_wp2
  go_loopw [5, 8] (fun _ i wr => ∃ k : Nat, k ≤ zs.length ∧ i = .int .i64 k ∧ Bld B b (Lib.byteCells (bs ++ (zs.take k).map xb9Z)) wr ∧ Below B w wr ∧ Lib.OthersKept 5 (some b) w wr) (fun _ i _ => zs.length - (intOf i).toNat)
  case atStart => exact ⟨0, Nat.zero_le _, rfl, by simpa using h, Below.refl _ _, Lib.OthersKept.refl _ _ _⟩
  case round =>
    obtain ⟨k, hk, rfl, hB, hbw, hkw⟩ := hrel
    have HZ : Hid (∀ k z, zs[k]? = some z → ∃ bl off, p = some ⟨bl, off, none⟩ ∧ Stay B b w ⟨bl, off + k, none⟩ (.int .i64 z)) := hz
    clear hz
    by_cases hlt : k < zs.length
    · obtain ⟨z, ho⟩ : ∃ z, zs[k]? = some z := ⟨_, List.getElem?_eq_some_iff.2 ⟨hlt, rfl⟩⟩
      obtain ⟨bl, off, rfl, hs⟩ := HZ.out k _ ho
      have g0 := hs wr hbw hkw
      have HO : Hid (zs[k]? = some z) := ho
      clear ho
      go_wp2_with fail
      rw [xpfZ]
      refine (xniZ B b _ _ _ hB (by rw [Lib.byteCells_length, List.length_append, List.length_map, List.length_take]; omega) (Nat.le_trans hBw hbw.size)).mono ?_
      rintro e w2 ⟨rfl, hB2, hb2, hk2⟩
      go_wp2
      go_roundw
      case rel =>
        refine ⟨k + 1, by omega, by go_num, ?_, hbw.trans hb2, hkw.trans hk2⟩
        have : Lib.byteCells (bs ++ (zs.take (k + 1)).map xb9Z) = Lib.byteCells (bs ++ (zs.take k).map xb9Z) ++ [.int .u8 ((xb9Z z).toNat : Int)] := by
          rw [xazZ zs k z HO.out]; simp [Lib.byteCells]
        rw [this]; exact hB2
      case measure => simp [intOf]; omega
    · have hlt' : ¬ (k : Int) < (zs.length : Int) := by omega
      go_wp2
      go_end0
      exact ⟨rfl, by rwa [List.take_of_length_le (by omega)] at hB, hbw, hkw⟩
def xfcZ (o : Int × Int) : List UInt8 := xb9Z o.1 :: if hasA o.1 then [xb9Z (o.2 / 16777216), xb9Z (o.2 / 65536), xb9Z (o.2 / 256), xb9Z o.2] else []
theorem xd6Z (w : World) (o : Obj) : (w.alloc o).heap[w.heap.size]? = some o := by
  show (w.heap.push o)[w.heap.size]? = _
  rw [Array.getElem?_push, if_pos rfl]
theorem xalZ {w : World} {k : Nat} {o : Obj} (h : w.heap[k]? = some o) (o' : Obj) : (w.alloc o').heap[k]? = some o := by
  rw [Lib.alloc_old w o' k (xacZ h)]; exact h
theorem xiyZ {w : World} {k : Nat} {c : Array Value} {t : TypeId} {fz : Nat × Nat} (h : w.heap[k]? = some (.cells c t fz)) (j : Nat) : w.cell? ⟨k, j, none⟩ = c[j]? := by
  rw [Lib.cell_of_heap h]
theorem Bld.lt {B b : Nat} {bs : List Value} {w : World} (h : Bld B b bs w) : b < w.heap.size := h.elim (fun x => x.lt) (fun x => x.lt)
theorem xl8Z {b k : Nat} {w w' : World} {c : Array Value} {t : TypeId} {fz : Nat × Nat} (hk : Lib.OthersKept 5 (some b) w w') (h : w.heap[k]? = some (.cells c t fz)) (hb : k ≠ b) (ht : t ≠ 5) : w'.heap[k]? = some (.cells c t fz) :=
  hk k _ h (fun e => hb (Option.some.inj e)) (fun c' fz' e => ht (by cases e; rfl))
theorem xl6Z {B b k : Nat} {w : World} {zs : List Int} {fz : Nat × Nat} (h : w.heap[k]? = some (.cells (zs.map (Value.int .i64)).toArray 3 fz)) (hk : k ≠ b) :
    ∀ j z, zs[j]? = some z → ∃ bl off, (some ⟨k, 0, none⟩ : Option Addr) = some ⟨bl, off, none⟩ ∧ Stay B b w ⟨bl, off + j, none⟩ (.int .i64 z) := by
  intro j z hj
  refine ⟨k, 0, rfl, Stay.high (k := k) h hk (by decide) ?_⟩
  rw [xiyZ h]
  simp [hj]
theorem xp4Z (B b : Nat) (bs : List UInt8) (a : Int) (w : World) (h : Bld B b (Lib.byteCells bs) w) (hlen : bs.length + 4 ≤ 140737488355328) (hBw : B ≤ w.heap.size) :
    Calls Tryz.prog 91 #[.pointer (some ⟨b, 0, none⟩), .int .i64 a] w fun e w' => e = .returned (.tuple #[]) ∧ (Bld B b (Lib.byteCells (bs ++ [xb9Z (a / 16777216), xb9Z (a / 65536), xb9Z (a / 256), xb9Z a])) w' ∧ Below B w w' ∧ Lib.OthersKept 5 (some b) w w') := by
  have hbl := Bld.lt h
  have hc2 := put_any B b bs [a / 16777216, a / 65536, a / 256, a] (some ⟨w.heap.size, 0, none⟩) 4 (w.alloc (.cells #[.int .i64 (a / 16777216), .int .i64 (a / 65536), .int .i64 (a / 256), .int .i64 a] 3)) (h.alloc _) (by simp; omega) (by simp; omega)
      (xl6Z (zs := [a / 16777216, a / 65536, a / 256, a]) (fz := (0, 0)) (xd6Z w _) (by omega))
  go_enter Tryz.func91, Tryz.ntmps91
  go_wp2_with fail
  refine hc2.mono ?_
  rintro e w3 ⟨rfl, hB3, hb3, hk3⟩
  go_wp2
  go_end0
  exact ⟨rfl, by simpa using hB3, ((Below.refl B w).alloc hBw _).trans hb3, ((Lib.OthersKept.refl _ _ w).alloc _).trans hk3⟩
theorem putOp_any (B b : Nat) (bs : List UInt8) (c a : Int) (w : World) (h : Bld B b (Lib.byteCells bs) w) (hlen : bs.length + 5 ≤ 140737488355328) (hBw : B ≤ w.heap.size) :
    Calls Tryz.prog 203 #[.pointer (some ⟨b, 0, none⟩), .agg #[.int .i64 c, .int .i64 a]] w fun e w' => e = .returned (.tuple #[]) ∧ (Bld B b (Lib.byteCells (bs ++ xfcZ (c, a))) w' ∧ Below B w w' ∧ Lib.OthersKept 5 (some b) w w') := by
  have hbl := Bld.lt h
  have hc1 := put_any B b bs [c] (some ⟨w.heap.size + 1, 0, none⟩) 1 ((w.alloc (.cells #[.int .i64 c, .int .i64 a] 86)).alloc (.cells #[.int .i64 c] 3)) ((h.alloc _).alloc _) (by simp; omega) (by simp; omega)
    (xl6Z (zs := [c]) (fz := (0, 0)) (by have := xd6Z (w.alloc (.cells #[.int .i64 c, .int .i64 a] 86)) (.cells #[.int .i64 c] 3); rw [World.size_alloc] at this; exact this) (by omega))
  have hbox0 := xalZ (xd6Z w (.cells #[.int .i64 c, .int .i64 a] 86)) (.cells #[.int .i64 c] 3)
  have hB1 : Below B w ((w.alloc (.cells #[.int .i64 c, .int .i64 a] 86)).alloc (.cells #[.int .i64 c] 3)) := ((Below.refl B w).alloc hBw _).alloc (by simp; omega) _
  have hK1 : Lib.OthersKept 5 (some b) w ((w.alloc (.cells #[.int .i64 c, .int .i64 a] 86)).alloc (.cells #[.int .i64 c] 3)) := ((Lib.OthersKept.refl _ _ w).alloc _).alloc _
  cases hh : hasA c
  · go_enter Tryz.func203, Tryz.ntmps203
    go_wp2_with fail
    refine hc1.mono ?_
    rintro e w2 ⟨rfl, hB2, hb2, hk2⟩
    have hbox := xl8Z hk2 hbox0 (by omega) (by decide)
    have g0 : w2.cell? ⟨w.heap.size, 0, none⟩ = some (.int .i64 c) := xiyZ hbox 0
    go_wp2_with (go_at_call 121; refine (xcyZ _ _).mono ?_; rintro e w' ⟨rfl, rfl⟩)
    go_end0
    exact ⟨rfl, by simpa [xfcZ, hh] using hB2, hB1.trans hb2, hK1.trans hk2⟩
  · go_enter Tryz.func203, Tryz.ntmps203
    go_wp2_with fail
    refine hc1.mono ?_
    rintro e w2 ⟨rfl, hB2, hb2, hk2⟩
    have hbox := xl8Z hk2 hbox0 (by omega) (by decide)
    have g0 : w2.cell? ⟨w.heap.size, 0, none⟩ = some (.int .i64 c) := xiyZ hbox 0
    have g1 : w2.cell? ⟨w.heap.size, 1, none⟩ = some (.int .i64 a) := xiyZ hbox 1
    go_wp2_with (go_at_call 121; refine (xcyZ _ _).mono ?_; rintro e w' ⟨rfl, hw⟩; have hw := hw.symm; subst hw)
    have hle : B ≤ w2.heap.size := by have := hb2.size; simp at this; omega
    have hc2 := xp4Z B b (bs ++ [c].map xb9Z) a w2 hB2 (by simp; omega) hle
    refine hc2.mono ?_
    rintro e w3 ⟨rfl, hB3, hb3, hk3⟩
    go_wp2
    go_end0
    exact ⟨rfl, by simpa [xfcZ, hh] using hB3, (hB1.trans hb2).trans hb3, (hK1.trans hk2).trans hk3⟩
end Go.Proofs.YtmjjkenblfndgaaGreat


/- strings.Builder's grow and Grow at this program, of a builder that has not been written. -/
namespace Go.Proofs.YtmjjkenblfndgaaGreat
open Go.RowKit
set_option linter.unusedSimpArgs false
set_option linter.unusedVariables false
theorem sizeByte1 : (Tryz.prog.info? 5).map (fun i => i.size) = some 1 := by kernel_rfl
theorem xpwZ (B b n : Nat) (w : World) (hB : B ≤ b) (hbk : w.heap[b]? = some (.cells #[.pointer (some ⟨b, 0, none⟩), .slice none 0 0] 98 (0, 0))) (hBw : B ≤ w.heap.size) (hn : n ≤ 1000) :
    Calls Tryz.prog 228 #[.pointer (some ⟨b, 0, none⟩), .int .i64 n] w fun e w' => e = .returned (.tuple #[]) ∧ (Bld B b [] w' ∧ Below B w w') := by
  obtain ⟨cs, hrun, hle, hmax⟩ := Lib.run_makeNoZero (P := Tryz.prog) w.drew #[3] 96 5 Tryz.underlying96 n (by omega)
  have hw : IntKind.i64.wrap (IntKind.i64.wrap 0 + (n : Int)) = n := by
    rw [IntKind.wrap_i64, IntKind.wrap_i64]
    omega
  have hcall : (callFunc 239 #[.int .i64 n]).run Tryz.prog w.drew = .ok (.value (.slice (some ⟨w.drew.heap.size, 0, none⟩) n cs.size)) (w.drew.drew.drew.alloc (.cells cs 5)) := by
    rw [run_callFunc_extern Tryz.func239 (by kernel_rfl) (by kernel_rfl) (by kernel_rfl) (e := Extern.BytealgMakeNoZero.makeNoZero #[3] #[96]) (by kernel_rfl), hrun]
    rfl
  have hlt : b < w.heap.size := xacZ hbk
  have c1 : w.drew.cell? ⟨b, 1, none⟩ = some (.slice none 0 0) := by
    have : w.drew.heap[b]? = _ := hbk
    rw [Lib.cell_of_heap this]; rfl
  have c2 : (w.alloc (.cells cs 5)).cell? ⟨b, 1, none⟩ = some (.slice none 0 0) := by
    have : (w.alloc (.cells cs 5)).heap[b]? = _ := (Lib.alloc_old w _ b hlt).trans hbk
    rw [Lib.cell_of_heap this]; rfl
  have f2 : (w.alloc (.cells cs 5)).frozen? ⟨b, 1, none⟩ = false := Lib.frozen_of_heap ((Lib.alloc_old w _ b hlt).trans hbk) 1
  have hcopy : ∀ W : World, (Builtin.copy_ #[96, 96] 3 #[.slice (some ⟨w.heap.size, 0, none⟩) 0 cs.size, .slice none 0 0]).run Tryz.prog W = .ok (goInt 0) W :=
    fun W => run_copy_none W 96 96 3 5 _ _ 0 cs.size 0 0 Tryz.underlying96 sizeByte1 rfl
  have hfin := Lib.grown_fresh (T := 98) (e := 5) (cs := cs) hB hbk hBw (hmax (by unfold maxLen; omega)) (by decide)
  have HF := And.intro (Lib.IsBuilderF.of (.inr hfin.1)) hfin.2
  clear hfin hw hmax hlt
  go_enter Tryz.func228, Tryz.ntmps228
  go_wp2
  go_region
  all_goals (go_wp2; go_end0; exact ⟨rfl, HF⟩)
theorem xjrZ (b : Nat) (w : World) (hbk : w.heap[b]? = some (.cells #[.pointer none, .slice none 0 0] 98 (0, 0))) :
    Calls Tryz.prog 124 #[.pointer (some ⟨b, 0, none⟩)] w fun e w' => e = .returned (.tuple #[]) ∧ w' = w.setCell ⟨b, 0, none⟩ (.pointer (some ⟨b, 0, none⟩)) := by
  obtain ⟨j, hj, hjs⟩ := Option.map_eq_some_iff.1 xmnZ
  have h : Lib.BuilderAtF 98 5 b b (.pointer none) [] w := Lib.BuilderAtF.of ⟨Nat.le_refl _, .slice none 0 0, hbk, World.ownsRow_nil _ _ _ _, by simp [Value.ownBlock]⟩
  have h0 := h.cell0
  have hsh := h.shape
  have hfz := h.frozen0
  go_enter Tryz.func124, Tryz.ntmps124
  go_wp2
  rw [Lib.run_to_unsafe w ⟨b, 0, none⟩ Tryz.underlying95 Tryz.underlying201 hj (by rw [hjs]; decide) hsh (Nat.zero_lt_succ 1)]
  simp only [Result.andThen]
  rw [Oper.upon_value]
  go_wp2
  rw [run_callFunc_extern Tryz.func163 (by kernel_rfl) (by kernel_rfl) (by kernel_rfl) (e := Extern.AbiNoEscape.same) (by kernel_rfl)]
  rw [Lib.run_noEscape]
  simp only [Result.andThen]
  rw [Oper.upon_value]
  go_wp2
  rw [Lib.run_from_unsafe w ⟨b, 0, none⟩ Tryz.underlying201 Tryz.underlying95 hj hsh liesBuilder]
  simp only [Result.andThen]
  rw [Oper.upon_value]
  go_wp2
  go_end0
  exact ⟨rfl, rfl⟩
theorem grow_any (b n : Nat) (w : World) (hbk : w.heap[b]? = some (.cells #[.pointer none, .slice none 0 0] 98 (0, 0))) (hn : n ≤ 1000) :
    Calls Tryz.prog 202 #[.pointer (some ⟨b, 0, none⟩), .int .i64 n] w fun e w' => e = .returned (.tuple #[]) ∧ (Bld b b [] w' ∧ Below b w w') := by
  have hlt : b < w.heap.size := xacZ hbk
  have hC := xjrZ b w hbk
  obtain ⟨w1, hw1⟩ : ∃ w1, w.setCell ⟨b, 0, none⟩ (.pointer (some ⟨b, 0, none⟩)) = w1 := ⟨_, rfl⟩
  rw [hw1] at hC
  have x1 : w1.heap[b]? = some (.cells #[.pointer (some ⟨b, 0, none⟩), .slice none 0 0] 98 (0, 0)) := by
    rw [← hw1]; simp [World.setCell, Array.getElem?_modify, hbk]
  have hb1 : Below b w w1 := by rw [← hw1]; exact (Below.refl b w).setCell (p := ⟨b, 0, none⟩) (Nat.le_refl _) _
  have c1 : w1.cell? ⟨b, 1, none⟩ = some (.slice none 0 0) := by rw [Lib.cell_of_heap x1]; rfl
  have hU : Bld b b [] w1 := .inr (Lib.BuilderAtF.of ⟨Nat.le_refl _, .slice none 0 0, x1, World.ownsRow_nil _ _ _ _, by simp [Value.ownBlock]⟩)
  have hG := xpwZ b b n w1.drew (Nat.le_refl _) x1 (by have := hb1.size; show b ≤ w1.heap.size; omega) hn
  have hU' : Bld b b [] w1.drew := hU.elim (fun x => .inl x.drew) (fun x => .inr x.drew)
  clear hw1
  by_cases hn0 : n = 0
  · subst hn0
    go_enter Tryz.func202, Tryz.ntmps202
    go_wp2_with (go_at_call 124; refine hC.mono ?_; rintro e w' ⟨rfl, rfl⟩)
    go_region
    all_goals (go_wp2; go_end0; exact ⟨rfl, hU', hb1.drew⟩)
  · have hnp : (0 : Int) < (n : Int) := by omega
    go_enter Tryz.func202, Tryz.ntmps202
    go_wp2_with (go_at_call 124; refine hC.mono ?_; rintro e w' ⟨rfl, rfl⟩)
    go_region
    all_goals
      go_wp2_with (go_at_call 228; refine hG.mono ?_; rintro e w2 ⟨rfl, h1, h2⟩)
      go_end0
      exact ⟨rfl, h1, hb1.drew.trans h2⟩
end Go.Proofs.YtmjjkenblfndgaaGreat


/- op.Encode. -/
namespace Go.Proofs.YtmjjkenblfndgaaGreat
open Go.RowKit
set_option linter.unusedSimpArgs false
set_option linter.unusedVariables false
def xbyZ (l : List (Int × Int)) : List UInt8 := l.flatMap xfcZ
def xegZ (l : List (Int × Int)) : List UInt8 := if xa9Z l = 0 then xbyZ l else []
theorem opBytes_le (o : Int × Int) : (xfcZ o).length ≤ 5 := by unfold xfcZ; split <;> simp
theorem xnvZ (l : List (Int × Int)) : (xbyZ l).length ≤ 5 * l.length := by
  induction l with
  | nil => simp [xbyZ]
  | cons o r ih => have := opBytes_le o; simp [xbyZ] at *; omega
theorem xleZ (l : List (Int × Int)) (k : Nat) (o : Int × Int) (h : l[k]? = some o) : xbyZ (l.take (k + 1)) = xbyZ (l.take k) ++ xfcZ o := by
  rw [xazZ l k o h]; simp [xbyZ]
theorem hideP0 {p : Prop} (h : p) : Hid p := h
theorem encode_any (l : List (Int × Int)) (v : Value) (w : World) (h : OpsAt w v l) : Calls Tryz.prog 152 #[v] w fun e w' => e = .returned (.tuple #[.string ⟨(xegZ l).toArray⟩, .int .i64 (xa9Z l)]) ∧ Below w.heap.size w w' := by
  have hOps := h
  obtain ⟨p, cap, rfl, hm, hc⟩ := h
  unfold maxLen at hm
  by_cases h40 : 40 < l.length
  · have h40' : (40 : Int) < (l.length : Int) := by omega
    have hce : xa9Z l = 2 := by simp [xa9Z, h40]
    have hes : xegZ l = [] := by simp [xegZ, hce]
    rw [hce, hes]
    clear hce hes hc hOps
    go_enter Tryz.func152, Tryz.ntmps152
    go_wp2
    go_ret2
    exact ⟨rfl, Below.refl _ _⟩
  have h40' : ¬ (40 : Int) < (l.length : Int) := by omega
  have hce : xa9Z l = xcpZ l := by simp [xa9Z, h40]
  have HC : Hid (∀ k o, l[k]? = some o → ∃ b off, p = some ⟨b, off, none⟩ ∧ b < w.heap.size ∧ w.cell? ⟨b, off + k * 2, none⟩ = some (.int .i64 o.1) ∧ w.cell? ⟨b, off + k * 2 + 1, none⟩ = some (.int .i64 o.2)) := hc
  clear hc
  have HCE : Hid (xa9Z l = xcpZ l) := hce
  clear hce
  go_enter Tryz.func152, Tryz.ntmps152
  go_wp2_with fail
  refine (xnaZ l _ _ hOps).mono ?_
  rintro e w1 ⟨r, rfl, hr, hb1⟩
  clear hOps
  rcases hr with ⟨rfl, hall⟩ | ⟨k, ⟨c, a⟩, rfl, hk, hbef, hne⟩
  · have HA : Hid (∀ o ∈ l, chk o.1 o.2 = 0) := hall
    clear hall
    have hG := grow_any w1.heap.size (l.length * 5) _ (heap_alloc_new w1 (.cells #[.pointer none, .slice none 0 0] 98)) (by omega)
    rw [show ((l.length * 5 : Nat) : Int) = (l.length : Int) * 5 by omega] at hG
    have HG := hideP0 hG
    clear hG
    go_wp2_with fail
    refine HG.out.mono ?_
    rintro e wg ⟨rfl, hBg, hbg⟩
    go_wp2
    go_loopw [7, 26] (fun _ i wr => ∃ k : Nat, k ≤ l.length ∧ i = .int .i64 k ∧ Bld w1.heap.size w1.heap.size (Lib.byteCells (xbyZ (l.take k))) wr ∧ Below w1.heap.size w1 wr) (fun _ i _ => l.length - (intOf i).toNat)
    case atStart => exact ⟨0, Nat.zero_le _, rfl, by simpa [xbyZ, Lib.byteCells] using hBg, ((Below.refl _ w1).alloc (Nat.le_refl _) _).trans hbg⟩
    case round =>
      obtain ⟨k, hk, rfl, hB, hbw⟩ := hrel
      by_cases hlt : k < l.length
      · obtain ⟨⟨c, a⟩, ho⟩ := xagZ hlt
        obtain ⟨b, off, rfl, hb, h0, h1⟩ := HC.out k _ ho
        have g0 := ((hb1.trans (hbw.mono hb1.size)).cell (p := ⟨b, off + k * 2, none⟩) hb).trans h0
        have g1 := ((hb1.trans (hbw.mono hb1.size)).cell (p := ⟨b, off + k * 2 + 1, none⟩) hb).trans h1
        have HO : Hid (l[k]? = some (c, a)) := ho
        clear ho h0 h1
        have hle := xnvZ (l.take k)
        rw [List.length_take] at hle
        have hsz := hbw.size
        go_wp2_with fail
        refine (putOp_any w1.heap.size w1.heap.size (xbyZ (l.take k)) c a _ (hB.alloc _) (by omega) (by simp; omega)).mono ?_
        rintro e w2 ⟨rfl, hB2, hb2, hk2⟩
        go_wp2
        go_roundw
        case rel => exact ⟨k + 1, by omega, by go_num, by rw [xleZ l k _ HO.out]; exact hB2, (hbw.alloc hsz _).trans hb2⟩
        case measure => simp [intOf]; omega
      · have hlt' : ¬ (k : Int) < (l.length : Int) := by omega
        have hes : xa9Z l = 0 := HCE.out.trans (xn6Z l HA.out)
        have hes2 : xegZ l = xbyZ l := by simp [xegZ, hes]
        rw [List.take_of_length_le (by omega)] at hB
        have HE : Hid (xa9Z l = 0) := hes
        have HS : Hid (xegZ l = xbyZ l) := hes2
        clear hes hes2
        go_wp2_with (go_at_call 60; refine (Tryz.string_any w1.heap.size w1.heap.size (xbyZ l) _ hB hbw.size).mono ?_; rintro e w2 ⟨rfl, hB2, hb2, hk2⟩)
        go_ret2
        exact ⟨by rw [HS.out, HE.out]; rfl, hb1.trans ((hbw.trans hb2).mono hb1.size)⟩
  · have hlt := xadZ hk
    obtain ⟨b, off, rfl, hb, h0, h1⟩ := HC.out k _ hk
    have g0 := (hb1.cell (p := ⟨b, off + k * 2, none⟩) hb).trans h0
    have g1 := (hb1.cell (p := ⟨b, off + k * 2 + 1, none⟩) hb).trans h1
    have he := xptZ l k _ hk hbef hne
    have hes : xegZ l = [] := by simp [xegZ, HCE.out, he]; intro hh; exact absurd hh hne
    have HE : Hid (xa9Z l = chk c a) := HCE.out.trans he
    have HS : Hid (xegZ l = []) := hes
    clear hk hbef hne he hes h0 h1
    go_wp2_with (go_at_call 85; refine (xgjZ _ _ _).mono ?_; rintro e w2 ⟨rfl, hb2⟩)
    go_ret2
    exact ⟨by rw [HS.out, HE.out]; rfl, hb1.trans (hb2.mono hb1.size)⟩
end Go.Proofs.YtmjjkenblfndgaaGreat


/- op.Decode. -/
namespace Go.Proofs.YtmjjkenblfndgaaGreat
open Go.RowKit Go.Shelf
set_option linter.unusedSimpArgs false
set_option linter.unusedVariables false
attribute [local go_sem] Oper.semAt_some
def xhaZ (l : List (Int × Int)) : List Value := l.flatMap fun o => [.int .i64 o.1, .int .i64 o.2]
theorem xkxZ (l : List (Int × Int)) : ∀ (k : Nat) (o : Int × Int), l[k]? = some o → (xhaZ l)[k * 2]? = some (.int .i64 o.1) ∧ (xhaZ l)[k * 2 + 1]? = some (.int .i64 o.2) := by
  induction l with
  | nil => intro k o h; simp at h
  | cons x r ih =>
    intro k o h
    cases k with
    | zero => simp at h; subst h; simp [xhaZ]
    | succ k =>
      have := ih k o (by simpa using h)
      rw [show (k + 1) * 2 = k * 2 + 1 + 1 from by omega]
      simpa [xhaZ] using this
theorem xciZ {α : Type} {l : List α} {k : Nat} {o : α} (h : l[k]? = some o) : k < l.length := (List.getElem?_eq_some_iff.1 h).1
theorem xaaZ {w : World} {k : Nat} {c : Array Value} {t : TypeId} {fz : Nat × Nat} (h : w.heap[k]? = some (.cells c t fz)) (j : Nat) : w.cell? ⟨k, j, none⟩ = c[j]? := by
  unfold World.cell?; rw [h]; rfl
end Go.Proofs.YtmjjkenblfndgaaGreat


/- SameOps of the reference. -/
namespace Go.Proofs.YtmjjkenblfndgaaGreat
open Go.RowKit
set_option linter.unusedSimpArgs false
set_option linter.unusedVariables false
theorem guard_op : Tryz.prog.eqGuardType Tryz.prog.depth 86 = false := by kernel_rfl
end Go.Proofs.YtmjjkenblfndgaaGreat


/- opBegun. -/
namespace Go.Proofs.YtmjjkenblfndgaaGreat
open Go.RowKit
set_option linter.unusedSimpArgs false
set_option linter.unusedVariables false
def loopOps : List (Int × Int) := [(1, 3), (3, 0), (20, 0), (1, 1), (6, 0), (3, 0), (11, 8), (10, 1), (2, 0), (13, 0)]
theorem xmgZ {w : World} {b : Nat} {l m : List (Int × Int)} {fz : Nat × Nat} (n cap : Nat) (h : w.heap[b]? = some (.cells (xhaZ (l ++ m)).toArray 86 fz)) (hn : n = l.length) (hm : l.length ≤ maxLen) : OpsAt w (.slice (some ⟨b, 0, none⟩) n cap) l := by
  subst hn
  refine ⟨_, cap, rfl, hm, fun k o hk => ⟨b, 0, rfl, (Array.getElem?_eq_some_iff.1 h).1, ?_, ?_⟩⟩
  · have := (xkxZ (l ++ m) k o (by rw [List.getElem?_append_left (xciZ hk)]; exact hk)).1
    rw [xaaZ h]; simpa using this
  · have := (xkxZ (l ++ m) k o (by rw [List.getElem?_append_left (xciZ hk)]; exact hk)).2
    rw [xaaZ h]; simpa using this
end Go.Proofs.YtmjjkenblfndgaaGreat


/- Programs in memory. -/
namespace Go.Proofs.YtmjjkenblfndgaaGreat
open Go.RowKit
set_option linter.unusedSimpArgs false
set_option linter.unusedVariables false
abbrev Fn := Int × List Int × Int × List (Int × Int)
def IntsAt (w : World) (v : Value) (l : List Int) : Prop :=
  ∃ (p : Option Addr) (cap : Nat), v = .slice p l.length cap ∧ l.length ≤ maxLen ∧ ∀ k z, l[k]? = some z →
    ∃ b off, p = some ⟨b, off, none⟩ ∧ b < w.heap.size ∧ w.cell? ⟨b, off + k, none⟩ = some (.int .i64 z)
theorem IntsAt.below {w w' : World} {v : Value} {l : List Int} (h : IntsAt w v l) (hb : Below w.heap.size w w') : IntsAt w' v l := by
  obtain ⟨p, cap, rfl, hm, hc⟩ := h
  refine ⟨p, cap, rfl, hm, fun k o hk => ?_⟩
  obtain ⟨b, off, rfl, hlt, h0⟩ := hc k o hk
  exact ⟨b, off, rfl, Nat.lt_of_lt_of_le hlt hb.size, (hb.cell (p := ⟨b, off + k, none⟩) hlt).trans h0⟩
def FnAt (w : World) (c0 c1 c2 c3 : Value) (f : Fn) : Prop := c0 = .int .i64 f.1 ∧ IntsAt w c1 f.2.1 ∧ c2 = .int .i64 f.2.2.1 ∧ OpsAt w c3 f.2.2.2
theorem FnAt.below {w w' : World} {c0 c1 c2 c3 : Value} {f : Fn} (h : FnAt w c0 c1 c2 c3 f) (hb : Below w.heap.size w w') : FnAt w' c0 c1 c2 c3 f :=
  ⟨h.1, h.2.1.below hb, h.2.2.1, h.2.2.2.below hb⟩
def FnsAt (w : World) (v : Value) (l : List Fn) : Prop :=
  ∃ (p : Option Addr) (cap : Nat), v = .slice p l.length cap ∧ l.length ≤ maxLen ∧ ∀ k f, l[k]? = some f →
    ∃ b off c0 c1 c2 c3, p = some ⟨b, off, none⟩ ∧ b < w.heap.size ∧ w.cell? ⟨b, off + k * 4, none⟩ = some c0 ∧ w.cell? ⟨b, off + k * 4 + 1, none⟩ = some c1 ∧ w.cell? ⟨b, off + k * 4 + 2, none⟩ = some c2 ∧ w.cell? ⟨b, off + k * 4 + 3, none⟩ = some c3 ∧ FnAt w c0 c1 c2 c3 f
theorem FnsAt.below {w w' : World} {v : Value} {l : List Fn} (h : FnsAt w v l) (hb : Below w.heap.size w w') : FnsAt w' v l := by
  obtain ⟨p, cap, rfl, hm, hc⟩ := h
  refine ⟨p, cap, rfl, hm, fun k f hk => ?_⟩
  obtain ⟨b, off, c0, c1, c2, c3, rfl, hlt, h0, h1, h2, h3, hf⟩ := hc k f hk
  exact ⟨b, off, c0, c1, c2, c3, rfl, Nat.lt_of_lt_of_le hlt hb.size, (hb.cell (p := ⟨b, off + k * 4, none⟩) hlt).trans h0, (hb.cell (p := ⟨b, off + k * 4 + 1, none⟩) hlt).trans h1, (hb.cell (p := ⟨b, off + k * 4 + 2, none⟩) hlt).trans h2, (hb.cell (p := ⟨b, off + k * 4 + 3, none⟩) hlt).trans h3, hf.below hb⟩
theorem xclZ {a b : Int} (h : a = b) : (a != b) = false := by simp [h]
theorem xcrZ {a b : Int} (h : ¬ a = b) : (a != b) = true := by simp [h]
theorem xdfZ (l m : List Int) (v u : Value) (w : World) (hl : IntsAt w v l) (hm : IntsAt w u m) : Calls Tryz.prog 25 #[v, u] w fun e w' => e = .returned (.bool (decide (l = m))) ∧ Below w.heap.size w w' := by
  obtain ⟨p, cap, rfl, hlm, hc⟩ := hl
  obtain ⟨q, cap', rfl, hmm, hd⟩ := hm
  unfold maxLen at hlm hmm
  by_cases hlen : l.length = m.length
  · have hlen' : ((l.length : Int) != (m.length : Int)) = false := by simp; omega
    have HLEN : Hid (l.length = m.length) := hlen
    have HC : Hid (∀ k z, l[k]? = some z → ∃ b off, p = some ⟨b, off, none⟩ ∧ b < w.heap.size ∧ w.cell? ⟨b, off + k, none⟩ = some (.int .i64 z)) := hc
    have HD : Hid (∀ k z, m[k]? = some z → ∃ b off, q = some ⟨b, off, none⟩ ∧ b < w.heap.size ∧ w.cell? ⟨b, off + k, none⟩ = some (.int .i64 z)) := hd
    clear hc hd hlen
    go_enter Tryz.func25, Tryz.ntmps25
    go_wp2
    go_loopw [5] (fun i wr => ∃ k : Nat, k ≤ l.length ∧ i = .int .i64 k ∧ l.take k = m.take k ∧ Below w.heap.size w wr) (fun i _ => l.length - (intOf i).toNat)
    case atStart => exact ⟨0, Nat.zero_le _, rfl, by simp, Below.refl _ _⟩
    case round =>
      obtain ⟨k, hk, rfl, htk, hbw⟩ := hrel
      have HT : Hid (l.take k = m.take k) := htk
      clear htk
      by_cases hlt : k < l.length
      · have hlt2 : k < m.length := by have := HLEN.out; omega
        obtain ⟨x, ho⟩ := xagZ hlt
        obtain ⟨y, ho'⟩ := xagZ hlt2
        obtain ⟨b, off, rfl, hb, h0⟩ := HC.out k _ ho
        obtain ⟨b', off', rfl, hb', h0'⟩ := HD.out k _ ho'
        have g0 := (hbw.cell (p := ⟨b, off + k, none⟩) hb).trans h0
        have g0' := (hbw.cell (p := ⟨b', off' + k, none⟩) hb').trans h0'
        have hlti : (k : Int) < (l.length : Int) := by omega
        have hlti2 : (k : Int) < (m.length : Int) := by omega
        have HO : Hid (l[k]? = some x) := ho
        have HO' : Hid (m[k]? = some y) := ho'
        clear ho ho' h0 h0'
        by_cases he : x = y
        · have hne := xclZ he
          have HE : Hid (x = y) := he
          clear he
          go_wp2
          go_quiet (fail)
          go_wp2
          go_roundw
          case rel => exact ⟨k + 1, by omega, by go_num, by rw [xazZ l k _ HO.out, xazZ m k _ HO'.out, HT.out, HE.out], below_drewN hbw _⟩
          case measure => simp [intOf]; omega
        · have hne := xcrZ he
          have HE : Hid (¬ x = y) := he
          clear he
          go_wp2
          go_quiet (fail)
          go_wp2
          go_ret
          refine ⟨?_, below_drewN hbw _⟩
          have : ¬ l = m := fun h => by
            have h1 := HO.out
            rw [h, HO'.out] at h1
            simp at h1
            exact HE.out h1.symm
          simp [this]
      · have hlt' : ¬ (k : Int) < (l.length : Int) := by omega
        go_wp2
        go_ret
        refine ⟨?_, hbw⟩
        have : l = m := by
          have h := HT.out
          rwa [List.take_of_length_le (by omega), List.take_of_length_le (by have := HLEN.out; omega)] at h
        simp [this]
  · have hlen' : ((l.length : Int) != (m.length : Int)) = true := by simp; omega
    have hne : ¬ l = m := fun h => hlen (by rw [h])
    clear hc hd
    have HN : Hid (¬ l = m) := hne
    clear hne hlen
    go_enter Tryz.func25, Tryz.ntmps25
    go_wp2
    go_ret
    exact ⟨by simp [HN.out], Below.refl _ _⟩
end Go.Proofs.YtmjjkenblfndgaaGreat


/- What is encoded is decoded as it was, and what is decoded is encoded as it was: of the plain functions. -/
namespace Go.Proofs.YtmjjkenblfndgaaGreat
open Go.RowKit
set_option linter.unusedSimpArgs false
set_option linter.unusedVariables false
theorem xjmZ {c a : Int} (h : chk c a = 0) : xe0Z c = true ∧ (hasA c = false → a = 0) ∧ -2147483648 ≤ a ∧ a ≤ 2147483647 := by
  unfold chk at h
  by_cases h1 : xe0Z c = false
  · simp [h1] at h
  · by_cases h2 : hasA c = false ∧ a ≠ 0
    · simp [h1, h2] at h
    · by_cases h3 : isI32 a = false
      · rw [if_neg h1, if_neg h2, if_pos h3] at h; omega
      · refine ⟨by simpa using h1, fun hh => ?_, ?_⟩
        · by_cases h0 : a = 0
          · exact h0
          · exact absurd ⟨hh, h0⟩ h2
        · simp [isI32] at h3; exact h3
theorem xm3Z (l : List (Int × Int)) (h : xcpZ l = 0) : ∀ o ∈ l, chk o.1 o.2 = 0 := by
  induction l with
  | nil => intro o ho; simp at ho
  | cons x r ih =>
    intro o ho
    rw [xcpZ] at h
    by_cases hx : chk x.1 x.2 = 0
    · rw [if_pos hx] at h
      rcases List.mem_cons.1 ho with rfl | ho
      · exact hx
      · exact ih h o ho
    · rw [if_neg hx] at h; exact absurd h hx
theorem xevZ (l : List (Int × Int)) (h : xa9Z l = 0) : l.length ≤ 40 ∧ ∀ o ∈ l, chk o.1 o.2 = 0 := by
  unfold xa9Z at h
  by_cases h4 : 40 < l.length
  · simp [h4] at h
  · rw [if_neg h4] at h; exact ⟨by omega, xm3Z l h⟩
end Go.Proofs.YtmjjkenblfndgaaGreat


/- Plain functions on programs: what Check says. -/
namespace Go.Proofs.YtmjjkenblfndgaaGreat
open Go.RowKit
set_option linter.unusedSimpArgs false
set_option linter.unusedVariables false
def isNum (n : Int) (many : Nat) : Bool := decide (0 ≤ n) && decide (n < (many : Int))
def xbvZ (o : Int × Int) (f : Fn) (funcs : Nat) : Bool :=
  if (o.1 == 8 || o.1 == 9) = true then isNum o.2 f.2.1.length else if (o.1 == 10 || o.1 == 11) = true then isNum o.2 f.2.2.2.length else if (o.1 == 12) = true then isNum o.2 funcs else true
def xdvZ (t : Int) : Bool := t == 1 || t == 2
def xe3Z (f : Fn) : Bool := f.2.1.all xdvZ && (decide (0 ≤ f.2.2.1) && decide (f.2.2.1 ≤ 2))
def fnErr (f : Fn) (funcs : Nat) : Int :=
  if 6 < f.2.1.length then 2 else if f.1 < 0 ∨ (f.2.1.length : Int) < f.1 then 3 else if xe3Z f = false then 6 else if f.2.2.2.length = 0 then 5 else if xa9Z f.2.2.2 ≠ 0 then xa9Z f.2.2.2 else if (f.2.2.2.all fun o => xbvZ o f funcs) = false then 3 else 0
def xddZ (funcs : Nat) : List Fn → Int
  | [] => 0
  | f :: r => if fnErr f funcs = 0 then xddZ funcs r else fnErr f funcs
def xizZ : List Fn → Int
  | [] => 0
  | f :: _ => if f.1 ≠ 0 ∨ f.2.2.1 ≠ 0 then 4 else 0
def xanZ (l : List Fn) : Int :=
  if l.length = 0 then 5 else if 5 < l.length then 2 else if xddZ l.length l ≠ 0 then xddZ l.length l else xizZ l
theorem fnsErr_all (n : Nat) (l : List Fn) (h : ∀ f ∈ l, fnErr f n = 0) : xddZ n l = 0 := by
  induction l with
  | nil => rfl
  | cons o r ih => rw [xddZ, if_pos (h o (by simp))]; exact ih fun x hx => h x (by simp [hx])
theorem fnsErr_at (n : Nat) (l : List Fn) (k : Nat) (f : Fn) (hk : l[k]? = some f) (h : ∀ x ∈ l.take k, fnErr x n = 0) (he : ¬ fnErr f n = 0) : xddZ n l = fnErr f n := by
  induction l generalizing k with
  | nil => simp at hk
  | cons x r ih =>
    cases k with
    | zero => simp at hk; subst hk; rw [xddZ, if_neg he]
    | succ k => rw [xddZ, if_pos (h x (by simp))]; exact ih k (by simpa using hk) fun y hy => h y (by simp [hy])
end Go.Proofs.YtmjjkenblfndgaaGreat


/- isNumber, namesOne, checkFunc's closure, ContainsFunc at it; typed. -/
namespace Go.Proofs.YtmjjkenblfndgaaGreat
open Go.RowKit
set_option linter.unusedSimpArgs false
set_option linter.unusedVariables false
theorem xd7Z (n : Int) (m : Nat) (w : World) : Calls Tryz.prog 204 #[.int .i64 n, .int .i64 m] w fun e w' => e = .returned (.bool (isNum n m)) ∧ w' = w := by
  by_cases h1 : 0 ≤ n
  · by_cases h2 : n < (m : Int)
    · go_enter Tryz.func204, Tryz.ntmps204
      go_wp2
      go_ret
      exact ⟨by simp [isNum, h1, h2], rfl⟩
    · go_enter Tryz.func204, Tryz.ntmps204
      go_wp2
      go_ret
      exact ⟨by simp [isNum, h1, h2], rfl⟩
  · have hd : decide (0 ≤ n) = false := by simpa using h1
    go_enter Tryz.func204, Tryz.ntmps204
    go_wp2
    go_ret
    exact ⟨by simp [isNum, hd], rfl⟩
theorem xopZ (c a : Int) (f : Fn) (c0 c1 c2 c3 : Value) (n : Nat) (w : World) (h : FnAt w c0 c1 c2 c3 f) : Calls Tryz.prog 155 #[.agg #[.int .i64 c, .int .i64 a], .agg #[c0, c1, c2, c3], .int .i64 n] w fun e w' => e = .returned (.bool (xbvZ (c, a) f n)) ∧ Below w.heap.size w w' := by
  obtain ⟨rfl, ⟨p1, q1, rfl, _, _⟩, rfl, ⟨p3, q3, rfl, _, _⟩⟩ := h
  have hb : ∀ o o', Below w.heap.size w ((w.alloc o).alloc o') := fun o o' => ((Below.refl _ w).alloc (Nat.le_refl _) _).alloc (by simp) _
  cases h8 : (c == 8)
  · cases h9 : (c == 9)
    · cases h10 : (c == 10)
      · cases h11 : (c == 11)
        · cases h12 : (c == 12)
          all_goals
            go_enter Tryz.func155, Tryz.ntmps155
            go_wp2_with (go_at_call 204; refine (xd7Z _ _ _).mono ?_; rintro e w' ⟨rfl, hw⟩; have hw := hw.symm; subst hw)
            go_ret
            exact ⟨by simp [xbvZ, h8, h9, h10, h11, h12], hb _ _⟩
        · go_enter Tryz.func155, Tryz.ntmps155
          go_wp2_with (go_at_call 204; refine (xd7Z _ _ _).mono ?_; rintro e w' ⟨rfl, hw⟩; have hw := hw.symm; subst hw)
          go_ret
          exact ⟨by simp [xbvZ, h8, h9, h10, h11], hb _ _⟩
      · go_enter Tryz.func155, Tryz.ntmps155
        go_wp2_with (go_at_call 204; refine (xd7Z _ _ _).mono ?_; rintro e w' ⟨rfl, hw⟩; have hw := hw.symm; subst hw)
        go_ret
        exact ⟨by simp [xbvZ, h8, h9, h10], hb _ _⟩
    · go_enter Tryz.func155, Tryz.ntmps155
      go_wp2_with (go_at_call 204; refine (xd7Z _ _ _).mono ?_; rintro e w' ⟨rfl, hw⟩; have hw := hw.symm; subst hw)
      go_ret
      exact ⟨by simp [xbvZ, h8, h9], hb _ _⟩
  · go_enter Tryz.func155, Tryz.ntmps155
    go_wp2_with (go_at_call 204; refine (xd7Z _ _ _).mono ?_; rintro e w' ⟨rfl, hw⟩; have hw := hw.symm; subst hw)
    go_ret
    exact ⟨by simp [xbvZ, h8], hb _ _⟩
def Boxes (w : World) (bf bn : Nat) (f : Fn) (n : Nat) : Prop :=
  ∃ c0 c1 c2 c3, bf < w.heap.size ∧ bn < w.heap.size ∧ w.cell? ⟨bf, 0, none⟩ = some c0 ∧ w.cell? ⟨bf, 1, none⟩ = some c1 ∧ w.cell? ⟨bf, 2, none⟩ = some c2 ∧ w.cell? ⟨bf, 3, none⟩ = some c3 ∧ w.cell? ⟨bn, 0, none⟩ = some (.int .i64 n) ∧ FnAt w c0 c1 c2 c3 f
theorem Boxes.below {w w' : World} {bf bn : Nat} {f : Fn} {n : Nat} (h : Boxes w bf bn f n) (hb : Below w.heap.size w w') : Boxes w' bf bn f n := by
  obtain ⟨c0, c1, c2, c3, h1, h2, a0, a1, a2, a3, a4, hf⟩ := h
  exact ⟨c0, c1, c2, c3, Nat.lt_of_lt_of_le h1 hb.size, Nat.lt_of_lt_of_le h2 hb.size, (hb.cell (p := ⟨bf, 0, none⟩) h1).trans a0, (hb.cell (p := ⟨bf, 1, none⟩) h1).trans a1, (hb.cell (p := ⟨bf, 2, none⟩) h1).trans a2, (hb.cell (p := ⟨bf, 3, none⟩) h1).trans a3, (hb.cell (p := ⟨bn, 0, none⟩) h2).trans a4, hf.below hb⟩
theorem xh5Z (c a : Int) (f : Fn) (n bf bn : Nat) (w : World) (h : Boxes w bf bn f n) : Calls Tryz.prog 154 #[.agg #[.int .i64 c, .int .i64 a], .pointer (some ⟨bf, 0, none⟩), .pointer (some ⟨bn, 0, none⟩)] w fun e w' => e = .returned (.bool (!xbvZ (c, a) f n)) ∧ Below w.heap.size w w' := by
  have hw : Below w.heap.size w (w.alloc (.cells #[.int .i64 c, .int .i64 a] 86)) := (Below.refl _ w).alloc (Nat.le_refl _) _
  obtain ⟨c0, c1, c2, c3, h1, h2, a0, a1, a2, a3, a4, hf⟩ := h.below hw
  have hf' := hf
  obtain ⟨rfl, ⟨p1, q1, rfl, _, _⟩, rfl, ⟨p3, q3, rfl, _, _⟩⟩ := hf'
  go_enter Tryz.func154, Tryz.ntmps154
  go_wp2_with (go_at_call 155; refine (xopZ c a f _ _ _ _ n _ hf).mono ?_; rintro e w2 ⟨rfl, hb2⟩)
  go_ret
  exact ⟨rfl, hw.trans (hb2.mono (by simp))⟩
end Go.Proofs.YtmjjkenblfndgaaGreat


