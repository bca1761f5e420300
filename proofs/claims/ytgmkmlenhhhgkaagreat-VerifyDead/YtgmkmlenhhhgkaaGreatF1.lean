/- My texts Pl Wa Mem Wb Wc Shelf Bld Wd Bgr We Wf Wg: what of them is needed, joined. -/
import Derived.WalkKit
import Derived.Test.YtgmkmlenhhhgkaaGreatRows
import Derived.WalkSpells
import Derived.WalkLawsBesides
import Derived.Shelf.Strings.BuilderK
import Derived.Test.YtgmkmlenhhhgkaaGreatProg
import Derived.Lib.MakeNoZero
import Derived.Laws.IdiomCopy
import Derived.Lib.Strings
import Derived.RangeFuncNested
import Derived.RangeFuncBound
import Derived.RangeFuncCalls
import Derived.RangeFuncLeaves
import Derived.Shelf.Abstract
import Derived.Shelf.RegionOpen
import Derived.OwnWalkIn
import Derived.TacticsInMore
import Derived.LoopNIn
import Derived.LoopIn
import Derived.Maps.AppendAt

set_option maxRecDepth 100000
set_option maxHeartbeats 8000000
/- Plain functions on numbers and lists: what the ops' functions compute. Of no program. -/
namespace Go.Proofs.YtgmkmlenhhhgkaaGreat
def hasA (c : Int) : Bool := c == 1 || c == 8 || c == 9 || c == 10 || c == 11 || c == 12
def xblZ (c : Int) : Bool := decide (1 ≤ c) && decide (c ≤ 21)
def isI32 (a : Int) : Bool := decide (-2147483648 ≤ a) && decide (a ≤ 2147483647)
def chk (c a : Int) : Int := if xblZ c = false then 6 else if hasA c = false ∧ a ≠ 0 then 1 else if isI32 a = false then 3 else 0
def xbwZ : List (Int × Int) → Int
  | [] => 0
  | o :: r => if chk o.1 o.2 = 0 then xbwZ r else chk o.1 o.2
def xaoZ (l : List (Int × Int)) : Int := if 40 < l.length then 2 else xbwZ l
theorem xevZ (l : List (Int × Int)) (h : ∀ o ∈ l, chk o.1 o.2 = 0) : xbwZ l = 0 := by
  induction l with
  | nil => rfl
  | cons o r ih => rw [xbwZ, if_pos (h o (by simp))]; exact ih fun x hx => h x (by simp [hx])
theorem xi4Z (l : List (Int × Int)) (k : Nat) (o : Int × Int) (hk : l[k]? = some o) (h : ∀ x ∈ l.take k, chk x.1 x.2 = 0) (he : ¬ chk o.1 o.2 = 0) : xbwZ l = chk o.1 o.2 := by
  induction l generalizing k with
  | nil => simp at hk
  | cons x r ih =>
    cases k with
    | zero => simp at hk; subst hk; rw [xbwZ, if_neg he]
    | succ k => rw [xbwZ, if_pos (h x (by simp))]; exact ih k (by simpa using hk) fun y hy => h y (by simp [hy])
theorem xavZ {α : Type} (l : List α) (k : Nat) (o : α) (hk : l[k]? = some o) : l.take (k + 1) = l.take k ++ [o] := by
  rw [List.take_add_one, hk]; rfl
end Go.Proofs.YtgmkmlenhhhgkaaGreat


/- Walks of the leaf functions of package op and of the reference: each returns what the plain function says. -/
namespace Go.Proofs.YtgmkmlenhhhgkaaGreat
open Go.RowKit
set_option linter.unusedSimpArgs false
set_option linter.unusedVariables false
theorem xbvZ (c : Int) (w : World) : Calls Tryz.prog 100 #[.int .i64 c] w fun e w' => e = .returned (.bool (xblZ c)) ∧ w' = w := by
  by_cases h1 : 1 ≤ c
  · by_cases h2 : c ≤ 21
    · go_enter Tryz.func100, Tryz.ntmps100
      go_wp2
      go_ret
      exact ⟨by simp [xblZ, h1, h2], rfl⟩
    · go_enter Tryz.func100, Tryz.ntmps100
      go_wp2
      go_ret
      exact ⟨by simp [xblZ, h1, h2], rfl⟩
  · have hd : decide (1 ≤ c) = false := by simpa using h1
    go_enter Tryz.func100, Tryz.ntmps100
    go_wp2
    go_ret
    exact ⟨by simp [xblZ, hd], rfl⟩
theorem xbgZ (c : Int) (w : World) : Calls Tryz.prog 101 #[.int .i64 c] w fun e w' => e = .returned (.bool (hasA c)) ∧ w' = w := by
  go_enter Tryz.func101, Tryz.ntmps101
  go_wp2
  all_goals
    go_ret
    exact ⟨by simp [hasA, *], rfl⟩
theorem ret_int {k : IntKind} {a b : Int} (h : a = b) : Ending.returned (.int k a) = .returned (.int k b) := by rw [h]
theorem wrap_wrap (n : Int) : wrap64 (wrap32 n) = wrap32 n := by unfold wrap64 wrap32; omega
theorem xekZ (n : Int) (w : World) : Calls Tryz.prog 131 #[.int .i64 n] w fun e w' => e = .returned (.int .i64 (wrap32 n)) ∧ w' = w := by
  go_enter Tryz.func131, Tryz.ntmps131
  go_wp2
  go_ret
  exact ⟨by simp [wrap_wrap], rfl⟩
theorem xg0Z (c a : Int) (w : World) : Calls Tryz.prog 82 #[.agg #[.int .i64 c, .int .i64 a]] w fun e w' => e = .returned (.int .i64 (chk c a)) ∧ Below w.heap.size w w' := by
  have hb : ∀ o, Below w.heap.size w (w.alloc o) := fun o => (Below.refl _ _).alloc (Nat.le_refl _) _
  cases hk : xblZ c
  · go_enter Tryz.func82, Tryz.ntmps82
    go_wp2_with (first | (go_at_call 100; refine (xbvZ _ _).mono ?_; rintro e w' ⟨rfl, rfl⟩) | (go_at_call 101; refine (xbgZ _ _).mono ?_; rintro e w' ⟨rfl, rfl⟩))
    go_ret
    exact ⟨by simp [chk, hk], hb _⟩
  cases hh : hasA c
  · cases h0 : (a != 0)
    · by_cases h1 : a < -2147483648
      · simp at h0; omega
      by_cases h2 : 2147483647 < a
      · simp at h0; omega
      go_enter Tryz.func82, Tryz.ntmps82
      go_wp2_with (first | (go_at_call 100; refine (xbvZ _ _).mono ?_; rintro e w' ⟨rfl, rfl⟩) | (go_at_call 101; refine (xbgZ _ _).mono ?_; rintro e w' ⟨rfl, rfl⟩))
      go_ret
      exact ⟨by simp at h0; simp [chk, hk, hh, isI32, h0], hb _⟩
    · go_enter Tryz.func82, Tryz.ntmps82
      go_wp2_with (first | (go_at_call 100; refine (xbvZ _ _).mono ?_; rintro e w' ⟨rfl, rfl⟩) | (go_at_call 101; refine (xbgZ _ _).mono ?_; rintro e w' ⟨rfl, rfl⟩))
      go_ret
      exact ⟨by simp at h0; simp [chk, hk, hh, h0], hb _⟩
  · by_cases h1 : a < -2147483648
    · go_enter Tryz.func82, Tryz.ntmps82
      go_wp2_with (first | (go_at_call 100; refine (xbvZ _ _).mono ?_; rintro e w' ⟨rfl, rfl⟩) | (go_at_call 101; refine (xbgZ _ _).mono ?_; rintro e w' ⟨rfl, rfl⟩))
      go_ret
      exact ⟨by have : ¬ -2147483648 ≤ a := by omega
                simp [chk, hk, hh, isI32, this], hb _⟩
    · have hd : decide (a < -2147483648) = false := by simpa using h1
      by_cases h2 : 2147483647 < a
      · go_enter Tryz.func82, Tryz.ntmps82
        go_wp2_with (first | (go_at_call 100; refine (xbvZ _ _).mono ?_; rintro e w' ⟨rfl, rfl⟩) | (go_at_call 101; refine (xbgZ _ _).mono ?_; rintro e w' ⟨rfl, rfl⟩))
        go_ret
        exact ⟨by have : ¬ a ≤ 2147483647 := by omega
                  simp [chk, hk, hh, isI32, this], hb _⟩
      · go_enter Tryz.func82, Tryz.ntmps82
        go_wp2_with (first | (go_at_call 100; refine (xbvZ _ _).mono ?_; rintro e w' ⟨rfl, rfl⟩) | (go_at_call 101; refine (xbgZ _ _).mono ?_; rintro e w' ⟨rfl, rfl⟩))
        go_ret
        exact ⟨by have h3 : -2147483648 ≤ a := by omega
                  have h4 : a ≤ 2147483647 := by omega
                  simp [chk, hk, hh, isI32, h3, h4], hb _⟩
end Go.Proofs.YtgmkmlenhhhgkaaGreat


/- Code in memory: a slice value and the cells behind it. -/
namespace Go.Proofs.YtgmkmlenhhhgkaaGreat
open Go.RowKit
def OpsAt (w : World) (v : Value) (l : List (Int × Int)) : Prop :=
  ∃ (p : Option Addr) (cap : Nat), v = .slice p l.length cap ∧ l.length ≤ maxLen ∧ ∀ k o, l[k]? = some o →
    ∃ b off, p = some ⟨b, off, none⟩ ∧ b < w.heap.size ∧ w.cell? ⟨b, off + k * 2, none⟩ = some (.int .i64 o.1) ∧ w.cell? ⟨b, off + k * 2 + 1, none⟩ = some (.int .i64 o.2)
theorem OpsAt.below {w w' : World} {v : Value} {l : List (Int × Int)} (h : OpsAt w v l) (hb : Below w.heap.size w w') : OpsAt w' v l := by
  obtain ⟨p, cap, rfl, hm, hc⟩ := h
  refine ⟨p, cap, rfl, hm, fun k o hk => ?_⟩
  obtain ⟨b, off, rfl, hlt, h0, h1⟩ := hc k o hk
  exact ⟨b, off, rfl, Nat.lt_of_lt_of_le hlt hb.size, (hb.cell (p := ⟨b, off + k * 2, none⟩) hlt).trans h0, (hb.cell (p := ⟨b, off + k * 2 + 1, none⟩) hlt).trans h1⟩
end Go.Proofs.YtgmkmlenhhhgkaaGreat


/- Walks over code in memory: CheckOp, CheckCode, IndexFunc at Encode's closure. -/
namespace Go.Proofs.YtgmkmlenhhhgkaaGreat
open Go.RowKit
set_option linter.unusedSimpArgs false
set_option linter.unusedVariables false
theorem xauZ {α : Type} {l : List α} {k : Nat} {o : α} (h : l[k]? = some o) : k < l.length := (List.getElem?_eq_some_iff.1 h).1
theorem xagZ {α : Type} {l : List α} {k : Nat} (h : k < l.length) : ∃ o, l[k]? = some o := ⟨l[k], List.getElem?_eq_some_iff.2 ⟨h, rfl⟩⟩
end Go.Proofs.YtgmkmlenhhhgkaaGreat


/- Encode's closure, and IndexFunc at it. -/
namespace Go.Proofs.YtgmkmlenhhhgkaaGreat
open Go.RowKit
set_option linter.unusedSimpArgs false
set_option linter.unusedVariables false
theorem xetZ (c a : Int) (w : World) : Calls Tryz.prog 81 #[.agg #[.int .i64 c, .int .i64 a]] w fun e w' => e = .returned (.bool (chk c a != 0)) ∧ Below w.heap.size w w' := by
  have hb : ∀ o, Below w.heap.size w (w.alloc o) := fun o => (Below.refl _ _).alloc (Nat.le_refl _) _
  go_enter Tryz.func81, Tryz.ntmps81
  go_wp2_with (go_at_call 82; refine (xg0Z _ _ _).mono ?_; rintro e w2 ⟨rfl, hb2⟩)
  go_ret
  exact ⟨rfl, (hb _).trans (hb2.mono (by simp))⟩
def isFirst (l : List (Int × Int)) (r : Int) : Prop :=
  (r = -1 ∧ ∀ o ∈ l, chk o.1 o.2 = 0) ∨ ∃ k o, r = ((k : Nat) : Int) ∧ l[k]? = some o ∧ (∀ x ∈ l.take k, chk x.1 x.2 = 0) ∧ ¬ chk o.1 o.2 = 0
theorem xhkZ (l : List (Int × Int)) (v : Value) (w : World) (h : OpsAt w v l) : Calls Tryz.prog 80 #[v, .func (.func 81) #[] #[]] w fun e w' => ∃ r, e = .returned (.int .i64 r) ∧ isFirst l r ∧ Below w.heap.size w w' := by
  obtain ⟨p, cap, rfl, hm, hc⟩ := h
  unfold maxLen at hm
  go_enter Tryz.func80, Tryz.ntmps80
  go_wp2
  go_loopw [5, 8] (fun _ i wr => ∃ k : Nat, k ≤ l.length ∧ i = .int .i64 k ∧ (∀ o ∈ l.take k, chk o.1 o.2 = 0) ∧ Below w.heap.size w wr) (fun _ i _ => l.length - (intOf i).toNat)
  case atStart => exact ⟨0, Nat.zero_le _, rfl, by simp, Below.refl _ _⟩
  case round =>
    obtain ⟨k, hk, rfl, hok, hbw⟩ := hrel
    have HK : Hid (∀ o ∈ l.take k, chk o.1 o.2 = 0) := hok
    clear hok
    have HC : Hid (∀ k o, l[k]? = some o → ∃ b off, p = some ⟨b, off, none⟩ ∧ b < w.heap.size ∧ w.cell? ⟨b, off + k * 2, none⟩ = some (.int .i64 o.1) ∧ w.cell? ⟨b, off + k * 2 + 1, none⟩ = some (.int .i64 o.2)) := hc
    clear hc
    by_cases hlt : k < l.length
    · obtain ⟨⟨c, a⟩, ho⟩ := xagZ hlt
      obtain ⟨b, off, rfl, hb, h0, h1⟩ := HC.out k _ ho
      have g0 := (hbw.cell (p := ⟨b, off + k * 2, none⟩) hb).trans h0
      have g1 := (hbw.cell (p := ⟨b, off + k * 2 + 1, none⟩) hb).trans h1
      have HO : Hid (l[k]? = some (c, a)) := ho
      clear ho h0 h1
      by_cases he : chk c a = 0
      · have he' : (chk c a != 0) = false := by simp [he]
        have HE : Hid (chk c a = 0) := he
        clear he
        go_wp2_with (go_at_call 81; refine (xetZ _ _ _).mono ?_; rintro e w2 ⟨rfl, hb2⟩)
        go_roundw
        case rel => exact ⟨k + 1, by omega, by go_num, by
          rw [xavZ l k _ HO.out]; intro x hx; rcases List.mem_append.1 hx with hx | hx
          · exact HK.out x hx
          · simp at hx; subst hx; exact HE.out, hbw.trans (hb2.mono hbw.size)⟩
        case measure => simp [intOf]; omega
      · have he' : (chk c a != 0) = true := by simp [he]
        go_wp2_with (go_at_call 81; refine (xetZ _ _ _).mono ?_; rintro e w2 ⟨rfl, hb2⟩)
        go_ret
        exact ⟨k, rfl, .inr ⟨k, _, rfl, HO.out, HK.out, he⟩, hbw.trans (hb2.mono hbw.size)⟩
    · have hlt' : ¬ (k : Int) < (l.length : Int) := by omega
      go_wp2
      go_ret
      exact ⟨-1, rfl, .inl ⟨rfl, by have := HK.out; rwa [List.take_of_length_le (by omega)] at this⟩, hbw⟩
end Go.Proofs.YtgmkmlenhhhgkaaGreat


/- strings.Builder's String: the library's contract, laid at this program's numbers (one laying, one application). -/
namespace Go.Proofs
open Go.Shelf
def Tryz.lays169_ren : Go.Shelf.Ren := ⟨fun | 169 => 52 | n => n, fun | 70 => 81 | 9 => 9 | 0 => 0 | 72 => 84 | 37 => 82 | 127 => 113 | 3 => 3 | 5 => 5 | n => n, fun | n => n⟩
theorem Tryz.lays169 : Go.Proofs.Lays.n169 Tryz.prog Tryz.lays169_ren := {
  mixed := by kernel_rfl
  f169 := Tryz.func52.trans (congrArg some (by kernel_rfl))
  t0 := Tryz.underlying0
  a0 := Tryz.isAgg0
  z0 := Tryz.sizeOf0
  v0 := Tryz.zeroValue0
  t3 := Tryz.underlying3
  a3 := Tryz.isAgg3
  z3 := Tryz.sizeOf3
  v3 := Tryz.zeroValue3
  t9 := Tryz.underlying9
  a9 := Tryz.isAgg9
  z9 := Tryz.sizeOf9
  v9 := Tryz.zeroValue9
  t37 := Tryz.underlying82
  a37 := Tryz.isAgg82
  z37 := Tryz.sizeOf82
  v37 := Tryz.zeroValue82
  t70 := Tryz.underlying81
  a70 := Tryz.isAgg81
  z70 := Tryz.sizeOf81
  v70 := Tryz.zeroValue81
  t72 := Tryz.underlying84
  a72 := Tryz.isAgg84
  z72 := Tryz.sizeOf84
  v72 := Tryz.zeroValue84
  t127 := Tryz.underlying113
  a127 := Tryz.isAgg113
  z127 := Tryz.sizeOf113
  v127 := Tryz.zeroValue113 }
theorem Tryz.Builder_Extra_169 : Builder.Extra Tryz.prog Tryz.lays169_ren := {
  sizeBuilder := by kernel_rfl
  liesBuilder := by kernel_rfl
  t5 := Tryz.underlying5
  a5 := Tryz.isAgg5
  z5 := Tryz.sizeOf5
  v5 := Tryz.zeroValue5
  infoByte := by kernel_rfl
  cellsByte := by kernel_rfl
  sizeByte := by kernel_rfl
  neB5 := by decide }
open Go.RowKit in
theorem Tryz.string_any (B b : Nat) (l : List UInt8) (w : World) (h : Lib.IsBuilderF 84 5 B b (Lib.byteCells l) w) (hBw : B ≤ w.heap.size) :
    Calls Tryz.prog 52 #[.pointer (some ⟨b, 0, none⟩)] w fun e w' => e = .returned (.string ⟨l.toArray⟩) ∧ (Lib.IsBuilderF 84 5 B b (Lib.byteCells l) w' ∧ Below B w w' ∧ Lib.OthersKept 5 (some b) w w') := Any.Builder_String_any_k Tryz.lays169 Tryz.Builder_Extra_169 B b l w h hBw
end Go.Proofs


/- strings.Builder at this program: copyCheck, WriteByte, WriteString (the shelf's layings of these fall here: this translation has a refused statement in the place of copyCheck's panic). -/
namespace Go.Proofs.YtgmkmlenhhhgkaaGreat
open Go.RowKit
set_option linter.unusedSimpArgs false
set_option linter.unusedVariables false
abbrev Bld (B b : Nat) (bs : List Value) (w : World) : Prop := Lib.IsBuilderF 84 5 B b bs w
theorem xhbZ : (Tryz.prog.info? 84).map (fun i => i.size) = some 2 := by kernel_rfl
theorem liesBuilder : liesAt Tryz.prog Tryz.prog.depth 84 (2 / Tryz.prog.cellsOf 84) 0 84 1 = true := by kernel_rfl
theorem infoByte : (Tryz.prog.info? 5).map (fun i => (i.zero, i.size, i.bytes)) = some (some (.int .u8 0), 1, 1) := by kernel_rfl
theorem xemZ (B b : Nat) (bs : List Value) (w : World) (h : Bld B b bs w) :
    Calls Tryz.prog 96 #[.pointer (some ⟨b, 0, none⟩)] w fun e w' => e = .returned (.tuple #[]) ∧ (Lib.BuilderAtF 84 5 B b (.pointer (some ⟨b, 0, none⟩)) bs w' ∧ Below B w w' ∧ Lib.OthersKept 5 (some b) w w') := by
  obtain ⟨j, hj, hjs⟩ := Option.map_eq_some_iff.1 xhbZ
  rcases h with h | h
  · have h0 := h.cell0
    have hsh := h.shape
    have hfz := h.frozen0
    go_enter Tryz.func96, Tryz.ntmps96
    go_wp2
    rw [Lib.run_to_unsafe w ⟨b, 0, none⟩ Tryz.underlying81 Tryz.underlying140 hj (by rw [hjs]; decide) hsh (Nat.zero_lt_succ 1)]
    simp only [Result.andThen]
    rw [Oper.upon_value]
    go_wp2
    rw [run_callFunc_extern Tryz.func108 (by kernel_rfl) (by kernel_rfl) (by kernel_rfl) (e := Extern.AbiNoEscape.same) (by kernel_rfl)]
    rw [Lib.run_noEscape]
    simp only [Result.andThen]
    rw [Oper.upon_value]
    go_wp2
    rw [Lib.run_from_unsafe w ⟨b, 0, none⟩ Tryz.underlying140 Tryz.underlying81 hj hsh liesBuilder]
    simp only [Result.andThen]
    rw [Oper.upon_value]
    go_wp2
    go_end0
    exact ⟨rfl, h.used _, (Below.refl B w).setCell (p := ⟨b, 0, none⟩) h.1 _, (Lib.OthersKept.refl _ _ w).setCell ⟨b, 0, none⟩ rfl _⟩
  · have h0 := h.cell0
    go_enter Tryz.func96, Tryz.ntmps96
    go_wp2
    rw [Lib.run_neq_ptr_same w _ Tryz.underlying81 hj]
    go_wp2
    go_end0
    exact ⟨rfl, h, Below.refl B _, Lib.OthersKept.refl _ _ _⟩
theorem xabZ {w : World} {b : Nat} {o : Obj} (h : w.heap[b]? = some o) : b < w.heap.size := (Array.getElem?_eq_some_iff.1 h).1
theorem xhoZ (B b : Nat) (bs : List Value) (c : Int) (w : World) (h : Bld B b bs w) (hlen : bs.length + 1 ≤ 140737488355328) (hBw : B ≤ w.heap.size) :
    Calls Tryz.prog 75 #[.pointer (some ⟨b, 0, none⟩), .int .u8 c] w fun e w' => e = .returned .nilIface ∧ (Bld B b (bs ++ [.int .u8 c]) w' ∧ Below B w w' ∧ Lib.OthersKept 5 (some b) w w') := by
  obtain ⟨i0, hi, hz0, hz1, hz2⟩ := info_parts infoByte
  go_enter Tryz.func75, Tryz.ntmps75
  go_wp2_with (go_at_call 96; refine (xemZ B b bs _ h).mono ?_)
  rintro e w1 ⟨rfl, h1, hb1, hk1⟩
  obtain ⟨hB, v, hbk, hown, hne⟩ := h1
  have c0 : w1.cell? ⟨b, 0, none⟩ = some (.pointer (some ⟨b, 0, none⟩)) := by rw [Lib.cell_of_heap hbk]; rfl
  have c1 : w1.cell? ⟨b, 1, none⟩ = some v := by rw [Lib.cell_of_heap hbk]; rfl
  go_wp2_with (at_builtin; refine wpList_append_ownF _ rfl _ _ 82 rfl B 5 i0 (.int .u8 0) 1 1 Tryz.underlying82 hi hz0 hz1 hz2 rfl (by decide) _ _ _ rfl (hown.alloc _) ⟨w1.heap.size, 0, none⟩ 1 1 [.int .u8 c] rfl rfl ?c1 ?c2 ?c3 ?c4 ?c5 ?_)
  case c1 =>
    intro j u hj
    match j, hj with
    | 0, hj => simp at hj; subst hj; simp [Addr.add]
  case c2 => intro u hu; simp at hu; subst hu; rfl
  case c3 => unfold maxLen; omega
  case c4 => omega
  case c5 => have := hb1.size; simp; omega
  intro v' w2 hown' hgrow _
  have hlt := xabZ hbk
  have hb2 : w2.heap[b]? = some (.cells #[.pointer (some ⟨b, 0, none⟩), v] 84 (0, 0)) := by
    rw [hgrow.block b (by simp; omega) (fun e => hne e.symm), Lib.alloc_old w1 _ b hlt]
    exact hbk
  have d0 : w2.cell? ⟨b, 0, none⟩ = some (.pointer (some ⟨b, 0, none⟩)) := by rw [Lib.cell_of_heap hb2]; rfl
  have d1 : w2.cell? ⟨b, 1, none⟩ = some v := by rw [Lib.cell_of_heap hb2]; rfl
  have f1 : w2.frozen? ⟨b, 1, none⟩ = false := Lib.frozen_of_heap hb2 1
  obtain ⟨g, cap, rfl⟩ : ∃ g cap, v' = .slice (some ⟨g, 0, none⟩) (bs.length + 1) cap := by
    rcases hown'.2 with ⟨_, h0⟩ | ⟨g, cap, cur, fz, hv, _⟩
    · omega
    · exact ⟨g, cap, hv⟩
  go_wp2
  go_ret
  refine ⟨rfl, .inr ?_, ?_, ((hk1.alloc _).grown hgrow (Lib.ownsRowF_kind (hown.alloc _))).setCell ⟨b, 1, none⟩ rfl _⟩
  · exact Lib.BuilderAtF.put (T := 84) (e := 5) hB hb2 (bs' := bs ++ [.int .u8 c]) (by simpa using hown') (by decide)
  · exact ((hb1.alloc (by have := hb1.size; omega) _).grown hgrow (by have := hb1.size; simp; omega) (fun k hk => (hown.lt k hk).1)).setCell (p := ⟨b, 1, none⟩) hB _
theorem xgnZ (B b : Nat) (bs : List Value) (s : ByteArray) (w : World) (h : Bld B b bs w) (hlen : bs.length + s.size ≤ 140737488355328) (hBw : B ≤ w.heap.size) :
    Calls Tryz.prog 76 #[.pointer (some ⟨b, 0, none⟩), .string s] w fun e w' => e = .returned (.tuple #[.int .i64 s.size, .nilIface]) ∧ (Bld B b (bs ++ Lib.strCells s) w' ∧ Below B w w' ∧ Lib.OthersKept 5 (some b) w w') := by
  obtain ⟨i0, hi, hz0, hz1, hz2⟩ := info_parts infoByte
  go_enter Tryz.func76, Tryz.ntmps76
  go_wp2_with (go_at_call 96; refine (xemZ B b bs _ h).mono ?_)
  rintro e w1 ⟨rfl, h1, hb1, hk1⟩
  obtain ⟨hB, v, hbk, hown, hne⟩ := h1
  have c0 : w1.cell? ⟨b, 0, none⟩ = some (.pointer (some ⟨b, 0, none⟩)) := by rw [Lib.cell_of_heap hbk]; rfl
  have c1 : w1.cell? ⟨b, 1, none⟩ = some v := by rw [Lib.cell_of_heap hbk]; rfl
  go_wp2_with (at_builtin; refine Lib.wpList_append_own_stringF _ rfl _ _ 82 9 rfl B 5 i0 Tryz.underlying82 Tryz.underlying9 hi hz0 hz1 hz2 _ _ _ rfl hown s rfl ?c3 ?c4 ?c5 ?_)
  case c3 => unfold maxLen; omega
  case c4 => omega
  case c5 => have := hb1.size; omega
  intro v' w2 hown' hgrow _
  have hlt := xabZ hbk
  have hb2 : w2.heap[b]? = some (.cells #[.pointer (some ⟨b, 0, none⟩), v] 84 (0, 0)) := by
    rw [hgrow.block b hlt (fun e => hne e.symm)]
    exact hbk
  have d0 : w2.cell? ⟨b, 0, none⟩ = some (.pointer (some ⟨b, 0, none⟩)) := by rw [Lib.cell_of_heap hb2]; rfl
  have d1 : w2.cell? ⟨b, 1, none⟩ = some v := by rw [Lib.cell_of_heap hb2]; rfl
  have f1 : w2.frozen? ⟨b, 1, none⟩ = false := Lib.frozen_of_heap hb2 1
  obtain ⟨ao, n', cap, rfl⟩ : ∃ ao n' cap, v' = .slice ao n' cap := by
    rcases hown'.2 with ⟨hv, _⟩ | ⟨g, cap, cur, fz, hv, _⟩
    · exact ⟨_, _, _, hv⟩
    · exact ⟨_, _, _, hv⟩
  go_wp2
  go_ret2
  refine ⟨rfl, .inr ?_, ?_, (hk1.grown hgrow (Lib.ownsRowF_kind hown)).setCell ⟨b, 1, none⟩ rfl _⟩
  · exact Lib.BuilderAtF.put (T := 84) (e := 5) hB hb2 (bs' := bs ++ Lib.strCells s) (by simpa [Lib.strCells_length] using hown') (by decide)
  · exact (hb1.grown hgrow (by have := hb1.size; omega) (fun k hk => (hown.lt k hk).1)).setCell (p := ⟨b, 1, none⟩) hB _
end Go.Proofs.YtgmkmlenhhhgkaaGreat


/- octet.Put and op.putOp. -/
namespace Go.Proofs.YtgmkmlenhhhgkaaGreat
open Go.RowKit
set_option linter.unusedSimpArgs false
set_option linter.unusedVariables false
def Stay (B b : Nat) (w : World) (a : Addr) (v : Value) : Prop := ∀ w', Below B w w' → Lib.OthersKept 5 (some b) w w' → w'.cell? a = some v
theorem Stay.low {B b : Nat} {w : World} {a : Addr} {v : Value} (h : w.cell? a = some v) (hb : a.block < B) : Stay B b w a v := fun w' hw _ => (hw.cell hb).trans h
theorem Stay.high {B b k : Nat} {w : World} {c : Array Value} {t : TypeId} {fz : Nat × Nat} {a : Addr} {v : Value} (h : w.heap[a.block]? = some (.cells c t fz)) (hk : a.block ≠ b) (ht : t ≠ 5) (hc : w.cell? a = some v) : Stay B b w a v := by
  intro w' hw hO
  have h2 := hO a.block _ h (fun e => hk (Option.some.inj e)) (fun c' fz' e => ht (by cases e; rfl))
  rw [World.cell?_of_block (w := w) (by rw [h2, h])]
  exact hc
def xafZ (z : Int) : UInt8 := UInt8.ofNat (z % 256).toNat
theorem xiyZ (z : Int) : Value.int .u8 (z % 256) = .int .u8 ((xafZ z).toNat : Int) := by
  have h : (xafZ z).toNat = (z % 256).toNat := by unfold xafZ; rw [UInt8.toNat_ofNat']; omega
  rw [h]
  congr 1
  omega
theorem xdlZ (B b : Nat) (bs : List UInt8) (zs : List Int) (p : Option Addr) (cap : Nat) (w : World) (h : Bld B b (Lib.byteCells bs) w) (hlen : bs.length + zs.length ≤ 140737488355328) (hBw : B ≤ w.heap.size)
    (hz : ∀ k z, zs[k]? = some z → ∃ bl off, p = some ⟨bl, off, none⟩ ∧ Stay B b w ⟨bl, off + k, none⟩ (.int .i64 z)) :
    Calls Tryz.prog 50 #[.pointer (some ⟨b, 0, none⟩), .slice p zs.length cap] w fun e w' => e = .returned (.tuple #[]) ∧ (Bld B b (Lib.byteCells (bs ++ zs.map xafZ)) w' ∧ Below B w w' ∧ Lib.OthersKept 5 (some b) w w') := by
  go_enter Tryz.func50, Tryz.ntmps50
  go_wp2
  go_loopw [5, 8] (fun _ i wr => ∃ k : Nat, k ≤ zs.length ∧ i = .int .i64 k ∧ Bld B b (Lib.byteCells (bs ++ (zs.take k).map xafZ)) wr ∧ Below B w wr ∧ Lib.OthersKept 5 (some b) w wr) (fun _ i _ => zs.length - (intOf i).toNat)
  case atStart => exact ⟨0, Nat.zero_le _, rfl, by simpa using h, Below.refl _ _, Lib.OthersKept.refl _ _ _⟩
  case round =>
    obtain ⟨k, hk, rfl, hB, hbw, hkw⟩ := hrel
    have HZ : Hid (∀ k z, zs[k]? = some z → ∃ bl off, p = some ⟨bl, off, none⟩ ∧ Stay B b w ⟨bl, off + k, none⟩ (.int .i64 z)) := hz
    clear hz
    by_cases hlt : k < zs.length
    · obtain ⟨z, ho⟩ : ∃ z, zs[k]? = some z := ⟨_, List.getElem?_eq_some_iff.2 ⟨hlt, rfl⟩⟩
      obtain ⟨bl, off, rfl, hs⟩ := HZ.out k _ ho
      have g0 := hs wr hbw hkw
      have HO : Hid (zs[k]? = some z) := ho
      clear ho
      go_wp2_with fail
      rw [xiyZ]
      refine (xhoZ B b _ _ _ hB (by rw [Lib.byteCells_length, List.length_append, List.length_map, List.length_take]; omega) (Nat.le_trans hBw hbw.size)).mono ?_
      rintro e w2 ⟨rfl, hB2, hb2, hk2⟩
      go_wp2
      go_roundw
      case rel =>
        refine ⟨k + 1, by omega, by go_num, ?_, hbw.trans hb2, hkw.trans hk2⟩
        have : Lib.byteCells (bs ++ (zs.take (k + 1)).map xafZ) = Lib.byteCells (bs ++ (zs.take k).map xafZ) ++ [.int .u8 ((xafZ z).toNat : Int)] := by
          rw [xavZ zs k z HO.out]; simp [Lib.byteCells]
        rw [this]; exact hB2
      case measure => simp [intOf]; omega
    · have hlt' : ¬ (k : Int) < (zs.length : Int) := by omega
      go_wp2
      go_end0
      exact ⟨rfl, by rwa [List.take_of_length_le (by omega)] at hB, hbw, hkw⟩
def xbfZ (o : Int × Int) : List UInt8 := xafZ o.1 :: if hasA o.1 then [xafZ (o.2 / 16777216), xafZ (o.2 / 65536), xafZ (o.2 / 256), xafZ o.2] else []
theorem xatZ (w : World) (o : Obj) : (w.alloc o).heap[w.heap.size]? = some o := by
  show (w.heap.push o)[w.heap.size]? = _
  rw [Array.getElem?_push, if_pos rfl]
theorem xaeZ {w : World} {k : Nat} {o : Obj} (h : w.heap[k]? = some o) (o' : Obj) : (w.alloc o').heap[k]? = some o := by
  rw [Lib.alloc_old w o' k (xabZ h)]; exact h
theorem xfhZ {w : World} {k : Nat} {c : Array Value} {t : TypeId} {fz : Nat × Nat} (h : w.heap[k]? = some (.cells c t fz)) (j : Nat) : w.cell? ⟨k, j, none⟩ = c[j]? := by
  rw [Lib.cell_of_heap h]
theorem Bld.lt {B b : Nat} {bs : List Value} {w : World} (h : Bld B b bs w) : b < w.heap.size := h.elim (fun x => x.lt) (fun x => x.lt)
theorem xdsZ {b k : Nat} {w w' : World} {c : Array Value} {t : TypeId} {fz : Nat × Nat} (hk : Lib.OthersKept 5 (some b) w w') (h : w.heap[k]? = some (.cells c t fz)) (hb : k ≠ b) (ht : t ≠ 5) : w'.heap[k]? = some (.cells c t fz) :=
  hk k _ h (fun e => hb (Option.some.inj e)) (fun c' fz' e => ht (by cases e; rfl))
theorem xc8Z {B b k : Nat} {w : World} {zs : List Int} {fz : Nat × Nat} (h : w.heap[k]? = some (.cells (zs.map (Value.int .i64)).toArray 3 fz)) (hk : k ≠ b) :
    ∀ j z, zs[j]? = some z → ∃ bl off, (some ⟨k, 0, none⟩ : Option Addr) = some ⟨bl, off, none⟩ ∧ Stay B b w ⟨bl, off + j, none⟩ (.int .i64 z) := by
  intro j z hj
  refine ⟨k, 0, rfl, Stay.high (k := k) h hk (by decide) ?_⟩
  rw [xfhZ h]
  simp [hj]
theorem xjfZ (B b : Nat) (bs : List UInt8) (a : Int) (w : World) (h : Bld B b (Lib.byteCells bs) w) (hlen : bs.length + 4 ≤ 140737488355328) (hBw : B ≤ w.heap.size) :
    Calls Tryz.prog 103 #[.pointer (some ⟨b, 0, none⟩), .int .i64 a] w fun e w' => e = .returned (.tuple #[]) ∧ (Bld B b (Lib.byteCells (bs ++ [xafZ (a / 16777216), xafZ (a / 65536), xafZ (a / 256), xafZ a])) w' ∧ Below B w w' ∧ Lib.OthersKept 5 (some b) w w') := by
  have hbl := Bld.lt h
  have hc2 := xdlZ B b bs [a / 16777216, a / 65536, a / 256, a] (some ⟨w.heap.size, 0, none⟩) 4 (w.alloc (.cells #[.int .i64 (a / 16777216), .int .i64 (a / 65536), .int .i64 (a / 256), .int .i64 a] 3)) (h.alloc _) (by simp; omega) (by simp; omega)
      (xc8Z (zs := [a / 16777216, a / 65536, a / 256, a]) (fz := (0, 0)) (xatZ w _) (by omega))
  go_enter Tryz.func103, Tryz.ntmps103
  go_wp2_with fail
  refine hc2.mono ?_
  rintro e w3 ⟨rfl, hB3, hb3, hk3⟩
  go_wp2
  go_end0
  exact ⟨rfl, by simpa using hB3, ((Below.refl B w).alloc hBw _).trans hb3, ((Lib.OthersKept.refl _ _ w).alloc _).trans hk3⟩
theorem putOp_any (B b : Nat) (bs : List UInt8) (c a : Int) (w : World) (h : Bld B b (Lib.byteCells bs) w) (hlen : bs.length + 5 ≤ 140737488355328) (hBw : B ≤ w.heap.size) :
    Calls Tryz.prog 84 #[.pointer (some ⟨b, 0, none⟩), .agg #[.int .i64 c, .int .i64 a]] w fun e w' => e = .returned (.tuple #[]) ∧ (Bld B b (Lib.byteCells (bs ++ xbfZ (c, a))) w' ∧ Below B w w' ∧ Lib.OthersKept 5 (some b) w w') := by
  have hbl := Bld.lt h
  have hc1 := xdlZ B b bs [c] (some ⟨w.heap.size + 1, 0, none⟩) 1 ((w.alloc (.cells #[.int .i64 c, .int .i64 a] 38)).alloc (.cells #[.int .i64 c] 3)) ((h.alloc _).alloc _) (by simp; omega) (by simp; omega)
    (xc8Z (zs := [c]) (fz := (0, 0)) (by have := xatZ (w.alloc (.cells #[.int .i64 c, .int .i64 a] 38)) (.cells #[.int .i64 c] 3); rw [World.size_alloc] at this; exact this) (by omega))
  have hbox0 := xaeZ (xatZ w (.cells #[.int .i64 c, .int .i64 a] 38)) (.cells #[.int .i64 c] 3)
  have hB1 : Below B w ((w.alloc (.cells #[.int .i64 c, .int .i64 a] 38)).alloc (.cells #[.int .i64 c] 3)) := ((Below.refl B w).alloc hBw _).alloc (by simp; omega) _
  have hK1 : Lib.OthersKept 5 (some b) w ((w.alloc (.cells #[.int .i64 c, .int .i64 a] 38)).alloc (.cells #[.int .i64 c] 3)) := ((Lib.OthersKept.refl _ _ w).alloc _).alloc _
  cases hh : hasA c
  · go_enter Tryz.func84, Tryz.ntmps84
    go_wp2_with fail
    refine hc1.mono ?_
    rintro e w2 ⟨rfl, hB2, hb2, hk2⟩
    have hbox := xdsZ hk2 hbox0 (by omega) (by decide)
    have g0 : w2.cell? ⟨w.heap.size, 0, none⟩ = some (.int .i64 c) := xfhZ hbox 0
    go_wp2_with (go_at_call 101; refine (xbgZ _ _).mono ?_; rintro e w' ⟨rfl, rfl⟩)
    go_end0
    exact ⟨rfl, by simpa [xbfZ, hh] using hB2, hB1.trans hb2, hK1.trans hk2⟩
  · go_enter Tryz.func84, Tryz.ntmps84
    go_wp2_with fail
    refine hc1.mono ?_
    rintro e w2 ⟨rfl, hB2, hb2, hk2⟩
    have hbox := xdsZ hk2 hbox0 (by omega) (by decide)
    have g0 : w2.cell? ⟨w.heap.size, 0, none⟩ = some (.int .i64 c) := xfhZ hbox 0
    have g1 : w2.cell? ⟨w.heap.size, 1, none⟩ = some (.int .i64 a) := xfhZ hbox 1
    go_wp2_with (go_at_call 101; refine (xbgZ _ _).mono ?_; rintro e w' ⟨rfl, hw⟩; have hw := hw.symm; subst hw)
    have hle : B ≤ w2.heap.size := by have := hb2.size; simp at this; omega
    have hc2 := xjfZ B b (bs ++ [c].map xafZ) a w2 hB2 (by simp; omega) hle
    refine hc2.mono ?_
    rintro e w3 ⟨rfl, hB3, hb3, hk3⟩
    go_wp2
    go_end0
    exact ⟨rfl, by simpa [xbfZ, hh] using hB3, (hB1.trans hb2).trans hb3, (hK1.trans hk2).trans hk3⟩
end Go.Proofs.YtgmkmlenhhhgkaaGreat


/- strings.Builder's grow and Grow at this program, of a builder that has not been written. -/
namespace Go.Proofs.YtgmkmlenhhhgkaaGreat
open Go.RowKit
set_option linter.unusedSimpArgs false
set_option linter.unusedVariables false
theorem sizeByte1 : (Tryz.prog.info? 5).map (fun i => i.size) = some 1 := by kernel_rfl
theorem xi7Z (B b n : Nat) (w : World) (hB : B ≤ b) (hbk : w.heap[b]? = some (.cells #[.pointer (some ⟨b, 0, none⟩), .slice none 0 0] 84 (0, 0))) (hBw : B ≤ w.heap.size) (hn : n ≤ 1000) :
    Calls Tryz.prog 102 #[.pointer (some ⟨b, 0, none⟩), .int .i64 n] w fun e w' => e = .returned (.tuple #[]) ∧ (Bld B b [] w' ∧ Below B w w') := by
  obtain ⟨cs, hrun, hle, hmax⟩ := Lib.run_makeNoZero (P := Tryz.prog) w.drew #[3] 82 5 Tryz.underlying82 n (by omega)
  have hw : IntKind.i64.wrap (IntKind.i64.wrap 0 + (n : Int)) = n := by
    rw [IntKind.wrap_i64, IntKind.wrap_i64]
    omega
  have hcall : (callFunc 110 #[.int .i64 n]).run Tryz.prog w.drew = .ok (.value (.slice (some ⟨w.drew.heap.size, 0, none⟩) n cs.size)) (w.drew.drew.drew.alloc (.cells cs 5)) := by
    rw [run_callFunc_extern Tryz.func110 (by kernel_rfl) (by kernel_rfl) (by kernel_rfl) (e := Extern.BytealgMakeNoZero.makeNoZero #[3] #[82]) (by kernel_rfl), hrun]
    rfl
  have hlt : b < w.heap.size := xabZ hbk
  have c1 : w.drew.cell? ⟨b, 1, none⟩ = some (.slice none 0 0) := by
    have : w.drew.heap[b]? = _ := hbk
    rw [Lib.cell_of_heap this]; rfl
  have c2 : (w.alloc (.cells cs 5)).cell? ⟨b, 1, none⟩ = some (.slice none 0 0) := by
    have : (w.alloc (.cells cs 5)).heap[b]? = _ := (Lib.alloc_old w _ b hlt).trans hbk
    rw [Lib.cell_of_heap this]; rfl
  have f2 : (w.alloc (.cells cs 5)).frozen? ⟨b, 1, none⟩ = false := Lib.frozen_of_heap ((Lib.alloc_old w _ b hlt).trans hbk) 1
  have hcopy : ∀ W : World, (Builtin.copy_ #[82, 82] 3 #[.slice (some ⟨w.heap.size, 0, none⟩) 0 cs.size, .slice none 0 0]).run Tryz.prog W = .ok (goInt 0) W :=
    fun W => run_copy_none W 82 82 3 5 _ _ 0 cs.size 0 0 Tryz.underlying82 sizeByte1 rfl
  have hfin := Lib.grown_fresh (T := 84) (e := 5) (cs := cs) hB hbk hBw (hmax (by unfold maxLen; omega)) (by decide)
  have HF := And.intro (Lib.IsBuilderF.of (.inr hfin.1)) hfin.2
  clear hfin hw hmax hlt
  go_enter Tryz.func102, Tryz.ntmps102
  go_wp2
  go_region
  all_goals (go_wp2; go_end0; exact ⟨rfl, HF⟩)
theorem xfrZ (b : Nat) (w : World) (hbk : w.heap[b]? = some (.cells #[.pointer none, .slice none 0 0] 84 (0, 0))) :
    Calls Tryz.prog 96 #[.pointer (some ⟨b, 0, none⟩)] w fun e w' => e = .returned (.tuple #[]) ∧ w' = w.setCell ⟨b, 0, none⟩ (.pointer (some ⟨b, 0, none⟩)) := by
  obtain ⟨j, hj, hjs⟩ := Option.map_eq_some_iff.1 xhbZ
  have h : Lib.BuilderAtF 84 5 b b (.pointer none) [] w := Lib.BuilderAtF.of ⟨Nat.le_refl _, .slice none 0 0, hbk, World.ownsRow_nil _ _ _ _, by simp [Value.ownBlock]⟩
  have h0 := h.cell0
  have hsh := h.shape
  have hfz := h.frozen0
  go_enter Tryz.func96, Tryz.ntmps96
  go_wp2
  rw [Lib.run_to_unsafe w ⟨b, 0, none⟩ Tryz.underlying81 Tryz.underlying140 hj (by rw [hjs]; decide) hsh (Nat.zero_lt_succ 1)]
  simp only [Result.andThen]
  rw [Oper.upon_value]
  go_wp2
  rw [run_callFunc_extern Tryz.func108 (by kernel_rfl) (by kernel_rfl) (by kernel_rfl) (e := Extern.AbiNoEscape.same) (by kernel_rfl)]
  rw [Lib.run_noEscape]
  simp only [Result.andThen]
  rw [Oper.upon_value]
  go_wp2
  rw [Lib.run_from_unsafe w ⟨b, 0, none⟩ Tryz.underlying140 Tryz.underlying81 hj hsh liesBuilder]
  simp only [Result.andThen]
  rw [Oper.upon_value]
  go_wp2
  go_end0
  exact ⟨rfl, rfl⟩
theorem grow_any (b n : Nat) (w : World) (hbk : w.heap[b]? = some (.cells #[.pointer none, .slice none 0 0] 84 (0, 0))) (hn : n ≤ 1000) :
    Calls Tryz.prog 83 #[.pointer (some ⟨b, 0, none⟩), .int .i64 n] w fun e w' => e = .returned (.tuple #[]) ∧ (Bld b b [] w' ∧ Below b w w') := by
  have hlt : b < w.heap.size := xabZ hbk
  have hC := xfrZ b w hbk
  obtain ⟨w1, hw1⟩ : ∃ w1, w.setCell ⟨b, 0, none⟩ (.pointer (some ⟨b, 0, none⟩)) = w1 := ⟨_, rfl⟩
  rw [hw1] at hC
  have x1 : w1.heap[b]? = some (.cells #[.pointer (some ⟨b, 0, none⟩), .slice none 0 0] 84 (0, 0)) := by
    rw [← hw1]; simp [World.setCell, Array.getElem?_modify, hbk]
  have hb1 : Below b w w1 := by rw [← hw1]; exact (Below.refl b w).setCell (p := ⟨b, 0, none⟩) (Nat.le_refl _) _
  have c1 : w1.cell? ⟨b, 1, none⟩ = some (.slice none 0 0) := by rw [Lib.cell_of_heap x1]; rfl
  have hU : Bld b b [] w1 := .inr (Lib.BuilderAtF.of ⟨Nat.le_refl _, .slice none 0 0, x1, World.ownsRow_nil _ _ _ _, by simp [Value.ownBlock]⟩)
  have hG := xi7Z b b n w1.drew (Nat.le_refl _) x1 (by have := hb1.size; show b ≤ w1.heap.size; omega) hn
  have hU' : Bld b b [] w1.drew := hU.elim (fun x => .inl x.drew) (fun x => .inr x.drew)
  clear hw1
  by_cases hn0 : n = 0
  · subst hn0
    go_enter Tryz.func83, Tryz.ntmps83
    go_wp2_with (go_at_call 96; refine hC.mono ?_; rintro e w' ⟨rfl, rfl⟩)
    go_region
    all_goals (go_wp2; go_end0; exact ⟨rfl, hU', hb1.drew⟩)
  · have hnp : (0 : Int) < (n : Int) := by omega
    go_enter Tryz.func83, Tryz.ntmps83
    go_wp2_with (go_at_call 96; refine hC.mono ?_; rintro e w' ⟨rfl, rfl⟩)
    go_region
    all_goals
      go_wp2_with (go_at_call 102; refine hG.mono ?_; rintro e w2 ⟨rfl, h1, h2⟩)
      go_end0
      exact ⟨rfl, h1, hb1.drew.trans h2⟩
end Go.Proofs.YtgmkmlenhhhgkaaGreat


/- op.Encode. -/
namespace Go.Proofs.YtgmkmlenhhhgkaaGreat
open Go.RowKit
set_option linter.unusedSimpArgs false
set_option linter.unusedVariables false
def xaiZ (l : List (Int × Int)) : List UInt8 := l.flatMap xbfZ
def xccZ (l : List (Int × Int)) : List UInt8 := if xaoZ l = 0 then xaiZ l else []
theorem opBytes_le (o : Int × Int) : (xbfZ o).length ≤ 5 := by unfold xbfZ; split <;> simp
theorem xcsZ (l : List (Int × Int)) : (xaiZ l).length ≤ 5 * l.length := by
  induction l with
  | nil => simp [xaiZ]
  | cons o r ih => have := opBytes_le o; simp [xaiZ] at *; omega
theorem xgpZ (l : List (Int × Int)) (k : Nat) (o : Int × Int) (h : l[k]? = some o) : xaiZ (l.take (k + 1)) = xaiZ (l.take k) ++ xbfZ o := by
  rw [xavZ l k o h]; simp [xaiZ]
theorem hideP0 {p : Prop} (h : p) : Hid p := h
theorem encode_any (l : List (Int × Int)) (v : Value) (w : World) (h : OpsAt w v l) : Calls Tryz.prog 56 #[v] w fun e w' => e = .returned (.tuple #[.string ⟨(xccZ l).toArray⟩, .int .i64 (xaoZ l)]) ∧ Below w.heap.size w w' := by
  have hOps := h
  obtain ⟨p, cap, rfl, hm, hc⟩ := h
  unfold maxLen at hm
  by_cases h40 : 40 < l.length
  · have h40' : (40 : Int) < (l.length : Int) := by omega
    have hce : xaoZ l = 2 := by simp [xaoZ, h40]
    have hes : xccZ l = [] := by simp [xccZ, hce]
    rw [hce, hes]
    clear hce hes hc hOps
    go_enter Tryz.func56, Tryz.ntmps56
    go_wp2
    go_ret2
    exact ⟨rfl, Below.refl _ _⟩
  have h40' : ¬ (40 : Int) < (l.length : Int) := by omega
  have hce : xaoZ l = xbwZ l := by simp [xaoZ, h40]
  have HC : Hid (∀ k o, l[k]? = some o → ∃ b off, p = some ⟨b, off, none⟩ ∧ b < w.heap.size ∧ w.cell? ⟨b, off + k * 2, none⟩ = some (.int .i64 o.1) ∧ w.cell? ⟨b, off + k * 2 + 1, none⟩ = some (.int .i64 o.2)) := hc
  clear hc
  have HCE : Hid (xaoZ l = xbwZ l) := hce
  clear hce
  go_enter Tryz.func56, Tryz.ntmps56
  go_wp2_with fail
  refine (xhkZ l _ _ hOps).mono ?_
  rintro e w1 ⟨r, rfl, hr, hb1⟩
  clear hOps
  rcases hr with ⟨rfl, hall⟩ | ⟨k, ⟨c, a⟩, rfl, hk, hbef, hne⟩
  · have HA : Hid (∀ o ∈ l, chk o.1 o.2 = 0) := hall
    clear hall
    have hG := grow_any w1.heap.size (l.length * 5) _ (heap_alloc_new w1 (.cells #[.pointer none, .slice none 0 0] 84)) (by omega)
    rw [show ((l.length * 5 : Nat) : Int) = (l.length : Int) * 5 by omega] at hG
    have HG := hideP0 hG
    clear hG
    go_wp2_with fail
    refine HG.out.mono ?_
    rintro e wg ⟨rfl, hBg, hbg⟩
    go_wp2
    go_loopw [7, 26] (fun _ i wr => ∃ k : Nat, k ≤ l.length ∧ i = .int .i64 k ∧ Bld w1.heap.size w1.heap.size (Lib.byteCells (xaiZ (l.take k))) wr ∧ Below w1.heap.size w1 wr) (fun _ i _ => l.length - (intOf i).toNat)
    case atStart => exact ⟨0, Nat.zero_le _, rfl, by simpa [xaiZ, Lib.byteCells] using hBg, ((Below.refl _ w1).alloc (Nat.le_refl _) _).trans hbg⟩
    case round =>
      obtain ⟨k, hk, rfl, hB, hbw⟩ := hrel
      by_cases hlt : k < l.length
      · obtain ⟨⟨c, a⟩, ho⟩ := xagZ hlt
        obtain ⟨b, off, rfl, hb, h0, h1⟩ := HC.out k _ ho
        have g0 := ((hb1.trans (hbw.mono hb1.size)).cell (p := ⟨b, off + k * 2, none⟩) hb).trans h0
        have g1 := ((hb1.trans (hbw.mono hb1.size)).cell (p := ⟨b, off + k * 2 + 1, none⟩) hb).trans h1
        have HO : Hid (l[k]? = some (c, a)) := ho
        clear ho h0 h1
        have hle := xcsZ (l.take k)
        rw [List.length_take] at hle
        have hsz := hbw.size
        go_wp2_with fail
        refine (putOp_any w1.heap.size w1.heap.size (xaiZ (l.take k)) c a _ (hB.alloc _) (by omega) (by simp; omega)).mono ?_
        rintro e w2 ⟨rfl, hB2, hb2, hk2⟩
        go_wp2
        go_roundw
        case rel => exact ⟨k + 1, by omega, by go_num, by rw [xgpZ l k _ HO.out]; exact hB2, (hbw.alloc hsz _).trans hb2⟩
        case measure => simp [intOf]; omega
      · have hlt' : ¬ (k : Int) < (l.length : Int) := by omega
        have hes : xaoZ l = 0 := HCE.out.trans (xevZ l HA.out)
        have hes2 : xccZ l = xaiZ l := by simp [xccZ, hes]
        rw [List.take_of_length_le (by omega)] at hB
        have HE : Hid (xaoZ l = 0) := hes
        have HS : Hid (xccZ l = xaiZ l) := hes2
        clear hes hes2
        go_wp2_with (go_at_call 52; refine (Tryz.string_any w1.heap.size w1.heap.size (xaiZ l) _ hB hbw.size).mono ?_; rintro e w2 ⟨rfl, hB2, hb2, hk2⟩)
        go_ret2
        exact ⟨by rw [HS.out, HE.out]; rfl, hb1.trans ((hbw.trans hb2).mono hb1.size)⟩
  · have hlt := xauZ hk
    obtain ⟨b, off, rfl, hb, h0, h1⟩ := HC.out k _ hk
    have g0 := (hb1.cell (p := ⟨b, off + k * 2, none⟩) hb).trans h0
    have g1 := (hb1.cell (p := ⟨b, off + k * 2 + 1, none⟩) hb).trans h1
    have he := xi4Z l k _ hk hbef hne
    have hes : xccZ l = [] := by simp [xccZ, HCE.out, he]; intro hh; exact absurd hh hne
    have HE : Hid (xaoZ l = chk c a) := HCE.out.trans he
    have HS : Hid (xccZ l = []) := hes
    clear hk hbef hne he hes h0 h1
    go_wp2_with (go_at_call 82; refine (xg0Z _ _ _).mono ?_; rintro e w2 ⟨rfl, hb2⟩)
    go_ret2
    exact ⟨by rw [HS.out, HE.out]; rfl, hb1.trans (hb2.mono hb1.size)⟩
end Go.Proofs.YtgmkmlenhhhgkaaGreat


/- octet.Number and op.first. -/
namespace Go.Proofs.YtgmkmlenhhhgkaaGreat
open Go.RowKit
set_option linter.unusedSimpArgs false
set_option linter.unusedVariables false
def numOf (l : List UInt8) : Nat := l.foldl (fun n b => 256 * n + b.toNat) 0
theorem numOf_snoc (l : List UInt8) (b : UInt8) : numOf (l ++ [b]) = 256 * numOf l + b.toNat := by simp [numOf]
theorem foldl_lt (l : List UInt8) : ∀ (n k : Nat), n < 256 ^ k → l.foldl (fun n b => 256 * n + b.toNat) n < 256 ^ (k + l.length) := by
  induction l with
  | nil => intro n k h; simpa using h
  | cons b r ih =>
    intro n k h
    have := ih (256 * n + b.toNat) (k + 1) (by have := b.toNat_lt; rw [Nat.pow_succ]; omega)
    rw [List.length_cons, show k + (r.length + 1) = k + 1 + r.length from by omega]
    exact this
theorem xfwZ (l : List UInt8) : numOf l < 256 ^ l.length := by
  have := foldl_lt l 0 0 (by simp)
  simpa [numOf] using this
theorem xjbZ (l : List UInt8) (h : l.length ≤ 4) : numOf l < 4294967296 :=
  Nat.lt_of_lt_of_le (xfwZ l) (by have := Nat.pow_le_pow_right (n := 256) (by omega) h; simpa using this)
theorem ofInt64 (n : Nat) (h : n < 9223372036854775808) : (BitVec.ofInt 64 (n : Int)).toNat = n := by
  rw [BitVec.toNat_ofInt]; omega
theorem or_byte (n b : Nat) (hn : n < 4294967296) (hb : b < 256) : bits .or .i64 (wrap64 ((n : Int) * 256)) (wrap64 (b : Int)) = ((256 * n + b : Nat) : Int) := by
  rw [IntWalk.wrap64_in _ (by omega), IntWalk.wrap64_in _ (by omega)]
  have e : ((n : Int) * 256) = ((n * 256 : Nat) : Int) := by omega
  rw [e]
  show IntKind.i64.wrap ((BitVec.ofInt 64 ((n * 256 : Nat) : Int) ||| BitVec.ofInt 64 (b : Int)).toNat : Int) = _
  rw [BitVec.toNat_or, ofInt64 _ (by omega), ofInt64 _ (by omega)]
  have h2 := Nat.shiftLeft_add_eq_or_of_lt (a := n) (b := b) (i := 8) (by simpa using hb)
  rw [Nat.shiftLeft_eq] at h2
  rw [show n * 256 = n * 2 ^ 8 from rfl, ← h2, IntKind.wrap_i64]
  omega
theorem bytes_snoc (s : ByteArray) (k : Nat) (h : k < s.size) : s.data.toList.take (k + 1) = s.data.toList.take k ++ [s[k]] := by
  rw [List.take_succ_eq_append_getElem (by simpa using h)]; rfl
theorem xcvZ (s : ByteArray) (w : World) (hs : s.size ≤ 4) : Calls Tryz.prog 97 #[.string s] w fun e w' => e = .returned (.int .i64 (numOf s.data.toList)) ∧ w' = w := by
  go_enter Tryz.func97, Tryz.ntmps97
  go_wp2
  go_loop [3, 4, 7] (fun n _ i => ∃ k : Nat, k ≤ s.size ∧ i = .int .i64 k ∧ n = .int .i64 (numOf (s.data.toList.take k))) (fun _ _ i => s.size - (intOf i).toNat)
  case atStart => exact ⟨0, Nat.zero_le _, rfl, rfl⟩
  case round =>
    obtain ⟨k, hk, rfl, rfl⟩ := hrel
    by_cases hlt : k < s.size
    · have HE : Hid (bits BinOp.or IntKind.i64 (wrap64 ((numOf (List.take k s.data.toList) : Int) * 256)) (wrap64 (s[k].toNat : Int)) = ((numOf (s.data.toList.take (k + 1)) : Nat) : Int)) := by
        have hl := xjbZ (s.data.toList.take k) (by rw [List.length_take]; simp; omega)
        show _ = _
        rw [or_byte _ _ hl (s[k].toNat_lt), bytes_snoc s k hlt, numOf_snoc]
      go_wp2
      go_round
      case rel => exact ⟨k + 1, by omega, by go_num, by rw [HE.out]⟩
      case measure => simp [intOf]; omega
    · have hlt' : ¬ (k : Int) < (s.size : Int) := by omega
      go_wp2
      go_ret
      exact ⟨ret_int (by rw [List.take_of_length_le (by simp; omega)]), rfl⟩
def xa1Z : List UInt8 → Option ((Int × Int) × Nat)
  | [] => none
  | b :: r => if xblZ b.toNat = false then none else if hasA b.toNat then (if r.length < 4 then none else some ((b.toNat, wrap32 (numOf (r.take 4))), 5)) else some ((b.toNat, 0), 1)
theorem xf2Z (s : ByteArray) (h0 : 0 < s.size) : xa1Z s.data.toList = if xblZ (s[0].toNat : Int) = false then none else if hasA (s[0].toNat : Int) then (if s.size < 5 then none else some (((s[0].toNat : Int), wrap32 (numOf ((s.data.toList.drop 1).take 4))), 5)) else some (((s[0].toNat : Int), 0), 1) := by
  have hl : s.data.toList.length = s.size := by simp
  have hg : s.data.toList[0]'(by omega) = s[0] := rfl
  cases hs : s.data.toList with
  | nil => rw [hs] at hl; simp at hl; omega
  | cons b r =>
    have hb : b = s[0] := by rw [← hg]; simp [hs]
    rw [hs] at hl
    simp only [List.length_cons] at hl
    rw [← hb]
    simp only [xa1Z, List.drop_succ_cons, List.drop_zero]
    have e : (r.length < 4) ↔ (s.size < 5) := by omega
    simp only [e]
theorem first_none (s : ByteArray) (w : World) (h0 : 0 < s.size) (hm : s.size ≤ maxLen) (h : xa1Z s.data.toList = none) : Calls Tryz.prog 124 #[.string s] w fun e w' => e = .returned (.tuple #[.agg #[.int .i64 0, .int .i64 0], .int .i64 0, .int .i64 1]) ∧ Below w.heap.size w w' := by
  unfold maxLen at hm
  rw [xf2Z s h0] at h
  obtain ⟨c, hc⟩ : ∃ c : Int, (s[0].toNat : Int) = c := ⟨_, rfl⟩
  have hc0 : 0 ≤ c := by omega
  have hc1 : c ≤ 255 := by have := s[0].toNat_lt; omega
  rw [hc] at h
  have hW : ∀ o1 o2 (p : Addr) u, w.heap.size ≤ p.block → Below w.heap.size w (((w.alloc o1).alloc o2).setCell p u) := fun o1 o2 p u hp => (((Below.refl _ w).alloc (Nat.le_refl _) _).alloc (by simp) _).setCell hp _
  cases hk : xblZ c
  · clear h
    cases hh : hasA c
    all_goals
      go_enter Tryz.func124, Tryz.ntmps124
      go_wp2_with (first | (go_at_call 100; refine (xbvZ _ _).mono ?_; rintro e w' ⟨rfl, hw⟩; have hw := hw.symm; subst hw) | (go_at_call 101; refine (xbgZ _ _).mono ?_; rintro e w' ⟨rfl, hw⟩; have hw := hw.symm; subst hw) | (go_at_call 97; refine (xcvZ _ _ (by simp)).mono ?_; rintro e w' ⟨rfl, hw⟩; have hw := hw.symm; subst hw) | (go_at_call 131; refine (xekZ _ _).mono ?_; rintro e w' ⟨rfl, hw⟩; have hw := hw.symm; subst hw))
      exact bodyPost_ret (v := .tuple #[.agg #[.int .i64 0, .int .i64 0], .int .i64 0, .int .i64 1]) (by simp [results, Tryz.results124, go_sem]) rfl ⟨rfl, ((Below.refl _ w).alloc (Nat.le_refl _) _).alloc (by simp) _⟩
  · rw [hk] at h
    cases hh : hasA c
    · simp [hh] at h
    · rw [hh] at h
      have h5 : s.size < 5 := by
        by_cases h5 : s.size < 5
        · exact h5
        · simp [h5] at h
      clear h
      have h5' : (s.size : Int) < 5 := by omega
      go_enter Tryz.func124, Tryz.ntmps124
      go_wp2_with (first | (go_at_call 100; refine (xbvZ _ _).mono ?_; rintro e w' ⟨rfl, hw⟩; have hw := hw.symm; subst hw) | (go_at_call 101; refine (xbgZ _ _).mono ?_; rintro e w' ⟨rfl, hw⟩; have hw := hw.symm; subst hw) | (go_at_call 97; refine (xcvZ _ _ (by simp)).mono ?_; rintro e w' ⟨rfl, hw⟩; have hw := hw.symm; subst hw) | (go_at_call 131; refine (xekZ _ _).mono ?_; rintro e w' ⟨rfl, hw⟩; have hw := hw.symm; subst hw))
      exact bodyPost_ret (v := .tuple #[.agg #[.int .i64 0, .int .i64 0], .int .i64 0, .int .i64 1]) (by simp [results, Tryz.results124, go_sem]) rfl ⟨rfl, ((Below.refl _ w).alloc (Nat.le_refl _) _).alloc (by simp) _⟩
theorem first_some (s : ByteArray) (w : World) (c a : Int) (n : Nat) (h0 : 0 < s.size) (hm : s.size ≤ maxLen) (h : xa1Z s.data.toList = some ((c, a), n)) : Calls Tryz.prog 124 #[.string s] w fun e w' => e = .returned (.tuple #[.agg #[.int .i64 c, .int .i64 a], .int .i64 n, .int .i64 0]) ∧ Below w.heap.size w w' := by
  unfold maxLen at hm
  rw [xf2Z s h0] at h
  obtain ⟨d, hc⟩ : ∃ d : Int, (s[0].toNat : Int) = d := ⟨_, rfl⟩
  have hc0 : 0 ≤ d := by omega
  have hc1 : d ≤ 255 := by have := s[0].toNat_lt; omega
  rw [hc] at h
  cases hk : xblZ d
  · simp [hk] at h
  · rw [hk] at h
    cases hh : hasA d
    · simp [hh] at h
      obtain ⟨⟨rfl, rfl⟩, rfl⟩ := h
      have hlt' : ¬ (s.size : Int) < 1 := by omega
      go_enter Tryz.func124, Tryz.ntmps124
      go_wp2_with (first | (go_at_call 100; refine (xbvZ _ _).mono ?_; rintro e w' ⟨rfl, hw⟩; have hw := hw.symm; subst hw) | (go_at_call 101; refine (xbgZ _ _).mono ?_; rintro e w' ⟨rfl, hw⟩; have hw := hw.symm; subst hw))
      refine (xcvZ _ _ (by simp)).mono ?_
      rintro e w' ⟨rfl, hw⟩
      have hw := hw.symm
      subst hw
      have hn : numOf ByteArray.empty.data.toList = 0 := by decide
      rw [hn]
      go_wp2_with (go_at_call 131; refine (xekZ _ _).mono ?_; rintro e w' ⟨rfl, hw⟩; have hw := hw.symm; subst hw)
      have hz : wrap32 ((0 : Nat) : Int) = 0 := by unfold wrap32; omega
      exact bodyPost_ret (v := .tuple #[.agg #[.int .i64 d, .int .i64 0], .int .i64 ((1 : Nat) : Int), .int .i64 0]) (by simp [results, Tryz.results124, go_sem]; try (exact hz)) rfl ⟨rfl, ((Below.refl _ w).alloc (Nat.le_refl _) _).alloc (by simp) _⟩
    · rw [hh] at h
      have h5 : ¬ s.size < 5 := by
        intro h5
        simp [h5] at h
      simp [h5] at h
      obtain ⟨⟨rfl, rfl⟩, rfl⟩ := h
      have h5' : ¬ (s.size : Int) < 5 := by omega
      go_enter Tryz.func124, Tryz.ntmps124
      go_wp2_with (first | (go_at_call 100; refine (xbvZ _ _).mono ?_; rintro e w' ⟨rfl, hw⟩; have hw := hw.symm; subst hw) | (go_at_call 101; refine (xbgZ _ _).mono ?_; rintro e w' ⟨rfl, hw⟩; have hw := hw.symm; subst hw))
      have hx : (s.extract 1 5).data.toList = s.data.toList.tail.take 4 := by
        rw [Lib.extract_data, List.drop_one]
      refine (xcvZ _ _ (by simp; omega)).mono ?_
      rintro e w' ⟨rfl, hw⟩
      have hw := hw.symm
      subst hw
      rw [hx]
      go_wp2_with (go_at_call 131; refine (xekZ _ _).mono ?_; rintro e w' ⟨rfl, hw⟩; have hw := hw.symm; subst hw)
      exact bodyPost_ret (v := .tuple #[.agg #[.int .i64 d, .int .i64 (wrap32 (numOf (s.data.toList.tail.take 4)))], .int .i64 ((5 : Nat) : Int), .int .i64 0]) (by simp [results, Tryz.results124, go_sem]) rfl ⟨rfl, ((Below.refl _ w).alloc (Nat.le_refl _) _).alloc (by simp) _⟩
end Go.Proofs.YtgmkmlenhhhgkaaGreat


/- op.each and its closure: the iterator's contract. -/
namespace Go.Proofs.YtgmkmlenhhhgkaaGreat
open Go.RowKit Go.Shelf
set_option linter.unusedSimpArgs false
set_option linter.unusedVariables false
attribute [local go_sem] Oper.semAt_some
def items : Nat → List UInt8 → List ((Int × Int) × Int)
  | 0, _ => []
  | _ + 1, [] => []
  | f + 1, b :: r => match xa1Z (b :: r) with
    | none => [((0, 0), 1)]
    | some (o, n) => (o, 0) :: items f ((b :: r).drop n)
theorem xe1Z (f : Nat) : items f [] = [] := by cases f <;> rfl
theorem xf8Z (f : Nat) (l : List UInt8) (h0 : l ≠ []) (h : xa1Z l = none) : items (f + 1) l = [((0, 0), 1)] := by
  cases l with
  | nil => exact absurd rfl h0
  | cons b r => simp [items, h]
theorem xedZ (f : Nat) (l : List UInt8) (o : Int × Int) (n : Nat) (h : xa1Z l = some (o, n)) : items (f + 1) l = (o, 0) :: items f (l.drop n) := by
  cases l with
  | nil => simp [xa1Z] at h
  | cons b r => simp [items, h]
theorem xewZ (l : List UInt8) (o : Int × Int) (n : Nat) (h : xa1Z l = some (o, n)) : 1 ≤ n ∧ n ≤ l.length := by
  cases l with
  | nil => simp [xa1Z] at h
  | cons b r =>
    simp only [xa1Z] at h
    by_cases h1 : xblZ b.toNat = false
    · simp [h1] at h
    · by_cases h2 : hasA b.toNat = true
      · by_cases h3 : r.length < 4
        · simp [h1, h2, h3] at h
        · simp [h1, h2, h3] at h; obtain ⟨_, rfl⟩ := h; simp; omega
      · simp [h1, h2] at h; obtain ⟨_, rfl⟩ := h; simp
theorem xbpZ {w w' : World} (h : Below w.heap.size w w') : w.grownBy w' none := ⟨h.os, h.tape, h.output, h.size, fun k hk _ => h.block k hk⟩
def KpS (bs : Nat) (s : ByteArray) (W W' : World) : Prop := Boxed W bs 9 (.string s) → Boxed W' bs 9 (.string s)
abbrev encsI (x : (Int × Int) × Int) : Array Value := #[.agg #[.int .i64 x.1.1, .int .i64 x.1.2], .int .i64 x.2]
theorem each1_in (n : Nat) (hn : 1 ≤ n) (l bs : Nat) (s : ByteArray) (hm : s.size ≤ maxLen) (J Jx : List ((Int × Int) × Int) → World → Prop) (W : World) (hA : AbidesFrom W.heap.size J)
    (hY : ∀ pre x W1, J pre W1 → pre.length < (items s.size s.data.toList).length → YieldAt Fence.wide (n - 1) Tryz.prog l (encsI x) W1 fun e W' =>
      (e = .returned (.bool true) ∧ J (pre ++ [x]) W' ∧ KpS bs s W1 W') ∨ (e = .returned (.bool false) ∧ Jx (pre ++ [x]) W'))
    (hB : Boxed W bs 9 (.string s)) (h0 : J [] W) :
    CallsIn Fence.wide n Tryz.prog 123 #[.func (.yield l) #[] #[], .pointer (some ⟨bs, 0, none⟩)] W fun e W' => (∃ v, e = .returned v) ∧
      ((∃ ys, ys = items s.size s.data.toList ∧ J ys W') ∨ (∃ pre, pre <+: items s.size s.data.toList ∧ Jx pre W')) := by
  unfold maxLen at hm
  refine callsIn_of_wp Tryz.func123 rfl trivial ?_ rfl
  simp only [Tryz.ntmps123, List.size_toArray, List.length_cons, List.length_nil, Nat.reduceAdd, Nat.reduceSub, Array.replicate_succ, Array.replicate_zero, List.push_toArray, List.append_toArray, List.nil_append, List.cons_append]
  gi_wp2
  gi_loopw [3, 4, 5, 6] (fun a _ _ _ wr => ∃ (k f : Nat) (pre : List ((Int × Int) × Int)), a = .int .i64 k ∧ k ≤ s.size ∧ s.size ≤ k + f ∧ items s.size s.data.toList = pre ++ items f (s.data.toList.drop k) ∧ J pre wr ∧ Boxed wr bs 9 (.string s)) (fun a _ _ _ _ => s.size - (intOf a).toNat)
  case atStart => exact ⟨0, s.size, [], rfl, Nat.zero_le _, by omega, by simp, h0, hB⟩
  case round =>
    obtain ⟨k, f, pre, rfl, hk, hf, hit, hJ, hBx⟩ := hrel
    have HI : Hid (items s.size s.data.toList = pre ++ items f (s.data.toList.drop k)) := hit
    clear hit
    have hc := hBx.cell
    by_cases hlt : k < s.size
    · have hx : (s.extract k s.size).data.toList = s.data.toList.drop k := by
        rw [Lib.extract_data, List.take_of_length_le (by simp)]
      have hne : s.data.toList.drop k ≠ [] := by simp; omega
      obtain ⟨f, rfl⟩ : ∃ g, f = g + 1 := ⟨f - 1, by omega⟩
      cases hfo : xa1Z (s.data.toList.drop k) with
      | none =>
        have hno := first_none (s.extract k s.size)
        rw [hx] at hno
        rw [xf8Z f _ hne hfo] at HI
        have HF : Hid (xa1Z (s.data.toList.drop k) = none) := hfo
        have HN : Hid (∀ (w : World), 0 < (s.extract k s.size).size → (s.extract k s.size).size ≤ maxLen → xa1Z (s.data.toList.drop k) = none → Calls Tryz.prog 124 #[.string (s.extract k s.size)] w fun e w' => e = .returned (.tuple #[.agg #[.int .i64 0, .int .i64 0], .int .i64 0, .int .i64 1]) ∧ Below w.heap.size w w') := hno
        clear hno hfo
        gi_wp2_with fail
        refine ⟨trivial, ?_⟩
        refine (callsIn_wide.2 (HN.out wr (by simp; omega) (by unfold maxLen; simp; omega) HF.out)).mono ?_
        rintro e w2 ⟨rfl, hb2⟩
        have hJ2 : J pre (w2.alloc (.cells #[.int .i64 0, .int .i64 0] 38)) := hA _ _ _ none (hA _ _ _ none hJ (xbpZ hb2) (fun r e => by cases e)) (World.grownBy_alloc _ _ _) (fun r e => by cases e)
        obtain ⟨fn, tmps, assign, body, hy, hR⟩ := hY pre ((0, 0), 1) _ hJ2 (by rw [HI.out]; simp)
        dsimp only [encsI] at hy
        clear hJ2 hJ HN
        gi_wp2
        refine hR.mono ?_
        rintro e W3 (⟨rfl, hJ3, hk3⟩ | ⟨rfl, hJx3⟩)
        · gi_wp2
          refine bodyPost_ret (results_none rfl _ _ _) rfl ?_
          refine ⟨⟨_, rfl⟩, .inl ?_⟩
          exact ⟨_, HI.out.symm, hJ3⟩
        · gi_wp2
          refine bodyPost_ret (results_none rfl _ _ _) rfl ?_
          exact ⟨⟨_, rfl⟩, .inr ⟨_, by rw [HI.out]; exact List.prefix_refl _, hJx3⟩⟩
      | some p =>
        obtain ⟨⟨c, a⟩, m⟩ := p
        obtain ⟨hm1, hm2⟩ := xewZ _ _ _ hfo
        have hm3 : m ≤ s.size - k := by simpa using hm2
        have hso := fun w h0 hm h => first_some (s.extract k s.size) w c a m h0 hm h
        rw [hx] at hso
        rw [xedZ f _ _ _ hfo] at HI
        have HF : Hid (xa1Z (s.data.toList.drop k) = some ((c, a), m)) := hfo
        have HN : Hid (∀ (w : World), 0 < (s.extract k s.size).size → (s.extract k s.size).size ≤ maxLen → xa1Z (s.data.toList.drop k) = some ((c, a), m) → Calls Tryz.prog 124 #[.string (s.extract k s.size)] w fun e w' => e = .returned (.tuple #[.agg #[.int .i64 c, .int .i64 a], .int .i64 m, .int .i64 0]) ∧ Below w.heap.size w w') := hso
        clear hso hfo
        gi_wp2_with fail
        refine ⟨trivial, ?_⟩
        refine (callsIn_wide.2 (HN.out wr (by simp; omega) (by unfold maxLen; simp; omega) HF.out)).mono ?_
        rintro e w2 ⟨rfl, hb2⟩
        have hg2 : wr.grownBy (w2.alloc (.cells #[.int .i64 c, .int .i64 a] 38)) none := xbpZ ((hb2.alloc hb2.size _))
        have hJ2 : J pre (w2.alloc (.cells #[.int .i64 c, .int .i64 a] 38)) := hA _ _ _ none hJ hg2 (fun r e => by cases e)
        have hB2 : Boxed (w2.alloc (.cells #[.int .i64 c, .int .i64 a] 38)) bs 9 (.string s) := hBx.kept hg2 (by simp)
        obtain ⟨fn, tmps, assign, body, hy, hR⟩ := hY pre ((c, a), 0) _ hJ2 (by rw [HI.out]; simp)
        dsimp only [encsI] at hy
        clear hJ2 hJ HN
        gi_wp2
        refine hR.mono ?_
        rintro e W3 (⟨rfl, hJ3, hk3⟩ | ⟨rfl, hJx3⟩)
        · gi_wp2
          go_roundw
          case rel =>
            refine ⟨k + m, f, pre ++ [((c, a), 0)], by go_num, by omega, by omega, ?_, hJ3, hk3 hB2⟩
            rw [HI.out, List.drop_drop]; simp
          case measure => simp [intOf]; omega
        · gi_wp2
          refine bodyPost_ret (results_none rfl _ _ _) rfl ?_
          exact ⟨⟨_, rfl⟩, .inr ⟨_, by rw [HI.out]; simp, hJx3⟩⟩
    · have hlt' : ¬ (k : Int) < (s.size : Int) := by omega
      gi_wp2
      go_end0
      refine ⟨⟨_, rfl⟩, .inl ?_⟩
      rw [HI.out, List.drop_eq_nil_of_le (by simp; omega), xe1Z, List.append_nil]
      exact hJ
theorem each_any (s : ByteArray) (w : World) :
    Calls Tryz.prog 109 #[.string s] w fun e w' => e = .returned (.func (.func 123) #[] #[.pointer (some ⟨w.heap.size, 0, none⟩)]) ∧ w' = w.alloc (.cells #[.string s] 9) := by
  go_enter Tryz.func109, Tryz.ntmps109
  go_wp2
  go_ret
  exact ⟨rfl, rfl⟩
theorem each_stops (n : Nat) (hn : 1 ≤ n) (bs : Nat) (s : ByteArray) (hm : s.size ≤ maxLen) (w : World) (hB : Boxed w bs 9 (.string s)) :
    SeqStopsK Fence.wide n Tryz.prog 123 #[.pointer (some ⟨bs, 0, none⟩)] encsI (KpS bs s) (fun ys => ys = items s.size s.data.toList) (fun pre => pre <+: items s.size s.data.toList) (items s.size s.data.toList).length w :=
  fun l J Jx W hW hA _ hY h0 => each1_in n hn l bs s hm J Jx W hA hY ((hW.block bs hB.lt).trans hB) h0
theorem kpS_t {bs : Nat} {s : ByteArray} {A B C : World} (h : KpS bs s A B) (k : KpS bs s B C) : KpS bs s A C := fun x => k (h x)
theorem kpS_b {bs : Nat} {s : ByteArray} {w : World} (W : World) (l : Nat) (o o' : Obj) (_ : w.heap.size ≤ l) (h : W.heap[l]? = some o) (ho : o.isCells = false) (_ : o.isWalk = false) : KpS bs s W (W.putObj l o') := fun x =>
  x.kept (grownBy_putObj' W l o') (fun e => by cases e; rw [show W.heap[bs]? = _ from x] at h; cases h; cases ho)
end Go.Proofs.YtgmkmlenhhhgkaaGreat


