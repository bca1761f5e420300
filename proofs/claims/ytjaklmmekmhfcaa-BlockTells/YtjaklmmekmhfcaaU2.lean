/- My texts Wg Wh Wi Wj Ap Mp Pm, joined. -/
import Derived.RangeFuncNested
import Derived.RangeFuncBound
import Derived.RangeFuncCalls
import Derived.RangeFuncLeaves
import Derived.Shelf.Abstract
import Derived.Shelf.RegionOpen
import Derived.WalkKit
import Derived.OwnWalkIn
import Derived.TacticsInMore
import Derived.LoopNIn
import Derived.LoopIn
import Derived.Maps.AppendAt
import Derived.Laws.StructEq
import Derived.Deep.QuietTactic
import Derived.BigQuiet
import Derived.Laws.AppendOwnNone
import Derived.Test.YtjaklmmekmhfcaaU1
/- op.each and its closure: the iterator's contract. -/
namespace Go.Proofs.Ytjaklmmekmhfcaa
open Go.RowKit Go.Shelf
set_option linter.unusedSimpArgs false
set_option linter.unusedVariables false
attribute [local go_sem] Oper.semAt_some
/-- what bytes tell, op by op: each with OK; where there is none, nothing with ErrForm, and no more. -/
def items : Nat → List UInt8 → List ((Int × Int) × Int)
  | 0, _ => []
  | _ + 1, [] => []
  | f + 1, b :: r => match firstOf (b :: r) with
    | none => [((0, 0), 1)]
    | some (o, n) => (o, 0) :: items f ((b :: r).drop n)
theorem items_nil (f : Nat) : items f [] = [] := by cases f <;> rfl
theorem items_none (f : Nat) (l : List UInt8) (h0 : l ≠ []) (h : firstOf l = none) : items (f + 1) l = [((0, 0), 1)] := by
  cases l with
  | nil => exact absurd rfl h0
  | cons b r => simp [items, h]
theorem items_some (f : Nat) (l : List UInt8) (o : Int × Int) (n : Nat) (h : firstOf l = some (o, n)) : items (f + 1) l = (o, 0) :: items f (l.drop n) := by
  cases l with
  | nil => simp [firstOf] at h
  | cons b r => simp [items, h]
theorem firstOf_size (l : List UInt8) (o : Int × Int) (n : Nat) (h : firstOf l = some (o, n)) : 1 ≤ n ∧ n ≤ l.length := by
  cases l with
  | nil => simp [firstOf] at h
  | cons b r =>
    simp only [firstOf] at h
    by_cases h1 : isCode b.toNat = false
    · simp [h1] at h
    · by_cases h2 : hasA b.toNat = true
      · by_cases h3 : r.length < 4
        · simp [h1, h2, h3] at h
        · simp [h1, h2, h3] at h; obtain ⟨_, rfl⟩ := h; simp; omega
      · simp [h1, h2] at h; obtain ⟨_, rfl⟩ := h; simp
theorem grown_of_below {w w' : World} (h : Below w.heap.size w w') : w.grownBy w' none := ⟨h.os, h.tape, h.output, h.size, fun k hk _ => h.block k hk⟩
/-- the box of the text stays as it is. -/
def KpS (bs : Nat) (s : ByteArray) (W W' : World) : Prop := Boxed W bs 9 (.string s) → Boxed W' bs 9 (.string s)
abbrev encsI (x : (Int × Int) × Int) : Array Value := #[.agg #[.int .i64 x.1.1, .int .i64 x.1.2], .int .i64 x.2]
theorem kpS_t {bs : Nat} {s : ByteArray} {A B C : World} (h : KpS bs s A B) (k : KpS bs s B C) : KpS bs s A C := fun x => k (h x)
theorem kpS_b {bs : Nat} {s : ByteArray} {w : World} (W : World) (l : Nat) (o o' : Obj) (_ : w.heap.size ≤ l) (h : W.heap[l]? = some o) (ho : o.isCells = false) (_ : o.isWalk = false) : KpS bs s W (W.putObj l o') := fun x =>
  x.kept (grownBy_putObj' W l o') (fun e => by cases e; rw [show W.heap[bs]? = _ from x] at h; cases h; cases ho)
end Go.Proofs.Ytjaklmmekmhfcaa
/- op.Decode. -/
namespace Go.Proofs.Ytjaklmmekmhfcaa
open Go.RowKit Go.Shelf
set_option linter.unusedSimpArgs false
set_option linter.unusedVariables false
attribute [local go_sem] Oper.semAt_some
/-- what Decode makes of what comes. -/
def dec : List ((Int × Int) × Int) → List (Int × Int) → List (Int × Int) × Int
  | [], acc => (acc, 0)
  | x :: r, acc => if x.2 = 0 then (if acc.length = 40 then ([], 2) else dec r (acc ++ [x.1])) else ([], x.2)
theorem dec_ok (p : List ((Int × Int) × Int)) : ∀ (r : List ((Int × Int) × Int)) (acc : List (Int × Int)), (∀ x ∈ p, x.2 = 0) → acc.length + p.length ≤ 40 → dec (p ++ r) acc = dec r (acc ++ p.map Prod.fst) := by
  induction p with
  | nil => intro r acc _ _; simp
  | cons x q ih =>
    intro r acc h hl
    simp only [List.length_cons] at hl
    rw [List.cons_append, dec, if_pos (h x (by simp)), if_neg (by omega), ih r _ (fun y hy => h y (by simp [hy])) (by simp; omega)]
    simp
/-- where a round has left, and with which errno. -/
def stopErr (pre : List ((Int × Int) × Int)) (er : Int) : Prop := ∃ p x, pre = p ++ [x] ∧ (∀ y ∈ p, y.2 = 0) ∧ p.length ≤ 40 ∧ ((¬ x.2 = 0 ∧ er = x.2) ∨ (x.2 = 0 ∧ p.length = 40 ∧ er = 2))
theorem dec_stop {pre its : List ((Int × Int) × Int)} {er : Int} (h : stopErr pre er) (hp : pre <+: its) : dec its [] = ([], er) := by
  obtain ⟨p, x, rfl, hok, hl, hx⟩ := h
  obtain ⟨t, rfl⟩ := hp
  rw [List.append_assoc, dec_ok p _ _ hok (by simpa using hl)]
  rcases hx with ⟨h1, rfl⟩ | ⟨h1, h2, rfl⟩
  · simp [dec, h1]
  · simp [dec, h1, h2]
/-- the cells of ops. -/
def opCells (l : List (Int × Int)) : List Value := l.flatMap fun o => [.int .i64 o.1, .int .i64 o.2]
theorem opCells_length (l : List (Int × Int)) : (opCells l).length = l.length * 2 := by
  induction l with
  | nil => rfl
  | cons o r ih => simp [opCells] at *; omega
theorem opCells_at (l : List (Int × Int)) : ∀ (k : Nat) (o : Int × Int), l[k]? = some o → (opCells l)[k * 2]? = some (.int .i64 o.1) ∧ (opCells l)[k * 2 + 1]? = some (.int .i64 o.2) := by
  induction l with
  | nil => intro k o h; simp at h
  | cons x r ih =>
    intro k o h
    cases k with
    | zero => simp at h; subst h; simp [opCells]
    | succ k =>
      have := ih k o (by simpa using h)
      rw [show (k + 1) * 2 = k * 2 + 1 + 1 from by omega]
      simpa [opCells] using this
theorem lt_of_at' {α : Type} {l : List α} {k : Nat} {o : α} (h : l[k]? = some o) : k < l.length := (List.getElem?_eq_some_iff.1 h).1
/-- a slice whose memory is from block B on. -/
def NewSl (W : World) (B : Nat) (e : TypeId) (v : Value) : Prop := ∀ a n c, v = .slice (some a) n c → B ≤ a.block ∧ ∃ cs fz, W.heap[a.block]? = some (.cells cs e fz)
theorem newSl_of_row {W : World} {base : Nat} {e : TypeId} {size : Nat} {v : Value} {n : Nat} {xs : List Value} (h : W.ownsRow base e size v n xs) : NewSl W base e v := fun a m c hv => by
  rcases h.2 with ⟨rfl, _⟩ | ⟨g, cap, cur, rfl, hb, hg, _⟩
  · cases hv
  · cases hv; exact ⟨hb, _, _, hg⟩
theorem cell_at' {w : World} {k : Nat} {c : Array Value} {t : TypeId} {fz : Nat × Nat} (h : w.heap[k]? = some (.cells c t fz)) (j : Nat) : w.cell? ⟨k, j, none⟩ = c[j]? := by
  unfold World.cell?; rw [h]; rfl
end Go.Proofs.Ytjaklmmekmhfcaa
/- SameOps of the reference. -/
namespace Go.Proofs.Ytjaklmmekmhfcaa
open Go.RowKit
set_option linter.unusedSimpArgs false
set_option linter.unusedVariables false
end Go.Proofs.Ytjaklmmekmhfcaa
/- opBegun. -/
namespace Go.Proofs.Ytjaklmmekmhfcaa
open Go.RowKit
set_option linter.unusedSimpArgs false
set_option linter.unusedVariables false
/-- the ops of 'loop'. -/
def loopOps : List (Int × Int) := [(1, 3), (3, 0), (20, 0), (1, 1), (6, 0), (3, 0), (11, 8), (10, 1), (2, 0), (13, 0)]
theorem enc_fact : encStr [(1, 3), (3, 0)] = [1, 0, 0, 0, 3, 3] ∧ codeErr [(1, 3), (3, 0)] = 0 := by decide +kernel
theorem dec_fact : dec (items 6 [1, 255, 255, 255, 254, 13]) [] = ([(1, -2), (13, 0)], 0) := by decide +kernel
theorem chk_fact1 : chk 1 3 = 0 := by decide +kernel
theorem chk_fact2 : chk 2 1 = 1 := by decide +kernel
theorem wrap_fact : wrap32 2147483648 = -2147483648 := by decide +kernel
end Go.Proofs.Ytjaklmmekmhfcaa
/- append of code in memory onto a row of the call's own; Encode once more, its text under a name. -/
namespace Go.Proofs.Ytjaklmmekmhfcaa
open Go.RowKit
set_option linter.unusedSimpArgs false
set_option linter.unusedVariables false
/-- a slice without memory has no room. -/
def NilOk (v : Value) : Prop := ∀ n c, v = .slice none n c → c = 0
theorem add_at (b off j : Nat) : (⟨b, off, none⟩ : Addr).add j = ⟨b, off + j, none⟩ := by
  unfold Addr.add; split <;> simp_all
theorem ops_cells {w : World} {p : Option Addr} {n cap : Nat} {l : List (Int × Int)} (h : OpsAt w (.slice p n cap) l) (ad : Addr) (hp : p = some ad) : ∀ (j : Nat) (u : Value), (opCells l)[j]? = some u → w.cell? (ad.add j) = some u := by
  obtain ⟨q, c, he, _, hc⟩ := h
  cases he
  intro j u hj
  have hlt := lt_of_at' hj
  rw [opCells_length] at hlt
  obtain ⟨o, ho⟩ : ∃ o, l[j / 2]? = some o := ⟨l[j / 2]'(by omega), List.getElem?_eq_some_iff.2 ⟨by omega, rfl⟩⟩
  obtain ⟨b, off, hp2, _, h0, h1⟩ := hc _ o ho
  rw [hp] at hp2
  cases hp2
  have hx := opCells_at l _ o ho
  rcases Nat.mod_two_eq_zero_or_one j with hm | hm
  · have e : j / 2 * 2 = j := by omega
    rw [e] at h0 hx
    rw [hx.1] at hj
    cases hj
    rw [add_at]; exact h0
  · have e : j / 2 * 2 + 1 = j := by omega
    have e' : off + j / 2 * 2 + 1 = off + j := by omega
    rw [e] at hx
    rw [e'] at h1
    rw [hx.2] at hj
    cases hj
    rw [add_at]; exact h1
theorem opCells_one (l : List (Int × Int)) : ∀ u ∈ opCells l, u.oneCell' = true := by
  intro u hu
  obtain ⟨o, _, ho⟩ := List.mem_flatMap.1 hu
  simp at ho
  rcases ho with rfl | rfl <;> rfl
end Go.Proofs.Ytjaklmmekmhfcaa
/- Programs in memory. -/
namespace Go.Proofs.Ytjaklmmekmhfcaa
open Go.RowKit
set_option linter.unusedSimpArgs false
set_option linter.unusedVariables false
/-- a function: params, locals, result, code. -/
abbrev Fn := Int × List Int × Int × List (Int × Int)
/-- the slice 'v' holds the ints 'l'. -/
def IntsAt (w : World) (v : Value) (l : List Int) : Prop :=
  ∃ (p : Option Addr) (cap : Nat), v = .slice p l.length cap ∧ l.length ≤ maxLen ∧ ∀ k z, l[k]? = some z →
    ∃ b off, p = some ⟨b, off, none⟩ ∧ b < w.heap.size ∧ w.cell? ⟨b, off + k, none⟩ = some (.int .i64 z)
theorem IntsAt.below {w w' : World} {v : Value} {l : List Int} (h : IntsAt w v l) (hb : Below w.heap.size w w') : IntsAt w' v l := by
  obtain ⟨p, cap, rfl, hm, hc⟩ := h
  refine ⟨p, cap, rfl, hm, fun k o hk => ?_⟩
  obtain ⟨b, off, rfl, hlt, h0⟩ := hc k o hk
  exact ⟨b, off, rfl, Nat.lt_of_lt_of_le hlt hb.size, (hb.cell (p := ⟨b, off + k, none⟩) hlt).trans h0⟩
/-- four cells hold a function. -/
def FnAt (w : World) (c0 c1 c2 c3 : Value) (f : Fn) : Prop := c0 = .int .i64 f.1 ∧ IntsAt w c1 f.2.1 ∧ c2 = .int .i64 f.2.2.1 ∧ OpsAt w c3 f.2.2.2
theorem FnAt.below {w w' : World} {c0 c1 c2 c3 : Value} {f : Fn} (h : FnAt w c0 c1 c2 c3 f) (hb : Below w.heap.size w w') : FnAt w' c0 c1 c2 c3 f :=
  ⟨h.1, h.2.1.below hb, h.2.2.1, h.2.2.2.below hb⟩
/-- the slice 'v' holds the functions 'l'. -/
def FnsAt (w : World) (v : Value) (l : List Fn) : Prop :=
  ∃ (p : Option Addr) (cap : Nat), v = .slice p l.length cap ∧ l.length ≤ maxLen ∧ ∀ k f, l[k]? = some f →
    ∃ b off c0 c1 c2 c3, p = some ⟨b, off, none⟩ ∧ b < w.heap.size ∧ w.cell? ⟨b, off + k * 4, none⟩ = some c0 ∧ w.cell? ⟨b, off + k * 4 + 1, none⟩ = some c1 ∧ w.cell? ⟨b, off + k * 4 + 2, none⟩ = some c2 ∧ w.cell? ⟨b, off + k * 4 + 3, none⟩ = some c3 ∧ FnAt w c0 c1 c2 c3 f
theorem FnsAt.below {w w' : World} {v : Value} {l : List Fn} (h : FnsAt w v l) (hb : Below w.heap.size w w') : FnsAt w' v l := by
  obtain ⟨p, cap, rfl, hm, hc⟩ := h
  refine ⟨p, cap, rfl, hm, fun k f hk => ?_⟩
  obtain ⟨b, off, c0, c1, c2, c3, rfl, hlt, h0, h1, h2, h3, hf⟩ := hc k f hk
  exact ⟨b, off, c0, c1, c2, c3, rfl, Nat.lt_of_lt_of_le hlt hb.size, (hb.cell (p := ⟨b, off + k * 4, none⟩) hlt).trans h0, (hb.cell (p := ⟨b, off + k * 4 + 1, none⟩) hlt).trans h1, (hb.cell (p := ⟨b, off + k * 4 + 2, none⟩) hlt).trans h2, (hb.cell (p := ⟨b, off + k * 4 + 3, none⟩) hlt).trans h3, hf.below hb⟩
theorem neq_int_false {a b : Int} (h : a = b) : (a != b) = false := by simp [h]
theorem neq_int_true {a b : Int} (h : ¬ a = b) : (a != b) = true := by simp [h]
set_option maxHeartbeats 1000000 in
theorem sameInts_any (l m : List Int) (v u : Value) (w : World) (hl : IntsAt w v l) (hm : IntsAt w u m) : Calls Try.prog 21 #[v, u] w fun e w' => e = .returned (.bool (decide (l = m))) ∧ Below w.heap.size w w' := by
  obtain ⟨p, cap, rfl, hlm, hc⟩ := hl
  obtain ⟨q, cap', rfl, hmm, hd⟩ := hm
  unfold maxLen at hlm hmm
  by_cases hlen : l.length = m.length
  · have hlen' : ((l.length : Int) != (m.length : Int)) = false := by simp; omega
    have HLEN : Hid (l.length = m.length) := hlen
    have HC : Hid (∀ k z, l[k]? = some z → ∃ b off, p = some ⟨b, off, none⟩ ∧ b < w.heap.size ∧ w.cell? ⟨b, off + k, none⟩ = some (.int .i64 z)) := hc
    have HD : Hid (∀ k z, m[k]? = some z → ∃ b off, q = some ⟨b, off, none⟩ ∧ b < w.heap.size ∧ w.cell? ⟨b, off + k, none⟩ = some (.int .i64 z)) := hd
    clear hc hd hlen
    go_enter Try.func21, Try.ntmps21
    go_wp2
    go_loopw [5] (fun i wr => ∃ k : Nat, k ≤ l.length ∧ i = .int .i64 k ∧ l.take k = m.take k ∧ Below w.heap.size w wr) (fun i _ => l.length - (intOf i).toNat)
    case atStart => exact ⟨0, Nat.zero_le _, rfl, by simp, Below.refl _ _⟩
    case round =>
      obtain ⟨k, hk, rfl, htk, hbw⟩ := hrel
      have HT : Hid (l.take k = m.take k) := htk
      clear htk
      by_cases hlt : k < l.length
      · have hlt2 : k < m.length := by have := HLEN.out; omega
        obtain ⟨x, ho⟩ := at_of_lt hlt
        obtain ⟨y, ho'⟩ := at_of_lt hlt2
        obtain ⟨b, off, rfl, hb, h0⟩ := HC.out k _ ho
        obtain ⟨b', off', rfl, hb', h0'⟩ := HD.out k _ ho'
        have g0 := (hbw.cell (p := ⟨b, off + k, none⟩) hb).trans h0
        have g0' := (hbw.cell (p := ⟨b', off' + k, none⟩) hb').trans h0'
        have hlti : (k : Int) < (l.length : Int) := by omega
        have hlti2 : (k : Int) < (m.length : Int) := by omega
        have HO : Hid (l[k]? = some x) := ho
        have HO' : Hid (m[k]? = some y) := ho'
        clear ho ho' h0 h0'
        by_cases he : x = y
        · have hne := neq_int_false he
          have HE : Hid (x = y) := he
          clear he
          go_wp2
          go_quiet (fail)
          go_wp2
          go_roundw
          case rel => exact ⟨k + 1, by omega, by go_num, by rw [take_snoc l k _ HO.out, take_snoc m k _ HO'.out, HT.out, HE.out], below_drewN hbw _⟩
          case measure => simp [intOf]; omega
        · have hne := neq_int_true he
          have HE : Hid (¬ x = y) := he
          clear he
          go_wp2
          go_quiet (fail)
          go_wp2
          go_ret
          refine ⟨?_, below_drewN hbw _⟩
          have : ¬ l = m := fun h => by
            have h1 := HO.out
            rw [h, HO'.out] at h1
            simp at h1
            exact HE.out h1.symm
          simp [this]
      · have hlt' : ¬ (k : Int) < (l.length : Int) := by omega
        go_wp2
        go_ret
        refine ⟨?_, hbw⟩
        have : l = m := by
          have h := HT.out
          rwa [List.take_of_length_le (by omega), List.take_of_length_le (by have := HLEN.out; omega)] at h
        simp [this]
  · have hlen' : ((l.length : Int) != (m.length : Int)) = true := by simp; omega
    have hne : ¬ l = m := fun h => hlen (by rw [h])
    clear hc hd
    have HN : Hid (¬ l = m) := hne
    clear hne hlen
    go_enter Try.func21, Try.ntmps21
    go_wp2
    go_ret
    exact ⟨by simp [HN.out], Below.refl _ _⟩
end Go.Proofs.Ytjaklmmekmhfcaa
/- What is encoded is decoded as it was, and what is decoded is encoded as it was: of the plain functions. -/
namespace Go.Proofs.Ytjaklmmekmhfcaa
open Go.RowKit
set_option linter.unusedSimpArgs false
set_option linter.unusedVariables false
theorem byteOf_toNat (z : Int) : ((byteOf z).toNat : Int) = z % 256 := by
  have h : (byteOf z).toNat = (z % 256).toNat := by unfold byteOf; rw [UInt8.toNat_ofNat']; omega
  rw [h]; omega
theorem byteOf_eq (z : Int) (b : UInt8) (h : z % 256 = (b.toNat : Int)) : byteOf z = b := by
  apply UInt8.toNat_inj.1
  have := byteOf_toNat z
  omega
theorem chk_zero {c a : Int} (h : chk c a = 0) : isCode c = true ∧ (hasA c = false → a = 0) ∧ -2147483648 ≤ a ∧ a ≤ 2147483647 := by
  unfold chk at h
  by_cases h1 : isCode c = false
  · simp [h1] at h
  · by_cases h2 : hasA c = false ∧ a ≠ 0
    · simp [h1, h2] at h
    · by_cases h3 : isI32 a = false
      · rw [if_neg h1, if_neg h2, if_pos h3] at h; omega
      · refine ⟨by simpa using h1, fun hh => ?_, ?_⟩
        · by_cases h0 : a = 0
          · exact h0
          · exact absurd ⟨hh, h0⟩ h2
        · simp [isI32] at h3; exact h3
theorem chk_zero_mk {c a : Int} (h1 : isCode c = true) (h2 : hasA c = false → a = 0) (h3 : -2147483648 ≤ a) (h4 : a ≤ 2147483647) : chk c a = 0 := by
  unfold chk
  rw [if_neg (by simp [h1]), if_neg (fun h => h.2 (h2 h.1)), if_neg (by simp [isI32, h3, h4])]
theorem code_byte {c : Int} (h : isCode c = true) : ((byteOf c).toNat : Int) = c := by
  simp [isCode] at h; rw [byteOf_toNat]; omega
theorem num_four (a : Int) (h1 : -2147483648 ≤ a) (h2 : a ≤ 2147483647) : wrap32 (numOf [byteOf (a / 16777216), byteOf (a / 65536), byteOf (a / 256), byteOf a]) = a := by
  have e0 := byteOf_toNat (a / 16777216)
  have e1 := byteOf_toNat (a / 65536)
  have e2 := byteOf_toNat (a / 256)
  have e3 := byteOf_toNat a
  have e : ((numOf [byteOf (a / 16777216), byteOf (a / 65536), byteOf (a / 256), byteOf a] : Nat) : Int) = 256 * (256 * (256 * ((byteOf (a / 16777216)).toNat : Int) + ((byteOf (a / 65536)).toNat : Int)) + ((byteOf (a / 256)).toNat : Int)) + ((byteOf a).toNat : Int) := by simp [numOf]
  rw [e, e0, e1, e2, e3]
  unfold wrap32
  omega
theorem four_num (b3 b2 b1 b0 : UInt8) : [byteOf (wrap32 (numOf [b3, b2, b1, b0]) / 16777216), byteOf (wrap32 (numOf [b3, b2, b1, b0]) / 65536), byteOf (wrap32 (numOf [b3, b2, b1, b0]) / 256), byteOf (wrap32 (numOf [b3, b2, b1, b0]))] = [b3, b2, b1, b0] := by
  have e : ((numOf [b3, b2, b1, b0] : Nat) : Int) = 256 * (256 * (256 * (b3.toNat : Int) + (b2.toNat : Int)) + (b1.toNat : Int)) + (b0.toNat : Int) := by simp [numOf]
  have h3 := b3.toNat_lt
  have h2 := b2.toNat_lt
  have h1 := b1.toNat_lt
  have h0 := b0.toNat_lt
  rw [e]
  unfold wrap32
  rw [byteOf_eq _ b3 (by omega), byteOf_eq _ b2 (by omega), byteOf_eq _ b1 (by omega), byteOf_eq _ b0 (by omega)]
theorem wrap32_range (n : Int) : -2147483648 ≤ wrap32 n ∧ wrap32 n ≤ 2147483647 := by unfold wrap32; omega
/-- the bytes of an op that is right tell it. -/
theorem firstOf_bytes (o : Int × Int) (r : List UInt8) (h : chk o.1 o.2 = 0) : firstOf (opBytes o ++ r) = some (o, (opBytes o).length) := by
  obtain ⟨c, a⟩ := o
  obtain ⟨h1, h2, h3, h4⟩ := chk_zero h
  have hc := code_byte h1
  simp only at h1 h2 h3 h4 hc
  cases hh : hasA c
  · simp [opBytes, hh, firstOf, hc, h1, h2 hh]
  · have := num_four a h3 h4
    simp [opBytes, hh, firstOf, hc, h1, this]
/-- an op that bytes tell is right, and its bytes are they. -/
theorem bytes_firstOf (l : List UInt8) (o : Int × Int) (n : Nat) (h : firstOf l = some (o, n)) : chk o.1 o.2 = 0 ∧ opBytes o ++ l.drop n = l := by
  cases l with
  | nil => simp [firstOf] at h
  | cons b r =>
    simp only [firstOf] at h
    have hb : byteOf (b.toNat : Int) = b := byteOf_eq _ b (by have := b.toNat_lt; omega)
    by_cases h1 : isCode b.toNat = false
    · simp [h1] at h
    · have h1' : isCode b.toNat = true := by simpa using h1
      by_cases h2 : hasA b.toNat = true
      · by_cases h3 : r.length < 4
        · simp [h1, h2, h3] at h
        · simp only [h1, h2, h3, if_false, if_true, Option.some.injEq, Prod.mk.injEq] at h
          obtain ⟨rfl, rfl⟩ := h
          match r, h3 with
          | b3 :: b2 :: b1 :: b0 :: r', _ =>
            have hw := wrap32_range (numOf [b3, b2, b1, b0])
            have hf := four_num b3 b2 b1 b0
            simp only [List.cons.injEq, and_true] at hf
            refine ⟨chk_zero_mk h1' (fun hh => by rw [h2] at hh; cases hh) hw.1 hw.2, ?_⟩
            simp [opBytes, h2, hb, hf]
          | [], h3 => simp at h3
          | [_], h3 => simp at h3
          | [_, _], h3 => simp at h3
          | [_, _, _], h3 => simp at h3
      · simp only [h1, h2, if_false, Option.some.injEq, Prod.mk.injEq] at h
        obtain ⟨rfl, rfl⟩ := h
        refine ⟨chk_zero_mk h1' (fun _ => rfl) (by omega) (by omega), ?_⟩
        simp [opBytes, h2, hb]
theorem items_codeBytes (l : List (Int × Int)) : ∀ f, (codeBytes l).length ≤ f → (∀ o ∈ l, chk o.1 o.2 = 0) → items f (codeBytes l) = l.map fun o => (o, 0) := by
  induction l with
  | nil => intro f _ _; simp [codeBytes, items_nil]
  | cons o r ih =>
    intro f hf h
    have he : codeBytes (o :: r) = opBytes o ++ codeBytes r := by simp [codeBytes]
    have h1 := firstOf_bytes o (codeBytes r) (h o (by simp))
    have hl : 1 ≤ (opBytes o).length := by simp [opBytes]
    rw [he] at hf ⊢
    rw [List.length_append] at hf
    obtain ⟨g, rfl⟩ : ∃ g, f = g + 1 := ⟨f - 1, by omega⟩
    rw [items_some g _ _ _ h1, List.drop_left, ih g (by omega) fun x hx => h x (by simp [hx])]
    rfl
theorem map_ok (l : List (Int × Int)) : ∀ x ∈ l.map (fun o => (o, (0 : Int))), x.2 = 0 := by
  intro x hx
  obtain ⟨o, _, rfl⟩ := List.mem_map.1 hx
  rfl
theorem dec_map (l : List (Int × Int)) (h : l.length ≤ 40) : dec (l.map fun o => (o, 0)) [] = (l, 0) := by
  have := dec_ok (l.map fun o => (o, (0 : Int))) [] [] (map_ok l) (by simpa using h)
  simpa [dec, Function.comp_def] using this
theorem firstErr_zero (l : List (Int × Int)) (h : firstErr l = 0) : ∀ o ∈ l, chk o.1 o.2 = 0 := by
  induction l with
  | nil => intro o ho; simp at ho
  | cons x r ih =>
    intro o ho
    rw [firstErr] at h
    by_cases hx : chk x.1 x.2 = 0
    · rw [if_pos hx] at h
      rcases List.mem_cons.1 ho with rfl | ho
      · exact hx
      · exact ih h o ho
    · rw [if_neg hx] at h; exact absurd h hx
theorem codeErr_zero (l : List (Int × Int)) (h : codeErr l = 0) : l.length ≤ 40 ∧ ∀ o ∈ l, chk o.1 o.2 = 0 := by
  unfold codeErr at h
  by_cases h4 : 40 < l.length
  · simp [h4] at h
  · rw [if_neg h4] at h; exact ⟨by omega, firstErr_zero l h⟩
/-- WHAT IS ENCODED IS DECODED AS IT WAS. -/
theorem dec_enc (l : List (Int × Int)) (f : Nat) (hf : (codeBytes l).length ≤ f) (h : codeErr l = 0) : dec (items f (codeBytes l)) [] = (l, 0) := by
  obtain ⟨h1, h2⟩ := codeErr_zero l h
  rw [items_codeBytes l f hf h2, dec_map l h1]
theorem items_all (f : Nat) : ∀ (s : List UInt8), s.length ≤ f → ∃ l, (∀ o ∈ l, chk o.1 o.2 = 0) ∧ ((items f s = l.map (fun o => (o, 0)) ∧ codeBytes l = s) ∨ items f s = l.map (fun o => (o, 0)) ++ [((0, 0), 1)]) := by
  induction f with
  | zero =>
    intro s hs
    have : s = [] := List.length_eq_zero_iff.1 (by omega)
    exact ⟨[], by simp, .inl ⟨by simp [items], by simp [codeBytes, this]⟩⟩
  | succ f ih =>
    intro s hs
    by_cases h0 : s = []
    · subst h0; exact ⟨[], by simp, .inl ⟨by simp [items_nil], by simp [codeBytes]⟩⟩
    · cases hf : firstOf s with
      | none => exact ⟨[], by simp, .inr (by rw [items_none f s h0 hf]; simp)⟩
      | some p =>
        obtain ⟨o, n⟩ := p
        obtain ⟨hn1, hn2⟩ := firstOf_size s o n hf
        obtain ⟨hc, hb⟩ := bytes_firstOf s o n hf
        obtain ⟨l, hl, hx⟩ := ih (s.drop n) (by rw [List.length_drop]; omega)
        refine ⟨o :: l, fun x hx => ?_, ?_⟩
        · rcases List.mem_cons.1 hx with rfl | hx
          · exact hc
          · exact hl x hx
        · rw [items_some f s o n hf]
          rcases hx with ⟨h1, h2⟩ | h1
          · refine .inl ⟨by rw [h1]; rfl, ?_⟩
            rw [show codeBytes (o :: l) = opBytes o ++ codeBytes l from by simp [codeBytes], h2, hb]
          · exact .inr (by rw [h1]; rfl)
theorem dec_many (l : List (Int × Int)) (t : List ((Int × Int) × Int)) (h : 40 < l.length) : dec (l.map (fun o => (o, 0)) ++ t) [] = ([], 2) := by
  have e : l.map (fun o => (o, (0 : Int))) ++ t = (l.take 40).map (fun o => (o, (0 : Int))) ++ ((l.drop 40).map (fun o => (o, (0 : Int))) ++ t) := by
    rw [← List.append_assoc, ← List.map_append, List.take_append_drop]
  rw [e, dec_ok _ _ _ (map_ok _) (by simp; omega)]
  cases hd : l.drop 40 with
  | nil => have := congrArg List.length hd; simp at this; omega
  | cons x r =>
    simp [dec]
    intro hh
    omega
/-- WHAT IS DECODED IS ENCODED AS IT WAS; beside an error nothing comes. -/
theorem enc_dec (f : Nat) (s : List UInt8) (hf : s.length ≤ f) : ((dec (items f s) []).2 ≠ 0 ∧ (dec (items f s) []).1 = []) ∨ ((dec (items f s) []).2 = 0 ∧ codeErr (dec (items f s) []).1 = 0 ∧ codeBytes (dec (items f s) []).1 = s) := by
  obtain ⟨l, hl, ⟨h1, h2⟩ | h1⟩ := items_all f s hf
  · rw [h1]
    by_cases h4 : l.length ≤ 40
    · rw [dec_map l h4]
      exact .inr ⟨rfl, by show codeErr l = 0; unfold codeErr; rw [if_neg (by omega), firstErr_all l hl], h2⟩
    · have := dec_many l [] (by omega)
      rw [List.append_nil] at this
      rw [this]; exact .inl ⟨by simp, rfl⟩
  · rw [h1]
    by_cases h4 : l.length ≤ 40
    · rw [dec_ok _ _ _ (map_ok l) (by simpa using h4)]
      exact .inl ⟨by simp [dec], by simp [dec]⟩
    · rw [dec_many l _ (by omega)]; exact .inl ⟨by simp, rfl⟩
theorem codeBytes_append (l m : List (Int × Int)) : codeBytes (l ++ m) = codeBytes l ++ codeBytes m := by simp [codeBytes]
end Go.Proofs.Ytjaklmmekmhfcaa
