/- My texts Vf Vg Pf Fa Shelf2, joined. -/
import Derived.Deep.RegionHeld3
import Derived.Deep.RegionLaw
import Derived.Shelf.Sort.Plain
import Derived.Ground.Names2Prog
import Derived.Shelf.Slices.CompactI
import Derived.Test.YtjmpbnfkiikiaaaProg
import Derived.Test.YtjmpbnfkiikiaaaU2
import Derived.Test.YtjmpbnfkiikiaaaU3
/- The reader: take, number. -/
namespace Go.Proofs.Ytjmpbnfkiikiaaa
open Go.RowKit
set_option linter.unusedSimpArgs false
set_option linter.unusedVariables false
/-- what a reader has left; none, once there were too few. -/
abbrev Rd := Option (List UInt8)
/-- so many bytes from the front. -/
def takeR : Rd → Nat → List UInt8 × Rd
  | none, _ => ([], none)
  | some r, n => if n ≤ r.length then (r.take n, some (r.drop n)) else ([], none)
theorem grown_set (W : World) (b j : Nat) (v : Value) : W.grownBy (W.setCell ⟨b, j, none⟩ v) (some b) :=
  ⟨rfl, rfl, rfl, by simp, fun k _ hk => Below.heap_setCell _ _ _ _ (fun e => hk (by rw [e]))⟩
theorem extract_list (X : ByteArray) (a b : Nat) : (X.extract a b).data.toList = (X.data.toList.drop a).take (b - a) := Lib.extract_data X a b
end Go.Proofs.Ytjmpbnfkiikiaaa
/- readFunc. -/
namespace Go.Proofs.Ytjmpbnfkiikiaaa
open Go.RowKit
set_option linter.unusedSimpArgs false
set_option linter.unusedVariables false
/-- so many numbers of one byte. -/
def readLocs : Nat → Rd → List Int × Rd
  | 0, st => ([], st)
  | n + 1, st => ((readLocs n st).1 ++ [((numOf (takeR (readLocs n st).2 1).1 : Nat) : Int)], (takeR (readLocs n st).2 1).2)
theorem readLocs_length (n : Nat) (st : Rd) : (readLocs n st).1.length = n := by
  induction n with
  | zero => rfl
  | succ n ih => simp [readLocs, ih]
/-- a function, whether its code was told, and what is left. -/
def readFn (st : Rd) : Fn × Bool × Rd :=
  let a := takeR st 1
  let c := takeR a.2 1
  let ls := readLocs (numOf c.1) c.2
  let d := takeR ls.2 1
  let e := takeR d.2 2
  let g := takeR e.2 (numOf e.1)
  let x := dec (items g.1.length g.1) []
  ((((numOf a.1 : Nat) : Int), ls.1, ((numOf d.1 : Nat) : Int), x.1), (decide (x.2 = 0) && g.2.isSome), g.2)
theorem step_append_row {P : Program} {ops : Array Oper} {o : Oper} {a : Act} {w : World} {K : Act → World → Prop} {Q : Exit → Act → World → Prop} {E : Prop}
    (hg : o.guard = none) (s x : Operand) (t : TypeId) (hop : o.op = Op.call { callee := Callee.builtin Builtin.append, args := #[s, x], argTypes := #[t, t] })
    (base : Nat) (e : TypeId) (i : TypeInfo) (z : Value) (size bytes : Nat) (h1 : P.underlying t = some (.slice e)) (h2 : P.info? e = some i) (h3 : i.zero = some z) (h4 : i.size = size) (h5 : i.bytes = bytes) (h6 : z.cells.size = size) (h7 : 0 < size)
    (v : Value) (n : Nat) (xs : List Value) (hs : a.eval s = v) (hown : w.ownsRow base e size v n xs)
    (ad : Addr) (m c : Nat) (news : List Value) (hx : a.eval x = .slice (some ad) m c) (hn : news.length = m * size) (hc : ∀ j u, news[j]? = some u → w.cell? (ad.add j) = some u) (h1c : ∀ u ∈ news, u.oneCell' = true)
    (b1 : n + m ≤ maxLen) (b2 : (n + m) * bytes ≤ 140737488355328) (hbase : base ≤ w.heap.size)
    (hK : ∀ v' w', w'.ownsRow base e size v' (n + m) (xs ++ news) → w.grownBy w' v.ownBlock → K (a.put o.dst v') w') :
    if Region.wanted o (yielded ops a.tmps) = true then Oper.wp P o a w K Q else E := by
  have hw : Region.wanted o (yielded ops a.tmps) = true := by simp [Region.wanted, hg]
  rw [if_pos hw]
  obtain ⟨v', w', hrun, r1, r2, _⟩ := run_append_own (P := P) w base t o.type e i z size bytes h1 h2 h3 h4 h5 h6 h7 v n xs hown ad m c news hn hc h1c b1 b2 hbase
  unfold Oper.wp
  simp [execOp, hop, resolve, invoke, builtin, hs, hx, hrun, Result.andThen]
  exact hK v' w' r1 r2
theorem hideP {p : Prop} (h : p) : Hid p := h
theorem row_shp {w : World} {base : Nat} {e : TypeId} {size : Nat} {v : Value} {n : Nat} {xs : List Value} (h : w.ownsRow base e size v n xs) : ∃ p cap, v = .slice p n cap := by
  rcases h.2 with ⟨rfl, h0⟩ | ⟨g, cap, cur, rfl, _⟩
  · exact ⟨none, 0, by rw [h0]⟩
  · exact ⟨_, _, rfl⟩
theorem cell_old {w : World} {a : Addr} {v : Value} (h : w.cell? a = some v) (o : Obj) : (w.alloc o).cell? a = some v := by
  have hlt : a.block < w.heap.size := by
    rcases Nat.lt_or_ge a.block w.heap.size with h' | h'
    · exact h'
    · simp [World.cell?, Array.getElem?_eq_none h'] at h
  exact (World.cell?_of_block (w := w) (Below.heap_alloc w o a.block hlt)).trans h
theorem drew_grown (w : World) : w.grownBy w.drew none := ⟨rfl, rfl, rfl, Nat.le_refl _, fun _ _ _ => rfl⟩
theorem drew_grown' (w : World) (b : Nat) : w.grownBy w.drew (some b) := ⟨rfl, rfl, rfl, Nat.le_refl _, fun _ _ _ => rfl⟩
theorem grown_high {w W W' : World} {b : Nat} {row : Option Nat} (h : w.grownBy W (some b)) (k : W.grownBy W' row) (hr : ∀ j, row = some j → w.heap.size ≤ j) : w.grownBy W' (some b) :=
  ⟨k.os.trans h.os, k.tape.trans h.tape, k.output.trans h.output, Nat.le_trans h.size k.size, fun j hj hne => (k.block j (Nat.lt_of_lt_of_le hj h.size) (fun e => by have := hr j e.symm; omega)).trans (h.block j hj hne)⟩
theorem row_not {w : World} {base : Nat} {e t : TypeId} {size : Nat} {v : Value} {n : Nat} {xs : List Value} {c : Array Value} {fz : Nat × Nat} {k : Nat} (h : w.ownsRow base e size v n xs) (hk : w.heap[k]? = some (.cells c t fz)) (hte : t ≠ e) : (some k : Option Nat) ≠ v.ownBlock := fun e1 => by
  rcases h.2 with ⟨hv, _⟩ | ⟨g, cap, cur, hv, hbg, hgg, _⟩
  · rw [hv] at e1; simp [Value.ownBlock] at e1
  · rw [hv] at e1
    obtain rfl : k = g := by simpa [Value.ownBlock] using e1
    rw [hk] at hgg; cases hgg; exact hte rfl
theorem intsAt_of_row {W : World} {base : Nat} {v : Value} {l : List Int} {n : Nat} (hn : n = l.length) (h : W.ownsRow base 3 1 v n (l.map (Value.int .i64))) : IntsAt W v l := by
  subst hn
  rcases h.2 with ⟨rfl, h0⟩ | ⟨g, cap, cur, rfl, hb, hg, hn, hc, hs, ht⟩
  · refine ⟨none, 0, by rw [h0], by rw [h0]; exact Nat.zero_le _, fun k o hk => ?_⟩
    have := lt_of_at' hk
    omega
  · refine ⟨_, cap, rfl, by omega, fun k o hk => ⟨g, 0, rfl, (Array.getElem?_eq_some_iff.1 hg).1, ?_⟩⟩
    have hk2 := lt_of_at' hk
    have : (l.map (Value.int .i64))[k]? = some (.int .i64 o) := by simp [hk]
    rw [← ht, List.getElem?_take_of_lt (by omega)] at this
    rw [cell_at' hg]; simpa using this
theorem newSl_block {W W' : World} {B : Nat} {e : TypeId} {v : Value} {row : Option Nat} (h : NewSl W B e v) (hg : W.grownBy W' row) (he : ∀ r, row = some r → ∃ cs t fz, W.heap[r]? = some (.cells cs t fz) ∧ t ≠ e) {a : Addr} {n c : Nat} (hv : v = .slice (some a) n c) : W'.heap[a.block]? = W.heap[a.block]? := by
  obtain ⟨_, cs, fz, hh⟩ := h a n c hv
  refine hg.block _ (heap_lt hh) (fun e1 => ?_)
  obtain ⟨cs', t', fz', h1, h2⟩ := he _ e1.symm
  rw [hh] at h1; cases h1; exact h2 rfl
theorem NewSl.kept {W W' : World} {B : Nat} {e : TypeId} {v : Value} {row : Option Nat} (h : NewSl W B e v) (hg : W.grownBy W' row) (he : ∀ r, row = some r → ∃ cs t fz, W.heap[r]? = some (.cells cs t fz) ∧ t ≠ e) : NewSl W' B e v := fun a n c hv => by
  obtain ⟨h1, cs, fz, hh⟩ := h a n c hv
  exact ⟨h1, cs, fz, (newSl_block h hg he hv).trans hh⟩
theorem NewSl.low {W : World} {B B' : Nat} {e : TypeId} {v : Value} (h : NewSl W B e v) (hB : B' ≤ B) : NewSl W B' e v := fun a n c hv => ⟨Nat.le_trans hB (h a n c hv).1, (h a n c hv).2⟩
theorem infoInt : (Try.prog.info? 3).map (fun i => (i.zero, i.size, i.bytes)) = some (some (.int .i64 0), 1, 8) := by kernel_rfl
theorem takeR_len (st : Rd) (n : Nat) : (takeR st n).1.length ≤ n := by
  cases st with
  | none => simp [takeR]
  | some r => simp only [takeR]; split <;> simp; omega
theorem numOf_one (st : Rd) : numOf (takeR st 1).1 ≤ 255 := by
  have h := takeR_len st 1
  have := numOf_lt (takeR st 1).1
  have h2 : 256 ^ (takeR st 1).1.length ≤ 256 ^ 1 := Nat.pow_le_pow_right (by omega) h
  omega
theorem numOf_two (st : Rd) : numOf (takeR st 2).1 ≤ 65535 := by
  have h := takeR_len st 2
  have := numOf_lt (takeR st 2).1
  have h2 : 256 ^ (takeR st 2).1.length ≤ 256 ^ 2 := Nat.pow_le_pow_right (by omega) h
  omega
end Go.Proofs.Ytjmpbnfkiikiaaa
/- Plain functions on where code goes on (chapter 3), ahead of stage 2: what Next, Back and Reach should tell, and how a set of places is known to be Reach's. -/
namespace Go.Proofs.Ytjmpbnfkiikiaaa
open Go.RowKit
set_option linter.unusedSimpArgs false
set_option linter.unusedVariables false
/-- may it go on at 'to' behind the op at pc? -/
def goesOn (code : List (Int × Int)) (pc to : Nat) : Bool :=
  match code[pc]? with
  | none => false
  | some o => if o.1 = 13 then false else if o.1 = 10 then decide ((to : Int) = o.2) else if o.1 = 11 then decide (to = pc + 1) || decide ((to : Int) = o.2) else decide (to = pc + 1)
/-- is A of a jump or a zero no op's place? -/
def badTo (n : Nat) (o : Int × Int) : Bool := (o.1 == 10 || o.1 == 11) && !(decide (0 ≤ o.2) && decide (o.2 < (n : Int)))
/-- C1's errno of code. -/
def flowErr (code : List (Int × Int)) : Int := if codeErr code ≠ 0 then codeErr code else if code.length = 0 then 5 else if code.any (badTo code.length) = true then 3 else 0
def nextErr (code : List (Int × Int)) (pc : Int) : Int := if flowErr code ≠ 0 then flowErr code else if pc < 0 ∨ (code.length : Int) ≤ pc then 3 else 0
def backErr (code : List (Int × Int)) (pc : Int) : Int := if flowErr code ≠ 0 then flowErr code else if pc < 0 ∨ (code.length : Int) < pc then 3 else 0
def nextL (code : List (Int × Int)) (pc : Nat) : List Nat := (List.range (code.length + 1)).filter (goesOn code pc)
def backL (code : List (Int × Int)) (to : Nat) : List Nat := (List.range code.length).filter fun pc => goesOn code pc to
/-- may a place be come to? -/
inductive Come (code : List (Int × Int)) : Nat → Prop
  | zero : Come code 0
  | step {pc to : Nat} : Come code pc → goesOn code pc to = true → Come code to
open Classical in
noncomputable def reachL (code : List (Int × Int)) : List Nat := (List.range (code.length + 1)).filter fun x => decide (Come code x)
theorem goesOn_lt {code : List (Int × Int)} {pc to : Nat} (h : goesOn code pc to = true) : pc < code.length := by
  rcases Nat.lt_or_ge pc code.length with h' | h'
  · exact h'
  · simp [goesOn, List.getElem?_eq_none h'] at h
theorem flowErr_zero {code : List (Int × Int)} (h : flowErr code = 0) : codeErr code = 0 ∧ code.length ≠ 0 ∧ ∀ o ∈ code, badTo code.length o = false := by
  unfold flowErr at h
  by_cases h1 : codeErr code = 0
  · rw [if_neg (by simp [h1])] at h
    by_cases h2 : code.length = 0
    · rw [if_pos h2] at h; cases h
    · rw [if_neg h2] at h
      by_cases h3 : code.any (badTo code.length) = true
      · rw [if_pos h3] at h; cases h
      · refine ⟨h1, h2, fun o ho => ?_⟩
        cases hb : badTo code.length o
        · rfl
        · exact absurd (List.any_eq_true.2 ⟨o, ho, hb⟩) h3
  · rw [if_pos h1] at h; exact absurd h h1
/-- it goes on within the code, or at its end. -/
theorem goesOn_le {code : List (Int × Int)} (hc : ∀ o ∈ code, badTo code.length o = false) {pc to : Nat} (h : goesOn code pc to = true) : to ≤ code.length := by
  have hp := goesOn_lt h
  have ho := List.getElem?_eq_getElem hp
  have hb := hc _ (List.getElem_mem hp)
  simp only [goesOn, ho] at h
  by_cases h13 : code[pc].1 = 13
  · simp [h13] at h
  rw [if_neg h13] at h
  by_cases h10 : code[pc].1 = 10
  · rw [if_pos h10] at h
    simp [badTo, h10] at hb h
    omega
  rw [if_neg h10] at h
  by_cases h11 : code[pc].1 = 11
  · rw [if_pos h11] at h
    simp [badTo, h11] at hb h
    omega
  · rw [if_neg h11] at h
    simp at h
    omega
theorem come_le {code : List (Int × Int)} (hc : ∀ o ∈ code, badTo code.length o = false) {x : Nat} (h : Come code x) : x ≤ code.length := by
  cases h with
  | zero => omega
  | step _ h2 => exact goesOn_le hc h2
/-- a set of places that has 0, that only has what may be come to, and that is left nowhere, has all. -/
theorem come_iff {code : List (Int × Int)} (M : Nat → Prop) (h0 : M 0) (hs : ∀ x, M x → Come code x) (hc : ∀ pc to, M pc → goesOn code pc to = true → M to) (x : Nat) : M x ↔ Come code x := by
  refine ⟨hs x, fun h => ?_⟩
  induction h with
  | zero => exact h0
  | step _ h2 ih => exact hc _ _ ih h2
/-- C2. -/
theorem come_from {code : List (Int × Int)} {x : Nat} (h : Come code x) : x = 0 ∨ ∃ pc, Come code pc ∧ goesOn code pc x = true := by
  cases h with
  | zero => exact .inl rfl
  | step h1 h2 => exact .inr ⟨_, h1, h2⟩
theorem mem_nextL {code : List (Int × Int)} (hc : ∀ o ∈ code, badTo code.length o = false) {pc to : Nat} : to ∈ nextL code pc ↔ goesOn code pc to = true := by
  simp only [nextL, List.mem_filter, List.mem_range]
  exact ⟨fun h => h.2, fun h => ⟨by have := goesOn_le hc h; omega, h⟩⟩
theorem mem_backL {code : List (Int × Int)} {pc to : Nat} : pc ∈ backL code to ↔ goesOn code pc to = true := by
  simp only [backL, List.mem_filter, List.mem_range]
  exact ⟨fun h => h.2, fun h => ⟨goesOn_lt h, h⟩⟩
theorem mem_reachL {code : List (Int × Int)} (hc : ∀ o ∈ code, badTo code.length o = false) {x : Nat} : x ∈ reachL code ↔ Come code x := by
  simp only [reachL, List.mem_filter, List.mem_range, decide_eq_true_eq]
  exact ⟨fun h => h.2, fun h => ⟨by have := come_le hc h; omega, h⟩⟩
open Classical in
/-- .. as lists: what tells the places of a set, rising, is Reach's. -/
theorem reachL_eq {code : List (Int × Int)} (M : Nat → Bool) (h0 : M 0 = true) (hs : ∀ x, M x = true → Come code x) (hc : ∀ pc to, M pc = true → goesOn code pc to = true → M to = true) : (List.range (code.length + 1)).filter M = reachL code := by
  unfold reachL
  refine List.filter_congr fun x _ => ?_
  have := come_iff (fun x => M x = true) h0 hs hc x
  rw [Bool.eq_iff_iff, decide_eq_true_iff]
  exact this
end Go.Proofs.Ytjmpbnfkiikiaaa
/- flow.isPlace, flow.check. -/
namespace Go.Proofs.Ytjmpbnfkiikiaaa
open Go.RowKit
set_option linter.unusedSimpArgs false
set_option linter.unusedVariables false
/-- is there an op? -/
def isAt (n : Nat) (pc : Int) : Bool := decide (0 ≤ pc) && decide (pc < (n : Int))
/-- the box in which code lies that a closure has captured. -/
def CodeBox (w : World) (bc : Nat) (l : List (Int × Int)) : Prop := ∃ v, bc < w.heap.size ∧ w.cell? ⟨bc, 0, none⟩ = some v ∧ OpsAt w v l
theorem CodeBox.below {w w' : World} {bc : Nat} {l : List (Int × Int)} (h : CodeBox w bc l) (hb : Below w.heap.size w w') : CodeBox w' bc l := by
  obtain ⟨v, h1, h2, h3⟩ := h
  exact ⟨v, Nat.lt_of_lt_of_le h1 hb.size, (hb.cell (p := ⟨bc, 0, none⟩) h1).trans h2, h3.below hb⟩
end Go.Proofs.Ytjmpbnfkiikiaaa
/- slices.Sort and slices.Compact at numbers: contracts of the library, laid at this program (layings and applications alone). -/
namespace Go.Proofs
open Go.Shelf
end Go.Proofs
