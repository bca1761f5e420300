/- My texts Qj Fg Ba Ma Bb: what of them is needed, joined. -/
import Derived.Maps.AppendAt
import Derived.Laws.EntriesVeiled
import Derived.Test.YtcadpoknolefpaaGreatF1
import Derived.Test.YtcadpoknolefpaaGreatF3
import Derived.Test.YtcadpoknolefpaaGreatF4
import Derived.Test.YtcadpoknolefpaaGreatF5
/- What Check says of a machine of a program that fits, plainly; nothing just if it is right. -/
namespace Go.Proofs.YtcadpoknolefpaaGreat
open Go.RowKit
set_option linter.unusedSimpArgs false
set_option linter.unusedVariables false
def stErr (m : Mach) : Int := if m.status < 0 ∨ 3 < m.status then 6 else if (m.status = 3 ∧ (m.trap < 1 ∨ 5 < m.trap)) ∨ (m.status ≠ 3 ∧ m.trap ≠ 0) then 1 else 0
def boxErr (m : Mach) : Int := if 10 < m.inp.length ∨ 10 < m.out.length then 2 else if (m.inp.all isI32 && m.out.all isI32) = true then 0 else 3
def depthErr (m : Mach) : Int := if 6 < m.frames.length then 2 else if m.frames.length = 0 ∧ m.status ≠ 2 then 5 else if 0 < m.frames.length ∧ m.status = 2 then 1 else 0
def inProg (p : List Fn) (x : Frm) : Bool := decide (0 ≤ x.fn) && decide (x.fn < (p.length : Int))
def funcsErr (p : List Fn) (m : Mach) : Int := if m.frames.all (inProg p) = false then 3 else match m.frames with
  | [] => 0
  | x :: _ => if x.fn ≠ 0 then 4 else 0
def placedB (e : Nat → Nat → Option (List Int)) (next : Option Int) (x : Frm) (k : Nat) (f : Fn) : Bool := match next with
  | none => decide (0 ≤ x.pc) && (e k x.pc.toNat).isSome
  | some g => decide (1 ≤ x.pc) && (e k (x.pc - 1).toNat).isSome && (f.2.2.2[(x.pc - 1).toNat]? == some (12, g))
def stackT (p : List Fn) (e : Nat → Nat → Option (List Int)) (next : Option Int) (x : Frm) (k : Nat) : List Int := match next with
  | none => (e k x.pc.toNat).getD []
  | some g => match p[g.toNat]? with
    | none => (e k x.pc.toNat).getD []
    | some h => if h.2.2.1 ≠ 0 then ((e k x.pc.toNat).getD []).dropLast else (e k x.pc.toNat).getD []
def fitErr (p : List Fn) (e : Nat → Nat → Option (List Int)) (nb : Nat) (next : Option Int) (x : Frm) (k : Nat) (f : Fn) : Int :=
  if x.loc.length ≠ f.2.1.length then 1 else if (x.loc.all (okV nb) && x.stk.all (okV nb)) = false then 3 else if areOf x.loc f.2.1 = false then 6
  else if placedB e next x k f = false then 5 else if areOf x.stk (stackT p e next x k) = false then 4 else 0
def framesErr (p : List Fn) (e : Nat → Nat → Option (List Int)) (nb : Nat) : List Frm → Int
  | [] => 0
  | x :: r => match p[x.fn.toNat]? with
    | none => 0
    | some f => if fitErr p e nb (r.head?.map Frm.fn) x x.fn.toNat f ≠ 0 then fitErr p e nb (r.head?.map Frm.fn) x x.fn.toNat f else framesErr p e nb r
def lastOp (p : List Fn) (m : Mach) : Option (Int × Int) := m.frames.getLast?.bind fun x => (p[x.fn.toNat]?).bind fun f => f.2.2.2[x.pc.toNat]?
def waitErr (p : List Fn) (m : Mach) : Int := if m.status ≠ 1 then 0 else match lastOp p m with
  | none => 0
  | some o => if o.1 ≠ 21 ∨ 0 < m.inp.length then 4 else 0
def firstE : List Int → Int
  | [] => 0
  | a :: r => if a ≠ 0 then a else firstE r
def machErr (p : List Fn) (e : Nat → Nat → Option (List Int)) (m : Mach) : Int := firstE [stErr m, blkErr m.blocks, boxErr m, depthErr m, funcsErr p m, framesErr p e m.blocks.length m.frames, waitErr p m]
theorem firstE_zero {l : List Int} : firstE l = 0 ↔ ∀ a ∈ l, a = 0 := by
  induction l with
  | nil => simp [firstE]
  | cons a r ih =>
    unfold firstE
    by_cases h : a = 0
    · rw [if_neg (by simpa using h), ih]; simp [h]
    · rw [if_pos h]; simp [h]
theorem outer_more {p : List Fn} {e : Nat → Nat → Option (List Int)} (he : AllFit p e) {k : Nat} {f : Fn} (hf : p[k]? = some f) {pc : Nat} {s0 : List Int} {g : Int} (hs : e k pc = some s0) (hc : f.2.2.2[pc]? = some (12, g)) : ∃ s, e k (pc + 1) = some s := by
  obtain ⟨o, out, h4, h5, h6⟩ := (he k f hf).1.on pc s0 hs
  rw [hc] at h4
  cases h4
  obtain ⟨_, s', h7, _⟩ := h6 (pc + 1) (goesOn_next hc (by simp) (by simp))
  exact ⟨s', h7⟩
theorem fit_right {p : List Fn} {e : Nat → Nat → Option (List Int)} (he : AllFit p e) {nb k : Nat} {f : Fn} {x : Frm} {next : Option Int} (hf : p[k]? = some f) (hx : x.fn = (k : Int)) (hn : ∀ g, next = some g → 0 ≤ g ∧ g < (p.length : Int)) : fitErr p e nb next x k f = 0 ↔ RightF p e nb next x k f := by
  constructor
  · intro h
    unfold fitErr at h
    split at h
    · cases h
    rename_i h1
    split at h
    · cases h
    rename_i h2
    split at h
    · cases h
    rename_i h3
    split at h
    · cases h
    rename_i h4
    split at h
    · cases h
    rename_i h5
    simp only [Bool.not_eq_false, Bool.and_eq_true, List.all_eq_true] at h2 h3 h4 h5
    refine ⟨hx, hf, h3, h2.1, h2.2, fun hnn => ?_, fun g hg => ?_⟩
    · subst hnn
      simp only [placedB, Bool.and_eq_true, decide_eq_true_eq, Option.isSome_iff_exists] at h4
      obtain ⟨h6, s, h7⟩ := h4
      refine ⟨x.pc.toNat, s, by omega, h7, ?_⟩
      simpa [stackT, h7] using h5
    · subst hg
      simp only [placedB, Bool.and_eq_true, decide_eq_true_eq, Option.isSome_iff_exists, beq_iff_eq] at h4
      obtain ⟨⟨h6, s0, h7⟩, h8⟩ := h4
      obtain ⟨s, h9⟩ := outer_more he hf h7 h8
      obtain ⟨g0, g1⟩ := hn g rfl
      obtain ⟨h, hh⟩ := at_of_lt (l := p) (k := g.toNat) (by omega)
      have e1 : (x.pc - 1).toNat + 1 = x.pc.toNat := by omega
      refine ⟨(x.pc - 1).toNat, s0, s, h, by omega, g0, h7, h8, h9, hh, ?_⟩
      rw [e1] at h9
      simpa [stackT, hh, h9] using h5
  · intro h
    unfold fitErr
    have h1 := areOf_length h.loc
    rw [if_neg (by simpa using h1)]
    have h2 : (x.loc.all (okV nb) && x.stk.all (okV nb)) = true := by
      rw [Bool.and_eq_true, List.all_eq_true, List.all_eq_true]
      exact ⟨h.okl, h.oks⟩
    rw [if_neg (by rw [h2]; decide), if_neg (by rw [h.loc]; decide)]
    cases next with
    | none =>
      obtain ⟨pc, s, h3, h4, h5⟩ := h.inner rfl
      have e1 : x.pc.toNat = pc := by omega
      rw [if_neg (by simp [placedB, e1, h4]; omega), if_neg (by simp [stackT, e1, h4, h5])]
    | some g =>
      obtain ⟨pc, s0, s, hh, h3, h4, h5, h6, h7, h8, h9⟩ := h.outer g rfl
      have e1 : x.pc.toNat = pc + 1 := by omega
      have e2 : (x.pc - 1).toNat = pc := by omega
      rw [if_neg (by simp [placedB, e2, h5, h6]; omega), if_neg]
      simp only [stackT, e1, h8, h7, Option.getD_some]
      rw [h9]
      decide
theorem head_at {α : Type} (l : List α) : l.head? = l[0]? := by cases l <;> rfl
theorem frames_right {p : List Fn} {e : Nat → Nat → Option (List Int)} (he : AllFit p e) {nb : Nat} : ∀ {F : List Frm}, F.all (inProg p) = true → (framesErr p e nb F = 0 ↔ ∀ (i : Nat) (x : Frm), F[i]? = some x → ∃ k f, RightF p e nb ((F[i + 1]?).map Frm.fn) x k f)
  | [], _ => by simp [framesErr]
  | x :: r, h => by
    simp only [List.all_cons, Bool.and_eq_true] at h
    obtain ⟨hx, hr⟩ := h
    have hx' := hx
    simp only [inProg, Bool.and_eq_true, decide_eq_true_eq] at hx
    obtain ⟨f, hf⟩ := at_of_lt (l := p) (k := x.fn.toNat) (by omega)
    have hn : ∀ g, r.head?.map Frm.fn = some g → 0 ≤ g ∧ g < (p.length : Int) := by
      intro g hg
      cases r with
      | nil => simp at hg
      | cons y q =>
        simp at hg
        subst hg
        simp only [List.all_cons, Bool.and_eq_true, inProg, decide_eq_true_eq] at hr
        exact hr.1
    have key := fit_right (nb := nb) he hf (x := x) (by omega) hn
    have ih := frames_right (nb := nb) he hr
    unfold framesErr
    rw [hf]
    simp only
    constructor
    · intro h
      by_cases h0 : fitErr p e nb (r.head?.map Frm.fn) x x.fn.toNat f = 0
      · rw [if_neg (by simpa using h0)] at h
        intro i y hy
        cases i with
        | zero =>
          simp at hy
          subst hy
          refine ⟨x.fn.toNat, f, ?_⟩
          have := key.1 h0
          rw [head_at] at this
          simpa using this
        | succ i => simpa using ih.1 h i y (by simpa using hy)
      · rw [if_pos h0] at h
        exact absurd h h0
    · intro h
      obtain ⟨k, f', h1⟩ := h 0 x rfl
      have e1 : k = x.fn.toNat := by have := h1.fn; omega
      subst e1
      have e2 : f' = f := by have := h1.at_; rw [hf] at this; exact (Option.some.inj this).symm
      subst e2
      have h2 : fitErr p e nb (r.head?.map Frm.fn) x x.fn.toNat f' = 0 := key.2 (by rw [head_at]; simpa using h1)
      rw [if_neg (by simpa using h2)]
      exact ih.2 fun i y hy => by simpa using h (i + 1) y (by simpa using hy)
theorem mach_right {p : List Fn} {e : Nat → Nat → Option (List Int)} (he : AllFit p e) {m : Mach} : machErr p e m = 0 ↔ RightM p e m := by
  unfold machErr
  rw [firstE_zero]
  simp only [List.mem_cons, List.not_mem_nil, or_false, forall_eq_or_imp, forall_eq]
  constructor
  · rintro ⟨h1, h2, h3, h4, h5, h6, h7⟩
    have hst : 0 ≤ m.status ∧ m.status ≤ 3 ∧ ((m.status = 3 → 1 ≤ m.trap ∧ m.trap ≤ 5) ∧ (m.status ≠ 3 → m.trap = 0)) := by
      unfold stErr at h1
      split at h1
      · cases h1
      split at h1
      · cases h1
      omega
    have hbx : (m.inp.length ≤ 10 ∧ ∀ n ∈ m.inp, isI32 n = true) ∧ (m.out.length ≤ 10 ∧ ∀ n ∈ m.out, isI32 n = true) := by
      unfold boxErr at h3
      split at h3
      · cases h3
      split at h3
      · rename_i a b
        simp only [Bool.and_eq_true, List.all_eq_true] at b
        exact ⟨⟨by omega, b.1⟩, ⟨by omega, b.2⟩⟩
      · cases h3
    have hdp : m.frames.length ≤ 6 ∧ (m.frames = [] ↔ m.status = 2) := by
      unfold depthErr at h4
      rw [← List.length_eq_zero_iff]
      split at h4
      · cases h4
      split at h4
      · cases h4
      split at h4
      · cases h4
      omega
    have hfa : m.frames.all (inProg p) = true ∧ ∀ x, m.frames[0]? = some x → x.fn = 0 := by
      unfold funcsErr at h5
      split at h5
      · cases h5
      rename_i a
      refine ⟨by simpa using a, fun x hx => ?_⟩
      cases hm : m.frames with
      | nil => rw [hm] at hx; simp at hx
      | cons y r =>
        rw [hm] at hx h5
        simp at hx h5
        subst hx
        exact h5
    refine ⟨⟨hst.1, hst.2.1⟩, hst.2.2, h2, hbx.1, hbx.2, hdp, hfa.2, (frames_right he hfa.1).1 h6, fun hw => ?_⟩
    unfold waitErr at h7
    rw [if_neg (by simpa using hw)] at h7
    have hne : m.frames ≠ [] := fun h0 => by have := hdp.2.1 h0; omega
    obtain ⟨x, hx⟩ : ∃ x, m.frames.getLast? = some x := ⟨_, List.getLast?_eq_some_getLast hne⟩
    have hi : m.frames[m.frames.length - 1]? = some x := by rw [← hx, List.getLast?_eq_getElem?]
    obtain ⟨k, f, hr⟩ := (frames_right he hfa.1).1 h6 _ x hi
    rw [show m.frames[m.frames.length - 1 + 1]? = none from List.getElem?_eq_none (by omega)] at hr
    obtain ⟨pc, s, o, out, g1, g2, g3, g4, _⟩ := inner_go he hr
    have hk : x.fn.toNat = k := by have := hr.fn; omega
    have hlo : lastOp p m = some o := by
      unfold lastOp
      rw [hx]
      simp only [Option.bind_some, hk, hr.at_]
      rw [show x.pc.toNat = pc by omega]
      exact g4
    rw [hlo] at h7
    simp only at h7
    split at h7
    · cases h7
    rename_i a
    refine ⟨List.length_eq_zero_iff.1 (by omega), x, k, f, o, hx, hr.fn, hr.at_, by rw [show x.pc.toNat = pc by omega]; exact g4, by omega⟩
  · intro h
    have hfa : m.frames.all (inProg p) = true := by
      rw [List.all_eq_true]
      intro x hx
      obtain ⟨i, hi⟩ := List.getElem?_of_mem hx
      obtain ⟨k, f, hr⟩ := h.each i x hi
      have := lt_of_at hr.at_
      have := hr.fn
      simp [inProg]
      omega
    refine ⟨?_, h.blocks, ?_, ?_, ?_, (frames_right he hfa).2 h.each, ?_⟩
    · unfold stErr
      have := h.status
      have := h.trap
      rw [if_neg (by omega), if_neg (by omega)]
    · unfold boxErr
      have a := h.inp
      have b := h.out
      rw [if_neg (by omega), if_pos]
      rw [Bool.and_eq_true, List.all_eq_true, List.all_eq_true]
      exact ⟨a.2, b.2⟩
    · unfold depthErr
      have := h.depth
      rw [← List.length_eq_zero_iff] at this
      rw [if_neg (by omega), if_neg (by omega), if_neg (by omega)]
    · unfold funcsErr
      rw [if_neg (by rw [hfa]; decide)]
      cases hm : m.frames with
      | nil => rfl
      | cons x r =>
        simp only
        rw [if_neg]
        simpa using h.first x (by rw [hm]; rfl)
    · unfold waitErr
      by_cases hw : m.status = 1
      · rw [if_neg (by simpa using hw)]
        obtain ⟨h1, x, k, f, o, h2, h3, h4, h5, h6⟩ := h.wait hw
        have hlo : lastOp p m = some o := by
          unfold lastOp
          rw [h2]
          simp only [Option.bind_some, show x.fn.toNat = k by omega, h4, h5]
        rw [hlo]
        simp only
        rw [if_neg]
        rw [h1]
        simp [h6]
      · rw [if_pos hw]
end Go.Proofs.YtcadpoknolefpaaGreat


/- has, flowBegun. -/
namespace Go.Proofs.YtcadpoknolefpaaGreat
open Go.RowKit
set_option linter.unusedSimpArgs false
set_option linter.unusedVariables false
theorem loop_ops (w : World) : Calls Tryz.prog 67 #[] w fun e w' => ∃ v, e = .returned v ∧ OpsAt w' v loopOps ∧ Below w.heap.size w w' := by
  refine (loop_any w).mono ?_
  rintro e w1 ⟨rfl, hw1⟩
  have hb1 : Below w.heap.size w w1 := by rw [hw1]; exact (Below.refl _ w).alloc (Nat.le_refl _) _
  have hh1 : w1.heap[w.heap.size]? = some (.cells (opCells loopOps).toArray 43 (0, 0)) := by rw [hw1]; exact World.alloc_heap_new w _
  exact ⟨_, rfl, opsAt_new (l := loopOps) (m := []) 10 10 (by simpa using hh1) rfl (by unfold maxLen; decide), hb1⟩
theorem ints_lit {w : World} {b : Nat} {l : List Int} {t : TypeId} {fz : Nat × Nat} (n cap : Nat) (h : w.heap[b]? = some (.cells (l.map (Value.int .i64)).toArray t fz)) (hn : n = l.length) (hm : l.length ≤ maxLen) : IntsAt w (.slice (some ⟨b, 0, none⟩) n cap) l := by
  subst hn
  refine ⟨_, cap, rfl, hm, fun k z hk => ⟨b, 0, rfl, heap_lt h, ?_⟩⟩
  rw [cell_at' h]
  simp [hk]
end Go.Proofs.YtcadpoknolefpaaGreat


/- Blocks in memory. -/
namespace Go.Proofs.YtcadpoknolefpaaGreat
open Go.RowKit
set_option linter.unusedSimpArgs false
set_option linter.unusedVariables false
def BlksAt (w : World) (v : Value) (L : List (List Int)) : Prop :=
  ∃ (p : Option Addr) (cap : Nat), v = .slice p L.length cap ∧ L.length ≤ maxLen ∧ ∀ k b, L[k]? = some b →
    ∃ g off c, p = some ⟨g, off, none⟩ ∧ g < w.heap.size ∧ w.cell? ⟨g, off + k, none⟩ = some c ∧ IntsAt w c b ∧ NilOk c ∧ b.length ≤ 17592186044416
theorem BlksAt.below {w w' : World} {v : Value} {L : List (List Int)} (h : BlksAt w v L) (hb : Below w.heap.size w w') : BlksAt w' v L := by
  obtain ⟨p, cap, rfl, hm, hc⟩ := h
  refine ⟨p, cap, rfl, hm, fun k b hk => ?_⟩
  obtain ⟨g, off, c, rfl, hlt, h0, h1, h2, h3⟩ := hc k b hk
  exact ⟨g, off, c, rfl, Nat.lt_of_lt_of_le hlt hb.size, (hb.cell (p := ⟨g, off + k, none⟩) hlt).trans h0, h1.below hb, h2, h3⟩
structure BRows (W : World) (B : Nat) (q : List Value) (L : List (List Int)) : Prop where
  len : q.length = L.length
  each : ∀ (k : Nat) (x : Value) (b : List Int), q[k]? = some x → L[k]? = some b → W.ownsRow B 3 1 x b.length (b.map (Value.int .i64))
  apart : ∀ (i j : Nat) (x y : Value) (g : Nat), q[i]? = some x → q[j]? = some y → x.ownBlock = some g → y.ownBlock = some g → i = j
  small : ∀ b ∈ L, b.length ≤ 17592186044416
def BlksOwn (W : World) (B : Nat) (v : Value) (L : List (List Int)) : Prop := ∃ q, W.ownsRow B 27 1 v q.length q ∧ BRows W B q L
theorem bRows_nil (W : World) (B : Nat) : BRows W B [] [] := ⟨rfl, fun k x b h => by simp at h, fun i j x y g h => by simp at h, fun b h => by simp at h⟩
theorem blksOwn_nil (W : World) (B : Nat) : BlksOwn W B (.slice none 0 0) [] := ⟨[], World.ownsRow_nil _ _ _ _, bRows_nil W B⟩
theorem BRows.low {W : World} {B B' : Nat} {q : List Value} {L : List (List Int)} (h : BRows W B q L) (hB : B' ≤ B) : BRows W B' q L :=
  ⟨h.len, fun k x b h1 h2 => row_low (h.each k x b h1 h2) hB, h.apart, h.small⟩
theorem BlksOwn.low {W : World} {B B' : Nat} {v : Value} {L : List (List Int)} (h : BlksOwn W B v L) (hB : B' ≤ B) : BlksOwn W B' v L := by
  obtain ⟨q, h1, h2⟩ := h
  exact ⟨q, row_low h1 hB, h2.low hB⟩
theorem BRows.same {W W' : World} {B : Nat} {q : List Value} {L : List (List Int)} (h : BRows W B q L) (hk : ∀ (k : Nat) (x : Value) (g : Nat), q[k]? = some x → x.ownBlock = some g → W'.heap[g]? = W.heap[g]?) : BRows W' B q L :=
  ⟨h.len, fun k x b h1 h2 => row_same (h.each k x b h1 h2) fun g hg => hk k x g h1 hg, h.apart, h.small⟩
theorem BRows.below {W W' : World} {B : Nat} {q : List Value} {L : List (List Int)} (h : BRows W B q L) (hb : Below W.heap.size W W') : BRows W' B q L :=
  h.same fun k x g h1 hg => by
    obtain ⟨b, h2⟩ := at_of_lt (l := L) (k := k) (by rw [← h.len]; exact lt_of_at h1)
    exact hb.block g ((h.each k x b h1 h2).lt g hg).2
theorem BRows.lt {W : World} {B : Nat} {q : List Value} {L : List (List Int)} (h : BRows W B q L) {k : Nat} {x : Value} {g : Nat} (hx : q[k]? = some x) (hg : x.ownBlock = some g) : B ≤ g ∧ g < W.heap.size ∧ ∃ cs, W.heap[g]? = some (.cells cs 3 (0, 0)) := by
  obtain ⟨b, h2⟩ := at_of_lt (l := L) (k := k) (by rw [← h.len]; exact lt_of_at hx)
  have hr := h.each k x b hx h2
  refine ⟨(hr.lt g hg).1, (hr.lt g hg).2, ?_⟩
  rcases hr.2 with ⟨rfl, _⟩ | ⟨g', cap, cur, rfl, _, hh, _⟩
  · cases hg
  · cases hg; exact ⟨_, hh⟩
theorem BRows.snoc' {W : World} {B : Nat} {q : List Value} {L : List (List Int)} {x : Value} {b : List Int} (h : BRows W B q L) (hx : W.ownsRow B 3 1 x b.length (b.map (Value.int .i64))) (hn : ∀ (k : Nat) (y : Value) (g : Nat), q[k]? = some y → y.ownBlock = some g → x.ownBlock ≠ some g) (hs : b.length ≤ 17592186044416) : BRows W B (q ++ [x]) (L ++ [b]) := by
  have key : ∀ (k : Nat) (y : Value), (q ++ [x])[k]? = some y → (k < q.length ∧ q[k]? = some y) ∨ (k = q.length ∧ y = x) := by
    intro k y hk
    by_cases hl : k < q.length
    · rw [List.getElem?_append_left hl] at hk; exact .inl ⟨hl, hk⟩
    · rw [List.getElem?_append_right (by omega)] at hk
      have h0 : k - q.length = 0 := by have := lt_of_at hk; simp at this; omega
      rw [h0] at hk; simp at hk
      exact .inr ⟨by omega, hk.symm⟩
  refine ⟨by simp [h.len], fun k y c hy hc => ?_, fun i j y z g hy hz gy gz => ?_, fun c hc => ?_⟩
  · rcases key k y hy with ⟨h1, h2⟩ | ⟨rfl, rfl⟩
    · rw [List.getElem?_append_left (by rw [← h.len]; exact h1)] at hc
      exact h.each k y c h2 hc
    · rw [List.getElem?_append_right (by rw [h.len]; omega), h.len, Nat.sub_self] at hc
      simp at hc; subst hc
      exact hx
  · rcases key i y hy with ⟨h1, h2⟩ | ⟨rfl, rfl⟩
    · rcases key j z hz with ⟨h3, h4⟩ | ⟨rfl, rfl⟩
      · exact h.apart i j y z g h2 h4 gy gz
      · exact absurd gz (hn i y g h2 gy)
    · rcases key j z hz with ⟨h3, h4⟩ | ⟨rfl, rfl⟩
      · exact absurd gy (hn j z g h4 gz)
      · rfl
  · rcases List.mem_append.1 hc with hc | hc
    · exact h.small c hc
    · simp at hc; subst hc; exact hs
theorem BRows.snoc {W : World} {B B' : Nat} {q : List Value} {L : List (List Int)} {x : Value} {b : List Int} (h : BRows W B q L) (hx : W.ownsRow B' 3 1 x b.length (b.map (Value.int .i64))) (hB : B ≤ B') (hn : ∀ (k : Nat) (y : Value) (g : Nat), q[k]? = some y → y.ownBlock = some g → g < B') (hs : b.length ≤ 17592186044416) : BRows W B (q ++ [x]) (L ++ [b]) :=
  h.snoc' (row_low hx hB) (fun k y g h1 h2 h3 => by
    have := hn k y g h1 h2
    have := (hx.lt g h3).1
    omega) hs
theorem BlksOwn.below {W W' : World} {B : Nat} {v : Value} {L : List (List Int)} (h : BlksOwn W B v L) (hb : Below W.heap.size W W') : BlksOwn W' B v L := by
  obtain ⟨q, h1, h2⟩ := h
  exact ⟨q, row_same h1 fun g hg => hb.block g (h1.lt g hg).2, h2.below hb⟩
theorem blksAt_of_rows {W : World} {B : Nat} {p : Option Addr} {cap : Nat} {q : List Value} {L : List (List Int)} (hr : BRows W B q L) (hm : L.length ≤ maxLen) (hp : ∀ k x, q[k]? = some x → ∃ g off, p = some ⟨g, off, none⟩ ∧ g < W.heap.size ∧ W.cell? ⟨g, off + k, none⟩ = some x) : BlksAt W (.slice p L.length cap) L := by
  refine ⟨p, cap, rfl, hm, fun k b hk => ?_⟩
  obtain ⟨x, hx⟩ := at_of_lt (l := q) (k := k) (by rw [hr.len]; exact lt_of_at hk)
  obtain ⟨g, off, h1, h2, h3⟩ := hp k x hx
  have h4 := hr.each k x b hx hk
  exact ⟨g, off, x, h1, h2, h3, intsAt_of_row rfl h4, nilOk_row h4, hr.small b (List.mem_of_getElem? hk)⟩
theorem blksAt_of_own {W : World} {B : Nat} {v : Value} {L : List (List Int)} (h : BlksOwn W B v L) : BlksAt W v L := by
  obtain ⟨q, h1, h2⟩ := h
  rcases h1.2 with ⟨rfl, h0⟩ | ⟨g, cap, cur, rfl, hb, hg, hn, hc, hs, ht⟩
  · have hL : L = [] := List.eq_nil_of_length_eq_zero (by rw [← h2.len]; exact h0)
    subst hL
    exact ⟨none, 0, rfl, Nat.zero_le _, fun k b hk => by simp at hk⟩
  · rw [h2.len]
    refine blksAt_of_rows h2 (by rw [← h2.len]; omega) fun k x hx => ⟨g, 0, rfl, heap_lt hg, ?_⟩
    have hk := lt_of_at hx
    rw [← ht, List.getElem?_take_of_lt (by omega)] at hx
    rw [cell_at' hg]; simpa using hx
theorem bthen0 {a b c : World} (h : Below a.heap.size a b) (k : Below b.heap.size b c) : Below a.heap.size a c := h.trans (k.mono h.size)
end Go.Proofs.YtcadpoknolefpaaGreat


/- Values, frames and machines in memory. -/
namespace Go.Proofs.YtcadpoknolefpaaGreat
open Go.RowKit
set_option linter.unusedSimpArgs false
set_option linter.unusedVariables false
def valCells (l : List Val) : List Value := l.flatMap fun v => [.bool v.1, .int .i64 v.2]
theorem valCells_append (l m : List Val) : valCells (l ++ m) = valCells l ++ valCells m := by simp [valCells]
theorem valCells_length (l : List Val) : (valCells l).length = l.length * 2 := by
  induction l with
  | nil => rfl
  | cons o r ih => simp [valCells] at *; omega
theorem valCells_at (l : List Val) : ∀ (k : Nat) (o : Val), l[k]? = some o → (valCells l)[k * 2]? = some (.bool o.1) ∧ (valCells l)[k * 2 + 1]? = some (.int .i64 o.2) := by
  induction l with
  | nil => intro k o h; simp at h
  | cons x r ih =>
    intro k o h
    cases k with
    | zero => simp at h; subst h; simp [valCells]
    | succ k =>
      have := ih k o (by simpa using h)
      rw [show (k + 1) * 2 = k * 2 + 1 + 1 from by omega]
      simpa [valCells] using this
theorem valCells_one (l : List Val) : ∀ u ∈ valCells l, u.oneCell' = true := by
  intro u hu
  obtain ⟨o, _, ho⟩ := List.mem_flatMap.1 hu
  simp at ho
  rcases ho with rfl | rfl <;> rfl
theorem valCells_take (l : List Val) (n : Nat) : (valCells l).take (n * 2) = valCells (l.take n) := by
  induction l generalizing n with
  | nil => simp [valCells]
  | cons x r ih =>
    cases n with
    | zero => simp [valCells]
    | succ n =>
      rw [show (n + 1) * 2 = n * 2 + 1 + 1 from by omega]
      simpa [valCells] using ih n
theorem valCells_set (l : List Val) (k : Nat) (x : Val) : ((valCells l).set (k * 2) (.bool x.1)).set (k * 2 + 1) (.int .i64 x.2) = valCells (l.set k x) := by
  induction l generalizing k with
  | nil => simp [valCells]
  | cons y r ih =>
    cases k with
    | zero => simp [valCells]
    | succ k =>
      have := ih k
      rw [show (k + 1) * 2 = k * 2 + 1 + 1 from by omega]
      simpa [valCells] using this
def ValsAt (w : World) (v : Value) (l : List Val) : Prop :=
  ∃ (p : Option Addr) (cap : Nat), v = .slice p l.length cap ∧ l.length ≤ maxLen ∧ ∀ k o, l[k]? = some o →
    ∃ b off, p = some ⟨b, off, none⟩ ∧ b < w.heap.size ∧ w.cell? ⟨b, off + k * 2, none⟩ = some (.bool o.1) ∧ w.cell? ⟨b, off + k * 2 + 1, none⟩ = some (.int .i64 o.2)
theorem ValsAt.below {w w' : World} {v : Value} {l : List Val} (h : ValsAt w v l) (hb : Below w.heap.size w w') : ValsAt w' v l := by
  obtain ⟨p, cap, rfl, hm, hc⟩ := h
  refine ⟨p, cap, rfl, hm, fun k o hk => ?_⟩
  obtain ⟨b, off, rfl, hlt, h0, h1⟩ := hc k o hk
  exact ⟨b, off, rfl, Nat.lt_of_lt_of_le hlt hb.size, (hb.cell (p := ⟨b, off + k * 2, none⟩) hlt).trans h0, (hb.cell (p := ⟨b, off + k * 2 + 1, none⟩) hlt).trans h1⟩
theorem valsAt_of_row {W : World} {base : Nat} {v : Value} {l : List Val} (h : W.ownsRow base 50 2 v l.length (valCells l)) : ValsAt W v l := by
  rcases h.2 with ⟨rfl, h0⟩ | ⟨g, cap, cur, rfl, hb, hg, hn, hc, hs, ht⟩
  · refine ⟨none, 0, by rw [h0], by rw [h0]; exact Nat.zero_le _, fun k o hk => ?_⟩
    have := lt_of_at hk
    omega
  · refine ⟨_, cap, rfl, by omega, fun k o hk => ⟨g, 0, rfl, heap_lt hg, ?_, ?_⟩⟩
    · have hk2 := lt_of_at hk
      have := (valCells_at l k o hk).1
      rw [← ht, List.getElem?_take_of_lt (by omega)] at this
      rw [cell_at' hg]; simpa using this
    · have hk2 := lt_of_at hk
      have := (valCells_at l k o hk).2
      rw [← ht, List.getElem?_take_of_lt (by omega)] at this
      rw [cell_at' hg]; simpa using this
theorem vals_cells {w : World} {p : Option Addr} {n cap : Nat} {l : List Val} (h : ValsAt w (.slice p n cap) l) (ad : Addr) (hp : p = some ad) : ∀ (j : Nat) (u : Value), (valCells l)[j]? = some u → w.cell? (ad.add j) = some u := by
  obtain ⟨q, c, he, _, hc⟩ := h
  cases he
  intro j u hj
  have hlt := lt_of_at hj
  rw [valCells_length] at hlt
  obtain ⟨o, ho⟩ : ∃ o, l[j / 2]? = some o := ⟨l[j / 2]'(by omega), List.getElem?_eq_some_iff.2 ⟨by omega, rfl⟩⟩
  obtain ⟨b, off, hp2, _, h0, h1⟩ := hc _ o ho
  rw [hp] at hp2
  cases hp2
  have hx := valCells_at l _ o ho
  rcases Nat.mod_two_eq_zero_or_one j with hm | hm
  · have e : j / 2 * 2 = j := by omega
    rw [e] at h0 hx
    rw [hx.1] at hj
    cases hj
    rw [add_at]; exact h0
  · have e : j / 2 * 2 + 1 = j := by omega
    have e' : off + j / 2 * 2 + 1 = off + j := by omega
    rw [e] at hx
    rw [e'] at h1
    rw [hx.2] at hj
    cases hj
    rw [add_at]; exact h1
theorem infoVal : (Tryz.prog.info? 50).map (fun i => (i.zero, i.size, i.bytes)) = some (some (.agg #[.bool false, .int .i64 0]), 2, 16) := by kernel_rfl
theorem wpList_append_vals {w : World} {ops : Array Oper} {rest : List Oper} {o : Oper} {a : Act} {Q : Exit → Act → World → Prop} (hgd : o.guard = none) (s x : Operand)
    (ho : o.op = .call { callee := .builtin .append, args := #[s, x], argTypes := #[46, 46] }) (base : Nat)
    (v : Value) (n : Nat) (xs : List Value) (hs : a.eval s = v) (hown : w.ownsRow base 50 2 v n xs)
    (u : Value) (l : List Val) (hx : a.eval x = u) (hu : ValsAt w u l) (hnil : NilOk u)
    (h63 : n + l.length ≤ maxLen) (hbytes : (n + l.length) * 16 ≤ 140737488355328) (hbase : base ≤ w.heap.size)
    (h : ∀ v' w', w'.ownsRow base 50 2 v' (n + l.length) (xs ++ valCells l) → w.grownBy w' v.ownBlock → (v'.ownBlock = v.ownBlock ∨ v'.ownBlock = some w.heap.size) → wpList Tryz.prog ops Q rest (a.put o.dst v') w') : wpList Tryz.prog ops Q (o :: rest) a w := by
  obtain ⟨i0, hi, hz0, hz1, hz2⟩ := info_parts infoVal
  have hu' := hu
  obtain ⟨p, cap, rfl, hm, hc⟩ := hu'
  cases p with
  | none =>
    have hl : l = [] := by
      cases l with
      | nil => rfl
      | cons o r => obtain ⟨b, off, hb, _⟩ := hc 0 o rfl; cases hb
    subst hl
    have hcap : cap = 0 := hnil _ _ rfl
    subst hcap
    exact wpList_append_own_none hgd s x 46 ho base 50 i0 2 Tryz.underlying46 hi v n xs hs hown hx (h v w (by simpa [valCells] using hown) (World.grownBy.refl _ _) (.inl rfl))
  | some ad =>
    exact wpList_append_own_at w hgd s x 46 ho base 50 i0 (.agg #[.bool false, .int .i64 0]) 2 16 Tryz.underlying46 hi hz0 hz1 hz2 rfl (by decide) v n xs hs hown ad l.length cap (valCells l) hx (valCells_length l)
      (vals_cells hu ad rfl) (valCells_one l) h63 hbytes hbase (fun v' w' h1 h2 _ h4 => h v' w' h1 h2 h4)
structure VRows (W : World) (B : Nat) (q : List Value) (L : List (List Val)) : Prop where
  len : q.length = L.length
  each : ∀ (k : Nat) (x : Value) (b : List Val), q[k]? = some x → L[k]? = some b → W.ownsRow B 50 2 x b.length (valCells b)
  apart : ∀ (i j : Nat) (x y : Value) (g : Nat), q[i]? = some x → q[j]? = some y → x.ownBlock = some g → y.ownBlock = some g → i = j
theorem vRows_nil (W : World) (B : Nat) : VRows W B [] [] := ⟨rfl, fun k x b h => by simp at h, fun i j x y g h => by simp at h⟩
theorem VRows.row {W : World} {B : Nat} {q : List Value} {L : List (List Val)} (h : VRows W B q L) {k : Nat} {x : Value} (hx : q[k]? = some x) : ∃ b, L[k]? = some b ∧ W.ownsRow B 50 2 x b.length (valCells b) := by
  obtain ⟨b, h2⟩ := at_of_lt (l := L) (k := k) (by rw [← h.len]; exact lt_of_at hx)
  exact ⟨b, h2, h.each k x b hx h2⟩
theorem VRows.low {W : World} {B B' : Nat} {q : List Value} {L : List (List Val)} (h : VRows W B q L) (hB : B' ≤ B) : VRows W B' q L :=
  ⟨h.len, fun k x b h1 h2 => row_low (h.each k x b h1 h2) hB, h.apart⟩
theorem VRows.same {W W' : World} {B : Nat} {q : List Value} {L : List (List Val)} (h : VRows W B q L) (hk : ∀ (k : Nat) (x : Value) (g : Nat), q[k]? = some x → x.ownBlock = some g → W'.heap[g]? = W.heap[g]?) : VRows W' B q L :=
  ⟨h.len, fun k x b h1 h2 => row_same (h.each k x b h1 h2) fun g hg => hk k x g h1 hg, h.apart⟩
theorem VRows.lt {W : World} {B : Nat} {q : List Value} {L : List (List Val)} (h : VRows W B q L) {k : Nat} {x : Value} {g : Nat} (hx : q[k]? = some x) (hg : x.ownBlock = some g) : B ≤ g ∧ g < W.heap.size ∧ ∃ cs, W.heap[g]? = some (.cells cs 50 (0, 0)) := by
  obtain ⟨b, _, hr⟩ := h.row hx
  refine ⟨(hr.lt g hg).1, (hr.lt g hg).2, ?_⟩
  rcases hr.2 with ⟨rfl, _⟩ | ⟨g', cap, cur, rfl, _, hh, _⟩
  · cases hg
  · cases hg; exact ⟨_, hh⟩
theorem VRows.below {W W' : World} {B : Nat} {q : List Value} {L : List (List Val)} (h : VRows W B q L) (hb : Below W.heap.size W W') : VRows W' B q L :=
  h.same fun k x g h1 hg => hb.block g (h.lt h1 hg).2.1
theorem VRows.snoc {W : World} {B : Nat} {q : List Value} {L : List (List Val)} {x : Value} {b : List Val} (h : VRows W B q L) (hx : W.ownsRow B 50 2 x b.length (valCells b)) (hn : ∀ (k : Nat) (y : Value) (g : Nat), q[k]? = some y → y.ownBlock = some g → x.ownBlock ≠ some g) : VRows W B (q ++ [x]) (L ++ [b]) := by
  have key : ∀ (k : Nat) (y : Value), (q ++ [x])[k]? = some y → (k < q.length ∧ q[k]? = some y) ∨ (k = q.length ∧ y = x) := by
    intro k y hk
    by_cases hl : k < q.length
    · rw [List.getElem?_append_left hl] at hk; exact .inl ⟨hl, hk⟩
    · rw [List.getElem?_append_right (by omega)] at hk
      have h0 : k - q.length = 0 := by have := lt_of_at hk; simp at this; omega
      rw [h0] at hk; simp at hk
      exact .inr ⟨by omega, hk.symm⟩
  refine ⟨by simp [h.len], fun k y c hy hc => ?_, fun i j y z g hy hz gy gz => ?_⟩
  · rcases key k y hy with ⟨h1, h2⟩ | ⟨rfl, rfl⟩
    · rw [List.getElem?_append_left (by rw [← h.len]; exact h1)] at hc
      exact h.each k y c h2 hc
    · rw [List.getElem?_append_right (by rw [h.len]; omega), h.len, Nat.sub_self] at hc
      simp at hc; subst hc
      exact hx
  · rcases key i y hy with ⟨h1, h2⟩ | ⟨rfl, rfl⟩
    · rcases key j z hz with ⟨h3, h4⟩ | ⟨rfl, rfl⟩
      · exact h.apart i j y z g h2 h4 gy gz
      · exact absurd gz (hn i y g h2 gy)
    · rcases key j z hz with ⟨h3, h4⟩ | ⟨rfl, rfl⟩
      · exact absurd gy (hn j z g h4 gz)
      · rfl
theorem VRows.put {W W' : World} {B : Nat} {q : List Value} {L : List (List Val)} {k : Nat} {x y : Value} {b : List Val} (h : VRows W B q L) (hk : q[k]? = some x) (hg : W.grownBy W' x.ownBlock) (hy : W'.ownsRow B 50 2 y b.length (valCells b)) (hat : ∀ g, y.ownBlock = some g → x.ownBlock = some g ∨ W.heap.size ≤ g) : VRows W' B (q.set k y) (L.set k b) := by
  have hlt := lt_of_at hk
  refine ⟨by simp [h.len], fun i z c hz hc => ?_, fun i j z u g hz hu gz gu => ?_⟩
  · by_cases e : k = i
    · subst e
      rw [List.getElem?_set_self hlt] at hz
      rw [List.getElem?_set_self (by rw [← h.len]; exact hlt)] at hc
      cases hz; cases hc
      exact hy
    · rw [List.getElem?_set_ne e] at hz hc
      refine row_same (h.each i z c hz hc) fun g hgz => hg.block g (h.lt hz hgz).2.1 fun e2 => ?_
      exact e (h.apart k i x z g hk hz e2.symm hgz)
  · by_cases e : k = i
    · by_cases e' : k = j
      · omega
      · subst e
        rw [List.getElem?_set_self hlt] at hz
        rw [List.getElem?_set_ne e'] at hu
        cases hz
        rcases hat g gz with h1 | h1
        · exact h.apart k j x u g hk hu h1 gu
        · have := (h.lt hu gu).2.1; omega
    · rw [List.getElem?_set_ne e] at hz
      by_cases e' : k = j
      · subst e'
        rw [List.getElem?_set_self hlt] at hu
        cases hu
        rcases hat g gu with h1 | h1
        · exact h.apart i k z x g hz hk gz h1
        · have := (h.lt hz gz).2.1; omega
      · rw [List.getElem?_set_ne e'] at hu
        exact h.apart i j z u g hz hu gz gu
theorem VRows.take {W : World} {B : Nat} {q : List Value} {L : List (List Val)} (h : VRows W B q L) (n : Nat) : VRows W B (q.take n) (L.take n) := by
  have key : ∀ {α : Type} (l : List α) (k : Nat) (x : α), (l.take n)[k]? = some x → l[k]? = some x := fun l k x hx => by
    by_cases hl : k < n
    · rwa [List.getElem?_take_of_lt hl] at hx
    · rw [List.getElem?_eq_none (by simp; omega)] at hx; cases hx
  exact ⟨by simp [h.len], fun k x b h1 h2 => h.each k x b (key _ _ _ h1) (key _ _ _ h2), fun i j x y g h1 h2 => h.apart i j x y g (key _ _ _ h1) (key _ _ _ h2)⟩
theorem row_cut {W : World} {B : Nat} {e : TypeId} {size n cap g : Nat} {xs : List Value} (h : W.ownsRow B e size (.slice (some ⟨g, 0, none⟩) n cap) n xs) (m : Nat) (hm : m ≤ n) : W.ownsRow B e size (.slice (some ⟨g, 0, none⟩) m cap) m (xs.take (m * size)) := by
  rcases h.2 with ⟨h1, _⟩ | ⟨g', cap', cur, h1, h2, h3, h4, h5, h6, h7⟩
  · cases h1
  · cases h1
    have hle : m * size ≤ n * size := Nat.mul_le_mul_right _ hm
    refine ⟨by rw [List.length_take, h.1]; omega, .inr ⟨g, cap, cur, rfl, h2, h3, by omega, h5, h6, ?_⟩⟩
    rw [← h7, List.take_take, Nat.min_eq_left hle]
end Go.Proofs.YtcadpoknolefpaaGreat


/- blocks: the leaf functions; Check. -/
namespace Go.Proofs.YtcadpoknolefpaaGreat
open Go.RowKit
set_option linter.unusedSimpArgs false
set_option linter.unusedVariables false
set_option maxHeartbeats 400000 in
theorem bNumber_any (n : Int) (w : World) : Calls Tryz.prog 169 #[.int .i64 n] w fun e w' => e = .returned (.bool (isI32 n)) ∧ w' = w := by
  go_enter Tryz.func169, Tryz.ntmps169
  go_wp2_with (go_at_call 28; refine (wrap_any _ _).mono ?_; rintro e w' ⟨rfl, rfl⟩)
  go_ret
  exact ⟨by simp [← wrap_isI32], rfl⟩
set_option maxHeartbeats 400000 in
theorem bCheck1_any (n : Int) (w : World) : Calls Tryz.prog 168 #[.int .i64 n] w fun e w' => e = .returned (.bool (!isI32 n)) ∧ w' = w := by
  go_enter Tryz.func168, Tryz.ntmps168
  go_wp2_with (go_at_call 169; refine (bNumber_any _ _).mono ?_; rintro e w' ⟨rfl, rfl⟩)
  go_ret
  exact ⟨rfl, rfl⟩
set_option maxHeartbeats 400000 in
theorem bIsRef_any (L : List (List Int)) (ref : Int) (p : Option Addr) (cap : Nat) (w : World) : Calls Tryz.prog 122 #[.slice p L.length cap, .int .i64 ref] w fun e w' => e = .returned (.bool (refOk L.length ref)) ∧ w' = w := by
  by_cases h1 : 0 ≤ ref
  · have hd : decide (0 ≤ ref) = true := by simpa using h1
    have hd2 : decide (ref ≥ 0) = true := by simpa using h1
    go_enter Tryz.func122, Tryz.ntmps122
    go_wp2
    go_ret
    exact ⟨by simp [refOk, h1], rfl⟩
  · have hd : decide (0 ≤ ref) = false := by simpa using h1
    have hd2 : decide (ref ≥ 0) = false := by simpa using h1
    go_enter Tryz.func122, Tryz.ntmps122
    go_wp2
    go_ret
    exact ⟨by simp [refOk, hd], rfl⟩
def Ent (F : Nat) : Prop := ∀ (args : Array Value) (W : World), (callFunc F args).run Tryz.prog W = .ok (.enter F args) W
theorem ent_mk {F : Nat} {fn : Func} {c : Code} (hf : Tryz.prog.funcs[F]? = some fn) (hname : (fn.name == "runtime.NumGoroutine") = false) (hb : fn.body = some c) : Ent F := by
  intro args w
  have h1 : fn.name ≠ "runtime.NumGoroutine" := by simpa using hname
  simp [callFunc, hf, h1, hb]
theorem indexInts_gen (F : Nat) (caps : Array Value) (I : World → Prop) (q : Int → Bool) (l : List Int) (v : Value) (w : World) (h : IntsAt w v l) (hI : I w) (hkI : ∀ W W', I W → Below W.heap.size W W' → I W') (hE : Ent F)
    (hF : ∀ (z : Int) (W : World), I W → Calls Tryz.prog F (#[.int .i64 z] ++ caps) W fun e w' => e = .returned (.bool (!q z)) ∧ Below W.heap.size W w') :
    Calls Tryz.prog 147 #[v, .func (.func F) #[] caps] w fun e w' => ∃ r, e = .returned (.int .i64 r) ∧ decide (0 ≤ r) = (!l.all q) ∧ Below w.heap.size w w' := by
  obtain ⟨p, cap, rfl, hm, hc⟩ := h
  unfold maxLen at hm
  have HI := hideP hI
  have HKI := hideP hkI
  have HF := hideP hF
  have hEE := fun args W => hE args W
  clear hI hkI hF hE
  go_enter Tryz.func147, Tryz.ntmps147
  go_wp2
  go_loopw [5, 8] (fun _ i wr => ∃ k : Nat, k ≤ l.length ∧ i = .int .i64 k ∧ (∀ o ∈ l.take k, q o = true) ∧ Below w.heap.size w wr) (fun _ i _ => l.length - (intOf i).toNat)
  case atStart => exact ⟨0, Nat.zero_le _, rfl, by simp, Below.refl _ _⟩
  case round =>
    obtain ⟨k, hk, rfl, hok, hbw⟩ := hrel
    have HK := hideP hok
    have HC := hideP hc
    clear hok hc
    by_cases hlt : k < l.length
    · obtain ⟨z, ho⟩ := at_of_lt hlt
      obtain ⟨b, off, rfl, hb, h0⟩ := HC.out k _ ho
      have g0 := (hbw.cell (p := ⟨b, off + k, none⟩) hb).trans h0
      have HO := hideP ho
      have hi := hideP (HKI.out _ _ HI.out hbw)
      clear ho h0
      cases hnb : q z
      · go_wp2_with fail
        refine (HF.out z wr hi.out).mono ?_
        rw [hnb]
        rintro e w2 ⟨rfl, hb2⟩
        go_wp2
        go_ret
        exact ⟨k, rfl, by rw [all_false HO.out hnb]; simp, hbw.trans (hb2.mono hbw.size)⟩
      · go_wp2_with fail
        refine (HF.out z wr hi.out).mono ?_
        rw [hnb]
        rintro e w2 ⟨rfl, hb2⟩
        go_wp2
        go_roundw
        case rel => exact ⟨k + 1, by omega, by go_num, all_snoc HK.out HO.out hnb, hbw.trans (hb2.mono hbw.size)⟩
        case measure => simp [intOf]; omega
    · have hlt' : ¬ (k : Int) < (l.length : Int) := by omega
      go_wp2
      go_ret
      refine ⟨-1, rfl, ?_, hbw⟩
      have := HK.out
      rw [List.take_of_length_le (by omega)] at this
      rw [all_true this]; decide
set_option maxHeartbeats 1000000 in
theorem containsInts_gen (F : Nat) (caps : Array Value) (I : World → Prop) (q : Int → Bool) (l : List Int) (v : Value) (w : World) (h : IntsAt w v l) (hI : I w) (hkI : ∀ W W', I W → Below W.heap.size W W' → I W') (hE : Ent F)
    (hF : ∀ (z : Int) (W : World), I W → Calls Tryz.prog F (#[.int .i64 z] ++ caps) W fun e w' => e = .returned (.bool (!q z)) ∧ Below W.heap.size W w') :
    Calls Tryz.prog 106 #[v, .func (.func F) #[] caps] w fun e w' => e = .returned (.bool (!l.all q)) ∧ Below w.heap.size w w' := by
  go_enter Tryz.func106, Tryz.ntmps106
  go_wp2_with fail
  refine (indexInts_gen F caps I q l v _ h hI hkI hE hF).mono ?_
  rintro e w2 ⟨r, rfl, hr, hb2⟩
  have HR := hideP hr
  clear hr
  go_wp2
  go_ret
  exact ⟨by rw [← HR.out]; rfl, hb2⟩
theorem ent_check1 : Ent 168 := ent_mk Tryz.func168 (by kernel_rfl) rfl
theorem containsStray_any (l : List Int) (v : Value) (w : World) (h : IntsAt w v l) : Calls Tryz.prog 106 #[v, .func (.func 168) #[] #[]] w fun e w' => e = .returned (.bool (!l.all isI32)) ∧ Below w.heap.size w w' :=
  containsInts_gen 168 #[] (fun _ => True) isI32 l v w h trivial (fun _ _ _ _ => trivial) ent_check1 (fun z W _ => (bCheck1_any z W).mono (by rintro e w' ⟨rfl, rfl⟩; exact ⟨rfl, Below.refl _ _⟩))
set_option maxHeartbeats 1000000 in
theorem bCheck2_any (l : List Int) (v : Value) (bs : Nat) (w : World) (h : IntsAt w v l) (hb : bs < w.heap.size ∧ w.cell? ⟨bs, 0, none⟩ = some (.func (.func 168) #[] #[])) : Calls Tryz.prog 171 #[v, .pointer (some ⟨bs, 0, none⟩)] w fun e w' => e = .returned (.bool (!l.all isI32)) ∧ Below w.heap.size w w' := by
  obtain ⟨_, c0⟩ := hb
  obtain ⟨p, cap, hv, _, _⟩ := id h
  have H := hideP h
  clear h
  subst hv
  go_enter Tryz.func171, Tryz.ntmps171
  go_wp2_with fail
  refine (containsStray_any l _ _ H.out).mono ?_
  rintro e w2 ⟨rfl, hb2⟩
  go_wp2
  go_ret
  exact ⟨rfl, hb2⟩
theorem indexBlks_gen (F : Nat) (caps : Array Value) (I : World → Prop) (q : List Int → Bool) (l : List (List Int)) (v : Value) (w : World) (h : BlksAt w v l) (hI : I w) (hkI : ∀ W W', I W → Below W.heap.size W W' → I W') (hE : Ent F)
    (hF : ∀ (z : List Int) (u : Value) (W : World), I W → IntsAt W u z → Calls Tryz.prog F (#[u] ++ caps) W fun e w' => e = .returned (.bool (!q z)) ∧ Below W.heap.size W w') :
    Calls Tryz.prog 219 #[v, .func (.func F) #[] caps] w fun e w' => ∃ r, e = .returned (.int .i64 r) ∧ decide (0 ≤ r) = (!l.all q) ∧ Below w.heap.size w w' := by
  obtain ⟨p, cap, rfl, hm, hc⟩ := h
  unfold maxLen at hm
  have HI := hideP hI
  have HKI := hideP hkI
  have HF := hideP hF
  have hEE := fun args W => hE args W
  clear hI hkI hF hE
  go_enter Tryz.func219, Tryz.ntmps219
  go_wp2
  go_loopw [5, 8] (fun _ i wr => ∃ k : Nat, k ≤ l.length ∧ i = .int .i64 k ∧ (∀ o ∈ l.take k, q o = true) ∧ Below w.heap.size w wr) (fun _ i _ => l.length - (intOf i).toNat)
  case atStart => exact ⟨0, Nat.zero_le _, rfl, by simp, Below.refl _ _⟩
  case round =>
    obtain ⟨k, hk, rfl, hok, hbw⟩ := hrel
    have HK := hideP hok
    have HC := hideP hc
    clear hok hc
    by_cases hlt : k < l.length
    · obtain ⟨z, ho⟩ := at_of_lt hlt
      obtain ⟨b, off, c, rfl, hb, h0, h1, _, _⟩ := HC.out k _ ho
      have g0 := (hbw.cell (p := ⟨b, off + k, none⟩) hb).trans h0
      have H1 := hideP (h1.below hbw)
      obtain ⟨p1, q1, hc1, _, _⟩ := id h1
      subst hc1
      have HO := hideP ho
      have hi := hideP (HKI.out _ _ HI.out hbw)
      clear ho h0 h1
      cases hnb : q z
      · go_wp2_with fail
        refine (HF.out z _ wr hi.out H1.out).mono ?_
        rw [hnb]
        rintro e w2 ⟨rfl, hb2⟩
        go_wp2
        go_ret
        exact ⟨k, rfl, by rw [all_false HO.out hnb]; simp, hbw.trans (hb2.mono hbw.size)⟩
      · go_wp2_with fail
        refine (HF.out z _ wr hi.out H1.out).mono ?_
        rw [hnb]
        rintro e w2 ⟨rfl, hb2⟩
        go_wp2
        go_roundw
        case rel => exact ⟨k + 1, by omega, by go_num, all_snoc HK.out HO.out hnb, hbw.trans (hb2.mono hbw.size)⟩
        case measure => simp [intOf]; omega
    · have hlt' : ¬ (k : Int) < (l.length : Int) := by omega
      go_wp2
      go_ret
      refine ⟨-1, rfl, ?_, hbw⟩
      have := HK.out
      rw [List.take_of_length_le (by omega)] at this
      rw [all_true this]; decide
set_option maxHeartbeats 1000000 in
theorem containsBlks_gen (F : Nat) (caps : Array Value) (I : World → Prop) (q : List Int → Bool) (l : List (List Int)) (v : Value) (w : World) (h : BlksAt w v l) (hI : I w) (hkI : ∀ W W', I W → Below W.heap.size W W' → I W') (hE : Ent F)
    (hF : ∀ (z : List Int) (u : Value) (W : World), I W → IntsAt W u z → Calls Tryz.prog F (#[u] ++ caps) W fun e w' => e = .returned (.bool (!q z)) ∧ Below W.heap.size W w') :
    Calls Tryz.prog 170 #[v, .func (.func F) #[] caps] w fun e w' => e = .returned (.bool (!l.all q)) ∧ Below w.heap.size w w' := by
  go_enter Tryz.func170, Tryz.ntmps170
  go_wp2_with fail
  refine (indexBlks_gen F caps I q l v _ h hI hkI hE hF).mono ?_
  rintro e w2 ⟨r, rfl, hr, hb2⟩
  have HR := hideP hr
  clear hr
  go_wp2
  go_ret
  exact ⟨by rw [← HR.out]; rfl, hb2⟩
theorem ent_check2 : Ent 171 := ent_mk Tryz.func171 (by kernel_rfl) rfl
def StrayBox (bs : Nat) (W : World) : Prop := bs < W.heap.size ∧ W.cell? ⟨bs, 0, none⟩ = some (.func (.func 168) #[] #[])
theorem StrayBox.below {bs : Nat} {W W' : World} (h : StrayBox bs W) (hb : Below W.heap.size W W') : StrayBox bs W' := ⟨Nat.lt_of_lt_of_le h.1 hb.size, (hb.cell (p := ⟨bs, 0, none⟩) h.1).trans h.2⟩
theorem containsStrays_any (L : List (List Int)) (v : Value) (bs : Nat) (w : World) (h : BlksAt w v L) (hb : StrayBox bs w) : Calls Tryz.prog 170 #[v, .func (.func 171) #[] #[.pointer (some ⟨bs, 0, none⟩)]] w fun e w' => e = .returned (.bool (!L.all fun b => b.all isI32)) ∧ Below w.heap.size w w' :=
  containsBlks_gen 171 #[.pointer (some ⟨bs, 0, none⟩)] (StrayBox bs) (fun b => b.all isI32) L v w h hb (fun _ _ h hb => h.below hb) ent_check2 (fun z u W hW hu => bCheck2_any z u bs W hu hW)
set_option maxHeartbeats 1000000 in
theorem cells_any (L : List (List Int)) (v : Value) (w : World) (h : BlksAt w v L) (h8 : L.length ≤ 8) : Calls Tryz.prog 167 #[v] w fun e w' => e = .returned (.int .i64 (cellsN L)) ∧ w' = w := by
  obtain ⟨p, cap, rfl, hm, hc⟩ := h
  have hbd : ∀ k, cellsN (L.take k) ≤ 140737488355328 := fun k => by
    have h1 := cellsN_le L k
    have h2 := cellsN_bound L 17592186044416 fun b hb => by
      obtain ⟨j, hj⟩ := List.getElem?_of_mem hb
      obtain ⟨_, _, _, _, _, _, _, _, h⟩ := hc j b hj
      exact h
    omega
  have HBD := hideP hbd
  clear hbd hm
  go_enter Tryz.func167, Tryz.ntmps167
  go_wp2
  go_loopw [3, 5, 8] (fun s _ i wr => ∃ k : Nat, k ≤ L.length ∧ i = .int .i64 k ∧ s = .int .i64 (cellsN (L.take k)) ∧ wr = w) (fun _ _ i _ => L.length - (intOf i).toNat)
  case atStart => exact ⟨0, Nat.zero_le _, rfl, rfl, rfl⟩
  case round =>
    obtain ⟨k, hk, rfl, rfl, rfl⟩ := hrel
    have HC := hideP hc
    clear hc
    by_cases hlt : k < L.length
    · obtain ⟨z, ho⟩ := at_of_lt hlt
      obtain ⟨b, off, c, rfl, hb, h0, h1, _, h44⟩ := HC.out k _ ho
      obtain ⟨p1, q1, hc1, _, _⟩ := id h1
      subst hc1
      have hs := cellsN_take L k z ho
      have hb1 := HBD.out k
      have HS := hideP hs
      clear ho h1 hs
      generalize cellsN (L.take k) = s at *
      go_wp2
      go_roundw
      case rel => exact ⟨k + 1, by omega, by go_num, by rw [HS.out]; go_num, trivial⟩
      case measure => simp [intOf]; omega
    · have hlt' : ¬ (k : Int) < (L.length : Int) := by omega
      go_wp2
      go_ret
      exact ⟨by simp [List.take_of_length_le (show L.length ≤ k by omega)], rfl⟩
set_option maxRecDepth 100000 in
set_option maxHeartbeats 1000000 in
theorem bCheck_any (L : List (List Int)) (v : Value) (w : World) (h : BlksAt w v L) : Calls Tryz.prog 120 #[v] w fun e w' => e = .returned (.int .i64 (blkErr L)) ∧ Below w.heap.size w w' := by
  obtain ⟨p, cap, hv, hm, _⟩ := id h
  unfold maxLen at hm
  subst hv
  by_cases h8 : 8 < L.length
  · have h8' : (8 : Int) < (L.length : Int) := by omega
    have hd : decide ((L.length : Int) > 8) = true := by simpa using h8'
    have he : blkErr L = 2 := by unfold blkErr; rw [if_pos (.inl h8)]
    rw [he]
    clear h he
    go_enter Tryz.func120, Tryz.ntmps120
    go_wp2
    go_ret
    exact ⟨rfl, Below.refl _ _⟩
  · have h8' : ¬ (8 : Int) < (L.length : Int) := by omega
    have hd : decide ((L.length : Int) > 8) = false := by simp; omega
    have H := hideP h
    clear h
    by_cases h40 : 40 < cellsN L
    · have h40' : (40 : Int) < (cellsN L : Int) := by omega
      have he : blkErr L = 2 := by unfold blkErr; rw [if_pos (.inr h40)]
      rw [he]
      clear he
      go_enter Tryz.func120, Tryz.ntmps120
      go_wp2_with (go_at_call 167; refine (cells_any L _ _ H.out (by omega)).mono ?_; rintro e w' ⟨rfl, hw⟩; have hw := hw.symm; subst hw)
      go_ret
      exact ⟨rfl, Below.refl _ _⟩
    · have h40' : ¬ (40 : Int) < (cellsN L : Int) := by omega
      have he : blkErr L = if (L.all fun b => b.all isI32) = true then 0 else 3 := by unfold blkErr; rw [if_neg (by omega)]
      rw [he]
      clear he
      have hB := (Below.refl w.heap.size w).alloc (Nat.le_refl _) (.cells #[.func (.func 168) #[] #[]] 74)
      have hx := World.alloc_heap_new w (.cells #[.func (.func 168) #[] #[]] 74)
      have hS : StrayBox w.heap.size (w.alloc (.cells #[.func (.func 168) #[] #[]] 74)) := ⟨heap_lt hx, by rw [cell_at' hx 0]; rfl⟩
      have HS := hideP hS
      have HA := hideP (H.out.below hB)
      clear hx hS
      cases hall : (L.all fun b => b.all isI32)
      all_goals
        go_enter Tryz.func120, Tryz.ntmps120
        go_wp2_with (first | (go_at_call 167; refine (cells_any L _ _ H.out (by omega)).mono ?_; rintro e w' ⟨rfl, hw⟩; have hw := hw.symm; subst hw) | (go_at_call 170; refine (containsStrays_any L _ _ _ HA.out HS.out).mono ?_; rw [hall]; rintro e w2 ⟨rfl, hb2⟩))
        go_ret
        exact ⟨rfl, hB.trans (hb2.mono hB.size)⟩
end Go.Proofs.YtcadpoknolefpaaGreat


