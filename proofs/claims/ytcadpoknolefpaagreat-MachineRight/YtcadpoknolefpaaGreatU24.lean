/- My texts Qg Qh Qi Ma Mb, joined. -/
import Derived.Maps.AppendAt
import Derived.Test.YtcadpoknolefpaaGreatU7
import Derived.Test.YtcadpoknolefpaaGreatU11
import Derived.Test.YtcadpoknolefpaaGreatU21
import Derived.Test.YtcadpoknolefpaaGreatU23
/- Only the innermost frame is other behind a step, plainly. -/
namespace Go.Proofs.YtcadpoknolefpaaGreat
open Go.RowKit
set_option linter.unusedSimpArgs false
set_option linter.unusedVariables false
structure OuterM (m n : Mach) : Prop where
  few : m.frames.length ≤ n.frames.length + 1
  many : n.frames.length ≤ m.frames.length + 1
  blocks : m.blocks.length ≤ n.blocks.length
  each : ∀ (i : Nat) (b : List Int), m.blocks[i]? = some b → ∃ b' : List Int, n.blocks[i]? = some b' ∧ b'.length = b.length
  out : m.out.length ≤ n.out.length ∧ n.out.take m.out.length = m.out
  inp : n.inp.length ≤ m.inp.length ∧ n.inp = m.inp.drop (m.inp.length - n.inp.length)
  frames : ∀ i, (i + 2 < m.frames.length ∨ (i + 1 < m.frames.length ∧ m.frames.length ≤ n.frames.length)) → n.frames[i]? = m.frames[i]?
theorem each_refl (L : List (List Int)) : ∀ (i : Nat) (b : List Int), L[i]? = some b → ∃ b' : List Int, L[i]? = some b' ∧ b'.length = b.length := fun i b h => ⟨b, h, rfl⟩
theorem outer_refl (m : Mach) (st tr : Int) : OuterM m { m with status := st, trap := tr } := ⟨by simp, by simp, by simp, each_refl _, by simp, by simp, fun i _ => rfl⟩
theorem outer_frames {m : Mach} {x : Frm} (hl : m.frames.getLast? = some x) {ys : List Frm} (h1 : 1 ≤ ys.length) (h2 : ys.length ≤ 2) {B : List (List Int)} {I O : List Int} (hb : m.blocks.length ≤ B.length) (he : ∀ (i : Nat) (b : List Int), m.blocks[i]? = some b → ∃ b' : List Int, B[i]? = some b' ∧ b'.length = b.length) (ho : m.out.length ≤ O.length ∧ O.take m.out.length = m.out) (hi : I.length ≤ m.inp.length ∧ I = m.inp.drop (m.inp.length - I.length)) :
    OuterM m { m with frames := m.frames.dropLast ++ ys, blocks := B, inp := I, out := O } := by
  have hs := last_split hl
  have hlen : m.frames.length = m.frames.dropLast.length + 1 := by rw [hs]; simp
  refine ⟨by simp; omega, by simp; omega, hb, he, ho, hi, fun i h => ?_⟩
  simp only [List.length_append] at h
  have hi2 : i < m.frames.dropLast.length := by omega
  show (m.frames.dropLast ++ ys)[i]? = _
  rw [List.getElem?_append_left hi2]
  conv => rhs; rw [hs]
  rw [List.getElem?_append_left hi2]
theorem out_refl (l : List Int) : l.length ≤ l.length ∧ l.take l.length = l := by simp
theorem in_refl (l : List Int) : l.length ≤ l.length ∧ l = l.drop (l.length - l.length) := by simp
theorem outer_ite {m : Mach} {c : Prop} [Decidable c] {a b : Mach} (h1 : OuterM m a) (h2 : OuterM m b) : OuterM m (if c then a else b) := by
  split
  · exact h1
  · exact h2
theorem outer_step {p : List Fn} {m : Mach} {x : Frm} {o : Int × Int} (hl : m.frames.getLast? = some x) : OuterM m (doOp p m x o) := by
  have hput : ∀ x' : Frm, OuterM m (putF m x') := fun x' => outer_frames hl (ys := [x']) (by simp) (by simp) (Nat.le_refl _) (each_refl _) (out_refl _) (in_refl _)
  have htrap : ∀ why, OuterM m (trapM m why) := fun why => outer_refl m 3 why
  have hself : OuterM m m := outer_refl m m.status m.trap
  unfold doOp
  repeat' refine outer_ite ?_ ?_
  all_goals first
    | exact hput _
    | exact htrap _
    | exact hself
    | exact outer_refl m 1 m.trap
    | skip
  · cases p[o.2.toNat]? with
    | none => exact hself
    | some g => exact outer_frames hl (by simp) (by simp) (Nat.le_refl _) (each_refl _) (out_refl _) (in_refl _)
  · have hs := last_split hl
    have hlen : m.frames.length = m.frames.dropLast.length + 1 := by rw [hs]; simp
    cases hy : m.frames.dropLast.getLast? with
    | none =>
      have hd : m.frames.dropLast = [] := List.getLast?_eq_none_iff.1 hy
      rw [hd] at hlen
      exact ⟨by simp; simp at hlen; omega, by simp, by simp, each_refl _, out_refl _, in_refl _, fun i h => by simp at h hlen; omega⟩
    | some y =>
      have hs2 := last_split hy
      have hlen2 : m.frames.dropLast.length = m.frames.dropLast.dropLast.length + 1 := by rw [hs2]; simp
      refine ⟨by simp at hlen2 ⊢; omega, by simp at hlen2 ⊢; omega, by simp, each_refl _, out_refl _, in_refl _, fun i h => ?_⟩
      simp only [List.length_append, List.length_singleton] at h
      have hi2 : i < m.frames.dropLast.dropLast.length := by omega
      show (m.frames.dropLast.dropLast ++ _)[i]? = _
      rw [List.getElem?_append_left hi2]
      conv => rhs; rw [hs, hs2]
      rw [List.append_assoc, List.getElem?_append_left hi2]
  · exact outer_frames hl (ys := [_]) (by simp) (by simp) (by simp [newL]) (fun i b h => ⟨b, by unfold newL; rw [List.getElem?_append_left (lt_of_at h)]; exact h, rfl⟩) (out_refl _) (in_refl _)
  · refine outer_frames hl (ys := [_]) (by simp) (by simp) (by simp [setL]) (fun i b h => ?_) (out_refl _) (in_refl _)
    unfold setL
    by_cases hi : i = ((topV x.stk 2).2 - 1).toNat
    · refine ⟨_, by rw [hi, List.getElem?_set_self (by rw [← hi]; exact lt_of_at h)], ?_⟩
      rw [List.length_set, blkAt, ← hi, h]
      rfl
    · exact ⟨b, by rw [List.getElem?_set_ne (fun e => hi e.symm)]; exact h, rfl⟩
  · exact outer_frames hl (ys := [_]) (by simp) (by simp) (Nat.le_refl _) (each_refl _) ⟨by simp, by simp⟩ (in_refl _)
  · refine outer_frames hl (ys := [_]) (by simp) (by simp) (Nat.le_refl _) (each_refl _) (out_refl _) ⟨by simp, ?_⟩
    cases hi : m.inp with
    | nil => simp
    | cons a r => simp
end Go.Proofs.YtcadpoknolefpaaGreat
/- Only a send sends, only a recv takes what came, only a call goes deeper, plainly. -/
namespace Go.Proofs.YtcadpoknolefpaaGreat
open Go.RowKit
set_option linter.unusedSimpArgs false
set_option linter.unusedVariables false
structure SendsM (c : Int) (m n : Mach) : Prop where
  out : m.out.length < n.out.length → c = 20
  inp : n.inp.length < m.inp.length → c = 21
  deep : m.frames.length < n.frames.length → c = 12
  back : n.frames.length < m.frames.length → c = 13
  blocks : m.blocks.length < n.blocks.length → c = 14
  done : n.status = 2 → m.frames.length = 1
  wait : n.status = 1 → m.inp = []
theorem sends_ite {c0 : Int} {m : Mach} {c : Prop} [Decidable c] {a b : Mach} (h1 : c → SendsM c0 m a) (h2 : ¬ c → SendsM c0 m b) : SendsM c0 m (if c then a else b) := by
  split
  · exact h1 ‹_›
  · exact h2 ‹_›
theorem sends_step {p : List Fn} {m : Mach} {x : Frm} {o : Int × Int} (hl : m.frames.getLast? = some x) (hst : m.status ≠ 2) (hw : m.status = 1 → m.inp = []) : SendsM o.1 m (doOp p m x o) := by
  have hs := last_split hl
  have hlen : m.frames.length = m.frames.dropLast.length + 1 := by rw [hs]; simp
  have hput : ∀ x' : Frm, SendsM o.1 m (putF m x') := fun x' => by
    refine ⟨fun h => ?_, fun h => ?_, fun h => ?_, fun h => ?_, fun h => ?_, fun h => absurd h hst, hw⟩ <;> simp [putF] at h hlen <;> omega
  have htrap : ∀ why, SendsM o.1 m (trapM m why) := fun why => by
    refine ⟨fun h => ?_, fun h => ?_, fun h => ?_, fun h => ?_, fun h => ?_, fun h => ?_, fun h => ?_⟩ <;> simp [trapM] at h
  have hself : SendsM o.1 m m := by
    refine ⟨fun h => ?_, fun h => ?_, fun h => ?_, fun h => ?_, fun h => ?_, fun h => absurd h hst, hw⟩ <;> omega
  unfold doOp
  repeat' refine sends_ite (fun hc => ?_) (fun hc => ?_)
  all_goals first
    | exact hput _
    | exact htrap _
    | exact hself
    | skip
  · refine ⟨fun h => ?_, fun h => ?_, fun h => ?_, fun h => ?_, fun h => ?_, fun h => ?_, fun h => hc.2⟩ <;> simp at h
  · cases p[o.2.toNat]? with
    | none => exact hself
    | some g =>
      refine ⟨fun h => ?_, fun h => ?_, fun h => ?_, fun h => ?_, fun h => ?_, fun h => absurd h hst, hw⟩ <;> simp at h hlen <;> omega
  · cases hy : m.frames.dropLast.getLast? with
    | none =>
      have hd : m.frames.dropLast = [] := List.getLast?_eq_none_iff.1 hy
      rw [hd] at hlen
      refine ⟨fun h => ?_, fun h => ?_, fun h => ?_, fun h => ?_, fun h => ?_, fun h => hlen, fun h => ?_⟩ <;> simp at h hlen <;> omega
    | some y =>
      refine ⟨fun h => ?_, fun h => ?_, fun h => ?_, fun h => ?_, fun h => ?_, fun h => absurd h hst, hw⟩ <;> simp at h hlen <;> omega
  · refine ⟨fun h => ?_, fun h => ?_, fun h => ?_, fun h => ?_, fun h => ?_, fun h => absurd h hst, hw⟩ <;> simp [onF, putF] at h hlen <;> omega
  · refine ⟨fun h => ?_, fun h => ?_, fun h => ?_, fun h => ?_, fun h => ?_, fun h => absurd h hst, hw⟩ <;> simp [onF, putF, setL] at h hlen <;> omega
  · refine ⟨fun h => ?_, fun h => ?_, fun h => ?_, fun h => ?_, fun h => ?_, fun h => absurd h hst, hw⟩ <;> simp [onF, putF] at h hlen <;> omega
  · refine ⟨fun h => ?_, fun h => ?_, fun h => ?_, fun h => ?_, fun h => ?_, fun h => absurd h hst, fun h => ?_⟩
    · simp [onF, putF] at h
    · omega
    · simp [onF, putF] at h hlen <;> omega
    · simp [onF, putF] at h hlen <;> omega
    · simp [onF, putF] at h
    · have h' : m.status = 1 := h
      have := hw h'
      show m.inp = []
      exact this
end Go.Proofs.YtcadpoknolefpaaGreat
/- Why a step traps, plainly: a reason that its op has, and nothing else is other. -/
namespace Go.Proofs.YtcadpoknolefpaaGreat
open Go.RowKit
set_option linter.unusedSimpArgs false
set_option linter.unusedVariables false
def TrapOk (c : Int) (m : Mach) (why : Int) : Prop := ((c = 15 ∨ c = 16) ∧ (why = 1 ∨ why = 2)) ∨ (c = 17 ∧ why = 1) ∨ (c = 14 ∧ why = 3) ∨ (c = 12 ∧ why = 4 ∧ m.frames.length = 6) ∨ (c = 20 ∧ why = 5 ∧ m.out.length = 10)
def TrapsM (c : Int) (m n : Mach) : Prop := n.status = 3 → ∃ why, n = trapM m why ∧ TrapOk c m why
theorem traps_ite {c0 : Int} {m : Mach} {c : Prop} [Decidable c] {a b : Mach} (h1 : c → TrapsM c0 m a) (h2 : ¬ c → TrapsM c0 m b) : TrapsM c0 m (if c then a else b) := by
  split
  · exact h1 ‹_›
  · exact h2 ‹_›
theorem traps_step {p : List Fn} {m : Mach} {x : Frm} {o : Int × Int} (hst : m.status ≠ 3) : TrapsM o.1 m (doOp p m x o) := by
  have hno : ∀ n : Mach, n.status = m.status → TrapsM o.1 m n := fun n h hn => absurd (h.symm.trans hn) hst
  unfold doOp
  repeat' refine traps_ite (fun hc => ?_) (fun hc => ?_)
  all_goals first
    | exact hno _ rfl
    | (exact fun _ => ⟨_, rfl, .inl ⟨.inl ‹_›, .inl rfl⟩⟩)
    | (exact fun _ => ⟨_, rfl, .inl ⟨.inl ‹_›, .inr rfl⟩⟩)
    | (exact fun _ => ⟨_, rfl, .inl ⟨.inr ‹_›, .inl rfl⟩⟩)
    | (exact fun _ => ⟨_, rfl, .inl ⟨.inr ‹_›, .inr rfl⟩⟩)
    | (exact fun _ => ⟨_, rfl, .inr (.inl ⟨‹_›, rfl⟩)⟩)
    | (exact fun _ => ⟨_, rfl, .inr (.inr (.inl ⟨‹_›, rfl⟩))⟩)
    | (exact fun _ => ⟨_, rfl, .inr (.inr (.inr (.inl ⟨‹_›, rfl, ‹_›⟩)))⟩)
    | (exact fun _ => ⟨_, rfl, .inr (.inr (.inr (.inr ⟨‹_›, rfl, ‹_›⟩)))⟩)
    | skip
  · exact fun hn => by simp at hn
  · cases p[o.2.toNat]? with
    | none => exact hno _ rfl
    | some g => exact hno _ rfl
  · cases m.frames.dropLast.getLast? with
    | none => exact fun hn => by simp at hn
    | some y => exact hno _ rfl
end Go.Proofs.YtcadpoknolefpaaGreat
/- Values, frames and machines in memory. -/
namespace Go.Proofs.YtcadpoknolefpaaGreat
open Go.RowKit
set_option linter.unusedSimpArgs false
set_option linter.unusedVariables false
/-- the cells of values. -/
def valCells (l : List Val) : List Value := l.flatMap fun v => [.bool v.1, .int .i64 v.2]
theorem valCells_nil : valCells [] = [] := rfl
theorem valCells_append (l m : List Val) : valCells (l ++ m) = valCells l ++ valCells m := by simp [valCells]
theorem valCells_length (l : List Val) : (valCells l).length = l.length * 2 := by
  induction l with
  | nil => rfl
  | cons o r ih => simp [valCells] at *; omega
theorem valCells_at (l : List Val) : ∀ (k : Nat) (o : Val), l[k]? = some o → (valCells l)[k * 2]? = some (.bool o.1) ∧ (valCells l)[k * 2 + 1]? = some (.int .i64 o.2) := by
  induction l with
  | nil => intro k o h; simp at h
  | cons x r ih =>
    intro k o h
    cases k with
    | zero => simp at h; subst h; simp [valCells]
    | succ k =>
      have := ih k o (by simpa using h)
      rw [show (k + 1) * 2 = k * 2 + 1 + 1 from by omega]
      simpa [valCells] using this
theorem valCells_one (l : List Val) : ∀ u ∈ valCells l, u.oneCell' = true := by
  intro u hu
  obtain ⟨o, _, ho⟩ := List.mem_flatMap.1 hu
  simp at ho
  rcases ho with rfl | rfl <;> rfl
theorem valCells_take (l : List Val) (n : Nat) : (valCells l).take (n * 2) = valCells (l.take n) := by
  induction l generalizing n with
  | nil => simp [valCells]
  | cons x r ih =>
    cases n with
    | zero => simp [valCells]
    | succ n =>
      rw [show (n + 1) * 2 = n * 2 + 1 + 1 from by omega]
      simpa [valCells] using ih n
theorem valCells_set (l : List Val) (k : Nat) (x : Val) : ((valCells l).set (k * 2) (.bool x.1)).set (k * 2 + 1) (.int .i64 x.2) = valCells (l.set k x) := by
  induction l generalizing k with
  | nil => simp [valCells]
  | cons y r ih =>
    cases k with
    | zero => simp [valCells]
    | succ k =>
      have := ih k
      rw [show (k + 1) * 2 = k * 2 + 1 + 1 from by omega]
      simpa [valCells] using this
/-- the slice 'v' holds the values 'l'. -/
def ValsAt (w : World) (v : Value) (l : List Val) : Prop :=
  ∃ (p : Option Addr) (cap : Nat), v = .slice p l.length cap ∧ l.length ≤ maxLen ∧ ∀ k o, l[k]? = some o →
    ∃ b off, p = some ⟨b, off, none⟩ ∧ b < w.heap.size ∧ w.cell? ⟨b, off + k * 2, none⟩ = some (.bool o.1) ∧ w.cell? ⟨b, off + k * 2 + 1, none⟩ = some (.int .i64 o.2)
theorem ValsAt.below {w w' : World} {v : Value} {l : List Val} (h : ValsAt w v l) (hb : Below w.heap.size w w') : ValsAt w' v l := by
  obtain ⟨p, cap, rfl, hm, hc⟩ := h
  refine ⟨p, cap, rfl, hm, fun k o hk => ?_⟩
  obtain ⟨b, off, rfl, hlt, h0, h1⟩ := hc k o hk
  exact ⟨b, off, rfl, Nat.lt_of_lt_of_le hlt hb.size, (hb.cell (p := ⟨b, off + k * 2, none⟩) hlt).trans h0, (hb.cell (p := ⟨b, off + k * 2 + 1, none⟩) hlt).trans h1⟩
theorem valsAt_of_row {W : World} {base : Nat} {v : Value} {l : List Val} (h : W.ownsRow base 50 2 v l.length (valCells l)) : ValsAt W v l := by
  rcases h.2 with ⟨rfl, h0⟩ | ⟨g, cap, cur, rfl, hb, hg, hn, hc, hs, ht⟩
  · refine ⟨none, 0, by rw [h0], by rw [h0]; exact Nat.zero_le _, fun k o hk => ?_⟩
    have := lt_of_at hk
    omega
  · refine ⟨_, cap, rfl, by omega, fun k o hk => ⟨g, 0, rfl, heap_lt hg, ?_, ?_⟩⟩
    · have hk2 := lt_of_at hk
      have := (valCells_at l k o hk).1
      rw [← ht, List.getElem?_take_of_lt (by omega)] at this
      rw [cell_at' hg]; simpa using this
    · have hk2 := lt_of_at hk
      have := (valCells_at l k o hk).2
      rw [← ht, List.getElem?_take_of_lt (by omega)] at this
      rw [cell_at' hg]; simpa using this
theorem vals_cells {w : World} {p : Option Addr} {n cap : Nat} {l : List Val} (h : ValsAt w (.slice p n cap) l) (ad : Addr) (hp : p = some ad) : ∀ (j : Nat) (u : Value), (valCells l)[j]? = some u → w.cell? (ad.add j) = some u := by
  obtain ⟨q, c, he, _, hc⟩ := h
  cases he
  intro j u hj
  have hlt := lt_of_at hj
  rw [valCells_length] at hlt
  obtain ⟨o, ho⟩ : ∃ o, l[j / 2]? = some o := ⟨l[j / 2]'(by omega), List.getElem?_eq_some_iff.2 ⟨by omega, rfl⟩⟩
  obtain ⟨b, off, hp2, _, h0, h1⟩ := hc _ o ho
  rw [hp] at hp2
  cases hp2
  have hx := valCells_at l _ o ho
  rcases Nat.mod_two_eq_zero_or_one j with hm | hm
  · have e : j / 2 * 2 = j := by omega
    rw [e] at h0 hx
    rw [hx.1] at hj
    cases hj
    rw [add_at]; exact h0
  · have e : j / 2 * 2 + 1 = j := by omega
    have e' : off + j / 2 * 2 + 1 = off + j := by omega
    rw [e] at hx
    rw [e'] at h1
    rw [hx.2] at hj
    cases hj
    rw [add_at]; exact h1
theorem infoVal : (Tryz.prog.info? 50).map (fun i => (i.zero, i.size, i.bytes)) = some (some (.agg #[.bool false, .int .i64 0]), 2, 16) := by kernel_rfl
/-- append of values in memory onto a row of the call's own: the row's own block, or a new one. -/
theorem wpList_append_vals {w : World} {ops : Array Oper} {rest : List Oper} {o : Oper} {a : Act} {Q : Exit → Act → World → Prop} (hgd : o.guard = none) (s x : Operand)
    (ho : o.op = .call { callee := .builtin .append, args := #[s, x], argTypes := #[46, 46] }) (base : Nat)
    (v : Value) (n : Nat) (xs : List Value) (hs : a.eval s = v) (hown : w.ownsRow base 50 2 v n xs)
    (u : Value) (l : List Val) (hx : a.eval x = u) (hu : ValsAt w u l) (hnil : NilOk u)
    (h63 : n + l.length ≤ maxLen) (hbytes : (n + l.length) * 16 ≤ 140737488355328) (hbase : base ≤ w.heap.size)
    (h : ∀ v' w', w'.ownsRow base 50 2 v' (n + l.length) (xs ++ valCells l) → w.grownBy w' v.ownBlock → (v'.ownBlock = v.ownBlock ∨ v'.ownBlock = some w.heap.size) → wpList Tryz.prog ops Q rest (a.put o.dst v') w') : wpList Tryz.prog ops Q (o :: rest) a w := by
  obtain ⟨i0, hi, hz0, hz1, hz2⟩ := info_parts infoVal
  have hu' := hu
  obtain ⟨p, cap, rfl, hm, hc⟩ := hu'
  cases p with
  | none =>
    have hl : l = [] := by
      cases l with
      | nil => rfl
      | cons o r => obtain ⟨b, off, hb, _⟩ := hc 0 o rfl; cases hb
    subst hl
    have hcap : cap = 0 := hnil _ _ rfl
    subst hcap
    exact wpList_append_own_none hgd s x 46 ho base 50 i0 2 Tryz.underlying46 hi v n xs hs hown hx (h v w (by simpa [valCells] using hown) (World.grownBy.refl _ _) (.inl rfl))
  | some ad =>
    exact wpList_append_own_at w hgd s x 46 ho base 50 i0 (.agg #[.bool false, .int .i64 0]) 2 16 Tryz.underlying46 hi hz0 hz1 hz2 rfl (by decide) v n xs hs hown ad l.length cap (valCells l) hx (valCells_length l)
      (vals_cells hu ad rfl) (valCells_one l) h63 hbytes hbase (fun v' w' h1 h2 _ h4 => h v' w' h1 h2 h4)
/-- rows of values in memory of the call's own, no two of them one. -/
structure VRows (W : World) (B : Nat) (q : List Value) (L : List (List Val)) : Prop where
  len : q.length = L.length
  each : ∀ (k : Nat) (x : Value) (b : List Val), q[k]? = some x → L[k]? = some b → W.ownsRow B 50 2 x b.length (valCells b)
  apart : ∀ (i j : Nat) (x y : Value) (g : Nat), q[i]? = some x → q[j]? = some y → x.ownBlock = some g → y.ownBlock = some g → i = j
theorem vRows_nil (W : World) (B : Nat) : VRows W B [] [] := ⟨rfl, fun k x b h => by simp at h, fun i j x y g h => by simp at h⟩
theorem VRows.row {W : World} {B : Nat} {q : List Value} {L : List (List Val)} (h : VRows W B q L) {k : Nat} {x : Value} (hx : q[k]? = some x) : ∃ b, L[k]? = some b ∧ W.ownsRow B 50 2 x b.length (valCells b) := by
  obtain ⟨b, h2⟩ := at_of_lt (l := L) (k := k) (by rw [← h.len]; exact lt_of_at hx)
  exact ⟨b, h2, h.each k x b hx h2⟩
theorem VRows.low {W : World} {B B' : Nat} {q : List Value} {L : List (List Val)} (h : VRows W B q L) (hB : B' ≤ B) : VRows W B' q L :=
  ⟨h.len, fun k x b h1 h2 => row_low (h.each k x b h1 h2) hB, h.apart⟩
theorem VRows.same {W W' : World} {B : Nat} {q : List Value} {L : List (List Val)} (h : VRows W B q L) (hk : ∀ (k : Nat) (x : Value) (g : Nat), q[k]? = some x → x.ownBlock = some g → W'.heap[g]? = W.heap[g]?) : VRows W' B q L :=
  ⟨h.len, fun k x b h1 h2 => row_same (h.each k x b h1 h2) fun g hg => hk k x g h1 hg, h.apart⟩
theorem VRows.lt {W : World} {B : Nat} {q : List Value} {L : List (List Val)} (h : VRows W B q L) {k : Nat} {x : Value} {g : Nat} (hx : q[k]? = some x) (hg : x.ownBlock = some g) : B ≤ g ∧ g < W.heap.size ∧ ∃ cs, W.heap[g]? = some (.cells cs 50 (0, 0)) := by
  obtain ⟨b, _, hr⟩ := h.row hx
  refine ⟨(hr.lt g hg).1, (hr.lt g hg).2, ?_⟩
  rcases hr.2 with ⟨rfl, _⟩ | ⟨g', cap, cur, rfl, _, hh, _⟩
  · cases hg
  · cases hg; exact ⟨_, hh⟩
theorem VRows.below {W W' : World} {B : Nat} {q : List Value} {L : List (List Val)} (h : VRows W B q L) (hb : Below W.heap.size W W') : VRows W' B q L :=
  h.same fun k x g h1 hg => hb.block g (h.lt h1 hg).2.1
theorem VRows.snoc {W : World} {B : Nat} {q : List Value} {L : List (List Val)} {x : Value} {b : List Val} (h : VRows W B q L) (hx : W.ownsRow B 50 2 x b.length (valCells b)) (hn : ∀ (k : Nat) (y : Value) (g : Nat), q[k]? = some y → y.ownBlock = some g → x.ownBlock ≠ some g) : VRows W B (q ++ [x]) (L ++ [b]) := by
  have key : ∀ (k : Nat) (y : Value), (q ++ [x])[k]? = some y → (k < q.length ∧ q[k]? = some y) ∨ (k = q.length ∧ y = x) := by
    intro k y hk
    by_cases hl : k < q.length
    · rw [List.getElem?_append_left hl] at hk; exact .inl ⟨hl, hk⟩
    · rw [List.getElem?_append_right (by omega)] at hk
      have h0 : k - q.length = 0 := by have := lt_of_at hk; simp at this; omega
      rw [h0] at hk; simp at hk
      exact .inr ⟨by omega, hk.symm⟩
  refine ⟨by simp [h.len], fun k y c hy hc => ?_, fun i j y z g hy hz gy gz => ?_⟩
  · rcases key k y hy with ⟨h1, h2⟩ | ⟨rfl, rfl⟩
    · rw [List.getElem?_append_left (by rw [← h.len]; exact h1)] at hc
      exact h.each k y c h2 hc
    · rw [List.getElem?_append_right (by rw [h.len]; omega), h.len, Nat.sub_self] at hc
      simp at hc; subst hc
      exact hx
  · rcases key i y hy with ⟨h1, h2⟩ | ⟨rfl, rfl⟩
    · rcases key j z hz with ⟨h3, h4⟩ | ⟨rfl, rfl⟩
      · exact h.apart i j y z g h2 h4 gy gz
      · exact absurd gz (hn i y g h2 gy)
    · rcases key j z hz with ⟨h3, h4⟩ | ⟨rfl, rfl⟩
      · exact absurd gy (hn j z g h4 gz)
      · rfl
/-- one row is another one: in its own block, or in a new one. -/
theorem VRows.put {W W' : World} {B : Nat} {q : List Value} {L : List (List Val)} {k : Nat} {x y : Value} {b : List Val} (h : VRows W B q L) (hk : q[k]? = some x) (hg : W.grownBy W' x.ownBlock) (hy : W'.ownsRow B 50 2 y b.length (valCells b)) (hat : ∀ g, y.ownBlock = some g → x.ownBlock = some g ∨ W.heap.size ≤ g) : VRows W' B (q.set k y) (L.set k b) := by
  have hlt := lt_of_at hk
  refine ⟨by simp [h.len], fun i z c hz hc => ?_, fun i j z u g hz hu gz gu => ?_⟩
  · by_cases e : k = i
    · subst e
      rw [List.getElem?_set_self hlt] at hz
      rw [List.getElem?_set_self (by rw [← h.len]; exact hlt)] at hc
      cases hz; cases hc
      exact hy
    · rw [List.getElem?_set_ne e] at hz hc
      refine row_same (h.each i z c hz hc) fun g hgz => hg.block g (h.lt hz hgz).2.1 fun e2 => ?_
      exact e (h.apart k i x z g hk hz e2.symm hgz)
  · by_cases e : k = i
    · by_cases e' : k = j
      · omega
      · subst e
        rw [List.getElem?_set_self hlt] at hz
        rw [List.getElem?_set_ne e'] at hu
        cases hz
        rcases hat g gz with h1 | h1
        · exact h.apart k j x u g hk hu h1 gu
        · have := (h.lt hu gu).2.1; omega
    · rw [List.getElem?_set_ne e] at hz
      by_cases e' : k = j
      · subst e'
        rw [List.getElem?_set_self hlt] at hu
        cases hu
        rcases hat g gu with h1 | h1
        · exact h.apart i k z x g hz hk gz h1
        · have := (h.lt hz gz).2.1; omega
      · rw [List.getElem?_set_ne e'] at hu
        exact h.apart i j z u g hz hu gz gu
theorem VRows.take {W : World} {B : Nat} {q : List Value} {L : List (List Val)} (h : VRows W B q L) (n : Nat) : VRows W B (q.take n) (L.take n) := by
  have key : ∀ {α : Type} (l : List α) (k : Nat) (x : α), (l.take n)[k]? = some x → l[k]? = some x := fun l k x hx => by
    by_cases hl : k < n
    · rwa [List.getElem?_take_of_lt hl] at hx
    · rw [List.getElem?_eq_none (by simp; omega)] at hx; cases hx
  exact ⟨by simp [h.len], fun k x b h1 h2 => h.each k x b (key _ _ _ h1) (key _ _ _ h2), fun i j x y g h1 h2 => h.apart i j x y g (key _ _ _ h1) (key _ _ _ h2)⟩
/-- a shorter slice of a row is a row. -/
theorem row_cut {W : World} {B : Nat} {e : TypeId} {size n cap g : Nat} {xs : List Value} (h : W.ownsRow B e size (.slice (some ⟨g, 0, none⟩) n cap) n xs) (m : Nat) (hm : m ≤ n) : W.ownsRow B e size (.slice (some ⟨g, 0, none⟩) m cap) m (xs.take (m * size)) := by
  rcases h.2 with ⟨h1, _⟩ | ⟨g', cap', cur, h1, h2, h3, h4, h5, h6, h7⟩
  · cases h1
  · cases h1
    have hle : m * size ≤ n * size := Nat.mul_le_mul_right _ hm
    refine ⟨by rw [List.length_take, h.1]; omega, .inr ⟨g, cap, cur, rfl, h2, h3, by omega, h5, h6, ?_⟩⟩
    rw [← h7, List.take_take, Nat.min_eq_left hle]
end Go.Proofs.YtcadpoknolefpaaGreat
/- Frames and machines in memory of the call's own, and what can be read of any. -/
namespace Go.Proofs.YtcadpoknolefpaaGreat
open Go.RowKit
set_option linter.unusedSimpArgs false
set_option linter.unusedVariables false
/-- what stands in a frame's cells. -/
structure FV where
  fn : Int
  pc : Int
  lv : Value
  sv : Value
def fCells (q : List FV) : List Value := q.flatMap fun c => [.int .i64 c.fn, .int .i64 c.pc, c.lv, c.sv]
def fRows (q : List FV) : List Value := q.flatMap fun c => [c.lv, c.sv]
def fVals (F : List Frm) : List (List Val) := F.flatMap fun x => [x.loc, x.stk]
theorem fCells_append (q r : List FV) : fCells (q ++ r) = fCells q ++ fCells r := by simp [fCells]
theorem fRows_append (q r : List FV) : fRows (q ++ r) = fRows q ++ fRows r := by simp [fRows]
theorem fVals_append (q r : List Frm) : fVals (q ++ r) = fVals q ++ fVals r := by simp [fVals]
theorem fCells_length (q : List FV) : (fCells q).length = q.length * 4 := by
  induction q with
  | nil => rfl
  | cons o r ih => simp [fCells] at *; omega
theorem fRows_length (q : List FV) : (fRows q).length = q.length * 2 := by
  induction q with
  | nil => rfl
  | cons o r ih => simp [fRows] at *; omega
theorem fVals_length (q : List Frm) : (fVals q).length = q.length * 2 := by
  induction q with
  | nil => rfl
  | cons o r ih => simp [fVals] at *; omega
theorem fCells_at (q : List FV) : ∀ (k : Nat) (c : FV), q[k]? = some c → (fCells q)[k * 4]? = some (.int .i64 c.fn) ∧ (fCells q)[k * 4 + 1]? = some (.int .i64 c.pc) ∧ (fCells q)[k * 4 + 2]? = some c.lv ∧ (fCells q)[k * 4 + 3]? = some c.sv := by
  induction q with
  | nil => intro k o h; simp at h
  | cons x r ih =>
    intro k o h
    cases k with
    | zero => simp at h; subst h; simp [fCells]
    | succ k =>
      have := ih k o (by simpa using h)
      rw [show (k + 1) * 4 = k * 4 + 1 + 1 + 1 + 1 from by omega]
      simpa [fCells] using this
theorem fRows_at (q : List FV) : ∀ (k : Nat) (c : FV), q[k]? = some c → (fRows q)[k * 2]? = some c.lv ∧ (fRows q)[k * 2 + 1]? = some c.sv := by
  induction q with
  | nil => intro k o h; simp at h
  | cons x r ih =>
    intro k o h
    cases k with
    | zero => simp at h; subst h; simp [fRows]
    | succ k =>
      have := ih k o (by simpa using h)
      rw [show (k + 1) * 2 = k * 2 + 1 + 1 from by omega]
      simpa [fRows] using this
theorem fVals_at (q : List Frm) : ∀ (k : Nat) (c : Frm), q[k]? = some c → (fVals q)[k * 2]? = some c.loc ∧ (fVals q)[k * 2 + 1]? = some c.stk := by
  induction q with
  | nil => intro k o h; simp at h
  | cons x r ih =>
    intro k o h
    cases k with
    | zero => simp at h; subst h; simp [fVals]
    | succ k =>
      have := ih k o (by simpa using h)
      rw [show (k + 1) * 2 = k * 2 + 1 + 1 from by omega]
      simpa [fVals] using this
/-- frames that can be read. -/
def FrmsAt (w : World) (v : Value) (F : List Frm) : Prop :=
  ∃ (p : Option Addr) (cap : Nat), v = .slice p F.length cap ∧ F.length ≤ maxLen ∧ F.length ≤ cap ∧ ∀ k x, F[k]? = some x →
    ∃ g off lv sv, p = some ⟨g, off, none⟩ ∧ g < w.heap.size ∧ w.cell? ⟨g, off + k * 4, none⟩ = some (.int .i64 x.fn) ∧ w.cell? ⟨g, off + k * 4 + 1, none⟩ = some (.int .i64 x.pc) ∧ w.cell? ⟨g, off + k * 4 + 2, none⟩ = some lv ∧ w.cell? ⟨g, off + k * 4 + 3, none⟩ = some sv ∧ ValsAt w lv x.loc ∧ NilOk lv ∧ ValsAt w sv x.stk ∧ NilOk sv
theorem FrmsAt.below {w w' : World} {v : Value} {F : List Frm} (h : FrmsAt w v F) (hb : Below w.heap.size w w') : FrmsAt w' v F := by
  obtain ⟨p, cap, rfl, hm, hc0, hc⟩ := h
  refine ⟨p, cap, rfl, hm, hc0, fun k x hk => ?_⟩
  obtain ⟨g, off, lv, sv, rfl, hlt, h0, h1, h2, h3, h4, h5, h6, h7⟩ := hc k x hk
  exact ⟨g, off, lv, sv, rfl, Nat.lt_of_lt_of_le hlt hb.size, (hb.cell (p := ⟨g, off + k * 4, none⟩) hlt).trans h0, (hb.cell (p := ⟨g, off + k * 4 + 1, none⟩) hlt).trans h1, (hb.cell (p := ⟨g, off + k * 4 + 2, none⟩) hlt).trans h2, (hb.cell (p := ⟨g, off + k * 4 + 3, none⟩) hlt).trans h3, h4.below hb, h5, h6.below hb, h7⟩
/-- a machine that can be read: its four slices. -/
structure MachAt (W : World) (fv bv iv ov : Value) (M : Mach) : Prop where
  fr : FrmsAt W fv M.frames
  bl : BlksAt W bv M.blocks
  inp : FullInts W iv M.inp
  out : FullInts W ov M.out
theorem MachAt.below {w w' : World} {fv bv iv ov : Value} {M : Mach} (h : MachAt w fv bv iv ov M) (hb : Below w.heap.size w w') : MachAt w' fv bv iv ov M := ⟨h.fr.below hb, h.bl.below hb, h.inp.below hb, h.out.below hb⟩
/-- all of a row is of one type. -/
def TyRow (W : World) (row : Option Nat) (t : TypeId) : Prop := ∀ r, row = some r → ∃ cs fz, W.heap[r]? = some (.cells cs t fz)
theorem tyRow_row {W : World} {B : Nat} {e : TypeId} {size n : Nat} {v : Value} {xs : List Value} (h : W.ownsRow B e size v n xs) : TyRow W v.ownBlock e := fun r hr => by
  rcases h.2 with ⟨rfl, _⟩ | ⟨g, cap, cur, rfl, _, hg, _⟩
  · cases hr
  · cases hr; exact ⟨_, _, hg⟩
theorem tyRow_at {W : World} {r : Nat} {cs : Array Value} {t : TypeId} {fz : Nat × Nat} (h : W.heap[r]? = some (.cells cs t fz)) : TyRow W (some r) t := fun r' e => by cases e; exact ⟨_, _, h⟩
theorem tyRow_none (W : World) (t : TypeId) : TyRow W none t := fun r h => by cases h
theorem row_keep {W W' : World} {B : Nat} {e t : TypeId} {size n : Nat} {v : Value} {xs : List Value} {row : Option Nat} (h : W.ownsRow B e size v n xs) (hg : W.grownBy W' row) (ht : TyRow W row t) (hne : t ≠ e) : W'.ownsRow B e size v n xs :=
  row_same h fun k hk => hg.block k (h.lt k hk).2 fun e1 => by
    obtain ⟨cs, fz, hh⟩ := ht k e1.symm
    exact row_not h hh hne hk.symm
theorem VRows.keep {W W' : World} {B : Nat} {t : TypeId} {q : List Value} {L : List (List Val)} {row : Option Nat} (h : VRows W B q L) (hg : W.grownBy W' row) (ht : TyRow W row t) (hne : t ≠ 50) : VRows W' B q L :=
  ⟨h.len, fun k x b h1 h2 => row_keep (h.each k x b h1 h2) hg ht hne, h.apart⟩
theorem BRows.keep {W W' : World} {B : Nat} {t : TypeId} {q : List Value} {L : List (List Int)} {row : Option Nat} (h : BRows W B q L) (hg : W.grownBy W' row) (ht : TyRow W row t) (hne : t ≠ 3) : BRows W' B q L :=
  ⟨h.len, fun k x b h1 h2 => row_keep (h.each k x b h1 h2) hg ht hne, h.apart, h.small⟩
/-- a cell of a row is written. -/
theorem row_set {W : World} {B : Nat} {e : TypeId} {size n cap g : Nat} {xs : List Value} (h : W.ownsRow B e size (.slice (some ⟨g, 0, none⟩) n cap) n xs) (i : Nat) (u : Value) : (W.setCell ⟨g, i, none⟩ u).ownsRow B e size (.slice (some ⟨g, 0, none⟩) n cap) n (xs.set i u) := by
  rcases h.2 with ⟨h1, _⟩ | ⟨g', cap', cur, h1, h2, h3, h4, h5, h6, h7⟩
  · cases h1
  · cases h1
    have hs := heap_setCell_same W g i _ _ u h3
    refine ⟨by simpa using h.1, .inr ⟨g, cap, _, rfl, h2, hs, h4, h5, by simpa using h6, ?_⟩⟩
    have e1 : (cur.setIfInBounds i u).toList = cur.toList.set i u := by simp
    rw [e1, List.take_set, h7]
/-- frames in memory of the call's own. -/
structure FRows (W : World) (B : Nat) (q : List FV) (F : List Frm) : Prop where
  len : q.length = F.length
  nums : ∀ (k : Nat) (c : FV) (x : Frm), q[k]? = some c → F[k]? = some x → c.fn = x.fn ∧ c.pc = x.pc
  rows : VRows W B (fRows q) (fVals F)
theorem FRows.below {W W' : World} {B : Nat} {q : List FV} {F : List Frm} (h : FRows W B q F) (hb : Below W.heap.size W W') : FRows W' B q F := ⟨h.len, h.nums, h.rows.below hb⟩
theorem FRows.low {W : World} {B B' : Nat} {q : List FV} {F : List Frm} (h : FRows W B q F) (hB : B' ≤ B) : FRows W B' q F := ⟨h.len, h.nums, h.rows.low hB⟩
theorem FRows.keep {W W' : World} {B : Nat} {t : TypeId} {q : List FV} {F : List Frm} {row : Option Nat} (h : FRows W B q F) (hg : W.grownBy W' row) (ht : TyRow W row t) (hne : t ≠ 50) : FRows W' B q F := ⟨h.len, h.nums, h.rows.keep hg ht hne⟩
theorem fRows_nil (W : World) (B : Nat) : FRows W B [] [] := ⟨rfl, fun k c x h => by simp at h, vRows_nil W B⟩
theorem snoc_at {α : Type} {l : List α} {x y : α} {k : Nat} (h : (l ++ [x])[k]? = some y) : (k < l.length ∧ l[k]? = some y) ∨ (k = l.length ∧ y = x) := by
  by_cases hl : k < l.length
  · rw [List.getElem?_append_left hl] at h; exact .inl ⟨hl, h⟩
  · rw [List.getElem?_append_right (by omega)] at h
    have h0 : k - l.length = 0 := by have := lt_of_at h; simp at this; omega
    rw [h0] at h; simp at h
    exact .inr ⟨by omega, h.symm⟩
theorem snoc_last {α : Type} (l : List α) (x : α) : (l ++ [x])[l.length]? = some x := by simp
/-- one frame more, its rows new. -/
theorem FRows.snoc {W : World} {B B' : Nat} {q : List FV} {F : List Frm} {c : FV} {x : Frm} (h : FRows W B q F) (h1 : c.fn = x.fn) (h2 : c.pc = x.pc) (hl : W.ownsRow B' 50 2 c.lv x.loc.length (valCells x.loc)) (hs : W.ownsRow B' 50 2 c.sv x.stk.length (valCells x.stk)) (hB : B ≤ B')
    (hn : ∀ (k : Nat) (y : Value) (g : Nat), (fRows q)[k]? = some y → y.ownBlock = some g → g < B') (hls : ∀ g, c.lv.ownBlock = some g → c.sv.ownBlock ≠ some g) : FRows W B (q ++ [c]) (F ++ [x]) := by
  refine ⟨by simp [h.len], fun k d y hd hy => ?_, ?_⟩
  · rcases snoc_at hd with ⟨a1, a2⟩ | ⟨a1, rfl⟩
    · rcases snoc_at hy with ⟨b1, b2⟩ | ⟨b1, rfl⟩
      · exact h.nums k d y a2 b2
      · have := h.len; omega
    · rcases snoc_at hy with ⟨b1, b2⟩ | ⟨b1, rfl⟩
      · have := h.len; omega
      · exact ⟨h1, h2⟩
  · have e1 : fRows (q ++ [c]) = (fRows q ++ [c.lv]) ++ [c.sv] := by simp [fRows]
    have e2 : fVals (F ++ [x]) = (fVals F ++ [x.loc]) ++ [x.stk] := by simp [fVals]
    rw [e1, e2]
    refine (h.rows.snoc (row_low hl hB) fun k y g h3 h4 h5 => ?_).snoc (row_low hs hB) fun k y g h3 h4 h5 => ?_
    · have := hn k y g h3 h4
      have := (hl.lt g h5).1
      omega
    · rcases snoc_at h3 with ⟨_, h6⟩ | ⟨_, rfl⟩
      · have := hn k y g h6 h4
        have := (hs.lt g h5).1
        omega
      · exact hls g h4 h5
/-- the last frame's stack is another one. -/
theorem FRows.stk {W W' : World} {B : Nat} {q : List FV} {F : List Frm} {c : FV} {x : Frm} {sv : Value} {s : List Val} (h : FRows W B (q ++ [c]) (F ++ [x])) (hg : W.grownBy W' c.sv.ownBlock) (hy : W'.ownsRow B 50 2 sv s.length (valCells s)) (hat : ∀ g, sv.ownBlock = some g → c.sv.ownBlock = some g ∨ W.heap.size ≤ g) : FRows W' B (q ++ [{ c with sv := sv }]) (F ++ [{ x with stk := s }]) := by
  have hl : q.length = F.length := by have := h.len; simp at this; exact this
  refine ⟨by simp [hl], fun k d y hd hy => ?_, ?_⟩
  · rcases snoc_at hd with ⟨a1, a2⟩ | ⟨a1, rfl⟩
    · rcases snoc_at hy with ⟨b1, b2⟩ | ⟨b1, rfl⟩
      · exact h.nums k d y (by rw [List.getElem?_append_left a1]; exact a2) (by rw [List.getElem?_append_left b1]; exact b2)
      · omega
    · rcases snoc_at hy with ⟨b1, b2⟩ | ⟨b1, rfl⟩
      · omega
      · exact h.nums q.length c x (snoc_last _ _) (by rw [hl]; exact snoc_last _ _)
  · have hp := h.rows.put (k := q.length * 2 + 1) (x := c.sv) (y := sv) (b := s) (fRows_at _ _ c (snoc_last _ _)).2 hg hy hat
    have e1 : (fRows (q ++ [c])).set (q.length * 2 + 1) sv = fRows (q ++ [{ c with sv := sv }]) := by
      rw [fRows_append, fRows_append, List.set_append_right _ _ (by rw [fRows_length]; omega), fRows_length]
      simp [fRows]
    have e2 : (fVals (F ++ [x])).set (q.length * 2 + 1) s = fVals (F ++ [{ x with stk := s }]) := by
      rw [fVals_append, fVals_append, List.set_append_right _ _ (by rw [fVals_length]; omega), fVals_length, hl]
      simp [fVals]
    rw [e1, e2] at hp
    exact hp
/-- the last frame's locals are other ones, in the same row. -/
theorem FRows.loc {W W' : World} {B : Nat} {q : List FV} {F : List Frm} {c : FV} {x : Frm} {s : List Val} (h : FRows W B (q ++ [c]) (F ++ [x])) (hg : W.grownBy W' c.lv.ownBlock) (hy : W'.ownsRow B 50 2 c.lv s.length (valCells s)) : FRows W' B (q ++ [c]) (F ++ [{ x with loc := s }]) := by
  have hl : q.length = F.length := by have := h.len; simp at this; exact this
  refine ⟨by simp [hl], fun k d y hd hy => ?_, ?_⟩
  · rcases snoc_at hy with ⟨b1, b2⟩ | ⟨b1, rfl⟩
    · exact h.nums k d y hd (by rw [List.getElem?_append_left b1]; exact b2)
    · exact h.nums k d x hd (by rw [b1]; exact snoc_last _ _)
  · have hp := h.rows.put (k := q.length * 2) (x := c.lv) (y := c.lv) (b := s) (fRows_at _ _ c (snoc_last _ _)).1 hg hy (fun g hg => .inl hg)
    have e1 : (fRows (q ++ [c])).set (q.length * 2) c.lv = fRows (q ++ [c]) := by
      rw [fRows_append, List.set_append_right _ _ (by rw [fRows_length]; omega), fRows_length]
      simp [fRows]
    have e2 : (fVals (F ++ [x])).set (q.length * 2) s = fVals (F ++ [{ x with loc := s }]) := by
      rw [fVals_append, fVals_append, List.set_append_right _ _ (by rw [fVals_length]; omega), fVals_length, hl]
      simp [fVals]
    rw [e1, e2] at hp
    exact hp
/-- the last frame is elsewhere. -/
theorem FRows.pc {W : World} {B : Nat} {q : List FV} {F : List Frm} {c : FV} {x : Frm} (h : FRows W B (q ++ [c]) (F ++ [x])) (n : Int) : FRows W B (q ++ [{ c with pc := n }]) (F ++ [{ x with pc := n }]) := by
  have hl : q.length = F.length := by have := h.len; simp at this; exact this
  refine ⟨by simp [hl], fun k d y hd hy => ?_, ?_⟩
  · rcases snoc_at hd with ⟨a1, a2⟩ | ⟨a1, rfl⟩
    · rcases snoc_at hy with ⟨b1, b2⟩ | ⟨b1, rfl⟩
      · exact h.nums k d y (by rw [List.getElem?_append_left a1]; exact a2) (by rw [List.getElem?_append_left b1]; exact b2)
      · omega
    · rcases snoc_at hy with ⟨b1, b2⟩ | ⟨b1, rfl⟩
      · omega
      · exact ⟨(h.nums q.length c x (snoc_last _ _) (by rw [hl]; exact snoc_last _ _)).1, rfl⟩
  · have e1 : fRows (q ++ [{ c with pc := n }]) = fRows (q ++ [c]) := by simp [fRows]
    have e2 : fVals (F ++ [{ x with pc := n }]) = fVals (F ++ [x]) := by simp [fVals]
    rw [e1, e2]
    exact h.rows
/-- without the last one. -/
theorem FRows.cut {W : World} {B : Nat} {q : List FV} {F : List Frm} {c : FV} {x : Frm} (h : FRows W B (q ++ [c]) (F ++ [x])) : FRows W B q F := by
  have hl : q.length = F.length := by have := h.len; simp at this; exact this
  refine ⟨hl, fun k d y hd hy => h.nums k d y (by rw [List.getElem?_append_left (lt_of_at hd)]; exact hd) (by rw [List.getElem?_append_left (lt_of_at hy)]; exact hy), ?_⟩
  have := h.rows.take (q.length * 2)
  rw [fRows_append, fVals_append, List.take_append_of_le_length (by rw [fRows_length]; omega), List.take_append_of_le_length (by rw [fVals_length]; omega), List.take_of_length_le (by rw [fRows_length]; omega), List.take_of_length_le (by rw [fVals_length]; omega)] at this
  exact this
theorem frmsAt_own {W : World} {B : Nat} {fv : Value} {q : List FV} {F : List Frm} (h : W.ownsRow B 48 4 fv q.length (fCells q)) (hr : FRows W B q F) : FrmsAt W fv F := by
  have hlen := hr.len
  rcases h.2 with ⟨rfl, h0⟩ | ⟨g, cap, cur, rfl, hb, hg, hn, hc, hs, ht⟩
  · have : F = [] := List.eq_nil_of_length_eq_zero (by omega)
    subst this
    exact ⟨none, 0, rfl, Nat.zero_le _, Nat.zero_le _, fun k x hk => by simp at hk⟩
  · refine ⟨_, cap, by rw [hlen], by omega, by omega, fun k x hk => ?_⟩
    have hk2 := lt_of_at hk
    obtain ⟨c, hcq⟩ := at_of_lt (l := q) (k := k) (by omega)
    obtain ⟨e1, e2⟩ := hr.nums k c x hcq hk
    obtain ⟨a0, a1, a2, a3⟩ := fCells_at q k c hcq
    obtain ⟨r1, r2⟩ := fRows_at q k c hcq
    obtain ⟨v1, v2⟩ := fVals_at F k x hk
    have o1 := hr.rows.each _ _ _ r1 v1
    have o2 := hr.rows.each _ _ _ r2 v2
    rw [← ht, List.getElem?_take_of_lt (by omega)] at a0 a1 a2 a3
    refine ⟨g, 0, c.lv, c.sv, rfl, heap_lt hg, ?_, ?_, ?_, ?_, valsAt_of_row o1, nilOk_row o1, valsAt_of_row o2, nilOk_row o2⟩
    · rw [cell_at' hg, ← e1]; simpa using a0
    · rw [cell_at' hg, ← e2]; simpa using a1
    · rw [cell_at' hg]; simpa using a2
    · rw [cell_at' hg]; simpa using a3
/-- a machine in memory of the call's own. -/
structure MOwn (W : World) (B : Nat) (fv bv iv ov : Value) (q : List FV) (qb : List Value) (M : Mach) : Prop where
  fr : W.ownsRow B 48 4 fv q.length (fCells q)
  frs : FRows W B q M.frames
  bl : W.ownsRow B 27 1 bv qb.length qb
  rows : BRows W B (iv :: ov :: qb) (M.inp :: M.out :: M.blocks)
theorem MOwn.low {W : World} {B B' : Nat} {fv bv iv ov : Value} {q : List FV} {qb : List Value} {M : Mach} (h : MOwn W B fv bv iv ov q qb M) (hB : B' ≤ B) : MOwn W B' fv bv iv ov q qb M := ⟨row_low h.fr hB, h.frs.low hB, row_low h.bl hB, h.rows.low hB⟩
theorem MOwn.below {W W' : World} {B : Nat} {fv bv iv ov : Value} {q : List FV} {qb : List Value} {M : Mach} (h : MOwn W B fv bv iv ov q qb M) (hb : Below W.heap.size W W') : MOwn W' B fv bv iv ov q qb M :=
  ⟨row_same h.fr fun g hg => hb.block g (h.fr.lt g hg).2, h.frs.below hb, row_same h.bl fun g hg => hb.block g (h.bl.lt g hg).2, h.rows.below hb⟩
theorem MOwn.keep {W W' : World} {B : Nat} {t : TypeId} {fv bv iv ov : Value} {q : List FV} {qb : List Value} {M : Mach} {row : Option Nat} (h : MOwn W B fv bv iv ov q qb M) (hg : W.grownBy W' row) (ht : TyRow W row t) (h1 : t ≠ 48) (h2 : t ≠ 50) (h3 : t ≠ 27) (h4 : t ≠ 3) : MOwn W' B fv bv iv ov q qb M :=
  ⟨row_keep h.fr hg ht h1, h.frs.keep hg ht h2, row_keep h.bl hg ht h3, h.rows.keep hg ht h4⟩
theorem brows_tail {W : World} {B : Nat} {x : Value} {q : List Value} {b : List Int} {L : List (List Int)} (h : BRows W B (x :: q) (b :: L)) : BRows W B q L :=
  ⟨by have := h.len; simpa using this, fun k y c h1 h2 => h.each (k + 1) y c (by simpa using h1) (by simpa using h2), fun i j y z g h1 h2 g1 g2 => by have := h.apart (i + 1) (j + 1) y z g (by simpa using h1) (by simpa using h2) g1 g2; omega, fun c hc => h.small c (by simp [hc])⟩
theorem MOwn.inp {W : World} {B : Nat} {fv bv iv ov : Value} {q : List FV} {qb : List Value} {M : Mach} (h : MOwn W B fv bv iv ov q qb M) : W.ownsRow B 3 1 iv M.inp.length (M.inp.map (Value.int .i64)) := h.rows.each 0 _ _ rfl rfl
theorem MOwn.out {W : World} {B : Nat} {fv bv iv ov : Value} {q : List FV} {qb : List Value} {M : Mach} (h : MOwn W B fv bv iv ov q qb M) : W.ownsRow B 3 1 ov M.out.length (M.out.map (Value.int .i64)) := h.rows.each 1 _ _ rfl rfl
theorem MOwn.blks {W : World} {B : Nat} {fv bv iv ov : Value} {q : List FV} {qb : List Value} {M : Mach} (h : MOwn W B fv bv iv ov q qb M) : BlksOwn W B bv M.blocks := ⟨qb, h.bl, brows_tail (brows_tail h.rows)⟩
theorem MOwn.at_ {W : World} {B : Nat} {fv bv iv ov : Value} {q : List FV} {qb : List Value} {M : Mach} (h : MOwn W B fv bv iv ov q qb M) : MachAt W fv bv iv ov M :=
  ⟨frmsAt_own h.fr h.frs, blksAt_of_own h.blks, fullInts_row rfl h.inp, fullInts_row rfl h.out⟩
end Go.Proofs.YtcadpoknolefpaaGreat
