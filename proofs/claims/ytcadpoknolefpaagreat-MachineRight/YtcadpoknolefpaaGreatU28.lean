/- My texts Qj Mm, joined. -/
import Derived.Test.YtcadpoknolefpaaGreatU23
import Derived.Test.YtcadpoknolefpaaGreatU27
/- What Check says of a machine of a program that fits, plainly; nothing just if it is right. -/
namespace Go.Proofs.YtcadpoknolefpaaGreat
open Go.RowKit
set_option linter.unusedSimpArgs false
set_option linter.unusedVariables false
def stErr (m : Mach) : Int := if m.status < 0 ∨ 3 < m.status then 6 else if (m.status = 3 ∧ (m.trap < 1 ∨ 5 < m.trap)) ∨ (m.status ≠ 3 ∧ m.trap ≠ 0) then 1 else 0
def boxErr (m : Mach) : Int := if 10 < m.inp.length ∨ 10 < m.out.length then 2 else if (m.inp.all isI32 && m.out.all isI32) = true then 0 else 3
def depthErr (m : Mach) : Int := if 6 < m.frames.length then 2 else if m.frames.length = 0 ∧ m.status ≠ 2 then 5 else if 0 < m.frames.length ∧ m.status = 2 then 1 else 0
def inProg (p : List Fn) (x : Frm) : Bool := decide (0 ≤ x.fn) && decide (x.fn < (p.length : Int))
def funcsErr (p : List Fn) (m : Mach) : Int := if m.frames.all (inProg p) = false then 3 else match m.frames with
  | [] => 0
  | x :: _ => if x.fn ≠ 0 then 4 else 0
def placedB (e : Nat → Nat → Option (List Int)) (next : Option Int) (x : Frm) (k : Nat) (f : Fn) : Bool := match next with
  | none => decide (0 ≤ x.pc) && (e k x.pc.toNat).isSome
  | some g => decide (1 ≤ x.pc) && (e k (x.pc - 1).toNat).isSome && (f.2.2.2[(x.pc - 1).toNat]? == some (12, g))
def stackT (p : List Fn) (e : Nat → Nat → Option (List Int)) (next : Option Int) (x : Frm) (k : Nat) : List Int := match next with
  | none => (e k x.pc.toNat).getD []
  | some g => match p[g.toNat]? with
    | none => (e k x.pc.toNat).getD []
    | some h => if h.2.2.1 ≠ 0 then ((e k x.pc.toNat).getD []).dropLast else (e k x.pc.toNat).getD []
def fitErr (p : List Fn) (e : Nat → Nat → Option (List Int)) (nb : Nat) (next : Option Int) (x : Frm) (k : Nat) (f : Fn) : Int :=
  if x.loc.length ≠ f.2.1.length then 1 else if (x.loc.all (okV nb) && x.stk.all (okV nb)) = false then 3 else if areOf x.loc f.2.1 = false then 6
  else if placedB e next x k f = false then 5 else if areOf x.stk (stackT p e next x k) = false then 4 else 0
def framesErr (p : List Fn) (e : Nat → Nat → Option (List Int)) (nb : Nat) : List Frm → Int
  | [] => 0
  | x :: r => match p[x.fn.toNat]? with
    | none => 0
    | some f => if fitErr p e nb (r.head?.map Frm.fn) x x.fn.toNat f ≠ 0 then fitErr p e nb (r.head?.map Frm.fn) x x.fn.toNat f else framesErr p e nb r
def lastOp (p : List Fn) (m : Mach) : Option (Int × Int) := m.frames.getLast?.bind fun x => (p[x.fn.toNat]?).bind fun f => f.2.2.2[x.pc.toNat]?
def waitErr (p : List Fn) (m : Mach) : Int := if m.status ≠ 1 then 0 else match lastOp p m with
  | none => 0
  | some o => if o.1 ≠ 21 ∨ 0 < m.inp.length then 4 else 0
def firstE : List Int → Int
  | [] => 0
  | a :: r => if a ≠ 0 then a else firstE r
def machErr (p : List Fn) (e : Nat → Nat → Option (List Int)) (m : Mach) : Int := firstE [stErr m, blkErr m.blocks, boxErr m, depthErr m, funcsErr p m, framesErr p e m.blocks.length m.frames, waitErr p m]
theorem firstE_zero {l : List Int} : firstE l = 0 ↔ ∀ a ∈ l, a = 0 := by
  induction l with
  | nil => simp [firstE]
  | cons a r ih =>
    unfold firstE
    by_cases h : a = 0
    · rw [if_neg (by simpa using h), ih]; simp [h]
    · rw [if_pos h]; simp [h]
theorem outer_more {p : List Fn} {e : Nat → Nat → Option (List Int)} (he : AllFit p e) {k : Nat} {f : Fn} (hf : p[k]? = some f) {pc : Nat} {s0 : List Int} {g : Int} (hs : e k pc = some s0) (hc : f.2.2.2[pc]? = some (12, g)) : ∃ s, e k (pc + 1) = some s := by
  obtain ⟨o, out, h4, h5, h6⟩ := (he k f hf).1.on pc s0 hs
  rw [hc] at h4
  cases h4
  obtain ⟨_, s', h7, _⟩ := h6 (pc + 1) (goesOn_next hc (by simp) (by simp))
  exact ⟨s', h7⟩
theorem fit_right {p : List Fn} {e : Nat → Nat → Option (List Int)} (he : AllFit p e) {nb k : Nat} {f : Fn} {x : Frm} {next : Option Int} (hf : p[k]? = some f) (hx : x.fn = (k : Int)) (hn : ∀ g, next = some g → 0 ≤ g ∧ g < (p.length : Int)) : fitErr p e nb next x k f = 0 ↔ RightF p e nb next x k f := by
  constructor
  · intro h
    unfold fitErr at h
    split at h
    · cases h
    rename_i h1
    split at h
    · cases h
    rename_i h2
    split at h
    · cases h
    rename_i h3
    split at h
    · cases h
    rename_i h4
    split at h
    · cases h
    rename_i h5
    simp only [Bool.not_eq_false, Bool.and_eq_true, List.all_eq_true] at h2 h3 h4 h5
    refine ⟨hx, hf, h3, h2.1, h2.2, fun hnn => ?_, fun g hg => ?_⟩
    · subst hnn
      simp only [placedB, Bool.and_eq_true, decide_eq_true_eq, Option.isSome_iff_exists] at h4
      obtain ⟨h6, s, h7⟩ := h4
      refine ⟨x.pc.toNat, s, by omega, h7, ?_⟩
      simpa [stackT, h7] using h5
    · subst hg
      simp only [placedB, Bool.and_eq_true, decide_eq_true_eq, Option.isSome_iff_exists, beq_iff_eq] at h4
      obtain ⟨⟨h6, s0, h7⟩, h8⟩ := h4
      obtain ⟨s, h9⟩ := outer_more he hf h7 h8
      obtain ⟨g0, g1⟩ := hn g rfl
      obtain ⟨h, hh⟩ := at_of_lt (l := p) (k := g.toNat) (by omega)
      have e1 : (x.pc - 1).toNat + 1 = x.pc.toNat := by omega
      refine ⟨(x.pc - 1).toNat, s0, s, h, by omega, g0, h7, h8, h9, hh, ?_⟩
      rw [e1] at h9
      simpa [stackT, hh, h9] using h5
  · intro h
    unfold fitErr
    have h1 := areOf_length h.loc
    rw [if_neg (by simpa using h1)]
    have h2 : (x.loc.all (okV nb) && x.stk.all (okV nb)) = true := by
      rw [Bool.and_eq_true, List.all_eq_true, List.all_eq_true]
      exact ⟨h.okl, h.oks⟩
    rw [if_neg (by rw [h2]; decide), if_neg (by rw [h.loc]; decide)]
    cases next with
    | none =>
      obtain ⟨pc, s, h3, h4, h5⟩ := h.inner rfl
      have e1 : x.pc.toNat = pc := by omega
      rw [if_neg (by simp [placedB, e1, h4]; omega), if_neg (by simp [stackT, e1, h4, h5])]
    | some g =>
      obtain ⟨pc, s0, s, hh, h3, h4, h5, h6, h7, h8, h9⟩ := h.outer g rfl
      have e1 : x.pc.toNat = pc + 1 := by omega
      have e2 : (x.pc - 1).toNat = pc := by omega
      rw [if_neg (by simp [placedB, e2, h5, h6]; omega), if_neg]
      simp only [stackT, e1, h8, h7, Option.getD_some]
      rw [h9]
      decide
theorem head_at {α : Type} (l : List α) : l.head? = l[0]? := by cases l <;> rfl
theorem frames_right {p : List Fn} {e : Nat → Nat → Option (List Int)} (he : AllFit p e) {nb : Nat} : ∀ {F : List Frm}, F.all (inProg p) = true → (framesErr p e nb F = 0 ↔ ∀ (i : Nat) (x : Frm), F[i]? = some x → ∃ k f, RightF p e nb ((F[i + 1]?).map Frm.fn) x k f)
  | [], _ => by simp [framesErr]
  | x :: r, h => by
    simp only [List.all_cons, Bool.and_eq_true] at h
    obtain ⟨hx, hr⟩ := h
    have hx' := hx
    simp only [inProg, Bool.and_eq_true, decide_eq_true_eq] at hx
    obtain ⟨f, hf⟩ := at_of_lt (l := p) (k := x.fn.toNat) (by omega)
    have hn : ∀ g, r.head?.map Frm.fn = some g → 0 ≤ g ∧ g < (p.length : Int) := by
      intro g hg
      cases r with
      | nil => simp at hg
      | cons y q =>
        simp at hg
        subst hg
        simp only [List.all_cons, Bool.and_eq_true, inProg, decide_eq_true_eq] at hr
        exact hr.1
    have key := fit_right (nb := nb) he hf (x := x) (by omega) hn
    have ih := frames_right (nb := nb) he hr
    unfold framesErr
    rw [hf]
    simp only
    constructor
    · intro h
      by_cases h0 : fitErr p e nb (r.head?.map Frm.fn) x x.fn.toNat f = 0
      · rw [if_neg (by simpa using h0)] at h
        intro i y hy
        cases i with
        | zero =>
          simp at hy
          subst hy
          refine ⟨x.fn.toNat, f, ?_⟩
          have := key.1 h0
          rw [head_at] at this
          simpa using this
        | succ i => simpa using ih.1 h i y (by simpa using hy)
      · rw [if_pos h0] at h
        exact absurd h h0
    · intro h
      obtain ⟨k, f', h1⟩ := h 0 x rfl
      have e1 : k = x.fn.toNat := by have := h1.fn; omega
      subst e1
      have e2 : f' = f := by have := h1.at_; rw [hf] at this; exact (Option.some.inj this).symm
      subst e2
      have h2 : fitErr p e nb (r.head?.map Frm.fn) x x.fn.toNat f' = 0 := key.2 (by rw [head_at]; simpa using h1)
      rw [if_neg (by simpa using h2)]
      exact ih.2 fun i y hy => by simpa using h (i + 1) y (by simpa using hy)
theorem mach_right {p : List Fn} {e : Nat → Nat → Option (List Int)} (he : AllFit p e) {m : Mach} : machErr p e m = 0 ↔ RightM p e m := by
  unfold machErr
  rw [firstE_zero]
  simp only [List.mem_cons, List.not_mem_nil, or_false, forall_eq_or_imp, forall_eq]
  constructor
  · rintro ⟨h1, h2, h3, h4, h5, h6, h7⟩
    have hst : 0 ≤ m.status ∧ m.status ≤ 3 ∧ ((m.status = 3 → 1 ≤ m.trap ∧ m.trap ≤ 5) ∧ (m.status ≠ 3 → m.trap = 0)) := by
      unfold stErr at h1
      split at h1
      · cases h1
      split at h1
      · cases h1
      omega
    have hbx : (m.inp.length ≤ 10 ∧ ∀ n ∈ m.inp, isI32 n = true) ∧ (m.out.length ≤ 10 ∧ ∀ n ∈ m.out, isI32 n = true) := by
      unfold boxErr at h3
      split at h3
      · cases h3
      split at h3
      · rename_i a b
        simp only [Bool.and_eq_true, List.all_eq_true] at b
        exact ⟨⟨by omega, b.1⟩, ⟨by omega, b.2⟩⟩
      · cases h3
    have hdp : m.frames.length ≤ 6 ∧ (m.frames = [] ↔ m.status = 2) := by
      unfold depthErr at h4
      rw [← List.length_eq_zero_iff]
      split at h4
      · cases h4
      split at h4
      · cases h4
      split at h4
      · cases h4
      omega
    have hfa : m.frames.all (inProg p) = true ∧ ∀ x, m.frames[0]? = some x → x.fn = 0 := by
      unfold funcsErr at h5
      split at h5
      · cases h5
      rename_i a
      refine ⟨by simpa using a, fun x hx => ?_⟩
      cases hm : m.frames with
      | nil => rw [hm] at hx; simp at hx
      | cons y r =>
        rw [hm] at hx h5
        simp at hx h5
        subst hx
        exact h5
    refine ⟨⟨hst.1, hst.2.1⟩, hst.2.2, h2, hbx.1, hbx.2, hdp, hfa.2, (frames_right he hfa.1).1 h6, fun hw => ?_⟩
    unfold waitErr at h7
    rw [if_neg (by simpa using hw)] at h7
    have hne : m.frames ≠ [] := fun h0 => by have := hdp.2.1 h0; omega
    obtain ⟨x, hx⟩ : ∃ x, m.frames.getLast? = some x := ⟨_, List.getLast?_eq_some_getLast hne⟩
    have hi : m.frames[m.frames.length - 1]? = some x := by rw [← hx, List.getLast?_eq_getElem?]
    obtain ⟨k, f, hr⟩ := (frames_right he hfa.1).1 h6 _ x hi
    rw [show m.frames[m.frames.length - 1 + 1]? = none from List.getElem?_eq_none (by omega)] at hr
    obtain ⟨pc, s, o, out, g1, g2, g3, g4, _⟩ := inner_go he hr
    have hk : x.fn.toNat = k := by have := hr.fn; omega
    have hlo : lastOp p m = some o := by
      unfold lastOp
      rw [hx]
      simp only [Option.bind_some, hk, hr.at_]
      rw [show x.pc.toNat = pc by omega]
      exact g4
    rw [hlo] at h7
    simp only at h7
    split at h7
    · cases h7
    rename_i a
    refine ⟨List.length_eq_zero_iff.1 (by omega), x, k, f, o, hx, hr.fn, hr.at_, by rw [show x.pc.toNat = pc by omega]; exact g4, by omega⟩
  · intro h
    have hfa : m.frames.all (inProg p) = true := by
      rw [List.all_eq_true]
      intro x hx
      obtain ⟨i, hi⟩ := List.getElem?_of_mem hx
      obtain ⟨k, f, hr⟩ := h.each i x hi
      have := lt_of_at hr.at_
      have := hr.fn
      simp [inProg]
      omega
    refine ⟨?_, h.blocks, ?_, ?_, ?_, (frames_right he hfa).2 h.each, ?_⟩
    · unfold stErr
      have := h.status
      have := h.trap
      rw [if_neg (by omega), if_neg (by omega)]
    · unfold boxErr
      have a := h.inp
      have b := h.out
      rw [if_neg (by omega), if_pos]
      rw [Bool.and_eq_true, List.all_eq_true, List.all_eq_true]
      exact ⟨a.2, b.2⟩
    · unfold depthErr
      have := h.depth
      rw [← List.length_eq_zero_iff] at this
      rw [if_neg (by omega), if_neg (by omega), if_neg (by omega)]
    · unfold funcsErr
      rw [if_neg (by rw [hfa]; decide)]
      cases hm : m.frames with
      | nil => rfl
      | cons x r =>
        simp only
        rw [if_neg]
        simpa using h.first x (by rw [hm]; rfl)
    · unfold waitErr
      by_cases hw : m.status = 1
      · rw [if_neg (by simpa using hw)]
        obtain ⟨h1, x, k, f, o, h2, h3, h4, h5, h6⟩ := h.wait hw
        have hlo : lastOp p m = some o := by
          unfold lastOp
          rw [h2]
          simp only [Option.bind_some, show x.fn.toNat = k by omega, h4, h5]
        rw [hlo]
        simp only
        rw [if_neg]
        rw [h1]
        simp [h6]
      · rw [if_pos hw]
end Go.Proofs.YtcadpoknolefpaaGreat
/- stride's do: one op (1). -/
namespace Go.Proofs.YtcadpoknolefpaaGreat
open Go.RowKit
set_option linter.unusedSimpArgs false
set_option linter.unusedVariables false
set_option maxRecDepth 100000 in
set_option maxHeartbeats 2000000 in
theorem do1 (w0 : World) (b : Nat) (pv : Value) (M : Mach) (D : List Frm) (x : Frm) (p : List Fn) (k pc : Nat) (f : Fn) (A : Int) (w : World) (h : Doer w0 w b pv M) (hF : M.frames = D ++ [x]) (hD : D.length ≤ 100) (hp : FnsAt w0 pv p) (hk : p[k]? = some f) (hfn : x.fn = (k : Int)) (hpc : x.pc = (pc : Int)) (hpl : f.2.2.2.length ≤ 1000) (ho : f.2.2.2[pc]? = some (1, A)) (P : World → Prop)
    (HC : ∀ W, Doer w0 W b pv { M with frames := D ++ [{ x with pc := (pc : Int) + 1 }] } → Calls Tryz.prog 126 #[.pointer (some ⟨b, 0, none⟩), .agg #[.int .i64 1, .int .i64 A]] W fun e w' => e = .returned (.tuple #[]) ∧ P w') : Calls Tryz.prog 88 #[.pointer (some ⟨b, 0, none⟩)] w fun e w' => e = .returned (.tuple #[]) ∧ P w' := by
  obtain ⟨g, cap, bv, iv, ov, q, c, qb, H⟩ := h.open hF
  have HI := hideP (innermost_raw b g D.length cap w H.fcell hD)
  have HH0 := hideP H
  have HCC := hideP HC
  obtain ⟨pp, qp, hpv, hpm, -⟩ := id hp
  subst hpv
  have HP := hideP hp
  have hpcl := lt_of_at ho
  have hkl := lt_of_at hk
  have HO := hideP ho
  have HK := hideP hk
  have HFN := hideP hfn
  have HPC := hideP hpc
  clear h hF HC H hp ho hk hfn hpc
  go_enter Tryz.func88, Tryz.ntmps88
  go_wp2_with fail
  refine HI.out.mono ?_
  rintro e w2 ⟨rfl, b2⟩
  have H2 := HH0.out.below b2
  have c0 := H2.c0
  have c1 := H2.c1
  rw [HFN.out] at c0
  rw [HPC.out] at c1
  have c6 := H2.at_.cells.2.2.2.2.2.2
  obtain ⟨pp', qp', hpe, -, hpc⟩ := id (HP.out.below H2.at_.bel)
  cases hpe
  obtain ⟨pb, po, f0, f1, f2, f3, hpp, hplt, -, -, -, y3, hfn⟩ := hpc k f HK.out
  subst hpp
  obtain ⟨-, -, -, hops⟩ := hfn
  obtain ⟨p3, q3, he3, -, hoc⟩ := id hops
  subst he3
  obtain ⟨ob, oo, hob, holt, o0, o1⟩ := hoc pc _ HO.out
  subst hob
  have hkli : (k : Int) < (p.length : Int) := by omega
  have hpcli : (pc : Int) < (f.2.2.2.length : Int) := by omega
  have c0a := fun o => cell_old c0 o
  have c1a := fun o => cell_old c1 o
  have c6a := fun o => cell_old c6 o
  have y3a := fun o => cell_old y3 o
  have o0a := fun o => cell_old o0 o
  have o1a := fun o => cell_old o1 o
  clear hpc hoc hops
  go_wp2_with fail
  go_region
  obtain ⟨W3, hW3⟩ : ∃ W3, (w2.alloc (.cells #[.int .i64 1, .int .i64 A] 43)).drew = W3 := ⟨_, rfl⟩
  have b3 : Below w2.heap.size w2 W3 := by rw [← hW3]; exact ((Below.refl _ w2).alloc (Nat.le_refl _) _).drew
  have x3 : W3.heap[w2.heap.size]? = some (.cells #[.int .i64 1, .int .i64 A] 43 (0, 0)) := by rw [← hW3]; exact World.alloc_heap_new w2 _
  rw [hW3]
  clear hW3 c0 c1 c6 y3 o0 o1 c0a c1a c6a y3a o0a o1a
  have H3 := H2.below b3
  have e0 : W3.cell? ⟨w2.heap.size, 0, none⟩ = some (.int .i64 1) := cell_at' x3 0
  have e1 : W3.cell? ⟨w2.heap.size, 1, none⟩ = some (.int .i64 A) := cell_at' x3 1
  have d1 := H3.c1
  rw [HPC.out] at d1
  have z1 : W3.frozen? ⟨g, D.length * 4 + 1, none⟩ = false := by obtain ⟨cur, hh⟩ := H3.gb; exact Lib.frozen_of_heap hh _
  have hne : ¬ w2.heap.size = g := by obtain ⟨cur, hh⟩ := H2.gb; have := heap_lt hh; omega
  have hne' : ¬ g = w2.heap.size := fun e => hne e.symm
  have HS := hideP (H3.setPc ((pc : Int) + 1))
  clear H2 H3 x3
  go_wp2_with (go_at_call 126; refine (HCC.out _ HS.out).mono ?_; rintro e w9 ⟨rfl, h9⟩)
  first | go_end0 | refine bodyPost_ret (results_none rfl _ _ _) rfl ?_
  exact ⟨rfl, h9⟩
set_option maxRecDepth 100000 in
set_option maxHeartbeats 2000000 in
theorem do4 (w0 : World) (b : Nat) (pv : Value) (M : Mach) (D : List Frm) (x : Frm) (p : List Fn) (k pc : Nat) (f : Fn) (A : Int) (w : World) (h : Doer w0 w b pv M) (hF : M.frames = D ++ [x]) (hD : D.length ≤ 100) (hp : FnsAt w0 pv p) (hk : p[k]? = some f) (hfn : x.fn = (k : Int)) (hpc : x.pc = (pc : Int)) (hpl : f.2.2.2.length ≤ 1000) (ho : f.2.2.2[pc]? = some (4, A)) (P : World → Prop)
    (HC : ∀ W, Doer w0 W b pv { M with frames := D ++ [{ x with pc := (pc : Int) + 1 }] } → Calls Tryz.prog 126 #[.pointer (some ⟨b, 0, none⟩), .agg #[.int .i64 4, .int .i64 A]] W fun e w' => e = .returned (.tuple #[]) ∧ P w') : Calls Tryz.prog 88 #[.pointer (some ⟨b, 0, none⟩)] w fun e w' => e = .returned (.tuple #[]) ∧ P w' := by
  obtain ⟨g, cap, bv, iv, ov, q, c, qb, H⟩ := h.open hF
  have HI := hideP (innermost_raw b g D.length cap w H.fcell hD)
  have HH0 := hideP H
  have HCC := hideP HC
  obtain ⟨pp, qp, hpv, hpm, -⟩ := id hp
  subst hpv
  have HP := hideP hp
  have hpcl := lt_of_at ho
  have hkl := lt_of_at hk
  have HO := hideP ho
  have HK := hideP hk
  have HFN := hideP hfn
  have HPC := hideP hpc
  clear h hF HC H hp ho hk hfn hpc
  go_enter Tryz.func88, Tryz.ntmps88
  go_wp2_with fail
  refine HI.out.mono ?_
  rintro e w2 ⟨rfl, b2⟩
  have H2 := HH0.out.below b2
  have c0 := H2.c0
  have c1 := H2.c1
  rw [HFN.out] at c0
  rw [HPC.out] at c1
  have c6 := H2.at_.cells.2.2.2.2.2.2
  obtain ⟨pp', qp', hpe, -, hpc⟩ := id (HP.out.below H2.at_.bel)
  cases hpe
  obtain ⟨pb, po, f0, f1, f2, f3, hpp, hplt, -, -, -, y3, hfn⟩ := hpc k f HK.out
  subst hpp
  obtain ⟨-, -, -, hops⟩ := hfn
  obtain ⟨p3, q3, he3, -, hoc⟩ := id hops
  subst he3
  obtain ⟨ob, oo, hob, holt, o0, o1⟩ := hoc pc _ HO.out
  subst hob
  have hkli : (k : Int) < (p.length : Int) := by omega
  have hpcli : (pc : Int) < (f.2.2.2.length : Int) := by omega
  have c0a := fun o => cell_old c0 o
  have c1a := fun o => cell_old c1 o
  have c6a := fun o => cell_old c6 o
  have y3a := fun o => cell_old y3 o
  have o0a := fun o => cell_old o0 o
  have o1a := fun o => cell_old o1 o
  clear hpc hoc hops
  go_wp2_with fail
  go_region
  obtain ⟨W3, hW3⟩ : ∃ W3, (w2.alloc (.cells #[.int .i64 4, .int .i64 A] 43)).drew = W3 := ⟨_, rfl⟩
  have b3 : Below w2.heap.size w2 W3 := by rw [← hW3]; exact ((Below.refl _ w2).alloc (Nat.le_refl _) _).drew
  have x3 : W3.heap[w2.heap.size]? = some (.cells #[.int .i64 4, .int .i64 A] 43 (0, 0)) := by rw [← hW3]; exact World.alloc_heap_new w2 _
  rw [hW3]
  clear hW3 c0 c1 c6 y3 o0 o1 c0a c1a c6a y3a o0a o1a
  have H3 := H2.below b3
  have e0 : W3.cell? ⟨w2.heap.size, 0, none⟩ = some (.int .i64 4) := cell_at' x3 0
  have e1 : W3.cell? ⟨w2.heap.size, 1, none⟩ = some (.int .i64 A) := cell_at' x3 1
  have d1 := H3.c1
  rw [HPC.out] at d1
  have z1 : W3.frozen? ⟨g, D.length * 4 + 1, none⟩ = false := by obtain ⟨cur, hh⟩ := H3.gb; exact Lib.frozen_of_heap hh _
  have hne : ¬ w2.heap.size = g := by obtain ⟨cur, hh⟩ := H2.gb; have := heap_lt hh; omega
  have hne' : ¬ g = w2.heap.size := fun e => hne e.symm
  have HS := hideP (H3.setPc ((pc : Int) + 1))
  clear H2 H3 x3
  go_wp2_with (go_at_call 126; refine (HCC.out _ HS.out).mono ?_; rintro e w9 ⟨rfl, h9⟩)
  first | go_end0 | refine bodyPost_ret (results_none rfl _ _ _) rfl ?_
  exact ⟨rfl, h9⟩
set_option maxRecDepth 100000 in
set_option maxHeartbeats 2000000 in
theorem do18 (w0 : World) (b : Nat) (pv : Value) (M : Mach) (D : List Frm) (x : Frm) (p : List Fn) (k pc : Nat) (f : Fn) (A : Int) (w : World) (h : Doer w0 w b pv M) (hF : M.frames = D ++ [x]) (hD : D.length ≤ 100) (hp : FnsAt w0 pv p) (hk : p[k]? = some f) (hfn : x.fn = (k : Int)) (hpc : x.pc = (pc : Int)) (hpl : f.2.2.2.length ≤ 1000) (ho : f.2.2.2[pc]? = some (18, A)) (P : World → Prop)
    (HC : ∀ W, Doer w0 W b pv { M with frames := D ++ [{ x with pc := (pc : Int) + 1 }] } → Calls Tryz.prog 126 #[.pointer (some ⟨b, 0, none⟩), .agg #[.int .i64 18, .int .i64 A]] W fun e w' => e = .returned (.tuple #[]) ∧ P w') : Calls Tryz.prog 88 #[.pointer (some ⟨b, 0, none⟩)] w fun e w' => e = .returned (.tuple #[]) ∧ P w' := by
  obtain ⟨g, cap, bv, iv, ov, q, c, qb, H⟩ := h.open hF
  have HI := hideP (innermost_raw b g D.length cap w H.fcell hD)
  have HH0 := hideP H
  have HCC := hideP HC
  obtain ⟨pp, qp, hpv, hpm, -⟩ := id hp
  subst hpv
  have HP := hideP hp
  have hpcl := lt_of_at ho
  have hkl := lt_of_at hk
  have HO := hideP ho
  have HK := hideP hk
  have HFN := hideP hfn
  have HPC := hideP hpc
  clear h hF HC H hp ho hk hfn hpc
  go_enter Tryz.func88, Tryz.ntmps88
  go_wp2_with fail
  refine HI.out.mono ?_
  rintro e w2 ⟨rfl, b2⟩
  have H2 := HH0.out.below b2
  have c0 := H2.c0
  have c1 := H2.c1
  rw [HFN.out] at c0
  rw [HPC.out] at c1
  have c6 := H2.at_.cells.2.2.2.2.2.2
  obtain ⟨pp', qp', hpe, -, hpc⟩ := id (HP.out.below H2.at_.bel)
  cases hpe
  obtain ⟨pb, po, f0, f1, f2, f3, hpp, hplt, -, -, -, y3, hfn⟩ := hpc k f HK.out
  subst hpp
  obtain ⟨-, -, -, hops⟩ := hfn
  obtain ⟨p3, q3, he3, -, hoc⟩ := id hops
  subst he3
  obtain ⟨ob, oo, hob, holt, o0, o1⟩ := hoc pc _ HO.out
  subst hob
  have hkli : (k : Int) < (p.length : Int) := by omega
  have hpcli : (pc : Int) < (f.2.2.2.length : Int) := by omega
  have c0a := fun o => cell_old c0 o
  have c1a := fun o => cell_old c1 o
  have c6a := fun o => cell_old c6 o
  have y3a := fun o => cell_old y3 o
  have o0a := fun o => cell_old o0 o
  have o1a := fun o => cell_old o1 o
  clear hpc hoc hops
  go_wp2_with fail
  go_region
  obtain ⟨W3, hW3⟩ : ∃ W3, (w2.alloc (.cells #[.int .i64 18, .int .i64 A] 43)).drew = W3 := ⟨_, rfl⟩
  have b3 : Below w2.heap.size w2 W3 := by rw [← hW3]; exact ((Below.refl _ w2).alloc (Nat.le_refl _) _).drew
  have x3 : W3.heap[w2.heap.size]? = some (.cells #[.int .i64 18, .int .i64 A] 43 (0, 0)) := by rw [← hW3]; exact World.alloc_heap_new w2 _
  rw [hW3]
  clear hW3 c0 c1 c6 y3 o0 o1 c0a c1a c6a y3a o0a o1a
  have H3 := H2.below b3
  have e0 : W3.cell? ⟨w2.heap.size, 0, none⟩ = some (.int .i64 18) := cell_at' x3 0
  have e1 : W3.cell? ⟨w2.heap.size, 1, none⟩ = some (.int .i64 A) := cell_at' x3 1
  have d1 := H3.c1
  rw [HPC.out] at d1
  have z1 : W3.frozen? ⟨g, D.length * 4 + 1, none⟩ = false := by obtain ⟨cur, hh⟩ := H3.gb; exact Lib.frozen_of_heap hh _
  have hne : ¬ w2.heap.size = g := by obtain ⟨cur, hh⟩ := H2.gb; have := heap_lt hh; omega
  have hne' : ¬ g = w2.heap.size := fun e => hne e.symm
  have HS := hideP (H3.setPc ((pc : Int) + 1))
  clear H2 H3 x3
  go_wp2_with (go_at_call 126; refine (HCC.out _ HS.out).mono ?_; rintro e w9 ⟨rfl, h9⟩)
  first | go_end0 | refine bodyPost_ret (results_none rfl _ _ _) rfl ?_
  exact ⟨rfl, h9⟩
set_option maxRecDepth 100000 in
set_option maxHeartbeats 2000000 in
theorem do7 (w0 : World) (b : Nat) (pv : Value) (M : Mach) (D : List Frm) (x : Frm) (p : List Fn) (k pc : Nat) (f : Fn) (A : Int) (w : World) (h : Doer w0 w b pv M) (hF : M.frames = D ++ [x]) (hD : D.length ≤ 100) (hp : FnsAt w0 pv p) (hk : p[k]? = some f) (hfn : x.fn = (k : Int)) (hpc : x.pc = (pc : Int)) (hpl : f.2.2.2.length ≤ 1000) (ho : f.2.2.2[pc]? = some (7, A)) (P : World → Prop)
    (HC : ∀ W, Doer w0 W b pv { M with frames := D ++ [{ x with pc := (pc : Int) + 1 }] } → Calls Tryz.prog 127 #[.pointer (some ⟨b, 0, none⟩), .int .i64 7] W fun e w' => e = .returned (.tuple #[]) ∧ P w') : Calls Tryz.prog 88 #[.pointer (some ⟨b, 0, none⟩)] w fun e w' => e = .returned (.tuple #[]) ∧ P w' := by
  obtain ⟨g, cap, bv, iv, ov, q, c, qb, H⟩ := h.open hF
  have HI := hideP (innermost_raw b g D.length cap w H.fcell hD)
  have HH0 := hideP H
  have HCC := hideP HC
  obtain ⟨pp, qp, hpv, hpm, -⟩ := id hp
  subst hpv
  have HP := hideP hp
  have hpcl := lt_of_at ho
  have hkl := lt_of_at hk
  have HO := hideP ho
  have HK := hideP hk
  have HFN := hideP hfn
  have HPC := hideP hpc
  clear h hF HC H hp ho hk hfn hpc
  go_enter Tryz.func88, Tryz.ntmps88
  go_wp2_with fail
  refine HI.out.mono ?_
  rintro e w2 ⟨rfl, b2⟩
  have H2 := HH0.out.below b2
  have c0 := H2.c0
  have c1 := H2.c1
  rw [HFN.out] at c0
  rw [HPC.out] at c1
  have c6 := H2.at_.cells.2.2.2.2.2.2
  obtain ⟨pp', qp', hpe, -, hpc⟩ := id (HP.out.below H2.at_.bel)
  cases hpe
  obtain ⟨pb, po, f0, f1, f2, f3, hpp, hplt, -, -, -, y3, hfn⟩ := hpc k f HK.out
  subst hpp
  obtain ⟨-, -, -, hops⟩ := hfn
  obtain ⟨p3, q3, he3, -, hoc⟩ := id hops
  subst he3
  obtain ⟨ob, oo, hob, holt, o0, o1⟩ := hoc pc _ HO.out
  subst hob
  have hkli : (k : Int) < (p.length : Int) := by omega
  have hpcli : (pc : Int) < (f.2.2.2.length : Int) := by omega
  have c0a := fun o => cell_old c0 o
  have c1a := fun o => cell_old c1 o
  have c6a := fun o => cell_old c6 o
  have y3a := fun o => cell_old y3 o
  have o0a := fun o => cell_old o0 o
  have o1a := fun o => cell_old o1 o
  clear hpc hoc hops
  go_wp2_with fail
  go_region
  obtain ⟨W3, hW3⟩ : ∃ W3, (w2.alloc (.cells #[.int .i64 7, .int .i64 A] 43)).drew = W3 := ⟨_, rfl⟩
  have b3 : Below w2.heap.size w2 W3 := by rw [← hW3]; exact ((Below.refl _ w2).alloc (Nat.le_refl _) _).drew
  have x3 : W3.heap[w2.heap.size]? = some (.cells #[.int .i64 7, .int .i64 A] 43 (0, 0)) := by rw [← hW3]; exact World.alloc_heap_new w2 _
  rw [hW3]
  clear hW3 c0 c1 c6 y3 o0 o1 c0a c1a c6a y3a o0a o1a
  have H3 := H2.below b3
  have e0 : W3.cell? ⟨w2.heap.size, 0, none⟩ = some (.int .i64 7) := cell_at' x3 0
  have e1 : W3.cell? ⟨w2.heap.size, 1, none⟩ = some (.int .i64 A) := cell_at' x3 1
  have d1 := H3.c1
  rw [HPC.out] at d1
  have z1 : W3.frozen? ⟨g, D.length * 4 + 1, none⟩ = false := by obtain ⟨cur, hh⟩ := H3.gb; exact Lib.frozen_of_heap hh _
  have hne : ¬ w2.heap.size = g := by obtain ⟨cur, hh⟩ := H2.gb; have := heap_lt hh; omega
  have hne' : ¬ g = w2.heap.size := fun e => hne e.symm
  have HS := hideP (H3.setPc ((pc : Int) + 1))
  clear H2 H3 x3
  go_wp2_with (go_at_call 127; refine (HCC.out _ HS.out).mono ?_; rintro e w9 ⟨rfl, h9⟩)
  first | go_end0 | refine bodyPost_ret (results_none rfl _ _ _) rfl ?_
  exact ⟨rfl, h9⟩
set_option maxRecDepth 100000 in
set_option maxHeartbeats 2000000 in
theorem do12 (w0 : World) (b : Nat) (pv : Value) (M : Mach) (D : List Frm) (x : Frm) (p : List Fn) (k pc : Nat) (f : Fn) (A : Int) (w : World) (h : Doer w0 w b pv M) (hF : M.frames = D ++ [x]) (hD : D.length ≤ 100) (hp : FnsAt w0 pv p) (hk : p[k]? = some f) (hfn : x.fn = (k : Int)) (hpc : x.pc = (pc : Int)) (hpl : f.2.2.2.length ≤ 1000) (ho : f.2.2.2[pc]? = some (12, A)) (P : World → Prop)
    (HC : ∀ W, Doer w0 W b pv { M with frames := D ++ [{ x with pc := (pc : Int) + 1 }] } → Calls Tryz.prog 128 #[.pointer (some ⟨b, 0, none⟩), .agg #[.int .i64 12, .int .i64 A]] W fun e w' => e = .returned (.tuple #[]) ∧ P w') : Calls Tryz.prog 88 #[.pointer (some ⟨b, 0, none⟩)] w fun e w' => e = .returned (.tuple #[]) ∧ P w' := by
  obtain ⟨g, cap, bv, iv, ov, q, c, qb, H⟩ := h.open hF
  have HI := hideP (innermost_raw b g D.length cap w H.fcell hD)
  have HH0 := hideP H
  have HCC := hideP HC
  obtain ⟨pp, qp, hpv, hpm, -⟩ := id hp
  subst hpv
  have HP := hideP hp
  have hpcl := lt_of_at ho
  have hkl := lt_of_at hk
  have HO := hideP ho
  have HK := hideP hk
  have HFN := hideP hfn
  have HPC := hideP hpc
  clear h hF HC H hp ho hk hfn hpc
  go_enter Tryz.func88, Tryz.ntmps88
  go_wp2_with fail
  refine HI.out.mono ?_
  rintro e w2 ⟨rfl, b2⟩
  have H2 := HH0.out.below b2
  have c0 := H2.c0
  have c1 := H2.c1
  rw [HFN.out] at c0
  rw [HPC.out] at c1
  have c6 := H2.at_.cells.2.2.2.2.2.2
  obtain ⟨pp', qp', hpe, -, hpc⟩ := id (HP.out.below H2.at_.bel)
  cases hpe
  obtain ⟨pb, po, f0, f1, f2, f3, hpp, hplt, -, -, -, y3, hfn⟩ := hpc k f HK.out
  subst hpp
  obtain ⟨-, -, -, hops⟩ := hfn
  obtain ⟨p3, q3, he3, -, hoc⟩ := id hops
  subst he3
  obtain ⟨ob, oo, hob, holt, o0, o1⟩ := hoc pc _ HO.out
  subst hob
  have hkli : (k : Int) < (p.length : Int) := by omega
  have hpcli : (pc : Int) < (f.2.2.2.length : Int) := by omega
  have c0a := fun o => cell_old c0 o
  have c1a := fun o => cell_old c1 o
  have c6a := fun o => cell_old c6 o
  have y3a := fun o => cell_old y3 o
  have o0a := fun o => cell_old o0 o
  have o1a := fun o => cell_old o1 o
  clear hpc hoc hops
  go_wp2_with fail
  go_region
  obtain ⟨W3, hW3⟩ : ∃ W3, (w2.alloc (.cells #[.int .i64 12, .int .i64 A] 43)).drew = W3 := ⟨_, rfl⟩
  have b3 : Below w2.heap.size w2 W3 := by rw [← hW3]; exact ((Below.refl _ w2).alloc (Nat.le_refl _) _).drew
  have x3 : W3.heap[w2.heap.size]? = some (.cells #[.int .i64 12, .int .i64 A] 43 (0, 0)) := by rw [← hW3]; exact World.alloc_heap_new w2 _
  rw [hW3]
  clear hW3 c0 c1 c6 y3 o0 o1 c0a c1a c6a y3a o0a o1a
  have H3 := H2.below b3
  have e0 : W3.cell? ⟨w2.heap.size, 0, none⟩ = some (.int .i64 12) := cell_at' x3 0
  have e1 : W3.cell? ⟨w2.heap.size, 1, none⟩ = some (.int .i64 A) := cell_at' x3 1
  have d1 := H3.c1
  rw [HPC.out] at d1
  have z1 : W3.frozen? ⟨g, D.length * 4 + 1, none⟩ = false := by obtain ⟨cur, hh⟩ := H3.gb; exact Lib.frozen_of_heap hh _
  have hne : ¬ w2.heap.size = g := by obtain ⟨cur, hh⟩ := H2.gb; have := heap_lt hh; omega
  have hne' : ¬ g = w2.heap.size := fun e => hne e.symm
  have HS := hideP (H3.setPc ((pc : Int) + 1))
  clear H2 H3 x3
  go_wp2_with (go_at_call 128; refine (HCC.out _ HS.out).mono ?_; rintro e w9 ⟨rfl, h9⟩)
  first | go_end0 | refine bodyPost_ret (results_none rfl _ _ _) rfl ?_
  exact ⟨rfl, h9⟩
set_option maxRecDepth 100000 in
set_option maxHeartbeats 2000000 in
theorem do15 (w0 : World) (b : Nat) (pv : Value) (M : Mach) (D : List Frm) (x : Frm) (p : List Fn) (k pc : Nat) (f : Fn) (A : Int) (w : World) (h : Doer w0 w b pv M) (hF : M.frames = D ++ [x]) (hD : D.length ≤ 100) (hp : FnsAt w0 pv p) (hk : p[k]? = some f) (hfn : x.fn = (k : Int)) (hpc : x.pc = (pc : Int)) (hpl : f.2.2.2.length ≤ 1000) (ho : f.2.2.2[pc]? = some (15, A)) (P : World → Prop)
    (HC : ∀ W, Doer w0 W b pv { M with frames := D ++ [{ x with pc := (pc : Int) + 1 }] } → Calls Tryz.prog 129 #[.pointer (some ⟨b, 0, none⟩), .int .i64 15] W fun e w' => e = .returned (.tuple #[]) ∧ P w') : Calls Tryz.prog 88 #[.pointer (some ⟨b, 0, none⟩)] w fun e w' => e = .returned (.tuple #[]) ∧ P w' := by
  obtain ⟨g, cap, bv, iv, ov, q, c, qb, H⟩ := h.open hF
  have HI := hideP (innermost_raw b g D.length cap w H.fcell hD)
  have HH0 := hideP H
  have HCC := hideP HC
  obtain ⟨pp, qp, hpv, hpm, -⟩ := id hp
  subst hpv
  have HP := hideP hp
  have hpcl := lt_of_at ho
  have hkl := lt_of_at hk
  have HO := hideP ho
  have HK := hideP hk
  have HFN := hideP hfn
  have HPC := hideP hpc
  clear h hF HC H hp ho hk hfn hpc
  go_enter Tryz.func88, Tryz.ntmps88
  go_wp2_with fail
  refine HI.out.mono ?_
  rintro e w2 ⟨rfl, b2⟩
  have H2 := HH0.out.below b2
  have c0 := H2.c0
  have c1 := H2.c1
  rw [HFN.out] at c0
  rw [HPC.out] at c1
  have c6 := H2.at_.cells.2.2.2.2.2.2
  obtain ⟨pp', qp', hpe, -, hpc⟩ := id (HP.out.below H2.at_.bel)
  cases hpe
  obtain ⟨pb, po, f0, f1, f2, f3, hpp, hplt, -, -, -, y3, hfn⟩ := hpc k f HK.out
  subst hpp
  obtain ⟨-, -, -, hops⟩ := hfn
  obtain ⟨p3, q3, he3, -, hoc⟩ := id hops
  subst he3
  obtain ⟨ob, oo, hob, holt, o0, o1⟩ := hoc pc _ HO.out
  subst hob
  have hkli : (k : Int) < (p.length : Int) := by omega
  have hpcli : (pc : Int) < (f.2.2.2.length : Int) := by omega
  have c0a := fun o => cell_old c0 o
  have c1a := fun o => cell_old c1 o
  have c6a := fun o => cell_old c6 o
  have y3a := fun o => cell_old y3 o
  have o0a := fun o => cell_old o0 o
  have o1a := fun o => cell_old o1 o
  clear hpc hoc hops
  go_wp2_with fail
  go_region
  obtain ⟨W3, hW3⟩ : ∃ W3, (w2.alloc (.cells #[.int .i64 15, .int .i64 A] 43)).drew = W3 := ⟨_, rfl⟩
  have b3 : Below w2.heap.size w2 W3 := by rw [← hW3]; exact ((Below.refl _ w2).alloc (Nat.le_refl _) _).drew
  have x3 : W3.heap[w2.heap.size]? = some (.cells #[.int .i64 15, .int .i64 A] 43 (0, 0)) := by rw [← hW3]; exact World.alloc_heap_new w2 _
  rw [hW3]
  clear hW3 c0 c1 c6 y3 o0 o1 c0a c1a c6a y3a o0a o1a
  have H3 := H2.below b3
  have e0 : W3.cell? ⟨w2.heap.size, 0, none⟩ = some (.int .i64 15) := cell_at' x3 0
  have e1 : W3.cell? ⟨w2.heap.size, 1, none⟩ = some (.int .i64 A) := cell_at' x3 1
  have d1 := H3.c1
  rw [HPC.out] at d1
  have z1 : W3.frozen? ⟨g, D.length * 4 + 1, none⟩ = false := by obtain ⟨cur, hh⟩ := H3.gb; exact Lib.frozen_of_heap hh _
  have hne : ¬ w2.heap.size = g := by obtain ⟨cur, hh⟩ := H2.gb; have := heap_lt hh; omega
  have hne' : ¬ g = w2.heap.size := fun e => hne e.symm
  have HS := hideP (H3.setPc ((pc : Int) + 1))
  clear H2 H3 x3
  go_wp2_with (go_at_call 129; refine (HCC.out _ HS.out).mono ?_; rintro e w9 ⟨rfl, h9⟩)
  first | go_end0 | refine bodyPost_ret (results_none rfl _ _ _) rfl ?_
  exact ⟨rfl, h9⟩
set_option maxRecDepth 100000 in
set_option maxHeartbeats 2000000 in
theorem do19 (w0 : World) (b : Nat) (pv : Value) (M : Mach) (D : List Frm) (x : Frm) (p : List Fn) (k pc : Nat) (f : Fn) (A : Int) (w : World) (h : Doer w0 w b pv M) (hF : M.frames = D ++ [x]) (hD : D.length ≤ 100) (hp : FnsAt w0 pv p) (hk : p[k]? = some f) (hfn : x.fn = (k : Int)) (hpc : x.pc = (pc : Int)) (hpl : f.2.2.2.length ≤ 1000) (ho : f.2.2.2[pc]? = some (19, A)) (P : World → Prop)
    (HC : ∀ W, Doer w0 W b pv { M with frames := D ++ [{ x with pc := (pc : Int) + 1 }] } → Calls Tryz.prog 129 #[.pointer (some ⟨b, 0, none⟩), .int .i64 19] W fun e w' => e = .returned (.tuple #[]) ∧ P w') : Calls Tryz.prog 88 #[.pointer (some ⟨b, 0, none⟩)] w fun e w' => e = .returned (.tuple #[]) ∧ P w' := by
  obtain ⟨g, cap, bv, iv, ov, q, c, qb, H⟩ := h.open hF
  have HI := hideP (innermost_raw b g D.length cap w H.fcell hD)
  have HH0 := hideP H
  have HCC := hideP HC
  obtain ⟨pp, qp, hpv, hpm, -⟩ := id hp
  subst hpv
  have HP := hideP hp
  have hpcl := lt_of_at ho
  have hkl := lt_of_at hk
  have HO := hideP ho
  have HK := hideP hk
  have HFN := hideP hfn
  have HPC := hideP hpc
  clear h hF HC H hp ho hk hfn hpc
  go_enter Tryz.func88, Tryz.ntmps88
  go_wp2_with fail
  refine HI.out.mono ?_
  rintro e w2 ⟨rfl, b2⟩
  have H2 := HH0.out.below b2
  have c0 := H2.c0
  have c1 := H2.c1
  rw [HFN.out] at c0
  rw [HPC.out] at c1
  have c6 := H2.at_.cells.2.2.2.2.2.2
  obtain ⟨pp', qp', hpe, -, hpc⟩ := id (HP.out.below H2.at_.bel)
  cases hpe
  obtain ⟨pb, po, f0, f1, f2, f3, hpp, hplt, -, -, -, y3, hfn⟩ := hpc k f HK.out
  subst hpp
  obtain ⟨-, -, -, hops⟩ := hfn
  obtain ⟨p3, q3, he3, -, hoc⟩ := id hops
  subst he3
  obtain ⟨ob, oo, hob, holt, o0, o1⟩ := hoc pc _ HO.out
  subst hob
  have hkli : (k : Int) < (p.length : Int) := by omega
  have hpcli : (pc : Int) < (f.2.2.2.length : Int) := by omega
  have c0a := fun o => cell_old c0 o
  have c1a := fun o => cell_old c1 o
  have c6a := fun o => cell_old c6 o
  have y3a := fun o => cell_old y3 o
  have o0a := fun o => cell_old o0 o
  have o1a := fun o => cell_old o1 o
  clear hpc hoc hops
  go_wp2_with fail
  go_region
  obtain ⟨W3, hW3⟩ : ∃ W3, (w2.alloc (.cells #[.int .i64 19, .int .i64 A] 43)).drew = W3 := ⟨_, rfl⟩
  have b3 : Below w2.heap.size w2 W3 := by rw [← hW3]; exact ((Below.refl _ w2).alloc (Nat.le_refl _) _).drew
  have x3 : W3.heap[w2.heap.size]? = some (.cells #[.int .i64 19, .int .i64 A] 43 (0, 0)) := by rw [← hW3]; exact World.alloc_heap_new w2 _
  rw [hW3]
  clear hW3 c0 c1 c6 y3 o0 o1 c0a c1a c6a y3a o0a o1a
  have H3 := H2.below b3
  have e0 : W3.cell? ⟨w2.heap.size, 0, none⟩ = some (.int .i64 19) := cell_at' x3 0
  have e1 : W3.cell? ⟨w2.heap.size, 1, none⟩ = some (.int .i64 A) := cell_at' x3 1
  have d1 := H3.c1
  rw [HPC.out] at d1
  have z1 : W3.frozen? ⟨g, D.length * 4 + 1, none⟩ = false := by obtain ⟨cur, hh⟩ := H3.gb; exact Lib.frozen_of_heap hh _
  have hne : ¬ w2.heap.size = g := by obtain ⟨cur, hh⟩ := H2.gb; have := heap_lt hh; omega
  have hne' : ¬ g = w2.heap.size := fun e => hne e.symm
  have HS := hideP (H3.setPc ((pc : Int) + 1))
  clear H2 H3 x3
  go_wp2_with (go_at_call 129; refine (HCC.out _ HS.out).mono ?_; rintro e w9 ⟨rfl, h9⟩)
  first | go_end0 | refine bodyPost_ret (results_none rfl _ _ _) rfl ?_
  exact ⟨rfl, h9⟩
set_option maxRecDepth 100000 in
set_option maxHeartbeats 2000000 in
theorem do12p (w0 : World) (b : Nat) (pv : Value) (M : Mach) (D : List Frm) (x : Frm) (p : List Fn) (k pc : Nat) (f : Fn) (A : Int) (w : World) (h : Doer w0 w b pv M) (hF : M.frames = D ++ [x]) (hD : D.length ≤ 100) (hp : FnsAt w0 pv p) (hk : p[k]? = some f) (hfn : x.fn = (k : Int)) (hpc : x.pc = (pc : Int)) (hpl : f.2.2.2.length ≤ 1000) (ho : f.2.2.2[pc]? = some (12, A)) (why : Int) (P : World → Prop)
    (HC : ∀ W, Doer w0 W b pv { M with frames := D ++ [{ x with pc := (pc : Int) + 1 }] } → Calls Tryz.prog 128 #[.pointer (some ⟨b, 0, none⟩), .agg #[.int .i64 12, .int .i64 A]] W fun e w' => e = .panicked [{ v := .iface 117 (.int .i64 why), recovered := false }] ∧ P w') : Calls Tryz.prog 88 #[.pointer (some ⟨b, 0, none⟩)] w fun e w' => e = .panicked [{ v := .iface 117 (.int .i64 why), recovered := false }] ∧ P w' := by
  obtain ⟨g, cap, bv, iv, ov, q, c, qb, H⟩ := h.open hF
  have HI := hideP (innermost_raw b g D.length cap w H.fcell hD)
  have HH0 := hideP H
  have HCC := hideP HC
  obtain ⟨pp, qp, hpv, hpm, -⟩ := id hp
  subst hpv
  have HP := hideP hp
  have hpcl := lt_of_at ho
  have hkl := lt_of_at hk
  have HO := hideP ho
  have HK := hideP hk
  have HFN := hideP hfn
  have HPC := hideP hpc
  clear h hF HC H hp ho hk hfn hpc
  go_enter Tryz.func88, Tryz.ntmps88
  go_wp2_with fail
  refine HI.out.mono ?_
  rintro e w2 ⟨rfl, b2⟩
  have H2 := HH0.out.below b2
  have c0 := H2.c0
  have c1 := H2.c1
  rw [HFN.out] at c0
  rw [HPC.out] at c1
  have c6 := H2.at_.cells.2.2.2.2.2.2
  obtain ⟨pp', qp', hpe, -, hpc⟩ := id (HP.out.below H2.at_.bel)
  cases hpe
  obtain ⟨pb, po, f0, f1, f2, f3, hpp, hplt, -, -, -, y3, hfn⟩ := hpc k f HK.out
  subst hpp
  obtain ⟨-, -, -, hops⟩ := hfn
  obtain ⟨p3, q3, he3, -, hoc⟩ := id hops
  subst he3
  obtain ⟨ob, oo, hob, holt, o0, o1⟩ := hoc pc _ HO.out
  subst hob
  have hkli : (k : Int) < (p.length : Int) := by omega
  have hpcli : (pc : Int) < (f.2.2.2.length : Int) := by omega
  have c0a := fun o => cell_old c0 o
  have c1a := fun o => cell_old c1 o
  have c6a := fun o => cell_old c6 o
  have y3a := fun o => cell_old y3 o
  have o0a := fun o => cell_old o0 o
  have o1a := fun o => cell_old o1 o
  clear hpc hoc hops
  go_wp2_with fail
  go_region
  obtain ⟨W3, hW3⟩ : ∃ W3, (w2.alloc (.cells #[.int .i64 12, .int .i64 A] 43)).drew = W3 := ⟨_, rfl⟩
  have b3 : Below w2.heap.size w2 W3 := by rw [← hW3]; exact ((Below.refl _ w2).alloc (Nat.le_refl _) _).drew
  have x3 : W3.heap[w2.heap.size]? = some (.cells #[.int .i64 12, .int .i64 A] 43 (0, 0)) := by rw [← hW3]; exact World.alloc_heap_new w2 _
  rw [hW3]
  clear hW3 c0 c1 c6 y3 o0 o1 c0a c1a c6a y3a o0a o1a
  have H3 := H2.below b3
  have e0 : W3.cell? ⟨w2.heap.size, 0, none⟩ = some (.int .i64 12) := cell_at' x3 0
  have e1 : W3.cell? ⟨w2.heap.size, 1, none⟩ = some (.int .i64 A) := cell_at' x3 1
  have d1 := H3.c1
  rw [HPC.out] at d1
  have z1 : W3.frozen? ⟨g, D.length * 4 + 1, none⟩ = false := by obtain ⟨cur, hh⟩ := H3.gb; exact Lib.frozen_of_heap hh _
  have hne : ¬ w2.heap.size = g := by obtain ⟨cur, hh⟩ := H2.gb; have := heap_lt hh; omega
  have hne' : ¬ g = w2.heap.size := fun e => hne e.symm
  have HS := hideP (H3.setPc ((pc : Int) + 1))
  clear H2 H3 x3
  go_wp2_with (go_at_call 128; refine (HCC.out _ HS.out).mono ?_; rintro e w9 ⟨rfl, h9⟩)
  exact ⟨rfl, rfl, h9⟩
set_option maxRecDepth 100000 in
set_option maxHeartbeats 2000000 in
theorem do16p (w0 : World) (b : Nat) (pv : Value) (M : Mach) (D : List Frm) (x : Frm) (p : List Fn) (k pc : Nat) (f : Fn) (A : Int) (w : World) (h : Doer w0 w b pv M) (hF : M.frames = D ++ [x]) (hD : D.length ≤ 100) (hp : FnsAt w0 pv p) (hk : p[k]? = some f) (hfn : x.fn = (k : Int)) (hpc : x.pc = (pc : Int)) (hpl : f.2.2.2.length ≤ 1000) (ho : f.2.2.2[pc]? = some (16, A)) (why : Int) (P : World → Prop)
    (HC : ∀ W, Doer w0 W b pv { M with frames := D ++ [{ x with pc := (pc : Int) + 1 }] } → Calls Tryz.prog 129 #[.pointer (some ⟨b, 0, none⟩), .int .i64 16] W fun e w' => e = .panicked [{ v := .iface 117 (.int .i64 why), recovered := false }] ∧ P w') : Calls Tryz.prog 88 #[.pointer (some ⟨b, 0, none⟩)] w fun e w' => e = .panicked [{ v := .iface 117 (.int .i64 why), recovered := false }] ∧ P w' := by
  obtain ⟨g, cap, bv, iv, ov, q, c, qb, H⟩ := h.open hF
  have HI := hideP (innermost_raw b g D.length cap w H.fcell hD)
  have HH0 := hideP H
  have HCC := hideP HC
  obtain ⟨pp, qp, hpv, hpm, -⟩ := id hp
  subst hpv
  have HP := hideP hp
  have hpcl := lt_of_at ho
  have hkl := lt_of_at hk
  have HO := hideP ho
  have HK := hideP hk
  have HFN := hideP hfn
  have HPC := hideP hpc
  clear h hF HC H hp ho hk hfn hpc
  go_enter Tryz.func88, Tryz.ntmps88
  go_wp2_with fail
  refine HI.out.mono ?_
  rintro e w2 ⟨rfl, b2⟩
  have H2 := HH0.out.below b2
  have c0 := H2.c0
  have c1 := H2.c1
  rw [HFN.out] at c0
  rw [HPC.out] at c1
  have c6 := H2.at_.cells.2.2.2.2.2.2
  obtain ⟨pp', qp', hpe, -, hpc⟩ := id (HP.out.below H2.at_.bel)
  cases hpe
  obtain ⟨pb, po, f0, f1, f2, f3, hpp, hplt, -, -, -, y3, hfn⟩ := hpc k f HK.out
  subst hpp
  obtain ⟨-, -, -, hops⟩ := hfn
  obtain ⟨p3, q3, he3, -, hoc⟩ := id hops
  subst he3
  obtain ⟨ob, oo, hob, holt, o0, o1⟩ := hoc pc _ HO.out
  subst hob
  have hkli : (k : Int) < (p.length : Int) := by omega
  have hpcli : (pc : Int) < (f.2.2.2.length : Int) := by omega
  have c0a := fun o => cell_old c0 o
  have c1a := fun o => cell_old c1 o
  have c6a := fun o => cell_old c6 o
  have y3a := fun o => cell_old y3 o
  have o0a := fun o => cell_old o0 o
  have o1a := fun o => cell_old o1 o
  clear hpc hoc hops
  go_wp2_with fail
  go_region
  obtain ⟨W3, hW3⟩ : ∃ W3, (w2.alloc (.cells #[.int .i64 16, .int .i64 A] 43)).drew = W3 := ⟨_, rfl⟩
  have b3 : Below w2.heap.size w2 W3 := by rw [← hW3]; exact ((Below.refl _ w2).alloc (Nat.le_refl _) _).drew
  have x3 : W3.heap[w2.heap.size]? = some (.cells #[.int .i64 16, .int .i64 A] 43 (0, 0)) := by rw [← hW3]; exact World.alloc_heap_new w2 _
  rw [hW3]
  clear hW3 c0 c1 c6 y3 o0 o1 c0a c1a c6a y3a o0a o1a
  have H3 := H2.below b3
  have e0 : W3.cell? ⟨w2.heap.size, 0, none⟩ = some (.int .i64 16) := cell_at' x3 0
  have e1 : W3.cell? ⟨w2.heap.size, 1, none⟩ = some (.int .i64 A) := cell_at' x3 1
  have d1 := H3.c1
  rw [HPC.out] at d1
  have z1 : W3.frozen? ⟨g, D.length * 4 + 1, none⟩ = false := by obtain ⟨cur, hh⟩ := H3.gb; exact Lib.frozen_of_heap hh _
  have hne : ¬ w2.heap.size = g := by obtain ⟨cur, hh⟩ := H2.gb; have := heap_lt hh; omega
  have hne' : ¬ g = w2.heap.size := fun e => hne e.symm
  have HS := hideP (H3.setPc ((pc : Int) + 1))
  clear H2 H3 x3
  go_wp2_with (go_at_call 129; refine (HCC.out _ HS.out).mono ?_; rintro e w9 ⟨rfl, h9⟩)
  exact ⟨rfl, rfl, h9⟩
end Go.Proofs.YtcadpoknolefpaaGreat
