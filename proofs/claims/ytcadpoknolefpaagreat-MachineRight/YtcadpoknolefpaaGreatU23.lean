/- My texts Xf Qa Qb Qc Qd Qe Qf, joined. -/
import Derived.Lib.SmallJoins
import Derived.Test.YtcadpoknolefpaaGreatU7
import Derived.Test.YtcadpoknolefpaaGreatU10
import Derived.Test.YtcadpoknolefpaaGreatU15
import Derived.Test.YtcadpoknolefpaaGreatU18
/- A function, an op that came in. -/
namespace Go.Proofs.YtcadpoknolefpaaGreat
open Go.ChangeShapes Go.WideShapes Go.ChangeAt Go.RowKit
set_option linter.unusedVariables false
set_option linter.unusedSimpArgs false
section
variable {H : Type} {enc : TypeId × Value → H} {W : World}
set_option maxRecDepth 100000 in
theorem open_funcV {base : Nat} {r : Reach} {v : Value} {d : DataW H} {p : List MemPlace} (hv : Value.okWide Tryz.prog W r base 78 v) (h : DataW.Trod enc Tryz.prog W 0 (fun _ => true) true 78 v d p) (hs : ∀ n ∈ d.weights Tryz.prog 78, n ≤ reachBytes) :
    ∃ (c0 c1 c2 c3 : Value) (f : Fn), v = .agg #[c0, c1, c2, c3] ∧ FnAt W c0 c1 c2 c3 f ∧ FnFull c1 c3 := by
  obtain ⟨cs, rfl, hsz⟩ := okWide_struct Tryz.underlying78 hv
  rw [cells_fn] at hsz
  obtain ⟨cs⟩ := cs
  match cs, hsz with
  | [c0, c1, c2, c3], _ =>
    obtain ⟨fuel, hf⟩ := h
    obtain ⟨f, h1, h2⟩ := open_fnN (x := (d, p)) (c0 := c0) (c1 := c1) (c2 := c2) (c3 := c3) (by simpa [Value.cells] using hf) hs
    exact ⟨c0, c1, c2, c3, f, rfl, h1, h2⟩
set_option maxRecDepth 100000 in
theorem open_opV {base : Nat} {r : Reach} {v : Value} {d : DataW H} {p : List MemPlace} (hv : Value.okWide Tryz.prog W r base 43 v) (h : DataW.Trod enc Tryz.prog W 0 (fun _ => true) true 43 v d p) : ∃ c a : Int, v = .agg #[.int .i64 c, .int .i64 a] := by
  obtain ⟨c0, c1, y0, y1, m, rfl, hd0, hp0, hy0, hy1⟩ := Joins.open_agg2 Tryz.underlying43 (by kernel_rfl) (by kernel_rfl) hv h
  obtain ⟨c, e0, _, wc⟩ := DataW.trod_int Tryz.underlying3 hy0
  obtain ⟨a, e1, _, wa⟩ := DataW.trod_int Tryz.underlying3 hy1
  simp at e0 e1
  subst e0 e1
  exact ⟨c, a, rfl⟩
end
end Go.Proofs.YtcadpoknolefpaaGreat
/- Machines, plainly (chapter 6): what they are, what is right, what a step makes of one. -/
namespace Go.Proofs.YtcadpoknolefpaaGreat
open Go.RowKit
set_option linter.unusedSimpArgs false
set_option linter.unusedVariables false
/-- a value: is it a ref, and its number. -/
abbrev Val := Bool × Int
structure Frm where
  fn : Int
  pc : Int
  loc : List Val
  stk : List Val
structure Mach where
  frames : List Frm
  blocks : List (List Int)
  inp : List Int
  out : List Int
  status : Int
  trap : Int
/-- is a value as a type says? -/
def asT (v : Val) (t : Int) : Bool := (v.1 == decide (t ≠ 1)) && (decide (t ≠ 3) || decide (v.2 = 0))
def areOf : List Val → List Int → Bool
  | [], [] => true
  | v :: r, t :: q => asT v t && areOf r q
  | _, _ => false
/-- a number of a machine, or a ref of its blocks or none. -/
def okV (nb : Nat) (v : Val) : Bool := if v.1 then decide (0 ≤ v.2) && decide (v.2 ≤ (nb : Int)) else isI32 v.2
theorem asT_le {v : Val} {t u : Int} (h : asT v t = true) (hs : standsB t u = true) : asT v u = true := by
  simp only [asT, standsB, Bool.and_eq_true, Bool.or_eq_true, decide_eq_true_eq, beq_iff_eq] at h hs ⊢
  rcases hs with rfl | ⟨rfl, rfl⟩
  · exact h
  · refine ⟨?_, .inl (by omega)⟩
    rw [h.1]; decide
theorem areOf_length : ∀ {l : List Val} {s : List Int}, areOf l s = true → l.length = s.length
  | [], [], _ => rfl
  | [], _ :: _, h => by simp [areOf] at h
  | _ :: _, [], h => by simp [areOf] at h
  | v :: r, t :: q, h => by simp [areOf] at h; simp [areOf_length h.2]
theorem areOf_le : ∀ {l : List Val} {s t : List Int}, areOf l s = true → leS s t = true → areOf l t = true
  | [], [], [], _, _ => rfl
  | [], [], _ :: _, _, h => by simp [leS] at h
  | [], _ :: _, _, h, _ => by simp [areOf] at h
  | _ :: _, [], _, h, _ => by simp [areOf] at h
  | _ :: _, _ :: _, [], _, h => by simp [leS] at h
  | v :: r, a :: q, b :: u, h, k => by
    simp [areOf, leS] at h k ⊢
    exact ⟨asT_le h.1 k.1, areOf_le h.2 k.2⟩
theorem areOf_append : ∀ {l m : List Val} {s t : List Int}, areOf l s = true → areOf m t = true → areOf (l ++ m) (s ++ t) = true
  | [], _, [], _, _, h => h
  | [], _, _ :: _, _, h, _ => by simp [areOf] at h
  | _ :: _, _, [], _, h, _ => by simp [areOf] at h
  | v :: r, m, a :: q, t, h, k => by
    simp [areOf] at h ⊢
    exact ⟨h.1, areOf_append h.2 k⟩
theorem areOf_take : ∀ (n : Nat) {l : List Val} {s : List Int}, areOf l s = true → areOf (l.take n) (s.take n) = true
  | 0, _, _, _ => rfl
  | n + 1, [], [], _ => rfl
  | n + 1, [], _ :: _, h => by simp [areOf] at h
  | n + 1, _ :: _, [], h => by simp [areOf] at h
  | n + 1, v :: r, t :: q, h => by simp [areOf] at h ⊢; exact ⟨h.1, areOf_take n h.2⟩
theorem areOf_drop : ∀ (n : Nat) {l : List Val} {s : List Int}, areOf l s = true → areOf (l.drop n) (s.drop n) = true
  | 0, _, _, h => h
  | n + 1, [], [], _ => rfl
  | n + 1, [], _ :: _, h => by simp [areOf] at h
  | n + 1, _ :: _, [], h => by simp [areOf] at h
  | n + 1, v :: r, t :: q, h => by simp [areOf] at h; exact areOf_drop n h.2
theorem areOf_at : ∀ {l : List Val} {s : List Int}, areOf l s = true → ∀ (k : Nat) (v : Val) (t : Int), l[k]? = some v → s[k]? = some t → asT v t = true
  | [], _, _, k, v, t, h, _ => by simp at h
  | _ :: _, [], _, k, v, t, _, h => by simp at h
  | a :: r, b :: q, h, 0, v, t, h1, h2 => by simp at h1 h2; subst h1 h2; simp [areOf] at h; exact h.1
  | a :: r, b :: q, h, k + 1, v, t, h1, h2 => by simp [areOf] at h; exact areOf_at h.2 k v t (by simpa using h1) (by simpa using h2)
theorem areOf_set : ∀ {l : List Val} {s : List Int}, areOf l s = true → ∀ (k : Nat) (v : Val) (t : Int), s[k]? = some t → asT v t = true → areOf (l.set k v) s = true
  | [], [], _, k, v, t, h, _ => by simp at h
  | [], _ :: _, h, _, _, _, _, _ => by simp [areOf] at h
  | _ :: _, [], h, _, _, _, _, _ => by simp [areOf] at h
  | a :: r, b :: q, h, 0, v, t, h2, hv => by simp at h2; subst h2; simp [areOf] at h ⊢; exact ⟨hv, h.2⟩
  | a :: r, b :: q, h, k + 1, v, t, h2, hv => by simp [areOf] at h ⊢; exact ⟨h.1, areOf_set h.2 k v t (by simpa using h2) hv⟩
theorem areOf_reverse {l : List Val} {s : List Int} (h : areOf l s = true) : areOf l.reverse s.reverse = true := by
  induction l generalizing s with
  | nil => cases s with
    | nil => rfl
    | cons _ _ => simp [areOf] at h
  | cons a r ih => cases s with
    | nil => simp [areOf] at h
    | cons b q =>
      simp [areOf] at h
      rw [List.reverse_cons, List.reverse_cons]
      exact areOf_append (ih h.2) (by simp [areOf, h.1])
/-- a value from the top: 0 is the top. -/
def topV (s : List Val) (j : Nat) : Val := s.getD (s.length - 1 - j) (false, 0)
/-- without so many from the top. -/
def cutV (s : List Val) (j : Nat) : List Val := s.take (s.length - j)
/-- what locals are at first. -/
def freshL (ts : List Int) : List Val := ts.map fun t => (decide (t = 2), 0)
def trapM (m : Mach) (why : Int) : Mach := { m with status := 3, trap := why }
/-- the innermost frame is another one. -/
def putF (m : Mach) (x : Frm) : Mach := { m with frames := m.frames.dropLast ++ [x] }
/-- go on behind, with this stack. -/
def onF (m : Mach) (x : Frm) (s : List Val) : Mach := putF m { x with pc := x.pc + 1, stk := s }
/-- what an op makes of a machine whose innermost frame is x. -/
def doOp (p : List Fn) (m : Mach) (x : Frm) (o : Int × Int) : Mach :=
  if o.1 = 21 ∧ m.inp = [] then { m with status := 1 }
  else if o.1 = 1 then onF m x (x.stk ++ [(false, o.2)])
  else if o.1 = 2 then onF m x (cutV x.stk 1)
  else if o.1 = 3 then onF m x (cutV x.stk 1 ++ [topV x.stk 0, topV x.stk 0])
  else if o.1 = 4 then onF m x (cutV x.stk 2 ++ [topV x.stk 0, topV x.stk 1])
  else if o.1 = 5 then onF m x (cutV x.stk 2 ++ [(false, wrap32 ((topV x.stk 1).2 + (topV x.stk 0).2))])
  else if o.1 = 6 then onF m x (cutV x.stk 2 ++ [(false, wrap32 ((topV x.stk 1).2 - (topV x.stk 0).2))])
  else if o.1 = 7 then onF m x (cutV x.stk 2 ++ [(false, wrap32 ((topV x.stk 1).2 * (topV x.stk 0).2))])
  else if o.1 = 8 then onF m x (x.stk ++ [x.loc.getD o.2.toNat (false, 0)])
  else if o.1 = 9 then putF m { x with pc := x.pc + 1, loc := x.loc.set o.2.toNat (topV x.stk 0), stk := cutV x.stk 1 }
  else if o.1 = 10 then putF m { x with pc := o.2 }
  else if o.1 = 11 then putF m { x with pc := if (topV x.stk 0).2 = 0 then o.2 else x.pc + 1, stk := cutV x.stk 1 }
  else if o.1 = 12 then (if m.frames.length = 6 then trapM m 4 else match p[o.2.toNat]? with
    | none => m
    | some g => { m with frames := m.frames.dropLast ++ [{ x with pc := x.pc + 1, stk := cutV x.stk g.1.toNat }, { fn := o.2, pc := 0, loc := x.stk.drop (x.stk.length - g.1.toNat) ++ (freshL g.2.1).drop g.1.toNat, stk := [] }] })
  else if o.1 = 13 then (match m.frames.dropLast.getLast? with
    | none => { m with frames := [], status := 2 }
    | some y => { m with frames := m.frames.dropLast.dropLast ++ [{ y with stk := y.stk ++ x.stk }] })
  else if o.1 = 14 then (if newErr m.blocks (topV x.stk 0).2 ≠ 0 then trapM m 3 else { onF m x (cutV x.stk 1 ++ [(true, (m.blocks.length : Int) + 1)]) with blocks := newL m.blocks (topV x.stk 0).2 })
  else if o.1 = 15 then (if placeErr m.blocks (topV x.stk 1).2 (topV x.stk 0).2 = 5 then trapM m 1 else if placeErr m.blocks (topV x.stk 1).2 (topV x.stk 0).2 ≠ 0 then trapM m 2 else onF m x (cutV x.stk 2 ++ [(false, getL m.blocks (topV x.stk 1).2 (topV x.stk 0).2)]))
  else if o.1 = 16 then (if setErr m.blocks (topV x.stk 2).2 (topV x.stk 1).2 (topV x.stk 0).2 = 5 then trapM m 1 else if setErr m.blocks (topV x.stk 2).2 (topV x.stk 1).2 (topV x.stk 0).2 ≠ 0 then trapM m 2 else { onF m x (cutV x.stk 3) with blocks := setL m.blocks (topV x.stk 2).2 (topV x.stk 1).2 (topV x.stk 0).2 })
  else if o.1 = 17 then (if (topV x.stk 0).2 = 0 then trapM m 1 else onF m x (cutV x.stk 1 ++ [(false, ((blkAt m.blocks (topV x.stk 0).2).length : Int))]))
  else if o.1 = 18 then onF m x (x.stk ++ [(true, 0)])
  else if o.1 = 19 then onF m x (cutV x.stk 1 ++ [(false, if (topV x.stk 0).2 = 0 then 1 else 0)])
  else if o.1 = 20 then (if m.out.length = 10 then trapM m 5 else { onF m x (cutV x.stk 1) with out := m.out ++ [(topV x.stk 0).2] })
  else if o.1 = 21 then { onF m x (x.stk ++ [(false, m.inp.headD 0)]) with inp := m.inp.tail }
  else m
/-- entries of all functions of a program that fits. -/
def AllFit (p : List Fn) (e : Nat → Nat → Option (List Int)) : Prop := ∀ (k : Nat) (f : Fn), p[k]? = some f → Least p f (some (e k))
/-- a frame that is right, ahead of one of a function, or the innermost one. -/
structure RightF (p : List Fn) (e : Nat → Nat → Option (List Int)) (nb : Nat) (next : Option Int) (x : Frm) (k : Nat) (f : Fn) : Prop where
  fn : x.fn = (k : Int)
  at_ : p[k]? = some f
  loc : areOf x.loc f.2.1 = true
  okl : ∀ v ∈ x.loc, okV nb v = true
  oks : ∀ v ∈ x.stk, okV nb v = true
  inner : next = none → ∃ (pc : Nat) (s : List Int), x.pc = (pc : Int) ∧ e k pc = some s ∧ areOf x.stk s = true
  outer : ∀ g, next = some g → ∃ (pc : Nat) (s0 s : List Int) (h : Fn), x.pc = ((pc + 1 : Nat) : Int) ∧ 0 ≤ g ∧ e k pc = some s0 ∧ f.2.2.2[pc]? = some (12, g) ∧ e k (pc + 1) = some s ∧ p[g.toNat]? = some h ∧ areOf x.stk (if h.2.2.1 ≠ 0 then s.dropLast else s) = true
/-- a machine that is right, of a program that fits. -/
structure RightM (p : List Fn) (e : Nat → Nat → Option (List Int)) (m : Mach) : Prop where
  status : 0 ≤ m.status ∧ m.status ≤ 3
  trap : (m.status = 3 → 1 ≤ m.trap ∧ m.trap ≤ 5) ∧ (m.status ≠ 3 → m.trap = 0)
  blocks : blkErr m.blocks = 0
  inp : m.inp.length ≤ 10 ∧ ∀ n ∈ m.inp, isI32 n = true
  out : m.out.length ≤ 10 ∧ ∀ n ∈ m.out, isI32 n = true
  depth : m.frames.length ≤ 6 ∧ (m.frames = [] ↔ m.status = 2)
  first : ∀ x, m.frames[0]? = some x → x.fn = 0
  each : ∀ (i : Nat) (x : Frm), m.frames[i]? = some x → ∃ k f, RightF p e m.blocks.length ((m.frames[i + 1]?).map Frm.fn) x k f
  wait : m.status = 1 → m.inp = [] ∧ ∃ (x : Frm) (k : Nat) (f : Fn) (o : Int × Int), m.frames.getLast? = some x ∧ x.fn = (k : Int) ∧ p[k]? = some f ∧ f.2.2.2[x.pc.toNat]? = some o ∧ o.1 = 21
end Go.Proofs.YtcadpoknolefpaaGreat
/- A step of a right machine is a right machine, plainly. -/
namespace Go.Proofs.YtcadpoknolefpaaGreat
open Go.RowKit
set_option linter.unusedSimpArgs false
set_option linter.unusedVariables false
theorem try_parts {p : List Fn} {f : Fn} {o : Int × Int} {s out : List Int} (h : tryOp p f o s = some out) : ∃ t l, takesLeaves p f o s = some (t, l) ∧ t.length ≤ s.length ∧ leS (s.drop (s.length - t.length)) t = true ∧ out = s.take (s.length - t.length) ++ l := by
  unfold tryOp at h
  obtain ⟨⟨t, l⟩, h1, h2⟩ := Option.bind_eq_some_iff.1 h
  simp only at h2
  split at h2
  · rename_i hc
    cases h2
    exact ⟨t, l, h1, hc.1, hc.2.1, rfl⟩
  · cases h2
theorem okV_mono {a b : Nat} (h : a ≤ b) {v : Val} (hv : okV a v = true) : okV b v = true := by
  unfold okV at hv ⊢
  split
  · rename_i h1
    rw [if_pos h1] at hv
    simp at hv ⊢
    omega
  · rename_i h1
    rw [if_neg h1] at hv
    exact hv
theorem RightF.mono {p : List Fn} {e : Nat → Nat → Option (List Int)} {a b : Nat} {next : Option Int} {x : Frm} {k : Nat} {f : Fn} (h : RightF p e a next x k f) (hab : a ≤ b) : RightF p e b next x k f :=
  ⟨h.fn, h.at_, h.loc, fun v hv => okV_mono hab (h.okl v hv), fun v hv => okV_mono hab (h.oks v hv), h.inner, h.outer⟩
theorem last_split {α : Type} {l : List α} {x : α} (h : l.getLast? = some x) : l = l.dropLast ++ [x] := by
  obtain ⟨ys, rfl⟩ := List.getLast?_eq_some_iff.1 h
  simp
/-- the innermost frame is another one of the same function. -/
theorem right_put {p : List Fn} {e : Nat → Nat → Option (List Int)} {m : Mach} {x x' : Frm} {k : Nat} {f : Fn} {B : List (List Int)} {I O : List Int} (h : RightM p e m) (hst : m.status = 0) (hl : m.frames.getLast? = some x) (hfn : x'.fn = x.fn) (hB : blkErr B = 0) (hnb : m.blocks.length ≤ B.length) (hI : I.length ≤ 10 ∧ ∀ n ∈ I, isI32 n = true) (hO : O.length ≤ 10 ∧ ∀ n ∈ O, isI32 n = true) (hr : RightF p e B.length none x' k f) :
    RightM p e { m with frames := m.frames.dropLast ++ [x'], blocks := B, inp := I, out := O } := by
  have hs := last_split hl
  generalize hd : m.frames.dropLast = D at *
  have hlen : m.frames.length = D.length + 1 := by rw [hs]; simp
  have hat : ∀ i y, i < D.length → (m.frames[i]? = some y ↔ (D ++ [x'])[i]? = some y) := by
    intro i y hi
    rw [hs, List.getElem?_append_left hi, List.getElem?_append_left hi]
  refine ⟨h.status, h.trap, hB, hI, hO, ⟨by simp; have := h.depth.1; omega, ?_⟩, ?_, ?_, fun hw => ?_⟩
  · simp [hst]
  · intro y hy
    simp only at hy
    cases D with
    | nil =>
      simp at hy
      subst hy
      rw [hfn]
      exact h.first x (by rw [hs]; rfl)
    | cons d r => exact h.first y ((hat 0 y (by simp)).2 hy)
  · intro i y hy
    simp only at hy ⊢
    by_cases hi : i < D.length
    · obtain ⟨k', f', hr'⟩ := h.each i y ((hat i y hi).2 hy)
      refine ⟨k', f', ?_⟩
      have hnext : (m.frames[i + 1]?).map Frm.fn = ((D ++ [x'])[i + 1]?).map Frm.fn := by
        by_cases hi2 : i + 1 < D.length
        · rw [hs, List.getElem?_append_left hi2, List.getElem?_append_left hi2]
        · have : i + 1 = D.length := by omega
          rw [hs, this]
          simp [hfn]
      rw [← hnext]
      exact hr'.mono hnb
    · have hi2 : i = D.length := by have := lt_of_at hy; simp at this; omega
      subst hi2
      simp at hy
      subst hy
      exact ⟨k, f, by simpa using hr⟩
  · rw [hst] at hw
    cases hw
/-- nothing but the status, and why. -/
theorem right_trap {p : List Fn} {e : Nat → Nat → Option (List Int)} {m : Mach} (h : RightM p e m) (hst : m.status = 0) {why : Int} (h1 : 1 ≤ why ∧ why ≤ 5) : RightM p e (trapM m why) := by
  refine ⟨by simp [trapM], ⟨fun _ => by simpa [trapM] using h1, fun hn => by simp [trapM] at hn⟩, h.blocks, h.inp, h.out, ⟨h.depth.1, ?_⟩, h.first, h.each, fun hw => by simp [trapM] at hw⟩
  simp only [trapM]
  constructor
  · intro hf
    have := h.depth.2.1 hf
    omega
  · intro hf; omega
theorem cutV_areOf {l : List Val} {s : List Int} (h : areOf l s = true) (n : Nat) : areOf (cutV l n) (s.take (s.length - n)) = true := by
  unfold cutV
  rw [areOf_length h]
  exact areOf_take _ h
theorem mem_cutV {l : List Val} {n : Nat} {v : Val} (h : v ∈ cutV l n) : v ∈ l := List.mem_of_mem_take h
/-- the values that an op takes are as it takes them. -/
theorem top_as {l : List Val} {s t : List Int} (h : areOf l s = true) (hle : t.length ≤ s.length) (hs : leS (s.drop (s.length - t.length)) t = true) : areOf (l.drop (l.length - t.length)) t = true := by
  rw [areOf_length h]
  exact areOf_le (areOf_drop _ h) hs
theorem topV_at {l : List Val} {t : List Int} (h : areOf (l.drop (l.length - t.length)) t = true) (hl : t.length ≤ l.length) (j : Nat) (hj : j < t.length) : topV l j ∈ l ∧ ∃ u, t[t.length - 1 - j]? = some u ∧ asT (topV l j) u = true := by
  have hlt : l.length - 1 - j < l.length := by omega
  have hv : l[l.length - 1 - j]? = some (topV l j) := by
    unfold topV
    rw [List.getD_eq_getElem?_getD, List.getElem?_eq_getElem hlt]; rfl
  refine ⟨List.mem_of_getElem? hv, ?_⟩
  obtain ⟨u, hu⟩ := at_of_lt (l := t) (k := t.length - 1 - j) (by omega)
  refine ⟨u, hu, areOf_at h (t.length - 1 - j) _ _ ?_ hu⟩
  rw [List.getElem?_drop, show l.length - t.length + (t.length - 1 - j) = l.length - 1 - j by omega]
  exact hv
/-- where the innermost frame is, and what its op has and leaves. -/
theorem inner_go {p : List Fn} {e : Nat → Nat → Option (List Int)} {nb : Nat} {x : Frm} {k : Nat} {f : Fn} (he : AllFit p e) (hr : RightF p e nb none x k f) : ∃ (pc : Nat) (s : List Int) (o : Int × Int) (out : List Int), x.pc = (pc : Int) ∧ e k pc = some s ∧ areOf x.stk s = true ∧ f.2.2.2[pc]? = some o ∧ tryOp p f o s = some out ∧ ∀ to, goesOn f.2.2.2 pc to = true → to < f.2.2.2.length ∧ ∃ s', e k to = some s' ∧ leS out s' = true := by
  obtain ⟨pc, s, h1, h2, h3⟩ := hr.inner rfl
  obtain ⟨o, out, h4, h5, h6⟩ := (he k f hr.at_).1.on pc s h2
  exact ⟨pc, s, o, out, h1, h2, h3, h4, h5, h6⟩
theorem goesOn_next {C : List (Int × Int)} {pc : Nat} {o : Int × Int} (h : C[pc]? = some o) (h13 : o.1 ≠ 13) (h10 : o.1 ≠ 10) : goesOn C pc (pc + 1) = true := by
  unfold goesOn
  rw [h]
  simp only
  rw [if_neg h13, if_neg h10]
  split <;> simp
/-- an op that takes and leaves, and goes on. -/
theorem plain_case {p : List Fn} {e : Nat → Nat → Option (List Int)} {nb nb' : Nat} {x : Frm} {k : Nat} {f : Fn} {to : Nat} {s out t l : List Int} {o : Int × Int} {loc' res : List Val} (hr : RightF p e nb none x k f) (hnb : nb ≤ nb') (hst : areOf x.stk s = true) (ht : tryOp p f o s = some out) (htl : takesLeaves p f o s = some (t, l)) (hto : ∃ s', e k to = some s' ∧ leS out s' = true) (hres : areOf res l = true) (hok : ∀ v ∈ res, okV nb' v = true) (hloc : areOf loc' f.2.1 = true) (hokl : ∀ v ∈ loc', okV nb' v = true) {pc' : Int} (hpc : pc' = (to : Int)) :
    RightF p e nb' none { x with pc := pc', loc := loc', stk := cutV x.stk t.length ++ res } k f := by
  obtain ⟨t', l', h1, h2, h3, rfl⟩ := try_parts ht
  rw [htl] at h1
  cases h1
  obtain ⟨s', h4, h5⟩ := hto
  refine ⟨hr.fn, hr.at_, hloc, hokl, fun v hv => ?_, fun _ => ⟨to, s', hpc, h4, areOf_le (areOf_append (cutV_areOf hst _) hres) h5⟩, fun g hg => by cases hg⟩
  rcases List.mem_append.1 hv with hv | hv
  · exact okV_mono hnb (hr.oks v (mem_cutV hv))
  · exact hok v hv
/-- what an op takes is there, as it takes it. -/
theorem has_takes {p : List Fn} {f : Fn} {o : Int × Int} {x : Frm} {s out t l : List Int} (hst : areOf x.stk s = true) (ht : tryOp p f o s = some out) (htl : takesLeaves p f o s = some (t, l)) : t.length ≤ x.stk.length ∧ areOf (x.stk.drop (x.stk.length - t.length)) t = true := by
  obtain ⟨t', l', h1, h2, h3, _⟩ := try_parts ht
  rw [htl] at h1
  cases h1
  exact ⟨by rw [areOf_length hst]; exact h2, top_as hst h2 h3⟩
theorem asT_int {v : Val} (h : asT v 1 = true) : v.1 = false := by simp [asT] at h; exact h
theorem asT_ref {v : Val} (h : asT v 2 = true) : v.1 = true := by simp [asT] at h; exact h
theorem okV_num {nb : Nat} {n : Int} (h : isI32 n = true) : okV nb (false, n) = true := by simpa [okV] using h
theorem okV_ref {nb : Nat} {n : Int} (h0 : 0 ≤ n) (h1 : n ≤ (nb : Int)) : okV nb (true, n) = true := by simp [okV, h0, h1]
theorem wrap_i32 (n : Int) : isI32 (wrap32 n) = true := by rw [← wrap_isI32]; simp [wrap32]
end Go.Proofs.YtcadpoknolefpaaGreat
/- A step of a right machine is a right machine: the ops that go on within their frame. -/
namespace Go.Proofs.YtcadpoknolefpaaGreat
open Go.RowKit
set_option linter.unusedSimpArgs false
set_option linter.unusedVariables false
/-- all that is known where an op is done. -/
structure AtOp (p : List Fn) (e : Nat → Nat → Option (List Int)) (m : Mach) (x : Frm) (k : Nat) (f : Fn) (pc : Nat) (s out : List Int) (o : Int × Int) : Prop where
  right : RightM p e m
  run : m.status = 0
  last : m.frames.getLast? = some x
  frame : RightF p e m.blocks.length none x k f
  pcx : x.pc = (pc : Int)
  ent : e k pc = some s
  stk : areOf x.stk s = true
  op : f.2.2.2[pc]? = some o
  try_ : tryOp p f o s = some out
  on : ∀ to, goesOn f.2.2.2 pc to = true → to < f.2.2.2.length ∧ ∃ s', e k to = some s' ∧ leS out s' = true
  i32 : isI32 o.2 = true
theorem cutV_zero (l : List Val) : cutV l 0 = l := by simp [cutV]
/-- one that takes t and leaves l, whatever else it does to blocks and boxes. -/
theorem AtOp.go {p : List Fn} {e : Nat → Nat → Option (List Int)} {m : Mach} {x : Frm} {k : Nat} {f : Fn} {pc : Nat} {s out : List Int} {o : Int × Int} (h : AtOp p e m x k f pc s out o) {t l : List Int} {res loc' : List Val} {B : List (List Int)} {I O : List Int} {to : Nat} {pc' : Int} (htl : takesLeaves p f o s = some (t, l)) (hto : goesOn f.2.2.2 pc to = true) (hpc : pc' = (to : Int)) (hres : areOf res l = true) (hok : ∀ v ∈ res, okV B.length v = true) (hloc : areOf loc' f.2.1 = true) (hokl : ∀ v ∈ loc', okV B.length v = true) (hB : blkErr B = 0) (hnb : m.blocks.length ≤ B.length) (hI : I.length ≤ 10 ∧ ∀ n ∈ I, isI32 n = true) (hO : O.length ≤ 10 ∧ ∀ n ∈ O, isI32 n = true) {st : List Val} (hst : st = cutV x.stk t.length ++ res) :
    RightM p e { m with frames := m.frames.dropLast ++ [{ x with pc := pc', loc := loc', stk := st }], blocks := B, inp := I, out := O } := by
  subst hst
  exact right_put (x' := { x with pc := pc', loc := loc', stk := cutV x.stk t.length ++ res }) h.right h.run h.last rfl hB hnb hI hO (plain_case h.frame hnb h.stk h.try_ htl (h.on to hto).2 hres hok hloc hokl hpc)
theorem AtOp.next {p : List Fn} {e : Nat → Nat → Option (List Int)} {m : Mach} {x : Frm} {k : Nat} {f : Fn} {pc : Nat} {s out : List Int} {o : Int × Int} (h : AtOp p e m x k f pc s out o) (h13 : o.1 ≠ 13) (h10 : o.1 ≠ 10) {t l : List Int} {res : List Val} {B : List (List Int)} {I O : List Int} (htl : takesLeaves p f o s = some (t, l)) (hres : areOf res l = true) (hok : ∀ v ∈ res, okV B.length v = true) (hB : blkErr B = 0) (hnb : m.blocks.length ≤ B.length) (hI : I.length ≤ 10 ∧ ∀ n ∈ I, isI32 n = true) (hO : O.length ≤ 10 ∧ ∀ n ∈ O, isI32 n = true) {st : List Val} (hst : st = cutV x.stk t.length ++ res) :
    RightM p e { onF m x st with blocks := B, inp := I, out := O } :=
  h.go htl (goesOn_next h.op h13 h10) (by rw [h.pcx]; rfl) hres hok h.frame.loc (fun v hv => okV_mono hnb (h.frame.okl v hv)) hB hnb hI hO hst
/-- the same, where blocks and boxes stay. -/
theorem AtOp.plain {p : List Fn} {e : Nat → Nat → Option (List Int)} {m : Mach} {x : Frm} {k : Nat} {f : Fn} {pc : Nat} {s out : List Int} {o : Int × Int} (h : AtOp p e m x k f pc s out o) (h13 : o.1 ≠ 13) (h10 : o.1 ≠ 10) {t l : List Int} {res : List Val} (htl : takesLeaves p f o s = some (t, l)) (hres : areOf res l = true) (hok : ∀ v ∈ res, okV m.blocks.length v = true) {st : List Val} (hst : st = cutV x.stk t.length ++ res) : RightM p e (onF m x st) :=
  h.next h13 h10 htl hres hok h.right.blocks (Nat.le_refl _) h.right.inp h.right.out hst
section
variable {p : List Fn} {e : Nat → Nat → Option (List Int)} {m : Mach} {x : Frm} {k : Nat} {f : Fn} {pc : Nat} {s out : List Int} {o : Int × Int}
theorem op1 (h : AtOp p e m x k f pc s out o) (hc : o.1 = 1) : RightM p e (doOp p m x o) := by
  have hd : doOp p m x o = onF m x (x.stk ++ [(false, o.2)]) := by simp [doOp, hc]
  rw [hd]
  exact h.plain (by omega) (by omega) (t := []) (l := [1]) (res := [(false, o.2)]) (by simp [takesLeaves, hc, plainTL, withLocal]) (by simp [areOf, asT]) (by simpa using okV_num h.i32) (by simp [cutV_zero])
theorem op18 (h : AtOp p e m x k f pc s out o) (hc : o.1 = 18) : RightM p e (doOp p m x o) := by
  have hd : doOp p m x o = onF m x (x.stk ++ [(true, 0)]) := by simp [doOp, hc]
  rw [hd]
  exact h.plain (by omega) (by omega) (t := []) (l := [3]) (res := [(true, 0)]) (by simp [takesLeaves, hc, plainTL, withLocal]) (by simp [areOf, asT]) (by simpa using okV_ref (Int.le_refl 0) (by omega)) (by simp [cutV_zero])
theorem op567 (h : AtOp p e m x k f pc s out o) (hc : o.1 = 5 ∨ o.1 = 6 ∨ o.1 = 7) : RightM p e (doOp p m x o) := by
  obtain ⟨n, hd⟩ : ∃ n, doOp p m x o = onF m x (cutV x.stk 2 ++ [(false, wrap32 n)]) := by
    rcases hc with hc | hc | hc
    · exact ⟨(topV x.stk 1).2 + (topV x.stk 0).2, by simp [doOp, hc]⟩
    · exact ⟨(topV x.stk 1).2 - (topV x.stk 0).2, by simp [doOp, hc]⟩
    · exact ⟨(topV x.stk 1).2 * (topV x.stk 0).2, by simp [doOp, hc]⟩
  rw [hd]
  exact h.plain (by omega) (by omega) (t := [1, 1]) (l := [1]) (res := [(false, wrap32 n)]) (by rcases hc with hc | hc | hc <;> simp [takesLeaves, hc, plainTL, withLocal]) (by simp [areOf, asT]) (by simpa using okV_num (wrap_i32 n)) rfl
theorem op19 (h : AtOp p e m x k f pc s out o) (hc : o.1 = 19) : RightM p e (doOp p m x o) := by
  have hd : doOp p m x o = onF m x (cutV x.stk 1 ++ [(false, if (topV x.stk 0).2 = 0 then 1 else 0)]) := by simp [doOp, hc]
  rw [hd]
  exact h.plain (by omega) (by omega) (t := [2]) (l := [1]) (res := [(false, if (topV x.stk 0).2 = 0 then 1 else 0)]) (by simp [takesLeaves, hc, plainTL, withLocal]) (by simp [areOf, asT]) (by intro v hv; simp at hv; subst hv; apply okV_num; split <;> rfl) rfl
theorem op21 (h : AtOp p e m x k f pc s out o) (hc : o.1 = 21) (hin : m.inp ≠ []) : RightM p e (doOp p m x o) := by
  have hd : doOp p m x o = { onF m x (x.stk ++ [(false, m.inp.headD 0)]) with inp := m.inp.tail } := by simp [doOp, hc, hin]
  rw [hd]
  have hI := h.right.inp
  have hh : isI32 (m.inp.headD 0) = true := by
    cases hi : m.inp with
    | nil => exact absurd hi hin
    | cons a r => exact hI.2 a (by rw [hi]; simp)
  exact h.next (by omega) (by omega) (t := []) (l := [1]) (res := [(false, m.inp.headD 0)]) (by simp [takesLeaves, hc, plainTL, withLocal]) (by simp [areOf, asT]) (by simpa using okV_num hh) h.right.blocks (Nat.le_refl _) ⟨by simp; omega, fun n hn => hI.2 n (List.mem_of_mem_tail hn)⟩ h.right.out (by simp [cutV_zero])
theorem op10 (h : AtOp p e m x k f pc s out o) (hc : o.1 = 10) (hbad : ∀ o ∈ f.2.2.2, badTo f.2.2.2.length o = false) : RightM p e (doOp p m x o) := by
  have hd : doOp p m x o = putF m { x with pc := o.2 } := by simp [doOp, hc]
  rw [hd]
  have hb := hbad o (List.mem_of_getElem? h.op)
  have h0 : 0 ≤ o.2 := by simp [badTo, hc] at hb; omega
  have hgo : goesOn f.2.2.2 pc o.2.toNat = true := by
    unfold goesOn
    rw [h.op]
    simp [hc]
    omega
  exact h.go (t := []) (l := []) (res := []) (by simp [takesLeaves, hc, plainTL, withLocal]) hgo (by omega) rfl (by simp) h.frame.loc h.frame.okl h.right.blocks (Nat.le_refl _) h.right.inp h.right.out (by simp [cutV_zero])
theorem op11 (h : AtOp p e m x k f pc s out o) (hc : o.1 = 11) (hbad : ∀ o ∈ f.2.2.2, badTo f.2.2.2.length o = false) : RightM p e (doOp p m x o) := by
  have hd : doOp p m x o = putF m { x with pc := if (topV x.stk 0).2 = 0 then o.2 else x.pc + 1, stk := cutV x.stk 1 } := by simp [doOp, hc]
  rw [hd]
  have hb := hbad o (List.mem_of_getElem? h.op)
  have h0 : 0 ≤ o.2 := by simp [badTo, hc] at hb; omega
  have htl : takesLeaves p f o s = some ([1], []) := by simp [takesLeaves, hc, plainTL, withLocal]
  by_cases hz : (topV x.stk 0).2 = 0
  · rw [if_pos hz]
    have hgo : goesOn f.2.2.2 pc o.2.toNat = true := by
      unfold goesOn
      rw [h.op]
      simp [hc]
      omega
    exact h.go htl hgo (by omega) (res := []) rfl (by simp) h.frame.loc h.frame.okl h.right.blocks (Nat.le_refl _) h.right.inp h.right.out (by simp)
  · rw [if_neg hz]
    exact h.go htl (goesOn_next h.op (by omega) (by omega)) (by rw [h.pcx]; rfl) (res := []) rfl (by simp) h.frame.loc h.frame.okl h.right.blocks (Nat.le_refl _) h.right.inp h.right.out (by simp)
theorem op20 (h : AtOp p e m x k f pc s out o) (hc : o.1 = 20) : RightM p e (doOp p m x o) := by
  have htl : takesLeaves p f o s = some ([1], []) := by simp [takesLeaves, hc, plainTL, withLocal]
  by_cases h10 : m.out.length = 10
  · have hd : doOp p m x o = trapM m 5 := by simp [doOp, hc, h10]
    rw [hd]
    exact right_trap h.right h.run (by omega)
  · have hd : doOp p m x o = { onF m x (cutV x.stk 1) with out := m.out ++ [(topV x.stk 0).2] } := by simp [doOp, hc, h10]
    rw [hd]
    obtain ⟨h1, h2⟩ := has_takes h.stk h.try_ htl
    obtain ⟨hm, u, hu, hv⟩ := topV_at h2 h1 0 (by simp)
    simp at hu
    subst hu
    have hi : isI32 (topV x.stk 0).2 = true := by
      have := h.frame.oks _ hm
      rw [okV, if_neg (by simp [asT_int hv])] at this
      exact this
    have hO := h.right.out
    exact h.next (by omega) (by omega) htl (res := []) rfl (by simp) h.right.blocks (Nat.le_refl _) h.right.inp ⟨by simp; omega, fun n hn => by
      rcases List.mem_append.1 hn with hn | hn
      · exact hO.2 n hn
      · simp at hn; subst hn; exact hi⟩ (by simp)
end
end Go.Proofs.YtcadpoknolefpaaGreat
/- A step of a right machine is a right machine: ops that turn what is on top, locals, blocks. -/
namespace Go.Proofs.YtcadpoknolefpaaGreat
open Go.RowKit
set_option linter.unusedSimpArgs false
set_option linter.unusedVariables false
section
variable {p : List Fn} {e : Nat → Nat → Option (List Int)} {m : Mach} {x : Frm} {k : Nat} {f : Fn} {pc : Nat} {s out : List Int} {o : Int × Int}
theorem drop_one {l : List Val} (h : 1 ≤ l.length) : l.drop (l.length - 1) = [topV l 0] := by
  apply List.ext_getElem?
  intro i
  rw [List.getElem?_drop]
  cases i with
  | zero =>
    unfold topV
    rw [List.getD_eq_getElem?_getD, List.getElem?_eq_getElem (by omega)]
    simp [List.getElem?_eq_getElem (show l.length - 1 < l.length by omega)]
  | succ i => rw [List.getElem?_eq_none (by omega)]; simp
theorem drop_two {l : List Val} (h : 2 ≤ l.length) : l.drop (l.length - 2) = [topV l 1, topV l 0] := by
  apply List.ext_getElem?
  intro i
  rw [List.getElem?_drop]
  match i with
  | 0 =>
    unfold topV
    simp [List.getD_eq_getElem?_getD, List.getElem?_eq_getElem (show l.length - 2 < l.length by omega), List.getElem?_eq_getElem (show l.length - 1 - 1 < l.length by omega), show l.length - 1 - 1 = l.length - 2 by omega]
  | 1 =>
    unfold topV
    simp [List.getD_eq_getElem?_getD, List.getElem?_eq_getElem (show l.length - 1 < l.length by omega), show l.length - 2 + 1 = l.length - 1 by omega]
  | i + 2 => rw [List.getElem?_eq_none (by omega)]; simp
theorem topV_mem {l : List Val} {j : Nat} (h : j < l.length) : topV l j ∈ l := by
  unfold topV
  rw [List.getD_eq_getElem?_getD, List.getElem?_eq_getElem (show l.length - 1 - j < l.length by omega)]
  exact List.getElem_mem _
theorem op2 (h : AtOp p e m x k f pc s out o) (hc : o.1 = 2) : RightM p e (doOp p m x o) := by
  have hd : doOp p m x o = onF m x (cutV x.stk 1) := by simp [doOp, hc]
  rw [hd]
  have hn : ¬ s.length < 1 := fun hl => by have := h.try_; simp [tryOp, takesLeaves, hc, hl] at this
  exact h.plain (by omega) (by omega) (t := s.drop (s.length - 1)) (l := []) (res := []) (by unfold takesLeaves; rw [if_pos hc, if_neg hn]) rfl (by simp) (by simp; congr 1; omega)
theorem op3 (h : AtOp p e m x k f pc s out o) (hc : o.1 = 3) : RightM p e (doOp p m x o) := by
  have hd : doOp p m x o = onF m x (cutV x.stk 1 ++ [topV x.stk 0, topV x.stk 0]) := by simp [doOp, hc]
  rw [hd]
  have hn : ¬ s.length < 1 := fun hl => by have := h.try_; simp [tryOp, takesLeaves, hc, hl] at this
  have hl := areOf_length h.stk
  have ha := areOf_drop (x.stk.length - 1) h.stk
  rw [drop_one (by omega), hl] at ha
  have hm := h.frame.oks _ (topV_mem (l := x.stk) (j := 0) (by omega))
  exact h.plain (by omega) (by omega) (t := s.drop (s.length - 1)) (l := s.drop (s.length - 1) ++ s.drop (s.length - 1)) (res := [topV x.stk 0, topV x.stk 0]) (by unfold takesLeaves; rw [if_neg (by omega), if_pos hc, if_neg hn]) (areOf_append ha ha) (by intro v hv; simp at hv; subst hv; exact hm) (by congr 2; simp; omega)
theorem op4 (h : AtOp p e m x k f pc s out o) (hc : o.1 = 4) : RightM p e (doOp p m x o) := by
  have hd : doOp p m x o = onF m x (cutV x.stk 2 ++ [topV x.stk 0, topV x.stk 1]) := by simp [doOp, hc]
  rw [hd]
  have hn : ¬ s.length < 2 := fun hl => by have := h.try_; simp [tryOp, takesLeaves, hc, hl] at this
  have hl := areOf_length h.stk
  have ha := areOf_reverse (areOf_drop (x.stk.length - 2) h.stk)
  rw [drop_two (by omega), hl] at ha
  have h0 := h.frame.oks _ (topV_mem (l := x.stk) (j := 0) (by omega))
  have h1 := h.frame.oks _ (topV_mem (l := x.stk) (j := 1) (by omega))
  exact h.plain (by omega) (by omega) (t := s.drop (s.length - 2)) (l := (s.drop (s.length - 2)).reverse) (res := [topV x.stk 0, topV x.stk 1]) (by simp [takesLeaves, hc]; omega) ha (by intro v hv; simp at hv; rcases hv with rfl | rfl <;> assumption) (by congr 2; simp; omega)
theorem op8 (h : AtOp p e m x k f pc s out o) (hc : o.1 = 8) (ho : 0 ≤ o.2 ∧ o.2 < (f.2.1.length : Int)) (hty : ∀ t ∈ f.2.1, 1 ≤ t ∧ t ≤ 2) : RightM p e (doOp p m x o) := by
  have hd : doOp p m x o = onF m x (x.stk ++ [x.loc.getD o.2.toNat (false, 0)]) := by simp [doOp, hc]
  rw [hd]
  have hll := areOf_length h.frame.loc
  obtain ⟨t, ht⟩ := at_of_lt (l := f.2.1) (k := o.2.toNat) (by omega)
  obtain ⟨v, hv⟩ := at_of_lt (l := x.loc) (k := o.2.toNat) (by omega)
  have ha := areOf_at h.frame.loc _ _ _ hv ht
  have ht0 := hty t (List.mem_of_getElem? ht)
  rw [List.getD_eq_getElem?_getD, hv, Option.getD_some]
  exact h.plain (by omega) (by omega) (t := []) (l := [t]) (res := [v]) (by simp [takesLeaves, hc, plainTL, withLocal, List.getD_eq_getElem?_getD, ht]) (by simp [areOf, ha]) (by intro u hu; simp at hu; subst hu; exact h.frame.okl _ (List.mem_of_getElem? hv)) (by simp [cutV_zero])
theorem op9 (h : AtOp p e m x k f pc s out o) (hc : o.1 = 9) (ho : 0 ≤ o.2 ∧ o.2 < (f.2.1.length : Int)) (hty : ∀ t ∈ f.2.1, 1 ≤ t ∧ t ≤ 2) : RightM p e (doOp p m x o) := by
  have hd : doOp p m x o = putF m { x with pc := x.pc + 1, loc := x.loc.set o.2.toNat (topV x.stk 0), stk := cutV x.stk 1 } := by simp [doOp, hc]
  rw [hd]
  obtain ⟨t, ht⟩ := at_of_lt (l := f.2.1) (k := o.2.toNat) (by omega)
  have htl : takesLeaves p f o s = some ([t], []) := by simp [takesLeaves, hc, plainTL, withLocal, List.getD_eq_getElem?_getD, ht]
  obtain ⟨h1, h2⟩ := has_takes h.stk h.try_ htl
  obtain ⟨hm, u, hu, hv⟩ := topV_at h2 h1 0 (by simp)
  simp at hu
  subst hu
  refine h.go htl (goesOn_next h.op (by omega) (by omega)) (by rw [h.pcx]; rfl) (res := []) rfl (by simp) (areOf_set h.frame.loc _ _ _ ht hv) (fun w hw => ?_) h.right.blocks (Nat.le_refl _) h.right.inp h.right.out (by simp)
  rcases List.mem_or_eq_of_mem_set hw with hw | hw
  · exact h.frame.okl w hw
  · subst hw; exact h.frame.oks _ hm
/-- a number that an op takes is one. -/
theorem num_at (h : AtOp p e m x k f pc s out o) {t l : List Int} (htl : takesLeaves p f o s = some (t, l)) (j : Nat) (hj : j < t.length) (h1 : t[t.length - 1 - j]? = some 1) : isI32 (topV x.stk j).2 = true := by
  obtain ⟨a, b⟩ := has_takes h.stk h.try_ htl
  obtain ⟨hm, u, hu, hv⟩ := topV_at b a j hj
  rw [h1] at hu
  cases hu
  have := h.frame.oks _ hm
  rw [okV, if_neg (by simp [asT_int hv])] at this
  exact this
/-- a ref that an op takes is one of a block, or none. -/
theorem ref_at (h : AtOp p e m x k f pc s out o) {t l : List Int} (htl : takesLeaves p f o s = some (t, l)) (j : Nat) (hj : j < t.length) (h1 : t[t.length - 1 - j]? = some 2) : 0 ≤ (topV x.stk j).2 ∧ (topV x.stk j).2 ≤ (m.blocks.length : Int) := by
  obtain ⟨a, b⟩ := has_takes h.stk h.try_ htl
  obtain ⟨hm, u, hu, hv⟩ := topV_at b a j hj
  rw [h1] at hu
  cases hu
  have := h.frame.oks _ hm
  rw [okV, if_pos (asT_ref hv)] at this
  simpa using this
theorem op17 (h : AtOp p e m x k f pc s out o) (hc : o.1 = 17) : RightM p e (doOp p m x o) := by
  have htl : takesLeaves p f o s = some ([2], [1]) := by simp [takesLeaves, hc, plainTL, withLocal]
  have hr := ref_at h htl 0 (by simp) rfl
  by_cases hz : (topV x.stk 0).2 = 0
  · have hd : doOp p m x o = trapM m 1 := by simp [doOp, hc, hz]
    rw [hd]
    exact right_trap h.right h.run (by omega)
  · have hd : doOp p m x o = onF m x (cutV x.stk 1 ++ [(false, ((blkAt m.blocks (topV x.stk 0).2).length : Int))]) := by simp [doOp, hc, hz]
    rw [hd]
    obtain ⟨b, hb⟩ := at_of_lt (l := m.blocks) (k := ((topV x.stk 0).2 - 1).toNat) (by omega)
    have hbl : (blkAt m.blocks (topV x.stk 0).2).length ≤ 40 := by
      rw [blkAt_some hb (by omega)]
      have := cellsN_mem hb
      have := (blkErr_zero h.right.blocks).2.1
      omega
    exact h.plain (by omega) (by omega) htl (res := [(false, ((blkAt m.blocks (topV x.stk 0).2).length : Int))]) (by simp [areOf, asT]) (by intro v hv; simp at hv; subst hv; apply okV_num; simp [isI32]; omega) rfl
theorem op15 (h : AtOp p e m x k f pc s out o) (hc : o.1 = 15) : RightM p e (doOp p m x o) := by
  have htl : takesLeaves p f o s = some ([2, 1], [1]) := by simp [takesLeaves, hc, plainTL, withLocal]
  by_cases h5 : placeErr m.blocks (topV x.stk 1).2 (topV x.stk 0).2 = 5
  · have hd : doOp p m x o = trapM m 1 := by simp [doOp, hc, h5]
    rw [hd]
    exact right_trap h.right h.run (by omega)
  · by_cases h0 : placeErr m.blocks (topV x.stk 1).2 (topV x.stk 0).2 = 0
    · have hd : doOp p m x o = onF m x (cutV x.stk 2 ++ [(false, getL m.blocks (topV x.stk 1).2 (topV x.stk 0).2)]) := by simp [doOp, hc, h0]
      rw [hd]
      have hi : isI32 (getL m.blocks (topV x.stk 1).2 (topV x.stk 0).2) = true := by
        unfold getL blkAt
        cases hb : m.blocks[((topV x.stk 1).2 - 1).toNat]? with
        | none => simp [isI32]
        | some b =>
          simp only [Option.getD_some]
          cases hn : b[(topV x.stk 0).2.toNat]? with
          | none => rfl
          | some n => exact (blkErr_zero h.right.blocks).2.2 b (List.mem_of_getElem? hb) n (List.mem_of_getElem? hn)
      exact h.plain (by omega) (by omega) htl (res := [(false, getL m.blocks (topV x.stk 1).2 (topV x.stk 0).2)]) (by simp [areOf, asT]) (by simpa using okV_num hi) rfl
    · have hd : doOp p m x o = trapM m 2 := by simp [doOp, hc, h5, h0]
      rw [hd]
      exact right_trap h.right h.run (by omega)
end
end Go.Proofs.YtcadpoknolefpaaGreat
/- A step of a right machine is a right machine: blocks that are made and set, calls and returns; all ops. -/
namespace Go.Proofs.YtcadpoknolefpaaGreat
open Go.RowKit
set_option linter.unusedSimpArgs false
set_option linter.unusedVariables false
section
variable {p : List Fn} {e : Nat → Nat → Option (List Int)} {m : Mach} {x : Frm} {k : Nat} {f : Fn} {pc : Nat} {s out : List Int} {o : Int × Int}
theorem newErr_parts {L : List (List Int)} {n : Int} (h : newErr L n = 0) : blkErr L = 0 ∧ 0 ≤ n ∧ L.length ≠ 8 ∧ n ≤ 40 - (cellsN L : Int) := by
  unfold newErr at h
  by_cases h1 : blkErr L ≠ 0
  · rw [if_pos h1] at h; exact absurd h h1
  rw [if_neg h1] at h
  by_cases h2 : n < 0
  · rw [if_pos h2] at h; cases h
  rw [if_neg h2] at h
  by_cases h3 : L.length = 8 ∨ 40 - (cellsN L : Int) < n
  · rw [if_pos h3] at h; cases h
  · exact ⟨by simpa using h1, by omega, by omega, by omega⟩
theorem op14 (h : AtOp p e m x k f pc s out o) (hc : o.1 = 14) : RightM p e (doOp p m x o) := by
  have htl : takesLeaves p f o s = some ([1], [2]) := by simp [takesLeaves, hc, plainTL, withLocal]
  by_cases h0 : newErr m.blocks (topV x.stk 0).2 = 0
  · have hd : doOp p m x o = { onF m x (cutV x.stk 1 ++ [(true, (m.blocks.length : Int) + 1)]) with blocks := newL m.blocks (topV x.stk 0).2 } := by simp [doOp, hc, h0]
    rw [hd]
    obtain ⟨h1, h2, h3, h4⟩ := newErr_parts h0
    obtain ⟨b1, b2, b3⟩ := blkErr_zero h1
    have hlen : (newL m.blocks (topV x.stk 0).2).length = m.blocks.length + 1 := by simp [newL]
    refine h.next (by omega) (by omega) htl (res := [(true, (m.blocks.length : Int) + 1)]) (by simp [areOf, asT]) (by intro v hv; simp at hv; subst hv; exact okV_ref (by omega) (by rw [hlen]; omega)) (blkErr_mk (by omega) ?_ ?_) (by omega) h.right.inp h.right.out rfl
    · unfold newL
      rw [cellsN_append]
      simp [cellsN]
      simp [cellsN] at h4
      omega
    · intro b hb n hn
      rcases List.mem_append.1 hb with hb | hb
      · exact b3 b hb n hn
      · simp at hb
        subst hb
        rw [List.mem_replicate] at hn
        rw [hn.2]; rfl
  · have hd : doOp p m x o = trapM m 3 := by simp [doOp, hc, h0]
    rw [hd]
    exact right_trap h.right h.run (by omega)
theorem sum_set : ∀ (L : List (List Int)) (k : Nat) (b c : List Int), L[k]? = some b → c.length = b.length → cellsN (L.set k c) = cellsN L
  | [], k, b, c, h, _ => by simp at h
  | a :: r, 0, b, c, h, hl => by simp at h; subst h; simp [cellsN, hl]
  | a :: r, k + 1, b, c, h, hl => by
    have := sum_set r k b c (by simpa using h) hl
    simp [cellsN] at this ⊢
    exact this
theorem setErr_parts {L : List (List Int)} {r a n : Int} (h : setErr L r a n = 0) : blkErr L = 0 ∧ r ≠ 0 ∧ 0 ≤ r ∧ r ≤ (L.length : Int) ∧ isI32 n = true := by
  unfold setErr at h
  by_cases h1 : placeErr L r a ≠ 0
  · rw [if_pos h1] at h; exact absurd h h1
  rw [if_neg h1] at h
  have hn : isI32 n = true := by
    by_cases hn : isI32 n = true
    · exact hn
    · rw [if_neg hn] at h; cases h
  simp only [ne_eq, Decidable.not_not] at h1
  unfold placeErr at h1
  by_cases h2 : blkErr L ≠ 0
  · rw [if_pos h2] at h1; exact absurd h1 h2
  rw [if_neg h2] at h1
  by_cases h3 : r = 0
  · rw [if_pos h3] at h1; cases h1
  rw [if_neg h3] at h1
  by_cases h4 : r < 0 ∨ (L.length : Int) < r ∨ a < 0 ∨ ((blkAt L r).length : Int) ≤ a
  · rw [if_pos h4] at h1; cases h1
  · exact ⟨by simpa using h2, h3, by omega, by omega, hn⟩
theorem op16 (h : AtOp p e m x k f pc s out o) (hc : o.1 = 16) : RightM p e (doOp p m x o) := by
  have htl : takesLeaves p f o s = some ([2, 1, 1], []) := by simp [takesLeaves, hc, plainTL, withLocal]
  by_cases h5 : setErr m.blocks (topV x.stk 2).2 (topV x.stk 1).2 (topV x.stk 0).2 = 5
  · have hd : doOp p m x o = trapM m 1 := by simp [doOp, hc, h5]
    rw [hd]
    exact right_trap h.right h.run (by omega)
  · by_cases h0 : setErr m.blocks (topV x.stk 2).2 (topV x.stk 1).2 (topV x.stk 0).2 = 0
    · have hd : doOp p m x o = { onF m x (cutV x.stk 3) with blocks := setL m.blocks (topV x.stk 2).2 (topV x.stk 1).2 (topV x.stk 0).2 } := by simp [doOp, hc, h0]
      rw [hd]
      obtain ⟨h1, h2, h3, h4, h6⟩ := setErr_parts h0
      obtain ⟨b1, b2, b3⟩ := blkErr_zero h1
      obtain ⟨b, hb⟩ := at_of_lt (l := m.blocks) (k := ((topV x.stk 2).2 - 1).toNat) (by omega)
      have hba := blkAt_some hb (ref := (topV x.stk 2).2) (by omega)
      have hlen : (setL m.blocks (topV x.stk 2).2 (topV x.stk 1).2 (topV x.stk 0).2).length = m.blocks.length := by simp [setL]
      refine h.next (by omega) (by omega) htl (res := []) rfl (by simp) (blkErr_mk (by omega) ?_ ?_) (by omega) h.right.inp h.right.out (by simp)
      · unfold setL
        rw [sum_set _ _ b _ hb (by rw [hba]; simp)]
        exact b2
      · intro c hcm n hn
        rcases List.mem_or_eq_of_mem_set hcm with hcm | hcm
        · exact b3 c hcm n hn
        · subst hcm
          rw [hba] at hn
          rcases List.mem_or_eq_of_mem_set hn with hn | hn
          · exact b3 b (List.mem_of_getElem? hb) n hn
          · subst hn; exact h6
    · have hd : doOp p m x o = trapM m 2 := by simp [doOp, hc, h5, h0]
      rw [hd]
      exact right_trap h.right h.run (by omega)
end
end Go.Proofs.YtcadpoknolefpaaGreat
/- A step of a right machine is a right machine: calls and returns; all ops. -/
namespace Go.Proofs.YtcadpoknolefpaaGreat
open Go.RowKit
set_option linter.unusedSimpArgs false
set_option linter.unusedVariables false
theorem leS_front {a s : List Int} {r : Int} (h : leS (a ++ [r]) s = true) : leS a s.dropLast = true ∧ ∃ z, s = s.dropLast ++ [z] ∧ standsB r z = true := by
  have hl := leS_length h
  simp at hl
  have h1 := leS_take a.length h
  rw [List.take_append_of_le_length (Nat.le_refl _), List.take_of_length_le (Nat.le_refl _)] at h1
  have hd : s.dropLast = s.take a.length := by rw [List.dropLast_eq_take]; congr 1; omega
  have h2 := leS_drop a.length h
  rw [List.drop_append_of_le_length (Nat.le_refl _), List.drop_of_length_le (Nat.le_refl _), List.nil_append] at h2
  have hl2 : (s.drop a.length).length = 1 := by simp; omega
  obtain ⟨z, hz⟩ := List.length_eq_one_iff.1 hl2
  rw [hz] at h2
  simp [leS] at h2
  refine ⟨by rw [hd]; exact h1, z, ?_, h2⟩
  rw [hd, ← hz, List.take_append_drop]
theorem fresh_areOf : ∀ (ts : List Int), (∀ t ∈ ts, 1 ≤ t ∧ t ≤ 2) → areOf (freshL ts) ts = true
  | [], _ => rfl
  | t :: r, h => by
    have ht := h t (by simp)
    have ih := fresh_areOf r (fun u hu => h u (by simp [hu]))
    have : t = 1 ∨ t = 2 := by omega
    simp only [freshL, List.map_cons, areOf, Bool.and_eq_true]
    refine ⟨?_, ih⟩
    rcases this with rfl | rfl <;> simp [asT]
theorem fresh_ok {ts : List Int} {nb : Nat} {v : Val} (h : v ∈ freshL ts) : okV nb v = true := by
  obtain ⟨t, _, rfl⟩ := List.mem_map.1 h
  unfold okV
  split
  · simp
  · rfl
section
variable {p : List Fn} {e : Nat → Nat → Option (List Int)} {m : Mach} {x : Frm} {k : Nat} {f : Fn} {pc : Nat} {s out : List Int} {o : Int × Int}
theorem op12 (h : AtOp p e m x k f pc s out o) (hc : o.1 = 12) (he : AllFit p e) (hok : OkOp p f o) (hty : ∀ g ∈ p, ∀ t ∈ g.2.1, 1 ≤ t ∧ t ≤ 2) : RightM p e (doOp p m x o) := by
  by_cases h6 : m.frames.length = 6
  · have hd : doOp p m x o = trapM m 4 := by simp [doOp, hc, h6]
    rw [hd]
    exact right_trap h.right h.run (by omega)
  obtain ⟨c0, c1⟩ := hok.call hc
  obtain ⟨g, hg⟩ := at_of_lt (l := p) (k := o.2.toNat) (by omega)
  have hgf := hok.fns g (List.mem_of_getElem? hg)
  have hd : doOp p m x o = { m with frames := m.frames.dropLast ++ [{ x with pc := x.pc + 1, stk := cutV x.stk g.1.toNat }, { fn := o.2, pc := 0, loc := x.stk.drop (x.stk.length - g.1.toNat) ++ (freshL g.2.1).drop g.1.toNat, stk := [] }] } := by simp [doOp, hc, h6, hg]
  rw [hd]
  have htl : takesLeaves p f o s = some (g.2.1.take g.1.toNat, if 0 < g.2.2.1 then [g.2.2.1] else []) := by
    unfold takesLeaves
    rw [if_neg (by omega), if_neg (by omega), if_neg (by omega), if_pos hc, hg]
    rfl
  have htn : (g.2.1.take g.1.toNat).length = g.1.toNat := by rw [List.length_take]; omega
  obtain ⟨a1, a2⟩ := has_takes h.stk h.try_ htl
  rw [htn] at a1 a2
  obtain ⟨t', l', q1, q2, q3, hout⟩ := try_parts h.try_
  rw [htl] at q1
  cases q1
  rw [htn] at hout
  obtain ⟨_, s', n1, n2⟩ := h.on (pc + 1) (goesOn_next h.op (by omega) (by omega))
  have hs := last_split h.last
  generalize hD : m.frames.dropLast = D at *
  have hlen : m.frames.length = D.length + 1 := by rw [hs]; simp
  have hoe : o = (12, o.2) := by rw [← hc]
  have hx1 : RightF p e m.blocks.length (some o.2) { x with pc := x.pc + 1, stk := cutV x.stk g.1.toNat } k f := by
    refine ⟨h.frame.fn, h.frame.at_, h.frame.loc, h.frame.okl, fun v hv => h.frame.oks v (mem_cutV hv), fun hn => (by cases hn), fun g' hg' => ?_⟩
    cases hg'
    refine ⟨pc, s, s', g, by show x.pc + 1 = _; rw [h.pcx]; rfl, c0, h.ent, by rw [h.op, hoe], n1, hg, ?_⟩
    have hcut := cutV_areOf h.stk g.1.toNat
    by_cases hr : g.2.2.1 = 0
    · rw [if_neg (by simp [hr])]
      rw [if_neg (by omega), List.append_nil] at hout
      exact areOf_le hcut (by rw [← hout]; exact n2)
    · rw [if_pos hr]
      rw [if_pos (by omega)] at hout
      rw [hout] at n2
      exact areOf_le hcut (leS_front n2).1
  have hy : RightF p e m.blocks.length none { fn := o.2, pc := 0, loc := x.stk.drop (x.stk.length - g.1.toNat) ++ (freshL g.2.1).drop g.1.toNat, stk := [] } o.2.toNat g := by
    refine ⟨by show o.2 = _; omega, hg, ?_, fun v hv => ?_, fun v hv => by simp at hv, fun _ => ⟨0, [], rfl, (he _ g hg).1.first, rfl⟩, fun g' hg' => by cases hg'⟩
    · have := areOf_append a2 (areOf_drop g.1.toNat (fresh_areOf g.2.1 (hty g (List.mem_of_getElem? hg))))
      rwa [List.take_append_drop] at this
    · rcases List.mem_append.1 hv with hv | hv
      · exact h.frame.oks v (List.mem_of_mem_drop hv)
      · exact fresh_ok (List.mem_of_mem_drop hv)
  have hat : ∀ i z, i < D.length → (m.frames[i]? = some z ↔ (D ++ [{ x with pc := x.pc + 1, stk := cutV x.stk g.1.toNat }, { fn := o.2, pc := 0, loc := x.stk.drop (x.stk.length - g.1.toNat) ++ (freshL g.2.1).drop g.1.toNat, stk := [] }])[i]? = some z) := by
    intro i z hi
    rw [hs, List.getElem?_append_left hi, List.getElem?_append_left hi]
  have hst := h.run
  refine ⟨h.right.status, h.right.trap, h.right.blocks, h.right.inp, h.right.out, ⟨by simp; have := h.right.depth.1; omega, by simp [hst]⟩, ?_, ?_, fun hw => by simp only [hst] at hw; cases hw⟩
  · intro z hz
    simp only at hz
    cases D with
    | nil =>
      simp at hz
      subst hz
      exact h.right.first x (by rw [hs]; rfl)
    | cons d r => exact h.right.first z ((hat 0 z (by simp)).2 hz)
  · intro i z hz
    simp only at hz ⊢
    by_cases hi : i < D.length
    · obtain ⟨k', f', hr'⟩ := h.right.each i z ((hat i z hi).2 hz)
      refine ⟨k', f', ?_⟩
      have hnext : (m.frames[i + 1]?).map Frm.fn = ((D ++ [{ x with pc := x.pc + 1, stk := cutV x.stk g.1.toNat }, { fn := o.2, pc := 0, loc := x.stk.drop (x.stk.length - g.1.toNat) ++ (freshL g.2.1).drop g.1.toNat, stk := [] }])[i + 1]?).map Frm.fn := by
        by_cases hi2 : i + 1 < D.length
        · rw [hs, List.getElem?_append_left hi2, List.getElem?_append_left hi2]
        · have : i + 1 = D.length := by omega
          rw [hs, this]
          simp
      rw [← hnext]
      exact hr'
    · by_cases hi2 : i = D.length
      · subst hi2
        simp at hz
        subst hz
        exact ⟨k, f, by simpa using hx1⟩
      · have hi3 : i = D.length + 1 := by have := lt_of_at hz; simp at this; omega
        subst hi3
        simp at hz
        subst hz
        exact ⟨_, g, by simpa using hy⟩
theorem op13 (h : AtOp p e m x k f pc s out o) (hc : o.1 = 13) (he : AllFit p e) (hres : ∀ g ∈ p, 0 ≤ g.2.2.1) : RightM p e (doOp p m x o) := by
  have hst := h.run
  have htr := h.right.trap.2 (by omega)
  cases hy : m.frames.dropLast.getLast? with
  | none =>
    have hd : doOp p m x o = { m with frames := [], status := 2 } := by simp [doOp, hc, hy]
    rw [hd]
    exact ⟨by simp, ⟨fun hn => by simp at hn, fun _ => htr⟩, h.right.blocks, h.right.inp, h.right.out, ⟨by simp, by simp⟩, fun z hz => by simp at hz, fun i z hz => by simp at hz, fun hw => by simp at hw⟩
  | some y =>
    have hd : doOp p m x o = { m with frames := m.frames.dropLast.dropLast ++ [{ y with stk := y.stk ++ x.stk }] } := by simp [doOp, hc, hy]
    rw [hd]
    have hs1 := last_split h.last
    have hs2 := last_split hy
    generalize hD : m.frames.dropLast.dropLast = D at *
    generalize hD1 : m.frames.dropLast = D1 at *
    have hfr : m.frames = D ++ [y, x] := by rw [hs1, hs2]; simp
    have hyi : m.frames[D.length]? = some y := by rw [hfr]; simp
    have hxi : m.frames[D.length + 1]? = some x := by rw [hfr]; simp
    obtain ⟨ky, fy, hry⟩ := h.right.each D.length y hyi
    rw [hxi] at hry
    obtain ⟨pc', s0, s1, h1, w1, w2, w3, w4, w5, w6, w7⟩ := hry.outer x.fn rfl
    have hh1 : h1 = f := by
      have := h.frame.at_
      rw [h.frame.fn] at w6
      simp at w6
      rw [this] at w6
      exact (Option.some.inj w6).symm
    subst hh1
    have hmem := List.mem_of_getElem? h.frame.at_
    have hr0 := hres h1 hmem
    have hlen : s.length = (if 0 < h1.2.2.1 then [h1.2.2.1] else []).length := by
      have := h.try_
      obtain ⟨t', l', q1, _⟩ := try_parts this
      unfold takesLeaves at q1
      rw [if_neg (by omega), if_neg (by omega), if_neg (by omega), if_neg (by omega), if_pos hc] at q1
      by_cases hl : s.length = (if 0 < h1.2.2.1 then [h1.2.2.1] else []).length
      · exact hl
      · rw [if_neg hl] at q1; cases q1
    have htl : takesLeaves p h1 o s = some (if 0 < h1.2.2.1 then [h1.2.2.1] else [], []) := by
      unfold takesLeaves
      rw [if_neg (by omega), if_neg (by omega), if_neg (by omega), if_neg (by omega), if_pos hc, if_pos hlen]
    obtain ⟨a1, a2⟩ := has_takes h.stk h.try_ htl
    have hxl := areOf_length h.stk
    rw [← hlen, ← hxl, Nat.sub_self, List.drop_zero] at a2
    have hy' : RightF p e m.blocks.length none { y with stk := y.stk ++ x.stk } ky fy := by
      refine ⟨hry.fn, hry.at_, hry.loc, hry.okl, fun v hv => ?_, fun _ => ⟨pc' + 1, s1, w1, w5, ?_⟩, fun g' hg' => by cases hg'⟩
      · rcases List.mem_append.1 hv with hv | hv
        · exact hry.oks v hv
        · exact h.frame.oks v hv
      · show areOf (y.stk ++ x.stk) s1 = true
        by_cases hz : h1.2.2.1 = 0
        · rw [if_neg (by simp [hz])] at w7
          rw [if_neg (by omega)] at a2
          have : x.stk = [] := List.eq_nil_of_length_eq_zero (by rw [areOf_length a2]; rfl)
          rw [this, List.append_nil]
          exact w7
        · rw [if_pos hz] at w7
          rw [if_pos (by omega)] at a2
          obtain ⟨o', out', v1, v2, v3⟩ := (he ky fy hry.at_).1.on pc' s0 w3
          rw [w4] at v1
          cases v1
          obtain ⟨_, s1', v4, v5⟩ := v3 (pc' + 1) (goesOn_next w4 (by simp) (by simp))
          rw [w5] at v4
          cases v4
          obtain ⟨t', l', q1, q2, q3, hout⟩ := try_parts v2
          unfold takesLeaves at q1
          rw [if_neg (by simp), if_neg (by simp), if_neg (by simp), if_pos rfl, w6] at q1
          simp at q1
          obtain ⟨_, hl'⟩ := q1
          rw [if_pos (by omega)] at hl'
          rw [hout, ← hl'] at v5
          obtain ⟨_, z, hzs, hsz⟩ := leS_front v5
          rw [hzs]
          exact areOf_append w7 (areOf_le a2 (by simp [leS, hsz]))
    have hat : ∀ i z, i < D.length → (m.frames[i]? = some z ↔ (D ++ [{ y with stk := y.stk ++ x.stk }])[i]? = some z) := by
      intro i z hi
      rw [hfr, List.getElem?_append_left hi, List.getElem?_append_left hi]
    refine ⟨h.right.status, h.right.trap, h.right.blocks, h.right.inp, h.right.out, ⟨by have := h.right.depth.1; rw [hfr] at this; simp at this ⊢; omega, by simp [hst]⟩, ?_, ?_, fun hw => by simp only [hst] at hw; cases hw⟩
    · intro z hz
      simp only at hz
      cases D with
      | nil =>
        simp at hz
        subst hz
        exact h.right.first y (by rw [hfr]; rfl)
      | cons d r => exact h.right.first z ((hat 0 z (by simp)).2 hz)
    · intro i z hz
      simp only at hz ⊢
      by_cases hi : i < D.length
      · obtain ⟨k', f', hr'⟩ := h.right.each i z ((hat i z hi).2 hz)
        refine ⟨k', f', ?_⟩
        have hnext : (m.frames[i + 1]?).map Frm.fn = ((D ++ [{ y with stk := y.stk ++ x.stk }])[i + 1]?).map Frm.fn := by
          by_cases hi2 : i + 1 < D.length
          · rw [hfr, List.getElem?_append_left hi2, List.getElem?_append_left hi2]
          · have : i + 1 = D.length := by omega
            rw [hfr, this]
            simp
        rw [← hnext]
        exact hr'
      · have hi2 : i = D.length := by have := lt_of_at hz; simp at this; omega
        subst hi2
        simp at hz
        subst hz
        exact ⟨ky, fy, by simpa using hy'⟩
end
/-- A STEP OF A RIGHT MACHINE IS A RIGHT MACHINE. -/
theorem right_step {p : List Fn} {e : Nat → Nat → Option (List Int)} {m : Mach} (hp : progErr p = 0) (he : AllFit p e) (h : RightM p e m) (hs : m.status = 0 ∨ m.status = 1) : ∃ (x : Frm) (k : Nat) (f : Fn) (o : Int × Int), m.frames.getLast? = some x ∧ x.fn = (k : Int) ∧ p[k]? = some f ∧ 0 ≤ x.pc ∧ f.2.2.2[x.pc.toNat]? = some o ∧ RightM p e (doOp p m x o) := by
  have hne : m.frames ≠ [] := fun hf => by have := h.depth.2.1 hf; omega
  obtain ⟨x, hx⟩ : ∃ x, m.frames.getLast? = some x := by
    cases hl : m.frames.getLast? with
    | none => exact absurd (List.getLast?_eq_none_iff.1 hl) hne
    | some x => exact ⟨x, rfl⟩
  have hsp := last_split hx
  have hxi : m.frames[m.frames.length - 1]? = some x := by rw [← List.getLast?_eq_getElem?]; exact hx
  have hpos : 0 < m.frames.length := List.length_pos_iff.2 hne
  obtain ⟨k, f, hr⟩ := h.each _ x hxi
  rw [List.getElem?_eq_none (by omega), Option.map_none] at hr
  obtain ⟨pc, s, o, out, h1, h2, h3, h4, h5, h6⟩ := inner_go he hr
  have hpc : x.pc.toNat = pc := by rw [h1]; simp
  refine ⟨x, k, f, o, hx, hr.fn, hr.at_, by omega, by rw [hpc]; exact h4, ?_⟩
  have hmem := List.mem_of_getElem? hr.at_
  have hfn := okFn hp hmem
  have hom := List.mem_of_getElem? h4
  have hok := hfn.ops o hom
  obtain ⟨hce, _, hbad⟩ := flowErr_zero hfn.flow
  have hchk := chk_zero ((codeErr_zero _ hce).2 o hom)
  have hty : ∀ g ∈ p, ∀ t ∈ g.2.1, 1 ≤ t ∧ t ≤ 2 := fun g hg => (okFn hp hg).loc
  have hres : ∀ g ∈ p, 0 ≤ g.2.2.1 := fun g hg => (hfn.res g hg).1
  by_cases hw : o.1 = 21 ∧ m.inp = []
  · have hd : doOp p m x o = { m with status := 1 } := by simp [doOp, hw]
    rw [hd]
    refine ⟨by simp, ⟨fun hn => by simp at hn, fun _ => h.trap.2 (by omega)⟩, h.blocks, h.inp, h.out, ⟨h.depth.1, ?_⟩, h.first, h.each, fun _ => ⟨hw.2, x, k, f, o, hx, hr.fn, hr.at_, by rw [hpc]; exact h4, hw.1⟩⟩
    simp [hne]
  · have hst : m.status = 0 := by
      rcases hs with hs | hs
      · exact hs
      · obtain ⟨w1, x', k', f', o', w2, w3, w4, w5, w6⟩ := h.wait hs
        rw [hx] at w2
        cases w2
        have : k = k' := by have := hr.fn; omega
        subst this
        rw [hr.at_] at w4
        cases w4
        rw [hpc, h4] at w5
        cases w5
        exact absurd ⟨w6, w1⟩ hw
    have hA : AtOp p e m x k f pc s out o := ⟨h, hst, hx, hr, h1, h2, h3, h4, h5, h6, by simp [isI32]; omega⟩
    have hcode := hok.code
    have : o.1 = 1 ∨ o.1 = 2 ∨ o.1 = 3 ∨ o.1 = 4 ∨ (o.1 = 5 ∨ o.1 = 6 ∨ o.1 = 7) ∨ o.1 = 8 ∨ o.1 = 9 ∨ o.1 = 10 ∨ o.1 = 11 ∨ o.1 = 12 ∨ o.1 = 13 ∨ o.1 = 14 ∨ o.1 = 15 ∨ o.1 = 16 ∨ o.1 = 17 ∨ o.1 = 18 ∨ o.1 = 19 ∨ o.1 = 20 ∨ o.1 = 21 := by omega
    rcases this with c | c | c | c | c | c | c | c | c | c | c | c | c | c | c | c | c | c | c
    · exact op1 hA c
    · exact op2 hA c
    · exact op3 hA c
    · exact op4 hA c
    · exact op567 hA c
    · exact op8 hA c (hok.loc (.inl c)) hfn.loc
    · exact op9 hA c (hok.loc (.inr c)) hfn.loc
    · exact op10 hA c hbad
    · exact op11 hA c hbad
    · exact op12 hA c he hok hty
    · exact op13 hA c he hres
    · exact op14 hA c
    · exact op15 hA c
    · exact op16 hA c
    · exact op17 hA c
    · exact op18 hA c
    · exact op19 hA c
    · exact op20 hA c
    · exact op21 hA c (fun hi => hw ⟨c, hi⟩)
end Go.Proofs.YtcadpoknolefpaaGreat
