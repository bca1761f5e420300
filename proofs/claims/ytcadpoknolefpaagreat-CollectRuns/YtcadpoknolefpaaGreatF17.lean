/- My texts Qc Pbc Qd Qe Qf Qg Qk Ne: what of them is needed, joined. -/

import Derived.Test.YtcadpoknolefpaaGreatF5
import Derived.Test.YtcadpoknolefpaaGreatF6
import Derived.Test.YtcadpoknolefpaaGreatF10
import Derived.Test.YtcadpoknolefpaaGreatF12
/- A step of a right machine is a right machine: the ops that go on within their frame. -/
namespace Go.Proofs.YtcadpoknolefpaaGreat
open Go.RowKit
set_option linter.unusedSimpArgs false
set_option linter.unusedVariables false
structure AtOp (p : List Fn) (e : Nat → Nat → Option (List Int)) (m : Mach) (x : Frm) (k : Nat) (f : Fn) (pc : Nat) (s out : List Int) (o : Int × Int) : Prop where
  right : RightM p e m
  run : m.status = 0
  last : m.frames.getLast? = some x
  frame : RightF p e m.blocks.length none x k f
  pcx : x.pc = (pc : Int)
  ent : e k pc = some s
  stk : areOf x.stk s = true
  op : f.2.2.2[pc]? = some o
  try_ : tryOp p f o s = some out
  on : ∀ to, goesOn f.2.2.2 pc to = true → to < f.2.2.2.length ∧ ∃ s', e k to = some s' ∧ leS out s' = true
  i32 : isI32 o.2 = true
theorem cutV_zero (l : List Val) : cutV l 0 = l := by simp [cutV]
theorem AtOp.go {p : List Fn} {e : Nat → Nat → Option (List Int)} {m : Mach} {x : Frm} {k : Nat} {f : Fn} {pc : Nat} {s out : List Int} {o : Int × Int} (h : AtOp p e m x k f pc s out o) {t l : List Int} {res loc' : List Val} {B : List (List Int)} {I O : List Int} {to : Nat} {pc' : Int} (htl : takesLeaves p f o s = some (t, l)) (hto : goesOn f.2.2.2 pc to = true) (hpc : pc' = (to : Int)) (hres : areOf res l = true) (hok : ∀ v ∈ res, okV B.length v = true) (hloc : areOf loc' f.2.1 = true) (hokl : ∀ v ∈ loc', okV B.length v = true) (hB : blkErr B = 0) (hnb : m.blocks.length ≤ B.length) (hI : I.length ≤ 10 ∧ ∀ n ∈ I, isI32 n = true) (hO : O.length ≤ 10 ∧ ∀ n ∈ O, isI32 n = true) {st : List Val} (hst : st = cutV x.stk t.length ++ res) :
    RightM p e { m with frames := m.frames.dropLast ++ [{ x with pc := pc', loc := loc', stk := st }], blocks := B, inp := I, out := O } := by
  subst hst
  exact right_put (x' := { x with pc := pc', loc := loc', stk := cutV x.stk t.length ++ res }) h.right h.run h.last rfl hB hnb hI hO (plain_case h.frame hnb h.stk h.try_ htl (h.on to hto).2 hres hok hloc hokl hpc)
theorem AtOp.next {p : List Fn} {e : Nat → Nat → Option (List Int)} {m : Mach} {x : Frm} {k : Nat} {f : Fn} {pc : Nat} {s out : List Int} {o : Int × Int} (h : AtOp p e m x k f pc s out o) (h13 : o.1 ≠ 13) (h10 : o.1 ≠ 10) {t l : List Int} {res : List Val} {B : List (List Int)} {I O : List Int} (htl : takesLeaves p f o s = some (t, l)) (hres : areOf res l = true) (hok : ∀ v ∈ res, okV B.length v = true) (hB : blkErr B = 0) (hnb : m.blocks.length ≤ B.length) (hI : I.length ≤ 10 ∧ ∀ n ∈ I, isI32 n = true) (hO : O.length ≤ 10 ∧ ∀ n ∈ O, isI32 n = true) {st : List Val} (hst : st = cutV x.stk t.length ++ res) :
    RightM p e { onF m x st with blocks := B, inp := I, out := O } :=
  h.go htl (goesOn_next h.op h13 h10) (by rw [h.pcx]; rfl) hres hok h.frame.loc (fun v hv => okV_mono hnb (h.frame.okl v hv)) hB hnb hI hO hst
theorem AtOp.plain {p : List Fn} {e : Nat → Nat → Option (List Int)} {m : Mach} {x : Frm} {k : Nat} {f : Fn} {pc : Nat} {s out : List Int} {o : Int × Int} (h : AtOp p e m x k f pc s out o) (h13 : o.1 ≠ 13) (h10 : o.1 ≠ 10) {t l : List Int} {res : List Val} (htl : takesLeaves p f o s = some (t, l)) (hres : areOf res l = true) (hok : ∀ v ∈ res, okV m.blocks.length v = true) {st : List Val} (hst : st = cutV x.stk t.length ++ res) : RightM p e (onF m x st) :=
  h.next h13 h10 htl hres hok h.right.blocks (Nat.le_refl _) h.right.inp h.right.out hst
section
variable {p : List Fn} {e : Nat → Nat → Option (List Int)} {m : Mach} {x : Frm} {k : Nat} {f : Fn} {pc : Nat} {s out : List Int} {o : Int × Int}
theorem op1 (h : AtOp p e m x k f pc s out o) (hc : o.1 = 1) : RightM p e (doOp p m x o) := by
  have hd : doOp p m x o = onF m x (x.stk ++ [(false, o.2)]) := by simp [doOp, hc]
  rw [hd]
  exact h.plain (by omega) (by omega) (t := []) (l := [1]) (res := [(false, o.2)]) (by simp [takesLeaves, hc, plainTL, withLocal]) (by simp [areOf, asT]) (by simpa using okV_num h.i32) (by simp [cutV_zero])
theorem op18 (h : AtOp p e m x k f pc s out o) (hc : o.1 = 18) : RightM p e (doOp p m x o) := by
  have hd : doOp p m x o = onF m x (x.stk ++ [(true, 0)]) := by simp [doOp, hc]
  rw [hd]
  exact h.plain (by omega) (by omega) (t := []) (l := [3]) (res := [(true, 0)]) (by simp [takesLeaves, hc, plainTL, withLocal]) (by simp [areOf, asT]) (by simpa using okV_ref (Int.le_refl 0) (by omega)) (by simp [cutV_zero])
theorem op567 (h : AtOp p e m x k f pc s out o) (hc : o.1 = 5 ∨ o.1 = 6 ∨ o.1 = 7) : RightM p e (doOp p m x o) := by
  obtain ⟨n, hd⟩ : ∃ n, doOp p m x o = onF m x (cutV x.stk 2 ++ [(false, wrap32 n)]) := by
    rcases hc with hc | hc | hc
    · exact ⟨(topV x.stk 1).2 + (topV x.stk 0).2, by simp [doOp, hc]⟩
    · exact ⟨(topV x.stk 1).2 - (topV x.stk 0).2, by simp [doOp, hc]⟩
    · exact ⟨(topV x.stk 1).2 * (topV x.stk 0).2, by simp [doOp, hc]⟩
  rw [hd]
  exact h.plain (by omega) (by omega) (t := [1, 1]) (l := [1]) (res := [(false, wrap32 n)]) (by rcases hc with hc | hc | hc <;> simp [takesLeaves, hc, plainTL, withLocal]) (by simp [areOf, asT]) (by simpa using okV_num (wrap_i32 n)) rfl
theorem op19 (h : AtOp p e m x k f pc s out o) (hc : o.1 = 19) : RightM p e (doOp p m x o) := by
  have hd : doOp p m x o = onF m x (cutV x.stk 1 ++ [(false, if (topV x.stk 0).2 = 0 then 1 else 0)]) := by simp [doOp, hc]
  rw [hd]
  exact h.plain (by omega) (by omega) (t := [2]) (l := [1]) (res := [(false, if (topV x.stk 0).2 = 0 then 1 else 0)]) (by simp [takesLeaves, hc, plainTL, withLocal]) (by simp [areOf, asT]) (by intro v hv; simp at hv; subst hv; apply okV_num; split <;> rfl) rfl
theorem op21 (h : AtOp p e m x k f pc s out o) (hc : o.1 = 21) (hin : m.inp ≠ []) : RightM p e (doOp p m x o) := by
  have hd : doOp p m x o = { onF m x (x.stk ++ [(false, m.inp.headD 0)]) with inp := m.inp.tail } := by simp [doOp, hc, hin]
  rw [hd]
  have hI := h.right.inp
  have hh : isI32 (m.inp.headD 0) = true := by
    cases hi : m.inp with
    | nil => exact absurd hi hin
    | cons a r => exact hI.2 a (by rw [hi]; simp)
  exact h.next (by omega) (by omega) (t := []) (l := [1]) (res := [(false, m.inp.headD 0)]) (by simp [takesLeaves, hc, plainTL, withLocal]) (by simp [areOf, asT]) (by simpa using okV_num hh) h.right.blocks (Nat.le_refl _) ⟨by simp; omega, fun n hn => hI.2 n (List.mem_of_mem_tail hn)⟩ h.right.out (by simp [cutV_zero])
theorem op10 (h : AtOp p e m x k f pc s out o) (hc : o.1 = 10) (hbad : ∀ o ∈ f.2.2.2, badTo f.2.2.2.length o = false) : RightM p e (doOp p m x o) := by
  have hd : doOp p m x o = putF m { x with pc := o.2 } := by simp [doOp, hc]
  rw [hd]
  have hb := hbad o (List.mem_of_getElem? h.op)
  have h0 : 0 ≤ o.2 := by simp [badTo, hc] at hb; omega
  have hgo : goesOn f.2.2.2 pc o.2.toNat = true := by
    unfold goesOn
    rw [h.op]
    simp [hc]
    omega
  exact h.go (t := []) (l := []) (res := []) (by simp [takesLeaves, hc, plainTL, withLocal]) hgo (by omega) rfl (by simp) h.frame.loc h.frame.okl h.right.blocks (Nat.le_refl _) h.right.inp h.right.out (by simp [cutV_zero])
theorem op11 (h : AtOp p e m x k f pc s out o) (hc : o.1 = 11) (hbad : ∀ o ∈ f.2.2.2, badTo f.2.2.2.length o = false) : RightM p e (doOp p m x o) := by
  have hd : doOp p m x o = putF m { x with pc := if (topV x.stk 0).2 = 0 then o.2 else x.pc + 1, stk := cutV x.stk 1 } := by simp [doOp, hc]
  rw [hd]
  have hb := hbad o (List.mem_of_getElem? h.op)
  have h0 : 0 ≤ o.2 := by simp [badTo, hc] at hb; omega
  have htl : takesLeaves p f o s = some ([1], []) := by simp [takesLeaves, hc, plainTL, withLocal]
  by_cases hz : (topV x.stk 0).2 = 0
  · rw [if_pos hz]
    have hgo : goesOn f.2.2.2 pc o.2.toNat = true := by
      unfold goesOn
      rw [h.op]
      simp [hc]
      omega
    exact h.go htl hgo (by omega) (res := []) rfl (by simp) h.frame.loc h.frame.okl h.right.blocks (Nat.le_refl _) h.right.inp h.right.out (by simp)
  · rw [if_neg hz]
    exact h.go htl (goesOn_next h.op (by omega) (by omega)) (by rw [h.pcx]; rfl) (res := []) rfl (by simp) h.frame.loc h.frame.okl h.right.blocks (Nat.le_refl _) h.right.inp h.right.out (by simp)
theorem op20 (h : AtOp p e m x k f pc s out o) (hc : o.1 = 20) : RightM p e (doOp p m x o) := by
  have htl : takesLeaves p f o s = some ([1], []) := by simp [takesLeaves, hc, plainTL, withLocal]
  by_cases h10 : m.out.length = 10
  · have hd : doOp p m x o = trapM m 5 := by simp [doOp, hc, h10]
    rw [hd]
    exact right_trap h.right h.run (by omega)
  · have hd : doOp p m x o = { onF m x (cutV x.stk 1) with out := m.out ++ [(topV x.stk 0).2] } := by simp [doOp, hc, h10]
    rw [hd]
    obtain ⟨h1, h2⟩ := has_takes h.stk h.try_ htl
    obtain ⟨hm, u, hu, hv⟩ := topV_at h2 h1 0 (by simp)
    simp at hu
    subst hu
    have hi : isI32 (topV x.stk 0).2 = true := by
      have := h.frame.oks _ hm
      rw [okV, if_neg (by simp [asT_int hv])] at this
      exact this
    have hO := h.right.out
    exact h.next (by omega) (by omega) htl (res := []) rfl (by simp) h.right.blocks (Nat.le_refl _) h.right.inp ⟨by simp; omega, fun n hn => by
      rcases List.mem_append.1 hn with hn | hn
      · exact hO.2 n hn
      · simp at hn; subst hn; exact hi⟩ (by simp)
end
end Go.Proofs.YtcadpoknolefpaaGreat


/- Plain laws on blocks: Keep. -/
namespace Go.Proofs.YtcadpoknolefpaaGreat
open Go.RowKit
set_option linter.unusedSimpArgs false
set_option linter.unusedVariables false
theorem mem_stays {refs : List Int} {n i : Nat} : i ∈ stays refs n ↔ i < n ∧ (i : Int) + 1 ∈ refs := by simp [stays]
theorem stays_pos {refs : List Int} {n j : Nat} (hj : j < n) (h : (j : Int) + 1 ∈ refs) : (stays refs n)[(stays refs j).length]? = some j := by
  have hs : stays refs n = stays refs j ++ ((List.range n).drop j).filter (fun i : Nat => decide ((i : Int) + 1 ∈ refs)) := by
    unfold stays
    rw [← List.filter_append]
    congr 1
    have : List.range j = (List.range n).take j := by
      rw [List.take_range]; congr 1; omega
    rw [this, List.take_append_drop]
  rw [hs, List.getElem?_append_right (Nat.le_refl _), Nat.sub_self]
  have hd : (List.range n).drop j = j :: (List.range n).drop (j + 1) := by
    rw [List.drop_eq_getElem_cons (by simpa using hj)]
    simp
  rw [hd]
  simp [h]
theorem keptL_at {L : List (List Int)} {refs : List Int} {j : Nat} {b : List Int} (hb : L[j]? = some b) (h : (j : Int) + 1 ∈ refs) : (keptL L refs L.length)[(stays refs j).length]? = some b := by
  unfold keptL
  rw [List.getElem?_map, stays_pos (lt_of_at hb) h]
  simp [hb]
theorem thenOf_zero (refs : List Int) : thenOf refs 0 = 0 := rfl
theorem stays_mono {refs : List Int} {a b : Nat} (h : a ≤ b) : (stays refs a).length ≤ (stays refs b).length := by
  unfold stays
  exact (List.Sublist.filter _ (List.range_sublist.2 h)).length_le
end Go.Proofs.YtcadpoknolefpaaGreat


/- A step of a right machine is a right machine: ops that turn what is on top, locals, blocks. -/
namespace Go.Proofs.YtcadpoknolefpaaGreat
open Go.RowKit
set_option linter.unusedSimpArgs false
set_option linter.unusedVariables false
section
variable {p : List Fn} {e : Nat → Nat → Option (List Int)} {m : Mach} {x : Frm} {k : Nat} {f : Fn} {pc : Nat} {s out : List Int} {o : Int × Int}
theorem drop_one {l : List Val} (h : 1 ≤ l.length) : l.drop (l.length - 1) = [topV l 0] := by
  apply List.ext_getElem?
  intro i
  rw [List.getElem?_drop]
  cases i with
  | zero =>
    unfold topV
    rw [List.getD_eq_getElem?_getD, List.getElem?_eq_getElem (by omega)]
    simp [List.getElem?_eq_getElem (show l.length - 1 < l.length by omega)]
  | succ i => rw [List.getElem?_eq_none (by omega)]; simp
theorem drop_two {l : List Val} (h : 2 ≤ l.length) : l.drop (l.length - 2) = [topV l 1, topV l 0] := by
  apply List.ext_getElem?
  intro i
  rw [List.getElem?_drop]
  match i with
  | 0 =>
    unfold topV
    simp [List.getD_eq_getElem?_getD, List.getElem?_eq_getElem (show l.length - 2 < l.length by omega), List.getElem?_eq_getElem (show l.length - 1 - 1 < l.length by omega), show l.length - 1 - 1 = l.length - 2 by omega]
  | 1 =>
    unfold topV
    simp [List.getD_eq_getElem?_getD, List.getElem?_eq_getElem (show l.length - 1 < l.length by omega), show l.length - 2 + 1 = l.length - 1 by omega]
  | i + 2 => rw [List.getElem?_eq_none (by omega)]; simp
theorem topV_mem {l : List Val} {j : Nat} (h : j < l.length) : topV l j ∈ l := by
  unfold topV
  rw [List.getD_eq_getElem?_getD, List.getElem?_eq_getElem (show l.length - 1 - j < l.length by omega)]
  exact List.getElem_mem _
theorem op2 (h : AtOp p e m x k f pc s out o) (hc : o.1 = 2) : RightM p e (doOp p m x o) := by
  have hd : doOp p m x o = onF m x (cutV x.stk 1) := by simp [doOp, hc]
  rw [hd]
  have hn : ¬ s.length < 1 := fun hl => by have := h.try_; simp [tryOp, takesLeaves, hc, hl] at this
  exact h.plain (by omega) (by omega) (t := s.drop (s.length - 1)) (l := []) (res := []) (by unfold takesLeaves; rw [if_pos hc, if_neg hn]) rfl (by simp) (by simp; congr 1; omega)
theorem op3 (h : AtOp p e m x k f pc s out o) (hc : o.1 = 3) : RightM p e (doOp p m x o) := by
  have hd : doOp p m x o = onF m x (cutV x.stk 1 ++ [topV x.stk 0, topV x.stk 0]) := by simp [doOp, hc]
  rw [hd]
  have hn : ¬ s.length < 1 := fun hl => by have := h.try_; simp [tryOp, takesLeaves, hc, hl] at this
  have hl := areOf_length h.stk
  have ha := areOf_drop (x.stk.length - 1) h.stk
  rw [drop_one (by omega), hl] at ha
  have hm := h.frame.oks _ (topV_mem (l := x.stk) (j := 0) (by omega))
  exact h.plain (by omega) (by omega) (t := s.drop (s.length - 1)) (l := s.drop (s.length - 1) ++ s.drop (s.length - 1)) (res := [topV x.stk 0, topV x.stk 0]) (by unfold takesLeaves; rw [if_neg (by omega), if_pos hc, if_neg hn]) (areOf_append ha ha) (by intro v hv; simp at hv; subst hv; exact hm) (by congr 2; simp; omega)
theorem op4 (h : AtOp p e m x k f pc s out o) (hc : o.1 = 4) : RightM p e (doOp p m x o) := by
  have hd : doOp p m x o = onF m x (cutV x.stk 2 ++ [topV x.stk 0, topV x.stk 1]) := by simp [doOp, hc]
  rw [hd]
  have hn : ¬ s.length < 2 := fun hl => by have := h.try_; simp [tryOp, takesLeaves, hc, hl] at this
  have hl := areOf_length h.stk
  have ha := areOf_reverse (areOf_drop (x.stk.length - 2) h.stk)
  rw [drop_two (by omega), hl] at ha
  have h0 := h.frame.oks _ (topV_mem (l := x.stk) (j := 0) (by omega))
  have h1 := h.frame.oks _ (topV_mem (l := x.stk) (j := 1) (by omega))
  exact h.plain (by omega) (by omega) (t := s.drop (s.length - 2)) (l := (s.drop (s.length - 2)).reverse) (res := [topV x.stk 0, topV x.stk 1]) (by simp [takesLeaves, hc]; omega) ha (by intro v hv; simp at hv; rcases hv with rfl | rfl <;> assumption) (by congr 2; simp; omega)
theorem op8 (h : AtOp p e m x k f pc s out o) (hc : o.1 = 8) (ho : 0 ≤ o.2 ∧ o.2 < (f.2.1.length : Int)) (hty : ∀ t ∈ f.2.1, 1 ≤ t ∧ t ≤ 2) : RightM p e (doOp p m x o) := by
  have hd : doOp p m x o = onF m x (x.stk ++ [x.loc.getD o.2.toNat (false, 0)]) := by simp [doOp, hc]
  rw [hd]
  have hll := areOf_length h.frame.loc
  obtain ⟨t, ht⟩ := at_of_lt (l := f.2.1) (k := o.2.toNat) (by omega)
  obtain ⟨v, hv⟩ := at_of_lt (l := x.loc) (k := o.2.toNat) (by omega)
  have ha := areOf_at h.frame.loc _ _ _ hv ht
  have ht0 := hty t (List.mem_of_getElem? ht)
  rw [List.getD_eq_getElem?_getD, hv, Option.getD_some]
  exact h.plain (by omega) (by omega) (t := []) (l := [t]) (res := [v]) (by simp [takesLeaves, hc, plainTL, withLocal, List.getD_eq_getElem?_getD, ht]) (by simp [areOf, ha]) (by intro u hu; simp at hu; subst hu; exact h.frame.okl _ (List.mem_of_getElem? hv)) (by simp [cutV_zero])
theorem op9 (h : AtOp p e m x k f pc s out o) (hc : o.1 = 9) (ho : 0 ≤ o.2 ∧ o.2 < (f.2.1.length : Int)) (hty : ∀ t ∈ f.2.1, 1 ≤ t ∧ t ≤ 2) : RightM p e (doOp p m x o) := by
  have hd : doOp p m x o = putF m { x with pc := x.pc + 1, loc := x.loc.set o.2.toNat (topV x.stk 0), stk := cutV x.stk 1 } := by simp [doOp, hc]
  rw [hd]
  obtain ⟨t, ht⟩ := at_of_lt (l := f.2.1) (k := o.2.toNat) (by omega)
  have htl : takesLeaves p f o s = some ([t], []) := by simp [takesLeaves, hc, plainTL, withLocal, List.getD_eq_getElem?_getD, ht]
  obtain ⟨h1, h2⟩ := has_takes h.stk h.try_ htl
  obtain ⟨hm, u, hu, hv⟩ := topV_at h2 h1 0 (by simp)
  simp at hu
  subst hu
  refine h.go htl (goesOn_next h.op (by omega) (by omega)) (by rw [h.pcx]; rfl) (res := []) rfl (by simp) (areOf_set h.frame.loc _ _ _ ht hv) (fun w hw => ?_) h.right.blocks (Nat.le_refl _) h.right.inp h.right.out (by simp)
  rcases List.mem_or_eq_of_mem_set hw with hw | hw
  · exact h.frame.okl w hw
  · subst hw; exact h.frame.oks _ hm
theorem num_at (h : AtOp p e m x k f pc s out o) {t l : List Int} (htl : takesLeaves p f o s = some (t, l)) (j : Nat) (hj : j < t.length) (h1 : t[t.length - 1 - j]? = some 1) : isI32 (topV x.stk j).2 = true := by
  obtain ⟨a, b⟩ := has_takes h.stk h.try_ htl
  obtain ⟨hm, u, hu, hv⟩ := topV_at b a j hj
  rw [h1] at hu
  cases hu
  have := h.frame.oks _ hm
  rw [okV, if_neg (by simp [asT_int hv])] at this
  exact this
theorem ref_at (h : AtOp p e m x k f pc s out o) {t l : List Int} (htl : takesLeaves p f o s = some (t, l)) (j : Nat) (hj : j < t.length) (h1 : t[t.length - 1 - j]? = some 2) : 0 ≤ (topV x.stk j).2 ∧ (topV x.stk j).2 ≤ (m.blocks.length : Int) := by
  obtain ⟨a, b⟩ := has_takes h.stk h.try_ htl
  obtain ⟨hm, u, hu, hv⟩ := topV_at b a j hj
  rw [h1] at hu
  cases hu
  have := h.frame.oks _ hm
  rw [okV, if_pos (asT_ref hv)] at this
  simpa using this
theorem op17 (h : AtOp p e m x k f pc s out o) (hc : o.1 = 17) : RightM p e (doOp p m x o) := by
  have htl : takesLeaves p f o s = some ([2], [1]) := by simp [takesLeaves, hc, plainTL, withLocal]
  have hr := ref_at h htl 0 (by simp) rfl
  by_cases hz : (topV x.stk 0).2 = 0
  · have hd : doOp p m x o = trapM m 1 := by simp [doOp, hc, hz]
    rw [hd]
    exact right_trap h.right h.run (by omega)
  · have hd : doOp p m x o = onF m x (cutV x.stk 1 ++ [(false, ((blkAt m.blocks (topV x.stk 0).2).length : Int))]) := by simp [doOp, hc, hz]
    rw [hd]
    obtain ⟨b, hb⟩ := at_of_lt (l := m.blocks) (k := ((topV x.stk 0).2 - 1).toNat) (by omega)
    have hbl : (blkAt m.blocks (topV x.stk 0).2).length ≤ 40 := by
      rw [blkAt_some hb (by omega)]
      have := cellsN_mem hb
      have := (blkErr_zero h.right.blocks).2.1
      omega
    exact h.plain (by omega) (by omega) htl (res := [(false, ((blkAt m.blocks (topV x.stk 0).2).length : Int))]) (by simp [areOf, asT]) (by intro v hv; simp at hv; subst hv; apply okV_num; simp [isI32]; omega) rfl
theorem op15 (h : AtOp p e m x k f pc s out o) (hc : o.1 = 15) : RightM p e (doOp p m x o) := by
  have htl : takesLeaves p f o s = some ([2, 1], [1]) := by simp [takesLeaves, hc, plainTL, withLocal]
  by_cases h5 : placeErr m.blocks (topV x.stk 1).2 (topV x.stk 0).2 = 5
  · have hd : doOp p m x o = trapM m 1 := by simp [doOp, hc, h5]
    rw [hd]
    exact right_trap h.right h.run (by omega)
  · by_cases h0 : placeErr m.blocks (topV x.stk 1).2 (topV x.stk 0).2 = 0
    · have hd : doOp p m x o = onF m x (cutV x.stk 2 ++ [(false, getL m.blocks (topV x.stk 1).2 (topV x.stk 0).2)]) := by simp [doOp, hc, h0]
      rw [hd]
      have hi : isI32 (getL m.blocks (topV x.stk 1).2 (topV x.stk 0).2) = true := by
        unfold getL blkAt
        cases hb : m.blocks[((topV x.stk 1).2 - 1).toNat]? with
        | none => simp [isI32]
        | some b =>
          simp only [Option.getD_some]
          cases hn : b[(topV x.stk 0).2.toNat]? with
          | none => rfl
          | some n => exact (blkErr_zero h.right.blocks).2.2 b (List.mem_of_getElem? hb) n (List.mem_of_getElem? hn)
      exact h.plain (by omega) (by omega) htl (res := [(false, getL m.blocks (topV x.stk 1).2 (topV x.stk 0).2)]) (by simp [areOf, asT]) (by simpa using okV_num hi) rfl
    · have hd : doOp p m x o = trapM m 2 := by simp [doOp, hc, h5, h0]
      rw [hd]
      exact right_trap h.right h.run (by omega)
end
end Go.Proofs.YtcadpoknolefpaaGreat


/- A step of a right machine is a right machine: blocks that are made and set, calls and returns; all ops. -/
namespace Go.Proofs.YtcadpoknolefpaaGreat
open Go.RowKit
set_option linter.unusedSimpArgs false
set_option linter.unusedVariables false
section
variable {p : List Fn} {e : Nat → Nat → Option (List Int)} {m : Mach} {x : Frm} {k : Nat} {f : Fn} {pc : Nat} {s out : List Int} {o : Int × Int}
theorem newErr_parts {L : List (List Int)} {n : Int} (h : newErr L n = 0) : blkErr L = 0 ∧ 0 ≤ n ∧ L.length ≠ 8 ∧ n ≤ 40 - (cellsN L : Int) := by
  unfold newErr at h
  by_cases h1 : blkErr L ≠ 0
  · rw [if_pos h1] at h; exact absurd h h1
  rw [if_neg h1] at h
  by_cases h2 : n < 0
  · rw [if_pos h2] at h; cases h
  rw [if_neg h2] at h
  by_cases h3 : L.length = 8 ∨ 40 - (cellsN L : Int) < n
  · rw [if_pos h3] at h; cases h
  · exact ⟨by simpa using h1, by omega, by omega, by omega⟩
theorem op14 (h : AtOp p e m x k f pc s out o) (hc : o.1 = 14) : RightM p e (doOp p m x o) := by
  have htl : takesLeaves p f o s = some ([1], [2]) := by simp [takesLeaves, hc, plainTL, withLocal]
  by_cases h0 : newErr m.blocks (topV x.stk 0).2 = 0
  · have hd : doOp p m x o = { onF m x (cutV x.stk 1 ++ [(true, (m.blocks.length : Int) + 1)]) with blocks := newL m.blocks (topV x.stk 0).2 } := by simp [doOp, hc, h0]
    rw [hd]
    obtain ⟨h1, h2, h3, h4⟩ := newErr_parts h0
    obtain ⟨b1, b2, b3⟩ := blkErr_zero h1
    have hlen : (newL m.blocks (topV x.stk 0).2).length = m.blocks.length + 1 := by simp [newL]
    refine h.next (by omega) (by omega) htl (res := [(true, (m.blocks.length : Int) + 1)]) (by simp [areOf, asT]) (by intro v hv; simp at hv; subst hv; exact okV_ref (by omega) (by rw [hlen]; omega)) (blkErr_mk (by omega) ?_ ?_) (by omega) h.right.inp h.right.out rfl
    · unfold newL
      rw [cellsN_append]
      simp [cellsN]
      simp [cellsN] at h4
      omega
    · intro b hb n hn
      rcases List.mem_append.1 hb with hb | hb
      · exact b3 b hb n hn
      · simp at hb
        subst hb
        rw [List.mem_replicate] at hn
        rw [hn.2]; rfl
  · have hd : doOp p m x o = trapM m 3 := by simp [doOp, hc, h0]
    rw [hd]
    exact right_trap h.right h.run (by omega)
theorem sum_set : ∀ (L : List (List Int)) (k : Nat) (b c : List Int), L[k]? = some b → c.length = b.length → cellsN (L.set k c) = cellsN L
  | [], k, b, c, h, _ => by simp at h
  | a :: r, 0, b, c, h, hl => by simp at h; subst h; simp [cellsN, hl]
  | a :: r, k + 1, b, c, h, hl => by
    have := sum_set r k b c (by simpa using h) hl
    simp [cellsN] at this ⊢
    exact this
theorem setErr_parts {L : List (List Int)} {r a n : Int} (h : setErr L r a n = 0) : blkErr L = 0 ∧ r ≠ 0 ∧ 0 ≤ r ∧ r ≤ (L.length : Int) ∧ isI32 n = true := by
  unfold setErr at h
  by_cases h1 : placeErr L r a ≠ 0
  · rw [if_pos h1] at h; exact absurd h h1
  rw [if_neg h1] at h
  have hn : isI32 n = true := by
    by_cases hn : isI32 n = true
    · exact hn
    · rw [if_neg hn] at h; cases h
  simp only [ne_eq, Decidable.not_not] at h1
  unfold placeErr at h1
  by_cases h2 : blkErr L ≠ 0
  · rw [if_pos h2] at h1; exact absurd h1 h2
  rw [if_neg h2] at h1
  by_cases h3 : r = 0
  · rw [if_pos h3] at h1; cases h1
  rw [if_neg h3] at h1
  by_cases h4 : r < 0 ∨ (L.length : Int) < r ∨ a < 0 ∨ ((blkAt L r).length : Int) ≤ a
  · rw [if_pos h4] at h1; cases h1
  · exact ⟨by simpa using h2, h3, by omega, by omega, hn⟩
theorem op16 (h : AtOp p e m x k f pc s out o) (hc : o.1 = 16) : RightM p e (doOp p m x o) := by
  have htl : takesLeaves p f o s = some ([2, 1, 1], []) := by simp [takesLeaves, hc, plainTL, withLocal]
  by_cases h5 : setErr m.blocks (topV x.stk 2).2 (topV x.stk 1).2 (topV x.stk 0).2 = 5
  · have hd : doOp p m x o = trapM m 1 := by simp [doOp, hc, h5]
    rw [hd]
    exact right_trap h.right h.run (by omega)
  · by_cases h0 : setErr m.blocks (topV x.stk 2).2 (topV x.stk 1).2 (topV x.stk 0).2 = 0
    · have hd : doOp p m x o = { onF m x (cutV x.stk 3) with blocks := setL m.blocks (topV x.stk 2).2 (topV x.stk 1).2 (topV x.stk 0).2 } := by simp [doOp, hc, h0]
      rw [hd]
      obtain ⟨h1, h2, h3, h4, h6⟩ := setErr_parts h0
      obtain ⟨b1, b2, b3⟩ := blkErr_zero h1
      obtain ⟨b, hb⟩ := at_of_lt (l := m.blocks) (k := ((topV x.stk 2).2 - 1).toNat) (by omega)
      have hba := blkAt_some hb (ref := (topV x.stk 2).2) (by omega)
      have hlen : (setL m.blocks (topV x.stk 2).2 (topV x.stk 1).2 (topV x.stk 0).2).length = m.blocks.length := by simp [setL]
      refine h.next (by omega) (by omega) htl (res := []) rfl (by simp) (blkErr_mk (by omega) ?_ ?_) (by omega) h.right.inp h.right.out (by simp)
      · unfold setL
        rw [sum_set _ _ b _ hb (by rw [hba]; simp)]
        exact b2
      · intro c hcm n hn
        rcases List.mem_or_eq_of_mem_set hcm with hcm | hcm
        · exact b3 c hcm n hn
        · subst hcm
          rw [hba] at hn
          rcases List.mem_or_eq_of_mem_set hn with hn | hn
          · exact b3 b (List.mem_of_getElem? hb) n hn
          · subst hn; exact h6
    · have hd : doOp p m x o = trapM m 2 := by simp [doOp, hc, h5, h0]
      rw [hd]
      exact right_trap h.right h.run (by omega)
end
end Go.Proofs.YtcadpoknolefpaaGreat


/- A step of a right machine is a right machine: calls and returns; all ops. -/
namespace Go.Proofs.YtcadpoknolefpaaGreat
open Go.RowKit
set_option linter.unusedSimpArgs false
set_option linter.unusedVariables false
theorem leS_front {a s : List Int} {r : Int} (h : leS (a ++ [r]) s = true) : leS a s.dropLast = true ∧ ∃ z, s = s.dropLast ++ [z] ∧ standsB r z = true := by
  have hl := leS_length h
  simp at hl
  have h1 := leS_take a.length h
  rw [List.take_append_of_le_length (Nat.le_refl _), List.take_of_length_le (Nat.le_refl _)] at h1
  have hd : s.dropLast = s.take a.length := by rw [List.dropLast_eq_take]; congr 1; omega
  have h2 := leS_drop a.length h
  rw [List.drop_append_of_le_length (Nat.le_refl _), List.drop_of_length_le (Nat.le_refl _), List.nil_append] at h2
  have hl2 : (s.drop a.length).length = 1 := by simp; omega
  obtain ⟨z, hz⟩ := List.length_eq_one_iff.1 hl2
  rw [hz] at h2
  simp [leS] at h2
  refine ⟨by rw [hd]; exact h1, z, ?_, h2⟩
  rw [hd, ← hz, List.take_append_drop]
theorem fresh_areOf : ∀ (ts : List Int), (∀ t ∈ ts, 1 ≤ t ∧ t ≤ 2) → areOf (freshL ts) ts = true
  | [], _ => rfl
  | t :: r, h => by
    have ht := h t (by simp)
    have ih := fresh_areOf r (fun u hu => h u (by simp [hu]))
    have : t = 1 ∨ t = 2 := by omega
    simp only [freshL, List.map_cons, areOf, Bool.and_eq_true]
    refine ⟨?_, ih⟩
    rcases this with rfl | rfl <;> simp [asT]
theorem fresh_ok {ts : List Int} {nb : Nat} {v : Val} (h : v ∈ freshL ts) : okV nb v = true := by
  obtain ⟨t, _, rfl⟩ := List.mem_map.1 h
  unfold okV
  split
  · simp
  · rfl
section
variable {p : List Fn} {e : Nat → Nat → Option (List Int)} {m : Mach} {x : Frm} {k : Nat} {f : Fn} {pc : Nat} {s out : List Int} {o : Int × Int}
theorem op12 (h : AtOp p e m x k f pc s out o) (hc : o.1 = 12) (he : AllFit p e) (hok : OkOp p f o) (hty : ∀ g ∈ p, ∀ t ∈ g.2.1, 1 ≤ t ∧ t ≤ 2) : RightM p e (doOp p m x o) := by
  by_cases h6 : m.frames.length = 6
  · have hd : doOp p m x o = trapM m 4 := by simp [doOp, hc, h6]
    rw [hd]
    exact right_trap h.right h.run (by omega)
  obtain ⟨c0, c1⟩ := hok.call hc
  obtain ⟨g, hg⟩ := at_of_lt (l := p) (k := o.2.toNat) (by omega)
  have hgf := hok.fns g (List.mem_of_getElem? hg)
  have hd : doOp p m x o = { m with frames := m.frames.dropLast ++ [{ x with pc := x.pc + 1, stk := cutV x.stk g.1.toNat }, { fn := o.2, pc := 0, loc := x.stk.drop (x.stk.length - g.1.toNat) ++ (freshL g.2.1).drop g.1.toNat, stk := [] }] } := by simp [doOp, hc, h6, hg]
  rw [hd]
  have htl : takesLeaves p f o s = some (g.2.1.take g.1.toNat, if 0 < g.2.2.1 then [g.2.2.1] else []) := by
    unfold takesLeaves
    rw [if_neg (by omega), if_neg (by omega), if_neg (by omega), if_pos hc, hg]
    rfl
  have htn : (g.2.1.take g.1.toNat).length = g.1.toNat := by rw [List.length_take]; omega
  obtain ⟨a1, a2⟩ := has_takes h.stk h.try_ htl
  rw [htn] at a1 a2
  obtain ⟨t', l', q1, q2, q3, hout⟩ := try_parts h.try_
  rw [htl] at q1
  cases q1
  rw [htn] at hout
  obtain ⟨_, s', n1, n2⟩ := h.on (pc + 1) (goesOn_next h.op (by omega) (by omega))
  have hs := last_split h.last
  generalize hD : m.frames.dropLast = D at *
  have hlen : m.frames.length = D.length + 1 := by rw [hs]; simp
  have hoe : o = (12, o.2) := by rw [← hc]
  have hx1 : RightF p e m.blocks.length (some o.2) { x with pc := x.pc + 1, stk := cutV x.stk g.1.toNat } k f := by
    refine ⟨h.frame.fn, h.frame.at_, h.frame.loc, h.frame.okl, fun v hv => h.frame.oks v (mem_cutV hv), fun hn => (by cases hn), fun g' hg' => ?_⟩
    cases hg'
    refine ⟨pc, s, s', g, by show x.pc + 1 = _; rw [h.pcx]; rfl, c0, h.ent, by rw [h.op, hoe], n1, hg, ?_⟩
    have hcut := cutV_areOf h.stk g.1.toNat
    by_cases hr : g.2.2.1 = 0
    · rw [if_neg (by simp [hr])]
      rw [if_neg (by omega), List.append_nil] at hout
      exact areOf_le hcut (by rw [← hout]; exact n2)
    · rw [if_pos hr]
      rw [if_pos (by omega)] at hout
      rw [hout] at n2
      exact areOf_le hcut (leS_front n2).1
  have hy : RightF p e m.blocks.length none { fn := o.2, pc := 0, loc := x.stk.drop (x.stk.length - g.1.toNat) ++ (freshL g.2.1).drop g.1.toNat, stk := [] } o.2.toNat g := by
    refine ⟨by show o.2 = _; omega, hg, ?_, fun v hv => ?_, fun v hv => by simp at hv, fun _ => ⟨0, [], rfl, (he _ g hg).1.first, rfl⟩, fun g' hg' => by cases hg'⟩
    · have := areOf_append a2 (areOf_drop g.1.toNat (fresh_areOf g.2.1 (hty g (List.mem_of_getElem? hg))))
      rwa [List.take_append_drop] at this
    · rcases List.mem_append.1 hv with hv | hv
      · exact h.frame.oks v (List.mem_of_mem_drop hv)
      · exact fresh_ok (List.mem_of_mem_drop hv)
  have hat : ∀ i z, i < D.length → (m.frames[i]? = some z ↔ (D ++ [{ x with pc := x.pc + 1, stk := cutV x.stk g.1.toNat }, { fn := o.2, pc := 0, loc := x.stk.drop (x.stk.length - g.1.toNat) ++ (freshL g.2.1).drop g.1.toNat, stk := [] }])[i]? = some z) := by
    intro i z hi
    rw [hs, List.getElem?_append_left hi, List.getElem?_append_left hi]
  have hst := h.run
  refine ⟨h.right.status, h.right.trap, h.right.blocks, h.right.inp, h.right.out, ⟨by simp; have := h.right.depth.1; omega, by simp [hst]⟩, ?_, ?_, fun hw => by simp only [hst] at hw; cases hw⟩
  · intro z hz
    simp only at hz
    cases D with
    | nil =>
      simp at hz
      subst hz
      exact h.right.first x (by rw [hs]; rfl)
    | cons d r => exact h.right.first z ((hat 0 z (by simp)).2 hz)
  · intro i z hz
    simp only at hz ⊢
    by_cases hi : i < D.length
    · obtain ⟨k', f', hr'⟩ := h.right.each i z ((hat i z hi).2 hz)
      refine ⟨k', f', ?_⟩
      have hnext : (m.frames[i + 1]?).map Frm.fn = ((D ++ [{ x with pc := x.pc + 1, stk := cutV x.stk g.1.toNat }, { fn := o.2, pc := 0, loc := x.stk.drop (x.stk.length - g.1.toNat) ++ (freshL g.2.1).drop g.1.toNat, stk := [] }])[i + 1]?).map Frm.fn := by
        by_cases hi2 : i + 1 < D.length
        · rw [hs, List.getElem?_append_left hi2, List.getElem?_append_left hi2]
        · have : i + 1 = D.length := by omega
          rw [hs, this]
          simp
      rw [← hnext]
      exact hr'
    · by_cases hi2 : i = D.length
      · subst hi2
        simp at hz
        subst hz
        exact ⟨k, f, by simpa using hx1⟩
      · have hi3 : i = D.length + 1 := by have := lt_of_at hz; simp at this; omega
        subst hi3
        simp at hz
        subst hz
        exact ⟨_, g, by simpa using hy⟩
theorem op13 (h : AtOp p e m x k f pc s out o) (hc : o.1 = 13) (he : AllFit p e) (hres : ∀ g ∈ p, 0 ≤ g.2.2.1) : RightM p e (doOp p m x o) := by
  have hst := h.run
  have htr := h.right.trap.2 (by omega)
  cases hy : m.frames.dropLast.getLast? with
  | none =>
    have hd : doOp p m x o = { m with frames := [], status := 2 } := by simp [doOp, hc, hy]
    rw [hd]
    exact ⟨by simp, ⟨fun hn => by simp at hn, fun _ => htr⟩, h.right.blocks, h.right.inp, h.right.out, ⟨by simp, by simp⟩, fun z hz => by simp at hz, fun i z hz => by simp at hz, fun hw => by simp at hw⟩
  | some y =>
    have hd : doOp p m x o = { m with frames := m.frames.dropLast.dropLast ++ [{ y with stk := y.stk ++ x.stk }] } := by simp [doOp, hc, hy]
    rw [hd]
    have hs1 := last_split h.last
    have hs2 := last_split hy
    generalize hD : m.frames.dropLast.dropLast = D at *
    generalize hD1 : m.frames.dropLast = D1 at *
    have hfr : m.frames = D ++ [y, x] := by rw [hs1, hs2]; simp
    have hyi : m.frames[D.length]? = some y := by rw [hfr]; simp
    have hxi : m.frames[D.length + 1]? = some x := by rw [hfr]; simp
    obtain ⟨ky, fy, hry⟩ := h.right.each D.length y hyi
    rw [hxi] at hry
    obtain ⟨pc', s0, s1, h1, w1, w2, w3, w4, w5, w6, w7⟩ := hry.outer x.fn rfl
    have hh1 : h1 = f := by
      have := h.frame.at_
      rw [h.frame.fn] at w6
      simp at w6
      rw [this] at w6
      exact (Option.some.inj w6).symm
    subst hh1
    have hmem := List.mem_of_getElem? h.frame.at_
    have hr0 := hres h1 hmem
    have hlen : s.length = (if 0 < h1.2.2.1 then [h1.2.2.1] else []).length := by
      have := h.try_
      obtain ⟨t', l', q1, _⟩ := try_parts this
      unfold takesLeaves at q1
      rw [if_neg (by omega), if_neg (by omega), if_neg (by omega), if_neg (by omega), if_pos hc] at q1
      by_cases hl : s.length = (if 0 < h1.2.2.1 then [h1.2.2.1] else []).length
      · exact hl
      · rw [if_neg hl] at q1; cases q1
    have htl : takesLeaves p h1 o s = some (if 0 < h1.2.2.1 then [h1.2.2.1] else [], []) := by
      unfold takesLeaves
      rw [if_neg (by omega), if_neg (by omega), if_neg (by omega), if_neg (by omega), if_pos hc, if_pos hlen]
    obtain ⟨a1, a2⟩ := has_takes h.stk h.try_ htl
    have hxl := areOf_length h.stk
    rw [← hlen, ← hxl, Nat.sub_self, List.drop_zero] at a2
    have hy' : RightF p e m.blocks.length none { y with stk := y.stk ++ x.stk } ky fy := by
      refine ⟨hry.fn, hry.at_, hry.loc, hry.okl, fun v hv => ?_, fun _ => ⟨pc' + 1, s1, w1, w5, ?_⟩, fun g' hg' => by cases hg'⟩
      · rcases List.mem_append.1 hv with hv | hv
        · exact hry.oks v hv
        · exact h.frame.oks v hv
      · show areOf (y.stk ++ x.stk) s1 = true
        by_cases hz : h1.2.2.1 = 0
        · rw [if_neg (by simp [hz])] at w7
          rw [if_neg (by omega)] at a2
          have : x.stk = [] := List.eq_nil_of_length_eq_zero (by rw [areOf_length a2]; rfl)
          rw [this, List.append_nil]
          exact w7
        · rw [if_pos hz] at w7
          rw [if_pos (by omega)] at a2
          obtain ⟨o', out', v1, v2, v3⟩ := (he ky fy hry.at_).1.on pc' s0 w3
          rw [w4] at v1
          cases v1
          obtain ⟨_, s1', v4, v5⟩ := v3 (pc' + 1) (goesOn_next w4 (by simp) (by simp))
          rw [w5] at v4
          cases v4
          obtain ⟨t', l', q1, q2, q3, hout⟩ := try_parts v2
          unfold takesLeaves at q1
          rw [if_neg (by simp), if_neg (by simp), if_neg (by simp), if_pos rfl, w6] at q1
          simp at q1
          obtain ⟨_, hl'⟩ := q1
          rw [if_pos (by omega)] at hl'
          rw [hout, ← hl'] at v5
          obtain ⟨_, z, hzs, hsz⟩ := leS_front v5
          rw [hzs]
          exact areOf_append w7 (areOf_le a2 (by simp [leS, hsz]))
    have hat : ∀ i z, i < D.length → (m.frames[i]? = some z ↔ (D ++ [{ y with stk := y.stk ++ x.stk }])[i]? = some z) := by
      intro i z hi
      rw [hfr, List.getElem?_append_left hi, List.getElem?_append_left hi]
    refine ⟨h.right.status, h.right.trap, h.right.blocks, h.right.inp, h.right.out, ⟨by have := h.right.depth.1; rw [hfr] at this; simp at this ⊢; omega, by simp [hst]⟩, ?_, ?_, fun hw => by simp only [hst] at hw; cases hw⟩
    · intro z hz
      simp only at hz
      cases D with
      | nil =>
        simp at hz
        subst hz
        exact h.right.first y (by rw [hfr]; rfl)
      | cons d r => exact h.right.first z ((hat 0 z (by simp)).2 hz)
    · intro i z hz
      simp only at hz ⊢
      by_cases hi : i < D.length
      · obtain ⟨k', f', hr'⟩ := h.right.each i z ((hat i z hi).2 hz)
        refine ⟨k', f', ?_⟩
        have hnext : (m.frames[i + 1]?).map Frm.fn = ((D ++ [{ y with stk := y.stk ++ x.stk }])[i + 1]?).map Frm.fn := by
          by_cases hi2 : i + 1 < D.length
          · rw [hfr, List.getElem?_append_left hi2, List.getElem?_append_left hi2]
          · have : i + 1 = D.length := by omega
            rw [hfr, this]
            simp
        rw [← hnext]
        exact hr'
      · have hi2 : i = D.length := by have := lt_of_at hz; simp at this; omega
        subst hi2
        simp at hz
        subst hz
        exact ⟨ky, fy, by simpa using hy'⟩
end
theorem right_step {p : List Fn} {e : Nat → Nat → Option (List Int)} {m : Mach} (hp : progErr p = 0) (he : AllFit p e) (h : RightM p e m) (hs : m.status = 0 ∨ m.status = 1) : ∃ (x : Frm) (k : Nat) (f : Fn) (o : Int × Int), m.frames.getLast? = some x ∧ x.fn = (k : Int) ∧ p[k]? = some f ∧ 0 ≤ x.pc ∧ f.2.2.2[x.pc.toNat]? = some o ∧ RightM p e (doOp p m x o) := by
  have hne : m.frames ≠ [] := fun hf => by have := h.depth.2.1 hf; omega
  obtain ⟨x, hx⟩ : ∃ x, m.frames.getLast? = some x := by
    cases hl : m.frames.getLast? with
    | none => exact absurd (List.getLast?_eq_none_iff.1 hl) hne
    | some x => exact ⟨x, rfl⟩
  have hsp := last_split hx
  have hxi : m.frames[m.frames.length - 1]? = some x := by rw [← List.getLast?_eq_getElem?]; exact hx
  have hpos : 0 < m.frames.length := List.length_pos_iff.2 hne
  obtain ⟨k, f, hr⟩ := h.each _ x hxi
  rw [List.getElem?_eq_none (by omega), Option.map_none] at hr
  obtain ⟨pc, s, o, out, h1, h2, h3, h4, h5, h6⟩ := inner_go he hr
  have hpc : x.pc.toNat = pc := by rw [h1]; simp
  refine ⟨x, k, f, o, hx, hr.fn, hr.at_, by omega, by rw [hpc]; exact h4, ?_⟩
  have hmem := List.mem_of_getElem? hr.at_
  have hfn := okFn hp hmem
  have hom := List.mem_of_getElem? h4
  have hok := hfn.ops o hom
  obtain ⟨hce, _, hbad⟩ := flowErr_zero hfn.flow
  have hchk := chk_zero ((codeErr_zero _ hce).2 o hom)
  have hty : ∀ g ∈ p, ∀ t ∈ g.2.1, 1 ≤ t ∧ t ≤ 2 := fun g hg => (okFn hp hg).loc
  have hres : ∀ g ∈ p, 0 ≤ g.2.2.1 := fun g hg => (hfn.res g hg).1
  by_cases hw : o.1 = 21 ∧ m.inp = []
  · have hd : doOp p m x o = { m with status := 1 } := by simp [doOp, hw]
    rw [hd]
    refine ⟨by simp, ⟨fun hn => by simp at hn, fun _ => h.trap.2 (by omega)⟩, h.blocks, h.inp, h.out, ⟨h.depth.1, ?_⟩, h.first, h.each, fun _ => ⟨hw.2, x, k, f, o, hx, hr.fn, hr.at_, by rw [hpc]; exact h4, hw.1⟩⟩
    simp [hne]
  · have hst : m.status = 0 := by
      rcases hs with hs | hs
      · exact hs
      · obtain ⟨w1, x', k', f', o', w2, w3, w4, w5, w6⟩ := h.wait hs
        rw [hx] at w2
        cases w2
        have : k = k' := by have := hr.fn; omega
        subst this
        rw [hr.at_] at w4
        cases w4
        rw [hpc, h4] at w5
        cases w5
        exact absurd ⟨w6, w1⟩ hw
    have hA : AtOp p e m x k f pc s out o := ⟨h, hst, hx, hr, h1, h2, h3, h4, h5, h6, by simp [isI32]; omega⟩
    have hcode := hok.code
    have : o.1 = 1 ∨ o.1 = 2 ∨ o.1 = 3 ∨ o.1 = 4 ∨ (o.1 = 5 ∨ o.1 = 6 ∨ o.1 = 7) ∨ o.1 = 8 ∨ o.1 = 9 ∨ o.1 = 10 ∨ o.1 = 11 ∨ o.1 = 12 ∨ o.1 = 13 ∨ o.1 = 14 ∨ o.1 = 15 ∨ o.1 = 16 ∨ o.1 = 17 ∨ o.1 = 18 ∨ o.1 = 19 ∨ o.1 = 20 ∨ o.1 = 21 := by omega
    rcases this with c | c | c | c | c | c | c | c | c | c | c | c | c | c | c | c | c | c | c
    · exact op1 hA c
    · exact op2 hA c
    · exact op3 hA c
    · exact op4 hA c
    · exact op567 hA c
    · exact op8 hA c (hok.loc (.inl c)) hfn.loc
    · exact op9 hA c (hok.loc (.inr c)) hfn.loc
    · exact op10 hA c hbad
    · exact op11 hA c hbad
    · exact op12 hA c he hok hty
    · exact op13 hA c he hres
    · exact op14 hA c
    · exact op15 hA c
    · exact op16 hA c
    · exact op17 hA c
    · exact op18 hA c
    · exact op19 hA c
    · exact op20 hA c
    · exact op21 hA c (fun hi => hw ⟨c, hi⟩)
end Go.Proofs.YtcadpoknolefpaaGreat


/- Only the innermost frame is other behind a step, plainly. -/
namespace Go.Proofs.YtcadpoknolefpaaGreat
open Go.RowKit
set_option linter.unusedSimpArgs false
set_option linter.unusedVariables false
structure OuterM (m n : Mach) : Prop where
  few : m.frames.length ≤ n.frames.length + 1
  many : n.frames.length ≤ m.frames.length + 1
  blocks : m.blocks.length ≤ n.blocks.length
  each : ∀ (i : Nat) (b : List Int), m.blocks[i]? = some b → ∃ b' : List Int, n.blocks[i]? = some b' ∧ b'.length = b.length
  out : m.out.length ≤ n.out.length ∧ n.out.take m.out.length = m.out
  inp : n.inp.length ≤ m.inp.length ∧ n.inp = m.inp.drop (m.inp.length - n.inp.length)
  frames : ∀ i, (i + 2 < m.frames.length ∨ (i + 1 < m.frames.length ∧ m.frames.length ≤ n.frames.length)) → n.frames[i]? = m.frames[i]?
theorem each_refl (L : List (List Int)) : ∀ (i : Nat) (b : List Int), L[i]? = some b → ∃ b' : List Int, L[i]? = some b' ∧ b'.length = b.length := fun i b h => ⟨b, h, rfl⟩
theorem outer_refl (m : Mach) (st tr : Int) : OuterM m { m with status := st, trap := tr } := ⟨by simp, by simp, by simp, each_refl _, by simp, by simp, fun i _ => rfl⟩
theorem outer_frames {m : Mach} {x : Frm} (hl : m.frames.getLast? = some x) {ys : List Frm} (h1 : 1 ≤ ys.length) (h2 : ys.length ≤ 2) {B : List (List Int)} {I O : List Int} (hb : m.blocks.length ≤ B.length) (he : ∀ (i : Nat) (b : List Int), m.blocks[i]? = some b → ∃ b' : List Int, B[i]? = some b' ∧ b'.length = b.length) (ho : m.out.length ≤ O.length ∧ O.take m.out.length = m.out) (hi : I.length ≤ m.inp.length ∧ I = m.inp.drop (m.inp.length - I.length)) :
    OuterM m { m with frames := m.frames.dropLast ++ ys, blocks := B, inp := I, out := O } := by
  have hs := last_split hl
  have hlen : m.frames.length = m.frames.dropLast.length + 1 := by rw [hs]; simp
  refine ⟨by simp; omega, by simp; omega, hb, he, ho, hi, fun i h => ?_⟩
  simp only [List.length_append] at h
  have hi2 : i < m.frames.dropLast.length := by omega
  show (m.frames.dropLast ++ ys)[i]? = _
  rw [List.getElem?_append_left hi2]
  conv => rhs; rw [hs]
  rw [List.getElem?_append_left hi2]
theorem out_refl (l : List Int) : l.length ≤ l.length ∧ l.take l.length = l := by simp
theorem in_refl (l : List Int) : l.length ≤ l.length ∧ l = l.drop (l.length - l.length) := by simp
theorem outer_ite {m : Mach} {c : Prop} [Decidable c] {a b : Mach} (h1 : OuterM m a) (h2 : OuterM m b) : OuterM m (if c then a else b) := by
  split
  · exact h1
  · exact h2
theorem outer_step {p : List Fn} {m : Mach} {x : Frm} {o : Int × Int} (hl : m.frames.getLast? = some x) : OuterM m (doOp p m x o) := by
  have hput : ∀ x' : Frm, OuterM m (putF m x') := fun x' => outer_frames hl (ys := [x']) (by simp) (by simp) (Nat.le_refl _) (each_refl _) (out_refl _) (in_refl _)
  have htrap : ∀ why, OuterM m (trapM m why) := fun why => outer_refl m 3 why
  have hself : OuterM m m := outer_refl m m.status m.trap
  unfold doOp
  repeat' refine outer_ite ?_ ?_
  all_goals first
    | exact hput _
    | exact htrap _
    | exact hself
    | exact outer_refl m 1 m.trap
    | skip
  · cases p[o.2.toNat]? with
    | none => exact hself
    | some g => exact outer_frames hl (by simp) (by simp) (Nat.le_refl _) (each_refl _) (out_refl _) (in_refl _)
  · have hs := last_split hl
    have hlen : m.frames.length = m.frames.dropLast.length + 1 := by rw [hs]; simp
    cases hy : m.frames.dropLast.getLast? with
    | none =>
      have hd : m.frames.dropLast = [] := List.getLast?_eq_none_iff.1 hy
      rw [hd] at hlen
      exact ⟨by simp; simp at hlen; omega, by simp, by simp, each_refl _, out_refl _, in_refl _, fun i h => by simp at h hlen; omega⟩
    | some y =>
      have hs2 := last_split hy
      have hlen2 : m.frames.dropLast.length = m.frames.dropLast.dropLast.length + 1 := by rw [hs2]; simp
      refine ⟨by simp at hlen2 ⊢; omega, by simp at hlen2 ⊢; omega, by simp, each_refl _, out_refl _, in_refl _, fun i h => ?_⟩
      simp only [List.length_append, List.length_singleton] at h
      have hi2 : i < m.frames.dropLast.dropLast.length := by omega
      show (m.frames.dropLast.dropLast ++ _)[i]? = _
      rw [List.getElem?_append_left hi2]
      conv => rhs; rw [hs, hs2]
      rw [List.append_assoc, List.getElem?_append_left hi2]
  · exact outer_frames hl (ys := [_]) (by simp) (by simp) (by simp [newL]) (fun i b h => ⟨b, by unfold newL; rw [List.getElem?_append_left (lt_of_at h)]; exact h, rfl⟩) (out_refl _) (in_refl _)
  · refine outer_frames hl (ys := [_]) (by simp) (by simp) (by simp [setL]) (fun i b h => ?_) (out_refl _) (in_refl _)
    unfold setL
    by_cases hi : i = ((topV x.stk 2).2 - 1).toNat
    · refine ⟨_, by rw [hi, List.getElem?_set_self (by rw [← hi]; exact lt_of_at h)], ?_⟩
      rw [List.length_set, blkAt, ← hi, h]
      rfl
    · exact ⟨b, by rw [List.getElem?_set_ne (fun e => hi e.symm)]; exact h, rfl⟩
  · exact outer_frames hl (ys := [_]) (by simp) (by simp) (Nat.le_refl _) (each_refl _) ⟨by simp, by simp⟩ (in_refl _)
  · refine outer_frames hl (ys := [_]) (by simp) (by simp) (Nat.le_refl _) (each_refl _) (out_refl _) ⟨by simp, ?_⟩
    cases hi : m.inp with
    | nil => simp
    | cons a r => simp
end Go.Proofs.YtcadpoknolefpaaGreat


/- What Check, Start and Step of machines answer, plainly. -/
namespace Go.Proofs.YtcadpoknolefpaaGreat
open Go.RowKit
set_option linter.unusedSimpArgs false
set_option linter.unusedVariables false
open Classical in
/-- the entries of all functions, if the program fits. -/
noncomputable def entP (p : List Fn) : Nat → Nat → Option (List Int) := if h : ∃ e, AllFit p e then Classical.choose h else fun _ _ => none
theorem entP_fit {p : List Fn} (h : ∃ e, AllFit p e) : AllFit p (entP p) := by
  unfold entP
  rw [dif_pos h]
  exact Classical.choose_spec h
open Classical in
noncomputable def fitsE (p : List Fn) : Int := if progErr p ≠ 0 then progErr p else if ∃ e, AllFit p e then 0 else 4
theorem allFit_of {p : List Fn} (h : ∀ f ∈ p, ∃ e, Least p f (some e)) : ∃ e, AllFit p e := by
  have each : ∀ k : Nat, ∃ e : Nat → Option (List Int), ∀ f, p[k]? = some f → Least p f (some e) := fun k => by
    cases hk : p[k]? with
    | none => exact ⟨fun _ => none, fun f hf => by cases hf⟩
    | some f =>
      obtain ⟨e, he⟩ := h f (List.mem_of_getElem? hk)
      exact ⟨e, fun g hg => by cases hg; exact he⟩
  exact ⟨fun k => Classical.choose (each k), fun k f hf => Classical.choose_spec (each k) f hf⟩
theorem progIs_fitsE {p : List Fn} {er : Int} (h : ProgIs p er) : er = fitsE p := by
  unfold fitsE
  rcases h with ⟨a1, a2⟩ | ⟨a1, a2, a3⟩ | ⟨a1, a2, f, hf, hl⟩
  · rw [if_pos a1, a2]
  · rw [if_neg (by simp [a1]), if_pos (allFit_of a3), a2]
  · rw [if_neg (by simp [a1]), if_neg, a2]
    rintro ⟨e, he⟩
    obtain ⟨k, hk⟩ := List.getElem?_of_mem hf
    exact absurd (least_one hl (he k f hk)) (by simp)
theorem fitsE_zero {p : List Fn} : fitsE p = 0 ↔ progErr p = 0 ∧ AllFit p (entP p) := by
  unfold fitsE
  constructor
  · intro h
    split at h
    · rename_i h1; exact absurd h h1
    · rename_i h1
      split at h
      · rename_i h2; exact ⟨by simpa using h1, entP_fit h2⟩
      · cases h
  · rintro ⟨h1, h2⟩
    rw [if_neg (by simp [h1]), if_pos ⟨_, h2⟩]
noncomputable def checkE (p : List Fn) (M : Mach) : Int := if fitsE p ≠ 0 then fitsE p else machErr p (entP p) M
theorem checkE_zero {p : List Fn} {M : Mach} : checkE p M = 0 ↔ progErr p = 0 ∧ AllFit p (entP p) ∧ RightM p (entP p) M := by
  unfold checkE
  constructor
  · intro h
    split at h
    · rename_i h1; exact absurd h h1
    · rename_i h1
      obtain ⟨h2, h3⟩ := fitsE_zero.1 (by simpa using h1)
      exact ⟨h2, h3, (mach_right h3).1 h⟩
  · rintro ⟨h1, h2, h3⟩
    rw [if_neg (by simp [fitsE_zero.2 ⟨h1, h2⟩])]
    exact (mach_right h2).2 h3
def zeroM : Mach := ⟨[], [], [], [], 0, 0⟩
def startM (p : List Fn) : Mach := { zeroM with frames := [{ fn := 0, pc := 0, loc := freshL ((p[0]?.map fun f => f.2.1).getD []), stk := [] }] }
def stepM (p : List Fn) (m : Mach) : Mach := if m.status = 0 ∨ m.status = 1 then (match m.frames.getLast?, lastOp p m with
    | some x, some o => doOp p m x o
    | _, _ => m) else m
theorem lastOp_mk {p : List Fn} {m : Mach} {x : Frm} {k : Nat} {f : Fn} {o : Int × Int} (hx : m.frames.getLast? = some x) (hk : x.fn = (k : Int)) (hf : p[k]? = some f) (ho : f.2.2.2[x.pc.toNat]? = some o) : lastOp p m = some o := by
  unfold lastOp
  rw [hx]
  simp only [Option.bind_some, hk, Int.toNat_natCast, hf]
  exact ho
theorem next_op {p : List Fn} {e : Nat → Nat → Option (List Int)} {m : Mach} (hp : progErr p = 0) (he : AllFit p e) (h : RightM p e m) (hs : m.status = 0 ∨ m.status = 1) : ∃ (x : Frm) (k : Nat) (f : Fn) (o : Int × Int), m.frames.getLast? = some x ∧ x.fn = (k : Int) ∧ p[k]? = some f ∧ 0 ≤ x.pc ∧ f.2.2.2[x.pc.toNat]? = some o ∧ lastOp p m = some o ∧ stepM p m = doOp p m x o ∧ RightM p e (doOp p m x o) := by
  obtain ⟨x, k, f, o, h1, h2, h3, h4, h5, h6⟩ := right_step hp he h hs
  have hl := lastOp_mk h1 h2 h3 h5
  refine ⟨x, k, f, o, h1, h2, h3, h4, h5, hl, ?_, h6⟩
  unfold stepM
  rw [if_pos hs, h1, hl]
theorem stepM_right {p : List Fn} {e : Nat → Nat → Option (List Int)} {m : Mach} (hp : progErr p = 0) (he : AllFit p e) (h : RightM p e m) : RightM p e (stepM p m) := by
  by_cases hs : m.status = 0 ∨ m.status = 1
  · obtain ⟨x, k, f, o, _, _, _, _, _, _, h1, h2⟩ := next_op hp he h hs
    rw [h1]
    exact h2
  · unfold stepM
    rw [if_neg hs]
    exact h
theorem stepM_outer {p : List Fn} {e : Nat → Nat → Option (List Int)} {m : Mach} (hp : progErr p = 0) (he : AllFit p e) (h : RightM p e m) : OuterM m (stepM p m) := by
  by_cases hs : m.status = 0 ∨ m.status = 1
  · obtain ⟨x, k, f, o, h0, _, _, _, _, _, h1, h2⟩ := next_op hp he h hs
    rw [h1]
    exact outer_step h0
  · unfold stepM
    rw [if_neg hs]
    exact outer_refl m m.status m.trap
theorem startM_right {p : List Fn} {e : Nat → Nat → Option (List Int)} (hp : progErr p = 0) (he : AllFit p e) : ∃ f, p[0]? = some f ∧ startM p = { zeroM with frames := [{ fn := 0, pc := 0, loc := freshL f.2.1, stk := [] }] } ∧ RightM p e (startM p) := by
  obtain ⟨h1, h2, _⟩ := progErr_zero hp
  obtain ⟨f, hf⟩ := at_of_lt (l := p) (k := 0) (by omega)
  have hs : startM p = { zeroM with frames := [{ fn := 0, pc := 0, loc := freshL f.2.1, stk := [] }] } := by simp [startM, hf]
  refine ⟨f, hf, hs, ?_⟩
  rw [hs]
  refine ⟨by simp [zeroM], by simp [zeroM], (by show blkErr [] = 0; decide), by simp [zeroM], by simp [zeroM], by simp [zeroM], fun x hx => ?_, fun i x hx => ?_, fun hw => by simp [zeroM] at hw⟩
  · simp at hx
    subst hx
    rfl
  · cases i with
    | succ i => simp at hx
    | zero =>
      simp at hx
      subst hx
      refine ⟨0, f, rfl, hf, fresh_areOf f.2.1 (okFn hp (List.mem_of_getElem? hf)).loc, fun v hv => fresh_ok hv, fun v hv => by simp at hv, fun _ => ⟨0, [], rfl, (he 0 f hf).1.first, rfl⟩, fun g hg => by simp at hg⟩
end Go.Proofs.YtcadpoknolefpaaGreat


/- machine's checker: functions of frames, one that waits; all of them in order. -/
namespace Go.Proofs.YtcadpoknolefpaaGreat
open Go.RowKit
set_option linter.unusedSimpArgs false
set_option linter.unusedVariables false
set_option maxRecDepth 100000 in
set_option maxHeartbeats 2000000 in
theorem ckFuncs_any (M : Mach) (p : List Fn) (fv bv iv ov : Value) (pp : Option Addr) (qp : Nat) (w : World) (hf : FrmsAt w fv M.frames) (h3 : ∃ p n c, bv = .slice p n c) (h4 : ∃ p n c, iv = .slice p n c) (h5 : ∃ p n c, ov = .slice p n c) : Calls Tryz.prog 100 #[chkV (.slice pp p.length qp) fv bv iv ov M] w (Says (funcsErr p M) w) := by
  obtain ⟨p3, n3, c3, rfl⟩ := h3
  obtain ⟨p4, n4, c4, rfl⟩ := h4
  obtain ⟨p5, n5, c5, rfl⟩ := h5
  obtain ⟨pf, cf, hfv, hfm, -, hfc⟩ := id hf
  subst hfv
  unfold maxLen at hfm
  obtain ⟨W1, hW1⟩ : ∃ W1, w.alloc (.cells #[.slice pf M.frames.length cf, .slice p3 n3 c3, .slice p4 n4 c4, .slice p5 n5 c5, .int .i64 M.status, .int .i64 M.trap, .slice pp p.length qp] 88) = W1 := ⟨_, rfl⟩
  have b1 : Below w.heap.size w W1 := by rw [← hW1]; exact (Below.refl _ w).alloc (Nat.le_refl _) _
  have x1 : W1.heap[w.heap.size]? = some (.cells #[.slice pf M.frames.length cf, .slice p3 n3 c3, .slice p4 n4 c4, .slice p5 n5 c5, .int .i64 M.status, .int .i64 M.trap, .slice pp p.length qp] 88 (0, 0)) := by rw [← hW1]; exact World.alloc_heap_new w _
  have lx := heap_lt x1
  have d0 : W1.cell? ⟨w.heap.size, 0, none⟩ = some (.slice pf M.frames.length cf) := cell_at' x1 0
  have d6 : W1.cell? ⟨w.heap.size, 6, none⟩ = some (.slice pp p.length qp) := cell_at' x1 6
  have HC := hideP (containsFrms_gen 138 #[.pointer (some ⟨w.heap.size, 0, none⟩)] (fun W => W.cell? ⟨w.heap.size, 6, none⟩ = some (.slice pp p.length qp) ∧ w.heap.size < W.heap.size) (inProg p) M.frames _ W1 (hf.below b1) ⟨d6, lx⟩ (fun W W' hI hb => ⟨(hb.cell (p := ⟨w.heap.size, 6, none⟩) hI.2).trans hI.1, Nat.lt_of_lt_of_le hI.2 hb.size⟩) (ent_mk Tryz.func138 (by kernel_rfl) rfl) (fun z lv sv W hI h1 h2 => ckFunc1_any p z lv sv pp qp w.heap.size W h1 h2 hI.1))
  have HFC := hideP hfc
  have hmf : ∀ (fn : Go.Fn) (first cap : Array Value) (w : World), (Instr.makeFunc fn first cap).run Tryz.prog w = .ok (.func fn first cap) w := fun _ _ _ _ => rfl
  clear hf hfc x1
  cases hall : M.frames.all (inProg p)
  · rw [hall] at HC
    go_enter Tryz.func100, Tryz.ntmps100
    go_wp2_with (go_at_call 139; refine HC.out.mono ?_; rintro e w2 ⟨rfl, b2⟩)
    go_ret
    exact ⟨by simp [funcsErr, hall], bthen0 b1 b2⟩
  · rw [hall] at HC
    obtain hM | ⟨x, r, hM⟩ : M.frames = [] ∨ ∃ x r, M.frames = x :: r := by
      cases M.frames with
      | nil => exact .inl rfl
      | cons x r => exact .inr ⟨x, r, rfl⟩
    · have h0len : ¬ (0 : Int) < (M.frames.length : Int) := by rw [hM]; simp
      have h0d : decide ((M.frames.length : Int) > 0) = false := by simpa using h0len
      have HM := hideP hM
      have HALL := hideP hall
      clear hM hall
      go_enter Tryz.func100, Tryz.ntmps100
      go_wp2_with (go_at_call 139; refine HC.out.mono ?_; rintro e w2 ⟨rfl, b2⟩; have k0 := (b2.cell (p := ⟨w.heap.size, 0, none⟩) lx).trans d0)
      go_ret
      refine ⟨?_, bthen0 b1 b2⟩
      unfold funcsErr
      rw [HALL.out, HM.out]
      simp
    · obtain ⟨g, off, lv, sv, rfl, hg, y0, -⟩ := HFC.out 0 x (by rw [hM]; rfl)
      have hpos : (0 : Int) < (M.frames.length : Int) := by rw [hM]; simp
      have hposd : decide ((M.frames.length : Int) > 0) = true := by simpa using hpos
      have HM := hideP hM
      have HALL := hideP hall
      clear hM hall
      have g0 := (b1.cell (p := ⟨g, off + 0 * 4, none⟩) hg).trans y0
      simp only [Nat.zero_mul, Nat.add_zero] at g0
      have hg1 := Nat.lt_of_lt_of_le hg b1.size
      by_cases h0 : x.fn = 0
      · have h0' : (x.fn != 0) = false := by simpa using h0
        go_enter Tryz.func100, Tryz.ntmps100
        go_wp2_with (go_at_call 139; refine HC.out.mono ?_; rintro e w2 ⟨rfl, b2⟩; have k0 := (b2.cell (p := ⟨w.heap.size, 0, none⟩) lx).trans d0; have k1 := (b2.cell (p := ⟨g, off, none⟩) hg1).trans g0)
        go_ret
        refine ⟨?_, bthen0 b1 b2⟩
        unfold funcsErr
        rw [HALL.out, HM.out]
        simp [h0]
      · have h0' : (x.fn != 0) = true := by simpa using h0
        go_enter Tryz.func100, Tryz.ntmps100
        go_wp2_with (go_at_call 139; refine HC.out.mono ?_; rintro e w2 ⟨rfl, b2⟩; have k0 := (b2.cell (p := ⟨w.heap.size, 0, none⟩) lx).trans d0; have k1 := (b2.cell (p := ⟨g, off, none⟩) hg1).trans g0)
        go_ret
        refine ⟨?_, bthen0 b1 b2⟩
        unfold funcsErr
        rw [HALL.out, HM.out]
        simp [h0]
theorem firstE_at : ∀ {es : List Int} {k : Nat} {a : Int}, es[k]? = some a → (∀ b ∈ es.take k, b = 0) → a ≠ 0 → firstE es = a
  | [], k, a, h, _, _ => by simp at h
  | b :: r, 0, a, h, _, ha => by
    simp at h
    subst h
    simp [firstE, ha]
  | b :: r, k + 1, a, h, hk, ha => by
    have h0 : b = 0 := hk b (by simp)
    simp only [firstE]
    rw [if_neg (by simp [h0])]
    exact firstE_at (by simpa using h) (fun c hc => hk c (by simp [hc])) ha
def ckFns : List Nat := [96, 97, 98, 99, 100, 101, 102]
theorem ckFns_ent : ∀ F ∈ ckFns, Ent F := by
  intro F hF
  simp only [ckFns, List.mem_cons, List.not_mem_nil, or_false] at hF
  rcases hF with rfl | rfl | rfl | rfl | rfl | rfl | rfl
  · exact ent_mk Tryz.func96 (by kernel_rfl) rfl
  · exact ent_mk Tryz.func97 (by kernel_rfl) rfl
  · exact ent_mk Tryz.func98 (by kernel_rfl) rfl
  · exact ent_mk Tryz.func99 (by kernel_rfl) rfl
  · exact ent_mk Tryz.func100 (by kernel_rfl) rfl
  · exact ent_mk Tryz.func101 (by kernel_rfl) rfl
  · exact ent_mk Tryz.func102 (by kernel_rfl) rfl
end Go.Proofs.YtcadpoknolefpaaGreat


