/- My texts Mw Mx Zb Nk Zj: what of them is needed, joined. -/

import Derived.Test.YtmjjkenblfndgaaGreatE9
import Derived.Test.YtmjjkenblfndgaaGreatE10
import Derived.Test.YtmjjkenblfndgaaGreatE14
import Derived.Test.YtmjjkenblfndgaaGreatE16
import Derived.Test.YtmjjkenblfndgaaGreatE18
import Derived.Test.YtmjjkenblfndgaaGreatE20
import Derived.Test.YtmjjkenblfndgaaGreatE21
import Derived.Test.YtmjjkenblfndgaaGreatE22
import Derived.Test.YtmjjkenblfndgaaGreatE23
set_option maxRecDepth 100000
set_option maxHeartbeats 8000000
/- stride's do at a right machine: it does as the plain op says, or panics with the reason. -/
namespace Go.Proofs.YtmjjkenblfndgaaGreat
open Go.RowKit
set_option linter.unusedSimpArgs false
set_option linter.unusedVariables false
def DoRet (p : List Fn) (M R : Mach) : Prop := ∀ (w0 W : World) (b : Nat) (pv : Value), FnsAt w0 pv p → Doer w0 W b pv M → Calls Tryz.prog 111 #[.pointer (some ⟨b, 0, none⟩)] W fun e w' => e = .returned (.tuple #[]) ∧ Fin w0 w' b pv R
def xetZ (p : List Fn) (M : Mach) (why : Int) : Prop := ∀ (w0 W : World) (b : Nat) (pv : Value), FnsAt w0 pv p → Doer w0 W b pv M → Calls Tryz.prog 111 #[.pointer (some ⟨b, 0, none⟩)] W fun e w' => e = .panicked [{ v := .iface 159 (.int .i64 why), recovered := false }] ∧ Below w0.heap.size w0 w'
structure AtDo (p : List Fn) (M : Mach) (D : List Frm) (x : Frm) (k pc : Nat) (f : Fn) (c A : Int) : Prop where
  fr : M.frames = D ++ [x]
  dl : D.length ≤ 100
  at_ : p[k]? = some f
  fn : x.fn = (k : Int)
  pcn : x.pc = (pc : Int)
  len : f.2.2.2.length ≤ 1000
  op : f.2.2.2[pc]? = some (c, A)
  stk : x.stk.length ≤ 8
section
variable {p : List Fn} {M : Mach} {D : List Frm} {x : Frm} {k pc : Nat} {f : Fn} {A : Int}
theorem xbqZ {w0 W : World} {b : Nat} {pv : Value} {F : Nat} {args : Array Value} {R : Mach} (h : Calls Tryz.prog F args W fun e w' => e = .returned (.tuple #[]) ∧ Doer w0 w' b pv R) : Calls Tryz.prog F args W fun e w' => e = .returned (.tuple #[]) ∧ Fin w0 w' b pv R := h.mono fun e w' hh => ⟨hh.1, hh.2.fin⟩
theorem dr1 (h : AtDo p M D x k pc f 1 A) : DoRet p M { M with frames := D ++ [{ x with pc := (pc : Int) + 1, stk := x.stk ++ [(false, A)] }] } := fun w0 W b pv hp hd =>
  do1 w0 b pv M D x p k pc f A W hd h.fr h.dl hp h.at_ h.fn h.pcn h.len h.op _ fun W' hd' => xbqZ (mv1 w0 b pv _ D _ A W' hd' rfl h.dl (by have := h.stk; simp; omega))
theorem dr18 (h : AtDo p M D x k pc f 18 A) : DoRet p M { M with frames := D ++ [{ x with pc := (pc : Int) + 1, stk := x.stk ++ [(true, 0)] }] } := fun w0 W b pv hp hd =>
  do18 w0 b pv M D x p k pc f A W hd h.fr h.dl hp h.at_ h.fn h.pcn h.len h.op _ fun W' hd' => xbqZ (mv18 w0 b pv _ D _ A W' hd' rfl h.dl (by have := h.stk; simp; omega))
theorem dr2 (h : AtDo p M D x k pc f 2 A) {r : List Val} {v : Val} (hs : x.stk = r ++ [v]) : DoRet p M { M with frames := D ++ [{ x with pc := (pc : Int) + 1, stk := r }] } := fun w0 W b pv hp hd =>
  do2 w0 b pv M D x p k pc f A W hd h.fr h.dl hp h.at_ h.fn h.pcn h.len h.op _ fun W' hd' => xbqZ (mv2 w0 b pv _ D _ r v A W' hd' rfl h.dl (by have := h.stk; simp; omega) hs)
theorem dr3 (h : AtDo p M D x k pc f 3 A) {r : List Val} {v : Val} (hs : x.stk = r ++ [v]) : DoRet p M { M with frames := D ++ [{ x with pc := (pc : Int) + 1, stk := r ++ [v, v] }] } := fun w0 W b pv hp hd =>
  do3 w0 b pv M D x p k pc f A W hd h.fr h.dl hp h.at_ h.fn h.pcn h.len h.op _ fun W' hd' => xbqZ (mv3 w0 b pv _ D _ r v A W' hd' rfl h.dl (by have := h.stk; simp; omega) hs)
theorem dr4 (h : AtDo p M D x k pc f 4 A) {r : List Val} {a v : Val} (hs : x.stk = r ++ [a, v]) : DoRet p M { M with frames := D ++ [{ x with pc := (pc : Int) + 1, stk := r ++ [v, a] }] } := fun w0 W b pv hp hd =>
  do4 w0 b pv M D x p k pc f A W hd h.fr h.dl hp h.at_ h.fn h.pcn h.len h.op _ fun W' hd' => xbqZ (mv4 w0 b pv _ D _ r a v A W' hd' rfl h.dl (by have := h.stk; simp; omega) hs)
theorem dr5 (h : AtDo p M D x k pc f 5 A) {r : List Val} {a v : Val} (hs : x.stk = r ++ [a, v]) : DoRet p M { M with frames := D ++ [{ x with pc := (pc : Int) + 1, stk := r ++ [(false, wrap32 (a.2 + v.2))] }] } := fun w0 W b pv hp hd =>
  do5 w0 b pv M D x p k pc f A W hd h.fr h.dl hp h.at_ h.fn h.pcn h.len h.op _ fun W' hd' => xbqZ (rk5 w0 b pv _ D _ r a v W' hd' rfl h.dl (by have := h.stk; simp; omega) hs)
theorem dr6 (h : AtDo p M D x k pc f 6 A) {r : List Val} {a v : Val} (hs : x.stk = r ++ [a, v]) : DoRet p M { M with frames := D ++ [{ x with pc := (pc : Int) + 1, stk := r ++ [(false, wrap32 (a.2 - v.2))] }] } := fun w0 W b pv hp hd =>
  do6 w0 b pv M D x p k pc f A W hd h.fr h.dl hp h.at_ h.fn h.pcn h.len h.op _ fun W' hd' => xbqZ (rk6 w0 b pv _ D _ r a v W' hd' rfl h.dl (by have := h.stk; simp; omega) hs)
theorem dr7 (h : AtDo p M D x k pc f 7 A) {r : List Val} {a v : Val} (hs : x.stk = r ++ [a, v]) : DoRet p M { M with frames := D ++ [{ x with pc := (pc : Int) + 1, stk := r ++ [(false, wrap32 (a.2 * v.2))] }] } := fun w0 W b pv hp hd =>
  do7 w0 b pv M D x p k pc f A W hd h.fr h.dl hp h.at_ h.fn h.pcn h.len h.op _ fun W' hd' => xbqZ (rk7 w0 b pv _ D _ r a v W' hd' rfl h.dl (by have := h.stk; simp; omega) hs)
theorem dr8 {j : Nat} (h : AtDo p M D x k pc f 8 (j : Int)) {v : Val} (hv : x.loc[j]? = some v) : DoRet p M { M with frames := D ++ [{ x with pc := (pc : Int) + 1, stk := x.stk ++ [v] }] } := fun w0 W b pv hp hd =>
  do8 w0 b pv M D x p k pc f (j : Int) W hd h.fr h.dl hp h.at_ h.fn h.pcn h.len h.op _ fun W' hd' => xbqZ (mv8 w0 b pv _ D _ j v W' hd' rfl h.dl (by have := h.stk; simp; omega) hv)
theorem dr9 {j : Nat} (h : AtDo p M D x k pc f 9 (j : Int)) {u v : Val} {r : List Val} (hv : x.loc[j]? = some u) (hs : x.stk = r ++ [v]) : DoRet p M { M with frames := D ++ [{ x with pc := (pc : Int) + 1, loc := x.loc.set j v, stk := r }] } := fun w0 W b pv hp hd =>
  do9 w0 b pv M D x p k pc f (j : Int) W hd h.fr h.dl hp h.at_ h.fn h.pcn h.len h.op _ fun W' hd' => xbqZ (mv9 w0 b pv _ D _ j u v r W' hd' rfl h.dl (by have := h.stk; simp; omega) hv hs)
theorem dr10 (h : AtDo p M D x k pc f 10 A) : DoRet p M { M with frames := D ++ [{ x with pc := A }] } := fun w0 W b pv hp hd =>
  do10 w0 b pv M D x p k pc f A W hd h.fr h.dl hp h.at_ h.fn h.pcn h.len h.op _ fun W' hd' => xbqZ (go10 w0 b pv { M with frames := D ++ [{ x with pc := (pc : Int) + 1 }] } D { x with pc := (pc : Int) + 1 } A W' hd' rfl h.dl (by have := h.stk; simp; omega))
theorem dr11z (h : AtDo p M D x k pc f 11 A) {r : List Val} {v : Val} (hs : x.stk = r ++ [v]) (hz : v.2 = 0) : DoRet p M { M with frames := D ++ [{ x with pc := A, stk := r }] } := fun w0 W b pv hp hd =>
  do11 w0 b pv M D x p k pc f A W hd h.fr h.dl hp h.at_ h.fn h.pcn h.len h.op _ fun W' hd' => xbqZ (go11z w0 b pv { M with frames := D ++ [{ x with pc := (pc : Int) + 1 }] } D { x with pc := (pc : Int) + 1 } A r v W' hd' rfl h.dl (by have := h.stk; simp; omega) hs hz)
theorem dr11n (h : AtDo p M D x k pc f 11 A) {r : List Val} {v : Val} (hs : x.stk = r ++ [v]) (hz : v.2 ≠ 0) : DoRet p M { M with frames := D ++ [{ x with pc := (pc : Int) + 1, stk := r }] } := fun w0 W b pv hp hd =>
  do11 w0 b pv M D x p k pc f A W hd h.fr h.dl hp h.at_ h.fn h.pcn h.len h.op _ fun W' hd' => xbqZ (go11n w0 b pv _ D _ A r v W' hd' rfl h.dl (by have := h.stk; simp; omega) hs hz)
theorem dr12 {j n : Nat} (h : AtDo p M D x k pc f 12 (j : Int)) {g : Fn} {s args : List Val} (h6 : M.frames.length ≠ 6) (hs : x.stk = s ++ args) (hg : p[j]? = some g) (hP : g.1 = (n : Int)) (hal : args.length = n) (hn : n ≤ g.2.1.length) (hL : g.2.1.length ≤ 90) : DoRet p M { M with frames := D ++ [{ x with pc := (pc : Int) + 1, stk := s }, { fn := (j : Int), pc := 0, loc := args ++ (xa7Z g.2.1).drop n, stk := [] }] } := fun w0 W b pv hp hd =>
  do12 w0 b pv M D x p k pc f (j : Int) W hd h.fr h.dl hp h.at_ h.fn h.pcn h.len h.op _ fun W' hd' => go12 w0 b pv _ (j : Int) W' hd' _ fun W'' hd'' =>
    xbqZ (call_ok w0 b pv _ D _ p j n g s args W'' hd'' rfl h.dl (by have := h.fr; rw [this] at h6; simpa using h6) hs (by have := h.stk; simp; omega) hp hg hP hal hn hL)
theorem dr12t (h : AtDo p M D x k pc f 12 A) (h6 : M.frames.length = 6) : xetZ p M 4 := fun w0 W b pv hp hd =>
  do12p w0 b pv M D x p k pc f A W hd h.fr h.dl hp h.at_ h.fn h.pcn h.len h.op 4 _ fun W' hd' => go12p w0 b pv _ A 4 W' hd' _ fun W'' hd'' => call_trap w0 b pv _ W'' hd'' A (by have := h.fr; rw [this] at h6; simpa using h6)
theorem dr13d (h : AtDo p M D x k pc f 13 A) (h0 : D.length = 0) : DoRet p M { M with frames := [], status := 2 } := fun w0 W b pv hp hd =>
  do13 w0 b pv M D x p k pc f A W hd h.fr h.dl hp h.at_ h.fn h.pcn h.len h.op _ fun W' hd' => go13 w0 b pv _ A W' hd' _ fun W'' hd'' => xbqZ (ret_done w0 b pv { M with frames := D ++ [{ x with pc := (pc : Int) + 1 }] } D { x with pc := (pc : Int) + 1 } W'' hd'' rfl h.dl (by have := h.stk; simp; omega) h0)
theorem dr13 (h : AtDo p M D x k pc f 13 A) {D' : List Frm} {y : Frm} (h0 : D = D' ++ [y]) (hy : y.stk.length ≤ 90) : DoRet p M { M with frames := D' ++ [{ y with stk := y.stk ++ x.stk }] } := fun w0 W b pv hp hd =>
  do13 w0 b pv M D x p k pc f A W hd h.fr h.dl hp h.at_ h.fn h.pcn h.len h.op _ fun W' hd' => go13 w0 b pv _ A W' hd' _ fun W'' hd'' => xbqZ (ret_on w0 b pv { M with frames := D ++ [{ x with pc := (pc : Int) + 1 }] } D { x with pc := (pc : Int) + 1 } D' y W'' hd'' rfl h.dl (by have := h.stk; simp; omega) h0 hy)
theorem dr14 (h : AtDo p M D x k pc f 14 A) {r : List Val} {v : Val} (hs : x.stk = r ++ [v]) (hv : isI32 v.2 = true) (he : xbsZ M.blocks v.2 = 0) : DoRet p M { M with frames := D ++ [{ x with pc := (pc : Int) + 1, stk := r ++ [(true, (M.blocks.length : Int) + 1)] }], blocks := newL M.blocks v.2 } := fun w0 W b pv hp hd => by
  have e1 : newR M.blocks v.2 = newL M.blocks v.2 := by simp [newR, he]
  have e2 : xg9Z M.blocks v.2 = (M.blocks.length : Int) + 1 := by simp [xg9Z, he]
  rw [← e1, ← e2]
  have hi : -9223372036854775808 ≤ v.2 ∧ v.2 ≤ 9223372036854775807 := by simp [isI32] at hv; omega
  exact do14 w0 b pv M D x p k pc f A W hd h.fr h.dl hp h.at_ h.fn h.pcn h.len h.op _ fun W' hd' => ub14 w0 b pv _ W' hd' _ fun W'' hd'' => xbqZ (nb_ok w0 b pv _ D _ r v W'' hd'' rfl h.dl (by have := h.stk; simp; omega) hs hi he)
theorem dr14t (h : AtDo p M D x k pc f 14 A) {r : List Val} {v : Val} (hs : x.stk = r ++ [v]) (hv : isI32 v.2 = true) (he : xbsZ M.blocks v.2 ≠ 0) : xetZ p M 3 := fun w0 W b pv hp hd => by
  have hi : -9223372036854775808 ≤ v.2 ∧ v.2 ≤ 9223372036854775807 := by simp [isI32] at hv; omega
  exact do14p w0 b pv M D x p k pc f A W hd h.fr h.dl hp h.at_ h.fn h.pcn h.len h.op 3 _ fun W' hd' => ub14p w0 b pv _ 3 W' hd' _ fun W'' hd'' => nb_trap w0 b pv _ D _ r v W'' hd'' rfl h.dl (by have := h.stk; simp; omega) hs hi he
theorem dr15 (h : AtDo p M D x k pc f 15 A) {r : List Val} {a v : Val} (hs : x.stk = r ++ [a, v]) (ha : -9223372036854775808 ≤ a.2 ∧ a.2 ≤ 9223372036854775807) (he : xa0Z M.blocks a.2 v.2 = 0) : DoRet p M { M with frames := D ++ [{ x with pc := (pc : Int) + 1, stk := r ++ [(false, getL M.blocks a.2 v.2)] }] } := fun w0 W b pv hp hd => by
  have e1 : getR M.blocks a.2 v.2 = getL M.blocks a.2 v.2 := by simp [getR, he]
  rw [← e1]
  exact do15 w0 b pv M D x p k pc f A W hd h.fr h.dl hp h.at_ h.fn h.pcn h.len h.op _ fun W' hd' => xbqZ (ub15o w0 b pv _ D _ r a v W' hd' rfl h.dl (by have := h.stk; simp; omega) hs ha he)
theorem dr15n (h : AtDo p M D x k pc f 15 A) {r : List Val} {a v : Val} (hs : x.stk = r ++ [a, v]) (ha : -9223372036854775808 ≤ a.2 ∧ a.2 ≤ 9223372036854775807) (he : xa0Z M.blocks a.2 v.2 = 5) : xetZ p M 1 := fun w0 W b pv hp hd =>
  do15p w0 b pv M D x p k pc f A W hd h.fr h.dl hp h.at_ h.fn h.pcn h.len h.op 1 _ fun W' hd' => ub15n w0 b pv _ D _ r a v W' hd' rfl h.dl (by have := h.stk; simp; omega) hs ha he
theorem dr15i (h : AtDo p M D x k pc f 15 A) {r : List Val} {a v : Val} (hs : x.stk = r ++ [a, v]) (ha : -9223372036854775808 ≤ a.2 ∧ a.2 ≤ 9223372036854775807) (he : xa0Z M.blocks a.2 v.2 ≠ 0 ∧ xa0Z M.blocks a.2 v.2 ≠ 5) : xetZ p M 2 := fun w0 W b pv hp hd =>
  do15p w0 b pv M D x p k pc f A W hd h.fr h.dl hp h.at_ h.fn h.pcn h.len h.op 2 _ fun W' hd' => ub15i w0 b pv _ D _ r a v W' hd' rfl h.dl (by have := h.stk; simp; omega) hs ha he
theorem dr16 (h : AtDo p M D x k pc f 16 A) {r : List Val} {c a v : Val} (hs : x.stk = r ++ [c, a, v]) (ha : -9223372036854775808 ≤ c.2 ∧ c.2 ≤ 9223372036854775807) (he : xbrZ M.blocks c.2 a.2 v.2 = 0) : DoRet p M { M with frames := D ++ [{ x with pc := (pc : Int) + 1, stk := r }], blocks := setL M.blocks c.2 a.2 v.2 } := fun w0 W b pv hp hd => by
  have e1 : setR M.blocks c.2 a.2 v.2 = setL M.blocks c.2 a.2 v.2 := by simp [setR, he]
  rw [← e1]
  exact do16 w0 b pv M D x p k pc f A W hd h.fr h.dl hp h.at_ h.fn h.pcn h.len h.op _ fun W' hd' => xbqZ (ub16o w0 b pv _ D _ r c a v W' hd' rfl h.dl (by have := h.stk; simp; omega) hs ha he)
theorem dr16n (h : AtDo p M D x k pc f 16 A) {r : List Val} {c a v : Val} (hs : x.stk = r ++ [c, a, v]) (ha : -9223372036854775808 ≤ c.2 ∧ c.2 ≤ 9223372036854775807) (he : xbrZ M.blocks c.2 a.2 v.2 = 5) : xetZ p M 1 := fun w0 W b pv hp hd =>
  do16p w0 b pv M D x p k pc f A W hd h.fr h.dl hp h.at_ h.fn h.pcn h.len h.op 1 _ fun W' hd' => ub16n w0 b pv _ D _ r c a v W' hd' rfl h.dl (by have := h.stk; simp; omega) hs ha he
theorem dr16i (h : AtDo p M D x k pc f 16 A) {r : List Val} {c a v : Val} (hs : x.stk = r ++ [c, a, v]) (ha : -9223372036854775808 ≤ c.2 ∧ c.2 ≤ 9223372036854775807) (he : xbrZ M.blocks c.2 a.2 v.2 ≠ 0 ∧ xbrZ M.blocks c.2 a.2 v.2 ≠ 5) : xetZ p M 2 := fun w0 W b pv hp hd =>
  do16p w0 b pv M D x p k pc f A W hd h.fr h.dl hp h.at_ h.fn h.pcn h.len h.op 2 _ fun W' hd' => ub16i w0 b pv _ D _ r c a v W' hd' rfl h.dl (by have := h.stk; simp; omega) hs ha he
theorem dr17 (h : AtDo p M D x k pc f 17 A) {r : List Val} {v : Val} {j : Nat} {bb : List Int} (hs : x.stk = r ++ [v]) (hz : v.2 = (j : Int) + 1) (hj : M.blocks[j]? = some bb) (h8 : M.blocks.length ≤ 8) : DoRet p M { M with frames := D ++ [{ x with pc := (pc : Int) + 1, stk := r ++ [(false, (bb.length : Int))] }] } := fun w0 W b pv hp hd =>
  do17 w0 b pv M D x p k pc f A W hd h.fr h.dl hp h.at_ h.fn h.pcn h.len h.op _ fun W' hd' => xbqZ (ub17o w0 b pv _ D _ r v j bb W' hd' rfl h.dl (by have := h.stk; simp; omega) hs hz hj h8)
theorem dr17t (h : AtDo p M D x k pc f 17 A) {r : List Val} {v : Val} (hs : x.stk = r ++ [v]) (hz : v.2 = 0) : xetZ p M 1 := fun w0 W b pv hp hd =>
  do17p w0 b pv M D x p k pc f A W hd h.fr h.dl hp h.at_ h.fn h.pcn h.len h.op 1 _ fun W' hd' => ub17t w0 b pv _ D _ r v W' hd' rfl h.dl (by have := h.stk; simp; omega) hs hz
theorem dr19 (h : AtDo p M D x k pc f 19 A) {r : List Val} {v : Val} (hs : x.stk = r ++ [v]) : DoRet p M { M with frames := D ++ [{ x with pc := (pc : Int) + 1, stk := r ++ [(false, if v.2 = 0 then 1 else 0)] }] } := fun w0 W b pv hp hd => by
  by_cases hz : v.2 = 0
  · rw [if_pos hz]
    exact do19 w0 b pv M D x p k pc f A W hd h.fr h.dl hp h.at_ h.fn h.pcn h.len h.op _ fun W' hd' => xbqZ (ub19z w0 b pv _ D _ r v W' hd' rfl h.dl (by have := h.stk; simp; omega) hs hz)
  · rw [if_neg hz]
    exact do19 w0 b pv M D x p k pc f A W hd h.fr h.dl hp h.at_ h.fn h.pcn h.len h.op _ fun W' hd' => xbqZ (ub19n w0 b pv _ D _ r v W' hd' rfl h.dl (by have := h.stk; simp; omega) hs hz)
theorem dr20 (h : AtDo p M D x k pc f 20 A) {r : List Val} {v : Val} (hs : x.stk = r ++ [v]) (ho : M.out.length < 10) : DoRet p M { M with frames := D ++ [{ x with pc := (pc : Int) + 1, stk := r }], out := M.out ++ [v.2] } := fun w0 W b pv hp hd =>
  do20 w0 b pv M D x p k pc f A W hd h.fr h.dl hp h.at_ h.fn h.pcn h.len h.op _ fun W' hd' => xbqZ (sd_ok w0 b pv _ D _ r v W' hd' rfl h.dl (by have := h.stk; simp; omega) hs ho)
theorem dr20t (h : AtDo p M D x k pc f 20 A) (ho : M.out.length = 10) : xetZ p M 5 := fun w0 W b pv hp hd =>
  do20p w0 b pv M D x p k pc f A W hd h.fr h.dl hp h.at_ h.fn h.pcn h.len h.op 5 _ fun W' hd' => sd_trap w0 b pv _ D _ W' hd' rfl h.dl (by have := h.stk; simp; omega) ho
theorem dr21 (h : AtDo p M D x k pc f 21 A) {n : Int} {I : List Int} (hi : M.inp = n :: I) (hil : M.inp.length ≤ 100) : DoRet p M { M with frames := D ++ [{ x with pc := (pc : Int) + 1, stk := x.stk ++ [(false, n)] }], inp := I } := fun w0 W b pv hp hd =>
  do21 w0 b pv M D x p k pc f A W hd h.fr h.dl hp h.at_ h.fn h.pcn h.len h.op (by rw [hi]; simp) _ fun W' hd' => rc_any w0 b pv _ D _ n I W' hd' rfl h.dl (by have := h.stk; simp; omega) hi hil
theorem dr21w (h : AtDo p M D x k pc f 21 A) (hi : M.inp = []) : DoRet p M { M with status := 1 } := fun w0 W b pv hp hd =>
  xbqZ (do21w w0 b pv M D x p k pc f A W hd h.fr h.dl hp h.at_ h.fn h.pcn h.len h.op hi)
end
theorem xdgZ {l : List Val} (h : 1 ≤ l.length) : l = cutV l 1 ++ [topV l 0] := by
  rw [← drop_one h]; exact (List.take_append_drop _ _).symm
theorem xffZ {l : List Val} (h : 2 ≤ l.length) : l = cutV l 2 ++ [topV l 1, topV l 0] := by
  rw [← drop_two h]; exact (List.take_append_drop _ _).symm
theorem drop_three {l : List Val} (h : 3 ≤ l.length) : l.drop (l.length - 3) = [topV l 2, topV l 1, topV l 0] := by
  apply List.ext_getElem?
  intro i
  rw [List.getElem?_drop]
  match i with
  | 0 =>
    unfold topV
    simp [List.getD_eq_getElem?_getD, List.getElem?_eq_getElem (show l.length - 3 < l.length by omega), List.getElem?_eq_getElem (show l.length - 1 - 2 < l.length by omega), show l.length - 1 - 2 = l.length - 3 by omega]
  | 1 =>
    unfold topV
    simp [List.getD_eq_getElem?_getD, List.getElem?_eq_getElem (show l.length - 1 - 1 < l.length by omega), show l.length - 3 + 1 = l.length - 1 - 1 by omega]
  | 2 =>
    unfold topV
    simp [List.getD_eq_getElem?_getD, List.getElem?_eq_getElem (show l.length - 1 < l.length by omega), show l.length - 3 + 2 = l.length - 1 by omega]
  | i + 3 => rw [List.getElem?_eq_none (by omega)]; simp
theorem xioZ {l : List Val} (h : 3 ≤ l.length) : l = cutV l 3 ++ [topV l 2, topV l 1, topV l 0] := by
  rw [← drop_three h]; exact (List.take_append_drop _ _).symm
end Go.Proofs.YtmjjkenblfndgaaGreat


/- stride.Do at a right machine: what the plain step says. -/
namespace Go.Proofs.YtmjjkenblfndgaaGreat
open Go.RowKit
set_option linter.unusedSimpArgs false
set_option linter.unusedVariables false
theorem xl1Z {p : List Fn} {e : Nat → Nat → Option (List Int)} (he : xaxZ p e) {k : Nat} {f : Fn} (hf : p[k]? = some f) {pc : Nat} {s : List Int} (hs : e k pc = some s) : s.length ≤ 8 :=
  xkjZ (he k f hf).1 ((xkpZ (he k f hf) pc).1 ⟨s, hs⟩) hs
theorem okFn_at {p : List Fn} (hp : xanZ p = 0) {f : Fn} (hf : f ∈ p) {o : Int × Int} (ho : o ∈ f.2.2.2) : OkOp p f o ∧ f.2.2.2.length ≤ 40 ∧ isI32 o.2 = true ∧ ∀ o ∈ f.2.2.2, badTo f.2.2.2.length o = false := by
  have hfn := okFn hp hf
  obtain ⟨hce, _, hbad⟩ := xbfZ hfn.flow
  obtain ⟨c1, c2⟩ := xevZ _ hce
  have hchk := xjmZ (c2 o ho)
  exact ⟨hfn.ops o ho, c1, by simp [isI32]; omega, hbad⟩
theorem xmiZ {p : List Fn} {e : Nat → Nat → Option (List Int)} {nb k : Nat} {f : Fn} {x : Frm} {next : Option Int} (he : xaxZ p e) (h : RightF p e nb next x k f) : (∃ o, o ∈ f.2.2.2) ∧ x.stk.length ≤ 8 := by
  cases next with
  | none =>
    obtain ⟨pc, s, o, out, h1, h2, h3, h4, _⟩ := xfaZ he h
    exact ⟨⟨o, List.mem_of_getElem? h4⟩, by rw [xa6Z h3]; exact xl1Z he h.at_ h2⟩
  | some g =>
    obtain ⟨pc, s0, s, hh, h3, h4, h5, h6, h7, h8, h9⟩ := h.outer g rfl
    refine ⟨⟨_, List.mem_of_getElem? h6⟩, ?_⟩
    rw [xa6Z h9]
    have := xl1Z he h.at_ h7
    split
    · rw [List.length_dropLast]; omega
    · exact this
theorem xc8Z {p : List Fn} {e : Nat → Nat → Option (List Int)} {m : Mach} (hp : xanZ p = 0) (he : xaxZ p e) (h : RightM p e m) : SmallM m ∧ ∀ x ∈ m.frames, x.stk.length ≤ 8 := by
  obtain ⟨b1, b2, b3⟩ := xceZ h.blocks
  have key : ∀ x ∈ m.frames, x.loc.length ≤ 6 ∧ x.stk.length ≤ 8 := fun x hx => by
    obtain ⟨i, hi⟩ := List.getElem?_of_mem hx
    obtain ⟨k, f, hr⟩ := h.each i x hi
    obtain ⟨⟨o, ho⟩, hs⟩ := xmiZ he hr
    refine ⟨?_, hs⟩
    rw [xa6Z hr.loc]
    exact (okFn_at hp (List.mem_of_getElem? hr.at_) ho).1.own.1
  refine ⟨⟨h.depth.1, fun x hx => by have := key x hx; omega, b1, fun b hb => ?_, h.inp.1, h.out.1⟩, fun x hx => (key x hx).2⟩
  obtain ⟨i, hi⟩ := List.getElem?_of_mem hb
  have := xfyZ hi
  omega
theorem at_op {p : List Fn} {e : Nat → Nat → Option (List Int)} {m : Mach} (hp : xanZ p = 0) (he : xaxZ p e) (h : RightM p e m) (hs : m.status = 0 ∨ m.status = 1) {x : Frm} {k : Nat} {f : Fn} {o : Int × Int} (hx : m.frames.getLast? = some x) (hk : x.fn = (k : Int)) (hf : p[k]? = some f) (ho : f.2.2.2[x.pc.toNat]? = some o) :
    ∃ pc : Nat, AtDo p m m.frames.dropLast x k pc f o.1 o.2 ∧ OkOp p f o ∧ (∀ o ∈ f.2.2.2, badTo f.2.2.2.length o = false) ∧ ((o.1 = 21 ∧ m.inp = []) ∨ (¬ (o.1 = 21 ∧ m.inp = []) ∧ ∃ s out, AtOp p e m x k f pc s out o)) := by
  have hne : m.frames ≠ [] := fun hf => by have := h.depth.2.1 hf; omega
  have hsp := xcfZ hx
  have hxi : m.frames[m.frames.length - 1]? = some x := by rw [← List.getLast?_eq_getElem?]; exact hx
  have hpos : 0 < m.frames.length := List.length_pos_iff.2 hne
  obtain ⟨k', f', hr⟩ := h.each _ x hxi
  rw [List.getElem?_eq_none (by omega), Option.map_none] at hr
  have e1 : k' = k := by have := hr.fn; omega
  subst e1
  have e2 : f' = f := by have := hr.at_; rw [hf] at this; exact (Option.some.inj this).symm
  subst e2
  obtain ⟨pc, s, o', out, h1, h2, h3, h4, h5, h6⟩ := xfaZ he hr
  have hpc : x.pc.toNat = pc := by rw [h1]; simp
  rw [hpc, h4] at ho
  cases ho
  have hmem := List.mem_of_getElem? hr.at_
  have hom := List.mem_of_getElem? h4
  obtain ⟨hok, h40, hi32, hbad⟩ := okFn_at hp hmem hom
  have h6l := h.depth.1
  have hdl : m.frames.dropLast.length ≤ 100 := by rw [List.length_dropLast]; omega
  refine ⟨pc, ⟨hsp, hdl, hf, hk, h1, by omega, h4, (xmiZ he hr).2⟩, hok, hbad, ?_⟩
  by_cases hw : o.1 = 21 ∧ m.inp = []
  · exact .inl hw
  · right
    have hst : m.status = 0 := by
      rcases hs with hs | hs
      · exact hs
      · obtain ⟨w1, x', k2, f2, o2, w2, w3, w4, w5, w6⟩ := h.wait hs
        rw [hx] at w2
        cases w2
        have : k' = k2 := by have := hr.fn; omega
        subst this
        rw [hr.at_] at w4
        cases w4
        rw [hpc, h4] at w5
        cases w5
        exact absurd ⟨w6, w1⟩ hw
    exact ⟨hw, s, out, h, hst, hx, hr, h1, h2, h3, h4, h5, h6, hi32⟩
def DoEnds (p : List Fn) (m R : Mach) : Prop := DoRet p m R ∨ ∃ why, R = trapM m why ∧ xetZ p m why
theorem do_right {p : List Fn} {e : Nat → Nat → Option (List Int)} {m : Mach} (hp : xanZ p = 0) (he : xaxZ p e) (h : RightM p e m) (hs : m.status = 0 ∨ m.status = 1) {x : Frm} {k : Nat} {f : Fn} {o : Int × Int} (hx : m.frames.getLast? = some x) (hk : x.fn = (k : Int)) (hf : p[k]? = some f) (ho : f.2.2.2[x.pc.toNat]? = some o) : DoEnds p m (doOp p m x o) := by
  obtain ⟨pc, hA, hok, hbad, hc⟩ := at_op hp he h hs hx hk hf ho
  have hsm := xc8Z hp he h
  rcases hc with hw | ⟨hw, s, out, hO⟩
  · have hd : doOp p m x o = { m with status := 1 } := by simp [doOp, hw]
    rw [hd]
    rw [hw.1] at hA
    exact .inl (dr21w hA hw.2)
  obtain ⟨c, A⟩ := o
  have hcode := hok.code
  have hpcx := hO.pcx
  simp only at hcode hA hw
  have hl := xa6Z hO.stk
  have hfr := hA.fr
  have : c = 1 ∨ c = 2 ∨ c = 3 ∨ c = 4 ∨ c = 5 ∨ c = 6 ∨ c = 7 ∨ c = 8 ∨ c = 9 ∨ c = 10 ∨ c = 11 ∨ c = 12 ∨ c = 13 ∨ c = 14 ∨ c = 15 ∨ c = 16 ∨ c = 17 ∨ c = 18 ∨ c = 19 ∨ c = 20 ∨ c = 21 := by omega
  rcases this with rfl | rfl | rfl | rfl | rfl | rfl | rfl | rfl | rfl | rfl | rfl | rfl | rfl | rfl | rfl | rfl | rfl | rfl | rfl | rfl | rfl
  · left
    simpa [doOp, onF, putF, hpcx] using dr1 hA
  · left
    have hn : ¬ s.length < 1 := fun hl => by have := hO.try_; simp [tryOp, xafZ, hl] at this
    simpa [doOp, onF, putF, hpcx] using dr2 hA (xdgZ (by omega))
  · left
    have hn : ¬ s.length < 1 := fun hl => by have := hO.try_; simp [tryOp, xafZ, hl] at this
    simpa [doOp, onF, putF, hpcx] using dr3 hA (xdgZ (by omega))
  · left
    have hn : ¬ s.length < 2 := fun hl => by have := hO.try_; simp [tryOp, xafZ, hl] at this
    simpa [doOp, onF, putF, hpcx] using dr4 hA (xffZ (by omega))
  · left
    have hh := (xbdZ hO.stk hO.try_ (t := [1, 1]) (l := [1]) (by simp [xafZ, xaqZ, xauZ])).1
    simpa [doOp, onF, putF, hpcx] using dr5 hA (xffZ (by simpa using hh))
  · left
    have hh := (xbdZ hO.stk hO.try_ (t := [1, 1]) (l := [1]) (by simp [xafZ, xaqZ, xauZ])).1
    simpa [doOp, onF, putF, hpcx] using dr6 hA (xffZ (by simpa using hh))
  · left
    have hh := (xbdZ hO.stk hO.try_ (t := [1, 1]) (l := [1]) (by simp [xafZ, xaqZ, xauZ])).1
    simpa [doOp, onF, putF, hpcx] using dr7 hA (xffZ (by simpa using hh))
  · left
    have hloc := hok.loc (.inl rfl)
    simp only at hloc
    obtain ⟨j, rfl⟩ : ∃ j : Nat, A = (j : Int) := ⟨A.toNat, by omega⟩
    have hll := xa6Z hO.frame.loc
    obtain ⟨v, hv⟩ := xagZ (l := x.loc) (k := j) (by omega)
    simpa [doOp, onF, putF, hpcx, List.getD_eq_getElem?_getD, hv] using dr8 hA hv
  · left
    have hloc := hok.loc (.inr rfl)
    simp only at hloc
    obtain ⟨j, rfl⟩ : ∃ j : Nat, A = (j : Int) := ⟨A.toNat, by omega⟩
    have hll := xa6Z hO.frame.loc
    obtain ⟨v, hv⟩ := xagZ (l := x.loc) (k := j) (by omega)
    obtain ⟨t, ht⟩ := xagZ (l := f.2.1) (k := j) (by omega)
    have hh := (xbdZ hO.stk hO.try_ (t := [t]) (l := []) (by simp [xafZ, xaqZ, xauZ, List.getD_eq_getElem?_getD, ht])).1
    simpa [doOp, onF, putF, hpcx] using dr9 hA hv (xdgZ (by simpa using hh))
  · left
    simpa [doOp, onF, putF, hpcx] using dr10 hA
  · left
    have hh := (xbdZ hO.stk hO.try_ (t := [1]) (l := []) (by simp [xafZ, xaqZ, xauZ])).1
    by_cases hz : (topV x.stk 0).2 = 0
    · simpa [doOp, onF, putF, hpcx, hz] using dr11z hA (xdgZ (by simpa using hh)) hz
    · simpa [doOp, onF, putF, hpcx, hz] using dr11n hA (xdgZ (by simpa using hh)) hz
  · by_cases h6 : m.frames.length = 6
    · exact .inr ⟨4, by simp [doOp, h6], dr12t hA h6⟩
    · left
      have hcall := hok.call rfl
      simp only at hcall
      obtain ⟨j, rfl⟩ : ∃ j : Nat, A = (j : Int) := ⟨A.toNat, by omega⟩
      obtain ⟨g, hg⟩ := xagZ (l := p) (k := j) (by omega)
      have hgf := hok.fns g (List.mem_of_getElem? hg)
      obtain ⟨n, hn⟩ : ∃ n : Nat, g.1 = (n : Int) := ⟨g.1.toNat, by omega⟩
      have htl : xafZ p f (12, (j : Int)) s = some (g.2.1.take g.1.toNat, if 0 < g.2.2.1 then [g.2.2.1] else []) := by
        unfold xafZ
        rw [if_neg (by simp), if_neg (by simp), if_neg (by simp), if_pos rfl]
        simp only [Int.toNat_natCast, hg]
        rfl
      have hh := (xbdZ hO.stk hO.try_ htl).1
      have hn1 : g.1.toNat = n := by omega
      rw [hn1, List.length_take] at hh
      have hsp : x.stk = cutV x.stk n ++ x.stk.drop (x.stk.length - n) := (List.take_append_drop _ _).symm
      have := dr12 hA (g := g) (n := n) h6 hsp hg hn (by rw [List.length_drop]; omega) (by omega) (by omega)
      simpa [doOp, hpcx, h6, hg, hn1] using this
  · left
    cases hy : m.frames.dropLast.getLast? with
    | none =>
      have hd : m.frames.dropLast = [] := List.getLast?_eq_none_iff.1 hy
      simpa [doOp, hy] using dr13d hA (by rw [hd]; rfl)
    | some y =>
      have hy8 := hsm.2 y (List.dropLast_subset _ (List.mem_of_getLast? hy))
      simpa [doOp, hy] using dr13 hA (xcfZ hy) (by omega)
  · have htl : xafZ p f (14, A) s = some ([1], [2]) := by simp [xafZ, xaqZ, xauZ]
    have hh := (xbdZ hO.stk hO.try_ htl).1
    have hv := num_at hO htl 0 (by simp) rfl
    by_cases h0 : xbsZ m.blocks (topV x.stk 0).2 = 0
    · left
      simpa [doOp, onF, putF, hpcx, h0] using dr14 hA (xdgZ (by simpa using hh)) hv h0
    · exact .inr ⟨3, by simp [doOp, h0], dr14t hA (xdgZ (by simpa using hh)) hv h0⟩
  · have htl : xafZ p f (15, A) s = some ([2, 1], [1]) := by simp [xafZ, xaqZ, xauZ]
    have hh := (xbdZ hO.stk hO.try_ htl).1
    have hr := ref_at hO htl 1 (by simp) rfl
    have hb := hsm.1.bl
    have hi : -9223372036854775808 ≤ (topV x.stk 1).2 ∧ (topV x.stk 1).2 ≤ 9223372036854775807 := by omega
    by_cases h5 : xa0Z m.blocks (topV x.stk 1).2 (topV x.stk 0).2 = 5
    · exact .inr ⟨1, by simp [doOp, h5], dr15n hA (xffZ (by simpa using hh)) hi h5⟩
    · by_cases h0 : xa0Z m.blocks (topV x.stk 1).2 (topV x.stk 0).2 = 0
      · left
        simpa [doOp, onF, putF, hpcx, h0] using dr15 hA (xffZ (by simpa using hh)) hi h0
      · exact .inr ⟨2, by simp [doOp, h5, h0], dr15i hA (xffZ (by simpa using hh)) hi ⟨h0, h5⟩⟩
  · have htl : xafZ p f (16, A) s = some ([2, 1, 1], []) := by simp [xafZ, xaqZ, xauZ]
    have hh := (xbdZ hO.stk hO.try_ htl).1
    have hr := ref_at hO htl 2 (by simp) rfl
    have hb := hsm.1.bl
    have hi : -9223372036854775808 ≤ (topV x.stk 2).2 ∧ (topV x.stk 2).2 ≤ 9223372036854775807 := by omega
    by_cases h5 : xbrZ m.blocks (topV x.stk 2).2 (topV x.stk 1).2 (topV x.stk 0).2 = 5
    · exact .inr ⟨1, by simp [doOp, h5], dr16n hA (xioZ (by simpa using hh)) hi h5⟩
    · by_cases h0 : xbrZ m.blocks (topV x.stk 2).2 (topV x.stk 1).2 (topV x.stk 0).2 = 0
      · left
        simpa [doOp, onF, putF, hpcx, h0] using dr16 hA (xioZ (by simpa using hh)) hi h0
      · exact .inr ⟨2, by simp [doOp, h5, h0], dr16i hA (xioZ (by simpa using hh)) hi ⟨h0, h5⟩⟩
  · have htl : xafZ p f (17, A) s = some ([2], [1]) := by simp [xafZ, xaqZ, xauZ]
    have hh := (xbdZ hO.stk hO.try_ htl).1
    have hr := ref_at hO htl 0 (by simp) rfl
    have hb := hsm.1.bl
    by_cases hz : (topV x.stk 0).2 = 0
    · exact .inr ⟨1, by simp [doOp, hz], dr17t hA (xdgZ (by simpa using hh)) hz⟩
    · left
      obtain ⟨bb, hbb⟩ := xagZ (l := m.blocks) (k := ((topV x.stk 0).2 - 1).toNat) (by omega)
      have hz2 : (topV x.stk 0).2 = ((((topV x.stk 0).2 - 1).toNat : Nat) : Int) + 1 := by omega
      have hba := xdjZ hbb hz2
      have := dr17 hA (xdgZ (by simpa using hh)) hz2 hbb hb
      simpa [doOp, onF, putF, hpcx, hz, hba] using this
  · left
    simpa [doOp, onF, putF, hpcx] using dr18 hA
  · left
    have hh := (xbdZ hO.stk hO.try_ (t := [2]) (l := [1]) (by simp [xafZ, xaqZ, xauZ])).1
    simpa [doOp, onF, putF, hpcx] using dr19 hA (xdgZ (by simpa using hh))
  · have htl : xafZ p f (20, A) s = some ([1], []) := by simp [xafZ, xaqZ, xauZ]
    have hh := (xbdZ hO.stk hO.try_ htl).1
    by_cases h10 : m.out.length = 10
    · exact .inr ⟨5, by simp [doOp, h10], dr20t hA h10⟩
    · left
      have := h.out.1
      simpa [doOp, onF, putF, hpcx, h10] using dr20 hA (xdgZ (by simpa using hh)) (by omega)
  · left
    obtain ⟨n, I, hi⟩ : ∃ n I, m.inp = n :: I := by
      cases hm : m.inp with
      | nil => exact absurd ⟨rfl, hm⟩ hw
      | cons n I => exact ⟨n, I, rfl⟩
    have := h.inp.1
    simpa [doOp, onF, putF, hpcx, hi] using dr21 hA hi (by omega)
theorem xo2Z (p : List Fn) (e : Nat → Nat → Option (List Int)) (m : Mach) (pv fv bv iv ov : Value) (w : World) (hp : xanZ p = 0) (he : xaxZ p e) (h : RightM p e m) (hs : m.status = 0 ∨ m.status = 1) (hpv : FnsAt w pv p) (hM : MachAt w fv bv iv ov m) {x : Frm} {k : Nat} {f : Fn} {o : Int × Int} (hx : m.frames.getLast? = some x) (hk : x.fn = (k : Int)) (hf : p[k]? = some f) (ho : f.2.2.2[x.pc.toNat]? = some o) :
    Calls Tryz.prog 76 #[.agg #[pv], .agg #[fv, bv, iv, ov, .int .i64 m.status, .int .i64 m.trap]] w fun e w' => ∃ fv' bv' iv' ov', e = .returned (.agg #[fv', bv', iv', ov', .int .i64 (doOp p m x o).status, .int .i64 (doOp p m x o).trap]) ∧ MRes w' w.heap.size fv' bv' iv' ov' (doOp p m x o) ∧ Below w.heap.size w w' := by
  have hsm := (xc8Z hp he h).1
  rcases do_right hp he h hs hx hk hf ho with hr | ⟨why, h1, h2⟩
  · exact xo3Z p pv m _ fv bv iv ov w hpv hM hsm (fun w0 W b hpa hd => hr w0 W b pv hpa hd)
  · rw [h1]
    exact xnfZ p pv m why fv bv iv ov w hpv hM hsm (fun w0 W b hpa hd => h2 w0 W b pv hpa hd)
end Go.Proofs.YtmjjkenblfndgaaGreat


/- world.Check, and the reference's SameWorld. -/
namespace Go.Proofs.YtmjjkenblfndgaaGreat
open Go.RowKit
set_option linter.unusedSimpArgs false
set_option linter.unusedVariables false
noncomputable def xcxZ (p : List Fn) : List Mach → Int
  | [] => 0
  | M :: r => if xblZ p M ≠ 0 then xblZ p M else xcxZ p r
noncomputable def xa3Z (p : List Fn) (L : List Mach) : Int := if fitsE p ≠ 0 then fitsE p else if L.length = 0 then 5 else if 4 < L.length then 2 else xcxZ p L
theorem xjcZ {p : List Fn} {L : List Mach} : xcxZ p L = 0 ↔ ∀ M ∈ L, xblZ p M = 0 := by
  induction L with
  | nil => simp [xcxZ]
  | cons M r ih =>
    unfold xcxZ
    by_cases h : xblZ p M = 0
    · rw [if_neg (by simpa using h), ih]; simp [h]
    · rw [if_pos h]; simp [h]
theorem xjbZ {p : List Fn} : ∀ {L : List Mach} {k : Nat}, (∀ M ∈ L.take k, xblZ p M = 0) → xcxZ p L = xcxZ p (L.drop k)
  | [], k, _ => by simp
  | M :: r, 0, _ => rfl
  | M :: r, k + 1, h => by
    have h1 := h M (by simp)
    show xcxZ p (M :: r) = xcxZ p (r.drop k)
    rw [← xjbZ (L := r) (k := k) (fun N hN => h N (by simp [hN]))]
    unfold xcxZ
    rw [if_neg (by simpa using h1)]
    cases r <;> rfl
theorem xjjZ {p : List Fn} {L : List Mach} : xa3Z p L = 0 ↔ fitsE p = 0 ∧ L ≠ [] ∧ L.length ≤ 4 ∧ ∀ M ∈ L, xblZ p M = 0 := by
  unfold xa3Z
  by_cases h1 : fitsE p = 0
  · rw [if_neg (by simpa using h1)]
    by_cases h2 : L.length = 0
    · have : L = [] := List.length_eq_zero_iff.1 h2
      simp [this, h1]
    · have h2' : L ≠ [] := fun e => h2 (by simp [e])
      rw [if_neg h2]
      by_cases h3 : 4 < L.length
      · rw [if_pos h3]; simp [h1, h2']; omega
      · rw [if_neg h3, xjcZ]; simp [h1, h2']; omega
  · rw [if_pos h1]; simp [h1]
theorem prog_says {p : List Fn} {pv : Value} {w : World} (hp : FnsAt w pv p) (hcp : CapAt w pv) : Calls Tryz.prog 49 #[.agg #[pv]] w fun e w' => e = .returned (.int .i64 (fitsE p)) ∧ Below w.heap.size w w' :=
  (xe4Z p _ w hp hcp).mono fun e w' ⟨er, h1, h2, h3⟩ => ⟨by rw [h1, xe2Z h2], h3⟩
theorem xf3Z (L : List Mach) (p : List Fn) (pv wv : Value) (w : World) (hp : FnsAt w pv p) (hcp : CapAt w pv) (h : MachsAt w wv L) (hpc : ∀ M ∈ L, PcOk M) : Calls Tryz.prog 20 #[.agg #[pv], .agg #[wv]] w fun e w' => e = .returned (.int .i64 (xa3Z p L)) ∧ Below w.heap.size w w' := by
  obtain ⟨pp, qp, hpv, -⟩ := id hp
  subst hpv
  obtain ⟨pw, cw, hwv, hlw⟩ := h.shp
  subst hwv
  obtain ⟨-, -, -, hmx, -⟩ := id h
  unfold maxLen at hmx
  obtain ⟨W1, hW1⟩ : ∃ W1, (w.alloc (.cells #[.slice pp p.length qp] 24)).alloc (.cells #[.slice pw L.length cw] 27) = W1 := ⟨_, rfl⟩
  have b1 : Below w.heap.size w W1 := by rw [← hW1]; exact ((Below.refl _ w).alloc (Nat.le_refl _) _).alloc (by simp) _
  have u1 : W1.heap[w.heap.size]? = some (.cells #[.slice pp p.length qp] 24 (0, 0)) := by rw [← hW1]; exact xalZ (World.alloc_heap_new w _) _
  have u2 : W1.heap[w.heap.size + 1]? = some (.cells #[.slice pw L.length cw] 27 (0, 0)) := by rw [← hW1]; exact xa1Z _ _ _
  have KC : Hid (∀ W, Below W1.heap.size W1 W → W.cell? ⟨w.heap.size, 0, none⟩ = some (.slice pp p.length qp) ∧ W.cell? ⟨w.heap.size + 1, 0, none⟩ = some (.slice pw L.length cw)) := fun W hW => ⟨xaaZ ((hW.block _ (xacZ u1)).trans u1) 0, xaaZ ((hW.block _ (xacZ u2)).trans u2) 0⟩
  have hp1 := hp.below b1
  have hc1 := hcp.below hp b1
  have HP := hideP (And.intro hp1 hc1)
  have HM := hideP (h.below b1)
  have HPS := hideP (prog_says hp1 hc1)
  have HB1 := hideP b1
  have HPC := hideP hpc
  obtain ⟨e0, e1⟩ := KC.out W1 (Below.refl _ _)
  clear hp hcp h hp1 hc1 u1 u2 b1 hpc
  by_cases h0 : fitsE p = 0
  rotate_left
  · have t0 : (fitsE p != 0) = true := by simpa using h0
    have hE : xa3Z p L = fitsE p := by unfold xa3Z; rw [if_pos h0]
    rw [hE]
    generalize fitsE p = er at *
    clear h0 hE
    go_enter Tryz.func20, Tryz.ntmps20
    go_wp2_with fail
    refine HPS.out.mono ?_
    rintro e w2 ⟨rfl, b2⟩
    go_wp2
    go_ret
    exact ⟨rfl, xaeZ HB1.out b2⟩
  rw [h0] at HPS
  by_cases h5 : L.length = 0
  · have hE : xa3Z p L = 5 := by unfold xa3Z; rw [if_neg (by simp [h0]), if_pos h5]
    rw [hE]
    have t5 : ((L.length : Int) == 0) = true := beq_iff_eq.2 (by omega)
    have t5' : (L.length == 0) = true := beq_iff_eq.2 h5
    clear h0 hE h5
    go_enter Tryz.func20, Tryz.ntmps20
    go_wp2_with fail
    refine HPS.out.mono ?_
    rintro e w2 ⟨rfl, b2⟩
    obtain ⟨e0', e1'⟩ := KC.out w2 b2
    go_wp2
    go_ret
    exact ⟨rfl, xaeZ HB1.out b2⟩
  have t5 : ((L.length : Int) == 0) = false := beq_eq_false_iff_ne.2 (by omega)
  have t5' : (L.length == 0) = false := beq_eq_false_iff_ne.2 h5
  by_cases h4 : 4 < L.length
  · have hE : xa3Z p L = 2 := by unfold xa3Z; rw [if_neg (by simp [h0]), if_neg h5, if_pos h4]
    rw [hE]
    have t4 : decide ((L.length : Int) > 4) = true := by simp; omega
    have t4' : decide (4 < L.length) = true := by simp; omega
    clear h0 hE h5
    go_enter Tryz.func20, Tryz.ntmps20
    go_wp2_with fail
    refine HPS.out.mono ?_
    rintro e w2 ⟨rfl, b2⟩
    obtain ⟨e0', e1'⟩ := KC.out w2 b2
    go_wp2
    go_ret
    exact ⟨rfl, xaeZ HB1.out b2⟩
  have t4 : decide ((L.length : Int) > 4) = false := by simp; omega
  have t4' : decide (4 < L.length) = false := by simp; omega
  have hE : xa3Z p L = xcxZ p L := by unfold xa3Z; rw [if_neg (by simp [h0]), if_neg h5, if_neg h4]
  rw [hE]
  clear h0 hE
  go_enter Tryz.func20, Tryz.ntmps20
  go_wp2_with fail
  refine HPS.out.mono ?_
  rintro e w2 ⟨rfl, b2⟩
  obtain ⟨e0', e1'⟩ := KC.out w2 b2
  have HB2 := hideP b2
  clear e0 e1 b2
  go_wp2_with fail
  clear t4 t4' t5 t5'
  go_loopw [7, 8, 27] (fun _ _ v27 wr => ∃ k : Nat, k ≤ L.length ∧ v27 = .int .i64 k ∧ (∀ M ∈ L.take k, xblZ p M = 0) ∧ Below W1.heap.size W1 wr) (fun _ _ v27 _ => L.length - (intOf v27).toNat)
  case atStart => exact ⟨0, Nat.zero_le _, rfl, by simp, HB2.out⟩
  case round =>
    rename World => wr
    obtain ⟨k, hk, rfl, hok, hb⟩ := hrel
    have HOK := hideP hok
    have HBR := hideP hb
    obtain ⟨f0, f1⟩ := KC.out wr hb
    by_cases hlt : k < L.length
    rotate_left
    · have hlti : ¬ (k : Int) < (L.length : Int) := by omega
      have hz : xcxZ p L = 0 := xjcZ.2 fun M hM => hok M (by rw [List.take_of_length_le (by omega)]; exact hM)
      have HZ := hideP hz
      clear hok hb hz
      go_wp2
      go_ret
      exact ⟨by first | (rw [HZ.out]; done) | (rw [HZ.out]; rfl), xaeZ HB1.out HBR.out⟩
    have hlti : (k : Int) < (L.length : Int) := by omega
    obtain ⟨M, hM⟩ := xagZ hlt
    obtain ⟨p9, c9, he9, -, -, hf⟩ := (HM.out.below hb)
    cases he9
    obtain ⟨g, off, fv, bv, iv, ov, hpw, hg, m0, m1, m2, m3, m4, m5, hMA⟩ := hf k M hM
    subst hpw
    obtain ⟨⟨pf, cf, hfv⟩, ⟨pb, cb, hbv⟩, ⟨pi, ci, hiv⟩, ⟨po, co, hov⟩⟩ := hMA.shp
    subst hfv hbv hiv hov
    obtain ⟨W4, hW4⟩ : ∃ W4, wr.alloc (.cells #[.slice pf M.frames.length cf, .slice pb M.blocks.length cb, .slice pi M.inp.length ci, .slice po M.out.length co, .int .i64 M.status, .int .i64 M.trap] 48) = W4 := ⟨_, rfl⟩
    have b4 : Below wr.heap.size wr W4 := by rw [← hW4]; exact (Below.refl _ wr).alloc (Nat.le_refl _) _
    have u4 : W4.heap[wr.heap.size]? = some (.cells #[.slice pf M.frames.length cf, .slice pb M.blocks.length cb, .slice pi M.inp.length ci, .slice po M.out.length co, .int .i64 M.status, .int .i64 M.trap] 48 (0, 0)) := by rw [← hW4]; exact World.alloc_heap_new wr _
    have q0 := xaaZ u4 0
    have q1 := xaaZ u4 1
    have q2 := xaaZ u4 2
    have q3 := xaaZ u4 3
    have q4 := xaaZ u4 4
    have q5 := xaaZ u4 5
    simp at q0 q1 q2 q3 q4 q5
    have hb4 := xaeZ hb b4
    obtain ⟨g0, g1⟩ := KC.out W4 hb4
    have HCK : Hid (Calls Tryz.prog 36 #[.agg #[.slice pp p.length qp], .agg #[.slice pf M.frames.length cf, .slice pb M.blocks.length cb, .slice pi M.inp.length ci, .slice po M.out.length co, .int .i64 M.status, .int .i64 M.trap]] W4 fun e w' => e = .returned (.int .i64 (xblZ p M)) ∧ Below W4.heap.size W4 w') := xkqZ M p _ _ _ _ _ W4 ⟨HP.out.1.below hb4, HP.out.2.below HP.out.1 hb4, hMA.below b4⟩ (HPC.out M (List.mem_of_getElem? hM))
    have HB4 := hideP hb4
    have HMM := hideP hM
    clear hok hb hf hMA u4 b4 hb4 hM
    go_wp2_with fail
    refine HCK.out.mono ?_
    rintro e w5 ⟨rfl, b5⟩
    have HB5 := hideP (xaeZ HB4.out b5)
    clear b5
    by_cases hc : xblZ p M = 0
    · have tc : (xblZ p M != 0) = false := by simpa using hc
      have HC := hideP hc
      clear hc
      go_wp2
      go_roundw
      case rel => exact ⟨k + 1, by omega, by go_num, (fun N hN => by
        rw [xazZ L k _ HMM.out] at hN
        rcases List.mem_append.1 hN with h | h
        · exact HOK.out N h
        · have : N = M := by simpa using h
          rw [this]; exact HC.out), HB5.out⟩
      case measure => simp [intOf]; omega
    · have tc : (xblZ p M != 0) = true := by simpa using hc
      have hz : xcxZ p L = xblZ p M := by
        rw [xjbZ HOK.out, List.drop_eq_getElem_cons hlt]
        have : L[k] = M := by have := HMM.out; rw [List.getElem?_eq_getElem hlt] at this; exact Option.some.inj this
        rw [this]
        unfold xcxZ
        rw [if_pos hc]
      have HZ := hideP hz
      clear hc hz
      go_wp2
      go_ret
      exact ⟨by first | (rw [HZ.out]; done) | (rw [HZ.out]; rfl), xaeZ HB1.out HB5.out⟩
end Go.Proofs.YtmjjkenblfndgaaGreat


/- machine.Step, machine.Start. -/
namespace Go.Proofs.YtmjjkenblfndgaaGreat
open Go.RowKit
set_option linter.unusedSimpArgs false
set_option linter.unusedVariables false
def MRet (R : Mach) (er : Int) (w : World) (e : Ending) (w' : World) : Prop := ∃ fv bv iv ov, e = .returned (.tuple #[.agg #[fv, bv, iv, ov, .int .i64 R.status, .int .i64 R.trap], .int .i64 er]) ∧ MRes w' w.heap.size fv bv iv ov R ∧ Below w.heap.size w w'
theorem xgsZ (W : World) (B : Nat) : MRes W B (.slice none 0 0) (.slice none 0 0) (.slice none 0 0) (.slice none 0 0) zeroM := by
  refine MOwn.res (q := []) (qb := []) ⟨World.ownsRow_nil _ _ _ _, xiaZ W B, World.ownsRow_nil _ _ _ _, ?_⟩
  refine ⟨rfl, fun k x b h1 h2 => ?_, fun i j x y g h1 h2 g1 g2 => ?_, fun b hb => ?_⟩
  · match k with
    | 0 => simp at h1 h2; subst h1; subst h2; exact World.ownsRow_nil _ _ _ _
    | 1 => simp at h1 h2; subst h1; subst h2; exact World.ownsRow_nil _ _ _ _
    | k + 2 => simp at h1
  · match i with
    | 0 => simp at h1; subst h1; cases g1
    | 1 => simp at h1; subst h1; cases g1
    | i + 2 => simp at h1
  · simp [zeroM] at hb
    subst hb
    simp
theorem xjxZ {W : World} {B : Nat} {fv bv iv ov : Value} {M : Mach} (h : MRes W B fv bv iv ov M) : (∃ p n c, fv = .slice p n c) ∧ (∃ p n c, bv = .slice p n c) ∧ (∃ p n c, iv = .slice p n c) ∧ ∃ p n c, ov = .slice p n c := by
  obtain ⟨q, qb, k, iw, I, h1, h2, h3⟩ := h
  obtain ⟨a, b, e1⟩ := xaiZ h1.fr
  obtain ⟨c, d, e2⟩ := xaiZ h1.bl
  obtain ⟨x, y, e3⟩ := xaiZ h1.out
  refine ⟨⟨_, _, _, e1⟩, ⟨_, _, _, e2⟩, ?_, ⟨_, _, _, e3⟩⟩
  rcases h3 with ⟨_, h4⟩ | ⟨g, n, cap, j, c, _, h4, _⟩
  · obtain ⟨p, c, e4⟩ := xaiZ h1.inp
    exact ⟨_, _, _, h4.trans e4⟩
  · exact ⟨_, _, _, h4⟩
theorem xkuZ {w w3 : World} {R : Nat} {fv bv iv ov : Value} {M : Mach} {cs : Array Value} {fz : Nat × Nat} (h : MRes w3 w.heap.size fv bv iv ov M) (hb : Below w.heap.size w w3) (hr : w3.heap[R]? = some (.cells cs 48 fz)) (hR : w.heap.size ≤ R) : MRes ((((((w3.setCell ⟨R, 0, none⟩ fv).setCell ⟨R, 1, none⟩ bv).setCell ⟨R, 2, none⟩ iv).setCell ⟨R, 3, none⟩ ov).setCell ⟨R, 4, none⟩ (.int .i64 M.status)).setCell ⟨R, 5, none⟩ (.int .i64 M.trap)) w.heap.size fv bv iv ov M ∧ Below w.heap.size w ((((((w3.setCell ⟨R, 0, none⟩ fv).setCell ⟨R, 1, none⟩ bv).setCell ⟨R, 2, none⟩ iv).setCell ⟨R, 3, none⟩ ov).setCell ⟨R, 4, none⟩ (.int .i64 M.status)).setCell ⟨R, 5, none⟩ (.int .i64 M.trap)) := by
  have hg6 := xb2Z w3 R fv bv iv ov (.int .i64 M.status) (.int .i64 M.trap)
  exact ⟨h.keep hg6 (xatZ hr) (by decide) (by decide) (by decide) (by decide), hb.grown hg6 hb.size (fun k hk => by cases hk; exact hR)⟩
theorem right_pc {p : List Fn} {e : Nat → Nat → Option (List Int)} {m : Mach} (hp : xanZ p = 0) (he : xaxZ p e) (h : RightM p e m) : PcOk m := fun x hx => by
  obtain ⟨i, hi⟩ := List.getElem?_of_mem hx
  obtain ⟨k, f, hr⟩ := h.each i x hi
  have hcl := (xgpZ hp he hr.at_).2
  cases hn : (m.frames[i + 1]?).map Frm.fn with
  | none =>
    rw [hn] at hr
    obtain ⟨pc, s, o, out, h1, h2, h3, h4, _⟩ := xfaZ he hr
    have := xadZ h4
    omega
  | some g =>
    rw [hn] at hr
    obtain ⟨pc, s0, s, hh, h3, h4, h5, h6, h7, h8, h9⟩ := hr.outer g rfl
    have := xadZ h6
    omega
end Go.Proofs.YtmjjkenblfndgaaGreat


/- world.Mail. -/
namespace Go.Proofs.YtmjjkenblfndgaaGreat
open Go.RowKit
set_option linter.unusedSimpArgs false
set_option linter.unusedVariables false
def WOut (L : List Mach) (n : Nat) (w : World) (u : Value) (w' : World) : Prop := ∃ ms rs, w'.ownsRow w.heap.size 48 6 u ms.length (mvCells ms) ∧ WRes w' w.heap.size ms rs L ∧ (∀ (k : Nat) (r : MR), rs[k]? = some r → r.I.length ≤ n) ∧ Below w.heap.size w w'
theorem xdqZ {w w' : World} (hb : Below w.heap.size w w') (n : Nat) : WOut [] n w (.slice none 0 0) w' := ⟨[], [], ⟨rfl, .inl ⟨rfl, rfl⟩⟩, xj5Z _ _, fun k r h => by simp at h, hb⟩
theorem WOut.shp {L : List Mach} {n : Nat} {w : World} {u : Value} {w' : World} (h : WOut L n w u w') : ∃ p c, u = .slice p L.length c := by
  obtain ⟨ms, rs, h1, h2, -⟩ := h
  obtain ⟨p, c, h3⟩ := xaiZ h1
  exact ⟨p, c, by rw [h3, h2.lenM]⟩
theorem WOut.at_ {L : List Mach} {n : Nat} {w : World} {u : Value} {w' : World} (h : WOut L n w u w') : MachsAt w' u L := by
  obtain ⟨ms, rs, h1, h2, -⟩ := h
  exact h2.at_ h1
theorem WOut.bel {L : List Mach} {n : Nat} {w : World} {u : Value} {w' : World} (h : WOut L n w u w') : Below w.heap.size w w' := by
  obtain ⟨ms, rs, h1, h2, h3, h4⟩ := h
  exact h4
theorem WOut.keep {L : List Mach} {n : Nat} {w0 w : World} {u : Value} {w' w'' : World} (hb : Below w0.heap.size w0 w) (h : WOut L n w u w') (hb' : Below w'.heap.size w' w'') : WOut L n w0 u w'' := by
  obtain ⟨ms, rs, h1, h2, h3, h4⟩ := h
  exact ⟨ms, rs, xapZ (xaoZ h1 fun k hk => hb'.block k (h1.lt k hk).2) hb.size, (h2.below hb').low hb.size, h3, (hb.trans (h4.mono hb.size)).trans (hb'.mono (hb.trans (h4.mono hb.size)).size)⟩
noncomputable def mailL (p : List Fn) (L : List Mach) : List Mach := if xa3Z p L = 0 then mailW L else []
noncomputable def mailN (p : List Fn) (L : List Mach) : Nat := if xa3Z p L = 0 then wentW L else 0
theorem xfkZ {p : List Fn} {L : List Mach} (h : xa3Z p L = 0) : L ≠ [] ∧ L.length ≤ 4 ∧ xanZ p = 0 ∧ xaxZ p (entP p) ∧ ∀ M ∈ L, RightM p (entP p) M := by
  obtain ⟨h1, h2, h3, h4⟩ := xjjZ.1 h
  obtain ⟨h5, h6⟩ := xdkZ.1 h1
  exact ⟨h2, h3, h5, h6, fun M hM => (xfiZ.1 (h4 M hM)).2.2⟩
theorem xlbZ {p : List Fn} {L : List Mach} (h1 : L ≠ []) (h2 : L.length ≤ 4) (h3 : xanZ p = 0) (h4 : xaxZ p (entP p)) (h5 : ∀ M ∈ L, RightM p (entP p) M) : xa3Z p L = 0 :=
  xjjZ.2 ⟨xdkZ.2 ⟨h3, h4⟩, h1, h2, fun M hM => xfiZ.2 ⟨h3, h4, h5 M hM⟩⟩
theorem xiuZ {w W0 w5 : World} {cb went n m z : Nat} {u : Value} {ms : List MV} {rs : List MR} {L : List Mach} (hC : Carr W0 w5 cb u ms rs L went) (hI : ∀ (i : Nat) (r : MR), rs[i]? = some r → r.I.length ≤ n) (hb : Below w.heap.size w W0) (hz : w.heap.size ≤ z) {cs : Array Value} (hzc : w5.heap[z]? = some (.cells cs 27 (0, 0))) (v : Value) (hn : n ≤ m) : WOut L m w u (w5.setCell ⟨z, 0, none⟩ v) := by
  have hg := xakZ w5 ⟨z, 0, none⟩ v
  have ht : TyRow w5 (some z) 27 := xatZ hzc
  exact ⟨ms, rs, xasZ (xapZ hC.row hb.size) hg ht (by decide), (hC.res.low hb.size).keep hg ht (by decide) (by decide) (by decide) (by decide), fun k r h => Nat.le_trans (hI k r h) hn, (hb.trans (hC.bel.mono hb.size)).setCell (p := ⟨z, 0, none⟩) hz v⟩
theorem xfgZ {L : List Mach} {w2 w3 : World} {u : Value} (h : WNew L w2 u w3) (hs : w2.heap.size ≤ w3.heap.size) : xf7Z w2 (w3.alloc (.cells #[u, .int .i64 0] 73)) w3.heap.size L 0 1000 := by
  obtain ⟨ms, rs, h1, h2, h3, h4⟩ := h
  have hb : Below w3.heap.size w3 (w3.alloc (.cells #[u, .int .i64 0] 73)) := (Below.refl _ w3).alloc (Nat.le_refl _) _
  exact ⟨u, ms, rs, ⟨World.alloc_heap_new w3 _, xaoZ h1 fun k hk => hb.block k (h1.lt k hk).2, h2.below hb, h4.trans (hb.mono hs), hs⟩, h3⟩
theorem xirZ (L : List Mach) (p : List Fn) (pv wv : Value) (w : World) (hp : FnsAt w pv p) (hcp : CapAt w pv) (h : MachsAt w wv L) (hpc : ∀ M ∈ L, PcOk M) : Calls Tryz.prog 11 #[.agg #[pv], .agg #[wv]] w fun e w' => ∃ u, e = .returned (.tuple #[.agg #[u], .int .i64 (mailN p L), .int .i64 (xa3Z p L)]) ∧ WOut (mailL p L) 1040 w u w' := by
  obtain ⟨pp, qp, hpv, -⟩ := id hp
  subst hpv
  obtain ⟨pw, cw, hwv, hlw⟩ := h.shp
  subst hwv
  obtain ⟨W1, hW1⟩ : ∃ W1, ((w.alloc (.cells #[.slice pp p.length qp] 24)).alloc (.cells #[.slice pw L.length cw] 27)).alloc (.cells #[.slice none 0 0] 27) = W1 := ⟨_, rfl⟩
  have b1 : Below w.heap.size w W1 := by rw [← hW1]; exact (((Below.refl _ w).alloc (Nat.le_refl _) _).alloc (by simp) _).alloc (by simp; omega) _
  have u1 : W1.heap[w.heap.size]? = some (.cells #[.slice pp p.length qp] 24 (0, 0)) := by rw [← hW1]; exact xalZ (xalZ (World.alloc_heap_new w _) _) _
  have u2 : W1.heap[w.heap.size + 1]? = some (.cells #[.slice pw L.length cw] 27 (0, 0)) := by rw [← hW1]; exact xalZ (xa1Z _ _ _) _
  have u3 : W1.heap[w.heap.size + 1 + 1]? = some (.cells #[.slice none 0 0] 27 (0, 0)) := by
    have hs : (w.alloc (.cells #[.slice pp p.length qp] 24)).heap.size = w.heap.size + 1 := by simp
    rw [← hW1, ← hs]
    exact xa1Z _ _ _
  have sW1 : W1.heap.size = w.heap.size + 1 + 1 + 1 := by rw [← hW1]; simp
  have KC : Hid (∀ W, Below W1.heap.size W1 W → W.cell? ⟨w.heap.size, 0, none⟩ = some (.slice pp p.length qp) ∧ W.cell? ⟨w.heap.size + 1, 0, none⟩ = some (.slice pw L.length cw) ∧ W.heap[w.heap.size + 1 + 1]? = some (.cells #[.slice none 0 0] 27 (0, 0))) := fun W hW => ⟨xaaZ ((hW.block _ (xacZ u1)).trans u1) 0, xaaZ ((hW.block _ (xacZ u2)).trans u2) 0, (hW.block _ (xacZ u3)).trans u3⟩
  have HCK := hideP (xf3Z L p _ _ W1 (hp.below b1) (hcp.below hp b1) (h.below b1) hpc)
  have HM := hideP (h.below b1)
  have HB1 := hideP b1
  have HSW := hideP sW1
  obtain ⟨e0, e1, -⟩ := KC.out W1 (Below.refl _ _)
  clear hp hcp h u1 u2 u3 b1 hpc sW1
  by_cases h0 : xa3Z p L = 0
  rotate_left
  · have t0 : (xa3Z p L != 0) = true := by simpa using h0
    have e1' : mailL p L = [] := if_neg h0
    have e2' : mailN p L = 0 := if_neg h0
    rw [e1', e2']
    generalize xa3Z p L = er at *
    clear h0 e1' e2'
    go_enter Tryz.func11, Tryz.ntmps11
    go_wp2_with fail
    refine HCK.out.mono ?_
    rintro e w2 ⟨rfl, b2⟩
    obtain ⟨e0', e1', z2⟩ := KC.out w2 b2
    have y0 := Lib.frozen_of_heap z2 0
    have z0 := xaaZ z2 0
    simp at z0
    go_wp2
    refine bodyPost_ret (v := .tuple #[.agg #[.slice none 0 0], .int .i64 0, .int .i64 er]) (by simp [results, Tryz.results11, go_sem, z0, y0]) rfl ?_
    exact ⟨_, rfl, xdqZ ((xaeZ HB1.out b2).setCell (p := ⟨w.heap.size + 1 + 1, 0, none⟩) (by simp only; omega) _) _⟩
  have t0 : (xa3Z p L != 0) = false := by simpa using h0
  obtain ⟨r1, r2, r3, r4, r5⟩ := xfkZ h0
  have e1' : mailL p L = mailW L := if_pos h0
  have e2' : mailN p L = wentW L := if_pos h0
  rw [e1', e2', h0]
  rw [h0] at HCK
  have hsm : ∀ M ∈ L, SmallM M := fun M hM => (xc8Z r3 r4 (r5 M hM)).1
  have HFW := hideP (fun (W : World) (hW : Below W1.heap.size W1 W) => xg6Z L _ W (HM.out.below hW) r2 hsm)
  have HCA := hideP (fun (W0 W : World) (cb : Nat) (hC : xf7Z W0 W cb L 0 1000) => xlyZ W0 W cb L hC r2 (fun M hM => (r5 M hM).out.1) (fun M hM => (r5 M hM).inp.1) (fun M hM => (r5 M hM).status))
  clear h0 e1' e2' r1 r3 r4 r5 hsm t0
  go_enter Tryz.func11, Tryz.ntmps11
  go_wp2_with fail
  refine HCK.out.mono ?_
  rintro e w2 ⟨rfl, b2⟩
  obtain ⟨e0', e1', z2⟩ := KC.out w2 b2
  have HB2 := hideP b2
  clear z2 b2
  go_wp2_with fail
  refine (HFW.out w2 HB2.out).mono ?_
  rintro e w3 ⟨u, rfl, hnew⟩
  have hb3 : Below w2.heap.size w2 w3 := WOut.bel hnew
  obtain ⟨pu, cu, hu⟩ := WOut.shp hnew
  subst hu
  have HN := hideP hnew
  have HB3 := hideP hb3
  clear hnew hb3
  go_wp2_with fail
  refine (HCA.out w2 _ w3.heap.size (xfgZ HN.out HB3.out.size)).mono ?_
  rintro e w5 ⟨rfl, hcar⟩
  obtain ⟨u5, ms5, rs5, hC, hI⟩ := hcar
  obtain ⟨p5, c5, hu5⟩ := xaiZ hC.row
  rw [hC.res.lenM] at hu5
  subst hu5
  have b25 := hC.bel
  obtain ⟨-, -, z5⟩ := KC.out w5 (xaeZ HB2.out b25)
  have y0 := Lib.frozen_of_heap z5 0
  have z0 := xaaZ z5 0
  have k0 := xaaZ hC.cell 0
  have k1 := xaaZ hC.cell 1
  simp at z0 k0 k1
  have hne : ¬ w3.heap.size = w.heap.size + 1 + 1 := by
    have h1 := HB3.out.size
    have h2 := HB2.out.size
    have h3 := HSW.out
    omega
  have HC := hideP hC
  have HI5 := hideP hI
  have HB5 := hideP b25
  clear hC hI b25 z5
  go_wp2
  go_region
  all_goals go_wp2
  refine bodyPost_ret (v := .tuple #[.agg #[.slice p5 (mailW L).length c5], .int .i64 (wentW L), .int .i64 0]) (by simp [results, Tryz.results11, go_sem, z0, y0]) rfl ?_
  obtain ⟨-, -, z5⟩ := KC.out w5 (xaeZ HB2.out HB5.out)
  exact ⟨_, rfl, (xiuZ (m := 1040) HC.out HI5.out (xaeZ HB1.out HB2.out) (by omega) z5 _ (by omega)).keep (Below.refl _ w) ((Below.refl _ _).drew)⟩
end Go.Proofs.YtmjjkenblfndgaaGreat


