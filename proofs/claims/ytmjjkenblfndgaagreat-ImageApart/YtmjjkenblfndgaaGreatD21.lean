/- My texts Mw Mx Nk Nm Nq: what of them is needed, joined. -/

import Derived.Test.YtmjjkenblfndgaaGreatD5
import Derived.Test.YtmjjkenblfndgaaGreatD9
import Derived.Test.YtmjjkenblfndgaaGreatD12
import Derived.Test.YtmjjkenblfndgaaGreatD14
import Derived.Test.YtmjjkenblfndgaaGreatD16
import Derived.Test.YtmjjkenblfndgaaGreatD17
import Derived.Test.YtmjjkenblfndgaaGreatD18
import Derived.Test.YtmjjkenblfndgaaGreatD19
import Derived.Test.YtmjjkenblfndgaaGreatD20
set_option maxRecDepth 100000
set_option maxHeartbeats 8000000
/- stride's do at a right machine: it does as the plain op says, or panics with the reason. -/
namespace Go.Proofs.YtmjjkenblfndgaaGreat
open Go.RowKit
set_option linter.unusedSimpArgs false
set_option linter.unusedVariables false
def DoRet (p : List Fn) (M R : Mach) : Prop := ∀ (w0 W : World) (b : Nat) (pv : Value), FnsAt w0 pv p → Doer w0 W b pv M → Calls Tryz.prog 111 #[.pointer (some ⟨b, 0, none⟩)] W fun e w' => e = .returned (.tuple #[]) ∧ Fin w0 w' b pv R
def xfcZ (p : List Fn) (M : Mach) (why : Int) : Prop := ∀ (w0 W : World) (b : Nat) (pv : Value), FnsAt w0 pv p → Doer w0 W b pv M → Calls Tryz.prog 111 #[.pointer (some ⟨b, 0, none⟩)] W fun e w' => e = .panicked [{ v := .iface 159 (.int .i64 why), recovered := false }] ∧ Below w0.heap.size w0 w'
structure AtDo (p : List Fn) (M : Mach) (D : List Frm) (x : Frm) (k pc : Nat) (f : Fn) (c A : Int) : Prop where
  fr : M.frames = D ++ [x]
  dl : D.length ≤ 100
  at_ : p[k]? = some f
  fn : x.fn = (k : Int)
  pcn : x.pc = (pc : Int)
  len : f.2.2.2.length ≤ 1000
  op : f.2.2.2[pc]? = some (c, A)
  stk : x.stk.length ≤ 8
section
variable {p : List Fn} {M : Mach} {D : List Frm} {x : Frm} {k pc : Nat} {f : Fn} {A : Int}
theorem xbtZ {w0 W : World} {b : Nat} {pv : Value} {F : Nat} {args : Array Value} {R : Mach} (h : Calls Tryz.prog F args W fun e w' => e = .returned (.tuple #[]) ∧ Doer w0 w' b pv R) : Calls Tryz.prog F args W fun e w' => e = .returned (.tuple #[]) ∧ Fin w0 w' b pv R := h.mono fun e w' hh => ⟨hh.1, hh.2.fin⟩
theorem dr1 (h : AtDo p M D x k pc f 1 A) : DoRet p M { M with frames := D ++ [{ x with pc := (pc : Int) + 1, stk := x.stk ++ [(false, A)] }] } := fun w0 W b pv hp hd =>
  do1 w0 b pv M D x p k pc f A W hd h.fr h.dl hp h.at_ h.fn h.pcn h.len h.op _ fun W' hd' => xbtZ (mv1 w0 b pv _ D _ A W' hd' rfl h.dl (by have := h.stk; simp; omega))
theorem dr18 (h : AtDo p M D x k pc f 18 A) : DoRet p M { M with frames := D ++ [{ x with pc := (pc : Int) + 1, stk := x.stk ++ [(true, 0)] }] } := fun w0 W b pv hp hd =>
  do18 w0 b pv M D x p k pc f A W hd h.fr h.dl hp h.at_ h.fn h.pcn h.len h.op _ fun W' hd' => xbtZ (mv18 w0 b pv _ D _ A W' hd' rfl h.dl (by have := h.stk; simp; omega))
theorem dr2 (h : AtDo p M D x k pc f 2 A) {r : List Val} {v : Val} (hs : x.stk = r ++ [v]) : DoRet p M { M with frames := D ++ [{ x with pc := (pc : Int) + 1, stk := r }] } := fun w0 W b pv hp hd =>
  do2 w0 b pv M D x p k pc f A W hd h.fr h.dl hp h.at_ h.fn h.pcn h.len h.op _ fun W' hd' => xbtZ (mv2 w0 b pv _ D _ r v A W' hd' rfl h.dl (by have := h.stk; simp; omega) hs)
theorem dr3 (h : AtDo p M D x k pc f 3 A) {r : List Val} {v : Val} (hs : x.stk = r ++ [v]) : DoRet p M { M with frames := D ++ [{ x with pc := (pc : Int) + 1, stk := r ++ [v, v] }] } := fun w0 W b pv hp hd =>
  do3 w0 b pv M D x p k pc f A W hd h.fr h.dl hp h.at_ h.fn h.pcn h.len h.op _ fun W' hd' => xbtZ (mv3 w0 b pv _ D _ r v A W' hd' rfl h.dl (by have := h.stk; simp; omega) hs)
theorem dr4 (h : AtDo p M D x k pc f 4 A) {r : List Val} {a v : Val} (hs : x.stk = r ++ [a, v]) : DoRet p M { M with frames := D ++ [{ x with pc := (pc : Int) + 1, stk := r ++ [v, a] }] } := fun w0 W b pv hp hd =>
  do4 w0 b pv M D x p k pc f A W hd h.fr h.dl hp h.at_ h.fn h.pcn h.len h.op _ fun W' hd' => xbtZ (mv4 w0 b pv _ D _ r a v A W' hd' rfl h.dl (by have := h.stk; simp; omega) hs)
theorem dr5 (h : AtDo p M D x k pc f 5 A) {r : List Val} {a v : Val} (hs : x.stk = r ++ [a, v]) : DoRet p M { M with frames := D ++ [{ x with pc := (pc : Int) + 1, stk := r ++ [(false, wrap32 (a.2 + v.2))] }] } := fun w0 W b pv hp hd =>
  do5 w0 b pv M D x p k pc f A W hd h.fr h.dl hp h.at_ h.fn h.pcn h.len h.op _ fun W' hd' => xbtZ (rk5 w0 b pv _ D _ r a v W' hd' rfl h.dl (by have := h.stk; simp; omega) hs)
theorem dr6 (h : AtDo p M D x k pc f 6 A) {r : List Val} {a v : Val} (hs : x.stk = r ++ [a, v]) : DoRet p M { M with frames := D ++ [{ x with pc := (pc : Int) + 1, stk := r ++ [(false, wrap32 (a.2 - v.2))] }] } := fun w0 W b pv hp hd =>
  do6 w0 b pv M D x p k pc f A W hd h.fr h.dl hp h.at_ h.fn h.pcn h.len h.op _ fun W' hd' => xbtZ (rk6 w0 b pv _ D _ r a v W' hd' rfl h.dl (by have := h.stk; simp; omega) hs)
theorem dr7 (h : AtDo p M D x k pc f 7 A) {r : List Val} {a v : Val} (hs : x.stk = r ++ [a, v]) : DoRet p M { M with frames := D ++ [{ x with pc := (pc : Int) + 1, stk := r ++ [(false, wrap32 (a.2 * v.2))] }] } := fun w0 W b pv hp hd =>
  do7 w0 b pv M D x p k pc f A W hd h.fr h.dl hp h.at_ h.fn h.pcn h.len h.op _ fun W' hd' => xbtZ (rk7 w0 b pv _ D _ r a v W' hd' rfl h.dl (by have := h.stk; simp; omega) hs)
theorem dr8 {j : Nat} (h : AtDo p M D x k pc f 8 (j : Int)) {v : Val} (hv : x.loc[j]? = some v) : DoRet p M { M with frames := D ++ [{ x with pc := (pc : Int) + 1, stk := x.stk ++ [v] }] } := fun w0 W b pv hp hd =>
  do8 w0 b pv M D x p k pc f (j : Int) W hd h.fr h.dl hp h.at_ h.fn h.pcn h.len h.op _ fun W' hd' => xbtZ (mv8 w0 b pv _ D _ j v W' hd' rfl h.dl (by have := h.stk; simp; omega) hv)
theorem dr9 {j : Nat} (h : AtDo p M D x k pc f 9 (j : Int)) {u v : Val} {r : List Val} (hv : x.loc[j]? = some u) (hs : x.stk = r ++ [v]) : DoRet p M { M with frames := D ++ [{ x with pc := (pc : Int) + 1, loc := x.loc.set j v, stk := r }] } := fun w0 W b pv hp hd =>
  do9 w0 b pv M D x p k pc f (j : Int) W hd h.fr h.dl hp h.at_ h.fn h.pcn h.len h.op _ fun W' hd' => xbtZ (mv9 w0 b pv _ D _ j u v r W' hd' rfl h.dl (by have := h.stk; simp; omega) hv hs)
theorem dr10 (h : AtDo p M D x k pc f 10 A) : DoRet p M { M with frames := D ++ [{ x with pc := A }] } := fun w0 W b pv hp hd =>
  do10 w0 b pv M D x p k pc f A W hd h.fr h.dl hp h.at_ h.fn h.pcn h.len h.op _ fun W' hd' => xbtZ (go10 w0 b pv { M with frames := D ++ [{ x with pc := (pc : Int) + 1 }] } D { x with pc := (pc : Int) + 1 } A W' hd' rfl h.dl (by have := h.stk; simp; omega))
theorem dr11z (h : AtDo p M D x k pc f 11 A) {r : List Val} {v : Val} (hs : x.stk = r ++ [v]) (hz : v.2 = 0) : DoRet p M { M with frames := D ++ [{ x with pc := A, stk := r }] } := fun w0 W b pv hp hd =>
  do11 w0 b pv M D x p k pc f A W hd h.fr h.dl hp h.at_ h.fn h.pcn h.len h.op _ fun W' hd' => xbtZ (go11z w0 b pv { M with frames := D ++ [{ x with pc := (pc : Int) + 1 }] } D { x with pc := (pc : Int) + 1 } A r v W' hd' rfl h.dl (by have := h.stk; simp; omega) hs hz)
theorem dr11n (h : AtDo p M D x k pc f 11 A) {r : List Val} {v : Val} (hs : x.stk = r ++ [v]) (hz : v.2 ≠ 0) : DoRet p M { M with frames := D ++ [{ x with pc := (pc : Int) + 1, stk := r }] } := fun w0 W b pv hp hd =>
  do11 w0 b pv M D x p k pc f A W hd h.fr h.dl hp h.at_ h.fn h.pcn h.len h.op _ fun W' hd' => xbtZ (go11n w0 b pv _ D _ A r v W' hd' rfl h.dl (by have := h.stk; simp; omega) hs hz)
theorem dr12 {j n : Nat} (h : AtDo p M D x k pc f 12 (j : Int)) {g : Fn} {s args : List Val} (h6 : M.frames.length ≠ 6) (hs : x.stk = s ++ args) (hg : p[j]? = some g) (hP : g.1 = (n : Int)) (hal : args.length = n) (hn : n ≤ g.2.1.length) (hL : g.2.1.length ≤ 90) : DoRet p M { M with frames := D ++ [{ x with pc := (pc : Int) + 1, stk := s }, { fn := (j : Int), pc := 0, loc := args ++ (xbdZ g.2.1).drop n, stk := [] }] } := fun w0 W b pv hp hd =>
  do12 w0 b pv M D x p k pc f (j : Int) W hd h.fr h.dl hp h.at_ h.fn h.pcn h.len h.op _ fun W' hd' => go12 w0 b pv _ (j : Int) W' hd' _ fun W'' hd'' =>
    xbtZ (call_ok w0 b pv _ D _ p j n g s args W'' hd'' rfl h.dl (by have := h.fr; rw [this] at h6; simpa using h6) hs (by have := h.stk; simp; omega) hp hg hP hal hn hL)
theorem dr12t (h : AtDo p M D x k pc f 12 A) (h6 : M.frames.length = 6) : xfcZ p M 4 := fun w0 W b pv hp hd =>
  do12p w0 b pv M D x p k pc f A W hd h.fr h.dl hp h.at_ h.fn h.pcn h.len h.op 4 _ fun W' hd' => go12p w0 b pv _ A 4 W' hd' _ fun W'' hd'' => call_trap w0 b pv _ W'' hd'' A (by have := h.fr; rw [this] at h6; simpa using h6)
theorem dr13d (h : AtDo p M D x k pc f 13 A) (h0 : D.length = 0) : DoRet p M { M with frames := [], status := 2 } := fun w0 W b pv hp hd =>
  do13 w0 b pv M D x p k pc f A W hd h.fr h.dl hp h.at_ h.fn h.pcn h.len h.op _ fun W' hd' => go13 w0 b pv _ A W' hd' _ fun W'' hd'' => xbtZ (ret_done w0 b pv { M with frames := D ++ [{ x with pc := (pc : Int) + 1 }] } D { x with pc := (pc : Int) + 1 } W'' hd'' rfl h.dl (by have := h.stk; simp; omega) h0)
theorem dr13 (h : AtDo p M D x k pc f 13 A) {D' : List Frm} {y : Frm} (h0 : D = D' ++ [y]) (hy : y.stk.length ≤ 90) : DoRet p M { M with frames := D' ++ [{ y with stk := y.stk ++ x.stk }] } := fun w0 W b pv hp hd =>
  do13 w0 b pv M D x p k pc f A W hd h.fr h.dl hp h.at_ h.fn h.pcn h.len h.op _ fun W' hd' => go13 w0 b pv _ A W' hd' _ fun W'' hd'' => xbtZ (ret_on w0 b pv { M with frames := D ++ [{ x with pc := (pc : Int) + 1 }] } D { x with pc := (pc : Int) + 1 } D' y W'' hd'' rfl h.dl (by have := h.stk; simp; omega) h0 hy)
theorem dr14 (h : AtDo p M D x k pc f 14 A) {r : List Val} {v : Val} (hs : x.stk = r ++ [v]) (hv : isI32 v.2 = true) (he : xbwZ M.blocks v.2 = 0) : DoRet p M { M with frames := D ++ [{ x with pc := (pc : Int) + 1, stk := r ++ [(true, (M.blocks.length : Int) + 1)] }], blocks := newL M.blocks v.2 } := fun w0 W b pv hp hd => by
  have e1 : newR M.blocks v.2 = newL M.blocks v.2 := by simp [newR, he]
  have e2 : xhyZ M.blocks v.2 = (M.blocks.length : Int) + 1 := by simp [xhyZ, he]
  rw [← e1, ← e2]
  have hi : -9223372036854775808 ≤ v.2 ∧ v.2 ≤ 9223372036854775807 := by simp [isI32] at hv; omega
  exact do14 w0 b pv M D x p k pc f A W hd h.fr h.dl hp h.at_ h.fn h.pcn h.len h.op _ fun W' hd' => ub14 w0 b pv _ W' hd' _ fun W'' hd'' => xbtZ (nb_ok w0 b pv _ D _ r v W'' hd'' rfl h.dl (by have := h.stk; simp; omega) hs hi he)
theorem dr14t (h : AtDo p M D x k pc f 14 A) {r : List Val} {v : Val} (hs : x.stk = r ++ [v]) (hv : isI32 v.2 = true) (he : xbwZ M.blocks v.2 ≠ 0) : xfcZ p M 3 := fun w0 W b pv hp hd => by
  have hi : -9223372036854775808 ≤ v.2 ∧ v.2 ≤ 9223372036854775807 := by simp [isI32] at hv; omega
  exact do14p w0 b pv M D x p k pc f A W hd h.fr h.dl hp h.at_ h.fn h.pcn h.len h.op 3 _ fun W' hd' => ub14p w0 b pv _ 3 W' hd' _ fun W'' hd'' => nb_trap w0 b pv _ D _ r v W'' hd'' rfl h.dl (by have := h.stk; simp; omega) hs hi he
theorem dr15 (h : AtDo p M D x k pc f 15 A) {r : List Val} {a v : Val} (hs : x.stk = r ++ [a, v]) (ha : -9223372036854775808 ≤ a.2 ∧ a.2 ≤ 9223372036854775807) (he : xa2Z M.blocks a.2 v.2 = 0) : DoRet p M { M with frames := D ++ [{ x with pc := (pc : Int) + 1, stk := r ++ [(false, getL M.blocks a.2 v.2)] }] } := fun w0 W b pv hp hd => by
  have e1 : getR M.blocks a.2 v.2 = getL M.blocks a.2 v.2 := by simp [getR, he]
  rw [← e1]
  exact do15 w0 b pv M D x p k pc f A W hd h.fr h.dl hp h.at_ h.fn h.pcn h.len h.op _ fun W' hd' => xbtZ (ub15o w0 b pv _ D _ r a v W' hd' rfl h.dl (by have := h.stk; simp; omega) hs ha he)
theorem dr15n (h : AtDo p M D x k pc f 15 A) {r : List Val} {a v : Val} (hs : x.stk = r ++ [a, v]) (ha : -9223372036854775808 ≤ a.2 ∧ a.2 ≤ 9223372036854775807) (he : xa2Z M.blocks a.2 v.2 = 5) : xfcZ p M 1 := fun w0 W b pv hp hd =>
  do15p w0 b pv M D x p k pc f A W hd h.fr h.dl hp h.at_ h.fn h.pcn h.len h.op 1 _ fun W' hd' => ub15n w0 b pv _ D _ r a v W' hd' rfl h.dl (by have := h.stk; simp; omega) hs ha he
theorem dr15i (h : AtDo p M D x k pc f 15 A) {r : List Val} {a v : Val} (hs : x.stk = r ++ [a, v]) (ha : -9223372036854775808 ≤ a.2 ∧ a.2 ≤ 9223372036854775807) (he : xa2Z M.blocks a.2 v.2 ≠ 0 ∧ xa2Z M.blocks a.2 v.2 ≠ 5) : xfcZ p M 2 := fun w0 W b pv hp hd =>
  do15p w0 b pv M D x p k pc f A W hd h.fr h.dl hp h.at_ h.fn h.pcn h.len h.op 2 _ fun W' hd' => ub15i w0 b pv _ D _ r a v W' hd' rfl h.dl (by have := h.stk; simp; omega) hs ha he
theorem dr16 (h : AtDo p M D x k pc f 16 A) {r : List Val} {c a v : Val} (hs : x.stk = r ++ [c, a, v]) (ha : -9223372036854775808 ≤ c.2 ∧ c.2 ≤ 9223372036854775807) (he : xbuZ M.blocks c.2 a.2 v.2 = 0) : DoRet p M { M with frames := D ++ [{ x with pc := (pc : Int) + 1, stk := r }], blocks := setL M.blocks c.2 a.2 v.2 } := fun w0 W b pv hp hd => by
  have e1 : setR M.blocks c.2 a.2 v.2 = setL M.blocks c.2 a.2 v.2 := by simp [setR, he]
  rw [← e1]
  exact do16 w0 b pv M D x p k pc f A W hd h.fr h.dl hp h.at_ h.fn h.pcn h.len h.op _ fun W' hd' => xbtZ (ub16o w0 b pv _ D _ r c a v W' hd' rfl h.dl (by have := h.stk; simp; omega) hs ha he)
theorem dr16n (h : AtDo p M D x k pc f 16 A) {r : List Val} {c a v : Val} (hs : x.stk = r ++ [c, a, v]) (ha : -9223372036854775808 ≤ c.2 ∧ c.2 ≤ 9223372036854775807) (he : xbuZ M.blocks c.2 a.2 v.2 = 5) : xfcZ p M 1 := fun w0 W b pv hp hd =>
  do16p w0 b pv M D x p k pc f A W hd h.fr h.dl hp h.at_ h.fn h.pcn h.len h.op 1 _ fun W' hd' => ub16n w0 b pv _ D _ r c a v W' hd' rfl h.dl (by have := h.stk; simp; omega) hs ha he
theorem dr16i (h : AtDo p M D x k pc f 16 A) {r : List Val} {c a v : Val} (hs : x.stk = r ++ [c, a, v]) (ha : -9223372036854775808 ≤ c.2 ∧ c.2 ≤ 9223372036854775807) (he : xbuZ M.blocks c.2 a.2 v.2 ≠ 0 ∧ xbuZ M.blocks c.2 a.2 v.2 ≠ 5) : xfcZ p M 2 := fun w0 W b pv hp hd =>
  do16p w0 b pv M D x p k pc f A W hd h.fr h.dl hp h.at_ h.fn h.pcn h.len h.op 2 _ fun W' hd' => ub16i w0 b pv _ D _ r c a v W' hd' rfl h.dl (by have := h.stk; simp; omega) hs ha he
theorem dr17 (h : AtDo p M D x k pc f 17 A) {r : List Val} {v : Val} {j : Nat} {bb : List Int} (hs : x.stk = r ++ [v]) (hz : v.2 = (j : Int) + 1) (hj : M.blocks[j]? = some bb) (h8 : M.blocks.length ≤ 8) : DoRet p M { M with frames := D ++ [{ x with pc := (pc : Int) + 1, stk := r ++ [(false, (bb.length : Int))] }] } := fun w0 W b pv hp hd =>
  do17 w0 b pv M D x p k pc f A W hd h.fr h.dl hp h.at_ h.fn h.pcn h.len h.op _ fun W' hd' => xbtZ (ub17o w0 b pv _ D _ r v j bb W' hd' rfl h.dl (by have := h.stk; simp; omega) hs hz hj h8)
theorem dr17t (h : AtDo p M D x k pc f 17 A) {r : List Val} {v : Val} (hs : x.stk = r ++ [v]) (hz : v.2 = 0) : xfcZ p M 1 := fun w0 W b pv hp hd =>
  do17p w0 b pv M D x p k pc f A W hd h.fr h.dl hp h.at_ h.fn h.pcn h.len h.op 1 _ fun W' hd' => ub17t w0 b pv _ D _ r v W' hd' rfl h.dl (by have := h.stk; simp; omega) hs hz
theorem dr19 (h : AtDo p M D x k pc f 19 A) {r : List Val} {v : Val} (hs : x.stk = r ++ [v]) : DoRet p M { M with frames := D ++ [{ x with pc := (pc : Int) + 1, stk := r ++ [(false, if v.2 = 0 then 1 else 0)] }] } := fun w0 W b pv hp hd => by
  by_cases hz : v.2 = 0
  · rw [if_pos hz]
    exact do19 w0 b pv M D x p k pc f A W hd h.fr h.dl hp h.at_ h.fn h.pcn h.len h.op _ fun W' hd' => xbtZ (ub19z w0 b pv _ D _ r v W' hd' rfl h.dl (by have := h.stk; simp; omega) hs hz)
  · rw [if_neg hz]
    exact do19 w0 b pv M D x p k pc f A W hd h.fr h.dl hp h.at_ h.fn h.pcn h.len h.op _ fun W' hd' => xbtZ (ub19n w0 b pv _ D _ r v W' hd' rfl h.dl (by have := h.stk; simp; omega) hs hz)
theorem dr20 (h : AtDo p M D x k pc f 20 A) {r : List Val} {v : Val} (hs : x.stk = r ++ [v]) (ho : M.out.length < 10) : DoRet p M { M with frames := D ++ [{ x with pc := (pc : Int) + 1, stk := r }], out := M.out ++ [v.2] } := fun w0 W b pv hp hd =>
  do20 w0 b pv M D x p k pc f A W hd h.fr h.dl hp h.at_ h.fn h.pcn h.len h.op _ fun W' hd' => xbtZ (sd_ok w0 b pv _ D _ r v W' hd' rfl h.dl (by have := h.stk; simp; omega) hs ho)
theorem dr20t (h : AtDo p M D x k pc f 20 A) (ho : M.out.length = 10) : xfcZ p M 5 := fun w0 W b pv hp hd =>
  do20p w0 b pv M D x p k pc f A W hd h.fr h.dl hp h.at_ h.fn h.pcn h.len h.op 5 _ fun W' hd' => sd_trap w0 b pv _ D _ W' hd' rfl h.dl (by have := h.stk; simp; omega) ho
theorem dr21 (h : AtDo p M D x k pc f 21 A) {n : Int} {I : List Int} (hi : M.inp = n :: I) (hil : M.inp.length ≤ 100) : DoRet p M { M with frames := D ++ [{ x with pc := (pc : Int) + 1, stk := x.stk ++ [(false, n)] }], inp := I } := fun w0 W b pv hp hd =>
  do21 w0 b pv M D x p k pc f A W hd h.fr h.dl hp h.at_ h.fn h.pcn h.len h.op (by rw [hi]; simp) _ fun W' hd' => rc_any w0 b pv _ D _ n I W' hd' rfl h.dl (by have := h.stk; simp; omega) hi hil
theorem dr21w (h : AtDo p M D x k pc f 21 A) (hi : M.inp = []) : DoRet p M { M with status := 1 } := fun w0 W b pv hp hd =>
  xbtZ (do21w w0 b pv M D x p k pc f A W hd h.fr h.dl hp h.at_ h.fn h.pcn h.len h.op hi)
end
theorem xdxZ {l : List Val} (h : 1 ≤ l.length) : l = cutV l 1 ++ [topV l 0] := by
  rw [← drop_one h]; exact (List.take_append_drop _ _).symm
theorem xfyZ {l : List Val} (h : 2 ≤ l.length) : l = cutV l 2 ++ [topV l 1, topV l 0] := by
  rw [← drop_two h]; exact (List.take_append_drop _ _).symm
theorem drop_three {l : List Val} (h : 3 ≤ l.length) : l.drop (l.length - 3) = [topV l 2, topV l 1, topV l 0] := by
  apply List.ext_getElem?
  intro i
  rw [List.getElem?_drop]
  match i with
  | 0 =>
    unfold topV
    simp [List.getD_eq_getElem?_getD, List.getElem?_eq_getElem (show l.length - 3 < l.length by omega), List.getElem?_eq_getElem (show l.length - 1 - 2 < l.length by omega), show l.length - 1 - 2 = l.length - 3 by omega]
  | 1 =>
    unfold topV
    simp [List.getD_eq_getElem?_getD, List.getElem?_eq_getElem (show l.length - 1 - 1 < l.length by omega), show l.length - 3 + 1 = l.length - 1 - 1 by omega]
  | 2 =>
    unfold topV
    simp [List.getD_eq_getElem?_getD, List.getElem?_eq_getElem (show l.length - 1 < l.length by omega), show l.length - 3 + 2 = l.length - 1 by omega]
  | i + 3 => rw [List.getElem?_eq_none (by omega)]; simp
theorem xjgZ {l : List Val} (h : 3 ≤ l.length) : l = cutV l 3 ++ [topV l 2, topV l 1, topV l 0] := by
  rw [← drop_three h]; exact (List.take_append_drop _ _).symm
end Go.Proofs.YtmjjkenblfndgaaGreat


/- stride.Do at a right machine: what the plain step says. -/
namespace Go.Proofs.YtmjjkenblfndgaaGreat
open Go.RowKit
set_option linter.unusedSimpArgs false
set_option linter.unusedVariables false
theorem xmdZ {p : List Fn} {e : Nat → Nat → Option (List Int)} (he : xa1Z p e) {k : Nat} {f : Fn} (hf : p[k]? = some f) {pc : Nat} {s : List Int} (hs : e k pc = some s) : s.length ≤ 8 :=
  xk0Z (he k f hf).1 ((xk7Z (he k f hf) pc).1 ⟨s, hs⟩) hs
theorem okFn_at {p : List Fn} (hp : xanZ p = 0) {f : Fn} (hf : f ∈ p) {o : Int × Int} (ho : o ∈ f.2.2.2) : OkOp p f o ∧ f.2.2.2.length ≤ 40 ∧ isI32 o.2 = true ∧ ∀ o ∈ f.2.2.2, badTo f.2.2.2.length o = false := by
  have hfn := okFn hp hf
  obtain ⟨hce, _, hbad⟩ := xblZ hfn.flow
  obtain ⟨c1, c2⟩ := xehZ _ hce
  have hchk := xj9Z (c2 o ho)
  exact ⟨hfn.ops o ho, c1, by simp [isI32]; omega, hbad⟩
theorem xmuZ {p : List Fn} {e : Nat → Nat → Option (List Int)} {nb k : Nat} {f : Fn} {x : Frm} {next : Option Int} (he : xa1Z p e) (h : RightF p e nb next x k f) : (∃ o, o ∈ f.2.2.2) ∧ x.stk.length ≤ 8 := by
  cases next with
  | none =>
    obtain ⟨pc, s, o, out, h1, h2, h3, h4, _⟩ := xfsZ he h
    exact ⟨⟨o, List.mem_of_getElem? h4⟩, by rw [xbaZ h3]; exact xmdZ he h.at_ h2⟩
  | some g =>
    obtain ⟨pc, s0, s, hh, h3, h4, h5, h6, h7, h8, h9⟩ := h.outer g rfl
    refine ⟨⟨_, List.mem_of_getElem? h6⟩, ?_⟩
    rw [xbaZ h9]
    have := xmdZ he h.at_ h7
    split
    · rw [List.length_dropLast]; omega
    · exact this
theorem xclZ {p : List Fn} {e : Nat → Nat → Option (List Int)} {m : Mach} (hp : xanZ p = 0) (he : xa1Z p e) (h : RightM p e m) : SmallM m ∧ ∀ x ∈ m.frames, x.stk.length ≤ 8 := by
  obtain ⟨b1, b2, b3⟩ := xb9Z h.blocks
  have key : ∀ x ∈ m.frames, x.loc.length ≤ 6 ∧ x.stk.length ≤ 8 := fun x hx => by
    obtain ⟨i, hi⟩ := List.getElem?_of_mem hx
    obtain ⟨k, f, hr⟩ := h.each i x hi
    obtain ⟨⟨o, ho⟩, hs⟩ := xmuZ he hr
    refine ⟨?_, hs⟩
    rw [xbaZ hr.loc]
    exact (okFn_at hp (List.mem_of_getElem? hr.at_) ho).1.own.1
  refine ⟨⟨h.depth.1, fun x hx => by have := key x hx; omega, b1, fun b hb => ?_, h.inp.1, h.out.1⟩, fun x hx => (key x hx).2⟩
  obtain ⟨i, hi⟩ := List.getElem?_of_mem hb
  have := xfeZ hi
  omega
theorem at_op {p : List Fn} {e : Nat → Nat → Option (List Int)} {m : Mach} (hp : xanZ p = 0) (he : xa1Z p e) (h : RightM p e m) (hs : m.status = 0 ∨ m.status = 1) {x : Frm} {k : Nat} {f : Fn} {o : Int × Int} (hx : m.frames.getLast? = some x) (hk : x.fn = (k : Int)) (hf : p[k]? = some f) (ho : f.2.2.2[x.pc.toNat]? = some o) :
    ∃ pc : Nat, AtDo p m m.frames.dropLast x k pc f o.1 o.2 ∧ OkOp p f o ∧ (∀ o ∈ f.2.2.2, badTo f.2.2.2.length o = false) ∧ ((o.1 = 21 ∧ m.inp = []) ∨ (¬ (o.1 = 21 ∧ m.inp = []) ∧ ∃ s out, AtOp p e m x k f pc s out o)) := by
  have hne : m.frames ≠ [] := fun hf => by have := h.depth.2.1 hf; omega
  have hsp := xckZ hx
  have hxi : m.frames[m.frames.length - 1]? = some x := by rw [← List.getLast?_eq_getElem?]; exact hx
  have hpos : 0 < m.frames.length := List.length_pos_iff.2 hne
  obtain ⟨k', f', hr⟩ := h.each _ x hxi
  rw [List.getElem?_eq_none (by omega), Option.map_none] at hr
  have e1 : k' = k := by have := hr.fn; omega
  subst e1
  have e2 : f' = f := by have := hr.at_; rw [hf] at this; exact (Option.some.inj this).symm
  subst e2
  obtain ⟨pc, s, o', out, h1, h2, h3, h4, h5, h6⟩ := xfsZ he hr
  have hpc : x.pc.toNat = pc := by rw [h1]; simp
  rw [hpc, h4] at ho
  cases ho
  have hmem := List.mem_of_getElem? hr.at_
  have hom := List.mem_of_getElem? h4
  obtain ⟨hok, h40, hi32, hbad⟩ := okFn_at hp hmem hom
  have h6l := h.depth.1
  have hdl : m.frames.dropLast.length ≤ 100 := by rw [List.length_dropLast]; omega
  refine ⟨pc, ⟨hsp, hdl, hf, hk, h1, by omega, h4, (xmuZ he hr).2⟩, hok, hbad, ?_⟩
  by_cases hw : o.1 = 21 ∧ m.inp = []
  · exact .inl hw
  · right
    have hst : m.status = 0 := by
      rcases hs with hs | hs
      · exact hs
      · obtain ⟨w1, x', k2, f2, o2, w2, w3, w4, w5, w6⟩ := h.wait hs
        rw [hx] at w2
        cases w2
        have : k' = k2 := by have := hr.fn; omega
        subst this
        rw [hr.at_] at w4
        cases w4
        rw [hpc, h4] at w5
        cases w5
        exact absurd ⟨w6, w1⟩ hw
    exact ⟨hw, s, out, h, hst, hx, hr, h1, h2, h3, h4, h5, h6, hi32⟩
def DoEnds (p : List Fn) (m R : Mach) : Prop := DoRet p m R ∨ ∃ why, R = trapM m why ∧ xfcZ p m why
theorem do_right {p : List Fn} {e : Nat → Nat → Option (List Int)} {m : Mach} (hp : xanZ p = 0) (he : xa1Z p e) (h : RightM p e m) (hs : m.status = 0 ∨ m.status = 1) {x : Frm} {k : Nat} {f : Fn} {o : Int × Int} (hx : m.frames.getLast? = some x) (hk : x.fn = (k : Int)) (hf : p[k]? = some f) (ho : f.2.2.2[x.pc.toNat]? = some o) : DoEnds p m (doOp p m x o) := by
  obtain ⟨pc, hA, hok, hbad, hc⟩ := at_op hp he h hs hx hk hf ho
  have hsm := xclZ hp he h
  rcases hc with hw | ⟨hw, s, out, hO⟩
  · have hd : doOp p m x o = { m with status := 1 } := by simp [doOp, hw]
    rw [hd]
    rw [hw.1] at hA
    exact .inl (dr21w hA hw.2)
  obtain ⟨c, A⟩ := o
  have hcode := hok.code
  have hpcx := hO.pcx
  simp only at hcode hA hw
  have hl := xbaZ hO.stk
  have hfr := hA.fr
  have : c = 1 ∨ c = 2 ∨ c = 3 ∨ c = 4 ∨ c = 5 ∨ c = 6 ∨ c = 7 ∨ c = 8 ∨ c = 9 ∨ c = 10 ∨ c = 11 ∨ c = 12 ∨ c = 13 ∨ c = 14 ∨ c = 15 ∨ c = 16 ∨ c = 17 ∨ c = 18 ∨ c = 19 ∨ c = 20 ∨ c = 21 := by omega
  rcases this with rfl | rfl | rfl | rfl | rfl | rfl | rfl | rfl | rfl | rfl | rfl | rfl | rfl | rfl | rfl | rfl | rfl | rfl | rfl | rfl | rfl
  · left
    simpa [doOp, onF, putF, hpcx] using dr1 hA
  · left
    have hn : ¬ s.length < 1 := fun hl => by have := hO.try_; simp [tryOp, xafZ, hl] at this
    simpa [doOp, onF, putF, hpcx] using dr2 hA (xdxZ (by omega))
  · left
    have hn : ¬ s.length < 1 := fun hl => by have := hO.try_; simp [tryOp, xafZ, hl] at this
    simpa [doOp, onF, putF, hpcx] using dr3 hA (xdxZ (by omega))
  · left
    have hn : ¬ s.length < 2 := fun hl => by have := hO.try_; simp [tryOp, xafZ, hl] at this
    simpa [doOp, onF, putF, hpcx] using dr4 hA (xfyZ (by omega))
  · left
    have hh := (xbiZ hO.stk hO.try_ (t := [1, 1]) (l := [1]) (by simp [xafZ, xasZ, xawZ])).1
    simpa [doOp, onF, putF, hpcx] using dr5 hA (xfyZ (by simpa using hh))
  · left
    have hh := (xbiZ hO.stk hO.try_ (t := [1, 1]) (l := [1]) (by simp [xafZ, xasZ, xawZ])).1
    simpa [doOp, onF, putF, hpcx] using dr6 hA (xfyZ (by simpa using hh))
  · left
    have hh := (xbiZ hO.stk hO.try_ (t := [1, 1]) (l := [1]) (by simp [xafZ, xasZ, xawZ])).1
    simpa [doOp, onF, putF, hpcx] using dr7 hA (xfyZ (by simpa using hh))
  · left
    have hloc := hok.loc (.inl rfl)
    simp only at hloc
    obtain ⟨j, rfl⟩ : ∃ j : Nat, A = (j : Int) := ⟨A.toNat, by omega⟩
    have hll := xbaZ hO.frame.loc
    obtain ⟨v, hv⟩ := xaiZ (l := x.loc) (k := j) (by omega)
    simpa [doOp, onF, putF, hpcx, List.getD_eq_getElem?_getD, hv] using dr8 hA hv
  · left
    have hloc := hok.loc (.inr rfl)
    simp only at hloc
    obtain ⟨j, rfl⟩ : ∃ j : Nat, A = (j : Int) := ⟨A.toNat, by omega⟩
    have hll := xbaZ hO.frame.loc
    obtain ⟨v, hv⟩ := xaiZ (l := x.loc) (k := j) (by omega)
    obtain ⟨t, ht⟩ := xaiZ (l := f.2.1) (k := j) (by omega)
    have hh := (xbiZ hO.stk hO.try_ (t := [t]) (l := []) (by simp [xafZ, xasZ, xawZ, List.getD_eq_getElem?_getD, ht])).1
    simpa [doOp, onF, putF, hpcx] using dr9 hA hv (xdxZ (by simpa using hh))
  · left
    simpa [doOp, onF, putF, hpcx] using dr10 hA
  · left
    have hh := (xbiZ hO.stk hO.try_ (t := [1]) (l := []) (by simp [xafZ, xasZ, xawZ])).1
    by_cases hz : (topV x.stk 0).2 = 0
    · simpa [doOp, onF, putF, hpcx, hz] using dr11z hA (xdxZ (by simpa using hh)) hz
    · simpa [doOp, onF, putF, hpcx, hz] using dr11n hA (xdxZ (by simpa using hh)) hz
  · by_cases h6 : m.frames.length = 6
    · exact .inr ⟨4, by simp [doOp, h6], dr12t hA h6⟩
    · left
      have hcall := hok.call rfl
      simp only at hcall
      obtain ⟨j, rfl⟩ : ∃ j : Nat, A = (j : Int) := ⟨A.toNat, by omega⟩
      obtain ⟨g, hg⟩ := xaiZ (l := p) (k := j) (by omega)
      have hgf := hok.fns g (List.mem_of_getElem? hg)
      obtain ⟨n, hn⟩ : ∃ n : Nat, g.1 = (n : Int) := ⟨g.1.toNat, by omega⟩
      have htl : xafZ p f (12, (j : Int)) s = some (g.2.1.take g.1.toNat, if 0 < g.2.2.1 then [g.2.2.1] else []) := by
        unfold xafZ
        rw [if_neg (by simp), if_neg (by simp), if_neg (by simp), if_pos rfl]
        simp only [Int.toNat_natCast, hg]
        rfl
      have hh := (xbiZ hO.stk hO.try_ htl).1
      have hn1 : g.1.toNat = n := by omega
      rw [hn1, List.length_take] at hh
      have hsp : x.stk = cutV x.stk n ++ x.stk.drop (x.stk.length - n) := (List.take_append_drop _ _).symm
      have := dr12 hA (g := g) (n := n) h6 hsp hg hn (by rw [List.length_drop]; omega) (by omega) (by omega)
      simpa [doOp, hpcx, h6, hg, hn1] using this
  · left
    cases hy : m.frames.dropLast.getLast? with
    | none =>
      have hd : m.frames.dropLast = [] := List.getLast?_eq_none_iff.1 hy
      simpa [doOp, hy] using dr13d hA (by rw [hd]; rfl)
    | some y =>
      have hy8 := hsm.2 y (List.dropLast_subset _ (List.mem_of_getLast? hy))
      simpa [doOp, hy] using dr13 hA (xckZ hy) (by omega)
  · have htl : xafZ p f (14, A) s = some ([1], [2]) := by simp [xafZ, xasZ, xawZ]
    have hh := (xbiZ hO.stk hO.try_ htl).1
    have hv := num_at hO htl 0 (by simp) rfl
    by_cases h0 : xbwZ m.blocks (topV x.stk 0).2 = 0
    · left
      simpa [doOp, onF, putF, hpcx, h0] using dr14 hA (xdxZ (by simpa using hh)) hv h0
    · exact .inr ⟨3, by simp [doOp, h0], dr14t hA (xdxZ (by simpa using hh)) hv h0⟩
  · have htl : xafZ p f (15, A) s = some ([2, 1], [1]) := by simp [xafZ, xasZ, xawZ]
    have hh := (xbiZ hO.stk hO.try_ htl).1
    have hr := ref_at hO htl 1 (by simp) rfl
    have hb := hsm.1.bl
    have hi : -9223372036854775808 ≤ (topV x.stk 1).2 ∧ (topV x.stk 1).2 ≤ 9223372036854775807 := by omega
    by_cases h5 : xa2Z m.blocks (topV x.stk 1).2 (topV x.stk 0).2 = 5
    · exact .inr ⟨1, by simp [doOp, h5], dr15n hA (xfyZ (by simpa using hh)) hi h5⟩
    · by_cases h0 : xa2Z m.blocks (topV x.stk 1).2 (topV x.stk 0).2 = 0
      · left
        simpa [doOp, onF, putF, hpcx, h0] using dr15 hA (xfyZ (by simpa using hh)) hi h0
      · exact .inr ⟨2, by simp [doOp, h5, h0], dr15i hA (xfyZ (by simpa using hh)) hi ⟨h0, h5⟩⟩
  · have htl : xafZ p f (16, A) s = some ([2, 1, 1], []) := by simp [xafZ, xasZ, xawZ]
    have hh := (xbiZ hO.stk hO.try_ htl).1
    have hr := ref_at hO htl 2 (by simp) rfl
    have hb := hsm.1.bl
    have hi : -9223372036854775808 ≤ (topV x.stk 2).2 ∧ (topV x.stk 2).2 ≤ 9223372036854775807 := by omega
    by_cases h5 : xbuZ m.blocks (topV x.stk 2).2 (topV x.stk 1).2 (topV x.stk 0).2 = 5
    · exact .inr ⟨1, by simp [doOp, h5], dr16n hA (xjgZ (by simpa using hh)) hi h5⟩
    · by_cases h0 : xbuZ m.blocks (topV x.stk 2).2 (topV x.stk 1).2 (topV x.stk 0).2 = 0
      · left
        simpa [doOp, onF, putF, hpcx, h0] using dr16 hA (xjgZ (by simpa using hh)) hi h0
      · exact .inr ⟨2, by simp [doOp, h5, h0], dr16i hA (xjgZ (by simpa using hh)) hi ⟨h0, h5⟩⟩
  · have htl : xafZ p f (17, A) s = some ([2], [1]) := by simp [xafZ, xasZ, xawZ]
    have hh := (xbiZ hO.stk hO.try_ htl).1
    have hr := ref_at hO htl 0 (by simp) rfl
    have hb := hsm.1.bl
    by_cases hz : (topV x.stk 0).2 = 0
    · exact .inr ⟨1, by simp [doOp, hz], dr17t hA (xdxZ (by simpa using hh)) hz⟩
    · left
      obtain ⟨bb, hbb⟩ := xaiZ (l := m.blocks) (k := ((topV x.stk 0).2 - 1).toNat) (by omega)
      have hz2 : (topV x.stk 0).2 = ((((topV x.stk 0).2 - 1).toNat : Nat) : Int) + 1 := by omega
      have hba := xd2Z hbb hz2
      have := dr17 hA (xdxZ (by simpa using hh)) hz2 hbb hb
      simpa [doOp, onF, putF, hpcx, hz, hba] using this
  · left
    simpa [doOp, onF, putF, hpcx] using dr18 hA
  · left
    have hh := (xbiZ hO.stk hO.try_ (t := [2]) (l := [1]) (by simp [xafZ, xasZ, xawZ])).1
    simpa [doOp, onF, putF, hpcx] using dr19 hA (xdxZ (by simpa using hh))
  · have htl : xafZ p f (20, A) s = some ([1], []) := by simp [xafZ, xasZ, xawZ]
    have hh := (xbiZ hO.stk hO.try_ htl).1
    by_cases h10 : m.out.length = 10
    · exact .inr ⟨5, by simp [doOp, h10], dr20t hA h10⟩
    · left
      have := h.out.1
      simpa [doOp, onF, putF, hpcx, h10] using dr20 hA (xdxZ (by simpa using hh)) (by omega)
  · left
    obtain ⟨n, I, hi⟩ : ∃ n I, m.inp = n :: I := by
      cases hm : m.inp with
      | nil => exact absurd ⟨rfl, hm⟩ hw
      | cons n I => exact ⟨n, I, rfl⟩
    have := h.inp.1
    simpa [doOp, onF, putF, hpcx, hi] using dr21 hA hi (by omega)
theorem xjhZ (p : List Fn) (e : Nat → Nat → Option (List Int)) (m : Mach) (pv fv bv iv ov : Value) (w : World) (hp : xanZ p = 0) (he : xa1Z p e) (h : RightM p e m) (hs : m.status = 0 ∨ m.status = 1) (hpv : FnsAt w pv p) (hM : MachAt w fv bv iv ov m) {x : Frm} {k : Nat} {f : Fn} {o : Int × Int} (hx : m.frames.getLast? = some x) (hk : x.fn = (k : Int)) (hf : p[k]? = some f) (ho : f.2.2.2[x.pc.toNat]? = some o) :
    Calls Tryz.prog 76 #[.agg #[pv], .agg #[fv, bv, iv, ov, .int .i64 m.status, .int .i64 m.trap]] w fun e w' => ∃ fv' bv' iv' ov', e = .returned (.agg #[fv', bv', iv', ov', .int .i64 (doOp p m x o).status, .int .i64 (doOp p m x o).trap]) ∧ MRes w' w.heap.size fv' bv' iv' ov' (doOp p m x o) ∧ Below w.heap.size w w' := by
  have hsm := (xclZ hp he h).1
  rcases do_right hp he h hs hx hk hf ho with hr | ⟨why, h1, h2⟩
  · exact xo9Z p pv m _ fv bv iv ov w hpv hM hsm (fun w0 W b hpa hd => hr w0 W b pv hpa hd)
  · rw [h1]
    exact xnlZ p pv m why fv bv iv ov w hpv hM hsm (fun w0 W b hpa hd => h2 w0 W b pv hpa hd)
end Go.Proofs.YtmjjkenblfndgaaGreat


/- machine.Step, machine.Start. -/
namespace Go.Proofs.YtmjjkenblfndgaaGreat
open Go.RowKit
set_option linter.unusedSimpArgs false
set_option linter.unusedVariables false
def MRet (R : Mach) (er : Int) (w : World) (e : Ending) (w' : World) : Prop := ∃ fv bv iv ov, e = .returned (.tuple #[.agg #[fv, bv, iv, ov, .int .i64 R.status, .int .i64 R.trap], .int .i64 er]) ∧ MRes w' w.heap.size fv bv iv ov R ∧ Below w.heap.size w w'
theorem xdzZ (W : World) (B : Nat) : MRes W B (.slice none 0 0) (.slice none 0 0) (.slice none 0 0) (.slice none 0 0) zeroM := by
  refine MOwn.res (q := []) (qb := []) ⟨World.ownsRow_nil _ _ _ _, xf6Z W B, World.ownsRow_nil _ _ _ _, ?_⟩
  refine ⟨rfl, fun k x b h1 h2 => ?_, fun i j x y g h1 h2 g1 g2 => ?_, fun b hb => ?_⟩
  · match k with
    | 0 => simp at h1 h2; subst h1; subst h2; exact World.ownsRow_nil _ _ _ _
    | 1 => simp at h1 h2; subst h1; subst h2; exact World.ownsRow_nil _ _ _ _
    | k + 2 => simp at h1
  · match i with
    | 0 => simp at h1; subst h1; cases g1
    | 1 => simp at h1; subst h1; cases g1
    | i + 2 => simp at h1
  · simp [zeroM] at hb
    subst hb
    simp
theorem xftZ {W : World} {B : Nat} {fv bv iv ov : Value} {M : Mach} (h : MRes W B fv bv iv ov M) : (∃ p n c, fv = .slice p n c) ∧ (∃ p n c, bv = .slice p n c) ∧ (∃ p n c, iv = .slice p n c) ∧ ∃ p n c, ov = .slice p n c := by
  obtain ⟨q, qb, k, iw, I, h1, h2, h3⟩ := h
  obtain ⟨a, b, e1⟩ := xagZ h1.fr
  obtain ⟨c, d, e2⟩ := xagZ h1.bl
  obtain ⟨x, y, e3⟩ := xagZ h1.out
  refine ⟨⟨_, _, _, e1⟩, ⟨_, _, _, e2⟩, ?_, ⟨_, _, _, e3⟩⟩
  rcases h3 with ⟨_, h4⟩ | ⟨g, n, cap, j, c, _, h4, _⟩
  · obtain ⟨p, c, e4⟩ := xagZ h1.inp
    exact ⟨_, _, _, h4.trans e4⟩
  · exact ⟨_, _, _, h4⟩
theorem xd7Z {w w3 : World} {R : Nat} {fv bv iv ov : Value} {M : Mach} {cs : Array Value} {fz : Nat × Nat} (h : MRes w3 w.heap.size fv bv iv ov M) (hb : Below w.heap.size w w3) (hr : w3.heap[R]? = some (.cells cs 48 fz)) (hR : w.heap.size ≤ R) : MRes ((((((w3.setCell ⟨R, 0, none⟩ fv).setCell ⟨R, 1, none⟩ bv).setCell ⟨R, 2, none⟩ iv).setCell ⟨R, 3, none⟩ ov).setCell ⟨R, 4, none⟩ (.int .i64 M.status)).setCell ⟨R, 5, none⟩ (.int .i64 M.trap)) w.heap.size fv bv iv ov M ∧ Below w.heap.size w ((((((w3.setCell ⟨R, 0, none⟩ fv).setCell ⟨R, 1, none⟩ bv).setCell ⟨R, 2, none⟩ iv).setCell ⟨R, 3, none⟩ ov).setCell ⟨R, 4, none⟩ (.int .i64 M.status)).setCell ⟨R, 5, none⟩ (.int .i64 M.trap)) := by
  have hg6 := xbfZ w3 R fv bv iv ov (.int .i64 M.status) (.int .i64 M.trap)
  exact ⟨h.keep hg6 (xa5Z hr) (by decide) (by decide) (by decide) (by decide), hb.grown hg6 hb.size (fun k hk => by cases hk; exact hR)⟩
theorem right_pc {p : List Fn} {e : Nat → Nat → Option (List Int)} {m : Mach} (hp : xanZ p = 0) (he : xa1Z p e) (h : RightM p e m) : PcOk m := fun x hx => by
  obtain ⟨i, hi⟩ := List.getElem?_of_mem hx
  obtain ⟨k, f, hr⟩ := h.each i x hi
  have hcl := (xg7Z hp he hr.at_).2
  cases hn : (m.frames[i + 1]?).map Frm.fn with
  | none =>
    rw [hn] at hr
    obtain ⟨pc, s, o, out, h1, h2, h3, h4, _⟩ := xfsZ he hr
    have := xaeZ h4
    omega
  | some g =>
    rw [hn] at hr
    obtain ⟨pc, s0, s, hh, h3, h4, h5, h6, h7, h8, h9⟩ := hr.outer g rfl
    have := xaeZ h6
    omega
theorem xmpZ (M : Mach) (p : List Fn) (pv fv bv iv ov : Value) (w : World) (h : CkAt w p pv fv bv iv ov M) (hpc : PcOk M) : Calls Tryz.prog 38 #[.agg #[pv], .agg #[fv, bv, iv, ov, .int .i64 M.status, .int .i64 M.trap]] w (MRet (if xaoZ p M = 0 then stepM p M else zeroM) (xaoZ p M) w) := by
  obtain ⟨⟨pp, qp, hpv⟩, ⟨pf, cf, hfv⟩, ⟨pb, cb, hbv⟩, ⟨pi, ci, hiv⟩, ⟨po, co, hov⟩⟩ := h.shp
  subst hpv hfv hbv hiv hov
  obtain ⟨W1, hW1⟩ : ∃ W1, ((w.alloc (.cells #[.slice pp p.length qp] 24)).alloc (.cells #[.slice pf M.frames.length cf, .slice pb M.blocks.length cb, .slice pi M.inp.length ci, .slice po M.out.length co, .int .i64 M.status, .int .i64 M.trap] 48)).alloc (.cells #[.slice none 0 0, .slice none 0 0, .slice none 0 0, .slice none 0 0, .int .i64 0, .int .i64 0] 48) = W1 := ⟨_, rfl⟩
  have b1 : Below w.heap.size w W1 := by rw [← hW1]; exact (((Below.refl _ w).alloc (Nat.le_refl _) _).alloc (by simp) _).alloc (by simp; omega) _
  have u1 : W1.heap[w.heap.size]? = some (.cells #[.slice pp p.length qp] 24 (0, 0)) := by rw [← hW1]; exact xc9Z _ _ _ _
  have u2 : W1.heap[w.heap.size + 1]? = some (.cells #[.slice pf M.frames.length cf, .slice pb M.blocks.length cb, .slice pi M.inp.length ci, .slice po M.out.length co, .int .i64 M.status, .int .i64 M.trap] 48 (0, 0)) := by rw [← hW1]; exact xcuZ _ _ _ _
  have u3 : W1.heap[w.heap.size + 1 + 1]? = some (.cells #[.slice none 0 0, .slice none 0 0, .slice none 0 0, .slice none 0 0, .int .i64 0, .int .i64 0] 48 (0, 0)) := by rw [← hW1]; exact new3 _ _ _ _
  have l1 := xacZ u1
  have l2 := xacZ u2
  have l3 := xacZ u3
  have a0 : W1.cell? ⟨w.heap.size, 0, none⟩ = some (.slice pp p.length qp) := xaaZ u1 0
  have KC : Hid (∀ W, Below W1.heap.size W1 W → W.cell? ⟨w.heap.size, 0, none⟩ = some (.slice pp p.length qp) ∧ W.cell? ⟨w.heap.size + 1, 0, none⟩ = some (.slice pf M.frames.length cf) ∧ W.cell? ⟨w.heap.size + 1, 1, none⟩ = some (.slice pb M.blocks.length cb) ∧ W.cell? ⟨w.heap.size + 1, 2, none⟩ = some (.slice pi M.inp.length ci) ∧ W.cell? ⟨w.heap.size + 1, 3, none⟩ = some (.slice po M.out.length co) ∧ W.cell? ⟨w.heap.size + 1, 4, none⟩ = some (.int .i64 M.status) ∧ W.cell? ⟨w.heap.size + 1, 5, none⟩ = some (.int .i64 M.trap)) := fun W hW => by
    have h1 := (hW.block _ l1).trans u1
    have h2 := (hW.block _ l2).trans u2
    exact ⟨xaaZ h1 0, xaaZ h2 0, xaaZ h2 1, xaaZ h2 2, xaaZ h2 3, xaaZ h2 4, xaaZ h2 5⟩
  have KR : Hid (∀ W, Below W1.heap.size W1 W → W.heap[w.heap.size + 1 + 1]? = some (.cells #[.slice none 0 0, .slice none 0 0, .slice none 0 0, .slice none 0 0, .int .i64 0, .int .i64 0] 48 (0, 0))) := fun W hW => (hW.block _ l3).trans u3
  obtain ⟨-, d0, d1, d2, d3, d4, d5⟩ := KC.out W1 (Below.refl _ _)
  have H1 := h.below b1
  have HCK := hideP (xd6Z M p _ _ _ _ _ W1 H1 hpc)
  have HH := hideP H1
  clear h H1 u1 u2 u3 hpc
  by_cases hc : xaoZ p M = 0
  rotate_left
  · rw [if_neg hc]
    have hc' : (xaoZ p M != 0) = true := by simpa using hc
    generalize xaoZ p M = er at *
    clear hc
    go_enter Tryz.func38, Tryz.ntmps38
    go_wp2_with fail
    refine HCK.out.mono ?_
    rintro e' w2 ⟨rfl, b2⟩
    obtain ⟨e0, g0, g1, g2, g3, g4, g5⟩ := KC.out w2 b2
    have hr2 := KR.out w2 b2
    have r0 := xaaZ hr2 0
    have r1 := xaaZ hr2 1
    have r2 := xaaZ hr2 2
    have r3 := xaaZ hr2 3
    have r4 := xaaZ hr2 4
    have r5 := xaaZ hr2 5
    simp at r0 r1 r2 r3 r4 r5
    have zz := Lib.frozen_of_heap hr2
    have z0 := zz 0
    have z1 := zz 1
    have z2 := zz 2
    have z3 := zz 3
    have z4 := zz 4
    have z5 := zz 5
    have HR2 := hideP hr2
    clear zz hr2
    go_wp2
    refine bodyPost_ret (v := .tuple #[.agg #[.slice none 0 0, .slice none 0 0, .slice none 0 0, .slice none 0 0, .int .i64 0, .int .i64 0], .int .i64 er]) (by simp [results, Tryz.results38, go_sem, r0, r1, r2, r3, r4, r5]) rfl ?_
    have hg6 := xbfZ w2 (w.heap.size + 1 + 1) (.slice none 0 0) (.slice none 0 0) (.slice none 0 0) (.slice none 0 0) (.int .i64 0) (.int .i64 0)
    exact ⟨_, _, _, _, rfl, xdzZ _ _, (xadZ b1 b2).grown hg6 (xadZ b1 b2).size (fun k hk => by cases hk; omega)⟩
  rw [if_pos hc]
  rw [hc] at HCK ⊢
  obtain ⟨hp, he, hR⟩ := xa8Z.1 hc
  have hst := hR.status
  have hsm := (xclZ hp he hR).1
  have HPP := hideP hp
  have HEE := hideP he
  have HRR := hideP hR
  clear hp he hR hc
  by_cases h23 : M.status = 2 ∨ M.status = 3
  · have hs : stepM p M = M := by
      unfold stepM
      rw [if_neg (by omega)]
    rw [hs]
    clear hs
    have HSM := hideP hsm
    clear hsm
    obtain ⟨t, ht⟩ : ∃ t : Bool, (M.status == 2) = t := ⟨_, rfl⟩
    have ht3 : t = false → (M.status == 3) = true := fun h => by
      rw [h] at ht
      have h2 : ¬ M.status = 2 := by simpa using ht
      have : M.status = 3 := by omega
      simpa using this
    clear hst h23
    cases t
    · have ht4 := ht3 rfl
      clear ht3
      go_enter Tryz.func38, Tryz.ntmps38
      go_wp2_with fail
      refine HCK.out.mono ?_
      rintro e' w2 ⟨rfl, b2⟩
      obtain ⟨e0, g0, g1, g2, g3, g4, g5⟩ := KC.out w2 b2
      have hr2 := KR.out w2 b2
      have r0 := xaaZ hr2 0
      have r1 := xaaZ hr2 1
      have r2 := xaaZ hr2 2
      have r3 := xaaZ hr2 3
      have r4 := xaaZ hr2 4
      have r5 := xaaZ hr2 5
      simp at r0 r1 r2 r3 r4 r5
      have zz := Lib.frozen_of_heap hr2
      have z0 := zz 0
      have z1 := zz 1
      have z2 := zz 2
      have z3 := zz 3
      have z4 := zz 4
      have z5 := zz 5
      have HR2 := hideP hr2
      clear zz hr2
      have HFM := hideP (xcgZ M _ _ _ _ w2 (HH.out.below b2).mach HSM.out)
      go_wp2_with fail
      refine HFM.out.mono ?_
      rintro e' w3 ⟨fv', bv', iv', ov', rfl, q, qb, hown, b3⟩
      have hres := hown.res
      clear hown
      have hsh := xftZ hres
      obtain ⟨⟨pf3, nf3, cf3, hf3⟩, ⟨pb3, nb3, cb3, hb3⟩, ⟨pi3, ni3, ci3, hi3⟩, ⟨po3, no3, co3, ho3⟩⟩ := hsh
      subst hf3 hb3 hi3 ho3
      have l3' : w.heap.size + 1 + 1 < w2.heap.size := xacZ HR2.out
      have hr3 := (b3.block _ l3').trans HR2.out
      have s0 := xaaZ hr3 0
      have s1 := xaaZ hr3 1
      have s2 := xaaZ hr3 2
      have s3 := xaaZ hr3 3
      have s4 := xaaZ hr3 4
      have s5 := xaaZ hr3 5
      simp at s0 s1 s2 s3 s4 s5
      have yy := Lib.frozen_of_heap hr3
      have y0 := yy 0
      have y1 := yy 1
      have y2 := yy 2
      have y3 := yy 3
      have y4 := yy 4
      have y5 := yy 5
      have HST := hideP (xd7Z (w := w) (hres.low (Nat.le_trans b1.size b2.size)) (xadZ (xadZ b1 b2) b3) hr3 (by omega))
      clear yy hr3 hres r0 r1 r2 r3 r4 r5 z0 z1 z2 z3 z4 z5
      go_wp2
      refine bodyPost_ret (v := .tuple #[.agg #[.slice pf3 nf3 cf3, .slice pb3 nb3 cb3, .slice pi3 ni3 ci3, .slice po3 no3 co3, .int .i64 M.status, .int .i64 M.trap], .int .i64 0]) (by simp [results, Tryz.results38, go_sem, s0, s1, s2, s3, s4, s5]) rfl ?_
      exact ⟨_, _, _, _, rfl, HST.out.1, HST.out.2⟩
    · clear ht3
      go_enter Tryz.func38, Tryz.ntmps38
      go_wp2_with fail
      refine HCK.out.mono ?_
      rintro e' w2 ⟨rfl, b2⟩
      obtain ⟨e0, g0, g1, g2, g3, g4, g5⟩ := KC.out w2 b2
      have hr2 := KR.out w2 b2
      have r0 := xaaZ hr2 0
      have r1 := xaaZ hr2 1
      have r2 := xaaZ hr2 2
      have r3 := xaaZ hr2 3
      have r4 := xaaZ hr2 4
      have r5 := xaaZ hr2 5
      simp at r0 r1 r2 r3 r4 r5
      have zz := Lib.frozen_of_heap hr2
      have z0 := zz 0
      have z1 := zz 1
      have z2 := zz 2
      have z3 := zz 3
      have z4 := zz 4
      have z5 := zz 5
      have HR2 := hideP hr2
      clear zz hr2
      have HFM := hideP (xcgZ M _ _ _ _ w2 (HH.out.below b2).mach HSM.out)
      go_wp2_with fail
      refine HFM.out.mono ?_
      rintro e' w3 ⟨fv', bv', iv', ov', rfl, q, qb, hown, b3⟩
      have hres := hown.res
      clear hown
      have hsh := xftZ hres
      obtain ⟨⟨pf3, nf3, cf3, hf3⟩, ⟨pb3, nb3, cb3, hb3⟩, ⟨pi3, ni3, ci3, hi3⟩, ⟨po3, no3, co3, ho3⟩⟩ := hsh
      subst hf3 hb3 hi3 ho3
      have l3' : w.heap.size + 1 + 1 < w2.heap.size := xacZ HR2.out
      have hr3 := (b3.block _ l3').trans HR2.out
      have s0 := xaaZ hr3 0
      have s1 := xaaZ hr3 1
      have s2 := xaaZ hr3 2
      have s3 := xaaZ hr3 3
      have s4 := xaaZ hr3 4
      have s5 := xaaZ hr3 5
      simp at s0 s1 s2 s3 s4 s5
      have yy := Lib.frozen_of_heap hr3
      have y0 := yy 0
      have y1 := yy 1
      have y2 := yy 2
      have y3 := yy 3
      have y4 := yy 4
      have y5 := yy 5
      have HST := hideP (xd7Z (w := w) (hres.low (Nat.le_trans b1.size b2.size)) (xadZ (xadZ b1 b2) b3) hr3 (by omega))
      clear yy hr3 hres r0 r1 r2 r3 r4 r5 z0 z1 z2 z3 z4 z5
      go_wp2
      refine bodyPost_ret (v := .tuple #[.agg #[.slice pf3 nf3 cf3, .slice pb3 nb3 cb3, .slice pi3 ni3 ci3, .slice po3 no3 co3, .int .i64 M.status, .int .i64 M.trap], .int .i64 0]) (by simp [results, Tryz.results38, go_sem, s0, s1, s2, s3, s4, s5]) rfl ?_
      exact ⟨_, _, _, _, rfl, HST.out.1, HST.out.2⟩
  · have h01 : M.status = 0 ∨ M.status = 1 := by omega
    obtain ⟨x, k, f, o, n1, n2, n3, n4, n5, n6, n7, n8⟩ := xhzZ HPP.out HEE.out HRR.out h01
    have HDO : Hid (∀ W, Below W1.heap.size W1 W → Calls Tryz.prog 76 #[.agg #[.slice pp p.length qp], .agg #[.slice pf M.frames.length cf, .slice pb M.blocks.length cb, .slice pi M.inp.length ci, .slice po M.out.length co, .int .i64 M.status, .int .i64 M.trap]] W fun e w' => ∃ fv' bv' iv' ov', e = .returned (.agg #[fv', bv', iv', ov', .int .i64 (doOp p M x o).status, .int .i64 (doOp p M x o).trap]) ∧ MRes w' W.heap.size fv' bv' iv' ov' (doOp p M x o) ∧ Below W.heap.size W w') := fun W hW =>
      xjhZ p (entP p) M _ _ _ _ _ W HPP.out HEE.out HRR.out h01 (HH.out.below hW).fns (HH.out.below hW).mach n1 n2 n3 n5
    rw [n7]
    clear n1 n2 n3 n4 n5 n6 n7 n8 hsm
    have t2 : (M.status == 2) = false := by simp; omega
    have t3 : (M.status == 3) = false := by simp; omega
    clear h23 h01 hst
    generalize doOp p M x o = R at *
    go_enter Tryz.func38, Tryz.ntmps38
    go_wp2_with fail
    refine HCK.out.mono ?_
    rintro e' w2 ⟨rfl, b2⟩
    obtain ⟨e0, g0, g1, g2, g3, g4, g5⟩ := KC.out w2 b2
    have hr2 := KR.out w2 b2
    have r0 := xaaZ hr2 0
    have r1 := xaaZ hr2 1
    have r2 := xaaZ hr2 2
    have r3 := xaaZ hr2 3
    have r4 := xaaZ hr2 4
    have r5 := xaaZ hr2 5
    simp at r0 r1 r2 r3 r4 r5
    have zz := Lib.frozen_of_heap hr2
    have z0 := zz 0
    have z1 := zz 1
    have z2 := zz 2
    have z3 := zz 3
    have z4 := zz 4
    have z5 := zz 5
    have HR2 := hideP hr2
    clear zz hr2
    go_wp2_with fail
    refine (HDO.out w2 b2).mono ?_
    rintro e' w3 ⟨fv', bv', iv', ov', rfl, hres, b3⟩
    have hsh := xftZ hres
    obtain ⟨⟨pf3, nf3, cf3, hf3⟩, ⟨pb3, nb3, cb3, hb3⟩, ⟨pi3, ni3, ci3, hi3⟩, ⟨po3, no3, co3, ho3⟩⟩ := hsh
    subst hf3 hb3 hi3 ho3
    have l3' : w.heap.size + 1 + 1 < w2.heap.size := xacZ HR2.out
    have hr3 := (b3.block _ l3').trans HR2.out
    have s0 := xaaZ hr3 0
    have s1 := xaaZ hr3 1
    have s2 := xaaZ hr3 2
    have s3 := xaaZ hr3 3
    have s4 := xaaZ hr3 4
    have s5 := xaaZ hr3 5
    simp at s0 s1 s2 s3 s4 s5
    have yy := Lib.frozen_of_heap hr3
    have y0 := yy 0
    have y1 := yy 1
    have y2 := yy 2
    have y3 := yy 3
    have y4 := yy 4
    have y5 := yy 5
    have HST := hideP (xd7Z (w := w) (hres.low (Nat.le_trans b1.size b2.size)) (xadZ (xadZ b1 b2) b3) hr3 (by omega))
    clear yy hr3 hres r0 r1 r2 r3 r4 r5 z0 z1 z2 z3 z4 z5
    go_wp2
    refine bodyPost_ret (v := .tuple #[.agg #[.slice pf3 nf3 cf3, .slice pb3 nb3 cb3, .slice pi3 ni3 ci3, .slice po3 no3 co3, .int .i64 R.status, .int .i64 R.trap], .int .i64 0]) (by simp [results, Tryz.results38, go_sem, s0, s1, s2, s3, s4, s5]) rfl ?_
    exact ⟨_, _, _, _, rfl, HST.out.1, HST.out.2⟩
end Go.Proofs.YtmjjkenblfndgaaGreat


/- machine.Start. -/
namespace Go.Proofs.YtmjjkenblfndgaaGreat
open Go.RowKit
set_option linter.unusedSimpArgs false
set_option linter.unusedVariables false
theorem mres_start {W : World} {B gl bf L : Nat} {l : List Val} (hl : W.ownsRow B 113 2 (.slice (some ⟨gl, 0, none⟩) L L) L (valCells l)) (hL : L = l.length) (hf : W.heap[bf]? = some (.cells #[.int .i64 0, .int .i64 0, .slice (some ⟨gl, 0, none⟩) L L, .slice none 0 0] 89 (0, 0))) (hB : B ≤ bf) : MRes W B (.slice (some ⟨bf, 0, none⟩) 1 1) (.slice none 0 0) (.slice none 0 0) (.slice none 0 0) { zeroM with frames := [{ fn := 0, pc := 0, loc := l, stk := [] }] } := by
  subst hL
  refine MOwn.res (q := [⟨0, 0, .slice (some ⟨gl, 0, none⟩) l.length l.length, .slice none 0 0⟩]) (qb := []) ⟨?_, ?_, World.ownsRow_nil _ _ _ _, ?_⟩
  · exact ⟨rfl, .inr ⟨bf, 1, _, rfl, hB, hf, Nat.le_refl _, (by unfold maxLen; decide), rfl, rfl⟩⟩
  · refine (FRows.snoc (xf6Z W B) (c := ⟨0, 0, .slice (some ⟨gl, 0, none⟩) l.length l.length, .slice none 0 0⟩) (x := { fn := 0, pc := 0, loc := l, stk := [] }) rfl rfl hl (by simpa [valCells] using World.ownsRow_nil W B 113 2) (Nat.le_refl _) (fun k y g h => by simp [fRows] at h) fun g _ h => by cases h)
  · refine ⟨rfl, fun k x b h1 h2 => ?_, fun i j x y g h1 h2 g1 g2 => ?_, fun b hb => ?_⟩
    · match k with
      | 0 => simp [zeroM] at h1 h2; subst h1; subst h2; exact World.ownsRow_nil _ _ _ _
      | 1 => simp [zeroM] at h1 h2; subst h1; subst h2; exact World.ownsRow_nil _ _ _ _
      | k + 2 => simp at h1
    · match i with
      | 0 => simp at h1; subst h1; cases g1
      | 1 => simp at h1; subst h1; cases g1
      | i + 2 => simp at h1
    · simp [zeroM] at hb
      subst hb
      simp
theorem xk8Z (p : List Fn) (pv : Value) (w : World) (hp : FnsAt w pv p) (hcp : CapAt w pv) : Calls Tryz.prog 50 #[.agg #[pv]] w (MRet (if fitsE p = 0 then xeqZ p else zeroM) (fitsE p) w) := by
  obtain ⟨pp, qp, hpv, -, -⟩ := id hp
  subst hpv
  obtain ⟨W1, hW1⟩ : ∃ W1, (w.alloc (.cells #[.slice pp p.length qp] 24)).alloc (.cells #[.slice none 0 0, .slice none 0 0, .slice none 0 0, .slice none 0 0, .int .i64 0, .int .i64 0] 48) = W1 := ⟨_, rfl⟩
  have b1 : Below w.heap.size w W1 := by rw [← hW1]; exact ((Below.refl _ w).alloc (Nat.le_refl _) _).alloc (by simp) _
  have u1 : W1.heap[w.heap.size]? = some (.cells #[.slice pp p.length qp] 24 (0, 0)) := by rw [← hW1]; exact xajZ (World.alloc_heap_new w _) _
  have u3 : W1.heap[w.heap.size + 1]? = some (.cells #[.slice none 0 0, .slice none 0 0, .slice none 0 0, .slice none 0 0, .int .i64 0, .int .i64 0] 48 (0, 0)) := by rw [← hW1]; exact xa9Z _ _ _
  have l1 := xacZ u1
  have l3 := xacZ u3
  have a0 : W1.cell? ⟨w.heap.size, 0, none⟩ = some (.slice pp p.length qp) := xaaZ u1 0
  have KC : Hid (∀ W, Below W1.heap.size W1 W → W.cell? ⟨w.heap.size, 0, none⟩ = some (.slice pp p.length qp)) := fun W hW => xaaZ ((hW.block _ l1).trans u1) 0
  have KR : Hid (∀ W, Below W1.heap.size W1 W → W.heap[w.heap.size + 1]? = some (.cells #[.slice none 0 0, .slice none 0 0, .slice none 0 0, .slice none 0 0, .int .i64 0, .int .i64 0] 48 (0, 0))) := fun W hW => (hW.block _ l3).trans u3
  have H1 := hp.below b1
  have HP : Hid (Calls Tryz.prog 49 #[.agg #[.slice pp p.length qp]] W1 fun e w' => e = .returned (.int .i64 (fitsE p)) ∧ Below W1.heap.size W1 w') := (xfnZ p _ W1 H1 (hcp.below hp b1)).mono fun e w' ⟨er, h1, h2, h3⟩ => ⟨by rw [h1, xdvZ h2], h3⟩
  have HH := hideP H1
  clear hp hcp H1 u1 u3
  by_cases hc : fitsE p = 0
  rotate_left
  · rw [if_neg hc]
    have hc' : (fitsE p != 0) = true := by simpa using hc
    generalize fitsE p = er at *
    clear hc
    go_enter Tryz.func50, Tryz.ntmps50
    go_wp2_with fail
    refine HP.out.mono ?_
    rintro e' w2 ⟨rfl, b2⟩
    have e0 := KC.out w2 b2
    have hr2 := KR.out w2 b2
    have r0 := xaaZ hr2 0
    have r1 := xaaZ hr2 1
    have r2 := xaaZ hr2 2
    have r3 := xaaZ hr2 3
    have r4 := xaaZ hr2 4
    have r5 := xaaZ hr2 5
    simp at r0 r1 r2 r3 r4 r5
    have zz := Lib.frozen_of_heap hr2
    have z0 := zz 0
    have z1 := zz 1
    have z2 := zz 2
    have z3 := zz 3
    have z4 := zz 4
    have z5 := zz 5
    have HR2 := hideP hr2
    clear zz hr2
    go_wp2
    refine bodyPost_ret (v := .tuple #[.agg #[.slice none 0 0, .slice none 0 0, .slice none 0 0, .slice none 0 0, .int .i64 0, .int .i64 0], .int .i64 er]) (by simp [results, Tryz.results50, go_sem, r0, r1, r2, r3, r4, r5]) rfl ?_
    have hg6 := xbfZ w2 (w.heap.size + 1) (.slice none 0 0) (.slice none 0 0) (.slice none 0 0) (.slice none 0 0) (.int .i64 0) (.int .i64 0)
    exact ⟨_, _, _, _, rfl, xdzZ _ _, (xadZ b1 b2).grown hg6 (xadZ b1 b2).size (fun k hk => by cases hk; omega)⟩
  rw [if_pos hc]
  rw [hc] at HP ⊢
  obtain ⟨hpe, he⟩ := xc6Z.1 hc
  obtain ⟨f, hf, hst, hR⟩ := xgxZ hpe he
  have hL : f.2.1.length ≤ 20 := (xclZ hpe he hR).1.each _ (by rw [hst]; exact List.mem_cons_self) |>.1 |> fun h => by simpa [xbdZ] using h
  have HB : Hid (∀ W, Below W1.heap.size W1 W → Calls Tryz.prog 83 #[.agg #[.slice pp p.length qp], .int .i64 0] W fun e w' => ∃ gl, e = .returned (.agg #[.int .i64 0, .int .i64 0, .slice (some ⟨gl, 0, none⟩) f.2.1.length f.2.1.length, .slice none 0 0]) ∧ w'.ownsRow W.heap.size 113 2 (.slice (some ⟨gl, 0, none⟩) f.2.1.length f.2.1.length) f.2.1.length (valCells (xbdZ f.2.1)) ∧ Below W.heap.size W w') := fun W hW => xl8Z p _ 0 f W (HH.out.below hW) hf (by omega)
  rw [hst]
  have HFL := hideP (xe4Z f.2.1)
  clear hc hpe he hst hR hL hf
  go_enter Tryz.func50, Tryz.ntmps50
  go_wp2_with fail
  refine HP.out.mono ?_
  rintro e' w2 ⟨rfl, b2⟩
  have e0 := KC.out w2 b2
  go_wp2_with fail
  refine (HB.out w2 b2).mono ?_
  rintro e' w3 ⟨gl, rfl, hrow, b3⟩
  have b23 := xadZ b2 b3
  have hr3 := KR.out w3 b23
  obtain ⟨W4, hW4⟩ : ∃ W4, w3.alloc (.cells #[.int .i64 0, .int .i64 0, .slice (some ⟨gl, 0, none⟩) f.2.1.length f.2.1.length, .slice none 0 0] 89) = W4 := ⟨_, rfl⟩
  have b4 : Below w3.heap.size w3 W4 := by rw [← hW4]; exact (Below.refl _ w3).alloc (Nat.le_refl _) _
  have v4 : W4.heap[w3.heap.size]? = some (.cells #[.int .i64 0, .int .i64 0, .slice (some ⟨gl, 0, none⟩) f.2.1.length f.2.1.length, .slice none 0 0] 89 (0, 0)) := by rw [← hW4]; exact World.alloc_heap_new w3 _
  have hr4 := (b4.block _ (xacZ hr3)).trans hr3
  have s0 := xaaZ hr4 0
  have s1 := xaaZ hr4 1
  have s2 := xaaZ hr4 2
  have s3 := xaaZ hr4 3
  have s4 := xaaZ hr4 4
  have s5 := xaaZ hr4 5
  simp at s0 s1 s2 s3 s4 s5
  have yy := Lib.frozen_of_heap hr4
  have y0 := yy 0
  have y1 := yy 1
  have y2 := yy 2
  have y3 := yy 3
  have y4 := yy 4
  have y5 := yy 5
  have hrow4 : W4.ownsRow w2.heap.size 113 2 (.slice (some ⟨gl, 0, none⟩) f.2.1.length f.2.1.length) f.2.1.length (valCells (xbdZ f.2.1)) := xayZ hrow fun j hj => b4.block j (hrow.lt j hj).2
  have hs12 := b2.size
  have hs23 := b3.size
  have hs01 := b1.size
  have hres : MRes W4 w.heap.size _ _ _ _ _ := mres_start (xapZ hrow4 (by omega)) HFL.out.symm v4 (by omega)
  have HST := hideP (xd7Z (w := w) hres (xadZ b1 (xadZ b23 b4)) hr4 (by omega))
  clear yy hr3 hr4 v4 hrow hrow4 hres b4 hs12 hs23 hs01
  go_wp2
  refine bodyPost_ret (v := .tuple #[.agg #[.slice (some ⟨w3.heap.size, 0, none⟩) 1 1, .slice none 0 0, .slice none 0 0, .slice none 0 0, .int .i64 0, .int .i64 0], .int .i64 0]) (by simp [results, Tryz.results50, go_sem, s0, s1, s2, s3, s4, s5]) rfl ?_
  exact ⟨_, _, _, _, rfl, HST.out.1, HST.out.2⟩
end Go.Proofs.YtmjjkenblfndgaaGreat


/- What must be in any case of machines. -/
namespace Go.Proofs.YtmjjkenblfndgaaGreat
open Go.RowKit
set_option linter.unusedSimpArgs false
set_option linter.unusedVariables false
theorem xhnZ {p : List Fn} {pv : Value} {w : World} (hp : FnsAt w pv p) (hcp : CapAt w pv) : ∃ er, xhsZ p er := by
  obtain ⟨e, w', fr, ⟨er, _, h, _⟩, _⟩ := xfnZ p pv w hp hcp []
  exact ⟨er, h⟩
theorem xn4Z {er : Int} (h : xhsZ xavZ er) : er = 0 := by
  rcases h with ⟨a, _⟩ | ⟨_, h, _⟩ | ⟨_, _, f, hf, hl⟩
  · exact absurd ct1.1 a
  · exact h
  · have hf' : f = (0, [], 0, loopOps) := by simpa [xavZ] using hf
    subst hf'
    exact absurd (xf1Z ct1.2.1 ct1.2.2) (hl _)
theorem xiwZ {pv : Value} {w : World} (hp : FnsAt w pv xavZ) (hcp : CapAt w pv) : fitsE xavZ = 0 := by
  obtain ⟨er, h⟩ := xhnZ hp hcp
  rw [← xdvZ h]
  exact xn4Z h
theorem xqiZ {pv : Value} {w : World} (hp : FnsAt w pv xbkZ) (hcp : CapAt w pv) : fitsE xbkZ = 0 := by
  obtain ⟨er, h⟩ := xhnZ hp hcp
  rw [← xdvZ h]
  exact xqjZ h
def beginM : Mach := { zeroM with frames := [{ fn := 0, pc := 0, loc := [], stk := [] }] }
def secondM : Mach := { zeroM with frames := [{ fn := 0, pc := 1, loc := [], stk := [(false, 3)] }] }
def waitsM : Mach := { beginM with status := 1 }
theorem cb1 : xeqZ xavZ = beginM ∧ stepM xavZ beginM = secondM := ⟨rfl, by simp [stepM, beginM, zeroM, xcfZ, xavZ, loopOps, doOp, onF, putF, secondM]⟩
theorem cb2 : xeqZ xbkZ = beginM ∧ stepM xbkZ beginM = waitsM := ⟨rfl, by simp [stepM, beginM, zeroM, xcfZ, xbkZ, doOp, waitsM]⟩
theorem xj8Z {p : List Fn} (hf : fitsE p = 0) (hs : xeqZ p = beginM) : xaoZ p beginM = 0 ∧ xaoZ p (stepM p beginM) = 0 := by
  obtain ⟨hp, he⟩ := xc6Z.1 hf
  obtain ⟨f, _, _, hR⟩ := xgxZ hp he
  rw [hs] at hR
  exact ⟨xa8Z.2 ⟨hp, he, hR⟩, xa8Z.2 ⟨hp, he, xdmZ hp he hR⟩⟩
theorem xhqZ {p : List Fn} {pv : Value} {w : World} (hp : FnsAt w pv p) (hcp : CapAt w pv) (hf : fitsE p = 0) (hs : xeqZ p = beginM) : Calls Tryz.prog 50 #[.agg #[pv]] w (MRet beginM 0 w) := by
  have := xk8Z p pv w hp hcp
  rw [hf, if_pos rfl, hs] at this
  exact this
theorem xlhZ : PcOk beginM := fun x hx => by simp [beginM, zeroM] at hx; subst hx; simp
theorem xqeZ : PcOk secondM := fun x hx => by simp [secondM, zeroM] at hx; subst hx; simp
theorem xewZ {p : List Fn} {pv fv bv iv ov : Value} {w : World} (h : CkAt w p pv fv bv iv ov beginM) (hf : fitsE p = 0) (hs : xeqZ p = beginM) : Calls Tryz.prog 38 #[.agg #[pv], .agg #[fv, bv, iv, ov, .int .i64 beginM.status, .int .i64 beginM.trap]] w (MRet (stepM p beginM) 0 w) := by
  have := xmpZ beginM p pv fv bv iv ov w h xlhZ
  rw [(xj8Z hf hs).1, if_pos rfl] at this
  exact this
theorem xbbZ {W : World} {B : Nat} {fv bv iv ov : Value} {M : Mach} (h : MRes W B fv bv iv ov M) : (∃ p c, fv = .slice p M.frames.length c) ∧ (∃ p c, bv = .slice p M.blocks.length c) ∧ (∃ p c, iv = .slice p M.inp.length c) ∧ ∃ p c, ov = .slice p M.out.length c := by
  obtain ⟨q, qb, k, iw, I, h1, h2, h3⟩ := h
  obtain ⟨a, b, e1⟩ := xagZ h1.fr
  obtain ⟨c, d, e2⟩ := xagZ h1.bl
  obtain ⟨x, y, e3⟩ := xagZ h1.out
  refine ⟨⟨_, _, by rw [e1, h1.frs.len]⟩, ⟨_, _, by rw [e2]; have := h1.rows.len; simp at this; rw [this]⟩, ?_, ⟨_, _, e3⟩⟩
  rcases h3 with ⟨h0, h4⟩ | ⟨g, n, cap, j, c, h5, h4, _⟩
  · obtain ⟨p, c, e4⟩ := xagZ h1.inp
    subst h0
    refine ⟨p, c, ?_⟩
    rw [h4, e4, h2]
    simp
  · obtain ⟨p, c', e4⟩ := xagZ h1.inp
    rw [h5] at e4
    cases e4
    refine ⟨some ⟨g, j, none⟩, c, ?_⟩
    rw [h4, h2, List.length_drop]
end Go.Proofs.YtmjjkenblfndgaaGreat


