/- My texts Jo Jp Vi Vj Vk Pc Jq, joined. -/
import Derived.Deep.RegionHeld3
import Derived.Test.YtjmpbnfkiikiaaaU2
import Derived.Test.YtjmpbnfkiikiaaaU12
import Derived.Test.YtjmpbnfkiikiaaaU13
/- verify.Func. -/
namespace Go.Proofs.Ytjmpbnfkiikiaaa
open Go.RowKit
set_option linter.unusedSimpArgs false
set_option linter.unusedVariables false
/-- what Func tells. -/
def FuncIs (p : List Fn) (k : Int) (er : Int) (l : List (Nat × List Int)) : Prop :=
  (progErr p ≠ 0 ∧ er = progErr p ∧ l = []) ∨ (progErr p = 0 ∧ (k < 0 ∨ (p.length : Int) ≤ k) ∧ er = 3 ∧ l = []) ∨
    (progErr p = 0 ∧ ∃ (n : Nat) (f : Fn) (r : Option (Nat → Option (List Int))), k = n ∧ p[n]? = some f ∧ Least p f r ∧ ((r = none ∧ er = 4 ∧ l = []) ∨ ∃ e, r = some e ∧ er = 0 ∧ l = (reachL f.2.2.2).map fun pc => (pc, (e pc).getD [])))
theorem funcIs_one {p : List Fn} {k er er' : Int} {l l' : List (Nat × List Int)} (h : FuncIs p k er l) (h' : FuncIs p k er' l') : er = er' ∧ l = l' := by
  rcases h with ⟨a1, a2, a3⟩ | ⟨a1, a2, a3, a4⟩ | ⟨a1, n, f, r, rfl, a3, a4, a5⟩
  · rcases h' with ⟨b1, b2, b3⟩ | ⟨b1, _⟩ | ⟨b1, _⟩
    · exact ⟨a2.trans b2.symm, a3.trans b3.symm⟩
    · exact absurd b1 a1
    · exact absurd b1 a1
  · rcases h' with ⟨b1, _⟩ | ⟨b1, b2, b3, b4⟩ | ⟨b1, n, f, r, rfl, b3, _⟩
    · exact absurd a1 b1
    · exact ⟨a3.trans b3.symm, a4.trans b4.symm⟩
    · have := lt_of_at b3; omega
  · rcases h' with ⟨b1, _⟩ | ⟨b1, b2, _⟩ | ⟨b1, n', f', r', hn, b3, b4, b5⟩
    · exact absurd a1 b1
    · have := lt_of_at a3; omega
    · obtain rfl : n = n' := by omega
      rw [a3] at b3
      cases b3
      obtain rfl := least_one a4 b4
      rcases a5 with ⟨c1, c2, c3⟩ | ⟨e, c1, c2, c3⟩
      · rcases b5 with ⟨d1, d2, d3⟩ | ⟨e', d1, _⟩
        · exact ⟨c2.trans d2.symm, c3.trans d3.symm⟩
        · rw [c1] at d1; cases d1
      · rcases b5 with ⟨d1, _⟩ | ⟨e', d1, d2, d3⟩
        · rw [c1] at d1; cases d1
        · rw [c1] at d1
          cases d1
          exact ⟨c2.trans d2.symm, c3.trans d3.symm⟩
end Go.Proofs.Ytjmpbnfkiikiaaa
/- verify.Program. -/
namespace Go.Proofs.Ytjmpbnfkiikiaaa
open Go.RowKit
set_option linter.unusedSimpArgs false
set_option linter.unusedVariables false
/-- what Program tells. -/
def ProgIs (p : List Fn) (er : Int) : Prop :=
  (progErr p ≠ 0 ∧ er = progErr p) ∨ (progErr p = 0 ∧ er = 0 ∧ ∀ f ∈ p, ∃ e, Least p f (some e)) ∨ (progErr p = 0 ∧ er = 4 ∧ ∃ f ∈ p, Least p f none)
theorem progIs_one {p : List Fn} {er er' : Int} (h : ProgIs p er) (h' : ProgIs p er') : er = er' := by
  rcases h with ⟨a1, a2⟩ | ⟨a1, a2, a3⟩ | ⟨a1, a2, f, hf, hl⟩
  · rcases h' with ⟨_, b2⟩ | ⟨b1, _⟩ | ⟨b1, _⟩
    · exact a2.trans b2.symm
    · exact absurd b1 a1
    · exact absurd b1 a1
  · rcases h' with ⟨b1, _⟩ | ⟨_, b2, _⟩ | ⟨_, _, f, hf, hl⟩
    · exact absurd a1 b1
    · exact a2.trans b2.symm
    · obtain ⟨e, he⟩ := a3 f hf
      have := least_one he hl
      cases this
  · rcases h' with ⟨b1, _⟩ | ⟨_, _, b3⟩ | ⟨_, b2, _⟩
    · exact absurd a1 b1
    · obtain ⟨e, he⟩ := b3 f hf
      have := least_one he hl
      cases this
    · exact a2.trans b2.symm
def ProgP (p : List Fn) (w : World) (e : Ending) (w' : World) : Prop := ∃ er, e = .returned (.int .i64 er) ∧ ProgIs p er ∧ Below w.heap.size w w'
end Go.Proofs.Ytjmpbnfkiikiaaa
/- prog.Decode. -/
namespace Go.Proofs.Ytjmpbnfkiikiaaa
open Go.RowKit
set_option linter.unusedSimpArgs false
set_option linter.unusedVariables false
theorem fnsAt_nil (W : World) : FnsAt W (.slice none 0 0) [] := ⟨none, 0, rfl, Nat.zero_le _, fun k f h => by simp at h⟩
end Go.Proofs.Ytjmpbnfkiikiaaa
/- SameProgram. -/
namespace Go.Proofs.Ytjmpbnfkiikiaaa
open Go.RowKit
set_option linter.unusedSimpArgs false
set_option linter.unusedVariables false
end Go.Proofs.Ytjmpbnfkiikiaaa
/- square, progBegun. -/
namespace Go.Proofs.Ytjmpbnfkiikiaaa
open Go.RowKit
set_option linter.unusedSimpArgs false
set_option linter.unusedVariables false
def squareFns : List Fn := [(0, [], 0, [(21, 0), (12, 1), (20, 0), (10, 0)]), (1, [1], 1, [(8, 0), (3, 0), (7, 0), (13, 0)])]
theorem intsAt_nil (W : World) : IntsAt W (.slice none 0 0) [] := ⟨none, 0, rfl, Nat.zero_le _, fun k f h => by simp at h⟩
theorem sq1 : progErr squareFns = 0 := by decide +kernel
theorem sq2 : progBytes squareFns = [2, 0, 0, 0, 0, 12, 21, 12, 0, 0, 0, 1, 20, 10, 0, 0, 0, 0, 1, 1, 1, 1, 0, 8, 8, 0, 0, 0, 0, 3, 7, 13] := by decide +kernel
theorem sq3 : decProg (progBytes squareFns) = (squareFns, 0) := dec_prog _ sq1 (by rw [sq2]; decide)
theorem sq4 : (decProg (progBytes squareFns ++ [122])).2 = 1 := by decide +kernel
end Go.Proofs.Ytjmpbnfkiikiaaa
/- The programs of verifyBegun, plainly. -/
namespace Go.Proofs.Ytjmpbnfkiikiaaa
open Go.RowKit
set_option linter.unusedSimpArgs false
set_option linter.unusedVariables false
/-- do entries fit? -/
def fitsB (p : List Fn) (f : Fn) (E : Ents) : Bool :=
  decide (ent E 0 = some []) && decide (E.length ≤ f.2.2.2.length) && (List.range f.2.2.2.length).all fun pc => match ent E pc, f.2.2.2[pc]? with
    | some s, some o => (match tryOp p f o s with
      | some out => (List.range (f.2.2.2.length + 1)).all fun to => !goesOn f.2.2.2 pc to || (decide (to < f.2.2.2.length) && (match ent E to with | some s' => leS out s' | none => false))
      | none => false)
    | some _, none => false
    | none, _ => true
theorem fitsB_sound {p : List Fn} {f : Fn} {E : Ents} (hf : flowErr f.2.2.2 = 0) (h : fitsB p f E = true) : FitsBy p f (ent E) := by
  simp only [fitsB, Bool.and_eq_true, decide_eq_true_eq] at h
  obtain ⟨⟨h0, hl⟩, h1⟩ := h
  refine ⟨h0, fun pc s hs => ?_⟩
  have hlt : pc < f.2.2.2.length := Nat.lt_of_lt_of_le (lt_of_at (ent_some hs)) hl
  obtain ⟨o, ho⟩ := at_of_lt hlt
  have h2 := List.all_eq_true.1 h1 pc (by simpa using hlt)
  rw [hs, ho] at h2
  simp only at h2
  cases ht : tryOp p f o s with
  | none => rw [ht] at h2; cases h2
  | some out =>
    rw [ht] at h2
    simp only at h2
    refine ⟨o, out, ho, ht, fun to hto => ?_⟩
    have hle := goesOn_le (flowErr_zero hf).2.2 hto
    have h3 := List.all_eq_true.1 h2 to (by simp; omega)
    rw [hto] at h3
    simp only [Bool.not_true, Bool.false_or, Bool.and_eq_true, decide_eq_true_eq] at h3
    refine ⟨h3.1, ?_⟩
    cases he : ent E to with
    | none => rw [he] at h3; cases h3.2
    | some s' => rw [he] at h3; exact ⟨s', rfl, h3.2⟩
def counterFns : List Fn := [(0, [], 0, loopOps)]
def badFns : List Fn := [(0, [], 0, [(2, 0), (13, 0)])]
def counterE : Ents := [some [], some [1], some [1, 1], some [1], some [1, 1], some [1], some [1, 1], some [1], some [1], some []]
theorem ct1 : progErr counterFns = 0 ∧ flowErr loopOps = 0 ∧ fitsB counterFns (0, [], 0, loopOps) counterE = true := by decide +kernel
theorem bd1 : progErr badFns = 0 ∧ tryOp badFns (0, [], 0, [(2, 0), (13, 0)]) (2, 0) [] = none := by decide +kernel
theorem sqf : ∀ f ∈ squareFns, flowErr f.2.2.2 = 0 ∧ (fitsB squareFns f [some [], some [1], some [1], some []] = true ∨ fitsB squareFns f [some [], some [1], some [1, 1], some [1]] = true) := by decide +kernel
theorem bad_prog {er : Int} (h : ProgIs badFns er) : er = 4 := by
  rcases h with ⟨a, _⟩ | ⟨_, _, h⟩ | ⟨_, h, _⟩
  · exact absurd bd1.1 a
  · obtain ⟨e, he⟩ := h _ (List.mem_singleton.2 rfl)
    obtain ⟨o, out, h1, h2, _⟩ := he.1.on 0 [] he.1.first
    have ho : o = (2, 0) := by simpa using h1.symm
    subst ho
    rw [bd1.2] at h2
    cases h2
  · exact h
theorem square_prog {er : Int} (h : ProgIs squareFns er) : er = 0 := by
  rcases h with ⟨a, _⟩ | ⟨_, h, _⟩ | ⟨_, _, f, hf, hl⟩
  · exact absurd sq1 a
  · exact h
  · obtain ⟨h1, h2 | h2⟩ := sqf f hf
    · exact absurd (fitsB_sound h1 h2) (hl _)
    · exact absurd (fitsB_sound h1 h2) (hl _)
theorem loop_reach : reachL loopOps = List.range 10 := by
  have c0 : Come loopOps 0 := .zero
  have c1 : Come loopOps 1 := .step c0 (by decide +kernel)
  have c2 : Come loopOps 2 := .step c1 (by decide +kernel)
  have c3 : Come loopOps 3 := .step c2 (by decide +kernel)
  have c4 : Come loopOps 4 := .step c3 (by decide +kernel)
  have c5 : Come loopOps 5 := .step c4 (by decide +kernel)
  have c6 : Come loopOps 6 := .step c5 (by decide +kernel)
  have c7 : Come loopOps 7 := .step c6 (by decide +kernel)
  have c8 : Come loopOps 8 := .step c6 (by decide +kernel)
  have c9 : Come loopOps 9 := .step c8 (by decide +kernel)
  rw [← reachL_eq (code := loopOps) (fun x => decide (x < 10)) rfl ?_ ?_]
  · decide +kernel
  · intro x hx
    have : x < 10 := by simpa using hx
    match x, this with
    | 0, _ => exact c0
    | 1, _ => exact c1
    | 2, _ => exact c2
    | 3, _ => exact c3
    | 4, _ => exact c4
    | 5, _ => exact c5
    | 6, _ => exact c6
    | 7, _ => exact c7
    | 8, _ => exact c8
    | 9, _ => exact c9
  · intro pc to hp hg
    have hle := goesOn_le (flowErr_zero ct1.2.1).2.2 hg
    have hlen : loopOps.length = 10 := rfl
    rcases Nat.lt_or_ge to 10 with h | h
    · simpa using h
    · have h10 : to = 10 := by omega
      subst h10
      have hall : ∀ pc, pc < 10 → goesOn loopOps pc 10 = false := by decide +kernel
      rw [hall pc (by simpa using hp)] at hg
      cases hg
theorem counter_func {er : Int} {l : List (Nat × List Int)} (h : FuncIs counterFns 0 er l) : er = 0 ∧ l.length = 10 ∧ l[3]? = some (3, [1]) := by
  have hfit := fitsB_sound (p := counterFns) (f := (0, [], 0, loopOps)) ct1.2.1 ct1.2.2
  rcases h with ⟨a, _⟩ | ⟨_, a, _⟩ | ⟨_, n, f, r, hn, hf, hl, hr⟩
  · exact absurd ct1.1 a
  · simp [counterFns] at a
  · obtain rfl : n = 0 := by omega
    have hf' : f = (0, [], 0, loopOps) := by simpa [counterFns] using hf.symm
    subst hf'
    rcases hr with ⟨rfl, _⟩ | ⟨e, rfl, h2, h3⟩
    · exact absurd hfit (hl _)
    · refine ⟨h2, by rw [h3, List.length_map]; show (reachL loopOps).length = 10; rw [loop_reach]; rfl, ?_⟩
      have hle := hl.2 _ hfit
      obtain ⟨s, hs⟩ := fits_come hl.1 (x := 3) (by
        have : (3 : Nat) ∈ reachL loopOps := by rw [loop_reach]; decide
        exact (mem_reachL (flowErr_zero ct1.2.1).2.2).1 this)
      obtain ⟨s', h4, h5⟩ := hle 3 s hs
      have h4' : s' = [1] := by
        have : ent counterE 3 = some [1] := by decide +kernel
        rw [this] at h4
        cases h4
        rfl
      subst h4'
      have hs1 : s = [1] := by
        match s, h5 with
        | [a], h5 =>
          simp [leS, standsB] at h5
          rw [h5]
        | [], h5 => simp [leS] at h5
        | _ :: _ :: _, h5 => simp [leS] at h5
      rw [h3]
      show ((reachL loopOps).map fun pc => (pc, (e pc).getD []))[3]? = _
      rw [loop_reach, List.getElem?_map]
      have : (List.range 10)[3]? = some 3 := by decide
      rw [this]
      simp [hs, hs1]
end Go.Proofs.Ytjmpbnfkiikiaaa
/- counter, square, verifyBegun. -/
namespace Go.Proofs.Ytjmpbnfkiikiaaa
open Go.RowKit
set_option linter.unusedSimpArgs false
set_option linter.unusedVariables false
theorem cap_of {W : World} {b n cap : Nat} {cs : Array Value} {t : TypeId} {fz : Nat × Nat} (h : W.heap[b]? = some (.cells cs t fz)) (hc : ∀ (k : Nat) (p : Option Addr) (n' c' : Nat), cs[k * 4 + 1]? = some (.slice p n' c') → n' ≤ c') : CapAt W (.slice (some ⟨b, 0, none⟩) n cap) := by
  intro b' off n1 cap1 k p' n' c' hv hk hcell
  cases hv
  rw [cell_at' h, Nat.zero_add] at hcell
  exact hc k p' n' c' hcell
end Go.Proofs.Ytjmpbnfkiikiaaa
