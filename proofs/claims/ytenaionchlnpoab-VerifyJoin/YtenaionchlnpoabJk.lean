/- verify.fit's closures: what lies in memory, and the round over the next places. -/
import Derived.Test.YtenaionchlnpoabJj
import Derived.Test.YtenaionchlnpoabPk
import Derived.Laws.EntriesVeiled
namespace Go.Proofs.Ytenaionchlnpoab
open Go.RowKit
set_option linter.unusedSimpArgs false
set_option linter.unusedVariables false
/-- the two rows are written, nothing else. -/
structure Wr (Rs Rm : Nat) (w w' : World) : Prop where
  os : w'.os = w.os
  tape : w'.tape = w.tape
  output : w'.output = w.output
  size : w.heap.size ≤ w'.heap.size
  block : ∀ k, k < w.heap.size → k ≠ Rs → k ≠ Rm → w'.heap[k]? = w.heap[k]?
theorem Wr.refl (Rs Rm : Nat) (w : World) : Wr Rs Rm w w := ⟨rfl, rfl, rfl, Nat.le_refl _, fun _ _ _ _ => rfl⟩
theorem Wr.trans {Rs Rm : Nat} {a b c : World} (h : Wr Rs Rm a b) (k : Wr Rs Rm b c) : Wr Rs Rm a c :=
  ⟨k.os.trans h.os, k.tape.trans h.tape, k.output.trans h.output, Nat.le_trans h.size k.size, fun j hj h1 h2 => (k.block j (Nat.lt_of_lt_of_le hj h.size) h1 h2).trans (h.block j hj h1 h2)⟩
theorem Wr.of_below {Rs Rm : Nat} {w w' : World} (h : Below w.heap.size w w') : Wr Rs Rm w w' := ⟨h.os, h.tape, h.output, h.size, fun k hk _ _ => h.block k hk⟩
theorem Wr.of_grown {Rs Rm r : Nat} {w w' : World} (h : w.grownBy w' (some r)) (hr : r = Rs ∨ r = Rm) : Wr Rs Rm w w' :=
  ⟨h.os, h.tape, h.output, h.size, fun k hk h1 h2 => h.block k hk (fun e => by cases e; rcases hr with h | h <;> omega)⟩
/-- what fit has laid: the boxes, the marks, the stacks. -/
structure FB where
  pv : Value
  c0 : Value
  c1 : Value
  c2 : Value
  c3 : Value
  bf : Nat
  bm : Nat
  bs : Nat
  bp : Nat
  bc : Nat
  Rs : Nat
  Rm : Nat
abbrev caps (x : FB) : Array Value := #[.pointer (some ⟨x.bf, 0, none⟩), .pointer (some ⟨x.bm, 0, none⟩), .pointer (some ⟨x.bs, 0, none⟩), .pointer (some ⟨x.bp, 0, none⟩), .pointer (some ⟨x.bc, 0, none⟩)]
structure FI (x : FB) (W0 : World) (p : List Fn) (f : Fn) (E : Ents) (w : World) : Prop where
  bel : Below W0.heap.size W0 w
  len : E.length = f.2.2.2.length
  hRm : w.heap[x.Rm]? = some (.cells ((E.map Option.isSome).map Value.bool).toArray 4 (0, 0))
  hRs : ∃ V : List Value, V.length = E.length ∧ w.heap[x.Rs]? = some (.cells V.toArray 23 (0, 0)) ∧ (∀ v ∈ V, ∃ p n c, v = .slice p n c) ∧ ∀ (k : Nat) (s : List Int), E[k]? = some (some s) → ∃ v, V[k]? = some v ∧ IntsAt w v s ∧ NilOk v
  hbm : w.heap[x.bm]? = some (.cells #[.slice (some ⟨x.Rm, 0, none⟩) E.length E.length] 44 (0, 0))
  hbs : w.heap[x.bs]? = some (.cells #[.slice (some ⟨x.Rs, 0, none⟩) E.length E.length] 72 (0, 0))
  hbf : w.heap[x.bf]? = some (.cells #[x.c0, x.c1, x.c2, x.c3] 59 (0, 0))
  hbp : w.heap[x.bp]? = some (.cells #[x.pv] 56 (0, 0))
  hbc : w.heap[x.bc]? = some (.cells #[.func (.func 60) #[] (caps x)] 87 (0, 0))
  ok : ∀ (k : Nat) (s : List Int), E[k]? = some (some s) → s.length ≤ 8 ∧ tyL s
/-- numbers stay where only the two rows are written. -/
theorem IntsAt.wr {Rs Rm : Nat} {w w' : World} {v : Value} {l : List Int} {V : List Value} {B : List Bool} {t t' : TypeId} {fz fz' : Nat × Nat} (h : IntsAt w v l) (hs : w.heap[Rs]? = some (.cells V.toArray t fz)) (hV : ∀ v ∈ V, ∃ p n c, v = .slice p n c) (hm : w.heap[Rm]? = some (.cells (B.map Value.bool).toArray t' fz')) (hw : Wr Rs Rm w w') : IntsAt w' v l := by
  obtain ⟨p, c, rfl, hl, hc⟩ := h
  refine ⟨p, c, rfl, hl, fun k z hk => ?_⟩
  obtain ⟨b, off, rfl, hb, g⟩ := hc k z hk
  have n1 : b ≠ Rs := fun e => by
    subst e
    rw [cell_at' hs] at g
    have g2 : V[off + k]? = some (Value.int .i64 z) := by simpa using g
    obtain ⟨_, _, _, h⟩ := hV _ (List.mem_of_getElem? g2)
    cases h
  have n2 : b ≠ Rm := fun e => by
    subst e
    rw [cell_at' hm] at g
    simp at g
  exact ⟨b, off, rfl, Nat.lt_of_lt_of_le hb hw.size, (World.cell?_of_block (hw.block b hb n1 n2)).trans g⟩
theorem FI.ints {x : FB} {W0 : World} {p : List Fn} {f : Fn} {E : Ents} {w w' : World} {v : Value} {l : List Int} (h : FI x W0 p f E w) (hv : IntsAt w v l) (hw : Wr x.Rs x.Rm w w') : IntsAt w' v l := by
  obtain ⟨V, _, h2, h3, _⟩ := h.hRs
  exact hv.wr h2 h3 h.hRm hw
theorem FI.below {x : FB} {W0 : World} {p : List Fn} {f : Fn} {E : Ents} {w w' : World} (h : FI x W0 p f E w) (hb : Below w.heap.size w w') : FI x W0 p f E w' := by
  obtain ⟨V, h1, h2, h3, h4⟩ := h.hRs
  refine ⟨h.bel.trans (hb.mono h.bel.size), h.len, (hb.block _ (heap_lt h.hRm)).trans h.hRm, ⟨V, h1, (hb.block _ (heap_lt h2)).trans h2, h3, fun k s hk => ?_⟩, (hb.block _ (heap_lt h.hbm)).trans h.hbm, (hb.block _ (heap_lt h.hbs)).trans h.hbs, (hb.block _ (heap_lt h.hbf)).trans h.hbf, (hb.block _ (heap_lt h.hbp)).trans h.hbp, (hb.block _ (heap_lt h.hbc)).trans h.hbc, h.ok⟩
  obtain ⟨v, a, b, c⟩ := h4 k s hk
  exact ⟨v, a, b.below hb, c⟩
/-- what a visit answers. -/
def ComeP (x : FB) (W0 : World) (p : List Fn) (f : Fn) (E : Ents) (k : Nat) (s : List Int) (w : World) (e : Ending) (w' : World) : Prop :=
  ∃ ok E', e = .returned (.bool ok) ∧ FI x W0 p f E' w' ∧ Wr x.Rs x.Rm w w' ∧
    (∀ e', FitsBy p f e' → leE (ent E) e' → (∃ s', e' k = some s' ∧ leS s s' = true) → ok = true ∧ leE (ent E') e') ∧
    (ok = true → Went p f E E' ∧ k < f.2.2.2.length ∧ ∃ s', ent E' k = some s' ∧ leS s s' = true)
def ComeH (x : FB) (W0 : World) (p : List Fn) (f : Fn) (n : Nat) : Prop :=
  ∀ (E : Ents) (k : Nat) (s : List Int) (vs : Value) (w : World), mu E ≤ n → FI x W0 p f E w → k ≤ f.2.2.2.length → IntsAt w vs s → NilOk vs → s.length ≤ 8 → tyL s →
    Calls Try.prog 60 (#[.int .i64 k, vs] ++ caps x) w (ComeP x W0 p f E k s w)
set_option maxRecDepth 100000 in
set_option maxHeartbeats 1000000 in
theorem come1_any (x : FB) (W0 : World) (p : List Fn) (f : Fn) (n : Nat) (ih : ComeH x W0 p f n) (E : Ents) (k bl : Nat) (s : List Int) (vs : Value) (w : World) (hmu : mu E ≤ n) (hI : FI x W0 p f E w) (hk : k ≤ f.2.2.2.length) (hl : w.heap[bl]? = some (.cells #[vs] 23 (0, 0))) (hv : IntsAt w vs s) (hn : NilOk vs) (h8 : s.length ≤ 8) (ht : tyL s) :
    Calls Try.prog 63 #[.int .i64 k, .pointer (some ⟨x.bc, 0, none⟩), .pointer (some ⟨bl, 0, none⟩)] w fun e w' => ∃ e1, ComeP x W0 p f E k s w e1 w' ∧ ∃ ok, e1 = .returned (.bool ok) ∧ e = .returned (.bool (!ok)) := by
  have c1 := cell_at' hI.hbc 0
  have c2 := cell_at' hl 0
  simp at c1 c2
  have HC := hideP (ih E k s vs w hmu hI hk hv hn h8 ht)
  obtain ⟨pv, cv, hvs, _, _⟩ := id hv
  subst hvs
  dsimp only [caps] at c1
  clear hI hl hv ih
  go_enter Try.func63, Try.ntmps63
  go_wp2_with fail
  refine HC.out.mono ?_
  rintro e w2 ⟨ok, E', rfl, h1, h2, h3, h4⟩
  go_wp2
  go_ret
  exact ⟨_, ⟨ok, E', rfl, h1, h2, h3, h4⟩, ok, rfl, rfl⟩
/-- what the round over the next places answers. -/
def AllP (x : FB) (W0 : World) (p : List Fn) (f : Fn) (E : Ents) (L : List Nat) (s : List Int) (w : World) (ok : Bool) (w' : World) : Prop :=
  ∃ E', FI x W0 p f E' w' ∧ Wr x.Rs x.Rm w w' ∧
    (∀ e', FitsBy p f e' → leE (ent E) e' → (∀ k ∈ L, ∃ s', e' k = some s' ∧ leS s s' = true) → ok = true ∧ leE (ent E') e') ∧
    (ok = true → Went p f E E' ∧ ∀ k ∈ L, k < f.2.2.2.length ∧ ∃ s', ent E' k = some s' ∧ leS s s' = true)
def IdxP (x : FB) (W0 : World) (p : List Fn) (f : Fn) (E : Ents) (L : List Nat) (s : List Int) (w : World) (e : Ending) (w' : World) : Prop := ∃ r ok, e = .returned (.int .i64 r) ∧ decide (0 ≤ r) = !ok ∧ AllP x W0 p f E L s w ok w'
theorem ents8 {x : FB} {W0 : World} {p : List Fn} {f : Fn} {E : Ents} {w : World} (h : FI x W0 p f E w) : ∀ k s, ent E k = some s → s.length ≤ 8 := fun k s hs => (h.ok k s (ent_some hs)).1
set_option maxRecDepth 100000 in
set_option maxHeartbeats 2000000 in
theorem indexCome_any (x : FB) (W0 : World) (p : List Fn) (f : Fn) (n : Nat) (ih : ComeH x W0 p f n) (E : Ents) (L : List Nat) (bl : Nat) (s : List Int) (vs : Value) (pL : Option Addr) (cL : Nat) (w : World) (hmu : mu E ≤ n) (hI : FI x W0 p f E w) (hL : ∀ k ∈ L, k ≤ f.2.2.2.length) (hl : w.heap[bl]? = some (.cells #[vs] 23 (0, 0))) (hbl : bl ≠ x.Rs ∧ bl ≠ x.Rm) (hv : IntsAt w vs s) (hn : NilOk vs) (h8 : s.length ≤ 8) (ht : tyL s) (hvL : IntsAt w (.slice pL L.length cL) (L.map Int.ofNat)) (hLl : L.length ≤ 41) :
    Calls Try.prog 48 #[.slice pL L.length cL, .func (.func 63) #[] #[.pointer (some ⟨x.bc, 0, none⟩), .pointer (some ⟨bl, 0, none⟩)]] w (IdxP x W0 p f E L s w) := by
  have HI := hideP hI
  have HV := hideP hv
  have HVL := hideP hvL
  have HL := hideP hL
  have HLB := hideP hl
  clear hI hv hvL hL hl
  go_enter Try.func48, Try.ntmps48
  go_wp2
  go_loopw [5, 8] (fun _ i wr => ∃ (j : Nat) (E' : Ents), j ≤ L.length ∧ i = .int .i64 j ∧ FI x W0 p f E' wr ∧ Wr x.Rs x.Rm w wr ∧ (∀ e', FitsBy p f e' → leE (ent E) e' → (∀ k ∈ L, ∃ s', e' k = some s' ∧ leS s s' = true) → leE (ent E') e') ∧ Went p f E E' ∧ ∀ k ∈ L.take j, k < f.2.2.2.length ∧ ∃ s', ent E' k = some s' ∧ leS s s' = true) (fun _ i _ => L.length - (intOf i).toNat)
  case atStart => exact ⟨0, E, Nat.zero_le _, rfl, HI.out, Wr.refl _ _ _, fun _ _ h _ => h, Went.refl _ _ _, by simp⟩
  case round =>
    rename World => w2
    obtain ⟨j, E2, hj, rfl, hI2, hw2, hso, hwe, hall⟩ := hrel
    by_cases hjl : j < L.length
    · have hjli : (j : Int) < (L.length : Int) := by omega
      obtain ⟨k, hk⟩ := at_of_lt hjl
      have hvL2 := HI.out.ints HVL.out hw2
      have hv2 := HI.out.ints HV.out hw2
      have hlb2 := (hw2.block bl (heap_lt HLB.out) hbl.1 hbl.2).trans HLB.out
      have hmu2 : mu E2 ≤ n := Nat.le_trans (mu_mono (by rw [hI2.len, HI.out.len]) (ents8 hI2) hwe.le) hmu
      obtain ⟨p', c', he, _, hc⟩ := hvL2
      obtain ⟨b, off, hp, hb, g⟩ := hc j (Int.ofNat k) (by rw [List.getElem?_map, hk]; rfl)
      rw [List.length_map] at he
      cases he
      subst hp
      have g' : w2.cell? ⟨b, off + j, none⟩ = some (.int .i64 (k : Int)) := g
      have HC := hideP (come1_any x W0 p f n ih E2 k bl s vs w2 hmu2 hI2 (HL.out k (List.mem_of_getElem? hk)) hlb2 hv2 hn h8 ht)
      have HK := hideP hk
      have HALL := hideP hall
      have HSO := hideP hso
      have HWE := hideP hwe
      clear hc g hk hall hso hwe hI2 hlb2
      go_wp2_with fail
      refine HC.out.mono ?_
      rintro e w3 ⟨e1, ⟨ok, E3, rfl, hI3, hw3, hs3, ho3⟩, ok', hok, rfl⟩
      cases hok
      cases ok
      · go_wp2
        go_ret
        refine ⟨j, false, rfl, by simp, E3, hI3, hw2.trans hw3, fun e' hf hle hto => ?_, fun h => by cases h⟩
        have := hs3 e' hf (HSO.out e' hf hle hto) (hto k (List.mem_of_getElem? HK.out))
        exact absurd this.1 (by decide)
      · go_wp2
        go_roundw
        case rel =>
          obtain ⟨hwe3, hk3, hsk3⟩ := ho3 trivial
          refine ⟨j + 1, E3, by omega, by go_num, hI3, hw2.trans hw3, fun e' hf hle hto => ?_, HWE.out.trans hwe3, fun y hy => ?_⟩
          · exact (hs3 e' hf (HSO.out e' hf hle hto) (hto k (List.mem_of_getElem? HK.out))).2
          · rw [take_snoc L j k HK.out] at hy
            rcases List.mem_append.1 hy with hy | hy
            · obtain ⟨h1, s', h2, h3⟩ := HALL.out y hy
              obtain ⟨s'', h4, h5⟩ := hwe3.le y s' h2
              exact ⟨h1, s'', h4, leS_trans h3 h5⟩
            · simp at hy
              subst hy
              exact ⟨hk3, hsk3⟩
        case measure => simp [intOf]; omega
    · have hjli : ¬ (j : Int) < (L.length : Int) := by omega
      have HI2 := hideP hI2
      have HALL := hideP hall
      have HSO := hideP hso
      have HWE := hideP hwe
      clear hI2 hall hso hwe
      go_wp2
      go_ret
      refine ⟨-1, true, rfl, by decide, E2, HI2.out, hw2, fun e' hf hle hto => ⟨rfl, HSO.out e' hf hle hto⟩, fun _ => ⟨HWE.out, ?_⟩⟩
      have := HALL.out
      rw [List.take_of_length_le (by omega)] at this
      exact this
set_option maxRecDepth 100000 in
set_option maxHeartbeats 1000000 in
theorem containsCome_any (x : FB) (W0 : World) (p : List Fn) (f : Fn) (n : Nat) (ih : ComeH x W0 p f n) (E : Ents) (L : List Nat) (bl : Nat) (s : List Int) (vs : Value) (pL : Option Addr) (cL : Nat) (w : World) (hmu : mu E ≤ n) (hI : FI x W0 p f E w) (hL : ∀ k ∈ L, k ≤ f.2.2.2.length) (hl : w.heap[bl]? = some (.cells #[vs] 23 (0, 0))) (hbl : bl ≠ x.Rs ∧ bl ≠ x.Rm) (hv : IntsAt w vs s) (hn : NilOk vs) (h8 : s.length ≤ 8) (ht : tyL s) (hvL : IntsAt w (.slice pL L.length cL) (L.map Int.ofNat)) (hLl : L.length ≤ 41) :
    Calls Try.prog 37 #[.slice pL L.length cL, .func (.func 63) #[] #[.pointer (some ⟨x.bc, 0, none⟩), .pointer (some ⟨bl, 0, none⟩)]] w fun e w' => ∃ ok, e = .returned (.bool (!ok)) ∧ AllP x W0 p f E L s w ok w' := by
  have HX := hideP (indexCome_any x W0 p f n ih E L bl s vs pL cL w hmu hI hL hl hbl hv hn h8 ht hvL hLl)
  clear ih hI hL hl hv hvL
  go_enter Try.func37, Try.ntmps37
  go_wp2_with fail
  refine HX.out.mono ?_
  rintro e w2 ⟨r, ok, rfl, hr, hA⟩
  have HR := hideP hr
  have HA := hideP hA
  clear hr hA
  go_wp2
  go_ret
  exact ⟨ok, by rw [← HR.out]; rfl, HA.out⟩
end Go.Proofs.Ytenaionchlnpoab

