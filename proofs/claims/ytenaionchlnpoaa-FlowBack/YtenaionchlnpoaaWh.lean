/- op.Decode. -/
import Derived.Test.YtenaionchlnpoaaWg
namespace Go.Proofs.Ytenaionchlnpoaa
open Go.RowKit Go.Shelf
set_option linter.unusedSimpArgs false
set_option linter.unusedVariables false
attribute [local go_sem] Oper.semAt_some
/-- what Decode makes of what comes. -/
def dec : List ((Int × Int) × Int) → List (Int × Int) → List (Int × Int) × Int
  | [], acc => (acc, 0)
  | x :: r, acc => if x.2 = 0 then (if acc.length = 40 then ([], 2) else dec r (acc ++ [x.1])) else ([], x.2)
theorem dec_ok (p : List ((Int × Int) × Int)) : ∀ (r : List ((Int × Int) × Int)) (acc : List (Int × Int)), (∀ x ∈ p, x.2 = 0) → acc.length + p.length ≤ 40 → dec (p ++ r) acc = dec r (acc ++ p.map Prod.fst) := by
  induction p with
  | nil => intro r acc _ _; simp
  | cons x q ih =>
    intro r acc h hl
    simp only [List.length_cons] at hl
    rw [List.cons_append, dec, if_pos (h x (by simp)), if_neg (by omega), ih r _ (fun y hy => h y (by simp [hy])) (by simp; omega)]
    simp
/-- where a round has left, and with which errno. -/
def stopErr (pre : List ((Int × Int) × Int)) (er : Int) : Prop := ∃ p x, pre = p ++ [x] ∧ (∀ y ∈ p, y.2 = 0) ∧ p.length ≤ 40 ∧ ((¬ x.2 = 0 ∧ er = x.2) ∨ (x.2 = 0 ∧ p.length = 40 ∧ er = 2))
theorem dec_stop {pre its : List ((Int × Int) × Int)} {er : Int} (h : stopErr pre er) (hp : pre <+: its) : dec its [] = ([], er) := by
  obtain ⟨p, x, rfl, hok, hl, hx⟩ := h
  obtain ⟨t, rfl⟩ := hp
  rw [List.append_assoc, dec_ok p _ _ hok (by simpa using hl)]
  rcases hx with ⟨h1, rfl⟩ | ⟨h1, h2, rfl⟩
  · simp [dec, h1]
  · simp [dec, h1, h2]
/-- the cells of ops. -/
def opCells (l : List (Int × Int)) : List Value := l.flatMap fun o => [.int .i64 o.1, .int .i64 o.2]
theorem opCells_length (l : List (Int × Int)) : (opCells l).length = l.length * 2 := by
  induction l with
  | nil => rfl
  | cons o r ih => simp [opCells] at *; omega
theorem opCells_at (l : List (Int × Int)) : ∀ (k : Nat) (o : Int × Int), l[k]? = some o → (opCells l)[k * 2]? = some (.int .i64 o.1) ∧ (opCells l)[k * 2 + 1]? = some (.int .i64 o.2) := by
  induction l with
  | nil => intro k o h; simp at h
  | cons x r ih =>
    intro k o h
    cases k with
    | zero => simp at h; subst h; simp [opCells]
    | succ k =>
      have := ih k o (by simpa using h)
      rw [show (k + 1) * 2 = k * 2 + 1 + 1 from by omega]
      simpa [opCells] using this
theorem lt_of_at' {α : Type} {l : List α} {k : Nat} {o : α} (h : l[k]? = some o) : k < l.length := (List.getElem?_eq_some_iff.1 h).1
theorem opsAt_of_row {W : World} {base : Nat} {v : Value} {l : List (Int × Int)} (h : W.ownsRow base 23 2 v l.length (opCells l)) : OpsAt W v l := by
  rcases h.2 with ⟨rfl, h0⟩ | ⟨g, cap, cur, rfl, hb, hg, hn, hc, hs, ht⟩
  · refine ⟨none, 0, by rw [h0], by rw [h0]; exact Nat.zero_le _, fun k o hk => ?_⟩
    have := lt_of_at' hk
    omega
  · refine ⟨_, cap, rfl, by omega, fun k o hk => ⟨g, 0, rfl, (Array.getElem?_eq_some_iff.1 hg).1, ?_, ?_⟩⟩
    · have hk2 := lt_of_at' hk
      have := (opCells_at l k o hk).1
      rw [← ht, List.getElem?_take_of_lt (by omega)] at this
      simpa [World.cell?, hg] using this
    · have hk2 := lt_of_at' hk
      have := (opCells_at l k o hk).2
      rw [← ht, List.getElem?_take_of_lt (by omega)] at this
      simpa [World.cell?, hg] using this
/-- a slice whose memory is from block B on. -/
def NewSl (W : World) (B : Nat) (e : TypeId) (v : Value) : Prop := ∀ a n c, v = .slice (some a) n c → B ≤ a.block ∧ ∃ cs fz, W.heap[a.block]? = some (.cells cs e fz)
theorem newSl_of_row {W : World} {base : Nat} {e : TypeId} {size : Nat} {v : Value} {n : Nat} {xs : List Value} (h : W.ownsRow base e size v n xs) : NewSl W base e v := fun a m c hv => by
  rcases h.2 with ⟨rfl, _⟩ | ⟨g, cap, cur, rfl, hb, hg, _⟩
  · cases hv
  · cases hv; exact ⟨hb, _, _, hg⟩
/-- between two rounds: what has come lies in l; nothing is in the results yet. -/
def DecI (w : World) (pre : List ((Int × Int) × Int)) (W : World) : Prop :=
  ((((∃ v, Boxed W (w.heap.size + 1 + 1) 24 v ∧ W.ownsRow w.heap.size 23 2 v pre.length (opCells (pre.map Prod.fst)) ∧ True) ∧ Boxed W w.heap.size 24 (.slice none 0 0)) ∧ Boxed W (w.heap.size + 1) 25 (.int .i64 0)) ∧ ((∀ x ∈ pre, x.2 = 0) ∧ pre.length ≤ 40)) ∧ Below w.heap.size w W
/-- a round has left: the results hold nothing, and the errno. -/
def DecX (w : World) (c : Code) (pre : List ((Int × Int) × Int)) (W : World) : Prop :=
  c = .ret ∧ ∃ er, ((Boxed W w.heap.size 24 (.slice none 0 0) ∧ Boxed W (w.heap.size + 1) 25 (.int .i64 er)) ∧ stopErr pre er) ∧ Below w.heap.size w W
theorem decI_own (w : World) (B : Nat) (hB : w.heap.size ≤ B) : OwnFrom B (DecI w) :=
  OwnFrom.and (OwnFrom.and (OwnFrom.and (OwnFrom.and (Own.from (holdsRow_own w.heap.size (w.heap.size + 1 + 1) 24 23 2 (fun pre : List ((Int × Int) × Int) => pre.length) (fun pre => opCells (pre.map Prod.fst)) (fun _ _ => True)) _) (Own.from (boxed_own _ _ _) _)) (Own.from (boxed_own _ _ _) _)) (ownFrom_pure _ _)) (ownFrom_below (Nat.le_refl _) hB)
theorem decX_own (w : World) (B : Nat) (hB : w.heap.size ≤ B) (c : Code) : OwnFrom B (DecX w c) := fun pre X Y row hs hg hr => by
  obtain ⟨hc, er, ⟨⟨ha, hb⟩, hst⟩, hbl⟩ := hs
  exact ⟨hc, er, ⟨⟨boxed_own w.heap.size 24 (fun (_ : Unit) => Value.slice none 0 0) () X Y row ha hg (fun r e => (hr r e).2), boxed_own (w.heap.size + 1) 25 (fun (_ : Unit) => Value.int .i64 er) () X Y row hb hg (fun r e => (hr r e).2)⟩, hst⟩, ownFrom_below (β := Unit) (Nat.le_refl _) hB () X Y row hbl hg hr⟩
theorem cell_at' {w : World} {k : Nat} {c : Array Value} {t : TypeId} {fz : Nat × Nat} (h : w.heap[k]? = some (.cells c t fz)) (j : Nat) : w.cell? ⟨k, j, none⟩ = c[j]? := by
  unfold World.cell?; rw [h]; rfl
theorem infoOp : (Try.prog.info? 23).map (fun i => (i.zero, i.size, i.bytes)) = some (some (.agg #[.int .i64 0, .int .i64 0]), 2, 16) := by kernel_rfl
set_option maxRecDepth 100000 in
set_option maxHeartbeats 4000000 in
theorem decode_new (s : ByteArray) (hm : s.size ≤ maxLen) (w : World) :
    Calls Try.prog 10 #[.string s] w fun e w' => ∃ v, e = .returned (.tuple #[v, .int .i64 (dec (items s.size s.data.toList) []).2]) ∧ OpsAt w' v (dec (items s.size s.data.toList) []).1 ∧ Below w.heap.size w w' ∧ NewSl w' w.heap.size 23 v := by
  obtain ⟨its, hits⟩ : ∃ its, items s.size s.data.toList = its := ⟨_, rfl⟩
  have hst := fun n hn bs W hB => each_stops n hn bs s hm W hB
  rw [hits] at hst
  rw [hits]
  have HST : Hid (∀ (n : Nat) (hn : 1 ≤ n) (bs : Nat) (W : World) (hB : Boxed W bs 9 (.string s)), SeqStopsK Fence.wide n Try.prog 60 #[.pointer (some ⟨bs, 0, none⟩)] encsI (KpS bs s) (fun ys => ys = its) (fun pre => pre <+: its) its.length W) := hst
  clear hst hits
  obtain ⟨i0, hi, hz0, hz1, hz2⟩ := info_parts infoOp
  refine (callsIn_wide (n := 5)).1 ?_
  have h1 : 1 ≤ 5 := by omega
  refine callsIn_of_wp_marks Try.func10 rfl trivial ?_ rfl
  simp only [Try.ntmps10, List.size_toArray, List.length_cons, List.length_nil, Nat.reduceAdd, Nat.reduceSub, Array.replicate_succ, Array.replicate_zero, List.push_toArray, List.append_toArray, List.nil_append, List.cons_append]
  gi_wp2_with fail
  refine ⟨trivial, ?_⟩
  refine (callsIn_wide.2 (each_any s _)).mono ?_
  rintro e w' ⟨rfl, rfl⟩
  gi_wp2
  have hB0 : Below w.heap.size w ((((w.alloc (.cells #[.slice none 0 0] 24)).alloc (.cells #[.int .i64 0] 25)).alloc (.cells #[.slice none 0 0] 24)).alloc (.cells #[.string s] 9)) := ((((Below.refl _ w).alloc (Nat.le_refl _) _).alloc (by simp) _).alloc (by simp; omega) _).alloc (by simp; omega) _
  have b0 := (((Boxed.new w 24 (.slice none 0 0)).alloc (.cells #[.int .i64 0] 25)).alloc (.cells #[.slice none 0 0] 24)).alloc (.cells #[.string s] 9)
  have b1 := ((Boxed.new (w.alloc (.cells #[.slice none 0 0] 24)) 25 (.int .i64 0)).alloc (.cells #[.slice none 0 0] 24)).alloc (.cells #[.string s] 9)
  have b2 := (Boxed.new ((w.alloc (.cells #[.slice none 0 0] 24)).alloc (.cells #[.int .i64 0] 25)) 24 (.slice none 0 0)).alloc (.cells #[.string s] 9)
  have b3 := Boxed.new (((w.alloc (.cells #[.slice none 0 0] 24)).alloc (.cells #[.int .i64 0] 25)).alloc (.cells #[.slice none 0 0] 24)) 9 (.string s)
  simp only [World.size_alloc] at b1 b2 b3
  obtain ⟨W0, hW0⟩ : ∃ W0, ((((w.alloc (.cells #[.slice none 0 0] 24)).alloc (.cells #[.int .i64 0] 25)).alloc (.cells #[.slice none 0 0] 24)).alloc (.cells #[.string s] 9)) = W0 := ⟨_, rfl⟩
  have hsz : W0.heap.size = w.heap.size + 1 + 1 + 1 + 1 := by rw [← hW0]; simp
  rw [hW0] at hB0 b0 b1 b2 b3 ⊢
  clear hW0
  refine wpIn_rangeFunc_ownH rfl h1 (gf := 60) (lb := #[.pointer (some ⟨w.heap.size + 1 + 1 + 1, 0, none⟩)]) rfl trivial (enters_of Try.func60 (by kernel_rfl) rfl)
    (HST.out (5 - 1) (by omega) (w.heap.size + 1 + 1 + 1) W0 b3) kpS_t kpS_b (Below.refl _ _) (fun _ => rfl)
    (DecI w) (DecX w) (decI_own w _ (by omega)) (decX_own w _ (by omega))
    ⟨⟨⟨⟨⟨_, b2, World.ownsRow_nil _ _ _ _, trivial⟩, b0⟩, b1⟩, by simp, by simp⟩, hB0⟩
    (fun x a' W => ∃ Bx, w.heap.size + 1 + 1 < Bx ∧ W.heap[Bx]? = some (.cells #[.int .i64 x.1.1, .int .i64 x.1.2] 23 (0, 0)) ∧ a' = { tmps := #[.string s, undef, .pointer (some ⟨w.heap.size, 0, none⟩), .pointer (some ⟨w.heap.size + 1, 0, none⟩), .pointer (some ⟨w.heap.size + 1 + 1, 0, none⟩), .pointer (some ⟨Bx, 0, none⟩), .int .i64 x.2, .string s, .func (.func 60) #[] #[.pointer (some ⟨w.heap.size + 1 + 1 + 1, 0, none⟩)], .agg #[.int .i64 x.1.1, .int .i64 x.1.2], .int .i64 x.2, undef, undef, undef, undef, undef, undef, undef, undef, undef, undef, undef], defers := [] })
    (fun x a' _ X Y row hs hg hr => by
      obtain ⟨Bx, h1, h2, h3⟩ := hs
      refine ⟨Bx, h1, (hg.block Bx (Array.getElem?_eq_some_iff.1 h2).1 (fun e => ?_)).trans h2, h3⟩
      obtain ⟨_, o, ho, hc⟩ := hr Bx e.symm
      rw [h2] at ho; cases ho; cases hc)
    ?assign ?body ?done ?stop
  case assign =>
    rintro l pre x W K ⟨⟨⟨⟨⟨v, hv, hrow, _⟩, c0⟩, c1⟩, hok, hl⟩, hB⟩ hK
    gi_wp2
    exact hK _ _ ((KeepsOthers.alloc _ _).from _) (fun hbx => hbx.alloc _) ⟨⟨⟨⟨⟨v, hv.alloc _, hrow.alloc _, trivial⟩, c0.alloc _⟩, c1.alloc _⟩, hok, hl⟩, hB.alloc hB.size _⟩ ⟨W.heap.size, hv.lt, World.alloc_heap_new W _, rfl⟩
  case body =>
    rintro l pre ⟨⟨c, a⟩, er⟩ a' W hl ⟨r, hr⟩ ⟨⟨⟨⟨⟨v, hv, hrow, _⟩, c0⟩, c1⟩, hok, h40⟩, hB⟩ ⟨Bx, hBx, bX, rfl⟩ hlt
    have HOK : Hid (∀ x ∈ pre, x.2 = 0) := hok
    clear hok HST hr hlt
    have k0 := c0.cell
    have k1 := c1.cell
    have z0 := c0.frozen
    have z1 := c1.frozen
    have hleave : ∀ e', stopErr (pre ++ [((c, a), er)]) e' → KeepsFrom W0.heap.size W ((W.setCell ⟨w.heap.size, 0, none⟩ (.slice none 0 0)).setCell ⟨w.heap.size + 1, 0, none⟩ (.int .i64 e')) ∧ DecX w .ret (pre ++ [((c, a), er)]) ((W.setCell ⟨w.heap.size, 0, none⟩ (.slice none 0 0)).setCell ⟨w.heap.size + 1, 0, none⟩ (.int .i64 e')) := fun e' hst =>
      ⟨((KeepsOthers.setCell _ _ _).trans (KeepsOthers.setCell _ _ _)).from _, rfl, e', ⟨⟨(c0.set _).other (by omega) _, (c1.other (by omega) _).set _⟩, hst⟩, (hB.setCell (p := ⟨w.heap.size, 0, none⟩) (Nat.le_refl _) _).setCell (p := ⟨w.heap.size + 1, 0, none⟩) (by simp) _⟩
    have HL : Hid (∀ e', stopErr (pre ++ [((c, a), er)]) e' → KeepsFrom W0.heap.size W ((W.setCell ⟨w.heap.size, 0, none⟩ (.slice none 0 0)).setCell ⟨w.heap.size + 1, 0, none⟩ (.int .i64 e')) ∧ DecX w .ret (pre ++ [((c, a), er)]) ((W.setCell ⟨w.heap.size, 0, none⟩ (.slice none 0 0)).setCell ⟨w.heap.size + 1, 0, none⟩ (.int .i64 e'))) := hleave
    clear hleave
    have HZ : Hid (W0.heap.size = w.heap.size + 1 + 1 + 1 + 1) := hsz
    clear hsz
    by_cases he : er = 0
    · subst he
      have hvs : ∃ p cap, v = .slice p pre.length cap := by
        rcases hrow.2 with ⟨rfl, h0⟩ | ⟨g, cap, cur, rfl, _⟩
        · exact ⟨none, 0, by rw [h0]⟩
        · exact ⟨_, _, rfl⟩
      obtain ⟨p, cap, rfl⟩ := hvs
      have k2 := hv.cell
      by_cases hfull : pre.length = 40
      · have hf' : ((pre.length : Int) == 40) = true := by simp; omega
        have HF : Hid (pre.length = 40) := hfull
        clear hfull
        gi_wp2
        exact HL.out 2 ⟨pre, _, rfl, HOK.out, h40, .inr ⟨rfl, HF.out, rfl⟩⟩
      · have hf' : ((pre.length : Int) == 40) = false := by simp; omega
        have g0 : W.cell? ⟨Bx, 0, none⟩ = some (.int .i64 c) := by simp [World.cell?, bX]
        have g1 : W.cell? ⟨Bx, 0 + 1, none⟩ = some (.int .i64 a) := by simp [World.cell?, bX]
        have hnews : ∀ (j : Nat) (u : Value), [Value.int .i64 c, Value.int .i64 a][j]? = some u → (W.alloc (.cells #[.int .i64 c, .int .i64 a] 23)).cell? ((⟨W.heap.size, 0, none⟩ : Addr).add j) = some u := by
          intro j u hj
          have hn := World.alloc_heap_new W (.cells #[.int .i64 c, .int .i64 a] 23)
          match j, hj with
          | 0, hj => simp at hj; subst hj; exact cell_at' hn 0
          | 1, hj => simp at hj; subst hj; exact cell_at' hn 1
          | k + 2, hj => simp at hj
        have hso : ∀ u ∈ [Value.int .i64 c, Value.int .i64 a], u.oneCell' = true := by
          intro u hu; simp at hu; rcases hu with rfl | rfl <;> rfl
        gi_wp2_with (gi_at_builtin; refine wpListIn_append_own _ rfl _ _ 24 rfl w.heap.size 23 i0 (.agg #[.int .i64 0, .int .i64 0]) 2 16 Try.underlying24 hi hz0 hz1 hz2 rfl (by decide) _ _ _ rfl (hrow.alloc _) ⟨W.heap.size, 0, none⟩ 1 1 [.int .i64 c, .int .i64 a] rfl rfl hnews hso (by unfold maxLen; omega) (by omega) (by have := hB.size; simp; omega) ?_; intro v' w1 hown' hgrow _; obtain ⟨g', cap', rfl⟩ := ownsRow_succ hown'; obtain ⟨hv1, hv2, hr2, hk2, hb2⟩ := hv.appended (by decide) hrow hB.size (by omega) hown' hgrow; have hc1 := hv1.cell; have hf1 := hv1.frozen)
        have e0 := ((c0.alloc (.cells #[.int .i64 c, .int .i64 a] 23)).kept hgrow (c0.not_row (by decide) hrow)).other (B' := w.heap.size + 1 + 1) (by omega) (.slice (some ⟨g', 0, none⟩) (pre.length + 1) cap')
        have e1 := ((c1.alloc (.cells #[.int .i64 c, .int .i64 a] 23)).kept hgrow (c1.not_row (by decide) hrow)).other (B' := w.heap.size + 1 + 1) (by omega) (.slice (some ⟨g', 0, none⟩) (pre.length + 1) cap')
        refine ⟨hk2.from _, fun bx => ((bx.alloc (.cells #[.int .i64 c, .int .i64 a] 23)).kept hgrow (bx.not_row (by decide) hrow)).other (B' := w.heap.size + 1 + 1) (by omega) _, ⟨⟨⟨⟨_, hv2, ?_, trivial⟩, e0⟩, e1⟩, ?_, by simp; omega⟩, hB.trans hb2⟩
        · have e : opCells ((pre ++ [((c, a), (0 : Int))]).map Prod.fst) = opCells (pre.map Prod.fst) ++ [.int .i64 c, .int .i64 a] := by simp [opCells]
          rw [e, List.length_append, List.length_singleton]
          exact hr2
        · intro x hx
          rcases List.mem_append.1 hx with hx | hx
          · exact HOK.out x hx
          · simp at hx; subst hx; rfl
    · have he' : (er != 0) = true := by simp [he]
      gi_wp2
      exact HL.out er ⟨pre, _, rfl, HOK.out, h40, .inl ⟨he, rfl⟩⟩
  case done =>
    rintro D ys W hD rfl ⟨⟨⟨⟨⟨v, hv, hrow, _⟩, c0⟩, c1⟩, hok, h40⟩, hB⟩ hK
    have hdec : dec ys [] = (ys.map Prod.fst, 0) := by
      have := dec_ok ys [] [] hok (by simpa using h40)
      simpa [dec] using this
    have HD : Hid (dec ys [] = (ys.map Prod.fst, 0)) := hdec
    clear hdec hok HST
    have hvs : ∃ p cap, v = .slice p ys.length cap := by
      rcases hrow.2 with ⟨rfl, h0⟩ | ⟨g, cap, cur, rfl, _⟩
      · exact ⟨none, 0, by rw [h0]⟩
      · exact ⟨_, _, rfl⟩
    obtain ⟨p, cap, rfl⟩ := hvs
    have k0 := c0.cell
    have k1 := c1.cell
    have k2 := hv.cell
    have z0 := c0.frozen
    have z1 := c1.frozen
    gi_wp2
    have hK' := ((KeepsOthers.setCell W ⟨w.heap.size, 0, none⟩ (.slice p ys.length cap)).trans (KeepsOthers.setCell _ ⟨w.heap.size + 1, 0, none⟩ (.int .i64 0))).same D _ hK rfl
    have r0 : Boxed ((W.setCell ⟨w.heap.size, 0, none⟩ (.slice p ys.length cap)).setCell ⟨w.heap.size + 1, 0, none⟩ (.int .i64 0)) w.heap.size 24 (.slice p ys.length cap) := (c0.set _).other (by omega) _
    have r1 : Boxed ((W.setCell ⟨w.heap.size, 0, none⟩ (.slice p ys.length cap)).setCell ⟨w.heap.size + 1, 0, none⟩ (.int .i64 0)) (w.heap.size + 1) 25 (.int .i64 0) := (c1.other (by omega) _).set _
    have hrow2 := (hrow.kept (grownBy_setCell' W w.heap.size (.slice p ys.length cap)) (.inr (c0.not_row (by decide) hrow).symm))
    have hrow3 := (hrow2.kept (grownBy_setCell' _ (w.heap.size + 1) (.int .i64 0)) (.inr ((c1.other (B' := w.heap.size) (by omega) _).not_row (by decide) hrow2).symm))
    have hB3 := (hB.setCell (p := ⟨w.heap.size, 0, none⟩) (Nat.le_refl _) (.slice p ys.length cap)).setCell (p := ⟨w.heap.size + 1, 0, none⟩) (by simp) (.int .i64 0)
    have q0 := (r0.kept (grownBy_putObj' _ D (.deferred none)) (fun e => by cases e; omega)).cell
    have q1 := (r1.kept (grownBy_putObj' _ D (.deferred none)) (fun e => by cases e; omega)).cell
    refine ⟨by simp, .inl ⟨_, _, rfl, run_takeDeferred hK', ?_⟩⟩
    refine ⟨.tuple #[.slice p ys.length cap, .int .i64 0], by simp [results, Try.results10, go_sem, q0, q1], _, by rw [HD.out], ?_, ?_, newSl_of_row (base := w.heap.size) (n := ys.length) (size := 2) (by have := ownsRow_putObj hrow3 (.deferred none) hK' rfl; simpa using this)⟩
    · rw [HD.out]
      refine opsAt_of_row (base := w.heap.size) ?_
      have := ownsRow_putObj hrow3 (.deferred none) hK' rfl
      simpa using this
    · exact hB3.trans (belowK_b (w := w) (Nat.le_refl _) _ D _ _ (by omega) hK' rfl rfl)
  case stop =>
    rintro D c pre W hD hpre ⟨rfl, er, ⟨⟨c0, c1⟩, hst⟩, hB⟩ hK
    have HD : Hid (dec its [] = ([], er)) := dec_stop hst hpre
    clear hst hpre HST
    gi_wp2
    have q0 := (c0.kept (grownBy_putObj' _ D (.deferred none)) (fun e => by cases e; omega)).cell
    have q1 := (c1.kept (grownBy_putObj' _ D (.deferred none)) (fun e => by cases e; omega)).cell
    refine ⟨by simp, .inl ⟨_, _, rfl, run_takeDeferred hK, ?_⟩⟩
    refine ⟨.tuple #[.slice none 0 0, .int .i64 er], by simp [results, Try.results10, go_sem, q0, q1], _, by rw [HD.out], ?_, ?_, fun a n c h => by cases h⟩
    · rw [HD.out]
      exact ⟨none, 0, rfl, Nat.zero_le _, fun k o hk => by simp at hk⟩
    · exact hB.trans (belowK_b (w := w) (Nat.le_refl _) _ D _ _ (by omega) hK rfl rfl)
theorem decode_any (s : ByteArray) (hm : s.size ≤ maxLen) (w : World) :
    Calls Try.prog 10 #[.string s] w fun e w' => ∃ v, e = .returned (.tuple #[v, .int .i64 (dec (items s.size s.data.toList) []).2]) ∧ OpsAt w' v (dec (items s.size s.data.toList) []).1 ∧ Below w.heap.size w w' :=
  (decode_new s hm w).mono fun _ _ ⟨v, h1, h2, h3, _⟩ => ⟨v, h1, h2, h3⟩
end Go.Proofs.Ytenaionchlnpoaa

