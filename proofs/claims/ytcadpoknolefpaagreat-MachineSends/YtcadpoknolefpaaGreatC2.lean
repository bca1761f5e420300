/- My texts Wh Wi Wj Mp Pm Pq Va Vb Ap Vc: what of them is needed, joined. -/
import Derived.Laws.StructEq
import Derived.Deep.QuietTactic
import Derived.BigQuiet
import Derived.Laws.AppendOwnNone
import Derived.Test.YtcadpoknolefpaaGreatC1
/- op.Decode. -/
namespace Go.Proofs.YtcadpoknolefpaaGreat
open Go.RowKit Go.Shelf
set_option linter.unusedSimpArgs false
set_option linter.unusedVariables false
attribute [local go_sem] Oper.semAt_some
def dec : List ((Int × Int) × Int) → List (Int × Int) → List (Int × Int) × Int
  | [], acc => (acc, 0)
  | x :: r, acc => if x.2 = 0 then (if acc.length = 40 then ([], 2) else dec r (acc ++ [x.1])) else ([], x.2)
theorem dec_ok (p : List ((Int × Int) × Int)) : ∀ (r : List ((Int × Int) × Int)) (acc : List (Int × Int)), (∀ x ∈ p, x.2 = 0) → acc.length + p.length ≤ 40 → dec (p ++ r) acc = dec r (acc ++ p.map Prod.fst) := by
  induction p with
  | nil => intro r acc _ _; simp
  | cons x q ih =>
    intro r acc h hl
    simp only [List.length_cons] at hl
    rw [List.cons_append, dec, if_pos (h x (by simp)), if_neg (by omega), ih r _ (fun y hy => h y (by simp [hy])) (by simp; omega)]
    simp
def stopErr (pre : List ((Int × Int) × Int)) (er : Int) : Prop := ∃ p x, pre = p ++ [x] ∧ (∀ y ∈ p, y.2 = 0) ∧ p.length ≤ 40 ∧ ((¬ x.2 = 0 ∧ er = x.2) ∨ (x.2 = 0 ∧ p.length = 40 ∧ er = 2))
theorem dec_stop {pre its : List ((Int × Int) × Int)} {er : Int} (h : stopErr pre er) (hp : pre <+: its) : dec its [] = ([], er) := by
  obtain ⟨p, x, rfl, hok, hl, hx⟩ := h
  obtain ⟨t, rfl⟩ := hp
  rw [List.append_assoc, dec_ok p _ _ hok (by simpa using hl)]
  rcases hx with ⟨h1, rfl⟩ | ⟨h1, h2, rfl⟩
  · simp [dec, h1]
  · simp [dec, h1, h2]
def opCells (l : List (Int × Int)) : List Value := l.flatMap fun o => [.int .i64 o.1, .int .i64 o.2]
theorem opCells_at (l : List (Int × Int)) : ∀ (k : Nat) (o : Int × Int), l[k]? = some o → (opCells l)[k * 2]? = some (.int .i64 o.1) ∧ (opCells l)[k * 2 + 1]? = some (.int .i64 o.2) := by
  induction l with
  | nil => intro k o h; simp at h
  | cons x r ih =>
    intro k o h
    cases k with
    | zero => simp at h; subst h; simp [opCells]
    | succ k =>
      have := ih k o (by simpa using h)
      rw [show (k + 1) * 2 = k * 2 + 1 + 1 from by omega]
      simpa [opCells] using this
theorem lt_of_at' {α : Type} {l : List α} {k : Nat} {o : α} (h : l[k]? = some o) : k < l.length := (List.getElem?_eq_some_iff.1 h).1
theorem opsAt_of_row {W : World} {base : Nat} {v : Value} {l : List (Int × Int)} (h : W.ownsRow base 43 2 v l.length (opCells l)) : OpsAt W v l := by
  rcases h.2 with ⟨rfl, h0⟩ | ⟨g, cap, cur, rfl, hb, hg, hn, hc, hs, ht⟩
  · refine ⟨none, 0, by rw [h0], by rw [h0]; exact Nat.zero_le _, fun k o hk => ?_⟩
    have := lt_of_at' hk
    omega
  · refine ⟨_, cap, rfl, by omega, fun k o hk => ⟨g, 0, rfl, (Array.getElem?_eq_some_iff.1 hg).1, ?_, ?_⟩⟩
    · have hk2 := lt_of_at' hk
      have := (opCells_at l k o hk).1
      rw [← ht, List.getElem?_take_of_lt (by omega)] at this
      simpa [World.cell?, hg] using this
    · have hk2 := lt_of_at' hk
      have := (opCells_at l k o hk).2
      rw [← ht, List.getElem?_take_of_lt (by omega)] at this
      simpa [World.cell?, hg] using this
def NewSl (W : World) (B : Nat) (e : TypeId) (v : Value) : Prop := ∀ a n c, v = .slice (some a) n c → B ≤ a.block ∧ ∃ cs fz, W.heap[a.block]? = some (.cells cs e fz)
theorem newSl_of_row {W : World} {base : Nat} {e : TypeId} {size : Nat} {v : Value} {n : Nat} {xs : List Value} (h : W.ownsRow base e size v n xs) : NewSl W base e v := fun a m c hv => by
  rcases h.2 with ⟨rfl, _⟩ | ⟨g, cap, cur, rfl, hb, hg, _⟩
  · cases hv
  · cases hv; exact ⟨hb, _, _, hg⟩
def DecI (w : World) (pre : List ((Int × Int) × Int)) (W : World) : Prop :=
  ((((∃ v, Boxed W (w.heap.size + 1 + 1) 76 v ∧ W.ownsRow w.heap.size 43 2 v pre.length (opCells (pre.map Prod.fst)) ∧ True) ∧ Boxed W w.heap.size 76 (.slice none 0 0)) ∧ Boxed W (w.heap.size + 1) 30 (.int .i64 0)) ∧ ((∀ x ∈ pre, x.2 = 0) ∧ pre.length ≤ 40)) ∧ Below w.heap.size w W
def DecX (w : World) (c : Code) (pre : List ((Int × Int) × Int)) (W : World) : Prop :=
  c = .ret ∧ ∃ er, ((Boxed W w.heap.size 76 (.slice none 0 0) ∧ Boxed W (w.heap.size + 1) 30 (.int .i64 er)) ∧ stopErr pre er) ∧ Below w.heap.size w W
theorem decI_own (w : World) (B : Nat) (hB : w.heap.size ≤ B) : OwnFrom B (DecI w) :=
  OwnFrom.and (OwnFrom.and (OwnFrom.and (OwnFrom.and (Own.from (holdsRow_own w.heap.size (w.heap.size + 1 + 1) 76 43 2 (fun pre : List ((Int × Int) × Int) => pre.length) (fun pre => opCells (pre.map Prod.fst)) (fun _ _ => True)) _) (Own.from (boxed_own _ _ _) _)) (Own.from (boxed_own _ _ _) _)) (ownFrom_pure _ _)) (ownFrom_below (Nat.le_refl _) hB)
theorem decX_own (w : World) (B : Nat) (hB : w.heap.size ≤ B) (c : Code) : OwnFrom B (DecX w c) := fun pre X Y row hs hg hr => by
  obtain ⟨hc, er, ⟨⟨ha, hb⟩, hst⟩, hbl⟩ := hs
  exact ⟨hc, er, ⟨⟨boxed_own w.heap.size 76 (fun (_ : Unit) => Value.slice none 0 0) () X Y row ha hg (fun r e => (hr r e).2), boxed_own (w.heap.size + 1) 30 (fun (_ : Unit) => Value.int .i64 er) () X Y row hb hg (fun r e => (hr r e).2)⟩, hst⟩, ownFrom_below (β := Unit) (Nat.le_refl _) hB () X Y row hbl hg hr⟩
theorem cell_at' {w : World} {k : Nat} {c : Array Value} {t : TypeId} {fz : Nat × Nat} (h : w.heap[k]? = some (.cells c t fz)) (j : Nat) : w.cell? ⟨k, j, none⟩ = c[j]? := by
  unfold World.cell?; rw [h]; rfl
theorem infoOp : (Tryz.prog.info? 43).map (fun i => (i.zero, i.size, i.bytes)) = some (some (.agg #[.int .i64 0, .int .i64 0]), 2, 16) := by kernel_rfl
set_option maxRecDepth 100000 in
set_option maxHeartbeats 4000000 in
theorem decode_new (s : ByteArray) (hm : s.size ≤ maxLen) (w : World) :
    Calls Tryz.prog 68 #[.string s] w fun e w' => ∃ v, e = .returned (.tuple #[v, .int .i64 (dec (items s.size s.data.toList) []).2]) ∧ OpsAt w' v (dec (items s.size s.data.toList) []).1 ∧ Below w.heap.size w w' ∧ NewSl w' w.heap.size 43 v := by
  obtain ⟨its, hits⟩ : ∃ its, items s.size s.data.toList = its := ⟨_, rfl⟩
  have hst := fun n hn bs W hB => each_stops n hn bs s hm W hB
  rw [hits] at hst
  rw [hits]
  have HST : Hid (∀ (n : Nat) (hn : 1 ≤ n) (bs : Nat) (W : World) (hB : Boxed W bs 9 (.string s)), SeqStopsK Fence.wide n Tryz.prog 153 #[.pointer (some ⟨bs, 0, none⟩)] encsI (KpS bs s) (fun ys => ys = its) (fun pre => pre <+: its) its.length W) := hst
  clear hst hits
  obtain ⟨i0, hi, hz0, hz1, hz2⟩ := info_parts infoOp
  refine (callsIn_wide (n := 5)).1 ?_
  have h1 : 1 ≤ 5 := by omega
  refine callsIn_of_wp_marks Tryz.func68 rfl trivial ?_ rfl
  simp only [Tryz.ntmps68, List.size_toArray, List.length_cons, List.length_nil, Nat.reduceAdd, Nat.reduceSub, Array.replicate_succ, Array.replicate_zero, List.push_toArray, List.append_toArray, List.nil_append, List.cons_append]
  gi_wp2_with fail
  refine ⟨trivial, ?_⟩
  refine (callsIn_wide.2 (each_any s _)).mono ?_
  rintro e w' ⟨rfl, rfl⟩
  gi_wp2
  have hB0 : Below w.heap.size w ((((w.alloc (.cells #[.slice none 0 0] 76)).alloc (.cells #[.int .i64 0] 30)).alloc (.cells #[.slice none 0 0] 76)).alloc (.cells #[.string s] 9)) := ((((Below.refl _ w).alloc (Nat.le_refl _) _).alloc (by simp) _).alloc (by simp; omega) _).alloc (by simp; omega) _
  have b0 := (((Boxed.new w 76 (.slice none 0 0)).alloc (.cells #[.int .i64 0] 30)).alloc (.cells #[.slice none 0 0] 76)).alloc (.cells #[.string s] 9)
  have b1 := ((Boxed.new (w.alloc (.cells #[.slice none 0 0] 76)) 30 (.int .i64 0)).alloc (.cells #[.slice none 0 0] 76)).alloc (.cells #[.string s] 9)
  have b2 := (Boxed.new ((w.alloc (.cells #[.slice none 0 0] 76)).alloc (.cells #[.int .i64 0] 30)) 76 (.slice none 0 0)).alloc (.cells #[.string s] 9)
  have b3 := Boxed.new (((w.alloc (.cells #[.slice none 0 0] 76)).alloc (.cells #[.int .i64 0] 30)).alloc (.cells #[.slice none 0 0] 76)) 9 (.string s)
  simp only [World.size_alloc] at b1 b2 b3
  obtain ⟨W0, hW0⟩ : ∃ W0, ((((w.alloc (.cells #[.slice none 0 0] 76)).alloc (.cells #[.int .i64 0] 30)).alloc (.cells #[.slice none 0 0] 76)).alloc (.cells #[.string s] 9)) = W0 := ⟨_, rfl⟩
  have hsz : W0.heap.size = w.heap.size + 1 + 1 + 1 + 1 := by rw [← hW0]; simp
  rw [hW0] at hB0 b0 b1 b2 b3 ⊢
  clear hW0
  refine wpIn_rangeFunc_ownH rfl h1 (gf := 153) (lb := #[.pointer (some ⟨w.heap.size + 1 + 1 + 1, 0, none⟩)]) rfl trivial (enters_of Tryz.func153 (by kernel_rfl) rfl)
    (HST.out (5 - 1) (by omega) (w.heap.size + 1 + 1 + 1) W0 b3) kpS_t kpS_b (Below.refl _ _) (fun _ => rfl)
    (DecI w) (DecX w) (decI_own w _ (by omega)) (decX_own w _ (by omega))
    ⟨⟨⟨⟨⟨_, b2, World.ownsRow_nil _ _ _ _, trivial⟩, b0⟩, b1⟩, by simp, by simp⟩, hB0⟩
    (fun x a' W => ∃ Bx, w.heap.size + 1 + 1 < Bx ∧ W.heap[Bx]? = some (.cells #[.int .i64 x.1.1, .int .i64 x.1.2] 43 (0, 0)) ∧ a' = { tmps := #[.string s, undef, .pointer (some ⟨w.heap.size, 0, none⟩), .pointer (some ⟨w.heap.size + 1, 0, none⟩), .pointer (some ⟨w.heap.size + 1 + 1, 0, none⟩), .pointer (some ⟨Bx, 0, none⟩), .int .i64 x.2, .string s, .func (.func 153) #[] #[.pointer (some ⟨w.heap.size + 1 + 1 + 1, 0, none⟩)], .agg #[.int .i64 x.1.1, .int .i64 x.1.2], .int .i64 x.2, undef, undef, undef, undef, undef, undef, undef, undef, undef, undef, undef], defers := [] })
    (fun x a' _ X Y row hs hg hr => by
      obtain ⟨Bx, h1, h2, h3⟩ := hs
      refine ⟨Bx, h1, (hg.block Bx (Array.getElem?_eq_some_iff.1 h2).1 (fun e => ?_)).trans h2, h3⟩
      obtain ⟨_, o, ho, hc⟩ := hr Bx e.symm
      rw [h2] at ho; cases ho; cases hc)
    ?assign ?body ?done ?stop
  case assign =>
    rintro l pre x W K ⟨⟨⟨⟨⟨v, hv, hrow, _⟩, c0⟩, c1⟩, hok, hl⟩, hB⟩ hK
    gi_wp2
    exact hK _ _ ((KeepsOthers.alloc _ _).from _) (fun hbx => hbx.alloc _) ⟨⟨⟨⟨⟨v, hv.alloc _, hrow.alloc _, trivial⟩, c0.alloc _⟩, c1.alloc _⟩, hok, hl⟩, hB.alloc hB.size _⟩ ⟨W.heap.size, hv.lt, World.alloc_heap_new W _, rfl⟩
  case body =>
    rintro l pre ⟨⟨c, a⟩, er⟩ a' W hl ⟨r, hr⟩ ⟨⟨⟨⟨⟨v, hv, hrow, _⟩, c0⟩, c1⟩, hok, h40⟩, hB⟩ ⟨Bx, hBx, bX, rfl⟩ hlt
    have HOK : Hid (∀ x ∈ pre, x.2 = 0) := hok
    clear hok HST hr hlt
    have k0 := c0.cell
    have k1 := c1.cell
    have z0 := c0.frozen
    have z1 := c1.frozen
    have hleave : ∀ e', stopErr (pre ++ [((c, a), er)]) e' → KeepsFrom W0.heap.size W ((W.setCell ⟨w.heap.size, 0, none⟩ (.slice none 0 0)).setCell ⟨w.heap.size + 1, 0, none⟩ (.int .i64 e')) ∧ DecX w .ret (pre ++ [((c, a), er)]) ((W.setCell ⟨w.heap.size, 0, none⟩ (.slice none 0 0)).setCell ⟨w.heap.size + 1, 0, none⟩ (.int .i64 e')) := fun e' hst =>
      ⟨((KeepsOthers.setCell _ _ _).trans (KeepsOthers.setCell _ _ _)).from _, rfl, e', ⟨⟨(c0.set _).other (by omega) _, (c1.other (by omega) _).set _⟩, hst⟩, (hB.setCell (p := ⟨w.heap.size, 0, none⟩) (Nat.le_refl _) _).setCell (p := ⟨w.heap.size + 1, 0, none⟩) (by simp) _⟩
    have HL : Hid (∀ e', stopErr (pre ++ [((c, a), er)]) e' → KeepsFrom W0.heap.size W ((W.setCell ⟨w.heap.size, 0, none⟩ (.slice none 0 0)).setCell ⟨w.heap.size + 1, 0, none⟩ (.int .i64 e')) ∧ DecX w .ret (pre ++ [((c, a), er)]) ((W.setCell ⟨w.heap.size, 0, none⟩ (.slice none 0 0)).setCell ⟨w.heap.size + 1, 0, none⟩ (.int .i64 e'))) := hleave
    clear hleave
    have HZ : Hid (W0.heap.size = w.heap.size + 1 + 1 + 1 + 1) := hsz
    clear hsz
    by_cases he : er = 0
    · subst he
      have hvs : ∃ p cap, v = .slice p pre.length cap := by
        rcases hrow.2 with ⟨rfl, h0⟩ | ⟨g, cap, cur, rfl, _⟩
        · exact ⟨none, 0, by rw [h0]⟩
        · exact ⟨_, _, rfl⟩
      obtain ⟨p, cap, rfl⟩ := hvs
      have k2 := hv.cell
      by_cases hfull : pre.length = 40
      · have hf' : ((pre.length : Int) == 40) = true := by simp; omega
        have HF : Hid (pre.length = 40) := hfull
        clear hfull
        gi_wp2
        exact HL.out 2 ⟨pre, _, rfl, HOK.out, h40, .inr ⟨rfl, HF.out, rfl⟩⟩
      · have hf' : ((pre.length : Int) == 40) = false := by simp; omega
        have g0 : W.cell? ⟨Bx, 0, none⟩ = some (.int .i64 c) := by simp [World.cell?, bX]
        have g1 : W.cell? ⟨Bx, 0 + 1, none⟩ = some (.int .i64 a) := by simp [World.cell?, bX]
        have hnews : ∀ (j : Nat) (u : Value), [Value.int .i64 c, Value.int .i64 a][j]? = some u → (W.alloc (.cells #[.int .i64 c, .int .i64 a] 43)).cell? ((⟨W.heap.size, 0, none⟩ : Addr).add j) = some u := by
          intro j u hj
          have hn := World.alloc_heap_new W (.cells #[.int .i64 c, .int .i64 a] 43)
          match j, hj with
          | 0, hj => simp at hj; subst hj; exact cell_at' hn 0
          | 1, hj => simp at hj; subst hj; exact cell_at' hn 1
          | k + 2, hj => simp at hj
        have hso : ∀ u ∈ [Value.int .i64 c, Value.int .i64 a], u.oneCell' = true := by
          intro u hu; simp at hu; rcases hu with rfl | rfl <;> rfl
        gi_wp2_with (gi_at_builtin; refine wpListIn_append_own _ rfl _ _ 76 rfl w.heap.size 43 i0 (.agg #[.int .i64 0, .int .i64 0]) 2 16 Tryz.underlying76 hi hz0 hz1 hz2 rfl (by decide) _ _ _ rfl (hrow.alloc _) ⟨W.heap.size, 0, none⟩ 1 1 [.int .i64 c, .int .i64 a] rfl rfl hnews hso (by unfold maxLen; omega) (by omega) (by have := hB.size; simp; omega) ?_; intro v' w1 hown' hgrow _; obtain ⟨g', cap', rfl⟩ := ownsRow_succ hown'; obtain ⟨hv1, hv2, hr2, hk2, hb2⟩ := hv.appended (by decide) hrow hB.size (by omega) hown' hgrow; have hc1 := hv1.cell; have hf1 := hv1.frozen)
        have e0 := ((c0.alloc (.cells #[.int .i64 c, .int .i64 a] 43)).kept hgrow (c0.not_row (by decide) hrow)).other (B' := w.heap.size + 1 + 1) (by omega) (.slice (some ⟨g', 0, none⟩) (pre.length + 1) cap')
        have e1 := ((c1.alloc (.cells #[.int .i64 c, .int .i64 a] 43)).kept hgrow (c1.not_row (by decide) hrow)).other (B' := w.heap.size + 1 + 1) (by omega) (.slice (some ⟨g', 0, none⟩) (pre.length + 1) cap')
        refine ⟨hk2.from _, fun bx => ((bx.alloc (.cells #[.int .i64 c, .int .i64 a] 43)).kept hgrow (bx.not_row (by decide) hrow)).other (B' := w.heap.size + 1 + 1) (by omega) _, ⟨⟨⟨⟨_, hv2, ?_, trivial⟩, e0⟩, e1⟩, ?_, by simp; omega⟩, hB.trans hb2⟩
        · have e : opCells ((pre ++ [((c, a), (0 : Int))]).map Prod.fst) = opCells (pre.map Prod.fst) ++ [.int .i64 c, .int .i64 a] := by simp [opCells]
          rw [e, List.length_append, List.length_singleton]
          exact hr2
        · intro x hx
          rcases List.mem_append.1 hx with hx | hx
          · exact HOK.out x hx
          · simp at hx; subst hx; rfl
    · have he' : (er != 0) = true := by simp [he]
      gi_wp2
      exact HL.out er ⟨pre, _, rfl, HOK.out, h40, .inl ⟨he, rfl⟩⟩
  case done =>
    rintro D ys W hD rfl ⟨⟨⟨⟨⟨v, hv, hrow, _⟩, c0⟩, c1⟩, hok, h40⟩, hB⟩ hK
    have hdec : dec ys [] = (ys.map Prod.fst, 0) := by
      have := dec_ok ys [] [] hok (by simpa using h40)
      simpa [dec] using this
    have HD : Hid (dec ys [] = (ys.map Prod.fst, 0)) := hdec
    clear hdec hok HST
    have hvs : ∃ p cap, v = .slice p ys.length cap := by
      rcases hrow.2 with ⟨rfl, h0⟩ | ⟨g, cap, cur, rfl, _⟩
      · exact ⟨none, 0, by rw [h0]⟩
      · exact ⟨_, _, rfl⟩
    obtain ⟨p, cap, rfl⟩ := hvs
    have k0 := c0.cell
    have k1 := c1.cell
    have k2 := hv.cell
    have z0 := c0.frozen
    have z1 := c1.frozen
    gi_wp2
    have hK' := ((KeepsOthers.setCell W ⟨w.heap.size, 0, none⟩ (.slice p ys.length cap)).trans (KeepsOthers.setCell _ ⟨w.heap.size + 1, 0, none⟩ (.int .i64 0))).same D _ hK rfl
    have r0 : Boxed ((W.setCell ⟨w.heap.size, 0, none⟩ (.slice p ys.length cap)).setCell ⟨w.heap.size + 1, 0, none⟩ (.int .i64 0)) w.heap.size 76 (.slice p ys.length cap) := (c0.set _).other (by omega) _
    have r1 : Boxed ((W.setCell ⟨w.heap.size, 0, none⟩ (.slice p ys.length cap)).setCell ⟨w.heap.size + 1, 0, none⟩ (.int .i64 0)) (w.heap.size + 1) 30 (.int .i64 0) := (c1.other (by omega) _).set _
    have hrow2 := (hrow.kept (grownBy_setCell' W w.heap.size (.slice p ys.length cap)) (.inr (c0.not_row (by decide) hrow).symm))
    have hrow3 := (hrow2.kept (grownBy_setCell' _ (w.heap.size + 1) (.int .i64 0)) (.inr ((c1.other (B' := w.heap.size) (by omega) _).not_row (by decide) hrow2).symm))
    have hB3 := (hB.setCell (p := ⟨w.heap.size, 0, none⟩) (Nat.le_refl _) (.slice p ys.length cap)).setCell (p := ⟨w.heap.size + 1, 0, none⟩) (by simp) (.int .i64 0)
    have q0 := (r0.kept (grownBy_putObj' _ D (.deferred none)) (fun e => by cases e; omega)).cell
    have q1 := (r1.kept (grownBy_putObj' _ D (.deferred none)) (fun e => by cases e; omega)).cell
    refine ⟨by simp, .inl ⟨_, _, rfl, run_takeDeferred hK', ?_⟩⟩
    refine ⟨.tuple #[.slice p ys.length cap, .int .i64 0], by simp [results, Tryz.results68, go_sem, q0, q1], _, by rw [HD.out], ?_, ?_, newSl_of_row (base := w.heap.size) (n := ys.length) (size := 2) (by have := ownsRow_putObj hrow3 (.deferred none) hK' rfl; simpa using this)⟩
    · rw [HD.out]
      refine opsAt_of_row (base := w.heap.size) ?_
      have := ownsRow_putObj hrow3 (.deferred none) hK' rfl
      simpa using this
    · exact hB3.trans (belowK_b (w := w) (Nat.le_refl _) _ D _ _ (by omega) hK' rfl rfl)
  case stop =>
    rintro D c pre W hD hpre ⟨rfl, er, ⟨⟨c0, c1⟩, hst⟩, hB⟩ hK
    have HD : Hid (dec its [] = ([], er)) := dec_stop hst hpre
    clear hst hpre HST
    gi_wp2
    have q0 := (c0.kept (grownBy_putObj' _ D (.deferred none)) (fun e => by cases e; omega)).cell
    have q1 := (c1.kept (grownBy_putObj' _ D (.deferred none)) (fun e => by cases e; omega)).cell
    refine ⟨by simp, .inl ⟨_, _, rfl, run_takeDeferred hK, ?_⟩⟩
    refine ⟨.tuple #[.slice none 0 0, .int .i64 er], by simp [results, Tryz.results68, go_sem, q0, q1], _, by rw [HD.out], ?_, ?_, fun a n c h => by cases h⟩
    · rw [HD.out]
      exact ⟨none, 0, rfl, Nat.zero_le _, fun k o hk => by simp at hk⟩
    · exact hB.trans (belowK_b (w := w) (Nat.le_refl _) _ D _ _ (by omega) hK rfl rfl)
theorem decode_any (s : ByteArray) (hm : s.size ≤ maxLen) (w : World) :
    Calls Tryz.prog 68 #[.string s] w fun e w' => ∃ v, e = .returned (.tuple #[v, .int .i64 (dec (items s.size s.data.toList) []).2]) ∧ OpsAt w' v (dec (items s.size s.data.toList) []).1 ∧ Below w.heap.size w w' :=
  (decode_new s hm w).mono fun _ _ ⟨v, h1, h2, h3, _⟩ => ⟨v, h1, h2, h3⟩
end Go.Proofs.YtcadpoknolefpaaGreat


/- SameOps of the reference. -/
namespace Go.Proofs.YtcadpoknolefpaaGreat
open Go.RowKit
set_option linter.unusedSimpArgs false
set_option linter.unusedVariables false
theorem neq_op (c a c' a' : Int) (w : World) : (binOp .neq 43 (.agg #[.int .i64 c, .int .i64 a]) (.agg #[.int .i64 c', .int .i64 a'])).run Tryz.prog w = .ok (.bool (!(c == c' && a == a'))) w := by
  have u3 := Tryz.underlying3
  have a3 := Tryz.isAgg3
  have z3 := Tryz.sizeOf3
  have hS : Tryz.prog.underlying 43 = some (.struct (Tryz.prog.fieldsOf 43)) := by kernel_rfl
  have hp : Tryz.prog.stoodInHeld 43 = false := by kernel_rfl
  rw [run_neq_struct, show (10000 : Nat) = 9999 + 1 from rfl, run_equalIn_agg w 9999 43 _ _ hS hp]
  simp only [Program.fieldsOf, Tryz.underlying43]
  go_simp
  by_cases h1 : c = c' <;> by_cases h2 : a = a' <;> simp [h1, h2]
theorem guard_op : Tryz.prog.eqGuardType Tryz.prog.depth 43 = false := by kernel_rfl
set_option maxHeartbeats 1000000 in
theorem sameOps_any (l m : List (Int × Int)) (v u : Value) (w : World) (hl : OpsAt w v l) (hm : OpsAt w u m) : Calls Tryz.prog 70 #[v, u] w fun e w' => e = .returned (.bool (decide (l = m))) ∧ Below w.heap.size w w' := by
  obtain ⟨p, cap, rfl, hlm, hc⟩ := hl
  obtain ⟨q, cap', rfl, hmm, hd⟩ := hm
  unfold maxLen at hlm hmm
  by_cases hlen : l.length = m.length
  · have hlen' : ((l.length : Int) != (m.length : Int)) = false := by simp; omega
    have HLEN : Hid (l.length = m.length) := hlen
    have HC : Hid (∀ k o, l[k]? = some o → ∃ b off, p = some ⟨b, off, none⟩ ∧ b < w.heap.size ∧ w.cell? ⟨b, off + k * 2, none⟩ = some (.int .i64 o.1) ∧ w.cell? ⟨b, off + k * 2 + 1, none⟩ = some (.int .i64 o.2)) := hc
    have HD : Hid (∀ k o, m[k]? = some o → ∃ b off, q = some ⟨b, off, none⟩ ∧ b < w.heap.size ∧ w.cell? ⟨b, off + k * 2, none⟩ = some (.int .i64 o.1) ∧ w.cell? ⟨b, off + k * 2 + 1, none⟩ = some (.int .i64 o.2)) := hd
    clear hc hd hlen
    go_enter Tryz.func70, Tryz.ntmps70
    go_wp2
    go_loopw [5] (fun i wr => ∃ k : Nat, k ≤ l.length ∧ i = .int .i64 k ∧ l.take k = m.take k ∧ Below w.heap.size w wr) (fun i _ => l.length - (intOf i).toNat)
    case atStart => exact ⟨0, Nat.zero_le _, rfl, by simp, Below.refl _ _⟩
    case round =>
      obtain ⟨k, hk, rfl, htk, hbw⟩ := hrel
      have HT : Hid (l.take k = m.take k) := htk
      clear htk
      by_cases hlt : k < l.length
      · have hlt2 : k < m.length := by have := HLEN.out; omega
        obtain ⟨⟨c, a⟩, ho⟩ : ∃ o, l[k]? = some o := ⟨l[k], List.getElem?_eq_some_iff.2 ⟨hlt, rfl⟩⟩
        obtain ⟨⟨c', a'⟩, ho'⟩ : ∃ o, m[k]? = some o := ⟨m[k], List.getElem?_eq_some_iff.2 ⟨hlt2, rfl⟩⟩
        obtain ⟨b, off, rfl, hb, h0, h1⟩ := HC.out k _ ho
        obtain ⟨b', off', rfl, hb', h0', h1'⟩ := HD.out k _ ho'
        have g0 := (hbw.cell (p := ⟨b, off + k * 2, none⟩) hb).trans h0
        have g1 := (hbw.cell (p := ⟨b, off + k * 2 + 1, none⟩) hb).trans h1
        have g0' := (hbw.cell (p := ⟨b', off' + k * 2, none⟩) hb').trans h0'
        have g1' := (hbw.cell (p := ⟨b', off' + k * 2 + 1, none⟩) hb').trans h1'
        have hlti : (k : Int) < (l.length : Int) := by omega
        have hlti2 : (k : Int) < (m.length : Int) := by omega
        have hg := guard_op
        have HO : Hid (l[k]? = some (c, a)) := ho
        have HO' : Hid (m[k]? = some (c', a')) := ho'
        clear ho ho' h0 h1 h0' h1'
        by_cases he : c = c' ∧ a = a'
        · have hneq : ∀ w, (binOp .neq 43 (.agg #[.int .i64 c, .int .i64 a]) (.agg #[.int .i64 c', .int .i64 a'])).run Tryz.prog w = .ok (.bool false) w := fun w => by rw [neq_op]; simp [he]
          have HE : Hid (c = c' ∧ a = a') := he
          clear he
          go_wp2
          go_quiet (fail)
          go_wp2
          go_roundw
          case rel => exact ⟨k + 1, by omega, by go_num, by rw [take_snoc l k _ HO.out, take_snoc m k _ HO'.out, HT.out, HE.out.1, HE.out.2], below_drewN hbw _⟩
          case measure => simp [intOf]; omega
        · have hneq : ∀ w, (binOp .neq 43 (.agg #[.int .i64 c, .int .i64 a]) (.agg #[.int .i64 c', .int .i64 a'])).run Tryz.prog w = .ok (.bool true) w := fun w => by rw [neq_op]; simp; omega
          have HE : Hid (¬ (c = c' ∧ a = a')) := he
          clear he
          go_wp2
          go_quiet (fail)
          go_wp2
          go_ret
          refine ⟨?_, below_drewN hbw _⟩
          have : ¬ l = m := fun h => by
            have h1 := HO.out
            rw [h, HO'.out] at h1
            simp at h1
            exact HE.out ⟨h1.1.symm, h1.2.symm⟩
          simp [this]
      · have hlt' : ¬ (k : Int) < (l.length : Int) := by omega
        go_wp2
        go_ret
        refine ⟨?_, hbw⟩
        have : l = m := by
          have h := HT.out
          rwa [List.take_of_length_le (by omega), List.take_of_length_le (by have := HLEN.out; omega)] at h
        simp [this]
  · have hlen' : ((l.length : Int) != (m.length : Int)) = true := by simp; omega
    have hne : ¬ l = m := fun h => hlen (by rw [h])
    clear hc hd
    have HN : Hid (¬ l = m) := hne
    clear hne hlen
    go_enter Tryz.func70, Tryz.ntmps70
    go_wp2
    go_ret
    exact ⟨by simp [HN.out], Below.refl _ _⟩
end Go.Proofs.YtcadpoknolefpaaGreat


/- opBegun. -/
namespace Go.Proofs.YtcadpoknolefpaaGreat
open Go.RowKit
set_option linter.unusedSimpArgs false
set_option linter.unusedVariables false
def loopOps : List (Int × Int) := [(1, 3), (3, 0), (20, 0), (1, 1), (6, 0), (3, 0), (11, 8), (10, 1), (2, 0), (13, 0)]
theorem opsAt_new {w : World} {b : Nat} {l m : List (Int × Int)} {fz : Nat × Nat} (n cap : Nat) (h : w.heap[b]? = some (.cells (opCells (l ++ m)).toArray 43 fz)) (hn : n = l.length) (hm : l.length ≤ maxLen) : OpsAt w (.slice (some ⟨b, 0, none⟩) n cap) l := by
  subst hn
  refine ⟨_, cap, rfl, hm, fun k o hk => ⟨b, 0, rfl, (Array.getElem?_eq_some_iff.1 h).1, ?_, ?_⟩⟩
  · have := (opCells_at (l ++ m) k o (by rw [List.getElem?_append_left (lt_of_at' hk)]; exact hk)).1
    rw [cell_at' h]; simpa using this
  · have := (opCells_at (l ++ m) k o (by rw [List.getElem?_append_left (lt_of_at' hk)]; exact hk)).2
    rw [cell_at' h]; simpa using this
set_option maxHeartbeats 1000000 in
theorem loop_any (w : World) : Calls Tryz.prog 67 #[] w fun e w' => e = .returned (.slice (some ⟨w.heap.size, 0, none⟩) 10 10) ∧ w' = w.alloc (.cells (opCells loopOps).toArray 43) := by
  go_enter Tryz.func67, Tryz.ntmps67
  go_wp2
  go_ret
  exact ⟨rfl, rfl⟩
theorem enc_fact : encStr [(1, 3), (3, 0)] = [1, 0, 0, 0, 3, 3] ∧ codeErr [(1, 3), (3, 0)] = 0 := by decide +kernel
theorem dec_fact : dec (items 6 [1, 255, 255, 255, 254, 13]) [] = ([(1, -2), (13, 0)], 0) := by decide +kernel
theorem chk_fact1 : chk 1 3 = 0 := by decide +kernel
theorem chk_fact2 : chk 2 1 = 1 := by decide +kernel
theorem wrap_fact : wrap32 2147483648 = -2147483648 := by decide +kernel
set_option maxHeartbeats 2000000 in
theorem opBegun_any (w : World) : Calls Tryz.prog 27 #[] w fun e w' => e = .returned (.bool true) ∧ Below w.heap.size w w' := by
  go_enter Tryz.func27, Tryz.ntmps27
  go_wp2_with fail
  refine (loop_any _).mono ?_
  rintro e w1 ⟨rfl, hw1⟩
  have hb1 : Below w.heap.size w w1 := by rw [hw1]; exact (Below.refl _ w).alloc (Nat.le_refl _) _
  have hh1 : w1.heap[w.heap.size]? = some (.cells (opCells loopOps).toArray 43 (0, 0)) := by rw [hw1]; exact World.alloc_heap_new w _
  clear hw1
  have ho1 := opsAt_new (l := [(1, 3), (3, 0)]) (m := loopOps.drop 2) 2 10 hh1 rfl (by unfold maxLen; simp)
  go_wp2_with fail
  have henc := encode_any _ _ _ ho1
  rw [enc_fact.1, enc_fact.2] at henc
  refine henc.mono ?_
  clear henc ho1
  rintro e w2 ⟨rfl, hb2⟩
  have hd := decode_any ⟨#[1, 255, 255, 255, 254, 13]⟩ (by unfold maxLen; decide) w2
  have hdf : dec (items (ByteArray.size ⟨#[1, 255, 255, 255, 254, 13]⟩) (ByteArray.mk #[1, 255, 255, 255, 254, 13]).data.toList) [] = ([(1, -2), (13, 0)], 0) := dec_fact
  rw [hdf] at hd
  clear hdf
  have HD : Hid (Calls Tryz.prog 68 #[.string ⟨#[1, 255, 255, 255, 254, 13]⟩] w2 fun e w' => ∃ v, e = .returned (.tuple #[v, .int .i64 0]) ∧ OpsAt w' v [(1, -2), (13, 0)] ∧ Below w2.heap.size w2 w') := hd
  clear hd hh1
  go_wp2_with fail
  refine HD.out.mono ?_
  clear HD
  rintro e w3 ⟨v, rfl, ho3, hb3⟩
  have HO3 : Hid (OpsAt w3 v [(1, -2), (13, 0)]) := ho3
  clear ho3
  go_wp2_with fail
  refine (loop_any _).mono ?_
  rintro e w4 ⟨rfl, hw4⟩
  have hb4 : Below w3.heap.size w3 w4 := by rw [hw4]; exact (Below.refl _ w3).alloc (Nat.le_refl _) _
  have hh4 : w4.heap[w3.heap.size]? = some (.cells (opCells loopOps).toArray 43 (0, 0)) := by rw [hw4]; exact World.alloc_heap_new w3 _
  have HO4 : Hid (OpsAt w4 v [(1, -2), (13, 0)]) := HO3.out.below hb4
  clear hw4 HO3
  have g0 : w4.cell? ⟨w3.heap.size, 0, none⟩ = some (.int .i64 1) := by rw [cell_at' hh4]; rfl
  have g1 : w4.cell? ⟨w3.heap.size, 1, none⟩ = some (.int .i64 3) := by rw [cell_at' hh4]; rfl
  clear hh4
  have hB4 : Below w.heap.size w w4 := hb1.trans ((hb2.trans (hb3.trans (hb4.mono hb3.size) |>.mono hb2.size)).mono hb1.size)
  go_wp2_with fail
  refine (check_any 1 3 _).mono ?_
  rw [chk_fact1]
  rintro e w5 ⟨rfl, hb5⟩
  have HO5 : Hid (OpsAt w5 v [(1, -2), (13, 0)]) := HO4.out.below hb5
  have hB5 : Below w.heap.size w w5 := hB4.trans (hb5.mono hB4.size)
  clear HO4 g0 g1
  go_wp2_with fail
  refine (check_any 2 1 _).mono ?_
  rw [chk_fact2]
  rintro e w6 ⟨rfl, hb6⟩
  have HO6 : Hid (OpsAt w6 v [(1, -2), (13, 0)]) := HO5.out.below hb6
  have hB6 : Below w.heap.size w w6 := hB5.trans (hb6.mono hB5.size)
  clear HO5 hB4 hB5 hb1 hb2 hb3 hb4 hb5 hb6
  go_wp2_with fail
  have hb7 : Below w6.heap.size w6 (w6.alloc (.cells #[.int .i64 1, .int .i64 (-2), .int .i64 13, .int .i64 0] 43)) := (Below.refl _ w6).alloc (Nat.le_refl _) _
  refine (sameOps_any [(1, -2), (13, 0)] [(1, -2), (13, 0)] _ _ _ (HO6.out.below hb7) (opsAt_new (l := [(1, -2), (13, 0)]) (m := []) (fz := (0, 0)) 2 2 (World.alloc_heap_new w6 _) rfl (by unfold maxLen; simp))).mono ?_
  rintro e w8 ⟨rfl, hb8⟩
  have hB8 : Below w.heap.size w w8 := hB6.trans ((hb7.trans (hb8.mono hb7.size)).mono hB6.size)
  clear HO6 hb7 hb8 hB6
  go_wp2_with (go_at_call 28; refine (wrap_any _ _).mono ?_; rintro e w9 ⟨rfl, hw⟩; have hw := hw.symm; subst hw; rw [wrap_fact])
  go_ret
  exact ⟨rfl, hB8⟩
end Go.Proofs.YtcadpoknolefpaaGreat


/- Programs in memory. -/
namespace Go.Proofs.YtcadpoknolefpaaGreat
open Go.RowKit
set_option linter.unusedSimpArgs false
set_option linter.unusedVariables false
abbrev Fn := Int × List Int × Int × List (Int × Int)
def IntsAt (w : World) (v : Value) (l : List Int) : Prop :=
  ∃ (p : Option Addr) (cap : Nat), v = .slice p l.length cap ∧ l.length ≤ maxLen ∧ ∀ k z, l[k]? = some z →
    ∃ b off, p = some ⟨b, off, none⟩ ∧ b < w.heap.size ∧ w.cell? ⟨b, off + k, none⟩ = some (.int .i64 z)
theorem IntsAt.below {w w' : World} {v : Value} {l : List Int} (h : IntsAt w v l) (hb : Below w.heap.size w w') : IntsAt w' v l := by
  obtain ⟨p, cap, rfl, hm, hc⟩ := h
  refine ⟨p, cap, rfl, hm, fun k o hk => ?_⟩
  obtain ⟨b, off, rfl, hlt, h0⟩ := hc k o hk
  exact ⟨b, off, rfl, Nat.lt_of_lt_of_le hlt hb.size, (hb.cell (p := ⟨b, off + k, none⟩) hlt).trans h0⟩
def FnAt (w : World) (c0 c1 c2 c3 : Value) (f : Fn) : Prop := c0 = .int .i64 f.1 ∧ IntsAt w c1 f.2.1 ∧ c2 = .int .i64 f.2.2.1 ∧ OpsAt w c3 f.2.2.2
theorem FnAt.below {w w' : World} {c0 c1 c2 c3 : Value} {f : Fn} (h : FnAt w c0 c1 c2 c3 f) (hb : Below w.heap.size w w') : FnAt w' c0 c1 c2 c3 f :=
  ⟨h.1, h.2.1.below hb, h.2.2.1, h.2.2.2.below hb⟩
def FnsAt (w : World) (v : Value) (l : List Fn) : Prop :=
  ∃ (p : Option Addr) (cap : Nat), v = .slice p l.length cap ∧ l.length ≤ maxLen ∧ ∀ k f, l[k]? = some f →
    ∃ b off c0 c1 c2 c3, p = some ⟨b, off, none⟩ ∧ b < w.heap.size ∧ w.cell? ⟨b, off + k * 4, none⟩ = some c0 ∧ w.cell? ⟨b, off + k * 4 + 1, none⟩ = some c1 ∧ w.cell? ⟨b, off + k * 4 + 2, none⟩ = some c2 ∧ w.cell? ⟨b, off + k * 4 + 3, none⟩ = some c3 ∧ FnAt w c0 c1 c2 c3 f
theorem FnsAt.below {w w' : World} {v : Value} {l : List Fn} (h : FnsAt w v l) (hb : Below w.heap.size w w') : FnsAt w' v l := by
  obtain ⟨p, cap, rfl, hm, hc⟩ := h
  refine ⟨p, cap, rfl, hm, fun k f hk => ?_⟩
  obtain ⟨b, off, c0, c1, c2, c3, rfl, hlt, h0, h1, h2, h3, hf⟩ := hc k f hk
  exact ⟨b, off, c0, c1, c2, c3, rfl, Nat.lt_of_lt_of_le hlt hb.size, (hb.cell (p := ⟨b, off + k * 4, none⟩) hlt).trans h0, (hb.cell (p := ⟨b, off + k * 4 + 1, none⟩) hlt).trans h1, (hb.cell (p := ⟨b, off + k * 4 + 2, none⟩) hlt).trans h2, (hb.cell (p := ⟨b, off + k * 4 + 3, none⟩) hlt).trans h3, hf.below hb⟩
end Go.Proofs.YtcadpoknolefpaaGreat


/- What is encoded is decoded as it was, and what is decoded is encoded as it was: of the plain functions. -/
namespace Go.Proofs.YtcadpoknolefpaaGreat
open Go.RowKit
set_option linter.unusedSimpArgs false
set_option linter.unusedVariables false
theorem chk_zero {c a : Int} (h : chk c a = 0) : isCode c = true ∧ (hasA c = false → a = 0) ∧ -2147483648 ≤ a ∧ a ≤ 2147483647 := by
  unfold chk at h
  by_cases h1 : isCode c = false
  · simp [h1] at h
  · by_cases h2 : hasA c = false ∧ a ≠ 0
    · simp [h1, h2] at h
    · by_cases h3 : isI32 a = false
      · rw [if_neg h1, if_neg h2, if_pos h3] at h; omega
      · refine ⟨by simpa using h1, fun hh => ?_, ?_⟩
        · by_cases h0 : a = 0
          · exact h0
          · exact absurd ⟨hh, h0⟩ h2
        · simp [isI32] at h3; exact h3
theorem firstErr_zero (l : List (Int × Int)) (h : firstErr l = 0) : ∀ o ∈ l, chk o.1 o.2 = 0 := by
  induction l with
  | nil => intro o ho; simp at ho
  | cons x r ih =>
    intro o ho
    rw [firstErr] at h
    by_cases hx : chk x.1 x.2 = 0
    · rw [if_pos hx] at h
      rcases List.mem_cons.1 ho with rfl | ho
      · exact hx
      · exact ih h o ho
    · rw [if_neg hx] at h; exact absurd h hx
theorem codeErr_zero (l : List (Int × Int)) (h : codeErr l = 0) : l.length ≤ 40 ∧ ∀ o ∈ l, chk o.1 o.2 = 0 := by
  unfold codeErr at h
  by_cases h4 : 40 < l.length
  · simp [h4] at h
  · rw [if_neg h4] at h; exact ⟨by omega, firstErr_zero l h⟩
end Go.Proofs.YtcadpoknolefpaaGreat


/- Plain functions on programs: what Check says. -/
namespace Go.Proofs.YtcadpoknolefpaaGreat
open Go.RowKit
set_option linter.unusedSimpArgs false
set_option linter.unusedVariables false
def isNum (n : Int) (many : Nat) : Bool := decide (0 ≤ n) && decide (n < (many : Int))
def namesB (o : Int × Int) (f : Fn) (funcs : Nat) : Bool :=
  if (o.1 == 8 || o.1 == 9) = true then isNum o.2 f.2.1.length else if (o.1 == 10 || o.1 == 11) = true then isNum o.2 f.2.2.2.length else if (o.1 == 12) = true then isNum o.2 funcs else true
def okType (t : Int) : Bool := t == 1 || t == 2
def typedB (f : Fn) : Bool := f.2.1.all okType && (decide (0 ≤ f.2.2.1) && decide (f.2.2.1 ≤ 2))
def fnErr (f : Fn) (funcs : Nat) : Int :=
  if 6 < f.2.1.length then 2 else if f.1 < 0 ∨ (f.2.1.length : Int) < f.1 then 3 else if typedB f = false then 6 else if f.2.2.2.length = 0 then 5 else if codeErr f.2.2.2 ≠ 0 then codeErr f.2.2.2 else if (f.2.2.2.all fun o => namesB o f funcs) = false then 3 else 0
def fnsErr (funcs : Nat) : List Fn → Int
  | [] => 0
  | f :: r => if fnErr f funcs = 0 then fnsErr funcs r else fnErr f funcs
def headErr : List Fn → Int
  | [] => 0
  | f :: _ => if f.1 ≠ 0 ∨ f.2.2.1 ≠ 0 then 4 else 0
def progErr (l : List Fn) : Int :=
  if l.length = 0 then 5 else if 5 < l.length then 2 else if fnsErr l.length l ≠ 0 then fnsErr l.length l else headErr l
theorem fnsErr_all (n : Nat) (l : List Fn) (h : ∀ f ∈ l, fnErr f n = 0) : fnsErr n l = 0 := by
  induction l with
  | nil => rfl
  | cons o r ih => rw [fnsErr, if_pos (h o (by simp))]; exact ih fun x hx => h x (by simp [hx])
theorem fnsErr_at (n : Nat) (l : List Fn) (k : Nat) (f : Fn) (hk : l[k]? = some f) (h : ∀ x ∈ l.take k, fnErr x n = 0) (he : ¬ fnErr f n = 0) : fnsErr n l = fnErr f n := by
  induction l generalizing k with
  | nil => simp at hk
  | cons x r ih =>
    cases k with
    | zero => simp at hk; subst hk; rw [fnsErr, if_neg he]
    | succ k => rw [fnsErr, if_pos (h x (by simp))]; exact ih k (by simpa using hk) fun y hy => h y (by simp [hy])
end Go.Proofs.YtcadpoknolefpaaGreat


/- isNumber, namesOne, checkFunc's closure, ContainsFunc at it; typed. -/
namespace Go.Proofs.YtcadpoknolefpaaGreat
open Go.RowKit
set_option linter.unusedSimpArgs false
set_option linter.unusedVariables false
set_option maxHeartbeats 400000 in
theorem isNumber_any (n : Int) (m : Nat) (w : World) : Calls Tryz.prog 221 #[.int .i64 n, .int .i64 m] w fun e w' => e = .returned (.bool (isNum n m)) ∧ w' = w := by
  by_cases h1 : 0 ≤ n
  · by_cases h2 : n < (m : Int)
    · go_enter Tryz.func221, Tryz.ntmps221
      go_wp2
      go_ret
      exact ⟨by simp [isNum, h1, h2], rfl⟩
    · go_enter Tryz.func221, Tryz.ntmps221
      go_wp2
      go_ret
      exact ⟨by simp [isNum, h1, h2], rfl⟩
  · have hd : decide (0 ≤ n) = false := by simpa using h1
    go_enter Tryz.func221, Tryz.ntmps221
    go_wp2
    go_ret
    exact ⟨by simp [isNum, hd], rfl⟩
set_option maxHeartbeats 2000000 in
theorem namesOne_any (c a : Int) (f : Fn) (c0 c1 c2 c3 : Value) (n : Nat) (w : World) (h : FnAt w c0 c1 c2 c3 f) : Calls Tryz.prog 175 #[.agg #[.int .i64 c, .int .i64 a], .agg #[c0, c1, c2, c3], .int .i64 n] w fun e w' => e = .returned (.bool (namesB (c, a) f n)) ∧ Below w.heap.size w w' := by
  obtain ⟨rfl, ⟨p1, q1, rfl, _, _⟩, rfl, ⟨p3, q3, rfl, _, _⟩⟩ := h
  have hb : ∀ o o', Below w.heap.size w ((w.alloc o).alloc o') := fun o o' => ((Below.refl _ w).alloc (Nat.le_refl _) _).alloc (by simp) _
  cases h8 : (c == 8)
  · cases h9 : (c == 9)
    · cases h10 : (c == 10)
      · cases h11 : (c == 11)
        · cases h12 : (c == 12)
          all_goals
            go_enter Tryz.func175, Tryz.ntmps175
            go_wp2_with (go_at_call 221; refine (isNumber_any _ _ _).mono ?_; rintro e w' ⟨rfl, hw⟩; have hw := hw.symm; subst hw)
            go_ret
            exact ⟨by simp [namesB, h8, h9, h10, h11, h12], hb _ _⟩
        · go_enter Tryz.func175, Tryz.ntmps175
          go_wp2_with (go_at_call 221; refine (isNumber_any _ _ _).mono ?_; rintro e w' ⟨rfl, hw⟩; have hw := hw.symm; subst hw)
          go_ret
          exact ⟨by simp [namesB, h8, h9, h10, h11], hb _ _⟩
      · go_enter Tryz.func175, Tryz.ntmps175
        go_wp2_with (go_at_call 221; refine (isNumber_any _ _ _).mono ?_; rintro e w' ⟨rfl, hw⟩; have hw := hw.symm; subst hw)
        go_ret
        exact ⟨by simp [namesB, h8, h9, h10], hb _ _⟩
    · go_enter Tryz.func175, Tryz.ntmps175
      go_wp2_with (go_at_call 221; refine (isNumber_any _ _ _).mono ?_; rintro e w' ⟨rfl, hw⟩; have hw := hw.symm; subst hw)
      go_ret
      exact ⟨by simp [namesB, h8, h9], hb _ _⟩
  · go_enter Tryz.func175, Tryz.ntmps175
    go_wp2_with (go_at_call 221; refine (isNumber_any _ _ _).mono ?_; rintro e w' ⟨rfl, hw⟩; have hw := hw.symm; subst hw)
    go_ret
    exact ⟨by simp [namesB, h8], hb _ _⟩
def Boxes (w : World) (bf bn : Nat) (f : Fn) (n : Nat) : Prop :=
  ∃ c0 c1 c2 c3, bf < w.heap.size ∧ bn < w.heap.size ∧ w.cell? ⟨bf, 0, none⟩ = some c0 ∧ w.cell? ⟨bf, 1, none⟩ = some c1 ∧ w.cell? ⟨bf, 2, none⟩ = some c2 ∧ w.cell? ⟨bf, 3, none⟩ = some c3 ∧ w.cell? ⟨bn, 0, none⟩ = some (.int .i64 n) ∧ FnAt w c0 c1 c2 c3 f
theorem Boxes.below {w w' : World} {bf bn : Nat} {f : Fn} {n : Nat} (h : Boxes w bf bn f n) (hb : Below w.heap.size w w') : Boxes w' bf bn f n := by
  obtain ⟨c0, c1, c2, c3, h1, h2, a0, a1, a2, a3, a4, hf⟩ := h
  exact ⟨c0, c1, c2, c3, Nat.lt_of_lt_of_le h1 hb.size, Nat.lt_of_lt_of_le h2 hb.size, (hb.cell (p := ⟨bf, 0, none⟩) h1).trans a0, (hb.cell (p := ⟨bf, 1, none⟩) h1).trans a1, (hb.cell (p := ⟨bf, 2, none⟩) h1).trans a2, (hb.cell (p := ⟨bf, 3, none⟩) h1).trans a3, (hb.cell (p := ⟨bn, 0, none⟩) h2).trans a4, hf.below hb⟩
set_option maxHeartbeats 2000000 in
theorem checkFn1_any (c a : Int) (f : Fn) (n bf bn : Nat) (w : World) (h : Boxes w bf bn f n) : Calls Tryz.prog 174 #[.agg #[.int .i64 c, .int .i64 a], .pointer (some ⟨bf, 0, none⟩), .pointer (some ⟨bn, 0, none⟩)] w fun e w' => e = .returned (.bool (!namesB (c, a) f n)) ∧ Below w.heap.size w w' := by
  have hw : Below w.heap.size w (w.alloc (.cells #[.int .i64 c, .int .i64 a] 43)) := (Below.refl _ w).alloc (Nat.le_refl _) _
  obtain ⟨c0, c1, c2, c3, h1, h2, a0, a1, a2, a3, a4, hf⟩ := h.below hw
  have hf' := hf
  obtain ⟨rfl, ⟨p1, q1, rfl, _, _⟩, rfl, ⟨p3, q3, rfl, _, _⟩⟩ := hf'
  go_enter Tryz.func174, Tryz.ntmps174
  go_wp2_with (go_at_call 175; refine (namesOne_any c a f _ _ _ _ n _ hf).mono ?_; rintro e w2 ⟨rfl, hb2⟩)
  go_ret
  exact ⟨rfl, hw.trans (hb2.mono (by simp))⟩
end Go.Proofs.YtcadpoknolefpaaGreat


/- ContainsFunc at checkFunc's closure and at typed's; typed, checkFunc. -/
namespace Go.Proofs.YtcadpoknolefpaaGreat
open Go.RowKit
set_option linter.unusedSimpArgs false
set_option linter.unusedVariables false
theorem all_snoc {α : Type} {p : α → Bool} {l : List α} {k : Nat} {o : α} (h : ∀ x ∈ l.take k, p x = true) (ho : l[k]? = some o) (hp : p o = true) : ∀ x ∈ l.take (k + 1), p x = true := by
  rw [take_snoc l k _ ho]; intro x hx; rcases List.mem_append.1 hx with hx | hx
  · exact h x hx
  · simp at hx; subst hx; exact hp
theorem all_true {α : Type} {p : α → Bool} {l : List α} (h : ∀ x ∈ l, p x = true) : l.all p = true := List.all_eq_true.2 h
theorem all_false {α : Type} {p : α → Bool} {l : List α} {k : Nat} {o : α} (ho : l[k]? = some o) (hp : p o = false) : l.all p = false := by
  cases h : l.all p
  · rfl
  · have := List.all_eq_true.1 h o (List.mem_of_getElem? ho); rw [hp] at this; cases this
set_option maxHeartbeats 1000000 in
theorem indexNames_any (l : List (Int × Int)) (v : Value) (f : Fn) (n bf bn : Nat) (w : World) (h : OpsAt w v l) (hB : Boxes w bf bn f n) : Calls Tryz.prog 109 #[v, .func (.func 174) #[] #[.pointer (some ⟨bf, 0, none⟩), .pointer (some ⟨bn, 0, none⟩)]] w fun e w' => ∃ r, e = .returned (.int .i64 r) ∧ decide (0 ≤ r) = (!l.all fun o => namesB o f n) ∧ Below w.heap.size w w' := by
  obtain ⟨p, cap, rfl, hm, hc⟩ := h
  unfold maxLen at hm
  go_enter Tryz.func109, Tryz.ntmps109
  go_wp2
  go_loopw [5, 8] (fun _ i wr => ∃ k : Nat, k ≤ l.length ∧ i = .int .i64 k ∧ (∀ o ∈ l.take k, namesB o f n = true) ∧ Below w.heap.size w wr) (fun _ i _ => l.length - (intOf i).toNat)
  case atStart => exact ⟨0, Nat.zero_le _, rfl, by simp, Below.refl _ _⟩
  case round =>
    obtain ⟨k, hk, rfl, hok, hbw⟩ := hrel
    have HK : Hid (∀ o ∈ l.take k, namesB o f n = true) := hok
    clear hok
    have HC : Hid (∀ k o, l[k]? = some o → ∃ b off, p = some ⟨b, off, none⟩ ∧ b < w.heap.size ∧ w.cell? ⟨b, off + k * 2, none⟩ = some (.int .i64 o.1) ∧ w.cell? ⟨b, off + k * 2 + 1, none⟩ = some (.int .i64 o.2)) := hc
    clear hc
    by_cases hlt : k < l.length
    · obtain ⟨⟨c, a⟩, ho⟩ := at_of_lt hlt
      obtain ⟨b, off, rfl, hb, h0, h1⟩ := HC.out k _ ho
      have g0 := (hbw.cell (p := ⟨b, off + k * 2, none⟩) hb).trans h0
      have g1 := (hbw.cell (p := ⟨b, off + k * 2 + 1, none⟩) hb).trans h1
      have hBr := hB.below hbw
      have HO : Hid (l[k]? = some (c, a)) := ho
      clear ho h0 h1
      cases hnb : namesB (c, a) f n
      · go_wp2_with (go_at_call 174; refine (checkFn1_any c a f n bf bn _ hBr).mono ?_; rintro e w2 ⟨rfl, hb2⟩)
        go_ret
        exact ⟨k, rfl, by rw [all_false HO.out hnb]; simp, hbw.trans (hb2.mono hbw.size)⟩
      · go_wp2_with (go_at_call 174; refine (checkFn1_any c a f n bf bn _ hBr).mono ?_; rintro e w2 ⟨rfl, hb2⟩)
        go_roundw
        case rel => exact ⟨k + 1, by omega, by go_num, all_snoc HK.out HO.out hnb, hbw.trans (hb2.mono hbw.size)⟩
        case measure => simp [intOf]; omega
    · have hlt' : ¬ (k : Int) < (l.length : Int) := by omega
      go_wp2
      go_ret
      refine ⟨-1, rfl, ?_, hbw⟩
      have := HK.out
      rw [List.take_of_length_le (by omega)] at this
      rw [all_true this]; decide
set_option maxHeartbeats 1000000 in
theorem containsNames_any (l : List (Int × Int)) (v : Value) (f : Fn) (n bf bn : Nat) (w : World) (h : OpsAt w v l) (hB : Boxes w bf bn f n) : Calls Tryz.prog 173 #[v, .func (.func 174) #[] #[.pointer (some ⟨bf, 0, none⟩), .pointer (some ⟨bn, 0, none⟩)]] w fun e w' => e = .returned (.bool (!l.all fun o => namesB o f n)) ∧ Below w.heap.size w w' := by
  go_enter Tryz.func173, Tryz.ntmps173
  go_wp2_with fail
  refine (indexNames_any l v f n bf bn _ h hB).mono ?_
  rintro e w2 ⟨r, rfl, hr, hb2⟩
  have HR : Hid (decide (0 ≤ r) = (!l.all fun o => namesB o f n)) := hr
  clear hr
  go_wp2
  go_ret
  exact ⟨by rw [← HR.out]; rfl, hb2⟩
set_option maxHeartbeats 1000000 in
theorem typed1_any (t : Int) (w : World) : Calls Tryz.prog 220 #[.int .i64 t] w fun e w' => e = .returned (.bool (!okType t)) ∧ w' = w := by
  by_cases h1 : t = 1
  · have h1' : (t != 1) = false := by simp [h1]
    go_enter Tryz.func220, Tryz.ntmps220
    go_wp2
    go_ret
    exact ⟨by simp [okType, h1], rfl⟩
  · have h1' : (t != 1) = true := by simp [h1]
    go_enter Tryz.func220, Tryz.ntmps220
    go_wp2
    go_ret
    have h2 : (t == 1) = false := by simp [h1]
    exact ⟨by simp only [okType, h2, Bool.false_or]; rfl, rfl⟩
set_option maxHeartbeats 1000000 in
theorem indexTyped_any (l : List Int) (v : Value) (w : World) (h : IntsAt w v l) : Calls Tryz.prog 147 #[v, .func (.func 220) #[] #[]] w fun e w' => ∃ r, e = .returned (.int .i64 r) ∧ decide (0 ≤ r) = (!l.all okType) ∧ Below w.heap.size w w' := by
  obtain ⟨p, cap, rfl, hm, hc⟩ := h
  unfold maxLen at hm
  go_enter Tryz.func147, Tryz.ntmps147
  go_wp2
  go_loopw [5, 8] (fun _ i wr => ∃ k : Nat, k ≤ l.length ∧ i = .int .i64 k ∧ (∀ o ∈ l.take k, okType o = true) ∧ Below w.heap.size w wr) (fun _ i _ => l.length - (intOf i).toNat)
  case atStart => exact ⟨0, Nat.zero_le _, rfl, by simp, Below.refl _ _⟩
  case round =>
    obtain ⟨k, hk, rfl, hok, hbw⟩ := hrel
    have HK : Hid (∀ o ∈ l.take k, okType o = true) := hok
    clear hok
    have HC : Hid (∀ k z, l[k]? = some z → ∃ b off, p = some ⟨b, off, none⟩ ∧ b < w.heap.size ∧ w.cell? ⟨b, off + k, none⟩ = some (.int .i64 z)) := hc
    clear hc
    by_cases hlt : k < l.length
    · obtain ⟨z, ho⟩ := at_of_lt hlt
      obtain ⟨b, off, rfl, hb, h0⟩ := HC.out k _ ho
      have g0 := (hbw.cell (p := ⟨b, off + k, none⟩) hb).trans h0
      have HO : Hid (l[k]? = some z) := ho
      clear ho h0
      cases hnb : okType z
      · go_wp2_with (go_at_call 220; refine (typed1_any z _).mono ?_; rintro e w2 ⟨rfl, hw⟩; have hw := hw.symm; subst hw)
        go_ret
        exact ⟨k, rfl, by rw [all_false HO.out hnb]; simp, hbw⟩
      · go_wp2_with (go_at_call 220; refine (typed1_any z _).mono ?_; rintro e w2 ⟨rfl, hw⟩; have hw := hw.symm; subst hw)
        go_roundw
        case rel => exact ⟨k + 1, by omega, by go_num, all_snoc HK.out HO.out hnb, hbw⟩
        case measure => simp [intOf]; omega
    · have hlt' : ¬ (k : Int) < (l.length : Int) := by omega
      go_wp2
      go_ret
      refine ⟨-1, rfl, ?_, hbw⟩
      have := HK.out
      rw [List.take_of_length_le (by omega)] at this
      rw [all_true this]; decide
set_option maxHeartbeats 1000000 in
theorem containsTyped_any (l : List Int) (v : Value) (w : World) (h : IntsAt w v l) : Calls Tryz.prog 106 #[v, .func (.func 220) #[] #[]] w fun e w' => e = .returned (.bool (!l.all okType)) ∧ Below w.heap.size w w' := by
  go_enter Tryz.func106, Tryz.ntmps106
  go_wp2_with fail
  refine (indexTyped_any l v _ h).mono ?_
  rintro e w2 ⟨r, rfl, hr, hb2⟩
  have HR : Hid (decide (0 ≤ r) = (!l.all okType)) := hr
  clear hr
  go_wp2
  go_ret
  exact ⟨by rw [← HR.out]; rfl, hb2⟩
set_option maxHeartbeats 2000000 in
theorem typed_any (f : Fn) (c0 c1 c2 c3 : Value) (w : World) (h : FnAt w c0 c1 c2 c3 f) : Calls Tryz.prog 172 #[.agg #[c0, c1, c2, c3]] w fun e w' => e = .returned (.bool (typedB f)) ∧ Below w.heap.size w w' := by
  obtain ⟨P, L, r, C⟩ := f
  obtain ⟨rfl, hI, rfl, hO⟩ := h
  simp only at hI hO
  have hI' := hI
  obtain ⟨p1, q1, rfl, _, _⟩ := hI'
  obtain ⟨p3, q3, rfl, _, _⟩ := hO
  obtain ⟨W1, hW1⟩ : ∃ W1, w.alloc (.cells #[.int .i64 P, .slice p1 L.length q1, .int .i64 r, .slice p3 C.length q3] 78) = W1 := ⟨_, rfl⟩
  have hw : Below w.heap.size w W1 := by rw [← hW1]; exact (Below.refl _ w).alloc (Nat.le_refl _) _
  have hh : W1.heap[w.heap.size]? = some (.cells #[.int .i64 P, .slice p1 L.length q1, .int .i64 r, .slice p3 C.length q3] 78 (0, 0)) := by rw [← hW1]; exact World.alloc_heap_new w _
  have hsz : w.heap.size < W1.heap.size := heap_lt hh
  subst hW1
  cases ha : L.all okType
  · go_enter Tryz.func172, Tryz.ntmps172
    go_wp2_with fail
    refine (containsTyped_any L _ _ (hI.below hw)).mono ?_
    rw [ha]
    rintro e w2 ⟨rfl, hb2⟩
    go_wp2
    go_ret
    exact ⟨by simp [typedB, ha], hw.trans (hb2.mono hw.size)⟩
  · by_cases h0 : 0 ≤ r
    · by_cases h2 : r ≤ 2
      all_goals
        go_enter Tryz.func172, Tryz.ntmps172
        go_wp2_with fail
        refine (containsTyped_any L _ _ (hI.below hw)).mono ?_
        rw [ha]
        rintro e w2 ⟨rfl, hb2⟩
        have g2 : w2.cell? ⟨w.heap.size, 2, none⟩ = some (.int .i64 r) := (hb2.cell (p := ⟨w.heap.size, 2, none⟩) hsz).trans (by rw [cell_at' hh]; rfl)
        go_wp2
        go_ret
        exact ⟨by simp [typedB, ha, h0, h2], hw.trans (hb2.mono hw.size)⟩
    · have hd : decide (0 ≤ r) = false := by simpa using h0
      go_enter Tryz.func172, Tryz.ntmps172
      go_wp2_with fail
      refine (containsTyped_any L _ _ (hI.below hw)).mono ?_
      rw [ha]
      rintro e w2 ⟨rfl, hb2⟩
      have g2 : w2.cell? ⟨w.heap.size, 2, none⟩ = some (.int .i64 r) := (hb2.cell (p := ⟨w.heap.size, 2, none⟩) hsz).trans (by rw [cell_at' hh]; rfl)
      go_wp2
      go_ret
      exact ⟨by simp [typedB, ha]; omega, hw.trans (hb2.mono hw.size)⟩
end Go.Proofs.YtcadpoknolefpaaGreat


/- append of code in memory onto a row of the call's own; Encode once more, its text under a name. -/
namespace Go.Proofs.YtcadpoknolefpaaGreat
open Go.RowKit
set_option linter.unusedSimpArgs false
set_option linter.unusedVariables false
def NilOk (v : Value) : Prop := ∀ n c, v = .slice none n c → c = 0
theorem add_at (b off j : Nat) : (⟨b, off, none⟩ : Addr).add j = ⟨b, off + j, none⟩ := by
  unfold Addr.add; split <;> simp_all
theorem encode_ex (l : List (Int × Int)) (v : Value) (w : World) (h : OpsAt w v l) : Calls Tryz.prog 66 #[v] w fun e w' => ∃ T : ByteArray, e = .returned (.tuple #[.string T, .int .i64 (codeErr l)]) ∧ T.data.toList = encStr l ∧ Below w.heap.size w w' :=
  (encode_any l v w h).mono fun e w' ⟨he, hb⟩ => ⟨_, he, rfl, hb⟩
end Go.Proofs.YtcadpoknolefpaaGreat


/- checkFunc and prog.Check. -/
namespace Go.Proofs.YtcadpoknolefpaaGreat
open Go.RowKit
set_option linter.unusedSimpArgs false
set_option linter.unusedVariables false
set_option maxHeartbeats 4000000 in
theorem checkFunc_any (f : Fn) (n : Nat) (c0 c1 c2 c3 : Value) (w : World) (h : FnAt w c0 c1 c2 c3 f) : Calls Tryz.prog 123 #[.agg #[c0, c1, c2, c3], .int .i64 n] w fun e w' => e = .returned (.int .i64 (fnErr f n)) ∧ Below w.heap.size w w' := by
  obtain ⟨P, L, R, C⟩ := f
  have hF0 := h
  obtain ⟨rfl, hI, rfl, hO⟩ := h
  simp only at hI hO
  obtain ⟨p1, q1, rfl, hm1, _⟩ := hI
  obtain ⟨p3, q3, rfl, hm3, _⟩ := hO
  simp only at hF0
  unfold maxLen at hm1 hm3
  have hw1 : Below w.heap.size w (w.alloc (.cells #[.int .i64 P, .slice p1 L.length q1, .int .i64 R, .slice p3 C.length q3] 78)) := (Below.refl _ w).alloc (Nat.le_refl _) _
  have hw : Below w.heap.size w ((w.alloc (.cells #[.int .i64 P, .slice p1 L.length q1, .int .i64 R, .slice p3 C.length q3] 78)).alloc (.cells #[.int .i64 n] 3)) := hw1.alloc (by simp) _
  have hhf : ((w.alloc (.cells #[.int .i64 P, .slice p1 L.length q1, .int .i64 R, .slice p3 C.length q3] 78)).alloc (.cells #[.int .i64 n] 3)).heap[w.heap.size]? = some (.cells #[.int .i64 P, .slice p1 L.length q1, .int .i64 R, .slice p3 C.length q3] 78 (0, 0)) := heap_old (World.alloc_heap_new w _) _
  have hhn : ((w.alloc (.cells #[.int .i64 P, .slice p1 L.length q1, .int .i64 R, .slice p3 C.length q3] 78)).alloc (.cells #[.int .i64 n] 3)).heap[w.heap.size + 1]? = some (.cells #[.int .i64 n] 3 (0, 0)) := by
    have := World.alloc_heap_new (w.alloc (.cells #[.int .i64 P, .slice p1 L.length q1, .int .i64 R, .slice p3 C.length q3] 78)) (.cells #[.int .i64 n] 3)
    rwa [World.size_alloc] at this
  have hB : Boxes ((w.alloc (.cells #[.int .i64 P, .slice p1 L.length q1, .int .i64 R, .slice p3 C.length q3] 78)).alloc (.cells #[.int .i64 n] 3)) w.heap.size (w.heap.size + 1) (P, L, R, C) n :=
    ⟨_, _, _, _, heap_lt hhf, heap_lt hhn, cell_at' hhf 0, cell_at' hhf 1, cell_at' hhf 2, cell_at' hhf 3, cell_at' hhn 0, hF0.below hw⟩
  have HB : Hid (Boxes ((w.alloc (.cells #[.int .i64 P, .slice p1 L.length q1, .int .i64 R, .slice p3 C.length q3] 78)).alloc (.cells #[.int .i64 n] 3)) w.heap.size (w.heap.size + 1) (P, L, R, C) n) := hB
  have HF : Hid (FnAt ((w.alloc (.cells #[.int .i64 P, .slice p1 L.length q1, .int .i64 R, .slice p3 C.length q3] 78)).alloc (.cells #[.int .i64 n] 3)) (.int .i64 P) (.slice p1 L.length q1) (.int .i64 R) (.slice p3 C.length q3) (P, L, R, C)) := hF0.below hw
  have HK : Hid (∀ w2, Below ((w.alloc (.cells #[.int .i64 P, .slice p1 L.length q1, .int .i64 R, .slice p3 C.length q3] 78)).alloc (.cells #[.int .i64 n] 3)).heap.size ((w.alloc (.cells #[.int .i64 P, .slice p1 L.length q1, .int .i64 R, .slice p3 C.length q3] 78)).alloc (.cells #[.int .i64 n] 3)) w2 → w2.cell? ⟨w.heap.size, 3, none⟩ = some (.slice p3 C.length q3)) := fun w2 hb => (hb.cell (p := ⟨w.heap.size, 3, none⟩) (heap_lt hhf)).trans (cell_at' hhf 3)
  clear hB hhf hhn hF0 hw1
  by_cases h6 : 6 < L.length
  · have h6' : (6 : Int) < (L.length : Int) := by omega
    go_enter Tryz.func123, Tryz.ntmps123
    go_wp2
    go_ret
    exact ⟨by simp [fnErr, h6], hw⟩
  have h6' : ¬ (6 : Int) < (L.length : Int) := by omega
  by_cases hp0 : P < 0
  · go_enter Tryz.func123, Tryz.ntmps123
    go_wp2
    go_ret
    exact ⟨by simp [fnErr, h6, hp0], hw⟩
  have hp0' : decide (P < 0) = false := by simpa using hp0
  by_cases hp1 : (L.length : Int) < P
  · go_enter Tryz.func123, Tryz.ntmps123
    go_wp2
    go_ret
    exact ⟨by simp [fnErr, h6, hp1], hw⟩
  have hfe : fnErr (P, L, R, C) n = if typedB (P, L, R, C) = false then 6 else if C.length = 0 then 5 else if codeErr C ≠ 0 then codeErr C else if (C.all fun o => namesB o (P, L, R, C) n) = false then 3 else 0 := by
    simp only [fnErr]
    rw [if_neg h6, if_neg (show ¬ (P < 0 ∨ (L.length : Int) < P) from by omega)]
  rw [hfe]
  clear hfe
  cases ht : typedB (P, L, R, C)
  · go_enter Tryz.func123, Tryz.ntmps123
    go_wp2_with fail
    refine (typed_any _ _ _ _ _ _ HF.out).mono ?_
    rw [ht]
    rintro e w2 ⟨rfl, hb2⟩
    go_wp2
    go_ret
    exact ⟨rfl, hw.trans (hb2.mono hw.size)⟩
  rw [if_neg (by simp)]
  by_cases hc0 : C.length = 0
  · have hc0' : ((C.length : Int) == 0) = true := beq_iff_eq.2 (by omega)
    rw [if_pos hc0]
    have HC0 : Hid (C.length = 0) := hc0
    clear hc0
    go_enter Tryz.func123, Tryz.ntmps123
    go_wp2_with fail
    refine (typed_any _ _ _ _ _ _ HF.out).mono ?_
    rw [ht]
    rintro e w2 ⟨rfl, hb2⟩
    have a3 := HK.out w2 hb2
    go_wp2
    go_ret
    exact ⟨rfl, hw.trans (hb2.mono hw.size)⟩
  have hc0' : ((C.length : Int) == 0) = false := beq_eq_false_iff_ne.2 (by omega)
  rw [if_neg hc0]
  clear hc0
  by_cases hce : codeErr C = 0
  · rw [if_neg (by simp [hce])]
    have HCE : Hid (codeErr C = 0) := hce
    clear hce
    cases hn : (C.all fun o => namesB o (P, L, R, C) n)
    all_goals
      go_enter Tryz.func123, Tryz.ntmps123
      go_wp2_with fail
      refine (typed_any _ _ _ _ _ _ HF.out).mono ?_
      rw [ht]
      rintro e w2 ⟨rfl, hb2⟩
      have a3 := HK.out w2 hb2
      go_wp2_with fail
      refine (encode_ex C _ w2 ((HF.out.below hb2).2.2.2)).mono ?_
      rw [HCE.out]
      rintro e w3 ⟨T3, rfl, _, hb3⟩
      have hb23 := hb2.trans (hb3.mono hb2.size)
      have b3 := HK.out w3 hb23
      clear a3
      go_wp2_with fail
      refine (containsNames_any C _ (P, L, R, C) n w.heap.size (w.heap.size + 1) w3 ((HF.out.below hb23).2.2.2) (HB.out.below hb23)).mono ?_
      rw [hn]
      rintro e w4 ⟨rfl, hb4⟩
      have hb4' := hb23.trans (hb4.mono hb23.size)
      go_wp2
      go_ret
      exact ⟨rfl, hw.trans (hb4'.mono hw.size)⟩
  · rw [if_pos hce]
    have hce' : (codeErr C != 0) = true := by simp [hce]
    clear hce
    go_enter Tryz.func123, Tryz.ntmps123
    go_wp2_with fail
    refine (typed_any _ _ _ _ _ _ HF.out).mono ?_
    rw [ht]
    rintro e w2 ⟨rfl, hb2⟩
    have a3 := HK.out w2 hb2
    go_wp2_with fail
    refine (encode_ex C _ w2 ((HF.out.below hb2).2.2.2)).mono ?_
    rintro e w3 ⟨T3, rfl, _, hb3⟩
    have hb23 := hb2.trans (hb3.mono hb2.size)
    go_wp2
    go_ret
    exact ⟨rfl, hw.trans (hb23.mono hw.size)⟩
end Go.Proofs.YtcadpoknolefpaaGreat


