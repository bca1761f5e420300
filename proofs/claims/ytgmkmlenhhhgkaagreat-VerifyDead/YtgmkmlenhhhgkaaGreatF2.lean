/- My texts Wh Wi Wj Mp Pm Pq Va Vb Ap: what of them is needed, joined. -/
import Derived.Laws.StructEq
import Derived.Deep.QuietTactic
import Derived.BigQuiet
import Derived.Laws.AppendOwnNone
import Derived.Test.YtgmkmlenhhhgkaaGreatF1
set_option maxRecDepth 100000
set_option maxHeartbeats 8000000
/- op.Decode. -/
namespace Go.Proofs.YtgmkmlenhhhgkaaGreat
open Go.RowKit Go.Shelf
set_option linter.unusedSimpArgs false
set_option linter.unusedVariables false
attribute [local go_sem] Oper.semAt_some
def dec : List ((Int × Int) × Int) → List (Int × Int) → List (Int × Int) × Int
  | [], acc => (acc, 0)
  | x :: r, acc => if x.2 = 0 then (if acc.length = 40 then ([], 2) else dec r (acc ++ [x.1])) else ([], x.2)
theorem dec_ok (p : List ((Int × Int) × Int)) : ∀ (r : List ((Int × Int) × Int)) (acc : List (Int × Int)), (∀ x ∈ p, x.2 = 0) → acc.length + p.length ≤ 40 → dec (p ++ r) acc = dec r (acc ++ p.map Prod.fst) := by
  induction p with
  | nil => intro r acc _ _; simp
  | cons x q ih =>
    intro r acc h hl
    simp only [List.length_cons] at hl
    rw [List.cons_append, dec, if_pos (h x (by simp)), if_neg (by omega), ih r _ (fun y hy => h y (by simp [hy])) (by simp; omega)]
    simp
def xfjZ (pre : List ((Int × Int) × Int)) (er : Int) : Prop := ∃ p x, pre = p ++ [x] ∧ (∀ y ∈ p, y.2 = 0) ∧ p.length ≤ 40 ∧ ((¬ x.2 = 0 ∧ er = x.2) ∨ (x.2 = 0 ∧ p.length = 40 ∧ er = 2))
theorem dec_stop {pre its : List ((Int × Int) × Int)} {er : Int} (h : xfjZ pre er) (hp : pre <+: its) : dec its [] = ([], er) := by
  obtain ⟨p, x, rfl, hok, hl, hx⟩ := h
  obtain ⟨t, rfl⟩ := hp
  rw [List.append_assoc, dec_ok p _ _ hok (by simpa using hl)]
  rcases hx with ⟨h1, rfl⟩ | ⟨h1, h2, rfl⟩
  · simp [dec, h1]
  · simp [dec, h1, h2]
def opCells (l : List (Int × Int)) : List Value := l.flatMap fun o => [.int .i64 o.1, .int .i64 o.2]
theorem xd6Z (l : List (Int × Int)) : (opCells l).length = l.length * 2 := by
  induction l with
  | nil => rfl
  | cons o r ih => simp [opCells] at *; omega
theorem xcwZ (l : List (Int × Int)) : ∀ (k : Nat) (o : Int × Int), l[k]? = some o → (opCells l)[k * 2]? = some (.int .i64 o.1) ∧ (opCells l)[k * 2 + 1]? = some (.int .i64 o.2) := by
  induction l with
  | nil => intro k o h; simp at h
  | cons x r ih =>
    intro k o h
    cases k with
    | zero => simp at h; subst h; simp [opCells]
    | succ k =>
      have := ih k o (by simpa using h)
      rw [show (k + 1) * 2 = k * 2 + 1 + 1 from by omega]
      simpa [opCells] using this
theorem xbiZ {α : Type} {l : List α} {k : Nat} {o : α} (h : l[k]? = some o) : k < l.length := (List.getElem?_eq_some_iff.1 h).1
theorem xe9Z {W : World} {base : Nat} {v : Value} {l : List (Int × Int)} (h : W.ownsRow base 38 2 v l.length (opCells l)) : OpsAt W v l := by
  rcases h.2 with ⟨rfl, h0⟩ | ⟨g, cap, cur, rfl, hb, hg, hn, hc, hs, ht⟩
  · refine ⟨none, 0, by rw [h0], by rw [h0]; exact Nat.zero_le _, fun k o hk => ?_⟩
    have := xbiZ hk
    omega
  · refine ⟨_, cap, rfl, by omega, fun k o hk => ⟨g, 0, rfl, (Array.getElem?_eq_some_iff.1 hg).1, ?_, ?_⟩⟩
    · have hk2 := xbiZ hk
      have := (xcwZ l k o hk).1
      rw [← ht, List.getElem?_take_of_lt (by omega)] at this
      simpa [World.cell?, hg] using this
    · have hk2 := xbiZ hk
      have := (xcwZ l k o hk).2
      rw [← ht, List.getElem?_take_of_lt (by omega)] at this
      simpa [World.cell?, hg] using this
def NewSl (W : World) (B : Nat) (e : TypeId) (v : Value) : Prop := ∀ a n c, v = .slice (some a) n c → B ≤ a.block ∧ ∃ cs fz, W.heap[a.block]? = some (.cells cs e fz)
theorem xe8Z {W : World} {base : Nat} {e : TypeId} {size : Nat} {v : Value} {n : Nat} {xs : List Value} (h : W.ownsRow base e size v n xs) : NewSl W base e v := fun a m c hv => by
  rcases h.2 with ⟨rfl, _⟩ | ⟨g, cap, cur, rfl, hb, hg, _⟩
  · cases hv
  · cases hv; exact ⟨hb, _, _, hg⟩
def DecI (w : World) (pre : List ((Int × Int) × Int)) (W : World) : Prop :=
  ((((∃ v, Boxed W (w.heap.size + 1 + 1) 26 v ∧ W.ownsRow w.heap.size 38 2 v pre.length (opCells (pre.map Prod.fst)) ∧ True) ∧ Boxed W w.heap.size 26 (.slice none 0 0)) ∧ Boxed W (w.heap.size + 1) 30 (.int .i64 0)) ∧ ((∀ x ∈ pre, x.2 = 0) ∧ pre.length ≤ 40)) ∧ Below w.heap.size w W
def DecX (w : World) (c : Code) (pre : List ((Int × Int) × Int)) (W : World) : Prop :=
  c = .ret ∧ ∃ er, ((Boxed W w.heap.size 26 (.slice none 0 0) ∧ Boxed W (w.heap.size + 1) 30 (.int .i64 er)) ∧ xfjZ pre er) ∧ Below w.heap.size w W
theorem decI_own (w : World) (B : Nat) (hB : w.heap.size ≤ B) : OwnFrom B (DecI w) :=
  OwnFrom.and (OwnFrom.and (OwnFrom.and (OwnFrom.and (Own.from (holdsRow_own w.heap.size (w.heap.size + 1 + 1) 26 38 2 (fun pre : List ((Int × Int) × Int) => pre.length) (fun pre => opCells (pre.map Prod.fst)) (fun _ _ => True)) _) (Own.from (boxed_own _ _ _) _)) (Own.from (boxed_own _ _ _) _)) (ownFrom_pure _ _)) (ownFrom_below (Nat.le_refl _) hB)
theorem decX_own (w : World) (B : Nat) (hB : w.heap.size ≤ B) (c : Code) : OwnFrom B (DecX w c) := fun pre X Y row hs hg hr => by
  obtain ⟨hc, er, ⟨⟨ha, hb⟩, hst⟩, hbl⟩ := hs
  exact ⟨hc, er, ⟨⟨boxed_own w.heap.size 26 (fun (_ : Unit) => Value.slice none 0 0) () X Y row ha hg (fun r e => (hr r e).2), boxed_own (w.heap.size + 1) 30 (fun (_ : Unit) => Value.int .i64 er) () X Y row hb hg (fun r e => (hr r e).2)⟩, hst⟩, ownFrom_below (β := Unit) (Nat.le_refl _) hB () X Y row hbl hg hr⟩
theorem xaaZ {w : World} {k : Nat} {c : Array Value} {t : TypeId} {fz : Nat × Nat} (h : w.heap[k]? = some (.cells c t fz)) (j : Nat) : w.cell? ⟨k, j, none⟩ = c[j]? := by
  unfold World.cell?; rw [h]; rfl
theorem infoOp : (Tryz.prog.info? 38).map (fun i => (i.zero, i.size, i.bytes)) = some (some (.agg #[.int .i64 0, .int .i64 0]), 2, 16) := by kernel_rfl
theorem decode_new (s : ByteArray) (hm : s.size ≤ maxLen) (w : World) :
    Calls Tryz.prog 99 #[.string s] w fun e w' => ∃ v, e = .returned (.tuple #[v, .int .i64 (dec (items s.size s.data.toList) []).2]) ∧ OpsAt w' v (dec (items s.size s.data.toList) []).1 ∧ Below w.heap.size w w' ∧ NewSl w' w.heap.size 38 v := by
  obtain ⟨its, hits⟩ : ∃ its, items s.size s.data.toList = its := ⟨_, rfl⟩
  have hst := fun n hn bs W hB => each_stops n hn bs s hm W hB
  rw [hits] at hst
  rw [hits]
  have HST : Hid (∀ (n : Nat) (hn : 1 ≤ n) (bs : Nat) (W : World) (hB : Boxed W bs 9 (.string s)), SeqStopsK Fence.wide n Tryz.prog 123 #[.pointer (some ⟨bs, 0, none⟩)] encsI (KpS bs s) (fun ys => ys = its) (fun pre => pre <+: its) its.length W) := hst
  clear hst hits
  obtain ⟨i0, hi, hz0, hz1, hz2⟩ := info_parts infoOp
  refine (callsIn_wide (n := 5)).1 ?_
  have h1 : 1 ≤ 5 := by omega
  refine callsIn_of_wp_marks Tryz.func99 rfl trivial ?_ rfl
  simp only [Tryz.ntmps99, List.size_toArray, List.length_cons, List.length_nil, Nat.reduceAdd, Nat.reduceSub, Array.replicate_succ, Array.replicate_zero, List.push_toArray, List.append_toArray, List.nil_append, List.cons_append]
  gi_wp2_with fail
  refine ⟨trivial, ?_⟩
  refine (callsIn_wide.2 (each_any s _)).mono ?_
  rintro e w' ⟨rfl, rfl⟩
  gi_wp2
  have hB0 : Below w.heap.size w ((((w.alloc (.cells #[.slice none 0 0] 26)).alloc (.cells #[.int .i64 0] 30)).alloc (.cells #[.slice none 0 0] 26)).alloc (.cells #[.string s] 9)) := ((((Below.refl _ w).alloc (Nat.le_refl _) _).alloc (by simp) _).alloc (by simp; omega) _).alloc (by simp; omega) _
  have b0 := (((Boxed.new w 26 (.slice none 0 0)).alloc (.cells #[.int .i64 0] 30)).alloc (.cells #[.slice none 0 0] 26)).alloc (.cells #[.string s] 9)
  have b1 := ((Boxed.new (w.alloc (.cells #[.slice none 0 0] 26)) 30 (.int .i64 0)).alloc (.cells #[.slice none 0 0] 26)).alloc (.cells #[.string s] 9)
  have b2 := (Boxed.new ((w.alloc (.cells #[.slice none 0 0] 26)).alloc (.cells #[.int .i64 0] 30)) 26 (.slice none 0 0)).alloc (.cells #[.string s] 9)
  have b3 := Boxed.new (((w.alloc (.cells #[.slice none 0 0] 26)).alloc (.cells #[.int .i64 0] 30)).alloc (.cells #[.slice none 0 0] 26)) 9 (.string s)
  simp only [World.size_alloc] at b1 b2 b3
  obtain ⟨W0, hW0⟩ : ∃ W0, ((((w.alloc (.cells #[.slice none 0 0] 26)).alloc (.cells #[.int .i64 0] 30)).alloc (.cells #[.slice none 0 0] 26)).alloc (.cells #[.string s] 9)) = W0 := ⟨_, rfl⟩
  have hsz : W0.heap.size = w.heap.size + 1 + 1 + 1 + 1 := by rw [← hW0]; simp
  rw [hW0] at hB0 b0 b1 b2 b3 ⊢
  clear hW0
  refine wpIn_rangeFunc_ownH rfl h1 (gf := 123) (lb := #[.pointer (some ⟨w.heap.size + 1 + 1 + 1, 0, none⟩)]) rfl trivial (enters_of Tryz.func123 (by kernel_rfl) rfl)
    (HST.out (5 - 1) (by omega) (w.heap.size + 1 + 1 + 1) W0 b3) kpS_t kpS_b (Below.refl _ _) (fun _ => rfl)
    (DecI w) (DecX w) (decI_own w _ (by omega)) (decX_own w _ (by omega))
    ⟨⟨⟨⟨⟨_, b2, World.ownsRow_nil _ _ _ _, trivial⟩, b0⟩, b1⟩, by simp, by simp⟩, hB0⟩
    (fun x a' W => ∃ Bx, w.heap.size + 1 + 1 < Bx ∧ W.heap[Bx]? = some (.cells #[.int .i64 x.1.1, .int .i64 x.1.2] 38 (0, 0)) ∧ a' = { tmps := #[.string s, undef, .pointer (some ⟨w.heap.size, 0, none⟩), .pointer (some ⟨w.heap.size + 1, 0, none⟩), .pointer (some ⟨w.heap.size + 1 + 1, 0, none⟩), .pointer (some ⟨Bx, 0, none⟩), .int .i64 x.2, .string s, .func (.func 123) #[] #[.pointer (some ⟨w.heap.size + 1 + 1 + 1, 0, none⟩)], .agg #[.int .i64 x.1.1, .int .i64 x.1.2], .int .i64 x.2, undef, undef, undef, undef, undef, undef, undef, undef, undef, undef, undef], defers := [] })
    (fun x a' _ X Y row hs hg hr => by
      obtain ⟨Bx, h1, h2, h3⟩ := hs
      refine ⟨Bx, h1, (hg.block Bx (Array.getElem?_eq_some_iff.1 h2).1 (fun e => ?_)).trans h2, h3⟩
      obtain ⟨_, o, ho, hc⟩ := hr Bx e.symm
      rw [h2] at ho; cases ho; cases hc)
    ?assign ?body ?done ?stop
  case assign =>
    rintro l pre x W K ⟨⟨⟨⟨⟨v, hv, hrow, _⟩, c0⟩, c1⟩, hok, hl⟩, hB⟩ hK
    gi_wp2
    exact hK _ _ ((KeepsOthers.alloc _ _).from _) (fun hbx => hbx.alloc _) ⟨⟨⟨⟨⟨v, hv.alloc _, hrow.alloc _, trivial⟩, c0.alloc _⟩, c1.alloc _⟩, hok, hl⟩, hB.alloc hB.size _⟩ ⟨W.heap.size, hv.lt, World.alloc_heap_new W _, rfl⟩
  case body =>
    rintro l pre ⟨⟨c, a⟩, er⟩ a' W hl ⟨r, hr⟩ ⟨⟨⟨⟨⟨v, hv, hrow, _⟩, c0⟩, c1⟩, hok, h40⟩, hB⟩ ⟨Bx, hBx, bX, rfl⟩ hlt
    have HOK : Hid (∀ x ∈ pre, x.2 = 0) := hok
    clear hok HST hr hlt
    have k0 := c0.cell
    have k1 := c1.cell
    have z0 := c0.frozen
    have z1 := c1.frozen
    have hleave : ∀ e', xfjZ (pre ++ [((c, a), er)]) e' → KeepsFrom W0.heap.size W ((W.setCell ⟨w.heap.size, 0, none⟩ (.slice none 0 0)).setCell ⟨w.heap.size + 1, 0, none⟩ (.int .i64 e')) ∧ DecX w .ret (pre ++ [((c, a), er)]) ((W.setCell ⟨w.heap.size, 0, none⟩ (.slice none 0 0)).setCell ⟨w.heap.size + 1, 0, none⟩ (.int .i64 e')) := fun e' hst =>
      ⟨((KeepsOthers.setCell _ _ _).trans (KeepsOthers.setCell _ _ _)).from _, rfl, e', ⟨⟨(c0.set _).other (by omega) _, (c1.other (by omega) _).set _⟩, hst⟩, (hB.setCell (p := ⟨w.heap.size, 0, none⟩) (Nat.le_refl _) _).setCell (p := ⟨w.heap.size + 1, 0, none⟩) (by simp) _⟩
    have HL : Hid (∀ e', xfjZ (pre ++ [((c, a), er)]) e' → KeepsFrom W0.heap.size W ((W.setCell ⟨w.heap.size, 0, none⟩ (.slice none 0 0)).setCell ⟨w.heap.size + 1, 0, none⟩ (.int .i64 e')) ∧ DecX w .ret (pre ++ [((c, a), er)]) ((W.setCell ⟨w.heap.size, 0, none⟩ (.slice none 0 0)).setCell ⟨w.heap.size + 1, 0, none⟩ (.int .i64 e'))) := hleave
    clear hleave
    have HZ : Hid (W0.heap.size = w.heap.size + 1 + 1 + 1 + 1) := hsz
    clear hsz
    by_cases he : er = 0
    · subst he
      have hvs : ∃ p cap, v = .slice p pre.length cap := by
        rcases hrow.2 with ⟨rfl, h0⟩ | ⟨g, cap, cur, rfl, _⟩
        · exact ⟨none, 0, by rw [h0]⟩
        · exact ⟨_, _, rfl⟩
      obtain ⟨p, cap, rfl⟩ := hvs
      have k2 := hv.cell
      by_cases hfull : pre.length = 40
      · have hf' : ((pre.length : Int) == 40) = true := by simp; omega
        have HF : Hid (pre.length = 40) := hfull
        clear hfull
        gi_wp2
        exact HL.out 2 ⟨pre, _, rfl, HOK.out, h40, .inr ⟨rfl, HF.out, rfl⟩⟩
      · have hf' : ((pre.length : Int) == 40) = false := by simp; omega
        have g0 : W.cell? ⟨Bx, 0, none⟩ = some (.int .i64 c) := by simp [World.cell?, bX]
        have g1 : W.cell? ⟨Bx, 0 + 1, none⟩ = some (.int .i64 a) := by simp [World.cell?, bX]
        have hnews : ∀ (j : Nat) (u : Value), [Value.int .i64 c, Value.int .i64 a][j]? = some u → (W.alloc (.cells #[.int .i64 c, .int .i64 a] 38)).cell? ((⟨W.heap.size, 0, none⟩ : Addr).add j) = some u := by
          intro j u hj
          have hn := World.alloc_heap_new W (.cells #[.int .i64 c, .int .i64 a] 38)
          match j, hj with
          | 0, hj => simp at hj; subst hj; exact xaaZ hn 0
          | 1, hj => simp at hj; subst hj; exact xaaZ hn 1
          | k + 2, hj => simp at hj
        have hso : ∀ u ∈ [Value.int .i64 c, Value.int .i64 a], u.oneCell' = true := by
          intro u hu; simp at hu; rcases hu with rfl | rfl <;> rfl
        gi_wp2_with (gi_at_builtin; refine wpListIn_append_own _ rfl _ _ 26 rfl w.heap.size 38 i0 (.agg #[.int .i64 0, .int .i64 0]) 2 16 Tryz.underlying26 hi hz0 hz1 hz2 rfl (by decide) _ _ _ rfl (hrow.alloc _) ⟨W.heap.size, 0, none⟩ 1 1 [.int .i64 c, .int .i64 a] rfl rfl hnews hso (by unfold maxLen; omega) (by omega) (by have := hB.size; simp; omega) ?_; intro v' w1 hown' hgrow _; obtain ⟨g', cap', rfl⟩ := ownsRow_succ hown'; obtain ⟨hv1, hv2, hr2, hk2, hb2⟩ := hv.appended (by decide) hrow hB.size (by omega) hown' hgrow; have hc1 := hv1.cell; have hf1 := hv1.frozen)
        have e0 := ((c0.alloc (.cells #[.int .i64 c, .int .i64 a] 38)).kept hgrow (c0.not_row (by decide) hrow)).other (B' := w.heap.size + 1 + 1) (by omega) (.slice (some ⟨g', 0, none⟩) (pre.length + 1) cap')
        have e1 := ((c1.alloc (.cells #[.int .i64 c, .int .i64 a] 38)).kept hgrow (c1.not_row (by decide) hrow)).other (B' := w.heap.size + 1 + 1) (by omega) (.slice (some ⟨g', 0, none⟩) (pre.length + 1) cap')
        refine ⟨hk2.from _, fun bx => ((bx.alloc (.cells #[.int .i64 c, .int .i64 a] 38)).kept hgrow (bx.not_row (by decide) hrow)).other (B' := w.heap.size + 1 + 1) (by omega) _, ⟨⟨⟨⟨_, hv2, ?_, trivial⟩, e0⟩, e1⟩, ?_, by simp; omega⟩, hB.trans hb2⟩
        · have e : opCells ((pre ++ [((c, a), (0 : Int))]).map Prod.fst) = opCells (pre.map Prod.fst) ++ [.int .i64 c, .int .i64 a] := by simp [opCells]
          rw [e, List.length_append, List.length_singleton]
          exact hr2
        · intro x hx
          rcases List.mem_append.1 hx with hx | hx
          · exact HOK.out x hx
          · simp at hx; subst hx; rfl
    · have he' : (er != 0) = true := by simp [he]
      gi_wp2
      exact HL.out er ⟨pre, _, rfl, HOK.out, h40, .inl ⟨he, rfl⟩⟩
  case done =>
    rintro D ys W hD rfl ⟨⟨⟨⟨⟨v, hv, hrow, _⟩, c0⟩, c1⟩, hok, h40⟩, hB⟩ hK
    have hdec : dec ys [] = (ys.map Prod.fst, 0) := by
      have := dec_ok ys [] [] hok (by simpa using h40)
      simpa [dec] using this
    have HD : Hid (dec ys [] = (ys.map Prod.fst, 0)) := hdec
    clear hdec hok HST
    have hvs : ∃ p cap, v = .slice p ys.length cap := by
      rcases hrow.2 with ⟨rfl, h0⟩ | ⟨g, cap, cur, rfl, _⟩
      · exact ⟨none, 0, by rw [h0]⟩
      · exact ⟨_, _, rfl⟩
    obtain ⟨p, cap, rfl⟩ := hvs
    have k0 := c0.cell
    have k1 := c1.cell
    have k2 := hv.cell
    have z0 := c0.frozen
    have z1 := c1.frozen
    gi_wp2
    have hK' := ((KeepsOthers.setCell W ⟨w.heap.size, 0, none⟩ (.slice p ys.length cap)).trans (KeepsOthers.setCell _ ⟨w.heap.size + 1, 0, none⟩ (.int .i64 0))).same D _ hK rfl
    have r0 : Boxed ((W.setCell ⟨w.heap.size, 0, none⟩ (.slice p ys.length cap)).setCell ⟨w.heap.size + 1, 0, none⟩ (.int .i64 0)) w.heap.size 26 (.slice p ys.length cap) := (c0.set _).other (by omega) _
    have r1 : Boxed ((W.setCell ⟨w.heap.size, 0, none⟩ (.slice p ys.length cap)).setCell ⟨w.heap.size + 1, 0, none⟩ (.int .i64 0)) (w.heap.size + 1) 30 (.int .i64 0) := (c1.other (by omega) _).set _
    have hrow2 := (hrow.kept (grownBy_setCell' W w.heap.size (.slice p ys.length cap)) (.inr (c0.not_row (by decide) hrow).symm))
    have hrow3 := (hrow2.kept (grownBy_setCell' _ (w.heap.size + 1) (.int .i64 0)) (.inr ((c1.other (B' := w.heap.size) (by omega) _).not_row (by decide) hrow2).symm))
    have hB3 := (hB.setCell (p := ⟨w.heap.size, 0, none⟩) (Nat.le_refl _) (.slice p ys.length cap)).setCell (p := ⟨w.heap.size + 1, 0, none⟩) (by simp) (.int .i64 0)
    have q0 := (r0.kept (grownBy_putObj' _ D (.deferred none)) (fun e => by cases e; omega)).cell
    have q1 := (r1.kept (grownBy_putObj' _ D (.deferred none)) (fun e => by cases e; omega)).cell
    refine ⟨by simp, .inl ⟨_, _, rfl, run_takeDeferred hK', ?_⟩⟩
    refine ⟨.tuple #[.slice p ys.length cap, .int .i64 0], by simp [results, Tryz.results99, go_sem, q0, q1], _, by rw [HD.out], ?_, ?_, xe8Z (base := w.heap.size) (n := ys.length) (size := 2) (by have := ownsRow_putObj hrow3 (.deferred none) hK' rfl; simpa using this)⟩
    · rw [HD.out]
      refine xe9Z (base := w.heap.size) ?_
      have := ownsRow_putObj hrow3 (.deferred none) hK' rfl
      simpa using this
    · exact hB3.trans (belowK_b (w := w) (Nat.le_refl _) _ D _ _ (by omega) hK' rfl rfl)
  case stop =>
    rintro D c pre W hD hpre ⟨rfl, er, ⟨⟨c0, c1⟩, hst⟩, hB⟩ hK
    have HD : Hid (dec its [] = ([], er)) := dec_stop hst hpre
    clear hst hpre HST
    gi_wp2
    have q0 := (c0.kept (grownBy_putObj' _ D (.deferred none)) (fun e => by cases e; omega)).cell
    have q1 := (c1.kept (grownBy_putObj' _ D (.deferred none)) (fun e => by cases e; omega)).cell
    refine ⟨by simp, .inl ⟨_, _, rfl, run_takeDeferred hK, ?_⟩⟩
    refine ⟨.tuple #[.slice none 0 0, .int .i64 er], by simp [results, Tryz.results99, go_sem, q0, q1], _, by rw [HD.out], ?_, ?_, fun a n c h => by cases h⟩
    · rw [HD.out]
      exact ⟨none, 0, rfl, Nat.zero_le _, fun k o hk => by simp at hk⟩
    · exact hB.trans (belowK_b (w := w) (Nat.le_refl _) _ D _ _ (by omega) hK rfl rfl)
end Go.Proofs.YtgmkmlenhhhgkaaGreat


/- SameOps of the reference. -/
namespace Go.Proofs.YtgmkmlenhhhgkaaGreat
open Go.RowKit
set_option linter.unusedSimpArgs false
set_option linter.unusedVariables false
theorem neq_op (c a c' a' : Int) (w : World) : (binOp .neq 38 (.agg #[.int .i64 c, .int .i64 a]) (.agg #[.int .i64 c', .int .i64 a'])).run Tryz.prog w = .ok (.bool (!(c == c' && a == a'))) w := by
  have u3 := Tryz.underlying3
  have a3 := Tryz.isAgg3
  have z3 := Tryz.sizeOf3
  have hS : Tryz.prog.underlying 38 = some (.struct (Tryz.prog.fieldsOf 38)) := by kernel_rfl
  have hp : Tryz.prog.stoodInHeld 38 = false := by kernel_rfl
  rw [run_neq_struct, show (10000 : Nat) = 9999 + 1 from rfl, run_equalIn_agg w 9999 38 _ _ hS hp]
  simp only [Program.fieldsOf, Tryz.underlying38]
  go_simp
  by_cases h1 : c = c' <;> by_cases h2 : a = a' <;> simp [h1, h2]
theorem guard_op : Tryz.prog.eqGuardType Tryz.prog.depth 38 = false := by kernel_rfl
theorem xc2Z (l m : List (Int × Int)) (v u : Value) (w : World) (hl : OpsAt w v l) (hm : OpsAt w u m) : Calls Tryz.prog 54 #[v, u] w fun e w' => e = .returned (.bool (decide (l = m))) ∧ Below w.heap.size w w' := by
  obtain ⟨p, cap, rfl, hlm, hc⟩ := hl
  obtain ⟨q, cap', rfl, hmm, hd⟩ := hm
  unfold maxLen at hlm hmm
  by_cases hlen : l.length = m.length
  · have hlen' : ((l.length : Int) != (m.length : Int)) = false := by simp; omega
    have HLEN : Hid (l.length = m.length) := hlen
    have HC : Hid (∀ k o, l[k]? = some o → ∃ b off, p = some ⟨b, off, none⟩ ∧ b < w.heap.size ∧ w.cell? ⟨b, off + k * 2, none⟩ = some (.int .i64 o.1) ∧ w.cell? ⟨b, off + k * 2 + 1, none⟩ = some (.int .i64 o.2)) := hc
    have HD : Hid (∀ k o, m[k]? = some o → ∃ b off, q = some ⟨b, off, none⟩ ∧ b < w.heap.size ∧ w.cell? ⟨b, off + k * 2, none⟩ = some (.int .i64 o.1) ∧ w.cell? ⟨b, off + k * 2 + 1, none⟩ = some (.int .i64 o.2)) := hd
    clear hc hd hlen
    go_enter Tryz.func54, Tryz.ntmps54
    go_wp2
    go_loopw [5] (fun i wr => ∃ k : Nat, k ≤ l.length ∧ i = .int .i64 k ∧ l.take k = m.take k ∧ Below w.heap.size w wr) (fun i _ => l.length - (intOf i).toNat)
    case atStart => exact ⟨0, Nat.zero_le _, rfl, by simp, Below.refl _ _⟩
    case round =>
      obtain ⟨k, hk, rfl, htk, hbw⟩ := hrel
      have HT : Hid (l.take k = m.take k) := htk
      clear htk
      by_cases hlt : k < l.length
      · have hlt2 : k < m.length := by have := HLEN.out; omega
        obtain ⟨⟨c, a⟩, ho⟩ : ∃ o, l[k]? = some o := ⟨l[k], List.getElem?_eq_some_iff.2 ⟨hlt, rfl⟩⟩
        obtain ⟨⟨c', a'⟩, ho'⟩ : ∃ o, m[k]? = some o := ⟨m[k], List.getElem?_eq_some_iff.2 ⟨hlt2, rfl⟩⟩
        obtain ⟨b, off, rfl, hb, h0, h1⟩ := HC.out k _ ho
        obtain ⟨b', off', rfl, hb', h0', h1'⟩ := HD.out k _ ho'
        have g0 := (hbw.cell (p := ⟨b, off + k * 2, none⟩) hb).trans h0
        have g1 := (hbw.cell (p := ⟨b, off + k * 2 + 1, none⟩) hb).trans h1
        have g0' := (hbw.cell (p := ⟨b', off' + k * 2, none⟩) hb').trans h0'
        have g1' := (hbw.cell (p := ⟨b', off' + k * 2 + 1, none⟩) hb').trans h1'
        have hlti : (k : Int) < (l.length : Int) := by omega
        have hlti2 : (k : Int) < (m.length : Int) := by omega
        have hg := guard_op
        have HO : Hid (l[k]? = some (c, a)) := ho
        have HO' : Hid (m[k]? = some (c', a')) := ho'
        clear ho ho' h0 h1 h0' h1'
        by_cases he : c = c' ∧ a = a'
        · have hneq : ∀ w, (binOp .neq 38 (.agg #[.int .i64 c, .int .i64 a]) (.agg #[.int .i64 c', .int .i64 a'])).run Tryz.prog w = .ok (.bool false) w := fun w => by rw [neq_op]; simp [he]
          have HE : Hid (c = c' ∧ a = a') := he
          clear he
          go_wp2
          go_quiet (fail)
          go_wp2
          go_roundw
          case rel => exact ⟨k + 1, by omega, by go_num, by rw [xavZ l k _ HO.out, xavZ m k _ HO'.out, HT.out, HE.out.1, HE.out.2], below_drewN hbw _⟩
          case measure => simp [intOf]; omega
        · have hneq : ∀ w, (binOp .neq 38 (.agg #[.int .i64 c, .int .i64 a]) (.agg #[.int .i64 c', .int .i64 a'])).run Tryz.prog w = .ok (.bool true) w := fun w => by rw [neq_op]; simp; omega
          have HE : Hid (¬ (c = c' ∧ a = a')) := he
          clear he
          go_wp2
          go_quiet (fail)
          go_wp2
          go_ret
          refine ⟨?_, below_drewN hbw _⟩
          have : ¬ l = m := fun h => by
            have h1 := HO.out
            rw [h, HO'.out] at h1
            simp at h1
            exact HE.out ⟨h1.1.symm, h1.2.symm⟩
          simp [this]
      · have hlt' : ¬ (k : Int) < (l.length : Int) := by omega
        go_wp2
        go_ret
        refine ⟨?_, hbw⟩
        have : l = m := by
          have h := HT.out
          rwa [List.take_of_length_le (by omega), List.take_of_length_le (by have := HLEN.out; omega)] at h
        simp [this]
  · have hlen' : ((l.length : Int) != (m.length : Int)) = true := by simp; omega
    have hne : ¬ l = m := fun h => hlen (by rw [h])
    clear hc hd
    have HN : Hid (¬ l = m) := hne
    clear hne hlen
    go_enter Tryz.func54, Tryz.ntmps54
    go_wp2
    go_ret
    exact ⟨by simp [HN.out], Below.refl _ _⟩
end Go.Proofs.YtgmkmlenhhhgkaaGreat


/- opBegun. -/
namespace Go.Proofs.YtgmkmlenhhhgkaaGreat
open Go.RowKit
set_option linter.unusedSimpArgs false
set_option linter.unusedVariables false
def loopOps : List (Int × Int) := [(1, 3), (3, 0), (20, 0), (1, 1), (6, 0), (3, 0), (11, 8), (10, 1), (2, 0), (13, 0)]
theorem xdaZ {w : World} {b : Nat} {l m : List (Int × Int)} {fz : Nat × Nat} (n cap : Nat) (h : w.heap[b]? = some (.cells (opCells (l ++ m)).toArray 38 fz)) (hn : n = l.length) (hm : l.length ≤ maxLen) : OpsAt w (.slice (some ⟨b, 0, none⟩) n cap) l := by
  subst hn
  refine ⟨_, cap, rfl, hm, fun k o hk => ⟨b, 0, rfl, (Array.getElem?_eq_some_iff.1 h).1, ?_, ?_⟩⟩
  · have := (xcwZ (l ++ m) k o (by rw [List.getElem?_append_left (xbiZ hk)]; exact hk)).1
    rw [xaaZ h]; simpa using this
  · have := (xcwZ (l ++ m) k o (by rw [List.getElem?_append_left (xbiZ hk)]; exact hk)).2
    rw [xaaZ h]; simpa using this
theorem loop_any (w : World) : Calls Tryz.prog 33 #[] w fun e w' => e = .returned (.slice (some ⟨w.heap.size, 0, none⟩) 10 10) ∧ w' = w.alloc (.cells (opCells loopOps).toArray 38) := by
  go_enter Tryz.func33, Tryz.ntmps33
  go_wp2
  go_ret
  exact ⟨rfl, rfl⟩
end Go.Proofs.YtgmkmlenhhhgkaaGreat


/- Programs in memory. -/
namespace Go.Proofs.YtgmkmlenhhhgkaaGreat
open Go.RowKit
set_option linter.unusedSimpArgs false
set_option linter.unusedVariables false
abbrev Fn := Int × List Int × Int × List (Int × Int)
def IntsAt (w : World) (v : Value) (l : List Int) : Prop :=
  ∃ (p : Option Addr) (cap : Nat), v = .slice p l.length cap ∧ l.length ≤ maxLen ∧ ∀ k z, l[k]? = some z →
    ∃ b off, p = some ⟨b, off, none⟩ ∧ b < w.heap.size ∧ w.cell? ⟨b, off + k, none⟩ = some (.int .i64 z)
theorem IntsAt.below {w w' : World} {v : Value} {l : List Int} (h : IntsAt w v l) (hb : Below w.heap.size w w') : IntsAt w' v l := by
  obtain ⟨p, cap, rfl, hm, hc⟩ := h
  refine ⟨p, cap, rfl, hm, fun k o hk => ?_⟩
  obtain ⟨b, off, rfl, hlt, h0⟩ := hc k o hk
  exact ⟨b, off, rfl, Nat.lt_of_lt_of_le hlt hb.size, (hb.cell (p := ⟨b, off + k, none⟩) hlt).trans h0⟩
def FnAt (w : World) (c0 c1 c2 c3 : Value) (f : Fn) : Prop := c0 = .int .i64 f.1 ∧ IntsAt w c1 f.2.1 ∧ c2 = .int .i64 f.2.2.1 ∧ OpsAt w c3 f.2.2.2
theorem FnAt.below {w w' : World} {c0 c1 c2 c3 : Value} {f : Fn} (h : FnAt w c0 c1 c2 c3 f) (hb : Below w.heap.size w w') : FnAt w' c0 c1 c2 c3 f :=
  ⟨h.1, h.2.1.below hb, h.2.2.1, h.2.2.2.below hb⟩
def FnsAt (w : World) (v : Value) (l : List Fn) : Prop :=
  ∃ (p : Option Addr) (cap : Nat), v = .slice p l.length cap ∧ l.length ≤ maxLen ∧ ∀ k f, l[k]? = some f →
    ∃ b off c0 c1 c2 c3, p = some ⟨b, off, none⟩ ∧ b < w.heap.size ∧ w.cell? ⟨b, off + k * 4, none⟩ = some c0 ∧ w.cell? ⟨b, off + k * 4 + 1, none⟩ = some c1 ∧ w.cell? ⟨b, off + k * 4 + 2, none⟩ = some c2 ∧ w.cell? ⟨b, off + k * 4 + 3, none⟩ = some c3 ∧ FnAt w c0 c1 c2 c3 f
theorem FnsAt.below {w w' : World} {v : Value} {l : List Fn} (h : FnsAt w v l) (hb : Below w.heap.size w w') : FnsAt w' v l := by
  obtain ⟨p, cap, rfl, hm, hc⟩ := h
  refine ⟨p, cap, rfl, hm, fun k f hk => ?_⟩
  obtain ⟨b, off, c0, c1, c2, c3, rfl, hlt, h0, h1, h2, h3, hf⟩ := hc k f hk
  exact ⟨b, off, c0, c1, c2, c3, rfl, Nat.lt_of_lt_of_le hlt hb.size, (hb.cell (p := ⟨b, off + k * 4, none⟩) hlt).trans h0, (hb.cell (p := ⟨b, off + k * 4 + 1, none⟩) hlt).trans h1, (hb.cell (p := ⟨b, off + k * 4 + 2, none⟩) hlt).trans h2, (hb.cell (p := ⟨b, off + k * 4 + 3, none⟩) hlt).trans h3, hf.below hb⟩
theorem xb8Z {a b : Int} (h : a = b) : (a != b) = false := by simp [h]
theorem xceZ {a b : Int} (h : ¬ a = b) : (a != b) = true := by simp [h]
theorem xbmZ (l m : List Int) (v u : Value) (w : World) (hl : IntsAt w v l) (hm : IntsAt w u m) : Calls Tryz.prog 24 #[v, u] w fun e w' => e = .returned (.bool (decide (l = m))) ∧ Below w.heap.size w w' := by
  obtain ⟨p, cap, rfl, hlm, hc⟩ := hl
  obtain ⟨q, cap', rfl, hmm, hd⟩ := hm
  unfold maxLen at hlm hmm
  by_cases hlen : l.length = m.length
  · have hlen' : ((l.length : Int) != (m.length : Int)) = false := by simp; omega
    have HLEN : Hid (l.length = m.length) := hlen
    have HC : Hid (∀ k z, l[k]? = some z → ∃ b off, p = some ⟨b, off, none⟩ ∧ b < w.heap.size ∧ w.cell? ⟨b, off + k, none⟩ = some (.int .i64 z)) := hc
    have HD : Hid (∀ k z, m[k]? = some z → ∃ b off, q = some ⟨b, off, none⟩ ∧ b < w.heap.size ∧ w.cell? ⟨b, off + k, none⟩ = some (.int .i64 z)) := hd
    clear hc hd hlen
    go_enter Tryz.func24, Tryz.ntmps24
    go_wp2
    go_loopw [5] (fun i wr => ∃ k : Nat, k ≤ l.length ∧ i = .int .i64 k ∧ l.take k = m.take k ∧ Below w.heap.size w wr) (fun i _ => l.length - (intOf i).toNat)
    case atStart => exact ⟨0, Nat.zero_le _, rfl, by simp, Below.refl _ _⟩
    case round =>
      obtain ⟨k, hk, rfl, htk, hbw⟩ := hrel
      have HT : Hid (l.take k = m.take k) := htk
      clear htk
      by_cases hlt : k < l.length
      · have hlt2 : k < m.length := by have := HLEN.out; omega
        obtain ⟨x, ho⟩ := xagZ hlt
        obtain ⟨y, ho'⟩ := xagZ hlt2
        obtain ⟨b, off, rfl, hb, h0⟩ := HC.out k _ ho
        obtain ⟨b', off', rfl, hb', h0'⟩ := HD.out k _ ho'
        have g0 := (hbw.cell (p := ⟨b, off + k, none⟩) hb).trans h0
        have g0' := (hbw.cell (p := ⟨b', off' + k, none⟩) hb').trans h0'
        have hlti : (k : Int) < (l.length : Int) := by omega
        have hlti2 : (k : Int) < (m.length : Int) := by omega
        have HO : Hid (l[k]? = some x) := ho
        have HO' : Hid (m[k]? = some y) := ho'
        clear ho ho' h0 h0'
        by_cases he : x = y
        · have hne := xb8Z he
          have HE : Hid (x = y) := he
          clear he
          go_wp2
          go_quiet (fail)
          go_wp2
          go_roundw
          case rel => exact ⟨k + 1, by omega, by go_num, by rw [xavZ l k _ HO.out, xavZ m k _ HO'.out, HT.out, HE.out], below_drewN hbw _⟩
          case measure => simp [intOf]; omega
        · have hne := xceZ he
          have HE : Hid (¬ x = y) := he
          clear he
          go_wp2
          go_quiet (fail)
          go_wp2
          go_ret
          refine ⟨?_, below_drewN hbw _⟩
          have : ¬ l = m := fun h => by
            have h1 := HO.out
            rw [h, HO'.out] at h1
            simp at h1
            exact HE.out h1.symm
          simp [this]
      · have hlt' : ¬ (k : Int) < (l.length : Int) := by omega
        go_wp2
        go_ret
        refine ⟨?_, hbw⟩
        have : l = m := by
          have h := HT.out
          rwa [List.take_of_length_le (by omega), List.take_of_length_le (by have := HLEN.out; omega)] at h
        simp [this]
  · have hlen' : ((l.length : Int) != (m.length : Int)) = true := by simp; omega
    have hne : ¬ l = m := fun h => hlen (by rw [h])
    clear hc hd
    have HN : Hid (¬ l = m) := hne
    clear hne hlen
    go_enter Tryz.func24, Tryz.ntmps24
    go_wp2
    go_ret
    exact ⟨by simp [HN.out], Below.refl _ _⟩
end Go.Proofs.YtgmkmlenhhhgkaaGreat


/- What is encoded is decoded as it was, and what is decoded is encoded as it was: of the plain functions. -/
namespace Go.Proofs.YtgmkmlenhhhgkaaGreat
open Go.RowKit
set_option linter.unusedSimpArgs false
set_option linter.unusedVariables false
theorem xbjZ (z : Int) : ((xafZ z).toNat : Int) = z % 256 := by
  have h : (xafZ z).toNat = (z % 256).toNat := by unfold xafZ; rw [UInt8.toNat_ofNat']; omega
  rw [h]; omega
theorem xb6Z (z : Int) (b : UInt8) (h : z % 256 = (b.toNat : Int)) : xafZ z = b := by
  apply UInt8.toNat_inj.1
  have := xbjZ z
  omega
theorem chk_zero {c a : Int} (h : chk c a = 0) : xblZ c = true ∧ (hasA c = false → a = 0) ∧ -2147483648 ≤ a ∧ a ≤ 2147483647 := by
  unfold chk at h
  by_cases h1 : xblZ c = false
  · simp [h1] at h
  · by_cases h2 : hasA c = false ∧ a ≠ 0
    · simp [h1, h2] at h
    · by_cases h3 : isI32 a = false
      · rw [if_neg h1, if_neg h2, if_pos h3] at h; omega
      · refine ⟨by simpa using h1, fun hh => ?_, ?_⟩
        · by_cases h0 : a = 0
          · exact h0
          · exact absurd ⟨hh, h0⟩ h2
        · simp [isI32] at h3; exact h3
theorem xfnZ {c a : Int} (h1 : xblZ c = true) (h2 : hasA c = false → a = 0) (h3 : -2147483648 ≤ a) (h4 : a ≤ 2147483647) : chk c a = 0 := by
  unfold chk
  rw [if_neg (by simp [h1]), if_neg (fun h => h.2 (h2 h.1)), if_neg (by simp [isI32, h3, h4])]
theorem code_byte {c : Int} (h : xblZ c = true) : ((xafZ c).toNat : Int) = c := by
  simp [xblZ] at h; rw [xbjZ]; omega
theorem num_four (a : Int) (h1 : -2147483648 ≤ a) (h2 : a ≤ 2147483647) : wrap32 (numOf [xafZ (a / 16777216), xafZ (a / 65536), xafZ (a / 256), xafZ a]) = a := by
  have e0 := xbjZ (a / 16777216)
  have e1 := xbjZ (a / 65536)
  have e2 := xbjZ (a / 256)
  have e3 := xbjZ a
  have e : ((numOf [xafZ (a / 16777216), xafZ (a / 65536), xafZ (a / 256), xafZ a] : Nat) : Int) = 256 * (256 * (256 * ((xafZ (a / 16777216)).toNat : Int) + ((xafZ (a / 65536)).toNat : Int)) + ((xafZ (a / 256)).toNat : Int)) + ((xafZ a).toNat : Int) := by simp [numOf]
  rw [e, e0, e1, e2, e3]
  unfold wrap32
  omega
theorem four_num (b3 b2 b1 b0 : UInt8) : [xafZ (wrap32 (numOf [b3, b2, b1, b0]) / 16777216), xafZ (wrap32 (numOf [b3, b2, b1, b0]) / 65536), xafZ (wrap32 (numOf [b3, b2, b1, b0]) / 256), xafZ (wrap32 (numOf [b3, b2, b1, b0]))] = [b3, b2, b1, b0] := by
  have e : ((numOf [b3, b2, b1, b0] : Nat) : Int) = 256 * (256 * (256 * (b3.toNat : Int) + (b2.toNat : Int)) + (b1.toNat : Int)) + (b0.toNat : Int) := by simp [numOf]
  have h3 := b3.toNat_lt
  have h2 := b2.toNat_lt
  have h1 := b1.toNat_lt
  have h0 := b0.toNat_lt
  rw [e]
  unfold wrap32
  rw [xb6Z _ b3 (by omega), xb6Z _ b2 (by omega), xb6Z _ b1 (by omega), xb6Z _ b0 (by omega)]
theorem xirZ (n : Int) : -2147483648 ≤ wrap32 n ∧ wrap32 n ≤ 2147483647 := by unfold wrap32; omega
theorem xhhZ (o : Int × Int) (r : List UInt8) (h : chk o.1 o.2 = 0) : xa1Z (xbfZ o ++ r) = some (o, (xbfZ o).length) := by
  obtain ⟨c, a⟩ := o
  obtain ⟨h1, h2, h3, h4⟩ := chk_zero h
  have hc := code_byte h1
  simp only at h1 h2 h3 h4 hc
  cases hh : hasA c
  · simp [xbfZ, hh, xa1Z, hc, h1, h2 hh]
  · have := num_four a h3 h4
    simp [xbfZ, hh, xa1Z, hc, h1, this]
theorem xhfZ (l : List UInt8) (o : Int × Int) (n : Nat) (h : xa1Z l = some (o, n)) : chk o.1 o.2 = 0 ∧ xbfZ o ++ l.drop n = l := by
  cases l with
  | nil => simp [xa1Z] at h
  | cons b r =>
    simp only [xa1Z] at h
    have hb : xafZ (b.toNat : Int) = b := xb6Z _ b (by have := b.toNat_lt; omega)
    by_cases h1 : xblZ b.toNat = false
    · simp [h1] at h
    · have h1' : xblZ b.toNat = true := by simpa using h1
      by_cases h2 : hasA b.toNat = true
      · by_cases h3 : r.length < 4
        · simp [h1, h2, h3] at h
        · simp only [h1, h2, h3, if_false, if_true, Option.some.injEq, Prod.mk.injEq] at h
          obtain ⟨rfl, rfl⟩ := h
          match r, h3 with
          | b3 :: b2 :: b1 :: b0 :: r', _ =>
            have hw := xirZ (numOf [b3, b2, b1, b0])
            have hf := four_num b3 b2 b1 b0
            simp only [List.cons.injEq, and_true] at hf
            refine ⟨xfnZ h1' (fun hh => by rw [h2] at hh; cases hh) hw.1 hw.2, ?_⟩
            simp [xbfZ, h2, hb, hf]
          | [], h3 => simp at h3
          | [_], h3 => simp at h3
          | [_, _], h3 => simp at h3
          | [_, _, _], h3 => simp at h3
      · simp only [h1, h2, if_false, Option.some.injEq, Prod.mk.injEq] at h
        obtain ⟨rfl, rfl⟩ := h
        refine ⟨xfnZ h1' (fun _ => rfl) (by omega) (by omega), ?_⟩
        simp [xbfZ, h2, hb]
theorem xf7Z (l : List (Int × Int)) : ∀ f, (xaiZ l).length ≤ f → (∀ o ∈ l, chk o.1 o.2 = 0) → items f (xaiZ l) = l.map fun o => (o, 0) := by
  induction l with
  | nil => intro f _ _; simp [xaiZ, xe1Z]
  | cons o r ih =>
    intro f hf h
    have he : xaiZ (o :: r) = xbfZ o ++ xaiZ r := by simp [xaiZ]
    have h1 := xhhZ o (xaiZ r) (h o (by simp))
    have hl : 1 ≤ (xbfZ o).length := by simp [xbfZ]
    rw [he] at hf ⊢
    rw [List.length_append] at hf
    obtain ⟨g, rfl⟩ : ∃ g, f = g + 1 := ⟨f - 1, by omega⟩
    rw [xedZ g _ _ _ h1, List.drop_left, ih g (by omega) fun x hx => h x (by simp [hx])]
    rfl
theorem map_ok (l : List (Int × Int)) : ∀ x ∈ l.map (fun o => (o, (0 : Int))), x.2 = 0 := by
  intro x hx
  obtain ⟨o, _, rfl⟩ := List.mem_map.1 hx
  rfl
theorem dec_map (l : List (Int × Int)) (h : l.length ≤ 40) : dec (l.map fun o => (o, 0)) [] = (l, 0) := by
  have := dec_ok (l.map fun o => (o, (0 : Int))) [] [] (map_ok l) (by simpa using h)
  simpa [dec, Function.comp_def] using this
theorem xhgZ (l : List (Int × Int)) (h : xbwZ l = 0) : ∀ o ∈ l, chk o.1 o.2 = 0 := by
  induction l with
  | nil => intro o ho; simp at ho
  | cons x r ih =>
    intro o ho
    rw [xbwZ] at h
    by_cases hx : chk x.1 x.2 = 0
    · rw [if_pos hx] at h
      rcases List.mem_cons.1 ho with rfl | ho
      · exact hx
      · exact ih h o ho
    · rw [if_neg hx] at h; exact absurd h hx
theorem xcbZ (l : List (Int × Int)) (h : xaoZ l = 0) : l.length ≤ 40 ∧ ∀ o ∈ l, chk o.1 o.2 = 0 := by
  unfold xaoZ at h
  by_cases h4 : 40 < l.length
  · simp [h4] at h
  · rw [if_neg h4] at h; exact ⟨by omega, xhgZ l h⟩
theorem dec_enc (l : List (Int × Int)) (f : Nat) (hf : (xaiZ l).length ≤ f) (h : xaoZ l = 0) : dec (items f (xaiZ l)) [] = (l, 0) := by
  obtain ⟨h1, h2⟩ := xcbZ l h
  rw [xf7Z l f hf h2, dec_map l h1]
theorem items_all (f : Nat) : ∀ (s : List UInt8), s.length ≤ f → ∃ l, (∀ o ∈ l, chk o.1 o.2 = 0) ∧ ((items f s = l.map (fun o => (o, 0)) ∧ xaiZ l = s) ∨ items f s = l.map (fun o => (o, 0)) ++ [((0, 0), 1)]) := by
  induction f with
  | zero =>
    intro s hs
    have : s = [] := List.length_eq_zero_iff.1 (by omega)
    exact ⟨[], by simp, .inl ⟨by simp [items], by simp [xaiZ, this]⟩⟩
  | succ f ih =>
    intro s hs
    by_cases h0 : s = []
    · subst h0; exact ⟨[], by simp, .inl ⟨by simp [xe1Z], by simp [xaiZ]⟩⟩
    · cases hf : xa1Z s with
      | none => exact ⟨[], by simp, .inr (by rw [xf8Z f s h0 hf]; simp)⟩
      | some p =>
        obtain ⟨o, n⟩ := p
        obtain ⟨hn1, hn2⟩ := xewZ s o n hf
        obtain ⟨hc, hb⟩ := xhfZ s o n hf
        obtain ⟨l, hl, hx⟩ := ih (s.drop n) (by rw [List.length_drop]; omega)
        refine ⟨o :: l, fun x hx => ?_, ?_⟩
        · rcases List.mem_cons.1 hx with rfl | hx
          · exact hc
          · exact hl x hx
        · rw [xedZ f s o n hf]
          rcases hx with ⟨h1, h2⟩ | h1
          · refine .inl ⟨by rw [h1]; rfl, ?_⟩
            rw [show xaiZ (o :: l) = xbfZ o ++ xaiZ l from by simp [xaiZ], h2, hb]
          · exact .inr (by rw [h1]; rfl)
theorem dec_many (l : List (Int × Int)) (t : List ((Int × Int) × Int)) (h : 40 < l.length) : dec (l.map (fun o => (o, 0)) ++ t) [] = ([], 2) := by
  have e : l.map (fun o => (o, (0 : Int))) ++ t = (l.take 40).map (fun o => (o, (0 : Int))) ++ ((l.drop 40).map (fun o => (o, (0 : Int))) ++ t) := by
    rw [← List.append_assoc, ← List.map_append, List.take_append_drop]
  rw [e, dec_ok _ _ _ (map_ok _) (by simp; omega)]
  cases hd : l.drop 40 with
  | nil => have := congrArg List.length hd; simp at this; omega
  | cons x r =>
    simp [dec]
    intro hh
    omega
theorem enc_dec (f : Nat) (s : List UInt8) (hf : s.length ≤ f) : ((dec (items f s) []).2 ≠ 0 ∧ (dec (items f s) []).1 = []) ∨ ((dec (items f s) []).2 = 0 ∧ xaoZ (dec (items f s) []).1 = 0 ∧ xaiZ (dec (items f s) []).1 = s) := by
  obtain ⟨l, hl, ⟨h1, h2⟩ | h1⟩ := items_all f s hf
  · rw [h1]
    by_cases h4 : l.length ≤ 40
    · rw [dec_map l h4]
      exact .inr ⟨rfl, by show xaoZ l = 0; unfold xaoZ; rw [if_neg (by omega), xevZ l hl], h2⟩
    · have := dec_many l [] (by omega)
      rw [List.append_nil] at this
      rw [this]; exact .inl ⟨by simp, rfl⟩
  · rw [h1]
    by_cases h4 : l.length ≤ 40
    · rw [dec_ok _ _ _ (map_ok l) (by simpa using h4)]
      exact .inl ⟨by simp [dec], by simp [dec]⟩
    · rw [dec_many l _ (by omega)]; exact .inl ⟨by simp, rfl⟩
end Go.Proofs.YtgmkmlenhhhgkaaGreat


/- Plain functions on programs: what Check says. -/
namespace Go.Proofs.YtgmkmlenhhhgkaaGreat
open Go.RowKit
set_option linter.unusedSimpArgs false
set_option linter.unusedVariables false
def isNum (n : Int) (many : Nat) : Bool := decide (0 ≤ n) && decide (n < (many : Int))
def xa7Z (o : Int × Int) (f : Fn) (funcs : Nat) : Bool :=
  if (o.1 == 8 || o.1 == 9) = true then isNum o.2 f.2.1.length else if (o.1 == 10 || o.1 == 11) = true then isNum o.2 f.2.2.2.length else if (o.1 == 12) = true then isNum o.2 funcs else true
def xb5Z (t : Int) : Bool := t == 1 || t == 2
def xb9Z (f : Fn) : Bool := f.2.1.all xb5Z && (decide (0 ≤ f.2.2.1) && decide (f.2.2.1 ≤ 2))
def fnErr (f : Fn) (funcs : Nat) : Int :=
  if 6 < f.2.1.length then 2 else if f.1 < 0 ∨ (f.2.1.length : Int) < f.1 then 3 else if xb9Z f = false then 6 else if f.2.2.2.length = 0 then 5 else if xaoZ f.2.2.2 ≠ 0 then xaoZ f.2.2.2 else if (f.2.2.2.all fun o => xa7Z o f funcs) = false then 3 else 0
def xb3Z (funcs : Nat) : List Fn → Int
  | [] => 0
  | f :: r => if fnErr f funcs = 0 then xb3Z funcs r else fnErr f funcs
def xfiZ : List Fn → Int
  | [] => 0
  | f :: _ => if f.1 ≠ 0 ∨ f.2.2.1 ≠ 0 then 4 else 0
def xakZ (l : List Fn) : Int :=
  if l.length = 0 then 5 else if 5 < l.length then 2 else if xb3Z l.length l ≠ 0 then xb3Z l.length l else xfiZ l
theorem fnsErr_all (n : Nat) (l : List Fn) (h : ∀ f ∈ l, fnErr f n = 0) : xb3Z n l = 0 := by
  induction l with
  | nil => rfl
  | cons o r ih => rw [xb3Z, if_pos (h o (by simp))]; exact ih fun x hx => h x (by simp [hx])
theorem fnsErr_at (n : Nat) (l : List Fn) (k : Nat) (f : Fn) (hk : l[k]? = some f) (h : ∀ x ∈ l.take k, fnErr x n = 0) (he : ¬ fnErr f n = 0) : xb3Z n l = fnErr f n := by
  induction l generalizing k with
  | nil => simp at hk
  | cons x r ih =>
    cases k with
    | zero => simp at hk; subst hk; rw [xb3Z, if_neg he]
    | succ k => rw [xb3Z, if_pos (h x (by simp))]; exact ih k (by simpa using hk) fun y hy => h y (by simp [hy])
end Go.Proofs.YtgmkmlenhhhgkaaGreat


/- isNumber, namesOne, checkFunc's closure, ContainsFunc at it; typed. -/
namespace Go.Proofs.YtgmkmlenhhhgkaaGreat
open Go.RowKit
set_option linter.unusedSimpArgs false
set_option linter.unusedVariables false
theorem xcdZ (n : Int) (m : Nat) (w : World) : Calls Tryz.prog 85 #[.int .i64 n, .int .i64 m] w fun e w' => e = .returned (.bool (isNum n m)) ∧ w' = w := by
  by_cases h1 : 0 ≤ n
  · by_cases h2 : n < (m : Int)
    · go_enter Tryz.func85, Tryz.ntmps85
      go_wp2
      go_ret
      exact ⟨by simp [isNum, h1, h2], rfl⟩
    · go_enter Tryz.func85, Tryz.ntmps85
      go_wp2
      go_ret
      exact ⟨by simp [isNum, h1, h2], rfl⟩
  · have hd : decide (0 ≤ n) = false := by simpa using h1
    go_enter Tryz.func85, Tryz.ntmps85
    go_wp2
    go_ret
    exact ⟨by simp [isNum, hd], rfl⟩
theorem xigZ (c a : Int) (f : Fn) (c0 c1 c2 c3 : Value) (n : Nat) (w : World) (h : FnAt w c0 c1 c2 c3 f) : Calls Tryz.prog 59 #[.agg #[.int .i64 c, .int .i64 a], .agg #[c0, c1, c2, c3], .int .i64 n] w fun e w' => e = .returned (.bool (xa7Z (c, a) f n)) ∧ Below w.heap.size w w' := by
  obtain ⟨rfl, ⟨p1, q1, rfl, _, _⟩, rfl, ⟨p3, q3, rfl, _, _⟩⟩ := h
  have hb : ∀ o o', Below w.heap.size w ((w.alloc o).alloc o') := fun o o' => ((Below.refl _ w).alloc (Nat.le_refl _) _).alloc (by simp) _
  cases h8 : (c == 8)
  · cases h9 : (c == 9)
    · cases h10 : (c == 10)
      · cases h11 : (c == 11)
        · cases h12 : (c == 12)
          all_goals
            go_enter Tryz.func59, Tryz.ntmps59
            go_wp2_with (go_at_call 85; refine (xcdZ _ _ _).mono ?_; rintro e w' ⟨rfl, hw⟩; have hw := hw.symm; subst hw)
            go_ret
            exact ⟨by simp [xa7Z, h8, h9, h10, h11, h12], hb _ _⟩
        · go_enter Tryz.func59, Tryz.ntmps59
          go_wp2_with (go_at_call 85; refine (xcdZ _ _ _).mono ?_; rintro e w' ⟨rfl, hw⟩; have hw := hw.symm; subst hw)
          go_ret
          exact ⟨by simp [xa7Z, h8, h9, h10, h11], hb _ _⟩
      · go_enter Tryz.func59, Tryz.ntmps59
        go_wp2_with (go_at_call 85; refine (xcdZ _ _ _).mono ?_; rintro e w' ⟨rfl, hw⟩; have hw := hw.symm; subst hw)
        go_ret
        exact ⟨by simp [xa7Z, h8, h9, h10], hb _ _⟩
    · go_enter Tryz.func59, Tryz.ntmps59
      go_wp2_with (go_at_call 85; refine (xcdZ _ _ _).mono ?_; rintro e w' ⟨rfl, hw⟩; have hw := hw.symm; subst hw)
      go_ret
      exact ⟨by simp [xa7Z, h8, h9], hb _ _⟩
  · go_enter Tryz.func59, Tryz.ntmps59
    go_wp2_with (go_at_call 85; refine (xcdZ _ _ _).mono ?_; rintro e w' ⟨rfl, hw⟩; have hw := hw.symm; subst hw)
    go_ret
    exact ⟨by simp [xa7Z, h8], hb _ _⟩
def Boxes (w : World) (bf bn : Nat) (f : Fn) (n : Nat) : Prop :=
  ∃ c0 c1 c2 c3, bf < w.heap.size ∧ bn < w.heap.size ∧ w.cell? ⟨bf, 0, none⟩ = some c0 ∧ w.cell? ⟨bf, 1, none⟩ = some c1 ∧ w.cell? ⟨bf, 2, none⟩ = some c2 ∧ w.cell? ⟨bf, 3, none⟩ = some c3 ∧ w.cell? ⟨bn, 0, none⟩ = some (.int .i64 n) ∧ FnAt w c0 c1 c2 c3 f
theorem Boxes.below {w w' : World} {bf bn : Nat} {f : Fn} {n : Nat} (h : Boxes w bf bn f n) (hb : Below w.heap.size w w') : Boxes w' bf bn f n := by
  obtain ⟨c0, c1, c2, c3, h1, h2, a0, a1, a2, a3, a4, hf⟩ := h
  exact ⟨c0, c1, c2, c3, Nat.lt_of_lt_of_le h1 hb.size, Nat.lt_of_lt_of_le h2 hb.size, (hb.cell (p := ⟨bf, 0, none⟩) h1).trans a0, (hb.cell (p := ⟨bf, 1, none⟩) h1).trans a1, (hb.cell (p := ⟨bf, 2, none⟩) h1).trans a2, (hb.cell (p := ⟨bf, 3, none⟩) h1).trans a3, (hb.cell (p := ⟨bn, 0, none⟩) h2).trans a4, hf.below hb⟩
theorem xerZ (c a : Int) (f : Fn) (n bf bn : Nat) (w : World) (h : Boxes w bf bn f n) : Calls Tryz.prog 58 #[.agg #[.int .i64 c, .int .i64 a], .pointer (some ⟨bf, 0, none⟩), .pointer (some ⟨bn, 0, none⟩)] w fun e w' => e = .returned (.bool (!xa7Z (c, a) f n)) ∧ Below w.heap.size w w' := by
  have hw : Below w.heap.size w (w.alloc (.cells #[.int .i64 c, .int .i64 a] 38)) := (Below.refl _ w).alloc (Nat.le_refl _) _
  obtain ⟨c0, c1, c2, c3, h1, h2, a0, a1, a2, a3, a4, hf⟩ := h.below hw
  have hf' := hf
  obtain ⟨rfl, ⟨p1, q1, rfl, _, _⟩, rfl, ⟨p3, q3, rfl, _, _⟩⟩ := hf'
  go_enter Tryz.func58, Tryz.ntmps58
  go_wp2_with (go_at_call 59; refine (xigZ c a f _ _ _ _ n _ hf).mono ?_; rintro e w2 ⟨rfl, hb2⟩)
  go_ret
  exact ⟨rfl, hw.trans (hb2.mono (by simp))⟩
end Go.Proofs.YtgmkmlenhhhgkaaGreat


/- ContainsFunc at checkFunc's closure and at typed's; typed, checkFunc. -/
namespace Go.Proofs.YtgmkmlenhhhgkaaGreat
open Go.RowKit
set_option linter.unusedSimpArgs false
set_option linter.unusedVariables false
theorem xcyZ {α : Type} {p : α → Bool} {l : List α} {k : Nat} {o : α} (h : ∀ x ∈ l.take k, p x = true) (ho : l[k]? = some o) (hp : p o = true) : ∀ x ∈ l.take (k + 1), p x = true := by
  rw [xavZ l k _ ho]; intro x hx; rcases List.mem_append.1 hx with hx | hx
  · exact h x hx
  · simp at hx; subst hx; exact hp
theorem xdnZ {α : Type} {p : α → Bool} {l : List α} (h : ∀ x ∈ l, p x = true) : l.all p = true := List.all_eq_true.2 h
theorem xc4Z {α : Type} {p : α → Bool} {l : List α} {k : Nat} {o : α} (ho : l[k]? = some o) (hp : p o = false) : l.all p = false := by
  cases h : l.all p
  · rfl
  · have := List.all_eq_true.1 h o (List.mem_of_getElem? ho); rw [hp] at this; cases this
theorem xgsZ (l : List (Int × Int)) (v : Value) (f : Fn) (n bf bn : Nat) (w : World) (h : OpsAt w v l) (hB : Boxes w bf bn f n) : Calls Tryz.prog 80 #[v, .func (.func 58) #[] #[.pointer (some ⟨bf, 0, none⟩), .pointer (some ⟨bn, 0, none⟩)]] w fun e w' => ∃ r, e = .returned (.int .i64 r) ∧ decide (0 ≤ r) = (!l.all fun o => xa7Z o f n) ∧ Below w.heap.size w w' := by
  obtain ⟨p, cap, rfl, hm, hc⟩ := h
  unfold maxLen at hm
  go_enter Tryz.func80, Tryz.ntmps80
  go_wp2
  go_loopw [5, 8] (fun _ i wr => ∃ k : Nat, k ≤ l.length ∧ i = .int .i64 k ∧ (∀ o ∈ l.take k, xa7Z o f n = true) ∧ Below w.heap.size w wr) (fun _ i _ => l.length - (intOf i).toNat)
  case atStart => exact ⟨0, Nat.zero_le _, rfl, by simp, Below.refl _ _⟩
  case round =>
    obtain ⟨k, hk, rfl, hok, hbw⟩ := hrel
    have HK : Hid (∀ o ∈ l.take k, xa7Z o f n = true) := hok
    clear hok
    have HC : Hid (∀ k o, l[k]? = some o → ∃ b off, p = some ⟨b, off, none⟩ ∧ b < w.heap.size ∧ w.cell? ⟨b, off + k * 2, none⟩ = some (.int .i64 o.1) ∧ w.cell? ⟨b, off + k * 2 + 1, none⟩ = some (.int .i64 o.2)) := hc
    clear hc
    by_cases hlt : k < l.length
    · obtain ⟨⟨c, a⟩, ho⟩ := xagZ hlt
      obtain ⟨b, off, rfl, hb, h0, h1⟩ := HC.out k _ ho
      have g0 := (hbw.cell (p := ⟨b, off + k * 2, none⟩) hb).trans h0
      have g1 := (hbw.cell (p := ⟨b, off + k * 2 + 1, none⟩) hb).trans h1
      have hBr := hB.below hbw
      have HO : Hid (l[k]? = some (c, a)) := ho
      clear ho h0 h1
      cases hnb : xa7Z (c, a) f n
      · go_wp2_with (go_at_call 58; refine (xerZ c a f n bf bn _ hBr).mono ?_; rintro e w2 ⟨rfl, hb2⟩)
        go_ret
        exact ⟨k, rfl, by rw [xc4Z HO.out hnb]; simp, hbw.trans (hb2.mono hbw.size)⟩
      · go_wp2_with (go_at_call 58; refine (xerZ c a f n bf bn _ hBr).mono ?_; rintro e w2 ⟨rfl, hb2⟩)
        go_roundw
        case rel => exact ⟨k + 1, by omega, by go_num, xcyZ HK.out HO.out hnb, hbw.trans (hb2.mono hbw.size)⟩
        case measure => simp [intOf]; omega
    · have hlt' : ¬ (k : Int) < (l.length : Int) := by omega
      go_wp2
      go_ret
      refine ⟨-1, rfl, ?_, hbw⟩
      have := HK.out
      rw [List.take_of_length_le (by omega)] at this
      rw [xdnZ this]; decide
theorem xfkZ (l : List (Int × Int)) (v : Value) (f : Fn) (n bf bn : Nat) (w : World) (h : OpsAt w v l) (hB : Boxes w bf bn f n) : Calls Tryz.prog 57 #[v, .func (.func 58) #[] #[.pointer (some ⟨bf, 0, none⟩), .pointer (some ⟨bn, 0, none⟩)]] w fun e w' => e = .returned (.bool (!l.all fun o => xa7Z o f n)) ∧ Below w.heap.size w w' := by
  go_enter Tryz.func57, Tryz.ntmps57
  go_wp2_with fail
  refine (xgsZ l v f n bf bn _ h hB).mono ?_
  rintro e w2 ⟨r, rfl, hr, hb2⟩
  have HR : Hid (decide (0 ≤ r) = (!l.all fun o => xa7Z o f n)) := hr
  clear hr
  go_wp2
  go_ret
  exact ⟨by rw [← HR.out]; rfl, hb2⟩
theorem xglZ (t : Int) (w : World) : Calls Tryz.prog 79 #[.int .i64 t] w fun e w' => e = .returned (.bool (!xb5Z t)) ∧ w' = w := by
  by_cases h1 : t = 1
  · have h1' : (t != 1) = false := by simp [h1]
    go_enter Tryz.func79, Tryz.ntmps79
    go_wp2
    go_ret
    exact ⟨by simp [xb5Z, h1], rfl⟩
  · have h1' : (t != 1) = true := by simp [h1]
    go_enter Tryz.func79, Tryz.ntmps79
    go_wp2
    go_ret
    have h2 : (t == 1) = false := by simp [h1]
    exact ⟨by simp only [xb5Z, h2, Bool.false_or]; rfl, rfl⟩
theorem xgtZ (l : List Int) (v : Value) (w : World) (h : IntsAt w v l) : Calls Tryz.prog 68 #[v, .func (.func 79) #[] #[]] w fun e w' => ∃ r, e = .returned (.int .i64 r) ∧ decide (0 ≤ r) = (!l.all xb5Z) ∧ Below w.heap.size w w' := by
  obtain ⟨p, cap, rfl, hm, hc⟩ := h
  unfold maxLen at hm
  go_enter Tryz.func68, Tryz.ntmps68
  go_wp2
  go_loopw [5, 8] (fun _ i wr => ∃ k : Nat, k ≤ l.length ∧ i = .int .i64 k ∧ (∀ o ∈ l.take k, xb5Z o = true) ∧ Below w.heap.size w wr) (fun _ i _ => l.length - (intOf i).toNat)
  case atStart => exact ⟨0, Nat.zero_le _, rfl, by simp, Below.refl _ _⟩
  case round =>
    obtain ⟨k, hk, rfl, hok, hbw⟩ := hrel
    have HK : Hid (∀ o ∈ l.take k, xb5Z o = true) := hok
    clear hok
    have HC : Hid (∀ k z, l[k]? = some z → ∃ b off, p = some ⟨b, off, none⟩ ∧ b < w.heap.size ∧ w.cell? ⟨b, off + k, none⟩ = some (.int .i64 z)) := hc
    clear hc
    by_cases hlt : k < l.length
    · obtain ⟨z, ho⟩ := xagZ hlt
      obtain ⟨b, off, rfl, hb, h0⟩ := HC.out k _ ho
      have g0 := (hbw.cell (p := ⟨b, off + k, none⟩) hb).trans h0
      have HO : Hid (l[k]? = some z) := ho
      clear ho h0
      cases hnb : xb5Z z
      · go_wp2_with (go_at_call 79; refine (xglZ z _).mono ?_; rintro e w2 ⟨rfl, hw⟩; have hw := hw.symm; subst hw)
        go_ret
        exact ⟨k, rfl, by rw [xc4Z HO.out hnb]; simp, hbw⟩
      · go_wp2_with (go_at_call 79; refine (xglZ z _).mono ?_; rintro e w2 ⟨rfl, hw⟩; have hw := hw.symm; subst hw)
        go_roundw
        case rel => exact ⟨k + 1, by omega, by go_num, xcyZ HK.out HO.out hnb, hbw⟩
        case measure => simp [intOf]; omega
    · have hlt' : ¬ (k : Int) < (l.length : Int) := by omega
      go_wp2
      go_ret
      refine ⟨-1, rfl, ?_, hbw⟩
      have := HK.out
      rw [List.take_of_length_le (by omega)] at this
      rw [xdnZ this]; decide
theorem xcnZ (l : List Int) (v : Value) (w : World) (h : IntsAt w v l) : Calls Tryz.prog 42 #[v, .func (.func 79) #[] #[]] w fun e w' => e = .returned (.bool (!l.all xb5Z)) ∧ Below w.heap.size w w' := by
  go_enter Tryz.func42, Tryz.ntmps42
  go_wp2_with fail
  refine (xgtZ l v _ h).mono ?_
  rintro e w2 ⟨r, rfl, hr, hb2⟩
  have HR : Hid (decide (0 ≤ r) = (!l.all xb5Z)) := hr
  clear hr
  go_wp2
  go_ret
  exact ⟨by rw [← HR.out]; rfl, hb2⟩
theorem xdwZ (f : Fn) (c0 c1 c2 c3 : Value) (w : World) (h : FnAt w c0 c1 c2 c3 f) : Calls Tryz.prog 55 #[.agg #[c0, c1, c2, c3]] w fun e w' => e = .returned (.bool (xb9Z f)) ∧ Below w.heap.size w w' := by
  obtain ⟨P, L, r, C⟩ := f
  obtain ⟨rfl, hI, rfl, hO⟩ := h
  simp only at hI hO
  have hI' := hI
  obtain ⟨p1, q1, rfl, _, _⟩ := hI'
  obtain ⟨p3, q3, rfl, _, _⟩ := hO
  obtain ⟨W1, hW1⟩ : ∃ W1, w.alloc (.cells #[.int .i64 P, .slice p1 L.length q1, .int .i64 r, .slice p3 C.length q3] 28) = W1 := ⟨_, rfl⟩
  have hw : Below w.heap.size w W1 := by rw [← hW1]; exact (Below.refl _ w).alloc (Nat.le_refl _) _
  have hh : W1.heap[w.heap.size]? = some (.cells #[.int .i64 P, .slice p1 L.length q1, .int .i64 r, .slice p3 C.length q3] 28 (0, 0)) := by rw [← hW1]; exact World.alloc_heap_new w _
  have hsz : w.heap.size < W1.heap.size := xabZ hh
  subst hW1
  cases ha : L.all xb5Z
  · go_enter Tryz.func55, Tryz.ntmps55
    go_wp2_with fail
    refine (xcnZ L _ _ (hI.below hw)).mono ?_
    rw [ha]
    rintro e w2 ⟨rfl, hb2⟩
    go_wp2
    go_ret
    exact ⟨by simp [xb9Z, ha], hw.trans (hb2.mono hw.size)⟩
  · by_cases h0 : 0 ≤ r
    · by_cases h2 : r ≤ 2
      all_goals
        go_enter Tryz.func55, Tryz.ntmps55
        go_wp2_with fail
        refine (xcnZ L _ _ (hI.below hw)).mono ?_
        rw [ha]
        rintro e w2 ⟨rfl, hb2⟩
        have g2 : w2.cell? ⟨w.heap.size, 2, none⟩ = some (.int .i64 r) := (hb2.cell (p := ⟨w.heap.size, 2, none⟩) hsz).trans (by rw [xaaZ hh]; rfl)
        go_wp2
        go_ret
        exact ⟨by simp [xb9Z, ha, h0, h2], hw.trans (hb2.mono hw.size)⟩
    · have hd : decide (0 ≤ r) = false := by simpa using h0
      go_enter Tryz.func55, Tryz.ntmps55
      go_wp2_with fail
      refine (xcnZ L _ _ (hI.below hw)).mono ?_
      rw [ha]
      rintro e w2 ⟨rfl, hb2⟩
      have g2 : w2.cell? ⟨w.heap.size, 2, none⟩ = some (.int .i64 r) := (hb2.cell (p := ⟨w.heap.size, 2, none⟩) hsz).trans (by rw [xaaZ hh]; rfl)
      go_wp2
      go_ret
      exact ⟨by simp [xb9Z, ha]; omega, hw.trans (hb2.mono hw.size)⟩
end Go.Proofs.YtgmkmlenhhhgkaaGreat


/- append of code in memory onto a row of the call's own; Encode once more, its text under a name. -/
namespace Go.Proofs.YtgmkmlenhhhgkaaGreat
open Go.RowKit
set_option linter.unusedSimpArgs false
set_option linter.unusedVariables false
def NilOk (v : Value) : Prop := ∀ n c, v = .slice none n c → c = 0
theorem xc3Z (b off j : Nat) : (⟨b, off, none⟩ : Addr).add j = ⟨b, off + j, none⟩ := by
  unfold Addr.add; split <;> simp_all
theorem ops_cells {w : World} {p : Option Addr} {n cap : Nat} {l : List (Int × Int)} (h : OpsAt w (.slice p n cap) l) (ad : Addr) (hp : p = some ad) : ∀ (j : Nat) (u : Value), (opCells l)[j]? = some u → w.cell? (ad.add j) = some u := by
  obtain ⟨q, c, he, _, hc⟩ := h
  cases he
  intro j u hj
  have hlt := xbiZ hj
  rw [xd6Z] at hlt
  obtain ⟨o, ho⟩ : ∃ o, l[j / 2]? = some o := ⟨l[j / 2]'(by omega), List.getElem?_eq_some_iff.2 ⟨by omega, rfl⟩⟩
  obtain ⟨b, off, hp2, _, h0, h1⟩ := hc _ o ho
  rw [hp] at hp2
  cases hp2
  have hx := xcwZ l _ o ho
  rcases Nat.mod_two_eq_zero_or_one j with hm | hm
  · have e : j / 2 * 2 = j := by omega
    rw [e] at h0 hx
    rw [hx.1] at hj
    cases hj
    rw [xc3Z]; exact h0
  · have e : j / 2 * 2 + 1 = j := by omega
    have e' : off + j / 2 * 2 + 1 = off + j := by omega
    rw [e] at hx
    rw [e'] at h1
    rw [hx.2] at hj
    cases hj
    rw [xc3Z]; exact h1
theorem xjdZ (l : List (Int × Int)) : ∀ u ∈ opCells l, u.oneCell' = true := by
  intro u hu
  obtain ⟨o, _, ho⟩ := List.mem_flatMap.1 hu
  simp at ho
  rcases ho with rfl | rfl <;> rfl
theorem xc7Z (l : List (Int × Int)) (v : Value) (w : World) (h : OpsAt w v l) : Calls Tryz.prog 56 #[v] w fun e w' => ∃ T : ByteArray, e = .returned (.tuple #[.string T, .int .i64 (xaoZ l)]) ∧ T.data.toList = xccZ l ∧ Below w.heap.size w w' :=
  (encode_any l v w h).mono fun e w' ⟨he, hb⟩ => ⟨_, he, rfl, hb⟩
end Go.Proofs.YtgmkmlenhhhgkaaGreat


