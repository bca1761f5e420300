/- My texts Vk Pc Jq Jr Pw Ea Mb Mt Mu: what of them is needed, joined. -/
import Derived.Deep.RegionHeld3
import Derived.Test.YtcadpoknolefpaaGreatF1
import Derived.Test.YtcadpoknolefpaaGreatF4
import Derived.Test.YtcadpoknolefpaaGreatF6
import Derived.Test.YtcadpoknolefpaaGreatF10
/- square, progBegun. -/
namespace Go.Proofs.YtcadpoknolefpaaGreat
open Go.RowKit
set_option linter.unusedSimpArgs false
set_option linter.unusedVariables false
def squareFns : List Fn := [(0, [], 0, [(21, 0), (12, 1), (20, 0), (10, 0)]), (1, [1], 1, [(8, 0), (3, 0), (7, 0), (13, 0)])]
theorem intsAt_nil (W : World) : IntsAt W (.slice none 0 0) [] := ⟨none, 0, rfl, Nat.zero_le _, fun k f h => by simp at h⟩
theorem square_at {w W1 W2 W3 W4 W5 : World} {o1 : Obj} (hW1 : w.alloc o1 = W1) (hW2 : W1.alloc (.cells #[.int .i64 21, .int .i64 0, .int .i64 12, .int .i64 1, .int .i64 20, .int .i64 0, .int .i64 10, .int .i64 0] 43) = W2)
    (hW3 : W2.alloc (.cells #[.int .i64 1] 3) = W3) (hW4 : W3.alloc (.cells #[.int .i64 8, .int .i64 0, .int .i64 3, .int .i64 0, .int .i64 7, .int .i64 0, .int .i64 13, .int .i64 0] 43) = W4)
    (hW5 : W4.alloc (.cells #[.int .i64 0, .slice none 0 0, .int .i64 0, .slice (some ⟨w.heap.size + 1, 0, none⟩) 4 4, .int .i64 1, .slice (some ⟨w.heap.size + 1 + 1, 0, none⟩) 1 1, .int .i64 1, .slice (some ⟨w.heap.size + 1 + 1 + 1, 0, none⟩) 4 4] 78) = W5) :
    FnsAt W5 (.slice (some ⟨w.heap.size + 1 + 1 + 1 + 1, 0, none⟩) 2 2) squareFns ∧ Below w.heap.size w W5 ∧ W5.heap[w.heap.size]? = some o1 := by
  have s1 : W1.heap.size = w.heap.size + 1 := by rw [← hW1]; simp
  have s2 : W2.heap.size = w.heap.size + 1 + 1 := by rw [← hW2]; simp; exact s1
  have s3 : W3.heap.size = w.heap.size + 1 + 1 + 1 := by rw [← hW3]; simp; exact s2
  have s4 : W4.heap.size = w.heap.size + 1 + 1 + 1 + 1 := by rw [← hW4]; simp; exact s3
  have h1 := heap_new w o1
  rw [hW1] at h1
  have h2 := heap_new W1 (.cells #[.int .i64 21, .int .i64 0, .int .i64 12, .int .i64 1, .int .i64 20, .int .i64 0, .int .i64 10, .int .i64 0] 43)
  rw [hW2, s1] at h2
  have h3 := heap_new W2 (.cells #[.int .i64 1] 3)
  rw [hW3, s2] at h3
  have h4 := heap_new W3 (.cells #[.int .i64 8, .int .i64 0, .int .i64 3, .int .i64 0, .int .i64 7, .int .i64 0, .int .i64 13, .int .i64 0] 43)
  rw [hW4, s3] at h4
  have h5 := heap_new W4 (.cells #[.int .i64 0, .slice none 0 0, .int .i64 0, .slice (some ⟨w.heap.size + 1, 0, none⟩) 4 4, .int .i64 1, .slice (some ⟨w.heap.size + 1 + 1, 0, none⟩) 1 1, .int .i64 1, .slice (some ⟨w.heap.size + 1 + 1 + 1, 0, none⟩) 4 4] 78)
  rw [hW5, s4] at h5
  have k2 : ∀ {k : Nat} {o : Obj}, W1.heap[k]? = some o → W2.heap[k]? = some o := fun h => by rw [← hW2]; exact heap_old h _
  have k3 : ∀ {k : Nat} {o : Obj}, W2.heap[k]? = some o → W3.heap[k]? = some o := fun h => by rw [← hW3]; exact heap_old h _
  have k4 : ∀ {k : Nat} {o : Obj}, W3.heap[k]? = some o → W4.heap[k]? = some o := fun h => by rw [← hW4]; exact heap_old h _
  have k5 : ∀ {k : Nat} {o : Obj}, W4.heap[k]? = some o → W5.heap[k]? = some o := fun h => by rw [← hW5]; exact heap_old h _
  have b1 : Below w.heap.size w W1 := by rw [← hW1]; exact (Below.refl _ w).alloc (Nat.le_refl _) _
  have b2 : Below w.heap.size w W2 := by rw [← hW2]; exact b1.alloc (by omega) _
  have b3 : Below w.heap.size w W3 := by rw [← hW3]; exact b2.alloc (by omega) _
  have b4 : Below w.heap.size w W4 := by rw [← hW4]; exact b3.alloc (by omega) _
  have b5 : Below w.heap.size w W5 := by rw [← hW5]; exact b4.alloc (by omega) _
  refine ⟨⟨_, 2, rfl, by unfold maxLen; decide, fun k f hk => ?_⟩, b5, k5 (k4 (k3 (k2 h1)))⟩
  have o1 : OpsAt W5 (.slice (some ⟨w.heap.size + 1, 0, none⟩) 4 4) [(21, 0), (12, 1), (20, 0), (10, 0)] := opsAt_new (l := [(21, 0), (12, 1), (20, 0), (10, 0)]) (m := []) (fz := (0, 0)) 4 4 (k5 (k4 (k3 h2))) rfl (by unfold maxLen; decide)
  have o2 : OpsAt W5 (.slice (some ⟨w.heap.size + 1 + 1 + 1, 0, none⟩) 4 4) [(8, 0), (3, 0), (7, 0), (13, 0)] := opsAt_new (l := [(8, 0), (3, 0), (7, 0), (13, 0)]) (m := []) (fz := (0, 0)) 4 4 (k5 h4) rfl (by unfold maxLen; decide)
  have i1 : IntsAt W5 (.slice (some ⟨w.heap.size + 1 + 1, 0, none⟩) 1 1) [1] := ⟨_, 1, rfl, by unfold maxLen; decide, fun k z hk => by
    match k, hk with
    | 0, hk => simp at hk; subst hk; exact ⟨_, 0, rfl, heap_lt (k5 (k4 h3)), cell_at' (k5 (k4 h3)) 0⟩
    | k + 1, hk => simp at hk⟩
  match k, hk with
  | 0, hk =>
    simp [squareFns] at hk; subst hk
    exact ⟨_, 0, _, _, _, _, rfl, heap_lt h5, cell_at' h5 0, cell_at' h5 1, cell_at' h5 2, cell_at' h5 3, rfl, intsAt_nil _, rfl, o1⟩
  | 1, hk =>
    simp [squareFns] at hk; subst hk
    exact ⟨_, 0, _, _, _, _, rfl, heap_lt h5, cell_at' h5 4, cell_at' h5 5, cell_at' h5 6, cell_at' h5 7, rfl, i1, rfl, o2⟩
  | k + 2, hk => simp [squareFns] at hk
theorem sq1 : progErr squareFns = 0 := by decide +kernel
end Go.Proofs.YtcadpoknolefpaaGreat


/- The programs of verifyBegun, plainly. -/
namespace Go.Proofs.YtcadpoknolefpaaGreat
open Go.RowKit
set_option linter.unusedSimpArgs false
set_option linter.unusedVariables false
def fitsB (p : List Fn) (f : Fn) (E : Ents) : Bool :=
  decide (ent E 0 = some []) && decide (E.length ≤ f.2.2.2.length) && (List.range f.2.2.2.length).all fun pc => match ent E pc, f.2.2.2[pc]? with
    | some s, some o => (match tryOp p f o s with
      | some out => (List.range (f.2.2.2.length + 1)).all fun to => !goesOn f.2.2.2 pc to || (decide (to < f.2.2.2.length) && (match ent E to with | some s' => leS out s' | none => false))
      | none => false)
    | some _, none => false
    | none, _ => true
theorem fitsB_sound {p : List Fn} {f : Fn} {E : Ents} (hf : flowErr f.2.2.2 = 0) (h : fitsB p f E = true) : FitsBy p f (ent E) := by
  simp only [fitsB, Bool.and_eq_true, decide_eq_true_eq] at h
  obtain ⟨⟨h0, hl⟩, h1⟩ := h
  refine ⟨h0, fun pc s hs => ?_⟩
  have hlt : pc < f.2.2.2.length := Nat.lt_of_lt_of_le (lt_of_at (ent_some hs)) hl
  obtain ⟨o, ho⟩ := at_of_lt hlt
  have h2 := List.all_eq_true.1 h1 pc (by simpa using hlt)
  rw [hs, ho] at h2
  simp only at h2
  cases ht : tryOp p f o s with
  | none => rw [ht] at h2; cases h2
  | some out =>
    rw [ht] at h2
    simp only at h2
    refine ⟨o, out, ho, ht, fun to hto => ?_⟩
    have hle := goesOn_le (flowErr_zero hf).2.2 hto
    have h3 := List.all_eq_true.1 h2 to (by simp; omega)
    rw [hto] at h3
    simp only [Bool.not_true, Bool.false_or, Bool.and_eq_true, decide_eq_true_eq] at h3
    refine ⟨h3.1, ?_⟩
    cases he : ent E to with
    | none => rw [he] at h3; cases h3.2
    | some s' => rw [he] at h3; exact ⟨s', rfl, h3.2⟩
def counterFns : List Fn := [(0, [], 0, loopOps)]
def counterE : Ents := [some [], some [1], some [1, 1], some [1], some [1, 1], some [1], some [1, 1], some [1], some [1], some []]
theorem ct1 : progErr counterFns = 0 ∧ flowErr loopOps = 0 ∧ fitsB counterFns (0, [], 0, loopOps) counterE = true := by decide +kernel
theorem sqf : ∀ f ∈ squareFns, flowErr f.2.2.2 = 0 ∧ (fitsB squareFns f [some [], some [1], some [1], some []] = true ∨ fitsB squareFns f [some [], some [1], some [1, 1], some [1]] = true) := by decide +kernel
theorem square_prog {er : Int} (h : ProgIs squareFns er) : er = 0 := by
  rcases h with ⟨a, _⟩ | ⟨_, h, _⟩ | ⟨_, _, f, hf, hl⟩
  · exact absurd sq1 a
  · exact h
  · obtain ⟨h1, h2 | h2⟩ := sqf f hf
    · exact absurd (fitsB_sound h1 h2) (hl _)
    · exact absurd (fitsB_sound h1 h2) (hl _)
end Go.Proofs.YtcadpoknolefpaaGreat


/- counter, square, verifyBegun. -/
namespace Go.Proofs.YtcadpoknolefpaaGreat
open Go.RowKit
set_option linter.unusedSimpArgs false
set_option linter.unusedVariables false
theorem cap_of {W : World} {b n cap : Nat} {cs : Array Value} {t : TypeId} {fz : Nat × Nat} (h : W.heap[b]? = some (.cells cs t fz)) (hc : ∀ (k : Nat) (p : Option Addr) (n' c' : Nat), cs[k * 4 + 1]? = some (.slice p n' c') → n' ≤ c') : CapAt W (.slice (some ⟨b, 0, none⟩) n cap) := by
  intro b' off n1 cap1 k p' n' c' hv hk hcell
  cases hv
  rw [cell_at' h, Nat.zero_add] at hcell
  exact hc k p' n' c' hcell
theorem fns_one {W : World} {b : Nat} {cv : Value} {C : List (Int × Int)} {fz : Nat × Nat} (h : W.heap[b]? = some (.cells #[.int .i64 0, .slice none 0 0, .int .i64 0, cv] 78 fz)) (hC : OpsAt W cv C) : FnsAt W (.slice (some ⟨b, 0, none⟩) 1 1) [(0, [], 0, C)] ∧ CapAt W (.slice (some ⟨b, 0, none⟩) 1 1) := by
  refine ⟨⟨_, 1, rfl, by unfold maxLen; simp, fun k f hk => ?_⟩, cap_of h ?_⟩
  · match k, hk with
    | 0, hk =>
      simp at hk
      subst hk
      exact ⟨_, 0, _, _, _, _, rfl, heap_lt h, cell_at' h 0, cell_at' h 1, cell_at' h 2, cell_at' h 3, rfl, intsAt_nil _, rfl, hC⟩
    | k + 1, hk => simp at hk
  · intro k p n' c' hk
    match k, hk with
    | 0, hk => simp at hk; omega
    | k + 1, hk =>
      have := lt_of_at (l := #[Value.int .i64 0, .slice none 0 0, .int .i64 0, cv].toList) (k := (k + 1) * 4 + 1) (o := Value.slice p n' c') (by simpa using hk)
      simp at this
      omega
set_option maxRecDepth 100000 in
set_option maxHeartbeats 2000000 in
theorem counter_any (w : World) : Calls Tryz.prog 59 #[] w fun e w' => ∃ v, e = .returned (.agg #[v]) ∧ FnsAt w' v counterFns ∧ CapAt w' v ∧ Below w.heap.size w w' := by
  obtain ⟨W0, hW0⟩ : ∃ W0, w.alloc (.cells #[.slice none 0 0] 24) = W0 := ⟨_, rfl⟩
  have hb0 : Below w.heap.size w W0 := by rw [← hW0]; exact (Below.refl _ w).alloc (Nat.le_refl _) _
  have x0 : W0.heap[w.heap.size]? = some (.cells #[.slice none 0 0] 24 (0, 0)) := by rw [← hW0]; exact World.alloc_heap_new w _
  have X0 := hideP x0
  clear x0
  go_enter Tryz.func59, Tryz.ntmps59
  go_wp2_with fail
  refine (loop_ops _).mono ?_
  rintro e w1 ⟨v1, rfl, ho, hb1⟩
  obtain ⟨p1, c1, hv1, _, _⟩ := id ho
  subst hv1
  have x1 := (hb1.block _ (heap_lt X0.out)).trans X0.out
  obtain ⟨W2, hW2⟩ : ∃ W2, w1.alloc (.cells #[.int .i64 0, .slice none 0 0, .int .i64 0, .slice p1 loopOps.length c1] 78) = W2 := ⟨_, rfl⟩
  have hb2 : Below w1.heap.size w1 W2 := by rw [← hW2]; exact (Below.refl _ w1).alloc (Nat.le_refl _) _
  have y2 : W2.heap[w1.heap.size]? = some (.cells #[.int .i64 0, .slice none 0 0, .int .i64 0, .slice p1 loopOps.length c1] 78 (0, 0)) := by rw [← hW2]; exact World.alloc_heap_new w1 _
  have x2 := (hb2.block _ (heap_lt x1)).trans x1
  have d2 := cell_at' x2 0
  have z2 := Lib.frozen_of_heap x2 0
  simp at d2
  have HO := hideP (ho.below hb2)
  have X2 := hideP x2
  have Y2 := hideP y2
  have hne : w1.heap.size ≠ w.heap.size := by have := heap_lt x1; omega
  have hgs := set_grown W2 ⟨w.heap.size, 0, none⟩ (.slice (some ⟨w1.heap.size, 0, none⟩) 1 1)
  have x3 := heap_setCell_same W2 w.heap.size 0 _ _ (.slice (some ⟨w1.heap.size, 0, none⟩) 1 1) x2
  have d3 := cell_at' x3 0
  simp at d3
  clear x1 x2 y2 ho x3
  go_wp2
  have hops : OpsAt (W2.setCell ⟨w.heap.size, 0, none⟩ (.slice (some ⟨w1.heap.size, 0, none⟩) 1 1)) (.slice p1 loopOps.length c1) loopOps := by
    obtain ⟨p, c, he, hm, hc⟩ := HO.out
    refine ⟨p, c, he, hm, fun k o hk => ?_⟩
    obtain ⟨b, off, hp, hlt, g0, g1⟩ := hc k o hk
    have hnb : b ≠ w.heap.size := fun e => by
      subst e
      rw [cell_at' X2.out] at g0
      match h : off + k * 2, g0 with
      | 0, g0 => simp at g0
      | j + 1, g0 => simp at g0
    exact ⟨b, off, hp, Nat.lt_of_lt_of_le hlt hgs.size, hgs.cell g0 (by simpa using hnb), hgs.cell g1 (by simpa using hnb)⟩
  have hh := (hgs.block w1.heap.size (heap_lt Y2.out) (by simpa using hne)).trans Y2.out
  obtain ⟨hF, hCp⟩ := fns_one hh hops
  have hbw : Below w.heap.size w W2 := hb0.trans ((hb1.trans (hb2.mono hb1.size)).mono hb0.size)
  refine bodyPost_ret (v := .agg #[.slice (some ⟨w1.heap.size, 0, none⟩) 1 1]) (by simp [results, Tryz.results59, go_sem, d3]) rfl ⟨_, rfl, hF, hCp, hbw.setCell (p := ⟨w.heap.size, 0, none⟩) (Nat.le_refl _) _⟩
set_option maxRecDepth 100000 in
set_option maxHeartbeats 4000000 in
theorem squareC_any (w : World) : Calls Tryz.prog 60 #[] w fun e w' => ∃ v, e = .returned (.agg #[v]) ∧ FnsAt w' v squareFns ∧ CapAt w' v ∧ Below w.heap.size w w' := by
  go_enter Tryz.func60, Tryz.ntmps60
  go_wp2
  obtain ⟨hf, hb, hh⟩ := square_at (w := w) (o1 := .cells #[.slice (some ⟨w.heap.size + 1 + 1 + 1 + 1, 0, none⟩) 2 2] 24) rfl rfl rfl rfl rfl
  have t0 := cell_at' hh 0
  simp only [List.getElem?_toArray, List.getElem?_cons_zero] at t0
  refine bodyPost_ret (v := .agg #[.slice (some ⟨w.heap.size + 1 + 1 + 1 + 1, 0, none⟩) 2 2]) (by simp [results, Tryz.results60, go_sem, t0]) rfl ⟨_, rfl, hf, ?_, hb⟩
  refine cap_of (cs := #[.int .i64 0, .slice none 0 0, .int .i64 0, .slice (some ⟨w.heap.size + 1, 0, none⟩) 4 4, .int .i64 1, .slice (some ⟨w.heap.size + 1 + 1, 0, none⟩) 1 1, .int .i64 1, .slice (some ⟨w.heap.size + 1 + 1 + 1, 0, none⟩) 4 4]) (t := 78) (fz := (0, 0)) ?_ ?_
  · have := World.alloc_heap_new ((((w.alloc (.cells #[.slice (some ⟨w.heap.size + 1 + 1 + 1 + 1, 0, none⟩) 2 2] 24)).alloc (.cells #[.int .i64 21, .int .i64 0, .int .i64 12, .int .i64 1, .int .i64 20, .int .i64 0, .int .i64 10, .int .i64 0] 43)).alloc (.cells #[.int .i64 1] 3)).alloc (.cells #[.int .i64 8, .int .i64 0, .int .i64 3, .int .i64 0, .int .i64 7, .int .i64 0, .int .i64 13, .int .i64 0] 43)) (.cells #[.int .i64 0, .slice none 0 0, .int .i64 0, .slice (some ⟨w.heap.size + 1, 0, none⟩) 4 4, .int .i64 1, .slice (some ⟨w.heap.size + 1 + 1, 0, none⟩) 1 1, .int .i64 1, .slice (some ⟨w.heap.size + 1 + 1 + 1, 0, none⟩) 4 4] 78)
    simpa using this
  · intro k p n' c' hk
    match k, hk with
    | 0, hk => simp at hk; omega
    | 1, hk => simp at hk; omega
    | k + 2, hk =>
      have := (Array.getElem?_eq_some_iff.1 hk).1
      simp at this
      omega
end Go.Proofs.YtcadpoknolefpaaGreat


/- verifyBegun. -/
namespace Go.Proofs.YtcadpoknolefpaaGreat
open Go.RowKit
set_option linter.unusedSimpArgs false
set_option linter.unusedVariables false
theorem entCells_at (q : List (Nat × Value)) : ∀ (k : Nat) (x : Nat × Value), q[k]? = some x → (entCells q)[k * 2]? = some (.int .i64 x.1) ∧ (entCells q)[k * 2 + 1]? = some x.2 := by
  induction q with
  | nil => intro k x h; simp at h
  | cons y r ih =>
    intro k x h
    cases k with
    | zero => simp at h; subst h; simp [entCells]
    | succ k =>
      have := ih k x (by simpa using h)
      rw [show (k + 1) * 2 = k * 2 + 1 + 1 from by omega]
      simpa [entCells] using this
end Go.Proofs.YtcadpoknolefpaaGreat


/- Plain laws on least entries, ahead of stage 2: a function more at the end, and an op that is never come to, change none. -/
namespace Go.Proofs.YtcadpoknolefpaaGreat
open Go.RowKit
set_option linter.unusedSimpArgs false
set_option linter.unusedVariables false
open Classical in
/-- only what may be come to. -/
noncomputable def onCome (code : List (Int × Int)) (e : Nat → Option (List Int)) : Nat → Option (List Int) := fun x => if Come code x then e x else none
open Classical in
theorem onCome_some {code : List (Int × Int)} {e : Nat → Option (List Int)} {x : Nat} {s : List Int} (h : onCome code e x = some s) : Come code x ∧ e x = some s := by
  unfold onCome at h
  by_cases hc : Come code x
  · rw [if_pos hc] at h; exact ⟨hc, h⟩
  · rw [if_neg hc] at h; cases h
open Classical in
theorem onCome_mk {code : List (Int × Int)} {e : Nat → Option (List Int)} {x : Nat} {s : List Int} (hc : Come code x) (h : e x = some s) : onCome code e x = some s := by
  unfold onCome
  rw [if_pos hc]; exact h
theorem fits_onCome {p : List Fn} {f : Fn} {e : Nat → Option (List Int)} (hf : FitsBy p f e) : FitsBy p f (onCome f.2.2.2 e) := by
  refine ⟨onCome_mk .zero hf.first, fun pc s hs => ?_⟩
  obtain ⟨hc, hs'⟩ := onCome_some hs
  obtain ⟨o, out, h1, h2, h3⟩ := hf.on pc s hs'
  refine ⟨o, out, h1, h2, fun to hto => ?_⟩
  obtain ⟨h4, s', h5, h6⟩ := h3 to hto
  exact ⟨h4, s', onCome_mk (.step hc hto) h5, h6⟩
theorem least_come {p : List Fn} {f : Fn} {e : Nat → Option (List Int)} (h : Least p f (some e)) (x : Nat) : (∃ s, e x = some s) ↔ Come f.2.2.2 x := by
  constructor
  · rintro ⟨s, hs⟩
    obtain ⟨s', h1, _⟩ := h.2 _ (fits_onCome h.1) x s hs
    exact (onCome_some h1).1
  · intro hc
    exact fits_come h.1 hc
end Go.Proofs.YtcadpoknolefpaaGreat


/- Entries that can be read; plain facts on the entries that Func tells. -/
namespace Go.Proofs.YtcadpoknolefpaaGreat
open Go.RowKit
set_option linter.unusedSimpArgs false
set_option linter.unusedVariables false
structure FullInts (W : World) (u : Value) (s : List Int) : Prop where
  at_ : IntsAt W u s
  nil : NilOk u
  cap : ∀ p n c, u = .slice p n c → n ≤ c
theorem FullInts.below {W W' : World} {u : Value} {s : List Int} (h : FullInts W u s) (hb : Below W.heap.size W W') : FullInts W' u s := ⟨h.at_.below hb, h.nil, h.cap⟩
theorem fullInts_row {W : World} {B : Nat} {u : Value} {s : List Int} {n : Nat} (hn : n = s.length) (h : W.ownsRow B 3 1 u n (s.map (Value.int .i64))) : FullInts W u s :=
  ⟨intsAt_of_row hn h, nilOk_row h, fun p n c hu => by
    rcases h.2 with ⟨rfl, _⟩ | ⟨g, cap, cur, rfl, _, _, h1, _⟩
    · cases hu; exact Nat.le_refl _
    · cases hu; exact h1⟩
theorem FullInts.shp {W : World} {u : Value} {s : List Int} (h : FullInts W u s) : ∃ p c, u = .slice p s.length c ∧ s.length ≤ c := by
  obtain ⟨p, c, hu, _⟩ := h.at_
  exact ⟨p, c, hu, h.cap _ _ _ hu⟩
def EntsRd (W : World) (v : Value) (l : List (Nat × List Int)) : Prop :=
  ∃ p cap, v = .slice p l.length cap ∧ l.length ≤ maxLen ∧ ∀ (k pc : Nat) (s : List Int), l[k]? = some (pc, s) → ∃ b off u, p = some ⟨b, off, none⟩ ∧ b < W.heap.size ∧ W.cell? ⟨b, off + k * 2, none⟩ = some (.int .i64 pc) ∧ W.cell? ⟨b, off + k * 2 + 1, none⟩ = some u ∧ FullInts W u s
theorem EntsRd.below {W W' : World} {v : Value} {l : List (Nat × List Int)} (h : EntsRd W v l) (hb : Below W.heap.size W W') : EntsRd W' v l := by
  obtain ⟨p, cap, rfl, hm, hc⟩ := h
  refine ⟨p, cap, rfl, hm, fun k pc s hk => ?_⟩
  obtain ⟨b, off, u, rfl, hlt, h0, h1, h2⟩ := hc k pc s hk
  exact ⟨b, off, u, rfl, Nat.lt_of_lt_of_le hlt hb.size, (hb.cell (p := ⟨b, off + k * 2, none⟩) hlt).trans h0, (hb.cell (p := ⟨b, off + k * 2 + 1, none⟩) hlt).trans h1, h2.below hb⟩
theorem EntsRd.shp {W : World} {v : Value} {l : List (Nat × List Int)} (h : EntsRd W v l) : ∃ p cap, v = .slice p l.length cap := by
  obtain ⟨p, cap, hv, _⟩ := h
  exact ⟨p, cap, hv⟩
theorem entsRd_own {W : World} {B : Nat} {v : Value} {l : List (Nat × List Int)} (h : EntsOwn W B v l) : EntsRd W v l := by
  obtain ⟨q, hr, hlen, hq⟩ := h
  rcases hr.2 with ⟨rfl, h0⟩ | ⟨g, cap, cur, rfl, hb, hg, hn, hc, hs, ht⟩
  · have hl : l = [] := List.eq_nil_of_length_eq_zero (by omega)
    subst hl
    exact ⟨none, 0, rfl, Nat.zero_le _, fun k pc s hk => by simp at hk⟩
  · refine ⟨_, cap, by rw [hlen], by omega, fun k pc s hk => ?_⟩
    have hkl := lt_of_at hk
    obtain ⟨⟨pc', u⟩, hx⟩ := at_of_lt (l := q) (k := k) (by omega)
    obtain ⟨h1, h2⟩ := hq k _ _ hx hk
    simp only at h1 h2
    subst h1
    have hcl := entCells_at q k _ hx
    refine ⟨g, 0, u, rfl, heap_lt hg, ?_, ?_, fullInts_row rfl h2⟩
    · have := hcl.1
      rw [← ht, List.getElem?_take_of_lt (by omega)] at this
      rw [cell_at' hg]; simpa using this
    · have := hcl.2
      rw [← ht, List.getElem?_take_of_lt (by omega)] at this
      rw [cell_at' hg]; simpa using this
noncomputable def entsOf (C : List (Int × Int)) (e : Nat → Option (List Int)) : List (Nat × List Int) := (reachL C).map fun pc => (pc, (e pc).getD [])
theorem reachL_zero (C : List (Int × Int)) : (reachL C)[0]? = some 0 := by
  unfold reachL
  rw [List.range_succ_eq_map, List.filter_cons_of_pos (by simpa using Come.zero)]
  rfl
theorem reachL_len (C : List (Int × Int)) : (reachL C).length ≤ C.length + 1 := by
  unfold reachL
  have := List.length_filter_le (fun x => @decide (Come C x) (Classical.propDecidable _)) (List.range (C.length + 1))
  rw [List.length_range] at this
  exact this
structure EntsOk (p : List Fn) (f : Fn) (e : Nat → Option (List Int)) (l : List (Nat × List Int)) : Prop where
  len : l.length ≤ f.2.2.2.length + 1
  zero : l[0]? = some (0, [])
  on : ∀ (k pc : Nat) (s : List Int), l[k]? = some (pc, s) → e pc = some s ∧ s.length ≤ 8 ∧ pc < f.2.2.2.length
  all : ∀ (pc : Nat) (s : List Int), e pc = some s → ∃ k : Nat, l[k]? = some (pc, s)
  reach : l.map (fun x => ((x.1 : Nat) : Int)) = (reachL f.2.2.2).map Int.ofNat
theorem fits_short {p : List Fn} {f : Fn} {e : Nat → Option (List Int)} (hf : FitsBy p f e) {x : Nat} (h : Come f.2.2.2 x) {s : List Int} (hs : e x = some s) : s.length ≤ 8 := by
  cases h with
  | zero => rw [hf.first] at hs; cases hs; simp
  | step h1 h2 =>
    obtain ⟨s0, hs0⟩ := fits_come hf h1
    obtain ⟨o, out, h3, h4, h5⟩ := hf.on _ _ hs0
    obtain ⟨_, s', h6, h7⟩ := h5 _ h2
    rw [hs] at h6
    cases h6
    rw [← leS_length h7]
    unfold tryOp at h4
    obtain ⟨⟨t, l⟩, h8, h9⟩ := Option.bind_eq_some_iff.1 h4
    simp only at h9
    split at h9
    · rename_i hc
      cases h9
      exact hc.2.2
    · cases h9
theorem entsOk {p : List Fn} {f : Fn} {e : Nat → Option (List Int)} (hfl : flowErr f.2.2.2 = 0) (h : Least p f (some e)) : EntsOk p f e (entsOf f.2.2.2 e) := by
  have hmem : ∀ pc, pc ∈ reachL f.2.2.2 ↔ Come f.2.2.2 pc := fun pc => mem_reachL (flowErr_zero hfl).2.2
  refine ⟨by unfold entsOf; rw [List.length_map]; exact reachL_len _, ?_, fun k pc s hk => ?_, fun pc s hs => ?_, ?_⟩
  · unfold entsOf
    rw [List.getElem?_map, reachL_zero, Option.map_some, h.1.first]
    rfl
  · unfold entsOf at hk
    rw [List.getElem?_map] at hk
    obtain ⟨x, hx, hxe⟩ := Option.map_eq_some_iff.1 hk
    simp only [Prod.mk.injEq] at hxe
    obtain ⟨hx1, hx2⟩ := hxe
    subst hx1 hx2
    have hc := (hmem x).1 (List.mem_of_getElem? hx)
    obtain ⟨s, hs⟩ := fits_come h.1 hc
    obtain ⟨o, _, ho, _⟩ := h.1.on x s hs
    rw [hs]
    exact ⟨rfl, fits_short h.1 hc hs, lt_of_at ho⟩
  · have hc := (hmem pc).2 ((least_come h pc).1 ⟨s, hs⟩)
    obtain ⟨k, hk⟩ := List.mem_iff_getElem?.1 hc
    exact ⟨k, by unfold entsOf; rw [List.getElem?_map, hk, Option.map_some, hs]; rfl⟩
  · unfold entsOf
    rw [List.map_map]
    rfl
end Go.Proofs.YtcadpoknolefpaaGreat


/- Frames and machines in memory of the call's own, and what can be read of any. -/
namespace Go.Proofs.YtcadpoknolefpaaGreat
open Go.RowKit
set_option linter.unusedSimpArgs false
set_option linter.unusedVariables false
structure FV where
  fn : Int
  pc : Int
  lv : Value
  sv : Value
def fCells (q : List FV) : List Value := q.flatMap fun c => [.int .i64 c.fn, .int .i64 c.pc, c.lv, c.sv]
def fRows (q : List FV) : List Value := q.flatMap fun c => [c.lv, c.sv]
def fVals (F : List Frm) : List (List Val) := F.flatMap fun x => [x.loc, x.stk]
theorem fCells_append (q r : List FV) : fCells (q ++ r) = fCells q ++ fCells r := by simp [fCells]
theorem fRows_append (q r : List FV) : fRows (q ++ r) = fRows q ++ fRows r := by simp [fRows]
theorem fVals_append (q r : List Frm) : fVals (q ++ r) = fVals q ++ fVals r := by simp [fVals]
theorem fCells_length (q : List FV) : (fCells q).length = q.length * 4 := by
  induction q with
  | nil => rfl
  | cons o r ih => simp [fCells] at *; omega
theorem fRows_length (q : List FV) : (fRows q).length = q.length * 2 := by
  induction q with
  | nil => rfl
  | cons o r ih => simp [fRows] at *; omega
theorem fVals_length (q : List Frm) : (fVals q).length = q.length * 2 := by
  induction q with
  | nil => rfl
  | cons o r ih => simp [fVals] at *; omega
theorem fCells_at (q : List FV) : ∀ (k : Nat) (c : FV), q[k]? = some c → (fCells q)[k * 4]? = some (.int .i64 c.fn) ∧ (fCells q)[k * 4 + 1]? = some (.int .i64 c.pc) ∧ (fCells q)[k * 4 + 2]? = some c.lv ∧ (fCells q)[k * 4 + 3]? = some c.sv := by
  induction q with
  | nil => intro k o h; simp at h
  | cons x r ih =>
    intro k o h
    cases k with
    | zero => simp at h; subst h; simp [fCells]
    | succ k =>
      have := ih k o (by simpa using h)
      rw [show (k + 1) * 4 = k * 4 + 1 + 1 + 1 + 1 from by omega]
      simpa [fCells] using this
theorem fRows_at (q : List FV) : ∀ (k : Nat) (c : FV), q[k]? = some c → (fRows q)[k * 2]? = some c.lv ∧ (fRows q)[k * 2 + 1]? = some c.sv := by
  induction q with
  | nil => intro k o h; simp at h
  | cons x r ih =>
    intro k o h
    cases k with
    | zero => simp at h; subst h; simp [fRows]
    | succ k =>
      have := ih k o (by simpa using h)
      rw [show (k + 1) * 2 = k * 2 + 1 + 1 from by omega]
      simpa [fRows] using this
theorem fVals_at (q : List Frm) : ∀ (k : Nat) (c : Frm), q[k]? = some c → (fVals q)[k * 2]? = some c.loc ∧ (fVals q)[k * 2 + 1]? = some c.stk := by
  induction q with
  | nil => intro k o h; simp at h
  | cons x r ih =>
    intro k o h
    cases k with
    | zero => simp at h; subst h; simp [fVals]
    | succ k =>
      have := ih k o (by simpa using h)
      rw [show (k + 1) * 2 = k * 2 + 1 + 1 from by omega]
      simpa [fVals] using this
def FrmsAt (w : World) (v : Value) (F : List Frm) : Prop :=
  ∃ (p : Option Addr) (cap : Nat), v = .slice p F.length cap ∧ F.length ≤ maxLen ∧ F.length ≤ cap ∧ ∀ k x, F[k]? = some x →
    ∃ g off lv sv, p = some ⟨g, off, none⟩ ∧ g < w.heap.size ∧ w.cell? ⟨g, off + k * 4, none⟩ = some (.int .i64 x.fn) ∧ w.cell? ⟨g, off + k * 4 + 1, none⟩ = some (.int .i64 x.pc) ∧ w.cell? ⟨g, off + k * 4 + 2, none⟩ = some lv ∧ w.cell? ⟨g, off + k * 4 + 3, none⟩ = some sv ∧ ValsAt w lv x.loc ∧ NilOk lv ∧ ValsAt w sv x.stk ∧ NilOk sv
theorem FrmsAt.below {w w' : World} {v : Value} {F : List Frm} (h : FrmsAt w v F) (hb : Below w.heap.size w w') : FrmsAt w' v F := by
  obtain ⟨p, cap, rfl, hm, hc0, hc⟩ := h
  refine ⟨p, cap, rfl, hm, hc0, fun k x hk => ?_⟩
  obtain ⟨g, off, lv, sv, rfl, hlt, h0, h1, h2, h3, h4, h5, h6, h7⟩ := hc k x hk
  exact ⟨g, off, lv, sv, rfl, Nat.lt_of_lt_of_le hlt hb.size, (hb.cell (p := ⟨g, off + k * 4, none⟩) hlt).trans h0, (hb.cell (p := ⟨g, off + k * 4 + 1, none⟩) hlt).trans h1, (hb.cell (p := ⟨g, off + k * 4 + 2, none⟩) hlt).trans h2, (hb.cell (p := ⟨g, off + k * 4 + 3, none⟩) hlt).trans h3, h4.below hb, h5, h6.below hb, h7⟩
structure MachAt (W : World) (fv bv iv ov : Value) (M : Mach) : Prop where
  fr : FrmsAt W fv M.frames
  bl : BlksAt W bv M.blocks
  inp : FullInts W iv M.inp
  out : FullInts W ov M.out
theorem MachAt.below {w w' : World} {fv bv iv ov : Value} {M : Mach} (h : MachAt w fv bv iv ov M) (hb : Below w.heap.size w w') : MachAt w' fv bv iv ov M := ⟨h.fr.below hb, h.bl.below hb, h.inp.below hb, h.out.below hb⟩
def TyRow (W : World) (row : Option Nat) (t : TypeId) : Prop := ∀ r, row = some r → ∃ cs fz, W.heap[r]? = some (.cells cs t fz)
theorem tyRow_row {W : World} {B : Nat} {e : TypeId} {size n : Nat} {v : Value} {xs : List Value} (h : W.ownsRow B e size v n xs) : TyRow W v.ownBlock e := fun r hr => by
  rcases h.2 with ⟨rfl, _⟩ | ⟨g, cap, cur, rfl, _, hg, _⟩
  · cases hr
  · cases hr; exact ⟨_, _, hg⟩
theorem tyRow_at {W : World} {r : Nat} {cs : Array Value} {t : TypeId} {fz : Nat × Nat} (h : W.heap[r]? = some (.cells cs t fz)) : TyRow W (some r) t := fun r' e => by cases e; exact ⟨_, _, h⟩
theorem row_keep {W W' : World} {B : Nat} {e t : TypeId} {size n : Nat} {v : Value} {xs : List Value} {row : Option Nat} (h : W.ownsRow B e size v n xs) (hg : W.grownBy W' row) (ht : TyRow W row t) (hne : t ≠ e) : W'.ownsRow B e size v n xs :=
  row_same h fun k hk => hg.block k (h.lt k hk).2 fun e1 => by
    obtain ⟨cs, fz, hh⟩ := ht k e1.symm
    exact row_not h hh hne hk.symm
theorem VRows.keep {W W' : World} {B : Nat} {t : TypeId} {q : List Value} {L : List (List Val)} {row : Option Nat} (h : VRows W B q L) (hg : W.grownBy W' row) (ht : TyRow W row t) (hne : t ≠ 50) : VRows W' B q L :=
  ⟨h.len, fun k x b h1 h2 => row_keep (h.each k x b h1 h2) hg ht hne, h.apart⟩
theorem BRows.keep {W W' : World} {B : Nat} {t : TypeId} {q : List Value} {L : List (List Int)} {row : Option Nat} (h : BRows W B q L) (hg : W.grownBy W' row) (ht : TyRow W row t) (hne : t ≠ 3) : BRows W' B q L :=
  ⟨h.len, fun k x b h1 h2 => row_keep (h.each k x b h1 h2) hg ht hne, h.apart, h.small⟩
theorem row_set {W : World} {B : Nat} {e : TypeId} {size n cap g : Nat} {xs : List Value} (h : W.ownsRow B e size (.slice (some ⟨g, 0, none⟩) n cap) n xs) (i : Nat) (u : Value) : (W.setCell ⟨g, i, none⟩ u).ownsRow B e size (.slice (some ⟨g, 0, none⟩) n cap) n (xs.set i u) := by
  rcases h.2 with ⟨h1, _⟩ | ⟨g', cap', cur, h1, h2, h3, h4, h5, h6, h7⟩
  · cases h1
  · cases h1
    have hs := heap_setCell_same W g i _ _ u h3
    refine ⟨by simpa using h.1, .inr ⟨g, cap, _, rfl, h2, hs, h4, h5, by simpa using h6, ?_⟩⟩
    have e1 : (cur.setIfInBounds i u).toList = cur.toList.set i u := by simp
    rw [e1, List.take_set, h7]
structure FRows (W : World) (B : Nat) (q : List FV) (F : List Frm) : Prop where
  len : q.length = F.length
  nums : ∀ (k : Nat) (c : FV) (x : Frm), q[k]? = some c → F[k]? = some x → c.fn = x.fn ∧ c.pc = x.pc
  rows : VRows W B (fRows q) (fVals F)
theorem FRows.below {W W' : World} {B : Nat} {q : List FV} {F : List Frm} (h : FRows W B q F) (hb : Below W.heap.size W W') : FRows W' B q F := ⟨h.len, h.nums, h.rows.below hb⟩
theorem FRows.low {W : World} {B B' : Nat} {q : List FV} {F : List Frm} (h : FRows W B q F) (hB : B' ≤ B) : FRows W B' q F := ⟨h.len, h.nums, h.rows.low hB⟩
theorem FRows.keep {W W' : World} {B : Nat} {t : TypeId} {q : List FV} {F : List Frm} {row : Option Nat} (h : FRows W B q F) (hg : W.grownBy W' row) (ht : TyRow W row t) (hne : t ≠ 50) : FRows W' B q F := ⟨h.len, h.nums, h.rows.keep hg ht hne⟩
theorem fRows_nil (W : World) (B : Nat) : FRows W B [] [] := ⟨rfl, fun k c x h => by simp at h, vRows_nil W B⟩
theorem snoc_at {α : Type} {l : List α} {x y : α} {k : Nat} (h : (l ++ [x])[k]? = some y) : (k < l.length ∧ l[k]? = some y) ∨ (k = l.length ∧ y = x) := by
  by_cases hl : k < l.length
  · rw [List.getElem?_append_left hl] at h; exact .inl ⟨hl, h⟩
  · rw [List.getElem?_append_right (by omega)] at h
    have h0 : k - l.length = 0 := by have := lt_of_at h; simp at this; omega
    rw [h0] at h; simp at h
    exact .inr ⟨by omega, h.symm⟩
theorem snoc_last {α : Type} (l : List α) (x : α) : (l ++ [x])[l.length]? = some x := by simp
theorem FRows.snoc {W : World} {B B' : Nat} {q : List FV} {F : List Frm} {c : FV} {x : Frm} (h : FRows W B q F) (h1 : c.fn = x.fn) (h2 : c.pc = x.pc) (hl : W.ownsRow B' 50 2 c.lv x.loc.length (valCells x.loc)) (hs : W.ownsRow B' 50 2 c.sv x.stk.length (valCells x.stk)) (hB : B ≤ B')
    (hn : ∀ (k : Nat) (y : Value) (g : Nat), (fRows q)[k]? = some y → y.ownBlock = some g → g < B') (hls : ∀ g, c.lv.ownBlock = some g → c.sv.ownBlock ≠ some g) : FRows W B (q ++ [c]) (F ++ [x]) := by
  refine ⟨by simp [h.len], fun k d y hd hy => ?_, ?_⟩
  · rcases snoc_at hd with ⟨a1, a2⟩ | ⟨a1, rfl⟩
    · rcases snoc_at hy with ⟨b1, b2⟩ | ⟨b1, rfl⟩
      · exact h.nums k d y a2 b2
      · have := h.len; omega
    · rcases snoc_at hy with ⟨b1, b2⟩ | ⟨b1, rfl⟩
      · have := h.len; omega
      · exact ⟨h1, h2⟩
  · have e1 : fRows (q ++ [c]) = (fRows q ++ [c.lv]) ++ [c.sv] := by simp [fRows]
    have e2 : fVals (F ++ [x]) = (fVals F ++ [x.loc]) ++ [x.stk] := by simp [fVals]
    rw [e1, e2]
    refine (h.rows.snoc (row_low hl hB) fun k y g h3 h4 h5 => ?_).snoc (row_low hs hB) fun k y g h3 h4 h5 => ?_
    · have := hn k y g h3 h4
      have := (hl.lt g h5).1
      omega
    · rcases snoc_at h3 with ⟨_, h6⟩ | ⟨_, rfl⟩
      · have := hn k y g h6 h4
        have := (hs.lt g h5).1
        omega
      · exact hls g h4 h5
theorem FRows.stk {W W' : World} {B : Nat} {q : List FV} {F : List Frm} {c : FV} {x : Frm} {sv : Value} {s : List Val} (h : FRows W B (q ++ [c]) (F ++ [x])) (hg : W.grownBy W' c.sv.ownBlock) (hy : W'.ownsRow B 50 2 sv s.length (valCells s)) (hat : ∀ g, sv.ownBlock = some g → c.sv.ownBlock = some g ∨ W.heap.size ≤ g) : FRows W' B (q ++ [{ c with sv := sv }]) (F ++ [{ x with stk := s }]) := by
  have hl : q.length = F.length := by have := h.len; simp at this; exact this
  refine ⟨by simp [hl], fun k d y hd hy => ?_, ?_⟩
  · rcases snoc_at hd with ⟨a1, a2⟩ | ⟨a1, rfl⟩
    · rcases snoc_at hy with ⟨b1, b2⟩ | ⟨b1, rfl⟩
      · exact h.nums k d y (by rw [List.getElem?_append_left a1]; exact a2) (by rw [List.getElem?_append_left b1]; exact b2)
      · omega
    · rcases snoc_at hy with ⟨b1, b2⟩ | ⟨b1, rfl⟩
      · omega
      · exact h.nums q.length c x (snoc_last _ _) (by rw [hl]; exact snoc_last _ _)
  · have hp := h.rows.put (k := q.length * 2 + 1) (x := c.sv) (y := sv) (b := s) (fRows_at _ _ c (snoc_last _ _)).2 hg hy hat
    have e1 : (fRows (q ++ [c])).set (q.length * 2 + 1) sv = fRows (q ++ [{ c with sv := sv }]) := by
      rw [fRows_append, fRows_append, List.set_append_right _ _ (by rw [fRows_length]; omega), fRows_length]
      simp [fRows]
    have e2 : (fVals (F ++ [x])).set (q.length * 2 + 1) s = fVals (F ++ [{ x with stk := s }]) := by
      rw [fVals_append, fVals_append, List.set_append_right _ _ (by rw [fVals_length]; omega), fVals_length, hl]
      simp [fVals]
    rw [e1, e2] at hp
    exact hp
theorem FRows.loc {W W' : World} {B : Nat} {q : List FV} {F : List Frm} {c : FV} {x : Frm} {s : List Val} (h : FRows W B (q ++ [c]) (F ++ [x])) (hg : W.grownBy W' c.lv.ownBlock) (hy : W'.ownsRow B 50 2 c.lv s.length (valCells s)) : FRows W' B (q ++ [c]) (F ++ [{ x with loc := s }]) := by
  have hl : q.length = F.length := by have := h.len; simp at this; exact this
  refine ⟨by simp [hl], fun k d y hd hy => ?_, ?_⟩
  · rcases snoc_at hy with ⟨b1, b2⟩ | ⟨b1, rfl⟩
    · exact h.nums k d y hd (by rw [List.getElem?_append_left b1]; exact b2)
    · exact h.nums k d x hd (by rw [b1]; exact snoc_last _ _)
  · have hp := h.rows.put (k := q.length * 2) (x := c.lv) (y := c.lv) (b := s) (fRows_at _ _ c (snoc_last _ _)).1 hg hy (fun g hg => .inl hg)
    have e1 : (fRows (q ++ [c])).set (q.length * 2) c.lv = fRows (q ++ [c]) := by
      rw [fRows_append, List.set_append_right _ _ (by rw [fRows_length]; omega), fRows_length]
      simp [fRows]
    have e2 : (fVals (F ++ [x])).set (q.length * 2) s = fVals (F ++ [{ x with loc := s }]) := by
      rw [fVals_append, fVals_append, List.set_append_right _ _ (by rw [fVals_length]; omega), fVals_length, hl]
      simp [fVals]
    rw [e1, e2] at hp
    exact hp
theorem FRows.pc {W : World} {B : Nat} {q : List FV} {F : List Frm} {c : FV} {x : Frm} (h : FRows W B (q ++ [c]) (F ++ [x])) (n : Int) : FRows W B (q ++ [{ c with pc := n }]) (F ++ [{ x with pc := n }]) := by
  have hl : q.length = F.length := by have := h.len; simp at this; exact this
  refine ⟨by simp [hl], fun k d y hd hy => ?_, ?_⟩
  · rcases snoc_at hd with ⟨a1, a2⟩ | ⟨a1, rfl⟩
    · rcases snoc_at hy with ⟨b1, b2⟩ | ⟨b1, rfl⟩
      · exact h.nums k d y (by rw [List.getElem?_append_left a1]; exact a2) (by rw [List.getElem?_append_left b1]; exact b2)
      · omega
    · rcases snoc_at hy with ⟨b1, b2⟩ | ⟨b1, rfl⟩
      · omega
      · exact ⟨(h.nums q.length c x (snoc_last _ _) (by rw [hl]; exact snoc_last _ _)).1, rfl⟩
  · have e1 : fRows (q ++ [{ c with pc := n }]) = fRows (q ++ [c]) := by simp [fRows]
    have e2 : fVals (F ++ [{ x with pc := n }]) = fVals (F ++ [x]) := by simp [fVals]
    rw [e1, e2]
    exact h.rows
theorem FRows.cut {W : World} {B : Nat} {q : List FV} {F : List Frm} {c : FV} {x : Frm} (h : FRows W B (q ++ [c]) (F ++ [x])) : FRows W B q F := by
  have hl : q.length = F.length := by have := h.len; simp at this; exact this
  refine ⟨hl, fun k d y hd hy => h.nums k d y (by rw [List.getElem?_append_left (lt_of_at hd)]; exact hd) (by rw [List.getElem?_append_left (lt_of_at hy)]; exact hy), ?_⟩
  have := h.rows.take (q.length * 2)
  rw [fRows_append, fVals_append, List.take_append_of_le_length (by rw [fRows_length]; omega), List.take_append_of_le_length (by rw [fVals_length]; omega), List.take_of_length_le (by rw [fRows_length]; omega), List.take_of_length_le (by rw [fVals_length]; omega)] at this
  exact this
theorem frmsAt_own {W : World} {B : Nat} {fv : Value} {q : List FV} {F : List Frm} (h : W.ownsRow B 48 4 fv q.length (fCells q)) (hr : FRows W B q F) : FrmsAt W fv F := by
  have hlen := hr.len
  rcases h.2 with ⟨rfl, h0⟩ | ⟨g, cap, cur, rfl, hb, hg, hn, hc, hs, ht⟩
  · have : F = [] := List.eq_nil_of_length_eq_zero (by omega)
    subst this
    exact ⟨none, 0, rfl, Nat.zero_le _, Nat.zero_le _, fun k x hk => by simp at hk⟩
  · refine ⟨_, cap, by rw [hlen], by omega, by omega, fun k x hk => ?_⟩
    have hk2 := lt_of_at hk
    obtain ⟨c, hcq⟩ := at_of_lt (l := q) (k := k) (by omega)
    obtain ⟨e1, e2⟩ := hr.nums k c x hcq hk
    obtain ⟨a0, a1, a2, a3⟩ := fCells_at q k c hcq
    obtain ⟨r1, r2⟩ := fRows_at q k c hcq
    obtain ⟨v1, v2⟩ := fVals_at F k x hk
    have o1 := hr.rows.each _ _ _ r1 v1
    have o2 := hr.rows.each _ _ _ r2 v2
    rw [← ht, List.getElem?_take_of_lt (by omega)] at a0 a1 a2 a3
    refine ⟨g, 0, c.lv, c.sv, rfl, heap_lt hg, ?_, ?_, ?_, ?_, valsAt_of_row o1, nilOk_row o1, valsAt_of_row o2, nilOk_row o2⟩
    · rw [cell_at' hg, ← e1]; simpa using a0
    · rw [cell_at' hg, ← e2]; simpa using a1
    · rw [cell_at' hg]; simpa using a2
    · rw [cell_at' hg]; simpa using a3
structure MOwn (W : World) (B : Nat) (fv bv iv ov : Value) (q : List FV) (qb : List Value) (M : Mach) : Prop where
  fr : W.ownsRow B 48 4 fv q.length (fCells q)
  frs : FRows W B q M.frames
  bl : W.ownsRow B 27 1 bv qb.length qb
  rows : BRows W B (iv :: ov :: qb) (M.inp :: M.out :: M.blocks)
theorem MOwn.low {W : World} {B B' : Nat} {fv bv iv ov : Value} {q : List FV} {qb : List Value} {M : Mach} (h : MOwn W B fv bv iv ov q qb M) (hB : B' ≤ B) : MOwn W B' fv bv iv ov q qb M := ⟨row_low h.fr hB, h.frs.low hB, row_low h.bl hB, h.rows.low hB⟩
theorem MOwn.below {W W' : World} {B : Nat} {fv bv iv ov : Value} {q : List FV} {qb : List Value} {M : Mach} (h : MOwn W B fv bv iv ov q qb M) (hb : Below W.heap.size W W') : MOwn W' B fv bv iv ov q qb M :=
  ⟨row_same h.fr fun g hg => hb.block g (h.fr.lt g hg).2, h.frs.below hb, row_same h.bl fun g hg => hb.block g (h.bl.lt g hg).2, h.rows.below hb⟩
theorem MOwn.keep {W W' : World} {B : Nat} {t : TypeId} {fv bv iv ov : Value} {q : List FV} {qb : List Value} {M : Mach} {row : Option Nat} (h : MOwn W B fv bv iv ov q qb M) (hg : W.grownBy W' row) (ht : TyRow W row t) (h1 : t ≠ 48) (h2 : t ≠ 50) (h3 : t ≠ 27) (h4 : t ≠ 3) : MOwn W' B fv bv iv ov q qb M :=
  ⟨row_keep h.fr hg ht h1, h.frs.keep hg ht h2, row_keep h.bl hg ht h3, h.rows.keep hg ht h4⟩
theorem brows_tail {W : World} {B : Nat} {x : Value} {q : List Value} {b : List Int} {L : List (List Int)} (h : BRows W B (x :: q) (b :: L)) : BRows W B q L :=
  ⟨by have := h.len; simpa using this, fun k y c h1 h2 => h.each (k + 1) y c (by simpa using h1) (by simpa using h2), fun i j y z g h1 h2 g1 g2 => by have := h.apart (i + 1) (j + 1) y z g (by simpa using h1) (by simpa using h2) g1 g2; omega, fun c hc => h.small c (by simp [hc])⟩
theorem MOwn.inp {W : World} {B : Nat} {fv bv iv ov : Value} {q : List FV} {qb : List Value} {M : Mach} (h : MOwn W B fv bv iv ov q qb M) : W.ownsRow B 3 1 iv M.inp.length (M.inp.map (Value.int .i64)) := h.rows.each 0 _ _ rfl rfl
theorem MOwn.out {W : World} {B : Nat} {fv bv iv ov : Value} {q : List FV} {qb : List Value} {M : Mach} (h : MOwn W B fv bv iv ov q qb M) : W.ownsRow B 3 1 ov M.out.length (M.out.map (Value.int .i64)) := h.rows.each 1 _ _ rfl rfl
theorem MOwn.blks {W : World} {B : Nat} {fv bv iv ov : Value} {q : List FV} {qb : List Value} {M : Mach} (h : MOwn W B fv bv iv ov q qb M) : BlksOwn W B bv M.blocks := ⟨qb, h.bl, brows_tail (brows_tail h.rows)⟩
theorem MOwn.at_ {W : World} {B : Nat} {fv bv iv ov : Value} {q : List FV} {qb : List Value} {M : Mach} (h : MOwn W B fv bv iv ov q qb M) : MachAt W fv bv iv ov M :=
  ⟨frmsAt_own h.fr h.frs, blksAt_of_own h.blks, fullInts_row rfl h.inp, fullInts_row rfl h.out⟩
end Go.Proofs.YtcadpoknolefpaaGreat


/- machine's checker: status, blocks, boxes, depth. -/
namespace Go.Proofs.YtcadpoknolefpaaGreat
open Go.RowKit
set_option linter.unusedSimpArgs false
set_option linter.unusedVariables false
abbrev chkV (pv fv bv iv ov : Value) (M : Mach) : Value := .agg #[fv, bv, iv, ov, .int .i64 M.status, .int .i64 M.trap, pv]
def Says (n : Int) (w : World) (e : Ending) (w' : World) : Prop := e = .returned (.int .i64 n) ∧ Below w.heap.size w w'
theorem says_box {w : World} {o : Obj} {n m : Int} (h : n = m) : Says m w (.returned (.int .i64 n)) (w.alloc o) := ⟨by rw [h], (Below.refl _ w).alloc (Nat.le_refl _) _⟩
set_option maxRecDepth 100000 in
set_option maxHeartbeats 2000000 in
theorem ckStatus_any (M : Mach) (pv fv bv iv ov : Value) (w : World) (h1 : ∃ p n c, pv = .slice p n c) (h2 : ∃ p n c, fv = .slice p n c) (h3 : ∃ p n c, bv = .slice p n c) (h4 : ∃ p n c, iv = .slice p n c) (h5 : ∃ p n c, ov = .slice p n c) : Calls Tryz.prog 96 #[chkV pv fv bv iv ov M] w (Says (stErr M) w) := by
  obtain ⟨_, _, _, rfl⟩ := h1
  obtain ⟨_, _, _, rfl⟩ := h2
  obtain ⟨_, _, _, rfl⟩ := h3
  obtain ⟨_, _, _, rfl⟩ := h4
  obtain ⟨_, _, _, rfl⟩ := h5
  obtain ⟨F, B, I, O, st, tr⟩ := M
  by_cases a1 : st < 0
  · go_enter Tryz.func96, Tryz.ntmps96
    have a3 : (st == 3) = false := by simp; omega
    go_wp2
    go_ret
    exact says_box (by simp [stErr]; omega)
  by_cases a2 : 3 < st
  · go_enter Tryz.func96, Tryz.ntmps96
    have a3 : (st == 3) = false := by simp; omega
    go_wp2
    go_ret
    exact says_box (by simp [stErr]; omega)
  by_cases a3 : st = 3
  · subst a3
    by_cases a4 : tr < 1
    · go_enter Tryz.func96, Tryz.ntmps96
      go_wp2
      go_ret
      exact says_box (by simp [stErr]; omega)
    by_cases a5 : 5 < tr
    · go_enter Tryz.func96, Tryz.ntmps96
      go_wp2
      go_ret
      exact says_box (by simp [stErr]; omega)
    · go_enter Tryz.func96, Tryz.ntmps96
      go_wp2
      go_ret
      exact says_box (by simp [stErr]; omega)
  · have a3' : (st == 3) = false := by simp; omega
    by_cases a4 : tr < 0
    · go_enter Tryz.func96, Tryz.ntmps96
      go_wp2
      go_ret
      exact says_box (by simp [stErr]; omega)
    by_cases a5 : 0 < tr
    · go_enter Tryz.func96, Tryz.ntmps96
      go_wp2
      go_ret
      exact says_box (by simp [stErr]; omega)
    · go_enter Tryz.func96, Tryz.ntmps96
      go_wp2
      go_ret
      exact says_box (by simp [stErr]; omega)
set_option maxRecDepth 100000 in
set_option maxHeartbeats 2000000 in
theorem ckDepth_any (M : Mach) (pv bv iv ov : Value) (pf : Option Addr) (cf : Nat) (w : World) (h1 : ∃ p n c, pv = .slice p n c) (h3 : ∃ p n c, bv = .slice p n c) (h4 : ∃ p n c, iv = .slice p n c) (h5 : ∃ p n c, ov = .slice p n c) : Calls Tryz.prog 99 #[chkV pv (.slice pf M.frames.length cf) bv iv ov M] w (Says (depthErr M) w) := by
  obtain ⟨_, _, _, rfl⟩ := h1
  obtain ⟨_, _, _, rfl⟩ := h3
  obtain ⟨_, _, _, rfl⟩ := h4
  obtain ⟨_, _, _, rfl⟩ := h5
  obtain ⟨F, B, I, O, st, tr⟩ := M
  obtain ⟨n, hn⟩ : ∃ n, n = F.length := ⟨_, rfl⟩
  have hd : depthErr ⟨F, B, I, O, st, tr⟩ = if 6 < n then 2 else if n = 0 ∧ st ≠ 2 then 5 else if 0 < n ∧ st = 2 then 1 else 0 := by rw [hn]; rfl
  rw [hd]
  simp only
  rw [← hn]
  clear hn hd
  by_cases a1 : 6 < n
  · have a1' : (6 : Int) < (n : Int) := by omega
    go_enter Tryz.func99, Tryz.ntmps99
    go_wp2
    go_ret
    exact says_box (by simp [a1])
  have a1' : ¬ (6 : Int) < (n : Int) := by omega
  by_cases a2 : n = 0
  · subst a2
    by_cases a3 : st = 2
    · subst a3
      go_enter Tryz.func99, Tryz.ntmps99
      go_wp2
      go_ret
      exact says_box (by simp)
    · have a3' : (st != 2) = true := by simpa using a3
      go_enter Tryz.func99, Tryz.ntmps99
      go_wp2
      go_ret
      exact says_box (by simp [a3])
  · have a2' : ((n : Int) == 0) = false := by simp; omega
    have a2'' : (0 : Int) < (n : Int) := by omega
    by_cases a3 : st = 2
    · subst a3
      go_enter Tryz.func99, Tryz.ntmps99
      go_wp2
      go_ret
      exact says_box (by simp [a1, a2] <;> omega)
    · have a3' : (st == 2) = false := by simpa using a3
      go_enter Tryz.func99, Tryz.ntmps99
      go_wp2
      go_ret
      exact says_box (by simp [a1, a2, a3])
set_option maxRecDepth 100000 in
set_option maxHeartbeats 2000000 in
theorem ckBlocks_any (M : Mach) (pv fv bv iv ov : Value) (w : World) (h1 : ∃ p n c, pv = .slice p n c) (h2 : ∃ p n c, fv = .slice p n c) (hb : BlksAt w bv M.blocks) (h4 : ∃ p n c, iv = .slice p n c) (h5 : ∃ p n c, ov = .slice p n c) : Calls Tryz.prog 97 #[chkV pv fv bv iv ov M] w (Says (blkErr M.blocks) w) := by
  obtain ⟨_, _, _, rfl⟩ := h1
  obtain ⟨_, _, _, rfl⟩ := h2
  obtain ⟨_, _, _, rfl⟩ := h4
  obtain ⟨_, _, _, rfl⟩ := h5
  obtain ⟨pb, cb, hbv, -, -⟩ := id hb
  subst hbv
  have HB : Hid (∀ o, Calls Tryz.prog 120 #[.slice pb M.blocks.length cb] (w.alloc o) fun e w' => e = .returned (.int .i64 (blkErr M.blocks)) ∧ Below (w.alloc o).heap.size (w.alloc o) w') := fun o => bCheck_any M.blocks _ _ (hb.below ((Below.refl _ w).alloc (Nat.le_refl _) _))
  clear hb
  go_enter Tryz.func97, Tryz.ntmps97
  go_wp2_with (go_at_call 120; refine (HB.out _).mono ?_; rintro e w2 ⟨rfl, b2⟩)
  go_ret
  exact ⟨rfl, bthen0 ((Below.refl _ w).alloc (Nat.le_refl _) _) b2⟩
end Go.Proofs.YtcadpoknolefpaaGreat


/- machine's checker: boxes; values and frames that stray. -/
namespace Go.Proofs.YtcadpoknolefpaaGreat
open Go.RowKit
set_option linter.unusedSimpArgs false
set_option linter.unusedVariables false
set_option maxHeartbeats 400000 in
theorem mIsNumber_any (n : Int) (w : World) : Calls Tryz.prog 137 #[.int .i64 n] w fun e w' => e = .returned (.bool (isI32 n)) ∧ w' = w := by
  go_enter Tryz.func137, Tryz.ntmps137
  go_wp2_with (go_at_call 28; refine (wrap_any _ _).mono ?_; rintro e w4 ⟨rfl, hw4⟩; have hw4 := hw4.symm; subst hw4)
  go_ret
  exact ⟨by rw [← wrap_isI32]; rfl, rfl⟩
set_option maxHeartbeats 400000 in
theorem ckBox1_any (n : Int) (w : World) : Calls Tryz.prog 136 #[.int .i64 n] w fun e w' => e = .returned (.bool (!isI32 n)) ∧ w' = w := by
  have hnot : ∀ (x : Bool) (w : World), (Op.unary .not (.bool x)).run Tryz.prog w = .ok (.bool (!x)) w := fun _ _ => rfl
  go_enter Tryz.func136, Tryz.ntmps136
  go_wp2_with (go_at_call 137; refine (mIsNumber_any _ _).mono ?_; rintro e w4 ⟨rfl, hw4⟩; have hw4 := hw4.symm; subst hw4)
  go_ret
  exact ⟨rfl, rfl⟩
theorem containsBox_any (l : List Int) (v : Value) (w : World) (h : IntsAt w v l) : Calls Tryz.prog 106 #[v, .func (.func 136) #[] #[]] w fun e w' => e = .returned (.bool (!l.all isI32)) ∧ Below w.heap.size w w' :=
  containsInts_gen 136 #[] (fun _ => True) isI32 l v w h trivial (fun _ _ _ _ => trivial) (ent_mk Tryz.func136 (by kernel_rfl) rfl) (fun z W _ => (ckBox1_any z W).mono (by rintro e w' ⟨rfl, rfl⟩; exact ⟨rfl, Below.refl _ _⟩))
set_option maxHeartbeats 1000000 in
/-- IndexFunc at a function whose contract is given: whether one is found. -/
theorem indexFrms_gen (F : Nat) (caps : Array Value) (I : World → Prop) (q : Frm → Bool) (l : List Frm) (v : Value) (w : World) (h : FrmsAt w v l) (hI : I w) (hkI : ∀ W W', I W → Below W.heap.size W W' → I W') (hE : Ent F)
    (hF : ∀ (z : Frm) (lv sv : Value) (W : World), I W → (∃ p n c, lv = .slice p n c) → (∃ p n c, sv = .slice p n c) → Calls Tryz.prog F (#[.agg #[.int .i64 z.fn, .int .i64 z.pc, lv, sv]] ++ caps) W fun e w' => e = .returned (.bool (!q z)) ∧ Below W.heap.size W w') :
    Calls Tryz.prog 191 #[v, .func (.func F) #[] caps] w fun e w' => ∃ r, e = .returned (.int .i64 r) ∧ decide (0 ≤ r) = (!l.all q) ∧ Below w.heap.size w w' := by
  obtain ⟨p, cap, rfl, hm, -, hc⟩ := h
  unfold maxLen at hm
  have HI := hideP hI
  have HKI := hideP hkI
  have HF := hideP hF
  have hEE := fun args W => hE args W
  clear hI hkI hF hE
  go_enter Tryz.func191, Tryz.ntmps191
  go_wp2
  go_loopw [5, 8] (fun _ i wr => ∃ k : Nat, k ≤ l.length ∧ i = .int .i64 k ∧ (∀ o ∈ l.take k, q o = true) ∧ Below w.heap.size w wr) (fun _ i _ => l.length - (intOf i).toNat)
  case atStart => exact ⟨0, Nat.zero_le _, rfl, by simp, Below.refl _ _⟩
  case round =>
    obtain ⟨k, hk, rfl, hok, hbw⟩ := hrel
    have HK := hideP hok
    have HC := hideP hc
    clear hok hc
    by_cases hlt : k < l.length
    · obtain ⟨z, ho⟩ := at_of_lt hlt
      obtain ⟨b, off, lv, sv, rfl, hb, h0, h1, h2, h3, hl, -, hs, -⟩ := HC.out k _ ho
      obtain ⟨pl, cl, hlv, -, -⟩ := hl
      obtain ⟨ps, cs, hsv, -, -⟩ := hs
      subst hlv hsv
      have g0 := (hbw.cell (p := ⟨b, off + k * 4, none⟩) hb).trans h0
      have g1 := (hbw.cell (p := ⟨b, off + k * 4 + 1, none⟩) hb).trans h1
      have g2 := (hbw.cell (p := ⟨b, off + k * 4 + 2, none⟩) hb).trans h2
      have g3 := (hbw.cell (p := ⟨b, off + k * 4 + 3, none⟩) hb).trans h3
      have HO := hideP ho
      have hi := hideP (HKI.out _ _ HI.out hbw)
      clear ho h0 h1 h2 h3
      cases hnb : q z
      · go_wp2_with fail
        refine (HF.out z _ _ wr hi.out ⟨_, _, _, rfl⟩ ⟨_, _, _, rfl⟩).mono ?_
        rw [hnb]
        rintro e w2 ⟨rfl, hb2⟩
        go_wp2
        go_ret
        exact ⟨k, rfl, by rw [all_false HO.out hnb]; simp, hbw.trans (hb2.mono hbw.size)⟩
      · go_wp2_with fail
        refine (HF.out z _ _ wr hi.out ⟨_, _, _, rfl⟩ ⟨_, _, _, rfl⟩).mono ?_
        rw [hnb]
        rintro e w2 ⟨rfl, hb2⟩
        go_wp2
        go_roundw
        case rel => exact ⟨k + 1, by omega, by go_num, all_snoc HK.out HO.out hnb, hbw.trans (hb2.mono hbw.size)⟩
        case measure => simp [intOf]; omega
    · have hlt' : ¬ (k : Int) < (l.length : Int) := by omega
      go_wp2
      go_ret
      refine ⟨-1, rfl, ?_, hbw⟩
      have := HK.out
      rw [List.take_of_length_le (by omega)] at this
      rw [all_true this]; decide
set_option maxHeartbeats 1000000 in
theorem containsFrms_gen (F : Nat) (caps : Array Value) (I : World → Prop) (q : Frm → Bool) (l : List Frm) (v : Value) (w : World) (h : FrmsAt w v l) (hI : I w) (hkI : ∀ W W', I W → Below W.heap.size W W' → I W') (hE : Ent F)
    (hF : ∀ (z : Frm) (lv sv : Value) (W : World), I W → (∃ p n c, lv = .slice p n c) → (∃ p n c, sv = .slice p n c) → Calls Tryz.prog F (#[.agg #[.int .i64 z.fn, .int .i64 z.pc, lv, sv]] ++ caps) W fun e w' => e = .returned (.bool (!q z)) ∧ Below W.heap.size W w') :
    Calls Tryz.prog 139 #[v, .func (.func F) #[] caps] w fun e w' => e = .returned (.bool (!l.all q)) ∧ Below w.heap.size w w' := by
  go_enter Tryz.func139, Tryz.ntmps139
  go_wp2_with fail
  refine (indexFrms_gen F caps I q l v _ h hI hkI hE hF).mono ?_
  rintro e w2 ⟨r, rfl, hr, hb2⟩
  have HR := hideP hr
  clear hr
  go_wp2
  go_ret
  exact ⟨by rw [← HR.out]; rfl, hb2⟩
set_option maxRecDepth 100000 in
set_option maxHeartbeats 2000000 in
theorem ckBoxes_any (M : Mach) (pv fv bv iv ov : Value) (w : World) (h1 : ∃ p n c, pv = .slice p n c) (h2 : ∃ p n c, fv = .slice p n c) (h3 : ∃ p n c, bv = .slice p n c) (hi : IntsAt w iv M.inp) (ho : IntsAt w ov M.out) : Calls Tryz.prog 98 #[chkV pv fv bv iv ov M] w (Says (boxErr M) w) := by
  obtain ⟨p1, n1, c1, rfl⟩ := h1
  obtain ⟨p2, n2, c2, rfl⟩ := h2
  obtain ⟨p3, n3, c3, rfl⟩ := h3
  obtain ⟨pi, ci, hiv, him, -⟩ := id hi
  obtain ⟨po, co, hov, hom, -⟩ := id ho
  subst hiv hov
  unfold maxLen at him hom
  obtain ⟨F, B, I, O, st, tr⟩ := M
  simp only at him hom hi ho ⊢
  by_cases a1 : 10 < I.length
  · have a1' : (10 : Int) < (I.length : Int) := by omega
    go_enter Tryz.func98, Tryz.ntmps98
    go_wp2
    go_ret
    exact says_box (by simp [boxErr, a1])
  have a1' : ¬ (10 : Int) < (I.length : Int) := by omega
  by_cases a2 : 10 < O.length
  · have a2' : (10 : Int) < (O.length : Int) := by omega
    go_enter Tryz.func98, Tryz.ntmps98
    go_wp2
    go_ret
    exact says_box (by simp [boxErr, a2])
  have a2' : ¬ (10 : Int) < (O.length : Int) := by omega
  obtain ⟨W1, hW1⟩ : ∃ W1, w.alloc (.cells #[.slice p2 n2 c2, .slice p3 n3 c3, .slice pi I.length ci, .slice po O.length co, .int .i64 st, .int .i64 tr, .slice p1 n1 c1] 88) = W1 := ⟨_, rfl⟩
  have b1 : Below w.heap.size w W1 := by rw [← hW1]; exact (Below.refl _ w).alloc (Nat.le_refl _) _
  have x1 : W1.heap[w.heap.size]? = some (.cells #[.slice p2 n2 c2, .slice p3 n3 c3, .slice pi I.length ci, .slice po O.length co, .int .i64 st, .int .i64 tr, .slice p1 n1 c1] 88 (0, 0)) := by rw [← hW1]; exact World.alloc_heap_new w _
  have lx := heap_lt x1
  have d2 : W1.cell? ⟨w.heap.size, 2, none⟩ = some (.slice pi I.length ci) := cell_at' x1 2
  have d3 : W1.cell? ⟨w.heap.size, 3, none⟩ = some (.slice po O.length co) := cell_at' x1 3
  have HI := hideP (containsBox_any I _ W1 (hi.below b1))
  have HO : Hid (∀ W, Below W1.heap.size W1 W → Calls Tryz.prog 106 #[.slice po O.length co, .func (.func 136) #[] #[]] W fun e w' => e = .returned (.bool (!O.all isI32)) ∧ Below W.heap.size W w') := fun W hW => containsBox_any O _ W ((ho.below b1).below hW)
  clear hi ho x1
  cases hI : I.all isI32
  · rw [hI] at HI
    go_enter Tryz.func98, Tryz.ntmps98
    go_wp2_with (go_at_call 106; refine HI.out.mono ?_; rintro e w2 ⟨rfl, b2⟩)
    go_ret
    exact ⟨by simp [boxErr, a1, a2, hI], bthen0 b1 b2⟩
  · rw [hI] at HI
    cases hO : O.all isI32
    · rw [hO] at HO
      go_enter Tryz.func98, Tryz.ntmps98
      go_wp2_with (first
        | (go_at_call 106; (with_reducible refine HI.out.mono ?_); rintro e w2 ⟨rfl, b2⟩; have e3 := (b2.cell (p := ⟨w.heap.size, 3, none⟩) lx).trans d3)
        | (go_at_call 106; (with_reducible refine (HO.out _ b2).mono ?_); rintro e w3 ⟨rfl, b3⟩))
      go_ret
      exact ⟨by simp [boxErr, a1, a2, hI, hO], bthen0 (bthen0 b1 b2) b3⟩
    · rw [hO] at HO
      go_enter Tryz.func98, Tryz.ntmps98
      go_wp2_with (first
        | (go_at_call 106; (with_reducible refine HI.out.mono ?_); rintro e w2 ⟨rfl, b2⟩; have e3 := (b2.cell (p := ⟨w.heap.size, 3, none⟩) lx).trans d3)
        | (go_at_call 106; (with_reducible refine (HO.out _ b2).mono ?_); rintro e w3 ⟨rfl, b3⟩))
      go_ret
      exact ⟨by simp [boxErr, a1, a2, hI, hO], bthen0 (bthen0 b1 b2) b3⟩
set_option maxRecDepth 100000 in
set_option maxHeartbeats 1000000 in
theorem ckFunc1_any (p : List Fn) (z : Frm) (lv sv : Value) (pp : Option Addr) (qp bx : Nat) (w : World) (h1 : ∃ p n c, lv = .slice p n c) (h2 : ∃ p n c, sv = .slice p n c) (hc : w.cell? ⟨bx, 6, none⟩ = some (.slice pp p.length qp)) : Calls Tryz.prog 138 #[.agg #[.int .i64 z.fn, .int .i64 z.pc, lv, sv], .pointer (some ⟨bx, 0, none⟩)] w fun e w' => e = .returned (.bool (!inProg p z)) ∧ Below w.heap.size w w' := by
  obtain ⟨p1, n1, c1, rfl⟩ := h1
  obtain ⟨p2, n2, c2, rfl⟩ := h2
  have hca := fun o => cell_old hc o
  by_cases a1 : z.fn < 0
  · go_enter Tryz.func138, Tryz.ntmps138
    go_wp2
    go_ret
    exact ⟨by simp [inProg]; omega, (Below.refl _ w).alloc (Nat.le_refl _) _⟩
  · by_cases a2 : z.fn ≥ (p.length : Int)
    · go_enter Tryz.func138, Tryz.ntmps138
      go_wp2
      go_ret
      exact ⟨by simp [inProg]; omega, (Below.refl _ w).alloc (Nat.le_refl _) _⟩
    · go_enter Tryz.func138, Tryz.ntmps138
      go_wp2
      go_ret
      exact ⟨by simp [inProg]; omega, (Below.refl _ w).alloc (Nat.le_refl _) _⟩
end Go.Proofs.YtcadpoknolefpaaGreat


