/- My texts Mf Be Md: what of them is needed, joined. -/
import Derived.Deep.RegionHeld3
import Derived.Test.YtcadpoknolefpaaGreatF10
import Derived.Test.YtcadpoknolefpaaGreatF11
import Derived.Test.YtcadpoknolefpaaGreatF12
/- stride's ops: move, reckon, goOn without calls and returns. -/
namespace Go.Proofs.YtcadpoknolefpaaGreat
open Go.RowKit
set_option linter.unusedSimpArgs false
set_option linter.unusedVariables false
theorem boxOp (w : World) (o : Obj) : Below w.heap.size w (w.alloc o) := (Below.refl _ w).alloc (Nat.le_refl _) o
theorem fieldN (a : Bool) (n : Int) (w : World) : (Instr.field 50 (.agg #[.bool a, .int .i64 n]) 1).run Tryz.prog w = .ok (.int .i64 n) w := by kernel_rfl
theorem new3 (w : World) (a b c : Obj) : (((w.alloc a).alloc b).alloc c).heap[w.heap.size + 1 + 1]? = some c := by
  have := World.alloc_heap_new ((w.alloc a).alloc b) c
  simpa using this
theorem last_val {r : List Val} {v : Val} {s : List Val} (h : s = r ++ [v]) : r.length + 1 = s.length := by rw [h]; simp
set_option maxRecDepth 100000 in
set_option maxHeartbeats 2000000 in
theorem mv1 (w0 : World) (b : Nat) (pv : Value) (M : Mach) (D : List Frm) (x : Frm) (A : Int) (w : World) (h : Doer w0 w b pv M) (hF : M.frames = D ++ [x]) (hD : D.length ≤ 100) (hl : x.stk.length ≤ 90)  : Calls Tryz.prog 126 #[.pointer (some ⟨b, 0, none⟩), .agg #[.int .i64 1, .int .i64 A]] w fun e w' => e = .returned (.tuple #[]) ∧ Doer w0 w' b pv { M with frames := D ++ [{ x with stk := x.stk ++ [(false, A)] }] } := by
  have H1 := hideP (h.below (boxOp w (.cells #[.int .i64 1, .int .i64 A] 43)))
  clear h
  go_enter Tryz.func126, Tryz.ntmps126
  go_wp2_with (go_at_call 176; refine (dPutNumber_any w0 b pv M D x A _ H1.out hF hD (by omega)).mono ?_; rintro e w2 ⟨rfl, h2, -⟩; have H2 := hideP h2; clear h2)
  go_end0
  exact ⟨rfl, H2.out⟩
set_option maxRecDepth 100000 in
set_option maxHeartbeats 2000000 in
theorem mv18 (w0 : World) (b : Nat) (pv : Value) (M : Mach) (D : List Frm) (x : Frm) (A : Int) (w : World) (h : Doer w0 w b pv M) (hF : M.frames = D ++ [x]) (hD : D.length ≤ 100) (hl : x.stk.length ≤ 90)  : Calls Tryz.prog 126 #[.pointer (some ⟨b, 0, none⟩), .agg #[.int .i64 18, .int .i64 A]] w fun e w' => e = .returned (.tuple #[]) ∧ Doer w0 w' b pv { M with frames := D ++ [{ x with stk := x.stk ++ [(true, 0)] }] } := by
  have H1 := hideP (h.below (boxOp w (.cells #[.int .i64 18, .int .i64 A] 43)))
  clear h
  go_enter Tryz.func126, Tryz.ntmps126
  go_wp2_with (go_at_call 177; refine (dPutRef_any w0 b pv M D x 0 _ H1.out hF hD (by omega)).mono ?_; rintro e w2 ⟨rfl, h2, -⟩; have H2 := hideP h2; clear h2)
  go_end0
  exact ⟨rfl, H2.out⟩
set_option maxRecDepth 100000 in
set_option maxHeartbeats 2000000 in
theorem mv2 (w0 : World) (b : Nat) (pv : Value) (M : Mach) (D : List Frm) (x : Frm) (r : List Val) (v : Val) (A : Int) (w : World) (h : Doer w0 w b pv M) (hF : M.frames = D ++ [x]) (hD : D.length ≤ 100) (hl : x.stk.length ≤ 90) (hs : x.stk = r ++ [v]) : Calls Tryz.prog 126 #[.pointer (some ⟨b, 0, none⟩), .agg #[.int .i64 2, .int .i64 A]] w fun e w' => e = .returned (.tuple #[]) ∧ Doer w0 w' b pv { M with frames := D ++ [{ x with stk := r }] } := by
  have H1 := hideP (h.below (boxOp w (.cells #[.int .i64 2, .int .i64 A] 43)))
  have hrl := last_val hs
  clear h
  go_enter Tryz.func126, Tryz.ntmps126
  go_wp2_with (go_at_call 178; refine (dTake_any w0 b pv M D x r v _ H1.out hF hs hD (by omega)).mono ?_; rintro e w2 ⟨rfl, h2, o2⟩; have H2 := hideP h2; have O2 := hideP o2; clear h2 o2)
  go_end0
  exact ⟨rfl, H2.out⟩
set_option maxRecDepth 100000 in
set_option maxHeartbeats 2000000 in
theorem mv3 (w0 : World) (b : Nat) (pv : Value) (M : Mach) (D : List Frm) (x : Frm) (r : List Val) (v : Val) (A : Int) (w : World) (h : Doer w0 w b pv M) (hF : M.frames = D ++ [x]) (hD : D.length ≤ 100) (hl : x.stk.length ≤ 90) (hs : x.stk = r ++ [v]) : Calls Tryz.prog 126 #[.pointer (some ⟨b, 0, none⟩), .agg #[.int .i64 3, .int .i64 A]] w fun e w' => e = .returned (.tuple #[]) ∧ Doer w0 w' b pv { M with frames := D ++ [{ x with stk := r ++ [v, v] }] } := by
  have H1 := hideP (h.below (boxOp w (.cells #[.int .i64 3, .int .i64 A] 43)))
  have hrl := last_val hs
  clear h
  go_enter Tryz.func126, Tryz.ntmps126
  go_wp2_with (first
    | (go_at_call 178; refine (dTake_any w0 b pv M D x r v _ H1.out hF hs hD (by omega)).mono ?_; rintro e w2 ⟨rfl, h2, o2⟩; have H2 := hideP h2; have O2 := hideP o2; clear h2 o2)
    | fail)
  refine (dPut_any w0 b pv _ D _ _ [v, v] _ (H2.out.below (((Below.refl _ w2).alloc (Nat.le_refl _) _).alloc (by simp) _)) rfl (vals_new (new_two w2 _ _) rfl (by unfold maxLen; simp)) (nilOk_some _ _ _) hD (by simp; omega) (by simp)).mono ?_
  rintro e w3 ⟨rfl, h3, -, -⟩
  have H3 := hideP h3
  clear h3
  go_wp2
  go_end0
  exact ⟨rfl, H3.out⟩
set_option maxRecDepth 100000 in
set_option maxHeartbeats 2000000 in
theorem mv4 (w0 : World) (b : Nat) (pv : Value) (M : Mach) (D : List Frm) (x : Frm) (r : List Val) (a v : Val) (A : Int) (w : World) (h : Doer w0 w b pv M) (hF : M.frames = D ++ [x]) (hD : D.length ≤ 100) (hl : x.stk.length ≤ 90) (hs : x.stk = r ++ [a, v]) : Calls Tryz.prog 126 #[.pointer (some ⟨b, 0, none⟩), .agg #[.int .i64 4, .int .i64 A]] w fun e w' => e = .returned (.tuple #[]) ∧ Doer w0 w' b pv { M with frames := D ++ [{ x with stk := r ++ [v, a] }] } := by
  have H1 := hideP (h.below (boxOp w (.cells #[.int .i64 4, .int .i64 A] 43)))
  have hs1 : x.stk = (r ++ [a]) ++ [v] := by rw [hs]; simp
  have hrl := last_val hs1
  simp at hrl
  clear h hs
  go_enter Tryz.func126, Tryz.ntmps126
  go_wp2_with (first
    | (go_at_call 178; refine (dTake_any w0 b pv M D x (r ++ [a]) v _ H1.out hF hs1 hD (by simp; omega)).mono ?_; rintro e w2 ⟨rfl, h2, o2⟩; have H2 := hideP h2; have O2 := hideP o2; clear h2 o2)
    | (go_at_call 178; refine (dTake_any w0 b pv _ D _ r a _ H2.out rfl rfl hD (by omega)).mono ?_; rintro e w3 ⟨rfl, h3, o3⟩; have H3 := hideP h3; have O3 := hideP o3; clear h3 o3)
    | fail)
  refine (dPut_any w0 b pv _ D _ _ [v, a] _ (H3.out.below ((((Below.refl _ w3).alloc (Nat.le_refl _) _).alloc (by simp) _).alloc (by simp; omega) _)) rfl (vals_new (new3 w3 _ _ _) rfl (by unfold maxLen; simp)) (nilOk_some _ _ _) hD (by simp; omega) (by simp)).mono ?_
  rintro e w4 ⟨rfl, h4, -, -⟩
  have H4 := hideP h4
  clear h4
  go_wp2
  go_end0
  exact ⟨rfl, H4.out⟩
set_option maxHeartbeats 400000 in
theorem reck1_any (a t : Int) (w : World) : Calls Tryz.prog 181 #[.int .i64 a, .int .i64 t] w fun e w' => e = .returned (.int .i64 (wrap64 (a + t))) ∧ w' = w := by
  go_enter Tryz.func181, Tryz.ntmps181
  go_wp2
  go_ret
  exact ⟨rfl, rfl⟩
set_option maxHeartbeats 400000 in
theorem reck2_any (a t : Int) (w : World) : Calls Tryz.prog 182 #[.int .i64 a, .int .i64 t] w fun e w' => e = .returned (.int .i64 (wrap64 (a - t))) ∧ w' = w := by
  go_enter Tryz.func182, Tryz.ntmps182
  go_wp2
  go_ret
  exact ⟨rfl, rfl⟩
set_option maxHeartbeats 400000 in
theorem reck3_any (a t : Int) (w : World) : Calls Tryz.prog 183 #[.int .i64 a, .int .i64 t] w fun e w' => e = .returned (.int .i64 (wrap64 (a * t))) ∧ w' = w := by
  go_enter Tryz.func183, Tryz.ntmps183
  go_wp2
  go_ret
  exact ⟨rfl, rfl⟩
theorem wrap32_64 (n : Int) : wrap32 (wrap64 n) = wrap32 n := by unfold wrap64 wrap32; omega
set_option maxRecDepth 100000 in
set_option maxHeartbeats 2000000 in
theorem combine_gen (w0 : World) (b : Nat) (pv : Value) (M : Mach) (D : List Frm) (x : Frm) (r : List Val) (a v : Val) (F : Nat) (k : Int → Int → Int) (w : World) (h : Doer w0 w b pv M) (hF : M.frames = D ++ [x]) (hD : D.length ≤ 100) (hl : x.stk.length ≤ 90) (hs : x.stk = r ++ [a, v]) (hE : Ent F) (hk : ∀ (a t : Int) (w : World), Calls Tryz.prog F #[.int .i64 a, .int .i64 t] w fun e w' => e = .returned (.int .i64 (wrap64 (k a t))) ∧ w' = w) : Calls Tryz.prog 180 #[.pointer (some ⟨b, 0, none⟩), .func (.func F) #[] #[]] w fun e w' => e = .returned (.tuple #[]) ∧ Doer w0 w' b pv { M with frames := D ++ [{ x with stk := r ++ [(false, wrap32 (k a.2 v.2))] }] } := by
  have hs1 : x.stk = (r ++ [a]) ++ [v] := by rw [hs]; simp
  have hrl := last_val hs1
  simp at hrl
  have H1 := hideP h
  have HK := hideP hk
  have hen := fun args W => hE args W
  have hfd := fieldN
  clear h hs hk hE
  go_enter Tryz.func180, Tryz.ntmps180
  go_wp2_with (first
    | (go_at_call 178; refine (dTake_any w0 b pv M D x (r ++ [a]) v _ H1.out hF hs1 hD (by simp; omega)).mono ?_; rintro e w2 ⟨rfl, h2, o2⟩; have H2 := hideP h2; have O2 := hideP o2; clear h2 o2)
    | (go_at_call 178; refine (dTake_any w0 b pv _ D _ r a _ H2.out rfl rfl hD (by omega)).mono ?_; rintro e w3 ⟨rfl, h3, o3⟩; have H3 := hideP h3; have O3 := hideP o3; clear h3 o3)
    | fail)
  refine (HK.out _ _ _).mono ?_
  rintro e w4 ⟨rfl, hw4⟩
  have hw4 := hw4.symm
  subst hw4
  go_wp2_with (first
    | (go_at_call 28; refine (wrap_any _ _).mono ?_; rintro e w4 ⟨rfl, hw4⟩; have hw4 := hw4.symm; subst hw4)
    | (go_at_call 176; refine (dPutNumber_any w0 b pv _ D _ _ _ H3.out rfl hD (by simp; omega)).mono ?_; rintro e w5 ⟨rfl, h5, -⟩; have H5 := hideP h5; clear h5))
  go_end0
  rw [wrap32_64] at H5
  exact ⟨rfl, H5.out⟩
theorem two_cell {w : World} {R i : Nat} {a c v : Value} {p : Addr} (h : w.cell? p = some v) (hn : ¬ p.block = R) : ((w.setCell ⟨R, i, none⟩ a).setCell ⟨R, i + 1, none⟩ c).cell? p = some v := by
  have key : ∀ (W : World) (j : Nat) (u : Value), W.cell? p = some v → (W.setCell ⟨R, j, none⟩ u).cell? p = some v := fun W j u h => (World.cell?_of_block (Below.heap_setCell W _ u p.block hn)).trans h
  exact key _ _ _ (key _ _ _ h)
theorem one_cell {w : World} {R i : Nat} {a v : Value} {p : Addr} (h : w.cell? p = some v) (hn : ¬ p.block = R) : (w.setCell ⟨R, i, none⟩ a).cell? p = some v := (World.cell?_of_block (Below.heap_setCell w _ a p.block hn)).trans h
theorem DIn.one {w0 W : World} {b : Nat} {pv : Value} {M : Mach} {D : List Frm} {x : Frm} {g cap : Nat} {bv iv ov : Value} {q : List FV} {c : FV} {qb : List Value} (h : DIn w0 W b pv M D x g cap bv iv ov q c qb) {g' cap' n : Nat} (hc : W.cell? ⟨b, 0, none⟩ = some (.slice (some ⟨g', 0, none⟩) n cap')) : g = g' := by
  rw [h.fcell] at hc
  cases hc; rfl
set_option maxRecDepth 100000 in
set_option maxHeartbeats 2000000 in
theorem mv8 (w0 : World) (b : Nat) (pv : Value) (M : Mach) (D : List Frm) (x : Frm) (k : Nat) (v0 : Val) (w : World) (h : Doer w0 w b pv M) (hF : M.frames = D ++ [x]) (hD : D.length ≤ 100) (hl : x.stk.length ≤ 90) (hv : x.loc[k]? = some v0) : Calls Tryz.prog 126 #[.pointer (some ⟨b, 0, none⟩), .agg #[.int .i64 8, .int .i64 k]] w fun e w' => e = .returned (.tuple #[]) ∧ Doer w0 w' b pv { M with frames := D ++ [{ x with stk := x.stk ++ [v0] }] } := by
  obtain ⟨g, cap, bv, iv, ov, q, c, qb, H0⟩ := h.open hF
  obtain ⟨W1, hW1⟩ : ∃ W1, w.alloc (.cells #[.int .i64 8, .int .i64 (k : Int)] 43) = W1 := ⟨_, rfl⟩
  have b1 : Below w.heap.size w W1 := by rw [← hW1]; exact (Below.refl _ w).alloc (Nat.le_refl _) _
  have x1 : W1.heap[w.heap.size]? = some (.cells #[.int .i64 8, .int .i64 (k : Int)] 43 (0, 0)) := by rw [← hW1]; exact World.alloc_heap_new w _
  have lx := heap_lt x1
  have e0 : W1.cell? ⟨w.heap.size, 0, none⟩ = some (.int .i64 8) := cell_at' x1 0
  have e1 : W1.cell? ⟨w.heap.size, 1, none⟩ = some (.int .i64 (k : Int)) := cell_at' x1 1
  have H1 := H0.below b1
  have hgl : g < w.heap.size := by obtain ⟨cur, hg⟩ := H0.gb; exact heap_lt hg
  have hgne : ¬ w.heap.size = g := by omega
  have HI : Hid (∀ W, Below W1.heap.size W1 W → Calls Tryz.prog 125 #[.pointer (some ⟨b, 0, none⟩)] W fun e w' => e = .returned (.pointer (some ⟨g, D.length * 4, none⟩)) ∧ Below W.heap.size W w') := fun W hW => innermost_raw b g D.length cap W (H1.below hW).fcell hD
  obtain ⟨pl, cl, hlv⟩ := row_shp H1.loc
  obtain ⟨pl', cl', hlv', -, hlc⟩ := valsAt_of_row H1.loc
  rw [hlv] at hlv'
  cases hlv'
  obtain ⟨gl, ol, hpl, hgll, l0, l1⟩ := hlc k v0 hv
  subst hpl
  have hol : ol = 0 := by
    rcases H1.loc.2 with ⟨h1, _⟩ | ⟨g', cap', cur', h1, _⟩
    · rw [hlv] at h1; cases h1
    · rw [hlv] at h1; cases h1; rfl
  subst hol
  simp only [Nat.zero_add] at l0 l1
  have hkl := lt_of_at hv
  have hkli : (k : Int) < (x.loc.length : Int) := by omega
  have hll := (H0.loc.lt gl (by rw [hlv]; rfl)).2
  have f2 := H1.c2
  rw [hlv] at f2
  have hgg : ¬ g = gl := fun e => by
    obtain ⟨cur, hg⟩ := H1.gb
    have := tyRow_row H1.loc gl (by rw [hlv]; rfl)
    obtain ⟨cs, fz, hh⟩ := this
    rw [← e, hg] at hh
    simp at hh
  have HLV := hideP hlv
  have HX1 := hideP x1
  have HH1 := hideP H1
  have HV := hideP hv
  clear h x1 H0 H1 hlc hv hlv
  go_enter Tryz.func126, Tryz.ntmps126
  go_wp2_with fail
  go_region_held3 (fun W => W.cell? ⟨w.heap.size, 1, none⟩ = some (.int .i64 (k : Int)) ∧ W.cell? ⟨g, D.length * 4 + 2, none⟩ = some (.slice (some ⟨gl, 0, none⟩) x.loc.length cl) ∧ W.cell? ⟨gl, k * 2, none⟩ = some (.bool v0.1) ∧ W.cell? ⟨gl, k * 2 + 1, none⟩ = some (.int .i64 v0.2)) (go_keep)
    (first
      | (go_at_call 125; (with_reducible refine (HI.out _ ((Below.refl _ W1).drew)).mono ?_); rintro e w2 ⟨rfl, b2'⟩; have b2 : Below W1.heap.size W1 w2 := ((Below.refl _ W1).drew).trans b2'; have k1 := (b2.cell (p := ⟨w.heap.size, 1, none⟩) lx).trans e1; have kk := fun o => cell_old k1 o; have m0 := (b2.cell (p := ⟨gl, k * 2, none⟩) hgll).trans l0; have m1 := (b2.cell (p := ⟨gl, k * 2 + 1, none⟩) hgll).trans l1; have m2 := (b2.cell (p := ⟨g, D.length * 4 + 2, none⟩) (by have := b1.size; show g < W1.heap.size; omega)).trans f2; have mm0 := fun o => cell_old m0 o; have mm1 := fun o => cell_old m1 o; have mm2 := fun o => cell_old m2 o)
      | (go_at_call 179; (refine (dPut_any w0 b pv M D x _ [v0] _ ((HH1.out.below b2).doer.below ((Below.refl _ w2).alloc (Nat.le_refl _) _)) hF (vals_new (World.alloc_heap_new w2 _) rfl (by unfold maxLen; simp)) (nilOk_some _ _ _) hD (by omega) (by simp)).mono ?_); rintro e w3 ⟨rfl, h3, o3, s3⟩; obtain ⟨sg, sj⟩ := s3 _ _ _ _ ((HH1.out.below b2).below ((Below.refl _ w2).alloc (Nat.le_refl _) _)).fcell ((HH1.out.below b2).below ((Below.refl _ w2).alloc (Nat.le_refl _) _)).c3; have n2 := (sj (D.length * 4 + 2) (by omega)).trans (cell_old m2 _); have nb := sg gl (by have := b2.size; simp; omega) (fun e => hgg e.symm) ((HH1.out.below b2).ap (by rw [HLV.out]; rfl)); have n0 := (World.cell?_of_block (a := ⟨gl, k * 2, none⟩) nb).trans (cell_old m0 _); have n3 := (World.cell?_of_block (a := ⟨gl, k * 2 + 1, none⟩) nb).trans (cell_old m1 _); have n1 : w3.cell? ⟨w.heap.size, 1, none⟩ = some (.int .i64 (k : Int)) := cell_at' (o3 _ _ _ _ (heap_old ((b2.block _ lx).trans HX1.out) _) (by decide) (by decide)) 1; have H3 := hideP h3; clear h3 o3 s3 sg sj nb))
  go_wp2
  go_end0
  exact ⟨rfl, H3.out⟩
set_option maxRecDepth 100000 in
set_option maxHeartbeats 2000000 in
theorem mv9 (w0 : World) (b : Nat) (pv : Value) (M : Mach) (D : List Frm) (x : Frm) (k : Nat) (v0 v : Val) (r : List Val) (w : World) (h : Doer w0 w b pv M) (hF : M.frames = D ++ [x]) (hD : D.length ≤ 100) (hl : x.stk.length ≤ 90) (hv : x.loc[k]? = some v0) (hs : x.stk = r ++ [v]) : Calls Tryz.prog 126 #[.pointer (some ⟨b, 0, none⟩), .agg #[.int .i64 9, .int .i64 k]] w fun e w' => e = .returned (.tuple #[]) ∧ Doer w0 w' b pv { M with frames := D ++ [{ x with loc := x.loc.set k v, stk := r }] } := by
  obtain ⟨g, cap, bv, iv, ov, q, c, qb, H0⟩ := h.open hF
  obtain ⟨W1, hW1⟩ : ∃ W1, w.alloc (.cells #[.int .i64 9, .int .i64 (k : Int)] 43) = W1 := ⟨_, rfl⟩
  have b1 : Below w.heap.size w W1 := by rw [← hW1]; exact (Below.refl _ w).alloc (Nat.le_refl _) _
  have x1 : W1.heap[w.heap.size]? = some (.cells #[.int .i64 9, .int .i64 (k : Int)] 43 (0, 0)) := by rw [← hW1]; exact World.alloc_heap_new w _
  have lx := heap_lt x1
  have e0 : W1.cell? ⟨w.heap.size, 0, none⟩ = some (.int .i64 9) := cell_at' x1 0
  have e1 : W1.cell? ⟨w.heap.size, 1, none⟩ = some (.int .i64 (k : Int)) := cell_at' x1 1
  have H1 := H0.below b1
  have hgl : g < w.heap.size := by obtain ⟨cur, hg⟩ := H0.gb; exact heap_lt hg
  have hgne : ¬ w.heap.size = g := by omega
  have HI : Hid (∀ W, Below W1.heap.size W1 W → Calls Tryz.prog 125 #[.pointer (some ⟨b, 0, none⟩)] W fun e w' => e = .returned (.pointer (some ⟨g, D.length * 4, none⟩)) ∧ Below W.heap.size W w') := fun W hW => innermost_raw b g D.length cap W (H1.below hW).fcell hD
  obtain ⟨pl, cl, hlv⟩ := row_shp H1.loc
  obtain ⟨pl', cl', hlv', -, hlc⟩ := valsAt_of_row H1.loc
  rw [hlv] at hlv'
  cases hlv'
  obtain ⟨gl, ol, hpl, hgll, l0, l1⟩ := hlc k v0 hv
  subst hpl
  have hol : ol = 0 := by
    rcases H1.loc.2 with ⟨h1, _⟩ | ⟨g', cap', cur', h1, _⟩
    · rw [hlv] at h1; cases h1
    · rw [hlv] at h1; cases h1; rfl
  subst hol
  simp only [Nat.zero_add] at l0 l1
  have hkl := lt_of_at hv
  have hkli : (k : Int) < (x.loc.length : Int) := by omega
  have hll := (H0.loc.lt gl (by rw [hlv]; rfl)).2
  have f2 := H1.c2
  rw [hlv] at f2
  have hrl := last_val hs
  have hgg : ¬ g = gl := fun e => by
    obtain ⟨cur, hg⟩ := H1.gb
    have := tyRow_row H1.loc gl (by rw [hlv]; rfl)
    obtain ⟨cs, fz, hh⟩ := this
    rw [← e, hg] at hh
    simp at hh
  have hlg : ¬ w.heap.size = gl := by omega
  have HX1 := hideP x1
  have HH1 := hideP H1
  have HV := hideP hv
  have HLV := hideP hlv
  clear h x1 H0 H1 hlc hv hlv
  go_enter Tryz.func126, Tryz.ntmps126
  go_wp2_with fail
  go_region_held3 (fun W => W.cell? ⟨w.heap.size, 1, none⟩ = some (.int .i64 (k : Int)) ∧ W.cell? ⟨g, D.length * 4 + 2, none⟩ = some (.slice (some ⟨gl, 0, none⟩) x.loc.length cl)) (first | go_keep | exact ⟨two_cell n1 hlg, two_cell n2 hgg⟩)
    (first
      | (go_at_call 125; (with_reducible refine (HI.out _ ((Below.refl _ W1).drew)).mono ?_); rintro e w2 ⟨rfl, b2'⟩; have b2 : Below W1.heap.size W1 w2 := ((Below.refl _ W1).drew).trans b2'; have k1 := (b2.cell (p := ⟨w.heap.size, 1, none⟩) lx).trans e1; have m0 := (b2.cell (p := ⟨gl, k * 2, none⟩) hgll).trans l0; have m1 := (b2.cell (p := ⟨gl, k * 2 + 1, none⟩) hgll).trans l1; have m2 := (b2.cell (p := ⟨g, D.length * 4 + 2, none⟩) (by have := b1.size; show g < W1.heap.size; omega)).trans f2)
      | (go_at_call 178; (refine (dTake_any w0 b pv M D x r v _ (HH1.out.below b2).doer hF hs hD (by omega)).mono ?_); rintro e w3 ⟨rfl, h3, o3⟩; obtain ⟨og, oj⟩ := o3 _ _ _ (HH1.out.below b2).fcell; have n1 := og.cell k1 (by simpa using hgne); have n2 := (oj (D.length * 4 + 2) (by omega)).trans m2; have n0 := og.cell m0 (by simpa using fun e => hgg e.symm); have n3 := og.cell m1 (by simpa using fun e => hgg e.symm); have zz : ∀ j, w3.frozen? ⟨gl, j, none⟩ = false := (fun j => by obtain ⟨cs, hh⟩ := row_heap (g := gl) (HH1.out.below b2).loc (by rw [HLV.out]; rfl); exact Lib.frozen_of_heap ((og.block gl (heap_lt hh) (fun e => hgg (by simpa using e.symm))).trans hh) j); have z0 := zz (k * 2); have z1 := zz (k * 2 + 1); have H3 := hideP h3; have OG := hideP og; have OJ := hideP oj; clear h3 o3 og oj zz))
  go_wp2
  go_end0
  obtain ⟨g', cap', bv', iv', ov', q', c', qb', H3'⟩ := H3.out.open rfl
  have hb0 := OG.out.cell (HH1.out.below b2).fcell (fun e => (HH1.out.below b2).gne (by simpa using e))
  have hgg' := H3'.one hb0
  subst hgg'
  have hlv' : c'.lv = .slice (some ⟨gl, 0, none⟩) x.loc.length cl := by have := H3'.c2; rw [n2] at this; exact (Option.some.inj this).symm
  have hrow := H3'.loc
  simp only at hrow
  rw [hlv'] at hrow
  have hrow2 := row_set (row_set hrow (k * 2) (.bool v.1)) (k * 2 + 1) (.int .i64 v.2)
  rw [valCells_set] at hrow2
  refine ⟨rfl, H3'.setLoc ?_ ?_⟩
  · rw [hlv']
    exact (set_grown w3 ⟨gl, k * 2, none⟩ (.bool v.1)).trans (set_grown _ ⟨gl, k * 2 + 1, none⟩ (.int .i64 v.2))
  · rw [hlv', List.length_set]
    exact hrow2
set_option maxRecDepth 100000 in
set_option maxHeartbeats 2000000 in
theorem go10 (w0 : World) (b : Nat) (pv : Value) (M : Mach) (D : List Frm) (x : Frm) (A : Int) (w : World) (h : Doer w0 w b pv M) (hF : M.frames = D ++ [x]) (hD : D.length ≤ 100) (hl : x.stk.length ≤ 90)  : Calls Tryz.prog 128 #[.pointer (some ⟨b, 0, none⟩), .agg #[.int .i64 10, .int .i64 A]] w fun e w' => e = .returned (.tuple #[]) ∧ Doer w0 w' b pv { M with frames := D ++ [{ x with pc := A }] } := by
  obtain ⟨g, cap, bv, iv, ov, q, c, qb, H0⟩ := h.open hF
  obtain ⟨W1, hW1⟩ : ∃ W1, w.alloc (.cells #[.int .i64 10, .int .i64 A] 43) = W1 := ⟨_, rfl⟩
  have b1 : Below w.heap.size w W1 := by rw [← hW1]; exact (Below.refl _ w).alloc (Nat.le_refl _) _
  have x1 : W1.heap[w.heap.size]? = some (.cells #[.int .i64 10, .int .i64 A] 43 (0, 0)) := by rw [← hW1]; exact World.alloc_heap_new w _
  have lx := heap_lt x1
  have e0 : W1.cell? ⟨w.heap.size, 0, none⟩ = some (.int .i64 10) := cell_at' x1 0
  have e1 : W1.cell? ⟨w.heap.size, 1, none⟩ = some (.int .i64 A) := cell_at' x1 1
  have H1 := H0.below b1
  have hgl : g < w.heap.size := by obtain ⟨cur, hg⟩ := H0.gb; exact heap_lt hg
  have hgne : ¬ w.heap.size = g := by omega
  have HI : Hid (∀ W, Below W1.heap.size W1 W → Calls Tryz.prog 125 #[.pointer (some ⟨b, 0, none⟩)] W fun e w' => e = .returned (.pointer (some ⟨g, D.length * 4, none⟩)) ∧ Below W.heap.size W w') := fun W hW => innermost_raw b g D.length cap W (H1.below hW).fcell hD
  have HH1 := hideP H1
  clear h x1 H0 H1
  go_enter Tryz.func128, Tryz.ntmps128
  go_wp2_with fail
  go_region_held3 (fun W => W.cell? ⟨w.heap.size, 1, none⟩ = some (.int .i64 A)) (first | go_keep | exact one_cell k1 hgne)
    (first
      | (go_at_call 125; (with_reducible refine (HI.out _ ((Below.refl _ W1).drew)).mono ?_); rintro e w2 ⟨rfl, b2'⟩; have b2 : Below W1.heap.size W1 w2 := ((Below.refl _ W1).drew).trans b2'; have k1 := (b2.cell (p := ⟨w.heap.size, 1, none⟩) lx).trans e1; have H2 := HH1.out.below b2; have m1 := H2.c1; have z1 : w2.frozen? ⟨g, D.length * 4 + 1, none⟩ = false := (by obtain ⟨cur, hh⟩ := H2.gb; exact Lib.frozen_of_heap hh _); have HH2 := hideP H2; clear H2))
  go_wp2
  go_end0
  exact ⟨rfl, HH2.out.setPc A⟩
set_option maxRecDepth 100000 in
set_option maxHeartbeats 2000000 in
theorem go11z (w0 : World) (b : Nat) (pv : Value) (M : Mach) (D : List Frm) (x : Frm) (A : Int) (r : List Val) (v : Val) (w : World) (h : Doer w0 w b pv M) (hF : M.frames = D ++ [x]) (hD : D.length ≤ 100) (hl : x.stk.length ≤ 90) (hs : x.stk = r ++ [v]) (hz : v.2 = 0) : Calls Tryz.prog 128 #[.pointer (some ⟨b, 0, none⟩), .agg #[.int .i64 11, .int .i64 A]] w fun e w' => e = .returned (.tuple #[]) ∧ Doer w0 w' b pv { M with frames := D ++ [{ x with pc := A, stk := r }] } := by
  obtain ⟨g, cap, bv, iv, ov, q, c, qb, H0⟩ := h.open hF
  obtain ⟨W1, hW1⟩ : ∃ W1, w.alloc (.cells #[.int .i64 11, .int .i64 A] 43) = W1 := ⟨_, rfl⟩
  have b1 : Below w.heap.size w W1 := by rw [← hW1]; exact (Below.refl _ w).alloc (Nat.le_refl _) _
  have x1 : W1.heap[w.heap.size]? = some (.cells #[.int .i64 11, .int .i64 A] 43 (0, 0)) := by rw [← hW1]; exact World.alloc_heap_new w _
  have lx := heap_lt x1
  have e0 : W1.cell? ⟨w.heap.size, 0, none⟩ = some (.int .i64 11) := cell_at' x1 0
  have e1 : W1.cell? ⟨w.heap.size, 1, none⟩ = some (.int .i64 A) := cell_at' x1 1
  have H1 := H0.below b1
  have hgl : g < w.heap.size := by obtain ⟨cur, hg⟩ := H0.gb; exact heap_lt hg
  have hgne : ¬ w.heap.size = g := by omega
  have HI : Hid (∀ W, Below W1.heap.size W1 W → Calls Tryz.prog 125 #[.pointer (some ⟨b, 0, none⟩)] W fun e w' => e = .returned (.pointer (some ⟨g, D.length * 4, none⟩)) ∧ Below W.heap.size W w') := fun W hW => innermost_raw b g D.length cap W (H1.below hW).fcell hD
  have hrl := last_val hs
  have hfd := fieldN
  have hz' : (v.2 == 0) = true := by simp [hz]
  have HH1 := hideP H1
  clear h x1 H0 H1 HI hz
  go_enter Tryz.func128, Tryz.ntmps128
  go_wp2_with (first
    | (go_at_call 178; (refine (dTake_any w0 b pv M D x r v _ HH1.out.doer hF hs hD (by omega)).mono ?_); rintro e wt ⟨rfl, ht, ot⟩; obtain ⟨og, oj⟩ := ot _ _ _ HH1.out.fcell; have et := og.cell e1 (by simpa using hgne); have bt := og.cell HH1.out.fcell (fun e => HH1.out.gne (by simpa using e)); have HT := hideP ht; have lt : w.heap.size < wt.heap.size := Nat.lt_of_lt_of_le lx og.size; clear ht ot oj og)
    | fail)
  obtain ⟨g', cap', bv', iv', ov', q', c', qb', HT'⟩ := HT.out.open rfl
  have hgg' := HT'.one bt
  subst hgg'
  have HI : Hid (∀ W, Below wt.heap.size wt W → Calls Tryz.prog 125 #[.pointer (some ⟨b, 0, none⟩)] W fun e w' => e = .returned (.pointer (some ⟨g', D.length * 4, none⟩)) ∧ Below W.heap.size W w') := fun W hW => innermost_raw b g' D.length cap' W (HT'.below hW).fcell hD
  have HHT := hideP HT'
  clear HT'
  go_region_held3 (fun W => W.cell? ⟨w.heap.size, 1, none⟩ = some (.int .i64 A)) (first | go_keep | exact one_cell k1 hgne)
    (first
      | (go_at_call 125; (with_reducible refine (HI.out _ ((Below.refl _ wt).drew)).mono ?_); rintro e w2 ⟨rfl, b2'⟩; have b2 : Below wt.heap.size wt w2 := ((Below.refl _ wt).drew).trans b2'; have k1 := (b2.cell (p := ⟨w.heap.size, 1, none⟩) lt).trans et; have H2 := HHT.out.below b2; have m1 := H2.c1; have z1 : w2.frozen? ⟨g', D.length * 4 + 1, none⟩ = false := (by obtain ⟨cur, hh⟩ := H2.gb; exact Lib.frozen_of_heap hh _); have HH2 := hideP H2; clear H2))
  go_wp2
  go_end0
  exact ⟨rfl, HH2.out.setPc A⟩
set_option maxRecDepth 100000 in
set_option maxHeartbeats 2000000 in
theorem go11n (w0 : World) (b : Nat) (pv : Value) (M : Mach) (D : List Frm) (x : Frm) (A : Int) (r : List Val) (v : Val) (w : World) (h : Doer w0 w b pv M) (hF : M.frames = D ++ [x]) (hD : D.length ≤ 100) (hl : x.stk.length ≤ 90) (hs : x.stk = r ++ [v]) (hz : v.2 ≠ 0) : Calls Tryz.prog 128 #[.pointer (some ⟨b, 0, none⟩), .agg #[.int .i64 11, .int .i64 A]] w fun e w' => e = .returned (.tuple #[]) ∧ Doer w0 w' b pv { M with frames := D ++ [{ x with stk := r }] } := by
  obtain ⟨g, cap, bv, iv, ov, q, c, qb, H0⟩ := h.open hF
  obtain ⟨W1, hW1⟩ : ∃ W1, w.alloc (.cells #[.int .i64 11, .int .i64 A] 43) = W1 := ⟨_, rfl⟩
  have b1 : Below w.heap.size w W1 := by rw [← hW1]; exact (Below.refl _ w).alloc (Nat.le_refl _) _
  have x1 : W1.heap[w.heap.size]? = some (.cells #[.int .i64 11, .int .i64 A] 43 (0, 0)) := by rw [← hW1]; exact World.alloc_heap_new w _
  have lx := heap_lt x1
  have e0 : W1.cell? ⟨w.heap.size, 0, none⟩ = some (.int .i64 11) := cell_at' x1 0
  have e1 : W1.cell? ⟨w.heap.size, 1, none⟩ = some (.int .i64 A) := cell_at' x1 1
  have H1 := H0.below b1
  have hgl : g < w.heap.size := by obtain ⟨cur, hg⟩ := H0.gb; exact heap_lt hg
  have hgne : ¬ w.heap.size = g := by omega
  have HI : Hid (∀ W, Below W1.heap.size W1 W → Calls Tryz.prog 125 #[.pointer (some ⟨b, 0, none⟩)] W fun e w' => e = .returned (.pointer (some ⟨g, D.length * 4, none⟩)) ∧ Below W.heap.size W w') := fun W hW => innermost_raw b g D.length cap W (H1.below hW).fcell hD
  have hrl := last_val hs
  have hfd := fieldN
  have hz' : (v.2 == 0) = false := by simp [hz]
  have HH1 := hideP H1
  clear h x1 H0 H1 HI hz
  go_enter Tryz.func128, Tryz.ntmps128
  go_wp2_with (first
    | (go_at_call 178; (refine (dTake_any w0 b pv M D x r v _ HH1.out.doer hF hs hD (by omega)).mono ?_); rintro e wt ⟨rfl, ht, ot⟩; have HT := hideP ht; clear ht ot))
  go_end0
  exact ⟨rfl, HT.out⟩
set_option maxRecDepth 100000 in
set_option maxHeartbeats 2000000 in
theorem rk5 (w0 : World) (b : Nat) (pv : Value) (M : Mach) (D : List Frm) (x : Frm) (r : List Val) (a v : Val) (w : World) (h : Doer w0 w b pv M) (hF : M.frames = D ++ [x]) (hD : D.length ≤ 100) (hl : x.stk.length ≤ 90) (hs : x.stk = r ++ [a, v]) : Calls Tryz.prog 127 #[.pointer (some ⟨b, 0, none⟩), .int .i64 5] w fun e w' => e = .returned (.tuple #[]) ∧ Doer w0 w' b pv { M with frames := D ++ [{ x with stk := r ++ [(false, wrap32 (a.2 + v.2))] }] } := by
  have HC := hideP (combine_gen w0 b pv M D x r a v 181 (fun a t => a + t) w h hF hD hl hs (ent_mk Tryz.func181 (by kernel_rfl) rfl) reck1_any)
  clear h
  go_enter Tryz.func127, Tryz.ntmps127
  go_wp2_with (go_at_call 180; refine HC.out.mono ?_; rintro e w2 ⟨rfl, h2⟩; have H2 := hideP h2; clear h2)
  go_end0
  exact ⟨rfl, H2.out⟩
set_option maxRecDepth 100000 in
set_option maxHeartbeats 2000000 in
theorem rk6 (w0 : World) (b : Nat) (pv : Value) (M : Mach) (D : List Frm) (x : Frm) (r : List Val) (a v : Val) (w : World) (h : Doer w0 w b pv M) (hF : M.frames = D ++ [x]) (hD : D.length ≤ 100) (hl : x.stk.length ≤ 90) (hs : x.stk = r ++ [a, v]) : Calls Tryz.prog 127 #[.pointer (some ⟨b, 0, none⟩), .int .i64 6] w fun e w' => e = .returned (.tuple #[]) ∧ Doer w0 w' b pv { M with frames := D ++ [{ x with stk := r ++ [(false, wrap32 (a.2 - v.2))] }] } := by
  have HC := hideP (combine_gen w0 b pv M D x r a v 182 (fun a t => a - t) w h hF hD hl hs (ent_mk Tryz.func182 (by kernel_rfl) rfl) reck2_any)
  clear h
  go_enter Tryz.func127, Tryz.ntmps127
  go_wp2_with (go_at_call 180; refine HC.out.mono ?_; rintro e w2 ⟨rfl, h2⟩; have H2 := hideP h2; clear h2)
  go_end0
  exact ⟨rfl, H2.out⟩
set_option maxRecDepth 100000 in
set_option maxHeartbeats 2000000 in
theorem rk7 (w0 : World) (b : Nat) (pv : Value) (M : Mach) (D : List Frm) (x : Frm) (r : List Val) (a v : Val) (w : World) (h : Doer w0 w b pv M) (hF : M.frames = D ++ [x]) (hD : D.length ≤ 100) (hl : x.stk.length ≤ 90) (hs : x.stk = r ++ [a, v]) : Calls Tryz.prog 127 #[.pointer (some ⟨b, 0, none⟩), .int .i64 7] w fun e w' => e = .returned (.tuple #[]) ∧ Doer w0 w' b pv { M with frames := D ++ [{ x with stk := r ++ [(false, wrap32 (a.2 * v.2))] }] } := by
  have HC := hideP (combine_gen w0 b pv M D x r a v 183 (fun a t => a * t) w h hF hD hl hs (ent_mk Tryz.func183 (by kernel_rfl) rfl) reck3_any)
  clear h
  go_enter Tryz.func127, Tryz.ntmps127
  go_wp2_with (go_at_call 180; refine HC.out.mono ?_; rintro e w2 ⟨rfl, h2⟩; have H2 := hideP h2; clear h2)
  go_end0
  exact ⟨rfl, H2.out⟩
end Go.Proofs.YtcadpoknolefpaaGreat


/- block.New. -/
namespace Go.Proofs.YtcadpoknolefpaaGreat
open Go.RowKit
set_option linter.unusedSimpArgs false
set_option linter.unusedVariables false
theorem cell_one_at {w : World} {b : Nat} {x : Value} (h : w.cell? ⟨b, 0, none⟩ = some x) : ∀ (j : Nat) (u : Value), [x][j]? = some u → w.cell? ((⟨b, 0, none⟩ : Addr).add j) = some u := by
  intro j u hj
  match j, hj with
  | 0, hj => simp at hj; subst hj; exact h
  | j + 1, hj => simp at hj
theorem new_end {w2 w3 w4 : World} {B Bc Br m n nn : Nat} {q q' : List Value} {L : List (List Int)} {u : Value} (hrs : BRows w2 Bc q L) (hBc : B ≤ Bc) (h23 : Below w2.heap.size w2 w3) (hm : w3.heap[m]? = some (.cells ((List.replicate n (0 : Int)).map (Value.int .i64)).toArray 3 (0, 0))) (hBm : B ≤ m) (hap : m < Bc ∨ w2.heap.size ≤ m)
    (hrow : w2.ownsRow Br 27 1 u nn q') (hg : w3.grownBy w4 u.ownBlock) (hn : n ≤ 40) : BRows w4 B (q ++ [.slice (some ⟨m, 0, none⟩) n n]) (L ++ [List.replicate n 0]) := by
  have hty : ∀ (g : Nat) (cs : Array Value), w3.heap[g]? = some (.cells cs 3 (0, 0)) → some g ≠ u.ownBlock := fun g cs hg1 e => by
    have hgl := (hrow.lt g e.symm).2
    have hg2 := (h23.block g hgl).symm.trans hg1
    exact row_not hrow hg2 (by decide) e
  have h3 := hrs.below h23
  have h4 : BRows w4 Bc q L := h3.same fun k x g h1 hg1 => by
    obtain ⟨_, h5, cs, h6⟩ := h3.lt h1 hg1
    exact hg.block g h5 (hty g cs h6)
  have hm4 : w4.heap[m]? = _ := (hg.block m (heap_lt hm) (hty m _ hm)).trans hm
  refine (h4.low hBc).snoc' ?_ (fun k y g h1 hg1 e => ?_) (by simp; omega)
  · refine ⟨by simp, .inr ⟨m, n, _, by simp, hBm, hm4, by simp, by unfold maxLen; omega, by simp, by simp⟩⟩
  · have e' : m = g := by simpa [Value.ownBlock] using e
    obtain ⟨h5, h6, _⟩ := hrs.lt h1 hg1
    omega
set_option maxRecDepth 100000 in
set_option maxHeartbeats 4000000 in
theorem bNew_ok (L : List (List Int)) (n : Nat) (v : Value) (w : World) (h : BlksAt w v L) (he : newErr L n = 0) : Calls Tryz.prog 223 #[v, .int .i64 n] w fun e w' => ∃ u, e = .returned (.tuple #[u, .int .i64 ((L.length : Int) + 1), .int .i64 0]) ∧ BlksOwn w' w.heap.size u (L ++ [List.replicate n 0]) ∧ Below w.heap.size w w' := by
  obtain ⟨i0, hi, hz0, hz1, hz2⟩ := info_parts infoInt
  obtain ⟨i1, hj, hy0, hy1, hy2⟩ := info_parts infoInts
  have hbe : blkErr L = 0 := by
    unfold newErr at he
    by_cases hb : blkErr L = 0
    · exact hb
    · rw [if_pos hb] at he; exact absurd he hb
  obtain ⟨h8, h40, _⟩ := blkErr_zero hbe
  have hsm : ∀ b ∈ L, b.length ≤ 40 := fun b hb => by
    obtain ⟨i, hi⟩ := List.getElem?_of_mem hb
    have := cellsN_mem hi
    omega
  unfold newErr at he
  rw [if_neg (by simpa using hbe), if_neg (by omega)] at he
  have hsp : L.length ≠ 8 ∧ (n : Int) ≤ 40 - (cellsN L : Int) := by
    by_cases hc : L.length = 8 ∨ 40 - (cellsN L : Int) < (n : Int)
    · rw [if_pos hc] at he; cases he
    · omega
  have hCK := bCheck_any L v w h
  rw [hbe] at hCK
  have HCK := hideP hCK
  obtain ⟨p, cap, hv, _, _⟩ := id h
  subst hv
  have hl8 : ((L.length : Int) == 8) = false := by simp; omega
  have hn0 : ¬ (n : Int) < 0 := by omega
  have hng : ¬ (40 - (cellsN L : Int) < (n : Int)) := by omega
  have hn40 : n ≤ 40 := by omega
  obtain ⟨AZ, hAZ⟩ : ∃ AZ, ((List.replicate n (0 : Int)).map (Value.int .i64)).toArray = AZ := ⟨_, rfl⟩
  have mS := make_is 27 3 i0 (.int .i64 0) Tryz.underlying27 hi hz0 hz1 n (by rw [hz2]; omega) (by unfold maxLen; omega) AZ (by rw [made_ints, ← hAZ])
  have H := hideP h
  have HSM := hideP hsm
  have HAZ := hideP hAZ
  clear hCK h he hbe hsm hAZ hi hz0 hz1 hz2
  go_enter Tryz.func223, Tryz.ntmps223
  go_wp2_with (first | (go_at_call 120; refine HCK.out.mono ?_; rintro e w1 ⟨rfl, hb1⟩) | (go_at_call 167; refine (cells_any L _ _ (H.out.below hb1) h8).mono ?_; rintro e w' ⟨rfl, hw⟩; have hw := hw.symm; subst hw))
  have hFB : ∀ W, Below w1.heap.size w1 W → Calls Tryz.prog 85 #[.slice p L.length cap] W fun e w' => ∃ q pu cu, e = .returned (.slice pu q.length cu) ∧ q.length = L.length ∧ w'.ownsRow W.heap.size 27 1 (.slice pu q.length cu) q.length q ∧ BRows w' W.heap.size q L ∧ Below W.heap.size W w' := fun W hW => by
    refine (freshBlocks_any L _ W ((H.out.below hb1).below hW) h8 HSM.out).mono ?_
    rintro e w' ⟨u, rfl, ⟨q, h1, h2⟩, h3⟩
    obtain ⟨pu, cu, rfl⟩ := row_shp h1
    exact ⟨q, pu, cu, rfl, h2.len, h1, h2, h3⟩
  have HFB := hideP hFB
  clear hFB HCK
  have hs1 := hb1.size
  go_region_law
    (first
      | (refine step_append_row rfl _ _ 26 rfl w.heap.size 27 i1 (.slice none 0 0) 1 24 Tryz.underlying26 hj hy0 hy1 hy2 rfl (by decide) _ _ _ rfl (row_low ((HROW.out.alloc _).alloc _) (by simp; omega)) ⟨w2.heap.size + 1, 0, none⟩ 1 1 [.slice (some ⟨w2.heap.size, 0, none⟩) n n] rfl rfl (cell_one_at (by rw [cell_at' (new_two w2 (.cells AZ 3) (.cells #[.slice (some ⟨w2.heap.size, 0, none⟩) n n] 27)) 0]; rfl)) (by simp [Value.oneCell']) (by unfold maxLen; omega) (by omega) (by simp; omega) ?_; intro v' w4 hown4 hg4; obtain ⟨g4, cap4, hv4⟩ := ownsRow_succ hown4; subst hv4)
      | (refine step_append_row rfl _ _ 26 rfl w.heap.size 27 i1 (.slice none 0 0) 1 24 Tryz.underlying26 hj hy0 hy1 hy2 rfl (by decide) _ _ _ rfl (row_low (HROW.out.alloc _) (by simp; omega)) ⟨w2.heap.size, 0, none⟩ 1 1 [.slice (some ⟨w1.heap.size, 0, none⟩) n n] rfl rfl (cell_one_at (by rw [cell_at' (World.alloc_heap_new w2 (.cells #[.slice (some ⟨w1.heap.size, 0, none⟩) n n] 27)) 0]; rfl)) (by simp [Value.oneCell']) (by unfold maxLen; omega) (by omega) (by simp; omega) ?_; intro v' w4 hown4 hg4; obtain ⟨g4, cap4, hv4⟩ := ownsRow_succ hown4; subst hv4)
      | (refine step_append_row rfl _ _ 26 rfl w.heap.size 27 i1 (.slice none 0 0) 1 24 Tryz.underlying26 hj hy0 hy1 hy2 rfl (by decide) _ _ _ rfl (row_low HROW.out (by simp; omega)) ⟨w1.heap.size + 1, 0, none⟩ 1 1 [.slice (some ⟨w1.heap.size, 0, none⟩) n n] rfl rfl (cell_one_at ((hb2.cell (p := ⟨w1.heap.size + 1, 0, none⟩) (by simp)).trans (by exact cell_at' (k := w1.heap.size + 1) (new_two w1 (.cells AZ 3) (.cells #[.slice (some ⟨w1.heap.size, 0, none⟩) n n] 27)) 0))) (by simp [Value.oneCell']) (by unfold maxLen; omega) (by omega) (by omega) ?_; intro v' w4 hown4 hg4; obtain ⟨g4, cap4, hv4⟩ := ownsRow_succ hown4; subst hv4)
      | (go_simp; go_at_call 85; refine (HFB.out _ (by first | exact (Below.refl _ w1).drew | exact ((Below.refl _ w1).drew).alloc (by simp) _ | exact (((Below.refl _ w1).drew).alloc (by simp) _).alloc (by simp) _)).mono ?_; rintro e w2 ⟨q, pu, cu, rfl, hql, hrow, hrs, hb2⟩; have HROW := hideP hrow; have HRS := hideP hrs; have HQL := hideP hql; have hq7 : q.length ≤ 7 := (by omega); have hs2 := hb2.size; simp at hs2; clear hrow hrs hql))
  · go_wp2
    go_ret3
    have hA : ((w2.alloc (.cells AZ 3)).alloc (.cells #[.slice (some ⟨w2.heap.size, 0, none⟩) n n] 27)).heap[w2.heap.size]? = some (.cells ((List.replicate n (0 : Int)).map (Value.int .i64)).toArray 3 (0, 0)) := by rw [HAZ.out]; exact heap_old (World.alloc_heap_new w2 _) _
    have h23 : Below w2.heap.size w2 ((w2.alloc (.cells AZ 3)).alloc (.cells #[.slice (some ⟨w2.heap.size, 0, none⟩) n n] 27)) := ((Below.refl _ w2).alloc (Nat.le_refl _) _).alloc (by simp) _
    have hend := new_end (B := w.heap.size) HRS.out hs1 h23 hA (by omega) (.inr (Nat.le_refl _)) HROW.out hg4 hn40
    refine ⟨_, by rw [← HQL.out]; rfl, ⟨_, by rw [List.length_append, List.length_singleton]; exact hown4, hend⟩, ?_⟩
    exact ((bthen0 hb1 (((Below.refl _ w1).drew).trans (show Below w1.heap.size w1.drew w2 from hb2))).trans (h23.mono (by omega))).grown hg4 (by simp; omega) (fun k hk => by have := (HROW.out.lt k hk).1; simp at this; omega)
  · go_wp2
    go_ret3
    have hx : w2.heap[w1.heap.size]? = some (.cells AZ 3 (0, 0)) := (hb2.block _ (by simp)).trans (World.alloc_heap_new w1 (.cells AZ 3))
    have hA : (w2.alloc (.cells #[.slice (some ⟨w1.heap.size, 0, none⟩) n n] 27)).heap[w1.heap.size]? = some (.cells ((List.replicate n (0 : Int)).map (Value.int .i64)).toArray 3 (0, 0)) := by rw [HAZ.out]; exact heap_old hx _
    have h23 : Below w2.heap.size w2 (w2.alloc (.cells #[.slice (some ⟨w1.heap.size, 0, none⟩) n n] 27)) := (Below.refl _ w2).alloc (Nat.le_refl _) _
    have hend := new_end (B := w.heap.size) HRS.out (by simp; omega) h23 hA (by omega) (.inl (by simp)) HROW.out hg4 hn40
    refine ⟨_, by rw [← HQL.out]; rfl, ⟨_, by rw [List.length_append, List.length_singleton]; exact hown4, hend⟩, ?_⟩
    have hb12 : Below w1.heap.size w1 w2 := (((Below.refl _ w1).alloc (Nat.le_refl _) _).drew).trans (hb2.mono (by simp))
    exact ((bthen0 hb1 hb12).trans (h23.mono (by omega))).grown hg4 (by simp; omega) (fun k hk => by have := (HROW.out.lt k hk).1; simp at this; omega)
  · go_wp2
    go_ret3
    have hx : w2.heap[w1.heap.size]? = some (.cells AZ 3 (0, 0)) := (hb2.block _ (by simp; omega)).trans (heap_old (World.alloc_heap_new w1 (.cells AZ 3)) _)
    have hA : w2.heap[w1.heap.size]? = some (.cells ((List.replicate n (0 : Int)).map (Value.int .i64)).toArray 3 (0, 0)) := by rw [HAZ.out]; exact hx
    have hend := new_end (B := w.heap.size) HRS.out (by simp; omega) (Below.refl _ w2) hA (by omega) (.inl (by simp; omega)) HROW.out hg4 hn40
    refine ⟨_, by rw [← HQL.out]; rfl, ⟨_, by rw [List.length_append, List.length_singleton]; exact hown4, hend⟩, ?_⟩
    have hb12 : Below w1.heap.size w1 w2 := ((((Below.refl _ w1).alloc (Nat.le_refl _) _).alloc (by simp) _).drew).trans (hb2.mono (by simp; omega))
    exact (bthen0 hb1 hb12).grown hg4 (by omega) (fun k hk => by have := (HROW.out.lt k hk).1; simp at this; omega)
theorem newErr_ge {L : List (List Int)} {size : Int} (h : newErr L size = 0) : 0 ≤ size := by
  unfold newErr at h
  by_cases hb : blkErr L = 0
  · rw [if_neg (by simpa using hb)] at h
    by_cases h0 : size < 0
    · rw [if_pos h0] at h; cases h
    · omega
  · rw [if_pos hb] at h; exact absurd h hb
set_option maxRecDepth 100000 in
set_option maxHeartbeats 1000000 in
theorem bNew_any (L : List (List Int)) (size : Int) (hsz : -9223372036854775808 ≤ size ∧ size ≤ 9223372036854775807) (v : Value) (w : World) (h : BlksAt w v L) : Calls Tryz.prog 223 #[v, .int .i64 size] w fun e w' => ∃ u, e = .returned (.tuple #[u, .int .i64 (newRef L size), .int .i64 (newErr L size)]) ∧ BlksOwn w' w.heap.size u (newR L size) ∧ Below w.heap.size w w' := by
  by_cases he : newErr L size = 0
  · obtain ⟨n, rfl⟩ : ∃ n : Nat, size = n := ⟨size.toNat, by have := newErr_ge he; omega⟩
    rw [he, newRef, if_pos he, newR, if_pos he, newL, Int.toNat_natCast]
    exact bNew_ok L n v w h he
  · rw [newRef, if_neg he, newR, if_neg he]
    have HCK := hideP (bCheck_any L v w h)
    obtain ⟨p, cap, hv, hm, _⟩ := id h
    unfold maxLen at hm
    subst hv
    by_cases hb : blkErr L = 0
    · rw [hb] at HCK
      obtain ⟨h8, h40, _⟩ := blkErr_zero hb
      have hne : newErr L size = if size < 0 then 3 else if L.length = 8 ∨ 40 - (cellsN L : Int) < size then 7 else 0 := by unfold newErr; rw [if_neg (by simpa using hb)]
      have H := hideP h
      clear h hb
      by_cases h0 : size < 0
      · rw [hne, if_pos h0]
        clear hne he
        go_enter Tryz.func223, Tryz.ntmps223
        go_wp2_with (go_at_call 120; refine HCK.out.mono ?_; rintro e w1 ⟨rfl, hb1⟩)
        go_ret3
        exact ⟨_, rfl, blksOwn_nil _ _, hb1⟩
      · have hc : L.length = 8 ∨ 40 - (cellsN L : Int) < size := by
          by_cases hc : L.length = 8 ∨ 40 - (cellsN L : Int) < size
          · exact hc
          · exfalso; apply he; rw [hne, if_neg h0, if_neg hc]
        rw [hne, if_neg h0, if_pos hc]
        clear hne he
        by_cases hl : L.length = 8
        · have hl8 : ((L.length : Int) == 8) = true := by simp; omega
          clear hl hc
          go_enter Tryz.func223, Tryz.ntmps223
          go_wp2_with (go_at_call 120; refine HCK.out.mono ?_; rintro e w1 ⟨rfl, hb1⟩)
          go_ret3
          exact ⟨_, rfl, blksOwn_nil _ _, hb1⟩
        · have hl8 : ((L.length : Int) == 8) = false := by simp; omega
          have hgt : 40 - (cellsN L : Int) < size := by omega
          clear hl hc
          go_enter Tryz.func223, Tryz.ntmps223
          go_wp2_with (first | (go_at_call 120; refine HCK.out.mono ?_; rintro e w1 ⟨rfl, hb1⟩) | (go_at_call 167; refine (cells_any L _ _ (H.out.below hb1) h8).mono ?_; rintro e w' ⟨rfl, hw⟩; have hw := hw.symm; subst hw))
          go_ret3
          exact ⟨_, rfl, blksOwn_nil _ _, hb1⟩
    · have hne : newErr L size = blkErr L := by unfold newErr; rw [if_pos hb]
      have he' : (blkErr L != 0) = true := by simp [hb]
      rw [hne]
      clear hne he hb h
      go_enter Tryz.func223, Tryz.ntmps223
      go_wp2_with (go_at_call 120; refine HCK.out.mono ?_; rintro e w1 ⟨rfl, hb1⟩)
      go_ret3
      exact ⟨_, rfl, blksOwn_nil _ _, hb1⟩
end Go.Proofs.YtcadpoknolefpaaGreat


/- fresh.Machine: a machine's own copy. -/
namespace Go.Proofs.YtcadpoknolefpaaGreat
open Go.RowKit
set_option linter.unusedSimpArgs false
set_option linter.unusedVariables false
set_option maxRecDepth 100000 in
set_option maxHeartbeats 1000000 in
theorem cloneVal_any (l : List Val) (v : Value) (w : World) (h : ValsAt w v l) (hn : NilOk v) (hl : l.length ≤ 100) : Calls Tryz.prog 124 #[v] w fun e w' => ∃ u, e = .returned u ∧ w'.ownsRow w.heap.size 50 2 u l.length (valCells l) ∧ Below w.heap.size w w' := by
  have h' := h
  obtain ⟨p, c, rfl, hm, hc⟩ := h'
  cases p with
  | none =>
    have hl0 : l = [] := by
      cases l with
      | nil => rfl
      | cons o r => obtain ⟨b, off, hb, _⟩ := hc 0 o rfl; cases hb
    subst hl0
    clear hc h
    have heq := fun W => Lib.run_eql_slice_nil (P := Tryz.prog) W 46 50 none 0 c 0 0 Tryz.underlying46
    go_enter Tryz.func124, Tryz.ntmps124
    go_wp2
    go_ret
    exact ⟨_, rfl, World.ownsRow_nil _ _ _ _, Below.refl _ _⟩
  | some ad =>
    have hB := (Below.refl w.heap.size w).alloc (Nat.le_refl _) (.cells #[] 50)
    have hrow := World.ownsRow_made (base := w.heap.size) (e := 50) (size := 2) w #[] 0 (Nat.le_refl _) (by unfold maxLen; omega) rfl
    have HU := hideP (h.below hB)
    have heq := fun W => Lib.run_eql_slice_nil (P := Tryz.prog) W 46 50 (some ad) l.length c 0 0 Tryz.underlying46
    clear hc h
    go_enter Tryz.func124, Tryz.ntmps124
    go_wp2_with (at_builtin; refine wpList_append_vals rfl _ _ rfl w.heap.size _ _ _ rfl hrow _ l rfl HU.out (nilOk_some _ _ _) (by unfold maxLen; omega) (by omega) (by simp) ?_; intro v2 w2 hown2 hg2 hat2; have HO2 := hideP hown2; clear hown2)
    go_ret
    refine ⟨_, rfl, ?_, hB.grown hg2 (by simp) (fun k hk => (hrow.lt k hk).1)⟩
    have := HO2.out
    simpa using this
def zFV : FV := ⟨0, 0, .slice none 0 0, .slice none 0 0⟩
theorem infoFrm : (Tryz.prog.info? 48).map (fun i => (i.zero, i.size, i.bytes)) = some (some (.agg #[.int .i64 0, .int .i64 0, .slice none 0 0, .slice none 0 0]), 4, 64) := by kernel_rfl
theorem made_frames (n : Nat) : (madeCells (Value.agg #[.int .i64 0, .int .i64 0, .slice none 0 0, .slice none 0 0]).cells (n * 4)).toList = fCells (List.replicate n zFV) := by
  have h : (Value.agg #[.int .i64 0, .int .i64 0, .slice none 0 0, .slice none 0 0]).cells = #[.int .i64 0, .int .i64 0, .slice none 0 0, .slice none 0 0] := rfl
  rw [h]
  apply List.ext_getElem?
  intro k
  by_cases hk : k < n * 4
  · have hq : k / 4 < n := by omega
    obtain ⟨a0, a1, a2, a3⟩ := fCells_at (List.replicate n zFV) (k / 4) zFV (by simp [hq])
    have hm : k % 4 = 0 ∨ k % 4 = 1 ∨ k % 4 = 2 ∨ k % 4 = 3 := by omega
    rcases hm with hm | hm | hm | hm
    · rw [show k / 4 * 4 = k by omega] at a0
      rw [a0]; simp [madeCells, hk, hm, zFV]
    · rw [show k / 4 * 4 + 1 = k by omega] at a1
      rw [a1]; simp [madeCells, hk, hm, zFV]
    · rw [show k / 4 * 4 + 2 = k by omega] at a2
      rw [a2]; simp [madeCells, hk, hm, zFV]
    · rw [show k / 4 * 4 + 3 = k by omega] at a3
      rw [a3]; simp [madeCells, hk, hm, zFV]
  · rw [List.getElem?_eq_none (by simp [madeCells]; omega), List.getElem?_eq_none (by rw [fCells_length]; simp; omega)]
theorem fCells_set (q r : List FV) (d c : FV) : ((((fCells (q ++ d :: r)).set (q.length * 4) (.int .i64 c.fn)).set (q.length * 4 + 1) (.int .i64 c.pc)).set (q.length * 4 + 2) c.lv).set (q.length * 4 + 3) c.sv = fCells (q ++ c :: r) := by
  have e : ∀ (l : List Value) (i : Nat) (u : Value), (fCells q ++ l).set (q.length * 4 + i) u = fCells q ++ l.set i u := fun l i u => by
    rw [List.set_append_right _ _ (by rw [fCells_length]; omega), fCells_length, Nat.add_sub_cancel_left]
  have e0 : ∀ (l : List Value) (u : Value), (fCells q ++ l).set (q.length * 4) u = fCells q ++ l.set 0 u := fun l u => e l 0 u
  rw [fCells_append, fCells_append, e0, e, e, e]
  simp [fCells]
theorem four_set {W : World} {B R n : Nat} {q r : List FV} {d c : FV} (h : W.ownsRow B 48 4 (.slice (some ⟨R, 0, none⟩) n n) n (fCells (q ++ d :: r))) : ((((W.setCell ⟨R, q.length * 4, none⟩ (.int .i64 c.fn)).setCell ⟨R, q.length * 4 + 1, none⟩ (.int .i64 c.pc)).setCell ⟨R, q.length * 4 + 2, none⟩ c.lv).setCell ⟨R, q.length * 4 + 3, none⟩ c.sv).ownsRow B 48 4 (.slice (some ⟨R, 0, none⟩) n n) n (fCells (q ++ c :: r)) := by
  rw [← fCells_set q r d c]
  exact row_set (row_set (row_set (row_set h _ _) _ _) _ _) _ _
theorem four_grown (W : World) (R i : Nat) (a b c d : Value) : W.grownBy ((((W.setCell ⟨R, i, none⟩ a).setCell ⟨R, i + 1, none⟩ b).setCell ⟨R, i + 2, none⟩ c).setCell ⟨R, i + 3, none⟩ d) (some R) :=
  (((set_grown W ⟨R, i, none⟩ a).trans (set_grown _ ⟨R, i + 1, none⟩ b)).trans (set_grown _ ⟨R, i + 2, none⟩ c)).trans (set_grown _ ⟨R, i + 3, none⟩ d)
theorem four_cell {w : World} {R i : Nat} {a b c d v : Value} {p : Addr} (h : w.cell? p = some v) (hn : ¬ p.block = R) : ((((w.setCell ⟨R, i, none⟩ a).setCell ⟨R, i + 1, none⟩ b).setCell ⟨R, i + 2, none⟩ c).setCell ⟨R, i + 3, none⟩ d).cell? p = some v := by
  have key : ∀ (W : World) (j : Nat) (u : Value), W.cell? p = some v → (W.setCell ⟨R, j, none⟩ u).cell? p = some v := fun W j u h => (World.cell?_of_block (Below.heap_setCell W _ u p.block hn)).trans h
  exact key _ _ _ (key _ _ _ (key _ _ _ (key _ _ _ h)))
set_option maxRecDepth 100000 in
set_option maxHeartbeats 4000000 in
theorem freshFrames_any (F : List Frm) (v : Value) (w : World) (h : FrmsAt w v F) (h6 : F.length ≤ 6) (hsm : ∀ x ∈ F, x.loc.length ≤ 20 ∧ x.stk.length ≤ 20) : Calls Tryz.prog 84 #[v] w fun e w' => ∃ u, e = .returned u ∧ ∃ q, w'.ownsRow w.heap.size 48 4 u q.length (fCells q) ∧ FRows w' w.heap.size q F ∧ Below w.heap.size w w' := by
  obtain ⟨i0, hi, hz0, hz1, hz2⟩ := info_parts infoFrm
  obtain ⟨p, cap, hv, -, -, -⟩ := id h
  subst hv
  have H := hideP h
  have HSM := hideP hsm
  clear h hsm
  go_enter Tryz.func84, Tryz.ntmps84
  go_wp2_with (at_make; refine wpList_make_full _ rfl _ _ 25 rfl w.heap.size 48 i0 (.agg #[.int .i64 0, .int .i64 0, .slice none 0 0, .slice none 0 0]) 4 Tryz.underlying25 hi hz0 hz1 _ _ _ _ F.length rfl rfl (by omega) (by omega) (by rw [hz2]; omega) (by unfold maxLen; omega) (Nat.le_refl _) ?_; intro w1 hown1 hg1; rw [made_frames] at hown1; have b1 : Below w.heap.size w w1 := (Below.refl _ w).grown hg1 (Nat.le_refl _) (fun k hk => by cases hk); have HOWN1 := hideP hown1; clear hown1 hg1)
  go_loopw [4, 5, 11] (fun _ _ i wr => ∃ (k : Nat) (q : List FV), k ≤ F.length ∧ i = .int .i64 k ∧ q.length = k ∧ wr.ownsRow w.heap.size 48 4 (.slice (some ⟨w.heap.size, 0, none⟩) F.length F.length) F.length (fCells (q ++ List.replicate (F.length - k) zFV)) ∧ FRows wr w.heap.size q (F.take k) ∧ Below w.heap.size w wr) (fun _ _ i _ => F.length - (intOf i).toNat)
  case atStart => exact ⟨0, [], Nat.zero_le _, rfl, rfl, by simpa using HOWN1.out, by simpa using fRows_nil w1 w.heap.size, b1⟩
  case round =>
    rename World => w2
    obtain ⟨k, q, hk, rfl, hql, hrow, hrs, b2⟩ := hrel
    by_cases hlt : k < F.length
    · have hlti : (k : Int) < (F.length : Int) := by omega
      obtain ⟨x, hx⟩ := at_of_lt hlt
      obtain ⟨p2, q2, he2, _, _, hc2⟩ := H.out.below b2
      cases he2
      obtain ⟨g, off, lv, sv, hp, hg, g0, g1, g2, g3, gl, gln, gs, gsn⟩ := hc2 k x hx
      subst hp
      obtain ⟨hl20, hs20⟩ := HSM.out x (List.mem_of_getElem? hx)
      obtain ⟨pl, cl, hlv, -, -⟩ := id gl
      obtain ⟨ps, cs, hsv, -, -⟩ := id gs
      subst hlv hsv
      obtain ⟨W3, hW3⟩ : ∃ W3, w2.alloc (.cells #[.int .i64 x.fn, .int .i64 x.pc, .slice pl x.loc.length cl, .slice ps x.stk.length cs] 48) = W3 := ⟨_, rfl⟩
      have b3 : Below w2.heap.size w2 W3 := by rw [← hW3]; exact (Below.refl _ w2).alloc (Nat.le_refl _) _
      have x3 : W3.heap[w2.heap.size]? = some (.cells #[.int .i64 x.fn, .int .i64 x.pc, .slice pl x.loc.length cl, .slice ps x.stk.length cs] 48 (0, 0)) := by rw [← hW3]; exact World.alloc_heap_new w2 _
      have l3 := heap_lt x3
      have d0 : W3.cell? ⟨w2.heap.size, 0, none⟩ = some (.int .i64 x.fn) := cell_at' x3 0
      have d1 : W3.cell? ⟨w2.heap.size, 1, none⟩ = some (.int .i64 x.pc) := cell_at' x3 1
      have d2 : W3.cell? ⟨w2.heap.size, 2, none⟩ = some (.slice pl x.loc.length cl) := cell_at' x3 2
      have d3 : W3.cell? ⟨w2.heap.size, 3, none⟩ = some (.slice ps x.stk.length cs) := cell_at' x3 3
      have HCL : Hid (∀ W, Below W3.heap.size W3 W → Calls Tryz.prog 124 #[.slice pl x.loc.length cl] W fun e w' => ∃ u, e = .returned u ∧ w'.ownsRow W.heap.size 50 2 u x.loc.length (valCells x.loc) ∧ Below W.heap.size W w') := fun W hW => cloneVal_any x.loc _ W ((gl.below b3).below hW) gln (by omega)
      have HCS : Hid (∀ W, Below W3.heap.size W3 W → Calls Tryz.prog 124 #[.slice ps x.stk.length cs] W fun e w' => ∃ u, e = .returned u ∧ w'.ownsRow W.heap.size 50 2 u x.stk.length (valCells x.stk) ∧ Below W.heap.size W w') := fun W hW => cloneVal_any x.stk _ W ((gs.below b3).below hW) gsn (by omega)
      have HROW := hideP hrow
      have HRS := hideP hrs
      have HX := hideP hx
      have HQL := hideP hql
      clear hc2 gl gln gs gsn hx hrow hrs hql x3
      have hrep : List.replicate (F.length - k) zFV = zFV :: List.replicate (F.length - k - 1) zFV := by
        obtain ⟨m, hm⟩ : ∃ m, F.length - k = m + 1 := ⟨F.length - k - 1, by omega⟩
        rw [hm]; rfl
      have hrow3 := row_same HROW.out (W' := W3) fun j hj => b3.block j (HROW.out.lt j hj).2
      rw [hrep] at hrow3
      have HROW3 := hideP hrow3
      have hR3 : ∃ cur, W3.heap[w.heap.size]? = some (.cells cur 48 (0, 0)) ∧ ∀ (j : Nat) (u : Value), (fCells (q ++ zFV :: List.replicate (F.length - k - 1) zFV))[j]? = some u → cur[j]? = some u := by
        rcases hrow3.2 with ⟨h1, _⟩ | ⟨g', cap', cur, h1, _, h3, _, _, _, h7⟩
        · cases h1
        · cases h1
          refine ⟨cur, h3, fun j u hj => ?_⟩
          rw [← h7, List.getElem?_take] at hj
          split at hj
          · simpa using hj
          · cases hj
      obtain ⟨cur3, hR3, hcur3⟩ := hR3
      obtain ⟨a0, a1, a2, a3⟩ := fCells_at (q ++ zFV :: List.replicate (F.length - k - 1) zFV) q.length zFV (by simp)
      have hRl : w.heap.size < W3.heap.size := heap_lt hR3
      have hRne : ¬ w2.heap.size = w.heap.size := by have := heap_lt hR3; have h9 := (HROW.out.lt w.heap.size rfl).2; omega
      have r0 : W3.cell? ⟨w.heap.size, k * 4, none⟩ = some (.int .i64 0) := by rw [cell_at' hR3, ← HQL.out]; exact hcur3 _ _ a0
      have r1 : W3.cell? ⟨w.heap.size, k * 4 + 1, none⟩ = some (.int .i64 0) := by rw [cell_at' hR3, ← HQL.out]; exact hcur3 _ _ a1
      have r2 : W3.cell? ⟨w.heap.size, k * 4 + 2, none⟩ = some (.slice none 0 0) := by rw [cell_at' hR3, ← HQL.out]; exact hcur3 _ _ a2
      have r3 : W3.cell? ⟨w.heap.size, k * 4 + 3, none⟩ = some (.slice none 0 0) := by rw [cell_at' hR3, ← HQL.out]; exact hcur3 _ _ a3
      have HR3 := hideP hR3
      clear hrow3 hR3 hcur3 a0 a1 a2 a3 hrep
      go_wp2_with fail
      clear g0 g1 g2 g3
      go_region_held3 (fun W => W.cell? ⟨w2.heap.size, 0, none⟩ = some (.int .i64 x.fn) ∧ W.cell? ⟨w2.heap.size, 1, none⟩ = some (.int .i64 x.pc) ∧ W.cell? ⟨w2.heap.size, 2, none⟩ = some (.slice pl x.loc.length cl) ∧ W.cell? ⟨w2.heap.size, 3, none⟩ = some (.slice ps x.stk.length cs)) (first | go_keep | exact ⟨four_cell h0 hRne, four_cell h1 hRne, four_cell h2 hRne, four_cell h3 hRne⟩)
        (first
          | (go_at_call 124; (with_reducible refine (HCL.out _ ((Below.refl _ W3).drew)).mono ?_); rintro e w5 ⟨u5, rfl, r5, b5⟩; have b35 : Below W3.heap.size W3 w5 := ((Below.refl _ W3).drew).trans b5; obtain ⟨p5, c5, hu5⟩ := row_shp r5; subst hu5; have R5 := hideP r5; clear r5; have f0 := (b35.cell (p := ⟨w2.heap.size, 0, none⟩) l3).trans d0; have f1 := (b35.cell (p := ⟨w2.heap.size, 1, none⟩) l3).trans d1; have f2 := (b35.cell (p := ⟨w2.heap.size, 2, none⟩) l3).trans d2; have f3 := (b35.cell (p := ⟨w2.heap.size, 3, none⟩) l3).trans d3)
          | (go_at_call 124; (with_reducible refine (HCS.out _ b35).mono ?_); rintro e w6 ⟨u6, rfl, r6, b6⟩; have b36 : Below W3.heap.size W3 w6 := b35.trans (b6.mono b35.size); obtain ⟨p6, c6, hu6⟩ := row_shp r6; subst hu6; have R6 := hideP r6; clear r6; have h0 := (b36.cell (p := ⟨w2.heap.size, 0, none⟩) l3).trans d0; have h1 := (b36.cell (p := ⟨w2.heap.size, 1, none⟩) l3).trans d1; have h2 := (b36.cell (p := ⟨w2.heap.size, 2, none⟩) l3).trans d2; have h3 := (b36.cell (p := ⟨w2.heap.size, 3, none⟩) l3).trans d3; have s0 := (b36.cell (p := ⟨w.heap.size, k * 4, none⟩) hRl).trans r0; have s1 := (b36.cell (p := ⟨w.heap.size, k * 4 + 1, none⟩) hRl).trans r1; have s2 := (b36.cell (p := ⟨w.heap.size, k * 4 + 2, none⟩) hRl).trans r2; have s3 := (b36.cell (p := ⟨w.heap.size, k * 4 + 3, none⟩) hRl).trans r3; have y := Lib.frozen_of_heap ((b36.block _ hRl).trans HR3.out); have y0 := y (k * 4); have y1 := y (k * 4 + 1); have y2 := y (k * 4 + 2); have y3 := y (k * 4 + 3); clear y))
      go_wp2
      go_roundw
      case rel =>
        have hF4 := HROW3.out
        have hrow6 := row_same hF4 (W' := w6) fun j hj => b36.block j (hF4.lt j hj).2
        have hset := four_set (c := ⟨x.fn, x.pc, .slice p5 x.loc.length c5, .slice p6 x.stk.length c6⟩) hrow6
        have hgr := four_grown w6 w.heap.size (q.length * 4) (.int .i64 x.fn) (.int .i64 x.pc) (.slice p5 x.loc.length c5) (.slice p6 x.stk.length c6)
        have hty : TyRow w6 (some w.heap.size) 48 := tyRow_at ((b36.block _ hRl).trans HR3.out)
        have hs3 := b3.size
        have hs5 := b35.size
        have hs6 := b6.size
        have hrs6 : FRows w6 w.heap.size (q ++ [⟨x.fn, x.pc, .slice p5 x.loc.length c5, .slice p6 x.stk.length c6⟩]) (F.take (k + 1)) := by
          rw [take_snoc F k x HX.out]
          refine ((HRS.out.below b3).below b36).snoc (B' := W3.heap.size) rfl rfl (row_same R5.out fun j hj => b6.block j (R5.out.lt j hj).2) (row_low R6.out hs5) (by have := b2.size; omega) (fun i y g h1 h2 => ?_) (fun g h1 h2 => ?_)
          · have := (HRS.out.rows.lt h1 h2).2.1; omega
          · have := (R5.out.lt g h1).2
            have := (R6.out.lt g h2).1
            omega
        refine ⟨k + 1, q ++ [⟨x.fn, x.pc, .slice p5 x.loc.length c5, .slice p6 x.stk.length c6⟩], by omega, by go_num, by rw [List.length_append, HQL.out]; rfl, ?_, ?_, ?_⟩
        · rw [HQL.out] at hset
          rw [List.append_assoc, List.singleton_append, show F.length - (k + 1) = F.length - k - 1 by omega]
          exact hset
        · rw [HQL.out] at hgr
          exact hrs6.keep hgr hty (by decide)
        · rw [HQL.out] at hgr
          exact (b2.trans ((bthen0 b3 b36).mono b2.size)).grown hgr (by have := b2.size; omega) (fun j hj => by cases hj; exact Nat.le_refl _)
      case measure => simp [intOf]; omega
    · have hlti : ¬ (k : Int) < (F.length : Int) := by omega
      have hkl : k = F.length := by omega
      subst hkl
      have HRS := hideP hrs
      have HROW := hideP hrow
      have HQL := hideP hql
      clear hrs hrow hql
      go_wp2
      go_ret
      have h1 := HRS.out
      rw [List.take_of_length_le (Nat.le_refl _)] at h1
      have h2 := HROW.out
      rw [Nat.sub_self, List.replicate_zero, List.append_nil] at h2
      exact ⟨_, rfl, q, by rw [HQL.out]; exact h2, h1, b2⟩
end Go.Proofs.YtcadpoknolefpaaGreat


