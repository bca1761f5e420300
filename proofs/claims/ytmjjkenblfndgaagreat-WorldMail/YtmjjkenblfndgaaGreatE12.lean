/- My texts Mf Mg: what of them is needed, joined. -/
import Derived.Deep.RegionHeld3
import Derived.Test.YtmjjkenblfndgaaGreatE10
import Derived.Test.YtmjjkenblfndgaaGreatE11
set_option maxRecDepth 100000
set_option maxHeartbeats 8000000
/- stride's ops: move, reckon, goOn without calls and returns. -/
namespace Go.Proofs.YtmjjkenblfndgaaGreat
open Go.RowKit
set_option linter.unusedSimpArgs false
set_option linter.unusedVariables false
theorem boxOp (w : World) (o : Obj) : Below w.heap.size w (w.alloc o) := (Below.refl _ w).alloc (Nat.le_refl _) o
theorem xcmZ (a : Bool) (n : Int) (w : World) : (Instr.field 113 (.agg #[.bool a, .int .i64 n]) 1).run Tryz.prog w = .ok (.int .i64 n) w := by kernel_rfl
theorem new3 (w : World) (a b c : Obj) : (((w.alloc a).alloc b).alloc c).heap[w.heap.size + 1 + 1]? = some c := by
  have := World.alloc_heap_new ((w.alloc a).alloc b) c
  simpa using this
theorem xbgZ {r : List Val} {v : Val} {s : List Val} (h : s = r ++ [v]) : r.length + 1 = s.length := by rw [h]; simp
theorem mv1 (w0 : World) (b : Nat) (pv : Value) (M : Mach) (D : List Frm) (x : Frm) (A : Int) (w : World) (h : Doer w0 w b pv M) (hF : M.frames = D ++ [x]) (hD : D.length ≤ 100) (hl : x.stk.length ≤ 90)  : Calls Tryz.prog 145 #[.pointer (some ⟨b, 0, none⟩), .agg #[.int .i64 1, .int .i64 A]] w fun e w' => e = .returned (.tuple #[]) ∧ Doer w0 w' b pv { M with frames := D ++ [{ x with stk := x.stk ++ [(false, A)] }] } := by
  have H1 := hideP (h.below (boxOp w (.cells #[.int .i64 1, .int .i64 A] 86)))
  clear h
  go_enter Tryz.func145, Tryz.ntmps145
  go_wp2_with (go_at_call 184; refine (xbtZ w0 b pv M D x A _ H1.out hF hD (by omega)).mono ?_; rintro e w2 ⟨rfl, h2, -⟩; have H2 := hideP h2; clear h2)
  go_end0
  exact ⟨rfl, H2.out⟩
theorem mv18 (w0 : World) (b : Nat) (pv : Value) (M : Mach) (D : List Frm) (x : Frm) (A : Int) (w : World) (h : Doer w0 w b pv M) (hF : M.frames = D ++ [x]) (hD : D.length ≤ 100) (hl : x.stk.length ≤ 90)  : Calls Tryz.prog 145 #[.pointer (some ⟨b, 0, none⟩), .agg #[.int .i64 18, .int .i64 A]] w fun e w' => e = .returned (.tuple #[]) ∧ Doer w0 w' b pv { M with frames := D ++ [{ x with stk := x.stk ++ [(true, 0)] }] } := by
  have H1 := hideP (h.below (boxOp w (.cells #[.int .i64 18, .int .i64 A] 86)))
  clear h
  go_enter Tryz.func145, Tryz.ntmps145
  go_wp2_with (go_at_call 185; refine (xi7Z w0 b pv M D x 0 _ H1.out hF hD (by omega)).mono ?_; rintro e w2 ⟨rfl, h2, -⟩; have H2 := hideP h2; clear h2)
  go_end0
  exact ⟨rfl, H2.out⟩
theorem mv2 (w0 : World) (b : Nat) (pv : Value) (M : Mach) (D : List Frm) (x : Frm) (r : List Val) (v : Val) (A : Int) (w : World) (h : Doer w0 w b pv M) (hF : M.frames = D ++ [x]) (hD : D.length ≤ 100) (hl : x.stk.length ≤ 90) (hs : x.stk = r ++ [v]) : Calls Tryz.prog 145 #[.pointer (some ⟨b, 0, none⟩), .agg #[.int .i64 2, .int .i64 A]] w fun e w' => e = .returned (.tuple #[]) ∧ Doer w0 w' b pv { M with frames := D ++ [{ x with stk := r }] } := by
  have H1 := hideP (h.below (boxOp w (.cells #[.int .i64 2, .int .i64 A] 86)))
  have hrl := xbgZ hs
  clear h
  go_enter Tryz.func145, Tryz.ntmps145
  go_wp2_with (go_at_call 186; refine (xawZ w0 b pv M D x r v _ H1.out hF hs hD (by omega)).mono ?_; rintro e w2 ⟨rfl, h2, o2⟩; have H2 := hideP h2; have O2 := hideP o2; clear h2 o2)
  go_end0
  exact ⟨rfl, H2.out⟩
theorem mv3 (w0 : World) (b : Nat) (pv : Value) (M : Mach) (D : List Frm) (x : Frm) (r : List Val) (v : Val) (A : Int) (w : World) (h : Doer w0 w b pv M) (hF : M.frames = D ++ [x]) (hD : D.length ≤ 100) (hl : x.stk.length ≤ 90) (hs : x.stk = r ++ [v]) : Calls Tryz.prog 145 #[.pointer (some ⟨b, 0, none⟩), .agg #[.int .i64 3, .int .i64 A]] w fun e w' => e = .returned (.tuple #[]) ∧ Doer w0 w' b pv { M with frames := D ++ [{ x with stk := r ++ [v, v] }] } := by
  have H1 := hideP (h.below (boxOp w (.cells #[.int .i64 3, .int .i64 A] 86)))
  have hrl := xbgZ hs
  clear h
  go_enter Tryz.func145, Tryz.ntmps145
  go_wp2_with (first
    | (go_at_call 186; refine (xawZ w0 b pv M D x r v _ H1.out hF hs hD (by omega)).mono ?_; rintro e w2 ⟨rfl, h2, o2⟩; have H2 := hideP h2; have O2 := hideP o2; clear h2 o2)
    | fail)
  refine (xe7Z w0 b pv _ D _ _ [v, v] _ (H2.out.below (((Below.refl _ w2).alloc (Nat.le_refl _) _).alloc (by simp) _)) rfl (xgfZ (xa1Z w2 _ _) rfl (by unfold maxLen; simp)) (xavZ _ _ _) hD (by simp; omega) (by simp)).mono ?_
  rintro e w3 ⟨rfl, h3, -, -⟩
  have H3 := hideP h3
  clear h3
  go_wp2
  go_end0
  exact ⟨rfl, H3.out⟩
theorem mv4 (w0 : World) (b : Nat) (pv : Value) (M : Mach) (D : List Frm) (x : Frm) (r : List Val) (a v : Val) (A : Int) (w : World) (h : Doer w0 w b pv M) (hF : M.frames = D ++ [x]) (hD : D.length ≤ 100) (hl : x.stk.length ≤ 90) (hs : x.stk = r ++ [a, v]) : Calls Tryz.prog 145 #[.pointer (some ⟨b, 0, none⟩), .agg #[.int .i64 4, .int .i64 A]] w fun e w' => e = .returned (.tuple #[]) ∧ Doer w0 w' b pv { M with frames := D ++ [{ x with stk := r ++ [v, a] }] } := by
  have H1 := hideP (h.below (boxOp w (.cells #[.int .i64 4, .int .i64 A] 86)))
  have hs1 : x.stk = (r ++ [a]) ++ [v] := by rw [hs]; simp
  have hrl := xbgZ hs1
  simp at hrl
  clear h hs
  go_enter Tryz.func145, Tryz.ntmps145
  go_wp2_with (first
    | (go_at_call 186; refine (xawZ w0 b pv M D x (r ++ [a]) v _ H1.out hF hs1 hD (by simp; omega)).mono ?_; rintro e w2 ⟨rfl, h2, o2⟩; have H2 := hideP h2; have O2 := hideP o2; clear h2 o2)
    | (go_at_call 186; refine (xawZ w0 b pv _ D _ r a _ H2.out rfl rfl hD (by omega)).mono ?_; rintro e w3 ⟨rfl, h3, o3⟩; have H3 := hideP h3; have O3 := hideP o3; clear h3 o3)
    | fail)
  refine (xe7Z w0 b pv _ D _ _ [v, a] _ (H3.out.below ((((Below.refl _ w3).alloc (Nat.le_refl _) _).alloc (by simp) _).alloc (by simp; omega) _)) rfl (xgfZ (new3 w3 _ _ _) rfl (by unfold maxLen; simp)) (xavZ _ _ _) hD (by simp; omega) (by simp)).mono ?_
  rintro e w4 ⟨rfl, h4, -, -⟩
  have H4 := hideP h4
  clear h4
  go_wp2
  go_end0
  exact ⟨rfl, H4.out⟩
theorem reck1_any (a t : Int) (w : World) : Calls Tryz.prog 189 #[.int .i64 a, .int .i64 t] w fun e w' => e = .returned (.int .i64 (wrap64 (a + t))) ∧ w' = w := by
  go_enter Tryz.func189, Tryz.ntmps189
  go_wp2
  go_ret
  exact ⟨rfl, rfl⟩
theorem reck2_any (a t : Int) (w : World) : Calls Tryz.prog 190 #[.int .i64 a, .int .i64 t] w fun e w' => e = .returned (.int .i64 (wrap64 (a - t))) ∧ w' = w := by
  go_enter Tryz.func190, Tryz.ntmps190
  go_wp2
  go_ret
  exact ⟨rfl, rfl⟩
theorem reck3_any (a t : Int) (w : World) : Calls Tryz.prog 191 #[.int .i64 a, .int .i64 t] w fun e w' => e = .returned (.int .i64 (wrap64 (a * t))) ∧ w' = w := by
  go_enter Tryz.func191, Tryz.ntmps191
  go_wp2
  go_ret
  exact ⟨rfl, rfl⟩
theorem wrap32_64 (n : Int) : wrap32 (wrap64 n) = wrap32 n := by unfold wrap64 wrap32; omega
theorem xgxZ (w0 : World) (b : Nat) (pv : Value) (M : Mach) (D : List Frm) (x : Frm) (r : List Val) (a v : Val) (F : Nat) (k : Int → Int → Int) (w : World) (h : Doer w0 w b pv M) (hF : M.frames = D ++ [x]) (hD : D.length ≤ 100) (hl : x.stk.length ≤ 90) (hs : x.stk = r ++ [a, v]) (hE : Ent F) (hk : ∀ (a t : Int) (w : World), Calls Tryz.prog F #[.int .i64 a, .int .i64 t] w fun e w' => e = .returned (.int .i64 (wrap64 (k a t))) ∧ w' = w) : Calls Tryz.prog 188 #[.pointer (some ⟨b, 0, none⟩), .func (.func F) #[] #[]] w fun e w' => e = .returned (.tuple #[]) ∧ Doer w0 w' b pv { M with frames := D ++ [{ x with stk := r ++ [(false, wrap32 (k a.2 v.2))] }] } := by
  have hs1 : x.stk = (r ++ [a]) ++ [v] := by rw [hs]; simp
  have hrl := xbgZ hs1
  simp at hrl
  have H1 := hideP h
  have HK := hideP hk
  have hen := fun args W => hE args W
  have hfd := xcmZ
  clear h hs hk hE
  go_enter Tryz.func188, Tryz.ntmps188
  go_wp2_with (first
    | (go_at_call 186; refine (xawZ w0 b pv M D x (r ++ [a]) v _ H1.out hF hs1 hD (by simp; omega)).mono ?_; rintro e w2 ⟨rfl, h2, o2⟩; have H2 := hideP h2; have O2 := hideP o2; clear h2 o2)
    | (go_at_call 186; refine (xawZ w0 b pv _ D _ r a _ H2.out rfl rfl hD (by omega)).mono ?_; rintro e w3 ⟨rfl, h3, o3⟩; have H3 := hideP h3; have O3 := hideP o3; clear h3 o3)
    | fail)
  refine (HK.out _ _ _).mono ?_
  rintro e w4 ⟨rfl, hw4⟩
  have hw4 := hw4.symm
  subst hw4
  go_wp2_with (first
    | (go_at_call 41; refine (xdrZ _ _).mono ?_; rintro e w4 ⟨rfl, hw4⟩; have hw4 := hw4.symm; subst hw4)
    | (go_at_call 184; refine (xbtZ w0 b pv _ D _ _ _ H3.out rfl hD (by simp; omega)).mono ?_; rintro e w5 ⟨rfl, h5, -⟩; have H5 := hideP h5; clear h5))
  go_end0
  rw [wrap32_64] at H5
  exact ⟨rfl, H5.out⟩
theorem two_cell {w : World} {R i : Nat} {a c v : Value} {p : Addr} (h : w.cell? p = some v) (hn : ¬ p.block = R) : ((w.setCell ⟨R, i, none⟩ a).setCell ⟨R, i + 1, none⟩ c).cell? p = some v := by
  have key : ∀ (W : World) (j : Nat) (u : Value), W.cell? p = some v → (W.setCell ⟨R, j, none⟩ u).cell? p = some v := fun W j u h => (World.cell?_of_block (Below.heap_setCell W _ u p.block hn)).trans h
  exact key _ _ _ (key _ _ _ h)
theorem xcdZ {w : World} {R i : Nat} {a v : Value} {p : Addr} (h : w.cell? p = some v) (hn : ¬ p.block = R) : (w.setCell ⟨R, i, none⟩ a).cell? p = some v := (World.cell?_of_block (Below.heap_setCell w _ a p.block hn)).trans h
theorem DIn.one {w0 W : World} {b : Nat} {pv : Value} {M : Mach} {D : List Frm} {x : Frm} {g cap : Nat} {bv iv ov : Value} {q : List FV} {c : FV} {qb : List Value} (h : DIn w0 W b pv M D x g cap bv iv ov q c qb) {g' cap' n : Nat} (hc : W.cell? ⟨b, 0, none⟩ = some (.slice (some ⟨g', 0, none⟩) n cap')) : g = g' := by
  rw [h.fcell] at hc
  cases hc; rfl
theorem mv8 (w0 : World) (b : Nat) (pv : Value) (M : Mach) (D : List Frm) (x : Frm) (k : Nat) (v0 : Val) (w : World) (h : Doer w0 w b pv M) (hF : M.frames = D ++ [x]) (hD : D.length ≤ 100) (hl : x.stk.length ≤ 90) (hv : x.loc[k]? = some v0) : Calls Tryz.prog 145 #[.pointer (some ⟨b, 0, none⟩), .agg #[.int .i64 8, .int .i64 k]] w fun e w' => e = .returned (.tuple #[]) ∧ Doer w0 w' b pv { M with frames := D ++ [{ x with stk := x.stk ++ [v0] }] } := by
  obtain ⟨g, cap, bv, iv, ov, q, c, qb, H0⟩ := h.open hF
  obtain ⟨W1, hW1⟩ : ∃ W1, w.alloc (.cells #[.int .i64 8, .int .i64 (k : Int)] 86) = W1 := ⟨_, rfl⟩
  have b1 : Below w.heap.size w W1 := by rw [← hW1]; exact (Below.refl _ w).alloc (Nat.le_refl _) _
  have x1 : W1.heap[w.heap.size]? = some (.cells #[.int .i64 8, .int .i64 (k : Int)] 86 (0, 0)) := by rw [← hW1]; exact World.alloc_heap_new w _
  have lx := xacZ x1
  have e0 : W1.cell? ⟨w.heap.size, 0, none⟩ = some (.int .i64 8) := xaaZ x1 0
  have e1 : W1.cell? ⟨w.heap.size, 1, none⟩ = some (.int .i64 (k : Int)) := xaaZ x1 1
  have H1 := H0.below b1
  have hgl : g < w.heap.size := by obtain ⟨cur, hg⟩ := H0.gb; exact xacZ hg
  have hgne : ¬ w.heap.size = g := by omega
  have HI : Hid (∀ W, Below W1.heap.size W1 W → Calls Tryz.prog 144 #[.pointer (some ⟨b, 0, none⟩)] W fun e w' => e = .returned (.pointer (some ⟨g, D.length * 4, none⟩)) ∧ Below W.heap.size W w') := fun W hW => xamZ b g D.length cap W (H1.below hW).fcell hD
  obtain ⟨pl, cl, hlv⟩ := xaiZ H1.loc
  obtain ⟨pl', cl', hlv', -, hlc⟩ := xb8Z H1.loc
  rw [hlv] at hlv'
  cases hlv'
  obtain ⟨gl, ol, hpl, hgll, l0, l1⟩ := hlc k v0 hv
  subst hpl
  have hol : ol = 0 := by
    rcases H1.loc.2 with ⟨h1, _⟩ | ⟨g', cap', cur', h1, _⟩
    · rw [hlv] at h1; cases h1
    · rw [hlv] at h1; cases h1; rfl
  subst hol
  simp only [Nat.zero_add] at l0 l1
  have hkl := xadZ hv
  have hkli : (k : Int) < (x.loc.length : Int) := by omega
  have hll := (H0.loc.lt gl (by rw [hlv]; rfl)).2
  have f2 := H1.c2
  rw [hlv] at f2
  have hgg : ¬ g = gl := fun e => by
    obtain ⟨cur, hg⟩ := H1.gb
    have := xcnZ H1.loc gl (by rw [hlv]; rfl)
    obtain ⟨cs, fz, hh⟩ := this
    rw [← e, hg] at hh
    simp at hh
  have HLV := hideP hlv
  have HX1 := hideP x1
  have HH1 := hideP H1
  have HV := hideP hv
  clear h x1 H0 H1 hlc hv hlv
  go_enter Tryz.func145, Tryz.ntmps145
  go_wp2_with fail
  go_region_held3 (fun W => W.cell? ⟨w.heap.size, 1, none⟩ = some (.int .i64 (k : Int)) ∧ W.cell? ⟨g, D.length * 4 + 2, none⟩ = some (.slice (some ⟨gl, 0, none⟩) x.loc.length cl) ∧ W.cell? ⟨gl, k * 2, none⟩ = some (.bool v0.1) ∧ W.cell? ⟨gl, k * 2 + 1, none⟩ = some (.int .i64 v0.2)) (go_keep)
    (first
      | (go_at_call 144; (with_reducible refine (HI.out _ ((Below.refl _ W1).drew)).mono ?_); rintro e w2 ⟨rfl, b2'⟩; have b2 : Below W1.heap.size W1 w2 := ((Below.refl _ W1).drew).trans b2'; have k1 := (b2.cell (p := ⟨w.heap.size, 1, none⟩) lx).trans e1; have kk := fun o => xabZ k1 o; have m0 := (b2.cell (p := ⟨gl, k * 2, none⟩) hgll).trans l0; have m1 := (b2.cell (p := ⟨gl, k * 2 + 1, none⟩) hgll).trans l1; have m2 := (b2.cell (p := ⟨g, D.length * 4 + 2, none⟩) (by have := b1.size; show g < W1.heap.size; omega)).trans f2; have mm0 := fun o => xabZ m0 o; have mm1 := fun o => xabZ m1 o; have mm2 := fun o => xabZ m2 o)
      | (go_at_call 187; (refine (xe7Z w0 b pv M D x _ [v0] _ ((HH1.out.below b2).doer.below ((Below.refl _ w2).alloc (Nat.le_refl _) _)) hF (xgfZ (World.alloc_heap_new w2 _) rfl (by unfold maxLen; simp)) (xavZ _ _ _) hD (by omega) (by simp)).mono ?_); rintro e w3 ⟨rfl, h3, o3, s3⟩; obtain ⟨sg, sj⟩ := s3 _ _ _ _ ((HH1.out.below b2).below ((Below.refl _ w2).alloc (Nat.le_refl _) _)).fcell ((HH1.out.below b2).below ((Below.refl _ w2).alloc (Nat.le_refl _) _)).c3; have n2 := (sj (D.length * 4 + 2) (by omega)).trans (xabZ m2 _); have nb := sg gl (by have := b2.size; simp; omega) (fun e => hgg e.symm) ((HH1.out.below b2).ap (by rw [HLV.out]; rfl)); have n0 := (World.cell?_of_block (a := ⟨gl, k * 2, none⟩) nb).trans (xabZ m0 _); have n3 := (World.cell?_of_block (a := ⟨gl, k * 2 + 1, none⟩) nb).trans (xabZ m1 _); have n1 : w3.cell? ⟨w.heap.size, 1, none⟩ = some (.int .i64 (k : Int)) := xaaZ (o3 _ _ _ _ (xalZ ((b2.block _ lx).trans HX1.out) _) (by decide) (by decide)) 1; have H3 := hideP h3; clear h3 o3 s3 sg sj nb))
  go_wp2
  go_end0
  exact ⟨rfl, H3.out⟩
theorem mv9 (w0 : World) (b : Nat) (pv : Value) (M : Mach) (D : List Frm) (x : Frm) (k : Nat) (v0 v : Val) (r : List Val) (w : World) (h : Doer w0 w b pv M) (hF : M.frames = D ++ [x]) (hD : D.length ≤ 100) (hl : x.stk.length ≤ 90) (hv : x.loc[k]? = some v0) (hs : x.stk = r ++ [v]) : Calls Tryz.prog 145 #[.pointer (some ⟨b, 0, none⟩), .agg #[.int .i64 9, .int .i64 k]] w fun e w' => e = .returned (.tuple #[]) ∧ Doer w0 w' b pv { M with frames := D ++ [{ x with loc := x.loc.set k v, stk := r }] } := by
  obtain ⟨g, cap, bv, iv, ov, q, c, qb, H0⟩ := h.open hF
  obtain ⟨W1, hW1⟩ : ∃ W1, w.alloc (.cells #[.int .i64 9, .int .i64 (k : Int)] 86) = W1 := ⟨_, rfl⟩
  have b1 : Below w.heap.size w W1 := by rw [← hW1]; exact (Below.refl _ w).alloc (Nat.le_refl _) _
  have x1 : W1.heap[w.heap.size]? = some (.cells #[.int .i64 9, .int .i64 (k : Int)] 86 (0, 0)) := by rw [← hW1]; exact World.alloc_heap_new w _
  have lx := xacZ x1
  have e0 : W1.cell? ⟨w.heap.size, 0, none⟩ = some (.int .i64 9) := xaaZ x1 0
  have e1 : W1.cell? ⟨w.heap.size, 1, none⟩ = some (.int .i64 (k : Int)) := xaaZ x1 1
  have H1 := H0.below b1
  have hgl : g < w.heap.size := by obtain ⟨cur, hg⟩ := H0.gb; exact xacZ hg
  have hgne : ¬ w.heap.size = g := by omega
  have HI : Hid (∀ W, Below W1.heap.size W1 W → Calls Tryz.prog 144 #[.pointer (some ⟨b, 0, none⟩)] W fun e w' => e = .returned (.pointer (some ⟨g, D.length * 4, none⟩)) ∧ Below W.heap.size W w') := fun W hW => xamZ b g D.length cap W (H1.below hW).fcell hD
  obtain ⟨pl, cl, hlv⟩ := xaiZ H1.loc
  obtain ⟨pl', cl', hlv', -, hlc⟩ := xb8Z H1.loc
  rw [hlv] at hlv'
  cases hlv'
  obtain ⟨gl, ol, hpl, hgll, l0, l1⟩ := hlc k v0 hv
  subst hpl
  have hol : ol = 0 := by
    rcases H1.loc.2 with ⟨h1, _⟩ | ⟨g', cap', cur', h1, _⟩
    · rw [hlv] at h1; cases h1
    · rw [hlv] at h1; cases h1; rfl
  subst hol
  simp only [Nat.zero_add] at l0 l1
  have hkl := xadZ hv
  have hkli : (k : Int) < (x.loc.length : Int) := by omega
  have hll := (H0.loc.lt gl (by rw [hlv]; rfl)).2
  have f2 := H1.c2
  rw [hlv] at f2
  have hrl := xbgZ hs
  have hgg : ¬ g = gl := fun e => by
    obtain ⟨cur, hg⟩ := H1.gb
    have := xcnZ H1.loc gl (by rw [hlv]; rfl)
    obtain ⟨cs, fz, hh⟩ := this
    rw [← e, hg] at hh
    simp at hh
  have hlg : ¬ w.heap.size = gl := by omega
  have HX1 := hideP x1
  have HH1 := hideP H1
  have HV := hideP hv
  have HLV := hideP hlv
  clear h x1 H0 H1 hlc hv hlv
  go_enter Tryz.func145, Tryz.ntmps145
  go_wp2_with fail
  go_region_held3 (fun W => W.cell? ⟨w.heap.size, 1, none⟩ = some (.int .i64 (k : Int)) ∧ W.cell? ⟨g, D.length * 4 + 2, none⟩ = some (.slice (some ⟨gl, 0, none⟩) x.loc.length cl)) (first | go_keep | exact ⟨two_cell n1 hlg, two_cell n2 hgg⟩)
    (first
      | (go_at_call 144; (with_reducible refine (HI.out _ ((Below.refl _ W1).drew)).mono ?_); rintro e w2 ⟨rfl, b2'⟩; have b2 : Below W1.heap.size W1 w2 := ((Below.refl _ W1).drew).trans b2'; have k1 := (b2.cell (p := ⟨w.heap.size, 1, none⟩) lx).trans e1; have m0 := (b2.cell (p := ⟨gl, k * 2, none⟩) hgll).trans l0; have m1 := (b2.cell (p := ⟨gl, k * 2 + 1, none⟩) hgll).trans l1; have m2 := (b2.cell (p := ⟨g, D.length * 4 + 2, none⟩) (by have := b1.size; show g < W1.heap.size; omega)).trans f2)
      | (go_at_call 186; (refine (xawZ w0 b pv M D x r v _ (HH1.out.below b2).doer hF hs hD (by omega)).mono ?_); rintro e w3 ⟨rfl, h3, o3⟩; obtain ⟨og, oj⟩ := o3 _ _ _ (HH1.out.below b2).fcell; have n1 := og.cell k1 (by simpa using hgne); have n2 := (oj (D.length * 4 + 2) (by omega)).trans m2; have n0 := og.cell m0 (by simpa using fun e => hgg e.symm); have n3 := og.cell m1 (by simpa using fun e => hgg e.symm); have zz : ∀ j, w3.frozen? ⟨gl, j, none⟩ = false := (fun j => by obtain ⟨cs, hh⟩ := xdnZ (g := gl) (HH1.out.below b2).loc (by rw [HLV.out]; rfl); exact Lib.frozen_of_heap ((og.block gl (xacZ hh) (fun e => hgg (by simpa using e.symm))).trans hh) j); have z0 := zz (k * 2); have z1 := zz (k * 2 + 1); have H3 := hideP h3; have OG := hideP og; have OJ := hideP oj; clear h3 o3 og oj zz))
  go_wp2
  go_end0
  obtain ⟨g', cap', bv', iv', ov', q', c', qb', H3'⟩ := H3.out.open rfl
  have hb0 := OG.out.cell (HH1.out.below b2).fcell (fun e => (HH1.out.below b2).gne (by simpa using e))
  have hgg' := H3'.one hb0
  subst hgg'
  have hlv' : c'.lv = .slice (some ⟨gl, 0, none⟩) x.loc.length cl := by have := H3'.c2; rw [n2] at this; exact (Option.some.inj this).symm
  have hrow := H3'.loc
  simp only at hrow
  rw [hlv'] at hrow
  have hrow2 := xbpZ (xbpZ hrow (k * 2) (.bool v.1)) (k * 2 + 1) (.int .i64 v.2)
  rw [xipZ] at hrow2
  refine ⟨rfl, H3'.setLoc ?_ ?_⟩
  · rw [hlv']
    exact (xakZ w3 ⟨gl, k * 2, none⟩ (.bool v.1)).trans (xakZ _ ⟨gl, k * 2 + 1, none⟩ (.int .i64 v.2))
  · rw [hlv', List.length_set]
    exact hrow2
theorem go10 (w0 : World) (b : Nat) (pv : Value) (M : Mach) (D : List Frm) (x : Frm) (A : Int) (w : World) (h : Doer w0 w b pv M) (hF : M.frames = D ++ [x]) (hD : D.length ≤ 100) (hl : x.stk.length ≤ 90)  : Calls Tryz.prog 147 #[.pointer (some ⟨b, 0, none⟩), .agg #[.int .i64 10, .int .i64 A]] w fun e w' => e = .returned (.tuple #[]) ∧ Doer w0 w' b pv { M with frames := D ++ [{ x with pc := A }] } := by
  obtain ⟨g, cap, bv, iv, ov, q, c, qb, H0⟩ := h.open hF
  obtain ⟨W1, hW1⟩ : ∃ W1, w.alloc (.cells #[.int .i64 10, .int .i64 A] 86) = W1 := ⟨_, rfl⟩
  have b1 : Below w.heap.size w W1 := by rw [← hW1]; exact (Below.refl _ w).alloc (Nat.le_refl _) _
  have x1 : W1.heap[w.heap.size]? = some (.cells #[.int .i64 10, .int .i64 A] 86 (0, 0)) := by rw [← hW1]; exact World.alloc_heap_new w _
  have lx := xacZ x1
  have e0 : W1.cell? ⟨w.heap.size, 0, none⟩ = some (.int .i64 10) := xaaZ x1 0
  have e1 : W1.cell? ⟨w.heap.size, 1, none⟩ = some (.int .i64 A) := xaaZ x1 1
  have H1 := H0.below b1
  have hgl : g < w.heap.size := by obtain ⟨cur, hg⟩ := H0.gb; exact xacZ hg
  have hgne : ¬ w.heap.size = g := by omega
  have HI : Hid (∀ W, Below W1.heap.size W1 W → Calls Tryz.prog 144 #[.pointer (some ⟨b, 0, none⟩)] W fun e w' => e = .returned (.pointer (some ⟨g, D.length * 4, none⟩)) ∧ Below W.heap.size W w') := fun W hW => xamZ b g D.length cap W (H1.below hW).fcell hD
  have HH1 := hideP H1
  clear h x1 H0 H1
  go_enter Tryz.func147, Tryz.ntmps147
  go_wp2_with fail
  go_region_held3 (fun W => W.cell? ⟨w.heap.size, 1, none⟩ = some (.int .i64 A)) (first | go_keep | exact xcdZ k1 hgne)
    (first
      | (go_at_call 144; (with_reducible refine (HI.out _ ((Below.refl _ W1).drew)).mono ?_); rintro e w2 ⟨rfl, b2'⟩; have b2 : Below W1.heap.size W1 w2 := ((Below.refl _ W1).drew).trans b2'; have k1 := (b2.cell (p := ⟨w.heap.size, 1, none⟩) lx).trans e1; have H2 := HH1.out.below b2; have m1 := H2.c1; have z1 : w2.frozen? ⟨g, D.length * 4 + 1, none⟩ = false := (by obtain ⟨cur, hh⟩ := H2.gb; exact Lib.frozen_of_heap hh _); have HH2 := hideP H2; clear H2))
  go_wp2
  go_end0
  exact ⟨rfl, HH2.out.setPc A⟩
theorem go11z (w0 : World) (b : Nat) (pv : Value) (M : Mach) (D : List Frm) (x : Frm) (A : Int) (r : List Val) (v : Val) (w : World) (h : Doer w0 w b pv M) (hF : M.frames = D ++ [x]) (hD : D.length ≤ 100) (hl : x.stk.length ≤ 90) (hs : x.stk = r ++ [v]) (hz : v.2 = 0) : Calls Tryz.prog 147 #[.pointer (some ⟨b, 0, none⟩), .agg #[.int .i64 11, .int .i64 A]] w fun e w' => e = .returned (.tuple #[]) ∧ Doer w0 w' b pv { M with frames := D ++ [{ x with pc := A, stk := r }] } := by
  obtain ⟨g, cap, bv, iv, ov, q, c, qb, H0⟩ := h.open hF
  obtain ⟨W1, hW1⟩ : ∃ W1, w.alloc (.cells #[.int .i64 11, .int .i64 A] 86) = W1 := ⟨_, rfl⟩
  have b1 : Below w.heap.size w W1 := by rw [← hW1]; exact (Below.refl _ w).alloc (Nat.le_refl _) _
  have x1 : W1.heap[w.heap.size]? = some (.cells #[.int .i64 11, .int .i64 A] 86 (0, 0)) := by rw [← hW1]; exact World.alloc_heap_new w _
  have lx := xacZ x1
  have e0 : W1.cell? ⟨w.heap.size, 0, none⟩ = some (.int .i64 11) := xaaZ x1 0
  have e1 : W1.cell? ⟨w.heap.size, 1, none⟩ = some (.int .i64 A) := xaaZ x1 1
  have H1 := H0.below b1
  have hgl : g < w.heap.size := by obtain ⟨cur, hg⟩ := H0.gb; exact xacZ hg
  have hgne : ¬ w.heap.size = g := by omega
  have HI : Hid (∀ W, Below W1.heap.size W1 W → Calls Tryz.prog 144 #[.pointer (some ⟨b, 0, none⟩)] W fun e w' => e = .returned (.pointer (some ⟨g, D.length * 4, none⟩)) ∧ Below W.heap.size W w') := fun W hW => xamZ b g D.length cap W (H1.below hW).fcell hD
  have hrl := xbgZ hs
  have hfd := xcmZ
  have hz' : (v.2 == 0) = true := by simp [hz]
  have HH1 := hideP H1
  clear h x1 H0 H1 HI hz
  go_enter Tryz.func147, Tryz.ntmps147
  go_wp2_with (first
    | (go_at_call 186; (refine (xawZ w0 b pv M D x r v _ HH1.out.doer hF hs hD (by omega)).mono ?_); rintro e wt ⟨rfl, ht, ot⟩; obtain ⟨og, oj⟩ := ot _ _ _ HH1.out.fcell; have et := og.cell e1 (by simpa using hgne); have bt := og.cell HH1.out.fcell (fun e => HH1.out.gne (by simpa using e)); have HT := hideP ht; have lt : w.heap.size < wt.heap.size := Nat.lt_of_lt_of_le lx og.size; clear ht ot oj og)
    | fail)
  obtain ⟨g', cap', bv', iv', ov', q', c', qb', HT'⟩ := HT.out.open rfl
  have hgg' := HT'.one bt
  subst hgg'
  have HI : Hid (∀ W, Below wt.heap.size wt W → Calls Tryz.prog 144 #[.pointer (some ⟨b, 0, none⟩)] W fun e w' => e = .returned (.pointer (some ⟨g', D.length * 4, none⟩)) ∧ Below W.heap.size W w') := fun W hW => xamZ b g' D.length cap' W (HT'.below hW).fcell hD
  have HHT := hideP HT'
  clear HT'
  go_region_held3 (fun W => W.cell? ⟨w.heap.size, 1, none⟩ = some (.int .i64 A)) (first | go_keep | exact xcdZ k1 hgne)
    (first
      | (go_at_call 144; (with_reducible refine (HI.out _ ((Below.refl _ wt).drew)).mono ?_); rintro e w2 ⟨rfl, b2'⟩; have b2 : Below wt.heap.size wt w2 := ((Below.refl _ wt).drew).trans b2'; have k1 := (b2.cell (p := ⟨w.heap.size, 1, none⟩) lt).trans et; have H2 := HHT.out.below b2; have m1 := H2.c1; have z1 : w2.frozen? ⟨g', D.length * 4 + 1, none⟩ = false := (by obtain ⟨cur, hh⟩ := H2.gb; exact Lib.frozen_of_heap hh _); have HH2 := hideP H2; clear H2))
  go_wp2
  go_end0
  exact ⟨rfl, HH2.out.setPc A⟩
theorem go11n (w0 : World) (b : Nat) (pv : Value) (M : Mach) (D : List Frm) (x : Frm) (A : Int) (r : List Val) (v : Val) (w : World) (h : Doer w0 w b pv M) (hF : M.frames = D ++ [x]) (hD : D.length ≤ 100) (hl : x.stk.length ≤ 90) (hs : x.stk = r ++ [v]) (hz : v.2 ≠ 0) : Calls Tryz.prog 147 #[.pointer (some ⟨b, 0, none⟩), .agg #[.int .i64 11, .int .i64 A]] w fun e w' => e = .returned (.tuple #[]) ∧ Doer w0 w' b pv { M with frames := D ++ [{ x with stk := r }] } := by
  obtain ⟨g, cap, bv, iv, ov, q, c, qb, H0⟩ := h.open hF
  obtain ⟨W1, hW1⟩ : ∃ W1, w.alloc (.cells #[.int .i64 11, .int .i64 A] 86) = W1 := ⟨_, rfl⟩
  have b1 : Below w.heap.size w W1 := by rw [← hW1]; exact (Below.refl _ w).alloc (Nat.le_refl _) _
  have x1 : W1.heap[w.heap.size]? = some (.cells #[.int .i64 11, .int .i64 A] 86 (0, 0)) := by rw [← hW1]; exact World.alloc_heap_new w _
  have lx := xacZ x1
  have e0 : W1.cell? ⟨w.heap.size, 0, none⟩ = some (.int .i64 11) := xaaZ x1 0
  have e1 : W1.cell? ⟨w.heap.size, 1, none⟩ = some (.int .i64 A) := xaaZ x1 1
  have H1 := H0.below b1
  have hgl : g < w.heap.size := by obtain ⟨cur, hg⟩ := H0.gb; exact xacZ hg
  have hgne : ¬ w.heap.size = g := by omega
  have HI : Hid (∀ W, Below W1.heap.size W1 W → Calls Tryz.prog 144 #[.pointer (some ⟨b, 0, none⟩)] W fun e w' => e = .returned (.pointer (some ⟨g, D.length * 4, none⟩)) ∧ Below W.heap.size W w') := fun W hW => xamZ b g D.length cap W (H1.below hW).fcell hD
  have hrl := xbgZ hs
  have hfd := xcmZ
  have hz' : (v.2 == 0) = false := by simp [hz]
  have HH1 := hideP H1
  clear h x1 H0 H1 HI hz
  go_enter Tryz.func147, Tryz.ntmps147
  go_wp2_with (first
    | (go_at_call 186; (refine (xawZ w0 b pv M D x r v _ HH1.out.doer hF hs hD (by omega)).mono ?_); rintro e wt ⟨rfl, ht, ot⟩; have HT := hideP ht; clear ht ot))
  go_end0
  exact ⟨rfl, HT.out⟩
theorem rk5 (w0 : World) (b : Nat) (pv : Value) (M : Mach) (D : List Frm) (x : Frm) (r : List Val) (a v : Val) (w : World) (h : Doer w0 w b pv M) (hF : M.frames = D ++ [x]) (hD : D.length ≤ 100) (hl : x.stk.length ≤ 90) (hs : x.stk = r ++ [a, v]) : Calls Tryz.prog 146 #[.pointer (some ⟨b, 0, none⟩), .int .i64 5] w fun e w' => e = .returned (.tuple #[]) ∧ Doer w0 w' b pv { M with frames := D ++ [{ x with stk := r ++ [(false, wrap32 (a.2 + v.2))] }] } := by
  have HC := hideP (xgxZ w0 b pv M D x r a v 189 (fun a t => a + t) w h hF hD hl hs (xchZ Tryz.func189 (by kernel_rfl) rfl) reck1_any)
  clear h
  go_enter Tryz.func146, Tryz.ntmps146
  go_wp2_with (go_at_call 188; refine HC.out.mono ?_; rintro e w2 ⟨rfl, h2⟩; have H2 := hideP h2; clear h2)
  go_end0
  exact ⟨rfl, H2.out⟩
theorem rk6 (w0 : World) (b : Nat) (pv : Value) (M : Mach) (D : List Frm) (x : Frm) (r : List Val) (a v : Val) (w : World) (h : Doer w0 w b pv M) (hF : M.frames = D ++ [x]) (hD : D.length ≤ 100) (hl : x.stk.length ≤ 90) (hs : x.stk = r ++ [a, v]) : Calls Tryz.prog 146 #[.pointer (some ⟨b, 0, none⟩), .int .i64 6] w fun e w' => e = .returned (.tuple #[]) ∧ Doer w0 w' b pv { M with frames := D ++ [{ x with stk := r ++ [(false, wrap32 (a.2 - v.2))] }] } := by
  have HC := hideP (xgxZ w0 b pv M D x r a v 190 (fun a t => a - t) w h hF hD hl hs (xchZ Tryz.func190 (by kernel_rfl) rfl) reck2_any)
  clear h
  go_enter Tryz.func146, Tryz.ntmps146
  go_wp2_with (go_at_call 188; refine HC.out.mono ?_; rintro e w2 ⟨rfl, h2⟩; have H2 := hideP h2; clear h2)
  go_end0
  exact ⟨rfl, H2.out⟩
theorem rk7 (w0 : World) (b : Nat) (pv : Value) (M : Mach) (D : List Frm) (x : Frm) (r : List Val) (a v : Val) (w : World) (h : Doer w0 w b pv M) (hF : M.frames = D ++ [x]) (hD : D.length ≤ 100) (hl : x.stk.length ≤ 90) (hs : x.stk = r ++ [a, v]) : Calls Tryz.prog 146 #[.pointer (some ⟨b, 0, none⟩), .int .i64 7] w fun e w' => e = .returned (.tuple #[]) ∧ Doer w0 w' b pv { M with frames := D ++ [{ x with stk := r ++ [(false, wrap32 (a.2 * v.2))] }] } := by
  have HC := hideP (xgxZ w0 b pv M D x r a v 191 (fun a t => a * t) w h hF hD hl hs (xchZ Tryz.func191 (by kernel_rfl) rfl) reck3_any)
  clear h
  go_enter Tryz.func146, Tryz.ntmps146
  go_wp2_with (go_at_call 188; refine HC.out.mono ?_; rintro e w2 ⟨rfl, h2⟩; have H2 := hideP h2; clear h2)
  go_end0
  exact ⟨rfl, H2.out⟩
end Go.Proofs.YtmjjkenblfndgaaGreat


/- stride's ops: blocks, boxes, returns. -/
namespace Go.Proofs.YtmjjkenblfndgaaGreat
open Go.RowKit
set_option linter.unusedSimpArgs false
set_option linter.unusedVariables false
theorem xc2Z {W : World} {B : Nat} {u : Value} {L : List (List Int)} (h : xdwZ W B u L) : ∃ p n cap, u = .slice p n cap := by
  obtain ⟨qq, h1, -⟩ := h
  obtain ⟨p, c, h2⟩ := xaiZ h1
  exact ⟨p, _, c, h2⟩
theorem DAt.cells {w0 W : World} {b : Nat} {pv fv bv iv ov : Value} {q : List FV} {qb : List Value} {M : Mach} (h : DAt w0 W b pv fv bv iv ov q qb M) : W.cell? ⟨b, 0, none⟩ = some fv ∧ W.cell? ⟨b, 1, none⟩ = some bv ∧ W.cell? ⟨b, 2, none⟩ = some iv ∧ W.cell? ⟨b, 3, none⟩ = some ov ∧ W.cell? ⟨b, 4, none⟩ = some (.int .i64 M.status) ∧ W.cell? ⟨b, 5, none⟩ = some (.int .i64 M.trap) ∧ W.cell? ⟨b, 6, none⟩ = some pv := by
  refine ⟨?_, ?_, ?_, ?_, ?_, ?_, ?_⟩ <;> rw [xaaZ h.cell] <;> rfl
theorem DAt.setBl {w0 W : World} {b : Nat} {pv fv bv iv ov : Value} {q : List FV} {qb : List Value} {M : Mach} (h : DAt w0 W b pv fv bv iv ov q qb M) {W2 : World} {u : Value} {L : List (List Int)} (hb : Below W.heap.size W W2) (hu : xdwZ W2 W.heap.size u L) : Doer w0 (W2.setCell ⟨b, 1, none⟩ u) b pv { M with blocks := L } := by
  obtain ⟨qb', h1, h2⟩ := hu
  have h' := h.below hb
  have hgs := xakZ W2 ⟨b, 1, none⟩ u
  have hty : TyRow W2 (some b) 162 := xatZ h'.cell
  have hs := heap_setCell_same W2 b 1 _ _ u h'.cell
  have hlo : w0.heap.size ≤ W.heap.size := h.bel.size
  refine ⟨fv, u, iv, ov, q, qb', ⟨by simpa using hs, ⟨xasZ h'.own.fr hgs hty (by decide), h'.own.frs.keep hgs hty (by decide), xasZ (xapZ h1 hlo) hgs hty (by decide), ?_⟩, h'.bel.setCell h'.lo _, h'.lo⟩⟩
  refine BRows.keep ?_ hgs hty (by decide)
  refine ((h2.low hlo).cons (h'.own.out) (fun k y g h3 h4 h5 => ?_) (h'.own.rows.small _ (by simp))).cons (h'.own.inp) (fun k y g h3 h4 h5 => ?_) (h'.own.rows.small _ (by simp))
  · have a1 := (h.own.out.lt g h5).2
    have a2 := (h2.lt h3 h4).1
    omega
  · cases k with
    | zero =>
      simp at h3
      subst h3
      have := h'.own.rows.apart 0 1 iv ov g rfl rfl h5 h4
      omega
    | succ k =>
      have a1 := (h.own.inp.lt g h5).2
      have a2 := (h2.lt (k := k) (by simpa using h3) h4).1
      omega
theorem DAt.setSt {w0 W : World} {b : Nat} {pv fv bv iv ov : Value} {q : List FV} {qb : List Value} {M : Mach} (h : DAt w0 W b pv fv bv iv ov q qb M) (n : Int) : Doer w0 (W.setCell ⟨b, 4, none⟩ (.int .i64 n)) b pv { M with status := n } := by
  have hgs := xakZ W ⟨b, 4, none⟩ (.int .i64 n)
  have hty : TyRow W (some b) 162 := xatZ h.cell
  have hs := heap_setCell_same W b 4 _ _ (.int .i64 n) h.cell
  have hk := h.own.keep hgs hty (by decide) (by decide) (by decide) (by decide)
  exact ⟨fv, bv, iv, ov, q, qb, ⟨by simpa using hs, ⟨hk.fr, hk.frs, hk.bl, hk.rows⟩, h.bel.setCell h.lo _, h.lo⟩⟩
theorem xmqZ (n : Int) (hn : n = 0) (w : World) : Calls Tryz.prog 196 #[.int .i64 n] w fun e w' => e = .returned (.tuple #[]) ∧ w' = w := by
  subst hn
  go_enter Tryz.func196, Tryz.ntmps196
  go_wp2
  exact bodyPost_ret (results_none rfl _ _ _) rfl ⟨rfl, rfl⟩
theorem xjiZ (n : Int) (hn : n = 5) (w : World) : Calls Tryz.prog 196 #[.int .i64 n] w fun e w' => e = .panicked [{ v := .iface 159 (.int .i64 1), recovered := false }] ∧ w' = w := by
  subst hn
  go_enter Tryz.func196, Tryz.ntmps196
  go_wp2
  exact ⟨rfl, rfl, rfl⟩
theorem xjhZ (n : Int) (h0 : n ≠ 0) (h5 : n ≠ 5) (w : World) : Calls Tryz.prog 196 #[.int .i64 n] w fun e w' => e = .panicked [{ v := .iface 159 (.int .i64 2), recovered := false }] ∧ w' = w := by
  have h0' : (n == 0) = false := by simp [h0]
  have h5' : (n == 5) = false := by simp [h5]
  go_enter Tryz.func196, Tryz.ntmps196
  go_wp2
  exact ⟨rfl, rfl, rfl⟩
theorem ub19z (w0 : World) (b : Nat) (pv : Value) (M : Mach) (D : List Frm) (x : Frm) (r : List Val) (v : Val) (w : World) (h : Doer w0 w b pv M) (hF : M.frames = D ++ [x]) (hD : D.length ≤ 100) (hl : x.stk.length ≤ 90) (hs : x.stk = r ++ [v]) (hz : v.2 = 0) : Calls Tryz.prog 148 #[.pointer (some ⟨b, 0, none⟩), .int .i64 19] w fun e w' => e = .returned (.tuple #[]) ∧ Doer w0 w' b pv { M with frames := D ++ [{ x with stk := r ++ [(false, 1)] }] } := by
  have hrl := xbgZ hs
  have hfd := xcmZ
  have hz' : (v.2 == 0) = true := by simp [hz]
  have H1 := hideP h
  clear h hz
  go_enter Tryz.func148, Tryz.ntmps148
  go_wp2_with (first
    | (go_at_call 186; refine (xawZ w0 b pv M D x r v _ H1.out hF hs hD (by omega)).mono ?_; rintro e w2 ⟨rfl, h2, o2⟩; have H2 := hideP h2; have O2 := hideP o2; clear h2 o2)
    | (go_at_call 184; refine (xbtZ w0 b pv _ D _ _ _ H2.out rfl hD (by simp; omega)).mono ?_; rintro e w5 ⟨rfl, h5, -⟩; have H5 := hideP h5; clear h5))
  go_end0
  exact ⟨rfl, H5.out⟩
theorem ub19n (w0 : World) (b : Nat) (pv : Value) (M : Mach) (D : List Frm) (x : Frm) (r : List Val) (v : Val) (w : World) (h : Doer w0 w b pv M) (hF : M.frames = D ++ [x]) (hD : D.length ≤ 100) (hl : x.stk.length ≤ 90) (hs : x.stk = r ++ [v]) (hz : v.2 ≠ 0) : Calls Tryz.prog 148 #[.pointer (some ⟨b, 0, none⟩), .int .i64 19] w fun e w' => e = .returned (.tuple #[]) ∧ Doer w0 w' b pv { M with frames := D ++ [{ x with stk := r ++ [(false, 0)] }] } := by
  have hrl := xbgZ hs
  have hfd := xcmZ
  have hz' : (v.2 == 0) = false := by simp [hz]
  have H1 := hideP h
  clear h hz
  go_enter Tryz.func148, Tryz.ntmps148
  go_wp2_with (first
    | (go_at_call 186; refine (xawZ w0 b pv M D x r v _ H1.out hF hs hD (by omega)).mono ?_; rintro e w2 ⟨rfl, h2, o2⟩; have H2 := hideP h2; have O2 := hideP o2; clear h2 o2)
    | (go_at_call 184; refine (xbtZ w0 b pv _ D _ _ _ H2.out rfl hD (by simp; omega)).mono ?_; rintro e w5 ⟨rfl, h5, -⟩; have H5 := hideP h5; clear h5))
  go_end0
  exact ⟨rfl, H5.out⟩
theorem ms_trap (w0 : World) (b : Nat) (pv : Value) (M : Mach) (D : List Frm) (x : Frm) (r : List Val) (v : Val) (w : World) (h : Doer w0 w b pv M) (hF : M.frames = D ++ [x]) (hD : D.length ≤ 100) (hl : x.stk.length ≤ 90) (hs : x.stk = r ++ [v]) (hz : v.2 = 0) : Calls Tryz.prog 198 #[.pointer (some ⟨b, 0, none⟩)] w fun e w' => e = .panicked [{ v := .iface 159 (.int .i64 1), recovered := false }] ∧ Below w0.heap.size w0 w' := by
  have hrl := xbgZ hs
  have hfd := xcmZ
  have hz' : (v.2 == 0) = true := by simp [hz]
  have H1 := hideP h
  clear h hz
  go_enter Tryz.func198, Tryz.ntmps198
  go_wp2_with (first
    | (go_at_call 186; refine (xawZ w0 b pv M D x r v _ H1.out hF hs hD (by omega)).mono ?_; rintro e w2 ⟨rfl, h2, o2⟩; have H2 := hideP h2; have O2 := hideP o2; clear h2 o2))
  exact ⟨rfl, rfl, H2.out.bel⟩
theorem ms_ok (w0 : World) (b : Nat) (pv : Value) (M : Mach) (D : List Frm) (x : Frm) (r : List Val) (v : Val) (j : Nat) (bb : List Int) (w : World) (h : Doer w0 w b pv M) (hF : M.frames = D ++ [x]) (hD : D.length ≤ 100) (hl : x.stk.length ≤ 90) (hs : x.stk = r ++ [v]) (hz : v.2 = (j : Int) + 1) (hj : M.blocks[j]? = some bb) (hb8 : M.blocks.length ≤ 8) : Calls Tryz.prog 198 #[.pointer (some ⟨b, 0, none⟩)] w fun e w' => e = .returned (.tuple #[]) ∧ Doer w0 w' b pv { M with frames := D ++ [{ x with stk := r ++ [(false, (bb.length : Int))] }] } := by
  have hrl := xbgZ hs
  have hfd := xcmZ
  have hjl := xadZ hj
  have hz' : (v.2 == 0) = false := by simp [hz]; omega
  have hz2 : wrap64 (v.2 - 1) = (j : Int) := by rw [hz]; unfold wrap64; omega
  have hz3 : v.2 - 1 = (j : Int) := by omega
  have hji : (j : Int) < (M.blocks.length : Int) := by omega
  have H1 := hideP h
  have HZ := hideP hz
  clear h hz
  go_enter Tryz.func198, Tryz.ntmps198
  go_wp2_with (first
    | (go_at_call 186; refine (xawZ w0 b pv M D x r v _ H1.out hF hs hD (by omega)).mono ?_; rintro e w2 ⟨rfl, h2, -⟩; obtain ⟨fv2, bv2, iv2, ov2, q2, qb2, D2⟩ := h2; obtain ⟨pb, cb, hbv, -, hbc⟩ := xbjZ D2.own.blks; obtain ⟨gb, ob, cc, hpb, hgb, y0, ⟨pc, cc', hcc, -, -⟩, -, -⟩ := hbc j bb hj; have k1 := D2.cells.2.1; have k2 := y0; simp only at hbv; rw [hbv, hpb] at k1; rw [hcc] at k2; clear hbc hbv hpb hcc y0; have HD2 := hideP D2; clear D2)
    | (go_at_call 184; refine (xbtZ w0 b pv _ D _ _ _ ⟨_, _, _, _, _, _, HD2.out⟩ rfl hD (by simp; omega)).mono ?_; rintro e w5 ⟨rfl, h5, -⟩; have H5 := hideP h5; clear h5))
  go_end0
  exact ⟨rfl, H5.out⟩
theorem ub17t (w0 : World) (b : Nat) (pv : Value) (M : Mach) (D : List Frm) (x : Frm) (r : List Val) (v : Val) (w : World) (h : Doer w0 w b pv M) (hF : M.frames = D ++ [x]) (hD : D.length ≤ 100) (hl : x.stk.length ≤ 90) (hs : x.stk = r ++ [v]) (hz : v.2 = 0) : Calls Tryz.prog 148 #[.pointer (some ⟨b, 0, none⟩), .int .i64 17] w fun e w' => e = .panicked [{ v := .iface 159 (.int .i64 1), recovered := false }] ∧ Below w0.heap.size w0 w' := by
  have HC := hideP (ms_trap w0 b pv M D x r v w h hF hD hl hs hz)
  clear h
  go_enter Tryz.func148, Tryz.ntmps148
  go_wp2_with (go_at_call 198; refine HC.out.mono ?_; rintro e w2 ⟨rfl, h2⟩)
  exact ⟨rfl, rfl, h2⟩
theorem ub17o (w0 : World) (b : Nat) (pv : Value) (M : Mach) (D : List Frm) (x : Frm) (r : List Val) (v : Val) (j : Nat) (bb : List Int) (w : World) (h : Doer w0 w b pv M) (hF : M.frames = D ++ [x]) (hD : D.length ≤ 100) (hl : x.stk.length ≤ 90) (hs : x.stk = r ++ [v]) (hz : v.2 = (j : Int) + 1) (hj : M.blocks[j]? = some bb) (hb8 : M.blocks.length ≤ 8) : Calls Tryz.prog 148 #[.pointer (some ⟨b, 0, none⟩), .int .i64 17] w fun e w' => e = .returned (.tuple #[]) ∧ Doer w0 w' b pv { M with frames := D ++ [{ x with stk := r ++ [(false, (bb.length : Int))] }] } := by
  have HC := hideP (ms_ok w0 b pv M D x r v j bb w h hF hD hl hs hz hj hb8)
  clear h
  go_enter Tryz.func148, Tryz.ntmps148
  go_wp2_with (go_at_call 198; refine HC.out.mono ?_; rintro e w2 ⟨rfl, h2⟩; have H2 := hideP h2; clear h2)
  go_end0
  exact ⟨rfl, H2.out⟩
theorem ub15o (w0 : World) (b : Nat) (pv : Value) (M : Mach) (D : List Frm) (x : Frm) (r : List Val) (a v : Val) (w : World) (h : Doer w0 w b pv M) (hF : M.frames = D ++ [x]) (hD : D.length ≤ 100) (hl : x.stk.length ≤ 90) (hs : x.stk = r ++ [a, v]) (hr2 : -9223372036854775808 ≤ a.2 ∧ a.2 ≤ 9223372036854775807) (he : xa0Z M.blocks a.2 v.2 = 0) : Calls Tryz.prog 148 #[.pointer (some ⟨b, 0, none⟩), .int .i64 15] w fun e w' => e = .returned (.tuple #[]) ∧ Doer w0 w' b pv { M with frames := D ++ [{ x with stk := r ++ [(false, getR M.blocks a.2 v.2)] }] } := by
  have hs1 : x.stk = (r ++ [a]) ++ [v] := by rw [hs]; simp
  have hrl := xbgZ hs1
  simp at hrl
  have hfd := xcmZ
  have H1 := hideP h
  have HE := hideP he
  clear h hs he
  go_enter Tryz.func148, Tryz.ntmps148
  go_wp2_with (first
    | (go_at_call 186; refine (xawZ w0 b pv M D x (r ++ [a]) v _ H1.out hF hs1 hD (by simp; omega)).mono ?_; rintro e w2 ⟨rfl, h2, o2⟩; have H2 := hideP h2; have O2 := hideP o2; clear h2 o2)
    | (go_at_call 186; refine (xawZ w0 b pv _ D _ r a _ H2.out rfl rfl hD (by omega)).mono ?_; rintro e w3 ⟨rfl, h3, -⟩; obtain ⟨fv3, bv3, iv3, ov3, q3, qb3, D3⟩ := h3; have k1 := D3.cells.2.1; have HB := hideP (xbjZ D3.own.blks); have HD3 := hideP D3; clear D3)
    | (go_at_call 195; refine (xjkZ M.blocks a.2 v.2 hr2 _ _ HB.out).mono ?_; rintro e w4 ⟨rfl, b4⟩; have H4 := hideP (HD3.out.below b4); clear HD3 b4 k1)
    | (go_at_call 196; refine (xmqZ _ HE.out _).mono ?_; rintro e w5 ⟨rfl, hw5⟩; have hw5 := hw5.symm; subst hw5)
    | (go_at_call 184; refine (xbtZ w0 b pv _ D _ _ _ ⟨_, _, _, _, _, _, H4.out⟩ rfl hD (by simp; omega)).mono ?_; rintro e w6 ⟨rfl, h6, -⟩; have H6 := hideP h6; clear h6))
  go_end0
  exact ⟨rfl, H6.out⟩
theorem ub15n (w0 : World) (b : Nat) (pv : Value) (M : Mach) (D : List Frm) (x : Frm) (r : List Val) (a v : Val) (w : World) (h : Doer w0 w b pv M) (hF : M.frames = D ++ [x]) (hD : D.length ≤ 100) (hl : x.stk.length ≤ 90) (hs : x.stk = r ++ [a, v]) (hr2 : -9223372036854775808 ≤ a.2 ∧ a.2 ≤ 9223372036854775807) (he : xa0Z M.blocks a.2 v.2 = 5) : Calls Tryz.prog 148 #[.pointer (some ⟨b, 0, none⟩), .int .i64 15] w fun e w' => e = .panicked [{ v := .iface 159 (.int .i64 1), recovered := false }] ∧ Below w0.heap.size w0 w' := by
  have hs1 : x.stk = (r ++ [a]) ++ [v] := by rw [hs]; simp
  have hrl := xbgZ hs1
  simp at hrl
  have hfd := xcmZ
  have H1 := hideP h
  have HE := hideP he
  clear h hs he
  go_enter Tryz.func148, Tryz.ntmps148
  go_wp2_with (first
    | (go_at_call 186; refine (xawZ w0 b pv M D x (r ++ [a]) v _ H1.out hF hs1 hD (by simp; omega)).mono ?_; rintro e w2 ⟨rfl, h2, o2⟩; have H2 := hideP h2; have O2 := hideP o2; clear h2 o2)
    | (go_at_call 186; refine (xawZ w0 b pv _ D _ r a _ H2.out rfl rfl hD (by omega)).mono ?_; rintro e w3 ⟨rfl, h3, -⟩; obtain ⟨fv3, bv3, iv3, ov3, q3, qb3, D3⟩ := h3; have k1 := D3.cells.2.1; have HB := hideP (xbjZ D3.own.blks); have HD3 := hideP D3; clear D3)
    | (go_at_call 195; refine (xjkZ M.blocks a.2 v.2 hr2 _ _ HB.out).mono ?_; rintro e w4 ⟨rfl, b4⟩; have H4 := hideP (HD3.out.below b4); clear HD3 b4 k1)
    | (go_at_call 196; refine (xjiZ _ HE.out _).mono ?_; rintro e w5 ⟨rfl, hw5⟩; have hw5 := hw5.symm; subst hw5)
    | (go_at_call 184; refine (xbtZ w0 b pv _ D _ _ _ ⟨_, _, _, _, _, _, H4.out⟩ rfl hD (by simp; omega)).mono ?_; rintro e w6 ⟨rfl, h6, -⟩; have H6 := hideP h6; clear h6))
  exact ⟨rfl, rfl, H4.out.bel⟩
theorem ub15i (w0 : World) (b : Nat) (pv : Value) (M : Mach) (D : List Frm) (x : Frm) (r : List Val) (a v : Val) (w : World) (h : Doer w0 w b pv M) (hF : M.frames = D ++ [x]) (hD : D.length ≤ 100) (hl : x.stk.length ≤ 90) (hs : x.stk = r ++ [a, v]) (hr2 : -9223372036854775808 ≤ a.2 ∧ a.2 ≤ 9223372036854775807) (he : xa0Z M.blocks a.2 v.2 ≠ 0 ∧ xa0Z M.blocks a.2 v.2 ≠ 5) : Calls Tryz.prog 148 #[.pointer (some ⟨b, 0, none⟩), .int .i64 15] w fun e w' => e = .panicked [{ v := .iface 159 (.int .i64 2), recovered := false }] ∧ Below w0.heap.size w0 w' := by
  have hs1 : x.stk = (r ++ [a]) ++ [v] := by rw [hs]; simp
  have hrl := xbgZ hs1
  simp at hrl
  have hfd := xcmZ
  have H1 := hideP h
  have HE := hideP he
  clear h hs he
  go_enter Tryz.func148, Tryz.ntmps148
  go_wp2_with (first
    | (go_at_call 186; refine (xawZ w0 b pv M D x (r ++ [a]) v _ H1.out hF hs1 hD (by simp; omega)).mono ?_; rintro e w2 ⟨rfl, h2, o2⟩; have H2 := hideP h2; have O2 := hideP o2; clear h2 o2)
    | (go_at_call 186; refine (xawZ w0 b pv _ D _ r a _ H2.out rfl rfl hD (by omega)).mono ?_; rintro e w3 ⟨rfl, h3, -⟩; obtain ⟨fv3, bv3, iv3, ov3, q3, qb3, D3⟩ := h3; have k1 := D3.cells.2.1; have HB := hideP (xbjZ D3.own.blks); have HD3 := hideP D3; clear D3)
    | (go_at_call 195; refine (xjkZ M.blocks a.2 v.2 hr2 _ _ HB.out).mono ?_; rintro e w4 ⟨rfl, b4⟩; have H4 := hideP (HD3.out.below b4); clear HD3 b4 k1)
    | (go_at_call 196; refine (xjhZ _ HE.out.1 HE.out.2 _).mono ?_; rintro e w5 ⟨rfl, hw5⟩; have hw5 := hw5.symm; subst hw5)
    | (go_at_call 184; refine (xbtZ w0 b pv _ D _ _ _ ⟨_, _, _, _, _, _, H4.out⟩ rfl hD (by simp; omega)).mono ?_; rintro e w6 ⟨rfl, h6, -⟩; have H6 := hideP h6; clear h6))
  exact ⟨rfl, rfl, H4.out.bel⟩
theorem ub16o (w0 : World) (b : Nat) (pv : Value) (M : Mach) (D : List Frm) (x : Frm) (r : List Val) (c a v : Val) (w : World) (h : Doer w0 w b pv M) (hF : M.frames = D ++ [x]) (hD : D.length ≤ 100) (hl : x.stk.length ≤ 90) (hs : x.stk = r ++ [c, a, v]) (hr2 : -9223372036854775808 ≤ c.2 ∧ c.2 ≤ 9223372036854775807) (he : xbrZ M.blocks c.2 a.2 v.2 = 0) : Calls Tryz.prog 148 #[.pointer (some ⟨b, 0, none⟩), .int .i64 16] w fun e w' => e = .returned (.tuple #[]) ∧ Doer w0 w' b pv { M with frames := D ++ [{ x with stk := r }], blocks := setR M.blocks c.2 a.2 v.2 } := by
  have hs1 : x.stk = (r ++ [c, a]) ++ [v] := by rw [hs]; simp
  have hs2 : r ++ [c, a] = (r ++ [c]) ++ [a] := by simp
  have hrl := xbgZ hs1
  simp at hrl
  have hfd := xcmZ
  have H1 := hideP h
  have HE := hideP he
  clear h hs he
  go_enter Tryz.func148, Tryz.ntmps148
  go_wp2_with (first
    | (go_at_call 186; refine (xawZ w0 b pv M D x (r ++ [c, a]) v _ H1.out hF hs1 hD (by simp; omega)).mono ?_; rintro e w2 ⟨rfl, h2, o2⟩; have H2 := hideP h2; have O2 := hideP o2; clear h2 o2)
    | (go_at_call 186; refine (xawZ w0 b pv _ D _ (r ++ [c]) a _ H2.out rfl hs2 hD (by simp; omega)).mono ?_; rintro e w3 ⟨rfl, h3, o3⟩; have H3 := hideP h3; have O3 := hideP o3; clear h3 o3)
    | (go_at_call 186; refine (xawZ w0 b pv _ D _ r c _ H3.out rfl rfl hD (by omega)).mono ?_; rintro e w4 ⟨rfl, h4, -⟩; obtain ⟨fv4, bv4, iv4, ov4, q4, qb4, D4⟩ := h4; have k1 := D4.cells.2.1; have HB := hideP (xbjZ D4.own.blks); have HD4 := hideP D4; clear D4)
    | (go_at_call 197; refine (xjlZ M.blocks c.2 a.2 v.2 hr2 _ _ HB.out).mono ?_; rintro e w5 ⟨u, rfl, u5, b5⟩; obtain ⟨pu, nu, cu, hpu⟩ := xc2Z u5; subst hpu; have U5 := hideP u5; have B5 := hideP b5; have HD5 := hideP (HD4.out.below b5); have m1 := HD5.out.cells.2.1; have z1 : w5.frozen? ⟨b, 1, none⟩ = false := Lib.frozen_of_heap HD5.out.cell 1; clear u5 b5 k1)
    | (go_at_call 196; refine (xmqZ _ HE.out _).mono ?_; rintro e w6 ⟨rfl, hw6⟩; have hw6 := hw6.symm; subst hw6))
  go_end0
  exact ⟨rfl, HD4.out.setBl B5.out U5.out⟩
theorem ub16n (w0 : World) (b : Nat) (pv : Value) (M : Mach) (D : List Frm) (x : Frm) (r : List Val) (c a v : Val) (w : World) (h : Doer w0 w b pv M) (hF : M.frames = D ++ [x]) (hD : D.length ≤ 100) (hl : x.stk.length ≤ 90) (hs : x.stk = r ++ [c, a, v]) (hr2 : -9223372036854775808 ≤ c.2 ∧ c.2 ≤ 9223372036854775807) (he : xbrZ M.blocks c.2 a.2 v.2 = 5) : Calls Tryz.prog 148 #[.pointer (some ⟨b, 0, none⟩), .int .i64 16] w fun e w' => e = .panicked [{ v := .iface 159 (.int .i64 1), recovered := false }] ∧ Below w0.heap.size w0 w' := by
  have hs1 : x.stk = (r ++ [c, a]) ++ [v] := by rw [hs]; simp
  have hs2 : r ++ [c, a] = (r ++ [c]) ++ [a] := by simp
  have hrl := xbgZ hs1
  simp at hrl
  have hfd := xcmZ
  have H1 := hideP h
  have HE := hideP he
  clear h hs he
  go_enter Tryz.func148, Tryz.ntmps148
  go_wp2_with (first
    | (go_at_call 186; refine (xawZ w0 b pv M D x (r ++ [c, a]) v _ H1.out hF hs1 hD (by simp; omega)).mono ?_; rintro e w2 ⟨rfl, h2, o2⟩; have H2 := hideP h2; have O2 := hideP o2; clear h2 o2)
    | (go_at_call 186; refine (xawZ w0 b pv _ D _ (r ++ [c]) a _ H2.out rfl hs2 hD (by simp; omega)).mono ?_; rintro e w3 ⟨rfl, h3, o3⟩; have H3 := hideP h3; have O3 := hideP o3; clear h3 o3)
    | (go_at_call 186; refine (xawZ w0 b pv _ D _ r c _ H3.out rfl rfl hD (by omega)).mono ?_; rintro e w4 ⟨rfl, h4, -⟩; obtain ⟨fv4, bv4, iv4, ov4, q4, qb4, D4⟩ := h4; have k1 := D4.cells.2.1; have HB := hideP (xbjZ D4.own.blks); have HD4 := hideP D4; clear D4)
    | (go_at_call 197; refine (xjlZ M.blocks c.2 a.2 v.2 hr2 _ _ HB.out).mono ?_; rintro e w5 ⟨u, rfl, u5, b5⟩; obtain ⟨pu, nu, cu, hpu⟩ := xc2Z u5; subst hpu; have U5 := hideP u5; have B5 := hideP b5; have HD5 := hideP (HD4.out.below b5); have m1 := HD5.out.cells.2.1; have z1 : w5.frozen? ⟨b, 1, none⟩ = false := Lib.frozen_of_heap HD5.out.cell 1; clear u5 b5 k1)
    | (go_at_call 196; refine (xjiZ _ HE.out _).mono ?_; rintro e w6 ⟨rfl, hw6⟩; have hw6 := hw6.symm; subst hw6))
  exact ⟨rfl, rfl, HD5.out.bel⟩
theorem ub16i (w0 : World) (b : Nat) (pv : Value) (M : Mach) (D : List Frm) (x : Frm) (r : List Val) (c a v : Val) (w : World) (h : Doer w0 w b pv M) (hF : M.frames = D ++ [x]) (hD : D.length ≤ 100) (hl : x.stk.length ≤ 90) (hs : x.stk = r ++ [c, a, v]) (hr2 : -9223372036854775808 ≤ c.2 ∧ c.2 ≤ 9223372036854775807) (he : xbrZ M.blocks c.2 a.2 v.2 ≠ 0 ∧ xbrZ M.blocks c.2 a.2 v.2 ≠ 5) : Calls Tryz.prog 148 #[.pointer (some ⟨b, 0, none⟩), .int .i64 16] w fun e w' => e = .panicked [{ v := .iface 159 (.int .i64 2), recovered := false }] ∧ Below w0.heap.size w0 w' := by
  have hs1 : x.stk = (r ++ [c, a]) ++ [v] := by rw [hs]; simp
  have hs2 : r ++ [c, a] = (r ++ [c]) ++ [a] := by simp
  have hrl := xbgZ hs1
  simp at hrl
  have hfd := xcmZ
  have H1 := hideP h
  have HE := hideP he
  clear h hs he
  go_enter Tryz.func148, Tryz.ntmps148
  go_wp2_with (first
    | (go_at_call 186; refine (xawZ w0 b pv M D x (r ++ [c, a]) v _ H1.out hF hs1 hD (by simp; omega)).mono ?_; rintro e w2 ⟨rfl, h2, o2⟩; have H2 := hideP h2; have O2 := hideP o2; clear h2 o2)
    | (go_at_call 186; refine (xawZ w0 b pv _ D _ (r ++ [c]) a _ H2.out rfl hs2 hD (by simp; omega)).mono ?_; rintro e w3 ⟨rfl, h3, o3⟩; have H3 := hideP h3; have O3 := hideP o3; clear h3 o3)
    | (go_at_call 186; refine (xawZ w0 b pv _ D _ r c _ H3.out rfl rfl hD (by omega)).mono ?_; rintro e w4 ⟨rfl, h4, -⟩; obtain ⟨fv4, bv4, iv4, ov4, q4, qb4, D4⟩ := h4; have k1 := D4.cells.2.1; have HB := hideP (xbjZ D4.own.blks); have HD4 := hideP D4; clear D4)
    | (go_at_call 197; refine (xjlZ M.blocks c.2 a.2 v.2 hr2 _ _ HB.out).mono ?_; rintro e w5 ⟨u, rfl, u5, b5⟩; obtain ⟨pu, nu, cu, hpu⟩ := xc2Z u5; subst hpu; have U5 := hideP u5; have B5 := hideP b5; have HD5 := hideP (HD4.out.below b5); have m1 := HD5.out.cells.2.1; have z1 : w5.frozen? ⟨b, 1, none⟩ = false := Lib.frozen_of_heap HD5.out.cell 1; clear u5 b5 k1)
    | (go_at_call 196; refine (xjhZ _ HE.out.1 HE.out.2 _).mono ?_; rintro e w6 ⟨rfl, hw6⟩; have hw6 := hw6.symm; subst hw6))
  exact ⟨rfl, rfl, HD5.out.bel⟩
end Go.Proofs.YtmjjkenblfndgaaGreat


