/- My texts Na Mc: what of them is needed, joined. -/

import Derived.Test.YtcadpoknolefpaaGreatF10
import Derived.Test.YtcadpoknolefpaaGreatF11
/- machine's checker: values that stray, entries, types of values. -/
namespace Go.Proofs.YtcadpoknolefpaaGreat
open Go.RowKit
set_option linter.unusedSimpArgs false
set_option linter.unusedVariables false
set_option maxHeartbeats 1000000 in
/-- IndexFunc at a function whose contract is given: whether one is found. -/
theorem indexVals_rec (F : Nat) (fst : Array Value) (I : World → Prop) (q : Val → Bool) (l : List Val) (v : Value) (w : World) (h : ValsAt w v l) (hI : I w) (hkI : ∀ W W', I W → Below W.heap.size W W' → I W') (hE : Ent F)
    (hF : ∀ (z : Val) (W : World), I W → Calls Tryz.prog F (fst ++ #[.agg #[.bool z.1, .int .i64 z.2]]) W fun e w' => e = .returned (.bool (!q z)) ∧ Below W.heap.size W w') :
    Calls Tryz.prog 225 #[v, .func (.func F) fst #[]] w fun e w' => ∃ r, e = .returned (.int .i64 r) ∧ decide (0 ≤ r) = (!l.all q) ∧ Below w.heap.size w w' := by
  obtain ⟨p, cap, rfl, hm, hc⟩ := h
  unfold maxLen at hm
  have HI := hideP hI
  have HKI := hideP hkI
  have HF := hideP hF
  have hEE := fun args W => hE args W
  clear hI hkI hF hE
  go_enter Tryz.func225, Tryz.ntmps225
  go_wp2
  go_loopw [5, 8] (fun _ i wr => ∃ k : Nat, k ≤ l.length ∧ i = .int .i64 k ∧ (∀ o ∈ l.take k, q o = true) ∧ Below w.heap.size w wr) (fun _ i _ => l.length - (intOf i).toNat)
  case atStart => exact ⟨0, Nat.zero_le _, rfl, by simp, Below.refl _ _⟩
  case round =>
    obtain ⟨k, hk, rfl, hok, hbw⟩ := hrel
    have HK := hideP hok
    have HC := hideP hc
    clear hok hc
    by_cases hlt : k < l.length
    · obtain ⟨z, ho⟩ := at_of_lt hlt
      obtain ⟨b, off, rfl, hb, h0, h1⟩ := HC.out k _ ho
      have g0 := (hbw.cell (p := ⟨b, off + k * 2, none⟩) hb).trans h0
      have g1 := (hbw.cell (p := ⟨b, off + k * 2 + 1, none⟩) hb).trans h1
      have HO := hideP ho
      have hi := hideP (HKI.out _ _ HI.out hbw)
      clear ho h0 h1
      cases hnb : q z
      · go_wp2_with fail
        refine (HF.out z wr hi.out).mono ?_
        rw [hnb]
        rintro e w2 ⟨rfl, hb2⟩
        go_wp2
        go_ret
        exact ⟨k, rfl, by rw [all_false HO.out hnb]; simp, hbw.trans (hb2.mono hbw.size)⟩
      · go_wp2_with fail
        refine (HF.out z wr hi.out).mono ?_
        rw [hnb]
        rintro e w2 ⟨rfl, hb2⟩
        go_wp2
        go_roundw
        case rel => exact ⟨k + 1, by omega, by go_num, all_snoc HK.out HO.out hnb, hbw.trans (hb2.mono hbw.size)⟩
        case measure => simp [intOf]; omega
    · have hlt' : ¬ (k : Int) < (l.length : Int) := by omega
      go_wp2
      go_ret
      refine ⟨-1, rfl, ?_, hbw⟩
      have := HK.out
      rw [List.take_of_length_le (by omega)] at this
      rw [all_true this]; decide
set_option maxHeartbeats 1000000 in
theorem containsVals_rec (F : Nat) (fst : Array Value) (I : World → Prop) (q : Val → Bool) (l : List Val) (v : Value) (w : World) (h : ValsAt w v l) (hI : I w) (hkI : ∀ W W', I W → Below W.heap.size W W' → I W') (hE : Ent F)
    (hF : ∀ (z : Val) (W : World), I W → Calls Tryz.prog F (fst ++ #[.agg #[.bool z.1, .int .i64 z.2]]) W fun e w' => e = .returned (.bool (!q z)) ∧ Below W.heap.size W w') :
    Calls Tryz.prog 192 #[v, .func (.func F) fst #[]] w fun e w' => e = .returned (.bool (!l.all q)) ∧ Below w.heap.size w w' := by
  go_enter Tryz.func192, Tryz.ntmps192
  go_wp2_with fail
  refine (indexVals_rec F fst I q l v _ h hI hkI hE hF).mono ?_
  rintro e w2 ⟨r, rfl, hr, hb2⟩
  have HR := hideP hr
  clear hr
  go_wp2
  go_ret
  exact ⟨by rw [← HR.out]; rfl, hb2⟩
set_option maxHeartbeats 1000000 in
/-- IndexFunc at a function whose contract is given: whether one is found. -/
theorem indexEnts_gen (F : Nat) (caps : Array Value) (I : World → Prop) (q : Nat × List Int → Bool) (l : List (Nat × List Int)) (v : Value) (w : World) (h : EntsRd w v l) (hI : I w) (hkI : ∀ W W', I W → Below W.heap.size W W' → I W') (hE : Ent F)
    (hF : ∀ (z : Nat × List Int) (u : Value) (W : World), I W → (∃ p n c, u = .slice p n c) → Calls Tryz.prog F (#[.agg #[.int .i64 z.1, u]] ++ caps) W fun e w' => e = .returned (.bool (!q z)) ∧ Below W.heap.size W w') :
    Calls Tryz.prog 235 #[v, .func (.func F) #[] caps] w fun e w' => ∃ r : Int, e = .returned (.int .i64 r) ∧ ((r = -1 ∧ l.all q = true) ∨ ∃ (k : Nat) (z : Nat × List Int), r = (k : Int) ∧ l[k]? = some z ∧ q z = false ∧ ∀ y ∈ l.take k, q y = true) ∧ Below w.heap.size w w' := by
  obtain ⟨p, cap, rfl, hm, hc⟩ := h
  unfold maxLen at hm
  have HI := hideP hI
  have HKI := hideP hkI
  have HF := hideP hF
  have hEE := fun args W => hE args W
  clear hI hkI hF hE
  go_enter Tryz.func235, Tryz.ntmps235
  go_wp2
  go_loopw [5, 8] (fun _ i wr => ∃ k : Nat, k ≤ l.length ∧ i = .int .i64 k ∧ (∀ o ∈ l.take k, q o = true) ∧ Below w.heap.size w wr) (fun _ i _ => l.length - (intOf i).toNat)
  case atStart => exact ⟨0, Nat.zero_le _, rfl, by simp, Below.refl _ _⟩
  case round =>
    obtain ⟨k, hk, rfl, hok, hbw⟩ := hrel
    have HK := hideP hok
    have HC := hideP hc
    clear hok hc
    by_cases hlt : k < l.length
    · obtain ⟨z, ho⟩ := at_of_lt hlt
      obtain ⟨b, off, u, rfl, hb, h0, h1, hu⟩ := HC.out k z.1 z.2 ho
      obtain ⟨pu, cu, hus, -⟩ := hu.shp
      subst hus
      clear hu
      have g0 := (hbw.cell (p := ⟨b, off + k * 2, none⟩) hb).trans h0
      have g1 := (hbw.cell (p := ⟨b, off + k * 2 + 1, none⟩) hb).trans h1
      have HO := hideP ho
      have hi := hideP (HKI.out _ _ HI.out hbw)
      clear ho h0 h1
      cases hnb : q z
      · go_wp2_with fail
        refine (HF.out z _ wr hi.out ⟨_, _, _, rfl⟩).mono ?_
        rw [hnb]
        rintro e w2 ⟨rfl, hb2⟩
        go_wp2
        go_ret
        exact ⟨k, rfl, .inr ⟨k, z, rfl, HO.out, hnb, HK.out⟩, hbw.trans (hb2.mono hbw.size)⟩
      · go_wp2_with fail
        refine (HF.out z _ wr hi.out ⟨_, _, _, rfl⟩).mono ?_
        rw [hnb]
        rintro e w2 ⟨rfl, hb2⟩
        go_wp2
        go_roundw
        case rel => exact ⟨k + 1, by omega, by go_num, all_snoc HK.out HO.out hnb, hbw.trans (hb2.mono hbw.size)⟩
        case measure => simp [intOf]; omega
    · have hlt' : ¬ (k : Int) < (l.length : Int) := by omega
      go_wp2
      go_ret
      refine ⟨-1, rfl, .inl ⟨rfl, ?_⟩, hbw⟩
      have := HK.out
      rw [List.take_of_length_le (by omega)] at this
      exact fun a b hab => List.all_eq_true.1 (all_true this) _ hab
set_option maxRecDepth 100000 in
set_option maxHeartbeats 1000000 in
theorem strays_any (M : Mach) (pv fv bv iv ov : Value) (z : Val) (w : World) (h1 : ∃ p n c, pv = .slice p n c) (h2 : ∃ p n c, fv = .slice p n c) (h3 : ∃ p c, bv = .slice p M.blocks.length c) (h4 : ∃ p n c, iv = .slice p n c) (h5 : ∃ p n c, ov = .slice p n c) : Calls Tryz.prog 193 #[chkV pv fv bv iv ov M, .agg #[.bool z.1, .int .i64 z.2]] w fun e w' => e = .returned (.bool (!okV M.blocks.length z)) ∧ Below w.heap.size w w' := by
  obtain ⟨p1, n1, c1, rfl⟩ := h1
  obtain ⟨p2, n2, c2, rfl⟩ := h2
  obtain ⟨p3, c3, rfl⟩ := h3
  obtain ⟨p4, n4, c4, rfl⟩ := h4
  obtain ⟨p5, n5, c5, rfl⟩ := h5
  obtain ⟨r, n⟩ := z
  cases r
  · go_enter Tryz.func193, Tryz.ntmps193
    have hnot : ∀ (x : Bool) (w : World), (Op.unary .not (.bool x)).run Tryz.prog w = .ok (.bool (!x)) w := fun _ _ => rfl
    go_wp2_with (go_at_call 137; refine (mIsNumber_any _ _).mono ?_; rintro e w4 ⟨rfl, hw4⟩; have hw4 := hw4.symm; subst hw4)
    go_ret
    exact ⟨by simp [okV], ((Below.refl _ w).alloc (Nat.le_refl _) _).alloc (by simp) _⟩
  · by_cases a1 : n < 0
    · go_enter Tryz.func193, Tryz.ntmps193
      go_wp2
      go_ret
      exact ⟨by simp [okV]; omega, ((Below.refl _ w).alloc (Nat.le_refl _) _).alloc (by simp) _⟩
    · have a1' : decide (n < 0) = false := by simpa using a1
      by_cases a2 : (M.blocks.length : Int) < n
      · go_enter Tryz.func193, Tryz.ntmps193
        go_wp2
        go_ret
        exact ⟨by simp [okV]; omega, ((Below.refl _ w).alloc (Nat.le_refl _) _).alloc (by simp) _⟩
      · go_enter Tryz.func193, Tryz.ntmps193
        go_wp2
        go_ret
        exact ⟨by simp [okV]; omega, ((Below.refl _ w).alloc (Nat.le_refl _) _).alloc (by simp) _⟩
theorem allOk_any (M : Mach) (pv fv bv iv ov : Value) (l : List Val) (v : Value) (w : World) (h : ValsAt w v l) (h1 : ∃ p n c, pv = .slice p n c) (h2 : ∃ p n c, fv = .slice p n c) (h3 : ∃ p c, bv = .slice p M.blocks.length c) (h4 : ∃ p n c, iv = .slice p n c) (h5 : ∃ p n c, ov = .slice p n c) : Calls Tryz.prog 192 #[v, .func (.func 193) #[chkV pv fv bv iv ov M] #[]] w fun e w' => e = .returned (.bool (!l.all (okV M.blocks.length))) ∧ Below w.heap.size w w' :=
  containsVals_rec 193 #[chkV pv fv bv iv ov M] (fun _ => True) (okV M.blocks.length) l v w h trivial (fun _ _ _ _ => trivial) (ent_mk Tryz.func193 (by kernel_rfl) rfl) (fun z W _ => strays_any M pv fv bv iv ov z W h1 h2 h3 h4 h5)
set_option maxRecDepth 100000 in
set_option maxHeartbeats 1000000 in
theorem entry1_any (n : Int) (z : Nat × List Int) (u : Value) (bx : Nat) (w : World) (h : ∃ p n c, u = .slice p n c) (hc : w.cell? ⟨bx, 0, none⟩ = some (.int .i64 n)) : Calls Tryz.prog 236 #[.agg #[.int .i64 z.1, u], .pointer (some ⟨bx, 0, none⟩)] w fun e w' => e = .returned (.bool (decide ((z.1 : Int) = n))) ∧ Below w.heap.size w w' := by
  obtain ⟨p1, n1, c1, rfl⟩ := h
  have hca := fun o => cell_old hc o
  by_cases a : (z.1 : Int) = n
  · have a' : ((z.1 : Int) == n) = true := by simpa using a
    go_enter Tryz.func236, Tryz.ntmps236
    go_wp2
    go_ret
    exact ⟨by simp [a], (Below.refl _ w).alloc (Nat.le_refl _) _⟩
  · have a' : ((z.1 : Int) == n) = false := by simpa using a
    go_enter Tryz.func236, Tryz.ntmps236
    go_wp2
    go_ret
    exact ⟨by simp [a], (Below.refl _ w).alloc (Nat.le_refl _) _⟩
def entIx : List (Nat × List Int) → Int → Int
  | [], _ => -1
  | z :: r, n => if (z.1 : Int) = n then 0 else if entIx r n < 0 then -1 else entIx r n + 1
theorem entIx_none : ∀ {l : List (Nat × List Int)} {n : Int}, (∀ z ∈ l, (z.1 : Int) ≠ n) → entIx l n = -1
  | [], _, _ => rfl
  | z :: r, n, h => by
    unfold entIx
    rw [if_neg (h z (by simp)), if_pos (by rw [entIx_none (fun y hy => h y (by simp [hy]))]; decide)]
theorem entIx_at : ∀ {l : List (Nat × List Int)} {n : Int} {k : Nat} {z : Nat × List Int}, l[k]? = some z → (z.1 : Int) = n → (∀ y ∈ l.take k, (y.1 : Int) ≠ n) → entIx l n = (k : Int)
  | [], _, k, _, h, _, _ => by simp at h
  | y :: r, n, 0, z, h, hz, _ => by
    simp at h
    subst h
    unfold entIx
    rw [if_pos hz]; rfl
  | y :: r, n, k + 1, z, h, hz, hk => by
    have ih := entIx_at (l := r) (n := n) (k := k) (by simpa using h) hz (fun y hy => hk y (by simp [hy]))
    unfold entIx
    rw [if_neg (hk y (by simp)), ih, if_neg (by omega)]
    omega
theorem entIx_spec : ∀ (l : List (Nat × List Int)) (n : Int), (entIx l n = -1 ∧ ∀ z ∈ l, (z.1 : Int) ≠ n) ∨ ∃ (k : Nat) (z : Nat × List Int), entIx l n = (k : Int) ∧ l[k]? = some z ∧ (z.1 : Int) = n
  | [], _ => .inl ⟨rfl, fun z hz => by simp at hz⟩
  | y :: r, n => by
    unfold entIx
    by_cases h : (y.1 : Int) = n
    · rw [if_pos h]
      exact .inr ⟨0, y, rfl, rfl, h⟩
    · rw [if_neg h]
      rcases entIx_spec r n with ⟨h1, h2⟩ | ⟨k, z, h1, h2, h3⟩
      · rw [h1]
        refine .inl ⟨rfl, fun z hz => ?_⟩
        rcases List.mem_cons.1 hz with rfl | hz
        · exact h
        · exact h2 z hz
      · rw [h1, if_neg (by omega)]
        exact .inr ⟨k + 1, z, by omega, by simpa using h2, h3⟩
set_option maxRecDepth 100000 in
set_option maxHeartbeats 1000000 in
theorem entryAt_any (l : List (Nat × List Int)) (v : Value) (n : Int) (w : World) (h : EntsRd w v l) : Calls Tryz.prog 228 #[v, .int .i64 n] w fun e w' => e = .returned (.int .i64 (entIx l n)) ∧ Below w.heap.size w w' := by
  obtain ⟨W1, hW1⟩ : ∃ W1, w.alloc (.cells #[.int .i64 n] 3) = W1 := ⟨_, rfl⟩
  have b1 : Below w.heap.size w W1 := by rw [← hW1]; exact (Below.refl _ w).alloc (Nat.le_refl _) _
  have x1 : W1.heap[w.heap.size]? = some (.cells #[.int .i64 n] 3 (0, 0)) := by rw [← hW1]; exact World.alloc_heap_new w _
  have k1 : W1.cell? ⟨w.heap.size, 0, none⟩ = some (.int .i64 n) := cell_at' x1 0
  have lx := heap_lt x1
  obtain ⟨pl, cl, hv⟩ := h.shp
  subst hv
  have HX := hideP (indexEnts_gen 236 #[.pointer (some ⟨w.heap.size, 0, none⟩)] (fun W => W.cell? ⟨w.heap.size, 0, none⟩ = some (.int .i64 n) ∧ w.heap.size < W.heap.size) (fun z => !decide ((z.1 : Int) = n)) l _ W1 (h.below b1) ⟨k1, lx⟩ (fun W W' hI hb => ⟨(hb.cell (p := ⟨w.heap.size, 0, none⟩) hI.2).trans hI.1, Nat.lt_of_lt_of_le hI.2 hb.size⟩) (ent_mk Tryz.func236 (by kernel_rfl) rfl) (fun z u W hI hu => by
    have := entry1_any n z u w.heap.size W hu hI.1
    simpa using this))
  clear h x1
  go_enter Tryz.func228, Tryz.ntmps228
  go_wp2_with (go_at_call 235; refine HX.out.mono ?_; rintro e w2 ⟨r, rfl, hr, b2⟩; have HR := hideP hr; clear hr)
  go_ret
  refine ⟨?_, bthen0 b1 b2⟩
  rcases HR.out with ⟨h1, h2⟩ | ⟨k, z, h1, h2, h3, h4⟩
  · have hn : ∀ z ∈ l, (z.1 : Int) ≠ n := fun z hz => by
      have h5 := List.all_eq_true.1 h2 z hz
      simp at h5
      exact h5
    rw [h1, entIx_none hn]; rfl
  · have hn : ∀ y ∈ l.take k, (y.1 : Int) ≠ n := fun y hy => by
      have h5 := h4 y hy
      simp at h5
      exact h5
    have h6 : (z.1 : Int) = n := by
      have h5 := h3
      simp at h5
      exact h5
    rw [h1, entIx_at h2 h6 hn]; rfl
set_option maxRecDepth 100000 in
set_option maxHeartbeats 1000000 in
theorem areOf1_any (z : Val) (t : Int) (w : World) : Calls Tryz.prog 227 #[.agg #[.bool z.1, .int .i64 z.2], .int .i64 t] w fun e w' => e = .returned (.bool (asT z t)) ∧ Below w.heap.size w w' := by
  obtain ⟨r, n⟩ := z
  have hb : ∀ o, Below w.heap.size w (w.alloc o) := fun o => (Below.refl _ w).alloc (Nat.le_refl _) _
  by_cases a1 : t = 1
  · subst a1
    cases r
    · go_enter Tryz.func227, Tryz.ntmps227
      go_wp2
      go_ret
      exact ⟨by simp [asT], hb _⟩
    · go_enter Tryz.func227, Tryz.ntmps227
      go_wp2
      go_ret
      exact ⟨by simp [asT], hb _⟩
  · have a1' : (t != 1) = true := by simpa using a1
    cases r
    · go_enter Tryz.func227, Tryz.ntmps227
      go_wp2
      go_ret
      exact ⟨by simp [asT, a1], hb _⟩
    · by_cases a3 : t = 3
      · subst a3
        by_cases a0 : n = 0
        · subst a0
          go_enter Tryz.func227, Tryz.ntmps227
          go_wp2
          go_ret
          exact ⟨by simp [asT], hb _⟩
        · have a0' : (n == 0) = false := by simpa using a0
          go_enter Tryz.func227, Tryz.ntmps227
          go_wp2
          go_ret
          exact ⟨by simp [asT, a0], hb _⟩
      · have a3' : (t != 3) = true := by simpa using a3
        go_enter Tryz.func227, Tryz.ntmps227
        go_wp2
        go_ret
        exact ⟨by simp [asT, a1, a3], hb _⟩
theorem areOf_iff (l : List Val) (ts : List Int) : areOf l ts = true ↔ l.length = ts.length ∧ ∀ (k : Nat) (v : Val) (t : Int), l[k]? = some v → ts[k]? = some t → asT v t = true := by
  constructor
  · exact fun h => ⟨areOf_length h, areOf_at h⟩
  · intro ⟨h1, h2⟩
    induction l generalizing ts with
    | nil => cases ts with
      | nil => rfl
      | cons _ _ => simp at h1
    | cons a r ih => cases ts with
      | nil => simp at h1
      | cons b q =>
        simp only [areOf, Bool.and_eq_true]
        exact ⟨h2 0 a b rfl rfl, ih q (by simpa using h1) (fun k v t h3 h4 => h2 (k + 1) v t (by simpa using h3) (by simpa using h4))⟩
set_option maxRecDepth 100000 in
set_option maxHeartbeats 1000000 in
theorem eqFuncVals_any (l : List Val) (ts : List Int) (v u : Value) (w : World) (hl : ValsAt w v l) (hu : IntsAt w u ts) : Calls Tryz.prog 226 #[v, u, .func (.func 227) #[] #[]] w fun e w' => e = .returned (.bool (areOf l ts)) ∧ Below w.heap.size w w' := by
  obtain ⟨p, cap, rfl, hlm, hc⟩ := hl
  obtain ⟨q, cap', rfl, hmm, hd⟩ := hu
  unfold maxLen at hlm hmm
  have hEE := fun args W => (ent_mk (F := 227) Tryz.func227 (by kernel_rfl) rfl) args W
  by_cases hlen : l.length = ts.length
  · have hlen' : ((l.length : Int) != (ts.length : Int)) = false := by simp; omega
    have HLEN := hideP hlen
    have HC := hideP hc
    have HD := hideP hd
    clear hc hd hlen
    go_enter Tryz.func226, Tryz.ntmps226
    go_wp2
    go_loopw [7, 8, 17] (fun _ _ i wr => ∃ k : Nat, k ≤ l.length ∧ i = .int .i64 k ∧ (∀ (j : Nat) (v : Val) (t : Int), j < k → l[j]? = some v → ts[j]? = some t → asT v t = true) ∧ Below w.heap.size w wr) (fun _ _ i _ => l.length - (intOf i).toNat)
    case atStart => exact ⟨0, Nat.zero_le _, rfl, fun j v t hj => by omega, Below.refl _ _⟩
    case round =>
      obtain ⟨k, hk, rfl, hok, hbw⟩ := hrel
      have HK := hideP hok
      clear hok
      by_cases hlt : k < l.length
      · obtain ⟨z, ho⟩ := at_of_lt hlt
        obtain ⟨t, ht⟩ := at_of_lt (l := ts) (k := k) (by have := HLEN.out; omega)
        obtain ⟨b, off, rfl, hb, h0, h1⟩ := HC.out k _ ho
        obtain ⟨b', off', rfl, hb', h2⟩ := HD.out k _ ht
        have g0 := (hbw.cell (p := ⟨b, off + k * 2, none⟩) hb).trans h0
        have g1 := (hbw.cell (p := ⟨b, off + k * 2 + 1, none⟩) hb).trans h1
        have g2 := (hbw.cell (p := ⟨b', off' + k, none⟩) hb').trans h2
        have g2a := fun o => cell_old g2 o
        have hlti2 : (k : Int) < (ts.length : Int) := by have := HLEN.out; omega
        have HO := hideP ho
        have HT := hideP ht
        clear ho ht h0 h1 h2
        have bA : ∀ o, Below wr.heap.size wr (wr.alloc o) := fun o => (Below.refl _ wr).alloc (Nat.le_refl _) _
        cases hnb : asT z t
        · go_wp2_with fail
          refine (areOf1_any z t _).mono ?_
          rw [hnb]
          rintro e w2 ⟨rfl, hb2'⟩
          have hb2 := bthen0 (bA _) hb2'
          go_wp2
          go_ret
          refine ⟨?_, hbw.trans (hb2.mono hbw.size)⟩
          cases hx : areOf l ts
          · rfl
          · have := areOf_at hx k z t HO.out HT.out
            rw [hnb] at this
            cases this
        · go_wp2_with fail
          refine (areOf1_any z t _).mono ?_
          rw [hnb]
          rintro e w2 ⟨rfl, hb2'⟩
          have hb2 := bthen0 (bA _) hb2'
          go_wp2
          go_roundw
          case rel =>
            refine ⟨k + 1, by omega, by go_num, fun j v t' hj h3 h4 => ?_, hbw.trans (hb2.mono hbw.size)⟩
            by_cases e : j = k
            · subst e
              rw [HO.out] at h3
              rw [HT.out] at h4
              cases h3
              cases h4
              exact hnb
            · exact HK.out j v t' (by omega) h3 h4
          case measure => simp [intOf]; omega
      · have hlt' : ¬ (k : Int) < (l.length : Int) := by omega
        go_wp2
        go_ret
        refine ⟨?_, hbw⟩
        have : areOf l ts = true := (areOf_iff l ts).2 ⟨HLEN.out, fun j v t h3 h4 => HK.out j v t (by have := lt_of_at h3; omega) h3 h4⟩
        rw [this]; rfl
  · have hlen' : ((l.length : Int) != (ts.length : Int)) = true := by simp; omega
    have hne : areOf l ts = false := by
      cases hx : areOf l ts
      · rfl
      · exact absurd (areOf_length hx) hlen
    clear hc hd
    have HN := hideP hne
    clear hne hlen
    go_enter Tryz.func226, Tryz.ntmps226
    go_wp2
    go_ret
    exact ⟨by rw [HN.out]; rfl, Below.refl _ _⟩
set_option maxHeartbeats 400000 in
theorem areOf_any (l : List Val) (ts : List Int) (v u : Value) (w : World) (hl : ValsAt w v l) (hu : IntsAt w u ts) : Calls Tryz.prog 194 #[v, u] w fun e w' => e = .returned (.bool (areOf l ts)) ∧ Below w.heap.size w w' := by
  have HX := hideP (eqFuncVals_any l ts v u w hl hu)
  clear hl hu
  go_enter Tryz.func194, Tryz.ntmps194
  go_wp2_with (go_at_call 226; refine HX.out.mono ?_; rintro e w2 ⟨rfl, b2⟩)
  go_ret
  exact ⟨rfl, b2⟩
end Go.Proofs.YtcadpoknolefpaaGreat


/- stride's doer: the machine that it does an op of; its innermost frame, take and put. -/
namespace Go.Proofs.YtcadpoknolefpaaGreat
open Go.RowKit
set_option linter.unusedSimpArgs false
set_option linter.unusedVariables false
structure DAt (w0 W : World) (b : Nat) (pv fv bv iv ov : Value) (q : List FV) (qb : List Value) (M : Mach) : Prop where
  cell : W.heap[b]? = some (.cells #[fv, bv, iv, ov, .int .i64 M.status, .int .i64 M.trap, pv] 120 (0, 0))
  own : MOwn W w0.heap.size fv bv iv ov q qb M
  bel : Below w0.heap.size w0 W
  lo : w0.heap.size ≤ b
def Doer (w0 W : World) (b : Nat) (pv : Value) (M : Mach) : Prop := ∃ fv bv iv ov q qb, DAt w0 W b pv fv bv iv ov q qb M
theorem DAt.lt {w0 W : World} {b : Nat} {pv fv bv iv ov : Value} {q : List FV} {qb : List Value} {M : Mach} (h : DAt w0 W b pv fv bv iv ov q qb M) : b < W.heap.size := heap_lt h.cell
theorem DAt.below {w0 W W' : World} {b : Nat} {pv fv bv iv ov : Value} {q : List FV} {qb : List Value} {M : Mach} (h : DAt w0 W b pv fv bv iv ov q qb M) (hb : Below W.heap.size W W') : DAt w0 W' b pv fv bv iv ov q qb M :=
  ⟨(hb.block b h.lt).trans h.cell, h.own.below hb, h.bel.trans (hb.mono h.bel.size), h.lo⟩
theorem Doer.below {w0 W W' : World} {b : Nat} {pv : Value} {M : Mach} (h : Doer w0 W b pv M) (hb : Below W.heap.size W W') : Doer w0 W' b pv M := by
  obtain ⟨fv, bv, iv, ov, q, qb, h⟩ := h
  exact ⟨fv, bv, iv, ov, q, qb, h.below hb⟩
theorem Doer.bel {w0 W : World} {b : Nat} {pv : Value} {M : Mach} (h : Doer w0 W b pv M) : Below w0.heap.size w0 W := by
  obtain ⟨fv, bv, iv, ov, q, qb, h⟩ := h
  exact h.bel
structure DIn (w0 W : World) (b : Nat) (pv : Value) (M : Mach) (D : List Frm) (x : Frm) (g cap : Nat) (bv iv ov : Value) (q : List FV) (c : FV) (qb : List Value) : Prop where
  at_ : DAt w0 W b pv (.slice (some ⟨g, 0, none⟩) (D.length + 1) cap) bv iv ov (q ++ [c]) qb M
  fr : M.frames = D ++ [x]
  len : q.length = D.length
  fn : c.fn = x.fn
  pc : c.pc = x.pc
  c0 : W.cell? ⟨g, D.length * 4, none⟩ = some (.int .i64 x.fn)
  c1 : W.cell? ⟨g, D.length * 4 + 1, none⟩ = some (.int .i64 x.pc)
  c2 : W.cell? ⟨g, D.length * 4 + 2, none⟩ = some c.lv
  c3 : W.cell? ⟨g, D.length * 4 + 3, none⟩ = some c.sv
  gb : ∃ cur, W.heap[g]? = some (.cells cur 48 (0, 0))
  loc : W.ownsRow w0.heap.size 50 2 c.lv x.loc.length (valCells x.loc)
  stk : W.ownsRow w0.heap.size 50 2 c.sv x.stk.length (valCells x.stk)
theorem Doer.open {w0 W : World} {b : Nat} {pv : Value} {M : Mach} {D : List Frm} {x : Frm} (h : Doer w0 W b pv M) (hF : M.frames = D ++ [x]) : ∃ g cap bv iv ov q c qb, DIn w0 W b pv M D x g cap bv iv ov q c qb := by
  obtain ⟨fv, bv, iv, ov, q', qb, h⟩ := h
  have hl := h.own.frs.len
  rw [hF] at hl
  obtain ⟨q, c, rfl⟩ : ∃ q c, q' = q ++ [c] := by
    rcases List.eq_nil_or_concat q' with h0 | ⟨q, c, h0⟩
    · subst h0; simp at hl
    · exact ⟨q, c, by simpa using h0⟩
  have hlen : q.length = D.length := by simpa using hl
  have hrow := h.own.fr
  have hn : (q ++ [c]).length = D.length + 1 := by simp [hlen]
  rcases hrow.2 with ⟨_, h0⟩ | ⟨g, cap, cur, hv, hB, hg, h1, h2, h3, h4⟩
  · omega
  have hfrs := h.own.frs
  rw [hF] at hfrs
  have hx : (D ++ [x])[q.length]? = some x := by rw [hlen]; exact snoc_last _ _
  obtain ⟨e1, e2⟩ := hfrs.nums q.length c x (snoc_last _ _) hx
  obtain ⟨a0, a1, a2, a3⟩ := fCells_at (q ++ [c]) q.length c (snoc_last _ _)
  obtain ⟨r1, r2⟩ := fRows_at (q ++ [c]) q.length c (snoc_last _ _)
  obtain ⟨v1, v2⟩ := fVals_at (D ++ [x]) q.length x hx
  have o1 := hfrs.rows.each _ _ _ r1 v1
  have o2 := hfrs.rows.each _ _ _ r2 v2
  rw [← h4, List.getElem?_take_of_lt (by omega)] at a0 a1 a2 a3
  rw [hn] at hv
  subst hv
  refine ⟨g, cap, bv, iv, ov, q, c, qb, h, hF, hlen, e1, e2, ?_, ?_, ?_, ?_, ⟨_, hg⟩, o1, o2⟩
  · rw [cell_at' hg, ← e1, ← hlen]; simpa using a0
  · rw [cell_at' hg, ← e2, ← hlen]; simpa using a1
  · rw [cell_at' hg, ← hlen]; simpa using a2
  · rw [cell_at' hg, ← hlen]; simpa using a3
section
variable {w0 W : World} {b : Nat} {pv : Value} {M : Mach} {D : List Frm} {x : Frm} {g cap : Nat} {bv iv ov : Value} {q : List FV} {c : FV} {qb : List Value}
theorem DIn.below (h : DIn w0 W b pv M D x g cap bv iv ov q c qb) {W' : World} (hb : Below W.heap.size W W') : DIn w0 W' b pv M D x g cap bv iv ov q c qb := by
  obtain ⟨cur, hg⟩ := h.gb
  have hlt := heap_lt hg
  exact ⟨h.at_.below hb, h.fr, h.len, h.fn, h.pc, (hb.cell (p := ⟨g, _, none⟩) hlt).trans h.c0, (hb.cell (p := ⟨g, _, none⟩) hlt).trans h.c1, (hb.cell (p := ⟨g, _, none⟩) hlt).trans h.c2, (hb.cell (p := ⟨g, _, none⟩) hlt).trans h.c3, ⟨cur, (hb.block g hlt).trans hg⟩, row_same h.loc fun k hk => hb.block k (h.loc.lt k hk).2, row_same h.stk fun k hk => hb.block k (h.stk.lt k hk).2⟩
theorem DIn.glo (h : DIn w0 W b pv M D x g cap bv iv ov q c qb) : w0.heap.size ≤ g := (h.at_.own.fr.lt g rfl).1
theorem DIn.gne (h : DIn w0 W b pv M D x g cap bv iv ov q c qb) : b ≠ g := fun e => by
  obtain ⟨cur, hg⟩ := h.gb
  have := h.at_.cell
  rw [e, hg] at this
  simp at this
theorem DIn.doer (h : DIn w0 W b pv M D x g cap bv iv ov q c qb) : Doer w0 W b pv M := ⟨_, _, _, _, _, _, h.at_⟩
theorem DIn.fr_row (h : DIn w0 W b pv M D x g cap bv iv ov q c qb) : W.ownsRow w0.heap.size 48 4 (.slice (some ⟨g, 0, none⟩) (D.length + 1) cap) (D.length + 1) (fCells (q ++ [c])) := by
  have := h.at_.own.fr
  rw [show (q ++ [c]).length = D.length + 1 by simp [h.len]] at this
  exact this
theorem DIn.setStk (h : DIn w0 W b pv M D x g cap bv iv ov q c qb) {W2 : World} {sv : Value} {s : List Val} (hg : W.grownBy W2 c.sv.ownBlock) (hr : W2.ownsRow w0.heap.size 50 2 sv s.length (valCells s)) (hat : ∀ z, sv.ownBlock = some z → c.sv.ownBlock = some z ∨ W.heap.size ≤ z) : Doer w0 (W2.setCell ⟨g, D.length * 4 + 3, none⟩ sv) b pv { M with frames := D ++ [{ x with stk := s }] } := by
  have hty : TyRow W c.sv.ownBlock 50 := tyRow_row h.stk
  have hA := h.at_
  have hfr2 := row_keep h.fr_row hg hty (by decide)
  have hgs := set_grown W2 ⟨g, D.length * 4 + 3, none⟩ sv
  obtain ⟨cur, hcur⟩ := h.gb
  have hg2 : W2.heap[g]? = some (.cells cur 48 (0, 0)) := (hg.block g (heap_lt hcur) (fun e => by
    obtain ⟨cs, fz, hh⟩ := hty g e.symm
    rw [hcur] at hh; simp at hh)).trans hcur
  have hty2 : TyRow W2 (some g) 48 := tyRow_at hg2
  have hcell2 : W2.heap[b]? = _ := (hg.block b hA.lt (fun e => by
    obtain ⟨cs, fz, hh⟩ := hty b e.symm
    rw [hA.cell] at hh; simp at hh)).trans hA.cell
  have hfrs := hA.own.frs
  rw [h.fr] at hfrs
  have hrow := row_set hfr2 (D.length * 4 + 3) sv
  have e1 : (fCells (q ++ [c])).set (D.length * 4 + 3) sv = fCells (q ++ [{ c with sv := sv }]) := by
    rw [fCells_append, fCells_append, List.set_append_right _ _ (by rw [fCells_length, h.len]; omega), fCells_length, h.len]
    simp [fCells]
  rw [e1] at hrow
  refine ⟨.slice (some ⟨g, 0, none⟩) (D.length + 1) cap, bv, iv, ov, q ++ [{ c with sv := sv }], qb, ⟨(hgs.block b (heap_lt hcell2) (fun e => h.gne (by simpa using e))).trans hcell2, ⟨?_, ?_, ?_, ?_⟩, ?_, hA.lo⟩⟩
  · have e9 : (q ++ [{ c with sv := sv }]).length = D.length + 1 := by simp [h.len]
    rw [e9]
    exact hrow
  · exact (hfrs.stk hg hr hat).keep hgs hty2 (by decide)
  · exact row_keep (row_keep hA.own.bl hg hty (by decide)) hgs hty2 (by decide)
  · exact (hA.own.rows.keep hg hty (by decide)).keep hgs hty2 (by decide)
  · exact (hA.bel.grown hg hA.bel.size (fun k hk => (h.stk.lt k hk).1)).setCell h.glo _
theorem DIn.setPc (h : DIn w0 W b pv M D x g cap bv iv ov q c qb) (n : Int) : Doer w0 (W.setCell ⟨g, D.length * 4 + 1, none⟩ (.int .i64 n)) b pv { M with frames := D ++ [{ x with pc := n }] } := by
  have hA := h.at_
  have hgs := set_grown W ⟨g, D.length * 4 + 1, none⟩ (.int .i64 n)
  obtain ⟨cur, hcur⟩ := h.gb
  have hty2 : TyRow W (some g) 48 := tyRow_at hcur
  have hfrs := hA.own.frs
  rw [h.fr] at hfrs
  have hrow := row_set h.fr_row (D.length * 4 + 1) (.int .i64 n)
  have e1 : (fCells (q ++ [c])).set (D.length * 4 + 1) (.int .i64 n) = fCells (q ++ [{ c with pc := n }]) := by
    rw [fCells_append, fCells_append, List.set_append_right _ _ (by rw [fCells_length, h.len]; omega), fCells_length, h.len]
    simp [fCells]
  rw [e1] at hrow
  refine ⟨.slice (some ⟨g, 0, none⟩) (D.length + 1) cap, bv, iv, ov, q ++ [{ c with pc := n }], qb, ⟨(hgs.block b hA.lt (fun e => h.gne (by simpa using e))).trans hA.cell, ⟨?_, ?_, ?_, ?_⟩, ?_, hA.lo⟩⟩
  · have e9 : (q ++ [{ c with pc := n }]).length = D.length + 1 := by simp [h.len]
    rw [e9]
    exact hrow
  · exact (hfrs.pc n).keep hgs hty2 (by decide)
  · exact row_keep hA.own.bl hgs hty2 (by decide)
  · exact hA.own.rows.keep hgs hty2 (by decide)
  · exact hA.bel.setCell h.glo _
theorem DIn.setLoc (h : DIn w0 W b pv M D x g cap bv iv ov q c qb) {W2 : World} {s : List Val} (hg : W.grownBy W2 c.lv.ownBlock) (hr : W2.ownsRow w0.heap.size 50 2 c.lv s.length (valCells s)) : Doer w0 W2 b pv { M with frames := D ++ [{ x with loc := s }] } := by
  have hty : TyRow W c.lv.ownBlock 50 := tyRow_row h.loc
  have hA := h.at_
  have hcell2 : W2.heap[b]? = _ := (hg.block b hA.lt (fun e => by
    obtain ⟨cs, fz, hh⟩ := hty b e.symm
    rw [hA.cell] at hh; simp at hh)).trans hA.cell
  have hfrs := hA.own.frs
  rw [h.fr] at hfrs
  refine ⟨_, bv, iv, ov, q ++ [c], qb, ⟨hcell2, ⟨row_keep hA.own.fr hg hty (by decide), hfrs.loc hg hr, row_keep hA.own.bl hg hty (by decide), hA.own.rows.keep hg hty (by decide)⟩, hA.bel.grown hg hA.bel.size (fun k hk => (h.loc.lt k hk).1), hA.lo⟩⟩
end
set_option maxHeartbeats 1000000 in
theorem innermost_raw (b g n cap : Nat) (w : World) (h0 : w.cell? ⟨b, 0, none⟩ = some (.slice (some ⟨g, 0, none⟩) (n + 1) cap)) (hn : n ≤ 100) : Calls Tryz.prog 125 #[.pointer (some ⟨b, 0, none⟩)] w fun e w' => e = .returned (.pointer (some ⟨g, n * 4, none⟩)) ∧ Below w.heap.size w w' := by
  have h1 : (n : Int) < ((n + 1 : Nat) : Int) := by omega
  go_enter Tryz.func125, Tryz.ntmps125
  go_wp2_with fail
  go_quiet (fail)
  go_wp2
  go_ret
  exact ⟨rfl, rfl, rfl, rfl, Nat.le_refl _, fun _ _ => rfl⟩
theorem vals_new {W : World} {b : Nat} {l : List Val} {n cap : Nat} {t : TypeId} {fz : Nat × Nat} (h : W.heap[b]? = some (.cells (valCells l).toArray t fz)) (hn : n = l.length) (hm : l.length ≤ maxLen) : ValsAt W (.slice (some ⟨b, 0, none⟩) n cap) l := by
  subst hn
  refine ⟨_, cap, rfl, hm, fun k o hk => ⟨b, 0, rfl, heap_lt h, ?_, ?_⟩⟩
  · rw [cell_at' h]; simpa using (valCells_at l k o hk).1
  · rw [cell_at' h]; simpa using (valCells_at l k o hk).2
theorem DIn.fcell {w0 W : World} {b : Nat} {pv : Value} {M : Mach} {D : List Frm} {x : Frm} {g cap : Nat} {bv iv ov : Value} {q : List FV} {c : FV} {qb : List Value} (h : DIn w0 W b pv M D x g cap bv iv ov q c qb) : W.cell? ⟨b, 0, none⟩ = some (.slice (some ⟨g, 0, none⟩) (D.length + 1) cap) := by
  rw [cell_at' h.at_.cell]; rfl
theorem bel_set {B : Nat} {w W : World} (h : Below B w W) (a : Addr) (u : Value) : Below B (w.setCell a u) (W.setCell a u) := by
  refine ⟨h.os, h.tape, h.output, by simpa [World.setCell] using h.size, fun k hk => ?_⟩
  simp only [World.setCell, Array.getElem?_modify]
  rw [h.block k hk]
def OnlyFr (b : Nat) (w w' : World) : Prop := ∀ g n c, w.cell? ⟨b, 0, none⟩ = some (.slice (some ⟨g, 0, none⟩) n c) → w.grownBy w' (some g) ∧ ∀ j, j ≠ (n - 1) * 4 + 3 → w'.cell? ⟨g, j, none⟩ = w.cell? ⟨g, j, none⟩
def StkCut (b : Nat) (w w' : World) : Prop := ∀ g n c gs m cs, w.cell? ⟨b, 0, none⟩ = some (.slice (some ⟨g, 0, none⟩) n c) → w.cell? ⟨g, (n - 1) * 4 + 3, none⟩ = some (.slice (some ⟨gs, 0, none⟩) m cs) → w'.cell? ⟨g, (n - 1) * 4 + 3, none⟩ = some (.slice (some ⟨gs, 0, none⟩) (m - 1) cs)
def Oth (w w' : World) : Prop := ∀ (k : Nat) (cs : Array Value) (t : TypeId) (fz : Nat × Nat), w.heap[k]? = some (Obj.cells cs t fz) → t ≠ 48 → t ≠ 50 → w'.heap[k]? = some (Obj.cells cs t fz)
def OnlyFS (b : Nat) (w w' : World) : Prop := ∀ g n c sv, w.cell? ⟨b, 0, none⟩ = some (.slice (some ⟨g, 0, none⟩) n c) → w.cell? ⟨g, (n - 1) * 4 + 3, none⟩ = some sv → (∀ k : Nat, k < w.heap.size → k ≠ g → some k ≠ sv.ownBlock → w'.heap[k]? = w.heap[k]?) ∧ ∀ j, j ≠ (n - 1) * 4 + 3 → w'.cell? ⟨g, j, none⟩ = w.cell? ⟨g, j, none⟩
theorem row_heap {W : World} {B : Nat} {e : TypeId} {size n g : Nat} {v : Value} {xs : List Value} (h : W.ownsRow B e size v n xs) (hg : v.ownBlock = some g) : ∃ cur, W.heap[g]? = some (.cells cur e (0, 0)) := by
  rcases h.2 with ⟨rfl, _⟩ | ⟨g', cap, cur, rfl, _, hh, _⟩
  · cases hg
  · cases hg; exact ⟨_, hh⟩
theorem DIn.ap {w0 W : World} {b : Nat} {pv : Value} {M : Mach} {D : List Frm} {x : Frm} {g cap : Nat} {bv iv ov : Value} {q : List FV} {c : FV} {qb : List Value} (h : DIn w0 W b pv M D x g cap bv iv ov q c qb) {z : Nat} (hz : c.lv.ownBlock = some z) : some z ≠ c.sv.ownBlock := fun e => by
  obtain ⟨r1, r2⟩ := fRows_at (q ++ [c]) q.length c (snoc_last _ _)
  have := h.at_.own.frs.rows.apart _ _ _ _ z r1 r2 hz e.symm
  omega
set_option maxRecDepth 100000 in
set_option maxHeartbeats 2000000 in
theorem dTake_more (w0 : World) (b : Nat) (pv : Value) (M : Mach) (D : List Frm) (x : Frm) (s : List Val) (v : Val) (w : World) (h : Doer w0 w b pv M) (hF : M.frames = D ++ [x]) (hs : x.stk = s ++ [v]) (hD : D.length ≤ 100) (hl : s.length ≤ 100) : Calls Tryz.prog 178 #[.pointer (some ⟨b, 0, none⟩)] w fun e w' => e = .returned (.agg #[.bool v.1, .int .i64 v.2]) ∧ Doer w0 w' b pv { M with frames := D ++ [{ x with stk := s }] } ∧ OnlyFr b w w' ∧ StkCut b w w' := by
  obtain ⟨g, cap, bv, iv, ov, q, c, qb, H⟩ := h.open hF
  obtain ⟨W1, hW1⟩ : ∃ W1, w.alloc (.cells #[.bool false, .int .i64 0] 50) = W1 := ⟨_, rfl⟩
  have b1 : Below w.heap.size w W1 := by rw [← hW1]; exact (Below.refl _ w).alloc (Nat.le_refl _) _
  have x1 : W1.heap[w.heap.size]? = some (.cells #[.bool false, .int .i64 0] 50 (0, 0)) := by rw [← hW1]; exact World.alloc_heap_new w _
  have HI := hideP (innermost_raw b g D.length cap W1 (H.below b1).fcell hD)
  have hbw : g < w.heap.size := by obtain ⟨cur, hg⟩ := H.gb; exact heap_lt hg
  go_enter Tryz.func178, Tryz.ntmps178
  go_wp2_with fail
  refine HI.out.mono ?_
  rintro e w2 ⟨rfl, b2⟩
  have b12 := bthen0 b1 b2
  have H2 := H.below b12
  have x2 := (b2.block _ (heap_lt x1)).trans x1
  have c0 := cell_at' x2 0
  have c1 := cell_at' x2 1
  simp at c0 c1
  have z0 := Lib.frozen_of_heap x2 0
  have z1 := Lib.frozen_of_heap x2 1
  have hst := H2.stk
  rw [hs] at hst
  have hn : (s ++ [v]).length = s.length + 1 := by simp
  rw [hn] at hst
  obtain ⟨gs, caps, hsv⟩ := ownsRow_succ hst
  rw [hsv] at hst
  have c3 := H2.c3
  rw [hsv] at c3
  obtain ⟨cur, hg⟩ := H2.gb
  have z3 := Lib.frozen_of_heap hg (D.length * 4 + 3)
  obtain ⟨ps, cps, hps, hpm, hpc⟩ := valsAt_of_row (l := s ++ [v]) (by rw [hn]; exact hst)
  rw [hn] at hps
  cases hps
  obtain ⟨gb, off, hpp, hgl, d0, d1⟩ := hpc s.length v (snoc_last _ _)
  cases hpp
  have hcap : s.length + 1 ≤ caps := by
    rcases hst.2 with ⟨h1, _⟩ | ⟨g', cap', cur', h1, _, _, h4, _⟩
    · cases h1
    · cases h1; exact h4
  have hne : ¬ g = w.heap.size := by omega
  have hgsw : gs < w.heap.size := by
    have := (H.stk.lt gs (by rw [hsv]; rfl)).2
    exact this
  have HX2 := hideP x2
  have HST := hideP hst
  have HH := hideP H
  have HG := hideP hg
  simp only [Nat.zero_add] at d0 d1
  have hsl : (s.length : Int) < ((s.length + 1 : Nat) : Int) := by omega
  have hne' : ¬ w.heap.size = g := by omega
  have y0 := fun o => cell_old c0 o
  have y1 := fun o => cell_old c1 o
  have y3 := fun o => cell_old c3 o
  have u0 := fun o => Lib.frozen_of_heap (heap_old x2 o) 0
  have u1 := fun o => Lib.frozen_of_heap (heap_old x2 o) 1
  have u3 := fun o => Lib.frozen_of_heap (heap_old hg o) (D.length * 4 + 3)
  clear HI H x1 x2 hst H2 hg hpc hpm h hF hsl
  go_wp2
  refine bodyPost_ret (v := .agg #[.bool v.1, .int .i64 v.2]) (by simp [results, Tryz.results178, go_sem, y0, y1, hne, hne']) rfl ⟨rfl, ?_, ?_, ?_⟩
  rotate_right
  · intro g' n' c' gs' m' cs' h1 h2
    rw [HH.out.fcell] at h1
    cases h1
    rw [Nat.add_sub_cancel, HH.out.c3, hsv] at h2
    cases h2
    rw [Nat.add_sub_cancel, Nat.add_sub_cancel]
    have hgl : g < (w2.alloc (.cells #[.bool v.1, .int .i64 v.2] 50)).heap.size := by have := b12.size; simp; omega
    have e1 : (((w2.alloc (.cells #[.bool v.1, .int .i64 v.2] 50)).setCell ⟨g, D.length * 4 + 3, none⟩ (.slice (some ⟨gs, 0, none⟩) s.length caps)).cell? ⟨g, D.length * 4 + 3, none⟩) = some (.slice (some ⟨gs, 0, none⟩) s.length caps) := World.cell?_setCell_same _ _ _ (y3 _)
    exact ((World.cell?_of_block (Below.heap_setCell _ _ _ g hne)).trans ((World.cell?_of_block (Below.heap_setCell _ _ _ g hne)))).trans e1
  rotate_left
  · intro g' n' c' hg'
    rw [HH.out.fcell] at hg'
    cases hg'
    refine ⟨?_, fun j hj => ?_⟩
    rotate_left
    · have hj' : j ≠ D.length * 4 + 3 := by simpa using hj
      have e1 : (((w2.alloc (.cells #[.bool v.1, .int .i64 v.2] 50)).setCell ⟨g, D.length * 4 + 3, none⟩ (.slice (some ⟨gs, 0, none⟩) s.length caps)).cell? ⟨g, j, none⟩) = w.cell? ⟨g, j, none⟩ := by
        rw [World.cell?_setCell_other _ _ _ _ (fun e => hj' (by cases e; rfl))]
        exact (b12.alloc b12.size _).cell (p := ⟨g, j, none⟩) hbw
      exact ((World.cell?_of_block (Below.heap_setCell _ _ _ g hne)).trans ((World.cell?_of_block (Below.heap_setCell _ _ _ g hne)))).trans e1
    refine grown_high (grown_high ((below_grown (b12.alloc b12.size _) (some g)).trans (set_grown _ ⟨g, D.length * 4 + 3, none⟩ _)) (set_grown _ ⟨w.heap.size, 0, none⟩ _) (fun j hj => ?_)) (set_grown _ ⟨w.heap.size, 1, none⟩ _) (fun j hj => ?_)
    · cases hj; exact Nat.le_refl _
    · cases hj; exact Nat.le_refl _
  have hst0 := HH.out.stk
  rw [hs, hn, hsv] at hst0
  have hcut := row_cut hst0 s.length (by omega)
  rw [valCells_take, List.take_append_of_le_length (Nat.le_refl _), List.take_of_length_le (Nat.le_refl _)] at hcut
  have hD1 := HH.out.setStk (W2 := w) (World.grownBy.refl _ _) hcut (fun z hz => .inl (by rw [hsv]; exact hz))
  refine hD1.below ?_
  have hsz : (w.setCell ⟨g, D.length * 4 + 3, none⟩ (.slice (some ⟨gs, 0, none⟩) s.length caps)).heap.size = w.heap.size := by simp [World.setCell]
  rw [hsz]
  exact ((bel_set (b12.alloc b12.size _) _ _).setCell (p := ⟨w.heap.size, 0, none⟩) (Nat.le_refl _) _).setCell (p := ⟨w.heap.size, 1, none⟩) (Nat.le_refl _) _
theorem dTake_any (w0 : World) (b : Nat) (pv : Value) (M : Mach) (D : List Frm) (x : Frm) (s : List Val) (v : Val) (w : World) (h : Doer w0 w b pv M) (hF : M.frames = D ++ [x]) (hs : x.stk = s ++ [v]) (hD : D.length ≤ 100) (hl : s.length ≤ 100) : Calls Tryz.prog 178 #[.pointer (some ⟨b, 0, none⟩)] w fun e w' => e = .returned (.agg #[.bool v.1, .int .i64 v.2]) ∧ Doer w0 w' b pv { M with frames := D ++ [{ x with stk := s }] } ∧ OnlyFr b w w' :=
  (dTake_more w0 b pv M D x s v w h hF hs hD hl).mono fun _ _ h => ⟨h.1, h.2.1, h.2.2.1⟩
set_option maxRecDepth 100000 in
set_option maxHeartbeats 2000000 in
theorem dPut_any (w0 : World) (b : Nat) (pv : Value) (M : Mach) (D : List Frm) (x : Frm) (u : Value) (l : List Val) (w : World) (h : Doer w0 w b pv M) (hF : M.frames = D ++ [x]) (hu : ValsAt w u l) (hnl : NilOk u) (hD : D.length ≤ 100) (hl : x.stk.length ≤ 100) (hll : l.length ≤ 100) : Calls Tryz.prog 179 #[.pointer (some ⟨b, 0, none⟩), u] w fun e w' => e = .returned (.tuple #[]) ∧ Doer w0 w' b pv { M with frames := D ++ [{ x with stk := x.stk ++ l }] } ∧ Oth w w' ∧ OnlyFS b w w' := by
  obtain ⟨g, cap, bv, iv, ov, q, c, qb, H⟩ := h.open hF
  have HI := hideP (innermost_raw b g D.length cap w H.fcell hD)
  obtain ⟨p', c', hu1, _, _⟩ := id hu
  subst hu1
  go_enter Tryz.func179, Tryz.ntmps179
  go_wp2_with fail
  refine HI.out.mono ?_
  rintro e w2 ⟨rfl, b2⟩
  have H2 := H.below b2
  have HU := hideP (hu.below b2)
  have c3 := H2.c3
  obtain ⟨cur, hg⟩ := H2.gb
  have hst := H2.stk
  obtain ⟨ps, cs, hsv⟩ := row_shp hst
  rw [hsv] at c3
  have hst' := hst
  rw [hsv] at hst'
  have HST := hideP hst'
  have HH := hideP H2
  have HG := hideP hg
  have hb2 := H2.at_.bel.size
  have HF0 := hideP H.fcell
  have HC0 := hideP H.c3
  have HGW : Hid (g < w.heap.size) := by obtain ⟨cur, hg⟩ := H.gb; exact heap_lt hg
  clear HI H hst hst' H2 hg hu h hF
  go_wp2_with (at_builtin; refine wpList_append_vals rfl _ _ rfl w0.heap.size _ _ _ rfl HST.out _ l rfl HU.out hnl (by unfold maxLen; omega) (by omega) hb2 ?_; intro v3 w3 hown3 hg3 hat3; obtain ⟨p3, c3', hv3⟩ := row_shp hown3; subst hv3; have hgg := (hg3.block g (heap_lt HG.out) (fun e => by have := row_not HST.out HG.out (by decide); exact this e)).trans HG.out; have f3 := Lib.frozen_of_heap hgg (D.length * 4 + 3); have c4 := (cell_at' hgg (D.length * 4 + 3)).trans ((cell_at' HG.out (D.length * 4 + 3)).symm.trans c3); have HO3 := hideP hown3; have HG3 := hideP hg3; have HAT := hideP hat3; clear hown3 hg3 hat3 hgg)
  go_end0
  refine ⟨rfl, HH.out.setStk (by rw [hsv]; exact HG3.out) ?_ (fun z hz => ?_), ?_, ?_⟩
  rotate_right
  · intro g' n' c' sv' h1 h2
    rw [HF0.out] at h1
    cases h1
    rw [Nat.add_sub_cancel, HC0.out] at h2
    cases h2
    have hgl := heap_lt HG.out
    refine ⟨fun k hk hkg hks => ?_, fun j hj => ?_⟩
    · have k3 := (HG3.out.block k (Nat.lt_of_lt_of_le hk b2.size) (by rw [hsv] at hks; exact hks)).trans (b2.block k hk)
      exact ((set_grown w3 ⟨g, D.length * 4 + 3, none⟩ _).block k (Nat.lt_of_lt_of_le (Nat.lt_of_lt_of_le hk b2.size) HG3.out.size) (fun e => hkg (by simpa using e))).trans k3
    · have hj' : j ≠ D.length * 4 + 3 := by simpa using hj
      rw [World.cell?_setCell_other _ _ _ _ (fun e => hj' (by cases e; rfl))]
      exact (World.cell?_of_block (a := ⟨g, j, none⟩) (HG3.out.block g hgl (row_not HST.out HG.out (by decide)))).trans (b2.cell (p := ⟨g, j, none⟩) HGW.out)
  rotate_right
  · intro k cs t fz hk t1 t2
    have k2 := (b2.block k (heap_lt hk)).trans hk
    have k3 := (HG3.out.block k (heap_lt k2) (row_not HST.out k2 t2)).trans k2
    refine ((set_grown w3 ⟨g, D.length * 4 + 3, none⟩ _).block k (heap_lt k3) (fun e => ?_)).trans k3
    have e' : k = g := by simpa using e
    rw [e', HG.out] at k2
    simp at k2
    exact t1 k2.2.1.symm
  · have := HO3.out
    rw [List.length_append, valCells_append]
    exact this
  · rcases HAT.out with h1 | h1
    · exact .inl (by rw [hsv]; exact h1.symm.trans hz)
    · right
      rw [h1] at hz
      cases hz
      exact Nat.le_refl _
set_option maxHeartbeats 1000000 in
theorem dPutNumber_any (w0 : World) (b : Nat) (pv : Value) (M : Mach) (D : List Frm) (x : Frm) (n : Int) (w : World) (h : Doer w0 w b pv M) (hF : M.frames = D ++ [x]) (hD : D.length ≤ 100) (hl : x.stk.length ≤ 100) : Calls Tryz.prog 176 #[.pointer (some ⟨b, 0, none⟩), .int .i64 n] w fun e w' => e = .returned (.tuple #[]) ∧ Doer w0 w' b pv { M with frames := D ++ [{ x with stk := x.stk ++ [(false, n)] }] } ∧ Oth w w' := by
  have hb : Below w.heap.size w (w.alloc (.cells #[.bool false, .int .i64 n] 50)) := (Below.refl _ w).alloc (Nat.le_refl _) _
  have HP := hideP (dPut_any w0 b pv M D x (.slice (some ⟨w.heap.size, 0, none⟩) 1 1) [(false, n)] _ (h.below hb) hF (vals_new (World.alloc_heap_new w _) rfl (by unfold maxLen; simp)) (nilOk_some _ _ _) hD hl (by simp))
  clear h
  go_enter Tryz.func176, Tryz.ntmps176
  go_wp2_with (go_at_call 179; refine HP.out.mono ?_; rintro e w2 ⟨rfl, h2, o2, -⟩; have H2 := hideP h2; have O2 := hideP o2; clear h2 o2)
  go_end0
  exact ⟨rfl, H2.out, fun k cs t fz hk t1 t2 => O2.out k cs t fz (heap_old hk _) t1 t2⟩
set_option maxHeartbeats 1000000 in
theorem dPutRef_any (w0 : World) (b : Nat) (pv : Value) (M : Mach) (D : List Frm) (x : Frm) (n : Int) (w : World) (h : Doer w0 w b pv M) (hF : M.frames = D ++ [x]) (hD : D.length ≤ 100) (hl : x.stk.length ≤ 100) : Calls Tryz.prog 177 #[.pointer (some ⟨b, 0, none⟩), .int .i64 n] w fun e w' => e = .returned (.tuple #[]) ∧ Doer w0 w' b pv { M with frames := D ++ [{ x with stk := x.stk ++ [(true, n)] }] } ∧ Oth w w' := by
  have hb : Below w.heap.size w (w.alloc (.cells #[.bool true, .int .i64 n] 50)) := (Below.refl _ w).alloc (Nat.le_refl _) _
  have HP := hideP (dPut_any w0 b pv M D x (.slice (some ⟨w.heap.size, 0, none⟩) 1 1) [(true, n)] _ (h.below hb) hF (vals_new (World.alloc_heap_new w _) rfl (by unfold maxLen; simp)) (nilOk_some _ _ _) hD hl (by simp))
  clear h
  go_enter Tryz.func177, Tryz.ntmps177
  go_wp2_with (go_at_call 179; refine HP.out.mono ?_; rintro e w2 ⟨rfl, h2, o2, -⟩; have H2 := hideP h2; have O2 := hideP o2; clear h2 o2)
  go_end0
  exact ⟨rfl, H2.out, fun k cs t fz hk t1 t2 => O2.out k cs t fz (heap_old hk _) t1 t2⟩
end Go.Proofs.YtcadpoknolefpaaGreat


