/- My texts Mu Na Mr: what of them is needed, joined. -/

import Derived.Test.YtmjjkenblfndgaaGreatC5
import Derived.Test.YtmjjkenblfndgaaGreatC6
import Derived.Test.YtmjjkenblfndgaaGreatC9
import Derived.Test.YtmjjkenblfndgaaGreatC12
import Derived.Test.YtmjjkenblfndgaaGreatC13
import Derived.Test.YtmjjkenblfndgaaGreatC14
set_option maxRecDepth 100000
set_option maxHeartbeats 8000000
/- machine's checker: boxes; values and frames that stray. -/
namespace Go.Proofs.YtmjjkenblfndgaaGreat
open Go.RowKit
set_option linter.unusedSimpArgs false
set_option linter.unusedVariables false
theorem xhrZ (n : Int) (w : World) : Calls Tryz.prog 139 #[.int .i64 n] w fun e w' => e = .returned (.bool (isI32 n)) ∧ w' = w := by
  go_enter Tryz.func139, Tryz.ntmps139
  go_wp2_with (go_at_call 41; refine (xdqZ _ _).mono ?_; rintro e w4 ⟨rfl, hw4⟩; have hw4 := hw4.symm; subst hw4)
  go_ret
  exact ⟨by rw [← xhmZ]; rfl, rfl⟩
theorem ckBox1_any (n : Int) (w : World) : Calls Tryz.prog 138 #[.int .i64 n] w fun e w' => e = .returned (.bool (!isI32 n)) ∧ w' = w := by
  have hnot : ∀ (x : Bool) (w : World), (Op.unary .not (.bool x)).run Tryz.prog w = .ok (.bool (!x)) w := fun _ _ => rfl
  go_enter Tryz.func138, Tryz.ntmps138
  go_wp2_with (go_at_call 139; refine (xhrZ _ _).mono ?_; rintro e w4 ⟨rfl, hw4⟩; have hw4 := hw4.symm; subst hw4)
  go_ret
  exact ⟨rfl, rfl⟩
theorem xghZ (l : List Int) (v : Value) (w : World) (h : IntsAt w v l) : Calls Tryz.prog 140 #[v, .func (.func 138) #[] #[]] w fun e w' => e = .returned (.bool (!l.all isI32)) ∧ Below w.heap.size w w' :=
  xf4Z 138 #[] (fun _ => True) isI32 l v w h trivial (fun _ _ _ _ => trivial) (xceZ Tryz.func138 (by kernel_rfl) rfl) (fun z W _ => (ckBox1_any z W).mono (by rintro e w' ⟨rfl, rfl⟩; exact ⟨rfl, Below.refl _ _⟩))
/-- IndexFunc at a function whose contract is given: whether one is found. -/
theorem xm1Z (F : Nat) (caps : Array Value) (I : World → Prop) (q : Frm → Bool) (l : List Frm) (v : Value) (w : World) (h : FrmsAt w v l) (hI : I w) (hkI : ∀ W W', I W → Below W.heap.size W W' → I W') (hE : Ent F)
    (hF : ∀ (z : Frm) (lv sv : Value) (W : World), I W → (∃ p n c, lv = .slice p n c) → (∃ p n c, sv = .slice p n c) → Calls Tryz.prog F (#[.agg #[.int .i64 z.fn, .int .i64 z.pc, lv, sv]] ++ caps) W fun e w' => e = .returned (.bool (!q z)) ∧ Below W.heap.size W w') :
    Calls Tryz.prog 178 #[v, .func (.func F) #[] caps] w fun e w' => ∃ r, e = .returned (.int .i64 r) ∧ decide (0 ≤ r) = (!l.all q) ∧ Below w.heap.size w w' := by
  obtain ⟨p, cap, rfl, hm, -, hc⟩ := h
  unfold maxLen at hm
  have HI := hideP hI
  have HKI := hideP hkI
  have HF := hideP hF
  have hEE := fun args W => hE args W
  clear hI hkI hF hE
  go_enter Tryz.func178, Tryz.ntmps178
  go_wp2
  go_loopw [5, 8] (fun _ i wr => ∃ k : Nat, k ≤ l.length ∧ i = .int .i64 k ∧ (∀ o ∈ l.take k, q o = true) ∧ Below w.heap.size w wr) (fun _ i _ => l.length - (intOf i).toNat)
  case atStart => exact ⟨0, Nat.zero_le _, rfl, by simp, Below.refl _ _⟩
  case round =>
    obtain ⟨k, hk, rfl, hok, hbw⟩ := hrel
    have HK := hideP hok
    have HC := hideP hc
    clear hok hc
    by_cases hlt : k < l.length
    · obtain ⟨z, ho⟩ := xagZ hlt
      obtain ⟨b, off, lv, sv, rfl, hb, h0, h1, h2, h3, hl, -, hs, -⟩ := HC.out k _ ho
      obtain ⟨pl, cl, hlv, -, -⟩ := hl
      obtain ⟨ps, cs, hsv, -, -⟩ := hs
      subst hlv hsv
      have g0 := (hbw.cell (p := ⟨b, off + k * 4, none⟩) hb).trans h0
      have g1 := (hbw.cell (p := ⟨b, off + k * 4 + 1, none⟩) hb).trans h1
      have g2 := (hbw.cell (p := ⟨b, off + k * 4 + 2, none⟩) hb).trans h2
      have g3 := (hbw.cell (p := ⟨b, off + k * 4 + 3, none⟩) hb).trans h3
      have HO := hideP ho
      have hi := hideP (HKI.out _ _ HI.out hbw)
      clear ho h0 h1 h2 h3
      cases hnb : q z
      · go_wp2_with fail
        refine (HF.out z _ _ wr hi.out ⟨_, _, _, rfl⟩ ⟨_, _, _, rfl⟩).mono ?_
        rw [hnb]
        rintro e w2 ⟨rfl, hb2⟩
        go_wp2
        go_ret
        exact ⟨k, rfl, by rw [xcuZ HO.out hnb]; simp, hbw.trans (hb2.mono hbw.size)⟩
      · go_wp2_with fail
        refine (HF.out z _ _ wr hi.out ⟨_, _, _, rfl⟩ ⟨_, _, _, rfl⟩).mono ?_
        rw [hnb]
        rintro e w2 ⟨rfl, hb2⟩
        go_wp2
        go_roundw
        case rel => exact ⟨k + 1, by omega, by go_num, xczZ HK.out HO.out hnb, hbw.trans (hb2.mono hbw.size)⟩
        case measure => simp [intOf]; omega
    · have hlt' : ¬ (k : Int) < (l.length : Int) := by omega
      go_wp2
      go_ret
      refine ⟨-1, rfl, ?_, hbw⟩
      have := HK.out
      rw [List.take_of_length_le (by omega)] at this
      rw [xc0Z this]; decide
theorem xjiZ (F : Nat) (caps : Array Value) (I : World → Prop) (q : Frm → Bool) (l : List Frm) (v : Value) (w : World) (h : FrmsAt w v l) (hI : I w) (hkI : ∀ W W', I W → Below W.heap.size W W' → I W') (hE : Ent F)
    (hF : ∀ (z : Frm) (lv sv : Value) (W : World), I W → (∃ p n c, lv = .slice p n c) → (∃ p n c, sv = .slice p n c) → Calls Tryz.prog F (#[.agg #[.int .i64 z.fn, .int .i64 z.pc, lv, sv]] ++ caps) W fun e w' => e = .returned (.bool (!q z)) ∧ Below W.heap.size W w') :
    Calls Tryz.prog 142 #[v, .func (.func F) #[] caps] w fun e w' => e = .returned (.bool (!l.all q)) ∧ Below w.heap.size w w' := by
  go_enter Tryz.func142, Tryz.ntmps142
  go_wp2_with fail
  refine (xm1Z F caps I q l v _ h hI hkI hE hF).mono ?_
  rintro e w2 ⟨r, rfl, hr, hb2⟩
  have HR := hideP hr
  clear hr
  go_wp2
  go_ret
  exact ⟨by rw [← HR.out]; rfl, hb2⟩
theorem xpdZ (M : Mach) (pv fv bv iv ov : Value) (w : World) (h1 : ∃ p n c, pv = .slice p n c) (h2 : ∃ p n c, fv = .slice p n c) (h3 : ∃ p n c, bv = .slice p n c) (hi : IntsAt w iv M.inp) (ho : IntsAt w ov M.out) : Calls Tryz.prog 105 #[chkV pv fv bv iv ov M] w (Says (xc9Z M) w) := by
  obtain ⟨p1, n1, c1, rfl⟩ := h1
  obtain ⟨p2, n2, c2, rfl⟩ := h2
  obtain ⟨p3, n3, c3, rfl⟩ := h3
  obtain ⟨pi, ci, hiv, him, -⟩ := id hi
  obtain ⟨po, co, hov, hom, -⟩ := id ho
  subst hiv hov
  unfold maxLen at him hom
  obtain ⟨F, B, I, O, st, tr⟩ := M
  simp only at him hom hi ho ⊢
  by_cases a1 : 10 < I.length
  · have a1' : (10 : Int) < (I.length : Int) := by omega
    go_enter Tryz.func105, Tryz.ntmps105
    go_wp2
    go_ret
    exact xbtZ (by simp [xc9Z, a1])
  have a1' : ¬ (10 : Int) < (I.length : Int) := by omega
  by_cases a2 : 10 < O.length
  · have a2' : (10 : Int) < (O.length : Int) := by omega
    go_enter Tryz.func105, Tryz.ntmps105
    go_wp2
    go_ret
    exact xbtZ (by simp [xc9Z, a2])
  have a2' : ¬ (10 : Int) < (O.length : Int) := by omega
  obtain ⟨W1, hW1⟩ : ∃ W1, w.alloc (.cells #[.slice p2 n2 c2, .slice p3 n3 c3, .slice pi I.length ci, .slice po O.length co, .int .i64 st, .int .i64 tr, .slice p1 n1 c1] 121) = W1 := ⟨_, rfl⟩
  have b1 : Below w.heap.size w W1 := by rw [← hW1]; exact (Below.refl _ w).alloc (Nat.le_refl _) _
  have x1 : W1.heap[w.heap.size]? = some (.cells #[.slice p2 n2 c2, .slice p3 n3 c3, .slice pi I.length ci, .slice po O.length co, .int .i64 st, .int .i64 tr, .slice p1 n1 c1] 121 (0, 0)) := by rw [← hW1]; exact World.alloc_heap_new w _
  have lx := xacZ x1
  have d2 : W1.cell? ⟨w.heap.size, 2, none⟩ = some (.slice pi I.length ci) := xaaZ x1 2
  have d3 : W1.cell? ⟨w.heap.size, 3, none⟩ = some (.slice po O.length co) := xaaZ x1 3
  have HI := hideP (xghZ I _ W1 (hi.below b1))
  have HO : Hid (∀ W, Below W1.heap.size W1 W → Calls Tryz.prog 140 #[.slice po O.length co, .func (.func 138) #[] #[]] W fun e w' => e = .returned (.bool (!O.all isI32)) ∧ Below W.heap.size W w') := fun W hW => xghZ O _ W ((ho.below b1).below hW)
  clear hi ho x1
  cases hI : I.all isI32
  · rw [hI] at HI
    go_enter Tryz.func105, Tryz.ntmps105
    go_wp2_with (go_at_call 140; refine HI.out.mono ?_; rintro e w2 ⟨rfl, b2⟩)
    go_ret
    exact ⟨by simp [xc9Z, a1, a2, hI], xafZ b1 b2⟩
  · rw [hI] at HI
    cases hO : O.all isI32
    · rw [hO] at HO
      go_enter Tryz.func105, Tryz.ntmps105
      go_wp2_with (first
        | (go_at_call 140; (with_reducible refine HI.out.mono ?_); rintro e w2 ⟨rfl, b2⟩; have e3 := (b2.cell (p := ⟨w.heap.size, 3, none⟩) lx).trans d3)
        | (go_at_call 140; (with_reducible refine (HO.out _ b2).mono ?_); rintro e w3 ⟨rfl, b3⟩))
      go_ret
      exact ⟨by simp [xc9Z, a1, a2, hI, hO], xafZ (xafZ b1 b2) b3⟩
    · rw [hO] at HO
      go_enter Tryz.func105, Tryz.ntmps105
      go_wp2_with (first
        | (go_at_call 140; (with_reducible refine HI.out.mono ?_); rintro e w2 ⟨rfl, b2⟩; have e3 := (b2.cell (p := ⟨w.heap.size, 3, none⟩) lx).trans d3)
        | (go_at_call 140; (with_reducible refine (HO.out _ b2).mono ?_); rintro e w3 ⟨rfl, b3⟩))
      go_ret
      exact ⟨by simp [xc9Z, a1, a2, hI, hO], xafZ (xafZ b1 b2) b3⟩
theorem xpfZ (p : List Fn) (z : Frm) (lv sv : Value) (pp : Option Addr) (qp bx : Nat) (w : World) (h1 : ∃ p n c, lv = .slice p n c) (h2 : ∃ p n c, sv = .slice p n c) (hc : w.cell? ⟨bx, 6, none⟩ = some (.slice pp p.length qp)) : Calls Tryz.prog 141 #[.agg #[.int .i64 z.fn, .int .i64 z.pc, lv, sv], .pointer (some ⟨bx, 0, none⟩)] w fun e w' => e = .returned (.bool (!xb0Z p z)) ∧ Below w.heap.size w w' := by
  obtain ⟨p1, n1, c1, rfl⟩ := h1
  obtain ⟨p2, n2, c2, rfl⟩ := h2
  have hca := fun o => xabZ hc o
  by_cases a1 : z.fn < 0
  · go_enter Tryz.func141, Tryz.ntmps141
    go_wp2
    go_ret
    exact ⟨by simp [xb0Z]; omega, (Below.refl _ w).alloc (Nat.le_refl _) _⟩
  · by_cases a2 : z.fn ≥ (p.length : Int)
    · go_enter Tryz.func141, Tryz.ntmps141
      go_wp2
      go_ret
      exact ⟨by simp [xb0Z]; omega, (Below.refl _ w).alloc (Nat.le_refl _) _⟩
    · go_enter Tryz.func141, Tryz.ntmps141
      go_wp2
      go_ret
      exact ⟨by simp [xb0Z]; omega, (Below.refl _ w).alloc (Nat.le_refl _) _⟩
end Go.Proofs.YtmjjkenblfndgaaGreat


/- machine's checker: values that stray, entries, types of values. -/
namespace Go.Proofs.YtmjjkenblfndgaaGreat
open Go.RowKit
set_option linter.unusedSimpArgs false
set_option linter.unusedVariables false
/-- IndexFunc at a function whose contract is given: whether one is found. -/
theorem xm4Z (F : Nat) (fst : Array Value) (I : World → Prop) (q : Val → Bool) (l : List Val) (v : Value) (w : World) (h : ValsAt w v l) (hI : I w) (hkI : ∀ W W', I W → Below W.heap.size W W' → I W') (hE : Ent F)
    (hF : ∀ (z : Val) (W : World), I W → Calls Tryz.prog F (fst ++ #[.agg #[.bool z.1, .int .i64 z.2]]) W fun e w' => e = .returned (.bool (!q z)) ∧ Below W.heap.size W w') :
    Calls Tryz.prog 221 #[v, .func (.func F) fst #[]] w fun e w' => ∃ r, e = .returned (.int .i64 r) ∧ decide (0 ≤ r) = (!l.all q) ∧ Below w.heap.size w w' := by
  obtain ⟨p, cap, rfl, hm, hc⟩ := h
  unfold maxLen at hm
  have HI := hideP hI
  have HKI := hideP hkI
  have HF := hideP hF
  have hEE := fun args W => hE args W
  clear hI hkI hF hE
  go_enter Tryz.func221, Tryz.ntmps221
  go_wp2
  go_loopw [5, 8] (fun _ i wr => ∃ k : Nat, k ≤ l.length ∧ i = .int .i64 k ∧ (∀ o ∈ l.take k, q o = true) ∧ Below w.heap.size w wr) (fun _ i _ => l.length - (intOf i).toNat)
  case atStart => exact ⟨0, Nat.zero_le _, rfl, by simp, Below.refl _ _⟩
  case round =>
    obtain ⟨k, hk, rfl, hok, hbw⟩ := hrel
    have HK := hideP hok
    have HC := hideP hc
    clear hok hc
    by_cases hlt : k < l.length
    · obtain ⟨z, ho⟩ := xagZ hlt
      obtain ⟨b, off, rfl, hb, h0, h1⟩ := HC.out k _ ho
      have g0 := (hbw.cell (p := ⟨b, off + k * 2, none⟩) hb).trans h0
      have g1 := (hbw.cell (p := ⟨b, off + k * 2 + 1, none⟩) hb).trans h1
      have HO := hideP ho
      have hi := hideP (HKI.out _ _ HI.out hbw)
      clear ho h0 h1
      cases hnb : q z
      · go_wp2_with fail
        refine (HF.out z wr hi.out).mono ?_
        rw [hnb]
        rintro e w2 ⟨rfl, hb2⟩
        go_wp2
        go_ret
        exact ⟨k, rfl, by rw [xcuZ HO.out hnb]; simp, hbw.trans (hb2.mono hbw.size)⟩
      · go_wp2_with fail
        refine (HF.out z wr hi.out).mono ?_
        rw [hnb]
        rintro e w2 ⟨rfl, hb2⟩
        go_wp2
        go_roundw
        case rel => exact ⟨k + 1, by omega, by go_num, xczZ HK.out HO.out hnb, hbw.trans (hb2.mono hbw.size)⟩
        case measure => simp [intOf]; omega
    · have hlt' : ¬ (k : Int) < (l.length : Int) := by omega
      go_wp2
      go_ret
      refine ⟨-1, rfl, ?_, hbw⟩
      have := HK.out
      rw [List.take_of_length_le (by omega)] at this
      rw [xc0Z this]; decide
theorem xjjZ (F : Nat) (fst : Array Value) (I : World → Prop) (q : Val → Bool) (l : List Val) (v : Value) (w : World) (h : ValsAt w v l) (hI : I w) (hkI : ∀ W W', I W → Below W.heap.size W W' → I W') (hE : Ent F)
    (hF : ∀ (z : Val) (W : World), I W → Calls Tryz.prog F (fst ++ #[.agg #[.bool z.1, .int .i64 z.2]]) W fun e w' => e = .returned (.bool (!q z)) ∧ Below W.heap.size W w') :
    Calls Tryz.prog 179 #[v, .func (.func F) fst #[]] w fun e w' => e = .returned (.bool (!l.all q)) ∧ Below w.heap.size w w' := by
  go_enter Tryz.func179, Tryz.ntmps179
  go_wp2_with fail
  refine (xm4Z F fst I q l v _ h hI hkI hE hF).mono ?_
  rintro e w2 ⟨r, rfl, hr, hb2⟩
  have HR := hideP hr
  clear hr
  go_wp2
  go_ret
  exact ⟨by rw [← HR.out]; rfl, hb2⟩
/-- IndexFunc at a function whose contract is given: whether one is found. -/
theorem xm0Z (F : Nat) (caps : Array Value) (I : World → Prop) (q : Nat × List Int → Bool) (l : List (Nat × List Int)) (v : Value) (w : World) (h : EntsRd w v l) (hI : I w) (hkI : ∀ W W', I W → Below W.heap.size W W' → I W') (hE : Ent F)
    (hF : ∀ (z : Nat × List Int) (u : Value) (W : World), I W → (∃ p n c, u = .slice p n c) → Calls Tryz.prog F (#[.agg #[.int .i64 z.1, u]] ++ caps) W fun e w' => e = .returned (.bool (!q z)) ∧ Below W.heap.size W w') :
    Calls Tryz.prog 235 #[v, .func (.func F) #[] caps] w fun e w' => ∃ r : Int, e = .returned (.int .i64 r) ∧ ((r = -1 ∧ l.all q = true) ∨ ∃ (k : Nat) (z : Nat × List Int), r = (k : Int) ∧ l[k]? = some z ∧ q z = false ∧ ∀ y ∈ l.take k, q y = true) ∧ Below w.heap.size w w' := by
  obtain ⟨p, cap, rfl, hm, hc⟩ := h
  unfold maxLen at hm
  have HI := hideP hI
  have HKI := hideP hkI
  have HF := hideP hF
  have hEE := fun args W => hE args W
  clear hI hkI hF hE
  go_enter Tryz.func235, Tryz.ntmps235
  go_wp2
  go_loopw [5, 8] (fun _ i wr => ∃ k : Nat, k ≤ l.length ∧ i = .int .i64 k ∧ (∀ o ∈ l.take k, q o = true) ∧ Below w.heap.size w wr) (fun _ i _ => l.length - (intOf i).toNat)
  case atStart => exact ⟨0, Nat.zero_le _, rfl, by simp, Below.refl _ _⟩
  case round =>
    obtain ⟨k, hk, rfl, hok, hbw⟩ := hrel
    have HK := hideP hok
    have HC := hideP hc
    clear hok hc
    by_cases hlt : k < l.length
    · obtain ⟨z, ho⟩ := xagZ hlt
      obtain ⟨b, off, u, rfl, hb, h0, h1, hu⟩ := HC.out k z.1 z.2 ho
      obtain ⟨pu, cu, hus, -⟩ := hu.shp
      subst hus
      clear hu
      have g0 := (hbw.cell (p := ⟨b, off + k * 2, none⟩) hb).trans h0
      have g1 := (hbw.cell (p := ⟨b, off + k * 2 + 1, none⟩) hb).trans h1
      have HO := hideP ho
      have hi := hideP (HKI.out _ _ HI.out hbw)
      clear ho h0 h1
      cases hnb : q z
      · go_wp2_with fail
        refine (HF.out z _ wr hi.out ⟨_, _, _, rfl⟩).mono ?_
        rw [hnb]
        rintro e w2 ⟨rfl, hb2⟩
        go_wp2
        go_ret
        exact ⟨k, rfl, .inr ⟨k, z, rfl, HO.out, hnb, HK.out⟩, hbw.trans (hb2.mono hbw.size)⟩
      · go_wp2_with fail
        refine (HF.out z _ wr hi.out ⟨_, _, _, rfl⟩).mono ?_
        rw [hnb]
        rintro e w2 ⟨rfl, hb2⟩
        go_wp2
        go_roundw
        case rel => exact ⟨k + 1, by omega, by go_num, xczZ HK.out HO.out hnb, hbw.trans (hb2.mono hbw.size)⟩
        case measure => simp [intOf]; omega
    · have hlt' : ¬ (k : Int) < (l.length : Int) := by omega
      go_wp2
      go_ret
      refine ⟨-1, rfl, .inl ⟨rfl, ?_⟩, hbw⟩
      have := HK.out
      rw [List.take_of_length_le (by omega)] at this
      exact fun a b hab => List.all_eq_true.1 (xc0Z this) _ hab
theorem strays_any (M : Mach) (pv fv bv iv ov : Value) (z : Val) (w : World) (h1 : ∃ p n c, pv = .slice p n c) (h2 : ∃ p n c, fv = .slice p n c) (h3 : ∃ p c, bv = .slice p M.blocks.length c) (h4 : ∃ p n c, iv = .slice p n c) (h5 : ∃ p n c, ov = .slice p n c) : Calls Tryz.prog 180 #[chkV pv fv bv iv ov M, .agg #[.bool z.1, .int .i64 z.2]] w fun e w' => e = .returned (.bool (!okV M.blocks.length z)) ∧ Below w.heap.size w w' := by
  obtain ⟨p1, n1, c1, rfl⟩ := h1
  obtain ⟨p2, n2, c2, rfl⟩ := h2
  obtain ⟨p3, c3, rfl⟩ := h3
  obtain ⟨p4, n4, c4, rfl⟩ := h4
  obtain ⟨p5, n5, c5, rfl⟩ := h5
  obtain ⟨r, n⟩ := z
  cases r
  · go_enter Tryz.func180, Tryz.ntmps180
    have hnot : ∀ (x : Bool) (w : World), (Op.unary .not (.bool x)).run Tryz.prog w = .ok (.bool (!x)) w := fun _ _ => rfl
    go_wp2_with (go_at_call 139; refine (xhrZ _ _).mono ?_; rintro e w4 ⟨rfl, hw4⟩; have hw4 := hw4.symm; subst hw4)
    go_ret
    exact ⟨by simp [okV], ((Below.refl _ w).alloc (Nat.le_refl _) _).alloc (by simp) _⟩
  · by_cases a1 : n < 0
    · go_enter Tryz.func180, Tryz.ntmps180
      go_wp2
      go_ret
      exact ⟨by simp [okV]; omega, ((Below.refl _ w).alloc (Nat.le_refl _) _).alloc (by simp) _⟩
    · have a1' : decide (n < 0) = false := by simpa using a1
      by_cases a2 : (M.blocks.length : Int) < n
      · go_enter Tryz.func180, Tryz.ntmps180
        go_wp2
        go_ret
        exact ⟨by simp [okV]; omega, ((Below.refl _ w).alloc (Nat.le_refl _) _).alloc (by simp) _⟩
      · go_enter Tryz.func180, Tryz.ntmps180
        go_wp2
        go_ret
        exact ⟨by simp [okV]; omega, ((Below.refl _ w).alloc (Nat.le_refl _) _).alloc (by simp) _⟩
theorem allOk_any (M : Mach) (pv fv bv iv ov : Value) (l : List Val) (v : Value) (w : World) (h : ValsAt w v l) (h1 : ∃ p n c, pv = .slice p n c) (h2 : ∃ p n c, fv = .slice p n c) (h3 : ∃ p c, bv = .slice p M.blocks.length c) (h4 : ∃ p n c, iv = .slice p n c) (h5 : ∃ p n c, ov = .slice p n c) : Calls Tryz.prog 179 #[v, .func (.func 180) #[chkV pv fv bv iv ov M] #[]] w fun e w' => e = .returned (.bool (!l.all (okV M.blocks.length))) ∧ Below w.heap.size w w' :=
  xjjZ 180 #[chkV pv fv bv iv ov M] (fun _ => True) (okV M.blocks.length) l v w h trivial (fun _ _ _ _ => trivial) (xceZ Tryz.func180 (by kernel_rfl) rfl) (fun z W _ => strays_any M pv fv bv iv ov z W h1 h2 h3 h4 h5)
theorem entry1_any (n : Int) (z : Nat × List Int) (u : Value) (bx : Nat) (w : World) (h : ∃ p n c, u = .slice p n c) (hc : w.cell? ⟨bx, 0, none⟩ = some (.int .i64 n)) : Calls Tryz.prog 236 #[.agg #[.int .i64 z.1, u], .pointer (some ⟨bx, 0, none⟩)] w fun e w' => e = .returned (.bool (decide ((z.1 : Int) = n))) ∧ Below w.heap.size w w' := by
  obtain ⟨p1, n1, c1, rfl⟩ := h
  have hca := fun o => xabZ hc o
  by_cases a : (z.1 : Int) = n
  · have a' : ((z.1 : Int) == n) = true := by simpa using a
    go_enter Tryz.func236, Tryz.ntmps236
    go_wp2
    go_ret
    exact ⟨by simp [a], (Below.refl _ w).alloc (Nat.le_refl _) _⟩
  · have a' : ((z.1 : Int) == n) = false := by simpa using a
    go_enter Tryz.func236, Tryz.ntmps236
    go_wp2
    go_ret
    exact ⟨by simp [a], (Below.refl _ w).alloc (Nat.le_refl _) _⟩
def entIx : List (Nat × List Int) → Int → Int
  | [], _ => -1
  | z :: r, n => if (z.1 : Int) = n then 0 else if entIx r n < 0 then -1 else entIx r n + 1
theorem xkbZ : ∀ {l : List (Nat × List Int)} {n : Int}, (∀ z ∈ l, (z.1 : Int) ≠ n) → entIx l n = -1
  | [], _, _ => rfl
  | z :: r, n, h => by
    unfold entIx
    rw [if_neg (h z (by simp)), if_pos (by rw [xkbZ (fun y hy => h y (by simp [hy]))]; decide)]
theorem entIx_at : ∀ {l : List (Nat × List Int)} {n : Int} {k : Nat} {z : Nat × List Int}, l[k]? = some z → (z.1 : Int) = n → (∀ y ∈ l.take k, (y.1 : Int) ≠ n) → entIx l n = (k : Int)
  | [], _, k, _, h, _, _ => by simp at h
  | y :: r, n, 0, z, h, hz, _ => by
    simp at h
    subst h
    unfold entIx
    rw [if_pos hz]; rfl
  | y :: r, n, k + 1, z, h, hz, hk => by
    have ih := entIx_at (l := r) (n := n) (k := k) (by simpa using h) hz (fun y hy => hk y (by simp [hy]))
    unfold entIx
    rw [if_neg (hk y (by simp)), ih, if_neg (by omega)]
    omega
theorem xfuZ : ∀ (l : List (Nat × List Int)) (n : Int), (entIx l n = -1 ∧ ∀ z ∈ l, (z.1 : Int) ≠ n) ∨ ∃ (k : Nat) (z : Nat × List Int), entIx l n = (k : Int) ∧ l[k]? = some z ∧ (z.1 : Int) = n
  | [], _ => .inl ⟨rfl, fun z hz => by simp at hz⟩
  | y :: r, n => by
    unfold entIx
    by_cases h : (y.1 : Int) = n
    · rw [if_pos h]
      exact .inr ⟨0, y, rfl, rfl, h⟩
    · rw [if_neg h]
      rcases xfuZ r n with ⟨h1, h2⟩ | ⟨k, z, h1, h2, h3⟩
      · rw [h1]
        refine .inl ⟨rfl, fun z hz => ?_⟩
        rcases List.mem_cons.1 hz with rfl | hz
        · exact h
        · exact h2 z hz
      · rw [h1, if_neg (by omega)]
        exact .inr ⟨k + 1, z, by omega, by simpa using h2, h3⟩
theorem xegZ (l : List (Nat × List Int)) (v : Value) (n : Int) (w : World) (h : EntsRd w v l) : Calls Tryz.prog 224 #[v, .int .i64 n] w fun e w' => e = .returned (.int .i64 (entIx l n)) ∧ Below w.heap.size w w' := by
  obtain ⟨W1, hW1⟩ : ∃ W1, w.alloc (.cells #[.int .i64 n] 3) = W1 := ⟨_, rfl⟩
  have b1 : Below w.heap.size w W1 := by rw [← hW1]; exact (Below.refl _ w).alloc (Nat.le_refl _) _
  have x1 : W1.heap[w.heap.size]? = some (.cells #[.int .i64 n] 3 (0, 0)) := by rw [← hW1]; exact World.alloc_heap_new w _
  have k1 : W1.cell? ⟨w.heap.size, 0, none⟩ = some (.int .i64 n) := xaaZ x1 0
  have lx := xacZ x1
  obtain ⟨pl, cl, hv⟩ := h.shp
  subst hv
  have HX := hideP (xm0Z 236 #[.pointer (some ⟨w.heap.size, 0, none⟩)] (fun W => W.cell? ⟨w.heap.size, 0, none⟩ = some (.int .i64 n) ∧ w.heap.size < W.heap.size) (fun z => !decide ((z.1 : Int) = n)) l _ W1 (h.below b1) ⟨k1, lx⟩ (fun W W' hI hb => ⟨(hb.cell (p := ⟨w.heap.size, 0, none⟩) hI.2).trans hI.1, Nat.lt_of_lt_of_le hI.2 hb.size⟩) (xceZ Tryz.func236 (by kernel_rfl) rfl) (fun z u W hI hu => by
    have := entry1_any n z u w.heap.size W hu hI.1
    simpa using this))
  clear h x1
  go_enter Tryz.func224, Tryz.ntmps224
  go_wp2_with (go_at_call 235; refine HX.out.mono ?_; rintro e w2 ⟨r, rfl, hr, b2⟩; have HR := hideP hr; clear hr)
  go_ret
  refine ⟨?_, xafZ b1 b2⟩
  rcases HR.out with ⟨h1, h2⟩ | ⟨k, z, h1, h2, h3, h4⟩
  · have hn : ∀ z ∈ l, (z.1 : Int) ≠ n := fun z hz => by
      have h5 := List.all_eq_true.1 h2 z hz
      simp at h5
      exact h5
    rw [h1, xkbZ hn]; rfl
  · have hn : ∀ y ∈ l.take k, (y.1 : Int) ≠ n := fun y hy => by
      have h5 := h4 y hy
      simp at h5
      exact h5
    have h6 : (z.1 : Int) = n := by
      have h5 := h3
      simp at h5
      exact h5
    rw [h1, entIx_at h2 h6 hn]; rfl
theorem xj1Z (z : Val) (t : Int) (w : World) : Calls Tryz.prog 223 #[.agg #[.bool z.1, .int .i64 z.2], .int .i64 t] w fun e w' => e = .returned (.bool (asT z t)) ∧ Below w.heap.size w w' := by
  obtain ⟨r, n⟩ := z
  have hb : ∀ o, Below w.heap.size w (w.alloc o) := fun o => (Below.refl _ w).alloc (Nat.le_refl _) _
  by_cases a1 : t = 1
  · subst a1
    cases r
    · go_enter Tryz.func223, Tryz.ntmps223
      go_wp2
      go_ret
      exact ⟨by simp [asT], hb _⟩
    · go_enter Tryz.func223, Tryz.ntmps223
      go_wp2
      go_ret
      exact ⟨by simp [asT], hb _⟩
  · have a1' : (t != 1) = true := by simpa using a1
    cases r
    · go_enter Tryz.func223, Tryz.ntmps223
      go_wp2
      go_ret
      exact ⟨by simp [asT, a1], hb _⟩
    · by_cases a3 : t = 3
      · subst a3
        by_cases a0 : n = 0
        · subst a0
          go_enter Tryz.func223, Tryz.ntmps223
          go_wp2
          go_ret
          exact ⟨by simp [asT], hb _⟩
        · have a0' : (n == 0) = false := by simpa using a0
          go_enter Tryz.func223, Tryz.ntmps223
          go_wp2
          go_ret
          exact ⟨by simp [asT, a0], hb _⟩
      · have a3' : (t != 3) = true := by simpa using a3
        go_enter Tryz.func223, Tryz.ntmps223
        go_wp2
        go_ret
        exact ⟨by simp [asT, a1, a3], hb _⟩
theorem areOf_iff (l : List Val) (ts : List Int) : areOf l ts = true ↔ l.length = ts.length ∧ ∀ (k : Nat) (v : Val) (t : Int), l[k]? = some v → ts[k]? = some t → asT v t = true := by
  constructor
  · exact fun h => ⟨xa5Z h, xf2Z h⟩
  · intro ⟨h1, h2⟩
    induction l generalizing ts with
    | nil => cases ts with
      | nil => rfl
      | cons _ _ => simp at h1
    | cons a r ih => cases ts with
      | nil => simp at h1
      | cons b q =>
        simp only [areOf, Bool.and_eq_true]
        exact ⟨h2 0 a b rfl rfl, ih q (by simpa using h1) (fun k v t h3 h4 => h2 (k + 1) v t (by simpa using h3) (by simpa using h4))⟩
theorem xk9Z (l : List Val) (ts : List Int) (v u : Value) (w : World) (hl : ValsAt w v l) (hu : IntsAt w u ts) : Calls Tryz.prog 222 #[v, u, .func (.func 223) #[] #[]] w fun e w' => e = .returned (.bool (areOf l ts)) ∧ Below w.heap.size w w' := by
  obtain ⟨p, cap, rfl, hlm, hc⟩ := hl
  obtain ⟨q, cap', rfl, hmm, hd⟩ := hu
  unfold maxLen at hlm hmm
  have hEE := fun args W => (xceZ (F := 223) Tryz.func223 (by kernel_rfl) rfl) args W
  by_cases hlen : l.length = ts.length
  · have hlen' : ((l.length : Int) != (ts.length : Int)) = false := by simp; omega
    have HLEN := hideP hlen
    have HC := hideP hc
    have HD := hideP hd
    clear hc hd hlen
    go_enter Tryz.func222, Tryz.ntmps222
    go_wp2
    go_loopw [7, 8, 17] (fun _ _ i wr => ∃ k : Nat, k ≤ l.length ∧ i = .int .i64 k ∧ (∀ (j : Nat) (v : Val) (t : Int), j < k → l[j]? = some v → ts[j]? = some t → asT v t = true) ∧ Below w.heap.size w wr) (fun _ _ i _ => l.length - (intOf i).toNat)
    case atStart => exact ⟨0, Nat.zero_le _, rfl, fun j v t hj => by omega, Below.refl _ _⟩
    case round =>
      obtain ⟨k, hk, rfl, hok, hbw⟩ := hrel
      have HK := hideP hok
      clear hok
      by_cases hlt : k < l.length
      · obtain ⟨z, ho⟩ := xagZ hlt
        obtain ⟨t, ht⟩ := xagZ (l := ts) (k := k) (by have := HLEN.out; omega)
        obtain ⟨b, off, rfl, hb, h0, h1⟩ := HC.out k _ ho
        obtain ⟨b', off', rfl, hb', h2⟩ := HD.out k _ ht
        have g0 := (hbw.cell (p := ⟨b, off + k * 2, none⟩) hb).trans h0
        have g1 := (hbw.cell (p := ⟨b, off + k * 2 + 1, none⟩) hb).trans h1
        have g2 := (hbw.cell (p := ⟨b', off' + k, none⟩) hb').trans h2
        have g2a := fun o => xabZ g2 o
        have hlti2 : (k : Int) < (ts.length : Int) := by have := HLEN.out; omega
        have HO := hideP ho
        have HT := hideP ht
        clear ho ht h0 h1 h2
        have bA : ∀ o, Below wr.heap.size wr (wr.alloc o) := fun o => (Below.refl _ wr).alloc (Nat.le_refl _) _
        cases hnb : asT z t
        · go_wp2_with fail
          refine (xj1Z z t _).mono ?_
          rw [hnb]
          rintro e w2 ⟨rfl, hb2'⟩
          have hb2 := xafZ (bA _) hb2'
          go_wp2
          go_ret
          refine ⟨?_, hbw.trans (hb2.mono hbw.size)⟩
          cases hx : areOf l ts
          · rfl
          · have := xf2Z hx k z t HO.out HT.out
            rw [hnb] at this
            cases this
        · go_wp2_with fail
          refine (xj1Z z t _).mono ?_
          rw [hnb]
          rintro e w2 ⟨rfl, hb2'⟩
          have hb2 := xafZ (bA _) hb2'
          go_wp2
          go_roundw
          case rel =>
            refine ⟨k + 1, by omega, by go_num, fun j v t' hj h3 h4 => ?_, hbw.trans (hb2.mono hbw.size)⟩
            by_cases e : j = k
            · subst e
              rw [HO.out] at h3
              rw [HT.out] at h4
              cases h3
              cases h4
              exact hnb
            · exact HK.out j v t' (by omega) h3 h4
          case measure => simp [intOf]; omega
      · have hlt' : ¬ (k : Int) < (l.length : Int) := by omega
        go_wp2
        go_ret
        refine ⟨?_, hbw⟩
        have : areOf l ts = true := (areOf_iff l ts).2 ⟨HLEN.out, fun j v t h3 h4 => HK.out j v t (by have := xadZ h3; omega) h3 h4⟩
        rw [this]; rfl
  · have hlen' : ((l.length : Int) != (ts.length : Int)) = true := by simp; omega
    have hne : areOf l ts = false := by
      cases hx : areOf l ts
      · rfl
      · exact absurd (xa5Z hx) hlen
    clear hc hd
    have HN := hideP hne
    clear hne hlen
    go_enter Tryz.func222, Tryz.ntmps222
    go_wp2
    go_ret
    exact ⟨by rw [HN.out]; rfl, Below.refl _ _⟩
theorem xllZ (l : List Val) (ts : List Int) (v u : Value) (w : World) (hl : ValsAt w v l) (hu : IntsAt w u ts) : Calls Tryz.prog 181 #[v, u] w fun e w' => e = .returned (.bool (areOf l ts)) ∧ Below w.heap.size w w' := by
  have HX := hideP (xk9Z l ts v u w hl hu)
  clear hl hu
  go_enter Tryz.func181, Tryz.ntmps181
  go_wp2_with (go_at_call 222; refine HX.out.mono ?_; rintro e w2 ⟨rfl, b2⟩)
  go_ret
  exact ⟨rfl, b2⟩
end Go.Proofs.YtmjjkenblfndgaaGreat


/- stride.Do. -/
namespace Go.Proofs.YtmjjkenblfndgaaGreat
open Go.RowKit
set_option linter.unusedSimpArgs false
set_option linter.unusedVariables false
theorem xioZ {P : Program} {c : Code} {Q : Exit → Act → World → Prop} {a : Act} {w : World} (h : c.wp P (Exit.then (Q .normal) (fun _ _ _ => False)) a w) : c.wp P Q a w :=
  wp_mono h (fun e a' w' hq => by cases e <;> first | exact hq | exact hq.elim)
theorem xbfZ {w : World} {R : Nat} {a b c d e f g v : Value} {p : Addr} (h : w.cell? p = some v) (hn : ¬ p.block = R) : (((((((w.setCell ⟨R, 0, none⟩ a).setCell ⟨R, 1, none⟩ b).setCell ⟨R, 2, none⟩ c).setCell ⟨R, 3, none⟩ d).setCell ⟨R, 4, none⟩ e).setCell ⟨R, 5, none⟩ f).setCell ⟨R, 6, none⟩ g).cell? p = some v :=
  xcaZ (i := 6) (xd8Z h hn) hn
theorem xgyZ (W : World) (R : Nat) (a b c d e f g : Value) : W.grownBy (((((((W.setCell ⟨R, 0, none⟩ a).setCell ⟨R, 1, none⟩ b).setCell ⟨R, 2, none⟩ c).setCell ⟨R, 3, none⟩ d).setCell ⟨R, 4, none⟩ e).setCell ⟨R, 5, none⟩ f).setCell ⟨R, 6, none⟩ g) (some R) := (xb2Z W R a b c d e f).trans (xakZ _ ⟨R, 6, none⟩ g)
theorem xk0Z {W : World} {R : Nat} {t : TypeId} {a0 a1 a2 a3 a4 a5 a6 : Value} (h : W.heap[R]? = some (.cells #[a0, a1, a2, a3, a4, a5, a6] t (0, 0))) {a b c d e f g : Value} : (((((((W.setCell ⟨R, 0, none⟩ a).setCell ⟨R, 1, none⟩ b).setCell ⟨R, 2, none⟩ c).setCell ⟨R, 3, none⟩ d).setCell ⟨R, 4, none⟩ e).setCell ⟨R, 5, none⟩ f).setCell ⟨R, 6, none⟩ g).heap[R]? = some (.cells #[a, b, c, d, e, f, g] t (0, 0)) := by
  have h0 := heap_setCell_same W R 0 _ _ a h
  have h1 := heap_setCell_same _ R 1 _ _ b h0
  have h2 := heap_setCell_same _ R 2 _ _ c h1
  have h3 := heap_setCell_same _ R 3 _ _ d h2
  have h4 := heap_setCell_same _ R 4 _ _ e h3
  have h5 := heap_setCell_same _ R 5 _ _ f h4
  have h6 := heap_setCell_same _ R 6 _ _ g h5
  simpa using h6
theorem xkaZ {W : World} {R : Nat} {t : TypeId} {a0 a1 a2 a3 a4 a5 : Value} (h : W.heap[R]? = some (.cells #[a0, a1, a2, a3, a4, a5] t (0, 0))) {a b c d e f g g' : Value} : ((((((((W.setCell ⟨R, 0, none⟩ a).setCell ⟨R, 1, none⟩ b).setCell ⟨R, 2, none⟩ c).setCell ⟨R, 3, none⟩ d).setCell ⟨R, 4, none⟩ e).setCell ⟨R, 5, none⟩ f).setCell ⟨R, 4, none⟩ g).setCell ⟨R, 5, none⟩ g').heap[R]? = some (.cells #[a, b, c, d, g, g'] t (0, 0)) := by
  have h0 := heap_setCell_same W R 0 _ _ a h
  have h1 := heap_setCell_same _ R 1 _ _ b h0
  have h2 := heap_setCell_same _ R 2 _ _ c h1
  have h3 := heap_setCell_same _ R 3 _ _ d h2
  have h4 := heap_setCell_same _ R 4 _ _ e h3
  have h5 := heap_setCell_same _ R 5 _ _ f h4
  have h6 := heap_setCell_same _ R 4 _ _ g h5
  have h7 := heap_setCell_same _ R 5 _ _ g' h6
  simpa using h7
theorem fin_in {w0 W : World} {b : Nat} {pv fv bv iv ov iw : Value} {q : List FV} {qb : List Value} {M : Mach} {k : Nat} {I : List Int} (h : FAt w0 W b pv fv bv iv ov q qb M k iw I) : ∃ p n c, iv = .slice p n c := by
  rcases h.val with ⟨_, h1⟩ | ⟨g, n, cap, j, c, _, h1, _⟩
  · obtain ⟨p, c, h2⟩ := xaiZ h.own.inp
    exact ⟨_, _, _, h1.trans h2⟩
  · exact ⟨_, _, _, h1⟩
theorem xemZ (w : World) (a b c : Obj) : (((w.alloc a).alloc b).alloc c).heap[w.heap.size]? = some a := xalZ (xalZ (World.alloc_heap_new w a) b) c
theorem xecZ (w : World) (a b c : Obj) : (((w.alloc a).alloc b).alloc c).heap[w.heap.size + 1]? = some b := xalZ (xazZ w a b) c
theorem xowZ (p : List Fn) (pv : Value) (M R : Mach) (fv bv iv ov : Value) (w : World) (hp : FnsAt w pv p) (hM : MachAt w fv bv iv ov M) (hsm : SmallM M)
    (HD : ∀ (w0 W : World) (b : Nat), FnsAt w0 pv p → Doer w0 W b pv M → Calls Tryz.prog 111 #[.pointer (some ⟨b, 0, none⟩)] W fun e w' => e = .returned (.tuple #[]) ∧ Fin w0 w' b pv R) :
    Calls Tryz.prog 76 #[.agg #[pv], .agg #[fv, bv, iv, ov, .int .i64 M.status, .int .i64 M.trap]] w fun e w' => ∃ fv' bv' iv' ov', e = .returned (.agg #[fv', bv', iv', ov', .int .i64 R.status, .int .i64 R.trap]) ∧ MRes w' w.heap.size fv' bv' iv' ov' R ∧ Below w.heap.size w w' := by
  have hmf : ∀ (fn : Go.Fn) (first cap : Array Value) (w : World), (Instr.makeFunc fn first cap).run Tryz.prog w = .ok (.func fn first cap) w := fun _ _ _ _ => rfl
  obtain ⟨pp, qp, hpv, -, -⟩ := id hp
  obtain ⟨pf, cf, hfv, -, -, -⟩ := id hM.fr
  obtain ⟨pb, cb, hbv, -, -⟩ := id hM.bl
  obtain ⟨pi, ci, hiv, -⟩ := hM.inp.shp
  obtain ⟨po, co, hov, -⟩ := hM.out.shp
  subst hpv hfv hbv hiv hov
  obtain ⟨W1, hW1⟩ : ∃ W1, ((w.alloc (.cells #[.slice pp p.length qp] 24)).alloc (.cells #[.slice pf M.frames.length cf, .slice pb M.blocks.length cb, .slice pi M.inp.length ci, .slice po M.out.length co, .int .i64 M.status, .int .i64 M.trap] 48)).alloc (.cells #[.slice none 0 0, .slice none 0 0, .slice none 0 0, .slice none 0 0, .int .i64 0, .int .i64 0] 48) = W1 := ⟨_, rfl⟩
  have b1 : Below w.heap.size w W1 := by rw [← hW1]; exact (((Below.refl _ w).alloc (Nat.le_refl _) _).alloc (by simp) _).alloc (by simp; omega) _
  have x1 : W1.heap[w.heap.size]? = some (.cells #[.slice pp p.length qp] 24 (0, 0)) := by rw [← hW1]; exact xemZ _ _ _ _
  have y1 : W1.heap[w.heap.size + 1]? = some (.cells #[.slice pf M.frames.length cf, .slice pb M.blocks.length cb, .slice pi M.inp.length ci, .slice po M.out.length co, .int .i64 M.status, .int .i64 M.trap] 48 (0, 0)) := by rw [← hW1]; exact xecZ _ _ _ _
  have u1 : W1.heap[w.heap.size + 1 + 1]? = some (.cells #[.slice none 0 0, .slice none 0 0, .slice none 0 0, .slice none 0 0, .int .i64 0, .int .i64 0] 48 (0, 0)) := by rw [← hW1]; exact new3 _ _ _ _
  have lx := xacZ x1
  have ly := xacZ y1
  have lu := xacZ u1
  have k0 : W1.cell? ⟨w.heap.size, 0, none⟩ = some (.slice pp p.length qp) := xaaZ x1 0
  have d0 : W1.cell? ⟨w.heap.size + 1, 0, none⟩ = some (.slice pf M.frames.length cf) := xaaZ y1 0
  have d1 : W1.cell? ⟨w.heap.size + 1, 1, none⟩ = some (.slice pb M.blocks.length cb) := xaaZ y1 1
  have d2 : W1.cell? ⟨w.heap.size + 1, 2, none⟩ = some (.slice pi M.inp.length ci) := xaaZ y1 2
  have d3 : W1.cell? ⟨w.heap.size + 1, 3, none⟩ = some (.slice po M.out.length co) := xaaZ y1 3
  have d4 : W1.cell? ⟨w.heap.size + 1, 4, none⟩ = some (.int .i64 M.status) := xaaZ y1 4
  have d5 : W1.cell? ⟨w.heap.size + 1, 5, none⟩ = some (.int .i64 M.trap) := xaaZ y1 5
  have hdA : ∀ o, Below W1.heap.size W1 (W1.alloc o).drew := fun o => ((Below.refl _ W1).alloc (Nat.le_refl _) o).drew
  have hn1 : ¬ w.heap.size = W1.heap.size := by omega
  have hn2 : ¬ w.heap.size + 1 = W1.heap.size := by omega
  have HFM : Hid (∀ W, Below W1.heap.size W1 W → Calls Tryz.prog 53 #[.agg #[.slice pf M.frames.length cf, .slice pb M.blocks.length cb, .slice pi M.inp.length ci, .slice po M.out.length co, .int .i64 M.status, .int .i64 M.trap]] W fun e w' => ∃ fv' bv' iv' ov', e = .returned (.agg #[fv', bv', iv', ov', .int .i64 M.status, .int .i64 M.trap]) ∧ ∃ q qb, MOwn w' W.heap.size fv' bv' iv' ov' q qb M ∧ Below W.heap.size W w') := fun W hW => xcpZ M _ _ _ _ W ((hM.below b1).below hW) hsm
  have HP := hideP (hp.below b1)
  have HDD := hideP HD
  have HX := hideP x1
  have HY := hideP y1
  have HU := hideP u1
  clear hp hM hsm HD x1 y1 u1
  go_enter_defers Tryz.func76, Tryz.ntmps76
  go_wp2_with fail
  refine xioZ ?_
  go_region_held3 (fun W => W.cell? ⟨w.heap.size, 0, none⟩ = some (.slice pp p.length qp) ∧ W.cell? ⟨w.heap.size + 1, 0, none⟩ = some (.slice pf M.frames.length cf) ∧ W.cell? ⟨w.heap.size + 1, 1, none⟩ = some (.slice pb M.blocks.length cb) ∧ W.cell? ⟨w.heap.size + 1, 2, none⟩ = some (.slice pi M.inp.length ci) ∧ W.cell? ⟨w.heap.size + 1, 3, none⟩ = some (.slice po M.out.length co) ∧ W.cell? ⟨w.heap.size + 1, 4, none⟩ = some (.int .i64 M.status) ∧ W.cell? ⟨w.heap.size + 1, 5, none⟩ = some (.int .i64 M.trap)) (first | go_keep | exact ⟨xbfZ h0 hn1, xbfZ g0 hn2, xbfZ g1 hn2, xbfZ g2 hn2, xbfZ g3 hn2, xbfZ g4 hn2, xbfZ g5 hn2⟩)
    (first
      | (go_at_call 53; (with_reducible refine (HFM.out _ ((Below.refl _ W1).drew)).mono ?_); rintro e w2 ⟨fv2, bv2, iv2, ov2, rfl, q2, qb2, r2, b2'⟩; have b2 : Below W1.heap.size W1 w2 := ((Below.refl _ W1).drew).trans b2'; obtain ⟨pf2, cf2, hfv2⟩ := xaiZ r2.fr; obtain ⟨pb2, cb2, hbv2⟩ := xaiZ r2.bl; obtain ⟨pi2, ci2, hiv2⟩ := xaiZ r2.inp; obtain ⟨po2, co2, hov2⟩ := xaiZ r2.out; subst hfv2 hbv2 hiv2 hov2; have R2 := hideP r2; clear r2; have h0 := (b2.cell (p := ⟨w.heap.size, 0, none⟩) lx).trans k0; have g0 := (b2.cell (p := ⟨w.heap.size + 1, 0, none⟩) ly).trans d0; have g1 := (b2.cell (p := ⟨w.heap.size + 1, 1, none⟩) ly).trans d1; have g2 := (b2.cell (p := ⟨w.heap.size + 1, 2, none⟩) ly).trans d2; have g3 := (b2.cell (p := ⟨w.heap.size + 1, 3, none⟩) ly).trans d3; have g4 := (b2.cell (p := ⟨w.heap.size + 1, 4, none⟩) ly).trans d4; have g5 := (b2.cell (p := ⟨w.heap.size + 1, 5, none⟩) ly).trans d5)
      | (go_at_call 53; (with_reducible refine (HFM.out _ (hdA _)).mono ?_); rintro e w2 ⟨fv2, bv2, iv2, ov2, rfl, q2, qb2, r2, b2'⟩; have b2 : Below W1.heap.size W1 w2 := (hdA _).trans (b2'.mono (hdA _).size); have q0 := (b2'.block W1.heap.size (xacZ (World.alloc_heap_new W1 _))).trans (World.alloc_heap_new W1 _); have Q0 := hideP q0; have m0 := xaaZ q0 0; have m1 := xaaZ q0 1; have m2 := xaaZ q0 2; have m3 := xaaZ q0 3; have m4 := xaaZ q0 4; have m5 := xaaZ q0 5; have m6 := xaaZ q0 6; simp at m0 m1 m2 m3 m4 m5 m6; have n := Lib.frozen_of_heap q0; have n0 := n 0; have n1 := n 1; have n2 := n 2; have n3 := n 3; have n4 := n 4; have n5 := n 5; have n6 := n 6; clear n q0; obtain ⟨pf2, cf2, hfv2⟩ := xaiZ r2.fr; obtain ⟨pb2, cb2, hbv2⟩ := xaiZ r2.bl; obtain ⟨pi2, ci2, hiv2⟩ := xaiZ r2.inp; obtain ⟨po2, co2, hov2⟩ := xaiZ r2.out; subst hfv2 hbv2 hiv2 hov2; have R2 := hideP r2; clear r2; have h0 := (b2.cell (p := ⟨w.heap.size, 0, none⟩) lx).trans k0; have g0 := (b2.cell (p := ⟨w.heap.size + 1, 0, none⟩) ly).trans d0; have g1 := (b2.cell (p := ⟨w.heap.size + 1, 1, none⟩) ly).trans d1; have g2 := (b2.cell (p := ⟨w.heap.size + 1, 2, none⟩) ly).trans d2; have g3 := (b2.cell (p := ⟨w.heap.size + 1, 3, none⟩) ly).trans d3; have g4 := (b2.cell (p := ⟨w.heap.size + 1, 4, none⟩) ly).trans d4; have g5 := (b2.cell (p := ⟨w.heap.size + 1, 5, none⟩) ly).trans d5))
  · have hDo : Doer W1 (w2.alloc (.cells #[.slice pf2 q2.length cf2, .slice pb2 qb2.length cb2, .slice pi2 M.inp.length ci2, .slice po2 M.out.length co2, .int .i64 M.status, .int .i64 M.trap, .slice pp p.length qp] 162)) w2.heap.size (.slice pp p.length qp) M :=
      ⟨_, _, _, _, q2, qb2, World.alloc_heap_new w2 _, (R2.out.low (Nat.le_refl _)).below ((Below.refl _ w2).alloc (Nat.le_refl _) _), b2.alloc b2.size _, b2.size⟩
    have HC := hideP (HDD.out W1 _ _ HP.out hDo)
    clear hDo
    go_wp2_with (go_at_call 111; refine HC.out.mono ?_; rintro e w6 ⟨rfl, fv6, bv6, iv6, ov6, q6, qb6, k6, iw6, I6, F6⟩; have v0 := xaaZ F6.cell 0; have v1 := xaaZ F6.cell 1; have v2 := xaaZ F6.cell 2; have v3 := xaaZ F6.cell 3; have v4 := xaaZ F6.cell 4; have v5 := xaaZ F6.cell 5; simp at v0 v1 v2 v3 v4 v5; have hu6 := (F6.bel.block _ lu).trans HU.out; have a0 := xaaZ hu6 0; have a1 := xaaZ hu6 1; have a2 := xaaZ hu6 2; have a3 := xaaZ hu6 3; have a4 := xaaZ hu6 4; have a5 := xaaZ hu6 5; simp at a0 a1 a2 a3 a4 a5; have z := Lib.frozen_of_heap hu6; have z0 := z 0; have z1 := z 1; have z2 := z 2; have z3 := z 3; have z4 := z 4; have z5 := z 5; obtain ⟨pf6, cf6, hf6⟩ := xaiZ F6.own.fr; obtain ⟨pb6, cb6, hb6⟩ := xaiZ F6.own.bl; obtain ⟨po6, co6, ho6⟩ := xaiZ F6.own.out; obtain ⟨pi6, ni6, ci6, hi6⟩ := fin_in F6; subst hf6 hb6 ho6 hi6; have HF6 := hideP F6; have HU6 := hideP hu6; clear F6 z hu6)
    refine leaves_cons (f := 110) (args := #[.pointer (some ⟨w.heap.size + 1, 0, none⟩), .pointer (some ⟨w.heap.size + 1 + 1, 0, none⟩)]) (by simp) (by simp [go_sem]) ?_
    refine (xj6Z _ _ _).mono ?_
    rintro e u' w'' ⟨rfl, rfl, rfl⟩
    have hg6 := xb2Z w6 (w.heap.size + 1 + 1) (.slice pf6 q6.length cf6) (.slice pb6 qb6.length cb6) (.slice pi6 ni6 ci6) (.slice po6 R.out.length co6) (.int .i64 R.status) (.int .i64 R.trap)
    have hty6 : TyRow w6 (some (w.heap.size + 1 + 1)) 48 := xatZ HU6.out
    have hres : MRes w6 W1.heap.size (.slice pf6 q6.length cf6) (.slice pb6 qb6.length cb6) (.slice pi6 ni6 ci6) (.slice po6 R.out.length co6) R := ⟨q6, qb6, k6, iw6, I6, HF6.out.own, HF6.out.rest, HF6.out.val⟩
    have hres2 := (hres.low b1.size).keep hg6 hty6 (by decide) (by decide) (by decide) (by decide)
    have hb7 : Below w.heap.size w _ := (b1.trans (HF6.out.bel.mono b1.size)).grown hg6 (Nat.le_trans b1.size HF6.out.bel.size) (fun k hk => by cases hk; omega)
    have HRES := hideP hres2
    have HB7 := hideP hb7
    clear hres hres2 hb7 hg6 hty6
    simp [Leaves, settle, results, Tryz.results76, go_sem, a0, a1, a2, a3, a4, a5]
    exact ⟨_, _, _, _, ⟨rfl, rfl, rfl, rfl⟩, HRES.out, HB7.out⟩
  · have hgr := xgyZ w2 W1.heap.size (.slice pf2 q2.length cf2) (.slice pb2 qb2.length cb2) (.slice pi2 M.inp.length ci2) (.slice po2 M.out.length co2) (.int .i64 M.status) (.int .i64 M.trap) (.slice pp p.length qp)
    have hDo : Doer W1 (((((((w2.setCell ⟨W1.heap.size, 0, none⟩ (.slice pf2 q2.length cf2)).setCell ⟨W1.heap.size, 1, none⟩ (.slice pb2 qb2.length cb2)).setCell ⟨W1.heap.size, 2, none⟩ (.slice pi2 M.inp.length ci2)).setCell ⟨W1.heap.size, 3, none⟩ (.slice po2 M.out.length co2)).setCell ⟨W1.heap.size, 4, none⟩ (.int .i64 M.status)).setCell ⟨W1.heap.size, 5, none⟩ (.int .i64 M.trap)).setCell ⟨W1.heap.size, 6, none⟩ (.slice pp p.length qp)) W1.heap.size (.slice pp p.length qp) M :=
      ⟨_, _, _, _, q2, qb2, xk0Z Q0.out, (R2.out.low (hdA _).size).keep hgr (xatZ Q0.out) (by decide) (by decide) (by decide) (by decide), b2.grown hgr b2.size (fun k hk => by cases hk; exact Nat.le_refl _), Nat.le_refl _⟩
    have HC := hideP (HDD.out W1 _ _ HP.out hDo)
    clear hDo
    go_wp2_with (go_at_call 111; refine HC.out.mono ?_; rintro e w6 ⟨rfl, fv6, bv6, iv6, ov6, q6, qb6, k6, iw6, I6, F6⟩; have v0 := xaaZ F6.cell 0; have v1 := xaaZ F6.cell 1; have v2 := xaaZ F6.cell 2; have v3 := xaaZ F6.cell 3; have v4 := xaaZ F6.cell 4; have v5 := xaaZ F6.cell 5; simp at v0 v1 v2 v3 v4 v5; have hu6 := (F6.bel.block _ lu).trans HU.out; have a0 := xaaZ hu6 0; have a1 := xaaZ hu6 1; have a2 := xaaZ hu6 2; have a3 := xaaZ hu6 3; have a4 := xaaZ hu6 4; have a5 := xaaZ hu6 5; simp at a0 a1 a2 a3 a4 a5; have z := Lib.frozen_of_heap hu6; have z0 := z 0; have z1 := z 1; have z2 := z 2; have z3 := z 3; have z4 := z 4; have z5 := z 5; obtain ⟨pf6, cf6, hf6⟩ := xaiZ F6.own.fr; obtain ⟨pb6, cb6, hb6⟩ := xaiZ F6.own.bl; obtain ⟨po6, co6, ho6⟩ := xaiZ F6.own.out; obtain ⟨pi6, ni6, ci6, hi6⟩ := fin_in F6; subst hf6 hb6 ho6 hi6; have HF6 := hideP F6; have HU6 := hideP hu6; clear F6 z hu6)
    refine leaves_cons (f := 110) (args := #[.pointer (some ⟨w.heap.size + 1, 0, none⟩), .pointer (some ⟨w.heap.size + 1 + 1, 0, none⟩)]) (by simp) (by simp [go_sem]) ?_
    refine (xj6Z _ _ _).mono ?_
    rintro e u' w'' ⟨rfl, rfl, rfl⟩
    have hg6 := xb2Z w6 (w.heap.size + 1 + 1) (.slice pf6 q6.length cf6) (.slice pb6 qb6.length cb6) (.slice pi6 ni6 ci6) (.slice po6 R.out.length co6) (.int .i64 R.status) (.int .i64 R.trap)
    have hty6 : TyRow w6 (some (w.heap.size + 1 + 1)) 48 := xatZ HU6.out
    have hres : MRes w6 W1.heap.size (.slice pf6 q6.length cf6) (.slice pb6 qb6.length cb6) (.slice pi6 ni6 ci6) (.slice po6 R.out.length co6) R := ⟨q6, qb6, k6, iw6, I6, HF6.out.own, HF6.out.rest, HF6.out.val⟩
    have hres2 := (hres.low b1.size).keep hg6 hty6 (by decide) (by decide) (by decide) (by decide)
    have hb7 : Below w.heap.size w _ := (b1.trans (HF6.out.bel.mono b1.size)).grown hg6 (Nat.le_trans b1.size HF6.out.bel.size) (fun k hk => by cases hk; omega)
    have HRES := hideP hres2
    have HB7 := hideP hb7
    clear hres hres2 hb7 hg6 hty6
    simp [Leaves, settle, results, Tryz.results76, go_sem, a0, a1, a2, a3, a4, a5]
    exact ⟨_, _, _, _, ⟨rfl, rfl, rfl, rfl⟩, HRES.out, HB7.out⟩
theorem xm6Z (p : List Fn) (pv : Value) (M : Mach) (why : Int) (fv bv iv ov : Value) (w : World) (hp : FnsAt w pv p) (hM : MachAt w fv bv iv ov M) (hsm : SmallM M)
    (HD : ∀ (w0 W : World) (b : Nat), FnsAt w0 pv p → Doer w0 W b pv M → Calls Tryz.prog 111 #[.pointer (some ⟨b, 0, none⟩)] W fun e w' => e = .panicked [{ v := .iface 159 (.int .i64 why), recovered := false }] ∧ Below w0.heap.size w0 w') :
    Calls Tryz.prog 76 #[.agg #[pv], .agg #[fv, bv, iv, ov, .int .i64 M.status, .int .i64 M.trap]] w fun e w' => ∃ fv' bv' iv' ov', e = .returned (.agg #[fv', bv', iv', ov', .int .i64 3, .int .i64 why]) ∧ MRes w' w.heap.size fv' bv' iv' ov' (trapM M why) ∧ Below w.heap.size w w' := by
  have hmf : ∀ (fn : Go.Fn) (first cap : Array Value) (w : World), (Instr.makeFunc fn first cap).run Tryz.prog w = .ok (.func fn first cap) w := fun _ _ _ _ => rfl
  obtain ⟨pp, qp, hpv, -, -⟩ := id hp
  obtain ⟨pf, cf, hfv, -, -, -⟩ := id hM.fr
  obtain ⟨pb, cb, hbv, -, -⟩ := id hM.bl
  obtain ⟨pi, ci, hiv, -⟩ := hM.inp.shp
  obtain ⟨po, co, hov, -⟩ := hM.out.shp
  subst hpv hfv hbv hiv hov
  obtain ⟨W1, hW1⟩ : ∃ W1, ((w.alloc (.cells #[.slice pp p.length qp] 24)).alloc (.cells #[.slice pf M.frames.length cf, .slice pb M.blocks.length cb, .slice pi M.inp.length ci, .slice po M.out.length co, .int .i64 M.status, .int .i64 M.trap] 48)).alloc (.cells #[.slice none 0 0, .slice none 0 0, .slice none 0 0, .slice none 0 0, .int .i64 0, .int .i64 0] 48) = W1 := ⟨_, rfl⟩
  have b1 : Below w.heap.size w W1 := by rw [← hW1]; exact (((Below.refl _ w).alloc (Nat.le_refl _) _).alloc (by simp) _).alloc (by simp; omega) _
  have x1 : W1.heap[w.heap.size]? = some (.cells #[.slice pp p.length qp] 24 (0, 0)) := by rw [← hW1]; exact xemZ _ _ _ _
  have y1 : W1.heap[w.heap.size + 1]? = some (.cells #[.slice pf M.frames.length cf, .slice pb M.blocks.length cb, .slice pi M.inp.length ci, .slice po M.out.length co, .int .i64 M.status, .int .i64 M.trap] 48 (0, 0)) := by rw [← hW1]; exact xecZ _ _ _ _
  have u1 : W1.heap[w.heap.size + 1 + 1]? = some (.cells #[.slice none 0 0, .slice none 0 0, .slice none 0 0, .slice none 0 0, .int .i64 0, .int .i64 0] 48 (0, 0)) := by rw [← hW1]; exact new3 _ _ _ _
  have lx := xacZ x1
  have ly := xacZ y1
  have lu := xacZ u1
  have k0 : W1.cell? ⟨w.heap.size, 0, none⟩ = some (.slice pp p.length qp) := xaaZ x1 0
  have d0 : W1.cell? ⟨w.heap.size + 1, 0, none⟩ = some (.slice pf M.frames.length cf) := xaaZ y1 0
  have d1 : W1.cell? ⟨w.heap.size + 1, 1, none⟩ = some (.slice pb M.blocks.length cb) := xaaZ y1 1
  have d2 : W1.cell? ⟨w.heap.size + 1, 2, none⟩ = some (.slice pi M.inp.length ci) := xaaZ y1 2
  have d3 : W1.cell? ⟨w.heap.size + 1, 3, none⟩ = some (.slice po M.out.length co) := xaaZ y1 3
  have d4 : W1.cell? ⟨w.heap.size + 1, 4, none⟩ = some (.int .i64 M.status) := xaaZ y1 4
  have d5 : W1.cell? ⟨w.heap.size + 1, 5, none⟩ = some (.int .i64 M.trap) := xaaZ y1 5
  have hdA : ∀ o, Below W1.heap.size W1 (W1.alloc o).drew := fun o => ((Below.refl _ W1).alloc (Nat.le_refl _) o).drew
  have hn1 : ¬ w.heap.size = W1.heap.size := by omega
  have hn2 : ¬ w.heap.size + 1 = W1.heap.size := by omega
  have HFM : Hid (∀ W, Below W1.heap.size W1 W → Calls Tryz.prog 53 #[.agg #[.slice pf M.frames.length cf, .slice pb M.blocks.length cb, .slice pi M.inp.length ci, .slice po M.out.length co, .int .i64 M.status, .int .i64 M.trap]] W fun e w' => ∃ fv' bv' iv' ov', e = .returned (.agg #[fv', bv', iv', ov', .int .i64 M.status, .int .i64 M.trap]) ∧ ∃ q qb, MOwn w' W.heap.size fv' bv' iv' ov' q qb M ∧ Below W.heap.size W w') := fun W hW => xcpZ M _ _ _ _ W ((hM.below b1).below hW) hsm
  have HP := hideP (hp.below b1)
  have HM := hideP (hM.below b1)
  have HSM := hideP hsm
  have HDD := hideP HD
  have HX := hideP x1
  have HY := hideP y1
  have HU := hideP u1
  clear hp hM hsm HD x1 y1 u1
  go_enter_defers Tryz.func76, Tryz.ntmps76
  go_wp2_with fail
  refine xioZ ?_
  go_region_held3 (fun W => W.cell? ⟨w.heap.size, 0, none⟩ = some (.slice pp p.length qp) ∧ W.cell? ⟨w.heap.size + 1, 0, none⟩ = some (.slice pf M.frames.length cf) ∧ W.cell? ⟨w.heap.size + 1, 1, none⟩ = some (.slice pb M.blocks.length cb) ∧ W.cell? ⟨w.heap.size + 1, 2, none⟩ = some (.slice pi M.inp.length ci) ∧ W.cell? ⟨w.heap.size + 1, 3, none⟩ = some (.slice po M.out.length co) ∧ W.cell? ⟨w.heap.size + 1, 4, none⟩ = some (.int .i64 M.status) ∧ W.cell? ⟨w.heap.size + 1, 5, none⟩ = some (.int .i64 M.trap)) (first | go_keep | exact ⟨xbfZ h0 hn1, xbfZ g0 hn2, xbfZ g1 hn2, xbfZ g2 hn2, xbfZ g3 hn2, xbfZ g4 hn2, xbfZ g5 hn2⟩)
    (first
      | (go_at_call 53; (with_reducible refine (HFM.out _ ((Below.refl _ W1).drew)).mono ?_); rintro e w2 ⟨fv2, bv2, iv2, ov2, rfl, q2, qb2, r2, b2'⟩; have b2 : Below W1.heap.size W1 w2 := ((Below.refl _ W1).drew).trans b2'; obtain ⟨pf2, cf2, hfv2⟩ := xaiZ r2.fr; obtain ⟨pb2, cb2, hbv2⟩ := xaiZ r2.bl; obtain ⟨pi2, ci2, hiv2⟩ := xaiZ r2.inp; obtain ⟨po2, co2, hov2⟩ := xaiZ r2.out; subst hfv2 hbv2 hiv2 hov2; have R2 := hideP r2; clear r2; have h0 := (b2.cell (p := ⟨w.heap.size, 0, none⟩) lx).trans k0; have g0 := (b2.cell (p := ⟨w.heap.size + 1, 0, none⟩) ly).trans d0; have g1 := (b2.cell (p := ⟨w.heap.size + 1, 1, none⟩) ly).trans d1; have g2 := (b2.cell (p := ⟨w.heap.size + 1, 2, none⟩) ly).trans d2; have g3 := (b2.cell (p := ⟨w.heap.size + 1, 3, none⟩) ly).trans d3; have g4 := (b2.cell (p := ⟨w.heap.size + 1, 4, none⟩) ly).trans d4; have g5 := (b2.cell (p := ⟨w.heap.size + 1, 5, none⟩) ly).trans d5)
      | (go_at_call 53; (with_reducible refine (HFM.out _ (hdA _)).mono ?_); rintro e w2 ⟨fv2, bv2, iv2, ov2, rfl, q2, qb2, r2, b2'⟩; have b2 : Below W1.heap.size W1 w2 := (hdA _).trans (b2'.mono (hdA _).size); have q0 := (b2'.block W1.heap.size (xacZ (World.alloc_heap_new W1 _))).trans (World.alloc_heap_new W1 _); have Q0 := hideP q0; have m0 := xaaZ q0 0; have m1 := xaaZ q0 1; have m2 := xaaZ q0 2; have m3 := xaaZ q0 3; have m4 := xaaZ q0 4; have m5 := xaaZ q0 5; have m6 := xaaZ q0 6; simp at m0 m1 m2 m3 m4 m5 m6; have n := Lib.frozen_of_heap q0; have n0 := n 0; have n1 := n 1; have n2 := n 2; have n3 := n 3; have n4 := n 4; have n5 := n 5; have n6 := n 6; clear n q0; obtain ⟨pf2, cf2, hfv2⟩ := xaiZ r2.fr; obtain ⟨pb2, cb2, hbv2⟩ := xaiZ r2.bl; obtain ⟨pi2, ci2, hiv2⟩ := xaiZ r2.inp; obtain ⟨po2, co2, hov2⟩ := xaiZ r2.out; subst hfv2 hbv2 hiv2 hov2; have R2 := hideP r2; clear r2; have h0 := (b2.cell (p := ⟨w.heap.size, 0, none⟩) lx).trans k0; have g0 := (b2.cell (p := ⟨w.heap.size + 1, 0, none⟩) ly).trans d0; have g1 := (b2.cell (p := ⟨w.heap.size + 1, 1, none⟩) ly).trans d1; have g2 := (b2.cell (p := ⟨w.heap.size + 1, 2, none⟩) ly).trans d2; have g3 := (b2.cell (p := ⟨w.heap.size + 1, 3, none⟩) ly).trans d3; have g4 := (b2.cell (p := ⟨w.heap.size + 1, 4, none⟩) ly).trans d4; have g5 := (b2.cell (p := ⟨w.heap.size + 1, 5, none⟩) ly).trans d5))
  · have hDo : Doer W1 (w2.alloc (.cells #[.slice pf2 q2.length cf2, .slice pb2 qb2.length cb2, .slice pi2 M.inp.length ci2, .slice po2 M.out.length co2, .int .i64 M.status, .int .i64 M.trap, .slice pp p.length qp] 162)) w2.heap.size (.slice pp p.length qp) M :=
      ⟨_, _, _, _, q2, qb2, World.alloc_heap_new w2 _, (R2.out.low (Nat.le_refl _)).below ((Below.refl _ w2).alloc (Nat.le_refl _) _), b2.alloc b2.size _, b2.size⟩
    have HC := hideP (HDD.out W1 _ _ HP.out hDo)
    clear hDo
    go_wp2_with (go_at_call 111; refine HC.out.mono ?_; rintro e w6 ⟨rfl, b6⟩; have hy6 := (b6.block _ ly).trans HY.out; have hu6 := (b6.block _ lu).trans HU.out; have HY6 := hideP hy6; have HU6 := hideP hu6; have B6 := hideP b6; clear hy6 hu6 b6)
    refine leaves_cons (f := 110) (args := #[.pointer (some ⟨w.heap.size + 1, 0, none⟩), .pointer (some ⟨w.heap.size + 1 + 1, 0, none⟩)]) (by simp) (by simp [go_sem]) ?_
    refine (xj7Z M _ _ _ _ _ _ why _ (HM.out.below B6.out) HSM.out HY6.out HU6.out).mono ?_
    rintro e u' w'' ⟨rfl, rfl, fv', bv', iv', ov', q7, qb7, w7, hown, b7, hw8⟩
    have hu7 := (b7.block _ (xacZ HU6.out)).trans HU6.out
    have h8 : w''.heap[w.heap.size + 1 + 1]? = some (.cells #[fv', bv', iv', ov', .int .i64 3, .int .i64 why] 48 (0, 0)) := by rw [hw8]; exact xkaZ hu7
    have a0 := xaaZ h8 0
    have a1 := xaaZ h8 1
    have a2 := xaaZ h8 2
    have a3 := xaaZ h8 3
    have a4 := xaaZ h8 4
    have a5 := xaaZ h8 5
    simp at a0 a1 a2 a3 a4 a5
    have hg7 := ((xb2Z w7 (w.heap.size + 1 + 1) fv' bv' iv' ov' (.int .i64 M.status) (.int .i64 M.trap)).trans (xakZ _ ⟨w.heap.size + 1 + 1, 4, none⟩ (.int .i64 3))).trans (xakZ _ ⟨w.heap.size + 1 + 1, 5, none⟩ (.int .i64 why))
    have hty7 : TyRow w7 (some (w.heap.size + 1 + 1)) 48 := xatZ hu7
    have hl6 : w.heap.size ≤ w6.heap.size := Nat.le_trans b1.size B6.out.size
    have hres : MRes w7 w.heap.size fv' bv' iv' ov' (trapM M why) := ⟨q7, qb7, 0, iv', M.inp, ⟨xapZ hown.fr hl6, hown.frs.low hl6, xapZ hown.bl hl6, hown.rows.low hl6⟩, rfl, .inl ⟨rfl, rfl⟩⟩
    have hres2 := hres.keep hg7 hty7 (by decide) (by decide) (by decide) (by decide)
    have hb7 : Below w.heap.size w _ := ((b1.trans (B6.out.mono b1.size)).trans (b7.mono hl6)).grown hg7 (Nat.le_trans hl6 b7.size) (fun k hk => by cases hk; omega)
    rw [← hw8] at hres2 hb7
    have HRES := hideP hres2
    have HB7 := hideP hb7
    obtain ⟨pf7, cf7, hf7⟩ := xaiZ hown.fr
    obtain ⟨pb7, cb7, hb7'⟩ := xaiZ hown.bl
    obtain ⟨pi7, ci7, hi7⟩ := xaiZ hown.inp
    obtain ⟨po7, co7, ho7⟩ := xaiZ hown.out
    subst hf7 hb7' hi7 ho7
    clear hres hres2 hb7 hg7 hty7 hown hu7 h8 hw8
    simp [Leaves, settle, results, Tryz.results76, go_sem, a0, a1, a2, a3, a4, a5]
    exact ⟨_, _, _, _, ⟨rfl, rfl, rfl, rfl⟩, HRES.out, HB7.out⟩
  · have hgr := xgyZ w2 W1.heap.size (.slice pf2 q2.length cf2) (.slice pb2 qb2.length cb2) (.slice pi2 M.inp.length ci2) (.slice po2 M.out.length co2) (.int .i64 M.status) (.int .i64 M.trap) (.slice pp p.length qp)
    have hDo : Doer W1 (((((((w2.setCell ⟨W1.heap.size, 0, none⟩ (.slice pf2 q2.length cf2)).setCell ⟨W1.heap.size, 1, none⟩ (.slice pb2 qb2.length cb2)).setCell ⟨W1.heap.size, 2, none⟩ (.slice pi2 M.inp.length ci2)).setCell ⟨W1.heap.size, 3, none⟩ (.slice po2 M.out.length co2)).setCell ⟨W1.heap.size, 4, none⟩ (.int .i64 M.status)).setCell ⟨W1.heap.size, 5, none⟩ (.int .i64 M.trap)).setCell ⟨W1.heap.size, 6, none⟩ (.slice pp p.length qp)) W1.heap.size (.slice pp p.length qp) M :=
      ⟨_, _, _, _, q2, qb2, xk0Z Q0.out, (R2.out.low (hdA _).size).keep hgr (xatZ Q0.out) (by decide) (by decide) (by decide) (by decide), b2.grown hgr b2.size (fun k hk => by cases hk; exact Nat.le_refl _), Nat.le_refl _⟩
    have HC := hideP (HDD.out W1 _ _ HP.out hDo)
    clear hDo
    go_wp2_with (go_at_call 111; refine HC.out.mono ?_; rintro e w6 ⟨rfl, b6⟩; have hy6 := (b6.block _ ly).trans HY.out; have hu6 := (b6.block _ lu).trans HU.out; have HY6 := hideP hy6; have HU6 := hideP hu6; have B6 := hideP b6; clear hy6 hu6 b6)
    refine leaves_cons (f := 110) (args := #[.pointer (some ⟨w.heap.size + 1, 0, none⟩), .pointer (some ⟨w.heap.size + 1 + 1, 0, none⟩)]) (by simp) (by simp [go_sem]) ?_
    refine (xj7Z M _ _ _ _ _ _ why _ (HM.out.below B6.out) HSM.out HY6.out HU6.out).mono ?_
    rintro e u' w'' ⟨rfl, rfl, fv', bv', iv', ov', q7, qb7, w7, hown, b7, hw8⟩
    have hu7 := (b7.block _ (xacZ HU6.out)).trans HU6.out
    have h8 : w''.heap[w.heap.size + 1 + 1]? = some (.cells #[fv', bv', iv', ov', .int .i64 3, .int .i64 why] 48 (0, 0)) := by rw [hw8]; exact xkaZ hu7
    have a0 := xaaZ h8 0
    have a1 := xaaZ h8 1
    have a2 := xaaZ h8 2
    have a3 := xaaZ h8 3
    have a4 := xaaZ h8 4
    have a5 := xaaZ h8 5
    simp at a0 a1 a2 a3 a4 a5
    have hg7 := ((xb2Z w7 (w.heap.size + 1 + 1) fv' bv' iv' ov' (.int .i64 M.status) (.int .i64 M.trap)).trans (xakZ _ ⟨w.heap.size + 1 + 1, 4, none⟩ (.int .i64 3))).trans (xakZ _ ⟨w.heap.size + 1 + 1, 5, none⟩ (.int .i64 why))
    have hty7 : TyRow w7 (some (w.heap.size + 1 + 1)) 48 := xatZ hu7
    have hl6 : w.heap.size ≤ w6.heap.size := Nat.le_trans b1.size B6.out.size
    have hres : MRes w7 w.heap.size fv' bv' iv' ov' (trapM M why) := ⟨q7, qb7, 0, iv', M.inp, ⟨xapZ hown.fr hl6, hown.frs.low hl6, xapZ hown.bl hl6, hown.rows.low hl6⟩, rfl, .inl ⟨rfl, rfl⟩⟩
    have hres2 := hres.keep hg7 hty7 (by decide) (by decide) (by decide) (by decide)
    have hb7 : Below w.heap.size w _ := ((b1.trans (B6.out.mono b1.size)).trans (b7.mono hl6)).grown hg7 (Nat.le_trans hl6 b7.size) (fun k hk => by cases hk; omega)
    rw [← hw8] at hres2 hb7
    have HRES := hideP hres2
    have HB7 := hideP hb7
    obtain ⟨pf7, cf7, hf7⟩ := xaiZ hown.fr
    obtain ⟨pb7, cb7, hb7'⟩ := xaiZ hown.bl
    obtain ⟨pi7, ci7, hi7⟩ := xaiZ hown.inp
    obtain ⟨po7, co7, ho7⟩ := xaiZ hown.out
    subst hf7 hb7' hi7 ho7
    clear hres hres2 hb7 hg7 hty7 hown hu7 h8 hw8
    simp [Leaves, settle, results, Tryz.results76, go_sem, a0, a1, a2, a3, a4, a5]
    exact ⟨_, _, _, _, ⟨rfl, rfl, rfl, rfl⟩, HRES.out, HB7.out⟩
end Go.Proofs.YtmjjkenblfndgaaGreat


