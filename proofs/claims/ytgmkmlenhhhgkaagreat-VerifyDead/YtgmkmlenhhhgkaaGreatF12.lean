/- My texts Jr Pw Ea Ka Zq Zp Zs: what of them is needed, joined. -/
import Derived.Deep.RegionHeld3
import Derived.Deep.RegionLaw
import Derived.Laws.OwnMore
import Derived.Test.YtgmkmlenhhhgkaaGreatF1
import Derived.Test.YtgmkmlenhhhgkaaGreatF2
import Derived.Test.YtgmkmlenhhhgkaaGreatF6
import Derived.Test.YtgmkmlenhhhgkaaGreatF7
import Derived.Test.YtgmkmlenhhhgkaaGreatF9
import Derived.Test.YtgmkmlenhhhgkaaGreatF10
import Derived.Test.YtgmkmlenhhhgkaaGreatF11
set_option maxRecDepth 100000
set_option maxHeartbeats 8000000
/- verifyBegun. -/
namespace Go.Proofs.YtgmkmlenhhhgkaaGreat
open Go.RowKit
set_option linter.unusedSimpArgs false
set_option linter.unusedVariables false
theorem bthen {a b c : World} (h : Below a.heap.size a b) (k : Below b.heap.size b c) : Below a.heap.size a c := h.trans (k.mono h.size)
theorem xfoZ (q : List (Nat × Value)) : ∀ (k : Nat) (x : Nat × Value), q[k]? = some x → (xb1Z q)[k * 2]? = some (.int .i64 x.1) ∧ (xb1Z q)[k * 2 + 1]? = some x.2 := by
  induction q with
  | nil => intro k x h; simp at h
  | cons y r ih =>
    intro k x h
    cases k with
    | zero => simp at h; subst h; simp [xb1Z]
    | succ k =>
      have := ih k x (by simpa using h)
      rw [show (k + 1) * 2 = k * 2 + 1 + 1 from by omega]
      simpa [xb1Z] using this
theorem ents_at {W : World} {B : Nat} {v : Value} {l : List (Nat × List Int)} (h : xd2Z W B v l) {k pc : Nat} {s : List Int} (hk : l[k]? = some (pc, s)) : ∃ g cap p n c, v = .slice (some ⟨g, 0, none⟩) l.length cap ∧ g < W.heap.size ∧ W.cell? ⟨g, k * 2, none⟩ = some (.int .i64 pc) ∧ W.cell? ⟨g, k * 2 + 1, none⟩ = some (.slice p n c) ∧ IntsAt W (.slice p n c) s := by
  obtain ⟨q, hr, hlen, hq⟩ := h
  have hkl := xauZ hk
  obtain ⟨⟨pc', u⟩, hx⟩ := xagZ (l := q) (k := k) (by omega)
  obtain ⟨h1, h2⟩ := hq k _ _ hx hk
  simp only at h1 h2
  subst h1
  obtain ⟨p, c, hu⟩ := xahZ h2
  subst hu
  rcases hr.2 with ⟨rfl, h0⟩ | ⟨g, cap, cur, rfl, hb, hg, hn, hc, hs, ht⟩
  · omega
  · have hcl := xfoZ q k _ hx
    refine ⟨g, cap, p, s.length, c, by rw [hlen], xabZ hg, ?_, ?_, xaqZ rfl h2⟩
    · have := hcl.1
      rw [← ht, List.getElem?_take_of_lt (by omega)] at this
      rw [xaaZ hg]; simpa using this
    · have := hcl.2
      rw [← ht, List.getElem?_take_of_lt (by omega)] at this
      rw [xaaZ hg]; simpa using this
theorem jn1 : xbdZ [3, 1] [2, 1] = 0 ∧ joinR [3, 1] [2, 1] = [2, 1] ∧ xbdZ [1] [2] = 4 := by decide +kernel
theorem xgmZ (w : World) : Calls Tryz.prog 6 #[] w fun e w' => e = .returned (.bool true) ∧ Below w.heap.size w w' := by
  have hS : ∀ (W : World) (v u : Value) (l : List Int), IntsAt W v l → IntsAt W u l → Calls Tryz.prog 24 #[v, u] W fun e w' => e = .returned (.bool true) ∧ Below W.heap.size W w' := by
    intro W v u l h1 h2
    have := xbmZ l l v u W h1 h2
    rw [decide_eq_true rfl] at this
    exact this
  have hF : ∀ (W : World) (v : Value), FnsAt W v xbuZ → CapAt W v → Calls Tryz.prog 9 #[.agg #[v], .int .i64 0] W fun e w' => ∃ g cap p n c, e = .returned (.tuple #[.slice (some ⟨g, 0, none⟩) 10 cap, .int .i64 0]) ∧ g < w'.heap.size ∧ w'.cell? ⟨g, 7, none⟩ = some (.slice p n c) ∧ IntsAt w' (.slice p n c) [1] ∧ Below W.heap.size W w' := by
    intro W v h1 h2
    refine (xdxZ xbuZ 0 v W h1 h2).mono ?_
    rintro e w' ⟨v', er, l, rfl, hi, ho, hb⟩
    obtain ⟨rfl, hl, h3⟩ := xhwZ hi
    obtain ⟨g, cap, p, n, c, rfl, hg, _, hc, hI⟩ := ents_at ho h3
    rw [hl]
    exact ⟨g, cap, p, n, c, rfl, hg, hc, hI, hb⟩
  have hJ1 : ∀ (W : World) (v u : Value), IntsAt W v [3, 1] → IntsAt W u [2, 1] → Calls Tryz.prog 15 #[v, u] W fun e w' => ∃ p n c, e = .returned (.tuple #[.slice p n c, .int .i64 0]) ∧ IntsAt w' (.slice p n c) [2, 1] ∧ Below W.heap.size W w' := by
    intro W v u h1 h2
    have := xfdZ [3, 1] [2, 1] v u W h1 h2
    rw [jn1.1, jn1.2.1] at this
    refine this.mono ?_
    rintro e w' ⟨x, rfl, hr, hb⟩
    obtain ⟨p, c, rfl⟩ := xahZ hr
    exact ⟨_, _, _, rfl, xaqZ rfl hr, hb⟩
  have hJ2 : ∀ (W : World) (v u : Value), IntsAt W v [1] → IntsAt W u [2] → Calls Tryz.prog 15 #[v, u] W fun e w' => ∃ p n c, e = .returned (.tuple #[.slice p n c, .int .i64 4]) ∧ Below W.heap.size W w' := by
    intro W v u h1 h2
    have := xfdZ [1] [2] v u W h1 h2
    rw [jn1.2.2] at this
    refine this.mono ?_
    rintro e w' ⟨x, rfl, hr, hb⟩
    obtain ⟨p, c, rfl⟩ := xahZ hr
    exact ⟨_, _, _, rfl, hb⟩
  have hP1 : ∀ (W : World) (v : Value), FnsAt W v squareFns → CapAt W v → Calls Tryz.prog 20 #[.agg #[v]] W fun e w' => e = .returned (.int .i64 0) ∧ Below W.heap.size W w' := by
    intro W v h1 h2
    refine (xfeZ squareFns v W h1 h2).mono ?_
    rintro e w' ⟨er, rfl, hi, hb⟩
    rw [xjjZ hi]
    exact ⟨rfl, hb⟩
  have hP2 : ∀ (W : World) (v : Value), FnsAt W v badFns → CapAt W v → Calls Tryz.prog 20 #[.agg #[v]] W fun e w' => e = .returned (.int .i64 4) ∧ Below W.heap.size W w' := by
    intro W v h1 h2
    refine (xfeZ badFns v W h1 h2).mono ?_
    rintro e w' ⟨er, rfl, hi, hb⟩
    rw [bad_prog hi]
    exact ⟨rfl, hb⟩
  have HS := hideP hS
  have HF := hideP hF
  have HJ1 := hideP hJ1
  have HJ2 := hideP hJ2
  have HP1 := hideP hP1
  have HP2 := hideP hP2
  clear hS hF hJ1 hJ2 hP1 hP2
  go_enter Tryz.func6, Tryz.ntmps6
  go_wp2_with fail
  refine (xi1Z _).mono ?_
  rintro e w1 ⟨v1, rfl, f1, k1, b1⟩
  go_wp2_with fail
  refine (HF.out _ _ f1 k1).mono ?_
  rintro e w2 ⟨g, cap, pe, ne, ce, rfl, hg2, ce2, ie2, hb2⟩
  have B2 := bthen b1 hb2
  clear f1 k1 b1 hb2
  go_wp2_with fail
  have a1 := (Below.refl w2.heap.size w2).alloc (Nat.le_refl _) (.cells #[.int .i64 3, .int .i64 1] 3)
  have a2 := a1.alloc a1.size (.cells #[.int .i64 2, .int .i64 1] 3)
  refine (HJ1.out _ _ _ (xamZ 2 2 (xaeZ (World.alloc_heap_new w2 (.cells #[.int .i64 3, .int .i64 1] 3)) (.cells #[.int .i64 2, .int .i64 1] 3)) rfl (by unfold maxLen; decide)) (xamZ 2 2 (xa3Z w2 _ _) rfl (by unfold maxLen; decide))).mono ?_
  rintro e w3 ⟨pj, nj, cj, rfl, ij3, hb3⟩
  have b23 := bthen a2 hb3
  have B3 := bthen B2 b23
  have hg3 := Nat.lt_of_lt_of_le hg2 b23.size
  have ce3 := (b23.cell (p := ⟨g, 7, none⟩) hg2).trans ce2
  have ie3 := ie2.below b23
  clear a1 a2 hb3 b23 B2 hg2 ce2 ie2
  go_wp2_with fail
  have a1 := (Below.refl w3.heap.size w3).alloc (Nat.le_refl _) (.cells #[.int .i64 1] 3)
  have a2 := a1.alloc a1.size (.cells #[.int .i64 2] 3)
  refine (HJ2.out _ _ _ (xamZ 1 1 (xaeZ (World.alloc_heap_new w3 (.cells #[.int .i64 1] 3)) (.cells #[.int .i64 2] 3)) rfl (by unfold maxLen; decide)) (xamZ 1 1 (xa3Z w3 _ _) rfl (by unfold maxLen; decide))).mono ?_
  rintro e w4 ⟨pk, nk, ck, rfl, hb4⟩
  have b34 := bthen a2 hb4
  have B4 := bthen B3 b34
  have hg4 := Nat.lt_of_lt_of_le hg3 b34.size
  have ce4 := (b34.cell (p := ⟨g, 7, none⟩) hg3).trans ce3
  have ie4 := ie3.below b34
  have ij4 := ij3.below b34
  clear a1 a2 hb4 b34 B3 hg3 ce3 ie3 ij3
  obtain ⟨W7, hW7⟩ : ∃ W7, ((w4.alloc (.cells #[.int .i64 2, .int .i64 0, .int .i64 13, .int .i64 0] 38)).alloc (.cells #[.int .i64 0, .slice none 0 0, .int .i64 0, .slice (some ⟨w4.heap.size, 0, none⟩) 2 2] 28)).alloc (.cells #[.slice (some ⟨w4.heap.size + 1, 0, none⟩) 1 1] 24) = W7 := ⟨_, rfl⟩
  have b47 : Below w4.heap.size w4 W7 := by rw [← hW7]; exact (((Below.refl _ w4).alloc (Nat.le_refl _) _).alloc (by simp) _).alloc (by simp; omega) _
  have x0 : W7.heap[w4.heap.size]? = some (.cells #[.int .i64 2, .int .i64 0, .int .i64 13, .int .i64 0] 38 (0, 0)) := by rw [← hW7]; exact xaeZ (xaeZ (World.alloc_heap_new w4 _) _) _
  have x1 : W7.heap[w4.heap.size + 1]? = some (.cells #[.int .i64 0, .slice none 0 0, .int .i64 0, .slice (some ⟨w4.heap.size, 0, none⟩) 2 2] 28 (0, 0)) := by rw [← hW7]; exact xaeZ (xa3Z w4 _ _) _
  have x2 : W7.heap[w4.heap.size + 1 + 1]? = some (.cells #[.slice (some ⟨w4.heap.size + 1, 0, none⟩) 1 1] 24 (0, 0)) := by
    rw [← hW7]
    have := World.alloc_heap_new ((w4.alloc (.cells #[.int .i64 2, .int .i64 0, .int .i64 13, .int .i64 0] 38)).alloc (.cells #[.int .i64 0, .slice none 0 0, .int .i64 0, .slice (some ⟨w4.heap.size, 0, none⟩) 2 2] 28)) (.cells #[.slice (some ⟨w4.heap.size + 1, 0, none⟩) 1 1] 24)
    simpa using this
  obtain ⟨fb, kb⟩ := fns_one x1 (xdaZ (l := [(2, 0), (13, 0)]) (m := []) (fz := (0, 0)) 2 2 x0 rfl (by unfold maxLen; decide))
  have cb7 := xaaZ x2 0
  simp at cb7
  have lb7 := xabZ x2
  have B7 := bthen B4 b47
  have hg7 := Nat.lt_of_lt_of_le hg4 b47.size
  have ce7 := (b47.cell (p := ⟨g, 7, none⟩) hg4).trans ce4
  have ie7 := ie4.below b47
  have ij7 := ij4.below b47
  have HW7 := hideP hW7
  clear x0 x1 x2 b47 hg4 ce4 ie4 ij4 B4
  have ce4a := ce7
  go_wp2_with fail
  have q8 := World.alloc_heap_new W7 (.cells #[.int .i64 1] 3)
  have a8 := (Below.refl W7.heap.size W7).alloc (Nat.le_refl _) (.cells #[.int .i64 1] 3)
  refine (HS.out _ _ _ [1] (ie7.below a8) (xamZ 1 1 q8 rfl (by unfold maxLen; decide))).mono ?_
  rintro e w8 ⟨rfl, hb8⟩
  have b78 := bthen a8 hb8
  have ij8 := ij7.below b78
  clear q8 a8 hb8 ie7 ij7 ce7 ce4a hW7
  go_wp2_with fail
  have q9 := World.alloc_heap_new w8 (.cells #[.int .i64 2, .int .i64 1] 3)
  have a9 := (Below.refl w8.heap.size w8).alloc (Nat.le_refl _) (.cells #[.int .i64 2, .int .i64 1] 3)
  refine (HS.out _ _ _ [2, 1] (ij8.below a9) (xamZ 2 2 q9 rfl (by unfold maxLen; decide))).mono ?_
  rintro e w9 ⟨rfl, hb9⟩
  have b79 := bthen b78 (bthen a9 hb9)
  clear q9 a9 hb9 ij8 b78
  go_wp2_with fail
  refine (xjiZ _).mono ?_
  rintro e w10 ⟨v10, rfl, f10, k10, hb10⟩
  go_wp2_with fail
  refine (HP1.out _ _ f10 k10).mono ?_
  rintro e w11 ⟨rfl, hb11⟩
  have b711 := bthen b79 (bthen hb10 hb11)
  have cb11 := (b711.cell (p := ⟨w4.heap.size + 1 + 1, 0, none⟩) lb7).trans cb7
  have fb11 := fb.below b711
  have kb11 := kb.below fb b711
  clear f10 k10 hb10 hb11 b79
  go_wp2_with fail
  refine (HP2.out _ _ fb11 kb11).mono ?_
  rintro e w12 ⟨rfl, hb12⟩
  go_wp2
  go_ret
  exact ⟨rfl, bthen B7 (bthen b711 hb12)⟩
end Go.Proofs.YtgmkmlenhhhgkaaGreat


/- Plain laws on least entries, ahead of stage 2: a function more at the end, and an op that is never come to, change none. -/
namespace Go.Proofs.YtgmkmlenhhhgkaaGreat
open Go.RowKit
set_option linter.unusedSimpArgs false
set_option linter.unusedVariables false
theorem xf3Z {p p' : List Fn} {f f' : Fn} {e : Nat → Option (List Int)} (hf : FitsBy p f e)
    (hop : ∀ pc s o, e pc = some s → f.2.2.2[pc]? = some o → ∃ o', f'.2.2.2[pc]? = some o' ∧ tryOp p' f' o' s = tryOp p f o s) (hgo : ∀ pc s to, e pc = some s → goesOn f'.2.2.2 pc to = goesOn f.2.2.2 pc to) (hlen : f'.2.2.2.length = f.2.2.2.length) : FitsBy p' f' e := by
  refine ⟨hf.first, fun pc s hs => ?_⟩
  obtain ⟨o, out, h1, h2, h3⟩ := hf.on pc s hs
  obtain ⟨o', h4, h5⟩ := hop pc s o hs h1
  refine ⟨o', out, h4, h5.trans h2, fun to hto => ?_⟩
  rw [hgo pc s to hs] at hto
  rw [hlen]
  exact h3 to hto
open Classical in
/-- only what may be come to. -/
noncomputable def xd5Z (code : List (Int × Int)) (e : Nat → Option (List Int)) : Nat → Option (List Int) := fun x => if Come code x then e x else none
open Classical in
theorem xcpZ {code : List (Int × Int)} {e : Nat → Option (List Int)} {x : Nat} {s : List Int} (h : xd5Z code e x = some s) : Come code x ∧ e x = some s := by
  unfold xd5Z at h
  by_cases hc : Come code x
  · rw [if_pos hc] at h; exact ⟨hc, h⟩
  · rw [if_neg hc] at h; cases h
open Classical in
theorem xg8Z {code : List (Int × Int)} {e : Nat → Option (List Int)} {x : Nat} {s : List Int} (hc : Come code x) (h : e x = some s) : xd5Z code e x = some s := by
  unfold xd5Z
  rw [if_pos hc]; exact h
theorem xfpZ {p : List Fn} {f : Fn} {e : Nat → Option (List Int)} (hf : FitsBy p f e) : FitsBy p f (xd5Z f.2.2.2 e) := by
  refine ⟨xg8Z .zero hf.first, fun pc s hs => ?_⟩
  obtain ⟨hc, hs'⟩ := xcpZ hs
  obtain ⟨o, out, h1, h2, h3⟩ := hf.on pc s hs'
  refine ⟨o, out, h1, h2, fun to hto => ?_⟩
  obtain ⟨h4, s', h5, h6⟩ := h3 to hto
  exact ⟨h4, s', xg8Z (.step hc hto) h5, h6⟩
theorem xgaZ {p : List Fn} {f : Fn} {e : Nat → Option (List Int)} (h : Least p f (some e)) (x : Nat) : (∃ s, e x = some s) ↔ Come f.2.2.2 x := by
  constructor
  · rintro ⟨s, hs⟩
    obtain ⟨s', h1, _⟩ := h.2 _ (xfpZ h.1) x s hs
    exact (xcpZ h1).1
  · intro hc
    exact xexZ h.1 hc
theorem xi9Z {p p' : List Fn} {f f' : Fn} {r : Option (Nat → Option (List Int))} (h : Least p f r)
    (hop : ∀ pc s o, Come f.2.2.2 pc → f.2.2.2[pc]? = some o → ∃ o', f'.2.2.2[pc]? = some o' ∧ tryOp p' f' o' s = tryOp p f o s)
    (hop' : ∀ pc s o, Come f.2.2.2 pc → f'.2.2.2[pc]? = some o → ∃ o', f.2.2.2[pc]? = some o' ∧ tryOp p f o' s = tryOp p' f' o s)
    (hgo : ∀ pc to, Come f.2.2.2 pc → goesOn f'.2.2.2 pc to = goesOn f.2.2.2 pc to) (hlen : f'.2.2.2.length = f.2.2.2.length) : Least p' f' r := by
  have hcome : ∀ x, Come f'.2.2.2 x ↔ Come f.2.2.2 x := by
    intro x
    constructor
    · intro hx
      induction hx with
      | zero => exact .zero
      | step _ h2 ih => exact .step ih (by rw [← hgo _ _ ih]; exact h2)
    · intro hx
      induction hx with
      | zero => exact .zero
      | step h1 h2 ih => exact .step ih (by rw [hgo _ _ h1]; exact h2)
  have back : ∀ e', FitsBy p' f' e' → FitsBy p f (xd5Z f'.2.2.2 e') := fun e' he' => by
    refine xf3Z (xfpZ he') (fun pc s o hs ho => ?_) (fun pc s to hs => ?_) hlen.symm
    · exact hop' pc s o ((hcome pc).1 (xcpZ hs).1) ho
    · exact (hgo pc to ((hcome pc).1 (xcpZ hs).1)).symm
  cases r with
  | none => exact fun e he => h _ (back e he)
  | some e =>
    refine ⟨xf3Z h.1 (fun pc s o hs ho => ?_) (fun pc s to hs => ?_) hlen, fun e' he' pc s hs => ?_⟩
    · exact hop pc s o ((xgaZ h pc).1 ⟨s, hs⟩) ho
    · exact hgo pc to ((xgaZ h pc).1 ⟨s, hs⟩)
    · obtain ⟨s', h1, h2⟩ := h.2 _ (back e' he') pc s hs
      exact ⟨s', (xcpZ h1).2, h2⟩
theorem xfzZ (p p' : List Fn) (f f' : Fn) (o : Int × Int) (s : List Int) (h1 : f'.2.1 = f.2.1) (h2 : f'.2.2.1 = f.2.2.1) (hp : ∀ i : Nat, (p'[i]?).map (fun g : Fn => (g.1, g.2.1, g.2.2.1)) = (p[i]?).map (fun g : Fn => (g.1, g.2.1, g.2.2.1))) : xajZ p' f' o s = xajZ p f o s := by
  unfold xajZ
  rw [h1, h2]
  have h3 : (p'[o.2.toNat]?).map (fun g : Fn => (g.2.1.take g.1.toNat, if 0 < g.2.2.1 then [g.2.2.1] else [])) = (p[o.2.toNat]?).map (fun g : Fn => (g.2.1.take g.1.toNat, if 0 < g.2.2.1 then [g.2.2.1] else [])) := by
    have h4 := congrArg (Option.map fun x : Int × List Int × Int => (x.2.1.take x.1.toNat, if 0 < x.2.2 then [x.2.2] else [])) (hp o.2.toNat)
    simpa [Option.map_map, Function.comp_def] using h4
  rw [h3]
theorem least_dead {p p' : List Fn} {f f' : Fn} {r : Option (Nat → Option (List Int))} (h : Least p f r) (h1 : f'.2.1 = f.2.1) (h2 : f'.2.2.1 = f.2.2.1) (hp : ∀ i : Nat, (p'[i]?).map (fun g : Fn => (g.1, g.2.1, g.2.2.1)) = (p[i]?).map (fun g : Fn => (g.1, g.2.1, g.2.2.1)))
    (hlen : f'.2.2.2.length = f.2.2.2.length) (hc : ∀ pc, Come f.2.2.2 pc → f'.2.2.2[pc]? = f.2.2.2[pc]?) : Least p' f' r := by
  have ht : ∀ (o : Int × Int) (s : List Int), tryOp p' f' o s = tryOp p f o s := fun o s => by
    unfold tryOp
    rw [xfzZ p p' f f' o s h1 h2 hp]
  refine xi9Z h (fun pc s o hpc ho => ⟨o, (hc pc hpc).trans ho, ht o s⟩) (fun pc s o hpc ho => ⟨o, (hc pc hpc).symm.trans ho, (ht o s).symm⟩) (fun pc to hpc => ?_) hlen
  unfold goesOn
  rw [hc pc hpc]
end Go.Proofs.YtgmkmlenhhhgkaaGreat


/- Entries that can be read; plain facts on the entries that Func tells. -/
namespace Go.Proofs.YtgmkmlenhhhgkaaGreat
open Go.RowKit
set_option linter.unusedSimpArgs false
set_option linter.unusedVariables false
structure FullInts (W : World) (u : Value) (s : List Int) : Prop where
  at_ : IntsAt W u s
  nil : NilOk u
  cap : ∀ p n c, u = .slice p n c → n ≤ c
theorem FullInts.below {W W' : World} {u : Value} {s : List Int} (h : FullInts W u s) (hb : Below W.heap.size W W') : FullInts W' u s := ⟨h.at_.below hb, h.nil, h.cap⟩
theorem xh2Z {W : World} {B : Nat} {u : Value} {s : List Int} {n : Nat} (hn : n = s.length) (h : W.ownsRow B 3 1 u n (s.map (Value.int .i64))) : FullInts W u s :=
  ⟨xaqZ hn h, xc9Z h, fun p n c hu => by
    rcases h.2 with ⟨rfl, _⟩ | ⟨g, cap, cur, rfl, _, _, h1, _⟩
    · cases hu; exact Nat.le_refl _
    · cases hu; exact h1⟩
theorem FullInts.shp {W : World} {u : Value} {s : List Int} (h : FullInts W u s) : ∃ p c, u = .slice p s.length c ∧ s.length ≤ c := by
  obtain ⟨p, c, hu, _⟩ := h.at_
  exact ⟨p, c, hu, h.cap _ _ _ hu⟩
def EntsRd (W : World) (v : Value) (l : List (Nat × List Int)) : Prop :=
  ∃ p cap, v = .slice p l.length cap ∧ l.length ≤ maxLen ∧ ∀ (k pc : Nat) (s : List Int), l[k]? = some (pc, s) → ∃ b off u, p = some ⟨b, off, none⟩ ∧ b < W.heap.size ∧ W.cell? ⟨b, off + k * 2, none⟩ = some (.int .i64 pc) ∧ W.cell? ⟨b, off + k * 2 + 1, none⟩ = some u ∧ FullInts W u s
theorem EntsRd.below {W W' : World} {v : Value} {l : List (Nat × List Int)} (h : EntsRd W v l) (hb : Below W.heap.size W W') : EntsRd W' v l := by
  obtain ⟨p, cap, rfl, hm, hc⟩ := h
  refine ⟨p, cap, rfl, hm, fun k pc s hk => ?_⟩
  obtain ⟨b, off, u, rfl, hlt, h0, h1, h2⟩ := hc k pc s hk
  exact ⟨b, off, u, rfl, Nat.lt_of_lt_of_le hlt hb.size, (hb.cell (p := ⟨b, off + k * 2, none⟩) hlt).trans h0, (hb.cell (p := ⟨b, off + k * 2 + 1, none⟩) hlt).trans h1, h2.below hb⟩
theorem EntsRd.shp {W : World} {v : Value} {l : List (Nat × List Int)} (h : EntsRd W v l) : ∃ p cap, v = .slice p l.length cap := by
  obtain ⟨p, cap, hv, _⟩ := h
  exact ⟨p, cap, hv⟩
theorem xf1Z {W : World} {B : Nat} {v : Value} {l : List (Nat × List Int)} (h : xd2Z W B v l) : EntsRd W v l := by
  obtain ⟨q, hr, hlen, hq⟩ := h
  rcases hr.2 with ⟨rfl, h0⟩ | ⟨g, cap, cur, rfl, hb, hg, hn, hc, hs, ht⟩
  · have hl : l = [] := List.eq_nil_of_length_eq_zero (by omega)
    subst hl
    exact ⟨none, 0, rfl, Nat.zero_le _, fun k pc s hk => by simp at hk⟩
  · refine ⟨_, cap, by rw [hlen], by omega, fun k pc s hk => ?_⟩
    have hkl := xauZ hk
    obtain ⟨⟨pc', u⟩, hx⟩ := xagZ (l := q) (k := k) (by omega)
    obtain ⟨h1, h2⟩ := hq k _ _ hx hk
    simp only at h1 h2
    subst h1
    have hcl := xfoZ q k _ hx
    refine ⟨g, 0, u, rfl, xabZ hg, ?_, ?_, xh2Z rfl h2⟩
    · have := hcl.1
      rw [← ht, List.getElem?_take_of_lt (by omega)] at this
      rw [xaaZ hg]; simpa using this
    · have := hcl.2
      rw [← ht, List.getElem?_take_of_lt (by omega)] at this
      rw [xaaZ hg]; simpa using this
end Go.Proofs.YtgmkmlenhhhgkaaGreat


/- Functions appended onto a row of the call's own. -/
namespace Go.Proofs.YtgmkmlenhhhgkaaGreat
open Go.RowKit
set_option linter.unusedSimpArgs false
set_option linter.unusedVariables false
structure RowFns (W : World) (xs : List Value) (l : List Fn) : Prop where
  len : xs.length = l.length * 4
  at_ : ∀ (k : Nat) (f : Fn), l[k]? = some f → ∃ c0 c1 c2 c3, xs[k * 4]? = some c0 ∧ xs[k * 4 + 1]? = some c1 ∧ xs[k * 4 + 2]? = some c2 ∧ xs[k * 4 + 3]? = some c3 ∧ FnAt W c0 c1 c2 c3 f ∧ ∀ p n c, c1 = .slice p n c → n ≤ c
theorem fns_row {W : World} {B : Nat} {v : Value} {xs : List Value} {l : List Fn} {n : Nat} (hn : n = l.length) (hr : W.ownsRow B 28 4 v n xs) (h : RowFns W xs l) : FnsAt W v l ∧ CapAt W v ∧ NilOk v := by
  subst hn
  refine ⟨?_, ?_, xc9Z hr⟩
  · rcases hr.2 with ⟨rfl, h0⟩ | ⟨g, cap, cur, rfl, hb, hg, hn, hc, hs, ht⟩
    · have hl : l = [] := List.eq_nil_of_length_eq_zero h0
      subst hl
      exact ⟨none, 0, rfl, Nat.zero_le _, fun k f hk => by simp at hk⟩
    · refine ⟨_, cap, rfl, by omega, fun k f hk => ?_⟩
      have hkl := xauZ hk
      obtain ⟨c0, c1, c2, c3, h0, h1, h2, h3, hf, _⟩ := h.at_ k f hk
      have gc : ∀ j c, j < l.length * 4 → xs[j]? = some c → W.cell? ⟨g, 0 + j, none⟩ = some c := by
        intro j c hj hx
        rw [← ht, List.getElem?_take_of_lt (by omega)] at hx
        rw [xaaZ hg]
        simpa using hx
      exact ⟨g, 0, c0, c1, c2, c3, rfl, xabZ hg, gc _ _ (by omega) h0, gc _ _ (by omega) h1, gc _ _ (by omega) h2, gc _ _ (by omega) h3, hf⟩
  · intro b off n cap k p' n' c' hv hk hcell
    rcases hr.2 with ⟨rfl, h0⟩ | ⟨g, cap2, cur, rfl, hb, hg, hn, hc, hs, ht⟩
    · cases hv
    · cases hv
      obtain ⟨f, hf⟩ := xagZ hk
      obtain ⟨c0, c1, c2, c3, h0, h1, h2, h3, _, hcap⟩ := h.at_ k f hf
      rw [← ht, List.getElem?_take_of_lt (by omega)] at h1
      rw [xaaZ hg] at hcell
      have : c1 = .slice p' n' c' := by
        have e : cur[0 + k * 4 + 1]? = some c1 := by simpa using h1
        rw [e] at hcell
        exact Option.some.inj hcell
      exact hcap _ _ _ this
theorem xgbZ {w : World} {a : Addr} {v : Value} (h : w.cell? a = some v) : a.block < w.heap.size := by
  rcases Nat.lt_or_ge a.block w.heap.size with h' | h'
  · exact h'
  · simp [World.cell?, Array.getElem?_eq_none h'] at h
theorem xdbZ {W : World} {B g : Nat} {e : TypeId} {k : Nat} (h : W.heap[g]? = some (.cells #[] e (0, 0))) (hB : B ≤ g) : W.ownsRow B e k (.slice (some ⟨g, 0, none⟩) 0 0) 0 [] := ⟨by simp, .inr ⟨g, 0, #[], rfl, hB, h, Nat.le_refl _, Nat.zero_le _, by simp, by simp⟩⟩
theorem xc5Z {w W : World} (h : Below w.heap.size w W) (o : Obj) : Below w.heap.size w (W.alloc o) := h.alloc h.size o
theorem xcqZ {w W W' : World} (h : Below w.heap.size w W) {g : Option Nat} (hg : W.grownBy W' g) (hb : ∀ k, g = some k → w.heap.size ≤ k) : Below w.heap.size w W' := h.grown hg h.size hb
theorem new_three (w : World) (a b c : Obj) : (((w.alloc a).alloc b).alloc c).heap[w.heap.size + 1 + 1]? = some c := by
  have := xa3Z (w.alloc a) b c
  simpa using this
theorem cells4_at {w : World} {b : Nat} {c0 c1 c2 c3 : Value} {t : TypeId} {fz : Nat × Nat} (h : w.heap[b]? = some (.cells #[c0, c1, c2, c3] t fz)) : ∀ (j : Nat) (u : Value), [c0, c1, c2, c3][j]? = some u → w.cell? ((⟨b, 0, none⟩ : Addr).add j) = some u := by
  intro j u hj
  rw [xc3Z, xaaZ h]
  simpa using hj
end Go.Proofs.YtgmkmlenhhhgkaaGreat


/- Another op where nobody comes: plainly. -/
namespace Go.Proofs.YtgmkmlenhhhgkaaGreat
open Go.RowKit
set_option linter.unusedSimpArgs false
set_option linter.unusedVariables false
theorem come_set {C : List (Int × Int)} {pc : Nat} {o : Int × Int} (h : ¬ Come C pc) (x : Nat) : Come C x ↔ Come (C.set pc o) x := by
  have hg : ∀ y to, y ≠ pc → goesOn (C.set pc o) y to = goesOn C y to := fun y to hy => by
    unfold goesOn
    rw [List.getElem?_set_ne (fun e => hy e.symm)]
  constructor
  · intro hc
    induction hc with
    | zero => exact .zero
    | step hy hgo ih => exact .step ih (by rw [hg _ _ (fun e => h (e ▸ hy))]; exact hgo)
  · intro hc
    induction hc with
    | zero => exact .zero
    | step hy hgo ih => exact .step ih (by rw [← hg _ _ (fun e => h (e ▸ ih))]; exact hgo)
theorem reachL_set {C : List (Int × Int)} {pc : Nat} {o : Int × Int} (h : ¬ Come C pc) : xa9Z (C.set pc o) = xa9Z C := by
  unfold xa9Z
  rw [List.length_set]
  exact List.filter_congr fun x _ => by rw [Bool.eq_iff_iff]; simp only [decide_eq_true_eq]; exact (come_set h x).symm
def setOp (f : Fn) (pc : Nat) (o : Int × Int) : Fn := (f.1, f.2.1, f.2.2.1, f.2.2.2.set pc o)
theorem func_dead {p : List Fn} {m : Nat} {er : Int} {l : List (Nat × List Int)} {f : Fn} {pc : Nat} {o : Int × Int} (hp1 : xakZ p = 0) (hp2 : xakZ (p.set m (setOp f pc o)) = 0) (h : xdmZ p m er l) (hf : p[m]? = some f) (hpc : ¬ Come f.2.2.2 pc) : xdmZ (p.set m (setOp f pc o)) m er l := by
  have hlt := xauZ hf
  rcases h with ⟨a1, _⟩ | ⟨_, a2, _⟩ | ⟨_, n, g, rr, hn, a3, a4, a5⟩
  · exact absurd hp1 a1
  · omega
  · have hnm : n = m := by omega
    subst hnm
    rw [hf] at a3
    cases a3
    have hL : Least (p.set n (setOp f pc o)) (setOp f pc o) rr := by
      refine least_dead a4 rfl rfl (fun i => ?_) (by simp [setOp]) (fun x hx => ?_)
      · by_cases hi : n = i
        · subst hi
          rw [List.getElem?_set_self hlt, hf]
          rfl
        · rw [List.getElem?_set_ne hi]
      · show (f.2.2.2.set pc o)[x]? = _
        rw [List.getElem?_set_ne (fun e => hpc (by rw [e]; exact hx))]
    refine .inr (.inr ⟨hp2, n, setOp f pc o, rr, rfl, List.getElem?_set_self hlt, hL, ?_⟩)
    rcases a5 with a5 | ⟨e, h1, h2, h3⟩
    · exact .inl a5
    · exact .inr ⟨e, h1, h2, by rw [h3]; show _ = (xa9Z (f.2.2.2.set pc o)).map _; rw [reachL_set hpc]⟩
end Go.Proofs.YtgmkmlenhhhgkaaGreat


/- A program's copy, in memory of its own. -/
namespace Go.Proofs.YtgmkmlenhhhgkaaGreat
open Go.RowKit
set_option linter.unusedSimpArgs false
set_option linter.unusedVariables false
structure PCopy (W : World) (B : Nat) (u : Value) (q : List FnV) (l : List Fn) : Prop where
  row : W.ownsRow B 28 4 u q.length (fnCells q)
  len : q.length = l.length
  nums : ∀ (k : Nat) (c : FnV) (f : Fn), q[k]? = some c → l[k]? = some f → c.1 = .int .i64 f.1 ∧ c.2.2.1 = .int .i64 f.2.2.1
  locs : ∀ (k : Nat) (c : FnV) (f : Fn), q[k]? = some c → l[k]? = some f → W.ownsRow B 3 1 c.2.1 f.2.1.length (f.2.1.map (Value.int .i64))
  code : ∀ (k : Nat) (c : FnV) (f : Fn), q[k]? = some c → l[k]? = some f → W.ownsRow B 38 2 c.2.2.2 f.2.2.2.length (opCells f.2.2.2)
  apart : ∀ (i j : Nat) (c d : FnV) (g : Nat), q[i]? = some c → q[j]? = some d → c.2.2.2.ownBlock = some g → d.2.2.2.ownBlock = some g → i = j
theorem row_cap {W : World} {B : Nat} {e : TypeId} {size : Nat} {v : Value} {n : Nat} {xs : List Value} (h : W.ownsRow B e size v n xs) : ∀ p m c, v = .slice p m c → m ≤ c := fun p m c hv => by
  rcases h.2 with ⟨h1, h2⟩ | ⟨g, cap, cur, h1, _, _, h3, _⟩
  · rw [h1] at hv; cases hv; exact Nat.le_refl _
  · rw [h1] at hv; cases hv; exact h3
theorem PCopy.rowFns {W : World} {B : Nat} {u : Value} {q : List FnV} {l : List Fn} (h : PCopy W B u q l) : RowFns W (fnCells q) l := by
  refine ⟨by rw [xgrZ, h.len], fun k f hk => ?_⟩
  obtain ⟨c, hc⟩ := xagZ (l := q) (k := k) (by rw [h.len]; exact xauZ hk)
  obtain ⟨h0, h1, h2, h3⟩ := xeaZ q k c hc
  obtain ⟨n0, n2⟩ := h.nums k c f hc hk
  exact ⟨c.1, c.2.1, c.2.2.1, c.2.2.2, h0, h1, h2, h3, ⟨n0, xaqZ rfl (h.locs k c f hc hk), n2, xe9Z (h.code k c f hc hk)⟩, row_cap (h.locs k c f hc hk)⟩
theorem PCopy.at_ {W : World} {B : Nat} {u : Value} {q : List FnV} {l : List Fn} (h : PCopy W B u q l) : FnsAt W u l ∧ CapAt W u := by
  obtain ⟨h1, h2, _⟩ := fns_row h.len h.row h.rowFns
  exact ⟨h1, h2⟩
theorem PCopy.below {W W' : World} {B : Nat} {u : Value} {q : List FnV} {l : List Fn} (h : PCopy W B u q l) (hb : Below W.heap.size W W') : PCopy W' B u q l :=
  ⟨xayZ h.row fun k hk => hb.block k (h.row.lt k hk).2, h.len, h.nums, fun k c f hc hf => xayZ (h.locs k c f hc hf) fun j hj => hb.block j ((h.locs k c f hc hf).lt j hj).2, fun k c f hc hf => xayZ (h.code k c f hc hf) fun j hj => hb.block j ((h.code k c f hc hf).lt j hj).2, h.apart⟩
theorem PCopy.keep {W W' : World} {B : Nat} {t : TypeId} {u : Value} {q : List FnV} {l : List Fn} {row : Option Nat} (h : PCopy W B u q l) (hg : W.grownBy W' row) (ht : ∀ r, row = some r → ∃ cs fz, W.heap[r]? = some (.cells cs t fz)) (h1 : t ≠ 28) (h2 : t ≠ 3) (h3 : t ≠ 38) : PCopy W' B u q l := by
  have key : ∀ {e : TypeId} {size n : Nat} {v : Value} {xs : List Value}, W.ownsRow B e size v n xs → t ≠ e → W'.ownsRow B e size v n xs := fun hr hne => xayZ hr fun k hk => hg.block k (hr.lt k hk).2 fun e1 => by
    obtain ⟨cs, fz, hh⟩ := ht k e1.symm
    exact xa0Z hr hh hne hk.symm
  exact ⟨key h.row h1, h.len, h.nums, fun k c f hc hf => key (h.locs k c f hc hf) h2, fun k c f hc hf => key (h.code k c f hc hf) h3, h.apart⟩
theorem xjeZ (l : List (Int × Int)) (k : Nat) (o : Int × Int) : ((opCells l).set (k * 2) (.int .i64 o.1)).set (k * 2 + 1) (.int .i64 o.2) = opCells (l.set k o) := by
  induction l generalizing k with
  | nil => simp [opCells]
  | cons x r ih =>
    cases k with
    | zero => simp [opCells]
    | succ k =>
      have := ih k
      rw [show (k + 1) * 2 = k * 2 + 1 + 1 from by omega]
      simpa [opCells] using this
theorem row_set2 {W : World} {B : Nat} {e : TypeId} {size n cap g : Nat} {xs : List Value} (h : W.ownsRow B e size (.slice (some ⟨g, 0, none⟩) n cap) n xs) (i : Nat) (u : Value) : (W.setCell ⟨g, i, none⟩ u).ownsRow B e size (.slice (some ⟨g, 0, none⟩) n cap) n (xs.set i u) := by
  rcases h.2 with ⟨h1, _⟩ | ⟨g', cap', cur, h1, h2, h3, h4, h5, h6, h7⟩
  · cases h1
  · cases h1
    have hs := heap_setCell_same W g i _ _ u h3
    refine ⟨by simpa using h.1, .inr ⟨g, cap, _, rfl, h2, hs, h4, h5, by simpa using h6, ?_⟩⟩
    have e1 : (cur.setIfInBounds i u).toList = cur.toList.set i u := by simp
    rw [e1, List.take_set, h7]
theorem PCopy.setsOp {W : World} {B m pc g cap : Nat} {u : Value} {q : List FnV} {l : List Fn} {c : FnV} {f : Fn} (h : PCopy W B u q l) (hc : q[m]? = some c) (hf : l[m]? = some f) (hcv : c.2.2.2 = .slice (some ⟨g, 0, none⟩) f.2.2.2.length cap) (o : Int × Int) : PCopy ((W.setCell ⟨g, pc * 2, none⟩ (.int .i64 o.1)).setCell ⟨g, pc * 2 + 1, none⟩ (.int .i64 o.2)) B u q (l.set m (setOp f pc o)) := by
  have hr := h.code m c f hc hf
  rw [hcv] at hr
  have hty : ∃ cs, W.heap[g]? = some (.cells cs 38 (0, 0)) := by
    rcases hr.2 with ⟨h1, _⟩ | ⟨g', cap', cur, h1, _, h3, _⟩
    · cases h1
    · cases h1; exact ⟨cur, h3⟩
  obtain ⟨cs, hg⟩ := hty
  have hsame : ∀ k, k ≠ g → ((W.setCell ⟨g, pc * 2, none⟩ (.int .i64 o.1)).setCell ⟨g, pc * 2 + 1, none⟩ (.int .i64 o.2)).heap[k]? = W.heap[k]? := fun k hk => by
    rw [Below.heap_setCell _ _ _ k (by simpa using hk), Below.heap_setCell _ _ _ k (by simpa using hk)]
  have hnot : ∀ {e : TypeId} {size n : Nat} {v : Value} {xs : List Value}, W.ownsRow B e size v n xs → 38 ≠ e → ((W.setCell ⟨g, pc * 2, none⟩ (.int .i64 o.1)).setCell ⟨g, pc * 2 + 1, none⟩ (.int .i64 o.2)).ownsRow B e size v n xs := fun hr2 hne => xayZ hr2 fun k hk => hsame k fun e1 => by
    subst e1
    exact xa0Z hr2 hg hne hk.symm
  have hlt := xauZ hf
  refine ⟨hnot h.row (by decide), by rw [List.length_set]; exact h.len, fun k d f' hd hf' => ?_, fun k d f' hd hf' => ?_, fun k d f' hd hf' => ?_, h.apart⟩
  · rw [List.getElem?_set] at hf'
    split at hf'
    · rename_i e1; subst e1
      cases hf'; exact h.nums m d f hd hf
    · exact h.nums k d f' hd hf'
  · rw [List.getElem?_set] at hf'
    split at hf'
    · rename_i e1; subst e1
      cases hf'; exact hnot (h.locs m d f hd hf) (by decide)
    · exact hnot (h.locs k d f' hd hf') (by decide)
  · rw [List.getElem?_set] at hf'
    split at hf'
    · rename_i e1; subst e1
      cases hf'
      rw [hc] at hd
      cases hd
      have h2 := row_set2 (row_set2 hr (pc * 2) (.int .i64 o.1)) (pc * 2 + 1) (.int .i64 o.2)
      rw [xjeZ] at h2
      rw [hcv]
      have e2 : (setOp f pc o).2.2.2.length = f.2.2.2.length := by simp [setOp]
      rw [e2]
      exact h2
    · rename_i e1
      have h2 := h.code k d f' hd hf'
      exact xayZ h2 fun j hj => hsame j fun e2 => by
        subst e2
        exact e1 (h.apart m k c d j hc hd (by rw [hcv]; rfl) hj)
end Go.Proofs.YtgmkmlenhhhgkaaGreat


/- A region that draws its order, where a condition is claimed behind some of its operations only: own laws over the library's wpOp. -/
namespace Go.Proofs.YtgmkmlenhhhgkaaGreat
open Go Go.RowKit
set_option linter.unusedSimpArgs false
set_option linter.unusedVariables false
section
variable {P : Program} {ops : Array Oper} {Q : Exit → Act → World → Prop} {md : Region.Mode} {C : World → Prop} {J : Nat → Bool}
def Drawn (P : Program) (md : Region.Mode) (ops : Array Oper) (Q : Exit → Act → World → Prop) (C : World → Prop) (J : Nat → Bool) : Nat → Array Bool → Act → World → Prop
  | 0, listed, a, w => Region.ready md ops listed = [] ∧ Q .normal a w
  | n + 1, listed, a, w => (Region.ready md ops listed = [] → Q .normal a w) ∧ ∀ j ∈ Region.ready md ops listed, wpOp P ops Q j (fun a' w' => (J j = true → C w') ∧ Drawn P md ops Q C J n (listed.setIfInBounds j true) a' w') a w
theorem Drawn.any : ∀ (n : Nat) (listed : Array Bool) (a : Act) (w : World), Drawn P md ops Q C J n listed a w → wpAny P md ops Q n listed a w
  | 0, _, _, _, h => h
  | n + 1, _, _, _, h => ⟨h.1, fun j hj => wpOp_mono (fun a' w' h' => Drawn.any n _ a' w' h'.2) (h.2 j hj)⟩
theorem Drawn.enter {id : Nat} {a : Act} {w : World} (hm : P.follows .mixedOrders = true) (h : Drawn P .any ops Q C J ops.size (Array.replicate ops.size false) a w.drew) : (Code.region id ops true).wp P Q a w :=
  wp_region_any hm (Drawn.any _ _ _ _ h)
theorem Drawn.done {listed : Array Bool} {a : Act} {w : World} {n : Nat} (hr : Region.ready md ops listed = []) (h : Q .normal a w) : Drawn P md ops Q C J n listed a w := by
  cases n with
  | zero => exact ⟨hr, h⟩
  | succ n => exact ⟨fun _ => h, fun j hj => by rw [hr] at hj; cases hj⟩
theorem Drawn.first {i : Nat} {oi : Oper} {v : Value} (hi : ops[i]? = some oi) (hJi : J i = true) (hJ : ∀ j oj, ops[j]? = some oj → J j = false → ∃ e ∈ oj.after, Region.binds md e = true ∧ e.on = i) (hsel : ∀ (j : Nat) (o : Oper) cs b, ops[j]? = some o → o.op ≠ .select cs b)
    (hQ : ∀ c a w, Q (.panic c) (a.put oi.dst v) w → Q (.panic c) a w) : ∀ (n : Nat) (listed : Array Bool) (a : Act) (w : World),
      (∀ j oj, ops[j]? = some oj → j ≠ i → listed.getD j true = false → (∀ e ∈ oj.after, Region.binds md e = true → e.on ≠ i) → oi.apart ops oj = true) →
      i ∈ Region.ready md ops listed → YieldsIf P ops C oi v a → C w →
      Drawn P md ops Q C J n (listed.setIfInBounds i true) (a.put oi.dst v) w → Drawn P md ops Q C J (n + 1) listed a w := by
  intro n
  induction n with
  | zero =>
    intro listed a w _ hr hy hC H
    refine ⟨(fun h => by rw [h] at hr; cases hr), fun j hj => ?_⟩
    by_cases hji : j = i
    · subst hji
      exact hy.wpOp hi hC ⟨fun _ => hC, H⟩
    · have h0 := ready_mono hj hji
      rw [H.1] at h0
      cases h0
  | succ n ih =>
    intro listed a w hfree hr hy hC H
    refine ⟨(fun h => by rw [h] at hr; cases hr), fun j hj => ?_⟩
    by_cases hji : j = i
    · subst hji
      exact hy.wpOp hi hC ⟨fun _ => hC, H⟩
    · obtain ⟨hju, oj, hoj, hall⟩ := mem_ready.1 hj
      have hiu := (mem_ready.1 hr).1
      have hnot : ∀ e ∈ oj.after, Region.binds md e = true → e.on ≠ i := fun e he hb heq => by
        have h1 := hall e he hb
        rw [heq] at h1
        rcases Nat.lt_or_ge i listed.size with h' | h'
        · simp [h'] at hiu h1; rw [hiu] at h1; cases h1
        · simp [Array.getElem?_eq_none h'] at h1
      have hJj : J j = true := by
        cases h : J j with
        | true => rfl
        | false =>
          obtain ⟨e, he, hb, heq⟩ := hJ j oj hoj h
          exact absurd heq (hnot e he hb)
      have hfree' : ∀ k ok, ops[k]? = some ok → k ≠ i → (listed.setIfInBounds j true).getD k true = false → (∀ e ∈ ok.after, Region.binds md e = true → e.on ≠ i) → oi.apart ops ok = true := fun k ok hk hki hun hno => by
        refine hfree k ok hk hki ?_ hno
        by_cases hjk : j = k
        · subst hjk; exact hju
        · rwa [getD_set_ne true hjk] at hun
      have hput := wpOp_putIf hoj (hfree j oj hoj hji hju hnot) (fun cs b => hsel i oi cs b hi) (fun cs b => hsel j oj cs b hoj) hQ hy (H.2 j (ready_mono hj hji))
      refine wpOp_mono (fun a' w' h3 => ?_) hput
      obtain ⟨h4, h5, h6⟩ := h3
      refine ⟨h5, ih (listed.setIfInBounds j true) a' w' hfree' (ready_mono hr (Ne.symm hji)) h4 (h5 hJj) ?_⟩
      rw [Array.setIfInBounds_comm _ _ hji]
      exact h6
theorem Drawn.take {i : Nat} {oi : Oper} {v : Value} {n : Nat} {listed : Array Bool} {a : Act} {w : World} (hi : ops[i]? = some oi) (hJi : J i = true)
    (hJ : (List.range ops.size).all (fun j => J j || match ops[j]? with | some o => o.after.any (fun e => Region.binds md e && e.on == i) | none => true) = true)
    (hs : Region.noSelect ops = true) (hf : Region.free md ops listed i = true) (hr : (Region.ready md ops listed).contains i = true)
    (hQ : ∀ c a w, Q (.panic c) (a.put oi.dst v) w → Q (.panic c) a w) (hy : YieldsIf P ops C oi v a) (hC : C w)
    (h : Drawn P md ops Q C J n (listed.setIfInBounds i true) (a.put oi.dst v) w) : Drawn P md ops Q C J (n + 1) listed a w := by
  refine Drawn.first hi hJi (fun j oj hoj hjf => ?_) (Region.noSelect_spec hs) hQ n listed a w (Region.free_spec hi hf) (by simpa using hr) hy hC h
  have hlt : j < ops.size := (Array.getElem?_eq_some_iff.1 hoj).1
  have h1 := List.all_eq_true.1 hJ j (List.mem_range.2 hlt)
  rw [hjf, hoj] at h1
  simp only [Bool.false_or] at h1
  obtain ⟨e, he, hx⟩ := Array.any_eq_true'.1 h1
  simp only [Bool.and_eq_true, beq_iff_eq] at hx
  exact ⟨e, he, hx.1, hx.2⟩
def Each (P : Program) (md : Region.Mode) (ops : Array Oper) (Q : Exit → Act → World → Prop) (C : World → Prop) (J : Nat → Bool) (n : Nat) (listed : Array Bool) (a : Act) (w : World) (rs : List Nat) : Prop :=
  ∀ j ∈ rs, wpOp P ops Q j (fun a' w' => (J j = true → C w') ∧ Drawn P md ops Q C J n (listed.setIfInBounds j true) a' w') a w
theorem Each.nil {n : Nat} {listed : Array Bool} {a : Act} {w : World} : Each P md ops Q C J n listed a w [] := fun _ h => by cases h
theorem Each.cons {n : Nat} {listed : Array Bool} {a : Act} {w : World} {j : Nat} {o : Oper} {rs : List Nat} (ho : ops[j]? = some o)
    (h : ∀ K' : Act → World → Prop, Shut (∀ a w, (J j = true → C w) → Drawn P md ops Q C J n (listed.setIfInBounds j true) a w → K' a w) → if Region.wanted o (yielded ops a.tmps) = true then Oper.wp P o a w K' Q else K' (a.put o.dst undef) w)
    (hs : Each P md ops Q C J n listed a w rs) : Each P md ops Q C J n listed a w (j :: rs) := fun k hk => by
  rcases List.mem_cons.1 hk with rfl | hk
  · exact wpOp_step ho (fun K' hK => h K' (fun a w hC hW => hK a w ⟨hC, hW⟩))
  · exact hs k hk
theorem Drawn.ready {rs : List Nat} {n : Nat} {listed : Array Bool} {a : Act} {w : World} (hr : Region.ready md ops listed = rs) (hne : rs ≠ []) (h : Each P md ops Q C J n listed a w rs) : Drawn P md ops Q C J (n + 1) listed a w :=
  ⟨fun h0 => absurd (hr ▸ h0) hne, by rw [hr]; exact h⟩
end
end Go.Proofs.YtgmkmlenhhhgkaaGreat


