/- My texts Fc Fd Fe Ff Pj Pv Ja: what of them is needed, joined. -/
import Derived.Laws.EntriesVeiled
import Derived.Deep.RegionLaw
import Derived.BigQuiet
import Derived.Test.YtmjjkenblfndgaaGreatE1
import Derived.Test.YtmjjkenblfndgaaGreatE2
set_option maxRecDepth 100000
set_option maxHeartbeats 8000000
/- flow.places at the closures of Back and Reach. -/
namespace Go.Proofs.YtmjjkenblfndgaaGreat
open Go.RowKit
set_option linter.unusedSimpArgs false
set_option linter.unusedVariables false
def xckZ (p : Nat → Bool) (n : Nat) : List Int := ((List.range n).filter p).map Int.ofNat
theorem xi5Z {p : Nat → Bool} {n : Nat} (h : p n = true) : xckZ p (n + 1) = xckZ p n ++ [(n : Int)] := by
  simp [xckZ, List.range_succ, List.filter_append, h]
theorem ximZ {p : Nat → Bool} {n : Nat} (h : p n = false) : xckZ p (n + 1) = xckZ p n := by
  simp [xckZ, List.range_succ, List.filter_append, h]
theorem placesL_le (p : Nat → Bool) (n : Nat) : (xckZ p n).length ≤ n := by
  have := List.length_filter_le p (List.range n)
  simpa [xckZ] using this
def ReachBox (w : World) (bR R : Nat) (M : List Bool) : Prop := bR < w.heap.size ∧ R < w.heap.size ∧ w.cell? ⟨bR, 0, none⟩ = some (.slice (some ⟨R, 0, none⟩) M.length M.length) ∧ ∀ k b, M[k]? = some b → w.cell? ⟨R, k, none⟩ = some (.bool b)
theorem ReachBox.below {w w' : World} {bR R : Nat} {M : List Bool} (h : ReachBox w bR R M) (hb : Below w.heap.size w w') : ReachBox w' bR R M :=
  ⟨Nat.lt_of_lt_of_le h.1 hb.size, Nat.lt_of_lt_of_le h.2.1 hb.size, (hb.cell (p := ⟨bR, 0, none⟩) h.1).trans h.2.2.1, fun k b hk => (hb.cell (p := ⟨R, k, none⟩) h.2.1).trans (h.2.2.2 k b hk)⟩
theorem reachC_any (M : List Bool) (k bR R : Nat) (w : World) (hk : k < M.length) (h41 : M.length ≤ 41) (hb : ReachBox w bR R M) : Calls Tryz.prog 219 #[.int .i64 k, .pointer (some ⟨bR, 0, none⟩)] w fun e w' => e = .returned (.bool (M.getD k false)) ∧ Below w.heap.size w w' := by
  obtain ⟨h1, h2, h3, h4⟩ := hb
  obtain ⟨b, ho⟩ := xagZ hk
  have g := h4 k b ho
  have he : M.getD k false = b := by rw [List.getD_eq_getElem?_getD, ho]; rfl
  rw [he]
  clear h4 ho he
  have hlti : (k : Int) < (M.length : Int) := by omega
  go_enter Tryz.func219, Tryz.ntmps219
  go_wp2
  go_ret
  exact ⟨rfl, Below.refl _ _⟩
theorem xk1Z (M : List Bool) (n bR R : Nat) (w : World) (hn : n = M.length) (h40 : n ≤ 41) (hb : ReachBox w bR R M) : Calls Tryz.prog 218 #[.int .i64 n, .func (.func 219) #[] #[.pointer (some ⟨bR, 0, none⟩)]] w fun e w' => ∃ v, e = .returned v ∧ w'.ownsRow w.heap.size 3 1 v (xckZ (fun pc => M.getD pc false) n).length ((xckZ (fun pc => M.getD pc false) n).map (Value.int .i64)) ∧ Below w.heap.size w w' := by
  obtain ⟨i0, hi, hz0, hz1, hz2⟩ := info_parts xe9Z
  obtain ⟨P, hP⟩ : ∃ P : Nat → Bool, (fun pc => M.getD pc false) = P := ⟨_, rfl⟩
  have hcall : ∀ (k : Nat) (W : World), k < n → Below w.heap.size w W → Calls Tryz.prog 219 #[.int .i64 k, .pointer (some ⟨bR, 0, none⟩)] W fun e w' => e = .returned (.bool (P k)) ∧ Below W.heap.size W w' := by
    intro k W hk hbw
    have hB2 := hb.below hbw
    rw [← hP]
    exact reachC_any M k bR R _ (by omega) (by omega) hB2
  have HCALL := hideP hcall
  rw [hP]
  clear hcall hP hn hb
  go_enter Tryz.func218, Tryz.ntmps218
  go_wp2
  go_loopw [5, 6, 8] (fun v5 _ i wr => ∃ k : Nat, k ≤ n ∧ i = .int .i64 k ∧ wr.ownsRow w.heap.size 3 1 v5 (xckZ P k).length ((xckZ P k).map (Value.int .i64)) ∧ Below w.heap.size w wr) (fun _ _ i _ => n - (intOf i).toNat)
  case atStart => exact ⟨0, Nat.zero_le _, rfl, World.ownsRow_nil _ _ _ _, Below.refl _ _⟩
  case round =>
    rename World => w2
    obtain ⟨k, hk, rfl, hrow, hbw⟩ := hrel
    obtain ⟨p5, c5, rfl⟩ := xaiZ hrow
    by_cases hlt : k < n
    · have hlti : (k : Int) < (n : Int) := by omega
      have hle := placesL_le P k
      have HROW := hideP hrow
      clear hrow
      cases hp : P k
      · go_wp2_with (go_at_call 219; refine (HCALL.out k _ hlt hbw).mono ?_; rw [hp]; rintro e w3 ⟨rfl, hb3⟩)
        go_roundw
        case rel =>
          refine ⟨k + 1, by omega, by go_num, ?_, hbw.trans (hb3.mono hbw.size)⟩
          rw [ximZ hp]
          exact xaoZ HROW.out fun j hj => hb3.block j (HROW.out.lt j hj).2
        case measure => simp [intOf]; omega
      · go_wp2_with (first
          | (go_at_call 219; refine (HCALL.out k _ hlt hbw).mono ?_; rw [hp]; rintro e w3 ⟨rfl, hb3⟩; have hrow3 := hideP ((xaoZ HROW.out fun j hj => hb3.block j (HROW.out.lt j hj).2).alloc (.cells #[.int .i64 k] 3)))
          | (at_builtin; refine wpList_append_own _ rfl _ _ 46 rfl w.heap.size 3 i0 (.int .i64 0) 1 8 Tryz.underlying46 hi hz0 hz1 hz2 rfl (by decide) _ _ _ rfl hrow3.out ⟨w3.heap.size, 0, none⟩ 1 1 [.int .i64 k] rfl rfl (cell_one_new _ _ _) (by simp [Value.oneCell']) (by unfold maxLen; omega) (by omega) (by have := hb3.size; have := hbw.size; simp; omega) ?_; intro v' w4 hown4 hg4 _; obtain ⟨g', cap', rfl⟩ := ownsRow_succ hown4))
        go_roundw
        case rel =>
          refine ⟨k + 1, by omega, by go_num, ?_, ?_⟩
          · rw [xi5Z hp]
            simpa using hown4
          · have h3 := hbw.trans (hb3.mono hbw.size)
            have h4 := h3.alloc (Nat.le_trans hbw.size hb3.size) (.cells #[.int .i64 k] 3)
            exact h4.grown hg4 (by have := hb3.size; have := hbw.size; simp; omega) (fun j hj => (hrow3.out.lt j hj).1)
        case measure => simp [intOf]; omega
    · have hlt' : ¬ (k : Int) < (n : Int) := by omega
      obtain rfl : k = n := by omega
      go_wp2
      go_ret
      exact ⟨_, rfl, hrow, hbw⟩

end Go.Proofs.YtmjjkenblfndgaaGreat


/- flow.Next, flow.Back. -/
namespace Go.Proofs.YtmjjkenblfndgaaGreat
open Go.RowKit
set_option linter.unusedSimpArgs false
set_option linter.unusedVariables false
theorem rising_ext {L K : List Nat} (h1 : L.Pairwise (· < ·)) (h2 : K.Pairwise (· < ·)) (h : ∀ x, x ∈ L ↔ x ∈ K) : L = K := by
  have n1 : L.Nodup := h1.imp (fun h e => by omega)
  have n2 : K.Nodup := h2.imp (fun h e => by omega)
  have hp : L.Perm K := (List.perm_ext_iff_of_nodup n1 n2).2 h
  exact hp.eq_of_pairwise (fun a b _ _ h1 h2 => absurd h1 (by omega)) h1 h2
theorem xf4Z {L : List Nat} {m : Nat} {p : Nat → Bool} (hL : L.Pairwise (· < ·)) (hm : ∀ x ∈ L, x < m) (hp : ∀ x, x < m → (p x = true ↔ x ∈ L)) : (List.range m).filter p = L := by
  refine rising_ext (List.pairwise_lt_range.filter _) hL fun x => ?_
  rw [List.mem_filter, List.mem_range]
  exact ⟨fun h => (hp x h.1).1 h.2, fun h => ⟨hm x h, (hp x (hm x h)).2 h⟩⟩
theorem nextI_eq {l : List (Int × Int)} (hf : flowErr l = 0) {k : Nat} {c a : Int} (ho : l[k]? = some (c, a)) : nextI c a k = (nextL l k).map Int.ofNat := by
  obtain ⟨_, _, hb⟩ := xbfZ hf
  have hk := xadZ ho
  have hbo := hb _ (List.mem_of_getElem? ho)
  unfold nextI nextL
  have hg : ∀ x : Nat, goesOn l k x = if c = 13 then false else if c = 10 then decide ((x : Int) = a) else if c = 11 then decide (x = k + 1) || decide ((x : Int) = a) else decide (x = k + 1) := by
    intro x; simp [goesOn, ho]
  by_cases h13 : c = 13
  · rw [if_pos h13, xf4Z (L := []) (by simp) (by simp) (by intro x _; rw [hg]; simp [h13])]; rfl
  rw [if_neg h13]
  by_cases h10 : c = 10
  · simp [badTo, h10] at hbo
    rw [if_pos h10, xf4Z (L := [a.toNat]) (by simp) (by simp; omega) (by intro x _; rw [hg]; simp [h13, h10]; omega)]
    simp; omega
  rw [if_neg h10]
  by_cases h11 : c = 11
  · simp [badTo, h11] at hbo
    rw [if_pos h11]
    unfold rise
    by_cases e1 : a = (k : Int) + 1
    · rw [if_pos e1, xf4Z (L := [k + 1]) (by simp) (by simp; omega) (by intro x _; rw [hg]; simp [h13, h10, h11]; omega)]
      simp [e1]
    rw [if_neg e1]
    by_cases e2 : a < (k : Int) + 1
    · rw [if_pos e2, xf4Z (L := [a.toNat, k + 1]) (by simp; omega) (by simp; omega) (by intro x _; rw [hg]; simp [h13, h10, h11]; omega)]
      simp; omega
    · rw [if_neg e2, xf4Z (L := [k + 1, a.toNat]) (by simp; omega) (by simp; omega) (by intro x _; rw [hg]; simp [h13, h10, h11]; omega)]
      simp; omega
  · rw [if_neg h11, xf4Z (L := [k + 1]) (by simp) (by simp; omega) (by intro x _; rw [hg]; simp [h13, h10, h11])]
    simp
def nextR (l : List (Int × Int)) (pc : Int) : List Int := if xdzZ l pc = 0 then (nextL l pc.toNat).map Int.ofNat else []
theorem xdlZ {l : List (Int × Int)} (hf : flowErr l = 0) : l.length ≤ 40 := by
  have := (xbfZ hf).1
  unfold xa9Z at this
  rcases Nat.lt_or_ge 40 l.length with h | h
  · rw [if_pos h] at this; cases this
  · exact h
theorem xn7Z (l : List (Int × Int)) (pc : Int) (v : Value) (w : World) (h : OpsAt w v l) : Calls Tryz.prog 160 #[v, .int .i64 pc] w fun e w' => ∃ u, e = .returned (.tuple #[u, .int .i64 (xdzZ l pc)]) ∧ w'.ownsRow w.heap.size 3 1 u (nextR l pc).length ((nextR l pc).map (Value.int .i64)) ∧ Below w.heap.size w w' := by
  have h' := h
  obtain ⟨p, cap, rfl, hm, hc⟩ := h'
  unfold maxLen at hm
  have HC := hideP hc
  clear hc
  by_cases hf : flowErr l = 0
  · have h40 := xdlZ hf
    by_cases hp : isAt l.length pc = true
    · have hp1 : 0 ≤ pc ∧ pc < (l.length : Int) := by simpa [isAt] using hp
      obtain ⟨k, rfl⟩ : ∃ k : Nat, pc = k := ⟨pc.toNat, by omega⟩
      have hk : k < l.length := by omega
      obtain ⟨⟨c, a⟩, ho⟩ := xagZ hk
      obtain ⟨b, off, rfl, hbl, g0, g1⟩ := HC.out k _ ho
      simp only at g0 g1
      have he : xdzZ l k = 0 := by rw [xdzZ, if_neg (by simp [hf]), if_neg (by omega)]
      have hr : nextR l k = nextI c a k := by rw [nextR, if_pos he, nextI_eq hf ho]; rfl
      rw [he, hr]
      have HF := hideP hf
      have HP1 := hideP hp1
      have HO := hideP ho
      have hck : ∀ W : World, OpsAt W (.slice (some ⟨b, off, none⟩) l.length cap) l → Calls Tryz.prog 214 #[.slice (some ⟨b, off, none⟩) l.length cap] W fun e w' => e = .returned (.int .i64 0) ∧ Below W.heap.size W w' := by
        intro W hW
        have := xduZ l _ W hW
        rw [hf] at this
        exact this
      have HCK := hideP hck
      have hlti : (k : Int) < (l.length : Int) := by omega
      clear hf he hr ho hck hp1
      go_enter Tryz.func160, Tryz.ntmps160
      go_wp2_with (first
        | (go_at_call 214; refine (HCK.out _ h).mono ?_; rintro e w1 ⟨rfl, hb1⟩; have h1 := h.below hb1; have d0 := (hb1.cell (p := ⟨b, off + k * 2, none⟩) hbl).trans g0; have d1 := (hb1.cell (p := ⟨b, off + k * 2 + 1, none⟩) hbl).trans g1)
        | (go_at_call 215; refine (xdyZ (k : Int) l _ _ h1).mono ?_; rw [hp]; rintro e w2 ⟨rfl, hw2⟩; have hw2 := hw2.symm; subst hw2)
        | (go_at_call 216; refine (xhxZ c a k _ (by omega)).mono ?_; rintro e w3 ⟨v3, rfl, hr3, hb3⟩; have HR3 := hideP hr3; clear hr3))
      go_ret2
      exact ⟨_, rfl, xapZ HR3.out hb1.size, hb1.trans (hb3.mono hb1.size)⟩
    · have hp' : isAt l.length pc = false := by simpa using hp
      have hp1 : pc < 0 ∨ (l.length : Int) ≤ pc := by
        simp [isAt] at hp
        omega
      have he : xdzZ l pc = 3 := by rw [xdzZ, if_neg (by simp [hf]), if_pos hp1]
      have hr : nextR l pc = [] := by rw [nextR, if_neg (by rw [he]; decide)]
      rw [he, hr]
      have hck : ∀ W : World, OpsAt W (.slice p l.length cap) l → Calls Tryz.prog 214 #[.slice p l.length cap] W fun e w' => e = .returned (.int .i64 0) ∧ Below W.heap.size W w' := by
        intro W hW
        have := xduZ l _ W hW
        rw [hf] at this
        exact this
      have HCK := hideP hck
      clear hf he hr hck hp hp1
      go_enter Tryz.func160, Tryz.ntmps160
      go_wp2_with (first
        | (go_at_call 214; refine (HCK.out _ h).mono ?_; rintro e w1 ⟨rfl, hb1⟩; have h1 := h.below hb1)
        | (go_at_call 215; refine (xdyZ pc l _ _ h1).mono ?_; rw [hp']; rintro e w2 ⟨rfl, hw2⟩; have hw2 := hw2.symm; subst hw2))
      go_ret2
      exact ⟨_, rfl, World.ownsRow_nil _ _ _ _, hb1⟩
  · have he : xdzZ l pc = flowErr l := by rw [xdzZ, if_pos hf]
    have hr : nextR l pc = [] := by rw [nextR, if_neg (by rw [he]; exact hf)]
    rw [he, hr]
    have hf' : (flowErr l != 0) = true := by simp [hf]
    clear he hr hf
    go_enter Tryz.func160, Tryz.ntmps160
    go_wp2_with (go_at_call 214; refine (xduZ l _ _ h).mono ?_; rintro e w1 ⟨rfl, hb1⟩)
    go_ret2
    exact ⟨_, rfl, World.ownsRow_nil _ _ _ _, hb1⟩
end Go.Proofs.YtmjjkenblfndgaaGreat


/- flow.Reach: the closure that visits. -/
namespace Go.Proofs.YtmjjkenblfndgaaGreat
open Go.RowKit
set_option linter.unusedSimpArgs false
set_option linter.unusedVariables false
def cf : List Bool → Nat
  | [] => 0
  | b :: r => (if b = true then 0 else 1) + cf r
theorem cf_set : ∀ (M : List Bool) (k : Nat), M[k]? = some false → cf (M.set k true) + 1 = cf M
  | [], k, h => by simp at h
  | b :: r, 0, h => by simp at h; subst h; simp [cf]; omega
  | b :: r, k + 1, h => by
    have := cf_set r k (by simpa using h)
    simp only [List.set_cons_succ, cf]
    omega
theorem cf_mono : ∀ (M M' : List Bool), M'.length = M.length → (∀ x, M.getD x false = true → M'.getD x false = true) → cf M' ≤ cf M
  | [], M', h, _ => by
    have : M' = [] := List.eq_nil_of_length_eq_zero (by simpa using h)
    subst this; simp [cf]
  | b :: r, [], h, _ => by simp at h
  | b :: r, c :: s, h, hx => by
    have := cf_mono r s (by simpa using h) (fun x hxx => by have := hx (x + 1) (by simpa using hxx); simpa using this)
    have h0 := hx 0
    simp at h0
    simp only [cf]
    cases b <;> cases c <;> simp_all <;> omega
theorem getD_set (M : List Bool) (k x : Nat) (hk : k < M.length) : (M.set k true).getD x false = if x = k then true else M.getD x false := by
  by_cases h : x = k
  · subst h; simp [List.getD_eq_getElem?_getD, hk]
  · rw [if_neg h, List.getD_eq_getElem?_getD, List.getD_eq_getElem?_getD, List.getElem?_set_ne (fun e => h e.symm)]
structure Grew (l : List (Int × Int)) (M M' : List Bool) : Prop where
  len : M'.length = M.length
  more : ∀ x, M.getD x false = true → M'.getD x false = true
  come : ∀ x, M'.getD x false = true → M.getD x false = true ∨ Come l x
  shut : ∀ x y, M'.getD x false = true → M.getD x false = false → goesOn l x y = true → M'.getD y false = true
theorem Grew.refl (l : List (Int × Int)) (M : List Bool) : Grew l M M := ⟨rfl, fun _ h => h, fun _ h => .inl h, fun x y h1 h2 => by rw [h1] at h2; cases h2⟩
theorem Grew.trans {l : List (Int × Int)} {M M' M'' : List Bool} (h : Grew l M M') (k : Grew l M' M'') : Grew l M M'' := by
  refine ⟨k.len.trans h.len, fun x hx => k.more x (h.more x hx), fun x hx => ?_, fun x y h1 h2 h3 => ?_⟩
  · rcases k.come x hx with h1 | h1
    · exact h.come x h1
    · exact .inr h1
  · cases hm : M'.getD x false
    · exact k.shut x y h1 hm h3
    · exact k.more y (h.shut x y hm h2 h3)
structure Vis (W0 w : World) (v : Value) (l : List (Int × Int)) (bR bC bV R : Nat) (M : List Bool) : Prop where
  bel : Below W0.heap.size W0 w
  hR : w.heap[R]? = some (.cells (M.map Value.bool).toArray 4 (0, 0))
  hbR : w.heap[bR]? = some (.cells #[.slice (some ⟨R, 0, none⟩) M.length M.length] 148 (0, 0))
  hbC : w.heap[bC]? = some (.cells #[v] 117 (0, 0))
  hbV : w.heap[bV]? = some (.cells #[.func (.func 217) #[] #[.pointer (some ⟨bR, 0, none⟩), .pointer (some ⟨bC, 0, none⟩), .pointer (some ⟨bV, 0, none⟩)]] 189 (0, 0))
theorem Vis.kept {W0 w w' : World} {v : Value} {l : List (Int × Int)} {bR bC bV R : Nat} {M : List Bool} (h : Vis W0 w v l bR bC bV R M) (hb : Below w.heap.size w w') : Vis W0 w' v l bR bC bV R M :=
  ⟨h.bel.trans (hb.mono h.bel.size), (hb.block _ (xacZ h.hR)).trans h.hR, (hb.block _ (xacZ h.hbR)).trans h.hbR, (hb.block _ (xacZ h.hbC)).trans h.hbC, (hb.block _ (xacZ h.hbV)).trans h.hbV⟩
theorem xg0Z {M : List Bool} {k : Nat} {b : Bool} (h : M[k]? = some b) : (M.map Value.bool).toArray[k]? = some (.bool b) := by
  simp [h]
theorem xmmZ (M : List Bool) (k : Nat) : (M.map Value.bool).toArray.setIfInBounds k (.bool true) = ((M.set k true).map Value.bool).toArray := by
  apply Array.ext'
  simp
theorem Vis.mark {W0 w : World} {v : Value} {l : List (Int × Int)} {bR bC bV R : Nat} {M : List Bool} (h : Vis W0 w v l bR bC bV R M) (hR0 : W0.heap.size ≤ R) (k : Nat) : Vis W0 (w.setCell ⟨R, k, none⟩ (.bool true)) v l bR bC bV R (M.set k true) := by
  have n1 : bR ≠ R := fun e => by have := h.hbR; rw [e, h.hR] at this; simp at this
  have n2 : bC ≠ R := fun e => by have := h.hbC; rw [e, h.hR] at this; simp at this
  have n3 : bV ≠ R := fun e => by have := h.hbV; rw [e, h.hR] at this; simp at this
  refine ⟨h.bel.setCell hR0 _, ?_, ?_, ?_, ?_⟩
  · have := heap_setCell_same w R k _ _ (.bool true) h.hR
    rw [xmmZ] at this
    exact this
  · rw [heap_setCell_other w _ _ _ (by simpa using n1), h.hbR]; simp
  · rw [heap_setCell_other w _ _ _ (by simpa using n2), h.hbC]
  · rw [heap_setCell_other w _ _ _ (by simpa using n3), h.hbV]
theorem xakZ (w : World) (a : Addr) (u : Value) : w.grownBy (w.setCell a u) (some a.block) :=
  ⟨rfl, rfl, rfl, by simp [World.setCell], fun k hk hne => Below.heap_setCell _ _ _ _ (fun e => hne (by rw [e]))⟩
theorem xgwZ {w w' : World} (h : Below w.heap.size w w') (row : Option Nat) : w.grownBy w' row := ⟨h.os, h.tape, h.output, h.size, fun k hk _ => h.block k hk⟩
def VisP (W0 : World) (v : Value) (l : List (Int × Int)) (bR bC bV R : Nat) (M : List Bool) (k : Nat) (w : World) (e : Ending) (w' : World) : Prop :=
  e = .returned (.tuple #[]) ∧ ∃ M', Vis W0 w' v l bR bC bV R M' ∧ w.grownBy w' (some R) ∧ Grew l M M' ∧ M'.getD k false = true
theorem xiqZ (W0 : World) (v : Value) (l : List (Int × Int)) (bR bC bV R : Nat) (M : List Bool) (k : Nat) (w : World) (h41 : M.length ≤ 41) (hM : M[k]? = some true) (hv : Vis W0 w v l bR bC bV R M) :
    Calls Tryz.prog 217 #[.int .i64 k, .pointer (some ⟨bR, 0, none⟩), .pointer (some ⟨bC, 0, none⟩), .pointer (some ⟨bV, 0, none⟩)] w (VisP W0 v l bR bC bV R M k w) := by
  have hk := xadZ hM
  have c1 := xaaZ hv.hbR 0
  have c2 : w.cell? ⟨R, k, none⟩ = some (.bool true) := (xaaZ hv.hR k).trans (xg0Z hM)
  simp at c1
  have hlti : (k : Int) < (M.length : Int) := by omega
  have HV := hideP hv
  have HM := hideP hM
  clear hv hM
  go_enter Tryz.func217, Tryz.ntmps217
  go_wp2
  refine bodyPost_ret (v := .tuple #[]) (by simp [results, Tryz.results217, go_sem]) rfl ?_
  exact ⟨rfl, M, HV.out, World.grownBy.refl _ _, Grew.refl _ _, by rw [List.getD_eq_getElem?_getD, HM.out]; rfl⟩
theorem xl4Z {l : List (Int × Int)} {M M' : List Bool} {k : Nat} (hk : M[k]? = some false) (hc : Come l k) (h : Grew l (M.set k true) M') (hs : ∀ y, goesOn l k y = true → M'.getD y false = true) : Grew l M M' ∧ M'.getD k false = true := by
  have hlt := xadZ hk
  have hg := fun x => getD_set M k x hlt
  have hkk : M'.getD k false = true := h.more k (by rw [hg, if_pos rfl])
  refine ⟨⟨h.len.trans (by simp), fun x hx => h.more x ?_, fun x hx => ?_, fun x y h1 h2 h3 => ?_⟩, hkk⟩
  · rw [hg]; split
    · rfl
    · exact hx
  · rcases h.come x hx with h1 | h1
    · rw [hg] at h1
      by_cases e : x = k
      · subst e; exact .inr hc
      · rw [if_neg e] at h1; exact .inl h1
    · exact .inr h1
  · by_cases e : x = k
    · subst e; exact hs y h3
    · exact h.shut x y h1 (by rw [hg, if_neg e]; exact h2) h3
theorem visit_any (W0 : World) (v : Value) (l : List (Int × Int)) (bR bC bV R : Nat) (hl : OpsAt W0 v l) (hf : flowErr l = 0) (hR0 : W0.heap.size ≤ R) (n : Nat) :
    ∀ (M : List Bool) (k : Nat) (w : World), cf M ≤ n → M.length = l.length + 1 → k < M.length → Come l k → Vis W0 w v l bR bC bV R M →
      Calls Tryz.prog 217 #[.int .i64 k, .pointer (some ⟨bR, 0, none⟩), .pointer (some ⟨bC, 0, none⟩), .pointer (some ⟨bV, 0, none⟩)] w (VisP W0 v l bR bC bV R M k w) := by
  have h40 := xdlZ hf
  induction n with
  | zero =>
    intro M k w hn hlen hk hcome hv
    have hM : M[k]? = some true := by
      obtain ⟨b, hb⟩ := xagZ hk
      cases b
      · have := cf_set M k hb; omega
      · exact hb
    exact xiqZ W0 v l bR bC bV R M k w (by omega) hM hv
  | succ n ih =>
    intro M k w hn hlen hk hcome hv
    obtain ⟨b, hM⟩ := xagZ hk
    cases b with
    | true => exact xiqZ W0 v l bR bC bV R M k w (by omega) hM hv
    | false =>
      have hcf := cf_set M k hM
      have c1 := xaaZ hv.hbR 0
      have c2 : w.cell? ⟨R, k, none⟩ = some (.bool false) := (xaaZ hv.hR k).trans (xg0Z hM)
      have z2 := Lib.frozen_of_heap hv.hR k
      have hv1 := hv.mark hR0 k
      obtain ⟨w1, hw1⟩ : ∃ w1, w.setCell ⟨R, k, none⟩ (.bool true) = w1 := ⟨_, rfl⟩
      rw [hw1] at hv1
      have hg1 : w.grownBy w1 (some R) := by rw [← hw1]; exact xakZ _ _ _
      have d1 := xaaZ hv1.hbC 0
      have hl1 := hl.below hv1.bel
      simp at c1 d1 z2
      have hlti : (k : Int) < (M.length : Int) := by omega
      have HV := hideP hv
      have HV1 := hideP hv1
      have HM := hideP hM
      have IH := hideP ih
      clear hv hv1 hM ih
      by_cases hlt : k < l.length
      · have hq : isAt l.length (k : Int) = true := by simp [isAt]; omega
        obtain ⟨⟨c, a⟩, ho⟩ := xagZ hlt
        have hl' := hl1
        obtain ⟨p, q, rfl, hm, hc⟩ := hl'
        obtain ⟨b, off, rfl, hbl, g0, g1⟩ := hc k _ ho
        simp only at g0 g1
        unfold maxLen at hm
        have hlti2 : (k : Int) < (l.length : Int) := by omega
        have hnx := nextI_eq hf ho
        obtain ⟨L, hL⟩ : ∃ L, nextI c a k = L := ⟨_, rfl⟩
        have hx1 : ∀ W : World, Calls Tryz.prog 216 #[.agg #[.int .i64 c, .int .i64 a], .int .i64 k] W fun e w' => ∃ v, e = .returned v ∧ w'.ownsRow W.heap.size 3 1 v L.length (L.map (Value.int .i64)) ∧ Below W.heap.size W w' := by
          intro W; rw [← hL]; exact xhxZ c a k W (by omega)
        rw [hL] at hnx
        have HX1 := hideP hx1
        have HO := hideP ho
        have HNX := hideP hnx
        clear hc ho hnx hx1 hL
        go_enter Tryz.func217, Tryz.ntmps217
        go_wp2_with (first
          | (go_at_call 215; refine (xdyZ (k : Int) l _ _ hl1).mono ?_; rw [hq]; rintro e w2 ⟨rfl, hw2⟩; have hw2 := hw2.symm; subst hw2)
          | (go_at_call 216; refine (HX1.out _).mono ?_; rintro e w3 ⟨v3, rfl, hr3, hb3⟩; obtain ⟨p3, q3, rfl⟩ := xaiZ hr3; have HR3 := hideP hr3; clear hr3))
        have hv3 := HV1.out.kept hb3
        have hLl : L.length ≤ 41 := by
          rw [HNX.out]
          have := List.length_filter_le (goesOn l k) (List.range (l.length + 1))
          simp [nextL] at *
          omega
        have hLz : ∀ z ∈ L, ∃ y : Nat, z = (y : Int) ∧ goesOn l k y = true := by
          intro z hz
          rw [HNX.out] at hz
          obtain ⟨y, h1, rfl⟩ := List.mem_map.1 hz
          exact ⟨y, rfl, (xijZ (xbfZ hf).2.2).1 h1⟩
        have hLy : ∀ y : Nat, goesOn l k y = true → (y : Int) ∈ L := by
          intro y hy
          rw [HNX.out]
          exact List.mem_map.2 ⟨y, (xijZ (xbfZ hf).2.2).2 hy, rfl⟩
        have HLZ := hideP hLz
        have HLY := hideP hLy
        have hRlt : R < w1.heap.size := xacZ HV1.out.hR
        have hrne : Value.ownBlock (.slice p3 L.length q3) ≠ some R := fun e => by
          have := (HR3.out.lt R e).1
          omega
        clear hLz hLy
        go_loopw [6, 25] (fun _ i wr => ∃ (j : Nat) (Mj : List Bool), j ≤ L.length ∧ i = .int .i64 j ∧ Vis W0 wr (.slice (some ⟨b, off, none⟩) l.length q) l bR bC bV R Mj ∧ w3.grownBy wr (some R) ∧ Grew l (M.set k true) Mj ∧ ∀ i z, i < j → L[i]? = some z → Mj.getD z.toNat false = true) (fun _ i _ => L.length - (intOf i).toNat)
        case atStart => exact ⟨0, _, Nat.zero_le _, rfl, hv3, World.grownBy.refl _ _, Grew.refl _ _, fun i z hi => by omega⟩
        case round =>
          rename World => w4
          obtain ⟨j, Mj, hj, rfl, hv4, hg4, hgr, hin⟩ := hrel
          have HIN := hideP hin
          clear hin
          by_cases hjl : j < L.length
          · obtain ⟨z, hz⟩ := xagZ hjl
            have hI4 := xbaZ rfl (HR3.out.kept hg4 (.inr hrne))
            obtain ⟨p5, cap5, he5, hm5, hc5⟩ := hI4
            obtain ⟨b5, o5, hp5, hb5, g5⟩ := hc5 j z hz
            cases he5
            subst hp5
            obtain ⟨y, rfl, hy⟩ := HLZ.out z (List.mem_of_getElem? hz)
            have hyl := xfpZ (xbfZ hf).2.2 hy
            have e4 := xaaZ hv4.hbV 0
            simp at e4
            have hlti5 : (j : Int) < (L.length : Int) := by omega
            have hih := IH.out Mj y w4 (by have := cf_mono _ _ hgr.len hgr.more; omega) (by rw [hgr.len]; simpa using hlen) (by rw [hgr.len]; simp; omega) (Come.step hcome hy) hv4
            have HIH := hideP hih
            have HZ := hideP hz
            have HV4 := hideP hv4
            clear hih hc5 hz hv4
            go_wp2_with (go_at_call 217; refine HIH.out.mono ?_; rintro e w5 ⟨rfl, M5, hv5, hg5, hgr5, hk5⟩)
            go_roundw
            case rel =>
              refine ⟨j + 1, M5, by omega, by go_num, hv5, hg4.trans hg5, hgr.trans hgr5, fun i z hi hz => ?_⟩
              rcases Nat.lt_succ_iff_lt_or_eq.1 hi with h | rfl
              · exact hgr5.more _ (HIN.out i z h hz)
              · rw [HZ.out] at hz
                cases hz
                simpa using hk5
            case measure => simp [intOf]; omega
          · have hjl' : ¬ (j : Int) < (L.length : Int) := by omega
            have HV4 := hideP hv4
            clear hv4
            go_wp2
            refine bodyPost_ret (v := .tuple #[]) (by simp [results, Tryz.results217, go_sem]) rfl ?_
            have hall : ∀ y, goesOn l k y = true → Mj.getD y false = true := by
              intro y hy
              obtain ⟨i, hi⟩ := List.getElem?_of_mem (HLY.out y hy)
              have := HIN.out i _ (by have := xadZ hi; omega) hi
              simpa using this
            have := xl4Z HM.out hcome hgr hall
            exact ⟨rfl, Mj, HV4.out, (hg1.trans (xgwZ hb3 _)).trans hg4, this.1, this.2⟩
      · have hq : isAt l.length (k : Int) = false := by simp [isAt]; omega
        go_enter Tryz.func217, Tryz.ntmps217
        go_wp2_with (go_at_call 215; refine (xdyZ (k : Int) l _ _ hl1).mono ?_; rw [hq]; rintro e w2 ⟨rfl, hw2⟩; have hw2 := hw2.symm; subst hw2)
        refine bodyPost_ret (v := .tuple #[]) (by simp [results, Tryz.results217, go_sem]) rfl ?_
        have := xl4Z HM.out hcome (Grew.refl l _) (fun y hy => absurd (xl3Z hy) hlt)
        exact ⟨rfl, _, HV1.out, hg1, this.1, this.2⟩
end Go.Proofs.YtmjjkenblfndgaaGreat


/- flow.Reach. -/
namespace Go.Proofs.YtmjjkenblfndgaaGreat
open Go.RowKit
set_option linter.unusedSimpArgs false
set_option linter.unusedVariables false
noncomputable def xfqZ (l : List (Int × Int)) : List Int := if flowErr l = 0 then (reachL l).map Int.ofNat else []
theorem infoBool : (Tryz.prog.info? 4).map (fun i => (i.zero, i.size, i.bytes)) = some (some (.bool false), 1, 1) := by kernel_rfl
theorem xksZ (n : Nat) : (madeCells (Value.bool false).cells (n * 1)).toList = (List.replicate n false).map Value.bool := by
  have h : (Value.bool false).cells = #[.bool false] := rfl
  rw [h]
  apply List.ext_getElem?
  intro k
  by_cases hk : k < n
  · simp [madeCells, hk, Nat.mod_one]
  · simp [madeCells, hk]
theorem grew_reach {l : List (Int × Int)} {M : List Bool} (h : Grew l (List.replicate (l.length + 1) false) M) (h0 : M.getD 0 false = true) : xckZ (fun pc => M.getD pc false) M.length = (reachL l).map Int.ofNat := by
  have hn : ∀ x, (List.replicate (l.length + 1) false).getD x false = false := by
    intro x
    rw [List.getD_eq_getElem?_getD, List.getElem?_replicate]
    split <;> rfl
  have hlen : M.length = l.length + 1 := by rw [h.len]; simp
  rw [hlen]
  unfold xckZ
  rw [reachL_eq (code := l) (fun pc => M.getD pc false) h0 (fun x hx => ?_) (fun pc to hp hg => h.shut pc to hp (hn pc) hg)]
  rcases h.come x hx with h1 | h1
  · rw [hn] at h1; cases h1
  · exact h1
theorem vis_box {W0 w : World} {v : Value} {l : List (Int × Int)} {bR bC bV R : Nat} {M : List Bool} (h : Vis W0 w v l bR bC bV R M) : ReachBox w bR R M :=
  ⟨xacZ h.hbR, xacZ h.hR, by have := xaaZ h.hbR 0; simpa using this, fun k b hk => (xaaZ h.hR k).trans (xg0Z hk)⟩
theorem xj0Z {w : World} {base : Nat} {e : TypeId} {R n : Nat} {xs : List Value} (h : w.ownsRow base e 1 (.slice (some ⟨R, 0, none⟩) n n) n xs) (hx : xs.length = n) : w.heap[R]? = some (.cells xs.toArray e (0, 0)) := by
  rcases h.2 with ⟨h1, _⟩ | ⟨g, cap, cur, hv, hb, hg, hn, hc, hs, ht⟩
  · cases h1
  · cases hv
    rw [hg]
    have : cur.toList = xs := by rw [← ht, List.take_of_length_le (by simp; omega)]
    rw [← this]
theorem xp6Z {w w2 w3 : World} {v : Value} {l : List (Int × Int)} (h : OpsAt w v l) (hB : Below w.heap.size w w2) (hC : w2.heap[w.heap.size]? = some (.cells #[v] 117 (0, 0))) (hown : w3.ownsRow w2.heap.size 4 1 (.slice (some ⟨w2.heap.size, 0, none⟩) (l.length + 1) (l.length + 1)) (l.length + 1) (madeCells (Value.bool false).cells ((l.length + 1) * 1)).toList) (hg : w2.grownBy w3 none) :
    ∃ W5, (w3.alloc (.cells #[.slice (some ⟨w2.heap.size, 0, none⟩) (l.length + 1) (l.length + 1)] 148)).alloc (.cells #[.func (.func 217) #[] #[.pointer (some ⟨w3.heap.size, 0, none⟩), .pointer (some ⟨w.heap.size, 0, none⟩), .pointer (some ⟨w3.heap.size + 1, 0, none⟩)]] 189) = W5 ∧ Vis w W5 v l w3.heap.size w.heap.size (w3.heap.size + 1) w2.heap.size (List.replicate (l.length + 1) false) ∧ W5.cell? ⟨w3.heap.size, 0, none⟩ = some (.slice (some ⟨w2.heap.size, 0, none⟩) (l.length + 1) (l.length + 1)) ∧ W5.cell? ⟨w3.heap.size + 1, 0, none⟩ = some (.func (.func 217) #[] #[.pointer (some ⟨w3.heap.size, 0, none⟩), .pointer (some ⟨w.heap.size, 0, none⟩), .pointer (some ⟨w3.heap.size + 1, 0, none⟩)]) := by
  refine ⟨_, rfl, ?_⟩
  rw [xksZ] at hown
  have hR := xj0Z hown (by simp)
  have hB3 : Below w.heap.size w w3 := hB.grown hg hB.size (fun k hk => by cases hk)
  have a := xalZ (World.alloc_heap_new w3 (.cells #[.slice (some ⟨w2.heap.size, 0, none⟩) (l.length + 1) (l.length + 1)] 148)) (.cells #[.func (.func 217) #[] #[.pointer (some ⟨w3.heap.size, 0, none⟩), .pointer (some ⟨w.heap.size, 0, none⟩), .pointer (some ⟨w3.heap.size + 1, 0, none⟩)]] 189)
  have b := xa1Z w3 (.cells #[.slice (some ⟨w2.heap.size, 0, none⟩) (l.length + 1) (l.length + 1)] 148) (.cells #[.func (.func 217) #[] #[.pointer (some ⟨w3.heap.size, 0, none⟩), .pointer (some ⟨w.heap.size, 0, none⟩), .pointer (some ⟨w3.heap.size + 1, 0, none⟩)]] 189)
  refine ⟨⟨?_, xalZ (xalZ hR _) _, by simpa using a, xalZ (xalZ ((hg.block _ (xacZ hC) (by simp)).trans hC) _) _, b⟩, ?_, ?_⟩
  · exact (hB3.alloc hB3.size _).alloc (by have := hB3.size; simp; omega) _
  · simp
  · simp
theorem visit0_any {w W5 : World} {v : Value} {l : List (Int × Int)} {bR bC bV R : Nat} (h : OpsAt w v l) (hf : flowErr l = 0) (hR : w.heap.size ≤ R) (hvis : Vis w W5 v l bR bC bV R (List.replicate (l.length + 1) false)) :
    Calls Tryz.prog 217 #[.int .i64 0, .pointer (some ⟨bR, 0, none⟩), .pointer (some ⟨bC, 0, none⟩), .pointer (some ⟨bV, 0, none⟩)] W5 (VisP w v l bR bC bV R (List.replicate (l.length + 1) false) 0 W5) :=
  visit_any w v l bR bC bV R h hf hR (cf (List.replicate (l.length + 1) false)) _ 0 W5 (Nat.le_refl _) (by simp) (by simp) Come.zero hvis
theorem xm4Z (l : List (Int × Int)) (v : Value) (w : World) (h : OpsAt w v l) : Calls Tryz.prog 162 #[v] w fun e w' => ∃ u, e = .returned (.tuple #[u, .int .i64 (flowErr l)]) ∧ w'.ownsRow w.heap.size 3 1 u (xfqZ l).length ((xfqZ l).map (Value.int .i64)) ∧ Below w.heap.size w w' := by
  have h' := h
  obtain ⟨p, cap, rfl, hm, hc⟩ := h'
  unfold maxLen at hm
  clear hc
  obtain ⟨W1, hW1⟩ : ∃ W1, w.alloc (.cells #[.slice p l.length cap] 117) = W1 := ⟨_, rfl⟩
  have hB1 : Below w.heap.size w W1 := by rw [← hW1]; exact (Below.refl _ w).alloc (Nat.le_refl _) _
  have q0 : W1.heap[w.heap.size]? = some (.cells #[.slice p l.length cap] 117 (0, 0)) := by rw [← hW1]; exact World.alloc_heap_new w _
  have c0 : W1.cell? ⟨w.heap.size, 0, none⟩ = some (.slice p l.length cap) := by have := xaaZ q0 0; simpa using this
  have l0 := xacZ q0
  have h1 := h.below hB1
  have Q0 := hideP q0
  clear q0
  by_cases hf : flowErr l = 0
  · have h40 := xdlZ hf
    have hr : xfqZ l = (reachL l).map Int.ofNat := by rw [xfqZ, if_pos hf]
    rw [hf, hr]
    have hck : ∀ W : World, OpsAt W (.slice p l.length cap) l → Calls Tryz.prog 214 #[.slice p l.length cap] W fun e w' => e = .returned (.int .i64 0) ∧ Below W.heap.size W w' := by
      intro W hW
      have := xduZ l _ W hW
      rw [hf] at this
      exact this
    have HCK := hideP hck
    have HF := hideP hf
    clear hck hf hr
    obtain ⟨i0, hi, hz0, hz1, hz2⟩ := info_parts infoBool
    have hwr : wrap64 ((l.length : Int) + 1) = (l.length : Int) + 1 := by unfold wrap64; omega
    go_enter Tryz.func162, Tryz.ntmps162
    go_wp2_with (first
      | (go_at_call 214; refine (HCK.out _ h1).mono ?_; rintro e w2 ⟨rfl, hb2⟩; have h2 := h1.below hb2; have d0 := (hb2.cell (p := ⟨w.heap.size, 0, none⟩) l0).trans c0; have Q2 := hideP ((hb2.block _ l0).trans Q0.out); have hB2 := hB1.trans (hb2.mono hB1.size))
      | (at_make; refine wpList_make_full _ rfl _ _ 148 rfl w2.heap.size 4 i0 (.bool false) 1 Tryz.underlying148 hi hz0 hz1 _ _ _ _ (l.length + 1) rfl rfl (by omega) (by omega) (by rw [hz2]; omega) (by unfold maxLen; omega) (Nat.le_refl _) ?_; intro w3 hown3 hg3; obtain ⟨W5, hW5, hvis, c5, c6⟩ := xp6Z h hB2 Q2.out hown3 hg3)
      | (go_at_call 217; refine (visit0_any h HF.out hB2.size hvis).mono ?_; rintro e w6 ⟨rfl, M6, hv6, hg6, hgr6, hk6⟩; have hbx := vis_box hv6; have c7 := hbx.2.2.1; have hpl := hideP (grew_reach hgr6 hk6); have h41 : M6.length ≤ 41 := by { have := hgr6.len; simp at this; omega }; have HG := hideP hgr6; clear hgr6)
      | (go_at_call 218; refine (xk1Z M6 M6.length _ _ _ rfl h41 hbx).mono ?_; rw [hpl.out]; rintro e w7 ⟨v7, rfl, hr7, hb7⟩; have HR7 := hideP hr7; clear hr7))
    go_ret2
    have hs6 : w.heap.size ≤ w6.heap.size := hv6.bel.size
    exact ⟨_, rfl, xapZ HR7.out hs6, hv6.bel.trans (hb7.mono hs6)⟩
  · have hr : xfqZ l = [] := by rw [xfqZ, if_neg hf]
    rw [hr]
    have hf' : (flowErr l != 0) = true := by simp [hf]
    clear hr hf
    go_enter Tryz.func162, Tryz.ntmps162
    go_wp2_with (go_at_call 214; refine (xduZ l _ _ h1).mono ?_; rintro e w2 ⟨rfl, hb2⟩)
    go_ret2
    exact ⟨_, rfl, World.ownsRow_nil _ _ _ _, hB1.trans (hb2.mono hB1.size)⟩
end Go.Proofs.YtmjjkenblfndgaaGreat


/- Plain functions on types that stand for others (chapter 4), ahead of stage 2: Join, and its laws. -/
namespace Go.Proofs.YtmjjkenblfndgaaGreat
open Go.RowKit
set_option linter.unusedSimpArgs false
set_option linter.unusedVariables false
def xarZ (t other : Int) : Bool := decide (t = other) || (decide (t = 3) && decide (other = 2))
def joinT (a b : Int) : Option Int := if a = b then some a else if (a = 2 ∧ b = 3) ∨ (a = 3 ∧ b = 2) then some 2 else none
def joinL : List Int → List Int → Option (List Int)
  | [], [] => some []
  | a :: r, b :: q => (joinT a b).bind fun t => (joinL r q).map fun l => t :: l
  | _, _ => none
def xbbZ (t : Int) : Bool := decide (1 ≤ t) && decide (t ≤ 3)
def xb1Z (a b : List Int) : Int := if (a ++ b).any (fun t => !xbbZ t) = true then 6 else if 8 < a.length ∨ 8 < b.length then 2 else if (joinL a b).isNone = true then 4 else 0
theorem joinT_same (a : Int) : joinT a a = some a := by simp [joinT]
theorem xojZ {a b t : Int} (h : joinT a b = some t) : xarZ a t = true ∧ xarZ b t = true := by
  unfold joinT at h
  by_cases h1 : a = b
  · rw [if_pos h1] at h; cases h; subst h1; simp [xarZ]
  · rw [if_neg h1] at h
    by_cases h2 : (a = 2 ∧ b = 3) ∨ (a = 3 ∧ b = 2)
    · rw [if_pos h2] at h; cases h
      rcases h2 with ⟨rfl, rfl⟩ | ⟨rfl, rfl⟩ <;> decide
    · rw [if_neg h2] at h; cases h
theorem xgcZ : ∀ (a b l : List Int), joinL a b = some l → l.length = a.length ∧ a.length = b.length
  | [], [], l, h => by cases h; exact ⟨rfl, rfl⟩
  | [], _ :: _, l, h => by cases h
  | _ :: _, [], l, h => by cases h
  | a :: r, b :: q, l, h => by
    simp only [joinL] at h
    obtain ⟨t, ht, h2⟩ := Option.bind_eq_some_iff.1 h
    obtain ⟨l', hl', rfl⟩ := Option.map_eq_some_iff.1 h2
    obtain ⟨h3, h4⟩ := xgcZ r q l' hl'
    simp [h3, h4]
end Go.Proofs.YtmjjkenblfndgaaGreat


/- Plain functions on code that fits (chapter 4), ahead of stage 2: what an op leaves of a stack, and the least entries. -/
namespace Go.Proofs.YtmjjkenblfndgaaGreat
open Go.RowKit
set_option linter.unusedSimpArgs false
set_option linter.unusedVariables false
def leS : List Int → List Int → Bool
  | [], [] => true
  | a :: r, b :: q => xarZ a b && leS r q
  | _, _ => false
theorem xo1Z (a : Int) : xarZ a a = true := by simp [xarZ]
theorem xneZ {a b c : Int} (h : xarZ a b = true) (k : xarZ b c = true) : xarZ a c = true := by
  simp [xarZ] at h k ⊢
  omega
theorem xo0Z {a b : Int} (h : xarZ a b = true) (k : xarZ b a = true) : a = b := by
  simp [xarZ] at h k
  omega
theorem xc7Z : ∀ s, leS s s = true
  | [] => rfl
  | a :: r => by simp [leS, xo1Z, xc7Z r]
theorem xdmZ : ∀ {s t : List Int}, leS s t = true → s.length = t.length
  | [], [], _ => rfl
  | [], _ :: _, h => by simp [leS] at h
  | _ :: _, [], h => by simp [leS] at h
  | a :: r, b :: q, h => by simp [leS] at h; simp [xdmZ h.2]
theorem xcwZ : ∀ {s t u : List Int}, leS s t = true → leS t u = true → leS s u = true
  | [], [], [], _, _ => rfl
  | [], _ :: _, _, h, _ => by simp [leS] at h
  | _ :: _, [], _, h, _ => by simp [leS] at h
  | [], [], _ :: _, _, h => by simp [leS] at h
  | _ :: _, _ :: _, [], _, h => by simp [leS] at h
  | a :: r, b :: q, c :: v, h, k => by
    simp [leS] at h k ⊢
    exact ⟨xneZ h.1 k.1, xcwZ h.2 k.2⟩
theorem leS_anti : ∀ {s t : List Int}, leS s t = true → leS t s = true → s = t
  | [], [], _, _ => rfl
  | [], _ :: _, h, _ => by simp [leS] at h
  | _ :: _, [], h, _ => by simp [leS] at h
  | a :: r, b :: q, h, k => by
    simp [leS] at h k
    rw [xo0Z h.1 k.1, leS_anti h.2 k.2]
theorem xf0Z : ∀ {s t u v : List Int}, leS s t = true → leS u v = true → leS (s ++ u) (t ++ v) = true
  | [], [], _, _, _, k => k
  | [], _ :: _, _, _, h, _ => by simp [leS] at h
  | _ :: _, [], _, _, h, _ => by simp [leS] at h
  | a :: r, b :: q, u, v, h, k => by
    simp [leS] at h ⊢
    exact ⟨h.1, xf0Z h.2 k⟩
theorem xjvZ : ∀ (n : Nat) {s t : List Int}, leS s t = true → leS (s.drop n) (t.drop n) = true
  | 0, _, _, h => h
  | n + 1, [], [], _ => rfl
  | n + 1, [], _ :: _, h => by simp [leS] at h
  | n + 1, _ :: _, [], h => by simp [leS] at h
  | n + 1, a :: r, b :: q, h => by simp [leS] at h; exact xjvZ n h.2
theorem xjwZ : ∀ (n : Nat) {s t : List Int}, leS s t = true → leS (s.take n) (t.take n) = true
  | 0, _, _, _ => rfl
  | n + 1, [], [], _ => rfl
  | n + 1, [], _ :: _, h => by simp [leS] at h
  | n + 1, _ :: _, [], h => by simp [leS] at h
  | n + 1, a :: r, b :: q, h => by simp [leS] at h ⊢; exact ⟨h.1, xjwZ n h.2⟩
theorem xpxZ {s t : List Int} (h : leS s t = true) : leS s.reverse t.reverse = true := by
  induction s generalizing t with
  | nil => cases t with
    | nil => rfl
    | cons _ _ => simp [leS] at h
  | cons a r ih => cases t with
    | nil => simp [leS] at h
    | cons b q =>
      simp [leS] at h
      rw [List.reverse_cons, List.reverse_cons]
      exact xf0Z (ih h.2) (by simp [leS, h.1])
theorem joinT_le {a b c : Int} (h : xarZ a c = true) (k : xarZ b c = true) : ∃ t, joinT a b = some t ∧ xarZ t c = true := by
  by_cases h1 : a = b
  · subst h1; exact ⟨a, joinT_same a, h⟩
  · simp [xarZ] at h k
    refine ⟨2, ?_, by simp [xarZ]; omega⟩
    unfold joinT
    rw [if_neg h1, if_pos (by omega)]
theorem xhgZ : ∀ {a b c : List Int}, leS a c = true → leS b c = true → ∃ l, joinL a b = some l ∧ leS l c = true
  | [], [], [], _, _ => ⟨[], rfl, rfl⟩
  | [], [], _ :: _, h, _ => by simp [leS] at h
  | [], _ :: _, [], _, k => by simp [leS] at k
  | [], _ :: _, _ :: _, h, _ => by simp [leS] at h
  | _ :: _, _, [], h, _ => by simp [leS] at h
  | _ :: _, [], _ :: _, _, k => by simp [leS] at k
  | a :: r, b :: q, c :: v, h, k => by
    simp [leS] at h k
    obtain ⟨t, h1, h2⟩ := joinT_le h.1 k.1
    obtain ⟨l, h3, h4⟩ := xhgZ h.2 k.2
    exact ⟨t :: l, by simp [joinL, h1, h3], by simp [leS, h2, h4]⟩
theorem xigZ : ∀ {a b l : List Int}, joinL a b = some l → leS a l = true ∧ leS b l = true
  | [], [], l, h => by cases h; exact ⟨rfl, rfl⟩
  | [], _ :: _, l, h => by cases h
  | _ :: _, [], l, h => by cases h
  | a :: r, b :: q, l, h => by
    simp only [joinL] at h
    obtain ⟨t, ht, h2⟩ := Option.bind_eq_some_iff.1 h
    obtain ⟨l', hl', rfl⟩ := Option.map_eq_some_iff.1 h2
    obtain ⟨h3, h4⟩ := xigZ hl'
    obtain ⟨h5, h6⟩ := xojZ ht
    simp [leS, h3, h4, h5, h6]
def xaqZ (c : Int) : List Int × List Int :=
  if c = 1 ∨ c = 21 then ([], [1]) else if c = 5 ∨ c = 6 ∨ c = 7 then ([1, 1], [1]) else if c = 8 then ([], [0]) else if c = 9 then ([0], []) else if c = 11 ∨ c = 20 then ([1], []) else if c = 14 then ([1], [2]) else if c = 15 then ([2, 1], [1]) else if c = 16 then ([2, 1, 1], []) else if c = 17 ∨ c = 19 then ([2], [1]) else if c = 18 then ([], [3]) else ([], [])
def xauZ (t : Int) (l : List Int) : List Int := l.map fun x => if x = 0 then t else x
def xafZ (p : List Fn) (f : Fn) (o : Int × Int) (s : List Int) : Option (List Int × List Int) :=
  if o.1 = 2 then (if s.length < 1 then none else some (s.drop (s.length - 1), []))
  else if o.1 = 3 then (if s.length < 1 then none else some (s.drop (s.length - 1), s.drop (s.length - 1) ++ s.drop (s.length - 1)))
  else if o.1 = 4 then (if s.length < 2 then none else some (s.drop (s.length - 2), (s.drop (s.length - 2)).reverse))
  else if o.1 = 12 then ((p[o.2.toNat]?).map fun g => (g.2.1.take g.1.toNat, if 0 < g.2.2.1 then [g.2.2.1] else []))
  else if o.1 = 13 then (if s.length = (if 0 < f.2.2.1 then [f.2.2.1] else []).length then some (if 0 < f.2.2.1 then [f.2.2.1] else [], []) else none)
  else some (xauZ (f.2.1.getD o.2.toNat 0) (xaqZ o.1).1, xauZ (f.2.1.getD o.2.toNat 0) (xaqZ o.1).2)
def tryOp (p : List Fn) (f : Fn) (o : Int × Int) (s : List Int) : Option (List Int) :=
  (xafZ p f o s).bind fun tl => if tl.1.length ≤ s.length ∧ leS (s.drop (s.length - tl.1.length)) tl.1 = true ∧ (s.take (s.length - tl.1.length) ++ tl.2).length ≤ 8 then some (s.take (s.length - tl.1.length) ++ tl.2) else none
theorem xj3Z {p : List Fn} {f : Fn} {o : Int × Int} {s s' t l : List Int} (hs : leS s s' = true) (h : xafZ p f o s' = some (t, l)) :
    ∃ t1 l1, xafZ p f o s = some (t1, l1) ∧ t1.length = t.length ∧ leS l1 l = true ∧ (leS (s'.drop (s'.length - t.length)) t = true → leS (s.drop (s.length - t.length)) t1 = true) := by
  have hl := xdmZ hs
  have hd := fun n => xjvZ n hs
  unfold xafZ at h ⊢
  by_cases c2 : o.1 = 2
  · rw [if_pos c2] at h ⊢
    rw [hl]
    by_cases hn : s'.length < 1
    · rw [if_pos hn] at h; cases h
    · rw [if_neg hn] at h ⊢
      cases h
      refine ⟨_, _, rfl, by simp [hl], rfl, fun _ => ?_⟩
      rw [List.length_drop, show s'.length - (s'.length - (s'.length - 1)) = s'.length - 1 by omega]
      exact xc7Z _
  rw [if_neg c2] at h ⊢
  by_cases c3 : o.1 = 3
  · rw [if_pos c3] at h ⊢
    rw [hl]
    by_cases hn : s'.length < 1
    · rw [if_pos hn] at h; cases h
    · rw [if_neg hn] at h ⊢
      cases h
      refine ⟨_, _, rfl, by simp [hl], xf0Z (hd _) (hd _), fun _ => ?_⟩
      rw [List.length_drop, show s'.length - (s'.length - (s'.length - 1)) = s'.length - 1 by omega]
      exact xc7Z _
  rw [if_neg c3] at h ⊢
  by_cases c4 : o.1 = 4
  · rw [if_pos c4] at h ⊢
    rw [hl]
    by_cases hn : s'.length < 2
    · rw [if_pos hn] at h; cases h
    · rw [if_neg hn] at h ⊢
      cases h
      refine ⟨_, _, rfl, by simp [hl], xpxZ (hd _), fun _ => ?_⟩
      rw [List.length_drop, show s'.length - (s'.length - (s'.length - 2)) = s'.length - 2 by omega]
      exact xc7Z _
  rw [if_neg c4] at h ⊢
  have hsame : leS (s'.drop (s'.length - t.length)) t = true → leS (s.drop (s.length - t.length)) t = true := fun k => by
    rw [hl]; exact xcwZ (hd _) k
  by_cases c12 : o.1 = 12
  · rw [if_pos c12] at h ⊢
    exact ⟨t, l, h, rfl, xc7Z _, hsame⟩
  rw [if_neg c12] at h ⊢
  by_cases c13 : o.1 = 13
  · rw [if_pos c13] at h ⊢
    rw [hl]
    exact ⟨t, l, h, rfl, xc7Z _, by rw [hl] at hsame; exact hsame⟩
  · rw [if_neg c13] at h ⊢
    exact ⟨t, l, h, rfl, xc7Z _, hsame⟩
theorem tryOp_mono {p : List Fn} {f : Fn} {o : Int × Int} {s s' out' : List Int} (hs : leS s s' = true) (h : tryOp p f o s' = some out') : ∃ out, tryOp p f o s = some out ∧ leS out out' = true := by
  unfold tryOp at h ⊢
  obtain ⟨⟨t, l⟩, h1, h2⟩ := Option.bind_eq_some_iff.1 h
  obtain ⟨t1, l1, k1, k2, k3, k4⟩ := xj3Z hs h1
  have hl := xdmZ hs
  simp only at h2
  by_cases hc : t.length ≤ s'.length ∧ leS (s'.drop (s'.length - t.length)) t = true ∧ (s'.take (s'.length - t.length) ++ l).length ≤ 8
  · rw [if_pos hc] at h2
    cases h2
    have hout : leS (s.take (s.length - t1.length) ++ l1) (s'.take (s'.length - t.length) ++ l) = true := by
      rw [k2, hl]; exact xf0Z (xjwZ _ hs) k3
    refine ⟨s.take (s.length - t1.length) ++ l1, ?_, hout⟩
    rw [k1]
    simp only [Option.bind_some]
    rw [if_pos]
    refine ⟨by omega, ?_, ?_⟩
    · rw [k2]; exact k4 hc.2.1
    · rw [xdmZ hout]; exact hc.2.2
  · rw [if_neg hc] at h2; cases h2
structure FitsBy (p : List Fn) (f : Fn) (e : Nat → Option (List Int)) : Prop where
  first : e 0 = some []
  on : ∀ pc s, e pc = some s → ∃ o out, f.2.2.2[pc]? = some o ∧ tryOp p f o s = some out ∧ ∀ to, goesOn f.2.2.2 pc to = true → to < f.2.2.2.length ∧ ∃ s', e to = some s' ∧ leS out s' = true
def leE (e e' : Nat → Option (List Int)) : Prop := ∀ pc s, e pc = some s → ∃ s', e' pc = some s' ∧ leS s s' = true
theorem leE_anti {e e' : Nat → Option (List Int)} (h : leE e e') (k : leE e' e) : e = e' := by
  funext pc
  cases h1 : e pc with
  | none =>
    cases h2 : e' pc with
    | none => rfl
    | some s => obtain ⟨_, h3, _⟩ := k pc s h2; rw [h1] at h3; cases h3
  | some s =>
    obtain ⟨s', h2, h3⟩ := h pc s h1
    obtain ⟨s'', h4, h5⟩ := k pc s' h2
    rw [h1] at h4; cases h4
    rw [h2, leS_anti h3 h5]
theorem step_below {p : List Fn} {f : Fn} {e e' : Nat → Option (List Int)} (hf : FitsBy p f e') (hle : leE e e') {pc : Nat} {s : List Int} (hs : e pc = some s) : ∃ o out, f.2.2.2[pc]? = some o ∧ tryOp p f o s = some out ∧ ∀ to, goesOn f.2.2.2 pc to = true → to < f.2.2.2.length ∧ ∃ s', e' to = some s' ∧ leS out s' = true ∧ ∀ s1, e to = some s1 → ∃ j, joinL s1 out = some j ∧ leS j s' = true := by
  obtain ⟨s', h1, h2⟩ := hle pc s hs
  obtain ⟨o, out', h3, h4, h5⟩ := hf.on pc s' h1
  obtain ⟨out, h6, h7⟩ := tryOp_mono h2 h4
  refine ⟨o, out, h3, h6, fun to hto => ?_⟩
  obtain ⟨h8, s2, h9, h10⟩ := h5 to hto
  refine ⟨h8, s2, h9, xcwZ h7 h10, fun s1 hs1 => ?_⟩
  obtain ⟨s3, h11, h12⟩ := hle to s1 hs1
  rw [h9] at h11; cases h11
  exact xhgZ h12 (xcwZ h7 h10)
theorem xgqZ {p : List Fn} {f : Fn} {e : Nat → Option (List Int)} (hf : FitsBy p f e) {x : Nat} (h : Come f.2.2.2 x) : ∃ s, e x = some s := by
  induction h with
  | zero => exact ⟨_, hf.first⟩
  | step _ h2 ih =>
    obtain ⟨s, hs⟩ := ih
    obtain ⟨_, _, _, _, h⟩ := hf.on _ _ hs
    obtain ⟨_, s', h3, _⟩ := h _ h2
    exact ⟨s', h3⟩
def Least (p : List Fn) (f : Fn) (r : Option (Nat → Option (List Int))) : Prop :=
  match r with
  | none => ∀ e, ¬ FitsBy p f e
  | some e => FitsBy p f e ∧ ∀ e', FitsBy p f e' → leE e e'
theorem xmbZ {p : List Fn} {f : Fn} {r q : Option (Nat → Option (List Int))} (h : Least p f r) (k : Least p f q) : r = q := by
  cases r with
  | none => cases q with
    | none => rfl
    | some e => exact absurd k.1 (h e)
  | some e => cases q with
    | none => exact absurd h.1 (k e)
    | some e' => rw [leE_anti (h.2 _ k.1) (k.2 _ h.1)]
end Go.Proofs.YtmjjkenblfndgaaGreat


/- verify: standsFor, joinType, Join. -/
namespace Go.Proofs.YtmjjkenblfndgaaGreat
open Go.RowKit
set_option linter.unusedSimpArgs false
set_option linter.unusedVariables false
theorem xctZ (a b : Int) (w : World) : Calls Tryz.prog 229 #[.int .i64 a, .int .i64 b] w fun e w' => e = .returned (.bool (xarZ a b)) ∧ w' = w := by
  by_cases h : a = b
  · subst h
    have h' : (a == a) = true := by simp
    go_enter Tryz.func229, Tryz.ntmps229
    go_wp2
    go_ret
    exact ⟨by simp [xarZ], rfl⟩
  · have h' : (a == b) = false := by simp [h]
    by_cases h3 : a = 3
    · subst h3
      by_cases h2 : b = 2
      · subst h2
        go_enter Tryz.func229, Tryz.ntmps229
        go_wp2
        go_ret
        exact ⟨by simp [xarZ], rfl⟩
      · have h2' : (b == 2) = false := by simp [h2]
        have hs : xarZ 3 b = false := by simp [xarZ, h, h2]
        rw [hs]
        clear h h2 hs
        go_enter Tryz.func229, Tryz.ntmps229
        go_wp2
        go_ret
        exact ⟨rfl, rfl⟩
    · have h3' : (a == 3) = false := by simp [h3]
      have hs : xarZ a b = false := by simp [xarZ, h, h3]
      rw [hs]
      clear h h3 hs
      go_enter Tryz.func229, Tryz.ntmps229
      go_wp2
      go_ret
      exact ⟨rfl, rfl⟩
def jt (a b : Int) : Int := if xarZ a b = true then b else if xarZ b a = true then a else 0
theorem jt_none {a b : Int} (ha : xbbZ a = true) (hb : xbbZ b = true) : jt a b = 0 ↔ joinT a b = none := by
  simp only [xbbZ, Bool.and_eq_true, decide_eq_true_eq] at ha hb
  unfold jt joinT xarZ
  by_cases h : a = b
  · subst h; simp; omega
  · by_cases h1 : a = 3 ∧ b = 2
    · obtain ⟨rfl, rfl⟩ := h1; simp
    · by_cases h2 : a = 2 ∧ b = 3
      · obtain ⟨rfl, rfl⟩ := h2; simp
      · have e1 : (decide (a = b) || decide (a = 3) && decide (b = 2)) = false := by simp [h]; omega
        have e2 : (decide (b = a) || decide (b = 3) && decide (a = 2)) = false := by simp [fun e : b = a => h e.symm]; omega
        rw [e1, e2]
        simp [h]
        omega
theorem jt_some {a b t : Int} (h : joinT a b = some t) : jt a b = t := by
  unfold joinT at h
  by_cases h1 : a = b
  · rw [if_pos h1] at h; cases h; subst h1; simp [jt, xarZ]
  · rw [if_neg h1] at h
    split at h
    · rename_i h2
      cases h
      rcases h2 with ⟨rfl, rfl⟩ | ⟨rfl, rfl⟩ <;> simp [jt, xarZ]
    · cases h
theorem jt_list : ∀ {a b l : List Int}, joinL a b = some l → List.zipWith jt a b = l
  | [], [], l, h => by cases h; rfl
  | [], _ :: _, l, h => by cases h
  | _ :: _, [], l, h => by cases h
  | a :: r, b :: q, l, h => by
    simp only [joinL] at h
    obtain ⟨t, ht, h2⟩ := Option.bind_eq_some_iff.1 h
    obtain ⟨l', hl', rfl⟩ := Option.map_eq_some_iff.1 h2
    simp [jt_some ht, jt_list hl']
theorem jt_zero : ∀ {a b : List Int}, a.length = b.length → (∀ x ∈ a, xbbZ x = true) → (∀ x ∈ b, xbbZ x = true) → ((0 : Int) ∈ List.zipWith jt a b ↔ joinL a b = none)
  | [], [], _, _, _ => by simp [joinL]
  | [], _ :: _, h, _, _ => by simp at h
  | _ :: _, [], h, _, _ => by simp at h
  | a :: r, b :: q, h, ha, hb => by
    have ih := jt_zero (a := r) (b := q) (by simpa using h) (fun x hx => ha x (by simp [hx])) (fun x hx => hb x (by simp [hx]))
    have h1 := jt_none (ha a (by simp)) (hb b (by simp))
    simp only [List.zipWith_cons_cons, List.mem_cons, ih, joinL]
    cases e : joinT a b with
    | none => simp [h1.2 e]
    | some t =>
      have hne : ¬ 0 = jt a b := fun h0 => by have := h1.1 h0.symm; rw [e] at this; cases this
      simp [hne]
theorem xokZ (a b : Int) (w : World) : Calls Tryz.prog 206 #[.int .i64 a, .int .i64 b] w fun e w' => e = .returned (.int .i64 (jt a b)) ∧ w' = w := by
  cases h1 : xarZ a b
  · cases h2 : xarZ b a
    · go_enter Tryz.func206, Tryz.ntmps206
      go_wp2_with fail
      refine (xctZ a b _).mono ?_
      rw [h1]
      rintro e w1 ⟨rfl, hw⟩
      have hw := hw.symm
      subst hw
      go_wp2_with fail
      refine (xctZ b a _).mono ?_
      rw [h2]
      rintro e w1 ⟨rfl, hw⟩
      have hw := hw.symm
      subst hw
      go_wp2
      go_ret
      exact ⟨by simp [jt, h1, h2], rfl⟩
    · go_enter Tryz.func206, Tryz.ntmps206
      go_wp2_with fail
      refine (xctZ a b _).mono ?_
      rw [h1]
      rintro e w1 ⟨rfl, hw⟩
      have hw := hw.symm
      subst hw
      go_wp2_with fail
      refine (xctZ b a _).mono ?_
      rw [h2]
      rintro e w1 ⟨rfl, hw⟩
      have hw := hw.symm
      subst hw
      go_wp2
      go_ret
      exact ⟨by simp [jt, h1, h2], rfl⟩
  · go_enter Tryz.func206, Tryz.ntmps206
    go_wp2_with fail
    refine (xctZ a b _).mono ?_
    rw [h1]
    rintro e w1 ⟨rfl, hw⟩
    have hw := hw.symm
    subst hw
    go_wp2
    go_ret
    exact ⟨by simp [jt, h1], rfl⟩
theorem xl7Z (t : Int) (w : World) : Calls Tryz.prog 205 #[.int .i64 t] w fun e w' => e = .returned (.bool (!xbbZ t)) ∧ w' = w := by
  by_cases h1 : t < 1
  · go_enter Tryz.func205, Tryz.ntmps205
    go_wp2
    go_ret
    exact ⟨by simp [xbbZ]; omega, rfl⟩
  · by_cases h2 : t > 3
    · go_enter Tryz.func205, Tryz.ntmps205
      go_wp2
      go_ret
      exact ⟨by simp [xbbZ]; omega, rfl⟩
    · go_enter Tryz.func205, Tryz.ntmps205
      go_wp2
      go_ret
      exact ⟨by simp [xbbZ]; omega, rfl⟩
theorem xkoZ (l : List Int) (v : Value) (w : World) (h : IntsAt w v l) : Calls Tryz.prog 177 #[v, .func (.func 205) #[] #[]] w fun e w' => ∃ r, e = .returned (.int .i64 r) ∧ decide (0 ≤ r) = (!l.all xbbZ) ∧ w' = w := by
  obtain ⟨p, cap, rfl, hm, hc⟩ := h
  unfold maxLen at hm
  go_enter Tryz.func177, Tryz.ntmps177
  go_wp2
  go_loopw [5, 8] (fun _ i wr => ∃ k : Nat, k ≤ l.length ∧ i = .int .i64 k ∧ (∀ o ∈ l.take k, xbbZ o = true) ∧ wr = w) (fun _ i _ => l.length - (intOf i).toNat)
  case atStart => exact ⟨0, Nat.zero_le _, rfl, by simp, rfl⟩
  case round =>
    obtain ⟨k, hk, rfl, hok, hbw⟩ := hrel
    subst hbw
    have HK := hideP hok
    have HC := hideP hc
    clear hok hc
    by_cases hlt : k < l.length
    · obtain ⟨z, ho⟩ := xagZ hlt
      obtain ⟨b, off, rfl, hb, g0⟩ := HC.out k _ ho
      have HO := hideP ho
      clear ho
      cases hnb : xbbZ z
      · go_wp2_with (go_at_call 205; refine (xl7Z z _).mono ?_; rw [hnb]; rintro e w2 ⟨rfl, hw⟩; have hw := hw.symm; subst hw)
        go_ret
        exact ⟨k, rfl, by rw [xcvZ HO.out hnb]; simp, rfl⟩
      · go_wp2_with (go_at_call 205; refine (xl7Z z _).mono ?_; rw [hnb]; rintro e w2 ⟨rfl, hw⟩; have hw := hw.symm; subst hw)
        go_roundw
        case rel => exact ⟨k + 1, by omega, by go_num, xc0Z HK.out HO.out hnb, trivial⟩
        case measure => simp [intOf]; omega
    · have hlt' : ¬ (k : Int) < (l.length : Int) := by omega
      go_wp2
      go_ret
      refine ⟨-1, rfl, ?_, rfl⟩
      have := HK.out
      rw [List.take_of_length_le (by omega)] at this
      rw [xc1Z this]; decide
theorem xcgZ (l : List Int) (v : Value) (w : World) (h : IntsAt w v l) : Calls Tryz.prog 140 #[v, .func (.func 205) #[] #[]] w fun e w' => e = .returned (.bool (!l.all xbbZ)) ∧ w' = w := by
  go_enter Tryz.func140, Tryz.ntmps140
  go_wp2_with fail
  refine (xkoZ l v _ h).mono ?_
  rintro e w2 ⟨r, rfl, hr, hw⟩
  have hw := hw.symm
  subst hw
  have HR := hideP hr
  clear hr
  go_wp2
  go_ret
  exact ⟨by rw [← HR.out]; rfl, rfl⟩
def upTo (l : List Int) (k : Nat) : List Int := l.take k ++ List.replicate (l.length - k) 0
theorem upTo_set {l : List Int} {k : Nat} {x : Int} (h : l[k]? = some x) : (upTo l k).set k x = upTo l (k + 1) := by
  have hk := xadZ h
  apply List.ext_getElem?
  intro i
  rw [List.getElem?_set]
  have hlen : (upTo l k).length = l.length := by simp [upTo]; omega
  by_cases e : k = i
  · subst e
    rw [if_pos rfl, if_pos (by omega)]
    unfold upTo
    rw [List.getElem?_append_left (by simp; omega), List.getElem?_take_of_lt (by omega), h]
  · rw [if_neg e]
    unfold upTo
    by_cases hi : i < k
    · rw [List.getElem?_append_left (by simp; omega), List.getElem?_append_left (by simp; omega), List.getElem?_take_of_lt hi, List.getElem?_take_of_lt (by omega)]
    · rw [List.getElem?_append_right (by simp; omega), List.getElem?_append_right (by simp; omega)]
      simp only [List.getElem?_replicate, List.length_take]
      rw [Nat.min_eq_left (by omega), Nat.min_eq_left (by omega)]
      by_cases hl : i < l.length
      · rw [if_pos (by omega), if_pos (by omega)]
      · rw [if_neg (by omega), if_neg (by omega)]
theorem upTo_all (l : List Int) : upTo l l.length = l := by simp [upTo]
theorem upTo_none (l : List Int) : upTo l 0 = List.replicate l.length 0 := by simp [upTo]
theorem set_ints (l : List Int) (k : Nat) (x : Int) : (l.map (Value.int .i64)).toArray.setIfInBounds k (.int .i64 x) = ((l.set k x).map (Value.int .i64)).toArray := by
  apply Array.ext'
  simp
theorem xmcZ (n : Nat) : (madeCells (Value.int .i64 0).cells (n * 1)).toList = (List.replicate n (0 : Int)).map (Value.int .i64) := by
  have h : (Value.int .i64 0).cells = #[.int .i64 0] := rfl
  rw [h]
  apply List.ext_getElem?
  intro k
  by_cases hk : k < n
  · simp [madeCells, hk, Nat.mod_one]
  · simp [madeCells, hk]
end Go.Proofs.YtmjjkenblfndgaaGreat


