/- My texts Fc Fd Fe Ff Pj: what of them is needed, joined. -/
import Derived.Laws.EntriesVeiled
import Derived.Test.YtgmkmlenhhhgkaaGreatF2
import Derived.Test.YtgmkmlenhhhgkaaGreatF4
set_option maxRecDepth 100000
set_option maxHeartbeats 8000000
/- flow.places at the closures of Back and Reach. -/
namespace Go.Proofs.YtgmkmlenhhhgkaaGreat
open Go.RowKit
set_option linter.unusedSimpArgs false
set_option linter.unusedVariables false
def xazZ (p : Nat → Bool) (n : Nat) : List Int := ((List.range n).filter p).map Int.ofNat
theorem xdgZ {p : Nat → Bool} {n : Nat} (h : p n = true) : xazZ p (n + 1) = xazZ p n ++ [(n : Int)] := by
  simp [xazZ, List.range_succ, List.filter_append, h]
theorem xdcZ {p : Nat → Bool} {n : Nat} (h : p n = false) : xazZ p (n + 1) = xazZ p n := by
  simp [xazZ, List.range_succ, List.filter_append, h]
theorem xgfZ (p : Nat → Bool) (n : Nat) : (xazZ p n).length ≤ n := by
  have := List.length_filter_le p (List.range n)
  simpa [xazZ] using this
theorem xhlZ {p q : Nat → Bool} {n : Nat} (h : ∀ k, k < n → p k = q k) : xazZ p n = xazZ q n := by
  unfold xazZ
  rw [List.filter_congr fun x hx => h x (by simpa using hx)]
def comes (l : List (Int × Int)) (to : Int) (pc : Nat) : Bool := match l[pc]? with | some o => decide (to ∈ nextI o.1 o.2 pc) | none => false
def BackBox (w : World) (bc bp : Nat) (l : List (Int × Int)) (to : Int) : Prop := CodeBox w bc l ∧ bp < w.heap.size ∧ w.cell? ⟨bp, 0, none⟩ = some (.int .i64 to)
theorem BackBox.below {w w' : World} {bc bp : Nat} {l : List (Int × Int)} {to : Int} (h : BackBox w bc bp l to) (hb : Below w.heap.size w w') : BackBox w' bc bp l to :=
  ⟨h.1.below hb, Nat.lt_of_lt_of_le h.2.1 hb.size, (hb.cell (p := ⟨bp, 0, none⟩) h.2.1).trans h.2.2⟩
theorem backC_any (l : List (Int × Int)) (to : Int) (k bc bp : Nat) (w : World) (hk : k < l.length) (h40 : l.length ≤ 40) (hb : BackBox w bc bp l to) : Calls Tryz.prog 65 #[.int .i64 k, .pointer (some ⟨bc, 0, none⟩), .pointer (some ⟨bp, 0, none⟩)] w fun e w' => e = .returned (.bool (comes l to k)) ∧ Below w.heap.size w w' := by
  obtain ⟨⟨v, h1, h2, h3⟩, h4, h5⟩ := hb
  obtain ⟨p, q, rfl, hm, hc⟩ := h3
  obtain ⟨⟨c, a⟩, ho⟩ := xagZ hk
  obtain ⟨b, off, rfl, hbl, g0, g1⟩ := hc k _ ho
  have he : comes l to k = decide (to ∈ nextI c a k) := by simp [comes, ho]
  rw [he]
  have HO := hideP ho
  clear hc ho he
  simp only at g0 g1
  have hlti : (k : Int) < (l.length : Int) := by omega
  unfold maxLen at hm
  go_enter Tryz.func65, Tryz.ntmps65
  go_wp2_with fail
  go_region_held3 (fun W => W.cell? ⟨bc, 0, none⟩ = some (.slice (some ⟨b, off, none⟩) l.length q) ∧ W.cell? ⟨bp, 0, none⟩ = some (.int .i64 to) ∧ W.cell? ⟨b, off + k * 2, none⟩ = some (.int .i64 c) ∧ W.cell? ⟨b, off + k * 2 + 1, none⟩ = some (.int .i64 a)) (go_keep)
    (first
      | (go_at_call 38; refine (xdeZ c a k _ (by omega)).mono ?_; rintro e w3 ⟨v3, rfl, hr3, hb3'⟩; have hb3 : Below w.heap.size w w3 := ((Below.refl w.heap.size w).drew).trans hb3'; have u0 := (hb3.cell (p := ⟨bc, 0, none⟩) h1).trans h2; have u1 := (hb3.cell (p := ⟨bp, 0, none⟩) h4).trans h5; have u2 := (hb3.cell (p := ⟨b, off + k * 2, none⟩) hbl).trans g0; have u3 := (hb3.cell (p := ⟨b, off + k * 2 + 1, none⟩) hbl).trans g1; have hI3 := xaqZ rfl hr3; clear hb3' hr3)
      | (go_at_call 44; refine (xctZ _ to _ _ hI3).mono ?_; rintro e w4 ⟨rfl, hw⟩; have hw := hw.symm; subst hw))
  all_goals go_wp2
  all_goals go_ret
  all_goals exact ⟨rfl, hb3⟩
def ReachBox (w : World) (bR R : Nat) (M : List Bool) : Prop := bR < w.heap.size ∧ R < w.heap.size ∧ w.cell? ⟨bR, 0, none⟩ = some (.slice (some ⟨R, 0, none⟩) M.length M.length) ∧ ∀ k b, M[k]? = some b → w.cell? ⟨R, k, none⟩ = some (.bool b)
theorem ReachBox.below {w w' : World} {bR R : Nat} {M : List Bool} (h : ReachBox w bR R M) (hb : Below w.heap.size w w') : ReachBox w' bR R M :=
  ⟨Nat.lt_of_lt_of_le h.1 hb.size, Nat.lt_of_lt_of_le h.2.1 hb.size, (hb.cell (p := ⟨bR, 0, none⟩) h.1).trans h.2.2.1, fun k b hk => (hb.cell (p := ⟨R, k, none⟩) h.2.1).trans (h.2.2.2 k b hk)⟩
theorem reachC_any (M : List Bool) (k bR R : Nat) (w : World) (hk : k < M.length) (h41 : M.length ≤ 41) (hb : ReachBox w bR R M) : Calls Tryz.prog 40 #[.int .i64 k, .pointer (some ⟨bR, 0, none⟩)] w fun e w' => e = .returned (.bool (M.getD k false)) ∧ Below w.heap.size w w' := by
  obtain ⟨h1, h2, h3, h4⟩ := hb
  obtain ⟨b, ho⟩ := xagZ hk
  have g := h4 k b ho
  have he : M.getD k false = b := by rw [List.getD_eq_getElem?_getD, ho]; rfl
  rw [he]
  clear h4 ho he
  have hlti : (k : Int) < (M.length : Int) := by omega
  go_enter Tryz.func40, Tryz.ntmps40
  go_wp2
  go_ret
  exact ⟨rfl, Below.refl _ _⟩
theorem xgvZ (l : List (Int × Int)) (to : Int) (n bc bp : Nat) (w : World) (hn : n = l.length) (h40 : n ≤ 40) (hb : BackBox w bc bp l to) : Calls Tryz.prog 39 #[.int .i64 n, .func (.func 65) #[] #[.pointer (some ⟨bc, 0, none⟩), .pointer (some ⟨bp, 0, none⟩)]] w fun e w' => ∃ v, e = .returned v ∧ w'.ownsRow w.heap.size 3 1 v (xazZ (fun pc => comes l to pc) n).length ((xazZ (fun pc => comes l to pc) n).map (Value.int .i64)) ∧ Below w.heap.size w w' := by
  obtain ⟨i0, hi, hz0, hz1, hz2⟩ := info_parts xdkZ
  obtain ⟨P, hP⟩ : ∃ P : Nat → Bool, (fun pc => comes l to pc) = P := ⟨_, rfl⟩
  have hcall : ∀ (k : Nat) (W : World), k < n → Below w.heap.size w W → Calls Tryz.prog 65 #[.int .i64 k, .pointer (some ⟨bc, 0, none⟩), .pointer (some ⟨bp, 0, none⟩)] W fun e w' => e = .returned (.bool (P k)) ∧ Below W.heap.size W w' := by
    intro k W hk hbw
    have hB2 := hb.below hbw
    rw [← hP]
    exact backC_any l to k bc bp _ (by omega) (by omega) hB2
  have HCALL := hideP hcall
  rw [hP]
  clear hcall hP hn hb
  go_enter Tryz.func39, Tryz.ntmps39
  go_wp2
  go_loopw [5, 6, 8] (fun v5 _ i wr => ∃ k : Nat, k ≤ n ∧ i = .int .i64 k ∧ wr.ownsRow w.heap.size 3 1 v5 (xazZ P k).length ((xazZ P k).map (Value.int .i64)) ∧ Below w.heap.size w wr) (fun _ _ i _ => n - (intOf i).toNat)
  case atStart => exact ⟨0, Nat.zero_le _, rfl, World.ownsRow_nil _ _ _ _, Below.refl _ _⟩
  case round =>
    rename World => w2
    obtain ⟨k, hk, rfl, hrow, hbw⟩ := hrel
    obtain ⟨p5, c5, rfl⟩ := xahZ hrow
    by_cases hlt : k < n
    · have hlti : (k : Int) < (n : Int) := by omega
      have hle := xgfZ P k
      have HROW := hideP hrow
      clear hrow
      cases hp : P k
      · go_wp2_with (go_at_call 65; refine (HCALL.out k _ hlt hbw).mono ?_; rw [hp]; rintro e w3 ⟨rfl, hb3⟩)
        go_roundw
        case rel =>
          refine ⟨k + 1, by omega, by go_num, ?_, hbw.trans (hb3.mono hbw.size)⟩
          rw [xdcZ hp]
          exact xayZ HROW.out fun j hj => hb3.block j (HROW.out.lt j hj).2
        case measure => simp [intOf]; omega
      · go_wp2_with (first
          | (go_at_call 65; refine (HCALL.out k _ hlt hbw).mono ?_; rw [hp]; rintro e w3 ⟨rfl, hb3⟩; have hrow3 := hideP ((xayZ HROW.out fun j hj => hb3.block j (HROW.out.lt j hj).2).alloc (.cells #[.int .i64 k] 3)))
          | (at_builtin; refine wpList_append_own _ rfl _ _ 25 rfl w.heap.size 3 i0 (.int .i64 0) 1 8 Tryz.underlying25 hi hz0 hz1 hz2 rfl (by decide) _ _ _ rfl hrow3.out ⟨w3.heap.size, 0, none⟩ 1 1 [.int .i64 k] rfl rfl (cell_one_new _ _ _) (by simp [Value.oneCell']) (by unfold maxLen; omega) (by omega) (by have := hb3.size; have := hbw.size; simp; omega) ?_; intro v' w4 hown4 hg4 _; obtain ⟨g', cap', rfl⟩ := ownsRow_succ hown4))
        go_roundw
        case rel =>
          refine ⟨k + 1, by omega, by go_num, ?_, ?_⟩
          · rw [xdgZ hp]
            simpa using hown4
          · have h3 := hbw.trans (hb3.mono hbw.size)
            have h4 := h3.alloc (Nat.le_trans hbw.size hb3.size) (.cells #[.int .i64 k] 3)
            exact h4.grown hg4 (by have := hb3.size; have := hbw.size; simp; omega) (fun j hj => (hrow3.out.lt j hj).1)
        case measure => simp [intOf]; omega
    · have hlt' : ¬ (k : Int) < (n : Int) := by omega
      obtain rfl : k = n := by omega
      go_wp2
      go_ret
      exact ⟨_, rfl, hrow, hbw⟩
theorem xggZ (M : List Bool) (n bR R : Nat) (w : World) (hn : n = M.length) (h40 : n ≤ 41) (hb : ReachBox w bR R M) : Calls Tryz.prog 39 #[.int .i64 n, .func (.func 40) #[] #[.pointer (some ⟨bR, 0, none⟩)]] w fun e w' => ∃ v, e = .returned v ∧ w'.ownsRow w.heap.size 3 1 v (xazZ (fun pc => M.getD pc false) n).length ((xazZ (fun pc => M.getD pc false) n).map (Value.int .i64)) ∧ Below w.heap.size w w' := by
  obtain ⟨i0, hi, hz0, hz1, hz2⟩ := info_parts xdkZ
  obtain ⟨P, hP⟩ : ∃ P : Nat → Bool, (fun pc => M.getD pc false) = P := ⟨_, rfl⟩
  have hcall : ∀ (k : Nat) (W : World), k < n → Below w.heap.size w W → Calls Tryz.prog 40 #[.int .i64 k, .pointer (some ⟨bR, 0, none⟩)] W fun e w' => e = .returned (.bool (P k)) ∧ Below W.heap.size W w' := by
    intro k W hk hbw
    have hB2 := hb.below hbw
    rw [← hP]
    exact reachC_any M k bR R _ (by omega) (by omega) hB2
  have HCALL := hideP hcall
  rw [hP]
  clear hcall hP hn hb
  go_enter Tryz.func39, Tryz.ntmps39
  go_wp2
  go_loopw [5, 6, 8] (fun v5 _ i wr => ∃ k : Nat, k ≤ n ∧ i = .int .i64 k ∧ wr.ownsRow w.heap.size 3 1 v5 (xazZ P k).length ((xazZ P k).map (Value.int .i64)) ∧ Below w.heap.size w wr) (fun _ _ i _ => n - (intOf i).toNat)
  case atStart => exact ⟨0, Nat.zero_le _, rfl, World.ownsRow_nil _ _ _ _, Below.refl _ _⟩
  case round =>
    rename World => w2
    obtain ⟨k, hk, rfl, hrow, hbw⟩ := hrel
    obtain ⟨p5, c5, rfl⟩ := xahZ hrow
    by_cases hlt : k < n
    · have hlti : (k : Int) < (n : Int) := by omega
      have hle := xgfZ P k
      have HROW := hideP hrow
      clear hrow
      cases hp : P k
      · go_wp2_with (go_at_call 40; refine (HCALL.out k _ hlt hbw).mono ?_; rw [hp]; rintro e w3 ⟨rfl, hb3⟩)
        go_roundw
        case rel =>
          refine ⟨k + 1, by omega, by go_num, ?_, hbw.trans (hb3.mono hbw.size)⟩
          rw [xdcZ hp]
          exact xayZ HROW.out fun j hj => hb3.block j (HROW.out.lt j hj).2
        case measure => simp [intOf]; omega
      · go_wp2_with (first
          | (go_at_call 40; refine (HCALL.out k _ hlt hbw).mono ?_; rw [hp]; rintro e w3 ⟨rfl, hb3⟩; have hrow3 := hideP ((xayZ HROW.out fun j hj => hb3.block j (HROW.out.lt j hj).2).alloc (.cells #[.int .i64 k] 3)))
          | (at_builtin; refine wpList_append_own _ rfl _ _ 25 rfl w.heap.size 3 i0 (.int .i64 0) 1 8 Tryz.underlying25 hi hz0 hz1 hz2 rfl (by decide) _ _ _ rfl hrow3.out ⟨w3.heap.size, 0, none⟩ 1 1 [.int .i64 k] rfl rfl (cell_one_new _ _ _) (by simp [Value.oneCell']) (by unfold maxLen; omega) (by omega) (by have := hb3.size; have := hbw.size; simp; omega) ?_; intro v' w4 hown4 hg4 _; obtain ⟨g', cap', rfl⟩ := ownsRow_succ hown4))
        go_roundw
        case rel =>
          refine ⟨k + 1, by omega, by go_num, ?_, ?_⟩
          · rw [xdgZ hp]
            simpa using hown4
          · have h3 := hbw.trans (hb3.mono hbw.size)
            have h4 := h3.alloc (Nat.le_trans hbw.size hb3.size) (.cells #[.int .i64 k] 3)
            exact h4.grown hg4 (by have := hb3.size; have := hbw.size; simp; omega) (fun j hj => (hrow3.out.lt j hj).1)
        case measure => simp [intOf]; omega
    · have hlt' : ¬ (k : Int) < (n : Int) := by omega
      obtain rfl : k = n := by omega
      go_wp2
      go_ret
      exact ⟨_, rfl, hrow, hbw⟩

end Go.Proofs.YtgmkmlenhhhgkaaGreat


/- flow.Next, flow.Back. -/
namespace Go.Proofs.YtgmkmlenhhhgkaaGreat
open Go.RowKit
set_option linter.unusedSimpArgs false
set_option linter.unusedVariables false
theorem rising_ext {L K : List Nat} (h1 : L.Pairwise (· < ·)) (h2 : K.Pairwise (· < ·)) (h : ∀ x, x ∈ L ↔ x ∈ K) : L = K := by
  have n1 : L.Nodup := h1.imp (fun h e => by omega)
  have n2 : K.Nodup := h2.imp (fun h e => by omega)
  have hp : L.Perm K := (List.perm_ext_iff_of_nodup n1 n2).2 h
  exact hp.eq_of_pairwise (fun a b _ _ h1 h2 => absurd h1 (by omega)) h1 h2
theorem xdjZ {L : List Nat} {m : Nat} {p : Nat → Bool} (hL : L.Pairwise (· < ·)) (hm : ∀ x ∈ L, x < m) (hp : ∀ x, x < m → (p x = true ↔ x ∈ L)) : (List.range m).filter p = L := by
  refine rising_ext (List.pairwise_lt_range.filter _) hL fun x => ?_
  rw [List.mem_filter, List.mem_range]
  exact ⟨fun h => (hp x h.1).1 h.2, fun h => ⟨hm x h, (hp x (hm x h)).2 h⟩⟩
theorem xfuZ {l : List (Int × Int)} (hf : flowErr l = 0) {k : Nat} {c a : Int} (ho : l[k]? = some (c, a)) : nextI c a k = (nextL l k).map Int.ofNat := by
  obtain ⟨_, _, hb⟩ := xa4Z hf
  have hk := xauZ ho
  have hbo := hb _ (List.mem_of_getElem? ho)
  unfold nextI nextL
  have hg : ∀ x : Nat, goesOn l k x = if c = 13 then false else if c = 10 then decide ((x : Int) = a) else if c = 11 then decide (x = k + 1) || decide ((x : Int) = a) else decide (x = k + 1) := by
    intro x; simp [goesOn, ho]
  by_cases h13 : c = 13
  · rw [if_pos h13, xdjZ (L := []) (by simp) (by simp) (by intro x _; rw [hg]; simp [h13])]; rfl
  rw [if_neg h13]
  by_cases h10 : c = 10
  · simp [badTo, h10] at hbo
    rw [if_pos h10, xdjZ (L := [a.toNat]) (by simp) (by simp; omega) (by intro x _; rw [hg]; simp [h13, h10]; omega)]
    simp; omega
  rw [if_neg h10]
  by_cases h11 : c = 11
  · simp [badTo, h11] at hbo
    rw [if_pos h11]
    unfold rise
    by_cases e1 : a = (k : Int) + 1
    · rw [if_pos e1, xdjZ (L := [k + 1]) (by simp) (by simp; omega) (by intro x _; rw [hg]; simp [h13, h10, h11]; omega)]
      simp [e1]
    rw [if_neg e1]
    by_cases e2 : a < (k : Int) + 1
    · rw [if_pos e2, xdjZ (L := [a.toNat, k + 1]) (by simp; omega) (by simp; omega) (by intro x _; rw [hg]; simp [h13, h10, h11]; omega)]
      simp; omega
    · rw [if_neg e2, xdjZ (L := [k + 1, a.toNat]) (by simp; omega) (by simp; omega) (by intro x _; rw [hg]; simp [h13, h10, h11]; omega)]
      simp; omega
  · rw [if_neg h11, xdjZ (L := [k + 1]) (by simp) (by simp; omega) (by intro x _; rw [hg]; simp [h13, h10, h11])]
    simp
theorem comes_eq {l : List (Int × Int)} (hf : flowErr l = 0) (to k : Nat) : comes l to k = goesOn l k to := by
  obtain ⟨_, _, hb⟩ := xa4Z hf
  unfold comes
  cases ho : l[k]? with
  | none => simp [goesOn, ho]
  | some o =>
    show decide ((to : Int) ∈ nextI o.1 o.2 k) = _
    rw [xfuZ hf (c := o.1) (a := o.2) (by rw [ho])]
    rw [Bool.eq_iff_iff, decide_eq_true_iff, ← xdtZ hb, List.mem_map]
    refine ⟨fun ⟨x, h1, h2⟩ => ?_, fun h => ⟨to, h, rfl⟩⟩
    obtain rfl : x = to := Int.ofNat.inj h2
    exact h1
def nextR (l : List (Int × Int)) (pc : Int) : List Int := if xb4Z l pc = 0 then (nextL l pc.toNat).map Int.ofNat else []
def backR (l : List (Int × Int)) (pc : Int) : List Int := if xclZ l pc = 0 then (backL l pc.toNat).map Int.ofNat else []
theorem xb7Z {l : List (Int × Int)} (hf : flowErr l = 0) : l.length ≤ 40 := by
  have := (xa4Z hf).1
  unfold xaoZ at this
  rcases Nat.lt_or_ge 40 l.length with h | h
  · rw [if_pos h] at this; cases this
  · exact h
theorem xezZ (l : List (Int × Int)) (pc : Int) (v : Value) (w : World) (h : OpsAt w v l) : Calls Tryz.prog 32 #[v, .int .i64 pc] w fun e w' => ∃ u, e = .returned (.tuple #[u, .int .i64 (xb4Z l pc)]) ∧ w'.ownsRow w.heap.size 3 1 u (nextR l pc).length ((nextR l pc).map (Value.int .i64)) ∧ Below w.heap.size w w' := by
  have h' := h
  obtain ⟨p, cap, rfl, hm, hc⟩ := h'
  unfold maxLen at hm
  have HC := hideP hc
  clear hc
  by_cases hf : flowErr l = 0
  · have h40 := xb7Z hf
    by_cases hp : isAt l.length pc = true
    · have hp1 : 0 ≤ pc ∧ pc < (l.length : Int) := by simpa [isAt] using hp
      obtain ⟨k, rfl⟩ : ∃ k : Nat, pc = k := ⟨pc.toNat, by omega⟩
      have hk : k < l.length := by omega
      obtain ⟨⟨c, a⟩, ho⟩ := xagZ hk
      obtain ⟨b, off, rfl, hbl, g0, g1⟩ := HC.out k _ ho
      simp only at g0 g1
      have he : xb4Z l k = 0 := by rw [xb4Z, if_neg (by simp [hf]), if_neg (by omega)]
      have hr : nextR l k = nextI c a k := by rw [nextR, if_pos he, xfuZ hf ho]; rfl
      rw [he, hr]
      have HF := hideP hf
      have HP1 := hideP hp1
      have HO := hideP ho
      have hck : ∀ W : World, OpsAt W (.slice (some ⟨b, off, none⟩) l.length cap) l → Calls Tryz.prog 35 #[.slice (some ⟨b, off, none⟩) l.length cap] W fun e w' => e = .returned (.int .i64 0) ∧ Below W.heap.size W w' := by
        intro W hW
        have := xbtZ l _ W hW
        rw [hf] at this
        exact this
      have HCK := hideP hck
      have hlti : (k : Int) < (l.length : Int) := by omega
      clear hf he hr ho hck hp1
      go_enter Tryz.func32, Tryz.ntmps32
      go_wp2_with (first
        | (go_at_call 35; refine (HCK.out _ h).mono ?_; rintro e w1 ⟨rfl, hb1⟩; have h1 := h.below hb1; have d0 := (hb1.cell (p := ⟨b, off + k * 2, none⟩) hbl).trans g0; have d1 := (hb1.cell (p := ⟨b, off + k * 2 + 1, none⟩) hbl).trans g1)
        | (go_at_call 37; refine (xbqZ (k : Int) l _ _ h1).mono ?_; rw [hp]; rintro e w2 ⟨rfl, hw2⟩; have hw2 := hw2.symm; subst hw2)
        | (go_at_call 38; refine (xdeZ c a k _ (by omega)).mono ?_; rintro e w3 ⟨v3, rfl, hr3, hb3⟩; have HR3 := hideP hr3; clear hr3))
      go_ret2
      exact ⟨_, rfl, xa2Z HR3.out hb1.size, hb1.trans (hb3.mono hb1.size)⟩
    · have hp' : isAt l.length pc = false := by simpa using hp
      have hp1 : pc < 0 ∨ (l.length : Int) ≤ pc := by
        simp [isAt] at hp
        omega
      have he : xb4Z l pc = 3 := by rw [xb4Z, if_neg (by simp [hf]), if_pos hp1]
      have hr : nextR l pc = [] := by rw [nextR, if_neg (by rw [he]; decide)]
      rw [he, hr]
      have hck : ∀ W : World, OpsAt W (.slice p l.length cap) l → Calls Tryz.prog 35 #[.slice p l.length cap] W fun e w' => e = .returned (.int .i64 0) ∧ Below W.heap.size W w' := by
        intro W hW
        have := xbtZ l _ W hW
        rw [hf] at this
        exact this
      have HCK := hideP hck
      clear hf he hr hck hp hp1
      go_enter Tryz.func32, Tryz.ntmps32
      go_wp2_with (first
        | (go_at_call 35; refine (HCK.out _ h).mono ?_; rintro e w1 ⟨rfl, hb1⟩; have h1 := h.below hb1)
        | (go_at_call 37; refine (xbqZ pc l _ _ h1).mono ?_; rw [hp']; rintro e w2 ⟨rfl, hw2⟩; have hw2 := hw2.symm; subst hw2))
      go_ret2
      exact ⟨_, rfl, World.ownsRow_nil _ _ _ _, hb1⟩
  · have he : xb4Z l pc = flowErr l := by rw [xb4Z, if_pos hf]
    have hr : nextR l pc = [] := by rw [nextR, if_neg (by rw [he]; exact hf)]
    rw [he, hr]
    have hf' : (flowErr l != 0) = true := by simp [hf]
    clear he hr hf
    go_enter Tryz.func32, Tryz.ntmps32
    go_wp2_with (go_at_call 35; refine (xbtZ l _ _ h).mono ?_; rintro e w1 ⟨rfl, hb1⟩)
    go_ret2
    exact ⟨_, rfl, World.ownsRow_nil _ _ _ _, hb1⟩
theorem backL_row {l : List (Int × Int)} (hf : flowErr l = 0) (to : Nat) : xazZ (fun pc => comes l to pc) l.length = (backL l to).map Int.ofNat := by
  rw [xhlZ (q := fun pc => goesOn l pc to) (fun k _ => comes_eq hf to k)]
  rfl
theorem xhzZ (l : List (Int × Int)) (pc : Int) (v : Value) (w : World) (h : OpsAt w v l) : Calls Tryz.prog 34 #[v, .int .i64 pc] w fun e w' => ∃ u, e = .returned (.tuple #[u, .int .i64 (xclZ l pc)]) ∧ w'.ownsRow w.heap.size 3 1 u (backR l pc).length ((backR l pc).map (Value.int .i64)) ∧ Below w.heap.size w w' := by
  have h' := h
  obtain ⟨p, cap, rfl, hm, hc⟩ := h'
  unfold maxLen at hm
  clear hc
  obtain ⟨W1, hW1⟩ : ∃ W1, (w.alloc (.cells #[.slice p l.length cap] 26)).alloc (.cells #[.int .i64 pc] 3) = W1 := ⟨_, rfl⟩
  have hB1 : Below w.heap.size w W1 := by rw [← hW1]; exact ((Below.refl _ w).alloc (Nat.le_refl _) _).alloc (by simp) _
  have q0 : W1.heap[w.heap.size]? = some (.cells #[.slice p l.length cap] 26 (0, 0)) := by rw [← hW1]; exact xaeZ (World.alloc_heap_new w _) _
  have q1 : W1.heap[w.heap.size + 1]? = some (.cells #[.int .i64 pc] 3 (0, 0)) := by rw [← hW1]; exact xa3Z _ _ _
  have c0 : W1.cell? ⟨w.heap.size, 0, none⟩ = some (.slice p l.length cap) := by have := xaaZ q0 0; simpa using this
  have c1 : W1.cell? ⟨w.heap.size + 1, 0, none⟩ = some (.int .i64 pc) := by have := xaaZ q1 0; simpa using this
  have l0 := xabZ q0
  have l1 := xabZ q1
  have h1 := h.below hB1
  have hbox : BackBox W1 w.heap.size (w.heap.size + 1) l pc := ⟨⟨_, l0, c0, h1⟩, l1, c1⟩
  have Q0 := hideP q0
  have Q1 := hideP q1
  clear q0 q1
  by_cases hf : flowErr l = 0
  · have h40 := xb7Z hf
    have hck : ∀ W : World, OpsAt W (.slice p l.length cap) l → Calls Tryz.prog 35 #[.slice p l.length cap] W fun e w' => e = .returned (.int .i64 0) ∧ Below W.heap.size W w' := by
      intro W hW
      have := xbtZ l _ W hW
      rw [hf] at this
      exact this
    have HCK := hideP hck
    clear hck
    by_cases hp : 0 ≤ pc ∧ pc ≤ (l.length : Int)
    · obtain ⟨k, rfl⟩ : ∃ k : Nat, pc = k := ⟨pc.toNat, by omega⟩
      have he : xclZ l k = 0 := by rw [xclZ, if_neg (by simp [hf]), if_neg (by omega)]
      have hr : backR l k = xazZ (fun pc => comes l k pc) l.length := by rw [backR, if_pos he, backL_row hf]; rfl
      rw [he, hr]
      obtain ⟨RR, hRR⟩ : ∃ RR, xazZ (fun pc => comes l (k : Int) pc) l.length = RR := ⟨_, rfl⟩
      have hpl : ∀ W : World, BackBox W w.heap.size (w.heap.size + 1) l (k : Int) → Calls Tryz.prog 39 #[.int .i64 l.length, .func (.func 65) #[] #[.pointer (some ⟨w.heap.size, 0, none⟩), .pointer (some ⟨w.heap.size + 1, 0, none⟩)]] W fun e w' => ∃ v, e = .returned v ∧ w'.ownsRow W.heap.size 3 1 v RR.length (RR.map (Value.int .i64)) ∧ Below W.heap.size W w' := by
        intro W hW
        have := xgvZ l (k : Int) l.length _ _ W rfl h40 hW
        rw [hRR] at this
        exact this
      have HPL := hideP hpl
      rw [hRR]
      clear hf he hr hRR hpl
      cases hq : isAt l.length (k : Int)
      · have hk : (k : Int) = (l.length : Int) := by simp [isAt] at hq; omega
        have hk' : ((k : Int) != (l.length : Int)) = false := by simp; omega
        have HK := hideP hk
        clear hk
        go_enter Tryz.func34, Tryz.ntmps34
        go_wp2_with (first
          | (go_at_call 35; refine (HCK.out _ h1).mono ?_; rintro e w2 ⟨rfl, hb2⟩; have h2 := h1.below hb2; have d0 := (hb2.cell (p := ⟨w.heap.size, 0, none⟩) l0).trans c0; have d1 := (hb2.cell (p := ⟨w.heap.size + 1, 0, none⟩) l1).trans c1; have hbox2 := hbox.below hb2)
          | (go_at_call 37; refine (xbqZ (k : Int) l _ _ h2).mono ?_; rw [hq]; rintro e w3 ⟨rfl, hw3⟩; have hw3 := hw3.symm; subst hw3)
          | (go_at_call 39; refine (HPL.out _ hbox2).mono ?_; rintro e w4 ⟨v4, rfl, hr4, hb4⟩; have HR4 := hideP hr4; clear hr4))
        go_ret2
        exact ⟨_, rfl, xa2Z HR4.out (Nat.le_trans hB1.size hb2.size), (hB1.trans (hb2.mono hB1.size)).trans (hb4.mono (Nat.le_trans hB1.size hb2.size))⟩
      · go_enter Tryz.func34, Tryz.ntmps34
        go_wp2_with (first
          | (go_at_call 35; refine (HCK.out _ h1).mono ?_; rintro e w2 ⟨rfl, hb2⟩; have h2 := h1.below hb2; have d0 := (hb2.cell (p := ⟨w.heap.size, 0, none⟩) l0).trans c0; have d1 := (hb2.cell (p := ⟨w.heap.size + 1, 0, none⟩) l1).trans c1; have hbox2 := hbox.below hb2)
          | (go_at_call 37; refine (xbqZ (k : Int) l _ _ h2).mono ?_; rw [hq]; rintro e w3 ⟨rfl, hw3⟩; have hw3 := hw3.symm; subst hw3)
          | (go_at_call 39; refine (HPL.out _ hbox2).mono ?_; rintro e w4 ⟨v4, rfl, hr4, hb4⟩; have HR4 := hideP hr4; clear hr4))
        go_ret2
        exact ⟨_, rfl, xa2Z HR4.out (Nat.le_trans hB1.size hb2.size), (hB1.trans (hb2.mono hB1.size)).trans (hb4.mono (Nat.le_trans hB1.size hb2.size))⟩
    · have hq : isAt l.length pc = false := by simp [isAt]; omega
      have hne : (pc != (l.length : Int)) = true := by simp; omega
      have he : xclZ l pc = 3 := by rw [xclZ, if_neg (by simp [hf]), if_pos (by omega)]
      have hr : backR l pc = [] := by rw [backR, if_neg (by rw [he]; decide)]
      rw [he, hr]
      clear hf he hr hp
      go_enter Tryz.func34, Tryz.ntmps34
      go_wp2_with (first
        | (go_at_call 35; refine (HCK.out _ h1).mono ?_; rintro e w2 ⟨rfl, hb2⟩; have h2 := h1.below hb2; have d0 := (hb2.cell (p := ⟨w.heap.size, 0, none⟩) l0).trans c0; have d1 := (hb2.cell (p := ⟨w.heap.size + 1, 0, none⟩) l1).trans c1)
        | (go_at_call 37; refine (xbqZ pc l _ _ h2).mono ?_; rw [hq]; rintro e w3 ⟨rfl, hw3⟩; have hw3 := hw3.symm; subst hw3))
      go_ret2
      exact ⟨_, rfl, World.ownsRow_nil _ _ _ _, hB1.trans (hb2.mono hB1.size)⟩
  · have he : xclZ l pc = flowErr l := by rw [xclZ, if_pos hf]
    have hr : backR l pc = [] := by rw [backR, if_neg (by rw [he]; exact hf)]
    rw [he, hr]
    have hf' : (flowErr l != 0) = true := by simp [hf]
    clear he hr hf
    go_enter Tryz.func34, Tryz.ntmps34
    go_wp2_with (go_at_call 35; refine (xbtZ l _ _ h1).mono ?_; rintro e w2 ⟨rfl, hb2⟩)
    go_ret2
    exact ⟨_, rfl, World.ownsRow_nil _ _ _ _, hB1.trans (hb2.mono hB1.size)⟩
end Go.Proofs.YtgmkmlenhhhgkaaGreat


/- flow.Reach: the closure that visits. -/
namespace Go.Proofs.YtgmkmlenhhhgkaaGreat
open Go.RowKit
set_option linter.unusedSimpArgs false
set_option linter.unusedVariables false
def cf : List Bool → Nat
  | [] => 0
  | b :: r => (if b = true then 0 else 1) + cf r
theorem cf_set : ∀ (M : List Bool) (k : Nat), M[k]? = some false → cf (M.set k true) + 1 = cf M
  | [], k, h => by simp at h
  | b :: r, 0, h => by simp at h; subst h; simp [cf]; omega
  | b :: r, k + 1, h => by
    have := cf_set r k (by simpa using h)
    simp only [List.set_cons_succ, cf]
    omega
theorem cf_mono : ∀ (M M' : List Bool), M'.length = M.length → (∀ x, M.getD x false = true → M'.getD x false = true) → cf M' ≤ cf M
  | [], M', h, _ => by
    have : M' = [] := List.eq_nil_of_length_eq_zero (by simpa using h)
    subst this; simp [cf]
  | b :: r, [], h, _ => by simp at h
  | b :: r, c :: s, h, hx => by
    have := cf_mono r s (by simpa using h) (fun x hxx => by have := hx (x + 1) (by simpa using hxx); simpa using this)
    have h0 := hx 0
    simp at h0
    simp only [cf]
    cases b <;> cases c <;> simp_all <;> omega
theorem getD_set (M : List Bool) (k x : Nat) (hk : k < M.length) : (M.set k true).getD x false = if x = k then true else M.getD x false := by
  by_cases h : x = k
  · subst h; simp [List.getD_eq_getElem?_getD, hk]
  · rw [if_neg h, List.getD_eq_getElem?_getD, List.getD_eq_getElem?_getD, List.getElem?_set_ne (fun e => h e.symm)]
structure Grew (l : List (Int × Int)) (M M' : List Bool) : Prop where
  len : M'.length = M.length
  more : ∀ x, M.getD x false = true → M'.getD x false = true
  come : ∀ x, M'.getD x false = true → M.getD x false = true ∨ Come l x
  shut : ∀ x y, M'.getD x false = true → M.getD x false = false → goesOn l x y = true → M'.getD y false = true
theorem Grew.refl (l : List (Int × Int)) (M : List Bool) : Grew l M M := ⟨rfl, fun _ h => h, fun _ h => .inl h, fun x y h1 h2 => by rw [h1] at h2; cases h2⟩
theorem Grew.trans {l : List (Int × Int)} {M M' M'' : List Bool} (h : Grew l M M') (k : Grew l M' M'') : Grew l M M'' := by
  refine ⟨k.len.trans h.len, fun x hx => k.more x (h.more x hx), fun x hx => ?_, fun x y h1 h2 h3 => ?_⟩
  · rcases k.come x hx with h1 | h1
    · exact h.come x h1
    · exact .inr h1
  · cases hm : M'.getD x false
    · exact k.shut x y h1 hm h3
    · exact k.more y (h.shut x y hm h2 h3)
structure Vis (W0 w : World) (v : Value) (l : List (Int × Int)) (bR bC bV R : Nat) (M : List Bool) : Prop where
  bel : Below W0.heap.size W0 w
  hR : w.heap[R]? = some (.cells (M.map Value.bool).toArray 4 (0, 0))
  hbR : w.heap[bR]? = some (.cells #[.slice (some ⟨R, 0, none⟩) M.length M.length] 69 (0, 0))
  hbC : w.heap[bC]? = some (.cells #[v] 26 (0, 0))
  hbV : w.heap[bV]? = some (.cells #[.func (.func 36) #[] #[.pointer (some ⟨bR, 0, none⟩), .pointer (some ⟨bC, 0, none⟩), .pointer (some ⟨bV, 0, none⟩)]] 70 (0, 0))
theorem Vis.kept {W0 w w' : World} {v : Value} {l : List (Int × Int)} {bR bC bV R : Nat} {M : List Bool} (h : Vis W0 w v l bR bC bV R M) (hb : Below w.heap.size w w') : Vis W0 w' v l bR bC bV R M :=
  ⟨h.bel.trans (hb.mono h.bel.size), (hb.block _ (xabZ h.hR)).trans h.hR, (hb.block _ (xabZ h.hbR)).trans h.hbR, (hb.block _ (xabZ h.hbC)).trans h.hbC, (hb.block _ (xabZ h.hbV)).trans h.hbV⟩
theorem xd0Z {M : List Bool} {k : Nat} {b : Bool} (h : M[k]? = some b) : (M.map Value.bool).toArray[k]? = some (.bool b) := by
  simp [h]
theorem xg9Z (M : List Bool) (k : Nat) : (M.map Value.bool).toArray.setIfInBounds k (.bool true) = ((M.set k true).map Value.bool).toArray := by
  apply Array.ext'
  simp
theorem Vis.mark {W0 w : World} {v : Value} {l : List (Int × Int)} {bR bC bV R : Nat} {M : List Bool} (h : Vis W0 w v l bR bC bV R M) (hR0 : W0.heap.size ≤ R) (k : Nat) : Vis W0 (w.setCell ⟨R, k, none⟩ (.bool true)) v l bR bC bV R (M.set k true) := by
  have n1 : bR ≠ R := fun e => by have := h.hbR; rw [e, h.hR] at this; simp at this
  have n2 : bC ≠ R := fun e => by have := h.hbC; rw [e, h.hR] at this; simp at this
  have n3 : bV ≠ R := fun e => by have := h.hbV; rw [e, h.hR] at this; simp at this
  refine ⟨h.bel.setCell hR0 _, ?_, ?_, ?_, ?_⟩
  · have := heap_setCell_same w R k _ _ (.bool true) h.hR
    rw [xg9Z] at this
    exact this
  · rw [heap_setCell_other w _ _ _ (by simpa using n1), h.hbR]; simp
  · rw [heap_setCell_other w _ _ _ (by simpa using n2), h.hbC]
  · rw [heap_setCell_other w _ _ _ (by simpa using n3), h.hbV]
theorem xbbZ (w : World) (a : Addr) (u : Value) : w.grownBy (w.setCell a u) (some a.block) :=
  ⟨rfl, rfl, rfl, by simp [World.setCell], fun k hk hne => Below.heap_setCell _ _ _ _ (fun e => hne (by rw [e]))⟩
theorem xfmZ {w w' : World} (h : Below w.heap.size w w') (row : Option Nat) : w.grownBy w' row := ⟨h.os, h.tape, h.output, h.size, fun k hk _ => h.block k hk⟩
def VisP (W0 : World) (v : Value) (l : List (Int × Int)) (bR bC bV R : Nat) (M : List Bool) (k : Nat) (w : World) (e : Ending) (w' : World) : Prop :=
  e = .returned (.tuple #[]) ∧ ∃ M', Vis W0 w' v l bR bC bV R M' ∧ w.grownBy w' (some R) ∧ Grew l M M' ∧ M'.getD k false = true
theorem xffZ (W0 : World) (v : Value) (l : List (Int × Int)) (bR bC bV R : Nat) (M : List Bool) (k : Nat) (w : World) (h41 : M.length ≤ 41) (hM : M[k]? = some true) (hv : Vis W0 w v l bR bC bV R M) :
    Calls Tryz.prog 36 #[.int .i64 k, .pointer (some ⟨bR, 0, none⟩), .pointer (some ⟨bC, 0, none⟩), .pointer (some ⟨bV, 0, none⟩)] w (VisP W0 v l bR bC bV R M k w) := by
  have hk := xauZ hM
  have c1 := xaaZ hv.hbR 0
  have c2 : w.cell? ⟨R, k, none⟩ = some (.bool true) := (xaaZ hv.hR k).trans (xd0Z hM)
  simp at c1
  have hlti : (k : Int) < (M.length : Int) := by omega
  have HV := hideP hv
  have HM := hideP hM
  clear hv hM
  go_enter Tryz.func36, Tryz.ntmps36
  go_wp2
  refine bodyPost_ret (v := .tuple #[]) (by simp [results, Tryz.results36, go_sem]) rfl ?_
  exact ⟨rfl, M, HV.out, World.grownBy.refl _ _, Grew.refl _ _, by rw [List.getD_eq_getElem?_getD, HM.out]; rfl⟩
theorem xg2Z {l : List (Int × Int)} {M M' : List Bool} {k : Nat} (hk : M[k]? = some false) (hc : Come l k) (h : Grew l (M.set k true) M') (hs : ∀ y, goesOn l k y = true → M'.getD y false = true) : Grew l M M' ∧ M'.getD k false = true := by
  have hlt := xauZ hk
  have hg := fun x => getD_set M k x hlt
  have hkk : M'.getD k false = true := h.more k (by rw [hg, if_pos rfl])
  refine ⟨⟨h.len.trans (by simp), fun x hx => h.more x ?_, fun x hx => ?_, fun x y h1 h2 h3 => ?_⟩, hkk⟩
  · rw [hg]; split
    · rfl
    · exact hx
  · rcases h.come x hx with h1 | h1
    · rw [hg] at h1
      by_cases e : x = k
      · subst e; exact .inr hc
      · rw [if_neg e] at h1; exact .inl h1
    · exact .inr h1
  · by_cases e : x = k
    · subst e; exact hs y h3
    · exact h.shut x y h1 (by rw [hg, if_neg e]; exact h2) h3
theorem visit_any (W0 : World) (v : Value) (l : List (Int × Int)) (bR bC bV R : Nat) (hl : OpsAt W0 v l) (hf : flowErr l = 0) (hR0 : W0.heap.size ≤ R) (n : Nat) :
    ∀ (M : List Bool) (k : Nat) (w : World), cf M ≤ n → M.length = l.length + 1 → k < M.length → Come l k → Vis W0 w v l bR bC bV R M →
      Calls Tryz.prog 36 #[.int .i64 k, .pointer (some ⟨bR, 0, none⟩), .pointer (some ⟨bC, 0, none⟩), .pointer (some ⟨bV, 0, none⟩)] w (VisP W0 v l bR bC bV R M k w) := by
  have h40 := xb7Z hf
  induction n with
  | zero =>
    intro M k w hn hlen hk hcome hv
    have hM : M[k]? = some true := by
      obtain ⟨b, hb⟩ := xagZ hk
      cases b
      · have := cf_set M k hb; omega
      · exact hb
    exact xffZ W0 v l bR bC bV R M k w (by omega) hM hv
  | succ n ih =>
    intro M k w hn hlen hk hcome hv
    obtain ⟨b, hM⟩ := xagZ hk
    cases b with
    | true => exact xffZ W0 v l bR bC bV R M k w (by omega) hM hv
    | false =>
      have hcf := cf_set M k hM
      have c1 := xaaZ hv.hbR 0
      have c2 : w.cell? ⟨R, k, none⟩ = some (.bool false) := (xaaZ hv.hR k).trans (xd0Z hM)
      have z2 := Lib.frozen_of_heap hv.hR k
      have hv1 := hv.mark hR0 k
      obtain ⟨w1, hw1⟩ : ∃ w1, w.setCell ⟨R, k, none⟩ (.bool true) = w1 := ⟨_, rfl⟩
      rw [hw1] at hv1
      have hg1 : w.grownBy w1 (some R) := by rw [← hw1]; exact xbbZ _ _ _
      have d1 := xaaZ hv1.hbC 0
      have hl1 := hl.below hv1.bel
      simp at c1 d1 z2
      have hlti : (k : Int) < (M.length : Int) := by omega
      have HV := hideP hv
      have HV1 := hideP hv1
      have HM := hideP hM
      have IH := hideP ih
      clear hv hv1 hM ih
      by_cases hlt : k < l.length
      · have hq : isAt l.length (k : Int) = true := by simp [isAt]; omega
        obtain ⟨⟨c, a⟩, ho⟩ := xagZ hlt
        have hl' := hl1
        obtain ⟨p, q, rfl, hm, hc⟩ := hl'
        obtain ⟨b, off, rfl, hbl, g0, g1⟩ := hc k _ ho
        simp only at g0 g1
        unfold maxLen at hm
        have hlti2 : (k : Int) < (l.length : Int) := by omega
        have hnx := xfuZ hf ho
        obtain ⟨L, hL⟩ : ∃ L, nextI c a k = L := ⟨_, rfl⟩
        have hx1 : ∀ W : World, Calls Tryz.prog 38 #[.agg #[.int .i64 c, .int .i64 a], .int .i64 k] W fun e w' => ∃ v, e = .returned v ∧ w'.ownsRow W.heap.size 3 1 v L.length (L.map (Value.int .i64)) ∧ Below W.heap.size W w' := by
          intro W; rw [← hL]; exact xdeZ c a k W (by omega)
        rw [hL] at hnx
        have HX1 := hideP hx1
        have HO := hideP ho
        have HNX := hideP hnx
        clear hc ho hnx hx1 hL
        go_enter Tryz.func36, Tryz.ntmps36
        go_wp2_with (first
          | (go_at_call 37; refine (xbqZ (k : Int) l _ _ hl1).mono ?_; rw [hq]; rintro e w2 ⟨rfl, hw2⟩; have hw2 := hw2.symm; subst hw2)
          | (go_at_call 38; refine (HX1.out _).mono ?_; rintro e w3 ⟨v3, rfl, hr3, hb3⟩; obtain ⟨p3, q3, rfl⟩ := xahZ hr3; have HR3 := hideP hr3; clear hr3))
        have hv3 := HV1.out.kept hb3
        have hLl : L.length ≤ 41 := by
          rw [HNX.out]
          have := List.length_filter_le (goesOn l k) (List.range (l.length + 1))
          simp [nextL] at *
          omega
        have hLz : ∀ z ∈ L, ∃ y : Nat, z = (y : Int) ∧ goesOn l k y = true := by
          intro z hz
          rw [HNX.out] at hz
          obtain ⟨y, h1, rfl⟩ := List.mem_map.1 hz
          exact ⟨y, rfl, (xdtZ (xa4Z hf).2.2).1 h1⟩
        have hLy : ∀ y : Nat, goesOn l k y = true → (y : Int) ∈ L := by
          intro y hy
          rw [HNX.out]
          exact List.mem_map.2 ⟨y, (xdtZ (xa4Z hf).2.2).2 hy, rfl⟩
        have HLZ := hideP hLz
        have HLY := hideP hLy
        have hRlt : R < w1.heap.size := xabZ HV1.out.hR
        have hrne : Value.ownBlock (.slice p3 L.length q3) ≠ some R := fun e => by
          have := (HR3.out.lt R e).1
          omega
        clear hLz hLy
        go_loopw [6, 25] (fun _ i wr => ∃ (j : Nat) (Mj : List Bool), j ≤ L.length ∧ i = .int .i64 j ∧ Vis W0 wr (.slice (some ⟨b, off, none⟩) l.length q) l bR bC bV R Mj ∧ w3.grownBy wr (some R) ∧ Grew l (M.set k true) Mj ∧ ∀ i z, i < j → L[i]? = some z → Mj.getD z.toNat false = true) (fun _ i _ => L.length - (intOf i).toNat)
        case atStart => exact ⟨0, _, Nat.zero_le _, rfl, hv3, World.grownBy.refl _ _, Grew.refl _ _, fun i z hi => by omega⟩
        case round =>
          rename World => w4
          obtain ⟨j, Mj, hj, rfl, hv4, hg4, hgr, hin⟩ := hrel
          have HIN := hideP hin
          clear hin
          by_cases hjl : j < L.length
          · obtain ⟨z, hz⟩ := xagZ hjl
            have hI4 := xaqZ rfl (HR3.out.kept hg4 (.inr hrne))
            obtain ⟨p5, cap5, he5, hm5, hc5⟩ := hI4
            obtain ⟨b5, o5, hp5, hb5, g5⟩ := hc5 j z hz
            cases he5
            subst hp5
            obtain ⟨y, rfl, hy⟩ := HLZ.out z (List.mem_of_getElem? hz)
            have hyl := xcrZ (xa4Z hf).2.2 hy
            have e4 := xaaZ hv4.hbV 0
            simp at e4
            have hlti5 : (j : Int) < (L.length : Int) := by omega
            have hih := IH.out Mj y w4 (by have := cf_mono _ _ hgr.len hgr.more; omega) (by rw [hgr.len]; simpa using hlen) (by rw [hgr.len]; simp; omega) (Come.step hcome hy) hv4
            have HIH := hideP hih
            have HZ := hideP hz
            have HV4 := hideP hv4
            clear hih hc5 hz hv4
            go_wp2_with (go_at_call 36; refine HIH.out.mono ?_; rintro e w5 ⟨rfl, M5, hv5, hg5, hgr5, hk5⟩)
            go_roundw
            case rel =>
              refine ⟨j + 1, M5, by omega, by go_num, hv5, hg4.trans hg5, hgr.trans hgr5, fun i z hi hz => ?_⟩
              rcases Nat.lt_succ_iff_lt_or_eq.1 hi with h | rfl
              · exact hgr5.more _ (HIN.out i z h hz)
              · rw [HZ.out] at hz
                cases hz
                simpa using hk5
            case measure => simp [intOf]; omega
          · have hjl' : ¬ (j : Int) < (L.length : Int) := by omega
            have HV4 := hideP hv4
            clear hv4
            go_wp2
            refine bodyPost_ret (v := .tuple #[]) (by simp [results, Tryz.results36, go_sem]) rfl ?_
            have hall : ∀ y, goesOn l k y = true → Mj.getD y false = true := by
              intro y hy
              obtain ⟨i, hi⟩ := List.getElem?_of_mem (HLY.out y hy)
              have := HIN.out i _ (by have := xauZ hi; omega) hi
              simpa using this
            have := xg2Z HM.out hcome hgr hall
            exact ⟨rfl, Mj, HV4.out, (hg1.trans (xfmZ hb3 _)).trans hg4, this.1, this.2⟩
      · have hq : isAt l.length (k : Int) = false := by simp [isAt]; omega
        go_enter Tryz.func36, Tryz.ntmps36
        go_wp2_with (go_at_call 37; refine (xbqZ (k : Int) l _ _ hl1).mono ?_; rw [hq]; rintro e w2 ⟨rfl, hw2⟩; have hw2 := hw2.symm; subst hw2)
        refine bodyPost_ret (v := .tuple #[]) (by simp [results, Tryz.results36, go_sem]) rfl ?_
        have := xg2Z HM.out hcome (Grew.refl l _) (fun y hy => absurd (xg1Z hy) hlt)
        exact ⟨rfl, _, HV1.out, hg1, this.1, this.2⟩
end Go.Proofs.YtgmkmlenhhhgkaaGreat


/- flow.Reach. -/
namespace Go.Proofs.YtgmkmlenhhhgkaaGreat
open Go.RowKit
set_option linter.unusedSimpArgs false
set_option linter.unusedVariables false
noncomputable def xboZ (l : List (Int × Int)) : List Int := if flowErr l = 0 then (xa9Z l).map Int.ofNat else []
theorem infoBool : (Tryz.prog.info? 4).map (fun i => (i.zero, i.size, i.bytes)) = some (some (.bool false), 1, 1) := by kernel_rfl
theorem xgcZ (n : Nat) : (madeCells (Value.bool false).cells (n * 1)).toList = (List.replicate n false).map Value.bool := by
  have h : (Value.bool false).cells = #[.bool false] := rfl
  rw [h]
  apply List.ext_getElem?
  intro k
  by_cases hk : k < n
  · simp [madeCells, hk, Nat.mod_one]
  · simp [madeCells, hk]
theorem grew_reach {l : List (Int × Int)} {M : List Bool} (h : Grew l (List.replicate (l.length + 1) false) M) (h0 : M.getD 0 false = true) : xazZ (fun pc => M.getD pc false) M.length = (xa9Z l).map Int.ofNat := by
  have hn : ∀ x, (List.replicate (l.length + 1) false).getD x false = false := by
    intro x
    rw [List.getD_eq_getElem?_getD, List.getElem?_replicate]
    split <;> rfl
  have hlen : M.length = l.length + 1 := by rw [h.len]; simp
  rw [hlen]
  unfold xazZ
  rw [xfaZ (code := l) (fun pc => M.getD pc false) h0 (fun x hx => ?_) (fun pc to hp hg => h.shut pc to hp (hn pc) hg)]
  rcases h.come x hx with h1 | h1
  · rw [hn] at h1; cases h1
  · exact h1
theorem vis_box {W0 w : World} {v : Value} {l : List (Int × Int)} {bR bC bV R : Nat} {M : List Bool} (h : Vis W0 w v l bR bC bV R M) : ReachBox w bR R M :=
  ⟨xabZ h.hbR, xabZ h.hR, by have := xaaZ h.hbR 0; simpa using this, fun k b hk => (xaaZ h.hR k).trans (xd0Z hk)⟩
theorem row_full {w : World} {base : Nat} {e : TypeId} {R n : Nat} {xs : List Value} (h : w.ownsRow base e 1 (.slice (some ⟨R, 0, none⟩) n n) n xs) (hx : xs.length = n) : w.heap[R]? = some (.cells xs.toArray e (0, 0)) := by
  rcases h.2 with ⟨h1, _⟩ | ⟨g, cap, cur, hv, hb, hg, hn, hc, hs, ht⟩
  · cases h1
  · cases hv
    rw [hg]
    have : cur.toList = xs := by rw [← ht, List.take_of_length_le (by simp; omega)]
    rw [← this]
theorem xjhZ {w w2 w3 : World} {v : Value} {l : List (Int × Int)} (h : OpsAt w v l) (hB : Below w.heap.size w w2) (hC : w2.heap[w.heap.size]? = some (.cells #[v] 26 (0, 0))) (hown : w3.ownsRow w2.heap.size 4 1 (.slice (some ⟨w2.heap.size, 0, none⟩) (l.length + 1) (l.length + 1)) (l.length + 1) (madeCells (Value.bool false).cells ((l.length + 1) * 1)).toList) (hg : w2.grownBy w3 none) :
    ∃ W5, (w3.alloc (.cells #[.slice (some ⟨w2.heap.size, 0, none⟩) (l.length + 1) (l.length + 1)] 69)).alloc (.cells #[.func (.func 36) #[] #[.pointer (some ⟨w3.heap.size, 0, none⟩), .pointer (some ⟨w.heap.size, 0, none⟩), .pointer (some ⟨w3.heap.size + 1, 0, none⟩)]] 70) = W5 ∧ Vis w W5 v l w3.heap.size w.heap.size (w3.heap.size + 1) w2.heap.size (List.replicate (l.length + 1) false) ∧ W5.cell? ⟨w3.heap.size, 0, none⟩ = some (.slice (some ⟨w2.heap.size, 0, none⟩) (l.length + 1) (l.length + 1)) ∧ W5.cell? ⟨w3.heap.size + 1, 0, none⟩ = some (.func (.func 36) #[] #[.pointer (some ⟨w3.heap.size, 0, none⟩), .pointer (some ⟨w.heap.size, 0, none⟩), .pointer (some ⟨w3.heap.size + 1, 0, none⟩)]) := by
  refine ⟨_, rfl, ?_⟩
  rw [xgcZ] at hown
  have hR := row_full hown (by simp)
  have hB3 : Below w.heap.size w w3 := hB.grown hg hB.size (fun k hk => by cases hk)
  have a := xaeZ (World.alloc_heap_new w3 (.cells #[.slice (some ⟨w2.heap.size, 0, none⟩) (l.length + 1) (l.length + 1)] 69)) (.cells #[.func (.func 36) #[] #[.pointer (some ⟨w3.heap.size, 0, none⟩), .pointer (some ⟨w.heap.size, 0, none⟩), .pointer (some ⟨w3.heap.size + 1, 0, none⟩)]] 70)
  have b := xa3Z w3 (.cells #[.slice (some ⟨w2.heap.size, 0, none⟩) (l.length + 1) (l.length + 1)] 69) (.cells #[.func (.func 36) #[] #[.pointer (some ⟨w3.heap.size, 0, none⟩), .pointer (some ⟨w.heap.size, 0, none⟩), .pointer (some ⟨w3.heap.size + 1, 0, none⟩)]] 70)
  refine ⟨⟨?_, xaeZ (xaeZ hR _) _, by simpa using a, xaeZ (xaeZ ((hg.block _ (xabZ hC) (by simp)).trans hC) _) _, b⟩, ?_, ?_⟩
  · exact (hB3.alloc hB3.size _).alloc (by have := hB3.size; simp; omega) _
  · simp
  · simp
theorem visit0_any {w W5 : World} {v : Value} {l : List (Int × Int)} {bR bC bV R : Nat} (h : OpsAt w v l) (hf : flowErr l = 0) (hR : w.heap.size ≤ R) (hvis : Vis w W5 v l bR bC bV R (List.replicate (l.length + 1) false)) :
    Calls Tryz.prog 36 #[.int .i64 0, .pointer (some ⟨bR, 0, none⟩), .pointer (some ⟨bC, 0, none⟩), .pointer (some ⟨bV, 0, none⟩)] W5 (VisP w v l bR bC bV R (List.replicate (l.length + 1) false) 0 W5) :=
  visit_any w v l bR bC bV R h hf hR (cf (List.replicate (l.length + 1) false)) _ 0 W5 (Nat.le_refl _) (by simp) (by simp) Come.zero hvis
theorem xdfZ (l : List (Int × Int)) (v : Value) (w : World) (h : OpsAt w v l) : Calls Tryz.prog 12 #[v] w fun e w' => ∃ u, e = .returned (.tuple #[u, .int .i64 (flowErr l)]) ∧ w'.ownsRow w.heap.size 3 1 u (xboZ l).length ((xboZ l).map (Value.int .i64)) ∧ Below w.heap.size w w' := by
  have h' := h
  obtain ⟨p, cap, rfl, hm, hc⟩ := h'
  unfold maxLen at hm
  clear hc
  obtain ⟨W1, hW1⟩ : ∃ W1, w.alloc (.cells #[.slice p l.length cap] 26) = W1 := ⟨_, rfl⟩
  have hB1 : Below w.heap.size w W1 := by rw [← hW1]; exact (Below.refl _ w).alloc (Nat.le_refl _) _
  have q0 : W1.heap[w.heap.size]? = some (.cells #[.slice p l.length cap] 26 (0, 0)) := by rw [← hW1]; exact World.alloc_heap_new w _
  have c0 : W1.cell? ⟨w.heap.size, 0, none⟩ = some (.slice p l.length cap) := by have := xaaZ q0 0; simpa using this
  have l0 := xabZ q0
  have h1 := h.below hB1
  have Q0 := hideP q0
  clear q0
  by_cases hf : flowErr l = 0
  · have h40 := xb7Z hf
    have hr : xboZ l = (xa9Z l).map Int.ofNat := by rw [xboZ, if_pos hf]
    rw [hf, hr]
    have hck : ∀ W : World, OpsAt W (.slice p l.length cap) l → Calls Tryz.prog 35 #[.slice p l.length cap] W fun e w' => e = .returned (.int .i64 0) ∧ Below W.heap.size W w' := by
      intro W hW
      have := xbtZ l _ W hW
      rw [hf] at this
      exact this
    have HCK := hideP hck
    have HF := hideP hf
    clear hck hf hr
    obtain ⟨i0, hi, hz0, hz1, hz2⟩ := info_parts infoBool
    have hwr : wrap64 ((l.length : Int) + 1) = (l.length : Int) + 1 := by unfold wrap64; omega
    go_enter Tryz.func12, Tryz.ntmps12
    go_wp2_with (first
      | (go_at_call 35; refine (HCK.out _ h1).mono ?_; rintro e w2 ⟨rfl, hb2⟩; have h2 := h1.below hb2; have d0 := (hb2.cell (p := ⟨w.heap.size, 0, none⟩) l0).trans c0; have Q2 := hideP ((hb2.block _ l0).trans Q0.out); have hB2 := hB1.trans (hb2.mono hB1.size))
      | (at_make; refine wpList_make_full _ rfl _ _ 69 rfl w2.heap.size 4 i0 (.bool false) 1 Tryz.underlying69 hi hz0 hz1 _ _ _ _ (l.length + 1) rfl rfl (by omega) (by omega) (by rw [hz2]; omega) (by unfold maxLen; omega) (Nat.le_refl _) ?_; intro w3 hown3 hg3; obtain ⟨W5, hW5, hvis, c5, c6⟩ := xjhZ h hB2 Q2.out hown3 hg3)
      | (go_at_call 36; refine (visit0_any h HF.out hB2.size hvis).mono ?_; rintro e w6 ⟨rfl, M6, hv6, hg6, hgr6, hk6⟩; have hbx := vis_box hv6; have c7 := hbx.2.2.1; have hpl := hideP (grew_reach hgr6 hk6); have h41 : M6.length ≤ 41 := by { have := hgr6.len; simp at this; omega }; have HG := hideP hgr6; clear hgr6)
      | (go_at_call 39; refine (xggZ M6 M6.length _ _ _ rfl h41 hbx).mono ?_; rw [hpl.out]; rintro e w7 ⟨v7, rfl, hr7, hb7⟩; have HR7 := hideP hr7; clear hr7))
    go_ret2
    have hs6 : w.heap.size ≤ w6.heap.size := hv6.bel.size
    exact ⟨_, rfl, xa2Z HR7.out hs6, hv6.bel.trans (hb7.mono hs6)⟩
  · have hr : xboZ l = [] := by rw [xboZ, if_neg hf]
    rw [hr]
    have hf' : (flowErr l != 0) = true := by simp [hf]
    clear hr hf
    go_enter Tryz.func12, Tryz.ntmps12
    go_wp2_with (go_at_call 35; refine (xbtZ l _ _ h1).mono ?_; rintro e w2 ⟨rfl, hb2⟩)
    go_ret2
    exact ⟨_, rfl, World.ownsRow_nil _ _ _ _, hB1.trans (hb2.mono hB1.size)⟩
end Go.Proofs.YtgmkmlenhhhgkaaGreat


/- Plain functions on types that stand for others (chapter 4), ahead of stage 2: Join, and its laws. -/
namespace Go.Proofs.YtgmkmlenhhhgkaaGreat
open Go.RowKit
set_option linter.unusedSimpArgs false
set_option linter.unusedVariables false
def xalZ (t other : Int) : Bool := decide (t = other) || (decide (t = 3) && decide (other = 2))
def joinT (a b : Int) : Option Int := if a = b then some a else if (a = 2 ∧ b = 3) ∨ (a = 3 ∧ b = 2) then some 2 else none
def joinL : List Int → List Int → Option (List Int)
  | [], [] => some []
  | a :: r, b :: q => (joinT a b).bind fun t => (joinL r q).map fun l => t :: l
  | _, _ => none
def xawZ (t : Int) : Bool := decide (1 ≤ t) && decide (t ≤ 3)
def xbdZ (a b : List Int) : Int := if (a ++ b).any (fun t => !xawZ t) = true then 6 else if 8 < a.length ∨ 8 < b.length then 2 else if (joinL a b).isNone = true then 4 else 0
theorem joinT_same (a : Int) : joinT a a = some a := by simp [joinT]
theorem xh8Z {a b t : Int} (h : joinT a b = some t) : xalZ a t = true ∧ xalZ b t = true := by
  unfold joinT at h
  by_cases h1 : a = b
  · rw [if_pos h1] at h; cases h; subst h1; simp [xalZ]
  · rw [if_neg h1] at h
    by_cases h2 : (a = 2 ∧ b = 3) ∨ (a = 3 ∧ b = 2)
    · rw [if_pos h2] at h; cases h
      rcases h2 with ⟨rfl, rfl⟩ | ⟨rfl, rfl⟩ <;> decide
    · rw [if_neg h2] at h; cases h
theorem xdpZ : ∀ (a b l : List Int), joinL a b = some l → l.length = a.length ∧ a.length = b.length
  | [], [], l, h => by cases h; exact ⟨rfl, rfl⟩
  | [], _ :: _, l, h => by cases h
  | _ :: _, [], l, h => by cases h
  | a :: r, b :: q, l, h => by
    simp only [joinL] at h
    obtain ⟨t, ht, h2⟩ := Option.bind_eq_some_iff.1 h
    obtain ⟨l', hl', rfl⟩ := Option.map_eq_some_iff.1 h2
    obtain ⟨h3, h4⟩ := xdpZ r q l' hl'
    simp [h3, h4]
end Go.Proofs.YtgmkmlenhhhgkaaGreat


