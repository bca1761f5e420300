/- blocks: the leaf functions; Check. -/
import Derived.Test.YtjaklmmekmhfcaaBa
import Derived.Laws.EntriesVeiled
namespace Go.Proofs.Ytjaklmmekmhfcaa
open Go.RowKit
set_option linter.unusedSimpArgs false
set_option linter.unusedVariables false
set_option maxHeartbeats 400000 in
theorem bNumber_any (n : Int) (w : World) : Calls Try.prog 25 #[.int .i64 n] w fun e w' => e = .returned (.bool (isI32 n)) ∧ w' = w := by
  go_enter Try.func25, Try.ntmps25
  go_wp2_with (go_at_call 36; refine (wrap_any _ _).mono ?_; rintro e w' ⟨rfl, rfl⟩)
  go_ret
  exact ⟨by simp [← wrap_isI32], rfl⟩
set_option maxHeartbeats 400000 in
theorem bCheck1_any (n : Int) (w : World) : Calls Try.prog 24 #[.int .i64 n] w fun e w' => e = .returned (.bool (!isI32 n)) ∧ w' = w := by
  go_enter Try.func24, Try.ntmps24
  go_wp2_with (go_at_call 25; refine (bNumber_any _ _).mono ?_; rintro e w' ⟨rfl, rfl⟩)
  go_ret
  exact ⟨rfl, rfl⟩
set_option maxHeartbeats 400000 in
theorem bIsRef_any (L : List (List Int)) (ref : Int) (p : Option Addr) (cap : Nat) (w : World) : Calls Try.prog 31 #[.slice p L.length cap, .int .i64 ref] w fun e w' => e = .returned (.bool (refOk L.length ref)) ∧ w' = w := by
  by_cases h1 : 0 ≤ ref
  · have hd : decide (0 ≤ ref) = true := by simpa using h1
    have hd2 : decide (ref ≥ 0) = true := by simpa using h1
    go_enter Try.func31, Try.ntmps31
    go_wp2
    go_ret
    exact ⟨by simp [refOk, h1], rfl⟩
  · have hd : decide (0 ≤ ref) = false := by simpa using h1
    have hd2 : decide (ref ≥ 0) = false := by simpa using h1
    go_enter Try.func31, Try.ntmps31
    go_wp2
    go_ret
    exact ⟨by simp [refOk, hd], rfl⟩
/-- a function that has a body is entered. -/
def Ent (F : Nat) : Prop := ∀ (args : Array Value) (W : World), (callFunc F args).run Try.prog W = .ok (.enter F args) W
theorem ent_mk {F : Nat} {fn : Func} {c : Code} (hf : Try.prog.funcs[F]? = some fn) (hname : (fn.name == "runtime.NumGoroutine") = false) (hb : fn.body = some c) : Ent F := by
  intro args w
  have h1 : fn.name ≠ "runtime.NumGoroutine" := by simpa using hname
  simp [callFunc, hf, h1, hb]
/-- IndexFunc at a function whose contract is given: whether one is found. -/
theorem indexInts_gen (F : Nat) (caps : Array Value) (I : World → Prop) (q : Int → Bool) (l : List Int) (v : Value) (w : World) (h : IntsAt w v l) (hI : I w) (hkI : ∀ W W', I W → Below W.heap.size W W' → I W') (hE : Ent F)
    (hF : ∀ (z : Int) (W : World), I W → Calls Try.prog F (#[.int .i64 z] ++ caps) W fun e w' => e = .returned (.bool (!q z)) ∧ Below W.heap.size W w') :
    Calls Try.prog 38 #[v, .func (.func F) #[] caps] w fun e w' => ∃ r, e = .returned (.int .i64 r) ∧ decide (0 ≤ r) = (!l.all q) ∧ Below w.heap.size w w' := by
  obtain ⟨p, cap, rfl, hm, hc⟩ := h
  unfold maxLen at hm
  have HI := hideP hI
  have HKI := hideP hkI
  have HF := hideP hF
  have hEE := fun args W => hE args W
  clear hI hkI hF hE
  go_enter Try.func38, Try.ntmps38
  go_wp2
  go_loopw [5, 8] (fun _ i wr => ∃ k : Nat, k ≤ l.length ∧ i = .int .i64 k ∧ (∀ o ∈ l.take k, q o = true) ∧ Below w.heap.size w wr) (fun _ i _ => l.length - (intOf i).toNat)
  case atStart => exact ⟨0, Nat.zero_le _, rfl, by simp, Below.refl _ _⟩
  case round =>
    obtain ⟨k, hk, rfl, hok, hbw⟩ := hrel
    have HK := hideP hok
    have HC := hideP hc
    clear hok hc
    by_cases hlt : k < l.length
    · obtain ⟨z, ho⟩ := at_of_lt hlt
      obtain ⟨b, off, rfl, hb, h0⟩ := HC.out k _ ho
      have g0 := (hbw.cell (p := ⟨b, off + k, none⟩) hb).trans h0
      have HO := hideP ho
      have hi := hideP (HKI.out _ _ HI.out hbw)
      clear ho h0
      cases hnb : q z
      · go_wp2_with fail
        refine (HF.out z wr hi.out).mono ?_
        rw [hnb]
        rintro e w2 ⟨rfl, hb2⟩
        go_wp2
        go_ret
        exact ⟨k, rfl, by rw [all_false HO.out hnb]; simp, hbw.trans (hb2.mono hbw.size)⟩
      · go_wp2_with fail
        refine (HF.out z wr hi.out).mono ?_
        rw [hnb]
        rintro e w2 ⟨rfl, hb2⟩
        go_wp2
        go_roundw
        case rel => exact ⟨k + 1, by omega, by go_num, all_snoc HK.out HO.out hnb, hbw.trans (hb2.mono hbw.size)⟩
        case measure => simp [intOf]; omega
    · have hlt' : ¬ (k : Int) < (l.length : Int) := by omega
      go_wp2
      go_ret
      refine ⟨-1, rfl, ?_, hbw⟩
      have := HK.out
      rw [List.take_of_length_le (by omega)] at this
      rw [all_true this]; decide
set_option maxHeartbeats 1000000 in
theorem containsInts_gen (F : Nat) (caps : Array Value) (I : World → Prop) (q : Int → Bool) (l : List Int) (v : Value) (w : World) (h : IntsAt w v l) (hI : I w) (hkI : ∀ W W', I W → Below W.heap.size W W' → I W') (hE : Ent F)
    (hF : ∀ (z : Int) (W : World), I W → Calls Try.prog F (#[.int .i64 z] ++ caps) W fun e w' => e = .returned (.bool (!q z)) ∧ Below W.heap.size W w') :
    Calls Try.prog 28 #[v, .func (.func F) #[] caps] w fun e w' => e = .returned (.bool (!l.all q)) ∧ Below w.heap.size w w' := by
  go_enter Try.func28, Try.ntmps28
  go_wp2_with fail
  refine (indexInts_gen F caps I q l v _ h hI hkI hE hF).mono ?_
  rintro e w2 ⟨r, rfl, hr, hb2⟩
  have HR := hideP hr
  clear hr
  go_wp2
  go_ret
  exact ⟨by rw [← HR.out]; rfl, hb2⟩
theorem ent_check1 : Ent 24 := ent_mk Try.func24 (by kernel_rfl) rfl
theorem containsStray_any (l : List Int) (v : Value) (w : World) (h : IntsAt w v l) : Calls Try.prog 28 #[v, .func (.func 24) #[] #[]] w fun e w' => e = .returned (.bool (!l.all isI32)) ∧ Below w.heap.size w w' :=
  containsInts_gen 24 #[] (fun _ => True) isI32 l v w h trivial (fun _ _ _ _ => trivial) ent_check1 (fun z W _ => (bCheck1_any z W).mono (by rintro e w' ⟨rfl, rfl⟩; exact ⟨rfl, Below.refl _ _⟩))
set_option maxHeartbeats 1000000 in
theorem bCheck2_any (l : List Int) (v : Value) (bs : Nat) (w : World) (h : IntsAt w v l) (hb : bs < w.heap.size ∧ w.cell? ⟨bs, 0, none⟩ = some (.func (.func 24) #[] #[])) : Calls Try.prog 27 #[v, .pointer (some ⟨bs, 0, none⟩)] w fun e w' => e = .returned (.bool (!l.all isI32)) ∧ Below w.heap.size w w' := by
  obtain ⟨_, c0⟩ := hb
  obtain ⟨p, cap, hv, _, _⟩ := id h
  have H := hideP h
  clear h
  subst hv
  go_enter Try.func27, Try.ntmps27
  go_wp2_with fail
  refine (containsStray_any l _ _ H.out).mono ?_
  rintro e w2 ⟨rfl, hb2⟩
  go_wp2
  go_ret
  exact ⟨rfl, hb2⟩
/-- the same over lists of numbers. -/
theorem indexBlks_gen (F : Nat) (caps : Array Value) (I : World → Prop) (q : List Int → Bool) (l : List (List Int)) (v : Value) (w : World) (h : BlksAt w v l) (hI : I w) (hkI : ∀ W W', I W → Below W.heap.size W W' → I W') (hE : Ent F)
    (hF : ∀ (z : List Int) (u : Value) (W : World), I W → IntsAt W u z → Calls Try.prog F (#[u] ++ caps) W fun e w' => e = .returned (.bool (!q z)) ∧ Below W.heap.size W w') :
    Calls Try.prog 37 #[v, .func (.func F) #[] caps] w fun e w' => ∃ r, e = .returned (.int .i64 r) ∧ decide (0 ≤ r) = (!l.all q) ∧ Below w.heap.size w w' := by
  obtain ⟨p, cap, rfl, hm, hc⟩ := h
  unfold maxLen at hm
  have HI := hideP hI
  have HKI := hideP hkI
  have HF := hideP hF
  have hEE := fun args W => hE args W
  clear hI hkI hF hE
  go_enter Try.func37, Try.ntmps37
  go_wp2
  go_loopw [5, 8] (fun _ i wr => ∃ k : Nat, k ≤ l.length ∧ i = .int .i64 k ∧ (∀ o ∈ l.take k, q o = true) ∧ Below w.heap.size w wr) (fun _ i _ => l.length - (intOf i).toNat)
  case atStart => exact ⟨0, Nat.zero_le _, rfl, by simp, Below.refl _ _⟩
  case round =>
    obtain ⟨k, hk, rfl, hok, hbw⟩ := hrel
    have HK := hideP hok
    have HC := hideP hc
    clear hok hc
    by_cases hlt : k < l.length
    · obtain ⟨z, ho⟩ := at_of_lt hlt
      obtain ⟨b, off, c, rfl, hb, h0, h1, _, _⟩ := HC.out k _ ho
      have g0 := (hbw.cell (p := ⟨b, off + k, none⟩) hb).trans h0
      have H1 := hideP (h1.below hbw)
      obtain ⟨p1, q1, hc1, _, _⟩ := id h1
      subst hc1
      have HO := hideP ho
      have hi := hideP (HKI.out _ _ HI.out hbw)
      clear ho h0 h1
      cases hnb : q z
      · go_wp2_with fail
        refine (HF.out z _ wr hi.out H1.out).mono ?_
        rw [hnb]
        rintro e w2 ⟨rfl, hb2⟩
        go_wp2
        go_ret
        exact ⟨k, rfl, by rw [all_false HO.out hnb]; simp, hbw.trans (hb2.mono hbw.size)⟩
      · go_wp2_with fail
        refine (HF.out z _ wr hi.out H1.out).mono ?_
        rw [hnb]
        rintro e w2 ⟨rfl, hb2⟩
        go_wp2
        go_roundw
        case rel => exact ⟨k + 1, by omega, by go_num, all_snoc HK.out HO.out hnb, hbw.trans (hb2.mono hbw.size)⟩
        case measure => simp [intOf]; omega
    · have hlt' : ¬ (k : Int) < (l.length : Int) := by omega
      go_wp2
      go_ret
      refine ⟨-1, rfl, ?_, hbw⟩
      have := HK.out
      rw [List.take_of_length_le (by omega)] at this
      rw [all_true this]; decide
set_option maxHeartbeats 1000000 in
theorem containsBlks_gen (F : Nat) (caps : Array Value) (I : World → Prop) (q : List Int → Bool) (l : List (List Int)) (v : Value) (w : World) (h : BlksAt w v l) (hI : I w) (hkI : ∀ W W', I W → Below W.heap.size W W' → I W') (hE : Ent F)
    (hF : ∀ (z : List Int) (u : Value) (W : World), I W → IntsAt W u z → Calls Try.prog F (#[u] ++ caps) W fun e w' => e = .returned (.bool (!q z)) ∧ Below W.heap.size W w') :
    Calls Try.prog 26 #[v, .func (.func F) #[] caps] w fun e w' => e = .returned (.bool (!l.all q)) ∧ Below w.heap.size w w' := by
  go_enter Try.func26, Try.ntmps26
  go_wp2_with fail
  refine (indexBlks_gen F caps I q l v _ h hI hkI hE hF).mono ?_
  rintro e w2 ⟨r, rfl, hr, hb2⟩
  have HR := hideP hr
  clear hr
  go_wp2
  go_ret
  exact ⟨by rw [← HR.out]; rfl, hb2⟩
theorem ent_check2 : Ent 27 := ent_mk Try.func27 (by kernel_rfl) rfl
def StrayBox (bs : Nat) (W : World) : Prop := bs < W.heap.size ∧ W.cell? ⟨bs, 0, none⟩ = some (.func (.func 24) #[] #[])
theorem StrayBox.below {bs : Nat} {W W' : World} (h : StrayBox bs W) (hb : Below W.heap.size W W') : StrayBox bs W' := ⟨Nat.lt_of_lt_of_le h.1 hb.size, (hb.cell (p := ⟨bs, 0, none⟩) h.1).trans h.2⟩
theorem containsStrays_any (L : List (List Int)) (v : Value) (bs : Nat) (w : World) (h : BlksAt w v L) (hb : StrayBox bs w) : Calls Try.prog 26 #[v, .func (.func 27) #[] #[.pointer (some ⟨bs, 0, none⟩)]] w fun e w' => e = .returned (.bool (!L.all fun b => b.all isI32)) ∧ Below w.heap.size w w' :=
  containsBlks_gen 27 #[.pointer (some ⟨bs, 0, none⟩)] (StrayBox bs) (fun b => b.all isI32) L v w h hb (fun _ _ h hb => h.below hb) ent_check2 (fun z u W hW hu => bCheck2_any z u bs W hu hW)
set_option maxHeartbeats 1000000 in
theorem cells_any (L : List (List Int)) (v : Value) (w : World) (h : BlksAt w v L) (h8 : L.length ≤ 8) : Calls Try.prog 23 #[v] w fun e w' => e = .returned (.int .i64 (cellsN L)) ∧ w' = w := by
  obtain ⟨p, cap, rfl, hm, hc⟩ := h
  have hbd : ∀ k, cellsN (L.take k) ≤ 140737488355328 := fun k => by
    have h1 := cellsN_le L k
    have h2 := cellsN_bound L 17592186044416 fun b hb => by
      obtain ⟨j, hj⟩ := List.getElem?_of_mem hb
      obtain ⟨_, _, _, _, _, _, _, _, h⟩ := hc j b hj
      exact h
    omega
  have HBD := hideP hbd
  clear hbd hm
  go_enter Try.func23, Try.ntmps23
  go_wp2
  go_loopw [3, 5, 8] (fun s _ i wr => ∃ k : Nat, k ≤ L.length ∧ i = .int .i64 k ∧ s = .int .i64 (cellsN (L.take k)) ∧ wr = w) (fun _ _ i _ => L.length - (intOf i).toNat)
  case atStart => exact ⟨0, Nat.zero_le _, rfl, rfl, rfl⟩
  case round =>
    obtain ⟨k, hk, rfl, rfl, rfl⟩ := hrel
    have HC := hideP hc
    clear hc
    by_cases hlt : k < L.length
    · obtain ⟨z, ho⟩ := at_of_lt hlt
      obtain ⟨b, off, c, rfl, hb, h0, h1, _, h44⟩ := HC.out k _ ho
      obtain ⟨p1, q1, hc1, _, _⟩ := id h1
      subst hc1
      have hs := cellsN_take L k z ho
      have hb1 := HBD.out k
      have HS := hideP hs
      clear ho h1 hs
      generalize cellsN (L.take k) = s at *
      go_wp2
      go_roundw
      case rel => exact ⟨k + 1, by omega, by go_num, by rw [HS.out]; go_num, trivial⟩
      case measure => simp [intOf]; omega
    · have hlt' : ¬ (k : Int) < (L.length : Int) := by omega
      go_wp2
      go_ret
      exact ⟨by simp [List.take_of_length_le (show L.length ≤ k by omega)], rfl⟩
set_option maxRecDepth 100000 in
set_option maxHeartbeats 1000000 in
theorem bCheck_any (L : List (List Int)) (v : Value) (w : World) (h : BlksAt w v L) : Calls Try.prog 8 #[v] w fun e w' => e = .returned (.int .i64 (blkErr L)) ∧ Below w.heap.size w w' := by
  obtain ⟨p, cap, hv, hm, _⟩ := id h
  unfold maxLen at hm
  subst hv
  by_cases h8 : 8 < L.length
  · have h8' : (8 : Int) < (L.length : Int) := by omega
    have hd : decide ((L.length : Int) > 8) = true := by simpa using h8'
    have he : blkErr L = 2 := by unfold blkErr; rw [if_pos (.inl h8)]
    rw [he]
    clear h he
    go_enter Try.func8, Try.ntmps8
    go_wp2
    go_ret
    exact ⟨rfl, Below.refl _ _⟩
  · have h8' : ¬ (8 : Int) < (L.length : Int) := by omega
    have hd : decide ((L.length : Int) > 8) = false := by simp; omega
    have H := hideP h
    clear h
    by_cases h40 : 40 < cellsN L
    · have h40' : (40 : Int) < (cellsN L : Int) := by omega
      have he : blkErr L = 2 := by unfold blkErr; rw [if_pos (.inr h40)]
      rw [he]
      clear he
      go_enter Try.func8, Try.ntmps8
      go_wp2_with (go_at_call 23; refine (cells_any L _ _ H.out (by omega)).mono ?_; rintro e w' ⟨rfl, hw⟩; have hw := hw.symm; subst hw)
      go_ret
      exact ⟨rfl, Below.refl _ _⟩
    · have h40' : ¬ (40 : Int) < (cellsN L : Int) := by omega
      have he : blkErr L = if (L.all fun b => b.all isI32) = true then 0 else 3 := by unfold blkErr; rw [if_neg (by omega)]
      rw [he]
      clear he
      have hB := (Below.refl w.heap.size w).alloc (Nat.le_refl _) (.cells #[.func (.func 24) #[] #[]] 39)
      have hx := World.alloc_heap_new w (.cells #[.func (.func 24) #[] #[]] 39)
      have hS : StrayBox w.heap.size (w.alloc (.cells #[.func (.func 24) #[] #[]] 39)) := ⟨heap_lt hx, by rw [cell_at' hx 0]; rfl⟩
      have HS := hideP hS
      have HA := hideP (H.out.below hB)
      clear hx hS
      cases hall : (L.all fun b => b.all isI32)
      all_goals
        go_enter Try.func8, Try.ntmps8
        go_wp2_with (first | (go_at_call 23; refine (cells_any L _ _ H.out (by omega)).mono ?_; rintro e w' ⟨rfl, hw⟩; have hw := hw.symm; subst hw) | (go_at_call 26; refine (containsStrays_any L _ _ _ HA.out HS.out).mono ?_; rw [hall]; rintro e w2 ⟨rfl, hb2⟩))
        go_ret
        exact ⟨rfl, hB.trans (hb2.mono hB.size)⟩
end Go.Proofs.Ytjaklmmekmhfcaa

