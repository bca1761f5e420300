/- My texts Bb Jh Ji: what of them is needed, joined. -/
import Derived.Laws.EntriesVeiled
import Derived.Test.YtmjjkenblfndgaaGreatE4
import Derived.Test.YtmjjkenblfndgaaGreatE5
set_option maxRecDepth 100000
set_option maxHeartbeats 8000000
/- blocks: the leaf functions; Check. -/
namespace Go.Proofs.YtmjjkenblfndgaaGreat
open Go.RowKit
set_option linter.unusedSimpArgs false
set_option linter.unusedVariables false
theorem xgvZ (n : Int) (w : World) : Calls Tryz.prog 174 #[.int .i64 n] w fun e w' => e = .returned (.bool (isI32 n)) ∧ w' = w := by
  go_enter Tryz.func174, Tryz.ntmps174
  go_wp2_with (go_at_call 41; refine (xdrZ _ _).mono ?_; rintro e w' ⟨rfl, rfl⟩)
  go_ret
  exact ⟨by simp [← xhuZ], rfl⟩
theorem xo6Z (n : Int) (w : World) : Calls Tryz.prog 173 #[.int .i64 n] w fun e w' => e = .returned (.bool (!isI32 n)) ∧ w' = w := by
  go_enter Tryz.func173, Tryz.ntmps173
  go_wp2_with (go_at_call 174; refine (xgvZ _ _).mono ?_; rintro e w' ⟨rfl, rfl⟩)
  go_ret
  exact ⟨rfl, rfl⟩
theorem xhcZ (L : List (List Int)) (ref : Int) (p : Option Addr) (cap : Nat) (w : World) : Calls Tryz.prog 238 #[.slice p L.length cap, .int .i64 ref] w fun e w' => e = .returned (.bool (refOk L.length ref)) ∧ w' = w := by
  by_cases h1 : 0 ≤ ref
  · have hd : decide (0 ≤ ref) = true := by simpa using h1
    have hd2 : decide (ref ≥ 0) = true := by simpa using h1
    go_enter Tryz.func238, Tryz.ntmps238
    go_wp2
    go_ret
    exact ⟨by simp [refOk, h1], rfl⟩
  · have hd : decide (0 ≤ ref) = false := by simpa using h1
    have hd2 : decide (ref ≥ 0) = false := by simpa using h1
    go_enter Tryz.func238, Tryz.ntmps238
    go_wp2
    go_ret
    exact ⟨by simp [refOk, hd], rfl⟩
def Ent (F : Nat) : Prop := ∀ (args : Array Value) (W : World), (callFunc F args).run Tryz.prog W = .ok (.enter F args) W
theorem xchZ {F : Nat} {fn : Func} {c : Code} (hf : Tryz.prog.funcs[F]? = some fn) (hname : (fn.name == "runtime.NumGoroutine") = false) (hb : fn.body = some c) : Ent F := by
  intro args w
  have h1 : fn.name ≠ "runtime.NumGoroutine" := by simpa using hname
  simp [callFunc, hf, h1, hb]
theorem xnbZ (F : Nat) (caps : Array Value) (I : World → Prop) (q : Int → Bool) (l : List Int) (v : Value) (w : World) (h : IntsAt w v l) (hI : I w) (hkI : ∀ W W', I W → Below W.heap.size W W' → I W') (hE : Ent F)
    (hF : ∀ (z : Int) (W : World), I W → Calls Tryz.prog F (#[.int .i64 z] ++ caps) W fun e w' => e = .returned (.bool (!q z)) ∧ Below W.heap.size W w') :
    Calls Tryz.prog 177 #[v, .func (.func F) #[] caps] w fun e w' => ∃ r, e = .returned (.int .i64 r) ∧ decide (0 ≤ r) = (!l.all q) ∧ Below w.heap.size w w' := by
  obtain ⟨p, cap, rfl, hm, hc⟩ := h
  unfold maxLen at hm
  have HI := hideP hI
  have HKI := hideP hkI
  have HF := hideP hF
  have hEE := fun args W => hE args W
  clear hI hkI hF hE
  go_enter Tryz.func177, Tryz.ntmps177
  go_wp2
  go_loopw [5, 8] (fun _ i wr => ∃ k : Nat, k ≤ l.length ∧ i = .int .i64 k ∧ (∀ o ∈ l.take k, q o = true) ∧ Below w.heap.size w wr) (fun _ i _ => l.length - (intOf i).toNat)
  case atStart => exact ⟨0, Nat.zero_le _, rfl, by simp, Below.refl _ _⟩
  case round =>
    obtain ⟨k, hk, rfl, hok, hbw⟩ := hrel
    have HK := hideP hok
    have HC := hideP hc
    clear hok hc
    by_cases hlt : k < l.length
    · obtain ⟨z, ho⟩ := xagZ hlt
      obtain ⟨b, off, rfl, hb, h0⟩ := HC.out k _ ho
      have g0 := (hbw.cell (p := ⟨b, off + k, none⟩) hb).trans h0
      have HO := hideP ho
      have hi := hideP (HKI.out _ _ HI.out hbw)
      clear ho h0
      cases hnb : q z
      · go_wp2_with fail
        refine (HF.out z wr hi.out).mono ?_
        rw [hnb]
        rintro e w2 ⟨rfl, hb2⟩
        go_wp2
        go_ret
        exact ⟨k, rfl, by rw [xcvZ HO.out hnb]; simp, hbw.trans (hb2.mono hbw.size)⟩
      · go_wp2_with fail
        refine (HF.out z wr hi.out).mono ?_
        rw [hnb]
        rintro e w2 ⟨rfl, hb2⟩
        go_wp2
        go_roundw
        case rel => exact ⟨k + 1, by omega, by go_num, xc0Z HK.out HO.out hnb, hbw.trans (hb2.mono hbw.size)⟩
        case measure => simp [intOf]; omega
    · have hlt' : ¬ (k : Int) < (l.length : Int) := by omega
      go_wp2
      go_ret
      refine ⟨-1, rfl, ?_, hbw⟩
      have := HK.out
      rw [List.take_of_length_le (by omega)] at this
      rw [xc1Z this]; decide
theorem xgaZ (F : Nat) (caps : Array Value) (I : World → Prop) (q : Int → Bool) (l : List Int) (v : Value) (w : World) (h : IntsAt w v l) (hI : I w) (hkI : ∀ W W', I W → Below W.heap.size W W' → I W') (hE : Ent F)
    (hF : ∀ (z : Int) (W : World), I W → Calls Tryz.prog F (#[.int .i64 z] ++ caps) W fun e w' => e = .returned (.bool (!q z)) ∧ Below W.heap.size W w') :
    Calls Tryz.prog 140 #[v, .func (.func F) #[] caps] w fun e w' => e = .returned (.bool (!l.all q)) ∧ Below w.heap.size w w' := by
  go_enter Tryz.func140, Tryz.ntmps140
  go_wp2_with fail
  refine (xnbZ F caps I q l v _ h hI hkI hE hF).mono ?_
  rintro e w2 ⟨r, rfl, hr, hb2⟩
  have HR := hideP hr
  clear hr
  go_wp2
  go_ret
  exact ⟨by rw [← HR.out]; rfl, hb2⟩
theorem ent_check1 : Ent 173 := xchZ Tryz.func173 (by kernel_rfl) rfl
theorem xi4Z (l : List Int) (v : Value) (w : World) (h : IntsAt w v l) : Calls Tryz.prog 140 #[v, .func (.func 173) #[] #[]] w fun e w' => e = .returned (.bool (!l.all isI32)) ∧ Below w.heap.size w w' :=
  xgaZ 173 #[] (fun _ => True) isI32 l v w h trivial (fun _ _ _ _ => trivial) ent_check1 (fun z W _ => (xo6Z z W).mono (by rintro e w' ⟨rfl, rfl⟩; exact ⟨rfl, Below.refl _ _⟩))
theorem xo7Z (l : List Int) (v : Value) (bs : Nat) (w : World) (h : IntsAt w v l) (hb : bs < w.heap.size ∧ w.cell? ⟨bs, 0, none⟩ = some (.func (.func 173) #[] #[])) : Calls Tryz.prog 176 #[v, .pointer (some ⟨bs, 0, none⟩)] w fun e w' => e = .returned (.bool (!l.all isI32)) ∧ Below w.heap.size w w' := by
  obtain ⟨_, c0⟩ := hb
  obtain ⟨p, cap, hv, _, _⟩ := id h
  have H := hideP h
  clear h
  subst hv
  go_enter Tryz.func176, Tryz.ntmps176
  go_wp2_with fail
  refine (xi4Z l _ _ H.out).mono ?_
  rintro e w2 ⟨rfl, hb2⟩
  go_wp2
  go_ret
  exact ⟨rfl, hb2⟩
theorem xm6Z (F : Nat) (caps : Array Value) (I : World → Prop) (q : List Int → Bool) (l : List (List Int)) (v : Value) (w : World) (h : BlksAt w v l) (hI : I w) (hkI : ∀ W W', I W → Below W.heap.size W W' → I W') (hE : Ent F)
    (hF : ∀ (z : List Int) (u : Value) (W : World), I W → IntsAt W u z → Calls Tryz.prog F (#[u] ++ caps) W fun e w' => e = .returned (.bool (!q z)) ∧ Below W.heap.size W w') :
    Calls Tryz.prog 220 #[v, .func (.func F) #[] caps] w fun e w' => ∃ r, e = .returned (.int .i64 r) ∧ decide (0 ≤ r) = (!l.all q) ∧ Below w.heap.size w w' := by
  obtain ⟨p, cap, rfl, hm, hc⟩ := h
  unfold maxLen at hm
  have HI := hideP hI
  have HKI := hideP hkI
  have HF := hideP hF
  have hEE := fun args W => hE args W
  clear hI hkI hF hE
  go_enter Tryz.func220, Tryz.ntmps220
  go_wp2
  go_loopw [5, 8] (fun _ i wr => ∃ k : Nat, k ≤ l.length ∧ i = .int .i64 k ∧ (∀ o ∈ l.take k, q o = true) ∧ Below w.heap.size w wr) (fun _ i _ => l.length - (intOf i).toNat)
  case atStart => exact ⟨0, Nat.zero_le _, rfl, by simp, Below.refl _ _⟩
  case round =>
    obtain ⟨k, hk, rfl, hok, hbw⟩ := hrel
    have HK := hideP hok
    have HC := hideP hc
    clear hok hc
    by_cases hlt : k < l.length
    · obtain ⟨z, ho⟩ := xagZ hlt
      obtain ⟨b, off, c, rfl, hb, h0, h1, _, _⟩ := HC.out k _ ho
      have g0 := (hbw.cell (p := ⟨b, off + k, none⟩) hb).trans h0
      have H1 := hideP (h1.below hbw)
      obtain ⟨p1, q1, hc1, _, _⟩ := id h1
      subst hc1
      have HO := hideP ho
      have hi := hideP (HKI.out _ _ HI.out hbw)
      clear ho h0 h1
      cases hnb : q z
      · go_wp2_with fail
        refine (HF.out z _ wr hi.out H1.out).mono ?_
        rw [hnb]
        rintro e w2 ⟨rfl, hb2⟩
        go_wp2
        go_ret
        exact ⟨k, rfl, by rw [xcvZ HO.out hnb]; simp, hbw.trans (hb2.mono hbw.size)⟩
      · go_wp2_with fail
        refine (HF.out z _ wr hi.out H1.out).mono ?_
        rw [hnb]
        rintro e w2 ⟨rfl, hb2⟩
        go_wp2
        go_roundw
        case rel => exact ⟨k + 1, by omega, by go_num, xc0Z HK.out HO.out hnb, hbw.trans (hb2.mono hbw.size)⟩
        case measure => simp [intOf]; omega
    · have hlt' : ¬ (k : Int) < (l.length : Int) := by omega
      go_wp2
      go_ret
      refine ⟨-1, rfl, ?_, hbw⟩
      have := HK.out
      rw [List.take_of_length_le (by omega)] at this
      rw [xc1Z this]; decide
theorem xjnZ (F : Nat) (caps : Array Value) (I : World → Prop) (q : List Int → Bool) (l : List (List Int)) (v : Value) (w : World) (h : BlksAt w v l) (hI : I w) (hkI : ∀ W W', I W → Below W.heap.size W W' → I W') (hE : Ent F)
    (hF : ∀ (z : List Int) (u : Value) (W : World), I W → IntsAt W u z → Calls Tryz.prog F (#[u] ++ caps) W fun e w' => e = .returned (.bool (!q z)) ∧ Below W.heap.size W w') :
    Calls Tryz.prog 175 #[v, .func (.func F) #[] caps] w fun e w' => e = .returned (.bool (!l.all q)) ∧ Below w.heap.size w w' := by
  go_enter Tryz.func175, Tryz.ntmps175
  go_wp2_with fail
  refine (xm6Z F caps I q l v _ h hI hkI hE hF).mono ?_
  rintro e w2 ⟨r, rfl, hr, hb2⟩
  have HR := hideP hr
  clear hr
  go_wp2
  go_ret
  exact ⟨by rw [← HR.out]; rfl, hb2⟩
theorem ent_check2 : Ent 176 := xchZ Tryz.func176 (by kernel_rfl) rfl
def StrayBox (bs : Nat) (W : World) : Prop := bs < W.heap.size ∧ W.cell? ⟨bs, 0, none⟩ = some (.func (.func 173) #[] #[])
theorem StrayBox.below {bs : Nat} {W W' : World} (h : StrayBox bs W) (hb : Below W.heap.size W W') : StrayBox bs W' := ⟨Nat.lt_of_lt_of_le h.1 hb.size, (hb.cell (p := ⟨bs, 0, none⟩) h.1).trans h.2⟩
theorem xh7Z (L : List (List Int)) (v : Value) (bs : Nat) (w : World) (h : BlksAt w v L) (hb : StrayBox bs w) : Calls Tryz.prog 175 #[v, .func (.func 176) #[] #[.pointer (some ⟨bs, 0, none⟩)]] w fun e w' => e = .returned (.bool (!L.all fun b => b.all isI32)) ∧ Below w.heap.size w w' :=
  xjnZ 176 #[.pointer (some ⟨bs, 0, none⟩)] (StrayBox bs) (fun b => b.all isI32) L v w h hb (fun _ _ h hb => h.below hb) ent_check2 (fun z u W hW hu => xo7Z z u bs W hu hW)
theorem xghZ (L : List (List Int)) (v : Value) (w : World) (h : BlksAt w v L) (h8 : L.length ≤ 8) : Calls Tryz.prog 172 #[v] w fun e w' => e = .returned (.int .i64 (xayZ L)) ∧ w' = w := by
  obtain ⟨p, cap, rfl, hm, hc⟩ := h
  have hbd : ∀ k, xayZ (L.take k) ≤ 140737488355328 := fun k => by
    have h1 := xlzZ L k
    have h2 := xnqZ L 17592186044416 fun b hb => by
      obtain ⟨j, hj⟩ := List.getElem?_of_mem hb
      obtain ⟨_, _, _, _, _, _, _, _, h⟩ := hc j b hj
      exact h
    omega
  have HBD := hideP hbd
  clear hbd hm
  go_enter Tryz.func172, Tryz.ntmps172
  go_wp2
  go_loopw [3, 5, 8] (fun s _ i wr => ∃ k : Nat, k ≤ L.length ∧ i = .int .i64 k ∧ s = .int .i64 (xayZ (L.take k)) ∧ wr = w) (fun _ _ i _ => L.length - (intOf i).toNat)
  case atStart => exact ⟨0, Nat.zero_le _, rfl, rfl, rfl⟩
  case round =>
    obtain ⟨k, hk, rfl, rfl, rfl⟩ := hrel
    have HC := hideP hc
    clear hc
    by_cases hlt : k < L.length
    · obtain ⟨z, ho⟩ := xagZ hlt
      obtain ⟨b, off, c, rfl, hb, h0, h1, _, h44⟩ := HC.out k _ ho
      obtain ⟨p1, q1, hc1, _, _⟩ := id h1
      subst hc1
      have hs := xi6Z L k z ho
      have hb1 := HBD.out k
      have HS := hideP hs
      clear ho h1 hs
      generalize xayZ (L.take k) = s at *
      go_wp2
      go_roundw
      case rel => exact ⟨k + 1, by omega, by go_num, by rw [HS.out]; go_num, trivial⟩
      case measure => simp [intOf]; omega
    · have hlt' : ¬ (k : Int) < (L.length : Int) := by omega
      go_wp2
      go_ret
      exact ⟨by simp [List.take_of_length_le (show L.length ≤ k by omega)], rfl⟩
theorem xfuZ (L : List (List Int)) (v : Value) (w : World) (h : BlksAt w v L) : Calls Tryz.prog 137 #[v] w fun e w' => e = .returned (.int .i64 (blkErr L)) ∧ Below w.heap.size w w' := by
  obtain ⟨p, cap, hv, hm, _⟩ := id h
  unfold maxLen at hm
  subst hv
  by_cases h8 : 8 < L.length
  · have h8' : (8 : Int) < (L.length : Int) := by omega
    have hd : decide ((L.length : Int) > 8) = true := by simpa using h8'
    have he : blkErr L = 2 := by unfold blkErr; rw [if_pos (.inl h8)]
    rw [he]
    clear h he
    go_enter Tryz.func137, Tryz.ntmps137
    go_wp2
    go_ret
    exact ⟨rfl, Below.refl _ _⟩
  · have h8' : ¬ (8 : Int) < (L.length : Int) := by omega
    have hd : decide ((L.length : Int) > 8) = false := by simp; omega
    have H := hideP h
    clear h
    by_cases h40 : 40 < xayZ L
    · have h40' : (40 : Int) < (xayZ L : Int) := by omega
      have he : blkErr L = 2 := by unfold blkErr; rw [if_pos (.inr h40)]
      rw [he]
      clear he
      go_enter Tryz.func137, Tryz.ntmps137
      go_wp2_with (go_at_call 172; refine (xghZ L _ _ H.out (by omega)).mono ?_; rintro e w' ⟨rfl, hw⟩; have hw := hw.symm; subst hw)
      go_ret
      exact ⟨rfl, Below.refl _ _⟩
    · have h40' : ¬ (40 : Int) < (xayZ L : Int) := by omega
      have he : blkErr L = if (L.all fun b => b.all isI32) = true then 0 else 3 := by unfold blkErr; rw [if_neg (by omega)]
      rw [he]
      clear he
      have hB := (Below.refl w.heap.size w).alloc (Nat.le_refl _) (.cells #[.func (.func 173) #[] #[]] 35)
      have hx := World.alloc_heap_new w (.cells #[.func (.func 173) #[] #[]] 35)
      have hS : StrayBox w.heap.size (w.alloc (.cells #[.func (.func 173) #[] #[]] 35)) := ⟨xacZ hx, by rw [xaaZ hx 0]; rfl⟩
      have HS := hideP hS
      have HA := hideP (H.out.below hB)
      clear hx hS
      cases hall : (L.all fun b => b.all isI32)
      all_goals
        go_enter Tryz.func137, Tryz.ntmps137
        go_wp2_with (first | (go_at_call 172; refine (xghZ L _ _ H.out (by omega)).mono ?_; rintro e w' ⟨rfl, hw⟩; have hw := hw.symm; subst hw) | (go_at_call 175; refine (xh7Z L _ _ _ HA.out HS.out).mono ?_; rw [hall]; rintro e w2 ⟨rfl, hb2⟩))
        go_ret
        exact ⟨rfl, hB.trans (hb2.mono hB.size)⟩
end Go.Proofs.YtmjjkenblfndgaaGreat


/- verify's stack: turn, call, do. -/
namespace Go.Proofs.YtmjjkenblfndgaaGreat
open Go.RowKit
set_option linter.unusedSimpArgs false
set_option linter.unusedVariables false
def SA (W : World) (b B : Nat) (s : St) : Prop := StAt W b B s.1 s.2
theorem SA.kept {W W' : World} {b B : Nat} {s : St} (h : SA W b B s) (hb : Below W.heap.size W W') : SA W' b B s := StAt.kept h hb
theorem xhnZ (s : St) (b B : Nat) (w : World) (h : SA w b B s) (hl : s.1.length ≤ 100) (hB : B ≤ w.heap.size) (hBb : B ≤ b) : Calls Tryz.prog 231 #[.pointer (some ⟨b, 0, none⟩)] w fun e w' => e = .returned (.int .i64 (topP s.1)) ∧ SA w' b B (popS s) ∧ Below B w w' := by
  refine (pop_any s.1 s.2 b B w h hl).mono ?_
  rintro e w' ⟨rfl, h1, h2⟩
  exact ⟨rfl, h1, (Below.refl B w).grown h2 hB (fun k hk => by cases hk; exact hBb)⟩
theorem xcuZ (s : St) (ts : List Int) (b B : Nat) (u : Value) (w : World) (h : SA w b B s) (hu : IntsAt w u ts) (hl : s.1.length ≤ 100) (ht : ts.length ≤ 100) (hB : B ≤ w.heap.size) (hBb : B ≤ b) : Calls Tryz.prog 210 #[.pointer (some ⟨b, 0, none⟩), u] w fun e w' => e = .returned (.tuple #[]) ∧ SA w' b B (tk s ts) ∧ Below B w w' := by
  obtain ⟨p, c, rfl, _, _⟩ := id hu
  refine (xmtZ s.1 ts s.2 b B p c w h hu hB hBb hl ht).mono ?_
  rintro e w' ⟨rfl, h1, h2⟩
  exact ⟨rfl, h1, (Below.refl B w).grown h2 hB (fun k hk => by cases hk; exact hBb)⟩
theorem xcjZ (s : St) (ts : List Int) (b B : Nat) (u : Value) (w : World) (h : SA w b B s) (hu : IntsAt w u ts) (hn : NilOk u) (hl : s.1.length ≤ 100) (ht : ts.length ≤ 100) (hB : B ≤ w.heap.size) (hBb : B ≤ b) : Calls Tryz.prog 209 #[.pointer (some ⟨b, 0, none⟩), u] w fun e w' => e = .returned (.tuple #[]) ∧ SA w' b B (lv s ts) ∧ Below B w w' := by
  refine (leave_any s.1 ts s.2 b B u w h hu hn hB hBb hl ht).mono ?_
  rintro e w' ⟨rfl, h1, h2⟩
  exact ⟨rfl, h1, h2⟩
theorem xebZ (s : St) (ts : List Int) : (tk s ts).1.length ≤ s.1.length := xmpZ s _
theorem xhoZ (s : St) : (popS s).1.length ≤ s.1.length := by simp [popS]
theorem turn2_any (s : St) (b B : Nat) (w : World) (h : SA w b B s) (hl : s.1.length ≤ 100) (hB : B ≤ w.heap.size) (hBb : B ≤ b) : Calls Tryz.prog 208 #[.pointer (some ⟨b, 0, none⟩), .int .i64 2] w fun e w' => e = .returned (.tuple #[]) ∧ SA w' b B (popS s) ∧ Below B w w' := by
  go_enter Tryz.func208, Tryz.ntmps208
  go_wp2_with fail
  refine (xhnZ s b B w h hl hB hBb).mono ?_
  rintro e w1 ⟨rfl, h1, b1⟩
  have l1 : (popS s).1.length ≤ 100 := Nat.le_trans (xhoZ _) hl
  have z1 : B ≤ w1.heap.size := Nat.le_trans hB b1.size
  have B1 := b1
  go_wp2
  go_end0
  exact ⟨rfl, h1, B1⟩
theorem turn3_any (s : St) (b B : Nat) (w : World) (h : SA w b B s) (hl : s.1.length ≤ 100) (hB : B ≤ w.heap.size) (hBb : B ≤ b) : Calls Tryz.prog 208 #[.pointer (some ⟨b, 0, none⟩), .int .i64 3] w fun e w' => e = .returned (.tuple #[]) ∧ SA w' b B (lv (popS s) [topP s.1, topP s.1]) ∧ Below B w w' := by
  go_enter Tryz.func208, Tryz.ntmps208
  go_wp2_with fail
  refine (xhnZ s b B w h hl hB hBb).mono ?_
  rintro e w1 ⟨rfl, h1, b1⟩
  have l1 : (popS s).1.length ≤ 100 := Nat.le_trans (xhoZ _) hl
  have z1 : B ≤ w1.heap.size := Nat.le_trans hB b1.size
  have B1 := b1
  go_wp2_with fail
  have q2 := World.alloc_heap_new w1 (.cells #[.int .i64 (topP s.1), .int .i64 (topP s.1)] 3)
  have a2 := (Below.refl w1.heap.size w1).alloc (Nat.le_refl _) (.cells #[.int .i64 (topP s.1), .int .i64 (topP s.1)] 3)
  refine (xcjZ (popS s) [(topP s.1), (topP s.1)] b B _ _ (h1.kept a2) (xa8Z 2 2 q2 rfl (by unfold maxLen; simp)) (xavZ _ _ _) l1 (by simp) (Nat.le_trans z1 a2.size) hBb).mono ?_
  rintro e w2 ⟨rfl, h2, b2⟩
  have z2 : B ≤ w2.heap.size := Nat.le_trans (Nat.le_trans z1 a2.size) b2.size
  have c2 := (a2.mono z1).trans b2
  have B2 := B1.trans c2
  clear q2 a2
  go_wp2
  go_end0
  exact ⟨rfl, h2, B2⟩
theorem turn4_any (s : St) (b B : Nat) (w : World) (h : SA w b B s) (hl : s.1.length ≤ 100) (hB : B ≤ w.heap.size) (hBb : B ≤ b) : Calls Tryz.prog 208 #[.pointer (some ⟨b, 0, none⟩), .int .i64 4] w fun e w' => e = .returned (.tuple #[]) ∧ SA w' b B (lv (popS (popS s)) [topP s.1, topP (popS s).1]) ∧ Below B w w' := by
  go_enter Tryz.func208, Tryz.ntmps208
  go_wp2_with fail
  refine (xhnZ s b B w h hl hB hBb).mono ?_
  rintro e w1 ⟨rfl, h1, b1⟩
  have l1 : (popS s).1.length ≤ 100 := Nat.le_trans (xhoZ _) hl
  have z1 : B ≤ w1.heap.size := Nat.le_trans hB b1.size
  have B1 := b1
  go_wp2_with fail
  refine (xhnZ (popS s) b B w1 h1 l1 z1 hBb).mono ?_
  rintro e w2 ⟨rfl, h2, b2⟩
  have l2 : (popS (popS s)).1.length ≤ 100 := Nat.le_trans (xhoZ _) l1
  have z2 : B ≤ w2.heap.size := Nat.le_trans z1 b2.size
  have B2 := B1.trans b2
  go_wp2_with fail
  have q3 := World.alloc_heap_new w2 (.cells #[.int .i64 (topP s.1), .int .i64 (topP (popS s).1)] 3)
  have a3 := (Below.refl w2.heap.size w2).alloc (Nat.le_refl _) (.cells #[.int .i64 (topP s.1), .int .i64 (topP (popS s).1)] 3)
  refine (xcjZ (popS (popS s)) [(topP s.1), (topP (popS s).1)] b B _ _ (h2.kept a3) (xa8Z 2 2 q3 rfl (by unfold maxLen; simp)) (xavZ _ _ _) l2 (by simp) (Nat.le_trans z2 a3.size) hBb).mono ?_
  rintro e w3 ⟨rfl, h3, b3⟩
  have z3 : B ≤ w3.heap.size := Nat.le_trans (Nat.le_trans z2 a3.size) b3.size
  have c3 := (a3.mono z2).trans b3
  have B3 := B2.trans c3
  clear q3 a3
  go_wp2
  go_end0
  exact ⟨rfl, h3, B3⟩
theorem do1_any (s : St) (b B : Nat) (w : World) (h : SA w b B s) (hl : s.1.length ≤ 100) (hB : B ≤ w.heap.size) (hBb : B ≤ b) : Calls Tryz.prog 213 #[.pointer (some ⟨b, 0, none⟩), .int .i64 1] w fun e w' => e = .returned (.tuple #[]) ∧ SA w' b B (lv s [1]) ∧ Below B w w' := by
  go_enter Tryz.func213, Tryz.ntmps213
  go_wp2_with fail
  have q1 := World.alloc_heap_new w (.cells #[.int .i64 1] 3)
  have a1 := (Below.refl w.heap.size w).alloc (Nat.le_refl _) (.cells #[.int .i64 1] 3)
  refine (xcjZ s [1] b B _ _ (h.kept a1) (xa8Z 1 1 q1 rfl (by unfold maxLen; simp)) (xavZ _ _ _) hl (by simp) (Nat.le_trans hB a1.size) hBb).mono ?_
  rintro e w1 ⟨rfl, h1, b1⟩
  have z1 : B ≤ w1.heap.size := Nat.le_trans (Nat.le_trans hB a1.size) b1.size
  have c1 := (a1.mono hB).trans b1
  have B1 := c1
  clear q1 a1
  go_wp2
  go_end0
  exact ⟨rfl, h1, B1⟩
theorem do21_any (s : St) (b B : Nat) (w : World) (h : SA w b B s) (hl : s.1.length ≤ 100) (hB : B ≤ w.heap.size) (hBb : B ≤ b) : Calls Tryz.prog 213 #[.pointer (some ⟨b, 0, none⟩), .int .i64 21] w fun e w' => e = .returned (.tuple #[]) ∧ SA w' b B (lv s [1]) ∧ Below B w w' := by
  go_enter Tryz.func213, Tryz.ntmps213
  go_wp2_with fail
  have q1 := World.alloc_heap_new w (.cells #[.int .i64 1] 3)
  have a1 := (Below.refl w.heap.size w).alloc (Nat.le_refl _) (.cells #[.int .i64 1] 3)
  refine (xcjZ s [1] b B _ _ (h.kept a1) (xa8Z 1 1 q1 rfl (by unfold maxLen; simp)) (xavZ _ _ _) hl (by simp) (Nat.le_trans hB a1.size) hBb).mono ?_
  rintro e w1 ⟨rfl, h1, b1⟩
  have z1 : B ≤ w1.heap.size := Nat.le_trans (Nat.le_trans hB a1.size) b1.size
  have c1 := (a1.mono hB).trans b1
  have B1 := c1
  clear q1 a1
  go_wp2
  go_end0
  exact ⟨rfl, h1, B1⟩
theorem do5_any (s : St) (b B : Nat) (w : World) (h : SA w b B s) (hl : s.1.length ≤ 100) (hB : B ≤ w.heap.size) (hBb : B ≤ b) : Calls Tryz.prog 213 #[.pointer (some ⟨b, 0, none⟩), .int .i64 5] w fun e w' => e = .returned (.tuple #[]) ∧ SA w' b B (lv (tk s [1, 1]) [1]) ∧ Below B w w' := by
  go_enter Tryz.func213, Tryz.ntmps213
  go_wp2_with fail
  have q1 := World.alloc_heap_new w (.cells #[.int .i64 1, .int .i64 1] 3)
  have a1 := (Below.refl w.heap.size w).alloc (Nat.le_refl _) (.cells #[.int .i64 1, .int .i64 1] 3)
  refine (xcuZ s [1, 1] b B _ _ (h.kept a1) (xa8Z 2 2 q1 rfl (by unfold maxLen; simp)) hl (by simp) (Nat.le_trans hB a1.size) hBb).mono ?_
  rintro e w1 ⟨rfl, h1, b1⟩
  have l1 : (tk s [1, 1]).1.length ≤ 100 := Nat.le_trans (xebZ _ _) hl
  have z1 : B ≤ w1.heap.size := Nat.le_trans (Nat.le_trans hB a1.size) b1.size
  have c1 := (a1.mono hB).trans b1
  have B1 := c1
  clear q1 a1
  go_wp2_with fail
  have q2 := World.alloc_heap_new w1 (.cells #[.int .i64 1] 3)
  have a2 := (Below.refl w1.heap.size w1).alloc (Nat.le_refl _) (.cells #[.int .i64 1] 3)
  refine (xcjZ (tk s [1, 1]) [1] b B _ _ (h1.kept a2) (xa8Z 1 1 q2 rfl (by unfold maxLen; simp)) (xavZ _ _ _) l1 (by simp) (Nat.le_trans z1 a2.size) hBb).mono ?_
  rintro e w2 ⟨rfl, h2, b2⟩
  have z2 : B ≤ w2.heap.size := Nat.le_trans (Nat.le_trans z1 a2.size) b2.size
  have c2 := (a2.mono z1).trans b2
  have B2 := B1.trans c2
  clear q2 a2
  go_wp2
  go_end0
  exact ⟨rfl, h2, B2⟩
theorem do6_any (s : St) (b B : Nat) (w : World) (h : SA w b B s) (hl : s.1.length ≤ 100) (hB : B ≤ w.heap.size) (hBb : B ≤ b) : Calls Tryz.prog 213 #[.pointer (some ⟨b, 0, none⟩), .int .i64 6] w fun e w' => e = .returned (.tuple #[]) ∧ SA w' b B (lv (tk s [1, 1]) [1]) ∧ Below B w w' := by
  go_enter Tryz.func213, Tryz.ntmps213
  go_wp2_with fail
  have q1 := World.alloc_heap_new w (.cells #[.int .i64 1, .int .i64 1] 3)
  have a1 := (Below.refl w.heap.size w).alloc (Nat.le_refl _) (.cells #[.int .i64 1, .int .i64 1] 3)
  refine (xcuZ s [1, 1] b B _ _ (h.kept a1) (xa8Z 2 2 q1 rfl (by unfold maxLen; simp)) hl (by simp) (Nat.le_trans hB a1.size) hBb).mono ?_
  rintro e w1 ⟨rfl, h1, b1⟩
  have l1 : (tk s [1, 1]).1.length ≤ 100 := Nat.le_trans (xebZ _ _) hl
  have z1 : B ≤ w1.heap.size := Nat.le_trans (Nat.le_trans hB a1.size) b1.size
  have c1 := (a1.mono hB).trans b1
  have B1 := c1
  clear q1 a1
  go_wp2_with fail
  have q2 := World.alloc_heap_new w1 (.cells #[.int .i64 1] 3)
  have a2 := (Below.refl w1.heap.size w1).alloc (Nat.le_refl _) (.cells #[.int .i64 1] 3)
  refine (xcjZ (tk s [1, 1]) [1] b B _ _ (h1.kept a2) (xa8Z 1 1 q2 rfl (by unfold maxLen; simp)) (xavZ _ _ _) l1 (by simp) (Nat.le_trans z1 a2.size) hBb).mono ?_
  rintro e w2 ⟨rfl, h2, b2⟩
  have z2 : B ≤ w2.heap.size := Nat.le_trans (Nat.le_trans z1 a2.size) b2.size
  have c2 := (a2.mono z1).trans b2
  have B2 := B1.trans c2
  clear q2 a2
  go_wp2
  go_end0
  exact ⟨rfl, h2, B2⟩
theorem do7_any (s : St) (b B : Nat) (w : World) (h : SA w b B s) (hl : s.1.length ≤ 100) (hB : B ≤ w.heap.size) (hBb : B ≤ b) : Calls Tryz.prog 213 #[.pointer (some ⟨b, 0, none⟩), .int .i64 7] w fun e w' => e = .returned (.tuple #[]) ∧ SA w' b B (lv (tk s [1, 1]) [1]) ∧ Below B w w' := by
  go_enter Tryz.func213, Tryz.ntmps213
  go_wp2_with fail
  have q1 := World.alloc_heap_new w (.cells #[.int .i64 1, .int .i64 1] 3)
  have a1 := (Below.refl w.heap.size w).alloc (Nat.le_refl _) (.cells #[.int .i64 1, .int .i64 1] 3)
  refine (xcuZ s [1, 1] b B _ _ (h.kept a1) (xa8Z 2 2 q1 rfl (by unfold maxLen; simp)) hl (by simp) (Nat.le_trans hB a1.size) hBb).mono ?_
  rintro e w1 ⟨rfl, h1, b1⟩
  have l1 : (tk s [1, 1]).1.length ≤ 100 := Nat.le_trans (xebZ _ _) hl
  have z1 : B ≤ w1.heap.size := Nat.le_trans (Nat.le_trans hB a1.size) b1.size
  have c1 := (a1.mono hB).trans b1
  have B1 := c1
  clear q1 a1
  go_wp2_with fail
  have q2 := World.alloc_heap_new w1 (.cells #[.int .i64 1] 3)
  have a2 := (Below.refl w1.heap.size w1).alloc (Nat.le_refl _) (.cells #[.int .i64 1] 3)
  refine (xcjZ (tk s [1, 1]) [1] b B _ _ (h1.kept a2) (xa8Z 1 1 q2 rfl (by unfold maxLen; simp)) (xavZ _ _ _) l1 (by simp) (Nat.le_trans z1 a2.size) hBb).mono ?_
  rintro e w2 ⟨rfl, h2, b2⟩
  have z2 : B ≤ w2.heap.size := Nat.le_trans (Nat.le_trans z1 a2.size) b2.size
  have c2 := (a2.mono z1).trans b2
  have B2 := B1.trans c2
  clear q2 a2
  go_wp2
  go_end0
  exact ⟨rfl, h2, B2⟩
theorem do11_any (s : St) (b B : Nat) (w : World) (h : SA w b B s) (hl : s.1.length ≤ 100) (hB : B ≤ w.heap.size) (hBb : B ≤ b) : Calls Tryz.prog 213 #[.pointer (some ⟨b, 0, none⟩), .int .i64 11] w fun e w' => e = .returned (.tuple #[]) ∧ SA w' b B (tk s [1]) ∧ Below B w w' := by
  go_enter Tryz.func213, Tryz.ntmps213
  go_wp2_with fail
  have q1 := World.alloc_heap_new w (.cells #[.int .i64 1] 3)
  have a1 := (Below.refl w.heap.size w).alloc (Nat.le_refl _) (.cells #[.int .i64 1] 3)
  refine (xcuZ s [1] b B _ _ (h.kept a1) (xa8Z 1 1 q1 rfl (by unfold maxLen; simp)) hl (by simp) (Nat.le_trans hB a1.size) hBb).mono ?_
  rintro e w1 ⟨rfl, h1, b1⟩
  have l1 : (tk s [1]).1.length ≤ 100 := Nat.le_trans (xebZ _ _) hl
  have z1 : B ≤ w1.heap.size := Nat.le_trans (Nat.le_trans hB a1.size) b1.size
  have c1 := (a1.mono hB).trans b1
  have B1 := c1
  clear q1 a1
  go_wp2
  go_end0
  exact ⟨rfl, h1, B1⟩
theorem do20_any (s : St) (b B : Nat) (w : World) (h : SA w b B s) (hl : s.1.length ≤ 100) (hB : B ≤ w.heap.size) (hBb : B ≤ b) : Calls Tryz.prog 213 #[.pointer (some ⟨b, 0, none⟩), .int .i64 20] w fun e w' => e = .returned (.tuple #[]) ∧ SA w' b B (tk s [1]) ∧ Below B w w' := by
  go_enter Tryz.func213, Tryz.ntmps213
  go_wp2_with fail
  have q1 := World.alloc_heap_new w (.cells #[.int .i64 1] 3)
  have a1 := (Below.refl w.heap.size w).alloc (Nat.le_refl _) (.cells #[.int .i64 1] 3)
  refine (xcuZ s [1] b B _ _ (h.kept a1) (xa8Z 1 1 q1 rfl (by unfold maxLen; simp)) hl (by simp) (Nat.le_trans hB a1.size) hBb).mono ?_
  rintro e w1 ⟨rfl, h1, b1⟩
  have l1 : (tk s [1]).1.length ≤ 100 := Nat.le_trans (xebZ _ _) hl
  have z1 : B ≤ w1.heap.size := Nat.le_trans (Nat.le_trans hB a1.size) b1.size
  have c1 := (a1.mono hB).trans b1
  have B1 := c1
  clear q1 a1
  go_wp2
  go_end0
  exact ⟨rfl, h1, B1⟩
theorem do14_any (s : St) (b B : Nat) (w : World) (h : SA w b B s) (hl : s.1.length ≤ 100) (hB : B ≤ w.heap.size) (hBb : B ≤ b) : Calls Tryz.prog 213 #[.pointer (some ⟨b, 0, none⟩), .int .i64 14] w fun e w' => e = .returned (.tuple #[]) ∧ SA w' b B (lv (tk s [1]) [2]) ∧ Below B w w' := by
  go_enter Tryz.func213, Tryz.ntmps213
  go_wp2_with fail
  have q1 := World.alloc_heap_new w (.cells #[.int .i64 1] 3)
  have a1 := (Below.refl w.heap.size w).alloc (Nat.le_refl _) (.cells #[.int .i64 1] 3)
  refine (xcuZ s [1] b B _ _ (h.kept a1) (xa8Z 1 1 q1 rfl (by unfold maxLen; simp)) hl (by simp) (Nat.le_trans hB a1.size) hBb).mono ?_
  rintro e w1 ⟨rfl, h1, b1⟩
  have l1 : (tk s [1]).1.length ≤ 100 := Nat.le_trans (xebZ _ _) hl
  have z1 : B ≤ w1.heap.size := Nat.le_trans (Nat.le_trans hB a1.size) b1.size
  have c1 := (a1.mono hB).trans b1
  have B1 := c1
  clear q1 a1
  go_wp2_with fail
  have q2 := World.alloc_heap_new w1 (.cells #[.int .i64 2] 3)
  have a2 := (Below.refl w1.heap.size w1).alloc (Nat.le_refl _) (.cells #[.int .i64 2] 3)
  refine (xcjZ (tk s [1]) [2] b B _ _ (h1.kept a2) (xa8Z 1 1 q2 rfl (by unfold maxLen; simp)) (xavZ _ _ _) l1 (by simp) (Nat.le_trans z1 a2.size) hBb).mono ?_
  rintro e w2 ⟨rfl, h2, b2⟩
  have z2 : B ≤ w2.heap.size := Nat.le_trans (Nat.le_trans z1 a2.size) b2.size
  have c2 := (a2.mono z1).trans b2
  have B2 := B1.trans c2
  clear q2 a2
  go_wp2
  go_end0
  exact ⟨rfl, h2, B2⟩
theorem do15_any (s : St) (b B : Nat) (w : World) (h : SA w b B s) (hl : s.1.length ≤ 100) (hB : B ≤ w.heap.size) (hBb : B ≤ b) : Calls Tryz.prog 213 #[.pointer (some ⟨b, 0, none⟩), .int .i64 15] w fun e w' => e = .returned (.tuple #[]) ∧ SA w' b B (lv (tk s [2, 1]) [1]) ∧ Below B w w' := by
  go_enter Tryz.func213, Tryz.ntmps213
  go_wp2_with fail
  have q1 := World.alloc_heap_new w (.cells #[.int .i64 2, .int .i64 1] 3)
  have a1 := (Below.refl w.heap.size w).alloc (Nat.le_refl _) (.cells #[.int .i64 2, .int .i64 1] 3)
  refine (xcuZ s [2, 1] b B _ _ (h.kept a1) (xa8Z 2 2 q1 rfl (by unfold maxLen; simp)) hl (by simp) (Nat.le_trans hB a1.size) hBb).mono ?_
  rintro e w1 ⟨rfl, h1, b1⟩
  have l1 : (tk s [2, 1]).1.length ≤ 100 := Nat.le_trans (xebZ _ _) hl
  have z1 : B ≤ w1.heap.size := Nat.le_trans (Nat.le_trans hB a1.size) b1.size
  have c1 := (a1.mono hB).trans b1
  have B1 := c1
  clear q1 a1
  go_wp2_with fail
  have q2 := World.alloc_heap_new w1 (.cells #[.int .i64 1] 3)
  have a2 := (Below.refl w1.heap.size w1).alloc (Nat.le_refl _) (.cells #[.int .i64 1] 3)
  refine (xcjZ (tk s [2, 1]) [1] b B _ _ (h1.kept a2) (xa8Z 1 1 q2 rfl (by unfold maxLen; simp)) (xavZ _ _ _) l1 (by simp) (Nat.le_trans z1 a2.size) hBb).mono ?_
  rintro e w2 ⟨rfl, h2, b2⟩
  have z2 : B ≤ w2.heap.size := Nat.le_trans (Nat.le_trans z1 a2.size) b2.size
  have c2 := (a2.mono z1).trans b2
  have B2 := B1.trans c2
  clear q2 a2
  go_wp2
  go_end0
  exact ⟨rfl, h2, B2⟩
theorem do16_any (s : St) (b B : Nat) (w : World) (h : SA w b B s) (hl : s.1.length ≤ 100) (hB : B ≤ w.heap.size) (hBb : B ≤ b) : Calls Tryz.prog 213 #[.pointer (some ⟨b, 0, none⟩), .int .i64 16] w fun e w' => e = .returned (.tuple #[]) ∧ SA w' b B (tk s [2, 1, 1]) ∧ Below B w w' := by
  go_enter Tryz.func213, Tryz.ntmps213
  go_wp2_with fail
  have q1 := World.alloc_heap_new w (.cells #[.int .i64 2, .int .i64 1, .int .i64 1] 3)
  have a1 := (Below.refl w.heap.size w).alloc (Nat.le_refl _) (.cells #[.int .i64 2, .int .i64 1, .int .i64 1] 3)
  refine (xcuZ s [2, 1, 1] b B _ _ (h.kept a1) (xa8Z 3 3 q1 rfl (by unfold maxLen; simp)) hl (by simp) (Nat.le_trans hB a1.size) hBb).mono ?_
  rintro e w1 ⟨rfl, h1, b1⟩
  have l1 : (tk s [2, 1, 1]).1.length ≤ 100 := Nat.le_trans (xebZ _ _) hl
  have z1 : B ≤ w1.heap.size := Nat.le_trans (Nat.le_trans hB a1.size) b1.size
  have c1 := (a1.mono hB).trans b1
  have B1 := c1
  clear q1 a1
  go_wp2
  go_end0
  exact ⟨rfl, h1, B1⟩
theorem do17_any (s : St) (b B : Nat) (w : World) (h : SA w b B s) (hl : s.1.length ≤ 100) (hB : B ≤ w.heap.size) (hBb : B ≤ b) : Calls Tryz.prog 213 #[.pointer (some ⟨b, 0, none⟩), .int .i64 17] w fun e w' => e = .returned (.tuple #[]) ∧ SA w' b B (lv (tk s [2]) [1]) ∧ Below B w w' := by
  go_enter Tryz.func213, Tryz.ntmps213
  go_wp2_with fail
  have q1 := World.alloc_heap_new w (.cells #[.int .i64 2] 3)
  have a1 := (Below.refl w.heap.size w).alloc (Nat.le_refl _) (.cells #[.int .i64 2] 3)
  refine (xcuZ s [2] b B _ _ (h.kept a1) (xa8Z 1 1 q1 rfl (by unfold maxLen; simp)) hl (by simp) (Nat.le_trans hB a1.size) hBb).mono ?_
  rintro e w1 ⟨rfl, h1, b1⟩
  have l1 : (tk s [2]).1.length ≤ 100 := Nat.le_trans (xebZ _ _) hl
  have z1 : B ≤ w1.heap.size := Nat.le_trans (Nat.le_trans hB a1.size) b1.size
  have c1 := (a1.mono hB).trans b1
  have B1 := c1
  clear q1 a1
  go_wp2_with fail
  have q2 := World.alloc_heap_new w1 (.cells #[.int .i64 1] 3)
  have a2 := (Below.refl w1.heap.size w1).alloc (Nat.le_refl _) (.cells #[.int .i64 1] 3)
  refine (xcjZ (tk s [2]) [1] b B _ _ (h1.kept a2) (xa8Z 1 1 q2 rfl (by unfold maxLen; simp)) (xavZ _ _ _) l1 (by simp) (Nat.le_trans z1 a2.size) hBb).mono ?_
  rintro e w2 ⟨rfl, h2, b2⟩
  have z2 : B ≤ w2.heap.size := Nat.le_trans (Nat.le_trans z1 a2.size) b2.size
  have c2 := (a2.mono z1).trans b2
  have B2 := B1.trans c2
  clear q2 a2
  go_wp2
  go_end0
  exact ⟨rfl, h2, B2⟩
theorem do19_any (s : St) (b B : Nat) (w : World) (h : SA w b B s) (hl : s.1.length ≤ 100) (hB : B ≤ w.heap.size) (hBb : B ≤ b) : Calls Tryz.prog 213 #[.pointer (some ⟨b, 0, none⟩), .int .i64 19] w fun e w' => e = .returned (.tuple #[]) ∧ SA w' b B (lv (tk s [2]) [1]) ∧ Below B w w' := by
  go_enter Tryz.func213, Tryz.ntmps213
  go_wp2_with fail
  have q1 := World.alloc_heap_new w (.cells #[.int .i64 2] 3)
  have a1 := (Below.refl w.heap.size w).alloc (Nat.le_refl _) (.cells #[.int .i64 2] 3)
  refine (xcuZ s [2] b B _ _ (h.kept a1) (xa8Z 1 1 q1 rfl (by unfold maxLen; simp)) hl (by simp) (Nat.le_trans hB a1.size) hBb).mono ?_
  rintro e w1 ⟨rfl, h1, b1⟩
  have l1 : (tk s [2]).1.length ≤ 100 := Nat.le_trans (xebZ _ _) hl
  have z1 : B ≤ w1.heap.size := Nat.le_trans (Nat.le_trans hB a1.size) b1.size
  have c1 := (a1.mono hB).trans b1
  have B1 := c1
  clear q1 a1
  go_wp2_with fail
  have q2 := World.alloc_heap_new w1 (.cells #[.int .i64 1] 3)
  have a2 := (Below.refl w1.heap.size w1).alloc (Nat.le_refl _) (.cells #[.int .i64 1] 3)
  refine (xcjZ (tk s [2]) [1] b B _ _ (h1.kept a2) (xa8Z 1 1 q2 rfl (by unfold maxLen; simp)) (xavZ _ _ _) l1 (by simp) (Nat.le_trans z1 a2.size) hBb).mono ?_
  rintro e w2 ⟨rfl, h2, b2⟩
  have z2 : B ≤ w2.heap.size := Nat.le_trans (Nat.le_trans z1 a2.size) b2.size
  have c2 := (a2.mono z1).trans b2
  have B2 := B1.trans c2
  clear q2 a2
  go_wp2
  go_end0
  exact ⟨rfl, h2, B2⟩
theorem do18_any (s : St) (b B : Nat) (w : World) (h : SA w b B s) (hl : s.1.length ≤ 100) (hB : B ≤ w.heap.size) (hBb : B ≤ b) : Calls Tryz.prog 213 #[.pointer (some ⟨b, 0, none⟩), .int .i64 18] w fun e w' => e = .returned (.tuple #[]) ∧ SA w' b B (lv s [3]) ∧ Below B w w' := by
  go_enter Tryz.func213, Tryz.ntmps213
  go_wp2_with fail
  have q1 := World.alloc_heap_new w (.cells #[.int .i64 3] 3)
  have a1 := (Below.refl w.heap.size w).alloc (Nat.le_refl _) (.cells #[.int .i64 3] 3)
  refine (xcjZ s [3] b B _ _ (h.kept a1) (xa8Z 1 1 q1 rfl (by unfold maxLen; simp)) (xavZ _ _ _) hl (by simp) (Nat.le_trans hB a1.size) hBb).mono ?_
  rintro e w1 ⟨rfl, h1, b1⟩
  have z1 : B ≤ w1.heap.size := Nat.le_trans (Nat.le_trans hB a1.size) b1.size
  have c1 := (a1.mono hB).trans b1
  have B1 := c1
  clear q1 a1
  go_wp2
  go_end0
  exact ⟨rfl, h1, B1⟩
theorem do10_any (s : St) (b B : Nat) (w : World) (h : SA w b B s) (hl : s.1.length ≤ 100) (hB : B ≤ w.heap.size) (hBb : B ≤ b) : Calls Tryz.prog 213 #[.pointer (some ⟨b, 0, none⟩), .int .i64 10] w fun e w' => e = .returned (.tuple #[]) ∧ SA w' b B (s) ∧ Below B w w' := by
  go_enter Tryz.func213, Tryz.ntmps213
  go_wp2
  go_end0
  exact ⟨rfl, h, Below.refl _ _⟩
def doS (s : St) (c : Int) : St := if (xaqZ c).2 = [] then tk s (xaqZ c).1 else lv (tk s (xaqZ c).1) (xaqZ c).2
theorem do_any (c : Int) (hc : 1 ≤ c ∧ c ≤ 21) (hne : c ≠ 2 ∧ c ≠ 3 ∧ c ≠ 4 ∧ c ≠ 8 ∧ c ≠ 9 ∧ c ≠ 12 ∧ c ≠ 13) (s : St) (b B : Nat) (w : World) (h : SA w b B s) (hl : s.1.length ≤ 100) (hB : B ≤ w.heap.size) (hBb : B ≤ b) : Calls Tryz.prog 213 #[.pointer (some ⟨b, 0, none⟩), .int .i64 c] w fun e w' => e = .returned (.tuple #[]) ∧ SA w' b B (doS s c) ∧ Below B w w' := by
  have hall : c = 1 ∨ c = 5 ∨ c = 6 ∨ c = 7 ∨ c = 10 ∨ c = 11 ∨ c = 14 ∨ c = 15 ∨ c = 16 ∨ c = 17 ∨ c = 18 ∨ c = 19 ∨ c = 20 ∨ c = 21 := by omega
  rcases hall with rfl | rfl | rfl | rfl | rfl | rfl | rfl | rfl | rfl | rfl | rfl | rfl | rfl | rfl
  · exact do1_any s b B w h hl hB hBb
  · exact do5_any s b B w h hl hB hBb
  · exact do6_any s b B w h hl hB hBb
  · exact do7_any s b B w h hl hB hBb
  · exact do10_any s b B w h hl hB hBb
  · exact do11_any s b B w h hl hB hBb
  · exact do14_any s b B w h hl hB hBb
  · exact do15_any s b B w h hl hB hBb
  · exact do16_any s b B w h hl hB hBb
  · exact do17_any s b B w h hl hB hBb
  · exact do18_any s b B w h hl hB hBb
  · exact do19_any s b B w h hl hB hBb
  · exact do20_any s b B w h hl hB hBb
  · exact do21_any s b B w h hl hB hBb
end Go.Proofs.YtmjjkenblfndgaaGreat


/- verify's stack: call; verify.behind. -/
namespace Go.Proofs.YtmjjkenblfndgaaGreat
open Go.RowKit
set_option linter.unusedSimpArgs false
set_option linter.unusedVariables false
theorem ints_take {w : World} {p : Option Addr} {q k : Nat} {L : List Int} (h : IntsAt w (.slice p L.length q) L) (hk : k ≤ L.length) : IntsAt w (.slice p k q) (L.take k) := by
  obtain ⟨p', q', he, hm, hc⟩ := h
  cases he
  refine ⟨p, q, by rw [List.length_take, Nat.min_eq_left hk], by rw [List.length_take]; omega, fun j z hj => ?_⟩
  have hj2 : j < k := by have := xadZ hj; rw [List.length_take] at this; omega
  rw [List.getElem?_take_of_lt hj2] at hj
  exact hc j z hj
theorem call_any (g : Fn) (c0 c1 c2 c3 : Value) (s : St) (b B : Nat) (w : World) (h : SA w b B s) (hl : s.1.length ≤ 100) (hB : B ≤ w.heap.size) (hBb : B ≤ b) (hg : FnAt w c0 c1 c2 c3 g) (hP : 0 ≤ g.1 ∧ g.1 ≤ (g.2.1.length : Int)) (h6 : g.2.1.length ≤ 6) (hcap : ∀ p n c, c1 = .slice p n c → n ≤ c) : Calls Tryz.prog 211 #[.pointer (some ⟨b, 0, none⟩), .agg #[c0, c1, c2, c3]] w fun e w' => e = .returned (.tuple #[]) ∧ SA w' b B (lv (tk s (g.2.1.take g.1.toNat)) (resL g)) ∧ Below B w w' := by
  obtain ⟨P, L, r, C⟩ := g
  have hg' := hg
  obtain ⟨rfl, hI, rfl, hO⟩ := hg'
  simp only at hP h6 hI hO
  obtain ⟨p1, q1, rfl, _, _⟩ := id hI
  obtain ⟨p3, q3, rfl, _, _⟩ := id hO
  obtain ⟨k, rfl⟩ : ∃ k : Nat, P = k := ⟨P.toNat, by omega⟩
  have hk : k ≤ L.length := by omega
  have hq1 : k ≤ q1 := by have := hcap _ _ _ rfl; omega
  obtain ⟨W1, hW1⟩ : ∃ W1, w.alloc (.cells #[.int .i64 k, .slice p1 L.length q1, .int .i64 r, .slice p3 C.length q3] 119) = W1 := ⟨_, rfl⟩
  have hw1 : Below w.heap.size w W1 := by rw [← hW1]; exact (Below.refl _ w).alloc (Nat.le_refl _) _
  have hh : W1.heap[w.heap.size]? = some (.cells #[.int .i64 k, .slice p1 L.length q1, .int .i64 r, .slice p3 C.length q3] 119 (0, 0)) := by rw [← hW1]; exact World.alloc_heap_new w _
  have d0 := xaaZ hh 0
  have d1 := xaaZ hh 1
  have d2 := xaaZ hh 2
  have d3 := xaaZ hh 3
  simp at d0 d1 d2 d3
  have hz := xacZ hh
  have HI1 := hideP (ints_take (hI.below hw1) hk)
  have HS1 := hideP (h.kept hw1)
  have HG1 := hideP (hg.below hw1)
  have hB1 : B ≤ W1.heap.size := Nat.le_trans hB hw1.size
  have hlt : (L.take k).length ≤ 100 := by rw [List.length_take]; omega
  have HH := hideP hh
  have e0 : ((k : Nat) : Int).toNat = k := by omega
  simp only [e0]
  have hblt := StAt.lt h
  clear h hg hI hO hh e0 hP hcap
  go_enter Tryz.func211, Tryz.ntmps211
  have hbl : b < w.heap.size := hblt
  go_wp2_with fail
  have hlen : (L.take k).length = k := by rw [List.length_take, Nat.min_eq_left hk]
  have hI1 := HI1.out
  rw [← hlen] at hI1
  have htk := xmtZ s.1 (L.take k) s.2 b B p1 q1 W1 HS1.out (by rw [hlen]; rw [hlen] at hI1; exact hI1) hB1 hBb hl hlt
  rw [hlen] at htk
  have HTK := hideP htk
  clear hI1 htk
  refine HTK.out.mono ?_
  rintro e w2 ⟨rfl, hs2, hg2⟩
  have hS2 : SA w2 b B (tk s (L.take k)) := by
    have := hs2
    rw [← hlen] at this
    unfold SA tk
    rw [hlen] at this ⊢
    exact this
  have hl2 := Nat.le_trans (xebZ s (L.take k)) hl
  have hB2 : B ≤ w2.heap.size := Nat.le_trans hB1 hg2.size
  have hne : (some w.heap.size : Option Nat) ≠ some b := fun e => by have e2 : w.heap.size = b := (by simpa using e); omega
  have g0 := hg2.cell d0 hne
  have g1 := hg2.cell d1 hne
  have g2 := hg2.cell d2 hne
  have g3 := hg2.cell d3 hne
  have hBel2 : Below B W1 w2 := (Below.refl B W1).grown hg2 hB1 (fun k hk => by cases hk; exact hBb)
  clear hs2
  go_wp2_with fail
  refine (xk3Z k r p1 p3 L.length q1 C.length q3 w2).mono ?_
  rintro e w3 ⟨u, rfl, hr3, hb3⟩
  have hR3 : w3.ownsRow w2.heap.size 3 1 u (resL (k, L, r, C)).length ((resL (k, L, r, C)).map (Value.int .i64)) := hr3
  have hrl : (resL ((k : Int), L, r, C)).length ≤ 100 := by unfold resL; split <;> simp
  have HR3 := hideP (xbaZ rfl hR3)
  have HN3 := hideP (xdiZ hR3)
  have hS3 := hS2.kept hb3
  have hB3 : B ≤ w3.heap.size := Nat.le_trans hB2 hb3.size
  clear hr3 hR3
  go_wp2_with fail
  refine (xcjZ _ _ b B u w3 hS3 HR3.out HN3.out hl2 hrl hB3 hBb).mono ?_
  rintro e w4 ⟨rfl, hs4, hb4⟩
  go_wp2
  go_end0
  exact ⟨rfl, hs4, (hw1.mono hB).trans (hBel2.trans ((hb3.mono hB2).trans hb4))⟩
end Go.Proofs.YtmjjkenblfndgaaGreat


