/- Next, Reach and Back answer just what the document says, errors too: for every slice of ops and number FlowTells returns true. No condition. -/
import Derived.Test.YtjcaapgecimooaaU13
import Derived.Test.YtjcaapgecimooaaU16
namespace Go.Proofs.Ytjcaapgecimooaa.flowTells
open Go.ChangeShapes Go.WideShapes Go.ChangeAt Go.RowKit
set_option linter.unusedVariables false
set_option linter.unusedSimpArgs false
theorem own : ownKnob Try.prog.godebug = none := by kernel_rfl
theorem laidOut : laidOutB Try.prog = true := by kernel_rfl
theorem bt {a b c : World} (h : Below a.heap.size a b) (k : Below b.heap.size b c) : Below a.heap.size a c := h.trans (k.mono h.size)
set_option maxHeartbeats 2000000 in
theorem intsAre_true (l : List Int) (x : Int) (v u : Value) (w : World) (hl : IntsAt w v l) (hu : x = 0 → IntsAt w u l) (hx : x ≠ 0 → l = []) (hs : ∃ p n c, u = .slice p n c) : Calls Try.prog 40 #[v, .int .i64 x, .int .i64 x, u] w fun e w' => e = .returned (.bool true) ∧ Below w.heap.size w w' := by
  have hS : ∀ (W : World) (v u : Value), IntsAt W v l → IntsAt W u l → Calls Try.prog 43 #[v, u] W fun e w' => e = .returned (.bool true) ∧ Below W.heap.size W w' := by
    intro W v u h1 h2
    have := sameInts_any l l v u W h1 h2
    rw [decide_eq_true rfl] at this
    exact this
  have HS := hideP hS
  obtain ⟨p, n, c, rfl⟩ := hs
  have hl' := hl
  obtain ⟨p', c', rfl, _, _⟩ := hl'
  clear hS
  by_cases h0 : x = 0
  · subst h0
    have hu' := hu rfl
    clear hu hx
    go_enter Try.func40, Try.ntmps40
    go_wp2_with (go_at_call 43; refine (HS.out _ _ _ hl hu').mono ?_; rintro e w2 ⟨rfl, hb2⟩)
    go_ret
    exact ⟨rfl, hb2⟩
  · have h0' : (x != 0) = true := by simp [h0]
    have h1' : (x == x) = true := by simp
    obtain rfl := hx h0
    have hn : IntsAt w (.slice none 0 0) [] := ⟨none, 0, rfl, by unfold maxLen; simp, fun k z hk => by simp at hk⟩
    clear hu hx
    go_enter Try.func40, Try.ntmps40
    go_wp2_with (go_at_call 43; refine (HS.out _ _ _ hl hn).mono ?_; rintro e w2 ⟨rfl, hb2⟩)
    go_ret
    exact ⟨rfl, hb2⟩
theorem nilInts (w : World) : IntsAt w (.slice none 0 0) [] := ⟨none, 0, rfl, by unfold maxLen; simp, fun k z hk => by simp at hk⟩
set_option maxRecDepth 100000 in
set_option maxHeartbeats 800000 in
theorem walkA (w : World) (l : List (Int × Int)) (v : Value) (hl : OpsAt w v l) (pc : Int) (N R K : List Int) (E : Int) (hE : E ≠ 0) (hN0 : N = []) (hR0 : R = []) (hK0 : K = [])
    (hN : ∀ W : World, OpsAt W v l → Calls Try.prog 31 #[v, .int .i64 pc] W fun e w' => ∃ p c, e = .returned (.tuple #[.slice p N.length c, .int .i64 (E)]) ∧ IntsAt w' (.slice p N.length c) N ∧ Below W.heap.size W w')
    (hR : ∀ W : World, OpsAt W v l → Calls Try.prog 35 #[v] W fun e w' => ∃ p c, e = .returned (.tuple #[.slice p R.length c, .int .i64 (E)]) ∧ IntsAt w' (.slice p R.length c) R ∧ Below W.heap.size W w')
    (hK : ∀ W : World, OpsAt W v l → Calls Try.prog 32 #[v, .int .i64 pc] W fun e w' => ∃ p c, e = .returned (.tuple #[.slice p K.length c, .int .i64 (E)]) ∧ IntsAt w' (.slice p K.length c) K ∧ Below W.heap.size W w')
    (hF : ∀ W : World, OpsAt W v l → Calls Try.prog 36 #[v] W fun e w' => e = .returned (.int .i64 (E)) ∧ Below W.heap.size W w')
    : Calls Try.prog 9 #[v, .int .i64 pc] w fun e w' => e = .returned (.bool true) ∧ Below w.heap.size w w' := by
  have hE' : (E == 0) = false := by simp [hE]
  have HE := hideP hE
  clear hE
  have HN0 := hideP hN0
  clear hN0
  have HR0 := hideP hR0
  clear hR0
  have HK0 := hideP hK0
  clear hK0
  have HL := hideP hl
  have HN := hideP hN
  have HR := hideP hR
  have HK := hideP hK
  have HF := hideP hF
  have hsl : ∃ p c, v = .slice p l.length c := by obtain ⟨p, c, h, _⟩ := hl; exact ⟨p, c, h⟩
  obtain ⟨pv, cv, rfl⟩ := hsl
  have hm : l.length ≤ 9223372036854775807 := by obtain ⟨_, _, h, h2, _⟩ := hl; unfold maxLen at h2; omega
  clear hl hN hR hK hF
  go_enter Try.func9, Try.ntmps9
  go_wp2_with fail
  refine (HN.out _ HL.out).mono ?_
  rintro e w1 ⟨p1, c1, rfl, i1, hb1⟩
  have hB1 := hb1
  have I1 := hideP i1
  clear i1
  go_wp2_with fail
  refine (HR.out _ (HL.out.below hB1)).mono ?_
  rintro e w2 ⟨p2, c2, rfl, i2, hb2⟩
  have hB2 := bt hB1 hb2
  have I1 := hideP (I1.out.below hb2)
  have I2 := hideP i2
  clear i2
  go_wp2_with fail
  refine (HK.out _ (HL.out.below hB2)).mono ?_
  rintro e w3 ⟨p3, c3, rfl, i3, hb3⟩
  have hB3 := bt hB2 hb3
  have I1 := hideP (I1.out.below hb3)
  have I2 := hideP (I2.out.below hb3)
  have I3 := hideP i3
  clear i3
  go_wp2_with fail
  refine (HF.out _ (HL.out.below hB3)).mono ?_
  rintro e w4 ⟨rfl, hb4⟩
  have hB4 := bt hB3 hb4
  have I1 := hideP (I1.out.below hb4)
  have I2 := hideP (I2.out.below hb4)
  have I3 := hideP (I3.out.below hb4)
  go_wp2_with fail
  refine (flowBegun_any _).mono ?_
  rintro e w5 ⟨rfl, hb5⟩
  have hB5 := bt hB4 hb5
  have I1 := hideP (I1.out.below hb5)
  have I2 := hideP (I2.out.below hb5)
  have I3 := hideP (I3.out.below hb5)
  go_wp2_with fail
  refine (intsAre_true N (E) _ _ _ I1.out (fun h => absurd h HE.out) (fun _ => HN0.out) ⟨_, _, _, rfl⟩).mono ?_
  rintro e w6 ⟨rfl, hb6⟩
  have hB6 := bt hB5 hb6
  have I1 := hideP (I1.out.below hb6)
  have I2 := hideP (I2.out.below hb6)
  have I3 := hideP (I3.out.below hb6)
  go_wp2_with fail
  refine (intsAre_true R (E) _ _ _ I2.out (fun h => absurd h HE.out) (fun _ => HR0.out) ⟨_, _, _, rfl⟩).mono ?_
  rintro e w7 ⟨rfl, hb7⟩
  have hB7 := bt hB6 hb7
  have I1 := hideP (I1.out.below hb7)
  have I2 := hideP (I2.out.below hb7)
  have I3 := hideP (I3.out.below hb7)
  go_wp2_with fail
  refine (intsAre_true K (E) _ _ _ I3.out (fun h => absurd h HE.out) (fun _ => HK0.out) ⟨_, _, _, rfl⟩).mono ?_
  rintro e w8 ⟨rfl, hb8⟩
  have hB8 := bt hB7 hb8
  have I1 := hideP (I1.out.below hb8)
  have I2 := hideP (I2.out.below hb8)
  have I3 := hideP (I3.out.below hb8)
  go_wp2
  go_ret
  exact ⟨rfl, hB8⟩
set_option maxRecDepth 100000 in
set_option maxHeartbeats 800000 in
theorem walkB (w : World) (l : List (Int × Int)) (v : Value) (hl : OpsAt w v l) (pc : Int) (N R K : List Int) (hp : 0 ≤ pc ∧ pc < (l.length : Int))
    (hN : ∀ W : World, OpsAt W v l → Calls Try.prog 31 #[v, .int .i64 pc] W fun e w' => ∃ p c, e = .returned (.tuple #[.slice p N.length c, .int .i64 (0)]) ∧ IntsAt w' (.slice p N.length c) N ∧ Below W.heap.size W w')
    (hR : ∀ W : World, OpsAt W v l → Calls Try.prog 35 #[v] W fun e w' => ∃ p c, e = .returned (.tuple #[.slice p R.length c, .int .i64 (0)]) ∧ IntsAt w' (.slice p R.length c) R ∧ Below W.heap.size W w')
    (hK : ∀ W : World, OpsAt W v l → Calls Try.prog 32 #[v, .int .i64 pc] W fun e w' => ∃ p c, e = .returned (.tuple #[.slice p K.length c, .int .i64 (0)]) ∧ IntsAt w' (.slice p K.length c) K ∧ Below W.heap.size W w')
    (hF : ∀ W : World, OpsAt W v l → Calls Try.prog 36 #[v] W fun e w' => e = .returned (.int .i64 (0)) ∧ Below W.heap.size W w')
    (hNo : ∀ W : World, OpsAt W v l → Calls Try.prog 37 #[v, .int .i64 pc] W fun e w' => ∃ p c, e = .returned (.slice p N.length c) ∧ IntsAt w' (.slice p N.length c) N ∧ Below W.heap.size W w')
    (hRo : ∀ W : World, OpsAt W v l → Calls Try.prog 38 #[v] W fun e w' => ∃ p c, e = .returned (.slice p R.length c) ∧ IntsAt w' (.slice p R.length c) R ∧ Below W.heap.size W w')
    (hBo : ∀ W : World, OpsAt W v l → Calls Try.prog 39 #[v, .int .i64 pc] W fun e w' => ∃ p c, e = .returned (.slice p K.length c) ∧ IntsAt w' (.slice p K.length c) K ∧ Below W.heap.size W w')
    : Calls Try.prog 9 #[v, .int .i64 pc] w fun e w' => e = .returned (.bool true) ∧ Below w.heap.size w w' := by
  have g1 : ¬ pc < 0 := by omega
  have g2 : ¬ pc ≥ (l.length : Int) := by omega
  have g3 : ¬ pc > (l.length : Int) := by omega
  clear hp
  have HL := hideP hl
  have HN := hideP hN
  have HR := hideP hR
  have HK := hideP hK
  have HF := hideP hF
  have hsl : ∃ p c, v = .slice p l.length c := by obtain ⟨p, c, h, _⟩ := hl; exact ⟨p, c, h⟩
  obtain ⟨pv, cv, rfl⟩ := hsl
  have hm : l.length ≤ 9223372036854775807 := by obtain ⟨_, _, h, h2, _⟩ := hl; unfold maxLen at h2; omega
  clear hl hN hR hK hF
  have HNO := hideP hNo
  clear hNo
  have HRO := hideP hRo
  clear hRo
  have HBO := hideP hBo
  clear hBo
  go_enter Try.func9, Try.ntmps9
  go_wp2_with fail
  refine (HN.out _ HL.out).mono ?_
  rintro e w1 ⟨p1, c1, rfl, i1, hb1⟩
  have hB1 := hb1
  have I1 := hideP i1
  clear i1
  go_wp2_with fail
  refine (HR.out _ (HL.out.below hB1)).mono ?_
  rintro e w2 ⟨p2, c2, rfl, i2, hb2⟩
  have hB2 := bt hB1 hb2
  have I1 := hideP (I1.out.below hb2)
  have I2 := hideP i2
  clear i2
  go_wp2_with fail
  refine (HK.out _ (HL.out.below hB2)).mono ?_
  rintro e w3 ⟨p3, c3, rfl, i3, hb3⟩
  have hB3 := bt hB2 hb3
  have I1 := hideP (I1.out.below hb3)
  have I2 := hideP (I2.out.below hb3)
  have I3 := hideP i3
  clear i3
  go_wp2_with fail
  refine (HF.out _ (HL.out.below hB3)).mono ?_
  rintro e w4 ⟨rfl, hb4⟩
  have hB4 := bt hB3 hb4
  have I1 := hideP (I1.out.below hb4)
  have I2 := hideP (I2.out.below hb4)
  have I3 := hideP (I3.out.below hb4)
  go_wp2_with fail
  refine (HNO.out _ (HL.out.below hB4)).mono ?_
  rintro e w5 ⟨p5, c5, rfl, i5, hb5⟩
  have hB5 := bt hB4 hb5
  have I1 := hideP (I1.out.below hb5)
  have I2 := hideP (I2.out.below hb5)
  have I3 := hideP (I3.out.below hb5)
  have J1 := hideP i5
  clear i5
  go_wp2_with fail
  refine (HRO.out _ (HL.out.below hB5)).mono ?_
  rintro e w6 ⟨p6, c6, rfl, i6, hb6⟩
  have hB6 := bt hB5 hb6
  have I1 := hideP (I1.out.below hb6)
  have I2 := hideP (I2.out.below hb6)
  have I3 := hideP (I3.out.below hb6)
  have J1 := hideP (J1.out.below hb6)
  have J2 := hideP i6
  clear i6
  go_wp2_with fail
  refine (HBO.out _ (HL.out.below hB6)).mono ?_
  rintro e w7 ⟨p7, c7, rfl, i7, hb7⟩
  have hB7 := bt hB6 hb7
  have I1 := hideP (I1.out.below hb7)
  have I2 := hideP (I2.out.below hb7)
  have I3 := hideP (I3.out.below hb7)
  have J1 := hideP (J1.out.below hb7)
  have J2 := hideP (J2.out.below hb7)
  have J3 := hideP i7
  clear i7
  go_wp2_with fail
  refine (flowBegun_any _).mono ?_
  rintro e w8 ⟨rfl, hb8⟩
  have hB8 := bt hB7 hb8
  have I1 := hideP (I1.out.below hb8)
  have I2 := hideP (I2.out.below hb8)
  have I3 := hideP (I3.out.below hb8)
  have J1 := hideP (J1.out.below hb8)
  have J2 := hideP (J2.out.below hb8)
  have J3 := hideP (J3.out.below hb8)
  go_wp2_with fail
  refine (intsAre_true N 0 _ _ _ I1.out (fun _ => J1.out) (fun h => absurd rfl h) ⟨_, _, _, rfl⟩).mono ?_
  rintro e w9 ⟨rfl, hb9⟩
  have hB9 := bt hB8 hb9
  have I1 := hideP (I1.out.below hb9)
  have I2 := hideP (I2.out.below hb9)
  have I3 := hideP (I3.out.below hb9)
  have J1 := hideP (J1.out.below hb9)
  have J2 := hideP (J2.out.below hb9)
  have J3 := hideP (J3.out.below hb9)
  go_wp2_with fail
  refine (intsAre_true R 0 _ _ _ I2.out (fun _ => J2.out) (fun h => absurd rfl h) ⟨_, _, _, rfl⟩).mono ?_
  rintro e w10 ⟨rfl, hb10⟩
  have hB10 := bt hB9 hb10
  have I1 := hideP (I1.out.below hb10)
  have I2 := hideP (I2.out.below hb10)
  have I3 := hideP (I3.out.below hb10)
  have J1 := hideP (J1.out.below hb10)
  have J2 := hideP (J2.out.below hb10)
  have J3 := hideP (J3.out.below hb10)
  go_wp2_with fail
  refine (intsAre_true K 0 _ _ _ I3.out (fun _ => J3.out) (fun h => absurd rfl h) ⟨_, _, _, rfl⟩).mono ?_
  rintro e w11 ⟨rfl, hb11⟩
  have hB11 := bt hB10 hb11
  have I1 := hideP (I1.out.below hb11)
  have I2 := hideP (I2.out.below hb11)
  have I3 := hideP (I3.out.below hb11)
  have J1 := hideP (J1.out.below hb11)
  have J2 := hideP (J2.out.below hb11)
  have J3 := hideP (J3.out.below hb11)
  go_wp2
  go_ret
  exact ⟨rfl, hB11⟩
set_option maxRecDepth 100000 in
set_option maxHeartbeats 800000 in
theorem walkC (w : World) (l : List (Int × Int)) (v : Value) (hl : OpsAt w v l) (pc : Int) (N R K : List Int) (hp : pc = (l.length : Int)) (hN0 : N = [])
    (hN : ∀ W : World, OpsAt W v l → Calls Try.prog 31 #[v, .int .i64 pc] W fun e w' => ∃ p c, e = .returned (.tuple #[.slice p N.length c, .int .i64 (3)]) ∧ IntsAt w' (.slice p N.length c) N ∧ Below W.heap.size W w')
    (hR : ∀ W : World, OpsAt W v l → Calls Try.prog 35 #[v] W fun e w' => ∃ p c, e = .returned (.tuple #[.slice p R.length c, .int .i64 (0)]) ∧ IntsAt w' (.slice p R.length c) R ∧ Below W.heap.size W w')
    (hK : ∀ W : World, OpsAt W v l → Calls Try.prog 32 #[v, .int .i64 pc] W fun e w' => ∃ p c, e = .returned (.tuple #[.slice p K.length c, .int .i64 (0)]) ∧ IntsAt w' (.slice p K.length c) K ∧ Below W.heap.size W w')
    (hF : ∀ W : World, OpsAt W v l → Calls Try.prog 36 #[v] W fun e w' => e = .returned (.int .i64 (0)) ∧ Below W.heap.size W w')
    (hRo : ∀ W : World, OpsAt W v l → Calls Try.prog 38 #[v] W fun e w' => ∃ p c, e = .returned (.slice p R.length c) ∧ IntsAt w' (.slice p R.length c) R ∧ Below W.heap.size W w')
    (hBo : ∀ W : World, OpsAt W v l → Calls Try.prog 39 #[v, .int .i64 pc] W fun e w' => ∃ p c, e = .returned (.slice p K.length c) ∧ IntsAt w' (.slice p K.length c) K ∧ Below W.heap.size W w')
    : Calls Try.prog 9 #[v, .int .i64 pc] w fun e w' => e = .returned (.bool true) ∧ Below w.heap.size w w' := by
  have g1 : ¬ pc < 0 := by omega
  have g2 : pc ≥ (l.length : Int) := by omega
  have g3 : ¬ pc > (l.length : Int) := by omega
  clear hp
  have HN0 := hideP hN0
  clear hN0
  have HL := hideP hl
  have HN := hideP hN
  have HR := hideP hR
  have HK := hideP hK
  have HF := hideP hF
  have hsl : ∃ p c, v = .slice p l.length c := by obtain ⟨p, c, h, _⟩ := hl; exact ⟨p, c, h⟩
  obtain ⟨pv, cv, rfl⟩ := hsl
  have hm : l.length ≤ 9223372036854775807 := by obtain ⟨_, _, h, h2, _⟩ := hl; unfold maxLen at h2; omega
  clear hl hN hR hK hF
  have HRO := hideP hRo
  clear hRo
  have HBO := hideP hBo
  clear hBo
  go_enter Try.func9, Try.ntmps9
  go_wp2_with fail
  refine (HN.out _ HL.out).mono ?_
  rintro e w1 ⟨p1, c1, rfl, i1, hb1⟩
  have hB1 := hb1
  have I1 := hideP i1
  clear i1
  go_wp2_with fail
  refine (HR.out _ (HL.out.below hB1)).mono ?_
  rintro e w2 ⟨p2, c2, rfl, i2, hb2⟩
  have hB2 := bt hB1 hb2
  have I1 := hideP (I1.out.below hb2)
  have I2 := hideP i2
  clear i2
  go_wp2_with fail
  refine (HK.out _ (HL.out.below hB2)).mono ?_
  rintro e w3 ⟨p3, c3, rfl, i3, hb3⟩
  have hB3 := bt hB2 hb3
  have I1 := hideP (I1.out.below hb3)
  have I2 := hideP (I2.out.below hb3)
  have I3 := hideP i3
  clear i3
  go_wp2_with fail
  refine (HF.out _ (HL.out.below hB3)).mono ?_
  rintro e w4 ⟨rfl, hb4⟩
  have hB4 := bt hB3 hb4
  have I1 := hideP (I1.out.below hb4)
  have I2 := hideP (I2.out.below hb4)
  have I3 := hideP (I3.out.below hb4)
  go_wp2_with fail
  refine (HRO.out _ (HL.out.below hB4)).mono ?_
  rintro e w5 ⟨p6, c6, rfl, i6, hb5⟩
  have hB5 := bt hB4 hb5
  have I1 := hideP (I1.out.below hb5)
  have I2 := hideP (I2.out.below hb5)
  have I3 := hideP (I3.out.below hb5)
  have J2 := hideP i6
  clear i6
  go_wp2_with fail
  refine (HBO.out _ (HL.out.below hB5)).mono ?_
  rintro e w6 ⟨p7, c7, rfl, i7, hb6⟩
  have hB6 := bt hB5 hb6
  have I1 := hideP (I1.out.below hb6)
  have I2 := hideP (I2.out.below hb6)
  have I3 := hideP (I3.out.below hb6)
  have J2 := hideP (J2.out.below hb6)
  have J3 := hideP i7
  clear i7
  go_wp2_with fail
  refine (flowBegun_any _).mono ?_
  rintro e w7 ⟨rfl, hb7⟩
  have hB7 := bt hB6 hb7
  have I1 := hideP (I1.out.below hb7)
  have I2 := hideP (I2.out.below hb7)
  have I3 := hideP (I3.out.below hb7)
  have J2 := hideP (J2.out.below hb7)
  have J3 := hideP (J3.out.below hb7)
  go_wp2_with fail
  refine (intsAre_true N (3) _ _ _ I1.out (fun h => absurd h (by decide)) (fun _ => HN0.out) ⟨_, _, _, rfl⟩).mono ?_
  rintro e w8 ⟨rfl, hb8⟩
  have hB8 := bt hB7 hb8
  have I1 := hideP (I1.out.below hb8)
  have I2 := hideP (I2.out.below hb8)
  have I3 := hideP (I3.out.below hb8)
  have J2 := hideP (J2.out.below hb8)
  have J3 := hideP (J3.out.below hb8)
  go_wp2_with fail
  refine (intsAre_true R 0 _ _ _ I2.out (fun _ => J2.out) (fun h => absurd rfl h) ⟨_, _, _, rfl⟩).mono ?_
  rintro e w9 ⟨rfl, hb9⟩
  have hB9 := bt hB8 hb9
  have I1 := hideP (I1.out.below hb9)
  have I2 := hideP (I2.out.below hb9)
  have I3 := hideP (I3.out.below hb9)
  have J2 := hideP (J2.out.below hb9)
  have J3 := hideP (J3.out.below hb9)
  go_wp2_with fail
  refine (intsAre_true K 0 _ _ _ I3.out (fun _ => J3.out) (fun h => absurd rfl h) ⟨_, _, _, rfl⟩).mono ?_
  rintro e w10 ⟨rfl, hb10⟩
  have hB10 := bt hB9 hb10
  have I1 := hideP (I1.out.below hb10)
  have I2 := hideP (I2.out.below hb10)
  have I3 := hideP (I3.out.below hb10)
  have J2 := hideP (J2.out.below hb10)
  have J3 := hideP (J3.out.below hb10)
  go_wp2
  go_ret
  exact ⟨rfl, hB10⟩
set_option maxRecDepth 100000 in
set_option maxHeartbeats 800000 in
theorem walkD (w : World) (l : List (Int × Int)) (v : Value) (hl : OpsAt w v l) (pc : Int) (N R K : List Int) (hp : pc < 0) (hN0 : N = []) (hK0 : K = [])
    (hN : ∀ W : World, OpsAt W v l → Calls Try.prog 31 #[v, .int .i64 pc] W fun e w' => ∃ p c, e = .returned (.tuple #[.slice p N.length c, .int .i64 (3)]) ∧ IntsAt w' (.slice p N.length c) N ∧ Below W.heap.size W w')
    (hR : ∀ W : World, OpsAt W v l → Calls Try.prog 35 #[v] W fun e w' => ∃ p c, e = .returned (.tuple #[.slice p R.length c, .int .i64 (0)]) ∧ IntsAt w' (.slice p R.length c) R ∧ Below W.heap.size W w')
    (hK : ∀ W : World, OpsAt W v l → Calls Try.prog 32 #[v, .int .i64 pc] W fun e w' => ∃ p c, e = .returned (.tuple #[.slice p K.length c, .int .i64 (3)]) ∧ IntsAt w' (.slice p K.length c) K ∧ Below W.heap.size W w')
    (hF : ∀ W : World, OpsAt W v l → Calls Try.prog 36 #[v] W fun e w' => e = .returned (.int .i64 (0)) ∧ Below W.heap.size W w')
    (hRo : ∀ W : World, OpsAt W v l → Calls Try.prog 38 #[v] W fun e w' => ∃ p c, e = .returned (.slice p R.length c) ∧ IntsAt w' (.slice p R.length c) R ∧ Below W.heap.size W w')
    : Calls Try.prog 9 #[v, .int .i64 pc] w fun e w' => e = .returned (.bool true) ∧ Below w.heap.size w w' := by
  have HN0 := hideP hN0
  clear hN0
  have HK0 := hideP hK0
  clear hK0
  have HL := hideP hl
  have HN := hideP hN
  have HR := hideP hR
  have HK := hideP hK
  have HF := hideP hF
  have hsl : ∃ p c, v = .slice p l.length c := by obtain ⟨p, c, h, _⟩ := hl; exact ⟨p, c, h⟩
  obtain ⟨pv, cv, rfl⟩ := hsl
  have hm : l.length ≤ 9223372036854775807 := by obtain ⟨_, _, h, h2, _⟩ := hl; unfold maxLen at h2; omega
  clear hl hN hR hK hF
  have HRO := hideP hRo
  clear hRo
  go_enter Try.func9, Try.ntmps9
  go_wp2_with fail
  refine (HN.out _ HL.out).mono ?_
  rintro e w1 ⟨p1, c1, rfl, i1, hb1⟩
  have hB1 := hb1
  have I1 := hideP i1
  clear i1
  go_wp2_with fail
  refine (HR.out _ (HL.out.below hB1)).mono ?_
  rintro e w2 ⟨p2, c2, rfl, i2, hb2⟩
  have hB2 := bt hB1 hb2
  have I1 := hideP (I1.out.below hb2)
  have I2 := hideP i2
  clear i2
  go_wp2_with fail
  refine (HK.out _ (HL.out.below hB2)).mono ?_
  rintro e w3 ⟨p3, c3, rfl, i3, hb3⟩
  have hB3 := bt hB2 hb3
  have I1 := hideP (I1.out.below hb3)
  have I2 := hideP (I2.out.below hb3)
  have I3 := hideP i3
  clear i3
  go_wp2_with fail
  refine (HF.out _ (HL.out.below hB3)).mono ?_
  rintro e w4 ⟨rfl, hb4⟩
  have hB4 := bt hB3 hb4
  have I1 := hideP (I1.out.below hb4)
  have I2 := hideP (I2.out.below hb4)
  have I3 := hideP (I3.out.below hb4)
  go_wp2_with fail
  refine (HRO.out _ (HL.out.below hB4)).mono ?_
  rintro e w5 ⟨p6, c6, rfl, i6, hb5⟩
  have hB5 := bt hB4 hb5
  have I1 := hideP (I1.out.below hb5)
  have I2 := hideP (I2.out.below hb5)
  have I3 := hideP (I3.out.below hb5)
  have J2 := hideP i6
  clear i6
  go_wp2_with fail
  refine (flowBegun_any _).mono ?_
  rintro e w6 ⟨rfl, hb6⟩
  have hB6 := bt hB5 hb6
  have I1 := hideP (I1.out.below hb6)
  have I2 := hideP (I2.out.below hb6)
  have I3 := hideP (I3.out.below hb6)
  have J2 := hideP (J2.out.below hb6)
  go_wp2_with fail
  refine (intsAre_true N (3) _ _ _ I1.out (fun h => absurd h (by decide)) (fun _ => HN0.out) ⟨_, _, _, rfl⟩).mono ?_
  rintro e w7 ⟨rfl, hb7⟩
  have hB7 := bt hB6 hb7
  have I1 := hideP (I1.out.below hb7)
  have I2 := hideP (I2.out.below hb7)
  have I3 := hideP (I3.out.below hb7)
  have J2 := hideP (J2.out.below hb7)
  go_wp2_with fail
  refine (intsAre_true R 0 _ _ _ I2.out (fun _ => J2.out) (fun h => absurd rfl h) ⟨_, _, _, rfl⟩).mono ?_
  rintro e w8 ⟨rfl, hb8⟩
  have hB8 := bt hB7 hb8
  have I1 := hideP (I1.out.below hb8)
  have I2 := hideP (I2.out.below hb8)
  have I3 := hideP (I3.out.below hb8)
  have J2 := hideP (J2.out.below hb8)
  go_wp2_with fail
  refine (intsAre_true K (3) _ _ _ I3.out (fun h => absurd h (by decide)) (fun _ => HK0.out) ⟨_, _, _, rfl⟩).mono ?_
  rintro e w9 ⟨rfl, hb9⟩
  have hB9 := bt hB8 hb9
  have I1 := hideP (I1.out.below hb9)
  have I2 := hideP (I2.out.below hb9)
  have I3 := hideP (I3.out.below hb9)
  have J2 := hideP (J2.out.below hb9)
  go_wp2
  go_ret
  exact ⟨rfl, hB9⟩
set_option maxRecDepth 100000 in
set_option maxHeartbeats 800000 in
theorem walkE (w : World) (l : List (Int × Int)) (v : Value) (hl : OpsAt w v l) (pc : Int) (N R K : List Int) (hp : pc > (l.length : Int)) (hN0 : N = []) (hK0 : K = [])
    (hN : ∀ W : World, OpsAt W v l → Calls Try.prog 31 #[v, .int .i64 pc] W fun e w' => ∃ p c, e = .returned (.tuple #[.slice p N.length c, .int .i64 (3)]) ∧ IntsAt w' (.slice p N.length c) N ∧ Below W.heap.size W w')
    (hR : ∀ W : World, OpsAt W v l → Calls Try.prog 35 #[v] W fun e w' => ∃ p c, e = .returned (.tuple #[.slice p R.length c, .int .i64 (0)]) ∧ IntsAt w' (.slice p R.length c) R ∧ Below W.heap.size W w')
    (hK : ∀ W : World, OpsAt W v l → Calls Try.prog 32 #[v, .int .i64 pc] W fun e w' => ∃ p c, e = .returned (.tuple #[.slice p K.length c, .int .i64 (3)]) ∧ IntsAt w' (.slice p K.length c) K ∧ Below W.heap.size W w')
    (hF : ∀ W : World, OpsAt W v l → Calls Try.prog 36 #[v] W fun e w' => e = .returned (.int .i64 (0)) ∧ Below W.heap.size W w')
    (hRo : ∀ W : World, OpsAt W v l → Calls Try.prog 38 #[v] W fun e w' => ∃ p c, e = .returned (.slice p R.length c) ∧ IntsAt w' (.slice p R.length c) R ∧ Below W.heap.size W w')
    : Calls Try.prog 9 #[v, .int .i64 pc] w fun e w' => e = .returned (.bool true) ∧ Below w.heap.size w w' := by
  have g1 : ¬ pc < 0 := by omega
  have g2 : pc ≥ (l.length : Int) := by omega
  have HN0 := hideP hN0
  clear hN0
  have HK0 := hideP hK0
  clear hK0
  have HL := hideP hl
  have HN := hideP hN
  have HR := hideP hR
  have HK := hideP hK
  have HF := hideP hF
  have hsl : ∃ p c, v = .slice p l.length c := by obtain ⟨p, c, h, _⟩ := hl; exact ⟨p, c, h⟩
  obtain ⟨pv, cv, rfl⟩ := hsl
  have hm : l.length ≤ 9223372036854775807 := by obtain ⟨_, _, h, h2, _⟩ := hl; unfold maxLen at h2; omega
  clear hl hN hR hK hF
  have HRO := hideP hRo
  clear hRo
  go_enter Try.func9, Try.ntmps9
  go_wp2_with fail
  refine (HN.out _ HL.out).mono ?_
  rintro e w1 ⟨p1, c1, rfl, i1, hb1⟩
  have hB1 := hb1
  have I1 := hideP i1
  clear i1
  go_wp2_with fail
  refine (HR.out _ (HL.out.below hB1)).mono ?_
  rintro e w2 ⟨p2, c2, rfl, i2, hb2⟩
  have hB2 := bt hB1 hb2
  have I1 := hideP (I1.out.below hb2)
  have I2 := hideP i2
  clear i2
  go_wp2_with fail
  refine (HK.out _ (HL.out.below hB2)).mono ?_
  rintro e w3 ⟨p3, c3, rfl, i3, hb3⟩
  have hB3 := bt hB2 hb3
  have I1 := hideP (I1.out.below hb3)
  have I2 := hideP (I2.out.below hb3)
  have I3 := hideP i3
  clear i3
  go_wp2_with fail
  refine (HF.out _ (HL.out.below hB3)).mono ?_
  rintro e w4 ⟨rfl, hb4⟩
  have hB4 := bt hB3 hb4
  have I1 := hideP (I1.out.below hb4)
  have I2 := hideP (I2.out.below hb4)
  have I3 := hideP (I3.out.below hb4)
  go_wp2_with fail
  refine (HRO.out _ (HL.out.below hB4)).mono ?_
  rintro e w5 ⟨p6, c6, rfl, i6, hb5⟩
  have hB5 := bt hB4 hb5
  have I1 := hideP (I1.out.below hb5)
  have I2 := hideP (I2.out.below hb5)
  have I3 := hideP (I3.out.below hb5)
  have J2 := hideP i6
  clear i6
  go_wp2_with fail
  refine (flowBegun_any _).mono ?_
  rintro e w6 ⟨rfl, hb6⟩
  have hB6 := bt hB5 hb6
  have I1 := hideP (I1.out.below hb6)
  have I2 := hideP (I2.out.below hb6)
  have I3 := hideP (I3.out.below hb6)
  have J2 := hideP (J2.out.below hb6)
  go_wp2_with fail
  refine (intsAre_true N (3) _ _ _ I1.out (fun h => absurd h (by decide)) (fun _ => HN0.out) ⟨_, _, _, rfl⟩).mono ?_
  rintro e w7 ⟨rfl, hb7⟩
  have hB7 := bt hB6 hb7
  have I1 := hideP (I1.out.below hb7)
  have I2 := hideP (I2.out.below hb7)
  have I3 := hideP (I3.out.below hb7)
  have J2 := hideP (J2.out.below hb7)
  go_wp2_with fail
  refine (intsAre_true R 0 _ _ _ I2.out (fun _ => J2.out) (fun h => absurd rfl h) ⟨_, _, _, rfl⟩).mono ?_
  rintro e w8 ⟨rfl, hb8⟩
  have hB8 := bt hB7 hb8
  have I1 := hideP (I1.out.below hb8)
  have I2 := hideP (I2.out.below hb8)
  have I3 := hideP (I3.out.below hb8)
  have J2 := hideP (J2.out.below hb8)
  go_wp2_with fail
  refine (intsAre_true K (3) _ _ _ I3.out (fun h => absurd h (by decide)) (fun _ => HK0.out) ⟨_, _, _, rfl⟩).mono ?_
  rintro e w9 ⟨rfl, hb9⟩
  have hB9 := bt hB8 hb9
  have I1 := hideP (I1.out.below hb9)
  have I2 := hideP (I2.out.below hb9)
  have I3 := hideP (I3.out.below hb9)
  have J2 := hideP (J2.out.below hb9)
  go_wp2
  go_ret
  exact ⟨rfl, hB9⟩
theorem walk (w : World) (l : List (Int × Int)) (v : Value) (hl : OpsAt w v l) (pc : Int) (hpc : -9223372036854775808 ≤ pc ∧ pc ≤ 9223372036854775807) :
    Calls Try.prog 9 #[v, .int .i64 pc] w fun e w' => e = .returned (.bool true) ∧ Below w.heap.size w w' := by
  have hN : ∀ W : World, OpsAt W v l → Calls Try.prog 31 #[v, .int .i64 pc] W fun e w' => ∃ p c, e = .returned (.tuple #[.slice p (nextR l pc).length c, .int .i64 (nextErr l pc)]) ∧ IntsAt w' (.slice p (nextR l pc).length c) (nextR l pc) ∧ Below W.heap.size W w' := by
    intro W h
    refine (flowNext_any l pc v W h).mono ?_
    rintro e w' ⟨u, rfl, hr, hb⟩
    obtain ⟨p, c, rfl⟩ := row_shp hr
    exact ⟨_, _, rfl, intsAt_of_row rfl hr, hb⟩
  have hR : ∀ W : World, OpsAt W v l → Calls Try.prog 35 #[v] W fun e w' => ∃ p c, e = .returned (.tuple #[.slice p (reachR l).length c, .int .i64 (flowErr l)]) ∧ IntsAt w' (.slice p (reachR l).length c) (reachR l) ∧ Below W.heap.size W w' := by
    intro W h
    refine (flowReach_any l v W h).mono ?_
    rintro e w' ⟨u, rfl, hr, hb⟩
    obtain ⟨p, c, rfl⟩ := row_shp hr
    exact ⟨_, _, rfl, intsAt_of_row rfl hr, hb⟩
  have hK : ∀ W : World, OpsAt W v l → Calls Try.prog 32 #[v, .int .i64 pc] W fun e w' => ∃ p c, e = .returned (.tuple #[.slice p (backR l pc).length c, .int .i64 (backErr l pc)]) ∧ IntsAt w' (.slice p (backR l pc).length c) (backR l pc) ∧ Below W.heap.size W w' := by
    intro W h
    refine (flowBack_any l pc v W h).mono ?_
    rintro e w' ⟨u, rfl, hr, hb⟩
    obtain ⟨p, c, rfl⟩ := row_shp hr
    exact ⟨_, _, rfl, intsAt_of_row rfl hr, hb⟩
  have hF : ∀ W : World, OpsAt W v l → Calls Try.prog 36 #[v] W fun e w' => e = .returned (.int .i64 (flowErr l)) ∧ Below W.heap.size W w' := fun W h => checkFlow_any l v W h
  by_cases hf : flowErr l = 0
  · have h40 := flowErr_40 hf
    have hRo : ∀ W : World, OpsAt W v l → Calls Try.prog 38 #[v] W fun e w' => ∃ p c, e = .returned (.slice p (reachR l).length c) ∧ IntsAt w' (.slice p (reachR l).length c) (reachR l) ∧ Below W.heap.size W w' := by
      intro W h
      refine (reachOf_any l v W h hf).mono ?_
      rintro e w' ⟨u, rfl, hr, hb⟩
      obtain ⟨p, c, rfl⟩ := row_shp hr
      exact ⟨_, _, rfl, intsAt_of_row rfl hr, hb⟩
    rw [hf] at hR hF
    by_cases h1 : pc < 0
    · have en : nextErr l pc = 3 := by rw [nextErr, if_neg (by simp [hf]), if_pos (by omega)]
      have eb : backErr l pc = 3 := by rw [backErr, if_neg (by simp [hf]), if_pos (by omega)]
      have rn : nextR l pc = [] := by rw [nextR, if_neg (by rw [en]; decide)]
      have rb : backR l pc = [] := by rw [backR, if_neg (by rw [eb]; decide)]
      rw [en] at hN
      rw [eb] at hK
      exact walkD w l v hl pc _ _ _ h1 rn rb hN hR hK hF hRo
    by_cases h2 : pc > (l.length : Int)
    · have en : nextErr l pc = 3 := by rw [nextErr, if_neg (by simp [hf]), if_pos (by omega)]
      have eb : backErr l pc = 3 := by rw [backErr, if_neg (by simp [hf]), if_pos (by omega)]
      have rn : nextR l pc = [] := by rw [nextR, if_neg (by rw [en]; decide)]
      have rb : backR l pc = [] := by rw [backR, if_neg (by rw [eb]; decide)]
      rw [en] at hN
      rw [eb] at hK
      exact walkE w l v hl pc _ _ _ h2 rn rb hN hR hK hF hRo
    have eb : backErr l pc = 0 := by rw [backErr, if_neg (by simp [hf]), if_neg (by omega)]
    obtain ⟨t, rfl⟩ : ∃ t : Nat, pc = t := ⟨pc.toNat, by omega⟩
    have hBo : ∀ W : World, OpsAt W v l → Calls Try.prog 39 #[v, .int .i64 t] W fun e w' => ∃ p c, e = .returned (.slice p (backR l t).length c) ∧ IntsAt w' (.slice p (backR l t).length c) (backR l t) ∧ Below W.heap.size W w' := by
      intro W h
      refine (backOf_any l t v W h h40 (by omega)).mono ?_
      have e1 : placesL (fun pc => goesOn l pc t) l.length = backR l t := by rw [backR, if_pos eb]; rfl
      rw [e1]
      rintro e w' ⟨u, rfl, hr, hb⟩
      obtain ⟨p, c, rfl⟩ := row_shp hr
      exact ⟨_, _, rfl, intsAt_of_row rfl hr, hb⟩
    rw [eb] at hK
    by_cases h3 : (t : Int) < (l.length : Int)
    · have en : nextErr l t = 0 := by rw [nextErr, if_neg (by simp [hf]), if_neg (by omega)]
      have hNo : ∀ W : World, OpsAt W v l → Calls Try.prog 37 #[v, .int .i64 t] W fun e w' => ∃ p c, e = .returned (.slice p (nextR l t).length c) ∧ IntsAt w' (.slice p (nextR l t).length c) (nextR l t) ∧ Below W.heap.size W w' := by
        intro W h
        refine (nextOf_any l t v W h h40 (by omega)).mono ?_
        have e1 : placesL (fun to => goesOn l t to) (l.length + 1) = nextR l t := by rw [nextR, if_pos en]; rfl
        rw [e1]
        rintro e w' ⟨u, rfl, hr, hb⟩
        obtain ⟨p, c, rfl⟩ := row_shp hr
        exact ⟨_, _, rfl, intsAt_of_row rfl hr, hb⟩
      rw [en] at hN
      exact walkB w l v hl t _ _ _ (by omega) hN hR hK hF hNo hRo hBo
    · have en : nextErr l t = 3 := by rw [nextErr, if_neg (by simp [hf]), if_pos (by omega)]
      have rn : nextR l t = [] := by rw [nextR, if_neg (by rw [en]; decide)]
      rw [en] at hN
      exact walkC w l v hl t _ _ _ (by omega) rn hN hR hK hF hRo hBo
  · have en : nextErr l pc = flowErr l := by rw [nextErr, if_pos hf]
    have eb : backErr l pc = flowErr l := by rw [backErr, if_pos hf]
    have rn : nextR l pc = [] := by rw [nextR, if_neg (by rw [en]; exact hf)]
    have rb : backR l pc = [] := by rw [backR, if_neg (by rw [eb]; exact hf)]
    have rr : reachR l = [] := by rw [reachR, if_neg hf]
    rw [en] at hN
    rw [eb] at hK
    exact walkA w l v hl pc _ _ _ _ hf rn rr rb hN hR hK hF
set_option maxRecDepth 100000 in
theorem lifted (os : Os) (started : os.Started) (H : Type) (enc : TypeId × Value → H) :
    ReturnsInHanded {} Try.checked os 9 .any (Rows.flowTellsSpec.pre6 enc Try.prog Try.f9 Rows.flowTellsRow.domain false) (Rows.flowTellsSpec.post enc Try.prog Try.f9 false true false false) := by
  refine returnsInHanded_of_change_sized (C := Try.checked) own started (by kernel_rfl) Try.func9
    (ChangeSpec.witness6 (enc := enc) (C := Try.checked) false ⟨#[], #[.slice none 0 0, .int .i64 0], []⟩ 8 (by kernel_rfl) (by kernel_rfl) (by kernel_rfl) (by kernel_rfl)) ?_
  intro W base args ds gs before hval0 hW hcnd hsz0 hholds
  have hval : ∀ (j : Nat) t v, Try.f9.params[j]? = some t → args[j]? = some v → Value.okWide Try.prog W .any base t v := hval0
  have hW' := hW
  obtain ⟨p, q, hA0, hV, rfl, hfz, hnd⟩ := hW
  have hA : DataW.TrodAll enc Try.prog W 0 (fun _ => true) true Try.f9.params.toList args.toList ds p := hA0
  rw [Try.params9] at hA hval
  obtain ⟨v0, vs0, d0, ds0, p0, q0, hargs, rfl, rfl, h0, r0⟩ := trodAll_cons hA
  obtain ⟨v1, vs1, d1, ds1, p1, q1, rfl, rfl, rfl, h1, r1⟩ := trodAll_cons r0
  obtain ⟨rfl, rfl, rfl⟩ := trodAll_nil r1
  obtain rfl : args = #[v0, v1] := by cases args; simp_all
  obtain ⟨rfl, rfl⟩ := trodVars_none hV
  have k0 := h0
  have k1 := h1
  have lt0 : ∀ x ∈ p0, x.block < W.heap.size := by obtain ⟨m, hm⟩ := k0; exact DataW.trod_lt m _ _ _ hm
  have lt1 : ∀ x ∈ p1, x.block < W.heap.size := by obtain ⟨m, hm⟩ := k1; exact DataW.trod_lt m _ _ _ hm
  obtain ⟨l0, hl0⟩ := open_opsV (okWide_slice Try.underlying24 (hval 0 24 v0 rfl rfl)) h0
  obtain ⟨x1, rfl, hd1, hp1, wx1⟩ := open_int Try.underlying3 (hval 1 3 v1 rfl rfl) h1
  have hx1 : -9223372036854775808 ≤ x1 ∧ x1 ≤ 9223372036854775807 := by simpa [Lit.wf, IntKind.min, IntKind.max, IntKind.bits, IntKind.signed] using wx1
  clear hA0 hval0 hsz0
  refine (walk W l0 v0 hl0 x1 hx1).mono fun e W' ⟨he, bel⟩ => ?_
  subst he
  exact ⟨_, rfl, _, _, _, [], _, [], hW', trodAll_mk1 (shut_bool Try.underlying4 _), (trodAll_cons_mk (Below.trod laidOut (by kernel_rfl) (of_decide_eq_true (by kernel_rfl)) k0 bel lt0) (trodAll_cons_mk (Below.trod laidOut (by kernel_rfl) (of_decide_eq_true (by kernel_rfl)) k1 bel lt1) trodAll_mk0)), rfl, bel.frame _, fun h => by cases h⟩
theorem over : Rows.flowTellsRow.holds Try.pinned (OpenSpec.ofChange Rows.flowTellsSpec) :=
  OpenClaim.holds_of_wide 9 Try.f9 rfl rfl rfl rfl rfl rfl rfl ⟨rfl, rfl, rfl, rfl, rfl⟩ rfl rfl rfl rfl rfl (by kernel_rfl) Try.func9 (by kernel_rfl)
    (of_decide_eq_true (by kernel_rfl)) (by unfold Func.isWrapper; first | (rw [if_pos (by decide +kernel)]; kernel_rfl) | (rw [if_neg (by decide +kernel)]; exact ⟨rfl, rfl⟩))
    (fun os started H enc _ => lifted os started H enc)
end Go.Proofs.Ytjcaapgecimooaa.flowTells
namespace Go.Proofs.Ytjcaapgecimooaa
/-- For every input the law FlowTells returns true, and the arguments read as they did. -/
theorem flowTells_holds : Rows.FlowTellsSaid := flowTells.over
end Go.Proofs.Ytjcaapgecimooaa

