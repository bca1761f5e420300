/- A TURN WITHOUT FUEL IS MAIL ALONE: for every program and world WorldRound returns true. No condition. -/
import Derived.Test.YtmjjkenblfndgaaGreatA27
import Derived.Test.YtmjjkenblfndgaaGreatA26
import Derived.Test.YtmjjkenblfndgaaGreatA17
import Derived.Test.YtmjjkenblfndgaaGreatA6
set_option maxRecDepth 100000
set_option maxHeartbeats 8000000
namespace Go.Proofs.YtmjjkenblfndgaaGreat.worldRound
open Go.ChangeShapes Go.WideShapes Go.ChangeAt Go.RowKit
set_option linter.unusedVariables false
set_option linter.unusedSimpArgs false
theorem own : ownKnob Tryz.prog.godebug = none := by kernel_rfl
theorem laidOut : laidOutB Tryz.prog = true := by kernel_rfl
theorem turn0E {p : List Fn} {L : List Mach} : turnE p L 0 = xa3Z p L := by
  unfold turnE
  by_cases h : xa3Z p L = 0
  · rw [if_neg (by simpa using h), if_neg (by omega), h]
  · rw [if_pos h]
theorem turn0T {p : List Fn} {L T : List Mach} (h : TurnIs p L 0 T) : T = mailL p L := by
  unfold mailL
  by_cases h0 : xa3Z p L = 0
  · rw [if_pos h0]
    obtain ⟨V, hV, rfl⟩ := h.1 (turn0E.trans h0)
    obtain ⟨-, -, r3, r4, r5⟩ := xfgZ h0
    rw [xpwZ r3 r4 r5 hV]
  · rw [if_neg h0]
    exact h.2 (by rw [turn0E]; exact h0)
theorem walk (w : World) (p : List Fn) (pv : Value) (hpf : ProgFull w pv p) (L : List Mach) (wv : Value) (hW : MachsAt w wv L) (hWL : ∀ M ∈ L, MachLong M) :
    Calls Tryz.prog 6 #[.agg #[pv], .agg #[wv]] w fun e w' => e = .returned (.bool true) ∧ Below w.heap.size w w' := by
  have hpc : ∀ M ∈ L, PcOk M := fun M hM x hx => ((hWL M hM).fr.2 x hx).2.2
  have hcp := hpf.cap
  have hpp := hpf.at_
  obtain ⟨pp, qp, hpv, -⟩ := id hpp
  subst hpv
  obtain ⟨pw, cw, hwv, -⟩ := hW.shp
  subst hwv
  obtain ⟨W1, hW1⟩ : ∃ W1, (w.alloc (.cells #[.slice pp p.length qp] 24)).alloc (.cells #[.slice pw L.length cw] 27) = W1 := ⟨_, rfl⟩
  have b1 : Below w.heap.size w W1 := by rw [← hW1]; exact ((Below.refl _ w).alloc (Nat.le_refl _) _).alloc (by simp) _
  have u1 : W1.heap[w.heap.size]? = some (.cells #[.slice pp p.length qp] 24 (0, 0)) := by rw [← hW1]; exact xalZ (World.alloc_heap_new w _) _
  have u2 : W1.heap[w.heap.size + 1]? = some (.cells #[.slice pw L.length cw] 27 (0, 0)) := by rw [← hW1]; exact xa1Z _ _ _
  have KC : Hid (∀ W, Below W1.heap.size W1 W → W.cell? ⟨w.heap.size, 0, none⟩ = some (.slice pp p.length qp) ∧ W.cell? ⟨w.heap.size + 1, 0, none⟩ = some (.slice pw L.length cw)) := fun W hW => ⟨xaaZ ((hW.block _ (xacZ u1)).trans u1) 0, xaaZ ((hW.block _ (xacZ u2)).trans u2) 0⟩
  have HP := hideP (And.intro (hpp.below b1) (hcp.below hpp b1))
  have HM := hideP (hW.below b1)
  have HPC := hideP hpc
  have HB1 := hideP b1
  obtain ⟨e0, e1⟩ := KC.out W1 (Below.refl _ _)
  clear hpf hW hWL hpc hcp hpp u1 u2 b1
  go_enter Tryz.func6, Tryz.ntmps6
  go_wp2_with fail
  refine (xigZ L p 0 _ _ W1 HP.out.1 HP.out.2 HM.out HPC.out).mono ?_
  rintro e w2 ⟨T, u2, hT, rfl, o2⟩
  have hTT := turn0T hT
  subst hTT
  rw [turn0E]
  clear hT
  generalize hR : mailL p L = R at o2
  generalize hE : xa3Z p L = er
  obtain ⟨p2, c2, hu2⟩ := o2.shp
  subst hu2
  obtain ⟨V2, hV2⟩ : ∃ V2, w2.alloc (.cells #[.slice p2 (R).length c2] 27) = V2 := ⟨_, rfl⟩
  have d2 : Below w2.heap.size w2 V2 := by rw [← hV2]; exact (Below.refl _ w2).alloc (Nat.le_refl _) _
  have x2 : V2.heap[w2.heap.size]? = some (.cells #[.slice p2 (R).length c2] 27 (0, 0)) := by rw [← hV2]; exact World.alloc_heap_new w2 _
  have A2 := hideP (o2.at_.below d2)
  have F2 := hideP (xafZ o2.bel d2)
  have K2 : Hid (∀ W, Below V2.heap.size V2 W → W.cell? ⟨w2.heap.size, 0, none⟩ = some (.slice p2 (R).length c2)) := fun W hW => xaaZ ((hW.block _ (xacZ x2)).trans x2) 0
  clear o2 d2 x2
  obtain ⟨e0', e1'⟩ := KC.out V2 F2.out
  clear e0 e1
  go_wp2_with fail
  refine (xmmZ L p _ _ V2 (HP.out.1.below F2.out) (HP.out.2.below HP.out.1 F2.out) (HM.out.below F2.out) HPC.out).mono ?_
  rintro e w3 ⟨u3, rfl, o3⟩
  rw [hR] at o3
  rw [hE]
  generalize mailN p L = nn
  obtain ⟨p3, c3, hu3⟩ := o3.shp
  subst hu3
  obtain ⟨V3, hV3⟩ : ∃ V3, w3.alloc (.cells #[.slice p3 (R).length c3] 27) = V3 := ⟨_, rfl⟩
  have d3 : Below w3.heap.size w3 V3 := by rw [← hV3]; exact (Below.refl _ w3).alloc (Nat.le_refl _) _
  have x3 : V3.heap[w3.heap.size]? = some (.cells #[.slice p3 (R).length c3] 27 (0, 0)) := by rw [← hV3]; exact World.alloc_heap_new w3 _
  have A3 := hideP (o3.at_.below d3)
  have F3 := hideP (xafZ o3.bel d3)
  have K3 : Hid (∀ W, Below V3.heap.size V3 W → W.cell? ⟨w3.heap.size, 0, none⟩ = some (.slice p3 (R).length c3)) := fun W hW => xaaZ ((hW.block _ (xacZ x3)).trans x3) 0
  clear o3 d3 x3
  clear hR hE
  go_wp2_with fail
  refine (xllZ V3).mono ?_
  rintro e w4 ⟨rfl, b4⟩
  have k2 := K2.out w4 (xafZ F3.out b4)
  have k3 := K3.out w4 b4
  have HS := hideP (xm4Z R R _ _ w4 (A2.out.below (xafZ F3.out b4)) (A3.out.below b4))
  have HB4 := hideP b4
  clear b4 e0' e1'
  go_wp2_with fail
  refine HS.out.mono ?_
  rintro e w5 ⟨r, rfl, hr, b5⟩
  have hr1 : r = true := hr.2 rfl
  subst hr1
  go_wp2
  go_ret
  exact ⟨rfl, xafZ HB1.out (xafZ F2.out (xafZ F3.out (xafZ HB4.out b5)))⟩
theorem lifted (os : Os) (started : os.Started) (H : Type) (enc : TypeId × Value → H) :
    ReturnsInHanded {} Tryz.checked os 6 .any (Rows.worldRoundSpec.pre6 enc Tryz.prog Tryz.f6 Rows.worldRoundRow.domain false) (Rows.worldRoundSpec.post enc Tryz.prog Tryz.f6 false true false false) := by
  refine returnsInHanded_of_change_sized (C := Tryz.checked) own started (by kernel_rfl) Tryz.func6
    (ChangeSpec.witness6 (enc := enc) (C := Tryz.checked) false ⟨#[], #[.agg #[.slice none 0 0], .agg #[.slice none 0 0]], []⟩ 8 (by kernel_rfl) (by kernel_rfl) (by kernel_rfl) (by kernel_rfl)) ?_
  intro W base args ds gs before hval0 hW hcnd hsz0 hholds
  have hval : ∀ (j : Nat) t v, Tryz.f6.params[j]? = some t → args[j]? = some v → Value.okWide Tryz.prog W .any base t v := hval0
  have hsz : (DataW.weightsEach Tryz.prog (Tryz.f6.params.toList ++ Rows.worldRoundSpec.plain.varTypes Tryz.prog) (ds ++ gs)).all (· ≤ reachBytes) = true := hsz0
  have hW' := hW
  obtain ⟨p, q, hA0, hV, rfl, hfz, hnd⟩ := hW
  have hA : DataW.TrodAll enc Tryz.prog W 0 (fun _ => true) true Tryz.f6.params.toList args.toList ds p := hA0
  rw [Tryz.params6] at hA hval hsz
  obtain ⟨v0, vs0, d0, ds0, p0, q0, hargs, rfl, rfl, h0, r0⟩ := trodAll_cons hA
  obtain ⟨v1, vs1, d1, ds1, p1, q1, rfl, rfl, rfl, h1, r1⟩ := trodAll_cons r0
  obtain ⟨rfl, rfl, rfl⟩ := trodAll_nil r1
  obtain rfl : args = #[v0, v1] := by cases args; simp_all
  obtain ⟨rfl, rfl⟩ := trodVars_none hV
  have k0 := h0
  have k1 := h1
  have lt0 : ∀ x ∈ p0, x.block < W.heap.size := by obtain ⟨m, hm⟩ := k0; exact DataW.trod_lt m _ _ _ hm
  have lt1 : ∀ x ∈ p1, x.block < W.heap.size := by obtain ⟨m, hm⟩ := k1; exact DataW.trod_lt m _ _ _ hm
  have hw0 : ∀ n ∈ d0.weights Tryz.prog 24, n ≤ reachBytes := fun n hn => by have := List.all_eq_true.1 hsz n (DataW.weights_mem_each (j := 0) rfl rfl n hn); simpa using this
  obtain ⟨c0, l0, rfl, hl0⟩ := open_progC (hval 0 24 v0 rfl rfl) h0 hw0
  have hw1 : ∀ n ∈ d1.weights Tryz.prog 27, n ≤ reachBytes := fun n hn => by have := List.all_eq_true.1 hsz n (DataW.weights_mem_each (j := 1) rfl rfl n hn); simpa using this
  obtain ⟨c1, L1, rfl, hM1, hL1⟩ := xpqZ (hval 1 27 v1 rfl rfl) h1 hw1
  clear hA0 hval0 hsz0
  refine (walk W l0 c0 hl0 L1 c1 hM1 hL1).mono fun e W' ⟨he, bel⟩ => ?_
  subst he
  exact ⟨_, rfl, _, _, _, [], _, [], hW', trodAll_mk1 (shut_bool Tryz.underlying4 _), (trodAll_cons_mk (Below.trod laidOut (by kernel_rfl) (of_decide_eq_true (by kernel_rfl)) k0 bel lt0) (trodAll_cons_mk (Below.trod laidOut (by kernel_rfl) (of_decide_eq_true (by kernel_rfl)) k1 bel lt1) trodAll_mk0)), rfl, bel.frame _, fun h => by cases h⟩
theorem over : Rows.worldRoundRow.holds Tryz.pinned (OpenSpec.ofChange Rows.worldRoundSpec) :=
  OpenClaim.holds_of_wide 6 Tryz.f6 rfl rfl rfl rfl rfl rfl rfl ⟨rfl, rfl, rfl, rfl, rfl⟩ rfl rfl rfl rfl rfl (by kernel_rfl) Tryz.func6 (by kernel_rfl)
    (of_decide_eq_true (by kernel_rfl)) (by unfold Func.isWrapper; first | (rw [if_pos (by decide +kernel)]; kernel_rfl) | (rw [if_neg (by decide +kernel)]; exact ⟨rfl, rfl⟩))
    (fun os started H enc _ => lifted os started H enc)
end Go.Proofs.YtmjjkenblfndgaaGreat.worldRound
namespace Go.Proofs.YtmjjkenblfndgaaGreat
/-- For every input the law WorldRound returns true, and the arguments read as they did. -/
theorem worldRound_holds : Rows.WorldRoundSaid := worldRound.over
end Go.Proofs.YtmjjkenblfndgaaGreat

