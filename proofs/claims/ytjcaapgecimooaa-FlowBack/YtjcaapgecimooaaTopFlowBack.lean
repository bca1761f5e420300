/- A place is among the next ones of another just if that is among the ones it comes from: for every slice of ops and number and number FlowBack returns true. No condition. -/
import Derived.Test.YtjcaapgecimooaaU7
import Derived.Test.YtjcaapgecimooaaU16
namespace Go.Proofs.Ytjcaapgecimooaa.flowBack
open Go.ChangeShapes Go.WideShapes Go.ChangeAt Go.RowKit
set_option linter.unusedVariables false
set_option linter.unusedSimpArgs false
theorem own : ownKnob Try.prog.godebug = none := by kernel_rfl
theorem laidOut : laidOutB Try.prog = true := by kernel_rfl
theorem back_next {l : List (Int × Int)} {pc to : Int} (h1 : nextErr l pc = 0) (h2 : backErr l to = 0) : decide (to ∈ nextR l pc) = decide (pc ∈ backR l to) := by
  have hf : flowErr l = 0 := by
    rcases Decidable.em (flowErr l = 0) with h | h
    · exact h
    · rw [nextErr, if_pos h] at h1; exact h1
  obtain ⟨_, _, hb⟩ := flowErr_zero hf
  have hp : 0 ≤ pc ∧ pc < (l.length : Int) := by
    rw [nextErr, if_neg (by simp [hf])] at h1
    split at h1
    · cases h1
    · omega
  have ht : 0 ≤ to ∧ to ≤ (l.length : Int) := by
    rw [backErr, if_neg (by simp [hf])] at h2
    split at h2
    · cases h2
    · omega
  obtain ⟨a, rfl⟩ : ∃ a : Nat, pc = a := ⟨pc.toNat, by omega⟩
  obtain ⟨b, rfl⟩ : ∃ b : Nat, to = b := ⟨to.toNat, by omega⟩
  have e1 : ((b : Int) ∈ nextR l a) ↔ goesOn l a b = true := by
    rw [nextR, if_pos h1, ← mem_nextL hb, List.mem_map]
    exact ⟨fun ⟨x, m1, m2⟩ => by obtain rfl : x = b := Int.ofNat.inj m2; exact m1, fun h => ⟨b, h, rfl⟩⟩
  have e2 : ((a : Int) ∈ backR l b) ↔ goesOn l a b = true := by
    rw [backR, if_pos h2, ← mem_backL, List.mem_map]
    exact ⟨fun ⟨x, m1, m2⟩ => by obtain rfl : x = a := Int.ofNat.inj m2; exact m1, fun h => ⟨a, h, rfl⟩⟩
  rw [Bool.eq_iff_iff, decide_eq_true_iff, decide_eq_true_iff, e1, e2]
set_option maxRecDepth 100000 in
set_option maxHeartbeats 8000000 in
theorem walk (w : World) (l : List (Int × Int)) (v : Value) (hl : OpsAt w v l) (pc : Int) (hpc : -9223372036854775808 ≤ pc ∧ pc ≤ 9223372036854775807) (to : Int) (hto : -9223372036854775808 ≤ to ∧ to ≤ 9223372036854775807) :
    Calls Try.prog 8 #[v, .int .i64 pc, .int .i64 to] w fun e w' => e = .returned (.bool true) ∧ Below w.heap.size w w' := by
  have e1 : nextErr l pc = 0 ∨ nextR l pc = [] := by
    rcases Decidable.em (nextErr l pc = 0) with h | h
    · exact .inl h
    · exact .inr (by rw [nextR, if_neg h])
  have e2 : backErr l to = 0 ∨ backR l to = [] := by
    rcases Decidable.em (backErr l to = 0) with h | h
    · exact .inl h
    · exact .inr (by rw [backR, if_neg h])
  have e3 : nextErr l pc = 0 → backErr l to = 0 → decide (to ∈ nextR l pc) = decide (pc ∈ backR l to) := back_next
  have hN := flowNext_any l pc v w hl
  have hK := fun W (h : OpsAt W v l) => flowBack_any l to v W h
  generalize nextErr l pc = E1 at *
  generalize backErr l to = E2 at *
  generalize nextR l pc = N at *
  generalize backR l to = K at *
  have HK := hideP hK
  have HL := hideP hl
  have E1H := hideP e1
  have E2H := hideP e2
  have E3H := hideP e3
  clear hK hl e1 e2 e3
  go_enter Try.func8, Try.ntmps8
  go_wp2_with fail
  refine hN.mono ?_
  rintro e w1 ⟨u1, rfl, r1, hb1⟩
  clear hN
  obtain ⟨p1, c1, rfl⟩ := row_shp r1
  have R1 := hideP (intsAt_of_row rfl r1)
  clear r1
  go_wp2_with fail
  refine (HK.out _ (HL.out.below hb1)).mono ?_
  rintro e w2 ⟨u2, rfl, r2, hb2⟩
  obtain ⟨p2, c2, rfl⟩ := row_shp r2
  have R2 := hideP (intsAt_of_row rfl r2)
  have R12 := hideP (R1.out.below hb2)
  have hB2 := hb1.trans (hb2.mono hb1.size)
  clear r2 R1
  go_wp2_with fail
  refine (flowBegun_any _).mono ?_
  rintro e w3 ⟨rfl, hb3⟩
  have R23 := R2.out.below hb3
  have R13 := R12.out.below hb3
  have hB3 := hB2.trans (hb3.mono hB2.size)
  clear R2 R12
  by_cases h1 : E1 = 0
  · subst h1
    by_cases h2 : E2 = 0
    · subst h2
      have h3 := hideP (E3H.out rfl rfl)
      go_wp2_with fail
      refine (has_any N to _ _ R13).mono ?_
      rintro e w4 ⟨rfl, hw4⟩
      have hw4 := hw4.symm
      subst hw4
      go_wp2_with fail
      refine (has_any K pc _ _ R23).mono ?_
      rintro e w5 ⟨rfl, hw5⟩
      have hw5 := hw5.symm
      subst hw5
      rw [h3.out]
      go_wp2
      go_ret
      exact ⟨by simp, hB3⟩
    · have h2' : (E2 != 0) = true := by simp [h2]
      have h2'' : (E2 == 0) = false := by simp [h2]
      have hk : K = [] := E2H.out.resolve_left h2
      subst hk
      clear h2
      go_wp2
      go_ret
      exact ⟨rfl, hB3⟩
  · have h1' : (E1 != 0) = true := by simp [h1]
    have h1'' : (E1 == 0) = false := by simp [h1]
    have hn : N = [] := E1H.out.resolve_left h1
    subst hn
    by_cases h2 : E2 = 0
    · subst h2
      clear h1
      go_wp2
      go_ret
      exact ⟨rfl, hB3⟩
    · have h2' : (E2 != 0) = true := by simp [h2]
      have h2'' : (E2 == 0) = false := by simp [h2]
      have hk : K = [] := E2H.out.resolve_left h2
      subst hk
      clear h1 h2
      go_wp2
      go_ret
      exact ⟨rfl, hB3⟩
set_option maxRecDepth 100000 in
theorem lifted (os : Os) (started : os.Started) (H : Type) (enc : TypeId × Value → H) :
    ReturnsInHanded {} Try.checked os 8 .any (Rows.flowBackSpec.pre6 enc Try.prog Try.f8 Rows.flowBackRow.domain false) (Rows.flowBackSpec.post enc Try.prog Try.f8 false true false false) := by
  refine returnsInHanded_of_change_sized (C := Try.checked) own started (by kernel_rfl) Try.func8
    (ChangeSpec.witness6 (enc := enc) (C := Try.checked) false ⟨#[], #[.slice none 0 0, .int .i64 0, .int .i64 0], []⟩ 8 (by kernel_rfl) (by kernel_rfl) (by kernel_rfl) (by kernel_rfl)) ?_
  intro W base args ds gs before hval0 hW hcnd hsz0 hholds
  have hval : ∀ (j : Nat) t v, Try.f8.params[j]? = some t → args[j]? = some v → Value.okWide Try.prog W .any base t v := hval0
  have hW' := hW
  obtain ⟨p, q, hA0, hV, rfl, hfz, hnd⟩ := hW
  have hA : DataW.TrodAll enc Try.prog W 0 (fun _ => true) true Try.f8.params.toList args.toList ds p := hA0
  rw [Try.params8] at hA hval
  obtain ⟨v0, vs0, d0, ds0, p0, q0, hargs, rfl, rfl, h0, r0⟩ := trodAll_cons hA
  obtain ⟨v1, vs1, d1, ds1, p1, q1, rfl, rfl, rfl, h1, r1⟩ := trodAll_cons r0
  obtain ⟨v2, vs2, d2, ds2, p2, q2, rfl, rfl, rfl, h2, r2⟩ := trodAll_cons r1
  obtain ⟨rfl, rfl, rfl⟩ := trodAll_nil r2
  obtain rfl : args = #[v0, v1, v2] := by cases args; simp_all
  obtain ⟨rfl, rfl⟩ := trodVars_none hV
  have k0 := h0
  have k1 := h1
  have k2 := h2
  have lt0 : ∀ x ∈ p0, x.block < W.heap.size := by obtain ⟨m, hm⟩ := k0; exact DataW.trod_lt m _ _ _ hm
  have lt1 : ∀ x ∈ p1, x.block < W.heap.size := by obtain ⟨m, hm⟩ := k1; exact DataW.trod_lt m _ _ _ hm
  have lt2 : ∀ x ∈ p2, x.block < W.heap.size := by obtain ⟨m, hm⟩ := k2; exact DataW.trod_lt m _ _ _ hm
  obtain ⟨l0, hl0⟩ := open_opsV (okWide_slice Try.underlying24 (hval 0 24 v0 rfl rfl)) h0
  obtain ⟨x1, rfl, hd1, hp1, wx1⟩ := open_int Try.underlying3 (hval 1 3 v1 rfl rfl) h1
  have hx1 : -9223372036854775808 ≤ x1 ∧ x1 ≤ 9223372036854775807 := by simpa [Lit.wf, IntKind.min, IntKind.max, IntKind.bits, IntKind.signed] using wx1
  obtain ⟨x2, rfl, hd2, hp2, wx2⟩ := open_int Try.underlying3 (hval 2 3 v2 rfl rfl) h2
  have hx2 : -9223372036854775808 ≤ x2 ∧ x2 ≤ 9223372036854775807 := by simpa [Lit.wf, IntKind.min, IntKind.max, IntKind.bits, IntKind.signed] using wx2
  clear hA0 hval0 hsz0
  refine (walk W l0 v0 hl0 x1 hx1 x2 hx2).mono fun e W' ⟨he, bel⟩ => ?_
  subst he
  exact ⟨_, rfl, _, _, _, [], _, [], hW', trodAll_mk1 (shut_bool Try.underlying4 _), (trodAll_cons_mk (Below.trod laidOut (by kernel_rfl) (of_decide_eq_true (by kernel_rfl)) k0 bel lt0) (trodAll_cons_mk (Below.trod laidOut (by kernel_rfl) (of_decide_eq_true (by kernel_rfl)) k1 bel lt1) (trodAll_cons_mk (Below.trod laidOut (by kernel_rfl) (of_decide_eq_true (by kernel_rfl)) k2 bel lt2) trodAll_mk0))), rfl, bel.frame _, fun h => by cases h⟩
theorem over : Rows.flowBackRow.holds Try.pinned (OpenSpec.ofChange Rows.flowBackSpec) :=
  OpenClaim.holds_of_wide 8 Try.f8 rfl rfl rfl rfl rfl rfl rfl ⟨rfl, rfl, rfl, rfl, rfl⟩ rfl rfl rfl rfl rfl (by kernel_rfl) Try.func8 (by kernel_rfl)
    (of_decide_eq_true (by kernel_rfl)) (by unfold Func.isWrapper; first | (rw [if_pos (by decide +kernel)]; kernel_rfl) | (rw [if_neg (by decide +kernel)]; exact ⟨rfl, rfl⟩))
    (fun os started H enc _ => lifted os started H enc)
end Go.Proofs.Ytjcaapgecimooaa.flowBack
namespace Go.Proofs.Ytjcaapgecimooaa
/-- For every input the law FlowBack returns true, and the arguments read as they did. -/
theorem flowBack_holds : Rows.FlowBackSaid := flowBack.over
end Go.Proofs.Ytjcaapgecimooaa

