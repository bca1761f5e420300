/- What is wrapped is so for good; sums, products and differences may be wrapped ahead, or behind: for every two ints OpWrap returns true. No condition. -/
import Derived.Test.YtjcaapgecimooaaU2
import Derived.ProofKit
import Derived.OpenShut
import Derived.ShutString
import Derived.ChangeOld
namespace Go.Proofs.Ytjcaapgecimooaa.opWrap
open Go.ChangeShapes Go.WideShapes Go.ChangeAt Go.RowKit
set_option linter.unusedVariables false
set_option linter.unusedSimpArgs false
theorem own : ownKnob Try.prog.godebug = none := by kernel_rfl
theorem laidOut : laidOutB Try.prog = true := by kernel_rfl
theorem wrap_mod (n : Int) : ∃ k, wrap32 n = n + k * 4294967296 := ⟨-((n + 2147483648) / 4294967296), by unfold wrap32; omega⟩
theorem wrap_eq {m n : Int} (k : Int) (h : m = n + k * 4294967296) : wrap32 m = wrap32 n := by unfold wrap32; omega
theorem wrap64_mod (n : Int) : ∃ k, wrap64 n = n + k * 4294967296 := ⟨-((n + 9223372036854775808) / 18446744073709551616) * 4294967296, by unfold wrap64; omega⟩
theorem mul_fact (a b x y : Int) (i j : Int) (hx : x = a + i * 4294967296) (hy : y = b + j * 4294967296) : ∃ k, x * y = a * b + k * 4294967296 := by
  refine ⟨a * j + i * b + i * j * 4294967296, ?_⟩
  subst hx hy
  rw [Int.add_mul, Int.mul_add, Int.mul_add, Int.add_mul, Int.add_mul]
  have h1 : a * (j * 4294967296) = a * j * 4294967296 := (Int.mul_assoc ..).symm
  have h2 : i * 4294967296 * b = i * b * 4294967296 := by rw [Int.mul_assoc, Int.mul_comm 4294967296 b, ← Int.mul_assoc]
  have h3 : i * 4294967296 * (j * 4294967296) = i * j * 4294967296 * 4294967296 := by rw [Int.mul_assoc i, ← Int.mul_assoc 4294967296 j, Int.mul_comm 4294967296 j, ← Int.mul_assoc, ← Int.mul_assoc]
  rw [h1, h2, h3]
  omega
set_option maxHeartbeats 2000000 in
theorem walk (a b : Int) (wa : (Lit.int .i64 a).wf = true) (wb : (Lit.int .i64 b).wf = true) (w : World) :
    Calls Try.prog 5 #[.int .i64 a, .int .i64 b] w fun e w' => e = .returned (.bool true) ∧ Below w.heap.size w w' := by
  obtain ⟨x, hx⟩ : ∃ x, wrap32 a = x := ⟨_, rfl⟩
  obtain ⟨y, hy⟩ : ∃ y, wrap32 b = y := ⟨_, rfl⟩
  have x0 : -2147483648 ≤ x ∧ x ≤ 2147483647 := by rw [← hx]; unfold wrap32; omega
  have y0 : -2147483648 ≤ y ∧ y ≤ 2147483647 := by rw [← hy]; unfold wrap32; omega
  obtain ⟨x1, x2⟩ := x0
  obtain ⟨y1, y2⟩ := y0
  obtain ⟨i, hi⟩ := wrap_mod a
  obtain ⟨j, hj⟩ := wrap_mod b
  rw [hx] at hi
  rw [hy] at hj
  have e1 : (wrap32 x == x) = true := by rw [beq_iff_eq]; exact IntWalk.wrap32_in x ⟨x1, x2⟩
  have e2 : (wrap32 (x + y) == wrap32 (wrap64 (a + b))) = true := by
    rw [beq_iff_eq]; obtain ⟨k, hk⟩ := wrap64_mod (a + b); exact wrap_eq (i + j - k) (by omega)
  have e3 : (wrap32 (wrap64 (x * y)) == wrap32 (wrap64 (a * b))) = true := by
    rw [beq_iff_eq]; obtain ⟨k, hk⟩ := wrap64_mod (a * b); obtain ⟨k', hk'⟩ := wrap64_mod (x * y); obtain ⟨z, hz⟩ := mul_fact a b x y i j hi hj
    exact wrap_eq (z + k' - k) (by omega)
  have e4 : (wrap32 (x - y) == wrap32 (wrap64 (a - b))) = true := by
    rw [beq_iff_eq]; obtain ⟨k, hk⟩ := wrap64_mod (a - b); exact wrap_eq (i - j - k) (by omega)
  have e5 : (wrap32 (wrap64 (a - x)) == 0) = true := by
    rw [beq_iff_eq]; obtain ⟨k, hk⟩ := wrap64_mod (a - x); rw [wrap_eq (n := 0) (k - i) (by omega)]; decide +kernel
  clear hi hj
  go_enter Try.func5, Try.ntmps5
  go_wp2_with (first | (go_at_call 20; refine (wrap_any _ _).mono ?_; rintro e w9 ⟨rfl, hw⟩; have hw := hw.symm; subst hw) | (go_at_call 17; refine (opBegun_any _).mono ?_; rintro e w9 ⟨rfl, hb9⟩))
  go_ret
  exact ⟨rfl, hb9⟩
set_option maxRecDepth 100000 in
theorem lifted (os : Os) (started : os.Started) (H : Type) (enc : TypeId × Value → H) :
    ReturnsInHanded {} Try.checked os 5 .any (Rows.opWrapSpec.pre6 enc Try.prog Try.f5 Rows.opWrapRow.domain false) (Rows.opWrapSpec.post enc Try.prog Try.f5 false true false false) := by
  refine returnsInHanded_of_change (C := Try.checked) own started (by kernel_rfl) Try.func5
    (ChangeSpec.witness6 (enc := enc) (C := Try.checked) false ⟨#[], #[.int .i64 0, .int .i64 0], []⟩ 8 (by kernel_rfl) (by kernel_rfl) (by kernel_rfl) (by kernel_rfl)) ?_
  intro W base args ds gs before hval0 hW hcnd _
  have hval : ∀ (j : Nat) t v, Try.f5.params[j]? = some t → args[j]? = some v → Value.okWide Try.prog W .any base t v := hval0
  have hW' := hW
  obtain ⟨p, q, hA0, hV, rfl, hfz, hnd⟩ := hW
  have hA : DataW.TrodAll enc Try.prog W 0 (fun _ => true) true Try.f5.params.toList args.toList ds p := hA0
  rw [Try.params5] at hA hval
  obtain ⟨v0, vs0, d0, ds0, p0, q0, hargs, rfl, rfl, h0, r0⟩ := trodAll_cons hA
  obtain ⟨v1, vs1, d1, ds1, p1, q1, rfl, rfl, rfl, h1, r1⟩ := trodAll_cons r0
  obtain ⟨rfl, rfl, rfl⟩ := trodAll_nil r1
  obtain rfl : args = #[v0, v1] := by cases args; simp_all
  obtain ⟨rfl, rfl⟩ := trodVars_none hV
  obtain ⟨a0, rfl, rfl, rfl, w0⟩ := open_int Try.underlying3 (hval 0 3 v0 rfl rfl) h0
  obtain ⟨a1, rfl, rfl, rfl, w1⟩ := open_int Try.underlying3 (hval 1 3 v1 rfl rfl) h1
  clear hA0 hval0
  refine (walk a0 a1 w0 w1 W).mono fun e W' ⟨he, bel⟩ => ?_
  subst he
  exact ⟨_, rfl, _, _, _, [], _, [], hW', trodAll_mk1 (shut_bool Try.underlying4 _), (trodAll_cons_mk (shut_int Try.underlying3 w0) (trodAll_cons_mk (shut_int Try.underlying3 w1) trodAll_mk0)), rfl, bel.frame _, fun h => by cases h⟩
theorem over : Rows.opWrapRow.holds Try.pinned (OpenSpec.ofChange Rows.opWrapSpec) :=
  OpenClaim.holds_of_wide 5 Try.f5 rfl rfl rfl rfl rfl rfl rfl ⟨rfl, rfl, rfl, rfl, rfl⟩ rfl rfl rfl rfl rfl (by kernel_rfl) Try.func5 (by kernel_rfl)
    (of_decide_eq_true (by kernel_rfl)) (by unfold Func.isWrapper; first | (rw [if_pos (by decide +kernel)]; kernel_rfl) | (rw [if_neg (by decide +kernel)]; exact ⟨rfl, rfl⟩))
    (fun os started H enc _ => lifted os started H enc)
end Go.Proofs.Ytjcaapgecimooaa.opWrap
namespace Go.Proofs.Ytjcaapgecimooaa
/-- For every two ints the law OpWrap returns true, and they read as they did. -/
theorem opWrap_holds : Rows.OpWrapSaid := opWrap.over
end Go.Proofs.Ytjcaapgecimooaa

