/- A join is the same either way round; of one with itself it is that; of three it is the same however they are put together; both stand for it: for every slice of numbers and slice of numbers and slice of numbers VerifyJoin returns true. No condition. -/
import Derived.Test.YtjcaapgecimooaaU15
import Derived.Test.YtjcaapgecimooaaU16
namespace Go.Proofs.Ytjcaapgecimooaa.verifyJoin
open Go.ChangeShapes Go.WideShapes Go.ChangeAt Go.RowKit
set_option linter.unusedVariables false
set_option linter.unusedSimpArgs false
theorem own : ownKnob Try.prog.godebug = none := by kernel_rfl
theorem laidOut : laidOutB Try.prog = true := by kernel_rfl
set_option maxHeartbeats 1000000 in
theorem doesStand_any (a b : Int) (w : World) : Calls Try.prog 44 #[.int .i64 a, .int .i64 b] w fun e w' => e = .returned (.bool (standsB a b)) ∧ w' = w := by
  by_cases h : a = b
  · subst h
    have h' : (a == a) = true := by simp
    go_enter Try.func44, Try.ntmps44
    go_wp2
    go_ret
    exact ⟨by simp [standsB], rfl⟩
  · have h' : (a == b) = false := by simp [h]
    by_cases h3 : a = 3
    · subst h3
      by_cases h2 : b = 2
      · subst h2
        go_enter Try.func44, Try.ntmps44
        go_wp2
        go_ret
        exact ⟨by simp [standsB], rfl⟩
      · have h2' : (b == 2) = false := by simp [h2]
        have hs : standsB 3 b = false := by simp [standsB, h, h2]
        rw [hs]
        clear h h2 hs
        go_enter Try.func44, Try.ntmps44
        go_wp2
        go_ret
        exact ⟨rfl, rfl⟩
    · have h3' : (a == 3) = false := by simp [h3]
      have hs : standsB a b = false := by simp [standsB, h, h3]
      rw [hs]
      clear h h3 hs
      go_enter Try.func44, Try.ntmps44
      go_wp2
      go_ret
      exact ⟨rfl, rfl⟩
theorem bt {a b c : World} (h : Below a.heap.size a b) (k : Below b.heap.size b c) : Below a.heap.size a c := h.trans (k.mono h.size)
theorem err_parts {a b : List Int} (h : joinErr a b = 0) : a.all isType = true ∧ b.all isType = true ∧ a.length ≤ 8 ∧ b.length ≤ 8 ∧ ∃ l, joinL a b = some l := by
  cases ka : a.all isType
  · rw [joinErr_kind (by rw [ka]; rfl)] at h; cases h
  cases kb : b.all isType
  · rw [joinErr_kind (by rw [ka, kb]; rfl)] at h; cases h
  by_cases hl : 8 < a.length ∨ 8 < b.length
  · rw [joinErr_many ka kb hl] at h; cases h
  rw [joinErr_rest ka kb (by omega) (by omega)] at h
  cases hj : joinL a b with
  | none => rw [hj] at h; cases h
  | some l => exact ⟨rfl, rfl, by omega, by omega, l, rfl⟩
theorem err_mk {a b l : List Int} (ka : a.all isType = true) (kb : b.all isType = true) (ha : a.length ≤ 8) (hb : b.length ≤ 8) (h : joinL a b = some l) : joinErr a b = 0 ∧ joinR a b = l := by
  have he : joinErr a b = 0 := by rw [joinErr_rest ka kb ha hb, h]; rfl
  exact ⟨he, by rw [joinR, if_pos he, h]; rfl⟩
theorem err_none {a b : List Int} (h : joinL a b = none) : joinErr a b ≠ 0 := fun he => by
  obtain ⟨_, _, _, _, l, hl⟩ := err_parts he
  rw [h] at hl; cases hl
theorem err_comm (a b : List Int) : (joinErr a b = 0 ↔ joinErr b a = 0) ∧ joinR a b = joinR b a := by
  have one : ∀ a b : List Int, joinErr a b = 0 → joinErr b a = 0 ∧ joinR a b = joinR b a := by
    intro a b h
    obtain ⟨ka, kb, ha, hb, l, hl⟩ := err_parts h
    have h1 := err_mk ka kb ha hb hl
    have h2 := err_mk kb ka hb ha (by rw [joinL_comm]; exact hl)
    exact ⟨h2.1, h1.2.trans h2.2.symm⟩
  refine ⟨⟨fun h => (one a b h).1, fun h => (one b a h).1⟩, ?_⟩
  by_cases h : joinErr a b = 0
  · exact (one a b h).2
  · have h' : joinErr b a ≠ 0 := fun e => h (one b a e).1
    rw [joinR, if_neg h, joinR, if_neg h']
theorem tyJ {a b l : List Int} (ka : a.all isType = true) (kb : b.all isType = true) (h : joinL a b = some l) : l.all isType = true := tyL_all (join_types (List.all_eq_true.1 ka) (List.all_eq_true.1 kb) h)
theorem three {a b c : List Int} (h : joinErr a b = 0) : (joinErr b c ≠ 0 → joinErr (joinR a b) c ≠ 0) ∧ (joinErr b c = 0 → joinErr (joinR a b) c = joinErr a (joinR b c) ∧ joinR (joinR a b) c = joinR a (joinR b c)) := by
  obtain ⟨ka, kb, ha, hb, x, hx⟩ := err_parts h
  have hxr := (err_mk ka kb ha hb hx).2
  rw [hxr]
  have kx := tyJ ka kb hx
  have hxl := (joinL_length _ _ _ hx).1
  have has := joinL_assoc a b c
  rw [hx] at has
  simp only [Option.bind_some] at has
  constructor
  · intro hbc he
    obtain ⟨_, kc, _, hc, m, hm⟩ := err_parts he
    rw [hm] at has
    cases hr : joinL b c with
    | none => rw [hr] at has; cases has
    | some r => exact hbc (err_mk kb kc hb hc hr).1
  · intro hbc
    obtain ⟨_, kc, _, hc, r, hr⟩ := err_parts hbc
    have hrr := (err_mk kb kc hb hc hr).2
    rw [hrr]
    have kr := tyJ kb kc hr
    have hrl := (joinL_length _ _ _ hr).1
    rw [hr] at has
    simp only [Option.bind_some] at has
    have e1 : joinErr x c = joinErr a r := by rw [joinErr_rest kx kc (by omega) hc, joinErr_rest ka kr ha (by omega), has]
    refine ⟨e1, ?_⟩
    unfold joinR
    rw [e1, has]
theorem leS_at : ∀ {s t : List Int}, leS s t = true → ∀ (k : Nat) (x y : Int), s[k]? = some x → t[k]? = some y → standsB x y = true
  | [], _, _, k, x, y, h, _ => by simp at h
  | _ :: _, [], _, k, x, y, _, h => by simp at h
  | a :: r, b :: q, h, 0, x, y, h1, h2 => by simp at h1 h2; subst h1 h2; simp [leS] at h; exact h.1
  | a :: r, b :: q, h, k + 1, x, y, h1, h2 => by simp [leS] at h; exact leS_at h.2 k x y (by simpa using h1) (by simpa using h2)
set_option maxRecDepth 100000 in
set_option maxHeartbeats 1000000 in
theorem walk (w : World) (a : List Int) (va : Value) (hA : IntsAt w va a) (b : List Int) (vb : Value) (hB : IntsAt w vb b) (c : List Int) (vc : Value) (hC : IntsAt w vc c) :
    Calls Try.prog 11 #[va, vb, vc] w fun e w' => e = .returned (.bool true) ∧ Below w.heap.size w w' := by
  have hJ : ∀ (x y : List Int) (W : World) (v u : Value), IntsAt W v x → IntsAt W u y → Calls Try.prog 42 #[v, u] W fun e w' => ∃ p cc, e = .returned (.tuple #[.slice p (joinR x y).length cc, .int .i64 (joinErr x y)]) ∧ IntsAt w' (.slice p (joinR x y).length cc) (joinR x y) ∧ Below W.heap.size W w' := by
    intro x y W v u h1 h2
    refine (vJoin_any x y v u W h1 h2).mono ?_
    rintro e w' ⟨z, rfl, hr, hb⟩
    obtain ⟨p, cc, rfl⟩ := row_shp hr
    exact ⟨_, _, rfl, intsAt_of_row rfl hr, hb⟩
  have hS : ∀ (W : World) (v u : Value) (l : List Int), IntsAt W v l → IntsAt W u l → Calls Try.prog 43 #[v, u] W fun e w' => e = .returned (.bool true) ∧ Below W.heap.size W w' := by
    intro W v u l h1 h2
    have := sameInts_any l l v u W h1 h2
    rw [decide_eq_true rfl] at this
    exact this
  obtain ⟨pa, ca, ha1, _, _⟩ := id hA
  obtain ⟨pb, cb, hb1, _, _⟩ := id hB
  obtain ⟨pc, cc, hc1, _, _⟩ := id hC
  subst ha1 hb1 hc1
  have hcm := err_comm a b
  have hE1 : joinErr a b = 0 → joinErr a a = 0 ∧ joinR a a = a := fun h => by
    obtain ⟨ka, _, ha, _, _⟩ := err_parts h
    exact err_mk ka ka ha ha (joinL_same a)
  have hst : joinErr a b = 0 → (joinR a b).length = a.length ∧ a.length = b.length ∧ a.length ≤ 8 ∧ leS a (joinR a b) = true ∧ leS b (joinR a b) = true := fun h => by
    obtain ⟨ka, kb, ha, hb, l, hl⟩ := err_parts h
    rw [(err_mk ka kb ha hb hl).2]
    have := joinL_length _ _ _ hl
    exact ⟨this.1, this.2, ha, (joinL_stands hl).1, (joinL_stands hl).2⟩
  have h3 := fun h => three (c := c) (a := a) (b := b) h
  have HJab := hideP (hJ a b)
  have HJba := hideP (hJ b a)
  have HJaa := hideP (hJ a a)
  have HJxc := hideP (hJ (joinR a b) c)
  have HJbc := hideP (hJ b c)
  have HJar := hideP (hJ a (joinR b c))
  have HS := hideP hS
  have HA := hideP hA
  have HB := hideP hB
  have HC := hideP hC
  have HCM := hideP hcm
  have HE1 := hideP hE1
  have HST := hideP hst
  have H3 := hideP h3
  clear hJ hS hA hB hC hcm hE1 hst h3
  go_enter Try.func11, Try.ntmps11
  go_wp2_with fail
  refine (verifyBegun_any _).mono ?_
  rintro e w1 ⟨rfl, b1⟩
  go_wp2_with fail
  refine (HJab.out _ _ _ (HA.out.below b1) (HB.out.below b1)).mono ?_
  rintro e w2 ⟨px, cx, rfl, ix, hb2⟩
  have b2 := bt b1 hb2
  go_wp2_with fail
  refine (HJba.out _ _ _ (HB.out.below b2) (HA.out.below b2)).mono ?_
  rw [← HCM.out.2]
  rintro e w3 ⟨py, cy, rfl, iy, hb3⟩
  have b3 := bt b2 hb3
  have ix3 := ix.below hb3
  clear ix
  by_cases he : joinErr a b = 0
  · have he2 := HCM.out.1.1 he
    have h11 := HE1.out he
    have HH12 := hideP (HST.out he)
    have HH13 := hideP (H3.out he)
    rw [he, he2]
    rw [h11.1, h11.2] at HJaa
    clear he2 h11 he
    go_wp2_with fail
    refine (HS.out _ _ _ _ ix3 iy).mono ?_
    rintro e w4 ⟨rfl, hb4⟩
    have b4 := bt b3 hb4
    have ix4 := ix3.below hb4
    clear ix3 iy
    go_wp2_with fail
    refine (HJaa.out _ _ _ (HA.out.below b4) (HA.out.below b4)).mono ?_
    rintro e w5 ⟨pz, cz, rfl, iz, hb5⟩
    have b5 := bt b4 hb5
    have ix5 := ix4.below hb5
    clear ix4
    go_wp2_with fail
    refine (HS.out _ _ _ _ iz (HA.out.below b5)).mono ?_
    rintro e w6 ⟨rfl, hb6⟩
    have b6 := bt b5 hb6
    have IX6 := hideP (ix5.below hb6)
    clear ix5 iz
    obtain ⟨X, hX⟩ : ∃ X, joinR a b = X := ⟨_, rfl⟩
    have h12 := HH12.out
    have h13 := HH13.out
    rw [hX] at h12 h13 HJxc IX6
    rw [hX]
    clear HH12 HH13
    obtain ⟨n1, n2, n8, s1, s2⟩ := h12
    have N1 := hideP n1
    have N2 := hideP n2
    have S1 := hideP s1
    have S2 := hideP s2
    have H13 := hideP h13
    have nX : X.length ≤ 8 := by omega
    clear n1 n2 s1 s2 h13 hX n8
    go_wp2
    go_loopw [12] (fun v12 wr => ∃ k : Nat, k ≤ X.length ∧ v12 = .int .i64 k ∧ Below w6.heap.size w6 wr) (fun v12 _ => X.length - (intOf v12).toNat)
    case atStart => exact ⟨0, Nat.zero_le _, rfl, Below.refl _ _⟩
    case round =>
      rename World => w7
      obtain ⟨k, hk, rfl, hb7⟩ := hrel
      have b7 := bt b6 hb7
      have ix7 := IX6.out.below hb7
      by_cases hlt : k < X.length
      · have hlti : (k : Int) < (X.length : Int) := by omega
        have hlta : (k : Int) < (a.length : Int) := by have := N1.out; omega
        have hltb : (k : Int) < (b.length : Int) := by have := N1.out; have := N2.out; omega
        obtain ⟨xa, hxa⟩ := at_of_lt (l := a) (k := k) (by omega)
        obtain ⟨xb, hxb⟩ := at_of_lt (l := b) (k := k) (by omega)
        obtain ⟨xx, hxx⟩ := at_of_lt hlt
        obtain ⟨p1, q1, e1, _, g1⟩ := HA.out.below b7
        obtain ⟨p2, q2, e2, _, g2⟩ := HB.out.below b7
        obtain ⟨p3, q3, e3, _, g3⟩ := ix7
        cases e1
        cases e2
        cases e3
        obtain ⟨ba, oa, hpa, _, ga⟩ := g1 k xa hxa
        obtain ⟨bb, ob, hpb, _, gb⟩ := g2 k xb hxb
        obtain ⟨bx, ox, hpx, _, gx⟩ := g3 k xx hxx
        subst hpa hpb hpx
        have t1 := leS_at S1.out k xa xx hxa hxx
        have t2 := leS_at S2.out k xb xx hxb hxx
        have D1 : Hid (∀ W : World, Calls Try.prog 44 #[.int .i64 xa, .int .i64 xx] W fun e w' => e = .returned (.bool true) ∧ w' = W) := fun W => by have := doesStand_any xa xx W; rw [t1] at this; exact this
        have D2 : Hid (∀ W : World, Calls Try.prog 44 #[.int .i64 xb, .int .i64 xx] W fun e w' => e = .returned (.bool true) ∧ w' = W) := fun W => by have := doesStand_any xb xx W; rw [t2] at this; exact this
        clear g1 g2 g3 hxa hxb hxx t1 t2
        go_wp2_with fail
        go_region_held3 (fun W => W.cell? ⟨ba, oa + k, none⟩ = some (.int .i64 xa) ∧ W.cell? ⟨bb, ob + k, none⟩ = some (.int .i64 xb) ∧ W.cell? ⟨bx, ox + k, none⟩ = some (.int .i64 xx)) (go_keep)
          (first
          | (go_at_call 44; with_reducible refine (D1.out _).mono ?_; rintro e wq ⟨rfl, hwq⟩; have hwq := hwq.symm; subst hwq)
          | (go_at_call 44; with_reducible refine (D2.out _).mono ?_; rintro e wq ⟨rfl, hwq⟩; have hwq := hwq.symm; subst hwq))
        go_wp2
        go_roundw
        case rel => exact ⟨k + 1, by omega, by go_num, hb7.trans ⟨rfl, rfl, rfl, Nat.le_refl _, fun _ _ => rfl⟩⟩
        case measure => simp [intOf]; omega
      · have hlti : ¬ (k : Int) < (X.length : Int) := by omega
        go_wp2_with fail
        refine (HJxc.out _ _ _ ix7 (HC.out.below b7)).mono ?_
        rintro e w8 ⟨pl, cl, rfl, il, hb8⟩
        have b8 := bt b7 hb8
        go_wp2_with fail
        refine (HJbc.out _ _ _ (HB.out.below b8) (HC.out.below b8)).mono ?_
        rintro e w9 ⟨pr, cr, rfl, ir, hb9⟩
        have b9 := bt b8 hb9
        have il9 := il.below hb9
        clear il
        by_cases hbc : joinErr b c = 0
        · obtain ⟨j1, j2⟩ := H13.out.2 hbc
          rw [hbc, j1]
          rw [j2] at il9
          rw [j2]
          have hself : (joinErr a (joinR b c) == joinErr a (joinR b c)) = true := by simp
          clear hbc j1 j2
          go_wp2_with fail
          refine (HJar.out _ _ _ (HA.out.below b9) ir).mono ?_
          rintro e w10 ⟨pm, cm, rfl, im, hb10⟩
          have il10 := il9.below hb10
          clear il9 ir
          go_wp2_with fail
          refine (HS.out _ _ _ _ il10 im).mono ?_
          rintro e w11 ⟨rfl, hb11⟩
          go_wp2
          go_ret
          exact ⟨rfl, bt b9 (bt hb10 hb11)⟩
        · have hx0 := H13.out.1 hbc
          have e1 : (joinErr b c != 0) = true := by simp [hbc]
          have e2 : (joinErr X c != 0) = true := by simp [hx0]
          clear hbc hx0 il9 ir
          go_wp2
          go_ret
          exact ⟨rfl, b9⟩
  · have he2 : ¬ joinErr b a = 0 := fun h => he (HCM.out.1.2 h)
    have hr0 : joinR a b = [] := by rw [joinR, if_neg he]
    have e1 : (joinErr a b == 0) = false := by simp [he]
    have e2 : (joinErr b a == 0) = false := by simp [he2]
    have e3 : (joinErr a b != 0) = true := by simp [he]
    rw [hr0] at ix3 iy
    rw [hr0]
    clear he he2 hr0
    go_wp2_with fail
    refine (HS.out _ _ _ [] ix3 iy).mono ?_
    rintro e w4 ⟨rfl, hb4⟩
    go_wp2
    go_ret
    exact ⟨rfl, bt b3 hb4⟩
set_option maxRecDepth 100000 in
theorem lifted (os : Os) (started : os.Started) (H : Type) (enc : TypeId × Value → H) :
    ReturnsInHanded {} Try.checked os 11 .any (Rows.verifyJoinSpec.pre6 enc Try.prog Try.f11 Rows.verifyJoinRow.domain false) (Rows.verifyJoinSpec.post enc Try.prog Try.f11 false true false false) := by
  refine returnsInHanded_of_change_sized (C := Try.checked) own started (by kernel_rfl) Try.func11
    (ChangeSpec.witness6 (enc := enc) (C := Try.checked) false ⟨#[], #[.slice none 0 0, .slice none 0 0, .slice none 0 0], []⟩ 8 (by kernel_rfl) (by kernel_rfl) (by kernel_rfl) (by kernel_rfl)) ?_
  intro W base args ds gs before hval0 hW hcnd hsz0 hholds
  have hval : ∀ (j : Nat) t v, Try.f11.params[j]? = some t → args[j]? = some v → Value.okWide Try.prog W .any base t v := hval0
  have hW' := hW
  obtain ⟨p, q, hA0, hV, rfl, hfz, hnd⟩ := hW
  have hA : DataW.TrodAll enc Try.prog W 0 (fun _ => true) true Try.f11.params.toList args.toList ds p := hA0
  rw [Try.params11] at hA hval
  obtain ⟨v0, vs0, d0, ds0, p0, q0, hargs, rfl, rfl, h0, r0⟩ := trodAll_cons hA
  obtain ⟨v1, vs1, d1, ds1, p1, q1, rfl, rfl, rfl, h1, r1⟩ := trodAll_cons r0
  obtain ⟨v2, vs2, d2, ds2, p2, q2, rfl, rfl, rfl, h2, r2⟩ := trodAll_cons r1
  obtain ⟨rfl, rfl, rfl⟩ := trodAll_nil r2
  obtain rfl : args = #[v0, v1, v2] := by cases args; simp_all
  obtain ⟨rfl, rfl⟩ := trodVars_none hV
  have k0 := h0
  have k1 := h1
  have k2 := h2
  have lt0 : ∀ x ∈ p0, x.block < W.heap.size := by obtain ⟨m, hm⟩ := k0; exact DataW.trod_lt m _ _ _ hm
  have lt1 : ∀ x ∈ p1, x.block < W.heap.size := by obtain ⟨m, hm⟩ := k1; exact DataW.trod_lt m _ _ _ hm
  have lt2 : ∀ x ∈ p2, x.block < W.heap.size := by obtain ⟨m, hm⟩ := k2; exact DataW.trod_lt m _ _ _ hm
  obtain ⟨l0, hl0⟩ := open_intsV (okWide_slice Try.underlying49 (hval 0 49 v0 rfl rfl)) h0
  obtain ⟨l1, hl1⟩ := open_intsV (okWide_slice Try.underlying49 (hval 1 49 v1 rfl rfl)) h1
  obtain ⟨l2, hl2⟩ := open_intsV (okWide_slice Try.underlying49 (hval 2 49 v2 rfl rfl)) h2
  clear hA0 hval0 hsz0
  refine (walk W l0 v0 hl0 l1 v1 hl1 l2 v2 hl2).mono fun e W' ⟨he, bel⟩ => ?_
  subst he
  exact ⟨_, rfl, _, _, _, [], _, [], hW', trodAll_mk1 (shut_bool Try.underlying4 _), (trodAll_cons_mk (Below.trod laidOut (by kernel_rfl) (of_decide_eq_true (by kernel_rfl)) k0 bel lt0) (trodAll_cons_mk (Below.trod laidOut (by kernel_rfl) (of_decide_eq_true (by kernel_rfl)) k1 bel lt1) (trodAll_cons_mk (Below.trod laidOut (by kernel_rfl) (of_decide_eq_true (by kernel_rfl)) k2 bel lt2) trodAll_mk0))), rfl, bel.frame _, fun h => by cases h⟩
theorem over : Rows.verifyJoinRow.holds Try.pinned (OpenSpec.ofChange Rows.verifyJoinSpec) :=
  OpenClaim.holds_of_wide 11 Try.f11 rfl rfl rfl rfl rfl rfl rfl ⟨rfl, rfl, rfl, rfl, rfl⟩ rfl rfl rfl rfl rfl (by kernel_rfl) Try.func11 (by kernel_rfl)
    (of_decide_eq_true (by kernel_rfl)) (by unfold Func.isWrapper; first | (rw [if_pos (by decide +kernel)]; kernel_rfl) | (rw [if_neg (by decide +kernel)]; exact ⟨rfl, rfl⟩))
    (fun os started H enc _ => lifted os started H enc)
end Go.Proofs.Ytjcaapgecimooaa.verifyJoin
namespace Go.Proofs.Ytjcaapgecimooaa
/-- For every input the law VerifyJoin returns true, and the arguments read as they did. -/
theorem verifyJoin_holds : Rows.VerifyJoinSaid := verifyJoin.over
end Go.Proofs.Ytjcaapgecimooaa

