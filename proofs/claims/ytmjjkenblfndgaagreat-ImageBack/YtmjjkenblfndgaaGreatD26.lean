/- My texts Ie If Ig: what of them is needed, joined. -/
import Derived.Deep.RegionHeld3
import Derived.Deep.Cut
import Derived.Test.YtmjjkenblfndgaaGreatD6
import Derived.Test.YtmjjkenblfndgaaGreatD10
import Derived.Test.YtmjjkenblfndgaaGreatD25
set_option maxRecDepth 100000
set_option maxHeartbeats 8000000
/- image: many values; values. -/
namespace Go.Proofs.YtmjjkenblfndgaaGreat
open Go.RowKit
set_option linter.unusedSimpArgs false
set_option linter.unusedVariables false
def AtV (w : World) (v : Value) (o : Val) : Prop := v = .agg #[.bool o.1, .int .i64 o.2]
def RowV (B : Nat) (W : World) (v : Value) (l : List Val) : Prop := W.ownsRow B 113 2 v l.length (valCells l)
theorem RowV.shp {B : Nat} {W : World} {v : Value} {l : List Val} (h : RowV B W v l) : ∃ p n c, v = .slice p n c := by
  obtain ⟨p, c, e⟩ := xagZ h
  exact ⟨p, _, c, e⟩
theorem xqcZ (F : Nat) (caps : Array Value) (one : Par Val) (b : Nat) (s : List UInt8) (w : World) (h : RdI w b s) (hE : Ent F) (hF : ∀ t W, w.grownBy W (some b) → RdI W b t → Calls Tryz.prog F caps W (Gives W b (one t) AtV)) (hok : ∀ t a q, one t = some (a, q) → True) :
    Calls Tryz.prog 169 #[.pointer (some ⟨b, 0, none⟩), .func (.func F) #[] caps] w (Gives w b (manyP one s) (RowV w.heap.size)) := by
  have HS := hideP (xctZ b s w h)
  have HF := hideP hF
  have HOK := hideP hok
  have hEE : ∀ (args : Array Value) (W : World), (callFunc F args).run Tryz.prog W = .ok (.enter F args) W := hE
  have hbl := h.lt
  clear h hF hok
  cases hn : smallP s with
  | none =>
    rw [hn] at HS
    have HM := hideP (show manyP one s = none by rw [manyP, hn])
    clear hn
    go_enter Tryz.func169, Tryz.ntmps169
    go_wp2_with fail
    refine HS.out.mono ?_
    intro e w2 hx
    obtain ⟨rfl, hg⟩ := hx.mis
    exact ⟨rfl, Gives.mk_mis hg HM.out⟩
  | some nr =>
    obtain ⟨n, s1⟩ := nr
    rw [hn] at HS
    have HM := hideP (show manyP one s = xbeZ one n.toNat s1 by rw [manyP, hn])
    obtain ⟨n0, n255⟩ := xhcZ hn
    obtain ⟨m, rfl⟩ := Int.eq_ofNat_of_zero_le n0
    rw [Int.toNat_natCast] at HM
    have hm : m < 256 := by omega
    clear hn n0 n255
    go_enter Tryz.func169, Tryz.ntmps169
    go_wp2_with fail
    refine HS.out.mono ?_
    intro e w2 hx
    obtain ⟨v, rfl, hR2, hv, hg2⟩ := hx.val
    subst hv
    have HR2 := hideP hR2
    have HG2 := hideP hg2
    clear hx hR2 hg2
    go_wp2
    go_loopw [5, 8] (fun v5 v8 wr => ∃ (k : Nat) (l : List Val) (t : List UInt8), k ≤ m ∧ v8 = .int .i64 k ∧ xbeZ one k s1 = some (l, t) ∧ RdI wr b t ∧ RowV w.heap.size wr v5 l ∧ w.grownBy wr (some b)) (fun _ v8 _ => m - (intOf v8).toNat)
    case atStart => exact ⟨0, [], s1, Nat.zero_le _, rfl, rfl, HR2.out, World.ownsRow_nil _ _ _ _, HG2.out⟩
    case round =>
      rename World => w3
      obtain ⟨k, l, t, hk, rfl, ht, hR, hrow, hg⟩ := hrel
      have HLK := hideP (xflZ ht)
      obtain ⟨p5, n5, c5, hv5⟩ := RowV.shp hrow
      subst hv5
      by_cases hlt : k < m
      · have hlti : (k : Int) < (m : Int) := by omega
        have HC := hideP (HF.out t w3 hg hR)
        have HT := hideP ht
        have HG := hideP hg
        have HROW := hideP hrow
        cases ho : one t with
        | none =>
          rw [ho] at HC
          have HN := hideP (show xbeZ one m s1 = none from xglZ (k := k + 1) (by rw [xdcZ ht, ho]) (by omega))
          clear ho ht hR hrow hg
          go_wp2_with fail
          refine HC.out.mono ?_
          intro e w4 hx
          obtain ⟨rfl, hg4⟩ := hx.mis
          exact ⟨rfl, Gives.mk_mis (xatZ HG.out hg4 (fun r hr => by cases hr; exact .inl rfl)) (HM.out.trans HN.out)⟩
        | some aq =>
          obtain ⟨a, q⟩ := aq
          have hoka := HOK.out t a q ho
          rw [ho] at HC
          have HN := hideP (show xbeZ one (k + 1) s1 = some (l ++ [a], q) by rw [xdcZ ht, ho])
          clear ho ht hR hrow hg
          go_wp2_with fail
          refine HC.out.mono ?_
          intro e w4 hx
          obtain ⟨v, rfl, hR4, hv, hg4⟩ := hx.val
          have HGW := hideP (xatZ HG.out hg4 (fun r hr => by cases hr; exact .inl rfl))
          have HR4 := hideP hR4
          have HV := hideP hv
          have hbw : b < w3.heap.size := Nat.lt_of_lt_of_le hbl HG.out.size
          have hs3 := HG.out.size
          have hs4 := hg4.size
          obtain rfl : l.length = k := HLK.out
          subst hv
          have hrow4 := xayZ HROW.out (W' := w4) fun j hj => hg4.block j (HROW.out.lt j hj).2 (fun e => by
            cases e
            have := (HROW.out.lt b hj).1
            omega)
          have HROW4 := hideP (hrow4.alloc (.cells #[.bool a.1, .int .i64 a.2] 113))
          have hvat : ValsAt (w4.alloc (.cells #[.bool a.1, .int .i64 a.2] 113)) (.slice (some ⟨w4.heap.size, 0, none⟩) 1 1) [a] := ⟨_, 1, rfl, by unfold maxLen; simp, fun j o hj => by
            have hn := World.alloc_heap_new w4 (.cells #[.bool a.1, .int .i64 a.2] 113)
            match j, hj with
            | 0, hj => simp at hj; subst hj; exact ⟨w4.heap.size, 0, rfl, xacZ hn, xaaZ hn 0, xaaZ hn 1⟩
            | j + 1, hj => simp at hj⟩
          have HVAT := hideP hvat
          have hsz := HGW.out.size
          clear hx hR4 hrow4 hg4 hvat
          go_wp2_with (at_builtin; refine xeuZ rfl _ _ rfl w.heap.size _ _ _ rfl HROW4.out _ [a] rfl HVAT.out (xazZ _ _ _) (by unfold maxLen; simp; omega) (by simp; omega) (by simp; omega) ?_; intro v9 w9 hown9 hg9 _; have HO := hideP hown9; clear hown9)
          go_roundw
          case rel =>
            refine ⟨l.length + 1, l ++ [a], q, by omega, by go_num, HN.out, ?_, ?_, ?_⟩
            · exact (HR4.out.alloc _).kept hg9 ((HR4.out.alloc _).not_row HROW4.out (by decide))
            · have := HO.out
              rw [← xheZ] at this
              simpa [RowV] using this
            · exact xatZ (xcaZ HGW.out _) hg9 (fun r hr => .inr (HROW4.out.lt r hr).1)
          case measure => simp [intOf]; omega
      · have hlti : ¬ (k : Int) < (m : Int) := by omega
        obtain rfl : k = m := by omega
        have HX := hideP (And.intro ht (And.intro hR (And.intro hrow hg)))
        clear ht hR hrow hg
        go_wp2
        go_ret
        obtain ⟨ht, hR, hrow, hg⟩ := HX.out
        exact Gives.mk_val hg (HM.out.trans ht) hR hrow
theorem xqlZ (b bx : Nat) (s : List UInt8) (w : World) (h : RdI w b s) (hx : w.heap[bx]? = some (.cells #[.pointer (some ⟨b, 0, none⟩)] 143 (0, 0))) (hne : bx ≠ b) : Calls Tryz.prog 170 #[.pointer (some ⟨bx, 0, none⟩)] w (Gives w b (valP s) AtV) := by
  obtain ⟨W1, hW1⟩ : ∃ W1, w.alloc (.cells #[.bool false, .int .i64 0] 113) = W1 := ⟨_, rfl⟩
  have hlx := xacZ hx
  have x1 : W1.heap[w.heap.size]? = some (.cells #[.bool false, .int .i64 0] 113 (0, 0)) := by rw [← hW1]; exact World.alloc_heap_new w _
  have y1 : W1.heap[bx]? = some (.cells #[.pointer (some ⟨b, 0, none⟩)] 143 (0, 0)) := by rw [← hW1]; exact xajZ hx _
  have hR1 : RdI W1 b s := by rw [← hW1]; exact h.alloc _
  have hg1 : w.grownBy W1 (some b) := by rw [← hW1]; exact xcaZ (xd4Z w _) _
  have hbl := h.lt
  have l1 := xacZ x1
  have l2 := xacZ y1
  have d0 : W1.cell? ⟨bx, 0, none⟩ = some (.pointer (some ⟨b, 0, none⟩)) := xaaZ y1 0
  have HS := hideP (xctZ b s W1 hR1)
  have HG1 := hideP hg1
  have HX1 := hideP x1
  have HY1 := hideP y1
  have HMI := hideP (show MIS = .panicked [{ v := .iface 141 (.agg #[]), recovered := false }] from rfl)
  have hs1 := hg1.size
  clear h hR1 hg1 x1 y1 hx
  cases hn : smallP s with
  | none =>
    rw [hn] at HS
    have HN := hideP (show valP s = none by rw [valP, hn])
    clear hn
    go_enter Tryz.func170, Tryz.ntmps170
    go_wp2_with fail
    refine HS.out.mono ?_
    intro e w2 hx
    obtain ⟨rfl, hg⟩ := hx.mis
    exact ⟨rfl, Gives.mk_mis (xatZ HG1.out hg (fun r hr => by cases hr; exact .inl rfl)) HN.out⟩
  | some kr =>
    obtain ⟨k, r⟩ := kr
    rw [hn] at HS
    have HN := hideP (show valP s = (if k ≠ 0 ∧ k ≠ 1 then none else match numP r with
      | none => none
      | some (n, q) => some ((decide (k = 1), n), q)) by rw [valP, hn]; rfl)
    clear hn
    by_cases hk : k ≠ 0 ∧ k ≠ 1
    · have HV := hideP (show valP s = none by rw [HN.out, if_pos hk])
      have t0 : (k != 0) = true := by simpa using hk.1
      have t1 : (k != 1) = true := by simpa using hk.2
      clear hk
      go_enter Tryz.func170, Tryz.ntmps170
      go_wp2_with fail
      refine HS.out.mono ?_
      intro e w2 hx
      obtain ⟨v, rfl, hR, hv, hg⟩ := hx.val
      subst hv
      have HG := hideP hg
      clear hx hR hg
      go_wp2
      exact ⟨rfl, Gives.mk_mis (xatZ HG1.out HG.out (fun r hr => by cases hr; exact .inl rfl)) HV.out⟩
    · have HV := hideP (show valP s = (match numP r with
        | none => none
        | some (n, q) => some ((decide (k = 1), n), q)) by rw [HN.out, if_neg hk])
      have t0 : (k != 0 && k != 1) = false := by
        cases h : (k != 0 && k != 1)
        · rfl
        · simp at h; exact absurd h hk
      have t2 : k = 0 ∨ k = 1 := by omega
      clear hk t0
      obtain ⟨z, hz⟩ : ∃ z : Bool, z = decide (k = 1) := ⟨_, rfl⟩
      have hz1 : (k == 1) = z := by rw [hz]; rfl
      have HZ := hideP hz
      clear hz
      rcases t2 with rfl | rfl
      · obtain rfl : z = false := by rw [HZ.out]; decide
        clear HZ hz1
        have hcase : (numP r = none ∧ valP s = none) ∨ ∃ n q, numP r = some (n, q) ∧ valP s = some ((false, n), q) := by
          cases hp : numP r with
          | none => exact .inl ⟨rfl, by rw [HV.out, hp]⟩
          | some nq => exact .inr ⟨nq.1, nq.2, rfl, by rw [HV.out, hp]; rfl⟩
        rcases hcase with ⟨hp, hval⟩ | ⟨n, q, hp, hval⟩
        · have HP := hideP hp
          have HVV := hideP hval
          clear hp hval
          go_enter Tryz.func170, Tryz.ntmps170
          go_wp2_with fail
          refine HS.out.mono ?_
          intro e w2 hx
          obtain ⟨v, rfl, hR, hv, hg⟩ := hx.val
          subst hv
          have d2 : w2.cell? ⟨bx, 0, none⟩ = some (.pointer (some ⟨b, 0, none⟩)) := hg.cell d0 (fun e => by cases e; exact hne rfl)
          have HQ := xe1Z b r w2 hR
          rw [HP.out] at HQ
          have HQ2 := hideP HQ
          have HG := hideP (xatZ HG1.out hg (fun r hr => by cases hr; exact .inl rfl))
          clear hx hR hg HQ
          go_wp2_with fail
          refine HQ2.out.mono ?_
          intro e w3 hx
          obtain ⟨rfl, hg3⟩ := hx.mis
          exact ⟨rfl, Gives.mk_mis (xatZ HG.out hg3 (fun r hr => by cases hr; exact .inl rfl)) HVV.out⟩
        · have HP := hideP hp
          have HVV := hideP hval
          clear hp hval
          go_enter Tryz.func170, Tryz.ntmps170
          go_wp2_with fail
          refine HS.out.mono ?_
          intro e w2 hx
          obtain ⟨v, rfl, hR, hv, hg⟩ := hx.val
          subst hv
          have d2 : w2.cell? ⟨bx, 0, none⟩ = some (.pointer (some ⟨b, 0, none⟩)) := hg.cell d0 (fun e => by cases e; exact hne rfl)
          have hx2 := (hg.block _ l1 (fun e => by cases e; omega)).trans HX1.out
          have HQ := xe1Z b r w2 hR
          rw [HP.out] at HQ
          have HQ2 := hideP HQ
          have HG := hideP (xatZ HG1.out hg (fun r hr => by cases hr; exact .inl rfl))
          clear hx hR hg HQ
          go_wp2_with fail
          refine HQ2.out.mono ?_
          intro e w3 hx
          obtain ⟨v, rfl, hR3, hv, hg3⟩ := hx.val
          subst hv
          have hx3 := (hg3.block _ (xacZ hx2) (fun e => by cases e; omega)).trans hx2
          have c0 := xaaZ hx3 0
          have c1 := xaaZ hx3 1
          simp at c0 c1
          have zz := Lib.frozen_of_heap hx3
          have z0 := zz 0
          have z1 := zz 1
          have HR3 := hideP hR3
          have HG3 := hideP (xatZ HG.out hg3 (fun r hr => by cases hr; exact .inl rfl))
          have HX3 := hideP hx3
          clear hx hR3 hg3 hx2 hx3 zz
          go_wp2
          refine bodyPost_ret (v := .agg #[.bool false, .int .i64 n]) (by simp [results, Tryz.results170, go_sem, c0, c1]) rfl ?_
          have hgs := (xa6Z w3 w.heap.size 0 (.bool false)).trans (xa6Z _ w.heap.size 1 (.int .i64 n))
          exact Gives.mk_val (xatZ HG3.out hgs (fun r hr => by cases hr; exact .inr (Nat.le_refl _))) HVV.out (HR3.out.kept hgs (by simp; omega)) rfl
      · obtain rfl : z = true := by rw [HZ.out]; decide
        clear HZ hz1
        have hcase : (numP r = none ∧ valP s = none) ∨ ∃ n q, numP r = some (n, q) ∧ valP s = some ((true, n), q) := by
          cases hp : numP r with
          | none => exact .inl ⟨rfl, by rw [HV.out, hp]⟩
          | some nq => exact .inr ⟨nq.1, nq.2, rfl, by rw [HV.out, hp]; rfl⟩
        rcases hcase with ⟨hp, hval⟩ | ⟨n, q, hp, hval⟩
        · have HP := hideP hp
          have HVV := hideP hval
          clear hp hval
          go_enter Tryz.func170, Tryz.ntmps170
          go_wp2_with fail
          refine HS.out.mono ?_
          intro e w2 hx
          obtain ⟨v, rfl, hR, hv, hg⟩ := hx.val
          subst hv
          have d2 : w2.cell? ⟨bx, 0, none⟩ = some (.pointer (some ⟨b, 0, none⟩)) := hg.cell d0 (fun e => by cases e; exact hne rfl)
          have HQ := xe1Z b r w2 hR
          rw [HP.out] at HQ
          have HQ2 := hideP HQ
          have HG := hideP (xatZ HG1.out hg (fun r hr => by cases hr; exact .inl rfl))
          clear hx hR hg HQ
          go_wp2_with fail
          refine HQ2.out.mono ?_
          intro e w3 hx
          obtain ⟨rfl, hg3⟩ := hx.mis
          exact ⟨rfl, Gives.mk_mis (xatZ HG.out hg3 (fun r hr => by cases hr; exact .inl rfl)) HVV.out⟩
        · have HP := hideP hp
          have HVV := hideP hval
          clear hp hval
          go_enter Tryz.func170, Tryz.ntmps170
          go_wp2_with fail
          refine HS.out.mono ?_
          intro e w2 hx
          obtain ⟨v, rfl, hR, hv, hg⟩ := hx.val
          subst hv
          have d2 : w2.cell? ⟨bx, 0, none⟩ = some (.pointer (some ⟨b, 0, none⟩)) := hg.cell d0 (fun e => by cases e; exact hne rfl)
          have hx2 := (hg.block _ l1 (fun e => by cases e; omega)).trans HX1.out
          have HQ := xe1Z b r w2 hR
          rw [HP.out] at HQ
          have HQ2 := hideP HQ
          have HG := hideP (xatZ HG1.out hg (fun r hr => by cases hr; exact .inl rfl))
          clear hx hR hg HQ
          go_wp2_with fail
          refine HQ2.out.mono ?_
          intro e w3 hx
          obtain ⟨v, rfl, hR3, hv, hg3⟩ := hx.val
          subst hv
          have hx3 := (hg3.block _ (xacZ hx2) (fun e => by cases e; omega)).trans hx2
          have c0 := xaaZ hx3 0
          have c1 := xaaZ hx3 1
          simp at c0 c1
          have zz := Lib.frozen_of_heap hx3
          have z0 := zz 0
          have z1 := zz 1
          have HR3 := hideP hR3
          have HG3 := hideP (xatZ HG.out hg3 (fun r hr => by cases hr; exact .inl rfl))
          have HX3 := hideP hx3
          clear hx hR3 hg3 hx2 hx3 zz
          go_wp2
          refine bodyPost_ret (v := .agg #[.bool true, .int .i64 n]) (by simp [results, Tryz.results170, go_sem, c0, c1]) rfl ?_
          have hgs := (xa6Z w3 w.heap.size 0 (.bool true)).trans (xa6Z _ w.heap.size 1 (.int .i64 n))
          exact Gives.mk_val (xatZ HG3.out hgs (fun r hr => by cases hr; exact .inr (Nat.le_refl _))) HVV.out (HR3.out.kept hgs (by simp; omega)) rfl
theorem xqmZ : Ent 170 := xb1Z Tryz.func170 rfl rfl
theorem xloZ (b : Nat) (s : List UInt8) (w : World) (h : RdI w b s) : Calls Tryz.prog 131 #[.pointer (some ⟨b, 0, none⟩)] w (Gives w b (valsP s) (RowV w.heap.size)) := by
  have hmf : ∀ (fn : Go.Fn) (first cap : Array Value) (w : World), (Instr.makeFunc fn first cap).run Tryz.prog w = .ok (.func fn first cap) w := fun _ _ _ _ => rfl
  obtain ⟨W1, hW1⟩ : ∃ W1, w.alloc (.cells #[.pointer (some ⟨b, 0, none⟩)] 143) = W1 := ⟨_, rfl⟩
  have x1 : W1.heap[w.heap.size]? = some (.cells #[.pointer (some ⟨b, 0, none⟩)] 143 (0, 0)) := by rw [← hW1]; exact World.alloc_heap_new w _
  have hR1 : RdI W1 b s := by rw [← hW1]; exact h.alloc _
  have hg1 : w.grownBy W1 (some b) := by rw [← hW1]; exact xcaZ (xd4Z w _) _
  have hbl := h.lt
  have l1 := xacZ x1
  have hne : w.heap.size ≠ b := by omega
  have HC := hideP (xqcZ 170 #[.pointer (some ⟨w.heap.size, 0, none⟩)] valP b s W1 hR1 xqmZ (fun t W hg hR => xqlZ b w.heap.size t W hR ((hg.block _ l1 (fun e => by cases e; omega)).trans x1) hne) (fun _ _ _ _ => trivial))
  have d0 : W1.cell? ⟨w.heap.size, 0, none⟩ = some (.pointer (some ⟨b, 0, none⟩)) := xaaZ x1 0
  have hsz := hg1.size
  have HG1 := hideP hg1
  clear h hR1 hg1 x1
  cases hn : valsP s with
  | none =>
    have hn' : manyP valP s = none := hn
    rw [hn'] at HC
    clear hn'
    go_enter Tryz.func131, Tryz.ntmps131
    go_wp2_with fail
    refine HC.out.mono ?_
    intro e w2 hx
    obtain ⟨rfl, hg⟩ := hx.mis
    exact ⟨rfl, Gives.mk_mis (xatZ HG1.out hg (fun r hr => by cases hr; exact .inl rfl)) rfl⟩
  | some aq =>
    obtain ⟨a, q⟩ := aq
    have hn' : manyP valP s = some (a, q) := hn
    rw [hn'] at HC
    clear hn hn'
    go_enter Tryz.func131, Tryz.ntmps131
    go_wp2_with fail
    refine HC.out.mono ?_
    intro e w2 hx
    obtain ⟨v, rfl, hR, hv, hg⟩ := hx.val
    have HX := hideP (And.intro hR (And.intro hv hg))
    obtain ⟨pv, nv, cv, hvv⟩ := RowV.shp hv
    subst hvv
    clear hx hR hg hv
    go_wp2
    go_ret
    exact Gives.mk_val (xatZ HG1.out HX.out.2.2 (fun r hr => by cases hr; exact .inl rfl)) rfl HX.out.1 (xapZ HX.out.2.1 hsz)
end Go.Proofs.YtmjjkenblfndgaaGreat


/- image: many blocks; many frames. -/
namespace Go.Proofs.YtmjjkenblfndgaaGreat
open Go.RowKit
set_option linter.unusedSimpArgs false
set_option linter.unusedVariables false
theorem infoIntsI : (Tryz.prog.info? 46).map (fun i => (i.zero, i.size, i.bytes)) = some (some (.slice none 0 0), 1, 24) := by kernel_rfl
theorem infoFrmI : (Tryz.prog.info? 89).map (fun i => (i.zero, i.size, i.bytes)) = some (some (.agg #[.int .i64 0, .int .i64 0, .slice none 0 0, .slice none 0 0]), 4, 64) := by kernel_rfl
theorem RdI.ty {w : World} {b : Nat} {s : List UInt8} (h : RdI w b s) : TyRow w (some b) 145 := by
  obtain ⟨X, h1, -⟩ := h
  exact xa5Z h1
def RowB (B : Nat) (W : World) (v : Value) (l : List (List Int)) : Prop := ∃ q, q.length = l.length ∧ W.ownsRow B 46 1 v q.length q ∧ BRows W B q l
theorem RowB.shp {B : Nat} {W : World} {v : Value} {l : List (List Int)} (h : RowB B W v l) : ∃ p n c, v = .slice p n c := by
  obtain ⟨q, -, h, -⟩ := h
  obtain ⟨p, c, e⟩ := xagZ h
  exact ⟨p, _, c, e⟩
theorem rowB_nil (B : Nat) (W : World) : RowB B W (.slice none 0 0) [] := ⟨[], rfl, World.ownsRow_nil _ _ _ _, xisZ W B⟩
def AtF (B : Nat) (W : World) (v : Value) (x : Frm) : Prop := ∃ lv sv, v = .agg #[.int .i64 x.fn, .int .i64 x.pc, lv, sv] ∧ RowV B W lv x.loc ∧ RowV B W sv x.stk ∧ ∀ g, lv.ownBlock = some g → sv.ownBlock ≠ some g
def RowF (B : Nat) (W : World) (v : Value) (l : List Frm) : Prop := ∃ q, q.length = l.length ∧ W.ownsRow B 89 4 v q.length (fCells q) ∧ FRows W B q l
theorem RowF.shp {B : Nat} {W : World} {v : Value} {l : List Frm} (h : RowF B W v l) : ∃ p n c, v = .slice p n c := by
  obtain ⟨q, -, h, -⟩ := h
  obtain ⟨p, c, e⟩ := xagZ h
  exact ⟨p, _, c, e⟩
theorem rowF_nil (B : Nat) (W : World) : RowF B W (.slice none 0 0) [] := ⟨[], rfl, World.ownsRow_nil _ _ _ _, xf6Z W B⟩
theorem xp9Z (F : Nat) (caps : Array Value) (one : Par (List Int)) (b : Nat) (s : List UInt8) (w : World) (h : RdI w b s) (hE : Ent F) (hF : ∀ t W, w.grownBy W (some b) → RdI W b t → Calls Tryz.prog F caps W (Gives W b (one t) (RowI W.heap.size))) (hok : ∀ t a q, one t = some (a, q) → a.length < 256) :
    Calls Tryz.prog 127 #[.pointer (some ⟨b, 0, none⟩), .func (.func F) #[] caps] w (Gives w b (manyP one s) (RowB w.heap.size)) := by
  obtain ⟨i1, hj, hy0, hy1, hy2⟩ := info_parts infoIntsI
  have HS := hideP (xctZ b s w h)
  have HF := hideP hF
  have HOK := hideP hok
  have hEE : ∀ (args : Array Value) (W : World), (callFunc F args).run Tryz.prog W = .ok (.enter F args) W := hE
  have hbl := h.lt
  clear h hF hok
  cases hn : smallP s with
  | none =>
    rw [hn] at HS
    have HM := hideP (show manyP one s = none by rw [manyP, hn])
    clear hn
    go_enter Tryz.func127, Tryz.ntmps127
    go_wp2_with fail
    refine HS.out.mono ?_
    intro e w2 hx
    obtain ⟨rfl, hg⟩ := hx.mis
    exact ⟨rfl, Gives.mk_mis hg HM.out⟩
  | some nr =>
    obtain ⟨n, s1⟩ := nr
    rw [hn] at HS
    have HM := hideP (show manyP one s = xbeZ one n.toNat s1 by rw [manyP, hn])
    obtain ⟨n0, n255⟩ := xhcZ hn
    obtain ⟨m, rfl⟩ := Int.eq_ofNat_of_zero_le n0
    rw [Int.toNat_natCast] at HM
    have hm : m < 256 := by omega
    clear hn n0 n255
    go_enter Tryz.func127, Tryz.ntmps127
    go_wp2_with fail
    refine HS.out.mono ?_
    intro e w2 hx
    obtain ⟨v, rfl, hR2, hv, hg2⟩ := hx.val
    subst hv
    have HR2 := hideP hR2
    have HG2 := hideP hg2
    clear hx hR2 hg2
    go_wp2
    go_loopw [5, 8] (fun v5 v8 wr => ∃ (k : Nat) (l : List (List Int)) (t : List UInt8), k ≤ m ∧ v8 = .int .i64 k ∧ xbeZ one k s1 = some (l, t) ∧ RdI wr b t ∧ RowB w.heap.size wr v5 l ∧ w.grownBy wr (some b)) (fun _ v8 _ => m - (intOf v8).toNat)
    case atStart => exact ⟨0, [], s1, Nat.zero_le _, rfl, rfl, HR2.out, rowB_nil _ _, HG2.out⟩
    case round =>
      rename World => w3
      obtain ⟨k, l, t, hk, rfl, ht, hR, hrow, hg⟩ := hrel
      have HLK := hideP (xflZ ht)
      obtain ⟨p5, n5, c5, hv5⟩ := RowB.shp hrow
      subst hv5
      by_cases hlt : k < m
      · have hlti : (k : Int) < (m : Int) := by omega
        have HC := hideP (HF.out t w3 hg hR)
        have HT := hideP ht
        have HG := hideP hg
        have HROW := hideP hrow
        cases ho : one t with
        | none =>
          rw [ho] at HC
          have HN := hideP (show xbeZ one m s1 = none from xglZ (k := k + 1) (by rw [xdcZ ht, ho]) (by omega))
          clear ho ht hR hrow hg
          go_wp2_with fail
          refine HC.out.mono ?_
          intro e w4 hx
          obtain ⟨rfl, hg4⟩ := hx.mis
          exact ⟨rfl, Gives.mk_mis (xatZ HG.out hg4 (fun r hr => by cases hr; exact .inl rfl)) (HM.out.trans HN.out)⟩
        | some aq =>
          obtain ⟨a, q⟩ := aq
          have hoka := HOK.out t a q ho
          rw [ho] at HC
          have HN := hideP (show xbeZ one (k + 1) s1 = some (l ++ [a], q) by rw [xdcZ ht, ho])
          clear ho
          go_wp2_with fail
          refine HC.out.mono ?_
          intro e w4 hx
          obtain ⟨v, rfl, hR4, hv, hg4⟩ := hx.val
          have HGW := hideP (xatZ HG.out hg4 (fun r hr => by cases hr; exact .inl rfl))
          have HR4 := hideP hR4
          have HV := hideP hv
          have hbw : b < w3.heap.size := Nat.lt_of_lt_of_le hbl HG.out.size
          have hs3 := HG.out.size
          have hs4 := hg4.size
          obtain rfl : l.length = k := HLK.out
          obtain ⟨qq, hql, hqrow, hqr⟩ := HROW.out
          obtain ⟨pv, cv, hvv⟩ := xagZ hv
          subst hvv
          obtain ⟨pq, cq, hqq⟩ := xagZ hqrow
          cases hqq
          have hty := hR.ty
          have hqrow4 := xarZ hqrow hg4 hty (by decide)
          have hqr4 := hqr.keep hg4 hty (by decide)
          have hga := World.grownBy_alloc w4 (.cells #[.slice pv a.length cv] 46) none
          have HROW4 := hideP (hqrow4.alloc (.cells #[.slice pv a.length cv] 46))
          have HQR4 := hideP (hqr4.keep hga (xfmZ _ 46) (by decide))
          have HV4 := hideP (xarZ hv hga (xfmZ _ 46) (by decide))
          have HLT := hideP (fun (i : Nat) (y : Value) (g : Nat) (h1 : qq[i]? = some y) (h2 : y.ownBlock = some g) => (hqr.lt h1 h2).2.1)
          have hql' : qq.length = l.length := hql
          have HQL := hideP hql
          have hsz := HGW.out.size
          have hqm : qq.length < 256 := by omega
          clear hx hR4 hqrow hqrow4 hqr hqr4 hg4 hty hga hv hql hql' hR ht hrow hg
          go_wp2_with (at_builtin; refine wpList_append_own _ rfl _ _ 45 rfl w.heap.size 46 i1 (.slice none 0 0) 1 24 Tryz.underlying45 hj hy0 hy1 hy2 rfl (by decide) _ _ _ rfl HROW4.out ⟨w4.heap.size, 0, none⟩ 1 1 [.slice pv a.length cv] rfl rfl (xmaZ (by rw [xaaZ (World.alloc_heap_new w4 (.cells #[.slice pv a.length cv] 46)) 0]; rfl)) (by simp [Value.oneCell']) (by unfold maxLen; omega) (by omega) (by simp; omega) ?_; intro v9 w9 hown9 hg9 _; have HO := hideP hown9; clear hown9)
          go_roundw
          case rel =>
            refine ⟨l.length + 1, l ++ [a], q, by omega, by go_num, HN.out, ?_, ?_, ?_⟩
            · exact (HR4.out.alloc _).kept hg9 ((HR4.out.alloc _).not_row HROW4.out (by decide))
            · have ht9 := xd1Z HROW4.out
              refine ⟨qq ++ [.slice pv a.length cv], by simp [HQL.out], by simpa using HO.out, ?_⟩
              exact (HQR4.out.keep hg9 ht9 (by decide)).snoc (xarZ HV4.out hg9 ht9 (by decide)) hs3 HLT.out (by omega)
            · exact xatZ (xcaZ HGW.out _) hg9 (fun r hr => .inr (HROW4.out.lt r hr).1)
          case measure => simp [intOf]; omega
      · have hlti : ¬ (k : Int) < (m : Int) := by omega
        obtain rfl : k = m := by omega
        have HX := hideP (And.intro ht (And.intro hR (And.intro hrow hg)))
        clear ht hR hrow hg
        go_wp2
        go_ret
        obtain ⟨ht, hR, hrow, hg⟩ := HX.out
        exact Gives.mk_val hg (HM.out.trans ht) hR hrow
theorem xqaZ (F : Nat) (caps : Array Value) (one : Par Frm) (b : Nat) (s : List UInt8) (w : World) (h : RdI w b s) (hE : Ent F) (hF : ∀ t W, w.grownBy W (some b) → RdI W b t → Calls Tryz.prog F caps W (Gives W b (one t) (AtF W.heap.size))) (hok : ∀ t a q, one t = some (a, q) → True) :
    Calls Tryz.prog 129 #[.pointer (some ⟨b, 0, none⟩), .func (.func F) #[] caps] w (Gives w b (manyP one s) (RowF w.heap.size)) := by
  obtain ⟨i1, hj, hy0, hy1, hy2⟩ := info_parts infoFrmI
  have HS := hideP (xctZ b s w h)
  have HF := hideP hF
  have HOK := hideP hok
  have hEE : ∀ (args : Array Value) (W : World), (callFunc F args).run Tryz.prog W = .ok (.enter F args) W := hE
  have hbl := h.lt
  clear h hF hok
  cases hn : smallP s with
  | none =>
    rw [hn] at HS
    have HM := hideP (show manyP one s = none by rw [manyP, hn])
    clear hn
    go_enter Tryz.func129, Tryz.ntmps129
    go_wp2_with fail
    refine HS.out.mono ?_
    intro e w2 hx
    obtain ⟨rfl, hg⟩ := hx.mis
    exact ⟨rfl, Gives.mk_mis hg HM.out⟩
  | some nr =>
    obtain ⟨n, s1⟩ := nr
    rw [hn] at HS
    have HM := hideP (show manyP one s = xbeZ one n.toNat s1 by rw [manyP, hn])
    obtain ⟨n0, n255⟩ := xhcZ hn
    obtain ⟨m, rfl⟩ := Int.eq_ofNat_of_zero_le n0
    rw [Int.toNat_natCast] at HM
    have hm : m < 256 := by omega
    clear hn n0 n255
    go_enter Tryz.func129, Tryz.ntmps129
    go_wp2_with fail
    refine HS.out.mono ?_
    intro e w2 hx
    obtain ⟨v, rfl, hR2, hv, hg2⟩ := hx.val
    subst hv
    have HR2 := hideP hR2
    have HG2 := hideP hg2
    clear hx hR2 hg2
    go_wp2
    go_loopw [5, 8] (fun v5 v8 wr => ∃ (k : Nat) (l : List Frm) (t : List UInt8), k ≤ m ∧ v8 = .int .i64 k ∧ xbeZ one k s1 = some (l, t) ∧ RdI wr b t ∧ RowF w.heap.size wr v5 l ∧ w.grownBy wr (some b)) (fun _ v8 _ => m - (intOf v8).toNat)
    case atStart => exact ⟨0, [], s1, Nat.zero_le _, rfl, rfl, HR2.out, rowF_nil _ _, HG2.out⟩
    case round =>
      rename World => w3
      obtain ⟨k, l, t, hk, rfl, ht, hR, hrow, hg⟩ := hrel
      have HLK := hideP (xflZ ht)
      obtain ⟨p5, n5, c5, hv5⟩ := RowF.shp hrow
      subst hv5
      by_cases hlt : k < m
      · have hlti : (k : Int) < (m : Int) := by omega
        have HC := hideP (HF.out t w3 hg hR)
        have HT := hideP ht
        have HG := hideP hg
        have HROW := hideP hrow
        cases ho : one t with
        | none =>
          rw [ho] at HC
          have HN := hideP (show xbeZ one m s1 = none from xglZ (k := k + 1) (by rw [xdcZ ht, ho]) (by omega))
          clear ho ht hR hrow hg
          go_wp2_with fail
          refine HC.out.mono ?_
          intro e w4 hx
          obtain ⟨rfl, hg4⟩ := hx.mis
          exact ⟨rfl, Gives.mk_mis (xatZ HG.out hg4 (fun r hr => by cases hr; exact .inl rfl)) (HM.out.trans HN.out)⟩
        | some aq =>
          obtain ⟨a, q⟩ := aq
          have hoka := HOK.out t a q ho
          rw [ho] at HC
          have HN := hideP (show xbeZ one (k + 1) s1 = some (l ++ [a], q) by rw [xdcZ ht, ho])
          clear ho
          go_wp2_with fail
          refine HC.out.mono ?_
          intro e w4 hx
          obtain ⟨v, rfl, hR4, hv, hg4⟩ := hx.val
          have HGW := hideP (xatZ HG.out hg4 (fun r hr => by cases hr; exact .inl rfl))
          have HR4 := hideP hR4
          have HV := hideP hv
          have hbw : b < w3.heap.size := Nat.lt_of_lt_of_le hbl HG.out.size
          have hs3 := HG.out.size
          have hs4 := hg4.size
          obtain rfl : l.length = k := HLK.out
          obtain ⟨qq, hql, hqrow, hqr⟩ := HROW.out
          obtain ⟨lv, sv, rfl, hlv, hsv, hap⟩ := hv
          obtain ⟨pl, cl, hvv⟩ := xagZ hlv
          subst hvv
          obtain ⟨ps, cs, hvv⟩ := xagZ hsv
          subst hvv
          obtain ⟨pq, cq, hqq⟩ := xagZ hqrow
          cases hqq
          have hty := hR.ty
          have hqrow4 := xarZ hqrow hg4 hty (by decide)
          have hqr4 := hqr.keep hg4 hty (by decide)
          have hga := World.grownBy_alloc w4 (.cells #[.int .i64 a.fn, .int .i64 a.pc, .slice pl a.loc.length cl, .slice ps a.stk.length cs] 89) none
          have HROW4 := hideP (hqrow4.alloc (.cells #[.int .i64 a.fn, .int .i64 a.pc, .slice pl a.loc.length cl, .slice ps a.stk.length cs] 89))
          have HQR4 := hideP (hqr4.keep hga (xfmZ _ 89) (by decide))
          have HL4 := hideP (xarZ hlv hga (xfmZ _ 89) (by decide))
          have HS4 := hideP (xarZ hsv hga (xfmZ _ 89) (by decide))
          have HAP := hideP hap
          have HLT := hideP (fun (i : Nat) (y : Value) (g : Nat) (h1 : (fRows qq)[i]? = some y) (h2 : y.ownBlock = some g) => (hqr.rows.lt h1 h2).2.1)
          have HQL := hideP hql
          have hsz := HGW.out.size
          have hqm : qq.length < 256 := by omega
          have hnews : Hid (∀ (j : Nat) (u : Value), [Value.int .i64 a.fn, .int .i64 a.pc, .slice pl a.loc.length cl, .slice ps a.stk.length cs][j]? = some u → (w4.alloc (.cells #[.int .i64 a.fn, .int .i64 a.pc, .slice pl a.loc.length cl, .slice ps a.stk.length cs] 89)).cell? ((⟨w4.heap.size, 0, none⟩ : Addr).add j) = some u) := fun j u hj => by
            have hn := World.alloc_heap_new w4 (.cells #[.int .i64 a.fn, .int .i64 a.pc, .slice pl a.loc.length cl, .slice ps a.stk.length cs] 89)
            match j, hj with
            | 0, hj => simp at hj; subst hj; exact xaaZ hn 0
            | 1, hj => simp at hj; subst hj; exact xaaZ hn 1
            | 2, hj => simp at hj; subst hj; exact xaaZ hn 2
            | 3, hj => simp at hj; subst hj; exact xaaZ hn 3
            | k + 4, hj => simp at hj
          have hso : Hid (∀ u ∈ [Value.int .i64 a.fn, .int .i64 a.pc, .slice pl a.loc.length cl, .slice ps a.stk.length cs], u.oneCell' = true) := fun u hu => by simp at hu; rcases hu with rfl | rfl | rfl | rfl <;> rfl
          clear hx hR4 hqrow hqrow4 hqr hqr4 hg4 hty hga hlv hsv hap hql hR ht hrow hg
          go_wp2_with (at_builtin; refine wpList_append_own _ rfl _ _ 44 rfl w.heap.size 89 i1 (.agg #[.int .i64 0, .int .i64 0, .slice none 0 0, .slice none 0 0]) 4 64 Tryz.underlying44 hj hy0 hy1 hy2 rfl (by decide) _ _ _ rfl HROW4.out ⟨w4.heap.size, 0, none⟩ 1 1 _ rfl rfl hnews.out hso.out (by unfold maxLen; omega) (by omega) (by simp; omega) ?_; intro v9 w9 hown9 hg9 _; have HO := hideP hown9; clear hown9)
          go_roundw
          case rel =>
            refine ⟨l.length + 1, l ++ [a], q, by omega, by go_num, HN.out, ?_, ?_, ?_⟩
            · exact (HR4.out.alloc _).kept hg9 ((HR4.out.alloc _).not_row HROW4.out (by decide))
            · have ht9 := xd1Z HROW4.out
              refine ⟨qq ++ [⟨a.fn, a.pc, .slice pl a.loc.length cl, .slice ps a.stk.length cs⟩], by simp [HQL.out], by rw [xb3Z]; simpa [fCells] using HO.out, ?_⟩
              exact (HQR4.out.keep hg9 ht9 (by decide)).snoc rfl rfl (xarZ HL4.out hg9 ht9 (by decide)) (xarZ HS4.out hg9 ht9 (by decide)) hs3 HLT.out HAP.out
            · exact xatZ (xcaZ HGW.out _) hg9 (fun r hr => .inr (HROW4.out.lt r hr).1)
          case measure => simp [intOf]; omega
      · have hlti : ¬ (k : Int) < (m : Int) := by omega
        obtain rfl : k = m := by omega
        have HX := hideP (And.intro ht (And.intro hR (And.intro hrow hg)))
        clear ht hR hrow hg
        go_wp2
        go_ret
        obtain ⟨ht, hR, hrow, hg⟩ := HX.out
        exact Gives.mk_val hg (HM.out.trans ht) hR hrow
theorem xouZ (b bx : Nat) (s : List UInt8) (w : World) (h : RdI w b s) (hx : w.cell? ⟨bx, 0, none⟩ = some (.pointer (some ⟨b, 0, none⟩))) : Calls Tryz.prog 128 #[.pointer (some ⟨bx, 0, none⟩)] w (Gives w b (numsP s) (RowI w.heap.size)) := by
  have HC := hideP (xhmZ b s w h)
  clear h
  cases hn : numsP s with
  | none =>
    rw [hn] at HC
    go_enter Tryz.func128, Tryz.ntmps128
    go_wp2_with fail
    refine HC.out.mono ?_
    intro e w2 hx
    obtain ⟨rfl, hg⟩ := hx.mis
    exact ⟨rfl, Gives.mk_mis hg rfl⟩
  | some aq =>
    obtain ⟨a, q⟩ := aq
    rw [hn] at HC
    clear hn
    go_enter Tryz.func128, Tryz.ntmps128
    go_wp2_with fail
    refine HC.out.mono ?_
    intro e w2 hx
    obtain ⟨v, rfl, hR, hv, hg⟩ := hx.val
    have HX := hideP (And.intro hR (And.intro hv hg))
    obtain ⟨pv, cv, hvv⟩ := xagZ hv
    subst hvv
    clear hx hR hg hv
    go_wp2
    go_ret
    exact Gives.mk_val HX.out.2.2 rfl HX.out.1 HX.out.2.1
theorem xovZ : Ent 128 := xb1Z Tryz.func128 rfl rfl
end Go.Proofs.YtmjjkenblfndgaaGreat


/- image: a frame; a machine. -/
namespace Go.Proofs.YtmjjkenblfndgaaGreat
open Go.RowKit
set_option linter.unusedSimpArgs false
set_option linter.unusedVariables false
theorem undrew {w w' : World} {r : Option Nat} (h : w.drew.grownBy w' r) : w.grownBy w' r := ⟨h.os, h.tape, h.output, h.size, h.block⟩
theorem RdI.drew {w : World} {b : Nat} {s : List UInt8} (h : RdI w b s) : RdI w.drew b s := h
theorem rowV_on {B b : Nat} {w w' : World} {v : Value} {l : List Val} {s : List UInt8} (h : RowV B w v l) (hR : RdI w b s) (hg : w.grownBy w' (some b)) : RowV B w' v l := xarZ h hg hR.ty (by decide)
theorem xh1Z {B b : Nat} {w w' : World} {v : Value} {l : List Int} {s : List UInt8} (h : RowI B w v l) (hR : RdI w b s) (hg : w.grownBy w' (some b)) : RowI B w' v l := xarZ h hg hR.ty (by decide)
theorem xbnZ {w w1 w2 : World} {b : Nat} (h : w.grownBy w1 (some b)) (k : w1.grownBy w2 (some b)) : w.grownBy w2 (some b) := xatZ h k (fun r hr => by cases hr; exact .inl rfl)
theorem xowZ (b bx : Nat) (s : List UInt8) (w : World) (h : RdI w b s) (hx : w.heap[bx]? = some (.cells #[.pointer (some ⟨b, 0, none⟩)] 143 (0, 0))) (hne : bx ≠ b) : Calls Tryz.prog 130 #[.pointer (some ⟨bx, 0, none⟩)] w (Gives w b (frmP s) (AtF w.heap.size)) := by
  obtain ⟨W1, hW1⟩ : ∃ W1, w.alloc (.cells #[.int .i64 0, .int .i64 0, .slice none 0 0, .slice none 0 0] 89) = W1 := ⟨_, rfl⟩
  have hlx := xacZ hx
  have x1 : W1.heap[w.heap.size]? = some (.cells #[.int .i64 0, .int .i64 0, .slice none 0 0, .slice none 0 0] 89 (0, 0)) := by rw [← hW1]; exact World.alloc_heap_new w _
  have y1 : W1.heap[bx]? = some (.cells #[.pointer (some ⟨b, 0, none⟩)] 143 (0, 0)) := by rw [← hW1]; exact xajZ hx _
  have R1 : RdI W1 b s := by rw [← hW1]; exact h.alloc _
  have hg1 : w.grownBy W1 (some b) := by rw [← hW1]; exact xcaZ (xd4Z w _) _
  have hbl := h.lt
  have hwl := xacZ x1
  have d1 : W1.cell? ⟨bx, 0, none⟩ = some (.pointer (some ⟨b, 0, none⟩)) := xaaZ y1 0
  have d0 := d1
  have HG1 := hideP hg1
  have G1 := hideP (xd4Z W1 (some b))
  have HX0 := hideP x1
  have hs1 := hg1.size
  clear h hg1 x1 y1 hx
  go_enter Tryz.func130, Tryz.ntmps130
  go_wp2_with fail
  refine wp_region_held_drew (S := fun X => X.cell? ⟨bx, 0, none⟩ = some (.pointer (some ⟨b, 0, none⟩))) (by kernel_rfl) d1 (fun hHeld => ?_)
  refine wpAnyH_take (i := 0) (oi := { dst := some 2, op := Op.load 143 (Operand.tmp 0), type := 143, pos := "read.go:41", after := #[], guard := none }) (v := ?_) rfl (by kernel_rfl) (by kernel_rfl) (by kernel_rfl) (fun _ _ _ h => h) (Or.inl ⟨by rfl, ?_⟩) (by assumption) ?_
  rotate_left
  · (intro wS hSw; (try dsimp only at hSw); go_simp) <;> (first | done | with_reducible rfl)
  try simp only [Act.put, List.setIfInBounds_toArray, List.set_cons_zero, List.set_cons_succ]
  refine wpAnyH_take (i := 2) (oi := { dst := some 4, op := Op.load 143 (Operand.tmp 0), type := 143, pos := "read.go:41", after := #[], guard := none }) (v := ?_) rfl (by kernel_rfl) (by kernel_rfl) (by kernel_rfl) (fun _ _ _ h => h) (Or.inl ⟨by rfl, ?_⟩) (by assumption) ?_
  rotate_left
  · (intro wS hSw; (try dsimp only at hSw); go_simp) <;> (first | done | with_reducible rfl)
  try simp only [Act.put, List.setIfInBounds_toArray, List.set_cons_zero, List.set_cons_succ]
  refine wpAnyH_take (i := 4) (oi := { dst := some 6, op := Op.load 143 (Operand.tmp 0), type := 143, pos := "read.go:41", after := #[], guard := none }) (v := ?_) rfl (by kernel_rfl) (by kernel_rfl) (by kernel_rfl) (fun _ _ _ h => h) (Or.inl ⟨by rfl, ?_⟩) (by assumption) ?_
  rotate_left
  · (intro wS hSw; (try dsimp only at hSw); go_simp) <;> (first | done | with_reducible rfl)
  try simp only [Act.put, List.setIfInBounds_toArray, List.set_cons_zero, List.set_cons_succ]
  refine wpAnyH_take (i := 6) (oi := { dst := some 8, op := Op.load 143 (Operand.tmp 0), type := 143, pos := "read.go:41", after := #[], guard := none }) (v := ?_) rfl (by kernel_rfl) (by kernel_rfl) (by kernel_rfl) (fun _ _ _ h => h) (Or.inl ⟨by rfl, ?_⟩) (by assumption) ?_
  rotate_left
  · (intro wS hSw; (try dsimp only at hSw); go_simp) <;> (first | done | with_reducible rfl)
  try simp only [Act.put, List.setIfInBounds_toArray, List.set_cons_zero, List.set_cons_succ]
  refine wpAnyH_ready (rs := [1]) (by kernel_rfl) (by simp) ?_
  refine AllReadyH.cons (o := { dst := some 3, op := Op.call { callee := Callee.value (Operand.func 125), args := #[Operand.tmp 2], argTypes := #[143] }, type := 3, pos := "read.go:41", after := #[{ on := 0, ground := Ground.data }], guard := none }) rfl (fun K hK => ?_) AllReadyH.nil
  go_simp
  go_at_call 125
  refine (xctZ b s W1.drew R1.drew).mono ?_
  intro e w2 hx
  obtain ⟨g', hcase⟩ := hx
  have g2 : W1.grownBy w2 (some b) := undrew g'
  have G2 := hideP (xbnZ G1.out g2)
  clear g'
  rcases hcase with ⟨hn, rfl⟩ | ⟨a2, q2, v2, hn, rfl, R2, V2⟩
  · exact ⟨rfl, Gives.mk_mis (xbnZ HG1.out G2.out) (by simp only [frmP, hn])⟩
  have V2 : v2 = .int .i64 a2 := V2
  subst V2
  have d2 := G2.out.cell d0 (fun e => by cases e; exact hne rfl)
  have HN2 := hideP hn
  clear hn
  have RR2 := hideP R2
  have gg2 := hideP g2
  refine hK.out _ _ ?_ (fun hHeld => ?_)
  · exact d2
  clear hK K
  try simp only [Act.put, List.setIfInBounds_toArray, List.set_cons_zero, List.set_cons_succ]
  refine wpAnyH_ready (rs := [3]) (by kernel_rfl) (by simp) ?_
  refine AllReadyH.cons (o := { dst := some 5, op := Op.call { callee := Callee.value (Operand.func 125), args := #[Operand.tmp 4], argTypes := #[143] }, type := 3, pos := "read.go:41", after := #[{ on := 2, ground := Ground.data }, { on := 1, ground := Ground.chain }], guard := none }) rfl (fun K hK => ?_) AllReadyH.nil
  go_simp
  go_at_call 125
  refine (xctZ b q2 w2 R2).mono ?_
  intro e w3 hx
  obtain ⟨g', hcase⟩ := hx
  have g3 : w2.grownBy w3 (some b) :=  g'
  have G3 := hideP (xbnZ G2.out g3)
  clear g'
  rcases hcase with ⟨hn, rfl⟩ | ⟨a3, q3, v3, hn, rfl, R3, V3⟩
  · exact ⟨rfl, Gives.mk_mis (xbnZ HG1.out G3.out) (by simp only [frmP, HN2.out, hn])⟩
  have V3 : v3 = .int .i64 a3 := V3
  subst V3
  have d3 := G3.out.cell d0 (fun e => by cases e; exact hne rfl)
  have HN3 := hideP hn
  clear hn
  have RR3 := hideP R3
  have gg3 := hideP g3
  refine hK.out _ _ ?_ (fun hHeld => ?_)
  · exact d3
  clear hK K
  try simp only [Act.put, List.setIfInBounds_toArray, List.set_cons_zero, List.set_cons_succ]
  refine wpAnyH_ready (rs := [5]) (by kernel_rfl) (by simp) ?_
  refine AllReadyH.cons (o := { dst := some 7, op := Op.call { callee := Callee.value (Operand.func 131), args := #[Operand.tmp 6], argTypes := #[143] }, type := 87, pos := "read.go:41", after := #[{ on := 4, ground := Ground.data }, { on := 3, ground := Ground.chain }], guard := none }) rfl (fun K hK => ?_) AllReadyH.nil
  go_simp
  go_at_call 131
  refine (xloZ b q3 w3 R3).mono ?_
  intro e w4 hx
  obtain ⟨g', hcase⟩ := hx
  have g4 : w3.grownBy w4 (some b) :=  g'
  have G4 := hideP (xbnZ G3.out g4)
  clear g'
  rcases hcase with ⟨hn, rfl⟩ | ⟨a4, q4, v4, hn, rfl, R4, V4⟩
  · exact ⟨rfl, Gives.mk_mis (xbnZ HG1.out G4.out) (by simp only [frmP, HN2.out, HN3.out, hn])⟩
  obtain ⟨p4, n4, c4, hv4⟩ := RowV.shp V4
  subst hv4
  have d4 := G4.out.cell d0 (fun e => by cases e; exact hne rfl)
  have HN4 := hideP hn
  clear hn
  have RR4 := hideP R4
  have gg4 := hideP g4
  have VV4 := hideP V4
  clear V4
  refine hK.out _ _ ?_ (fun hHeld => ?_)
  · exact d4
  clear hK K
  try simp only [Act.put, List.setIfInBounds_toArray, List.set_cons_zero, List.set_cons_succ]
  refine wpAnyH_ready (rs := [7]) (by kernel_rfl) (by simp) ?_
  refine AllReadyH.cons (o := { dst := some 9, op := Op.call { callee := Callee.value (Operand.func 131), args := #[Operand.tmp 8], argTypes := #[143] }, type := 87, pos := "read.go:41", after := #[{ on := 6, ground := Ground.data }, { on := 5, ground := Ground.chain }], guard := none }) rfl (fun K hK => ?_) AllReadyH.nil
  go_simp
  go_at_call 131
  refine (xloZ b q4 w4 R4).mono ?_
  intro e w5 hx
  obtain ⟨g', hcase⟩ := hx
  have g5 : w4.grownBy w5 (some b) :=  g'
  have G5 := hideP (xbnZ G4.out g5)
  clear g'
  rcases hcase with ⟨hn, rfl⟩ | ⟨a5, q5, v5, hn, rfl, R5, V5⟩
  · exact ⟨rfl, Gives.mk_mis (xbnZ HG1.out G5.out) (by simp only [frmP, HN2.out, HN3.out, HN4.out, hn])⟩
  obtain ⟨p5, n5, c5, hv5⟩ := RowV.shp V5
  subst hv5
  have d5 := G5.out.cell d0 (fun e => by cases e; exact hne rfl)
  have HN5 := hideP hn
  clear hn
  have RR5 := hideP R5
  have gg5 := hideP g5
  have hx5 := (G5.out.block _ hwl (fun e => by injection e with e1; omega)).trans HX0.out
  have k0 := xaaZ hx5 0
  have k1 := xaaZ hx5 1
  have k2 := xaaZ hx5 2
  have k3 := xaaZ hx5 3
  simp at k0 k1 k2 k3
  have zz := Lib.frozen_of_heap hx5
  have z0 := zz 0
  have z1 := zz 1
  have z2 := zz 2
  have z3 := zz 3
  have HX5 := hideP hx5
  clear zz hx5
  have VV5 := hideP V5
  clear V5
  refine hK.out _ _ ?_ (fun hHeld => ?_)
  · exact d5
  clear hK K
  try simp only [Act.put, List.setIfInBounds_toArray, List.set_cons_zero, List.set_cons_succ]
  refine wpAnyH_take (i := 8) (oi := { dst := some 10, op := Op.build 89 #[(0, Operand.tmp 3), (1, Operand.tmp 5), (2, Operand.tmp 7), (3, Operand.tmp 9)], type := 89, pos := "read.go:41", after := #[{ on := 1, ground := Ground.data }, { on := 3, ground := Ground.data }, { on := 5, ground := Ground.data }, { on := 7, ground := Ground.data }], guard := none }) (v := ?_) rfl (by kernel_rfl) (by kernel_rfl) (by kernel_rfl) (fun _ _ _ h => h) (Or.inl ⟨by rfl, ?_⟩) (by assumption) ?_
  rotate_left
  · (intro wS hSw; (try dsimp only at hSw); go_simp) <;> (first | done | with_reducible rfl)
  try simp only [Act.put, List.setIfInBounds_toArray, List.set_cons_zero, List.set_cons_succ]
  refine wpAnyH_ready (rs := [9]) (by kernel_rfl) (by simp) ?_
  refine AllReadyH.cons (o := { dst := none, op := Op.store 89 (Operand.tmp 1) (Operand.tmp 10), type := 0, pos := "read.go:41", after := #[{ on := 8, ground := Ground.data }, { on := 7, ground := Ground.chain }, { on := 0, ground := Ground.phase }, { on := 1, ground := Ground.phase }, { on := 2, ground := Ground.phase }, { on := 3, ground := Ground.phase }, { on := 4, ground := Ground.phase }, { on := 5, ground := Ground.phase }, { on := 6, ground := Ground.phase }, { on := 7, ground := Ground.phase }, { on := 8, ground := Ground.phase }], guard := none }) rfl (fun K hK => ?_) AllReadyH.nil
  go_simp
  refine hK.out _ _ ?_ (fun hHeld => ?_)
  · exact ((((xa6Z w5 w.heap.size 0 _).trans (xa6Z _ w.heap.size 1 _)).trans (xa6Z _ w.heap.size 2 _)).trans (xa6Z _ w.heap.size 3 _)).cell d5 (fun e => by injection e with e1; exact absurd e1 (show ¬ bx = w.heap.size by omega))
  clear hK K
  try simp only [Act.put, List.setIfInBounds_toArray, List.set_cons_zero, List.set_cons_succ]
  refine wpAnyH_done (by kernel_rfl) ?_ _
  have hgs : w5.grownBy ((((w5.setCell ⟨w.heap.size, 0, none⟩ (.int .i64 a2)).setCell ⟨w.heap.size, 1, none⟩ (.int .i64 a3)).setCell ⟨w.heap.size, 2, none⟩ (.slice p4 n4 c4)).setCell ⟨w.heap.size, 3, none⟩ (.slice p5 n5 c5)) (some w.heap.size) := (((xa6Z w5 w.heap.size 0 _).trans (xa6Z _ w.heap.size 1 _)).trans (xa6Z _ w.heap.size 2 _)).trans (xa6Z _ w.heap.size 3 _)
  have HGS := hideP hgs
  clear hgs
  go_wp2
  refine bodyPost_ret (v := .agg #[.int .i64 a2, .int .i64 a3, .slice p4 n4 c4, .slice p5 n5 c5]) (by simp [results, Tryz.results130, go_sem, k0, k1, k2, k3]) rfl ?_
  have hty : TyRow w5 (some w.heap.size) 89 := xa5Z HX5.out
  have h13 := G3.out.size
  have h14 := G4.out.size
  refine Gives.mk_val (a := (⟨a2, a3, a4, a5⟩ : Frm)) (xatZ (xbnZ HG1.out G5.out) HGS.out (fun r hr => by cases hr; exact .inr (Nat.le_refl _))) (by simp only [frmP, HN2.out, HN3.out, HN4.out, HN5.out]) (RR5.out.kept HGS.out (fun e => by injection e with e1; omega)) ⟨_, _, rfl, ?_, ?_, ?_⟩
  · exact xapZ (xarZ (rowV_on VV4.out RR4.out gg5.out) HGS.out hty (by decide)) (by omega)
  · exact xapZ (xarZ VV5.out HGS.out hty (by decide)) (by omega)
  · intro g h1 h2
    have h3 := (VV4.out.lt g h1).2
    have h4 := (VV5.out.lt g h2).1
    omega
theorem xoxZ : Ent 130 := xb1Z Tryz.func130 rfl rfl
end Go.Proofs.YtmjjkenblfndgaaGreat


