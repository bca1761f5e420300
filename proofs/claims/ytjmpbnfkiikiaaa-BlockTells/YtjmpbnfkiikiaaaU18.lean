/- My texts Bi Ra Xe, joined. -/
import Derived.Test.YtjmpbnfkiikiaaaU8
import Derived.Test.YtjmpbnfkiikiaaaU9
import Derived.Test.YtjmpbnfkiikiaaaU12
import Derived.Test.YtjmpbnfkiikiaaaU15
import Derived.Test.YtjmpbnfkiikiaaaU16
import Derived.Test.YtjmpbnfkiikiaaaU17
/- The reference's KeepOf. -/
namespace Go.Proofs.Ytjmpbnfkiikiaaa
open Go.RowKit
set_option linter.unusedSimpArgs false
set_option linter.unusedVariables false
/-- what stands beside a ref behind i rounds. -/
def thenI (refs : List Int) (i : Nat) (r : Int) : Int := if 1 ≤ r ∧ r ≤ (i : Int) then thenOf refs r else 0
def rowI (refs : List Int) (i k : Nat) : List Int := (refs.take k).map (thenI refs (i + 1)) ++ (refs.drop k).map (thenI refs i)
theorem rowI_length (refs : List Int) (i k : Nat) (hk : k ≤ refs.length) : (rowI refs i k).length = refs.length := by simp [rowI]; omega
theorem rowI_end (refs : List Int) (i : Nat) : rowI refs i refs.length = rowI refs (i + 1) 0 := by simp [rowI]
theorem rowI_start (refs : List Int) : rowI refs 0 0 = List.replicate refs.length 0 := by
  have h : ∀ r ∈ refs, thenI refs 0 r = 0 := fun r _ => by unfold thenI; rw [if_neg (by omega)]
  simp only [rowI, List.take_zero, List.map_nil, List.nil_append, List.drop_zero]
  rw [List.map_congr_left h]
  exact List.map_const'
theorem rowI_same {refs : List Int} {i k : Nat} {r : Int} (hr : refs[k]? = some r) (hne : ¬ r = (i : Int) + 1) : rowI refs i k = rowI refs i (k + 1) := by
  have hk := lt_of_at hr
  have hd : refs.drop k = r :: refs.drop (k + 1) := by
    rw [List.drop_eq_getElem_cons hk]; congr 1; exact (List.getElem?_eq_some_iff.1 hr).2
  have he : thenI refs i r = thenI refs (i + 1) r := by
    unfold thenI
    by_cases hc : 1 ≤ r ∧ r ≤ (i : Int)
    · rw [if_pos hc, if_pos (by omega)]
    · rw [if_neg hc, if_neg (by omega)]
  unfold rowI
  rw [hd, take_snoc refs k r hr, List.map_append, List.map_cons, he, List.append_assoc]
  rfl
theorem rowI_set {refs : List Int} {i k : Nat} (hr : refs[k]? = some ((i : Int) + 1)) : (rowI refs i k).set k ((stays refs i).length + 1 : Int) = rowI refs i (k + 1) := by
  have hk := lt_of_at hr
  have hd : refs.drop k = ((i : Int) + 1) :: refs.drop (k + 1) := by
    rw [List.drop_eq_getElem_cons hk]; congr 1; exact (List.getElem?_eq_some_iff.1 hr).2
  have he : thenI refs (i + 1) ((i : Int) + 1) = ((stays refs i).length + 1 : Int) := by
    unfold thenI thenOf
    rw [if_pos (by omega), show ((i : Int) + 1).toNat = i + 1 by omega, stays_true (List.mem_of_getElem? hr), List.length_append, List.length_singleton]
    omega
  have hl : ((refs.take k).map (thenI refs (i + 1))).length = k := by simp; omega
  unfold rowI
  rw [hd, take_snoc refs k _ hr, List.map_append, List.map_cons]
  conv => lhs; rw [List.set_append_right _ _ (by omega), hl, Nat.sub_self, List.set_cons_zero]
  rw [List.append_assoc, List.map_cons, List.map_nil, he]
  rfl
theorem rowI_all {L : List (List Int)} {refs : List Int} (h : ∀ r ∈ refs, 0 ≤ r ∧ r ≤ (L.length : Int)) : rowI refs L.length 0 = refs.map (thenOf refs) := by
  simp only [rowI, List.take_zero, List.map_nil, List.nil_append, List.drop_zero]
  apply List.map_congr_left
  intro r hr
  obtain ⟨h1, h2⟩ := h r hr
  unfold thenI
  by_cases h0 : r = 0
  · subst h0; rfl
  · rw [if_pos (by omega)]
theorem mem_take_succ {refs : List Int} {k : Nat} {r x : Int} (hr : refs[k]? = some r) : decide (x ∈ refs.take (k + 1)) = (decide (x ∈ refs.take k) || decide (r = x)) := by
  rw [take_snoc refs k r hr, Bool.eq_iff_iff]
  simp only [decide_eq_true_eq, Bool.or_eq_true, List.mem_append, List.mem_singleton]
  constructor
  · rintro (h | h)
    · exact .inl h
    · exact .inr h.symm
  · rintro (h | h)
    · exact .inl h
    · exact .inr h.symm
set_option maxRecDepth 100000 in
set_option maxHeartbeats 4000000 in
theorem keepOf_any (L : List (List Int)) (refs : List Int) (v u : Value) (w : World) (h : BlksAt w v L) (hu : IntsAt w u refs) (hrl : refs.length ≤ 17592186044416) (hke : keepErr L refs = 0) : Calls Try.prog 19 #[v, u] w fun e w' => ∃ x y, e = .returned (.tuple #[x, y]) ∧ BlksOwn w' w.heap.size x (keptL L refs L.length) ∧ w'.ownsRow w.heap.size 3 1 y refs.length ((refs.map (thenOf refs)).map (Value.int .i64)) ∧ Below w.heap.size w w' := by
  obtain ⟨i0, hi, hz0, hz1, hz2⟩ := info_parts infoInt
  obtain ⟨i1, hj, hy0, hy1, hy2⟩ := info_parts infoInts
  obtain ⟨hbe, hrk⟩ := keep_facts hke
  obtain ⟨h8, h40, -⟩ := blkErr_zero hbe
  have hsm : ∀ (k : Nat) (b : List Int), L[k]? = some b → b.length ≤ 40 := fun k b hb => by have := cellsN_mem hb; omega
  obtain ⟨p, cap, hv, -, -⟩ := id h
  obtain ⟨pu, capu, huv, -, -⟩ := id hu
  subst hv huv
  have H := hideP h
  have HU := hideP hu
  have HSM := hideP hsm
  have HRK := hideP hrk
  clear h hu hke hbe hsm hrk
  go_enter Try.func19, Try.ntmps19
  go_wp2_with (at_make; refine wpList_make_full _ rfl _ _ 26 rfl w.heap.size 3 i0 (.int .i64 0) 1 Try.underlying26 hi hz0 hz1 _ _ _ _ refs.length rfl rfl rfl rfl (by rw [hz2]; omega) (by unfold maxLen; omega) (Nat.le_refl _) ?_; intro w1 hown1 hg1)
  rw [made_ints] at hown1
  have hT1 := row_full hown1 (by simp)
  have b1 : Below w.heap.size w w1 := (Below.refl _ w).grown hg1 (Nat.le_refl _) (fun k hk => by cases hk)
  rw [← rowI_start refs] at hT1
  have lT := heap_lt hT1
  have HT1 := hideP hT1
  clear hown1 hg1 hT1
  go_loopw [6, 8, 9, 10] (fun v6 v8 _ _ wr => ∃ (i : Nat) (q : List Value), i ≤ L.length ∧ v8 = .int .i64 i ∧ wr.ownsRow w1.heap.size 26 1 v6 q.length q ∧ BRows wr w1.heap.size q (keptL L refs i) ∧ wr.heap[w.heap.size]? = some (.cells ((rowI refs i 0).map (Value.int .i64)).toArray 3 (0, 0)) ∧ Below w.heap.size w wr ∧ w1.heap.size ≤ wr.heap.size) (fun _ v8 _ _ _ => L.length - (intOf v8).toNat)
  case atStart => exact ⟨0, [], Nat.zero_le _, rfl, World.ownsRow_nil _ _ _ _, bRows_nil _ _, HT1.out, b1, Nat.le_refl _⟩
  case round =>
    rename World => w2
    obtain ⟨i, q, hil, rfl, hrow, hrs, hT, b2, s2⟩ := hrel
    obtain ⟨p6, c6, hv6⟩ := row_shp hrow
    subst hv6
    have hqs : q.length = (stays refs i).length := by rw [hrs.len, keptL_length]
    have hq8 : q.length ≤ 8 := by have := stays_le refs i; omega
    have HQS := hideP hqs
    have HROW := hideP hrow
    have HRS := hideP hrs
    have HT := hideP hT
    clear hqs hrow hrs hT
    by_cases hlt : i < L.length
    · have hlti : (i : Int) < (L.length : Int) := by omega
      go_wp2
      go_loopw [9, 10] (fun v9 v10 wr => ∃ k : Nat, k ≤ refs.length ∧ v10 = .int .i64 k ∧ v9 = .bool (decide ((i : Int) + 1 ∈ refs.take k)) ∧ wr.heap[w.heap.size]? = some (.cells ((rowI refs i k).map (Value.int .i64)).toArray 3 (0, 0)) ∧ wr.heap.size = w2.heap.size ∧ Below w.heap.size w wr ∧ w2.grownBy wr (some w.heap.size)) (fun _ v10 _ => refs.length - (intOf v10).toNat)
      case atStart => exact ⟨0, Nat.zero_le _, rfl, by simp, HT.out, rfl, b2, World.grownBy.refl _ _⟩
      case round =>
        rename World => w3
        obtain ⟨k, hk, rfl, rfl, hT3, s3, b3, g3⟩ := hrel
        have HT3 := hideP hT3
        have HS3 := hideP s3
        clear hT3 s3
        by_cases hkl : k < refs.length
        · have hkli : (k : Int) < (refs.length : Int) := by omega
          obtain ⟨r, hr⟩ := at_of_lt hkl
          obtain ⟨pa, ca, hea, _, hca⟩ := HU.out.below b3
          cases hea
          obtain ⟨ga, oa, hpa, _, ra⟩ := hca k r hr
          subst hpa
          have hmem := mem_take_succ (x := (i : Int) + 1) hr
          have HMEM := hideP hmem
          have HR := hideP hr
          clear hca hr hmem
          by_cases he : r = (i : Int) + 1
          · have he' : (r == (i : Int) + 1) = true := by simp [he]
            have HE := hideP he
            obtain ⟨y3, -, c3⟩ := row_cell_ex (k := k) (by rw [rowI_length refs i k hk]; exact hkl) HT3.out
            have z3 := Lib.frozen_of_heap HT3.out k
            subst he
            have he2 : ((i : Int) + 1 == (i : Int) + 1) = true := by simp
            clear he'
            go_wp2
            go_roundw
            case rel =>
              have hs := heap_setCell_same w3 w.heap.size k _ _ (.int .i64 ((q.length : Int) + 1)) HT3.out
              rw [set_ints, HQS.out] at hs
              rw [rowI_set HR.out] at hs
              refine ⟨k + 1, by omega, by go_num, by rw [HMEM.out]; simp, by rw [HQS.out]; exact hs, by simpa using HS3.out, b3.setCell (Nat.le_refl _) _, g3.trans (set_grown w3 ⟨w.heap.size, k, none⟩ _)⟩
            case measure => simp [intOf]; omega
          · have he' : (r == (i : Int) + 1) = false := by simp [he]
            have HE := hideP he
            clear he
            go_wp2
            go_roundw
            case rel =>
              refine ⟨k + 1, by omega, by go_num, by rw [HMEM.out, decide_eq_false HE.out, Bool.or_false], by rw [← rowI_same HR.out HE.out]; exact HT3.out, HS3.out, b3, g3⟩
            case measure => simp [intOf]; omega
        · have hkli : ¬ (k : Int) < (refs.length : Int) := by omega
          have hke : k = refs.length := by omega
          subst hke
          rw [List.take_of_length_le (Nat.le_refl _)]
          have hT3' := HT3.out
          rw [rowI_end] at hT3'
          have hne : ∀ g, w1.heap.size ≤ g → some g ≠ some w.heap.size := fun g hg e => by cases e; omega
          have hrow3 : w3.ownsRow w1.heap.size 26 1 (.slice p6 q.length c6) q.length q := row_same HROW.out fun g hg => g3.block g (HROW.out.lt g hg).2 (hne g (HROW.out.lt g hg).1)
          have hrs3 : BRows w3 w1.heap.size q (keptL L refs i) := HRS.out.same fun a x g h1 h2 => g3.block g (HRS.out.lt h1 h2).2.1 (hne g (HRS.out.lt h1 h2).1)
          have hs3 := HS3.out
          by_cases hin : (i : Int) + 1 ∈ refs
          · rw [decide_eq_true hin]
            obtain ⟨b, hb⟩ := at_of_lt hlt
            obtain ⟨p5, q5, he5, _, hc5⟩ := H.out.below b3
            cases he5
            obtain ⟨g, off, c, hp, hg, g0, g1, gn, _⟩ := hc5 i b hb
            subst hp
            obtain ⟨p9, c9, hc9, _, _⟩ := id g1
            subst hc9
            have hbl := HSM.out i b hb
            have hbA := (Below.refl w3.heap.size w3).alloc (Nat.le_refl _) (.cells #[] 3)
            have hmade := World.ownsRow_made (base := w3.heap.size) (e := 3) (size := 1) w3 #[] 0 (Nat.le_refl _) (by unfold maxLen; omega) rfl
            have HMADE := hideP hmade
            have HG1 := hideP (g1.below hbA)
            have HGN := hideP gn
            have HB := hideP hb
            have HIN := hideP hin
            have HRS3 := hideP hrs3
            have HROW3 := hideP hrow3
            have HT3' := hideP hT3'
            have lT3 := heap_lt HT3'.out
            have s13 : w1.heap.size ≤ w3.heap.size := by omega
            clear hc5 g1 gn hb hrs3 hrow3 hmade hin hT3' HT3 hs3 HS3
            go_wp2_with (first
              | (at_builtin; refine wpList_append_ints rfl _ _ rfl w3.heap.size _ _ _ rfl HMADE.out _ b rfl HG1.out HGN.out (by unfold maxLen; omega) (by omega) (by simp) ?_; intro v6 w6 hown6 hg6; simp only [Nat.zero_add, List.nil_append] at hown6; have b6 : Below w3.heap.size w3 w6 := (hbA.grown hg6 (by simp) (fun j hj => (HMADE.out.lt j hj).1)); obtain ⟨p7, c7, hv7⟩ := row_shp hown6; subst hv7; have hrow6 := row_same HROW3.out (W' := w6) (fun j hj => b6.block j (HROW3.out.lt j hj).2); have HROW7 := hideP (hrow6.alloc (.cells #[.slice p7 b.length c7] 26)); have HOWN6 := hideP hown6; have s6 := b6.size; clear hown6 hrow6)
              | (at_builtin; refine wpList_append_own _ rfl _ _ 22 rfl w1.heap.size 26 i1 (.slice none 0 0) 1 24 Try.underlying22 hj hy0 hy1 hy2 rfl (by decide) _ _ _ rfl HROW7.out ⟨w6.heap.size, 0, none⟩ 1 1 [.slice p7 b.length c7] rfl rfl (cell_one_at (by rw [cell_at' (World.alloc_heap_new w6 (.cells #[.slice p7 b.length c7] 26)) 0]; rfl)) (by simp [Value.oneCell']) (by unfold maxLen; omega) (by omega) (by simp; omega) ?_; intro v9 w9 hown9 hg9 _; have HOWN9 := hideP hown9; clear hown9))
            go_roundw
            case rel =>
              have hA := (HRS3.out.below b6).below ((Below.refl w6.heap.size w6).alloc (Nat.le_refl _) (.cells #[.slice p7 b.length c7] 26))
              have hne : ∀ (g : Nat) (cs : Array Value), (w6.alloc (.cells #[.slice p7 b.length c7] 26)).heap[g]? = some (.cells cs 3 (0, 0)) → some g ≠ Value.ownBlock (.slice p6 q.length c6) := fun g cs h1 => row_not HROW7.out h1 (by decide)
              have hB9 : BRows w9 w1.heap.size q (keptL L refs i) := hA.same fun i x g h1 h2 => by
                obtain ⟨_, h5, cs, h6⟩ := hA.lt h1 h2
                exact hg9.block g h5 (hne g cs h6)
              have hr7 := HOWN6.out.alloc (.cells #[.slice p7 b.length c7] 26)
              have hr9 : w9.ownsRow w3.heap.size 3 1 (.slice p7 b.length c7) b.length (b.map (Value.int .i64)) := row_same hr7 fun g h2 => by
                rcases hr7.2 with ⟨h3, _⟩ | ⟨g', cap', cur, h3, _, h6, _⟩
                · rw [h3] at h2; cases h2
                · rw [h3] at h2; cases h2
                  exact hg9.block g' (heap_lt h6) (hne g' _ h6)
              have hT7 : (w6.alloc (.cells #[.slice p7 b.length c7] 26)).heap[w.heap.size]? = _ := heap_old ((b6.block _ lT3).trans HT3'.out) _
              have hT9 := (hg9.block w.heap.size (heap_lt hT7) (hne _ _ hT7)).trans hT7
              refine ⟨i + 1, q ++ [.slice p7 b.length c7], by omega, by go_num, ?_, ?_, hT9, ?_, ?_⟩
              · rw [List.length_append, List.length_singleton]
                exact HOWN9.out
              · rw [keptL_true HIN.out HB.out]
                exact hB9.snoc hr9 s13 (fun i y g h1 h2 => (HRS3.out.lt h1 h2).2.1) (by omega)
              · exact ((b3.trans (b6.mono (by have := b3.size; omega))).alloc (by have := b3.size; omega) _).grown hg9 (by have := b3.size; simp; omega) (fun j hj => by have := (HROW7.out.lt j hj).1; omega)
              · have := hg9.size
                simp at this
                omega
            case measure => simp [intOf]; omega
          · rw [decide_eq_false hin]
            have HIN := hideP hin
            have HRS3 := hideP hrs3
            have HROW3 := hideP hrow3
            have HT3' := hideP hT3'
            clear hin hrs3 hrow3 hT3' HT3
            go_wp2
            go_roundw
            case rel => exact ⟨i + 1, q, by omega, by go_num, HROW3.out, by rw [keptL_false HIN.out]; exact HRS3.out, HT3'.out, b3, by omega⟩
            case measure => simp [intOf]; omega
    · have hlti : ¬ (i : Int) < (L.length : Int) := by omega
      have hie : i = L.length := by omega
      subst hie
      go_wp2
      go_ret2
      have hO := HT.out
      rw [rowI_all HRK.out] at hO
      refine ⟨_, _, rfl, ?_, ?_, b2⟩
      · exact (show BlksOwn w2 w1.heap.size (.slice p6 q.length c6) (keptL L refs L.length) from ⟨q, HROW.out, HRS.out⟩).low b1.size
      · exact ⟨by simp, .inr ⟨w.heap.size, refs.length, _, rfl, Nat.le_refl _, hO, Nat.le_refl _, by unfold maxLen; omega, by simp, by simp [List.take_of_length_le]⟩⟩
end Go.Proofs.Ytjmpbnfkiikiaaa
/- The reference's plainOf, typesOf, DoesStand. -/
namespace Go.Proofs.Ytjmpbnfkiikiaaa
open Go.RowKit
set_option linter.unusedSimpArgs false
set_option linter.unusedVariables false
/-- a letter's type; 0: the local's. -/
def letT (b : UInt8) : Int := if b = 105 then 1 else if b = 114 then 2 else if b = 110 then 3 else 0
def isLet (b : UInt8) : Prop := b = 105 ∨ b = 114 ∨ b = 110 ∨ b = 108
def Letters (A : ByteArray) (l : List Int) : Prop := A.data.toList.map letT = l ∧ (∀ b ∈ A.data.toList, isLet b) ∧ A.size ≤ 3
theorem letters_lit {a : Array UInt8} {l : List Int} (h : a.toList.map letT = l) (h2 : ∀ b ∈ a.toList, b = 105 ∨ b = 114 ∨ b = 110 ∨ b = 108) (h3 : a.size ≤ 3) : Letters ⟨a⟩ l := ⟨h, h2, h3⟩
end Go.Proofs.Ytjmpbnfkiikiaaa
/- Programs that came in, whole: room, nil or not, lengths. -/
namespace Go.Proofs.Ytjmpbnfkiikiaaa
open Go.ChangeShapes Go.WideShapes Go.ChangeAt Go.RowKit
set_option linter.unusedVariables false
set_option linter.unusedSimpArgs false
section
variable {H : Type} {enc : TypeId × Value → H} {W : World} {fuel : Nat} {x : DataW H × List MemPlace}
/-- a function's lists: nil or not, no longer than may be, the locals no longer than their room. -/
def FnFull (c1 c3 : Value) : Prop := NilOk c1 ∧ NilOk c3 ∧ (∃ p n cap, c1 = .slice p n cap ∧ n ≤ cap ∧ n ≤ 17592186044416) ∧ ∃ p n cap, c3 = .slice p n cap ∧ n ≤ 8796093022208
/-- all of a program that came in. -/
structure ProgFull (W : World) (v : Value) (l : List Fn) : Prop where
  at_ : FnsAt W v l
  nil : NilOk v
  len : l.length ≤ 2199023255488
  each : ∀ (b off n cap k : Nat) (c1 c3 : Value), v = .slice (some ⟨b, off, none⟩) n cap → k < n → W.cell? ⟨b, off + k * 4 + 1, none⟩ = some c1 → W.cell? ⟨b, off + k * 4 + 3, none⟩ = some c3 → FnFull c1 c3
theorem ProgFull.cap {W : World} {v : Value} {l : List Fn} (h : ProgFull W v l) : CapAt W v := by
  intro b off n cap k p' n' c' hv hk hc
  obtain ⟨p, cap2, hv2, hm, hcc⟩ := h.at_
  rw [hv] at hv2
  cases hv2
  obtain ⟨f, hf⟩ := at_of_lt (l := l) hk
  obtain ⟨b2, off2, c0, c1, c2, c3, hp, hlt, _, _, _, g3, _⟩ := hcc k f hf
  cases hp
  obtain ⟨_, _, ⟨p1, n1, cap1, e1, h1, _⟩, _⟩ := h.each b off l.length cap k _ _ hv hk hc g3
  cases e1
  exact h1
end
end Go.Proofs.Ytjmpbnfkiikiaaa
