/- flow.Reach. -/
import Derived.Test.YtenaionchlnpoabFe
import Derived.Laws.EntriesVeiled
namespace Go.Proofs.Ytenaionchlnpoab
open Go.RowKit
set_option linter.unusedSimpArgs false
set_option linter.unusedVariables false
noncomputable def reachR (l : List (Int × Int)) : List Int := if flowErr l = 0 then (reachL l).map Int.ofNat else []
theorem infoBool : (Try.prog.info? 4).map (fun i => (i.zero, i.size, i.bytes)) = some (some (.bool false), 1, 1) := by kernel_rfl
theorem made_bools (n : Nat) : (madeCells (Value.bool false).cells (n * 1)).toList = (List.replicate n false).map Value.bool := by
  have h : (Value.bool false).cells = #[.bool false] := rfl
  rw [h]
  apply List.ext_getElem?
  intro k
  by_cases hk : k < n
  · simp [madeCells, hk, Nat.mod_one]
  · simp [madeCells, hk]
theorem grew_reach {l : List (Int × Int)} {M : List Bool} (h : Grew l (List.replicate (l.length + 1) false) M) (h0 : M.getD 0 false = true) : placesL (fun pc => M.getD pc false) M.length = (reachL l).map Int.ofNat := by
  have hn : ∀ x, (List.replicate (l.length + 1) false).getD x false = false := by
    intro x
    rw [List.getD_eq_getElem?_getD, List.getElem?_replicate]
    split <;> rfl
  have hlen : M.length = l.length + 1 := by rw [h.len]; simp
  rw [hlen]
  unfold placesL
  rw [reachL_eq (code := l) (fun pc => M.getD pc false) h0 (fun x hx => ?_) (fun pc to hp hg => h.shut pc to hp (hn pc) hg)]
  rcases h.come x hx with h1 | h1
  · rw [hn] at h1; cases h1
  · exact h1
theorem vis_box {W0 w : World} {v : Value} {l : List (Int × Int)} {bR bC bV R : Nat} {M : List Bool} (h : Vis W0 w v l bR bC bV R M) : ReachBox w bR R M :=
  ⟨heap_lt h.hbR, heap_lt h.hR, by have := cell_at' h.hbR 0; simpa using this, fun k b hk => (cell_at' h.hR k).trans (marks_cells hk)⟩
theorem row_full {w : World} {base : Nat} {e : TypeId} {R n : Nat} {xs : List Value} (h : w.ownsRow base e 1 (.slice (some ⟨R, 0, none⟩) n n) n xs) (hx : xs.length = n) : w.heap[R]? = some (.cells xs.toArray e (0, 0)) := by
  rcases h.2 with ⟨h1, _⟩ | ⟨g, cap, cur, hv, hb, hg, hn, hc, hs, ht⟩
  · cases h1
  · cases hv
    rw [hg]
    have : cur.toList = xs := by rw [← ht, List.take_of_length_le (by simp; omega)]
    rw [← this]
/-- the boxes and the marks as Reach makes them. -/
theorem reach_boxes {w w2 w3 : World} {v : Value} {l : List (Int × Int)} (h : OpsAt w v l) (hB : Below w.heap.size w w2) (hC : w2.heap[w.heap.size]? = some (.cells #[v] 22 (0, 0))) (hown : w3.ownsRow w2.heap.size 4 1 (.slice (some ⟨w2.heap.size, 0, none⟩) (l.length + 1) (l.length + 1)) (l.length + 1) (madeCells (Value.bool false).cells ((l.length + 1) * 1)).toList) (hg : w2.grownBy w3 none) :
    ∃ W5, (w3.alloc (.cells #[.slice (some ⟨w2.heap.size, 0, none⟩) (l.length + 1) (l.length + 1)] 44)).alloc (.cells #[.func (.func 23) #[] #[.pointer (some ⟨w3.heap.size, 0, none⟩), .pointer (some ⟨w.heap.size, 0, none⟩), .pointer (some ⟨w3.heap.size + 1, 0, none⟩)]] 45) = W5 ∧ Vis w W5 v l w3.heap.size w.heap.size (w3.heap.size + 1) w2.heap.size (List.replicate (l.length + 1) false) ∧ W5.cell? ⟨w3.heap.size, 0, none⟩ = some (.slice (some ⟨w2.heap.size, 0, none⟩) (l.length + 1) (l.length + 1)) ∧ W5.cell? ⟨w3.heap.size + 1, 0, none⟩ = some (.func (.func 23) #[] #[.pointer (some ⟨w3.heap.size, 0, none⟩), .pointer (some ⟨w.heap.size, 0, none⟩), .pointer (some ⟨w3.heap.size + 1, 0, none⟩)]) := by
  refine ⟨_, rfl, ?_⟩
  rw [made_bools] at hown
  have hR := row_full hown (by simp)
  have hB3 : Below w.heap.size w w3 := hB.grown hg hB.size (fun k hk => by cases hk)
  have a := heap_old (World.alloc_heap_new w3 (.cells #[.slice (some ⟨w2.heap.size, 0, none⟩) (l.length + 1) (l.length + 1)] 44)) (.cells #[.func (.func 23) #[] #[.pointer (some ⟨w3.heap.size, 0, none⟩), .pointer (some ⟨w.heap.size, 0, none⟩), .pointer (some ⟨w3.heap.size + 1, 0, none⟩)]] 45)
  have b := new_two w3 (.cells #[.slice (some ⟨w2.heap.size, 0, none⟩) (l.length + 1) (l.length + 1)] 44) (.cells #[.func (.func 23) #[] #[.pointer (some ⟨w3.heap.size, 0, none⟩), .pointer (some ⟨w.heap.size, 0, none⟩), .pointer (some ⟨w3.heap.size + 1, 0, none⟩)]] 45)
  refine ⟨⟨?_, heap_old (heap_old hR _) _, by simpa using a, heap_old (heap_old ((hg.block _ (heap_lt hC) (by simp)).trans hC) _) _, b⟩, ?_, ?_⟩
  · exact (hB3.alloc hB3.size _).alloc (by have := hB3.size; simp; omega) _
  · simp
  · simp
theorem visit0_any {w W5 : World} {v : Value} {l : List (Int × Int)} {bR bC bV R : Nat} (h : OpsAt w v l) (hf : flowErr l = 0) (hR : w.heap.size ≤ R) (hvis : Vis w W5 v l bR bC bV R (List.replicate (l.length + 1) false)) :
    Calls Try.prog 23 #[.int .i64 0, .pointer (some ⟨bR, 0, none⟩), .pointer (some ⟨bC, 0, none⟩), .pointer (some ⟨bV, 0, none⟩)] W5 (VisP w v l bR bC bV R (List.replicate (l.length + 1) false) 0 W5) :=
  visit_any w v l bR bC bV R h hf hR (cf (List.replicate (l.length + 1) false)) _ 0 W5 (Nat.le_refl _) (by simp) (by simp) Come.zero hvis
set_option maxHeartbeats 4000000 in
theorem flowReach_any (l : List (Int × Int)) (v : Value) (w : World) (h : OpsAt w v l) : Calls Try.prog 7 #[v] w fun e w' => ∃ u, e = .returned (.tuple #[u, .int .i64 (flowErr l)]) ∧ w'.ownsRow w.heap.size 3 1 u (reachR l).length ((reachR l).map (Value.int .i64)) ∧ Below w.heap.size w w' := by
  have h' := h
  obtain ⟨p, cap, rfl, hm, hc⟩ := h'
  unfold maxLen at hm
  clear hc
  obtain ⟨W1, hW1⟩ : ∃ W1, w.alloc (.cells #[.slice p l.length cap] 22) = W1 := ⟨_, rfl⟩
  have hB1 : Below w.heap.size w W1 := by rw [← hW1]; exact (Below.refl _ w).alloc (Nat.le_refl _) _
  have q0 : W1.heap[w.heap.size]? = some (.cells #[.slice p l.length cap] 22 (0, 0)) := by rw [← hW1]; exact World.alloc_heap_new w _
  have c0 : W1.cell? ⟨w.heap.size, 0, none⟩ = some (.slice p l.length cap) := by have := cell_at' q0 0; simpa using this
  have l0 := heap_lt q0
  have h1 := h.below hB1
  have Q0 := hideP q0
  clear q0
  by_cases hf : flowErr l = 0
  · have h40 := flowErr_40 hf
    have hr : reachR l = (reachL l).map Int.ofNat := by rw [reachR, if_pos hf]
    rw [hf, hr]
    have hck : ∀ W : World, OpsAt W (.slice p l.length cap) l → Calls Try.prog 20 #[.slice p l.length cap] W fun e w' => e = .returned (.int .i64 0) ∧ Below W.heap.size W w' := by
      intro W hW
      have := flowCheck_any l _ W hW
      rw [hf] at this
      exact this
    have HCK := hideP hck
    have HF := hideP hf
    clear hck hf hr
    obtain ⟨i0, hi, hz0, hz1, hz2⟩ := info_parts infoBool
    have hwr : wrap64 ((l.length : Int) + 1) = (l.length : Int) + 1 := by unfold wrap64; omega
    go_enter Try.func7, Try.ntmps7
    go_wp2_with (first
      | (go_at_call 20; refine (HCK.out _ h1).mono ?_; rintro e w2 ⟨rfl, hb2⟩; have h2 := h1.below hb2; have d0 := (hb2.cell (p := ⟨w.heap.size, 0, none⟩) l0).trans c0; have Q2 := hideP ((hb2.block _ l0).trans Q0.out); have hB2 := hB1.trans (hb2.mono hB1.size))
      | (at_make; refine wpList_make_full _ rfl _ _ 44 rfl w2.heap.size 4 i0 (.bool false) 1 Try.underlying44 hi hz0 hz1 _ _ _ _ (l.length + 1) rfl rfl (by omega) (by omega) (by rw [hz2]; omega) (by unfold maxLen; omega) (Nat.le_refl _) ?_; intro w3 hown3 hg3; obtain ⟨W5, hW5, hvis, c5, c6⟩ := reach_boxes h hB2 Q2.out hown3 hg3)
      | (go_at_call 23; refine (visit0_any h HF.out hB2.size hvis).mono ?_; rintro e w6 ⟨rfl, M6, hv6, hg6, hgr6, hk6⟩; have hbx := vis_box hv6; have c7 := hbx.2.2.1; have hpl := hideP (grew_reach hgr6 hk6); have h41 : M6.length ≤ 41 := by { have := hgr6.len; simp at this; omega }; have HG := hideP hgr6; clear hgr6)
      | (go_at_call 24; refine (placesReach_any M6 M6.length _ _ _ rfl h41 hbx).mono ?_; rw [hpl.out]; rintro e w7 ⟨v7, rfl, hr7, hb7⟩; have HR7 := hideP hr7; clear hr7))
    go_ret2
    have hs6 : w.heap.size ≤ w6.heap.size := hv6.bel.size
    exact ⟨_, rfl, row_low HR7.out hs6, hv6.bel.trans (hb7.mono hs6)⟩
  · have hr : reachR l = [] := by rw [reachR, if_neg hf]
    rw [hr]
    have hf' : (flowErr l != 0) = true := by simp [hf]
    clear hr hf
    go_enter Try.func7, Try.ntmps7
    go_wp2_with (go_at_call 20; refine (flowCheck_any l _ _ h1).mono ?_; rintro e w2 ⟨rfl, hb2⟩)
    go_ret2
    exact ⟨_, rfl, World.ownsRow_nil _ _ _ _, hB1.trans (hb2.mono hB1.size)⟩
end Go.Proofs.Ytenaionchlnpoab

