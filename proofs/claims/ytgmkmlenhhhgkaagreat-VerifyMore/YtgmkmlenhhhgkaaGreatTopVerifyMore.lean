/- A function more, at the end, changes nothing of the others: for every program and function and number VerifyMore returns true. No condition. -/
import Derived.Test.YtgmkmlenhhhgkaaGreatU22
import Derived.Test.YtgmkmlenhhhgkaaGreatU23
import Derived.Test.YtgmkmlenhhhgkaaGreatU21
import Derived.Test.YtgmkmlenhhhgkaaGreatU15
import Derived.Test.YtgmkmlenhhhgkaaGreatU16
namespace Go.Proofs.YtgmkmlenhhhgkaaGreat.verifyMore
open Go.ChangeShapes Go.WideShapes Go.ChangeAt Go.RowKit
set_option linter.unusedVariables false
set_option linter.unusedSimpArgs false
theorem own : ownKnob Tryz.prog.godebug = none := by kernel_rfl
theorem laidOut : laidOutB Tryz.prog = true := by kernel_rfl
/-- what is left at last: the new program's functions, and where they are. -/
theorem fin {w3 W : World} {z : Nat} {u : Value} {xs : List Value} {l : List Fn} {n : Nat} (hb : Below w3.heap.size w3 W) (hz : W.heap[z]? = some (.cells #[.slice none 0 0] 24 (0, 0))) (hzg : w3.heap.size ≤ z) (ho : W.ownsRow w3.heap.size 28 4 u n xs) (hn : n = l.length) (hx : RowFns w3 xs l) {W' : World} (he : W'.heap = (W.setCell ⟨z, 0, none⟩ u).heap) (e1 : W'.os = W.os) (e2 : W'.tape = W.tape) (e3 : W'.output = W.output) :
    ∃ (z' : Nat) (q : Option Addr) (c : Nat), (Value.pointer (some ⟨z, 0, none⟩)) = .pointer (some ⟨z', 0, none⟩) ∧ W'.cell? ⟨z', 0, none⟩ = some (.slice q n c) ∧ FnsAt W' (.slice q n c) l ∧ CapAt W' (.slice q n c) ∧ Below w3.heap.size w3 W' := by
  have hb' : Below w3.heap.size w3 W' := bel_eta (hb.setCell (p := ⟨z, 0, none⟩) hzg u) he e1 e2 e3
  have ho' : W'.ownsRow w3.heap.size 28 4 u n xs := by
    refine row_same ho fun j hj => ?_
    rw [he]
    refine Below.heap_setCell W ⟨z, 0, none⟩ u j (fun e => ?_)
    exact row_not ho hz (by decide) (by rw [hj]; simp at e; rw [e])
  obtain ⟨h1, h2, _⟩ := fns_row hn ho' (Kept.rows hb'.block hx)
  obtain ⟨q, c, rfl⟩ := row_shp ho
  refine ⟨z, q, c, rfl, ?_, h1, h2, hb'⟩
  have hh := heap_setCell_same W z 0 _ _ (.slice q n c) hz
  rw [← he] at hh
  rw [cell_at' hh]
  rfl
theorem fin2 {w3 W : World} {u : Value} {xs : List Value} {l : List Fn} {n : Nat} (hb : Below w3.heap.size w3 W) (ho : W.ownsRow w3.heap.size 28 4 u n xs) (hn : n = l.length) (hx : RowFns w3 xs l) {W' : World} (he : W'.heap = (W.alloc (.cells #[u] 24)).heap) (e1 : W'.os = W.os) (e2 : W'.tape = W.tape) (e3 : W'.output = W.output) :
    ∃ (z' : Nat) (q : Option Addr) (c : Nat), (Value.pointer (some ⟨W.heap.size, 0, none⟩)) = .pointer (some ⟨z', 0, none⟩) ∧ W'.cell? ⟨z', 0, none⟩ = some (.slice q n c) ∧ FnsAt W' (.slice q n c) l ∧ CapAt W' (.slice q n c) ∧ Below w3.heap.size w3 W' := by
  have hb' : Below w3.heap.size w3 W' := bel_eta (bel_alloc hb _) he e1 e2 e3
  have ho' : W'.ownsRow w3.heap.size 28 4 u n xs := row_eta (ho.alloc _) he
  obtain ⟨h1, h2, _⟩ := fns_row hn ho' (Kept.rows hb'.block hx)
  obtain ⟨q, c, rfl⟩ := row_shp ho
  refine ⟨W.heap.size, q, c, rfl, ?_, h1, h2, hb'⟩
  have hh := heap_alloc_new W (.cells #[.slice q n c] 24)
  rw [← he] at hh
  rw [cell_at' hh]
  rfl
set_option maxRecDepth 100000 in
set_option maxHeartbeats 8000000 in
theorem walk (w : World) (p : List Fn) (pv : Value) (hpf : ProgFull w pv p) (g : Fn) (d0 d1 d2 d3 : Value) (hgf : FnAt w d0 d1 d2 d3 g ∧ FnFull d1 d3) (n : Int) (hn : -9223372036854775808 ≤ n ∧ n ≤ 9223372036854775807) :
    Calls Tryz.prog 3 #[.agg #[pv], .agg #[d0, d1, d2, d3], .int .i64 n] w fun e w' => e = .returned (.bool true) ∧ Below w.heap.size w w' := by
  obtain ⟨i0, hi, hz0, hz1, hz2⟩ := info_parts infoFn
  have hp := hpf.at_
  have hcp := hpf.cap
  have hnp := hpf.nil
  have hlen := hpf.len
  obtain ⟨hg, hgd⟩ := hgf
  have hgcap : ∀ p n c, d1 = .slice p n c → n ≤ c := fun p n c h => by
    obtain ⟨_, _, ⟨p', n', c', h1, h2, _⟩, _⟩ := hgd
    rw [h] at h1
    cases h1
    exact h2
  clear hpf hgd
  obtain ⟨pp, qp, hpv, hpm, -⟩ := id hp
  subst hpv
  unfold maxLen at hpm
  obtain ⟨P, L, r, C⟩ := g
  obtain ⟨e0, ⟨pL, qL, e1, -, -⟩, e2, ⟨pC, qC, e3, -, -⟩⟩ := id hg
  simp only at e0 e1 e2 e3
  subst e0 e1 e2 e3
  obtain ⟨W1, hW1⟩ : ∃ W1, (w.alloc (.cells #[.slice pp p.length qp] 24)).alloc (.cells #[.int .i64 P, .slice pL L.length qL, .int .i64 r, .slice pC C.length qC] 28) = W1 := ⟨_, rfl⟩
  have hb1 : Below w.heap.size w W1 := by rw [← hW1]; exact ((Below.refl _ w).alloc (Nat.le_refl _) _).alloc (by simp) _
  have x0 : W1.heap[w.heap.size]? = some (.cells #[.slice pp p.length qp] 24 (0, 0)) := by rw [← hW1]; exact heap_old (World.alloc_heap_new w _) _
  have x1 : W1.heap[w.heap.size + 1]? = some (.cells #[.int .i64 P, .slice pL L.length qL, .int .i64 r, .slice pC C.length qC] 28 (0, 0)) := by rw [← hW1]; exact new_two _ _ _
  have lx := heap_lt x1
  have P1 := hideP (hp.below hb1)
  have CP1 := hideP (hcp.below hp hb1)
  have G1 := hideP (hg.below hb1)
  have X0 := hideP x0
  have X1 := hideP x1
  clear hp hcp hg x0 x1
  go_enter Tryz.func3, Tryz.ntmps3
  go_wp2_with fail
  refine (verifyBegun_any _).mono ?_
  rintro e w2 ⟨rfl, hb2⟩
  go_wp2_with fail
  refine (progBegun_any _).mono ?_
  rintro e w3 ⟨rfl, hb3⟩
  have hb13 := bthen hb2 hb3
  have x3 := (hb13.block _ (Nat.lt_of_succ_lt lx)).trans X0.out
  have x4 := (hb13.block _ lx).trans X1.out
  have y0 := cell_at' x3 0
  have y1 := cell_at' x4 0
  have y2 := cell_at' x4 1
  have y3 := cell_at' x4 2
  have y4 := cell_at' x4 3
  simp at y0 y1 y2 y3 y4
  have P3 := hideP (P1.out.below hb13)
  have CP3 := hideP (CP1.out.below P1.out hb13)
  have G3 := hideP (G1.out.below hb13)
  have s3 := hb13.size
  have lw3 : w.heap.size + 1 < w3.heap.size := by omega
  clear P1 CP1 G1 X0 X1 x3 x4 hW1
  go_upto_region 3 with fail
  go_cut [7] from 12 (fun s7 wx => ∃ (z : Nat) (q : Option Addr) (c : Nat), s7 = .pointer (some ⟨z, 0, none⟩) ∧ wx.cell? ⟨z, 0, none⟩ = some (.slice q (p.length + 1) c) ∧ FnsAt wx (.slice q (p.length + 1) c) (p ++ [(P, L, r, C)]) ∧ CapAt wx (.slice q (p.length + 1) c) ∧ Below w3.heap.size w3 wx)
  case first =>
    have n0 := World.new_ne w3 _ y0
    have n1 := World.new_ne w3 _ y1
    have n2 := World.new_ne w3 _ y2
    have n3 := World.new_ne w3 _ y3
    have n4 := World.new_ne w3 _ y4
    have BR := Below.refl w3.heap.size w3
    have ea00 : w.heap.size ≠ w3.heap.size  := (by omega)
    have ea01 : w.heap.size + 1 ≠ w3.heap.size  := (by omega)
    have ea10 : w.heap.size ≠ w3.heap.size + 1 := (by omega)
    have ea11 : w.heap.size + 1 ≠ w3.heap.size + 1 := (by omega)
    have ea20 : w.heap.size ≠ w3.heap.size + 1 + 1 := (by omega)
    have ea21 : w.heap.size + 1 ≠ w3.heap.size + 1 + 1 := (by omega)
    have hap : RowFns w3 [] [] := ⟨rfl, fun k f hk => by simp at hk⟩
    go_region_held3 (fun W => W.cell? ⟨w.heap.size, 0, none⟩ = some (.slice pp p.length qp) ∧ W.cell? ⟨w.heap.size + 1, 0, none⟩ = some (.int .i64 P) ∧ W.cell? ⟨w.heap.size + 1, 1, none⟩ = some (.slice pL L.length qL) ∧ W.cell? ⟨w.heap.size + 1, 2, none⟩ = some (.int .i64 r) ∧ W.cell? ⟨w.heap.size + 1, 3, none⟩ = some (.slice pC C.length qC)) (first | (exact ⟨cell_eta t0 rfl, cell_eta t1 rfl, cell_eta t2 rfl, cell_eta t3 rfl, cell_eta t4 rfl⟩) | (exact ⟨cell_eta (cell_old t0 _) rfl, cell_eta (cell_old t1 _) rfl, cell_eta (cell_old t2 _) rfl, cell_eta (cell_old t3 _) rfl, cell_eta (cell_old t4 _) rfl⟩) | (exact ⟨cell_eta s0 rfl, cell_eta s1 rfl, cell_eta s2 rfl, cell_eta s3 rfl, cell_eta s4 rfl⟩) | (exact ⟨cell_eta (cell_old s0 _) rfl, cell_eta (cell_old s1 _) rfl, cell_eta (cell_old s2 _) rfl, cell_eta (cell_old s3 _) rfl, cell_eta (cell_old s4 _) rfl⟩) | (exact ⟨cell_eta (cell_old (cell_old s0 _) _) rfl, cell_eta (cell_old (cell_old s1 _) _) rfl, cell_eta (cell_old (cell_old s2 _) _) rfl, cell_eta (cell_old (cell_old s3 _) _) rfl, cell_eta (cell_old (cell_old s4 _) _) rfl⟩) | (exact ⟨cell_eta y0 rfl, cell_eta y1 rfl, cell_eta y2 rfl, cell_eta y3 rfl, cell_eta y4 rfl⟩) | (exact ⟨cell_eta (cell_old y0 _) rfl, cell_eta (cell_old y1 _) rfl, cell_eta (cell_old y2 _) rfl, cell_eta (cell_old y3 _) rfl, cell_eta (cell_old y4 _) rfl⟩) | (exact ⟨cell_eta (cell_old (cell_old y0 _) _) rfl, cell_eta (cell_old (cell_old y1 _) _) rfl, cell_eta (cell_old (cell_old y2 _) _) rfl, cell_eta (cell_old (cell_old y3 _) _) rfl, cell_eta (cell_old (cell_old y4 _) _) rfl⟩) | (exact ⟨cell_eta (cell_old (cell_old (cell_old y0 _) _) _) rfl, cell_eta (cell_old (cell_old (cell_old y1 _) _) _) rfl, cell_eta (cell_old (cell_old (cell_old y2 _) _) _) rfl, cell_eta (cell_old (cell_old (cell_old y3 _) _) _) rfl, cell_eta (cell_old (cell_old (cell_old y4 _) _) _) rfl⟩) | (exact ⟨cell_eta (cell_set_ne t0 (by intro e; have := kp1.size; dsimp only at e; omega)) rfl, cell_eta (cell_set_ne t1 (by intro e; have := kp1.size; dsimp only at e; omega)) rfl, cell_eta (cell_set_ne t2 (by intro e; have := kp1.size; dsimp only at e; omega)) rfl, cell_eta (cell_set_ne t3 (by intro e; have := kp1.size; dsimp only at e; omega)) rfl, cell_eta (cell_set_ne t4 (by intro e; have := kp1.size; dsimp only at e; omega)) rfl⟩) | (exact ⟨cell_eta (cell_set_ne (cell_old t0 _) (by intro e; have := kp2.size; dsimp only at e; omega)) rfl, cell_eta (cell_set_ne (cell_old t1 _) (by intro e; have := kp2.size; dsimp only at e; omega)) rfl, cell_eta (cell_set_ne (cell_old t2 _) (by intro e; have := kp2.size; dsimp only at e; omega)) rfl, cell_eta (cell_set_ne (cell_old t3 _) (by intro e; have := kp2.size; dsimp only at e; omega)) rfl, cell_eta (cell_set_ne (cell_old t4 _) (by intro e; have := kp2.size; dsimp only at e; omega)) rfl⟩) | go_keep)
      (first
        | (refine step_append_fns (by rfl) _ _ (by rfl) w3.heap.size _ 0 [] (by rfl) (own_empty (by first | exact heap_alloc_new _ _ | exact heap_old (heap_alloc_new _ _) _ | exact heap_old (heap_old (heap_alloc_new _ _) _) _ | exact new_two _ _ _ | exact heap_old (new_two _ _ _) _ | exact new_three _ _ _ _) (by omega)) _ p (by rfl) w3 P3.out CP3.out (Below.block (by first | exact bel_eta BR rfl rfl rfl rfl | exact bel_eta (bel_alloc BR _) rfl rfl rfl rfl | exact bel_eta (bel_alloc (bel_alloc BR _) _) rfl rfl rfl rfl | exact bel_eta (bel_alloc (bel_alloc (bel_alloc BR _) _) _) rfl rfl rfl rfl)) hnp (by omega) (by first | (simp; done) | (simp; omega)) ?_; intro u1 w1 news1 ho1 hn1 hg1; simp only [Nat.zero_add, List.nil_append] at ho1; obtain ⟨q1, cc1, hu1⟩ := row_shp ho1; subst hu1; have kp1 : Below w3.heap.size w3 w1 := bel_grown (by first | exact bel_eta BR rfl rfl rfl rfl | exact bel_eta (bel_alloc BR _) rfl rfl rfl rfl | exact bel_eta (bel_alloc (bel_alloc BR _) _) rfl rfl rfl rfl | exact bel_eta (bel_alloc (bel_alloc (bel_alloc BR _) _) _) rfl rfl rfl rfl) hg1 (by intro k e; simp [Value.ownBlock] at e; omega); have eb00 : w.heap.size ≠ w1.heap.size  := (by have := kp1.size; omega); have eb01 : w.heap.size + 1 ≠ w1.heap.size  := (by have := kp1.size; omega); have eb10 : w.heap.size ≠ w1.heap.size + 1 := (by have := kp1.size; omega); have eb11 : w.heap.size + 1 ≠ w1.heap.size + 1 := (by have := kp1.size; omega); have eb20 : w.heap.size ≠ w1.heap.size + 1 + 1 := (by have := kp1.size; omega); have eb21 : w.heap.size + 1 ≠ w1.heap.size + 1 + 1 := (by have := kp1.size; omega); have s0 := (Kept.cell kp1.block (a := ⟨w.heap.size, 0, none⟩) (Nat.lt_of_succ_lt lw3)).trans y0; have s1 := (Kept.cell kp1.block (a := ⟨w.heap.size + 1, 0, none⟩) lw3).trans y1; have s2 := (Kept.cell kp1.block (a := ⟨w.heap.size + 1, 1, none⟩) lw3).trans y2; have s3 := (Kept.cell kp1.block (a := ⟨w.heap.size + 1, 2, none⟩) lw3).trans y3; have s4 := (Kept.cell kp1.block (a := ⟨w.heap.size + 1, 3, none⟩) lw3).trans y4; (try have kB0 : w1.heap[w3.heap.size]? = some (.cells #[.int .i64 P, .slice pL L.length qL, .int .i64 r, .slice pC C.length qC] 28 (0, 0)) := blk_keep hg1 (by first | exact heap_alloc_new _ _ | exact heap_old (heap_alloc_new _ _) _ | exact heap_old (heap_old (heap_alloc_new _ _) _) _ | exact new_two _ _ _ | exact heap_old (new_two _ _ _) _ | exact new_three _ _ _ _) (by omega)); (try have kZ0 : w1.heap[w3.heap.size]? = some (.cells #[.slice none 0 0] 24 (0, 0)) := blk_keep hg1 (by first | exact heap_alloc_new _ _ | exact heap_old (heap_alloc_new _ _) _ | exact heap_old (heap_old (heap_alloc_new _ _) _) _ | exact new_two _ _ _ | exact heap_old (new_two _ _ _) _ | exact new_three _ _ _ _) (by omega)); (try have kB1 : w1.heap[w3.heap.size + 1]? = some (.cells #[.int .i64 P, .slice pL L.length qL, .int .i64 r, .slice pC C.length qC] 28 (0, 0)) := blk_keep hg1 (by first | exact heap_alloc_new _ _ | exact heap_old (heap_alloc_new _ _) _ | exact heap_old (heap_old (heap_alloc_new _ _) _) _ | exact new_two _ _ _ | exact heap_old (new_two _ _ _) _ | exact new_three _ _ _ _) (by omega)); (try have kZ1 : w1.heap[w3.heap.size + 1]? = some (.cells #[.slice none 0 0] 24 (0, 0)) := blk_keep hg1 (by first | exact heap_alloc_new _ _ | exact heap_old (heap_alloc_new _ _) _ | exact heap_old (heap_old (heap_alloc_new _ _) _) _ | exact new_two _ _ _ | exact heap_old (new_two _ _ _) _ | exact new_three _ _ _ _) (by omega)); (try have kB2 : w1.heap[w3.heap.size + 1 + 1]? = some (.cells #[.int .i64 P, .slice pL L.length qL, .int .i64 r, .slice pC C.length qC] 28 (0, 0)) := blk_keep hg1 (by first | exact heap_alloc_new _ _ | exact heap_old (heap_alloc_new _ _) _ | exact heap_old (heap_old (heap_alloc_new _ _) _) _ | exact new_two _ _ _ | exact heap_old (new_two _ _ _) _ | exact new_three _ _ _ _) (by omega)); (try have kZ2 : w1.heap[w3.heap.size + 1 + 1]? = some (.cells #[.slice none 0 0] 24 (0, 0)) := blk_keep hg1 (by first | exact heap_alloc_new _ _ | exact heap_old (heap_alloc_new _ _) _ | exact heap_old (heap_old (heap_alloc_new _ _) _) _ | exact new_two _ _ _ | exact heap_old (new_two _ _ _) _ | exact new_three _ _ _ _) (by omega)))
        | (refine step_append_row (by rfl) _ _ _ (by rfl) w3.heap.size 28 i0 _ 4 64 Tryz.underlying22 hi hz0 hz1 hz2 rfl (by decide) _ _ _ (by rfl) (by first | exact row_eta ho1 rfl | exact row_eta (ho1.alloc _) rfl | exact row_eta ((ho1.alloc _).alloc _) rfl) _ 1 1 [.int .i64 P, .slice pL L.length qL, .int .i64 r, .slice pC C.length qC] (by rfl) rfl (cells4_at (t := 28) (fz := (0, 0)) (by first | exact heap_alloc_new _ _ | exact heap_old (heap_alloc_new _ _) _ | exact heap_old (heap_old (heap_alloc_new _ _) _) _ | exact new_two _ _ _ | exact heap_old (new_two _ _ _) _ | exact new_three _ _ _ _ | exact kB0 | exact heap_old kB0 _ | exact heap_old (heap_old kB0 _) _ | exact kB1 | exact heap_old kB1 _ | exact heap_old (heap_old kB1 _) _ | exact kB2 | exact heap_old kB2 _ | exact heap_old (heap_old kB2 _) _)) (by intro u hu; simp at hu; rcases hu with rfl | rfl | rfl | rfl <;> rfl) (by unfold maxLen; omega) (by omega) (by have := kp1.size; simp; omega) ?_; intro u2 w2 ho2 hg2; obtain ⟨q2, cc2, hu2⟩ := row_shp ho2; subst hu2; have kp2 : Below w3.heap.size w3 w2 := bel_grown (by first | exact bel_eta kp1 rfl rfl rfl rfl | exact bel_eta (bel_alloc kp1 _) rfl rfl rfl rfl | exact bel_eta (bel_alloc (bel_alloc kp1 _) _) rfl rfl rfl rfl | exact bel_eta (bel_alloc (bel_alloc (bel_alloc kp1 _) _) _) rfl rfl rfl rfl) hg2 (fun k hk => (ho1.lt k hk).1); have ec00 : w.heap.size ≠ w2.heap.size  := (by have := kp2.size; omega); have ec01 : w.heap.size + 1 ≠ w2.heap.size  := (by have := kp2.size; omega); have ec10 : w.heap.size ≠ w2.heap.size + 1 := (by have := kp2.size; omega); have ec11 : w.heap.size + 1 ≠ w2.heap.size + 1 := (by have := kp2.size; omega); have ec20 : w.heap.size ≠ w2.heap.size + 1 + 1 := (by have := kp2.size; omega); have ec21 : w.heap.size + 1 ≠ w2.heap.size + 1 + 1 := (by have := kp2.size; omega); have t0 := (Kept.cell kp2.block (a := ⟨w.heap.size, 0, none⟩) (Nat.lt_of_succ_lt lw3)).trans y0; have t1 := (Kept.cell kp2.block (a := ⟨w.heap.size + 1, 0, none⟩) lw3).trans y1; have t2 := (Kept.cell kp2.block (a := ⟨w.heap.size + 1, 1, none⟩) lw3).trans y2; have t3 := (Kept.cell kp2.block (a := ⟨w.heap.size + 1, 2, none⟩) lw3).trans y3; have t4 := (Kept.cell kp2.block (a := ⟨w.heap.size + 1, 3, none⟩) lw3).trans y4; have hx2 : RowFns w3 (news1 ++ [.int .i64 P, .slice pL L.length qL, .int .i64 r, .slice pC C.length qC]) (p ++ [(P, L, r, C)]) := RowFns.snoc hn1 G3.out hgcap; (try have zc0 : w2.heap[w3.heap.size]? = some (.cells #[.slice none 0 0] 24 (0, 0)) := grown_keep hg2 (by first | exact row_eta ho1 rfl | exact row_eta (ho1.alloc _) rfl | exact row_eta ((ho1.alloc _).alloc _) rfl) (by first | exact heap_alloc_new _ _ | exact heap_old (heap_alloc_new _ _) _ | exact heap_old (heap_old (heap_alloc_new _ _) _) _ | exact new_two _ _ _ | exact heap_old (new_two _ _ _) _ | exact new_three _ _ _ _ | exact kZ0 | exact heap_old kZ0 _ | exact heap_old (heap_old kZ0 _) _ | exact kZ1 | exact heap_old kZ1 _ | exact heap_old (heap_old kZ1 _) _ | exact kZ2 | exact heap_old kZ2 _ | exact heap_old (heap_old kZ2 _) _) (by decide)); (try have zc1 : w2.heap[w3.heap.size + 1]? = some (.cells #[.slice none 0 0] 24 (0, 0)) := grown_keep hg2 (by first | exact row_eta ho1 rfl | exact row_eta (ho1.alloc _) rfl | exact row_eta ((ho1.alloc _).alloc _) rfl) (by first | exact heap_alloc_new _ _ | exact heap_old (heap_alloc_new _ _) _ | exact heap_old (heap_old (heap_alloc_new _ _) _) _ | exact new_two _ _ _ | exact heap_old (new_two _ _ _) _ | exact new_three _ _ _ _ | exact kZ0 | exact heap_old kZ0 _ | exact heap_old (heap_old kZ0 _) _ | exact kZ1 | exact heap_old kZ1 _ | exact heap_old (heap_old kZ1 _) _ | exact kZ2 | exact heap_old kZ2 _ | exact heap_old (heap_old kZ2 _) _) (by decide)); (try have zc2 : w2.heap[w3.heap.size + 1 + 1]? = some (.cells #[.slice none 0 0] 24 (0, 0)) := grown_keep hg2 (by first | exact row_eta ho1 rfl | exact row_eta (ho1.alloc _) rfl | exact row_eta ((ho1.alloc _).alloc _) rfl) (by first | exact heap_alloc_new _ _ | exact heap_old (heap_alloc_new _ _) _ | exact heap_old (heap_old (heap_alloc_new _ _) _) _ | exact new_two _ _ _ | exact heap_old (new_two _ _ _) _ | exact new_three _ _ _ _ | exact kZ0 | exact heap_old kZ0 _ | exact heap_old (heap_old kZ0 _) _ | exact kZ1 | exact heap_old kZ1 _ | exact heap_old (heap_old kZ1 _) _ | exact kZ2 | exact heap_old kZ2 _ | exact heap_old (heap_old kZ2 _) _) (by decide)); (try have zc3 : w2.heap[w1.heap.size]? = some (.cells #[.slice none 0 0] 24 (0, 0)) := grown_keep hg2 (by first | exact row_eta ho1 rfl | exact row_eta (ho1.alloc _) rfl | exact row_eta ((ho1.alloc _).alloc _) rfl) (by first | exact heap_alloc_new _ _ | exact heap_old (heap_alloc_new _ _) _ | exact heap_old (heap_old (heap_alloc_new _ _) _) _ | exact new_two _ _ _ | exact heap_old (new_two _ _ _) _ | exact new_three _ _ _ _ | exact kZ0 | exact heap_old kZ0 _ | exact heap_old (heap_old kZ0 _) _ | exact kZ1 | exact heap_old kZ1 _ | exact heap_old (heap_old kZ1 _) _ | exact kZ2 | exact heap_old kZ2 _ | exact heap_old (heap_old kZ2 _) _) (by decide)); (try have zc4 : w2.heap[w1.heap.size + 1]? = some (.cells #[.slice none 0 0] 24 (0, 0)) := grown_keep hg2 (by first | exact row_eta ho1 rfl | exact row_eta (ho1.alloc _) rfl | exact row_eta ((ho1.alloc _).alloc _) rfl) (by first | exact heap_alloc_new _ _ | exact heap_old (heap_alloc_new _ _) _ | exact heap_old (heap_old (heap_alloc_new _ _) _) _ | exact new_two _ _ _ | exact heap_old (new_two _ _ _) _ | exact new_three _ _ _ _ | exact kZ0 | exact heap_old kZ0 _ | exact heap_old (heap_old kZ0 _) _ | exact kZ1 | exact heap_old kZ1 _ | exact heap_old (heap_old kZ1 _) _ | exact kZ2 | exact heap_old kZ2 _ | exact heap_old (heap_old kZ2 _) _) (by decide)); (try have zd0 : w2.cell? ⟨w3.heap.size, 0, none⟩ = some (.slice none 0 0) := (by rw [cell_at' zc0]; rfl)); (try have ze0 := Lib.frozen_of_heap zc0 0); (try have zd1 : w2.cell? ⟨w3.heap.size + 1, 0, none⟩ = some (.slice none 0 0) := (by rw [cell_at' zc1]; rfl)); (try have ze1 := Lib.frozen_of_heap zc1 0); (try have zd2 : w2.cell? ⟨w3.heap.size + 1 + 1, 0, none⟩ = some (.slice none 0 0) := (by rw [cell_at' zc2]; rfl)); (try have ze2 := Lib.frozen_of_heap zc2 0); (try have zd3 : w2.cell? ⟨w1.heap.size, 0, none⟩ = some (.slice none 0 0) := (by rw [cell_at' zc3]; rfl)); (try have ze3 := Lib.frozen_of_heap zc3 0); (try have zd4 : w2.cell? ⟨w1.heap.size + 1, 0, none⟩ = some (.slice none 0 0) := (by rw [cell_at' zc4]; rfl)); (try have ze4 := Lib.frozen_of_heap zc4 0)))
    all_goals
      go_wp2_with fail
      go_meet
      first | exact fin kp2 zc0 (by have := kp1.size; omega) ho2 (by simp) hx2 rfl rfl rfl rfl | exact fin kp2 zc1 (by have := kp1.size; omega) ho2 (by simp) hx2 rfl rfl rfl rfl | exact fin kp2 zc2 (by have := kp1.size; omega) ho2 (by simp) hx2 rfl rfl rfl rfl | exact fin kp2 zc3 (by have := kp1.size; omega) ho2 (by simp) hx2 rfl rfl rfl rfl | exact fin kp2 zc4 (by have := kp1.size; omega) ho2 (by simp) hx2 rfl rfl rfl rfl | exact fin2 kp2 ho2 (by simp) hx2 rfl rfl rfl rfl
  case rest =>
    obtain ⟨z, q, c, rfl, cz, fz, capz, hb4⟩ := hcut
    have hb14 := bthen hb13 hb4
    have cp := (hb4.cell (p := ⟨w.heap.size, 0, none⟩) (Nat.lt_of_succ_lt lw3)).trans y0
    have p4 := P3.out.below hb4
    have cp4 := CP3.out.below P3.out hb4
    have lz : z < wc.heap.size := lt_of_cell cz
    obtain ⟨pl, hpl⟩ : ∃ pl : List Fn, p ++ [(P, L, r, C)] = pl := ⟨_, rfl⟩
    rw [hpl] at fz
    have hpll : pl.length = p.length + 1 := by rw [← hpl]; simp
    have PQ := hideP fz
    have CQ := hideP capz
    have PP := hideP p4
    have CPP := hideP cp4
    have HPL := hideP hpl
    have HK1 := hideP (progCheck_any p _ wc p4)
    clear fz capz p4 cp4 hpl y0 y1 y2 y3 y4 P3 CP3 G3
    go_wp2_with fail
    refine HK1.out.mono ?_
    rintro e w5 ⟨rfl, hb5⟩
    have c5 := (hb5.cell (p := ⟨w.heap.size, 0, none⟩) (Nat.lt_of_lt_of_le (Nat.lt_of_succ_lt lw3) hb4.size)).trans cp
    have z5 := (hb5.cell (p := ⟨z, 0, none⟩) lz).trans cz
    have hfin := bthen hb1 (bthen hb14 hb5)
    clear HK1
    by_cases he : progErr p = 0
    case neg =>
      have heb : (progErr p != 0) = true := by simp [he]
      clear he
      go_wp2
      go_ret
      exact ⟨rfl, hfin⟩
    have HE := hideP he
    rw [he]
    clear he
    have HK2 := hideP (progCheck_any pl _ w5 (PQ.out.below hb5))
    go_wp2_with fail
    refine HK2.out.mono ?_
    rintro e w6 ⟨rfl, hb6⟩
    have c6 := (hb6.cell (p := ⟨w.heap.size, 0, none⟩) (Nat.lt_of_lt_of_le (Nat.lt_of_lt_of_le (Nat.lt_of_succ_lt lw3) hb4.size) hb5.size)).trans c5
    have z6 := (hb6.cell (p := ⟨z, 0, none⟩) (Nat.lt_of_lt_of_le lz hb5.size)).trans z5
    have hb46 := bthen hb5 hb6
    have hfin6 := bthen hb1 (bthen hb14 hb46)
    clear HK2 c5 z5 hfin
    by_cases he : progErr pl = 0
    case neg =>
      have heb : (progErr pl != 0) = true := by simp [he]
      clear he
      go_wp2
      go_ret
      exact ⟨rfl, hfin6⟩
    have HE2 := hideP he
    rw [he]
    clear he
    by_cases h0 : n < 0
    · go_wp2
      go_ret
      exact ⟨rfl, hfin6⟩
    by_cases h1 : n ≥ (p.length : Int)
    · go_wp2
      go_ret
      exact ⟨rfl, hfin6⟩
    have HF1 := hideP (vFunc_any p n _ w6 (PP.out.below hb46) (CPP.out.below PP.out hb46))
    go_wp2_with fail
    refine HF1.out.mono ?_
    rintro e w7 ⟨v7, er7, l7, rfl, hF7, hE7, hb7⟩
    have rd7 := entsRd_own hE7
    obtain ⟨p7, c7, rfl⟩ := rd7.shp
    have RD7 := hideP rd7
    have HF7 := hideP hF7
    have z7 := (hb7.cell (p := ⟨z, 0, none⟩) (Nat.lt_of_lt_of_le (Nat.lt_of_lt_of_le lz hb5.size) hb6.size)).trans z6
    have hb47 := bthen hb46 hb7
    have HF2 := hideP (vFunc_any pl n _ w7 (PQ.out.below hb47) (CQ.out.below PQ.out hb47))
    clear rd7 hE7 hF7 HF1
    go_wp2_with fail
    refine HF2.out.mono ?_
    rintro e w8 ⟨v8, er8, l8, rfl, hF8, hE8, hb8⟩
    have hsame : FuncIs pl n er7 l7 := by
      rcases HF7.out with ⟨a1, _⟩ | ⟨_, a2, _⟩ | ⟨a1, m, f, rr, hm, a3, a4, a5⟩
      · exact absurd HE.out a1
      · omega
      · refine .inr (.inr ⟨HE2.out, m, f, rr, hm, ?_, ?_, a5⟩)
        · rw [← HPL.out, List.getElem?_append_left (lt_of_at a3)]; exact a3
        · rw [← HPL.out]
          exact least_more _ (fun o ho h12 => by
            have := ((okFn HE.out (List.mem_of_getElem? a3)).ops o ho).call h12
            omega) a4
    obtain ⟨rfl, rfl⟩ := funcIs_one hF8 hsame
    have rd8 := entsRd_own hE8
    obtain ⟨p8, c8, rfl⟩ := rd8.shp
    have hself : (er8 == er8) = true := by simp
    have HS := hideP (sameEntries_same l8 _ _ w8 (RD7.out.below hb8) rd8)
    clear rd8 hE8 hF8 HF2 hsame HF7
    go_wp2_with fail
    refine HS.out.mono ?_
    rintro e w9 ⟨rfl, hb9⟩
    go_wp2
    go_ret
    exact ⟨rfl, bthen hb1 (bthen hb14 (bthen hb47 (bthen hb8 hb9)))⟩
set_option maxRecDepth 100000 in
theorem lifted (os : Os) (started : os.Started) (H : Type) (enc : TypeId × Value → H) :
    ReturnsInHanded {} Tryz.checked os 3 .any (Rows.verifyMoreSpec.pre6 enc Tryz.prog Tryz.f3 Rows.verifyMoreRow.domain false) (Rows.verifyMoreSpec.post enc Tryz.prog Tryz.f3 false true false false) := by
  refine returnsInHanded_of_change_sized (C := Tryz.checked) own started (by kernel_rfl) Tryz.func3
    (ChangeSpec.witness6 (enc := enc) (C := Tryz.checked) false ⟨#[], #[.agg #[.slice none 0 0], .agg #[.int .i64 0, .slice none 0 0, .int .i64 0, .slice none 0 0], .int .i64 0], []⟩ 8 (by kernel_rfl) (by kernel_rfl) (by kernel_rfl) (by kernel_rfl)) ?_
  intro W base args ds gs before hval0 hW hcnd hsz0 hholds
  have hval : ∀ (j : Nat) t v, Tryz.f3.params[j]? = some t → args[j]? = some v → Value.okWide Tryz.prog W .any base t v := hval0
  have hsz : (DataW.weightsEach Tryz.prog (Tryz.f3.params.toList ++ Rows.verifyMoreSpec.plain.varTypes Tryz.prog) (ds ++ gs)).all (· ≤ reachBytes) = true := hsz0
  have hW' := hW
  obtain ⟨p, q, hA0, hV, rfl, hfz, hnd⟩ := hW
  have hA : DataW.TrodAll enc Tryz.prog W 0 (fun _ => true) true Tryz.f3.params.toList args.toList ds p := hA0
  rw [Tryz.params3] at hA hval hsz
  obtain ⟨v0, vs0, d0, ds0, p0, q0, hargs, rfl, rfl, h0, r0⟩ := trodAll_cons hA
  obtain ⟨v1, vs1, d1, ds1, p1, q1, rfl, rfl, rfl, h1, r1⟩ := trodAll_cons r0
  obtain ⟨v2, vs2, d2, ds2, p2, q2, rfl, rfl, rfl, h2, r2⟩ := trodAll_cons r1
  obtain ⟨rfl, rfl, rfl⟩ := trodAll_nil r2
  obtain rfl : args = #[v0, v1, v2] := by cases args; simp_all
  obtain ⟨rfl, rfl⟩ := trodVars_none hV
  have k0 := h0
  have k1 := h1
  have k2 := h2
  have lt0 : ∀ x ∈ p0, x.block < W.heap.size := by obtain ⟨m, hm⟩ := k0; exact DataW.trod_lt m _ _ _ hm
  have lt1 : ∀ x ∈ p1, x.block < W.heap.size := by obtain ⟨m, hm⟩ := k1; exact DataW.trod_lt m _ _ _ hm
  have lt2 : ∀ x ∈ p2, x.block < W.heap.size := by obtain ⟨m, hm⟩ := k2; exact DataW.trod_lt m _ _ _ hm
  have hw0 : ∀ n ∈ d0.weights Tryz.prog 24, n ≤ reachBytes := fun n hn => by have := List.all_eq_true.1 hsz n (DataW.weights_mem_each (j := 0) rfl rfl n hn); simpa using this
  obtain ⟨c0, l0, rfl, hl0⟩ := open_progC (hval 0 24 v0 rfl rfl) h0 hw0
  have hw1 : ∀ n ∈ d1.weights Tryz.prog 28, n ≤ reachBytes := fun n hn => by have := List.all_eq_true.1 hsz n (DataW.weights_mem_each (j := 1) rfl rfl n hn); simpa using this
  obtain ⟨e10, e11, e12, e13, f1, rfl, hf1⟩ := open_funcV (hval 1 28 v1 rfl rfl) h1 hw1
  obtain ⟨x2, rfl, hd2, hp2, wx2⟩ := open_int Tryz.underlying3 (hval 2 3 v2 rfl rfl) h2
  have hx2 : -9223372036854775808 ≤ x2 ∧ x2 ≤ 9223372036854775807 := by simpa [Lit.wf, IntKind.min, IntKind.max, IntKind.bits, IntKind.signed] using wx2
  clear hA0 hval0 hsz0
  refine (walk W l0 c0 hl0 f1 e10 e11 e12 e13 hf1 x2 hx2).mono fun e W' ⟨he, bel⟩ => ?_
  subst he
  exact ⟨_, rfl, _, _, _, [], _, [], hW', trodAll_mk1 (shut_bool Tryz.underlying4 _), (trodAll_cons_mk (Below.trod laidOut (by kernel_rfl) (of_decide_eq_true (by kernel_rfl)) k0 bel lt0) (trodAll_cons_mk (Below.trod laidOut (by kernel_rfl) (of_decide_eq_true (by kernel_rfl)) k1 bel lt1) (trodAll_cons_mk (Below.trod laidOut (by kernel_rfl) (of_decide_eq_true (by kernel_rfl)) k2 bel lt2) trodAll_mk0))), rfl, bel.frame _, fun h => by cases h⟩
theorem over : Rows.verifyMoreRow.holds Tryz.pinned (OpenSpec.ofChange Rows.verifyMoreSpec) :=
  OpenClaim.holds_of_wide 3 Tryz.f3 rfl rfl rfl rfl rfl rfl rfl ⟨rfl, rfl, rfl, rfl, rfl⟩ rfl rfl rfl rfl rfl (by kernel_rfl) Tryz.func3 (by kernel_rfl)
    (of_decide_eq_true (by kernel_rfl)) (by unfold Func.isWrapper; first | (rw [if_pos (by decide +kernel)]; kernel_rfl) | (rw [if_neg (by decide +kernel)]; exact ⟨rfl, rfl⟩))
    (fun os started H enc _ => lifted os started H enc)
end Go.Proofs.YtgmkmlenhhhgkaaGreat.verifyMore
namespace Go.Proofs.YtgmkmlenhhhgkaaGreat
/-- For every input the law VerifyMore returns true, and the arguments read as they did. -/
theorem verifyMore_holds : Rows.VerifyMoreSaid := verifyMore.over
end Go.Proofs.YtgmkmlenhhhgkaaGreat

