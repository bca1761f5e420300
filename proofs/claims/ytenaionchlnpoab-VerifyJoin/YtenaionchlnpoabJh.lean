/- verify's stack: turn, call, do. -/
import Derived.Test.YtenaionchlnpoabJg
import Derived.Test.YtenaionchlnpoabFg
namespace Go.Proofs.Ytenaionchlnpoab
open Go.RowKit
set_option linter.unusedSimpArgs false
set_option linter.unusedVariables false
def SA (W : World) (b B : Nat) (s : St) : Prop := StAt W b B s.1 s.2
theorem SA.kept {W W' : World} {b B : Nat} {s : St} (h : SA W b B s) (hb : Below W.heap.size W W') : SA W' b B s := StAt.kept h hb
theorem popS_any (s : St) (b B : Nat) (w : World) (h : SA w b B s) (hl : s.1.length ≤ 100) (hB : B ≤ w.heap.size) (hBb : B ≤ b) : Calls Try.prog 93 #[.pointer (some ⟨b, 0, none⟩)] w fun e w' => e = .returned (.int .i64 (topP s.1)) ∧ SA w' b B (popS s) ∧ Below B w w' := by
  refine (pop_any s.1 s.2 b B w h hl).mono ?_
  rintro e w' ⟨rfl, h1, h2⟩
  exact ⟨rfl, h1, (Below.refl B w).grown h2 hB (fun k hk => by cases hk; exact hBb)⟩
theorem tkS_any (s : St) (ts : List Int) (b B : Nat) (u : Value) (w : World) (h : SA w b B s) (hu : IntsAt w u ts) (hl : s.1.length ≤ 100) (ht : ts.length ≤ 100) (hB : B ≤ w.heap.size) (hBb : B ≤ b) : Calls Try.prog 75 #[.pointer (some ⟨b, 0, none⟩), u] w fun e w' => e = .returned (.tuple #[]) ∧ SA w' b B (tk s ts) ∧ Below B w w' := by
  obtain ⟨p, c, rfl, _, _⟩ := id hu
  refine (vTake_any s.1 ts s.2 b B p c w h hu hB hBb hl ht).mono ?_
  rintro e w' ⟨rfl, h1, h2⟩
  exact ⟨rfl, h1, (Below.refl B w).grown h2 hB (fun k hk => by cases hk; exact hBb)⟩
theorem lvS_any (s : St) (ts : List Int) (b B : Nat) (u : Value) (w : World) (h : SA w b B s) (hu : IntsAt w u ts) (hn : NilOk u) (hl : s.1.length ≤ 100) (ht : ts.length ≤ 100) (hB : B ≤ w.heap.size) (hBb : B ≤ b) : Calls Try.prog 74 #[.pointer (some ⟨b, 0, none⟩), u] w fun e w' => e = .returned (.tuple #[]) ∧ SA w' b B (lv s ts) ∧ Below B w w' := by
  refine (leave_any s.1 ts s.2 b B u w h hu hn hB hBb hl ht).mono ?_
  rintro e w' ⟨rfl, h1, h2⟩
  exact ⟨rfl, h1, h2⟩
theorem tk_len (s : St) (ts : List Int) : (tk s ts).1.length ≤ s.1.length := takeP_len s _
theorem popS_len (s : St) : (popS s).1.length ≤ s.1.length := by simp [popS]
set_option maxRecDepth 100000 in
set_option maxHeartbeats 2000000 in
theorem turn2_any (s : St) (b B : Nat) (w : World) (h : SA w b B s) (hl : s.1.length ≤ 100) (hB : B ≤ w.heap.size) (hBb : B ≤ b) : Calls Try.prog 73 #[.pointer (some ⟨b, 0, none⟩), .int .i64 2] w fun e w' => e = .returned (.tuple #[]) ∧ SA w' b B (popS s) ∧ Below B w w' := by
  go_enter Try.func73, Try.ntmps73
  go_wp2_with fail
  refine (popS_any s b B w h hl hB hBb).mono ?_
  rintro e w1 ⟨rfl, h1, b1⟩
  have l1 : (popS s).1.length ≤ 100 := Nat.le_trans (popS_len _) hl
  have z1 : B ≤ w1.heap.size := Nat.le_trans hB b1.size
  have B1 := b1
  go_wp2
  go_end0
  exact ⟨rfl, h1, B1⟩
set_option maxRecDepth 100000 in
set_option maxHeartbeats 2000000 in
theorem turn3_any (s : St) (b B : Nat) (w : World) (h : SA w b B s) (hl : s.1.length ≤ 100) (hB : B ≤ w.heap.size) (hBb : B ≤ b) : Calls Try.prog 73 #[.pointer (some ⟨b, 0, none⟩), .int .i64 3] w fun e w' => e = .returned (.tuple #[]) ∧ SA w' b B (lv (popS s) [topP s.1, topP s.1]) ∧ Below B w w' := by
  go_enter Try.func73, Try.ntmps73
  go_wp2_with fail
  refine (popS_any s b B w h hl hB hBb).mono ?_
  rintro e w1 ⟨rfl, h1, b1⟩
  have l1 : (popS s).1.length ≤ 100 := Nat.le_trans (popS_len _) hl
  have z1 : B ≤ w1.heap.size := Nat.le_trans hB b1.size
  have B1 := b1
  go_wp2_with fail
  have q2 := World.alloc_heap_new w1 (.cells #[.int .i64 (topP s.1), .int .i64 (topP s.1)] 3)
  have a2 := (Below.refl w1.heap.size w1).alloc (Nat.le_refl _) (.cells #[.int .i64 (topP s.1), .int .i64 (topP s.1)] 3)
  refine (lvS_any (popS s) [(topP s.1), (topP s.1)] b B _ _ (h1.kept a2) (ints_lit 2 2 q2 rfl (by unfold maxLen; simp)) (nilOk_some _ _ _) l1 (by simp) (Nat.le_trans z1 a2.size) hBb).mono ?_
  rintro e w2 ⟨rfl, h2, b2⟩
  have z2 : B ≤ w2.heap.size := Nat.le_trans (Nat.le_trans z1 a2.size) b2.size
  have c2 := (a2.mono z1).trans b2
  have B2 := B1.trans c2
  clear q2 a2
  go_wp2
  go_end0
  exact ⟨rfl, h2, B2⟩
set_option maxRecDepth 100000 in
set_option maxHeartbeats 2000000 in
theorem turn4_any (s : St) (b B : Nat) (w : World) (h : SA w b B s) (hl : s.1.length ≤ 100) (hB : B ≤ w.heap.size) (hBb : B ≤ b) : Calls Try.prog 73 #[.pointer (some ⟨b, 0, none⟩), .int .i64 4] w fun e w' => e = .returned (.tuple #[]) ∧ SA w' b B (lv (popS (popS s)) [topP s.1, topP (popS s).1]) ∧ Below B w w' := by
  go_enter Try.func73, Try.ntmps73
  go_wp2_with fail
  refine (popS_any s b B w h hl hB hBb).mono ?_
  rintro e w1 ⟨rfl, h1, b1⟩
  have l1 : (popS s).1.length ≤ 100 := Nat.le_trans (popS_len _) hl
  have z1 : B ≤ w1.heap.size := Nat.le_trans hB b1.size
  have B1 := b1
  go_wp2_with fail
  refine (popS_any (popS s) b B w1 h1 l1 z1 hBb).mono ?_
  rintro e w2 ⟨rfl, h2, b2⟩
  have l2 : (popS (popS s)).1.length ≤ 100 := Nat.le_trans (popS_len _) l1
  have z2 : B ≤ w2.heap.size := Nat.le_trans z1 b2.size
  have B2 := B1.trans b2
  go_wp2_with fail
  have q3 := World.alloc_heap_new w2 (.cells #[.int .i64 (topP s.1), .int .i64 (topP (popS s).1)] 3)
  have a3 := (Below.refl w2.heap.size w2).alloc (Nat.le_refl _) (.cells #[.int .i64 (topP s.1), .int .i64 (topP (popS s).1)] 3)
  refine (lvS_any (popS (popS s)) [(topP s.1), (topP (popS s).1)] b B _ _ (h2.kept a3) (ints_lit 2 2 q3 rfl (by unfold maxLen; simp)) (nilOk_some _ _ _) l2 (by simp) (Nat.le_trans z2 a3.size) hBb).mono ?_
  rintro e w3 ⟨rfl, h3, b3⟩
  have z3 : B ≤ w3.heap.size := Nat.le_trans (Nat.le_trans z2 a3.size) b3.size
  have c3 := (a3.mono z2).trans b3
  have B3 := B2.trans c3
  clear q3 a3
  go_wp2
  go_end0
  exact ⟨rfl, h3, B3⟩
set_option maxRecDepth 100000 in
set_option maxHeartbeats 2000000 in
theorem do1_any (s : St) (b B : Nat) (w : World) (h : SA w b B s) (hl : s.1.length ≤ 100) (hB : B ≤ w.heap.size) (hBb : B ≤ b) : Calls Try.prog 78 #[.pointer (some ⟨b, 0, none⟩), .int .i64 1] w fun e w' => e = .returned (.tuple #[]) ∧ SA w' b B (lv s [1]) ∧ Below B w w' := by
  go_enter Try.func78, Try.ntmps78
  go_wp2_with fail
  have q1 := World.alloc_heap_new w (.cells #[.int .i64 1] 3)
  have a1 := (Below.refl w.heap.size w).alloc (Nat.le_refl _) (.cells #[.int .i64 1] 3)
  refine (lvS_any s [1] b B _ _ (h.kept a1) (ints_lit 1 1 q1 rfl (by unfold maxLen; simp)) (nilOk_some _ _ _) hl (by simp) (Nat.le_trans hB a1.size) hBb).mono ?_
  rintro e w1 ⟨rfl, h1, b1⟩
  have z1 : B ≤ w1.heap.size := Nat.le_trans (Nat.le_trans hB a1.size) b1.size
  have c1 := (a1.mono hB).trans b1
  have B1 := c1
  clear q1 a1
  go_wp2
  go_end0
  exact ⟨rfl, h1, B1⟩
set_option maxRecDepth 100000 in
set_option maxHeartbeats 2000000 in
theorem do21_any (s : St) (b B : Nat) (w : World) (h : SA w b B s) (hl : s.1.length ≤ 100) (hB : B ≤ w.heap.size) (hBb : B ≤ b) : Calls Try.prog 78 #[.pointer (some ⟨b, 0, none⟩), .int .i64 21] w fun e w' => e = .returned (.tuple #[]) ∧ SA w' b B (lv s [1]) ∧ Below B w w' := by
  go_enter Try.func78, Try.ntmps78
  go_wp2_with fail
  have q1 := World.alloc_heap_new w (.cells #[.int .i64 1] 3)
  have a1 := (Below.refl w.heap.size w).alloc (Nat.le_refl _) (.cells #[.int .i64 1] 3)
  refine (lvS_any s [1] b B _ _ (h.kept a1) (ints_lit 1 1 q1 rfl (by unfold maxLen; simp)) (nilOk_some _ _ _) hl (by simp) (Nat.le_trans hB a1.size) hBb).mono ?_
  rintro e w1 ⟨rfl, h1, b1⟩
  have z1 : B ≤ w1.heap.size := Nat.le_trans (Nat.le_trans hB a1.size) b1.size
  have c1 := (a1.mono hB).trans b1
  have B1 := c1
  clear q1 a1
  go_wp2
  go_end0
  exact ⟨rfl, h1, B1⟩
set_option maxRecDepth 100000 in
set_option maxHeartbeats 2000000 in
theorem do5_any (s : St) (b B : Nat) (w : World) (h : SA w b B s) (hl : s.1.length ≤ 100) (hB : B ≤ w.heap.size) (hBb : B ≤ b) : Calls Try.prog 78 #[.pointer (some ⟨b, 0, none⟩), .int .i64 5] w fun e w' => e = .returned (.tuple #[]) ∧ SA w' b B (lv (tk s [1, 1]) [1]) ∧ Below B w w' := by
  go_enter Try.func78, Try.ntmps78
  go_wp2_with fail
  have q1 := World.alloc_heap_new w (.cells #[.int .i64 1, .int .i64 1] 3)
  have a1 := (Below.refl w.heap.size w).alloc (Nat.le_refl _) (.cells #[.int .i64 1, .int .i64 1] 3)
  refine (tkS_any s [1, 1] b B _ _ (h.kept a1) (ints_lit 2 2 q1 rfl (by unfold maxLen; simp)) hl (by simp) (Nat.le_trans hB a1.size) hBb).mono ?_
  rintro e w1 ⟨rfl, h1, b1⟩
  have l1 : (tk s [1, 1]).1.length ≤ 100 := Nat.le_trans (tk_len _ _) hl
  have z1 : B ≤ w1.heap.size := Nat.le_trans (Nat.le_trans hB a1.size) b1.size
  have c1 := (a1.mono hB).trans b1
  have B1 := c1
  clear q1 a1
  go_wp2_with fail
  have q2 := World.alloc_heap_new w1 (.cells #[.int .i64 1] 3)
  have a2 := (Below.refl w1.heap.size w1).alloc (Nat.le_refl _) (.cells #[.int .i64 1] 3)
  refine (lvS_any (tk s [1, 1]) [1] b B _ _ (h1.kept a2) (ints_lit 1 1 q2 rfl (by unfold maxLen; simp)) (nilOk_some _ _ _) l1 (by simp) (Nat.le_trans z1 a2.size) hBb).mono ?_
  rintro e w2 ⟨rfl, h2, b2⟩
  have z2 : B ≤ w2.heap.size := Nat.le_trans (Nat.le_trans z1 a2.size) b2.size
  have c2 := (a2.mono z1).trans b2
  have B2 := B1.trans c2
  clear q2 a2
  go_wp2
  go_end0
  exact ⟨rfl, h2, B2⟩
set_option maxRecDepth 100000 in
set_option maxHeartbeats 2000000 in
theorem do6_any (s : St) (b B : Nat) (w : World) (h : SA w b B s) (hl : s.1.length ≤ 100) (hB : B ≤ w.heap.size) (hBb : B ≤ b) : Calls Try.prog 78 #[.pointer (some ⟨b, 0, none⟩), .int .i64 6] w fun e w' => e = .returned (.tuple #[]) ∧ SA w' b B (lv (tk s [1, 1]) [1]) ∧ Below B w w' := by
  go_enter Try.func78, Try.ntmps78
  go_wp2_with fail
  have q1 := World.alloc_heap_new w (.cells #[.int .i64 1, .int .i64 1] 3)
  have a1 := (Below.refl w.heap.size w).alloc (Nat.le_refl _) (.cells #[.int .i64 1, .int .i64 1] 3)
  refine (tkS_any s [1, 1] b B _ _ (h.kept a1) (ints_lit 2 2 q1 rfl (by unfold maxLen; simp)) hl (by simp) (Nat.le_trans hB a1.size) hBb).mono ?_
  rintro e w1 ⟨rfl, h1, b1⟩
  have l1 : (tk s [1, 1]).1.length ≤ 100 := Nat.le_trans (tk_len _ _) hl
  have z1 : B ≤ w1.heap.size := Nat.le_trans (Nat.le_trans hB a1.size) b1.size
  have c1 := (a1.mono hB).trans b1
  have B1 := c1
  clear q1 a1
  go_wp2_with fail
  have q2 := World.alloc_heap_new w1 (.cells #[.int .i64 1] 3)
  have a2 := (Below.refl w1.heap.size w1).alloc (Nat.le_refl _) (.cells #[.int .i64 1] 3)
  refine (lvS_any (tk s [1, 1]) [1] b B _ _ (h1.kept a2) (ints_lit 1 1 q2 rfl (by unfold maxLen; simp)) (nilOk_some _ _ _) l1 (by simp) (Nat.le_trans z1 a2.size) hBb).mono ?_
  rintro e w2 ⟨rfl, h2, b2⟩
  have z2 : B ≤ w2.heap.size := Nat.le_trans (Nat.le_trans z1 a2.size) b2.size
  have c2 := (a2.mono z1).trans b2
  have B2 := B1.trans c2
  clear q2 a2
  go_wp2
  go_end0
  exact ⟨rfl, h2, B2⟩
set_option maxRecDepth 100000 in
set_option maxHeartbeats 2000000 in
theorem do7_any (s : St) (b B : Nat) (w : World) (h : SA w b B s) (hl : s.1.length ≤ 100) (hB : B ≤ w.heap.size) (hBb : B ≤ b) : Calls Try.prog 78 #[.pointer (some ⟨b, 0, none⟩), .int .i64 7] w fun e w' => e = .returned (.tuple #[]) ∧ SA w' b B (lv (tk s [1, 1]) [1]) ∧ Below B w w' := by
  go_enter Try.func78, Try.ntmps78
  go_wp2_with fail
  have q1 := World.alloc_heap_new w (.cells #[.int .i64 1, .int .i64 1] 3)
  have a1 := (Below.refl w.heap.size w).alloc (Nat.le_refl _) (.cells #[.int .i64 1, .int .i64 1] 3)
  refine (tkS_any s [1, 1] b B _ _ (h.kept a1) (ints_lit 2 2 q1 rfl (by unfold maxLen; simp)) hl (by simp) (Nat.le_trans hB a1.size) hBb).mono ?_
  rintro e w1 ⟨rfl, h1, b1⟩
  have l1 : (tk s [1, 1]).1.length ≤ 100 := Nat.le_trans (tk_len _ _) hl
  have z1 : B ≤ w1.heap.size := Nat.le_trans (Nat.le_trans hB a1.size) b1.size
  have c1 := (a1.mono hB).trans b1
  have B1 := c1
  clear q1 a1
  go_wp2_with fail
  have q2 := World.alloc_heap_new w1 (.cells #[.int .i64 1] 3)
  have a2 := (Below.refl w1.heap.size w1).alloc (Nat.le_refl _) (.cells #[.int .i64 1] 3)
  refine (lvS_any (tk s [1, 1]) [1] b B _ _ (h1.kept a2) (ints_lit 1 1 q2 rfl (by unfold maxLen; simp)) (nilOk_some _ _ _) l1 (by simp) (Nat.le_trans z1 a2.size) hBb).mono ?_
  rintro e w2 ⟨rfl, h2, b2⟩
  have z2 : B ≤ w2.heap.size := Nat.le_trans (Nat.le_trans z1 a2.size) b2.size
  have c2 := (a2.mono z1).trans b2
  have B2 := B1.trans c2
  clear q2 a2
  go_wp2
  go_end0
  exact ⟨rfl, h2, B2⟩
set_option maxRecDepth 100000 in
set_option maxHeartbeats 2000000 in
theorem do11_any (s : St) (b B : Nat) (w : World) (h : SA w b B s) (hl : s.1.length ≤ 100) (hB : B ≤ w.heap.size) (hBb : B ≤ b) : Calls Try.prog 78 #[.pointer (some ⟨b, 0, none⟩), .int .i64 11] w fun e w' => e = .returned (.tuple #[]) ∧ SA w' b B (tk s [1]) ∧ Below B w w' := by
  go_enter Try.func78, Try.ntmps78
  go_wp2_with fail
  have q1 := World.alloc_heap_new w (.cells #[.int .i64 1] 3)
  have a1 := (Below.refl w.heap.size w).alloc (Nat.le_refl _) (.cells #[.int .i64 1] 3)
  refine (tkS_any s [1] b B _ _ (h.kept a1) (ints_lit 1 1 q1 rfl (by unfold maxLen; simp)) hl (by simp) (Nat.le_trans hB a1.size) hBb).mono ?_
  rintro e w1 ⟨rfl, h1, b1⟩
  have l1 : (tk s [1]).1.length ≤ 100 := Nat.le_trans (tk_len _ _) hl
  have z1 : B ≤ w1.heap.size := Nat.le_trans (Nat.le_trans hB a1.size) b1.size
  have c1 := (a1.mono hB).trans b1
  have B1 := c1
  clear q1 a1
  go_wp2
  go_end0
  exact ⟨rfl, h1, B1⟩
set_option maxRecDepth 100000 in
set_option maxHeartbeats 2000000 in
theorem do20_any (s : St) (b B : Nat) (w : World) (h : SA w b B s) (hl : s.1.length ≤ 100) (hB : B ≤ w.heap.size) (hBb : B ≤ b) : Calls Try.prog 78 #[.pointer (some ⟨b, 0, none⟩), .int .i64 20] w fun e w' => e = .returned (.tuple #[]) ∧ SA w' b B (tk s [1]) ∧ Below B w w' := by
  go_enter Try.func78, Try.ntmps78
  go_wp2_with fail
  have q1 := World.alloc_heap_new w (.cells #[.int .i64 1] 3)
  have a1 := (Below.refl w.heap.size w).alloc (Nat.le_refl _) (.cells #[.int .i64 1] 3)
  refine (tkS_any s [1] b B _ _ (h.kept a1) (ints_lit 1 1 q1 rfl (by unfold maxLen; simp)) hl (by simp) (Nat.le_trans hB a1.size) hBb).mono ?_
  rintro e w1 ⟨rfl, h1, b1⟩
  have l1 : (tk s [1]).1.length ≤ 100 := Nat.le_trans (tk_len _ _) hl
  have z1 : B ≤ w1.heap.size := Nat.le_trans (Nat.le_trans hB a1.size) b1.size
  have c1 := (a1.mono hB).trans b1
  have B1 := c1
  clear q1 a1
  go_wp2
  go_end0
  exact ⟨rfl, h1, B1⟩
set_option maxRecDepth 100000 in
set_option maxHeartbeats 2000000 in
theorem do14_any (s : St) (b B : Nat) (w : World) (h : SA w b B s) (hl : s.1.length ≤ 100) (hB : B ≤ w.heap.size) (hBb : B ≤ b) : Calls Try.prog 78 #[.pointer (some ⟨b, 0, none⟩), .int .i64 14] w fun e w' => e = .returned (.tuple #[]) ∧ SA w' b B (lv (tk s [1]) [2]) ∧ Below B w w' := by
  go_enter Try.func78, Try.ntmps78
  go_wp2_with fail
  have q1 := World.alloc_heap_new w (.cells #[.int .i64 1] 3)
  have a1 := (Below.refl w.heap.size w).alloc (Nat.le_refl _) (.cells #[.int .i64 1] 3)
  refine (tkS_any s [1] b B _ _ (h.kept a1) (ints_lit 1 1 q1 rfl (by unfold maxLen; simp)) hl (by simp) (Nat.le_trans hB a1.size) hBb).mono ?_
  rintro e w1 ⟨rfl, h1, b1⟩
  have l1 : (tk s [1]).1.length ≤ 100 := Nat.le_trans (tk_len _ _) hl
  have z1 : B ≤ w1.heap.size := Nat.le_trans (Nat.le_trans hB a1.size) b1.size
  have c1 := (a1.mono hB).trans b1
  have B1 := c1
  clear q1 a1
  go_wp2_with fail
  have q2 := World.alloc_heap_new w1 (.cells #[.int .i64 2] 3)
  have a2 := (Below.refl w1.heap.size w1).alloc (Nat.le_refl _) (.cells #[.int .i64 2] 3)
  refine (lvS_any (tk s [1]) [2] b B _ _ (h1.kept a2) (ints_lit 1 1 q2 rfl (by unfold maxLen; simp)) (nilOk_some _ _ _) l1 (by simp) (Nat.le_trans z1 a2.size) hBb).mono ?_
  rintro e w2 ⟨rfl, h2, b2⟩
  have z2 : B ≤ w2.heap.size := Nat.le_trans (Nat.le_trans z1 a2.size) b2.size
  have c2 := (a2.mono z1).trans b2
  have B2 := B1.trans c2
  clear q2 a2
  go_wp2
  go_end0
  exact ⟨rfl, h2, B2⟩
set_option maxRecDepth 100000 in
set_option maxHeartbeats 2000000 in
theorem do15_any (s : St) (b B : Nat) (w : World) (h : SA w b B s) (hl : s.1.length ≤ 100) (hB : B ≤ w.heap.size) (hBb : B ≤ b) : Calls Try.prog 78 #[.pointer (some ⟨b, 0, none⟩), .int .i64 15] w fun e w' => e = .returned (.tuple #[]) ∧ SA w' b B (lv (tk s [2, 1]) [1]) ∧ Below B w w' := by
  go_enter Try.func78, Try.ntmps78
  go_wp2_with fail
  have q1 := World.alloc_heap_new w (.cells #[.int .i64 2, .int .i64 1] 3)
  have a1 := (Below.refl w.heap.size w).alloc (Nat.le_refl _) (.cells #[.int .i64 2, .int .i64 1] 3)
  refine (tkS_any s [2, 1] b B _ _ (h.kept a1) (ints_lit 2 2 q1 rfl (by unfold maxLen; simp)) hl (by simp) (Nat.le_trans hB a1.size) hBb).mono ?_
  rintro e w1 ⟨rfl, h1, b1⟩
  have l1 : (tk s [2, 1]).1.length ≤ 100 := Nat.le_trans (tk_len _ _) hl
  have z1 : B ≤ w1.heap.size := Nat.le_trans (Nat.le_trans hB a1.size) b1.size
  have c1 := (a1.mono hB).trans b1
  have B1 := c1
  clear q1 a1
  go_wp2_with fail
  have q2 := World.alloc_heap_new w1 (.cells #[.int .i64 1] 3)
  have a2 := (Below.refl w1.heap.size w1).alloc (Nat.le_refl _) (.cells #[.int .i64 1] 3)
  refine (lvS_any (tk s [2, 1]) [1] b B _ _ (h1.kept a2) (ints_lit 1 1 q2 rfl (by unfold maxLen; simp)) (nilOk_some _ _ _) l1 (by simp) (Nat.le_trans z1 a2.size) hBb).mono ?_
  rintro e w2 ⟨rfl, h2, b2⟩
  have z2 : B ≤ w2.heap.size := Nat.le_trans (Nat.le_trans z1 a2.size) b2.size
  have c2 := (a2.mono z1).trans b2
  have B2 := B1.trans c2
  clear q2 a2
  go_wp2
  go_end0
  exact ⟨rfl, h2, B2⟩
set_option maxRecDepth 100000 in
set_option maxHeartbeats 2000000 in
theorem do16_any (s : St) (b B : Nat) (w : World) (h : SA w b B s) (hl : s.1.length ≤ 100) (hB : B ≤ w.heap.size) (hBb : B ≤ b) : Calls Try.prog 78 #[.pointer (some ⟨b, 0, none⟩), .int .i64 16] w fun e w' => e = .returned (.tuple #[]) ∧ SA w' b B (tk s [2, 1, 1]) ∧ Below B w w' := by
  go_enter Try.func78, Try.ntmps78
  go_wp2_with fail
  have q1 := World.alloc_heap_new w (.cells #[.int .i64 2, .int .i64 1, .int .i64 1] 3)
  have a1 := (Below.refl w.heap.size w).alloc (Nat.le_refl _) (.cells #[.int .i64 2, .int .i64 1, .int .i64 1] 3)
  refine (tkS_any s [2, 1, 1] b B _ _ (h.kept a1) (ints_lit 3 3 q1 rfl (by unfold maxLen; simp)) hl (by simp) (Nat.le_trans hB a1.size) hBb).mono ?_
  rintro e w1 ⟨rfl, h1, b1⟩
  have l1 : (tk s [2, 1, 1]).1.length ≤ 100 := Nat.le_trans (tk_len _ _) hl
  have z1 : B ≤ w1.heap.size := Nat.le_trans (Nat.le_trans hB a1.size) b1.size
  have c1 := (a1.mono hB).trans b1
  have B1 := c1
  clear q1 a1
  go_wp2
  go_end0
  exact ⟨rfl, h1, B1⟩
set_option maxRecDepth 100000 in
set_option maxHeartbeats 2000000 in
theorem do17_any (s : St) (b B : Nat) (w : World) (h : SA w b B s) (hl : s.1.length ≤ 100) (hB : B ≤ w.heap.size) (hBb : B ≤ b) : Calls Try.prog 78 #[.pointer (some ⟨b, 0, none⟩), .int .i64 17] w fun e w' => e = .returned (.tuple #[]) ∧ SA w' b B (lv (tk s [2]) [1]) ∧ Below B w w' := by
  go_enter Try.func78, Try.ntmps78
  go_wp2_with fail
  have q1 := World.alloc_heap_new w (.cells #[.int .i64 2] 3)
  have a1 := (Below.refl w.heap.size w).alloc (Nat.le_refl _) (.cells #[.int .i64 2] 3)
  refine (tkS_any s [2] b B _ _ (h.kept a1) (ints_lit 1 1 q1 rfl (by unfold maxLen; simp)) hl (by simp) (Nat.le_trans hB a1.size) hBb).mono ?_
  rintro e w1 ⟨rfl, h1, b1⟩
  have l1 : (tk s [2]).1.length ≤ 100 := Nat.le_trans (tk_len _ _) hl
  have z1 : B ≤ w1.heap.size := Nat.le_trans (Nat.le_trans hB a1.size) b1.size
  have c1 := (a1.mono hB).trans b1
  have B1 := c1
  clear q1 a1
  go_wp2_with fail
  have q2 := World.alloc_heap_new w1 (.cells #[.int .i64 1] 3)
  have a2 := (Below.refl w1.heap.size w1).alloc (Nat.le_refl _) (.cells #[.int .i64 1] 3)
  refine (lvS_any (tk s [2]) [1] b B _ _ (h1.kept a2) (ints_lit 1 1 q2 rfl (by unfold maxLen; simp)) (nilOk_some _ _ _) l1 (by simp) (Nat.le_trans z1 a2.size) hBb).mono ?_
  rintro e w2 ⟨rfl, h2, b2⟩
  have z2 : B ≤ w2.heap.size := Nat.le_trans (Nat.le_trans z1 a2.size) b2.size
  have c2 := (a2.mono z1).trans b2
  have B2 := B1.trans c2
  clear q2 a2
  go_wp2
  go_end0
  exact ⟨rfl, h2, B2⟩
set_option maxRecDepth 100000 in
set_option maxHeartbeats 2000000 in
theorem do19_any (s : St) (b B : Nat) (w : World) (h : SA w b B s) (hl : s.1.length ≤ 100) (hB : B ≤ w.heap.size) (hBb : B ≤ b) : Calls Try.prog 78 #[.pointer (some ⟨b, 0, none⟩), .int .i64 19] w fun e w' => e = .returned (.tuple #[]) ∧ SA w' b B (lv (tk s [2]) [1]) ∧ Below B w w' := by
  go_enter Try.func78, Try.ntmps78
  go_wp2_with fail
  have q1 := World.alloc_heap_new w (.cells #[.int .i64 2] 3)
  have a1 := (Below.refl w.heap.size w).alloc (Nat.le_refl _) (.cells #[.int .i64 2] 3)
  refine (tkS_any s [2] b B _ _ (h.kept a1) (ints_lit 1 1 q1 rfl (by unfold maxLen; simp)) hl (by simp) (Nat.le_trans hB a1.size) hBb).mono ?_
  rintro e w1 ⟨rfl, h1, b1⟩
  have l1 : (tk s [2]).1.length ≤ 100 := Nat.le_trans (tk_len _ _) hl
  have z1 : B ≤ w1.heap.size := Nat.le_trans (Nat.le_trans hB a1.size) b1.size
  have c1 := (a1.mono hB).trans b1
  have B1 := c1
  clear q1 a1
  go_wp2_with fail
  have q2 := World.alloc_heap_new w1 (.cells #[.int .i64 1] 3)
  have a2 := (Below.refl w1.heap.size w1).alloc (Nat.le_refl _) (.cells #[.int .i64 1] 3)
  refine (lvS_any (tk s [2]) [1] b B _ _ (h1.kept a2) (ints_lit 1 1 q2 rfl (by unfold maxLen; simp)) (nilOk_some _ _ _) l1 (by simp) (Nat.le_trans z1 a2.size) hBb).mono ?_
  rintro e w2 ⟨rfl, h2, b2⟩
  have z2 : B ≤ w2.heap.size := Nat.le_trans (Nat.le_trans z1 a2.size) b2.size
  have c2 := (a2.mono z1).trans b2
  have B2 := B1.trans c2
  clear q2 a2
  go_wp2
  go_end0
  exact ⟨rfl, h2, B2⟩
set_option maxRecDepth 100000 in
set_option maxHeartbeats 2000000 in
theorem do18_any (s : St) (b B : Nat) (w : World) (h : SA w b B s) (hl : s.1.length ≤ 100) (hB : B ≤ w.heap.size) (hBb : B ≤ b) : Calls Try.prog 78 #[.pointer (some ⟨b, 0, none⟩), .int .i64 18] w fun e w' => e = .returned (.tuple #[]) ∧ SA w' b B (lv s [3]) ∧ Below B w w' := by
  go_enter Try.func78, Try.ntmps78
  go_wp2_with fail
  have q1 := World.alloc_heap_new w (.cells #[.int .i64 3] 3)
  have a1 := (Below.refl w.heap.size w).alloc (Nat.le_refl _) (.cells #[.int .i64 3] 3)
  refine (lvS_any s [3] b B _ _ (h.kept a1) (ints_lit 1 1 q1 rfl (by unfold maxLen; simp)) (nilOk_some _ _ _) hl (by simp) (Nat.le_trans hB a1.size) hBb).mono ?_
  rintro e w1 ⟨rfl, h1, b1⟩
  have z1 : B ≤ w1.heap.size := Nat.le_trans (Nat.le_trans hB a1.size) b1.size
  have c1 := (a1.mono hB).trans b1
  have B1 := c1
  clear q1 a1
  go_wp2
  go_end0
  exact ⟨rfl, h1, B1⟩
set_option maxRecDepth 100000 in
set_option maxHeartbeats 2000000 in
theorem do10_any (s : St) (b B : Nat) (w : World) (h : SA w b B s) (hl : s.1.length ≤ 100) (hB : B ≤ w.heap.size) (hBb : B ≤ b) : Calls Try.prog 78 #[.pointer (some ⟨b, 0, none⟩), .int .i64 10] w fun e w' => e = .returned (.tuple #[]) ∧ SA w' b B (s) ∧ Below B w w' := by
  go_enter Try.func78, Try.ntmps78
  go_wp2
  go_end0
  exact ⟨rfl, h, Below.refl _ _⟩
/-- what 'do' makes of a stack. -/
def doS (s : St) (c : Int) : St := if (plainTL c).2 = [] then tk s (plainTL c).1 else lv (tk s (plainTL c).1) (plainTL c).2
theorem tk_nil (s : St) : tk s [] = s := rfl
theorem do_any (c : Int) (hc : 1 ≤ c ∧ c ≤ 21) (hne : c ≠ 2 ∧ c ≠ 3 ∧ c ≠ 4 ∧ c ≠ 8 ∧ c ≠ 9 ∧ c ≠ 12 ∧ c ≠ 13) (s : St) (b B : Nat) (w : World) (h : SA w b B s) (hl : s.1.length ≤ 100) (hB : B ≤ w.heap.size) (hBb : B ≤ b) : Calls Try.prog 78 #[.pointer (some ⟨b, 0, none⟩), .int .i64 c] w fun e w' => e = .returned (.tuple #[]) ∧ SA w' b B (doS s c) ∧ Below B w w' := by
  have hall : c = 1 ∨ c = 5 ∨ c = 6 ∨ c = 7 ∨ c = 10 ∨ c = 11 ∨ c = 14 ∨ c = 15 ∨ c = 16 ∨ c = 17 ∨ c = 18 ∨ c = 19 ∨ c = 20 ∨ c = 21 := by omega
  rcases hall with rfl | rfl | rfl | rfl | rfl | rfl | rfl | rfl | rfl | rfl | rfl | rfl | rfl | rfl
  · exact do1_any s b B w h hl hB hBb
  · exact do5_any s b B w h hl hB hBb
  · exact do6_any s b B w h hl hB hBb
  · exact do7_any s b B w h hl hB hBb
  · exact do10_any s b B w h hl hB hBb
  · exact do11_any s b B w h hl hB hBb
  · exact do14_any s b B w h hl hB hBb
  · exact do15_any s b B w h hl hB hBb
  · exact do16_any s b B w h hl hB hBb
  · exact do17_any s b B w h hl hB hBb
  · exact do18_any s b B w h hl hB hBb
  · exact do19_any s b B w h hl hB hBb
  · exact do20_any s b B w h hl hB hBb
  · exact do21_any s b B w h hl hB hBb
end Go.Proofs.Ytenaionchlnpoab

