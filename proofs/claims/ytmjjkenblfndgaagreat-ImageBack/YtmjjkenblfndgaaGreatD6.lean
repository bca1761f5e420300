/- My texts Ma Bb Jh Ji: what of them is needed, joined. -/
import Derived.Maps.AppendAt
import Derived.Laws.EntriesVeiled
import Derived.Test.YtmjjkenblfndgaaGreatD4
import Derived.Test.YtmjjkenblfndgaaGreatD5
set_option maxRecDepth 100000
set_option maxHeartbeats 8000000
/- Values, frames and machines in memory. -/
namespace Go.Proofs.YtmjjkenblfndgaaGreat
open Go.RowKit
set_option linter.unusedSimpArgs false
set_option linter.unusedVariables false
def valCells (l : List Val) : List Value := l.flatMap fun v => [.bool v.1, .int .i64 v.2]
theorem xheZ (l m : List Val) : valCells (l ++ m) = valCells l ++ valCells m := by simp [valCells]
theorem xfoZ (l : List Val) : (valCells l).length = l.length * 2 := by
  induction l with
  | nil => rfl
  | cons o r ih => simp [valCells] at *; omega
theorem xcxZ (l : List Val) : ∀ (k : Nat) (o : Val), l[k]? = some o → (valCells l)[k * 2]? = some (.bool o.1) ∧ (valCells l)[k * 2 + 1]? = some (.int .i64 o.2) := by
  induction l with
  | nil => intro k o h; simp at h
  | cons x r ih =>
    intro k o h
    cases k with
    | zero => simp at h; subst h; simp [valCells]
    | succ k =>
      have := ih k o (by simpa using h)
      rw [show (k + 1) * 2 = k * 2 + 1 + 1 from by omega]
      simpa [valCells] using this
theorem xpbZ (l : List Val) : ∀ u ∈ valCells l, u.oneCell' = true := by
  intro u hu
  obtain ⟨o, _, ho⟩ := List.mem_flatMap.1 hu
  simp at ho
  rcases ho with rfl | rfl <;> rfl
theorem xnnZ (l : List Val) (n : Nat) : (valCells l).take (n * 2) = valCells (l.take n) := by
  induction l generalizing n with
  | nil => simp [valCells]
  | cons x r ih =>
    cases n with
    | zero => simp [valCells]
    | succ n =>
      rw [show (n + 1) * 2 = n * 2 + 1 + 1 from by omega]
      simpa [valCells] using ih n
theorem xjjZ (l : List Val) (k : Nat) (x : Val) : ((valCells l).set (k * 2) (.bool x.1)).set (k * 2 + 1) (.int .i64 x.2) = valCells (l.set k x) := by
  induction l generalizing k with
  | nil => simp [valCells]
  | cons y r ih =>
    cases k with
    | zero => simp [valCells]
    | succ k =>
      have := ih k
      rw [show (k + 1) * 2 = k * 2 + 1 + 1 from by omega]
      simpa [valCells] using this
def ValsAt (w : World) (v : Value) (l : List Val) : Prop :=
  ∃ (p : Option Addr) (cap : Nat), v = .slice p l.length cap ∧ l.length ≤ maxLen ∧ ∀ k o, l[k]? = some o →
    ∃ b off, p = some ⟨b, off, none⟩ ∧ b < w.heap.size ∧ w.cell? ⟨b, off + k * 2, none⟩ = some (.bool o.1) ∧ w.cell? ⟨b, off + k * 2 + 1, none⟩ = some (.int .i64 o.2)
theorem ValsAt.below {w w' : World} {v : Value} {l : List Val} (h : ValsAt w v l) (hb : Below w.heap.size w w') : ValsAt w' v l := by
  obtain ⟨p, cap, rfl, hm, hc⟩ := h
  refine ⟨p, cap, rfl, hm, fun k o hk => ?_⟩
  obtain ⟨b, off, rfl, hlt, h0, h1⟩ := hc k o hk
  exact ⟨b, off, rfl, Nat.lt_of_lt_of_le hlt hb.size, (hb.cell (p := ⟨b, off + k * 2, none⟩) hlt).trans h0, (hb.cell (p := ⟨b, off + k * 2 + 1, none⟩) hlt).trans h1⟩
theorem xcdZ {W : World} {base : Nat} {v : Value} {l : List Val} (h : W.ownsRow base 113 2 v l.length (valCells l)) : ValsAt W v l := by
  rcases h.2 with ⟨rfl, h0⟩ | ⟨g, cap, cur, rfl, hb, hg, hn, hc, hs, ht⟩
  · refine ⟨none, 0, by rw [h0], by rw [h0]; exact Nat.zero_le _, fun k o hk => ?_⟩
    have := xaeZ hk
    omega
  · refine ⟨_, cap, rfl, by omega, fun k o hk => ⟨g, 0, rfl, xacZ hg, ?_, ?_⟩⟩
    · have hk2 := xaeZ hk
      have := (xcxZ l k o hk).1
      rw [← ht, List.getElem?_take_of_lt (by omega)] at this
      rw [xaaZ hg]; simpa using this
    · have hk2 := xaeZ hk
      have := (xcxZ l k o hk).2
      rw [← ht, List.getElem?_take_of_lt (by omega)] at this
      rw [xaaZ hg]; simpa using this
theorem vals_cells {w : World} {p : Option Addr} {n cap : Nat} {l : List Val} (h : ValsAt w (.slice p n cap) l) (ad : Addr) (hp : p = some ad) : ∀ (j : Nat) (u : Value), (valCells l)[j]? = some u → w.cell? (ad.add j) = some u := by
  obtain ⟨q, c, he, _, hc⟩ := h
  cases he
  intro j u hj
  have hlt := xaeZ hj
  rw [xfoZ] at hlt
  obtain ⟨o, ho⟩ : ∃ o, l[j / 2]? = some o := ⟨l[j / 2]'(by omega), List.getElem?_eq_some_iff.2 ⟨by omega, rfl⟩⟩
  obtain ⟨b, off, hp2, _, h0, h1⟩ := hc _ o ho
  rw [hp] at hp2
  cases hp2
  have hx := xcxZ l _ o ho
  rcases Nat.mod_two_eq_zero_or_one j with hm | hm
  · have e : j / 2 * 2 = j := by omega
    rw [e] at h0 hx
    rw [hx.1] at hj
    cases hj
    rw [xegZ]; exact h0
  · have e : j / 2 * 2 + 1 = j := by omega
    have e' : off + j / 2 * 2 + 1 = off + j := by omega
    rw [e] at hx
    rw [e'] at h1
    rw [hx.2] at hj
    cases hj
    rw [xegZ]; exact h1
theorem infoVal : (Tryz.prog.info? 113).map (fun i => (i.zero, i.size, i.bytes)) = some (some (.agg #[.bool false, .int .i64 0]), 2, 16) := by kernel_rfl
theorem xeuZ {w : World} {ops : Array Oper} {rest : List Oper} {o : Oper} {a : Act} {Q : Exit → Act → World → Prop} (hgd : o.guard = none) (s x : Operand)
    (ho : o.op = .call { callee := .builtin .append, args := #[s, x], argTypes := #[87, 87] }) (base : Nat)
    (v : Value) (n : Nat) (xs : List Value) (hs : a.eval s = v) (hown : w.ownsRow base 113 2 v n xs)
    (u : Value) (l : List Val) (hx : a.eval x = u) (hu : ValsAt w u l) (hnil : NilOk u)
    (h63 : n + l.length ≤ maxLen) (hbytes : (n + l.length) * 16 ≤ 140737488355328) (hbase : base ≤ w.heap.size)
    (h : ∀ v' w', w'.ownsRow base 113 2 v' (n + l.length) (xs ++ valCells l) → w.grownBy w' v.ownBlock → (v'.ownBlock = v.ownBlock ∨ v'.ownBlock = some w.heap.size) → wpList Tryz.prog ops Q rest (a.put o.dst v') w') : wpList Tryz.prog ops Q (o :: rest) a w := by
  obtain ⟨i0, hi, hz0, hz1, hz2⟩ := info_parts infoVal
  have hu' := hu
  obtain ⟨p, cap, rfl, hm, hc⟩ := hu'
  cases p with
  | none =>
    have hl : l = [] := by
      cases l with
      | nil => rfl
      | cons o r => obtain ⟨b, off, hb, _⟩ := hc 0 o rfl; cases hb
    subst hl
    have hcap : cap = 0 := hnil _ _ rfl
    subst hcap
    exact wpList_append_own_none hgd s x 87 ho base 113 i0 2 Tryz.underlying87 hi v n xs hs hown hx (h v w (by simpa [valCells] using hown) (World.grownBy.refl _ _) (.inl rfl))
  | some ad =>
    exact wpList_append_own_at w hgd s x 87 ho base 113 i0 (.agg #[.bool false, .int .i64 0]) 2 16 Tryz.underlying87 hi hz0 hz1 hz2 rfl (by decide) v n xs hs hown ad l.length cap (valCells l) hx (xfoZ l)
      (vals_cells hu ad rfl) (xpbZ l) h63 hbytes hbase (fun v' w' h1 h2 _ h4 => h v' w' h1 h2 h4)
structure VRows (W : World) (B : Nat) (q : List Value) (L : List (List Val)) : Prop where
  len : q.length = L.length
  each : ∀ (k : Nat) (x : Value) (b : List Val), q[k]? = some x → L[k]? = some b → W.ownsRow B 113 2 x b.length (valCells b)
  apart : ∀ (i j : Nat) (x y : Value) (g : Nat), q[i]? = some x → q[j]? = some y → x.ownBlock = some g → y.ownBlock = some g → i = j
theorem vRows_nil (W : World) (B : Nat) : VRows W B [] [] := ⟨rfl, fun k x b h => by simp at h, fun i j x y g h => by simp at h⟩
theorem VRows.row {W : World} {B : Nat} {q : List Value} {L : List (List Val)} (h : VRows W B q L) {k : Nat} {x : Value} (hx : q[k]? = some x) : ∃ b, L[k]? = some b ∧ W.ownsRow B 113 2 x b.length (valCells b) := by
  obtain ⟨b, h2⟩ := xaiZ (l := L) (k := k) (by rw [← h.len]; exact xaeZ hx)
  exact ⟨b, h2, h.each k x b hx h2⟩
theorem VRows.low {W : World} {B B' : Nat} {q : List Value} {L : List (List Val)} (h : VRows W B q L) (hB : B' ≤ B) : VRows W B' q L :=
  ⟨h.len, fun k x b h1 h2 => xapZ (h.each k x b h1 h2) hB, h.apart⟩
theorem VRows.same {W W' : World} {B : Nat} {q : List Value} {L : List (List Val)} (h : VRows W B q L) (hk : ∀ (k : Nat) (x : Value) (g : Nat), q[k]? = some x → x.ownBlock = some g → W'.heap[g]? = W.heap[g]?) : VRows W' B q L :=
  ⟨h.len, fun k x b h1 h2 => xayZ (h.each k x b h1 h2) fun g hg => hk k x g h1 hg, h.apart⟩
theorem VRows.lt {W : World} {B : Nat} {q : List Value} {L : List (List Val)} (h : VRows W B q L) {k : Nat} {x : Value} {g : Nat} (hx : q[k]? = some x) (hg : x.ownBlock = some g) : B ≤ g ∧ g < W.heap.size ∧ ∃ cs, W.heap[g]? = some (.cells cs 113 (0, 0)) := by
  obtain ⟨b, _, hr⟩ := h.row hx
  refine ⟨(hr.lt g hg).1, (hr.lt g hg).2, ?_⟩
  rcases hr.2 with ⟨rfl, _⟩ | ⟨g', cap, cur, rfl, _, hh, _⟩
  · cases hg
  · cases hg; exact ⟨_, hh⟩
theorem VRows.below {W W' : World} {B : Nat} {q : List Value} {L : List (List Val)} (h : VRows W B q L) (hb : Below W.heap.size W W') : VRows W' B q L :=
  h.same fun k x g h1 hg => hb.block g (h.lt h1 hg).2.1
theorem VRows.snoc {W : World} {B : Nat} {q : List Value} {L : List (List Val)} {x : Value} {b : List Val} (h : VRows W B q L) (hx : W.ownsRow B 113 2 x b.length (valCells b)) (hn : ∀ (k : Nat) (y : Value) (g : Nat), q[k]? = some y → y.ownBlock = some g → x.ownBlock ≠ some g) : VRows W B (q ++ [x]) (L ++ [b]) := by
  have key : ∀ (k : Nat) (y : Value), (q ++ [x])[k]? = some y → (k < q.length ∧ q[k]? = some y) ∨ (k = q.length ∧ y = x) := by
    intro k y hk
    by_cases hl : k < q.length
    · rw [List.getElem?_append_left hl] at hk; exact .inl ⟨hl, hk⟩
    · rw [List.getElem?_append_right (by omega)] at hk
      have h0 : k - q.length = 0 := by have := xaeZ hk; simp at this; omega
      rw [h0] at hk; simp at hk
      exact .inr ⟨by omega, hk.symm⟩
  refine ⟨by simp [h.len], fun k y c hy hc => ?_, fun i j y z g hy hz gy gz => ?_⟩
  · rcases key k y hy with ⟨h1, h2⟩ | ⟨rfl, rfl⟩
    · rw [List.getElem?_append_left (by rw [← h.len]; exact h1)] at hc
      exact h.each k y c h2 hc
    · rw [List.getElem?_append_right (by rw [h.len]; omega), h.len, Nat.sub_self] at hc
      simp at hc; subst hc
      exact hx
  · rcases key i y hy with ⟨h1, h2⟩ | ⟨rfl, rfl⟩
    · rcases key j z hz with ⟨h3, h4⟩ | ⟨rfl, rfl⟩
      · exact h.apart i j y z g h2 h4 gy gz
      · exact absurd gz (hn i y g h2 gy)
    · rcases key j z hz with ⟨h3, h4⟩ | ⟨rfl, rfl⟩
      · exact absurd gy (hn j z g h4 gz)
      · rfl
theorem VRows.put {W W' : World} {B : Nat} {q : List Value} {L : List (List Val)} {k : Nat} {x y : Value} {b : List Val} (h : VRows W B q L) (hk : q[k]? = some x) (hg : W.grownBy W' x.ownBlock) (hy : W'.ownsRow B 113 2 y b.length (valCells b)) (hat : ∀ g, y.ownBlock = some g → x.ownBlock = some g ∨ W.heap.size ≤ g) : VRows W' B (q.set k y) (L.set k b) := by
  have hlt := xaeZ hk
  refine ⟨by simp [h.len], fun i z c hz hc => ?_, fun i j z u g hz hu gz gu => ?_⟩
  · by_cases e : k = i
    · subst e
      rw [List.getElem?_set_self hlt] at hz
      rw [List.getElem?_set_self (by rw [← h.len]; exact hlt)] at hc
      cases hz; cases hc
      exact hy
    · rw [List.getElem?_set_ne e] at hz hc
      refine xayZ (h.each i z c hz hc) fun g hgz => hg.block g (h.lt hz hgz).2.1 fun e2 => ?_
      exact e (h.apart k i x z g hk hz e2.symm hgz)
  · by_cases e : k = i
    · by_cases e' : k = j
      · omega
      · subst e
        rw [List.getElem?_set_self hlt] at hz
        rw [List.getElem?_set_ne e'] at hu
        cases hz
        rcases hat g gz with h1 | h1
        · exact h.apart k j x u g hk hu h1 gu
        · have := (h.lt hu gu).2.1; omega
    · rw [List.getElem?_set_ne e] at hz
      by_cases e' : k = j
      · subst e'
        rw [List.getElem?_set_self hlt] at hu
        cases hu
        rcases hat g gu with h1 | h1
        · exact h.apart i k z x g hz hk gz h1
        · have := (h.lt hz gz).2.1; omega
      · rw [List.getElem?_set_ne e'] at hu
        exact h.apart i j z u g hz hu gz gu
theorem VRows.take {W : World} {B : Nat} {q : List Value} {L : List (List Val)} (h : VRows W B q L) (n : Nat) : VRows W B (q.take n) (L.take n) := by
  have key : ∀ {α : Type} (l : List α) (k : Nat) (x : α), (l.take n)[k]? = some x → l[k]? = some x := fun l k x hx => by
    by_cases hl : k < n
    · rwa [List.getElem?_take_of_lt hl] at hx
    · rw [List.getElem?_eq_none (by simp; omega)] at hx; cases hx
  exact ⟨by simp [h.len], fun k x b h1 h2 => h.each k x b (key _ _ _ h1) (key _ _ _ h2), fun i j x y g h1 h2 => h.apart i j x y g (key _ _ _ h1) (key _ _ _ h2)⟩
theorem row_cut {W : World} {B : Nat} {e : TypeId} {size n cap g : Nat} {xs : List Value} (h : W.ownsRow B e size (.slice (some ⟨g, 0, none⟩) n cap) n xs) (m : Nat) (hm : m ≤ n) : W.ownsRow B e size (.slice (some ⟨g, 0, none⟩) m cap) m (xs.take (m * size)) := by
  rcases h.2 with ⟨h1, _⟩ | ⟨g', cap', cur, h1, h2, h3, h4, h5, h6, h7⟩
  · cases h1
  · cases h1
    have hle : m * size ≤ n * size := Nat.mul_le_mul_right _ hm
    refine ⟨by rw [List.length_take, h.1]; omega, .inr ⟨g, cap, cur, rfl, h2, h3, by omega, h5, h6, ?_⟩⟩
    rw [← h7, List.take_take, Nat.min_eq_left hle]
end Go.Proofs.YtmjjkenblfndgaaGreat


/- blocks: the leaf functions; Check. -/
namespace Go.Proofs.YtmjjkenblfndgaaGreat
open Go.RowKit
set_option linter.unusedSimpArgs false
set_option linter.unusedVariables false
theorem xhfZ (n : Int) (w : World) : Calls Tryz.prog 174 #[.int .i64 n] w fun e w' => e = .returned (.bool (isI32 n)) ∧ w' = w := by
  go_enter Tryz.func174, Tryz.ntmps174
  go_wp2_with (go_at_call 41; refine (xigZ _ _).mono ?_; rintro e w' ⟨rfl, rfl⟩)
  go_ret
  exact ⟨by simp [← xihZ], rfl⟩
theorem xpdZ (n : Int) (w : World) : Calls Tryz.prog 173 #[.int .i64 n] w fun e w' => e = .returned (.bool (!isI32 n)) ∧ w' = w := by
  go_enter Tryz.func173, Tryz.ntmps173
  go_wp2_with (go_at_call 174; refine (xhfZ _ _).mono ?_; rintro e w' ⟨rfl, rfl⟩)
  go_ret
  exact ⟨rfl, rfl⟩
theorem xh3Z (L : List (List Int)) (ref : Int) (p : Option Addr) (cap : Nat) (w : World) : Calls Tryz.prog 238 #[.slice p L.length cap, .int .i64 ref] w fun e w' => e = .returned (.bool (refOk L.length ref)) ∧ w' = w := by
  by_cases h1 : 0 ≤ ref
  · have hd : decide (0 ≤ ref) = true := by simpa using h1
    have hd2 : decide (ref ≥ 0) = true := by simpa using h1
    go_enter Tryz.func238, Tryz.ntmps238
    go_wp2
    go_ret
    exact ⟨by simp [refOk, h1], rfl⟩
  · have hd : decide (0 ≤ ref) = false := by simpa using h1
    have hd2 : decide (ref ≥ 0) = false := by simpa using h1
    go_enter Tryz.func238, Tryz.ntmps238
    go_wp2
    go_ret
    exact ⟨by simp [refOk, hd], rfl⟩
def Ent (F : Nat) : Prop := ∀ (args : Array Value) (W : World), (callFunc F args).run Tryz.prog W = .ok (.enter F args) W
theorem xb1Z {F : Nat} {fn : Func} {c : Code} (hf : Tryz.prog.funcs[F]? = some fn) (hname : (fn.name == "runtime.NumGoroutine") = false) (hb : fn.body = some c) : Ent F := by
  intro args w
  have h1 : fn.name ≠ "runtime.NumGoroutine" := by simpa using hname
  simp [callFunc, hf, h1, hb]
theorem xniZ (F : Nat) (caps : Array Value) (I : World → Prop) (q : Int → Bool) (l : List Int) (v : Value) (w : World) (h : IntsAt w v l) (hI : I w) (hkI : ∀ W W', I W → Below W.heap.size W W' → I W') (hE : Ent F)
    (hF : ∀ (z : Int) (W : World), I W → Calls Tryz.prog F (#[.int .i64 z] ++ caps) W fun e w' => e = .returned (.bool (!q z)) ∧ Below W.heap.size W w') :
    Calls Tryz.prog 177 #[v, .func (.func F) #[] caps] w fun e w' => ∃ r, e = .returned (.int .i64 r) ∧ decide (0 ≤ r) = (!l.all q) ∧ Below w.heap.size w w' := by
  obtain ⟨p, cap, rfl, hm, hc⟩ := h
  unfold maxLen at hm
  have HI := hideP hI
  have HKI := hideP hkI
  have HF := hideP hF
  have hEE := fun args W => hE args W
  clear hI hkI hF hE
  go_enter Tryz.func177, Tryz.ntmps177
  go_wp2
  go_loopw [5, 8] (fun _ i wr => ∃ k : Nat, k ≤ l.length ∧ i = .int .i64 k ∧ (∀ o ∈ l.take k, q o = true) ∧ Below w.heap.size w wr) (fun _ i _ => l.length - (intOf i).toNat)
  case atStart => exact ⟨0, Nat.zero_le _, rfl, by simp, Below.refl _ _⟩
  case round =>
    obtain ⟨k, hk, rfl, hok, hbw⟩ := hrel
    have HK := hideP hok
    have HC := hideP hc
    clear hok hc
    by_cases hlt : k < l.length
    · obtain ⟨z, ho⟩ := xaiZ hlt
      obtain ⟨b, off, rfl, hb, h0⟩ := HC.out k _ ho
      have g0 := (hbw.cell (p := ⟨b, off + k, none⟩) hb).trans h0
      have HO := hideP ho
      have hi := hideP (HKI.out _ _ HI.out hbw)
      clear ho h0
      cases hnb : q z
      · go_wp2_with fail
        refine (HF.out z wr hi.out).mono ?_
        rw [hnb]
        rintro e w2 ⟨rfl, hb2⟩
        go_wp2
        go_ret
        exact ⟨k, rfl, by rw [xc5Z HO.out hnb]; simp, hbw.trans (hb2.mono hbw.size)⟩
      · go_wp2_with fail
        refine (HF.out z wr hi.out).mono ?_
        rw [hnb]
        rintro e w2 ⟨rfl, hb2⟩
        go_wp2
        go_roundw
        case rel => exact ⟨k + 1, by omega, by go_num, xddZ HK.out HO.out hnb, hbw.trans (hb2.mono hbw.size)⟩
        case measure => simp [intOf]; omega
    · have hlt' : ¬ (k : Int) < (l.length : Int) := by omega
      go_wp2
      go_ret
      refine ⟨-1, rfl, ?_, hbw⟩
      have := HK.out
      rw [List.take_of_length_le (by omega)] at this
      rw [xdeZ this]; decide
theorem xgrZ (F : Nat) (caps : Array Value) (I : World → Prop) (q : Int → Bool) (l : List Int) (v : Value) (w : World) (h : IntsAt w v l) (hI : I w) (hkI : ∀ W W', I W → Below W.heap.size W W' → I W') (hE : Ent F)
    (hF : ∀ (z : Int) (W : World), I W → Calls Tryz.prog F (#[.int .i64 z] ++ caps) W fun e w' => e = .returned (.bool (!q z)) ∧ Below W.heap.size W w') :
    Calls Tryz.prog 140 #[v, .func (.func F) #[] caps] w fun e w' => e = .returned (.bool (!l.all q)) ∧ Below w.heap.size w w' := by
  go_enter Tryz.func140, Tryz.ntmps140
  go_wp2_with fail
  refine (xniZ F caps I q l v _ h hI hkI hE hF).mono ?_
  rintro e w2 ⟨r, rfl, hr, hb2⟩
  have HR := hideP hr
  clear hr
  go_wp2
  go_ret
  exact ⟨by rw [← HR.out]; rfl, hb2⟩
theorem ent_check1 : Ent 173 := xb1Z Tryz.func173 (by kernel_rfl) rfl
theorem xjwZ (l : List Int) (v : Value) (w : World) (h : IntsAt w v l) : Calls Tryz.prog 140 #[v, .func (.func 173) #[] #[]] w fun e w' => e = .returned (.bool (!l.all isI32)) ∧ Below w.heap.size w w' :=
  xgrZ 173 #[] (fun _ => True) isI32 l v w h trivial (fun _ _ _ _ => trivial) ent_check1 (fun z W _ => (xpdZ z W).mono (by rintro e w' ⟨rfl, rfl⟩; exact ⟨rfl, Below.refl _ _⟩))
theorem xpeZ (l : List Int) (v : Value) (bs : Nat) (w : World) (h : IntsAt w v l) (hb : bs < w.heap.size ∧ w.cell? ⟨bs, 0, none⟩ = some (.func (.func 173) #[] #[])) : Calls Tryz.prog 176 #[v, .pointer (some ⟨bs, 0, none⟩)] w fun e w' => e = .returned (.bool (!l.all isI32)) ∧ Below w.heap.size w w' := by
  obtain ⟨_, c0⟩ := hb
  obtain ⟨p, cap, hv, _, _⟩ := id h
  have H := hideP h
  clear h
  subst hv
  go_enter Tryz.func176, Tryz.ntmps176
  go_wp2_with fail
  refine (xjwZ l _ _ H.out).mono ?_
  rintro e w2 ⟨rfl, hb2⟩
  go_wp2
  go_ret
  exact ⟨rfl, hb2⟩
theorem xndZ (F : Nat) (caps : Array Value) (I : World → Prop) (q : List Int → Bool) (l : List (List Int)) (v : Value) (w : World) (h : BlksAt w v l) (hI : I w) (hkI : ∀ W W', I W → Below W.heap.size W W' → I W') (hE : Ent F)
    (hF : ∀ (z : List Int) (u : Value) (W : World), I W → IntsAt W u z → Calls Tryz.prog F (#[u] ++ caps) W fun e w' => e = .returned (.bool (!q z)) ∧ Below W.heap.size W w') :
    Calls Tryz.prog 220 #[v, .func (.func F) #[] caps] w fun e w' => ∃ r, e = .returned (.int .i64 r) ∧ decide (0 ≤ r) = (!l.all q) ∧ Below w.heap.size w w' := by
  obtain ⟨p, cap, rfl, hm, hc⟩ := h
  unfold maxLen at hm
  have HI := hideP hI
  have HKI := hideP hkI
  have HF := hideP hF
  have hEE := fun args W => hE args W
  clear hI hkI hF hE
  go_enter Tryz.func220, Tryz.ntmps220
  go_wp2
  go_loopw [5, 8] (fun _ i wr => ∃ k : Nat, k ≤ l.length ∧ i = .int .i64 k ∧ (∀ o ∈ l.take k, q o = true) ∧ Below w.heap.size w wr) (fun _ i _ => l.length - (intOf i).toNat)
  case atStart => exact ⟨0, Nat.zero_le _, rfl, by simp, Below.refl _ _⟩
  case round =>
    obtain ⟨k, hk, rfl, hok, hbw⟩ := hrel
    have HK := hideP hok
    have HC := hideP hc
    clear hok hc
    by_cases hlt : k < l.length
    · obtain ⟨z, ho⟩ := xaiZ hlt
      obtain ⟨b, off, c, rfl, hb, h0, h1, _, _⟩ := HC.out k _ ho
      have g0 := (hbw.cell (p := ⟨b, off + k, none⟩) hb).trans h0
      have H1 := hideP (h1.below hbw)
      obtain ⟨p1, q1, hc1, _, _⟩ := id h1
      subst hc1
      have HO := hideP ho
      have hi := hideP (HKI.out _ _ HI.out hbw)
      clear ho h0 h1
      cases hnb : q z
      · go_wp2_with fail
        refine (HF.out z _ wr hi.out H1.out).mono ?_
        rw [hnb]
        rintro e w2 ⟨rfl, hb2⟩
        go_wp2
        go_ret
        exact ⟨k, rfl, by rw [xc5Z HO.out hnb]; simp, hbw.trans (hb2.mono hbw.size)⟩
      · go_wp2_with fail
        refine (HF.out z _ wr hi.out H1.out).mono ?_
        rw [hnb]
        rintro e w2 ⟨rfl, hb2⟩
        go_wp2
        go_roundw
        case rel => exact ⟨k + 1, by omega, by go_num, xddZ HK.out HO.out hnb, hbw.trans (hb2.mono hbw.size)⟩
        case measure => simp [intOf]; omega
    · have hlt' : ¬ (k : Int) < (l.length : Int) := by omega
      go_wp2
      go_ret
      refine ⟨-1, rfl, ?_, hbw⟩
      have := HK.out
      rw [List.take_of_length_le (by omega)] at this
      rw [xdeZ this]; decide
theorem xkaZ (F : Nat) (caps : Array Value) (I : World → Prop) (q : List Int → Bool) (l : List (List Int)) (v : Value) (w : World) (h : BlksAt w v l) (hI : I w) (hkI : ∀ W W', I W → Below W.heap.size W W' → I W') (hE : Ent F)
    (hF : ∀ (z : List Int) (u : Value) (W : World), I W → IntsAt W u z → Calls Tryz.prog F (#[u] ++ caps) W fun e w' => e = .returned (.bool (!q z)) ∧ Below W.heap.size W w') :
    Calls Tryz.prog 175 #[v, .func (.func F) #[] caps] w fun e w' => e = .returned (.bool (!l.all q)) ∧ Below w.heap.size w w' := by
  go_enter Tryz.func175, Tryz.ntmps175
  go_wp2_with fail
  refine (xndZ F caps I q l v _ h hI hkI hE hF).mono ?_
  rintro e w2 ⟨r, rfl, hr, hb2⟩
  have HR := hideP hr
  clear hr
  go_wp2
  go_ret
  exact ⟨by rw [← HR.out]; rfl, hb2⟩
theorem ent_check2 : Ent 176 := xb1Z Tryz.func176 (by kernel_rfl) rfl
def StrayBox (bs : Nat) (W : World) : Prop := bs < W.heap.size ∧ W.cell? ⟨bs, 0, none⟩ = some (.func (.func 173) #[] #[])
theorem StrayBox.below {bs : Nat} {W W' : World} (h : StrayBox bs W) (hb : Below W.heap.size W W') : StrayBox bs W' := ⟨Nat.lt_of_lt_of_le h.1 hb.size, (hb.cell (p := ⟨bs, 0, none⟩) h.1).trans h.2⟩
theorem xivZ (L : List (List Int)) (v : Value) (bs : Nat) (w : World) (h : BlksAt w v L) (hb : StrayBox bs w) : Calls Tryz.prog 175 #[v, .func (.func 176) #[] #[.pointer (some ⟨bs, 0, none⟩)]] w fun e w' => e = .returned (.bool (!L.all fun b => b.all isI32)) ∧ Below w.heap.size w w' :=
  xkaZ 176 #[.pointer (some ⟨bs, 0, none⟩)] (StrayBox bs) (fun b => b.all isI32) L v w h hb (fun _ _ h hb => h.below hb) ent_check2 (fun z u W hW hu => xpeZ z u bs W hu hW)
theorem xgzZ (L : List (List Int)) (v : Value) (w : World) (h : BlksAt w v L) (h8 : L.length ≤ 8) : Calls Tryz.prog 172 #[v] w fun e w' => e = .returned (.int .i64 (xa0Z L)) ∧ w' = w := by
  obtain ⟨p, cap, rfl, hm, hc⟩ := h
  have hbd : ∀ k, xa0Z (L.take k) ≤ 140737488355328 := fun k => by
    have h1 := xmbZ L k
    have h2 := xnwZ L 17592186044416 fun b hb => by
      obtain ⟨j, hj⟩ := List.getElem?_of_mem hb
      obtain ⟨_, _, _, _, _, _, _, _, h⟩ := hc j b hj
      exact h
    omega
  have HBD := hideP hbd
  clear hbd hm
  go_enter Tryz.func172, Tryz.ntmps172
  go_wp2
  go_loopw [3, 5, 8] (fun s _ i wr => ∃ k : Nat, k ≤ L.length ∧ i = .int .i64 k ∧ s = .int .i64 (xa0Z (L.take k)) ∧ wr = w) (fun _ _ i _ => L.length - (intOf i).toNat)
  case atStart => exact ⟨0, Nat.zero_le _, rfl, rfl, rfl⟩
  case round =>
    obtain ⟨k, hk, rfl, rfl, rfl⟩ := hrel
    have HC := hideP hc
    clear hc
    by_cases hlt : k < L.length
    · obtain ⟨z, ho⟩ := xaiZ hlt
      obtain ⟨b, off, c, rfl, hb, h0, h1, _, h44⟩ := HC.out k _ ho
      obtain ⟨p1, q1, hc1, _, _⟩ := id h1
      subst hc1
      have hs := xjyZ L k z ho
      have hb1 := HBD.out k
      have HS := hideP hs
      clear ho h1 hs
      generalize xa0Z (L.take k) = s at *
      go_wp2
      go_roundw
      case rel => exact ⟨k + 1, by omega, by go_num, by rw [HS.out]; go_num, trivial⟩
      case measure => simp [intOf]; omega
    · have hlt' : ¬ (k : Int) < (L.length : Int) := by omega
      go_wp2
      go_ret
      exact ⟨by simp [List.take_of_length_le (show L.length ≤ k by omega)], rfl⟩
theorem xgeZ (L : List (List Int)) (v : Value) (w : World) (h : BlksAt w v L) : Calls Tryz.prog 137 #[v] w fun e w' => e = .returned (.int .i64 (blkErr L)) ∧ Below w.heap.size w w' := by
  obtain ⟨p, cap, hv, hm, _⟩ := id h
  unfold maxLen at hm
  subst hv
  by_cases h8 : 8 < L.length
  · have h8' : (8 : Int) < (L.length : Int) := by omega
    have hd : decide ((L.length : Int) > 8) = true := by simpa using h8'
    have he : blkErr L = 2 := by unfold blkErr; rw [if_pos (.inl h8)]
    rw [he]
    clear h he
    go_enter Tryz.func137, Tryz.ntmps137
    go_wp2
    go_ret
    exact ⟨rfl, Below.refl _ _⟩
  · have h8' : ¬ (8 : Int) < (L.length : Int) := by omega
    have hd : decide ((L.length : Int) > 8) = false := by simp; omega
    have H := hideP h
    clear h
    by_cases h40 : 40 < xa0Z L
    · have h40' : (40 : Int) < (xa0Z L : Int) := by omega
      have he : blkErr L = 2 := by unfold blkErr; rw [if_pos (.inr h40)]
      rw [he]
      clear he
      go_enter Tryz.func137, Tryz.ntmps137
      go_wp2_with (go_at_call 172; refine (xgzZ L _ _ H.out (by omega)).mono ?_; rintro e w' ⟨rfl, hw⟩; have hw := hw.symm; subst hw)
      go_ret
      exact ⟨rfl, Below.refl _ _⟩
    · have h40' : ¬ (40 : Int) < (xa0Z L : Int) := by omega
      have he : blkErr L = if (L.all fun b => b.all isI32) = true then 0 else 3 := by unfold blkErr; rw [if_neg (by omega)]
      rw [he]
      clear he
      have hB := (Below.refl w.heap.size w).alloc (Nat.le_refl _) (.cells #[.func (.func 173) #[] #[]] 35)
      have hx := World.alloc_heap_new w (.cells #[.func (.func 173) #[] #[]] 35)
      have hS : StrayBox w.heap.size (w.alloc (.cells #[.func (.func 173) #[] #[]] 35)) := ⟨xacZ hx, by rw [xaaZ hx 0]; rfl⟩
      have HS := hideP hS
      have HA := hideP (H.out.below hB)
      clear hx hS
      cases hall : (L.all fun b => b.all isI32)
      all_goals
        go_enter Tryz.func137, Tryz.ntmps137
        go_wp2_with (first | (go_at_call 172; refine (xgzZ L _ _ H.out (by omega)).mono ?_; rintro e w' ⟨rfl, hw⟩; have hw := hw.symm; subst hw) | (go_at_call 175; refine (xivZ L _ _ _ HA.out HS.out).mono ?_; rw [hall]; rintro e w2 ⟨rfl, hb2⟩))
        go_ret
        exact ⟨rfl, hB.trans (hb2.mono hB.size)⟩
end Go.Proofs.YtmjjkenblfndgaaGreat


/- verify's stack: turn, call, do. -/
namespace Go.Proofs.YtmjjkenblfndgaaGreat
open Go.RowKit
set_option linter.unusedSimpArgs false
set_option linter.unusedVariables false
def SA (W : World) (b B : Nat) (s : St) : Prop := StAt W b B s.1 s.2
theorem SA.kept {W W' : World} {b B : Nat} {s : St} (h : SA W b B s) (hb : Below W.heap.size W W') : SA W' b B s := StAt.kept h hb
theorem xicZ (s : St) (b B : Nat) (w : World) (h : SA w b B s) (hl : s.1.length ≤ 100) (hB : B ≤ w.heap.size) (hBb : B ≤ b) : Calls Tryz.prog 231 #[.pointer (some ⟨b, 0, none⟩)] w fun e w' => e = .returned (.int .i64 (topP s.1)) ∧ SA w' b B (popS s) ∧ Below B w w' := by
  refine (pop_any s.1 s.2 b B w h hl).mono ?_
  rintro e w' ⟨rfl, h1, h2⟩
  exact ⟨rfl, h1, (Below.refl B w).grown h2 hB (fun k hk => by cases hk; exact hBb)⟩
theorem xc4Z (s : St) (ts : List Int) (b B : Nat) (u : Value) (w : World) (h : SA w b B s) (hu : IntsAt w u ts) (hl : s.1.length ≤ 100) (ht : ts.length ≤ 100) (hB : B ≤ w.heap.size) (hBb : B ≤ b) : Calls Tryz.prog 210 #[.pointer (some ⟨b, 0, none⟩), u] w fun e w' => e = .returned (.tuple #[]) ∧ SA w' b B (tk s ts) ∧ Below B w w' := by
  obtain ⟨p, c, rfl, _, _⟩ := id hu
  refine (xm5Z s.1 ts s.2 b B p c w h hu hB hBb hl ht).mono ?_
  rintro e w' ⟨rfl, h1, h2⟩
  exact ⟨rfl, h1, (Below.refl B w).grown h2 hB (fun k hk => by cases hk; exact hBb)⟩
theorem xcnZ (s : St) (ts : List Int) (b B : Nat) (u : Value) (w : World) (h : SA w b B s) (hu : IntsAt w u ts) (hn : NilOk u) (hl : s.1.length ≤ 100) (ht : ts.length ≤ 100) (hB : B ≤ w.heap.size) (hBb : B ≤ b) : Calls Tryz.prog 209 #[.pointer (some ⟨b, 0, none⟩), u] w fun e w' => e = .returned (.tuple #[]) ∧ SA w' b B (lv s ts) ∧ Below B w w' := by
  refine (leave_any s.1 ts s.2 b B u w h hu hn hB hBb hl ht).mono ?_
  rintro e w' ⟨rfl, h1, h2⟩
  exact ⟨rfl, h1, h2⟩
theorem xerZ (s : St) (ts : List Int) : (tk s ts).1.length ≤ s.1.length := xm1Z s _
theorem xidZ (s : St) : (popS s).1.length ≤ s.1.length := by simp [popS]
theorem turn2_any (s : St) (b B : Nat) (w : World) (h : SA w b B s) (hl : s.1.length ≤ 100) (hB : B ≤ w.heap.size) (hBb : B ≤ b) : Calls Tryz.prog 208 #[.pointer (some ⟨b, 0, none⟩), .int .i64 2] w fun e w' => e = .returned (.tuple #[]) ∧ SA w' b B (popS s) ∧ Below B w w' := by
  go_enter Tryz.func208, Tryz.ntmps208
  go_wp2_with fail
  refine (xicZ s b B w h hl hB hBb).mono ?_
  rintro e w1 ⟨rfl, h1, b1⟩
  have l1 : (popS s).1.length ≤ 100 := Nat.le_trans (xidZ _) hl
  have z1 : B ≤ w1.heap.size := Nat.le_trans hB b1.size
  have B1 := b1
  go_wp2
  go_end0
  exact ⟨rfl, h1, B1⟩
theorem turn3_any (s : St) (b B : Nat) (w : World) (h : SA w b B s) (hl : s.1.length ≤ 100) (hB : B ≤ w.heap.size) (hBb : B ≤ b) : Calls Tryz.prog 208 #[.pointer (some ⟨b, 0, none⟩), .int .i64 3] w fun e w' => e = .returned (.tuple #[]) ∧ SA w' b B (lv (popS s) [topP s.1, topP s.1]) ∧ Below B w w' := by
  go_enter Tryz.func208, Tryz.ntmps208
  go_wp2_with fail
  refine (xicZ s b B w h hl hB hBb).mono ?_
  rintro e w1 ⟨rfl, h1, b1⟩
  have l1 : (popS s).1.length ≤ 100 := Nat.le_trans (xidZ _) hl
  have z1 : B ≤ w1.heap.size := Nat.le_trans hB b1.size
  have B1 := b1
  go_wp2_with fail
  have q2 := World.alloc_heap_new w1 (.cells #[.int .i64 (topP s.1), .int .i64 (topP s.1)] 3)
  have a2 := (Below.refl w1.heap.size w1).alloc (Nat.le_refl _) (.cells #[.int .i64 (topP s.1), .int .i64 (topP s.1)] 3)
  refine (xcnZ (popS s) [(topP s.1), (topP s.1)] b B _ _ (h1.kept a2) (xbgZ 2 2 q2 rfl (by unfold maxLen; simp)) (xazZ _ _ _) l1 (by simp) (Nat.le_trans z1 a2.size) hBb).mono ?_
  rintro e w2 ⟨rfl, h2, b2⟩
  have z2 : B ≤ w2.heap.size := Nat.le_trans (Nat.le_trans z1 a2.size) b2.size
  have c2 := (a2.mono z1).trans b2
  have B2 := B1.trans c2
  clear q2 a2
  go_wp2
  go_end0
  exact ⟨rfl, h2, B2⟩
theorem turn4_any (s : St) (b B : Nat) (w : World) (h : SA w b B s) (hl : s.1.length ≤ 100) (hB : B ≤ w.heap.size) (hBb : B ≤ b) : Calls Tryz.prog 208 #[.pointer (some ⟨b, 0, none⟩), .int .i64 4] w fun e w' => e = .returned (.tuple #[]) ∧ SA w' b B (lv (popS (popS s)) [topP s.1, topP (popS s).1]) ∧ Below B w w' := by
  go_enter Tryz.func208, Tryz.ntmps208
  go_wp2_with fail
  refine (xicZ s b B w h hl hB hBb).mono ?_
  rintro e w1 ⟨rfl, h1, b1⟩
  have l1 : (popS s).1.length ≤ 100 := Nat.le_trans (xidZ _) hl
  have z1 : B ≤ w1.heap.size := Nat.le_trans hB b1.size
  have B1 := b1
  go_wp2_with fail
  refine (xicZ (popS s) b B w1 h1 l1 z1 hBb).mono ?_
  rintro e w2 ⟨rfl, h2, b2⟩
  have l2 : (popS (popS s)).1.length ≤ 100 := Nat.le_trans (xidZ _) l1
  have z2 : B ≤ w2.heap.size := Nat.le_trans z1 b2.size
  have B2 := B1.trans b2
  go_wp2_with fail
  have q3 := World.alloc_heap_new w2 (.cells #[.int .i64 (topP s.1), .int .i64 (topP (popS s).1)] 3)
  have a3 := (Below.refl w2.heap.size w2).alloc (Nat.le_refl _) (.cells #[.int .i64 (topP s.1), .int .i64 (topP (popS s).1)] 3)
  refine (xcnZ (popS (popS s)) [(topP s.1), (topP (popS s).1)] b B _ _ (h2.kept a3) (xbgZ 2 2 q3 rfl (by unfold maxLen; simp)) (xazZ _ _ _) l2 (by simp) (Nat.le_trans z2 a3.size) hBb).mono ?_
  rintro e w3 ⟨rfl, h3, b3⟩
  have z3 : B ≤ w3.heap.size := Nat.le_trans (Nat.le_trans z2 a3.size) b3.size
  have c3 := (a3.mono z2).trans b3
  have B3 := B2.trans c3
  clear q3 a3
  go_wp2
  go_end0
  exact ⟨rfl, h3, B3⟩
theorem do1_any (s : St) (b B : Nat) (w : World) (h : SA w b B s) (hl : s.1.length ≤ 100) (hB : B ≤ w.heap.size) (hBb : B ≤ b) : Calls Tryz.prog 213 #[.pointer (some ⟨b, 0, none⟩), .int .i64 1] w fun e w' => e = .returned (.tuple #[]) ∧ SA w' b B (lv s [1]) ∧ Below B w w' := by
  go_enter Tryz.func213, Tryz.ntmps213
  go_wp2_with fail
  have q1 := World.alloc_heap_new w (.cells #[.int .i64 1] 3)
  have a1 := (Below.refl w.heap.size w).alloc (Nat.le_refl _) (.cells #[.int .i64 1] 3)
  refine (xcnZ s [1] b B _ _ (h.kept a1) (xbgZ 1 1 q1 rfl (by unfold maxLen; simp)) (xazZ _ _ _) hl (by simp) (Nat.le_trans hB a1.size) hBb).mono ?_
  rintro e w1 ⟨rfl, h1, b1⟩
  have z1 : B ≤ w1.heap.size := Nat.le_trans (Nat.le_trans hB a1.size) b1.size
  have c1 := (a1.mono hB).trans b1
  have B1 := c1
  clear q1 a1
  go_wp2
  go_end0
  exact ⟨rfl, h1, B1⟩
theorem do21_any (s : St) (b B : Nat) (w : World) (h : SA w b B s) (hl : s.1.length ≤ 100) (hB : B ≤ w.heap.size) (hBb : B ≤ b) : Calls Tryz.prog 213 #[.pointer (some ⟨b, 0, none⟩), .int .i64 21] w fun e w' => e = .returned (.tuple #[]) ∧ SA w' b B (lv s [1]) ∧ Below B w w' := by
  go_enter Tryz.func213, Tryz.ntmps213
  go_wp2_with fail
  have q1 := World.alloc_heap_new w (.cells #[.int .i64 1] 3)
  have a1 := (Below.refl w.heap.size w).alloc (Nat.le_refl _) (.cells #[.int .i64 1] 3)
  refine (xcnZ s [1] b B _ _ (h.kept a1) (xbgZ 1 1 q1 rfl (by unfold maxLen; simp)) (xazZ _ _ _) hl (by simp) (Nat.le_trans hB a1.size) hBb).mono ?_
  rintro e w1 ⟨rfl, h1, b1⟩
  have z1 : B ≤ w1.heap.size := Nat.le_trans (Nat.le_trans hB a1.size) b1.size
  have c1 := (a1.mono hB).trans b1
  have B1 := c1
  clear q1 a1
  go_wp2
  go_end0
  exact ⟨rfl, h1, B1⟩
theorem do5_any (s : St) (b B : Nat) (w : World) (h : SA w b B s) (hl : s.1.length ≤ 100) (hB : B ≤ w.heap.size) (hBb : B ≤ b) : Calls Tryz.prog 213 #[.pointer (some ⟨b, 0, none⟩), .int .i64 5] w fun e w' => e = .returned (.tuple #[]) ∧ SA w' b B (lv (tk s [1, 1]) [1]) ∧ Below B w w' := by
  go_enter Tryz.func213, Tryz.ntmps213
  go_wp2_with fail
  have q1 := World.alloc_heap_new w (.cells #[.int .i64 1, .int .i64 1] 3)
  have a1 := (Below.refl w.heap.size w).alloc (Nat.le_refl _) (.cells #[.int .i64 1, .int .i64 1] 3)
  refine (xc4Z s [1, 1] b B _ _ (h.kept a1) (xbgZ 2 2 q1 rfl (by unfold maxLen; simp)) hl (by simp) (Nat.le_trans hB a1.size) hBb).mono ?_
  rintro e w1 ⟨rfl, h1, b1⟩
  have l1 : (tk s [1, 1]).1.length ≤ 100 := Nat.le_trans (xerZ _ _) hl
  have z1 : B ≤ w1.heap.size := Nat.le_trans (Nat.le_trans hB a1.size) b1.size
  have c1 := (a1.mono hB).trans b1
  have B1 := c1
  clear q1 a1
  go_wp2_with fail
  have q2 := World.alloc_heap_new w1 (.cells #[.int .i64 1] 3)
  have a2 := (Below.refl w1.heap.size w1).alloc (Nat.le_refl _) (.cells #[.int .i64 1] 3)
  refine (xcnZ (tk s [1, 1]) [1] b B _ _ (h1.kept a2) (xbgZ 1 1 q2 rfl (by unfold maxLen; simp)) (xazZ _ _ _) l1 (by simp) (Nat.le_trans z1 a2.size) hBb).mono ?_
  rintro e w2 ⟨rfl, h2, b2⟩
  have z2 : B ≤ w2.heap.size := Nat.le_trans (Nat.le_trans z1 a2.size) b2.size
  have c2 := (a2.mono z1).trans b2
  have B2 := B1.trans c2
  clear q2 a2
  go_wp2
  go_end0
  exact ⟨rfl, h2, B2⟩
theorem do6_any (s : St) (b B : Nat) (w : World) (h : SA w b B s) (hl : s.1.length ≤ 100) (hB : B ≤ w.heap.size) (hBb : B ≤ b) : Calls Tryz.prog 213 #[.pointer (some ⟨b, 0, none⟩), .int .i64 6] w fun e w' => e = .returned (.tuple #[]) ∧ SA w' b B (lv (tk s [1, 1]) [1]) ∧ Below B w w' := by
  go_enter Tryz.func213, Tryz.ntmps213
  go_wp2_with fail
  have q1 := World.alloc_heap_new w (.cells #[.int .i64 1, .int .i64 1] 3)
  have a1 := (Below.refl w.heap.size w).alloc (Nat.le_refl _) (.cells #[.int .i64 1, .int .i64 1] 3)
  refine (xc4Z s [1, 1] b B _ _ (h.kept a1) (xbgZ 2 2 q1 rfl (by unfold maxLen; simp)) hl (by simp) (Nat.le_trans hB a1.size) hBb).mono ?_
  rintro e w1 ⟨rfl, h1, b1⟩
  have l1 : (tk s [1, 1]).1.length ≤ 100 := Nat.le_trans (xerZ _ _) hl
  have z1 : B ≤ w1.heap.size := Nat.le_trans (Nat.le_trans hB a1.size) b1.size
  have c1 := (a1.mono hB).trans b1
  have B1 := c1
  clear q1 a1
  go_wp2_with fail
  have q2 := World.alloc_heap_new w1 (.cells #[.int .i64 1] 3)
  have a2 := (Below.refl w1.heap.size w1).alloc (Nat.le_refl _) (.cells #[.int .i64 1] 3)
  refine (xcnZ (tk s [1, 1]) [1] b B _ _ (h1.kept a2) (xbgZ 1 1 q2 rfl (by unfold maxLen; simp)) (xazZ _ _ _) l1 (by simp) (Nat.le_trans z1 a2.size) hBb).mono ?_
  rintro e w2 ⟨rfl, h2, b2⟩
  have z2 : B ≤ w2.heap.size := Nat.le_trans (Nat.le_trans z1 a2.size) b2.size
  have c2 := (a2.mono z1).trans b2
  have B2 := B1.trans c2
  clear q2 a2
  go_wp2
  go_end0
  exact ⟨rfl, h2, B2⟩
theorem do7_any (s : St) (b B : Nat) (w : World) (h : SA w b B s) (hl : s.1.length ≤ 100) (hB : B ≤ w.heap.size) (hBb : B ≤ b) : Calls Tryz.prog 213 #[.pointer (some ⟨b, 0, none⟩), .int .i64 7] w fun e w' => e = .returned (.tuple #[]) ∧ SA w' b B (lv (tk s [1, 1]) [1]) ∧ Below B w w' := by
  go_enter Tryz.func213, Tryz.ntmps213
  go_wp2_with fail
  have q1 := World.alloc_heap_new w (.cells #[.int .i64 1, .int .i64 1] 3)
  have a1 := (Below.refl w.heap.size w).alloc (Nat.le_refl _) (.cells #[.int .i64 1, .int .i64 1] 3)
  refine (xc4Z s [1, 1] b B _ _ (h.kept a1) (xbgZ 2 2 q1 rfl (by unfold maxLen; simp)) hl (by simp) (Nat.le_trans hB a1.size) hBb).mono ?_
  rintro e w1 ⟨rfl, h1, b1⟩
  have l1 : (tk s [1, 1]).1.length ≤ 100 := Nat.le_trans (xerZ _ _) hl
  have z1 : B ≤ w1.heap.size := Nat.le_trans (Nat.le_trans hB a1.size) b1.size
  have c1 := (a1.mono hB).trans b1
  have B1 := c1
  clear q1 a1
  go_wp2_with fail
  have q2 := World.alloc_heap_new w1 (.cells #[.int .i64 1] 3)
  have a2 := (Below.refl w1.heap.size w1).alloc (Nat.le_refl _) (.cells #[.int .i64 1] 3)
  refine (xcnZ (tk s [1, 1]) [1] b B _ _ (h1.kept a2) (xbgZ 1 1 q2 rfl (by unfold maxLen; simp)) (xazZ _ _ _) l1 (by simp) (Nat.le_trans z1 a2.size) hBb).mono ?_
  rintro e w2 ⟨rfl, h2, b2⟩
  have z2 : B ≤ w2.heap.size := Nat.le_trans (Nat.le_trans z1 a2.size) b2.size
  have c2 := (a2.mono z1).trans b2
  have B2 := B1.trans c2
  clear q2 a2
  go_wp2
  go_end0
  exact ⟨rfl, h2, B2⟩
theorem do11_any (s : St) (b B : Nat) (w : World) (h : SA w b B s) (hl : s.1.length ≤ 100) (hB : B ≤ w.heap.size) (hBb : B ≤ b) : Calls Tryz.prog 213 #[.pointer (some ⟨b, 0, none⟩), .int .i64 11] w fun e w' => e = .returned (.tuple #[]) ∧ SA w' b B (tk s [1]) ∧ Below B w w' := by
  go_enter Tryz.func213, Tryz.ntmps213
  go_wp2_with fail
  have q1 := World.alloc_heap_new w (.cells #[.int .i64 1] 3)
  have a1 := (Below.refl w.heap.size w).alloc (Nat.le_refl _) (.cells #[.int .i64 1] 3)
  refine (xc4Z s [1] b B _ _ (h.kept a1) (xbgZ 1 1 q1 rfl (by unfold maxLen; simp)) hl (by simp) (Nat.le_trans hB a1.size) hBb).mono ?_
  rintro e w1 ⟨rfl, h1, b1⟩
  have l1 : (tk s [1]).1.length ≤ 100 := Nat.le_trans (xerZ _ _) hl
  have z1 : B ≤ w1.heap.size := Nat.le_trans (Nat.le_trans hB a1.size) b1.size
  have c1 := (a1.mono hB).trans b1
  have B1 := c1
  clear q1 a1
  go_wp2
  go_end0
  exact ⟨rfl, h1, B1⟩
theorem do20_any (s : St) (b B : Nat) (w : World) (h : SA w b B s) (hl : s.1.length ≤ 100) (hB : B ≤ w.heap.size) (hBb : B ≤ b) : Calls Tryz.prog 213 #[.pointer (some ⟨b, 0, none⟩), .int .i64 20] w fun e w' => e = .returned (.tuple #[]) ∧ SA w' b B (tk s [1]) ∧ Below B w w' := by
  go_enter Tryz.func213, Tryz.ntmps213
  go_wp2_with fail
  have q1 := World.alloc_heap_new w (.cells #[.int .i64 1] 3)
  have a1 := (Below.refl w.heap.size w).alloc (Nat.le_refl _) (.cells #[.int .i64 1] 3)
  refine (xc4Z s [1] b B _ _ (h.kept a1) (xbgZ 1 1 q1 rfl (by unfold maxLen; simp)) hl (by simp) (Nat.le_trans hB a1.size) hBb).mono ?_
  rintro e w1 ⟨rfl, h1, b1⟩
  have l1 : (tk s [1]).1.length ≤ 100 := Nat.le_trans (xerZ _ _) hl
  have z1 : B ≤ w1.heap.size := Nat.le_trans (Nat.le_trans hB a1.size) b1.size
  have c1 := (a1.mono hB).trans b1
  have B1 := c1
  clear q1 a1
  go_wp2
  go_end0
  exact ⟨rfl, h1, B1⟩
theorem do14_any (s : St) (b B : Nat) (w : World) (h : SA w b B s) (hl : s.1.length ≤ 100) (hB : B ≤ w.heap.size) (hBb : B ≤ b) : Calls Tryz.prog 213 #[.pointer (some ⟨b, 0, none⟩), .int .i64 14] w fun e w' => e = .returned (.tuple #[]) ∧ SA w' b B (lv (tk s [1]) [2]) ∧ Below B w w' := by
  go_enter Tryz.func213, Tryz.ntmps213
  go_wp2_with fail
  have q1 := World.alloc_heap_new w (.cells #[.int .i64 1] 3)
  have a1 := (Below.refl w.heap.size w).alloc (Nat.le_refl _) (.cells #[.int .i64 1] 3)
  refine (xc4Z s [1] b B _ _ (h.kept a1) (xbgZ 1 1 q1 rfl (by unfold maxLen; simp)) hl (by simp) (Nat.le_trans hB a1.size) hBb).mono ?_
  rintro e w1 ⟨rfl, h1, b1⟩
  have l1 : (tk s [1]).1.length ≤ 100 := Nat.le_trans (xerZ _ _) hl
  have z1 : B ≤ w1.heap.size := Nat.le_trans (Nat.le_trans hB a1.size) b1.size
  have c1 := (a1.mono hB).trans b1
  have B1 := c1
  clear q1 a1
  go_wp2_with fail
  have q2 := World.alloc_heap_new w1 (.cells #[.int .i64 2] 3)
  have a2 := (Below.refl w1.heap.size w1).alloc (Nat.le_refl _) (.cells #[.int .i64 2] 3)
  refine (xcnZ (tk s [1]) [2] b B _ _ (h1.kept a2) (xbgZ 1 1 q2 rfl (by unfold maxLen; simp)) (xazZ _ _ _) l1 (by simp) (Nat.le_trans z1 a2.size) hBb).mono ?_
  rintro e w2 ⟨rfl, h2, b2⟩
  have z2 : B ≤ w2.heap.size := Nat.le_trans (Nat.le_trans z1 a2.size) b2.size
  have c2 := (a2.mono z1).trans b2
  have B2 := B1.trans c2
  clear q2 a2
  go_wp2
  go_end0
  exact ⟨rfl, h2, B2⟩
theorem do15_any (s : St) (b B : Nat) (w : World) (h : SA w b B s) (hl : s.1.length ≤ 100) (hB : B ≤ w.heap.size) (hBb : B ≤ b) : Calls Tryz.prog 213 #[.pointer (some ⟨b, 0, none⟩), .int .i64 15] w fun e w' => e = .returned (.tuple #[]) ∧ SA w' b B (lv (tk s [2, 1]) [1]) ∧ Below B w w' := by
  go_enter Tryz.func213, Tryz.ntmps213
  go_wp2_with fail
  have q1 := World.alloc_heap_new w (.cells #[.int .i64 2, .int .i64 1] 3)
  have a1 := (Below.refl w.heap.size w).alloc (Nat.le_refl _) (.cells #[.int .i64 2, .int .i64 1] 3)
  refine (xc4Z s [2, 1] b B _ _ (h.kept a1) (xbgZ 2 2 q1 rfl (by unfold maxLen; simp)) hl (by simp) (Nat.le_trans hB a1.size) hBb).mono ?_
  rintro e w1 ⟨rfl, h1, b1⟩
  have l1 : (tk s [2, 1]).1.length ≤ 100 := Nat.le_trans (xerZ _ _) hl
  have z1 : B ≤ w1.heap.size := Nat.le_trans (Nat.le_trans hB a1.size) b1.size
  have c1 := (a1.mono hB).trans b1
  have B1 := c1
  clear q1 a1
  go_wp2_with fail
  have q2 := World.alloc_heap_new w1 (.cells #[.int .i64 1] 3)
  have a2 := (Below.refl w1.heap.size w1).alloc (Nat.le_refl _) (.cells #[.int .i64 1] 3)
  refine (xcnZ (tk s [2, 1]) [1] b B _ _ (h1.kept a2) (xbgZ 1 1 q2 rfl (by unfold maxLen; simp)) (xazZ _ _ _) l1 (by simp) (Nat.le_trans z1 a2.size) hBb).mono ?_
  rintro e w2 ⟨rfl, h2, b2⟩
  have z2 : B ≤ w2.heap.size := Nat.le_trans (Nat.le_trans z1 a2.size) b2.size
  have c2 := (a2.mono z1).trans b2
  have B2 := B1.trans c2
  clear q2 a2
  go_wp2
  go_end0
  exact ⟨rfl, h2, B2⟩
theorem do16_any (s : St) (b B : Nat) (w : World) (h : SA w b B s) (hl : s.1.length ≤ 100) (hB : B ≤ w.heap.size) (hBb : B ≤ b) : Calls Tryz.prog 213 #[.pointer (some ⟨b, 0, none⟩), .int .i64 16] w fun e w' => e = .returned (.tuple #[]) ∧ SA w' b B (tk s [2, 1, 1]) ∧ Below B w w' := by
  go_enter Tryz.func213, Tryz.ntmps213
  go_wp2_with fail
  have q1 := World.alloc_heap_new w (.cells #[.int .i64 2, .int .i64 1, .int .i64 1] 3)
  have a1 := (Below.refl w.heap.size w).alloc (Nat.le_refl _) (.cells #[.int .i64 2, .int .i64 1, .int .i64 1] 3)
  refine (xc4Z s [2, 1, 1] b B _ _ (h.kept a1) (xbgZ 3 3 q1 rfl (by unfold maxLen; simp)) hl (by simp) (Nat.le_trans hB a1.size) hBb).mono ?_
  rintro e w1 ⟨rfl, h1, b1⟩
  have l1 : (tk s [2, 1, 1]).1.length ≤ 100 := Nat.le_trans (xerZ _ _) hl
  have z1 : B ≤ w1.heap.size := Nat.le_trans (Nat.le_trans hB a1.size) b1.size
  have c1 := (a1.mono hB).trans b1
  have B1 := c1
  clear q1 a1
  go_wp2
  go_end0
  exact ⟨rfl, h1, B1⟩
theorem do17_any (s : St) (b B : Nat) (w : World) (h : SA w b B s) (hl : s.1.length ≤ 100) (hB : B ≤ w.heap.size) (hBb : B ≤ b) : Calls Tryz.prog 213 #[.pointer (some ⟨b, 0, none⟩), .int .i64 17] w fun e w' => e = .returned (.tuple #[]) ∧ SA w' b B (lv (tk s [2]) [1]) ∧ Below B w w' := by
  go_enter Tryz.func213, Tryz.ntmps213
  go_wp2_with fail
  have q1 := World.alloc_heap_new w (.cells #[.int .i64 2] 3)
  have a1 := (Below.refl w.heap.size w).alloc (Nat.le_refl _) (.cells #[.int .i64 2] 3)
  refine (xc4Z s [2] b B _ _ (h.kept a1) (xbgZ 1 1 q1 rfl (by unfold maxLen; simp)) hl (by simp) (Nat.le_trans hB a1.size) hBb).mono ?_
  rintro e w1 ⟨rfl, h1, b1⟩
  have l1 : (tk s [2]).1.length ≤ 100 := Nat.le_trans (xerZ _ _) hl
  have z1 : B ≤ w1.heap.size := Nat.le_trans (Nat.le_trans hB a1.size) b1.size
  have c1 := (a1.mono hB).trans b1
  have B1 := c1
  clear q1 a1
  go_wp2_with fail
  have q2 := World.alloc_heap_new w1 (.cells #[.int .i64 1] 3)
  have a2 := (Below.refl w1.heap.size w1).alloc (Nat.le_refl _) (.cells #[.int .i64 1] 3)
  refine (xcnZ (tk s [2]) [1] b B _ _ (h1.kept a2) (xbgZ 1 1 q2 rfl (by unfold maxLen; simp)) (xazZ _ _ _) l1 (by simp) (Nat.le_trans z1 a2.size) hBb).mono ?_
  rintro e w2 ⟨rfl, h2, b2⟩
  have z2 : B ≤ w2.heap.size := Nat.le_trans (Nat.le_trans z1 a2.size) b2.size
  have c2 := (a2.mono z1).trans b2
  have B2 := B1.trans c2
  clear q2 a2
  go_wp2
  go_end0
  exact ⟨rfl, h2, B2⟩
theorem do19_any (s : St) (b B : Nat) (w : World) (h : SA w b B s) (hl : s.1.length ≤ 100) (hB : B ≤ w.heap.size) (hBb : B ≤ b) : Calls Tryz.prog 213 #[.pointer (some ⟨b, 0, none⟩), .int .i64 19] w fun e w' => e = .returned (.tuple #[]) ∧ SA w' b B (lv (tk s [2]) [1]) ∧ Below B w w' := by
  go_enter Tryz.func213, Tryz.ntmps213
  go_wp2_with fail
  have q1 := World.alloc_heap_new w (.cells #[.int .i64 2] 3)
  have a1 := (Below.refl w.heap.size w).alloc (Nat.le_refl _) (.cells #[.int .i64 2] 3)
  refine (xc4Z s [2] b B _ _ (h.kept a1) (xbgZ 1 1 q1 rfl (by unfold maxLen; simp)) hl (by simp) (Nat.le_trans hB a1.size) hBb).mono ?_
  rintro e w1 ⟨rfl, h1, b1⟩
  have l1 : (tk s [2]).1.length ≤ 100 := Nat.le_trans (xerZ _ _) hl
  have z1 : B ≤ w1.heap.size := Nat.le_trans (Nat.le_trans hB a1.size) b1.size
  have c1 := (a1.mono hB).trans b1
  have B1 := c1
  clear q1 a1
  go_wp2_with fail
  have q2 := World.alloc_heap_new w1 (.cells #[.int .i64 1] 3)
  have a2 := (Below.refl w1.heap.size w1).alloc (Nat.le_refl _) (.cells #[.int .i64 1] 3)
  refine (xcnZ (tk s [2]) [1] b B _ _ (h1.kept a2) (xbgZ 1 1 q2 rfl (by unfold maxLen; simp)) (xazZ _ _ _) l1 (by simp) (Nat.le_trans z1 a2.size) hBb).mono ?_
  rintro e w2 ⟨rfl, h2, b2⟩
  have z2 : B ≤ w2.heap.size := Nat.le_trans (Nat.le_trans z1 a2.size) b2.size
  have c2 := (a2.mono z1).trans b2
  have B2 := B1.trans c2
  clear q2 a2
  go_wp2
  go_end0
  exact ⟨rfl, h2, B2⟩
theorem do18_any (s : St) (b B : Nat) (w : World) (h : SA w b B s) (hl : s.1.length ≤ 100) (hB : B ≤ w.heap.size) (hBb : B ≤ b) : Calls Tryz.prog 213 #[.pointer (some ⟨b, 0, none⟩), .int .i64 18] w fun e w' => e = .returned (.tuple #[]) ∧ SA w' b B (lv s [3]) ∧ Below B w w' := by
  go_enter Tryz.func213, Tryz.ntmps213
  go_wp2_with fail
  have q1 := World.alloc_heap_new w (.cells #[.int .i64 3] 3)
  have a1 := (Below.refl w.heap.size w).alloc (Nat.le_refl _) (.cells #[.int .i64 3] 3)
  refine (xcnZ s [3] b B _ _ (h.kept a1) (xbgZ 1 1 q1 rfl (by unfold maxLen; simp)) (xazZ _ _ _) hl (by simp) (Nat.le_trans hB a1.size) hBb).mono ?_
  rintro e w1 ⟨rfl, h1, b1⟩
  have z1 : B ≤ w1.heap.size := Nat.le_trans (Nat.le_trans hB a1.size) b1.size
  have c1 := (a1.mono hB).trans b1
  have B1 := c1
  clear q1 a1
  go_wp2
  go_end0
  exact ⟨rfl, h1, B1⟩
theorem do10_any (s : St) (b B : Nat) (w : World) (h : SA w b B s) (hl : s.1.length ≤ 100) (hB : B ≤ w.heap.size) (hBb : B ≤ b) : Calls Tryz.prog 213 #[.pointer (some ⟨b, 0, none⟩), .int .i64 10] w fun e w' => e = .returned (.tuple #[]) ∧ SA w' b B (s) ∧ Below B w w' := by
  go_enter Tryz.func213, Tryz.ntmps213
  go_wp2
  go_end0
  exact ⟨rfl, h, Below.refl _ _⟩
def doS (s : St) (c : Int) : St := if (xasZ c).2 = [] then tk s (xasZ c).1 else lv (tk s (xasZ c).1) (xasZ c).2
theorem do_any (c : Int) (hc : 1 ≤ c ∧ c ≤ 21) (hne : c ≠ 2 ∧ c ≠ 3 ∧ c ≠ 4 ∧ c ≠ 8 ∧ c ≠ 9 ∧ c ≠ 12 ∧ c ≠ 13) (s : St) (b B : Nat) (w : World) (h : SA w b B s) (hl : s.1.length ≤ 100) (hB : B ≤ w.heap.size) (hBb : B ≤ b) : Calls Tryz.prog 213 #[.pointer (some ⟨b, 0, none⟩), .int .i64 c] w fun e w' => e = .returned (.tuple #[]) ∧ SA w' b B (doS s c) ∧ Below B w w' := by
  have hall : c = 1 ∨ c = 5 ∨ c = 6 ∨ c = 7 ∨ c = 10 ∨ c = 11 ∨ c = 14 ∨ c = 15 ∨ c = 16 ∨ c = 17 ∨ c = 18 ∨ c = 19 ∨ c = 20 ∨ c = 21 := by omega
  rcases hall with rfl | rfl | rfl | rfl | rfl | rfl | rfl | rfl | rfl | rfl | rfl | rfl | rfl | rfl
  · exact do1_any s b B w h hl hB hBb
  · exact do5_any s b B w h hl hB hBb
  · exact do6_any s b B w h hl hB hBb
  · exact do7_any s b B w h hl hB hBb
  · exact do10_any s b B w h hl hB hBb
  · exact do11_any s b B w h hl hB hBb
  · exact do14_any s b B w h hl hB hBb
  · exact do15_any s b B w h hl hB hBb
  · exact do16_any s b B w h hl hB hBb
  · exact do17_any s b B w h hl hB hBb
  · exact do18_any s b B w h hl hB hBb
  · exact do19_any s b B w h hl hB hBb
  · exact do20_any s b B w h hl hB hBb
  · exact do21_any s b B w h hl hB hBb
end Go.Proofs.YtmjjkenblfndgaaGreat


/- verify's stack: call; verify.behind. -/
namespace Go.Proofs.YtmjjkenblfndgaaGreat
open Go.RowKit
set_option linter.unusedSimpArgs false
set_option linter.unusedVariables false
theorem ints_take {w : World} {p : Option Addr} {q k : Nat} {L : List Int} (h : IntsAt w (.slice p L.length q) L) (hk : k ≤ L.length) : IntsAt w (.slice p k q) (L.take k) := by
  obtain ⟨p', q', he, hm, hc⟩ := h
  cases he
  refine ⟨p, q, by rw [List.length_take, Nat.min_eq_left hk], by rw [List.length_take]; omega, fun j z hj => ?_⟩
  have hj2 : j < k := by have := xaeZ hj; rw [List.length_take] at this; omega
  rw [List.getElem?_take_of_lt hj2] at hj
  exact hc j z hj
theorem call_any (g : Fn) (c0 c1 c2 c3 : Value) (s : St) (b B : Nat) (w : World) (h : SA w b B s) (hl : s.1.length ≤ 100) (hB : B ≤ w.heap.size) (hBb : B ≤ b) (hg : FnAt w c0 c1 c2 c3 g) (hP : 0 ≤ g.1 ∧ g.1 ≤ (g.2.1.length : Int)) (h6 : g.2.1.length ≤ 6) (hcap : ∀ p n c, c1 = .slice p n c → n ≤ c) : Calls Tryz.prog 211 #[.pointer (some ⟨b, 0, none⟩), .agg #[c0, c1, c2, c3]] w fun e w' => e = .returned (.tuple #[]) ∧ SA w' b B (lv (tk s (g.2.1.take g.1.toNat)) (resL g)) ∧ Below B w w' := by
  obtain ⟨P, L, r, C⟩ := g
  have hg' := hg
  obtain ⟨rfl, hI, rfl, hO⟩ := hg'
  simp only at hP h6 hI hO
  obtain ⟨p1, q1, rfl, _, _⟩ := id hI
  obtain ⟨p3, q3, rfl, _, _⟩ := id hO
  obtain ⟨k, rfl⟩ : ∃ k : Nat, P = k := ⟨P.toNat, by omega⟩
  have hk : k ≤ L.length := by omega
  have hq1 : k ≤ q1 := by have := hcap _ _ _ rfl; omega
  obtain ⟨W1, hW1⟩ : ∃ W1, w.alloc (.cells #[.int .i64 k, .slice p1 L.length q1, .int .i64 r, .slice p3 C.length q3] 119) = W1 := ⟨_, rfl⟩
  have hw1 : Below w.heap.size w W1 := by rw [← hW1]; exact (Below.refl _ w).alloc (Nat.le_refl _) _
  have hh : W1.heap[w.heap.size]? = some (.cells #[.int .i64 k, .slice p1 L.length q1, .int .i64 r, .slice p3 C.length q3] 119 (0, 0)) := by rw [← hW1]; exact World.alloc_heap_new w _
  have d0 := xaaZ hh 0
  have d1 := xaaZ hh 1
  have d2 := xaaZ hh 2
  have d3 := xaaZ hh 3
  simp at d0 d1 d2 d3
  have hz := xacZ hh
  have HI1 := hideP (ints_take (hI.below hw1) hk)
  have HS1 := hideP (h.kept hw1)
  have HG1 := hideP (hg.below hw1)
  have hB1 : B ≤ W1.heap.size := Nat.le_trans hB hw1.size
  have hlt : (L.take k).length ≤ 100 := by rw [List.length_take]; omega
  have HH := hideP hh
  have e0 : ((k : Nat) : Int).toNat = k := by omega
  simp only [e0]
  have hblt := StAt.lt h
  clear h hg hI hO hh e0 hP hcap
  go_enter Tryz.func211, Tryz.ntmps211
  have hbl : b < w.heap.size := hblt
  go_wp2_with fail
  have hlen : (L.take k).length = k := by rw [List.length_take, Nat.min_eq_left hk]
  have hI1 := HI1.out
  rw [← hlen] at hI1
  have htk := xm5Z s.1 (L.take k) s.2 b B p1 q1 W1 HS1.out (by rw [hlen]; rw [hlen] at hI1; exact hI1) hB1 hBb hl hlt
  rw [hlen] at htk
  have HTK := hideP htk
  clear hI1 htk
  refine HTK.out.mono ?_
  rintro e w2 ⟨rfl, hs2, hg2⟩
  have hS2 : SA w2 b B (tk s (L.take k)) := by
    have := hs2
    rw [← hlen] at this
    unfold SA tk
    rw [hlen] at this ⊢
    exact this
  have hl2 := Nat.le_trans (xerZ s (L.take k)) hl
  have hB2 : B ≤ w2.heap.size := Nat.le_trans hB1 hg2.size
  have hne : (some w.heap.size : Option Nat) ≠ some b := fun e => by have e2 : w.heap.size = b := (by simpa using e); omega
  have g0 := hg2.cell d0 hne
  have g1 := hg2.cell d1 hne
  have g2 := hg2.cell d2 hne
  have g3 := hg2.cell d3 hne
  have hBel2 : Below B W1 w2 := (Below.refl B W1).grown hg2 hB1 (fun k hk => by cases hk; exact hBb)
  clear hs2
  go_wp2_with fail
  refine (xllZ k r p1 p3 L.length q1 C.length q3 w2).mono ?_
  rintro e w3 ⟨u, rfl, hr3, hb3⟩
  have hR3 : w3.ownsRow w2.heap.size 3 1 u (resL (k, L, r, C)).length ((resL (k, L, r, C)).map (Value.int .i64)) := hr3
  have hrl : (resL ((k : Int), L, r, C)).length ≤ 100 := by unfold resL; split <;> simp
  have HR3 := hideP (xbyZ rfl hR3)
  have HN3 := hideP (xd0Z hR3)
  have hS3 := hS2.kept hb3
  have hB3 : B ≤ w3.heap.size := Nat.le_trans hB2 hb3.size
  clear hr3 hR3
  go_wp2_with fail
  refine (xcnZ _ _ b B u w3 hS3 HR3.out HN3.out hl2 hrl hB3 hBb).mono ?_
  rintro e w4 ⟨rfl, hs4, hb4⟩
  go_wp2
  go_end0
  exact ⟨rfl, hs4, (hw1.mono hB).trans (hBel2.trans ((hb3.mono hB2).trans hb4))⟩
end Go.Proofs.YtmjjkenblfndgaaGreat


