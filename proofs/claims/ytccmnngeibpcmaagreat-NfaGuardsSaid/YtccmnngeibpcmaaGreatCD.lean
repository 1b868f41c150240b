/-
  Contracts of lastPositive, Tail, Head.
-/
import Derived.Test.YtccmnngeibpcmaaGreatCC
namespace Go.Proofs.YtccmnngeibpcmaaGreat.Tree
open Go.ChangeShapes Go.WideShapes Go.ChangeAt Go.RowKit
set_option linter.unusedVariables false
set_option linter.unusedSimpArgs false
attribute [local go_sem] Oper.semAt_some
/-- The last positive step below k. -/
def lastU (ss : List Sp) : Nat → Int
  | 0 => -1
  | k + 1 => if (stepA ss k).neg then lastU ss k else k
theorem lastU_bd (ss : List Sp) (k : Nat) : -1 ≤ lastU ss k ∧ lastU ss k < k := by
  induction k with
  | zero => simp [lastU]
  | succ k ih => unfold lastU; split <;> omega
theorem lastU_down {ss : List Sp} {k n : Nat} (hk : k ≤ n) (h : ∀ i, k ≤ i → i < n → (stepA ss i).neg = true) : lastU ss n = lastU ss k := by
  induction n with
  | zero => obtain rfl : k = 0 := by omega
            rfl
  | succ n ih =>
    by_cases e : k = n + 1
    · rw [e]
    · unfold lastU
      rw [if_pos (h n (by omega) (by omega)), ih (by omega) (fun i h1 h2 => h i h1 (by omega))]
      cases k with
      | zero => rfl
      | succ k => rfl
theorem lastU_at {ss : List Sp} {k : Nat} (h : (stepA ss k).neg = false) : lastU ss (k + 1) = k := by simp [lastU, h]
theorem lastU_take {ss : List Sp} {n k : Nat} (h : k ≤ n) : lastU (ss.take n) k = lastU ss k := by
  induction k with
  | zero => rfl
  | succ k ih =>
    have e : stepA (ss.take n) k = stepA ss k := by unfold stepA; rw [List.getElem?_take_of_lt (by omega)]
    unfold lastU
    rw [e, ih (by omega)]
/-- What lastPositive has behind k steps. -/
def LpIn (w : World) (a : Option Addr) (n c : Nat) (L : List (Sp × Value)) (k : Nat) (W : World) : Prop :=
  Boxed W w.heap.size 3 (.int .i64 0) ∧ W.heap[w.heap.size + 1]? = some (.cells #[.slice a n c] 22 (0, 0)) ∧ Below w.heap.size w W ∧ ∀ i, n ≤ i + k → i < n → (stepA (L.map (·.1)) i).neg = true
theorem LpIn.own (w : World) (a : Option Addr) (n c : Nat) (L : List (Sp × Value)) (B : Nat) (hB : w.heap.size ≤ B) : OwnFrom B (LpIn w a n c L) := by
  rintro k X Y row ⟨h1, h2, h3, h4⟩ hg hrow
  exact ⟨ownFrom_block _ (fun _ : Unit => #[.int .i64 0]) 3 B () X Y row h1 hg hrow, ownFrom_block _ (fun _ : Unit => #[.slice a n c]) 22 B () X Y row h2 hg hrow, ownFrom_below (Nat.le_refl _) hB k X Y row h3 hg hrow, h4⟩
def LpOut (w : World) (r : Int) (c : Code) (W : World) : Prop := c = .ret ∧ Boxed W w.heap.size 3 (.int .i64 r) ∧ Below w.heap.size w W
theorem LpOut.own (w : World) (r : Int) (B : Nat) (hB : w.heap.size ≤ B) : OwnFrom B (LpOut w r) := by
  rintro c X Y row ⟨h1, h2, h3⟩ hg hrow
  exact ⟨h1, ownFrom_block _ (fun _ : Unit => #[.int .i64 r]) 3 B () X Y row h2 hg hrow, ownFrom_below (Nat.le_refl _) hB c X Y row h3 hg hrow⟩
set_option maxRecDepth 100000 in
set_option maxHeartbeats 1000000 in
theorem last_L (a : Option Addr) (n c : Nat) (L : List (Sp × Value)) (hn : n ≤ 1000000) (w : World) (hl : L.length = n) (h : SpsL w (.slice a n c) L) :
    Calls Tryz.prog 64 #[.slice a n c] w fun e w' => e = .returned (.int .i64 (lastU (L.map (·.1)) n)) ∧ Below w.heap.size w w' := by
  obtain ⟨R, hR⟩ : ∃ R, lastU (L.map (·.1)) n = R := ⟨_, rfl⟩
  rw [hR]
  refine (callsIn_wide (n := 9)).1 ?_
  refine callsIn_of_wp_marks Tryz.func64 rfl trivial ?_ rfl
  rw [wpIn_wide]
  simp only [Tryz.ntmps64, List.size_toArray, List.length_cons, List.length_nil, Nat.reduceAdd, Nat.reduceSub, Array.replicate_succ, Array.replicate_zero, List.push_toArray, List.append_toArray, List.nil_append, List.cons_append]
  go_wp2_with ((with_reducible refine (back_any _ _ _ _).mono ?_); rintro e w' ⟨rfl, rfl⟩)
  have hI0 : LpIn w a n c L 0 ((w.alloc (.cells #[.int .i64 0] 3)).alloc (.cells #[.slice a n c] 22)) := by
    refine ⟨?_, ?_, ((Below.refl _ w).alloc (Nat.le_refl _) _).alloc (by simp) _, fun i h1 h2 => by omega⟩
    · have := (Boxed.new w 3 (.int .i64 0)).alloc (.cells #[.slice a n c] 22)
      simpa using this
    · have := World.alloc_heap_new (w.alloc (.cells #[.int .i64 0] 3)) (.cells #[.slice a n c] 22)
      simpa using this
  refine (wpIn_wide (n := 9)).1 ?_
  generalize hW0 : ((w.alloc (.cells #[.int .i64 0] 3)).alloc (.cells #[.slice a n c] 22)) = W0 at *
  have hs0 : W0.heap.size = w.heap.size + 2 := by rw [← hW0]; simp
  clear hW0
  have hnp : n ≤ 140737488351232 := by omega
  refine wpIn_rangeFunc_rowT rfl (by omega) (gf := 100) (lb := #[.pointer (some ⟨w.heap.size + 1, 0, none⟩)]) rfl trivial (enters_of Tryz.func100 (by kernel_rfl) rfl)
    (back_tells 8 (w.heap.size + 1) (by omega) a n c L hnp W0) (Below.refl _ _) (fun k hk => backRow_size hk)
    (LpIn w a n c L) (LpOut w R) (LpIn.own w _ _ _ _ _ (by omega)) (LpOut.own w _ _ (by omega)) (fun k W h' => ⟨h'.2.1, hl, h.later h'.2.2.1⟩) (fun _ _ h => trivial)
    hI0
    (fun k a' W => ∃ (i : Nat) (s : Sp) (v : Value) (p : Nat) (u5 u6 u7 u8 : Value), k + i + 1 = n ∧ L[i]? = some (s, v) ∧ SpBox p s v W ∧ w.heap.size + 1 < p ∧
      a' = { tmps := #[.slice a n c, undef, .pointer (some ⟨w.heap.size, 0, none⟩), .int .i64 i, .pointer (some ⟨p, 0, none⟩), u5, u6, u7, u8, undef, undef, undef, undef], defers := [] })
    ?ax ?assign ?body ?done ?stop
  case ax =>
    rintro k a' ⟨⟩ X Y row ⟨i, s, v, p, u5, u6, u7, u8, h1, h2, h3, h4, h5⟩ hg hrow
    exact ⟨i, s, v, p, u5, u6, u7, u8, h1, h2, ownFrom_block p (fun _ : Unit => _) 45 _ () X Y row h3 hg hrow, h4, h5⟩
  case assign =>
    intro l k W K hk hI hK
    rw [backRow_len, hl] at hk
    obtain ⟨i, hi⟩ : ∃ i, k + i + 1 = n := ⟨n - k - 1, by omega⟩
    obtain ⟨⟨s, v⟩, hx⟩ := sps_i (L := L) (i := i) (by omega)
    rw [backRow_at hx (by omega)]
    unfold spV
    have hk1 := kept_new W (.cells #[.bool s.neg, .int .i64 s.kind, .int .i64 s.min, .int .i64 s.max, .bool s.strict, v] 45)
    have hI1 : LpIn w a n c L k (W.alloc (.cells #[.bool s.neg, .int .i64 s.kind, .int .i64 s.min, .int .i64 s.max, .bool s.strict, v] 45)) := (LpIn.own w _ _ _ _ w.heap.size (Nat.le_refl _)).alloc _ hI
    have hsp := SpBox.new W s v
    have hlt := (Array.getElem?_eq_some_iff.1 hI.2.1).1
    obtain ⟨a2, c2, e2, -⟩ := h.2 _ (List.mem_of_getElem? hx)
    dsimp only at e2
    obtain ⟨m, hm⟩ : ∃ m, s.cs.length = m := ⟨_, rfl⟩
    rw [hm] at e2
    subst e2
    replace hx := Lib.hid hx
    clear hm
    gi_wp2
    exact hK _ _ (keeps_of_below hk1) (KeepsT.of_below hk1) hI1 ⟨i, s, _, _, _, _, _, _, hi, hx.out, hsp, hlt, rfl⟩
  case body =>
    rintro l k a' W hk hI ⟨i, s, v, p, u5, u6, u7, u8, hi, hx, hsp, hp, rfl⟩
    obtain ⟨h1, h2, h3, h4⟩ := hI
    obtain ⟨q0, q1, q2, q3, q4, q5⟩ := hsp.cells
    have hne : w.heap.size ≠ p := by omega
    have c1 := h1.cell
    have f1 := h1.frozen
    have hst := stepA_of (map_fst hx)
    cases hneg : s.neg with
    | true =>
      have hI' : LpIn w a n c L (k + 1) W := ⟨h1, h2, h3, fun j hj1 hj2 => by
        by_cases e : n ≤ j + k
        · exact h4 j e hj2
        · obtain rfl : j = i := by omega
          rw [hst]; exact hneg⟩
      rw [hneg] at q0
      clear hx hst h4 hneg hi hR
      gi_wp2
      exact ⟨KeepsFrom.refl _ _, KeepsT.refl _ _, hI'⟩
    | false =>
      have hRi : R = i := by
        rw [← hR, lastU_down (k := i + 1) (by omega) (fun j hj1 hj2 => h4 j (by omega) hj2)]
        exact lastU_at (by rw [hst]; exact hneg)
      rw [hneg] at q0
      have hb2 := h3.setCell (p := ⟨w.heap.size, 0, none⟩) (by simp) (.int .i64 i)
      have hk2 : KeepsFrom W0.heap.size W (W.setCell ⟨w.heap.size, 0, none⟩ (.int .i64 i)) := (KeepsOthers.setCell _ _ _).from _
      have hset := h1.set (.int .i64 (i : Int))
      clear hx hst h4 hneg hi hR
      gi_wp2
      exact ⟨hk2, rfl, by rw [hRi]; exact hset, hb2⟩
  case done =>
    rintro D W hD ⟨h1, h2, h3, h4⟩ hK
    rw [backRow_len, hl] at h4
    have hRi : R = -1 := by
      rw [← hR, lastU_down (k := 0) (by omega) (fun j hj1 hj2 => h4 j (by omega) hj2)]; rfl
    have hDw : w.heap.size ≤ D := by omega
    have d1 : D ≠ w.heap.size := by rintro rfl; rw [show W.heap[w.heap.size]? = _ from h1] at hK; cases hK
    have f1 := h1.frozen
    have c1 := h1.cell
    have hset := h1.set (.int .i64 (-1))
    have hKK := block_far hK d1 0 (.int .i64 (-1))
    have hb2 := h3.setCell (p := ⟨w.heap.size, 0, none⟩) (by simp) (.int .i64 (-1))
    clear h4 hR
    go_wp2
    generalize W.setCell ⟨w.heap.size, 0, none⟩ (.int .i64 (-1)) = W2 at *
    have k1 : Boxed (W2.putObj D (.deferred none)) w.heap.size 3 (.int .i64 (-1)) := (World.putObj_heap_other (Ne.symm d1)).trans hset
    replace k1 := k1.cell
    refine ⟨by simp, .inl ⟨_, _, rfl, run_takeDeferred hKK, ?_⟩⟩
    refine ⟨.int .i64 (-1), by simp [results, Tryz.results64, go_sem, k1], by rw [hRi], ?_⟩
    exact hb2.trans (belowK_b (w := w) (Nat.le_refl _) W2 D _ (.deferred none) hDw hKK rfl rfl)
  case stop =>
    rintro D c W hD ⟨rfl, h1, h3⟩ hK
    have hDw : w.heap.size ≤ D := by omega
    have d1 : D ≠ w.heap.size := by rintro rfl; rw [show W.heap[w.heap.size]? = _ from h1] at hK; cases hK
    gi_wp2
    have k1 : Boxed (W.putObj D (.deferred none)) w.heap.size 3 (.int .i64 R) := (World.putObj_heap_other (Ne.symm d1)).trans h1
    replace k1 := k1.cell
    refine ⟨by simp, .inl ⟨_, _, rfl, run_takeDeferred hK, ?_⟩⟩
    refine ⟨.int .i64 R, by simp [results, Tryz.results64, go_sem, k1], rfl, ?_⟩
    exact h3.trans (belowK_b (w := w) (Nat.le_refl _) W D _ (.deferred none) hDw hK rfl rfl)
theorem last_V {v : Value} {L : List (Sp × Value)} (hn : L.length ≤ 1000000) (w : World) (h : SpsL w v L) :
    Calls Tryz.prog 64 #[v] w fun e w' => e = .returned (.int .i64 (lastU (L.map (·.1)) L.length)) ∧ Below w.heap.size w w' := by
  obtain ⟨a, c, rfl⟩ := h.lit rfl
  exact last_L a _ c L hn w rfl h
/-- How many negative steps stand behind the last positive one. -/
def tailP (ss : List Sp) : Int := ss.length - 1 - lastU ss ss.length
theorem tail_any (a : Option Addr) (n c : Nat) (win : Int) (L : List (Sp × Value)) (hn : n ≤ 1000000) (w : World) (hl : L.length = n) (h : SpsL w (.slice a n c) L) :
    Calls Tryz.prog 49 #[ptV (.slice a n c) win] w fun e w' => e = .returned (.int .i64 (tailP (L.map (·.1)))) ∧ Below w.heap.size w w' := by
  have hb := Lib.hid (kept_new w (.cells #[.slice a n c, .int .i64 win] 24))
  have hA := last_L a n c L hn _ hl (h.later hb.out)
  have c0 := (PtBox.new w (.slice a n c) win).c0
  have hbd := lastU_bd (L.map (·.1)) n
  unfold tailP
  rw [List.length_map, hl]
  generalize lastU (L.map (·.1)) n = r at *
  replace hA := Lib.hid hA
  have hn2 : (n : Int) ≤ 1000000 := by omega
  obtain ⟨hb1, hb2⟩ := hbd
  clear h hl
  go_enter Tryz.func49, Tryz.ntmps49
  go_wp2_with ((with_reducible refine hA.out.mono ?_); rintro e w2 ⟨rfl, hb3⟩)
  go_ret
  exact ⟨rfl, kept_trans hb.out hb3⟩
/-- The last positive step ahead of the step i. -/
def headP (ss : List Sp) (i : Int) : Int := if 0 ≤ i ∧ i < ss.length then lastU ss i.toNat else -1
theorem SpsL.take {w : World} {a : Option Addr} {n c : Nat} {L : List (Sp × Value)} (h : SpsL w (.slice a n c) L) (hl : L.length = n) (k : Nat) (hk : k ≤ n) : SpsL w (.slice a k c) (L.take k) := by
  obtain ⟨⟨a', c', e, hc⟩, h2⟩ := h
  rw [hl] at e
  obtain ⟨rfl, rfl⟩ := slice_eq e
  refine ⟨⟨a, c, by rw [List.length_take, hl, Nat.min_eq_left hk], ?_⟩, fun x hx => h2 x (List.mem_of_mem_take hx)⟩
  rcases hc with hc | ⟨b, o, rfl, hc⟩
  · left
    have : L = [] := by
      cases L with
      | nil => rfl
      | cons x r => simp [spsCells] at hc
    subst this
    simp [spsCells]
  · right
    refine ⟨b, o, rfl, fun j u hj => hc j u ?_⟩
    have e : spsCells L = spsCells (L.take k) ++ spsCells (L.drop k) := by
      unfold spsCells
      rw [← List.flatMap_append, List.take_append_drop]
    rw [e, List.getElem?_append_left (List.getElem?_eq_some_iff.1 hj).1]
    exact hj
end Go.Proofs.YtccmnngeibpcmaaGreat.Tree
