/-
  Contract of tree.Long.
-/
import Derived.Test.YtccmnngeibpcmaaGreatRR
namespace Go.Proofs.YtccmnngeibpcmaaGreat.Tree
open Go.ChangeShapes Go.WideShapes Go.ChangeAt Go.RowKit
set_option linter.unusedVariables false
set_option linter.unusedSimpArgs false
attribute [local go_sem] Oper.semAt_some
def loK (f : Sp → Int) (L : List (Sp × Value)) (k : Nat) : Int := (((posL L 0).take k).map (fun x => within (f x.2.1))).sum
theorem loK_zero (f : Sp → Int) (L : List (Sp × Value)) : loK f L 0 = 0 := by simp [loK]
theorem loK_succ (f : Sp → Int) {L : List (Sp × Value)} {k : Nat} {x : Nat × (Sp × Value)} (h : (posL L 0)[k]? = some x) : loK f L (k + 1) = loK f L k + within (f x.2.1) := by
  simp [loK, List.take_add_one, h]
theorem sum_bd (l : List Int) (h : ∀ x ∈ l, 0 ≤ x ∧ x ≤ 1099511627776) : 0 ≤ l.sum ∧ l.sum ≤ l.length * 1099511627776 := by
  induction l with
  | nil => simp
  | cons x r ih =>
    have h1 := h x List.mem_cons_self
    have h2 := ih (fun y hy => h y (List.mem_cons_of_mem _ hy))
    rw [List.sum_cons, List.length_cons]; push_cast; omega
theorem loK_bd (f : Sp → Int) (L : List (Sp × Value)) (k : Nat) : 0 ≤ loK f L k ∧ loK f L k ≤ k * 1099511627776 := by
  have h := sum_bd (((posL L 0).take k).map (fun x => within (f x.2.1))) (fun x hx => by
    obtain ⟨y, -, rfl⟩ := List.mem_map.1 hx
    exact within_bd _)
  unfold loK
  refine ⟨h.1, Int.le_trans h.2 ?_⟩
  rw [List.length_map, List.length_take]
  omega
theorem loK_least (L : List (Sp × Value)) : loK (·.min) L (posL L 0).length = leastP (L.map (·.1)) := by
  unfold loK leastP
  rw [List.take_length]
  exact posL_sum (fun s => within s.min) L 0
theorem loK_most (L : List (Sp × Value)) : loK (·.max) L (posL L 0).length = mostP (L.map (·.1)) := by
  unfold loK mostP
  rw [List.take_length]
  exact posL_sum (fun s => within s.max) L 0
/-- What Long has behind k positive steps. -/
def LgIn (w : World) (L : List (Sp × Value)) (cs : Array Value) (k : Nat) (W : World) : Prop :=
  Boxed W (w.heap.size + 1) 3 (.int .i64 (loK (·.min) L k)) ∧ Boxed W (w.heap.size + 2) 3 (.int .i64 (loK (·.max) L k)) ∧ W.heap[w.heap.size + 3]? = some (.cells cs 24 (0, 0)) ∧ Below w.heap.size w W
theorem LgIn.own (w : World) (L : List (Sp × Value)) (cs : Array Value) (B : Nat) (hB : w.heap.size ≤ B) : OwnFrom B (LgIn w L cs) := by
  rintro k X Y row ⟨h1, h2, h3, h4⟩ hg hrow
  exact ⟨ownFrom_block _ (fun _ : Unit => #[.int .i64 (loK (·.min) L k)]) 3 B () X Y row h1 hg hrow, ownFrom_block _ (fun _ : Unit => #[.int .i64 (loK (·.max) L k)]) 3 B () X Y row h2 hg hrow, ownFrom_block _ (fun _ : Unit => cs) 24 B () X Y row h3 hg hrow, ownFrom_below (Nat.le_refl _) hB k X Y row h4 hg hrow⟩
theorem LgIn.made (w : World) (L : List (Sp × Value)) (ca cs : Array Value) : LgIn w L cs 0 ((((w.alloc (.cells ca 24)).alloc (.cells #[.int .i64 0] 3)).alloc (.cells #[.int .i64 0] 3)).alloc (.cells cs 24)) := by
  unfold LgIn
  rw [loK_zero, loK_zero]
  refine ⟨?_, ?_, ?_, (((((Below.refl _ w).alloc (Nat.le_refl _) _).alloc (by simp) _).alloc (by simp; omega) _).alloc (by simp; omega) _)⟩
  · have := ((Boxed.new (w.alloc (.cells ca 24)) 3 (.int .i64 0)).alloc (.cells #[.int .i64 0] 3)).alloc (.cells cs 24)
    simpa using this
  · have := (Boxed.new ((w.alloc (.cells ca 24)).alloc (.cells #[.int .i64 0] 3)) 3 (.int .i64 0)).alloc (.cells cs 24)
    simpa using this
  · have := World.alloc_heap_new (((w.alloc (.cells ca 24)).alloc (.cells #[.int .i64 0] 3)).alloc (.cells #[.int .i64 0] 3)) (.cells cs 24)
    simpa using this
theorem block_far {W : World} {B D : Nat} {o : Option Obj} (h : W.heap[B]? = o) (hne : B ≠ D) (k : Nat) (u : Value) : (W.setCell ⟨D, k, none⟩ u).heap[B]? = o := (Below.heap_setCell W ⟨D, k, none⟩ u B hne).trans h
/-- Both sums set. -/
theorem LgIn.next {w W : World} {L : List (Sp × Value)} {cs : Array Value} {k : Nat} {x : Nat × (Sp × Value)} (h : LgIn w L cs k W) (hx : (posL L 0)[k]? = some x) (B : Nat) :
    (fun W2 : World => KeepsFrom B W W2 ∧ KeepsT 45 W W2 ∧ LgIn w L cs (k + 1) W2) ((W.setCell ⟨w.heap.size + 1, 0, none⟩ (.int .i64 (loK (·.min) L k + within x.2.1.min))).setCell ⟨w.heap.size + 2, 0, none⟩ (.int .i64 (loK (·.max) L k + within x.2.1.max))) := by
  obtain ⟨h1, h2, h3, h4⟩ := h
  have e1 := loK_succ (·.min) hx
  have e2 := loK_succ (·.max) hx
  have k1 := boxed_far h2 (show w.heap.size + 2 ≠ w.heap.size + 1 by omega) 0 (.int .i64 (loK (·.min) L k + within x.2.1.min))
  refine ⟨((KeepsOthers.setCell _ _ _).trans (KeepsOthers.setCell _ _ _)).from _, (KeepsT.setCell _ h1 (by decide)).trans (KeepsT.setCell _ k1 (by decide)), ?_, ?_, ?_, ?_⟩
  · rw [e1]; exact boxed_far (h1.set _) (by omega) _ _
  · rw [e2]; exact k1.set _
  · exact block_far (block_far h3 (by omega) _ _) (by omega) _ _
  · exact (h4.setCell (by simp) _).setCell (by simp) _
set_option maxRecDepth 100000 in
set_option maxHeartbeats 1000000 in
theorem long_L (a : Option Addr) (n c : Nat) (win : Int) (L : List (Sp × Value)) (hn : n ≤ 1000000) (w : World) (hl : L.length = n) (h : SpsL w (.slice a n c) L) :
    Calls Tryz.prog 73 #[ptV (.slice a n c) win] w fun e w' => e = .returned (.tuple #[.int .i64 (leastP (L.map (·.1))), .int .i64 (mostP (L.map (·.1)))]) ∧ Below w.heap.size w w' := by
  rw [← loK_least, ← loK_most]
  refine (callsIn_wide (n := 9)).1 ?_
  refine callsIn_of_wp_marks Tryz.func73 rfl trivial ?_ rfl
  rw [wpIn_wide]
  simp only [Tryz.ntmps73, List.size_toArray, List.length_cons, List.length_nil, Nat.reduceAdd, Nat.reduceSub, Array.replicate_succ, Array.replicate_zero, List.push_toArray, List.append_toArray, List.nil_append, List.cons_append]
  go_wp2_with ((with_reducible refine (positiveOf_any _ _ _ _ _).mono ?_); rintro e w' ⟨rfl, rfl⟩)
  have hI0 := LgIn.made w L #[.slice a n c, .int .i64 win] #[.slice a n c, .int .i64 win]
  have hle := spsL_fst_len hl
  refine (wpIn_wide (n := 9)).1 ?_
  generalize hW0 : ((((w.alloc (.cells #[.slice a n c, .int .i64 win] 24)).alloc (.cells #[.int .i64 0] 3)).alloc (.cells #[.int .i64 0] 3)).alloc (.cells #[.slice a n c, .int .i64 win] 24)) = W0 at *
  have hs0 : W0.heap.size = w.heap.size + 4 := by rw [← hW0]; simp
  clear hW0
  have hnp : n ≤ 140737488351232 := by omega
  refine wpIn_rangeFunc_rowT rfl (by omega) (gf := 85) (lb := #[.pointer (some ⟨w.heap.size + 3, 0, none⟩)]) rfl trivial (enters_of Tryz.func85 (by kernel_rfl) rfl)
    (pos_tells 8 (w.heap.size + 3) (by omega) a n c win L hnp W0) (Below.refl _ _) (fun k hk => posRow_size hk)
    (LgIn w L #[.slice a n c, .int .i64 win]) (fun _ _ => False) (LgIn.own w _ _ _ (by omega)) (fun _ _ _ _ hs _ _ => hs) (fun k W h' => ⟨h'.2.2.1, hl, h.later h'.2.2.2⟩) (fun _ _ h => trivial)
    hI0
    (fun k a' W => ∃ (x : Nat) (s : Sp) (a2 : Option Addr) (m c2 p : Nat) (u : Value), (posL L 0)[k]? = some (x, s, .slice a2 m c2) ∧ SpBox p s (.slice a2 m c2) W ∧ w.heap.size + 3 < p ∧
      a' = { tmps := #[ptV (.slice a n c) win, .pointer (some ⟨w.heap.size, 0, none⟩), .pointer (some ⟨w.heap.size + 1, 0, none⟩), .pointer (some ⟨w.heap.size + 2, 0, none⟩), undef, .pointer (some ⟨p, 0, none⟩), ptV (.slice a n c) win, .func (.func 85) #[] #[.pointer (some ⟨w.heap.size + 3, 0, none⟩)], u, spV s (.slice a2 m c2), undef, undef, undef, undef, undef, undef, undef, undef, undef, undef], defers := [] })
    ?ax ?assign ?body ?done ?stop
  case ax =>
    rintro k a' ⟨⟩ X Y row ⟨x, s, a2, m, c2, p, u, h1, h2, h3, h4⟩ hg hrow
    exact ⟨x, s, a2, m, c2, p, u, h1, ownFrom_block p (fun _ : Unit => _) 45 _ () X Y row h2 hg hrow, h3, h4⟩
  case assign =>
    intro l k W K hk hI hK
    rw [posRow_len] at hk
    obtain ⟨⟨x, s, v⟩, hx⟩ : ∃ x, (posL L 0)[k]? = some x := ⟨_, List.getElem?_eq_getElem hk⟩
    obtain ⟨a2, m, c2, hv⟩ : ∃ a2 m c2, v = .slice a2 m c2 := by
      obtain ⟨a2, c2, e, -⟩ := h.2 (s, v) (posL_mem (List.mem_of_getElem? hx))
      exact ⟨_, _, _, e⟩
    subst hv
    rw [posRow_at hx]
    unfold spV
    have hk1 := kept_new W (.cells #[.bool s.neg, .int .i64 s.kind, .int .i64 s.min, .int .i64 s.max, .bool s.strict, .slice a2 m c2] 45)
    have hI1 : LgIn w L #[.slice a n c, .int .i64 win] k (W.alloc (.cells #[.bool s.neg, .int .i64 s.kind, .int .i64 s.min, .int .i64 s.max, .bool s.strict, .slice a2 m c2] 45)) := (LgIn.own w L _ w.heap.size (Nat.le_refl _)).alloc _ hI
    have hsp := SpBox.new W s (.slice a2 m c2)
    have hlt := (Array.getElem?_eq_some_iff.1 hI.2.2.1).1
    gi_wp2
    exact hK _ _ (keeps_of_below hk1) (KeepsT.of_below hk1) hI1 ⟨x, s, a2, m, c2, _, _, hx, hsp, hlt, rfl⟩
  case body =>
    rintro l k a' W hk hI ⟨x, s, a2, m, c2, p, u, hx, hsp, hp, rfl⟩
    rw [posRow_len] at hk
    have hN := LgIn.next hI hx W0.heap.size
    obtain ⟨h1, h2, h3, h4⟩ := hI
    obtain ⟨q0, q1, q2, q3, q4, q5⟩ := hsp.cells
    have b1 := loK_bd (·.min) L k
    have b2 := loK_bd (·.max) L k
    have hki : (k : Int) ≤ 1000000 := by omega
    dsimp only at hN b1 b2 h1 h2
    have hne1 : w.heap.size + 1 ≠ p := by omega
    have hne2 : w.heap.size + 2 ≠ p := by omega
    have hsp1 : ∀ v, SpBox p s (.slice a2 m c2) (W.setCell ⟨w.heap.size + 1, 0, none⟩ v) := fun v => block_far hsp (by omega) _ _
    have c1 := h1.cell
    have f1 := h1.frozen
    clear hx hk h
    generalize loK (·.min) L k = lo at *
    generalize loK (·.max) L k = hi at *
    have hh2 := boxed_far h2 (show w.heap.size + 2 ≠ w.heap.size + 1 by omega) 0 (.int .i64 (lo + within s.min))
    obtain ⟨y0, y1, y2, y3, y4, y5⟩ := (hsp1 (.int .i64 (lo + within s.min))).cells
    have g2 := hh2.cell
    have f2 := hh2.frozen
    gi_wp2_with fail
    refine ⟨trivial, ((callsIn_wide (n := 6)).2 (longer_any lo s.min _ b1.1 (by omega))).mono ?_⟩
    rintro e w6 ⟨rfl, rfl⟩
    gi_wp2_with fail
    refine ⟨trivial, ((callsIn_wide (n := 6)).2 (longer_any hi s.max _ b2.1 (by omega))).mono ?_⟩
    rintro e w6 ⟨rfl, rfl⟩
    gi_wp2
    exact hN
  case done =>
    rintro D W hD ⟨h1, h2, h3, h4⟩ hK
    rw [posRow_len] at h1 h2
    have hDw : w.heap.size ≤ D := by omega
    obtain ⟨lo, hlo⟩ : ∃ lo, loK (·.min) L (posL L 0).length = lo := ⟨_, rfl⟩
    obtain ⟨hi, hhi⟩ : ∃ hi, loK (·.max) L (posL L 0).length = hi := ⟨_, rfl⟩
    rw [hlo] at h1
    rw [hhi] at h2
    replace hlo := Lib.hid hlo
    replace hhi := Lib.hid hhi
    have c1 := h1.cell
    have f1 := h1.frozen
    have c2 := h2.cell
    have f2 := h2.frozen
    have hh2 := boxed_far h2 (show w.heap.size + 2 ≠ w.heap.size + 1 by omega) 0 (.int .i64 lo)
    have g2 := hh2.cell
    have e2 := hh2.frozen
    have hk2 := hh2.set (.int .i64 hi)
    have hk1 := boxed_far (h1.set (.int .i64 lo)) (show w.heap.size + 1 ≠ w.heap.size + 2 by omega) 0 (.int .i64 hi)
    have d1 : D ≠ w.heap.size + 1 := by rintro rfl; rw [show W.heap[w.heap.size + 1]? = _ from h1] at hK; cases hK
    have d2 : D ≠ w.heap.size + 2 := by rintro rfl; rw [show W.heap[w.heap.size + 2]? = _ from h2] at hK; cases hK
    have hKK := block_far (block_far hK d1 0 (.int .i64 lo)) d2 0 (.int .i64 hi)
    have hBB := (h4.setCell (p := ⟨w.heap.size + 1, 0, none⟩) (by simp) (.int .i64 lo)).setCell (p := ⟨w.heap.size + 2, 0, none⟩) (by simp) (.int .i64 hi)
    go_wp2
    go_region
    go_wp2
    generalize (W.setCell ⟨w.heap.size + 1, 0, none⟩ (.int .i64 lo)).setCell ⟨w.heap.size + 2, 0, none⟩ (.int .i64 hi) = W2 at *
    replace hKK : W2.drew.heap[D]? = some (.deferred (some [])) := hKK
    have k1 : Boxed (W2.drew.putObj D (.deferred none)) (w.heap.size + 1) 3 (.int .i64 lo) := (World.putObj_heap_other (Ne.symm d1)).trans hk1
    have k2 : Boxed (W2.drew.putObj D (.deferred none)) (w.heap.size + 2) 3 (.int .i64 hi) := (World.putObj_heap_other (Ne.symm d2)).trans hk2
    replace k1 := k1.cell
    replace k2 := k2.cell
    refine ⟨by simp, .inl ⟨_, _, rfl, run_takeDeferred hKK, ?_⟩⟩
    refine ⟨.tuple #[.int .i64 lo, .int .i64 hi], by simp [results, Tryz.results73, go_sem, k1, k2], by rw [hlo.out, hhi.out], ?_⟩
    refine Below.trans ?_ (belowK_b (w := w) (Nat.le_refl _) W2.drew D _ (.deferred none) hDw hKK rfl rfl)
    exact ⟨hBB.os, hBB.tape, hBB.output, hBB.size, hBB.block⟩
  case stop =>
    rintro D c W _ h _
    exact h.elim
end Go.Proofs.YtccmnngeibpcmaaGreat.Tree
