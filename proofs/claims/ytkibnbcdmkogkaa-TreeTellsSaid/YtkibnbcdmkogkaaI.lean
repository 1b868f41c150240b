/-
  Contracts of tree.sameCmp, of slices.EqualFunc at comparisons, of tree.sameStep.
-/
import Derived.Test.YtkibnbcdmkogkaaH
import Derived.Deep.RegionWith
namespace Go.Proofs.Ytkibnbcdmkogkaa
open Go.ChangeShapes Go.WideShapes Go.ChangeAt Go.RowKit
set_option linter.unusedVariables false
set_option linter.unusedSimpArgs false
attribute [local go_sem] Oper.semAt_some
set_option maxHeartbeats 1000000 in
theorem sameCmp_any (x y : Cp) (w : World) : Calls Try.prog 51 #[cpV x, cpV y] w fun e w' => e = .returned (.bool (decide (x = y))) ∧ Below w.heap.size w w' := by
  obtain ⟨b0, h0⟩ : ∃ b, decide (x.op = y.op) = b := ⟨_, rfl⟩
  obtain ⟨b1, h1⟩ : ∃ b, decide (x.l = y.l) = b := ⟨_, rfl⟩
  obtain ⟨b2, h2⟩ : ∃ b, decide (x.r = y.r) = b := ⟨_, rfl⟩
  have hr : decide (x = y) = (b0 && b1 && b2) := by
    subst h0 h1 h2
    obtain ⟨a, b, c⟩ := x; obtain ⟨a', b', c'⟩ := y
    by_cases e0 : a = a' <;> by_cases e1 : b = b' <;> by_cases e2 : c = c' <;> simp [e0, e1, e2]
  rw [hr]
  have E0 : (x.op == y.op) = b0 := by rw [← h0]; by_cases e : x.op = y.op <;> simp [e]
  have E1 := fun w => tm_eql x.l y.l w
  have E2 := fun w => tm_eql x.r y.r w
  rw [h1] at E1
  rw [h2] at E2
  clear h0 h1 h2 hr
  cases b0
  · go_enter Try.func51, Try.ntmps51
    go_wp2
    go_ret
    exact ⟨rfl, below_two _ _ _⟩
  cases b1
  · go_enter Try.func51, Try.ntmps51
    go_wp2
    go_ret
    exact ⟨rfl, below_two _ _ _⟩
  go_enter Try.func51, Try.ntmps51
  go_wp2
  go_ret
  exact ⟨rfl, below_two _ _ _⟩
theorem eq_all {α : Type} {xs ys : List α} {n : Nat} (h1 : xs.length = n) (h2 : ys.length = n) {i : Nat} (hi : n ≤ i) (h : ∀ j, j < i → xs[j]? = ys[j]?) : xs = ys := by
  apply List.ext_getElem?
  intro j
  by_cases hj : j < i
  · exact h j hj
  · rw [List.getElem?_eq_none (by omega), List.getElem?_eq_none (by omega)]
theorem neq_at {α : Type} {xs ys : List α} {i : Nat} {x y : α} (h1 : xs[i]? = some x) (h2 : ys[i]? = some y) (h : x ≠ y) : xs ≠ ys := by
  intro e; subst e; rw [h1] at h2; cases h2; exact h rfl
theorem at_eq {α : Type} {xs ys : List α} {i : Nat} {x y : α} (h1 : xs[i]? = some x) (h2 : ys[i]? = some y) (e : x = y) : xs[i]? = ys[i]? := by rw [h1, h2, e]
theorem all_succ {p : Nat → Prop} {i : Nat} (h : ∀ j, j < i → p j) (hi : p i) : ∀ j, j < i + 1 → p j := by
  intro j hj
  by_cases e : j = i
  · subst e; exact hi
  · exact h j (by omega)
set_option maxRecDepth 100000 in
set_option maxHeartbeats 1000000 in
theorem eqCmps_any (v1 v2 : Value) (xs ys : List Cp) (w : World) (hx1 : xs.length ≤ 140737488351232) (hy1 : ys.length ≤ 140737488351232) (h1 : CpsAt w v1 xs) (h2 : CpsAt w v2 ys) :
    Calls Try.prog 50 #[v1, v2, .func (.func 51) #[] #[]] w fun e w' => e = .returned (.bool (decide (xs = ys))) ∧ Below w.heap.size w w' := by
  obtain ⟨R, hR⟩ : ∃ R, decide (xs = ys) = R := ⟨_, rfl⟩
  rw [hR]
  replace hR := Lib.hid hR
  have h10 := Lib.hid h1
  have h20 := Lib.hid h2
  obtain ⟨a1, c1, rfl, -⟩ := h1
  obtain ⟨a2, c2, rfl, -⟩ := h2
  obtain ⟨n, hn⟩ : ∃ n, xs.length = n := ⟨_, rfl⟩
  obtain ⟨m, hm⟩ : ∃ m, ys.length = m := ⟨_, rfl⟩
  rw [hn] at hx1 h10
  rw [hm] at hy1 h20
  simp only [hn, hm]
  replace hn := Lib.hid hn
  replace hm := Lib.hid hm
  go_enter Try.func50, Try.ntmps50
  by_cases hnm : n = m
  · subst hnm
    go_wp2_with fail
    go_loopw [17] (fun t wr => ∃ i : Nat, i ≤ n ∧ t = .int .i64 i ∧ Hid (Below w.heap.size w wr) ∧ Hid (∀ j, j < i → xs[j]? = ys[j]?)) (fun t _ => n - (intOf t).toNat)
    case atStart => exact ⟨0, Nat.zero_le _, rfl, Below.refl _ _, fun j hj => by omega⟩
    case round =>
      obtain ⟨i, hi, rfl, hwr, hall⟩ := hrel
      by_cases hlt : i < n
      · obtain ⟨x, hx⟩ : ∃ x, xs[i]? = some x := ⟨_, List.getElem?_eq_getElem (by rw [hn.out]; exact hlt)⟩
        obtain ⟨y, hy⟩ : ∃ y, ys[i]? = some y := ⟨_, List.getElem?_eq_getElem (by rw [hm.out]; exact hlt)⟩
        obtain ⟨_, _, e, q1⟩ := h10.out.later hwr.out
        rw [hn.out] at e
        obtain ⟨rfl, rfl⟩ := slice_eq e
        obtain ⟨b1, o1, rfl, x0, x1, x2, x3, x4, x5, x6, x7, x8⟩ := cps_cell q1 hx
        obtain ⟨_, _, e, q2⟩ := h20.out.later (kept_trans hwr.out (kept_new wr (.cells #[.int .u8 x.op, .int .u8 x.l.k, .int .i64 x.l.n, .int .i64 x.l.s, .int .i64 x.l.r, .int .u8 x.r.k, .int .i64 x.r.n, .int .i64 x.r.s, .int .i64 x.r.r] 45)))
        rw [hm.out] at e
        obtain ⟨rfl, rfl⟩ := slice_eq e
        obtain ⟨b2, o2, rfl, y0, y1, y2, y3, y4, y5, y6, y7, y8⟩ := cps_cell q2 hy
        have hlti : (i : Int) < n := by omega
        have hne := Lib.hid (neq_at hx hy)
        have hat := Lib.hid (at_eq hx hy)
        clear hx hy q1 q2 e
        have hC := Lib.hid (sameCmp_any x y)
        obtain ⟨B, hB⟩ : ∃ B, decide (x = y) = B := ⟨_, rfl⟩
        rw [hB] at hC
        cases B
        · have hRf : R = false := by rw [← hR.out]; simp; exact hne.out (by simpa using hB)
          subst hRf
          clear hR hB
          go_wp2_with ((with_reducible refine (hC.out _).mono ?_); rintro e w2 ⟨rfl, hb2⟩)
          go_ret
          exact ⟨rfl, kept_trans hwr.out (kept_trans (below_two _ _ _) hb2)⟩
        · replace hat := Lib.hid (hat.out (by simpa using hB))
          clear hB
          go_wp2_with ((with_reducible refine (hC.out _).mono ?_); rintro e w2 ⟨rfl, hb2⟩)
          exact ⟨⟨i + 1, by omega, by go_num, kept_trans hwr.out (kept_trans (below_two _ _ _) hb2), all_succ hall.out hat.out⟩, by simp [intOf]; omega⟩
      · have hRt : R = true := by rw [← hR.out]; simp; exact eq_all hn.out hm.out (i := i) (by omega) hall.out
        subst hRt
        clear hR
        have hlti : ¬ (i : Int) < n := by omega
        go_wp2_with fail
        go_ret
        exact ⟨rfl, hwr.out⟩
  · have hRf : R = false := by rw [← hR.out]; simp; intro e; subst e; exact hnm (hn.out.symm.trans hm.out)
    subst hRf
    clear hR
    have hnmi : ¬ (n : Int) = m := by omega
    go_wp2_with fail
    go_ret
    exact ⟨rfl, Below.refl _ _⟩
theorem sp_eq (s t : Sp) : decide (s = t) = ((s.neg == t.neg) && (s.kind == t.kind) && (s.min == t.min) && (s.max == t.max) && (s.strict == t.strict) && decide (s.cs = t.cs)) := by
  obtain ⟨a, b, c, d, e, f⟩ := s; obtain ⟨a', b', c', d', e', f'⟩ := t
  by_cases e0 : a = a' <;> by_cases e1 : b = b' <;> by_cases e2 : c = c' <;> by_cases e3 : d = d' <;> by_cases e4 : e = e' <;> by_cases e5 : f = f' <;> simp [e0, e1, e2, e3, e4, e5]
set_option maxRecDepth 100000 in
set_option maxHeartbeats 1000000 in
theorem sameStep_any (v1 v2 : Value) (s t : Sp) (w : World) (hx1 : s.cs.length ≤ 140737488351232) (hy1 : t.cs.length ≤ 140737488351232) (h1 : CpsAt w v1 s.cs) (h2 : CpsAt w v2 t.cs) :
    Calls Try.prog 41 #[spV s v1, spV t v2] w fun e w' => e = .returned (.bool (decide (s = t))) ∧ Below w.heap.size w w' := by
  rw [sp_eq]
  obtain ⟨R, hR⟩ : ∃ R, decide (s.cs = t.cs) = R := ⟨_, rfl⟩
  have hC : Hid (∀ w', Below w.heap.size w w' → Calls Try.prog 50 #[v1, v2, .func (.func 51) #[] #[]] w' fun e w2 => e = .returned (.bool R) ∧ Below w'.heap.size w' w2) := fun w' hb => by
    have := eqCmps_any v1 v2 s.cs t.cs w' hx1 hy1 (h1.later hb) (h2.later hb)
    rwa [hR] at this
  have hV : Hid (∀ A B, Below w.heap.size w ((w.alloc A).alloc B)) := fun A B => below_two _ _ _
  clear h1 h2
  rw [hR]
  clear hR
  obtain ⟨neg, kind, mi, ma, strict, cs⟩ := s
  obtain ⟨neg', kind', mi', ma', strict', cs'⟩ := t
  dsimp only at *
  obtain ⟨b0, h0⟩ : ∃ b, (neg == neg') = b := ⟨_, rfl⟩
  obtain ⟨b1, h1⟩ : ∃ b, (kind == kind') = b := ⟨_, rfl⟩
  obtain ⟨b2, h2⟩ : ∃ b, (mi == mi') = b := ⟨_, rfl⟩
  obtain ⟨b3, h3⟩ : ∃ b, (ma == ma') = b := ⟨_, rfl⟩
  obtain ⟨b4, h4⟩ : ∃ b, (strict == strict') = b := ⟨_, rfl⟩
  rw [h0, h1, h2, h3, h4]
  cases b0
  · go_enter Try.func41, Try.ntmps41
    go_wp2_with fail
    go_ret
    exact ⟨rfl, below_two _ _ _⟩
  cases b1
  · go_enter Try.func41, Try.ntmps41
    go_wp2_with fail
    go_ret
    exact ⟨rfl, below_two _ _ _⟩
  cases b2
  · go_enter Try.func41, Try.ntmps41
    go_wp2_with fail
    go_ret
    exact ⟨rfl, below_two _ _ _⟩
  cases b3
  · go_enter Try.func41, Try.ntmps41
    go_wp2_with fail
    go_ret
    exact ⟨rfl, below_two _ _ _⟩
  cases b4
  · go_enter Try.func41, Try.ntmps41
    go_wp2_with fail
    go_ret
    exact ⟨rfl, below_two _ _ _⟩
  go_enter Try.func41, Try.ntmps41
  go_wp2_with ((with_reducible refine (hC.out _ (hV.out _ _)).mono ?_); rintro e w2 ⟨rfl, hb2⟩)
  go_ret
  exact ⟨by simp, kept_trans (below_two _ _ _) hb2⟩
end Go.Proofs.Ytkibnbcdmkogkaa
