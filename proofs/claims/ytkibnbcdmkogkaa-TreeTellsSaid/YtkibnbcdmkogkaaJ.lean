/-
  Contracts of slices.EqualFunc at steps, and of tree.Same.
-/
import Derived.Test.YtkibnbcdmkogkaaI
namespace Go.Proofs.Ytkibnbcdmkogkaa
open Go.ChangeShapes Go.WideShapes Go.ChangeAt Go.RowKit
set_option linter.unusedVariables false
set_option linter.unusedSimpArgs false
attribute [local go_sem] Oper.semAt_some
theorem map_fst {L : List (Sp × Value)} {i : Nat} {s : Sp} {v : Value} (h : L[i]? = some (s, v)) : (L.map (·.1))[i]? = some s := by rw [List.getElem?_map, h]; rfl
theorem spsL_at {w : World} {a : Option Addr} {n c : Nat} {L : List (Sp × Value)} (h : SpsL w (.slice a n c) L) (hn : L.length = n) {i : Nat} {s : Sp} {v : Value} (hx : L[i]? = some (s, v)) :
    ∃ b o, a = some ⟨b, o, none⟩ ∧ w.cell? ⟨b, o + i * 6, none⟩ = some (.bool s.neg) ∧ w.cell? ⟨b, o + i * 6 + 1, none⟩ = some (.int .i64 s.kind) ∧ w.cell? ⟨b, o + i * 6 + 2, none⟩ = some (.int .i64 s.min) ∧
      w.cell? ⟨b, o + i * 6 + 3, none⟩ = some (.int .i64 s.max) ∧ w.cell? ⟨b, o + i * 6 + 4, none⟩ = some (.bool s.strict) ∧ w.cell? ⟨b, o + i * 6 + 5, none⟩ = some v ∧ CpsAt w v s.cs := by
  obtain ⟨⟨a', c', e, hc⟩, hcs⟩ := h
  rw [hn] at e
  obtain ⟨rfl, rfl⟩ := slice_eq e
  obtain ⟨b, o, e, z0, z1, z2, z3, z4, z5⟩ := sps_cell hc hx
  exact ⟨b, o, e, z0, z1, z2, z3, z4, z5, hcs _ (List.mem_of_getElem? hx)⟩
/-- No list is too long to be walked. -/
def Short (L : List (Sp × Value)) : Prop := L.length ≤ 140737488351232 ∧ ∀ x ∈ L, x.1.cs.length ≤ 140737488351232
set_option maxRecDepth 100000 in
set_option maxHeartbeats 1000000 in
theorem eqSteps_any (a1 a2 : Option Addr) (n m c1 c2 : Nat) (L M : List (Sp × Value)) (w : World) (hn : L.length = n) (hm : M.length = m) (hx1 : Short L) (hy1 : Short M) (h1 : SpsL w (.slice a1 n c1) L) (h2 : SpsL w (.slice a2 m c2) M) :
    Calls Try.prog 40 #[.slice a1 n c1, .slice a2 m c2, .func (.func 41) #[] #[]] w fun e w' => e = .returned (.bool (decide (L.map (·.1) = M.map (·.1)))) ∧ Below w.heap.size w w' := by
  have hnR : Hid ((L.map (·.1)).length = n) := by show _ = _; rw [List.length_map]; exact hn
  have hmR : Hid ((M.map (·.1)).length = m) := by show _ = _; rw [List.length_map]; exact hm
  obtain ⟨R, hR⟩ : ∃ R, decide (L.map (·.1) = M.map (·.1)) = R := ⟨_, rfl⟩
  rw [hR]
  replace hR := Lib.hid hR
  have h10 := Lib.hid h1
  have h20 := Lib.hid h2
  have hn1 : n ≤ 140737488351232 := by rw [← hn]; exact hx1.1
  have hm1 : m ≤ 140737488351232 := by rw [← hm]; exact hy1.1
  replace hx1 := Lib.hid hx1
  replace hy1 := Lib.hid hy1
  clear h1 h2
  replace hn := Lib.hid hn
  replace hm := Lib.hid hm
  go_enter Try.func40, Try.ntmps40
  by_cases hnm : n = m
  · subst hnm
    go_wp2_with fail
    go_loopw [17] (fun t wr => ∃ i : Nat, i ≤ n ∧ t = .int .i64 i ∧ Hid (Below w.heap.size w wr) ∧ Hid (∀ j, j < i → (L.map (·.1))[j]? = (M.map (·.1))[j]?)) (fun t _ => n - (intOf t).toNat)
    case atStart => exact ⟨0, Nat.zero_le _, rfl, Below.refl _ _, fun j hj => by omega⟩
    case round =>
      obtain ⟨i, hi, rfl, hwr, hall⟩ := hrel
      by_cases hlt : i < n
      · obtain ⟨⟨s, v⟩, hx⟩ := sps_i (L := L) (i := i) (by rw [hn.out]; exact hlt)
        obtain ⟨⟨t, u⟩, hy⟩ := sps_i (L := M) (i := i) (by rw [hm.out]; exact hlt)
        obtain ⟨b1, o1, rfl, x0, x1, x2, x3, x4, x5, hv⟩ := spsL_at (h10.out.later hwr.out) hn.out hx
        obtain ⟨b2, o2, rfl, y0, y1, y2, y3, y4, y5, hu⟩ := spsL_at (h20.out.later (kept_trans hwr.out (kept_new wr (.cells #[.bool s.neg, .int .i64 s.kind, .int .i64 s.min, .int .i64 s.max, .bool s.strict, v] 36)))) hm.out hy
        obtain ⟨a3, c3, e3, hv3⟩ := hv
        subst e3
        obtain ⟨a4, c4, e4, hv4⟩ := hu
        subst e4
        have hv : CpsAt _ (.slice a3 s.cs.length c3) s.cs := ⟨_, _, rfl, hv3⟩
        have hu : CpsAt _ (.slice a4 t.cs.length c4) t.cs := ⟨_, _, rfl, hv4⟩
        clear hv3 hv4
        have hs1 := hx1.out.2 _ (List.mem_of_getElem? hx)
        have ht1 := hy1.out.2 _ (List.mem_of_getElem? hy)
        dsimp only at hs1 ht1
        have hlti : (i : Int) < n := by omega
        have hne := Lib.hid (neq_at (map_fst hx) (map_fst hy))
        have hat := Lib.hid (at_eq (map_fst hx) (map_fst hy))
        have hC : Hid (∀ w', Below (wr.alloc (.cells #[.bool s.neg, .int .i64 s.kind, .int .i64 s.min, .int .i64 s.max, .bool s.strict, .slice a3 s.cs.length c3] 36)).heap.size (wr.alloc (.cells #[.bool s.neg, .int .i64 s.kind, .int .i64 s.min, .int .i64 s.max, .bool s.strict, .slice a3 s.cs.length c3] 36)) w' → Calls Try.prog 41 #[spV s (.slice a3 s.cs.length c3), spV t (.slice a4 t.cs.length c4)] w' fun e w2 => e = .returned (.bool (decide (s = t))) ∧ Below w'.heap.size w' w2) := fun w' hb =>
          sameStep_any _ _ s t w' hs1 ht1 (hv.later (kept_trans (kept_new wr _) hb)) (hu.later hb)
        obtain ⟨l3, hl3⟩ : ∃ l, s.cs.length = l := ⟨_, rfl⟩
        obtain ⟨l4, hl4⟩ : ∃ l, t.cs.length = l := ⟨_, rfl⟩
        rw [hl3] at *
        rw [hl4] at *
        have hV : Hid (∀ A B, Below (wr.alloc A).heap.size (wr.alloc A) ((wr.alloc A).alloc B)) := fun A B => kept_new _ _
        clear hx hy hv hu hs1 ht1
        obtain ⟨B, hB⟩ : ∃ B, decide (s = t) = B := ⟨_, rfl⟩
        rw [hB] at hC
        cases B
        · have hRf : R = false := by rw [← hR.out]; simp only [decide_eq_false_iff_not]; exact hne.out (by simpa using hB)
          subst hRf
          clear hR hB
          go_wp2_with ((with_reducible refine (hC.out _ (hV.out _ _)).mono ?_); rintro e w2 ⟨rfl, hb2⟩)
          go_ret
          exact ⟨rfl, kept_trans hwr.out (kept_trans (below_two _ _ _) hb2)⟩
        · replace hat := Lib.hid (hat.out (by simpa using hB))
          clear hB
          go_wp2_with ((with_reducible refine (hC.out _ (hV.out _ _)).mono ?_); rintro e w2 ⟨rfl, hb2⟩)
          exact ⟨⟨i + 1, by omega, by go_num, kept_trans hwr.out (kept_trans (below_two _ _ _) hb2), all_succ hall.out hat.out⟩, by simp [intOf]; omega⟩
      · have hRt : R = true := by rw [← hR.out]; simp only [decide_eq_true_eq]; exact eq_all hnR.out hmR.out (i := i) (by omega) hall.out
        subst hRt
        clear hR
        have hlti : ¬ (i : Int) < n := by omega
        go_wp2_with fail
        go_ret
        exact ⟨rfl, hwr.out⟩
  · have hRf : R = false := by rw [← hR.out]; simp only [decide_eq_false_iff_not]; intro e; rw [e] at hnR; exact hnm (hnR.out.symm.trans hmR.out)
    subst hRf
    clear hR
    have hnmi : ¬ (n : Int) = m := by omega
    go_wp2_with fail
    go_ret
    exact ⟨rfl, Below.refl _ _⟩
set_option maxHeartbeats 1000000 in
theorem same_L (a1 a2 : Option Addr) (n m c1 c2 : Nat) (L M : List (Sp × Value)) (p q : Int) (w : World) (hn : L.length = n) (hm : M.length = m) (hx1 : Short L) (hy1 : Short M) (h1 : SpsL w (.slice a1 n c1) L) (h2 : SpsL w (.slice a2 m c2) M) :
    Calls Try.prog 23 #[ptV (.slice a1 n c1) p, ptV (.slice a2 m c2) q] w fun e w' => e = .returned (.bool (decide (L.map (·.1) = M.map (·.1) ∧ p = q))) ∧ Below w.heap.size w w' := by
  have hC : Hid (∀ A B, Calls Try.prog 40 #[.slice a1 n c1, .slice a2 m c2, .func (.func 41) #[] #[]] ((w.alloc A).alloc B) fun e w' => e = .returned (.bool (decide (L.map (·.1) = M.map (·.1)))) ∧ Below ((w.alloc A).alloc B).heap.size ((w.alloc A).alloc B) w') := fun A B => eqSteps_any a1 a2 n m c1 c2 L M _ hn hm hx1 hy1 (h1.later (below_two _ _ _)) (h2.later (below_two _ _ _))
  clear hx1 hy1 h1 h2 hn hm
  have hE : decide (L.map (·.1) = M.map (·.1) ∧ p = q) = (decide (L.map (·.1) = M.map (·.1)) && (p == q)) := by
    by_cases e : L.map (·.1) = M.map (·.1) <;> by_cases e1 : p = q <;> simp [e, e1]
  rw [hE]
  clear hE
  generalize decide (L.map (·.1) = M.map (·.1)) = R at *
  obtain ⟨b0, h0⟩ : ∃ b, (p == q) = b := ⟨_, rfl⟩
  rw [h0]
  cases b0
  · go_enter Try.func23, Try.ntmps23
    go_wp2_with fail
    go_ret
    exact ⟨by simp, below_two _ _ _⟩
  · go_enter Try.func23, Try.ntmps23
    go_wp2_with ((with_reducible refine (hC.out _ _).mono ?_); rintro e w2 ⟨rfl, hb2⟩)
    go_ret
    exact ⟨by simp, kept_trans (below_two _ _ _) hb2⟩
end Go.Proofs.Ytkibnbcdmkogkaa
