/-
  Contract of the document's own Same.
-/
import Derived.Test.YtkibnbcdmkogkaaK
namespace Go.Proofs.Ytkibnbcdmkogkaa
open Go.ChangeShapes Go.WideShapes Go.ChangeAt Go.RowKit
set_option linter.unusedVariables false
set_option linter.unusedSimpArgs false
attribute [local go_sem] Oper.semAt_some
theorem two_boxes (w : World) (a1 a2 : Option Addr) (n m c1 c2 : Nat) (p q : Int) : PtBox w.heap.size (.slice a1 n c1) p ((w.alloc (.cells #[.slice a1 n c1, .int .i64 p] 24)).alloc (.cells #[.slice a2 m c2, .int .i64 q] 24)) ∧ PtBox (w.heap.size + 1) (.slice a2 m c2) q ((w.alloc (.cells #[.slice a1 n c1, .int .i64 p] 24)).alloc (.cells #[.slice a2 m c2, .int .i64 q] 24)) := by
  refine ⟨(PtBox.new w (.slice a1 n c1) p).later (kept_new _ _), ?_⟩
  have := PtBox.new (w.alloc (.cells #[.slice a1 n c1, .int .i64 p] 24)) (.slice a2 m c2) q
  rwa [World.size_alloc] at this
set_option maxRecDepth 100000 in
set_option maxHeartbeats 1000000 in
theorem refSame_L (a1 a2 : Option Addr) (n m c1 c2 : Nat) (L M : List (Sp × Value)) (p q : Int) (w : World) (hn : L.length = n) (hm : M.length = m) (hx1 : Short L) (hy1 : Short M) (h1 : SpsL w (.slice a1 n c1) L) (h2 : SpsL w (.slice a2 m c2) M) :
    Calls Try.prog 24 #[ptV (.slice a1 n c1) p, ptV (.slice a2 m c2) q] w fun e w' => e = .returned (.bool (decide (L.map (·.1) = M.map (·.1) ∧ p = q))) ∧ Below w.heap.size w w' := by
  have hnR : Hid ((L.map (·.1)).length = n) := by show _ = _; rw [List.length_map]; exact hn
  have hmR : Hid ((M.map (·.1)).length = m) := by show _ = _; rw [List.length_map]; exact hm
  obtain ⟨R, hR⟩ : ∃ R, decide (L.map (·.1) = M.map (·.1) ∧ p = q) = R := ⟨_, rfl⟩
  rw [hR]
  replace hR := Lib.hid hR
  have hbel := below_two w (.cells #[.slice a1 n c1, .int .i64 p] 24) (.cells #[.slice a2 m c2, .int .i64 q] 24)
  obtain ⟨hb1, hb2⟩ := two_boxes w a1 a2 n m c1 c2 p q
  replace hb1 := Lib.hid hb1
  replace hb2 := Lib.hid hb2
  have h10 := Lib.hid (h1.later hbel)
  have h20 := Lib.hid (h2.later hbel)
  replace hbel := Lib.hid hbel
  have hn1 : n ≤ 140737488351232 := by rw [← hn]; exact hx1.1
  have hm1 : m ≤ 140737488351232 := by rw [← hm]; exact hy1.1
  replace hx1 := Lib.hid hx1
  replace hy1 := Lib.hid hy1
  clear h1 h2
  replace hn := Lib.hid hn
  replace hm := Lib.hid hm
  by_cases hnm : n = m
  case neg =>
    have hRf : R = false := by rw [← hR.out]; simp only [decide_eq_false_iff_not]; rintro ⟨e, -⟩; rw [e] at hnR; exact hnm (hnR.out.symm.trans hmR.out)
    subst hRf
    clear hR
    have hnmi : ¬ (n : Int) = m := by omega
    go_enter Try.func24, Try.ntmps24
    go_wp2_with fail
    go_ret
    exact ⟨rfl, hbel.out⟩
  subst hnm
  by_cases hpq : p = q
  case neg =>
    have hRf : R = false := by rw [← hR.out]; simp only [decide_eq_false_iff_not]; rintro ⟨-, e⟩; exact hpq e
    subst hRf
    clear hR
    go_enter Try.func24, Try.ntmps24
    go_wp2_with fail
    go_ret
    exact ⟨rfl, hbel.out⟩
  subst hpq
  go_enter Try.func24, Try.ntmps24
  go_wp2_with fail
  generalize hS : w.heap.size = S at *
  generalize (w.alloc (.cells #[.slice a1 n c1, .int .i64 p] 24)).alloc (.cells #[.slice a2 n c2, .int .i64 p] 24) = w0 at *
  have hS0 : Hid (w.heap.size = S) := hS
  replace hbel := Lib.hid (show Below w.heap.size w w0 by rw [hS]; exact hbel.out)
  clear hS
  go_loopw [5] (fun t wr => ∃ i : Nat, i ≤ n ∧ t = .int .i64 i ∧ Hid (Below w0.heap.size w0 wr) ∧ Hid (∀ j, j < i → (L.map (·.1))[j]? = (M.map (·.1))[j]?)) (fun t _ => n - (intOf t).toNat)
  case atStart => exact ⟨0, Nat.zero_le _, rfl, Below.refl _ _, fun j hj => by omega⟩
  case round =>
    obtain ⟨i, hi, rfl, hwr, hall⟩ := hrel
    have k1 := (hb1.out.later hwr.out).c0
    have k2 := (hb2.out.later hwr.out).c0
    by_cases hlt : i < n
    · obtain ⟨⟨s, v⟩, hx⟩ := sps_i (L := L) (i := i) (by rw [hn.out]; exact hlt)
      obtain ⟨⟨t, u⟩, hy⟩ := sps_i (L := M) (i := i) (by rw [hm.out]; exact hlt)
      obtain ⟨b1, o1, rfl, x0, x1, x2, x3, x4, x5, hv⟩ := spsL_at (h10.out.later hwr.out) hn.out hx
      obtain ⟨b2, o2, rfl, y0, y1, y2, y3, y4, y5, hu⟩ := spsL_at (h20.out.later hwr.out) hm.out hy
      have hs1 := hx1.out.2 _ (List.mem_of_getElem? hx)
      have ht1 := hy1.out.2 _ (List.mem_of_getElem? hy)
      dsimp only at hs1 ht1
      obtain ⟨l3, hl3⟩ : ∃ l, s.cs.length = l := ⟨_, rfl⟩
      obtain ⟨l4, hl4⟩ : ∃ l, t.cs.length = l := ⟨_, rfl⟩
      obtain ⟨a3, c3, rfl⟩ := cps_lit hv hl3
      obtain ⟨a4, c4, rfl⟩ := cps_lit hu hl4
      clear hl3 hl4
      have hlti : (i : Int) < n := by omega
      have hne := Lib.hid (neq_at (map_fst hx) (map_fst hy))
      have hat := Lib.hid (at_eq (map_fst hx) (map_fst hy))
      have hC : Hid (Calls Try.prog 42 #[spV s (.slice a3 l3 c3), spV t (.slice a4 l4 c4)] wr.drew fun e w2 => e = .returned (.bool (decide (s = t))) ∧ Below wr.drew.heap.size wr.drew w2) :=
        refStep_any _ _ s t wr.drew hs1 ht1 (hv.later (Below.refl _ _).drew) (hu.later (Below.refl _ _).drew)
      clear hx hy hv hu hs1 ht1
      obtain ⟨B, hB⟩ : ∃ B, decide (s = t) = B := ⟨_, rfl⟩
      rw [hB] at hC
      cases B
      · have hRf : R = false := by rw [← hR.out]; simp only [decide_eq_false_iff_not]; rintro ⟨e, -⟩; exact hne.out (by simpa using hB) e
        subst hRf
        clear hR hB
        go_wp2_with fail
        go_region_with ((with_reducible refine hC.out.mono ?_); rintro e w1 ⟨rfl, hq⟩)
        all_goals
          have hB : Below w.heap.size w w1 := kept_trans hbel.out (kept_trans hwr.out ((Below.refl wr.heap.size wr).drew.trans hq))
          clear hq x0 x1 x2 x3 x4 x5 y0 y1 y2 y3 y4 y5
          go_wp2_with fail
          go_ret
          exact ⟨rfl, hB⟩
      · replace hat := Lib.hid (hat.out (by simpa using hB))
        clear hB
        go_wp2_with fail
        go_region_with ((with_reducible refine hC.out.mono ?_); rintro e w1 ⟨rfl, hq⟩)
        all_goals
          have hB : Hid (Below w0.heap.size w0 w1) := kept_trans hwr.out ((Below.refl wr.heap.size wr).drew.trans hq)
          clear hq x0 x1 x2 x3 x4 x5 y0 y1 y2 y3 y4 y5
          go_wp2_with fail
          exact ⟨⟨i + 1, by omega, by go_num, hB, all_succ hall.out hat.out⟩, by simp [intOf]; omega⟩
    · have hRt : R = true := by rw [← hR.out]; simp only [decide_eq_true_eq]; exact ⟨eq_all hnR.out hmR.out (i := i) (by omega) hall.out, trivial⟩
      subst hRt
      clear hR
      have hlti : ¬ (i : Int) < n := by omega
      go_wp2_with fail
      go_ret
      exact ⟨rfl, kept_trans hbel.out hwr.out⟩
end Go.Proofs.Ytkibnbcdmkogkaa
