/-
  Contract of the document's own Right at patterns of any length.
-/
import Derived.Test.YtccmnngeibpcmaaGreatRE
namespace Go.Proofs.YtccmnngeibpcmaaGreat.Tree
open Go.ChangeShapes Go.WideShapes Go.ChangeAt Go.RowKit
set_option linter.unusedVariables false
set_option linter.unusedSimpArgs false
attribute [local go_sem] Oper.semAt_some
set_option maxRecDepth 100000 in
set_option maxHeartbeats 2000000 in
theorem refRight_L (a : Option Addr) (n c : Nat) (L : List (Sp × Value)) (win : Int) (w : World) (hn : L.length = n) (hL : n ≤ 140737488351232) (hm : ∀ x ∈ L, x.1.cs.length ≤ 140737488351232) (h : SpsL w (.slice a n c) L) :
    Calls Tryz.prog 50 #[ptV (.slice a n c) win] w fun e w' => e = .returned (.bool (rightP (L.map (·.1)) win)) ∧ Below w.heap.size w w' := by
  obtain ⟨R, hR⟩ : ∃ R, rightP (L.map (·.1)) win = R := ⟨_, rfl⟩
  rw [hR]
  have hR := Lib.hid hR
  have hm := Lib.hid hm
  have hb := (Below.refl w.heap.size w).alloc (Nat.le_refl _) (.cells #[.slice a n c, .int .i64 win] 24)
  have hp : PtIn _ a n c win L _ := ⟨PtBox.new w (.slice a n c) win, hn, h.later hb⟩
  clear h
  go_enter Tryz.func50, Tryz.ntmps50
  have hnR : Hid ((L.map (·.1)).length = n) := by show _ = _; rw [List.length_map]; exact hn
  have hlenR := Lib.hid (rightP_len (ss := L.map (·.1)) (win := win))
  have k0 := hp.1.c0
  have k1 := hp.1.c1
  replace hb := Lib.hid hb
  replace hp := Lib.hid hp
  have hn' := Lib.hid hn
  clear hn
  by_cases h1 : n < 1
  · have hRf : R = false := by rw [← hR.out]; exact hlenR.out (.inl (by rw [hnR.out]; exact h1))
    subst hRf
    clear hR hlenR
    go_wp2_with fail
    go_ret
    exact ⟨rfl, hb.out⟩
  by_cases h26 : 26 < n
  · have hRf : R = false := by rw [← hR.out]; exact hlenR.out (.inr (by rw [hnR.out]; exact h26))
    subst hRf
    clear hR hlenR
    go_wp2_with fail
    go_ret
    exact ⟨rfl, hb.out⟩
  clear hlenR
  cases hwin : nbr win
  · have hRf : R = false := by rw [← hR.out]; exact rightP_win hwin
    subst hRf
    replace hwin := Lib.hid hwin
    clear hR
    go_wp2_with ((with_reducible refine (number_any _ _ _ hwin).mono ?_); rintro e w2 ⟨rfl, rfl⟩)
    go_ret
    exact ⟨rfl, hb.out⟩
  replace hwin := Lib.hid hwin
  go_wp2_with ((with_reducible refine (number_any _ _ _ hwin).mono ?_); rintro e w2 ⟨rfl, rfl⟩)
  obtain ⟨B, hB⟩ : ∃ B, w.heap.size = B := ⟨_, rfl⟩
  generalize w.alloc (.cells #[.slice a n c, .int .i64 win] 24) = w0 at *
  rw [hB] at hp k0 k1 ⊢
  clear hB k0 k1
  go_loopw [3] (fun t wr => ∃ i : Nat, i ≤ n ∧ t = .int .i64 i ∧ Hid (Below w0.heap.size w0 wr) ∧ Hid (∀ j s, j < i → (L.map (·.1))[j]? = some s → rightS s = true)) (fun t _ => n - (intOf t).toNat)
  case atStart => exact ⟨0, Nat.zero_le _, rfl, Below.refl _ _, fun j s hj => by omega⟩
  case round =>
    obtain ⟨i, hi, rfl, hwr, hall⟩ := hrel
    have hpr := Lib.hid (hp.out.later hwr.out)
    have k0 := hpr.out.1.c0
    by_cases hlt : i < n
    · obtain ⟨⟨s, v⟩, hx⟩ := sps_i (L := L) (i := i) (by rw [hn'.out]; exact hlt)
      obtain ⟨b, o, rfl, z0, z1, z2, z3, z4, z5, a2, c2, hv, hcc⟩ := hpr.out.step hx
      have hm2 := hm.out _ (List.mem_of_getElem? hx)
      dsimp only at hm2
      subst hv
      have hsm : Hid ((L.map (·.1))[i]? = some s) := by show _ = _; rw [List.getElem?_map, hx]; rfl
      have hno := Lib.hid (step_no (win := win) hsm.out)
      have hlti : (i : Int) < n := by omega
      obtain ⟨m, hm3⟩ : ∃ m, s.cs.length = m := ⟨_, rfl⟩
      have hcc2 : CpsAt wr (.slice a2 m c2) s.cs := by rw [← hm3]; exact ⟨_, _, rfl, hcc⟩
      rw [hm3] at z5 hm2
      have hb2 := (Below.refl wr.heap.size wr).alloc (Nat.le_refl _) (.cells #[.bool s.neg, .int .i64 s.kind, .int .i64 s.min, .int .i64 s.max, .bool s.strict, .slice a2 m c2] 45)
      have hs : SpIn _ s a2 m c2 _ := ⟨SpBox.new wr s (.slice a2 m c2), hm3, hcc2.later hb2⟩
      obtain ⟨s0, s1, s2, s3, s4, s5⟩ := hs.1.cells
      replace hs := Lib.hid hs
      replace hb2 := Lib.hid hb2
      replace hm3 := Lib.hid hm3
      clear hx hcc hcc2
      cases hk1 : nbr s.kind
      · replace hk1 := Lib.hid hk1
        have hRf : R = false := by rw [← hR.out]; exact hno.out (rightS_kind hk1.out)
        subst hRf
        clear hR hno
        go_wp2_with ((with_reducible refine (number_any _ _ _ hk1).mono ?_); rintro e w2 ⟨rfl, rfl⟩)
        go_ret
        exact ⟨rfl, kept_trans hb.out (kept_trans hwr.out hb2.out)⟩
      replace hk1 := Lib.hid hk1
      cases hk2 : nbr s.min
      · replace hk2 := Lib.hid hk2
        have hRf : R = false := by rw [← hR.out]; exact hno.out (rightS_min hk2.out)
        subst hRf
        clear hR hno
        go_wp2_with (first | ((with_reducible refine (number_any _ _ _ hk1).mono ?_); rintro e w2 ⟨rfl, rfl⟩) | ((with_reducible refine (number_any _ _ _ hk2).mono ?_); rintro e w2 ⟨rfl, rfl⟩))
        go_ret
        exact ⟨rfl, kept_trans hb.out (kept_trans hwr.out hb2.out)⟩
      replace hk2 := Lib.hid hk2
      cases hk3 : nbr s.max
      · replace hk3 := Lib.hid hk3
        have hRf : R = false := by rw [← hR.out]; exact hno.out (rightS_max hk3.out)
        subst hRf
        clear hR hno
        go_wp2_with (first | ((with_reducible refine (number_any _ _ _ hk1).mono ?_); rintro e w2 ⟨rfl, rfl⟩) | ((with_reducible refine (number_any _ _ _ hk2).mono ?_); rintro e w2 ⟨rfl, rfl⟩) | ((with_reducible refine (number_any _ _ _ hk3).mono ?_); rintro e w2 ⟨rfl, rfl⟩))
        go_ret
        exact ⟨rfl, kept_trans hb.out (kept_trans hwr.out hb2.out)⟩
      replace hk3 := Lib.hid hk3
      go_wp2_with (first | ((with_reducible refine (number_any _ _ _ hk1).mono ?_); rintro e w2 ⟨rfl, rfl⟩) | ((with_reducible refine (number_any _ _ _ hk2).mono ?_); rintro e w2 ⟨rfl, rfl⟩) | ((with_reducible refine (number_any _ _ _ hk3).mono ?_); rintro e w2 ⟨rfl, rfl⟩))
      have hw1 := Lib.hid (kept_trans hwr.out hb2.out)
      obtain ⟨S, hS⟩ : ∃ S, wr.heap.size = S := ⟨_, rfl⟩
      generalize wr.alloc (.cells #[.bool s.neg, .int .i64 s.kind, .int .i64 s.min, .int .i64 s.max, .bool s.strict, .slice a2 m c2] 45) = w1 at *
      rw [hS] at hs s0 s1 s2 s3 s4 s5 ⊢
      clear s0 s1 s2 s3 s4 s5 hS z0 z1 z2 z3 z4 z5 k0 hb2
      go_loopw [5] (fun t wi => ∃ k : Nat, k ≤ m ∧ t = .int .i64 k ∧ Hid (Below w1.heap.size w1 wi) ∧ Hid (∀ j c, j < k → s.cs[j]? = some c → rightC c = true)) (fun t _ => m - (intOf t).toNat)
      case atStart => exact ⟨0, Nat.zero_le _, rfl, Below.refl _ _, fun j s hj => by omega⟩
      case round =>
        obtain ⟨k, hk, rfl, hwi, hallc⟩ := hrel
        have hsi := Lib.hid (hs.out.later hwi.out)
        obtain ⟨-, -, -, -, -, s5⟩ := hsi.out.1.cells
        by_cases hltk : k < m
        · obtain ⟨x, hx⟩ : ∃ x, s.cs[k]? = some x := ⟨_, List.getElem?_eq_getElem (by rw [hm3.out]; exact hltk)⟩
          obtain ⟨b2, o2, rfl, y0, y1, y2, y3, y4, y5, y6, y7, y8⟩ := hsi.out.cmp hx
          have hnc := Lib.hid (fun e : rightC x = false => hno.out (cmp_no hx e))
          have hxs := Lib.hid hx
          have hltki : (k : Int) < m := by omega
          have hfin : Hid (∀ w', Below (wr.alloc (.cells #[.int .u8 x.op, .int .u8 x.l.k, .int .i64 x.l.n, .int .i64 x.l.s, .int .i64 x.l.r, .int .u8 x.r.k, .int .i64 x.r.n, .int .i64 x.r.s, .int .i64 x.r.r] 95)).heap.size (wr.alloc (.cells #[.int .u8 x.op, .int .u8 x.l.k, .int .i64 x.l.n, .int .i64 x.l.s, .int .i64 x.l.r, .int .u8 x.r.k, .int .i64 x.r.n, .int .i64 x.r.s, .int .i64 x.r.r] 95)) w' → Below w1.heap.size w1 w') := fun w' h => kept_trans (kept_alloc hwi.out _) h
          have hbx := CpBox.new wr x
          obtain ⟨q0, q1, q2, q3, q4, q5, q6, q7, q8⟩ := hbx.cells
          clear hx
          by_cases hop : 1 ≤ x.op ∧ x.op < 7
          · have hop1 : ¬ x.op < 1 := by omega
            have hop2 : ¬ 7 ≤ x.op := by omega
            have hop' := Lib.hid hop
            clear hop
            have hT := Lib.hid (term_any x.l)
            have hT2 := Lib.hid (term_any x.r)
            cases hl : rightT x.l
            · have hRf : R = false := by rw [← hR.out]; exact hnc.out (rightC_l hl)
              rw [hl] at hT
              subst hRf
              clear hR hno hnc hl
              go_wp2_with ((with_reducible refine (hT.out _).mono ?_); rintro e w2 ⟨rfl, hb2⟩)
              go_ret
              exact ⟨rfl, kept_trans hb.out (kept_trans hw1.out (hfin.out _ hb2))⟩
            rw [hl] at hT
            replace hl := Lib.hid hl
            cases hr : rightT x.r
            · have hRf : R = false := by rw [← hR.out]; exact hnc.out (rightC_r hr)
              rw [hr] at hT2
              subst hRf
              clear hR hno hnc hr
              go_wp2_with fail
              (with_reducible refine (hT.out _).mono ?_)
              rintro e w2 ⟨rfl, hb2⟩
              obtain ⟨q0, q1, q2, q3, q4, q5, q6, q7, q8⟩ := (hbx.later hb2).cells
              go_wp2_with ((with_reducible refine (hT2.out _).mono ?_); rintro e w3 ⟨rfl, hb3⟩)
              go_ret
              exact ⟨rfl, kept_trans hb.out (kept_trans hw1.out (hfin.out _ (kept_trans hb2 hb3)))⟩
            rw [hr] at hT2
            replace hr := Lib.hid hr
            go_wp2_with fail
            (with_reducible refine (hT.out _).mono ?_)
            rintro e w2 ⟨rfl, hb2⟩
            obtain ⟨q0, q1, q2, q3, q4, q5, q6, q7, q8⟩ := (hbx.later hb2).cells
            go_wp2_with ((with_reducible refine (hT2.out _).mono ?_); rintro e w3 ⟨rfl, hb3⟩)
            refine ⟨⟨k + 1, by omega, by go_num, hfin.out _ (kept_trans hb2 hb3), fun j c hj hc => ?_⟩, by simp [intOf]; omega⟩
            by_cases hjk : j = k
            · subst hjk; have := hxs.out; rw [this] at hc; cases hc; exact rightC_yes hop'.out.1 hop'.out.2 hl.out hr.out
            · exact hallc.out j c (by omega) hc
          · have hRf : R = false := by rw [← hR.out]; exact hnc.out (rightC_op hop)
            subst hRf
            clear hR hno hnc
            by_cases hop1 : x.op < 1
            · clear hop
              go_wp2_with fail
              go_ret
              exact ⟨rfl, kept_trans hb.out (kept_trans hw1.out (hfin.out _ (Below.refl _ _)))⟩
            · have hop2 : 7 ≤ x.op := by omega
              clear hop
              go_wp2_with fail
              go_ret
              exact ⟨rfl, kept_trans hb.out (kept_trans hw1.out (hfin.out _ (Below.refl _ _)))⟩
        · have hltki : ¬ (k : Int) < m := by omega
          have hs' := Lib.hid (cmps_yes (i := k) hk1.out hk2.out hk3.out (by rw [hm3.out]; omega) hallc.out)
          go_wp2_with fail
          refine ⟨⟨i + 1, by omega, by go_num, kept_trans hw1.out hwi.out, fun j s' hj hs2 => ?_⟩, by simp [intOf]; omega⟩
          by_cases hji : j = i
          · subst hji; have := hsm.out; rw [this] at hs2; cases hs2; exact hs'.out
          · exact hall.out j s' (by omega) hs2
    · have hRt : R = true := by rw [← hR.out]; exact steps_yes (i := i) (by rw [hnR.out]; omega) (by rw [hnR.out]; omega) hwin.out (by rw [hnR.out]; omega) hall.out
      subst hRt
      clear hR
      have hlti : ¬ (i : Int) < n := by omega
      go_wp2_with fail
      go_ret
      exact ⟨rfl, kept_trans hb.out hwr.out⟩
end Go.Proofs.YtccmnngeibpcmaaGreat.Tree
