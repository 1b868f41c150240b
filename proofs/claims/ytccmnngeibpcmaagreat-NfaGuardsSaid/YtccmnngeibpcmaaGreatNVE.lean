/-
  Several texts in one: OD OE.
-/
import Derived.Test.YtccmnngeibpcmaaGreatNVC
/- NfaGuards' walk. -/
namespace Go.Proofs.YtccmnngeibpcmaaGreat.Tree
open Go.ChangeShapes Go.WideShapes Go.ChangeAt Go.RowKit
set_option linter.unusedVariables false
set_option linter.unusedSimpArgs false
set_option maxRecDepth 100000
attribute [local go_sem] Oper.semAt_some
set_option maxHeartbeats 8000000 in
theorem gdMain (v : Value) (L : List (Sp × Value)) (win : Int) (w : World) (h : SpsL w v L) (hl : L.length ≤ maxLen) (hq : ∀ x ∈ L, InSp w x) (hg : great (L.map (·.1)) = false) (hm : mayB (L.map (·.1)) win = true) :
    Calls Tryz.prog 4 #[ptV v win] w fun e w' => e = .returned (.bool true) ∧ Below w.heap.size w w' := by
  have hb := kept_new w (.cells #[v, .int .i64 win] 24)
  have hG := great_W win _ hl (h.later hb)
  have hp := PtBox.new w v win
  have c0 := hp.c0
  have c1 := hp.c1
  have hok := unOk_of hg hq
  have hNw := Lib.hid (fun X (hX : Below w.heap.size w X) => new_V win hok X (h.later hX))
  have hMr := Lib.hid (fun X (hX : Below w.heap.size w X) => may_R win hg X (h.later hX))
  rw [hg] at hG
  rw [hm] at hMr
  obtain ⟨hT, hrA⟩ := auto_tri hm
  have hlenA : (autoS (L.map (·.1)) win).length ≤ 324 := by
    have h1 := trieR_len (L.map (·.1)) win (rowsP (L.map (·.1))) (fun q hq => ((rows_fit hm).1 q hq).2.2)
    have h2 := ((may_good hm).rowsK_bd (posS (L.map (·.1)) 0).length).1
    rw [rowsK_all _ (Nat.le_refl _)] at h2
    unfold autoS; omega
  have hst := fun i (hi : i < (autoS (L.map (·.1)) win).length) => auto_state hm hi
  have haf := auto_after hm
  obtain ⟨a, c, rfl⟩ := h.lit rfl
  generalize hn : L.length = n at *
  obtain ⟨ps, hps⟩ : ∃ ps, L.map (·.1) = ps := ⟨_, rfl⟩
  rw [hps] at hNw hT hrA hlenA hm hst haf
  obtain ⟨au, hau⟩ : ∃ au, autoS ps win = au := ⟨_, rfl⟩
  rw [hau] at hNw hT hrA hlenA hst
  have hright := hT.right
  have hpl : ∀ s ∈ au, -1000000 ≤ s.place ∧ s.place ≤ 1000000 := fun s hs => by
    obtain ⟨i, hi⟩ := List.getElem?_of_mem hs
    have hil := (List.getElem?_eq_some_iff.1 hi).1
    have := (wayL_len hright i hil).2
    rw [stA_of hi] at this
    omega
  replace hG := Lib.hid hG
  replace hb := Lib.hid hb
  replace hp := Lib.hid hp
  replace hm := Lib.hid hm
  replace hright := Lib.hid hright
  replace hpl := Lib.hid hpl
  have hpsl : ps.length = n := by rw [← hps, List.length_map, hn]
  have hn6 := (may_good hm).len6
  have hSt : Hid (∀ X, Below w.heap.size w X → SpsL X (.slice a n c) L) := Lib.hid fun X hX => h.later hX
  have hSn : Hid (L.length = n) := Lib.hid hn
  have hSp : Hid (∀ i s (u : Value), L[i]? = some (s, u) → stepA ps i = s) := Lib.hid fun i s u hu => by rw [← hps]; exact stepA_of (by simp [hu])
  replace hst := Lib.hid hst
  replace haf := Lib.hid haf
  replace hpsl := Lib.hid hpsl
  clear h hl hn hg hok hq hT hrA hps hau
  go_enter Tryz.func4, Tryz.ntmps4
  go_upto_region 6 with (first
    | ((with_reducible refine hG.out.mono ?_); rintro e w2 ⟨rfl, hb2⟩; have hp2 := Lib.hid (hp.out.later hb2); have hB2 := Lib.hid (kept_trans hb.out hb2); have d0 := hp2.out.c0; have d1 := hp2.out.c1; have Q0 := Lib.hid (hMr.out _ hB2.out); replace hb2 := True.intro; clear hb2)
    | ((with_reducible refine Q0.out.mono ?_); rintro e w2' ⟨rfl, hb2'⟩; have hp3 := Lib.hid (hp2.out.later hb2'); have hB3 := Lib.hid (kept_trans hB2.out hb2'); have d2 := hp3.out.c0; have d3 := hp3.out.c1; have Q1 := Lib.hid (hNw.out _ hB3.out); replace hb2' := True.intro; clear hb2')
    | ((with_reducible refine Q1.out.mono ?_); rintro e w3 ⟨sv, av, wn, Ls, er, rfl, hS, ⟨A, hA, hX, -⟩, hb3⟩; obtain ⟨hLs, hAf, rfl, rfl⟩ := hX hm.out; obtain ⟨a1, c1', rfl⟩ := hS.lit rfl; obtain ⟨aa, ca, eav, hcA⟩ := id hA; subst eav; have hk3 := kept_new w3 (.cells #[.slice a1 Ls.length c1', .slice aa A.length ca, .int .i64 wn] 30); have hK3 : Hid (RnK w (.slice a n c) wn w3.heap.size (.slice a1 Ls.length c1') (.slice aa A.length ca) wn Ls A (w3.alloc (.cells #[.slice a1 Ls.length c1', .slice aa A.length ca, .int .i64 wn] 30))) := Lib.hid ⟨hp3.out.later (kept_trans hb3 hk3), AuBox.new w3 (.slice a1 Ls.length c1') (.slice aa A.length ca) wn, hS.later hk3, hA.later hk3, kept_trans hB3.out (kept_trans hb3 hk3)⟩; have Q2 := Lib.hid (rightR_V (av := .slice aa A.length ca) wn (L := Ls) (by have := congrArg List.length hLs; rw [List.length_map] at this; omega) (by rw [hLs]; exact hpl.out) _ hK3.out.2.2.1 ⟨_, _, _, rfl⟩); rw [hLs, hright.out] at Q2; replace hLs := Lib.hid hLs; replace hAf := Lib.hid hAf; clear hk3 hS hA hcA hb3 hX)
    | ((with_reducible refine Q2.out.mono ?_); rintro e w4 ⟨rfl, hb4⟩; have hK4 := Lib.hid (hK3.out.later hb4); replace hb4 := True.intro; clear hb4))
  obtain ⟨P3, hP3⟩ : ∃ P3, w3.heap.size = P3 := ⟨_, rfl⟩
  rw [hP3] at hK4 hK3 ⊢
  clear c0 c1 d0 d1 d2 d3 Q0 Q1 Q2 hK3 hG hp2 hp3 hB2 hB3 hb hp hNw hMr hP3
  obtain ⟨na, hna⟩ : ∃ na, A.length = na := ⟨_, rfl⟩
  obtain ⟨nl, hnl⟩ : ∃ nl, Ls.length = nl := ⟨_, rfl⟩
  have hnau : au.length = nl := by rw [← hLs.out, List.length_map, hnl]
  rw [hna, hnl] at hK4 ⊢
  have hnl4 : nl ≤ 324 := by omega
  have hn41 : n ≤ 6 := by have := hpsl.out; omega
  rw [← hAf.out] at haf
  replace hna := Lib.hid hna
  replace hnl := Lib.hid hnl
  replace hnau := Lib.hid hnau
  clear hlenA hn6
  obtain ⟨W4, hW4⟩ : ∃ W4, w4 = W4 := ⟨_, rfl⟩
  subst hW4
  go_wp2_with fail
  go_loopw [5, 6] (fun t5 t6 wr => ∃ i : Nat, i ≤ n ∧ t6 = .int .i64 i ∧ t5 = .int .i64 (max (lastU ps i) 0) ∧ wr = w4) (fun _ t6 _ => n - (intOf t6).toNat)
  case atStart => exact ⟨0, Nat.zero_le _, rfl, rfl, rfl⟩
  case round =>
    obtain ⟨i, hi, rfl, rfl, rfl⟩ := hrel
    have c0 := hK4.out.1.c0
    by_cases hlt : i < n
    · have hlti : (i : Int) < n := by omega
      obtain ⟨⟨sp, spv⟩, hsp⟩ : ∃ y, L[i]? = some y := ⟨_, List.getElem?_eq_getElem (by rw [hSn.out]; exact hlt)⟩
      obtain ⟨b, o, eb, z0, -⟩ := (hSt.out _ hK4.out.2.2.2.2).step hSn.out hsp
      subst eb
      have hA := hSp.out i sp spv hsp
      have hnx : Hid (lastU ps (i + 1) = if sp.neg = true then lastU ps i else (i : Int)) := Lib.hid (by simp [lastU, hA])
      clear hsp hA
      cases hneg : sp.neg with
      | true =>
        rw [hneg] at z0
        have hnx2 : lastU ps (i + 1) = lastU ps i := by rw [hnx.out, hneg]; rfl
        replace hnx2 := Lib.hid hnx2
        clear hnx hneg
        go_wp2_with fail
        exact ⟨⟨i + 1, by omega, by go_num, by rw [hnx2.out], trivial⟩, by simp [intOf]; omega⟩
      | false =>
        rw [hneg] at z0
        have hnx2 : lastU ps (i + 1) = i := by rw [hnx.out, hneg]; rfl
        replace hnx2 := Lib.hid hnx2
        clear hnx hneg
        go_wp2_with fail
        exact ⟨⟨i + 1, by omega, by go_num, by rw [hnx2.out]; congr 1; omega, trivial⟩, by simp [intOf]; omega⟩
    · obtain rfl : i = n := by omega
      have hlti : ¬ (i : Int) < i := by omega
      have hlast : max (lastU ps i) 0 = lastU ps i := by have := haf.out.1; rw [hpsl.out] at this; omega
      rw [hlast]
      clear hlast
      obtain ⟨lst, hlst⟩ : ∃ l, lastU ps i = l := ⟨_, rfl⟩
      rw [hlst]
      replace hlst := Lib.hid hlst
      go_wp2_with fail
      go_loopw [7] (fun t wr => ∃ i2 : Nat, i2 ≤ nl ∧ t = .int .i64 i2 ∧ Hid (RnK w (.slice a i c) wn P3 (.slice a1 nl c1') (.slice aa na ca) wn Ls A wr)) (fun t _ => nl - (intOf t).toNat)
      case atStart => exact ⟨0, Nat.zero_le _, rfl, hK4⟩
      case round =>
        clear hK4 hlti hlt
        obtain ⟨i2, hi2, rfl, hK⟩ := hrel
        have c0 := hK.out.2.1.c0
        by_cases hlt2 : i2 < nl
        · have hlti2 : (i2 : Int) < nl := by omega
          obtain ⟨⟨s, gv⟩, hx⟩ : ∃ y, Ls[i2]? = some y := ⟨_, List.getElem?_eq_getElem (by rw [hnl.out]; exact hlt2)⟩
          have hA : stA au i2 = s := stA_of (by rw [← hLs.out]; simp [hx])
          obtain ⟨m, e1, e2, e3, e4, e5, e6⟩ := hst.out i2 (by rw [hnau.out]; exact hlt2)
          obtain ⟨-, -, r3, r4, -⟩ := rightA_at hright.out (show i2 < au.length by rw [hnau.out]; exact hlt2)
          rw [hA] at e1 e4 e5 e6 r3 r4
          rw [hpsl.out] at e2 e6
          obtain ⟨⟨sp, spv⟩, hsp⟩ : ∃ y, L[m]? = some y := ⟨_, List.getElem?_eq_getElem (by rw [hSn.out]; exact e2)⟩
          have hsA := hSp.out m sp spv hsp
          rw [hsA] at e3 e4
          obtain ⟨b, o, eb, z0, z1, z2, z3, z4, z5⟩ := hK.out.2.2.1.at hx
          have hgN := hK.out.2.2.1.2 _ (List.mem_of_getElem? hx)
          have hkn := kept_new wr (.cells #[.int .i64 s.step, .int .i64 s.place, .bool s.strict, gv, .int .i64 s.ahead, .bool s.last] 41)
          have hbx := StBox.new wr s gv
          have hK1 := hK.out.later hkn
          obtain ⟨bp, op, ebp, y0, -, -, -, y4, -⟩ := (hSt.out _ hK1.2.2.2.2).step hSn.out hsp
          have hg1 := hgN.later hkn
          dsimp only at hg1
          obtain ⟨b1, o1, hb1e⟩ : ∃ b o, a1 = some ⟨b, o, none⟩ := ⟨b, o, eb⟩
          subst hb1e
          cases eb
          obtain ⟨b2, o2, hb2e⟩ : ∃ b o, a = some ⟨b, o, none⟩ := ⟨bp, op, ebp⟩
          subst hb2e
          cases ebp
          obtain ⟨ag, cg, egv, -⟩ := id hgN
          dsimp only at egv
          obtain ⟨gn, hgn⟩ : ∃ gn, s.gs.length = gn := ⟨_, rfl⟩
          rw [hgn] at egv
          subst egv
          rw [e1] at z0
          rw [e4] at z2
          rw [e3] at y0
          have hK1c := hK1.1.c0
          obtain ⟨q0, -, q2, -, -, -⟩ := hbx.cells
          rw [e1, e4] at hkn hbx hK1 hK1c hg1 y0 y4 q0 q2
          obtain ⟨str, hstr⟩ : ∃ b, sp.strict = b := ⟨_, rfl⟩
          rw [hstr] at z2 y4 q2 hkn hbx hK1 hK1c hg1 y0 q0
          have hbb : (str != str) = false := by cases str <;> rfl
          have hm1 : ¬ (i : Int) ≤ m := by omega
          have hm2 : (m : Int) < i := by omega
          replace hK1 := Lib.hid hK1
          replace hbx := Lib.hid hbx
          replace hg1 := Lib.hid hg1
          replace e6 := Lib.hid e6
          replace hA := Lib.hid hA
          replace hgn := Lib.hid hgn
          replace e5 := Lib.hid e5
          replace e1 := Lib.hid e1
          clear hsp hsA e3 e4 hstr hx hgN hK
          go_upto_region 16 with fail
          clear z0 z1 z2 z3 z4 z5 c0
          generalize wr.alloc (.cells #[.int .i64 m, .int .i64 s.place, .bool str, .slice ag gn cg, .int .i64 s.ahead, .bool s.last] 41) = wA at *
          have hm3 : decide ((i : Int) ≤ m) = false := by simp; omega
          go_quiet (fail)
          have hD : Below wA.heap.size wA (wA.drewN nq) := drewN_kept wA nq
          have hK2 := Lib.hid (hK1.out.later hD)
          have hb2 := Lib.hid (hbx.out.later hD)
          have hg2 := Lib.hid (hg1.out.later hD)
          clear hK1 hbx hg1 hK1c hkn y0 y4 q0 q2 hm3 hm1 hD
          go_wp2_with fail
          generalize wA.drewN nq = wB at *
          generalize wr.heap.size = B8 at *
          clear hbb
          go_loopw [9] (fun t wk => ∃ k : Nat, k ≤ i ∧ t = .int .i64 k ∧ Hid (RnK w (.slice (some ⟨bp, op, none⟩) i c) wn P3 (.slice (some ⟨b, o, none⟩) nl c1') (.slice aa na ca) wn Ls A wk) ∧ Hid (StBox B8 s (.slice ag gn cg) wk) ∧ Hid (NmsAt wk (.slice ag gn cg) s.gs)) (fun t _ => i - (intOf t).toNat)
          case atStart => exact ⟨0, Nat.zero_le _, rfl, hK2, hb2, hg2⟩
          case round =>
            clear hK2 hb2 hg2
            obtain ⟨k, hk, rfl, hKk, hbk, hgk⟩ := hrel
            have c0 := hKk.out.1.c0
            by_cases hltk : k < i
            · have hltki : (k : Int) < i := by omega
              obtain ⟨⟨sk, skv⟩, hsk⟩ : ∃ y, L[k]? = some y := ⟨_, List.getElem?_eq_getElem (by rw [hSn.out]; exact hltk)⟩
              obtain ⟨b3, o3, eb3, y0, -⟩ := (hSt.out _ hKk.out.2.2.2.2).step hSn.out hsk
              cases eb3
              have hskA := hSp.out k sk skv hsk
              have hwant := e6.out k hltk
              unfold wantB at hwant
              rw [hskA] at hwant
              obtain ⟨q0, -, -, q3, q4, -⟩ := hbk.out.cells
              have Q0 := among_any (k : Int) (by rw [hgn.out]; have := e5.out; rw [hgn.out] at this; omega) wr hgk.out
              clear hsk hskA
              by_cases ha : s.ahead < 0
              · have hres : decide ((k : Int) ∈ s.gs) = false := by rw [hwant, decide_eq_false (by omega), Bool.false_and]
                rw [hres] at Q0
                have Q1 := Lib.hid Q0
                have ha2 : ¬ (0 : Int) ≤ s.ahead := by omega
                clear hres hwant Q0 y0
                go_wp2_with ((with_reducible refine Q1.out.mono ?_); rintro e w9 ⟨rfl, rfl⟩)
                exact ⟨⟨k + 1, by omega, by go_num, hKk, hbk, hgk⟩, by simp [intOf]; omega⟩
              · have ha2 : (0 : Int) ≤ s.ahead := by omega
                rw [decide_eq_true ha2, Bool.true_and] at hwant
                cases hneg : sk.neg with
                | false =>
                  rw [hneg] at hwant y0
                  rw [Bool.false_and] at hwant
                  rw [hwant] at Q0
                  have Q1 := Lib.hid Q0
                  clear hwant Q0 hneg
                  go_wp2_with ((with_reducible refine Q1.out.mono ?_); rintro e w9 ⟨rfl, rfl⟩)
                  exact ⟨⟨k + 1, by omega, by go_num, hKk, hbk, hgk⟩, by simp [intOf]; omega⟩
                | true =>
                  rw [hneg] at hwant y0
                  rw [Bool.true_and] at hwant
                  obtain ⟨j, hj⟩ : ∃ j : Nat, s.ahead = j := ⟨s.ahead.toNat, by omega⟩
                  rw [hj] at q4 hwant r4
                  rw [show (max (j : Int) 0).toNat = j by omega] at hwant
                  have hjl : j < nl := by omega
                  obtain ⟨⟨s2, g2v⟩, hx2⟩ : ∃ y, Ls[j]? = some y := ⟨_, List.getElem?_eq_getElem (by rw [hnl.out]; exact hjl)⟩
                  have hA2 : stA au j = s2 := stA_of (by rw [← hLs.out]; simp [hx2])
                  rw [hA2] at hwant
                  obtain ⟨b4, o4, eb4, x0, -⟩ := hKk.out.2.2.1.at hx2
                  cases eb4
                  have d0 := hKk.out.2.1.c0
                  have hji : (j : Int) < nl := by omega
                  replace hj := Lib.hid hj
                  clear hx2 hA2 ha ha2 hneg
                  by_cases h1 : s2.step < (k : Int)
                  · rw [decide_eq_true h1, Bool.true_and] at hwant
                    by_cases h2 : (k : Int) < s.step
                    · rw [decide_eq_true h2] at hwant
                      rw [hwant] at Q0
                      have Q1 := Lib.hid Q0
                      clear hwant Q0
                      go_wp2_with ((with_reducible refine Q1.out.mono ?_); rintro e w9 ⟨rfl, rfl⟩)
                      exact ⟨⟨k + 1, by omega, by go_num, hKk, hbk, hgk⟩, by simp [intOf]; omega⟩
                    · rw [decide_eq_false h2] at hwant
                      rw [hwant] at Q0
                      have Q1 := Lib.hid Q0
                      clear hwant Q0
                      go_wp2_with ((with_reducible refine Q1.out.mono ?_); rintro e w9 ⟨rfl, rfl⟩)
                      exact ⟨⟨k + 1, by omega, by go_num, hKk, hbk, hgk⟩, by simp [intOf]; omega⟩
                  · rw [decide_eq_false h1, Bool.false_and] at hwant
                    rw [hwant] at Q0
                    have Q1 := Lib.hid Q0
                    clear hwant Q0
                    go_wp2_with ((with_reducible refine Q1.out.mono ?_); rintro e w9 ⟨rfl, rfl⟩)
                    exact ⟨⟨k + 1, by omega, by go_num, hKk, hbk, hgk⟩, by simp [intOf]; omega⟩
            · have hltki : ¬ (k : Int) < i := by omega
              go_wp2_with fail
              exact ⟨⟨i2 + 1, by omega, by go_num, hKk⟩, by simp [intOf]; omega⟩
        · have hlti2 : ¬ (i2 : Int) < nl := by omega
          go_wp2_with fail
          go_loopw [11] (fun t wk => ∃ k : Nat, k ≤ i ∧ t = .int .i64 k ∧ Hid (RnK w (.slice a i c) wn P3 (.slice a1 nl c1') (.slice aa na ca) wn Ls A wk)) (fun t _ => i - (intOf t).toNat)
          case atStart => exact ⟨0, Nat.zero_le _, rfl, hK⟩
          case round =>
            clear hK c0
            obtain ⟨k, hk, rfl, hKk⟩ := hrel
            have c0 := hKk.out.1.c0
            have d1 := hKk.out.2.1.c1
            by_cases hltk : k < i
            · have hltki : (k : Int) < i := by omega
              obtain ⟨⟨sk, skv⟩, hsk⟩ : ∃ y, L[k]? = some y := ⟨_, List.getElem?_eq_getElem (by rw [hSn.out]; exact hltk)⟩
              obtain ⟨b3, o3, eb3, y0, -⟩ := (hSt.out _ hKk.out.2.2.2.2).step hSn.out hsk
              subst eb3
              have hskA := hSp.out k sk skv hsk
              have hwant := haf.out.2.2 k (by rw [hpsl.out]; exact hltk)
              rw [hskA, hpsl.out, hlst.out] at hwant
              have Q0 := fun m => among_any (v := .slice aa na ca) (l := A) (k : Int) (by have := haf.out.2.1; omega) (wr.drewN m) (hKk.out.2.2.2.1.later (drewN_kept wr m))
              clear hsk hskA
              cases hneg : sk.neg with
              | false =>
                rw [hneg] at hwant y0
                rw [Bool.false_and] at hwant
                rw [hwant] at Q0
                have Q1 := Lib.hid Q0
                clear hwant Q0 hneg
                go_upto_region 27 with fail
                go_quiet (exact Calls.quiet_of_same (Q1.out _))
                have hKd := Lib.hid (hKk.out.later (drewN_kept wr nq))
                clear c0 d1 y0
                go_wp2_with fail
                exact ⟨⟨k + 1, by omega, by go_num, hKd⟩, by simp [intOf]; omega⟩
              | true =>
                rw [hneg] at hwant y0
                rw [Bool.true_and] at hwant
                by_cases h1 : lst < (k : Int)
                · have h1d : decide (lst < (k : Int)) = true := decide_eq_true h1
                  rw [h1d] at hwant
                  rw [hwant] at Q0
                  have Q1 := Lib.hid Q0
                  clear hwant Q0 hneg
                  go_upto_region 27 with fail
                  go_quiet (exact Calls.quiet_of_same (Q1.out _))
                  have hKd := Lib.hid (hKk.out.later (drewN_kept wr nq))
                  clear c0 d1 y0
                  go_wp2_with fail
                  exact ⟨⟨k + 1, by omega, by go_num, hKd⟩, by simp [intOf]; omega⟩
                · have h1d : decide (lst < (k : Int)) = false := decide_eq_false h1
                  rw [h1d] at hwant
                  rw [hwant] at Q0
                  have Q1 := Lib.hid Q0
                  clear hwant Q0 hneg
                  go_upto_region 27 with fail
                  go_quiet (exact Calls.quiet_of_same (Q1.out _))
                  have hKd := Lib.hid (hKk.out.later (drewN_kept wr nq))
                  clear c0 d1 y0
                  go_wp2_with fail
                  exact ⟨⟨k + 1, by omega, by go_num, hKd⟩, by simp [intOf]; omega⟩
            · have hltki : ¬ (k : Int) < i := by omega
              go_wp2_with ((with_reducible refine (wakes_any _).mono ?_); rintro e w8 ⟨rfl, hb8⟩)
              go_ret
              exact ⟨rfl, kept_trans hKk.out.2.2.2.2 hb8⟩
end Go.Proofs.YtccmnngeibpcmaaGreat.Tree
/- NfaGuards: patterns that are too great, or may not be; the whole. -/
namespace Go.Proofs.YtccmnngeibpcmaaGreat.Tree
open Go.ChangeShapes Go.WideShapes Go.ChangeAt Go.RowKit
set_option linter.unusedVariables false
set_option linter.unusedSimpArgs false
set_option maxRecDepth 100000
attribute [local go_sem] Oper.semAt_some
set_option maxHeartbeats 1000000 in
theorem gdGreat (v : Value) (L : List (Sp × Value)) (win : Int) (w : World) (h : SpsL w v L) (hl : L.length ≤ maxLen) (hg : great (L.map (·.1)) = true) :
    Calls Tryz.prog 4 #[ptV v win] w fun e w' => e = .returned (.bool true) ∧ Below w.heap.size w w' := by
  have hb := kept_new w (.cells #[v, .int .i64 win] 24)
  have hG := great_W win _ hl (h.later hb)
  have hp := PtBox.new w v win
  have c0 := hp.c0
  have c1 := hp.c1
  rw [hg] at hG
  obtain ⟨a, c, rfl⟩ := h.lit rfl
  generalize hn : L.length = n at *
  replace hG := Lib.hid hG
  replace hb := Lib.hid hb
  clear hp h hl hn hg
  go_enter Tryz.func4, Tryz.ntmps4
  go_wp2_with (first
    | ((with_reducible refine hG.out.mono ?_); rintro e w2 ⟨rfl, hb2⟩)
    | ((with_reducible refine (wakes_any _).mono ?_); rintro e w3 ⟨rfl, hb3⟩))
  go_ret
  exact ⟨rfl, kept_trans hb.out (kept_trans hb2 hb3)⟩
set_option maxHeartbeats 1000000 in
theorem gdBad (v : Value) (L : List (Sp × Value)) (win : Int) (w : World) (h : SpsL w v L) (hl : L.length ≤ maxLen) (hg : great (L.map (·.1)) = false) (hm : mayB (L.map (·.1)) win = false) :
    Calls Tryz.prog 4 #[ptV v win] w fun e w' => e = .returned (.bool true) ∧ Below w.heap.size w w' := by
  have hb := kept_new w (.cells #[v, .int .i64 win] 24)
  have hG := great_W win _ hl (h.later hb)
  have hp := PtBox.new w v win
  have c0 := hp.c0
  have c1 := hp.c1
  have hMr := Lib.hid (fun X (hX : Below w.heap.size w X) => may_R win hg X (h.later hX))
  rw [hg] at hG
  rw [hm] at hMr
  obtain ⟨a, c, rfl⟩ := h.lit rfl
  generalize hn : L.length = n at *
  replace hG := Lib.hid hG
  replace hb := Lib.hid hb
  replace hp := Lib.hid hp
  clear h hl hn hg hm
  go_enter Tryz.func4, Tryz.ntmps4
  go_wp2_with (first
    | ((with_reducible refine hG.out.mono ?_); rintro e w2 ⟨rfl, hb2⟩; have hp2 := Lib.hid (hp.out.later hb2); have hB2 := Lib.hid (kept_trans hb.out hb2); have d0 := hp2.out.c0; have d1 := hp2.out.c1; have Q1 := Lib.hid (hMr.out _ hB2.out); replace hb2 := True.intro; clear hb2)
    | ((with_reducible refine Q1.out.mono ?_); rintro e w4 ⟨rfl, hb4⟩; have hB4 := Lib.hid (kept_trans hB2.out hb4); replace hb4 := True.intro; clear hb4)
    | ((with_reducible refine (wakes_any _).mono ?_); rintro e w3 ⟨rfl, hb3⟩))
  go_ret
  exact ⟨rfl, kept_trans hB4.out hb3⟩
theorem nfaGuardsWalk (v : Value) (L : List (Sp × Value)) (win : Int) (w : World) (h : SpsL w v L) (hl : L.length ≤ maxLen) (hq : ∀ x ∈ L, InSp w x) :
    Calls Tryz.prog 4 #[ptV v win] w fun e w' => e = .returned (.bool true) ∧ Below w.heap.size w w' := by
  cases hg : great (L.map (·.1)) with
  | true => exact gdGreat v L win w h hl hg
  | false =>
    cases hm : mayB (L.map (·.1)) win with
    | false => exact gdBad v L win w h hl hg hm
    | true => exact gdMain v L win w h hl hq hg hm
end Go.Proofs.YtccmnngeibpcmaaGreat.Tree
