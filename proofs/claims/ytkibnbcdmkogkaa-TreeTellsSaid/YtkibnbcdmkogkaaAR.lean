/-
  TreeLess's walk.
-/
import Derived.Test.YtkibnbcdmkogkaaAQ
import Derived.Test.YtkibnbcdmkogkaaAO
import Derived.Test.YtkibnbcdmkogkaaAL
import Derived.Deep.DeepCutAuto
import Derived.StillTailTactics
import Derived.Deep.CutBlock
import Derived.Deep.RegionHeld3
import Derived.BigRegion
namespace Go.Proofs.Ytkibnbcdmkogkaa
open Go.ChangeShapes Go.WideShapes Go.ChangeAt Go.RowKit
set_option linter.unusedVariables false
set_option linter.unusedSimpArgs false
attribute [local go_sem] Oper.semAt_some
/-- What the law reads all along: the pattern's box and its steps. -/
def PsK (w : World) (a : Option Addr) (n c : Nat) (win : Int) (L : List (Sp × Value)) (W : World) : Prop := PtBox w.heap.size (.slice a n c) win W ∧ SpsL W (.slice a n c) L ∧ Below w.heap.size w W
theorem PsK.later {w : World} {a : Option Addr} {n c : Nat} {win : Int} {L : List (Sp × Value)} {W W' : World} (h : PsK w a n c win L W) (hb : Below W.heap.size W W') : PsK w a n c win L W' := ⟨h.1.later hb, h.2.1.later hb, kept_trans h.2.2 hb⟩
theorem still_min {o : Oper} {a : Act} {w : World} {K : Act → Prop} (s x : Operand)
    (ho : o.op = .call { callee := .builtin .min, args := #[s, x], argTypes := #[3, 3] }) (p q r : Int) (hs : a.eval s = .int .i64 p) (hx : a.eval x = .int .i64 q) (hr : min p q = r) (h : K (a.put o.dst (.int .i64 r))) :
    o.still Try.prog a w K := by
  have e : (if q < p then q else p) = r := by rw [← hr]; split <;> omega
  have hr2 : (Builtin.min_ #[3, 3] o.type #[.int .i64 p, .int .i64 q]).run Try.prog w = .ok (.int .i64 r) w := by
    simp [Builtin.min_, Builtin.min2, e]
  unfold Oper.still
  simp [execOp, ho, resolve, invoke, builtin, hs, hx, hr2, Result.andThen, Oper.stillUpon]
  exact h
/-- Beside that, the law's pattern with less. -/
def LsK (w : World) (a : Option Addr) (n c : Nat) (win : Int) (L : List (Sp × Value)) (P g q cap : Nat) (N : List (Sp × Value)) (W : World) : Prop :=
  PsK w a n c win L W ∧ PtBox P (.slice (some ⟨g, 0, none⟩) q cap) win W ∧ SpsL W (.slice (some ⟨g, 0, none⟩) q cap) N
section
variable {w : World} {a : Option Addr} {n c : Nat} {win : Int} {L N : List (Sp × Value)} {P g q cap : Nat} {X : World}
theorem LsK.later {W' : World} (h : LsK w a n c win L P g q cap N X) (hb : Below X.heap.size X W') : LsK w a n c win L P g q cap N W' := ⟨h.1.later hb, h.2.1.later hb, h.2.2.later hb⟩
theorem LsK.all (h : LsK w a n c win L P g q cap N X) : (X.cell? ⟨w.heap.size, 0, none⟩ = some (.slice a n c) ∧ X.cell? ⟨w.heap.size, 1, none⟩ = some (.int .i64 win) ∧ X.cell? ⟨P, 0, none⟩ = some (.slice (some ⟨g, 0, none⟩) q cap) ∧ X.cell? ⟨P, 1, none⟩ = some (.int .i64 win)) ∧ LsK w a n c win L P g q cap N X :=
  ⟨⟨h.1.1.c0, h.1.1.c1, h.2.1.c0, h.2.1.c1⟩, h⟩
theorem lsRight1 (hS : Short L) (ho : OpsOk L) (hr : rightP (L.map (·.1)) win = true) (h : LsK w a n c win L P g q cap N X) :
    Calls Try.prog 15 #[.agg #[.slice a n c, .int .i64 win]] X fun e Y => e = .returned (.bool true) ∧ LsK w a n c win L P g q cap N Y ∧ Below X.heap.size X Y :=
  (right_V win hS ho X h.1.2.1).mono fun e Y ⟨he, hb⟩ => ⟨by rw [he, hr], h.later hb, hb⟩
theorem lsRight2 (hS : Short N) (ho : OpsOk N) (hr : rightP (N.map (·.1)) win = true) (h : LsK w a n c win L P g q cap N X) :
    Calls Try.prog 15 #[.agg #[.slice (some ⟨g, 0, none⟩) q cap, .int .i64 win]] X fun e Y => e = .returned (.bool true) ∧ LsK w a n c win L P g q cap N Y ∧ Below X.heap.size X Y :=
  (right_V win hS ho X h.2.2).mono fun e Y ⟨he, hb⟩ => ⟨by rw [he, hr], h.later hb, hb⟩
theorem lsSize1 {z : Int} (hS : Small (L.map (·.1))) (hz : sizeP (L.map (·.1)) = z) (h : LsK w a n c win L P g q cap N X) :
    Calls Try.prog 21 #[.agg #[.slice a n c, .int .i64 win]] X fun e Y => e = .returned (.int .i64 z) ∧ LsK w a n c win L P g q cap N Y ∧ Below X.heap.size X Y :=
  (size_V win hS X h.1.2.1).mono fun e Y ⟨he, hb⟩ => ⟨by rw [he, hz], h.later hb, hb⟩
theorem lsSize2 {z : Int} (hS : Small (N.map (·.1))) (hz : sizeP (N.map (·.1)) = z) (h : LsK w a n c win L P g q cap N X) :
    Calls Try.prog 21 #[.agg #[.slice (some ⟨g, 0, none⟩) q cap, .int .i64 win]] X fun e Y => e = .returned (.int .i64 z) ∧ LsK w a n c win L P g q cap N Y ∧ Below X.heap.size X Y :=
  (size_V win hS X h.2.2).mono fun e Y ⟨he, hb⟩ => ⟨by rw [he, hz], h.later hb, hb⟩
end
set_option maxRecDepth 100000 in
set_option maxHeartbeats 4000000 in
theorem lessWalk (hwk : WakesOkA) (a : Option Addr) (n c : Nat) (L : List (Sp × Value)) (win at_ nn : Int) (w : World) (hn : L.length = n) (hb1 : n ≤ 9223372036854775807) (h : SpsL w (.slice a n c) L) (hq : OpsOk L) :
    Calls Try.prog 4 #[ptV (.slice a n c) win, .int .i64 at_, .int .i64 nn] w fun e w' => e = .returned (.bool true) ∧ Below w.heap.size w w' := by
  have hP := PtBox.new w (.slice a n c) win
  have hb := kept_new w (.cells #[.slice a n c, .int .i64 win] 24)
  have h0 := h.later hb
  clear h
  go_enter Try.func4, Try.ntmps4
  obtain ⟨W0, hW0⟩ : ∃ W0, (w.alloc (.cells #[.slice a n c, .int .i64 win] 24)) = W0 := ⟨_, rfl⟩
  rw [hW0] at hP h0 hb
  have hI0 := Lib.hid (show PsK w a n c win L W0 from ⟨hP, h0, hb⟩)
  have k0 := hP.c0
  have k1 := hP.c1
  have hG := Lib.hid (great_W (v := .slice a n c) win W0 (by unfold maxLen; omega) h0)
  have hNl : Hid ((L.map (·.1)).length = n) := by show _ = _; simp [hn]
  replace hn := Lib.hid hn
  replace hq := Lib.hid hq
  cases hg : great (L.map (·.1))
  case true =>
    rw [hg] at hG
    go_wp2_with fail
    (with_reducible refine hG.out.mono ?_)
    rintro e w1 ⟨rfl, q1⟩
    have hI1 := Lib.hid (hI0.out.later q1)
    have k0 := hI1.out.1.c0
    go_wp2_with ((with_reducible refine (hwk _).mono ?_); rintro e w2 ⟨rfl, hb2⟩)
    go_ret
    exact ⟨rfl, kept_trans hI1.out.2.2 hb2⟩
  rw [hg] at hG
  obtain ⟨hS, h40, h20⟩ := Small.of_great hg
  have hn40 : n ≤ 40 := by have := hNl.out; omega
  replace hS := Lib.hid hS
  replace h20 := Lib.hid h20
  clear hg h40
  obtain ⟨R, hR⟩ : ∃ R, rightP (L.map (·.1)) win = R := ⟨_, rfl⟩
  replace hR := Lib.hid hR
  go_wp2_with fail
  (with_reducible refine hG.out.mono ?_)
  rintro e w1 ⟨rfl, q1⟩
  clear hG
  have hI1 := Lib.hid (hI0.out.later q1)
  clear hI0 hW0 hP h0 hb q1 k0 k1
  have k0 := hI1.out.1.c0
  have k1 := hI1.out.1.c1
  have hRR := Lib.hid (refRight_V win hS.out.short w1 hI1.out.2.1)
  rw [hR.out] at hRR
  go_wp2_with fail
  (with_reducible refine hRR.out.mono ?_)
  rintro e w2 ⟨rfl, q2⟩
  clear hRR
  have hI2 := Lib.hid (hI1.out.later q2)
  clear hI1 q2 k0 k1
  have k0 := hI2.out.1.c0
  have k1 := hI2.out.1.c1
  cases R
  case false =>
    go_wp2_with ((with_reducible refine (hwk _).mono ?_); rintro e w2 ⟨rfl, hb2⟩)
    go_ret
    exact ⟨rfl, kept_trans hI2.out.2.2 hb2⟩
  by_cases hl1 : nn < 1
  · go_wp2_with ((with_reducible refine (hwk _).mono ?_); rintro e w2 ⟨rfl, hb2⟩)
    go_ret
    exact ⟨rfl, kept_trans hI2.out.2.2 hb2⟩
  by_cases hl2 : 1000 < nn
  · go_wp2_with ((with_reducible refine (hwk _).mono ?_); rintro e w2 ⟨rfl, hb2⟩)
    go_ret
    exact ⟨rfl, kept_trans hI2.out.2.2 hb2⟩
  obtain ⟨t, rfl⟩ : ∃ t : Nat, nn = (t : Int) + 1 := ⟨(nn - 1).toNat, by omega⟩
  have ht : t ≤ 999 := by omega
  have hn1 : 0 < n := by have := (rightP_parts hR.out).1; have := hNl.out; omega
  have hnz : ((n : Int) == 0) = false := by simp; omega
  have hn0' : ¬ (n : Int) = 0 := by omega
  go_upto_region 3 with fail
  go_cut [1] (fun t wx => ∃ k : Nat, k < n ∧ t = .int .i64 k ∧ ∃ q, wx = w2.drewN q)
  case first =>
    go_wp2_with fail
    go_quiet (fail)
    go_wp2_with fail
    go_meet
    obtain ⟨k, hk, e⟩ := rem_k at_ n (by omega) (by omega)
    exact ⟨k, hk, congrArg _ e, _, rfl⟩
  case rest =>
    obtain ⟨j, hj, rfl, q, rfl⟩ := hcut
    have hI3 := Lib.hid (hI2.out.later (drewN_kept w2 q))
    have k0' : (w2.drewN q).cell? ⟨w.heap.size, 0, none⟩ = some (.slice a n c) := k0
    have k1' : (w2.drewN q).cell? ⟨w.heap.size, 1, none⟩ = some (.int .i64 win) := k1
    clear hI2 k0 k1 hl1 hl2 hnz hn0'
    generalize w2.drewN q = w3 at *
    have hO := Lib.hid (refOwn_D a n c win L hS.out.fits w3 hn.out hI3.out.2.1)
    go_wp2_with fail
    (with_reducible refine hO.out.mono ?_)
    rintro e w4 ⟨v, L', rfl, hOwn, hmap, hap, hb4⟩
    clear hO
    have hL'n : L'.length = n := by have := congrArg List.length hmap; simpa [hn.out] using this
    obtain ⟨g, cap, rfl, hcap, hg3⟩ := own_lit hOwn hL'n hn1
    clear k0' k1'
    have hjc : (j : Int) + 1 ≤ cap := by omega
    go_wp2_with fail
    obtain ⟨⟨s, u⟩, hx⟩ := sps_i (L := L') (i := j) (by omega)
    have hsm : (L.map (·.1))[j]? = some s := by rw [← hmap]; exact map_fst hx
    have hm20 : s.cs.length ≤ 20 := h20.out s (List.mem_of_getElem? hsm)
    obtain ⟨m, hm⟩ : ∃ m, s.cs.length = m := ⟨_, rfl⟩
    have hou := hOwn.2 _ (List.mem_of_getElem? hx)
    obtain ⟨a2, c2, rfl, hmc⟩ := own_cap hou hm
    obtain ⟨k, hk⟩ : ∃ k : Nat, min (m : Int) t = k := ⟨(min (m : Int) t).toNat, by omega⟩
    have hkm : k ≤ m := by omega
    have hkc : (k : Int) ≤ c2 := by omega
    have hk5 := kept_new w4 (.cells #[.slice (some ⟨g, 0, none⟩) (j + 1) cap, .int .i64 win] 24)
    have hP5 := PtBox.new w4 (.slice (some ⟨g, 0, none⟩) (j + 1) cap) win
    have hb5 := Lib.hid (kept_trans hb4 hk5)
    have hgP := hOwn.1.lt g rfl
    have hOwn5 := hOwn.later hk5
    rw [hm] at hm20
    have hr5 := hOwn5.1
    rw [hL'n] at hr5
    obtain ⟨z0, z1, z2, z3, z4, z5, z6⟩ := row_step hr5 hj hx
    generalize (w4.alloc (.cells #[.slice (some ⟨g, 0, none⟩) (j + 1) cap, .int .i64 win] 24)) = W5 at *
    obtain ⟨P1, hP1⟩ : ∃ P1, w4.heap.size = P1 := ⟨_, rfl⟩
    rw [hP1] at hP5 ⊢
    have d0 : W5.drew.cell? ⟨P1, 0, none⟩ = some (.slice (some ⟨g, 0, none⟩) (j + 1) cap) := hP5.c0
    have d5 : W5.drew.cell? ⟨g, j * 6 + 5, none⟩ = some (.slice a2 m c2) := z5
    have d6 : W5.drew.frozen? ⟨g, j * 6 + 5, none⟩ = false := z6
    have hjj : (j : Int) < (j : Int) + 1 := by omega
    clear z0 z1 z2 z3 z4 z5 z6
    have hwt : IntKind.i64.wrap (t : Int) = t := wrap_nat (by omega)
    have hmx : Try.prog.follows .mixedOrders = true := by kernel_rfl
    refine wp_region_still_tail 22 hmx (by kernel_rfl) ?_
    change wpStill _ _ W5.drew _ _ _
    simp only [List.take_succ_cons, List.take_zero, List.drop_succ_cons, List.drop_zero]
    iterate 18 still_step
    (refine wpStill_step (fun K hK => ?_); refine still_min (.tmp 63) (.tmp 65) (by rfl) m t k (by rfl) (by rfl) hk ?_; refine hK _ ?_; clear hK K)
    repeat still_step
    refine wpStill_nil ?_
    change wpList _ _ _ _ _ W5.drew
    go_upto_region 7 with fail
    obtain ⟨N, hN, hNm, hNy⟩ := less_mem (hOwn5.later ((Below.refl _ W5).drew)) hL'n hj hx hm hkm
    have hB6 := ((hb5.out.drew).setCell (p := ⟨g, j * 6 + 5, none⟩) hg3 (.slice a2 k c2))
    have hI6 := hI3.out.later hB6
    have hP6 : PtBox P1 (.slice (some ⟨g, 0, none⟩) (j + 1) cap) win (W5.drew.setCell ⟨g, j * 6 + 5, none⟩ (.slice a2 k c2)) := block_far (show W5.drew.heap[P1]? = _ from hP5) (by omega) _ _
    have hK6 : LsK w a n c win L P1 g (j + 1) cap N (W5.setCell ⟨g, j * 6 + 5, none⟩ (.slice a2 k c2)).drew := ⟨hI6, hP6, hN⟩
    clear hI6 hP6 hN hB6
    generalize (W5.setCell ⟨g, j * 6 + 5, none⟩ (.slice a2 k c2)).drew = W6 at *
    have hjl : (L.map (·.1))[j]? = some s := hsm
    rw [hmap] at hNm
    have hNr : rightP (N.map (·.1)) win = true := by rw [hNm]; exact lessP_right hsm hR.out
    have hNs : sizeP (N.map (·.1)) ≤ sizeP (L.map (·.1)) := by rw [hNm]; exact lessP_size hsm
    have hLq : OpsOk L := hq.out
    have hNSm : Small (N.map (·.1)) := by
      rw [hNm]
      refine ⟨by rw [lessP_len hsm]; omega, fun y hy => ?_⟩
      rcases lessP_mem hy with rfl | hy
      · show (s.cs.take k).length ≤ 100
        rw [List.length_take]; omega
      · exact Nat.le_trans (h20.out y hy) (by omega)
    have hNo : OpsOk N := by
      intro y hy cp hcp
      have hys : y.1 ∈ lessP (L.map (·.1)) j k s := by rw [← hNm]; exact List.mem_map.2 ⟨y, hy, rfl⟩
      rcases lessP_mem hys with e | hy2
      · rw [e] at hcp
        obtain ⟨z, hz, hz2⟩ := List.mem_map.1 (List.mem_of_getElem? hsm)
        exact hLq z hz cp (by rw [hz2]; exact List.mem_of_mem_take hcp)
      · obtain ⟨z, hz, hz2⟩ := List.mem_map.1 hy2
        exact hLq z hz cp (by rw [hz2]; exact hcp)
    obtain ⟨zl, hzl⟩ : ∃ z, sizeP (L.map (·.1)) = z := ⟨_, rfl⟩
    obtain ⟨zn, hzn⟩ : ∃ z, sizeP (N.map (·.1)) = z := ⟨_, rfl⟩
    rw [hzl, hzn] at hNs
    have hzz : ¬ zl < zn := by omega
    have hzd : decide (zl < zn) = false := decide_eq_false hzz
    have A1 := Lib.hid (fun X (h : LsK w a n c win L P1 g (j + 1) cap N X) => lsRight1 hS.out.short hq.out hR.out h)
    have A2 := Lib.hid (fun X (h : LsK w a n c win L P1 g (j + 1) cap N X) => lsRight2 hNSm.short hNo hNr h)
    have A3 := Lib.hid (fun X (h : LsK w a n c win L P1 g (j + 1) cap N X) => lsSize1 hS.out hzl h)
    have A4 := Lib.hid (fun X (h : LsK w a n c win L P1 g (j + 1) cap N X) => lsSize2 hNSm hzn h)
    clear hzl hzn hNm hNy hNr hNs hNo hNSm hLq hjl d0 d5 d6 hjj hwt hOwn hOwn5 hr5 hx hsm hou hP5 hk5 hb5 hcap hg3 hL'n hmap hap hb4
    go_cut [84] (fun t wx => t = .bool false ∧ PsK w a n c win L wx)
    case first =>
      have hK6d := hK6.later (Below.refl _ _).drew
      go_region_held3 (fun X => (X.cell? ⟨w.heap.size, 0, none⟩ = some (.slice a n c) ∧ X.cell? ⟨w.heap.size, 1, none⟩ = some (.int .i64 win) ∧ X.cell? ⟨P1, 0, none⟩ = some (.slice (some ⟨g, 0, none⟩) (j + 1) cap) ∧ X.cell? ⟨P1, 1, none⟩ = some (.int .i64 win)) ∧ LsK w a n c win L P1 g (j + 1) cap N X) (first | exact LsK.all hK6d | (try go_split_ands); exact LsK.all ‹LsK w a n c win L P1 g (j + 1) cap N _›) (first
        | (go_at_call 15; (try go_split_ands); (with_reducible refine (A1.out _ ‹LsK w a n c win L P1 g (j + 1) cap N _›).mono ?_); rintro e X ⟨rfl, hK1, hb1'⟩)
        | (go_at_call 15; (try go_split_ands); (with_reducible refine (A2.out _ ‹LsK w a n c win L P1 g (j + 1) cap N _›).mono ?_); rintro e X ⟨rfl, hK2, hb2'⟩)
        | (go_at_call 21; (try go_split_ands); (with_reducible refine (A3.out _ ‹LsK w a n c win L P1 g (j + 1) cap N _›).mono ?_); rintro e X ⟨rfl, hK3, hb3'⟩)
        | (go_at_call 21; (try go_split_ands); (with_reducible refine (A4.out _ ‹LsK w a n c win L P1 g (j + 1) cap N _›).mono ?_); rintro e X ⟨rfl, hK4, hb4'⟩)
        | fail)
      all_goals (go_wp2_with fail; go_meet; (try go_split_ands); exact ⟨rfl, (‹LsK w a n c win L P1 g (j + 1) cap N _›).1⟩)
    case rest =>
      obtain ⟨rfl, hI7⟩ := hcut
      replace hI7 := Lib.hid hI7
      clear A1 A2 A3 A4 hK6 hI3
      go_wp2_with fail
      go_loopw [8] (fun t wt => ∃ i : Nat, i ≤ 8 ∧ t = .int .i64 i ∧ Hid (PsK w a n c win L wt)) (fun t _ => 8 - (intOf t).toNat)
      case atStart => exact ⟨0, by omega, rfl, hI7.out⟩
      case round =>
        obtain ⟨i, hi, rfl, hIr⟩ := hrel
        have k0 := hIr.out.1.c0
        have k1 := hIr.out.1.c1
        clear hI7
        by_cases hlt : i < 8
        · have hlti : (i : Int) < 8 := by omega
          have hO := Lib.hid (refOwn_D a n c win L hS.out.fits wr hn.out hIr.out.2.1)
          go_wp2_with fail
          (with_reducible refine hO.out.mono ?_)
          rintro e w8 ⟨v, M, rfl, hOwn, hmap, hap, hb8⟩
          clear hO
          have hMn : M.length = n := by have := congrArg List.length hmap; simpa [hn.out] using this
          obtain ⟨g, cap, rfl, hcap, hg8⟩ := own_lit hOwn hMn hn1
          have hjn : (j : Int) < n := by omega
          clear k0 k1
          have hb9 := kept_new w8 (.cells #[.slice (some ⟨g, 0, none⟩) n cap, .int .i64 win] 24)
          have hP9 := PtBox.new w8 (.slice (some ⟨g, 0, none⟩) n cap) win
          have hOwn9 := hOwn.later hb9
          have hgP := hOwn.1.lt g rfl
          have hP8 := hb8.size
          obtain ⟨⟨s2, u⟩, hx⟩ := sps_i (L := M) (i := j) (by omega)
          have hsm : (L.map (·.1))[j]? = some s2 := by rw [← hmap]; exact map_fst hx
          obtain ⟨m2, hm2⟩ : ∃ m, s2.cs.length = m := ⟨_, rfl⟩
          have hM20 : ∀ y ∈ M, y.1.cs.length ≤ 20 := fun y hy => h20.out y.1 (by rw [← hmap]; exact List.mem_map.2 ⟨y, hy, rfl⟩)
          have hMq : OpsOk M := by
            intro y hy cp hcp
            have hys : y.1 ∈ L.map (·.1) := by rw [← hmap]; exact List.mem_map.2 ⟨y, hy, rfl⟩
            obtain ⟨z, hz, hz2⟩ := List.mem_map.1 hys
            exact hq.out z hz cp (by rw [hz2]; exact hcp)
          have hb9' := kept_trans hb8 hb9
          have hr9 := hOwn9.1
          rw [hMn] at hr9
          obtain ⟨z0, z1, z2, z3, z4, z5, z6⟩ := row_step hr9 hj hx
          have f1 := row_f hr9 (j * 6 + 1)
          have f3 := row_f hr9 (j * 6 + 3)
          go_upto_block 2 with fail
          generalize hW9 : w8.alloc (.cells #[.slice (some ⟨g, 0, none⟩) n cap, .int .i64 win] 24) = W9 at *
          generalize hP2 : w8.heap.size = P2 at *
          have hou9 := hOwn9.2 _ (List.mem_of_getElem? hx)
          have hLx : Hid (LxK wr P2 g n cap j m2 win M s2 u W9) := ⟨hP9, hOwn9, hap, hMn, hx, hm2, hb9', by omega, hg8, hP8, hn40, hM20, hMq⟩
          have p1 := hP9.c1
          have pf := hP9.f 1
          have hB9 := hb9'
          have hm20 : m2 ≤ 20 := by rw [← hm2]; exact hM20 _ (List.mem_of_getElem? hx)
          unfold OwnCps at hou9
          dsimp only at hou9
          rw [hm2] at hou9
          replace hm2 := Lib.hid hm2
          clear hOwn hOwn9 hmap hap hMn hcap hg8 hx hsm hM20 hMq hr9 hb9 hb9' hP9 hgP hP8 hb8 z0 z2 z4
          go_cut [] from 85 to 195 (fun wx => BadQ wr P2 g n cap wx)
          case first =>
            obtain ⟨i0, hi0, hz0, hz1, hz2⟩ := info_parts Try.info45
            replace hi0 := Lib.hid hi0
            have ht1 : (1 : Int) ≤ (t : Int) + 1 := by omega
            obtain ⟨r, hr99⟩ : ∃ r, min ((t : Int) + 1) 99 = r := ⟨_, rfl⟩
            have hr0 : 1 ≤ r := by omega
            have hr1 : r ≤ 99 := by omega
            have hb63 : m2 + 1 ≤ maxLen := by unfold maxLen; omega
            have hb72 : (m2 + 1) * 72 ≤ 140737488355328 := by omega
            have hBs := hB9.size
            have hr6 : 0 ≤ 6 + r := by omega
            have ei : i = 0 ∨ i = 1 ∨ i = 2 ∨ i = 3 ∨ i = 4 ∨ i = 5 ∨ i = 6 ∨ i = 7 := by omega
            obtain ⟨r1, r2⟩ := r_w hr0 hr1
            have n1 := neg_w ht
            have n3 := max_w ht
            have n6 := low_w ht
            have n7 := r25_w ht
            replace hb63 := Lib.hid hb63
            replace hb72 := Lib.hid hb72
            replace hBs := Lib.hid hBs
            replace hr99 := Lib.hid hr99
            obtain rfl | rfl | rfl | rfl | rfl | rfl | rfl | rfl := ei
            · have hbq := Lib.hid (hLx.out.num (s' := { s2 with kind := -((t : Int) + 1) }) (f := 1) (k := -((t : Int) + 1)) (spsCells_set1 hLx.out.2.2.2.2.1 _) rfl (bad_k ht1))
              clear n3 n6 n7 r1 r2
              go_wp2_with fail
              go_meet
              exact hbq.out
            · have hbq := Lib.hid (hLx.out.num (s' := { s2 with max := 1099511627776 + ((t : Int) + 1) }) (f := 3) (k := 1099511627776 + ((t : Int) + 1)) (spsCells_set3 hLx.out.2.2.2.2.1 _) rfl (bad_m ht1))
              clear n1 n6 n7 r1 r2
              go_wp2_with fail
              go_meet
              exact hbq.out
            · have hbq := Lib.hid (hLx.out.wnd (-((t : Int) + 1)) (bad_w ht1))
              clear n3 n6 n7 r1 r2
              go_wp2_with fail
              go_meet
              exact hbq.out
            · have hxb : rightC (⟨6 + r, ⟨0, 0, 0, 0⟩, ⟨0, 0, 0, 0⟩⟩ : Cp) = false := bad_3 hr0
              have hxo : 0 ≤ (⟨6 + r, ⟨0, 0, 0, 0⟩, ⟨0, 0, 0, 0⟩⟩ : Cp).op := by exact hr6
              have hA := Lib.hid (fun W2 v tmp => hLx.out.add (W2 := W2) (v := v) (tmp := tmp) hxb hxo)
              have hnew := cells_newA W9 (cpsCells [(⟨6 + r, ⟨0, 0, 0, 0⟩, ⟨0, 0, 0, 0⟩⟩ : Cp)]) 45
              clear n1 n3 n6 n7
              replace hxb := Lib.hid hxb
              replace hxo := Lib.hid hxo
              replace hnew := Lib.hid hnew
              have hr99o := hr99.out
              go_wp2_with (first
                | (at_builtin; refine wpList_append_cells rfl (.tmp 121) (.tmp 127) 34 rfl wr.heap.size 45 i0 _ 9 72 Try.underlying34 hi0.out hz0 hz1 hz2 rfl (by decide) u m2 (cpsCells s2.cs) rfl (World.ownsRow.alloc hou9 _) (some ⟨W9.heap.size, 0, none⟩) 1 1 (cpsCells [(⟨6 + r, ⟨0, 0, 0, 0⟩, ⟨0, 0, 0, 0⟩⟩ : Cp)]) rfl rfl hnew.out cps_one hb63.out hb72.out (by rw [World.size_alloc]; exact Nat.le_succ_of_le hBs.out) ?_; intro v' w10 hown' hgrow; obtain ⟨a6, c6, rfl, -⟩ := cells_of_row hown'; obtain ⟨hbq, y5, y6⟩ := hA.out w10 _ _ hgrow hown'; replace hbq := Lib.hid hbq; clear hown' hgrow)
                | fail)
              go_meet
              exact hbq.out
            · have hxb : rightC (⟨3, ⟨0, 0, (t : Int) + 1, 0⟩, ⟨0, 0, 0, 0⟩⟩ : Cp) = false := bad_4 ht1
              have hxo : 0 ≤ (⟨3, ⟨0, 0, (t : Int) + 1, 0⟩, ⟨0, 0, 0, 0⟩⟩ : Cp).op := by show (0 : Int) ≤ 3; decide
              have hA := Lib.hid (fun W2 v tmp => hLx.out.add (W2 := W2) (v := v) (tmp := tmp) hxb hxo)
              have hnew := cells_newA W9 (cpsCells [(⟨3, ⟨0, 0, (t : Int) + 1, 0⟩, ⟨0, 0, 0, 0⟩⟩ : Cp)]) 45
              clear n1 n3 n6 n7 r1 r2
              replace hxb := Lib.hid hxb
              replace hxo := Lib.hid hxo
              replace hnew := Lib.hid hnew
              go_wp2_with (first
                | (at_builtin; refine wpList_append_cells rfl (.tmp 137) (.tmp 141) 34 rfl wr.heap.size 45 i0 _ 9 72 Try.underlying34 hi0.out hz0 hz1 hz2 rfl (by decide) u m2 (cpsCells s2.cs) rfl (World.ownsRow.alloc hou9 _) (some ⟨W9.heap.size, 0, none⟩) 1 1 (cpsCells [(⟨3, ⟨0, 0, (t : Int) + 1, 0⟩, ⟨0, 0, 0, 0⟩⟩ : Cp)]) rfl rfl hnew.out cps_one hb63.out hb72.out (by rw [World.size_alloc]; exact Nat.le_succ_of_le hBs.out) ?_; intro v' w10 hown' hgrow; obtain ⟨a6, c6, rfl, -⟩ := cells_of_row hown'; obtain ⟨hbq, y5, y6⟩ := hA.out w10 _ _ hgrow hown'; replace hbq := Lib.hid hbq; clear hown' hgrow)
                | fail)
              go_meet
              exact hbq.out
            · have hxb : rightC (⟨3, ⟨0, 0, 0, 0⟩, ⟨2, 0, 0, (t : Int) + 1⟩⟩ : Cp) = false := bad_5 ht1
              have hxo : 0 ≤ (⟨3, ⟨0, 0, 0, 0⟩, ⟨2, 0, 0, (t : Int) + 1⟩⟩ : Cp).op := by show (0 : Int) ≤ 3; decide
              have hA := Lib.hid (fun W2 v tmp => hLx.out.add (W2 := W2) (v := v) (tmp := tmp) hxb hxo)
              have hnew := cells_newA W9 (cpsCells [(⟨3, ⟨0, 0, 0, 0⟩, ⟨2, 0, 0, (t : Int) + 1⟩⟩ : Cp)]) 45
              clear n1 n3 n6 n7 r1 r2
              replace hxb := Lib.hid hxb
              replace hxo := Lib.hid hxo
              replace hnew := Lib.hid hnew
              go_wp2_with (first
                | (at_builtin; refine wpList_append_cells rfl (.tmp 151) (.tmp 155) 34 rfl wr.heap.size 45 i0 _ 9 72 Try.underlying34 hi0.out hz0 hz1 hz2 rfl (by decide) u m2 (cpsCells s2.cs) rfl (World.ownsRow.alloc hou9 _) (some ⟨W9.heap.size, 0, none⟩) 1 1 (cpsCells [(⟨3, ⟨0, 0, 0, 0⟩, ⟨2, 0, 0, (t : Int) + 1⟩⟩ : Cp)]) rfl rfl hnew.out cps_one hb63.out hb72.out (by rw [World.size_alloc]; exact Nat.le_succ_of_le hBs.out) ?_; intro v' w10 hown' hgrow; obtain ⟨a6, c6, rfl, -⟩ := cells_of_row hown'; obtain ⟨hbq, y5, y6⟩ := hA.out w10 _ _ hgrow hown'; replace hbq := Lib.hid hbq; clear hown' hgrow)
                | fail)
              go_meet
              exact hbq.out
            · have hxb : rightC (⟨3, ⟨0, -1099511627776 - ((t : Int) + 1), 0, 0⟩, ⟨0, 0, 0, 0⟩⟩ : Cp) = false := bad_6 ht1
              have hxo : 0 ≤ (⟨3, ⟨0, -1099511627776 - ((t : Int) + 1), 0, 0⟩, ⟨0, 0, 0, 0⟩⟩ : Cp).op := by show (0 : Int) ≤ 3; decide
              have hA := Lib.hid (fun W2 v tmp => hLx.out.add (W2 := W2) (v := v) (tmp := tmp) hxb hxo)
              have hnew := cells_newA W9 (cpsCells [(⟨3, ⟨0, -1099511627776 - ((t : Int) + 1), 0, 0⟩, ⟨0, 0, 0, 0⟩⟩ : Cp)]) 45
              clear n1 n3 n7 r1 r2
              replace hxb := Lib.hid hxb
              replace hxo := Lib.hid hxo
              replace hnew := Lib.hid hnew
              go_wp2_with (first
                | (at_builtin; refine wpList_append_cells rfl (.tmp 165) (.tmp 170) 34 rfl wr.heap.size 45 i0 _ 9 72 Try.underlying34 hi0.out hz0 hz1 hz2 rfl (by decide) u m2 (cpsCells s2.cs) rfl (World.ownsRow.alloc hou9 _) (some ⟨W9.heap.size, 0, none⟩) 1 1 (cpsCells [(⟨3, ⟨0, -1099511627776 - ((t : Int) + 1), 0, 0⟩, ⟨0, 0, 0, 0⟩⟩ : Cp)]) rfl rfl hnew.out cps_one hb63.out hb72.out (by rw [World.size_alloc]; exact Nat.le_succ_of_le hBs.out) ?_; intro v' w10 hown' hgrow; obtain ⟨a6, c6, rfl, -⟩ := cells_of_row hown'; obtain ⟨hbq, y5, y6⟩ := hA.out w10 _ _ hgrow hown'; replace hbq := Lib.hid hbq; clear hown' hgrow)
                | fail)
              go_meet
              exact hbq.out
            · have hxb : rightC (⟨3, ⟨5, 0, 0, 25 + ((t : Int) + 1)⟩, ⟨0, 0, 0, 0⟩⟩ : Cp) = false := bad_7 ht1
              have hxo : 0 ≤ (⟨3, ⟨5, 0, 0, 25 + ((t : Int) + 1)⟩, ⟨0, 0, 0, 0⟩⟩ : Cp).op := by show (0 : Int) ≤ 3; decide
              have hA := Lib.hid (fun W2 v tmp => hLx.out.add (W2 := W2) (v := v) (tmp := tmp) hxb hxo)
              have hnew := cells_newA W9 (cpsCells [(⟨3, ⟨5, 0, 0, 25 + ((t : Int) + 1)⟩, ⟨0, 0, 0, 0⟩⟩ : Cp)]) 45
              clear n1 n3 n6 r1 r2
              replace hxb := Lib.hid hxb
              replace hxo := Lib.hid hxo
              replace hnew := Lib.hid hnew
              go_wp2_with (first
                | (at_builtin; refine wpList_append_cells rfl (.tmp 180) (.tmp 185) 34 rfl wr.heap.size 45 i0 _ 9 72 Try.underlying34 hi0.out hz0 hz1 hz2 rfl (by decide) u m2 (cpsCells s2.cs) rfl (World.ownsRow.alloc hou9 _) (some ⟨W9.heap.size, 0, none⟩) 1 1 (cpsCells [(⟨3, ⟨5, 0, 0, 25 + ((t : Int) + 1)⟩, ⟨0, 0, 0, 0⟩⟩ : Cp)]) rfl rfl hnew.out cps_one hb63.out hb72.out (by rw [World.size_alloc]; exact Nat.le_succ_of_le hBs.out) ?_; intro v' w10 hown' hgrow; obtain ⟨a6, c6, rfl, -⟩ := cells_of_row hown'; obtain ⟨hbq, y5, y6⟩ := hA.out w10 _ _ hgrow hown'; replace hbq := Lib.hid hbq; clear hown' hgrow)
                | fail)
              go_meet
              exact hbq.out
          case rest =>
            obtain ⟨N, win', hPq, hSq, hNs, hNo, hNr, hBq⟩ := hcut
            clear p1 pf hou9 hB9 f1 f3 z1 z3 z5 z6 hLx
            have b0 := hPq.c0
            have b1 := hPq.c1
            have hRq := Lib.hid (right_V win' hNs hNo _ hSq)
            rw [hNr] at hRq
            have hdf := Lib.hid (differ (win := win) hR.out hNr)
            have hIq := Lib.hid (hIr.out.later hBq)
            have hPq' := Lib.hid hPq
            have hSq' := Lib.hid hSq
            have hNs' := Lib.hid hNs
            clear hPq hSq hNs hNo hNr hBq
            go_wp2_with fail
            (with_reducible refine hRq.out.mono ?_)
            rintro e w11 ⟨rfl, hb11⟩
            have hI11 := Lib.hid (hIq.out.later hb11)
            have k0 := hI11.out.1.c0
            have k1 := hI11.out.1.c1
            have b0 := (hPq'.out.later hb11).c0
            have b1 := (hPq'.out.later hb11).c1
            have hSm := Lib.hid (same_V win win' hS.out.short hNs'.out w11 hI11.out.2.1 (hSq'.out.later hb11))
            rw [hdf.out] at hSm
            go_wp2_with ((with_reducible refine hSm.out.mono ?_); rintro e w12 ⟨rfl, hb12⟩)
            exact ⟨⟨i + 1, by omega, by go_num, hI11.out.later hb12⟩, by simp [intOf]; omega⟩
        · obtain rfl : i = 8 := by omega
          have hlti : ¬ (8 : Int) < 8 := by omega
          go_wp2_with ((with_reducible refine (hwk _).mono ?_); rintro e w9 ⟨rfl, hb9⟩)
          go_ret
          exact ⟨rfl, kept_trans hIr.out.2.2 hb9⟩
end Go.Proofs.Ytkibnbcdmkogkaa
