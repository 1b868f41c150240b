/-
  TreeOwn's walk.
-/
import Derived.Test.YtkibnbcdmkogkaaAS
import Derived.Test.YtkibnbcdmkogkaaAR
namespace Go.Proofs.Ytkibnbcdmkogkaa
open Go.ChangeShapes Go.WideShapes Go.ChangeAt Go.RowKit
set_option linter.unusedVariables false
set_option linter.unusedSimpArgs false
attribute [local go_sem] Oper.semAt_some
/-- What the law reads all along: both patterns' boxes and steps. -/
def OwK (w : World) (a b : Option Addr) (n m c d : Nat) (p q : Int) (L Q : List (Sp × Value)) (W : World) : Prop :=
  PtBox w.heap.size (.slice a n c) p W ∧ PtBox (w.heap.size + 1) (.slice b m d) q W ∧ SpsL W (.slice a n c) L ∧ SpsL W (.slice b m d) Q ∧ Below w.heap.size w W
theorem OwK.later {w : World} {a b : Option Addr} {n m c d : Nat} {p q : Int} {L Q : List (Sp × Value)} {W W' : World} (h : OwK w a b n m c d p q L Q W) (hb : Below W.heap.size W W') : OwK w a b n m c d p q L Q W' :=
  ⟨h.1.later hb, h.2.1.later hb, h.2.2.1.later hb, h.2.2.2.1.later hb, kept_trans h.2.2.2.2 hb⟩
theorem row_some {W : World} {base k m c : Nat} {e : TypeId} {a : Option Addr} {xs : List Value} (h : W.ownsRow base e k (.slice a m c) m xs) (h0 : 0 < m) : ∃ g, a = some ⟨g, 0, none⟩ := by
  rcases h.2 with ⟨e1, _⟩ | ⟨g, cap, cur, e1, _⟩
  · cases e1; omega
  · cases e1; exact ⟨g, rfl⟩
theorem cps_row {W : World} {base g n cap : Nat} {cs : List Cp} (h : W.ownsRow base 45 9 (.slice (some ⟨g, 0, none⟩) n cap) n (cpsCells cs)) {k : Nat} {x : Cp} (hk : k < n) (hx : cs[k]? = some x) :
    W.cell? ⟨g, k * 9, none⟩ = some (.int .u8 x.op) ∧ W.frozen? ⟨g, k * 9, none⟩ = false := by
  have H := flat_at 9 (fun c : Cp => [Value.int .u8 c.op, .int .u8 c.l.k, .int .i64 c.l.n, .int .i64 c.l.s, .int .i64 c.l.r, .int .u8 c.r.k, .int .i64 c.r.n, .int .i64 c.r.s, .int .i64 c.r.r]) (fun _ => rfl) cs k x hx 0 (by omega)
  exact ⟨(h.cellAt (k * 9) (by omega)).trans H, h.frozenAt _⟩
theorem cp_eql (a b : Cp) (w : World) : (binOp .eql 45 (cpV a) (cpV b)).run Try.prog w = .ok (.bool (decide (a = b))) w := by
  rw [run_eql_struct w, cp_eq 9997]; rfl
theorem headEq_eq (s t : Sp) : headEq s t = ((s.neg == t.neg) && (s.kind == t.kind) && (s.min == t.min) && (s.max == t.max) && (s.strict == t.strict) && ((s.cs.length : Int) == t.cs.length)) := by
  unfold headEq
  have e : ((s.cs.length : Int) == t.cs.length) = decide (s.cs.length = t.cs.length) := by
    by_cases h : s.cs.length = t.cs.length
    · simp [h]
    · have h2 : ¬ (s.cs.length : Int) = t.cs.length := by omega
      rw [decide_eq_false h]
      exact beq_false_of_ne h2
  rw [e]
  by_cases e0 : s.neg = t.neg <;> by_cases e1 : s.kind = t.kind <;> by_cases e2 : s.min = t.min <;> by_cases e3 : s.max = t.max <;> by_cases e4 : s.strict = t.strict <;> by_cases e5 : s.cs.length = t.cs.length <;> simp [e0, e1, e2, e3, e4, e5]
/-- What is read behind the changes. -/
def Ow8 (w : World) (a b av : Option Addr) (n m c d cv P : Nat) (p q : Int) (L Q L2 : List (Sp × Value)) (W : World) : Prop :=
  OwK w a b n m c d p q L Q W ∧ PtBox P (.slice av n cv) p W ∧ SpsL W (.slice av n cv) L2
theorem Ow8.later {w : World} {a b av : Option Addr} {n m c d cv P : Nat} {p q : Int} {L Q L2 : List (Sp × Value)} {W W' : World} (h : Ow8 w a b av n m c d cv P p q L Q L2 W) (hb : Below W.heap.size W W') : Ow8 w a b av n m c d cv P p q L Q L2 W' :=
  ⟨h.1.later hb, h.2.1.later hb, h.2.2.later hb⟩
set_option maxRecDepth 100000 in
set_option maxHeartbeats 4000000 in
theorem ownWalk (hwk : WakesOkA) (a b : Option Addr) (n m c d : Nat) (L Q : List (Sp × Value)) (p q : Int) (w : World) (hn : L.length = n) (hm : Q.length = m) (hb1 : n ≤ 9223372036854775807) (hb2 : m ≤ 9223372036854775807)
    (h : SpsL w (.slice a n c) L) (hQ : SpsL w (.slice b m d) Q) :
    Calls Try.prog 7 #[ptV (.slice a n c) p, ptV (.slice b m d) q] w fun e w' => e = .returned (.bool true) ∧ Below w.heap.size w w' := by
  have hb := below_two w (.cells #[.slice a n c, .int .i64 p] 24) (.cells #[.slice b m d, .int .i64 q] 24)
  have hP : PtBox w.heap.size (.slice a n c) p ((w.alloc (.cells #[.slice a n c, .int .i64 p] 24)).alloc (.cells #[.slice b m d, .int .i64 q] 24)) := (PtBox.new w _ _).later (kept_new _ _)
  have hP2 := PtBox.new (w.alloc (.cells #[.slice a n c, .int .i64 p] 24)) (.slice b m d) q
  rw [World.size_alloc] at hP2
  have h0 := h.later hb
  have hQ0 := hQ.later hb
  clear h hQ
  go_enter Try.func7, Try.ntmps7
  obtain ⟨W0, hW0⟩ : ∃ W0, ((w.alloc (.cells #[.slice a n c, .int .i64 p] 24)).alloc (.cells #[.slice b m d, .int .i64 q] 24)) = W0 := ⟨_, rfl⟩
  rw [hW0] at hP hP2 h0 hQ0 hb
  have hI0 := Lib.hid (show OwK w a b n m c d p q L Q W0 from ⟨hP, hP2, h0, hQ0, hb⟩)
  have k0 := hP.c0
  have k1 := hP.c1
  have hG := Lib.hid (great_W (v := .slice a n c) p W0 (by unfold maxLen; omega) h0)
  have hNl : Hid ((L.map (·.1)).length = n) := by show _ = _; simp [hn]
  have hMl : Hid ((Q.map (·.1)).length = m) := by show _ = _; simp [hm]
  replace hn := Lib.hid hn
  replace hm := Lib.hid hm
  clear hP hP2 h0 hQ0 hb
  obtain ⟨gp, hgp⟩ : ∃ g, great (L.map (·.1)) = g := ⟨_, rfl⟩
  rw [hgp] at hG
  replace hgp := Lib.hid hgp
  go_wp2_with fail
  (with_reducible refine hG.out.mono ?_)
  rintro e w1 ⟨rfl, q1⟩
  clear hG k0 k1
  have hI1 := Lib.hid (hI0.out.later q1)
  clear hI0 hW0 q1
  have k0 := hI1.out.1.c0
  have k1 := hI1.out.1.c1
  have k2 := hI1.out.2.1.c0
  have k3 := hI1.out.2.1.c1
  cases gp
  case true =>
    go_wp2_with ((with_reducible refine (hwk _).mono ?_); rintro e w2 ⟨rfl, hb2⟩)
    go_ret
    exact ⟨rfl, kept_trans hI1.out.2.2.2.2 hb2⟩
  obtain ⟨hS, hn40, hL20⟩ := Small.of_great hgp.out
  rw [hNl.out] at hn40
  replace hS := Lib.hid hS
  replace hL20 := Lib.hid hL20
  have hG := Lib.hid (great_W (v := .slice b m d) q w1 (by unfold maxLen; rw [hm.out]; omega) hI1.out.2.2.2.1)
  obtain ⟨gq, hgq⟩ : ∃ g, great (Q.map (·.1)) = g := ⟨_, rfl⟩
  rw [hgq] at hG
  replace hgq := Lib.hid hgq
  go_wp2_with fail
  (with_reducible refine hG.out.mono ?_)
  rintro e w2 ⟨rfl, q2⟩
  clear hG k0 k1 k2 k3
  have hI2 := Lib.hid (hI1.out.later q2)
  clear hI1 q2
  have k0 := hI2.out.1.c0
  have k1 := hI2.out.1.c1
  cases gq
  case true =>
    go_wp2_with ((with_reducible refine (hwk _).mono ?_); rintro e w2 ⟨rfl, hb2⟩)
    go_ret
    exact ⟨rfl, kept_trans hI2.out.2.2.2.2 hb2⟩
  obtain ⟨hSQ, hm40, hQ20⟩ := Small.of_great hgq.out
  rw [hMl.out] at hm40
  replace hSQ := Lib.hid hSQ
  replace hQ20 := Lib.hid hQ20
  clear hgp hgq
  have hO := Lib.hid (refOwn_D a n c p L hS.out.fits w2 hn.out hI2.out.2.2.1)
  go_wp2_with fail
  (with_reducible refine hO.out.mono ?_)
  rintro e w4 ⟨v, L', rfl, hOwn, hmap, hap, hb4⟩
  clear hO k0 k1
  have hI4 := Lib.hid (hI2.out.later hb4)
  have hL'n : L'.length = n := by have := congrArg List.length hmap; simpa [hn.out] using this
  obtain ⟨ax, cx, rfl, -⟩ := cells_of_row hOwn.1
  rw [hL'n] at hOwn ⊢
  have hX5 := PtBox.new w4 (.slice ax n cx) p
  have hk5 := kept_new w4 (.cells #[.slice ax n cx, .int .i64 p] 24)
  have hOwn5 := hOwn.later hk5
  have hI5 := Lib.hid (hI4.out.later hk5)
  have hS' : Small (L'.map (·.1)) := by rw [hmap]; exact hS.out
  have hO2 := Lib.hid (own_V p hS'.fits _ hOwn5.sps)
  have x0 := hX5.c0
  have x1 := hX5.c1
  go_wp2_with fail
  (with_reducible refine hO2.out.mono ?_)
  rintro e w6 ⟨v2, L2, rfl, hOwn2, hmap2, hb6⟩
  obtain ⟨PX, hPX⟩ : ∃ P, w4.heap.size = P := ⟨_, rfl⟩
  obtain ⟨W5, hW5⟩ : ∃ W, w4.alloc (.cells #[.slice ax n cx, .int .i64 p] 24) = W := ⟨_, rfl⟩
  have hs5 : PX ≤ W5.heap.size := by rw [← hW5, ← hPX]; simp
  rw [hW5] at hX5 hk5 hOwn5 hI5 hOwn2 hb6 x0 x1
  have hL2n : L2.length = n := by have := congrArg List.length hmap2; simpa [hL'n] using this
  obtain ⟨av, cv, rfl, -⟩ := cells_of_row hOwn2.1
  rw [hL2n] at hOwn2 ⊢
  have hk7 := kept_new w6 (.cells #[.slice av n cv, .int .i64 p] 24)
  have hO7 := PtBox.new w6 (.slice av n cv) p
  have hX7 := (hX5.later hb6).later hk7
  have hOwn7 := (hOwn5.later hb6).later hk7
  have hOwn27 := hOwn2.later hk7
  have hb27 := kept_trans (kept_trans (kept_trans hb4 hk5) hb6) hk7
  have hs6 := hb6.size
  have hCh : ChK w2 (w6.alloc (.cells #[.slice av n cv, .int .i64 p] 24)) PX n (.slice ax n cx) L' (w6.alloc (.cells #[.slice av n cv, .int .i64 p] 24)) := by
    refine ⟨Below.refl _ _, fun _ _ => rfl, hL'n, hOwn7, hap, fun y hy => hL20.out _ (by rw [← hmap]; exact List.mem_map.2 ⟨y, hy, rfl⟩), fun y hy r hr => ?_, fun r hr => ?_⟩
    · have := (World.ownsRow.lt (hOwn.2 y hy) r hr).2
      omega
    · have := (hOwn.1.lt r hr).2
      omega
  rw [hPX] at hX7
  go_wp2_with fail
  obtain ⟨W7, hW7⟩ : ∃ W, w6.alloc (.cells #[.slice av n cv, .int .i64 p] 24) = W := ⟨_, rfl⟩
  obtain ⟨PO, hPO⟩ : ∃ P, w6.heap.size = P := ⟨_, rfl⟩
  simp only [hPX, hPO, hW7] at hO7 hX7 hOwn7 hOwn27 hb27 hCh ⊢
  have hPO5 : PX ≤ PO := by omega
  replace hI2 := Lib.hid (show OwK w a b n m c d p q L Q w2 from hI2.out)
  replace hO7 := Lib.hid hO7
  replace hX7 := Lib.hid hX7
  replace hOwn27 := Lib.hid hOwn27
  replace hb27 := Lib.hid hb27
  replace hCh := Lib.hid hCh
  replace hmap2 := Lib.hid (hmap2.trans hmap)
  clear hOwn hOwn5 hOwn7 hOwn2 hmap hap hb4 hX5 hk5 hI5 hI4 hb6 hk7 x0 x1 hS' hW5 hPX hO2 hW7 hPO hs6
  have hmx : Try.prog.follows .mixedOrders = true := by kernel_rfl
  go_loopw [7] (fun t wt => ∃ i : Nat, i ≤ n ∧ t = .int .i64 i ∧ Hid (∃ M, ChK w2 W7 PX n (.slice ax n cx) M wt)) (fun t _ => n - (intOf t).toNat)
  case atStart => exact ⟨0, Nat.zero_le _, rfl, _, hCh.out⟩
  case round =>
    clear hCh
    obtain ⟨i, hi, rfl, hCh'⟩ := hrel
    obtain ⟨M, hCh⟩ := hCh'.out
    have hXr : PtBox PX (.slice ax n cx) p wr := (hCh.2.1 PX (Nat.le_refl _)).trans hX7.out
    have x0 := hXr.c0
    by_cases hlt : i < n
    · have hlti : (i : Int) < n := by omega
      obtain ⟨g, cap, e, hg2, hgP⟩ := hCh.lit (by omega)
      cases e
      obtain ⟨⟨s, u⟩, hx⟩ := sps_i (L := M) (i := i) (by rw [hCh.2.2.1]; exact hlt)
      obtain ⟨m2, hm2⟩ : ∃ m, s.cs.length = m := ⟨_, rfl⟩
      have hou := hCh.2.2.2.1.2 _ (List.mem_of_getElem? hx)
      obtain ⟨a2, c2, rfl, hmc⟩ := own_cap hou hm2
      have hm20 : m2 ≤ 20 := by rw [← hm2]; exact hCh.2.2.2.2.2.1 _ (List.mem_of_getElem? hx)
      have hr := hCh.2.2.2.1.1
      rw [hCh.2.2.1] at hr
      obtain ⟨z0, z1, z2, z3, z4, z5, z6⟩ := row_step hr hlt hx
      have f1 := row_f hr (i * 6 + 1)
      go_wp2_with fail
      have d0 : wr.drew.cell? ⟨PX, 0, none⟩ = some (.slice (some ⟨g, 0, none⟩) n cx) := x0
      have d1 : wr.drew.cell? ⟨g, i * 6 + 1, none⟩ = some (.int .i64 s.kind) := z1
      have df : wr.drew.frozen? ⟨g, i * 6 + 1, none⟩ = false := f1
      have hC2 := Lib.hid (fun k => (hCh.kind hx k).drew)
      have hil : i < M.length := by rw [hCh.2.2.1]; exact hlt
      replace hil := Lib.hid hil
      replace hm2 := Lib.hid hm2
      clear z0 z1 z2 z3 z4 z5 z6 f1 x0 hr hou hXr hCh hx
      refine wp_region_still_tail 12 hmx (by kernel_rfl) ?_
      change wpStill _ _ wr.drew _ _ _
      simp only [List.take_succ_cons, List.take_zero, List.drop_succ_cons, List.drop_zero]
      repeat still_step
      refine wpStill_nil ?_
      change wpList _ _ _ _ _ wr.drew
      go_wp2_with fail
      have hC3 := Lib.hid (hC2.out (wrap64 (s.kind + 1)))
      clear hC2 d0 d1 df
      go_loopw [8] (fun t wt => ∃ k : Nat, k ≤ m2 ∧ t = .int .i64 k ∧ Hid (∃ M s', ChK w2 W7 PX n (.slice (some ⟨g, 0, none⟩) n cx) M wt ∧ M[i]? = some (s', .slice a2 m2 c2) ∧ s'.cs.length = m2)) (fun t _ => m2 - (intOf t).toNat)
      case atStart => exact ⟨0, Nat.zero_le _, rfl, _, _, hC3.out, List.getElem?_set_self hil.out, hm2.out⟩
      case round =>
        clear hC3
        obtain ⟨k, hk, rfl, hMs⟩ := hrel
        obtain ⟨M2, s', hCk, hxk, hmk⟩ := hMs.out
        have hXk : PtBox PX (.slice (some ⟨g, 0, none⟩) n cx) p wr := (hCk.2.1 PX (Nat.le_refl _)).trans hX7.out
        have x0 := hXk.c0
        have hrk := hCk.2.2.2.1.1
        rw [hCk.2.2.1] at hrk
        obtain ⟨z0, z1, z2, z3, z4, z5, z6⟩ := row_step hrk hlt hxk
        clear z0 z1 z2 z3 z4 z6
        by_cases hltk : k < m2
        · have hltki : (k : Int) < m2 := by omega
          obtain ⟨cp, hcp⟩ : ∃ c, s'.cs[k]? = some c := ⟨_, List.getElem?_eq_getElem (by rw [hmk]; exact hltk)⟩
          have hok := hCk.2.2.2.1.2 _ (List.mem_of_getElem? hxk)
          unfold OwnCps at hok
          dsimp only at hok
          rw [hmk] at hok
          obtain ⟨g2, rfl⟩ := row_some hok (by omega)
          obtain ⟨y0, y1⟩ := cps_row hok hltk hcp
          have hC4 := Lib.hid (fun o => (hCk.op hxk hcp o).drew)
          have hil2 : Hid (i < M2.length) := by show _ < _; rw [hCk.2.2.1]; exact hlt
          go_wp2_with fail
          have d0 : wr.drew.cell? ⟨PX, 0, none⟩ = some (.slice (some ⟨g, 0, none⟩) n cx) := x0
          have d1 : wr.drew.cell? ⟨g, i * 6 + 5, none⟩ = some (.slice (some ⟨g2, 0, none⟩) m2 c2) := z5
          have d2 : wr.drew.cell? ⟨g2, k * 9, none⟩ = some (.int .u8 cp.op) := y0
          have d3 : wr.drew.frozen? ⟨g2, k * 9, none⟩ = false := y1
          replace hmk := Lib.hid hmk
          clear x0 z5 y0 y1 hrk hok hXk hCk hxk hcp
          refine wp_region_still_tail 20 hmx (by kernel_rfl) ?_
          change wpStill _ _ wr.drew _ _ _
          simp only [List.take_succ_cons, List.take_zero, List.drop_succ_cons, List.drop_zero]
          repeat still_step
          refine wpStill_nil ?_
          change wpList _ _ _ _ _ wr.drew
          go_wp2_with fail
          exact ⟨⟨k + 1, by omega, by go_num, _, _, hC4.out _, List.getElem?_set_self hil2.out, (List.length_set ..).trans hmk.out⟩, by simp [intOf]; omega⟩
        · obtain rfl : k = m2 := by omega
          have hltki : ¬ (k : Int) < k := by omega
          replace hCk := Lib.hid hCk
          clear hrk hxk hXk
          go_wp2_with fail
          exact ⟨⟨i + 1, by omega, by go_num, _, hCk.out⟩, by simp [intOf]; omega⟩
    · obtain rfl : i = n := by omega
      have hlti : ¬ (i : Int) < i := by omega
      have hI8 : OwK w a b i m c d p q L Q wr := hI2.out.later (hb27.out.trans hCh.1)
      have hO8 : PtBox PO (.slice av i cv) p wr := (hCh.2.1 PO hPO5).trans hO7.out
      have hS8 : SpsL wr (.slice av i cv) L2 := (hOwn27.out.far (fun b hb => hCh.2.1 b (Nat.le_trans hs5 hb))).sps
      replace hI8 := Lib.hid hI8
      replace hO8 := Lib.hid hO8
      replace hS8 := Lib.hid hS8
      clear hCh hCh' hX7 hO7 hOwn27 hb27 hI2 hXr
      have k0 := hI8.out.1.c0
      have k1 := hI8.out.1.c1
      have k2 := hI8.out.2.1.c0
      have k3 := hI8.out.2.1.c1
      go_upto_region 13 with fail
      obtain ⟨sm, hsm⟩ : ∃ b, decide (i = m ∧ p = q) = b := ⟨_, rfl⟩
      replace hsm := Lib.hid hsm
      go_cut [9] (fun t wx => t = .bool sm ∧ wx = wr)
      case first =>
        by_cases e : i = m
        · subst e
          have e1 : ((i : Int) == i) = true := by simp
          have hv : Hid (sm = (p == q)) := by show _ = _; rw [← hsm.out]; by_cases e : p = q <;> simp [e]
          clear hsm
          go_wp2_with fail
          go_meet
          exact ⟨by rw [hv.out], rfl⟩
        · have e1 : ((i : Int) == m) = false := by simp; omega
          obtain rfl : sm = false := by rw [← hsm.out]; simp [e]
          clear hsm e
          go_wp2_with fail
          go_meet
          exact ⟨rfl, rfl⟩
      case rest =>
        obtain ⟨rfl, rfl⟩ := hcut
        rw [← hsm.out]
        clear hsm k0 k1 k2 k3
        have hW8 : Hid (Ow8 w a b av i m c d cv PO p q L Q L2 wc) := ⟨hI8.out, hO8.out, hS8.out⟩
        clear hI8 hO8 hS8
        obtain ⟨R, hR⟩ : ∃ R, decide (L.map (·.1) = Q.map (·.1) ∧ p = q) = R := ⟨_, rfl⟩
        have C1 : Hid (∀ W, Ow8 w a b av i m c d cv PO p q L Q L2 W → Calls Try.prog 24 #[.agg #[.slice av i cv, .int .i64 p], .agg #[.slice a i c, .int .i64 p]] W fun e Y => e = .returned (.bool true) ∧ Below W.heap.size W Y) := by
          show ∀ _, _
          intro W hW
          have hS2 : Small (L2.map (·.1)) := by rw [hmap2.out]; exact hS.out
          refine (refSame_V p p hS2.short hS.out.short W hW.2.2 hW.1.2.2.1).mono fun e Y ⟨he, hb⟩ => ⟨?_, hb⟩
          rw [he, hmap2.out]; simp
        have C2 : Hid (∀ W, Ow8 w a b av i m c d cv PO p q L Q L2 W → Calls Try.prog 23 #[.agg #[.slice a i c, .int .i64 p], .agg #[.slice b m d, .int .i64 q]] W fun e Y => e = .returned (.bool R) ∧ Below W.heap.size W Y) := by
          show ∀ _, _
          intro W hW
          refine (same_V p q hS.out.short hSQ.out.short W hW.1.2.2.1 hW.1.2.2.2.1).mono fun e Y ⟨he, hb⟩ => ⟨?_, hb⟩
          rw [he, hR]
        have C3 : Hid (∀ W, Ow8 w a b av i m c d cv PO p q L Q L2 W → Calls Try.prog 23 #[.agg #[.slice a i c, .int .i64 p], .agg #[.slice a i c, .int .i64 p]] W fun e Y => e = .returned (.bool true) ∧ Below W.heap.size W Y) := by
          show ∀ _, _
          intro W hW
          refine (same_V p p hS.out.short hS.out.short W hW.1.2.2.1 hW.1.2.2.1).mono fun e Y ⟨he, hb⟩ => ⟨?_, hb⟩
          rw [he]; simp
        replace hR := Lib.hid hR
        go_wp2_with fail
        go_loopw [9, 10] (fun u t wt => ∃ j : Nat, j ≤ i ∧ t = .int .i64 j ∧ u = .bool (sameTo (L.map (·.1)) (Q.map (·.1)) (i = m ∧ p = q) j) ∧ Hid (Ow8 w a b av i m c d cv PO p q L Q L2 wt)) (fun _ t _ => i - (intOf t).toNat)
        case atStart => exact ⟨0, Nat.zero_le _, rfl, by simp [sameTo], hW8.out⟩
        case round =>
          clear hW8
          obtain ⟨j, hj, rfl, rfl, hW⟩ := hrel
          have k0 := hW.out.1.1.c0
          have k1 := hW.out.1.1.c1
          have k2 := hW.out.1.2.1.c0
          have j0 := hW.out.2.1.c0
          have j1 := hW.out.2.1.c1
          obtain ⟨B, hB⟩ : ∃ B, sameTo (L.map (·.1)) (Q.map (·.1)) (i = m ∧ p = q) j = B := ⟨_, rfl⟩
          rw [hB]
          by_cases hltj : j < i
          · have hltji : (j : Int) < i := by omega
            cases B
            case false =>
              have hRf : R = false := by rw [← hR.out]; exact sameTo_no hNl.out hMl.out hB
              subst hRf
              clear hB
              go_wp2_with fail
              (with_reducible refine (C1.out _ hW.out).mono ?_)
              rintro e w11 ⟨rfl, hb11⟩
              clear k0 k1 k2 j0 j1
              replace hW := Lib.hid (hW.out.later hb11)
              have k0 := hW.out.1.1.c0
              have k1 := hW.out.1.1.c1
              have k2 := hW.out.1.2.1.c0
              have k3 := hW.out.1.2.1.c1
              go_wp2_with fail
              (with_reducible refine (C2.out _ hW.out).mono ?_)
              rintro e w12 ⟨rfl, hb12⟩
              clear k0 k1 k2 k3
              replace hW := Lib.hid (hW.out.later hb12)
              have k0 := hW.out.1.1.c0
              have k1 := hW.out.1.1.c1
              go_wp2_with fail
              (with_reducible refine (C3.out _ hW.out).mono ?_)
              rintro e w13 ⟨rfl, hb13⟩
              clear k0 k1
              replace hW := Lib.hid (hW.out.later hb13)
              go_wp2_with ((with_reducible refine (hwk _).mono ?_); rintro e w14 ⟨rfl, hb14⟩)
              go_ret
              exact ⟨rfl, kept_trans hW.out.1.2.2.2.2 hb14⟩
            case true =>
              have hnm : i = m := by unfold sameTo at hB; rw [decide_eq_true_iff] at hB; exact hB.1.1
              obtain ⟨⟨s, us⟩, hx⟩ := sps_i (L := L) (i := j) (by rw [hn.out]; exact hltj)
              obtain ⟨⟨t, ut⟩, hy⟩ := sps_i (L := Q) (i := j) (by rw [hm.out]; omega)
              obtain ⟨b3, o3, rfl, x0, x1, x2, x3, x4, x5, hcs⟩ := spsL_at hW.out.1.2.2.1 hn.out hx
              obtain ⟨b4, o4, rfl, y0, y1, y2, y3, y4, y5, hct⟩ := spsL_at hW.out.1.2.2.2.1 hm.out hy
              obtain ⟨ms, hms⟩ : ∃ m, s.cs.length = m := ⟨_, rfl⟩
              obtain ⟨mt, hmt⟩ : ∃ m, t.cs.length = m := ⟨_, rfl⟩
              obtain ⟨a6, c6, rfl⟩ := cps_lit hcs hms
              obtain ⟨a7, c7, rfl⟩ := cps_lit hct hmt
              have hms20 : ms ≤ 20 := by rw [← hms]; exact hL20.out s (List.mem_of_getElem? (map_fst hx))
              have hmt20 : mt ≤ 20 := by rw [← hmt]; exact hQ20.out t (List.mem_of_getElem? (map_fst hy))
              have hsucc := Lib.hid (sameTo_succ (map_fst hx) (map_fst hy) hB)
              have hltjm : (j : Int) < m := by omega
              have K1 := fun {e : Addr} {v : Value} (h : wr.cell? e = some v) (A : Obj) => bcell (kept_new wr A) (World.block_lt_of_cell? wr _ h) h
              have K2 := fun {e : Addr} {v : Value} (h : wr.cell? e = some v) (A B : Obj) => bcell (below_two wr A B) (World.block_lt_of_cell? wr _ h) h
              have k0a := K1 k0
              have k0b := K2 k0
              have k2a := K1 k2
              have k2b := K2 k2
              have x0a := K1 x0
              have x0b := K2 x0
              have x1a := K1 x1
              have x1b := K2 x1
              have x2a := K1 x2
              have x2b := K2 x2
              have x3a := K1 x3
              have x3b := K2 x3
              have x4a := K1 x4
              have x4b := K2 x4
              have x5a := K1 x5
              have x5b := K2 x5
              have y0a := K1 y0
              have y0b := K2 y0
              have y1a := K1 y1
              have y1b := K2 y1
              have y2a := K1 y2
              have y2b := K2 y2
              have y3a := K1 y3
              have y3b := K2 y3
              have y4a := K1 y4
              have y4b := K2 y4
              have y5a := K1 y5
              have y5b := K2 y5
              clear K1 K2 hB hx hy j0 j1 k1 hnm
              replace hcs := Lib.hid hcs
              replace hct := Lib.hid hct
              replace hms := Lib.hid hms
              replace hmt := Lib.hid hmt
              go_upto_region 17 with fail
              have A1 : SpBox wr.heap.size s (.slice a6 ms c6) ((wr.alloc (.cells #[.bool s.neg, .int .i64 s.kind, .int .i64 s.min, .int .i64 s.max, .bool s.strict, .slice a6 ms c6] 36)).alloc (.cells #[.bool t.neg, .int .i64 t.kind, .int .i64 t.min, .int .i64 t.max, .bool t.strict, .slice a7 mt c7] 36)).drew := (SpBox.new wr s _).later (kept_new _ _).drew
              have A2 : SpBox (wr.heap.size + 1) t (.slice a7 mt c7) ((wr.alloc (.cells #[.bool s.neg, .int .i64 s.kind, .int .i64 s.min, .int .i64 s.max, .bool s.strict, .slice a6 ms c6] 36)).alloc (.cells #[.bool t.neg, .int .i64 t.kind, .int .i64 t.min, .int .i64 t.max, .bool t.strict, .slice a7 mt c7] 36)).drew := by
                have := SpBox.new (wr.alloc (.cells #[.bool s.neg, .int .i64 s.kind, .int .i64 s.min, .int .i64 s.max, .bool s.strict, .slice a6 ms c6] 36)) t (.slice a7 mt c7)
                rw [World.size_alloc] at this
                exact this
              have A3 : Below wr.heap.size wr ((wr.alloc (.cells #[.bool s.neg, .int .i64 s.kind, .int .i64 s.min, .int .i64 s.max, .bool s.strict, .slice a6 ms c6] 36)).alloc (.cells #[.bool t.neg, .int .i64 t.kind, .int .i64 t.min, .int .i64 t.max, .bool t.strict, .slice a7 mt c7] 36)).drew := (below_two wr _ _).drew
              have B1 : SpBox wr.heap.size t (.slice a7 mt c7) ((wr.alloc (.cells #[.bool t.neg, .int .i64 t.kind, .int .i64 t.min, .int .i64 t.max, .bool t.strict, .slice a7 mt c7] 36)).alloc (.cells #[.bool s.neg, .int .i64 s.kind, .int .i64 s.min, .int .i64 s.max, .bool s.strict, .slice a6 ms c6] 36)).drew := (SpBox.new wr t _).later (kept_new _ _).drew
              have B2 : SpBox (wr.heap.size + 1) s (.slice a6 ms c6) ((wr.alloc (.cells #[.bool t.neg, .int .i64 t.kind, .int .i64 t.min, .int .i64 t.max, .bool t.strict, .slice a7 mt c7] 36)).alloc (.cells #[.bool s.neg, .int .i64 s.kind, .int .i64 s.min, .int .i64 s.max, .bool s.strict, .slice a6 ms c6] 36)).drew := by
                have := SpBox.new (wr.alloc (.cells #[.bool t.neg, .int .i64 t.kind, .int .i64 t.min, .int .i64 t.max, .bool t.strict, .slice a7 mt c7] 36)) s (.slice a6 ms c6)
                rw [World.size_alloc] at this
                exact this
              have B3 : Below wr.heap.size wr ((wr.alloc (.cells #[.bool t.neg, .int .i64 t.kind, .int .i64 t.min, .int .i64 t.max, .bool t.strict, .slice a7 mt c7] 36)).alloc (.cells #[.bool s.neg, .int .i64 s.kind, .int .i64 s.min, .int .i64 s.max, .bool s.strict, .slice a6 ms c6] 36)).drew := (below_two wr _ _).drew
              replace A1 := Lib.hid (And.intro A1 (And.intro A2 A3))
              replace B1 := Lib.hid (And.intro B2 (And.intro B1 B3))
              clear A2 A3 B2 B3
              go_cut [11, 12] from 89 to 171 (fun u v wx => ∃ p1 p2 : Nat, u = .pointer (some ⟨p1, 0, none⟩) ∧ v = .pointer (some ⟨p2, 0, none⟩) ∧ SpBox p1 s (.slice a6 ms c6) wx ∧ SpBox p2 t (.slice a7 mt c7) wx ∧ Below wr.heap.size wr wx)
              case first =>
                go_region
                all_goals (go_wp2_with fail; go_meet; first | exact ⟨_, _, rfl, rfl, A1.out⟩ | exact ⟨_, _, rfl, rfl, B1.out⟩)
              case rest =>
                obtain ⟨p1, p2, rfl, rfl, hs1, hs2, hb17⟩ := hcut
                clear k0a k0b k2a k2b x0a x0b x1a x1b x2a x2b x3a x3b x4a x4b x5a x5b y0a y0b y1a y1b y2a y2b y3a y3b y4a y4b y5a y5b A1 B1 k0 k2 x0 x1 x2 x3 x4 x5 y0 y1 y2 y3 y4 y5
                have hW17 := Lib.hid (hW.out.later hb17)
                replace hcs := Lib.hid (hcs.out.later hb17)
                replace hct := Lib.hid (hct.out.later hb17)
                clear hW hb17
                obtain ⟨v0, v1, v2, v3, v4, v5⟩ := hs1.cells
                obtain ⟨w0', w1', w2', w3', w4', w5'⟩ := hs2.cells
                replace hs1 := Lib.hid hs1
                replace hs2 := Lib.hid hs2
                go_upto_region 18 with fail
                obtain ⟨hd, hhd⟩ : ∃ b, headEq s t = b := ⟨_, rfl⟩
                replace hhd := Lib.hid hhd
                go_cut [9] from 89 to 171 (fun u wx => u = .bool hd ∧ wx = wc)
                case first =>
                  have hv : Hid (hd = ((s.neg == t.neg) && (s.kind == t.kind) && (s.min == t.min) && (s.max == t.max) && (s.strict == t.strict) && ((ms : Int) == mt))) := by
                    show _ = _
                    rw [← hhd.out, ← hms.out, ← hmt.out]
                    exact headEq_eq s t
                  clear hhd
                  obtain ⟨b0, h0⟩ : ∃ b, (s.neg == t.neg) = b := ⟨_, rfl⟩
                  obtain ⟨b1, h1⟩ : ∃ b, (s.kind == t.kind) = b := ⟨_, rfl⟩
                  obtain ⟨b2, h2⟩ : ∃ b, (s.min == t.min) = b := ⟨_, rfl⟩
                  obtain ⟨b3, h3⟩ : ∃ b, (s.max == t.max) = b := ⟨_, rfl⟩
                  obtain ⟨b4, h4⟩ : ∃ b, (s.strict == t.strict) = b := ⟨_, rfl⟩
                  rw [h0, h1, h2, h3, h4] at hv
                  cases b0
                  · obtain rfl : hd = false := hv.out
                    clear hv
                    go_wp2_with fail
                    go_meet
                    exact ⟨rfl, rfl⟩
                  cases b1
                  · obtain rfl : hd = false := hv.out
                    clear hv
                    go_wp2_with fail
                    go_meet
                    exact ⟨rfl, rfl⟩
                  cases b2
                  · obtain rfl : hd = false := hv.out
                    clear hv
                    go_wp2_with fail
                    go_meet
                    exact ⟨rfl, rfl⟩
                  cases b3
                  · obtain rfl : hd = false := hv.out
                    clear hv
                    go_wp2_with fail
                    go_meet
                    exact ⟨rfl, rfl⟩
                  cases b4
                  · obtain rfl : hd = false := hv.out
                    clear hv
                    go_wp2_with fail
                    go_meet
                    exact ⟨rfl, rfl⟩
                  go_wp2_with fail
                  go_meet
                  exact ⟨congrArg Value.bool hv.out.symm, rfl⟩
                case rest =>
                  obtain ⟨rfl, hwc⟩ := hcut
                  subst hwc
                  rw [← hhd.out]
                  clear hhd v0 v1 v2 v3 v4 v5 w0' w1' w2' w3' w4' w5'
                  obtain ⟨Wc, hWc⟩ : ∃ W, W = wc := ⟨_, rfl⟩
                  rw [← hWc] at hW17 hcs hct hs1 hs2 ⊢
                  clear hWc
                  go_wp2_with fail
                  go_loopw [9, 13] (fun u v wt => ∃ k : Nat, k ≤ ms ∧ v = .int .i64 k ∧ u = .bool (cmpsTo s t k) ∧ Hid (Below Wc.heap.size Wc wt)) (fun _ v _ => ms - (intOf v).toNat)
                  case atStart => exact ⟨0, Nat.zero_le _, rfl, by simp [cmpsTo], Below.refl _ _⟩
                  case round =>
                    obtain ⟨k, hk, rfl, rfl, hwk⟩ := hrel
                    have v5 := (hs1.out.later hwk.out).cells.2.2.2.2.2
                    have w5 := (hs2.out.later hwk.out).cells.2.2.2.2.2
                    have hWn := Lib.hid (hW17.out.later hwk.out)
                    obtain ⟨B, hB⟩ : ∃ B, cmpsTo s t k = B := ⟨_, rfl⟩
                    rw [hB]
                    by_cases hltk : k < ms
                    · have hltki : (k : Int) < ms := by omega
                      cases B
                      · have hfin := Lib.hid (cmpsTo_no hB)
                        clear hB
                        go_wp2_with fail
                        exact ⟨⟨j + 1, by omega, by go_num, by rw [hsucc.out, hfin.out], hWn.out⟩, by simp [intOf]; omega⟩
                      · have hml : ms = mt := by have := cmpsTo_len hB; rw [hms.out, hmt.out] at this; exact this
                        obtain ⟨x, hx⟩ : ∃ x, s.cs[k]? = some x := ⟨_, List.getElem?_eq_getElem (by rw [hms.out]; exact hltk)⟩
                        obtain ⟨y, hy⟩ : ∃ y, t.cs[k]? = some y := ⟨_, List.getElem?_eq_getElem (by rw [hmt.out]; omega)⟩
                        obtain ⟨b5, o5, rfl, x0, x1, x2, x3, x4, x5, x6, x7, x8⟩ := cpsL_at (hcs.out.later hwk.out) hms.out hx
                        obtain ⟨b6, o6, rfl, y0, y1, y2, y3, y4, y5, y6, y7, y8⟩ := cpsL_at (hct.out.later hwk.out) hmt.out hy
                        have hltkt : (k : Int) < mt := by omega
                        have hcx := Lib.hid (cmpsTo_succ hx hy hB)
                        have hC := fun w => cp_eql x y w
                        obtain ⟨B2, hB2⟩ : ∃ B, decide (x = y) = B := ⟨_, rfl⟩
                        rw [hB2] at hC hcx
                        clear hB hB2 hx hy hml hWn
                        have hfin : Hid (∀ q, Below Wc.heap.size Wc (wr.drewN q)) := fun q => kept_trans hwk.out (drewN_kept _ _)
                        go_wp2_with fail
                        go_quiet (fail)
                        go_wp2_with fail
                        exact ⟨⟨k + 1, by omega, by go_num, by rw [hcx.out], hfin.out _⟩, by simp [intOf]; omega⟩
                    · obtain rfl : k = ms := by omega
                      have hltki : ¬ (k : Int) < k := by omega
                      have hfin : Hid (decide (s = t) = B) := by show _ = _; rw [← hB]; exact (cmpsTo_end hms.out).symm
                      clear hB
                      go_wp2_with fail
                      exact ⟨⟨j + 1, by omega, by go_num, by rw [hsucc.out, hfin.out], hWn.out⟩, by simp [intOf]; omega⟩
          · obtain rfl : j = i := by omega
            have hltji : ¬ (j : Int) < j := by omega
            have hBR : B = R := by rw [← hB, ← hR.out]; exact sameTo_end hNl.out hMl.out
            subst hBR
            have hBB : (B == B) = true := by simp
            clear hB
            go_wp2_with fail
            (with_reducible refine (C1.out _ hW.out).mono ?_)
            rintro e w11 ⟨rfl, hb11⟩
            clear k0 k1 k2 j0 j1
            replace hW := Lib.hid (hW.out.later hb11)
            have k0 := hW.out.1.1.c0
            have k1 := hW.out.1.1.c1
            have k2 := hW.out.1.2.1.c0
            have k3 := hW.out.1.2.1.c1
            go_wp2_with fail
            (with_reducible refine (C2.out _ hW.out).mono ?_)
            rintro e w12 ⟨rfl, hb12⟩
            clear k0 k1 k2 k3
            replace hW := Lib.hid (hW.out.later hb12)
            have k0 := hW.out.1.1.c0
            have k1 := hW.out.1.1.c1
            go_wp2_with fail
            (with_reducible refine (C3.out _ hW.out).mono ?_)
            rintro e w13 ⟨rfl, hb13⟩
            clear k0 k1
            replace hW := Lib.hid (hW.out.later hb13)
            go_wp2_with ((with_reducible refine (hwk _).mono ?_); rintro e w14 ⟨rfl, hb14⟩)
            go_ret
            exact ⟨rfl, kept_trans hW.out.1.2.2.2.2 hb14⟩
end Go.Proofs.Ytkibnbcdmkogkaa
