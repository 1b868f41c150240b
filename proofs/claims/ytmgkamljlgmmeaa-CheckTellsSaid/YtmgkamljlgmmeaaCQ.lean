/-
  Contracts of the document's own seven, kept, broken, Check, Right, Tail and Head.
-/
import Derived.Test.YtmgkamljlgmmeaaCP
import Derived.Test.YtmgkamljlgmmeaaCN
namespace Go.Proofs.Ytmgkamljlgmmeaa.Tree
open Go.ChangeShapes Go.WideShapes Go.ChangeAt Go.RowKit
set_option linter.unusedVariables false
set_option linter.unusedSimpArgs false
attribute [local go_sem] Oper.semAt_some
set_option maxRecDepth 100000 in
set_option maxHeartbeats 1000000 in
theorem refSeven_L (i : Nat) (a1 : Option Addr) (n c1 : Nat) (win : Int) (L : List (Sp × Value)) (s : Sp) (v : Value) (w : World) (hn : L.length = n) (hx : L[i]? = some (s, v)) (hn2 : n ≤ 1000000) (hm : s.cs.length ≤ 20)
    (hpos : ∀ x ∈ namesC s.cs, 0 ≤ x) (h : SpsL w (.slice a1 n c1) L) :
    Calls Try.prog 56 #[ptV (.slice a1 n c1) win, .int .i64 i] w fun e w' => e = .returned (.bool (rule7 (L.map (·.1)) i s)) ∧ Below w.heap.size w w' := by
  have hb := kept_new w (.cells #[.slice a1 n c1, .int .i64 win] 24)
  have hin : PtIn w.heap.size a1 n c1 win L (w.alloc (.cells #[.slice a1 n c1, .int .i64 win] 24)) := ⟨PtBox.new w _ _, hn, h.later hb⟩
  have hi : i < n := by have := (List.getElem?_eq_some_iff.1 hx).1; omega
  have hii : (i : Int) < n := by omega
  obtain ⟨b, o, rfl, z0, z1, z2, z3, z4, z5, hv⟩ := hin.step hx
  have c0 := hin.1.c0
  obtain ⟨m, hml⟩ : ∃ m, s.cs.length = m := ⟨_, rfl⟩
  obtain ⟨a2, c2, rfl⟩ := hv.lit hml
  have hA := refAsked_L s a2 m c2 _ (by omega) hml hv
  obtain ⟨R, hR⟩ : ∃ R, asksP (L.map (·.1)) i s = R := ⟨_, rfl⟩
  unfold rule7
  rw [hR, hml]
  have hposs : Hid (∀ x ∈ setOf (namesC s.cs), 0 ≤ x) := fun x hx => hpos x ((setOf_mem _ _).1 hx)
  have hno := Lib.hid (fun k x (h1 : (setOf (namesC s.cs))[k]? = some x) h2 => asks_no (ss := L.map (·.1)) (i := i) h1 h2)
  have hyes := Lib.hid (asks_yes (ss := L.map (·.1)) (i := i) (s := s))
  have hq80 : (setOf (namesC s.cs)).length ≤ 1000 := by
    have h1 := namesC_len s.cs
    have h2 := setOf_len (namesC s.cs)
    omega
  generalize hset : setOf (namesC s.cs) = N at *
  obtain ⟨q, hq⟩ : ∃ q, N.length = q := ⟨_, rfl⟩
  rw [hR] at hno hyes
  rw [hq] at hyes hq80
  replace hq := Lib.hid hq
  replace hA := Lib.hid hA
  replace hR := Lib.hid hR
  replace hx := Lib.hid hx
  replace hin := Lib.hid hin
  replace hb := Lib.hid hb
  clear h hn hv hset hml hpos
  go_enter Try.func56, Try.ntmps56
  go_wp2_with ((with_reducible refine hA.out.mono ?_); rintro e w1 ⟨vN, rfl, hI, hb1⟩; obtain ⟨aN, cN, rfl⟩ := hI.lit hq.out)
  replace hb : Hid (Below w.heap.size w w1) := kept_trans hb.out hb1
  replace hin := Lib.hid (hin.out.later hb1)
  obtain ⟨bx, ox, ex, -, -, -, -, -, x5, -⟩ := hin.out.step hx.out
  cases ex
  have c0 := hin.out.1.c0
  clear z0 z1 z2 z3 z4 z5 hA hb1
  go_loop [6] (fun t => ∃ k : Nat, k ≤ q ∧ t = .int .i64 k ∧ Hid (∀ j x, j < k → N[j]? = some x → askBad (L.map (·.1)) i x = false)) (fun t => q - (intOf t).toNat)
  case atStart => exact ⟨0, Nat.zero_le _, rfl, fun j x hj => by omega⟩
  case round =>
    obtain ⟨k, hk, rfl, hall⟩ := hrel
    by_cases hlt : k < q
    · have hlti : (k : Int) < q := by omega
      obtain ⟨x, hxk⟩ : ∃ x, N[k]? = some x := ⟨_, List.getElem?_eq_getElem (by rw [hq.out]; exact hlt)⟩
      obtain ⟨bn, on, rfl, z0⟩ := hI.at hq.out hxk
      have hx0 := hposs.out x (List.mem_of_getElem? hxk)
      have hnok := hno.out k x hxk
      have hall' : askBad (L.map (·.1)) i x = false → Hid (∀ j y, j < k + 1 → N[j]? = some y → askBad (L.map (·.1)) i y = false) := fun he j y hj hy => by
        by_cases hjk : j = k
        · subst hjk; rw [hxk] at hy; cases hy; exact he
        · exact hall.out j y (by omega) hy
      obtain ⟨y, rfl⟩ : ∃ y : Nat, x = y := ⟨x.toNat, by omega⟩
      clear hxk
      by_cases h1 : (i : Int) < y
      · have hRf := hnok (askBad_more h1)
        subst hRf
        clear hnok hall'
        go_wp2
        go_ret
        exact ⟨rfl, hb.out⟩
      · by_cases h2 : (y : Int) < i
        · have hyn : (y : Int) < n := by omega
          have hyi : y < i := by omega
          obtain ⟨⟨s2, v2⟩, hx2⟩ := sps_i (L := L) (i := y) (by have := hin.out.2.1; omega)
          obtain ⟨b2, o2, e2, y0, y1, y2, y3, y4, y5, hv2⟩ := hin.out.step hx2
          cases e2
          have hs2 := map_fst hx2
          cases hneg : s2.neg with
          | true =>
            have hRf := hnok (askBad_neg hyi hs2 hneg)
            subst hRf
            rw [hneg] at y0
            clear hnok hall' hs2 hneg hx2 hv2
            go_wp2
            go_ret
            exact ⟨rfl, hb.out⟩
          | false =>
            rw [hneg] at y0
            cases hmx : s2.max == 1 with
            | true =>
              have hmx' : (s2.max != 1) = false := by simp [bne, hmx]
              replace hall' := hall' (askBad_max hyi hs2 hneg true hmx)
              clear hnok hs2 hneg hx2 hv2 hmx
              go_wp2
              go_round
              case rel => exact ⟨k + 1, by omega, by go_num, hall'⟩
              case measure => simp [intOf]; omega
            | false =>
              have hmx' : (s2.max != 1) = true := by simp [bne, hmx]
              have hRf := hnok (askBad_max hyi hs2 hneg false hmx)
              subst hRf
              clear hnok hall' hs2 hneg hx2 hv2 hmx
              go_wp2
              go_ret
              exact ⟨rfl, hb.out⟩
        · replace hall' := hall' (askBad_own h1 h2)
          clear hnok
          go_wp2
          go_round
          case rel => exact ⟨k + 1, by omega, by go_num, hall'⟩
          case measure => simp [intOf]; omega
    · obtain rfl : k = q := by omega
      have hlti : ¬ (k : Int) < k := by omega
      have hRt : R = true := hyes.out hall.out
      subst hRt
      go_wp2
      go_ret
      exact ⟨by show Ending.returned (Value.bool _) = _; simp; omega, hb.out⟩
/-- Which rule the document's own kept asks: 3, 4, 5, or 7. -/
theorem refKept_L (k : Nat) (hk : k = 2 ∨ k = 3 ∨ k = 4 ∨ k = 6) (i : Nat) (a1 : Option Addr) (n c1 : Nat) (win : Int) (L : List (Sp × Value)) (s : Sp) (v : Value) (w : World) (hn : L.length = n) (hx : L[i]? = some (s, v)) (hn2 : n ≤ 1000000) (hm : s.cs.length ≤ 20)
    (hpos : ∀ x ∈ namesC s.cs, 0 ≤ x) (h : SpsL w (.slice a1 n c1) L) :
    Calls Try.prog 46 #[ptV (.slice a1 n c1) win, .int .i64 ((k : Int) + 1), .int .i64 i] w fun e w' => e = .returned (.bool (ruleB (L.map (·.1)) win k i s)) ∧ Below w.heap.size w w' := by
  have hb := Lib.hid (kept_new w (.cells #[.slice a1 n c1, .int .i64 win] 24))
  have h1 := h.later hb.out
  have c0 := (PtBox.new w (.slice a1 n c1) win).c0
  have c1' := (PtBox.new w (.slice a1 n c1) win).c1
  rcases hk with rfl | rfl | rfl | rfl
  · have hC := Lib.hid (refThree_L a1 n c1 win i s v L _ hn hx h1)
    clear h h1 hx hn hpos
    go_enter Try.func46, Try.ntmps46
    go_wp2_with ((with_reducible refine hC.out.mono ?_); rintro e w2 ⟨rfl, hb2⟩)
    go_ret
    exact ⟨rfl, kept_trans hb.out hb2⟩
  · have hC := Lib.hid (refFour_L a1 n c1 win i s v L _ hn hn2 hx h1)
    clear h h1 hx hn hpos
    go_enter Try.func46, Try.ntmps46
    go_wp2_with ((with_reducible refine hC.out.mono ?_); rintro e w2 ⟨rfl, hb2⟩)
    go_ret
    exact ⟨rfl, kept_trans hb.out hb2⟩
  · have hC := Lib.hid (refFive_L a1 n c1 win i s v L _ hn hx h1)
    clear h h1 hx hn hpos
    go_enter Try.func46, Try.ntmps46
    go_wp2_with ((with_reducible refine hC.out.mono ?_); rintro e w2 ⟨rfl, hb2⟩)
    go_ret
    exact ⟨rfl, kept_trans hb.out hb2⟩
  · have hC := Lib.hid (refSeven_L i a1 n c1 win L s v _ hn hx hn2 hm hpos h1)
    clear h h1 hx hn hpos
    go_enter Try.func46, Try.ntmps46
    go_wp2_with ((with_reducible refine hC.out.mono ?_); rintro e w2 ⟨rfl, hb2⟩)
    go_ret
    exact ⟨rfl, kept_trans hb.out hb2⟩
def badI (ss : List Sp) (win : Int) (k : Nat) : Int := match badAt ss win k with | some i => (i : Int) | none => -1
theorem badI_first {ss : List Sp} {win : Int} {k : Nat} {s : Sp} (hs : ss[0]? = some s) (h : ruleB ss win k 0 s = true → KeptAll ss win k) : badI ss win k = neg1 (ruleB ss win k 0 s) := by
  unfold badI
  cases hb : ruleB ss win k 0 s with
  | true => rw [badAt_none.2 (h hb)]; rfl
  | false => rw [badAt_some hs hb (fun j t hj => by omega)]; rfl
theorem badI_at {ss : List Sp} {win : Int} {k i : Nat} {s : Sp} (hs : ss[i]? = some s) (hb : ruleB ss win k i s = false) (hj : ∀ j t, j < i → ss[j]? = some t → ruleB ss win k j t = true) : badI ss win k = i := by
  unfold badI; rw [badAt_some hs hb hj]
theorem badI_none {ss : List Sp} {win : Int} {k : Nat} (h : KeptAll ss win k) : badI ss win k = -1 := by unfold badI; rw [badAt_none.2 h]
set_option maxRecDepth 100000 in
set_option maxHeartbeats 2000000 in
theorem refBroken_L (k : Nat) (hk : k < 7) (a : Option Addr) (n c : Nat) (win : Int) (L : List (Sp × Value)) (w : World) (hl : L.length = n) (hn1 : 1 ≤ n) (hn : n ≤ 1000) (hr : rightP (L.map (·.1)) win = true) (hc : ∀ x ∈ L, x.1.cs.length ≤ 20) (h : SpsL w (.slice a n c) L) :
    Calls Try.prog 25 #[ptV (.slice a n c) win, .int .i64 ((k : Int) + 1)] w fun e w' => e = .returned (.int .i64 (badI (L.map (·.1)) win k)) ∧ Below w.heap.size w w' := by
  have hb := Lib.hid (kept_new w (.cells #[.slice a n c, .int .i64 win] 24))
  have hin : PtIn w.heap.size a n c win L (w.alloc (.cells #[.slice a n c, .int .i64 win] 24)) := ⟨PtBox.new w _ _, hl, h.later hb.out⟩
  have c0 := hin.1.c0
  have c1 := hin.1.c1
  obtain ⟨⟨s0, v0⟩, hx0⟩ := sps_i (L := L) (i := 0) (by omega)
  have hs0 := map_fst hx0
  have hk' : (k = 0 ∨ k = 1 ∨ k = 5) ∨ (k = 2 ∨ k = 3 ∨ k = 4 ∨ k = 6) := by omega
  rcases hk' with hk' | hk'
  · rcases hk' with rfl | rfl | rfl
    · have hC := refOne_L a n c win L _ hl hin.2.2
      rw [show neg1 (decide (n ≤ 6) && decide (win ≤ 1073741824)) = badI (L.map (·.1)) win 0 from by
        rw [badI_first (ss := L.map (·.1)) (win := win) (k := 0) hs0 (fun hh i s hs => hh)]; simp [ruleB, hl]] at hC
      replace hC := Lib.hid hC
      clear hin hx0 hs0 h hl hr hc
      go_enter Try.func25, Try.ntmps25
      go_wp2_with ((with_reducible refine hC.out.mono ?_); rintro e w2 ⟨rfl, hb2⟩)
      go_ret
      exact ⟨rfl, kept_trans hb.out hb2⟩
    · have hC := refTwo_L a n c win L _ hl hn1 hin.2.2
      rw [show neg1 (!(stepA (L.map (·.1)) 0).neg && !(stepA (L.map (·.1)) 0).strict) = badI (L.map (·.1)) win 1 from by
        rw [badI_first hs0 (fun hh i s hs => by
          by_cases h0 : i = 0
          · subst h0; rw [hs0] at hs; cases hs; exact hh
          · simp [ruleB]; left; omega)]
        rw [stepA_of hs0]; simp [ruleB]] at hC
      replace hC := Lib.hid hC
      clear hin hx0 hs0 h hl hr hc
      go_enter Try.func25, Try.ntmps25
      go_wp2_with ((with_reducible refine hC.out.mono ?_); rintro e w2 ⟨rfl, hb2⟩)
      go_ret
      exact ⟨rfl, kept_trans hb.out hb2⟩
    · have hC := refSix_L a n c win L _ hl hn hr hin.2.2
      rw [show neg1 (decide (mostP (L.map (·.1)) ≤ 4)) = badI (L.map (·.1)) win 5 from by
        rw [badI_first (ss := L.map (·.1)) (win := win) (k := 5) hs0 (fun hh i s hs => hh)]; simp [ruleB]] at hC
      replace hC := Lib.hid hC
      clear hin hx0 hs0 h hl hr hc
      go_enter Try.func25, Try.ntmps25
      go_wp2_with ((with_reducible refine hC.out.mono ?_); rintro e w2 ⟨rfl, hb2⟩)
      go_ret
      exact ⟨rfl, kept_trans hb.out hb2⟩
  · have e1 : ((k : Int) + 1 == 1) = false := by simp; omega
    have e2 : ((k : Int) + 1 == 2) = false := by simp; omega
    have e6 : ((k : Int) + 1 == 6) = false := by simp; omega
    have hKt := Lib.hid (fun (i : Nat) (s : Sp) (v : Value) (W : World) (hx : L[i]? = some (s, v)) (hW : PtIn w.heap.size a n c win L W) => refKept_L k hk' i a n c win L s v W hl hx (by omega) (hc _ (List.mem_of_getElem? hx)) (names_pos (right_step hr (map_fst hx))) hW.2.2)
    obtain ⟨R, hR⟩ : ∃ R, badI (L.map (·.1)) win k = R := ⟨_, rfl⟩
    rw [hR]
    have hat := Lib.hid (fun (i : Nat) (s : Sp) (hs : (L.map (·.1))[i]? = some s) (hb : ruleB (L.map (·.1)) win k i s = false) hj => (badI_at hs hb hj).symm.trans hR)
    have hno := Lib.hid (fun (hh : KeptAll (L.map (·.1)) win k) => (badI_none hh).symm.trans hR)
    obtain ⟨kk, hkk⟩ : ∃ kk, (k : Int) + 1 = kk := ⟨_, rfl⟩
    rw [hkk] at e1 e2 e6 ⊢
    have hkk' := Lib.hid hkk
    replace hin := Lib.hid hin
    replace hl := Lib.hid hl
    clear hx0 hs0 h hr hc hR hk' hkk hk
    go_enter Try.func25, Try.ntmps25
    go_wp2_with fail
    clear c0 c1
    generalize (w.alloc (.cells #[.slice a n c, .int .i64 win] 24)) = w0 at *
    generalize hB : w.heap.size = B at *
    replace hb : Hid (Below w.heap.size w w0) := by rw [hB]; exact hb
    replace hB := Lib.hid hB
    go_loopw [5] (fun t wr => ∃ i : Nat, i ≤ n ∧ t = .int .i64 i ∧ Hid (Below w0.heap.size w0 wr) ∧ Hid (∀ j s, j < i → (L.map (·.1))[j]? = some s → ruleB (L.map (·.1)) win k j s = true)) (fun t _ => n - (intOf t).toNat)
    case atStart => exact ⟨0, Nat.zero_le _, rfl, Below.refl _ _, fun j s hj => by omega⟩
    case round =>
      obtain ⟨i, hi, rfl, hwr, hall⟩ := hrel
      have hpr := Lib.hid (hin.out.later hwr.out)
      have c0 := hpr.out.1.c0
      have c1 := hpr.out.1.c1
      by_cases hlt : i < n
      · have hlti : (i : Int) < n := by omega
        obtain ⟨⟨s, v⟩, hx⟩ := sps_i (L := L) (i := i) (by rw [hl.out]; exact hlt)
        have hC := hKt.out i s v wr hx hpr.out
        have hss := map_fst hx
        rw [hkk'.out] at hC
        cases hok : ruleB (L.map (·.1)) win k i s with
        | true =>
          rw [hok] at hC
          have hall' : Hid (∀ j t, j < i + 1 → (L.map (·.1))[j]? = some t → ruleB (L.map (·.1)) win k j t = true) := fun j t hj ht => by
            by_cases e : j = i
            · subst e; rw [hss] at ht; cases ht; exact hok
            · exact hall.out j t (by omega) ht
          replace hC := Lib.hid hC
          clear hx hss hok
          go_wp2_with ((with_reducible refine hC.out.mono ?_); rintro e w2 ⟨rfl, hb2⟩)
          have hw2 := Lib.hid (kept_trans hwr.out hb2)
          clear hb2 hC
          go_roundw
          case rel => exact ⟨i + 1, by omega, by go_num, hw2, hall'⟩
          case measure => simp [intOf]; omega
        | false =>
          rw [hok] at hC
          have hRi := hat.out i s hss hok hall.out
          subst hRi
          replace hC := Lib.hid hC
          clear hx hss hok
          go_wp2_with ((with_reducible refine hC.out.mono ?_); rintro e w2 ⟨rfl, hb2⟩)
          go_ret
          exact ⟨rfl, kept_trans hb.out (kept_trans hwr.out hb2)⟩
      · obtain rfl : i = n := by omega
        have hlti : ¬ (i : Int) < i := by omega
        have hRi := hno.out (fun j s hs => hall.out j s (by have := (List.getElem?_eq_some_iff.1 hs).1; rw [List.length_map, hl.out] at this; exact this) hs)
        subst hRi
        go_wp2
        go_ret
        exact ⟨rfl, kept_trans hb.out hwr.out⟩
theorem checkT_at {ss : List Sp} {win : Int} {k i : Nat} (h : rightP ss win = true) (hk : k < 7) (hj : ∀ j, j < k → KeptAll ss win j) (hb : badAt ss win k = some i) : checkT ss win = ((k : Int) + 1, (i : Int), 110) := by
  unfold checkT; rw [checkK_some hk hj hb]; simp [h]
set_option maxRecDepth 100000 in
set_option maxHeartbeats 2000000 in
theorem refCheck_L (a : Option Addr) (n c : Nat) (win : Int) (L : List (Sp × Value)) (hS : Short L) (w : World) (hl : L.length = n) (hn : n ≤ 1000) (hc : ∀ x ∈ L, x.1.cs.length ≤ 20) (h : SpsL w (.slice a n c) L) :
    Calls Try.prog 11 #[ptV (.slice a n c) win] w fun e w' => e = .returned (.tuple #[.int .i64 (checkT (L.map (·.1)) win).1, .int .i64 (checkT (L.map (·.1)) win).2.1, .int .i64 (checkT (L.map (·.1)) win).2.2]) ∧ Below w.heap.size w w' := by
  have hb := Lib.hid (kept_new w (.cells #[.slice a n c, .int .i64 win] 24))
  have hin : PtIn w.heap.size a n c win L (w.alloc (.cells #[.slice a n c, .int .i64 win] 24)) := ⟨PtBox.new w _ _, hl, h.later hb.out⟩
  have c0 := hin.1.c0
  have c1 := hin.1.c1
  have hRt := refRight_V win hS _ hin.2.2
  obtain ⟨r1, r2, r3, hT⟩ : ∃ r1 r2 r3, checkT (L.map (·.1)) win = (r1, r2, r3) := ⟨_, _, _, rfl⟩
  rw [hT]
  dsimp only
  cases hr : rightP (L.map (·.1)) win with
  | false =>
    rw [hr] at hRt
    rw [checkT_wrong hr] at hT
    simp only [Prod.mk.injEq] at hT
    obtain ⟨rfl, rfl, rfl⟩ := hT
    replace hRt := Lib.hid hRt
    clear hin h hl hr hc
    go_enter Try.func11, Try.ntmps11
    go_wp2_with ((with_reducible refine hRt.out.mono ?_); rintro e w2 ⟨rfl, hb2⟩)
    exact bodyPost_ret (v := .tuple #[.int .i64 0, .int .i64 0, .int .i64 2]) (by simp [results, Try.results11, go_sem]) rfl ⟨rfl, kept_trans hb.out hb2⟩
  | true =>
    rw [hr] at hRt
    have hn1 : 1 ≤ n := by
      unfold rightP at hr
      simp only [Bool.and_eq_true, decide_eq_true_eq, List.length_map] at hr
      omega
    have hBr := Lib.hid (fun (k : Nat) (hk : k < 7) (W : World) (hW : PtIn w.heap.size a n c win L W) => refBroken_L k hk a n c win L W hl hn1 hn hr hc hW.2.2)
    have hAt := Lib.hid (fun (k i : Nat) hk hj hb => (checkT_at (ss := L.map (·.1)) (win := win) (k := k) (i := i) hr hk hj hb).symm.trans hT)
    have hOk := Lib.hid (fun hk => (checkT_ok (ss := L.map (·.1)) (win := win) hr hk).symm.trans hT)
    replace hRt := Lib.hid hRt
    replace hin := Lib.hid hin
    clear h hl hr hc hT
    go_enter Try.func11, Try.ntmps11
    go_wp2_with ((with_reducible refine hRt.out.mono ?_); rintro e w2 ⟨rfl, hb2⟩)
    have hb3 := Lib.hid (kept_trans hb.out hb2)
    have hin3 := Lib.hid (hin.out.later hb2)
    clear c0 c1 hRt hin hb hb2
    go_loopw [5] (fun t wr => ∃ k : Nat, k ≤ 7 ∧ t = .int .i64 ((k : Int) + 1) ∧ Hid (Below w2.heap.size w2 wr) ∧ Hid (∀ j, j < k → KeptAll (L.map (·.1)) win j)) (fun t _ => 8 - (intOf t).toNat)
    case atStart => exact ⟨0, by omega, rfl, Below.refl _ _, fun j hj => by omega⟩
    case round =>
      obtain ⟨k, hk, rfl, hwr, hall⟩ := hrel
      have hpr := Lib.hid (hin3.out.later hwr.out)
      have c0 := hpr.out.1.c0
      have c1 := hpr.out.1.c1
      by_cases hlt : k < 7
      · have hlti : (k : Int) + 1 ≤ 7 := by omega
        have hC := hBr.out k hlt wr hpr.out
        cases hbd : badAt (L.map (·.1)) win k with
        | none =>
          have hbi : badI (L.map (·.1)) win k = -1 := by unfold badI; rw [hbd]
          rw [hbi] at hC
          have hall' : Hid (∀ j, j < k + 1 → KeptAll (L.map (·.1)) win j) := fun j hj => by
            by_cases e : j = k
            · subst e; exact badAt_none.1 hbd
            · exact hall.out j (by omega)
          replace hC := Lib.hid hC
          clear hbd hbi
          have hk2 : (k : Int) + 1 + 1 = ((k + 1 : Nat) : Int) + 1 := by omega
          replace hk2 := Lib.hid hk2
          go_wp2_with ((with_reducible refine hC.out.mono ?_); rintro e w4 ⟨rfl, hb4⟩)
          have hw4 := Lib.hid (kept_trans hwr.out hb4)
          clear hb4 hC
          go_roundw
          case rel => exact ⟨k + 1, by omega, by first | (rw [hk2.out]) | (simp; omega), hw4, hall'⟩
          case measure => simp [intOf]; omega
        | some i =>
          have hbi : badI (L.map (·.1)) win k = i := by unfold badI; rw [hbd]
          rw [hbi] at hC
          have hTT := hAt.out k i hlt hall.out hbd
          simp only [Prod.mk.injEq] at hTT
          obtain ⟨rfl, rfl, rfl⟩ := hTT
          have hi0 : (0 : Int) ≤ i := by omega
          replace hC := Lib.hid hC
          clear hbd hbi
          go_wp2_with ((with_reducible refine hC.out.mono ?_); rintro e w4 ⟨rfl, hb4⟩)
          exact bodyPost_ret (v := .tuple #[.int .i64 ((k : Int) + 1), .int .i64 i, .int .i64 110]) (by simp [results, Try.results11, go_sem]) rfl ⟨rfl, kept_trans hb3.out (kept_trans hwr.out hb4)⟩
      · obtain rfl : k = 7 := by omega
        have hTT := hOk.out hall.out
        simp only [Prod.mk.injEq] at hTT
        obtain ⟨rfl, rfl, rfl⟩ := hTT
        rw [show ((7 : Nat) : Int) + 1 = 8 from rfl]
        go_wp2
        exact bodyPost_ret (v := .tuple #[.int .i64 0, .int .i64 0, .int .i64 0]) (by simp [results, Try.results11, go_sem]) rfl ⟨rfl, kept_trans hb3.out hwr.out⟩
theorem refMay_L (a : Option Addr) (n c : Nat) (win : Int) (L : List (Sp × Value)) (hS : Short L) (w : World) (hl : L.length = n) (hn : n ≤ 1000) (hc : ∀ x ∈ L, x.1.cs.length ≤ 20) (h : SpsL w (.slice a n c) L) :
    Calls Try.prog 13 #[ptV (.slice a n c) win] w fun e w' => e = .returned (.bool (mayB (L.map (·.1)) win)) ∧ Below w.heap.size w w' := by
  have hb := Lib.hid (kept_new w (.cells #[.slice a n c, .int .i64 win] 24))
  have hA := refCheck_L a n c win L hS _ hl hn hc (h.later hb.out)
  have c0 := (PtBox.new w (.slice a n c) win).c0
  have c1 := (PtBox.new w (.slice a n c) win).c1
  unfold mayB
  obtain ⟨r1, r2, r3, hT⟩ : ∃ r1 r2 r3, checkT (L.map (·.1)) win = (r1, r2, r3) := ⟨_, _, _, rfl⟩
  rw [hT] at hA ⊢
  replace hA := Lib.hid hA
  clear h hc hT hl
  dsimp only at hA ⊢
  go_enter Try.func13, Try.ntmps13
  go_wp2_with ((with_reducible refine hA.out.mono ?_); rintro e w2 ⟨rfl, hb2⟩)
  go_ret
  exact ⟨rfl, kept_trans hb.out hb2⟩
set_option maxRecDepth 100000 in
set_option maxHeartbeats 1000000 in
theorem refTail_L (a : Option Addr) (n c : Nat) (win : Int) (L : List (Sp × Value)) (hn : n ≤ 1000) (w : World) (hl : L.length = n) (h : SpsL w (.slice a n c) L) :
    Calls Try.prog 15 #[ptV (.slice a n c) win] w fun e w' => e = .returned (.int .i64 (tailP (L.map (·.1)))) ∧ Below w.heap.size w w' := by
  have hb := Lib.hid (kept_new w (.cells #[.slice a n c, .int .i64 win] 24))
  have hin : PtIn w.heap.size a n c win L (w.alloc (.cells #[.slice a n c, .int .i64 win] 24)) := ⟨PtBox.new w _ _, hl, h.later hb.out⟩
  have c0 := hin.1.c0
  obtain ⟨R, hR⟩ : ∃ R, tailP (L.map (·.1)) = R := ⟨_, rfl⟩
  rw [hR]
  unfold tailP at hR
  rw [List.length_map, hl] at hR
  replace hR := Lib.hid hR
  replace hin := Lib.hid hin
  replace hl := Lib.hid hl
  clear h
  go_enter Try.func15, Try.ntmps15
  go_wp2_with fail
  go_loop [3] (fun t => ∃ j : Nat, j ≤ n ∧ t = .int .i64 j ∧ Hid (∀ i, n ≤ i + j → i < n → (stepA (L.map (·.1)) i).neg = true)) (fun t => n - (intOf t).toNat)
  case atStart => exact ⟨0, Nat.zero_le _, rfl, fun i h1 h2 => by omega⟩
  case round =>
    obtain ⟨j, hj, rfl, hall⟩ := hrel
    by_cases hlt : j < n
    · have hlti : (j : Int) < n := by omega
      obtain ⟨k, hk⟩ : ∃ k, j + k + 1 = n := ⟨n - j - 1, by omega⟩
      obtain ⟨⟨s, v⟩, hx⟩ := sps_i (L := L) (i := k) (by rw [hl.out]; omega)
      obtain ⟨b, o, rfl, z0, z1, z2, z3, z4, z5, hv⟩ := hin.out.step hx
      have hst := stepA_of (map_fst hx)
      have hidx : (n : Int) - 1 - j = k := by omega
      have hkn : (k : Int) < n := by omega
      cases hneg : s.neg with
      | true =>
        rw [hneg] at z0
        have hall' : Hid (∀ i, n ≤ i + (j + 1) → i < n → (stepA (L.map (·.1)) i).neg = true) := fun i h1 h2 => by
          by_cases e : n ≤ i + j
          · exact hall.out i e h2
          · obtain rfl : i = k := by omega
            rw [hst]; exact hneg
        clear hx hst hneg hv z1 z2 z3 z4 z5 hk
        go_wp2
        go_round
        case rel => exact ⟨j + 1, by omega, by go_num, hall'⟩
        case measure => simp [intOf]; omega
      | false =>
        rw [hneg] at z0
        have hRj : R = j := by
          rw [← hR.out, lastU_down (k := k + 1) (by omega) (fun i h1 h2 => hall.out i (by omega) h2), lastU_at (by rw [hst]; exact hneg)]
          omega
        subst hRj
        clear hx hst hneg hv z1 z2 z3 z4 z5 hk
        go_wp2
        go_ret
        exact ⟨rfl, hb.out⟩
    · obtain rfl : j = n := by omega
      have hlti : ¬ (j : Int) < j := by omega
      have hRj : R = j := by
        rw [← hR.out, lastU_down (k := 0) (by omega) (fun i h1 h2 => hall.out i (by omega) h2)]
        show (j : Int) - 1 - -1 = j
        omega
      subst hRj
      go_wp2
      go_ret
      exact ⟨rfl, hb.out⟩
set_option maxRecDepth 100000 in
set_option maxHeartbeats 1000000 in
theorem refHead_L (a : Option Addr) (n c : Nat) (win i : Int) (L : List (Sp × Value)) (hn : n ≤ 1000) (w : World) (hl : L.length = n) (h : SpsL w (.slice a n c) L) :
    Calls Try.prog 17 #[ptV (.slice a n c) win, .int .i64 i] w fun e w' => e = .returned (.int .i64 (headP (L.map (·.1)) i)) ∧ Below w.heap.size w w' := by
  have hb := Lib.hid (kept_new w (.cells #[.slice a n c, .int .i64 win] 24))
  have hin : PtIn w.heap.size a n c win L (w.alloc (.cells #[.slice a n c, .int .i64 win] 24)) := ⟨PtBox.new w _ _, hl, h.later hb.out⟩
  have c0 := hin.1.c0
  obtain ⟨R, hR⟩ : ∃ R, headP (L.map (·.1)) i = R := ⟨_, rfl⟩
  rw [hR]
  unfold headP at hR
  rw [List.length_map, hl] at hR
  by_cases h0 : i < 0
  · rw [if_neg (by omega)] at hR
    subst hR
    clear hin h hl
    go_enter Try.func17, Try.ntmps17
    go_wp2
    go_ret
    exact ⟨rfl, hb.out⟩
  · by_cases h1 : (n : Int) ≤ i
    · rw [if_neg (by omega)] at hR
      subst hR
      clear hin h hl
      go_enter Try.func17, Try.ntmps17
      go_wp2
      go_ret
      exact ⟨rfl, hb.out⟩
    · rw [if_pos (by omega)] at hR
      obtain ⟨ki, rfl⟩ : ∃ k : Nat, i = k := ⟨i.toNat, by omega⟩
      rw [Int.toNat_natCast] at hR
      have hki : ki < n := by omega
      replace hR := Lib.hid hR
      replace hin := Lib.hid hin
      replace hl := Lib.hid hl
      clear h
      go_enter Try.func17, Try.ntmps17
      go_wp2_with fail
      go_loop [5] (fun t => ∃ j : Nat, j ≤ ki ∧ t = .int .i64 ((ki : Int) - 1 - j) ∧ Hid (∀ x, ki ≤ x + j → x < ki → (stepA (L.map (·.1)) x).neg = true)) (fun t => (intOf t + 1).toNat)
      case atStart => exact ⟨0, Nat.zero_le _, by simp, fun x h1 h2 => by omega⟩
      case round =>
        obtain ⟨j, hj, rfl, hall⟩ := hrel
        by_cases hlt : j < ki
        · obtain ⟨k, hk⟩ : ∃ k, j + k + 1 = ki := ⟨ki - j - 1, by omega⟩
          have e : (ki : Int) - 1 - j = k := by omega
          rw [e]
          have hge : (0 : Int) ≤ k := by omega
          have hkn : (k : Int) < n := by omega
          have hnx : Hid ((ki : Int) - 1 - (j + 1 : Nat) = k - 1) := by show _ = _; omega
          obtain ⟨⟨s, v⟩, hx⟩ := sps_i (L := L) (i := k) (by rw [hl.out]; omega)
          obtain ⟨b, o, rfl, z0, z1, z2, z3, z4, z5, hv⟩ := hin.out.step hx
          have hst := stepA_of (map_fst hx)
          cases hneg : s.neg with
          | true =>
            rw [hneg] at z0
            have hall' : Hid (∀ x, ki ≤ x + (j + 1) → x < ki → (stepA (L.map (·.1)) x).neg = true) := fun x h1 h2 => by
              by_cases e : ki ≤ x + j
              · exact hall.out x e h2
              · obtain rfl : x = k := by omega
                rw [hst]; exact hneg
            clear hx hst hneg hv z1 z2 z3 z4 z5 hk e
            go_wp2
            go_round
            case rel => exact ⟨j + 1, by omega, by rw [hnx.out], hall'⟩
            case measure => simp [intOf] <;> omega
          | false =>
            rw [hneg] at z0
            have hRj : R = k := by
              rw [← hR.out, lastU_down (k := k + 1) (by omega) (fun x h1 h2 => hall.out x (by omega) h2), lastU_at (by rw [hst]; exact hneg)]
            subst hRj
            clear hx hst hneg hv z1 z2 z3 z4 z5 hk e
            go_wp2
            go_ret
            exact ⟨rfl, hb.out⟩
        · obtain rfl : j = ki := by omega
          have hRj : R = -1 := by
            rw [← hR.out, lastU_down (k := 0) (by omega) (fun x h1 h2 => hall.out x (by omega) h2)]; rfl
          subst hRj
          have e : (j : Int) - 1 - j = -1 := by omega
          rw [e]
          clear e
          go_wp2
          go_ret
          exact ⟨rfl, hb.out⟩
end Go.Proofs.Ytmgkamljlgmmeaa.Tree
