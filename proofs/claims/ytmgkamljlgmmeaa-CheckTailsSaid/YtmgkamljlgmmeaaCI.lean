/-
  CheckTails' walk.
-/
import Derived.Test.YtmgkamljlgmmeaaCH
namespace Go.Proofs.Ytmgkamljlgmmeaa.Tree
open Go.ChangeShapes Go.WideShapes Go.ChangeAt Go.RowKit
set_option linter.unusedVariables false
set_option linter.unusedSimpArgs false
attribute [local go_sem] Oper.semAt_some
theorem head_V {v : Value} {L : List (Sp × Value)} (win i : Int) (hn : L.length ≤ 1000000) (hv : Roomy v) (w : World) (h : SpsL w v L) :
    Calls Try.prog 16 #[ptV v win, .int .i64 i] w fun e w' => e = .returned (.int .i64 (headP (L.map (·.1)) i)) ∧ Below w.heap.size w w' := by
  obtain ⟨a, c, rfl⟩ := h.lit rfl
  exact head_any a _ c win i L hn (hv _ _ _ rfl) w rfl h
set_option maxRecDepth 100000 in
set_option maxHeartbeats 8000000 in
theorem tailsWalk (hwk : WakesC) (v : Value) (L : List (Sp × Value)) (win i : Int) (w : World) (h : SpsL w v L) (hl : L.length ≤ maxLen ∧ Roomy v) (wi : (Lit.int .i64 i).wf = true) :
    Calls Try.prog 7 #[ptV v win, .int .i64 i] w fun e w' => e = .returned (.bool true) ∧ Below w.heap.size w w' := by
  have hb := kept_new w (.cells #[v, .int .i64 win] 24)
  have hG := great_W win _ hl.1 (h.later hb)
  have hW := Lib.hid hwk
  obtain ⟨n, hn⟩ : ∃ n, L.length = n := ⟨_, rfl⟩
  obtain ⟨a, c, rfl⟩ := h.lit hn
  have hp : PtIn w.heap.size a n c win L (w.alloc (.cells #[.slice a n c, .int .i64 win] 24)) := ⟨PtBox.new w _ _, hn, h.later hb⟩
  have c0 := hp.1.c0
  have c1 := hp.1.c1
  obtain ⟨G, hg⟩ : ∃ G, great (L.map (·.1)) = G := ⟨_, rfl⟩
  rw [hg] at hG
  cases G with
  | true =>
    replace hG := Lib.hid hG
    replace hb := Lib.hid hb
    clear hp h hl hn hg hwk
    go_enter Try.func7, Try.ntmps7
    go_wp2_with (first
      | ((with_reducible refine hG.out.mono ?_); rintro e w2 ⟨rfl, hb2⟩)
      | ((with_reducible refine (hW.out _).mono ?_); rintro e w3 ⟨rfl, hb3⟩))
    go_ret
    exact ⟨rfl, kept_trans hb.out (kept_trans hb2 hb3)⟩
  | false =>
    obtain ⟨-, h40, -⟩ := Small.of_great hg
    rw [List.length_map, hn] at h40
    have hnc := hl.2 _ _ _ rfl
    have hT0 := fun W (hW : PtIn w.heap.size a n c win L W) => tail_any a n c win L (by omega) W hn hW.2.2
    have hH0 := fun W (hW : PtIn w.heap.size a n c win L W) => head_any a n c win i L (by omega) hnc W hn hW.2.2
    obtain ⟨hs1, hs2⟩ := lastU_spec (L.map (·.1)) n
    have htl : tailP (L.map (·.1)) = n - 1 - lastU (L.map (·.1)) n := by unfold tailP; rw [List.length_map, hn]
    have hneg : ∀ (j : Nat) (s : Sp) (u : Value), L[j]? = some (s, u) → (stepA (L.map (·.1)) j).neg = s.neg := fun j s u hx => by rw [stepA_of (map_fst hx)]
    have hH3 : (∃ hd : Int, hd = -1 ∧ ¬ (0 ≤ i ∧ i < n) ∧ headP (L.map (·.1)) i = hd) ∨ ∃ k : Nat, i = k ∧ k < n ∧ headP (L.map (·.1)) i = lastU (L.map (·.1)) k := by
      unfold headP
      rw [List.length_map, hn]
      by_cases hi : 0 ≤ i ∧ i < n
      · rw [if_pos hi]
        exact .inr ⟨i.toNat, by omega, by omega, rfl⟩
      · rw [if_neg hi]
        exact .inl ⟨-1, rfl, hi, rfl⟩
    replace hG := Lib.hid hG
    replace hb := Lib.hid hb
    clear hg h hl hwk
    rcases hs1 with hq | ⟨k, hkn, hq, hk0⟩
    · have hT := Lib.hid (fun W (hW : PtIn w.heap.size a n c win L W) => (by have := hT0 W hW; rwa [htl, hq, show (n : Int) - 1 - -1 = n by omega] at this : Calls Try.prog 14 #[ptV (.slice a n c) win] W fun e w' => e = .returned (.int .i64 n) ∧ Below W.heap.size W w'))
      have hs3 : Hid (∀ (j : Nat) (s : Sp) (u : Value), 0 ≤ j → L[j]? = some (s, u) → s.neg = true) := fun j s u _ hx => by rw [← hneg j s u hx]; exact hs2 j (by omega) (by have := (List.getElem?_eq_some_iff.1 hx).1; omega)
      obtain ⟨st, hst⟩ : ∃ st : Nat, st = 0 := ⟨_, rfl⟩
      have hpp := Lib.hid hp
      have hne := Lib.hid hneg
      have h00 : ¬ (n : Int) < 0 := by omega
      have hnn : ¬ (n : Int) < n := by omega
      have hsub : (n : Int) - n = 0 := by omega
      rcases hH3 with ⟨hd, hd1, hi, hh⟩ | ⟨ki, hik, hkin, hh⟩
      · have hH := Lib.hid (fun W (hW : PtIn w.heap.size a n c win L W) => (by have := hH0 W hW; rwa [hh, hd1] at this : Calls Try.prog 16 #[ptV (.slice a n c) win, .int .i64 i] W fun e w' => e = .returned (.int .i64 (-1)) ∧ Below W.heap.size W w'))
        have hi' : i < 0 ∨ (¬ i < 0 ∧ (n : Int) ≤ i) := by omega
        clear hT0 hH0 hs2 htl hh hn hp hneg hq hd1
        rcases hi' with hi1 | ⟨hi1, hi2⟩
        all_goals
          go_enter Try.func7, Try.ntmps7
          go_wp2_with (first
            | ((with_reducible refine hG.out.mono ?_); rintro e X ⟨rfl, hbx⟩; replace hpp := Lib.hid (hpp.out.later hbx); replace hb := Lib.hid (kept_trans hb.out hbx); have c0 := hpp.out.1.c0; have c1 := hpp.out.1.c1)
            | ((with_reducible refine (hT.out _ hpp.out).mono ?_); rintro e X ⟨rfl, hbx⟩; replace hpp := Lib.hid (hpp.out.later hbx); replace hb := Lib.hid (kept_trans hb.out hbx); have c0 := hpp.out.1.c0; have c1 := hpp.out.1.c1))
          go_loop [6] (fun t => ∃ j : Nat, j ≤ n ∧ t = .int .i64 j ∧ 0 ≤ j) (fun t => n - (intOf t).toNat)
          case atStart => exact ⟨0, by omega, rfl, Nat.le_refl _⟩
          case round =>
            obtain ⟨j, hj, rfl, hjl⟩ := hrel
            by_cases hlt : j < n
            · have hlti : (j : Int) < n := by omega
              obtain ⟨⟨s, u⟩, hx⟩ := sps_i (L := L) (i := j) (by have := hpp.out.2.1; omega)
              obtain ⟨bj, oj, ej, y0, -⟩ := hpp.out.step hx
              cases ej
              rw [hs3.out j s u hjl hx] at y0
              clear hx
              go_wp2
              go_round
              case rel => exact ⟨j + 1, by omega, by go_num, by omega⟩
              case measure => simp [intOf]; omega
            · obtain rfl : j = n := by omega
              have hjj : ¬ (j : Int) < j := by omega
              go_wp2_with (first
                | ((with_reducible refine (hH.out _ hpp.out).mono ?_); rintro e X ⟨rfl, hbx⟩; replace hpp := Lib.hid (hpp.out.later hbx); replace hb := Lib.hid (kept_trans hb.out hbx); have c0 := hpp.out.1.c0; have c1 := hpp.out.1.c1)
                | ((with_reducible refine (hW.out _).mono ?_); rintro e X ⟨rfl, hbx⟩; replace hb := Lib.hid (kept_trans hb.out hbx)))
              go_ret
              exact ⟨rfl, hb.out⟩
      · obtain ⟨hu1, hu2⟩ := lastU_spec (L.map (·.1)) ki
        rcases hu1 with hv | ⟨k2, hk2, hv, hk20⟩
        · have hH := Lib.hid (fun W (hW : PtIn w.heap.size a n c win L W) => (by have := hH0 W hW; rwa [hh, hv, hik] at this : Calls Try.prog 16 #[ptV (.slice a n c) win, .int .i64 ki] W fun e w' => e = .returned (.int .i64 (-1)) ∧ Below W.heap.size W w'))
          subst hik
          have hs4 : Hid (∀ (j : Nat) (s : Sp) (u : Value), 0 ≤ j → j < ki → L[j]? = some (s, u) → s.neg = true) := fun j s u _ hj2 hx => by rw [← hneg j s u hx]; exact hu2 j (by omega) hj2
          have hki0 : ¬ (ki : Int) < 0 := by omega
          have hkin2 : ¬ (n : Int) ≤ ki := by omega
          have hm1 : ¬ (ki : Int) ≤ -1 := by omega
          clear hT0 hH0 hs2 htl hh hn hp hneg hq hu2 hv
          go_enter Try.func7, Try.ntmps7
          go_wp2_with (first
            | ((with_reducible refine hG.out.mono ?_); rintro e X ⟨rfl, hbx⟩; replace hpp := Lib.hid (hpp.out.later hbx); replace hb := Lib.hid (kept_trans hb.out hbx); have c0 := hpp.out.1.c0; have c1 := hpp.out.1.c1)
            | ((with_reducible refine (hT.out _ hpp.out).mono ?_); rintro e X ⟨rfl, hbx⟩; replace hpp := Lib.hid (hpp.out.later hbx); replace hb := Lib.hid (kept_trans hb.out hbx); have c0 := hpp.out.1.c0; have c1 := hpp.out.1.c1))
          go_loop [6] (fun t => ∃ j : Nat, j ≤ n ∧ t = .int .i64 j ∧ 0 ≤ j) (fun t => n - (intOf t).toNat)
          case atStart => exact ⟨0, by omega, rfl, Nat.le_refl _⟩
          case round =>
            obtain ⟨j, hj, rfl, hjl⟩ := hrel
            by_cases hlt : j < n
            · have hlti : (j : Int) < n := by omega
              obtain ⟨⟨s, u⟩, hx⟩ := sps_i (L := L) (i := j) (by have := hpp.out.2.1; omega)
              obtain ⟨bj, oj, ej, y0, -⟩ := hpp.out.step hx
              cases ej
              rw [hs3.out j s u hjl hx] at y0
              clear hx
              go_wp2
              go_round
              case rel => exact ⟨j + 1, by omega, by go_num, by omega⟩
              case measure => simp [intOf]; omega
            · obtain rfl : j = n := by omega
              have hjj : ¬ (j : Int) < j := by omega
              go_wp2_with (first
                | ((with_reducible refine (hH.out _ hpp.out).mono ?_); rintro e X ⟨rfl, hbx⟩; replace hpp := Lib.hid (hpp.out.later hbx); replace hb := Lib.hid (kept_trans hb.out hbx); have c0 := hpp.out.1.c0; have c1 := hpp.out.1.c1)
                | ((with_reducible refine (hW.out _).mono ?_); rintro e X ⟨rfl, hbx⟩; replace hb := Lib.hid (kept_trans hb.out hbx)))
              go_loop [8] (fun t => ∃ j2 : Nat, j2 ≤ ki ∧ t = .int .i64 j2 ∧ 0 ≤ j2) (fun t => ki - (intOf t).toNat)
              case atStart => exact ⟨0, by omega, by first | rfl | go_num, Nat.le_refl _⟩
              case round =>
                obtain ⟨j2, hj2, rfl, hjl2⟩ := hrel
                by_cases hlt2 : j2 < ki
                · have hlti2 : (j2 : Int) < ki := by omega
                  have hlti3 : (j2 : Int) < j := by omega
                  obtain ⟨⟨s2, u2⟩, hx2⟩ := sps_i (L := L) (i := j2) (by have := hpp.out.2.1; omega)
                  obtain ⟨bj2, oj2, ej2, y20, -⟩ := hpp.out.step hx2
                  cases ej2
                  rw [hs4.out j2 s2 u2 (by omega) hlt2 hx2] at y20
                  clear hx2
                  go_wp2
                  go_round
                  case rel => exact ⟨j2 + 1, by omega, by go_num, by omega⟩
                  case measure => simp [intOf]; omega
                · obtain rfl : j2 = ki := by omega
                  have hjj2 : ¬ (j2 : Int) < j2 := by omega
                  go_wp2_with ((with_reducible refine (hW.out _).mono ?_); rintro e X ⟨rfl, hbx⟩; replace hb := Lib.hid (kept_trans hb.out hbx))
                  go_ret
                  exact ⟨rfl, hb.out⟩
        · have hH := Lib.hid (fun W (hW : PtIn w.heap.size a n c win L W) => (by have := hH0 W hW; rwa [hh, hv, hik] at this : Calls Try.prog 16 #[ptV (.slice a n c) win, .int .i64 ki] W fun e w' => e = .returned (.int .i64 k2) ∧ Below W.heap.size W w'))
          subst hik
          have hs4 : Hid (∀ (j : Nat) (s : Sp) (u : Value), k2 + 1 ≤ j → j < ki → L[j]? = some (s, u) → s.neg = true) := fun j s u hj hj2 hx => by rw [← hneg j s u hx]; exact hu2 j (by omega) hj2
          have hki0 : ¬ (ki : Int) < 0 := by omega
          have hkin2 : ¬ (n : Int) ≤ ki := by omega
          have hm1 : ¬ (k2 : Int) < -1 := by omega
          have hm2 : ¬ (ki : Int) ≤ k2 := by omega
          have hm3 : (0 : Int) ≤ k2 := by omega
          have hm4 : (k2 : Int) < n := by omega
          obtain ⟨⟨sm, vm⟩, hxm⟩ := sps_i (L := L) (i := k2) (by omega)
          have hsmf : Hid (sm.neg = false) := by show _ = _; rw [← hneg k2 sm vm hxm]; exact hk20
          replace hxm := Lib.hid hxm
          clear hT0 hH0 hs2 htl hh hn hp hneg hq hu2 hv hk20
          go_enter Try.func7, Try.ntmps7
          go_wp2_with (first
            | ((with_reducible refine hG.out.mono ?_); rintro e X ⟨rfl, hbx⟩; replace hpp := Lib.hid (hpp.out.later hbx); replace hb := Lib.hid (kept_trans hb.out hbx); have c0 := hpp.out.1.c0; have c1 := hpp.out.1.c1)
            | ((with_reducible refine (hT.out _ hpp.out).mono ?_); rintro e X ⟨rfl, hbx⟩; replace hpp := Lib.hid (hpp.out.later hbx); replace hb := Lib.hid (kept_trans hb.out hbx); have c0 := hpp.out.1.c0; have c1 := hpp.out.1.c1))
          go_loop [6] (fun t => ∃ j : Nat, j ≤ n ∧ t = .int .i64 j ∧ 0 ≤ j) (fun t => n - (intOf t).toNat)
          case atStart => exact ⟨0, by omega, rfl, Nat.le_refl _⟩
          case round =>
            obtain ⟨j, hj, rfl, hjl⟩ := hrel
            by_cases hlt : j < n
            · have hlti : (j : Int) < n := by omega
              obtain ⟨⟨s, u⟩, hx⟩ := sps_i (L := L) (i := j) (by have := hpp.out.2.1; omega)
              obtain ⟨bj, oj, ej, y0, -⟩ := hpp.out.step hx
              cases ej
              rw [hs3.out j s u hjl hx] at y0
              clear hx
              go_wp2
              go_round
              case rel => exact ⟨j + 1, by omega, by go_num, by omega⟩
              case measure => simp [intOf]; omega
            · obtain rfl : j = n := by omega
              have hjj : ¬ (j : Int) < j := by omega
              go_wp2_with (first
                | ((with_reducible refine (hH.out _ hpp.out).mono ?_); rintro e X ⟨rfl, hbx⟩; replace hpp := Lib.hid (hpp.out.later hbx); replace hb := Lib.hid (kept_trans hb.out hbx); have c0 := hpp.out.1.c0; have c1 := hpp.out.1.c1; obtain ⟨bm, om, em, m0, -⟩ := hpp.out.step hxm.out; cases em; rw [hsmf.out] at m0)
                | ((with_reducible refine (hW.out _).mono ?_); rintro e X ⟨rfl, hbx⟩; replace hb := Lib.hid (kept_trans hb.out hbx)))
              go_loop [8] (fun t => ∃ j2 : Nat, j2 ≤ ki ∧ t = .int .i64 j2 ∧ k2 + 1 ≤ j2) (fun t => ki - (intOf t).toNat)
              case atStart => exact ⟨k2 + 1, by omega, by first | rfl | go_num, Nat.le_refl _⟩
              case round =>
                obtain ⟨j2, hj2, rfl, hjl2⟩ := hrel
                by_cases hlt2 : j2 < ki
                · have hlti2 : (j2 : Int) < ki := by omega
                  have hlti3 : (j2 : Int) < j := by omega
                  obtain ⟨⟨s2, u2⟩, hx2⟩ := sps_i (L := L) (i := j2) (by have := hpp.out.2.1; omega)
                  obtain ⟨bj2, oj2, ej2, y20, -⟩ := hpp.out.step hx2
                  cases ej2
                  rw [hs4.out j2 s2 u2 (by omega) hlt2 hx2] at y20
                  clear hx2
                  go_wp2
                  go_round
                  case rel => exact ⟨j2 + 1, by omega, by go_num, by omega⟩
                  case measure => simp [intOf]; omega
                · obtain rfl : j2 = ki := by omega
                  have hjj2 : ¬ (j2 : Int) < j2 := by omega
                  go_wp2_with ((with_reducible refine (hW.out _).mono ?_); rintro e X ⟨rfl, hbx⟩; replace hb := Lib.hid (kept_trans hb.out hbx))
                  go_ret
                  exact ⟨rfl, hb.out⟩
    · obtain ⟨m, hm⟩ : ∃ m, m + k + 1 = n := ⟨n - k - 1, by omega⟩
      have hT := Lib.hid (fun W (hW : PtIn w.heap.size a n c win L W) => (by have := hT0 W hW; rwa [htl, hq, show (n : Int) - 1 - k = m by omega] at this : Calls Try.prog 14 #[ptV (.slice a n c) win] W fun e w' => e = .returned (.int .i64 m) ∧ Below W.heap.size W w'))
      have hs3 : Hid (∀ (j : Nat) (s : Sp) (u : Value), k + 1 ≤ j → L[j]? = some (s, u) → s.neg = true) := fun j s u hj hx => by rw [← hneg j s u hx]; exact hs2 j (by omega) (by have := (List.getElem?_eq_some_iff.1 hx).1; omega)
      obtain ⟨st, hst⟩ : ∃ st : Nat, st = k + 1 := ⟨_, rfl⟩
      have hpp := Lib.hid hp
      have hne := Lib.hid hneg
      have h00 : ¬ (m : Int) < 0 := by omega
      have hmn : ¬ (n : Int) < m := by omega
      have hmn2 : (m : Int) < n := by omega
      have hidx : (n : Int) - 1 - m = k := by omega
      have hkn2 : (k : Int) < n := by omega
      have hsub : (n : Int) - m = (k + 1 : Nat) := by omega
      rcases hH3 with ⟨hd, hd1, hi, hh⟩ | ⟨ki, hik, hkin, hh⟩
      · have hH := Lib.hid (fun W (hW : PtIn w.heap.size a n c win L W) => (by have := hH0 W hW; rwa [hh, hd1] at this : Calls Try.prog 16 #[ptV (.slice a n c) win, .int .i64 i] W fun e w' => e = .returned (.int .i64 (-1)) ∧ Below W.heap.size W w'))
        have hi' : i < 0 ∨ (¬ i < 0 ∧ (n : Int) ≤ i) := by omega
        obtain ⟨⟨sk, vk⟩, hxk⟩ := sps_i (L := L) (i := k) (by omega)
        have hskf : Hid (sk.neg = false) := by show _ = _; rw [← hneg k sk vk hxk]; exact hk0
        replace hxk := Lib.hid hxk
        clear hT0 hH0 hs2 htl hh hn hp hneg hq hm hd1 hk0
        rcases hi' with hi1 | ⟨hi1, hi2⟩
        all_goals
          go_enter Try.func7, Try.ntmps7
          go_wp2_with (first
            | ((with_reducible refine hG.out.mono ?_); rintro e X ⟨rfl, hbx⟩; replace hpp := Lib.hid (hpp.out.later hbx); replace hb := Lib.hid (kept_trans hb.out hbx); have c0 := hpp.out.1.c0; have c1 := hpp.out.1.c1)
            | ((with_reducible refine (hT.out _ hpp.out).mono ?_); rintro e X ⟨rfl, hbx⟩; replace hpp := Lib.hid (hpp.out.later hbx); replace hb := Lib.hid (kept_trans hb.out hbx); have c0 := hpp.out.1.c0; have c1 := hpp.out.1.c1; obtain ⟨bk, ok, ek, z0, -⟩ := hpp.out.step hxk.out; subst ek; rw [hskf.out] at z0))
          go_loop [6] (fun t => ∃ j : Nat, j ≤ n ∧ t = .int .i64 j ∧ k + 1 ≤ j) (fun t => n - (intOf t).toNat)
          case atStart => exact ⟨k + 1, by omega, rfl, Nat.le_refl _⟩
          case round =>
            obtain ⟨j, hj, rfl, hjl⟩ := hrel
            by_cases hlt : j < n
            · have hlti : (j : Int) < n := by omega
              obtain ⟨⟨s, u⟩, hx⟩ := sps_i (L := L) (i := j) (by have := hpp.out.2.1; omega)
              obtain ⟨bj, oj, ej, y0, -⟩ := hpp.out.step hx
              cases ej
              rw [hs3.out j s u hjl hx] at y0
              clear hx
              go_wp2
              go_round
              case rel => exact ⟨j + 1, by omega, by go_num, by omega⟩
              case measure => simp [intOf]; omega
            · obtain rfl : j = n := by omega
              have hjj : ¬ (j : Int) < j := by omega
              go_wp2_with (first
                | ((with_reducible refine (hH.out _ hpp.out).mono ?_); rintro e X ⟨rfl, hbx⟩; replace hpp := Lib.hid (hpp.out.later hbx); replace hb := Lib.hid (kept_trans hb.out hbx); have c0 := hpp.out.1.c0; have c1 := hpp.out.1.c1)
                | ((with_reducible refine (hW.out _).mono ?_); rintro e X ⟨rfl, hbx⟩; replace hb := Lib.hid (kept_trans hb.out hbx)))
              go_ret
              exact ⟨rfl, hb.out⟩
      · obtain ⟨hu1, hu2⟩ := lastU_spec (L.map (·.1)) ki
        rcases hu1 with hv | ⟨k2, hk2, hv, hk20⟩
        · have hH := Lib.hid (fun W (hW : PtIn w.heap.size a n c win L W) => (by have := hH0 W hW; rwa [hh, hv, hik] at this : Calls Try.prog 16 #[ptV (.slice a n c) win, .int .i64 ki] W fun e w' => e = .returned (.int .i64 (-1)) ∧ Below W.heap.size W w'))
          subst hik
          have hs4 : Hid (∀ (j : Nat) (s : Sp) (u : Value), 0 ≤ j → j < ki → L[j]? = some (s, u) → s.neg = true) := fun j s u _ hj2 hx => by rw [← hneg j s u hx]; exact hu2 j (by omega) hj2
          have hki0 : ¬ (ki : Int) < 0 := by omega
          have hkin2 : ¬ (n : Int) ≤ ki := by omega
          have hm1 : ¬ (ki : Int) ≤ -1 := by omega
          obtain ⟨⟨sk, vk⟩, hxk⟩ := sps_i (L := L) (i := k) (by omega)
          have hskf : Hid (sk.neg = false) := by show _ = _; rw [← hneg k sk vk hxk]; exact hk0
          replace hxk := Lib.hid hxk
          clear hT0 hH0 hs2 htl hh hn hp hneg hq hm hu2 hv hk0
          go_enter Try.func7, Try.ntmps7
          go_wp2_with (first
            | ((with_reducible refine hG.out.mono ?_); rintro e X ⟨rfl, hbx⟩; replace hpp := Lib.hid (hpp.out.later hbx); replace hb := Lib.hid (kept_trans hb.out hbx); have c0 := hpp.out.1.c0; have c1 := hpp.out.1.c1)
            | ((with_reducible refine (hT.out _ hpp.out).mono ?_); rintro e X ⟨rfl, hbx⟩; replace hpp := Lib.hid (hpp.out.later hbx); replace hb := Lib.hid (kept_trans hb.out hbx); have c0 := hpp.out.1.c0; have c1 := hpp.out.1.c1; obtain ⟨bk, ok, ek, z0, -⟩ := hpp.out.step hxk.out; subst ek; rw [hskf.out] at z0))
          go_loop [6] (fun t => ∃ j : Nat, j ≤ n ∧ t = .int .i64 j ∧ k + 1 ≤ j) (fun t => n - (intOf t).toNat)
          case atStart => exact ⟨k + 1, by omega, rfl, Nat.le_refl _⟩
          case round =>
            obtain ⟨j, hj, rfl, hjl⟩ := hrel
            by_cases hlt : j < n
            · have hlti : (j : Int) < n := by omega
              obtain ⟨⟨s, u⟩, hx⟩ := sps_i (L := L) (i := j) (by have := hpp.out.2.1; omega)
              obtain ⟨bj, oj, ej, y0, -⟩ := hpp.out.step hx
              cases ej
              rw [hs3.out j s u hjl hx] at y0
              clear hx
              go_wp2
              go_round
              case rel => exact ⟨j + 1, by omega, by go_num, by omega⟩
              case measure => simp [intOf]; omega
            · obtain rfl : j = n := by omega
              have hjj : ¬ (j : Int) < j := by omega
              go_wp2_with (first
                | ((with_reducible refine (hH.out _ hpp.out).mono ?_); rintro e X ⟨rfl, hbx⟩; replace hpp := Lib.hid (hpp.out.later hbx); replace hb := Lib.hid (kept_trans hb.out hbx); have c0 := hpp.out.1.c0; have c1 := hpp.out.1.c1)
                | ((with_reducible refine (hW.out _).mono ?_); rintro e X ⟨rfl, hbx⟩; replace hb := Lib.hid (kept_trans hb.out hbx)))
              go_loop [8] (fun t => ∃ j2 : Nat, j2 ≤ ki ∧ t = .int .i64 j2 ∧ 0 ≤ j2) (fun t => ki - (intOf t).toNat)
              case atStart => exact ⟨0, by omega, by first | rfl | go_num, Nat.le_refl _⟩
              case round =>
                obtain ⟨j2, hj2, rfl, hjl2⟩ := hrel
                by_cases hlt2 : j2 < ki
                · have hlti2 : (j2 : Int) < ki := by omega
                  have hlti3 : (j2 : Int) < j := by omega
                  obtain ⟨⟨s2, u2⟩, hx2⟩ := sps_i (L := L) (i := j2) (by have := hpp.out.2.1; omega)
                  obtain ⟨bj2, oj2, ej2, y20, -⟩ := hpp.out.step hx2
                  cases ej2
                  rw [hs4.out j2 s2 u2 (by omega) hlt2 hx2] at y20
                  clear hx2
                  go_wp2
                  go_round
                  case rel => exact ⟨j2 + 1, by omega, by go_num, by omega⟩
                  case measure => simp [intOf]; omega
                · obtain rfl : j2 = ki := by omega
                  have hjj2 : ¬ (j2 : Int) < j2 := by omega
                  go_wp2_with ((with_reducible refine (hW.out _).mono ?_); rintro e X ⟨rfl, hbx⟩; replace hb := Lib.hid (kept_trans hb.out hbx))
                  go_ret
                  exact ⟨rfl, hb.out⟩
        · have hH := Lib.hid (fun W (hW : PtIn w.heap.size a n c win L W) => (by have := hH0 W hW; rwa [hh, hv, hik] at this : Calls Try.prog 16 #[ptV (.slice a n c) win, .int .i64 ki] W fun e w' => e = .returned (.int .i64 k2) ∧ Below W.heap.size W w'))
          subst hik
          have hs4 : Hid (∀ (j : Nat) (s : Sp) (u : Value), k2 + 1 ≤ j → j < ki → L[j]? = some (s, u) → s.neg = true) := fun j s u hj hj2 hx => by rw [← hneg j s u hx]; exact hu2 j (by omega) hj2
          have hki0 : ¬ (ki : Int) < 0 := by omega
          have hkin2 : ¬ (n : Int) ≤ ki := by omega
          have hm1 : ¬ (k2 : Int) < -1 := by omega
          have hm2 : ¬ (ki : Int) ≤ k2 := by omega
          have hm3 : (0 : Int) ≤ k2 := by omega
          have hm4 : (k2 : Int) < n := by omega
          obtain ⟨⟨sk, vk⟩, hxk⟩ := sps_i (L := L) (i := k) (by omega)
          have hskf : Hid (sk.neg = false) := by show _ = _; rw [← hneg k sk vk hxk]; exact hk0
          replace hxk := Lib.hid hxk
          obtain ⟨⟨sm, vm⟩, hxm⟩ := sps_i (L := L) (i := k2) (by omega)
          have hsmf : Hid (sm.neg = false) := by show _ = _; rw [← hneg k2 sm vm hxm]; exact hk20
          replace hxm := Lib.hid hxm
          clear hT0 hH0 hs2 htl hh hn hp hneg hq hm hu2 hv hk0 hk20
          go_enter Try.func7, Try.ntmps7
          go_wp2_with (first
            | ((with_reducible refine hG.out.mono ?_); rintro e X ⟨rfl, hbx⟩; replace hpp := Lib.hid (hpp.out.later hbx); replace hb := Lib.hid (kept_trans hb.out hbx); have c0 := hpp.out.1.c0; have c1 := hpp.out.1.c1)
            | ((with_reducible refine (hT.out _ hpp.out).mono ?_); rintro e X ⟨rfl, hbx⟩; replace hpp := Lib.hid (hpp.out.later hbx); replace hb := Lib.hid (kept_trans hb.out hbx); have c0 := hpp.out.1.c0; have c1 := hpp.out.1.c1; obtain ⟨bk, ok, ek, z0, -⟩ := hpp.out.step hxk.out; subst ek; rw [hskf.out] at z0))
          go_loop [6] (fun t => ∃ j : Nat, j ≤ n ∧ t = .int .i64 j ∧ k + 1 ≤ j) (fun t => n - (intOf t).toNat)
          case atStart => exact ⟨k + 1, by omega, rfl, Nat.le_refl _⟩
          case round =>
            obtain ⟨j, hj, rfl, hjl⟩ := hrel
            by_cases hlt : j < n
            · have hlti : (j : Int) < n := by omega
              obtain ⟨⟨s, u⟩, hx⟩ := sps_i (L := L) (i := j) (by have := hpp.out.2.1; omega)
              obtain ⟨bj, oj, ej, y0, -⟩ := hpp.out.step hx
              cases ej
              rw [hs3.out j s u hjl hx] at y0
              clear hx
              go_wp2
              go_round
              case rel => exact ⟨j + 1, by omega, by go_num, by omega⟩
              case measure => simp [intOf]; omega
            · obtain rfl : j = n := by omega
              have hjj : ¬ (j : Int) < j := by omega
              go_wp2_with (first
                | ((with_reducible refine (hH.out _ hpp.out).mono ?_); rintro e X ⟨rfl, hbx⟩; replace hpp := Lib.hid (hpp.out.later hbx); replace hb := Lib.hid (kept_trans hb.out hbx); have c0 := hpp.out.1.c0; have c1 := hpp.out.1.c1; obtain ⟨bm, om, em, m0, -⟩ := hpp.out.step hxm.out; cases em; rw [hsmf.out] at m0)
                | ((with_reducible refine (hW.out _).mono ?_); rintro e X ⟨rfl, hbx⟩; replace hb := Lib.hid (kept_trans hb.out hbx)))
              go_loop [8] (fun t => ∃ j2 : Nat, j2 ≤ ki ∧ t = .int .i64 j2 ∧ k2 + 1 ≤ j2) (fun t => ki - (intOf t).toNat)
              case atStart => exact ⟨k2 + 1, by omega, by first | rfl | go_num, Nat.le_refl _⟩
              case round =>
                obtain ⟨j2, hj2, rfl, hjl2⟩ := hrel
                by_cases hlt2 : j2 < ki
                · have hlti2 : (j2 : Int) < ki := by omega
                  have hlti3 : (j2 : Int) < j := by omega
                  obtain ⟨⟨s2, u2⟩, hx2⟩ := sps_i (L := L) (i := j2) (by have := hpp.out.2.1; omega)
                  obtain ⟨bj2, oj2, ej2, y20, -⟩ := hpp.out.step hx2
                  cases ej2
                  rw [hs4.out j2 s2 u2 (by omega) hlt2 hx2] at y20
                  clear hx2
                  go_wp2
                  go_round
                  case rel => exact ⟨j2 + 1, by omega, by go_num, by omega⟩
                  case measure => simp [intOf]; omega
                · obtain rfl : j2 = ki := by omega
                  have hjj2 : ¬ (j2 : Int) < j2 := by omega
                  go_wp2_with ((with_reducible refine (hW.out _).mono ?_); rintro e X ⟨rfl, hbx⟩; replace hb := Lib.hid (kept_trans hb.out hbx))
                  go_ret
                  exact ⟨rfl, hb.out⟩
end Go.Proofs.Ytmgkamljlgmmeaa.Tree
