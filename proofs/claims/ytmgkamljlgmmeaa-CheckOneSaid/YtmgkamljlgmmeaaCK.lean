/-
  CheckMay's walk.
-/
import Derived.Test.YtmgkamljlgmmeaaCN
import Derived.Test.YtmgkamljlgmmeaaRAW
namespace Go.Proofs.Ytmgkamljlgmmeaa.Tree
open Go.ChangeShapes Go.WideShapes Go.ChangeAt Go.RowKit
set_option linter.unusedVariables false
set_option linter.unusedSimpArgs false
attribute [local go_sem] Oper.semAt_some
theorem may_facts {ss : List Sp} {win : Int} (h : mayB ss win = true) : rightP ss win = true ∧ ∀ k, k < 7 → KeptAll ss win k := by
  unfold mayB at h
  cases hr : rightP ss win with
  | false => rw [checkT_wrong hr] at h; exact absurd h (by decide)
  | true =>
    refine ⟨rfl, ?_⟩
    rcases checkT_cases hr with ⟨-, hk⟩ | ⟨k, i, e, -⟩
    · exact hk
    · rw [e] at h; simp at h
theorem within_id {n : Int} (h : 0 ≤ n) (h2 : n ≤ 1099511627776) : within n = n := by unfold within; omega
/-- What is known of a step of a pattern that may be. -/
def MaySp (ss : List Sp) (i : Nat) (s : Sp) : Prop :=
  0 ≤ s.kind ∧ s.kind < 6 ∧ 1 ≤ s.min ∧ s.min ≤ s.max ∧ s.max ≤ 3 ∧ (s.neg = true → s.max = 1 ∧ s.strict = false) ∧ (s.strict = true → 1 ≤ i ∧ (stepA ss (i - 1)).neg = false) ∧ s.cs.length ≤ 4 ∧
    ∀ x ∈ namesC s.cs, 0 ≤ x ∧ x ≤ i ∧ (x < i → (stepA ss x.toNat).neg = false ∧ (stepA ss x.toNat).max = 1)
theorem may_step {ss : List Sp} {win : Int} (hr : rightP ss win = true) (hk : ∀ k, k < 7 → KeptAll ss win k) {i : Nat} {s : Sp} (hs : ss[i]? = some s) : MaySp ss i s := by
  have hrs := right_step hr hs
  have h1 := hk 1 (by omega) i s hs
  have h2 := hk 2 (by omega) i s hs
  have h3 := hk 3 (by omega) i s hs
  have h4 := hk 4 (by omega) i s hs
  have h6 := hk 6 (by omega) i s hs
  have hpos := names_pos hrs
  unfold rightS at hrs
  simp only [Bool.and_eq_true, nbr, decide_eq_true_eq] at hrs
  simp only [ruleB, decide_eq_true_eq] at h2
  simp only [ruleB, rule4, onceS, follows, Bool.and_eq_true, Bool.or_eq_true, Bool.not_eq_true', decide_eq_true_eq] at h3
  simp only [ruleB, rule5, Bool.and_eq_true, Bool.or_eq_true, decide_eq_true_eq] at h4
  simp only [ruleB, Bool.and_eq_true, Bool.or_eq_true, Bool.not_eq_true', decide_eq_true_eq] at h1
  simp only [ruleB, rule7, asksP, Bool.and_eq_true, decide_eq_true_eq, List.all_eq_true, Bool.not_eq_true'] at h6
  have hsA := stepA_of hs
  have hmm : 1 ≤ s.min ∧ s.min ≤ s.max ∧ s.max ≤ 3 := by
    rcases h4 with h | h
    · rcases h3.1 with h' | h'
      · rw [h] at h'; cases h'
      · omega
    · exact ⟨h.1.1, h.1.2, h.2⟩
  have hstr : s.strict = true → s.neg = false ∧ 1 ≤ i ∧ (stepA ss (i - 1)).neg = false := fun hst => by
    rcases h3.2 with h | h
    · rw [hst] at h; cases h
    · rw [hsA] at h
      refine ⟨h.1, ?_⟩
      by_cases h0 : i = 0
      · subst h0
        rcases h1 with h' | h'
        · omega
        · rw [hst] at h'; exact absurd h'.2 (by decide)
      · rcases h.2 with h' | h'
        · exact absurd h' h0
        · exact ⟨by omega, h'⟩
  refine ⟨hrs.1.1.1.1, h2, hmm.1, hmm.2.1, hmm.2.2, fun hn => ?_, fun hst => (hstr hst).2, h6.1, fun x hx => ?_⟩
  · refine ⟨?_, ?_⟩
    · rcases h3.1 with h' | h'
      · rw [hn] at h'; cases h'
      · exact h'.2
    · cases hst : s.strict with
      | false => rfl
      | true => have := (hstr hst).1; rw [hn] at this; cases this
  · have hb := h6.2 x hx
    unfold askBad at hb
    rw [Bool.or_eq_false_iff] at hb
    have hxi : ¬ (i : Int) < x := by simpa using hb.1
    refine ⟨hpos x hx, by omega, fun hlt => ?_⟩
    have hb2 := hb.2
    rw [decide_eq_true hlt, Bool.true_and, Bool.or_eq_false_iff] at hb2
    exact ⟨hb2.1, by simpa using hb2.2⟩
theorem most_next {ss : List Sp} {i : Nat} {s : Sp} (hs : ss[i]? = some s) : mostP (ss.take (i + 1)) = mostP (ss.take i) + (if s.neg then 0 else within s.max) := by
  unfold mostP sumF
  rw [List.take_add_one, hs]
  simp
theorem names_mem {cs : List Cp} {k : Nat} {x : Cp} (h : cs[k]? = some x) {y : Int} (hy : y ∈ namesT x.l ++ namesT x.r) : y ∈ namesC cs := by
  unfold namesC namesL termsC
  rcases List.mem_append.1 hy with hy | hy
  · exact List.mem_flatMap.2 ⟨x.l, List.mem_flatMap.2 ⟨x, List.mem_of_getElem? h, by simp⟩, hy⟩
  · exact List.mem_flatMap.2 ⟨x.r, List.mem_flatMap.2 ⟨x, List.mem_of_getElem? h, by simp⟩, hy⟩
theorem most_nn (ss : List Sp) : 0 ≤ mostP ss := by
  have := most_take ss 0
  simpa [mostP, sumF] using this
set_option maxRecDepth 100000 in
set_option maxHeartbeats 8000000 in
theorem mayWalk (hwk : WakesC) (v : Value) (L : List (Sp × Value)) (win : Int) (w : World) (h : SpsL w v L) (hl : L.length ≤ maxLen ∧ Roomy v) (hq : ∀ x ∈ L, InSp w x) :
    Calls Try.prog 4 #[ptV v win] w fun e w' => e = .returned (.bool true) ∧ Below w.heap.size w w' := by
  have hb := kept_new w (.cells #[v, .int .i64 win] 24)
  have hG := great_W win _ hl.1 (h.later hb)
  have hW := Lib.hid hwk
  obtain ⟨n, hn⟩ : ∃ n, L.length = n := ⟨_, rfl⟩
  obtain ⟨a, c, rfl⟩ := h.lit hn
  have hp : PtIn w.heap.size a n c win L (w.alloc (.cells #[.slice a n c, .int .i64 win] 24)) := ⟨PtBox.new w _ _, hn, h.later hb⟩
  have c0 := hp.1.c0
  have c1 := hp.1.c1
  obtain ⟨G, hg⟩ : ∃ G, great (L.map (·.1)) = G := ⟨_, rfl⟩
  rw [hg] at hG
  cases G with
  | true =>
    replace hG := Lib.hid hG
    replace hb := Lib.hid hb
    clear hp h hl hn hg hwk hq
    go_enter Try.func4, Try.ntmps4
    go_wp2_with (first
      | ((with_reducible refine hG.out.mono ?_); rintro e w2 ⟨rfl, hb2⟩)
      | ((with_reducible refine (hW.out _).mono ?_); rintro e w3 ⟨rfl, hb3⟩))
    go_ret
    exact ⟨rfl, kept_trans hb.out (kept_trans hb2 hb3)⟩
  | false =>
    have hok := ck_of hg hq
    obtain ⟨hS, h40, -⟩ := Small.of_great hg
    rw [List.length_map, hn] at h40
    have hM0 := fun W (hW : PtIn w.heap.size a n c win L W) => may_V win hok W hW.2.2
    have hR0 := fun W (hW : PtIn w.heap.size a n c win L W) => refRight_V win hS.short W hW.2.2
    replace hG := Lib.hid hG
    replace hb := Lib.hid hb
    have hpp := Lib.hid hp
    clear hg h hl hwk hq hok hS
    cases hm : mayB (L.map (·.1)) win with
    | false =>
      rw [hm] at hM0
      replace hM0 := Lib.hid hM0
      clear hR0 hp hn hm
      go_enter Try.func4, Try.ntmps4
      go_wp2_with (first
        | ((with_reducible refine hG.out.mono ?_); rintro e X ⟨rfl, hbx⟩; replace hpp := Lib.hid (hpp.out.later hbx); replace hb := Lib.hid (kept_trans hb.out hbx); have c0 := hpp.out.1.c0; have c1 := hpp.out.1.c1)
        | ((with_reducible refine (hM0.out _ hpp.out).mono ?_); rintro e X ⟨rfl, hbx⟩; replace hpp := Lib.hid (hpp.out.later hbx); replace hb := Lib.hid (kept_trans hb.out hbx); have c0 := hpp.out.1.c0; have c1 := hpp.out.1.c1)
        | ((with_reducible refine (hW.out _).mono ?_); rintro e X ⟨rfl, hbx⟩; replace hb := Lib.hid (kept_trans hb.out hbx)))
      go_ret
      exact ⟨rfl, hb.out⟩
    | true =>
      rw [hm] at hM0
      obtain ⟨hr, hk⟩ := may_facts hm
      rw [hr] at hR0
      replace hM0 := Lib.hid hM0
      replace hR0 := Lib.hid hR0
      have hr0 := hr
      unfold rightP at hr0
      simp only [Bool.and_eq_true, nbr, decide_eq_true_eq, List.length_map, hn] at hr0
      have h1 : 1 ≤ n := hr0.1.1.1
      have hw0 : 0 ≤ win := hr0.1.2.1
      obtain ⟨⟨s0, v0⟩, hx0⟩ := sps_i (L := L) (i := 0) (by omega)
      have k0 := hk 0 (by omega) 0 _ (map_fst hx0)
      have k1 := hk 1 (by omega) 0 _ (map_fst hx0)
      have k5 := hk 5 (by omega) 0 _ (map_fst hx0)
      simp only [ruleB, Bool.and_eq_true, decide_eq_true_eq, List.length_map, hn] at k0
      simp only [ruleB, Bool.and_eq_true, Bool.or_eq_true, Bool.not_eq_true', decide_eq_true_eq, Nat.lt_irrefl, false_or] at k1
      simp only [ruleB, decide_eq_true_eq] at k5
      have hStep := Lib.hid (fun (i : Nat) (s : Sp) (u : Value) (hx : L[i]? = some (s, u)) => may_step hr hk (map_fst hx))
      have hM1 : 1 ≤ mostP (L.map (·.1)) := by
        have e := most_next (map_fst hx0)
        have hs := may_step hr hk (map_fst hx0)
        rw [k1.1, List.take_zero] at e
        have e2 : mostP ([] : List Sp) = 0 := rfl
        rw [e2, within_id (by have := hs.2.2.1; have := hs.2.2.2.1; omega) (by have := hs.2.2.2.2.1; omega)] at e
        have := most_take (L.map (·.1)) 1
        have := hs.2.2.1
        have := hs.2.2.2.1
        simp at e
        omega
      have hneg0 := Lib.hid k1.1
      have hstr0 := Lib.hid k1.2
      have n1 : ¬ (n : Int) < 1 := by omega
      have n0 : (0 : Int) < n := by omega
      have n00 : 0 < n := by omega
      have n6 : ¬ (6 : Int) < n := by omega
      have w0 : ¬ win < 0 := by omega
      have w1 : ¬ (1073741824 : Int) < win := by omega
      replace hx0 := Lib.hid hx0
      replace hn := Lib.hid hn
      have hmn := Lib.hid (fun i => most_nn ((L.map (·.1)).take i))
      have hmt := Lib.hid (fun i => most_take (L.map (·.1)) i)
      have hmx := Lib.hid (fun (i : Nat) (s : Sp) (u : Value) (hx : L[i]? = some (s, u)) => most_next (map_fst hx))
      have hme : Hid (mostP ((L.map (·.1)).take n) = mostP (L.map (·.1))) := by show _ = _; rw [List.take_of_length_le (by simp [hn.out])]
      generalize hMM : mostP (L.map (·.1)) = MM at *
      clear hp hr hk hm hr0 k0 k1 hMM
      go_enter Try.func4, Try.ntmps4
      go_wp2_with (first
        | ((with_reducible refine hG.out.mono ?_); rintro e X ⟨rfl, hbx⟩; replace hpp := Lib.hid (hpp.out.later hbx); replace hb := Lib.hid (kept_trans hb.out hbx); have c0 := hpp.out.1.c0; have c1 := hpp.out.1.c1)
        | ((with_reducible refine (hM0.out _ hpp.out).mono ?_); rintro e X ⟨rfl, hbx⟩; replace hpp := Lib.hid (hpp.out.later hbx); replace hb := Lib.hid (kept_trans hb.out hbx); have c0 := hpp.out.1.c0; have c1 := hpp.out.1.c1)
        | ((with_reducible refine (hR0.out _ hpp.out).mono ?_); rintro e X ⟨rfl, hbx⟩; replace hpp := Lib.hid (hpp.out.later hbx); replace hb := Lib.hid (kept_trans hb.out hbx); have c0 := hpp.out.1.c0; have c1 := hpp.out.1.c1; obtain ⟨b0, o0, rfl, z0, -, -, -, z4, -⟩ := hpp.out.step hx0.out; rw [hneg0.out, Nat.zero_mul, Nat.add_zero] at z0; rw [hstr0.out, Nat.zero_mul, Nat.add_zero] at z4))
      clear hG hM0 hR0 c0 c1 z0 z4
      replace hbx := Lib.hid hbx
      go_loopw [3, 4] (fun u t wr => ∃ i : Nat, i ≤ n ∧ t = .int .i64 i ∧ u = .int .i64 (mostP ((L.map (·.1)).take i)) ∧ Hid (Below X.heap.size X wr)) (fun _ t _ => n - (intOf t).toNat)
      case atStart => exact ⟨0, Nat.zero_le _, rfl, by simp [mostP, sumF], Below.refl _ _⟩
      case round =>
        obtain ⟨i, hi, rfl, rfl, hwr⟩ := hrel
        have hpr := Lib.hid (hpp.out.later hwr.out)
        have c0 := hpr.out.1.c0
        have c1 := hpr.out.1.c1
        by_cases hlt : i < n
        · have hlti : (i : Int) < n := by omega
          obtain ⟨⟨s, v⟩, hx⟩ := sps_i (L := L) (i := i) (by rw [hn.out]; exact hlt)
          have hms := hStep.out i s v hx
          obtain ⟨g1, g2, g3, g4, g5, g6, g7, g8, g9⟩ := hms
          have hmi := Lib.hid (hmx.out i s v hx)
          obtain ⟨bs, os, eb, z0, z1, z2, z3, z4, z5, hv⟩ := hpr.out.step hx
          cases eb
          obtain ⟨m, hm⟩ : ∃ m, s.cs.length = m := ⟨_, rfl⟩
          obtain ⟨a2, c2, rfl⟩ := hv.lit hm
          have hk1 := kept_new wr (.cells #[.bool s.neg, .int .i64 s.kind, .int .i64 s.min, .int .i64 s.max, .bool s.strict, .slice a2 m c2] 35)
          have hsp := SpBox.new wr s (.slice a2 m c2)
          have hpr1 := Lib.hid (hpr.out.later hk1)
          have hsi : Hid (SpIn wr.heap.size s a2 m c2 (wr.alloc (.cells #[.bool s.neg, .int .i64 s.kind, .int .i64 s.min, .int .i64 s.max, .bool s.strict, .slice a2 m c2] 35))) := ⟨hsp, hm, hv.later hk1⟩
          have hwr1 := Lib.hid (kept_trans hwr.out hk1)
          replace hm := Lib.hid hm
          rw [hm.out] at g8
          replace g9 := Lib.hid g9
          replace hx := Lib.hid hx
          clear hk1 hsp hv
          go_upto_region 10 with fail
          clear z0 z1 z2 z3 z4 z5 c0 c1
          generalize (wr.alloc (.cells #[.bool s.neg, .int .i64 s.kind, .int .i64 s.min, .int .i64 s.max, .bool s.strict, .slice a2 m c2] 35)) = W1 at *
          generalize wr.heap.size = P at *
          obtain ⟨q0, q1, q2, q3, q4, q5⟩ := hsi.out.1.cells
          have c0 := hpr1.out.1.c0
          go_cut [126] from 57 to 194 (fun t wx => t = .bool false ∧ wx = W1)
          case first =>
            have f1 : ¬ s.kind < 0 := by omega
            have f2 : ¬ (6 : Int) ≤ s.kind := by omega
            have f3 : ¬ s.min < 1 := by omega
            have f4 : ¬ s.max < s.min := by omega
            have f5 : ¬ (3 : Int) < s.max := by omega
            have f6 : ¬ (4 : Int) < m := by omega
            cases hneg : s.neg with
            | true =>
              obtain ⟨e1, e2⟩ := g6 hneg
              have f7 : (s.max != 1) = false := by simp [e1]
              rw [hneg] at q0
              rw [e2] at q4
              clear hneg e1 e2 g6 g7
              go_wp2_with fail
              go_meet
              exact ⟨rfl, rfl⟩
            | false =>
              rw [hneg] at q0
              cases hst : s.strict with
              | false =>
                rw [hst] at q4
                clear hneg hst g6 g7
                go_wp2_with fail
                go_meet
                exact ⟨rfl, rfl⟩
              | true =>
                obtain ⟨e1, e2⟩ := g7 hst
                rw [hst] at q4
                obtain ⟨j, rfl⟩ : ∃ j, i = j + 1 := ⟨i - 1, by omega⟩
                obtain ⟨⟨sj, vj⟩, hxj⟩ := sps_i (L := L) (i := j) (by rw [hn.out]; omega)
                rw [show j + 1 - 1 = j from rfl, stepA_of (map_fst hxj)] at e2
                obtain ⟨bj, oj, ej, y0, -⟩ := hpr1.out.step hxj
                cases ej
                rw [e2] at y0
                have hjj : ((j + 1 : Nat) : Int) - 1 = j := by omega
                have hj0 : max (j : Int) 0 = j := by omega
                have hj1 : ¬ (j : Int) < 0 := by omega
                have hjn : (j : Int) < n := by omega
                clear hneg hst g6 g7 e1 e2 hxj
                go_wp2_with fail
                go_meet
                exact ⟨rfl, rfl⟩
          case rest =>
            obtain ⟨rfl, rfl⟩ := hcut
            clear g6 g7
            have b0 := hmn.out i
            have b1 := hmt.out i
            have hwi := within_id (n := s.max) (by omega) (by omega)
            obtain ⟨MI1, hMI1⟩ : ∃ q, mostP ((L.map (·.1)).take (i + 1)) = q := ⟨_, rfl⟩
            have hsum : Hid (MI1 = mostP ((L.map (·.1)).take i) + if s.neg = true then 0 else s.max) := by show _ = _; rw [← hMI1, hmi.out, hwi]
            generalize mostP ((L.map (·.1)).take i) = MI at *
            replace hMI1 := Lib.hid hMI1
            clear hwi hmi
            go_upto_if 129 with fail
            go_cut [3] from 57 to 194 (fun t wx => t = .int .i64 MI1 ∧ wx = wc)
            case first =>
              have hsum' := hsum.out
              cases hneg : s.neg with
              | true =>
                rw [hneg] at q0 hsum'
                rw [if_pos rfl, Int.add_zero] at hsum'
                subst hsum'
                clear hneg hsum
                go_wp2_with fail
                go_meet
                exact ⟨rfl, rfl⟩
              | false =>
                rw [hneg] at q0 hsum'
                rw [if_neg (by decide)] at hsum'
                replace hsum' := Lib.hid hsum'
                clear hneg hsum
                go_wp2_with fail
                go_meet
                exact ⟨by rw [hsum'.out], rfl⟩
            case rest =>
              obtain ⟨rfl, rfl⟩ := hcut
              clear q0 q1 q2 q3 q4 q5 c0 b0 b1 hsum g1 g2 g3 g4 g5
              go_wp2_with fail
              go_loopw [6] (fun t wt => ∃ k : Nat, k ≤ m ∧ t = .int .i64 k ∧ Hid (Below wc.heap.size wc wt)) (fun t _ => m - (intOf t).toNat)
              case atStart => exact ⟨0, Nat.zero_le _, rfl, Below.refl _ _⟩
              case round =>
                obtain ⟨k, hk, rfl, hwk2⟩ := hrel
                have hsr := Lib.hid (hsi.out.later hwk2.out)
                have s5 := hsr.out.1.cells.2.2.2.2.2
                by_cases hltk : k < m
                · have hlki : (k : Int) < m := by omega
                  obtain ⟨x, hxk⟩ : ∃ x, s.cs[k]? = some x := ⟨_, List.getElem?_eq_getElem (by rw [hm.out]; exact hltk)⟩
                  obtain ⟨b, o, rfl, y0, y1, y2, y3, y4, y5, y6, y7, y8⟩ := hsr.out.cmp hxk
                  clear y0 y1 y2 y3 y4 y5 y6 y7 y8
                  have hmem := Lib.hid (fun (y : Int) (hy : y ∈ namesT x.l ++ namesT x.r) => g9.out y (names_mem hxk hy))
                  go_upto_region 17 with fail
                  have R1 : Hid (∀ X, AsK P s (some ⟨b, o, none⟩) m c2 wr X → Calls Try.prog 19 #[.agg #[.int .u8 x.l.k, .int .i64 x.l.n, .int .i64 x.l.s, .int .i64 x.l.r]] X fun e Y => ∃ v, e = .returned v ∧ Y.ownsRow wr.heap.size 3 1 v (namesT x.l).length (ints (namesT x.l)) ∧ AsK P s (some ⟨b, o, none⟩) m c2 wr Y ∧ Below X.heap.size X Y) := by
                    show ∀ _, _
                    intro X hX
                    exact (refNames_any x.l X).mono fun e Y ⟨v, he, hr, hb⟩ => ⟨v, he, row_base hr hX.2.size, hX.later hb, hb⟩
                  have R2 : Hid (∀ X, AsK P s (some ⟨b, o, none⟩) m c2 wr X → Calls Try.prog 19 #[.agg #[.int .u8 x.r.k, .int .i64 x.r.n, .int .i64 x.r.s, .int .i64 x.r.r]] X fun e Y => ∃ v, e = .returned v ∧ Y.ownsRow wr.heap.size 3 1 v (namesT x.r).length (ints (namesT x.r)) ∧ AsK P s (some ⟨b, o, none⟩) m c2 wr Y ∧ Below X.heap.size X Y) := by
                    show ∀ _, _
                    intro X hX
                    exact (refNames_any x.r X).mono fun e Y ⟨v, he, hr, hb⟩ => ⟨v, he, row_base hr hX.2.size, hX.later hb, hb⟩
                  have hn1 := names_le x.l
                  have hn2 := names_le x.r
                  obtain ⟨p1, hp1⟩ : ∃ p, (namesT x.l).length = p := ⟨_, rfl⟩
                  obtain ⟨p2, hp2⟩ : ∃ p, (namesT x.r).length = p := ⟨_, rfl⟩
                  rw [hp1] at hn1 R1
                  rw [hp2] at hn2 R2
                  have hb63 : p1 + p2 ≤ maxLen := by unfold maxLen; omega
                  have hb8 : (p1 + p2) * 8 ≤ 140737488355328 := by omega
                  have hil : (ints (namesT x.r)).length = p2 * 1 := by simp [hp2]
                  have hone : ∀ u ∈ ints (namesT x.r), u.oneCell' = true := by simp [Value.oneCell']
                  have hK : AsK P s (some ⟨b, o, none⟩) m c2 wr wr.drew := ⟨hsr.out.later (Below.refl _ _).drew, (Below.refl _ _).drew⟩
                  have hmk : Hid (∀ {X w1 : World} {v : Value}, AsK P s (some ⟨b, o, none⟩) m c2 wr X → X.ownsRow wr.heap.size 3 1 v p1 (ints (namesT x.l)) → X.grownBy w1 v.ownBlock → AsK P s (some ⟨b, o, none⟩) m c2 wr w1) := by
                    show ∀ {_ _ _}, _
                    intro X w1 v hK hr hg
                    have hb : Below wr.heap.size wr w1 := Below.grown hK.2 hg hK.2.size (fun j ej => (World.ownsRow.lt hr j ej).1)
                    exact ⟨hsr.out.later hb, hb⟩
                  have hall := Lib.hid (fun X (h : AsK P s (some ⟨b, o, none⟩) m c2 wr X) => h.all hxk)
                  replace hp1 := Lib.hid hp1
                  replace hp2 := Lib.hid hp2
                  replace hxk := Lib.hid hxk
                  clear s5
                  obtain ⟨all, hallE⟩ : ∃ l, namesT x.l ++ namesT x.r = l := ⟨_, rfl⟩
                  rw [hallE] at hmem
                  have hallL : Hid (all.length = p1 + p2) := by show _ = _; rw [← hallE, List.length_append, hp1.out, hp2.out]
                  have hrow : Hid (∀ {X : World} {v : Value}, X.ownsRow wr.heap.size 3 1 v (p1 + p2) (ints (namesT x.l) ++ ints (namesT x.r)) → IntsAt X v all) := by
                    show ∀ {_ _}, _
                    intro X v h
                    have e : ints (namesT x.l) ++ ints (namesT x.r) = ints all := by rw [← hallE]; simp [ints]
                    rw [e] at h
                    refine IntsAt.of_row (base := wr.heap.size) ?_
                    rw [hallL.out]
                    exact h
                  replace hallE := Lib.hid hallE
                  obtain ⟨i0, hi0, hz0, hz1, hz2⟩ := info_parts Try.info3
                  replace hi0 := Lib.hid hi0
                  go_cut [7] from 134 to 194 (fun t wx => IntsAt wx t all ∧ Below wr.heap.size wr wx)
                  case first =>
                    go_region_held3 (fun X => (X.cell? ⟨P, 5, none⟩ = some (.slice (some ⟨b, o, none⟩) m c2) ∧ X.cell? ⟨b, o + k * 9 + 1, none⟩ = some (.int .u8 x.l.k) ∧ X.cell? ⟨b, o + k * 9 + 2, none⟩ = some (.int .i64 x.l.n) ∧
                      X.cell? ⟨b, o + k * 9 + 3, none⟩ = some (.int .i64 x.l.s) ∧ X.cell? ⟨b, o + k * 9 + 4, none⟩ = some (.int .i64 x.l.r) ∧ X.cell? ⟨b, o + k * 9 + 5, none⟩ = some (.int .u8 x.r.k) ∧
                      X.cell? ⟨b, o + k * 9 + 6, none⟩ = some (.int .i64 x.r.n) ∧ X.cell? ⟨b, o + k * 9 + 7, none⟩ = some (.int .i64 x.r.s) ∧ X.cell? ⟨b, o + k * 9 + 8, none⟩ = some (.int .i64 x.r.r)) ∧ AsK P s (some ⟨b, o, none⟩) m c2 wr X) (first | exact hall.out _ hK | (try go_split_ands); exact hall.out _ ‹AsK P s (some ⟨b, o, none⟩) m c2 wr _›) (first
                      | (go_at_call 19; (try go_split_ands); (with_reducible refine (R1.out _ ‹AsK P s (some ⟨b, o, none⟩) m c2 wr _›).mono ?_); rintro e X ⟨v1, rfl, hr1, hK1, hb1⟩)
                      | (go_at_call 19; (try go_split_ands); (with_reducible refine (R2.out _ ‹AsK P s (some ⟨b, o, none⟩) m c2 wr _›).mono ?_); rintro e X ⟨v2, rfl, hr2, hK2, hb2⟩; have hr1' := row_later hr1 hb2; obtain ⟨a8, c8, rfl, hc8⟩ := cells_of_row hr2)
                      | (refine step_append_cells (by rfl) (.tmp 147) (.tmp 154) 36 (by rfl) wr.heap.size 3 i0 _ 1 8 Try.underlying36 hi0.out hz0 hz1 hz2 rfl (by decide) v1 p1 (ints (namesT x.l)) (by rfl) hr1' a8 p2 c8 (ints (namesT x.r)) (by rfl) hil hc8 hone hb63 hb8 (AsK.later hK2 (Below.refl _ _)).2.size ?_; intro v' w1 hown' hgrow; have hK3 := hmk.out hK2 hr1' hgrow)
                      | fail)
                    all_goals (go_wp2_with fail; go_meet; exact ⟨hrow.out hown', hK3.2⟩)
                  case rest =>
                    obtain ⟨hall5, hb5⟩ := hcut
                    obtain ⟨p, hp⟩ : ∃ p, all.length = p := ⟨_, rfl⟩
                    have hp4 : p ≤ 4 := by rw [← hp, hallL.out]; omega
                    obtain ⟨a9, c9, rfl⟩ := hall5.lit hp
                    have hwk3 := Lib.hid (kept_trans hwk2.out hb5)
                    have hwr3 := Lib.hid (kept_trans hwr1.out hwk3.out)
                    have hpr3 := Lib.hid (hpp.out.later hwr3.out)
                    replace hall5 := Lib.hid hall5
                    replace hp := Lib.hid hp
                    clear R1 R2 hall hrow hmk hK hb5 hallE hallL hp1 hp2 hn1 hn2 hone hil hb63 hb8 hsr hwk2 hi0 hz0 hz1 hz2
                    have c0 := hpr3.out.1.c0
                    go_wp2_with fail
                    go_loop [8] (fun t => ∃ j : Nat, j ≤ p ∧ t = .int .i64 j) (fun t => p - (intOf t).toNat)
                    case atStart => exact ⟨0, Nat.zero_le _, rfl⟩
                    case round =>
                      obtain ⟨j, hj, rfl⟩ := hrel
                      by_cases hltj : j < p
                      · have hlji : (j : Int) < p := by omega
                        obtain ⟨y, hy⟩ : ∃ y, all[j]? = some y := ⟨_, List.getElem?_eq_getElem (by rw [hp.out]; exact hltj)⟩
                        obtain ⟨b6, o6, rfl, z0⟩ := hall5.out.at hp.out hy
                        obtain ⟨hy0, hyi, hyn⟩ := hmem.out y (List.mem_of_getElem? hy)
                        obtain ⟨yn, rfl⟩ : ∃ yn : Nat, y = yn := ⟨y.toNat, by omega⟩
                        have f1 : ¬ (yn : Int) < 0 := by omega
                        have f2 : ¬ (i : Int) < yn := by omega
                        by_cases hlt2 : (yn : Int) < i
                        · obtain ⟨e1, e2⟩ := hyn hlt2
                          obtain ⟨⟨sy, vy⟩, hxy⟩ := sps_i (L := L) (i := yn) (by rw [hn.out]; omega)
                          rw [Int.toNat_natCast, stepA_of (map_fst hxy)] at e1 e2
                          obtain ⟨by1, oy1, ey, w0', w1', w2', w3', -⟩ := hpr3.out.step hxy
                          cases ey
                          have e3 : (sy.max != 1) = false := by simp [e2]
                          rw [e1] at w0'
                          have hyn2 : (yn : Int) < n := by omega
                          clear hyn e1 e2 hxy hy w1' w2'
                          go_wp2_with fail
                          go_round
                          case rel => exact ⟨j + 1, by omega, by go_num⟩
                          case measure => simp [intOf]; omega
                        · clear hyn hy
                          go_wp2_with fail
                          go_round
                          case rel => exact ⟨j + 1, by omega, by go_num⟩
                          case measure => simp [intOf]; omega
                      · obtain rfl : j = p := by omega
                        have hlji : ¬ (j : Int) < j := by omega
                        go_wp2_with fail
                        exact ⟨⟨k + 1, by omega, by go_num, hwk3.out⟩, by simp [intOf]; omega⟩
                · obtain rfl : k = m := by omega
                  have hlki : ¬ (k : Int) < k := by omega
                  have hB := Lib.hid (kept_trans hwr1.out hwk2.out)
                  go_wp2_with fail
                  exact ⟨⟨i + 1, by omega, by go_num, by rw [hMI1.out], hB.out⟩, by simp [intOf]; omega⟩
        · obtain rfl : i = n := by omega
          have hni : ¬ (i : Int) < i := by omega
          rw [hme.out]
          have m1 : (1 : Int) ≤ MM := hM1
          have m4 : MM ≤ 4 := k5
          go_wp2_with ((with_reducible refine (hW.out _).mono ?_); rintro e Z ⟨rfl, hbz⟩)
          go_ret
          exact ⟨rfl, kept_trans hb.out (kept_trans hwr.out hbz)⟩
end Go.Proofs.Ytmgkamljlgmmeaa.Tree
