/-
  Contracts of the document's own rules, of Tail and Head.
-/
import Derived.Test.YtmgkamljlgmmeaaCH
import Derived.Test.YtmgkamljlgmmeaaRAW
namespace Go.Proofs.Ytmgkamljlgmmeaa.Tree
open Go.ChangeShapes Go.WideShapes Go.ChangeAt Go.RowKit
set_option linter.unusedVariables false
set_option linter.unusedSimpArgs false
attribute [local go_sem] Oper.semAt_some
def neg1 (b : Bool) : Int := if b then -1 else 0
set_option maxHeartbeats 1000000 in
theorem refOne_L (a : Option Addr) (n c : Nat) (win : Int) (L : List (Sp × Value)) (w : World) (hl : L.length = n) (h : SpsL w (.slice a n c) L) :
    Calls Try.prog 43 #[ptV (.slice a n c) win] w fun e w' => e = .returned (.int .i64 (neg1 (decide (n ≤ 6) && decide (win ≤ 1073741824)))) ∧ Below w.heap.size w w' := by
  have hb := Lib.hid (kept_new w (.cells #[.slice a n c, .int .i64 win] 24))
  have c0 := (PtBox.new w (.slice a n c) win).c0
  have c1 := (PtBox.new w (.slice a n c) win).c1
  unfold neg1
  clear h hl
  by_cases h1 : n ≤ 6
  · have h1i : ¬ (6 : Int) < n := by omega
    by_cases h2 : win ≤ 1073741824
    · have h2i : ¬ (1073741824 : Int) < win := by omega
      rw [if_pos (by simp [h1, h2])]
      clear h1 h2
      go_enter Try.func43, Try.ntmps43
      go_wp2
      go_ret
      exact ⟨rfl, hb.out⟩
    · have h2i : (1073741824 : Int) < win := by omega
      rw [if_neg (by simp [h2])]
      clear h1 h2
      go_enter Try.func43, Try.ntmps43
      go_wp2
      go_ret
      exact ⟨rfl, hb.out⟩
  · have h1i : (6 : Int) < n := by omega
    rw [if_neg (by simp [h1])]
    clear h1
    go_enter Try.func43, Try.ntmps43
    go_wp2
    go_ret
    exact ⟨rfl, hb.out⟩
set_option maxHeartbeats 1000000 in
theorem refTwo_L (a : Option Addr) (n c : Nat) (win : Int) (L : List (Sp × Value)) (w : World) (hl : L.length = n) (hn : 1 ≤ n) (h : SpsL w (.slice a n c) L) :
    Calls Try.prog 44 #[ptV (.slice a n c) win] w fun e w' => e = .returned (.int .i64 (neg1 (!(stepA (L.map (·.1)) 0).neg && !(stepA (L.map (·.1)) 0).strict))) ∧ Below w.heap.size w w' := by
  have hb := kept_new w (.cells #[.slice a n c, .int .i64 win] 24)
  have hin : PtIn w.heap.size a n c win L (w.alloc (.cells #[.slice a n c, .int .i64 win] 24)) := ⟨PtBox.new w _ _, hl, h.later hb⟩
  obtain ⟨⟨s, v⟩, hx⟩ := sps_i (L := L) (i := 0) (by omega)
  obtain ⟨b, o, rfl, z0, z1, z2, z3, z4, z5, hv⟩ := hin.step hx
  rw [stepA_of (map_fst hx)]
  rw [Nat.zero_mul, Nat.add_zero] at z0 z4
  have c0 := hin.1.c0
  have n0 : (0 : Int) < n := by omega
  have n00 : 0 < n := by omega
  replace hb := Lib.hid hb
  unfold neg1
  clear hin hx hv z1 z2 z3 z5 h hl
  cases hneg : s.neg with
  | true =>
    rw [hneg] at z0
    clear hneg
    go_enter Try.func44, Try.ntmps44
    go_wp2
    go_ret
    exact ⟨rfl, hb.out⟩
  | false =>
    rw [hneg] at z0
    cases hst : s.strict with
    | true =>
      rw [hst] at z4
      clear hneg hst
      go_enter Try.func44, Try.ntmps44
      go_wp2
      go_ret
      exact ⟨rfl, hb.out⟩
    | false =>
      rw [hst] at z4
      clear hneg hst
      go_enter Try.func44, Try.ntmps44
      go_wp2
      go_ret
      exact ⟨rfl, hb.out⟩
theorem most_step {ss : List Sp} {win : Int} (hr : rightP ss win = true) {i : Nat} {s : Sp} (hs : ss[i]? = some s) : mostP (ss.take (i + 1)) = mostP (ss.take i) + (if s.neg then 0 else s.max) ∧ 0 ≤ s.max ∧ s.max ≤ 1099511627776 := by
  have hrs : rightS s = true := by
    unfold rightP at hr
    simp only [Bool.and_eq_true, List.all_eq_true] at hr
    exact hr.2 s (List.mem_of_getElem? hs)
  unfold rightS at hrs
  simp only [Bool.and_eq_true, nbr, decide_eq_true_eq] at hrs
  have hw : within s.max = s.max := by unfold within; omega
  refine ⟨?_, by omega, by omega⟩
  unfold mostP sumF
  rw [List.take_add_one, hs]
  simp [hw]
theorem most_bd (ss : List Sp) : 0 ≤ mostP ss ∧ mostP ss ≤ ss.length * 1099511627776 := by
  unfold mostP sumF
  induction ss with
  | nil => simp
  | cons s r ih =>
    have hx := within_bd s.max
    rw [List.map_cons, List.sum_cons, List.length_cons]
    push_cast
    split <;> omega
set_option maxRecDepth 100000 in
set_option maxHeartbeats 1000000 in
theorem refSix_L (a : Option Addr) (n c : Nat) (win : Int) (L : List (Sp × Value)) (w : World) (hl : L.length = n) (hn : n ≤ 1000) (hr : rightP (L.map (·.1)) win = true) (h : SpsL w (.slice a n c) L) :
    Calls Try.prog 45 #[ptV (.slice a n c) win] w fun e w' => e = .returned (.int .i64 (neg1 (decide (mostP (L.map (·.1)) ≤ 4)))) ∧ Below w.heap.size w w' := by
  have hb := Lib.hid (kept_new w (.cells #[.slice a n c, .int .i64 win] 24))
  have hin : PtIn w.heap.size a n c win L (w.alloc (.cells #[.slice a n c, .int .i64 win] 24)) := ⟨PtBox.new w _ _, hl, h.later hb.out⟩
  have c0 := hin.1.c0
  have hst := Lib.hid (fun (i : Nat) (s : Sp) (v : Value) (hx : L[i]? = some (s, v)) => most_step hr (map_fst hx))
  have hbd := Lib.hid (fun i => most_bd ((L.map (·.1)).take i))
  have hall : Hid (mostP ((L.map (·.1)).take n) = mostP (L.map (·.1))) := by show _ = _; rw [List.take_of_length_le (by simp [hl])]
  replace hin := Lib.hid hin
  replace hl := Lib.hid hl
  clear hr h
  obtain ⟨R, hR⟩ : ∃ R, neg1 (decide (mostP (L.map (·.1)) ≤ 4)) = R := ⟨_, rfl⟩
  rw [hR]
  replace hR := Lib.hid hR
  go_enter Try.func45, Try.ntmps45
  go_wp2_with fail
  go_loop [3, 4] (fun u t => ∃ i : Nat, i ≤ n ∧ t = .int .i64 i ∧ u = .int .i64 (mostP ((L.map (·.1)).take i))) (fun _ t => n - (intOf t).toNat)
  case atStart => exact ⟨0, Nat.zero_le _, rfl, by simp [mostP, sumF]⟩
  case round =>
    obtain ⟨i, hi, rfl, rfl⟩ := hrel
    obtain ⟨b1, b2⟩ := hbd.out i
    have b3 : mostP ((L.map (·.1)).take i) ≤ 1000 * 1099511627776 := by
      rw [List.length_take] at b2
      omega
    by_cases hlt : i < n
    · have hlti : (i : Int) < n := by omega
      obtain ⟨⟨s, v⟩, hx⟩ := sps_i (L := L) (i := i) (by rw [hl.out]; exact hlt)
      obtain ⟨b, o, rfl, z0, z1, z2, z3, z4, z5, hv⟩ := hin.out.step hx
      obtain ⟨e, e1, e2⟩ := hst.out i s v hx
      clear hv hx z1 z2 z4 z5 b2
      obtain ⟨M1, hM1⟩ : ∃ q, mostP ((L.map (·.1)).take (i + 1)) = q := ⟨_, rfl⟩
      rw [hM1] at e
      generalize mostP ((L.map (·.1)).take i) = M0 at *
      replace hM1 := Lib.hid hM1
      cases hneg : s.neg with
      | true =>
        rw [hneg] at z0 e
        rw [if_pos rfl, Int.add_zero] at e
        subst e
        clear hneg
        go_wp2
        go_round
        case rel => exact ⟨i + 1, by omega, by go_num, by rw [hM1.out]⟩
        case measure => simp [intOf]; omega
      | false =>
        rw [hneg] at z0 e
        rw [if_neg (by decide)] at e
        replace e := Lib.hid e
        clear hneg
        go_wp2
        go_round
        case rel => exact ⟨i + 1, by omega, by go_num, by rw [hM1.out, e.out]⟩
        case measure => simp [intOf]; omega
    · obtain rfl : i = n := by omega
      have hni : ¬ (i : Int) < i := by omega
      rw [hall.out]
      generalize mostP (L.map (·.1)) = MM at *
      have hRR := hR.out
      unfold neg1 at hRR
      by_cases h4 : MM ≤ 4
      · have h4i : ¬ (4 : Int) < MM := by omega
        rw [if_pos (by simp [h4])] at hRR
        subst hRR
        clear h4 b2
        go_wp2
        go_ret
        exact ⟨rfl, hb.out⟩
      · have h4i : (4 : Int) < MM := by omega
        rw [if_neg (by simp [h4])] at hRR
        subst hRR
        clear h4 b2
        go_wp2
        go_ret
        exact ⟨rfl, hb.out⟩
set_option maxHeartbeats 1000000 in
theorem refThree_L (a : Option Addr) (n c : Nat) (win : Int) (i : Nat) (s : Sp) (v : Value) (L : List (Sp × Value)) (w : World) (hl : L.length = n) (hx : L[i]? = some (s, v)) (h : SpsL w (.slice a n c) L) :
    Calls Try.prog 53 #[ptV (.slice a n c) win, .int .i64 i] w fun e w' => e = .returned (.bool (decide (s.kind < 6))) ∧ Below w.heap.size w w' := by
  have hb := Lib.hid (kept_new w (.cells #[.slice a n c, .int .i64 win] 24))
  have hin : PtIn w.heap.size a n c win L (w.alloc (.cells #[.slice a n c, .int .i64 win] 24)) := ⟨PtBox.new w _ _, hl, h.later hb.out⟩
  have hi : (i : Int) < n := by have := (List.getElem?_eq_some_iff.1 hx).1; omega
  obtain ⟨b, o, rfl, z0, z1, z2, z3, z4, z5, hv⟩ := hin.step hx
  have c0 := hin.1.c0
  clear hin hx hv z0 z2 z3 z4 z5 h hl
  go_enter Try.func53, Try.ntmps53
  go_wp2
  go_ret
  exact ⟨rfl, hb.out⟩
set_option maxRecDepth 100000 in
set_option maxHeartbeats 1000000 in
theorem refFive_L (a : Option Addr) (n c : Nat) (win : Int) (i : Nat) (s : Sp) (v : Value) (L : List (Sp × Value)) (w : World) (hl : L.length = n) (hx : L[i]? = some (s, v)) (h : SpsL w (.slice a n c) L) :
    Calls Try.prog 55 #[ptV (.slice a n c) win, .int .i64 i] w fun e w' => e = .returned (.bool (rule5 s)) ∧ Below w.heap.size w w' := by
  have hb := Lib.hid (kept_new w (.cells #[.slice a n c, .int .i64 win] 24))
  have hin : PtIn w.heap.size a n c win L (w.alloc (.cells #[.slice a n c, .int .i64 win] 24)) := ⟨PtBox.new w _ _, hl, h.later hb.out⟩
  have hi : (i : Int) < n := by have := (List.getElem?_eq_some_iff.1 hx).1; omega
  obtain ⟨b, o, rfl, z0, z1, z2, z3, z4, z5, hv⟩ := hin.step hx
  obtain ⟨a2, c2, ev, -⟩ := hv
  obtain ⟨m, hm⟩ : ∃ m, s.cs.length = m := ⟨_, rfl⟩
  rw [hm] at ev
  subst ev
  have c0 := hin.1.c0
  have hb2 := Lib.hid (kept_alloc hb.out (.cells #[.bool s.neg, .int .i64 s.kind, .int .i64 s.min, .int .i64 s.max, .bool s.strict, .slice a2 m c2] 35))
  obtain ⟨q0, q1, q2, q3, q4, q5⟩ := (SpBox.new (w.alloc (.cells #[.slice (some ⟨b, o, none⟩) n c, .int .i64 win] 24)) s (.slice a2 m c2)).cells
  obtain ⟨R, hR⟩ : ∃ R, rule5 s = R := ⟨_, rfl⟩
  rw [hR]
  unfold rule5 at hR
  clear hin hx h hl hm
  cases hneg : s.neg with
  | true =>
    rw [hneg] at q0 z0 hR hb2 q1 q2 q3 q4 q5
    rw [Bool.true_or] at hR
    subst hR
    clear hneg
    go_enter Try.func55, Try.ntmps55
    go_wp2
    go_ret
    exact ⟨rfl, hb2.out⟩
  | false =>
    rw [hneg] at q0 z0 hR hb2 q1 q2 q3 q4 q5
    rw [Bool.false_or] at hR
    clear hneg
    by_cases h1 : 1 ≤ s.min
    · by_cases h2 : s.min ≤ s.max
      · have hR' : Hid (decide (s.max ≤ 3) = R) := by show _ = _; rw [← hR]; simp [h1, h2]
        clear hR
        go_enter Try.func55, Try.ntmps55
        go_wp2
        go_ret
        exact ⟨by rw [← hR'.out]; rfl, hb2.out⟩
      · have hR' : R = false := by rw [← hR]; simp [h1, h2]
        subst hR'
        clear hR
        go_enter Try.func55, Try.ntmps55
        go_wp2
        go_ret
        exact ⟨rfl, hb2.out⟩
    · have hR' : R = false := by rw [← hR]; simp [h1]
      subst hR'
      clear hR
      go_enter Try.func55, Try.ntmps55
      go_wp2
      go_ret
      exact ⟨rfl, hb2.out⟩
set_option maxRecDepth 100000 in
set_option maxHeartbeats 1000000 in
theorem refFour_L (a : Option Addr) (n c : Nat) (win : Int) (i : Nat) (s : Sp) (v : Value) (L : List (Sp × Value)) (w : World) (hl : L.length = n) (hn : n ≤ 1000000) (hx : L[i]? = some (s, v)) (h : SpsL w (.slice a n c) L) :
    Calls Try.prog 54 #[ptV (.slice a n c) win, .int .i64 i] w fun e w' => e = .returned (.bool (rule4 (L.map (·.1)) i s)) ∧ Below w.heap.size w w' := by
  have hb := Lib.hid (kept_new w (.cells #[.slice a n c, .int .i64 win] 24))
  have hin : PtIn w.heap.size a n c win L (w.alloc (.cells #[.slice a n c, .int .i64 win] 24)) := ⟨PtBox.new w _ _, hl, h.later hb.out⟩
  have hil : i < n := by have := (List.getElem?_eq_some_iff.1 hx).1; omega
  have hi : (i : Int) < n := by omega
  obtain ⟨b, o, rfl, z0, z1, z2, z3, z4, z5, hv⟩ := hin.step hx
  obtain ⟨a2, c2, ev, -⟩ := hv
  obtain ⟨m, hm⟩ : ∃ m, s.cs.length = m := ⟨_, rfl⟩
  rw [hm] at ev
  subst ev
  have c0 := hin.1.c0
  have hk2 := kept_new (w.alloc (.cells #[.slice (some ⟨b, o, none⟩) n c, .int .i64 win] 24)) (.cells #[.bool s.neg, .int .i64 s.kind, .int .i64 s.min, .int .i64 s.max, .bool s.strict, .slice a2 m c2] 35)
  have hb2 := Lib.hid (kept_trans hb.out hk2)
  have hin2 := Lib.hid (hin.later hk2)
  have c0' := hin2.out.1.c0
  obtain ⟨q0, q1, q2, q3, q4, q5⟩ := (SpBox.new (w.alloc (.cells #[.slice (some ⟨b, o, none⟩) n c, .int .i64 win] 24)) s (.slice a2 m c2)).cells
  have hsi := stepA_of (map_fst hx)
  obtain ⟨R, hR⟩ : ∃ R, rule4 (L.map (·.1)) i s = R := ⟨_, rfl⟩
  rw [hR]
  unfold rule4 onceS follows at hR
  rw [hsi] at hR
  clear hin hk2 hx h hm hsi
  cases hneg : s.neg with
  | true =>
    rw [hneg] at q0 z0 hR hb2 q1 q2 q3 q4 q5 c0' hin2
    replace hin2 := hin2.out
    simp only [Bool.not_true, Bool.false_or, Bool.false_and, Bool.or_false] at hR
    by_cases h1 : s.min = 1
    · have h1B : (s.min != 1) = false := by simp [h1]
      by_cases h2 : s.max = 1
      · have h2B : (s.max != 1) = false := by simp [h2]
        have hR' : Hid ((!s.strict) = R) := by show _ = _; rw [← hR]; simp [h1, h2]
        clear hR h1 h2 hneg
        cases hst : s.strict with
        | true =>
          rw [hst] at q4 z4 hb2 q0 q1 q2 q3 q5 c0' hR'
          have hRR := hR'.out
          subst hRR
          clear hst hR' hin2
          go_enter Try.func54, Try.ntmps54
          go_wp2
          go_ret
          exact ⟨rfl, hb2.out⟩
        | false =>
          rw [hst] at q4 z4 hb2 q0 q1 q2 q3 q5 c0' hR' hin2
          have hRR := hR'.out
          subst hRR
          clear hst hR'
          by_cases h0 : i = 0
          · subst h0
            rw [show ((0 : Nat) : Int) = 0 from rfl] at hi ⊢
            rw [Nat.zero_mul, Nat.add_zero] at z0 z1 z2 z3 z4 z5
            have n00 : 0 < n := hil
            go_enter Try.func54, Try.ntmps54
            go_wp2
            go_ret
            exact ⟨rfl, hb2.out⟩
          · obtain ⟨k, rfl⟩ : ∃ k, i = k + 1 := ⟨i - 1, by omega⟩
            obtain ⟨⟨s2, v2⟩, hx2⟩ := sps_i (L := L) (i := k) (by omega)
            obtain ⟨b2, o2, e2, y0, -⟩ := hin2.step hx2
            cases e2
            have hB : (((k + 1 : Nat) : Int) == 0) = false := by simp; omega
            have hk : ((k + 1 : Nat) : Int) - 1 = k := by omega
            have hkk : (k : Int) < n := by omega
            clear hx2 h0 hl
            cases hp : s2.neg
            all_goals
              rw [hp] at y0
              clear hp
              go_enter Try.func54, Try.ntmps54
              go_wp2
              go_ret
              exact ⟨rfl, hb2.out⟩
      · have h2B : (s.max != 1) = true := by simp [h2]
        have hR' : R = false := by rw [← hR]; simp [h2]
        subst hR'
        clear hR h1 h2 hneg
        go_enter Try.func54, Try.ntmps54
        go_wp2
        go_ret
        exact ⟨rfl, hb2.out⟩
    · have h1B : (s.min != 1) = true := by simp [h1]
      have hR' : R = false := by rw [← hR]; simp [h1]
      subst hR'
      clear hR h1 hneg
      go_enter Try.func54, Try.ntmps54
      go_wp2
      go_ret
      exact ⟨rfl, hb2.out⟩
  | false =>
    rw [hneg] at q0 z0 hR hb2 q1 q2 q3 q4 q5 c0' hin2
    simp only [Bool.not_false, Bool.true_or, Bool.true_and] at hR
    replace hin2 := hin2.out
    clear hneg
    by_cases h0 : i = 0
    · subst h0
      rw [show ((0 : Nat) : Int) = 0 from rfl] at hi ⊢
      rw [Nat.zero_mul, Nat.add_zero] at z0 z1 z2 z3 z4 z5
      have n00 : 0 < n := hil
      have hRR : R = true := by rw [← hR]; simp
      subst hRR
      clear hR
      go_enter Try.func54, Try.ntmps54
      go_wp2
      go_ret
      exact ⟨rfl, hb2.out⟩
    · obtain ⟨k, rfl⟩ : ∃ k, i = k + 1 := ⟨i - 1, by omega⟩
      obtain ⟨⟨s2, v2⟩, hx2⟩ := sps_i (L := L) (i := k) (by omega)
      obtain ⟨b2, o2, e2, y0, -⟩ := hin2.step hx2
      cases e2
      have hB : (((k + 1 : Nat) : Int) == 0) = false := by simp; omega
      have hk : ((k + 1 : Nat) : Int) - 1 = k := by omega
      have hkk : (k : Int) < n := by omega
      rw [show k + 1 - 1 = k from rfl, stepA_of (map_fst hx2)] at hR
      clear hx2 h0 hl
      cases hp : s2.neg
      all_goals
        rw [hp] at y0
        rw [hp] at hR
        cases hst : s.strict
        all_goals
          rw [hst] at q4 z4 hb2 q0 q1 q2 q3 q5 c0' hR y0
          simp at hR
          subst hR
          clear hst hp
          go_enter Try.func54, Try.ntmps54
          go_wp2
          go_ret
          exact ⟨rfl, hb2.out⟩
end Go.Proofs.Ytmgkamljlgmmeaa.Tree
