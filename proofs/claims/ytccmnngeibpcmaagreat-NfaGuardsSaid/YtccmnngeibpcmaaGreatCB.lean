/-
  Contracts of asksRight, and of the rules that ask it.
-/
import Derived.Test.YtccmnngeibpcmaaGreatCA
namespace Go.Proofs.YtccmnngeibpcmaaGreat.Tree
open Go.ChangeShapes Go.WideShapes Go.ChangeAt Go.RowKit
set_option linter.unusedVariables false
set_option linter.unusedSimpArgs false
attribute [local go_sem] Oper.semAt_some
/-- May the step i ask the step x? -/
def askBad (ss : List Sp) (i : Nat) (x : Int) : Bool := decide ((i : Int) < x) || (decide (x < i) && ((stepA ss x.toNat).neg || !(stepA ss x.toNat).max == 1))
def asksP (ss : List Sp) (i : Nat) (s : Sp) : Bool := (namesC s.cs).all fun x => !askBad ss i x
theorem asks_no {ss : List Sp} {i : Nat} {s : Sp} {k : Nat} {x : Int} (h : (setOf (namesC s.cs))[k]? = some x) (hb : askBad ss i x = true) : asksP ss i s = false := by
  unfold asksP
  rw [List.all_eq_false]
  exact ⟨x, (setOf_mem _ _).1 (List.mem_of_getElem? h), by simp [hb]⟩
theorem asks_yes {ss : List Sp} {i : Nat} {s : Sp} (h : ∀ k x, k < (setOf (namesC s.cs)).length → (setOf (namesC s.cs))[k]? = some x → askBad ss i x = false) : asksP ss i s = true := by
  unfold asksP
  rw [List.all_eq_true]
  intro x hx
  obtain ⟨k, hk⟩ := List.mem_iff_getElem?.1 ((setOf_mem _ _).2 hx)
  simp [h k x (List.getElem?_eq_some_iff.1 hk).1 hk]
theorem askBad_more {ss : List Sp} {i : Nat} {x : Int} (h : (i : Int) < x) : askBad ss i x = true := by unfold askBad; simp [h]
theorem askBad_own {ss : List Sp} {i : Nat} {x : Int} (h : ¬ (i : Int) < x) (h2 : ¬ x < i) : askBad ss i x = false := by unfold askBad; simp [h, h2]
theorem askBad_neg {ss : List Sp} {i k : Nat} {s : Sp} (h : k < i) (hs : ss[k]? = some s) (hn : s.neg = true) : askBad ss i k = true := by
  unfold askBad; rw [Int.toNat_natCast, stepA_of hs, hn]; simp; omega
theorem askBad_max {ss : List Sp} {i k : Nat} {s : Sp} (h : k < i) (hs : ss[k]? = some s) (hn : s.neg = false) (b : Bool) (hm : (s.max == 1) = b) : askBad ss i k = !b := by
  unfold askBad; rw [Int.toNat_natCast, stepA_of hs, hn, hm]; cases b <;> simp <;> omega
theorem ints_cell {w : World} {base : Nat} {v : Value} {l : List Int} (h : w.ownsRow base 3 1 v l.length (ints l)) : IntsAt w v l := IntsAt.of_row h
set_option maxRecDepth 100000 in
set_option maxHeartbeats 1000000 in
theorem asks_any (i : Nat) (a1 : Option Addr) (n c1 : Nat) (win : Int) (L : List (Sp × Value)) (s : Sp) (v : Value) (w : World) (hn : L.length = n) (hx : L[i]? = some (s, v)) (hn2 : n ≤ 1000000) (hm : s.cs.length ≤ 100000)
    (hpos : ∀ x ∈ namesC s.cs, 0 ≤ x) (h : SpsL w (.slice a1 n c1) L) :
    Calls Tryz.prog 83 #[ptV (.slice a1 n c1) win, .int .i64 i] w fun e w' => e = .returned (.bool (asksP (L.map (·.1)) i s)) ∧ Below w.heap.size w w' := by
  have hb := kept_new w (.cells #[.slice a1 n c1, .int .i64 win] 24)
  have hin : PtIn w.heap.size a1 n c1 win L (w.alloc (.cells #[.slice a1 n c1, .int .i64 win] 24)) := ⟨PtBox.new w _ _, hn, h.later hb⟩
  have hi : i < n := by have := (List.getElem?_eq_some_iff.1 hx).1; omega
  have hii : (i : Int) < n := by omega
  obtain ⟨b, o, rfl, z0, z1, z2, z3, z4, z5, hv⟩ := hin.step hx
  have c0 := hin.1.c0
  obtain ⟨m, hml⟩ : ∃ m, s.cs.length = m := ⟨_, rfl⟩
  obtain ⟨a2, c2, rfl⟩ := hv.lit hml
  have hA := asked_V s hm _ hv
  obtain ⟨R, hR⟩ : ∃ R, asksP (L.map (·.1)) i s = R := ⟨_, rfl⟩
  have hposs : Hid (∀ x ∈ setOf (namesC s.cs), 0 ≤ x) := fun x hx => hpos x ((setOf_mem _ _).1 hx)
  have hno := Lib.hid (fun k x (h1 : (setOf (namesC s.cs))[k]? = some x) h2 => asks_no (ss := L.map (·.1)) (i := i) h1 h2)
  have hyes := Lib.hid (asks_yes (ss := L.map (·.1)) (i := i) (s := s))
  generalize hset : setOf (namesC s.cs) = N at *
  obtain ⟨q, hq⟩ : ∃ q, N.length = q := ⟨_, rfl⟩
  rw [hR] at hno hyes
  have hq63 : q ≤ 1000000 := by
    have h1 := namesC_len s.cs
    have h2 : N.length ≤ (namesC s.cs).length := by
      rw [← hset]; unfold setOf
      exact Nat.le_trans (Lib.compact_length_le _) (Nat.le_of_eq (List.length_mergeSort _))
    omega
  rw [hq] at hA hyes
  replace hq := Lib.hid hq
  replace hA := Lib.hid hA
  replace hR := Lib.hid hR
  replace hin := Lib.hid hin
  replace hb := Lib.hid hb
  clear h hx hn hv hset hml hm hpos
  refine (callsIn_wide (n := 9)).1 ?_
  refine callsIn_of_wp_marks Tryz.func83 rfl trivial ?_ rfl
  rw [wpIn_wide]
  simp only [Tryz.ntmps83, List.size_toArray, List.length_cons, List.length_nil, Nat.reduceAdd, Nat.reduceSub, Array.replicate_succ, Array.replicate_zero, List.push_toArray, List.append_toArray, List.nil_append, List.cons_append]
  go_wp2
  refine wp_scope_jumps 0 (fun a' W => R = false ∧ Below w.heap.size w W ∧ a'.defers = [] ∧ 4 < a'.tmps.size) (fun _ _ => 0) rfl ?_ ?_
  · go_wp2_with ((with_reducible refine hA.out.mono ?_); rintro e w1 ⟨vN, rfl, hr, hb1⟩; have hI := ints_cell (l := N) (by rw [hq.out]; exact hr); obtain ⟨aN, cN, rfl⟩ := hI.lit hq.out)
    replace hb : Hid (Below w.heap.size w w1) := kept_trans hb.out hb1
    replace hin := Lib.hid (hin.out.later hb1)
    clear c0 z0 z1 z2 z3 z4 z5 hA hr hb1
    generalize hB : w.heap.size = B at *
    replace hb : Hid (Below w.heap.size w w1) := by rw [hB]; exact hb
    replace hB := Lib.hid hB
    go_loop [14] (fun t => ∃ k : Nat, k ≤ q ∧ t = .int .i64 k ∧ Hid (∀ j x, j < k → N[j]? = some x → askBad (L.map (·.1)) i x = false)) (fun t => q - (intOf t).toNat)
    case atStart => exact ⟨0, Nat.zero_le _, rfl, fun j x hj => by omega⟩
    case round =>
      obtain ⟨k, hk, rfl, hall⟩ := hrel
      by_cases hlt : k < q
      · have hlti : (k : Int) < q := by omega
        obtain ⟨x, hx⟩ : ∃ x, N[k]? = some x := ⟨_, List.getElem?_eq_getElem (by rw [hq.out]; exact hlt)⟩
        obtain ⟨bn, on, rfl, z0⟩ := hI.at hq.out hx
        have hx0 := hposs.out x (List.mem_of_getElem? hx)
        have hnok := hno.out k x hx
        have hall' : askBad (L.map (·.1)) i x = false → Hid (∀ j y, j < k + 1 → N[j]? = some y → askBad (L.map (·.1)) i y = false) := fun he j y hj hy => by
          by_cases hjk : j = k
          · subst hjk; rw [hx] at hy; cases hy; exact he
          · exact hall.out j y (by omega) hy
        obtain ⟨y, rfl⟩ : ∃ y : Nat, x = y := ⟨x.toNat, by omega⟩
        clear hx
        by_cases h1 : (i : Int) < y
        · have hRf := hnok (askBad_more h1)
          clear hnok hall'
          go_wp2
          refine wp_goto ?_
          exact ⟨rfl, hRf, hb.out, rfl, by simp⟩
        · by_cases h2 : (y : Int) < i
          · have hyn : (y : Int) < n := by omega
            have hyi : y < i := by omega
            obtain ⟨⟨s2, v2⟩, hx2⟩ := sps_i (L := L) (i := y) (by have := hin.out.2.1; omega)
            obtain ⟨b2, o2, e2, y0, y1, y2, y3, y4, y5, hv2⟩ := hin.out.step hx2
            cases e2
            have c0 := hin.out.1.c0
            have hs2 := map_fst hx2
            cases hneg : s2.neg with
            | true =>
              have hRf := hnok (askBad_neg hyi hs2 hneg)
              rw [hneg] at y0
              clear hnok hall' hs2 hneg hx2 hv2
              go_wp2
              refine wp_goto ?_
              exact ⟨rfl, hRf, hb.out, rfl, by simp⟩
            | false =>
              rw [hneg] at y0
              cases hmx : s2.max == 1 with
              | true =>
                replace hall' := hall' (askBad_max hyi hs2 hneg true hmx)
                clear hnok hs2 hneg hx2 hv2
                go_wp2
                go_round
                case rel => exact ⟨k + 1, by omega, by go_num, hall'⟩
                case measure => simp [intOf]; omega
              | false =>
                have hRf := hnok (askBad_max hyi hs2 hneg false hmx)
                clear hnok hall' hs2 hneg hx2 hv2
                go_wp2
                refine wp_goto ?_
                exact ⟨rfl, hRf, hb.out, rfl, by simp⟩
          · replace hall' := hall' (askBad_own h1 h2)
            clear hnok
            go_wp2
            go_round
            case rel => exact ⟨k + 1, by omega, by go_num, hall'⟩
            case measure => simp [intOf]; omega
      · obtain rfl : k = q := by omega
        have hRt : R = true := hyes.out hall.out
        go_wp2
        rw [jump_ret]
        exact ⟨_, results_tmp rfl _ _ _, by rw [hR.out, hRt]; rfl, hb.out⟩
  · rintro a' W ⟨hr, hB, hd, hs⟩
    go_wp2
    rw [jump_ret]
    exact ⟨.bool false, by simp [results, Tryz.results83, go_sem, hs], by rw [hR.out, hr], hB⟩
def rule4 (ss : List Sp) (i : Nat) (s : Sp) : Bool := (!s.neg || onceS s) && (!s.strict || follows ss i)
set_option maxRecDepth 100000 in
set_option maxHeartbeats 1000000 in
theorem rule4_any (i : Nat) (a1 : Option Addr) (n c1 p : Nat) (win : Int) (L : List (Sp × Value)) (s : Sp) (a : Option Addr) (m c : Nat) (w : World) (hi : i < n) (hn2 : n ≤ 1000000) (hp : PtIn p a1 n c1 win L w) :
    Calls Tryz.prog 77 #[.int .i64 i, spV s (.slice a m c), .pointer (some ⟨p, 0, none⟩)] w fun e w' => e = .returned (.bool (rule4 (L.map (·.1)) i s)) ∧ Below w.heap.size w w' := by
  have hb := Lib.hid (kept_new w (.cells #[.bool s.neg, .int .i64 s.kind, .int .i64 s.min, .int .i64 s.max, .bool s.strict, .slice a m c] 45))
  have hO := once_any s a m c (w.alloc (.cells #[.bool s.neg, .int .i64 s.kind, .int .i64 s.min, .int .i64 s.max, .bool s.strict, .slice a m c] 45))
  have hF := Lib.hid (fun w2 (h2 : PtIn p a1 n c1 win L w2) => follow_any i a1 n c1 win L w2 h2.2.1 hi hn2 h2.2.2)
  obtain ⟨q0, q1, q2, q3, q4, q5⟩ := (SpBox.new w s (.slice a m c)).cells
  have hp1 := hp.later (kept_new w (.cells #[.bool s.neg, .int .i64 s.kind, .int .i64 s.min, .int .i64 s.max, .bool s.strict, .slice a m c] 45))
  have hsp := SpBox.new w s (.slice a m c)
  have p0 := hp1.1.c0
  have p1 := hp1.1.c1
  obtain ⟨R, hR⟩ : ∃ R, rule4 (L.map (·.1)) i s = R := ⟨_, rfl⟩
  rw [hR]
  have hF1 := hF.out _ hp1
  unfold rule4 at hR
  replace hp1 := Lib.hid hp1
  replace hsp := Lib.hid hsp
  cases hneg : s.neg with
  | false =>
    rw [hneg] at hR q0 hb q1 q2 q3 q4 q5 hp1 hsp p0 p1 hF1
    dsimp only [spV]
    rw [hneg]
    cases hst : s.strict with
    | false =>
      rw [hst] at hR q0 hb q1 q2 q3 q4 q5 p0 p1
      simp only [Bool.not_false, Bool.true_or, Bool.and_self] at hR
      subst hR
      clear hO hF hF1 hneg hst
      go_enter Tryz.func77, Tryz.ntmps77
      go_wp2
      go_ret
      exact ⟨rfl, hb.out⟩
    | true =>
      rw [hst] at hR q0 hb q1 q2 q3 q4 q5 hp1 hsp p0 p1 hF1
      simp only [Bool.not_false, Bool.true_or, Bool.not_true, Bool.false_or, Bool.true_and] at hR
      rw [hR] at hF1
      replace hF1 := Lib.hid hF1
      clear hO hF hneg hst hR
      go_enter Tryz.func77, Tryz.ntmps77
      go_wp2_with ((with_reducible refine hF1.out.mono ?_); rintro e w2 ⟨rfl, hb2⟩)
      go_ret
      exact ⟨rfl, kept_trans hb.out hb2⟩
  | true =>
    rw [hneg] at hR q0 hb q1 q2 q3 q4 q5 hp1 hsp p0 p1 hF1 hO
    dsimp only [spV] at hO ⊢
    rw [hneg] at hO ⊢
    cases hon : onceS s with
    | false =>
      rw [hon] at hO hR
      simp only [Bool.not_true, Bool.or_self, Bool.false_and] at hR
      subst hR
      replace hO := Lib.hid hO
      clear hF hF1 hneg hon
      go_enter Tryz.func77, Tryz.ntmps77
      go_wp2_with ((with_reducible refine hO.out.mono ?_); rintro e w2 ⟨rfl, hb2⟩)
      go_ret
      exact ⟨rfl, kept_trans hb.out hb2⟩
    | true =>
      rw [hon] at hO hR
      cases hst : s.strict with
      | false =>
        rw [hst] at hR q0 hb q1 q2 q3 q4 q5 p0 p1 hO hsp hp1
        simp only [Bool.not_false, Bool.or_true, Bool.true_or, Bool.and_self] at hR
        subst hR
        replace hO := Lib.hid hO
        have hst' := Lib.hid hst
        clear hF hF1 hneg hon hst
        go_enter Tryz.func77, Tryz.ntmps77
        go_wp2_with ((with_reducible refine hO.out.mono ?_); rintro e w2 ⟨rfl, hb2⟩; obtain ⟨y0, y1, y2, y3, y4, y5⟩ := (hsp.out.later hb2).cells; rw [hst'.out] at y4)
        go_ret
        exact ⟨rfl, kept_trans hb.out hb2⟩
      | true =>
        rw [hst] at hR q0 hb q1 q2 q3 q4 q5 hp1 hsp p0 p1 hO
        simp only [Bool.or_true, Bool.not_true, Bool.false_or, Bool.true_and] at hR
        replace hO := Lib.hid hO
        replace hF : Hid (∀ w2, PtIn p a1 n c1 win L w2 → Calls Tryz.prog 79 #[ptV (.slice a1 n c1) win, .int .i64 i] w2 fun e w' => e = .returned (.bool R) ∧ Below w2.heap.size w2 w') := fun w2 h2 => by rw [← hR]; exact hF.out w2 h2
        have hst' := Lib.hid hst
        clear hF1 hneg hon hst hR
        go_enter Tryz.func77, Tryz.ntmps77
        go_wp2_with (first
          | ((with_reducible refine hO.out.mono ?_); rintro e w2 ⟨rfl, hb2⟩; obtain ⟨y0, y1, y2, y3, y4, y5⟩ := (hsp.out.later hb2).cells; rw [hst'.out] at y4; have hp2 := hp1.out.later hb2; have u0 := hp2.1.c0; have u1 := hp2.1.c1; have hF2 := Lib.hid (hF.out _ hp2); clear hp2; replace hb2 := Lib.hid hb2)
          | ((with_reducible refine hF2.out.mono ?_); rintro e w3 ⟨rfl, hb3⟩))
        go_ret
        exact ⟨rfl, kept_trans hb.out (kept_trans hb2.out hb3)⟩
def rule7 (ss : List Sp) (i : Nat) (s : Sp) : Bool := decide (s.cs.length ≤ 4) && asksP ss i s
set_option maxRecDepth 100000 in
set_option maxHeartbeats 1000000 in
theorem rule7_any (i : Nat) (a1 : Option Addr) (n c1 p : Nat) (win : Int) (L : List (Sp × Value)) (s : Sp) (a : Option Addr) (m c : Nat) (w : World) (hx : L[i]? = some (s, .slice a m c)) (hn2 : n ≤ 1000000) (hm : s.cs.length ≤ 100000)
    (hpos : ∀ x ∈ namesC s.cs, 0 ≤ x) (hp : PtIn p a1 n c1 win L w) :
    Calls Tryz.prog 82 #[.int .i64 i, spV s (.slice a m c), .pointer (some ⟨p, 0, none⟩)] w fun e w' => e = .returned (.bool (rule7 (L.map (·.1)) i s)) ∧ Below w.heap.size w w' := by
  have hb := Lib.hid (kept_new w (.cells #[.bool s.neg, .int .i64 s.kind, .int .i64 s.min, .int .i64 s.max, .bool s.strict, .slice a m c] 45))
  obtain ⟨q0, q1, q2, q3, q4, q5⟩ := (SpBox.new w s (.slice a m c)).cells
  have hp1 := hp.later (kept_new w (.cells #[.bool s.neg, .int .i64 s.kind, .int .i64 s.min, .int .i64 s.max, .bool s.strict, .slice a m c] 45))
  have hA := asks_any i a1 n c1 win L s (.slice a m c) _ hp1.2.1 hx hn2 hm hpos hp1.2.2
  have p0 := hp1.1.c0
  have p1 := hp1.1.c1
  obtain ⟨a2, c2, e2, -⟩ := hp.2.2.2 _ (List.mem_of_getElem? hx)
  dsimp only at e2
  simp only [Value.slice.injEq] at e2
  obtain ⟨rfl, e3, rfl⟩ := e2
  subst e3
  unfold rule7
  by_cases h : s.cs.length ≤ 4
  · have h4 : (s.cs.length : Int) ≤ 4 := by omega
    obtain ⟨R, hR⟩ : ∃ R, asksP (L.map (·.1)) i s = R := ⟨_, rfl⟩
    rw [hR] at hA ⊢
    rw [decide_eq_true h, Bool.true_and]
    generalize s.cs.length = m at *
    replace hA := Lib.hid hA
    clear hp hp1 hx hpos hR
    go_enter Tryz.func82, Tryz.ntmps82
    go_wp2_with ((with_reducible refine hA.out.mono ?_); rintro e w2 ⟨rfl, hb2⟩)
    go_ret
    exact ⟨rfl, kept_trans hb.out hb2⟩
  · have h4 : ¬ (s.cs.length : Int) ≤ 4 := by omega
    rw [decide_eq_false h, Bool.false_and]
    generalize s.cs.length = m at *
    clear hp hp1 hx hpos hA
    go_enter Tryz.func82, Tryz.ntmps82
    go_wp2
    go_ret
    exact ⟨rfl, hb.out⟩
end Go.Proofs.YtccmnngeibpcmaaGreat.Tree
