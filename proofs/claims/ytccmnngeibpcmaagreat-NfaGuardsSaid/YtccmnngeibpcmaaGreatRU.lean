/-
  Contract of rightStep.
-/
import Derived.Test.YtccmnngeibpcmaaGreatRT
namespace Go.Proofs.YtccmnngeibpcmaaGreat.Tree
open Go.ChangeShapes Go.WideShapes Go.ChangeAt Go.RowKit
set_option linter.unusedVariables false
set_option linter.unusedSimpArgs false
attribute [local go_sem] Oper.semAt_some
theorem up_nbr (n : Int) (b : Bool) (w : World) (h : nbr n = b) : Calls Tryz.prog 71 #[.int .i64 n, .int .i64 1099511627776] w fun e w' => e = .returned (.bool b) ∧ w = w' := upTo_any n _ _ w h
def numsOk (s : Sp) : Bool := nbr s.kind && nbr s.min && nbr s.max
def opOk (c : Cp) : Bool := decide (1 ≤ c.op) && decide (c.op < 7)
theorem rightS_eq (s : Sp) : rightS s = (numsOk s && s.cs.all rightC) := by unfold rightS numsOk; rfl
theorem rightC_eq (c : Cp) : rightC c = (opOk c && (rightT c.l && rightT c.r)) := by unfold rightC opOk; simp [Bool.and_assoc]
theorem terms_all (cs : List Cp) : (termsC cs).all rightT = cs.all (fun c => rightT c.l && rightT c.r) := by
  unfold termsC
  induction cs with
  | nil => rfl
  | cons c r ih => rw [List.flatMap_cons, List.all_append, ih]; simp
theorem rightS_terms {s : Sp} (h1 : numsOk s = true) (h2 : s.cs.all opOk = true) : rightS s = (termsC s.cs).all rightT := by
  rw [rightS_eq, h1, Bool.true_and, terms_all]
  have : ∀ cs : List Cp, cs.all opOk = true → cs.all rightC = cs.all (fun c => rightT c.l && rightT c.r) := by
    intro cs
    induction cs with
    | nil => intro _; rfl
    | cons c r ih =>
      intro h
      simp only [List.all_cons, Bool.and_eq_true] at h
      rw [List.all_cons, List.all_cons, ih h.2, rightC_eq, h.1, Bool.true_and]
  exact this _ h2
theorem rightS_num {s : Sp} (h : numsOk s = false) : rightS s = false := by rw [rightS_eq, h]; rfl
theorem rightS_op {s : Sp} {i : Nat} {c : Cp} (h : s.cs[i]? = some c) (ho : opOk c = false) : rightS s = false := cmp_no h (by rw [rightC_eq, ho]; rfl)
set_option maxRecDepth 100000 in
set_option maxHeartbeats 1000000 in
theorem rightStep_nums (s : Sp) (a : Option Addr) (n c : Nat) (w : World) (h : numsOk s = false) : Calls Tryz.prog 72 #[spV s (.slice a n c)] w fun e w' => e = .returned (.bool false) ∧ Below w.heap.size w w' := by
  have hb := kept_new w (.cells #[.bool s.neg, .int .i64 s.kind, .int .i64 s.min, .int .i64 s.max, .bool s.strict, .slice a n c] 45)
  obtain ⟨c0, c1, c2, c3, c4, c5⟩ := (SpBox.new w s (.slice a n c)).cells
  refine (callsIn_wide (n := 9)).1 ?_
  refine callsIn_of_wp_marks Tryz.func72 rfl trivial ?_ rfl
  rw [wpIn_wide]
  simp only [Tryz.ntmps72, List.size_toArray, List.length_cons, List.length_nil, Nat.reduceAdd, Nat.reduceSub, Array.replicate_succ, Array.replicate_zero, List.push_toArray, List.append_toArray, List.nil_append, List.cons_append]
  go_wp2
  refine wp_scope_jumps 0 (fun a' W => Below w.heap.size w W ∧ a'.defers = [] ∧ 2 < a'.tmps.size) (fun _ _ => 0) rfl ?_ ?_
  · unfold numsOk at h
    cases h1 : nbr s.kind with
    | false =>
      have H1 := Lib.hid (fun w => up_nbr s.kind false w h1)
      clear h h1
      go_wp2_with ((with_reducible refine (H1.out _).mono ?_); rintro e w' ⟨rfl, rfl⟩)
      refine wp_goto ?_
      exact ⟨rfl, hb, rfl, by simp⟩
    | true =>
      have H1 := Lib.hid (fun w => up_nbr s.kind true w h1)
      rw [h1] at h
      cases h2 : nbr s.min with
      | false =>
        have H2 := Lib.hid (fun w => up_nbr s.min false w h2)
        clear h h1 h2
        go_wp2_with ((first | (with_reducible refine (H1.out _).mono ?_) | (with_reducible refine (H2.out _).mono ?_)); rintro e w' ⟨rfl, rfl⟩)
        refine wp_goto ?_
        exact ⟨rfl, hb, rfl, by simp⟩
      | true =>
        rw [h2] at h
        have h3 : nbr s.max = false := by simpa using h
        have H2 := Lib.hid (fun w => up_nbr s.min true w h2)
        have H3 := Lib.hid (fun w => up_nbr s.max false w h3)
        clear h h1 h2 h3
        go_wp2_with ((first | (with_reducible refine (H1.out _).mono ?_) | (with_reducible refine (H2.out _).mono ?_) | (with_reducible refine (H3.out _).mono ?_)); rintro e w' ⟨rfl, rfl⟩)
        refine wp_goto ?_
        exact ⟨rfl, hb, rfl, by simp⟩
  · rintro a' W ⟨hB, hd, hs⟩
    go_wp2
    rw [jump_ret]
    exact ⟨.bool false, by simp [results, Tryz.results72, go_sem, hs], rfl, hB⟩
theorem opOk_no {x : Cp} (h0 : 0 ≤ x.op) (h : opOk x = false) : x.op = 0 ∨ (7 : Int) ≤ x.op := by
  unfold opOk at h
  by_cases h1 : 1 ≤ x.op
  · simp [h1] at h; right; omega
  · left; omega
theorem opOk_yes {x : Cp} (h : opOk x = true) : (x.op == 0) = false ∧ ¬ (7 : Int) ≤ x.op := by
  unfold opOk at h
  simp at h
  exact ⟨by simp; omega, by omega⟩
set_option maxRecDepth 100000 in
set_option maxHeartbeats 1000000 in
theorem rightStep_op (s : Sp) (a : Option Addr) (n c : Nat) (w : World) (hn : n ≤ 140737488351232) (hl : s.cs.length = n) (hc : CpsAt w (.slice a n c) s.cs) (hop : ∀ x ∈ s.cs, 0 ≤ x.op) (h : numsOk s = true) (hbad : s.cs.all opOk = false) :
    Calls Tryz.prog 72 #[spV s (.slice a n c)] w fun e w' => e = .returned (.bool false) ∧ Below w.heap.size w w' := by
  have hb := kept_new w (.cells #[.bool s.neg, .int .i64 s.kind, .int .i64 s.min, .int .i64 s.max, .bool s.strict, .slice a n c] 45)
  have hsp := SpBox.new w s (.slice a n c)
  have hin : SpIn w.heap.size s a n c (w.alloc (.cells #[.bool s.neg, .int .i64 s.kind, .int .i64 s.min, .int .i64 s.max, .bool s.strict, .slice a n c] 45)) := ⟨hsp, hl, hc.later hb⟩
  obtain ⟨c0, c1, c2, c3, c4, c5⟩ := hsp.cells
  clear hsp hc
  unfold numsOk at h
  simp only [Bool.and_eq_true] at h
  obtain ⟨⟨h1, h2⟩, h3⟩ := h
  have H1 := Lib.hid (fun w => up_nbr s.kind true w h1)
  have H2 := Lib.hid (fun w => up_nbr s.min true w h2)
  have H3 := Lib.hid (fun w => up_nbr s.max true w h3)
  clear h1 h2 h3
  replace hbad := Lib.hid hbad
  replace hop := Lib.hid hop
  replace hl := Lib.hid hl
  replace hin := Lib.hid hin
  replace hb := Lib.hid hb
  refine (callsIn_wide (n := 9)).1 ?_
  refine callsIn_of_wp_marks Tryz.func72 rfl trivial ?_ rfl
  rw [wpIn_wide]
  simp only [Tryz.ntmps72, List.size_toArray, List.length_cons, List.length_nil, Nat.reduceAdd, Nat.reduceSub, Array.replicate_succ, Array.replicate_zero, List.push_toArray, List.append_toArray, List.nil_append, List.cons_append]
  go_wp2
  refine wp_scope_jumps 0 (fun a' W => Below w.heap.size w W ∧ a'.defers = [] ∧ 2 < a'.tmps.size) (fun _ _ => 0) rfl ?_ ?_
  · go_wp2_with ((first | (with_reducible refine (H1.out _).mono ?_) | (with_reducible refine (H2.out _).mono ?_) | (with_reducible refine (H3.out _).mono ?_)); rintro e w' ⟨rfl, rfl⟩)
    clear c0 c1 c2 c3 c4 c5 H1 H2 H3
    generalize (w.alloc (.cells #[.bool s.neg, .int .i64 s.kind, .int .i64 s.min, .int .i64 s.max, .bool s.strict, .slice a n c] 45)) = w0 at *
    generalize hB : w.heap.size = B at *
    replace hb : Hid (Below w.heap.size w w0) := by rw [hB]; exact hb
    replace hB := Lib.hid hB
    go_loopw [25] (fun t wr => ∃ i : Nat, i ≤ n ∧ t = .int .i64 i ∧ Hid (Below w0.heap.size w0 wr) ∧ Hid (∀ j x, j < i → s.cs[j]? = some x → opOk x = true)) (fun t _ => n - (intOf t).toNat)
    case atStart => exact ⟨0, Nat.zero_le _, rfl, Below.refl _ _, fun j x hj => by omega⟩
    case round =>
      obtain ⟨i, hi, rfl, hwr, hall⟩ := hrel
      by_cases hlt : i < n
      · have hlti : (i : Int) < n := by omega
        obtain ⟨x, hx⟩ : ∃ x, s.cs[i]? = some x := ⟨_, List.getElem?_eq_getElem (by rw [hl.out]; exact hlt)⟩
        obtain ⟨b, o, rfl, z0, z1, z2, z3, z4, z5, z6, z7, z8⟩ := (hin.out.later hwr.out).cmp hx
        have hop0 := hop.out x (List.mem_of_getElem? hx)
        have hcp := CpBox.new wr x
        have hw1 : Hid (Below w0.heap.size w0 (wr.alloc (.cells #[.int .u8 x.op, .int .u8 x.l.k, .int .i64 x.l.n, .int .i64 x.l.s, .int .i64 x.l.r, .int .u8 x.r.k, .int .i64 x.r.n, .int .i64 x.r.s, .int .i64 x.r.r] 95))) := kept_alloc hwr.out _
        obtain ⟨q0, q1, q2, q3, q4, q5, q6, q7, q8⟩ := hcp.cells
        clear hcp
        cases hok : opOk x with
        | false =>
          have hA := opOk_no hop0 hok
          clear hok hx
          rcases hA with h0 | h7
          · rw [h0] at z0 q0 q1 q2 q3 q4 q5 q6 q7 q8 hw1
            go_wp2
            refine wp_goto ?_
            exact ⟨rfl, kept_trans hb.out hw1.out, rfl, by simp⟩
          · have h7n : ¬ x.op = 0 := by omega
            have h7b : (x.op == 0) = false := by simp; omega
            go_wp2
            refine wp_goto ?_
            exact ⟨rfl, kept_trans hb.out hw1.out, rfl, by simp⟩
        | true =>
          obtain ⟨h0b, h7⟩ := opOk_yes hok
          have hall' : Hid (∀ j x, j < i + 1 → s.cs[j]? = some x → opOk x = true) := fun j y hj hy => by
            by_cases hji : j = i
            · subst hji; rw [hx] at hy; cases hy; exact hok
            · exact hall.out j y (by omega) hy
          clear hok hx
          go_wp2
          go_roundw
          case rel => exact ⟨i + 1, by omega, by go_num, hw1, hall'⟩
          case measure => simp [intOf]; omega
      · exfalso
        have : s.cs.all opOk = true := by
          rw [List.all_eq_true]
          intro x hx
          obtain ⟨j, hj⟩ := List.mem_iff_getElem?.1 hx
          have hjl := (List.getElem?_eq_some_iff.1 hj).1
          rw [hl.out] at hjl
          exact hall.out j x (by omega) hj
        rw [hbad.out] at this
        cases this
  · rintro a' W ⟨hB, hd, hs⟩
    go_wp2
    rw [jump_ret]
    exact ⟨.bool false, by simp [results, Tryz.results72, go_sem, hs], rfl, hB⟩
end Go.Proofs.YtccmnngeibpcmaaGreat.Tree
