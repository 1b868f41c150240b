/-
  The rules as Lean functions; contracts of the rules that only read.
-/
import Derived.Test.YtccmnngeibpcmaaGreatRAH
namespace Go.Proofs.YtccmnngeibpcmaaGreat.Tree
open Go.ChangeShapes Go.WideShapes Go.ChangeAt Go.RowKit
set_option linter.unusedVariables false
set_option linter.unusedSimpArgs false
attribute [local go_sem] Oper.semAt_some
/-- A step that comes just once. -/
def onceS (s : Sp) : Bool := decide (s.min = 1) && decide (s.max = 1)
def stepA (ss : List Sp) (i : Nat) : Sp := (ss[i]?).getD default
/-- May the step i be strict? -/
def follows (ss : List Sp) (i : Nat) : Bool := !(stepA ss i).neg && (decide (i = 0) || !(stepA ss (i - 1)).neg)
theorem stepA_of {ss : List Sp} {i : Nat} {s : Sp} (h : ss[i]? = some s) : stepA ss i = s := by unfold stepA; rw [h]; rfl
set_option maxHeartbeats 400000 in
theorem once_any (s : Sp) (a : Option Addr) (m c : Nat) (w : World) :
    Calls Tryz.prog 78 #[spV s (.slice a m c)] w fun e w' => e = .returned (.bool (onceS s)) ∧ Below w.heap.size w w' := by
  have hb := kept_new w (.cells #[.bool s.neg, .int .i64 s.kind, .int .i64 s.min, .int .i64 s.max, .bool s.strict, .slice a m c] 45)
  obtain ⟨q0, q1, q2, q3, q4, q5⟩ := (SpBox.new w s (.slice a m c)).cells
  by_cases h : s.min = 1
  · have hB : (s.min == 1) = true := by simp [h]
    replace h := Lib.hid h
    go_enter Tryz.func78, Tryz.ntmps78
    go_wp2
    go_ret
    exact ⟨by unfold onceS; simp [h.out] <;> rfl, hb⟩
  · have hB : (s.min == 1) = false := by simp [h]
    replace h := Lib.hid h
    go_enter Tryz.func78, Tryz.ntmps78
    go_wp2
    go_ret
    exact ⟨by unfold onceS; simp [h.out], hb⟩
set_option maxHeartbeats 400000 in
theorem rule2_any (i : Nat) (s : Sp) (a : Option Addr) (m c : Nat) (w : World) :
    Calls Tryz.prog 75 #[.int .i64 i, spV s (.slice a m c)] w fun e w' => e = .returned (.bool (decide (0 < i) || (!s.neg && !s.strict))) ∧ Below w.heap.size w w' := by
  have hb := kept_new w (.cells #[.bool s.neg, .int .i64 s.kind, .int .i64 s.min, .int .i64 s.max, .bool s.strict, .slice a m c] 45)
  obtain ⟨q0, q1, q2, q3, q4, q5⟩ := (SpBox.new w s (.slice a m c)).cells
  by_cases h : 0 < i
  · have hi : (0 : Int) < i := by omega
    go_enter Tryz.func75, Tryz.ntmps75
    go_wp2
    go_ret
    exact ⟨by simp [h], hb⟩
  · obtain rfl : i = 0 := by omega
    cases hn : s.neg
    all_goals
      rw [hn] at q0 hb q1 q2 q3 q4 q5
      dsimp only [spV]
      rw [hn]
      go_enter Tryz.func75, Tryz.ntmps75
      go_wp2
      go_ret
      exact ⟨by simp, hb⟩
set_option maxHeartbeats 400000 in
theorem rule3_any (i : Nat) (s : Sp) (a : Option Addr) (m c : Nat) (w : World) :
    Calls Tryz.prog 76 #[.int .i64 i, spV s (.slice a m c)] w fun e w' => e = .returned (.bool (decide (s.kind < 6))) ∧ Below w.heap.size w w' := by
  have hb := kept_new w (.cells #[.bool s.neg, .int .i64 s.kind, .int .i64 s.min, .int .i64 s.max, .bool s.strict, .slice a m c] 45)
  obtain ⟨q0, q1, q2, q3, q4, q5⟩ := (SpBox.new w s (.slice a m c)).cells
  go_enter Tryz.func76, Tryz.ntmps76
  go_wp2
  go_ret
  exact ⟨rfl, hb⟩
def rule5 (s : Sp) : Bool := s.neg || (decide (1 ≤ s.min) && decide (s.min ≤ s.max) && decide (s.max ≤ 3))
set_option maxHeartbeats 400000 in
theorem rule5_any (i : Nat) (s : Sp) (a : Option Addr) (m c : Nat) (w : World) :
    Calls Tryz.prog 80 #[.int .i64 i, spV s (.slice a m c)] w fun e w' => e = .returned (.bool (rule5 s)) ∧ Below w.heap.size w w' := by
  have hb := kept_new w (.cells #[.bool s.neg, .int .i64 s.kind, .int .i64 s.min, .int .i64 s.max, .bool s.strict, .slice a m c] 45)
  obtain ⟨q0, q1, q2, q3, q4, q5⟩ := (SpBox.new w s (.slice a m c)).cells
  unfold rule5
  cases hn : s.neg
  all_goals
    rw [hn] at q0 hb q1 q2 q3 q4 q5
    dsimp only [spV]
    rw [hn]
    by_cases h1 : 1 ≤ s.min
    · by_cases h2 : s.min ≤ s.max
      · go_enter Tryz.func80, Tryz.ntmps80
        go_wp2
        go_ret
        exact ⟨by simp [h1, h2] <;> omega, hb⟩
      · go_enter Tryz.func80, Tryz.ntmps80
        go_wp2
        go_ret
        exact ⟨by simp [h1, h2] <;> omega, hb⟩
    · go_enter Tryz.func80, Tryz.ntmps80
      go_wp2
      go_ret
      exact ⟨by simp [h1] <;> omega, hb⟩
set_option maxHeartbeats 400000 in
theorem rule6_any (i : Nat) (s : Sp) (a : Option Addr) (m c : Nat) (p : Nat) (most : Int) (w : World) (hp : Boxed w p 3 (.int .i64 most)) :
    Calls Tryz.prog 81 #[.int .i64 i, spV s (.slice a m c), .pointer (some ⟨p, 0, none⟩)] w fun e w' => e = .returned (.bool (decide (most ≤ 4))) ∧ Below w.heap.size w w' := by
  have hb := kept_new w (.cells #[.bool s.neg, .int .i64 s.kind, .int .i64 s.min, .int .i64 s.max, .bool s.strict, .slice a m c] 45)
  have h1 := bcell hb (by have := (Array.getElem?_eq_some_iff.1 hp).1; exact this) hp.cell
  go_enter Tryz.func81, Tryz.ntmps81
  go_wp2
  go_ret
  exact ⟨rfl, hb⟩
set_option maxHeartbeats 400000 in
theorem rule1_any (i : Nat) (s : Sp) (a : Option Addr) (m c : Nat) (p : Nat) (a1 : Option Addr) (n c1 : Nat) (win : Int) (L : List (Sp × Value)) (w : World) (hp : PtIn p a1 n c1 win L w) :
    Calls Tryz.prog 74 #[.int .i64 i, spV s (.slice a m c), .pointer (some ⟨p, 0, none⟩)] w fun e w' => e = .returned (.bool (decide (n ≤ 6) && decide (win ≤ 1073741824))) ∧ Below w.heap.size w w' := by
  have hb := kept_new w (.cells #[.bool s.neg, .int .i64 s.kind, .int .i64 s.min, .int .i64 s.max, .bool s.strict, .slice a m c] 45)
  have h1 := (hp.later hb).1.c0
  have h2 := (hp.later hb).1.c1
  by_cases h : n ≤ 6
  · have hi : (n : Int) ≤ 6 := by omega
    go_enter Tryz.func74, Tryz.ntmps74
    go_wp2
    go_ret
    exact ⟨by simp [h], hb⟩
  · have hi : ¬ (n : Int) ≤ 6 := by omega
    go_enter Tryz.func74, Tryz.ntmps74
    go_wp2
    go_ret
    exact ⟨by simp [h], hb⟩
set_option maxRecDepth 100000 in
set_option maxHeartbeats 1000000 in
theorem follow_any (i : Nat) (a1 : Option Addr) (n c1 : Nat) (win : Int) (L : List (Sp × Value)) (w : World) (hn : L.length = n) (hi : i < n) (hn2 : n ≤ 1000000) (h : SpsL w (.slice a1 n c1) L) :
    Calls Tryz.prog 79 #[ptV (.slice a1 n c1) win, .int .i64 i] w fun e w' => e = .returned (.bool (follows (L.map (·.1)) i)) ∧ Below w.heap.size w w' := by
  have hb := kept_new w (.cells #[.slice a1 n c1, .int .i64 win] 24)
  have hin : PtIn w.heap.size a1 n c1 win L (w.alloc (.cells #[.slice a1 n c1, .int .i64 win] 24)) := ⟨PtBox.new w _ _, hn, h.later hb⟩
  obtain ⟨⟨s, v⟩, hx⟩ := sps_i (L := L) (i := i) (by omega)
  obtain ⟨b, o, rfl, z0, z1, z2, z3, z4, z5, hv⟩ := hin.step hx
  have c0 := hin.1.c0
  unfold follows
  rw [stepA_of (map_fst hx)]
  have hii : (i : Int) < n := by omega
  clear hv z1 z2 z3 z4 z5
  cases hneg : s.neg with
  | true =>
    rw [hneg] at z0
    clear hx hneg h hn
    go_enter Tryz.func79, Tryz.ntmps79
    go_wp2
    go_ret
    exact ⟨by simp, hb⟩
  | false =>
    rw [hneg] at z0
    by_cases h0 : i = 0
    · subst h0
      have h00 : 0 < n := hi
      have h01 : (0 : Int) < n := by omega
      rw [Nat.zero_mul, Nat.add_zero] at z0
      rw [show ((0 : Nat) : Int) = 0 from rfl]
      clear hx hneg h hn hii
      go_enter Tryz.func79, Tryz.ntmps79
      go_wp2
      go_ret
      exact ⟨by simp, hb⟩
    · obtain ⟨k, rfl⟩ : ∃ k, i = k + 1 := ⟨i - 1, by omega⟩
      obtain ⟨⟨s2, v2⟩, hx2⟩ := sps_i (L := L) (i := k) (by omega)
      obtain ⟨b2, o2, e2, y0, y1, y2, y3, y4, y5, hv2⟩ := hin.step hx2
      cases e2
      rw [show k + 1 - 1 = k from rfl, stepA_of (map_fst hx2)]
      have hB : (((k + 1 : Nat) : Int) == 0) = false := by simp; omega
      have hk : ((k + 1 : Nat) : Int) - 1 = k := by omega
      have hkk : (k : Int) < n := by omega
      clear hx hneg h hn hx2 hv2 y1 y2 y3 y4 y5 h0
      go_enter Tryz.func79, Tryz.ntmps79
      go_wp2
      go_ret
      exact ⟨by simp <;> omega, hb⟩
end Go.Proofs.YtccmnngeibpcmaaGreat.Tree
