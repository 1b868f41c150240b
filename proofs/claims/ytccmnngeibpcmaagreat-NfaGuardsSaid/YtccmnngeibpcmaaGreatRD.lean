/-
  Contracts of unnamed, and of the document's own Right.
-/
import Derived.Test.YtccmnngeibpcmaaGreatRC
import Derived.Deep.RegionWith
namespace Go.Proofs.YtccmnngeibpcmaaGreat.Tree
open Go.ChangeShapes Go.WideShapes Go.ChangeAt Go.RowKit
set_option linter.unusedVariables false
set_option linter.unusedSimpArgs false
attribute [local go_sem] Oper.semAt_some
/-- A term with 0 where its names stand. -/
def unT (t : Tm) : Tm := if t.k = 0 then t else if t.k = 5 ∨ t.k = 6 then ⟨t.k, t.n, 0, 0⟩ else ⟨t.k, t.n, 0, t.r⟩
theorem new_two (w : World) (A B : Obj) : ((w.alloc A).alloc B).heap[w.heap.size + 1]? = some B := by have := World.alloc_heap_new (w.alloc A) B; rwa [World.size_alloc] at this
theorem below_two (w : World) (A B : Obj) : Below w.heap.size w ((w.alloc A).alloc B) := ((Below.refl _ w).alloc (Nat.le_refl _) _).alloc (by simp) _
set_option maxHeartbeats 1000000 in
theorem unnamed_0 (k n s r : Int) (w : World) (H : ∀ w, Calls Tryz.prog 110 #[.int .u8 k] w fun e w' => e = .returned (.int .i64 0) ∧ w = w') : Calls Tryz.prog 104 #[tmV ⟨k, n, s, r⟩] w fun e w' => e = .returned (tmV ⟨k, n, s, r⟩) ∧ Below w.heap.size w w' := by
  have H := Lib.hid H
  go_enter Tryz.func104, Tryz.ntmps104
  go_wp2_with ((with_reducible refine (H.out _).mono ?_); rintro e w2 ⟨rfl, rfl⟩)
  exact bodyPost_ret (v := tmV ⟨k, n, s, r⟩) (results_cell_row rfl _ _ (w.heap.size + 1) 93 _ (0, 0) _ rfl (new_two _ _ _) Tryz.underlying93 rfl (by kernel_rfl)) rfl ⟨rfl, below_two _ _ _⟩
set_option maxHeartbeats 1000000 in
theorem unnamed_1 (k n s r : Int) (w : World) (H : ∀ w, Calls Tryz.prog 110 #[.int .u8 k] w fun e w' => e = .returned (.int .i64 1) ∧ w = w') : Calls Tryz.prog 104 #[tmV ⟨k, n, s, r⟩] w fun e w' => e = .returned (tmV ⟨k, n, 0, r⟩) ∧ Below w.heap.size w w' := by
  have H := Lib.hid H
  go_enter Tryz.func104, Tryz.ntmps104
  go_wp2_with ((with_reducible refine (H.out _).mono ?_); rintro e w2 ⟨rfl, rfl⟩)
  exact bodyPost_ret (v := tmV ⟨k, n, 0, r⟩) (results_cell_row rfl _ _ (w.heap.size + 1) 93 _ (0, 0) _ rfl (new_two _ _ _) Tryz.underlying93 rfl (by kernel_rfl)) rfl ⟨rfl, below_two _ _ _⟩
set_option maxHeartbeats 1000000 in
theorem unnamed_2 (k n s r : Int) (w : World) (H : ∀ w, Calls Tryz.prog 110 #[.int .u8 k] w fun e w' => e = .returned (.int .i64 2) ∧ w = w') : Calls Tryz.prog 104 #[tmV ⟨k, n, s, r⟩] w fun e w' => e = .returned (tmV ⟨k, n, 0, 0⟩) ∧ Below w.heap.size w w' := by
  have H := Lib.hid H
  go_enter Tryz.func104, Tryz.ntmps104
  go_wp2_with ((with_reducible refine (H.out _).mono ?_); rintro e w2 ⟨rfl, rfl⟩)
  exact bodyPost_ret (v := tmV ⟨k, n, 0, 0⟩) (results_cell_row rfl _ _ (w.heap.size + 1) 93 _ (0, 0) _ rfl (new_two _ _ _) Tryz.underlying93 rfl (by kernel_rfl)) rfl ⟨rfl, below_two _ _ _⟩
theorem unnamed_any (t : Tm) (w : World) : Calls Tryz.prog 104 #[tmV t] w fun e w' => e = .returned (tmV (unT t)) ∧ Below w.heap.size w w' := by
  obtain ⟨k, n, s, r⟩ := t
  have hl : namesT ⟨k, 0, 0, 0⟩ = if k = 0 then [] else if k = 5 ∨ k = 6 then [0, 0] else [0] := rfl
  have hu : unT ⟨k, n, s, r⟩ = if k = 0 then ⟨k, n, s, r⟩ else if k = 5 ∨ k = 6 then ⟨k, n, 0, 0⟩ else ⟨k, n, 0, r⟩ := rfl
  rw [hu]
  have H := howMany_any k
  rw [hl] at H
  by_cases h0 : k = 0
  · rw [if_pos h0] at H ⊢; exact unnamed_0 k n s r w H
  · rw [if_neg h0] at H ⊢
    by_cases h5 : k = 5 ∨ k = 6
    · rw [if_pos h5] at H ⊢; exact unnamed_2 k n s r w H
    · rw [if_neg h5] at H ⊢; exact unnamed_1 k n s r w H
theorem step_no {ss : List Sp} {win : Int} {i : Nat} {s : Sp} (h : ss[i]? = some s) (hs : rightS s = false) : rightP ss win = false := by
  unfold rightP
  have : ss.all rightS = false := by
    rw [List.all_eq_false]
    exact ⟨s, List.mem_of_getElem? h, by simp [hs]⟩
  rw [this, Bool.and_false]
theorem steps_yes {ss : List Sp} {win : Int} {i : Nat} (h1 : 1 ≤ ss.length) (h2 : ss.length ≤ 26) (h3 : nbr win = true) (hi : ss.length ≤ i) (h : ∀ j s, j < i → ss[j]? = some s → rightS s = true) : rightP ss win = true := by
  unfold rightP
  rw [h3]
  simp only [h1, h2, decide_true, Bool.and_self, Bool.true_and, List.all_eq_true]
  intro s hs
  obtain ⟨j, hj⟩ := List.mem_iff_getElem?.1 hs
  exact h j s (by have := (List.getElem?_eq_some_iff.1 hj).1; omega) hj
theorem cmp_no {s : Sp} {i : Nat} {c : Cp} (h : s.cs[i]? = some c) (hs : rightC c = false) : rightS s = false := by
  unfold rightS
  have : s.cs.all rightC = false := by
    rw [List.all_eq_false]
    exact ⟨c, List.mem_of_getElem? h, by simp [hs]⟩
  rw [this, Bool.and_false]
theorem cmps_yes {s : Sp} {i : Nat} (h1 : nbr s.kind = true) (h2 : nbr s.min = true) (h3 : nbr s.max = true) (hi : s.cs.length ≤ i) (h : ∀ j c, j < i → s.cs[j]? = some c → rightC c = true) : rightS s = true := by
  unfold rightS
  rw [h1, h2, h3]
  simp only [Bool.and_self, Bool.true_and, List.all_eq_true]
  intro c hc
  obtain ⟨j, hj⟩ := List.mem_iff_getElem?.1 hc
  exact h j c (by have := (List.getElem?_eq_some_iff.1 hj).1; omega) hj
/-- A step in a box. -/
def SpBox (p : Nat) (s : Sp) (v : Value) (w : World) : Prop := w.heap[p]? = some (.cells #[.bool s.neg, .int .i64 s.kind, .int .i64 s.min, .int .i64 s.max, .bool s.strict, v] 45 (0, 0))
theorem SpBox.new (w : World) (s : Sp) (v : Value) : SpBox w.heap.size s v (w.alloc (.cells #[.bool s.neg, .int .i64 s.kind, .int .i64 s.min, .int .i64 s.max, .bool s.strict, v] 45)) := World.alloc_heap_new w _
theorem SpBox.lt {p : Nat} {s : Sp} {v : Value} {w : World} (h : SpBox p s v w) : p < w.heap.size := (Array.getElem?_eq_some_iff.1 h).1
theorem SpBox.later {p : Nat} {s : Sp} {v : Value} {w w' : World} (h : SpBox p s v w) (hb : Below w.heap.size w w') : SpBox p s v w' := (hb.block _ h.lt).trans h
theorem SpBox.cells {p : Nat} {s : Sp} {v : Value} {w : World} (h : SpBox p s v w) : w.cell? ⟨p, 0, none⟩ = some (.bool s.neg) ∧ w.cell? ⟨p, 1, none⟩ = some (.int .i64 s.kind) ∧ w.cell? ⟨p, 2, none⟩ = some (.int .i64 s.min) ∧ w.cell? ⟨p, 3, none⟩ = some (.int .i64 s.max) ∧ w.cell? ⟨p, 4, none⟩ = some (.bool s.strict) ∧ w.cell? ⟨p, 5, none⟩ = some v := by
  unfold SpBox at h
  refine ⟨?_, ?_, ?_, ?_, ?_, ?_⟩ <;> simp [World.cell?, h]
end Go.Proofs.YtccmnngeibpcmaaGreat.Tree
