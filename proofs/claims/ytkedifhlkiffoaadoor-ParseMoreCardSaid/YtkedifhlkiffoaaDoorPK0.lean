/-
  The deferred closure of parse.Parse: it takes back a token's panic, and leaves all as it is where there is none.
-/
import Derived.Test.YtkedifhlkiffoaaDoorPB
import Derived.Defers
import Derived.Recover
import Derived.Laws.Pointers
namespace Go.Proofs.YtkedifhlkiffoaaDoor
open Go.ChangeShapes Go.WideShapes Go.ChangeAt Go.RowKit
set_option linter.unusedVariables false
set_option linter.unusedSimpArgs false
attribute [local go_sem] Oper.semAt_some
/-- All but three boxes is as it was. -/
structure But3 (A B C : Nat) (w w' : World) : Prop where
  os : w'.os = w.os
  tape : w'.tape = w.tape
  output : w'.output = w.output
  size : w'.heap.size = w.heap.size
  block : ∀ k, k ≠ A → k ≠ B → k ≠ C → w'.heap[k]? = w.heap[k]?
theorem but3_set {A B C : Nat} {w w' : World} {k o : Nat} {v : Value} (h : But3 A B C w w') (hk : k = A ∨ k = B ∨ k = C) : But3 A B C w (w'.setCell ⟨k, o, none⟩ v) := by
  refine ⟨h.os, h.tape, h.output, ((show (w'.heap.modify _ _).size = _ from Array.size_modify ..).trans h.size), fun j h1 h2 h3 => ?_⟩
  rw [Below.heap_setCell w' ⟨k, o, none⟩ v j (by rcases hk with rfl | rfl | rfl <;> assumption)]
  exact h.block j h1 h2 h3
theorem but3_drew {A B C : Nat} {w w' : World} (h : But3 A B C w w') : But3 A B C w w'.drew := ⟨h.os, h.tape, h.output, h.size, h.block⟩
theorem but3_refl (A B C : Nat) (w : World) : But3 A B C w w := ⟨rfl, rfl, rfl, rfl, fun _ _ _ _ => rfl⟩
theorem heap_set_self {w : World} {p o : Nat} {cs : Array Value} {t : TypeId} {fz : Nat × Nat} {v : Value} (h : w.heap[p]? = some (.cells cs t fz)) : (w.setCell ⟨p, o, none⟩ v).heap[p]? = some (.cells (cs.setIfInBounds o v) t fz) := by
  obtain ⟨hlt, hk⟩ := Array.getElem?_eq_some_iff.1 h
  show (w.heap.modify p _)[p]? = _
  rw [Array.getElem?_eq_getElem (by rw [Array.size_modify]; exact hlt), Array.getElem_modify_self, hk]
  rfl
theorem heap_set_far {w : World} {p q o : Nat} {v : Value} (h : q ≠ p) : (w.setCell ⟨p, o, none⟩ v).heap[q]? = w.heap[q]? := Below.heap_setCell w ⟨p, o, none⟩ v q h
theorem heap_drew (w : World) (q : Nat) : w.drew.heap[q]? = w.heap[q]? := rfl
set_option maxRecDepth 100000 in
set_option maxHeartbeats 1000000 in
theorem catch_tok (A B C : Nat) (x : Tk × Nat) (v0 : Value) (n0 n1 n2 : Int) (w : World)
    (hA : w.heap[A]? = some (.cells #[v0, .int .i64 n0] 25 (0, 0))) (hB : w.heap[B]? = some (.cells #[.int .i64 n1] 3 (0, 0))) (hC : w.heap[C]? = some (.cells #[.int .i64 n2] 26 (0, 0))) (hAB : A ≠ B) (hAC : A ≠ C) (hBC : B ≠ C) :
    CallsD Tryd.prog 39 #[.pointer (some ⟨A, 0, none⟩), .pointer (some ⟨B, 0, none⟩), .pointer (some ⟨C, 0, none⟩)] (.panicking [{ v := tokI x, recovered := false }]) w fun e u' w' =>
      (But3 A B C w w' ∧ w'.heap[A]? = some (.cells #[.slice none 0 0, .int .i64 0] 25 (0, 0)) ∧ w'.heap[B]? = some (.cells #[.int .i64 x.2] 3 (0, 0)) ∧ w'.heap[C]? = some (.cells #[.int .i64 90] 26 (0, 0))) ∧ e = .returned (.tuple #[]) ∧ u' = .panicking [{ v := tokI x, recovered := true }] := by
  have a0 : w.cell? ⟨A, 0, none⟩ = some v0 := by simp [World.cell?, hA]
  have a1 : w.cell? ⟨A, 1, none⟩ = some (.int .i64 n0) := by simp [World.cell?, hA]
  have af : ∀ i, w.frozen? ⟨A, i, none⟩ = false := fun i => by simp [World.frozen?, hA]
  have b0 : w.cell? ⟨B, 0, none⟩ = some (.int .i64 n1) := by simp [World.cell?, hB]
  have bf : w.frozen? ⟨B, 0, none⟩ = false := by simp [World.frozen?, hB]
  have c0 : w.cell? ⟨C, 0, none⟩ = some (.int .i64 n2) := by simp [World.cell?, hC]
  have cf : w.frozen? ⟨C, 0, none⟩ = false := by simp [World.frozen?, hC]
  have hta : ∀ w : World, (Instr.typeAssert (tokI x) 20 35 false).run Tryd.prog w = .ok (.agg #[.int .u8 x.1.k, .int .i64 x.1.n, .int .i64 x.2]) w := fun w => by kernel_rfl
  have hfd : ∀ (a b c : Value) (w : World), (Instr.field 35 (.agg #[a, b, c]) 2).run Tryd.prog w = .ok c w := fun a b c w => by kernel_rfl
  have d0 : But3 A B C w w := but3_refl A B C w
  refine callsD_of_wpS Tryd.func39 rfl fun c₀ cs hu => ?_
  apply wpS_seq
  apply wpS_region
  simp [wpOpsS, go_sem, recoverD, hu, Tryd.ntmps39, Exit.thenS]
  apply wpS_seq
  apply wpS_region
  simp [wpOpsS, go_sem, recoverD, hu, Tryd.ntmps39, Exit.thenS]
  refine wpS_cond (t := true) (by simp [Act.eval, Array.replicate]) ?_
  simp only [if_true]
  refine wpS_of_wp ?_
  simp only [Array.replicate_succ, Array.replicate_zero, List.push_toArray, List.append_toArray, List.nil_append, List.cons_append, List.setIfInBounds_toArray, List.set_cons_zero, List.set_cons_succ]
  go_region
  all_goals
    have e1 := (but3_set (k := A) (o := 0) (v := .slice none 0 0) d0 (.inl rfl))
    have e2 := (but3_set (k := A) (o := 1) (v := .int .i64 0) e1 (.inl rfl))
    have e3 := (but3_set (k := B) (o := 0) (v := .int .i64 x.2) e2 (.inr (.inl rfl)))
    have e4 := but3_drew (but3_set (k := C) (o := 0) (v := .int .i64 90) e3 (.inr (.inr rfl)))
    have fA : ((((w.setCell ⟨A, 0, none⟩ (.slice none 0 0)).setCell ⟨A, 1, none⟩ (.int .i64 0)).setCell ⟨B, 0, none⟩ (.int .i64 x.2)).setCell ⟨C, 0, none⟩ (.int .i64 90)).drew.heap[A]? = some (.cells #[.slice none 0 0, .int .i64 0] 25 (0, 0)) := by
      rw [heap_drew, heap_set_far hAC, heap_set_far hAB, heap_set_self (heap_set_self hA)]
      rfl
    have fB : ((((w.setCell ⟨A, 0, none⟩ (.slice none 0 0)).setCell ⟨A, 1, none⟩ (.int .i64 0)).setCell ⟨B, 0, none⟩ (.int .i64 x.2)).setCell ⟨C, 0, none⟩ (.int .i64 90)).drew.heap[B]? = some (.cells #[.int .i64 x.2] 3 (0, 0)) := by
      rw [heap_drew, heap_set_far hBC, heap_set_self (cs := #[.int .i64 n1]) (t := 3) (fz := (0, 0)) (by rw [heap_set_far hAB.symm, heap_set_far hAB.symm, hB])]
      rfl
    have fC : ((((w.setCell ⟨A, 0, none⟩ (.slice none 0 0)).setCell ⟨A, 1, none⟩ (.int .i64 0)).setCell ⟨B, 0, none⟩ (.int .i64 x.2)).setCell ⟨C, 0, none⟩ (.int .i64 90)).drew.heap[C]? = some (.cells #[.int .i64 90] 26 (0, 0)) := by
      rw [heap_drew, heap_set_self (cs := #[.int .i64 n2]) (t := 26) (fz := (0, 0)) (by rw [heap_set_far hBC.symm, heap_set_far hAC.symm, heap_set_far hAC.symm, hC])]
      rfl
    have F := Lib.hid (And.intro e4 (And.intro fA (And.intro fB fC)))
    clear hA hB hC a0 a1 af b0 bf c0 cf hta hfd d0 e1 e2 e3 e4 fA fB fC
    generalize ((((w.setCell ⟨A, 0, none⟩ (.slice none 0 0)).setCell ⟨A, 1, none⟩ (.int .i64 0)).setCell ⟨B, 0, none⟩ (.int .i64 x.2)).setCell ⟨C, 0, none⟩ (.int .i64 90)).drew = W at *
    simp [bodyPostS, results, Tryd.results39]
    exact F.out
set_option maxRecDepth 100000 in
set_option maxHeartbeats 1000000 in
theorem catch_none (A B C : Nat) (w : World) :
    CallsD Tryd.prog 39 #[.pointer (some ⟨A, 0, none⟩), .pointer (some ⟨B, 0, none⟩), .pointer (some ⟨C, 0, none⟩)] .returning w fun e u' w' => e = .returned (.tuple #[]) ∧ u' = .returning ∧ w' = w := by
  refine callsD_of_wpS Tryd.func39 rfl fun c₀ cs hu => ?_
  apply wpS_seq
  apply wpS_region
  simp [wpOpsS, go_sem, recoverD, hu, Tryd.ntmps39, Exit.thenS]
  apply wpS_seq
  apply wpS_region
  simp [wpOpsS, go_sem, recoverD, hu, Tryd.ntmps39, Exit.thenS]
  refine wpS_cond (t := false) (by simp [Act.eval, Array.replicate]) ?_
  simp only [Bool.false_eq_true, if_false]
  refine wpS_of_wp (wp_skip ?_)
  cases c₀
  simp_all [bodyPostS, results, Tryd.results39]
end Go.Proofs.YtkedifhlkiffoaaDoor
