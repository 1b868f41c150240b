/-
  Contracts of tree.sameCmp, of slices.EqualFunc at comparisons, of tree.sameStep.
-/
import Derived.Test.YtccmnngeibpcmaaGreatRH
import Derived.Deep.RegionWith
namespace Go.Proofs.YtccmnngeibpcmaaGreat.Tree
open Go.ChangeShapes Go.WideShapes Go.ChangeAt Go.RowKit
set_option linter.unusedVariables false
set_option linter.unusedSimpArgs false
attribute [local go_sem] Oper.semAt_some
theorem eq_all {α : Type} {xs ys : List α} {n : Nat} (h1 : xs.length = n) (h2 : ys.length = n) {i : Nat} (hi : n ≤ i) (h : ∀ j, j < i → xs[j]? = ys[j]?) : xs = ys := by
  apply List.ext_getElem?
  intro j
  by_cases hj : j < i
  · exact h j hj
  · rw [List.getElem?_eq_none (by omega), List.getElem?_eq_none (by omega)]
theorem neq_at {α : Type} {xs ys : List α} {i : Nat} {x y : α} (h1 : xs[i]? = some x) (h2 : ys[i]? = some y) (h : x ≠ y) : xs ≠ ys := by
  intro e; subst e; rw [h1] at h2; cases h2; exact h rfl
theorem at_eq {α : Type} {xs ys : List α} {i : Nat} {x y : α} (h1 : xs[i]? = some x) (h2 : ys[i]? = some y) (e : x = y) : xs[i]? = ys[i]? := by rw [h1, h2, e]
theorem all_succ {p : Nat → Prop} {i : Nat} (h : ∀ j, j < i → p j) (hi : p i) : ∀ j, j < i + 1 → p j := by
  intro j hj
  by_cases e : j = i
  · subst e; exact hi
  · exact h j (by omega)
theorem sp_eq (s t : Sp) : decide (s = t) = ((s.neg == t.neg) && (s.kind == t.kind) && (s.min == t.min) && (s.max == t.max) && (s.strict == t.strict) && decide (s.cs = t.cs)) := by
  obtain ⟨a, b, c, d, e, f⟩ := s; obtain ⟨a', b', c', d', e', f'⟩ := t
  by_cases e0 : a = a' <;> by_cases e1 : b = b' <;> by_cases e2 : c = c' <;> by_cases e3 : d = d' <;> by_cases e4 : e = e' <;> by_cases e5 : f = f' <;> simp [e0, e1, e2, e3, e4, e5]
end Go.Proofs.YtccmnngeibpcmaaGreat.Tree
