/-
  TreeAsked's walk.
-/
import Derived.Test.YtmgkamljlgmmeaaRAJ
import Derived.Deep.Cut
import Derived.Deep.CutRange
import Derived.Deep.LoopGhost
namespace Go.Proofs.Ytmgkamljlgmmeaa.Tree
open Go.ChangeShapes Go.WideShapes Go.ChangeAt Go.RowKit
set_option linter.unusedVariables false
set_option linter.unusedSimpArgs false
attribute [local go_sem] Oper.semAt_some
theorem mem_take_succ {l : List Int} {i : Nat} {y x : Int} (h : l[i]? = some y) : decide (x ∈ l.take (i + 1)) = (decide (x ∈ l.take i) || (y == x)) := by
  rw [List.take_add_one, h]
  by_cases h1 : x ∈ l.take i
  · simp [h1]
  · by_cases h2 : y = x
    · simp [h1, h2]
    · have : ¬ x = y := fun e => h2 e.symm
      simp [h1, h2, this]
theorem terms_j {cs : List Cp} {n j : Nat} {c : Cp} {t : Tm} (h : cs[n]? = some c) (hj : j < 2) (ht : [c.l, c.r][j]? = some t) : (termsC cs)[n * 2 + j]? = some t := by
  obtain ⟨h1, h2⟩ := termsC_at h
  match j, hj with
  | 0, _ => rw [← ht]; exact h1
  | 1, _ => rw [← ht]; exact h2
theorem names_next {cs : List Cp} {q : Nat} {t : Tm} (x : Int) (h : (termsC cs)[q]? = some t) : decide (x ∈ namesL ((termsC cs).take (q + 1))) = (decide (x ∈ namesL ((termsC cs).take q)) || decide (x ∈ namesT t)) := by
  rw [List.take_add_one, h]
  unfold namesL
  rw [List.flatMap_append]
  simp
theorem names_in {cs : List Cp} {q j : Nat} {t : Tm} {y : Int} (h : (termsC cs)[q]? = some t) (hy : (namesT t)[j]? = some y) : y ∈ namesC cs := by
  unfold namesC namesL
  exact List.mem_flatMap.2 ⟨t, List.mem_of_getElem? h, List.mem_of_getElem? hy⟩
end Go.Proofs.Ytmgkamljlgmmeaa.Tree
