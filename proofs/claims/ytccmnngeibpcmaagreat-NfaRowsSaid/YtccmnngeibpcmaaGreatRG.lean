/-
  Contracts of the document's own Size and Long, and of tree's Size, at patterns that are not too great.
-/
import Derived.Test.YtccmnngeibpcmaaGreatRE
namespace Go.Proofs.YtccmnngeibpcmaaGreat.Tree
open Go.ChangeShapes Go.WideShapes Go.ChangeAt Go.RowKit
set_option linter.unusedVariables false
set_option linter.unusedSimpArgs false
attribute [local go_sem] Oper.semAt_some
/-- Not too great. -/
def Fair (ss : List Sp) : Prop := ss.length ≤ 100 ∧ ∀ s ∈ ss, s.cs.length ≤ 100
theorem fair_mem {L : List (Sp × Value)} {i : Nat} {s : Sp} {v : Value} (h : Fair (L.map (·.1))) (hx : L[i]? = some (s, v)) : s.cs.length ≤ 100 ∧ (L.map (·.1))[i]? = some s := by
  have e : (L.map (·.1))[i]? = some s := by rw [List.getElem?_map, hx]; rfl
  exact ⟨h.2 _ (List.mem_of_getElem? e), e⟩
abbrev sz3 (s : Sp) : Int := 3 * (s.cs.length : Int)
abbrev lo3 (s : Sp) : Int := if s.neg then 0 else within s.min
abbrev hi3 (s : Sp) : Int := if s.neg then 0 else within s.max
theorem sz_bd {ss : List Sp} (h : Fair ss) (i : Nat) (hi : i ≤ 100) : 0 ≤ sumF sz3 (ss.take i) ∧ sumF sz3 (ss.take i) ≤ 100000 := by
  have := sumF_take_bd sz3 300 (by omega) ss i (fun s hs => by have := h.2 s hs; show 0 ≤ 3 * (s.cs.length : Int) ∧ 3 * (s.cs.length : Int) ≤ 300; omega)
  omega
theorem lo_bd (ss : List Sp) (i : Nat) (hi : i ≤ 100) : 0 ≤ sumF lo3 (ss.take i) ∧ sumF lo3 (ss.take i) ≤ 109951162777600 := by
  have := sumF_take_bd lo3 1099511627776 (by omega) ss i (fun s _ => by have := within_bd s.min; show 0 ≤ (if s.neg then 0 else within s.min) ∧ (if s.neg then 0 else within s.min) ≤ 1099511627776; split <;> omega)
  omega
theorem hi_bd (ss : List Sp) (i : Nat) (hi : i ≤ 100) : 0 ≤ sumF hi3 (ss.take i) ∧ sumF hi3 (ss.take i) ≤ 109951162777600 := by
  have := sumF_take_bd hi3 1099511627776 (by omega) ss i (fun s _ => by have := within_bd s.max; show 0 ≤ (if s.neg then 0 else within s.max) ∧ (if s.neg then 0 else within s.max) ≤ 1099511627776; split <;> omega)
  omega
end Go.Proofs.YtccmnngeibpcmaaGreat.Tree
