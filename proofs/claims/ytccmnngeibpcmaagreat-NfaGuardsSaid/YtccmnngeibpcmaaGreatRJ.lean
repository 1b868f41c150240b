/-
  Contracts of slices.EqualFunc at steps, and of tree.Same.
-/
import Derived.Test.YtccmnngeibpcmaaGreatRI
namespace Go.Proofs.YtccmnngeibpcmaaGreat.Tree
open Go.ChangeShapes Go.WideShapes Go.ChangeAt Go.RowKit
set_option linter.unusedVariables false
set_option linter.unusedSimpArgs false
attribute [local go_sem] Oper.semAt_some
theorem map_fst {L : List (Sp × Value)} {i : Nat} {s : Sp} {v : Value} (h : L[i]? = some (s, v)) : (L.map (·.1))[i]? = some s := by rw [List.getElem?_map, h]; rfl
theorem spsL_at {w : World} {a : Option Addr} {n c : Nat} {L : List (Sp × Value)} (h : SpsL w (.slice a n c) L) (hn : L.length = n) {i : Nat} {s : Sp} {v : Value} (hx : L[i]? = some (s, v)) :
    ∃ b o, a = some ⟨b, o, none⟩ ∧ w.cell? ⟨b, o + i * 6, none⟩ = some (.bool s.neg) ∧ w.cell? ⟨b, o + i * 6 + 1, none⟩ = some (.int .i64 s.kind) ∧ w.cell? ⟨b, o + i * 6 + 2, none⟩ = some (.int .i64 s.min) ∧
      w.cell? ⟨b, o + i * 6 + 3, none⟩ = some (.int .i64 s.max) ∧ w.cell? ⟨b, o + i * 6 + 4, none⟩ = some (.bool s.strict) ∧ w.cell? ⟨b, o + i * 6 + 5, none⟩ = some v ∧ CpsAt w v s.cs := by
  obtain ⟨⟨a', c', e, hc⟩, hcs⟩ := h
  rw [hn] at e
  obtain ⟨rfl, rfl⟩ := slice_eq e
  obtain ⟨b, o, e, z0, z1, z2, z3, z4, z5⟩ := sps_cell hc hx
  exact ⟨b, o, e, z0, z1, z2, z3, z4, z5, hcs _ (List.mem_of_getElem? hx)⟩
/-- No list is too long to be walked. -/
def Short (L : List (Sp × Value)) : Prop := L.length ≤ 140737488351232 ∧ ∀ x ∈ L, x.1.cs.length ≤ 140737488351232
end Go.Proofs.YtccmnngeibpcmaaGreat.Tree
