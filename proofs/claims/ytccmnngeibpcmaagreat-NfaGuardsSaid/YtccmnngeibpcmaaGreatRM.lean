/-
  Contract of the document's own Same.
-/
import Derived.Test.YtccmnngeibpcmaaGreatRK
namespace Go.Proofs.YtccmnngeibpcmaaGreat.Tree
open Go.ChangeShapes Go.WideShapes Go.ChangeAt Go.RowKit
set_option linter.unusedVariables false
set_option linter.unusedSimpArgs false
attribute [local go_sem] Oper.semAt_some
theorem two_boxes (w : World) (a1 a2 : Option Addr) (n m c1 c2 : Nat) (p q : Int) : PtBox w.heap.size (.slice a1 n c1) p ((w.alloc (.cells #[.slice a1 n c1, .int .i64 p] 24)).alloc (.cells #[.slice a2 m c2, .int .i64 q] 24)) ∧ PtBox (w.heap.size + 1) (.slice a2 m c2) q ((w.alloc (.cells #[.slice a1 n c1, .int .i64 p] 24)).alloc (.cells #[.slice a2 m c2, .int .i64 q] 24)) := by
  refine ⟨(PtBox.new w (.slice a1 n c1) p).later (kept_new _ _), ?_⟩
  have := PtBox.new (w.alloc (.cells #[.slice a1 n c1, .int .i64 p] 24)) (.slice a2 m c2) q
  rwa [World.size_alloc] at this
end Go.Proofs.YtccmnngeibpcmaaGreat.Tree
