/-
  Contract of the law's own pattern of two steps.
-/
import Derived.Test.YtccmnngeibpcmaaGreatRAF
namespace Go.Proofs.YtccmnngeibpcmaaGreat.Tree
open Go.ChangeShapes Go.WideShapes Go.ChangeAt Go.RowKit
set_option linter.unusedVariables false
set_option linter.unusedSimpArgs false
attribute [local go_sem] Oper.semAt_some
def cD : Cp := ⟨1, ⟨5, 0, 2, 0⟩, ⟨0, -5, 0, 0⟩⟩
def cX : Cp := ⟨3, ⟨2, 0, 1, 0⟩, ⟨1, 7, 0, 0⟩⟩
def sA : Sp := ⟨false, 1, 1, 3, false, [cD]⟩
def sB : Sp := ⟨true, 0, 1, 1, false, [cD, cX]⟩
theorem six_blocks (w : World) (o0 o1 o2 o3 o4 o5 : Obj) : (fun W : World => W.heap[w.heap.size]? = some o0 ∧ W.heap[w.heap.size + 3]? = some o3 ∧ W.heap[w.heap.size + 4]? = some o4 ∧ W.heap[w.heap.size + 5]? = some o5 ∧ Below w.heap.size w W) ((((((w.alloc o0).alloc o1).alloc o2).alloc o3).alloc o4).alloc o5) := by
  have a0 := World.alloc_heap_new w o0
  have a3 := World.alloc_heap_new (((w.alloc o0).alloc o1).alloc o2) o3
  have a4 := World.alloc_heap_new ((((w.alloc o0).alloc o1).alloc o2).alloc o3) o4
  have a5 := World.alloc_heap_new (((((w.alloc o0).alloc o1).alloc o2).alloc o3).alloc o4) o5
  simp only [World.size_alloc] at a3 a4 a5
  have keep : ∀ {W : World} {b : Nat} {o : Obj} (o' : Obj), W.heap[b]? = some o → (W.alloc o').heap[b]? = some o := fun o' h => ((kept_new _ o').block _ (Array.getElem?_eq_some_iff.1 h).1).trans h
  exact ⟨keep _ (keep _ (keep _ (keep _ (keep _ a0)))), keep _ (keep _ a3), keep _ a4, a5, kept_alloc (kept_alloc (kept_alloc (kept_alloc (kept_alloc (kept_new w o0) _) _) _) _) _⟩
theorem row_block {W : World} {base g n cap : Nat} {t : TypeId} {size : Nat} {cs : Array Value} (h : W.heap[g]? = some (.cells cs t (0, 0))) (hb : base ≤ g) (hc : n ≤ cap) (hm : cap ≤ maxLen) (hs : cs.size = n * size) (he : cap = n) : W.ownsRow base t size (.slice (some ⟨g, 0, none⟩) n cap) n cs.toList :=
  ⟨by simpa using hs, .inr ⟨g, cap, cs, rfl, hb, h, hc, hm, by rw [he]; exact hs, List.take_of_length_le (by rw [Array.length_toList, hs]; exact Nat.le_refl _)⟩⟩
end Go.Proofs.YtccmnngeibpcmaaGreat.Tree
