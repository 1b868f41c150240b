/-
  Contract of the law's own pattern of two steps.
-/
import Derived.Test.YtkibnbcdmkogkaaAF
namespace Go.Proofs.Ytkibnbcdmkogkaa
open Go.ChangeShapes Go.WideShapes Go.ChangeAt Go.RowKit
set_option linter.unusedVariables false
set_option linter.unusedSimpArgs false
attribute [local go_sem] Oper.semAt_some
def cD : Cp := ⟨1, ⟨5, 0, 2, 0⟩, ⟨0, -5, 0, 0⟩⟩
def cX : Cp := ⟨3, ⟨2, 0, 1, 0⟩, ⟨1, 7, 0, 0⟩⟩
def sA : Sp := ⟨false, 1, 1, 3, false, [cD]⟩
def sB : Sp := ⟨true, 0, 1, 1, false, [cD, cX]⟩
theorem six_blocks (w : World) (o0 o1 o2 o3 o4 o5 : Obj) : (fun W : World => W.heap[w.heap.size]? = some o0 ∧ W.heap[w.heap.size + 3]? = some o3 ∧ W.heap[w.heap.size + 4]? = some o4 ∧ W.heap[w.heap.size + 5]? = some o5 ∧ Below w.heap.size w W) ((((((w.alloc o0).alloc o1).alloc o2).alloc o3).alloc o4).alloc o5) := by
  have a0 := World.alloc_heap_new w o0
  have a3 := World.alloc_heap_new (((w.alloc o0).alloc o1).alloc o2) o3
  have a4 := World.alloc_heap_new ((((w.alloc o0).alloc o1).alloc o2).alloc o3) o4
  have a5 := World.alloc_heap_new (((((w.alloc o0).alloc o1).alloc o2).alloc o3).alloc o4) o5
  simp only [World.size_alloc] at a3 a4 a5
  have keep : ∀ {W : World} {b : Nat} {o : Obj} (o' : Obj), W.heap[b]? = some o → (W.alloc o').heap[b]? = some o := fun o' h => ((kept_new _ o').block _ (Array.getElem?_eq_some_iff.1 h).1).trans h
  exact ⟨keep _ (keep _ (keep _ (keep _ (keep _ a0)))), keep _ (keep _ a3), keep _ a4, a5, kept_alloc (kept_alloc (kept_alloc (kept_alloc (kept_alloc (kept_new w o0) _) _) _) _) _⟩
theorem row_block {W : World} {base g n cap : Nat} {t : TypeId} {size : Nat} {cs : Array Value} (h : W.heap[g]? = some (.cells cs t (0, 0))) (hb : base ≤ g) (hc : n ≤ cap) (hm : cap ≤ maxLen) (hs : cs.size = n * size) (he : cap = n) : W.ownsRow base t size (.slice (some ⟨g, 0, none⟩) n cap) n cs.toList :=
  ⟨by simpa using hs, .inr ⟨g, cap, cs, rfl, hb, h, hc, hm, by rw [he]; exact hs, List.take_of_length_le (by rw [Array.length_toList, hs]; exact Nat.le_refl _)⟩⟩
set_option maxRecDepth 100000 in
set_option maxHeartbeats 1000000 in
theorem two_any (w : World) : Calls Try.prog 27 #[] w fun e w' => ∃ v u1 u2, e = .returned (ptV v 9) ∧ OwnSps w' w.heap.size v [(sA, u1), (sB, u2)] ∧ Below w.heap.size w w' := by
  go_enter Try.func27, Try.ntmps27
  go_wp2
  obtain ⟨b0, b3, b4, b5, hB⟩ := six_blocks w (.cells #[.slice (some ⟨w.heap.size + 5, 0, none⟩) 2 2, .int .i64 9] 24)
    (.cells #[.int .u8 1, .int .u8 5, .int .i64 0, .int .i64 2, .int .i64 0, .int .u8 0, .int .i64 (-5), .int .i64 0, .int .i64 0] 45)
    (.cells #[.int .u8 3, .int .u8 2, .int .i64 0, .int .i64 1, .int .i64 0, .int .u8 1, .int .i64 7, .int .i64 0, .int .i64 0] 45)
    (.cells #[.int .u8 1, .int .u8 5, .int .i64 0, .int .i64 2, .int .i64 0, .int .u8 0, .int .i64 (-5), .int .i64 0, .int .i64 0] 45)
    (.cells #[.int .u8 1, .int .u8 5, .int .i64 0, .int .i64 2, .int .i64 0, .int .u8 0, .int .i64 (-5), .int .i64 0, .int .i64 0, .int .u8 3, .int .u8 2, .int .i64 0, .int .i64 1, .int .i64 0, .int .u8 1, .int .i64 7, .int .i64 0, .int .i64 0] 45)
    (.cells #[.bool false, .int .i64 1, .int .i64 1, .int .i64 3, .bool false, .slice (some ⟨w.heap.size + 3, 0, none⟩) 1 1, .bool true, .int .i64 0, .int .i64 1, .int .i64 1, .bool false, .slice (some ⟨w.heap.size + 4, 0, none⟩) 2 2] 36)
  refine bodyPost_ret (v := ptV (.slice (some ⟨w.heap.size + 5, 0, none⟩) 2 2) 9) (results_cell_row rfl _ _ w.heap.size 24 _ (0, 0) _ rfl b0 Try.underlying24 rfl (by kernel_rfl)) rfl ?_
  refine ⟨_, .slice (some ⟨w.heap.size + 3, 0, none⟩) 1 1, .slice (some ⟨w.heap.size + 4, 0, none⟩) 2 2, rfl, ⟨row_block b5 (by omega) (by omega) (by unfold maxLen; omega) rfl rfl, ?_⟩, hB⟩
  intro x hx
  rcases List.mem_cons.1 hx with rfl | hx
  · exact row_block b3 (by omega) (by omega) (by unfold maxLen; omega) rfl rfl
  · obtain rfl := List.mem_singleton.1 hx
    exact row_block b4 (by omega) (by omega) (by unfold maxLen; omega) rfl rfl
end Go.Proofs.Ytkibnbcdmkogkaa
