/-
  Contract of tree.Own.
-/
import Derived.Test.YtccmnngeibpcmaaGreatRY
namespace Go.Proofs.YtccmnngeibpcmaaGreat.Tree
open Go.ChangeShapes Go.WideShapes Go.ChangeAt Go.RowKit
set_option linter.unusedVariables false
set_option linter.unusedSimpArgs false
attribute [local go_sem] Oper.semAt_some
theorem keepC {X Y : World} {a : Addr} {v : Value} (h : X.grownBy Y none) (hc : X.cell? a = some v) : Y.cell? a = some v := (h.cell_far a (World.block_lt_of_cell? X _ hc) (by simp)).trans hc
theorem keepF {X Y : World} {a : Addr} {v : Value} (h : X.grownBy Y none) (hc : X.cell? a = some v) (hf : X.frozen? a = false) : Y.frozen? a = false := (h.frozen_far a (World.block_lt_of_cell? X _ hc) (by simp)).trans hf
/-- Bounds that an append asks. -/
def Fits (L : List (Sp × Value)) : Prop := L.length ≤ 1000000 ∧ ∀ x ∈ L, x.1.cs.length ≤ 1000000
/-- What Own has behind i steps. -/
def OnIn (w : World) (L : List (Sp × Value)) (v : Value) (win : Int) (i : Nat) (W : World) : Prop :=
  PtBox w.heap.size v win W ∧ W.heap[w.heap.size + 1]? = some (.cells #[.slice none 0 0, .int .i64 0] 24 (0, 0)) ∧ Below w.heap.size w W ∧
    ∃ M : List (Sp × Value), W.ownsRow w.heap.size 45 6 v L.length (spsCells M) ∧ M.map (·.1) = L.map (·.1) ∧ (∀ j x, j < i → M[j]? = some x → OwnCps W w.heap.size x.2 x.1.cs) ∧ ∀ j, i ≤ j → M[j]? = L[j]?
theorem PtBox.set0 {p : Nat} {v : Value} {win : Int} {w : World} (h : PtBox p v win w) (u : Value) : PtBox p u win (w.setCell ⟨p, 0, none⟩ u) := by
  obtain ⟨hlt, hk⟩ := Array.getElem?_eq_some_iff.1 h
  show (w.heap.modify p _)[p]? = _
  rw [Array.getElem?_eq_getElem (by rw [Array.size_modify]; exact hlt), Array.getElem_modify_self, hk]
  rfl
theorem PtBox.set1 {p : Nat} {v : Value} {win : Int} {w : World} (h : PtBox p v win w) (u : Int) : PtBox p v u (w.setCell ⟨p, 1, none⟩ (.int .i64 u)) := by
  obtain ⟨hlt, hk⟩ := Array.getElem?_eq_some_iff.1 h
  show (w.heap.modify p _)[p]? = _
  rw [Array.getElem?_eq_getElem (by rw [Array.size_modify]; exact hlt), Array.getElem_modify_self, hk]
  rfl
theorem PtBox.f {p : Nat} {v : Value} {win : Int} {w : World} (h : PtBox p v win w) (j : Nat) : w.frozen? ⟨p, j, none⟩ = false := by unfold PtBox at h; simp [World.frozen?, h]
theorem block_is {W : World} {B : Nat} {t : TypeId} {cs : Array Value} (h : W.heap[B]? = some (.cells cs t (0, 0))) (u : TypeId) (ht : u ≠ t) : ∀ r, some B = some r → ∃ o : Obj, W.heap[r]? = some o ∧ ∀ cs fz, o ≠ .cells cs u fz := by
  intro r e
  cases e
  exact ⟨_, h, by rintro cs fz ⟨⟩; exact ht rfl⟩
theorem row_step {W : World} {base g n cap : Nat} {M : List (Sp × Value)} (h : W.ownsRow base 45 6 (.slice (some ⟨g, 0, none⟩) n cap) n (spsCells M)) {i : Nat} {s : Sp} {u : Value} (hi : i < n) (hx : M[i]? = some (s, u)) :
    W.cell? ⟨g, i * 6, none⟩ = some (.bool s.neg) ∧ W.cell? ⟨g, i * 6 + 1, none⟩ = some (.int .i64 s.kind) ∧ W.cell? ⟨g, i * 6 + 2, none⟩ = some (.int .i64 s.min) ∧
      W.cell? ⟨g, i * 6 + 3, none⟩ = some (.int .i64 s.max) ∧ W.cell? ⟨g, i * 6 + 4, none⟩ = some (.bool s.strict) ∧ W.cell? ⟨g, i * 6 + 5, none⟩ = some u ∧ W.frozen? ⟨g, i * 6 + 5, none⟩ = false := by
  have H := fun j hj => flat_at 6 (fun x : Sp × Value => [Value.bool x.1.neg, .int .i64 x.1.kind, .int .i64 x.1.min, .int .i64 x.1.max, .bool x.1.strict, x.2]) (fun _ => rfl) M i _ hx j hj
  have C := fun j (hj : j < 6) => (h.cellAt (i * 6 + j) (by omega)).trans (H j hj)
  exact ⟨C 0 (by omega), C 1 (by omega), C 2 (by omega), C 3 (by omega), C 4 (by omega), C 5 (by omega), h.frozenAt _⟩
theorem OwnCps.kept {W W' : World} {base : Nat} {v : Value} {cs : List Cp} {row : Option Nat} (h : OwnCps W base v cs) (hg : W.grownBy W' row) (hrow : ∀ r, row = some r → ∃ o : Obj, W.heap[r]? = some o ∧ ∀ cs fz, o ≠ .cells cs 95 fz) : OwnCps W' base v cs := row_kept h hg hrow
theorem OnIn.next {w W W2 : World} {L M : List (Sp × Value)} {win : Int} {i g cap : Nat} {s : Sp} {u v2 : Value}
    (hp : PtBox w.heap.size (.slice (some ⟨g, 0, none⟩) L.length cap) win W) (hz : W.heap[w.heap.size + 1]? = some (.cells #[.slice none 0 0, .int .i64 0] 24 (0, 0))) (hB : Below w.heap.size w W)
    (hr : W.ownsRow w.heap.size 45 6 (.slice (some ⟨g, 0, none⟩) L.length cap) L.length (spsCells M)) (hM : M.map (·.1) = L.map (·.1)) (hold : ∀ j x, j < i → M[j]? = some x → OwnCps W w.heap.size x.2 x.1.cs) (hnew : ∀ j, i ≤ j → M[j]? = L[j]?)
    (hx : M[i]? = some (s, u)) (hg : W.grownBy W2 none) (hown : OwnCps W2 w.heap.size v2 s.cs) : OnIn w L (.slice (some ⟨g, 0, none⟩) L.length cap) win (i + 1) (W2.setCell ⟨g, i * 6 + 5, none⟩ v2) := by
  have hr2 := row_kept hr hg (fun r e => by cases e)
  obtain ⟨st1, st2⟩ := hr2.stored (i * 6 + 5) v2
  have hgt := own_is hr2
  have hgb : ∀ t, t ≠ 45 → ∀ r, some g = some r → ∃ o : Obj, W2.heap[r]? = some o ∧ ∀ cs fz, o ≠ .cells cs t fz := fun t ht r e => hgt t ht r (by simpa [Value.ownBlock] using e)
  have hp2 : PtBox w.heap.size (.slice (some ⟨g, 0, none⟩) L.length cap) win W2 := hp.later (below_grown hg)
  have hz2 := ((below_grown hg).block _ (Array.getElem?_eq_some_iff.1 hz).1).trans hz
  have ne1 : w.heap.size ≠ g := by
    rintro rfl
    obtain ⟨o, ho, hc⟩ := hgb 24 (by decide) _ rfl
    rw [show W2.heap[w.heap.size]? = _ from hp2] at ho; cases ho; exact hc _ _ rfl
  have ne2 : w.heap.size + 1 ≠ g := by
    rintro rfl
    obtain ⟨o, ho, hc⟩ := hgb 24 (by decide) _ rfl
    rw [hz2] at ho; cases ho; exact hc _ _ rfl
  have hge : w.heap.size ≤ g := by
    rcases hr.2 with ⟨e, _⟩ | ⟨g', cap', cur, e, hb, _⟩
    · cases e
    · cases e; exact hb
  refine ⟨(Below.heap_setCell W2 ⟨g, i * 6 + 5, none⟩ v2 _ ne1).trans hp2, (Below.heap_setCell W2 ⟨g, i * 6 + 5, none⟩ v2 _ ne2).trans hz2, (hB.trans ((below_grown hg).mono hB.size)).setCell (p := ⟨g, i * 6 + 5, none⟩) hge v2, M.set i (s, v2), ?_, ?_, ?_, ?_⟩
  · rw [← spsCells_set hx]; exact st1
  · rw [List.map_set, hM]
    have : (L.map (·.1))[i]? = some s := by rw [← hM, List.getElem?_map, hx]; rfl
    obtain ⟨hlt, he⟩ := List.getElem?_eq_some_iff.1 this
    apply List.ext_getElem?
    intro j
    rw [List.getElem?_set]
    split
    · rename_i e; subst e; rw [this]
    · rfl
  · intro j x hj hjx
    rw [List.getElem?_set] at hjx
    split at hjx
    · rename_i e
      subst e
      split at hjx
      · cases hjx
        exact hown.kept st2 (hgb 95 (by decide))
      · cases hjx
    · exact (hold j x (by omega) hjx |>.kept hg (fun r e => by cases e)).kept st2 (hgb 95 (by decide))
  · intro j hj
    rw [List.getElem?_set_ne (by omega)]
    exact hnew j (by omega)
end Go.Proofs.YtccmnngeibpcmaaGreat.Tree
