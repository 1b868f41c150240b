/-
  Contract of the document's own Own.
-/
import Derived.Test.YtccmnngeibpcmaaGreatRZ
namespace Go.Proofs.YtccmnngeibpcmaaGreat.Tree
open Go.ChangeShapes Go.WideShapes Go.ChangeAt Go.RowKit
set_option linter.unusedVariables false
set_option linter.unusedSimpArgs false
attribute [local go_sem] Oper.semAt_some
/-- What Own has behind i steps. -/
def RoIn (w : World) (L : List (Sp × Value)) (win : Int) (i : Nat) (W : World) : Prop :=
  ∃ v, PtBox w.heap.size v win W ∧ W.heap[w.heap.size + 1]? = some (.cells #[.slice none 0 0, .int .i64 0] 24 (0, 0)) ∧ Below w.heap.size w W ∧
    ∃ M : List (Sp × Value), W.ownsRow w.heap.size 45 6 v i (spsCells M) ∧ M.map (·.1) = (L.map (·.1)).take i ∧ ∀ x ∈ M, OwnCps W w.heap.size x.2 x.1.cs
theorem SpBox.set5 {p : Nat} {s : Sp} {v : Value} {w : World} (h : SpBox p s v w) (u : Value) : SpBox p s u (w.setCell ⟨p, 5, none⟩ u) := by
  obtain ⟨hlt, hk⟩ := Array.getElem?_eq_some_iff.1 h
  show (w.heap.modify p _)[p]? = _
  rw [Array.getElem?_eq_getElem (by rw [Array.size_modify]; exact hlt), Array.getElem_modify_self, hk]
  rfl
theorem SpBox.f {p : Nat} {s : Sp} {v : Value} {w : World} (h : SpBox p s v w) (j : Nat) : w.frozen? ⟨p, j, none⟩ = false := by unfold SpBox at h; simp [World.frozen?, h]
theorem block_grown {W W' : World} {row : Option Nat} {B : Nat} {cs : Array Value} {t : TypeId} (h : W.heap[B]? = some (.cells cs t (0, 0))) (hg : W.grownBy W' row) (hne : some B ≠ row) : W'.heap[B]? = some (.cells cs t (0, 0)) := (hg.block B (Array.getElem?_eq_some_iff.1 h).1 hne).trans h
theorem not_rowblock {W : World} {base : Nat} {e : TypeId} {size n : Nat} {v : Value} {xs : List Value} (h : W.ownsRow base e size v n xs) {B : Nat} {cs : Array Value} {t : TypeId} (hb : W.heap[B]? = some (.cells cs t (0, 0))) (ht : t ≠ e) : some B ≠ v.ownBlock := fun he => by
  obtain ⟨o, ho, hc⟩ := own_is h t ht B he.symm
  rw [hb] at ho; cases ho; exact hc _ _ rfl
theorem cells_of_alloc (W : World) (p : Addr) (u : Value) (cs : List Value) (t : TypeId) : CellsAt ((W.setCell p u).alloc (.cells cs.toArray t)) (some ⟨W.heap.size, 0, none⟩) cs := by
  refine .inr ⟨W.heap.size, 0, rfl, fun j v hj => ?_⟩
  have hb := World.alloc_heap_new (W.setCell p u) (.cells cs.toArray t)
  have hs : (W.setCell p u).heap.size = W.heap.size := by simp
  rw [hs] at hb
  simp only [World.cell?, hb, Nat.zero_add]
  simpa using hj
/-- Behind the comparisons' append, and their store. -/
def RoMid (w : World) (M : List (Sp × Value)) (win : Int) (i : Nat) (v : Value) (B2 : Nat) (s : Sp) (u : Value) (W : World) : Prop :=
  SpBox B2 s u W ∧ PtBox w.heap.size v win W ∧ W.heap[w.heap.size + 1]? = some (.cells #[.slice none 0 0, .int .i64 0] 24 (0, 0)) ∧ Below w.heap.size w W ∧ W.ownsRow w.heap.size 45 6 v i (spsCells M) ∧ (∀ x ∈ M, OwnCps W w.heap.size x.2 x.1.cs) ∧ OwnCps W w.heap.size u s.cs
theorem ro_mid {w wr w1 : World} {M : List (Sp × Value)} {win : Int} {i m : Nat} {v u u' : Value} {s : Sp}
    (hp : PtBox w.heap.size v win wr) (hz : wr.heap[w.heap.size + 1]? = some (.cells #[.slice none 0 0, .int .i64 0] 24 (0, 0))) (hB : Below w.heap.size w wr) (hr : wr.ownsRow w.heap.size 45 6 v i (spsCells M)) (hown : ∀ x ∈ M, OwnCps wr w.heap.size x.2 x.1.cs) (hm : s.cs.length = m)
    (hgrow : ((wr.alloc (.cells #[.bool s.neg, .int .i64 s.kind, .int .i64 s.min, .int .i64 s.max, .bool s.strict, u] 45)).alloc (.cells #[] 95)).grownBy w1 (some (wr.heap.size + 1))) (hown' : w1.ownsRow w.heap.size 95 9 u' m (cpsCells s.cs)) :
    SpBox wr.heap.size s u w1 ∧ RoMid w M win i v wr.heap.size s u' (w1.setCell ⟨wr.heap.size, 5, none⟩ u') := by
  have hg1 : wr.grownBy ((wr.alloc (.cells #[.bool s.neg, .int .i64 s.kind, .int .i64 s.min, .int .i64 s.max, .bool s.strict, u] 45)).alloc (.cells #[] 95)) none := (World.grownBy_alloc wr _ none).trans (World.grownBy_alloc _ _ none)
  have hg2 : wr.grownBy w1 none := ⟨hgrow.os.trans hg1.os, hgrow.tape.trans hg1.tape, hgrow.output.trans hg1.output, Nat.le_trans hg1.size hgrow.size, fun k hk _ => (hgrow.block k (Nat.lt_of_lt_of_le hk hg1.size) (fun e => by cases e; omega)).trans (hg1.block k hk (by simp))⟩
  have hsp0 : SpBox wr.heap.size s u ((wr.alloc (.cells #[.bool s.neg, .int .i64 s.kind, .int .i64 s.min, .int .i64 s.max, .bool s.strict, u] 45)).alloc (.cells #[] 95)) := (SpBox.new wr s u).later (kept_new _ _)
  have hsp : SpBox wr.heap.size s u w1 := block_grown hsp0 hgrow (fun e => by injection e; omega)
  refine ⟨hsp, hsp.set5 u', ?_, ?_, (hB.trans ((below_grown hg2).mono hB.size)).setCell (by have := hB.size; simpa using this) _, ?_, ?_, ?_⟩
  · exact block_far (block_grown hp hg2 (by simp)) (by have := hp.lt; omega) _ _
  · exact block_far (block_grown hz hg2 (by simp)) (by have := (Array.getElem?_eq_some_iff.1 hz).1; omega) _ _
  · refine (row_kept hr hg2 (fun r e => by cases e)).kept (grownBy_setCell_any w1 wr.heap.size 5 u') (.inr fun e => ?_)
    have := (hr.lt _ e).2
    omega
  · exact fun x hx => ((hown x hx).kept hg2 (fun r e => by cases e)).kept (grownBy_setCell_any w1 wr.heap.size 5 u') (block_is hsp 95 (by decide))
  · unfold OwnCps
    rw [hm]
    exact row_kept hown' (grownBy_setCell_any w1 wr.heap.size 5 u') (block_is hsp 95 (by decide))
theorem ro_end {w W w2 : World} {L M : List (Sp × Value)} {win : Int} {i B2 : Nat} {v u v' : Value} {s : Sp} {tmp : Obj}
    (h : RoMid w M win i v B2 s u W) (hM : M.map (·.1) = (L.map (·.1)).take i) (hx : (L.map (·.1))[i]? = some s)
    (hgrow : (W.alloc tmp).grownBy w2 v.ownBlock) (hown' : w2.ownsRow w.heap.size 45 6 v' (i + 1) (spsCells M ++ [.bool s.neg, .int .i64 s.kind, .int .i64 s.min, .int .i64 s.max, .bool s.strict, u])) : PtBox w.heap.size v win w2 ∧ RoIn w L win (i + 1) (w2.setCell ⟨w.heap.size, 0, none⟩ v') := by
  obtain ⟨-, hp, hz, hB, hr, hown, hu⟩ := h
  have hg1 : W.grownBy (W.alloc tmp) none := World.grownBy_alloc W _ none
  have hp1 := block_grown (block_grown hp hg1 (by simp)) hgrow (not_rowblock (hr.alloc _) (block_grown hp hg1 (by simp)) (by decide))
  have hz1 := block_grown (block_grown hz hg1 (by simp)) hgrow (not_rowblock (hr.alloc _) (block_grown hz hg1 (by simp)) (by decide))
  have hkeep : ∀ {v cs}, OwnCps W w.heap.size v cs → OwnCps (w2.setCell ⟨w.heap.size, 0, none⟩ v') w.heap.size v cs := fun h => ((h.kept hg1 (fun r e => by cases e)).kept hgrow (own_is (hr.alloc _) 95 (by decide))).kept (grownBy_setCell_any w2 w.heap.size 0 v') (block_is hp1 95 (by decide))
  refine ⟨hp1, v', PtBox.set0 hp1 v', block_far hz1 (by omega) _ _, ?_, M ++ [(s, u)], ?_, ?_, ?_⟩
  · refine (Below.grown (hB.trans ((below_grown hg1).mono hB.size)) hgrow (by have := hB.size; simp; omega) fun j ej => ?_).setCell (p := ⟨w.heap.size, 0, none⟩) (by simp) v'
    exact (hr.lt _ ej).1
  · have hs : spsCells (M ++ [(s, u)]) = spsCells M ++ [.bool s.neg, .int .i64 s.kind, .int .i64 s.min, .int .i64 s.max, .bool s.strict, u] := by simp [spsCells]
    rw [hs]
    exact row_kept hown' (grownBy_setCell_any w2 w.heap.size 0 v') (block_is hp1 45 (by decide))
  · rw [List.map_append, hM, List.take_add_one, hx]; rfl
  · intro x hx
    rcases List.mem_append.1 hx with hx | hx
    · exact hkeep (hown x hx)
    · obtain rfl := List.mem_singleton.1 hx
      exact hkeep hu
end Go.Proofs.YtccmnngeibpcmaaGreat.Tree
