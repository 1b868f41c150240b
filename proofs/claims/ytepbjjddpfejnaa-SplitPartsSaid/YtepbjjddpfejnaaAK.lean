/-
  Pieces further behind, as rows; small lemmas on rows; no condition.
-/
import Derived.Test.YtepbjjddpfejnaaAJ
namespace Go.Proofs.Ytepbjjddpfejnaa
open Go.ChangeShapes Go.WideShapes Go.ChangeAt Go.RowKit
set_option linter.unusedVariables false
set_option linter.unusedSimpArgs false
/-- The first k further behind. -/
def shTo (d k : Nat) (L : List (Pc × Value)) : List (Pc × Value) := (L.take k).map (fun x => (x.1.up d, x.2)) ++ L.drop k
theorem shTo_len (d k : Nat) (L : List (Pc × Value)) (h : k ≤ L.length) : (shTo d k L).length = L.length := by simp [shTo]; omega
theorem shTo_zero (d : Nat) (L : List (Pc × Value)) : shTo d 0 L = L := by simp [shTo]
theorem shTo_at (d k : Nat) (L : List (Pc × Value)) {x : Pc × Value} (h : L[k]? = some x) : (shTo d k L)[k]? = some x := by
  have hk := (List.getElem?_eq_some_iff.1 h).1
  unfold shTo
  rw [List.getElem?_append_right (by simp; omega)]
  simp
  rw [show k - min k L.length = 0 by omega]
  simpa using h
theorem shTo_set (d k : Nat) (L : List (Pc × Value)) {x : Pc × Value} (h : L[k]? = some x) : (pcCells (shTo d k L)).set (k * 3) (.int .i64 ((x.1.at_ + d : Nat) : Int)) = pcCells (shTo d (k + 1) L) := by
  obtain ⟨hk, hx⟩ := List.getElem?_eq_some_iff.1 h
  have e1 : shTo d k L = (L.take k).map (fun x => (x.1.up d, x.2)) ++ x :: L.drop (k + 1) := by
    unfold shTo; rw [List.drop_eq_getElem_cons hk, hx]
  have e2 : shTo d (k + 1) L = (L.take k).map (fun x => (x.1.up d, x.2)) ++ (x.1.up d, x.2) :: L.drop (k + 1) := by
    unfold shTo; rw [List.take_succ_eq_append_getElem hk, hx, List.map_append]; simp
  have hl : (pcCells ((L.take k).map (fun x => (x.1.up d, x.2)))).length = k * 3 := by rw [pcCells_len]; simp; omega
  have ea : ∀ A B : List (Pc × Value), pcCells (A ++ B) = pcCells A ++ pcCells B := fun A B => by simp [pcCells]
  rw [e1, e2, ea, ea, List.set_append_right _ _ (by omega), hl, Nat.sub_self]
  rfl
theorem shTo_map (d : Nat) (L : List (Pc × Value)) : (shTo d L.length L).map (·.1) = (L.map (·.1)).map (Pc.up d) := by
  simp [shTo]
theorem shTo_rows {base d k : Nat} {L : List (Pc × Value)} {W : World} (h : PcRows base L W) : PcRows base (shTo d k L) W := by
  intro x hx
  rcases List.mem_append.1 hx with hx | hx
  · obtain ⟨y, hy, rfl⟩ := List.mem_map.1 hx
    exact h y (List.mem_of_mem_take hy)
  · exact h x (List.mem_of_mem_drop hx)
theorem PcsL.later {W W' : World} {base : Nat} {v : Value} {L : List (Pc × Value)} (h : PcsL base v L W) (hb : Below W.heap.size W W') : PcsL base v L W' := ⟨row_later h.1 hb, h.2.later hb⟩
theorem pcsL_shape {W : World} {base : Nat} {v : Value} {L : List (Pc × Value)} (h : PcsL base v L W) : ∃ a c, v = .slice a L.length c := by
  rcases pcs_shape h with ⟨rfl, rfl⟩ | ⟨g1, c1, rfl⟩
  · exact ⟨_, _, rfl⟩
  · exact ⟨_, _, rfl⟩
theorem rcs_shape2 {W : World} {base : Nat} {v : Value} {rs : List Rc} (h : RcsAt base v rs W) : ∃ a c, v = .slice a rs.length c := by
  rcases rcs_shape h with ⟨rfl, rfl⟩ | ⟨g1, c1, rfl⟩
  · exact ⟨_, _, rfl⟩
  · exact ⟨_, _, rfl⟩
theorem pc_ones (L : List (Pc × Value)) {base : Nat} {W : World} (h : PcRows base L W) : ∀ u ∈ pcCells L, u.oneCell' = true := by
  intro u hu
  unfold pcCells at hu
  obtain ⟨x, hx, hu⟩ := List.mem_flatMap.1 hu
  simp at hu
  rcases hu with rfl | rfl | rfl
  · rfl
  · rcases (h x hx).2 with ⟨e, _⟩ | ⟨g, c, _, e, _⟩ <;> rw [e] <;> rfl
  · rfl
theorem rc_ones (rs : List Rc) : ∀ u ∈ rcCells rs, u.oneCell' = true := by
  intro u hu
  obtain ⟨x, _, hx⟩ := List.mem_flatMap.1 hu
  exact rc_one x u hx
theorem pcCells_app (A B : List (Pc × Value)) : pcCells (A ++ B) = pcCells A ++ pcCells B := by simp [pcCells]
theorem rcCells_app (A B : List Rc) : rcCells (A ++ B) = rcCells A ++ rcCells B := by simp [rcCells]
theorem cellsU_app (A B : List Int) : cellsU (A ++ B) = cellsU A ++ cellsU B := by simp [cellsU]
theorem empty_row (W : World) (e : TypeId) (size : Nat) : (W.alloc (.cells #[] e)).ownsRow W.heap.size e size (.slice (some ⟨W.heap.size, 0, none⟩) 0 0) 0 [] :=
  ⟨by simp, .inr ⟨_, _, _, rfl, Nat.le_refl _, World.alloc_heap_new W _, Nat.le_refl _, by decide, by simp, by simp⟩⟩
end Go.Proofs.Ytepbjjddpfejnaa
