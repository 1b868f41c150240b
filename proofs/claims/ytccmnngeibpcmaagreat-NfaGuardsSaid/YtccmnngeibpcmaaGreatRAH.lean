/-
  The contracts at any value where steps lie; bounds of patterns that are not too great.
-/
import Derived.Test.YtccmnngeibpcmaaGreatRAG
import Derived.Test.YtccmnngeibpcmaaGreatRF
import Derived.Deep.RegionHeld3
import Derived.Deep.RegionLaw
namespace Go.Proofs.YtccmnngeibpcmaaGreat.Tree
open Go.ChangeShapes Go.WideShapes Go.ChangeAt Go.RowKit
set_option linter.unusedVariables false
set_option linter.unusedSimpArgs false
attribute [local go_sem] Oper.semAt_some
theorem SpsL.lit {w : World} {v : Value} {L : List (Sp × Value)} (h : SpsL w v L) {n : Nat} (hn : L.length = n) : ∃ a c, v = .slice a n c := by
  obtain ⟨⟨a, c, e, -⟩, -⟩ := h
  exact ⟨a, c, by rw [e, hn]⟩
theorem CpsAt.lit {w : World} {v : Value} {l : List Cp} (h : CpsAt w v l) {n : Nat} (hn : l.length = n) : ∃ a c, v = .slice a n c := by
  obtain ⟨a, c, e, -⟩ := h
  exact ⟨a, c, by rw [e, hn]⟩
/-- Bounds that hold of every pattern asked here. -/
def Small (ss : List Sp) : Prop := ss.length ≤ 41 ∧ ∀ s ∈ ss, s.cs.length ≤ 100
theorem Small.fair {ss : List Sp} (h : Small ss) : Fair ss := ⟨Nat.le_trans h.1 (by omega), h.2⟩
theorem Small.len {L : List (Sp × Value)} (h : Small (L.map (·.1))) : L.length ≤ 41 := by simpa using h.1
theorem Small.cmps {L : List (Sp × Value)} (h : Small (L.map (·.1))) : ∀ x ∈ L, x.1.cs.length ≤ 100 := fun x hx => h.2 _ (List.mem_map.2 ⟨x, hx, rfl⟩)
theorem Small.short {L : List (Sp × Value)} (h : Small (L.map (·.1))) : Short L := ⟨Nat.le_trans h.len (by omega), fun x hx => Nat.le_trans (h.cmps x hx) (by omega)⟩
theorem Small.fits {L : List (Sp × Value)} (h : Small (L.map (·.1))) : Fits L := ⟨Nat.le_trans h.len (by omega), fun x hx => Nat.le_trans (h.cmps x hx) (by omega)⟩
theorem Small.of_great {ss : List Sp} (h : great ss = false) : Small ss ∧ ss.length ≤ 40 ∧ ∀ s ∈ ss, s.cs.length ≤ 20 := by
  unfold great at h
  rw [Bool.or_eq_false_iff] at h
  obtain ⟨h1, h2⟩ := h
  have hl : ss.length ≤ 40 := by simpa using h2
  rw [List.take_of_length_le (by omega), List.any_eq_false] at h1
  have hc : ∀ s ∈ ss, s.cs.length ≤ 20 := fun s hs => by simpa using h1 s hs
  exact ⟨⟨by omega, fun s hs => Nat.le_trans (hc s hs) (by omega)⟩, hl, hc⟩
theorem long_V {v : Value} {L : List (Sp × Value)} (win : Int) (hS : Small (L.map (·.1))) (w : World) (h : SpsL w v L) :
    Calls Tryz.prog 73 #[ptV v win] w fun e w' => e = .returned (.tuple #[.int .i64 (leastP (L.map (·.1))), .int .i64 (mostP (L.map (·.1)))]) ∧ Below w.heap.size w w' := by
  obtain ⟨a, c, rfl⟩ := h.lit rfl
  exact long_L a _ c win L (Nat.le_trans hS.len (by omega)) w rfl h
theorem positive_V {v : Value} {L : List (Sp × Value)} (win : Int) (hS : Small (L.map (·.1))) (w : World) (h : SpsL w v L) :
    Calls Tryz.prog 42 #[ptV v win] w fun e w' => ∃ v', e = .returned v' ∧ w'.ownsRow w.heap.size 3 1 v' (posP (L.map (·.1))).length (ints (posP (L.map (·.1)))) ∧ Below w.heap.size w w' := by
  obtain ⟨a, c, rfl⟩ := h.lit rfl
  exact positive_L a _ c win L (Nat.le_trans hS.len (by omega)) w rfl h
theorem right_V {v : Value} {L : List (Sp × Value)} (win : Int) (hS : Short L) (ho : OpsOk L) (w : World) (h : SpsL w v L) :
    Calls Tryz.prog 54 #[ptV v win] w fun e w' => e = .returned (.bool (rightP (L.map (·.1)) win)) ∧ Below w.heap.size w w' := by
  obtain ⟨a, c, rfl⟩ := h.lit rfl
  exact right_L a _ c win L hS w rfl h ho
theorem refRight_V {v : Value} {L : List (Sp × Value)} (win : Int) (hS : Short L) (w : World) (h : SpsL w v L) :
    Calls Tryz.prog 50 #[ptV v win] w fun e w' => e = .returned (.bool (rightP (L.map (·.1)) win)) ∧ Below w.heap.size w w' := by
  obtain ⟨a, c, rfl⟩ := h.lit rfl
  exact refRight_L a _ c L win w rfl hS.1 hS.2 h
theorem great_V {v : Value} {L : List (Sp × Value)} (win : Int) (w : World) (hL : L.length ≤ 140737488351232) (h : SpsL w v L) :
    Calls Tryz.prog 5 #[ptV v win] w fun e w' => e = .returned (.bool (great (L.map (·.1)))) ∧ Below w.heap.size w w' := by
  obtain ⟨a, c, rfl⟩ := h.lit rfl
  exact great_L a c L win w hL h
theorem asked_V (s : Sp) {v : Value} (hn : s.cs.length ≤ 100000) (w : World) (hc : CpsAt w v s.cs) :
    Calls Tryz.prog 97 #[spV s v] w fun e w' => ∃ v', e = .returned v' ∧ w'.ownsRow w.heap.size 3 1 v' (setOf (namesC s.cs)).length (ints (setOf (namesC s.cs))) ∧ Below w.heap.size w w' := by
  obtain ⟨a, c, rfl⟩ := hc.lit rfl
  exact asked_any s a _ c w hn rfl hc
theorem OwnCps.later {w w' : World} {base : Nat} {v : Value} {cs : List Cp} (h : OwnCps w base v cs) (hb : Below w.heap.size w w') : OwnCps w' base v cs := by
  refine ⟨h.1, ?_⟩
  rcases h.2 with ⟨e, h0⟩ | ⟨g, cap, cur, e, hb1, hg, r⟩
  · exact .inl ⟨e, h0⟩
  · exact .inr ⟨g, cap, cur, e, hb1, (hb.block _ (Array.getElem?_eq_some_iff.1 hg).1).trans hg, r⟩
theorem OwnSps.later {w w' : World} {base : Nat} {v : Value} {L : List (Sp × Value)} (h : OwnSps w base v L) (hb : Below w.heap.size w w') : OwnSps w' base v L := by
  refine ⟨⟨h.1.1, ?_⟩, fun x hx => (h.2 x hx).later hb⟩
  rcases h.1.2 with ⟨e, h0⟩ | ⟨g, cap, cur, e, hb1, hg, r⟩
  · exact .inl ⟨e, h0⟩
  · exact .inr ⟨g, cap, cur, e, hb1, (hb.block _ (Array.getElem?_eq_some_iff.1 hg).1).trans hg, r⟩
theorem lit_ints (W : World) (l : List Int) : IntsAt (W.alloc (.cells (ints l).toArray 3)) (.slice (some ⟨W.heap.size, 0, none⟩) l.length l.length) l := by
  refine ⟨some ⟨W.heap.size, 0, none⟩, l.length, rfl, .inr ⟨W.heap.size, 0, rfl, fun j v hj => ?_⟩⟩
  have hb := World.alloc_heap_new W (.cells (ints l).toArray 3)
  simp only [World.cell?, hb]
  simpa using hj
end Go.Proofs.YtccmnngeibpcmaaGreat.Tree
