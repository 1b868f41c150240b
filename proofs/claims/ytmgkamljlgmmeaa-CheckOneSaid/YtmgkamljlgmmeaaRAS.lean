/-
  A pattern of one's own that is changed, beside another one that was made of it.
-/
import Derived.Test.YtmgkamljlgmmeaaRAQ
namespace Go.Proofs.Ytmgkamljlgmmeaa.Tree
open Go.ChangeShapes Go.WideShapes Go.ChangeAt Go.RowKit
set_option linter.unusedVariables false
set_option linter.unusedSimpArgs false
attribute [local go_sem] Oper.semAt_some
/-- The law's copy while it is changed: it alone is. -/
def ChK (w3 W7 : World) (P n : Nat) (v : Value) (M : List (Sp × Value)) (W : World) : Prop :=
  Below w3.heap.size W7 W ∧ (∀ b, P ≤ b → W.heap[b]? = W7.heap[b]?) ∧ M.length = n ∧ OwnSps W w3.heap.size v M ∧ Apart M ∧ (∀ y ∈ M, y.1.cs.length ≤ 20) ∧ (∀ y ∈ M, ∀ r, y.2.ownBlock = some r → r < P) ∧ ∀ r, v.ownBlock = some r → r < P
theorem apart_set {M : List (Sp × Value)} (h : Apart M) {i : Nat} {s s' : Sp} {u : Value} (hx : M[i]? = some (s, u)) : Apart (M.set i (s', u)) := by
  have e : (M.set i (s', u)).map (·.2) = M.map (·.2) := by
    rw [List.map_set]
    apply List.ext_getElem?
    intro j
    rw [List.getElem?_set]
    split
    · rename_i e; subst e
      have hi := (List.getElem?_eq_some_iff.1 hx).1
      rw [List.length_map, if_pos hi, List.getElem?_map, hx]; rfl
    · rfl
  have h1 : (M.map (·.2)).Pairwise (fun x y : Value => ∀ r, x.ownBlock = some r → y.ownBlock ≠ some r) := List.pairwise_map.2 h
  rw [← e] at h1
  exact List.pairwise_map.1 h1
theorem cpsCells_set {cs : List Cp} {q : Nat} {c : Cp} (h : cs[q]? = some c) (o : Int) : (cpsCells cs).set (q * 9) (.int .u8 o) = cpsCells (cs.set q { c with op := o }) := by
  unfold cpsCells
  induction cs generalizing q with
  | nil => simp at h
  | cons x r ih =>
    cases q with
    | zero => simp at h; subst h; rfl
    | succ q =>
      rw [List.flatMap_cons, List.set_cons_succ, List.flatMap_cons, show (q + 1) * 9 = q * 9 + 9 by omega]
      rw [← ih (by simpa using h)]
      rfl
section
variable {w3 W7 : World} {P n : Nat} {v : Value} {M : List (Sp × Value)} {W : World}
theorem ChK.drew (h : ChK w3 W7 P n v M W) : ChK w3 W7 P n v M W.drew :=
  ⟨h.1.drew, h.2.1, h.2.2.1, h.2.2.2.1.later (Below.refl _ _).drew, h.2.2.2.2⟩
theorem ChK.lit (h : ChK w3 W7 P n v M W) (h0 : 0 < n) : ∃ g cap, v = .slice (some ⟨g, 0, none⟩) n cap ∧ w3.heap.size ≤ g ∧ g < P := by
  obtain ⟨hB, hE, hn, hO, hA, h20, hb, hv⟩ := h
  obtain ⟨g, cap, rfl, -, hg⟩ := own_lit hO hn h0
  exact ⟨g, cap, rfl, hg, hv g rfl⟩
theorem ChK.kind {g cap i : Nat} {s : Sp} {u : Value} (h : ChK w3 W7 P n (.slice (some ⟨g, 0, none⟩) n cap) M W) (hx : M[i]? = some (s, u)) (k : Int) :
    ChK w3 W7 P n (.slice (some ⟨g, 0, none⟩) n cap) (M.set i ({ s with kind := k }, u)) (W.setCell ⟨g, i * 6 + 1, none⟩ (.int .i64 k)) := by
  obtain ⟨hB, hE, hn, hO, hA, h20, hb, hv⟩ := h
  have hr := hO.1
  rw [hn] at hr
  have hg3 : w3.heap.size ≤ g := (World.ownsRow.lt hr g rfl).1
  have hgP := hv g rfl
  obtain ⟨st1, st2⟩ := hr.stored (i * 6 + 1) (.int .i64 k)
  rw [spsCells_set1 hx] at st1
  have hgb : ∀ r, some g = some r → ∃ o : Obj, W.heap[r]? = some o ∧ ∀ cs fz, o ≠ .cells cs 41 fz := fun r e => own_is hr 41 (by decide) r (by simpa [Value.ownBlock] using e)
  refine ⟨hB.setCell (p := ⟨g, _, none⟩) hg3 _, fun b hb' => (Below.heap_setCell W ⟨g, i * 6 + 1, none⟩ _ b (by show b ≠ g; omega)).trans (hE b hb'), by rw [List.length_set, hn], ⟨by rw [List.length_set, hn]; exact st1, fun y hy => ?_⟩, apart_set hA hx, fun y hy => ?_, fun y hy => ?_, hv⟩
  · rcases List.mem_or_eq_of_mem_set hy with h1 | rfl
    · exact (hO.2 y h1).kept st2 hgb
    · exact (hO.2 _ (List.mem_of_getElem? hx)).kept st2 hgb
  · rcases List.mem_or_eq_of_mem_set hy with h1 | rfl
    · exact h20 y h1
    · have h2 := h20 _ (List.mem_of_getElem? hx)
      exact h2
  · rcases List.mem_or_eq_of_mem_set hy with h1 | rfl
    · exact hb y h1
    · have h2 := hb _ (List.mem_of_getElem? hx)
      exact h2
theorem ChK.op {i q g2 m c2 : Nat} {s : Sp} {c : Cp} (h : ChK w3 W7 P n v M W) (hx : M[i]? = some (s, .slice (some ⟨g2, 0, none⟩) m c2)) (hq : s.cs[q]? = some c) (o : Int) :
    ChK w3 W7 P n v (M.set i ({ s with cs := s.cs.set q { c with op := o } }, .slice (some ⟨g2, 0, none⟩) m c2)) (W.setCell ⟨g2, q * 9, none⟩ (.int .u8 o)) := by
  obtain ⟨hB, hE, hn, hO, hA, h20, hb, hv⟩ := h
  have hou : W.ownsRow w3.heap.size 41 9 (.slice (some ⟨g2, 0, none⟩) m c2) s.cs.length (cpsCells s.cs) := hO.2 _ (List.mem_of_getElem? hx)
  have hm : s.cs.length = m := by
    rcases hou.2 with ⟨e, _⟩ | ⟨g, cap, cur, e, _⟩
    · cases e
    · cases e; rfl
  rw [hm] at hou
  have hg3 : w3.heap.size ≤ g2 := (World.ownsRow.lt hou g2 rfl).1
  have hgP := hb _ (List.mem_of_getElem? hx) g2 rfl
  obtain ⟨st1, st2⟩ := hou.stored (q * 9) (.int .u8 o)
  rw [cpsCells_set hq] at st1
  have hgb : ∀ r, some g2 = some r → ∃ o : Obj, W.heap[r]? = some o ∧ ∀ cs fz, o ≠ .cells cs 35 fz := fun r e => own_is hou 35 (by decide) r (by simpa [Value.ownBlock] using e)
  have hr := row_kept hO.1 st2 hgb
  have hcells : spsCells (M.set i ({ s with cs := s.cs.set q { c with op := o } }, .slice (some ⟨g2, 0, none⟩) m c2)) = spsCells M := by
    rw [← spsCells_like]
    congr 1
    apply List.ext_getElem?
    intro j
    rw [List.getElem?_set]
    split
    · rename_i e; subst e
      rw [if_pos (List.getElem?_eq_some_iff.1 hx).1, hx]
    · rfl
  refine ⟨hB.setCell (p := ⟨g2, _, none⟩) hg3 _, fun b hb' => (Below.heap_setCell W ⟨g2, q * 9, none⟩ _ b (by show b ≠ g2; omega)).trans (hE b hb'), by rw [List.length_set, hn], ⟨by rw [List.length_set, hcells]; exact hr, fun y hy => ?_⟩, apart_set hA hx, fun y hy => ?_, fun y hy => ?_, hv⟩
  · rcases at_set hy with rfl | ⟨i', hi, hy⟩
    · unfold OwnCps
      dsimp only
      rw [List.length_set, hm]
      exact st1
    · exact (hO.2 y (List.mem_of_getElem? hy)).kept' st2 (apart_ne hA hi hy hx)
  · rcases List.mem_or_eq_of_mem_set hy with h1 | rfl
    · exact h20 y h1
    · dsimp only
      rw [List.length_set]
      exact h20 _ (List.mem_of_getElem? hx)
  · rcases List.mem_or_eq_of_mem_set hy with h1 | rfl
    · exact hb y h1
    · have h2 := hb _ (List.mem_of_getElem? hx)
      exact h2
end
theorem OwnSps.far {W W7 : World} {B : Nat} {v : Value} {L : List (Sp × Value)} (h : OwnSps W7 B v L) (hE : ∀ b, B ≤ b → W.heap[b]? = W7.heap[b]?) : OwnSps W B v L := by
  refine ⟨⟨h.1.1, ?_⟩, fun x hx => ⟨(h.2 x hx).1, ?_⟩⟩
  · rcases h.1.2 with ⟨e, h0⟩ | ⟨g, cap, cur, e, hb1, hg, r⟩
    · exact .inl ⟨e, h0⟩
    · exact .inr ⟨g, cap, cur, e, hb1, (hE g hb1).trans hg, r⟩
  · rcases (h.2 x hx).2 with ⟨e, h0⟩ | ⟨g, cap, cur, e, hb1, hg, r⟩
    · exact .inl ⟨e, h0⟩
    · exact .inr ⟨g, cap, cur, e, hb1, (hE g hb1).trans hg, r⟩
/-- How far two patterns are the same. -/
def sameTo (L Q : List Sp) (h : Prop) [Decidable h] (i : Nat) : Bool := decide (h ∧ L.take i = Q.take i)
theorem sameTo_end {L Q : List Sp} {n k : Nat} {p q : Int} (hn : L.length = n) (hk : Q.length = k) : sameTo L Q (n = k ∧ p = q) n = decide (L = Q ∧ p = q) := by
  unfold sameTo
  refine decide_eq_decide.2 ⟨fun h => ?_, fun h => ?_⟩
  · obtain ⟨⟨h1, h2⟩, h3⟩ := h
    rw [List.take_of_length_le (by omega), List.take_of_length_le (by omega)] at h3
    exact ⟨h3, h2⟩
  · obtain ⟨rfl, h2⟩ := h
    exact ⟨⟨by omega, h2⟩, rfl⟩
theorem sameTo_no {L Q : List Sp} {n k : Nat} {p q : Int} (hn : L.length = n) (hk : Q.length = k) {i : Nat} (h : sameTo L Q (n = k ∧ p = q) i = false) : decide (L = Q ∧ p = q) = false := by
  unfold sameTo at h
  rw [decide_eq_false_iff_not] at h ⊢
  rintro ⟨rfl, h2⟩
  exact h ⟨⟨by omega, h2⟩, rfl⟩
theorem sameTo_succ {L Q : List Sp} {h : Prop} [Decidable h] {i : Nat} {s t : Sp} (h1 : L[i]? = some s) (h2 : Q[i]? = some t) (ht : sameTo L Q h i = true) : sameTo L Q h (i + 1) = decide (s = t) := by
  unfold sameTo at *
  rw [decide_eq_true_iff] at ht
  obtain ⟨ha, hb⟩ := ht
  refine decide_eq_decide.2 ⟨fun hh => ?_, fun hh => ⟨ha, ?_⟩⟩
  · have := hh.2
    rw [List.take_add_one, List.take_add_one, h1, h2, hb] at this
    simpa using this
  · rw [List.take_add_one, List.take_add_one, h1, h2, hb, hh]
/-- Two steps but for their comparisons. -/
def headEq (s t : Sp) : Bool := decide (s.neg = t.neg ∧ s.kind = t.kind ∧ s.min = t.min ∧ s.max = t.max ∧ s.strict = t.strict ∧ s.cs.length = t.cs.length)
def cmpsTo (s t : Sp) (k : Nat) : Bool := headEq s t && decide (s.cs.take k = t.cs.take k)
theorem cmpsTo_end {s t : Sp} {m : Nat} (hm : s.cs.length = m) : cmpsTo s t m = decide (s = t) := by
  unfold cmpsTo headEq
  rw [← Bool.decide_and]
  refine decide_eq_decide.2 ⟨fun h => ?_, fun h => ?_⟩
  · obtain ⟨⟨a1, a2, a3, a4, a5, a6⟩, h3⟩ := h
    rw [List.take_of_length_le (by omega), List.take_of_length_le (by omega)] at h3
    obtain ⟨b1, b2, b3, b4, b5, b6⟩ := s
    obtain ⟨c1, c2, c3, c4, c5, c6⟩ := t
    simp_all
  · subst h; simp
theorem cmpsTo_no {s t : Sp} {k : Nat} (h : cmpsTo s t k = false) : decide (s = t) = false := by
  rw [decide_eq_false_iff_not]
  rintro rfl
  unfold cmpsTo headEq at h
  simp at h
theorem cmpsTo_succ {s t : Sp} {k : Nat} {x y : Cp} (h1 : s.cs[k]? = some x) (h2 : t.cs[k]? = some y) (ht : cmpsTo s t k = true) : cmpsTo s t (k + 1) = decide (x = y) := by
  unfold cmpsTo at *
  rw [Bool.and_eq_true, decide_eq_true_iff] at ht
  obtain ⟨ha, hb⟩ := ht
  rw [ha, Bool.true_and]
  refine decide_eq_decide.2 ⟨fun hh => ?_, fun hh => ?_⟩
  · rw [List.take_add_one, List.take_add_one, h1, h2, hb] at hh
    simpa using hh
  · rw [List.take_add_one, List.take_add_one, h1, h2, hb, hh]
theorem cmpsTo_len {s t : Sp} {k : Nat} (h : cmpsTo s t k = true) : s.cs.length = t.cs.length := by
  unfold cmpsTo headEq at h
  simp at h
  exact h.1.2.2.2.2.2
end Go.Proofs.Ytmgkamljlgmmeaa.Tree
