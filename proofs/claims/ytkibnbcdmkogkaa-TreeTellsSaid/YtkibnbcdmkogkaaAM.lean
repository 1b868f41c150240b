/-
  A region that draws its order, carried out piece by piece: where one operation alone may come up, and where one of two may.
-/
import Derived.Test.YtkibnbcdmkogkaaAI
namespace Go.Proofs.Ytkibnbcdmkogkaa
open Go.ChangeShapes Go.WideShapes Go.ChangeAt Go.RowKit
set_option linter.unusedVariables false
set_option linter.unusedSimpArgs false
/-- The operations at these places. -/
def atL (ops : Array Oper) (is : List Nat) : List Oper := is.filterMap fun i => ops[i]?
/-- The first k have come up. -/
def firstL (n k : Nat) : Array Bool := ((List.range n).map fun i => decide (i < k)).toArray
/-- They come up one by one, in this order, from l to l2. -/
def chainS (md : Region.Mode) (ops : Array Oper) : List Nat → Array Bool → Array Bool → Bool
  | [], l, l2 => l.toList == l2.toList
  | i :: r, l, l2 => decide (i < ops.size) && (Region.ready md ops l == [i]) && chainS md ops r (l.setIfInBounds i true) l2
/-- The operations in this order, then K. -/
def wpSeg (P : Program) (ops : Array Oper) (Q : Exit → Act → World → Prop) (K : Act → World → Prop) : List Oper → Act → World → Prop
  | [], a, w => K a w
  | o :: r, a, w => if Region.wanted o (yielded ops a.tmps) then o.wp P a w (wpSeg P ops Q K r) Q ∨ (o.asks P a w ∧ LetsOut Q) else wpSeg P ops Q K r (a.put o.dst undef) w
section
variable {P : Program} {md : Region.Mode} {ops : Array Oper} {Q : Exit → Act → World → Prop}
theorem wpSeg_want {K0 : Act → World → Prop} {o : Oper} {rest : List Oper} {a : Act} {w : World} (hw : Region.wanted o (yielded ops a.tmps) = true)
    (h : ∀ K : Act → World → Prop, (∀ a w, wpSeg P ops Q K0 rest a w → K a w) → Oper.wp P o a w K Q) : wpSeg P ops Q K0 (o :: rest) a w := by
  unfold wpSeg
  rw [if_pos hw]
  exact .inl (h _ fun _ _ h => h)
theorem seg_op {i : Nat} {is : List Nat} {K0 : Act → World → Prop} {a : Act} {w : World} (hlt : i < ops.size) (h : wpSeg P ops Q K0 (atL ops (i :: is)) a w) : wpOp P ops Q i (wpSeg P ops Q K0 (atL ops is)) a w := by
  obtain ⟨o, h0⟩ : ∃ o, ops[i]? = some o := ⟨_, Array.getElem?_eq_getElem hlt⟩
  unfold wpOp
  rw [h0]
  rw [atL, List.filterMap_cons, h0] at h
  exact h
theorem any_seg' {fu : Nat} {l2 : Array Bool} : ∀ (is : List Nat) (l : Array Bool) (a : Act) (w : World), chainS md ops is l l2 = true → wpSeg P ops Q (wpAny P md ops Q fu l2) (atL ops is) a w → wpAny P md ops Q (is.length + fu) l a w
  | [], l, a, w, hc, h => by
    have e : l = l2 := Array.ext' (by simpa [chainS] using hc)
    subst e
    rw [show [].length + fu = fu from Nat.zero_add _]
    exact h
  | i :: is, l, a, w, hc, h => by
    rw [chainS, Bool.and_eq_true, Bool.and_eq_true] at hc
    obtain ⟨⟨hlt, hr⟩, hc⟩ := hc
    have hr' : Region.ready md ops l = [i] := by simpa using hr
    have hop := seg_op (by simpa using hlt) h
    rw [show (i :: is).length + fu = (is.length + fu) + 1 by simp; omega]
    refine ⟨fun h0 => by rw [hr'] at h0; (cases h0), fun j hj => ?_⟩
    rw [hr'] at hj
    obtain rfl := List.mem_singleton.1 hj
    exact wpOp_mono (fun a' w' h' => any_seg' is _ a' w' hc h') hop
theorem any_seg {fu f : Nat} {l2 : Array Bool} (is : List Nat) {l : Array Bool} {a : Act} {w : World} (hf : f = is.length + fu) (hc : chainS md ops is l l2 = true) (h : wpSeg P ops Q (wpAny P md ops Q fu l2) (atL ops is) a w) : wpAny P md ops Q f l a w := by
  subst hf; exact any_seg' is l a w hc h
/-- One of two may come up: the first one, or the other one and then the first ones. -/
theorem any_split {fu f1 f2 j g : Nat} {l l1 l2 : Array Bool} (is : List Nat) {a : Act} {w : World} (hr : Region.ready md ops l = [j, g]) (hg : decide (j < ops.size ∧ g < ops.size) = true)
    (hf1 : fu = f1 + 1) (hl1 : l.setIfInBounds j true = l1) (hA : wpSeg P ops Q (wpAny P md ops Q f1 l1) (atL ops [j]) a w)
    (hf2 : f1 = is.length + f2) (hc : chainS md ops is (l.setIfInBounds g true) l2 = true) (hB : wpSeg P ops Q (wpAny P md ops Q f2 l2) (atL ops (g :: is)) a w) : wpAny P md ops Q fu l a w := by
  have hg' : j < ops.size ∧ g < ops.size := of_decide_eq_true hg
  subst hf1
  refine ⟨fun h0 => by rw [hr] at h0; (cases h0), fun i hi => ?_⟩
  rw [hr] at hi
  rcases List.mem_cons.1 hi with rfl | hi
  · subst hl1
    exact seg_op hg'.1 hA
  · obtain rfl := List.mem_singleton.1 hi
    exact wpOp_mono (fun a' w' h' => any_seg is hf2 hc h') (seg_op hg'.2 hB)
theorem any_end {l : Array Bool} {a : Act} {w : World} (hr : Region.ready md ops l = []) (h : Q .normal a w) : wpAny P md ops Q 0 l a w := ⟨hr, h⟩
end
end Go.Proofs.Ytkibnbcdmkogkaa
