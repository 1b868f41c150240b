/-
  Several texts in one: RAS RAU RAV RAO RAW CP CQ.
-/
import Derived.Test.YtccmnngeibpcmaaGreatRAQ
import Derived.Test.YtccmnngeibpcmaaGreatRAJ
import Derived.Deep.Cut
import Derived.Deep.CutRange
import Derived.Deep.LoopGhost
import Derived.Deep.DeepCutAuto
import Derived.Deep.RegionHeld3
import Derived.Test.YtccmnngeibpcmaaGreatCH
import Derived.Test.YtccmnngeibpcmaaGreatCN
/- A pattern of one's own that is changed, beside another one that was made of it. -/
namespace Go.Proofs.YtccmnngeibpcmaaGreat.Tree
open Go.ChangeShapes Go.WideShapes Go.ChangeAt Go.RowKit
set_option linter.unusedVariables false
set_option linter.unusedSimpArgs false
attribute [local go_sem] Oper.semAt_some
/-- The law's copy while it is changed: it alone is. -/
def ChK (w3 W7 : World) (P n : Nat) (v : Value) (M : List (Sp × Value)) (W : World) : Prop :=
  Below w3.heap.size W7 W ∧ (∀ b, P ≤ b → W.heap[b]? = W7.heap[b]?) ∧ M.length = n ∧ OwnSps W w3.heap.size v M ∧ Apart M ∧ (∀ y ∈ M, y.1.cs.length ≤ 20) ∧ (∀ y ∈ M, ∀ r, y.2.ownBlock = some r → r < P) ∧ ∀ r, v.ownBlock = some r → r < P
theorem apart_set {M : List (Sp × Value)} (h : Apart M) {i : Nat} {s s' : Sp} {u : Value} (hx : M[i]? = some (s, u)) : Apart (M.set i (s', u)) := by
  have e : (M.set i (s', u)).map (·.2) = M.map (·.2) := by
    rw [List.map_set]
    apply List.ext_getElem?
    intro j
    rw [List.getElem?_set]
    split
    · rename_i e; subst e
      have hi := (List.getElem?_eq_some_iff.1 hx).1
      rw [List.length_map, if_pos hi, List.getElem?_map, hx]; rfl
    · rfl
  have h1 : (M.map (·.2)).Pairwise (fun x y : Value => ∀ r, x.ownBlock = some r → y.ownBlock ≠ some r) := List.pairwise_map.2 h
  rw [← e] at h1
  exact List.pairwise_map.1 h1
theorem cpsCells_set {cs : List Cp} {q : Nat} {c : Cp} (h : cs[q]? = some c) (o : Int) : (cpsCells cs).set (q * 9) (.int .u8 o) = cpsCells (cs.set q { c with op := o }) := by
  unfold cpsCells
  induction cs generalizing q with
  | nil => simp at h
  | cons x r ih =>
    cases q with
    | zero => simp at h; subst h; rfl
    | succ q =>
      rw [List.flatMap_cons, List.set_cons_succ, List.flatMap_cons, show (q + 1) * 9 = q * 9 + 9 by omega]
      rw [← ih (by simpa using h)]
      rfl
section
variable {w3 W7 : World} {P n : Nat} {v : Value} {M : List (Sp × Value)} {W : World}
theorem ChK.drew (h : ChK w3 W7 P n v M W) : ChK w3 W7 P n v M W.drew :=
  ⟨h.1.drew, h.2.1, h.2.2.1, h.2.2.2.1.later (Below.refl _ _).drew, h.2.2.2.2⟩
theorem ChK.lit (h : ChK w3 W7 P n v M W) (h0 : 0 < n) : ∃ g cap, v = .slice (some ⟨g, 0, none⟩) n cap ∧ w3.heap.size ≤ g ∧ g < P := by
  obtain ⟨hB, hE, hn, hO, hA, h20, hb, hv⟩ := h
  obtain ⟨g, cap, rfl, -, hg⟩ := own_lit hO hn h0
  exact ⟨g, cap, rfl, hg, hv g rfl⟩
theorem ChK.kind {g cap i : Nat} {s : Sp} {u : Value} (h : ChK w3 W7 P n (.slice (some ⟨g, 0, none⟩) n cap) M W) (hx : M[i]? = some (s, u)) (k : Int) :
    ChK w3 W7 P n (.slice (some ⟨g, 0, none⟩) n cap) (M.set i ({ s with kind := k }, u)) (W.setCell ⟨g, i * 6 + 1, none⟩ (.int .i64 k)) := by
  obtain ⟨hB, hE, hn, hO, hA, h20, hb, hv⟩ := h
  have hr := hO.1
  rw [hn] at hr
  have hg3 : w3.heap.size ≤ g := (World.ownsRow.lt hr g rfl).1
  have hgP := hv g rfl
  obtain ⟨st1, st2⟩ := hr.stored (i * 6 + 1) (.int .i64 k)
  rw [spsCells_set1 hx] at st1
  have hgb : ∀ r, some g = some r → ∃ o : Obj, W.heap[r]? = some o ∧ ∀ cs fz, o ≠ .cells cs 95 fz := fun r e => own_is hr 95 (by decide) r (by simpa [Value.ownBlock] using e)
  refine ⟨hB.setCell (p := ⟨g, _, none⟩) hg3 _, fun b hb' => (Below.heap_setCell W ⟨g, i * 6 + 1, none⟩ _ b (by show b ≠ g; omega)).trans (hE b hb'), by rw [List.length_set, hn], ⟨by rw [List.length_set, hn]; exact st1, fun y hy => ?_⟩, apart_set hA hx, fun y hy => ?_, fun y hy => ?_, hv⟩
  · rcases List.mem_or_eq_of_mem_set hy with h1 | rfl
    · exact (hO.2 y h1).kept st2 hgb
    · exact (hO.2 _ (List.mem_of_getElem? hx)).kept st2 hgb
  · rcases List.mem_or_eq_of_mem_set hy with h1 | rfl
    · exact h20 y h1
    · have h2 := h20 _ (List.mem_of_getElem? hx)
      exact h2
  · rcases List.mem_or_eq_of_mem_set hy with h1 | rfl
    · exact hb y h1
    · have h2 := hb _ (List.mem_of_getElem? hx)
      exact h2
theorem ChK.op {i q g2 m c2 : Nat} {s : Sp} {c : Cp} (h : ChK w3 W7 P n v M W) (hx : M[i]? = some (s, .slice (some ⟨g2, 0, none⟩) m c2)) (hq : s.cs[q]? = some c) (o : Int) :
    ChK w3 W7 P n v (M.set i ({ s with cs := s.cs.set q { c with op := o } }, .slice (some ⟨g2, 0, none⟩) m c2)) (W.setCell ⟨g2, q * 9, none⟩ (.int .u8 o)) := by
  obtain ⟨hB, hE, hn, hO, hA, h20, hb, hv⟩ := h
  have hou : W.ownsRow w3.heap.size 95 9 (.slice (some ⟨g2, 0, none⟩) m c2) s.cs.length (cpsCells s.cs) := hO.2 _ (List.mem_of_getElem? hx)
  have hm : s.cs.length = m := by
    rcases hou.2 with ⟨e, _⟩ | ⟨g, cap, cur, e, _⟩
    · cases e
    · cases e; rfl
  rw [hm] at hou
  have hg3 : w3.heap.size ≤ g2 := (World.ownsRow.lt hou g2 rfl).1
  have hgP := hb _ (List.mem_of_getElem? hx) g2 rfl
  obtain ⟨st1, st2⟩ := hou.stored (q * 9) (.int .u8 o)
  rw [cpsCells_set hq] at st1
  have hgb : ∀ r, some g2 = some r → ∃ o : Obj, W.heap[r]? = some o ∧ ∀ cs fz, o ≠ .cells cs 45 fz := fun r e => own_is hou 45 (by decide) r (by simpa [Value.ownBlock] using e)
  have hr := row_kept hO.1 st2 hgb
  have hcells : spsCells (M.set i ({ s with cs := s.cs.set q { c with op := o } }, .slice (some ⟨g2, 0, none⟩) m c2)) = spsCells M := by
    rw [← spsCells_like]
    congr 1
    apply List.ext_getElem?
    intro j
    rw [List.getElem?_set]
    split
    · rename_i e; subst e
      rw [if_pos (List.getElem?_eq_some_iff.1 hx).1, hx]
    · rfl
  refine ⟨hB.setCell (p := ⟨g2, _, none⟩) hg3 _, fun b hb' => (Below.heap_setCell W ⟨g2, q * 9, none⟩ _ b (by show b ≠ g2; omega)).trans (hE b hb'), by rw [List.length_set, hn], ⟨by rw [List.length_set, hcells]; exact hr, fun y hy => ?_⟩, apart_set hA hx, fun y hy => ?_, fun y hy => ?_, hv⟩
  · rcases at_set hy with rfl | ⟨i', hi, hy⟩
    · unfold OwnCps
      dsimp only
      rw [List.length_set, hm]
      exact st1
    · exact (hO.2 y (List.mem_of_getElem? hy)).kept' st2 (apart_ne hA hi hy hx)
  · rcases List.mem_or_eq_of_mem_set hy with h1 | rfl
    · exact h20 y h1
    · dsimp only
      rw [List.length_set]
      exact h20 _ (List.mem_of_getElem? hx)
  · rcases List.mem_or_eq_of_mem_set hy with h1 | rfl
    · exact hb y h1
    · have h2 := hb _ (List.mem_of_getElem? hx)
      exact h2
end
theorem OwnSps.far {W W7 : World} {B : Nat} {v : Value} {L : List (Sp × Value)} (h : OwnSps W7 B v L) (hE : ∀ b, B ≤ b → W.heap[b]? = W7.heap[b]?) : OwnSps W B v L := by
  refine ⟨⟨h.1.1, ?_⟩, fun x hx => ⟨(h.2 x hx).1, ?_⟩⟩
  · rcases h.1.2 with ⟨e, h0⟩ | ⟨g, cap, cur, e, hb1, hg, r⟩
    · exact .inl ⟨e, h0⟩
    · exact .inr ⟨g, cap, cur, e, hb1, (hE g hb1).trans hg, r⟩
  · rcases (h.2 x hx).2 with ⟨e, h0⟩ | ⟨g, cap, cur, e, hb1, hg, r⟩
    · exact .inl ⟨e, h0⟩
    · exact .inr ⟨g, cap, cur, e, hb1, (hE g hb1).trans hg, r⟩
/-- How far two patterns are the same. -/
def sameTo (L Q : List Sp) (h : Prop) [Decidable h] (i : Nat) : Bool := decide (h ∧ L.take i = Q.take i)
theorem sameTo_end {L Q : List Sp} {n k : Nat} {p q : Int} (hn : L.length = n) (hk : Q.length = k) : sameTo L Q (n = k ∧ p = q) n = decide (L = Q ∧ p = q) := by
  unfold sameTo
  refine decide_eq_decide.2 ⟨fun h => ?_, fun h => ?_⟩
  · obtain ⟨⟨h1, h2⟩, h3⟩ := h
    rw [List.take_of_length_le (by omega), List.take_of_length_le (by omega)] at h3
    exact ⟨h3, h2⟩
  · obtain ⟨rfl, h2⟩ := h
    exact ⟨⟨by omega, h2⟩, rfl⟩
theorem sameTo_no {L Q : List Sp} {n k : Nat} {p q : Int} (hn : L.length = n) (hk : Q.length = k) {i : Nat} (h : sameTo L Q (n = k ∧ p = q) i = false) : decide (L = Q ∧ p = q) = false := by
  unfold sameTo at h
  rw [decide_eq_false_iff_not] at h ⊢
  rintro ⟨rfl, h2⟩
  exact h ⟨⟨by omega, h2⟩, rfl⟩
theorem sameTo_succ {L Q : List Sp} {h : Prop} [Decidable h] {i : Nat} {s t : Sp} (h1 : L[i]? = some s) (h2 : Q[i]? = some t) (ht : sameTo L Q h i = true) : sameTo L Q h (i + 1) = decide (s = t) := by
  unfold sameTo at *
  rw [decide_eq_true_iff] at ht
  obtain ⟨ha, hb⟩ := ht
  refine decide_eq_decide.2 ⟨fun hh => ?_, fun hh => ⟨ha, ?_⟩⟩
  · have := hh.2
    rw [List.take_add_one, List.take_add_one, h1, h2, hb] at this
    simpa using this
  · rw [List.take_add_one, List.take_add_one, h1, h2, hb, hh]
/-- Two steps but for their comparisons. -/
def headEq (s t : Sp) : Bool := decide (s.neg = t.neg ∧ s.kind = t.kind ∧ s.min = t.min ∧ s.max = t.max ∧ s.strict = t.strict ∧ s.cs.length = t.cs.length)
def cmpsTo (s t : Sp) (k : Nat) : Bool := headEq s t && decide (s.cs.take k = t.cs.take k)
theorem cmpsTo_end {s t : Sp} {m : Nat} (hm : s.cs.length = m) : cmpsTo s t m = decide (s = t) := by
  unfold cmpsTo headEq
  rw [← Bool.decide_and]
  refine decide_eq_decide.2 ⟨fun h => ?_, fun h => ?_⟩
  · obtain ⟨⟨a1, a2, a3, a4, a5, a6⟩, h3⟩ := h
    rw [List.take_of_length_le (by omega), List.take_of_length_le (by omega)] at h3
    obtain ⟨b1, b2, b3, b4, b5, b6⟩ := s
    obtain ⟨c1, c2, c3, c4, c5, c6⟩ := t
    simp_all
  · subst h; simp
theorem cmpsTo_no {s t : Sp} {k : Nat} (h : cmpsTo s t k = false) : decide (s = t) = false := by
  rw [decide_eq_false_iff_not]
  rintro rfl
  unfold cmpsTo headEq at h
  simp at h
theorem cmpsTo_succ {s t : Sp} {k : Nat} {x y : Cp} (h1 : s.cs[k]? = some x) (h2 : t.cs[k]? = some y) (ht : cmpsTo s t k = true) : cmpsTo s t (k + 1) = decide (x = y) := by
  unfold cmpsTo at *
  rw [Bool.and_eq_true, decide_eq_true_iff] at ht
  obtain ⟨ha, hb⟩ := ht
  rw [ha, Bool.true_and]
  refine decide_eq_decide.2 ⟨fun hh => ?_, fun hh => ?_⟩
  · rw [List.take_add_one, List.take_add_one, h1, h2, hb] at hh
    simpa using hh
  · rw [List.take_add_one, List.take_add_one, h1, h2, hb, hh]
theorem cmpsTo_len {s t : Sp} {k : Nat} (h : cmpsTo s t k = true) : s.cs.length = t.cs.length := by
  unfold cmpsTo headEq at h
  simp at h
  exact h.1.2.2.2.2.2
end Go.Proofs.YtccmnngeibpcmaaGreat.Tree
/- Contracts of the document's own Names, Positive, with. -/
namespace Go.Proofs.YtccmnngeibpcmaaGreat.Tree
open Go.ChangeShapes Go.WideShapes Go.ChangeAt Go.RowKit
set_option linter.unusedVariables false
set_option linter.unusedSimpArgs false
attribute [local go_sem] Oper.semAt_some
theorem row_lit (w W : World) (l : List Int) (hb : w.heap.size ≤ W.heap.size) (hl : l.length ≤ 1000) : (W.alloc (.cells (ints l).toArray 3)).ownsRow w.heap.size 3 1 (.slice (some ⟨W.heap.size, 0, none⟩) l.length l.length) l.length (ints l) := by
  have := World.ownsRow_lit (base := w.heap.size) (e := 3) (size := 1) W (ints l).toArray l.length hb (by unfold maxLen; omega) (by simp [ints])
  simpa using this
set_option maxRecDepth 100000 in
set_option maxHeartbeats 1000000 in
theorem refNames_any (t : Tm) (w : World) :
    Calls Tryz.prog 107 #[tmV t] w fun e w' => ∃ v, e = .returned v ∧ w'.ownsRow w.heap.size 3 1 v (namesT t).length (ints (namesT t)) ∧ Below w.heap.size w w' := by
  have hb := TmBox.new w t
  obtain ⟨z0, z1, z2, z3⟩ := hb.c
  have hk := kept_new w (.cells #[.int .u8 t.k, .int .i64 t.n, .int .i64 t.s, .int .i64 t.r] 93)
  have hs : w.heap.size ≤ (w.alloc (.cells #[.int .u8 t.k, .int .i64 t.n, .int .i64 t.s, .int .i64 t.r] 93)).heap.size := by simp
  generalize hW : (w.alloc (.cells #[.int .u8 t.k, .int .i64 t.n, .int .i64 t.s, .int .i64 t.r] 93)) = W at *
  have r2 := row_lit w W [t.s, t.r] hs (by simp)
  have r1 := row_lit w W [t.s] hs (by simp)
  have k2 := kept_alloc hk (.cells (ints [t.s, t.r]).toArray 3)
  have k1 := kept_alloc hk (.cells (ints [t.s]).toArray 3)
  replace r1 := Lib.hid r1
  replace r2 := Lib.hid r2
  by_cases h0 : t.k = 0
  · have hn : namesT t = [] := by unfold namesT; rw [if_pos h0]
    have e0 : (t.k == 0) = true := by simp [h0]
    rw [hn]
    clear h0 hn
    go_enter Tryz.func107, Tryz.ntmps107
    go_wp2_with fail
    go_ret
    exact ⟨_, rfl, World.ownsRow_nil _ _ _ _, hk⟩
  have e0 : (t.k == 0) = false := by simp [h0]
  by_cases h5 : t.k = 5
  · have hn : namesT t = [t.s, t.r] := by unfold namesT; rw [if_neg h0, if_pos (.inl h5)]
    have e5 : (t.k == 5) = true := by simp [h5]
    rw [hn]
    clear h0 hn h5
    go_enter Tryz.func107, Tryz.ntmps107
    go_wp2_with fail
    go_ret
    exact ⟨_, rfl, r2.out, k2⟩
  have e5 : (t.k == 5) = false := by simp [h5]
  by_cases h6 : t.k = 6
  · have hn : namesT t = [t.s, t.r] := by unfold namesT; rw [if_neg h0, if_pos (.inr h6)]
    have e6 : (t.k == 6) = true := by simp [h6]
    rw [hn]
    clear h0 hn h5 h6
    go_enter Tryz.func107, Tryz.ntmps107
    go_wp2_with fail
    go_ret
    exact ⟨_, rfl, r2.out, k2⟩
  have hn : namesT t = [t.s] := by unfold namesT; rw [if_neg h0, if_neg (by simp [h5, h6])]
  have e6 : (t.k == 6) = false := by simp [h6]
  rw [hn]
  clear h0 hn h5 h6
  go_enter Tryz.func107, Tryz.ntmps107
  go_wp2_with fail
  go_ret
  exact ⟨_, rfl, r1.out, k1⟩
theorem posF_snoc' (ss : List Sp) (s : Sp) (i : Nat) : posF (ss ++ [s]) i = posF ss i ++ (if s.neg then [] else [((i + ss.length : Nat) : Int)]) := by
  induction ss generalizing i with
  | nil => cases h : s.neg <;> simp [posF, h]
  | cons x r ih =>
    simp only [List.cons_append, posF, List.length_cons]
    rw [ih, show i + 1 + r.length = i + (r.length + 1) by omega]
    split <;> simp
theorem pos_take {ss : List Sp} {i : Nat} {s : Sp} (h : ss[i]? = some s) : posP (ss.take (i + 1)) = posP (ss.take i) ++ (if s.neg then [] else [(i : Int)]) := by
  have hl := (List.getElem?_eq_some_iff.1 h).1
  rw [List.take_add_one, h]
  unfold posP
  rw [show (some s).toList = [s] from rfl, posF_snoc', List.length_take, Nat.min_eq_left (by omega), Nat.zero_add]
theorem posF_len' (ss : List Sp) (i : Nat) : (posF ss i).length ≤ ss.length := by
  induction ss generalizing i with
  | nil => simp [posF]
  | cons s r ih =>
    have := ih (i + 1)
    simp only [posF, List.length_cons]
    split <;> simp <;> omega
/-- Behind i steps. -/
def RpIn (w : World) (L : List (Sp × Value)) (i : Nat) (v : Value) (W : World) : Prop :=
  W.ownsRow w.heap.size 3 1 v (posP ((L.map (·.1)).take i)).length (ints (posP ((L.map (·.1)).take i))) ∧ Below w.heap.size w W
end Go.Proofs.YtccmnngeibpcmaaGreat.Tree
/- Contract of the document's own with. -/
namespace Go.Proofs.YtccmnngeibpcmaaGreat.Tree
open Go.ChangeShapes Go.WideShapes Go.ChangeAt Go.RowKit
set_option linter.unusedVariables false
set_option linter.unusedSimpArgs false
attribute [local go_sem] Oper.semAt_some
/-- A number put into a rising row. -/
def ins (l : List Int) (n : Int) : List Int := l.filter (fun y => decide (y < n)) ++ n :: l.filter (fun y => decide (n < y))
def withL (l : List Int) (n : Int) : List Int := if n ∈ l then l else ins l n
def wTo (l : List Int) (n : Int) (b : Bool) (i : Nat) : List Int := if b then ins (l.take i) n else l.take i
def ptTo (l : List Int) (n : Int) (i : Nat) : Bool := (l.take i).any fun y => decide (n < y)
theorem ins_mem (l : List Int) (n x : Int) (h : n ∉ l) : x ∈ ins l n ↔ x ∈ l ∨ x = n := by
  unfold ins
  simp only [List.mem_append, List.mem_filter, List.mem_cons, decide_eq_true_eq]
  constructor
  · rintro (⟨a, _⟩ | rfl | ⟨a, _⟩)
    · exact .inl a
    · exact .inr rfl
    · exact .inl a
  · rintro (a | rfl)
    · rcases Int.lt_trichotomy x n with e | e | e
      · exact .inl ⟨a, e⟩
      · exact .inr (.inl e)
      · exact .inr (.inr ⟨a, e⟩)
    · exact .inr (.inl rfl)
theorem ins_rising {l : List Int} {n : Int} (h : Rising l) : Rising (ins l n) := by
  unfold Rising ins at *
  rw [List.pairwise_append]
  refine ⟨h.filter _, ?_, ?_⟩
  · rw [List.pairwise_cons]
    refine ⟨fun y hy => ?_, h.filter _⟩
    have := (List.mem_filter.1 hy).2
    simpa using this
  · intro x hx y hy
    have h1 := (List.mem_filter.1 hx).2
    simp at h1
    rcases List.mem_cons.1 hy with rfl | hy
    · exact h1
    · have h2 := (List.mem_filter.1 hy).2
      simp at h2
      omega
theorem withL_rising {l : List Int} {n : Int} (h : Rising l) : Rising (withL l n) := by
  unfold withL; split
  · exact h
  · exact ins_rising h
theorem withL_mem (l : List Int) (n x : Int) : x ∈ withL l n ↔ x ∈ l ∨ x = n := by
  unfold withL; split
  · rename_i hn
    constructor
    · exact .inl
    · rintro (a | rfl)
      · exact a
      · exact hn
  · rename_i hn
    exact ins_mem l n x hn
theorem filter_lt {l : List Int} {n : Int} (h1 : n ∉ l) (h2 : ∀ y ∈ l, ¬ n < y) : l.filter (fun y => decide (y < n)) = l ∧ l.filter (fun y => decide (n < y)) = [] := by
  constructor
  · rw [List.filter_eq_self]
    intro y hy
    have := h2 y hy
    have : y ≠ n := fun e => h1 (e ▸ hy)
    simp; omega
  · rw [List.filter_eq_nil_iff]
    intro y hy
    simpa using h2 y hy
theorem ptTo_no {l : List Int} {n : Int} {i : Nat} (h : ptTo l n i = false) : ∀ y ∈ l.take i, ¬ n < y := by
  unfold ptTo at h
  rw [List.any_eq_false] at h
  intro y hy
  simpa using h y hy
theorem ptTo_succ {l : List Int} {n y : Int} {i : Nat} (hy : l[i]? = some y) : ptTo l n (i + 1) = (ptTo l n i || decide (n < y)) := by
  unfold ptTo
  rw [List.take_add_one, hy, List.any_append]
  simp
theorem take_not {l : List Int} {n y : Int} {i : Nat} (hy : l[i]? = some y) (h : n ∉ l.take i) (hne : ¬ y = n) : n ∉ l.take (i + 1) := by
  rw [List.take_add_one, hy]
  intro hm
  rcases List.mem_append.1 hm with hm | hm
  · exact h hm
  · exact hne (by simpa using hm : n = y).symm
theorem wA {l : List Int} {n y : Int} {i : Nat} (hy : l[i]? = some y) (h : n ∉ l.take i) (hp : ptTo l n i = false) (hg : n < y) : (wTo l n false i ++ [n]) ++ [y] = wTo l n true (i + 1) := by
  obtain ⟨f1, f2⟩ := filter_lt h (ptTo_no hp)
  have hng : ¬ y < n := by omega
  unfold wTo ins
  rw [List.take_add_one, hy]
  simp only [if_true, Bool.false_eq_true, if_false, List.filter_append, f1, f2, Option.toList_some, List.filter_cons, List.filter_nil, decide_eq_true hg, decide_eq_false hng]
  simp
theorem wB {l : List Int} {n y : Int} {i : Nat} (hl : Rising l) (hy : l[i]? = some y) (hp : ptTo l n i = true) : wTo l n true i ++ [y] = wTo l n true (i + 1) ∧ n < y := by
  have hg : n < y := by
    unfold ptTo at hp
    obtain ⟨z, hz, hz2⟩ := List.any_eq_true.1 hp
    obtain ⟨j, hj⟩ := List.mem_iff_getElem?.1 hz
    have hjl := (List.getElem?_eq_some_iff.1 hj).1
    rw [List.length_take] at hjl
    rw [List.getElem?_take_of_lt (by omega)] at hj
    obtain ⟨h1, e1⟩ := List.getElem?_eq_some_iff.1 hj
    obtain ⟨h2, e2⟩ := List.getElem?_eq_some_iff.1 hy
    have := List.pairwise_iff_getElem.1 hl j i h1 h2 (by omega)
    rw [e1, e2] at this
    have hz3 : n < z := by simpa using hz2
    omega
  have hng : ¬ y < n := by omega
  refine ⟨?_, hg⟩
  unfold wTo ins
  rw [List.take_add_one, hy]
  simp only [if_true, List.filter_append, Option.toList_some, List.filter_cons, List.filter_nil, decide_eq_true hg, decide_eq_false hng]
  simp
theorem wC {l : List Int} {n y : Int} {i : Nat} (hy : l[i]? = some y) : wTo l n false i ++ [y] = wTo l n false (i + 1) := by
  unfold wTo
  rw [List.take_add_one, hy]; rfl
theorem wEnd {l : List Int} {n : Int} {m : Nat} (hm : l.length = m) (h : n ∉ l.take m) (b : Bool) (hp : ptTo l n m = b) : (if b then wTo l n b m else wTo l n b m ++ [n]) = withL l n := by
  have e : l.take m = l := List.take_of_length_le (by omega)
  rw [e] at h
  unfold withL wTo
  rw [if_neg h, e]
  cases b
  · have h2 := ptTo_no hp
    rw [e] at h2
    obtain ⟨f1, f2⟩ := filter_lt h h2
    simp [ins, f1, f2]
  · rfl
theorem wTo_len (l : List Int) (n : Int) (b : Bool) (i : Nat) : (wTo l n b i).length ≤ l.length + 1 := by
  have hi : (l.take i).length ≤ l.length := by rw [List.length_take]; omega
  unfold wTo
  split
  · unfold ins
    have : ∀ k : List Int, (k.filter (fun y => decide (y < n))).length + (k.filter (fun y => decide (n < y))).length ≤ k.length := by
      intro k
      induction k with
      | nil => simp
      | cons y r ih =>
        rcases Int.lt_trichotomy y n with e | e | e
        · have e2 : ¬ n < y := by omega
          simp [List.filter_cons, e, e2]; omega
        · have e1 : ¬ y < n := by omega
          have e2 : ¬ n < y := by omega
          simp [List.filter_cons, e1, e2]; omega
        · have e1 : ¬ y < n := by omega
          simp [List.filter_cons, e1, e]; omega
    have := this (l.take i)
    simp only [List.length_append, List.length_cons]
    omega
  · omega
/-- A number more in a row of one's own. -/
theorem row_more {w W w1 : World} {v v' : Value} {l : List Int} {n : Int} {tmp : Obj} (hr : W.ownsRow w.heap.size 3 1 v l.length (ints l)) (hB : Below w.heap.size w W)
    (hg : (W.alloc tmp).grownBy w1 v.ownBlock) (ho : w1.ownsRow w.heap.size 3 1 v' (l.length + 1) (ints l ++ [.int .i64 n])) : w1.ownsRow w.heap.size 3 1 v' (l ++ [n]).length (ints (l ++ [n])) ∧ Below w.heap.size w w1 := by
  refine ⟨by simpa using ho, Below.grown (hB.trans ((kept_new W tmp).mono hB.size)) hg (by rw [World.size_alloc]; exact Nat.le_succ_of_le hB.size) (fun j ej => (World.ownsRow.lt hr j ej).1)⟩
set_option maxRecDepth 100000 in
set_option maxHeartbeats 1000000 in
theorem with_L (a : Option Addr) (m c : Nat) (l : List Int) (n : Int) (w : World) (hm : l.length = m) (hm1 : m ≤ 1000) (hl : Rising l) (h : IntsAt w (.slice a m c) l) :
    Calls Tryz.prog 108 #[.slice a m c, .int .i64 n] w fun e w' => ∃ v, e = .returned v ∧ IntsAt w' v (withL l n) ∧ Below w.heap.size w w' := by
  go_enter Tryz.func108, Tryz.ntmps108
  go_wp2_with fail
  replace hm := Lib.hid hm
  replace hl := Lib.hid hl
  replace h := Lib.hid h
  obtain ⟨i0, hi, hz0, hz1, hz2⟩ := info_parts Tryz.info3
  replace hi := Lib.hid hi
  go_loopw [5, 6, 7] (fun o b t wt => ∃ i : Nat, i ≤ m ∧ t = .int .i64 i ∧ b = .bool (ptTo l n i) ∧ Hid (n ∉ l.take i) ∧ Hid (wt.ownsRow w.heap.size 3 1 o (wTo l n (ptTo l n i) i).length (ints (wTo l n (ptTo l n i) i))) ∧ Hid (Below w.heap.size w wt)) (fun _ _ t _ => m - (intOf t).toNat)
  case atStart => exact ⟨0, Nat.zero_le _, rfl, by simp [ptTo], by show _ ∉ _; simp, (by show World.ownsRow _ _ _ _ _ _ _; simpa [ptTo, wTo] using World.ownsRow_nil _ _ _ _), Below.refl _ _⟩
  case round =>
    obtain ⟨i, hi', rfl, rfl, hno, hr, hB⟩ := hrel
    obtain ⟨B, hBp⟩ : ∃ B, ptTo l n i = B := ⟨_, rfl⟩
    rw [hBp] at hr ⊢
    have hlen := wTo_len l n B i
    rw [hm.out] at hlen
    obtain ⟨O, hO⟩ : ∃ O, wTo l n B i = O := ⟨_, rfl⟩
    rw [hO] at hr hlen
    have hBs := hB.out.size
    have hb63 : O.length + 1 ≤ maxLen := by unfold maxLen; omega
    have hb8 : (O.length + 1) * 8 ≤ 140737488355328 := by omega
    have hIr := Lib.hid (h.out.later hB.out)
    by_cases hlt : i < m
    · have hlti : (i : Int) < m := by omega
      obtain ⟨y, hy⟩ : ∃ y, l[i]? = some y := ⟨_, List.getElem?_eq_getElem (by rw [hm.out]; exact hlt)⟩
      obtain ⟨b1, o1, rfl, z0⟩ := hIr.out.at hm.out hy
      by_cases hyn : y = n
      · have e1 : (y == n) = true := by simp [hyn]
        have hin : withL l n = l := by unfold withL; rw [if_pos (by rw [← hyn]; exact List.mem_of_getElem? hy)]
        clear hy hyn hBp hO
        go_wp2_with fail
        go_ret
        exact ⟨_, rfl, by rw [hin]; exact hIr.out, hB.out⟩
      · have e1 : (y == n) = false := by simp [hyn]
        have hno2 := Lib.hid (take_not hy hno.out hyn)
        have hps := Lib.hid (ptTo_succ (n := n) hy)
        rw [hBp] at hps
        by_cases hg : n < y
        · have eg : decide (n < y) = true := decide_eq_true hg
          cases B
          · have hst := Lib.hid (wA hy hno.out hBp hg)
            rw [hO] at hst
            have hf : Hid (∀ {v' w1 tmp}, (wr.alloc tmp).grownBy w1 u5.ownBlock → w1.ownsRow w.heap.size 3 1 v' (O.length + 1) (ints O ++ [.int .i64 n]) → w1.ownsRow w.heap.size 3 1 v' (O ++ [n]).length (ints (O ++ [n])) ∧ Below w.heap.size w w1) := fun hg ho => row_more hr.out hB.out hg ho
            have hb63' : (O ++ [n]).length + 1 ≤ maxLen := by rw [List.length_append]; unfold maxLen; simp; omega
            have hb8' : ((O ++ [n]).length + 1) * 8 ≤ 140737488355328 := by rw [List.length_append]; simp; omega
            have K9 : Hid (∀ X, Below w.heap.size w X → X.cell? ⟨b1, o1 + i, none⟩ = some (.int .i64 y)) := by
              show ∀ _, _
              intro X hX
              obtain ⟨b2, o2, e, z⟩ := (h.out.later hX).at hm.out hy
              cases e
              exact z
            clear hy hO hg hBp
            go_wp2_with (first
              | ((at_builtin; refine wpList_append_cells rfl (.tmp 31) (.tmp 33) 28 rfl w.heap.size 3 i0 _ 1 8 Tryz.underlying28 hi.out hz0 hz1 hz2 rfl (by decide) u5 O.length (ints O) rfl (World.ownsRow.alloc hr.out _) (some ⟨wr.heap.size, 0, none⟩) 1 1 [.int .i64 n] rfl rfl (cells_newA wr [.int .i64 n] 3) (by simp [Value.oneCell']) hb63 hb8 (by rw [World.size_alloc]; exact Nat.le_succ_of_le hBs) ?_; intro v1 w1 hown1 hgrow1); obtain ⟨hr1, hB1⟩ := hf.out hgrow1 hown1; have hs1 := hB1.size; have z1 := K9.out w1 hB1; clear hgrow1 hown1)
              | (at_builtin; refine wpList_append_cells rfl (.tmp 35) (.tmp 40) 28 rfl w.heap.size 3 i0 _ 1 8 Tryz.underlying28 hi.out hz0 hz1 hz2 rfl (by decide) v1 (O ++ [n]).length (ints (O ++ [n])) rfl (World.ownsRow.alloc hr1 _) (some ⟨w1.heap.size, 0, none⟩) 1 1 [.int .i64 y] rfl rfl (cells_newA w1 [.int .i64 y] 3) (by simp [Value.oneCell']) hb63' hb8' (by rw [World.size_alloc]; exact Nat.le_succ_of_le hs1) ?_; intro v2 w2 hown2 hgrow2)
              | fail)
            obtain ⟨hr2, hB2⟩ := row_more hr1 hB1 hgrow2 hown2
            refine ⟨⟨i + 1, by omega, by go_num, by rw [hps.out, eg]; rfl, hno2.out, ?_, hB2⟩, by simp [intOf]; omega⟩
            show World.ownsRow _ _ _ _ _ _ _
            rw [hps.out, eg, Bool.or_true, ← hst.out]
            exact hr2
          · obtain ⟨hst, -⟩ := wB hl.out hy hBp
            rw [hO] at hst
            replace hst := Lib.hid hst
            clear hy hO hg hBp
            go_wp2_with (first
              | (at_builtin; refine wpList_append_cells rfl (.tmp 35) (.tmp 40) 28 rfl w.heap.size 3 i0 _ 1 8 Tryz.underlying28 hi.out hz0 hz1 hz2 rfl (by decide) u5 O.length (ints O) rfl (World.ownsRow.alloc hr.out _) (some ⟨wr.heap.size, 0, none⟩) 1 1 [.int .i64 y] rfl rfl (cells_newA wr [.int .i64 y] 3) (by simp [Value.oneCell']) hb63 hb8 (by rw [World.size_alloc]; exact Nat.le_succ_of_le hBs) ?_; intro v1 w1 hown1 hgrow1)
              | fail)
            obtain ⟨hr1, hB1⟩ := row_more hr.out hB.out hgrow1 hown1
            refine ⟨⟨i + 1, by omega, by go_num, by rw [hps.out, eg]; rfl, hno2.out, ?_, hB1⟩, by simp [intOf]; omega⟩
            show World.ownsRow _ _ _ _ _ _ _
            rw [hps.out, eg, Bool.or_true, ← hst.out]
            exact hr1
        · have eg : decide (n < y) = false := decide_eq_false hg
          have hBf : B = false := by
            cases B
            · rfl
            · exact absurd (wB hl.out hy hBp).2 hg
          subst hBf
          have hst := Lib.hid (wC (n := n) hy)
          rw [hO] at hst
          clear hy hO hg hBp
          go_wp2_with (first
            | (at_builtin; refine wpList_append_cells rfl (.tmp 35) (.tmp 40) 28 rfl w.heap.size 3 i0 _ 1 8 Tryz.underlying28 hi.out hz0 hz1 hz2 rfl (by decide) u5 O.length (ints O) rfl (World.ownsRow.alloc hr.out _) (some ⟨wr.heap.size, 0, none⟩) 1 1 [.int .i64 y] rfl rfl (cells_newA wr [.int .i64 y] 3) (by simp [Value.oneCell']) hb63 hb8 (by rw [World.size_alloc]; exact Nat.le_succ_of_le hBs) ?_; intro v1 w1 hown1 hgrow1)
            | fail)
          obtain ⟨hr1, hB1⟩ := row_more hr.out hB.out hgrow1 hown1
          refine ⟨⟨i + 1, by omega, by go_num, by rw [hps.out, eg]; rfl, hno2.out, ?_, hB1⟩, by simp [intOf]; omega⟩
          show World.ownsRow _ _ _ _ _ _ _
          rw [hps.out, eg, Bool.or_false, ← hst.out]
          exact hr1
    · obtain rfl : i = m := by omega
      have hlti : ¬ (i : Int) < i := by omega
      have hend := Lib.hid (wEnd hm.out hno.out B hBp)
      rw [hO] at hend
      clear hBp hO
      cases B
      · go_wp2_with (first
          | (at_builtin; refine wpList_append_cells rfl (.tmp 44) (.tmp 46) 28 rfl w.heap.size 3 i0 _ 1 8 Tryz.underlying28 hi.out hz0 hz1 hz2 rfl (by decide) u5 O.length (ints O) rfl (World.ownsRow.alloc hr.out _) (some ⟨wr.heap.size, 0, none⟩) 1 1 [.int .i64 n] rfl rfl (cells_newA wr [.int .i64 n] 3) (by simp [Value.oneCell']) hb63 hb8 (by rw [World.size_alloc]; exact Nat.le_succ_of_le hBs) ?_; intro v1 w1 hown1 hgrow1)
          | fail)
        obtain ⟨hr1, hB1⟩ := row_more hr.out hB.out hgrow1 hown1
        go_ret
        exact ⟨_, rfl, by rw [← hend.out]; exact IntsAt.of_row hr1, hB1⟩
      · go_wp2_with fail
        go_ret
        exact ⟨_, rfl, by rw [← hend.out]; exact IntsAt.of_row hr.out, hB.out⟩
end Go.Proofs.YtccmnngeibpcmaaGreat.Tree
/- TreeAsked's walk. -/
namespace Go.Proofs.YtccmnngeibpcmaaGreat.Tree
open Go.ChangeShapes Go.WideShapes Go.ChangeAt Go.RowKit
set_option linter.unusedVariables false
set_option linter.unusedSimpArgs false
attribute [local go_sem] Oper.semAt_some
theorem mem_take_succ {l : List Int} {i : Nat} {y x : Int} (h : l[i]? = some y) : decide (x ∈ l.take (i + 1)) = (decide (x ∈ l.take i) || (y == x)) := by
  rw [List.take_add_one, h]
  by_cases h1 : x ∈ l.take i
  · simp [h1]
  · by_cases h2 : y = x
    · simp [h1, h2]
    · have : ¬ x = y := fun e => h2 e.symm
      simp [h1, h2, this]
theorem terms_j {cs : List Cp} {n j : Nat} {c : Cp} {t : Tm} (h : cs[n]? = some c) (hj : j < 2) (ht : [c.l, c.r][j]? = some t) : (termsC cs)[n * 2 + j]? = some t := by
  obtain ⟨h1, h2⟩ := termsC_at h
  match j, hj with
  | 0, _ => rw [← ht]; exact h1
  | 1, _ => rw [← ht]; exact h2
theorem names_next {cs : List Cp} {q : Nat} {t : Tm} (x : Int) (h : (termsC cs)[q]? = some t) : decide (x ∈ namesL ((termsC cs).take (q + 1))) = (decide (x ∈ namesL ((termsC cs).take q)) || decide (x ∈ namesT t)) := by
  rw [List.take_add_one, h]
  unfold namesL
  rw [List.flatMap_append]
  simp
theorem names_in {cs : List Cp} {q j : Nat} {t : Tm} {y : Int} (h : (termsC cs)[q]? = some t) (hy : (namesT t)[j]? = some y) : y ∈ namesC cs := by
  unfold namesC namesL
  exact List.mem_flatMap.2 ⟨t, List.mem_of_getElem? h, List.mem_of_getElem? hy⟩
end Go.Proofs.YtccmnngeibpcmaaGreat.Tree
/- Contract of the document's own Asked. -/
namespace Go.Proofs.YtccmnngeibpcmaaGreat.Tree
open Go.ChangeShapes Go.WideShapes Go.ChangeAt Go.RowKit
set_option linter.unusedVariables false
set_option linter.unusedSimpArgs false
attribute [local go_sem] Oper.semAt_some
theorem withL_setOf (X : List Int) (y : Int) : withL (setOf X) y = setOf (X ++ [y]) :=
  (setOf_eq (withL_rising (setOf_rising X)) (fun x => by rw [withL_mem, setOf_mem]; simp)).symm
theorem setOf_len (X : List Int) : (setOf X).length ≤ X.length := by
  unfold setOf
  exact Nat.le_trans (Lib.compact_length_le _) (Nat.le_of_eq (List.length_mergeSort _))
theorem namesL_len (ts : List Tm) : (namesL ts).length ≤ ts.length * 2 := by
  induction ts with
  | nil => simp [namesL]
  | cons t r ih =>
    have := names_le t
    unfold namesL at ih ⊢
    rw [List.flatMap_cons, List.length_append, List.length_cons]
    omega
theorem names_two {cs : List Cp} {i : Nat} {c : Cp} (h : cs[i]? = some c) : namesL ((termsC cs).take ((i + 1) * 2)) = namesL ((termsC cs).take (i * 2)) ++ (namesT c.l ++ namesT c.r) := by
  obtain ⟨h1, h2⟩ := termsC_at h
  rw [Nat.succ_mul, show i * 2 + 2 = (i * 2 + 1) + 1 by omega, List.take_add_one, h2, List.take_add_one, h1]
  unfold namesL
  rw [List.flatMap_append, List.flatMap_append]
  simp
/-- What is read of the step's box. -/
def AsK (P : Nat) (s : Sp) (a : Option Addr) (n c : Nat) (W0 X : World) : Prop := SpIn P s a n c X ∧ Below W0.heap.size W0 X
theorem AsK.later {P : Nat} {s : Sp} {a : Option Addr} {n c : Nat} {W0 X Y : World} (h : AsK P s a n c W0 X) (hb : Below X.heap.size X Y) : AsK P s a n c W0 Y := ⟨h.1.later hb, kept_trans h.2 hb⟩
theorem AsK.all {P : Nat} {s : Sp} {b o n c i : Nat} {W0 X : World} {x : Cp} (h : AsK P s (some ⟨b, o, none⟩) n c W0 X) (hx : s.cs[i]? = some x) :
    (X.cell? ⟨P, 5, none⟩ = some (.slice (some ⟨b, o, none⟩) n c) ∧ X.cell? ⟨b, o + i * 9 + 1, none⟩ = some (.int .u8 x.l.k) ∧ X.cell? ⟨b, o + i * 9 + 2, none⟩ = some (.int .i64 x.l.n) ∧
      X.cell? ⟨b, o + i * 9 + 3, none⟩ = some (.int .i64 x.l.s) ∧ X.cell? ⟨b, o + i * 9 + 4, none⟩ = some (.int .i64 x.l.r) ∧ X.cell? ⟨b, o + i * 9 + 5, none⟩ = some (.int .u8 x.r.k) ∧
      X.cell? ⟨b, o + i * 9 + 6, none⟩ = some (.int .i64 x.r.n) ∧ X.cell? ⟨b, o + i * 9 + 7, none⟩ = some (.int .i64 x.r.s) ∧ X.cell? ⟨b, o + i * 9 + 8, none⟩ = some (.int .i64 x.r.r)) ∧ AsK P s (some ⟨b, o, none⟩) n c W0 X := by
  obtain ⟨b', o', e, y0, y1, y2, y3, y4, y5, y6, y7, y8⟩ := h.1.cmp hx
  cases e
  exact ⟨⟨h.1.1.cells.2.2.2.2.2, y1, y2, y3, y4, y5, y6, y7, y8⟩, h⟩
set_option maxRecDepth 100000 in
set_option maxHeartbeats 4000000 in
theorem refAsked_L (s : Sp) (a : Option Addr) (n c : Nat) (w : World) (hn20 : n ≤ 20) (hl : s.cs.length = n) (hc : CpsAt w (.slice a n c) s.cs) :
    Calls Tryz.prog 101 #[spV s (.slice a n c)] w fun e w' => ∃ v, e = .returned v ∧ IntsAt w' v (setOf (namesC s.cs)) ∧ Below w.heap.size w w' := by
  have hb := kept_new w (.cells #[.bool s.neg, .int .i64 s.kind, .int .i64 s.min, .int .i64 s.max, .bool s.strict, .slice a n c] 45)
  have hs : SpIn w.heap.size s a n c _ := ⟨SpBox.new w s (.slice a n c), hl, hc.later hb⟩
  go_enter Tryz.func101, Tryz.ntmps101
  go_wp2_with fail
  generalize (w.alloc (.cells #[.bool s.neg, .int .i64 s.kind, .int .i64 s.min, .int .i64 s.max, .bool s.strict, .slice a n c] 45)) = W0 at *
  obtain ⟨P, hP⟩ : ∃ P, w.heap.size = P := ⟨_, rfl⟩
  rw [hP] at hs ⊢
  rw [hP] at hb
  replace hb := Lib.hid hb
  replace hl := Lib.hid hl
  replace hs := Lib.hid hs
  replace hc := Lib.hid hc
  obtain ⟨i0, hi, hz0, hz1, hz2⟩ := info_parts Tryz.info3
  replace hi := Lib.hid hi
  go_loopw [3, 4] (fun u t wt => ∃ i : Nat, i ≤ n ∧ t = .int .i64 i ∧ Hid (IntsAt wt u (setOf (namesL ((termsC s.cs).take (i * 2))))) ∧ Hid (Below W0.heap.size W0 wt)) (fun _ t _ => n - (intOf t).toNat)
  case atStart => exact ⟨0, Nat.zero_le _, rfl, ⟨none, 0, by simp [namesL, setOf_nil], .inl (by simp [namesL, setOf_nil])⟩, Below.refl _ _⟩
  case round =>
    obtain ⟨i, hi', rfl, hI, hB⟩ := hrel
    have hsr := Lib.hid (hs.out.later hB.out)
    have s5 := hsr.out.1.cells.2.2.2.2.2
    by_cases hlt : i < n
    · have hlti : (i : Int) < n := by omega
      obtain ⟨x, hx⟩ : ∃ x, s.cs[i]? = some x := ⟨_, List.getElem?_eq_getElem (by rw [hl.out]; exact hlt)⟩
      obtain ⟨b, o, rfl, y0, y1, y2, y3, y4, y5, y6, y7, y8⟩ := hsr.out.cmp hx
      clear y0 y1 y2 y3 y4 y5 y6 y7 y8
      go_upto_region 5 with fail
      have R1 : Hid (∀ X, AsK P s (some ⟨b, o, none⟩) n c wr X → Calls Tryz.prog 107 #[.agg #[.int .u8 x.l.k, .int .i64 x.l.n, .int .i64 x.l.s, .int .i64 x.l.r]] X fun e Y => ∃ v, e = .returned v ∧ Y.ownsRow wr.heap.size 3 1 v (namesT x.l).length (ints (namesT x.l)) ∧ AsK P s (some ⟨b, o, none⟩) n c wr Y ∧ Below X.heap.size X Y) := by
        show ∀ _, _
        intro X hX
        exact (refNames_any x.l X).mono fun e Y ⟨v, he, hr, hb⟩ => ⟨v, he, row_base hr hX.2.size, hX.later hb, hb⟩
      have R2 : Hid (∀ X, AsK P s (some ⟨b, o, none⟩) n c wr X → Calls Tryz.prog 107 #[.agg #[.int .u8 x.r.k, .int .i64 x.r.n, .int .i64 x.r.s, .int .i64 x.r.r]] X fun e Y => ∃ v, e = .returned v ∧ Y.ownsRow wr.heap.size 3 1 v (namesT x.r).length (ints (namesT x.r)) ∧ AsK P s (some ⟨b, o, none⟩) n c wr Y ∧ Below X.heap.size X Y) := by
        show ∀ _, _
        intro X hX
        exact (refNames_any x.r X).mono fun e Y ⟨v, he, hr, hb⟩ => ⟨v, he, row_base hr hX.2.size, hX.later hb, hb⟩
      have hn1 := names_le x.l
      have hn2 := names_le x.r
      obtain ⟨p1, hp1⟩ : ∃ p, (namesT x.l).length = p := ⟨_, rfl⟩
      obtain ⟨p2, hp2⟩ : ∃ p, (namesT x.r).length = p := ⟨_, rfl⟩
      rw [hp1] at hn1 R1
      rw [hp2] at hn2 R2
      have hb63 : p1 + p2 ≤ maxLen := by unfold maxLen; omega
      have hb8 : (p1 + p2) * 8 ≤ 140737488355328 := by omega
      have hil : (ints (namesT x.r)).length = p2 * 1 := by simp [hp2]
      have hone : ∀ u ∈ ints (namesT x.r), u.oneCell' = true := by simp [Value.oneCell']
      have hK : AsK P s (some ⟨b, o, none⟩) n c wr wr.drew := ⟨hsr.out.later (Below.refl _ _).drew, (Below.refl _ _).drew⟩
      have hmk : Hid (∀ {X w1 : World} {v : Value}, AsK P s (some ⟨b, o, none⟩) n c wr X → X.ownsRow wr.heap.size 3 1 v p1 (ints (namesT x.l)) → X.grownBy w1 v.ownBlock → AsK P s (some ⟨b, o, none⟩) n c wr w1) := by
        show ∀ {_ _ _}, _
        intro X w1 v hK hr hg
        have hb : Below wr.heap.size wr w1 := Below.grown hK.2 hg hK.2.size (fun j ej => (World.ownsRow.lt hr j ej).1)
        exact ⟨hsr.out.later hb, hb⟩
      have hall := Lib.hid (fun X (h : AsK P s (some ⟨b, o, none⟩) n c wr X) => h.all hx)
      replace hp1 := Lib.hid hp1
      replace hp2 := Lib.hid hp2
      have hxx := Lib.hid hx
      clear hx s5
      obtain ⟨all, hallE⟩ : ∃ l, namesT x.l ++ namesT x.r = l := ⟨_, rfl⟩
      have hallL : Hid (all.length = p1 + p2) := by show _ = _; rw [← hallE, List.length_append, hp1.out, hp2.out]
      have hrow : Hid (∀ {X : World} {v : Value}, X.ownsRow wr.heap.size 3 1 v (p1 + p2) (ints (namesT x.l) ++ ints (namesT x.r)) → IntsAt X v all) := by
        show ∀ {_ _}, _
        intro X v h
        have e : ints (namesT x.l) ++ ints (namesT x.r) = ints all := by rw [← hallE]; simp [ints]
        rw [e] at h
        refine IntsAt.of_row (base := wr.heap.size) ?_
        rw [hallL.out]
        exact h
      replace hallE := Lib.hid hallE
      go_cut [5] from 7 to 40 (fun t wx => IntsAt wx t all ∧ Below wr.heap.size wr wx)
      case first =>
        go_region_held3 (fun X => (X.cell? ⟨P, 5, none⟩ = some (.slice (some ⟨b, o, none⟩) n c) ∧ X.cell? ⟨b, o + i * 9 + 1, none⟩ = some (.int .u8 x.l.k) ∧ X.cell? ⟨b, o + i * 9 + 2, none⟩ = some (.int .i64 x.l.n) ∧
      X.cell? ⟨b, o + i * 9 + 3, none⟩ = some (.int .i64 x.l.s) ∧ X.cell? ⟨b, o + i * 9 + 4, none⟩ = some (.int .i64 x.l.r) ∧ X.cell? ⟨b, o + i * 9 + 5, none⟩ = some (.int .u8 x.r.k) ∧
      X.cell? ⟨b, o + i * 9 + 6, none⟩ = some (.int .i64 x.r.n) ∧ X.cell? ⟨b, o + i * 9 + 7, none⟩ = some (.int .i64 x.r.s) ∧ X.cell? ⟨b, o + i * 9 + 8, none⟩ = some (.int .i64 x.r.r)) ∧ AsK P s (some ⟨b, o, none⟩) n c wr X) (first | exact hall.out _ hK | (try go_split_ands); exact hall.out _ ‹AsK P s (some ⟨b, o, none⟩) n c wr _›) (first
          | (go_at_call 107; (try go_split_ands); (with_reducible refine (R1.out _ ‹AsK P s (some ⟨b, o, none⟩) n c wr _›).mono ?_); rintro e X ⟨v1, rfl, hr1, hK1, hb1⟩)
          | (go_at_call 107; (try go_split_ands); (with_reducible refine (R2.out _ ‹AsK P s (some ⟨b, o, none⟩) n c wr _›).mono ?_); rintro e X ⟨v2, rfl, hr2, hK2, hb2⟩; have hr1' := row_later hr1 hb2; obtain ⟨a8, c8, rfl, hc8⟩ := cells_of_row hr2)
          | (refine step_append_cells (by rfl) (.tmp 20) (.tmp 27) 28 (by rfl) wr.heap.size 3 i0 _ 1 8 Tryz.underlying28 hi.out hz0 hz1 hz2 rfl (by decide) v1 p1 (ints (namesT x.l)) (by rfl) hr1' a8 p2 c8 (ints (namesT x.r)) (by rfl) hil hc8 hone hb63 hb8 (AsK.later hK2 (Below.refl _ _)).2.size ?_; intro v' w1 hown' hgrow; have hK3 := hmk.out hK2 hr1' hgrow)
          | fail)
        all_goals (go_wp2_with fail; go_meet; exact ⟨hrow.out hown', hK3.2⟩)
      case rest =>
        obtain ⟨hall5, hb5⟩ := hcut
        obtain ⟨X, hX⟩ : ∃ X, namesL ((termsC s.cs).take (i * 2)) = X := ⟨_, rfl⟩
        have hXn : Hid (namesL ((termsC s.cs).take ((i + 1) * 2)) = X ++ all) := by show _ = _; rw [names_two hxx.out, hX, hallE.out]
        have hXl : X.length ≤ 80 := by
          rw [← hX]
          have := namesL_len ((termsC s.cs).take (i * 2))
          rw [List.length_take] at this
          omega
        rw [hX] at hI
        obtain ⟨p, hp⟩ : ∃ p, all.length = p := ⟨_, rfl⟩
        have hp4 : p ≤ 4 := by rw [← hp, hallL.out]; omega
        obtain ⟨a9, c9, rfl⟩ := hall5.lit hp
        have hBw := Lib.hid (kept_trans hB.out hb5)
        have hI5 := Lib.hid (hI.out.later hb5)
        replace hall5 := Lib.hid hall5
        replace hp := Lib.hid hp
        clear R1 R2 hall hrow hmk hK hb5 hX hallE hallL hp1 hp2 hn1 hn2 hone hil hb63 hb8 hI hsr
        go_wp2_with fail
        go_loopw [3, 6] (fun u t wt => ∃ k : Nat, k ≤ p ∧ t = .int .i64 k ∧ Hid (IntsAt wt u (setOf (X ++ all.take k))) ∧ Hid (Below wc.heap.size wc wt)) (fun _ t _ => p - (intOf t).toNat)
        case atStart => exact ⟨0, Nat.zero_le _, rfl, by show IntsAt _ _ _; simpa using hI5.out, Below.refl _ _⟩
        case round =>
          clear hI5
          obtain ⟨k, hk, rfl, hI, hBk⟩ := hrel
          have hallk := Lib.hid (hall5.out.later hBk.out)
          by_cases hltk : k < p
          · have hltki : (k : Int) < p := by omega
            obtain ⟨y, hy⟩ : ∃ y, all[k]? = some y := ⟨_, List.getElem?_eq_getElem (by rw [hp.out]; exact hltk)⟩
            obtain ⟨b6, o6, rfl, z0⟩ := hallk.out.at hp.out hy
            obtain ⟨m, hm⟩ : ∃ m, (setOf (X ++ all.take k)).length = m := ⟨_, rfl⟩
            have hm1 : m ≤ 1000 := by
              have := setOf_len (X ++ all.take k)
              rw [hm, List.length_append, List.length_take] at this
              omega
            obtain ⟨a10, c10, rfl⟩ := hI.out.lit hm
            have hW := with_L a10 m c10 _ y wr hm hm1 (setOf_rising _) hI.out
            have hst : withL (setOf (X ++ all.take k)) y = setOf (X ++ all.take (k + 1)) := by
              rw [withL_setOf, List.take_add_one, hy, List.append_assoc]; rfl
            rw [hst] at hW
            replace hW := Lib.hid hW
            clear hst hm hy hI
            go_wp2_with ((with_reducible refine hW.out.mono ?_); rintro e w2 ⟨v2, rfl, hI2, hb2⟩)
            exact ⟨⟨k + 1, by omega, by go_num, hI2, kept_trans hBk.out hb2⟩, by simp [intOf]; omega⟩
          · obtain rfl : k = p := by omega
            have hltki : ¬ (k : Int) < k := by omega
            have hfin : Hid (IntsAt wr u3 (setOf (namesL ((termsC s.cs).take ((i + 1) * 2))))) := by
              show IntsAt _ _ _
              rw [hXn.out]
              have := hI.out
              rwa [List.take_of_length_le (by rw [hp.out]; exact Nat.le_refl _)] at this
            clear hI
            go_wp2_with fail
            exact ⟨⟨i + 1, by omega, by go_num, hfin.out, kept_trans hBw.out hBk.out⟩, by simp [intOf]; omega⟩
    · obtain rfl : i = n := by omega
      have hlti : ¬ (i : Int) < i := by omega
      have hfin : IntsAt wr u3 (setOf (namesC s.cs)) := by
        have := hI.out
        rwa [List.take_of_length_le (by rw [termsC_len, hl.out]; exact Nat.le_refl _)] at this
      replace hfin := Lib.hid hfin
      clear hI
      go_wp2_with fail
      go_ret
      exact ⟨_, rfl, hfin.out, hb.out.trans (hB.out.mono (by have := hb.out.size; omega))⟩
end Go.Proofs.YtccmnngeibpcmaaGreat.Tree
/- Contracts of the document's own rules, of Tail and Head. -/
namespace Go.Proofs.YtccmnngeibpcmaaGreat.Tree
open Go.ChangeShapes Go.WideShapes Go.ChangeAt Go.RowKit
set_option linter.unusedVariables false
set_option maxRecDepth 100000
set_option linter.unusedSimpArgs false
attribute [local go_sem] Oper.semAt_some
def neg1 (b : Bool) : Int := if b then -1 else 0
set_option maxHeartbeats 1000000 in
theorem refOne_L (a : Option Addr) (n c : Nat) (win : Int) (L : List (Sp × Value)) (w : World) (hl : L.length = n) (h : SpsL w (.slice a n c) L) :
    Calls Tryz.prog 67 #[ptV (.slice a n c) win] w fun e w' => e = .returned (.int .i64 (neg1 (decide (n ≤ 6) && decide (win ≤ 1073741824)))) ∧ Below w.heap.size w w' := by
  have hb := Lib.hid (kept_new w (.cells #[.slice a n c, .int .i64 win] 24))
  have c0 := (PtBox.new w (.slice a n c) win).c0
  have c1 := (PtBox.new w (.slice a n c) win).c1
  unfold neg1
  clear h hl
  by_cases h1 : n ≤ 6
  · have h1i : ¬ (6 : Int) < n := by omega
    by_cases h2 : win ≤ 1073741824
    · have h2i : ¬ (1073741824 : Int) < win := by omega
      rw [if_pos (by simp [h1, h2])]
      clear h1 h2
      go_enter Tryz.func67, Tryz.ntmps67
      go_wp2
      go_ret
      exact ⟨rfl, hb.out⟩
    · have h2i : (1073741824 : Int) < win := by omega
      rw [if_neg (by simp [h2])]
      clear h1 h2
      go_enter Tryz.func67, Tryz.ntmps67
      go_wp2
      go_ret
      exact ⟨rfl, hb.out⟩
  · have h1i : (6 : Int) < n := by omega
    rw [if_neg (by simp [h1])]
    clear h1
    go_enter Tryz.func67, Tryz.ntmps67
    go_wp2
    go_ret
    exact ⟨rfl, hb.out⟩
set_option maxHeartbeats 1000000 in
theorem refTwo_L (a : Option Addr) (n c : Nat) (win : Int) (L : List (Sp × Value)) (w : World) (hl : L.length = n) (hn : 1 ≤ n) (h : SpsL w (.slice a n c) L) :
    Calls Tryz.prog 68 #[ptV (.slice a n c) win] w fun e w' => e = .returned (.int .i64 (neg1 (!(stepA (L.map (·.1)) 0).neg && !(stepA (L.map (·.1)) 0).strict))) ∧ Below w.heap.size w w' := by
  have hb := kept_new w (.cells #[.slice a n c, .int .i64 win] 24)
  have hin : PtIn w.heap.size a n c win L (w.alloc (.cells #[.slice a n c, .int .i64 win] 24)) := ⟨PtBox.new w _ _, hl, h.later hb⟩
  obtain ⟨⟨s, v⟩, hx⟩ := sps_i (L := L) (i := 0) (by omega)
  obtain ⟨b, o, rfl, z0, z1, z2, z3, z4, z5, hv⟩ := hin.step hx
  rw [stepA_of (map_fst hx)]
  rw [Nat.zero_mul, Nat.add_zero] at z0 z4
  have c0 := hin.1.c0
  have n0 : (0 : Int) < n := by omega
  have n00 : 0 < n := by omega
  replace hb := Lib.hid hb
  unfold neg1
  clear hin hx hv z1 z2 z3 z5 h hl
  cases hneg : s.neg with
  | true =>
    rw [hneg] at z0
    clear hneg
    go_enter Tryz.func68, Tryz.ntmps68
    go_wp2
    go_ret
    exact ⟨rfl, hb.out⟩
  | false =>
    rw [hneg] at z0
    cases hst : s.strict with
    | true =>
      rw [hst] at z4
      clear hneg hst
      go_enter Tryz.func68, Tryz.ntmps68
      go_wp2
      go_ret
      exact ⟨rfl, hb.out⟩
    | false =>
      rw [hst] at z4
      clear hneg hst
      go_enter Tryz.func68, Tryz.ntmps68
      go_wp2
      go_ret
      exact ⟨rfl, hb.out⟩
theorem most_step {ss : List Sp} {win : Int} (hr : rightP ss win = true) {i : Nat} {s : Sp} (hs : ss[i]? = some s) : mostP (ss.take (i + 1)) = mostP (ss.take i) + (if s.neg then 0 else s.max) ∧ 0 ≤ s.max ∧ s.max ≤ 1099511627776 := by
  have hrs : rightS s = true := by
    unfold rightP at hr
    simp only [Bool.and_eq_true, List.all_eq_true] at hr
    exact hr.2 s (List.mem_of_getElem? hs)
  unfold rightS at hrs
  simp only [Bool.and_eq_true, nbr, decide_eq_true_eq] at hrs
  have hw : within s.max = s.max := by unfold within; omega
  refine ⟨?_, by omega, by omega⟩
  unfold mostP sumF
  rw [List.take_add_one, hs]
  simp [hw]
theorem most_bd (ss : List Sp) : 0 ≤ mostP ss ∧ mostP ss ≤ ss.length * 1099511627776 := by
  unfold mostP sumF
  induction ss with
  | nil => simp
  | cons s r ih =>
    have hx := within_bd s.max
    rw [List.map_cons, List.sum_cons, List.length_cons]
    push_cast
    split <;> omega
set_option maxRecDepth 100000 in
set_option maxHeartbeats 1000000 in
theorem refSix_L (a : Option Addr) (n c : Nat) (win : Int) (L : List (Sp × Value)) (w : World) (hl : L.length = n) (hn : n ≤ 1000) (hr : rightP (L.map (·.1)) win = true) (h : SpsL w (.slice a n c) L) :
    Calls Tryz.prog 69 #[ptV (.slice a n c) win] w fun e w' => e = .returned (.int .i64 (neg1 (decide (mostP (L.map (·.1)) ≤ 4)))) ∧ Below w.heap.size w w' := by
  have hb := Lib.hid (kept_new w (.cells #[.slice a n c, .int .i64 win] 24))
  have hin : PtIn w.heap.size a n c win L (w.alloc (.cells #[.slice a n c, .int .i64 win] 24)) := ⟨PtBox.new w _ _, hl, h.later hb.out⟩
  have c0 := hin.1.c0
  have hst := Lib.hid (fun (i : Nat) (s : Sp) (v : Value) (hx : L[i]? = some (s, v)) => most_step hr (map_fst hx))
  have hbd := Lib.hid (fun i => most_bd ((L.map (·.1)).take i))
  have hall : Hid (mostP ((L.map (·.1)).take n) = mostP (L.map (·.1))) := by show _ = _; rw [List.take_of_length_le (by simp [hl])]
  replace hin := Lib.hid hin
  replace hl := Lib.hid hl
  clear hr h
  obtain ⟨R, hR⟩ : ∃ R, neg1 (decide (mostP (L.map (·.1)) ≤ 4)) = R := ⟨_, rfl⟩
  rw [hR]
  replace hR := Lib.hid hR
  go_enter Tryz.func69, Tryz.ntmps69
  go_wp2_with fail
  go_loop [3, 4] (fun u t => ∃ i : Nat, i ≤ n ∧ t = .int .i64 i ∧ u = .int .i64 (mostP ((L.map (·.1)).take i))) (fun _ t => n - (intOf t).toNat)
  case atStart => exact ⟨0, Nat.zero_le _, rfl, by simp [mostP, sumF]⟩
  case round =>
    obtain ⟨i, hi, rfl, rfl⟩ := hrel
    obtain ⟨b1, b2⟩ := hbd.out i
    have b3 : mostP ((L.map (·.1)).take i) ≤ 1000 * 1099511627776 := by
      rw [List.length_take] at b2
      omega
    by_cases hlt : i < n
    · have hlti : (i : Int) < n := by omega
      obtain ⟨⟨s, v⟩, hx⟩ := sps_i (L := L) (i := i) (by rw [hl.out]; exact hlt)
      obtain ⟨b, o, rfl, z0, z1, z2, z3, z4, z5, hv⟩ := hin.out.step hx
      obtain ⟨e, e1, e2⟩ := hst.out i s v hx
      clear hv hx z1 z2 z4 z5 b2
      obtain ⟨M1, hM1⟩ : ∃ q, mostP ((L.map (·.1)).take (i + 1)) = q := ⟨_, rfl⟩
      rw [hM1] at e
      generalize mostP ((L.map (·.1)).take i) = M0 at *
      replace hM1 := Lib.hid hM1
      cases hneg : s.neg with
      | true =>
        rw [hneg] at z0 e
        rw [if_pos rfl, Int.add_zero] at e
        subst e
        clear hneg
        go_wp2
        go_round
        case rel => exact ⟨i + 1, by omega, by go_num, by rw [hM1.out]⟩
        case measure => simp [intOf]; omega
      | false =>
        rw [hneg] at z0 e
        rw [if_neg (by decide)] at e
        replace e := Lib.hid e
        clear hneg
        go_wp2
        go_round
        case rel => exact ⟨i + 1, by omega, by go_num, by rw [hM1.out, e.out]⟩
        case measure => simp [intOf]; omega
    · obtain rfl : i = n := by omega
      have hni : ¬ (i : Int) < i := by omega
      rw [hall.out]
      generalize mostP (L.map (·.1)) = MM at *
      have hRR := hR.out
      unfold neg1 at hRR
      by_cases h4 : MM ≤ 4
      · have h4i : ¬ (4 : Int) < MM := by omega
        rw [if_pos (by simp [h4])] at hRR
        subst hRR
        clear h4 b2
        go_wp2
        go_ret
        exact ⟨rfl, hb.out⟩
      · have h4i : (4 : Int) < MM := by omega
        rw [if_neg (by simp [h4])] at hRR
        subst hRR
        clear h4 b2
        go_wp2
        go_ret
        exact ⟨rfl, hb.out⟩
set_option maxHeartbeats 1000000 in
theorem refThree_L (a : Option Addr) (n c : Nat) (win : Int) (i : Nat) (s : Sp) (v : Value) (L : List (Sp × Value)) (w : World) (hl : L.length = n) (hx : L[i]? = some (s, v)) (h : SpsL w (.slice a n c) L) :
    Calls Tryz.prog 90 #[ptV (.slice a n c) win, .int .i64 i] w fun e w' => e = .returned (.bool (decide (s.kind < 6))) ∧ Below w.heap.size w w' := by
  have hb := Lib.hid (kept_new w (.cells #[.slice a n c, .int .i64 win] 24))
  have hin : PtIn w.heap.size a n c win L (w.alloc (.cells #[.slice a n c, .int .i64 win] 24)) := ⟨PtBox.new w _ _, hl, h.later hb.out⟩
  have hi : (i : Int) < n := by have := (List.getElem?_eq_some_iff.1 hx).1; omega
  obtain ⟨b, o, rfl, z0, z1, z2, z3, z4, z5, hv⟩ := hin.step hx
  have c0 := hin.1.c0
  clear hin hx hv z0 z2 z3 z4 z5 h hl
  go_enter Tryz.func90, Tryz.ntmps90
  go_wp2
  go_ret
  exact ⟨rfl, hb.out⟩
set_option maxRecDepth 100000 in
set_option maxHeartbeats 1000000 in
theorem refFive_L (a : Option Addr) (n c : Nat) (win : Int) (i : Nat) (s : Sp) (v : Value) (L : List (Sp × Value)) (w : World) (hl : L.length = n) (hx : L[i]? = some (s, v)) (h : SpsL w (.slice a n c) L) :
    Calls Tryz.prog 92 #[ptV (.slice a n c) win, .int .i64 i] w fun e w' => e = .returned (.bool (rule5 s)) ∧ Below w.heap.size w w' := by
  have hb := Lib.hid (kept_new w (.cells #[.slice a n c, .int .i64 win] 24))
  have hin : PtIn w.heap.size a n c win L (w.alloc (.cells #[.slice a n c, .int .i64 win] 24)) := ⟨PtBox.new w _ _, hl, h.later hb.out⟩
  have hi : (i : Int) < n := by have := (List.getElem?_eq_some_iff.1 hx).1; omega
  obtain ⟨b, o, rfl, z0, z1, z2, z3, z4, z5, hv⟩ := hin.step hx
  obtain ⟨a2, c2, ev, -⟩ := hv
  obtain ⟨m, hm⟩ : ∃ m, s.cs.length = m := ⟨_, rfl⟩
  rw [hm] at ev
  subst ev
  have c0 := hin.1.c0
  have hb2 := Lib.hid (kept_alloc hb.out (.cells #[.bool s.neg, .int .i64 s.kind, .int .i64 s.min, .int .i64 s.max, .bool s.strict, .slice a2 m c2] 45))
  obtain ⟨q0, q1, q2, q3, q4, q5⟩ := (SpBox.new (w.alloc (.cells #[.slice (some ⟨b, o, none⟩) n c, .int .i64 win] 24)) s (.slice a2 m c2)).cells
  obtain ⟨R, hR⟩ : ∃ R, rule5 s = R := ⟨_, rfl⟩
  rw [hR]
  unfold rule5 at hR
  clear hin hx h hl hm
  cases hneg : s.neg with
  | true =>
    rw [hneg] at q0 z0 hR hb2 q1 q2 q3 q4 q5
    rw [Bool.true_or] at hR
    subst hR
    clear hneg
    go_enter Tryz.func92, Tryz.ntmps92
    go_wp2
    go_ret
    exact ⟨rfl, hb2.out⟩
  | false =>
    rw [hneg] at q0 z0 hR hb2 q1 q2 q3 q4 q5
    rw [Bool.false_or] at hR
    clear hneg
    by_cases h1 : 1 ≤ s.min
    · by_cases h2 : s.min ≤ s.max
      · have hR' : Hid (decide (s.max ≤ 3) = R) := by show _ = _; rw [← hR]; simp [h1, h2]
        clear hR
        go_enter Tryz.func92, Tryz.ntmps92
        go_wp2
        go_ret
        exact ⟨by rw [← hR'.out]; rfl, hb2.out⟩
      · have hR' : R = false := by rw [← hR]; simp [h1, h2]
        subst hR'
        clear hR
        go_enter Tryz.func92, Tryz.ntmps92
        go_wp2
        go_ret
        exact ⟨rfl, hb2.out⟩
    · have hR' : R = false := by rw [← hR]; simp [h1]
      subst hR'
      clear hR
      go_enter Tryz.func92, Tryz.ntmps92
      go_wp2
      go_ret
      exact ⟨rfl, hb2.out⟩
set_option maxRecDepth 100000 in
set_option maxHeartbeats 1000000 in
theorem refFour_L (a : Option Addr) (n c : Nat) (win : Int) (i : Nat) (s : Sp) (v : Value) (L : List (Sp × Value)) (w : World) (hl : L.length = n) (hn : n ≤ 1000000) (hx : L[i]? = some (s, v)) (h : SpsL w (.slice a n c) L) :
    Calls Tryz.prog 91 #[ptV (.slice a n c) win, .int .i64 i] w fun e w' => e = .returned (.bool (rule4 (L.map (·.1)) i s)) ∧ Below w.heap.size w w' := by
  have hb := Lib.hid (kept_new w (.cells #[.slice a n c, .int .i64 win] 24))
  have hin : PtIn w.heap.size a n c win L (w.alloc (.cells #[.slice a n c, .int .i64 win] 24)) := ⟨PtBox.new w _ _, hl, h.later hb.out⟩
  have hil : i < n := by have := (List.getElem?_eq_some_iff.1 hx).1; omega
  have hi : (i : Int) < n := by omega
  obtain ⟨b, o, rfl, z0, z1, z2, z3, z4, z5, hv⟩ := hin.step hx
  obtain ⟨a2, c2, ev, -⟩ := hv
  obtain ⟨m, hm⟩ : ∃ m, s.cs.length = m := ⟨_, rfl⟩
  rw [hm] at ev
  subst ev
  have c0 := hin.1.c0
  have hk2 := kept_new (w.alloc (.cells #[.slice (some ⟨b, o, none⟩) n c, .int .i64 win] 24)) (.cells #[.bool s.neg, .int .i64 s.kind, .int .i64 s.min, .int .i64 s.max, .bool s.strict, .slice a2 m c2] 45)
  have hb2 := Lib.hid (kept_trans hb.out hk2)
  have hin2 := Lib.hid (hin.later hk2)
  have c0' := hin2.out.1.c0
  obtain ⟨q0, q1, q2, q3, q4, q5⟩ := (SpBox.new (w.alloc (.cells #[.slice (some ⟨b, o, none⟩) n c, .int .i64 win] 24)) s (.slice a2 m c2)).cells
  have hsi := stepA_of (map_fst hx)
  obtain ⟨R, hR⟩ : ∃ R, rule4 (L.map (·.1)) i s = R := ⟨_, rfl⟩
  rw [hR]
  unfold rule4 onceS follows at hR
  rw [hsi] at hR
  clear hin hk2 hx h hm hsi
  cases hneg : s.neg with
  | true =>
    rw [hneg] at q0 z0 hR hb2 q1 q2 q3 q4 q5 c0' hin2
    replace hin2 := hin2.out
    simp only [Bool.not_true, Bool.false_or, Bool.false_and, Bool.or_false] at hR
    by_cases h1 : s.min = 1
    · have h1B : (s.min != 1) = false := by simp [h1]
      by_cases h2 : s.max = 1
      · have h2B : (s.max != 1) = false := by simp [h2]
        have hR' : Hid ((!s.strict) = R) := by show _ = _; rw [← hR]; simp [h1, h2]
        clear hR h1 h2 hneg
        cases hst : s.strict with
        | true =>
          rw [hst] at q4 z4 hb2 q0 q1 q2 q3 q5 c0' hR'
          have hRR := hR'.out
          subst hRR
          clear hst hR' hin2
          go_enter Tryz.func91, Tryz.ntmps91
          go_wp2
          go_ret
          exact ⟨rfl, hb2.out⟩
        | false =>
          rw [hst] at q4 z4 hb2 q0 q1 q2 q3 q5 c0' hR' hin2
          have hRR := hR'.out
          subst hRR
          clear hst hR'
          by_cases h0 : i = 0
          · subst h0
            rw [show ((0 : Nat) : Int) = 0 from rfl] at hi ⊢
            rw [Nat.zero_mul, Nat.add_zero] at z0 z1 z2 z3 z4 z5
            have n00 : 0 < n := hil
            go_enter Tryz.func91, Tryz.ntmps91
            go_wp2
            go_ret
            exact ⟨rfl, hb2.out⟩
          · obtain ⟨k, rfl⟩ : ∃ k, i = k + 1 := ⟨i - 1, by omega⟩
            obtain ⟨⟨s2, v2⟩, hx2⟩ := sps_i (L := L) (i := k) (by omega)
            obtain ⟨b2, o2, e2, y0, -⟩ := hin2.step hx2
            cases e2
            have hB : (((k + 1 : Nat) : Int) == 0) = false := by simp; omega
            have hk : ((k + 1 : Nat) : Int) - 1 = k := by omega
            have hkk : (k : Int) < n := by omega
            clear hx2 h0 hl
            cases hp : s2.neg
            all_goals
              rw [hp] at y0
              clear hp
              go_enter Tryz.func91, Tryz.ntmps91
              go_wp2
              go_ret
              exact ⟨rfl, hb2.out⟩
      · have h2B : (s.max != 1) = true := by simp [h2]
        have hR' : R = false := by rw [← hR]; simp [h2]
        subst hR'
        clear hR h1 h2 hneg
        go_enter Tryz.func91, Tryz.ntmps91
        go_wp2
        go_ret
        exact ⟨rfl, hb2.out⟩
    · have h1B : (s.min != 1) = true := by simp [h1]
      have hR' : R = false := by rw [← hR]; simp [h1]
      subst hR'
      clear hR h1 hneg
      go_enter Tryz.func91, Tryz.ntmps91
      go_wp2
      go_ret
      exact ⟨rfl, hb2.out⟩
  | false =>
    rw [hneg] at q0 z0 hR hb2 q1 q2 q3 q4 q5 c0' hin2
    simp only [Bool.not_false, Bool.true_or, Bool.true_and] at hR
    replace hin2 := hin2.out
    clear hneg
    by_cases h0 : i = 0
    · subst h0
      rw [show ((0 : Nat) : Int) = 0 from rfl] at hi ⊢
      rw [Nat.zero_mul, Nat.add_zero] at z0 z1 z2 z3 z4 z5
      have n00 : 0 < n := hil
      have hRR : R = true := by rw [← hR]; simp
      subst hRR
      clear hR
      go_enter Tryz.func91, Tryz.ntmps91
      go_wp2
      go_ret
      exact ⟨rfl, hb2.out⟩
    · obtain ⟨k, rfl⟩ : ∃ k, i = k + 1 := ⟨i - 1, by omega⟩
      obtain ⟨⟨s2, v2⟩, hx2⟩ := sps_i (L := L) (i := k) (by omega)
      obtain ⟨b2, o2, e2, y0, -⟩ := hin2.step hx2
      cases e2
      have hB : (((k + 1 : Nat) : Int) == 0) = false := by simp; omega
      have hk : ((k + 1 : Nat) : Int) - 1 = k := by omega
      have hkk : (k : Int) < n := by omega
      rw [show k + 1 - 1 = k from rfl, stepA_of (map_fst hx2)] at hR
      clear hx2 h0 hl
      cases hp : s2.neg
      all_goals
        rw [hp] at y0
        rw [hp] at hR
        cases hst : s.strict
        all_goals
          rw [hst] at q4 z4 hb2 q0 q1 q2 q3 q5 c0' hR y0
          simp at hR
          subst hR
          clear hst hp
          go_enter Tryz.func91, Tryz.ntmps91
          go_wp2
          go_ret
          exact ⟨rfl, hb2.out⟩
end Go.Proofs.YtccmnngeibpcmaaGreat.Tree
/- Contracts of the document's own seven, kept, broken, Check, Right, Tail and Head. -/
namespace Go.Proofs.YtccmnngeibpcmaaGreat.Tree
open Go.ChangeShapes Go.WideShapes Go.ChangeAt Go.RowKit
set_option linter.unusedVariables false
set_option maxRecDepth 100000
set_option linter.unusedSimpArgs false
attribute [local go_sem] Oper.semAt_some
set_option maxRecDepth 100000 in
set_option maxHeartbeats 1000000 in
theorem refSeven_L (i : Nat) (a1 : Option Addr) (n c1 : Nat) (win : Int) (L : List (Sp × Value)) (s : Sp) (v : Value) (w : World) (hn : L.length = n) (hx : L[i]? = some (s, v)) (hn2 : n ≤ 1000000) (hm : s.cs.length ≤ 20)
    (hpos : ∀ x ∈ namesC s.cs, 0 ≤ x) (h : SpsL w (.slice a1 n c1) L) :
    Calls Tryz.prog 93 #[ptV (.slice a1 n c1) win, .int .i64 i] w fun e w' => e = .returned (.bool (rule7 (L.map (·.1)) i s)) ∧ Below w.heap.size w w' := by
  have hb := kept_new w (.cells #[.slice a1 n c1, .int .i64 win] 24)
  have hin : PtIn w.heap.size a1 n c1 win L (w.alloc (.cells #[.slice a1 n c1, .int .i64 win] 24)) := ⟨PtBox.new w _ _, hn, h.later hb⟩
  have hi : i < n := by have := (List.getElem?_eq_some_iff.1 hx).1; omega
  have hii : (i : Int) < n := by omega
  obtain ⟨b, o, rfl, z0, z1, z2, z3, z4, z5, hv⟩ := hin.step hx
  have c0 := hin.1.c0
  obtain ⟨m, hml⟩ : ∃ m, s.cs.length = m := ⟨_, rfl⟩
  obtain ⟨a2, c2, rfl⟩ := hv.lit hml
  have hA := refAsked_L s a2 m c2 _ (by omega) hml hv
  obtain ⟨R, hR⟩ : ∃ R, asksP (L.map (·.1)) i s = R := ⟨_, rfl⟩
  unfold rule7
  rw [hR, hml]
  have hposs : Hid (∀ x ∈ setOf (namesC s.cs), 0 ≤ x) := fun x hx => hpos x ((setOf_mem _ _).1 hx)
  have hno := Lib.hid (fun k x (h1 : (setOf (namesC s.cs))[k]? = some x) h2 => asks_no (ss := L.map (·.1)) (i := i) h1 h2)
  have hyes := Lib.hid (asks_yes (ss := L.map (·.1)) (i := i) (s := s))
  have hq80 : (setOf (namesC s.cs)).length ≤ 1000 := by
    have h1 := namesC_len s.cs
    have h2 := setOf_len (namesC s.cs)
    omega
  generalize hset : setOf (namesC s.cs) = N at *
  obtain ⟨q, hq⟩ : ∃ q, N.length = q := ⟨_, rfl⟩
  rw [hR] at hno hyes
  rw [hq] at hyes hq80
  replace hq := Lib.hid hq
  replace hA := Lib.hid hA
  replace hR := Lib.hid hR
  replace hx := Lib.hid hx
  replace hin := Lib.hid hin
  replace hb := Lib.hid hb
  clear h hn hv hset hml hpos
  go_enter Tryz.func93, Tryz.ntmps93
  go_wp2_with ((with_reducible refine hA.out.mono ?_); rintro e w1 ⟨vN, rfl, hI, hb1⟩; obtain ⟨aN, cN, rfl⟩ := hI.lit hq.out)
  replace hb : Hid (Below w.heap.size w w1) := kept_trans hb.out hb1
  replace hin := Lib.hid (hin.out.later hb1)
  obtain ⟨bx, ox, ex, -, -, -, -, -, x5, -⟩ := hin.out.step hx.out
  cases ex
  have c0 := hin.out.1.c0
  clear z0 z1 z2 z3 z4 z5 hA hb1
  go_loop [6] (fun t => ∃ k : Nat, k ≤ q ∧ t = .int .i64 k ∧ Hid (∀ j x, j < k → N[j]? = some x → askBad (L.map (·.1)) i x = false)) (fun t => q - (intOf t).toNat)
  case atStart => exact ⟨0, Nat.zero_le _, rfl, fun j x hj => by omega⟩
  case round =>
    obtain ⟨k, hk, rfl, hall⟩ := hrel
    by_cases hlt : k < q
    · have hlti : (k : Int) < q := by omega
      obtain ⟨x, hxk⟩ : ∃ x, N[k]? = some x := ⟨_, List.getElem?_eq_getElem (by rw [hq.out]; exact hlt)⟩
      obtain ⟨bn, on, rfl, z0⟩ := hI.at hq.out hxk
      have hx0 := hposs.out x (List.mem_of_getElem? hxk)
      have hnok := hno.out k x hxk
      have hall' : askBad (L.map (·.1)) i x = false → Hid (∀ j y, j < k + 1 → N[j]? = some y → askBad (L.map (·.1)) i y = false) := fun he j y hj hy => by
        by_cases hjk : j = k
        · subst hjk; rw [hxk] at hy; cases hy; exact he
        · exact hall.out j y (by omega) hy
      obtain ⟨y, rfl⟩ : ∃ y : Nat, x = y := ⟨x.toNat, by omega⟩
      clear hxk
      by_cases h1 : (i : Int) < y
      · have hRf := hnok (askBad_more h1)
        subst hRf
        clear hnok hall'
        go_wp2
        go_ret
        exact ⟨rfl, hb.out⟩
      · by_cases h2 : (y : Int) < i
        · have hyn : (y : Int) < n := by omega
          have hyi : y < i := by omega
          obtain ⟨⟨s2, v2⟩, hx2⟩ := sps_i (L := L) (i := y) (by have := hin.out.2.1; omega)
          obtain ⟨b2, o2, e2, y0, y1, y2, y3, y4, y5, hv2⟩ := hin.out.step hx2
          cases e2
          have hs2 := map_fst hx2
          cases hneg : s2.neg with
          | true =>
            have hRf := hnok (askBad_neg hyi hs2 hneg)
            subst hRf
            rw [hneg] at y0
            clear hnok hall' hs2 hneg hx2 hv2
            go_wp2
            go_ret
            exact ⟨rfl, hb.out⟩
          | false =>
            rw [hneg] at y0
            cases hmx : s2.max == 1 with
            | true =>
              have hmx' : (s2.max != 1) = false := by simp [bne, hmx]
              replace hall' := hall' (askBad_max hyi hs2 hneg true hmx)
              clear hnok hs2 hneg hx2 hv2 hmx
              go_wp2
              go_round
              case rel => exact ⟨k + 1, by omega, by go_num, hall'⟩
              case measure => simp [intOf]; omega
            | false =>
              have hmx' : (s2.max != 1) = true := by simp [bne, hmx]
              have hRf := hnok (askBad_max hyi hs2 hneg false hmx)
              subst hRf
              clear hnok hall' hs2 hneg hx2 hv2 hmx
              go_wp2
              go_ret
              exact ⟨rfl, hb.out⟩
        · replace hall' := hall' (askBad_own h1 h2)
          clear hnok
          go_wp2
          go_round
          case rel => exact ⟨k + 1, by omega, by go_num, hall'⟩
          case measure => simp [intOf]; omega
    · obtain rfl : k = q := by omega
      have hlti : ¬ (k : Int) < k := by omega
      have hRt : R = true := hyes.out hall.out
      subst hRt
      go_wp2
      go_ret
      exact ⟨by show Ending.returned (Value.bool _) = _; simp; omega, hb.out⟩
/-- Which rule the document's own kept asks: 3, 4, 5, or 7. -/
theorem refKept_L (k : Nat) (hk : k = 2 ∨ k = 3 ∨ k = 4 ∨ k = 6) (i : Nat) (a1 : Option Addr) (n c1 : Nat) (win : Int) (L : List (Sp × Value)) (s : Sp) (v : Value) (w : World) (hn : L.length = n) (hx : L[i]? = some (s, v)) (hn2 : n ≤ 1000000) (hm : s.cs.length ≤ 20)
    (hpos : ∀ x ∈ namesC s.cs, 0 ≤ x) (h : SpsL w (.slice a1 n c1) L) :
    Calls Tryz.prog 70 #[ptV (.slice a1 n c1) win, .int .i64 ((k : Int) + 1), .int .i64 i] w fun e w' => e = .returned (.bool (ruleB (L.map (·.1)) win k i s)) ∧ Below w.heap.size w w' := by
  have hb := Lib.hid (kept_new w (.cells #[.slice a1 n c1, .int .i64 win] 24))
  have h1 := h.later hb.out
  have c0 := (PtBox.new w (.slice a1 n c1) win).c0
  have c1' := (PtBox.new w (.slice a1 n c1) win).c1
  rcases hk with rfl | rfl | rfl | rfl
  · have hC := Lib.hid (refThree_L a1 n c1 win i s v L _ hn hx h1)
    clear h h1 hx hn hpos
    go_enter Tryz.func70, Tryz.ntmps70
    go_wp2_with ((with_reducible refine hC.out.mono ?_); rintro e w2 ⟨rfl, hb2⟩)
    go_ret
    exact ⟨rfl, kept_trans hb.out hb2⟩
  · have hC := Lib.hid (refFour_L a1 n c1 win i s v L _ hn hn2 hx h1)
    clear h h1 hx hn hpos
    go_enter Tryz.func70, Tryz.ntmps70
    go_wp2_with ((with_reducible refine hC.out.mono ?_); rintro e w2 ⟨rfl, hb2⟩)
    go_ret
    exact ⟨rfl, kept_trans hb.out hb2⟩
  · have hC := Lib.hid (refFive_L a1 n c1 win i s v L _ hn hx h1)
    clear h h1 hx hn hpos
    go_enter Tryz.func70, Tryz.ntmps70
    go_wp2_with ((with_reducible refine hC.out.mono ?_); rintro e w2 ⟨rfl, hb2⟩)
    go_ret
    exact ⟨rfl, kept_trans hb.out hb2⟩
  · have hC := Lib.hid (refSeven_L i a1 n c1 win L s v _ hn hx hn2 hm hpos h1)
    clear h h1 hx hn hpos
    go_enter Tryz.func70, Tryz.ntmps70
    go_wp2_with ((with_reducible refine hC.out.mono ?_); rintro e w2 ⟨rfl, hb2⟩)
    go_ret
    exact ⟨rfl, kept_trans hb.out hb2⟩
def badI (ss : List Sp) (win : Int) (k : Nat) : Int := match badAt ss win k with | some i => (i : Int) | none => -1
theorem badI_first {ss : List Sp} {win : Int} {k : Nat} {s : Sp} (hs : ss[0]? = some s) (h : ruleB ss win k 0 s = true → KeptAll ss win k) : badI ss win k = neg1 (ruleB ss win k 0 s) := by
  unfold badI
  cases hb : ruleB ss win k 0 s with
  | true => rw [badAt_none.2 (h hb)]; rfl
  | false => rw [badAt_some hs hb (fun j t hj => by omega)]; rfl
theorem badI_at {ss : List Sp} {win : Int} {k i : Nat} {s : Sp} (hs : ss[i]? = some s) (hb : ruleB ss win k i s = false) (hj : ∀ j t, j < i → ss[j]? = some t → ruleB ss win k j t = true) : badI ss win k = i := by
  unfold badI; rw [badAt_some hs hb hj]
theorem badI_none {ss : List Sp} {win : Int} {k : Nat} (h : KeptAll ss win k) : badI ss win k = -1 := by unfold badI; rw [badAt_none.2 h]
set_option maxRecDepth 100000 in
set_option maxHeartbeats 2000000 in
theorem refBroken_L (k : Nat) (hk : k < 7) (a : Option Addr) (n c : Nat) (win : Int) (L : List (Sp × Value)) (w : World) (hl : L.length = n) (hn1 : 1 ≤ n) (hn : n ≤ 1000) (hr : rightP (L.map (·.1)) win = true) (hc : ∀ x ∈ L, x.1.cs.length ≤ 20) (h : SpsL w (.slice a n c) L) :
    Calls Tryz.prog 51 #[ptV (.slice a n c) win, .int .i64 ((k : Int) + 1)] w fun e w' => e = .returned (.int .i64 (badI (L.map (·.1)) win k)) ∧ Below w.heap.size w w' := by
  have hb := Lib.hid (kept_new w (.cells #[.slice a n c, .int .i64 win] 24))
  have hin : PtIn w.heap.size a n c win L (w.alloc (.cells #[.slice a n c, .int .i64 win] 24)) := ⟨PtBox.new w _ _, hl, h.later hb.out⟩
  have c0 := hin.1.c0
  have c1 := hin.1.c1
  obtain ⟨⟨s0, v0⟩, hx0⟩ := sps_i (L := L) (i := 0) (by omega)
  have hs0 := map_fst hx0
  have hk' : (k = 0 ∨ k = 1 ∨ k = 5) ∨ (k = 2 ∨ k = 3 ∨ k = 4 ∨ k = 6) := by omega
  rcases hk' with hk' | hk'
  · rcases hk' with rfl | rfl | rfl
    · have hC := refOne_L a n c win L _ hl hin.2.2
      rw [show neg1 (decide (n ≤ 6) && decide (win ≤ 1073741824)) = badI (L.map (·.1)) win 0 from by
        rw [badI_first (ss := L.map (·.1)) (win := win) (k := 0) hs0 (fun hh i s hs => hh)]; simp [ruleB, hl]] at hC
      replace hC := Lib.hid hC
      clear hin hx0 hs0 h hl hr hc
      go_enter Tryz.func51, Tryz.ntmps51
      go_wp2_with ((with_reducible refine hC.out.mono ?_); rintro e w2 ⟨rfl, hb2⟩)
      go_ret
      exact ⟨rfl, kept_trans hb.out hb2⟩
    · have hC := refTwo_L a n c win L _ hl hn1 hin.2.2
      rw [show neg1 (!(stepA (L.map (·.1)) 0).neg && !(stepA (L.map (·.1)) 0).strict) = badI (L.map (·.1)) win 1 from by
        rw [badI_first hs0 (fun hh i s hs => by
          by_cases h0 : i = 0
          · subst h0; rw [hs0] at hs; cases hs; exact hh
          · simp [ruleB]; left; omega)]
        rw [stepA_of hs0]; simp [ruleB]] at hC
      replace hC := Lib.hid hC
      clear hin hx0 hs0 h hl hr hc
      go_enter Tryz.func51, Tryz.ntmps51
      go_wp2_with ((with_reducible refine hC.out.mono ?_); rintro e w2 ⟨rfl, hb2⟩)
      go_ret
      exact ⟨rfl, kept_trans hb.out hb2⟩
    · have hC := refSix_L a n c win L _ hl hn hr hin.2.2
      rw [show neg1 (decide (mostP (L.map (·.1)) ≤ 4)) = badI (L.map (·.1)) win 5 from by
        rw [badI_first (ss := L.map (·.1)) (win := win) (k := 5) hs0 (fun hh i s hs => hh)]; simp [ruleB]] at hC
      replace hC := Lib.hid hC
      clear hin hx0 hs0 h hl hr hc
      go_enter Tryz.func51, Tryz.ntmps51
      go_wp2_with ((with_reducible refine hC.out.mono ?_); rintro e w2 ⟨rfl, hb2⟩)
      go_ret
      exact ⟨rfl, kept_trans hb.out hb2⟩
  · have e1 : ((k : Int) + 1 == 1) = false := by simp; omega
    have e2 : ((k : Int) + 1 == 2) = false := by simp; omega
    have e6 : ((k : Int) + 1 == 6) = false := by simp; omega
    have hKt := Lib.hid (fun (i : Nat) (s : Sp) (v : Value) (W : World) (hx : L[i]? = some (s, v)) (hW : PtIn w.heap.size a n c win L W) => refKept_L k hk' i a n c win L s v W hl hx (by omega) (hc _ (List.mem_of_getElem? hx)) (names_pos (right_step hr (map_fst hx))) hW.2.2)
    obtain ⟨R, hR⟩ : ∃ R, badI (L.map (·.1)) win k = R := ⟨_, rfl⟩
    rw [hR]
    have hat := Lib.hid (fun (i : Nat) (s : Sp) (hs : (L.map (·.1))[i]? = some s) (hb : ruleB (L.map (·.1)) win k i s = false) hj => (badI_at hs hb hj).symm.trans hR)
    have hno := Lib.hid (fun (hh : KeptAll (L.map (·.1)) win k) => (badI_none hh).symm.trans hR)
    obtain ⟨kk, hkk⟩ : ∃ kk, (k : Int) + 1 = kk := ⟨_, rfl⟩
    rw [hkk] at e1 e2 e6 ⊢
    have hkk' := Lib.hid hkk
    replace hin := Lib.hid hin
    replace hl := Lib.hid hl
    clear hx0 hs0 h hr hc hR hk' hkk hk
    go_enter Tryz.func51, Tryz.ntmps51
    go_wp2_with fail
    clear c0 c1
    generalize (w.alloc (.cells #[.slice a n c, .int .i64 win] 24)) = w0 at *
    generalize hB : w.heap.size = B at *
    replace hb : Hid (Below w.heap.size w w0) := by rw [hB]; exact hb
    replace hB := Lib.hid hB
    go_loopw [5] (fun t wr => ∃ i : Nat, i ≤ n ∧ t = .int .i64 i ∧ Hid (Below w0.heap.size w0 wr) ∧ Hid (∀ j s, j < i → (L.map (·.1))[j]? = some s → ruleB (L.map (·.1)) win k j s = true)) (fun t _ => n - (intOf t).toNat)
    case atStart => exact ⟨0, Nat.zero_le _, rfl, Below.refl _ _, fun j s hj => by omega⟩
    case round =>
      obtain ⟨i, hi, rfl, hwr, hall⟩ := hrel
      have hpr := Lib.hid (hin.out.later hwr.out)
      have c0 := hpr.out.1.c0
      have c1 := hpr.out.1.c1
      by_cases hlt : i < n
      · have hlti : (i : Int) < n := by omega
        obtain ⟨⟨s, v⟩, hx⟩ := sps_i (L := L) (i := i) (by rw [hl.out]; exact hlt)
        have hC := hKt.out i s v wr hx hpr.out
        have hss := map_fst hx
        rw [hkk'.out] at hC
        cases hok : ruleB (L.map (·.1)) win k i s with
        | true =>
          rw [hok] at hC
          have hall' : Hid (∀ j t, j < i + 1 → (L.map (·.1))[j]? = some t → ruleB (L.map (·.1)) win k j t = true) := fun j t hj ht => by
            by_cases e : j = i
            · subst e; rw [hss] at ht; cases ht; exact hok
            · exact hall.out j t (by omega) ht
          replace hC := Lib.hid hC
          clear hx hss hok
          go_wp2_with ((with_reducible refine hC.out.mono ?_); rintro e w2 ⟨rfl, hb2⟩)
          have hw2 := Lib.hid (kept_trans hwr.out hb2)
          clear hb2 hC
          go_roundw
          case rel => exact ⟨i + 1, by omega, by go_num, hw2, hall'⟩
          case measure => simp [intOf]; omega
        | false =>
          rw [hok] at hC
          have hRi := hat.out i s hss hok hall.out
          subst hRi
          replace hC := Lib.hid hC
          clear hx hss hok
          go_wp2_with ((with_reducible refine hC.out.mono ?_); rintro e w2 ⟨rfl, hb2⟩)
          go_ret
          exact ⟨rfl, kept_trans hb.out (kept_trans hwr.out hb2)⟩
      · obtain rfl : i = n := by omega
        have hlti : ¬ (i : Int) < i := by omega
        have hRi := hno.out (fun j s hs => hall.out j s (by have := (List.getElem?_eq_some_iff.1 hs).1; rw [List.length_map, hl.out] at this; exact this) hs)
        subst hRi
        go_wp2
        go_ret
        exact ⟨rfl, kept_trans hb.out hwr.out⟩
theorem checkT_at {ss : List Sp} {win : Int} {k i : Nat} (h : rightP ss win = true) (hk : k < 7) (hj : ∀ j, j < k → KeptAll ss win j) (hb : badAt ss win k = some i) : checkT ss win = ((k : Int) + 1, (i : Int), 110) := by
  unfold checkT; rw [checkK_some hk hj hb]; simp [h]
set_option maxRecDepth 100000 in
set_option maxHeartbeats 2000000 in
theorem refCheck_L (a : Option Addr) (n c : Nat) (win : Int) (L : List (Sp × Value)) (hS : Short L) (w : World) (hl : L.length = n) (hn : n ≤ 1000) (hc : ∀ x ∈ L, x.1.cs.length ≤ 20) (h : SpsL w (.slice a n c) L) :
    Calls Tryz.prog 27 #[ptV (.slice a n c) win] w fun e w' => e = .returned (.tuple #[.int .i64 (checkT (L.map (·.1)) win).1, .int .i64 (checkT (L.map (·.1)) win).2.1, .int .i64 (checkT (L.map (·.1)) win).2.2]) ∧ Below w.heap.size w w' := by
  have hb := Lib.hid (kept_new w (.cells #[.slice a n c, .int .i64 win] 24))
  have hin : PtIn w.heap.size a n c win L (w.alloc (.cells #[.slice a n c, .int .i64 win] 24)) := ⟨PtBox.new w _ _, hl, h.later hb.out⟩
  have c0 := hin.1.c0
  have c1 := hin.1.c1
  have hRt := refRight_V win hS _ hin.2.2
  obtain ⟨r1, r2, r3, hT⟩ : ∃ r1 r2 r3, checkT (L.map (·.1)) win = (r1, r2, r3) := ⟨_, _, _, rfl⟩
  rw [hT]
  dsimp only
  cases hr : rightP (L.map (·.1)) win with
  | false =>
    rw [hr] at hRt
    rw [checkT_wrong hr] at hT
    simp only [Prod.mk.injEq] at hT
    obtain ⟨rfl, rfl, rfl⟩ := hT
    replace hRt := Lib.hid hRt
    clear hin h hl hr hc
    go_enter Tryz.func27, Tryz.ntmps27
    go_wp2_with ((with_reducible refine hRt.out.mono ?_); rintro e w2 ⟨rfl, hb2⟩)
    exact bodyPost_ret (v := .tuple #[.int .i64 0, .int .i64 0, .int .i64 2]) (by simp [results, Tryz.results27, go_sem]) rfl ⟨rfl, kept_trans hb.out hb2⟩
  | true =>
    rw [hr] at hRt
    have hn1 : 1 ≤ n := by
      unfold rightP at hr
      simp only [Bool.and_eq_true, decide_eq_true_eq, List.length_map] at hr
      omega
    have hBr := Lib.hid (fun (k : Nat) (hk : k < 7) (W : World) (hW : PtIn w.heap.size a n c win L W) => refBroken_L k hk a n c win L W hl hn1 hn hr hc hW.2.2)
    have hAt := Lib.hid (fun (k i : Nat) hk hj hb => (checkT_at (ss := L.map (·.1)) (win := win) (k := k) (i := i) hr hk hj hb).symm.trans hT)
    have hOk := Lib.hid (fun hk => (checkT_ok (ss := L.map (·.1)) (win := win) hr hk).symm.trans hT)
    replace hRt := Lib.hid hRt
    replace hin := Lib.hid hin
    clear h hl hr hc hT
    go_enter Tryz.func27, Tryz.ntmps27
    go_wp2_with ((with_reducible refine hRt.out.mono ?_); rintro e w2 ⟨rfl, hb2⟩)
    have hb3 := Lib.hid (kept_trans hb.out hb2)
    have hin3 := Lib.hid (hin.out.later hb2)
    clear c0 c1 hRt hin hb hb2
    go_loopw [5] (fun t wr => ∃ k : Nat, k ≤ 7 ∧ t = .int .i64 ((k : Int) + 1) ∧ Hid (Below w2.heap.size w2 wr) ∧ Hid (∀ j, j < k → KeptAll (L.map (·.1)) win j)) (fun t _ => 8 - (intOf t).toNat)
    case atStart => exact ⟨0, by omega, rfl, Below.refl _ _, fun j hj => by omega⟩
    case round =>
      obtain ⟨k, hk, rfl, hwr, hall⟩ := hrel
      have hpr := Lib.hid (hin3.out.later hwr.out)
      have c0 := hpr.out.1.c0
      have c1 := hpr.out.1.c1
      by_cases hlt : k < 7
      · have hlti : (k : Int) + 1 ≤ 7 := by omega
        have hC := hBr.out k hlt wr hpr.out
        cases hbd : badAt (L.map (·.1)) win k with
        | none =>
          have hbi : badI (L.map (·.1)) win k = -1 := by unfold badI; rw [hbd]
          rw [hbi] at hC
          have hall' : Hid (∀ j, j < k + 1 → KeptAll (L.map (·.1)) win j) := fun j hj => by
            by_cases e : j = k
            · subst e; exact badAt_none.1 hbd
            · exact hall.out j (by omega)
          replace hC := Lib.hid hC
          clear hbd hbi
          have hk2 : (k : Int) + 1 + 1 = ((k + 1 : Nat) : Int) + 1 := by omega
          replace hk2 := Lib.hid hk2
          go_wp2_with ((with_reducible refine hC.out.mono ?_); rintro e w4 ⟨rfl, hb4⟩)
          have hw4 := Lib.hid (kept_trans hwr.out hb4)
          clear hb4 hC
          go_roundw
          case rel => exact ⟨k + 1, by omega, by first | (rw [hk2.out]) | (simp; omega), hw4, hall'⟩
          case measure => simp [intOf]; omega
        | some i =>
          have hbi : badI (L.map (·.1)) win k = i := by unfold badI; rw [hbd]
          rw [hbi] at hC
          have hTT := hAt.out k i hlt hall.out hbd
          simp only [Prod.mk.injEq] at hTT
          obtain ⟨rfl, rfl, rfl⟩ := hTT
          have hi0 : (0 : Int) ≤ i := by omega
          replace hC := Lib.hid hC
          clear hbd hbi
          go_wp2_with ((with_reducible refine hC.out.mono ?_); rintro e w4 ⟨rfl, hb4⟩)
          exact bodyPost_ret (v := .tuple #[.int .i64 ((k : Int) + 1), .int .i64 i, .int .i64 110]) (by simp [results, Tryz.results27, go_sem]) rfl ⟨rfl, kept_trans hb3.out (kept_trans hwr.out hb4)⟩
      · obtain rfl : k = 7 := by omega
        have hTT := hOk.out hall.out
        simp only [Prod.mk.injEq] at hTT
        obtain ⟨rfl, rfl, rfl⟩ := hTT
        rw [show ((7 : Nat) : Int) + 1 = 8 from rfl]
        go_wp2
        exact bodyPost_ret (v := .tuple #[.int .i64 0, .int .i64 0, .int .i64 0]) (by simp [results, Tryz.results27, go_sem]) rfl ⟨rfl, kept_trans hb3.out hwr.out⟩
theorem refMay_L (a : Option Addr) (n c : Nat) (win : Int) (L : List (Sp × Value)) (hS : Short L) (w : World) (hl : L.length = n) (hn : n ≤ 1000) (hc : ∀ x ∈ L, x.1.cs.length ≤ 20) (h : SpsL w (.slice a n c) L) :
    Calls Tryz.prog 8 #[ptV (.slice a n c) win] w fun e w' => e = .returned (.bool (mayB (L.map (·.1)) win)) ∧ Below w.heap.size w w' := by
  have hb := Lib.hid (kept_new w (.cells #[.slice a n c, .int .i64 win] 24))
  have hA := refCheck_L a n c win L hS _ hl hn hc (h.later hb.out)
  have c0 := (PtBox.new w (.slice a n c) win).c0
  have c1 := (PtBox.new w (.slice a n c) win).c1
  unfold mayB
  obtain ⟨r1, r2, r3, hT⟩ : ∃ r1 r2 r3, checkT (L.map (·.1)) win = (r1, r2, r3) := ⟨_, _, _, rfl⟩
  rw [hT] at hA ⊢
  replace hA := Lib.hid hA
  clear h hc hT hl
  dsimp only at hA ⊢
  go_enter Tryz.func8, Tryz.ntmps8
  go_wp2_with ((with_reducible refine hA.out.mono ?_); rintro e w2 ⟨rfl, hb2⟩)
  go_ret
  exact ⟨rfl, kept_trans hb.out hb2⟩
end Go.Proofs.YtccmnngeibpcmaaGreat.Tree
