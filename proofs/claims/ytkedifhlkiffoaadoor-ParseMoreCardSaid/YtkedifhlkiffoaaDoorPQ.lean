/-
  Parsing hangs on the tokens' kinds and numbers alone; a text with two blanks more ahead of a token.
-/
import Derived.Test.YtkedifhlkiffoaaDoorPP
namespace Go.Proofs.YtkedifhlkiffoaaDoor
open Go.ChangeShapes Go.WideShapes Go.ChangeAt Go.RowKit
open Tree (Tm Cp Sp)
set_option linter.unusedVariables false
set_option linter.unusedSimpArgs false
section
variable {ts us : List (Tk × Nat)}
theorem at_congr (h : ts.map (·.1) = us.map (·.1)) (k : Nat) : (ts[k]?).map (·.1) = (us[k]?).map (·.1) := by
  have := congrArg (fun l => l[k]?) h
  simpa using this
theorem at_cases (h : ts.map (·.1) = us.map (·.1)) (k : Nat) : (ts[k]? = none ∧ us[k]? = none) ∨ ∃ t p q, ts[k]? = some (t, p) ∧ us[k]? = some (t, q) := by
  have := at_congr h k
  cases e1 : ts[k]? with
  | none => rw [e1] at this; cases e2 : us[k]? with
    | none => exact .inl ⟨rfl, rfl⟩
    | some y => rw [e2] at this; cases this
  | some x => rw [e1] at this; cases e2 : us[k]? with
    | none => rw [e2] at this; cases this
    | some y =>
      rw [e2] at this
      obtain ⟨t, p⟩ := x
      obtain ⟨t', q⟩ := y
      simp at this
      subst this
      exact .inr ⟨t, p, q, rfl, rfl⟩
theorem one_congr (h : ts.map (·.1) = us.map (·.1)) : oneP ts = oneP us := by
  funext kd k
  unfold oneP
  rcases at_cases h k with ⟨e1, e2⟩ | ⟨t, p, q, e1, e2⟩ <;> rw [e1, e2]
theorem must_congr (h : ts.map (·.1) = us.map (·.1)) : mustP ts = mustP us := by
  funext kd n k
  unfold mustP
  rcases at_cases h k with ⟨e1, e2⟩ | ⟨t, p, q, e1, e2⟩ <;> rw [e1, e2]
theorem may_congr (h : ts.map (·.1) = us.map (·.1)) : mayP ts = mayP us := by
  funext kd n k
  unfold mayP
  rcases at_cases h k with ⟨e1, e2⟩ | ⟨t, p, q, e1, e2⟩ <;> rw [e1, e2]
theorem kind_congr (h : ts.map (·.1) = us.map (·.1)) : kindAt ts = kindAt us := by
  funext k
  unfold kindAt
  rcases at_cases h k with ⟨e1, e2⟩ | ⟨t, p, q, e1, e2⟩ <;> rw [e1, e2]
theorem more_congr (h : ts.map (·.1) = us.map (·.1)) : moreP ts = moreP us := by
  funext k; unfold moreP; rw [one_congr h, may_congr h]
theorem ofOne_congr (h : ts.map (·.1) = us.map (·.1)) : ofOneP ts = ofOneP us := by
  funext k; unfold ofOneP; rw [one_congr h, must_congr h, more_congr h]
theorem ofTwo_congr (h : ts.map (·.1) = us.map (·.1)) : ofTwoP ts = ofTwoP us := by
  funext k; unfold ofTwoP; rw [one_congr h, must_congr h, more_congr h]
theorem named_congr (h : ts.map (·.1) = us.map (·.1)) : namedP ts = namedP us := by
  funext k; unfold namedP; rw [one_congr h, ofOne_congr h, ofTwo_congr h]
theorem term_congr (h : ts.map (·.1) = us.map (·.1)) : termP ts = termP us := by
  funext k; unfold termP; rw [one_congr h, kind_congr h, may_congr h, named_congr h]
theorem cmp_congr (h : ts.map (·.1) = us.map (·.1)) : cmpP ts = cmpP us := by
  funext k; unfold cmpP; rw [one_congr h, term_congr h]
theorem cmpsF_congr (h : ts.map (·.1) = us.map (·.1)) : ∀ f, cmpsF ts f = cmpsF us f := by
  intro f
  induction f with
  | zero => rfl
  | succ f ih => funext k; unfold cmpsF; rw [cmp_congr h, may_congr h, must_congr h, ih]
theorem len_congr (h : ts.map (·.1) = us.map (·.1)) : ts.length = us.length := by
  have := congrArg List.length h
  simpa using this
theorem list_congr (h : ts.map (·.1) = us.map (·.1)) : listP ts = listP us := by
  funext k; unfold listP cmpsP; rw [may_congr h, cmpsF_congr h, len_congr h]
theorem times_congr (h : ts.map (·.1) = us.map (·.1)) : timesP ts = timesP us := by
  funext k; unfold timesP spanP; rw [may_congr h, one_congr h, must_congr h]
theorem step_congr (h : ts.map (·.1) = us.map (·.1)) : stepP ts = stepP us := by
  funext i strict k; unfold stepP mayK; rw [may_congr h, one_congr h, must_congr h, times_congr h, list_congr h]
theorem end_congr (h : ts.map (·.1) = us.map (·.1)) : endP ts = endP us := by
  funext k; unfold endP; rw [one_congr h, must_congr h]
theorem patF_congr (h : ts.map (·.1) = us.map (·.1)) : ∀ f, patF ts f = patF us f := by
  intro f
  induction f with
  | zero => rfl
  | succ f ih => funext i strict k; unfold patF; rw [step_congr h, may_congr h, end_congr h, ih]
theorem patP_congr (h : ts.map (·.1) = us.map (·.1)) : patP ts = patP us := by
  unfold patP; rw [patF_congr h, len_congr h]
end
/-- Tokens stand one behind the other. -/
theorem Toks.rise {e : Bs} {p : Nat} {l : Bs} {ts : List (Tk × Nat)} (h : Toks e p l ts) : ∀ (i j : Nat) (x y : Tk × Nat), i < j → ts[i]? = some x → ts[j]? = some y → x.2 < y.2 := by
  induction h with
  | fin p b h1 h2 =>
    intro i j x y hij hx hy
    have := (List.getElem?_eq_some_iff.1 hy).1
    simp at this
    omega
  | tok p b t r ts h1 h2 h3 ih =>
    intro i j x y hij hx hy
    rcases j with _ | j
    · omega
    · rcases i with _ | i
      · simp at hx hy
        subst hx
        have := (h3.ge y (List.mem_of_getElem? hy)).1
        have hl : 0 < (textT t).length := List.length_pos_iff.2 h1
        simp only
        omega
      · exact ih i j x y (by omega) (by simpa using hx) (by simpa using hy)
def putB (l : Bs) (p : Nat) : Bs := l.take p ++ [32, 32] ++ l.drop p
def farB (ts : List (Tk × Nat)) (k : Nat) : List (Tk × Nat) := ts.take k ++ far (far (ts.drop k))
theorem far_fst (ts : List (Tk × Nat)) : (far ts).map (·.1) = ts.map (·.1) := by unfold far; simp
theorem farB_fst (ts : List (Tk × Nat)) (k : Nat) : (farB ts k).map (·.1) = ts.map (·.1) := by
  unfold farB
  rw [List.map_append, far_fst, far_fst, ← List.map_append, List.take_append_drop]
theorem farB_at (ts : List (Tk × Nat)) (k i : Nat) (x : Tk × Nat) (h : ts[i]? = some x) : (farB ts k)[i]? = some (if k ≤ i then (x.1, x.2 + 2) else x) := by
  have hi := (List.getElem?_eq_some_iff.1 h).1
  unfold farB far
  by_cases hk : k ≤ i
  · rw [if_pos hk, List.getElem?_append_right (by simp; omega), List.length_take, Nat.min_eq_left (by omega), List.getElem?_map, List.getElem?_map, List.getElem?_drop, show k + (i - k) = i by omega, h]
    rfl
  · rw [if_neg hk, List.getElem?_append_left (by simp; omega), List.getElem?_take, if_pos (by omega), h]
theorem blanks_pure (l : Bs) (h : ∀ x ∈ toks l, x.1.k ≠ 6) (k : Nat) (x : Tk × Nat) (hx : (toks l)[k]? = some x) :
    x.2 ≤ l.length ∧ toks (putB l x.2) = farB (toks l) k ∧ ∀ y ∈ toks (putB l x.2), y.1.k ≠ 6 := by
  have hw := toks_whole l h
  have hle := (hw.ge x (List.mem_of_getElem? hx)).2
  have h1 := hw.part k x hx
  rw [Nat.sub_zero] at h1
  have hk := (List.getElem?_eq_some_iff.1 hx).1
  have hx2 : ((toks l).take k ++ far ((toks l).drop k))[k]? = some (x.1, x.2 + 1) := by
    rw [List.getElem?_append_right (by simp; omega), List.length_take, Nat.min_eq_left (by omega)]
    unfold far
    rw [List.getElem?_map, List.getElem?_drop, show k + (k - k) = k by omega, hx]
    rfl
  have h2 := h1.part k _ hx2
  rw [Nat.sub_zero] at h2
  have e1 : (l.take x.2 ++ 32 :: l.drop x.2).take (x.2 + 1) = l.take x.2 ++ [32] := by
    rw [List.take_append, List.take_of_length_le (by simp; omega), List.length_take, Nat.min_eq_left (by omega), show x.2 + 1 - x.2 = 1 by omega]
    rfl
  have e2 : (l.take x.2 ++ 32 :: l.drop x.2).drop (x.2 + 1) = l.drop x.2 := by
    rw [List.drop_append, List.drop_of_length_le (by simp; omega), List.length_take, Nat.min_eq_left (by omega), show x.2 + 1 - x.2 = 1 by omega]
    rfl
  have e3 : ((toks l).take k ++ far ((toks l).drop k)).take k = (toks l).take k := by
    rw [List.take_append, List.length_take, Nat.min_eq_left (by omega), Nat.sub_self, List.take_take, Nat.min_self]
    simp
  have e4 : ((toks l).take k ++ far ((toks l).drop k)).drop k = far ((toks l).drop k) := by
    rw [List.drop_append, List.length_take, Nat.min_eq_left (by omega), Nat.sub_self, List.drop_of_length_le (by simp; omega)]
    rfl
  simp only at h2
  rw [e1, e2, e3, e4] at h2
  have h3 : toks (putB l x.2) = farB (toks l) k := by
    have : putB l x.2 = l.take x.2 ++ [32] ++ 32 :: l.drop x.2 := by unfold putB; simp
    rw [this]
    exact h2.all
  refine ⟨by omega, h3, fun y hy => ?_⟩
  have hm : y.1 ∈ (toks l).map (·.1) := by
    rw [← farB_fst (toks l) k, ← h3]
    exact List.mem_map.2 ⟨y, hy, rfl⟩
  obtain ⟨z, hz, e⟩ := List.mem_map.1 hm
  rw [← e]
  exact h z hz
end Go.Proofs.YtkedifhlkiffoaaDoor
