/-
  What becomes of the tokens of a text with a byte more, with a blank put in, of tokens' bytes put together; where each token stands.
-/
import Derived.Test.YtkedifhlkiffoaaDoorLM
namespace Go.Proofs.YtkedifhlkiffoaaDoor
open Go.RowKit
set_option linter.unusedVariables false
set_option linter.unusedSimpArgs false
/-- A byte that is in no token, and no blank. -/
def NoByte (c : UInt8) : Prop := c ≠ 32 ∧ inR 48 57 c = false ∧ inR 97 122 c = false ∧ (∀ d ∈ ([33, 123, 125, 91, 93, 40, 41, 44, 59, 38, 43, 45, 60, 62, 61] : Bs), c ≠ d)
theorem NoByte.first {c : UInt8} (h : NoByte c) : firstT [c] = ⟨6, 0⟩ := by
  obtain ⟨h0, h1, h2, h3⟩ := h
  rw [first_plain c [] h1 h2, longL_cons]
  have a60 := h3 60 (by simp)
  have a61 := h3 61 (by simp)
  have a62 := h3 62 (by simp)
  have a33 := h3 33 (by simp)
  rw [if_neg a60, if_neg a61, if_neg a33, if_neg a62, if_neg (by decide), if_neg ?_]
  intro hs
  have := List.any_eq_true.1 hs
  obtain ⟨d, hd, he⟩ := this
  refine h3 d (List.mem_append_left [60, 62, 61] hd) ?_
  exact UInt8.toNat_inj.1 (by have := (beq_iff_eq.1 he).symm; omega)
theorem NoByte.next {c : UInt8} (h : NoByte c) (t : Tk) : okNext t (some c) = true := by
  obtain ⟨h0, h1, h2, h3⟩ := h
  have a61 := h3 61 (by simp)
  simp [okNext, h1, h2, a61]
theorem head_app {l m : Bs} : (l ++ m).head? = (l.head?).or m.head? := by cases l <;> simp
theorem Toks.bad {p : Nat} {l : Bs} {ts : List (Tk × Nat)} (h : Toks [] p l ts) (c : UInt8) (hc : NoByte c) : ∃ us, Toks [c] p (l ++ [c]) (us ++ [(⟨6, 0⟩, p + l.length)]) := by
  induction h with
  | fin p b h1 h2 =>
    have := Toks.fin (e := [c]) p b (by simpa using hc.1) (by rw [hc.first]; rfl)
    rw [hc.first] at this
    exact ⟨[], by simpa [bl_len] using this⟩
  | tok p b t r ts h1 h2 h3 ih =>
    obtain ⟨us, ih⟩ := ih
    refine ⟨(t, p + b) :: us, ?_⟩
    have := Toks.tok (e := [c]) p b t (r ++ [c]) _ h1 (by
      rw [head_app]
      cases hr : r.head? with
      | none => exact hc.next t
      | some d => simpa [hr] using h2) ih
    simp only [List.append_assoc, List.length_append, bl_len, List.cons_append, Nat.add_assoc] at this ⊢
    exact this
/-- All places behind go one further. -/
def far (ts : List (Tk × Nat)) : List (Tk × Nat) := ts.map fun x => (x.1, x.2 + 1)
theorem Toks.later {e : Bs} {p : Nat} {l : Bs} {ts : List (Tk × Nat)} (h : Toks e p l ts) : Toks e (p + 1) l (far ts) := by
  induction h with
  | fin p b h1 h2 =>
    have := Toks.fin (e := e) (p + 1) b h1 h2
    simpa [far, Nat.add_right_comm] using this
  | tok p b t r ts h1 h2 h3 ih =>
    have e1 : p + 1 + b + (textT t).length = p + b + (textT t).length + 1 := by omega
    have := Toks.tok (e := e) (p + 1) b t r (far ts) h1 h2 (by rw [e1]; exact ih)
    simpa [far, Nat.add_right_comm] using this
theorem Toks.ge {e : Bs} {p : Nat} {l : Bs} {ts : List (Tk × Nat)} (h : Toks e p l ts) : ∀ x ∈ ts, p ≤ x.2 ∧ x.2 ≤ p + l.length := by
  induction h with
  | fin p b h1 h2 => intro x hx; obtain rfl := List.mem_singleton.1 hx; simp [bl_len]
  | tok p b t r ts h1 h2 h3 ih =>
    intro x hx
    simp only [List.length_append, bl_len]
    rcases List.mem_cons.1 hx with rfl | hx
    · simp
    · have := ih x hx; omega
/-- The tokens with a blank put in at token k. -/
theorem Toks.part {p : Nat} {l : Bs} {ts : List (Tk × Nat)} (h : Toks [] p l ts) : ∀ k x, ts[k]? = some x → Toks [] p (l.take (x.2 - p) ++ 32 :: l.drop (x.2 - p)) (ts.take k ++ far (ts.drop k)) := by
  induction h with
  | fin p b h1 h2 =>
    intro k x hx
    obtain rfl : k = 0 := by
      have := (List.getElem?_eq_some_iff.1 hx).1
      simp at this; omega
    obtain rfl : (firstT [], p + b) = x := by simpa using hx
    have := Toks.fin (e := []) p (b + 1) (by simp) rfl
    simp only [List.append_nil] at this ⊢
    have e1 : (bl b).take (p + b - p) ++ 32 :: (bl b).drop (p + b - p) = bl (b + 1) := by
      rw [show p + b - p = b by omega, List.take_of_length_le (by rw [bl_len]; exact Nat.le_refl _), List.drop_of_length_le (by rw [bl_len]; exact Nat.le_refl _)]
      unfold bl; rw [← List.replicate_append_replicate (n := b) (m := 1)]; rfl
    simp only [e1]
    simpa [far, Nat.add_assoc] using this
  | tok p b t r ts h1 h2 h3 ih =>
    intro k x hx
    cases k with
    | zero =>
      obtain rfl : (t, p + b) = x := by simpa using hx
      have e1 : p + (b + 1) + (textT t).length = p + b + (textT t).length + 1 := by omega
      have := Toks.tok (e := []) p (b + 1) t r (far ts) h1 h2 (by rw [e1]; exact h3.later)
      have e2 : (bl b ++ (textT t ++ r)).take (p + b - p) ++ 32 :: (bl b ++ (textT t ++ r)).drop (p + b - p) = bl (b + 1) ++ (textT t ++ r) := by
        rw [show p + b - p = (bl b).length by rw [bl_len]; omega, List.take_left, List.drop_left]
        unfold bl; rw [← List.replicate_append_replicate (n := b) (m := 1)]; simp
      simp only [e2]
      simpa [far, Nat.add_assoc] using this
    | succ k =>
      have hx' : ts[k]? = some x := by simpa using hx
      have hge := h3.ge x (List.mem_of_getElem? hx')
      have i := ih k x hx'
      have hj : x.2 - p = b + ((textT t).length + (x.2 - (p + b + (textT t).length))) := by omega
      generalize x.2 - (p + b + (textT t).length) = j at *
      have e1 : (bl b ++ (textT t ++ r)).take (x.2 - p) ++ 32 :: (bl b ++ (textT t ++ r)).drop (x.2 - p) = bl b ++ (textT t ++ (r.take j ++ 32 :: r.drop j)) := by
        rw [hj, List.take_append, List.drop_append, List.take_append, List.drop_append, bl_len]
        simp only [Nat.add_sub_cancel_left]
        rw [List.take_of_length_le (by rw [bl_len]; omega), List.drop_of_length_le (by rw [bl_len]; omega), List.take_of_length_le (by omega), List.drop_of_length_le (l := textT t) (by omega)]
        simp
      rw [e1]
      have := Toks.tok (e := []) p b t (r.take j ++ 32 :: r.drop j) _ h1 (by
        rw [head_app]
        cases j with
        | zero => simp only [List.take_zero, List.head?_nil, Option.none_or, List.head?_cons]; unfold okNext; simp [show inR 48 57 32 = false by decide, show inR 97 122 32 = false by decide]
        | succ j =>
          cases r with
          | nil => simp only [List.take_nil, List.head?_nil, Option.none_or, List.head?_cons]; unfold okNext; simp [show inR 48 57 32 = false by decide, show inR 97 122 32 = false by decide]
          | cons d r => simpa using h2) i
      simpa using this
/-- Tokens' bytes, one behind the other, a blank between each two. -/
def say : List Tk → Bs
  | [] => []
  | t :: ts => textT t ++ ((if 2 ≤ ts.length then [32] else []) ++ say ts)
theorem Toks.cons_bl {e : Bs} {p : Nat} {l : Bs} {ts : List (Tk × Nat)} (h : Toks e (p + 1) l ts) : Toks e p (32 :: l) ts := by
  generalize hq : p + 1 = q at h
  cases h with
  | fin _ b h1 h2 =>
    subst hq
    have := Toks.fin (e := e) p (b + 1) h1 h2
    rw [show bl (b + 1) = 32 :: bl b by unfold bl; rw [List.replicate_succ]] at this
    rw [show p + 1 + b = p + (b + 1) by omega]
    exact this
  | tok _ b t r us h1 h2 h3 =>
    subst hq
    have := Toks.tok (e := e) p (b + 1) t r us h1 h2 (by rw [show p + (b + 1) + (textT t).length = p + 1 + b + (textT t).length by omega]; exact h3)
    rw [show bl (b + 1) = 32 :: bl b by unfold bl; rw [List.replicate_succ]] at this
    rw [show p + 1 + b = p + (b + 1) by omega]
    exact this
/-- They tell the tokens again. -/
theorem Toks.said {p : Nat} {l : Bs} {ts : List (Tk × Nat)} (h : Toks [] p l ts) : ∀ q, ∃ us, Toks [] q (say (ts.map (·.1))) us ∧ us.map (·.1) = ts.map (·.1) := by
  induction h with
  | fin p b h1 h2 =>
    intro q
    exact ⟨[(firstT [], q)], Toks.fin (e := []) q 0 (by simp) rfl, rfl⟩
  | tok p b t r ts h1 h2 h3 ih =>
    intro q
    simp only [List.map_cons, say]
    by_cases hl : 2 ≤ (ts.map (·.1)).length
    · obtain ⟨us, i1, i2⟩ := ih (q + (textT t).length + 1)
      rw [if_pos hl]
      refine ⟨(t, q + 0) :: us, ?_, by simp [i2]⟩
      have := Toks.tok (e := []) q 0 t (32 :: say (ts.map (·.1))) us h1 (by show okNext t (some 32) = true; unfold okNext; simp [show inR 48 57 32 = false by decide, show inR 97 122 32 = false by decide]) i1.cons_bl
      simpa [bl] using this
    · obtain ⟨us, i1, i2⟩ := ih (q + (textT t).length)
      rw [if_neg hl]
      have hs : say (ts.map (·.1)) = [] := by
        cases h3 with
        | fin p b h1 h2 => rfl
        | tok p' b' t' r' ts' h1' h2' h3' =>
          exfalso
          cases h3' with
          | fin => simp at hl
          | tok => simp at hl
      rw [hs] at i1
      refine ⟨(t, q + 0) :: us, ?_, by simp [i2]⟩
      have := Toks.tok (e := []) q 0 t [] us h1 rfl i1
      rw [hs]
      simpa [bl] using this
/-- Where the bytes of the tokens ahead end. -/
def endOf (p : Nat) (ts : List (Tk × Nat)) (i : Nat) : Nat := match i with | 0 => p | j + 1 => match ts[j]? with | some x => x.2 + (textT x.1).length | none => 0
/-- What is known of each token of a text. -/
theorem Toks.each {p : Nat} {l : Bs} {ts : List (Tk × Nat)} (h : Toks [] p l ts) : ∀ i x, ts[i]? = some x →
    endOf p ts i ≤ x.2 ∧ p ≤ x.2 ∧ x.2 + (textT x.1).length ≤ p + l.length ∧ (l.drop (x.2 - p)).take (textT x.1).length = textT x.1 ∧ (∀ j, endOf p ts i ≤ j → j < x.2 → p ≤ j ∧ l[j - p]? = some 32) ∧
      (i + 1 = ts.length ↔ x.1.k = 0) ∧ (i + 1 = ts.length ↔ textT x.1 = []) ∧ (i + 1 = ts.length → x.2 = p + l.length) := by
  induction h with
  | fin p b h1 h2 =>
    intro i x hx
    obtain rfl : i = 0 := by
      have := (List.getElem?_eq_some_iff.1 hx).1
      simp at this; omega
    obtain rfl : (firstT [], p + b) = x := by simpa using hx
    refine ⟨by simp [endOf], by simp, by simp [bl_len, show textT (firstT []) = [] from rfl], by simp [show textT (firstT []) = [] from rfl], fun j hj hj2 => ?_, by simp [firstT], by simp [show textT (firstT []) = [] from rfl], by simp [bl_len]⟩
    simp only [endOf] at hj
    refine ⟨hj, ?_⟩
    simp only at hj2
    rw [List.append_nil]
    unfold bl
    rw [List.getElem?_replicate, if_pos (by omega)]
  | tok p b t r ts h1 h2 h3 ih =>
    intro i x hx
    have hts : 0 < ts.length := by cases h3 <;> simp
    cases i with
    | zero =>
      obtain rfl : (t, p + b) = x := by simpa using hx
      simp only [endOf, List.length_append, bl_len, List.length_cons]
      refine ⟨by omega, by omega, by omega, ?_, fun j hj hj2 => ⟨hj, ?_⟩, ?_, ?_, fun h => by omega⟩
      · rw [show p + b - p = (bl b).length by rw [bl_len]; omega, List.drop_left, List.take_left]
      · rw [List.getElem?_append_left (by rw [bl_len]; omega)]
        unfold bl
        rw [List.getElem?_replicate, if_pos (by omega)]
      · refine ⟨fun h => by omega, fun h => ?_⟩
        exfalso; apply h1; unfold textT; simp [h]
      · exact ⟨fun h => by omega, fun h => absurd h h1⟩
    | succ i =>
      have hx' : ts[i]? = some x := by simpa using hx
      obtain ⟨i1, i2, i3, i4, i5, i6, i7, i8⟩ := ih i x hx'
      have heq : endOf p ((t, p + b) :: ts) (i + 1) = endOf (p + b + (textT t).length) ts i := by
        cases i with
        | zero => rfl
        | succ i => simp only [endOf, List.getElem?_cons_succ]
      rw [heq]
      simp only [List.length_append, bl_len, List.length_cons]
      refine ⟨i1, by omega, by omega, ?_, fun j hj hj2 => ?_, by rw [Nat.add_right_cancel_iff]; exact i6, by rw [Nat.add_right_cancel_iff]; exact i7, fun h => by have := i8 (by omega); omega⟩
      · rw [show x.2 - p = (bl b).length + ((textT t).length + (x.2 - (p + b + (textT t).length))) by rw [bl_len]; omega, ← List.drop_drop, List.drop_left, ← List.drop_drop, List.drop_left]
        exact i4
      · obtain ⟨j1, j2⟩ := i5 j hj hj2
        refine ⟨by omega, ?_⟩
        rw [List.getElem?_append_right (by rw [bl_len]; omega), bl_len, List.getElem?_append_right (by omega), show j - p - b - (textT t).length = j - (p + b + (textT t).length) by omega]
        exact j2
end Go.Proofs.YtkedifhlkiffoaaDoor
