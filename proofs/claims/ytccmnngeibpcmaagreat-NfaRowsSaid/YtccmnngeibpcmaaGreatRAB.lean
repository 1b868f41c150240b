/-
  Rising rows of numbers.
-/
import Derived.Test.YtccmnngeibpcmaaGreatRZ
import Derived.Lib.SlicesCompact
namespace Go.Proofs.YtccmnngeibpcmaaGreat.Tree
open Go.Lib
set_option linter.unusedVariables false
set_option linter.unusedSimpArgs false
def Rising (l : List Int) : Prop := l.Pairwise (· < ·)
theorem rising_ext {l k : List Int} (hl : Rising l) (hk : Rising k) (h : ∀ x, x ∈ l ↔ x ∈ k) : l = k := by
  induction l generalizing k with
  | nil =>
    cases k with
    | nil => rfl
    | cons y r => exact absurd ((h y).2 List.mem_cons_self) (by simp)
  | cons x r ih =>
    cases k with
    | nil => exact absurd ((h x).1 List.mem_cons_self) (by simp)
    | cons y q =>
      have hl1 := List.pairwise_cons.1 hl
      have hk1 := List.pairwise_cons.1 hk
      have hxy : x = y := by
        rcases List.mem_cons.1 ((h x).1 List.mem_cons_self) with e | hx
        · exact e
        · rcases List.mem_cons.1 ((h y).2 List.mem_cons_self) with e | hy
          · exact e.symm
          · have := hk1.1 x hx; have := hl1.1 y hy; omega
      subst hxy
      rw [ih hl1.2 hk1.2 (fun z => ?_)]
      have hz := h z
      simp only [List.mem_cons] at hz
      constructor
      · intro hzr
        rcases hz.1 (.inr hzr) with e | h2
        · subst e; have := hl1.1 z hzr; omega
        · exact h2
      · intro hzr
        rcases hz.2 (.inr hzr) with e | h2
        · subst e; have := hk1.1 z hzr; omega
        · exact h2
theorem compact_rising (zs : List Int) (hs : zs.Pairwise (· ≤ ·)) : Rising (compact zs) ∧ ∀ x, x ∈ compact zs ↔ x ∈ zs := by
  have key : ∀ m, m ≤ zs.length → Rising (compactUpTo zs.toArray m) ∧ (∀ x, x ∈ compactUpTo zs.toArray m ↔ ∃ j, j < m ∧ zs[j]? = some x) := by
    intro m
    induction m with
    | zero => intro _; exact ⟨by simp [compactUpTo, Rising], fun x => by simp [compactUpTo]⟩
    | succ m ih =>
      intro hm
      obtain ⟨h1, h2⟩ := ih (by omega)
      rw [compactUpTo_succ]
      have hmz : m < zs.length := by omega
      have hd : zs.toArray[m]! = zs[m] := by simp [hmz]
      by_cases hk : keeps zs.toArray m = true
      · rw [if_pos hk, hd]
        constructor
        · unfold Rising
          rw [List.pairwise_append]
          refine ⟨h1, by simp, ?_⟩
          intro x hx y hy
          have hy' := List.mem_singleton.1 hy
          subst hy'
          obtain ⟨j, hj, hjx⟩ := (h2 x).1 hx
          have hle : ∀ a b (ha : a < zs.length) (hb : b < zs.length), a < b → zs[a] ≤ zs[b] := fun a b ha hb hab => List.pairwise_iff_getElem.1 hs a b ha hb hab
          have hjl : j < zs.length := by omega
          have hxe : zs[j] = x := by rw [List.getElem?_eq_getElem hjl] at hjx; exact Option.some.inj hjx
          have hm0 : 0 < m := by omega
          have hne : zs[m] ≠ zs[m - 1] := by
            unfold keeps at hk
            have hd1 : zs.toArray[m - 1]! = zs[m - 1] := by simp [show m - 1 < zs.length by omega]
            simp only [hd, hd1] at hk
            intro e
            simp [e] at hk
            omega
          have hlt : zs[m - 1] ≤ zs[m] := hle (m - 1) m (by omega) hmz (by omega)
          have hjm : zs[j] ≤ zs[m - 1] := by
            by_cases e : j = m - 1
            · simp [e]
            · exact hle j (m - 1) hjl (by omega) (by omega)
          rw [← hxe]
          omega
        · intro x
          rw [List.mem_append, h2, List.mem_singleton]
          constructor
          · rintro (⟨j, hj, hx⟩ | rfl)
            · exact ⟨j, by omega, hx⟩
            · exact ⟨m, by omega, List.getElem?_eq_getElem hmz⟩
          · rintro ⟨j, hj, hx⟩
            by_cases e : j = m
            · subst e; right; rw [List.getElem?_eq_getElem hmz] at hx; exact (Option.some.inj hx).symm
            · left; exact ⟨j, by omega, hx⟩
      · rw [if_neg hk, List.append_nil]
        refine ⟨h1, fun x => ?_⟩
        rw [h2]
        constructor
        · rintro ⟨j, hj, hx⟩; exact ⟨j, by omega, hx⟩
        · rintro ⟨j, hj, hx⟩
          by_cases e : j = m
          · subst e
            have hj0 : 0 < j := by
              rcases Nat.eq_zero_or_pos j with rfl | h
              · exact absurd (keeps_lt_one _ 0 (by omega)) hk
              · exact h
            have hd1 : zs.toArray[j - 1]! = zs[j - 1] := by simp [show j - 1 < zs.length by omega]
            have heq : zs[j] = zs[j - 1] := by
              by_cases e : zs[j] = zs[j - 1]
              · exact e
              · exact absurd (keeps_pos (by rw [hd, hd1]; exact e)) hk
            rw [List.getElem?_eq_getElem hmz, heq] at hx
            exact ⟨j - 1, by omega, by rw [List.getElem?_eq_getElem (by omega)]; exact hx⟩
          · exact ⟨j, by omega, hx⟩
  obtain ⟨h1, h2⟩ := key zs.length (Nat.le_refl _)
  refine ⟨h1, fun x => ?_⟩
  show x ∈ compactUpTo zs.toArray zs.length ↔ _
  rw [h2, List.mem_iff_getElem?]
  constructor
  · rintro ⟨j, _, h⟩; exact ⟨j, h⟩
  · rintro ⟨j, h⟩; exact ⟨j, (List.getElem?_eq_some_iff.1 h).1, h⟩
/-- The numbers sorted, each once. -/
def setOf (l : List Int) : List Int := compact (l.mergeSort fun x y => decide (x ≤ y))
theorem sorted_le (l : List Int) : (l.mergeSort fun x y => decide (x ≤ y)).Pairwise (· ≤ ·) := by
  have := List.pairwise_mergeSort (le := fun x y : Int => decide (x ≤ y)) (fun a b c h1 h2 => by simp at h1 h2 ⊢; omega) (fun a b => by simp; omega) l
  exact this.imp (fun h => by simpa using h)
theorem setOf_rising (l : List Int) : Rising (setOf l) := (compact_rising _ (sorted_le l)).1
theorem setOf_mem (l : List Int) (x : Int) : x ∈ setOf l ↔ x ∈ l := by
  unfold setOf
  rw [(compact_rising _ (sorted_le l)).2, List.mem_mergeSort]
theorem setOf_eq {l k : List Int} (hk : Rising k) (h : ∀ x, x ∈ k ↔ x ∈ l) : setOf l = k := rising_ext (setOf_rising l) hk (fun x => (setOf_mem l x).trans (h x).symm)
theorem setOf_nil : setOf [] = [] := setOf_eq List.Pairwise.nil (fun x => Iff.rfl)
end Go.Proofs.YtccmnngeibpcmaaGreat.Tree
