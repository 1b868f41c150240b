/-
  Facts on the tokens of a text, place by place: what stands at the next place, and how long the row is.
-/
import Derived.Test.YtkedifhlkiffoaaDoorLT
namespace Go.Proofs.YtkedifhlkiffoaaDoor
open Go.ChangeShapes Go.WideShapes Go.ChangeAt Go.RowKit
set_option linter.unusedVariables false
set_option linter.unusedSimpArgs false
def tokRow (l : Bs) : List (Array Value) := (toks l).map fun x => #[tokV x.1 x.2]
theorem fits_small {n : Int} (h0 : -1000 ≤ n) (h1 : n ≤ 1099511627776) : fits n = true := by rw [fits_iff]; omega
theorem num_fits (ds : Bs) (hne : ds ≠ []) (h : ∀ c ∈ ds, inR 48 57 c = true) : 0 ≤ (numT ds).n ∧ (numT ds).n ≤ 1099511627776 := by
  unfold numT
  split
  · rename_i hn
    exact ⟨(read_digits ds hne h hn.1).1, hn.2⟩
  · exact ⟨by simp, by simp⟩
theorem first_bd (l : Bs) : -1000 ≤ (firstT l).n ∧ (firstT l).n ≤ 1099511627776 := by
  unfold firstT
  split
  · exact ⟨by simp, by simp⟩
  · split
    · rename_i h
      have := num_fits _ h (fun c hc => run_mem _ _ _ c hc)
      omega
    · split
      · unfold wordT
        have hb := ((runL 97 122 l)[0]?.getD 0).toNat_lt
        split
        · simp only; omega
        · split <;> simp
      · split
        · have := longL_bd l
          simp only; omega
        · have hb := (l[0]?.getD 0).toNat_lt
          split
          · simp only; omega
          · simp
theorem first_fits (l : Bs) : fits (firstT l).n = true := fits_small (first_bd l).1 (first_bd l).2
/-- The next place. -/
theorem pass_pure (l : Bs) (k p f q : Nat) (t : Tk) (h : (toks l).drop k = toksF f p (l.drop p)) (hf : (l.drop p).length < f) (hp : p ≤ l.length) (hq : q = p + blanks (l.drop p)) (ht : t = firstT (l.drop q)) :
    q ≤ l.length ∧ q + (textT t).length ≤ l.length ∧ k < (tokRow l).length ∧ (tokRow l)[k]?.getD #[] = #[tokV t q] ∧ ((textT t).length = 0 → (tokRow l).length = k + 1) ∧
      (0 < (textT t).length → (toks l).drop (k + 1) = toksF (f - 1) (q + (textT t).length) (l.drop (q + (textT t).length)) ∧ (l.drop (q + (textT t).length)).length < f - 1) := by
  have hb := blanks_le (l.drop p)
  rw [List.length_drop] at hb hf
  have hq1 : q ≤ l.length := by omega
  have hm := first_text_le (l.drop q)
  rw [← ht, List.length_drop] at hm
  obtain ⟨g, rfl⟩ : ∃ g, f = g + 1 := ⟨f - 1, by omega⟩
  have hdd : (l.drop p).drop (blanks (l.drop p)) = l.drop q := by rw [List.drop_drop, hq]
  simp only [toksF] at h
  rw [hdd, ← ht, ← hq, List.drop_drop] at h
  have hlen : (toks l).length = (toks l).length := rfl
  have hk : k < (toks l).length := by
    rcases Nat.lt_or_ge k (toks l).length with h1 | h1
    · exact h1
    · rw [List.drop_of_length_le h1] at h; cases h
  have h0 : (toks l)[k]? = some (t, q) := by
    have := congrArg (fun x => x[0]?) h
    simpa using this
  have h1 : (toks l).drop (k + 1) = if (textT t).length = 0 then [] else toksF g (q + (textT t).length) (l.drop (q + (textT t).length)) := by
    have := congrArg List.tail h
    simpa using this
  refine ⟨hq1, by omega, by simpa [tokRow] using hk, by simp [tokRow, h0], fun hz => ?_, fun hz => ⟨?_, ?_⟩⟩
  · rw [if_pos hz] at h1
    have := congrArg List.length h1
    simp at this
    simp [tokRow]; omega
  · rw [h1, if_neg (by omega)]; rfl
  · rw [List.length_drop]; omega
end Go.Proofs.YtkedifhlkiffoaaDoor
