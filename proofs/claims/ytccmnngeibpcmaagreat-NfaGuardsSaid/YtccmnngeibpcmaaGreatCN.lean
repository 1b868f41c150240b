/-
  What Check tells, case by case; and of fewer steps.
-/
import Derived.Test.YtccmnngeibpcmaaGreatCH
namespace Go.Proofs.YtccmnngeibpcmaaGreat.Tree
open Go.ChangeShapes Go.WideShapes Go.ChangeAt Go.RowKit
set_option linter.unusedVariables false
set_option maxRecDepth 100000
set_option linter.unusedSimpArgs false
attribute [local go_sem] Oper.semAt_some
theorem least_of {P : Nat → Prop} {n : Nat} (h : P n) : ∃ m, m ≤ n ∧ P m ∧ ∀ j, j < m → ¬ P j := by
  induction n using Nat.strongRecOn with
  | _ n ih =>
    by_cases hj : ∃ j, j < n ∧ P j
    · obtain ⟨j, hjn, hp⟩ := hj
      obtain ⟨m, h1, h2, h3⟩ := ih j hjn hp
      exact ⟨m, by omega, h2, h3⟩
    · exact ⟨n, Nat.le_refl _, h, fun j hjn hp => hj ⟨j, hjn, hp⟩⟩
/-- Rule k + 1 is broken first, by step i first. -/
def BadK (ss : List Sp) (win : Int) (k i : Nat) : Prop :=
  k < 7 ∧ i < ss.length ∧ (∀ j, j < k → KeptAll ss win j) ∧ (∀ j t, j < i → ss[j]? = some t → ruleB ss win k j t = true) ∧ ruleB ss win k i (stepA ss i) = false
theorem checkT_cases {ss : List Sp} {win : Int} (h : rightP ss win = true) : (checkT ss win = (0, 0, 0) ∧ ∀ k, k < 7 → KeptAll ss win k) ∨ ∃ k i : Nat, checkT ss win = ((k : Int) + 1, (i : Int), 110) ∧ BadK ss win k i := by
  by_cases hall : ∀ k, k < 7 → KeptAll ss win k
  · exact .inl ⟨checkT_ok h hall, hall⟩
  · right
    have h1 : ∃ k, k < 7 ∧ ¬ KeptAll ss win k := by
      apply Classical.byContradiction
      intro hc
      exact hall fun k hk => Classical.byContradiction fun hn => hc ⟨k, hk, hn⟩
    obtain ⟨k0, hk0, hn0⟩ := h1
    obtain ⟨k, hkk, hnk, hmin⟩ := least_of (P := fun k => ¬ KeptAll ss win k) hn0
    have h2 : ∃ i, ∃ s, ss[i]? = some s ∧ ruleB ss win k i s = false := by
      apply Classical.byContradiction
      intro hc
      exact hnk fun i s hs => by
        cases hb : ruleB ss win k i s with
        | true => rfl
        | false => exact absurd ⟨i, s, hs, hb⟩ hc
    obtain ⟨i0, hi0⟩ := h2
    obtain ⟨i, hii, ⟨s, hs, hb⟩, himin⟩ := least_of (P := fun i => ∃ s, ss[i]? = some s ∧ ruleB ss win k i s = false) hi0
    have hj : ∀ j, j < k → KeptAll ss win j := fun j hj => Classical.byContradiction fun hn => hmin j hj hn
    have hi : ∀ j t, j < i → ss[j]? = some t → ruleB ss win k j t = true := fun j t hjt ht => by
      cases hb : ruleB ss win k j t with
      | true => rfl
      | false => exact absurd ⟨t, ht, hb⟩ (himin j hjt)
    exact ⟨k, i, checkT_bad h (by omega) hj hs hb hi, by omega, (List.getElem?_eq_some_iff.1 hs).1, hj, hi, by rw [stepA_of hs]; exact hb⟩
theorem stepA_take {ss : List Sp} {n k : Nat} (h : k < n) : stepA (ss.take n) k = stepA ss k := by unfold stepA; rw [List.getElem?_take_of_lt h]
theorem most_take (ss : List Sp) (n : Nat) : mostP (ss.take n) ≤ mostP ss := by
  induction ss generalizing n with
  | nil => simp
  | cons s r ih =>
    cases n with
    | zero =>
      have : ∀ l : List Sp, 0 ≤ mostP l := by
        intro l
        induction l with
        | nil => simp [mostP, sumF]
        | cons x r ih =>
          have hx := within_bd x.max
          unfold mostP sumF at ih ⊢
          rw [List.map_cons, List.sum_cons]
          split <;> omega
      simpa [mostP, sumF] using this (s :: r)
    | succ n =>
      have := ih n
      unfold mostP sumF at this ⊢
      rw [List.take_succ_cons, List.map_cons, List.sum_cons, List.map_cons, List.sum_cons]
      omega
theorem askBad_take {ss : List Sp} {n i : Nat} (hi : i < n) (x : Int) : askBad (ss.take n) i x = askBad ss i x := by
  unfold askBad
  by_cases h : x < i
  · rw [stepA_take (by omega)]
  · simp [h]
theorem ruleB_take {ss : List Sp} {win : Int} {n k i : Nat} {s : Sp} (hi : i < n) (h : ruleB ss win k i s = true) : ruleB (ss.take n) win k i s = true := by
  match k with
  | 0 =>
    simp only [ruleB, Bool.and_eq_true, decide_eq_true_eq] at h ⊢
    exact ⟨by rw [List.length_take]; omega, h.2⟩
  | 1 => exact h
  | 2 => exact h
  | 3 =>
    simp only [ruleB, rule4, follows] at h ⊢
    rw [stepA_take hi, stepA_take (by omega)]
    exact h
  | 4 => exact h
  | 5 =>
    simp only [ruleB, decide_eq_true_eq] at h ⊢
    exact Int.le_trans (most_take ss n) h
  | k + 6 =>
    simp only [ruleB, rule7, asksP, askBad_take hi] at h ⊢
    exact h
theorem right_take {ss : List Sp} {win : Int} {n : Nat} (h : rightP ss win = true) (hn : 1 ≤ n) : rightP (ss.take n) win = true := by
  unfold rightP at h ⊢
  simp only [Bool.and_eq_true, decide_eq_true_eq, List.all_eq_true] at h ⊢
  refine ⟨⟨⟨?_, ?_⟩, h.1.2⟩, fun s hs => h.2 s (List.mem_of_mem_take hs)⟩ <;> rw [List.length_take] <;> omega
/-- What is told of the steps ahead of the first one that breaks a rule: another rule, behind it, or none. -/
theorem check_take {ss : List Sp} {win : Int} {k i : Nat} (h : rightP ss win = true) (hb : BadK ss win k i) (hi : 1 ≤ i) : (checkT (ss.take i) win).1 = 0 ∨ ((k : Int) + 1 < (checkT (ss.take i) win).1) := by
  obtain ⟨h1, h2, h3, h4, h5⟩ := hb
  rcases checkT_cases (right_take h hi) with ⟨e, -⟩ | ⟨k', i', e, h1', h2', h3', h4', h5'⟩
  · left; rw [e]
  · right
    rw [e]
    have hi'i : i' < i := by rw [List.length_take] at h2'; omega
    have hs := stepA_in (ss := ss) (i := i') (by omega)
    rw [stepA_take hi'i] at h5'
    have : k < k' := by
      apply Classical.byContradiction
      intro hc
      have hr : ruleB ss win k' i' (stepA ss i') = true := by
        by_cases e : k' = k
        · subst e; exact h4 i' _ hi'i hs
        · exact h3 k' (by omega) i' _ hs
      rw [ruleB_take hi'i hr] at h5'
      cases h5'
    show (k : Int) + 1 < (k' : Int) + 1
    omega
theorem ck_of {L : List (Sp × Value)} {w : World} (hg : great (L.map (·.1)) = false) (hq : ∀ x ∈ L, InSp w x) : CkOk L := by
  obtain ⟨hS, -, h20⟩ := Small.of_great hg
  exact ⟨hS.short, fun x hx => Nat.le_trans (hS.cmps x hx) (by omega), fun x hx c hc => ((hq x hx).2.2 c hc).1⟩
end Go.Proofs.YtccmnngeibpcmaaGreat.Tree
