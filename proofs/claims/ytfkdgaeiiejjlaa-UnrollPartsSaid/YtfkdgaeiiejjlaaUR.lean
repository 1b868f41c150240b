/-
  Pure facts of a pattern with one step more at its end: its rows.
-/
import Derived.Test.YtfkdgaeiiejjlaaUTA
import Derived.Test.YtfkdgaeiiejjlaaUQ
namespace Go.Proofs.Ytfkdgaeiiejjlaa.Tree
open Go.ChangeShapes Go.WideShapes Go.ChangeAt Go.RowKit
set_option linter.unusedVariables false
set_option linter.unusedSimpArgs false
set_option maxRecDepth 100000
/-- A negative step more at the end changes no row. -/
theorem rowsP_neg (ss : List Sp) (s : Sp) (h : s.neg = true) : rowsP (ss ++ [s]) = rowsP ss := by
  unfold rowsP
  rw [posS_append]
  have : posS [s] (0 + ss.length) = [] := by simp [posS, h]
  rw [this, List.append_nil]
/-- With a positive step more the rows are those without it, each with that step as often as it may come. -/
theorem rowsP_pos (ss : List Sp) (s : Sp) (h : s.neg = false) : rowsP (ss ++ [s]) = stepR (rowsP ss) (ss.length, s) := by
  unfold rowsP
  rw [posS_append]
  have : posS [s] (0 + ss.length) = [(ss.length, s)] := by simp [posS, h]
  rw [this, List.foldl_append]
  rfl
theorem stepR_one (R : List (List Int)) (n : Nat) (s : Sp) (h1 : s.min = 1) (h2 : s.max = 1) : stepR R (n, s) = R.map fun r => r ++ [(n : Int)] := by
  unfold stepR furL
  dsimp only
  rw [h1, h2]
  have e : List.range ((1 : Int) + 1 - 1).toNat = [0] := rfl
  rw [e]
  induction R with
  | nil => rfl
  | cons r R ih => rw [List.flatMap_cons, ih]; rfl
/-- Rows of a pattern with a positive step more that comes once, where both may be. -/
theorem rowsR_one {ss : List Sp} {s : Sp} {win : Int} (hn : s.neg = false) (h1 : s.min = 1) (h2 : s.max = 1) (hm : mayB ss win = true) (hm2 : mayB (ss ++ [s]) win = true) :
    rowsR (ss ++ [s]) win = (rowsR ss win).map fun r => r ++ [(ss.length : Int)] := by
  unfold rowsR
  rw [if_pos hm, if_pos hm2, rowsP_pos ss s hn, stepR_one _ _ _ h1 h2]
theorem rowsR_neg {ss : List Sp} {s : Sp} {win : Int} (hn : s.neg = true) (hm : mayB ss win = true) (hm2 : mayB (ss ++ [s]) win = true) : rowsR (ss ++ [s]) win = rowsR ss win := by
  unfold rowsR
  rw [if_pos hm, if_pos hm2, rowsP_neg ss s hn]
/-- The step that UnrollParts puts at the end; and the same one, negative. -/
def onceP : Sp := ⟨false, 0, 1, 1, false, []⟩
def onceN : Sp := ⟨true, 0, 1, 1, false, []⟩
theorem stepA_app (ss : List Sp) (s : Sp) {i : Nat} (h : i < ss.length) : stepA (ss ++ [s]) i = stepA ss i := by
  unfold stepA; rw [List.getElem?_append_left h]
theorem mostP_app (ss : List Sp) (s : Sp) : mostP (ss ++ [s]) = mostP ss + if s.neg then 0 else within s.max := by
  unfold mostP sumF
  simp [List.map_append, List.sum_append]
/-- Where a pattern with one positive step more may be, it may be with that step negative. -/
theorem may_neg {ss : List Sp} {win : Int} (hm : mayB ss win = true) (hm2 : mayB (ss ++ [onceP]) win = true) : mayB (ss ++ [onceN]) win = true := by
  have hl := (may_good hm).len1
  obtain ⟨h1, h2⟩ := may_right hm2
  have hr : rightP (ss ++ [onceN]) win = true := by
    unfold rightP at h1 ⊢
    simp only [List.length_append, List.length_singleton, List.all_append] at h1 ⊢
    have e : [onceN].all rightS = true := by kernel_rfl
    rw [e]
    simp only [Bool.and_eq_true] at h1 ⊢
    exact ⟨h1.1, h1.2.1, by trivial⟩
  have hk : ∀ k, k < 7 → KeptAll (ss ++ [onceN]) win k := by
    intro k hk i s hs
    have hil := (List.getElem?_eq_some_iff.1 hs).1
    simp at hil
    by_cases hi : i < ss.length
    · rw [List.getElem?_append_left hi] at hs
      have h3 := h2 k hk i s (by rw [List.getElem?_append_left hi]; exact hs)
      have es : ∀ j, j ≤ i → stepA (ss ++ [onceN]) j = stepA (ss ++ [onceP]) j := fun j hj => by rw [stepA_app _ _ (by omega), stepA_app _ _ (by omega)]
      have ef : follows (ss ++ [onceN]) i = follows (ss ++ [onceP]) i := by unfold follows; rw [es i (Nat.le_refl _), es (i - 1) (by omega)]
      have ea : asksP (ss ++ [onceN]) i s = asksP (ss ++ [onceP]) i s := by
        unfold asksP
        congr 1
        funext x
        unfold askBad
        by_cases hx : x < (i : Int)
        · rw [es x.toNat (by omega)]
        · simp [hx]
      have em : mostP (ss ++ [onceN]) ≤ mostP (ss ++ [onceP]) := by
        rw [mostP_app, mostP_app]
        have e1 : (if onceN.neg then 0 else within onceN.max) = 0 := rfl
        have e2 : (if onceP.neg then 0 else within onceP.max) = 1 := rfl
        omega
      match k, h3 with
      | 0, h3 => simpa [ruleB] using h3
      | 1, h3 => simpa [ruleB] using h3
      | 2, h3 => simpa [ruleB] using h3
      | 3, h3 => simpa [ruleB, rule4, ef] using h3
      | 4, h3 => simpa [ruleB] using h3
      | 5, h3 =>
        simp only [ruleB, decide_eq_true_eq] at h3 ⊢
        omega
      | k + 6, h3 => simpa [ruleB, rule7, ea] using h3
    · obtain rfl : i = ss.length := by omega
      rw [List.getElem?_append_right (Nat.le_refl _)] at hs
      simp at hs
      subst hs
      have h3 := h2 k hk ss.length onceP (by simp)
      match k, h3 with
      | 0, h3 => simpa [ruleB] using h3
      | 1, h3 => simp [ruleB]; left; omega
      | 2, h3 => rfl
      | 3, h3 => rfl
      | 4, h3 => rfl
      | 5, h3 =>
        simp only [ruleB, decide_eq_true_eq, mostP_app] at h3 ⊢
        have e1 : (if onceN.neg then 0 else within onceN.max) = 0 := rfl
        have e2 : (if onceP.neg then 0 else within onceP.max) = 1 := rfl
        omega
      | k + 6, h3 => rfl
  unfold mayB
  rw [checkT_ok hr hk]; rfl
theorem lastU_app (ss : List Sp) (s : Sp) (k : Nat) (h : k ≤ ss.length) : lastU (ss ++ [s]) k = lastU ss k := by
  induction k with
  | zero => rfl
  | succ k ih => unfold lastU; rw [stepA_app _ _ (by omega), ih (by omega)]
/-- What stands at the end: one step more. -/
theorem afterL_neg {ss : List Sp} {s : Sp} {win : Int} (hn : s.neg = true) (hm : mayB ss win = true) (hm2 : mayB (ss ++ [s]) win = true) : afterL (ss ++ [s]) win = afterL ss win ++ [(ss.length : Int)] := by
  unfold afterL
  rw [if_pos hm, if_pos hm2]
  unfold tailP
  have e : lastU (ss ++ [s]) (ss ++ [s]).length = lastU ss ss.length := by
    rw [List.length_append, List.length_singleton]
    rw [lastU]
    have : stepA (ss ++ [s]) ss.length = s := stepA_of (by simp)
    rw [this, hn, if_pos rfl, lastU_app _ _ _ (Nat.le_refl _)]
  rw [e]
  have hb := lastU_bd ss ss.length
  generalize lastU ss ss.length = a at *
  unfold betL
  have e1 : ((ss ++ [s]).length : Int) - 1 - (((ss ++ [s]).length : Int) - 1 - a) = a := by omega
  have e2 : (ss.length : Int) - 1 - ((ss.length : Int) - 1 - a) = a := by omega
  rw [e1, e2]
  have e3 : (((ss ++ [s]).length : Int) - (a + 1)).toNat = ((ss.length : Int) - (a + 1)).toNat + 1 := by simp; omega
  rw [e3, fromL_succ]
  congr 2
  omega
end Go.Proofs.Ytfkdgaeiiejjlaa.Tree
