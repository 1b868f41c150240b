/-
  Tokens of a text, as Lean functions on bytes: runs, ways of comparing, signs, numbers, words; and that a token's own bytes are those that it was read of.
-/
import Derived.Test.YtkedifhlkiffoaaDoorT
namespace Go.Proofs.YtkedifhlkiffoaaDoor
open Go.RowKit
set_option linter.unusedVariables false
set_option linter.unusedSimpArgs false
abbrev Bs := List UInt8
/-- As much of a text, from its beginning, as has bytes from a to b alone. -/
def inR (a b : Int) (c : UInt8) : Bool := decide (a ≤ (c.toNat : Int)) && decide ((c.toNat : Int) ≤ b)
def runL (a b : Int) (l : Bs) : Bs := l.takeWhile (inR a b)
/-- A token, but for its place. -/
structure Tk where
  k : Int
  n : Int
deriving DecidableEq
def opL : List Bs := [[], [60], [60, 61], [61], [33, 61], [62], [62, 61]]
def opT (n : Int) : Bs := opL[n.toNat]?.getD []
def signsL : Bs := [33, 123, 125, 91, 93, 40, 41, 44, 59, 38, 43, 45]
def isSign (n : Int) : Bool := signsL.any fun c => (c.toNat : Int) == n
def signT (n : Int) : Bs := if isSign n then [u8 n] else []
def withinL : Bs := [119, 105, 116, 104, 105, 110]
/-- The way of comparing that a text begins with. -/
def longL (l : Bs) : Int :=
  match l with
  | a :: b :: _ => if a = 60 then (if b = 61 then 2 else 1) else if a = 61 then 3 else if a = 33 then (if b = 61 then 4 else 0) else if a = 62 then (if b = 61 then 6 else 5) else 0
  | [a] => if a = 60 then 1 else if a = 61 then 3 else if a = 62 then 5 else 0
  | [] => 0
def numT (ds : Bs) : Tk := if readE ds = 0 ∧ readN ds ≤ 1099511627776 then ⟨1, readN ds⟩ else ⟨6, 0⟩
def wordT (l : Bs) : Tk := if l.length = 1 then ⟨2, ((l[0]?.getD 0).toNat : Int) - 97⟩ else if l = withinL then ⟨3, 0⟩ else ⟨6, 0⟩
/-- The token that a text begins with. -/
def firstT (l : Bs) : Tk :=
  if l = [] then ⟨0, 0⟩
  else if runL 48 57 l ≠ [] then numT (runL 48 57 l)
  else if runL 97 122 l ≠ [] then wordT (runL 97 122 l)
  else if 0 < longL l then ⟨4, longL l⟩
  else if isSign ((l[0]?.getD 0).toNat : Int) then ⟨5, ((l[0]?.getD 0).toNat : Int)⟩
  else ⟨6, 0⟩
/-- The bytes that tell a token. -/
def textT (t : Tk) : Bs :=
  if t.k = 1 then (if 0 ≤ t.n ∧ t.n ≤ 1099511627776 then textB t.n else [])
  else if t.k = 2 then (if 0 ≤ t.n ∧ t.n ≤ 25 then [u8 (97 + t.n)] else [])
  else if t.k = 3 then (if t.n = 0 then withinL else [])
  else if t.k = 4 then (if 0 ≤ t.n ∧ t.n ≤ 6 then opT t.n else [])
  else if t.k = 5 then signT t.n
  else []
theorem textT1 (n : Int) : textT ⟨1, n⟩ = if 0 ≤ n ∧ n ≤ 1099511627776 then textB n else [] := rfl
theorem textT2 (n : Int) : textT ⟨2, n⟩ = if 0 ≤ n ∧ n ≤ 25 then [u8 (97 + n)] else [] := rfl
theorem textT3 (n : Int) : textT ⟨3, n⟩ = if n = 0 then withinL else [] := rfl
theorem textT4 (n : Int) : textT ⟨4, n⟩ = if 0 ≤ n ∧ n ≤ 6 then opT n else [] := rfl
theorem textT5 (n : Int) : textT ⟨5, n⟩ = signT n := rfl
theorem textT6 (n : Int) : textT ⟨6, n⟩ = [] := rfl
theorem textT0 (n : Int) : textT ⟨0, n⟩ = [] := rfl
/-- How many blanks stand ahead. -/
def blanks (l : Bs) : Nat := (runL 32 32 l).length
/-- The tokens of a text whose first byte stands at the place at: f is enough rounds. -/
def toksF : Nat → Nat → Bs → List (Tk × Nat)
  | 0, _, _ => []
  | f + 1, at_, l =>
    let l' := l.drop (blanks l)
    let t := firstT l'
    (t, at_ + blanks l) :: if (textT t).length = 0 then [] else toksF f (at_ + blanks l + (textT t).length) (l'.drop (textT t).length)
def toks (l : Bs) : List (Tk × Nat) := toksF (l.length + 1) 0 l
theorem inR_iff (a b : Int) (c : UInt8) : inR a b c = true ↔ a ≤ (c.toNat : Int) ∧ (c.toNat : Int) ≤ b := by unfold inR; simp
theorem run_pre (a b : Int) (l : Bs) : runL a b l <+: l := List.takeWhile_prefix _
theorem run_len (a b : Int) (l : Bs) : (runL a b l).length ≤ l.length := (run_pre a b l).length_le
theorem run_take (a b : Int) (l : Bs) : runL a b l = l.take (runL a b l).length := (List.prefix_iff_eq_take.1 (run_pre a b l))
theorem run_mem (a b : Int) (l : Bs) (c : UInt8) (h : c ∈ runL a b l) : inR a b c = true := List.all_eq_true.1 List.all_takeWhile c h
theorem blanks_le (l : Bs) : blanks l ≤ l.length := run_len _ _ _
theorem longL_bd (l : Bs) : 0 ≤ longL l ∧ longL l ≤ 6 := by
  match l with
  | [] => simp [longL]
  | [a] => simp only [longL]; repeat' split
           all_goals omega
  | a :: b :: r => simp only [longL]; repeat' split
                   all_goals omega
/-- What a text begins with that has a way of comparing ahead: its bytes. -/
theorem long_pre (l : Bs) (h : 0 < longL l) : opT (longL l) <+: l ∧ opT (longL l) ≠ [] := by
  match l with
  | [] => simp [longL] at h
  | [a] =>
    simp only [longL] at h ⊢
    by_cases h1 : a = 60
    · subst h1; simp [opT, opL]
    · by_cases h2 : a = 61
      · subst h2; simp [opT, opL]
      · by_cases h3 : a = 62
        · subst h3; simp [opT, opL]
        · simp [h1, h2, h3] at h
  | a :: b :: r =>
    simp only [longL] at h ⊢
    by_cases hb : b = 61
    · subst hb
      by_cases h1 : a = 60
      · subst h1; simp [opT, opL]
      · by_cases h2 : a = 61
        · subst h2; simp [opT, opL]
        · by_cases h4 : a = 33
          · subst h4; simp [opT, opL]
          · by_cases h3 : a = 62
            · subst h3; simp [opT, opL]
            · simp [h1, h2, h3, h4] at h
    · by_cases h1 : a = 60
      · subst h1; simp [opT, opL, hb]
      · by_cases h2 : a = 61
        · subst h2; simp [opT, opL]
        · by_cases h4 : a = 33
          · subst h4; simp [hb] at h
          · by_cases h3 : a = 62
            · subst h3; simp [opT, opL, hb]
            · simp [h1, h2, h3, h4] at h
theorem u8_toNat (c : UInt8) : u8 (c.toNat : Int) = c := by simp [u8]
/-- The number that digits tell is not below 0, and within the whole numbers. -/
theorem read_digits (ds : Bs) (hne : ds ≠ []) (h : ∀ c ∈ ds, inR 48 57 c = true) (he : readE ds = 0) : 0 ≤ readN ds ∧ textB (readN ds) = ds := by
  refine ⟨?_, text_read ds he⟩
  unfold readN
  split
  · rename_i hf
    obtain ⟨c, t, rfl⟩ := List.exists_cons_of_ne_nil hne
    have hc := (inR_iff _ _ _).1 (h c (by simp))
    have h45 : (c == 45) = false := by
      rw [beq_eq_false_iff_ne]; rintro rfl; simp at hc
    have hb : below (c :: t) = false := h45
    have hd : digs (c :: t) = c :: t := by simp [digs, h45]
    have hv : ∀ d ∈ c :: t, 0 ≤ digV d := fun d hd => by
      have := (inR_iff _ _ _).1 (h d hd)
      unfold digV; rw [if_pos (by omega)]; omega
    have hn := valN_neg _ (c :: t) rfl hv
    have hvt : 0 ≤ valT (c :: t) := by
      unfold valT
      rw [hb, hd, if_neg (by decide)]
      omega
    unfold only
    split <;> omega
  · omega
theorem run_head (a b : Int) (c : UInt8) (r : Bs) : runL a b (c :: r) = if inR a b c then c :: runL a b r else [] := by
  unfold runL; rw [List.takeWhile_cons]
/-- A token's own bytes are those that it was read of; there is at least one. -/
theorem first_text (l : Bs) (hl : l ≠ []) (h6 : (firstT l).k ≠ 6) : textT (firstT l) <+: l ∧ textT (firstT l) ≠ [] ∧ 1 ≤ (firstT l).k ∧ (firstT l).k ≤ 5 := by
  unfold firstT at h6 ⊢
  rw [if_neg hl] at h6 ⊢
  by_cases hd : runL 48 57 l = []
  · simp only [hd, ne_eq, not_true_eq_false, if_false] at h6 ⊢
    by_cases hs : runL 97 122 l = []
    · simp only [hs, ne_eq, not_true_eq_false, if_false] at h6 ⊢
      by_cases ho : 0 < longL l
      · rw [if_pos ho] at h6 ⊢
        have hb := longL_bd l
        have := long_pre l ho
        rw [textT4, if_pos hb]
        exact ⟨this.1, this.2, by simp, by simp⟩
      · rw [if_neg ho] at h6 ⊢
        by_cases hg : isSign ((l[0]?.getD 0).toNat : Int) = true
        · rw [if_pos hg]
          rw [textT5]
          unfold signT
          rw [if_pos hg, u8_toNat]
          obtain ⟨c, r, rfl⟩ := List.exists_cons_of_ne_nil hl
          exact ⟨by simp, by simp, by simp, by simp⟩
        · rw [if_neg hg] at h6; exact absurd rfl h6
    · simp only [hs, ne_eq, not_false_eq_true, if_true] at h6 ⊢
      unfold wordT at h6 ⊢
      have hp := run_pre 97 122 l
      have hm := run_mem 97 122 l
      generalize runL 97 122 l = s at *
      by_cases h1 : s.length = 1
      · rw [if_pos h1]
        obtain ⟨c, rfl⟩ := List.length_eq_one_iff.1 h1
        have hc := (inR_iff _ _ _).1 (hm c (by simp))
        simp only [List.getElem?_cons_zero, Option.getD_some]
        rw [textT2, if_pos (by omega), show (97 : Int) + ((c.toNat : Int) - 97) = (c.toNat : Int) by omega, u8_toNat]
        exact ⟨hp, by simp, by simp, by simp⟩
      · rw [if_neg h1] at h6 ⊢
        by_cases hw : s = withinL
        · rw [if_pos hw]
          rw [textT3, if_pos rfl]
          exact ⟨hw ▸ hp, by simp [withinL], by simp, by simp⟩
        · rw [if_neg hw] at h6; exact absurd rfl h6
  · simp only [hd, ne_eq, not_false_eq_true, if_true] at h6 ⊢
    unfold numT at h6 ⊢
    by_cases hn : readE (runL 48 57 l) = 0 ∧ readN (runL 48 57 l) ≤ 1099511627776
    · rw [if_pos hn]
      obtain ⟨h0, ht⟩ := read_digits _ hd (fun c hc => run_mem _ _ _ c hc) hn.1
      rw [textT1, if_pos ⟨h0, hn.2⟩, ht]
      exact ⟨run_pre _ _ _, hd, by simp, by simp⟩
    · rw [if_neg hn] at h6; exact absurd rfl h6
theorem first_text_le (l : Bs) : (textT (firstT l)).length ≤ l.length := by
  by_cases hl : l = []
  · subst hl; simp [firstT, textT]
  · by_cases h6 : (firstT l).k = 6
    · unfold textT; simp [h6]
    · exact (first_text l hl h6).1.length_le
/-- What has no bytes is the end, or none. -/
theorem first_none (l : Bs) (h : (textT (firstT l)).length = 0) : l = [] ∨ (firstT l).k = 6 := by
  by_cases hl : l = []
  · exact .inl hl
  · by_cases h6 : (firstT l).k = 6
    · exact .inr h6
    · exact absurd (List.length_eq_zero_iff.1 h) (first_text l hl h6).2.1
/-- How many rounds are enough. -/
theorem toksF_more (f : Nat) : ∀ (g at_ : Nat) (l : Bs), l.length < f → f ≤ g → toksF g at_ l = toksF f at_ l := by
  induction f with
  | zero => intro g at_ l h; omega
  | succ f ih =>
    intro g at_ l h hg
    obtain ⟨g, rfl⟩ : ∃ g', g = g' + 1 := ⟨g - 1, by omega⟩
    simp only [toksF]
    split
    · rfl
    · rename_i hn
      have := first_text_le (l.drop (blanks l))
      rw [ih g _ _ (by simp at this ⊢; omega) (by omega)]
theorem toks_len (f : Nat) : ∀ (at_ : Nat) (l : Bs), (toksF f at_ l).length ≤ l.length + 1 := by
  induction f with
  | zero => intro at_ l; simp [toksF]
  | succ f ih =>
    intro at_ l
    simp only [toksF]
    split
    · simp
    · rename_i hn
      have h1 := first_text_le (l.drop (blanks l))
      have h2 := blanks_le l
      have := ih (at_ + blanks l + (textT (firstT (l.drop (blanks l)))).length) ((l.drop (blanks l)).drop (textT (firstT (l.drop (blanks l)))).length)
      rw [List.length_drop, List.length_drop] at this
      rw [List.length_drop] at h1
      simp only [List.length_cons]
      omega
end Go.Proofs.YtkedifhlkiffoaaDoor
