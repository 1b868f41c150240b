/-
  The tokens of a text as a relation: each token's own bytes, blanks ahead, what may stand behind; what the row of tokens is at texts that are put together.
-/
import Derived.Test.YtkedifhlkiffoaaDoorLA
namespace Go.Proofs.YtkedifhlkiffoaaDoor
open Go.RowKit
set_option linter.unusedVariables false
set_option linter.unusedSimpArgs false
theorem run_app (a b : Int) (x r : Bs) (hx : ∀ c ∈ x, inR a b c = true) (hr : ∀ c, r.head? = some c → inR a b c = false) : runL a b (x ++ r) = x := by
  unfold runL
  induction x with
  | nil =>
    cases r with
    | nil => rfl
    | cons c r => simp [List.takeWhile_cons, hr c rfl]
  | cons c x ih =>
    rw [List.cons_append, List.takeWhile_cons, hx c (by simp), if_pos rfl, ih (fun d hd => hx d (by simp [hd]))]
theorem run_none (a b : Int) (l : Bs) (h : ∀ c, l.head? = some c → inR a b c = false) : runL a b l = [] := by
  simpa using run_app a b [] l (by simp) h
theorem run_rest (a b : Int) (x r : Bs) (h : runL a b (x ++ r) = x) : ∀ c, r.head? = some c → inR a b c = false := by
  unfold runL at h
  induction x with
  | nil =>
    intro c hc
    cases r with
    | nil => cases hc
    | cons d r =>
      obtain rfl : d = c := by simpa using hc
      cases hi : inR a b d with
      | false => rfl
      | true => simp [List.takeWhile_cons, hi] at h
  | cons d x ih =>
    rw [List.cons_append, List.takeWhile_cons] at h
    split at h
    · exact ih (by simpa using h)
    · cases h
/-- May this byte stand directly behind the token? -/
def okNext (t : Tk) (o : Option UInt8) : Bool :=
  match o with
  | none => true
  | some c =>
    if t.k = 1 then !(inR 48 57 c)
    else if t.k = 2 ∨ t.k = 3 then !(inR 97 122 c)
    else if t.k = 4 then !(decide (c = 61) && (decide (t.n = 1) || decide (t.n = 5)))
    else if t.k = 5 then !(decide (c = 61) && decide (t.n = 33))
    else true
theorem dig_inR (c : UInt8) (h : 0 ≤ digV c) : inR 48 57 c = true := by
  rw [inR_iff]
  unfold digV at h
  split at h <;> omega
theorem text_digits (n : Int) (h0 : 0 ≤ n) : (∀ c ∈ textB n, inR 48 57 c = true) ∧ textB n ≠ [] := by
  obtain ⟨_, h1, c, t, h2, _⟩ := dgt_facts n.natAbs n.natAbs (Nat.le_refl _)
  have : textB n = dgt n.natAbs := by rw [textB_eq, if_neg (by omega)]
  rw [this]
  exact ⟨fun c hc => dig_inR c (h1 c hc), by rw [h2]; simp⟩
theorem sign_cases (n : Int) (h : isSign n = true) : n = 33 ∨ n = 123 ∨ n = 125 ∨ n = 91 ∨ n = 93 ∨ n = 40 ∨ n = 41 ∨ n = 44 ∨ n = 59 ∨ n = 38 ∨ n = 43 ∨ n = 45 := by
  unfold isSign signsL at h
  simp at h
  omega
/-- A token that has bytes: its kind, and its number. -/
theorem text_cases (t : Tk) (h : textT t ≠ []) :
    (t.k = 1 ∧ 0 ≤ t.n ∧ t.n ≤ 1099511627776 ∧ textT t = textB t.n) ∨ (t.k = 2 ∧ 0 ≤ t.n ∧ t.n ≤ 25 ∧ textT t = [u8 (97 + t.n)]) ∨ (t = ⟨3, 0⟩ ∧ textT t = withinL) ∨
      (t.k = 4 ∧ 1 ≤ t.n ∧ t.n ≤ 6 ∧ textT t = opT t.n) ∨ (t.k = 5 ∧ isSign t.n = true ∧ textT t = [u8 t.n]) := by
  obtain ⟨k, n⟩ := t
  by_cases h1 : k = 1
  · subst h1
    rw [textT1] at h ⊢
    split at h
    · rename_i hb; rw [if_pos hb]; exact .inl ⟨rfl, hb.1, hb.2, rfl⟩
    · exact absurd rfl h
  by_cases h2 : k = 2
  · subst h2
    rw [textT2] at h ⊢
    split at h
    · rename_i hb; rw [if_pos hb]; exact .inr (.inl ⟨rfl, hb.1, hb.2, rfl⟩)
    · exact absurd rfl h
  by_cases h3 : k = 3
  · subst h3
    rw [textT3] at h ⊢
    split at h
    · rename_i hb; rw [if_pos hb]; subst hb; exact .inr (.inr (.inl ⟨rfl, rfl⟩))
    · exact absurd rfl h
  by_cases h4 : k = 4
  · subst h4
    rw [textT4] at h ⊢
    split at h
    · rename_i hb
      rw [if_pos hb]
      by_cases h0 : n = 0
      · subst h0; exact absurd rfl h
      · exact .inr (.inr (.inr (.inl ⟨rfl, by simp only; omega, hb.2, rfl⟩)))
    · exact absurd rfl h
  by_cases h5 : k = 5
  · subst h5
    rw [textT5] at h ⊢
    unfold signT at h ⊢
    split at h
    · rename_i hb; rw [if_pos hb]; exact .inr (.inr (.inr (.inr ⟨rfl, hb, rfl⟩)))
    · exact absurd rfl h
  · exfalso; apply h; unfold textT; simp [h1, h2, h3, h4, h5]
theorem tk_eq {t : Tk} {k n : Int} (hk : t.k = k) (hn : t.n = n) : t = ⟨k, n⟩ := by cases t; cases hk; cases hn; rfl
theorem op_cases (n : Int) (h1 : 1 ≤ n) (h6 : n ≤ 6) : n = 1 ∨ n = 2 ∨ n = 3 ∨ n = 4 ∨ n = 5 ∨ n = 6 := by omega
theorem first_num (x r : Bs) (n : Int) (h0 : 0 ≤ n) (h1 : n ≤ 1099511627776) (hr : ∀ c, r.head? = some c → inR 48 57 c = false) : firstT (textB n ++ r) = ⟨1, n⟩ := by
  obtain ⟨hd, hne⟩ := text_digits n h0
  have hrun := run_app 48 57 (textB n) r hd hr
  obtain ⟨hr1, hr2⟩ := read_text n (by rw [fits_iff]; omega)
  unfold firstT
  rw [if_neg (by simp [hne]), hrun, if_pos hne]
  unfold numT
  rw [if_pos ⟨hr2, by omega⟩, hr1]
theorem first_low (x r : Bs) (hx : x ≠ []) (hl : ∀ c ∈ x, inR 97 122 c = true) (hr : ∀ c, r.head? = some c → inR 97 122 c = false) : firstT (x ++ r) = wordT x := by
  have hrun := run_app 97 122 x r hl hr
  obtain ⟨c, y, rfl⟩ := List.exists_cons_of_ne_nil hx
  have hc := (inR_iff _ _ _).1 (hl c (by simp))
  have h48 : runL 48 57 ((c :: y) ++ r) = [] := run_none _ _ _ (fun d hd => by
    obtain rfl : c = d := by simpa using hd
    cases hi : inR 48 57 c with
    | false => rfl
    | true => rw [inR_iff] at hi; omega)
  unfold firstT
  rw [if_neg (by simp), h48, if_neg (by simp), hrun, if_pos hx]
theorem first_plain (c : UInt8) (r : Bs) (h1 : inR 48 57 c = false) (h2 : inR 97 122 c = false) : firstT (c :: r) = if 0 < longL (c :: r) then ⟨4, longL (c :: r)⟩ else if isSign (c.toNat : Int) then ⟨5, (c.toNat : Int)⟩ else ⟨6, 0⟩ := by
  unfold firstT
  rw [if_neg (by simp), run_none 48 57 _ (fun d hd => by simp at hd; subst hd; exact h1), run_none 97 122 _ (fun d hd => by simp at hd; subst hd; exact h2)]
  simp
theorem longL_cons (c : UInt8) (r : Bs) : longL (c :: r) = if c = 60 then (if r.head? = some 61 then 2 else 1) else if c = 61 then 3 else if c = 33 then (if r.head? = some 61 then 4 else 0) else if c = 62 then (if r.head? = some 61 then 6 else 5) else 0 := by
  cases r with
  | nil =>
    simp only [longL, List.head?_nil]
    by_cases h : c = 33
    · subst h; decide
    · simp [h]
  | cons d r => simp [longL]
theorem u8_inR (n : Int) (h0 : 0 ≤ n) (h1 : n < 256) (a b : Int) : inR a b (u8 n) = (decide (a ≤ n) && decide (n ≤ b)) := by
  unfold inR; rw [u8_nat n h0 h1]
theorem opts {o : Option UInt8} {P : UInt8 → Prop} (h : ∀ c, o = some c → P c) : ∀ c, o = some c → P c := h
set_option maxHeartbeats 1000000 in
/-- A token's own bytes, with what may stand behind, are read as it. -/
theorem first_ok (t : Tk) (r : Bs) (ht : textT t ≠ []) (ho : okNext t r.head? = true) : firstT (textT t ++ r) = t := by
  rcases text_cases t ht with ⟨hk, h0, h1, e⟩ | ⟨hk, h0, h1, e⟩ | ⟨rfl, e⟩ | ⟨hk, h0, h1, e⟩ | ⟨hk, hs, e⟩
  · rw [e, first_num [] r t.n h0 h1 (fun c hc => by rw [hc] at ho; simpa [okNext, hk] using ho)]
    exact (tk_eq hk rfl).symm
  · rw [e, first_low _ _ (by simp) (fun c hc => by
      obtain rfl := List.mem_singleton.1 hc
      rw [u8_inR _ (by omega) (by omega)]; simp; omega) (fun c hc => by rw [hc] at ho; simpa [okNext, hk] using ho)]
    unfold wordT
    rw [if_pos (show [u8 (97 + t.n)].length = 1 from rfl)]
    refine (tk_eq hk ?_).symm
    simp only [List.getElem?_cons_zero, Option.getD_some]
    rw [u8_nat _ (by omega) (by omega)]; omega
  · rw [e, first_low _ _ (by simp [withinL]) (fun c hc => by
      simp [withinL] at hc
      rcases hc with rfl | rfl | rfl | rfl | rfl | rfl <;> decide) (fun c hc => by rw [hc] at ho; simpa [okNext] using ho)]
    rfl
  · rw [e]
    obtain ⟨k, n⟩ := t
    simp only at hk h0 h1 ⊢
    subst hk
    rcases op_cases n h0 h1 with rfl | rfl | rfl | rfl | rfl | rfl
    · have : r.head? ≠ some 61 := fun hc => by rw [hc] at ho; simp [okNext] at ho
      show firstT (60 :: r) = _
      rw [first_plain _ _ (by decide) (by decide), longL_cons]; simp [this]
    · show firstT (60 :: 61 :: r) = _
      rw [first_plain _ _ (by decide) (by decide), longL_cons]; simp
    · show firstT (61 :: r) = _
      rw [first_plain _ _ (by decide) (by decide), longL_cons]; simp
    · show firstT (33 :: 61 :: r) = _
      rw [first_plain _ _ (by decide) (by decide), longL_cons]; simp
    · have : r.head? ≠ some 61 := fun hc => by rw [hc] at ho; simp [okNext] at ho
      show firstT (62 :: r) = _
      rw [first_plain _ _ (by decide) (by decide), longL_cons]; simp [this]
    · show firstT (62 :: 61 :: r) = _
      rw [first_plain _ _ (by decide) (by decide), longL_cons]; simp
  · rw [e]
    obtain ⟨k, n⟩ := t
    simp only at hk hs ⊢
    subst hk
    have h33 : n = 33 → r.head? ≠ some 61 := fun hn hc => by subst hn; rw [hc] at ho; simp [okNext] at ho
    rcases sign_cases n hs with rfl | rfl | rfl | rfl | rfl | rfl | rfl | rfl | rfl | rfl | rfl | rfl
    all_goals
      show firstT (_ :: r) = _
      rw [first_plain _ _ (by decide) (by decide), longL_cons]
      simp [h33, u8, isSign, signsL]
    all_goals exact h33 rfl
set_option maxHeartbeats 1000000 in
/-- What stands behind a token that was read. -/
theorem first_need (t : Tk) (r : Bs) (ht : textT t ≠ []) (hf : firstT (textT t ++ r) = t) : okNext t r.head? = true := by
  rcases hr : r.head? with _ | c
  · rfl
  obtain ⟨r', rfl⟩ : ∃ r', r = c :: r' := by cases r with | nil => cases hr | cons d r' => exact ⟨r', by simp at hr; rw [hr]⟩
  rcases text_cases t ht with ⟨hk, h0, h1, e⟩ | ⟨hk, h0, h1, e⟩ | ⟨rfl, e⟩ | ⟨hk, h0, h1, e⟩ | ⟨hk, hs, e⟩
  · simp only [okNext, hk, if_true]
    rw [e] at hf
    obtain ⟨hd, hne⟩ := text_digits t.n h0
    cases hi : inR 48 57 c with
    | false => rfl
    | true =>
      exfalso
      have hrun : runL 48 57 (textB t.n ++ c :: r') ≠ [] := by
        obtain ⟨d, y, hy⟩ := List.exists_cons_of_ne_nil hne
        rw [hy, List.cons_append, run_head, hd d (by rw [hy]; simp), if_pos rfl]; simp
      unfold firstT at hf
      rw [if_neg (by simp), if_pos hrun] at hf
      unfold numT at hf
      split at hf
      · rename_i hn
        have hn1 : readN (runL 48 57 (textB t.n ++ c :: r')) = t.n := congrArg Tk.n hf
        have h2 := text_read _ hn.1
        rw [hn1] at h2
        have := run_rest 48 57 (textB t.n) (c :: r') h2.symm c rfl
        rw [hi] at this; cases this
      · rw [← hf] at hk; exact absurd hk (by decide)
  · simp only [okNext, hk, if_true]
    simp only [show (2 : Int) = 1 ↔ False by decide, if_false, true_or, if_true]
    rw [e] at hf
    cases hi : inR 97 122 c with
    | false => rfl
    | true =>
      exfalso
      have hu : inR 97 122 (u8 (97 + t.n)) = true := by rw [u8_inR _ (by omega) (by omega)]; simp; omega
      have h48 : runL 48 57 ([u8 (97 + t.n)] ++ c :: r') = [] := run_none _ _ _ (fun d hd => by
        simp at hd; subst hd; rw [u8_inR _ (by omega) (by omega)]; simp; omega)
      unfold firstT at hf
      rw [if_neg (by simp), h48, if_neg (by simp)] at hf
      have hrun : runL 97 122 ([u8 (97 + t.n)] ++ c :: r') = u8 (97 + t.n) :: c :: runL 97 122 r' := by
        simp [run_head, hu, hi]
      rw [hrun, if_pos (by simp)] at hf
      unfold wordT at hf
      rw [if_neg (by simp)] at hf
      split at hf
      · rw [← hf] at hk; exact absurd hk (by decide)
      · rw [← hf] at hk; exact absurd hk (by decide)
  · rw [e] at hf
    show (!(inR 97 122 c)) = true
    cases hi : inR 97 122 c with
    | false => rfl
    | true =>
      exfalso
      have hrun : runL 97 122 (withinL ++ c :: r') = withinL ++ c :: runL 97 122 r' := by
        simp [withinL, run_head, hi, show inR 97 122 119 = true by decide, show inR 97 122 105 = true by decide, show inR 97 122 116 = true by decide, show inR 97 122 104 = true by decide, show inR 97 122 110 = true by decide]
      have h48 : runL 48 57 (withinL ++ c :: r') = [] := run_none _ _ _ (fun d hd => by simp [withinL] at hd; subst hd; decide)
      unfold firstT at hf
      rw [if_neg (by simp), h48, if_neg (by simp), hrun, if_pos (by simp)] at hf
      unfold wordT at hf
      rw [if_neg (by simp [withinL]), if_neg (by simp [withinL])] at hf
      cases hf
  · rw [e] at hf
    obtain ⟨k, n⟩ := t
    simp only at hk h0 h1 hf
    subst hk
    simp only [okNext]
    by_cases hc : c = 61
    · subst hc
      rcases op_cases n h0 h1 with rfl | rfl | rfl | rfl | rfl | rfl
      · have : firstT (60 :: 61 :: r') = ⟨4, 1⟩ := hf
        rw [first_plain _ _ (by decide) (by decide), longL_cons] at this; simp at this
      · decide
      · decide
      · decide
      · have : firstT (62 :: 61 :: r') = ⟨4, 5⟩ := hf
        rw [first_plain _ _ (by decide) (by decide), longL_cons] at this; simp at this
      · decide
    · simp [hc]
  · rw [e] at hf
    obtain ⟨k, n⟩ := t
    simp only at hk hs hf
    subst hk
    simp only [okNext]
    by_cases hc : c = 61
    · by_cases hn : n = 33
      · subst hc hn
        have : firstT (33 :: 61 :: r') = ⟨5, 33⟩ := hf
        rw [first_plain _ _ (by decide) (by decide), longL_cons] at this; simp at this
      · simp [hn]
    · simp [hc]
theorem text_head (t : Tk) (c : UInt8) (x : Bs) (h : textT t = c :: x) : c ≠ 32 := by
  rcases text_cases t (by rw [h]; simp) with ⟨hk, h0, h1, e⟩ | ⟨hk, h0, h1, e⟩ | ⟨rfl, e⟩ | ⟨hk, h0, h1, e⟩ | ⟨hk, hs, e⟩
  · have := (inR_iff _ _ _).1 ((text_digits t.n h0).1 c (by rw [← e, h]; simp))
    rintro rfl; simp at this
  · rw [e] at h
    obtain ⟨rfl, _⟩ := List.cons.inj h
    intro hc
    have := congrArg UInt8.toNat hc
    have h2 := u8_nat (97 + t.n) (by omega) (by omega)
    simp at this; omega
  · rw [e] at h
    obtain ⟨rfl, _⟩ := List.cons.inj h
    decide
  · rw [e] at h
    rcases op_cases t.n h0 h1 with h' | h' | h' | h' | h' | h'
    all_goals
      rw [h'] at h
      obtain ⟨rfl, _⟩ := List.cons.inj h
      decide
  · rw [e] at h
    obtain ⟨rfl, _⟩ := List.cons.inj h
    rcases sign_cases t.n hs with h' | h' | h' | h' | h' | h' | h' | h' | h' | h' | h' | h'
    all_goals
      rw [h']
      decide
def bl (b : Nat) : Bs := List.replicate b 32
theorem bl_len (b : Nat) : (bl b).length = b := List.length_replicate
theorem bl_mem (b : Nat) (c : UInt8) (h : c ∈ bl b) : inR 32 32 c = true := by
  obtain ⟨_, rfl⟩ := List.mem_replicate.1 h; decide
theorem not_bl (c : UInt8) (h : c ≠ 32) : inR 32 32 c = false := by
  cases hi : inR 32 32 c with
  | false => rfl
  | true =>
    rw [inR_iff] at hi
    exact absurd (UInt8.toNat_inj.1 (by simp; omega)) h
theorem blanks_app (b : Nat) (l : Bs) (h : l.head? ≠ some 32) : blanks (bl b ++ l) = b := by
  unfold blanks
  rw [run_app 32 32 (bl b) l (bl_mem b) (fun c hc => not_bl c (fun e => h (by rw [hc, e]))), bl_len]
theorem blanks_split (l : Bs) : l = bl (blanks l) ++ l.drop (blanks l) ∧ (l.drop (blanks l)).head? ≠ some 32 := by
  have h1 := run_take 32 32 l
  have h2 : runL 32 32 l = bl (blanks l) := by
    unfold bl blanks
    rw [List.eq_replicate_iff]
    exact ⟨rfl, fun c hc => by
      have := (inR_iff _ _ _).1 (run_mem 32 32 l c hc)
      exact UInt8.toNat_inj.1 (by simp; omega)⟩
  have h3 : l = bl (blanks l) ++ l.drop (blanks l) := by
    rw [← h2, h1]
    unfold blanks
    rw [← h1]
    conv => lhs; rw [← List.take_append_drop (runL 32 32 l).length l]
    rw [← h1]
  refine ⟨h3, fun hc => ?_⟩
  have h4 : runL 32 32 (bl (blanks l) ++ l.drop (blanks l)) = bl (blanks l) := by rw [← h3, h2]
  have := run_rest 32 32 _ _ h4 32 hc
  exact absurd this (by decide)
/-- These are the tokens of l, whose first byte stands at p; e: what is left where no token begins. -/
inductive Toks (e : Bs) : Nat → Bs → List (Tk × Nat) → Prop
  | fin (p b : Nat) : e.head? ≠ some 32 → textT (firstT e) = [] → Toks e p (bl b ++ e) [(firstT e, p + b)]
  | tok (p b : Nat) (t : Tk) (r : Bs) (ts : List (Tk × Nat)) : textT t ≠ [] → okNext t r.head? = true → Toks e (p + b + (textT t).length) r ts → Toks e p (bl b ++ (textT t ++ r)) ((t, p + b) :: ts)
theorem text_head' (t : Tk) (r : Bs) (h : textT t ≠ []) : (textT t ++ r).head? ≠ some 32 := by
  obtain ⟨c, x, hx⟩ := List.exists_cons_of_ne_nil h
  rw [hx]
  intro hc
  exact text_head t c x hx (by simpa using hc)
theorem Toks.is {e : Bs} {p : Nat} {l : Bs} {ts : List (Tk × Nat)} (h : Toks e p l ts) : ∀ f, l.length < f → toksF f p l = ts := by
  induction h with
  | fin p b h1 h2 =>
    intro f hf
    obtain ⟨f, rfl⟩ : ∃ g, f = g + 1 := ⟨f - 1, by omega⟩
    simp only [toksF]
    rw [blanks_app _ _ h1, List.drop_append_of_le_length (by rw [bl_len]; exact Nat.le_refl _), List.drop_of_length_le (by rw [bl_len]; exact Nat.le_refl _), List.nil_append, h2]
    rfl
  | tok p b t r ts h1 h2 h3 ih =>
    intro f hf
    obtain ⟨f, rfl⟩ : ∃ g, f = g + 1 := ⟨f - 1, by omega⟩
    simp only [toksF]
    rw [blanks_app _ _ (text_head' t r h1), List.drop_append_of_le_length (by rw [bl_len]; exact Nat.le_refl _), List.drop_of_length_le (by rw [bl_len]; exact Nat.le_refl _), List.nil_append, first_ok t r h1 h2]
    have hn : (textT t).length ≠ 0 := fun e => h1 (List.length_eq_zero_iff.1 e)
    rw [if_neg hn, List.drop_left]
    simp only [List.length_append] at hf
    rw [ih f (by omega)]
theorem Toks.all {l : Bs} {e : Bs} {ts : List (Tk × Nat)} (h : Toks e 0 l ts) : toks l = ts := h.is _ (by omega)
theorem toks_have (n : Nat) : ∀ (p : Nat) (l : Bs), l.length < n → ∃ e ts, Toks e p l ts := by
  induction n with
  | zero => intro p l h; omega
  | succ n ih =>
    intro p l h
    obtain ⟨h1, h2⟩ := blanks_split l
    by_cases hz : textT (firstT (l.drop (blanks l))) = []
    · refine ⟨l.drop (blanks l), [(firstT (l.drop (blanks l)), p + blanks l)], ?_⟩
      have := Toks.fin (e := l.drop (blanks l)) p (blanks l) h2 hz
      rwa [← h1] at this
    · have hne : l.drop (blanks l) ≠ [] := fun e => by rw [e] at hz; exact hz rfl
      have h6 : (firstT (l.drop (blanks l))).k ≠ 6 := fun e => by apply hz; unfold textT; simp [e]
      obtain ⟨⟨r, hr⟩, _⟩ := first_text _ hne h6
      generalize ht : firstT (l.drop (blanks l)) = t at *
      have hl : (textT t ++ r).length ≤ l.length := by rw [hr]; simp
      have hp : 0 < (textT t).length := List.length_pos_iff.2 hz
      simp only [List.length_append] at hl
      obtain ⟨e, ts, h3⟩ := ih (p + blanks l + (textT t).length) r (by omega)
      refine ⟨e, (t, p + blanks l) :: ts, ?_⟩
      have := Toks.tok (e := e) p (blanks l) t r ts hz (first_need t r hz (by rw [hr]; exact ht)) h3
      rwa [hr, ← h1] at this
theorem toks_some (l : Bs) : ∃ e, Toks e 0 l (toks l) := by
  obtain ⟨e, ts, h⟩ := toks_have (l.length + 1) 0 l (by omega)
  exact ⟨e, h.all ▸ h⟩
/-- All tokens are told: nothing is left. -/
theorem toks_whole (l : Bs) (h : ∀ x ∈ toks l, x.1.k ≠ 6) : Toks [] 0 l (toks l) := by
  obtain ⟨e, h1⟩ := toks_some l
  have h2 : ∃ q, (firstT e, q) ∈ toks l ∧ textT (firstT e) = [] := by
    generalize toks l = ts at h1
    generalize (0 : Nat) = p0 at h1
    clear h
    induction h1 with
    | fin p b _ h => exact ⟨p + b, by simp, h⟩
    | tok p b t r ts _ _ _ ih =>
      obtain ⟨q, h1, h2⟩ := ih
      exact ⟨q, by simp [h1], h2⟩
  obtain ⟨q, h2, h3⟩ := h2
  rcases first_none e (by rw [h3]; rfl) with rfl | h6
  · exact h1
  · exact absurd h6 (h _ h2)
/-- Where none begins. -/
theorem Toks.wrong {e : Bs} {p : Nat} {l : Bs} {ts : List (Tk × Nat)} (h : Toks e p l ts) : ∀ t q, (t, q) ∈ ts → t.k = 6 → p ≤ q ∧ q < p + l.length ∧ l[q - p]? ≠ some 32 := by
  induction h with
  | fin p b h1 h2 =>
    intro t q hm h6
    obtain ⟨rfl, rfl⟩ := Prod.mk.inj (List.mem_singleton.1 hm)
    have hne : e ≠ [] := fun e' => by subst e'; exact absurd h6 (by decide)
    have hl : 0 < e.length := List.length_pos_iff.2 hne
    refine ⟨by omega, by rw [List.length_append, bl_len]; omega, ?_⟩
    rw [List.getElem?_append_right (by rw [bl_len]; omega), bl_len, show p + b - p - b = 0 by omega, ← List.head?_eq_getElem?]
    exact h1
  | tok p b t r ts h1 h2 h3 ih =>
    intro t' q hm h6
    rcases List.mem_cons.1 hm with he | hm
    · obtain ⟨rfl, rfl⟩ := Prod.mk.inj he
      exfalso; apply h1; unfold textT; simp [h6]
    · obtain ⟨i1, i2, i3⟩ := ih t' q hm h6
      refine ⟨by omega, by rw [List.length_append, List.length_append, bl_len]; omega, ?_⟩
      rw [List.getElem?_append_right (by rw [bl_len]; omega), bl_len, List.getElem?_append_right (by omega), show q - p - b - (textT t).length = q - (p + b + (textT t).length) by omega]
      exact i3
end Go.Proofs.YtkedifhlkiffoaaDoor
