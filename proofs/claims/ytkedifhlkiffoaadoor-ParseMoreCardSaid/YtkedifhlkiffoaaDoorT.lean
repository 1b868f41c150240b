/-
  Plain facts on texts and bytes of whole numbers: a number's text is read as the number, a text that is read is the text of its number, and bytes that have room for a number tell it.
-/
import Derived.Test.YtkedifhlkiffoaaDoorK
namespace Go.Proofs.YtkedifhlkiffoaaDoor
open Go.RowKit
set_option linter.unusedVariables false
def u8 (n : Int) : UInt8 := UInt8.ofNat n.toNat
/-- The digits of m, the first one first. -/
def dgt (m : Nat) : List UInt8 := ((lowN m).reverse).map u8
theorem dgt_more (m : Nat) (h : 9 < m) : dgt m = dgt (m / 10) ++ [u8 (48 + (m : Int) % 10)] := by
  unfold dgt; rw [lowN_more m h]; simp
theorem dgt_last (m : Nat) (h : ¬ 9 < m) : dgt m = [u8 (48 + (m : Int) % 10)] := by
  unfold dgt; rw [lowN_last m h]; simp
theorem u8_nat (n : Int) (h : 0 ≤ n) (h' : n < 256) : ((u8 n).toNat : Int) = n := by
  unfold u8; rw [UInt8.toNat_ofNat']; omega
theorem digV_u8 (k : Nat) (h : k ≤ 9) : digV (u8 (48 + (k : Int))) = k := by
  have := u8_nat (48 + (k : Int)) (by omega) (by omega)
  unfold digV
  rw [if_pos (by omega)]; omega
theorem digV_mod (m : Nat) : digV (u8 (48 + (m : Int) % 10)) = (m : Int) % 10 := by
  have := digV_u8 (m % 10) (by omega)
  have e : ((m % 10 : Nat) : Int) = (m : Int) % 10 := by omega
  rwa [e] at this
theorem dgt_facts (n : Nat) : ∀ m, m ≤ n → valN ((dgt m).map digV) = -(m : Int) ∧ (∀ c ∈ dgt m, 0 ≤ digV c) ∧ (∃ c t, dgt m = c :: t ∧ c ≠ 45 ∧ (c = 48 → m = 0 ∧ t = [])) := by
  induction n with
  | zero =>
    intro m hm
    obtain rfl : m = 0 := by omega
    rw [dgt_last 0 (by omega)]
    refine ⟨by decide, by decide, _, _, rfl, by decide, fun _ => ⟨rfl, rfl⟩⟩
  | succ n ih =>
    intro m hm
    have hd := digV_mod m
    by_cases h9 : 9 < m
    · obtain ⟨h1, h2, c, t, h3, h4, h5⟩ := ih (m / 10) (by omega)
      rw [dgt_more m h9]
      refine ⟨?_, ?_, ?_⟩
      · rw [List.map_append, List.map_singleton, valN_snoc, h1, hd]; omega
      · intro c hc
        rcases List.mem_append.1 hc with hc | hc
        · exact h2 c hc
        · simp at hc; subst hc; omega
      · rw [h3]
        refine ⟨c, t ++ [u8 (48 + (m : Int) % 10)], rfl, h4, fun e => ?_⟩
        have := (h5 e).1
        omega
    · rw [dgt_last m h9]
      refine ⟨?_, ?_, _, _, rfl, ?_, ?_⟩
      · simp only [List.map_singleton, valN, List.foldl_cons, List.foldl_nil, hd]; omega
      · intro c hc; simp at hc; subst hc; omega
      · intro e
        rw [e] at hd
        have : digV 45 = -1 := by decide
        omega
      · intro e
        rw [e] at hd
        have : digV 48 = 0 := by decide
        exact ⟨by omega, rfl⟩
/-- The bytes of a number's text. -/
def textB (a : Int) : List UInt8 := (textZ a).map u8
theorem textB_eq (a : Int) : textB a = if a < 0 then 45 :: dgt a.natAbs else dgt a.natAbs := by
  unfold textB textZ dgt
  split
  · simp; rfl
  · simp
theorem str_textB (a : Int) : strOfNums (textZ a) = ⟨(textB a).toArray⟩ := rfl
theorem textB_len (a : Int) (h : fits a = true) : (textB a).length ≤ 21 := by
  rw [fits_iff] at h
  have := lowN_len 19 a.natAbs (by omega)
  rw [textB_eq]; unfold dgt; split <;> simp <;> omega
theorem read_text (a : Int) (h : fits a = true) : readN (textB a) = a ∧ readE (textB a) = 0 := by
  obtain ⟨h1, h2, c, t, h3, h4, h5⟩ := dgt_facts a.natAbs a.natAbs (Nat.le_refl _)
  have hc : (c == 45) = false := by simpa using h4
  have hall : (dgt a.natAbs).all (fun c => decide (0 ≤ digV c)) = true := by simpa using h2
  have key : formB (textB a) = true ∧ valT (textB a) = a := by
    rw [textB_eq]
    split
    · rename_i hneg
      have e1 : digs (45 :: dgt a.natAbs) = dgt a.natAbs := by simp [digs]
      have e2 : below (45 :: dgt a.natAbs) = true := by simp [below]
      have hz : zahead true (dgt a.natAbs) = false := by
        rw [h3]; simp only [zahead, Bool.true_or, Bool.and_true]
        simp; intro e; have := (h5 e).1; omega
      refine ⟨by rw [formB, e1, e2, hz, hall, h3]; rfl, by rw [valT, e1, e2, h1]; simp; omega⟩
    · rename_i hneg
      have e1 : digs (dgt a.natAbs) = dgt a.natAbs := by rw [h3]; simp [digs, hc]
      have e2 : below (dgt a.natAbs) = false := by rw [h3]; simp [below, hc]
      have hz : zahead false (dgt a.natAbs) = false := by
        rw [h3]; simp only [zahead, Bool.false_or]
        by_cases e : c = 48
        · rw [(h5 e).2]; simp
        · simp [e]
      refine ⟨by rw [formB, e1, e2, hz, hall, h3]; rfl, by rw [valT, e1, e2, h1]; simp; omega⟩
  unfold readN readE
  rw [key.1, key.2]
  exact ⟨by simp [only, h], by simp [code, h]⟩
/-- The number that digits tell. -/
def vNat (ds : List UInt8) : Nat := (-valN (ds.map digV)).toNat
theorem valN_neg (n : Nat) : ∀ ds : List UInt8, ds.length = n → (∀ c ∈ ds, 0 ≤ digV c) → valN (ds.map digV) ≤ 0 := by
  induction n with
  | zero => intro ds hl _; rw [List.length_eq_zero_iff] at hl; subst hl; decide
  | succ n ih =>
    intro ds hl h
    obtain ⟨es, d, rfl⟩ : ∃ es d, ds = es ++ [d] := ⟨ds.dropLast, ds.getLast (by intro e; simp [e] at hl), (List.dropLast_concat_getLast _).symm⟩
    simp at hl
    have := ih es hl (fun c hc => h c (by simp [hc]))
    have := h d (by simp)
    rw [List.map_append, List.map_singleton, valN_snoc]; omega
theorem u8_digV (c : UInt8) (h : 0 ≤ digV c) : u8 (48 + digV c) = c := by
  unfold digV at h ⊢
  split at h
  · rename_i hc
    rw [if_pos hc]
    apply UInt8.toNat_inj.1
    have := u8_nat (48 + ((c.toNat : Int) - 48)) (by omega) (by omega)
    omega
  · omega
theorem dgt_vNat (n : Nat) : ∀ ds : List UInt8, ds.length = n + 1 → (∀ c ∈ ds, 0 ≤ digV c) → (∀ c t, ds = c :: t → c = 48 → t = []) → dgt (vNat ds) = ds ∧ (∀ c t, ds = c :: t → c ≠ 48 → 1 ≤ vNat ds) := by
  induction n with
  | zero =>
    intro ds hl h _
    match ds, hl with
    | [c], _ =>
      have h0 := h c (by simp)
      have h9 := (digV_bd c).2
      have hv : vNat [c] = (digV c).toNat := by simp [vNat, valN]
      refine ⟨?_, ?_⟩
      · rw [hv, dgt_last _ (by omega)]
        rw [show (48 : Int) + ((digV c).toNat : Int) % 10 = 48 + digV c by omega, u8_digV c h0]
      · intro c' t e hne
        cases e
        rw [hv]
        have : digV c ≠ 0 := by
          intro e
          apply hne
          rw [← u8_digV c h0, e]; rfl
        omega
  | succ n ih =>
    intro ds hl h hz
    obtain ⟨es, d, rfl⟩ : ∃ es d, ds = es ++ [d] := ⟨ds.dropLast, ds.getLast (by intro e; simp [e] at hl), (List.dropLast_concat_getLast _).symm⟩
    simp at hl
    have hd0 := h d (by simp)
    have hd9 := (digV_bd d).2
    match es, hl with
    | c :: t, hl =>
      have hc48 : c ≠ 48 := by
        intro e
        have := hz c (t ++ [d]) rfl e
        simp at this
      obtain ⟨g1, g2⟩ := ih (c :: t) hl (fun x hx => h x (by simp at hx ⊢; rcases hx with rfl | hx; exact .inl rfl; exact .inr (.inl hx))) (fun c' t' e e' => by cases e; exact absurd e' hc48)
      have hge := g2 c t rfl hc48
      have hneg := valN_neg _ (c :: t) rfl (fun x hx => h x (by simp at hx ⊢; rcases hx with rfl | hx; exact .inl rfl; exact .inr (.inl hx)))
      have hv : vNat (c :: t ++ [d]) = vNat (c :: t) * 10 + (digV d).toNat := by
        unfold vNat
        rw [List.map_append, List.map_singleton, valN_snoc]; omega
      refine ⟨?_, fun _ _ _ _ => by rw [hv]; omega⟩
      rw [hv, dgt_more _ (by omega)]
      rw [show (vNat (c :: t) * 10 + (digV d).toNat) / 10 = vNat (c :: t) by omega, g1]
      rw [show (48 : Int) + ((vNat (c :: t) * 10 + (digV d).toNat : Nat) : Int) % 10 = 48 + digV d by omega, u8_digV d hd0]
theorem text_read (l : List UInt8) (h : readE l = 0) : textB (readN l) = l := by
  unfold readE readN at *
  cases hf : formB l
  · simp [hf] at h
  · have hfit : fits (valT l) = true := by
      cases hh : fits (valT l)
      · rw [if_pos hf, code_not hh] at h; cases h
      · rfl
    rw [if_pos rfl, only_fits hfit]
    simp only [formB, Bool.and_eq_true, Bool.not_eq_true'] at hf
    obtain ⟨⟨hne, hz⟩, hall⟩ := hf
    have hall' : ∀ c ∈ digs l, 0 ≤ digV c := by simpa using hall
    cases hd : digs l with
    | nil => simp [hd] at hne
    | cons c t =>
      rw [hd] at hz hall'
      have hneg := valN_neg _ (c :: t) rfl hall'
      have hzero : c = 48 → t = [] := by
        intro e; subst e
        cases hb : below l <;> simp [zahead, hb] at hz
        exact hz
      obtain ⟨g1, g2⟩ := dgt_vNat t.length (c :: t) (by simp) hall' (fun c' t' e e' => by cases e; exact hzero e')
      cases l with
      | nil => simp [digs] at hd
      | cons x r =>
        cases hx : x == 45
        · have e1 : digs (x :: r) = x :: r := by simp [digs, hx]
          have e2 : below (x :: r) = false := by simp [below, hx]
          rw [e1] at hd
          rw [textB_eq, valT, e1, e2, hd]
          have : -valN ((c :: t).map digV) = (vNat (c :: t) : Int) := by unfold vNat; omega
          rw [if_neg (show ¬ false = true by decide), this, if_neg (by omega)]
          exact g1
        · have e1 : digs (x :: r) = r := by simp [digs, hx]
          have e2 : below (x :: r) = true := by simp [below, hx]
          rw [e1] at hd
          rw [textB_eq, valT, e1, e2, hd]
          have hc : c ≠ 48 := by
            rw [e2] at hz
            intro e
            simp [zahead, e] at hz
          have h1 := g2 c t rfl hc
          have hv : valN ((c :: t).map digV) = -(vNat (c :: t) : Int) := by unfold vNat; omega
          rw [if_pos rfl, hv, if_pos (by omega)]
          rw [show (-(vNat (c :: t) : Int)).natAbs = vNat (c :: t) by omega, g1]
          simp at hx; rw [hx]
end Go.Proofs.YtkedifhlkiffoaaDoor
