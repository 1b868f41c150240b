/-
  One step more ahead of the word within: what is parsed then.
-/
import Derived.Test.YtkedifhlkiffoaaDoorPS
import Derived.Test.YtkedifhlkiffoaaDoorPZ
namespace Go.Proofs.YtkedifhlkiffoaaDoor
open Go.ChangeShapes Go.WideShapes Go.ChangeAt Go.RowKit
open Tree (Tm Cp Sp)
set_option linter.unusedVariables false
set_option linter.unusedSimpArgs false
section
variable {ts us : Tks} {m : Nat}
/-- The same tokens ahead of m. -/
def Under (ts us : Tks) (m : Nat) : Prop := ∀ j, j < m → (ts[j]?).map (·.1) = (us[j]?).map (·.1)
theorem Under.to (h : Under ts us m) {k : Nat} (hk : k < m) : AgreeTo ts us k := fun j hj => h j (by omega)
theorem cmpsF_mk1 {f k k1 k2 : Nat} {c : Int × (Int × Int × Int × Int) × (Int × Int × Int × Int)} {l : List Cp} (h1 : cmpP ts k = .ok (c, k1)) (h2 : mayP ts 5 38 k1 = true) (h3 : cmpsF ts f (k1 + 1) = .ok (l, k2)) : cmpsF ts (f + 1) k = .ok (cpO c :: l, k2) := by
  unfold cmpsF; rw [h1]; simp only; rw [if_pos h2, h3]
theorem cmpsF_mk2 {f k k1 k2 : Nat} {c : Int × (Int × Int × Int × Int) × (Int × Int × Int × Int)} (h1 : cmpP ts k = .ok (c, k1)) (h2 : mayP ts 5 38 k1 = false) (h3 : mustP ts 5 93 k1 = .ok ((), k2)) : cmpsF ts (f + 1) k = .ok ([cpO c], k2) := by
  unfold cmpsF; rw [h1]; simp only; rw [if_neg (by simp [h2]), h3]
theorem cmpsF_more : ∀ (f f' k : Nat) (x : List Cp × Nat), cmpsF ts f k = .ok x → f ≤ f' → cmpsF ts f' k = .ok x := by
  intro f
  induction f with
  | zero => intro f' k x h; cases h
  | succ f ih =>
    intro f' k x h hf
    obtain ⟨f', rfl⟩ : ∃ q, f' = q + 1 := ⟨f' - 1, by omega⟩
    obtain ⟨c, k1, h1, ⟨hm, l, h2, h3⟩ | ⟨hm, h2, h3⟩⟩ := cmpsF_is h
    · have := cmpsF_mk1 h1 hm (ih f' _ _ h2 (by omega))
      rw [this, ← h3]
    · have := cmpsF_mk2 (f := f') h1 hm h2
      rw [this, ← h3]
theorem cmpsF_swap (hA : Under ts us m) : ∀ (f k : Nat) (x : List Cp × Nat), cmpsF ts f k = .ok x → x.2 ≤ m → cmpsF us f k = .ok x := by
  intro f
  induction f with
  | zero => intro k x h; cases h
  | succ f ih =>
    intro k x h hx
    obtain ⟨c, k1, h1, ⟨hm, l, h2, h3⟩ | ⟨hm, h2, h3⟩⟩ := cmpsF_is h
    · have g2 := cmpsF_gt _ _ _ h2
      simp only at g2
      have ha := hA.to (k := k1) (by omega)
      have e1 := ((det_cmp ts us k).2 _ h1).2 ha
      have e2 := (may_agree 5 38 ts us k1 ha).symm.trans hm
      have := cmpsF_mk1 e1 e2 (ih _ _ h2 hx)
      rw [this, ← h3]
    · have g2 := must_gt h2
      simp only at g2
      have ha := hA.to (k := k1) (by omega)
      have e1 := ((det_cmp ts us k).2 _ h1).2 ha
      have e2 := (may_agree 5 38 ts us k1 ha).symm.trans hm
      have := cmpsF_mk2 (f := f) e1 e2 ((must_agree 5 93 ts us k1 ha).symm.trans h2)
      rw [this, ← h3]
theorem span_swap (hA : Under ts us m) {k : Nat} {x : (Int × Int) × Nat} (h : spanP ts k = .ok x) (hx : x.2 ≤ m) : spanP us k = .ok x := by
  obtain ⟨k1, k2, k3, h1, h2, h3, h4⟩ := span_is h
  have g1 := one_gt h1
  have g2 := must_gt h2
  have g3 := one_gt h3
  have g4 := must_gt h4
  simp only at g1 g2 g3 g4
  have e1 := (one_agree 1 ts us k (hA.to (by omega))).symm.trans h1
  have e2 := (must_agree 5 44 ts us k1 (hA.to (by omega))).symm.trans h2
  have e3 := (one_agree 1 ts us k2 (hA.to (by omega))).symm.trans h3
  have e4 := (must_agree 5 125 ts us k3 (hA.to (by omega))).symm.trans h4
  unfold spanP
  rw [e1]
  simp only
  rw [e2]
  simp only
  rw [e3]
  simp only
  rw [e4]
theorem may_at (hA : Under ts us m) {n : Int} (h1 : mayP ts 5 n m = false) (h2 : mayP us 5 n m = false) {q : Nat} (hq : q ≤ m) : mayP us 5 n q = mayP ts 5 n q := by
  rcases Nat.lt_or_ge q m with hl | hl
  · exact (may_agree 5 n ts us q (hA.to hl)).symm
  · obtain rfl : q = m := by omega
    rw [h1, h2]
theorem times_swap (hA : Under ts us m) (h1 : mayP ts 5 123 m = false) (h2 : mayP us 5 123 m = false) {k : Nat} {x : (Int × Int) × Nat} (h : timesP ts k = .ok x) (hk : k ≤ m) (hx : x.2 ≤ m) : timesP us k = .ok x := by
  unfold timesP at h ⊢
  rw [may_at hA h1 h2 hk]
  split at h
  · rename_i hm
    rw [if_pos hm]
    exact span_swap hA h hx
  · rename_i hm
    rw [if_neg hm]
    exact h
theorem list_swap (hA : Under ts us m) (hl : ts.length ≤ us.length) (h1 : mayP ts 5 91 m = false) (h2 : mayP us 5 91 m = false) {k : Nat} {x : List Cp × Nat} (h : listP ts k = .ok x) (hk : k ≤ m) (hx : x.2 ≤ m) : listP us k = .ok x := by
  unfold listP at h ⊢
  rw [may_at hA h1 h2 hk]
  split at h
  · rename_i hm
    rw [if_pos hm]
    exact cmpsF_more _ _ _ _ (cmpsF_swap hA _ _ _ h hx) hl
  · rename_i hm
    rw [if_neg hm]
    exact h
theorem step_swap (hA : Under ts us m) (hl : ts.length ≤ us.length) (h1 : mayP ts 5 123 m = false) (h2 : mayP us 5 123 m = false) (h3 : mayP ts 5 91 m = false) (h4 : mayP us 5 91 m = false) {i : Int} {strict : Bool} {k : Nat} {x : Sp × Nat}
    (h : stepP ts i strict k = .ok x) (hx : x.2 ≤ m) : stepP us i strict k = .ok x := by
  have hk := step_gt h
  have a0 : mayP us 5 33 k = mayP ts 5 33 k := (may_agree 5 33 ts us k (hA.to (by omega))).symm
  have a1 : mayK us 33 k = mayK ts 33 k := by unfold mayK; rw [a0]
  unfold stepP at h ⊢
  rw [a0, a1]
  cases c1 : oneP ts 1 (mayK ts 33 k) with
  | error j => rw [c1] at h; cases h
  | ok y1 =>
  simp only [c1] at h
  cases c2 : mustP ts 2 i y1.2 with
  | error j => rw [c2] at h; cases h
  | ok y2 =>
  simp only [c2] at h
  cases c3 : timesP ts y2.2 with
  | error j => rw [c3] at h; cases h
  | ok y3 =>
  simp only [c3] at h
  cases c4 : listP ts y3.2 with
  | error j => rw [c4] at h; cases h
  | ok y4 =>
  simp only [c4] at h
  cases h
  have g1 := one_gt c1
  have g2 := must_gt c2
  have g3 := times_ge c3
  have g4 := list_ge c4
  simp only at hx
  have e1 := (one_agree 1 ts us _ (hA.to (k := mayK ts 33 k) (by omega))).symm.trans c1
  have e2 := (must_agree 2 i ts us y1.2 (hA.to (by omega))).symm.trans c2
  have e3 := times_swap hA h1 h2 c3 (by omega) (by omega)
  have e4 := list_swap hA hl h3 h4 c4 (by omega) hx
  rw [e1]
  simp only
  rw [e2]
  simp only
  rw [e3]
  simp only
  rw [e4]
theorem patF_mk1 {f i k k1 : Nat} {strict : Bool} {s : Sp} {l : List Sp} {win : Int} (h1 : stepP ts i strict k = .ok (s, k1)) (h2 : (mayP ts 5 44 k1 || mayP ts 5 59 k1) = true) (h3 : patF ts f (i + 1) (mayP ts 5 44 k1) (k1 + 1) = .ok (l, win)) : patF ts (f + 1) i strict k = .ok (s :: l, win) := by
  unfold patF; rw [h1]; simp only; rw [if_pos h2, h3]
theorem patF_mk2 {f i k k1 : Nat} {strict : Bool} {s : Sp} {win : Int} (h1 : stepP ts i strict k = .ok (s, k1)) (h2 : (mayP ts 5 44 k1 || mayP ts 5 59 k1) = false) (h3 : endP ts k1 = .ok win) : patF ts (f + 1) i strict k = .ok ([s], win) := by
  unfold patF; rw [h1]; simp only; rw [if_neg (by simp [h2]), h3]
theorem patF_more : ∀ (f f' i : Nat) (strict : Bool) (k : Nat) (x : List Sp × Int), patF ts f i strict k = .ok x → f ≤ f' → patF ts f' i strict k = .ok x := by
  intro f
  induction f with
  | zero => intro f' i s k x h; cases h
  | succ f ih =>
    intro f' i strict k x h hf
    obtain ⟨f', rfl⟩ : ∃ q, f' = q + 1 := ⟨f' - 1, by omega⟩
    obtain ⟨s, k1, h1, ⟨hm, l, h2, h3⟩ | ⟨hm, h2, h3⟩⟩ := patF_is h
    · have := patF_mk1 h1 hm (ih f' _ _ _ _ h2 (by omega))
      rw [this, ← h3]
    · have := patF_mk2 (f := f') h1 hm h2
      rw [this, ← h3]
theorem end_at (hL : LastT ts) {k : Nat} {win : Int} (h : endP ts k = .ok win) : k + 3 = ts.length ∧ ∃ x y z, ts[k]? = some x ∧ ts[k + 1]? = some y ∧ ts[k + 2]? = some z ∧ x.1 = ⟨3, 0⟩ ∧ y.1 = ⟨1, win⟩ ∧ z.1 = ⟨0, 0⟩ := by
  obtain ⟨k1, k2, k3, h1, h2, h3⟩ := end_is h
  obtain ⟨x, hx, q1, q2, e1⟩ := must_is h1
  obtain ⟨y, hy, q3, e2⟩ := one_is h2
  obtain ⟨z, hz, q4, q5, e3⟩ := must_is h3
  obtain ⟨-, rfl⟩ := Prod.mk.inj e1
  obtain ⟨rfl, rfl⟩ := Prod.mk.inj e2
  exact ⟨by have := hL _ _ hz q4; omega, x, y, z, hx, hy, hz, tk_eq q1 q2, tk_eq q3 rfl, tk_eq q4 q5⟩
theorem patF_lt (hL : LastT ts) (hm : m + 3 = ts.length) : ∀ (f i : Nat) (strict : Bool) (k : Nat) (x : List Sp × Int), patF ts f i strict k = .ok x → k < m ∧ endP ts m = .ok x.2 := by
  intro f
  induction f with
  | zero => intro i s k x h; cases h
  | succ f ih =>
    intro i strict k x h
    obtain ⟨s, k1, h1, ⟨-, l, h2, h3⟩ | ⟨-, h2, h3⟩⟩ := patF_is h
    · have g1 := step_gt h1
      have g2 := ih _ _ _ _ h2
      simp only at g1 g2
      exact ⟨by omega, g2.2⟩
    · have g1 := step_gt h1
      have g2 := (end_at hL h2).1
      simp only at g1
      obtain rfl : k1 = m := by omega
      exact ⟨g1, h2⟩
theorem patF_ins (hA : Under ts us m) (hl : ts.length ≤ us.length) (hL : LastT ts) (hm : m + 3 = ts.length) (h1 : mayP ts 5 123 m = false) (h2 : mayP us 5 123 m = false) (h3 : mayP ts 5 91 m = false) (h4 : mayP us 5 91 m = false)
    (h5 : (mayP us 5 44 m || mayP us 5 59 m) = true) {m2 : Nat} {sp : Sp} (h6 : (mayP us 5 44 m2 || mayP us 5 59 m2) = false) {win : Int} (h7 : endP us m2 = .ok win) :
    ∀ (f i : Nat) (strict : Bool) (k : Nat) (ss : List Sp), patF ts f i strict k = .ok (ss, win) → stepP us ((i + ss.length : Nat) : Int) (mayP us 5 44 m) (m + 1) = .ok (sp, m2) → patF us (f + 1) i strict k = .ok (ss ++ [sp], win) := by
  intro f
  induction f with
  | zero => intro i s k ss h; cases h
  | succ f ih =>
    intro i strict k ss h hs
    obtain ⟨s, k1, q1, ⟨qm, l, q2, q3⟩ | ⟨qm, q2, q3⟩⟩ := patF_is h
    · simp only at q2 q3
      have g2 := (patF_lt hL hm _ _ _ _ _ q2).1
      have ha := hA.to (k := k1) (by omega)
      have e1 := ((det_step i strict ts us k).2 _ q1).2 ha
      have e2 := may_agree 5 44 ts us k1 ha
      have e3 := may_agree 5 59 ts us k1 ha
      rw [e2, e3] at qm
      rw [e2] at q2
      subst q3
      have e4 := ih (i + 1) _ _ l q2 (by rw [show i + 1 + l.length = i + (s :: l).length by simp; omega]; exact hs)
      exact patF_mk1 e1 qm e4
    · simp only at q2 q3
      have g2 := (end_at hL q2).1
      obtain rfl : k1 = m := by omega
      subst q3
      have e1 := step_swap hA hl h1 h2 h3 h4 q1 (Nat.le_refl _)
      have e2 := patF_mk2 (f := f) (i := i + 1) hs h6 h7
      exact patF_mk1 e1 h5 e2
end
theorem Toks.bls {e : Bs} {l : Bs} {us : List (Tk × Nat)} : ∀ (b p : Nat), Toks e (p + b) l us → Toks e p (bl b ++ l) us := by
  intro b
  induction b with
  | zero => intro p h; simpa [bl] using h
  | succ b ih =>
    intro p h
    have h1 := ih (p + 1) (by rw [show p + 1 + b = p + (b + 1) by omega]; exact h)
    have h2 := h1.cons_bl
    simpa [bl, List.replicate_succ] using h2
/-- Something else stands in a text from a token on. -/
theorem Toks.ins {p : Nat} {l : Bs} {ts : List (Tk × Nat)} (h : Toks [] p l ts) : ∀ (k : Nat) (x : Tk × Nat), ts[k]? = some x → ∀ (c : UInt8) (rr : Bs) (us : List (Tk × Nat)), (∀ t, okNext t (some c) = true) → Toks [] x.2 (c :: rr) us → Toks [] p (l.take (x.2 - p) ++ c :: rr) (ts.take k ++ us) := by
  induction h with
  | fin p b h1 h2 =>
    intro k x hx c rr us hc hu
    obtain rfl : k = 0 := by
      have := (List.getElem?_eq_some_iff.1 hx).1
      simp at this; omega
    obtain rfl : (firstT [], p + b) = x := by simpa using hx
    have e : (bl b ++ ([] : Bs)).take (p + b - p) = bl b := by
      rw [List.append_nil, show p + b - p = b by omega, List.take_of_length_le (by rw [bl_len]; exact Nat.le_refl _)]
    simp only [e]
    simpa using Toks.bls b p hu
  | tok p b t r ts h1 h2 h3 ih =>
    intro k x hx c rr us hc hu
    rcases k with _ | k
    · obtain rfl : (t, p + b) = x := by simpa using hx
      have e : (bl b ++ (textT t ++ r)).take (p + b - p) = bl b := by
        rw [show p + b - p = b by omega, List.take_append_of_le_length (by rw [bl_len]; exact Nat.le_refl _), List.take_of_length_le (by rw [bl_len]; exact Nat.le_refl _)]
      simp only [e]
      simpa using Toks.bls b p hu
    · have hx' : ts[k]? = some x := by simpa using hx
      have hge := (h3.ge x (List.mem_of_getElem? hx')).1
      have i1 := ih k x hx' c rr us hc hu
      have e : (bl b ++ (textT t ++ r)).take (x.2 - p) = bl b ++ (textT t ++ r.take (x.2 - (p + b + (textT t).length))) := by
        rw [List.take_append, List.take_of_length_le (by rw [bl_len]; omega), bl_len, List.take_append, List.take_of_length_le (by omega), show x.2 - p - b - (textT t).length = x.2 - (p + b + (textT t).length) by omega]
      rw [e, List.take_succ_cons, List.cons_append, List.append_assoc, List.append_assoc]
      refine Toks.tok p b t _ _ h1 ?_ i1
      cases hr : r.take (x.2 - (p + b + (textT t).length)) with
      | nil => exact hc t
      | cons c1 r' =>
        have : r.head? = some c1 := by
          cases r with
          | nil => simp at hr
          | cons c2 r2 =>
            cases hm : x.2 - (p + b + (textT t).length) with
            | zero => rw [hm] at hr; simp at hr
            | succ m => rw [hm] at hr; simp at hr; rw [hr.1]; rfl
        show okNext t (some c1) = true
        rw [← this]
        exact h2
/-- What stands in a text from a token on. -/
theorem Toks.rest {p : Nat} {l : Bs} {ts : List (Tk × Nat)} (h : Toks [] p l ts) : ∀ (k : Nat) (x : Tk × Nat), ts[k]? = some x → Toks [] x.2 (l.drop (x.2 - p)) (ts.drop k) := by
  induction h with
  | fin p b h1 h2 =>
    intro k x hx
    obtain rfl : k = 0 := by
      have := (List.getElem?_eq_some_iff.1 hx).1
      simp at this; omega
    obtain rfl : (firstT [], p + b) = x := by simpa using hx
    have e : (bl b ++ ([] : Bs)).drop (p + b - p) = [] := by
      rw [List.append_nil, show p + b - p = b by omega, List.drop_of_length_le (by rw [bl_len]; exact Nat.le_refl _)]
    simp only [e]
    have := Toks.fin (e := []) (p + b) 0 h1 h2
    simpa [bl] using this
  | tok p b t r ts h1 h2 h3 ih =>
    intro k x hx
    rcases k with _ | k
    · obtain rfl : (t, p + b) = x := by simpa using hx
      have e : (bl b ++ (textT t ++ r)).drop (p + b - p) = textT t ++ r := by
        rw [show p + b - p = b by omega, List.drop_append_of_le_length (by rw [bl_len]; exact Nat.le_refl _), List.drop_of_length_le (by rw [bl_len]; exact Nat.le_refl _)]
        rfl
      simp only [e]
      have := Toks.tok (e := []) (p + b) 0 t r ts h1 h2 h3
      simpa [bl] using this
    · have hx' : ts[k]? = some x := by simpa using hx
      have hge := (h3.ge x (List.mem_of_getElem? hx')).1
      have i1 := ih k x hx'
      have e : (bl b ++ (textT t ++ r)).drop (x.2 - p) = r.drop (x.2 - (p + b + (textT t).length)) := by
        rw [List.drop_append, List.drop_of_length_le (by rw [bl_len]; omega), bl_len, List.drop_append, List.drop_of_length_le (by omega), show x.2 - p - b - (textT t).length = x.2 - (p + b + (textT t).length) by omega]
        rfl
      rw [e]
      simpa using i1
theorem Toks.shift {e : Bs} {p : Nat} {l : Bs} {ts : List (Tk × Nat)} (h : Toks e p l ts) : ∀ d, ∃ us, Toks e (p + d) l us ∧ us.map (·.1) = ts.map (·.1) := by
  intro d
  induction d with
  | zero => exact ⟨ts, h, rfl⟩
  | succ d ih =>
    obtain ⟨us, h1, h2⟩ := ih
    exact ⟨far us, h1.later, by rw [far_fst, h2]⟩
theorem Toks.tok0 {e : Bs} {q : Nat} {t : Tk} {x r : Bs} {us : List (Tk × Nat)} (hx : textT t = x) (hne : x ≠ []) (hn : okNext t r.head? = true) (h : Toks e (q + x.length) r us) : Toks e q (x ++ r) ((t, q) :: us) := by
  subst hx
  have := Toks.tok (e := e) q 0 t r us hne hn (by simpa using h)
  simpa [bl] using this
/-- The bytes of one step more. -/
def stepB (strict neg : Bool) (kind n : Int) : Bs := (if strict then 44 else 59) :: ((if neg then [33] else []) ++ [u8 (48 + kind), u8 (97 + n), 32])
def putM (l : Bs) (p : Nat) (strict neg : Bool) (kind n : Int) : Bs := l.take p ++ stepB strict neg kind n ++ l.drop p
/-- .. and its tokens. -/
def stepTk (strict neg : Bool) (kind n : Int) : List Tk := ⟨5, if strict then 44 else 59⟩ :: ((if neg then [⟨5, 33⟩] else []) ++ [⟨1, kind⟩, ⟨2, n⟩])
theorem digit_text (kind : Int) (h0 : 0 ≤ kind) (h1 : kind ≤ 9) : textT ⟨1, kind⟩ = [u8 (48 + kind)] ∧ inR 48 57 (u8 (48 + kind)) = true ∧ u8 (48 + kind) ≠ 61 := by
  have : kind = 0 ∨ kind = 1 ∨ kind = 2 ∨ kind = 3 ∨ kind = 4 ∨ kind = 5 ∨ kind = 6 ∨ kind = 7 ∨ kind = 8 ∨ kind = 9 := by omega
  rcases this with rfl | rfl | rfl | rfl | rfl | rfl | rfl | rfl | rfl | rfl <;> exact ⟨by decide +kernel, by decide +kernel, by decide +kernel⟩
theorem letter_text (n : Int) (h0 : 0 ≤ n) (h1 : n ≤ 25) : textT ⟨2, n⟩ = [u8 (97 + n)] ∧ inR 48 57 (u8 (97 + n)) = false := by
  refine ⟨by simp [textT, h0, h1], ?_⟩
  rw [u8_inR (97 + n) (by omega) (by omega)]
  have : ¬ (97 + n ≤ 57) := by omega
  simp [this]
theorem step_toks {q : Nat} {r : Bs} {us : List (Tk × Nat)} (strict neg : Bool) (kind n : Int) (h0 : 0 ≤ kind) (h1 : kind ≤ 9) (h2 : 0 ≤ n) (h3 : n ≤ 25) (h : Toks [] (q + (stepB strict neg kind n).length) r us) :
    ∃ vs, Toks [] q (stepB strict neg kind n ++ r) vs ∧ vs.map (·.1) = stepTk strict neg kind n ++ us.map (·.1) := by
  obtain ⟨d1, d2, d3⟩ := digit_text kind h0 h1
  obtain ⟨l1, l2⟩ := letter_text n h2 h3
  unfold stepB at h ⊢
  unfold stepTk
  cases neg
  · simp only [Bool.false_eq_true, if_false, List.nil_append, List.length_cons, List.length_nil] at h ⊢
    have a1 : Toks [] (q + 3) (32 :: r) us := Toks.cons_bl (by rw [show q + 3 + 1 = q + (0 + 1 + 1 + 1 + 1) by omega]; exact h)
    have a2 := Toks.tok0 (q := q + 2) l1 (by simp) (r := 32 :: r) (us := us) (by show okNext ⟨2, n⟩ (some 32) = true; simp [okNext]; decide +kernel) a1
    have a3 := Toks.tok0 (q := q + 1) d1 (by simp) (r := [u8 (97 + n)] ++ 32 :: r) (by show okNext ⟨1, kind⟩ (some (u8 (97 + n))) = true; simp [okNext, l2]) a2
    cases strict
    · have a4 := Toks.tok0 (q := q) (t := ⟨5, 59⟩) (x := [59]) (by decide +kernel) (by simp) (r := [u8 (48 + kind)] ++ ([u8 (97 + n)] ++ 32 :: r)) (by show okNext ⟨5, 59⟩ (some (u8 (48 + kind))) = true; simp [okNext]) a3
      exact ⟨_, a4, by simp⟩
    · have a4 := Toks.tok0 (q := q) (t := ⟨5, 44⟩) (x := [44]) (by decide +kernel) (by simp) (r := [u8 (48 + kind)] ++ ([u8 (97 + n)] ++ 32 :: r)) (by show okNext ⟨5, 44⟩ (some (u8 (48 + kind))) = true; simp [okNext]) a3
      exact ⟨_, a4, by simp⟩
  · simp only [if_true, List.length_cons, List.length_append, List.length_nil] at h ⊢
    have a1 : Toks [] (q + 4) (32 :: r) us := Toks.cons_bl (by rw [show q + 4 + 1 = q + (0 + 1 + (0 + 1 + 1 + 1) + 1) by omega]; exact h)
    have a2 := Toks.tok0 (q := q + 3) l1 (by simp) (r := 32 :: r) (us := us) (by show okNext ⟨2, n⟩ (some 32) = true; simp [okNext]; decide +kernel) a1
    have a3 := Toks.tok0 (q := q + 2) d1 (by simp) (r := [u8 (97 + n)] ++ 32 :: r) (by show okNext ⟨1, kind⟩ (some (u8 (97 + n))) = true; simp [okNext, l2]) a2
    have a35 := Toks.tok0 (q := q + 1) (t := ⟨5, 33⟩) (x := [33]) (by decide +kernel) (by simp) (r := [u8 (48 + kind)] ++ ([u8 (97 + n)] ++ 32 :: r)) (by show okNext ⟨5, 33⟩ (some (u8 (48 + kind))) = true; simp [okNext, d3]) a3
    cases strict
    · have a4 := Toks.tok0 (q := q) (t := ⟨5, 59⟩) (x := [59]) (by decide +kernel) (by simp) (r := [33] ++ ([u8 (48 + kind)] ++ ([u8 (97 + n)] ++ 32 :: r))) (by show okNext ⟨5, 59⟩ (some 33) = true; decide +kernel) a35
      exact ⟨_, a4, by simp⟩
    · have a4 := Toks.tok0 (q := q) (t := ⟨5, 44⟩) (x := [44]) (by decide +kernel) (by simp) (r := [33] ++ ([u8 (48 + kind)] ++ ([u8 (97 + n)] ++ 32 :: r))) (by show okNext ⟨5, 44⟩ (some 33) = true; decide +kernel) a35
      exact ⟨_, a4, by simp⟩
theorem sep_next (strict : Bool) (t : Tk) : okNext t (some (if strict then 44 else 59)) = true := by
  cases strict
  · simp only [okNext, Bool.false_eq_true, if_false]
    have e1 : inR 48 57 59 = false := by decide +kernel
    have e2 : inR 97 122 59 = false := by decide +kernel
    rw [e1, e2]
    repeat' split
    all_goals simp
  · simp only [okNext, if_true]
    have e1 : inR 48 57 44 = false := by decide +kernel
    have e2 : inR 97 122 44 = false := by decide +kernel
    rw [e1, e2]
    repeat' split
    all_goals simp
theorem u_at {us : Tks} {K : List Tk} (h : us.map (·.1) = K) (j : Nat) : (us[j]?).map (·.1) = K[j]? := by rw [← h, List.getElem?_map]
theorem may_u {us : Tks} {K : List Tk} (h : us.map (·.1) = K) {j : Nat} {t : Tk} (hj : K[j]? = some t) (kd n : Int) : mayP us kd n j = decide (t.k = kd ∧ t.n = n) := by
  have := (u_at h j).trans hj
  unfold mayP
  cases hx : us[j]? with
  | none => rw [hx] at this; cases this
  | some x => rw [hx] at this; obtain rfl : x.1 = t := by simpa using this
              rfl
theorem one_u {us : Tks} {K : List Tk} (h : us.map (·.1) = K) {j : Nat} {t : Tk} (hj : K[j]? = some t) (kd : Int) (hk : t.k = kd) : oneP us kd j = .ok (t.n, j + 1) := by
  have := (u_at h j).trans hj
  unfold oneP
  cases hx : us[j]? with
  | none => rw [hx] at this; cases this
  | some x => rw [hx] at this; obtain rfl : x.1 = t := by simpa using this
              simp [hk]
theorem must_u {us : Tks} {K : List Tk} (h : us.map (·.1) = K) {j : Nat} {t : Tk} (hj : K[j]? = some t) (kd n : Int) (hk : t.k = kd) (hn : t.n = n) : mustP us kd n j = .ok ((), j + 1) := by
  have := (u_at h j).trans hj
  unfold mustP
  cases hx : us[j]? with
  | none => rw [hx] at this; cases this
  | some x => rw [hx] at this; obtain rfl : x.1 = t := by simpa using this
              simp [hk, hn]
theorem step_u {us : Tks} {K : List Tk} (h : us.map (·.1) = K) {q : Nat} {kind n : Int} (st : Bool) (h1 : K[q]? = some ⟨1, kind⟩) (h2 : K[q + 1]? = some ⟨2, n⟩) (h3 : K[q + 2]? = some ⟨3, 0⟩) : stepP us n st q = .ok (⟨false, kind, 1, 1, st, []⟩, q + 2) := by
  unfold stepP mayK timesP listP
  rw [may_u h h1]
  simp only [show decide ((1 : Int) = 5 ∧ kind = 33) = false by simp, Bool.false_eq_true, if_false]
  rw [one_u h h1 1 rfl]
  simp only
  rw [must_u h h2 2 n rfl rfl]
  simp only
  rw [may_u h h3]
  simp only [show decide ((3 : Int) = 5 ∧ (0 : Int) = 123) = false by simp, Bool.false_eq_true, if_false]
  rw [may_u h h3]
  simp only [show decide ((3 : Int) = 5 ∧ (0 : Int) = 91) = false by simp, Bool.false_eq_true, if_false]
theorem step_u2 {us : Tks} {K : List Tk} (h : us.map (·.1) = K) {q : Nat} {kind n : Int} (st : Bool) (h0 : K[q]? = some ⟨5, 33⟩) (h1 : K[q + 1]? = some ⟨1, kind⟩) (h2 : K[q + 2]? = some ⟨2, n⟩) (h3 : K[q + 3]? = some ⟨3, 0⟩) : stepP us n st q = .ok (⟨true, kind, 1, 1, st, []⟩, q + 3) := by
  unfold stepP mayK timesP listP
  rw [may_u h h0]
  simp only [and_self, decide_true, if_true]
  rw [one_u h h1 1 rfl]
  simp only
  rw [must_u h h2 2 n rfl rfl]
  simp only
  rw [may_u h h3]
  simp only [show decide ((3 : Int) = 5 ∧ (0 : Int) = 123) = false by simp, Bool.false_eq_true, if_false]
  rw [may_u h h3]
  simp only [show decide ((3 : Int) = 5 ∧ (0 : Int) = 91) = false by simp, Bool.false_eq_true, if_false]
theorem end_u {us : Tks} {K : List Tk} (h : us.map (·.1) = K) {q : Nat} {win : Int} (h1 : K[q]? = some ⟨3, 0⟩) (h2 : K[q + 1]? = some ⟨1, win⟩) (h3 : K[q + 2]? = some ⟨0, 0⟩) : endP us q = .ok win := by
  unfold endP
  rw [must_u h h1 3 0 rfl rfl]
  simp only
  rw [one_u h h2 1 rfl]
  simp only
  rw [must_u h h3 0 0 rfl rfl]
/-- With one step more ahead of the word within. -/
theorem more_tks {ts us : Tks} {m : Nat} {ss : List Sp} {win : Int} (hL : LastT ts) (hm : m + 3 = ts.length) (hp : patP ts = .ok (ss, win)) (strict neg : Bool) (kind : Int)
    (hu : us.map (·.1) = (ts.take m).map (·.1) ++ (stepTk strict neg kind ss.length ++ (ts.drop m).map (·.1))) : patP us = .ok (ss ++ [⟨neg, kind, 1, 1, strict, []⟩], win) := by
  have hE := (patF_lt hL hm _ _ _ _ _ hp).2
  obtain ⟨-, x, y, z, hx, hy, hz, ex, ey, ez⟩ := end_at hL hE
  simp only at ey
  have hlm : ((ts.take m).map (·.1)).length = m := by simp; omega
  have hA : Under ts us m := by
    intro j hj
    rw [u_at hu, List.getElem?_append_left (by omega), List.getElem?_map, List.getElem?_take, if_pos hj]
  have hK : ∀ j, ((ts.take m).map (·.1) ++ (stepTk strict neg kind ss.length ++ (ts.drop m).map (·.1)))[m + j]? = (stepTk strict neg kind ss.length ++ (ts.drop m).map (·.1))[j]? := by
    intro j
    rw [List.getElem?_append_right (by omega), hlm, show m + j - m = j by omega]
  have hD : (ts.drop m).map (·.1) = [⟨3, 0⟩, ⟨1, win⟩, ⟨0, 0⟩] := by
    apply List.ext_getElem?
    intro j
    rw [List.getElem?_map, List.getElem?_drop]
    match j with
    | 0 => rw [show m + 0 = m by omega, hx]; simp [ex]
    | 1 => rw [hy]; simp [ey]
    | 2 => rw [hz]; simp [ez]
    | j + 3 => rw [List.getElem?_eq_none (by omega)]; simp
  have hlen : us.length = m + (stepTk strict neg kind ss.length).length + 3 := by
    have := congrArg List.length hu
    simp only [List.length_map, List.length_append] at this
    rw [List.length_take, List.length_drop] at this
    omega
  have hk2 : kindAt ts m = 3 := by unfold kindAt; rw [hx]; simp [ex]
  have hno : ∀ n, mayP ts 5 n m = false := by intro n; unfold mayP; rw [hx]; simp [ex]
  rw [hD] at hK hu
  have hus : ∀ n, mayP us 5 n m = decide (n = if strict then 44 else 59) := by
    intro n
    have h0 := hK 0
    rw [show m + 0 = m by omega] at h0
    rw [may_u hu (h0.trans rfl)]
    cases strict <;> simp [eq_comm]
  have h5 : (mayP us 5 44 m || mayP us 5 59 m) = true := by rw [hus, hus]; cases strict <;> simp
  have h44 : mayP us 5 44 m = strict := by rw [hus]; cases strict <;> simp
  have hnl : 4 ≤ (stepTk strict neg kind ss.length).length ∨ 3 ≤ (stepTk strict neg kind ss.length).length := by unfold stepTk; cases neg <;> simp
  have fin : ∀ m2 sp, endP us m2 = .ok win → (mayP us 5 44 m2 || mayP us 5 59 m2) = false → stepP us ((0 + ss.length : Nat) : Int) (mayP us 5 44 m) (m + 1) = .ok (sp, m2) → patP us = .ok (ss ++ [sp], win) := by
    intro m2 sp e1 e2 e3
    have := patF_ins hA (by omega) hL hm (hno _) (by rw [hus]; cases strict <;> simp) (hno _) (by rw [hus]; cases strict <;> simp) h5 e2 e1 _ _ _ _ _ hp e3
    unfold patP
    exact patF_more _ _ _ _ _ _ this (by omega)
  cases neg
  · have k1 := hK 1
    have k2 := hK 2
    have k3 := hK 3
    have k4 := hK 4
    have k5 := hK 5
    have e1 := step_u (q := m + 1) hu (n := (ss.length : Int)) strict (kind := kind) (k1.trans rfl) (k2.trans rfl) (k3.trans rfl)
    have e2 := end_u (q := m + 3) hu (win := win) (k3.trans rfl) (k4.trans rfl) (k5.trans rfl)
    refine fin (m + 3) _ e2 ?_ (by rw [h44, Nat.zero_add]; exact e1)
    rw [may_u hu (k3.trans rfl), may_u hu (k3.trans rfl)]
    simp
  · have k1 := hK 1
    have k2 := hK 2
    have k3 := hK 3
    have k4 := hK 4
    have k5 := hK 5
    have k6 := hK 6
    have e1 := step_u2 (q := m + 1) hu (n := (ss.length : Int)) strict (kind := kind) (k1.trans rfl) (k2.trans rfl) (k3.trans rfl) (k4.trans rfl)
    have e2 := end_u (q := m + 4) hu (win := win) (k4.trans rfl) (k5.trans rfl) (k6.trans rfl)
    refine fin (m + 4) _ e2 ?_ (by rw [h44, Nat.zero_add]; exact e1)
    rw [may_u hu (k4.trans rfl), may_u hu (k4.trans rfl)]
    simp
theorem Toks.six {p : Nat} {l : Bs} {ts : List (Tk × Nat)} (h : Toks [] p l ts) : ∀ x ∈ ts, x.1.k ≠ 6 := by
  generalize he : ([] : Bs) = e at h
  induction h with
  | fin p b h1 h2 =>
    subst he
    intro x hx
    obtain rfl := List.mem_singleton.1 hx
    show (firstT []).k ≠ 6
    decide
  | tok p b t r ts h1 h2 h3 ih =>
    intro x hx
    rcases List.mem_cons.1 hx with rfl | hx
    · exact fun e => h1 (by simp only at e; simp [textT, e])
    · exact ih x hx
theorem more_pure {l : Bs} (h6 : ∀ x ∈ toks l, x.1.k ≠ 6) {ss : List Sp} {win : Int} (hp : patP (toks l) = .ok (ss, win)) (hn : ss.length < 26) {m : Nat} (hm : m + 3 = (toks l).length) {x : Tk × Nat} (hx : (toks l)[m]? = some x) (strict neg : Bool) (kind : Int) (h0 : 0 ≤ kind) (h1 : kind ≤ 9) :
    x.2 ≤ l.length ∧ (∀ y ∈ toks (putM l x.2 strict neg kind ss.length), y.1.k ≠ 6) ∧ patP (toks (putM l x.2 strict neg kind ss.length)) = .ok (ss ++ [⟨neg, kind, 1, 1, strict, []⟩], win) := by
  have hw := toks_whole l h6
  have hr := hw.rest m x hx
  rw [Nat.sub_zero] at hr
  obtain ⟨us, hs1, hs2⟩ := hr.shift (stepB strict neg kind ss.length).length
  obtain ⟨vs, hv1, hv2⟩ := step_toks (q := x.2) strict neg kind ss.length h0 h1 (by omega) (by omega) hs1
  have hi := hw.ins m x hx (if strict then 44 else 59) (((if neg then [33] else []) ++ [u8 (48 + kind), u8 (97 + (ss.length : Int)), 32]) ++ l.drop x.2) vs (sep_next strict) (by have q := hv1; unfold stepB at q; rw [List.cons_append] at q; exact q)
  rw [Nat.sub_zero] at hi
  have he : l.take x.2 ++ (if strict then 44 else 59) :: (((if neg then [33] else []) ++ [u8 (48 + kind), u8 (97 + (ss.length : Int)), 32]) ++ l.drop x.2) = putM l x.2 strict neg kind ss.length := by
    unfold putM stepB
    simp
  rw [he] at hi
  have ha := hi.all
  refine ⟨by have := (hw.ge x (List.mem_of_getElem? hx)).2; omega, ?_, ?_⟩
  · rw [ha]; exact hi.six
  · rw [ha]
    refine more_tks hw.last hm hp strict neg kind ?_
    rw [List.map_append, hv2, hs2]
end Go.Proofs.YtkedifhlkiffoaaDoor
