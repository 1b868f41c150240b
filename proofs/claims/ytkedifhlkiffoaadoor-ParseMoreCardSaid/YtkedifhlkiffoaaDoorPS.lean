/-
  What is told of tokens hangs on those up to the place that is told, or where it goes on: parsing goes token by token.
-/
import Derived.Test.YtkedifhlkiffoaaDoorPR
namespace Go.Proofs.YtkedifhlkiffoaaDoor
open Go.ChangeShapes Go.WideShapes Go.ChangeAt Go.RowKit
open Tree (Tm Cp Sp)
set_option linter.unusedVariables false
set_option linter.unusedSimpArgs false
abbrev Tks := List (Tk × Nat)
/-- The same tokens up to m. -/
def AgreeTo (ts us : Tks) (m : Nat) : Prop := ∀ k, k ≤ m → (ts[k]?).map (·.1) = (us[k]?).map (·.1)
theorem AgreeTo.le {ts us : Tks} {m n : Nat} (h : AgreeTo ts us m) (hn : n ≤ m) : AgreeTo ts us n := fun k hk => h k (Nat.le_trans hk hn)
theorem AgreeTo.cases {ts us : Tks} {m : Nat} (h : AgreeTo ts us m) {k : Nat} (hk : k ≤ m) : (ts[k]? = none ∧ us[k]? = none) ∨ ∃ t p q, ts[k]? = some (t, p) ∧ us[k]? = some (t, q) := by
  have := h k hk
  cases e1 : ts[k]? with
  | none => rw [e1] at this; cases e2 : us[k]? with
    | none => exact .inl ⟨rfl, rfl⟩
    | some y => rw [e2] at this; cases this
  | some x => rw [e1] at this; cases e2 : us[k]? with
    | none => rw [e2] at this; cases this
    | some y =>
      rw [e2] at this
      obtain ⟨t, p⟩ := x
      obtain ⟨t', q⟩ := y
      simp at this
      subst this
      exact .inr ⟨t, p, q, rfl, rfl⟩
/-- f goes token by token, from k on. -/
def DetAt {α : Type} (f : Tks → Nat → Except Nat (α × Nat)) (ts us : Tks) (k : Nat) : Prop :=
  (∀ j, f ts k = .error j → k ≤ j ∧ (AgreeTo ts us j → f us k = .error j)) ∧ ∀ x, f ts k = .ok x → k ≤ x.2 ∧ (AgreeTo ts us x.2 → f us k = .ok x)
def Det {α : Type} (f : Tks → Nat → Except Nat (α × Nat)) : Prop := ∀ ts us k, DetAt f ts us k
theorem one_err {ts : Tks} {kd : Int} {k j : Nat} (h : oneP ts kd k = .error j) : j = k := by
  unfold oneP at h
  split at h
  · split at h
    · cases h
    · cases h; rfl
  · cases h; rfl
theorem must_err {ts : Tks} {kd n : Int} {k j : Nat} (h : mustP ts kd n k = .error j) : j = k := by
  unfold mustP at h
  split at h
  · split at h
    · cases h
    · cases h; rfl
  · cases h; rfl
theorem one_agree (kd : Int) (ts us : Tks) (k : Nat) (h : AgreeTo ts us k) : oneP ts kd k = oneP us kd k := by
  unfold oneP
  rcases h.cases (Nat.le_refl _) with ⟨e1, e2⟩ | ⟨t, p, q, e1, e2⟩ <;> rw [e1, e2]
theorem must_agree (kd n : Int) (ts us : Tks) (k : Nat) (h : AgreeTo ts us k) : mustP ts kd n k = mustP us kd n k := by
  unfold mustP
  rcases h.cases (Nat.le_refl _) with ⟨e1, e2⟩ | ⟨t, p, q, e1, e2⟩ <;> rw [e1, e2]
theorem det_one (kd : Int) : Det fun ts k => oneP ts kd k := by
  refine fun ts us k => ⟨fun j h => ?_, fun x h => ?_⟩
  · have hj := one_err h
    subst hj
    exact ⟨Nat.le_refl _, fun ha => (one_agree kd ts us j ha).symm.trans h⟩
  · have hx := one_gt h
    exact ⟨by omega, fun ha => (one_agree kd ts us k (ha.le (by omega))).symm.trans h⟩
theorem det_must (kd n : Int) : Det fun ts k => mustP ts kd n k := by
  refine fun ts us k => ⟨fun j h => ?_, fun x h => ?_⟩
  · have hj := must_err h
    subst hj
    exact ⟨Nat.le_refl _, fun ha => (must_agree kd n ts us j ha).symm.trans h⟩
  · have hx := must_gt h
    exact ⟨by omega, fun ha => (must_agree kd n ts us k (ha.le (by omega))).symm.trans h⟩
theorem det_pure {α : Type} (v : α) : Det fun _ k => .ok (v, k) := by
  refine fun ts us k => ⟨fun j h => ?_, fun x h => ?_⟩
  · dsimp only at h
    cases h
  · dsimp only at h
    cases h
    exact ⟨Nat.le_refl _, fun _ => rfl⟩
theorem det_bind {α β : Type} {f : Tks → Nat → Except Nat (α × Nat)} {g : α → Tks → Nat → Except Nat (β × Nat)} (hf : Det f) (hg : ∀ v, Det (g v)) :
    Det fun ts k => match f ts k with | .error j => .error j | .ok (v, k1) => g v ts k1 := by
  refine fun ts us k => ⟨fun j h => ?_, fun x h => ?_⟩
  · cases hr : f ts k with
    | error i =>
      simp only [hr] at h
      cases h
      obtain ⟨h1, h2⟩ := (hf ts us k).1 _ hr
      exact ⟨h1, fun ha => by simp only [h2 ha]⟩
    | ok y =>
      obtain ⟨v, k1⟩ := y
      simp only [hr] at h
      obtain ⟨h1, h2⟩ := (hf ts us k).2 _ hr
      obtain ⟨h3, h4⟩ := (hg v ts us k1).1 _ h
      simp only at h1
      exact ⟨by omega, fun ha => by simp only [h2 (ha.le h3), h4 ha]⟩
  · cases hr : f ts k with
    | error i =>
      simp only [hr] at h
      cases h
    | ok y =>
      obtain ⟨v, k1⟩ := y
      simp only [hr] at h
      obtain ⟨h1, h2⟩ := (hf ts us k).2 _ hr
      obtain ⟨h3, h4⟩ := (hg v ts us k1).2 _ h
      simp only at h1
      exact ⟨by omega, fun ha => by simp only [h2 (ha.le h3), h4 ha]⟩
theorem det_map {α β : Type} {f : Tks → Nat → Except Nat (α × Nat)} (hf : Det f) (h : α → β) : Det fun ts k => (f ts k).map fun x => (h x.1, x.2) := by
  refine fun ts us k => ⟨fun j hj => ?_, fun x hx => ?_⟩
  · cases hr : f ts k with
    | error i =>
      simp only [hr] at hj
      cases hj
      obtain ⟨h1, h2⟩ := (hf ts us k).1 _ hr
      exact ⟨h1, fun ha => by simp only [h2 ha]; rfl⟩
    | ok y => simp only [hr] at hj; cases hj
  · cases hr : f ts k with
    | error i => simp only [hr] at hx; cases hx
    | ok y =>
      simp only [hr] at hx
      cases hx
      obtain ⟨h1, h2⟩ := (hf ts us k).2 _ hr
      exact ⟨h1, fun ha => by simp only [h2 ha]; rfl⟩
/-- A fork by what stands at k. -/
theorem det_fork {α : Type} {c : Tks → Nat → Bool} (hc : ∀ ts us k, AgreeTo ts us k → c ts k = c us k) {f g : Tks → Nat → Except Nat (α × Nat)} (hf : Det f) (hg : Det g) :
    Det fun ts k => if c ts k then f ts k else g ts k := by
  refine fun ts us k => ⟨fun j h => ?_, fun x h => ?_⟩
  · cases hb : c ts k with
    | true =>
      simp only [hb, if_true] at h
      obtain ⟨h1, h2⟩ := (hf ts us k).1 _ h
      exact ⟨h1, fun ha => by simp only [← hc ts us k (ha.le h1), hb, if_true, h2 ha]⟩
    | false =>
      simp only [hb, Bool.false_eq_true, if_false] at h
      obtain ⟨h1, h2⟩ := (hg ts us k).1 _ h
      exact ⟨h1, fun ha => by simp only [← hc ts us k (ha.le h1), hb, Bool.false_eq_true, if_false, h2 ha]⟩
  · cases hb : c ts k with
    | true =>
      simp only [hb, if_true] at h
      obtain ⟨h1, h2⟩ := (hf ts us k).2 _ h
      exact ⟨h1, fun ha => by simp only [← hc ts us k (ha.le h1), hb, if_true, h2 ha]⟩
    | false =>
      simp only [hb, Bool.false_eq_true, if_false] at h
      obtain ⟨h1, h2⟩ := (hg ts us k).2 _ h
      exact ⟨h1, fun ha => by simp only [← hc ts us k (ha.le h1), hb, Bool.false_eq_true, if_false, h2 ha]⟩
/-- One token on. -/
theorem det_next {α : Type} {f : Tks → Nat → Except Nat (α × Nat)} (hf : Det f) : Det fun ts k => f ts (k + 1) := by
  refine fun ts us k => ⟨fun j h => ?_, fun x h => ?_⟩
  · obtain ⟨h1, h2⟩ := (hf ts us (k + 1)).1 _ h
    exact ⟨by omega, h2⟩
  · obtain ⟨h1, h2⟩ := (hf ts us (k + 1)).2 _ h
    exact ⟨by omega, h2⟩
theorem may_agree (kd n : Int) (ts us : Tks) (k : Nat) (h : AgreeTo ts us k) : mayP ts kd n k = mayP us kd n k := by
  unfold mayP
  rcases h.cases (Nat.le_refl _) with ⟨e1, e2⟩ | ⟨t, p, q, e1, e2⟩ <;> rw [e1, e2]
theorem kind_agree (ts us : Tks) (k : Nat) (h : AgreeTo ts us k) : kindAt ts k = kindAt us k := by
  unfold kindAt
  rcases h.cases (Nat.le_refl _) with ⟨e1, e2⟩ | ⟨t, p, q, e1, e2⟩ <;> rw [e1, e2]
theorem Det.eq {α : Type} {f g : Tks → Nat → Except Nat (α × Nat)} (h : Det f) (e : ∀ ts k, g ts k = f ts k) : Det g := by
  have : g = f := funext fun ts => funext fun k => e ts k
  rw [this]; exact h
theorem det_more : Det moreP :=
  det_fork (may_agree 5 43) (det_next (det_one 1)) (det_fork (may_agree 5 45) (det_map (det_next (det_one 1)) fun n => wrap64 (-n)) (det_pure 0))
theorem det_ofOne : Det ofOneP :=
  (det_bind (det_must 5 40) fun _ => det_bind (det_one 2) fun sv => det_bind (det_must 5 41) fun _ => det_bind det_more fun nv => det_pure (nv, sv)).eq fun ts k => by
    unfold ofOneP
    cases mustP ts 5 40 k with
    | error j => rfl
    | ok y =>
    obtain ⟨v1, k1⟩ := y
    dsimp only
    cases oneP ts 2 k1 with
    | error j => rfl
    | ok y =>
    obtain ⟨v2, k2⟩ := y
    dsimp only
    cases mustP ts 5 41 k2 with
    | error j => rfl
    | ok y =>
    obtain ⟨v3, k3⟩ := y
    dsimp only
    cases moreP ts k3 with
    | error j => rfl
    | ok y =>
    obtain ⟨v4, k4⟩ := y
    dsimp only
theorem det_ofTwo : Det ofTwoP :=
  (det_bind (det_must 5 40) fun _ => det_bind (det_one 2) fun sv => det_bind (det_must 5 44) fun _ => det_bind (det_one 2) fun rv => det_bind (det_must 5 41) fun _ => det_bind det_more fun nv => det_pure (nv, sv, rv)).eq fun ts k => by
    unfold ofTwoP
    cases mustP ts 5 40 k with
    | error j => rfl
    | ok y =>
    obtain ⟨v1, k1⟩ := y
    dsimp only
    cases oneP ts 2 k1 with
    | error j => rfl
    | ok y =>
    obtain ⟨v2, k2⟩ := y
    dsimp only
    cases mustP ts 5 44 k2 with
    | error j => rfl
    | ok y =>
    obtain ⟨v3, k3⟩ := y
    dsimp only
    cases oneP ts 2 k3 with
    | error j => rfl
    | ok y =>
    obtain ⟨v4, k4⟩ := y
    dsimp only
    cases mustP ts 5 41 k4 with
    | error j => rfl
    | ok y =>
    obtain ⟨v5, k5⟩ := y
    dsimp only
    cases moreP ts k5 with
    | error j => rfl
    | ok y =>
    obtain ⟨v6, k6⟩ := y
    dsimp only
/-- What stands behind a letter. -/
def afterL (l : Int) (k0 : Nat) (ts : Tks) (k1 : Nat) : Except Nat ((Int × Int × Int × Int) × Nat) :=
    if l = 19 then (ofOneP ts k1).map fun x => ((1, x.1.1, x.1.2, 0), x.2)
    else if l = 23 then (ofOneP ts k1).map fun x => ((2, x.1.1, x.1.2, 0), x.2)
    else if l = 24 then (ofOneP ts k1).map fun x => ((3, x.1.1, x.1.2, 0), x.2)
    else if l = 13 then (ofOneP ts k1).map fun x => ((4, x.1.1, x.1.2, 0), x.2)
    else if l = 3 then (ofTwoP ts k1).map fun x => ((5, x.1.1, x.1.2.1, x.1.2.2), x.2)
    else if l = 2 then (ofTwoP ts k1).map fun x => ((6, x.1.1, x.1.2.1, x.1.2.2), x.2)
    else .error k0
theorem named_is (ts : Tks) (k : Nat) : namedP ts k = match oneP ts 2 k with | .error j => .error j | .ok (l, k1) => afterL l k ts k1 := rfl
theorem afterL_det (l : Int) (k0 : Nat) : (∀ ts k1, afterL l k0 ts k1 = .error k0) ∨ Det (afterL l k0) := by
  unfold afterL
  by_cases h1 : l = 19
  · simp only [h1, if_true]; exact .inr (det_map det_ofOne fun x => (1, x.1, x.2, 0))
  by_cases h2 : l = 23
  · simp only [h1, h2, if_true, if_false]; exact .inr (det_map det_ofOne fun x => (2, x.1, x.2, 0))
  by_cases h3 : l = 24
  · simp only [h1, h2, h3, if_true, if_false]; exact .inr (det_map det_ofOne fun x => (3, x.1, x.2, 0))
  by_cases h4 : l = 13
  · simp only [h1, h2, h3, h4, if_true, if_false]; exact .inr (det_map det_ofOne fun x => (4, x.1, x.2, 0))
  by_cases h5 : l = 3
  · simp only [h1, h2, h3, h4, h5, if_true, if_false]; exact .inr (det_map det_ofTwo fun x => (5, x.1, x.2.1, x.2.2))
  by_cases h6 : l = 2
  · simp only [h1, h2, h3, h4, h5, h6, if_true, if_false]; exact .inr (det_map det_ofTwo fun x => (6, x.1, x.2.1, x.2.2))
  · exact .inl fun _ _ => by simp only [h1, h2, h3, h4, h5, h6, if_false]
theorem det_named : Det namedP := by
  intro ts us k
  refine ⟨fun j h => ?_, fun x h => ?_⟩
  · rw [named_is] at h
    cases hr : oneP ts 2 k with
    | error i =>
      simp only [hr] at h
      cases h
      obtain ⟨h1, h2⟩ := (det_one 2 ts us k).1 _ hr
      exact ⟨h1, fun ha => by rw [named_is]; simp only [h2 ha]⟩
    | ok y =>
      obtain ⟨l, k1⟩ := y
      simp only [hr] at h
      have hk := one_gt hr
      simp only at hk
      rcases afterL_det l k with hd | hd
      · rw [hd] at h
        cases h
        exact ⟨Nat.le_refl _, fun ha => by rw [named_is, ← one_agree 2 ts us k ha, hr]; exact hd _ _⟩
      · obtain ⟨h1, h2⟩ := (hd ts us k1).1 _ h
        exact ⟨by omega, fun ha => by rw [named_is, ← one_agree 2 ts us k (ha.le (by omega)), hr]; exact h2 ha⟩
  · rw [named_is] at h
    cases hr : oneP ts 2 k with
    | error i => simp only [hr] at h; cases h
    | ok y =>
      obtain ⟨l, k1⟩ := y
      simp only [hr] at h
      have hk := one_gt hr
      simp only at hk
      rcases afterL_det l k with hd | hd
      · rw [hd] at h
        cases h
      · obtain ⟨h1, h2⟩ := (hd ts us k1).2 _ h
        exact ⟨by omega, fun ha => by rw [named_is, ← one_agree 2 ts us k (ha.le (by omega)), hr]; exact h2 ha⟩
theorem det_term : Det termP :=
  (det_fork (c := fun ts k => decide (kindAt ts k = 2)) (fun ts us k h => by simp only [kind_agree ts us k h]) det_named
    (det_fork (may_agree 5 45) (det_map (det_next (det_one 1)) fun n => ((0 : Int), wrap64 (-n), (0 : Int), (0 : Int))) (det_map (det_one 1) fun n => ((0 : Int), n, (0 : Int), (0 : Int))))).eq
    fun ts k => by unfold termP; simp only [decide_eq_true_eq]
theorem det_cmp : Det cmpP :=
  (det_bind det_term fun l => det_bind (det_one 4) fun o => det_bind det_term fun r => det_pure (o % 256, l, r)).eq fun ts k => by
    unfold cmpP
    cases termP ts k with
    | error j => rfl
    | ok y =>
    obtain ⟨v1, k1⟩ := y
    dsimp only
    cases oneP ts 4 k1 with
    | error j => rfl
    | ok y =>
    obtain ⟨v2, k2⟩ := y
    dsimp only
    cases termP ts k2 with
    | error j => rfl
    | ok y =>
    obtain ⟨v3, k3⟩ := y
    dsimp only
theorem det_fail {α : Type} : Det (α := α) fun _ k => .error k := by
  refine fun ts us k => ⟨fun j h => ?_, fun x h => ?_⟩
  · dsimp only at h
    cases h
    exact ⟨Nat.le_refl _, fun _ => rfl⟩
  · dsimp only at h
    cases h
theorem det_cmpsF : ∀ f, Det fun ts k => cmpsF ts f k := by
  intro f
  induction f with
  | zero => exact det_fail
  | succ f ih =>
    refine Det.eq (det_bind det_cmp fun c => det_fork (may_agree 5 38) (det_bind (det_next ih) fun l => det_pure (cpO c :: l)) (det_bind (det_must 5 93) fun _ => det_pure [cpO c])) fun ts k => ?_
    conv => lhs; unfold cmpsF
    cases cmpP ts k with
    | error j => rfl
    | ok y =>
    obtain ⟨v1, k1⟩ := y
    dsimp only
    split
    · cases cmpsF ts f (k1 + 1) with
      | error j => rfl
      | ok y => rfl
    · cases mustP ts 5 93 k1 with
      | error j => rfl
      | ok y => rfl
theorem one_none {ts : Tks} {k : Nat} (kd : Int) (h : ts.length ≤ k) : oneP ts kd k = .error k := by
  unfold oneP; rw [List.getElem?_eq_none h]
theorem may_none {ts : Tks} {k : Nat} (kd n : Int) (h : ts.length ≤ k) : mayP ts kd n k = false := by
  unfold mayP; rw [List.getElem?_eq_none h]
theorem cmp_none {ts : Tks} {k : Nat} (h : ts.length ≤ k) : cmpP ts k = .error k := by
  have : termP ts k = .error k := by
    unfold termP kindAt
    rw [List.getElem?_eq_none h]
    simp only [may_none 5 45 h, one_none 1 h]
    rfl
  unfold cmpP
  rw [this]
theorem cmpsF_fuel (ts : Tks) : ∀ f f' k, ts.length ≤ f + k → ts.length ≤ f' + k → cmpsF ts f k = cmpsF ts f' k := by
  intro f
  induction f with
  | zero =>
    intro f' k h1 h2
    cases f' with
    | zero => rfl
    | succ f' => show Except.error k = cmpsF ts (f' + 1) k; unfold cmpsF; rw [cmp_none (by omega)]
  | succ f ih =>
    intro f' k h1 h2
    cases f' with
    | zero => show cmpsF ts (f + 1) k = Except.error k; unfold cmpsF; rw [cmp_none (by omega)]
    | succ f' =>
      unfold cmpsF
      cases hr : cmpP ts k with
      | error j => rfl
      | ok y =>
        have := cmp_gt hr
        obtain ⟨v, k1⟩ := y
        dsimp only at this ⊢
        rw [ih f' (k1 + 1) (by omega) (by omega)]
theorem det_cmps : Det cmpsP := by
  intro ts us k
  have e1 : cmpsP ts k = cmpsF ts (max ts.length us.length) k := cmpsF_fuel ts _ _ _ (by omega) (by omega)
  have e2 : cmpsP us k = cmpsF us (max ts.length us.length) k := cmpsF_fuel us _ _ _ (by omega) (by omega)
  have := det_cmpsF (max ts.length us.length) ts us k
  unfold DetAt at this ⊢
  rw [e1, e2]
  exact this
theorem det_list : Det listP := det_fork (may_agree 5 91) (det_next det_cmps) (det_pure [])
theorem det_span : Det spanP :=
  (det_bind (det_one 1) fun a => det_bind (det_must 5 44) fun _ => det_bind (det_one 1) fun b => det_bind (det_must 5 125) fun _ => det_pure (a, b)).eq fun ts k => by
    unfold spanP
    cases oneP ts 1 k with
    | error j => rfl
    | ok y =>
    obtain ⟨v1, k1⟩ := y
    dsimp only
    cases mustP ts 5 44 k1 with
    | error j => rfl
    | ok y =>
    obtain ⟨v2, k2⟩ := y
    dsimp only
    cases oneP ts 1 k2 with
    | error j => rfl
    | ok y =>
    obtain ⟨v3, k3⟩ := y
    dsimp only
    cases mustP ts 5 125 k3 with
    | error j => rfl
    | ok y =>
    obtain ⟨v4, k4⟩ := y
    dsimp only
theorem det_times : Det timesP := det_fork (may_agree 5 123) (det_next det_span) (det_pure (1, 1))
theorem det_step (i : Int) (strict : Bool) : Det fun ts k => stepP ts i strict k := by
  have body : ∀ b : Bool, Det fun ts k => match oneP ts 1 k with
      | .error j => .error j
      | .ok (kd, k2) => match mustP ts 2 i k2 with
        | .error j => .error j
        | .ok (_, k3) => match timesP ts k3 with
          | .error j => .error j
          | .ok (mm, k4) => match listP ts k4 with
            | .error j => .error j
            | .ok (cs, k5) => .ok ((⟨b, kd, mm.1, mm.2, strict, cs⟩ : Sp), k5) := fun b =>
    (det_bind (det_one 1) fun kd => det_bind (det_must 2 i) fun _ => det_bind det_times fun mm => det_bind det_list fun cs => det_pure (⟨b, kd, mm.1, mm.2, strict, cs⟩ : Sp)).eq fun ts k => by
      cases oneP ts 1 k with
      | error j => rfl
      | ok y =>
      obtain ⟨v1, k1⟩ := y
      dsimp only
      cases mustP ts 2 i k1 with
      | error j => rfl
      | ok y =>
      obtain ⟨v2, k2⟩ := y
      dsimp only
      cases timesP ts k2 with
      | error j => rfl
      | ok y =>
      obtain ⟨v3, k3⟩ := y
      dsimp only
      cases listP ts k3 with
      | error j => rfl
      | ok y =>
      obtain ⟨v4, k4⟩ := y
      dsimp only
  refine (det_fork (may_agree 5 33) (det_next (body true)) (body false)).eq fun ts k => ?_
  unfold stepP mayK
  cases mayP ts 5 33 k
  · simp only [Bool.false_eq_true, if_false]
    cases oneP ts 1 k with
    | error j => rfl
    | ok y =>
    obtain ⟨v1, k1⟩ := y
    dsimp only
    cases mustP ts 2 i k1 with
    | error j => rfl
    | ok y =>
    obtain ⟨v2, k2⟩ := y
    dsimp only
    cases timesP ts k2 with
    | error j => rfl
    | ok y =>
    obtain ⟨v3, k3⟩ := y
    dsimp only
    cases listP ts k3 with
    | error j => rfl
    | ok y =>
    obtain ⟨v4, k4⟩ := y
    dsimp only
  · simp only [if_true]
    cases oneP ts 1 (k + 1) with
    | error j => rfl
    | ok y =>
    obtain ⟨v1, k1⟩ := y
    dsimp only
    cases mustP ts 2 i k1 with
    | error j => rfl
    | ok y =>
    obtain ⟨v2, k2⟩ := y
    dsimp only
    cases timesP ts k2 with
    | error j => rfl
    | ok y =>
    obtain ⟨v3, k3⟩ := y
    dsimp only
    cases listP ts k3 with
    | error j => rfl
    | ok y =>
    obtain ⟨v4, k4⟩ := y
    dsimp only
/-- The like of a whole pattern: of errors alone. -/
def endK (ts : Tks) (k : Nat) : Except Nat (Int × Nat) :=
  match mustP ts 3 0 k with
  | .error j => .error j
  | .ok (_, k) => match oneP ts 1 k with
    | .error j => .error j
    | .ok (win, k) => match mustP ts 0 0 k with
      | .error j => .error j
      | .ok (_, k) => .ok (win, k)
theorem det_end : Det endK :=
  (det_bind (det_must 3 0) fun _ => det_bind (det_one 1) fun win => det_bind (det_must 0 0) fun _ => det_pure win).eq fun ts k => by
    unfold endK
    cases mustP ts 3 0 k with
    | error j => rfl
    | ok y =>
    obtain ⟨v1, k1⟩ := y
    dsimp only
    cases oneP ts 1 k1 with
    | error j => rfl
    | ok y =>
    obtain ⟨v2, k2⟩ := y
    dsimp only
    cases mustP ts 0 0 k2 with
    | error j => rfl
    | ok y => rfl
theorem endK_is (ts : Tks) (k i : Nat) : endP ts k = .error i ↔ endK ts k = .error i := by
  unfold endP endK
  cases mustP ts 3 0 k with
  | error j => simp
  | ok y =>
    obtain ⟨v1, k1⟩ := y
    dsimp only
    cases oneP ts 1 k1 with
    | error j => simp
    | ok z =>
      obtain ⟨v2, k2⟩ := z
      dsimp only
      cases mustP ts 0 0 k2 with
      | error j => simp
      | ok u => simp
theorem end_err {ts us : Tks} {k j : Nat} (h : endP ts k = .error j) : k ≤ j ∧ (AgreeTo ts us j → endP us k = .error j) := by
  obtain ⟨h1, h2⟩ := (det_end ts us k).1 j ((endK_is ts k j).1 h)
  exact ⟨h1, fun ha => (endK_is us k j).2 (h2 ha)⟩
theorem patF_err {ts us : Tks} : ∀ (f i : Nat) (strict : Bool) (k j : Nat), patF ts f i strict k = .error j → k ≤ j ∧ (AgreeTo ts us j → patF us f i strict k = .error j) := by
  intro f
  induction f with
  | zero => intro i s k j h; cases h; exact ⟨Nat.le_refl _, fun _ => rfl⟩
  | succ f ih =>
    intro i s k j h
    unfold patF at h
    cases hr : stepP ts i s k with
    | error e =>
      simp only [hr] at h
      cases h
      obtain ⟨h1, h2⟩ := (det_step i s ts us k).1 _ hr
      exact ⟨h1, fun ha => by unfold patF; simp only [h2 ha]⟩
    | ok y =>
      obtain ⟨sp, k1⟩ := y
      obtain ⟨h1, h2⟩ := (det_step i s ts us k).2 _ hr
      simp only [hr] at h
      simp only at h1 h2
      split at h
      · rename_i hm
        cases h3 : patF ts f (i + 1) (mayP ts 5 44 k1) (k1 + 1) with
        | ok z => simp only [h3] at h; cases h
        | error e =>
          simp only [h3] at h
          cases h
          obtain ⟨h4, h5⟩ := ih _ _ _ _ h3
          refine ⟨by omega, fun ha => ?_⟩
          have hk1 := ha.le (show k1 ≤ j by omega)
          unfold patF
          simp only [h2 hk1, ← may_agree 5 44 ts us k1 hk1, ← may_agree 5 59 ts us k1 hk1, hm, if_true, h5 ha]
      · rename_i hm
        cases h3 : endP ts k1 with
        | ok z => simp only [h3] at h; cases h
        | error e =>
          simp only [h3] at h
          cases h
          obtain ⟨h4, h5⟩ := end_err (us := us) h3
          refine ⟨by omega, fun ha => ?_⟩
          have hk1 := ha.le (show k1 ≤ j by omega)
          unfold patF
          simp only [h2 hk1, ← may_agree 5 44 ts us k1 hk1, ← may_agree 5 59 ts us k1 hk1, hm, h5 ha]
          simp
theorem step_none {ts : Tks} {k : Nat} (i : Int) (s : Bool) (h : ts.length ≤ k) : stepP ts i s k = .error k := by
  unfold stepP mayK
  simp only [may_none 5 33 h, Bool.false_eq_true, if_false, one_none 1 h]
theorem patF_fuel (ts : Tks) : ∀ f f' i s k, ts.length ≤ f + k → ts.length ≤ f' + k → patF ts f i s k = patF ts f' i s k := by
  intro f
  induction f with
  | zero =>
    intro f' i s k h1 h2
    cases f' with
    | zero => rfl
    | succ f' => show Except.error k = patF ts (f' + 1) i s k; unfold patF; rw [step_none _ _ (by omega)]
  | succ f ih =>
    intro f' i s k h1 h2
    cases f' with
    | zero => show patF ts (f + 1) i s k = Except.error k; unfold patF; rw [step_none _ _ (by omega)]
    | succ f' =>
      unfold patF
      cases hr : stepP ts i s k with
      | error j => rfl
      | ok y =>
        have := step_gt hr
        obtain ⟨v, k1⟩ := y
        dsimp only at this ⊢
        rw [ih f' (i + 1) (mayP ts 5 44 k1) (k1 + 1) (by omega) (by omega)]
theorem patP_err {ts us : Tks} {j : Nat} (h : patP ts = .error j) (ha : AgreeTo ts us j) : patP us = .error j := by
  have e1 : patP ts = patF ts (max ts.length us.length) 0 false 0 := patF_fuel ts _ _ _ _ _ (by omega) (by omega)
  have e2 : patP us = patF us (max ts.length us.length) 0 false 0 := patF_fuel us _ _ _ _ _ (by omega) (by omega)
  rw [e2]
  rw [e1] at h
  exact (patF_err _ _ _ _ _ h).2 ha
/-- A text cut ahead of a token. -/
theorem Toks.ahead {p : Nat} {l : Bs} {ts : List (Tk × Nat)} (h : Toks [] p l ts) : ∀ (k : Nat) (x : Tk × Nat), ts[k]? = some x → Toks [] p (l.take (x.2 - p)) (ts.take k ++ [(⟨0, 0⟩, x.2)]) := by
  induction h with
  | fin p b h1 h2 =>
    intro k x hx
    obtain rfl : k = 0 := by
      have := (List.getElem?_eq_some_iff.1 hx).1
      simp at this; omega
    obtain rfl : (firstT [], p + b) = x := by simpa using hx
    have := Toks.fin (e := []) p b h1 h2
    rw [show firstT [] = ⟨0, 0⟩ from rfl] at this
    simpa [bl, show firstT [] = ⟨0, 0⟩ from rfl] using this
  | tok p b t r ts h1 h2 h3 ih =>
    intro k x hx
    rcases k with _ | k
    · obtain rfl : (t, p + b) = x := by simpa using hx
      have := Toks.fin (e := []) p b (by simp) rfl
      rw [show firstT [] = ⟨0, 0⟩ from rfl] at this
      have e : (bl b ++ (textT t ++ r)).take (p + b - p) = bl b := by
        rw [show p + b - p = b by omega, List.take_append_of_le_length (by rw [bl_len]; exact Nat.le_refl _), List.take_of_length_le (by rw [bl_len]; exact Nat.le_refl _)]
      simp only [e]
      simpa using this
    · have hx' : ts[k]? = some x := by simpa using hx
      have hge := (h3.ge x (List.mem_of_getElem? hx')).1
      have i1 := ih k x hx'
      have e : (bl b ++ (textT t ++ r)).take (x.2 - p) = bl b ++ (textT t ++ r.take (x.2 - (p + b + (textT t).length))) := by
        rw [List.take_append, List.take_of_length_le (by rw [bl_len]; omega), bl_len, List.take_append, List.take_of_length_le (by omega), show x.2 - p - b - (textT t).length = x.2 - (p + b + (textT t).length) by omega]
      rw [e, List.take_succ_cons, List.cons_append]
      refine Toks.tok p b t _ _ h1 ?_ i1
      cases hr : r.take (x.2 - (p + b + (textT t).length)) with
      | nil => rfl
      | cons c r' =>
        have : r.head? = some c := by
          cases r with
          | nil => simp at hr
          | cons c2 r2 =>
            cases hm : x.2 - (p + b + (textT t).length) with
            | zero => rw [hm] at hr; simp at hr
            | succ m => rw [hm] at hr; simp at hr; rw [hr.1]; rfl
        show okNext t (some c) = true
        rw [← this]
        exact h2
/-- A text cut behind a token that has bytes. -/
theorem Toks.behind {p : Nat} {l : Bs} {ts : List (Tk × Nat)} (h : Toks [] p l ts) : ∀ (k : Nat) (x : Tk × Nat), ts[k]? = some x → textT x.1 ≠ [] → Toks [] p (l.take (x.2 + (textT x.1).length - p)) (ts.take (k + 1) ++ [(⟨0, 0⟩, x.2 + (textT x.1).length)]) := by
  induction h with
  | fin p b h1 h2 =>
    intro k x hx hne
    obtain rfl : k = 0 := by
      have := (List.getElem?_eq_some_iff.1 hx).1
      simp at this; omega
    obtain rfl : (firstT [], p + b) = x := by simpa using hx
    exact absurd h2 hne
  | tok p b t r ts h1 h2 h3 ih =>
    intro k x hx hne
    rcases k with _ | k
    · obtain rfl : (t, p + b) = x := by simpa using hx
      have h0 := Toks.fin (e := []) (p + b + (textT t).length) 0 (by simp) rfl
      rw [show firstT [] = ⟨0, 0⟩ from rfl] at h0
      have := Toks.tok (e := []) p b t _ _ h1 rfl h0
      have e : (bl b ++ (textT t ++ r)).take (p + b + (textT t).length - p) = bl b ++ textT t := by
        rw [show p + b + (textT t).length - p = b + (textT t).length by omega, List.take_append, List.take_of_length_le (by rw [bl_len]; omega), bl_len, show b + (textT t).length - b = (textT t).length by omega, List.take_append_of_le_length (Nat.le_refl _), List.take_of_length_le (Nat.le_refl _)]
      simp only [e]
      simpa [bl] using this
    · have hx' : ts[k]? = some x := by simpa using hx
      have hge := (h3.ge x (List.mem_of_getElem? hx')).1
      have i1 := ih k x hx' hne
      have e : (bl b ++ (textT t ++ r)).take (x.2 + (textT x.1).length - p) = bl b ++ (textT t ++ r.take (x.2 + (textT x.1).length - (p + b + (textT t).length))) := by
        rw [List.take_append, List.take_of_length_le (by rw [bl_len]; omega), bl_len, List.take_append, List.take_of_length_le (by omega), show x.2 + (textT x.1).length - p - b - (textT t).length = x.2 + (textT x.1).length - (p + b + (textT t).length) by omega]
      rw [e, List.take_succ_cons, List.cons_append]
      refine Toks.tok p b t _ _ h1 ?_ i1
      cases hr : r.take (x.2 + (textT x.1).length - (p + b + (textT t).length)) with
      | nil => rfl
      | cons c r' =>
        have : r.head? = some c := by
          cases r with
          | nil => simp at hr
          | cons c2 r2 =>
            cases hm : x.2 + (textT x.1).length - (p + b + (textT t).length) with
            | zero => rw [hm] at hr; simp at hr
            | succ m => rw [hm] at hr; simp at hr; rw [hr.1]; rfl
        show okNext t (some c) = true
        rw [← this]
        exact h2
theorem agree_take {ts : Tks} {j : Nat} (hj : j < ts.length) (r : Tks) : AgreeTo ts (ts.take (j + 1) ++ r) j := by
  intro k hk
  rw [List.getElem?_append_left (by simp; omega), List.getElem?_take, if_pos (by omega)]
/-- Behind the token that may not stand: the same one is told. -/
theorem behind_pure {l : Bs} (h6 : ∀ x ∈ toks l, x.1.k ≠ 6) {j : Nat} {x : Tk × Nat} (hp : patP (toks l) = .error j) (hx : (toks l)[j]? = some x) :
    x.2 + (textT x.1).length ≤ l.length ∧ (∀ y ∈ toks (l.take (x.2 + (textT x.1).length)), y.1.k ≠ 6) ∧
    ∀ (L : List (Sp × Value)) (win at_ er : Int), OutP (toks (l.take (x.2 + (textT x.1).length))) L win at_ er → er = 90 ∧ at_ = x.2 := by
  have hw := toks_whole l h6
  have hj := (List.getElem?_eq_some_iff.1 hx).1
  obtain ⟨-, -, hle, -, -, -, -, -⟩ := hw.each j x hx
  have hle2 : x.2 + (textT x.1).length ≤ l.length := by omega
  by_cases hne : textT x.1 = []
  · have hend := hw.lastOf j x hx hne
    obtain ⟨-, -, -, -, -, -, -, he⟩ := hw.each j x hx
    have hxl : x.2 = l.length := by have := he hend; omega
    have e : l.take (x.2 + (textT x.1).length) = l := List.take_of_length_le (by omega)
    rw [e]
    refine ⟨hle2, h6, fun L win at_ er ho => ?_⟩
    rcases ho with ⟨h1, -, -⟩ | ⟨j', y, h1, h2, -, -, rfl, rfl⟩
    · rw [hp] at h1; cases h1
    · rw [hp] at h1; cases h1
      rw [hx] at h2; cases h2
      exact ⟨rfl, rfl⟩
  · have ht := (hw.behind j x hx hne).all
    rw [Nat.sub_zero] at ht
    have hag := agree_take hj [((⟨0, 0⟩ : Tk), x.2 + (textT x.1).length)]
    have hp2 := patP_err hp hag
    refine ⟨hle2, fun y hy => ?_, fun L win at_ er ho => ?_⟩
    · rw [ht] at hy
      rcases List.mem_append.1 hy with hy | hy
      · exact h6 y (List.mem_of_mem_take hy)
      · obtain rfl := List.mem_singleton.1 hy
        show (0 : Int) ≠ 6; decide
    · rw [ht] at ho
      rcases ho with ⟨h1, -, -⟩ | ⟨j', y, h1, h2, -, -, rfl, rfl⟩
      · rw [hp2] at h1; cases h1
      · rw [hp2] at h1; cases h1
        rw [List.getElem?_append_left (by simp; omega), List.getElem?_take, if_pos (by omega), hx] at h2
        cases h2
        exact ⟨rfl, rfl⟩
/-- Ahead of it: none ahead of that is told. -/
theorem ahead_pure {l : Bs} (h6 : ∀ x ∈ toks l, x.1.k ≠ 6) {j : Nat} {x : Tk × Nat} (hp : patP (toks l) = .error j) (hx : (toks l)[j]? = some x) :
    (∀ y ∈ toks (l.take x.2), y.1.k ≠ 6) ∧
    ∀ (L : List (Sp × Value)) (win at_ er : Int), OutP (toks (l.take x.2)) L win at_ er → er = 0 ∨ er = 90 ∧ at_ = x.2 := by
  have hw := toks_whole l h6
  have hj := (List.getElem?_eq_some_iff.1 hx).1
  have ht := (hw.ahead j x hx).all
  rw [Nat.sub_zero] at ht
  refine ⟨fun y hy => ?_, fun L win at_ er ho => ?_⟩
  · rw [ht] at hy
    rcases List.mem_append.1 hy with hy | hy
    · exact h6 y (List.mem_of_mem_take hy)
    · obtain rfl := List.mem_singleton.1 hy
      show (0 : Int) ≠ 6; decide
  · rw [ht] at ho
    rcases ho with ⟨-, -, rfl⟩ | ⟨j', y, h1, h2, -, -, rfl, rfl⟩
    · exact .inl rfl
    · refine .inr ⟨rfl, ?_⟩
      have hj' := (List.getElem?_eq_some_iff.1 h2).1
      simp at hj'
      by_cases hlt : j' < j
      · have hag : AgreeTo ((toks l).take j ++ [((⟨0, 0⟩ : Tk), x.2)]) (toks l) j' := by
          intro k hk
          rw [List.getElem?_append_left (by simp; omega), List.getElem?_take, if_pos (by omega)]
        have := patP_err h1 hag
        rw [hp] at this
        cases this
        omega
      · obtain rfl : j' = j := by omega
        rw [List.getElem?_append_right (by simp; omega), List.length_take, Nat.min_eq_left (by omega), Nat.sub_self] at h2
        simp at h2
        rw [← h2]
end Go.Proofs.YtkedifhlkiffoaaDoor
