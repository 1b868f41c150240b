/-
  What takes tokens, as Lean functions: one, must, may, more; contracts in their words.
-/
import Derived.Test.YtkedifhlkiffoaaDoorPA
namespace Go.Proofs.YtkedifhlkiffoaaDoor
open Go.ChangeShapes Go.WideShapes Go.ChangeAt Go.RowKit
set_option linter.unusedVariables false
set_option linter.unusedSimpArgs false
attribute [local go_sem] Oper.semAt_some
/-- The end is the last one. -/
def EndsT (ts : List (Tk × Nat)) : Prop := ∀ k x, ts[k]? = some x → x.1.k ≠ 0 → k + 1 < ts.length
def oneP (ts : List (Tk × Nat)) (kd : Int) (k : Nat) : Except Nat (Int × Nat) := match ts[k]? with | some x => if x.1.k = kd then .ok (x.1.n, k + 1) else .error k | none => .error k
def mustP (ts : List (Tk × Nat)) (kd nn : Int) (k : Nat) : Except Nat (Unit × Nat) := match ts[k]? with | some x => if x.1.k = kd ∧ x.1.n = nn then .ok ((), k + 1) else .error k | none => .error k
def mayP (ts : List (Tk × Nat)) (kd nn : Int) (k : Nat) : Bool := match ts[k]? with | some x => decide (x.1.k = kd ∧ x.1.n = nn) | none => false
def moreP (ts : List (Tk × Nat)) (k : Nat) : Except Nat (Int × Nat) :=
  if mayP ts 5 43 k then oneP ts 1 (k + 1) else if mayP ts 5 45 k then (oneP ts 1 (k + 1)).map fun x => (wrap64 (-x.1), x.2) else .ok (0, k)
/-- What was told, as the Lean function tells it: a value and what is left, or a token that may not stand there. -/
def Told {α : Type} (R g c : Nat) (ts : List (Tk × Nat)) (val : World → α → Value → Prop) (r : Except Nat (α × Nat)) (w : World) (e : Ending) (w' : World) : Prop :=
  w.grownBy w' (some R) ∧ match r with
    | .ok (v, k) => (∃ u, e = .returned u ∧ val w' v u) ∧ RdK R g c ts k w' ∧ k < ts.length
    | .error j => ∃ x, ts[j]? = some x ∧ e = noTok x
theorem one_P {R g c k : Nat} {ts : List (Tk × Nat)} (kd : Int) (w : World) (hE : EndsT ts) (hk : k < ts.length) (h0 : kd ≠ 0) (h : RdK R g c ts k w) :
    Calls Tryd.prog 71 #[.pointer (some ⟨R, 0, none⟩), .int .u8 kd] w (Told R g c ts (fun _ n u => u = .int .i64 n) (oneP ts kd k) w) := by
  obtain ⟨x, hx⟩ : ∃ x, ts[k]? = some x := ⟨_, List.getElem?_eq_getElem hk⟩
  refine (one_any R g c k ts kd x w hx h).mono ?_
  rintro e w' (⟨h1, rfl, hR, hg⟩ | ⟨h1, rfl, hg⟩)
  · refine ⟨hg, ?_⟩
    unfold oneP
    rw [hx]
    simp only [h1, if_true]
    exact ⟨⟨_, rfl, rfl⟩, hR, hE k x hx (by rw [h1]; exact h0)⟩
  · refine ⟨hg, ?_⟩
    unfold oneP
    rw [hx]
    simp only [h1, if_false]
    exact ⟨x, hx, rfl⟩
theorem must_P {R g c k : Nat} {ts : List (Tk × Nat)} (kd nn : Int) (w : World) (hE : EndsT ts) (hk : k < ts.length) (h0 : kd ≠ 0) (h : RdK R g c ts k w) :
    Calls Tryd.prog 70 #[.pointer (some ⟨R, 0, none⟩), .int .u8 kd, .int .i64 nn] w (Told R g c ts (fun _ _ u => u = .tuple #[]) (mustP ts kd nn k) w) := by
  obtain ⟨x, hx⟩ : ∃ x, ts[k]? = some x := ⟨_, List.getElem?_eq_getElem hk⟩
  refine (must_any R g c k ts kd nn x w hx h).mono ?_
  rintro e w' (⟨h1, rfl, hR, hg⟩ | ⟨h1, rfl, hg⟩)
  · refine ⟨hg, ?_⟩
    unfold mustP
    rw [hx]
    simp only [h1, and_self, if_true]
    exact ⟨⟨_, rfl, rfl⟩, hR, hE k x hx (by rw [h1.1]; exact h0)⟩
  · refine ⟨hg, ?_⟩
    unfold mustP
    rw [hx]
    simp only [h1, if_false]
    exact ⟨x, hx, rfl⟩
theorem may_P {R g c k : Nat} {ts : List (Tk × Nat)} (kd nn : Int) (w : World) (hE : EndsT ts) (hk : k < ts.length) (h0 : kd ≠ 0) (h : RdK R g c ts k w) :
    Calls Tryd.prog 69 #[.pointer (some ⟨R, 0, none⟩), .int .u8 kd, .int .i64 nn] w fun e w' => e = .returned (.bool (mayP ts kd nn k)) ∧ RdK R g c ts (if mayP ts kd nn k then k + 1 else k) w' ∧ w.grownBy w' (some R) ∧ (if mayP ts kd nn k then k + 1 else k) < ts.length := by
  obtain ⟨x, hx⟩ : ∃ x, ts[k]? = some x := ⟨_, List.getElem?_eq_getElem hk⟩
  refine (may_any R g c k ts kd nn x w hx h).mono ?_
  rintro e w' ⟨b, hb, rfl, hR, hg⟩
  have e1 : mayP ts kd nn k = b := by unfold mayP; rw [hx, hb]
  rw [e1]
  refine ⟨rfl, hR, hg, ?_⟩
  cases b
  · simpa using hk
  · have := of_decide_eq_true hb.symm
    simpa using hE k x hx (by rw [this.1]; exact h0)
set_option maxRecDepth 100000 in
set_option maxHeartbeats 1000000 in
theorem more_P {R g c k : Nat} {ts : List (Tk × Nat)} (w : World) (hE : EndsT ts) (hk : k < ts.length) (h : RdK R g c ts k w) :
    Calls Tryd.prog 139 #[.pointer (some ⟨R, 0, none⟩)] w (Told R g c ts (fun _ n u => u = .int .i64 n) (moreP ts k) w) := by
  have M1 := Lib.hid (may_P 5 43 w hE hk (by decide) h)
  unfold moreP
  obtain ⟨b1, hb1⟩ : ∃ b, mayP ts 5 43 k = b := ⟨_, rfl⟩
  rw [hb1] at M1 ⊢
  clear hb1
  replace hE := Lib.hid hE
  cases b1
  · have M2 := fun w' (h' : RdK R g c ts k w') => Lib.hid (may_P 5 45 w' hE.out hk (by decide) h')
    obtain ⟨b2, hb2⟩ : ∃ b, mayP ts 5 45 k = b := ⟨_, rfl⟩
    rw [hb2] at M2 ⊢
    clear hb2
    replace M2 := Lib.hid M2
    go_enter Tryd.func139, Tryd.ntmps139
    go_wp2_with fail
    (with_reducible refine M1.out.mono ?_)
    rintro e w2 ⟨rfl, hR2, hg2, hk2⟩
    clear M1
    go_wp2_with fail
    replace hR2 : RdK R g c ts k w2 := hR2
    (with_reducible refine (M2.out _ hR2).out.mono ?_)
    rintro e w3 ⟨rfl, hR3, hg3, hk3⟩
    clear M2
    cases b2
    · go_wp2_with fail
      go_ret
      exact ⟨grown_more hg2 hg3, ⟨_, rfl, rfl⟩, hR3, hk3⟩
    · replace hR3 : RdK R g c ts (k + 1) w3 := hR3
      replace hk3 : k + 1 < ts.length := hk3
      have hO := Lib.hid (one_P 1 w3 hE.out hk3 (by decide) hR3)
      go_wp2_with fail
      (with_reducible refine hO.out.mono ?_)
      rintro e w4 ⟨hg4, hT⟩
      clear hO
      cases hr : oneP ts 1 (k + 1) with
      | ok y =>
        rw [hr] at hT
        obtain ⟨⟨u, rfl, rfl⟩, hR4, hk4⟩ := hT
        replace hR4 := Lib.hid hR4
        go_wp2_with fail
        go_ret
        refine ⟨grown_more hg2 (grown_more hg3 hg4), ?_⟩
        exact ⟨⟨_, rfl, rfl⟩, hR4.out, hk4⟩
      | error j =>
        rw [hr] at hT
        obtain ⟨x, hx, rfl⟩ := hT
        replace hx := Lib.hid hx
        go_wp2_with fail
        refine ⟨rfl, grown_more hg2 (grown_more hg3 hg4), ?_⟩
        exact ⟨x, hx.out, rfl⟩
  · go_enter Tryd.func139, Tryd.ntmps139
    go_wp2_with fail
    (with_reducible refine M1.out.mono ?_)
    rintro e w2 ⟨rfl, hR2, hg2, hk2⟩
    clear M1
    replace hR2 : RdK R g c ts (k + 1) w2 := hR2
    replace hk2 : k + 1 < ts.length := hk2
    have hO := Lib.hid (one_P 1 w2 hE.out hk2 (by decide) hR2)
    go_wp2_with fail
    (with_reducible refine hO.out.mono ?_)
    rintro e w4 ⟨hg4, hT⟩
    clear hO
    cases hr : oneP ts 1 (k + 1) with
    | ok y =>
      rw [hr] at hT
      obtain ⟨⟨u, rfl, rfl⟩, hR4, hk4⟩ := hT
      replace hR4 := Lib.hid hR4
      go_wp2_with fail
      go_ret
      refine ⟨grown_more hg2 hg4, ?_⟩
      exact ⟨⟨_, rfl, rfl⟩, hR4.out, hk4⟩
    | error j =>
      rw [hr] at hT
      obtain ⟨x, hx, rfl⟩ := hT
      replace hx := Lib.hid hx
      go_wp2_with fail
      refine ⟨rfl, grown_more hg2 hg4, ?_⟩
      exact ⟨x, hx.out, rfl⟩
end Go.Proofs.YtkedifhlkiffoaaDoor
