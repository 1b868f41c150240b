/-
  Several texts in one: PU PT PV PW PX PY.
-/
import Derived.Test.YtkedifhlkiffoaaDoorPR
import Derived.Test.YtkedifhlkiffoaaDoorPB
import Derived.Test.YtkedifhlkiffoaaDoorPC
import Derived.Deep.QuietTactic
import Derived.RegionTactic
import Derived.BigRegion
import Derived.Test.YtkedifhlkiffoaaDoorPH
import Derived.Deep.Cut
import Derived.Deep.AppendLies
import Derived.Deep.RegionLaw
import Derived.Test.YtkedifhlkiffoaaDoorLU
/- What is parsed may be written; separators, comparisons and brackets of its tokens. -/
namespace Go.Proofs.YtkedifhlkiffoaaDoor
open Go.ChangeShapes Go.WideShapes Go.ChangeAt Go.RowKit
open Tree (Tm Cp Sp)
set_option linter.unusedVariables false
set_option linter.unusedSimpArgs false
/-- What a token's number may be. -/
def TkOk (t : Tk) : Prop := (t.k = 1 → 0 ≤ t.n ∧ t.n ≤ 1099511627776) ∧ (t.k = 2 → 0 ≤ t.n ∧ t.n ≤ 25) ∧ (t.k = 4 → 1 ≤ t.n ∧ t.n ≤ 6)
theorem first_tk (l : Bs) : TkOk (firstT l) := by
  unfold firstT
  split
  · exact ⟨by simp, by simp, by simp⟩
  split
  · rename_i h
    have hn := num_fits _ h (fun c hc => run_mem _ _ _ c hc)
    refine ⟨fun _ => hn, fun h2 => ?_, fun h2 => ?_⟩
    · unfold numT at h2; split at h2 <;> simp at h2
    · unfold numT at h2; split at h2 <;> simp at h2
  split
  · rename_i h
    unfold wordT
    split
    · rename_i h1
      refine ⟨by simp, fun _ => ?_, by simp⟩
      have hm : (runL 97 122 l)[0]?.getD 0 ∈ runL 97 122 l := by
        cases hr : runL 97 122 l with
        | nil => exact absurd hr h
        | cons a b => simp
      have := (inR_iff 97 122 _).1 (run_mem _ _ _ _ hm)
      simp only
      omega
    · split <;> exact ⟨by simp, by simp, by simp⟩
  split
  · have := longL_bd l
    exact ⟨by simp, by simp, fun _ => by simp only; omega⟩
  split
  · exact ⟨by simp, by simp, by simp⟩
  · exact ⟨by simp, by simp, by simp⟩
theorem toksF_tk : ∀ (f p : Nat) (l : Bs) (x : Tk × Nat), x ∈ toksF f p l → TkOk x.1 := by
  intro f
  induction f with
  | zero => intro p l x hx; cases hx
  | succ f ih =>
    intro p l x hx
    simp only [toksF] at hx
    rcases List.mem_cons.1 hx with rfl | hx
    · exact first_tk _
    · split at hx
      · cases hx
      · exact ih _ _ _ hx
/-- All tokens' numbers are such. -/
def TksOk (ts : List (Tk × Nat)) : Prop := ∀ x ∈ ts, TkOk x.1
theorem toks_tk (l : Bs) : TksOk (toks l) := fun x hx => toksF_tk _ _ _ x hx
section
variable {ts : List (Tk × Nat)}
theorem one_is {kd : Int} {k : Nat} {y : Int × Nat} (h : oneP ts kd k = .ok y) : ∃ x, ts[k]? = some x ∧ x.1.k = kd ∧ y = (x.1.n, k + 1) := by
  unfold oneP at h
  split at h
  · rename_i x hx
    split at h
    · rename_i hk
      cases h
      exact ⟨x, hx, hk, rfl⟩
    · cases h
  · cases h
theorem must_is {kd n : Int} {k : Nat} {y : Unit × Nat} (h : mustP ts kd n k = .ok y) : ∃ x, ts[k]? = some x ∧ x.1.k = kd ∧ x.1.n = n ∧ y = ((), k + 1) := by
  unfold mustP at h
  split at h
  · rename_i x hx
    split at h
    · rename_i hk
      cases h
      exact ⟨x, hx, hk.1, hk.2, rfl⟩
    · cases h
  · cases h
theorem may_is {kd n : Int} {k : Nat} (h : mayP ts kd n k = true) : ∃ x, ts[k]? = some x ∧ x.1.k = kd ∧ x.1.n = n := by
  unfold mayP at h
  split at h
  · rename_i x hx
    have := of_decide_eq_true h
    exact ⟨x, hx, this.1, this.2⟩
  · cases h
theorem one_num (hO : TksOk ts) {k : Nat} {y : Int × Nat} (h : oneP ts 1 k = .ok y) : 0 ≤ y.1 ∧ y.1 ≤ 1099511627776 := by
  obtain ⟨x, hx, hk, rfl⟩ := one_is h
  exact (hO x (List.mem_of_getElem? hx)).1 hk
theorem one_let (hO : TksOk ts) {k : Nat} {y : Int × Nat} (h : oneP ts 2 k = .ok y) : 0 ≤ y.1 ∧ y.1 ≤ 25 := by
  obtain ⟨x, hx, hk, rfl⟩ := one_is h
  exact (hO x (List.mem_of_getElem? hx)).2.1 hk
theorem one_op (hO : TksOk ts) {k : Nat} {y : Int × Nat} (h : oneP ts 4 k = .ok y) : 1 ≤ y.1 ∧ y.1 ≤ 6 := by
  obtain ⟨x, hx, hk, rfl⟩ := one_is h
  exact (hO x (List.mem_of_getElem? hx)).2.2 hk
theorem more_num (hO : TksOk ts) {k : Nat} {y : Int × Nat} (h : moreP ts k = .ok y) : -1099511627776 ≤ y.1 ∧ y.1 ≤ 1099511627776 := by
  unfold moreP at h
  split at h
  · have := one_num hO h; omega
  · split at h
    · obtain ⟨z, hz, rfl⟩ := map_ok h
      have := one_num hO hz
      simp only [wrap64]
      omega
    · cases h; simp
theorem ofOne_is {k : Nat} {y : (Int × Int) × Nat} (h : ofOneP ts k = .ok y) : ∃ k1 k2 k3 s, mustP ts 5 40 k = .ok ((), k1) ∧ oneP ts 2 k1 = .ok (s, k2) ∧ mustP ts 5 41 k2 = .ok ((), k3) ∧ moreP ts k3 = .ok (y.1.1, y.2) ∧ y.1.2 = s := by
  unfold ofOneP at h
  cases h1 : mustP ts 5 40 k with
  | error j => rw [h1] at h; cases h
  | ok y1 =>
  simp only [h1] at h
  cases h2 : oneP ts 2 y1.2 with
  | error j => rw [h2] at h; cases h
  | ok y2 =>
  simp only [h2] at h
  cases h3 : mustP ts 5 41 y2.2 with
  | error j => rw [h3] at h; cases h
  | ok y3 =>
  simp only [h3] at h
  cases h4 : moreP ts y3.2 with
  | error j => rw [h4] at h; cases h
  | ok y4 =>
  simp only [h4] at h
  cases h
  exact ⟨_, _, _, _, rfl, h2, h3, h4, rfl⟩
theorem ofTwo_is {k : Nat} {y : (Int × Int × Int) × Nat} (h : ofTwoP ts k = .ok y) : ∃ k1 k2 k3 k4 k5, mustP ts 5 40 k = .ok ((), k1) ∧ oneP ts 2 k1 = .ok (y.1.2.1, k2) ∧ mustP ts 5 44 k2 = .ok ((), k3) ∧ oneP ts 2 k3 = .ok (y.1.2.2, k4) ∧ mustP ts 5 41 k4 = .ok ((), k5) ∧ moreP ts k5 = .ok (y.1.1, y.2) := by
  unfold ofTwoP at h
  cases h1 : mustP ts 5 40 k with
  | error j => rw [h1] at h; cases h
  | ok y1 =>
  simp only [h1] at h
  cases h2 : oneP ts 2 y1.2 with
  | error j => rw [h2] at h; cases h
  | ok y2 =>
  simp only [h2] at h
  cases h3 : mustP ts 5 44 y2.2 with
  | error j => rw [h3] at h; cases h
  | ok y3 =>
  simp only [h3] at h
  cases h4 : oneP ts 2 y3.2 with
  | error j => rw [h4] at h; cases h
  | ok y4 =>
  simp only [h4] at h
  cases h5 : mustP ts 5 41 y4.2 with
  | error j => rw [h5] at h; cases h
  | ok y5 =>
  simp only [h5] at h
  cases h6 : moreP ts y5.2 with
  | error j => rw [h6] at h; cases h
  | ok y6 =>
  simp only [h6] at h
  cases h
  exact ⟨_, _, _, _, _, rfl, h2, h3, h4, h5, h6⟩
theorem ofOne_bd (hO : TksOk ts) {k : Nat} {y : (Int × Int) × Nat} (h : ofOneP ts k = .ok y) : (-1099511627776 ≤ y.1.1 ∧ y.1.1 ≤ 1099511627776) ∧ 0 ≤ y.1.2 ∧ y.1.2 ≤ 25 := by
  obtain ⟨k1, k2, k3, s, h1, h2, h3, h4, rfl⟩ := ofOne_is h
  exact ⟨more_num hO h4, one_let hO h2⟩
theorem ofTwo_bd (hO : TksOk ts) {k : Nat} {y : (Int × Int × Int) × Nat} (h : ofTwoP ts k = .ok y) : (-1099511627776 ≤ y.1.1 ∧ y.1.1 ≤ 1099511627776) ∧ (0 ≤ y.1.2.1 ∧ y.1.2.1 ≤ 25) ∧ 0 ≤ y.1.2.2 ∧ y.1.2.2 ≤ 25 := by
  obtain ⟨k1, k2, k3, k4, k5, h1, h2, h3, h4, h5, h6⟩ := ofTwo_is h
  exact ⟨more_num hO h6, one_let hO h2, one_let hO h4⟩
theorem term_right (hO : TksOk ts) {k : Nat} {y : (Int × Int × Int × Int) × Nat} (h : termP ts k = .ok y) : Tree.rightT ⟨y.1.1, y.1.2.1, y.1.2.2.1, y.1.2.2.2⟩ = true := by
  unfold termP at h
  unfold Tree.rightT
  apply decide_eq_true
  split at h
  · unfold namedP at h
    cases h1 : oneP ts 2 k with
    | error j => rw [h1] at h; cases h
    | ok y1 =>
    simp only [h1] at h
    split at h
    · obtain ⟨z, hz, rfl⟩ := map_ok h; have := ofOne_bd hO hz; refine ⟨?_, ?_, ?_, ?_, ?_, ?_, ?_, ?_, ?_⟩ <;> simp only [wrap64] <;> first | omega | simp
    split at h
    · obtain ⟨z, hz, rfl⟩ := map_ok h; have := ofOne_bd hO hz; refine ⟨?_, ?_, ?_, ?_, ?_, ?_, ?_, ?_, ?_⟩ <;> simp only [wrap64] <;> first | omega | simp
    split at h
    · obtain ⟨z, hz, rfl⟩ := map_ok h; have := ofOne_bd hO hz; refine ⟨?_, ?_, ?_, ?_, ?_, ?_, ?_, ?_, ?_⟩ <;> simp only [wrap64] <;> first | omega | simp
    split at h
    · obtain ⟨z, hz, rfl⟩ := map_ok h; have := ofOne_bd hO hz; refine ⟨?_, ?_, ?_, ?_, ?_, ?_, ?_, ?_, ?_⟩ <;> simp only [wrap64] <;> first | omega | simp
    split at h
    · obtain ⟨z, hz, rfl⟩ := map_ok h; have := ofTwo_bd hO hz; refine ⟨?_, ?_, ?_, ?_, ?_, ?_, ?_, ?_, ?_⟩ <;> simp only [wrap64] <;> first | omega | simp
    split at h
    · obtain ⟨z, hz, rfl⟩ := map_ok h; have := ofTwo_bd hO hz; refine ⟨?_, ?_, ?_, ?_, ?_, ?_, ?_, ?_, ?_⟩ <;> simp only [wrap64] <;> first | omega | simp
    · cases h
  split at h
  · obtain ⟨z, hz, rfl⟩ := map_ok h; have := one_num hO hz; refine ⟨?_, ?_, ?_, ?_, ?_, ?_, ?_, ?_, ?_⟩ <;> simp only [wrap64] <;> first | omega | simp
  · obtain ⟨z, hz, rfl⟩ := map_ok h; have := one_num hO hz; refine ⟨?_, ?_, ?_, ?_, ?_, ?_, ?_, ?_, ?_⟩ <;> simp only [wrap64] <;> first | omega | simp
theorem cmp_is {k : Nat} {y : (Int × (Int × Int × Int × Int) × (Int × Int × Int × Int)) × Nat} (h : cmpP ts k = .ok y) : ∃ o k1 k2, termP ts k = .ok (y.1.2.1, k1) ∧ oneP ts 4 k1 = .ok (o, k2) ∧ termP ts k2 = .ok (y.1.2.2, y.2) ∧ y.1.1 = o % 256 := by
  unfold cmpP at h
  cases h1 : termP ts k with
  | error j => rw [h1] at h; cases h
  | ok y1 =>
  simp only [h1] at h
  cases h2 : oneP ts 4 y1.2 with
  | error j => rw [h2] at h; cases h
  | ok y2 =>
  simp only [h2] at h
  cases h3 : termP ts y2.2 with
  | error j => rw [h3] at h; cases h
  | ok y3 =>
  simp only [h3] at h
  cases h
  exact ⟨_, _, _, rfl, h2, h3, rfl⟩
theorem cmp_right (hO : TksOk ts) {k : Nat} {y : (Int × (Int × Int × Int × Int) × (Int × Int × Int × Int)) × Nat} (h : cmpP ts k = .ok y) : Tree.rightC (cpO y.1) = true := by
  obtain ⟨o, k1, k2, h1, h2, h3, h4⟩ := cmp_is h
  have g1 := term_right hO h1
  have g2 := one_op hO h2
  have g3 := term_right hO h3
  simp only at g2
  have e1 : (1 : Int) ≤ y.1.1 := by omega
  have e2 : y.1.1 < 7 := by omega
  unfold Tree.rightC cpO
  simp only [g1, g3, Bool.and_true, Bool.and_eq_true, decide_eq_true_eq]
  exact ⟨e1, e2⟩
theorem cmpsF_is {f k : Nat} {y : List Cp × Nat} (h : cmpsF ts (f + 1) k = .ok y) : ∃ c k1, cmpP ts k = .ok (c, k1) ∧
    ((mayP ts 5 38 k1 = true ∧ ∃ l, cmpsF ts f (k1 + 1) = .ok (l, y.2) ∧ y.1 = cpO c :: l) ∨ (mayP ts 5 38 k1 = false ∧ mustP ts 5 93 k1 = .ok ((), y.2) ∧ y.1 = [cpO c])) := by
  unfold cmpsF at h
  cases h1 : cmpP ts k with
  | error j => rw [h1] at h; cases h
  | ok y1 =>
  simp only [h1] at h
  refine ⟨y1.1, y1.2, rfl, ?_⟩
  split at h
  · rename_i hm
    cases h2 : cmpsF ts f (y1.2 + 1) with
    | error j => rw [h2] at h; cases h
    | ok y2 =>
    simp only [h2] at h
    cases h
    exact .inl ⟨hm, _, rfl, rfl⟩
  · rename_i hm
    cases h2 : mustP ts 5 93 y1.2 with
    | error j => rw [h2] at h; cases h
    | ok y2 =>
    simp only [h2] at h
    cases h
    exact .inr ⟨by simpa using hm, rfl, rfl⟩
theorem cmpsF_right (hO : TksOk ts) : ∀ (f k : Nat) (y : List Cp × Nat), cmpsF ts f k = .ok y → y.1.all Tree.rightC = true := by
  intro f
  induction f with
  | zero => intro k y h; cases h
  | succ f ih =>
    intro k y h
    obtain ⟨c, k1, h1, ⟨-, l, h2, h3⟩ | ⟨-, h2, h3⟩⟩ := cmpsF_is h
    · rw [h3]
      have := ih _ _ h2
      simp only at this
      rw [List.all_cons, cmp_right hO h1, this]
      rfl
    · rw [h3]
      have := cmp_right hO h1
      simp only at this
      rw [List.all_cons, this]
      rfl
theorem step_is {i : Int} {strict : Bool} {k : Nat} {y : Sp × Nat} (h : stepP ts i strict k = .ok y) : ∃ k2 k3 k4 mm, oneP ts 1 (mayK ts 33 k) = .ok (y.1.kind, k2) ∧ mustP ts 2 i k2 = .ok ((), k3) ∧ timesP ts k3 = .ok (mm, k4) ∧ listP ts k4 = .ok (y.1.cs, y.2) ∧ y.1.strict = strict ∧ y.1.min = mm.1 ∧ y.1.max = mm.2 := by
  unfold stepP at h
  cases h1 : oneP ts 1 (mayK ts 33 k) with
  | error j => rw [h1] at h; cases h
  | ok y1 =>
  simp only [h1] at h
  cases h2 : mustP ts 2 i y1.2 with
  | error j => rw [h2] at h; cases h
  | ok y2 =>
  simp only [h2] at h
  cases h3 : timesP ts y2.2 with
  | error j => rw [h3] at h; cases h
  | ok y3 =>
  simp only [h3] at h
  cases h4 : listP ts y3.2 with
  | error j => rw [h4] at h; cases h
  | ok y4 =>
  simp only [h4] at h
  cases h
  exact ⟨_, _, _, _, rfl, h2, h3, h4, rfl, rfl, rfl⟩
theorem span_is {k : Nat} {y : (Int × Int) × Nat} (h : spanP ts k = .ok y) : ∃ k1 k2 k3, oneP ts 1 k = .ok (y.1.1, k1) ∧ mustP ts 5 44 k1 = .ok ((), k2) ∧ oneP ts 1 k2 = .ok (y.1.2, k3) ∧ mustP ts 5 125 k3 = .ok ((), y.2) := by
  unfold spanP at h
  cases h1 : oneP ts 1 k with
  | error j => rw [h1] at h; cases h
  | ok y1 =>
  simp only [h1] at h
  cases h2 : mustP ts 5 44 y1.2 with
  | error j => rw [h2] at h; cases h
  | ok y2 =>
  simp only [h2] at h
  cases h3 : oneP ts 1 y2.2 with
  | error j => rw [h3] at h; cases h
  | ok y3 =>
  simp only [h3] at h
  cases h4 : mustP ts 5 125 y3.2 with
  | error j => rw [h4] at h; cases h
  | ok y4 =>
  simp only [h4] at h
  cases h
  exact ⟨_, _, _, rfl, h2, h3, h4⟩
theorem times_bd (hO : TksOk ts) {k : Nat} {y : (Int × Int) × Nat} (h : timesP ts k = .ok y) : (0 ≤ y.1.1 ∧ y.1.1 ≤ 1099511627776) ∧ 0 ≤ y.1.2 ∧ y.1.2 ≤ 1099511627776 := by
  unfold timesP at h
  split at h
  · obtain ⟨k1, k2, k3, h1, h2, h3, h4⟩ := span_is h
    exact ⟨one_num hO h1, one_num hO h3⟩
  · cases h; simp
theorem list_right (hO : TksOk ts) {k : Nat} {y : List Cp × Nat} (h : listP ts k = .ok y) : y.1.all Tree.rightC = true := by
  unfold listP at h
  split at h
  · exact cmpsF_right hO _ _ _ h
  · cases h; rfl
theorem nbr_of {n : Int} (h : 0 ≤ n ∧ n ≤ 1099511627776) : Tree.nbr n = true := by unfold Tree.nbr; simp; exact h
theorem step_right (hO : TksOk ts) {i : Int} {strict : Bool} {k : Nat} {y : Sp × Nat} (h : stepP ts i strict k = .ok y) : Tree.rightS y.1 = true ∧ 0 ≤ i ∧ i ≤ 25 ∧ y.1.strict = strict := by
  obtain ⟨k2, k3, k4, mm, h1, h2, h3, h4, h5, h6, h7⟩ := step_is h
  have g1 := one_num hO h1
  have g3 := times_bd hO h3
  have g4 := list_right hO h4
  obtain ⟨x, hx, hk, hn, -⟩ := must_is h2
  have g2 := (hO x (List.mem_of_getElem? hx)).2.1 hk
  rw [hn] at g2
  refine ⟨?_, g2.1, g2.2, h5⟩
  unfold Tree.rightS
  simp only at g4
  rw [g4, nbr_of g1, h6, h7, nbr_of g3.1, nbr_of g3.2]
  rfl
theorem end_is {k : Nat} {win : Int} (h : endP ts k = .ok win) : ∃ k1 k2 k3, mustP ts 3 0 k = .ok ((), k1) ∧ oneP ts 1 k1 = .ok (win, k2) ∧ mustP ts 0 0 k2 = .ok ((), k3) := by
  unfold endP at h
  cases h1 : mustP ts 3 0 k with
  | error j => rw [h1] at h; cases h
  | ok y1 =>
  simp only [h1] at h
  cases h2 : oneP ts 1 y1.2 with
  | error j => rw [h2] at h; cases h
  | ok y2 =>
  simp only [h2] at h
  cases h3 : mustP ts 0 0 y2.2 with
  | error j => rw [h3] at h; cases h
  | ok y3 =>
  simp only [h3] at h
  cases h
  exact ⟨_, _, _, rfl, h2, h3⟩
theorem patF_is {f i k : Nat} {strict : Bool} {y : List Sp × Int} (h : patF ts (f + 1) i strict k = .ok y) : ∃ s k1, stepP ts i strict k = .ok (s, k1) ∧
    (((mayP ts 5 44 k1 || mayP ts 5 59 k1) = true ∧ ∃ l, patF ts f (i + 1) (mayP ts 5 44 k1) (k1 + 1) = .ok (l, y.2) ∧ y.1 = s :: l) ∨ ((mayP ts 5 44 k1 || mayP ts 5 59 k1) = false ∧ endP ts k1 = .ok y.2 ∧ y.1 = [s])) := by
  unfold patF at h
  cases h1 : stepP ts i strict k with
  | error j => rw [h1] at h; cases h
  | ok y1 =>
  simp only [h1] at h
  refine ⟨y1.1, y1.2, rfl, ?_⟩
  split at h
  · rename_i hm
    cases h2 : patF ts f (i + 1) (mayP ts 5 44 y1.2) (y1.2 + 1) with
    | error j => rw [h2] at h; cases h
    | ok y2 =>
    simp only [h2] at h
    cases h
    exact .inl ⟨hm, _, rfl, rfl⟩
  · rename_i hm
    cases h2 : endP ts y1.2 with
    | error j => rw [h2] at h; cases h
    | ok y2 =>
    simp only [h2] at h
    cases h
    exact .inr ⟨by simpa using hm, rfl, rfl⟩
theorem patF_right (hO : TksOk ts) : ∀ (f i : Nat) (strict : Bool) (k : Nat) (y : List Sp × Int), patF ts f i strict k = .ok y →
    y.1.all Tree.rightS = true ∧ i + y.1.length ≤ 26 ∧ 1 ≤ y.1.length ∧ Tree.nbr y.2 = true ∧ (y.1[0]?).map (·.strict) = some strict := by
  intro f
  induction f with
  | zero => intro i s k y h; cases h
  | succ f ih =>
    intro i strict k y h
    obtain ⟨s, k1, h1, ⟨-, l, h2, h3⟩ | ⟨-, h2, h3⟩⟩ := patF_is h
    · obtain ⟨g1, g2, g3, g4, -⟩ := ih _ _ _ _ h2
      obtain ⟨q1, q2, q3, q4⟩ := step_right hO h1
      rw [h3]
      simp only at g1 g2 g4 q1 q4
      refine ⟨by rw [List.all_cons, q1, g1]; rfl, by simp; omega, by simp, g4, by simp [q4]⟩
    · obtain ⟨q1, q2, q3, q4⟩ := step_right hO h1
      obtain ⟨k2, k3, k4, e1, e2, e3⟩ := end_is h2
      rw [h3]
      simp only at q1 q4
      refine ⟨by rw [List.all_cons, q1]; rfl, by simp; omega, by simp, nbr_of (one_num hO e2), by simp [q4]⟩
theorem patP_right (hO : TksOk ts) {y : List Sp × Int} (h : patP ts = .ok y) : Tree.rightP y.1 y.2 = true ∧ (y.1[0]?).map (·.strict) = some false := by
  obtain ⟨g1, g2, g3, g4, g5⟩ := patF_right hO _ _ _ _ _ h
  refine ⟨?_, g5⟩
  unfold Tree.rightP
  rw [g1, g4]
  simp
  omega
/-- Separators, comparisons and depth, one token further. -/
def opn (t : Tk) : Bool := decide (t.k = 5) && (decide (t.n = 40) || decide (t.n = 91) || decide (t.n = 123))
def sht (t : Tk) : Bool := decide (t.k = 5) && (decide (t.n = 41) || decide (t.n = 93) || decide (t.n = 125))
def dpW (d : Int) (t : Tk) : Int := (if opn t then d + 1 else d) - (if sht t then 1 else 0)
def stepW (st : Int × Int × Int) (t : Tk) : Int × Int × Int :=
  (if dpW st.2.2 t = 0 ∧ t.k = 5 ∧ (t.n = 59 ∨ t.n = 44) then st.1 + 1 else st.1, if t.k = 4 then st.2.1 + 1 else st.2.1, dpW st.2.2 t)
def scan (ts : List (Tk × Nat)) (k : Nat) : Int × Int × Int := (ts.take k).foldl (fun st x => stepW st x.1) (0, 0, 0)
theorem scan_next {k : Nat} {x : Tk × Nat} (h : ts[k]? = some x) : scan ts (k + 1) = stepW (scan ts k) x.1 := by
  unfold scan
  rw [List.take_add_one, h]
  simp
theorem scan_plain {k : Nat} {x : Tk × Nat} (h : ts[k]? = some x) (h5 : x.1.k ≠ 5) (h4 : x.1.k ≠ 4) : scan ts (k + 1) = scan ts k := by
  rw [scan_next h]
  simp [stepW, dpW, opn, sht, h5, h4]
theorem scan_one {kd : Int} {k : Nat} {y : Int × Nat} (h : oneP ts kd k = .ok y) (h5 : kd ≠ 5) (h4 : kd ≠ 4) : scan ts y.2 = scan ts k := by
  obtain ⟨x, hx, hk, rfl⟩ := one_is h
  exact scan_plain hx (by rw [hk]; exact h5) (by rw [hk]; exact h4)
theorem scan_sign {k : Nat} {x : Tk × Nat} {n s c d : Int} (h : ts[k]? = some x) (hk : x.1.k = 5) (hn : x.1.n = n) (hs : scan ts k = (s, c, d)) : scan ts (k + 1) = stepW (s, c, d) ⟨5, n⟩ := by
  rw [scan_next h, hs]
  have : x.1 = ⟨5, n⟩ := by rw [← hk, ← hn]
  rw [this]
theorem scan_must {k : Nat} {n s c d : Int} {y : Unit × Nat} (h : mustP ts 5 n k = .ok y) (hs : scan ts k = (s, c, d)) : scan ts y.2 = stepW (s, c, d) ⟨5, n⟩ := by
  obtain ⟨x, hx, hk, hn, rfl⟩ := must_is h
  exact scan_sign hx hk hn hs
theorem scan_may {k : Nat} {n s c d : Int} (h : mayP ts 5 n k = true) (hs : scan ts k = (s, c, d)) : scan ts (k + 1) = stepW (s, c, d) ⟨5, n⟩ := by
  obtain ⟨x, hx, hk, hn⟩ := may_is h
  exact scan_sign hx hk hn hs
theorem w_in (s c d : Int) : stepW (s, c, d) ⟨5, 40⟩ = (s, c, d + 1) ∧ stepW (s, c, d) ⟨5, 91⟩ = (s, c, d + 1) ∧ stepW (s, c, d) ⟨5, 123⟩ = (s, c, d + 1) := by
  refine ⟨?_, ?_, ?_⟩ <;> simp [stepW, dpW, opn, sht]
theorem w_out (s c d : Int) : stepW (s, c, d) ⟨5, 41⟩ = (s, c, d - 1) ∧ stepW (s, c, d) ⟨5, 93⟩ = (s, c, d - 1) ∧ stepW (s, c, d) ⟨5, 125⟩ = (s, c, d - 1) := by
  refine ⟨?_, ?_, ?_⟩ <;> simp [stepW, dpW, opn, sht]
theorem w_plain (s c d : Int) : stepW (s, c, d) ⟨5, 43⟩ = (s, c, d) ∧ stepW (s, c, d) ⟨5, 45⟩ = (s, c, d) ∧ stepW (s, c, d) ⟨5, 38⟩ = (s, c, d) ∧ stepW (s, c, d) ⟨5, 33⟩ = (s, c, d) := by
  refine ⟨?_, ?_, ?_, ?_⟩ <;> simp [stepW, dpW, opn, sht]
theorem w_sep (s c d : Int) (n : Int) (hn : n = 59 ∨ n = 44) : stepW (s, c, d) ⟨5, n⟩ = (if d = 0 then s + 1 else s, c, d) := by
  rcases hn with rfl | rfl <;> simp [stepW, dpW, opn, sht]
theorem scan_more {k : Nat} {s c d : Int} {y : Int × Nat} (h : moreP ts k = .ok y) (hs : scan ts k = (s, c, d)) : scan ts y.2 = (s, c, d) := by
  unfold moreP at h
  split at h
  · rename_i hm
    have := scan_may hm hs
    rw [(w_plain s c d).1] at this
    rw [scan_one h (by decide) (by decide), this]
  · split at h
    · rename_i hm
      have := scan_may hm hs
      rw [(w_plain s c d).2.1] at this
      obtain ⟨z, hz, rfl⟩ := map_ok h
      show scan ts z.2 = _
      rw [scan_one hz (by decide) (by decide), this]
    · cases h; exact hs
theorem scan_ofOne {k : Nat} {s c d : Int} {y : (Int × Int) × Nat} (h : ofOneP ts k = .ok y) (hs : scan ts k = (s, c, d)) : scan ts y.2 = (s, c, d) := by
  obtain ⟨k1, k2, k3, sv, h1, h2, h3, h4, -⟩ := ofOne_is h
  have g1 := scan_must h1 hs
  rw [(w_in s c d).1] at g1
  have g2 := (scan_one h2 (by decide) (by decide)).trans g1
  have g3 := scan_must h3 g2
  rw [(w_out s c (d + 1)).1, show d + 1 - 1 = d by omega] at g3
  exact scan_more h4 g3
theorem scan_ofTwo {k : Nat} {s c d : Int} (hd : 0 ≤ d) {y : (Int × Int × Int) × Nat} (h : ofTwoP ts k = .ok y) (hs : scan ts k = (s, c, d)) : scan ts y.2 = (s, c, d) := by
  obtain ⟨k1, k2, k3, k4, k5, h1, h2, h3, h4, h5, h6⟩ := ofTwo_is h
  have g1 := scan_must h1 hs
  rw [(w_in s c d).1] at g1
  have g2 := (scan_one h2 (by decide) (by decide)).trans g1
  have g3 := scan_must h3 g2
  rw [w_sep _ _ _ _ (.inr rfl), if_neg (by omega)] at g3
  have g4 := (scan_one h4 (by decide) (by decide)).trans g3
  have g5 := scan_must h5 g4
  rw [(w_out s c (d + 1)).1, show d + 1 - 1 = d by omega] at g5
  exact scan_more h6 g5
theorem scan_term {k : Nat} {s c d : Int} (hd : 0 ≤ d) {y : (Int × Int × Int × Int) × Nat} (h : termP ts k = .ok y) (hs : scan ts k = (s, c, d)) : scan ts y.2 = (s, c, d) := by
  unfold termP at h
  split at h
  · unfold namedP at h
    cases h1 : oneP ts 2 k with
    | error j => rw [h1] at h; cases h
    | ok y1 =>
    simp only [h1] at h
    have g1 := (scan_one h1 (by decide) (by decide)).trans hs
    split at h
    · obtain ⟨z, hz, rfl⟩ := map_ok h; exact scan_ofOne hz g1
    split at h
    · obtain ⟨z, hz, rfl⟩ := map_ok h; exact scan_ofOne hz g1
    split at h
    · obtain ⟨z, hz, rfl⟩ := map_ok h; exact scan_ofOne hz g1
    split at h
    · obtain ⟨z, hz, rfl⟩ := map_ok h; exact scan_ofOne hz g1
    split at h
    · obtain ⟨z, hz, rfl⟩ := map_ok h; exact scan_ofTwo hd hz g1
    split at h
    · obtain ⟨z, hz, rfl⟩ := map_ok h; exact scan_ofTwo hd hz g1
    · cases h
  split at h
  · rename_i hm
    have := scan_may hm hs
    rw [(w_plain s c d).2.1] at this
    obtain ⟨z, hz, rfl⟩ := map_ok h
    exact (scan_one hz (by decide) (by decide)).trans this
  · obtain ⟨z, hz, rfl⟩ := map_ok h
    exact (scan_one hz (by decide) (by decide)).trans hs
theorem scan_cmp {k : Nat} {s c d : Int} (hd : 0 ≤ d) {y : (Int × (Int × Int × Int × Int) × (Int × Int × Int × Int)) × Nat} (h : cmpP ts k = .ok y) (hs : scan ts k = (s, c, d)) : scan ts y.2 = (s, c + 1, d) := by
  obtain ⟨o, k1, k2, h1, h2, h3, -⟩ := cmp_is h
  have g1 := scan_term hd h1 hs
  obtain ⟨x, hx, hk, he⟩ := one_is h2
  obtain ⟨-, rfl⟩ := Prod.mk.inj he
  have g2 := scan_next hx
  rw [show scan ts k1 = (s, c, d) from g1] at g2
  have g3 : stepW (s, c, d) x.1 = (s, c + 1, d) := by simp [stepW, dpW, opn, sht, hk]
  rw [g3] at g2
  exact scan_term hd h3 g2
theorem scan_cmps {d : Int} (hd : 0 ≤ d) : ∀ (f k : Nat) (y : List Cp × Nat) (s c : Int), cmpsF ts f k = .ok y → scan ts k = (s, c, d) → scan ts y.2 = (s, c + y.1.length, d - 1) := by
  intro f
  induction f with
  | zero => intro k y s c h; cases h
  | succ f ih =>
    intro k y s c h hs
    obtain ⟨cv, k1, h1, ⟨hm, l, h2, h3⟩ | ⟨hm, h2, h3⟩⟩ := cmpsF_is h
    · have g1 := scan_cmp hd h1 hs
      have g2 := scan_may hm g1
      rw [(w_plain s (c + 1) d).2.2.1] at g2
      have g3 := ih _ _ _ _ h2 g2
      rw [h3]
      simp only at g3
      rw [g3]
      simp
      omega
    · have g1 := scan_cmp hd h1 hs
      have g2 := scan_must h2 g1
      rw [(w_out s (c + 1) d).2.1] at g2
      rw [h3]
      simpa using g2
theorem scan_times {k : Nat} {s c : Int} {y : (Int × Int) × Nat} (h : timesP ts k = .ok y) (hs : scan ts k = (s, c, 0)) : scan ts y.2 = (s, c, 0) := by
  unfold timesP at h
  split at h
  · rename_i hm
    have g0 := scan_may hm hs
    rw [(w_in s c 0).2.2] at g0
    obtain ⟨k1, k2, k3, h1, h2, h3, h4⟩ := span_is h
    have g1 := (scan_one h1 (by decide) (by decide)).trans g0
    have g2 := scan_must h2 g1
    rw [w_sep _ _ _ _ (.inr rfl), if_neg (by decide)] at g2
    have g3 := (scan_one h3 (by decide) (by decide)).trans g2
    have g4 := scan_must h4 g3
    rw [(w_out s c (0 + 1)).2.2] at g4
    exact g4
  · cases h; exact hs
theorem scan_list {k : Nat} {s c : Int} {y : List Cp × Nat} (h : listP ts k = .ok y) (hs : scan ts k = (s, c, 0)) : scan ts y.2 = (s, c + y.1.length, 0) := by
  unfold listP at h
  split at h
  · rename_i hm
    have g0 := scan_may hm hs
    rw [(w_in s c 0).2.1] at g0
    have := scan_cmps (by decide) _ _ _ _ _ h g0
    exact this
  · cases h; simpa using hs
theorem scan_step {i : Int} {strict : Bool} {k : Nat} {s c : Int} {y : Sp × Nat} (h : stepP ts i strict k = .ok y) (hs : scan ts k = (s, c, 0)) : scan ts y.2 = (s, c + y.1.cs.length, 0) := by
  obtain ⟨k2, k3, k4, mm, h1, h2, h3, h4, -⟩ := step_is h
  have g0 : scan ts (mayK ts 33 k) = (s, c, 0) := by
    unfold mayK
    split
    · rename_i hm
      rw [scan_may hm hs, (w_plain s c 0).2.2.2]
    · exact hs
  have g1 := (scan_one h1 (by decide) (by decide)).trans g0
  obtain ⟨x, hx, hk, hn, he⟩ := must_is h2
  obtain ⟨-, rfl⟩ := Prod.mk.inj he
  have g2 := (scan_plain hx (by rw [hk]; decide) (by rw [hk]; decide)).trans g1
  exact scan_list h4 (scan_times h3 g2)
/-- How many comparisons steps have. -/
def cmpsN (ss : List Sp) : Int := (ss.map fun s => (s.cs.length : Int)).sum
/-- The end is the last one, and nothing else is. -/
def LastT (ts : List (Tk × Nat)) : Prop := ∀ k x, ts[k]? = some x → x.1.k = 0 → k + 1 = ts.length
theorem scan_pat (hL : LastT ts) : ∀ (f i : Nat) (strict : Bool) (k : Nat) (y : List Sp × Int) (s c : Int), patF ts f i strict k = .ok y → scan ts k = (s, c, 0) → scan ts ts.length = (s + y.1.length - 1, c + cmpsN y.1, 0) := by
  intro f
  induction f with
  | zero => intro i s k y s c h; cases h
  | succ f ih =>
    intro i strict k y s c h hs
    obtain ⟨sv, k1, h1, ⟨hm, l, h2, h3⟩ | ⟨hm, h2, h3⟩⟩ := patF_is h
    · have g1 := scan_step h1 hs
      have g2 : scan ts (k1 + 1) = (s + 1, c + sv.cs.length, 0) := by
        rcases Bool.or_eq_true_iff.1 hm with hm | hm
        · have := scan_may hm g1
          rw [w_sep _ _ _ _ (.inr rfl), if_pos rfl] at this
          exact this
        · have := scan_may hm g1
          rw [w_sep _ _ _ _ (.inl rfl), if_pos rfl] at this
          exact this
      rw [ih _ _ _ _ _ _ h2 g2, h3]
      simp [cmpsN]
      omega
    · have g1 := scan_step h1 hs
      obtain ⟨k2, k3, k4, e1, e2, e3⟩ := end_is h2
      obtain ⟨x, hx, hk, hn, he⟩ := must_is e1
      obtain ⟨-, rfl⟩ := Prod.mk.inj he
      have g2 := (scan_plain hx (by rw [hk]; decide) (by rw [hk]; decide)).trans g1
      have g3 := (scan_one e2 (by decide) (by decide)).trans g2
      obtain ⟨z, hz, hk, hn, he⟩ := must_is e3
      have g4 := (scan_plain hz (by rw [hk]; decide) (by rw [hk]; decide)).trans g3
      rw [hL _ _ hz hk] at g4
      rw [g4, h3]
      simp [cmpsN]
end
theorem Toks.last {p : Nat} {l : Bs} {ts : List (Tk × Nat)} (h : Toks [] p l ts) : LastT ts := by
  generalize he : ([] : Bs) = e at h
  induction h with
  | fin p b h1 h2 =>
    intro k x hx h0
    have := (List.getElem?_eq_some_iff.1 hx).1
    simp at this ⊢
    exact this
  | tok p b t r ts h1 h2 h3 ih =>
    intro k x hx h0
    rcases k with _ | k
    · simp at hx
      subst hx
      exact absurd (by simp only at h0; simp [textT, h0]) h1
    · have := ih k x (by simpa using hx) h0
      simp
      omega
theorem scan_bd (ts : List (Tk × Nat)) : ∀ k, (0 ≤ (scan ts k).1 ∧ (scan ts k).1 ≤ k) ∧ (0 ≤ (scan ts k).2.1 ∧ (scan ts k).2.1 ≤ k) ∧ -(k : Int) ≤ (scan ts k).2.2 ∧ (scan ts k).2.2 ≤ k := by
  intro k
  induction k with
  | zero => simp [scan]
  | succ k ih =>
    cases hx : ts[k]? with
    | none =>
      have : scan ts (k + 1) = scan ts k := by
        unfold scan
        rw [List.take_add_one, hx]
        simp
      rw [this]
      omega
    | some x =>
      rw [scan_next hx]
      unfold stepW dpW
      simp only
      refine ⟨?_, ?_, ?_⟩ <;> (repeat' split) <;> omega
end Go.Proofs.YtkedifhlkiffoaaDoor
/- The document's own parser: its box; contracts of now, go1, is, may, must, sign, more, kind, in the words of the reader's Lean functions. -/
namespace Go.Proofs.YtkedifhlkiffoaaDoor
open Go.ChangeShapes Go.WideShapes Go.ChangeAt Go.RowKit
set_option linter.unusedVariables false
set_option linter.unusedSimpArgs false
attribute [local go_sem] Oper.semAt_some
/-- The document's parser at P, at the token k of those at g; b: one may not stand there. -/
def PrK (P g c : Nat) (ts : List (Tk × Nat)) (k : Nat) (b : Bool) (W : World) : Prop :=
  W.heap[P]? = some (.cells #[.slice (some ⟨g, 0, none⟩) ts.length c, .int .i64 k, .bool b] 64 (0, 0)) ∧ (∃ base, TksAt base (.slice (some ⟨g, 0, none⟩) ts.length c) ts W) ∧ P ≠ g ∧ k < ts.length ∧ ts.length ≤ 4000
theorem PrK.lt {P g c k : Nat} {b : Bool} {ts : List (Tk × Nat)} {W : World} (h : PrK P g c ts k b W) : P < W.heap.size := (Array.getElem?_eq_some_iff.1 h.1).1
theorem PrK.glt {P g c k : Nat} {b : Bool} {ts : List (Tk × Nat)} {W : World} (h : PrK P g c ts k b W) : g < W.heap.size := by
  obtain ⟨-, ⟨base, h2⟩, -⟩ := h
  exact tks_lt h2
theorem PrK.keptRow {P g c k : Nat} {b : Bool} {ts : List (Tk × Nat)} {W W' : World} {row : Option Nat} (h : PrK P g c ts k b W) (hg : W.grownBy W' row) (h1 : some P ≠ row) (h2 : some g ≠ row) : PrK P g c ts k b W' := by
  have hP := h.lt
  obtain ⟨e1, ⟨base, e2⟩, h3⟩ := h
  exact ⟨(hg.block P hP h1).trans e1, ⟨base, World.ownsRow.kept e2 hg (.inr h2)⟩, h3⟩
theorem PrK.kept {P g c k : Nat} {b : Bool} {ts : List (Tk × Nat)} {W W' : World} (h : PrK P g c ts k b W) (hg : W.grownBy W' none) : PrK P g c ts k b W' := h.keptRow hg (by simp) (by simp)
theorem PrK.cells {P g c k : Nat} {b : Bool} {ts : List (Tk × Nat)} {W : World} (h : PrK P g c ts k b W) :
    W.cell? ⟨P, 0, none⟩ = some (.slice (some ⟨g, 0, none⟩) ts.length c) ∧ W.cell? ⟨P, 1, none⟩ = some (.int .i64 k) ∧ W.cell? ⟨P, 2, none⟩ = some (.bool b) ∧ ∀ i, W.frozen? ⟨P, i, none⟩ = false := by
  obtain ⟨e, -⟩ := h
  refine ⟨?_, ?_, ?_, fun i => ?_⟩
  · simp [World.cell?, e]
  · simp [World.cell?, e]
  · simp [World.cell?, e]
  · simp [World.frozen?, e]
theorem PrK.tok {P g c k : Nat} {b : Bool} {ts : List (Tk × Nat)} {W : World} (h : PrK P g c ts k b W) {x : Tk × Nat} (hx : ts[k]? = some x) :
    W.cell? ⟨g, k * 3, none⟩ = some (.int .u8 x.1.k) ∧ W.cell? ⟨g, k * 3 + 1, none⟩ = some (.int .i64 x.1.n) ∧ W.cell? ⟨g, k * 3 + 2, none⟩ = some (.int .i64 x.2) := by
  obtain ⟨-, ⟨base, h2⟩, -⟩ := h
  exact tks_cell h2 hx
theorem PrK.put {P g c k k' j : Nat} {b b' : Bool} {v : Value} {ts : List (Tk × Nat)} {W : World} (h : PrK P g c ts k b W) (hk : k' < ts.length)
    (hv : (#[.slice (some ⟨g, 0, none⟩) ts.length c, .int .i64 k, .bool b] : Array Value).setIfInBounds j v = #[.slice (some ⟨g, 0, none⟩) ts.length c, .int .i64 k', .bool b']) : PrK P g c ts k' b' (W.setCell ⟨P, j, none⟩ v) := by
  obtain ⟨e1, ⟨base, e2⟩, h3, h4, h5⟩ := h
  refine ⟨?_, ⟨base, ?_⟩, h3, hk, h5⟩
  · rw [box_set e1 j v, hv]
  · refine World.ownsRow.kept e2 (set_grown W P j _) (.inr fun e => ?_)
    simp [Value.ownBlock] at e
    exact h3 e.symm
theorem PrK.far {P g c k p o : Nat} {b : Bool} {ts : List (Tk × Nat)} {W : World} {v : Value} (h : PrK P g c ts k b W) (h1 : p ≠ P) (h2 : p ≠ g) : PrK P g c ts k b (W.setCell ⟨p, o, none⟩ v) :=
  h.keptRow (set_grown W p o v) (fun e => h1 (Option.some.inj e).symm) (fun e => h2 (Option.some.inj e).symm)
/-- What was told at a state: where the parser stands then. -/
def St {α : Type} (r : Except Nat (α × Nat)) (v : α) (k : Nat) (b : Bool) : Prop := if b then r = .error k else r = .ok (v, k)
def bd {α : Type} (b : Bool) (k : Nat) (r : Except Nat (α × Nat)) : Except Nat (α × Nat) := if b then .error k else r
def ToldS {α : Type} (P g c : Nat) (ts : List (Tk × Nat)) (val : World → α → Value → Prop) (r : Except Nat (α × Nat)) (w : World) (e : Ending) (w' : World) : Prop :=
  ∃ u v k b, e = .returned u ∧ val w' v u ∧ PrK P g c ts k b w' ∧ w.grownBy w' (some P) ∧ St r v k b
theorem St.bind {α β : Type} {b b1 b2 : Bool} {k k1 k2 : Nat} {r : Except Nat (α × Nat)} {f : α → Nat → Except Nat (β × Nat)} {v : α} {u : β} (h1 : St (bd b k r) v k1 b1) (h2 : St (bd b1 k1 (f v k1)) u k2 b2) :
    St (bd b k (match r with | .error j => .error j | .ok (a, m) => f a m)) u k2 b2 := by
  unfold St bd at *
  cases b
  · cases b1
    · simp only [Bool.false_eq_true, if_false] at h1 h2 ⊢
      rw [h1]
      exact h2
    · simp only [Bool.false_eq_true, if_false, if_true] at h1 h2 ⊢
      rw [h1]
      cases b2
      · simp at h2
      · simpa using h2
  · cases b1
    · simp at h1
    · simp only [if_true] at h1 h2 ⊢
      cases h1
      exact h2
theorem PrK.drew {P g c k : Nat} {b : Bool} {ts : List (Tk × Nat)} {W : World} (h : PrK P g c ts k b W) : PrK P g c ts k b W.drew := h
theorem fd0 : ∀ (a b c : Value) (w : World), (Instr.field 35 (.agg #[a, b, c]) 0).run Tryd.prog w = .ok a w := fun a b c w => by kernel_rfl
theorem fd1 : ∀ (a b c : Value) (w : World), (Instr.field 35 (.agg #[a, b, c]) 1).run Tryd.prog w = .ok b w := fun a b c w => by kernel_rfl
theorem fd2 : ∀ (a b c : Value) (w : World), (Instr.field 35 (.agg #[a, b, c]) 2).run Tryd.prog w = .ok c w := fun a b c w => by kernel_rfl
theorem drewG {w w' : World} {row : Option Nat} (h : w.grownBy w' row) : w.grownBy w'.drew row := ⟨h.os, h.tape, h.output, h.size, h.block⟩
theorem grownS {w w' : World} {R : Nat} (h : w.grownBy w' none) : w.grownBy w' (some R) := ⟨h.os, h.tape, h.output, h.size, fun k hk _ => h.block k hk (by simp)⟩
theorem grown_self (w : World) (R : Nat) : w.grownBy w (some R) := ⟨rfl, rfl, rfl, Nat.le_refl _, fun _ _ _ => rfl⟩
set_option maxRecDepth 100000 in
set_option maxHeartbeats 1000000 in
theorem now_R {P g c k : Nat} {b : Bool} {ts : List (Tk × Nat)} (w : World) (h : PrK P g c ts k b w) {x : Tk × Nat} (hx : ts[k]? = some x) :
    Calls Tryd.prog 45 #[.pointer (some ⟨P, 0, none⟩)] w fun e w' => e = .returned (.agg #[.int .u8 x.1.k, .int .i64 x.1.n, .int .i64 x.2]) ∧ w.grownBy w' none := by
  have hg := World.grownBy_alloc w (.cells #[.int .u8 0, .int .i64 0, .int .i64 0] 35) none
  have h' := h.kept hg
  have a0 := World.alloc_heap_new w (.cells #[.int .u8 0, .int .i64 0, .int .i64 0] 35)
  obtain ⟨c0, c1, c2, -⟩ := h'.cells
  obtain ⟨z0, z1, z2⟩ := h'.tok hx
  have hk : (k : Int) < ts.length := by have := h.2.2.2.1; omega
  have hk0 : (0 : Int) ≤ k := by omega
  obtain ⟨n, hn⟩ : ∃ n, ts.length = n := ⟨_, rfl⟩
  rw [hn] at hk c0
  obtain ⟨w2, hw⟩ : ∃ W, w.alloc (.cells #[.int .u8 0, .int .i64 0, .int .i64 0] 35) = W := ⟨_, rfl⟩
  obtain ⟨S, hS⟩ : ∃ S, w.heap.size = S := ⟨_, rfl⟩
  rw [hw] at hg a0 c0 c1 c2 z0 z1 z2
  rw [hS] at a0
  have s0 : w.heap.size ≤ S := by omega
  have c0' : (w2).cell? ⟨S, 0, none⟩ = some (.int .u8 0) := by simp [World.cell?, a0]
  have f0 : (w2).frozen? ⟨S, 0, none⟩ = false := by simp [World.frozen?, a0]
  have a1 := box_set a0 0 (.int .u8 x.1.k)
  simp only [List.setIfInBounds_toArray, List.set_cons_zero, List.set_cons_succ] at a1
  have d1 : ((w2).setCell ⟨S, 0, none⟩ (.int .u8 x.1.k)).cell? ⟨S, 1, none⟩ = some (.int .i64 0) := by simp [World.cell?, a1]
  have f1 : ((w2).setCell ⟨S, 0, none⟩ (.int .u8 x.1.k)).frozen? ⟨S, 1, none⟩ = false := by simp [World.frozen?, a1]
  have a2 := box_set a1 1 (.int .i64 x.1.n)
  simp only [List.setIfInBounds_toArray, List.set_cons_zero, List.set_cons_succ] at a2
  have d2 : (((w2).setCell ⟨S, 0, none⟩ (.int .u8 x.1.k)).setCell ⟨S, 1, none⟩ (.int .i64 x.1.n)).cell? ⟨S, 2, none⟩ = some (.int .i64 0) := by simp [World.cell?, a2]
  have f2 : (((w2).setCell ⟨S, 0, none⟩ (.int .u8 x.1.k)).setCell ⟨S, 1, none⟩ (.int .i64 x.1.n)).frozen? ⟨S, 2, none⟩ = false := by simp [World.frozen?, a2]
  have a3 := box_set a2 2 (.int .i64 x.2)
  simp only [List.setIfInBounds_toArray, List.set_cons_zero, List.set_cons_succ] at a3
  have hgZ : w.grownBy ((((w2).setCell ⟨S, 0, none⟩ (.int .u8 x.1.k)).setCell ⟨S, 1, none⟩ (.int .i64 x.1.n)).setCell ⟨S, 2, none⟩ (.int .i64 x.2)).drew none := by
    have g1 := ((set_grown w2 S 0 (.int .u8 x.1.k)).trans (set_grown _ S 1 (.int .i64 x.1.n))).trans (set_grown _ S 2 (.int .i64 x.2))
    exact ⟨g1.os.trans hg.os, g1.tape.trans hg.tape, g1.output.trans hg.output, Nat.le_trans hg.size g1.size, fun q hq _ => (g1.block q (Nat.lt_of_lt_of_le hq hg.size) (fun e => by cases e; omega)).trans (hg.block q hq (by simp))⟩
  replace hgZ := Lib.hid hgZ
  replace a3 := Lib.hid a3
  clear h hx hn h' a0 a1 a2 hg s0
  go_enter Tryd.func45, Tryd.ntmps45
  go_wp2_with fail
  go_region
  go_wp2_with fail

  exact bodyPost_ret (v := .agg #[.int .u8 x.1.k, .int .i64 x.1.n, .int .i64 x.2]) (results_cell_row rfl _ _ S 35 _ (0, 0) _ rfl a3.out Tryd.underlying35 rfl (by kernel_rfl)) rfl ⟨rfl, hgZ.out⟩
set_option maxRecDepth 100000 in
set_option maxHeartbeats 1000000 in
theorem go1_R {P g c k : Nat} {b : Bool} {ts : List (Tk × Nat)} (w : World) (h : PrK P g c ts k b w) :
    Calls Tryd.prog 43 #[.pointer (some ⟨P, 0, none⟩)] w fun e w' => e = .returned (.tuple #[]) ∧ PrK P g c ts (if b then k else if k + 1 < ts.length then k + 1 else k) b w' ∧ w.grownBy w' (some P) := by
  obtain ⟨c0, c1, c2, c3⟩ := h.cells
  have f1 := c3 1
  have hb5 := h.2.2.2.2
  have hkl := h.2.2.2.1
  cases b
  · by_cases hk : k + 1 < ts.length
    · have hP := h.put (j := 1) (v := .int .i64 ((k : Int) + 1)) (k' := k + 1) (b' := false) hk (by simp)
      have hG := set_grown w P 1 (.int .i64 ((k : Int) + 1))
      replace hP := Lib.hid hP
      replace hG := Lib.hid hG
      have hw : wrap64 ((k : Int) + 1) = (k : Int) + 1 := by unfold wrap64; omega
      have hw2 : wrap64 ((ts.length : Int) - 1) = (ts.length : Int) - 1 := by unfold wrap64; omega
      have hd : decide ((k : Int) < (ts.length : Int) - 1) = true := by simp; omega
      rw [if_neg (by simp), if_pos hk]
      clear hk c3 h
      go_enter Tryd.func43, Tryd.ntmps43
      go_wp2_with fail
      go_region
      go_wp2_with fail
      exact ⟨rfl, .tuple #[], by kernel_rfl, rfl, PrK.drew hP.out, drewG hG.out⟩
    · have hw2 : wrap64 ((ts.length : Int) - 1) = (ts.length : Int) - 1 := by unfold wrap64; omega
      have hd : decide ((k : Int) < (ts.length : Int) - 1) = false := by simp; omega
      rw [if_neg (by simp), if_neg hk]
      replace h := Lib.hid h
      clear hk c3
      go_enter Tryd.func43, Tryd.ntmps43
      go_wp2_with fail
      go_region
      go_wp2_with fail
      exact ⟨rfl, .tuple #[], by kernel_rfl, rfl, PrK.drew h.out, drewG (grown_self _ _)⟩
  · rw [if_pos rfl]
    replace h := Lib.hid h
    clear c3
    go_enter Tryd.func43, Tryd.ntmps43
    go_wp2_with fail
    go_region
    go_wp2_with fail
    exact ⟨rfl, .tuple #[], by kernel_rfl, rfl, PrK.drew h.out, drewG (grown_self _ _)⟩
set_option maxRecDepth 100000 in
set_option maxHeartbeats 1000000 in
theorem is_R {P g c k : Nat} {b : Bool} {ts : List (Tk × Nat)} (w : World) (cc : Int) (hc : 0 ≤ cc ∧ cc < 256) (h : PrK P g c ts k b w) :
    Calls Tryd.prog 42 #[.pointer (some ⟨P, 0, none⟩), .int .u8 cc] w fun e w' => e = .returned (.bool (!b && mayP ts 5 cc k)) ∧ w.grownBy w' none := by
  obtain ⟨c0, c1, c2, -⟩ := h.cells
  obtain ⟨x, hx⟩ : ∃ x, ts[k]? = some x := ⟨_, List.getElem?_eq_getElem h.2.2.2.1⟩
  have hm : mayP ts 5 cc k = decide (x.1.k = 5 ∧ x.1.n = cc) := by unfold mayP; rw [hx]
  rw [hm]
  have HN := Lib.hid (fun W (h : PrK P g c ts k b W) => now_R W h hx)
  have hw : wrap64 cc = cc := by unfold wrap64; omega
  have F0 := fd0
  have F1 := fd1
  replace h := Lib.hid h
  clear hx hm hc c0 c1
  cases b
  · by_cases e1 : x.1.k = 5
    · have d1 : (x.1.k == 5) = true := by simp [e1]
      obtain ⟨B, hB⟩ : ∃ B, decide (x.1.n = cc) = B := ⟨_, rfl⟩
      have d2 : (x.1.n == cc) = B := by rw [← hB]; by_cases e2 : x.1.n = cc <;> simp [e2]
      rw [show (!false && decide (x.1.k = 5 ∧ x.1.n = cc)) = B by rw [← hB]; simp [e1]]
      clear e1 hB
      go_enter Tryd.func42, Tryd.ntmps42
      go_wp2_with fail
      (with_reducible refine (HN.out w h.out).mono ?_)
      rintro e w2 ⟨rfl, hg2⟩
      have h2 := Lib.hid (PrK.kept h.out hg2)
      go_wp2_with fail
      (with_reducible refine (HN.out w2 h2.out).mono ?_)
      rintro e w3 ⟨rfl, hg3⟩
      clear HN
      go_wp2_with fail
      go_ret
      exact ⟨rfl, hg2.trans hg3⟩
    · have d1 : (x.1.k == 5) = false := by simp [e1]
      rw [show (!false && decide (x.1.k = 5 ∧ x.1.n = cc)) = false by simp [e1]]
      clear e1
      go_enter Tryd.func42, Tryd.ntmps42
      go_wp2_with fail
      (with_reducible refine (HN.out w h.out).mono ?_)
      rintro e w2 ⟨rfl, hg2⟩
      clear HN
      go_wp2_with fail
      go_ret
      exact ⟨rfl, hg2⟩
  · rw [show (!true && decide (x.1.k = 5 ∧ x.1.n = cc)) = false by simp]
    clear HN
    go_enter Tryd.func42, Tryd.ntmps42
    go_wp2_with fail
    go_ret
    exact ⟨rfl, ⟨rfl, rfl, rfl, Nat.le_refl _, fun _ _ _ => rfl⟩⟩
/-- The parser goes over a sign, if it is there. -/
theorem may_lt {ts : List (Tk × Nat)} (hE : EndsT ts) {n : Int} {k : Nat} (h : mayP ts 5 n k = true) : k + 1 < ts.length := by
  unfold mayP at h
  split at h
  · rename_i x hx
    have := of_decide_eq_true h
    exact hE k x hx (by rw [this.1]; decide)
  · cases h
set_option maxRecDepth 100000 in
set_option maxHeartbeats 1000000 in
theorem may_R {P g c k : Nat} {b : Bool} {ts : List (Tk × Nat)} (w : World) (hE : EndsT ts) (cc : Int) (hc : 0 ≤ cc ∧ cc < 256) (h : PrK P g c ts k b w) :
    Calls Tryd.prog 72 #[.pointer (some ⟨P, 0, none⟩), .int .u8 cc] w fun e w' => e = .returned (.bool (!b && mayP ts 5 cc k)) ∧ PrK P g c ts (if (!b && mayP ts 5 cc k) then k + 1 else k) b w' ∧ w.grownBy w' (some P) := by
  have HI := Lib.hid (is_R w cc hc h)
  have HG := Lib.hid (fun W (h : PrK P g c ts k b W) => go1_R W h)
  obtain ⟨m, hm⟩ : ∃ m, (!b && mayP ts 5 cc k) = m := ⟨_, rfl⟩
  rw [hm] at HI ⊢
  cases m
  · replace h := Lib.hid h
    clear hm HG
    show Calls _ _ _ _ fun e w' => e = .returned (.bool false) ∧ PrK P g c ts k b w' ∧ w.grownBy w' (some P)
    go_enter Tryd.func72, Tryd.ntmps72
    go_wp2_with fail
    (with_reducible refine HI.out.mono ?_)
    rintro e w2 ⟨rfl, hg2⟩
    clear HI
    go_wp2_with fail
    go_ret
    exact ⟨rfl, PrK.kept h.out hg2, grownS hg2⟩
  · have hk : k + 1 < ts.length := may_lt hE (by simp at hm; exact hm.2)
    have hbf : b = false := by simp at hm; exact hm.1
    subst hbf
    replace hk := Lib.hid hk
    have hP0 := Lib.hid h
    clear hm h
    show Calls _ _ _ _ fun e w' => e = .returned (.bool true) ∧ PrK P g c ts (k + 1) false w' ∧ w.grownBy w' (some P)
    go_enter Tryd.func72, Tryd.ntmps72
    go_wp2_with fail
    (with_reducible refine HI.out.mono ?_)
    rintro e w2 ⟨rfl, hg2⟩
    clear HI
    go_wp2_with fail
    (with_reducible refine (HG.out w2 (PrK.kept hP0.out hg2)).mono ?_)
    rintro e w3 ⟨rfl, hP, hg⟩
    rw [if_neg (by simp), if_pos hk.out] at hP
    replace hP := Lib.hid hP
    clear HG
    go_wp2_with fail
    go_ret
    exact ⟨rfl, hP.out, grown_more (grownS hg2) hg⟩
set_option maxRecDepth 100000 in
set_option maxHeartbeats 1000000 in
theorem must_R {P g c k : Nat} {b : Bool} {ts : List (Tk × Nat)} (w : World) (hE : EndsT ts) (kd : Int) (h0 : kd ≠ 0) (h : PrK P g c ts k b w) :
    Calls Tryd.prog 44 #[.pointer (some ⟨P, 0, none⟩), .int .u8 kd] w (ToldS P g c ts (fun _ (n : Int) u => u = .int .i64 n) (bd b k (oneP ts kd k)) w) := by
  obtain ⟨c0, c1, c2, c3⟩ := h.cells
  have f2 := c3 2
  obtain ⟨x, hx⟩ : ∃ x, ts[k]? = some x := ⟨_, List.getElem?_eq_getElem h.2.2.2.1⟩
  have ho : oneP ts kd k = if x.1.k = kd then .ok (x.1.n, k + 1) else .error k := by unfold oneP; rw [hx]
  rw [ho]
  have HN := Lib.hid (fun W (h : PrK P g c ts k b W) => now_R W h hx)
  have HG := Lib.hid (fun W (h : PrK P g c ts k b W) => go1_R W h)
  have hl : x.1.k = kd → k + 1 < ts.length := fun e => hE k x hx (by rw [e]; exact h0)
  have F0 := fd0
  have F1 := fd1
  have hkl := Lib.hid h.2.2.2.1
  replace h := Lib.hid h
  clear ho c3 hx
  cases b
  · by_cases e1 : x.1.k = kd
    · have d1 : (x.1.k != kd) = false := by simp [e1]
      have hk := Lib.hid (hl e1)
      rw [if_pos e1]
      clear e1 hl
      go_enter Tryd.func44, Tryd.ntmps44
      go_wp2_with fail
      (with_reducible refine (HN.out w h.out).mono ?_)
      rintro e w2 ⟨rfl, hg2⟩
      have h2 := Lib.hid (PrK.kept h.out hg2)
      go_wp2_with fail
      (with_reducible refine (HN.out w2 h2.out).mono ?_)
      rintro e w3 ⟨rfl, hg3⟩
      have h3 := Lib.hid (PrK.kept h2.out hg3)
      go_wp2_with fail
      (with_reducible refine (HG.out w3 h3.out).mono ?_)
      rintro e w4 ⟨rfl, hP, hg⟩
      rw [if_neg (by simp), if_pos hk.out] at hP
      replace hP := Lib.hid hP
      clear HN HG
      go_wp2_with fail
      go_ret
      exact ⟨_, _, _, _, rfl, rfl, hP.out, grown_more (grownS (hg2.trans hg3)) hg, rfl⟩
    · have d1 : (x.1.k != kd) = true := by simp [e1]
      rw [if_neg e1]
      clear e1 hl
      go_enter Tryd.func44, Tryd.ntmps44
      go_wp2_with fail
      (with_reducible refine (HN.out w h.out).mono ?_)
      rintro e w2 ⟨rfl, hg2⟩
      have h2 := PrK.kept h.out hg2
      obtain ⟨y0, y1, y2, y3⟩ := h2.cells
      have z2 := y3 2
      have hput := Lib.hid (h2.put (j := 2) (v := .bool true) (k' := k) (b' := true) hkl.out rfl)
      have hG := Lib.hid (grown_more (grownS hg2) (set_grown w2 P 2 (.bool true)))
      clear HN HG y3 h2 hg2
      go_wp2_with fail
      go_ret
      exact ⟨_, 0, _, _, rfl, rfl, hput.out, hG.out, rfl⟩
  · have hput := Lib.hid (PrK.put h.out (j := 2) (v := .bool true) (k' := k) (b' := true) hkl.out rfl)
    have hG := Lib.hid (set_grown w P 2 (.bool true))
    clear hl HN HG
    show Calls _ _ _ _ (ToldS P g c ts _ (.error k) w)
    go_enter Tryd.func44, Tryd.ntmps44
    go_wp2_with fail
    go_ret
    exact ⟨_, 0, _, _, rfl, rfl, hput.out, hG.out, rfl⟩
set_option maxRecDepth 100000 in
set_option maxHeartbeats 1000000 in
theorem sign_R {P g c k : Nat} {b : Bool} {ts : List (Tk × Nat)} (w : World) (hE : EndsT ts) (cc : Int) (hc : 0 ≤ cc ∧ cc < 256) (h : PrK P g c ts k b w) :
    Calls Tryd.prog 73 #[.pointer (some ⟨P, 0, none⟩), .int .u8 cc] w (ToldS P g c ts (fun _ (n : Unit) u => u = .tuple #[]) (bd b k (mustP ts 5 cc k)) w) := by
  have HM := Lib.hid (may_R w hE cc hc h)
  have hk := h.2.2.2.1
  obtain ⟨x, hx⟩ : ∃ x, ts[k]? = some x := ⟨_, List.getElem?_eq_getElem hk⟩
  have ho : mustP ts 5 cc k = if mayP ts 5 cc k then .ok ((), k + 1) else .error k := by unfold mustP mayP; rw [hx]; simp
  obtain ⟨RES, hRES⟩ : ∃ r, bd b k (mustP ts 5 cc k) = r := ⟨_, rfl⟩
  rw [hRES]
  rw [ho] at hRES
  replace hRES := Lib.hid hRES
  obtain ⟨m, hm⟩ : ∃ m, (!b && mayP ts 5 cc k) = m := ⟨_, rfl⟩
  rw [hm] at HM
  replace hk := Lib.hid hk
  clear h hx ho
  cases m
  · replace hm := Lib.hid hm
    go_enter Tryd.func73, Tryd.ntmps73
    go_wp2_with fail
    (with_reducible refine HM.out.mono ?_)
    rintro e w2 ⟨rfl, hP, hg⟩
    replace hP : PrK P g c ts k b w2 := hP
    obtain ⟨c0, c1, c2, c3⟩ := hP.cells
    have f2 := c3 2
    have hput := Lib.hid (hP.put (j := 2) (v := .bool true) (k' := k) (b' := true) hk.out rfl)
    have hG := Lib.hid (grown_more hg (set_grown w2 P 2 (.bool true)))
    clear HM c3 hP hg
    go_wp2_with fail
    refine ⟨rfl, .tuple #[], by kernel_rfl, _, (), _, _, rfl, rfl, hput.out, hG.out, ?_⟩
    unfold St
    rw [if_pos rfl, ← hRES.out]
    unfold bd
    cases b
    · have h2 : mayP ts 5 cc k = false := by simpa using hm.out
      simp [h2]
    · rfl
  · obtain rfl : b = false := by simp at hm; exact hm.1
    have h2 : mayP ts 5 cc k = true := by simpa using hm
    have hR2 : RES = .ok ((), k + 1) := by rw [← hRES.out, h2]; rfl
    subst hR2
    clear hm h2 hRES
    go_enter Tryd.func73, Tryd.ntmps73
    go_wp2_with fail
    (with_reducible refine HM.out.mono ?_)
    rintro e w2 ⟨rfl, hP, hg⟩
    replace hP : PrK P g c ts (k + 1) false w2 := hP
    replace hP := Lib.hid hP
    clear HM
    go_wp2_with fail
    exact ⟨rfl, .tuple #[], by kernel_rfl, _, (), _, _, rfl, rfl, hP.out, hg, rfl⟩
theorem St.map {α β : Type} {b b1 : Bool} {k k1 : Nat} {r : Except Nat (α × Nat)} {v : α} (h : St (bd b k r) v k1 b1) (f : α → β) : St (bd b k (r.map fun x => (f x.1, x.2))) (f v) k1 b1 := by
  unfold St bd at *
  cases b
  · cases b1
    · simp only [Bool.false_eq_true, if_false] at h ⊢
      rw [h]
      rfl
    · simp only [Bool.false_eq_true, if_false, if_true] at h ⊢
      rw [h]
      rfl
  · cases b1
    · simp at h
    · simp only [if_true] at h ⊢
      cases h
      rfl
set_option maxRecDepth 100000 in
set_option maxHeartbeats 1000000 in
theorem more_R {P g c k : Nat} {b : Bool} {ts : List (Tk × Nat)} (w : World) (hE : EndsT ts) (h : PrK P g c ts k b w) :
    Calls Tryd.prog 111 #[.pointer (some ⟨P, 0, none⟩)] w (ToldS P g c ts (fun _ (n : Int) u => u = .int .i64 n) (bd b k (moreP ts k)) w) := by
  have M1 := Lib.hid (may_R w hE 43 (by decide) h)
  have hM2 := Lib.hid (fun w' (h' : PrK P g c ts k b w') => may_R w' hE 45 (by decide) h')
  have hMu := Lib.hid (fun w' (h' : PrK P g c ts (k + 1) b w') => must_R w' hE 1 (by decide) h')
  obtain ⟨RES, hRES⟩ : ∃ r, bd b k (moreP ts k) = r := ⟨_, rfl⟩
  rw [hRES]
  replace hRES := Lib.hid hRES
  clear h
  replace hE := Lib.hid hE
  obtain ⟨m1, hm1⟩ : ∃ m, (!b && mayP ts 5 43 k) = m := ⟨_, rfl⟩
  rw [hm1] at M1
  cases m1
  · obtain ⟨m2, hm2⟩ : ∃ m, (!b && mayP ts 5 45 k) = m := ⟨_, rfl⟩
    rw [hm2] at hM2
    replace hm1 := Lib.hid hm1
    replace hm2 := Lib.hid hm2
    go_enter Tryd.func111, Tryd.ntmps111
    go_wp2_with fail
    (with_reducible refine M1.out.mono ?_)
    rintro e w2 ⟨rfl, hP2, hg2⟩
    replace hP2 : PrK P g c ts k b w2 := hP2
    clear M1
    go_wp2_with fail
    (with_reducible refine (hM2.out w2 hP2).mono ?_)
    rintro e w3 ⟨rfl, hP3, hg3⟩
    clear hM2 hP2
    cases m2
    · replace hP3 : PrK P g c ts k b w3 := hP3
      replace hP3 := Lib.hid hP3
      clear hMu
      go_wp2_with fail
      go_ret
      refine ⟨_, 0, _, _, rfl, rfl, hP3.out, grown_more hg2 hg3, ?_⟩
      rw [← hRES.out]
      cases b
      · have a1 : mayP ts 5 43 k = false := by simpa using hm1.out
        have a2 : mayP ts 5 45 k = false := by simpa using hm2.out
        simp [St, bd, moreP, a1, a2]
      · rfl
    · replace hP3 : PrK P g c ts (k + 1) b w3 := hP3
      go_wp2_with fail
      (with_reducible refine (hMu.out w3 hP3).mono ?_)
      rintro e w4 ⟨u, v, k4, b4, rfl, rfl, hP4, hg4, hS4⟩
      clear hMu hP3
      replace hP4 := Lib.hid hP4
      replace hS4 := Lib.hid hS4
      go_wp2_with fail
      go_ret
      refine ⟨_, wrap64 (-v), _, _, rfl, rfl, hP4.out, grown_more hg2 (grown_more hg3 hg4), ?_⟩
      have hm2' := hm2.out
      have hm1' := hm1.out
      rw [← hRES.out]
      unfold moreP
      cases b
      · have a1 : mayP ts 5 43 k = false := by simpa using hm1'
        have a2 : mayP ts 5 45 k = true := by simpa using hm2'
        rw [a1, a2]
        exact (hS4.out.map fun v => wrap64 (-v))
      · simp at hm2'
  · replace hm1 := Lib.hid hm1
    clear hM2
    go_enter Tryd.func111, Tryd.ntmps111
    go_wp2_with fail
    (with_reducible refine M1.out.mono ?_)
    rintro e w2 ⟨rfl, hP2, hg2⟩
    replace hP2 : PrK P g c ts (k + 1) b w2 := hP2
    clear M1
    go_wp2_with fail
    (with_reducible refine (hMu.out w2 hP2).mono ?_)
    rintro e w4 ⟨u, v, k4, b4, rfl, rfl, hP4, hg4, hS4⟩
    clear hMu hP2
    replace hP4 := Lib.hid hP4
    replace hS4 := Lib.hid hS4
    go_wp2_with fail
    go_ret
    refine ⟨_, _, _, _, rfl, rfl, hP4.out, grown_more hg2 hg4, ?_⟩
    have hm1' := hm1.out
    rw [← hRES.out]
    unfold moreP
    cases b
    · have a1 : mayP ts 5 43 k = true := by simpa using hm1'
      rw [a1]
      exact hS4.out
    · simp at hm1'
def kindL (n : Int) : Int := if n = 19 then 1 else if n = 23 then 2 else if n = 24 then 3 else if n = 13 then 4 else if n = 3 then 5 else if n = 2 then 6 else 0
set_option maxRecDepth 100000 in
set_option maxHeartbeats 1000000 in
theorem kind_R (n : Int) (w : World) : Calls Tryd.prog 110 #[.int .i64 n] w fun e w' => e = .returned (.int .u8 (kindL n)) ∧ w' = w := by
  by_cases h1 : n = 19
  · subst h1
    go_enter Tryd.func110, Tryd.ntmps110
    go_wp2_with fail
    go_ret
    exact ⟨rfl, rfl⟩
  by_cases h2 : n = 23
  · subst h2
    go_enter Tryd.func110, Tryd.ntmps110
    go_wp2_with fail
    go_ret
    exact ⟨rfl, rfl⟩
  by_cases h3 : n = 24
  · subst h3
    go_enter Tryd.func110, Tryd.ntmps110
    go_wp2_with fail
    go_ret
    exact ⟨rfl, rfl⟩
  by_cases h4 : n = 13
  · subst h4
    go_enter Tryd.func110, Tryd.ntmps110
    go_wp2_with fail
    go_ret
    exact ⟨rfl, rfl⟩
  by_cases h5 : n = 3
  · subst h5
    go_enter Tryd.func110, Tryd.ntmps110
    go_wp2_with fail
    go_ret
    exact ⟨rfl, rfl⟩
  by_cases h6 : n = 2
  · subst h6
    go_enter Tryd.func110, Tryd.ntmps110
    go_wp2_with fail
    go_ret
    exact ⟨rfl, rfl⟩
  have hz : kindL n = 0 := by unfold kindL; simp [h1, h2, h3, h4, h5, h6]
  have d1 : (n == 19) = false := by simp [h1]
  have d2 : (n == 23) = false := by simp [h2]
  have d3 : (n == 24) = false := by simp [h3]
  have d4 : (n == 13) = false := by simp [h4]
  have d5 : (n == 3) = false := by simp [h5]
  have d6 : (n == 2) = false := by simp [h6]
  rw [hz]
  go_enter Tryd.func110, Tryd.ntmps110
  go_wp2_with fail
  go_ret
  exact ⟨rfl, rfl⟩
end Go.Proofs.YtkedifhlkiffoaaDoor
/- Contract of the document's own term, in the words of the reader's Lean function. -/
namespace Go.Proofs.YtkedifhlkiffoaaDoor
open Go.ChangeShapes Go.WideShapes Go.ChangeAt Go.RowKit
set_option linter.unusedVariables false
set_option linter.unusedSimpArgs false
attribute [local go_sem] Oper.semAt_some
set_option maxRecDepth 100000 in
set_option maxHeartbeats 2000000 in
theorem term_A {P g c k : Nat} {b : Bool} {ts : List (Tk × Nat)} (w : World) (hE : EndsT ts) (hA : b = true ∨ ¬ kindAt ts k = 2) (h : PrK P g c ts k b w) :
    Calls Tryd.prog 92 #[.pointer (some ⟨P, 0, none⟩)] w (ToldS P g c ts (fun _ n u => u = tmV4 n) (bd b k (termP ts k)) w) := by
  have hPl := h.lt
  have hgl := h.glt
  have hP0 := h.kept (World.grownBy_alloc w (.cells #[.int .u8 0, .int .i64 0, .int .i64 0, .int .i64 0] 46) none)
  have hgR := World.grownBy_alloc w (.cells #[.int .u8 0, .int .i64 0, .int .i64 0, .int .i64 0] 46) (some P)
  have bA := World.alloc_heap_new w (.cells #[.int .u8 0, .int .i64 0, .int .i64 0, .int .i64 0] 46)
  obtain ⟨S, hS⟩ : ∃ S, w.heap.size = S := ⟨_, rfl⟩
  obtain ⟨W0, hW0⟩ : ∃ W, w.alloc (.cells #[.int .u8 0, .int .i64 0, .int .i64 0, .int .i64 0] 46) = W := ⟨_, rfl⟩
  rw [hW0] at hP0 hgR bA
  rw [hS] at bA hPl hgl
  have s0 : w.heap.size ≤ S := by omega
  have n1 : S ≠ P := by omega
  have n3 : S ≠ g := by omega
  obtain ⟨x, hx⟩ : ∃ x, ts[k]? = some x := ⟨_, List.getElem?_eq_getElem h.2.2.2.1⟩
  have HN := Lib.hid (fun W (h : PrK P g c ts k b W) => now_R W h hx)
  have F0 := fd0
  have F1 := fd1
  have hka : kindAt ts k = x.1.k := by unfold kindAt; rw [hx]
  obtain ⟨RES, hRES⟩ : ∃ r, bd b k (termP ts k) = r := ⟨_, rfl⟩
  rw [hRES]
  replace hRES := Lib.hid hRES
  replace hE := Lib.hid hE
  clear hx h
  obtain ⟨c0, c1, c2, c3⟩ := hP0.cells
  clear c3
  cases b
  · replace hA : ¬ kindAt ts k = 2 := by rcases hA with hA | hA; cases hA; exact hA
    have d1 : (x.1.k != 2) = true := by rw [← hka]; simp [hA]
    replace hA := Lib.hid hA
    clear hka
    go_enter Tryd.func92, Tryd.ntmps92
    go_wp2_with fail
    (with_reducible refine (HN.out W0 hP0).mono ?_)
    rintro e w1 ⟨rfl, hg1⟩
    have hPA := hP0.kept hg1
    replace hgR := grown_more hgR (grownS hg1)
    replace bA := box_kept bA (grownS (R := P) hg1) n1
    clear HN hP0 hg1 c0 c1 c2
    obtain ⟨m, hm⟩ : ∃ m, (!false && mayP ts 5 45 k) = m := ⟨_, rfl⟩
    have M1 := Lib.hid (may_R _ hE.out 45 (by decide) hPA)
    rw [hm] at M1
    replace hm := Lib.hid hm
    go_wp2_with fail
    (with_reducible refine M1.out.mono ?_)
    rintro e w2 ⟨rfl, hP2, hg2⟩
    replace hgR := grown_more hgR hg2
    replace bA := box_kept bA hg2 n1
    clear M1 hPA hg2
    cases m
    · replace hP2 : PrK P g c ts k false w2 := hP2
      have M2 := Lib.hid (must_R w2 hE.out 1 (by decide) hP2)
      clear hP2
      go_wp2_with fail
      (with_reducible refine M2.out.mono ?_)
      rintro e w3 ⟨u, v, k3, b3, rfl, rfl, hPZ, hg3, hS3⟩
      replace hgR := grown_more hgR hg3
      replace bA := box_kept bA hg3 n1
      replace hS3 := Lib.hid hS3
      clear M2 hg3
      have a0 := bA
      have c0 : (w3).cell? ⟨S, 0, none⟩ = some (.int .u8 0) := by simp [World.cell?, a0]
      have f0 : (w3).frozen? ⟨S, 0, none⟩ = false := by simp [World.frozen?, a0]
      have a1 := box_set a0 0 (.int .u8 0)
      simp only [List.setIfInBounds_toArray, List.set_cons_zero, List.set_cons_succ] at a1
      have c1 : ((w3).setCell ⟨S, 0, none⟩ (.int .u8 0)).cell? ⟨S, 1, none⟩ = some (.int .i64 0) := by simp [World.cell?, a1]
      have f1 : ((w3).setCell ⟨S, 0, none⟩ (.int .u8 0)).frozen? ⟨S, 1, none⟩ = false := by simp [World.frozen?, a1]
      have a2 := box_set a1 1 (.int .i64 (v))
      simp only [List.setIfInBounds_toArray, List.set_cons_zero, List.set_cons_succ] at a2
      have c2 : (((w3).setCell ⟨S, 0, none⟩ (.int .u8 0)).setCell ⟨S, 1, none⟩ (.int .i64 (v))).cell? ⟨S, 2, none⟩ = some (.int .i64 0) := by simp [World.cell?, a2]
      have f2 : (((w3).setCell ⟨S, 0, none⟩ (.int .u8 0)).setCell ⟨S, 1, none⟩ (.int .i64 (v))).frozen? ⟨S, 2, none⟩ = false := by simp [World.frozen?, a2]
      have a3 := box_set a2 2 (.int .i64 0)
      simp only [List.setIfInBounds_toArray, List.set_cons_zero, List.set_cons_succ] at a3
      have c3 : ((((w3).setCell ⟨S, 0, none⟩ (.int .u8 0)).setCell ⟨S, 1, none⟩ (.int .i64 (v))).setCell ⟨S, 2, none⟩ (.int .i64 0)).cell? ⟨S, 3, none⟩ = some (.int .i64 0) := by simp [World.cell?, a3]
      have f3 : ((((w3).setCell ⟨S, 0, none⟩ (.int .u8 0)).setCell ⟨S, 1, none⟩ (.int .i64 (v))).setCell ⟨S, 2, none⟩ (.int .i64 0)).frozen? ⟨S, 3, none⟩ = false := by simp [World.frozen?, a3]
      have a4 := box_set a3 3 (.int .i64 0)
      simp only [List.setIfInBounds_toArray, List.set_cons_zero, List.set_cons_succ] at a4
      have hgZ := Lib.hid (grown_set (o := 3) (v := .int .i64 0) (grown_set (o := 2) (v := .int .i64 0) (grown_set (o := 1) (v := .int .i64 (v)) (grown_set (o := 0) (v := .int .u8 0) hgR s0) s0) s0) s0)
      have hPY := Lib.hid (PrK.far (o := 3) (v := .int .i64 0) (PrK.far (o := 2) (v := .int .i64 0) (PrK.far (o := 1) (v := .int .i64 (v)) (PrK.far (o := 0) (v := .int .u8 0) hPZ n1 n3) n1 n3) n1 n3) n1 n3)
      replace a4 := Lib.hid a4
      clear bA hgR hPZ a0 a1 a2 a3
      go_wp2_with fail
      refine bodyPost_ret (v := .agg #[.int .u8 0, .int .i64 (v), .int .i64 0, .int .i64 0]) (results_cell_row rfl _ _ S 46 _ (0, 0) _ rfl a4.out Tryd.underlying46 rfl (by kernel_rfl)) rfl ⟨_, (0, v, 0, 0), _, _, rfl, rfl, hPY.out, hgZ.out, ?_⟩
      rw [← hRES.out]
      have hm2 : mayP ts 5 45 k = false := by simpa using hm.out
      unfold termP
      rw [if_neg hA.out, hm2]
      exact hS3.out.map fun v => ((0, v, 0, 0) : Int × Int × Int × Int)
    · replace hP2 : PrK P g c ts (k + 1) false w2 := hP2
      have M2 := Lib.hid (must_R w2 hE.out 1 (by decide) hP2)
      clear hP2
      go_wp2_with fail
      (with_reducible refine M2.out.mono ?_)
      rintro e w3 ⟨u, v, k3, b3, rfl, rfl, hPZ, hg3, hS3⟩
      replace hgR := grown_more hgR hg3
      replace bA := box_kept bA hg3 n1
      replace hS3 := Lib.hid hS3
      clear M2 hg3
      have a0 := bA
      have c0 : (w3).cell? ⟨S, 0, none⟩ = some (.int .u8 0) := by simp [World.cell?, a0]
      have f0 : (w3).frozen? ⟨S, 0, none⟩ = false := by simp [World.frozen?, a0]
      have a1 := box_set a0 0 (.int .u8 0)
      simp only [List.setIfInBounds_toArray, List.set_cons_zero, List.set_cons_succ] at a1
      have c1 : ((w3).setCell ⟨S, 0, none⟩ (.int .u8 0)).cell? ⟨S, 1, none⟩ = some (.int .i64 0) := by simp [World.cell?, a1]
      have f1 : ((w3).setCell ⟨S, 0, none⟩ (.int .u8 0)).frozen? ⟨S, 1, none⟩ = false := by simp [World.frozen?, a1]
      have a2 := box_set a1 1 (.int .i64 (wrap64 (-v)))
      simp only [List.setIfInBounds_toArray, List.set_cons_zero, List.set_cons_succ] at a2
      have c2 : (((w3).setCell ⟨S, 0, none⟩ (.int .u8 0)).setCell ⟨S, 1, none⟩ (.int .i64 (wrap64 (-v)))).cell? ⟨S, 2, none⟩ = some (.int .i64 0) := by simp [World.cell?, a2]
      have f2 : (((w3).setCell ⟨S, 0, none⟩ (.int .u8 0)).setCell ⟨S, 1, none⟩ (.int .i64 (wrap64 (-v)))).frozen? ⟨S, 2, none⟩ = false := by simp [World.frozen?, a2]
      have a3 := box_set a2 2 (.int .i64 0)
      simp only [List.setIfInBounds_toArray, List.set_cons_zero, List.set_cons_succ] at a3
      have c3 : ((((w3).setCell ⟨S, 0, none⟩ (.int .u8 0)).setCell ⟨S, 1, none⟩ (.int .i64 (wrap64 (-v)))).setCell ⟨S, 2, none⟩ (.int .i64 0)).cell? ⟨S, 3, none⟩ = some (.int .i64 0) := by simp [World.cell?, a3]
      have f3 : ((((w3).setCell ⟨S, 0, none⟩ (.int .u8 0)).setCell ⟨S, 1, none⟩ (.int .i64 (wrap64 (-v)))).setCell ⟨S, 2, none⟩ (.int .i64 0)).frozen? ⟨S, 3, none⟩ = false := by simp [World.frozen?, a3]
      have a4 := box_set a3 3 (.int .i64 0)
      simp only [List.setIfInBounds_toArray, List.set_cons_zero, List.set_cons_succ] at a4
      have hgZ := Lib.hid (grown_set (o := 3) (v := .int .i64 0) (grown_set (o := 2) (v := .int .i64 0) (grown_set (o := 1) (v := .int .i64 (wrap64 (-v))) (grown_set (o := 0) (v := .int .u8 0) hgR s0) s0) s0) s0)
      have hPY := Lib.hid (PrK.far (o := 3) (v := .int .i64 0) (PrK.far (o := 2) (v := .int .i64 0) (PrK.far (o := 1) (v := .int .i64 (wrap64 (-v))) (PrK.far (o := 0) (v := .int .u8 0) hPZ n1 n3) n1 n3) n1 n3) n1 n3)
      replace a4 := Lib.hid a4
      clear bA hgR hPZ a0 a1 a2 a3
      go_wp2_with fail
      refine bodyPost_ret (v := .agg #[.int .u8 0, .int .i64 (wrap64 (-v)), .int .i64 0, .int .i64 0]) (results_cell_row rfl _ _ S 46 _ (0, 0) _ rfl a4.out Tryd.underlying46 rfl (by kernel_rfl)) rfl ⟨_, (0, wrap64 (-v), 0, 0), _, _, rfl, rfl, hPY.out, hgZ.out, ?_⟩
      rw [← hRES.out]
      have hm2 : mayP ts 5 45 k = true := by simpa using hm.out
      unfold termP
      rw [if_neg hA.out, hm2]
      exact hS3.out.map fun v => ((0, wrap64 (-v), 0, 0) : Int × Int × Int × Int)
  · have hPA := hP0
    clear hA hka HN hP0
    go_enter Tryd.func92, Tryd.ntmps92
    obtain ⟨m, hm⟩ : ∃ m, (!true && mayP ts 5 45 k) = m := ⟨_, rfl⟩
    have M1 := Lib.hid (may_R _ hE.out 45 (by decide) hPA)
    rw [hm] at M1
    replace hm := Lib.hid hm
    go_wp2_with fail
    (with_reducible refine M1.out.mono ?_)
    rintro e w2 ⟨rfl, hP2, hg2⟩
    replace hgR := grown_more hgR hg2
    replace bA := box_kept bA hg2 n1
    clear M1 hPA hg2
    cases m
    · replace hP2 : PrK P g c ts k true w2 := hP2
      have M2 := Lib.hid (must_R w2 hE.out 1 (by decide) hP2)
      clear hP2
      go_wp2_with fail
      (with_reducible refine M2.out.mono ?_)
      rintro e w3 ⟨u, v, k3, b3, rfl, rfl, hPZ, hg3, hS3⟩
      replace hgR := grown_more hgR hg3
      replace bA := box_kept bA hg3 n1
      replace hS3 := Lib.hid hS3
      clear M2 hg3
      have a0 := bA
      have c0 : (w3).cell? ⟨S, 0, none⟩ = some (.int .u8 0) := by simp [World.cell?, a0]
      have f0 : (w3).frozen? ⟨S, 0, none⟩ = false := by simp [World.frozen?, a0]
      have a1 := box_set a0 0 (.int .u8 0)
      simp only [List.setIfInBounds_toArray, List.set_cons_zero, List.set_cons_succ] at a1
      have c1 : ((w3).setCell ⟨S, 0, none⟩ (.int .u8 0)).cell? ⟨S, 1, none⟩ = some (.int .i64 0) := by simp [World.cell?, a1]
      have f1 : ((w3).setCell ⟨S, 0, none⟩ (.int .u8 0)).frozen? ⟨S, 1, none⟩ = false := by simp [World.frozen?, a1]
      have a2 := box_set a1 1 (.int .i64 (v))
      simp only [List.setIfInBounds_toArray, List.set_cons_zero, List.set_cons_succ] at a2
      have c2 : (((w3).setCell ⟨S, 0, none⟩ (.int .u8 0)).setCell ⟨S, 1, none⟩ (.int .i64 (v))).cell? ⟨S, 2, none⟩ = some (.int .i64 0) := by simp [World.cell?, a2]
      have f2 : (((w3).setCell ⟨S, 0, none⟩ (.int .u8 0)).setCell ⟨S, 1, none⟩ (.int .i64 (v))).frozen? ⟨S, 2, none⟩ = false := by simp [World.frozen?, a2]
      have a3 := box_set a2 2 (.int .i64 0)
      simp only [List.setIfInBounds_toArray, List.set_cons_zero, List.set_cons_succ] at a3
      have c3 : ((((w3).setCell ⟨S, 0, none⟩ (.int .u8 0)).setCell ⟨S, 1, none⟩ (.int .i64 (v))).setCell ⟨S, 2, none⟩ (.int .i64 0)).cell? ⟨S, 3, none⟩ = some (.int .i64 0) := by simp [World.cell?, a3]
      have f3 : ((((w3).setCell ⟨S, 0, none⟩ (.int .u8 0)).setCell ⟨S, 1, none⟩ (.int .i64 (v))).setCell ⟨S, 2, none⟩ (.int .i64 0)).frozen? ⟨S, 3, none⟩ = false := by simp [World.frozen?, a3]
      have a4 := box_set a3 3 (.int .i64 0)
      simp only [List.setIfInBounds_toArray, List.set_cons_zero, List.set_cons_succ] at a4
      have hgZ := Lib.hid (grown_set (o := 3) (v := .int .i64 0) (grown_set (o := 2) (v := .int .i64 0) (grown_set (o := 1) (v := .int .i64 (v)) (grown_set (o := 0) (v := .int .u8 0) hgR s0) s0) s0) s0)
      have hPY := Lib.hid (PrK.far (o := 3) (v := .int .i64 0) (PrK.far (o := 2) (v := .int .i64 0) (PrK.far (o := 1) (v := .int .i64 (v)) (PrK.far (o := 0) (v := .int .u8 0) hPZ n1 n3) n1 n3) n1 n3) n1 n3)
      replace a4 := Lib.hid a4
      clear bA hgR hPZ a0 a1 a2 a3
      go_wp2_with fail
      refine bodyPost_ret (v := .agg #[.int .u8 0, .int .i64 (v), .int .i64 0, .int .i64 0]) (results_cell_row rfl _ _ S 46 _ (0, 0) _ rfl a4.out Tryd.underlying46 rfl (by kernel_rfl)) rfl ⟨_, (0, v, 0, 0), _, _, rfl, rfl, hPY.out, hgZ.out, ?_⟩
      rw [← hRES.out]
      exact hS3.out.map fun v => ((0, v, 0, 0) : Int × Int × Int × Int)
    · have := hm.out
      simp at this
theorem kindL_cases (n : Int) : (n = 19 ∧ kindL n = 1) ∨ (n = 23 ∧ kindL n = 2) ∨ (n = 24 ∧ kindL n = 3) ∨ (n = 13 ∧ kindL n = 4) ∨ (n = 3 ∧ kindL n = 5) ∨ (n = 2 ∧ kindL n = 6) ∨ (n ≠ 19 ∧ n ≠ 23 ∧ n ≠ 24 ∧ n ≠ 13 ∧ n ≠ 3 ∧ n ≠ 2 ∧ kindL n = 0) := by
  unfold kindL
  repeat' split
  all_goals simp_all
section
variable {ts : List (Tk × Nat)} {k : Nat} {n KD : Int}
theorem named_none (h1 : oneP ts 2 k = .ok (n, k + 1)) (hA : kindAt ts k = 2) (h0 : kindL n = 0) {v : Int × Int × Int × Int} : St (bd false k (termP ts k)) v k true := by
  unfold termP
  rw [if_pos hA]
  unfold namedP
  rw [h1]
  rcases kindL_cases n with h | h | h | h | h | h | h
  all_goals first | (rw [h.2] at h0; cases h0) | skip
  simp [St, bd, h]
theorem named_is1 (h1 : oneP ts 2 k = .ok (n, k + 1)) (hA : kindAt ts k = 2) (hK : kindL n = KD) (h0 : KD ≠ 0) (h5 : ¬ 5 ≤ KD) : termP ts k = (ofOneP ts (k + 1)).map fun x => ((KD, x.1.1, x.1.2, 0), x.2) := by
  unfold termP
  rw [if_pos hA]
  unfold namedP
  rw [h1]
  subst hK
  rcases kindL_cases n with ⟨rfl, h⟩ | ⟨rfl, h⟩ | ⟨rfl, h⟩ | ⟨rfl, h⟩ | ⟨rfl, h⟩ | ⟨rfl, h⟩ | h
  all_goals first | (simp [h]; done) | (rw [h] at h5; exact absurd (by decide) h5) | exact absurd h.2.2.2.2.2.2 h0
theorem named_is2 (h1 : oneP ts 2 k = .ok (n, k + 1)) (hA : kindAt ts k = 2) (hK : kindL n = KD) (h5 : 5 ≤ KD) : termP ts k = (ofTwoP ts (k + 1)).map fun x => ((KD, x.1.1, x.1.2.1, x.1.2.2), x.2) := by
  unfold termP
  rw [if_pos hA]
  unfold namedP
  rw [h1]
  subst hK
  rcases kindL_cases n with ⟨rfl, h⟩ | ⟨rfl, h⟩ | ⟨rfl, h⟩ | ⟨rfl, h⟩ | ⟨rfl, h⟩ | ⟨rfl, h⟩ | h
  all_goals first | (rw [h] at h5; exact absurd h5 (by decide)) | (simp [h]; done) | (rw [h.2.2.2.2.2.2] at h5; exact absurd h5 (by decide))
theorem named_one (h1 : oneP ts 2 k = .ok (n, k + 1)) (hA : kindAt ts k = 2) (hK : kindL n = KD) (h0 : KD ≠ 0) (h5 : ¬ 5 ≤ KD)
    {k6 k7 k8 k9 : Nat} {b6 b7 b8 b9 : Bool} {v6 v8 : Unit} {v7 v9 : Int} (s6 : St (bd false (k + 1) (mustP ts 5 40 (k + 1))) v6 k6 b6) (s7 : St (bd b6 k6 (oneP ts 2 k6)) v7 k7 b7)
    (s8 : St (bd b7 k7 (mustP ts 5 41 k7)) v8 k8 b8) (s9 : St (bd b8 k8 (moreP ts k8)) v9 k9 b9) : St (bd false k (termP ts k)) (KD, v9, v7, 0) k9 b9 := by
  rw [named_is1 h1 hA hK h0 h5]
  simp only [St, bd] at s6 s7 s8 s9 ⊢
  unfold ofOneP
  cases b6 <;> cases b7 <;> cases b8 <;> cases b9 <;> simp_all [Except.map]
theorem named_two (h1 : oneP ts 2 k = .ok (n, k + 1)) (hA : kindAt ts k = 2) (hK : kindL n = KD) (h0 : KD ≠ 0) (h5 : 5 ≤ KD)
    {k6 k7 k8 k9 k10 k11 : Nat} {b6 b7 b8 b9 b10 b11 : Bool} {v6 v8 v10 : Unit} {v7 v9 v11 : Int} (s6 : St (bd false (k + 1) (mustP ts 5 40 (k + 1))) v6 k6 b6) (s7 : St (bd b6 k6 (oneP ts 2 k6)) v7 k7 b7)
    (s8 : St (bd b7 k7 (mustP ts 5 44 k7)) v8 k8 b8) (s9 : St (bd b8 k8 (oneP ts 2 k8)) v9 k9 b9) (s10 : St (bd b9 k9 (mustP ts 5 41 k9)) v10 k10 b10) (s11 : St (bd b10 k10 (moreP ts k10)) v11 k11 b11) :
    St (bd false k (termP ts k)) (KD, v11, v7, v9) k11 b11 := by
  rw [named_is2 h1 hA hK h5]
  simp only [St, bd] at s6 s7 s8 s9 s10 s11 ⊢
  unfold ofTwoP
  cases b6 <;> cases b7 <;> cases b8 <;> first | (simp at s7; done) | (simp at s8; done) | skip
  all_goals cases b9 <;> cases b10 <;> cases b11 <;> simp_all [Except.map]
end
set_option maxRecDepth 100000 in
set_option maxHeartbeats 1000000 in
theorem term_B {P g c k : Nat} {ts : List (Tk × Nat)} (w : World) (hE : EndsT ts) (hA : kindAt ts k = 2) (h : PrK P g c ts k false w) :
    Calls Tryd.prog 92 #[.pointer (some ⟨P, 0, none⟩)] w (ToldS P g c ts (fun _ n u => u = tmV4 n) (bd false k (termP ts k)) w) := by
  have hPl := h.lt
  have hgl := h.glt
  have hP0 := h.kept (World.grownBy_alloc w (.cells #[.int .u8 0, .int .i64 0, .int .i64 0, .int .i64 0] 46) none)
  have hgR := World.grownBy_alloc w (.cells #[.int .u8 0, .int .i64 0, .int .i64 0, .int .i64 0] 46) (some P)
  have bA := World.alloc_heap_new w (.cells #[.int .u8 0, .int .i64 0, .int .i64 0, .int .i64 0] 46)
  obtain ⟨S, hS⟩ : ∃ S, w.heap.size = S := ⟨_, rfl⟩
  obtain ⟨W0, hW0⟩ : ∃ W, w.alloc (.cells #[.int .u8 0, .int .i64 0, .int .i64 0, .int .i64 0] 46) = W := ⟨_, rfl⟩
  rw [hW0] at hP0 hgR bA
  rw [hS] at bA hPl hgl
  have s0 : w.heap.size ≤ S := by omega
  have n1 : S ≠ P := by omega
  have n3 : S ≠ g := by omega
  obtain ⟨x, hx⟩ : ∃ x, ts[k]? = some x := ⟨_, List.getElem?_eq_getElem h.2.2.2.1⟩
  have HN := Lib.hid (fun W (h : PrK P g c ts k false W) => now_R W h hx)
  have F0 := fd0
  have F1 := fd1
  have hka : kindAt ts k = x.1.k := by unfold kindAt; rw [hx]
  have d1 : (x.1.k != 2) = false := by rw [← hka, hA]; rfl
  obtain ⟨RES, hRES⟩ : ∃ r, bd false k (termP ts k) = r := ⟨_, rfl⟩
  rw [hRES]
  replace hRES := Lib.hid hRES
  have hk1 := Lib.hid (hE k x hx (by rw [← hka, hA]; decide))
  have hkl := Lib.hid h.2.2.2.1
  have h1P : oneP ts 2 k = .ok (x.1.n, k + 1) := by unfold oneP; rw [hx]; simp [← hka, hA]
  replace h1P := Lib.hid h1P
  replace hA := Lib.hid hA
  replace hE := Lib.hid hE
  clear hka h hx
  obtain ⟨c0, c1, c2, c3⟩ := hP0.cells
  clear c3
  go_enter Tryd.func92, Tryd.ntmps92
  go_wp2_with fail
  (with_reducible refine (HN.out W0 hP0).mono ?_)
  rintro e w1 ⟨rfl, hg1⟩
  have hP1 := hP0.kept hg1
  replace hgR := grown_more hgR (grownS hg1)
  replace bA := box_kept bA (grownS (R := P) hg1) n1
  clear hP0 hg1 c0 c1 c2
  go_wp2_with fail
  (with_reducible refine (HN.out w1 hP1).mono ?_)
  rintro e w2 ⟨rfl, hg2⟩
  have hP2 := hP1.kept hg2
  replace hgR := grown_more hgR (grownS hg2)
  replace bA := box_kept bA (grownS (R := P) hg2) n1
  clear hP1 hg2 HN F0
  go_wp2_with fail
  (with_reducible refine (kind_R x.1.n w2).mono ?_)
  rintro e w3 ⟨rfl, rfl⟩
  obtain ⟨KD, hKD⟩ : ∃ m, kindL x.1.n = m := ⟨_, rfl⟩
  rw [hKD]
  go_upto_region 8 with fail
  have q := World.grownBy_alloc w3 (.cells #[.int .u8 KD, .int .i64 0, .int .i64 0, .int .i64 0] 46)
  have n2 : w3.heap.size ≠ P := fun e => by have := hP2.lt; omega
  have n4 : w3.heap.size ≠ g := fun e => by have := hP2.glt; omega
  have n5 : S ≠ w3.heap.size := fun e => by have := (Array.getElem?_eq_some_iff.1 bA).1; omega
  have t0 : w.heap.size ≤ w3.heap.size := hgR.size
  have hP4 := hP2.kept (q none)
  replace hgR := grown_more hgR (q (some P))
  replace bA := box_kept bA (q (some P)) n1
  have bT := World.alloc_heap_new w3 (.cells #[.int .u8 KD, .int .i64 0, .int .i64 0, .int .i64 0] 46)
  obtain ⟨W4, hW4⟩ : ∃ W, w3.alloc (.cells #[.int .u8 KD, .int .i64 0, .int .i64 0, .int .i64 0] 46) = W := ⟨_, rfl⟩
  obtain ⟨T, hT⟩ : ∃ T, w3.heap.size = T := ⟨_, rfl⟩
  rw [hW4] at hP4 hgR bA bT
  rw [hT] at n2 n4 n5 t0 bT
  rw [hW4, hT]
  clear hW4 hT
  have e0 : W4.cell? ⟨T, 0, none⟩ = some (.int .u8 KD) := by simp [World.cell?, bT]
  replace hKD := Lib.hid hKD
  clear q hP2
  by_cases z : KD = 0
  · have d2 : (KD == 0) = true := by simp [z]
    obtain ⟨y0, y1, y2, y3⟩ := hP4.cells
    have y4 := y3 2
    replace hgR := grown_more hgR (set_grown W4 P 2 (.bool true))
    replace bA := box_far (o := 2) (v := .bool true) bA n1
    replace bT := box_far (o := 2) (v := .bool true) bT n2
    have hPZ := hP4.put (j := 2) (v := .bool true) (k' := k) (b' := true) hkl.out rfl
    have g0 : (W4.setCell ⟨P, 2, none⟩ (.bool true)).cell? ⟨T, 0, none⟩ = some (.int .u8 KD) := by simp [World.cell?, bT]
    have g1 : (W4.setCell ⟨P, 2, none⟩ (.bool true)).cell? ⟨T, 1, none⟩ = some (.int .i64 0) := by simp [World.cell?, bT]
    have g2 : (W4.setCell ⟨P, 2, none⟩ (.bool true)).cell? ⟨T, 2, none⟩ = some (.int .i64 0) := by simp [World.cell?, bT]
    have g3 : (W4.setCell ⟨P, 2, none⟩ (.bool true)).cell? ⟨T, 3, none⟩ = some (.int .i64 0) := by simp [World.cell?, bT]
    clear y0 y1 y3 hP4
    have a0 := bA
    have c0 : (W4.setCell ⟨P, 2, none⟩ (.bool true)).cell? ⟨S, 0, none⟩ = some (.int .u8 0) := by simp [World.cell?, a0]
    have f0 : (W4.setCell ⟨P, 2, none⟩ (.bool true)).frozen? ⟨S, 0, none⟩ = false := by simp [World.frozen?, a0]
    have a1 := box_set a0 0 (.int .u8 KD)
    simp only [List.setIfInBounds_toArray, List.set_cons_zero, List.set_cons_succ] at a1
    have c1 : ((W4.setCell ⟨P, 2, none⟩ (.bool true)).setCell ⟨S, 0, none⟩ (.int .u8 KD)).cell? ⟨S, 1, none⟩ = some (.int .i64 0) := by simp [World.cell?, a1]
    have f1 : ((W4.setCell ⟨P, 2, none⟩ (.bool true)).setCell ⟨S, 0, none⟩ (.int .u8 KD)).frozen? ⟨S, 1, none⟩ = false := by simp [World.frozen?, a1]
    have a2 := box_set a1 1 (.int .i64 0)
    simp only [List.setIfInBounds_toArray, List.set_cons_zero, List.set_cons_succ] at a2
    have c2 : (((W4.setCell ⟨P, 2, none⟩ (.bool true)).setCell ⟨S, 0, none⟩ (.int .u8 KD)).setCell ⟨S, 1, none⟩ (.int .i64 0)).cell? ⟨S, 2, none⟩ = some (.int .i64 0) := by simp [World.cell?, a2]
    have f2 : (((W4.setCell ⟨P, 2, none⟩ (.bool true)).setCell ⟨S, 0, none⟩ (.int .u8 KD)).setCell ⟨S, 1, none⟩ (.int .i64 0)).frozen? ⟨S, 2, none⟩ = false := by simp [World.frozen?, a2]
    have a3 := box_set a2 2 (.int .i64 0)
    simp only [List.setIfInBounds_toArray, List.set_cons_zero, List.set_cons_succ] at a3
    have c3 : ((((W4.setCell ⟨P, 2, none⟩ (.bool true)).setCell ⟨S, 0, none⟩ (.int .u8 KD)).setCell ⟨S, 1, none⟩ (.int .i64 0)).setCell ⟨S, 2, none⟩ (.int .i64 0)).cell? ⟨S, 3, none⟩ = some (.int .i64 0) := by simp [World.cell?, a3]
    have f3 : ((((W4.setCell ⟨P, 2, none⟩ (.bool true)).setCell ⟨S, 0, none⟩ (.int .u8 KD)).setCell ⟨S, 1, none⟩ (.int .i64 0)).setCell ⟨S, 2, none⟩ (.int .i64 0)).frozen? ⟨S, 3, none⟩ = false := by simp [World.frozen?, a3]
    have a4 := box_set a3 3 (.int .i64 0)
    simp only [List.setIfInBounds_toArray, List.set_cons_zero, List.set_cons_succ] at a4
    have hgZ := Lib.hid (grown_set (o := 3) (v := .int .i64 0) (grown_set (o := 2) (v := .int .i64 0) (grown_set (o := 1) (v := .int .i64 0) (grown_set (o := 0) (v := .int .u8 KD) hgR s0) s0) s0) s0)
    have hPY := Lib.hid (PrK.far (o := 3) (v := .int .i64 0) (PrK.far (o := 2) (v := .int .i64 0) (PrK.far (o := 1) (v := .int .i64 0) (PrK.far (o := 0) (v := .int .u8 KD) hPZ n1 n3) n1 n3) n1 n3) n1 n3)
    replace a4 := Lib.hid a4
    clear bA hgR hPZ a0 a1 a2 a3
    replace z := Lib.hid z
    go_wp2_with fail
    refine bodyPost_ret (v := .agg #[.int .u8 KD, .int .i64 0, .int .i64 0, .int .i64 0]) (results_cell_row rfl _ _ S 46 _ (0, 0) _ rfl a4.out Tryd.underlying46 rfl (by kernel_rfl)) rfl ⟨_, (KD, 0, 0, 0), _, _, rfl, rfl, hPY.out, hgZ.out, ?_⟩
    rw [← hRES.out]
    exact named_none h1P.out hA.out (hKD.out.trans z.out)
  have d2 : (KD == 0) = false := by simp [z]
  replace z := Lib.hid z
  have MG := Lib.hid (go1_R W4 hP4)
  clear hP4
  go_wp2_with fail
  (with_reducible refine MG.out.mono ?_)
  rintro e w5 ⟨rfl, hP5, hg⟩
  rw [if_neg (by simp), if_pos hk1.out] at hP5
  replace hgR := grown_more hgR hg
  replace bA := box_kept bA hg n1
  replace bT := box_kept bT hg n2
  clear MG hg e0
  have M6 := Lib.hid (sign_R w5 hE.out 40 (by decide) hP5)
  go_wp2_with fail
  (with_reducible refine M6.out.mono ?_)
  rintro e w6 ⟨u, v6, k6, b6, rfl, rfl, hP6, hg, hS6⟩
  replace hgR := grown_more hgR hg
  replace bA := box_kept bA hg n1
  replace bT := box_kept bT hg n2
  replace hS6 := Lib.hid hS6
  clear M6 hg hP5
  have M7 := Lib.hid (must_R w6 hE.out 2 (by decide) hP6)
  go_wp2_with fail
  (with_reducible refine M7.out.mono ?_)
  rintro e w7 ⟨u, v7, k7, b7, rfl, rfl, hP7, hg, hS7⟩
  replace hgR := grown_more hgR hg
  replace bA := box_kept bA hg n1
  replace bT := box_kept bT hg n2
  replace hS7 := Lib.hid hS7
  have q1 : w7.cell? ⟨T, 2, none⟩ = some (.int .i64 0) := by simp [World.cell?, bT]
  have q2 : w7.frozen? ⟨T, 2, none⟩ = false := by simp [World.frozen?, bT]
  replace hgR := grown_set (o := 2) (v := .int .i64 v7) hgR t0
  replace bA := box_far (o := 2) (v := .int .i64 v7) bA n5
  replace bT := box_set bT 2 (.int .i64 v7)
  simp only [List.setIfInBounds_toArray, List.set_cons_zero, List.set_cons_succ] at bT
  replace hP7 := hP7.far (o := 2) (v := .int .i64 v7) n2 n4
  clear M7 hg hP6
  go_upto_region 14 with fail
  clear q1 q2
  generalize w7.setCell ⟨T, 2, none⟩ (.int .i64 v7) = W7 at *
  have e7 : W7.cell? ⟨T, 0, none⟩ = some (.int .u8 KD) := by simp [World.cell?, bT]
  by_cases z5 : 5 ≤ KD
  · have d5 : decide (KD ≥ 5) = true := by simp [z5]
    have d6 : decide (5 ≤ KD) = true := by simp [z5]
    have M8 := Lib.hid (sign_R W7 hE.out 44 (by decide) hP7)
    go_wp2_with fail
    (with_reducible refine M8.out.mono ?_)
    rintro e w8 ⟨u, v8, k8, b8, rfl, rfl, hP8, hg, hS8⟩
    replace hgR := grown_more hgR hg
    replace bA := box_kept bA hg n1
    replace bT := box_kept bT hg n2
    replace hS8 := Lib.hid hS8
    clear M8 hg hP7
    have M9 := Lib.hid (must_R w8 hE.out 2 (by decide) hP8)
    go_wp2_with fail
    (with_reducible refine M9.out.mono ?_)
    rintro e w9 ⟨u, v9, k9, b9, rfl, rfl, hP9, hg, hS9⟩
    replace hgR := grown_more hgR hg
    replace bA := box_kept bA hg n1
    replace bT := box_kept bT hg n2
    replace hS9 := Lib.hid hS9
    have q1 : w9.cell? ⟨T, 3, none⟩ = some (.int .i64 0) := by simp [World.cell?, bT]
    have q2 : w9.frozen? ⟨T, 3, none⟩ = false := by simp [World.frozen?, bT]
    replace hgR := grown_set (o := 3) (v := .int .i64 v9) hgR t0
    replace bA := box_far (o := 3) (v := .int .i64 v9) bA n5
    replace bT := box_set bT 3 (.int .i64 v9)
    simp only [List.setIfInBounds_toArray, List.set_cons_zero, List.set_cons_succ] at bT
    replace hP9 := hP9.far (o := 3) (v := .int .i64 v9) n2 n4
    clear M9 hg hP8
    go_upto_region 17 with fail
    clear q1 q2
    generalize w9.setCell ⟨T, 3, none⟩ (.int .i64 v9) = W9 at *
    have M10 := Lib.hid (sign_R W9 hE.out 41 (by decide) hP9)
    go_wp2_with fail
    (with_reducible refine M10.out.mono ?_)
    rintro e w10 ⟨u, v10, k10, b10, rfl, rfl, hP10, hg, hS10⟩
    replace hgR := grown_more hgR hg
    replace bA := box_kept bA hg n1
    replace bT := box_kept bT hg n2
    replace hS10 := Lib.hid hS10
    clear M10 hg hP9
    have M11 := Lib.hid (more_R w10 hE.out hP10)
    go_wp2_with fail
    (with_reducible refine M11.out.mono ?_)
    rintro e w11 ⟨u, v11, k11, b11, rfl, rfl, hP11, hg, hS11⟩
    replace hgR := grown_more hgR hg
    replace bA := box_kept bA hg n1
    replace bT := box_kept bT hg n2
    replace hS11 := Lib.hid hS11
    have q1 : w11.cell? ⟨T, 1, none⟩ = some (.int .i64 0) := by simp [World.cell?, bT]
    have q2 : w11.frozen? ⟨T, 1, none⟩ = false := by simp [World.frozen?, bT]
    replace hgR := grown_set (o := 1) (v := .int .i64 v11) hgR t0
    replace bA := box_far (o := 1) (v := .int .i64 v11) bA n5
    replace bT := box_set bT 1 (.int .i64 v11)
    simp only [List.setIfInBounds_toArray, List.set_cons_zero, List.set_cons_succ] at bT
    replace hP11 := hP11.far (o := 1) (v := .int .i64 v11) n2 n4
    clear M11 hg hP10
    go_upto_region 19 with fail
    clear q1 q2
    generalize (w11.setCell ⟨T, 1, none⟩ (.int .i64 v11)) = WZ at *
    have g0 : WZ.cell? ⟨T, 0, none⟩ = some (.int .u8 KD) := by simp [World.cell?, bT]
    have g1 : WZ.cell? ⟨T, 1, none⟩ = some (.int .i64 v11) := by simp [World.cell?, bT]
    have g2 : WZ.cell? ⟨T, 2, none⟩ = some (.int .i64 v7) := by simp [World.cell?, bT]
    have g3 : WZ.cell? ⟨T, 3, none⟩ = some (.int .i64 v9) := by simp [World.cell?, bT]
    have hPZ := hP11
    clear hP11
    have a0 := bA
    have c0 : (WZ).cell? ⟨S, 0, none⟩ = some (.int .u8 0) := by simp [World.cell?, a0]
    have f0 : (WZ).frozen? ⟨S, 0, none⟩ = false := by simp [World.frozen?, a0]
    have a1 := box_set a0 0 (.int .u8 KD)
    simp only [List.setIfInBounds_toArray, List.set_cons_zero, List.set_cons_succ] at a1
    have c1 : ((WZ).setCell ⟨S, 0, none⟩ (.int .u8 KD)).cell? ⟨S, 1, none⟩ = some (.int .i64 0) := by simp [World.cell?, a1]
    have f1 : ((WZ).setCell ⟨S, 0, none⟩ (.int .u8 KD)).frozen? ⟨S, 1, none⟩ = false := by simp [World.frozen?, a1]
    have a2 := box_set a1 1 (.int .i64 v11)
    simp only [List.setIfInBounds_toArray, List.set_cons_zero, List.set_cons_succ] at a2
    have c2 : (((WZ).setCell ⟨S, 0, none⟩ (.int .u8 KD)).setCell ⟨S, 1, none⟩ (.int .i64 v11)).cell? ⟨S, 2, none⟩ = some (.int .i64 0) := by simp [World.cell?, a2]
    have f2 : (((WZ).setCell ⟨S, 0, none⟩ (.int .u8 KD)).setCell ⟨S, 1, none⟩ (.int .i64 v11)).frozen? ⟨S, 2, none⟩ = false := by simp [World.frozen?, a2]
    have a3 := box_set a2 2 (.int .i64 v7)
    simp only [List.setIfInBounds_toArray, List.set_cons_zero, List.set_cons_succ] at a3
    have c3 : ((((WZ).setCell ⟨S, 0, none⟩ (.int .u8 KD)).setCell ⟨S, 1, none⟩ (.int .i64 v11)).setCell ⟨S, 2, none⟩ (.int .i64 v7)).cell? ⟨S, 3, none⟩ = some (.int .i64 0) := by simp [World.cell?, a3]
    have f3 : ((((WZ).setCell ⟨S, 0, none⟩ (.int .u8 KD)).setCell ⟨S, 1, none⟩ (.int .i64 v11)).setCell ⟨S, 2, none⟩ (.int .i64 v7)).frozen? ⟨S, 3, none⟩ = false := by simp [World.frozen?, a3]
    have a4 := box_set a3 3 (.int .i64 v9)
    simp only [List.setIfInBounds_toArray, List.set_cons_zero, List.set_cons_succ] at a4
    have hgZ := Lib.hid (grown_set (o := 3) (v := .int .i64 v9) (grown_set (o := 2) (v := .int .i64 v7) (grown_set (o := 1) (v := .int .i64 v11) (grown_set (o := 0) (v := .int .u8 KD) hgR s0) s0) s0) s0)
    have hPY := Lib.hid (PrK.far (o := 3) (v := .int .i64 v9) (PrK.far (o := 2) (v := .int .i64 v7) (PrK.far (o := 1) (v := .int .i64 v11) (PrK.far (o := 0) (v := .int .u8 KD) hPZ n1 n3) n1 n3) n1 n3) n1 n3)
    replace a4 := Lib.hid a4
    clear bA hgR hPZ a0 a1 a2 a3
    go_wp2_with fail
    refine bodyPost_ret (v := .agg #[.int .u8 KD, .int .i64 v11, .int .i64 v7, .int .i64 v9]) (results_cell_row rfl _ _ S 46 _ (0, 0) _ rfl a4.out Tryd.underlying46 rfl (by kernel_rfl)) rfl ⟨_, (KD, v11, v7, v9), _, _, rfl, rfl, hPY.out, hgZ.out, ?_⟩
    rw [← hRES.out]
    exact named_two h1P.out hA.out hKD.out z.out z5 hS6.out hS7.out hS8.out hS9.out hS10.out hS11.out
  · have d5 : decide (KD ≥ 5) = false := by simp [z5]
    have d6 : decide (5 ≤ KD) = false := by simp [z5]
    have M8 := Lib.hid (sign_R W7 hE.out 41 (by decide) hP7)
    go_wp2_with fail
    (with_reducible refine M8.out.mono ?_)
    rintro e w8 ⟨u, v8, k8, b8, rfl, rfl, hP8, hg, hS8⟩
    replace hgR := grown_more hgR hg
    replace bA := box_kept bA hg n1
    replace bT := box_kept bT hg n2
    replace hS8 := Lib.hid hS8
    clear M8 hg hP7
    have M9 := Lib.hid (more_R w8 hE.out hP8)
    go_wp2_with fail
    (with_reducible refine M9.out.mono ?_)
    rintro e w9 ⟨u, v9, k9, b9, rfl, rfl, hP9, hg, hS9⟩
    replace hgR := grown_more hgR hg
    replace bA := box_kept bA hg n1
    replace bT := box_kept bT hg n2
    replace hS9 := Lib.hid hS9
    have q1 : w9.cell? ⟨T, 1, none⟩ = some (.int .i64 0) := by simp [World.cell?, bT]
    have q2 : w9.frozen? ⟨T, 1, none⟩ = false := by simp [World.frozen?, bT]
    replace hgR := grown_set (o := 1) (v := .int .i64 v9) hgR t0
    replace bA := box_far (o := 1) (v := .int .i64 v9) bA n5
    replace bT := box_set bT 1 (.int .i64 v9)
    simp only [List.setIfInBounds_toArray, List.set_cons_zero, List.set_cons_succ] at bT
    replace hP9 := hP9.far (o := 1) (v := .int .i64 v9) n2 n4
    clear M9 hg hP8
    go_upto_region 19 with fail
    clear q1 q2
    generalize (w9.setCell ⟨T, 1, none⟩ (.int .i64 v9)) = WZ at *
    have g0 : WZ.cell? ⟨T, 0, none⟩ = some (.int .u8 KD) := by simp [World.cell?, bT]
    have g1 : WZ.cell? ⟨T, 1, none⟩ = some (.int .i64 v9) := by simp [World.cell?, bT]
    have g2 : WZ.cell? ⟨T, 2, none⟩ = some (.int .i64 v7) := by simp [World.cell?, bT]
    have g3 : WZ.cell? ⟨T, 3, none⟩ = some (.int .i64 0) := by simp [World.cell?, bT]
    have hPZ := hP9
    clear hP9
    have a0 := bA
    have c0 : (WZ).cell? ⟨S, 0, none⟩ = some (.int .u8 0) := by simp [World.cell?, a0]
    have f0 : (WZ).frozen? ⟨S, 0, none⟩ = false := by simp [World.frozen?, a0]
    have a1 := box_set a0 0 (.int .u8 KD)
    simp only [List.setIfInBounds_toArray, List.set_cons_zero, List.set_cons_succ] at a1
    have c1 : ((WZ).setCell ⟨S, 0, none⟩ (.int .u8 KD)).cell? ⟨S, 1, none⟩ = some (.int .i64 0) := by simp [World.cell?, a1]
    have f1 : ((WZ).setCell ⟨S, 0, none⟩ (.int .u8 KD)).frozen? ⟨S, 1, none⟩ = false := by simp [World.frozen?, a1]
    have a2 := box_set a1 1 (.int .i64 v9)
    simp only [List.setIfInBounds_toArray, List.set_cons_zero, List.set_cons_succ] at a2
    have c2 : (((WZ).setCell ⟨S, 0, none⟩ (.int .u8 KD)).setCell ⟨S, 1, none⟩ (.int .i64 v9)).cell? ⟨S, 2, none⟩ = some (.int .i64 0) := by simp [World.cell?, a2]
    have f2 : (((WZ).setCell ⟨S, 0, none⟩ (.int .u8 KD)).setCell ⟨S, 1, none⟩ (.int .i64 v9)).frozen? ⟨S, 2, none⟩ = false := by simp [World.frozen?, a2]
    have a3 := box_set a2 2 (.int .i64 v7)
    simp only [List.setIfInBounds_toArray, List.set_cons_zero, List.set_cons_succ] at a3
    have c3 : ((((WZ).setCell ⟨S, 0, none⟩ (.int .u8 KD)).setCell ⟨S, 1, none⟩ (.int .i64 v9)).setCell ⟨S, 2, none⟩ (.int .i64 v7)).cell? ⟨S, 3, none⟩ = some (.int .i64 0) := by simp [World.cell?, a3]
    have f3 : ((((WZ).setCell ⟨S, 0, none⟩ (.int .u8 KD)).setCell ⟨S, 1, none⟩ (.int .i64 v9)).setCell ⟨S, 2, none⟩ (.int .i64 v7)).frozen? ⟨S, 3, none⟩ = false := by simp [World.frozen?, a3]
    have a4 := box_set a3 3 (.int .i64 0)
    simp only [List.setIfInBounds_toArray, List.set_cons_zero, List.set_cons_succ] at a4
    have hgZ := Lib.hid (grown_set (o := 3) (v := .int .i64 0) (grown_set (o := 2) (v := .int .i64 v7) (grown_set (o := 1) (v := .int .i64 v9) (grown_set (o := 0) (v := .int .u8 KD) hgR s0) s0) s0) s0)
    have hPY := Lib.hid (PrK.far (o := 3) (v := .int .i64 0) (PrK.far (o := 2) (v := .int .i64 v7) (PrK.far (o := 1) (v := .int .i64 v9) (PrK.far (o := 0) (v := .int .u8 KD) hPZ n1 n3) n1 n3) n1 n3) n1 n3)
    replace a4 := Lib.hid a4
    clear bA hgR hPZ a0 a1 a2 a3
    go_wp2_with fail
    refine bodyPost_ret (v := .agg #[.int .u8 KD, .int .i64 v9, .int .i64 v7, .int .i64 0]) (results_cell_row rfl _ _ S 46 _ (0, 0) _ rfl a4.out Tryd.underlying46 rfl (by kernel_rfl)) rfl ⟨_, (KD, v9, v7, 0), _, _, rfl, rfl, hPY.out, hgZ.out, ?_⟩
    rw [← hRES.out]
    exact named_one h1P.out hA.out hKD.out z.out (by omega) hS6.out hS7.out hS8.out hS9.out
theorem term_R {P g c k : Nat} {b : Bool} {ts : List (Tk × Nat)} (w : World) (hE : EndsT ts) (h : PrK P g c ts k b w) :
    Calls Tryd.prog 92 #[.pointer (some ⟨P, 0, none⟩)] w (ToldS P g c ts (fun _ n u => u = tmV4 n) (bd b k (termP ts k)) w) := by
  cases b
  · by_cases hA : kindAt ts k = 2
    · exact term_B w hE hA h
    · exact term_A w hE (.inr hA) h
  · exact term_A w hE (.inl rfl) h
end Go.Proofs.YtkedifhlkiffoaaDoor
/- Contract of the document's own cmp, in the words of the reader's Lean function. -/
namespace Go.Proofs.YtkedifhlkiffoaaDoor
open Go.ChangeShapes Go.WideShapes Go.ChangeAt Go.RowKit
set_option linter.unusedVariables false
set_option linter.unusedSimpArgs false
attribute [local go_sem] Oper.semAt_some
set_option maxRecDepth 100000 in
set_option maxHeartbeats 2000000 in
theorem cmp_R {P g c k : Nat} {b : Bool} {ts : List (Tk × Nat)} (w : World) (hE : EndsT ts) (h : PrK P g c ts k b w) :
    Calls Tryd.prog 74 #[.pointer (some ⟨P, 0, none⟩)] w (ToldS P g c ts (fun _ n u => u = cpV9 n) (bd b k (cmpP ts k)) w) := by
  have hPl := h.lt
  have hgl := h.glt
  have hP0 := h.kept (World.grownBy_alloc w (.cells #[.int .u8 0, .int .u8 0, .int .i64 0, .int .i64 0, .int .i64 0, .int .u8 0, .int .i64 0, .int .i64 0, .int .i64 0] 48) none)
  have hgR := World.grownBy_alloc w (.cells #[.int .u8 0, .int .u8 0, .int .i64 0, .int .i64 0, .int .i64 0, .int .u8 0, .int .i64 0, .int .i64 0, .int .i64 0] 48) (some P)
  have bA := World.alloc_heap_new w (.cells #[.int .u8 0, .int .u8 0, .int .i64 0, .int .i64 0, .int .i64 0, .int .u8 0, .int .i64 0, .int .i64 0, .int .i64 0] 48)
  obtain ⟨S, hS⟩ : ∃ S, w.heap.size = S := ⟨_, rfl⟩
  obtain ⟨W0, hW0⟩ : ∃ W, w.alloc (.cells #[.int .u8 0, .int .u8 0, .int .i64 0, .int .i64 0, .int .i64 0, .int .u8 0, .int .i64 0, .int .i64 0, .int .i64 0] 48) = W := ⟨_, rfl⟩
  rw [hW0] at hP0 hgR bA
  rw [hS] at bA hPl hgl
  have s0 : w.heap.size ≤ S := by omega
  have n1 : S ≠ P := by omega
  have n3 : S ≠ g := by omega
  obtain ⟨RES, hRES⟩ : ∃ r, bd b k (cmpP ts k) = r := ⟨_, rfl⟩
  rw [hRES]
  replace hRES := Lib.hid hRES
  replace hE := Lib.hid hE
  clear h
  have M1 := Lib.hid (term_R W0 hE.out hP0)
  go_enter Tryd.func74, Tryd.ntmps74
  go_wp2_with fail
  (with_reducible refine M1.out.mono ?_)
  rintro e w1 ⟨u, v1, k1, b1, rfl, rfl, hP1, hg1, hS1⟩
  replace hgR := grown_more hgR hg1
  replace bA := box_kept bA hg1 n1
  replace hS1 := Lib.hid hS1
  clear M1 hP0 hg1 hW0
  have q := World.grownBy_alloc w1 (.cells #[.int .u8 v1.1, .int .i64 v1.2.1, .int .i64 v1.2.2.1, .int .i64 v1.2.2.2] 46)
  have n2 : w1.heap.size ≠ P := fun e => by have := hP1.lt; omega
  have bL := World.alloc_heap_new w1 (.cells #[.int .u8 v1.1, .int .i64 v1.2.1, .int .i64 v1.2.2.1, .int .i64 v1.2.2.2] 46)
  replace hP1 := hP1.kept (q none)
  replace hgR := grown_more hgR (q (some P))
  replace bA := box_kept bA (q (some P)) n1
  go_upto_region 2 with fail
  obtain ⟨L, hL⟩ : ∃ L, w1.heap.size = L := ⟨_, rfl⟩
  rw [hL] at bL n2 ⊢
  generalize w1.alloc (.cells #[.int .u8 v1.1, .int .i64 v1.2.1, .int .i64 v1.2.2.1, .int .i64 v1.2.2.2] 46) = W1 at *
  clear q hL
  have M2 := Lib.hid (must_R W1 hE.out 4 (by decide) hP1)
  go_wp2_with fail
  (with_reducible refine M2.out.mono ?_)
  rintro e w2 ⟨u, v2, k2, b2, rfl, rfl, hP2, hg2, hS2⟩
  replace hgR := grown_more hgR hg2
  replace bA := box_kept bA hg2 n1
  replace bL := box_kept bL hg2 n2
  replace hS2 := Lib.hid hS2
  clear M2 hP1 hg2
  have M3 := Lib.hid (term_R w2 hE.out hP2)
  go_wp2_with fail
  (with_reducible refine M3.out.mono ?_)
  rintro e w3 ⟨u, v3, k3, b3, rfl, rfl, hP3, hg3, hS3⟩
  replace hgR := grown_more hgR hg3
  replace bA := box_kept bA hg3 n1
  replace bL := box_kept bL hg3 n2
  replace hS3 := Lib.hid hS3
  clear M3 hP2 hg3
  have q := World.grownBy_alloc w3 (.cells #[.int .u8 v3.1, .int .i64 v3.2.1, .int .i64 v3.2.2.1, .int .i64 v3.2.2.2] 46)
  have bR := World.alloc_heap_new w3 (.cells #[.int .u8 v3.1, .int .i64 v3.2.1, .int .i64 v3.2.2.1, .int .i64 v3.2.2.2] 46)
  replace hP3 := hP3.kept (q none)
  replace hgR := grown_more hgR (q (some P))
  replace bA := box_kept bA (q (some P)) n1
  replace bL := box_kept bL (q (some P)) n2
  go_upto_region 4 with fail
  obtain ⟨R, hR⟩ : ∃ R, w3.heap.size = R := ⟨_, rfl⟩
  rw [hR] at bR ⊢
  generalize w3.alloc (.cells #[.int .u8 v3.1, .int .i64 v3.2.1, .int .i64 v3.2.2.1, .int .i64 v3.2.2.2] 46) = W3 at *
  clear q hR
  have l0 : W3.cell? ⟨L, 0, none⟩ = some (.int .u8 v1.1) := by simp [World.cell?, bL]
  have l1 : W3.cell? ⟨L, 1, none⟩ = some (.int .i64 v1.2.1) := by simp [World.cell?, bL]
  have l2 : W3.cell? ⟨L, 2, none⟩ = some (.int .i64 v1.2.2.1) := by simp [World.cell?, bL]
  have l3 : W3.cell? ⟨L, 3, none⟩ = some (.int .i64 v1.2.2.2) := by simp [World.cell?, bL]
  have r0 : W3.cell? ⟨R, 0, none⟩ = some (.int .u8 v3.1) := by simp [World.cell?, bR]
  have r1 : W3.cell? ⟨R, 1, none⟩ = some (.int .i64 v3.2.1) := by simp [World.cell?, bR]
  have r2 : W3.cell? ⟨R, 2, none⟩ = some (.int .i64 v3.2.2.1) := by simp [World.cell?, bR]
  have r3 : W3.cell? ⟨R, 3, none⟩ = some (.int .i64 v3.2.2.2) := by simp [World.cell?, bR]
  have a0 := bA
  have c0 : (W3).cell? ⟨S, 0, none⟩ = some (.int .u8 0) := by simp [World.cell?, a0]
  have f0 : (W3).frozen? ⟨S, 0, none⟩ = false := by simp [World.frozen?, a0]
  have a1 := box_set a0 0 (.int .u8 (v2 % 256))
  simp only [List.setIfInBounds_toArray, List.set_cons_zero, List.set_cons_succ] at a1
  have c1 : ((W3).setCell ⟨S, 0, none⟩ (.int .u8 (v2 % 256))).cell? ⟨S, 1, none⟩ = some (.int .u8 0) := by simp [World.cell?, a1]
  have f1 : ((W3).setCell ⟨S, 0, none⟩ (.int .u8 (v2 % 256))).frozen? ⟨S, 1, none⟩ = false := by simp [World.frozen?, a1]
  have a2 := box_set a1 1 (.int .u8 v1.1)
  simp only [List.setIfInBounds_toArray, List.set_cons_zero, List.set_cons_succ] at a2
  have c2 : (((W3).setCell ⟨S, 0, none⟩ (.int .u8 (v2 % 256))).setCell ⟨S, 1, none⟩ (.int .u8 v1.1)).cell? ⟨S, 2, none⟩ = some (.int .i64 0) := by simp [World.cell?, a2]
  have f2 : (((W3).setCell ⟨S, 0, none⟩ (.int .u8 (v2 % 256))).setCell ⟨S, 1, none⟩ (.int .u8 v1.1)).frozen? ⟨S, 2, none⟩ = false := by simp [World.frozen?, a2]
  have a3 := box_set a2 2 (.int .i64 v1.2.1)
  simp only [List.setIfInBounds_toArray, List.set_cons_zero, List.set_cons_succ] at a3
  have c3 : ((((W3).setCell ⟨S, 0, none⟩ (.int .u8 (v2 % 256))).setCell ⟨S, 1, none⟩ (.int .u8 v1.1)).setCell ⟨S, 2, none⟩ (.int .i64 v1.2.1)).cell? ⟨S, 3, none⟩ = some (.int .i64 0) := by simp [World.cell?, a3]
  have f3 : ((((W3).setCell ⟨S, 0, none⟩ (.int .u8 (v2 % 256))).setCell ⟨S, 1, none⟩ (.int .u8 v1.1)).setCell ⟨S, 2, none⟩ (.int .i64 v1.2.1)).frozen? ⟨S, 3, none⟩ = false := by simp [World.frozen?, a3]
  have a4 := box_set a3 3 (.int .i64 v1.2.2.1)
  simp only [List.setIfInBounds_toArray, List.set_cons_zero, List.set_cons_succ] at a4
  have c4 : (((((W3).setCell ⟨S, 0, none⟩ (.int .u8 (v2 % 256))).setCell ⟨S, 1, none⟩ (.int .u8 v1.1)).setCell ⟨S, 2, none⟩ (.int .i64 v1.2.1)).setCell ⟨S, 3, none⟩ (.int .i64 v1.2.2.1)).cell? ⟨S, 4, none⟩ = some (.int .i64 0) := by simp [World.cell?, a4]
  have f4 : (((((W3).setCell ⟨S, 0, none⟩ (.int .u8 (v2 % 256))).setCell ⟨S, 1, none⟩ (.int .u8 v1.1)).setCell ⟨S, 2, none⟩ (.int .i64 v1.2.1)).setCell ⟨S, 3, none⟩ (.int .i64 v1.2.2.1)).frozen? ⟨S, 4, none⟩ = false := by simp [World.frozen?, a4]
  have a5 := box_set a4 4 (.int .i64 v1.2.2.2)
  simp only [List.setIfInBounds_toArray, List.set_cons_zero, List.set_cons_succ] at a5
  have c5 : ((((((W3).setCell ⟨S, 0, none⟩ (.int .u8 (v2 % 256))).setCell ⟨S, 1, none⟩ (.int .u8 v1.1)).setCell ⟨S, 2, none⟩ (.int .i64 v1.2.1)).setCell ⟨S, 3, none⟩ (.int .i64 v1.2.2.1)).setCell ⟨S, 4, none⟩ (.int .i64 v1.2.2.2)).cell? ⟨S, 5, none⟩ = some (.int .u8 0) := by simp [World.cell?, a5]
  have f5 : ((((((W3).setCell ⟨S, 0, none⟩ (.int .u8 (v2 % 256))).setCell ⟨S, 1, none⟩ (.int .u8 v1.1)).setCell ⟨S, 2, none⟩ (.int .i64 v1.2.1)).setCell ⟨S, 3, none⟩ (.int .i64 v1.2.2.1)).setCell ⟨S, 4, none⟩ (.int .i64 v1.2.2.2)).frozen? ⟨S, 5, none⟩ = false := by simp [World.frozen?, a5]
  have a6 := box_set a5 5 (.int .u8 v3.1)
  simp only [List.setIfInBounds_toArray, List.set_cons_zero, List.set_cons_succ] at a6
  have c6 : (((((((W3).setCell ⟨S, 0, none⟩ (.int .u8 (v2 % 256))).setCell ⟨S, 1, none⟩ (.int .u8 v1.1)).setCell ⟨S, 2, none⟩ (.int .i64 v1.2.1)).setCell ⟨S, 3, none⟩ (.int .i64 v1.2.2.1)).setCell ⟨S, 4, none⟩ (.int .i64 v1.2.2.2)).setCell ⟨S, 5, none⟩ (.int .u8 v3.1)).cell? ⟨S, 6, none⟩ = some (.int .i64 0) := by simp [World.cell?, a6]
  have f6 : (((((((W3).setCell ⟨S, 0, none⟩ (.int .u8 (v2 % 256))).setCell ⟨S, 1, none⟩ (.int .u8 v1.1)).setCell ⟨S, 2, none⟩ (.int .i64 v1.2.1)).setCell ⟨S, 3, none⟩ (.int .i64 v1.2.2.1)).setCell ⟨S, 4, none⟩ (.int .i64 v1.2.2.2)).setCell ⟨S, 5, none⟩ (.int .u8 v3.1)).frozen? ⟨S, 6, none⟩ = false := by simp [World.frozen?, a6]
  have a7 := box_set a6 6 (.int .i64 v3.2.1)
  simp only [List.setIfInBounds_toArray, List.set_cons_zero, List.set_cons_succ] at a7
  have c7 : ((((((((W3).setCell ⟨S, 0, none⟩ (.int .u8 (v2 % 256))).setCell ⟨S, 1, none⟩ (.int .u8 v1.1)).setCell ⟨S, 2, none⟩ (.int .i64 v1.2.1)).setCell ⟨S, 3, none⟩ (.int .i64 v1.2.2.1)).setCell ⟨S, 4, none⟩ (.int .i64 v1.2.2.2)).setCell ⟨S, 5, none⟩ (.int .u8 v3.1)).setCell ⟨S, 6, none⟩ (.int .i64 v3.2.1)).cell? ⟨S, 7, none⟩ = some (.int .i64 0) := by simp [World.cell?, a7]
  have f7 : ((((((((W3).setCell ⟨S, 0, none⟩ (.int .u8 (v2 % 256))).setCell ⟨S, 1, none⟩ (.int .u8 v1.1)).setCell ⟨S, 2, none⟩ (.int .i64 v1.2.1)).setCell ⟨S, 3, none⟩ (.int .i64 v1.2.2.1)).setCell ⟨S, 4, none⟩ (.int .i64 v1.2.2.2)).setCell ⟨S, 5, none⟩ (.int .u8 v3.1)).setCell ⟨S, 6, none⟩ (.int .i64 v3.2.1)).frozen? ⟨S, 7, none⟩ = false := by simp [World.frozen?, a7]
  have a8 := box_set a7 7 (.int .i64 v3.2.2.1)
  simp only [List.setIfInBounds_toArray, List.set_cons_zero, List.set_cons_succ] at a8
  have c8 : (((((((((W3).setCell ⟨S, 0, none⟩ (.int .u8 (v2 % 256))).setCell ⟨S, 1, none⟩ (.int .u8 v1.1)).setCell ⟨S, 2, none⟩ (.int .i64 v1.2.1)).setCell ⟨S, 3, none⟩ (.int .i64 v1.2.2.1)).setCell ⟨S, 4, none⟩ (.int .i64 v1.2.2.2)).setCell ⟨S, 5, none⟩ (.int .u8 v3.1)).setCell ⟨S, 6, none⟩ (.int .i64 v3.2.1)).setCell ⟨S, 7, none⟩ (.int .i64 v3.2.2.1)).cell? ⟨S, 8, none⟩ = some (.int .i64 0) := by simp [World.cell?, a8]
  have f8 : (((((((((W3).setCell ⟨S, 0, none⟩ (.int .u8 (v2 % 256))).setCell ⟨S, 1, none⟩ (.int .u8 v1.1)).setCell ⟨S, 2, none⟩ (.int .i64 v1.2.1)).setCell ⟨S, 3, none⟩ (.int .i64 v1.2.2.1)).setCell ⟨S, 4, none⟩ (.int .i64 v1.2.2.2)).setCell ⟨S, 5, none⟩ (.int .u8 v3.1)).setCell ⟨S, 6, none⟩ (.int .i64 v3.2.1)).setCell ⟨S, 7, none⟩ (.int .i64 v3.2.2.1)).frozen? ⟨S, 8, none⟩ = false := by simp [World.frozen?, a8]
  have a9 := box_set a8 8 (.int .i64 v3.2.2.2)
  simp only [List.setIfInBounds_toArray, List.set_cons_zero, List.set_cons_succ] at a9
  have hgZ := hgR
  have hPY := hP3
  replace hgZ := grown_set (o := 0) (v := .int .u8 (v2 % 256)) hgZ s0
  replace hPY := PrK.far (o := 0) (v := .int .u8 (v2 % 256)) hPY n1 n3
  replace hgZ := grown_set (o := 1) (v := .int .u8 v1.1) hgZ s0
  replace hPY := PrK.far (o := 1) (v := .int .u8 v1.1) hPY n1 n3
  replace hgZ := grown_set (o := 2) (v := .int .i64 v1.2.1) hgZ s0
  replace hPY := PrK.far (o := 2) (v := .int .i64 v1.2.1) hPY n1 n3
  replace hgZ := grown_set (o := 3) (v := .int .i64 v1.2.2.1) hgZ s0
  replace hPY := PrK.far (o := 3) (v := .int .i64 v1.2.2.1) hPY n1 n3
  replace hgZ := grown_set (o := 4) (v := .int .i64 v1.2.2.2) hgZ s0
  replace hPY := PrK.far (o := 4) (v := .int .i64 v1.2.2.2) hPY n1 n3
  replace hgZ := grown_set (o := 5) (v := .int .u8 v3.1) hgZ s0
  replace hPY := PrK.far (o := 5) (v := .int .u8 v3.1) hPY n1 n3
  replace hgZ := grown_set (o := 6) (v := .int .i64 v3.2.1) hgZ s0
  replace hPY := PrK.far (o := 6) (v := .int .i64 v3.2.1) hPY n1 n3
  replace hgZ := grown_set (o := 7) (v := .int .i64 v3.2.2.1) hgZ s0
  replace hPY := PrK.far (o := 7) (v := .int .i64 v3.2.2.1) hPY n1 n3
  replace hgZ := grown_set (o := 8) (v := .int .i64 v3.2.2.2) hgZ s0
  replace hPY := PrK.far (o := 8) (v := .int .i64 v3.2.2.2) hPY n1 n3
  replace hgZ := Lib.hid hgZ
  replace hPY := Lib.hid hPY
  replace a9 := Lib.hid a9
  clear bA hgR hP3 a0 a1 a2 a3 a4 a5 a6 a7 a8 bL bR
  go_wp2_with fail
  refine bodyPost_ret (v := .agg #[.int .u8 (v2 % 256), .int .u8 v1.1, .int .i64 v1.2.1, .int .i64 v1.2.2.1, .int .i64 v1.2.2.2, .int .u8 v3.1, .int .i64 v3.2.1, .int .i64 v3.2.2.1, .int .i64 v3.2.2.2]) (results_cell_row rfl _ _ S 48 _ (0, 0) _ rfl a9.out Tryd.underlying48 rfl (by kernel_rfl)) rfl ⟨_, (v2 % 256, v1, v3), _, _, rfl, rfl, hPY.out, hgZ.out, ?_⟩
  rw [← hRES.out]
  have q1 := hS1.out
  have q2 := hS2.out
  have q3 := hS3.out
  simp only [St, bd] at q1 q2 q3 ⊢
  unfold cmpP
  cases b <;> cases b1 <;> cases b2 <;> cases b3 <;> simp_all
end Go.Proofs.YtkedifhlkiffoaaDoor
/- Contract of the document's own step, in the words of the reader's Lean function. -/
namespace Go.Proofs.YtkedifhlkiffoaaDoor
open Go.ChangeShapes Go.WideShapes Go.ChangeAt Go.RowKit
open Tree (Tm Cp Sp)
set_option linter.unusedVariables false
set_option linter.unusedSimpArgs false
attribute [local go_sem] Oper.semAt_some
theorem step_pure {ts : List (Tk × Nat)} {i : Int} {strict b b2 b3 b4 b5 m1 : Bool} {k k1 k2 k3 k4 k5 : Nat} {v2 mn mx : Int} {cs : List Cp} (h0 : (!b && mayP ts 5 33 k) = m1) (h1 : (if m1 = true then k + 1 else k) = k1)
    (s2 : St (bd b k1 (oneP ts 1 k1)) v2 k2 b2) (s3 : St (bd b2 k2 (mustP ts 2 i k2)) () k3 b3) (s4 : St (bd b3 k3 (timesP ts k3)) (mn, mx) k4 b4) (s5 : St (bd b4 k4 (listP ts k4)) cs k5 b5) :
    St (bd b k (stepP ts i strict k)) (⟨m1, v2, mn, mx, strict, cs⟩ : Sp) k5 b5 := by
  cases b
  · have e0 : mayP ts 5 33 k = m1 := by simpa using h0
    have e1 : mayK ts 33 k = k1 := by unfold mayK; rw [e0]; exact h1
    unfold stepP
    rw [e1, e0]
    simp only [St, bd] at s2 s3 s4 s5 ⊢
    cases b2 <;> cases b3 <;> cases b4 <;> cases b5 <;> simp_all
  · obtain rfl : m1 = false := by simpa using h0.symm
    simp only [Bool.false_eq_true, if_false] at h1
    subst h1
    simp only [St, bd] at s2 s3 s4 s5 ⊢
    cases b2 <;> cases b3 <;> cases b4 <;> cases b5 <;> simp_all
/-- Behind the append of a comparison: what lies where, once more. -/
theorem cps_app {w wd w1 w2 : World} {P g c k S B g2 cap2 : Nat} {ts : List (Tk × Nat)} {b m1 strict : Bool} {v2 mn mx : Int} {l : List Cp} {x : Cp} {va : Option Addr} {vc : Nat} {o : Obj}
    (hgd : w.grownBy wd (some P)) (hg1 : wd.grownBy w1 (some P)) (hO2 : OwnC (w1.alloc o) (B + 1) (.slice va l.length vc) l)
    (hgrow : (w1.alloc o).grownBy w2 (Value.ownBlock (.slice va l.length vc))) (hown : w2.ownsRow (B + 1) 48 9 (.slice (some ⟨g2, 0, none⟩) (l.length + 1) cap2) (l.length + 1) (Tree.cpsCells l ++ [.int .u8 x.op, .int .u8 x.l.k, .int .i64 x.l.n, .int .i64 x.l.s, .int .i64 x.l.r, .int .u8 x.r.k, .int .i64 x.r.n, .int .i64 x.r.s, .int .i64 x.r.r]))
    (hB1 : w1.heap[B]? = some (.cells #[.bool m1, .int .i64 v2, .int .i64 mn, .int .i64 mx, .bool strict, .slice va l.length vc] 39 (0, 0))) (hA1 : w1.heap[S]? = some (.cells #[.bool false, .int .i64 0, .int .i64 0, .int .i64 0, .bool false, .slice none 0 0] 39 (0, 0))) (hP1 : PrK P g c ts k b w1) (hPl : P < S) (hgl : g < S) (hSB : S < B) (hS : w.heap.size ≤ S) :
    w2.cell? ⟨B, 5, none⟩ = some (.slice va l.length vc) ∧ w2.frozen? ⟨B, 5, none⟩ = false ∧
      PrK P g c ts k b (w2.setCell ⟨B, 5, none⟩ (.slice (some ⟨g2, 0, none⟩) (l.length + 1) cap2)) ∧ w.grownBy (w2.setCell ⟨B, 5, none⟩ (.slice (some ⟨g2, 0, none⟩) (l.length + 1) cap2)) (some P) ∧
      (w2.setCell ⟨B, 5, none⟩ (.slice (some ⟨g2, 0, none⟩) (l.length + 1) cap2)).heap[S]? = some (.cells #[.bool false, .int .i64 0, .int .i64 0, .int .i64 0, .bool false, .slice none 0 0] 39 (0, 0)) ∧
      (w2.setCell ⟨B, 5, none⟩ (.slice (some ⟨g2, 0, none⟩) (l.length + 1) cap2)).heap[B]? = some (.cells #[.bool m1, .int .i64 v2, .int .i64 mn, .int .i64 mx, .bool strict, .slice (some ⟨g2, 0, none⟩) (l.length + 1) cap2] 39 (0, 0)) ∧
      OwnC (w2.setCell ⟨B, 5, none⟩ (.slice (some ⟨g2, 0, none⟩) (l.length + 1) cap2)) (B + 1) (.slice (some ⟨g2, 0, none⟩) (l.length + 1) cap2) (l ++ [x]) := by
  have hrow : ∀ q, Value.ownBlock (.slice va l.length vc) = some q → B + 1 ≤ q := fun q hq => (hO2.lt q hq).1
  have hA2 := (World.grownBy_alloc w1 o none)
  have hBl := (Array.getElem?_eq_some_iff.1 hB1).1
  have keep : ∀ q, q < B + 1 → w2.heap[q]? = w1.heap[q]? := fun q hq => (hgrow.block q (by simp; omega) (fun e => by have := hrow q e.symm; omega)).trans (hA2.block q (by omega) (by simp))
  have hB2 := (keep B (by omega)).trans hB1
  have hA3 := (keep S (by omega)).trans hA1
  have hPw2 : PrK P g c ts k b w2 := (hP1.kept hA2).keptRow hgrow (fun e => by have := hrow P e.symm; omega) (fun e => by have := hrow g e.symm; omega)
  have hg2 : w.grownBy w2 (some P) := grown_app (grown_more (grown_more hgd hg1) (World.grownBy_alloc w1 o (some P))) hgrow (fun q hq => by have := hrow q hq; omega)
  have hO3 : OwnC w2 (B + 1) (.slice (some ⟨g2, 0, none⟩) (l.length + 1) cap2) (l ++ [x]) := by
    unfold OwnC
    rw [cpsCells_snoc, List.length_append]
    exact hown
  have hset := set_grown w2 B 5 (.slice (some ⟨g2, 0, none⟩) (l.length + 1) cap2)
  refine ⟨by simp [World.cell?, hB2], by simp [World.frozen?, hB2], hPw2.far (by omega) (by omega), grown_set hg2 (by omega), box_far hA3 (by omega), ?_, OwnC.kept hO3 hset (by omega)⟩
  have := box_set hB2 5 (.slice (some ⟨g2, 0, none⟩) (l.length + 1) cap2)
  simpa using this
def tailF (ts : List (Tk × Nat)) (f k : Nat) : Except Nat (List Cp × Nat) := if mayP ts 5 38 k then cmpsF ts f (k + 1) else (mustP ts 5 93 k).map fun x => ([], x.2)
theorem tail_step {ts : List (Tk × Nat)} {f k k1 kz : Nat} {b1 bz : Bool} {cv : Int × (Int × Int × Int × Int) × (Int × Int × Int × Int)} {m : List Cp} (h1 : St (bd false k (cmpP ts k)) cv k1 b1) (h2 : St (bd b1 k1 (tailF ts f k1)) m kz bz) :
    St (bd false k (cmpsF ts (f + 1) k)) (cpO cv :: m) kz bz := by
  unfold cmpsF
  cases b1
  · have e1 : cmpP ts k = .ok (cv, k1) := by simpa [St, bd] using h1
    rw [e1]
    unfold tailF at h2
    by_cases hm : mayP ts 5 38 k1 = true
    · simp only [hm, if_true] at h2 ⊢
      cases bz
      · have e2 : cmpsF ts f (k1 + 1) = .ok (m, kz) := by simpa [St, bd] using h2
        simp [St, bd, e2]
      · have e2 : cmpsF ts f (k1 + 1) = .error kz := by simpa [St, bd] using h2
        simp [St, bd, e2]
    · simp only [hm] at h2 ⊢
      cases hr : mustP ts 5 93 k1 with
      | error j =>
        rw [hr] at h2
        cases bz
        · simp [St, bd, Except.map] at h2
        · simpa [St, bd, Except.map] using h2
      | ok y =>
        rw [hr] at h2
        cases bz
        · have e2 : [] = m ∧ y.2 = kz := by simpa [St, bd, Except.map] using h2
          simp [St, bd, ← e2.1, e2.2]
        · simp [St, bd, Except.map] at h2
  · have e1 : cmpP ts k = .error k1 := by simpa [St, bd] using h1
    rw [e1]
    cases bz
    · simp [St, bd] at h2
    · have e2 : k1 = kz := by simpa [St, bd] using h2
      simp [St, bd, e2]
theorem tail_end {ts : List (Tk × Nat)} {f k kz : Nat} {b bz : Bool} (hm : (!b && mayP ts 5 38 k) = false) (h : St (bd b k (mustP ts 5 93 k)) () kz bz) : St (bd b k (tailF ts f k)) [] kz bz := by
  cases b
  · have h2 : mayP ts 5 38 k = false := by simpa using hm
    unfold tailF
    rw [h2]
    exact St.map (b := false) h (fun _ => ([] : List Cp))
  · cases bz
    · simp [St, bd] at h
    · simpa [St, bd] using h
/-- How far the parser at P is from standing still. -/
def atM (P n : Nat) (w : World) : Nat := match w.cell? ⟨P, 1, none⟩, w.cell? ⟨P, 2, none⟩ with | some (.int _ k), some (.bool false) => n - k.toNat + 1 | _, _ => 0
theorem atM_pr {P g c k : Nat} {b : Bool} {ts : List (Tk × Nat)} {W : World} (h : PrK P g c ts k b W) (n : Nat) : atM P n W = if b then 0 else n - k + 1 := by
  obtain ⟨-, c1, c2, -⟩ := h.cells
  unfold atM
  rw [c1, c2]
  cases b <;> simp
set_option maxRecDepth 100000 in
set_option maxHeartbeats 2000000 in
theorem step_R {P g c k : Nat} {b : Bool} {ts : List (Tk × Nat)} (i : Int) (strict : Bool) (w : World) (hE : EndsT ts) (h : PrK P g c ts k b w) :
    Calls Tryd.prog 41 #[.pointer (some ⟨P, 0, none⟩), .int .i64 i, .bool strict] w (ToldS P g c ts (fun w' (s : Sp) u => ∃ v, u = Tree.spV s v ∧ OwnC w' w.heap.size v s.cs) (bd b k (stepP ts i strict k)) w) := by
  have hPl := h.lt
  have hgl := h.glt
  have hP0 := h.kept (World.grownBy_alloc w (.cells #[.bool false, .int .i64 0, .int .i64 0, .int .i64 0, .bool false, .slice none 0 0] 39) none)
  have hgR := World.grownBy_alloc w (.cells #[.bool false, .int .i64 0, .int .i64 0, .int .i64 0, .bool false, .slice none 0 0] 39) (some P)
  have bA := World.alloc_heap_new w (.cells #[.bool false, .int .i64 0, .int .i64 0, .int .i64 0, .bool false, .slice none 0 0] 39)
  obtain ⟨S, hS⟩ : ∃ S, w.heap.size = S := ⟨_, rfl⟩
  obtain ⟨W0, hW0⟩ : ∃ W, w.alloc (.cells #[.bool false, .int .i64 0, .int .i64 0, .int .i64 0, .bool false, .slice none 0 0] 39) = W := ⟨_, rfl⟩
  rw [hW0] at hP0 hgR bA
  rw [hS] at bA hPl hgl
  have s0 : w.heap.size ≤ S := by omega
  have n1 : S ≠ P := by omega
  have n3 : S ≠ g := by omega
  obtain ⟨RES, hRES⟩ : ∃ r, bd b k (stepP ts i strict k) = r := ⟨_, rfl⟩
  rw [hRES, hS]
  replace hRES := Lib.hid hRES
  replace hE := Lib.hid hE
  clear h
  have M1 := Lib.hid (may_R W0 hE.out 33 (by decide) hP0)
  obtain ⟨m1, hm1⟩ : ∃ m, (!b && mayP ts 5 33 k) = m := ⟨_, rfl⟩
  rw [hm1] at M1
  replace hm1 := Lib.hid hm1
  go_enter Tryd.func41, Tryd.ntmps41
  go_wp2_with fail
  (with_reducible refine M1.out.mono ?_)
  rintro e w1 ⟨rfl, hP1, hg1⟩
  obtain ⟨k1, hk1⟩ : ∃ k1, (if m1 = true then k + 1 else k) = k1 := ⟨_, rfl⟩
  rw [hk1] at hP1
  replace hk1 := Lib.hid hk1
  replace hgR := grown_more hgR hg1
  replace bA := box_kept bA hg1 n1
  clear M1 hP0 hg1 hW0
  have q := World.grownBy_alloc w1 (.cells #[.bool m1, .int .i64 0, .int .i64 1, .int .i64 1, .bool strict, .slice none 0 0] 39)
  have n2 : w1.heap.size ≠ P := fun e => by have := hP1.lt; omega
  have n4 : w1.heap.size ≠ g := fun e => by have := hP1.glt; omega
  have n5 : S < w1.heap.size := by have := (Array.getElem?_eq_some_iff.1 bA).1; omega
  have bB := World.alloc_heap_new w1 (.cells #[.bool m1, .int .i64 0, .int .i64 1, .int .i64 1, .bool strict, .slice none 0 0] 39)
  replace hP1 := hP1.kept (q none)
  replace hgR := grown_more hgR (q (some P))
  replace bA := box_kept bA (q (some P)) n1
  go_upto_region 2 with fail
  obtain ⟨B, hB⟩ : ∃ B, w1.heap.size = B := ⟨_, rfl⟩
  rw [hB] at bB n2 n4 n5 ⊢
  generalize w1.alloc (.cells #[.bool m1, .int .i64 0, .int .i64 1, .int .i64 1, .bool strict, .slice none 0 0] 39) = W1 at *
  clear q hB
  have t0 : w.heap.size ≤ B := by omega
  have n6 : S ≠ B := by omega
  have M2 := Lib.hid (must_R W1 hE.out 1 (by decide) hP1)
  go_wp2_with fail
  (with_reducible refine M2.out.mono ?_)
  rintro e w2 ⟨u, v2, k2, b2, rfl, rfl, hP2, hg, hS2⟩
  replace hgR := grown_more hgR hg
  replace bA := box_kept bA hg n1
  replace bB := box_kept bB hg n2
  replace hS2 := Lib.hid hS2
  have q1 : w2.cell? ⟨B, 1, none⟩ = some (.int .i64 0) := by simp [World.cell?, bB]
  have q2 : w2.frozen? ⟨B, 1, none⟩ = false := by simp [World.frozen?, bB]
  replace hgR := grown_set (o := 1) (v := .int .i64 v2) hgR t0
  replace bA := box_far (o := 1) (v := .int .i64 v2) bA n6
  replace bB := box_set bB 1 (.int .i64 v2)
  simp only [List.setIfInBounds_toArray, List.set_cons_zero, List.set_cons_succ] at bB
  replace hP2 := hP2.far (o := 1) (v := .int .i64 v2) n2 n4
  clear M2 hg hP1
  go_upto_region 3 with fail
  clear q1 q2
  generalize w2.setCell ⟨B, 1, none⟩ (.int .i64 v2) = W2 at *
  obtain ⟨x2, hx2⟩ : ∃ x, ts[k2]? = some x := ⟨_, List.getElem?_eq_getElem hP2.2.2.2.1⟩
  obtain ⟨X, hX⟩ : ∃ X, (!b2 && (x2.1.k != 2 || x2.1.n != i)) = X := ⟨_, rfl⟩
  have HN := Lib.hid (fun W (h : PrK P g c ts k2 b2 W) => now_R W h hx2)
  have F0 := fd0
  have F1 := fd1
  obtain ⟨c0, c1, c2, c3⟩ := hP2.cells
  go_cut [32] from 8 (fun t wx => t = .bool X ∧ W2.grownBy wx none)
  case first =>
    replace hgR := Lib.hid hgR
    replace hP2 := Lib.hid hP2
    clear c0 c1 c3 bA bB hx2
    cases b2
    · by_cases e1 : x2.1.k = 2
      · have d1 : (x2.1.k != 2) = false := by simp [e1]
        have d2 : (x2.1.n != i) = X := by rw [← hX]; simp [e1]
        clear e1 hX
        go_wp2_with fail
        (with_reducible refine (HN.out W2 hP2.out).mono ?_)
        rintro e w4 ⟨rfl, hg4⟩
        have h4 := Lib.hid (PrK.kept hP2.out hg4)
        go_wp2_with fail
        (with_reducible refine (HN.out w4 h4.out).mono ?_)
        rintro e w5 ⟨rfl, hg5⟩
        clear HN
        go_wp2_with fail
        go_meet
        exact ⟨rfl, hg4.trans hg5⟩
      · have d1 : (x2.1.k != 2) = true := by simp [e1]
        obtain rfl : X = true := by rw [← hX]; simp [e1]
        clear e1 hX
        go_wp2_with fail
        (with_reducible refine (HN.out W2 hP2.out).mono ?_)
        rintro e w4 ⟨rfl, hg4⟩
        clear HN
        go_wp2_with fail
        go_meet
        exact ⟨rfl, hg4⟩
    · obtain rfl : X = false := by rw [← hX]; simp
      clear HN hX
      go_wp2_with fail
      go_meet
      exact ⟨rfl, ⟨rfl, rfl, rfl, Nat.le_refl _, fun _ _ _ => rfl⟩⟩
  case rest =>
  obtain ⟨rfl, hgx⟩ := hcut
  obtain ⟨W3, rfl⟩ : ∃ W, W = wc := ⟨_, rfl⟩
  have hP3 := hP2.kept hgx
  replace hgR := grown_more hgR (grownS hgx)
  replace bA := box_kept bA (grownS (R := P) hgx) n1
  replace bB := box_kept bB (grownS (R := P) hgx) n2
  clear hgx hP2 HN F0 F1 c0 c1 c2 c3
  go_upto_if 32 with fail
  go_cut [] from 8 (fun wx => PrK P g c ts k2 (b2 || X) wx ∧ W3.grownBy wx (some P))
  case first =>
    obtain ⟨y0, y1, y2, y3⟩ := hP3.cells
    have y4 := y3 2
    have hput := Lib.hid (hP3.put (j := 2) (v := .bool true) (k' := k2) (b' := true) hP3.2.2.2.1 rfl)
    replace hP3 := Lib.hid hP3
    clear y0 y1 y3 bA bB hgR hX
    cases X
    · go_wp2_with fail
      go_meet
      exact ⟨by rw [Bool.or_false]; exact hP3.out, grown_self _ _⟩
    · go_wp2_with fail
      go_meet
      exact ⟨by rw [Bool.or_true]; exact hput.out, set_grown _ _ _ _⟩
  case rest =>
  obtain ⟨hP4, hgx⟩ := hcut
  obtain ⟨W4, rfl⟩ : ∃ W, W = wc := ⟨_, rfl⟩
  replace hgR := grown_more hgR hgx
  replace bA := box_kept bA hgx n1
  replace bB := box_kept bB hgx n2
  clear hgx hP3
  have MG := Lib.hid (go1_R W4 hP4)
  go_wp2_with fail
  (with_reducible refine MG.out.mono ?_)
  rintro e w5 ⟨rfl, hP5, hg⟩
  obtain ⟨k3, b3, hP5', hS3⟩ : ∃ k3 b3, PrK P g c ts k3 b3 w5 ∧ St (bd b2 k2 (mustP ts 2 i k2)) () k3 b3 := by
    refine ⟨_, _, hP5, ?_⟩
    have hm : mustP ts 2 i k2 = if x2.1.k = 2 ∧ x2.1.n = i then .ok ((), k2 + 1) else .error k2 := by unfold mustP; rw [hx2]
    rw [hm]
    have hl : x2.1.k = 2 → k2 + 1 < ts.length := fun e => hE.out k2 x2 hx2 (by rw [e]; decide)
    subst hX
    cases b2
    · by_cases e1 : x2.1.k = 2
      · by_cases e2 : x2.1.n = i
        · simp [St, bd, e1, e2, hl e1]
        · simp [St, bd, e1, e2]
      · simp [St, bd, e1]
    · simp [St, bd]
  replace hgR := grown_more hgR hg
  replace bA := box_kept bA hg n1
  replace bB := box_kept bB hg n2
  replace hS3 := Lib.hid hS3
  clear MG hg hP5 hP4 hX hx2
  have M6 := Lib.hid (may_R w5 hE.out 123 (by decide) hP5')
  obtain ⟨m6, hm6⟩ : ∃ m, (!b3 && mayP ts 5 123 k3) = m := ⟨_, rfl⟩
  rw [hm6] at M6
  replace hm6 := Lib.hid hm6
  go_wp2_with fail
  (with_reducible refine M6.out.mono ?_)
  rintro e w6 ⟨rfl, hP6, hg⟩
  replace hgR := grown_more hgR hg
  replace bA := box_kept bA hg n1
  replace bB := box_kept bB hg n2
  clear M6 hg hP5'
  go_upto_if 39 with fail
  go_cut [] from 8 (fun wx => ∃ (mn mx : Int) (k4 : Nat) (b4 : Bool), PrK P g c ts k4 b4 wx ∧ w.grownBy wx (some P) ∧ wx.heap[S]? = some (.cells #[.bool false, .int .i64 0, .int .i64 0, .int .i64 0, .bool false, .slice none 0 0] 39 (0, 0)) ∧ wx.heap[B]? = some (.cells #[.bool m1, .int .i64 v2, .int .i64 mn, .int .i64 mx, .bool strict, .slice none 0 0] 39 (0, 0)) ∧ St (bd b3 k3 (timesP ts k3)) (mn, mx) k4 b4)
  case first =>
    cases m6
    · go_wp2_with fail
      go_meet
      refine ⟨1, 1, k3, b3, hP6, hgR, bA, bB, ?_⟩
      have := hm6.out
      unfold timesP
      cases b3
      · have h2 : mayP ts 5 123 k3 = false := by simpa using this
        simp [St, bd, h2]
      · rfl
    · have hb3 : b3 = false := by have := hm6.out; simp at this; exact this.1
      subst hb3
      have h2 : mayP ts 5 123 k3 = true := by simpa using hm6.out
      replace hP6 : PrK P g c ts (k3 + 1) false w6 := hP6
      replace h2 := Lib.hid h2
      have M7 := Lib.hid (must_R w6 hE.out 1 (by decide) hP6)
      go_wp2_with fail
      (with_reducible refine M7.out.mono ?_)
      rintro e w7 ⟨u, v7, k7, b7, rfl, rfl, hP7, hg, hS7⟩
      replace hgR := grown_more hgR hg
      replace bA := box_kept bA hg n1
      replace bB := box_kept bB hg n2
      replace hS7 := Lib.hid hS7
      have q1 : w7.cell? ⟨B, 2, none⟩ = some (.int .i64 1) := by simp [World.cell?, bB]
      have q2 : w7.frozen? ⟨B, 2, none⟩ = false := by simp [World.frozen?, bB]
      replace hgR := grown_set (o := 2) (v := .int .i64 v7) hgR t0
      replace bA := box_far (o := 2) (v := .int .i64 v7) bA n6
      replace bB := box_set bB 2 (.int .i64 v7)
      simp only [List.setIfInBounds_toArray, List.set_cons_zero, List.set_cons_succ] at bB
      replace hP7 := hP7.far (o := 2) (v := .int .i64 v7) n2 n4
      clear M7 hg hP6
      go_upto_region 8 with fail
      clear q1 q2
      generalize w7.setCell ⟨B, 2, none⟩ (.int .i64 v7) = W7 at *
      have M8 := Lib.hid (sign_R W7 hE.out 44 (by decide) hP7)
      go_wp2_with fail
      (with_reducible refine M8.out.mono ?_)
      rintro e w8 ⟨u, v8, k8, b8, rfl, rfl, hP8, hg, hS8⟩
      replace hgR := grown_more hgR hg
      replace bA := box_kept bA hg n1
      replace bB := box_kept bB hg n2
      replace hS8 := Lib.hid hS8
      clear M8 hg hP7
      have M9 := Lib.hid (must_R w8 hE.out 1 (by decide) hP8)
      go_wp2_with fail
      (with_reducible refine M9.out.mono ?_)
      rintro e w9 ⟨u, v9, k9, b9, rfl, rfl, hP9, hg, hS9⟩
      replace hgR := grown_more hgR hg
      replace bA := box_kept bA hg n1
      replace bB := box_kept bB hg n2
      replace hS9 := Lib.hid hS9
      have q1 : w9.cell? ⟨B, 3, none⟩ = some (.int .i64 1) := by simp [World.cell?, bB]
      have q2 : w9.frozen? ⟨B, 3, none⟩ = false := by simp [World.frozen?, bB]
      replace hgR := grown_set (o := 3) (v := .int .i64 v9) hgR t0
      replace bA := box_far (o := 3) (v := .int .i64 v9) bA n6
      replace bB := box_set bB 3 (.int .i64 v9)
      simp only [List.setIfInBounds_toArray, List.set_cons_zero, List.set_cons_succ] at bB
      replace hP9 := hP9.far (o := 3) (v := .int .i64 v9) n2 n4
      clear M9 hg hP8
      go_upto_region 10 with fail
      clear q1 q2
      generalize w9.setCell ⟨B, 3, none⟩ (.int .i64 v9) = W9 at *
      have M10 := Lib.hid (sign_R W9 hE.out 125 (by decide) hP9)
      go_wp2_with fail
      (with_reducible refine M10.out.mono ?_)
      rintro e w10 ⟨u, v10, k10, b10, rfl, rfl, hP10, hg, hS10⟩
      replace hgR := grown_more hgR hg
      replace bA := box_kept bA hg n1
      replace bB := box_kept bB hg n2
      clear M10 hg hP9
      go_wp2_with fail
      go_meet
      refine ⟨v7, v9, k10, b10, hP10, hgR, bA, bB, ?_⟩
      have q7 := hS7.out
      have q8 := hS8.out
      have q9 := hS9.out
      unfold timesP
      rw [h2.out]
      unfold spanP
      simp only [St, bd] at q7 q8 q9 hS10 ⊢
      cases b7 <;> cases b8 <;> cases b9 <;> cases b10 <;> simp_all
  case rest =>
  obtain ⟨mn, mx, k4, b4, hP4, hgR, bA, bB, hS4⟩ := hcut
  obtain ⟨W4, rfl⟩ : ∃ W, W = wc := ⟨_, rfl⟩
  replace hS4 := Lib.hid hS4
  clear hP6 hm6
  have M6 := Lib.hid (may_R W4 hE.out 91 (by decide) hP4)
  obtain ⟨m7, hm7⟩ : ∃ m, (!b4 && mayP ts 5 91 k4) = m := ⟨_, rfl⟩
  rw [hm7] at M6
  replace hm7 := Lib.hid hm7
  go_wp2_with fail
  (with_reducible refine M6.out.mono ?_)
  rintro e w5 ⟨rfl, hP5, hg⟩
  replace hgR := grown_more hgR hg
  replace bA := box_kept bA hg n1
  replace bB := box_kept bB hg n2
  clear M6 hg hP4
  cases m7
  · replace hP5 : PrK P g c ts k4 b4 w5 := hP5
    have l0 : w5.cell? ⟨B, 0, none⟩ = some (.bool m1) := by simp [World.cell?, bB]
    have l1 : w5.cell? ⟨B, 1, none⟩ = some (.int .i64 v2) := by simp [World.cell?, bB]
    have l2 : w5.cell? ⟨B, 2, none⟩ = some (.int .i64 mn) := by simp [World.cell?, bB]
    have l3 : w5.cell? ⟨B, 3, none⟩ = some (.int .i64 mx) := by simp [World.cell?, bB]
    have l4 : w5.cell? ⟨B, 4, none⟩ = some (.bool strict) := by simp [World.cell?, bB]
    have l5 : w5.cell? ⟨B, 5, none⟩ = some (.slice none 0 0) := by simp [World.cell?, bB]
    have a0 := bA
    have c0 : (w5).cell? ⟨S, 0, none⟩ = some (.bool false) := by simp [World.cell?, a0]
    have f0 : (w5).frozen? ⟨S, 0, none⟩ = false := by simp [World.frozen?, a0]
    have a1 := box_set a0 0 (.bool m1)
    simp only [List.setIfInBounds_toArray, List.set_cons_zero, List.set_cons_succ] at a1
    have c1 : ((w5).setCell ⟨S, 0, none⟩ (.bool m1)).cell? ⟨S, 1, none⟩ = some (.int .i64 0) := by simp [World.cell?, a1]
    have f1 : ((w5).setCell ⟨S, 0, none⟩ (.bool m1)).frozen? ⟨S, 1, none⟩ = false := by simp [World.frozen?, a1]
    have a2 := box_set a1 1 (.int .i64 v2)
    simp only [List.setIfInBounds_toArray, List.set_cons_zero, List.set_cons_succ] at a2
    have c2 : (((w5).setCell ⟨S, 0, none⟩ (.bool m1)).setCell ⟨S, 1, none⟩ (.int .i64 v2)).cell? ⟨S, 2, none⟩ = some (.int .i64 0) := by simp [World.cell?, a2]
    have f2 : (((w5).setCell ⟨S, 0, none⟩ (.bool m1)).setCell ⟨S, 1, none⟩ (.int .i64 v2)).frozen? ⟨S, 2, none⟩ = false := by simp [World.frozen?, a2]
    have a3 := box_set a2 2 (.int .i64 mn)
    simp only [List.setIfInBounds_toArray, List.set_cons_zero, List.set_cons_succ] at a3
    have c3 : ((((w5).setCell ⟨S, 0, none⟩ (.bool m1)).setCell ⟨S, 1, none⟩ (.int .i64 v2)).setCell ⟨S, 2, none⟩ (.int .i64 mn)).cell? ⟨S, 3, none⟩ = some (.int .i64 0) := by simp [World.cell?, a3]
    have f3 : ((((w5).setCell ⟨S, 0, none⟩ (.bool m1)).setCell ⟨S, 1, none⟩ (.int .i64 v2)).setCell ⟨S, 2, none⟩ (.int .i64 mn)).frozen? ⟨S, 3, none⟩ = false := by simp [World.frozen?, a3]
    have a4 := box_set a3 3 (.int .i64 mx)
    simp only [List.setIfInBounds_toArray, List.set_cons_zero, List.set_cons_succ] at a4
    have c4 : (((((w5).setCell ⟨S, 0, none⟩ (.bool m1)).setCell ⟨S, 1, none⟩ (.int .i64 v2)).setCell ⟨S, 2, none⟩ (.int .i64 mn)).setCell ⟨S, 3, none⟩ (.int .i64 mx)).cell? ⟨S, 4, none⟩ = some (.bool false) := by simp [World.cell?, a4]
    have f4 : (((((w5).setCell ⟨S, 0, none⟩ (.bool m1)).setCell ⟨S, 1, none⟩ (.int .i64 v2)).setCell ⟨S, 2, none⟩ (.int .i64 mn)).setCell ⟨S, 3, none⟩ (.int .i64 mx)).frozen? ⟨S, 4, none⟩ = false := by simp [World.frozen?, a4]
    have a5 := box_set a4 4 (.bool strict)
    simp only [List.setIfInBounds_toArray, List.set_cons_zero, List.set_cons_succ] at a5
    have c5 : ((((((w5).setCell ⟨S, 0, none⟩ (.bool m1)).setCell ⟨S, 1, none⟩ (.int .i64 v2)).setCell ⟨S, 2, none⟩ (.int .i64 mn)).setCell ⟨S, 3, none⟩ (.int .i64 mx)).setCell ⟨S, 4, none⟩ (.bool strict)).cell? ⟨S, 5, none⟩ = some (.slice none 0 0) := by simp [World.cell?, a5]
    have f5 : ((((((w5).setCell ⟨S, 0, none⟩ (.bool m1)).setCell ⟨S, 1, none⟩ (.int .i64 v2)).setCell ⟨S, 2, none⟩ (.int .i64 mn)).setCell ⟨S, 3, none⟩ (.int .i64 mx)).setCell ⟨S, 4, none⟩ (.bool strict)).frozen? ⟨S, 5, none⟩ = false := by simp [World.frozen?, a5]
    have a6 := box_set a5 5 (.slice none 0 0)
    simp only [List.setIfInBounds_toArray, List.set_cons_zero, List.set_cons_succ] at a6
    have hgZ := hgR
    have hPY := hP5
    replace hgZ := grown_set (o := 0) (v := .bool m1) hgZ s0
    replace hPY := PrK.far (o := 0) (v := .bool m1) hPY n1 n3
    replace hgZ := grown_set (o := 1) (v := .int .i64 v2) hgZ s0
    replace hPY := PrK.far (o := 1) (v := .int .i64 v2) hPY n1 n3
    replace hgZ := grown_set (o := 2) (v := .int .i64 mn) hgZ s0
    replace hPY := PrK.far (o := 2) (v := .int .i64 mn) hPY n1 n3
    replace hgZ := grown_set (o := 3) (v := .int .i64 mx) hgZ s0
    replace hPY := PrK.far (o := 3) (v := .int .i64 mx) hPY n1 n3
    replace hgZ := grown_set (o := 4) (v := .bool strict) hgZ s0
    replace hPY := PrK.far (o := 4) (v := .bool strict) hPY n1 n3
    replace hgZ := grown_set (o := 5) (v := .slice none 0 0) hgZ s0
    replace hPY := PrK.far (o := 5) (v := .slice none 0 0) hPY n1 n3
    replace hgZ := Lib.hid hgZ
    replace hPY := Lib.hid hPY
    replace a6 := Lib.hid a6
    clear bA hgR hP5 a0 a1 a2 a3 a4 a5 bB
    go_wp2_with fail
    refine bodyPost_ret (v := .agg #[.bool m1, .int .i64 v2, .int .i64 mn, .int .i64 mx, .bool strict, .slice none 0 0]) (results_cell_row rfl _ _ S 39 _ (0, 0) _ rfl a6.out Tryd.underlying39 rfl (by kernel_rfl)) rfl ⟨_, ⟨m1, v2, mn, mx, strict, []⟩, _, _, rfl, ⟨_, rfl, World.ownsRow_nil _ _ _ _⟩, hPY.out, hgZ.out, ?_⟩
    rw [← hRES.out]
    refine step_pure hm1.out hk1.out hS2.out hS3.out hS4.out ?_
    have := hm7.out
    unfold listP
    cases b4
    · have h2 : mayP ts 5 91 k4 = false := by simpa using this
      simp [St, bd, h2]
    · rfl
  · have hb4 : b4 = false := by have := hm7.out; simp at this; exact this.1
    subst hb4
    have h2 : mayP ts 5 91 k4 = true := by simpa using hm7.out
    replace hP5 : PrK P g c ts (k4 + 1) false w5 := hP5
    replace h2 := Lib.hid h2
    have hn := hP5.2.2.2.2
    go_upto_region 12 with fail
    obtain ⟨i0, hi, hz0, hz1, hz2⟩ := info_parts Tryd.info48
    have hi := Lib.hid hi
    have hOw : OwnC w5 (B + 1) (.slice none ([] : List Cp).length 0) [] := World.ownsRow_nil _ _ _ _
    have hM := Lib.hid (cmp_R w5.drew hE.out hP5.drew)
    have hgd : w.grownBy w5.drew (some P) := drewG hgR
    have hOd : OwnC w5.drew (B + 1) (.slice none ([] : List Cp).length 0) [] := World.ownsRow_nil _ _ _ _
    have hAd : w5.drew.heap[S]? = some (.cells #[.bool false, .int .i64 0, .int .i64 0, .int .i64 0, .bool false, .slice none 0 0] 39 (0, 0)) := bA
    have hBd : w5.drew.heap[B]? = some (.cells #[.bool m1, .int .i64 v2, .int .i64 mn, .int .i64 mx, .bool strict, .slice none ([] : List Cp).length 0] 39 (0, 0)) := bB
    have hc0 : w5.drew.cell? ⟨B, 5, none⟩ = some (.slice none ([] : List Cp).length 0) := by simp [World.cell?, hBd]
    have hnl : ([] : List Cp).length = 0 := rfl
    have hc5 : w5.cell? ⟨B, 5, none⟩ = some (.slice none ([] : List Cp).length 0) := by simp [World.cell?, bB]
    go_cut [] from 8 (fun wx => ∃ (cv : Int × (Int × Int × Int × Int) × (Int × Int × Int × Int)) (k6 : Nat) (b6 : Bool) (v6 : Value), PrK P g c ts k6 b6 wx ∧ w.grownBy wx (some P) ∧ wx.heap[S]? = some (.cells #[.bool false, .int .i64 0, .int .i64 0, .int .i64 0, .bool false, .slice none 0 0] 39 (0, 0)) ∧ wx.heap[B]? = some (.cells #[.bool m1, .int .i64 v2, .int .i64 mn, .int .i64 mx, .bool strict, v6] 39 (0, 0)) ∧ OwnC wx (B + 1) v6 [cpO cv] ∧ St (bd false (k4 + 1) (cmpP ts (k4 + 1))) cv k6 b6)
    case first =>
      clear hP5 hgR bA bB
      obtain ⟨wd, hwd⟩ : ∃ wd, w5.drew = wd := ⟨_, rfl⟩
      rw [hwd] at hM hgd hOd hAd hBd hc0
      go_region_law (first
        | (go_simp; (with_reducible refine hM.out.mono ?_); rintro e w1 ⟨u, cv, k6, b6, rfl, hcv, hP6, hg6, hS6⟩; have hu : u = .agg #[.int .u8 (cpO cv).op, .int .u8 (cpO cv).l.k, .int .i64 (cpO cv).l.n, .int .i64 (cpO cv).l.s, .int .i64 (cpO cv).l.r, .int .u8 (cpO cv).r.k, .int .i64 (cpO cv).r.n, .int .i64 (cpO cv).r.s, .int .i64 (cpO cv).r.r] := hcv; subst hu; clear hcv; have hcX : w1.cell? ⟨B, 5, none⟩ = some (.slice none ([] : List Cp).length 0) := hg6.cell hc0 (by simp; omega); have hcY := (World.grownBy_alloc w1 (.cells #[.int .u8 (cpO cv).op, .int .u8 (cpO cv).l.k, .int .i64 (cpO cv).l.n, .int .i64 (cpO cv).l.s, .int .i64 (cpO cv).l.r, .int .u8 (cpO cv).r.k, .int .i64 (cpO cv).r.n, .int .i64 (cpO cv).r.s, .int .i64 (cpO cv).r.r] 48) none).cell hcX (by simp); have hO2 := (OwnC.kept hOd hg6 (by omega)).alloc (.cells #[.int .u8 (cpO cv).op, .int .u8 (cpO cv).l.k, .int .i64 (cpO cv).l.n, .int .i64 (cpO cv).l.s, .int .i64 (cpO cv).l.r, .int .u8 (cpO cv).r.k, .int .i64 (cpO cv).r.n, .int .i64 (cpO cv).r.s, .int .i64 (cpO cv).r.r] 48); have hB1 := (hg6.block B (by have := (Array.getElem?_eq_some_iff.1 hBd).1; omega) (by simp; omega)).trans hBd; have hA1 := (hg6.block S (by have := (Array.getElem?_eq_some_iff.1 hAd).1; omega) (by simp; omega)).trans hAd; have hs1 : B + 1 ≤ w1.heap.size := (Array.getElem?_eq_some_iff.1 hB1).1; have hC9 := cells_new w1 [.int .u8 (cpO cv).op, .int .u8 (cpO cv).l.k, .int .i64 (cpO cv).l.n, .int .i64 (cpO cv).l.s, .int .i64 (cpO cv).l.r, .int .u8 (cpO cv).r.k, .int .i64 (cpO cv).r.n, .int .i64 (cpO cv).r.s, .int .i64 (cpO cv).r.r] 48)
        | (refine step_append_lies _ (by rfl) _ _ 37 (by rfl) (B + 1) 48 i0 _ 9 72 Tryd.underlying37 hi.out hz0 hz1 hz2 rfl (by decide) (.slice none ([] : List Cp).length 0) ([] : List Cp).length (Tree.cpsCells ([] : List Cp)) (by rfl) hO2 ⟨w1.heap.size, 0, none⟩ 1 1 [.int .u8 (cpO cv).op, .int .u8 (cpO cv).l.k, .int .i64 (cpO cv).l.n, .int .i64 (cpO cv).l.s, .int .i64 (cpO cv).l.r, .int .u8 (cpO cv).r.k, .int .i64 (cpO cv).r.n, .int .i64 (cpO cv).r.s, .int .i64 (cpO cv).r.r] (by rfl) rfl hC9 (by simp [Value.oneCell']) (by decide) (by unfold maxLen; omega) (by omega) (by simp; omega) _ rfl ?_; intro g2 cap2 w2 hown hgrow hat hlt; have F2 := cps_app (x := cpO cv) hgd hg6 hO2 hgrow hown hB1 hA1 hP6 hPl hgl n5 s0; have p0 := F2.1; have f0 := F2.2.1))
      all_goals
        go_wp2_with fail
        go_meet
        exact ⟨cv, k6, b6, _, F2.2.2.1, F2.2.2.2.1, F2.2.2.2.2.1, F2.2.2.2.2.2.1, F2.2.2.2.2.2.2, hS6⟩
    case rest =>
    obtain ⟨cv, k6, b6, v6, hP6, hgR, bA, bB, hO6, hS6⟩ := hcut
    obtain ⟨W6, rfl⟩ : ∃ W, W = wc := ⟨_, rfl⟩
    clear hP5 hOw hM hgd hOd hAd hBd hc0 hc5 hnl
    replace hS6 := Lib.hid hS6
    have hj : ∀ (m : List Cp) (kz : Nat) (bz : Bool), St (bd b6 k6 (tailF ts (ts.length - 1) k6)) m kz bz → St (bd false (k4 + 1) (cmpsP ts (k4 + 1))) ([cpO cv] ++ m) kz bz := by
      intro m kz bz hh
      have := tail_step hS6.out hh
      rw [show ts.length - 1 + 1 = ts.length by have := hP6.2.2.2.1; omega] at this
      exact this
    have hbd : b6 = false → [cpO cv].length ≤ k6 ∧ ts.length ≤ ts.length - 1 + k6 := by
      intro hb
      subst hb
      have : cmpP ts (k4 + 1) = .ok (cv, k6) := by simpa [St, bd] using hS6.out
      have := cmp_gt this
      simp only [List.length_singleton] at this ⊢
      omega
    replace hj := Lib.hid hj
    clear hS6
    go_wp2_with fail
    go_loopw [] (fun wr => ∃ (l : List Cp) (k8 f : Nat) (b8 : Bool) (v8 : Value), PrK P g c ts k8 b8 wr ∧ w.grownBy wr (some P) ∧ wr.heap[S]? = some (.cells #[.bool false, .int .i64 0, .int .i64 0, .int .i64 0, .bool false, .slice none 0 0] 39 (0, 0)) ∧ wr.heap[B]? = some (.cells #[.bool m1, .int .i64 v2, .int .i64 mn, .int .i64 mx, .bool strict, v8] 39 (0, 0)) ∧ OwnC wr (B + 1) v8 l ∧ (b8 = false → l.length ≤ k8 ∧ ts.length ≤ f + k8) ∧ Hid (∀ (m : List Cp) (kz : Nat) (bz : Bool), St (bd b8 k8 (tailF ts f k8)) m kz bz → St (bd false (k4 + 1) (cmpsP ts (k4 + 1))) (l ++ m) kz bz)) (fun wr => atM P ts.length wr)
    case atStart => exact ⟨[cpO cv], k6, ts.length - 1, b6, v6, hP6, hgR, bA, bB, hO6, hbd, hj⟩
    case round =>
      obtain ⟨l, k8, f, b8, v8, hP8, hg8, bA8, bB8, hO8, hbd8, hj8⟩ := hrel
      clear hP6 hgR bA bB hO6 hbd hj
      have hmes := atM_pr hP8 ts.length
      have M9 := Lib.hid (may_R wr hE.out 38 (by decide) hP8)
      obtain ⟨m9, hm9⟩ : ∃ m, (!b8 && mayP ts 5 38 k8) = m := ⟨_, rfl⟩
      rw [hm9] at M9
      replace hm9 := Lib.hid hm9
      replace hmes := Lib.hid hmes
      replace hbd8 := Lib.hid hbd8
      clear hP8
      go_wp2_with fail
      (with_reducible refine M9.out.mono ?_)
      rintro e w9 ⟨rfl, hP9, hg⟩
      replace hg8 := grown_more hg8 hg
      replace bA8 := box_kept bA8 hg n1
      replace bB8 := box_kept bB8 hg n2
      replace hO8 := OwnC.kept hO8 hg (by omega)
      clear M9 hg
      cases m9
      · replace hP9 : PrK P g c ts k8 b8 w9 := hP9
        have M10 := Lib.hid (sign_R w9 hE.out 93 (by decide) hP9)
        clear hP9
        go_wp2_with fail
        (with_reducible refine M10.out.mono ?_)
        rintro e w10 ⟨u, v10, k10, b10, rfl, rfl, hPZ, hg, hSZ⟩
        replace hg8 := grown_more hg8 hg
        replace bA8 := box_kept bA8 hg n1
        replace bB8 := box_kept bB8 hg n2
        replace hO8 := OwnC.kept hO8 hg (by omega)
        clear M10 hg
        obtain ⟨va, vc, rfl⟩ := hO8.shape
        have hgR := hg8
        have bA := bA8
        have bB := bB8
        clear hg8 bA8 bB8
        have l0 : w10.cell? ⟨B, 0, none⟩ = some (.bool m1) := by simp [World.cell?, bB]
        have l1 : w10.cell? ⟨B, 1, none⟩ = some (.int .i64 v2) := by simp [World.cell?, bB]
        have l2 : w10.cell? ⟨B, 2, none⟩ = some (.int .i64 mn) := by simp [World.cell?, bB]
        have l3 : w10.cell? ⟨B, 3, none⟩ = some (.int .i64 mx) := by simp [World.cell?, bB]
        have l4 : w10.cell? ⟨B, 4, none⟩ = some (.bool strict) := by simp [World.cell?, bB]
        have l5 : w10.cell? ⟨B, 5, none⟩ = some (.slice va l.length vc) := by simp [World.cell?, bB]
        have a0 := bA
        have c0 : (w10).cell? ⟨S, 0, none⟩ = some (.bool false) := by simp [World.cell?, a0]
        have f0 : (w10).frozen? ⟨S, 0, none⟩ = false := by simp [World.frozen?, a0]
        have a1 := box_set a0 0 (.bool m1)
        simp only [List.setIfInBounds_toArray, List.set_cons_zero, List.set_cons_succ] at a1
        have c1 : ((w10).setCell ⟨S, 0, none⟩ (.bool m1)).cell? ⟨S, 1, none⟩ = some (.int .i64 0) := by simp [World.cell?, a1]
        have f1 : ((w10).setCell ⟨S, 0, none⟩ (.bool m1)).frozen? ⟨S, 1, none⟩ = false := by simp [World.frozen?, a1]
        have a2 := box_set a1 1 (.int .i64 v2)
        simp only [List.setIfInBounds_toArray, List.set_cons_zero, List.set_cons_succ] at a2
        have c2 : (((w10).setCell ⟨S, 0, none⟩ (.bool m1)).setCell ⟨S, 1, none⟩ (.int .i64 v2)).cell? ⟨S, 2, none⟩ = some (.int .i64 0) := by simp [World.cell?, a2]
        have f2 : (((w10).setCell ⟨S, 0, none⟩ (.bool m1)).setCell ⟨S, 1, none⟩ (.int .i64 v2)).frozen? ⟨S, 2, none⟩ = false := by simp [World.frozen?, a2]
        have a3 := box_set a2 2 (.int .i64 mn)
        simp only [List.setIfInBounds_toArray, List.set_cons_zero, List.set_cons_succ] at a3
        have c3 : ((((w10).setCell ⟨S, 0, none⟩ (.bool m1)).setCell ⟨S, 1, none⟩ (.int .i64 v2)).setCell ⟨S, 2, none⟩ (.int .i64 mn)).cell? ⟨S, 3, none⟩ = some (.int .i64 0) := by simp [World.cell?, a3]
        have f3 : ((((w10).setCell ⟨S, 0, none⟩ (.bool m1)).setCell ⟨S, 1, none⟩ (.int .i64 v2)).setCell ⟨S, 2, none⟩ (.int .i64 mn)).frozen? ⟨S, 3, none⟩ = false := by simp [World.frozen?, a3]
        have a4 := box_set a3 3 (.int .i64 mx)
        simp only [List.setIfInBounds_toArray, List.set_cons_zero, List.set_cons_succ] at a4
        have c4 : (((((w10).setCell ⟨S, 0, none⟩ (.bool m1)).setCell ⟨S, 1, none⟩ (.int .i64 v2)).setCell ⟨S, 2, none⟩ (.int .i64 mn)).setCell ⟨S, 3, none⟩ (.int .i64 mx)).cell? ⟨S, 4, none⟩ = some (.bool false) := by simp [World.cell?, a4]
        have f4 : (((((w10).setCell ⟨S, 0, none⟩ (.bool m1)).setCell ⟨S, 1, none⟩ (.int .i64 v2)).setCell ⟨S, 2, none⟩ (.int .i64 mn)).setCell ⟨S, 3, none⟩ (.int .i64 mx)).frozen? ⟨S, 4, none⟩ = false := by simp [World.frozen?, a4]
        have a5 := box_set a4 4 (.bool strict)
        simp only [List.setIfInBounds_toArray, List.set_cons_zero, List.set_cons_succ] at a5
        have c5 : ((((((w10).setCell ⟨S, 0, none⟩ (.bool m1)).setCell ⟨S, 1, none⟩ (.int .i64 v2)).setCell ⟨S, 2, none⟩ (.int .i64 mn)).setCell ⟨S, 3, none⟩ (.int .i64 mx)).setCell ⟨S, 4, none⟩ (.bool strict)).cell? ⟨S, 5, none⟩ = some (.slice none 0 0) := by simp [World.cell?, a5]
        have f5 : ((((((w10).setCell ⟨S, 0, none⟩ (.bool m1)).setCell ⟨S, 1, none⟩ (.int .i64 v2)).setCell ⟨S, 2, none⟩ (.int .i64 mn)).setCell ⟨S, 3, none⟩ (.int .i64 mx)).setCell ⟨S, 4, none⟩ (.bool strict)).frozen? ⟨S, 5, none⟩ = false := by simp [World.frozen?, a5]
        have a6 := box_set a5 5 (.slice va l.length vc)
        simp only [List.setIfInBounds_toArray, List.set_cons_zero, List.set_cons_succ] at a6
        have hgZ := hgR
        have hPY := hPZ
        replace hgZ := grown_set (o := 0) (v := .bool m1) hgZ s0
        replace hPY := PrK.far (o := 0) (v := .bool m1) hPY n1 n3
        replace hgZ := grown_set (o := 1) (v := .int .i64 v2) hgZ s0
        replace hPY := PrK.far (o := 1) (v := .int .i64 v2) hPY n1 n3
        replace hgZ := grown_set (o := 2) (v := .int .i64 mn) hgZ s0
        replace hPY := PrK.far (o := 2) (v := .int .i64 mn) hPY n1 n3
        replace hgZ := grown_set (o := 3) (v := .int .i64 mx) hgZ s0
        replace hPY := PrK.far (o := 3) (v := .int .i64 mx) hPY n1 n3
        replace hgZ := grown_set (o := 4) (v := .bool strict) hgZ s0
        replace hPY := PrK.far (o := 4) (v := .bool strict) hPY n1 n3
        replace hgZ := grown_set (o := 5) (v := .slice va l.length vc) hgZ s0
        replace hPY := PrK.far (o := 5) (v := .slice va l.length vc) hPY n1 n3
        replace hgZ := Lib.hid hgZ
        replace hPY := Lib.hid hPY
        replace a6 := Lib.hid a6
        clear bA hgR hPZ a0 a1 a2 a3 a4 a5 bB
        replace hO8 := Lib.hid (OwnC.mono (OwnC.kept (OwnC.kept (OwnC.kept (OwnC.kept (OwnC.kept (OwnC.kept (hO8) (set_grown _ S 0 (.bool m1)) (by omega)) (set_grown _ S 1 (.int .i64 v2)) (by omega)) (set_grown _ S 2 (.int .i64 mn)) (by omega)) (set_grown _ S 3 (.int .i64 mx)) (by omega)) (set_grown _ S 4 (.bool strict)) (by omega)) (set_grown _ S 5 (.slice va l.length vc)) (by omega)) (show S ≤ B + 1 by omega))
        go_wp2_with fail
        refine bodyPost_ret (v := .agg #[.bool m1, .int .i64 v2, .int .i64 mn, .int .i64 mx, .bool strict, .slice va l.length vc]) (results_cell_row rfl _ _ S 39 _ (0, 0) _ rfl a6.out Tryd.underlying39 rfl (by kernel_rfl)) rfl ⟨_, ⟨m1, v2, mn, mx, strict, l⟩, _, _, rfl, ⟨_, rfl, hO8.out⟩, hPY.out, hgZ.out, ?_⟩
        rw [← hRES.out]
        refine step_pure hm1.out hk1.out hS2.out hS3.out hS4.out ?_
        unfold listP
        rw [h2.out]
        have := hj8.out [] k10 b10 (tail_end hm9.out hSZ)
        rw [List.append_nil] at this
        exact this
      · have hb8 : b8 = false := by have := hm9.out; simp at this; exact this.1
        subst hb8
        replace hP9 : PrK P g c ts (k8 + 1) false w9 := hP9
        obtain ⟨hlk, hfk⟩ := hbd8.out rfl
        obtain ⟨va, vc, rfl⟩ := hO8.shape
        have hk9 := hP9.2.2.2.1
        obtain ⟨f, rfl⟩ : ∃ x, f = x + 1 := ⟨f - 1, by omega⟩
        go_upto_region 14 with fail
        obtain ⟨i0, hi, hz0, hz1, hz2⟩ := info_parts Tryd.info48
        have hi := Lib.hid hi
        have hM := Lib.hid (cmp_R w9.drew hE.out hP9.drew)
        have hgd : w.grownBy w9.drew (some P) := drewG hg8
        have hOd : OwnC w9.drew (B + 1) (.slice va l.length vc) l := OwnC.kept hO8 (drewG (grown_self w9 P)) (by omega)
        have hAd : w9.drew.heap[S]? = some (.cells #[.bool false, .int .i64 0, .int .i64 0, .int .i64 0, .bool false, .slice none 0 0] 39 (0, 0)) := bA8
        have hBd : w9.drew.heap[B]? = some (.cells #[.bool m1, .int .i64 v2, .int .i64 mn, .int .i64 mx, .bool strict, .slice va l.length vc] 39 (0, 0)) := bB8
        have hc0 : w9.drew.cell? ⟨B, 5, none⟩ = some (.slice va l.length vc) := by simp [World.cell?, hBd]
        have hc5 : w9.cell? ⟨B, 5, none⟩ = some (.slice va l.length vc) := by simp [World.cell?, bB8]
        obtain ⟨wd, hwd⟩ : ∃ wd, w9.drew = wd := ⟨_, rfl⟩
        rw [hwd] at hM hgd hOd hAd hBd hc0
        clear hP9 hg8 bA8 bB8 hO8 hbd8
        go_region_law (first
          | (go_simp; (with_reducible refine hM.out.mono ?_); rintro e w1 ⟨u, cv, k6, b6, rfl, hcv, hP6, hg6, hS6⟩; have hu : u = .agg #[.int .u8 (cpO cv).op, .int .u8 (cpO cv).l.k, .int .i64 (cpO cv).l.n, .int .i64 (cpO cv).l.s, .int .i64 (cpO cv).l.r, .int .u8 (cpO cv).r.k, .int .i64 (cpO cv).r.n, .int .i64 (cpO cv).r.s, .int .i64 (cpO cv).r.r] := hcv; subst hu; clear hcv; have hcX : w1.cell? ⟨B, 5, none⟩ = some (.slice va l.length vc) := hg6.cell hc0 (by simp; omega); have hcY := (World.grownBy_alloc w1 (.cells #[.int .u8 (cpO cv).op, .int .u8 (cpO cv).l.k, .int .i64 (cpO cv).l.n, .int .i64 (cpO cv).l.s, .int .i64 (cpO cv).l.r, .int .u8 (cpO cv).r.k, .int .i64 (cpO cv).r.n, .int .i64 (cpO cv).r.s, .int .i64 (cpO cv).r.r] 48) none).cell hcX (by simp); have hO2 := (OwnC.kept hOd hg6 (by omega)).alloc (.cells #[.int .u8 (cpO cv).op, .int .u8 (cpO cv).l.k, .int .i64 (cpO cv).l.n, .int .i64 (cpO cv).l.s, .int .i64 (cpO cv).l.r, .int .u8 (cpO cv).r.k, .int .i64 (cpO cv).r.n, .int .i64 (cpO cv).r.s, .int .i64 (cpO cv).r.r] 48); have hB1 := (hg6.block B (by have := (Array.getElem?_eq_some_iff.1 hBd).1; omega) (by simp; omega)).trans hBd; have hA1 := (hg6.block S (by have := (Array.getElem?_eq_some_iff.1 hAd).1; omega) (by simp; omega)).trans hAd; have hs1 : B + 1 ≤ w1.heap.size := (Array.getElem?_eq_some_iff.1 hB1).1; have hC9 := cells_new w1 [.int .u8 (cpO cv).op, .int .u8 (cpO cv).l.k, .int .i64 (cpO cv).l.n, .int .i64 (cpO cv).l.s, .int .i64 (cpO cv).l.r, .int .u8 (cpO cv).r.k, .int .i64 (cpO cv).r.n, .int .i64 (cpO cv).r.s, .int .i64 (cpO cv).r.r] 48)
          | (refine step_append_lies _ (by rfl) _ _ 37 (by rfl) (B + 1) 48 i0 _ 9 72 Tryd.underlying37 hi.out hz0 hz1 hz2 rfl (by decide) (.slice va l.length vc) l.length (Tree.cpsCells l) (by rfl) hO2 ⟨w1.heap.size, 0, none⟩ 1 1 [.int .u8 (cpO cv).op, .int .u8 (cpO cv).l.k, .int .i64 (cpO cv).l.n, .int .i64 (cpO cv).l.s, .int .i64 (cpO cv).l.r, .int .u8 (cpO cv).r.k, .int .i64 (cpO cv).r.n, .int .i64 (cpO cv).r.s, .int .i64 (cpO cv).r.r] (by rfl) rfl hC9 (by simp [Value.oneCell']) (by decide) (by unfold maxLen; omega) (by omega) (by simp; omega) _ rfl ?_; intro g2 cap2 w2 hown hgrow hat hlt; have F2 := cps_app (x := cpO cv) hgd hg6 hO2 hgrow hown hB1 hA1 hP6 hPl hgl n5 s0; have p0 := F2.1; have f0 := F2.2.1))
        all_goals
          go_wp2_with fail
          refine ⟨⟨l ++ [cpO cv], k6, f, b6, _, F2.2.2.1, F2.2.2.2.1, F2.2.2.2.2.1, F2.2.2.2.2.2.1, F2.2.2.2.2.2.2, ?_, Lib.hid ?_⟩, ?_⟩
          · intro hb
            subst hb
            have e1 : cmpP ts (k8 + 1) = .ok (cv, k6) := by simpa [St, bd] using hS6
            have e2 := cmp_gt e1
            simp only [List.length_append, List.length_singleton] at e2 ⊢
            omega
          · intro m kz bz hh
            have e0 := tail_step hS6 hh
            have e1 : mayP ts 5 38 k8 = true := by simpa using hm9.out
            have e2 : tailF ts (f + 1) k8 = cmpsF ts (f + 1) (k8 + 1) := by unfold tailF; rw [e1]; rfl
            have e3 := hj8.out (cpO cv :: m) kz bz (by rw [e2]; exact e0)
            simpa using e3
          · rw [atM_pr F2.2.2.1 ts.length, hmes.out]
            cases b6
            · have e1 : cmpP ts (k8 + 1) = .ok (cv, k6) := by simpa [St, bd] using hS6
              have e2 := cmp_gt e1
              simp only [Bool.false_eq_true, if_false] at e2 ⊢
              omega
            · simp
end Go.Proofs.YtkedifhlkiffoaaDoor
/- The document's own Parse. -/
namespace Go.Proofs.YtkedifhlkiffoaaDoor
open Go.ChangeShapes Go.WideShapes Go.ChangeAt Go.RowKit
open Tree (Tm Cp Sp)
set_option linter.unusedVariables false
set_option linter.unusedSimpArgs false
attribute [local go_sem] Oper.semAt_some
/-- Of the end and of within the number is 0. -/
def Nul (t : Tk) : Prop := (t.k = 3 → t.n = 0) ∧ (t.k = 0 → t.n = 0)
theorem first_nul (l : Bs) : Nul (firstT l) := by
  unfold firstT
  split
  · exact ⟨by simp, by simp⟩
  split
  · unfold numT
    split <;> exact ⟨by simp, by simp⟩
  split
  · unfold wordT
    split
    · exact ⟨by simp, by simp⟩
    · split <;> exact ⟨by simp, by simp⟩
  split
  · exact ⟨by simp, by simp⟩
  split <;> exact ⟨by simp, by simp⟩
theorem toksF_nul : ∀ (f p : Nat) (l : Bs) (x : Tk × Nat), x ∈ toksF f p l → Nul x.1 := by
  intro f
  induction f with
  | zero => intro p l x hx; cases hx
  | succ f ih =>
    intro p l x hx
    simp only [toksF] at hx
    rcases List.mem_cons.1 hx with rfl | hx
    · exact first_nul _
    · split at hx
      · cases hx
      · exact ih _ _ _ hx
def Nuls (ts : List (Tk × Nat)) : Prop := ∀ x ∈ ts, Nul x.1
theorem toks_nul (l : Bs) : Nuls (toks l) := fun x hx => toksF_nul _ _ _ x hx
set_option maxRecDepth 100000 in
set_option maxHeartbeats 1000000 in
theorem mustE_R {P g c k : Nat} {b : Bool} {ts : List (Tk × Nat)} (w : World) (hL : LastT ts) (h : PrK P g c ts k b w) :
    Calls Tryd.prog 44 #[.pointer (some ⟨P, 0, none⟩), .int .u8 0] w fun e w' => ∃ v, e = .returned (.int .i64 v) ∧ PrK P g c ts k (b || !decide (kindAt ts k = 0)) w' ∧ w.grownBy w' (some P) := by
  obtain ⟨c0, c1, c2, c3⟩ := h.cells
  have f2 := c3 2
  obtain ⟨x, hx⟩ : ∃ x, ts[k]? = some x := ⟨_, List.getElem?_eq_getElem h.2.2.2.1⟩
  have hka : kindAt ts k = x.1.k := by unfold kindAt; rw [hx]
  rw [hka]
  have HN := Lib.hid (fun W (h : PrK P g c ts k b W) => now_R W h hx)
  have HG := Lib.hid (fun W (h : PrK P g c ts k b W) => go1_R W h)
  have hl : x.1.k = 0 → ¬ k + 1 < ts.length := fun e => by have := hL k x hx e; omega
  have F0 := fd0
  have F1 := fd1
  have hkl := Lib.hid h.2.2.2.1
  replace h := Lib.hid h
  clear c3 hx hka
  cases b
  · by_cases e1 : x.1.k = 0
    · have d1 : (x.1.k != 0) = false := by simp [e1]
      have hk := Lib.hid (hl e1)
      rw [show (false || !decide (x.1.k = 0)) = false by simp [e1]]
      clear e1 hl
      go_enter Tryd.func44, Tryd.ntmps44
      go_wp2_with fail
      (with_reducible refine (HN.out w h.out).mono ?_)
      rintro e w2 ⟨rfl, hg2⟩
      have h2 := Lib.hid (PrK.kept h.out hg2)
      go_wp2_with fail
      (with_reducible refine (HN.out w2 h2.out).mono ?_)
      rintro e w3 ⟨rfl, hg3⟩
      have h3 := Lib.hid (PrK.kept h2.out hg3)
      go_wp2_with fail
      (with_reducible refine (HG.out w3 h3.out).mono ?_)
      rintro e w4 ⟨rfl, hP, hg⟩
      rw [if_neg (by simp), if_neg hk.out] at hP
      replace hP := Lib.hid hP
      clear HN HG
      go_wp2_with fail
      go_ret
      exact ⟨_, rfl, hP.out, grown_more (grownS (hg2.trans hg3)) hg⟩
    · have d1 : (x.1.k != 0) = true := by simp [e1]
      rw [show (false || !decide (x.1.k = 0)) = true by simp [e1]]
      clear e1 hl
      go_enter Tryd.func44, Tryd.ntmps44
      go_wp2_with fail
      (with_reducible refine (HN.out w h.out).mono ?_)
      rintro e w2 ⟨rfl, hg2⟩
      have h2 := PrK.kept h.out hg2
      obtain ⟨y0, y1, y2, y3⟩ := h2.cells
      have z2 := y3 2
      have hput := Lib.hid (h2.put (j := 2) (v := .bool true) (k' := k) (b' := true) hkl.out rfl)
      have hG := Lib.hid (grown_more (grownS hg2) (set_grown w2 P 2 (.bool true)))
      clear HN HG y3 h2 hg2
      go_wp2_with fail
      go_ret
      exact ⟨_, rfl, hput.out, hG.out⟩
  · have hput := Lib.hid (PrK.put h.out (j := 2) (v := .bool true) (k' := k) (b' := true) hkl.out rfl)
    have hG := Lib.hid (set_grown w P 2 (.bool true))
    rw [Bool.true_or]
    clear hl HN HG
    go_enter Tryd.func44, Tryd.ntmps44
    go_wp2_with fail
    go_ret
    exact ⟨_, rfl, hput.out, hG.out⟩
theorem OwnP.far {w : World} {base O o : Nat} {v u : Value} {L : List (Sp × Value)} {cs : Array Value} {t : TypeId} (h : OwnP w base v L) (hO : w.heap[O]? = some (.cells cs t (0, 0))) (h1 : t ≠ 39) (h2 : t ≠ 48) : OwnP (w.setCell ⟨O, o, none⟩ u) base v L :=
  ⟨World.ownsRow.kept h.1 (set_grown w O o u) (.inr fun e => Tree.not_rowblock h.1 hO h1 e.symm), fun x hx => World.ownsRow.kept (h.2 x hx) (set_grown w O o u) (.inr fun e => Tree.not_rowblock (h.2 x hx) hO h2 e.symm)⟩
/-- Behind the append of a step: what lies where, once more. -/
theorem sp_app {wb wd w1 w2 : World} {P g c k O base g2 cap2 : Nat} {ts : List (Tk × Nat)} {b : Bool} {L : List (Sp × Value)} {s : Sp} {ca va : Option Addr} {cc vc : Nat} {o : Obj}
    (hgd : wb.grownBy wd (some P)) (hg1 : wd.grownBy w1 (some P)) (hOP2 : OwnP (w1.alloc o) base (.slice va L.length vc) L) (hOs2 : (w1.alloc o).ownsRow base 48 9 (.slice ca s.cs.length cc) s.cs.length (Tree.cpsCells s.cs))
    (hgrow : (w1.alloc o).grownBy w2 (Value.ownBlock (.slice va L.length vc))) (hown : w2.ownsRow base 39 6 (.slice (some ⟨g2, 0, none⟩) (L.length + 1) cap2) (L.length + 1) (Tree.spsCells L ++ [.bool s.neg, .int .i64 s.kind, .int .i64 s.min, .int .i64 s.max, .bool s.strict, .slice ca s.cs.length cc]))
    (hO1 : w1.heap[O]? = some (.cells #[.slice va L.length vc, .int .i64 0] 25 (0, 0))) (hP1 : PrK P g c ts k b w1) (hPb : P < base) (hgb : g < base) (hbb : wb.heap.size ≤ base) (hOb : wb.heap.size ≤ O) (hOP : O ≠ P) (hOg : O ≠ g) :
    w2.cell? ⟨O, 0, none⟩ = some (.slice va L.length vc) ∧ w2.frozen? ⟨O, 0, none⟩ = false ∧
      PrK P g c ts k b (w2.setCell ⟨O, 0, none⟩ (.slice (some ⟨g2, 0, none⟩) (L.length + 1) cap2)) ∧ wb.grownBy (w2.setCell ⟨O, 0, none⟩ (.slice (some ⟨g2, 0, none⟩) (L.length + 1) cap2)) (some P) ∧
      (w2.setCell ⟨O, 0, none⟩ (.slice (some ⟨g2, 0, none⟩) (L.length + 1) cap2)).heap[O]? = some (.cells #[.slice (some ⟨g2, 0, none⟩) (L.length + 1) cap2, .int .i64 0] 25 (0, 0)) ∧
      OwnP (w2.setCell ⟨O, 0, none⟩ (.slice (some ⟨g2, 0, none⟩) (L.length + 1) cap2)) base (.slice (some ⟨g2, 0, none⟩) (L.length + 1) cap2) (L ++ [(s, .slice ca s.cs.length cc)]) := by
  have hrow : ∀ q, Value.ownBlock (.slice va L.length vc) = some q → base ≤ q := fun q hq => (hOP2.1.lt q hq).1
  have hA2 := (World.grownBy_alloc w1 o none)
  have hO2 := (hA2.block O (Array.getElem?_eq_some_iff.1 hO1).1 (by simp)).trans hO1
  have hO3 := (hgrow.block O (Array.getElem?_eq_some_iff.1 hO2).1 (Tree.not_rowblock hOP2.1 hO2 (by decide))).trans hO2
  have hPw2 : PrK P g c ts k b w2 := (hP1.kept hA2).keptRow hgrow (fun e => by have := hrow P e.symm; omega) (fun e => by have := hrow g e.symm; omega)
  have hg2 : wb.grownBy w2 (some P) := grown_app (grown_more (grown_more hgd hg1) (World.grownBy_alloc w1 o (some P))) hgrow (fun q hq => by have := hrow q hq; omega)
  have hOP3 := OwnP.app hOP2 hOs2 hgrow hown
  refine ⟨by simp [World.cell?, hO3], by simp [World.frozen?, hO3], hPw2.far hOP hOg, grown_set hg2 hOb, ?_, hOP3.far hO3 (by decide) (by decide)⟩
  have := box_set hO3 0 (.slice (some ⟨g2, 0, none⟩) (L.length + 1) cap2)
  simpa using this
def tailP (ts : List (Tk × Nat)) (f i k : Nat) : Except Nat (List Sp × Int) := if mayP ts 5 44 k || mayP ts 5 59 k then patF ts f i (mayP ts 5 44 k) (k + 1) else (endP ts k).map fun w => ([], w)
/-- Where the parser stands behind so many steps. -/
def PJ (ts : List (Tk × Nat)) (ss : List Sp) (f k : Nat) (b : Bool) : Prop := (b = false → patP ts = joinP ss (tailP ts f ss.length k)) ∧ (b = true → patP ts = .error k)
theorem joinP_app (a b : List Sp) (r : Except Nat (List Sp × Int)) : joinP a (joinP b r) = joinP (a ++ b) r := by
  cases r with
  | error j => rfl
  | ok y => simp [joinP]
theorem patF_tail (ts : List (Tk × Nat)) (f i : Nat) (strict : Bool) (k : Nat) : patF ts (f + 1) i strict k = match stepP ts i strict k with | .error j => .error j | .ok (s, k1) => joinP [s] (tailP ts f (i + 1) k1) := by
  unfold patF tailP
  cases stepP ts i strict k with
  | error j => rfl
  | ok y =>
    simp only
    split
    · cases patF ts f (i + 1) (mayP ts 5 44 y.2) (y.2 + 1) <;> rfl
    · cases endP ts y.2 <;> rfl
theorem pj_first {ts : List (Tk × Nat)} {s : Sp} {k : Nat} {b : Bool} (h0 : 0 < ts.length) (h : St (bd false 0 (stepP ts 0 false 0)) s k b) : PJ ts [s] (ts.length - 1) k b := by
  have e : patP ts = patF ts (ts.length - 1 + 1) 0 false 0 := by unfold patP; rw [show ts.length - 1 + 1 = ts.length by omega]
  refine ⟨fun hb => ?_, fun hb => ?_⟩
  · subst hb
    have e1 : stepP ts 0 false 0 = .ok (s, k) := by simpa [St, bd] using h
    have e2 : stepP ts ((0 : Nat) : Int) false 0 = .ok (s, k) := e1
    rw [e, patF_tail, e2]
    rfl
  · subst hb
    have e1 : stepP ts 0 false 0 = .error k := by simpa [St, bd] using h
    have e2 : stepP ts ((0 : Nat) : Int) false 0 = .error k := e1
    rw [e, patF_tail, e2]
theorem pj_next {ts : List (Tk × Nat)} {ss : List Sp} {s : Sp} {f k k1 : Nat} {b1 : Bool} (hj : PJ ts ss (f + 1) k false) (hx : (mayP ts 5 44 k || mayP ts 5 59 k) = true) (h : St (bd false (k + 1) (stepP ts (ss.length : Int) (mayP ts 5 44 k) (k + 1))) s k1 b1) : PJ ts (ss ++ [s]) f k1 b1 := by
  have e := hj.1 rfl
  unfold tailP at e
  rw [hx, if_pos rfl, patF_tail] at e
  refine ⟨fun hb => ?_, fun hb => ?_⟩
  · subst hb
    have e1 : stepP ts (ss.length : Int) (mayP ts 5 44 k) (k + 1) = .ok (s, k1) := by simpa [St, bd] using h
    rw [e1] at e
    simp only at e
    rw [e, joinP_app, List.length_append, List.length_singleton]
  · subst hb
    have e1 : stepP ts (ss.length : Int) (mayP ts 5 44 k) (k + 1) = .error k1 := by simpa [St, bd] using h
    rw [e1] at e
    exact e
theorem pj_end {ts : List (Tk × Nat)} {ss : List Sp} {f k k1 k2 : Nat} {b b1 b2 : Bool} {v1 win : Int} (hN : Nuls ts) (hk2 : k2 < ts.length) (hj : PJ ts ss f k b) (hx : (!b && (mayP ts 5 59 k || mayP ts 5 44 k)) = false) (h1 : St (bd b k (oneP ts 3 k)) v1 k1 b1) (h2 : St (bd b1 k1 (oneP ts 1 k1)) win k2 b2) :
    ((b2 || !decide (kindAt ts k2 = 0)) = false → patP ts = .ok (ss, win)) ∧ ((b2 || !decide (kindAt ts k2 = 0)) = true → patP ts = .error k2) := by
  cases b
  case true =>
    cases b1
    · simp [St, bd] at h1
    cases b2
    · simp [St, bd] at h2
    have e1 : k = k1 := by simpa [St, bd] using h1
    have e2 : k1 = k2 := by simpa [St, bd] using h2
    subst e1
    subst e2
    exact ⟨fun hb => by simp at hb, fun _ => hj.2 rfl⟩
  case false =>
  have e := hj.1 rfl
  have hx2 : (mayP ts 5 44 k || mayP ts 5 59 k) = false := by rw [Bool.or_comm]; simpa using hx
  unfold tailP at e
  rw [hx2, if_neg (by simp)] at e
  have hm3 : mustP ts 3 0 k = (oneP ts 3 k).map fun y => ((), y.2) := by
    unfold mustP oneP
    cases hk : ts[k]? with
    | none => rfl
    | some x =>
      by_cases h3 : x.1.k = 3
      · simp [h3, (hN x (List.mem_of_getElem? hk)).1 h3, Except.map]
      · simp [h3, Except.map]
  have hm0 : ∀ q, mustP ts 0 0 q = if (ts[q]?).isSome ∧ kindAt ts q = 0 then .ok ((), q + 1) else .error q := by
    intro q
    unfold mustP kindAt
    cases hk : ts[q]? with
    | none => simp
    | some x =>
      by_cases h3 : x.1.k = 0
      · simp [h3, (hN x (List.mem_of_getElem? hk)).2 h3]
      · simp [h3]
  have ek : endP ts k = match mustP ts 3 0 k with
      | .error j => .error j
      | .ok (_, k) => match oneP ts 1 k with
        | .error j => .error j
        | .ok (win, k) => match mustP ts 0 0 k with
          | .error j => .error j
          | .ok _ => .ok win := rfl
  rw [ek, hm3] at e
  cases b1
  case true =>
    cases b2
    · simp [St, bd] at h2
    have e1 : oneP ts 3 k = .error k1 := by simpa [St, bd] using h1
    have e2 : k1 = k2 := by simpa [St, bd] using h2
    subst e2
    rw [e1] at e
    exact ⟨fun hb => by simp at hb, fun _ => e⟩
  case false =>
  have e1 : oneP ts 3 k = .ok (v1, k1) := by simpa [St, bd] using h1
  rw [e1] at e
  simp only [Except.map] at e
  cases b2
  case true =>
    have e2 : oneP ts 1 k1 = .error k2 := by simpa [St, bd] using h2
    rw [e2] at e
    exact ⟨fun hb => by simp at hb, fun _ => e⟩
  case false =>
  have e2 : oneP ts 1 k1 = .ok (win, k2) := by simpa [St, bd] using h2
  rw [e2] at e
  simp only at e
  rw [hm0] at e
  by_cases hz : (ts[k2]?).isSome ∧ kindAt ts k2 = 0
  · rw [if_pos hz] at e
    refine ⟨fun _ => by rw [e]; simp [joinP], fun hb => by simp [hz.2] at hb⟩
  · rw [if_neg hz] at e
    refine ⟨fun hb => ?_, fun _ => e⟩
    have h0 : kindAt ts k2 = 0 := by simpa using hb
    have hs : ¬ (ts[k2]?).isSome := fun q => hz ⟨q, h0⟩
    exact absurd (by rw [List.getElem?_eq_getElem hk2]; rfl) hs
set_option maxRecDepth 100000 in
set_option maxHeartbeats 4000000 in
theorem refParse_u (l : Bs) (w : World) (hl : l.length ≤ 2000) (h6 : ∀ x ∈ toks l, x.1.k ≠ 6) :
    Calls Tryd.prog 15 #[S l] w fun e w' => ∃ a c L win at_ er, Below w.heap.size w w' ∧ e = .returned (.tuple #[.agg #[.slice a (List.length L) c, .int .i64 win], .int .i64 at_, .int .i64 er]) ∧ Tree.SpsL w' (.slice a (List.length L) c) L ∧ OutP (toks l) L win at_ er := by
  have hpos : 0 < (toks l).length := by unfold toks; simp [toksF]
  have hlen : (toks l).length ≤ 4000 := by have := toks_le l; omega
  have hW := toks_whole l h6
  have hE := Lib.hid (toks_ends l h6).1
  have hLT := Lib.hid hW.last
  have hNU := Lib.hid (toks_nul l)
  obtain ⟨W0, hW0⟩ : ∃ W, w.alloc (.cells #[.slice none 0 0, .int .i64 0] 25) = W := ⟨_, rfl⟩
  have hb0 : Below w.heap.size w (w.alloc (.cells #[.slice none 0 0, .int .i64 0] 25)) := (Below.refl _ w).alloc (Nat.le_refl _) _
  have bS := World.alloc_heap_new w (.cells #[.slice none 0 0, .int .i64 0] 25)
  rw [hW0] at hb0 bS
  obtain ⟨ts, hts⟩ : ∃ ts, toks l = ts := ⟨_, rfl⟩
  have HA : Hid (Calls Tryd.prog 18 #[S l] W0 fun e w' => ∃ v, e = .returned (.tuple #[v, .int .i64 0, .int .i64 0]) ∧ TksAt W0.heap.size v ts w' ∧ Below W0.heap.size W0 w') := by
    refine Lib.hid ((refAll_short ⟨l.toArray⟩ W0 hl).mono ?_)
    rintro e w' (⟨-, ⟨v, rfl, hr⟩, hb⟩ | ⟨t, p, h1, h2, _⟩)
    · exact ⟨v, rfl, by rw [← hts]; exact hr, hb⟩
    · exact absurd h2 (h6 _ h1)
  rw [hts] at hpos hlen hE hLT hNU ⊢
  clear hts h6 hW
  unfold S at *
  go_enter Tryd.func15, Tryd.ntmps15
  go_wp2_with fail
  (with_reducible refine HA.out.mono ?_)
  rintro e w1 ⟨v, rfl, ht0, hb1⟩
  obtain ⟨g, c, rfl⟩ := tks_some ht0 hpos
  clear HA
  have hb2 := hb0.trans (hb1.mono hb0.size)
  have bS1 := (hb1.block _ (Array.getElem?_eq_some_iff.1 bS).1).trans bS
  obtain ⟨Sb, hSb⟩ : ∃ S, w.heap.size = S := ⟨_, rfl⟩
  have hS1 : w.heap.size < w1.heap.size := (Array.getElem?_eq_some_iff.1 bS1).1
  have hgl : g < w1.heap.size := tks_lt ht0
  have hP1 : PrK w1.heap.size g c ts 0 false (w1.alloc (.cells #[.slice (some ⟨g, 0, none⟩) ts.length c, .int .i64 0, .bool false] 64)) := by
    refine ⟨World.alloc_heap_new w1 _, ⟨W0.heap.size, World.ownsRow.alloc ht0 _⟩, by omega, hpos, hlen⟩
  have hk1 : Below w1.heap.size w1 (w1.alloc (.cells #[.slice (some ⟨g, 0, none⟩) ts.length c, .int .i64 0, .bool false] 64)) := (Below.refl _ w1).alloc (Nat.le_refl _) _
  have hb3 := hb2.trans (hk1.mono hb2.size)
  have bS2 := (hk1.block _ (Array.getElem?_eq_some_iff.1 bS1).1).trans bS1
  have hsz : (w1.alloc (.cells #[.slice (some ⟨g, 0, none⟩) ts.length c, .int .i64 0, .bool false] 64)).heap.size = w1.heap.size + 1 := World.size_alloc _ _
  clear hk1 hb1 hb2 bS bS1
  go_wp2_with fail
  obtain ⟨P, hP⟩ : ∃ P, w1.heap.size = P := ⟨_, rfl⟩
  rw [hP] at hP1 hS1 hgl hsz ⊢
  generalize w1.alloc (.cells #[.slice (some ⟨g, 0, none⟩) ts.length c, .int .i64 0, .bool false] 64) = W1 at *
  rw [hSb] at bS2 hS1
  have HS := Lib.hid (step_R 0 false W1 hE.out hP1)
  clear hP ht0 hP1
  (with_reducible refine HS.out.mono ?_)
  rintro e w2 ⟨u, s, k1, b1, rfl, ⟨vc, rfl, hOc⟩, hP2, hgR, hSt⟩
  clear HS
  have hk1b : b1 = false → 1 ≤ k1 := fun hb => by
    subst hb
    have e1 : stepP ts 0 false 0 = .ok (s, k1) := by simpa [St, bd] using hSt
    have := step_gt e1
    simp only at this
    omega
  obtain ⟨ca, cc, rfl⟩ := hOc.shape
  have hbO : P + 1 ≤ w2.heap.size := by rw [← hsz]; exact hgR.size
  have hOP : w2.heap.size + 1 ≠ P := by omega
  have hOg : w2.heap.size + 1 ≠ g := by omega
  rw [hsz] at hOc
  have hq1 := World.grownBy_alloc w2 (.cells #[.bool s.neg, .int .i64 s.kind, .int .i64 s.min, .int .i64 s.max, .bool s.strict, .slice ca s.cs.length cc] 39)
  have hq2 := World.grownBy_alloc (w2.alloc (.cells #[.bool s.neg, .int .i64 s.kind, .int .i64 s.min, .int .i64 s.max, .bool s.strict, .slice ca s.cs.length cc] 39)) (.cells #[.slice (some ⟨w2.heap.size, 0, none⟩) 1 1, .int .i64 0] 25)
  have hq := fun row => (hq1 row).trans (hq2 row)
  have hOP1 : OwnP ((w2.alloc (.cells #[.bool s.neg, .int .i64 s.kind, .int .i64 s.min, .int .i64 s.max, .bool s.strict, .slice ca s.cs.length cc] 39)).alloc (.cells #[.slice (some ⟨w2.heap.size, 0, none⟩) 1 1, .int .i64 0] 25)) (P + 1) (.slice (some ⟨w2.heap.size, 0, none⟩) 1 1) [(s, .slice ca s.cs.length cc)] := by
    refine ⟨World.ownsRow.alloc ?_ _, fun x hx => ?_⟩
    · refine ⟨rfl, .inr ⟨w2.heap.size, 1, #[.bool s.neg, .int .i64 s.kind, .int .i64 s.min, .int .i64 s.max, .bool s.strict, .slice ca s.cs.length cc], rfl, hbO, World.alloc_heap_new w2 _, Nat.le_refl _, by unfold maxLen; omega, rfl, rfl⟩⟩
    · obtain rfl := List.mem_singleton.1 hx
      exact World.ownsRow.alloc (World.ownsRow.alloc hOc _) _
  have bO1 : ((w2.alloc (.cells #[.bool s.neg, .int .i64 s.kind, .int .i64 s.min, .int .i64 s.max, .bool s.strict, .slice ca s.cs.length cc] 39)).alloc (.cells #[.slice (some ⟨w2.heap.size, 0, none⟩) 1 1, .int .i64 0] 25)).heap[w2.heap.size + 1]? = some (.cells #[.slice (some ⟨w2.heap.size, 0, none⟩) 1 1, .int .i64 0] 25 (0, 0)) := by
    have := World.alloc_heap_new (w2.alloc (.cells #[.bool s.neg, .int .i64 s.kind, .int .i64 s.min, .int .i64 s.max, .bool s.strict, .slice ca s.cs.length cc] 39)) (.cells #[.slice (some ⟨w2.heap.size, 0, none⟩) 1 1, .int .i64 0] 25)
    rwa [World.size_alloc] at this
  have hP3 := hP2.kept (hq none)
  have hgS := grown_more hgR (hq (some P))
  clear hq1 hq2 hq hP2 hgR hOc
  have hPJ := Lib.hid (pj_first hpos hSt)
  clear hSt
  go_wp2_with fail
  obtain ⟨Q, hQ⟩ : ∃ Q, w2.heap.size = Q := ⟨_, rfl⟩
  rw [hQ] at hP3 hgS hOP1 bO1 hOP hOg hbO ⊢
  generalize (w2.alloc (.cells #[.bool s.neg, .int .i64 s.kind, .int .i64 s.min, .int .i64 s.max, .bool s.strict, .slice ca s.cs.length cc] 39)).alloc (.cells #[.slice (some ⟨Q, 0, none⟩) 1 1, .int .i64 0] 25) = W2 at *
  obtain ⟨O, hO⟩ : ∃ O, Q + 1 = O := ⟨_, rfl⟩
  rw [hO] at bO1 hOP hOg ⊢
  obtain ⟨base, hbase⟩ : ∃ b, P + 1 = b := ⟨_, rfl⟩
  rw [hbase] at hOP1 hsz hbO
  have hPb : P < base := by omega
  have hgb : g < base := by omega
  have hbb : W1.heap.size ≤ base := by omega
  have hOb : W1.heap.size ≤ O := by omega
  replace hQ := Lib.hid hQ
  clear hbO
  go_loopw [10] (fun _ wr => ∃ (L : List (Sp × Value)) (v : Value) (k f : Nat) (b : Bool), PrK P g c ts k b wr ∧ W1.grownBy wr (some P) ∧ wr.heap[O]? = some (.cells #[v, .int .i64 0] 25 (0, 0)) ∧ OwnP wr base v L ∧ (b = false → L.length ≤ k ∧ ts.length ≤ f + k) ∧ Hid (PJ ts (L.map (·.1)) f k b)) (fun _ wr => atM P ts.length wr)
  case atStart =>
    refine ⟨[(s, .slice ca s.cs.length cc)], _, k1, ts.length - 1, b1, hP3, hgS, bO1, hOP1, ?_, hPJ⟩
    intro hb
    subst hb
    have e1 := hPJ.out
    have := hk1b rfl
    simp only [List.length_singleton]
    omega
  case round =>
    clear hP3 hgS bO1 hOP1 hPJ hk1b
    obtain ⟨L, v, k, f, b, hP4, hg4, bO4, hOP4, hbd4, hPJ4⟩ := hrel
    have hmes := Lib.hid (atM_pr hP4 ts.length)
    obtain ⟨va, vc, rfl⟩ : ∃ a c, v = .slice a L.length c := by
      rcases hOP4.1.2 with ⟨rfl, hn⟩ | ⟨g, cap, cur, e1, r⟩
      · exact ⟨none, 0, by rw [hn]⟩
      · exact ⟨_, _, e1⟩
    replace hbd4 := Lib.hid hbd4
    have I1 := Lib.hid (is_R wr 59 (by decide) hP4)
    obtain ⟨m59, hmm⟩ : ∃ m, (!b && mayP ts 5 59 k) = m := ⟨_, rfl⟩
    rw [hmm] at I1
    replace hmm := Lib.hid hmm
    go_wp2_with fail
    (with_reducible refine I1.out.mono ?_)
    rintro e w5 ⟨rfl, hg⟩
    replace hP4 := hP4.kept hg
    replace hg4 := grown_more hg4 (grownS hg)
    replace bO4 := box_kept bO4 (grownS (R := P) hg) hOP
    replace hOP4 := hOP4.kept hg (fun q e => by cases e)
    clear I1 hg
    cases m59
    · have I2 := Lib.hid (is_R w5 44 (by decide) hP4)
      obtain ⟨m44, hm44⟩ : ∃ m, (!b && mayP ts 5 44 k) = m := ⟨_, rfl⟩
      rw [hm44] at I2
      replace hm44 := Lib.hid hm44
      go_wp2_with fail
      (with_reducible refine I2.out.mono ?_)
      rintro e w6 ⟨rfl, hg⟩
      replace hP4 := hP4.kept hg
      replace hg4 := grown_more hg4 (grownS hg)
      replace bO4 := box_kept bO4 (grownS (R := P) hg) hOP
      replace hOP4 := hOP4.kept hg (fun q e => by cases e)
      clear I2 hg
      cases m44
      · have hxx : (!b && (mayP ts 5 59 k || mayP ts 5 44 k)) = false := by
          have q1 := hmm.out
          have q2 := hm44.out
          cases b
          · simp at q1 q2
            simp [q1, q2]
          · rfl
        replace hxx := Lib.hid hxx
        clear hmes hbd4 hmm hm44
        have M3 := Lib.hid (must_R w6 hE.out 3 (by decide) hP4)
        go_wp2_with fail
        (with_reducible refine M3.out.mono ?_)
        rintro e w7 ⟨u, v7, k7, b7, rfl, rfl, hP7, hg, hS7⟩
        replace hg4 := grown_more hg4 hg
        replace bO4 := box_kept bO4 hg hOP
        replace hOP4 := hOP4.kept hg (fun q e => by cases e; exact hPb)
        replace hS7 := Lib.hid hS7
        clear M3 hg hP4
        have M1 := Lib.hid (must_R w7 hE.out 1 (by decide) hP7)
        go_wp2_with fail
        (with_reducible refine M1.out.mono ?_)
        rintro e w8 ⟨u, win, k8, b8, rfl, rfl, hP8, hg, hS8⟩
        replace hg4 := grown_more hg4 hg
        replace bO4 := box_kept bO4 hg hOP
        replace hOP4 := hOP4.kept hg (fun q e => by cases e; exact hPb)
        replace hS8 := Lib.hid hS8
        clear M1 hg hP7
        have q1 : w8.cell? ⟨O, 1, none⟩ = some (.int .i64 0) := by simp [World.cell?, bO4]
        have q2 : w8.frozen? ⟨O, 1, none⟩ = false := by simp [World.frozen?, bO4]
        replace hg4 := grown_set (o := 1) (v := .int .i64 win) hg4 hOb
        replace hOP4 := hOP4.far (o := 1) (u := .int .i64 win) bO4 (by decide) (by decide)
        replace bO4 := box_set bO4 1 (.int .i64 win)
        simp only [List.setIfInBounds_toArray, List.set_cons_zero, List.set_cons_succ] at bO4
        replace hP8 := hP8.far (o := 1) (v := .int .i64 win) hOP hOg
        go_upto_region 12 with fail
        clear q1 q2
        generalize w8.setCell ⟨O, 1, none⟩ (.int .i64 win) = W8 at *
        have ME := Lib.hid (mustE_R W8 hLT.out hP8)
        go_wp2_with fail
        (with_reducible refine ME.out.mono ?_)
        rintro e w9 ⟨v9, rfl, hP9, hg⟩
        replace hg4 := grown_more hg4 hg
        replace bO4 := box_kept bO4 hg hOP
        replace hOP4 := hOP4.kept hg (fun q e => by cases e; exact hPb)
        obtain ⟨pe1, pe2⟩ := pj_end hNU.out hP8.2.2.2.1 hPJ4.out hxx.out hS7.out hS8.out
        obtain ⟨b9, hb9⟩ : ∃ m, (b8 || !decide (kindAt ts k8 = 0)) = m := ⟨_, rfl⟩
        rw [hb9] at hP9 pe1 pe2
        clear ME hg hP8 hS7 hS8 hxx hPJ4 hb9
        have bS9 : w9.heap[Sb]? = some (.cells #[.slice none 0 0, .int .i64 0] 25 (0, 0)) := (hg4.block Sb (Array.getElem?_eq_some_iff.1 bS2).1 (fun e => by have := Option.some.inj e; omega)).trans bS2
        have hb10 : Below w.heap.size w w9 := Below.grown hb3 hg4 hb3.size (fun q e => by cases e; omega)
        obtain ⟨y0, y1, y2, y3⟩ := hP9.cells
        cases b9
        · have hp := pe1 rfl
          have z0 : w9.cell? ⟨O, 0, none⟩ = some (.slice va L.length vc) := by simp [World.cell?, bO4]
          have z1 : w9.cell? ⟨O, 1, none⟩ = some (.int .i64 win) := by simp [World.cell?, bO4]
          have s0 : w9.cell? ⟨Sb, 0, none⟩ = some (.slice none 0 0) := by simp [World.cell?, bS9]
          have f0 : w9.frozen? ⟨Sb, 0, none⟩ = false := by simp [World.frozen?, bS9]
          have a1 := box_set bS9 0 (.slice va L.length vc)
          simp only [List.setIfInBounds_toArray, List.set_cons_zero, List.set_cons_succ] at a1
          have s1 : (w9.setCell ⟨Sb, 0, none⟩ (.slice va L.length vc)).cell? ⟨Sb, 1, none⟩ = some (.int .i64 0) := by simp [World.cell?, a1]
          have f1 : (w9.setCell ⟨Sb, 0, none⟩ (.slice va L.length vc)).frozen? ⟨Sb, 1, none⟩ = false := by simp [World.frozen?, a1]
          have a2 := box_set a1 1 (.int .i64 win)
          simp only [List.setIfInBounds_toArray, List.set_cons_zero, List.set_cons_succ] at a2
          have hOPZ := (hOP4.far (o := 0) (u := .slice va L.length vc) bS9 (by decide) (by decide)).far (o := 1) (u := .int .i64 win) a1 (by decide) (by decide)
          have hbZ : Below w.heap.size w ((w9.setCell ⟨Sb, 0, none⟩ (.slice va L.length vc)).setCell ⟨Sb, 1, none⟩ (.int .i64 win)) := Below.grown hb10 ((set_grown w9 Sb 0 (.slice va L.length vc)).trans (set_grown _ Sb 1 (.int .i64 win))) hb10.size (fun q e => by cases e; omega)
          have c0 : ((w9.setCell ⟨Sb, 0, none⟩ (.slice va L.length vc)).setCell ⟨Sb, 1, none⟩ (.int .i64 win)).cell? ⟨Sb, 0, none⟩ = some (.slice va L.length vc) := by simp [World.cell?, a2]
          have c1 : ((w9.setCell ⟨Sb, 0, none⟩ (.slice va L.length vc)).setCell ⟨Sb, 1, none⟩ (.int .i64 win)).cell? ⟨Sb, 1, none⟩ = some (.int .i64 win) := by simp [World.cell?, a2]
          replace hOPZ := Lib.hid hOPZ.sps
          replace hbZ := Lib.hid hbZ
          replace hp := Lib.hid hp
          clear a1 a2 hOP4 hb10 hg4 bO4 bS9 hP9 pe1 pe2 y0 y1 y3
          go_wp2_with fail
          refine bodyPost_ret (v := .tuple #[.agg #[.slice va L.length vc, .int .i64 win], .int .i64 0, .int .i64 0]) ?_ rfl ⟨va, vc, L, win, 0, 0, hbZ.out, rfl, hOPZ.out, .inl ⟨hp.out, rfl, rfl⟩⟩
          simp [results, Tryd.results15, go_sem, c0, c1]
        · have hp := pe2 rfl
          obtain ⟨x9, hx9⟩ : ∃ x, ts[k8]? = some x := ⟨_, List.getElem?_eq_getElem hP9.2.2.2.1⟩
          have HN := Lib.hid (now_R w9 hP9 hx9)
          have F2 := fd2
          replace hp := Lib.hid hp
          replace hx9 := Lib.hid hx9
          clear hP9 pe1 pe2 y0 y1 y3 hOP4 bO4 hg4
          go_wp2_with fail
          (with_reducible refine HN.out.mono ?_)
          rintro e w10 ⟨rfl, hg⟩
          have bS10 := box_kept bS9 (grownS (R := P) hg) (by omega)
          have hb11 : Below w.heap.size w w10 := Below.grown hb10 hg hb10.size (fun q e => by cases e)
          have s0 : w10.cell? ⟨Sb, 0, none⟩ = some (.slice none 0 0) := by simp [World.cell?, bS10]
          have f0 : w10.frozen? ⟨Sb, 0, none⟩ = false := by simp [World.frozen?, bS10]
          have a1 := box_set bS10 0 (.slice none 0 0)
          simp only [List.setIfInBounds_toArray, List.set_cons_zero, List.set_cons_succ] at a1
          have s1 : (w10.setCell ⟨Sb, 0, none⟩ (.slice none 0 0)).cell? ⟨Sb, 1, none⟩ = some (.int .i64 0) := by simp [World.cell?, a1]
          have f1 : (w10.setCell ⟨Sb, 0, none⟩ (.slice none 0 0)).frozen? ⟨Sb, 1, none⟩ = false := by simp [World.frozen?, a1]
          have a2 := box_set a1 1 (.int .i64 0)
          simp only [List.setIfInBounds_toArray, List.set_cons_zero, List.set_cons_succ] at a2
          have hbZ : Below w.heap.size w ((w10.setCell ⟨Sb, 0, none⟩ (.slice none 0 0)).setCell ⟨Sb, 1, none⟩ (.int .i64 0)) := Below.grown hb11 ((set_grown w10 Sb 0 (.slice none 0 0)).trans (set_grown _ Sb 1 (.int .i64 0))) hb11.size (fun q e => by cases e; omega)
          have c0 : ((w10.setCell ⟨Sb, 0, none⟩ (.slice none 0 0)).setCell ⟨Sb, 1, none⟩ (.int .i64 0)).cell? ⟨Sb, 0, none⟩ = some (.slice none 0 0) := by simp [World.cell?, a2]
          have c1 : ((w10.setCell ⟨Sb, 0, none⟩ (.slice none 0 0)).setCell ⟨Sb, 1, none⟩ (.int .i64 0)).cell? ⟨Sb, 1, none⟩ = some (.int .i64 0) := by simp [World.cell?, a2]
          replace hbZ := Lib.hid hbZ
          clear a1 a2 hb11 bS10 hb10 bS9 HN hg
          go_wp2_with fail
          refine bodyPost_ret (v := .tuple #[.agg #[.slice none 0 0, .int .i64 0], .int .i64 x9.2, .int .i64 90]) ?_ rfl ⟨none, 0, [], 0, x9.2, 90, hbZ.out, rfl, ⟨⟨none, 0, rfl, .inl rfl⟩, fun x hx => by cases hx⟩, .inr ⟨k8, x9, hp.out, hx9.out, rfl, rfl, rfl, rfl⟩⟩
          simp [results, Tryd.results15, go_sem, c0, c1]
      · clear hmm
        have hmm := hm44
        have hbf : b = false := by have := hmm.out; simp at this; exact this.1
        subst hbf
        obtain ⟨hlk, hfk⟩ := hbd4.out rfl
        have hxx : (mayP ts 5 44 k || mayP ts 5 59 k) = true := by have := hmm.out; simp at this; simp [this]
        have hk1 : k + 1 < ts.length := may_lt hE.out (n := 44) (by have := hmm.out; simpa using this)
        obtain ⟨f, rfl⟩ : ∃ q, f = q + 1 := ⟨f - 1, by omega⟩
        have I3 := Lib.hid (is_R w6 44 (by decide) hP4)
        obtain ⟨st, hst⟩ : ∃ m, mayP ts 5 44 k = m := ⟨_, rfl⟩
        rw [show (!false && mayP ts 5 44 k) = st by rw [hst]; rfl] at I3
        replace hxx := Lib.hid hxx
        replace hst := Lib.hid hst
        go_wp2_with fail
        (with_reducible refine I3.out.mono ?_)
        rintro e w7 ⟨rfl, hg⟩
        replace hP4 := hP4.kept hg
        replace hg4 := grown_more hg4 (grownS hg)
        replace bO4 := box_kept bO4 (grownS (R := P) hg) hOP
        replace hOP4 := hOP4.kept hg (fun q e => by cases e)
        clear I3 hg
        have MG := Lib.hid (go1_R w7 hP4)
        go_wp2_with fail
        (with_reducible refine MG.out.mono ?_)
        rintro e w8 ⟨rfl, hP8, hg⟩
        rw [if_neg (by simp), if_pos hk1] at hP8
        replace hg4 := grown_more hg4 hg
        replace bO4 := box_kept bO4 hg hOP
        replace hOP4 := hOP4.kept hg (fun q e => by cases e; exact hPb)
        clear MG hg hP4
        go_upto_region 9 with fail
        obtain ⟨i0, hi, hz0, hz1, hz2⟩ := info_parts Tryd.info39
        have hi := Lib.hid hi
        have hM := Lib.hid (step_R (L.length : Int) st w8.drew hE.out hP8.drew)
        have hgd : W1.grownBy w8.drew (some P) := drewG hg4
        have hOd : OwnP w8.drew base (.slice va L.length vc) L := hOP4.kept (drew_grown w8 none) (fun q e => by cases e)
        have hBd : w8.drew.heap[O]? = some (.cells #[.slice va L.length vc, .int .i64 0] 25 (0, 0)) := bO4
        have hc0 : w8.drew.cell? ⟨O, 0, none⟩ = some (.slice va L.length vc) := by simp [World.cell?, hBd]
        have hc5 : w8.cell? ⟨O, 0, none⟩ = some (.slice va L.length vc) := by simp [World.cell?, bO4]
        obtain ⟨wd, hwd⟩ : ∃ wd, w8.drew = wd := ⟨_, rfl⟩
        rw [hwd] at hM hgd hOd hBd hc0
        have hbd : base ≤ wd.heap.size := by rw [← hsz]; exact hgd.size
        have hn := hP8.2.2.2.2
        clear hP8 hg4 bO4 hOP4
        go_region_law (first
          | (go_simp; (with_reducible refine hM.out.mono ?_); rintro e w5 ⟨u, s, k6, b6, rfl, ⟨vcs, rfl, hOs⟩, hP6, hg6, hS6⟩; obtain ⟨ca, cc, rfl⟩ := hOs.shape; have hcX : w5.cell? ⟨O, 0, none⟩ = some (.slice va L.length vc) := hg6.cell hc0 (fun e => hOP (Option.some.inj e)); have hcY := (World.grownBy_alloc w5 (.cells #[.bool s.neg, .int .i64 s.kind, .int .i64 s.min, .int .i64 s.max, .bool s.strict, .slice ca s.cs.length cc] 39) none).cell hcX (by simp); have hOP2 := (hOd.kept hg6 (fun q e => by cases e; omega)).kept (World.grownBy_alloc w5 (.cells #[.bool s.neg, .int .i64 s.kind, .int .i64 s.min, .int .i64 s.max, .bool s.strict, .slice ca s.cs.length cc] 39) none) (fun q e => by cases e); have hO1 := (hg6.block O (Array.getElem?_eq_some_iff.1 hBd).1 (fun e => hOP (Option.some.inj e))).trans hBd; have hOs2 := World.ownsRow.alloc (OwnC.mono hOs hbd) (.cells #[.bool s.neg, .int .i64 s.kind, .int .i64 s.min, .int .i64 s.max, .bool s.strict, .slice ca s.cs.length cc] 39); have hs1 : base ≤ w5.heap.size := Nat.le_trans hbd hg6.size; have hC6 := cells_new w5 [.bool s.neg, .int .i64 s.kind, .int .i64 s.min, .int .i64 s.max, .bool s.strict, .slice ca s.cs.length cc] 39)
          | (refine step_append_lies _ (by rfl) _ _ 23 (by rfl) base 39 i0 _ 6 64 Tryd.underlying23 hi.out hz0 hz1 hz2 rfl (by decide) (.slice va L.length vc) L.length (Tree.spsCells L) (by rfl) hOP2.1 ⟨w5.heap.size, 0, none⟩ 1 1 [.bool s.neg, .int .i64 s.kind, .int .i64 s.min, .int .i64 s.max, .bool s.strict, .slice ca s.cs.length cc] (by rfl) rfl hC6 (by simp [Value.oneCell']) (by decide) (by unfold maxLen; omega) (by omega) (by simp; omega) _ rfl ?_; intro g2 cap2 w6 hown hgrow hat hlt; have F2 := sp_app hgd hg6 hOP2 hOs2 hgrow hown hO1 hP6 hPb hgb hbb hOb hOP hOg; have p0 := F2.1; have f0 := F2.2.1))
        all_goals
          go_wp2_with fail
          refine ⟨⟨L ++ [(s, .slice ca s.cs.length cc)], _, k6, f, b6, F2.2.2.1, F2.2.2.2.1, F2.2.2.2.2.1, F2.2.2.2.2.2, ?_, Lib.hid ?_⟩, ?_⟩
          · intro hb
            subst hb
            have e1 : stepP ts (L.length : Int) st (k + 1) = .ok (s, k6) := by simpa [St, bd] using hS6
            have e2 := step_gt e1
            simp only [List.length_append, List.length_singleton] at e2 ⊢
            omega
          · rw [List.map_append]
            refine pj_next hPJ4.out hxx.out ?_
            rw [List.length_map, hst.out]
            exact hS6
          · rw [atM_pr F2.2.2.1 ts.length, hmes.out]
            cases b6
            · have e1 : stepP ts (L.length : Int) st (k + 1) = .ok (s, k6) := by simpa [St, bd] using hS6
              have e2 := step_gt e1
              simp only [Bool.false_eq_true, if_false] at e2 ⊢
              omega
            · simp
    · have hbf : b = false := by have := hmm.out; simp at this; exact this.1
      subst hbf
      obtain ⟨hlk, hfk⟩ := hbd4.out rfl
      have hxx : (mayP ts 5 44 k || mayP ts 5 59 k) = true := by have := hmm.out; simp at this; simp [this]
      have hk1 : k + 1 < ts.length := may_lt hE.out (n := 59) (by have := hmm.out; simpa using this)
      obtain ⟨f, rfl⟩ : ∃ q, f = q + 1 := ⟨f - 1, by omega⟩
      have I3 := Lib.hid (is_R w5 44 (by decide) hP4)
      obtain ⟨st, hst⟩ : ∃ m, mayP ts 5 44 k = m := ⟨_, rfl⟩
      rw [show (!false && mayP ts 5 44 k) = st by rw [hst]; rfl] at I3
      replace hxx := Lib.hid hxx
      replace hst := Lib.hid hst
      go_wp2_with fail
      (with_reducible refine I3.out.mono ?_)
      rintro e w7 ⟨rfl, hg⟩
      replace hP4 := hP4.kept hg
      replace hg4 := grown_more hg4 (grownS hg)
      replace bO4 := box_kept bO4 (grownS (R := P) hg) hOP
      replace hOP4 := hOP4.kept hg (fun q e => by cases e)
      clear I3 hg
      have MG := Lib.hid (go1_R w7 hP4)
      go_wp2_with fail
      (with_reducible refine MG.out.mono ?_)
      rintro e w8 ⟨rfl, hP8, hg⟩
      rw [if_neg (by simp), if_pos hk1] at hP8
      replace hg4 := grown_more hg4 hg
      replace bO4 := box_kept bO4 hg hOP
      replace hOP4 := hOP4.kept hg (fun q e => by cases e; exact hPb)
      clear MG hg hP4
      go_upto_region 9 with fail
      obtain ⟨i0, hi, hz0, hz1, hz2⟩ := info_parts Tryd.info39
      have hi := Lib.hid hi
      have hM := Lib.hid (step_R (L.length : Int) st w8.drew hE.out hP8.drew)
      have hgd : W1.grownBy w8.drew (some P) := drewG hg4
      have hOd : OwnP w8.drew base (.slice va L.length vc) L := hOP4.kept (drew_grown w8 none) (fun q e => by cases e)
      have hBd : w8.drew.heap[O]? = some (.cells #[.slice va L.length vc, .int .i64 0] 25 (0, 0)) := bO4
      have hc0 : w8.drew.cell? ⟨O, 0, none⟩ = some (.slice va L.length vc) := by simp [World.cell?, hBd]
      have hc5 : w8.cell? ⟨O, 0, none⟩ = some (.slice va L.length vc) := by simp [World.cell?, bO4]
      obtain ⟨wd, hwd⟩ : ∃ wd, w8.drew = wd := ⟨_, rfl⟩
      rw [hwd] at hM hgd hOd hBd hc0
      have hbd : base ≤ wd.heap.size := by rw [← hsz]; exact hgd.size
      have hn := hP8.2.2.2.2
      clear hP8 hg4 bO4 hOP4
      go_region_law (first
        | (go_simp; (with_reducible refine hM.out.mono ?_); rintro e w5 ⟨u, s, k6, b6, rfl, ⟨vcs, rfl, hOs⟩, hP6, hg6, hS6⟩; obtain ⟨ca, cc, rfl⟩ := hOs.shape; have hcX : w5.cell? ⟨O, 0, none⟩ = some (.slice va L.length vc) := hg6.cell hc0 (fun e => hOP (Option.some.inj e)); have hcY := (World.grownBy_alloc w5 (.cells #[.bool s.neg, .int .i64 s.kind, .int .i64 s.min, .int .i64 s.max, .bool s.strict, .slice ca s.cs.length cc] 39) none).cell hcX (by simp); have hOP2 := (hOd.kept hg6 (fun q e => by cases e; omega)).kept (World.grownBy_alloc w5 (.cells #[.bool s.neg, .int .i64 s.kind, .int .i64 s.min, .int .i64 s.max, .bool s.strict, .slice ca s.cs.length cc] 39) none) (fun q e => by cases e); have hO1 := (hg6.block O (Array.getElem?_eq_some_iff.1 hBd).1 (fun e => hOP (Option.some.inj e))).trans hBd; have hOs2 := World.ownsRow.alloc (OwnC.mono hOs hbd) (.cells #[.bool s.neg, .int .i64 s.kind, .int .i64 s.min, .int .i64 s.max, .bool s.strict, .slice ca s.cs.length cc] 39); have hs1 : base ≤ w5.heap.size := Nat.le_trans hbd hg6.size; have hC6 := cells_new w5 [.bool s.neg, .int .i64 s.kind, .int .i64 s.min, .int .i64 s.max, .bool s.strict, .slice ca s.cs.length cc] 39)
        | (refine step_append_lies _ (by rfl) _ _ 23 (by rfl) base 39 i0 _ 6 64 Tryd.underlying23 hi.out hz0 hz1 hz2 rfl (by decide) (.slice va L.length vc) L.length (Tree.spsCells L) (by rfl) hOP2.1 ⟨w5.heap.size, 0, none⟩ 1 1 [.bool s.neg, .int .i64 s.kind, .int .i64 s.min, .int .i64 s.max, .bool s.strict, .slice ca s.cs.length cc] (by rfl) rfl hC6 (by simp [Value.oneCell']) (by decide) (by unfold maxLen; omega) (by omega) (by simp; omega) _ rfl ?_; intro g2 cap2 w6 hown hgrow hat hlt; have F2 := sp_app hgd hg6 hOP2 hOs2 hgrow hown hO1 hP6 hPb hgb hbb hOb hOP hOg; have p0 := F2.1; have f0 := F2.2.1))
      all_goals
        go_wp2_with fail
        refine ⟨⟨L ++ [(s, .slice ca s.cs.length cc)], _, k6, f, b6, F2.2.2.1, F2.2.2.2.1, F2.2.2.2.2.1, F2.2.2.2.2.2, ?_, Lib.hid ?_⟩, ?_⟩
        · intro hb
          subst hb
          have e1 : stepP ts (L.length : Int) st (k + 1) = .ok (s, k6) := by simpa [St, bd] using hS6
          have e2 := step_gt e1
          simp only [List.length_append, List.length_singleton] at e2 ⊢
          omega
        · rw [List.map_append]
          refine pj_next hPJ4.out hxx.out ?_
          rw [List.length_map, hst.out]
          exact hS6
        · rw [atM_pr F2.2.2.1 ts.length, hmes.out]
          cases b6
          · have e1 : stepP ts (L.length : Int) st (k + 1) = .ok (s, k6) := by simpa [St, bd] using hS6
            have e2 := step_gt e1
            simp only [Bool.false_eq_true, if_false] at e2 ⊢
            omega
          · simp
end Go.Proofs.YtkedifhlkiffoaaDoor
