/-
  What lies in memory behind wakes' first lines; each of its calls.
-/
import Derived.Test.YtkibnbcdmkogkaaAH
namespace Go.Proofs.Ytkibnbcdmkogkaa
open Go.ChangeShapes Go.WideShapes Go.ChangeAt Go.RowKit
set_option linter.unusedVariables false
set_option linter.unusedSimpArgs false
attribute [local go_sem] Oper.semAt_some
def cBad : Cp := ⟨1, ⟨2, 0, 0, 1⟩, ⟨0, 0, 0, 0⟩⟩
def sBad : Sp := ⟨true, 0, 1, 1, false, [cBad]⟩
abbrev LA (u1 u2 : Value) : List (Sp × Value) := [(sA, u1), (sB, u2)]
abbrev LB (x1 y : Value) : List (Sp × Value) := [(sA, x1), (sBad, y)]
/-- What lies in memory behind wakes' first two lines. -/
def Wk (w : World) (P1 g1 c1 d1 e1 d2 e2 : Nat) (v2 x1 y : Value) (X : World) : Prop :=
  PtBox P1 (.slice (some ⟨g1, 0, none⟩) 2 c1) 9 X ∧ PtBox (P1 + 1) v2 9 X ∧ OwnSps X w.heap.size (.slice (some ⟨g1, 0, none⟩) 2 c1) (LA (.slice (some ⟨d1, 0, none⟩) 1 e1) (.slice (some ⟨d2, 0, none⟩) 2 e2)) ∧ SpsL X v2 (LB x1 y) ∧ Below w.heap.size w X
theorem Wk.later {w : World} {P1 g1 c1 d1 e1 d2 e2 : Nat} {v2 x1 y : Value} {X Y : World} (h : Wk w P1 g1 c1 d1 e1 d2 e2 v2 x1 y X) (hb : Below X.heap.size X Y) : Wk w P1 g1 c1 d1 e1 d2 e2 v2 x1 y Y :=
  ⟨h.1.later hb, h.2.1.later hb, h.2.2.1.later hb, h.2.2.2.1.later hb, h.2.2.2.2.trans (hb.mono h.2.2.2.2.size)⟩
theorem wk_mid {w w1 w2 : World} {g1 c1 d1 e1 d2 e2 g2 c2 : Nat} {x1 x2 : Value} (B1 : Below w.heap.size w w1) (O1 : OwnSps w1 w.heap.size (.slice (some ⟨g1, 0, none⟩) 2 c1) (LA (.slice (some ⟨d1, 0, none⟩) 1 e1) (.slice (some ⟨d2, 0, none⟩) 2 e2)))
    (B2 : Below w1.heap.size w1 w2) (O2 : OwnSps w2 w1.heap.size (.slice (some ⟨g2, 0, none⟩) 2 c2) (LA x1 x2)) :
    Wk w w2.heap.size g1 c1 d1 e1 d2 e2 (.slice (some ⟨g2, 0, none⟩) 2 c2) x1 (.slice (some ⟨w2.heap.size + 1 + 1, 0, none⟩) 1 1)
      ((((w2.alloc (.cells #[.slice (some ⟨g1, 0, none⟩) 2 c1, .int .i64 9] 24)).alloc (.cells #[.slice (some ⟨g2, 0, none⟩) 2 c2, .int .i64 9] 24)).alloc (.cells #[.int .u8 1, .int .u8 2, .int .i64 0, .int .i64 0, .int .i64 1, .int .u8 0, .int .i64 0, .int .i64 0, .int .i64 0] 45)).setCell ⟨g2, 11, none⟩ (.slice (some ⟨w2.heap.size + 1 + 1, 0, none⟩) 1 1)) := by
  have hk := below_two w2 (.cells #[.slice (some ⟨g1, 0, none⟩) 2 c1, .int .i64 9] 24) (.cells #[.slice (some ⟨g2, 0, none⟩) 2 c2, .int .i64 9] 24)
  have hP1 : PtBox w2.heap.size (.slice (some ⟨g1, 0, none⟩) 2 c1) 9 ((w2.alloc (.cells #[.slice (some ⟨g1, 0, none⟩) 2 c1, .int .i64 9] 24)).alloc (.cells #[.slice (some ⟨g2, 0, none⟩) 2 c2, .int .i64 9] 24)) := (PtBox.new w2 _ _).later (kept_new _ _)
  have hP2 : PtBox (w2.heap.size + 1) (.slice (some ⟨g2, 0, none⟩) 2 c2) 9 ((w2.alloc (.cells #[.slice (some ⟨g1, 0, none⟩) 2 c1, .int .i64 9] 24)).alloc (.cells #[.slice (some ⟨g2, 0, none⟩) 2 c2, .int .i64 9] 24)) := new_two w2 _ _
  have hs2 : ((w2.alloc (.cells #[.slice (some ⟨g1, 0, none⟩) 2 c1, .int .i64 9] 24)).alloc (.cells #[.slice (some ⟨g2, 0, none⟩) 2 c2, .int .i64 9] 24)).heap.size = w2.heap.size + 1 + 1 := by simp
  generalize ((w2.alloc (.cells #[.slice (some ⟨g1, 0, none⟩) 2 c1, .int .i64 9] 24)).alloc (.cells #[.slice (some ⟨g2, 0, none⟩) 2 c2, .int .i64 9] 24)) = X2 at *
  have hk3 := kept_new X2 (.cells #[.int .u8 1, .int .u8 2, .int .i64 0, .int .i64 0, .int .i64 1, .int .u8 0, .int .i64 0, .int .i64 0, .int .i64 0] 45)
  have hnew := World.alloc_heap_new X2 (.cells #[.int .u8 1, .int .u8 2, .int .i64 0, .int .i64 0, .int .i64 1, .int .u8 0, .int .i64 0, .int .i64 0, .int .i64 0] 45)
  rw [hs2] at hnew
  generalize (X2.alloc (.cells #[.int .u8 1, .int .u8 2, .int .i64 0, .int .i64 0, .int .i64 1, .int .u8 0, .int .i64 0, .int .i64 0, .int .i64 0] 45)) = X3 at *
  have O3 := (O2.later hk).later hk3
  have hge : w1.heap.size ≤ g2 ∧ g2 < w2.heap.size := by
    rcases O2.1.2 with ⟨e, _⟩ | ⟨g, cap, cur, e, hb, hg, _⟩
    · cases e
    · cases e; exact ⟨hb, (Array.getElem?_eq_some_iff.1 hg).1⟩
  obtain ⟨st1, st2⟩ := O3.1.stored 11 (.slice (some ⟨w2.heap.size + 1 + 1, 0, none⟩) 1 1)
  have hB : Below w1.heap.size w1 (X3.setCell ⟨g2, 11, none⟩ (.slice (some ⟨w2.heap.size + 1 + 1, 0, none⟩) 1 1)) := (B2.trans ((kept_trans hk hk3).mono B2.size)).setCell (p := ⟨g2, 11, none⟩) hge.1 _
  refine ⟨block_far (hP1.later hk3) (by omega) _ _, block_far (hP2.later hk3) (by omega) _ _, O1.later hB, ⟨?_, ?_⟩, B1.trans (hB.mono B1.size)⟩
  · exact cells_of_row (xs := spsCells (LB x1 (.slice (some ⟨w2.heap.size + 1 + 1, 0, none⟩) 1 1))) st1
  · intro x hx
    rcases List.mem_cons.1 hx with rfl | hx
    · exact ((O3.2 _ (List.mem_cons_self ..)).kept st2 (fun r e => own_is O3.1 45 (by decide) r (by simpa [Value.ownBlock] using e))).cps
    · obtain rfl := List.mem_singleton.1 hx
      refine ⟨some ⟨w2.heap.size + 1 + 1, 0, none⟩, 1, rfl, .inr ⟨w2.heap.size + 1 + 1, 0, rfl, fun j v hj => ?_⟩⟩
      have hb4 := block_far (D := g2) (o := some (.cells #[.int .u8 1, .int .u8 2, .int .i64 0, .int .i64 0, .int .i64 1, .int .u8 0, .int .i64 0, .int .i64 0, .int .i64 0] 45 (0, 0))) hnew (by omega) 11 (.slice (some ⟨w2.heap.size + 1 + 1, 0, none⟩) 1 1)
      simp only [World.cell?, hb4]
      replace hj : ([.int .u8 1, .int .u8 2, .int .i64 0, .int .i64 0, .int .i64 1, .int .u8 0, .int .i64 0, .int .i64 0, .int .i64 0] : List Value)[j]? = some v := hj
      simpa using hj
/-- The cells that the law's one line reads. -/
theorem Wk.cells {w : World} {P1 g1 c1 d1 e1 d2 e2 : Nat} {v2 x1 y : Value} {X : World} (h : Wk w P1 g1 c1 d1 e1 d2 e2 v2 x1 y X) :
    X.cell? ⟨P1, 0, none⟩ = some (.slice (some ⟨g1, 0, none⟩) 2 c1) ∧ X.cell? ⟨P1, 1, none⟩ = some (.int .i64 9) ∧ X.cell? ⟨P1 + 1, 0, none⟩ = some v2 ∧ X.cell? ⟨P1 + 1, 1, none⟩ = some (.int .i64 9) ∧
      X.cell? ⟨g1, 5, none⟩ = some (.slice (some ⟨d1, 0, none⟩) 1 e1) ∧
      X.cell? ⟨d1, 1, none⟩ = some (.int .u8 5) ∧ X.cell? ⟨d1, 2, none⟩ = some (.int .i64 0) ∧ X.cell? ⟨d1, 3, none⟩ = some (.int .i64 2) ∧ X.cell? ⟨d1, 4, none⟩ = some (.int .i64 0) ∧
      X.cell? ⟨g1, 6, none⟩ = some (.bool true) ∧ X.cell? ⟨g1, 7, none⟩ = some (.int .i64 0) ∧ X.cell? ⟨g1, 8, none⟩ = some (.int .i64 1) ∧ X.cell? ⟨g1, 9, none⟩ = some (.int .i64 1) ∧ X.cell? ⟨g1, 10, none⟩ = some (.bool false) ∧
      X.cell? ⟨g1, 11, none⟩ = some (.slice (some ⟨d2, 0, none⟩) 2 e2) := by
  obtain ⟨h1, h2, h3, h4, h5⟩ := h
  obtain ⟨a0, a1, a2, a3, a4, a5, -⟩ := row_step (i := 0) h3.1 (by simp) rfl
  obtain ⟨b0, b1, b2, b3, b4, b5, -⟩ := row_step (i := 1) h3.1 (by simp) rfl
  have hd := h3.2 _ (List.mem_cons_self ..)
  have C := fun j (hj : j < 1 * 9) => World.ownsRow.cellAt (show X.ownsRow w.heap.size 45 9 (.slice (some ⟨d1, 0, none⟩) 1 e1) 1 (cpsCells sA.cs) from hd) j hj
  exact ⟨h1.c0, h1.c1, h2.c0, h2.c1, a5, C 1 (by omega), C 2 (by omega), C 3 (by omega), C 4 (by omega), b0, b1, b2, b3, b4, b5⟩
theorem Wk.all {w : World} {P1 g1 c1 d1 e1 d2 e2 : Nat} {v2 x1 y : Value} {X : World} (h : Wk w P1 g1 c1 d1 e1 d2 e2 v2 x1 y X) :
    (X.cell? ⟨P1, 0, none⟩ = some (.slice (some ⟨g1, 0, none⟩) 2 c1) ∧ X.cell? ⟨P1, 1, none⟩ = some (.int .i64 9) ∧ X.cell? ⟨P1 + 1, 0, none⟩ = some v2 ∧ X.cell? ⟨P1 + 1, 1, none⟩ = some (.int .i64 9) ∧
      X.cell? ⟨g1, 5, none⟩ = some (.slice (some ⟨d1, 0, none⟩) 1 e1) ∧
      X.cell? ⟨d1, 1, none⟩ = some (.int .u8 5) ∧ X.cell? ⟨d1, 2, none⟩ = some (.int .i64 0) ∧ X.cell? ⟨d1, 3, none⟩ = some (.int .i64 2) ∧ X.cell? ⟨d1, 4, none⟩ = some (.int .i64 0) ∧
      X.cell? ⟨g1, 6, none⟩ = some (.bool true) ∧ X.cell? ⟨g1, 7, none⟩ = some (.int .i64 0) ∧ X.cell? ⟨g1, 8, none⟩ = some (.int .i64 1) ∧ X.cell? ⟨g1, 9, none⟩ = some (.int .i64 1) ∧ X.cell? ⟨g1, 10, none⟩ = some (.bool false) ∧
      X.cell? ⟨g1, 11, none⟩ = some (.slice (some ⟨d2, 0, none⟩) 2 e2)) ∧ Wk w P1 g1 c1 d1 e1 d2 e2 v2 x1 y X := ⟨h.cells, h⟩
section
variable {w : World} {P1 g1 c1 d1 e1 d2 e2 : Nat} {v2 x1 y : Value} {X : World}
theorem smallA (u1 u2 : Value) : Small ((LA u1 u2).map (·.1)) := by
  refine ⟨show 2 ≤ 41 by omega, ?_⟩
  intro s hs
  have : s = sA ∨ s = sB := by simpa using hs
  rcases this with rfl | rfl <;> decide
theorem smallB (u1 u2 : Value) : Small ((LB u1 u2).map (·.1)) := by
  refine ⟨show 2 ≤ 41 by omega, ?_⟩
  intro s hs
  have : s = sA ∨ s = sBad := by simpa using hs
  rcases this with rfl | rfl <;> decide
theorem opsA (u1 u2 : Value) : OpsOk (LA u1 u2) := by
  intro x hx
  have : x = (sA, u1) ∨ x = (sB, u2) := by simpa using hx
  rcases this with rfl | rfl
  · exact show ∀ c ∈ sA.cs, 0 ≤ c.op by decide
  · exact show ∀ c ∈ sB.cs, 0 ≤ c.op by decide
theorem opsB (u1 u2 : Value) : OpsOk (LB u1 u2) := by
  intro x hx
  have : x = (sA, u1) ∨ x = (sBad, u2) := by simpa using hx
  rcases this with rfl | rfl
  · exact show ∀ c ∈ sA.cs, 0 ≤ c.op by decide
  · exact show ∀ c ∈ sBad.cs, 0 ≤ c.op by decide
theorem Wk.sps (h : Wk w P1 g1 c1 d1 e1 d2 e2 v2 x1 y X) : SpsL X (.slice (some ⟨g1, 0, none⟩) 2 c1) (LA (.slice (some ⟨d1, 0, none⟩) 1 e1) (.slice (some ⟨d2, 0, none⟩) 2 e2)) := h.2.2.1.sps
theorem wkLong (h : Wk w P1 g1 c1 d1 e1 d2 e2 v2 x1 y X) :
    Calls Try.prog 10 #[ptV (.slice (some ⟨g1, 0, none⟩) 2 c1) 9] X fun e Y => e = .returned (.tuple #[.int .i64 1, .int .i64 3]) ∧ Wk w P1 g1 c1 d1 e1 d2 e2 v2 x1 y Y :=
  (long_V 9 (smallA _ _) X h.sps).mono fun e Y ⟨he, hb⟩ => ⟨he, h.later hb⟩
theorem wkNames1 (h : Wk w P1 g1 c1 d1 e1 d2 e2 v2 x1 y X) :
    Calls Try.prog 17 #[.agg #[.int .u8 5, .int .i64 0, .int .i64 2, .int .i64 0]] X fun e Y => ∃ n, e = .returned n ∧ IntsAt Y n [2, 0] ∧ Wk w P1 g1 c1 d1 e1 d2 e2 v2 x1 y Y ∧ Below X.heap.size X Y :=
  (names_any ⟨5, 0, 2, 0⟩ X).mono fun e Y ⟨v, he, hr, hb⟩ => ⟨v, he, IntsAt.of_row hr, h.later hb, hb⟩
theorem wkNames2 (h : Wk w P1 g1 c1 d1 e1 d2 e2 v2 x1 y X) :
    Calls Try.prog 17 #[.agg #[.int .u8 0, .int .i64 3, .int .i64 0, .int .i64 0]] X fun e Y => ∃ a c, e = .returned (.slice a 0 c) ∧ Wk w P1 g1 c1 d1 e1 d2 e2 v2 x1 y Y ∧ Below X.heap.size X Y :=
  (names_any ⟨0, 3, 0, 0⟩ X).mono fun e Y ⟨v, he, hr, hb⟩ => by
    obtain ⟨a, c, rfl⟩ := IntsAt.lit (n := 0) (IntsAt.of_row hr) rfl
    exact ⟨a, c, he, h.later hb, hb⟩
theorem askedB : setOf (namesC sB.cs) = [0, 1, 2] := by
  have e : namesC sB.cs = [2, 0, 1, 0] := by decide
  rw [e]
  refine setOf_eq (by unfold Rising; decide) ?_
  intro x
  simp only [List.mem_cons, List.not_mem_nil, or_false]
  omega
theorem wkAsked (h : Wk w P1 g1 c1 d1 e1 d2 e2 v2 x1 y X) :
    Calls Try.prog 13 #[.agg #[.bool true, .int .i64 0, .int .i64 1, .int .i64 1, .bool false, .slice (some ⟨d2, 0, none⟩) 2 e2]] X fun e Y => ∃ n, e = .returned n ∧ IntsAt Y n [0, 1, 2] ∧ Wk w P1 g1 c1 d1 e1 d2 e2 v2 x1 y Y ∧ Below X.heap.size X Y :=
  (asked_V sB (v := .slice (some ⟨d2, 0, none⟩) 2 e2) (by decide) X (h.sps.2 (sB, .slice (some ⟨d2, 0, none⟩) 2 e2) (List.mem_cons_of_mem _ (List.mem_singleton.2 rfl)))).mono fun e Y ⟨v, he, hr, hb⟩ => ⟨v, he, by have := IntsAt.of_row hr; rwa [askedB] at this, h.later hb, hb⟩
theorem wkPos (h : Wk w P1 g1 c1 d1 e1 d2 e2 v2 x1 y X) :
    Calls Try.prog 19 #[.agg #[.slice (some ⟨g1, 0, none⟩) 2 c1, .int .i64 9]] X fun e Y => ∃ n, e = .returned n ∧ IntsAt Y n [0] ∧ Wk w P1 g1 c1 d1 e1 d2 e2 v2 x1 y Y ∧ Below X.heap.size X Y :=
  (positive_V 9 (smallA _ _) X h.sps).mono fun e Y ⟨v, he, hr, hb⟩ => ⟨v, he, IntsAt.of_row hr, h.later hb, hb⟩
theorem wkSize (h : Wk w P1 g1 c1 d1 e1 d2 e2 v2 x1 y X) :
    Calls Try.prog 21 #[.agg #[.slice (some ⟨g1, 0, none⟩) 2 c1, .int .i64 9]] X fun e Y => e = .returned (.int .i64 11) ∧ Wk w P1 g1 c1 d1 e1 d2 e2 v2 x1 y Y ∧ Below X.heap.size X Y :=
  (size_V 9 (smallA _ _) X h.sps).mono fun e Y ⟨he, hb⟩ => ⟨he, h.later hb, hb⟩
theorem wkRight (h : Wk w P1 g1 c1 d1 e1 d2 e2 v2 x1 y X) :
    Calls Try.prog 15 #[.agg #[.slice (some ⟨g1, 0, none⟩) 2 c1, .int .i64 9]] X fun e Y => e = .returned (.bool true) ∧ Wk w P1 g1 c1 d1 e1 d2 e2 v2 x1 y Y ∧ Below X.heap.size X Y :=
  (right_V 9 (smallA _ _).short (opsA _ _) X h.sps).mono fun e Y ⟨he, hb⟩ => ⟨he, h.later hb, hb⟩
theorem wkRightBad (h : Wk w P1 g1 c1 d1 e1 d2 e2 v2 x1 y X) :
    Calls Try.prog 15 #[.agg #[v2, .int .i64 9]] X fun e Y => e = .returned (.bool false) ∧ Wk w P1 g1 c1 d1 e1 d2 e2 v2 x1 y Y ∧ Below X.heap.size X Y :=
  (right_V 9 (smallB _ _).short (opsB _ _) X h.2.2.2.1).mono fun e Y ⟨he, hb⟩ => ⟨he, h.later hb, hb⟩
theorem wkRightNil (h : Wk w P1 g1 c1 d1 e1 d2 e2 v2 x1 y X) :
    Calls Try.prog 15 #[.agg #[.slice none 0 0, .int .i64 0]] X fun e Y => e = .returned (.bool false) ∧ Wk w P1 g1 c1 d1 e1 d2 e2 v2 x1 y Y ∧ Below X.heap.size X Y :=
  (right_V (v := .slice none 0 0) (L := []) 0 ⟨by simp, by simp⟩ (by simp [OpsOk]) X ⟨⟨none, 0, rfl, .inl rfl⟩, by simp⟩).mono fun e Y ⟨he, hb⟩ => ⟨he, h.later hb, hb⟩
/-- The law's own pattern lies here. -/
def AsA (X : World) (v : Value) : Prop := ∃ L, SpsL X v L ∧ L.map (·.1) = [sA, sB]
theorem AsA.later {X Y : World} {v : Value} (h : AsA X v) (hb : Below X.heap.size X Y) : AsA Y v := by
  obtain ⟨L, h1, h2⟩ := h; exact ⟨L, h1.later hb, h2⟩
theorem wkOwn (h : Wk w P1 g1 c1 d1 e1 d2 e2 v2 x1 y X) :
    Calls Try.prog 25 #[.agg #[.slice (some ⟨g1, 0, none⟩) 2 c1, .int .i64 9]] X fun e Y => ∃ v, e = .returned (.agg #[v, .int .i64 9]) ∧ AsA Y v ∧ Wk w P1 g1 c1 d1 e1 d2 e2 v2 x1 y Y ∧ Below X.heap.size X Y :=
  (own_V 9 (smallA _ _).fits X h.sps).mono fun e Y ⟨v, L, he, hr, hL, hb⟩ => ⟨v, he, ⟨L, hr.sps, hL⟩, h.later hb, hb⟩
theorem wkSameOwn {v : Value} (h : Wk w P1 g1 c1 d1 e1 d2 e2 v2 x1 y X) (hA : AsA X v) :
    Calls Try.prog 23 #[.agg #[v, .int .i64 9], .agg #[.slice (some ⟨g1, 0, none⟩) 2 c1, .int .i64 9]] X fun e Y => e = .returned (.bool true) ∧ Wk w P1 g1 c1 d1 e1 d2 e2 v2 x1 y Y ∧ Below X.heap.size X Y := by
  obtain ⟨L, h1, h2⟩ := hA
  have hS : Small (L.map (·.1)) := by rw [h2]; exact smallA undef undef
  refine (same_V 9 9 hS.short (smallA _ _).short X h1 h.sps).mono fun e Y ⟨he, hb⟩ => ⟨?_, h.later hb, hb⟩
  rw [he, h2]
  rfl
theorem wkSameBad (h : Wk w P1 g1 c1 d1 e1 d2 e2 v2 x1 y X) :
    Calls Try.prog 23 #[.agg #[.slice (some ⟨g1, 0, none⟩) 2 c1, .int .i64 9], .agg #[v2, .int .i64 9]] X fun e Y => e = .returned (.bool false) ∧ Wk w P1 g1 c1 d1 e1 d2 e2 v2 x1 y Y ∧ Below X.heap.size X Y :=
  (same_V 9 9 (smallA _ _).short (smallB _ _).short X h.sps h.2.2.2.1).mono fun e Y ⟨he, hb⟩ => ⟨he, h.later hb, hb⟩
theorem wkInts {v u : Value} {l : List Int} (h : Wk w P1 g1 c1 d1 e1 d2 e2 v2 x1 y X) (h1 : IntsAt X v l) (h2 : IntsAt X u l) (hs : l.length ≤ 10) :
    Calls Try.prog 12 #[v, u] X fun e Y => e = .returned (.bool true) ∧ Wk w P1 g1 c1 d1 e1 d2 e2 v2 x1 y Y ∧ Below X.heap.size X Y :=
  (ints_any h1 h2 (Nat.le_trans hs (by omega))).mono fun e Y ⟨he, hb⟩ => ⟨by rw [he, decide_eq_true rfl], h.later hb, hb⟩
theorem wkEnd (h : Wk w P1 g1 c1 d1 e1 d2 e2 v2 x1 y X) : Below w.heap.size w X := h.2.2.2.2
theorem lit20 (W : World) : IntsAt (W.alloc (.cells #[.int .i64 2, .int .i64 0] 3)) (.slice (some ⟨W.heap.size, 0, none⟩) 2 2) [2, 0] := lit_ints W [2, 0]
theorem lit012 (W : World) : IntsAt (W.alloc (.cells #[.int .i64 0, .int .i64 1, .int .i64 2] 3)) (.slice (some ⟨W.heap.size, 0, none⟩) 3 3) [0, 1, 2] := lit_ints W [0, 1, 2]
theorem lit20d (W : World) : IntsAt ((W.alloc (.cells #[.int .i64 2, .int .i64 0] 3)).drew) (.slice (some ⟨W.heap.size, 0, none⟩) 2 2) [2, 0] := (lit_ints W [2, 0]).later (Below.refl _ _).drew
theorem lit0 (W : World) : IntsAt (W.alloc (.cells #[.int .i64 0] 3)) (.slice (some ⟨W.heap.size, 0, none⟩) 1 1) [0] := lit_ints W [0]
end
end Go.Proofs.Ytkibnbcdmkogkaa
