/-
  A pattern that came in, opened, its slice's room told too; pure facts of the last positive step.
-/
import Derived.Test.YtccmnngeibpcmaaGreatRAJ
import Derived.Test.YtccmnngeibpcmaaGreatRAL
import Derived.Test.YtccmnngeibpcmaaGreatCG
namespace Go.Proofs.YtccmnngeibpcmaaGreat.Tree
open Go.ChangeShapes Go.WideShapes Go.ChangeAt Go.RowKit Go.Joins Go.Deep
set_option linter.unusedVariables false
set_option maxRecDepth 100000
set_option linter.unusedSimpArgs false
def Roomy (v : Value) : Prop := ∀ a n c, v = .slice a n c → n ≤ c
theorem open_ptc {H : Type} {enc : TypeId × Value → H} {w : World} {base : Nat} {spare : Nat → Bool} {held : Bool} {r : Reach} {b0 : Nat} {v : Value} {d : DataW H} {p : List MemPlace} (hv : Value.okWide Tryz.prog w r b0 24 v) (h : DataW.Trod enc Tryz.prog w base spare held 24 v d p) :
    ∃ (u : Value) (L : List (Sp × Value)) (win : Int), v = ptV u win ∧ SpsL w u L ∧ (L.length ≤ maxLen ∧ Roomy u) ∧ ∀ x ∈ L, InSp w x := by
  obtain ⟨v0, v1, y0, y1, n, rfl, -, -, h0, h1⟩ := open_agg2 Tryz.underlying24 (by kernel_rfl) cells24 hv h
  obtain ⟨L, hL, hl, hq⟩ := open_sps h0
  obtain ⟨win, e1, -, -⟩ := DataW.trod_int Tryz.underlying3 h1
  simp at e1
  subst e1
  refine ⟨v0, L, win, rfl, hL, ⟨hl, ?_⟩, hq⟩
  rintro a n c rfl
  rcases open_slice Tryz.underlying22 h0 with ⟨e, -⟩ | ⟨a, len, cap, m, n, D, Pl, e, hb, hl, hm, -, -, -⟩
  · simp at e; omega
  · simp at e; omega
theorem lastU_spec (ss : List Sp) (n : Nat) : (lastU ss n = -1 ∨ ∃ k : Nat, k < n ∧ lastU ss n = k ∧ (stepA ss k).neg = false) ∧ ∀ i : Nat, lastU ss n < i → i < n → (stepA ss i).neg = true := by
  induction n with
  | zero => exact ⟨.inl rfl, fun i _ h => by omega⟩
  | succ n ih =>
    unfold lastU
    cases h : (stepA ss n).neg with
    | true =>
      simp only [if_true]
      refine ⟨?_, fun i h1 h2 => ?_⟩
      · rcases ih.1 with h | ⟨k, h1, h2, h3⟩
        · exact .inl h
        · exact .inr ⟨k, by omega, h2, h3⟩
      · by_cases e : i = n
        · subst e; exact h
        · exact ih.2 i h1 (by omega)
    | false =>
      simp only [Bool.false_eq_true, if_false]
      exact ⟨.inr ⟨n, by omega, rfl, h⟩, fun i h1 h2 => by omega⟩
end Go.Proofs.YtccmnngeibpcmaaGreat.Tree
