/-
  Contract of the document's own step.
-/
import Derived.Test.YtccmnngeibpcmaaGreatRJ
namespace Go.Proofs.YtccmnngeibpcmaaGreat.Tree
open Go.ChangeShapes Go.WideShapes Go.ChangeAt Go.RowKit
set_option linter.unusedVariables false
set_option linter.unusedSimpArgs false
attribute [local go_sem] Oper.semAt_some
theorem cps_lit {w : World} {v : Value} {cs : List Cp} {n : Nat} (h : CpsAt w v cs) (hn : cs.length = n) : ∃ a c, v = .slice a n c := by
  obtain ⟨a, c, e, -⟩ := h
  exact ⟨a, c, by rw [e, hn]⟩
theorem cpsL_at {w : World} {a : Option Addr} {n c : Nat} {cs : List Cp} (h : CpsAt w (.slice a n c) cs) (hn : cs.length = n) {i : Nat} {x : Cp} (hx : cs[i]? = some x) :
    ∃ b o, a = some ⟨b, o, none⟩ ∧ w.cell? ⟨b, o + i * 9, none⟩ = some (.int .u8 x.op) ∧ w.cell? ⟨b, o + i * 9 + 1, none⟩ = some (.int .u8 x.l.k) ∧ w.cell? ⟨b, o + i * 9 + 2, none⟩ = some (.int .i64 x.l.n) ∧
      w.cell? ⟨b, o + i * 9 + 3, none⟩ = some (.int .i64 x.l.s) ∧ w.cell? ⟨b, o + i * 9 + 4, none⟩ = some (.int .i64 x.l.r) ∧ w.cell? ⟨b, o + i * 9 + 5, none⟩ = some (.int .u8 x.r.k) ∧
      w.cell? ⟨b, o + i * 9 + 6, none⟩ = some (.int .i64 x.r.n) ∧ w.cell? ⟨b, o + i * 9 + 7, none⟩ = some (.int .i64 x.r.s) ∧ w.cell? ⟨b, o + i * 9 + 8, none⟩ = some (.int .i64 x.r.r) := by
  obtain ⟨a', c', e, hc⟩ := h
  rw [hn] at e
  obtain ⟨rfl, rfl⟩ := slice_eq e
  exact cps_cell hc hx
theorem drewN_kept (w : World) (m : Nat) : Below w.heap.size w (w.drewN m) := ⟨rfl, rfl, rfl, Nat.le_refl _, fun _ _ => rfl⟩
end Go.Proofs.YtccmnngeibpcmaaGreat.Tree
