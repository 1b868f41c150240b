/-
  Rows of tokens: their cells, what the law and the document's own answer read of them; contract of the document's own Tokens at equal rows (at most 4000 tokens).
-/
import Derived.Test.YtkedifhlkiffoaaDoorLJ
import Derived.Laws.StructEq
namespace Go.Proofs.YtkedifhlkiffoaaDoor
open Go.ChangeShapes Go.WideShapes Go.ChangeAt Go.RowKit
set_option linter.unusedVariables false
set_option linter.unusedSimpArgs false
/-- These tokens lie in memory. -/
def TksAt (base : Nat) (v : Value) (ts : List (Tk × Nat)) (W : World) : Prop := W.ownsRow base 35 3 v ts.length (tkCells ts)
theorem TksAt.later {W W' : World} {base : Nat} {v : Value} {ts : List (Tk × Nat)} (h : TksAt base v ts W) (hb : Below W.heap.size W W') : TksAt base v ts W' := row_later h hb
theorem tkCells_at {ts : List (Tk × Nat)} {i : Nat} {x : Tk × Nat} (h : ts[i]? = some x) : (tkCells ts)[i * 3]? = some (.int .u8 x.1.k) ∧ (tkCells ts)[i * 3 + 1]? = some (.int .i64 x.1.n) ∧ (tkCells ts)[i * 3 + 2]? = some (.int .i64 x.2) := by
  induction ts generalizing i with
  | nil => simp at h
  | cons y r ih =>
    have e : tkCells (y :: r) = [.int .u8 y.1.k, .int .i64 y.1.n, .int .i64 y.2] ++ tkCells r := by simp [tkCells]
    rw [e]
    cases i with
    | zero => simp at h; subst h; simp
    | succ i =>
      have := ih (i := i) (by simpa using h)
      rw [show (i + 1) * 3 = i * 3 + 3 by omega]
      simpa using this
theorem tks_shape {W : World} {base : Nat} {v : Value} {ts : List (Tk × Nat)} (h : TksAt base v ts W) : v = .slice none 0 0 ∧ ts = [] ∨ ∃ g c, v = .slice (some ⟨g, 0, none⟩) ts.length c := by
  rcases h.2 with ⟨rfl, h0⟩ | ⟨g, cap, cur, rfl, _⟩
  · exact .inl ⟨rfl, List.eq_nil_of_length_eq_zero h0⟩
  · exact .inr ⟨g, cap, rfl⟩
theorem tks_len {W : World} {base g n c : Nat} {ts : List (Tk × Nat)} (h : TksAt base (.slice (some ⟨g, 0, none⟩) n c) ts W) : n = ts.length := by
  rcases h.2 with ⟨e, _⟩ | ⟨g', c', cur, e, _⟩
  · cases e
  · cases e; rfl
theorem tks_lt {W : World} {base g n c : Nat} {ts : List (Tk × Nat)} (h : TksAt base (.slice (some ⟨g, 0, none⟩) n c) ts W) : g < W.heap.size := (h.lt g rfl).2
/-- A token of a row: its cells. -/
theorem tks_cell {W : World} {base g n c i : Nat} {ts : List (Tk × Nat)} {x : Tk × Nat} (h : TksAt base (.slice (some ⟨g, 0, none⟩) n c) ts W) (hx : ts[i]? = some x) :
    W.cell? ⟨g, i * 3, none⟩ = some (.int .u8 x.1.k) ∧ W.cell? ⟨g, i * 3 + 1, none⟩ = some (.int .i64 x.1.n) ∧ W.cell? ⟨g, i * 3 + 2, none⟩ = some (.int .i64 x.2) := by
  have hi := (List.getElem?_eq_some_iff.1 hx).1
  obtain ⟨h0, h1, h2⟩ := tkCells_at hx
  have hn := tks_len h
  subst hn
  refine ⟨?_, ?_, ?_⟩
  · rw [World.ownsRow.cellAt h _ (by omega), h0]
  · rw [World.ownsRow.cellAt h _ (by omega), h1]
  · rw [World.ownsRow.cellAt h _ (by omega), h2]
end Go.Proofs.YtkedifhlkiffoaaDoor
