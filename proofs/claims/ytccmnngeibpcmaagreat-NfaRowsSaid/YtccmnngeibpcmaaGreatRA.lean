/-
  Terms, comparisons, steps and patterns as Lean data, and where they lie in memory.
-/
import Derived.Test.YtccmnngeibpcmaaGreatRows
import Derived.WalkKit
import Derived.ProofKit
import Derived.OpenShut
import Derived.Below
import Derived.IntWalk
import Derived.Lib.Hide
import Derived.BigQuiet
import Derived.Deep.QuietTactic
import Derived.WalkMore
import Derived.ScopeJumps
import Derived.RangeFuncRecord
namespace Go.Proofs.YtccmnngeibpcmaaGreat.Tree
open Go.ChangeShapes Go.WideShapes Go.ChangeAt Go.RowKit
set_option linter.unusedVariables false
set_option linter.unusedSimpArgs false
/-- A term. -/
structure Tm where
  k : Int
  n : Int
  s : Int
  r : Int
deriving DecidableEq
/-- A comparison. -/
structure Cp where
  op : Int
  l : Tm
  r : Tm
deriving DecidableEq
/-- A step. -/
structure Sp where
  neg : Bool
  kind : Int
  min : Int
  max : Int
  strict : Bool
  cs : List Cp
deriving DecidableEq
instance : Inhabited Tm := ⟨⟨0, 0, 0, 0⟩⟩
instance : Inhabited Cp := ⟨⟨0, default, default⟩⟩
instance : Inhabited Sp := ⟨⟨false, 0, 0, 0, false, []⟩⟩
abbrev tmV (t : Tm) : Value := .agg #[.int .u8 t.k, .int .i64 t.n, .int .i64 t.s, .int .i64 t.r]
abbrev cpV (c : Cp) : Value := .agg #[.int .u8 c.op, .int .u8 c.l.k, .int .i64 c.l.n, .int .i64 c.l.s, .int .i64 c.l.r, .int .u8 c.r.k, .int .i64 c.r.n, .int .i64 c.r.s, .int .i64 c.r.r]
abbrev spV (s : Sp) (v : Value) : Value := .agg #[.bool s.neg, .int .i64 s.kind, .int .i64 s.min, .int .i64 s.max, .bool s.strict, v]
abbrev ptV (v : Value) (win : Int) : Value := .agg #[v, .int .i64 win]
def cpsCells (cs : List Cp) : List Value := cs.flatMap fun c => [.int .u8 c.op, .int .u8 c.l.k, .int .i64 c.l.n, .int .i64 c.l.s, .int .i64 c.l.r, .int .u8 c.r.k, .int .i64 c.r.n, .int .i64 c.r.s, .int .i64 c.r.r]
def spsCells (L : List (Sp × Value)) : List Value := L.flatMap fun x => [.bool x.1.neg, .int .i64 x.1.kind, .int .i64 x.1.min, .int .i64 x.1.max, .bool x.1.strict, x.2]
/-- These cells lie at a (nowhere, if there are none). -/
def CellsAt (w : World) (a : Option Addr) (xs : List Value) : Prop := xs = [] ∨ ∃ b o, a = some ⟨b, o, none⟩ ∧ ∀ (j : Nat) u, xs[j]? = some u → w.cell? ⟨b, o + j, none⟩ = some u
theorem CellsAt.later {w w' : World} {a : Option Addr} {xs : List Value} (h : CellsAt w a xs) (hb : Below w.heap.size w w') : CellsAt w' a xs := by
  rcases h with h | ⟨b, o, rfl, h⟩
  · exact .inl h
  · exact .inr ⟨b, o, rfl, fun j u hj => by
      have := h j u hj
      exact (hb.cell (World.block_lt_of_cell? w _ this)).trans this⟩
/-- Comparisons in memory. -/
def CpsAt (w : World) (v : Value) (cs : List Cp) : Prop := ∃ a c, v = .slice a cs.length c ∧ CellsAt w a (cpsCells cs)
/-- Steps in memory, with the slices of their comparisons. -/
def SpsL (w : World) (v : Value) (L : List (Sp × Value)) : Prop := (∃ a c, v = .slice a L.length c ∧ CellsAt w a (spsCells L)) ∧ ∀ x ∈ L, CpsAt w x.2 x.1.cs
def SpsAt (w : World) (v : Value) (ss : List Sp) : Prop := ∃ L : List (Sp × Value), L.map (·.1) = ss ∧ SpsL w v L
theorem CpsAt.later {w w' : World} {v : Value} {cs : List Cp} (h : CpsAt w v cs) (hb : Below w.heap.size w w') : CpsAt w' v cs := by
  obtain ⟨a, c, e, h⟩ := h; exact ⟨a, c, e, h.later hb⟩
theorem SpsL.later {w w' : World} {v : Value} {L : List (Sp × Value)} (h : SpsL w v L) (hb : Below w.heap.size w w') : SpsL w' v L := by
  obtain ⟨⟨a, c, e, h⟩, h2⟩ := h; exact ⟨⟨a, c, e, h.later hb⟩, fun x hx => (h2 x hx).later hb⟩
theorem SpsAt.later {w w' : World} {v : Value} {ss : List Sp} (h : SpsAt w v ss) (hb : Below w.heap.size w w') : SpsAt w' v ss := by
  obtain ⟨L, e, h⟩ := h; exact ⟨L, e, h.later hb⟩
theorem flat_at {α : Type} (k : Nat) (f : α → List Value) (hf : ∀ x, (f x).length = k) (l : List α) (i : Nat) (x : α) (h : l[i]? = some x) (j : Nat) (hj : j < k) : (l.flatMap f)[i * k + j]? = (f x)[j]? := by
  induction l generalizing i with
  | nil => simp at h
  | cons y r ih =>
    rw [List.flatMap_cons]
    cases i with
    | zero =>
      simp at h; subst h
      rw [Nat.zero_mul, Nat.zero_add, List.getElem?_append_left (by rw [hf]; exact hj)]
    | succ i =>
      rw [List.getElem?_append_right (by rw [hf, Nat.succ_mul]; omega), hf, show (i + 1) * k + j - k = i * k + j by rw [Nat.succ_mul]; omega]
      exact ih i (by simpa using h)
/-- A step of a row: its cells. -/
theorem sps_cell {w : World} {a : Option Addr} {L : List (Sp × Value)} (h : CellsAt w a (spsCells L)) {i : Nat} {x : Sp × Value} (hx : L[i]? = some x) :
    ∃ b o, a = some ⟨b, o, none⟩ ∧ w.cell? ⟨b, o + i * 6, none⟩ = some (.bool x.1.neg) ∧ w.cell? ⟨b, o + i * 6 + 1, none⟩ = some (.int .i64 x.1.kind) ∧ w.cell? ⟨b, o + i * 6 + 2, none⟩ = some (.int .i64 x.1.min) ∧
      w.cell? ⟨b, o + i * 6 + 3, none⟩ = some (.int .i64 x.1.max) ∧ w.cell? ⟨b, o + i * 6 + 4, none⟩ = some (.bool x.1.strict) ∧ w.cell? ⟨b, o + i * 6 + 5, none⟩ = some x.2 := by
  have H := fun j hj => flat_at 6 (fun x : Sp × Value => [Value.bool x.1.neg, .int .i64 x.1.kind, .int .i64 x.1.min, .int .i64 x.1.max, .bool x.1.strict, x.2]) (fun _ => rfl) L i x hx j hj
  rcases h with h | ⟨b, o, rfl, h⟩
  · have := H 0 (by omega)
    rw [show (L.flatMap fun x : Sp × Value => [Value.bool x.1.neg, .int .i64 x.1.kind, .int .i64 x.1.min, .int .i64 x.1.max, .bool x.1.strict, x.2]) = [] from h] at this
    simp at this
  · exact ⟨b, o, rfl, h _ _ (H 0 (by omega)), h _ _ (H 1 (by omega)), h _ _ (H 2 (by omega)), h _ _ (H 3 (by omega)), h _ _ (H 4 (by omega)), h _ _ (H 5 (by omega))⟩
/-- A comparison of a row: its cells. -/
theorem cps_cell {w : World} {a : Option Addr} {cs : List Cp} (h : CellsAt w a (cpsCells cs)) {i : Nat} {x : Cp} (hx : cs[i]? = some x) :
    ∃ b o, a = some ⟨b, o, none⟩ ∧ w.cell? ⟨b, o + i * 9, none⟩ = some (.int .u8 x.op) ∧ w.cell? ⟨b, o + i * 9 + 1, none⟩ = some (.int .u8 x.l.k) ∧ w.cell? ⟨b, o + i * 9 + 2, none⟩ = some (.int .i64 x.l.n) ∧
      w.cell? ⟨b, o + i * 9 + 3, none⟩ = some (.int .i64 x.l.s) ∧ w.cell? ⟨b, o + i * 9 + 4, none⟩ = some (.int .i64 x.l.r) ∧ w.cell? ⟨b, o + i * 9 + 5, none⟩ = some (.int .u8 x.r.k) ∧
      w.cell? ⟨b, o + i * 9 + 6, none⟩ = some (.int .i64 x.r.n) ∧ w.cell? ⟨b, o + i * 9 + 7, none⟩ = some (.int .i64 x.r.s) ∧ w.cell? ⟨b, o + i * 9 + 8, none⟩ = some (.int .i64 x.r.r) := by
  have H := fun j hj => flat_at 9 (fun c : Cp => [Value.int .u8 c.op, .int .u8 c.l.k, .int .i64 c.l.n, .int .i64 c.l.s, .int .i64 c.l.r, .int .u8 c.r.k, .int .i64 c.r.n, .int .i64 c.r.s, .int .i64 c.r.r]) (fun _ => rfl) cs i x hx j hj
  rcases h with h | ⟨b, o, rfl, h⟩
  · have := H 0 (by omega)
    rw [show (cs.flatMap fun c : Cp => [Value.int .u8 c.op, .int .u8 c.l.k, .int .i64 c.l.n, .int .i64 c.l.s, .int .i64 c.l.r, .int .u8 c.r.k, .int .i64 c.r.n, .int .i64 c.r.s, .int .i64 c.r.r]) = [] from h] at this
    simp at this
  · exact ⟨b, o, rfl, h _ _ (H 0 (by omega)), h _ _ (H 1 (by omega)), h _ _ (H 2 (by omega)), h _ _ (H 3 (by omega)), h _ _ (H 4 (by omega)), h _ _ (H 5 (by omega)), h _ _ (H 6 (by omega)), h _ _ (H 7 (by omega)), h _ _ (H 8 (by omega))⟩
theorem jump_ret {l : Nat} {J : Act → World → Prop} {Q : Exit → Act → World → Prop} {a : Act} {w : World} : Exit.jump l J Q .ret a w = Q .ret a w := rfl
theorem jump_normal {l : Nat} {J : Act → World → Prop} {Q : Exit → Act → World → Prop} {a : Act} {w : World} : Exit.jump l J Q .normal a w = Q .normal a w := rfl
theorem bcell {w w' : World} {k : Nat} {a : Addr} {v : Value} (h : Below k w w') (hk : a.block < k) (hc : w.cell? a = some v) : w'.cell? a = some v := (h.cell hk).trans hc
/-- Patterns that are too great to be asked. -/
def great (ss : List Sp) : Bool := (ss.take 41).any (fun s => decide (20 < s.cs.length)) || decide (40 < ss.length)
end Go.Proofs.YtccmnngeibpcmaaGreat.Tree
