/-
  Rows of tokens: their cells, what the law and the document's own answer read of them; contract of the document's own Tokens at equal rows (at most 4000 tokens).
-/
import Derived.Test.YtmjpmcefoebjpaaDoorLJ
import Derived.Laws.StructEq
namespace Go.Proofs.YtmjpmcefoebjpaaDoor
open Go.ChangeShapes Go.WideShapes Go.ChangeAt Go.RowKit
set_option linter.unusedVariables false
set_option linter.unusedSimpArgs false
/-- These tokens lie in memory. -/
def TksAt (base : Nat) (v : Value) (ts : List (Tk × Nat)) (W : World) : Prop := W.ownsRow base 23 3 v ts.length (tkCells ts)
theorem TksAt.later {W W' : World} {base : Nat} {v : Value} {ts : List (Tk × Nat)} (h : TksAt base v ts W) (hb : Below W.heap.size W W') : TksAt base v ts W' := row_later h hb
theorem tkCells_at {ts : List (Tk × Nat)} {i : Nat} {x : Tk × Nat} (h : ts[i]? = some x) : (tkCells ts)[i * 3]? = some (.int .u8 x.1.k) ∧ (tkCells ts)[i * 3 + 1]? = some (.int .i64 x.1.n) ∧ (tkCells ts)[i * 3 + 2]? = some (.int .i64 x.2) := by
  induction ts generalizing i with
  | nil => simp at h
  | cons y r ih =>
    have e : tkCells (y :: r) = [.int .u8 y.1.k, .int .i64 y.1.n, .int .i64 y.2] ++ tkCells r := by simp [tkCells]
    rw [e]
    cases i with
    | zero => simp at h; subst h; simp
    | succ i =>
      have := ih (i := i) (by simpa using h)
      rw [show (i + 1) * 3 = i * 3 + 3 by omega]
      simpa using this
theorem tks_shape {W : World} {base : Nat} {v : Value} {ts : List (Tk × Nat)} (h : TksAt base v ts W) : v = .slice none 0 0 ∧ ts = [] ∨ ∃ g c, v = .slice (some ⟨g, 0, none⟩) ts.length c := by
  rcases h.2 with ⟨rfl, h0⟩ | ⟨g, cap, cur, rfl, _⟩
  · exact .inl ⟨rfl, List.eq_nil_of_length_eq_zero h0⟩
  · exact .inr ⟨g, cap, rfl⟩
theorem tks_len {W : World} {base g n c : Nat} {ts : List (Tk × Nat)} (h : TksAt base (.slice (some ⟨g, 0, none⟩) n c) ts W) : n = ts.length := by
  rcases h.2 with ⟨e, _⟩ | ⟨g', c', cur, e, _⟩
  · cases e
  · cases e; rfl
theorem tks_lt {W : World} {base g n c : Nat} {ts : List (Tk × Nat)} (h : TksAt base (.slice (some ⟨g, 0, none⟩) n c) ts W) : g < W.heap.size := (h.lt g rfl).2
/-- A token of a row: its cells. -/
theorem tks_cell {W : World} {base g n c i : Nat} {ts : List (Tk × Nat)} {x : Tk × Nat} (h : TksAt base (.slice (some ⟨g, 0, none⟩) n c) ts W) (hx : ts[i]? = some x) :
    W.cell? ⟨g, i * 3, none⟩ = some (.int .u8 x.1.k) ∧ W.cell? ⟨g, i * 3 + 1, none⟩ = some (.int .i64 x.1.n) ∧ W.cell? ⟨g, i * 3 + 2, none⟩ = some (.int .i64 x.2) := by
  have hi := (List.getElem?_eq_some_iff.1 hx).1
  obtain ⟨h0, h1, h2⟩ := tkCells_at hx
  have hn := tks_len h
  subst hn
  refine ⟨?_, ?_, ?_⟩
  · rw [World.ownsRow.cellAt h _ (by omega), h0]
  · rw [World.ownsRow.cellAt h _ (by omega), h1]
  · rw [World.ownsRow.cellAt h _ (by omega), h2]
set_option maxRecDepth 100000 in
set_option maxHeartbeats 2000000 in
theorem tokens_same_some (b1 b2 g1 c1 g2 c2 n : Nat) (ts : List (Tk × Nat)) (w : World) (h1 : TksAt b1 (.slice (some ⟨g1, 0, none⟩) n c1) ts w) (h2 : TksAt b2 (.slice (some ⟨g2, 0, none⟩) n c2) ts w) (hn : n ≤ 4000) :
    Calls Tryd.prog 11 #[.slice (some ⟨g1, 0, none⟩) n c1, .slice (some ⟨g2, 0, none⟩) n c2] w fun e w' => e = .returned (.bool true) ∧ Below w.heap.size w w' := by
  have hl := Lib.hid (tks_len h1)
  go_enter Tryd.func11, Tryd.ntmps11
  go_wp2
  go_loopw [5] (fun t wr => ∃ i : Nat, i ≤ n ∧ t = .int .i64 i ∧ ∃ m, wr = w.drewN m) (fun t _ => n - (intOf t).toNat)
  case atStart => exact ⟨0, Nat.zero_le _, rfl, 0, rfl⟩
  case round =>
    obtain ⟨i, hi, rfl, m, rfl⟩ := hrel
    by_cases hlt : i < n
    · obtain ⟨x, hx⟩ : ∃ x, ts[i]? = some x := ⟨_, List.getElem?_eq_getElem (by rw [← hl.out]; exact hlt)⟩
      obtain ⟨k0, k1, k2⟩ := tks_cell h1 hx
      obtain ⟨l0, l1, l2⟩ := tks_cell h2 hx
      have hlti : (i : Int) < n := by omega
      clear h1 h2 hx
      go_wp2_with fail
      go_quiet (fail)
      go_wp2
      exact ⟨⟨i + 1, by omega, by go_num, m + nq, by simp [World.drewN, Nat.add_assoc]⟩, by simp [intOf]; omega⟩
    · obtain rfl : i = n := by omega
      go_wp2
      go_ret
      exact ⟨rfl, ⟨rfl, rfl, rfl, Nat.le_refl _, fun _ _ => rfl⟩⟩
set_option maxRecDepth 100000 in
set_option maxHeartbeats 1000000 in
theorem tokens_same_none (a b : Option Addr) (c d : Nat) (w : World) : Calls Tryd.prog 11 #[.slice a 0 c, .slice b 0 d] w fun e w' => e = .returned (.bool true) ∧ Below w.heap.size w w' := by
  go_enter Tryd.func11, Tryd.ntmps11
  go_wp2
  go_loopw [5] (fun t wr => t = .int .i64 0 ∧ wr = w) (fun t _ => 0 - (intOf t).toNat)
  case atStart => exact ⟨rfl, rfl⟩
  case round =>
    obtain ⟨rfl, rfl⟩ := hrel
    go_wp2
    go_ret
    exact ⟨rfl, Below.refl _ _⟩
theorem tokens_same (b1 b2 : Nat) (u v : Value) (ts : List (Tk × Nat)) (w : World) (h1 : TksAt b1 u ts w) (h2 : TksAt b2 v ts w) (hn : ts.length ≤ 4000) :
    Calls Tryd.prog 11 #[u, v] w fun e w' => e = .returned (.bool true) ∧ Below w.heap.size w w' := by
  have sh : ∀ {b : Nat} {x : Value}, TksAt b x ts w → ∃ a c, x = .slice a ts.length c := fun {b x} h => by
    rcases tks_shape h with ⟨rfl, e⟩ | ⟨g, c, rfl⟩
    · rw [e]; exact ⟨_, _, rfl⟩
    · exact ⟨_, _, rfl⟩
  by_cases h0 : ts.length = 0
  · obtain ⟨a, c, rfl⟩ := sh h1
    obtain ⟨b, d, rfl⟩ := sh h2
    rw [h0]
    exact tokens_same_none _ _ _ _ w
  rcases tks_shape h1 with ⟨_, rfl⟩ | ⟨g1, c1, rfl⟩
  · exact absurd rfl h0
  rcases tks_shape h2 with ⟨_, rfl⟩ | ⟨g2, c2, rfl⟩
  · exact absurd rfl h0
  exact tokens_same_some b1 b2 g1 c1 g2 c2 ts.length ts w h1 h2 hn
end Go.Proofs.YtmjpmcefoebjpaaDoor
