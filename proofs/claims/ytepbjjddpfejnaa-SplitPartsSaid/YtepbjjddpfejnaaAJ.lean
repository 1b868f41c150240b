/-
  Contract of the document's own Same at equal rows of records whose parts are numbers; condition: at most 4000 records.
-/
import Derived.Test.YtepbjjddpfejnaaAI
namespace Go.Proofs.Ytepbjjddpfejnaa
open Go.ChangeShapes Go.WideShapes Go.ChangeAt Go.RowKit
set_option linter.unusedVariables false
set_option linter.unusedSimpArgs false
theorem rcCells_at {rs : List Rc} {i : Nat} {r : Rc} (h : rs[i]? = some r) (j : Nat) (hj : j < 8) : (rcCells rs)[i * 8 + j]? = r.cells[j]? := by
  induction rs generalizing i with
  | nil => simp at h
  | cons y t ih =>
    have e : rcCells (y :: t) = y.cells ++ rcCells t := by simp [rcCells]
    have hl : y.cells.length = 8 := rfl
    rw [e]
    cases i with
    | zero =>
      simp at h
      subst h
      rw [Nat.zero_mul, Nat.zero_add, List.getElem?_append_left (by omega)]
    | succ i =>
      rw [List.getElem?_append_right (by omega), hl, show (i + 1) * 8 + j - 8 = i * 8 + j by omega]
      exact ih (by simpa using h)
theorem rcs_cell {W : World} {base g n c i : Nat} {rs : List Rc} {r : Rc} (h : RcsAt base (.slice (some ⟨g, 0, none⟩) n c) rs W) (hx : rs[i]? = some r) (j : Nat) (hj : j < 8) : W.cell? ⟨g, i * 8 + j, none⟩ = r.cells[j]? := by
  have hi := (List.getElem?_eq_some_iff.1 hx).1
  have hn : n = rs.length := by
    rcases h.2 with ⟨e, _⟩ | ⟨g', c', cur, e, _⟩
    · cases e
    · cases e; rfl
  subst hn
  rw [World.ownsRow.cellAt h _ (by omega), rcCells_at hx j hj]
theorem rcs_shape {W : World} {base : Nat} {v : Value} {rs : List Rc} (h : RcsAt base v rs W) : v = .slice none 0 0 ∧ rs = [] ∨ ∃ g c, v = .slice (some ⟨g, 0, none⟩) rs.length c := by
  rcases h.2 with ⟨rfl, h0⟩ | ⟨g, cap, cur, rfl, _⟩
  · exact .inl ⟨rfl, List.eq_nil_of_length_eq_zero h0⟩
  · exact .inr ⟨g, cap, rfl⟩
theorem RcsAt.later {W W' : World} {base : Nat} {v : Value} {rs : List Rc} (h : RcsAt base v rs W) (hb : Below W.heap.size W W') : RcsAt base v rs W' := row_later h hb
set_option maxRecDepth 100000 in
set_option maxHeartbeats 4000000 in
theorem recs_same_some (b1 b2 g1 c1 g2 c2 n : Nat) (rs : List Rc) (w : World) (h1 : RcsAt b1 (.slice (some ⟨g1, 0, none⟩) n c1) rs w) (h2 : RcsAt b2 (.slice (some ⟨g2, 0, none⟩) n c2) rs w) (hL : rs.length = n) (hs : ∀ r ∈ rs, SelfR r) (hn : n ≤ 4000) :
    Calls Try.prog 12 #[.slice (some ⟨g1, 0, none⟩) n c1, .slice (some ⟨g2, 0, none⟩) n c2] w fun e w' => e = .returned (.bool true) ∧ Below w.heap.size w w' := by
  go_enter Try.func12, Try.ntmps12
  go_wp2
  go_loopw [5] (fun t wr => ∃ i : Nat, i ≤ n ∧ t = .int .i64 i ∧ Below w.heap.size w wr) (fun t _ => n - (intOf t).toNat)
  case atStart => exact ⟨0, Nat.zero_le _, rfl, Below.refl _ _⟩
  case round =>
    obtain ⟨i, hi, rfl, hb⟩ := hrel
    by_cases hlt : i < n
    · obtain ⟨r, hx⟩ : ∃ r, rs[i]? = some r := ⟨_, List.getElem?_eq_getElem (by omega)⟩
      have hS := Lib.hid (fun w => refSame_self r (hs r (List.mem_of_getElem? hx)).1 (hs r (List.mem_of_getElem? hx)).2 w)
      have g1' := h1.later hb
      have g2' := h2.later hb
      have a0 : wr.cell? ⟨g1, i * 8, none⟩ = _ := rcs_cell g1' hx 0 (by omega)
      have a1 := rcs_cell g1' hx 1 (by omega)
      have a2 := rcs_cell g1' hx 2 (by omega)
      have a3 := rcs_cell g1' hx 3 (by omega)
      have a4 := rcs_cell g1' hx 4 (by omega)
      have a5 := rcs_cell g1' hx 5 (by omega)
      have a6 := rcs_cell g1' hx 6 (by omega)
      have a7 := rcs_cell g1' hx 7 (by omega)
      have e0 : wr.cell? ⟨g2, i * 8, none⟩ = _ := rcs_cell g2' hx 0 (by omega)
      have e1 := rcs_cell g2' hx 1 (by omega)
      have e2 := rcs_cell g2' hx 2 (by omega)
      have e3 := rcs_cell g2' hx 3 (by omega)
      have e4 := rcs_cell g2' hx 4 (by omega)
      have e5 := rcs_cell g2' hx 5 (by omega)
      have e6 := rcs_cell g2' hx 6 (by omega)
      have e7 := rcs_cell g2' hx 7 (by omega)
      simp only [Rc.cells, List.getElem?_cons_zero, List.getElem?_cons_succ] at a0 a1 a2 a3 a4 a5 a6 a7 e0 e1 e2 e3 e4 e5 e6 e7
      have hlti : (i : Int) < n := by omega
      clear g1' g2' h1 h2 hs hx
      go_wp2_with fail
      go_region_with ((refine (hS.out _).mono ?_); rintro e w1 ⟨rfl, hb1⟩)
      all_goals
        have hB : Below w.heap.size w w1 := hb.trans ((Below.refl wr.heap.size wr).drew.trans hb1 |>.mono hb.size)
        clear hb hb1 a0 a1 a2 a3 a4 a5 a6 a7 e0 e1 e2 e3 e4 e5 e6 e7
        go_wp2
        exact ⟨⟨i + 1, by omega, by go_num, hB⟩, by simp [intOf]; omega⟩
    · obtain rfl : i = n := by omega
      go_wp2
      go_ret
      exact ⟨rfl, hb⟩
set_option maxRecDepth 100000 in
set_option maxHeartbeats 1000000 in
theorem recs_same_none (a b : Option Addr) (c d : Nat) (w : World) : Calls Try.prog 12 #[.slice a 0 c, .slice b 0 d] w fun e w' => e = .returned (.bool true) ∧ Below w.heap.size w w' := by
  go_enter Try.func12, Try.ntmps12
  go_wp2
  go_loopw [5] (fun t wr => t = .int .i64 0 ∧ wr = w) (fun t _ => 0 - (intOf t).toNat)
  case atStart => exact ⟨rfl, rfl⟩
  case round =>
    obtain ⟨rfl, rfl⟩ := hrel
    go_wp2
    go_ret
    exact ⟨rfl, Below.refl _ _⟩
theorem recs_same (b1 b2 : Nat) (u v : Value) (rs : List Rc) (w : World) (h1 : RcsAt b1 u rs w) (h2 : RcsAt b2 v rs w) (hs : ∀ r ∈ rs, SelfR r) (hn : rs.length ≤ 4000) :
    Calls Try.prog 12 #[u, v] w fun e w' => e = .returned (.bool true) ∧ Below w.heap.size w w' := by
  have sh : ∀ {b : Nat} {x : Value}, RcsAt b x rs w → ∃ a c, x = .slice a rs.length c := fun {b x} h => by
    rcases rcs_shape h with ⟨rfl, e⟩ | ⟨g, c, rfl⟩
    · rw [e]; exact ⟨_, _, rfl⟩
    · exact ⟨_, _, rfl⟩
  by_cases h0 : rs.length = 0
  · obtain ⟨a, c, rfl⟩ := sh h1
    obtain ⟨b, d, rfl⟩ := sh h2
    rw [h0]
    exact recs_same_none _ _ _ _ w
  rcases rcs_shape h1 with ⟨_, rfl⟩ | ⟨g1, c1, rfl⟩
  · exact absurd rfl h0
  rcases rcs_shape h2 with ⟨_, rfl⟩ | ⟨g2, c2, rfl⟩
  · exact absurd rfl h0
  exact recs_same_some b1 b2 g1 c1 g2 c2 rs.length rs w h1 h2 rfl hs hn
end Go.Proofs.Ytepbjjddpfejnaa
