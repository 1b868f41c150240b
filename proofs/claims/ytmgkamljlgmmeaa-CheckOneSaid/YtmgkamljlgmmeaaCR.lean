/-
  CheckOne's copies, changed, in memory.
-/
import Derived.Test.YtmgkamljlgmmeaaCO
namespace Go.Proofs.Ytmgkamljlgmmeaa.Tree
open Go.ChangeShapes Go.WideShapes Go.ChangeAt Go.RowKit
set_option linter.unusedVariables false
set_option linter.unusedSimpArgs false
attribute [local go_sem] Oper.semAt_some
/-- The law's changed copy. -/
def GdQ (wr : World) (P : Nat) (N : List Sp) (win' : Int) (W : World) : Prop := ∃ v' M, M.map (·.1) = N ∧ CkOk M ∧ PtBox P v' win' W ∧ SpsL W v' M ∧ Below wr.heap.size wr W
theorem spsCells_set4 {L : List (Sp × Value)} {i : Nat} {s : Sp} {v : Value} (h : L[i]? = some (s, v)) (k : Bool) : (spsCells L).set (i * 6 + 4) (.bool k) = spsCells (L.set i ({ s with strict := k }, v)) := by
  unfold spsCells
  induction L generalizing i with
  | nil => simp at h
  | cons x r ih =>
    cases i with
    | zero => simp at h; subst h; rfl
    | succ i =>
      rw [List.flatMap_cons, List.set_cons_succ, List.flatMap_cons, show (i + 1) * 6 + 4 = (i * 6 + 4) + 6 by omega]
      rw [← ih (by simpa using h)]
      rfl
section
variable {wr : World} {P g n cap j m : Nat} {win : Int} {M : List (Sp × Value)} {s : Sp} {u : Value} {W : World}
theorem LxK.ck (h : LxK wr P g n cap j m win M s u W) {s' : Sp} {u' : Value} (hl : s'.cs.length ≤ 100) (ho : ∀ c ∈ s'.cs, 0 ≤ c.op) : CkOk (M.set j (s', u')) := by
  obtain ⟨h1, h2⟩ := h.set_small (u' := u') hl ho
  obtain ⟨hP, hO, hA, hn, hx, hm, hB, hgP, hg, hPw, h40, h20, hq⟩ := h
  refine ⟨h1, fun y hy => ?_, h2⟩
  rcases List.mem_or_eq_of_mem_set hy with h3 | rfl
  · exact Nat.le_trans (h20 y h3) (by omega)
  · exact Nat.le_trans hl (by omega)
theorem LxK.gd_num (h : LxK wr P g n cap j m win M s u W) {s' : Sp} {f : Nat} {k : Int} (hs : (spsCells M).set (j * 6 + f) (.int .i64 k) = spsCells (M.set j (s', u))) (hcs : s'.cs = s.cs) :
    GdQ wr P ((M.map (·.1)).set j s') win (W.setCell ⟨g, j * 6 + f, none⟩ (.int .i64 k)) := by
  have hck := h.ck (s' := s') (u' := u) (by rw [hcs]; have := h.2.2.2.2.2.2.2.2.2.2.2.1 _ (List.mem_of_getElem? h.2.2.2.2.1); dsimp only at this; omega) (by rw [hcs]; exact h.2.2.2.2.2.2.2.2.2.2.2.2 _ (List.mem_of_getElem? h.2.2.2.2.1))
  obtain ⟨hP, hO, hA, hn, hx, hm, hB, hgP, hg, hPw, h40, h20, hq⟩ := h
  exact ⟨_, _, by rw [List.map_set], hck, block_far hP (fun e => hgP e.symm) _ _, num_mem hO hn hx hs hcs, hB.setCell (p := ⟨g, j * 6 + f, none⟩) hg _⟩
theorem LxK.gd_strict (h : LxK wr P g n cap j m win M s u W) :
    GdQ wr P ((M.map (·.1)).set j { s with strict := true }) win (W.setCell ⟨g, j * 6 + 4, none⟩ (.bool true)) := by
  have hck := h.ck (s' := { s with strict := true }) (u' := u) (by have := h.2.2.2.2.2.2.2.2.2.2.2.1 _ (List.mem_of_getElem? h.2.2.2.2.1); dsimp only at this ⊢; omega) (h.2.2.2.2.2.2.2.2.2.2.2.2 _ (List.mem_of_getElem? h.2.2.2.2.1))
  obtain ⟨hP, hO, hA, hn, hx, hm, hB, hgP, hg, hPw, h40, h20, hq⟩ := h
  have hou := hO.2 _ (List.mem_of_getElem? hx)
  have hr := hO.1
  rw [hn] at hr
  have hgb : ∀ r, some g = some r → ∃ o : Obj, W.heap[r]? = some o ∧ ∀ cs fz, o ≠ .cells cs 41 fz := fun r e => own_is hr 41 (by decide) r (by simpa [Value.ownBlock] using e)
  have H := own_store (u' := u) (s' := { s with strict := true }) (f := 4) (x := .bool true) hr hn (spsCells_set4 hx true) (fun X hX => (hou.kept hX hgb).cps) (fun i y _ hy => hO.2 _ (List.mem_of_getElem? hy))
  exact ⟨_, _, by rw [List.map_set], hck, block_far hP (fun e => hgP e.symm) _ _, H.1, hB.setCell (p := ⟨g, j * 6 + 4, none⟩) hg _⟩
theorem LxK.all_ck (h : LxK wr P g n cap j m win M s u W) : CkOk M := by
  obtain ⟨hP, hO, hA, hn, hx, hm, hB, hgP, hg, hPw, h40, h20, hq⟩ := h
  exact ⟨⟨by omega, fun y hy => Nat.le_trans (h20 y hy) (by omega)⟩, fun y hy => Nat.le_trans (h20 y hy) (by omega), hq⟩
theorem LxK.gd_win (h : LxK wr P g n cap j m win M s u W) (k : Int) : GdQ wr P (M.map (·.1)) k (W.setCell ⟨P, 1, none⟩ (.int .i64 k)) := by
  have hck := h.all_ck
  obtain ⟨hP, hO, hA, hn, hx, hm, hB, hgP, hg, hPw, h40, h20, hq⟩ := h
  have hgr := grownBy_setCell_any W P 1 (.int .i64 k)
  have hr := row_kept hO.1 hgr (block_is hP 35 (by decide))
  exact ⟨_, M, rfl, hck, hP.set1 k, ⟨cells_of_row hr, fun y hy => ((hO.2 y hy).kept hgr (block_is hP 41 (by decide))).cps⟩, hB.setCell (p := ⟨P, 1, none⟩) hPw _⟩
theorem LxK.gd_add (h : LxK wr P g n cap j m win M s u W) {x : Cp} (ho : 0 ≤ x.op) {W2 : World} {v : Value} {tmp : Obj} (hg2 : (W.alloc tmp).grownBy W2 u.ownBlock)
    (hown : W2.ownsRow wr.heap.size 41 9 v (m + 1) (cpsCells s.cs ++ cpsCells [x])) :
    GdQ wr P ((M.map (·.1)).set j { s with cs := s.cs ++ [x] }) win (W2.setCell ⟨g, j * 6 + 5, none⟩ v) ∧ W2.cell? ⟨g, j * 6 + 5, none⟩ = some u ∧ W2.frozen? ⟨g, j * 6 + 5, none⟩ = false := by
  have hck := h.ck (s' := { s with cs := s.cs ++ [x] }) (u' := v) (by have := h.2.2.2.2.2.2.2.2.2.2.2.1 _ (List.mem_of_getElem? h.2.2.2.2.1); dsimp only at this ⊢; rw [List.length_append]; simp; omega) (by
    intro c hc
    rcases List.mem_append.1 hc with hc | hc
    · exact h.2.2.2.2.2.2.2.2.2.2.2.2 _ (List.mem_of_getElem? h.2.2.2.2.1) c hc
    · obtain rfl := List.mem_singleton.1 hc
      exact ho)
  obtain ⟨hP, hO, hA, hn, hx, hm, hB, hgP, hg, hPw, h40, h20, hq⟩ := h
  obtain ⟨h1, h2, h3⟩ := add_mem hO hn hx hm hA rfl hg2 hown
  have hou := hO.2 _ (List.mem_of_getElem? hx)
  have hg1 : W.grownBy (W.alloc tmp) none := World.grownBy_alloc W _ none
  have hP1 := block_grown hP hg1 (by simp)
  have hP2 := block_grown hP1 hg2 (not_rowblock (World.ownsRow.alloc hou tmp) hP1 (by decide))
  refine ⟨⟨_, _, by rw [List.map_set], hck, block_far hP2 (fun e => hgP e.symm) _ _, h1, ?_⟩, h2, h3⟩
  refine (Below.grown (hB.trans ((below_grown hg1).mono hB.size)) hg2 (by have := hB.size; simp; omega) fun j ej => ?_).setCell (p := ⟨g, _, none⟩) hg v
  exact (World.ownsRow.lt hou j ej).1
end
/-- The law's copy while steps are put behind it. -/
def ApK (wr : World) (P : Nat) (win : Int) (v : Value) (N : List (Sp × Value)) (W : World) : Prop := PtBox P v win W ∧ OwnSps W wr.heap.size v N ∧ Below wr.heap.size wr W ∧ wr.heap.size ≤ P
theorem own_nil (W : World) (base : Nat) : OwnCps W base nilS [] := World.ownsRow_nil _ _ _ _
theorem ApK.app {wr W W2 : World} {P : Nat} {win : Int} {v v' : Value} {N : List (Sp × Value)} {z : Sp} {tmp : Obj} (h : ApK wr P win v N W) (hz : z.cs = []) (hgrow : (W.alloc tmp).grownBy W2 v.ownBlock)
    (hown : W2.ownsRow wr.heap.size 35 6 v' (N.length + 1) (spsCells N ++ [.bool z.neg, .int .i64 z.kind, .int .i64 z.min, .int .i64 z.max, .bool z.strict, nilS])) :
    PtBox P v win W2 ∧ ApK wr P win v' (N ++ [(z, nilS)]) (W2.setCell ⟨P, 0, none⟩ v') := by
  obtain ⟨hP, hO, hB, hP0⟩ := h
  have hr := hO.1
  have hg1 : W.grownBy (W.alloc tmp) none := World.grownBy_alloc W _ none
  have hP1 := block_grown (block_grown hP hg1 (by simp)) hgrow (not_rowblock (hr.alloc _) (block_grown hP hg1 (by simp)) (by decide))
  have hkeep : ∀ {u cs}, OwnCps W wr.heap.size u cs → OwnCps (W2.setCell ⟨P, 0, none⟩ v') wr.heap.size u cs := fun h => ((h.kept hg1 (fun r e => by cases e)).kept hgrow (own_is (hr.alloc _) 41 (by decide))).kept (grownBy_setCell_any W2 P 0 v') (block_is hP1 41 (by decide))
  refine ⟨hP1, PtBox.set0 hP1 v', ⟨?_, ?_⟩, ?_, hP0⟩
  · have hs : spsCells (N ++ [(z, nilS)]) = spsCells N ++ [.bool z.neg, .int .i64 z.kind, .int .i64 z.min, .int .i64 z.max, .bool z.strict, nilS] := by simp [spsCells]
    rw [hs, List.length_append]
    exact row_kept hown (grownBy_setCell_any W2 P 0 v') (block_is hP1 35 (by decide))
  · intro x hx
    rcases List.mem_append.1 hx with hx | hx
    · exact hkeep (hO.2 x hx)
    · obtain rfl := List.mem_singleton.1 hx
      dsimp only
      rw [hz]
      exact own_nil _ _
  · refine (Below.grown (hB.trans ((below_grown hg1).mono hB.size)) hgrow (by have := hB.size; simp; omega) fun j ej => ?_).setCell (p := ⟨P, 0, none⟩) hP0 v'
    exact (hr.lt _ ej).1
theorem ApK.gd {wr W : World} {P : Nat} {win : Int} {v : Value} {N : List (Sp × Value)} (h : ApK wr P win v N W) (hc : CkOk N) : GdQ wr P (N.map (·.1)) win W := ⟨v, N, rfl, hc, h.1, h.2.1.sps, h.2.2.1⟩
theorem ck_app {N : List (Sp × Value)} {zs : List (Sp × Value)} (h : CkOk N) (hl : zs.length ≤ 100) (hz : ∀ z ∈ zs, z.1.cs = []) (hN : N.length ≤ 1000) : CkOk (N ++ zs) := by
  obtain ⟨⟨h1, h2⟩, h3, h4⟩ := h
  have hz' : ∀ x ∈ N ++ zs, x ∈ N ∨ x.1.cs = [] := fun x hx => (List.mem_append.1 hx).imp id (hz x)
  refine ⟨⟨by rw [List.length_append]; omega, fun x hx => ?_⟩, fun x hx => ?_, fun x hx c hc => ?_⟩
  · rcases hz' x hx with h | h
    · exact h2 x h
    · rw [h]; simp
  · rcases hz' x hx with h | h
    · exact h3 x h
    · rw [h]; simp
  · rcases hz' x hx with h | h
    · exact h4 x h c hc
    · rw [h] at hc; cases hc
end Go.Proofs.Ytmgkamljlgmmeaa.Tree
