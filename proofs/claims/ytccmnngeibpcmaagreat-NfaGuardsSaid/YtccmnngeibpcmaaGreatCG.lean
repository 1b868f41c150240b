/-
  check.Right; the law's own patterns; what its standing examples tell.
-/
import Derived.Test.YtccmnngeibpcmaaGreatCF
import Derived.Test.YtccmnngeibpcmaaGreatRAP
import Derived.Test.YtccmnngeibpcmaaGreatRAJ
namespace Go.Proofs.YtccmnngeibpcmaaGreat.Tree
open Go.ChangeShapes Go.WideShapes Go.ChangeAt Go.RowKit
set_option linter.unusedVariables false
set_option linter.unusedSimpArgs false
attribute [local go_sem] Oper.semAt_some
/-- Patterns that Check's contract speaks of. -/
def CkOk (L : List (Sp × Value)) : Prop := Short L ∧ (∀ x ∈ L, x.1.cs.length ≤ 100000) ∧ OpsOk L
theorem check_V {v : Value} {L : List (Sp × Value)} (win : Int) (hc : CkOk L) (w : World) (h : SpsL w v L) :
    Calls Tryz.prog 39 #[ptV v win] w fun e w' => e = .returned (.tuple #[.int .i64 (checkT (L.map (·.1)) win).1, .int .i64 (checkT (L.map (·.1)) win).2.1, .int .i64 (checkT (L.map (·.1)) win).2.2]) ∧ Below w.heap.size w w' := by
  obtain ⟨a, c, rfl⟩ := h.lit rfl
  exact check_L a _ c win L hc.1 hc.2.1 hc.2.2 w rfl h
def mayB (ss : List Sp) (win : Int) : Bool := (checkT ss win).2.2 == 0
theorem may_V {v : Value} {L : List (Sp × Value)} (win : Int) (hc : CkOk L) (w : World) (h : SpsL w v L) :
    Calls Tryz.prog 22 #[ptV v win] w fun e w' => e = .returned (.bool (mayB (L.map (·.1)) win)) ∧ Below w.heap.size w w' := by
  have hb := Lib.hid (kept_new w (.cells #[v, .int .i64 win] 24))
  have hA := check_V win hc _ (h.later hb.out)
  have c0 := (PtBox.new w v win).c0
  have c1 := (PtBox.new w v win).c1
  unfold mayB
  obtain ⟨a, c, rfl⟩ := h.lit rfl
  obtain ⟨r1, r2, r3, hT⟩ : ∃ r1 r2 r3, checkT (L.map (·.1)) win = (r1, r2, r3) := ⟨_, _, _, rfl⟩
  rw [hT] at hA ⊢
  replace hA := Lib.hid hA
  clear h hc hT
  dsimp only at hA ⊢
  generalize L.length = n at *
  go_enter Tryz.func22, Tryz.ntmps22
  go_wp2_with ((with_reducible refine hA.out.mono ?_); rintro e w2 ⟨rfl, hb2⟩)
  go_ret
  exact ⟨rfl, kept_trans hb.out hb2⟩
theorem tail_V {v : Value} {L : List (Sp × Value)} (win : Int) (hn : L.length ≤ 1000000) (w : World) (h : SpsL w v L) :
    Calls Tryz.prog 49 #[ptV v win] w fun e w' => e = .returned (.int .i64 (tailP (L.map (·.1)))) ∧ Below w.heap.size w w' := by
  obtain ⟨a, c, rfl⟩ := h.lit rfl
  exact tail_any a _ c win L hn w rfl h
def sOne : Sp := ⟨false, 0, 1, 1, false, []⟩
def sNeg : Sp := ⟨true, 0, 1, 1, false, []⟩
def cAsk : Cp := ⟨3, ⟨2, 0, 2, 0⟩, ⟨0, 0, 0, 0⟩⟩
def sAsk : Sp := ⟨true, 0, 1, 1, false, [cAsk]⟩
abbrev nilS : Value := .slice none 0 0
theorem sp_own {W : World} {p base : Nat} {s : Sp} {v : Value} (h : SpBox p s v W) (hb : base ≤ p) : W.ownsRow base 45 6 (.slice (some ⟨p, 0, none⟩) 1 1) 1 (spsCells [(s, v)]) :=
  ⟨rfl, .inr ⟨p, 1, _, rfl, hb, h, Nat.le_refl _, by unfold maxLen; omega, rfl, rfl⟩⟩
theorem sps_of_box {W : World} {p : Nat} {s : Sp} {v : Value} (h : SpBox p s v W) (hc : CpsAt W v s.cs) : SpsL W (.slice (some ⟨p, 0, none⟩) 1 1) [(s, v)] :=
  ⟨cells_of_row (sp_own (base := 0) h (Nat.zero_le _)), fun x hx => by obtain rfl := List.mem_singleton.1 hx; exact hc⟩
theorem cps_nil (W : World) : CpsAt W nilS [] := ⟨none, 0, rfl, .inl rfl⟩
theorem SpBox.set0 {p : Nat} {s : Sp} {v : Value} {w : World} (h : SpBox p s v w) (b : Bool) : SpBox p { s with neg := b } v (w.setCell ⟨p, 0, none⟩ (.bool b)) := by
  obtain ⟨hlt, hk⟩ := Array.getElem?_eq_some_iff.1 h
  show (w.heap.modify p _)[p]? = _
  rw [Array.getElem?_eq_getElem (by rw [Array.size_modify]; exact hlt), Array.getElem_modify_self, hk]
  rfl
/-- The law's own patterns as they lie: boxes at B, B + 1, B + 2. -/
def WkP (w : World) (B : Nat) (v1 v2 v3 u : Value) (W : World) : Prop :=
  PtBox B v1 5 W ∧ SpsL W v1 [(sOne, nilS)] ∧ PtBox (B + 1) v2 5 W ∧ SpsL W v2 [(sNeg, nilS)] ∧ PtBox (B + 2) v3 5 W ∧ SpsL W v3 [(sOne, nilS), (sAsk, u)] ∧ Below w.heap.size w W
theorem WkP.later {w : World} {B : Nat} {v1 v2 v3 u : Value} {W W' : World} (h : WkP w B v1 v2 v3 u W) (hb : Below W.heap.size W W') : WkP w B v1 v2 v3 u W' := by
  obtain ⟨h1, h2, h3, h4, h5, h6, h7⟩ := h
  exact ⟨h1.later hb, h2.later hb, h3.later hb, h4.later hb, h5.later hb, h6.later hb, kept_trans h7 hb⟩
theorem ck_sOne : CkOk [(sOne, nilS)] := ⟨⟨by simp, by simp [sOne]⟩, by simp [sOne], by intro x hx c hc; simp at hx; subst hx; simp [sOne] at hc⟩
theorem ck_sNeg : CkOk [(sNeg, nilS)] := ⟨⟨by simp, by simp [sNeg]⟩, by simp [sNeg], by intro x hx c hc; simp at hx; subst hx; simp [sNeg] at hc⟩
theorem ck_two (u : Value) : CkOk [(sOne, nilS), (sAsk, u)] := ⟨⟨by simp, by simp [sOne, sAsk]⟩, by simp [sOne, sAsk], by intro x hx c hc; simp at hx; rcases hx with rfl | rfl <;> simp [sOne, sAsk, cAsk] at hc; subst hc; decide⟩
theorem ck_nil : CkOk ([] : List (Sp × Value)) := ⟨⟨by simp, by simp⟩, by simp, by intro x hx; cases hx⟩
theorem ck1 {v : Value} (W : World) (h : SpsL W v [(sOne, nilS)]) : Calls Tryz.prog 39 #[ptV v 5] W fun e w' => e = .returned (.tuple #[.int .i64 0, .int .i64 0, .int .i64 0]) ∧ Below W.heap.size W w' := by
  have := check_V 5 ck_sOne W h
  rwa [show checkT (List.map (·.1) [(sOne, nilS)]) 5 = (0, 0, 0) from by kernel_rfl] at this
theorem ck2 {v : Value} (W : World) (h : SpsL W v [(sNeg, nilS)]) : Calls Tryz.prog 39 #[ptV v 5] W fun e w' => e = .returned (.tuple #[.int .i64 2, .int .i64 0, .int .i64 110]) ∧ Below W.heap.size W w' := by
  have := check_V 5 ck_sNeg W h
  rwa [show checkT (List.map (·.1) [(sNeg, nilS)]) 5 = (2, 0, 110) from by kernel_rfl] at this
theorem ck3 {v u : Value} (W : World) (h : SpsL W v [(sOne, nilS), (sAsk, u)]) : Calls Tryz.prog 39 #[ptV v 5] W fun e w' => e = .returned (.tuple #[.int .i64 7, .int .i64 1, .int .i64 110]) ∧ Below W.heap.size W w' := by
  have := check_V 5 (ck_two u) W h
  rwa [show checkT (List.map (·.1) [(sOne, nilS), (sAsk, u)]) 5 = (7, 1, 110) from by kernel_rfl] at this
theorem ck0 (W : World) : Calls Tryz.prog 39 #[ptV nilS 0] W fun e w' => e = .returned (.tuple #[.int .i64 0, .int .i64 0, .int .i64 2]) ∧ Below W.heap.size W w' := by
  have := check_V (v := nilS) 0 ck_nil W ⟨⟨none, 0, rfl, .inl rfl⟩, fun x hx => by cases hx⟩
  rwa [show checkT (List.map (·.1) ([] : List (Sp × Value))) 0 = (0, 0, 2) from by kernel_rfl] at this
theorem may1 {v : Value} (W : World) (h : SpsL W v [(sOne, nilS)]) : Calls Tryz.prog 22 #[ptV v 5] W fun e w' => e = .returned (.bool true) ∧ Below W.heap.size W w' := by
  have := may_V 5 ck_sOne W h
  rwa [show mayB (List.map (·.1) [(sOne, nilS)]) 5 = true from by kernel_rfl] at this
theorem may3 {v u : Value} (W : World) (h : SpsL W v [(sOne, nilS), (sAsk, u)]) : Calls Tryz.prog 22 #[ptV v 5] W fun e w' => e = .returned (.bool false) ∧ Below W.heap.size W w' := by
  have := may_V 5 (ck_two u) W h
  rwa [show mayB (List.map (·.1) [(sOne, nilS), (sAsk, u)]) 5 = false from by kernel_rfl] at this
theorem tail1 {v : Value} (W : World) (h : SpsL W v [(sOne, nilS)]) : Calls Tryz.prog 49 #[ptV v 5] W fun e w' => e = .returned (.int .i64 0) ∧ Below W.heap.size W w' := by
  have := tail_V 5 (by simp) W h
  rwa [show tailP (List.map (·.1) [(sOne, nilS)]) = 0 from by kernel_rfl] at this
theorem tail3 {v u : Value} (W : World) (h : SpsL W v [(sOne, nilS), (sAsk, u)]) : Calls Tryz.prog 49 #[ptV v 5] W fun e w' => e = .returned (.int .i64 1) ∧ Below W.heap.size W w' := by
  have := tail_V 5 (by simp) W h
  rwa [show tailP (List.map (·.1) [(sOne, nilS), (sAsk, u)]) = 1 from by kernel_rfl] at this
end Go.Proofs.YtccmnngeibpcmaaGreat.Tree
