/-
  check.Right; the law's own patterns; what its standing examples tell.
-/
import Derived.Test.YtmgkamljlgmmeaaCF
import Derived.Test.YtmgkamljlgmmeaaRAP
import Derived.Test.YtmgkamljlgmmeaaRAJ
namespace Go.Proofs.Ytmgkamljlgmmeaa.Tree
open Go.ChangeShapes Go.WideShapes Go.ChangeAt Go.RowKit
set_option linter.unusedVariables false
set_option linter.unusedSimpArgs false
attribute [local go_sem] Oper.semAt_some
/-- Patterns that Check's contract speaks of. -/
def CkOk (L : List (Sp × Value)) : Prop := Short L ∧ (∀ x ∈ L, x.1.cs.length ≤ 100000) ∧ OpsOk L
theorem check_V {v : Value} {L : List (Sp × Value)} (win : Int) (hc : CkOk L) (w : World) (h : SpsL w v L) :
    Calls Try.prog 10 #[ptV v win] w fun e w' => e = .returned (.tuple #[.int .i64 (checkT (L.map (·.1)) win).1, .int .i64 (checkT (L.map (·.1)) win).2.1, .int .i64 (checkT (L.map (·.1)) win).2.2]) ∧ Below w.heap.size w w' := by
  obtain ⟨a, c, rfl⟩ := h.lit rfl
  exact check_L a _ c win L hc.1 hc.2.1 hc.2.2 w rfl h
def mayB (ss : List Sp) (win : Int) : Bool := (checkT ss win).2.2 == 0
theorem may_V {v : Value} {L : List (Sp × Value)} (win : Int) (hc : CkOk L) (w : World) (h : SpsL w v L) :
    Calls Try.prog 12 #[ptV v win] w fun e w' => e = .returned (.bool (mayB (L.map (·.1)) win)) ∧ Below w.heap.size w w' := by
  have hb := Lib.hid (kept_new w (.cells #[v, .int .i64 win] 24))
  have hA := check_V win hc _ (h.later hb.out)
  have c0 := (PtBox.new w v win).c0
  have c1 := (PtBox.new w v win).c1
  unfold mayB
  obtain ⟨a, c, rfl⟩ := h.lit rfl
  obtain ⟨r1, r2, r3, hT⟩ : ∃ r1 r2 r3, checkT (L.map (·.1)) win = (r1, r2, r3) := ⟨_, _, _, rfl⟩
  rw [hT] at hA ⊢
  replace hA := Lib.hid hA
  clear h hc hT
  dsimp only at hA ⊢
  generalize L.length = n at *
  go_enter Try.func12, Try.ntmps12
  go_wp2_with ((with_reducible refine hA.out.mono ?_); rintro e w2 ⟨rfl, hb2⟩)
  go_ret
  exact ⟨rfl, kept_trans hb.out hb2⟩
theorem tail_V {v : Value} {L : List (Sp × Value)} (win : Int) (hn : L.length ≤ 1000000) (w : World) (h : SpsL w v L) :
    Calls Try.prog 14 #[ptV v win] w fun e w' => e = .returned (.int .i64 (tailP (L.map (·.1)))) ∧ Below w.heap.size w w' := by
  obtain ⟨a, c, rfl⟩ := h.lit rfl
  exact tail_any a _ c win L hn w rfl h
def sOne : Sp := ⟨false, 0, 1, 1, false, []⟩
def sNeg : Sp := ⟨true, 0, 1, 1, false, []⟩
def cAsk : Cp := ⟨3, ⟨2, 0, 2, 0⟩, ⟨0, 0, 0, 0⟩⟩
def sAsk : Sp := ⟨true, 0, 1, 1, false, [cAsk]⟩
abbrev nilS : Value := .slice none 0 0
theorem one_any (w : World) : Calls Try.prog 21 #[] w fun e w' => ∃ p, e = .returned (ptV (.slice (some ⟨p, 0, none⟩) 1 1) 5) ∧ SpBox p sOne nilS w' ∧ w.heap.size ≤ p ∧ Below w.heap.size w w' := by
  go_enter Try.func21, Try.ntmps21
  go_wp2
  have hp : PtBox w.heap.size (.slice (some ⟨w.heap.size + 1, 0, none⟩) 1 1) 5 ((w.alloc (.cells #[.slice (some ⟨w.heap.size + 1, 0, none⟩) 1 1, .int .i64 5] 24)).alloc (.cells #[.bool false, .int .i64 0, .int .i64 1, .int .i64 1, .bool false, .slice none 0 0] 35)) := (PtBox.new w _ _).later (kept_new _ _)
  have hs : SpBox (w.heap.size + 1) sOne nilS ((w.alloc (.cells #[.slice (some ⟨w.heap.size + 1, 0, none⟩) 1 1, .int .i64 5] 24)).alloc (.cells #[.bool false, .int .i64 0, .int .i64 1, .int .i64 1, .bool false, .slice none 0 0] 35)) := by
    have := SpBox.new (w.alloc (.cells #[.slice (some ⟨w.heap.size + 1, 0, none⟩) 1 1, .int .i64 5] 24)) sOne nilS
    rwa [World.size_alloc] at this
  exact bodyPost_ret (v := ptV (.slice (some ⟨w.heap.size + 1, 0, none⟩) 1 1) 5) (results_cell_row rfl _ _ w.heap.size 24 _ (0, 0) _ rfl hp Try.underlying24 rfl (by kernel_rfl)) rfl ⟨_, rfl, hs, by omega, below_two _ _ _⟩
theorem sp_own {W : World} {p base : Nat} {s : Sp} {v : Value} (h : SpBox p s v W) (hb : base ≤ p) : W.ownsRow base 35 6 (.slice (some ⟨p, 0, none⟩) 1 1) 1 (spsCells [(s, v)]) :=
  ⟨rfl, .inr ⟨p, 1, _, rfl, hb, h, Nat.le_refl _, by unfold maxLen; omega, rfl, rfl⟩⟩
theorem sps_of_box {W : World} {p : Nat} {s : Sp} {v : Value} (h : SpBox p s v W) (hc : CpsAt W v s.cs) : SpsL W (.slice (some ⟨p, 0, none⟩) 1 1) [(s, v)] :=
  ⟨cells_of_row (sp_own (base := 0) h (Nat.zero_le _)), fun x hx => by obtain rfl := List.mem_singleton.1 hx; exact hc⟩
theorem cps_nil (W : World) : CpsAt W nilS [] := ⟨none, 0, rfl, .inl rfl⟩
theorem SpBox.set0 {p : Nat} {s : Sp} {v : Value} {w : World} (h : SpBox p s v w) (b : Bool) : SpBox p { s with neg := b } v (w.setCell ⟨p, 0, none⟩ (.bool b)) := by
  obtain ⟨hlt, hk⟩ := Array.getElem?_eq_some_iff.1 h
  show (w.heap.modify p _)[p]? = _
  rw [Array.getElem?_eq_getElem (by rw [Array.size_modify]; exact hlt), Array.getElem_modify_self, hk]
  rfl
/-- The law's own patterns as they lie: boxes at B, B + 1, B + 2. -/
def WkP (w : World) (B : Nat) (v1 v2 v3 u : Value) (W : World) : Prop :=
  PtBox B v1 5 W ∧ SpsL W v1 [(sOne, nilS)] ∧ PtBox (B + 1) v2 5 W ∧ SpsL W v2 [(sNeg, nilS)] ∧ PtBox (B + 2) v3 5 W ∧ SpsL W v3 [(sOne, nilS), (sAsk, u)] ∧ Below w.heap.size w W
theorem WkP.later {w : World} {B : Nat} {v1 v2 v3 u : Value} {W W' : World} (h : WkP w B v1 v2 v3 u W) (hb : Below W.heap.size W W') : WkP w B v1 v2 v3 u W' := by
  obtain ⟨h1, h2, h3, h4, h5, h6, h7⟩ := h
  exact ⟨h1.later hb, h2.later hb, h3.later hb, h4.later hb, h5.later hb, h6.later hb, kept_trans h7 hb⟩
theorem ck_sOne : CkOk [(sOne, nilS)] := ⟨⟨by simp, by simp [sOne]⟩, by simp [sOne], by intro x hx c hc; simp at hx; subst hx; simp [sOne] at hc⟩
theorem ck_sNeg : CkOk [(sNeg, nilS)] := ⟨⟨by simp, by simp [sNeg]⟩, by simp [sNeg], by intro x hx c hc; simp at hx; subst hx; simp [sNeg] at hc⟩
theorem ck_two (u : Value) : CkOk [(sOne, nilS), (sAsk, u)] := ⟨⟨by simp, by simp [sOne, sAsk]⟩, by simp [sOne, sAsk], by intro x hx c hc; simp at hx; rcases hx with rfl | rfl <;> simp [sOne, sAsk, cAsk] at hc; subst hc; decide⟩
theorem ck_nil : CkOk ([] : List (Sp × Value)) := ⟨⟨by simp, by simp⟩, by simp, by intro x hx; cases hx⟩
theorem ck1 {v : Value} (W : World) (h : SpsL W v [(sOne, nilS)]) : Calls Try.prog 10 #[ptV v 5] W fun e w' => e = .returned (.tuple #[.int .i64 0, .int .i64 0, .int .i64 0]) ∧ Below W.heap.size W w' := by
  have := check_V 5 ck_sOne W h
  rwa [show checkT (List.map (·.1) [(sOne, nilS)]) 5 = (0, 0, 0) from by kernel_rfl] at this
theorem ck2 {v : Value} (W : World) (h : SpsL W v [(sNeg, nilS)]) : Calls Try.prog 10 #[ptV v 5] W fun e w' => e = .returned (.tuple #[.int .i64 2, .int .i64 0, .int .i64 110]) ∧ Below W.heap.size W w' := by
  have := check_V 5 ck_sNeg W h
  rwa [show checkT (List.map (·.1) [(sNeg, nilS)]) 5 = (2, 0, 110) from by kernel_rfl] at this
theorem ck3 {v u : Value} (W : World) (h : SpsL W v [(sOne, nilS), (sAsk, u)]) : Calls Try.prog 10 #[ptV v 5] W fun e w' => e = .returned (.tuple #[.int .i64 7, .int .i64 1, .int .i64 110]) ∧ Below W.heap.size W w' := by
  have := check_V 5 (ck_two u) W h
  rwa [show checkT (List.map (·.1) [(sOne, nilS), (sAsk, u)]) 5 = (7, 1, 110) from by kernel_rfl] at this
theorem ck0 (W : World) : Calls Try.prog 10 #[ptV nilS 0] W fun e w' => e = .returned (.tuple #[.int .i64 0, .int .i64 0, .int .i64 2]) ∧ Below W.heap.size W w' := by
  have := check_V (v := nilS) 0 ck_nil W ⟨⟨none, 0, rfl, .inl rfl⟩, fun x hx => by cases hx⟩
  rwa [show checkT (List.map (·.1) ([] : List (Sp × Value))) 0 = (0, 0, 2) from by kernel_rfl] at this
theorem may1 {v : Value} (W : World) (h : SpsL W v [(sOne, nilS)]) : Calls Try.prog 12 #[ptV v 5] W fun e w' => e = .returned (.bool true) ∧ Below W.heap.size W w' := by
  have := may_V 5 ck_sOne W h
  rwa [show mayB (List.map (·.1) [(sOne, nilS)]) 5 = true from by kernel_rfl] at this
theorem may3 {v u : Value} (W : World) (h : SpsL W v [(sOne, nilS), (sAsk, u)]) : Calls Try.prog 12 #[ptV v 5] W fun e w' => e = .returned (.bool false) ∧ Below W.heap.size W w' := by
  have := may_V 5 (ck_two u) W h
  rwa [show mayB (List.map (·.1) [(sOne, nilS), (sAsk, u)]) 5 = false from by kernel_rfl] at this
theorem tail1 {v : Value} (W : World) (h : SpsL W v [(sOne, nilS)]) : Calls Try.prog 14 #[ptV v 5] W fun e w' => e = .returned (.int .i64 0) ∧ Below W.heap.size W w' := by
  have := tail_V 5 (by simp) W h
  rwa [show tailP (List.map (·.1) [(sOne, nilS)]) = 0 from by kernel_rfl] at this
theorem tail3 {v u : Value} (W : World) (h : SpsL W v [(sOne, nilS), (sAsk, u)]) : Calls Try.prog 14 #[ptV v 5] W fun e w' => e = .returned (.int .i64 1) ∧ Below W.heap.size W w' := by
  have := tail_V 5 (by simp) W h
  rwa [show tailP (List.map (·.1) [(sOne, nilS), (sAsk, u)]) = 1 from by kernel_rfl] at this
theorem head3 (a : Option Addr) (c : Nat) (i r : Int) (hr : headP [sOne, sAsk] i = r) (hc : 2 ≤ c) {u : Value} (W : World) (h : SpsL W (.slice a 2 c) [(sOne, nilS), (sAsk, u)]) : Calls Try.prog 16 #[ptV (.slice a 2 c) 5, .int .i64 i] W fun e w' => e = .returned (.int .i64 r) ∧ Below W.heap.size W w' := by
  have := head_any a 2 c 5 i [(sOne, nilS), (sAsk, u)] (by omega) hc W rfl h
  rwa [show headP (List.map (·.1) [(sOne, nilS), (sAsk, u)]) i = r from hr] at this
set_option maxRecDepth 100000 in
set_option maxHeartbeats 4000000 in
theorem wakes_any (w : World) : Calls Try.prog 9 #[] w fun e w' => e = .returned (.bool true) ∧ Below w.heap.size w w' := by
  go_enter Try.func9, Try.ntmps9
  go_upto_region 2 with ((with_reducible refine (one_any _).mono ?_); rintro e w1 ⟨p1, rfl, hs1, hp1, hb1⟩)
  rename_i wa pa hsa hpa hba wb pb hsb hpb hbb K0 a0
  have x1 := (hsa.later hbb).later hb1
  have x2 := hsb.later hb1
  have hB3 : Below w.heap.size w w1 := kept_trans (kept_trans hba hbb) hb1
  have hl1 := hsa.lt
  have hl2 := hsb.lt
  have hl3 := hs1.lt
  have hz1 := hba.size
  have hz2 := hbb.size
  have hz3 := hb1.size
  clear hsa hsb hba hbb hb1
  have hk1 := kept_new w1 (.cells #[.slice (some ⟨pa, 0, none⟩) 1 1, .int .i64 5] 24)
  have hk2 := kept_new (w1.alloc (.cells #[.slice (some ⟨pa, 0, none⟩) 1 1, .int .i64 5] 24)) (.cells #[.slice (some ⟨pb, 0, none⟩) 1 1, .int .i64 5] 24)
  have hk3 := kept_new ((w1.alloc (.cells #[.slice (some ⟨pa, 0, none⟩) 1 1, .int .i64 5] 24)).alloc (.cells #[.slice (some ⟨pb, 0, none⟩) 1 1, .int .i64 5] 24)) (.cells #[.slice (some ⟨p1, 0, none⟩) 1 1, .int .i64 5] 24)
  have b1 := ((PtBox.new w1 (.slice (some ⟨pa, 0, none⟩) 1 1) 5).later hk2).later hk3
  have b2 := (PtBox.new (w1.alloc (.cells #[.slice (some ⟨pa, 0, none⟩) 1 1, .int .i64 5] 24)) (.slice (some ⟨pb, 0, none⟩) 1 1) 5).later hk3
  have b3 := PtBox.new ((w1.alloc (.cells #[.slice (some ⟨pa, 0, none⟩) 1 1, .int .i64 5] 24)).alloc (.cells #[.slice (some ⟨pb, 0, none⟩) 1 1, .int .i64 5] 24)) (.slice (some ⟨p1, 0, none⟩) 1 1) 5
  rw [World.size_alloc] at b2
  rw [World.size_alloc, World.size_alloc] at b3
  have x1' := ((x1.later hk1).later hk2).later hk3
  have x2' := ((x2.later hk1).later hk2).later hk3
  have x3' := ((hs1.later hk1).later hk2).later hk3
  have hB4 := kept_trans (kept_trans (kept_trans hB3 hk1) hk2) hk3
  clear hk1 hk2 hk3 x1 x2 hs1 hB3
  generalize (((w1.alloc (.cells #[.slice (some ⟨pa, 0, none⟩) 1 1, .int .i64 5] 24)).alloc (.cells #[.slice (some ⟨pb, 0, none⟩) 1 1, .int .i64 5] 24)).alloc (.cells #[.slice (some ⟨p1, 0, none⟩) 1 1, .int .i64 5] 24)) = W4 at *
  have c2 := b2.c0
  have d0 := x2'.cells.1
  have f0 := x2'.f 0
  have hset := x2'.set0 true
  have y1 : SpBox pa sOne nilS (W4.setCell ⟨pb, 0, none⟩ (.bool true)) := block_far x1' (by omega) _ _
  have y3 : SpBox p1 sOne nilS (W4.setCell ⟨pb, 0, none⟩ (.bool true)) := block_far x3' (by omega) _ _
  have e1 : PtBox w1.heap.size (.slice (some ⟨pa, 0, none⟩) 1 1) 5 (W4.setCell ⟨pb, 0, none⟩ (.bool true)) := block_far b1 (by omega) _ _
  have e2 : PtBox (w1.heap.size + 1) (.slice (some ⟨pb, 0, none⟩) 1 1) 5 (W4.setCell ⟨pb, 0, none⟩ (.bool true)) := block_far b2 (by omega) _ _
  have e3 : PtBox (w1.heap.size + 2) (.slice (some ⟨p1, 0, none⟩) 1 1) 5 (W4.setCell ⟨pb, 0, none⟩ (.bool true)) := block_far b3 (by omega) _ _
  have hB5 := hB4.setCell (p := ⟨pb, 0, none⟩) (by show _ ≤ pb; omega) (.bool true)
  replace hset := Lib.hid hset
  go_upto_region 3 with fail
  clear c2 d0 f0 b1 b2 b3 x1' x2' x3' hB4
  generalize W4.setCell ⟨pb, 0, none⟩ (.bool true) = W5 at *
  obtain ⟨j0, hj, hy0, hy1, hy2⟩ := info_parts Try.info35
  replace hj := Lib.hid hj
  have hk1 := kept_new W5 (.cells #[.int .u8 3, .int .u8 2, .int .i64 0, .int .i64 2, .int .i64 0, .int .u8 0, .int .i64 0, .int .i64 0, .int .i64 0] 41)
  have hk2 := kept_new (W5.alloc (.cells #[.int .u8 3, .int .u8 2, .int .i64 0, .int .i64 2, .int .i64 0, .int .u8 0, .int .i64 0, .int .i64 0, .int .i64 0] 41)) (.cells #[.bool true, .int .i64 0, .int .i64 1, .int .i64 1, .bool false, .slice (some ⟨W5.heap.size, 0, none⟩) 1 1] 35)
  have hq : OwnCps ((W5.alloc (.cells #[.int .u8 3, .int .u8 2, .int .i64 0, .int .i64 2, .int .i64 0, .int .u8 0, .int .i64 0, .int .i64 0, .int .i64 0] 41)).alloc (.cells #[.bool true, .int .i64 0, .int .i64 1, .int .i64 1, .bool false, .slice (some ⟨W5.heap.size, 0, none⟩) 1 1] 35)) w.heap.size (.slice (some ⟨W5.heap.size, 0, none⟩) 1 1) [cAsk] := by
    have := World.ownsRow_lit (base := w.heap.size) (e := 41) (size := 9) W5 #[.int .u8 3, .int .u8 2, .int .i64 0, .int .i64 2, .int .i64 0, .int .u8 0, .int .i64 0, .int .i64 0, .int .i64 0] 1 hB5.size (by unfold maxLen; omega) rfl
    exact this.alloc _
  have hst : SpBox (W5.heap.size + 1) sAsk (.slice (some ⟨W5.heap.size, 0, none⟩) 1 1) ((W5.alloc (.cells #[.int .u8 3, .int .u8 2, .int .i64 0, .int .i64 2, .int .i64 0, .int .u8 0, .int .i64 0, .int .i64 0, .int .i64 0] 41)).alloc (.cells #[.bool true, .int .i64 0, .int .i64 1, .int .i64 1, .bool false, .slice (some ⟨W5.heap.size, 0, none⟩) 1 1] 35)) := by
    have := SpBox.new (W5.alloc (.cells #[.int .u8 3, .int .u8 2, .int .i64 0, .int .i64 2, .int .i64 0, .int .u8 0, .int .i64 0, .int .i64 0, .int .i64 0] 41)) sAsk (.slice (some ⟨W5.heap.size, 0, none⟩) 1 1)
    rwa [World.size_alloc] at this
  have hcl : CellsAt ((W5.alloc (.cells #[.int .u8 3, .int .u8 2, .int .i64 0, .int .i64 2, .int .i64 0, .int .u8 0, .int .i64 0, .int .i64 0, .int .i64 0] 41)).alloc (.cells #[.bool true, .int .i64 0, .int .i64 1, .int .i64 1, .bool false, .slice (some ⟨W5.heap.size, 0, none⟩) 1 1] 35)) (some ⟨W5.heap.size + 1, 0, none⟩) [.bool true, .int .i64 0, .int .i64 1, .int .i64 1, .bool false, .slice (some ⟨W5.heap.size, 0, none⟩) 1 1] := by
    obtain ⟨a', c', e', h'⟩ := cells_of_row (sp_own (base := 0) hst (Nat.zero_le _))
    cases e'
    exact h'
  have z1 := (y1.later hk1).later hk2
  have z2 := (hset.out.later hk1).later hk2
  have zo := sp_own (base := w.heap.size) ((y3.later hk1).later hk2) (by omega)
  have g1 := (e1.later hk1).later hk2
  have g2 := (e2.later hk1).later hk2
  have g3 := (e3.later hk1).later hk2
  have c3 := e3.c0
  have hB6 := kept_trans (kept_trans hB5 hk1) hk2
  have hsz5 : w.heap.size ≤ ((W5.alloc (.cells #[.int .u8 3, .int .u8 2, .int .i64 0, .int .i64 2, .int .i64 0, .int .u8 0, .int .i64 0, .int .i64 0, .int .i64 0] 41)).alloc (.cells #[.bool true, .int .i64 0, .int .i64 1, .int .i64 1, .bool false, .slice (some ⟨W5.heap.size, 0, none⟩) 1 1] 35)).heap.size := hB6.size
  clear y1 hset y3 e1 e2 hk1 hk2 hB5
  replace hq := Lib.hid hq
  replace z1 := Lib.hid z1
  replace z2 := Lib.hid z2
  replace g1 := Lib.hid g1
  replace g2 := Lib.hid g2
  replace hB6 := Lib.hid hB6
  replace hst := Lib.hid hst
  go_upto_region 4 with (at_builtin; refine wpList_append_cells rfl (.tmp 24) (.tmp 29) 22 rfl w.heap.size 35 j0 _ 6 64 Try.underlying22 hj.out hy0 hy1 hy2 rfl (by decide) _ 1 (spsCells [(sOne, nilS)]) rfl zo (some ⟨W5.heap.size + 1, 0, none⟩) 1 1 [.bool true, .int .i64 0, .int .i64 1, .int .i64 1, .bool false, .slice (some ⟨W5.heap.size, 0, none⟩) 1 1] rfl rfl hcl (by simp [Value.oneCell']) (by unfold maxLen; omega) (by omega) hsz5 ?_; intro v6 w6 hown6 hgrow6; obtain ⟨a6, c6, rfl, hcell6⟩ := cells_of_row hown6; have g36 := block_grown g3 hgrow6 (not_rowblock zo g3 (by decide)); have g36f := PtBox.f g36 0; have g36c := PtBox.c0 g36)
  have hW : ∃ u, WkP w w1.heap.size (.slice (some ⟨pa, 0, none⟩) 1 1) (.slice (some ⟨pb, 0, none⟩) 1 1) (.slice a6 2 c6) u (w6.setCell ⟨w1.heap.size + 2, 0, none⟩ (.slice a6 2 c6)) := by
    have hrow : ∀ r, (Value.slice (some ⟨p1, 0, none⟩) 1 1).ownBlock = some r → r = p1 := by intro r hr; simp [Value.ownBlock] at hr; exact hr.symm
    have k1 : SpBox pa sOne nilS w6 := block_grown z1.out hgrow6 (fun e => by have := hrow pa e.symm; omega)
    have k2 : SpBox pb sNeg nilS w6 := block_grown z2.out hgrow6 (fun e => by have := hrow pb e.symm; omega)
    have k3 := block_grown g1.out hgrow6 (fun e => by have := hrow w1.heap.size e.symm; omega)
    have k4 := block_grown g2.out hgrow6 (fun e => by have := hrow (w1.heap.size + 1) e.symm; omega)
    have k5 : OwnCps w6 w.heap.size (.slice (some ⟨W5.heap.size, 0, none⟩) 1 1) [cAsk] := hq.out.kept hgrow6 (own_is zo 41 (by decide))
    have hB7 : Below w.heap.size w w6 := hB6.out.grown hgrow6 hB6.out.size (fun r hr => by rw [hrow r hr]; omega)
    have m1 : SpBox pa sOne nilS (w6.setCell ⟨w1.heap.size + 2, 0, none⟩ (.slice a6 2 c6)) := block_far k1 (by omega) _ _
    have m2 : SpBox pb sNeg nilS (w6.setCell ⟨w1.heap.size + 2, 0, none⟩ (.slice a6 2 c6)) := block_far k2 (by omega) _ _
    have m5 : OwnCps (w6.setCell ⟨w1.heap.size + 2, 0, none⟩ (.slice a6 2 c6)) w.heap.size (.slice (some ⟨W5.heap.size, 0, none⟩) 1 1) [cAsk] := k5.kept (grownBy_setCell_any w6 (w1.heap.size + 2) 0 _) (block_is g36 41 (by decide))
    have m6 := row_kept hown6 (grownBy_setCell_any w6 (w1.heap.size + 2) 0 (.slice a6 2 c6)) (block_is g36 35 (by decide))
    refine ⟨_, block_far k3 (by omega) _ _, sps_of_box m1 (cps_nil _), block_far k4 (by omega) _ _, sps_of_box m2 (cps_nil _), PtBox.set0 g36 _, ⟨cells_of_row m6, ?_⟩, hB7.setCell (by show _ ≤ w1.heap.size + 2; omega) _⟩
    intro x hx
    simp at hx
    rcases hx with rfl | rfl
    · exact cps_nil _
    · exact m5.cps
  obtain ⟨u, hW⟩ := hW
  rw [show w1.heap.size + 2 = w1.heap.size + 1 + 1 from rfl] at hW
  have hc6 : 2 ≤ c6 := by
    rcases hown6.2 with ⟨e, h0⟩ | ⟨g, cap, cur, e, _, _, h, _⟩
    · cases h0
    · cases e; exact h
  clear hq z1 z2 zo g1 g2 g3 hB6 hst g36 g36f g36c hgrow6 hown6 hcell6 hcl hsz5 c3 e3 hj hy0 hy1 hy2 hl1 hl2 hl3 hz1 hz2 hz3 hpa hpb hp1
  generalize w6.setCell ⟨w1.heap.size + 1 + 1, 0, none⟩ (.slice a6 2 c6) = W7 at *
  generalize w1.heap.size = B at *
  have C1 := Lib.hid (fun W (h : WkP w B (.slice (some ⟨pa, 0, none⟩) 1 1) (.slice (some ⟨pb, 0, none⟩) 1 1) (.slice a6 2 c6) u W) => ck1 W h.2.1)
  have C2 := Lib.hid (fun W (h : WkP w B (.slice (some ⟨pa, 0, none⟩) 1 1) (.slice (some ⟨pb, 0, none⟩) 1 1) (.slice a6 2 c6) u W) => ck2 W h.2.2.2.1)
  have C3 := Lib.hid (fun W (h : WkP w B (.slice (some ⟨pa, 0, none⟩) 1 1) (.slice (some ⟨pb, 0, none⟩) 1 1) (.slice a6 2 c6) u W) => ck3 W h.2.2.2.2.2.1)
  have C0 := Lib.hid (fun W => ck0 W)
  have M1 := Lib.hid (fun W (h : WkP w B (.slice (some ⟨pa, 0, none⟩) 1 1) (.slice (some ⟨pb, 0, none⟩) 1 1) (.slice a6 2 c6) u W) => may1 W h.2.1)
  have M3 := Lib.hid (fun W (h : WkP w B (.slice (some ⟨pa, 0, none⟩) 1 1) (.slice (some ⟨pb, 0, none⟩) 1 1) (.slice a6 2 c6) u W) => may3 W h.2.2.2.2.2.1)
  have T1 := Lib.hid (fun W (h : WkP w B (.slice (some ⟨pa, 0, none⟩) 1 1) (.slice (some ⟨pb, 0, none⟩) 1 1) (.slice a6 2 c6) u W) => tail1 W h.2.1)
  have T3 := Lib.hid (fun W (h : WkP w B (.slice (some ⟨pa, 0, none⟩) 1 1) (.slice (some ⟨pb, 0, none⟩) 1 1) (.slice a6 2 c6) u W) => tail3 W h.2.2.2.2.2.1)
  have H1 := Lib.hid (fun W (h : WkP w B (.slice (some ⟨pa, 0, none⟩) 1 1) (.slice (some ⟨pb, 0, none⟩) 1 1) (.slice a6 2 c6) u W) => head3 a6 c6 1 0 (by kernel_rfl) hc6 W h.2.2.2.2.2.1)
  have H0 := Lib.hid (fun W (h : WkP w B (.slice (some ⟨pa, 0, none⟩) 1 1) (.slice (some ⟨pb, 0, none⟩) 1 1) (.slice a6 2 c6) u W) => head3 a6 c6 0 (-1) (by kernel_rfl) hc6 W h.2.2.2.2.2.1)
  have H2 := Lib.hid (fun W (h : WkP w B (.slice (some ⟨pa, 0, none⟩) 1 1) (.slice (some ⟨pb, 0, none⟩) 1 1) (.slice a6 2 c6) u W) => head3 a6 c6 2 (-1) (by kernel_rfl) hc6 W h.2.2.2.2.2.1)
  clear hc6
  have r0 := hW.1.c0
  have r1 := hW.1.c1
  have r2 := hW.2.2.1.c0
  have r3 := hW.2.2.1.c1
  have r4 := hW.2.2.2.2.1.c0
  have r5 := hW.2.2.2.2.1.c1
  go_wp2_with (first
    | ((with_reducible refine (C1.out _ hW).mono ?_); rintro e X ⟨rfl, hbx⟩; replace hW := hW.later hbx; have r0 := hW.1.c0; have r1 := hW.1.c1; have r2 := hW.2.2.1.c0; have r3 := hW.2.2.1.c1; have r4 := hW.2.2.2.2.1.c0; have r5 := hW.2.2.2.2.1.c1)
    | ((with_reducible refine (C2.out _ hW).mono ?_); rintro e X ⟨rfl, hbx⟩; replace hW := hW.later hbx; have r0 := hW.1.c0; have r1 := hW.1.c1; have r2 := hW.2.2.1.c0; have r3 := hW.2.2.1.c1; have r4 := hW.2.2.2.2.1.c0; have r5 := hW.2.2.2.2.1.c1)
    | ((with_reducible refine (C3.out _ hW).mono ?_); rintro e X ⟨rfl, hbx⟩; replace hW := hW.later hbx; have r0 := hW.1.c0; have r1 := hW.1.c1; have r2 := hW.2.2.1.c0; have r3 := hW.2.2.1.c1; have r4 := hW.2.2.2.2.1.c0; have r5 := hW.2.2.2.2.1.c1)
    | ((with_reducible refine (M1.out _ hW).mono ?_); rintro e X ⟨rfl, hbx⟩; replace hW := hW.later hbx; have r0 := hW.1.c0; have r1 := hW.1.c1; have r2 := hW.2.2.1.c0; have r3 := hW.2.2.1.c1; have r4 := hW.2.2.2.2.1.c0; have r5 := hW.2.2.2.2.1.c1)
    | ((with_reducible refine (M3.out _ hW).mono ?_); rintro e X ⟨rfl, hbx⟩; replace hW := hW.later hbx; have r0 := hW.1.c0; have r1 := hW.1.c1; have r2 := hW.2.2.1.c0; have r3 := hW.2.2.1.c1; have r4 := hW.2.2.2.2.1.c0; have r5 := hW.2.2.2.2.1.c1)
    | ((with_reducible refine (T1.out _ hW).mono ?_); rintro e X ⟨rfl, hbx⟩; replace hW := hW.later hbx; have r0 := hW.1.c0; have r1 := hW.1.c1; have r2 := hW.2.2.1.c0; have r3 := hW.2.2.1.c1; have r4 := hW.2.2.2.2.1.c0; have r5 := hW.2.2.2.2.1.c1)
    | ((with_reducible refine (T3.out _ hW).mono ?_); rintro e X ⟨rfl, hbx⟩; replace hW := hW.later hbx; have r0 := hW.1.c0; have r1 := hW.1.c1; have r2 := hW.2.2.1.c0; have r3 := hW.2.2.1.c1; have r4 := hW.2.2.2.2.1.c0; have r5 := hW.2.2.2.2.1.c1)
    | ((with_reducible refine (H1.out _ hW).mono ?_); rintro e X ⟨rfl, hbx⟩; replace hW := hW.later hbx; have r0 := hW.1.c0; have r1 := hW.1.c1; have r2 := hW.2.2.1.c0; have r3 := hW.2.2.1.c1; have r4 := hW.2.2.2.2.1.c0; have r5 := hW.2.2.2.2.1.c1)
    | ((with_reducible refine (H0.out _ hW).mono ?_); rintro e X ⟨rfl, hbx⟩; replace hW := hW.later hbx; have r0 := hW.1.c0; have r1 := hW.1.c1; have r2 := hW.2.2.1.c0; have r3 := hW.2.2.1.c1; have r4 := hW.2.2.2.2.1.c0; have r5 := hW.2.2.2.2.1.c1)
    | ((with_reducible refine (H2.out _ hW).mono ?_); rintro e X ⟨rfl, hbx⟩; replace hW := hW.later hbx; have r0 := hW.1.c0; have r1 := hW.1.c1; have r2 := hW.2.2.1.c0; have r3 := hW.2.2.1.c1; have r4 := hW.2.2.2.2.1.c0; have r5 := hW.2.2.2.2.1.c1)
    | ((with_reducible refine (C0.out _).mono ?_); rintro e X ⟨rfl, hbx⟩; replace hW := hW.later hbx; have r0 := hW.1.c0; have r1 := hW.1.c1; have r2 := hW.2.2.1.c0; have r3 := hW.2.2.1.c1; have r4 := hW.2.2.2.2.1.c0; have r5 := hW.2.2.2.2.1.c1))
  go_ret
  exact ⟨rfl, hW.2.2.2.2.2.2⟩
end Go.Proofs.Ytmgkamljlgmmeaa.Tree
