/-
  Contract of tree.Own.
-/
import Derived.Test.YtkibnbcdmkogkaaY
namespace Go.Proofs.Ytkibnbcdmkogkaa
open Go.ChangeShapes Go.WideShapes Go.ChangeAt Go.RowKit
set_option linter.unusedVariables false
set_option linter.unusedSimpArgs false
attribute [local go_sem] Oper.semAt_some
theorem keepC {X Y : World} {a : Addr} {v : Value} (h : X.grownBy Y none) (hc : X.cell? a = some v) : Y.cell? a = some v := (h.cell_far a (World.block_lt_of_cell? X _ hc) (by simp)).trans hc
theorem keepF {X Y : World} {a : Addr} {v : Value} (h : X.grownBy Y none) (hc : X.cell? a = some v) (hf : X.frozen? a = false) : Y.frozen? a = false := (h.frozen_far a (World.block_lt_of_cell? X _ hc) (by simp)).trans hf
/-- Bounds that an append asks. -/
def Fits (L : List (Sp × Value)) : Prop := L.length ≤ 1000000 ∧ ∀ x ∈ L, x.1.cs.length ≤ 1000000
/-- What Own has behind i steps. -/
def OnIn (w : World) (L : List (Sp × Value)) (v : Value) (win : Int) (i : Nat) (W : World) : Prop :=
  PtBox w.heap.size v win W ∧ W.heap[w.heap.size + 1]? = some (.cells #[.slice none 0 0, .int .i64 0] 24 (0, 0)) ∧ Below w.heap.size w W ∧
    ∃ M : List (Sp × Value), W.ownsRow w.heap.size 36 6 v L.length (spsCells M) ∧ M.map (·.1) = L.map (·.1) ∧ (∀ j x, j < i → M[j]? = some x → OwnCps W w.heap.size x.2 x.1.cs) ∧ ∀ j, i ≤ j → M[j]? = L[j]?
theorem PtBox.set0 {p : Nat} {v : Value} {win : Int} {w : World} (h : PtBox p v win w) (u : Value) : PtBox p u win (w.setCell ⟨p, 0, none⟩ u) := by
  obtain ⟨hlt, hk⟩ := Array.getElem?_eq_some_iff.1 h
  show (w.heap.modify p _)[p]? = _
  rw [Array.getElem?_eq_getElem (by rw [Array.size_modify]; exact hlt), Array.getElem_modify_self, hk]
  rfl
theorem PtBox.set1 {p : Nat} {v : Value} {win : Int} {w : World} (h : PtBox p v win w) (u : Int) : PtBox p v u (w.setCell ⟨p, 1, none⟩ (.int .i64 u)) := by
  obtain ⟨hlt, hk⟩ := Array.getElem?_eq_some_iff.1 h
  show (w.heap.modify p _)[p]? = _
  rw [Array.getElem?_eq_getElem (by rw [Array.size_modify]; exact hlt), Array.getElem_modify_self, hk]
  rfl
theorem PtBox.f {p : Nat} {v : Value} {win : Int} {w : World} (h : PtBox p v win w) (j : Nat) : w.frozen? ⟨p, j, none⟩ = false := by unfold PtBox at h; simp [World.frozen?, h]
theorem block_is {W : World} {B : Nat} {t : TypeId} {cs : Array Value} (h : W.heap[B]? = some (.cells cs t (0, 0))) (u : TypeId) (ht : u ≠ t) : ∀ r, some B = some r → ∃ o : Obj, W.heap[r]? = some o ∧ ∀ cs fz, o ≠ .cells cs u fz := by
  intro r e
  cases e
  exact ⟨_, h, by rintro cs fz ⟨⟩; exact ht rfl⟩
theorem row_step {W : World} {base g n cap : Nat} {M : List (Sp × Value)} (h : W.ownsRow base 36 6 (.slice (some ⟨g, 0, none⟩) n cap) n (spsCells M)) {i : Nat} {s : Sp} {u : Value} (hi : i < n) (hx : M[i]? = some (s, u)) :
    W.cell? ⟨g, i * 6, none⟩ = some (.bool s.neg) ∧ W.cell? ⟨g, i * 6 + 1, none⟩ = some (.int .i64 s.kind) ∧ W.cell? ⟨g, i * 6 + 2, none⟩ = some (.int .i64 s.min) ∧
      W.cell? ⟨g, i * 6 + 3, none⟩ = some (.int .i64 s.max) ∧ W.cell? ⟨g, i * 6 + 4, none⟩ = some (.bool s.strict) ∧ W.cell? ⟨g, i * 6 + 5, none⟩ = some u ∧ W.frozen? ⟨g, i * 6 + 5, none⟩ = false := by
  have H := fun j hj => flat_at 6 (fun x : Sp × Value => [Value.bool x.1.neg, .int .i64 x.1.kind, .int .i64 x.1.min, .int .i64 x.1.max, .bool x.1.strict, x.2]) (fun _ => rfl) M i _ hx j hj
  have C := fun j (hj : j < 6) => (h.cellAt (i * 6 + j) (by omega)).trans (H j hj)
  exact ⟨C 0 (by omega), C 1 (by omega), C 2 (by omega), C 3 (by omega), C 4 (by omega), C 5 (by omega), h.frozenAt _⟩
theorem OwnCps.kept {W W' : World} {base : Nat} {v : Value} {cs : List Cp} {row : Option Nat} (h : OwnCps W base v cs) (hg : W.grownBy W' row) (hrow : ∀ r, row = some r → ∃ o : Obj, W.heap[r]? = some o ∧ ∀ cs fz, o ≠ .cells cs 45 fz) : OwnCps W' base v cs := row_kept h hg hrow
theorem OnIn.next {w W W2 : World} {L M : List (Sp × Value)} {win : Int} {i g cap : Nat} {s : Sp} {u v2 : Value}
    (hp : PtBox w.heap.size (.slice (some ⟨g, 0, none⟩) L.length cap) win W) (hz : W.heap[w.heap.size + 1]? = some (.cells #[.slice none 0 0, .int .i64 0] 24 (0, 0))) (hB : Below w.heap.size w W)
    (hr : W.ownsRow w.heap.size 36 6 (.slice (some ⟨g, 0, none⟩) L.length cap) L.length (spsCells M)) (hM : M.map (·.1) = L.map (·.1)) (hold : ∀ j x, j < i → M[j]? = some x → OwnCps W w.heap.size x.2 x.1.cs) (hnew : ∀ j, i ≤ j → M[j]? = L[j]?)
    (hx : M[i]? = some (s, u)) (hg : W.grownBy W2 none) (hown : OwnCps W2 w.heap.size v2 s.cs) : OnIn w L (.slice (some ⟨g, 0, none⟩) L.length cap) win (i + 1) (W2.setCell ⟨g, i * 6 + 5, none⟩ v2) := by
  have hr2 := row_kept hr hg (fun r e => by cases e)
  obtain ⟨st1, st2⟩ := hr2.stored (i * 6 + 5) v2
  have hgt := own_is hr2
  have hgb : ∀ t, t ≠ 36 → ∀ r, some g = some r → ∃ o : Obj, W2.heap[r]? = some o ∧ ∀ cs fz, o ≠ .cells cs t fz := fun t ht r e => hgt t ht r (by simpa [Value.ownBlock] using e)
  have hp2 : PtBox w.heap.size (.slice (some ⟨g, 0, none⟩) L.length cap) win W2 := hp.later (below_grown hg)
  have hz2 := ((below_grown hg).block _ (Array.getElem?_eq_some_iff.1 hz).1).trans hz
  have ne1 : w.heap.size ≠ g := by
    rintro rfl
    obtain ⟨o, ho, hc⟩ := hgb 24 (by decide) _ rfl
    rw [show W2.heap[w.heap.size]? = _ from hp2] at ho; cases ho; exact hc _ _ rfl
  have ne2 : w.heap.size + 1 ≠ g := by
    rintro rfl
    obtain ⟨o, ho, hc⟩ := hgb 24 (by decide) _ rfl
    rw [hz2] at ho; cases ho; exact hc _ _ rfl
  have hge : w.heap.size ≤ g := by
    rcases hr.2 with ⟨e, _⟩ | ⟨g', cap', cur, e, hb, _⟩
    · cases e
    · cases e; exact hb
  refine ⟨(Below.heap_setCell W2 ⟨g, i * 6 + 5, none⟩ v2 _ ne1).trans hp2, (Below.heap_setCell W2 ⟨g, i * 6 + 5, none⟩ v2 _ ne2).trans hz2, (hB.trans ((below_grown hg).mono hB.size)).setCell (p := ⟨g, i * 6 + 5, none⟩) hge v2, M.set i (s, v2), ?_, ?_, ?_, ?_⟩
  · rw [← spsCells_set hx]; exact st1
  · rw [List.map_set, hM]
    have : (L.map (·.1))[i]? = some s := by rw [← hM, List.getElem?_map, hx]; rfl
    obtain ⟨hlt, he⟩ := List.getElem?_eq_some_iff.1 this
    apply List.ext_getElem?
    intro j
    rw [List.getElem?_set]
    split
    · rename_i e; subst e; rw [this]
    · rfl
  · intro j x hj hjx
    rw [List.getElem?_set] at hjx
    split at hjx
    · rename_i e
      subst e
      split at hjx
      · cases hjx
        exact hown.kept st2 (hgb 45 (by decide))
      · cases hjx
    · exact (hold j x (by omega) hjx |>.kept hg (fun r e => by cases e)).kept st2 (hgb 45 (by decide))
  · intro j hj
    rw [List.getElem?_set_ne (by omega)]
    exact hnew j (by omega)
set_option maxRecDepth 100000 in
set_option maxHeartbeats 1000000 in
theorem own_L (a : Option Addr) (n c : Nat) (win : Int) (L : List (Sp × Value)) (hF : Fits L) (w : World) (hl : L.length = n) (h : SpsL w (.slice a n c) L) :
    Calls Try.prog 25 #[ptV (.slice a n c) win] w fun e w' => ∃ v' L', e = .returned (ptV v' win) ∧ OwnSps w' w.heap.size v' L' ∧ L'.map (·.1) = L.map (·.1) ∧ Below w.heap.size w w' := by
  have hn1 := hF.1
  have hb2 := below_two w (.cells #[.slice a n c, .int .i64 win] 24) (.cells #[.slice none 0 0, .int .i64 0] 24)
  have hp0 : PtBox w.heap.size (.slice a n c) win ((w.alloc (.cells #[.slice a n c, .int .i64 win] 24)).alloc (.cells #[.slice none 0 0, .int .i64 0] 24)) := (PtBox.new w _ _).later (kept_new _ _)
  have hz := new_two w (.cells #[.slice a n c, .int .i64 win] 24) (.cells #[.slice none 0 0, .int .i64 0] 24)
  obtain ⟨a0, c0', e0, hcs0⟩ := (h.later hb2).1
  rw [hl] at e0
  obtain ⟨rfl, rfl⟩ := slice_eq e0
  clear e0
  have k0 := hp0.c0
  have hone := sps_one h.2
  have hlen6 := spsCells_len L
  rw [hl] at hlen6
  obtain ⟨i0, hi, hz0, hz1, hz2⟩ := info_parts Try.info36
  replace hi := Lib.hid hi
  have hsz0 : ((w.alloc (.cells #[.slice a n c, .int .i64 win] 24)).alloc (.cells #[.slice none 0 0, .int .i64 0] 24)).heap.size = w.heap.size + 2 := by simp
  replace hone := Lib.hid hone
  go_enter Try.func25, Try.ntmps25
  generalize hW0 : ((w.alloc (.cells #[.slice a n c, .int .i64 win] 24)).alloc (.cells #[.slice none 0 0, .int .i64 0] 24)) = W0 at *
  have hk0f : W0.frozen? ⟨w.heap.size, 0, none⟩ = false := by unfold PtBox at hp0; simp [World.frozen?, hp0]
  go_wp2_with (at_builtin; refine wpList_append_cells rfl _ _ 22 rfl w.heap.size 36 i0 _ 6 64 Try.underlying22 hi.out hz0 hz1 hz2 rfl (by decide) (.slice none 0 0) 0 [] rfl (World.ownsRow_nil _ _ _ _) a n c (spsCells L) rfl hlen6 hcs0 hone.out (by unfold maxLen; omega) (by omega) (by rw [hsz0]; omega) ?_; intro v' w1 hown' hgrow; have k1 := keepC hgrow k0; have f1 := keepF hgrow k0 hk0f; rw [Nat.zero_add, List.nil_append] at hown'; obtain ⟨a5, c5, rfl, -⟩ := cells_of_row hown')
  have hgrow' := below_grown hgrow
  have hOn : OnIn w L (.slice a5 n c5) win 0 (w1.setCell ⟨w.heap.size, 0, none⟩ (.slice a5 n c5)) := by
    have hp1 := hp0.later hgrow'
    have hz1 := (hgrow'.block _ (Array.getElem?_eq_some_iff.1 hz).1).trans hz
    refine ⟨hp1.set0 _, block_far hz1 (by omega) _ _, (hb2.trans (hgrow'.mono hb2.size)).setCell (by simp) _, L, ?_, rfl, fun j x hj => by omega, fun j _ => rfl⟩
    rw [hl]
    exact row_kept hown' (grownBy_setCell_any w1 w.heap.size 0 _) (block_is hp1 36 (by decide))
  clear hown' hgrow hgrow' k1 f1 k0 hk0f hp0 hz hcs0 hone hsz0 hi hz0 hz1 hz2 hlen6 hb2
  obtain ⟨W1, hW1⟩ : ∃ W1, w1.setCell ⟨w.heap.size, 0, none⟩ (.slice a5 n c5) = W1 := ⟨_, rfl⟩
  rw [hW1] at hOn ⊢
  clear hW1 hW0
  obtain ⟨i0, hi, hz0, hz1, hz2⟩ := info_parts Try.info45
  replace hi := Lib.hid hi
  replace hF := Lib.hid hF
  replace h := Lib.hid h
  go_loopw [12] (fun t wr => ∃ i : Nat, i ≤ n ∧ t = .int .i64 i ∧ Hid (OnIn w L (.slice a5 n c5) win i wr)) (fun t _ => n - (intOf t).toNat)
  case atStart => exact ⟨0, Nat.zero_le _, rfl, hOn⟩
  case round =>
    clear hOn
    obtain ⟨i, hi', rfl, hOn⟩ := hrel
    obtain ⟨hp, hz, hB, M, hr, hM, hold, hnew⟩ := hOn.out
    by_cases hlt : i < n
    · have hlti : (i : Int) < n := by omega
      obtain ⟨⟨s, u⟩, hx⟩ := sps_i (L := L) (i := i) (by omega)
      have hxM : M[i]? = some (s, u) := (hnew i (Nat.le_refl _)).trans hx
      have hcu := h.out.2 _ (List.mem_of_getElem? hx)
      have hm1 := hF.out.2 _ (List.mem_of_getElem? hx)
      dsimp only at hcu hm1
      obtain ⟨m, hm⟩ : ∃ l, s.cs.length = l := ⟨_, rfl⟩
      obtain ⟨a2, c2, rfl⟩ := cps_lit hcu hm
      obtain ⟨g, rfl⟩ : ∃ g, a5 = some ⟨g, 0, none⟩ := by
        rcases hr.2 with ⟨e, h0⟩ | ⟨g, cap, cur, e, _⟩
        · omega
        · cases e; exact ⟨g, rfl⟩
      rw [hl] at hr
      obtain ⟨z0, z1, z2, z3, z4, z5, z6⟩ := row_step hr hlt hxM
      have hk1 := kept_new wr (.cells #[.bool s.neg, .int .i64 s.kind, .int .i64 s.min, .int .i64 s.max, .bool s.strict, .slice a2 m c2] 36)
      have hsp := SpBox.new wr s (.slice a2 m c2)
      have hp' := hp.later hk1
      have y0 := hp'.c0
      have y5 := hsp.cells.2.2.2.2.2
      have x5 := bcell hk1 (World.block_lt_of_cell? wr _ z5) z5
      have x6 : (wr.alloc (.cells #[.bool s.neg, .int .i64 s.kind, .int .i64 s.min, .int .i64 s.max, .bool s.strict, .slice a2 m c2] 36)).frozen? ⟨g, i * 6 + 5, none⟩ = false := ((World.grownBy_alloc wr _ none).frozen_far _ (World.block_lt_of_cell? wr _ z5) (by simp)).trans z6
      have hca := hcu.later (hB.trans (hk1.mono hB.size))
      have hcone := Lib.hid (cps_one (cs := s.cs))
      have hc9 : (cpsCells s.cs).length = m * 9 := by rw [cpsCells_len, hm]
      have hwsz : w.heap.size ≤ (wr.alloc (.cells #[.bool s.neg, .int .i64 s.kind, .int .i64 s.min, .int .i64 s.max, .bool s.strict, .slice a2 m c2] 36)).heap.size := by have := hB.size; simp; omega
      obtain ⟨a2', c2', e2, hcc⟩ := hca
      rw [hm] at e2
      obtain ⟨rfl, rfl⟩ := slice_eq e2
      have HN : Hid (∀ w1 v2, (wr.alloc (.cells #[.bool s.neg, .int .i64 s.kind, .int .i64 s.min, .int .i64 s.max, .bool s.strict, .slice a2 m c2] 36)).drew.grownBy w1 none → OwnCps w1 w.heap.size v2 s.cs → OnIn w L (.slice (some ⟨g, 0, none⟩) n c5) win (i + 1) (w1.setCell ⟨g, i * 6 + 5, none⟩ v2)) := by
        show ∀ _, _
        intro w1 v2 hg hown
        have hg2 : wr.grownBy w1 none := (World.grownBy_alloc wr _ none).trans (show (wr.alloc (.cells #[.bool s.neg, .int .i64 s.kind, .int .i64 s.min, .int .i64 s.max, .bool s.strict, .slice a2 m c2] 36)).grownBy w1 none from ⟨hg.os, hg.tape, hg.output, hg.size, hg.block⟩)
        subst hl
        exact OnIn.next hp hz hB hr hM hold hnew hxM hg2 hown
      clear e2 hx hcu hnew hold hM hp' hsp hxM
      go_wp2_with fail
      generalize (wr.alloc (.cells #[.bool s.neg, .int .i64 s.kind, .int .i64 s.min, .int .i64 s.max, .bool s.strict, .slice a2 m c2] 36)) = W2 at *
      generalize hS2 : wr.heap.size = S2 at *
      clear hS2 hz hB hr z0 z1 z2 z3 z4 z5 z6
      have hg0 : W2.grownBy W2.drew none := ⟨rfl, rfl, rfl, Nat.le_refl _, fun _ _ _ => rfl⟩
      have d0 : W2.drew.cell? ⟨w.heap.size, 0, none⟩ = some (.slice (some ⟨g, 0, none⟩) n c5) := y0
      have d5 : W2.drew.cell? ⟨S2, 5, none⟩ = some (.slice a2 m c2) := y5
      have d6 : W2.drew.cell? ⟨g, i * 6 + 5, none⟩ = some (.slice a2 m c2) := x5
      have d7 : W2.drew.frozen? ⟨g, i * 6 + 5, none⟩ = false := x6
      have dC : CellsAt W2.drew a2 (cpsCells s.cs) := hcc
      go_region_law ((refine step_append_cells (by rfl) _ _ 34 (by rfl) w.heap.size 45 i0 _ 9 72 Try.underlying34 hi.out hz0 hz1 hz2 rfl (by decide) (.slice none 0 0) 0 [] (by rfl) (World.ownsRow_nil _ _ _ _) a2 m c2 (cpsCells s.cs) (by rfl) hc9 dC hcone.out (by unfold maxLen; omega) (by omega) hwsz ?_; intro v' w1 hown' hgrow; rw [Nat.zero_add, List.nil_append] at hown'; obtain ⟨a6, c6, rfl, -⟩ := cells_of_row hown'; have r0 := keepC hgrow d0; have r6 := keepC hgrow d6; have r7 := keepF hgrow d6 d7))
      all_goals
        have hfin := Lib.hid (HN.out _ _ hgrow (by unfold OwnCps; rw [hm]; exact hown'))
        clear hgrow hown' r0 r6 r7 d0 d5 d6 d7 dC hcc x5 x6 y0 y5 HN hk1
        go_wp2
        go_roundw
        case rel => exact ⟨i + 1, by omega, by go_num, hfin⟩
        case measure => simp [intOf]; omega
    · obtain rfl : i = n := by omega
      have hall : ∀ x ∈ M, OwnCps wr w.heap.size x.2 x.1.cs := fun x hx => by
        obtain ⟨j, hj⟩ := List.mem_iff_getElem?.1 hx
        have hjl := (List.getElem?_eq_some_iff.1 hj).1
        have hml := congrArg List.length hM
        simp at hml
        exact hold j x (by omega) hj
      have y0 := hp.c0
      have y1 := hp.c1
      have hz' : PtBox (w.heap.size + 1) (.slice none 0 0) 0 wr := hz
      have r0 := hz'.c0
      have r1 := hz'.f 0
      have hz2 := hz'.set0 (.slice a5 i c5)
      have r2 := hz2.c1
      have r3 := hz2.f 1
      have hz3 := hz2.set1 win
      have hr2 := row_kept hr (grownBy_setCell_any wr (w.heap.size + 1) 0 (.slice a5 i c5)) (block_is hz 36 (by decide))
      have hr3 := row_kept hr2 (grownBy_setCell_any _ (w.heap.size + 1) 1 (.int .i64 win)) (block_is hz2 36 (by decide))
      have hall3 : ∀ x ∈ M, OwnCps ((wr.setCell ⟨w.heap.size + 1, 0, none⟩ (.slice a5 i c5)).setCell ⟨w.heap.size + 1, 1, none⟩ (.int .i64 win)) w.heap.size x.2 x.1.cs := fun x hx =>
        ((hall x hx).kept (grownBy_setCell_any wr (w.heap.size + 1) 0 (.slice a5 i c5)) (block_is hz 45 (by decide))).kept (grownBy_setCell_any _ (w.heap.size + 1) 1 (.int .i64 win)) (block_is hz2 45 (by decide))
      have hB3 := (hB.setCell (p := ⟨w.heap.size + 1, 0, none⟩) (by simp) (.slice a5 i c5)).setCell (p := ⟨w.heap.size + 1, 1, none⟩) (by simp) (.int .i64 win)
      have hMl : M.length = L.length := by have := congrArg List.length hM; simpa using this
      clear hold hnew hr hr2 hall
      go_wp2
      exact bodyPost_ret (v := ptV (.slice a5 i c5) win) (results_cell_row rfl _ _ (w.heap.size + 1) 24 _ (0, 0) _ rfl hz3 Try.underlying24 rfl (by kernel_rfl)) rfl ⟨_, rfl, M, ⟨by rw [hMl]; exact hr3, hall3⟩, hM, hB3⟩
end Go.Proofs.Ytkibnbcdmkogkaa
