/-
  Contract of the document's own Own, where each step's comparisons lie in a block of their own.
-/
import Derived.Test.YtmgkamljlgmmeaaRAJ
namespace Go.Proofs.Ytmgkamljlgmmeaa.Tree
open Go.ChangeShapes Go.WideShapes Go.ChangeAt Go.RowKit
set_option linter.unusedVariables false
set_option linter.unusedSimpArgs false
attribute [local go_sem] Oper.semAt_some
/-- Rows in blocks apart. -/
def Apart (M : List (Sp × Value)) : Prop := M.Pairwise fun x y => ∀ r, x.2.ownBlock = some r → y.2.ownBlock ≠ some r
/-- What Own has behind i steps. -/
def RdIn (w : World) (L : List (Sp × Value)) (win : Int) (i : Nat) (W : World) : Prop :=
  ∃ v, PtBox w.heap.size v win W ∧ W.heap[w.heap.size + 1]? = some (.cells #[.slice none 0 0, .int .i64 0] 24 (0, 0)) ∧ Below w.heap.size w W ∧
    ∃ M : List (Sp × Value), W.ownsRow w.heap.size 35 6 v i (spsCells M) ∧ M.map (·.1) = (L.map (·.1)).take i ∧ (∀ x ∈ M, OwnCps W w.heap.size x.2 x.1.cs) ∧ Apart M
/-- Behind the comparisons' append, and their store. -/
def RdMid (w : World) (M : List (Sp × Value)) (win : Int) (i : Nat) (v : Value) (B2 : Nat) (s : Sp) (u : Value) (W : World) : Prop :=
  SpBox B2 s u W ∧ PtBox w.heap.size v win W ∧ W.heap[w.heap.size + 1]? = some (.cells #[.slice none 0 0, .int .i64 0] 24 (0, 0)) ∧ Below w.heap.size w W ∧ W.ownsRow w.heap.size 35 6 v i (spsCells M) ∧ (∀ x ∈ M, OwnCps W w.heap.size x.2 x.1.cs) ∧ OwnCps W w.heap.size u s.cs ∧ (∀ x ∈ M, ∀ r, x.2.ownBlock = some r → u.ownBlock ≠ some r)
theorem rd_mid {w wr w1 : World} {M : List (Sp × Value)} {win : Int} {i m : Nat} {v u u' : Value} {s : Sp}
    (hp : PtBox w.heap.size v win wr) (hz : wr.heap[w.heap.size + 1]? = some (.cells #[.slice none 0 0, .int .i64 0] 24 (0, 0))) (hB : Below w.heap.size w wr) (hr : wr.ownsRow w.heap.size 35 6 v i (spsCells M)) (hown : ∀ x ∈ M, OwnCps wr w.heap.size x.2 x.1.cs) (hm : s.cs.length = m)
    (hgrow : ((wr.alloc (.cells #[.bool s.neg, .int .i64 s.kind, .int .i64 s.min, .int .i64 s.max, .bool s.strict, u] 35)).alloc (.cells #[] 41)).grownBy w1 (some (wr.heap.size + 1))) (hown0 : w1.ownsRow wr.heap.size 41 9 u' m (cpsCells s.cs)) :
    SpBox wr.heap.size s u w1 ∧ RdMid w M win i v wr.heap.size s u' (w1.setCell ⟨wr.heap.size, 5, none⟩ u') := by
  have hown' : w1.ownsRow w.heap.size 41 9 u' m (cpsCells s.cs) := row_base hown0 hB.size
  have hg1 : wr.grownBy ((wr.alloc (.cells #[.bool s.neg, .int .i64 s.kind, .int .i64 s.min, .int .i64 s.max, .bool s.strict, u] 35)).alloc (.cells #[] 41)) none := (World.grownBy_alloc wr _ none).trans (World.grownBy_alloc _ _ none)
  have hg2 : wr.grownBy w1 none := ⟨hgrow.os.trans hg1.os, hgrow.tape.trans hg1.tape, hgrow.output.trans hg1.output, Nat.le_trans hg1.size hgrow.size, fun k hk _ => (hgrow.block k (Nat.lt_of_lt_of_le hk hg1.size) (fun e => by cases e; omega)).trans (hg1.block k hk (by simp))⟩
  have hsp0 : SpBox wr.heap.size s u ((wr.alloc (.cells #[.bool s.neg, .int .i64 s.kind, .int .i64 s.min, .int .i64 s.max, .bool s.strict, u] 35)).alloc (.cells #[] 41)) := (SpBox.new wr s u).later (kept_new _ _)
  have hsp : SpBox wr.heap.size s u w1 := block_grown hsp0 hgrow (fun e => by injection e; omega)
  refine ⟨hsp, hsp.set5 u', ?_, ?_, (hB.trans ((below_grown hg2).mono hB.size)).setCell (by have := hB.size; simpa using this) _, ?_, ?_, ?_, ?_⟩
  · exact block_far (block_grown hp hg2 (by simp)) (by have := hp.lt; omega) _ _
  · exact block_far (block_grown hz hg2 (by simp)) (by have := (Array.getElem?_eq_some_iff.1 hz).1; omega) _ _
  · refine (row_kept hr hg2 (fun r e => by cases e)).kept (grownBy_setCell_any w1 wr.heap.size 5 u') (.inr fun e => ?_)
    have := (hr.lt _ e).2
    omega
  · exact fun x hx => ((hown x hx).kept hg2 (fun r e => by cases e)).kept (grownBy_setCell_any w1 wr.heap.size 5 u') (block_is hsp 41 (by decide))
  · unfold OwnCps
    rw [hm]
    exact row_kept hown' (grownBy_setCell_any w1 wr.heap.size 5 u') (block_is hsp 41 (by decide))
  · intro x hx r hr1 hr2
    have h1 := ((hown x hx).lt r hr1).2
    have h2 := (hown0.lt r hr2).1
    omega
theorem rd_end {w W w2 : World} {L M : List (Sp × Value)} {win : Int} {i B2 : Nat} {v u v' : Value} {s : Sp} {tmp : Obj}
    (h : RdMid w M win i v B2 s u W) (hM : M.map (·.1) = (L.map (·.1)).take i) (hap : Apart M) (hx : (L.map (·.1))[i]? = some s)
    (hgrow : (W.alloc tmp).grownBy w2 v.ownBlock) (hown' : w2.ownsRow w.heap.size 35 6 v' (i + 1) (spsCells M ++ [.bool s.neg, .int .i64 s.kind, .int .i64 s.min, .int .i64 s.max, .bool s.strict, u])) : PtBox w.heap.size v win w2 ∧ RdIn w L win (i + 1) (w2.setCell ⟨w.heap.size, 0, none⟩ v') := by
  obtain ⟨-, hp, hz, hB, hr, hown, hu, hua⟩ := h
  have hg1 : W.grownBy (W.alloc tmp) none := World.grownBy_alloc W _ none
  have hp1 := block_grown (block_grown hp hg1 (by simp)) hgrow (not_rowblock (hr.alloc _) (block_grown hp hg1 (by simp)) (by decide))
  have hz1 := block_grown (block_grown hz hg1 (by simp)) hgrow (not_rowblock (hr.alloc _) (block_grown hz hg1 (by simp)) (by decide))
  have hkeep : ∀ {v cs}, OwnCps W w.heap.size v cs → OwnCps (w2.setCell ⟨w.heap.size, 0, none⟩ v') w.heap.size v cs := fun h => ((h.kept hg1 (fun r e => by cases e)).kept hgrow (own_is (hr.alloc _) 41 (by decide))).kept (grownBy_setCell_any w2 w.heap.size 0 v') (block_is hp1 41 (by decide))
  refine ⟨hp1, v', PtBox.set0 hp1 v', block_far hz1 (by omega) _ _, ?_, M ++ [(s, u)], ?_, ?_, ?_, ?_⟩
  · refine (Below.grown (hB.trans ((below_grown hg1).mono hB.size)) hgrow (by have := hB.size; simp; omega) fun j ej => ?_).setCell (p := ⟨w.heap.size, 0, none⟩) (by simp) v'
    exact (hr.lt _ ej).1
  · have hs : spsCells (M ++ [(s, u)]) = spsCells M ++ [.bool s.neg, .int .i64 s.kind, .int .i64 s.min, .int .i64 s.max, .bool s.strict, u] := by simp [spsCells]
    rw [hs]
    exact row_kept hown' (grownBy_setCell_any w2 w.heap.size 0 v') (block_is hp1 35 (by decide))
  · rw [List.map_append, hM, List.take_add_one, hx]; rfl
  · intro x hx
    rcases List.mem_append.1 hx with hx | hx
    · exact hkeep (hown x hx)
    · obtain rfl := List.mem_singleton.1 hx
      exact hkeep hu
  · unfold Apart
    rw [List.pairwise_append]
    refine ⟨hap, by simp, fun x hx y hy => ?_⟩
    obtain rfl := List.mem_singleton.1 hy
    exact hua x hx
set_option maxRecDepth 100000 in
set_option maxHeartbeats 1000000 in
theorem refOwn_D (a : Option Addr) (n c : Nat) (win : Int) (L : List (Sp × Value)) (hF : Fits L) (w : World) (hl : L.length = n) (h : SpsL w (.slice a n c) L) :
    Calls Try.prog 20 #[ptV (.slice a n c) win] w fun e w' => ∃ v' L', e = .returned (ptV v' win) ∧ OwnSps w' w.heap.size v' L' ∧ L'.map (·.1) = L.map (·.1) ∧ Apart L' ∧ Below w.heap.size w w' := by
  have hn1 := hF.1
  have hb2 := below_two w (.cells #[.slice a n c, .int .i64 win] 24) (.cells #[.slice none 0 0, .int .i64 0] 24)
  have hp0 : PtBox w.heap.size (.slice a n c) win ((w.alloc (.cells #[.slice a n c, .int .i64 win] 24)).alloc (.cells #[.slice none 0 0, .int .i64 0] 24)) := (PtBox.new w _ _).later (kept_new _ _)
  have k0 := hp0.c0
  have f0 := hp0.f 0
  have hRo : RdIn w L win 0 ((w.alloc (.cells #[.slice none 0 0, .int .i64 win] 24)).alloc (.cells #[.slice none 0 0, .int .i64 0] 24)) :=
    ⟨_, (PtBox.new w (.slice none 0 0) win).later (kept_new _ _), new_two _ _ _, below_two _ _ _, [], World.ownsRow_nil _ _ _ _, by simp, (fun x hx => by cases hx), List.Pairwise.nil⟩
  go_enter Try.func20, Try.ntmps20
  go_wp2
  clear hp0 k0 f0 hb2
  generalize ((w.alloc (.cells #[.slice none 0 0, .int .i64 win] 24)).alloc (.cells #[.slice none 0 0, .int .i64 0] 24)) = W1 at *
  obtain ⟨i0, hi, hz0, hz1, hz2⟩ := info_parts Try.info41
  replace hi := Lib.hid hi
  obtain ⟨j0, hj, hy0, hy1, hy2⟩ := info_parts Try.info35
  replace hj := Lib.hid hj
  replace hF := Lib.hid hF
  replace h := Lib.hid h
  go_loopw [4] (fun t wr => ∃ i : Nat, i ≤ n ∧ t = .int .i64 i ∧ Hid (RdIn w L win i wr)) (fun t _ => n - (intOf t).toNat)
  case atStart => exact ⟨0, Nat.zero_le _, rfl, hRo⟩
  case round =>
    clear hRo
    obtain ⟨i, hi', rfl, hRo⟩ := hrel
    obtain ⟨v, hp, hz, hB, M, hr, hM, hown, hap⟩ := hRo.out
    by_cases hlt : i < n
    · have hlti : (i : Int) < n := by omega
      obtain ⟨⟨s, u⟩, hx⟩ := sps_i (L := L) (i := i) (by omega)
      obtain ⟨b, o, rfl, z0, z1, z2, z3, z4, z5, hcu⟩ := spsL_at (h.out.later hB) hl hx
      have hm1 := hF.out.2 _ (List.mem_of_getElem? hx)
      dsimp only at hm1
      obtain ⟨m, hm⟩ : ∃ l, s.cs.length = l := ⟨_, rfl⟩
      obtain ⟨a2, c2, rfl⟩ := cps_lit hcu hm
      obtain ⟨a5, c5, rfl, -⟩ := cells_of_row hr
      have hone := Lib.hid (cps_one (cs := s.cs))
      have hc9 : (cpsCells s.cs).length = m * 9 := by rw [cpsCells_len, hm]
      have hk2 := below_two wr (.cells #[.bool s.neg, .int .i64 s.kind, .int .i64 s.min, .int .i64 s.max, .bool s.strict, .slice a2 m c2] 35) (.cells #[] 41)
      obtain ⟨a2', c2', e2, hcc⟩ := hcu.later hk2
      rw [hm] at e2
      obtain ⟨rfl, rfl⟩ := slice_eq e2
      clear e2
      have hwsz : w.heap.size ≤ ((wr.alloc (.cells #[.bool s.neg, .int .i64 s.kind, .int .i64 s.min, .int .i64 s.max, .bool s.strict, .slice a2 m c2] 35)).alloc (.cells #[] 41)).heap.size := Nat.le_trans hB.size hk2.size
      have hsp0 : SpBox wr.heap.size s (.slice a2 m c2) ((wr.alloc (.cells #[.bool s.neg, .int .i64 s.kind, .int .i64 s.min, .int .i64 s.max, .bool s.strict, .slice a2 m c2] 35)).alloc (.cells #[] 41)) := (SpBox.new wr s _).later (kept_new _ _)
      have y5 := hsp0.cells.2.2.2.2.2
      have hlit : ((wr.alloc (.cells #[.bool s.neg, .int .i64 s.kind, .int .i64 s.min, .int .i64 s.max, .bool s.strict, .slice a2 m c2] 35)).alloc (.cells #[] 41)).ownsRow wr.heap.size 41 9 (.slice (some ⟨wr.heap.size + 1, 0, none⟩) 0 0) 0 [] := by
        have := World.ownsRow_lit (base := wr.heap.size) (e := 41) (size := 9) (wr.alloc (.cells #[.bool s.neg, .int .i64 s.kind, .int .i64 s.min, .int .i64 s.max, .bool s.strict, .slice a2 m c2] 35)) #[] 0 (by simp) (by unfold maxLen; omega) rfl
        simpa using this
      have hMid := Lib.hid (fun w1 u' => rd_mid (w1 := w1) (u := .slice a2 m c2) (u' := u') hp hz hB hr hown hm)
      have hsm := map_fst hx
      clear hx hcu
      replace hM := Lib.hid hM
      replace hap := Lib.hid hap
      replace hsm := Lib.hid hsm
      go_wp2_with (first
        | (at_builtin; refine wpList_append_cells rfl (.tmp 19) (.tmp 21) 33 rfl wr.heap.size 41 i0 _ 9 72 Try.underlying33 hi.out hz0 hz1 hz2 rfl (by decide) _ 0 [] rfl hlit a2 m c2 (cpsCells s.cs) rfl hc9 hcc hone.out (by unfold maxLen; omega) (by omega) hk2.size ?_; intro v' w1 hown' hgrow; rw [Nat.zero_add, List.nil_append] at hown'; obtain ⟨a6, c6, rfl, -⟩ := cells_of_row hown'; obtain ⟨hs1, hmid⟩ := hMid.out _ _ hgrow hown'; have r5 := hs1.cells.2.2.2.2.2; have r6 := hs1.f 5; obtain ⟨v0, v1, v2, v3, v4, v5⟩ := hmid.1.cells; have p0 := hmid.2.1.c0)
        | (at_builtin; refine wpList_append_cells rfl (.tmp 25) (.tmp 27) 22 rfl w.heap.size 35 j0 _ 6 64 Try.underlying22 hj.out hy0 hy1 hy2 rfl (by decide) _ i (spsCells M) rfl (hmid.2.2.2.2.1.alloc _) (some ⟨w1.heap.size, 0, none⟩) 1 1 [.bool s.neg, .int .i64 s.kind, .int .i64 s.min, .int .i64 s.max, .bool s.strict, .slice a6 m c6] rfl rfl (cells_of_alloc w1 _ _ _ _) (by simp [Value.oneCell']) (by unfold maxLen; omega) (by omega) (by have := hmid.2.2.2.1.size; simp at this ⊢; omega) ?_; intro v2 w2 hown2 hgrow2; obtain ⟨a7, c7, rfl, -⟩ := cells_of_row hown2; obtain ⟨hp9, hro⟩ := rd_end hmid hM.out hap.out hsm.out hgrow2 hown2; have p9 := hp9.c0; have f9 := hp9.f 0))
      have hro' := Lib.hid hro
      clear hro hown2 hgrow2 hmid hown' hgrow p9 f9 hp9 p0 v0 v1 v2 v3 v4 v5 r5 r6 hs1 hlit hsp0 y5 hcc hone hc9
      go_roundw
      case rel => exact ⟨i + 1, by omega, by go_num, hro'⟩
      case measure => simp [intOf]; omega
    · obtain rfl : i = n := by omega
      have y0 := hp.c0
      have y1 := hp.c1
      have hM' : M.map (·.1) = L.map (·.1) := by rw [hM, List.take_of_length_le (by simp; omega)]
      have hMl : M.length = i := by have := congrArg List.length hM'; simp at this; omega
      obtain ⟨a5, c5, rfl, -⟩ := cells_of_row hr
      have hz' : PtBox (w.heap.size + 1) (.slice none 0 0) 0 wr := hz
      have r0 := hz'.c0
      have r1 := hz'.f 0
      have hz2 := hz'.set0 (.slice a5 i c5)
      have r2 := hz2.c1
      have r3 := hz2.f 1
      have hz3 := hz2.set1 win
      have hr2 := row_kept hr (grownBy_setCell_any wr (w.heap.size + 1) 0 (.slice a5 i c5)) (block_is hz 35 (by decide))
      have hr3 := row_kept hr2 (grownBy_setCell_any _ (w.heap.size + 1) 1 (.int .i64 win)) (block_is hz2 35 (by decide))
      have hall3 : ∀ x ∈ M, OwnCps ((wr.setCell ⟨w.heap.size + 1, 0, none⟩ (.slice a5 i c5)).setCell ⟨w.heap.size + 1, 1, none⟩ (.int .i64 win)) w.heap.size x.2 x.1.cs := fun x hx =>
        ((hown x hx).kept (grownBy_setCell_any wr (w.heap.size + 1) 0 (.slice a5 i c5)) (block_is hz 41 (by decide))).kept (grownBy_setCell_any _ (w.heap.size + 1) 1 (.int .i64 win)) (block_is hz2 41 (by decide))
      have hB3 := (hB.setCell (p := ⟨w.heap.size + 1, 0, none⟩) (by simp) (.slice a5 i c5)).setCell (p := ⟨w.heap.size + 1, 1, none⟩) (by simp) (.int .i64 win)
      clear hr hr2 hown hM
      go_wp2
      exact bodyPost_ret (v := ptV (.slice a5 i c5) win) (results_cell_row rfl _ _ (w.heap.size + 1) 24 _ (0, 0) _ rfl hz3 Try.underlying24 rfl (by kernel_rfl)) rfl ⟨_, rfl, M, ⟨by rw [hMl]; exact hr3, hall3⟩, hM', hap, hB3⟩
end Go.Proofs.Ytmgkamljlgmmeaa.Tree
