/-
  unroll.Rows.
-/
import Derived.Test.YtccmnngeibpcmaaGreatUZA
import Derived.Stop.RegionWithIn
namespace Go.Proofs.YtccmnngeibpcmaaGreat.Tree
open Go.ChangeShapes Go.WideShapes Go.ChangeAt Go.RowKit
set_option linter.unusedVariables false
set_option linter.unusedSimpArgs false
set_option maxRecDepth 100000
attribute [local go_sem] Oper.semAt_some
theorem fur_in (W : World) (a : Option Addr) (n c : Nat) (sv : Value) (vs : List Value) (R : List (List Int)) (s : Sp) (i : Int) (h : RowsV W (.slice a n c) vs R) :
    FurIn W.heap.size (W.heap.size + 2) (W.heap.size + 1) (.slice a n c) vs R s sv i (((W.alloc (.cells #[.slice a n c] 34)).alloc (.cells #[.int .i64 i] 3)).alloc (.cells #[.bool s.neg, .int .i64 s.kind, .int .i64 s.min, .int .i64 s.max, .bool s.strict, sv] 45)) := by
  have k1 := kept_new W (.cells #[.slice a n c] 34)
  have k2 := kept_new (W.alloc (.cells #[.slice a n c] 34)) (.cells #[.int .i64 i] 3)
  have k3 := kept_new ((W.alloc (.cells #[.slice a n c] 34)).alloc (.cells #[.int .i64 i] 3)) (.cells #[.bool s.neg, .int .i64 s.kind, .int .i64 s.min, .int .i64 s.max, .bool s.strict, sv] 45)
  refine ⟨?_, ?_, ?_, h.later (kept_trans (kept_trans k1 k2) k3)⟩
  · exact ((Boxed.new W 34 (.slice a n c)).alloc _).alloc _
  · have := SpBox.new ((W.alloc (.cells #[.slice a n c] 34)).alloc (.cells #[.int .i64 i] 3)) s sv
    simpa using this
  · have := (Boxed.new (W.alloc (.cells #[.slice a n c] 34)) 3 (.int .i64 i)).alloc (.cells #[.bool s.neg, .int .i64 s.kind, .int .i64 s.min, .int .i64 s.max, .bool s.strict, sv] 45)
    rw [World.size_alloc] at this
    exact this
/-- What the loop over the positive steps has: pattern in a box at S, rows in one behind it. -/
def RwI (w : World) (a : Option Addr) (n c : Nat) (win : Int) (ss : List Sp) (B : Nat) (ap : Option Addr) (np cp : Nat) (xs : List Int) (k : Nat) (W : World) : Prop :=
  ∃ u, Boxed W (w.heap.size + 1) 34 u ∧ OwnRows W w.heap.size u (rowsK ss k) ∧ PtBox w.heap.size (.slice a n c) win W ∧ W.heap[B]? = some (.cells #[.slice ap np cp] 28 (0, 0)) ∧
    W.ownsRow w.heap.size 3 1 (.slice ap np cp) np (ints xs) ∧ Below w.heap.size w W
theorem OwnRows.kept {W W' : World} {base : Nat} {v : Value} {R : List (List Int)} {row : Option Nat} (h : OwnRows W base v R) (hg : W.grownBy W' row) (hrow : ∀ r, row = some r → ∃ o : Obj, W.heap[r]? = some o ∧ ∀ cs fz, o ≠ .cells cs 3 fz ∧ o ≠ .cells cs 28 fz) : OwnRows W' base v R := by
  obtain ⟨vs, h1, h2⟩ := h
  refine ⟨vs, row_kept h1 hg fun r e => ?_, h2.kept hg fun r e => ?_⟩
  · obtain ⟨o, ho, hc⟩ := hrow r e; exact ⟨o, ho, fun cs fz => (hc cs fz).2⟩
  · obtain ⟨o, ho, hc⟩ := hrow r e; exact ⟨o, ho, fun cs fz => (hc cs fz).1⟩
theorem RwI.own (w : World) (a : Option Addr) (n c : Nat) (win : Int) (ss : List Sp) (P : Nat) (ap : Option Addr) (np cp : Nat) (xs : List Int) (B : Nat) (hB : w.heap.size ≤ B) : OwnFrom B (RwI w a n c win ss P ap np cp xs) := by
  rintro k X Y row ⟨u, h1, h2, h3, h4, h5, h6⟩ hg hrow
  have hno : ∀ r, row = some r → ∃ o : Obj, X.heap[r]? = some o ∧ ∀ cs fz, o ≠ .cells cs 3 fz ∧ o ≠ .cells cs 28 fz := fun r e => by
    obtain ⟨o, ho, hc⟩ := (hrow r e).2
    exact ⟨o, ho, fun cs fz => ⟨no_cells hc 3 cs fz, no_cells hc 28 cs fz⟩⟩
  exact ⟨u, ownFrom_block _ (fun _ : Unit => _) 34 B () X Y row h1 hg hrow, h2.kept hg hno, ownFrom_block _ (fun _ : Unit => _) 24 B () X Y row h3 hg hrow, ownFrom_block _ (fun _ : Unit => _) 28 B () X Y row h4 hg hrow,
    row_kept h5 hg (fun r e => by obtain ⟨o, ho, hc⟩ := hno r e; exact ⟨o, ho, fun cs fz => (hc cs fz).1⟩), ownFrom_below (Nat.le_refl _) hB k X Y row h6 hg hrow⟩
theorem OwnRows.lit {W : World} {base : Nat} {v : Value} {R : List (List Int)} (h : OwnRows W base v R) : ∃ (a : Option Addr) (n m : Nat), v = .slice a n m := by
  obtain ⟨vs, h1, h2⟩ := h
  obtain ⟨a, c, e, -⟩ := cells_of_row h1
  exact ⟨a, _, c, e⟩
/-- A positive step more. -/
theorem RwI.next {w : World} {a : Option Addr} {n c : Nat} {win : Int} {ss : List Sp} {B : Nat} {ap : Option Addr} {np cp : Nat} {xs : List Int} {k : Nat} {W w4 : World} {x : Nat × Sp} {v : Value} (h : RwI w a n c win ss B ap np cp xs k W) (hx : (posS ss 0)[k]? = some x)
    (hb : Below W.heap.size W w4) (ho : OwnRows w4 W.heap.size v (stepR (rowsK ss k) x)) (D : Nat) :
    KeepsFrom D W (w4.setCell ⟨w.heap.size + 1, 0, none⟩ v) ∧ KeepsT 45 W (w4.setCell ⟨w.heap.size + 1, 0, none⟩ v) ∧ RwI w a n c win ss B ap np cp xs (k + 1) (w4.setCell ⟨w.heap.size + 1, 0, none⟩ v) := by
  obtain ⟨u, h1, h2, h3, h4, h5, h6⟩ := h
  have h1' : Boxed w4 (w.heap.size + 1) 34 u := (hb.block _ (Array.getElem?_eq_some_iff.1 h1).1).trans h1
  have hg := grownBy_setCell_any w4 (w.heap.size + 1) 0 v
  have hno : ∀ r, some (w.heap.size + 1) = some r → ∃ o : Obj, w4.heap[r]? = some o ∧ ∀ cs fz, o ≠ .cells cs 3 fz ∧ o ≠ .cells cs 28 fz := fun r e => by
    cases e
    exact ⟨_, h1', fun cs fz => ⟨(by rintro ⟨⟩), (by rintro ⟨⟩)⟩⟩
  have hBl : w.heap.size ≤ W.heap.size := h6.size
  have h4' := (hb.block _ (Array.getElem?_eq_some_iff.1 h4).1).trans h4
  refine ⟨(keeps_of_below hb).trans ((KeepsOthers.setCell _ _ _).from _), (KeepsT.of_below hb).trans (KeepsT.setCell _ h1' (by decide)), v, h1'.set v, ?_, ?_, ?_, row_kept (row_later h5 hb) hg (box_is h1' 3 (by decide)), (kept_trans h6 hb).setCell (p := ⟨w.heap.size + 1, 0, none⟩) (by simp) _⟩
  · rw [rowsK_succ hx]
    exact (ho.kept hg hno).base hBl
  · exact block_far (h3.later hb) (by omega) _ _
  · refine block_far h4' (fun e => ?_) _ _
    subst e
    rw [show w4.heap[w.heap.size + 1]? = _ from h1'] at h4'
    cases h4'
/-- The patterns that the contracts of package unroll speak of. -/
def UnOk (L : List (Sp × Value)) : Prop := CkOk L ∧ Small (L.map (·.1))
/-- How Rows is left for its last lines: nothing. -/
def RwJ (w : World) (m : Bool) (a' : Act) (W : World) : Prop :=
  m = false ∧ ∃ (u0 u1 u2 u3 u4 u5 u6 u7 u8 u9 u10 u11 u12 u13 u14 u15 u16 u17 u18 u19 u20 u21 u22 : Value),
    a' = { tmps := #[u0, u1, u2, u3, u4, u5, u6, u7, u8, u9, u10, u11, u12, u13, u14, u15, u16, u17, u18, u19, u20, u21, u22], defers := [] } ∧ Below w.heap.size w W
set_option maxHeartbeats 2000000 in
theorem rows_V {v : Value} {L : List (Sp × Value)} (win : Int) (hc : UnOk L) (w : World) (h : SpsL w v L) :
    Calls Tryz.prog 24 #[ptV v win] w fun e w' => ∃ u, e = .returned u ∧ (mayB (L.map (·.1)) win = true → OwnRows w' w.heap.size u (rowsP (L.map (·.1)))) ∧ (mayB (L.map (·.1)) win = false → u = .slice none 0 0) ∧ Below w.heap.size w w' := by
  have hM := Lib.hid (fun W (hW : Below w.heap.size w W) => may_V win hc.1 W (h.later hW))
  have hP := Lib.hid (fun W (hW : Below w.heap.size w W) => positive_V win hc.2 W (h.later hW))
  obtain ⟨a, c, rfl⟩ := h.lit rfl
  have hlen : L.length ≤ 1000000 := Nat.le_trans (by simpa using hc.2.len) (by omega)
  obtain ⟨n, hn⟩ : ∃ n, L.length = n := ⟨_, rfl⟩
  obtain ⟨m, hmm⟩ : ∃ m, mayB (L.map (·.1)) win = m := ⟨_, rfl⟩
  rw [hn] at hM hP h hlen ⊢
  rw [hmm] at hM ⊢
  refine (callsIn_wide (n := 9)).1 ?_
  refine callsIn_of_wp_marks Tryz.func24 rfl trivial ?_ rfl
  rw [wpIn_wide]
  simp only [Tryz.ntmps24, List.size_toArray, List.length_cons, List.length_nil, Nat.reduceAdd, Nat.reduceSub, Array.replicate_succ, Array.replicate_zero, List.push_toArray, List.append_toArray, List.nil_append, List.cons_append]
  go_wp2
  have hb1 := kept_new w (.cells #[.slice a n c, .int .i64 win] 24)
  have hb2 := kept_new (w.alloc (.cells #[.slice a n c, .int .i64 win] 24)) (.cells #[.slice none 0 0] 34)
  have hpt := (PtBox.new w (.slice a n c) win).later hb2
  have hbx := Boxed.new (w.alloc (.cells #[.slice a n c, .int .i64 win] 24)) 34 (.slice none 0 0)
  rw [World.size_alloc] at hbx
  have hbb := kept_trans hb1 hb2
  have hm := hM.out _ hbb
  refine wp_scope_jumps 0 (fun a' W => RwJ w m a' W) (fun _ _ => 0) rfl ?_ ?_
  · cases m with
    | false =>
      replace hbb := Lib.hid hbb
      clear hpt hbx hb1 hb2
      go_wp2_with ((with_reducible refine hm.mono ?_); rintro e w5 ⟨rfl, hb5⟩)
      refine wp_goto ?_
      exact ⟨rfl, rfl, _, _, _, _, _, _, _, _, _, _, _, _, _, _, _, _, _, _, _, _, _, _, _, rfl, kept_trans hbb.out hb5⟩
    | true =>
      have hG := may_good hmm
      go_upto_region 3 with ((with_reducible refine hm.mono ?_); rintro e w5 ⟨rfl, hb5⟩)
      have hB5 := kept_trans hbb hb5
      replace hpt := hpt.later hb5
      replace hbx := boxed_later hbx hb5
      clear hb1 hb2 hbb hm hb5 hM
      have hk := kept_new w5 (.cells #[.slice none 0 0] 28)
      have hbx1 := boxed_later hbx hk
      have c1 := hbx1.cell
      have f1 := hbx1.frozen
      have hI6 : (∃ vs, ((w5.alloc (.cells #[.slice none 0 0] 28)).setCell ⟨w.heap.size + 1, 0, none⟩ (.slice (some ⟨w5.heap.size, 0, none⟩) 1 1)).ownsRow w.heap.size 28 1 (.slice (some ⟨w5.heap.size, 0, none⟩) 1 1) 1 vs ∧ vs = [.slice none 0 0]) ∧
          Boxed ((w5.alloc (.cells #[.slice none 0 0] 28)).setCell ⟨w.heap.size + 1, 0, none⟩ (.slice (some ⟨w5.heap.size, 0, none⟩) 1 1)) (w.heap.size + 1) 34 (.slice (some ⟨w5.heap.size, 0, none⟩) 1 1) ∧
          PtBox w.heap.size (.slice a n c) win ((w5.alloc (.cells #[.slice none 0 0] 28)).setCell ⟨w.heap.size + 1, 0, none⟩ (.slice (some ⟨w5.heap.size, 0, none⟩) 1 1)) ∧
          Below w.heap.size w ((w5.alloc (.cells #[.slice none 0 0] 28)).setCell ⟨w.heap.size + 1, 0, none⟩ (.slice (some ⟨w5.heap.size, 0, none⟩) 1 1)) := by
        refine ⟨⟨_, row_kept (World.ownsRow_lit (base := w.heap.size) (e := 28) (size := 1) w5 #[.slice none 0 0] 1 hB5.size (by unfold maxLen; omega) rfl) (grownBy_setCell_any _ (w.heap.size + 1) 0 _) (box_is hbx1 28 (by decide)), rfl⟩, hbx1.set _, block_far (hpt.later hk) (by omega) _ _, (kept_trans hB5 hk).setCell (p := ⟨w.heap.size + 1, 0, none⟩) (by simp) _⟩
      replace hI6 := Lib.hid hI6
      clear hpt hbx hB5
      go_upto_region 4 with fail
      clear c1 f1 hbx1 hk
      generalize (w5.alloc (.cells #[.slice none 0 0] 28)).setCell ⟨w.heap.size + 1, 0, none⟩ (.slice (some ⟨w5.heap.size, 0, none⟩) 1 1) = w6 at *
      obtain ⟨⟨vs0, ho6, rfl⟩, hbx, hpt, hB6⟩ := hI6.out
      clear hI6
      have hOR : OwnRows w6 w.heap.size (.slice (some ⟨w5.heap.size, 0, none⟩) 1 1) (rowsK (L.map (·.1)) 0) := ⟨_, ho6, fun i u r hu hr => by
        have hi := (List.getElem?_eq_some_iff.1 hu).1
        obtain rfl : i = 0 := by simp at hi; exact hi
        simp at hu; subst hu
        have : r = [] := by simpa [rowsK] using hr.symm
        subst this
        simpa using World.ownsRow_nil _ _ _ _⟩
      have hp := hP.out _ hB6
      have d0 := hpt.c0
      have d1 := hpt.c1
      clear hP ho6
      replace hp := Lib.hid hp
      replace hOR := Lib.hid hOR
      replace hB6 := Lib.hid hB6
      go_wp2_with (first
        | ((with_reducible refine hp.out.mono ?_); rintro e w7 ⟨vp, rfl, hown, hb7⟩; obtain ⟨ap, cp, rfl, hcp⟩ := cells_of_row hown; replace hown := Lib.hid hown; replace hb7 := Lib.hid hb7)
        | ((with_reducible refine (values_any _ _ _ _).mono ?_); rintro e w8 ⟨rfl, rfl⟩))
      have hxs : posP (L.map (·.1)) = (posS (L.map (·.1)) 0).map (fun x => (x.1 : Int)) := (posS_fst _ 0).symm
      obtain ⟨xs, hxe⟩ : ∃ xs, posP (L.map (·.1)) = xs := ⟨_, rfl⟩
      rw [hxe] at hxs hown hcp ⊢
      obtain ⟨np, hnp⟩ : ∃ np, xs.length = np := ⟨_, rfl⟩
      rw [hnp] at hown ⊢
      have hnp4 : np ≤ 4 := by rw [← hnp, hxs, List.length_map]; exact hG.few
      have hk8 := kept_new w7 (.cells #[.slice ap np cp] 28)
      have hb68 := kept_trans hb7.out hk8
      have hI0 : RwI w a n c win (L.map (·.1)) w7.heap.size ap np cp xs 0 (w7.alloc (.cells #[.slice ap np cp] 28)) :=
        ⟨_, boxed_later hbx hb68, hOR.out.later hb68, hpt.later hb68, heap_alloc_new w7 _, row_base (row_later hown.out hk8) hB6.out.size, kept_trans hB6.out hb68⟩
      have hs8 : w7.heap.size < (w7.alloc (.cells #[.slice ap np cp] 28)).heap.size := by simp
      have hsw : w.heap.size ≤ w7.heap.size := Nat.le_trans hB6.out.size hb7.out.size
      clear hcp hown hb7 hk8 hb68 hp hOR hB6 d0 d1 hbx hpt hxe
      refine (wpIn_wide (n := 9)).1 ?_
      generalize hV : w7.heap.size = V at *
      generalize w7.alloc (.cells #[.slice ap np cp] 28) = W8 at *
      have hss : ∀ (k : Nat) (x : Nat × Sp), (posS (L.map (·.1)) 0)[k]? = some x → ∃ sv, L[x.1]? = some (x.2, sv) := fun k x hx => by
        have h1 := (hG.at (List.mem_of_getElem? hx)).1
        rw [List.getElem?_map] at h1
        cases hL : L[x.1]? with
        | none => rw [hL] at h1; cases h1
        | some y => rw [hL] at h1; injection h1 with h1; exact ⟨y.2, by rw [← h1]⟩
      replace hss := Lib.hid hss
      replace hsv := Lib.hid h
      clear h
      refine wpIn_rangeFunc_rowT rfl (by omega) (gf := 57) (lb := #[ptr V]) rfl trivial (enters_of Tryz.func57 (by kernel_rfl) rfl)
        (val_tells 8 V (by omega) ap np cp xs (by omega) W8) (Below.refl _ _) (fun k hk => valRow_size hk)
        (RwI w a n c win (L.map (·.1)) V ap np cp xs) (fun _ _ => False) (RwI.own w a n c win _ _ _ _ _ _ _ (by omega)) (fun _ _ _ _ hs _ _ => hs)
        (fun k W hI => by obtain ⟨u, h1, h2, h3, h4, h5, h6⟩ := hI; obtain ⟨a', c', e', hc'⟩ := cells_of_row h5; cases e'; exact ⟨h4, hnp, hc'⟩) (fun _ _ h => trivial)
        hI0
        (fun k a' W => ∃ x : Int, xs[k]? = some x ∧
          a' = { tmps := #[ptV (.slice a n c) win, ptr w.heap.size, .slice none 0 0, ptr (w.heap.size + 1), .int .i64 x, ptV (.slice a n c) win, .bool true, .bool false, .slice (some ⟨w5.heap.size, 0, none⟩) 1 1, ptV (.slice a n c) win, .slice ap np cp, .func (.func 57) #[] #[ptr V], .int .i64 x, undef, undef, undef, undef, undef, undef, undef, undef, undef, undef], defers := [] })
        (fun k a' => ownFrom_pure _ _)
        ?assign ?body ?done ?stop
      case assign =>
        intro l k W K hk hI hK
        rw [valRow_len] at hk
        obtain ⟨x, hx⟩ : ∃ x, xs[k]? = some x := ⟨_, List.getElem?_eq_getElem hk⟩
        rw [valRow_at hx]
        gi_wp2
        exact hK _ _ (KeepsFrom.refl _ _) (KeepsT.refl _ _) hI ⟨x, hx, rfl⟩
      case body =>
        rintro l k a' W hk hI ⟨x, hx, rfl⟩
        rw [hxs, List.getElem?_map] at hx
        obtain ⟨y, hy⟩ : ∃ y, (posS (L.map (·.1)) 0)[k]? = some y := by
          cases hc : (posS (L.map (·.1)) 0)[k]? with
          | none => rw [hc] at hx; cases hx
          | some y => exact ⟨y, rfl⟩
        rw [hy] at hx
        obtain rfl : (y.1 : Int) = x := by simpa using hx
        obtain ⟨sv, hLy⟩ := hss.out k y hy
        obtain ⟨hg1, hg2, hg3, hg4, hg5⟩ := hG.at (List.mem_of_getElem? hy)
        have hbd := hG.rowsK_bd k
        obtain ⟨i, s⟩ := y
        dsimp only at hLy hg1 hg2 hg3 hg4 hg5 ⊢
        have hD : Below W.heap.size W W.drew := ⟨rfl, rfl, rfl, Nat.le_refl _, fun _ _ => rfl⟩
        have hX : RwI w a n c win (L.map (·.1)) V ap np cp xs k W.drew := RwI.own w a n c win _ _ _ _ _ _ W8.heap.size (by omega) k W W.drew none hI (grown_of_below hD) (fun r e => by cases e)
        have hX' := hX
        obtain ⟨u, h1, h2, h3, h4, h5, h6⟩ := hX
        have c1 := h1.cell
        have f1 := h1.frozen
        have c0 := h3.c0
        have hi := (List.getElem?_eq_some_iff.1 hLy).1
        rw [hn] at hi
        have hii : (i : Int) < n := by omega
        obtain ⟨b, o, rfl, z0, z1, z2, z3, z4, z5, a2, c2, hv, -⟩ := (hsv.out.later h6).step hn hLy
        subst hv
        obtain ⟨vs, hvs⟩ := h2.at
        obtain ⟨⟨ua, uc, rfl, -⟩, -⟩ := id hvs
        have hfi := fur_in W.drew ua _ uc (.slice a2 s.cs.length c2) vs _ s i hvs
        have hcol := collect_fur W.heap.size (W.heap.size + 2) (W.heap.size + 1) _ _ vs (rowsK (L.map (·.1)) k) s i s.min.toNat (s.max + 1 - s.min).toNat (by omega) (by omega) (by omega) (by omega) (by omega) (fun r hr => by have := hbd.2 r hr; omega) _ hfi
        have hk3 : Below W.drew.heap.size W.drew (((W.drew.alloc (.cells #[.slice ua (rowsK (L.map (·.1)) k).length uc] 34)).alloc (.cells #[.int .i64 i] 3)).alloc (.cells #[.bool s.neg, .int .i64 s.kind, .int .i64 s.min, .int .i64 s.max, .bool s.strict, .slice a2 s.cs.length c2] 45)) :=
          kept_trans (kept_trans (kept_new _ _) (kept_new _ _)) (kept_new _ _)
        have hfa := further_any ua (rowsK (L.map (·.1)) k).length uc (.slice a2 s.cs.length c2) i s W.drew
        have hlt1 := (Array.getElem?_eq_some_iff.1 h1).1
        have hnx := fun (w4 : World) (v : Value) (hb : Below W.drew.heap.size W.drew w4) (ho : OwnRows w4 W.drew.heap.size v (stepR (rowsK (L.map (·.1)) k) (i, s))) => RwI.next hX' hy hb ho W8.heap.size
        have hbx := fun (w4 : World) (hb : Below W.drew.heap.size W.drew w4) => boxed_later h1 hb
        replace hnx := Lib.hid hnx
        replace hbx := Lib.hid hbx
        replace hcol := Lib.hid hcol
        replace hk3 := Lib.hid hk3
        replace hfa := Lib.hid hfa
        clear hX' h1 h2 h3 h4 h5 h6 hvs hfi hI hI0 hss hsv hbd hy hLy hx hk hg1 hg2 hg3 hg4 hg5
        gi_wp2_with fail
        gi_region_with (first
          | (refine ⟨trivial, ((callsIn_wide (n := 6)).2 hfa.out).mono ?_⟩; rintro e w3 ⟨rfl, rfl⟩)
          | (refine ⟨trivial, ((callsIn_wide (n := 6)).2 hcol.out).mono ?_⟩; rintro e w4 ⟨v4, rfl, ho4, hb4⟩; obtain ⟨a4, n4, m4, rfl⟩ := ho4.lit; have hb5 := kept_trans hk3.out hb4; have c4 := (hbx.out _ hb5).cell; have f4 := (hbx.out _ hb5).frozen))
        all_goals exact ⟨(keeps_of_below hD).trans (hnx.out _ _ hb5 ho4).1, (KeepsT.of_below hD).trans (hnx.out _ _ hb5 ho4).2.1, (hnx.out _ _ hb5 ho4).2.2⟩
      case done =>
        rintro D W hD ⟨u, h1, h2, h3, h4, h5, h6⟩ hK
        have hcv := h1.cell
        have hDw : w.heap.size ≤ D := by omega
        rw [valRow_len, hnp, rowsK_all _ (by rw [← hnp, hxs, List.length_map]; exact Nat.le_refl _)] at h2
        clear h3 h4 h5 hss hsv hI0
        go_wp2
        rw [jump_ret]
        refine ⟨by simp, .inl ⟨_, _, rfl, run_takeDeferred hK, ?_⟩⟩
        refine ⟨_, results_tmp rfl _ _ _, u, rfl, (fun _ => ?_), (fun h => by cases h), h6.trans (belowK_b (w := w) (Nat.le_refl _) W D _ (.deferred none) hDw hK rfl rfl)⟩
        obtain ⟨vs, q1, q2⟩ := h2
        exact ⟨vs, ownsRow_putObj q1 _ hK rfl, fun i x q hx hq => ownsRow_putObj (q2 i x q hx hq) _ hK rfl⟩
      case stop =>
        rintro D c W _ h _
        exact h.elim
  · rintro ⟨t, d⟩ w2 ⟨rfl, u0, u1, u2, u3, u4, u5, u6, u7, u8, u9, u10, u11, u12, u13, u14, u15, u16, u17, u18, u19, u20, u21, u22, he, hB⟩
    cases he
    go_wp2
    rw [jump_ret]
    exact ⟨_, results_tmp rfl _ _ _, _, rfl, (fun h => by cases h), (fun _ => rfl), hB⟩
end Go.Proofs.YtccmnngeibpcmaaGreat.Tree
