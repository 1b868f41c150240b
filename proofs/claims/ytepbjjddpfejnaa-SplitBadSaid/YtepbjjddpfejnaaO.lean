/-
  Contract of wire's bytesOf: the bytes of a record of each kind, by the seven numbers that wire's numbers answers; no other condition.
-/
import Derived.Test.YtepbjjddpfejnaaN
namespace Go.Proofs.Ytepbjjddpfejnaa
open Go.ChangeShapes Go.WideShapes Go.ChangeAt Go.RowKit
set_option linter.unusedVariables false
set_option linter.unusedSimpArgs false
attribute [local go_sem] Oper.semAt_some
theorem any_round {F : Fence} {n l : Nat} {P : Program} {md : Region.Mode} {ops : Array Oper} {Q : Exit → Act → World → Prop} (hro : F.round = none) (hnd : ∀ o ∈ ops.toList, ∀ c, o.op ≠ .defer c) :
    ∀ (fuel : Nat) (listed : Array Bool) (a : Act) (w : World), wpAnyIn F n P md ops Q fuel listed a w → wpAnyIn (F.inRound l) n P md ops Q fuel listed a w := by
  intro fuel
  induction fuel with
  | zero => exact fun _ _ _ h => h
  | succ fuel ih =>
    intro listed a w h
    refine ⟨h.1, fun i hi => ?_⟩
    have hs := h.2 i hi
    unfold wpOpIn at hs ⊢
    cases ho : ops[i]? with
    | none => rw [ho] at hs; exact ih _ _ _ hs
    | some o =>
      rw [ho] at hs
      dsimp only at hs ⊢
      have hd : ∀ c, o.op ≠ .defer c := hnd o (by
        obtain ⟨hlt, rfl⟩ := Array.getElem?_eq_some_iff.1 ho
        exact Array.getElem_mem_toList hlt)
      by_cases hw : Region.wanted o (yielded ops a.tmps) = true
      · rw [if_pos hw] at hs ⊢
        have hs2 := Oper.wpIn_mono (fun a w => ih (listed.setIfInBounds i true) a w) hs
        unfold Oper.wpIn at hs2 ⊢
        refine ⟨hs2.1, ?_⟩
        have e1 : Oper.semAt (F.inRound l).round a.eval o = execOp a.eval o := Oper.semAt_some l a.eval o hd
        have e2 : Oper.semAt F.round a.eval o = execOp a.eval o := by rw [hro]; rfl
        rw [e1]
        rw [e2] at hs2
        exact hs2.2
      · rw [if_neg hw] at hs ⊢
        exact ⟨hs.1, ih _ _ _ hs.2⟩
/-- A row of bytes lies at block R. -/
def RowOf (R : Nat) (l : List Int) (W : World) : Prop := W.heap[R]? = some (.cells (l.map (Value.int .u8)).toArray 5 (0, 0))
theorem RowOf.lt {R : Nat} {l : List Int} {W : World} (h : RowOf R l W) : R < W.heap.size := (Array.getElem?_eq_some_iff.1 h).1
theorem RowOf.at {R j : Nat} {l : List Int} {W : World} {v : Int} (h : RowOf R l W) (hj : l[j]? = some v) : W.cell? ⟨R, j, none⟩ = some (.int .u8 v) := by
  rw [cell_of_row W R j _ 5 (0, 0) h]
  simp [hj]
theorem RowOf.open {R : Nat} {l : List Int} {W : World} (h : RowOf R l W) (j : Nat) : W.frozen? ⟨R, j, none⟩ = false := by
  simp [World.frozen?, show W.heap[R]? = _ from h]
theorem RowOf.set {R : Nat} {l : List Int} {W : World} (h : RowOf R l W) (j : Nat) (v : Int) : RowOf R (l.set j v) (W.setCell ⟨R, j, none⟩ (.int .u8 v)) := by
  rw [setCell_eq_setRow W R j _ 5 (0, 0) _ h]
  unfold RowOf
  rw [setRow_heap W R _ _ 5 (0, 0) h]
  congr 2
  apply Array.ext'
  simp [List.map_set]
theorem RowOf.far {R D o : Nat} {l : List Int} {W : World} {u : Value} (h : RowOf R l W) (hne : R ≠ D) : RowOf R l (W.setCell ⟨D, o, none⟩ u) := (Below.heap_setCell W ⟨D, o, none⟩ u R hne).trans h
theorem RowOf.later {R : Nat} {l : List Int} {W W' : World} (h : RowOf R l W) (hb : Below W.heap.size W W') : RowOf R l W' := (hb.block R h.lt).trans h
theorem RowOf.like {R : Nat} {l l' : List Int} {W : World} (h : RowOf R l W) (e : l = l') : RowOf R l' W := e ▸ h
theorem RowOf.kept {R : Nat} {l : List Int} {W W' : World} {row : Option Nat} (h : RowOf R l W) (hg : W.grownBy W' row) (hrow : ∀ r, row = some r → ∃ o : Obj, W.heap[r]? = some o ∧ o.isCells = false) : RowOf R l W' := by
  refine (hg.block R h.lt (fun e => ?_)).trans h
  obtain ⟨o, ho, hc⟩ := hrow R e.symm
  rw [show W.heap[R]? = _ from h] at ho; cases ho; cases hc
theorem RowOf.owns {R base n : Nat} {l : List Int} {W : World} (h : RowOf R l W) (hb : base ≤ R) (hl : l.length = n) (hm : n ≤ maxLen) : W.ownsRow base 5 1 (.slice (some ⟨R, 0, none⟩) n n) n (l.map (Value.int .u8)) :=
  ⟨by simp [hl], .inr ⟨R, n, _, rfl, hb, h, Nat.le_refl _, hm, by simp [hl], by rw [List.take_of_length_le (by simp [hl])]⟩⟩
theorem row_cell {W : World} {base Q n i : Nat} {l : List Int} {v : Int} (h : W.ownsRow base 5 1 (.slice (some ⟨Q, 0, none⟩) n n) n (l.map (Value.int .u8))) (hv : l[i]? = some v) : W.cell? ⟨Q, i, none⟩ = some (.int .u8 v) := by
  have := h.cells rfl i (.int .u8 v) (by simp [hv])
  have hadd : (⟨Q, 0, none⟩ : Addr).add i = ⟨Q, i, none⟩ := by unfold Addr.add; split <;> simp_all
  rwa [hadd] at this
theorem make20 (w : World) : (Instr.makeSlice 22 (.int .i64 0) (.int .i64 20)).run Try.prog w = .ok (.slice (some ⟨w.heap.size, 0, none⟩) 0 20) (w.alloc (.cells (madeCells #[Value.int .u8 0] 20) 5)) := by kernel_rfl
theorem make8 (w : World) : (Instr.makeSlice 22 (.int .i64 0) (.int .i64 8)).run Try.prog w = .ok (.slice (some ⟨w.heap.size, 0, none⟩) 0 8) (w.alloc (.cells (madeCells #[Value.int .u8 0] 8) 5)) := by kernel_rfl
def mkB (x : Nat → Int) : Nat → List Int
  | 0 => []
  | 1 => putL (x 0) 1
  | 2 => putL (x 0) 1 ++ putL (x 2) 1
  | 3 => putL (x 0) 1 ++ putL (x 2) 1 ++ putL (x 1) 6
  | _ => []
/-- Between two rounds: the bytes so far. -/
def markPuts (x : Nat → Int) (w : World) (A R k : Nat) (W : World) : Prop :=
  Boxed W (R + 1) 22 (.slice (some ⟨R, 0, none⟩) (mkSn k) 8) ∧ Nums A x W ∧ RowOf R (mkB x k ++ List.replicate (8 - mkSn k) 0) W ∧ Below w.heap.size w W
theorem markPuts_own (x : Nat → Int) (w : World) (A R B : Nat) (hB : w.heap.size ≤ B) : OwnFrom B (markPuts x w A R) := by
  rintro k X Y row ⟨hv, hn, hr, hb⟩ hg hrow
  have hrow' : ∀ r, row = some r → ∃ o : Obj, X.heap[r]? = some o ∧ o.isCells = false := fun r e => (hrow r e).2
  exact ⟨boxed_own (R + 1) 22 (fun _ : Unit => Value.slice (some ⟨R, 0, none⟩) (mkSn k) 8) () X Y row hv hg hrow', fun i hi => ⟨cell_kept (hn i hi).1 hg hrow', (frozen_kept (hn i hi).1 hg hrow').trans (hn i hi).2⟩, hr.kept hg hrow', ownFrom_below (Nat.le_refl _) hB k X Y row hb hg hrow⟩
/-- What bytesOf hands back. -/
def PutIs (L : Nat) (bs : List Int) (w : World) (e : Ending) (w' : World) : Prop := ∃ g, e = .returned (.slice (some ⟨g, 0, none⟩) L L) ∧ w'.ownsRow w.heap.size 5 1 (.slice (some ⟨g, 0, none⟩) L L) L (bs.map (Value.int .u8)) ∧ Below w.heap.size w w'
set_option maxRecDepth 100000 in
set_option maxHeartbeats 4000000 in
theorem bytesOf_mark (ts src seq ek : Int) (p q : Nat) (rs rt : Int) (x : Nat → Int) (hN : ∀ w, Calls Try.prog 44 #[RV 2 ts src seq ek p q rs rt] w fun e w' => e = .returned (.agg #[.int .i64 (x 0), .int .i64 (x 1), .int .i64 (x 2), .int .i64 (x 3), .int .i64 (x 4), .int .i64 (x 5), .int .i64 (x 6)]) ∧ Below w.heap.size w w') (hx : ∀ i, i < 7 → fits (x i) = true) (w : World) :
    Calls Try.prog 34 #[RV 2 ts src seq ek p q rs rt] w (PutIs 8 (mkB x 3) w) := by
  have HN := Lib.hid hN
  have HX := Lib.hid hx
  have hmk := make8
  clear hN hx
  refine (callsIn_wide (n := 9)).1 ?_
  refine callsIn_of_wp_marks Try.func34 rfl trivial ?_ rfl
  rw [wpIn_wide]
  simp only [Try.ntmps34, List.size_toArray, List.length_cons, List.length_nil, Nat.reduceAdd, Nat.reduceSub, Array.replicate_succ, Array.replicate_zero, List.push_toArray, List.append_toArray, List.nil_append, List.cons_append]
  go_wp2_with fail
  (with_reducible refine (HN.out _).mono ?_)
  rintro e w1 ⟨rfl, hb1⟩
  have hb1' : Below w.heap.size w w1 := ((Below.refl _ _).alloc (Nat.le_refl _) _).trans (hb1.mono (by simp))
  have hr1 : w1.cell? ⟨w.heap.size, 0, none⟩ = some (.int .u8 2) := bcell hb1 (by simp) (by simp [go_sem])
  have hlt1 : w.heap.size < w1.heap.size := by have := hb1.size; simp at this; omega
  have hr1a : (w1.alloc (.cells #[.int .i64 (x 0), .int .i64 (x 1), .int .i64 (x 2), .int .i64 (x 3), .int .i64 (x 4), .int .i64 (x 5), .int .i64 (x 6)] 68)).cell? ⟨w.heap.size, 0, none⟩ = some (.int .u8 2) := bcell ((Below.refl _ _).alloc (Nat.le_refl _) _) hlt1 hr1
  go_wp2_with fail
  (with_reducible refine (size_mark _).mono ?_)
  rintro e w3 ⟨rfl, hb3⟩
  have hn3 : Nums w1.heap.size x w3 := by
    refine Nums.later ?_ (by simp) hb3
    intro i hi
    rcases below7 hi with rfl | rfl | rfl | rfl | rfl | rfl | rfl <;> simp [go_sem]
  have hr3 := bcell hb3 (by simp; omega) hr1a
  have hb3' : Below w.heap.size w w3 := (hb1'.alloc (Nat.le_of_lt hlt1) _).trans (hb3.mono (by simp; omega))
  have hlt3 : w1.heap.size < w3.heap.size := by have := hb3.size; simp at this; omega
  have hr3a : ((w3.alloc (.cells (madeCells #[Value.int .u8 0] 8) 5)).alloc (.cells #[.slice (some ⟨w3.heap.size, 0, none⟩) 0 8] 22)).cell? ⟨w.heap.size, 0, none⟩ = some (.int .u8 2) := bcell (((Below.refl _ _).alloc (Nat.le_refl _) _).alloc (by simp) _) (by omega) hr3
  clear hb1 hr1 hr1a hb3 hr3 hb1'
  go_wp2_with fail
  (with_reducible refine (layout_any _ _).mono ?_)
  rintro e w5 ⟨rfl, rfl⟩
  go_wp2_with fail
  clear hr3a
  obtain ⟨W0, hW0⟩ : ∃ W0, ((w3.alloc (.cells (madeCells #[Value.int .u8 0] 8) 5)).alloc (.cells #[.slice (some ⟨w3.heap.size, 0, none⟩) 0 8] 22)).alloc (.cells #[.int .u8 2] 5) = W0 := ⟨_, rfl⟩
  have hsz : W0.heap.size = w3.heap.size + 3 := by rw [← hW0]; simp
  have hbl0 : Below w3.heap.size w3 W0 := by rw [← hW0]; exact (((Below.refl _ _).alloc (Nat.le_refl _) _).alloc (by simp) _).alloc (by simp <;> omega) _
  have hrow : RowOf w3.heap.size ([] ++ List.replicate 8 0) W0 := by
    unfold RowOf
    rw [← hW0, Below.heap_alloc _ _ _ (by simp <;> omega), Below.heap_alloc _ _ _ (by simp)]
    exact (World.alloc_heap_new w3 _).trans (by rw [show madeCells #[Value.int .u8 0] 8 = (([] ++ List.replicate 8 (0 : Int)).map (Value.int .u8)).toArray from by kernel_rfl])
  have hI : markPuts x w w1.heap.size w3.heap.size 0 W0 := by
    refine ⟨?_, hn3.later hlt3 hbl0, hrow, hb3'.trans (hbl0.mono (by omega))⟩
    rw [← hW0]
    have h := (Boxed.new (w3.alloc (.cells (madeCells #[Value.int .u8 0] 8) 5)) 22 (.slice (some ⟨w3.heap.size, 0, none⟩) 0 8)).alloc (.cells #[.int .u8 2] 5)
    rw [World.size_alloc] at h
    exact h
  have bN : Boxed W0 (w3.heap.size + 1 + 1) 5 (.int .u8 2) := by
    rw [← hW0]
    have h := Boxed.new ((w3.alloc (.cells (madeCells #[Value.int .u8 0] 8) 5)).alloc (.cells #[.slice (some ⟨w3.heap.size, 0, none⟩) 0 8] 22)) 5 (.int .u8 2)
    rwa [World.size_alloc, World.size_alloc] at h
  rw [hW0]
  clear hW0 hbl0 hrow hn3 hmk
  refine (wpIn_wide (n := 9)).1 ?_
  refine wpIn_rangeFunc_row rfl (by omega) (gf := 46) (lb := #[.pointer (some ⟨w3.heap.size + 1 + 1, 0, none⟩)]) rfl trivial (enters_of Try.func46 (by kernel_rfl) rfl)
    (mark_tells 8 (w3.heap.size + 1 + 1) (by omega) W0 bN) (Below.refl _ _) (fun k hk => by rw [mk_at k hk]; rfl)
    (markPuts x w w1.heap.size w3.heap.size) (fun _ _ => False) (markPuts_own x w _ _ _ (by omega)) (fun _ _ _ _ hs _ _ => hs) (fun _ _ h => h)
    hI
    (fun k => { tmps := #[RV 2 ts src seq ek p q rs rt, .pointer (some ⟨w.heap.size, 0, none⟩), .slice none 0 0, .pointer (some ⟨w1.heap.size, 0, none⟩), .pointer (some ⟨w3.heap.size + 1, 0, none⟩), .int .i64 (mkP k), .int .i64 (mkW k), .agg #[.int .u8 2, .int .i64 ts, .int .i64 src, .int .i64 seq, .int .i64 ek, .complex .f64 p q, .int .i64 rs, .int .i64 rt], .agg #[.int .i64 (x 0), .int .i64 (x 1), .int .i64 (x 2), .int .i64 (x 3), .int .i64 (x 4), .int .i64 (x 5), .int .i64 (x 6)], .pointer (some ⟨w.heap.size, 0, none⟩), .int .u8 2, .int .i64 8, .slice (some ⟨w3.heap.size, 0, none⟩) 0 8, .pointer (some ⟨w.heap.size, 0, none⟩), .int .u8 2, .func (.func 46) #[] #[.pointer (some ⟨w3.heap.size + 1 + 1, 0, none⟩)], .int .i64 (mkP k), .int .i64 (mkW k), undef, undef, undef, undef, undef, undef, undef, undef], defers := [] }) ?assign ?body ?done ?stop
  case assign =>
    intro l k W K hk hK
    rw [mk_at k hk]
    gi_wp2
    exact hK
  case body =>
    rintro l k W hk ⟨hv, hn, hr, hB⟩
    have HSZ := Lib.hid hsz
    clear hsz hI bN hb3'
    have hmx : Try.prog.follows .mixedOrders = true := by kernel_rfl
    rcases below3 hk with rfl | rfl | rfl
    · have hv' : Boxed W (w3.heap.size + 1) 22 (.slice (some ⟨w3.heap.size, 0, none⟩) 0 8) := hv
      have hc := hv'.cell
      have hf := hv'.frozen
      obtain ⟨n0, n1⟩ := hn 0 (by omega)
      have hlW : w3.heap.size + 1 < W.heap.size := hv.lt
      have hr' : RowOf w3.heap.size (mkB x 0 ++ List.replicate 8 0) W := hr
      have hP := Lib.hid (put_any (x 0) 1 1 W.drew (HX.out 0 (by omega)) (by omega) (.inl rfl))
      simp only [show mkP 0 = 0 from rfl, show mkW 0 = 1 from rfl]
      clear hv hr
      gi_wp2_with fail
      refine wpIn_region_any hmx ?_
      change wpAnyIn _ _ _ _ _ _ _ _ _ (World.drew _)
      refine any_round rfl (by simp) _ _ _ _ ?_
      have hA1 : w.heap.size ≤ w3.heap.size := by omega
      have hA2 : w.heap.size ≤ w3.heap.size + 1 := by omega
      refine wpAnyIn_take (i := 1) (v := .int .i64 0) rfl rfl (by kernel_rfl) (by kernel_rfl) (by kernel_rfl) (fun _ _ _ h => h) ⟨Or.inl ⟨by rfl, ?_⟩, fun _ => rfl⟩ ?_
      · intro w
        go_simp
      refine wpAnyIn_take (i := 2) (v := .pointer (some ⟨w1.heap.size, 0, none⟩)) rfl rfl (by kernel_rfl) (by kernel_rfl) (by kernel_rfl) (fun _ _ _ h => h) ⟨Or.inl ⟨by rfl, ?_⟩, fun _ => rfl⟩ ?_
      · intro w
        go_simp
      refine wpAnyIn_take (i := 4) (v := .int .i64 1) rfl rfl (by kernel_rfl) (by kernel_rfl) (by kernel_rfl) (fun _ _ _ h => h) ⟨Or.inl ⟨by rfl, ?_⟩, fun _ => rfl⟩ ?_
      · intro w
        go_simp
      refine wpAnyIn_ready (rs := [0, 3]) (by kernel_rfl) (by simp) ?_
      refine AllReadyIn.cons rfl (fun K hK => ?_) ?_
      · go_simp
        refine hK _ _ ?_
        clear hK K
        refine wpAnyIn_ready (rs := [3]) (by kernel_rfl) (by simp) ?_
        refine AllReadyIn.cons rfl (fun K hK => ?_) ?_
        · go_simp
          refine hK _ _ ?_
          clear hK K
          refine wpAnyIn_ready (rs := [5]) (by kernel_rfl) (by simp) ?_
          refine AllReadyIn.cons rfl (fun K hK => ?_) ?_
          · go_simp
            refine ⟨trivial, ?_⟩
            refine ((callsIn_wide (n := 6)).2 hP.out).mono ?_
            rintro e w6 ⟨rfl, hq, hb6⟩
            have hbW : Below W.heap.size W w6 := (Below.refl W.heap.size W).drew.trans hb6
            have hr6 := hr'.later hbW
            have hx6 := bcell hbW hlW hc
            have hfx := bfrozen hbW hlW hf
            have q0 : w6.cell? ⟨W.heap.size, 0, none⟩ = some (.int .u8 (byteOf (x 0) 1 0)) := row_cell hq (i := 0) rfl
            have z0 := hr6.at (j := 0) (v := 0) rfl
            have y0 := hr6.open 0
            refine hK _ _ ?_
            clear hK K
            refine wpAnyIn_ready (rs := [6]) (by kernel_rfl) (by simp) ?_
            refine AllReadyIn.cons rfl (fun K hK => ?_) ?_
            · go_simp
              refine hK _ _ ?_
              clear hK K
              refine wpAnyIn_ready (rs := [7]) (by kernel_rfl) (by simp) ?_
              refine AllReadyIn.cons rfl (fun K hK => ?_) ?_
              · go_simp
                refine hK _ _ ?_
                clear hK K
                refine wpAnyIn_done (by kernel_rfl) ?_ _
                gi_wp2
                refine ⟨(keeps_of_below hbW).trans ((((KeepsOthers.setCell _ _ _).trans (KeepsOthers.setCell _ _ _))).from _), (boxed_far (show Boxed w6 (w3.heap.size + 1) 22 _ from (hbW.block _ hlW).trans hv') (by omega) 0 _).set _, (((hn.later (Nat.lt_of_lt_of_le (by omega) (Nat.le_refl _)) hbW).other _ 0 _ (by omega)).other _ 0 _ (by omega)), ?_, ?_⟩
                · exact ((hr6.set 0 (byteOf (x 0) 1 0)).far (by omega)).like rfl
                · exact (((hB.trans (hbW.mono hB.size)).setCell hA1 _).setCell hA2 _)
              exact AllReadyIn.nil
            exact AllReadyIn.nil
          exact AllReadyIn.nil
        exact AllReadyIn.nil
      refine AllReadyIn.cons rfl (fun K hK => ?_) ?_
      · go_simp
        refine hK _ _ ?_
        clear hK K
        refine wpAnyIn_ready (rs := [0, 5]) (by kernel_rfl) (by simp) ?_
        refine AllReadyIn.cons rfl (fun K hK => ?_) ?_
        · go_simp
          refine hK _ _ ?_
          clear hK K
          refine wpAnyIn_ready (rs := [5]) (by kernel_rfl) (by simp) ?_
          refine AllReadyIn.cons rfl (fun K hK => ?_) ?_
          · go_simp
            refine ⟨trivial, ?_⟩
            refine ((callsIn_wide (n := 6)).2 hP.out).mono ?_
            rintro e w6 ⟨rfl, hq, hb6⟩
            have hbW : Below W.heap.size W w6 := (Below.refl W.heap.size W).drew.trans hb6
            have hr6 := hr'.later hbW
            have hx6 := bcell hbW hlW hc
            have hfx := bfrozen hbW hlW hf
            have q0 : w6.cell? ⟨W.heap.size, 0, none⟩ = some (.int .u8 (byteOf (x 0) 1 0)) := row_cell hq (i := 0) rfl
            have z0 := hr6.at (j := 0) (v := 0) rfl
            have y0 := hr6.open 0
            refine hK _ _ ?_
            clear hK K
            refine wpAnyIn_ready (rs := [6]) (by kernel_rfl) (by simp) ?_
            refine AllReadyIn.cons rfl (fun K hK => ?_) ?_
            · go_simp
              refine hK _ _ ?_
              clear hK K
              refine wpAnyIn_ready (rs := [7]) (by kernel_rfl) (by simp) ?_
              refine AllReadyIn.cons rfl (fun K hK => ?_) ?_
              · go_simp
                refine hK _ _ ?_
                clear hK K
                refine wpAnyIn_done (by kernel_rfl) ?_ _
                gi_wp2
                refine ⟨(keeps_of_below hbW).trans ((((KeepsOthers.setCell _ _ _).trans (KeepsOthers.setCell _ _ _))).from _), (boxed_far (show Boxed w6 (w3.heap.size + 1) 22 _ from (hbW.block _ hlW).trans hv') (by omega) 0 _).set _, (((hn.later (Nat.lt_of_lt_of_le (by omega) (Nat.le_refl _)) hbW).other _ 0 _ (by omega)).other _ 0 _ (by omega)), ?_, ?_⟩
                · exact ((hr6.set 0 (byteOf (x 0) 1 0)).far (by omega)).like rfl
                · exact (((hB.trans (hbW.mono hB.size)).setCell hA1 _).setCell hA2 _)
              exact AllReadyIn.nil
            exact AllReadyIn.nil
          exact AllReadyIn.nil
        refine AllReadyIn.cons rfl (fun K hK => ?_) ?_
        · go_simp
          refine ⟨trivial, ?_⟩
          refine ((callsIn_wide (n := 6)).2 hP.out).mono ?_
          rintro e w6 ⟨rfl, hq, hb6⟩
          have hbW : Below W.heap.size W w6 := (Below.refl W.heap.size W).drew.trans hb6
          have hr6 := hr'.later hbW
          have hx6 := bcell hbW hlW hc
          have hfx := bfrozen hbW hlW hf
          have q0 : w6.cell? ⟨W.heap.size, 0, none⟩ = some (.int .u8 (byteOf (x 0) 1 0)) := row_cell hq (i := 0) rfl
          have z0 := hr6.at (j := 0) (v := 0) rfl
          have y0 := hr6.open 0
          refine hK _ _ ?_
          clear hK K
          refine wpAnyIn_ready (rs := [0]) (by kernel_rfl) (by simp) ?_
          refine AllReadyIn.cons rfl (fun K hK => ?_) ?_
          · go_simp
            refine hK _ _ ?_
            clear hK K
            refine wpAnyIn_ready (rs := [6]) (by kernel_rfl) (by simp) ?_
            refine AllReadyIn.cons rfl (fun K hK => ?_) ?_
            · go_simp
              refine hK _ _ ?_
              clear hK K
              refine wpAnyIn_ready (rs := [7]) (by kernel_rfl) (by simp) ?_
              refine AllReadyIn.cons rfl (fun K hK => ?_) ?_
              · go_simp
                refine hK _ _ ?_
                clear hK K
                refine wpAnyIn_done (by kernel_rfl) ?_ _
                gi_wp2
                refine ⟨(keeps_of_below hbW).trans ((((KeepsOthers.setCell _ _ _).trans (KeepsOthers.setCell _ _ _))).from _), (boxed_far (show Boxed w6 (w3.heap.size + 1) 22 _ from (hbW.block _ hlW).trans hv') (by omega) 0 _).set _, (((hn.later (Nat.lt_of_lt_of_le (by omega) (Nat.le_refl _)) hbW).other _ 0 _ (by omega)).other _ 0 _ (by omega)), ?_, ?_⟩
                · exact ((hr6.set 0 (byteOf (x 0) 1 0)).far (by omega)).like rfl
                · exact (((hB.trans (hbW.mono hB.size)).setCell hA1 _).setCell hA2 _)
              exact AllReadyIn.nil
            exact AllReadyIn.nil
          exact AllReadyIn.nil
        exact AllReadyIn.nil
      exact AllReadyIn.nil
    · have hv' : Boxed W (w3.heap.size + 1) 22 (.slice (some ⟨w3.heap.size, 0, none⟩) 1 8) := hv
      have hc := hv'.cell
      have hf := hv'.frozen
      obtain ⟨n0, n1⟩ := hn 2 (by omega)
      have hlW : w3.heap.size + 1 < W.heap.size := hv.lt
      have hr' : RowOf w3.heap.size (mkB x 1 ++ List.replicate 7 0) W := hr
      have hP := Lib.hid (put_any (x 2) 1 1 W.drew (HX.out 2 (by omega)) (by omega) (.inl rfl))
      simp only [show mkP 1 = 2 from rfl, show mkW 1 = 1 from rfl]
      clear hv hr
      gi_wp2_with fail
      refine wpIn_region_any hmx ?_
      change wpAnyIn _ _ _ _ _ _ _ _ _ (World.drew _)
      refine any_round rfl (by simp) _ _ _ _ ?_
      have hA1 : w.heap.size ≤ w3.heap.size := by omega
      have hA2 : w.heap.size ≤ w3.heap.size + 1 := by omega
      refine wpAnyIn_take (i := 1) (v := .int .i64 2) rfl rfl (by kernel_rfl) (by kernel_rfl) (by kernel_rfl) (fun _ _ _ h => h) ⟨Or.inl ⟨by rfl, ?_⟩, fun _ => rfl⟩ ?_
      · intro w
        go_simp
      refine wpAnyIn_take (i := 2) (v := .pointer (some ⟨w1.heap.size, 2, none⟩)) rfl rfl (by kernel_rfl) (by kernel_rfl) (by kernel_rfl) (fun _ _ _ h => h) ⟨Or.inl ⟨by rfl, ?_⟩, fun _ => rfl⟩ ?_
      · intro w
        go_simp
      refine wpAnyIn_take (i := 4) (v := .int .i64 1) rfl rfl (by kernel_rfl) (by kernel_rfl) (by kernel_rfl) (fun _ _ _ h => h) ⟨Or.inl ⟨by rfl, ?_⟩, fun _ => rfl⟩ ?_
      · intro w
        go_simp
      refine wpAnyIn_ready (rs := [0, 3]) (by kernel_rfl) (by simp) ?_
      refine AllReadyIn.cons rfl (fun K hK => ?_) ?_
      · go_simp
        refine hK _ _ ?_
        clear hK K
        refine wpAnyIn_ready (rs := [3]) (by kernel_rfl) (by simp) ?_
        refine AllReadyIn.cons rfl (fun K hK => ?_) ?_
        · go_simp
          refine hK _ _ ?_
          clear hK K
          refine wpAnyIn_ready (rs := [5]) (by kernel_rfl) (by simp) ?_
          refine AllReadyIn.cons rfl (fun K hK => ?_) ?_
          · go_simp
            refine ⟨trivial, ?_⟩
            refine ((callsIn_wide (n := 6)).2 hP.out).mono ?_
            rintro e w6 ⟨rfl, hq, hb6⟩
            have hbW : Below W.heap.size W w6 := (Below.refl W.heap.size W).drew.trans hb6
            have hr6 := hr'.later hbW
            have hx6 := bcell hbW hlW hc
            have hfx := bfrozen hbW hlW hf
            have q0 : w6.cell? ⟨W.heap.size, 0, none⟩ = some (.int .u8 (byteOf (x 2) 1 0)) := row_cell hq (i := 0) rfl
            have z0 := hr6.at (j := 1) (v := 0) rfl
            have y0 := hr6.open 1
            refine hK _ _ ?_
            clear hK K
            refine wpAnyIn_ready (rs := [6]) (by kernel_rfl) (by simp) ?_
            refine AllReadyIn.cons rfl (fun K hK => ?_) ?_
            · go_simp
              refine hK _ _ ?_
              clear hK K
              refine wpAnyIn_ready (rs := [7]) (by kernel_rfl) (by simp) ?_
              refine AllReadyIn.cons rfl (fun K hK => ?_) ?_
              · go_simp
                refine hK _ _ ?_
                clear hK K
                refine wpAnyIn_done (by kernel_rfl) ?_ _
                gi_wp2
                refine ⟨(keeps_of_below hbW).trans ((((KeepsOthers.setCell _ _ _).trans (KeepsOthers.setCell _ _ _))).from _), (boxed_far (show Boxed w6 (w3.heap.size + 1) 22 _ from (hbW.block _ hlW).trans hv') (by omega) 1 _).set _, (((hn.later (Nat.lt_of_lt_of_le (by omega) (Nat.le_refl _)) hbW).other _ 1 _ (by omega)).other _ 0 _ (by omega)), ?_, ?_⟩
                · exact ((hr6.set 1 (byteOf (x 2) 1 0)).far (by omega)).like rfl
                · exact (((hB.trans (hbW.mono hB.size)).setCell hA1 _).setCell hA2 _)
              exact AllReadyIn.nil
            exact AllReadyIn.nil
          exact AllReadyIn.nil
        exact AllReadyIn.nil
      refine AllReadyIn.cons rfl (fun K hK => ?_) ?_
      · go_simp
        refine hK _ _ ?_
        clear hK K
        refine wpAnyIn_ready (rs := [0, 5]) (by kernel_rfl) (by simp) ?_
        refine AllReadyIn.cons rfl (fun K hK => ?_) ?_
        · go_simp
          refine hK _ _ ?_
          clear hK K
          refine wpAnyIn_ready (rs := [5]) (by kernel_rfl) (by simp) ?_
          refine AllReadyIn.cons rfl (fun K hK => ?_) ?_
          · go_simp
            refine ⟨trivial, ?_⟩
            refine ((callsIn_wide (n := 6)).2 hP.out).mono ?_
            rintro e w6 ⟨rfl, hq, hb6⟩
            have hbW : Below W.heap.size W w6 := (Below.refl W.heap.size W).drew.trans hb6
            have hr6 := hr'.later hbW
            have hx6 := bcell hbW hlW hc
            have hfx := bfrozen hbW hlW hf
            have q0 : w6.cell? ⟨W.heap.size, 0, none⟩ = some (.int .u8 (byteOf (x 2) 1 0)) := row_cell hq (i := 0) rfl
            have z0 := hr6.at (j := 1) (v := 0) rfl
            have y0 := hr6.open 1
            refine hK _ _ ?_
            clear hK K
            refine wpAnyIn_ready (rs := [6]) (by kernel_rfl) (by simp) ?_
            refine AllReadyIn.cons rfl (fun K hK => ?_) ?_
            · go_simp
              refine hK _ _ ?_
              clear hK K
              refine wpAnyIn_ready (rs := [7]) (by kernel_rfl) (by simp) ?_
              refine AllReadyIn.cons rfl (fun K hK => ?_) ?_
              · go_simp
                refine hK _ _ ?_
                clear hK K
                refine wpAnyIn_done (by kernel_rfl) ?_ _
                gi_wp2
                refine ⟨(keeps_of_below hbW).trans ((((KeepsOthers.setCell _ _ _).trans (KeepsOthers.setCell _ _ _))).from _), (boxed_far (show Boxed w6 (w3.heap.size + 1) 22 _ from (hbW.block _ hlW).trans hv') (by omega) 1 _).set _, (((hn.later (Nat.lt_of_lt_of_le (by omega) (Nat.le_refl _)) hbW).other _ 1 _ (by omega)).other _ 0 _ (by omega)), ?_, ?_⟩
                · exact ((hr6.set 1 (byteOf (x 2) 1 0)).far (by omega)).like rfl
                · exact (((hB.trans (hbW.mono hB.size)).setCell hA1 _).setCell hA2 _)
              exact AllReadyIn.nil
            exact AllReadyIn.nil
          exact AllReadyIn.nil
        refine AllReadyIn.cons rfl (fun K hK => ?_) ?_
        · go_simp
          refine ⟨trivial, ?_⟩
          refine ((callsIn_wide (n := 6)).2 hP.out).mono ?_
          rintro e w6 ⟨rfl, hq, hb6⟩
          have hbW : Below W.heap.size W w6 := (Below.refl W.heap.size W).drew.trans hb6
          have hr6 := hr'.later hbW
          have hx6 := bcell hbW hlW hc
          have hfx := bfrozen hbW hlW hf
          have q0 : w6.cell? ⟨W.heap.size, 0, none⟩ = some (.int .u8 (byteOf (x 2) 1 0)) := row_cell hq (i := 0) rfl
          have z0 := hr6.at (j := 1) (v := 0) rfl
          have y0 := hr6.open 1
          refine hK _ _ ?_
          clear hK K
          refine wpAnyIn_ready (rs := [0]) (by kernel_rfl) (by simp) ?_
          refine AllReadyIn.cons rfl (fun K hK => ?_) ?_
          · go_simp
            refine hK _ _ ?_
            clear hK K
            refine wpAnyIn_ready (rs := [6]) (by kernel_rfl) (by simp) ?_
            refine AllReadyIn.cons rfl (fun K hK => ?_) ?_
            · go_simp
              refine hK _ _ ?_
              clear hK K
              refine wpAnyIn_ready (rs := [7]) (by kernel_rfl) (by simp) ?_
              refine AllReadyIn.cons rfl (fun K hK => ?_) ?_
              · go_simp
                refine hK _ _ ?_
                clear hK K
                refine wpAnyIn_done (by kernel_rfl) ?_ _
                gi_wp2
                refine ⟨(keeps_of_below hbW).trans ((((KeepsOthers.setCell _ _ _).trans (KeepsOthers.setCell _ _ _))).from _), (boxed_far (show Boxed w6 (w3.heap.size + 1) 22 _ from (hbW.block _ hlW).trans hv') (by omega) 1 _).set _, (((hn.later (Nat.lt_of_lt_of_le (by omega) (Nat.le_refl _)) hbW).other _ 1 _ (by omega)).other _ 0 _ (by omega)), ?_, ?_⟩
                · exact ((hr6.set 1 (byteOf (x 2) 1 0)).far (by omega)).like rfl
                · exact (((hB.trans (hbW.mono hB.size)).setCell hA1 _).setCell hA2 _)
              exact AllReadyIn.nil
            exact AllReadyIn.nil
          exact AllReadyIn.nil
        exact AllReadyIn.nil
      exact AllReadyIn.nil
    · have hv' : Boxed W (w3.heap.size + 1) 22 (.slice (some ⟨w3.heap.size, 0, none⟩) 2 8) := hv
      have hc := hv'.cell
      have hf := hv'.frozen
      obtain ⟨n0, n1⟩ := hn 1 (by omega)
      have hlW : w3.heap.size + 1 < W.heap.size := hv.lt
      have hr' : RowOf w3.heap.size (mkB x 2 ++ List.replicate 6 0) W := hr
      have hP := Lib.hid (put_any (x 1) 6 6 W.drew (HX.out 1 (by omega)) (by omega) (.inl rfl))
      simp only [show mkP 2 = 1 from rfl, show mkW 2 = 6 from rfl]
      clear hv hr
      gi_wp2_with fail
      refine wpIn_region_any hmx ?_
      change wpAnyIn _ _ _ _ _ _ _ _ _ (World.drew _)
      refine any_round rfl (by simp) _ _ _ _ ?_
      have hA1 : w.heap.size ≤ w3.heap.size := by omega
      have hA2 : w.heap.size ≤ w3.heap.size + 1 := by omega
      refine wpAnyIn_take (i := 1) (v := .int .i64 1) rfl rfl (by kernel_rfl) (by kernel_rfl) (by kernel_rfl) (fun _ _ _ h => h) ⟨Or.inl ⟨by rfl, ?_⟩, fun _ => rfl⟩ ?_
      · intro w
        go_simp
      refine wpAnyIn_take (i := 2) (v := .pointer (some ⟨w1.heap.size, 1, none⟩)) rfl rfl (by kernel_rfl) (by kernel_rfl) (by kernel_rfl) (fun _ _ _ h => h) ⟨Or.inl ⟨by rfl, ?_⟩, fun _ => rfl⟩ ?_
      · intro w
        go_simp
      refine wpAnyIn_take (i := 4) (v := .int .i64 6) rfl rfl (by kernel_rfl) (by kernel_rfl) (by kernel_rfl) (fun _ _ _ h => h) ⟨Or.inl ⟨by rfl, ?_⟩, fun _ => rfl⟩ ?_
      · intro w
        go_simp
      refine wpAnyIn_ready (rs := [0, 3]) (by kernel_rfl) (by simp) ?_
      refine AllReadyIn.cons rfl (fun K hK => ?_) ?_
      · go_simp
        refine hK _ _ ?_
        clear hK K
        refine wpAnyIn_ready (rs := [3]) (by kernel_rfl) (by simp) ?_
        refine AllReadyIn.cons rfl (fun K hK => ?_) ?_
        · go_simp
          refine hK _ _ ?_
          clear hK K
          refine wpAnyIn_ready (rs := [5]) (by kernel_rfl) (by simp) ?_
          refine AllReadyIn.cons rfl (fun K hK => ?_) ?_
          · go_simp
            refine ⟨trivial, ?_⟩
            refine ((callsIn_wide (n := 6)).2 hP.out).mono ?_
            rintro e w6 ⟨rfl, hq, hb6⟩
            have hbW : Below W.heap.size W w6 := (Below.refl W.heap.size W).drew.trans hb6
            have hr6 := hr'.later hbW
            have hx6 := bcell hbW hlW hc
            have hfx := bfrozen hbW hlW hf
            have q0 : w6.cell? ⟨W.heap.size, 0, none⟩ = some (.int .u8 (byteOf (x 1) 6 0)) := row_cell hq (i := 0) rfl
            have q1 : w6.cell? ⟨W.heap.size, 1, none⟩ = some (.int .u8 (byteOf (x 1) 6 1)) := row_cell hq (i := 1) rfl
            have q2 : w6.cell? ⟨W.heap.size, 2, none⟩ = some (.int .u8 (byteOf (x 1) 6 2)) := row_cell hq (i := 2) rfl
            have q3 : w6.cell? ⟨W.heap.size, 3, none⟩ = some (.int .u8 (byteOf (x 1) 6 3)) := row_cell hq (i := 3) rfl
            have q4 : w6.cell? ⟨W.heap.size, 4, none⟩ = some (.int .u8 (byteOf (x 1) 6 4)) := row_cell hq (i := 4) rfl
            have q5 : w6.cell? ⟨W.heap.size, 5, none⟩ = some (.int .u8 (byteOf (x 1) 6 5)) := row_cell hq (i := 5) rfl
            have z0 := hr6.at (j := 2) (v := 0) rfl
            have z1 := hr6.at (j := 3) (v := 0) rfl
            have z2 := hr6.at (j := 4) (v := 0) rfl
            have z3 := hr6.at (j := 5) (v := 0) rfl
            have z4 := hr6.at (j := 6) (v := 0) rfl
            have z5 := hr6.at (j := 7) (v := 0) rfl
            have y0 := hr6.open 2
            have y1 := hr6.open 3
            have y2 := hr6.open 4
            have y3 := hr6.open 5
            have y4 := hr6.open 6
            have y5 := hr6.open 7
            refine hK _ _ ?_
            clear hK K
            refine wpAnyIn_ready (rs := [6]) (by kernel_rfl) (by simp) ?_
            refine AllReadyIn.cons rfl (fun K hK => ?_) ?_
            · go_simp
              refine hK _ _ ?_
              clear hK K
              refine wpAnyIn_ready (rs := [7]) (by kernel_rfl) (by simp) ?_
              refine AllReadyIn.cons rfl (fun K hK => ?_) ?_
              · go_simp
                refine hK _ _ ?_
                clear hK K
                refine wpAnyIn_done (by kernel_rfl) ?_ _
                gi_wp2
                refine ⟨(keeps_of_below hbW).trans (((((((((KeepsOthers.setCell _ _ _).trans (KeepsOthers.setCell _ _ _)).trans (KeepsOthers.setCell _ _ _)).trans (KeepsOthers.setCell _ _ _)).trans (KeepsOthers.setCell _ _ _)).trans (KeepsOthers.setCell _ _ _)).trans (KeepsOthers.setCell _ _ _))).from _), (boxed_far (boxed_far (boxed_far (boxed_far (boxed_far (boxed_far (show Boxed w6 (w3.heap.size + 1) 22 _ from (hbW.block _ hlW).trans hv') (by omega) 2 _) (by omega) 3 _) (by omega) 4 _) (by omega) 5 _) (by omega) 6 _) (by omega) 7 _).set _, ((((((((hn.later (Nat.lt_of_lt_of_le (by omega) (Nat.le_refl _)) hbW).other _ 2 _ (by omega)).other _ 3 _ (by omega)).other _ 4 _ (by omega)).other _ 5 _ (by omega)).other _ 6 _ (by omega)).other _ 7 _ (by omega)).other _ 0 _ (by omega)), ?_, ?_⟩
                · exact (((((((hr6.set 2 (byteOf (x 1) 6 0)).set 3 (byteOf (x 1) 6 1)).set 4 (byteOf (x 1) 6 2)).set 5 (byteOf (x 1) 6 3)).set 6 (byteOf (x 1) 6 4)).set 7 (byteOf (x 1) 6 5)).far (by omega)).like rfl
                · exact ((((((((hB.trans (hbW.mono hB.size)).setCell hA1 _).setCell hA1 _).setCell hA1 _).setCell hA1 _).setCell hA1 _).setCell hA1 _).setCell hA2 _)
              exact AllReadyIn.nil
            exact AllReadyIn.nil
          exact AllReadyIn.nil
        exact AllReadyIn.nil
      refine AllReadyIn.cons rfl (fun K hK => ?_) ?_
      · go_simp
        refine hK _ _ ?_
        clear hK K
        refine wpAnyIn_ready (rs := [0, 5]) (by kernel_rfl) (by simp) ?_
        refine AllReadyIn.cons rfl (fun K hK => ?_) ?_
        · go_simp
          refine hK _ _ ?_
          clear hK K
          refine wpAnyIn_ready (rs := [5]) (by kernel_rfl) (by simp) ?_
          refine AllReadyIn.cons rfl (fun K hK => ?_) ?_
          · go_simp
            refine ⟨trivial, ?_⟩
            refine ((callsIn_wide (n := 6)).2 hP.out).mono ?_
            rintro e w6 ⟨rfl, hq, hb6⟩
            have hbW : Below W.heap.size W w6 := (Below.refl W.heap.size W).drew.trans hb6
            have hr6 := hr'.later hbW
            have hx6 := bcell hbW hlW hc
            have hfx := bfrozen hbW hlW hf
            have q0 : w6.cell? ⟨W.heap.size, 0, none⟩ = some (.int .u8 (byteOf (x 1) 6 0)) := row_cell hq (i := 0) rfl
            have q1 : w6.cell? ⟨W.heap.size, 1, none⟩ = some (.int .u8 (byteOf (x 1) 6 1)) := row_cell hq (i := 1) rfl
            have q2 : w6.cell? ⟨W.heap.size, 2, none⟩ = some (.int .u8 (byteOf (x 1) 6 2)) := row_cell hq (i := 2) rfl
            have q3 : w6.cell? ⟨W.heap.size, 3, none⟩ = some (.int .u8 (byteOf (x 1) 6 3)) := row_cell hq (i := 3) rfl
            have q4 : w6.cell? ⟨W.heap.size, 4, none⟩ = some (.int .u8 (byteOf (x 1) 6 4)) := row_cell hq (i := 4) rfl
            have q5 : w6.cell? ⟨W.heap.size, 5, none⟩ = some (.int .u8 (byteOf (x 1) 6 5)) := row_cell hq (i := 5) rfl
            have z0 := hr6.at (j := 2) (v := 0) rfl
            have z1 := hr6.at (j := 3) (v := 0) rfl
            have z2 := hr6.at (j := 4) (v := 0) rfl
            have z3 := hr6.at (j := 5) (v := 0) rfl
            have z4 := hr6.at (j := 6) (v := 0) rfl
            have z5 := hr6.at (j := 7) (v := 0) rfl
            have y0 := hr6.open 2
            have y1 := hr6.open 3
            have y2 := hr6.open 4
            have y3 := hr6.open 5
            have y4 := hr6.open 6
            have y5 := hr6.open 7
            refine hK _ _ ?_
            clear hK K
            refine wpAnyIn_ready (rs := [6]) (by kernel_rfl) (by simp) ?_
            refine AllReadyIn.cons rfl (fun K hK => ?_) ?_
            · go_simp
              refine hK _ _ ?_
              clear hK K
              refine wpAnyIn_ready (rs := [7]) (by kernel_rfl) (by simp) ?_
              refine AllReadyIn.cons rfl (fun K hK => ?_) ?_
              · go_simp
                refine hK _ _ ?_
                clear hK K
                refine wpAnyIn_done (by kernel_rfl) ?_ _
                gi_wp2
                refine ⟨(keeps_of_below hbW).trans (((((((((KeepsOthers.setCell _ _ _).trans (KeepsOthers.setCell _ _ _)).trans (KeepsOthers.setCell _ _ _)).trans (KeepsOthers.setCell _ _ _)).trans (KeepsOthers.setCell _ _ _)).trans (KeepsOthers.setCell _ _ _)).trans (KeepsOthers.setCell _ _ _))).from _), (boxed_far (boxed_far (boxed_far (boxed_far (boxed_far (boxed_far (show Boxed w6 (w3.heap.size + 1) 22 _ from (hbW.block _ hlW).trans hv') (by omega) 2 _) (by omega) 3 _) (by omega) 4 _) (by omega) 5 _) (by omega) 6 _) (by omega) 7 _).set _, ((((((((hn.later (Nat.lt_of_lt_of_le (by omega) (Nat.le_refl _)) hbW).other _ 2 _ (by omega)).other _ 3 _ (by omega)).other _ 4 _ (by omega)).other _ 5 _ (by omega)).other _ 6 _ (by omega)).other _ 7 _ (by omega)).other _ 0 _ (by omega)), ?_, ?_⟩
                · exact (((((((hr6.set 2 (byteOf (x 1) 6 0)).set 3 (byteOf (x 1) 6 1)).set 4 (byteOf (x 1) 6 2)).set 5 (byteOf (x 1) 6 3)).set 6 (byteOf (x 1) 6 4)).set 7 (byteOf (x 1) 6 5)).far (by omega)).like rfl
                · exact ((((((((hB.trans (hbW.mono hB.size)).setCell hA1 _).setCell hA1 _).setCell hA1 _).setCell hA1 _).setCell hA1 _).setCell hA1 _).setCell hA2 _)
              exact AllReadyIn.nil
            exact AllReadyIn.nil
          exact AllReadyIn.nil
        refine AllReadyIn.cons rfl (fun K hK => ?_) ?_
        · go_simp
          refine ⟨trivial, ?_⟩
          refine ((callsIn_wide (n := 6)).2 hP.out).mono ?_
          rintro e w6 ⟨rfl, hq, hb6⟩
          have hbW : Below W.heap.size W w6 := (Below.refl W.heap.size W).drew.trans hb6
          have hr6 := hr'.later hbW
          have hx6 := bcell hbW hlW hc
          have hfx := bfrozen hbW hlW hf
          have q0 : w6.cell? ⟨W.heap.size, 0, none⟩ = some (.int .u8 (byteOf (x 1) 6 0)) := row_cell hq (i := 0) rfl
          have q1 : w6.cell? ⟨W.heap.size, 1, none⟩ = some (.int .u8 (byteOf (x 1) 6 1)) := row_cell hq (i := 1) rfl
          have q2 : w6.cell? ⟨W.heap.size, 2, none⟩ = some (.int .u8 (byteOf (x 1) 6 2)) := row_cell hq (i := 2) rfl
          have q3 : w6.cell? ⟨W.heap.size, 3, none⟩ = some (.int .u8 (byteOf (x 1) 6 3)) := row_cell hq (i := 3) rfl
          have q4 : w6.cell? ⟨W.heap.size, 4, none⟩ = some (.int .u8 (byteOf (x 1) 6 4)) := row_cell hq (i := 4) rfl
          have q5 : w6.cell? ⟨W.heap.size, 5, none⟩ = some (.int .u8 (byteOf (x 1) 6 5)) := row_cell hq (i := 5) rfl
          have z0 := hr6.at (j := 2) (v := 0) rfl
          have z1 := hr6.at (j := 3) (v := 0) rfl
          have z2 := hr6.at (j := 4) (v := 0) rfl
          have z3 := hr6.at (j := 5) (v := 0) rfl
          have z4 := hr6.at (j := 6) (v := 0) rfl
          have z5 := hr6.at (j := 7) (v := 0) rfl
          have y0 := hr6.open 2
          have y1 := hr6.open 3
          have y2 := hr6.open 4
          have y3 := hr6.open 5
          have y4 := hr6.open 6
          have y5 := hr6.open 7
          refine hK _ _ ?_
          clear hK K
          refine wpAnyIn_ready (rs := [0]) (by kernel_rfl) (by simp) ?_
          refine AllReadyIn.cons rfl (fun K hK => ?_) ?_
          · go_simp
            refine hK _ _ ?_
            clear hK K
            refine wpAnyIn_ready (rs := [6]) (by kernel_rfl) (by simp) ?_
            refine AllReadyIn.cons rfl (fun K hK => ?_) ?_
            · go_simp
              refine hK _ _ ?_
              clear hK K
              refine wpAnyIn_ready (rs := [7]) (by kernel_rfl) (by simp) ?_
              refine AllReadyIn.cons rfl (fun K hK => ?_) ?_
              · go_simp
                refine hK _ _ ?_
                clear hK K
                refine wpAnyIn_done (by kernel_rfl) ?_ _
                gi_wp2
                refine ⟨(keeps_of_below hbW).trans (((((((((KeepsOthers.setCell _ _ _).trans (KeepsOthers.setCell _ _ _)).trans (KeepsOthers.setCell _ _ _)).trans (KeepsOthers.setCell _ _ _)).trans (KeepsOthers.setCell _ _ _)).trans (KeepsOthers.setCell _ _ _)).trans (KeepsOthers.setCell _ _ _))).from _), (boxed_far (boxed_far (boxed_far (boxed_far (boxed_far (boxed_far (show Boxed w6 (w3.heap.size + 1) 22 _ from (hbW.block _ hlW).trans hv') (by omega) 2 _) (by omega) 3 _) (by omega) 4 _) (by omega) 5 _) (by omega) 6 _) (by omega) 7 _).set _, ((((((((hn.later (Nat.lt_of_lt_of_le (by omega) (Nat.le_refl _)) hbW).other _ 2 _ (by omega)).other _ 3 _ (by omega)).other _ 4 _ (by omega)).other _ 5 _ (by omega)).other _ 6 _ (by omega)).other _ 7 _ (by omega)).other _ 0 _ (by omega)), ?_, ?_⟩
                · exact (((((((hr6.set 2 (byteOf (x 1) 6 0)).set 3 (byteOf (x 1) 6 1)).set 4 (byteOf (x 1) 6 2)).set 5 (byteOf (x 1) 6 3)).set 6 (byteOf (x 1) 6 4)).set 7 (byteOf (x 1) 6 5)).far (by omega)).like rfl
                · exact ((((((((hB.trans (hbW.mono hB.size)).setCell hA1 _).setCell hA1 _).setCell hA1 _).setCell hA1 _).setCell hA1 _).setCell hA1 _).setCell hA2 _)
              exact AllReadyIn.nil
            exact AllReadyIn.nil
          exact AllReadyIn.nil
        exact AllReadyIn.nil
      exact AllReadyIn.nil
  case done =>
    rintro D W hD ⟨hv, hn, hr, hB⟩ hK
    have hc := hv.cell
    have hDw : w.heap.size ≤ D := by omega
    have hRD : w3.heap.size < D := by omega
    clear hn hsz hI bN hb3'
    go_wp2
    have hr2 : RowOf w3.heap.size (mkB x 3) (W.putObj D (.deferred none)) := ((World.putObj_heap_other (by omega)).trans hr : _)
    have hlen : (mkB x 3).length = 8 := rfl
    refine ⟨by simp, .inl ⟨_, _, rfl, run_takeDeferred hK, ?_⟩⟩
    exact ⟨_, results_tmp rfl _ _ _, w3.heap.size, rfl, hr2.owns (by omega) hlen (by decide), hB.trans (belowK_b (w := w) (Nat.le_refl _) W D _ (.deferred none) hDw hK rfl rfl)⟩
  case stop =>
    rintro D c W _ h _
    exact h.elim
def evB (x : Nat → Int) : Nat → List Int
  | 0 => []
  | 1 => putL (x 0) 1
  | 2 => putL (x 0) 1 ++ putL (x 1) 6
  | 3 => putL (x 0) 1 ++ putL (x 1) 6 ++ putL (x 2) 1
  | 4 => putL (x 0) 1 ++ putL (x 1) 6 ++ putL (x 2) 1 ++ putL (x 3) 3
  | 5 => putL (x 0) 1 ++ putL (x 1) 6 ++ putL (x 2) 1 ++ putL (x 3) 3 ++ putL (x 4) 1
  | 6 => putL (x 0) 1 ++ putL (x 1) 6 ++ putL (x 2) 1 ++ putL (x 3) 3 ++ putL (x 4) 1 ++ putL (x 5) 4
  | 7 => putL (x 0) 1 ++ putL (x 1) 6 ++ putL (x 2) 1 ++ putL (x 3) 3 ++ putL (x 4) 1 ++ putL (x 5) 4 ++ putL (x 6) 4
  | _ => []
/-- Between two rounds: the bytes so far. -/
def eventPuts (x : Nat → Int) (w : World) (A R k : Nat) (W : World) : Prop :=
  Boxed W (R + 1) 22 (.slice (some ⟨R, 0, none⟩) (evSn k) 20) ∧ Nums A x W ∧ RowOf R (evB x k ++ List.replicate (20 - evSn k) 0) W ∧ Below w.heap.size w W
theorem eventPuts_own (x : Nat → Int) (w : World) (A R B : Nat) (hB : w.heap.size ≤ B) : OwnFrom B (eventPuts x w A R) := by
  rintro k X Y row ⟨hv, hn, hr, hb⟩ hg hrow
  have hrow' : ∀ r, row = some r → ∃ o : Obj, X.heap[r]? = some o ∧ o.isCells = false := fun r e => (hrow r e).2
  exact ⟨boxed_own (R + 1) 22 (fun _ : Unit => Value.slice (some ⟨R, 0, none⟩) (evSn k) 20) () X Y row hv hg hrow', fun i hi => ⟨cell_kept (hn i hi).1 hg hrow', (frozen_kept (hn i hi).1 hg hrow').trans (hn i hi).2⟩, hr.kept hg hrow', ownFrom_below (Nat.le_refl _) hB k X Y row hb hg hrow⟩
set_option maxRecDepth 100000 in
set_option maxHeartbeats 4000000 in
theorem bytesOf_event (ts src seq ek : Int) (p q : Nat) (rs rt : Int) (x : Nat → Int) (hN : ∀ w, Calls Try.prog 44 #[RV 1 ts src seq ek p q rs rt] w fun e w' => e = .returned (.agg #[.int .i64 (x 0), .int .i64 (x 1), .int .i64 (x 2), .int .i64 (x 3), .int .i64 (x 4), .int .i64 (x 5), .int .i64 (x 6)]) ∧ Below w.heap.size w w') (hx : ∀ i, i < 7 → fits (x i) = true) (w : World) :
    Calls Try.prog 34 #[RV 1 ts src seq ek p q rs rt] w (PutIs 20 (evB x 7) w) := by
  have HN := Lib.hid hN
  have HX := Lib.hid hx
  have hmk := make20
  clear hN hx
  refine (callsIn_wide (n := 9)).1 ?_
  refine callsIn_of_wp_marks Try.func34 rfl trivial ?_ rfl
  rw [wpIn_wide]
  simp only [Try.ntmps34, List.size_toArray, List.length_cons, List.length_nil, Nat.reduceAdd, Nat.reduceSub, Array.replicate_succ, Array.replicate_zero, List.push_toArray, List.append_toArray, List.nil_append, List.cons_append]
  go_wp2_with fail
  (with_reducible refine (HN.out _).mono ?_)
  rintro e w1 ⟨rfl, hb1⟩
  have hb1' : Below w.heap.size w w1 := ((Below.refl _ _).alloc (Nat.le_refl _) _).trans (hb1.mono (by simp))
  have hr1 : w1.cell? ⟨w.heap.size, 0, none⟩ = some (.int .u8 1) := bcell hb1 (by simp) (by simp [go_sem])
  have hlt1 : w.heap.size < w1.heap.size := by have := hb1.size; simp at this; omega
  have hr1a : (w1.alloc (.cells #[.int .i64 (x 0), .int .i64 (x 1), .int .i64 (x 2), .int .i64 (x 3), .int .i64 (x 4), .int .i64 (x 5), .int .i64 (x 6)] 68)).cell? ⟨w.heap.size, 0, none⟩ = some (.int .u8 1) := bcell ((Below.refl _ _).alloc (Nat.le_refl _) _) hlt1 hr1
  go_wp2_with fail
  (with_reducible refine (size_event _).mono ?_)
  rintro e w3 ⟨rfl, hb3⟩
  have hn3 : Nums w1.heap.size x w3 := by
    refine Nums.later ?_ (by simp) hb3
    intro i hi
    rcases below7 hi with rfl | rfl | rfl | rfl | rfl | rfl | rfl <;> simp [go_sem]
  have hr3 := bcell hb3 (by simp; omega) hr1a
  have hb3' : Below w.heap.size w w3 := (hb1'.alloc (Nat.le_of_lt hlt1) _).trans (hb3.mono (by simp; omega))
  have hlt3 : w1.heap.size < w3.heap.size := by have := hb3.size; simp at this; omega
  have hr3a : ((w3.alloc (.cells (madeCells #[Value.int .u8 0] 20) 5)).alloc (.cells #[.slice (some ⟨w3.heap.size, 0, none⟩) 0 20] 22)).cell? ⟨w.heap.size, 0, none⟩ = some (.int .u8 1) := bcell (((Below.refl _ _).alloc (Nat.le_refl _) _).alloc (by simp) _) (by omega) hr3
  clear hb1 hr1 hr1a hb3 hr3 hb1'
  go_wp2_with fail
  (with_reducible refine (layout_any _ _).mono ?_)
  rintro e w5 ⟨rfl, rfl⟩
  go_wp2_with fail
  clear hr3a
  obtain ⟨W0, hW0⟩ : ∃ W0, ((w3.alloc (.cells (madeCells #[Value.int .u8 0] 20) 5)).alloc (.cells #[.slice (some ⟨w3.heap.size, 0, none⟩) 0 20] 22)).alloc (.cells #[.int .u8 1] 5) = W0 := ⟨_, rfl⟩
  have hsz : W0.heap.size = w3.heap.size + 3 := by rw [← hW0]; simp
  have hbl0 : Below w3.heap.size w3 W0 := by rw [← hW0]; exact (((Below.refl _ _).alloc (Nat.le_refl _) _).alloc (by simp) _).alloc (by simp <;> omega) _
  have hrow : RowOf w3.heap.size ([] ++ List.replicate 20 0) W0 := by
    unfold RowOf
    rw [← hW0, Below.heap_alloc _ _ _ (by simp <;> omega), Below.heap_alloc _ _ _ (by simp)]
    exact (World.alloc_heap_new w3 _).trans (by rw [show madeCells #[Value.int .u8 0] 20 = (([] ++ List.replicate 20 (0 : Int)).map (Value.int .u8)).toArray from by kernel_rfl])
  have hI : eventPuts x w w1.heap.size w3.heap.size 0 W0 := by
    refine ⟨?_, hn3.later hlt3 hbl0, hrow, hb3'.trans (hbl0.mono (by omega))⟩
    rw [← hW0]
    have h := (Boxed.new (w3.alloc (.cells (madeCells #[Value.int .u8 0] 20) 5)) 22 (.slice (some ⟨w3.heap.size, 0, none⟩) 0 20)).alloc (.cells #[.int .u8 1] 5)
    rw [World.size_alloc] at h
    exact h
  have bN : Boxed W0 (w3.heap.size + 1 + 1) 5 (.int .u8 1) := by
    rw [← hW0]
    have h := Boxed.new ((w3.alloc (.cells (madeCells #[Value.int .u8 0] 20) 5)).alloc (.cells #[.slice (some ⟨w3.heap.size, 0, none⟩) 0 20] 22)) 5 (.int .u8 1)
    rwa [World.size_alloc, World.size_alloc] at h
  rw [hW0]
  clear hW0 hbl0 hrow hn3 hmk
  refine (wpIn_wide (n := 9)).1 ?_
  refine wpIn_rangeFunc_row rfl (by omega) (gf := 46) (lb := #[.pointer (some ⟨w3.heap.size + 1 + 1, 0, none⟩)]) rfl trivial (enters_of Try.func46 (by kernel_rfl) rfl)
    (event_tells 8 (w3.heap.size + 1 + 1) (by omega) W0 bN) (Below.refl _ _) (fun k hk => by rw [ev_at k hk]; rfl)
    (eventPuts x w w1.heap.size w3.heap.size) (fun _ _ => False) (eventPuts_own x w _ _ _ (by omega)) (fun _ _ _ _ hs _ _ => hs) (fun _ _ h => h)
    hI
    (fun k => { tmps := #[RV 1 ts src seq ek p q rs rt, .pointer (some ⟨w.heap.size, 0, none⟩), .slice none 0 0, .pointer (some ⟨w1.heap.size, 0, none⟩), .pointer (some ⟨w3.heap.size + 1, 0, none⟩), .int .i64 (evP k), .int .i64 (evW k), .agg #[.int .u8 1, .int .i64 ts, .int .i64 src, .int .i64 seq, .int .i64 ek, .complex .f64 p q, .int .i64 rs, .int .i64 rt], .agg #[.int .i64 (x 0), .int .i64 (x 1), .int .i64 (x 2), .int .i64 (x 3), .int .i64 (x 4), .int .i64 (x 5), .int .i64 (x 6)], .pointer (some ⟨w.heap.size, 0, none⟩), .int .u8 1, .int .i64 20, .slice (some ⟨w3.heap.size, 0, none⟩) 0 20, .pointer (some ⟨w.heap.size, 0, none⟩), .int .u8 1, .func (.func 46) #[] #[.pointer (some ⟨w3.heap.size + 1 + 1, 0, none⟩)], .int .i64 (evP k), .int .i64 (evW k), undef, undef, undef, undef, undef, undef, undef, undef], defers := [] }) ?assign ?body ?done ?stop
  case assign =>
    intro l k W K hk hK
    rw [ev_at k hk]
    gi_wp2
    exact hK
  case body =>
    rintro l k W hk ⟨hv, hn, hr, hB⟩
    have HSZ := Lib.hid hsz
    clear hsz hI bN hb3'
    have hmx : Try.prog.follows .mixedOrders = true := by kernel_rfl
    rcases below7 hk with rfl | rfl | rfl | rfl | rfl | rfl | rfl
    · have hv' : Boxed W (w3.heap.size + 1) 22 (.slice (some ⟨w3.heap.size, 0, none⟩) 0 20) := hv
      have hc := hv'.cell
      have hf := hv'.frozen
      obtain ⟨n0, n1⟩ := hn 0 (by omega)
      have hlW : w3.heap.size + 1 < W.heap.size := hv.lt
      have hr' : RowOf w3.heap.size (evB x 0 ++ List.replicate 20 0) W := hr
      have hP := Lib.hid (put_any (x 0) 1 1 W.drew (HX.out 0 (by omega)) (by omega) (.inl rfl))
      simp only [show evP 0 = 0 from rfl, show evW 0 = 1 from rfl]
      clear hv hr
      gi_wp2_with fail
      refine wpIn_region_any hmx ?_
      change wpAnyIn _ _ _ _ _ _ _ _ _ (World.drew _)
      refine any_round rfl (by simp) _ _ _ _ ?_
      have hA1 : w.heap.size ≤ w3.heap.size := by omega
      have hA2 : w.heap.size ≤ w3.heap.size + 1 := by omega
      refine wpAnyIn_take (i := 1) (v := .int .i64 0) rfl rfl (by kernel_rfl) (by kernel_rfl) (by kernel_rfl) (fun _ _ _ h => h) ⟨Or.inl ⟨by rfl, ?_⟩, fun _ => rfl⟩ ?_
      · intro w
        go_simp
      refine wpAnyIn_take (i := 2) (v := .pointer (some ⟨w1.heap.size, 0, none⟩)) rfl rfl (by kernel_rfl) (by kernel_rfl) (by kernel_rfl) (fun _ _ _ h => h) ⟨Or.inl ⟨by rfl, ?_⟩, fun _ => rfl⟩ ?_
      · intro w
        go_simp
      refine wpAnyIn_take (i := 4) (v := .int .i64 1) rfl rfl (by kernel_rfl) (by kernel_rfl) (by kernel_rfl) (fun _ _ _ h => h) ⟨Or.inl ⟨by rfl, ?_⟩, fun _ => rfl⟩ ?_
      · intro w
        go_simp
      refine wpAnyIn_ready (rs := [0, 3]) (by kernel_rfl) (by simp) ?_
      refine AllReadyIn.cons rfl (fun K hK => ?_) ?_
      · go_simp
        refine hK _ _ ?_
        clear hK K
        refine wpAnyIn_ready (rs := [3]) (by kernel_rfl) (by simp) ?_
        refine AllReadyIn.cons rfl (fun K hK => ?_) ?_
        · go_simp
          refine hK _ _ ?_
          clear hK K
          refine wpAnyIn_ready (rs := [5]) (by kernel_rfl) (by simp) ?_
          refine AllReadyIn.cons rfl (fun K hK => ?_) ?_
          · go_simp
            refine ⟨trivial, ?_⟩
            refine ((callsIn_wide (n := 6)).2 hP.out).mono ?_
            rintro e w6 ⟨rfl, hq, hb6⟩
            have hbW : Below W.heap.size W w6 := (Below.refl W.heap.size W).drew.trans hb6
            have hr6 := hr'.later hbW
            have hx6 := bcell hbW hlW hc
            have hfx := bfrozen hbW hlW hf
            have q0 : w6.cell? ⟨W.heap.size, 0, none⟩ = some (.int .u8 (byteOf (x 0) 1 0)) := row_cell hq (i := 0) rfl
            have z0 := hr6.at (j := 0) (v := 0) rfl
            have y0 := hr6.open 0
            refine hK _ _ ?_
            clear hK K
            refine wpAnyIn_ready (rs := [6]) (by kernel_rfl) (by simp) ?_
            refine AllReadyIn.cons rfl (fun K hK => ?_) ?_
            · go_simp
              refine hK _ _ ?_
              clear hK K
              refine wpAnyIn_ready (rs := [7]) (by kernel_rfl) (by simp) ?_
              refine AllReadyIn.cons rfl (fun K hK => ?_) ?_
              · go_simp
                refine hK _ _ ?_
                clear hK K
                refine wpAnyIn_done (by kernel_rfl) ?_ _
                gi_wp2
                refine ⟨(keeps_of_below hbW).trans ((((KeepsOthers.setCell _ _ _).trans (KeepsOthers.setCell _ _ _))).from _), (boxed_far (show Boxed w6 (w3.heap.size + 1) 22 _ from (hbW.block _ hlW).trans hv') (by omega) 0 _).set _, (((hn.later (Nat.lt_of_lt_of_le (by omega) (Nat.le_refl _)) hbW).other _ 0 _ (by omega)).other _ 0 _ (by omega)), ?_, ?_⟩
                · exact ((hr6.set 0 (byteOf (x 0) 1 0)).far (by omega)).like rfl
                · exact (((hB.trans (hbW.mono hB.size)).setCell hA1 _).setCell hA2 _)
              exact AllReadyIn.nil
            exact AllReadyIn.nil
          exact AllReadyIn.nil
        exact AllReadyIn.nil
      refine AllReadyIn.cons rfl (fun K hK => ?_) ?_
      · go_simp
        refine hK _ _ ?_
        clear hK K
        refine wpAnyIn_ready (rs := [0, 5]) (by kernel_rfl) (by simp) ?_
        refine AllReadyIn.cons rfl (fun K hK => ?_) ?_
        · go_simp
          refine hK _ _ ?_
          clear hK K
          refine wpAnyIn_ready (rs := [5]) (by kernel_rfl) (by simp) ?_
          refine AllReadyIn.cons rfl (fun K hK => ?_) ?_
          · go_simp
            refine ⟨trivial, ?_⟩
            refine ((callsIn_wide (n := 6)).2 hP.out).mono ?_
            rintro e w6 ⟨rfl, hq, hb6⟩
            have hbW : Below W.heap.size W w6 := (Below.refl W.heap.size W).drew.trans hb6
            have hr6 := hr'.later hbW
            have hx6 := bcell hbW hlW hc
            have hfx := bfrozen hbW hlW hf
            have q0 : w6.cell? ⟨W.heap.size, 0, none⟩ = some (.int .u8 (byteOf (x 0) 1 0)) := row_cell hq (i := 0) rfl
            have z0 := hr6.at (j := 0) (v := 0) rfl
            have y0 := hr6.open 0
            refine hK _ _ ?_
            clear hK K
            refine wpAnyIn_ready (rs := [6]) (by kernel_rfl) (by simp) ?_
            refine AllReadyIn.cons rfl (fun K hK => ?_) ?_
            · go_simp
              refine hK _ _ ?_
              clear hK K
              refine wpAnyIn_ready (rs := [7]) (by kernel_rfl) (by simp) ?_
              refine AllReadyIn.cons rfl (fun K hK => ?_) ?_
              · go_simp
                refine hK _ _ ?_
                clear hK K
                refine wpAnyIn_done (by kernel_rfl) ?_ _
                gi_wp2
                refine ⟨(keeps_of_below hbW).trans ((((KeepsOthers.setCell _ _ _).trans (KeepsOthers.setCell _ _ _))).from _), (boxed_far (show Boxed w6 (w3.heap.size + 1) 22 _ from (hbW.block _ hlW).trans hv') (by omega) 0 _).set _, (((hn.later (Nat.lt_of_lt_of_le (by omega) (Nat.le_refl _)) hbW).other _ 0 _ (by omega)).other _ 0 _ (by omega)), ?_, ?_⟩
                · exact ((hr6.set 0 (byteOf (x 0) 1 0)).far (by omega)).like rfl
                · exact (((hB.trans (hbW.mono hB.size)).setCell hA1 _).setCell hA2 _)
              exact AllReadyIn.nil
            exact AllReadyIn.nil
          exact AllReadyIn.nil
        refine AllReadyIn.cons rfl (fun K hK => ?_) ?_
        · go_simp
          refine ⟨trivial, ?_⟩
          refine ((callsIn_wide (n := 6)).2 hP.out).mono ?_
          rintro e w6 ⟨rfl, hq, hb6⟩
          have hbW : Below W.heap.size W w6 := (Below.refl W.heap.size W).drew.trans hb6
          have hr6 := hr'.later hbW
          have hx6 := bcell hbW hlW hc
          have hfx := bfrozen hbW hlW hf
          have q0 : w6.cell? ⟨W.heap.size, 0, none⟩ = some (.int .u8 (byteOf (x 0) 1 0)) := row_cell hq (i := 0) rfl
          have z0 := hr6.at (j := 0) (v := 0) rfl
          have y0 := hr6.open 0
          refine hK _ _ ?_
          clear hK K
          refine wpAnyIn_ready (rs := [0]) (by kernel_rfl) (by simp) ?_
          refine AllReadyIn.cons rfl (fun K hK => ?_) ?_
          · go_simp
            refine hK _ _ ?_
            clear hK K
            refine wpAnyIn_ready (rs := [6]) (by kernel_rfl) (by simp) ?_
            refine AllReadyIn.cons rfl (fun K hK => ?_) ?_
            · go_simp
              refine hK _ _ ?_
              clear hK K
              refine wpAnyIn_ready (rs := [7]) (by kernel_rfl) (by simp) ?_
              refine AllReadyIn.cons rfl (fun K hK => ?_) ?_
              · go_simp
                refine hK _ _ ?_
                clear hK K
                refine wpAnyIn_done (by kernel_rfl) ?_ _
                gi_wp2
                refine ⟨(keeps_of_below hbW).trans ((((KeepsOthers.setCell _ _ _).trans (KeepsOthers.setCell _ _ _))).from _), (boxed_far (show Boxed w6 (w3.heap.size + 1) 22 _ from (hbW.block _ hlW).trans hv') (by omega) 0 _).set _, (((hn.later (Nat.lt_of_lt_of_le (by omega) (Nat.le_refl _)) hbW).other _ 0 _ (by omega)).other _ 0 _ (by omega)), ?_, ?_⟩
                · exact ((hr6.set 0 (byteOf (x 0) 1 0)).far (by omega)).like rfl
                · exact (((hB.trans (hbW.mono hB.size)).setCell hA1 _).setCell hA2 _)
              exact AllReadyIn.nil
            exact AllReadyIn.nil
          exact AllReadyIn.nil
        exact AllReadyIn.nil
      exact AllReadyIn.nil
    · have hv' : Boxed W (w3.heap.size + 1) 22 (.slice (some ⟨w3.heap.size, 0, none⟩) 1 20) := hv
      have hc := hv'.cell
      have hf := hv'.frozen
      obtain ⟨n0, n1⟩ := hn 1 (by omega)
      have hlW : w3.heap.size + 1 < W.heap.size := hv.lt
      have hr' : RowOf w3.heap.size (evB x 1 ++ List.replicate 19 0) W := hr
      have hP := Lib.hid (put_any (x 1) 6 6 W.drew (HX.out 1 (by omega)) (by omega) (.inl rfl))
      simp only [show evP 1 = 1 from rfl, show evW 1 = 6 from rfl]
      clear hv hr
      gi_wp2_with fail
      refine wpIn_region_any hmx ?_
      change wpAnyIn _ _ _ _ _ _ _ _ _ (World.drew _)
      refine any_round rfl (by simp) _ _ _ _ ?_
      have hA1 : w.heap.size ≤ w3.heap.size := by omega
      have hA2 : w.heap.size ≤ w3.heap.size + 1 := by omega
      refine wpAnyIn_take (i := 1) (v := .int .i64 1) rfl rfl (by kernel_rfl) (by kernel_rfl) (by kernel_rfl) (fun _ _ _ h => h) ⟨Or.inl ⟨by rfl, ?_⟩, fun _ => rfl⟩ ?_
      · intro w
        go_simp
      refine wpAnyIn_take (i := 2) (v := .pointer (some ⟨w1.heap.size, 1, none⟩)) rfl rfl (by kernel_rfl) (by kernel_rfl) (by kernel_rfl) (fun _ _ _ h => h) ⟨Or.inl ⟨by rfl, ?_⟩, fun _ => rfl⟩ ?_
      · intro w
        go_simp
      refine wpAnyIn_take (i := 4) (v := .int .i64 6) rfl rfl (by kernel_rfl) (by kernel_rfl) (by kernel_rfl) (fun _ _ _ h => h) ⟨Or.inl ⟨by rfl, ?_⟩, fun _ => rfl⟩ ?_
      · intro w
        go_simp
      refine wpAnyIn_ready (rs := [0, 3]) (by kernel_rfl) (by simp) ?_
      refine AllReadyIn.cons rfl (fun K hK => ?_) ?_
      · go_simp
        refine hK _ _ ?_
        clear hK K
        refine wpAnyIn_ready (rs := [3]) (by kernel_rfl) (by simp) ?_
        refine AllReadyIn.cons rfl (fun K hK => ?_) ?_
        · go_simp
          refine hK _ _ ?_
          clear hK K
          refine wpAnyIn_ready (rs := [5]) (by kernel_rfl) (by simp) ?_
          refine AllReadyIn.cons rfl (fun K hK => ?_) ?_
          · go_simp
            refine ⟨trivial, ?_⟩
            refine ((callsIn_wide (n := 6)).2 hP.out).mono ?_
            rintro e w6 ⟨rfl, hq, hb6⟩
            have hbW : Below W.heap.size W w6 := (Below.refl W.heap.size W).drew.trans hb6
            have hr6 := hr'.later hbW
            have hx6 := bcell hbW hlW hc
            have hfx := bfrozen hbW hlW hf
            have q0 : w6.cell? ⟨W.heap.size, 0, none⟩ = some (.int .u8 (byteOf (x 1) 6 0)) := row_cell hq (i := 0) rfl
            have q1 : w6.cell? ⟨W.heap.size, 1, none⟩ = some (.int .u8 (byteOf (x 1) 6 1)) := row_cell hq (i := 1) rfl
            have q2 : w6.cell? ⟨W.heap.size, 2, none⟩ = some (.int .u8 (byteOf (x 1) 6 2)) := row_cell hq (i := 2) rfl
            have q3 : w6.cell? ⟨W.heap.size, 3, none⟩ = some (.int .u8 (byteOf (x 1) 6 3)) := row_cell hq (i := 3) rfl
            have q4 : w6.cell? ⟨W.heap.size, 4, none⟩ = some (.int .u8 (byteOf (x 1) 6 4)) := row_cell hq (i := 4) rfl
            have q5 : w6.cell? ⟨W.heap.size, 5, none⟩ = some (.int .u8 (byteOf (x 1) 6 5)) := row_cell hq (i := 5) rfl
            have z0 := hr6.at (j := 1) (v := 0) rfl
            have z1 := hr6.at (j := 2) (v := 0) rfl
            have z2 := hr6.at (j := 3) (v := 0) rfl
            have z3 := hr6.at (j := 4) (v := 0) rfl
            have z4 := hr6.at (j := 5) (v := 0) rfl
            have z5 := hr6.at (j := 6) (v := 0) rfl
            have y0 := hr6.open 1
            have y1 := hr6.open 2
            have y2 := hr6.open 3
            have y3 := hr6.open 4
            have y4 := hr6.open 5
            have y5 := hr6.open 6
            refine hK _ _ ?_
            clear hK K
            refine wpAnyIn_ready (rs := [6]) (by kernel_rfl) (by simp) ?_
            refine AllReadyIn.cons rfl (fun K hK => ?_) ?_
            · go_simp
              refine hK _ _ ?_
              clear hK K
              refine wpAnyIn_ready (rs := [7]) (by kernel_rfl) (by simp) ?_
              refine AllReadyIn.cons rfl (fun K hK => ?_) ?_
              · go_simp
                refine hK _ _ ?_
                clear hK K
                refine wpAnyIn_done (by kernel_rfl) ?_ _
                gi_wp2
                refine ⟨(keeps_of_below hbW).trans (((((((((KeepsOthers.setCell _ _ _).trans (KeepsOthers.setCell _ _ _)).trans (KeepsOthers.setCell _ _ _)).trans (KeepsOthers.setCell _ _ _)).trans (KeepsOthers.setCell _ _ _)).trans (KeepsOthers.setCell _ _ _)).trans (KeepsOthers.setCell _ _ _))).from _), (boxed_far (boxed_far (boxed_far (boxed_far (boxed_far (boxed_far (show Boxed w6 (w3.heap.size + 1) 22 _ from (hbW.block _ hlW).trans hv') (by omega) 1 _) (by omega) 2 _) (by omega) 3 _) (by omega) 4 _) (by omega) 5 _) (by omega) 6 _).set _, ((((((((hn.later (Nat.lt_of_lt_of_le (by omega) (Nat.le_refl _)) hbW).other _ 1 _ (by omega)).other _ 2 _ (by omega)).other _ 3 _ (by omega)).other _ 4 _ (by omega)).other _ 5 _ (by omega)).other _ 6 _ (by omega)).other _ 0 _ (by omega)), ?_, ?_⟩
                · exact (((((((hr6.set 1 (byteOf (x 1) 6 0)).set 2 (byteOf (x 1) 6 1)).set 3 (byteOf (x 1) 6 2)).set 4 (byteOf (x 1) 6 3)).set 5 (byteOf (x 1) 6 4)).set 6 (byteOf (x 1) 6 5)).far (by omega)).like rfl
                · exact ((((((((hB.trans (hbW.mono hB.size)).setCell hA1 _).setCell hA1 _).setCell hA1 _).setCell hA1 _).setCell hA1 _).setCell hA1 _).setCell hA2 _)
              exact AllReadyIn.nil
            exact AllReadyIn.nil
          exact AllReadyIn.nil
        exact AllReadyIn.nil
      refine AllReadyIn.cons rfl (fun K hK => ?_) ?_
      · go_simp
        refine hK _ _ ?_
        clear hK K
        refine wpAnyIn_ready (rs := [0, 5]) (by kernel_rfl) (by simp) ?_
        refine AllReadyIn.cons rfl (fun K hK => ?_) ?_
        · go_simp
          refine hK _ _ ?_
          clear hK K
          refine wpAnyIn_ready (rs := [5]) (by kernel_rfl) (by simp) ?_
          refine AllReadyIn.cons rfl (fun K hK => ?_) ?_
          · go_simp
            refine ⟨trivial, ?_⟩
            refine ((callsIn_wide (n := 6)).2 hP.out).mono ?_
            rintro e w6 ⟨rfl, hq, hb6⟩
            have hbW : Below W.heap.size W w6 := (Below.refl W.heap.size W).drew.trans hb6
            have hr6 := hr'.later hbW
            have hx6 := bcell hbW hlW hc
            have hfx := bfrozen hbW hlW hf
            have q0 : w6.cell? ⟨W.heap.size, 0, none⟩ = some (.int .u8 (byteOf (x 1) 6 0)) := row_cell hq (i := 0) rfl
            have q1 : w6.cell? ⟨W.heap.size, 1, none⟩ = some (.int .u8 (byteOf (x 1) 6 1)) := row_cell hq (i := 1) rfl
            have q2 : w6.cell? ⟨W.heap.size, 2, none⟩ = some (.int .u8 (byteOf (x 1) 6 2)) := row_cell hq (i := 2) rfl
            have q3 : w6.cell? ⟨W.heap.size, 3, none⟩ = some (.int .u8 (byteOf (x 1) 6 3)) := row_cell hq (i := 3) rfl
            have q4 : w6.cell? ⟨W.heap.size, 4, none⟩ = some (.int .u8 (byteOf (x 1) 6 4)) := row_cell hq (i := 4) rfl
            have q5 : w6.cell? ⟨W.heap.size, 5, none⟩ = some (.int .u8 (byteOf (x 1) 6 5)) := row_cell hq (i := 5) rfl
            have z0 := hr6.at (j := 1) (v := 0) rfl
            have z1 := hr6.at (j := 2) (v := 0) rfl
            have z2 := hr6.at (j := 3) (v := 0) rfl
            have z3 := hr6.at (j := 4) (v := 0) rfl
            have z4 := hr6.at (j := 5) (v := 0) rfl
            have z5 := hr6.at (j := 6) (v := 0) rfl
            have y0 := hr6.open 1
            have y1 := hr6.open 2
            have y2 := hr6.open 3
            have y3 := hr6.open 4
            have y4 := hr6.open 5
            have y5 := hr6.open 6
            refine hK _ _ ?_
            clear hK K
            refine wpAnyIn_ready (rs := [6]) (by kernel_rfl) (by simp) ?_
            refine AllReadyIn.cons rfl (fun K hK => ?_) ?_
            · go_simp
              refine hK _ _ ?_
              clear hK K
              refine wpAnyIn_ready (rs := [7]) (by kernel_rfl) (by simp) ?_
              refine AllReadyIn.cons rfl (fun K hK => ?_) ?_
              · go_simp
                refine hK _ _ ?_
                clear hK K
                refine wpAnyIn_done (by kernel_rfl) ?_ _
                gi_wp2
                refine ⟨(keeps_of_below hbW).trans (((((((((KeepsOthers.setCell _ _ _).trans (KeepsOthers.setCell _ _ _)).trans (KeepsOthers.setCell _ _ _)).trans (KeepsOthers.setCell _ _ _)).trans (KeepsOthers.setCell _ _ _)).trans (KeepsOthers.setCell _ _ _)).trans (KeepsOthers.setCell _ _ _))).from _), (boxed_far (boxed_far (boxed_far (boxed_far (boxed_far (boxed_far (show Boxed w6 (w3.heap.size + 1) 22 _ from (hbW.block _ hlW).trans hv') (by omega) 1 _) (by omega) 2 _) (by omega) 3 _) (by omega) 4 _) (by omega) 5 _) (by omega) 6 _).set _, ((((((((hn.later (Nat.lt_of_lt_of_le (by omega) (Nat.le_refl _)) hbW).other _ 1 _ (by omega)).other _ 2 _ (by omega)).other _ 3 _ (by omega)).other _ 4 _ (by omega)).other _ 5 _ (by omega)).other _ 6 _ (by omega)).other _ 0 _ (by omega)), ?_, ?_⟩
                · exact (((((((hr6.set 1 (byteOf (x 1) 6 0)).set 2 (byteOf (x 1) 6 1)).set 3 (byteOf (x 1) 6 2)).set 4 (byteOf (x 1) 6 3)).set 5 (byteOf (x 1) 6 4)).set 6 (byteOf (x 1) 6 5)).far (by omega)).like rfl
                · exact ((((((((hB.trans (hbW.mono hB.size)).setCell hA1 _).setCell hA1 _).setCell hA1 _).setCell hA1 _).setCell hA1 _).setCell hA1 _).setCell hA2 _)
              exact AllReadyIn.nil
            exact AllReadyIn.nil
          exact AllReadyIn.nil
        refine AllReadyIn.cons rfl (fun K hK => ?_) ?_
        · go_simp
          refine ⟨trivial, ?_⟩
          refine ((callsIn_wide (n := 6)).2 hP.out).mono ?_
          rintro e w6 ⟨rfl, hq, hb6⟩
          have hbW : Below W.heap.size W w6 := (Below.refl W.heap.size W).drew.trans hb6
          have hr6 := hr'.later hbW
          have hx6 := bcell hbW hlW hc
          have hfx := bfrozen hbW hlW hf
          have q0 : w6.cell? ⟨W.heap.size, 0, none⟩ = some (.int .u8 (byteOf (x 1) 6 0)) := row_cell hq (i := 0) rfl
          have q1 : w6.cell? ⟨W.heap.size, 1, none⟩ = some (.int .u8 (byteOf (x 1) 6 1)) := row_cell hq (i := 1) rfl
          have q2 : w6.cell? ⟨W.heap.size, 2, none⟩ = some (.int .u8 (byteOf (x 1) 6 2)) := row_cell hq (i := 2) rfl
          have q3 : w6.cell? ⟨W.heap.size, 3, none⟩ = some (.int .u8 (byteOf (x 1) 6 3)) := row_cell hq (i := 3) rfl
          have q4 : w6.cell? ⟨W.heap.size, 4, none⟩ = some (.int .u8 (byteOf (x 1) 6 4)) := row_cell hq (i := 4) rfl
          have q5 : w6.cell? ⟨W.heap.size, 5, none⟩ = some (.int .u8 (byteOf (x 1) 6 5)) := row_cell hq (i := 5) rfl
          have z0 := hr6.at (j := 1) (v := 0) rfl
          have z1 := hr6.at (j := 2) (v := 0) rfl
          have z2 := hr6.at (j := 3) (v := 0) rfl
          have z3 := hr6.at (j := 4) (v := 0) rfl
          have z4 := hr6.at (j := 5) (v := 0) rfl
          have z5 := hr6.at (j := 6) (v := 0) rfl
          have y0 := hr6.open 1
          have y1 := hr6.open 2
          have y2 := hr6.open 3
          have y3 := hr6.open 4
          have y4 := hr6.open 5
          have y5 := hr6.open 6
          refine hK _ _ ?_
          clear hK K
          refine wpAnyIn_ready (rs := [0]) (by kernel_rfl) (by simp) ?_
          refine AllReadyIn.cons rfl (fun K hK => ?_) ?_
          · go_simp
            refine hK _ _ ?_
            clear hK K
            refine wpAnyIn_ready (rs := [6]) (by kernel_rfl) (by simp) ?_
            refine AllReadyIn.cons rfl (fun K hK => ?_) ?_
            · go_simp
              refine hK _ _ ?_
              clear hK K
              refine wpAnyIn_ready (rs := [7]) (by kernel_rfl) (by simp) ?_
              refine AllReadyIn.cons rfl (fun K hK => ?_) ?_
              · go_simp
                refine hK _ _ ?_
                clear hK K
                refine wpAnyIn_done (by kernel_rfl) ?_ _
                gi_wp2
                refine ⟨(keeps_of_below hbW).trans (((((((((KeepsOthers.setCell _ _ _).trans (KeepsOthers.setCell _ _ _)).trans (KeepsOthers.setCell _ _ _)).trans (KeepsOthers.setCell _ _ _)).trans (KeepsOthers.setCell _ _ _)).trans (KeepsOthers.setCell _ _ _)).trans (KeepsOthers.setCell _ _ _))).from _), (boxed_far (boxed_far (boxed_far (boxed_far (boxed_far (boxed_far (show Boxed w6 (w3.heap.size + 1) 22 _ from (hbW.block _ hlW).trans hv') (by omega) 1 _) (by omega) 2 _) (by omega) 3 _) (by omega) 4 _) (by omega) 5 _) (by omega) 6 _).set _, ((((((((hn.later (Nat.lt_of_lt_of_le (by omega) (Nat.le_refl _)) hbW).other _ 1 _ (by omega)).other _ 2 _ (by omega)).other _ 3 _ (by omega)).other _ 4 _ (by omega)).other _ 5 _ (by omega)).other _ 6 _ (by omega)).other _ 0 _ (by omega)), ?_, ?_⟩
                · exact (((((((hr6.set 1 (byteOf (x 1) 6 0)).set 2 (byteOf (x 1) 6 1)).set 3 (byteOf (x 1) 6 2)).set 4 (byteOf (x 1) 6 3)).set 5 (byteOf (x 1) 6 4)).set 6 (byteOf (x 1) 6 5)).far (by omega)).like rfl
                · exact ((((((((hB.trans (hbW.mono hB.size)).setCell hA1 _).setCell hA1 _).setCell hA1 _).setCell hA1 _).setCell hA1 _).setCell hA1 _).setCell hA2 _)
              exact AllReadyIn.nil
            exact AllReadyIn.nil
          exact AllReadyIn.nil
        exact AllReadyIn.nil
      exact AllReadyIn.nil
    · have hv' : Boxed W (w3.heap.size + 1) 22 (.slice (some ⟨w3.heap.size, 0, none⟩) 7 20) := hv
      have hc := hv'.cell
      have hf := hv'.frozen
      obtain ⟨n0, n1⟩ := hn 2 (by omega)
      have hlW : w3.heap.size + 1 < W.heap.size := hv.lt
      have hr' : RowOf w3.heap.size (evB x 2 ++ List.replicate 13 0) W := hr
      have hP := Lib.hid (put_any (x 2) 1 1 W.drew (HX.out 2 (by omega)) (by omega) (.inl rfl))
      simp only [show evP 2 = 2 from rfl, show evW 2 = 1 from rfl]
      clear hv hr
      gi_wp2_with fail
      refine wpIn_region_any hmx ?_
      change wpAnyIn _ _ _ _ _ _ _ _ _ (World.drew _)
      refine any_round rfl (by simp) _ _ _ _ ?_
      have hA1 : w.heap.size ≤ w3.heap.size := by omega
      have hA2 : w.heap.size ≤ w3.heap.size + 1 := by omega
      refine wpAnyIn_take (i := 1) (v := .int .i64 2) rfl rfl (by kernel_rfl) (by kernel_rfl) (by kernel_rfl) (fun _ _ _ h => h) ⟨Or.inl ⟨by rfl, ?_⟩, fun _ => rfl⟩ ?_
      · intro w
        go_simp
      refine wpAnyIn_take (i := 2) (v := .pointer (some ⟨w1.heap.size, 2, none⟩)) rfl rfl (by kernel_rfl) (by kernel_rfl) (by kernel_rfl) (fun _ _ _ h => h) ⟨Or.inl ⟨by rfl, ?_⟩, fun _ => rfl⟩ ?_
      · intro w
        go_simp
      refine wpAnyIn_take (i := 4) (v := .int .i64 1) rfl rfl (by kernel_rfl) (by kernel_rfl) (by kernel_rfl) (fun _ _ _ h => h) ⟨Or.inl ⟨by rfl, ?_⟩, fun _ => rfl⟩ ?_
      · intro w
        go_simp
      refine wpAnyIn_ready (rs := [0, 3]) (by kernel_rfl) (by simp) ?_
      refine AllReadyIn.cons rfl (fun K hK => ?_) ?_
      · go_simp
        refine hK _ _ ?_
        clear hK K
        refine wpAnyIn_ready (rs := [3]) (by kernel_rfl) (by simp) ?_
        refine AllReadyIn.cons rfl (fun K hK => ?_) ?_
        · go_simp
          refine hK _ _ ?_
          clear hK K
          refine wpAnyIn_ready (rs := [5]) (by kernel_rfl) (by simp) ?_
          refine AllReadyIn.cons rfl (fun K hK => ?_) ?_
          · go_simp
            refine ⟨trivial, ?_⟩
            refine ((callsIn_wide (n := 6)).2 hP.out).mono ?_
            rintro e w6 ⟨rfl, hq, hb6⟩
            have hbW : Below W.heap.size W w6 := (Below.refl W.heap.size W).drew.trans hb6
            have hr6 := hr'.later hbW
            have hx6 := bcell hbW hlW hc
            have hfx := bfrozen hbW hlW hf
            have q0 : w6.cell? ⟨W.heap.size, 0, none⟩ = some (.int .u8 (byteOf (x 2) 1 0)) := row_cell hq (i := 0) rfl
            have z0 := hr6.at (j := 7) (v := 0) rfl
            have y0 := hr6.open 7
            refine hK _ _ ?_
            clear hK K
            refine wpAnyIn_ready (rs := [6]) (by kernel_rfl) (by simp) ?_
            refine AllReadyIn.cons rfl (fun K hK => ?_) ?_
            · go_simp
              refine hK _ _ ?_
              clear hK K
              refine wpAnyIn_ready (rs := [7]) (by kernel_rfl) (by simp) ?_
              refine AllReadyIn.cons rfl (fun K hK => ?_) ?_
              · go_simp
                refine hK _ _ ?_
                clear hK K
                refine wpAnyIn_done (by kernel_rfl) ?_ _
                gi_wp2
                refine ⟨(keeps_of_below hbW).trans ((((KeepsOthers.setCell _ _ _).trans (KeepsOthers.setCell _ _ _))).from _), (boxed_far (show Boxed w6 (w3.heap.size + 1) 22 _ from (hbW.block _ hlW).trans hv') (by omega) 7 _).set _, (((hn.later (Nat.lt_of_lt_of_le (by omega) (Nat.le_refl _)) hbW).other _ 7 _ (by omega)).other _ 0 _ (by omega)), ?_, ?_⟩
                · exact ((hr6.set 7 (byteOf (x 2) 1 0)).far (by omega)).like rfl
                · exact (((hB.trans (hbW.mono hB.size)).setCell hA1 _).setCell hA2 _)
              exact AllReadyIn.nil
            exact AllReadyIn.nil
          exact AllReadyIn.nil
        exact AllReadyIn.nil
      refine AllReadyIn.cons rfl (fun K hK => ?_) ?_
      · go_simp
        refine hK _ _ ?_
        clear hK K
        refine wpAnyIn_ready (rs := [0, 5]) (by kernel_rfl) (by simp) ?_
        refine AllReadyIn.cons rfl (fun K hK => ?_) ?_
        · go_simp
          refine hK _ _ ?_
          clear hK K
          refine wpAnyIn_ready (rs := [5]) (by kernel_rfl) (by simp) ?_
          refine AllReadyIn.cons rfl (fun K hK => ?_) ?_
          · go_simp
            refine ⟨trivial, ?_⟩
            refine ((callsIn_wide (n := 6)).2 hP.out).mono ?_
            rintro e w6 ⟨rfl, hq, hb6⟩
            have hbW : Below W.heap.size W w6 := (Below.refl W.heap.size W).drew.trans hb6
            have hr6 := hr'.later hbW
            have hx6 := bcell hbW hlW hc
            have hfx := bfrozen hbW hlW hf
            have q0 : w6.cell? ⟨W.heap.size, 0, none⟩ = some (.int .u8 (byteOf (x 2) 1 0)) := row_cell hq (i := 0) rfl
            have z0 := hr6.at (j := 7) (v := 0) rfl
            have y0 := hr6.open 7
            refine hK _ _ ?_
            clear hK K
            refine wpAnyIn_ready (rs := [6]) (by kernel_rfl) (by simp) ?_
            refine AllReadyIn.cons rfl (fun K hK => ?_) ?_
            · go_simp
              refine hK _ _ ?_
              clear hK K
              refine wpAnyIn_ready (rs := [7]) (by kernel_rfl) (by simp) ?_
              refine AllReadyIn.cons rfl (fun K hK => ?_) ?_
              · go_simp
                refine hK _ _ ?_
                clear hK K
                refine wpAnyIn_done (by kernel_rfl) ?_ _
                gi_wp2
                refine ⟨(keeps_of_below hbW).trans ((((KeepsOthers.setCell _ _ _).trans (KeepsOthers.setCell _ _ _))).from _), (boxed_far (show Boxed w6 (w3.heap.size + 1) 22 _ from (hbW.block _ hlW).trans hv') (by omega) 7 _).set _, (((hn.later (Nat.lt_of_lt_of_le (by omega) (Nat.le_refl _)) hbW).other _ 7 _ (by omega)).other _ 0 _ (by omega)), ?_, ?_⟩
                · exact ((hr6.set 7 (byteOf (x 2) 1 0)).far (by omega)).like rfl
                · exact (((hB.trans (hbW.mono hB.size)).setCell hA1 _).setCell hA2 _)
              exact AllReadyIn.nil
            exact AllReadyIn.nil
          exact AllReadyIn.nil
        refine AllReadyIn.cons rfl (fun K hK => ?_) ?_
        · go_simp
          refine ⟨trivial, ?_⟩
          refine ((callsIn_wide (n := 6)).2 hP.out).mono ?_
          rintro e w6 ⟨rfl, hq, hb6⟩
          have hbW : Below W.heap.size W w6 := (Below.refl W.heap.size W).drew.trans hb6
          have hr6 := hr'.later hbW
          have hx6 := bcell hbW hlW hc
          have hfx := bfrozen hbW hlW hf
          have q0 : w6.cell? ⟨W.heap.size, 0, none⟩ = some (.int .u8 (byteOf (x 2) 1 0)) := row_cell hq (i := 0) rfl
          have z0 := hr6.at (j := 7) (v := 0) rfl
          have y0 := hr6.open 7
          refine hK _ _ ?_
          clear hK K
          refine wpAnyIn_ready (rs := [0]) (by kernel_rfl) (by simp) ?_
          refine AllReadyIn.cons rfl (fun K hK => ?_) ?_
          · go_simp
            refine hK _ _ ?_
            clear hK K
            refine wpAnyIn_ready (rs := [6]) (by kernel_rfl) (by simp) ?_
            refine AllReadyIn.cons rfl (fun K hK => ?_) ?_
            · go_simp
              refine hK _ _ ?_
              clear hK K
              refine wpAnyIn_ready (rs := [7]) (by kernel_rfl) (by simp) ?_
              refine AllReadyIn.cons rfl (fun K hK => ?_) ?_
              · go_simp
                refine hK _ _ ?_
                clear hK K
                refine wpAnyIn_done (by kernel_rfl) ?_ _
                gi_wp2
                refine ⟨(keeps_of_below hbW).trans ((((KeepsOthers.setCell _ _ _).trans (KeepsOthers.setCell _ _ _))).from _), (boxed_far (show Boxed w6 (w3.heap.size + 1) 22 _ from (hbW.block _ hlW).trans hv') (by omega) 7 _).set _, (((hn.later (Nat.lt_of_lt_of_le (by omega) (Nat.le_refl _)) hbW).other _ 7 _ (by omega)).other _ 0 _ (by omega)), ?_, ?_⟩
                · exact ((hr6.set 7 (byteOf (x 2) 1 0)).far (by omega)).like rfl
                · exact (((hB.trans (hbW.mono hB.size)).setCell hA1 _).setCell hA2 _)
              exact AllReadyIn.nil
            exact AllReadyIn.nil
          exact AllReadyIn.nil
        exact AllReadyIn.nil
      exact AllReadyIn.nil
    · have hv' : Boxed W (w3.heap.size + 1) 22 (.slice (some ⟨w3.heap.size, 0, none⟩) 8 20) := hv
      have hc := hv'.cell
      have hf := hv'.frozen
      obtain ⟨n0, n1⟩ := hn 3 (by omega)
      have hlW : w3.heap.size + 1 < W.heap.size := hv.lt
      have hr' : RowOf w3.heap.size (evB x 3 ++ List.replicate 12 0) W := hr
      have hP := Lib.hid (put_any (x 3) 3 3 W.drew (HX.out 3 (by omega)) (by omega) (.inl rfl))
      simp only [show evP 3 = 3 from rfl, show evW 3 = 3 from rfl]
      clear hv hr
      gi_wp2_with fail
      refine wpIn_region_any hmx ?_
      change wpAnyIn _ _ _ _ _ _ _ _ _ (World.drew _)
      refine any_round rfl (by simp) _ _ _ _ ?_
      have hA1 : w.heap.size ≤ w3.heap.size := by omega
      have hA2 : w.heap.size ≤ w3.heap.size + 1 := by omega
      refine wpAnyIn_take (i := 1) (v := .int .i64 3) rfl rfl (by kernel_rfl) (by kernel_rfl) (by kernel_rfl) (fun _ _ _ h => h) ⟨Or.inl ⟨by rfl, ?_⟩, fun _ => rfl⟩ ?_
      · intro w
        go_simp
      refine wpAnyIn_take (i := 2) (v := .pointer (some ⟨w1.heap.size, 3, none⟩)) rfl rfl (by kernel_rfl) (by kernel_rfl) (by kernel_rfl) (fun _ _ _ h => h) ⟨Or.inl ⟨by rfl, ?_⟩, fun _ => rfl⟩ ?_
      · intro w
        go_simp
      refine wpAnyIn_take (i := 4) (v := .int .i64 3) rfl rfl (by kernel_rfl) (by kernel_rfl) (by kernel_rfl) (fun _ _ _ h => h) ⟨Or.inl ⟨by rfl, ?_⟩, fun _ => rfl⟩ ?_
      · intro w
        go_simp
      refine wpAnyIn_ready (rs := [0, 3]) (by kernel_rfl) (by simp) ?_
      refine AllReadyIn.cons rfl (fun K hK => ?_) ?_
      · go_simp
        refine hK _ _ ?_
        clear hK K
        refine wpAnyIn_ready (rs := [3]) (by kernel_rfl) (by simp) ?_
        refine AllReadyIn.cons rfl (fun K hK => ?_) ?_
        · go_simp
          refine hK _ _ ?_
          clear hK K
          refine wpAnyIn_ready (rs := [5]) (by kernel_rfl) (by simp) ?_
          refine AllReadyIn.cons rfl (fun K hK => ?_) ?_
          · go_simp
            refine ⟨trivial, ?_⟩
            refine ((callsIn_wide (n := 6)).2 hP.out).mono ?_
            rintro e w6 ⟨rfl, hq, hb6⟩
            have hbW : Below W.heap.size W w6 := (Below.refl W.heap.size W).drew.trans hb6
            have hr6 := hr'.later hbW
            have hx6 := bcell hbW hlW hc
            have hfx := bfrozen hbW hlW hf
            have q0 : w6.cell? ⟨W.heap.size, 0, none⟩ = some (.int .u8 (byteOf (x 3) 3 0)) := row_cell hq (i := 0) rfl
            have q1 : w6.cell? ⟨W.heap.size, 1, none⟩ = some (.int .u8 (byteOf (x 3) 3 1)) := row_cell hq (i := 1) rfl
            have q2 : w6.cell? ⟨W.heap.size, 2, none⟩ = some (.int .u8 (byteOf (x 3) 3 2)) := row_cell hq (i := 2) rfl
            have z0 := hr6.at (j := 8) (v := 0) rfl
            have z1 := hr6.at (j := 9) (v := 0) rfl
            have z2 := hr6.at (j := 10) (v := 0) rfl
            have y0 := hr6.open 8
            have y1 := hr6.open 9
            have y2 := hr6.open 10
            refine hK _ _ ?_
            clear hK K
            refine wpAnyIn_ready (rs := [6]) (by kernel_rfl) (by simp) ?_
            refine AllReadyIn.cons rfl (fun K hK => ?_) ?_
            · go_simp
              refine hK _ _ ?_
              clear hK K
              refine wpAnyIn_ready (rs := [7]) (by kernel_rfl) (by simp) ?_
              refine AllReadyIn.cons rfl (fun K hK => ?_) ?_
              · go_simp
                refine hK _ _ ?_
                clear hK K
                refine wpAnyIn_done (by kernel_rfl) ?_ _
                gi_wp2
                refine ⟨(keeps_of_below hbW).trans ((((((KeepsOthers.setCell _ _ _).trans (KeepsOthers.setCell _ _ _)).trans (KeepsOthers.setCell _ _ _)).trans (KeepsOthers.setCell _ _ _))).from _), (boxed_far (boxed_far (boxed_far (show Boxed w6 (w3.heap.size + 1) 22 _ from (hbW.block _ hlW).trans hv') (by omega) 8 _) (by omega) 9 _) (by omega) 10 _).set _, (((((hn.later (Nat.lt_of_lt_of_le (by omega) (Nat.le_refl _)) hbW).other _ 8 _ (by omega)).other _ 9 _ (by omega)).other _ 10 _ (by omega)).other _ 0 _ (by omega)), ?_, ?_⟩
                · exact ((((hr6.set 8 (byteOf (x 3) 3 0)).set 9 (byteOf (x 3) 3 1)).set 10 (byteOf (x 3) 3 2)).far (by omega)).like rfl
                · exact (((((hB.trans (hbW.mono hB.size)).setCell hA1 _).setCell hA1 _).setCell hA1 _).setCell hA2 _)
              exact AllReadyIn.nil
            exact AllReadyIn.nil
          exact AllReadyIn.nil
        exact AllReadyIn.nil
      refine AllReadyIn.cons rfl (fun K hK => ?_) ?_
      · go_simp
        refine hK _ _ ?_
        clear hK K
        refine wpAnyIn_ready (rs := [0, 5]) (by kernel_rfl) (by simp) ?_
        refine AllReadyIn.cons rfl (fun K hK => ?_) ?_
        · go_simp
          refine hK _ _ ?_
          clear hK K
          refine wpAnyIn_ready (rs := [5]) (by kernel_rfl) (by simp) ?_
          refine AllReadyIn.cons rfl (fun K hK => ?_) ?_
          · go_simp
            refine ⟨trivial, ?_⟩
            refine ((callsIn_wide (n := 6)).2 hP.out).mono ?_
            rintro e w6 ⟨rfl, hq, hb6⟩
            have hbW : Below W.heap.size W w6 := (Below.refl W.heap.size W).drew.trans hb6
            have hr6 := hr'.later hbW
            have hx6 := bcell hbW hlW hc
            have hfx := bfrozen hbW hlW hf
            have q0 : w6.cell? ⟨W.heap.size, 0, none⟩ = some (.int .u8 (byteOf (x 3) 3 0)) := row_cell hq (i := 0) rfl
            have q1 : w6.cell? ⟨W.heap.size, 1, none⟩ = some (.int .u8 (byteOf (x 3) 3 1)) := row_cell hq (i := 1) rfl
            have q2 : w6.cell? ⟨W.heap.size, 2, none⟩ = some (.int .u8 (byteOf (x 3) 3 2)) := row_cell hq (i := 2) rfl
            have z0 := hr6.at (j := 8) (v := 0) rfl
            have z1 := hr6.at (j := 9) (v := 0) rfl
            have z2 := hr6.at (j := 10) (v := 0) rfl
            have y0 := hr6.open 8
            have y1 := hr6.open 9
            have y2 := hr6.open 10
            refine hK _ _ ?_
            clear hK K
            refine wpAnyIn_ready (rs := [6]) (by kernel_rfl) (by simp) ?_
            refine AllReadyIn.cons rfl (fun K hK => ?_) ?_
            · go_simp
              refine hK _ _ ?_
              clear hK K
              refine wpAnyIn_ready (rs := [7]) (by kernel_rfl) (by simp) ?_
              refine AllReadyIn.cons rfl (fun K hK => ?_) ?_
              · go_simp
                refine hK _ _ ?_
                clear hK K
                refine wpAnyIn_done (by kernel_rfl) ?_ _
                gi_wp2
                refine ⟨(keeps_of_below hbW).trans ((((((KeepsOthers.setCell _ _ _).trans (KeepsOthers.setCell _ _ _)).trans (KeepsOthers.setCell _ _ _)).trans (KeepsOthers.setCell _ _ _))).from _), (boxed_far (boxed_far (boxed_far (show Boxed w6 (w3.heap.size + 1) 22 _ from (hbW.block _ hlW).trans hv') (by omega) 8 _) (by omega) 9 _) (by omega) 10 _).set _, (((((hn.later (Nat.lt_of_lt_of_le (by omega) (Nat.le_refl _)) hbW).other _ 8 _ (by omega)).other _ 9 _ (by omega)).other _ 10 _ (by omega)).other _ 0 _ (by omega)), ?_, ?_⟩
                · exact ((((hr6.set 8 (byteOf (x 3) 3 0)).set 9 (byteOf (x 3) 3 1)).set 10 (byteOf (x 3) 3 2)).far (by omega)).like rfl
                · exact (((((hB.trans (hbW.mono hB.size)).setCell hA1 _).setCell hA1 _).setCell hA1 _).setCell hA2 _)
              exact AllReadyIn.nil
            exact AllReadyIn.nil
          exact AllReadyIn.nil
        refine AllReadyIn.cons rfl (fun K hK => ?_) ?_
        · go_simp
          refine ⟨trivial, ?_⟩
          refine ((callsIn_wide (n := 6)).2 hP.out).mono ?_
          rintro e w6 ⟨rfl, hq, hb6⟩
          have hbW : Below W.heap.size W w6 := (Below.refl W.heap.size W).drew.trans hb6
          have hr6 := hr'.later hbW
          have hx6 := bcell hbW hlW hc
          have hfx := bfrozen hbW hlW hf
          have q0 : w6.cell? ⟨W.heap.size, 0, none⟩ = some (.int .u8 (byteOf (x 3) 3 0)) := row_cell hq (i := 0) rfl
          have q1 : w6.cell? ⟨W.heap.size, 1, none⟩ = some (.int .u8 (byteOf (x 3) 3 1)) := row_cell hq (i := 1) rfl
          have q2 : w6.cell? ⟨W.heap.size, 2, none⟩ = some (.int .u8 (byteOf (x 3) 3 2)) := row_cell hq (i := 2) rfl
          have z0 := hr6.at (j := 8) (v := 0) rfl
          have z1 := hr6.at (j := 9) (v := 0) rfl
          have z2 := hr6.at (j := 10) (v := 0) rfl
          have y0 := hr6.open 8
          have y1 := hr6.open 9
          have y2 := hr6.open 10
          refine hK _ _ ?_
          clear hK K
          refine wpAnyIn_ready (rs := [0]) (by kernel_rfl) (by simp) ?_
          refine AllReadyIn.cons rfl (fun K hK => ?_) ?_
          · go_simp
            refine hK _ _ ?_
            clear hK K
            refine wpAnyIn_ready (rs := [6]) (by kernel_rfl) (by simp) ?_
            refine AllReadyIn.cons rfl (fun K hK => ?_) ?_
            · go_simp
              refine hK _ _ ?_
              clear hK K
              refine wpAnyIn_ready (rs := [7]) (by kernel_rfl) (by simp) ?_
              refine AllReadyIn.cons rfl (fun K hK => ?_) ?_
              · go_simp
                refine hK _ _ ?_
                clear hK K
                refine wpAnyIn_done (by kernel_rfl) ?_ _
                gi_wp2
                refine ⟨(keeps_of_below hbW).trans ((((((KeepsOthers.setCell _ _ _).trans (KeepsOthers.setCell _ _ _)).trans (KeepsOthers.setCell _ _ _)).trans (KeepsOthers.setCell _ _ _))).from _), (boxed_far (boxed_far (boxed_far (show Boxed w6 (w3.heap.size + 1) 22 _ from (hbW.block _ hlW).trans hv') (by omega) 8 _) (by omega) 9 _) (by omega) 10 _).set _, (((((hn.later (Nat.lt_of_lt_of_le (by omega) (Nat.le_refl _)) hbW).other _ 8 _ (by omega)).other _ 9 _ (by omega)).other _ 10 _ (by omega)).other _ 0 _ (by omega)), ?_, ?_⟩
                · exact ((((hr6.set 8 (byteOf (x 3) 3 0)).set 9 (byteOf (x 3) 3 1)).set 10 (byteOf (x 3) 3 2)).far (by omega)).like rfl
                · exact (((((hB.trans (hbW.mono hB.size)).setCell hA1 _).setCell hA1 _).setCell hA1 _).setCell hA2 _)
              exact AllReadyIn.nil
            exact AllReadyIn.nil
          exact AllReadyIn.nil
        exact AllReadyIn.nil
      exact AllReadyIn.nil
    · have hv' : Boxed W (w3.heap.size + 1) 22 (.slice (some ⟨w3.heap.size, 0, none⟩) 11 20) := hv
      have hc := hv'.cell
      have hf := hv'.frozen
      obtain ⟨n0, n1⟩ := hn 4 (by omega)
      have hlW : w3.heap.size + 1 < W.heap.size := hv.lt
      have hr' : RowOf w3.heap.size (evB x 4 ++ List.replicate 9 0) W := hr
      have hP := Lib.hid (put_any (x 4) 1 1 W.drew (HX.out 4 (by omega)) (by omega) (.inl rfl))
      simp only [show evP 4 = 4 from rfl, show evW 4 = 1 from rfl]
      clear hv hr
      gi_wp2_with fail
      refine wpIn_region_any hmx ?_
      change wpAnyIn _ _ _ _ _ _ _ _ _ (World.drew _)
      refine any_round rfl (by simp) _ _ _ _ ?_
      have hA1 : w.heap.size ≤ w3.heap.size := by omega
      have hA2 : w.heap.size ≤ w3.heap.size + 1 := by omega
      refine wpAnyIn_take (i := 1) (v := .int .i64 4) rfl rfl (by kernel_rfl) (by kernel_rfl) (by kernel_rfl) (fun _ _ _ h => h) ⟨Or.inl ⟨by rfl, ?_⟩, fun _ => rfl⟩ ?_
      · intro w
        go_simp
      refine wpAnyIn_take (i := 2) (v := .pointer (some ⟨w1.heap.size, 4, none⟩)) rfl rfl (by kernel_rfl) (by kernel_rfl) (by kernel_rfl) (fun _ _ _ h => h) ⟨Or.inl ⟨by rfl, ?_⟩, fun _ => rfl⟩ ?_
      · intro w
        go_simp
      refine wpAnyIn_take (i := 4) (v := .int .i64 1) rfl rfl (by kernel_rfl) (by kernel_rfl) (by kernel_rfl) (fun _ _ _ h => h) ⟨Or.inl ⟨by rfl, ?_⟩, fun _ => rfl⟩ ?_
      · intro w
        go_simp
      refine wpAnyIn_ready (rs := [0, 3]) (by kernel_rfl) (by simp) ?_
      refine AllReadyIn.cons rfl (fun K hK => ?_) ?_
      · go_simp
        refine hK _ _ ?_
        clear hK K
        refine wpAnyIn_ready (rs := [3]) (by kernel_rfl) (by simp) ?_
        refine AllReadyIn.cons rfl (fun K hK => ?_) ?_
        · go_simp
          refine hK _ _ ?_
          clear hK K
          refine wpAnyIn_ready (rs := [5]) (by kernel_rfl) (by simp) ?_
          refine AllReadyIn.cons rfl (fun K hK => ?_) ?_
          · go_simp
            refine ⟨trivial, ?_⟩
            refine ((callsIn_wide (n := 6)).2 hP.out).mono ?_
            rintro e w6 ⟨rfl, hq, hb6⟩
            have hbW : Below W.heap.size W w6 := (Below.refl W.heap.size W).drew.trans hb6
            have hr6 := hr'.later hbW
            have hx6 := bcell hbW hlW hc
            have hfx := bfrozen hbW hlW hf
            have q0 : w6.cell? ⟨W.heap.size, 0, none⟩ = some (.int .u8 (byteOf (x 4) 1 0)) := row_cell hq (i := 0) rfl
            have z0 := hr6.at (j := 11) (v := 0) rfl
            have y0 := hr6.open 11
            refine hK _ _ ?_
            clear hK K
            refine wpAnyIn_ready (rs := [6]) (by kernel_rfl) (by simp) ?_
            refine AllReadyIn.cons rfl (fun K hK => ?_) ?_
            · go_simp
              refine hK _ _ ?_
              clear hK K
              refine wpAnyIn_ready (rs := [7]) (by kernel_rfl) (by simp) ?_
              refine AllReadyIn.cons rfl (fun K hK => ?_) ?_
              · go_simp
                refine hK _ _ ?_
                clear hK K
                refine wpAnyIn_done (by kernel_rfl) ?_ _
                gi_wp2
                refine ⟨(keeps_of_below hbW).trans ((((KeepsOthers.setCell _ _ _).trans (KeepsOthers.setCell _ _ _))).from _), (boxed_far (show Boxed w6 (w3.heap.size + 1) 22 _ from (hbW.block _ hlW).trans hv') (by omega) 11 _).set _, (((hn.later (Nat.lt_of_lt_of_le (by omega) (Nat.le_refl _)) hbW).other _ 11 _ (by omega)).other _ 0 _ (by omega)), ?_, ?_⟩
                · exact ((hr6.set 11 (byteOf (x 4) 1 0)).far (by omega)).like rfl
                · exact (((hB.trans (hbW.mono hB.size)).setCell hA1 _).setCell hA2 _)
              exact AllReadyIn.nil
            exact AllReadyIn.nil
          exact AllReadyIn.nil
        exact AllReadyIn.nil
      refine AllReadyIn.cons rfl (fun K hK => ?_) ?_
      · go_simp
        refine hK _ _ ?_
        clear hK K
        refine wpAnyIn_ready (rs := [0, 5]) (by kernel_rfl) (by simp) ?_
        refine AllReadyIn.cons rfl (fun K hK => ?_) ?_
        · go_simp
          refine hK _ _ ?_
          clear hK K
          refine wpAnyIn_ready (rs := [5]) (by kernel_rfl) (by simp) ?_
          refine AllReadyIn.cons rfl (fun K hK => ?_) ?_
          · go_simp
            refine ⟨trivial, ?_⟩
            refine ((callsIn_wide (n := 6)).2 hP.out).mono ?_
            rintro e w6 ⟨rfl, hq, hb6⟩
            have hbW : Below W.heap.size W w6 := (Below.refl W.heap.size W).drew.trans hb6
            have hr6 := hr'.later hbW
            have hx6 := bcell hbW hlW hc
            have hfx := bfrozen hbW hlW hf
            have q0 : w6.cell? ⟨W.heap.size, 0, none⟩ = some (.int .u8 (byteOf (x 4) 1 0)) := row_cell hq (i := 0) rfl
            have z0 := hr6.at (j := 11) (v := 0) rfl
            have y0 := hr6.open 11
            refine hK _ _ ?_
            clear hK K
            refine wpAnyIn_ready (rs := [6]) (by kernel_rfl) (by simp) ?_
            refine AllReadyIn.cons rfl (fun K hK => ?_) ?_
            · go_simp
              refine hK _ _ ?_
              clear hK K
              refine wpAnyIn_ready (rs := [7]) (by kernel_rfl) (by simp) ?_
              refine AllReadyIn.cons rfl (fun K hK => ?_) ?_
              · go_simp
                refine hK _ _ ?_
                clear hK K
                refine wpAnyIn_done (by kernel_rfl) ?_ _
                gi_wp2
                refine ⟨(keeps_of_below hbW).trans ((((KeepsOthers.setCell _ _ _).trans (KeepsOthers.setCell _ _ _))).from _), (boxed_far (show Boxed w6 (w3.heap.size + 1) 22 _ from (hbW.block _ hlW).trans hv') (by omega) 11 _).set _, (((hn.later (Nat.lt_of_lt_of_le (by omega) (Nat.le_refl _)) hbW).other _ 11 _ (by omega)).other _ 0 _ (by omega)), ?_, ?_⟩
                · exact ((hr6.set 11 (byteOf (x 4) 1 0)).far (by omega)).like rfl
                · exact (((hB.trans (hbW.mono hB.size)).setCell hA1 _).setCell hA2 _)
              exact AllReadyIn.nil
            exact AllReadyIn.nil
          exact AllReadyIn.nil
        refine AllReadyIn.cons rfl (fun K hK => ?_) ?_
        · go_simp
          refine ⟨trivial, ?_⟩
          refine ((callsIn_wide (n := 6)).2 hP.out).mono ?_
          rintro e w6 ⟨rfl, hq, hb6⟩
          have hbW : Below W.heap.size W w6 := (Below.refl W.heap.size W).drew.trans hb6
          have hr6 := hr'.later hbW
          have hx6 := bcell hbW hlW hc
          have hfx := bfrozen hbW hlW hf
          have q0 : w6.cell? ⟨W.heap.size, 0, none⟩ = some (.int .u8 (byteOf (x 4) 1 0)) := row_cell hq (i := 0) rfl
          have z0 := hr6.at (j := 11) (v := 0) rfl
          have y0 := hr6.open 11
          refine hK _ _ ?_
          clear hK K
          refine wpAnyIn_ready (rs := [0]) (by kernel_rfl) (by simp) ?_
          refine AllReadyIn.cons rfl (fun K hK => ?_) ?_
          · go_simp
            refine hK _ _ ?_
            clear hK K
            refine wpAnyIn_ready (rs := [6]) (by kernel_rfl) (by simp) ?_
            refine AllReadyIn.cons rfl (fun K hK => ?_) ?_
            · go_simp
              refine hK _ _ ?_
              clear hK K
              refine wpAnyIn_ready (rs := [7]) (by kernel_rfl) (by simp) ?_
              refine AllReadyIn.cons rfl (fun K hK => ?_) ?_
              · go_simp
                refine hK _ _ ?_
                clear hK K
                refine wpAnyIn_done (by kernel_rfl) ?_ _
                gi_wp2
                refine ⟨(keeps_of_below hbW).trans ((((KeepsOthers.setCell _ _ _).trans (KeepsOthers.setCell _ _ _))).from _), (boxed_far (show Boxed w6 (w3.heap.size + 1) 22 _ from (hbW.block _ hlW).trans hv') (by omega) 11 _).set _, (((hn.later (Nat.lt_of_lt_of_le (by omega) (Nat.le_refl _)) hbW).other _ 11 _ (by omega)).other _ 0 _ (by omega)), ?_, ?_⟩
                · exact ((hr6.set 11 (byteOf (x 4) 1 0)).far (by omega)).like rfl
                · exact (((hB.trans (hbW.mono hB.size)).setCell hA1 _).setCell hA2 _)
              exact AllReadyIn.nil
            exact AllReadyIn.nil
          exact AllReadyIn.nil
        exact AllReadyIn.nil
      exact AllReadyIn.nil
    · have hv' : Boxed W (w3.heap.size + 1) 22 (.slice (some ⟨w3.heap.size, 0, none⟩) 12 20) := hv
      have hc := hv'.cell
      have hf := hv'.frozen
      obtain ⟨n0, n1⟩ := hn 5 (by omega)
      have hlW : w3.heap.size + 1 < W.heap.size := hv.lt
      have hr' : RowOf w3.heap.size (evB x 5 ++ List.replicate 8 0) W := hr
      have hP := Lib.hid (put_any (x 5) 4 4 W.drew (HX.out 5 (by omega)) (by omega) (.inl rfl))
      simp only [show evP 5 = 5 from rfl, show evW 5 = 4 from rfl]
      clear hv hr
      gi_wp2_with fail
      refine wpIn_region_any hmx ?_
      change wpAnyIn _ _ _ _ _ _ _ _ _ (World.drew _)
      refine any_round rfl (by simp) _ _ _ _ ?_
      have hA1 : w.heap.size ≤ w3.heap.size := by omega
      have hA2 : w.heap.size ≤ w3.heap.size + 1 := by omega
      refine wpAnyIn_take (i := 1) (v := .int .i64 5) rfl rfl (by kernel_rfl) (by kernel_rfl) (by kernel_rfl) (fun _ _ _ h => h) ⟨Or.inl ⟨by rfl, ?_⟩, fun _ => rfl⟩ ?_
      · intro w
        go_simp
      refine wpAnyIn_take (i := 2) (v := .pointer (some ⟨w1.heap.size, 5, none⟩)) rfl rfl (by kernel_rfl) (by kernel_rfl) (by kernel_rfl) (fun _ _ _ h => h) ⟨Or.inl ⟨by rfl, ?_⟩, fun _ => rfl⟩ ?_
      · intro w
        go_simp
      refine wpAnyIn_take (i := 4) (v := .int .i64 4) rfl rfl (by kernel_rfl) (by kernel_rfl) (by kernel_rfl) (fun _ _ _ h => h) ⟨Or.inl ⟨by rfl, ?_⟩, fun _ => rfl⟩ ?_
      · intro w
        go_simp
      refine wpAnyIn_ready (rs := [0, 3]) (by kernel_rfl) (by simp) ?_
      refine AllReadyIn.cons rfl (fun K hK => ?_) ?_
      · go_simp
        refine hK _ _ ?_
        clear hK K
        refine wpAnyIn_ready (rs := [3]) (by kernel_rfl) (by simp) ?_
        refine AllReadyIn.cons rfl (fun K hK => ?_) ?_
        · go_simp
          refine hK _ _ ?_
          clear hK K
          refine wpAnyIn_ready (rs := [5]) (by kernel_rfl) (by simp) ?_
          refine AllReadyIn.cons rfl (fun K hK => ?_) ?_
          · go_simp
            refine ⟨trivial, ?_⟩
            refine ((callsIn_wide (n := 6)).2 hP.out).mono ?_
            rintro e w6 ⟨rfl, hq, hb6⟩
            have hbW : Below W.heap.size W w6 := (Below.refl W.heap.size W).drew.trans hb6
            have hr6 := hr'.later hbW
            have hx6 := bcell hbW hlW hc
            have hfx := bfrozen hbW hlW hf
            have q0 : w6.cell? ⟨W.heap.size, 0, none⟩ = some (.int .u8 (byteOf (x 5) 4 0)) := row_cell hq (i := 0) rfl
            have q1 : w6.cell? ⟨W.heap.size, 1, none⟩ = some (.int .u8 (byteOf (x 5) 4 1)) := row_cell hq (i := 1) rfl
            have q2 : w6.cell? ⟨W.heap.size, 2, none⟩ = some (.int .u8 (byteOf (x 5) 4 2)) := row_cell hq (i := 2) rfl
            have q3 : w6.cell? ⟨W.heap.size, 3, none⟩ = some (.int .u8 (byteOf (x 5) 4 3)) := row_cell hq (i := 3) rfl
            have z0 := hr6.at (j := 12) (v := 0) rfl
            have z1 := hr6.at (j := 13) (v := 0) rfl
            have z2 := hr6.at (j := 14) (v := 0) rfl
            have z3 := hr6.at (j := 15) (v := 0) rfl
            have y0 := hr6.open 12
            have y1 := hr6.open 13
            have y2 := hr6.open 14
            have y3 := hr6.open 15
            refine hK _ _ ?_
            clear hK K
            refine wpAnyIn_ready (rs := [6]) (by kernel_rfl) (by simp) ?_
            refine AllReadyIn.cons rfl (fun K hK => ?_) ?_
            · go_simp
              refine hK _ _ ?_
              clear hK K
              refine wpAnyIn_ready (rs := [7]) (by kernel_rfl) (by simp) ?_
              refine AllReadyIn.cons rfl (fun K hK => ?_) ?_
              · go_simp
                refine hK _ _ ?_
                clear hK K
                refine wpAnyIn_done (by kernel_rfl) ?_ _
                gi_wp2
                refine ⟨(keeps_of_below hbW).trans (((((((KeepsOthers.setCell _ _ _).trans (KeepsOthers.setCell _ _ _)).trans (KeepsOthers.setCell _ _ _)).trans (KeepsOthers.setCell _ _ _)).trans (KeepsOthers.setCell _ _ _))).from _), (boxed_far (boxed_far (boxed_far (boxed_far (show Boxed w6 (w3.heap.size + 1) 22 _ from (hbW.block _ hlW).trans hv') (by omega) 12 _) (by omega) 13 _) (by omega) 14 _) (by omega) 15 _).set _, ((((((hn.later (Nat.lt_of_lt_of_le (by omega) (Nat.le_refl _)) hbW).other _ 12 _ (by omega)).other _ 13 _ (by omega)).other _ 14 _ (by omega)).other _ 15 _ (by omega)).other _ 0 _ (by omega)), ?_, ?_⟩
                · exact (((((hr6.set 12 (byteOf (x 5) 4 0)).set 13 (byteOf (x 5) 4 1)).set 14 (byteOf (x 5) 4 2)).set 15 (byteOf (x 5) 4 3)).far (by omega)).like rfl
                · exact ((((((hB.trans (hbW.mono hB.size)).setCell hA1 _).setCell hA1 _).setCell hA1 _).setCell hA1 _).setCell hA2 _)
              exact AllReadyIn.nil
            exact AllReadyIn.nil
          exact AllReadyIn.nil
        exact AllReadyIn.nil
      refine AllReadyIn.cons rfl (fun K hK => ?_) ?_
      · go_simp
        refine hK _ _ ?_
        clear hK K
        refine wpAnyIn_ready (rs := [0, 5]) (by kernel_rfl) (by simp) ?_
        refine AllReadyIn.cons rfl (fun K hK => ?_) ?_
        · go_simp
          refine hK _ _ ?_
          clear hK K
          refine wpAnyIn_ready (rs := [5]) (by kernel_rfl) (by simp) ?_
          refine AllReadyIn.cons rfl (fun K hK => ?_) ?_
          · go_simp
            refine ⟨trivial, ?_⟩
            refine ((callsIn_wide (n := 6)).2 hP.out).mono ?_
            rintro e w6 ⟨rfl, hq, hb6⟩
            have hbW : Below W.heap.size W w6 := (Below.refl W.heap.size W).drew.trans hb6
            have hr6 := hr'.later hbW
            have hx6 := bcell hbW hlW hc
            have hfx := bfrozen hbW hlW hf
            have q0 : w6.cell? ⟨W.heap.size, 0, none⟩ = some (.int .u8 (byteOf (x 5) 4 0)) := row_cell hq (i := 0) rfl
            have q1 : w6.cell? ⟨W.heap.size, 1, none⟩ = some (.int .u8 (byteOf (x 5) 4 1)) := row_cell hq (i := 1) rfl
            have q2 : w6.cell? ⟨W.heap.size, 2, none⟩ = some (.int .u8 (byteOf (x 5) 4 2)) := row_cell hq (i := 2) rfl
            have q3 : w6.cell? ⟨W.heap.size, 3, none⟩ = some (.int .u8 (byteOf (x 5) 4 3)) := row_cell hq (i := 3) rfl
            have z0 := hr6.at (j := 12) (v := 0) rfl
            have z1 := hr6.at (j := 13) (v := 0) rfl
            have z2 := hr6.at (j := 14) (v := 0) rfl
            have z3 := hr6.at (j := 15) (v := 0) rfl
            have y0 := hr6.open 12
            have y1 := hr6.open 13
            have y2 := hr6.open 14
            have y3 := hr6.open 15
            refine hK _ _ ?_
            clear hK K
            refine wpAnyIn_ready (rs := [6]) (by kernel_rfl) (by simp) ?_
            refine AllReadyIn.cons rfl (fun K hK => ?_) ?_
            · go_simp
              refine hK _ _ ?_
              clear hK K
              refine wpAnyIn_ready (rs := [7]) (by kernel_rfl) (by simp) ?_
              refine AllReadyIn.cons rfl (fun K hK => ?_) ?_
              · go_simp
                refine hK _ _ ?_
                clear hK K
                refine wpAnyIn_done (by kernel_rfl) ?_ _
                gi_wp2
                refine ⟨(keeps_of_below hbW).trans (((((((KeepsOthers.setCell _ _ _).trans (KeepsOthers.setCell _ _ _)).trans (KeepsOthers.setCell _ _ _)).trans (KeepsOthers.setCell _ _ _)).trans (KeepsOthers.setCell _ _ _))).from _), (boxed_far (boxed_far (boxed_far (boxed_far (show Boxed w6 (w3.heap.size + 1) 22 _ from (hbW.block _ hlW).trans hv') (by omega) 12 _) (by omega) 13 _) (by omega) 14 _) (by omega) 15 _).set _, ((((((hn.later (Nat.lt_of_lt_of_le (by omega) (Nat.le_refl _)) hbW).other _ 12 _ (by omega)).other _ 13 _ (by omega)).other _ 14 _ (by omega)).other _ 15 _ (by omega)).other _ 0 _ (by omega)), ?_, ?_⟩
                · exact (((((hr6.set 12 (byteOf (x 5) 4 0)).set 13 (byteOf (x 5) 4 1)).set 14 (byteOf (x 5) 4 2)).set 15 (byteOf (x 5) 4 3)).far (by omega)).like rfl
                · exact ((((((hB.trans (hbW.mono hB.size)).setCell hA1 _).setCell hA1 _).setCell hA1 _).setCell hA1 _).setCell hA2 _)
              exact AllReadyIn.nil
            exact AllReadyIn.nil
          exact AllReadyIn.nil
        refine AllReadyIn.cons rfl (fun K hK => ?_) ?_
        · go_simp
          refine ⟨trivial, ?_⟩
          refine ((callsIn_wide (n := 6)).2 hP.out).mono ?_
          rintro e w6 ⟨rfl, hq, hb6⟩
          have hbW : Below W.heap.size W w6 := (Below.refl W.heap.size W).drew.trans hb6
          have hr6 := hr'.later hbW
          have hx6 := bcell hbW hlW hc
          have hfx := bfrozen hbW hlW hf
          have q0 : w6.cell? ⟨W.heap.size, 0, none⟩ = some (.int .u8 (byteOf (x 5) 4 0)) := row_cell hq (i := 0) rfl
          have q1 : w6.cell? ⟨W.heap.size, 1, none⟩ = some (.int .u8 (byteOf (x 5) 4 1)) := row_cell hq (i := 1) rfl
          have q2 : w6.cell? ⟨W.heap.size, 2, none⟩ = some (.int .u8 (byteOf (x 5) 4 2)) := row_cell hq (i := 2) rfl
          have q3 : w6.cell? ⟨W.heap.size, 3, none⟩ = some (.int .u8 (byteOf (x 5) 4 3)) := row_cell hq (i := 3) rfl
          have z0 := hr6.at (j := 12) (v := 0) rfl
          have z1 := hr6.at (j := 13) (v := 0) rfl
          have z2 := hr6.at (j := 14) (v := 0) rfl
          have z3 := hr6.at (j := 15) (v := 0) rfl
          have y0 := hr6.open 12
          have y1 := hr6.open 13
          have y2 := hr6.open 14
          have y3 := hr6.open 15
          refine hK _ _ ?_
          clear hK K
          refine wpAnyIn_ready (rs := [0]) (by kernel_rfl) (by simp) ?_
          refine AllReadyIn.cons rfl (fun K hK => ?_) ?_
          · go_simp
            refine hK _ _ ?_
            clear hK K
            refine wpAnyIn_ready (rs := [6]) (by kernel_rfl) (by simp) ?_
            refine AllReadyIn.cons rfl (fun K hK => ?_) ?_
            · go_simp
              refine hK _ _ ?_
              clear hK K
              refine wpAnyIn_ready (rs := [7]) (by kernel_rfl) (by simp) ?_
              refine AllReadyIn.cons rfl (fun K hK => ?_) ?_
              · go_simp
                refine hK _ _ ?_
                clear hK K
                refine wpAnyIn_done (by kernel_rfl) ?_ _
                gi_wp2
                refine ⟨(keeps_of_below hbW).trans (((((((KeepsOthers.setCell _ _ _).trans (KeepsOthers.setCell _ _ _)).trans (KeepsOthers.setCell _ _ _)).trans (KeepsOthers.setCell _ _ _)).trans (KeepsOthers.setCell _ _ _))).from _), (boxed_far (boxed_far (boxed_far (boxed_far (show Boxed w6 (w3.heap.size + 1) 22 _ from (hbW.block _ hlW).trans hv') (by omega) 12 _) (by omega) 13 _) (by omega) 14 _) (by omega) 15 _).set _, ((((((hn.later (Nat.lt_of_lt_of_le (by omega) (Nat.le_refl _)) hbW).other _ 12 _ (by omega)).other _ 13 _ (by omega)).other _ 14 _ (by omega)).other _ 15 _ (by omega)).other _ 0 _ (by omega)), ?_, ?_⟩
                · exact (((((hr6.set 12 (byteOf (x 5) 4 0)).set 13 (byteOf (x 5) 4 1)).set 14 (byteOf (x 5) 4 2)).set 15 (byteOf (x 5) 4 3)).far (by omega)).like rfl
                · exact ((((((hB.trans (hbW.mono hB.size)).setCell hA1 _).setCell hA1 _).setCell hA1 _).setCell hA1 _).setCell hA2 _)
              exact AllReadyIn.nil
            exact AllReadyIn.nil
          exact AllReadyIn.nil
        exact AllReadyIn.nil
      exact AllReadyIn.nil
    · have hv' : Boxed W (w3.heap.size + 1) 22 (.slice (some ⟨w3.heap.size, 0, none⟩) 16 20) := hv
      have hc := hv'.cell
      have hf := hv'.frozen
      obtain ⟨n0, n1⟩ := hn 6 (by omega)
      have hlW : w3.heap.size + 1 < W.heap.size := hv.lt
      have hr' : RowOf w3.heap.size (evB x 6 ++ List.replicate 4 0) W := hr
      have hP := Lib.hid (put_any (x 6) 4 4 W.drew (HX.out 6 (by omega)) (by omega) (.inl rfl))
      simp only [show evP 6 = 6 from rfl, show evW 6 = 4 from rfl]
      clear hv hr
      gi_wp2_with fail
      refine wpIn_region_any hmx ?_
      change wpAnyIn _ _ _ _ _ _ _ _ _ (World.drew _)
      refine any_round rfl (by simp) _ _ _ _ ?_
      have hA1 : w.heap.size ≤ w3.heap.size := by omega
      have hA2 : w.heap.size ≤ w3.heap.size + 1 := by omega
      refine wpAnyIn_take (i := 1) (v := .int .i64 6) rfl rfl (by kernel_rfl) (by kernel_rfl) (by kernel_rfl) (fun _ _ _ h => h) ⟨Or.inl ⟨by rfl, ?_⟩, fun _ => rfl⟩ ?_
      · intro w
        go_simp
      refine wpAnyIn_take (i := 2) (v := .pointer (some ⟨w1.heap.size, 6, none⟩)) rfl rfl (by kernel_rfl) (by kernel_rfl) (by kernel_rfl) (fun _ _ _ h => h) ⟨Or.inl ⟨by rfl, ?_⟩, fun _ => rfl⟩ ?_
      · intro w
        go_simp
      refine wpAnyIn_take (i := 4) (v := .int .i64 4) rfl rfl (by kernel_rfl) (by kernel_rfl) (by kernel_rfl) (fun _ _ _ h => h) ⟨Or.inl ⟨by rfl, ?_⟩, fun _ => rfl⟩ ?_
      · intro w
        go_simp
      refine wpAnyIn_ready (rs := [0, 3]) (by kernel_rfl) (by simp) ?_
      refine AllReadyIn.cons rfl (fun K hK => ?_) ?_
      · go_simp
        refine hK _ _ ?_
        clear hK K
        refine wpAnyIn_ready (rs := [3]) (by kernel_rfl) (by simp) ?_
        refine AllReadyIn.cons rfl (fun K hK => ?_) ?_
        · go_simp
          refine hK _ _ ?_
          clear hK K
          refine wpAnyIn_ready (rs := [5]) (by kernel_rfl) (by simp) ?_
          refine AllReadyIn.cons rfl (fun K hK => ?_) ?_
          · go_simp
            refine ⟨trivial, ?_⟩
            refine ((callsIn_wide (n := 6)).2 hP.out).mono ?_
            rintro e w6 ⟨rfl, hq, hb6⟩
            have hbW : Below W.heap.size W w6 := (Below.refl W.heap.size W).drew.trans hb6
            have hr6 := hr'.later hbW
            have hx6 := bcell hbW hlW hc
            have hfx := bfrozen hbW hlW hf
            have q0 : w6.cell? ⟨W.heap.size, 0, none⟩ = some (.int .u8 (byteOf (x 6) 4 0)) := row_cell hq (i := 0) rfl
            have q1 : w6.cell? ⟨W.heap.size, 1, none⟩ = some (.int .u8 (byteOf (x 6) 4 1)) := row_cell hq (i := 1) rfl
            have q2 : w6.cell? ⟨W.heap.size, 2, none⟩ = some (.int .u8 (byteOf (x 6) 4 2)) := row_cell hq (i := 2) rfl
            have q3 : w6.cell? ⟨W.heap.size, 3, none⟩ = some (.int .u8 (byteOf (x 6) 4 3)) := row_cell hq (i := 3) rfl
            have z0 := hr6.at (j := 16) (v := 0) rfl
            have z1 := hr6.at (j := 17) (v := 0) rfl
            have z2 := hr6.at (j := 18) (v := 0) rfl
            have z3 := hr6.at (j := 19) (v := 0) rfl
            have y0 := hr6.open 16
            have y1 := hr6.open 17
            have y2 := hr6.open 18
            have y3 := hr6.open 19
            refine hK _ _ ?_
            clear hK K
            refine wpAnyIn_ready (rs := [6]) (by kernel_rfl) (by simp) ?_
            refine AllReadyIn.cons rfl (fun K hK => ?_) ?_
            · go_simp
              refine hK _ _ ?_
              clear hK K
              refine wpAnyIn_ready (rs := [7]) (by kernel_rfl) (by simp) ?_
              refine AllReadyIn.cons rfl (fun K hK => ?_) ?_
              · go_simp
                refine hK _ _ ?_
                clear hK K
                refine wpAnyIn_done (by kernel_rfl) ?_ _
                gi_wp2
                refine ⟨(keeps_of_below hbW).trans (((((((KeepsOthers.setCell _ _ _).trans (KeepsOthers.setCell _ _ _)).trans (KeepsOthers.setCell _ _ _)).trans (KeepsOthers.setCell _ _ _)).trans (KeepsOthers.setCell _ _ _))).from _), (boxed_far (boxed_far (boxed_far (boxed_far (show Boxed w6 (w3.heap.size + 1) 22 _ from (hbW.block _ hlW).trans hv') (by omega) 16 _) (by omega) 17 _) (by omega) 18 _) (by omega) 19 _).set _, ((((((hn.later (Nat.lt_of_lt_of_le (by omega) (Nat.le_refl _)) hbW).other _ 16 _ (by omega)).other _ 17 _ (by omega)).other _ 18 _ (by omega)).other _ 19 _ (by omega)).other _ 0 _ (by omega)), ?_, ?_⟩
                · exact (((((hr6.set 16 (byteOf (x 6) 4 0)).set 17 (byteOf (x 6) 4 1)).set 18 (byteOf (x 6) 4 2)).set 19 (byteOf (x 6) 4 3)).far (by omega)).like rfl
                · exact ((((((hB.trans (hbW.mono hB.size)).setCell hA1 _).setCell hA1 _).setCell hA1 _).setCell hA1 _).setCell hA2 _)
              exact AllReadyIn.nil
            exact AllReadyIn.nil
          exact AllReadyIn.nil
        exact AllReadyIn.nil
      refine AllReadyIn.cons rfl (fun K hK => ?_) ?_
      · go_simp
        refine hK _ _ ?_
        clear hK K
        refine wpAnyIn_ready (rs := [0, 5]) (by kernel_rfl) (by simp) ?_
        refine AllReadyIn.cons rfl (fun K hK => ?_) ?_
        · go_simp
          refine hK _ _ ?_
          clear hK K
          refine wpAnyIn_ready (rs := [5]) (by kernel_rfl) (by simp) ?_
          refine AllReadyIn.cons rfl (fun K hK => ?_) ?_
          · go_simp
            refine ⟨trivial, ?_⟩
            refine ((callsIn_wide (n := 6)).2 hP.out).mono ?_
            rintro e w6 ⟨rfl, hq, hb6⟩
            have hbW : Below W.heap.size W w6 := (Below.refl W.heap.size W).drew.trans hb6
            have hr6 := hr'.later hbW
            have hx6 := bcell hbW hlW hc
            have hfx := bfrozen hbW hlW hf
            have q0 : w6.cell? ⟨W.heap.size, 0, none⟩ = some (.int .u8 (byteOf (x 6) 4 0)) := row_cell hq (i := 0) rfl
            have q1 : w6.cell? ⟨W.heap.size, 1, none⟩ = some (.int .u8 (byteOf (x 6) 4 1)) := row_cell hq (i := 1) rfl
            have q2 : w6.cell? ⟨W.heap.size, 2, none⟩ = some (.int .u8 (byteOf (x 6) 4 2)) := row_cell hq (i := 2) rfl
            have q3 : w6.cell? ⟨W.heap.size, 3, none⟩ = some (.int .u8 (byteOf (x 6) 4 3)) := row_cell hq (i := 3) rfl
            have z0 := hr6.at (j := 16) (v := 0) rfl
            have z1 := hr6.at (j := 17) (v := 0) rfl
            have z2 := hr6.at (j := 18) (v := 0) rfl
            have z3 := hr6.at (j := 19) (v := 0) rfl
            have y0 := hr6.open 16
            have y1 := hr6.open 17
            have y2 := hr6.open 18
            have y3 := hr6.open 19
            refine hK _ _ ?_
            clear hK K
            refine wpAnyIn_ready (rs := [6]) (by kernel_rfl) (by simp) ?_
            refine AllReadyIn.cons rfl (fun K hK => ?_) ?_
            · go_simp
              refine hK _ _ ?_
              clear hK K
              refine wpAnyIn_ready (rs := [7]) (by kernel_rfl) (by simp) ?_
              refine AllReadyIn.cons rfl (fun K hK => ?_) ?_
              · go_simp
                refine hK _ _ ?_
                clear hK K
                refine wpAnyIn_done (by kernel_rfl) ?_ _
                gi_wp2
                refine ⟨(keeps_of_below hbW).trans (((((((KeepsOthers.setCell _ _ _).trans (KeepsOthers.setCell _ _ _)).trans (KeepsOthers.setCell _ _ _)).trans (KeepsOthers.setCell _ _ _)).trans (KeepsOthers.setCell _ _ _))).from _), (boxed_far (boxed_far (boxed_far (boxed_far (show Boxed w6 (w3.heap.size + 1) 22 _ from (hbW.block _ hlW).trans hv') (by omega) 16 _) (by omega) 17 _) (by omega) 18 _) (by omega) 19 _).set _, ((((((hn.later (Nat.lt_of_lt_of_le (by omega) (Nat.le_refl _)) hbW).other _ 16 _ (by omega)).other _ 17 _ (by omega)).other _ 18 _ (by omega)).other _ 19 _ (by omega)).other _ 0 _ (by omega)), ?_, ?_⟩
                · exact (((((hr6.set 16 (byteOf (x 6) 4 0)).set 17 (byteOf (x 6) 4 1)).set 18 (byteOf (x 6) 4 2)).set 19 (byteOf (x 6) 4 3)).far (by omega)).like rfl
                · exact ((((((hB.trans (hbW.mono hB.size)).setCell hA1 _).setCell hA1 _).setCell hA1 _).setCell hA1 _).setCell hA2 _)
              exact AllReadyIn.nil
            exact AllReadyIn.nil
          exact AllReadyIn.nil
        refine AllReadyIn.cons rfl (fun K hK => ?_) ?_
        · go_simp
          refine ⟨trivial, ?_⟩
          refine ((callsIn_wide (n := 6)).2 hP.out).mono ?_
          rintro e w6 ⟨rfl, hq, hb6⟩
          have hbW : Below W.heap.size W w6 := (Below.refl W.heap.size W).drew.trans hb6
          have hr6 := hr'.later hbW
          have hx6 := bcell hbW hlW hc
          have hfx := bfrozen hbW hlW hf
          have q0 : w6.cell? ⟨W.heap.size, 0, none⟩ = some (.int .u8 (byteOf (x 6) 4 0)) := row_cell hq (i := 0) rfl
          have q1 : w6.cell? ⟨W.heap.size, 1, none⟩ = some (.int .u8 (byteOf (x 6) 4 1)) := row_cell hq (i := 1) rfl
          have q2 : w6.cell? ⟨W.heap.size, 2, none⟩ = some (.int .u8 (byteOf (x 6) 4 2)) := row_cell hq (i := 2) rfl
          have q3 : w6.cell? ⟨W.heap.size, 3, none⟩ = some (.int .u8 (byteOf (x 6) 4 3)) := row_cell hq (i := 3) rfl
          have z0 := hr6.at (j := 16) (v := 0) rfl
          have z1 := hr6.at (j := 17) (v := 0) rfl
          have z2 := hr6.at (j := 18) (v := 0) rfl
          have z3 := hr6.at (j := 19) (v := 0) rfl
          have y0 := hr6.open 16
          have y1 := hr6.open 17
          have y2 := hr6.open 18
          have y3 := hr6.open 19
          refine hK _ _ ?_
          clear hK K
          refine wpAnyIn_ready (rs := [0]) (by kernel_rfl) (by simp) ?_
          refine AllReadyIn.cons rfl (fun K hK => ?_) ?_
          · go_simp
            refine hK _ _ ?_
            clear hK K
            refine wpAnyIn_ready (rs := [6]) (by kernel_rfl) (by simp) ?_
            refine AllReadyIn.cons rfl (fun K hK => ?_) ?_
            · go_simp
              refine hK _ _ ?_
              clear hK K
              refine wpAnyIn_ready (rs := [7]) (by kernel_rfl) (by simp) ?_
              refine AllReadyIn.cons rfl (fun K hK => ?_) ?_
              · go_simp
                refine hK _ _ ?_
                clear hK K
                refine wpAnyIn_done (by kernel_rfl) ?_ _
                gi_wp2
                refine ⟨(keeps_of_below hbW).trans (((((((KeepsOthers.setCell _ _ _).trans (KeepsOthers.setCell _ _ _)).trans (KeepsOthers.setCell _ _ _)).trans (KeepsOthers.setCell _ _ _)).trans (KeepsOthers.setCell _ _ _))).from _), (boxed_far (boxed_far (boxed_far (boxed_far (show Boxed w6 (w3.heap.size + 1) 22 _ from (hbW.block _ hlW).trans hv') (by omega) 16 _) (by omega) 17 _) (by omega) 18 _) (by omega) 19 _).set _, ((((((hn.later (Nat.lt_of_lt_of_le (by omega) (Nat.le_refl _)) hbW).other _ 16 _ (by omega)).other _ 17 _ (by omega)).other _ 18 _ (by omega)).other _ 19 _ (by omega)).other _ 0 _ (by omega)), ?_, ?_⟩
                · exact (((((hr6.set 16 (byteOf (x 6) 4 0)).set 17 (byteOf (x 6) 4 1)).set 18 (byteOf (x 6) 4 2)).set 19 (byteOf (x 6) 4 3)).far (by omega)).like rfl
                · exact ((((((hB.trans (hbW.mono hB.size)).setCell hA1 _).setCell hA1 _).setCell hA1 _).setCell hA1 _).setCell hA2 _)
              exact AllReadyIn.nil
            exact AllReadyIn.nil
          exact AllReadyIn.nil
        exact AllReadyIn.nil
      exact AllReadyIn.nil
  case done =>
    rintro D W hD ⟨hv, hn, hr, hB⟩ hK
    have hc := hv.cell
    have hDw : w.heap.size ≤ D := by omega
    have hRD : w3.heap.size < D := by omega
    clear hn hsz hI bN hb3'
    go_wp2
    have hr2 : RowOf w3.heap.size (evB x 7) (W.putObj D (.deferred none)) := ((World.putObj_heap_other (by omega)).trans hr : _)
    have hlen : (evB x 7).length = 20 := rfl
    refine ⟨by simp, .inl ⟨_, _, rfl, run_takeDeferred hK, ?_⟩⟩
    exact ⟨_, results_tmp rfl _ _ _, w3.heap.size, rfl, hr2.owns (by omega) hlen (by decide), hB.trans (belowK_b (w := w) (Nat.le_refl _) W D _ (.deferred none) hDw hK rfl rfl)⟩
  case stop =>
    rintro D c W _ h _
    exact h.elim
end Go.Proofs.Ytepbjjddpfejnaa
