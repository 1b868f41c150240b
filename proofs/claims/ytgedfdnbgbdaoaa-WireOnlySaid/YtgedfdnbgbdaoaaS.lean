/-
  The standing examples of stage 5 hold: the law's wakes returns true; no condition.
-/
import Derived.Test.YtgedfdnbgbdaoaaR
import Derived.Laws.BytesArg
namespace Go.Proofs.Ytgedfdnbgbdaoaa
open Go.ChangeShapes Go.WideShapes Go.ChangeAt Go.RowKit
set_option linter.unusedVariables false
set_option linter.unusedSimpArgs false
theorem bytes_of_row {W : World} {base g L : Nat} {zs : List Int} (h : W.ownsRow base 5 1 (.slice (some ⟨g, 0, none⟩) L L) L (zs.map (Value.int .u8))) (hl : zs.length = L) (hz : ∀ z ∈ zs, isByte z) : BytesAt g 0 zs W :=
  ⟨(h.lt g rfl).2, fun i hi => by
    rw [Nat.zero_add]
    exact row_cell h (by simp [hi]), hz⟩
theorem conv_bytes {W : World} {blk off cap L : Nat} {zs : List Int} (h : BytesAt blk off zs W) (hl : zs.length = L) : (convert 22 9 (.slice (some ⟨blk, off, none⟩) L cap)).run Try.prog W = .ok (.string (strOfNums zs)) W :=
  run_convert_bytes_arg W 22 5 Try.underlying22 Try.underlying5 blk off L cap zs hl (fun i hi => by
    rw [h.2.1 i (by omega)]
    simp) 9 Try.underlying9
theorem bytes_new (W : World) (zs : List Int) (hz : ∀ z ∈ zs, isByte z) : BytesAt W.heap.size 0 zs (W.alloc (.cells (zs.map (Value.int .u8)).toArray 5)) :=
  ⟨by simp, fun i hi => by
    rw [Nat.zero_add, cell_of_row _ W.heap.size i _ 5 (0, 0) (World.alloc_heap_new W _)]
    simp [hi], hz⟩
theorem NoTake.calls {s : Value} {e : Int} {w : World} (h : NoTake s e w) : Calls Try.prog 5 #[s] w fun r w' => r = .returned (.tuple #[RV 0 0 0 0 0 0 0 0 0, .int .i64 e]) ∧ Below w.heap.size w w' := h
def wakeM : List Int := [2, 3, 0, 0, 0, 0, 1, 2]
def wakeE : List Int := [1, 0, 0, 0, 0, 0, 1, 2, 0, 0, 3, 4, 255, 255, 255, 255, 0, 0, 0, 2]
theorem allBytes (zs : List Int) (h : zs.all (fun z => decide (0 ≤ z) && decide (z < 256)) = true) : ∀ z ∈ zs, isByte z := fun z hz => by
  have := List.all_eq_true.1 h z hz
  simpa [isByte] using this
theorem fl_m1 : floatOfInt .f64 (-1) = 13830554455654793216 := by decide +kernel
theorem fl_2 : floatOfInt .f64 2 = 4611686018427387904 := by decide +kernel
/-- What is kept while the examples are held together. -/
abbrev SW (w : World) (B g1 g2 : Nat) (w' : World) : Prop := B < w'.heap.size ∧ w'.cell? ⟨B, 0, none⟩ = some (.int .u8 2) ∧ w'.cell? ⟨B, 1, none⟩ = some (.int .i64 0) ∧ w'.cell? ⟨B, 2, none⟩ = some (.int .i64 0) ∧ w'.cell? ⟨B, 3, none⟩ = some (.int .i64 0) ∧ w'.cell? ⟨B, 4, none⟩ = some (.int .i64 0) ∧ w'.cell? ⟨B, 5, none⟩ = some (.complex .f64 0 0) ∧ w'.cell? ⟨B, 6, none⟩ = some (.int .i64 3) ∧ w'.cell? ⟨B, 7, none⟩ = some (.int .i64 258) ∧ (convert 22 9 (.slice (some ⟨g1, 0, none⟩) 8 8)).run Try.prog w' = .ok (.string ⟨#[2, 3, 0, 0, 0, 0, 1, 2]⟩) w' ∧ (convert 22 9 (.slice (some ⟨g2, 0, none⟩) 20 20)).run Try.prog w' = .ok (.string ⟨#[1, 0, 0, 0, 0, 0, 1, 2, 0, 0, 3, 4, 255, 255, 255, 255, 0, 0, 0, 2]⟩) w' ∧ BytesAt g1 0 wakeM w' ∧ BytesAt g2 0 wakeE w' ∧ Below w.heap.size w w'
theorem SW.of {w : World} {B g1 g2 : Nat} {w' : World} (hR : RecAt w' B 2 0 0 0 0 0 0 3 258) (h1 : BytesAt g1 0 wakeM w') (h2 : BytesAt g2 0 wakeE w') (hB : Below w.heap.size w w') : SW w B g1 g2 w' :=
  ⟨hR.lt, hR.c0, hR.c1, hR.c2, hR.c3, hR.c4, hR.c5, hR.c6, hR.c7, conv_bytes (L := 8) h1 rfl, conv_bytes (L := 20) h2 rfl, h1, h2, hB⟩
theorem SW.call {w : World} {B g1 g2 : Nat} {W w1 : World} (h : SW w B g1 g2 W) (hb : Below W.heap.size W w1) : SW w B g1 g2 w1 := by
  obtain ⟨l, c0, c1, c2, c3, c4, c5, c6, c7, _, _, h1, h2, hB⟩ := h
  exact SW.of ((RecAt.mk l c0 c1 c2 c3 c4 c5 c6 c7).later hb) (h1.later hb) (h2.later hb) (hB.trans (hb.mono hB.size))
set_option maxRecDepth 100000 in
set_option maxHeartbeats 4000000 in
theorem wakes_any (w : World) : Calls Try.prog 4 #[] w fun e w' => e = .returned (.bool true) ∧ Below w.heap.size w w' := by
  have pE := put_event 1 2 3 4 (-1) 2 rfl rfl rfl rfl rfl rfl
  rw [fl_m1, fl_2, show putL 1 1 ++ putL 1 6 ++ putL 2 1 ++ putL 3 3 ++ putL 4 1 ++ putL (-1) 4 ++ putL 2 4 = wakeE from by decide] at pE
  have pM := put_mark 3 258 rfl rfl
  rw [show putL 2 1 ++ putL 3 1 ++ putL 258 6 = wakeM from by decide] at pM
  have PE := Lib.hid pE
  have PM := Lib.hid pM
  clear pE pM
  go_enter Try.func4, Try.ntmps4
  go_wp2_with fail
  (with_reducible refine (refMark_any _ _ _).mono ?_)
  rintro e w1 ⟨rfl, hb1⟩
  go_wp2_with fail
  (with_reducible refine (PM.out _).mono ?_)
  rintro e w2 ⟨g1, rfl, ho1, hb2⟩
  have hB : Below w.heap.size w w2 := hb1.trans (hb2.mono hb1.size)
  have hA := bytes_of_row ho1 rfl (allBytes wakeM rfl)
  clear hb1 hb2 ho1
  have tM0 := (take_mark g1 0 0 wakeM w2 hA rfl rfl).1 rfl
  rw [show markOf wakeM = RV 2 0 0 0 0 0 0 3 258 from by
    show RV 2 0 0 0 0 0 0 (takeN (ck wakeM 1 1)) (takeN (ck wakeM 2 6)) = _
    rw [show takeN (ck wakeM 1 1) = 3 from by decide, show takeN (ck wakeM 2 6) = 258 from by decide]] at tM0
  have tM := Lib.hid tM0
  clear tM0
  go_wp2_with fail
  (with_reducible refine tM.out.mono ?_)
  rintro e w3 ⟨rfl, hb3⟩
  have hA3 := hA.later hb3
  have hB3 := hB.trans (hb3.mono hB.size)
  clear hA hB hb3 tM
  -- Take of 9
  have hR := RecAt.new w3 2 0 0 0 0 0 0 3 258
  have hn4 : BytesAt (w3.heap.size + 1) 0 [9] ((w3.alloc (.cells #[.int .u8 2, .int .i64 0, .int .i64 0, .int .i64 0, .int .i64 0, .complex .f64 0 0, .int .i64 3, .int .i64 258] 28)).alloc (.cells #[.int .u8 9] 5)) := by
    have h := bytes_new (w3.alloc (.cells #[.int .u8 2, .int .i64 0, .int .i64 0, .int .i64 0, .int .i64 0, .complex .f64 0 0, .int .i64 3, .int .i64 258] 28)) [9] (allBytes [9] rfl)
    rwa [World.size_alloc] at h
  have k4 := Lib.hid (show NoTake (.slice (some ⟨w3.heap.size + 1, 0, none⟩) 1 1) 11 _ from take_kind (w3.heap.size + 1) 0 1 [9] _ hn4 (by decide) rfl rfl)
  have hA4 := hA3.later (((Below.refl _ _).alloc (Nat.le_refl _) (.cells #[.int .u8 2, .int .i64 0, .int .i64 0, .int .i64 0, .int .i64 0, .complex .f64 0 0, .int .i64 3, .int .i64 258] 28)).alloc (by simp) (.cells #[.int .u8 9] 5))
  have hR4 := hR.later ((Below.refl _ _).alloc (Nat.le_refl _) (.cells #[.int .u8 9] 5))
  have hB4 := (hB3.alloc hB3.size (.cells #[.int .u8 2, .int .i64 0, .int .i64 0, .int .i64 0, .int .i64 0, .complex .f64 0 0, .int .i64 3, .int .i64 258] 28)).alloc (by simp; exact Nat.le_succ_of_le hB3.size) (.cells #[.int .u8 9] 5)
  clear hn4 hR hA3
  go_wp2_with fail
  have hl4 : w3.heap.size < ((w3.alloc (.cells #[.int .u8 2, .int .i64 0, .int .i64 0, .int .i64 0, .int .i64 0, .complex .f64 0 0, .int .i64 3, .int .i64 258] 28)).alloc (.cells #[.int .u8 9] 5)).heap.size := by simp; omega
  generalize (w3.alloc (.cells #[.int .u8 2, .int .i64 0, .int .i64 0, .int .i64 0, .int .i64 0, .complex .f64 0 0, .int .i64 3, .int .i64 258] 28)).alloc (.cells #[.int .u8 9] 5) = w4 at *
  (with_reducible refine k4.out.calls.mono ?_)
  rintro e w5 ⟨rfl, hb5⟩
  have hA5 := hA4.later hb5
  have hR5 := hR4.later hb5
  have hB5 := hB4.trans (hb5.mono hB4.size)
  clear hA4 hR4 hB4 hb5 k4
  have k6 := Lib.hid (take_empty none 0 (w5.alloc (.cells #[.int .u8 0, .int .i64 0, .int .i64 0, .int .i64 0, .int .i64 0, .complex .f64 0 0, .int .i64 0, .int .i64 0] 28)))
  have hA6 := hA5.later ((Below.refl _ _).alloc (Nat.le_refl _) (.cells #[.int .u8 0, .int .i64 0, .int .i64 0, .int .i64 0, .int .i64 0, .complex .f64 0 0, .int .i64 0, .int .i64 0] 28))
  have hR6 := hR5.later ((Below.refl _ _).alloc (Nat.le_refl _) (.cells #[.int .u8 0, .int .i64 0, .int .i64 0, .int .i64 0, .int .i64 0, .complex .f64 0 0, .int .i64 0, .int .i64 0] 28))
  have hB6 := hB5.alloc hB5.size (.cells #[.int .u8 0, .int .i64 0, .int .i64 0, .int .i64 0, .int .i64 0, .complex .f64 0 0, .int .i64 0, .int .i64 0] 28)
  clear hA5 hR5 hB5
  go_wp2_with fail
  generalize w5.alloc (.cells #[.int .u8 0, .int .i64 0, .int .i64 0, .int .i64 0, .int .i64 0, .complex .f64 0 0, .int .i64 0, .int .i64 0] 28) = w6 at *
  (with_reducible refine k6.out.calls.mono ?_)
  rintro e w7 ⟨rfl, hb7⟩
  have hA7 := hA6.later hb7
  have hR7 := hR6.later hb7
  have hB7 := hB6.trans (hb7.mono hB6.size)
  clear hA6 hR6 hB6 hb7 k6
  -- Take of 1, 0, 0
  have hn8 : BytesAt (w7.heap.size + 1) 0 [1, 0, 0] ((w7.alloc (.cells #[.int .u8 0, .int .i64 0, .int .i64 0, .int .i64 0, .int .i64 0, .complex .f64 0 0, .int .i64 0, .int .i64 0] 28)).alloc (.cells #[.int .u8 1, .int .u8 0, .int .u8 0] 5)) := by
    have h := bytes_new (w7.alloc (.cells #[.int .u8 0, .int .i64 0, .int .i64 0, .int .i64 0, .int .i64 0, .complex .f64 0 0, .int .i64 0, .int .i64 0] 28)) [1, 0, 0] (allBytes [1, 0, 0] rfl)
    rwa [World.size_alloc] at h
  have k8 := Lib.hid (show NoTake (.slice (some ⟨w7.heap.size + 1, 0, none⟩) 3 3) 50 _ from take_short (w7.heap.size + 1) 0 3 [1, 0, 0] 20 _ hn8 (by decide) size_event rfl (by decide))
  have hA8 := hA7.later (((Below.refl _ _).alloc (Nat.le_refl _) (.cells #[.int .u8 0, .int .i64 0, .int .i64 0, .int .i64 0, .int .i64 0, .complex .f64 0 0, .int .i64 0, .int .i64 0] 28)).alloc (by simp) (.cells #[.int .u8 1, .int .u8 0, .int .u8 0] 5))
  have hR8 := hR7.later (((Below.refl _ _).alloc (Nat.le_refl _) (.cells #[.int .u8 0, .int .i64 0, .int .i64 0, .int .i64 0, .int .i64 0, .complex .f64 0 0, .int .i64 0, .int .i64 0] 28)).alloc (by simp) (.cells #[.int .u8 1, .int .u8 0, .int .u8 0] 5))
  have hB8 := (hB7.alloc hB7.size (.cells #[.int .u8 0, .int .i64 0, .int .i64 0, .int .i64 0, .int .i64 0, .complex .f64 0 0, .int .i64 0, .int .i64 0] 28)).alloc (by simp; exact Nat.le_succ_of_le hB7.size) (.cells #[.int .u8 1, .int .u8 0, .int .u8 0] 5)
  clear hn8 hA7 hR7 hB7
  go_wp2_with fail
  generalize (w7.alloc (.cells #[.int .u8 0, .int .i64 0, .int .i64 0, .int .i64 0, .int .i64 0, .complex .f64 0 0, .int .i64 0, .int .i64 0] 28)).alloc (.cells #[.int .u8 1, .int .u8 0, .int .u8 0] 5) = w8 at *
  (with_reducible refine k8.out.calls.mono ?_)
  rintro e w9 ⟨rfl, hb9⟩
  have hA9 := hA8.later hb9
  have hR9 := hR8.later hb9
  have hB9 := hB8.trans (hb9.mono hB8.size)
  clear hA8 hR8 hB8 hb9 k8
  have hA10 := hA9.later ((Below.refl _ _).alloc (Nat.le_refl _) (.cells #[.int .u8 0, .int .i64 0, .int .i64 0, .int .i64 0, .int .i64 0, .complex .f64 0 0, .int .i64 0, .int .i64 0] 28))
  have hR10 := hR9.later ((Below.refl _ _).alloc (Nat.le_refl _) (.cells #[.int .u8 0, .int .i64 0, .int .i64 0, .int .i64 0, .int .i64 0, .complex .f64 0 0, .int .i64 0, .int .i64 0] 28))
  have hB10 := hB9.alloc hB9.size (.cells #[.int .u8 0, .int .i64 0, .int .i64 0, .int .i64 0, .int .i64 0, .complex .f64 0 0, .int .i64 0, .int .i64 0] 28)
  clear hA9 hR9 hB9
  go_wp2_with fail
  generalize w9.alloc (.cells #[.int .u8 0, .int .i64 0, .int .i64 0, .int .i64 0, .int .i64 0, .complex .f64 0 0, .int .i64 0, .int .i64 0] 28) = w10 at *
  (with_reducible refine (put_nothing _).mono ?_)
  rintro e w11 ⟨rfl, hb11⟩
  have hA11 := hA10.later hb11
  have hR11 := hR10.later hb11
  have hB11 := hB10.trans (hb11.mono hB10.size)
  clear hA10 hR10 hB10 hb11
  go_wp2_with fail
  (with_reducible refine (refOf_any _ _ _ _ _ _ _).mono ?_)
  rintro e w12 ⟨rfl, hb12⟩
  go_wp2_with fail
  (with_reducible refine (PE.out _).mono ?_)
  rintro e w13 ⟨g2, rfl, ho2, hb13⟩
  have hE := bytes_of_row ho2 rfl (allBytes wakeE rfl)
  have hA13 := (hA11.later hb12).later hb13
  have hR13 := (hR11.later hb12).later hb13
  have hB13 := (hB11.trans (hb12.mono hB11.size)).trans (hb13.mono (Nat.le_trans hB11.size hb12.size))
  clear hA11 hR11 hB11 hb12 hb13 ho2
  go_wp2_with fail
  have hst : SW w w3.heap.size g1 g2 w13.drew := SW.of (hR13.later ((Below.refl _ _).drew)) (hA13.later ((Below.refl _ _).drew)) (hE.later ((Below.refl _ _).drew)) hB13.drew
  have hsame := Lib.hid (refSame_yes 2 3 258)
  obtain ⟨A, hA⟩ : ∃ A, w3.heap.size = A := ⟨_, rfl⟩
  rw [hA] at hst ⊢
  clear hA13 hE hB13 PE PM hR13 hA
  go_region_held3 (fun w' => A < w'.heap.size ∧ w'.cell? ⟨A, 0, none⟩ = some (.int .u8 2) ∧ w'.cell? ⟨A, 1, none⟩ = some (.int .i64 0) ∧ w'.cell? ⟨A, 2, none⟩ = some (.int .i64 0) ∧ w'.cell? ⟨A, 3, none⟩ = some (.int .i64 0) ∧ w'.cell? ⟨A, 4, none⟩ = some (.int .i64 0) ∧ w'.cell? ⟨A, 5, none⟩ = some (.complex .f64 0 0) ∧ w'.cell? ⟨A, 6, none⟩ = some (.int .i64 3) ∧ w'.cell? ⟨A, 7, none⟩ = some (.int .i64 258) ∧ (convert 22 9 (.slice (some ⟨g1, 0, none⟩) 8 8)).run Try.prog w' = .ok (.string ⟨#[2, 3, 0, 0, 0, 0, 1, 2]⟩) w' ∧ (convert 22 9 (.slice (some ⟨g2, 0, none⟩) 20 20)).run Try.prog w' = .ok (.string ⟨#[1, 0, 0, 0, 0, 0, 1, 2, 0, 0, 3, 4, 255, 255, 255, 255, 0, 0, 0, 2]⟩) w' ∧ BytesAt g1 0 wakeM w' ∧ BytesAt g2 0 wakeE w' ∧ Below w.heap.size w w')
    (first
      | with_reducible assumption
      | with_reducible exact hst
      | (with_reducible refine SW.call (w1 := v1) ?_ hb1; with_reducible assumption))
    (first
    | (go_at_call 9; (with_reducible refine (refMark_any _ _ _).mono ?_); rintro e v1 ⟨rfl, hb1⟩)
    | (go_at_call 8; (with_reducible refine (hsame.out _).mono ?_); rintro e v1 ⟨rfl, hb1⟩)
    | (go_at_call 11; (with_reducible refine (size_event _).mono ?_); rintro e v1 ⟨rfl, hb1⟩)
    | (go_at_call 11; (with_reducible refine (size_mark _).mono ?_); rintro e v1 ⟨rfl, hb1⟩)
    | (go_at_call 11; (with_reducible refine (size_none 0 rfl rfl _).mono ?_); rintro e v1 ⟨rfl, hb1⟩))
  all_goals
    go_split_ands
    have hfin := ‹Below w.heap.size w v1›
    go_wp2
    go_ret
    exact ⟨rfl, hfin⟩
end Go.Proofs.Ytgedfdnbgbdaoaa
