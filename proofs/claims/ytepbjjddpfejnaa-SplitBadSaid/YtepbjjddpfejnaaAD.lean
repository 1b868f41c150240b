/-
  The standing examples of stage 6 hold: the law's wakes returns true; no condition.
-/
import Derived.Test.YtepbjjddpfejnaaAC
namespace Go.Proofs.Ytepbjjddpfejnaa
open Go.ChangeShapes Go.WideShapes Go.ChangeAt Go.RowKit
set_option linter.unusedVariables false
set_option linter.unusedSimpArgs false
def wake6 : List Int := [2, 7, 8, 0, 3, 9]
def wakeM : List Int := [2, 3, 0, 0, 0, 0, 0, 9]
def wakeS : List Int := [8, 2, 3, 0, 0, 0, 0, 0, 9]
def wakePcs : List Pc := [⟨0, [7, 8], false⟩, ⟨3, [], false⟩, ⟨4, [9], true⟩]
theorem allBytes (zs : List Int) (h : zs.all (fun z => decide (0 ≤ z) && decide (z < 256)) = true) : ∀ z ∈ zs, isByte z := fun z hz => by
  have := List.all_eq_true.1 h z hz
  simpa [isByte] using this
theorem bytes_new (W : World) (zs : List Int) (hz : ∀ z ∈ zs, isByte z) : BytesAt W.heap.size 0 zs (W.alloc (.cells (cellsU zs).toArray 5)) :=
  ⟨by simp, fun i hi => by
    rw [Nat.zero_add, cell_of_row _ W.heap.size i _ 5 (0, 0) (World.alloc_heap_new W _)]
    simp [hi], hz⟩
theorem PcsAt.later {W W' : World} {base : Nat} {v : Value} {ps : List Pc} (h : PcsAt base v ps W) (hb : Below W.heap.size W W') : PcsAt base v ps W' := by
  obtain ⟨L, hL, hr, hs⟩ := h
  exact ⟨L, hL, row_later hr hb, hs.later hb⟩
theorem pcsOf_wake : pcsOf wake6 = wakePcs := by rfl
theorem make256 (w : World) : (Instr.makeSlice 22 (.int .i64 256) (.int .i64 256)).run Try.prog w = .ok (.slice (some ⟨w.heap.size, 0, none⟩) 256 256) (w.alloc (.cells (cellsU (List.replicate 256 0)).toArray 5)) := by kernel_rfl
theorem put_wake (w : World) : Calls Try.prog 26 #[RV 2 0 0 0 0 0 0 3 9] w (PutDone 8 wakeM w) := put_mark 3 9 rfl rfl w
theorem recs_wake : recsOf wakeS = [⟨2, 0, 0, 0, 0, 0, 0, 3, 9⟩] := by rfl
theorem wk_all (w : World) : Calls Try.prog 7 #[.slice (some ⟨w.heap.size, 0, none⟩) 6 6] (w.alloc (.cells #[.int .u8 2, .int .u8 7, .int .u8 8, .int .u8 0, .int .u8 3, .int .u8 9] 5)) fun e w' => ∃ g c, e = .returned (.slice (some ⟨g, 0, none⟩) 3 c) ∧ PcsAt w.heap.size (.slice (some ⟨g, 0, none⟩) 3 c) wakePcs w' ∧ Below w.heap.size w w' := by
  have hA : BytesAt w.heap.size 0 wake6 (w.alloc (.cells #[.int .u8 2, .int .u8 7, .int .u8 8, .int .u8 0, .int .u8 3, .int .u8 9] 5)) := bytes_new w wake6 (allBytes _ rfl)
  refine (all_some w.heap.size 0 6 wake6 _ (by decide) (by decide) hA).mono ?_
  rintro e w' ⟨v, rfl, ⟨L, hL, hp⟩, hb⟩
  rw [pcsOf_wake] at hL
  have hl : L.length = 3 := by have := congrArg List.length hL; simpa [wakePcs] using this
  have hB : Below w.heap.size w w' := ((Below.refl _ _).alloc (Nat.le_refl _) _).trans (hb.mono (by simp))
  rcases pcs_shape hp with ⟨_, rfl⟩ | ⟨g, c, rfl⟩
  · cases hl
  · rw [hl] at hp ⊢
    exact ⟨g, c, rfl, ⟨L, hL, row_base hp.1 (by simp), fun x hx => row_base (hp.2 x hx) (by simp)⟩, hB⟩
theorem wk_join (w : World) : Calls Try.prog 9 #[.slice (some ⟨w.heap.size + 1, 0, none⟩) 2 2] ((w.alloc (.cells #[.int .u8 7, .int .u8 8] 5)).alloc (.cells #[.slice (some ⟨w.heap.size, 0, none⟩) 2 2, .slice none 0 0] 22)) fun e w' => ∃ v, e = .returned (.tuple #[v, .int .i64 0]) ∧ w'.ownsRow w.heap.size 5 1 v 4 (cellsU [2, 7, 8, 0]) ∧ Below w.heap.size w w' := by
  have hB0 : Below w.heap.size w ((w.alloc (.cells #[.int .u8 7, .int .u8 8] 5)).alloc (.cells #[.slice (some ⟨w.heap.size, 0, none⟩) 2 2, .slice none 0 0] 22)) := ((Below.refl _ _).alloc (Nat.le_refl _) _).alloc (by simp) _
  have hA : BytesAt w.heap.size 0 [7, 8] (w.alloc (.cells #[.int .u8 7, .int .u8 8] 5)) := bytes_new w [7, 8] (allBytes _ rfl)
  have hA2 := hA.later ((Below.refl _ (w.alloc (.cells #[.int .u8 7, .int .u8 8] 5))).alloc (Nat.le_refl _) (.cells #[.slice (some ⟨w.heap.size, 0, none⟩) 2 2, .slice none 0 0] 22))
  refine (join_any _ [(.slice (some ⟨w.heap.size, 0, none⟩) 2 2, [7, 8]), (.slice none 0 0, [])] _ ⟨.inr ⟨w.heap.size + 1, 0, 2, rfl, by simp, fun i x hx => ?_⟩, fun x hx => ?_⟩ (by simp)).mono ?_
  · match i, hx with
    | 0, hx => cases hx; simp [go_sem]
    | 1, hx => cases hx; simp [go_sem]
  · simp at hx
    rcases hx with rfl | rfl
    · exact .inr (.inr ⟨w.heap.size, 0, 2, rfl, by simp, hA2⟩)
    · exact .inl ⟨rfl, rfl⟩
  · rintro e w' ⟨hb, ⟨_, v, rfl, ho⟩ | ⟨hn, _⟩⟩
    · exact ⟨v, rfl, row_base ho (by simp; omega), hB0.trans (hb.mono (by simp; omega))⟩
    · exact absurd (fun x hx => by simp at hx; rcases hx with rfl | rfl <;> simp) hn
theorem wk_bad (w : World) (zs : List Int) (hl : zs.length = 256) (hz : ∀ z ∈ zs, isByte z) : Calls Try.prog 9 #[.slice (some ⟨w.heap.size + 1, 0, none⟩) 1 1] ((w.alloc (.cells (cellsU zs).toArray 5)).alloc (.cells #[.slice (some ⟨w.heap.size, 0, none⟩) 256 256] 22)) fun e w' => e = .returned (.tuple #[.slice none 0 0, .int .i64 2]) ∧ Below w.heap.size w w' := by
  have hB0 : Below w.heap.size w ((w.alloc (.cells (cellsU zs).toArray 5)).alloc (.cells #[.slice (some ⟨w.heap.size, 0, none⟩) 256 256] 22)) := ((Below.refl _ _).alloc (Nat.le_refl _) _).alloc (by simp) _
  have hA : BytesAt w.heap.size 0 zs (w.alloc (.cells (cellsU zs).toArray 5)) := bytes_new w zs hz
  have hA2 := hA.later ((Below.refl _ (w.alloc (.cells (cellsU zs).toArray 5))).alloc (Nat.le_refl _) (.cells #[.slice (some ⟨w.heap.size, 0, none⟩) 256 256] 22))
  refine (join_any _ [(.slice (some ⟨w.heap.size, 0, none⟩) 256 256, zs)] _ ⟨.inr ⟨w.heap.size + 1, 0, 1, rfl, by simp, fun i x hx => ?_⟩, fun x hx => ?_⟩ (by simp)).mono ?_
  · match i, hx with
    | 0, hx => cases hx; simp [go_sem]
  · obtain rfl := List.mem_singleton.1 hx
    exact .inr (.inr ⟨w.heap.size, 0, 256, by rw [hl], by show zs.length ≤ 256; omega, hA2⟩)
  · rintro e w' ⟨hb, ⟨hf, _⟩ | ⟨_, rfl⟩⟩
    · have := hf _ (List.mem_singleton.2 rfl)
      simp [hl] at this
    · exact ⟨rfl, hB0.trans (hb.mono (by simp; omega))⟩
theorem wk_put (w : World) : Calls Try.prog 16 #[.slice (some ⟨w.heap.size, 0, none⟩) 1 1] (w.alloc (.cells #[.int .u8 2, .int .i64 0, .int .i64 0, .int .i64 0, .int .i64 0, .complex .f64 0 0, .int .i64 3, .int .i64 9] 42)) fun e w' => ∃ g c, e = .returned (.tuple #[.slice (some ⟨g, 0, none⟩) 9 c, .int .i64 0]) ∧ w'.ownsRow w.heap.size 5 1 (.slice (some ⟨g, 0, none⟩) 9 c) 9 (cellsU wakeS) ∧ Below w.heap.size w w' := by
  refine (put_one w.heap.size 1 ⟨2, 0, 0, 0, 0, 0, 0, 3, 9⟩ wakeM (by decide) (allBytes _ rfl) _ (by simp) (fun j u hj => ?_) put_wake).mono ?_
  · have := cell8_new w ⟨2, 0, 0, 0, 0, 0, 0, 3, 9⟩ 42 j u hj
    rwa [add_at, Nat.zero_add] at this
  · rintro e w' ⟨v, rfl, ho, hb⟩
    obtain ⟨g, c, rfl⟩ := ownsRow_succ ho
    exact ⟨g, c, rfl, row_base ho (by simp), ((Below.refl _ _).alloc (Nat.le_refl _) _).trans (hb.mono (by simp))⟩
theorem wk_recs (g c base : Nat) (w : World) (h : w.ownsRow base 5 1 (.slice (some ⟨g, 0, none⟩) 9 c) 9 (cellsU wakeS)) : Calls Try.prog 10 #[.slice (some ⟨g, 0, none⟩) 9 c] w fun e w' => ∃ r d, e = .returned (.slice (some ⟨r, 0, none⟩) 1 d) ∧ r < w'.heap.size ∧ w'.cell? ⟨r, 6, none⟩ = some (.int .i64 3) ∧ w'.cell? ⟨r, 7, none⟩ = some (.int .i64 9) ∧ Below w.heap.size w w' := by
  refine (recs_any _ wakeS w (scr_of_row h (allBytes _ rfl)) (by decide)).mono ?_
  rintro e w' ⟨v, rfl, hr, hb⟩
  rw [recs_wake] at hr
  obtain ⟨r, d, rfl⟩ := ownsRow_succ hr
  exact ⟨r, d, rfl, (hr.lt r rfl).2, hr.cellAt 6 (by decide), hr.cellAt 7 (by decide), hb⟩
theorem wk_pcs (g c base : Nat) (w : World) (h : PcsAt base (.slice (some ⟨g, 0, none⟩) 3 c) wakePcs w) : Calls Try.prog 11 #[.slice (some ⟨g, 0, none⟩) 3 c, .slice (some ⟨w.heap.size + 1 + 1, 0, none⟩) 3 3] (((w.alloc (.cells #[.int .u8 7, .int .u8 8] 5)).alloc (.cells #[.int .u8 9] 5)).alloc (.cells #[.int .i64 0, .slice (some ⟨w.heap.size, 0, none⟩) 2 2, .bool false, .int .i64 3, .slice none 0 0, .bool false, .int .i64 4, .slice (some ⟨w.heap.size + 1, 0, none⟩) 1 1, .bool true] 28)) fun e w' => e = .returned (.bool true) ∧ Below w.heap.size w w' := by
  have hB : Below w.heap.size w (((w.alloc (.cells #[.int .u8 7, .int .u8 8] 5)).alloc (.cells #[.int .u8 9] 5)).alloc (.cells #[.int .i64 0, .slice (some ⟨w.heap.size, 0, none⟩) 2 2, .bool false, .int .i64 3, .slice none 0 0, .bool false, .int .i64 4, .slice (some ⟨w.heap.size + 1, 0, none⟩) 1 1, .bool true] 28)) := (((Below.refl _ _).alloc (Nat.le_refl _) _).alloc (by simp) _).alloc (by simp; omega) _
  have r1 : (((w.alloc (.cells #[.int .u8 7, .int .u8 8] 5)).alloc (.cells #[.int .u8 9] 5)).alloc (.cells #[.int .i64 0, .slice (some ⟨w.heap.size, 0, none⟩) 2 2, .bool false, .int .i64 3, .slice none 0 0, .bool false, .int .i64 4, .slice (some ⟨w.heap.size + 1, 0, none⟩) 1 1, .bool true] 28)).ownsRow w.heap.size 5 1 (.slice (some ⟨w.heap.size, 0, none⟩) 2 2) 2 (cellsU [7, 8]) := ((World.ownsRow_lit w #[.int .u8 7, .int .u8 8] 2 (Nat.le_refl _) (by decide) rfl).alloc _).alloc _
  have r2 := (World.ownsRow_lit (base := w.heap.size) (size := 1) (e := 5) (w.alloc (.cells #[.int .u8 7, .int .u8 8] 5)) #[.int .u8 9] 1 (by simp) (by decide) rfl).alloc (.cells #[.int .i64 0, .slice (some ⟨w.heap.size, 0, none⟩) 2 2, .bool false, .int .i64 3, .slice none 0 0, .bool false, .int .i64 4, .slice (some ⟨w.heap.size + 1, 0, none⟩) 1 1, .bool true] 28)
  rw [World.size_alloc] at r2
  have r3 := World.ownsRow_lit (base := w.heap.size) (size := 3) (e := 28) ((w.alloc (.cells #[.int .u8 7, .int .u8 8] 5)).alloc (.cells #[.int .u8 9] 5)) #[.int .i64 0, .slice (some ⟨w.heap.size, 0, none⟩) 2 2, .bool false, .int .i64 3, .slice none 0 0, .bool false, .int .i64 4, .slice (some ⟨w.heap.size + 1, 0, none⟩) 1 1, .bool true] 3 (by simp; omega) (by decide) rfl
  rw [World.size_alloc, World.size_alloc] at r3
  refine (pieces_same base w.heap.size _ _ wakePcs _ (h.later (hB.mono (Nat.le_refl _))) ⟨[(⟨0, [7, 8], false⟩, .slice (some ⟨w.heap.size, 0, none⟩) 2 2), (⟨3, [], false⟩, .slice none 0 0), (⟨4, [9], true⟩, .slice (some ⟨w.heap.size + 1, 0, none⟩) 1 1)], rfl, r3, fun x hx => ?_⟩ (fun p hp => ?_) (by decide)).mono ?_
  · simp at hx
    rcases hx with rfl | rfl | rfl
    · exact r1
    · exact World.ownsRow_nil _ _ _ _
    · exact r2
  · simp [wakePcs] at hp
    rcases hp with rfl | rfl | rfl <;> exact allBytes _ rfl
  · rintro e w' ⟨rfl, hb⟩
    exact ⟨rfl, hB.trans (hb.mono hB.size)⟩
set_option maxRecDepth 100000 in
set_option maxHeartbeats 4000000 in
theorem wakes_any (w : World) : Calls Try.prog 6 #[] w fun e w' => e = .returned (.bool true) ∧ Below w.heap.size w w' := by
  have M256 := make256
  have hz := Lib.hid (show (List.replicate 256 (0 : Int)).length = 256 from List.length_replicate)
  have hzb : Hid (∀ z ∈ List.replicate 256 (0 : Int), isByte z) := fun z hz => by obtain ⟨_, rfl⟩ := List.mem_replicate.1 hz; exact ⟨by omega, by omega⟩
  generalize List.replicate 256 (0 : Int) = zs at *
  go_enter Try.func6, Try.ntmps6
  go_wp2_with fail
  (with_reducible refine (wk_all w).mono ?_)
  rintro e w1 ⟨g1, c1, rfl, hp1, hb1⟩
  go_wp2_with fail
  (with_reducible refine (wk_join w1).mono ?_)
  rintro e w2 ⟨v2, rfl, ho2, hb2⟩
  have hB2 := hb1.trans (hb2.mono hb1.size)
  have hp2 := hp1.later hb2
  clear hp1 hb1 hb2
  go_wp2_with fail
  (with_reducible refine (wk_bad w2 zs hz.out hzb.out).mono ?_)
  rintro e w3 ⟨rfl, hb3⟩
  have hB3 := hB2.trans (hb3.mono hB2.size)
  have hp3 := hp2.later hb3
  have ho3 := row_later ho2 hb3
  clear hB2 hp2 ho2 hb3 hz hzb M256
  go_wp2_with fail
  refine (rec_bad 0 none 0 0 false (.inl rfl) w3).mono ?_
  rintro e w4 ⟨rfl, hb4⟩
  have hb5 := hb4.alloc hb4.size (.cells #[.int .u8 0, .int .i64 0, .int .i64 0, .int .i64 0, .int .i64 0, .complex .f64 0 0, .int .i64 0, .int .i64 0] 42)
  have hB5 := hB3.trans (hb5.mono hB3.size)
  have hp5 := hp3.later hb5
  have ho5 := row_later ho3 hb5
  clear hB3 hp3 ho3 hb4 hb5
  go_wp2_with fail
  have hs5 : (w4.alloc (.cells #[.int .u8 0, .int .i64 0, .int .i64 0, .int .i64 0, .int .i64 0, .complex .f64 0 0, .int .i64 0, .int .i64 0] 42)).heap.size = w4.heap.size + 1 := World.size_alloc _ _
  generalize w4.alloc (.cells #[.int .u8 0, .int .i64 0, .int .i64 0, .int .i64 0, .int .i64 0, .complex .f64 0 0, .int .i64 0, .int .i64 0] 42) = w5 at *
  have hP := wk_put w5
  rw [hs5] at hP
  (with_reducible refine hP.mono ?_)
  rintro e w6 ⟨g6, c6, rfl, ho6, hb6⟩
  rw [← hs5] at ho6 hb6
  have hB6 := hB5.trans (hb6.mono hB5.size)
  have hp6 := hp5.later hb6
  have ho26 := row_later ho5 hb6
  clear hP hs5 hB5 hp5 ho5 hb6
  go_wp2_with fail
  (with_reducible refine (wk_recs g6 c6 _ w6 ho6).mono ?_)
  rintro e w7 ⟨r, d, rfl, hrl, hr6, hr7, hb7⟩
  have hB7 := hB6.trans (hb7.mono hB6.size)
  have hp7 := hp6.later hb7
  have ho7 := row_later ho26 hb7
  clear hB6 hp6 ho26 hb7 ho6
  go_wp2_with fail
  (with_reducible refine (wk_pcs g1 c1 _ w7 hp7).mono ?_)
  rintro e w8 ⟨rfl, hb8⟩
  have hB8 := hB7.trans (hb8.mono hB7.size)
  have hs8 := scr_of_own (row_later ho7 hb8) (allBytes _ rfl)
  have hr6' := bcell hb8 hrl hr6
  have hr7' := bcell hb8 hrl hr7
  have hrl' := beyond hb8 hrl
  clear hB7 hp7 ho7 hb8 hr6 hr7 hrl
  have hS : Scr (.slice (some ⟨w8.heap.size, 0, none⟩) 4 4) [2, 7, 8, 0] (w8.alloc (.cells #[.int .u8 2, .int .u8 7, .int .u8 8, .int .u8 0] 5)) := .inr (.inr ⟨w8.heap.size, 0, 4, rfl, by decide, bytes_new w8 [2, 7, 8, 0] (allBytes _ rfl)⟩)
  have hb9 : Below w8.heap.size w8 (w8.alloc (.cells #[.int .u8 2, .int .u8 7, .int .u8 8, .int .u8 0] 5)) := (Below.refl _ _).alloc (Nat.le_refl _) _
  have hs9 := hs8.later hb9
  have hr6 := bcell hb9 hrl' hr6'
  have hr7 := bcell hb9 hrl' hr7'
  have hB9 := hB8.trans (hb9.mono hB8.size)
  go_wp2_with fail
  generalize w8.alloc (.cells #[.int .u8 2, .int .u8 7, .int .u8 8, .int .u8 0] 5) = w9 at *
  (with_reducible refine (lawSame_yes _ _ _ w9 hs9 hS).mono ?_)
  rintro e w10 ⟨rfl, rfl⟩
  clear hr6' hr7' hs8 hB8 hb9
  go_wp2_with fail
  (with_reducible refine (all_none none 0 w9).mono ?_)
  rintro e w11 ⟨rfl, hb11⟩
  go_wp2
  go_ret
  exact ⟨rfl, hB9.trans (hb11.mono hB9.size)⟩
end Go.Proofs.Ytepbjjddpfejnaa
