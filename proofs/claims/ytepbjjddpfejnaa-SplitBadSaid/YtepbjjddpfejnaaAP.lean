/-
  What the document's own Take answers of an event's bytes: the same as wire's; no other condition.
-/
import Derived.Test.YtepbjjddpfejnaaAN
import Derived.StillTailTactics
namespace Go.Proofs.Ytepbjjddpfejnaa
open Go.ChangeShapes Go.WideShapes Go.ChangeAt Go.RowKit
set_option linter.unusedVariables false
set_option linter.unusedSimpArgs false
theorem five_held {W : World} {B : Nat} {v1 v2 v3 v4 v5 u0 u6 u7 : Value} (h : Room8 B W) (k0 : W.cell? ⟨B, 0, none⟩ = some u0) (k6 : W.cell? ⟨B, 6, none⟩ = some u6) (k7 : W.cell? ⟨B, 7, none⟩ = some u7) :
    (((((W.setCell ⟨B, 1, none⟩ v1).setCell ⟨B, 2, none⟩ v2).setCell ⟨B, 3, none⟩ v3).setCell ⟨B, 4, none⟩ v4).setCell ⟨B, 5, none⟩ v5).cell? ⟨B, 0, none⟩ = some u0 ∧ (((((W.setCell ⟨B, 1, none⟩ v1).setCell ⟨B, 2, none⟩ v2).setCell ⟨B, 3, none⟩ v3).setCell ⟨B, 4, none⟩ v4).setCell ⟨B, 5, none⟩ v5).cell? ⟨B, 1, none⟩ = some v1 ∧ (((((W.setCell ⟨B, 1, none⟩ v1).setCell ⟨B, 2, none⟩ v2).setCell ⟨B, 3, none⟩ v3).setCell ⟨B, 4, none⟩ v4).setCell ⟨B, 5, none⟩ v5).cell? ⟨B, 2, none⟩ = some v2 ∧ (((((W.setCell ⟨B, 1, none⟩ v1).setCell ⟨B, 2, none⟩ v2).setCell ⟨B, 3, none⟩ v3).setCell ⟨B, 4, none⟩ v4).setCell ⟨B, 5, none⟩ v5).cell? ⟨B, 3, none⟩ = some v3 ∧ (((((W.setCell ⟨B, 1, none⟩ v1).setCell ⟨B, 2, none⟩ v2).setCell ⟨B, 3, none⟩ v3).setCell ⟨B, 4, none⟩ v4).setCell ⟨B, 5, none⟩ v5).cell? ⟨B, 4, none⟩ = some v4 ∧ (((((W.setCell ⟨B, 1, none⟩ v1).setCell ⟨B, 2, none⟩ v2).setCell ⟨B, 3, none⟩ v3).setCell ⟨B, 4, none⟩ v4).setCell ⟨B, 5, none⟩ v5).cell? ⟨B, 5, none⟩ = some v5 ∧ (((((W.setCell ⟨B, 1, none⟩ v1).setCell ⟨B, 2, none⟩ v2).setCell ⟨B, 3, none⟩ v3).setCell ⟨B, 4, none⟩ v4).setCell ⟨B, 5, none⟩ v5).cell? ⟨B, 6, none⟩ = some u6 ∧ (((((W.setCell ⟨B, 1, none⟩ v1).setCell ⟨B, 2, none⟩ v2).setCell ⟨B, 3, none⟩ v3).setCell ⟨B, 4, none⟩ v4).setCell ⟨B, 5, none⟩ v5).cell? ⟨B, 7, none⟩ = some u7 := by
  refine ⟨?_, ?_, ?_, ?_, ?_, ?_, ?_, ?_⟩
  · rw [World.cell?_setCell_other _ _ _ _ (by simp), World.cell?_setCell_other _ _ _ _ (by simp), World.cell?_setCell_other _ _ _ _ (by simp), World.cell?_setCell_other _ _ _ _ (by simp), World.cell?_setCell_other _ _ _ _ (by simp)]
    exact k0
  · rw [World.cell?_setCell_other _ _ _ _ (by simp), World.cell?_setCell_other _ _ _ _ (by simp), World.cell?_setCell_other _ _ _ _ (by simp), World.cell?_setCell_other _ _ _ _ (by simp)]
    exact World.cell?_setCell_same _ _ _ (h.at (by omega))
  · rw [World.cell?_setCell_other _ _ _ _ (by simp), World.cell?_setCell_other _ _ _ _ (by simp), World.cell?_setCell_other _ _ _ _ (by simp)]
    exact World.cell?_setCell_same _ _ _ ((h.set _ _).at (by omega))
  · rw [World.cell?_setCell_other _ _ _ _ (by simp), World.cell?_setCell_other _ _ _ _ (by simp)]
    exact World.cell?_setCell_same _ _ _ (((h.set _ _).set _ _).at (by omega))
  · rw [World.cell?_setCell_other _ _ _ _ (by simp)]
    exact World.cell?_setCell_same _ _ _ ((((h.set _ _).set _ _).set _ _).at (by omega))
  · exact World.cell?_setCell_same _ _ _ (((((h.set _ _).set _ _).set _ _).set _ _).at (by omega))
  · rw [World.cell?_setCell_other _ _ _ _ (by simp), World.cell?_setCell_other _ _ _ _ (by simp), World.cell?_setCell_other _ _ _ _ (by simp), World.cell?_setCell_other _ _ _ _ (by simp), World.cell?_setCell_other _ _ _ _ (by simp)]
    exact k6
  · rw [World.cell?_setCell_other _ _ _ _ (by simp), World.cell?_setCell_other _ _ _ _ (by simp), World.cell?_setCell_other _ _ _ _ (by simp), World.cell?_setCell_other _ _ _ _ (by simp), World.cell?_setCell_other _ _ _ _ (by simp)]
    exact k7
set_option maxRecDepth 100000 in
set_option maxHeartbeats 2000000 in
theorem refTake_far (blk off c : Nat) (zs : List Int) (w : World) (h : BytesAt blk off zs w) (hl : zs.length = 20) (h0 : zs[0]?.getD 0 = 1) (hno : (inB (part32 (evV zs 5)) && inB (part32 (evV zs 6))) = false) : RefTook (.slice (some ⟨blk, off, none⟩) 20 (20 + c)) (RV 0 0 0 0 0 0 0 0 0) 11 w := by
  have hm := room_new w
  have hb : Below w.heap.size w (w.alloc (.cells #[.int .u8 0, .int .i64 0, .int .i64 0, .int .i64 0, .int .i64 0, .complex .f64 0 0, .int .i64 0, .int .i64 0] 42)) := (Below.refl _ _).alloc (Nat.le_refl _) _
  have hZ : ∀ i, i < 20 → w.cell? ⟨blk, off + i, none⟩ = some (.int .u8 (zs[i]?.getD 0)) := fun i hi => h.2.1 i (by omega)
  have hblk := h.1
  have hbyt := h.2.2
  have hz0 : w.cell? ⟨blk, off, none⟩ = some (.int .u8 (zs[0]?.getD 0)) := hZ 0 (by omega)
  rw [h0] at hz0
  have hc0 := bcell hb hblk hz0
  have b5 := evV_four zs 12 hl hbyt
  have b6 := evV_four zs 16 hl hbyt
  have hbuild : ∀ w, (Instr.build 42 #[(0, .int .u8 1)]).run Try.prog w = .ok (RV 1 0 0 0 0 0 0 0 0) w := fun w => run_build w 42 _ _ (by kernel_rfl)
  have HP5 : Hid (∀ w', Below w.heap.size w w' → Calls Try.prog 24 #[.slice (some ⟨blk, off + 12, none⟩) 4 (20 + c - 12)] w' fun e w'' => e = .returned (.int .i64 (part32 (evV zs 5))) ∧ w' = w'') := fun w' hw =>
    refPart _ _ _ _ rfl _ w' (refChunk blk off 12 4 (20 + c - 12) 20 zs w' (fun i hi => bcell hw hblk (hZ i hi)) hl hbyt (by omega) (by omega) (by omega) (by omega)) b5.1 b5.2
  have HP6 : Hid (∀ w', Below w.heap.size w w' → Calls Try.prog 24 #[.slice (some ⟨blk, off + 16, none⟩) 4 (20 + c - 16)] w' fun e w'' => e = .returned (.int .i64 (part32 (evV zs 6))) ∧ w' = w'') := fun w' hw =>
    refPart _ _ _ _ rfl _ w' (refChunk blk off 16 4 (20 + c - 16) 20 zs w' (fun i hi => bcell hw hblk (hZ i hi)) hl hbyt (by omega) (by omega) (by omega) (by omega)) b6.1 b6.2
  have HM := Lib.hid (fun w => refMake_no (part32 (evV zs 5)) (part32 (evV zs 6)) hno w)
  clear hno hZ hbyt b5 b6 h hz0 h0 hl
  obtain ⟨x, hx⟩ : ∃ x, part32 (evV zs 5) = x := ⟨_, rfl⟩
  obtain ⟨y, hy⟩ : ∃ y, part32 (evV zs 6) = y := ⟨_, rfl⟩
  rw [hx, hy] at HM
  rw [hx] at HP5
  rw [hy] at HP6
  clear hx hy
  have hlt : w.heap.size < (w.alloc (.cells #[.int .u8 0, .int .i64 0, .int .i64 0, .int .i64 0, .int .i64 0, .complex .f64 0 0, .int .i64 0, .int .i64 0] 42)).heap.size := by simp
  have hbw : blk < (w.alloc (.cells #[.int .u8 0, .int .i64 0, .int .i64 0, .int .i64 0, .int .i64 0, .complex .f64 0 0, .int .i64 0, .int .i64 0] 42)).heap.size := by simp; omega
  go_enter Try.func15, Try.ntmps15
  go_wp2_with fail
  generalize w.alloc (.cells #[.int .u8 0, .int .i64 0, .int .i64 0, .int .i64 0, .int .i64 0, .complex .f64 0 0, .int .i64 0, .int .i64 0] 42) = w1 at *
  (with_reducible refine (refSize_event _).mono ?_)
  rintro e w2 ⟨rfl, rfl⟩
  go_wp2_with fail
  have hr2 := RecAt.new w1 1 0 0 0 0 0 0 0 0
  have hb2 := hb.alloc hb.size (.cells #[.int .u8 1, .int .i64 0, .int .i64 0, .int .i64 0, .int .i64 0, .complex .f64 0 0, .int .i64 0, .int .i64 0] 42)
  have hm2 := hm.later hlt ((Below.refl _ w1).alloc (Nat.le_refl _) (.cells #[.int .u8 1, .int .i64 0, .int .i64 0, .int .i64 0, .int .i64 0, .complex .f64 0 0, .int .i64 0, .int .i64 0] 42))
  have hq2 := room_rec w1 1 0 0 0 0 0 0 0 0
  have hlt2 : w.heap.size < (w1.alloc (.cells #[.int .u8 1, .int .i64 0, .int .i64 0, .int .i64 0, .int .i64 0, .complex .f64 0 0, .int .i64 0, .int .i64 0] 42)).heap.size := by simp; omega
  have hs2 : (w1.alloc (.cells #[.int .u8 1, .int .i64 0, .int .i64 0, .int .i64 0, .int .i64 0, .complex .f64 0 0, .int .i64 0, .int .i64 0] 42)).heap.size = w1.heap.size + 1 := World.size_alloc _ _
  generalize w1.alloc (.cells #[.int .u8 1, .int .i64 0, .int .i64 0, .int .i64 0, .int .i64 0, .complex .f64 0 0, .int .i64 0, .int .i64 0] 42) = w2 at *
  have Q5 : ∀ m, Calls Try.prog 24 #[.slice (some ⟨blk, off + 12, none⟩) 4 (20 + c - 12)] (w2.drewN m) fun e w'' => e = .returned (.int .i64 x) ∧ w'' = w2.drewN m := fun m => (HP5.out (w2.drewN m) (hb2.trans ⟨rfl, rfl, rfl, Nat.le_refl _, fun _ _ => rfl⟩)).mono (by rintro e w' ⟨rfl, rfl⟩; exact ⟨rfl, rfl⟩)
  have Q6 : ∀ m, Calls Try.prog 24 #[.slice (some ⟨blk, off + 16, none⟩) 4 (20 + c - 16)] (w2.drewN m) fun e w'' => e = .returned (.int .i64 y) ∧ w'' = w2.drewN m := fun m => (HP6.out (w2.drewN m) (hb2.trans ⟨rfl, rfl, rfl, Nat.le_refl _, fun _ _ => rfl⟩)).mono (by rintro e w' ⟨rfl, rfl⟩; exact ⟨rfl, rfl⟩)
  have QM := fun m => (HM.out (w2.drewN m)).mono (fun e w' h => And.intro h.1 h.2.symm)
  go_quiet (first | (go_at_call 24; with_reducible exact Calls.quiet_of_same (Q5 _)) | (go_at_call 24; with_reducible exact Calls.quiet_of_same (Q6 _)) | (go_at_call 23; with_reducible exact Calls.quiet_of_same (QM _)))
  have hd : Below w2.heap.size w2 (w2.drewN nq) := ⟨rfl, rfl, rfl, Nat.le_refl _, fun _ _ => rfl⟩
  have hm3 := hm2.later hlt2 hd
  have hb3 := hb2.trans (hd.mono (Nat.le_of_lt hlt2))
  clear hm hb hm2 hb2 Q5 Q6 QM HP5 HP6 HM hc0 hr2 hd hq2
  generalize w2.drewN nq = w3 at *
  have r0 := hm3.at (o := 0) (by omega)
  have r1 := hm3.at (o := 1) (by omega)
  have r2 := hm3.at (o := 2) (by omega)
  have r3 := hm3.at (o := 3) (by omega)
  have r4 := hm3.at (o := 4) (by omega)
  have r5 := hm3.at (o := 5) (by omega)
  have r6 := hm3.at (o := 6) (by omega)
  have r7 := hm3.at (o := 7) (by omega)
  have f0 := (hm3 0 (by omega)).2
  have f1 := (hm3 1 (by omega)).2
  have f2 := (hm3 2 (by omega)).2
  have f3 := (hm3 3 (by omega)).2
  have f4 := (hm3 4 (by omega)).2
  have f5 := (hm3 5 (by omega)).2
  have f6 := (hm3 6 (by omega)).2
  have f7 := (hm3 7 (by omega)).2
  go_wp2
  obtain ⟨d0, d1, d2, d3, d4, d5, d6, d7⟩ := eight_held (W := w3) (B := w.heap.size) (v0 := .int .u8 0) (v1 := .int .i64 0) (v2 := .int .i64 0) (v3 := .int .i64 0) (v4 := .int .i64 0) (v5 := .complex .f64 0 0) (v6 := .int .i64 0) (v7 := .int .i64 0) hm3
  have hB4 : Below w.heap.size w ((((((((w3.setCell ⟨w.heap.size, 0, none⟩ (.int .u8 0)).setCell ⟨w.heap.size, 1, none⟩ (.int .i64 0)).setCell ⟨w.heap.size, 2, none⟩ (.int .i64 0)).setCell ⟨w.heap.size, 3, none⟩ (.int .i64 0)).setCell ⟨w.heap.size, 4, none⟩ (.int .i64 0)).setCell ⟨w.heap.size, 5, none⟩ (.complex .f64 0 0)).setCell ⟨w.heap.size, 6, none⟩ (.int .i64 0)).setCell ⟨w.heap.size, 7, none⟩ (.int .i64 0)) := (((((((hb3.setCell (Nat.le_refl _) _).setCell (Nat.le_refl _) _).setCell (Nat.le_refl _) _).setCell (Nat.le_refl _) _).setCell (Nat.le_refl _) _).setCell (Nat.le_refl _) _).setCell (Nat.le_refl _) _).setCell (Nat.le_refl _) _
  clear r0 r1 r2 r3 r4 r5 r6 r7 f0 f1 f2 f3 f4 f5 f6 f7 hm3 hb3
  generalize ((((((((w3.setCell ⟨w.heap.size, 0, none⟩ (.int .u8 0)).setCell ⟨w.heap.size, 1, none⟩ (.int .i64 0)).setCell ⟨w.heap.size, 2, none⟩ (.int .i64 0)).setCell ⟨w.heap.size, 3, none⟩ (.int .i64 0)).setCell ⟨w.heap.size, 4, none⟩ (.int .i64 0)).setCell ⟨w.heap.size, 5, none⟩ (.complex .f64 0 0)).setCell ⟨w.heap.size, 6, none⟩ (.int .i64 0)).setCell ⟨w.heap.size, 7, none⟩ (.int .i64 0)) = W5 at *
  exact bodyPost_ret (v := .tuple #[RV 0 0 0 0 0 0 0 0 0, .int .i64 11]) (by simp [results, Try.results15, go_sem, d0, d1, d2, d3, d4, d5, d6, d7]) rfl ⟨rfl, hB4⟩

set_option maxRecDepth 100000 in
set_option maxHeartbeats 8000000 in
theorem refTake_event (blk off c : Nat) (zs : List Int) (w : World) (h : BytesAt blk off zs w) (hl : zs.length = 20) (h0 : zs[0]?.getD 0 = 1) (hx : inB (part32 (evV zs 5)) = true) (hy : inB (part32 (evV zs 6)) = true) (hR : ∀ w, Calls Try.prog 25 #[(evtRc zs).v] w fun e w' => e = .returned (.bool true) ∧ Below w.heap.size w w') : RefTook (.slice (some ⟨blk, off, none⟩) 20 (20 + c)) ((evtRc zs).v) 0 w := by
  have hm := room_new w
  have hb : Below w.heap.size w (w.alloc (.cells #[.int .u8 0, .int .i64 0, .int .i64 0, .int .i64 0, .int .i64 0, .complex .f64 0 0, .int .i64 0, .int .i64 0] 42)) := (Below.refl _ _).alloc (Nat.le_refl _) _
  have hZ : ∀ i, i < 20 → w.cell? ⟨blk, off + i, none⟩ = some (.int .u8 (zs[i]?.getD 0)) := fun i hi => h.2.1 i (by omega)
  have hblk := h.1
  have hbyt := h.2.2
  have hz0 : w.cell? ⟨blk, off, none⟩ = some (.int .u8 (zs[0]?.getD 0)) := hZ 0 (by omega)
  rw [h0] at hz0
  have hc0 := bcell hb hblk hz0
  have b5 := evV_four zs 12 hl hbyt
  have b6 := evV_four zs 16 hl hbyt
  have hbuild : ∀ w, (Instr.build 42 #[(0, .int .u8 1)]).run Try.prog w = .ok (RV 1 0 0 0 0 0 0 0 0) w := fun w => run_build w 42 _ _ (by kernel_rfl)
  have HP5 : Hid (∀ w', Below w.heap.size w w' → Calls Try.prog 24 #[.slice (some ⟨blk, off + 12, none⟩) 4 (20 + c - 12)] w' fun e w'' => e = .returned (.int .i64 (part32 (evV zs 5))) ∧ w' = w'') := fun w' hw =>
    refPart _ _ _ _ rfl _ w' (refChunk blk off 12 4 (20 + c - 12) 20 zs w' (fun i hi => bcell hw hblk (hZ i hi)) hl hbyt (by omega) (by omega) (by omega) (by omega)) b5.1 b5.2
  have HP6 : Hid (∀ w', Below w.heap.size w w' → Calls Try.prog 24 #[.slice (some ⟨blk, off + 16, none⟩) 4 (20 + c - 16)] w' fun e w'' => e = .returned (.int .i64 (part32 (evV zs 6))) ∧ w' = w'') := fun w' hw =>
    refPart _ _ _ _ rfl _ w' (refChunk blk off 16 4 (20 + c - 16) 20 zs w' (fun i hi => bcell hw hblk (hZ i hi)) hl hbyt (by omega) (by omega) (by omega) (by omega)) b6.1 b6.2
  have HM := Lib.hid (fun w => refMake_yes (part32 (evV zs 5)) (part32 (evV zs 6)) hx hy w)
  have HT : Hid (∀ w', Below w.heap.size w w' → Calls Try.prog 22 #[.slice (some ⟨blk, off + 1, none⟩) 6 (19 + c)] w' fun e w'' => e = .returned (.int .i64 (evV zs 1)) ∧ w' = w'') := fun w' hw =>
    refChunk blk off 1 6 (19 + c) 20 zs w' (fun i hi => bcell hw hblk (hZ i hi)) hl hbyt (by omega) (by omega) (by omega) (by omega)
  have HS : Hid (∀ w', Below w.heap.size w w' → Calls Try.prog 22 #[.slice (some ⟨blk, off + 8, none⟩) 3 (20 + c - 8)] w' fun e w'' => e = .returned (.int .i64 (evV zs 3)) ∧ w' = w'') := fun w' hw =>
    refChunk blk off 8 3 (20 + c - 8) 20 zs w' (fun i hi => bcell hw hblk (hZ i hi)) hl hbyt (by omega) (by omega) (by omega) (by omega)
  have e7 : evV zs 2 = zs[7]?.getD 0 := ref_ck1 zs 7 (by omega)
  have e11 : evV zs 4 = zs[11]?.getD 0 := ref_ck1 zs 11 (by omega)
  have by7 := hbyt (zs[7]?.getD 0) (by simp [show 7 < zs.length by omega])
  have by11 := hbyt (zs[11]?.getD 0) (by simp [show 11 < zs.length by omega])
  have z7 := hZ 7 (by omega)
  have z11 := hZ 11 (by omega)
  rw [← e7] at z7 by7
  rw [← e11] at z11 by11
  have HR : Hid (∀ w, Calls Try.prog 25 #[RV 1 (evV zs 1) (evV zs 2) (evV zs 3) (evV zs 4) (floatOfInt .f64 (part32 (evV zs 5))) (floatOfInt .f64 (part32 (evV zs 6))) 0 0] w fun e w' => e = .returned (.bool true) ∧ Below w.heap.size w w') := hR
  show RefTook _ (RV 1 (evV zs 1) (evV zs 2) (evV zs 3) (evV zs 4) (floatOfInt .f64 (part32 (evV zs 5))) (floatOfInt .f64 (part32 (evV zs 6))) 0 0) 0 w
  clear hR hx hy hZ hbyt b5 b6 h hz0 h0 hl e7 e11
  obtain ⟨x, hx⟩ : ∃ x, part32 (evV zs 5) = x := ⟨_, rfl⟩
  obtain ⟨y, hy⟩ : ∃ y, part32 (evV zs 6) = y := ⟨_, rfl⟩
  rw [hx, hy] at HM HR ⊢
  rw [hx] at HP5
  rw [hy] at HP6
  clear hx hy
  generalize evV zs 1 = t at *
  generalize evV zs 2 = n2 at *
  generalize evV zs 3 = n3 at *
  generalize evV zs 4 = n4 at *
  generalize floatOfInt .f64 x = p at *
  generalize floatOfInt .f64 y = q at *
  obtain ⟨by7a, by7b⟩ := by7
  obtain ⟨by11a, by11b⟩ := by11
  have hlt : w.heap.size < (w.alloc (.cells #[.int .u8 0, .int .i64 0, .int .i64 0, .int .i64 0, .int .i64 0, .complex .f64 0 0, .int .i64 0, .int .i64 0] 42)).heap.size := by simp
  have hbw : blk < (w.alloc (.cells #[.int .u8 0, .int .i64 0, .int .i64 0, .int .i64 0, .int .i64 0, .complex .f64 0 0, .int .i64 0, .int .i64 0] 42)).heap.size := by simp; omega
  go_enter Try.func15, Try.ntmps15
  go_wp2_with fail
  generalize w.alloc (.cells #[.int .u8 0, .int .i64 0, .int .i64 0, .int .i64 0, .int .i64 0, .complex .f64 0 0, .int .i64 0, .int .i64 0] 42) = w1 at *
  (with_reducible refine (refSize_event _).mono ?_)
  rintro e w2 ⟨rfl, rfl⟩
  go_wp2_with fail
  have hr2 := RecAt.new w1 1 0 0 0 0 0 0 0 0
  have hb2 := hb.alloc hb.size (.cells #[.int .u8 1, .int .i64 0, .int .i64 0, .int .i64 0, .int .i64 0, .complex .f64 0 0, .int .i64 0, .int .i64 0] 42)
  have hm2 := hm.later hlt ((Below.refl _ w1).alloc (Nat.le_refl _) (.cells #[.int .u8 1, .int .i64 0, .int .i64 0, .int .i64 0, .int .i64 0, .complex .f64 0 0, .int .i64 0, .int .i64 0] 42))
  have hq2 := room_rec w1 1 0 0 0 0 0 0 0 0
  have hlt2 : w.heap.size < (w1.alloc (.cells #[.int .u8 1, .int .i64 0, .int .i64 0, .int .i64 0, .int .i64 0, .complex .f64 0 0, .int .i64 0, .int .i64 0] 42)).heap.size := by simp; omega
  have hs2 : (w1.alloc (.cells #[.int .u8 1, .int .i64 0, .int .i64 0, .int .i64 0, .int .i64 0, .complex .f64 0 0, .int .i64 0, .int .i64 0] 42)).heap.size = w1.heap.size + 1 := World.size_alloc _ _
  generalize w1.alloc (.cells #[.int .u8 1, .int .i64 0, .int .i64 0, .int .i64 0, .int .i64 0, .complex .f64 0 0, .int .i64 0, .int .i64 0] 42) = w2 at *
  have Q5 : ∀ m, Calls Try.prog 24 #[.slice (some ⟨blk, off + 12, none⟩) 4 (20 + c - 12)] (w2.drewN m) fun e w'' => e = .returned (.int .i64 x) ∧ w'' = w2.drewN m := fun m => (HP5.out (w2.drewN m) (hb2.trans ⟨rfl, rfl, rfl, Nat.le_refl _, fun _ _ => rfl⟩)).mono (by rintro e w' ⟨rfl, rfl⟩; exact ⟨rfl, rfl⟩)
  have Q6 : ∀ m, Calls Try.prog 24 #[.slice (some ⟨blk, off + 16, none⟩) 4 (20 + c - 16)] (w2.drewN m) fun e w'' => e = .returned (.int .i64 y) ∧ w'' = w2.drewN m := fun m => (HP6.out (w2.drewN m) (hb2.trans ⟨rfl, rfl, rfl, Nat.le_refl _, fun _ _ => rfl⟩)).mono (by rintro e w' ⟨rfl, rfl⟩; exact ⟨rfl, rfl⟩)
  have QM := fun m => (HM.out (w2.drewN m)).mono (fun e w' h => And.intro h.1 h.2.symm)
  go_quiet (first | (go_at_call 24; with_reducible exact Calls.quiet_of_same (Q5 _)) | (go_at_call 24; with_reducible exact Calls.quiet_of_same (Q6 _)) | (go_at_call 23; with_reducible exact Calls.quiet_of_same (QM _)))
  have hd : Below w2.heap.size w2 (w2.drewN nq) := ⟨rfl, rfl, rfl, Nat.le_refl _, fun _ _ => rfl⟩
  have hm3 := hm2.later hlt2 hd
  have hb3 := hb2.trans (hd.mono (Nat.le_of_lt hlt2))
  have hr3 := hr2.later hd
  have hq3 := hq2.later (by omega) hd
  have hz7 := bcell hb3 hblk z7
  have hz11 := bcell hb3 hblk z11
  have hs3 : (w2.drewN nq).heap.size = w1.heap.size + 1 := hs2
  clear hm hb hm2 hb2 Q5 Q6 QM HP5 HP6 HM hc0 hr2 hd hlt2 hs2 hbw hq2
  generalize w2.drewN nq = w3 at *
  obtain ⟨hl3, k0, k1, k2, k3, k4, k5, k6, k7⟩ := hr3
  have f1 := (hq3 1 (by omega)).2
  have f2 := (hq3 2 (by omega)).2
  have f3 := (hq3 3 (by omega)).2
  have f4 := (hq3 4 (by omega)).2
  have f5 := (hq3 5 (by omega)).2
  go_wp2_with fail
  have T1 : Calls Try.prog 22 #[.slice (some ⟨blk, off + 1, none⟩) 6 (19 + c)] w3.drew fun e w'' => e = .returned (.int .i64 t) ∧ w'' = w3.drew := (HT.out w3.drew hb3.drew).mono (fun e w' h => And.intro h.1 h.2.symm)
  have T2 : Calls Try.prog 22 #[.slice (some ⟨blk, off + 8, none⟩) 3 (20 + c - 8)] w3.drew fun e w'' => e = .returned (.int .i64 n3) ∧ w'' = w3.drew := (HS.out w3.drew hb3.drew).mono (fun e w' h => And.intro h.1 h.2.symm)
  have hmx : Try.prog.follows .mixedOrders = true := by kernel_rfl
  have s7 : (7 : Int) ≤ 20 + (c : Int) := by omega
  have s11 : (11 : Int) ≤ 20 + (c : Int) := by omega
  have s1 : ¬ 20 + c = 1 := by omega
  have s8 : ¬ 20 + c = 8 := by omega
  have i7 : (7 : Int) < 20 := by omega
  refine wp_region_still_tail 17 hmx (by kernel_rfl) ?_
  change wpStill _ _ w3.drew _ _ _
  simp only [List.take_succ_cons, List.take_zero, List.drop_succ_cons, List.drop_zero]
  repeat (first | still_step | still_call (by with_reducible exact T1) | still_call (by with_reducible exact T2))
  refine wpStill_nil ?_
  change wpList _ _ _ _ _ w3.drew
  have hd4 : Below w3.heap.size w3 w3.drew := ⟨rfl, rfl, rfl, Nat.le_refl _, fun _ _ => rfl⟩
  have hq4 : Room8 w1.heap.size w3.drew := hq3.later (by omega) hd4
  have hm4 : Room8 w.heap.size w3.drew := hm3.later (by omega) hd4
  have hb4 : Below w.heap.size w w3.drew := hb3.drew
  have hs4 : w3.drew.heap.size = w1.heap.size + 1 := hs3
  have j0 : w3.drew.cell? ⟨w1.heap.size, 0, none⟩ = some (.int .u8 1) := k0
  have j1 : w3.drew.cell? ⟨w1.heap.size, 1, none⟩ = some (.int .i64 0) := k1
  have j2 : w3.drew.cell? ⟨w1.heap.size, 2, none⟩ = some (.int .i64 0) := k2
  have j3 : w3.drew.cell? ⟨w1.heap.size, 3, none⟩ = some (.int .i64 0) := k3
  have j4 : w3.drew.cell? ⟨w1.heap.size, 4, none⟩ = some (.int .i64 0) := k4
  have j5 : w3.drew.cell? ⟨w1.heap.size, 5, none⟩ = some (.complex .f64 0 0) := k5
  have j6 : w3.drew.cell? ⟨w1.heap.size, 6, none⟩ = some (.int .i64 0) := k6
  have j7 : w3.drew.cell? ⟨w1.heap.size, 7, none⟩ = some (.int .i64 0) := k7
  clear T1 T2 HT HS hq3 hm3 hb3 hs3 k0 k1 k2 k3 k4 k5 k6 k7 f1 f2 f3 f4 f5 hd4 hz7 hz11 hl3
  generalize w3.drew = w4 at *
  have f1 := (hq4 1 (by omega)).2
  have f2 := (hq4 2 (by omega)).2
  have f3 := (hq4 3 (by omega)).2
  have f4 := (hq4 4 (by omega)).2
  have f5 := (hq4 5 (by omega)).2
  obtain ⟨d0, d1, d2, d3, d4, d5, d6, d7⟩ := five_held (W := w4) (B := w1.heap.size) (v1 := .int .i64 t) (v2 := .int .i64 n2) (v3 := .int .i64 n3) (v4 := .int .i64 n4) (v5 := .complex .f64 p q) hq4 j0 j6 j7
  have hm6 : Room8 w.heap.size (((((w4.setCell ⟨w1.heap.size, 1, none⟩ (.int .i64 t)).setCell ⟨w1.heap.size, 2, none⟩ (.int .i64 n2)).setCell ⟨w1.heap.size, 3, none⟩ (.int .i64 n3)).setCell ⟨w1.heap.size, 4, none⟩ (.int .i64 n4)).setCell ⟨w1.heap.size, 5, none⟩ (.complex .f64 p q)) := ((((hm4.set _ _).set _ _).set _ _).set _ _).set _ _
  have hB6 : Below w.heap.size w (((((w4.setCell ⟨w1.heap.size, 1, none⟩ (.int .i64 t)).setCell ⟨w1.heap.size, 2, none⟩ (.int .i64 n2)).setCell ⟨w1.heap.size, 3, none⟩ (.int .i64 n3)).setCell ⟨w1.heap.size, 4, none⟩ (.int .i64 n4)).setCell ⟨w1.heap.size, 5, none⟩ (.complex .f64 p q)) := ((((hb4.setCell (Nat.le_of_lt hlt) _).setCell (Nat.le_of_lt hlt) _).setCell (Nat.le_of_lt hlt) _).setCell (Nat.le_of_lt hlt) _).setCell (Nat.le_of_lt hlt) _
  have hsz6 : (((((w4.setCell ⟨w1.heap.size, 1, none⟩ (.int .i64 t)).setCell ⟨w1.heap.size, 2, none⟩ (.int .i64 n2)).setCell ⟨w1.heap.size, 3, none⟩ (.int .i64 n3)).setCell ⟨w1.heap.size, 4, none⟩ (.int .i64 n4)).setCell ⟨w1.heap.size, 5, none⟩ (.complex .f64 p q)).heap.size = w1.heap.size + 1 := by simpa [World.setCell] using hs4
  go_wp2_with fail
  generalize (((((w4.setCell ⟨w1.heap.size, 1, none⟩ (.int .i64 t)).setCell ⟨w1.heap.size, 2, none⟩ (.int .i64 n2)).setCell ⟨w1.heap.size, 3, none⟩ (.int .i64 n3)).setCell ⟨w1.heap.size, 4, none⟩ (.int .i64 n4)).setCell ⟨w1.heap.size, 5, none⟩ (.complex .f64 p q)) = w6 at *
  clear hq4 hm4 hb4 hs4 j0 j1 j2 j3 j4 j5 j6 j7 f1 f2 f3 f4 f5
  (with_reducible refine (HR.out _).mono ?_)
  rintro e w7 ⟨rfl, hb7⟩
  have hm7 := hm6.later (by omega) hb7
  have hB7 := hB6.trans (hb7.mono (by omega))
  have k0 := bcell hb7 (by omega) d0
  have k1 := bcell hb7 (by omega) d1
  have k2 := bcell hb7 (by omega) d2
  have k3 := bcell hb7 (by omega) d3
  have k4 := bcell hb7 (by omega) d4
  have k5 := bcell hb7 (by omega) d5
  have k6 := bcell hb7 (by omega) d6
  have k7 := bcell hb7 (by omega) d7
  clear d0 d1 d2 d3 d4 d5 d6 d7 hm6 hB6 hb7 HR
  have r0 := hm7.at (o := 0) (by omega)
  have r1 := hm7.at (o := 1) (by omega)
  have r2 := hm7.at (o := 2) (by omega)
  have r3 := hm7.at (o := 3) (by omega)
  have r4 := hm7.at (o := 4) (by omega)
  have r5 := hm7.at (o := 5) (by omega)
  have r6 := hm7.at (o := 6) (by omega)
  have r7 := hm7.at (o := 7) (by omega)
  have f0 := (hm7 0 (by omega)).2
  have f1 := (hm7 1 (by omega)).2
  have f2 := (hm7 2 (by omega)).2
  have f3 := (hm7 3 (by omega)).2
  have f4 := (hm7 4 (by omega)).2
  have f5 := (hm7 5 (by omega)).2
  have f6 := (hm7 6 (by omega)).2
  have f7 := (hm7 7 (by omega)).2
  go_wp2_with fail
  obtain ⟨d0, d1, d2, d3, d4, d5, d6, d7⟩ := eight_held (W := w7) (B := w.heap.size) (v0 := .int .u8 1) (v1 := .int .i64 t) (v2 := .int .i64 n2) (v3 := .int .i64 n3) (v4 := .int .i64 n4) (v5 := .complex .f64 p q) (v6 := .int .i64 0) (v7 := .int .i64 0) hm7
  have hB4 : Below w.heap.size w ((((((((w7.setCell ⟨w.heap.size, 0, none⟩ (.int .u8 1)).setCell ⟨w.heap.size, 1, none⟩ (.int .i64 t)).setCell ⟨w.heap.size, 2, none⟩ (.int .i64 n2)).setCell ⟨w.heap.size, 3, none⟩ (.int .i64 n3)).setCell ⟨w.heap.size, 4, none⟩ (.int .i64 n4)).setCell ⟨w.heap.size, 5, none⟩ (.complex .f64 p q)).setCell ⟨w.heap.size, 6, none⟩ (.int .i64 0)).setCell ⟨w.heap.size, 7, none⟩ (.int .i64 0)) := (((((((hB7.setCell (Nat.le_refl _) _).setCell (Nat.le_refl _) _).setCell (Nat.le_refl _) _).setCell (Nat.le_refl _) _).setCell (Nat.le_refl _) _).setCell (Nat.le_refl _) _).setCell (Nat.le_refl _) _).setCell (Nat.le_refl _) _
  clear r0 r1 r2 r3 r4 r5 r6 r7 f0 f1 f2 f3 f4 f5 f6 f7 hm7 hB7
  generalize ((((((((w7.setCell ⟨w.heap.size, 0, none⟩ (.int .u8 1)).setCell ⟨w.heap.size, 1, none⟩ (.int .i64 t)).setCell ⟨w.heap.size, 2, none⟩ (.int .i64 n2)).setCell ⟨w.heap.size, 3, none⟩ (.int .i64 n3)).setCell ⟨w.heap.size, 4, none⟩ (.int .i64 n4)).setCell ⟨w.heap.size, 5, none⟩ (.complex .f64 p q)).setCell ⟨w.heap.size, 6, none⟩ (.int .i64 0)).setCell ⟨w.heap.size, 7, none⟩ (.int .i64 0)) = W5 at *
  exact bodyPost_ret (v := .tuple #[RV 1 t n2 n3 n4 p q 0 0, .int .i64 0]) (by simp [results, Try.results15, go_sem, d0, d1, d2, d3, d4, d5, d6, d7]) rfl ⟨rfl, hB4⟩
set_option maxRecDepth 100000 in
set_option maxHeartbeats 8000000 in
theorem refTake_event_no (blk off c : Nat) (zs : List Int) (w : World) (h : BytesAt blk off zs w) (hl : zs.length = 20) (h0 : zs[0]?.getD 0 = 1) (hx : inB (part32 (evV zs 5)) = true) (hy : inB (part32 (evV zs 6)) = true) (hR : ∀ w, Calls Try.prog 25 #[(evtRc zs).v] w fun e w' => e = .returned (.bool false) ∧ Below w.heap.size w w') : RefTook (.slice (some ⟨blk, off, none⟩) 20 (20 + c)) (RV 0 0 0 0 0 0 0 0 0) 11 w := by
  have hm := room_new w
  have hb : Below w.heap.size w (w.alloc (.cells #[.int .u8 0, .int .i64 0, .int .i64 0, .int .i64 0, .int .i64 0, .complex .f64 0 0, .int .i64 0, .int .i64 0] 42)) := (Below.refl _ _).alloc (Nat.le_refl _) _
  have hZ : ∀ i, i < 20 → w.cell? ⟨blk, off + i, none⟩ = some (.int .u8 (zs[i]?.getD 0)) := fun i hi => h.2.1 i (by omega)
  have hblk := h.1
  have hbyt := h.2.2
  have hz0 : w.cell? ⟨blk, off, none⟩ = some (.int .u8 (zs[0]?.getD 0)) := hZ 0 (by omega)
  rw [h0] at hz0
  have hc0 := bcell hb hblk hz0
  have b5 := evV_four zs 12 hl hbyt
  have b6 := evV_four zs 16 hl hbyt
  have hbuild : ∀ w, (Instr.build 42 #[(0, .int .u8 1)]).run Try.prog w = .ok (RV 1 0 0 0 0 0 0 0 0) w := fun w => run_build w 42 _ _ (by kernel_rfl)
  have HP5 : Hid (∀ w', Below w.heap.size w w' → Calls Try.prog 24 #[.slice (some ⟨blk, off + 12, none⟩) 4 (20 + c - 12)] w' fun e w'' => e = .returned (.int .i64 (part32 (evV zs 5))) ∧ w' = w'') := fun w' hw =>
    refPart _ _ _ _ rfl _ w' (refChunk blk off 12 4 (20 + c - 12) 20 zs w' (fun i hi => bcell hw hblk (hZ i hi)) hl hbyt (by omega) (by omega) (by omega) (by omega)) b5.1 b5.2
  have HP6 : Hid (∀ w', Below w.heap.size w w' → Calls Try.prog 24 #[.slice (some ⟨blk, off + 16, none⟩) 4 (20 + c - 16)] w' fun e w'' => e = .returned (.int .i64 (part32 (evV zs 6))) ∧ w' = w'') := fun w' hw =>
    refPart _ _ _ _ rfl _ w' (refChunk blk off 16 4 (20 + c - 16) 20 zs w' (fun i hi => bcell hw hblk (hZ i hi)) hl hbyt (by omega) (by omega) (by omega) (by omega)) b6.1 b6.2
  have HM := Lib.hid (fun w => refMake_yes (part32 (evV zs 5)) (part32 (evV zs 6)) hx hy w)
  have HT : Hid (∀ w', Below w.heap.size w w' → Calls Try.prog 22 #[.slice (some ⟨blk, off + 1, none⟩) 6 (19 + c)] w' fun e w'' => e = .returned (.int .i64 (evV zs 1)) ∧ w' = w'') := fun w' hw =>
    refChunk blk off 1 6 (19 + c) 20 zs w' (fun i hi => bcell hw hblk (hZ i hi)) hl hbyt (by omega) (by omega) (by omega) (by omega)
  have HS : Hid (∀ w', Below w.heap.size w w' → Calls Try.prog 22 #[.slice (some ⟨blk, off + 8, none⟩) 3 (20 + c - 8)] w' fun e w'' => e = .returned (.int .i64 (evV zs 3)) ∧ w' = w'') := fun w' hw =>
    refChunk blk off 8 3 (20 + c - 8) 20 zs w' (fun i hi => bcell hw hblk (hZ i hi)) hl hbyt (by omega) (by omega) (by omega) (by omega)
  have e7 : evV zs 2 = zs[7]?.getD 0 := ref_ck1 zs 7 (by omega)
  have e11 : evV zs 4 = zs[11]?.getD 0 := ref_ck1 zs 11 (by omega)
  have by7 := hbyt (zs[7]?.getD 0) (by simp [show 7 < zs.length by omega])
  have by11 := hbyt (zs[11]?.getD 0) (by simp [show 11 < zs.length by omega])
  have z7 := hZ 7 (by omega)
  have z11 := hZ 11 (by omega)
  rw [← e7] at z7 by7
  rw [← e11] at z11 by11
  have HR : Hid (∀ w, Calls Try.prog 25 #[RV 1 (evV zs 1) (evV zs 2) (evV zs 3) (evV zs 4) (floatOfInt .f64 (part32 (evV zs 5))) (floatOfInt .f64 (part32 (evV zs 6))) 0 0] w fun e w' => e = .returned (.bool false) ∧ Below w.heap.size w w') := hR
  skip
  clear hR hx hy hZ hbyt b5 b6 h hz0 h0 hl e7 e11
  obtain ⟨x, hx⟩ : ∃ x, part32 (evV zs 5) = x := ⟨_, rfl⟩
  obtain ⟨y, hy⟩ : ∃ y, part32 (evV zs 6) = y := ⟨_, rfl⟩
  rw [hx, hy] at HM HR
  rw [hx] at HP5
  rw [hy] at HP6
  clear hx hy
  generalize evV zs 1 = t at *
  generalize evV zs 2 = n2 at *
  generalize evV zs 3 = n3 at *
  generalize evV zs 4 = n4 at *
  generalize floatOfInt .f64 x = p at *
  generalize floatOfInt .f64 y = q at *
  obtain ⟨by7a, by7b⟩ := by7
  obtain ⟨by11a, by11b⟩ := by11
  have hlt : w.heap.size < (w.alloc (.cells #[.int .u8 0, .int .i64 0, .int .i64 0, .int .i64 0, .int .i64 0, .complex .f64 0 0, .int .i64 0, .int .i64 0] 42)).heap.size := by simp
  have hbw : blk < (w.alloc (.cells #[.int .u8 0, .int .i64 0, .int .i64 0, .int .i64 0, .int .i64 0, .complex .f64 0 0, .int .i64 0, .int .i64 0] 42)).heap.size := by simp; omega
  go_enter Try.func15, Try.ntmps15
  go_wp2_with fail
  generalize w.alloc (.cells #[.int .u8 0, .int .i64 0, .int .i64 0, .int .i64 0, .int .i64 0, .complex .f64 0 0, .int .i64 0, .int .i64 0] 42) = w1 at *
  (with_reducible refine (refSize_event _).mono ?_)
  rintro e w2 ⟨rfl, rfl⟩
  go_wp2_with fail
  have hr2 := RecAt.new w1 1 0 0 0 0 0 0 0 0
  have hb2 := hb.alloc hb.size (.cells #[.int .u8 1, .int .i64 0, .int .i64 0, .int .i64 0, .int .i64 0, .complex .f64 0 0, .int .i64 0, .int .i64 0] 42)
  have hm2 := hm.later hlt ((Below.refl _ w1).alloc (Nat.le_refl _) (.cells #[.int .u8 1, .int .i64 0, .int .i64 0, .int .i64 0, .int .i64 0, .complex .f64 0 0, .int .i64 0, .int .i64 0] 42))
  have hq2 := room_rec w1 1 0 0 0 0 0 0 0 0
  have hlt2 : w.heap.size < (w1.alloc (.cells #[.int .u8 1, .int .i64 0, .int .i64 0, .int .i64 0, .int .i64 0, .complex .f64 0 0, .int .i64 0, .int .i64 0] 42)).heap.size := by simp; omega
  have hs2 : (w1.alloc (.cells #[.int .u8 1, .int .i64 0, .int .i64 0, .int .i64 0, .int .i64 0, .complex .f64 0 0, .int .i64 0, .int .i64 0] 42)).heap.size = w1.heap.size + 1 := World.size_alloc _ _
  generalize w1.alloc (.cells #[.int .u8 1, .int .i64 0, .int .i64 0, .int .i64 0, .int .i64 0, .complex .f64 0 0, .int .i64 0, .int .i64 0] 42) = w2 at *
  have Q5 : ∀ m, Calls Try.prog 24 #[.slice (some ⟨blk, off + 12, none⟩) 4 (20 + c - 12)] (w2.drewN m) fun e w'' => e = .returned (.int .i64 x) ∧ w'' = w2.drewN m := fun m => (HP5.out (w2.drewN m) (hb2.trans ⟨rfl, rfl, rfl, Nat.le_refl _, fun _ _ => rfl⟩)).mono (by rintro e w' ⟨rfl, rfl⟩; exact ⟨rfl, rfl⟩)
  have Q6 : ∀ m, Calls Try.prog 24 #[.slice (some ⟨blk, off + 16, none⟩) 4 (20 + c - 16)] (w2.drewN m) fun e w'' => e = .returned (.int .i64 y) ∧ w'' = w2.drewN m := fun m => (HP6.out (w2.drewN m) (hb2.trans ⟨rfl, rfl, rfl, Nat.le_refl _, fun _ _ => rfl⟩)).mono (by rintro e w' ⟨rfl, rfl⟩; exact ⟨rfl, rfl⟩)
  have QM := fun m => (HM.out (w2.drewN m)).mono (fun e w' h => And.intro h.1 h.2.symm)
  go_quiet (first | (go_at_call 24; with_reducible exact Calls.quiet_of_same (Q5 _)) | (go_at_call 24; with_reducible exact Calls.quiet_of_same (Q6 _)) | (go_at_call 23; with_reducible exact Calls.quiet_of_same (QM _)))
  have hd : Below w2.heap.size w2 (w2.drewN nq) := ⟨rfl, rfl, rfl, Nat.le_refl _, fun _ _ => rfl⟩
  have hm3 := hm2.later hlt2 hd
  have hb3 := hb2.trans (hd.mono (Nat.le_of_lt hlt2))
  have hr3 := hr2.later hd
  have hq3 := hq2.later (by omega) hd
  have hz7 := bcell hb3 hblk z7
  have hz11 := bcell hb3 hblk z11
  have hs3 : (w2.drewN nq).heap.size = w1.heap.size + 1 := hs2
  clear hm hb hm2 hb2 Q5 Q6 QM HP5 HP6 HM hc0 hr2 hd hlt2 hs2 hbw hq2
  generalize w2.drewN nq = w3 at *
  obtain ⟨hl3, k0, k1, k2, k3, k4, k5, k6, k7⟩ := hr3
  have f1 := (hq3 1 (by omega)).2
  have f2 := (hq3 2 (by omega)).2
  have f3 := (hq3 3 (by omega)).2
  have f4 := (hq3 4 (by omega)).2
  have f5 := (hq3 5 (by omega)).2
  go_wp2_with fail
  have T1 : Calls Try.prog 22 #[.slice (some ⟨blk, off + 1, none⟩) 6 (19 + c)] w3.drew fun e w'' => e = .returned (.int .i64 t) ∧ w'' = w3.drew := (HT.out w3.drew hb3.drew).mono (fun e w' h => And.intro h.1 h.2.symm)
  have T2 : Calls Try.prog 22 #[.slice (some ⟨blk, off + 8, none⟩) 3 (20 + c - 8)] w3.drew fun e w'' => e = .returned (.int .i64 n3) ∧ w'' = w3.drew := (HS.out w3.drew hb3.drew).mono (fun e w' h => And.intro h.1 h.2.symm)
  have hmx : Try.prog.follows .mixedOrders = true := by kernel_rfl
  have s7 : (7 : Int) ≤ 20 + (c : Int) := by omega
  have s11 : (11 : Int) ≤ 20 + (c : Int) := by omega
  have s1 : ¬ 20 + c = 1 := by omega
  have s8 : ¬ 20 + c = 8 := by omega
  have i7 : (7 : Int) < 20 := by omega
  refine wp_region_still_tail 17 hmx (by kernel_rfl) ?_
  change wpStill _ _ w3.drew _ _ _
  simp only [List.take_succ_cons, List.take_zero, List.drop_succ_cons, List.drop_zero]
  repeat (first | still_step | still_call (by with_reducible exact T1) | still_call (by with_reducible exact T2))
  refine wpStill_nil ?_
  change wpList _ _ _ _ _ w3.drew
  have hd4 : Below w3.heap.size w3 w3.drew := ⟨rfl, rfl, rfl, Nat.le_refl _, fun _ _ => rfl⟩
  have hq4 : Room8 w1.heap.size w3.drew := hq3.later (by omega) hd4
  have hm4 : Room8 w.heap.size w3.drew := hm3.later (by omega) hd4
  have hb4 : Below w.heap.size w w3.drew := hb3.drew
  have hs4 : w3.drew.heap.size = w1.heap.size + 1 := hs3
  have j0 : w3.drew.cell? ⟨w1.heap.size, 0, none⟩ = some (.int .u8 1) := k0
  have j1 : w3.drew.cell? ⟨w1.heap.size, 1, none⟩ = some (.int .i64 0) := k1
  have j2 : w3.drew.cell? ⟨w1.heap.size, 2, none⟩ = some (.int .i64 0) := k2
  have j3 : w3.drew.cell? ⟨w1.heap.size, 3, none⟩ = some (.int .i64 0) := k3
  have j4 : w3.drew.cell? ⟨w1.heap.size, 4, none⟩ = some (.int .i64 0) := k4
  have j5 : w3.drew.cell? ⟨w1.heap.size, 5, none⟩ = some (.complex .f64 0 0) := k5
  have j6 : w3.drew.cell? ⟨w1.heap.size, 6, none⟩ = some (.int .i64 0) := k6
  have j7 : w3.drew.cell? ⟨w1.heap.size, 7, none⟩ = some (.int .i64 0) := k7
  clear T1 T2 HT HS hq3 hm3 hb3 hs3 k0 k1 k2 k3 k4 k5 k6 k7 f1 f2 f3 f4 f5 hd4 hz7 hz11 hl3
  generalize w3.drew = w4 at *
  have f1 := (hq4 1 (by omega)).2
  have f2 := (hq4 2 (by omega)).2
  have f3 := (hq4 3 (by omega)).2
  have f4 := (hq4 4 (by omega)).2
  have f5 := (hq4 5 (by omega)).2
  obtain ⟨d0, d1, d2, d3, d4, d5, d6, d7⟩ := five_held (W := w4) (B := w1.heap.size) (v1 := .int .i64 t) (v2 := .int .i64 n2) (v3 := .int .i64 n3) (v4 := .int .i64 n4) (v5 := .complex .f64 p q) hq4 j0 j6 j7
  have hm6 : Room8 w.heap.size (((((w4.setCell ⟨w1.heap.size, 1, none⟩ (.int .i64 t)).setCell ⟨w1.heap.size, 2, none⟩ (.int .i64 n2)).setCell ⟨w1.heap.size, 3, none⟩ (.int .i64 n3)).setCell ⟨w1.heap.size, 4, none⟩ (.int .i64 n4)).setCell ⟨w1.heap.size, 5, none⟩ (.complex .f64 p q)) := ((((hm4.set _ _).set _ _).set _ _).set _ _).set _ _
  have hB6 : Below w.heap.size w (((((w4.setCell ⟨w1.heap.size, 1, none⟩ (.int .i64 t)).setCell ⟨w1.heap.size, 2, none⟩ (.int .i64 n2)).setCell ⟨w1.heap.size, 3, none⟩ (.int .i64 n3)).setCell ⟨w1.heap.size, 4, none⟩ (.int .i64 n4)).setCell ⟨w1.heap.size, 5, none⟩ (.complex .f64 p q)) := ((((hb4.setCell (Nat.le_of_lt hlt) _).setCell (Nat.le_of_lt hlt) _).setCell (Nat.le_of_lt hlt) _).setCell (Nat.le_of_lt hlt) _).setCell (Nat.le_of_lt hlt) _
  have hsz6 : (((((w4.setCell ⟨w1.heap.size, 1, none⟩ (.int .i64 t)).setCell ⟨w1.heap.size, 2, none⟩ (.int .i64 n2)).setCell ⟨w1.heap.size, 3, none⟩ (.int .i64 n3)).setCell ⟨w1.heap.size, 4, none⟩ (.int .i64 n4)).setCell ⟨w1.heap.size, 5, none⟩ (.complex .f64 p q)).heap.size = w1.heap.size + 1 := by simpa [World.setCell] using hs4
  go_wp2_with fail
  generalize (((((w4.setCell ⟨w1.heap.size, 1, none⟩ (.int .i64 t)).setCell ⟨w1.heap.size, 2, none⟩ (.int .i64 n2)).setCell ⟨w1.heap.size, 3, none⟩ (.int .i64 n3)).setCell ⟨w1.heap.size, 4, none⟩ (.int .i64 n4)).setCell ⟨w1.heap.size, 5, none⟩ (.complex .f64 p q)) = w6 at *
  clear hq4 hm4 hb4 hs4 j0 j1 j2 j3 j4 j5 j6 j7 f1 f2 f3 f4 f5
  (with_reducible refine (HR.out _).mono ?_)
  rintro e w7 ⟨rfl, hb7⟩
  have hm7 := hm6.later (by omega) hb7
  have hB7 := hB6.trans (hb7.mono (by omega))
  have k0 := bcell hb7 (by omega) d0
  have k1 := bcell hb7 (by omega) d1
  have k2 := bcell hb7 (by omega) d2
  have k3 := bcell hb7 (by omega) d3
  have k4 := bcell hb7 (by omega) d4
  have k5 := bcell hb7 (by omega) d5
  have k6 := bcell hb7 (by omega) d6
  have k7 := bcell hb7 (by omega) d7
  clear d0 d1 d2 d3 d4 d5 d6 d7 hm6 hB6 hb7 HR
  have r0 := hm7.at (o := 0) (by omega)
  have r1 := hm7.at (o := 1) (by omega)
  have r2 := hm7.at (o := 2) (by omega)
  have r3 := hm7.at (o := 3) (by omega)
  have r4 := hm7.at (o := 4) (by omega)
  have r5 := hm7.at (o := 5) (by omega)
  have r6 := hm7.at (o := 6) (by omega)
  have r7 := hm7.at (o := 7) (by omega)
  have f0 := (hm7 0 (by omega)).2
  have f1 := (hm7 1 (by omega)).2
  have f2 := (hm7 2 (by omega)).2
  have f3 := (hm7 3 (by omega)).2
  have f4 := (hm7 4 (by omega)).2
  have f5 := (hm7 5 (by omega)).2
  have f6 := (hm7 6 (by omega)).2
  have f7 := (hm7 7 (by omega)).2
  go_wp2_with fail
  obtain ⟨d0, d1, d2, d3, d4, d5, d6, d7⟩ := eight_held (W := w7) (B := w.heap.size) (v0 := .int .u8 0) (v1 := .int .i64 0) (v2 := .int .i64 0) (v3 := .int .i64 0) (v4 := .int .i64 0) (v5 := .complex .f64 0 0) (v6 := .int .i64 0) (v7 := .int .i64 0) hm7
  have hB4 : Below w.heap.size w ((((((((w7.setCell ⟨w.heap.size, 0, none⟩ (.int .u8 0)).setCell ⟨w.heap.size, 1, none⟩ (.int .i64 0)).setCell ⟨w.heap.size, 2, none⟩ (.int .i64 0)).setCell ⟨w.heap.size, 3, none⟩ (.int .i64 0)).setCell ⟨w.heap.size, 4, none⟩ (.int .i64 0)).setCell ⟨w.heap.size, 5, none⟩ (.complex .f64 0 0)).setCell ⟨w.heap.size, 6, none⟩ (.int .i64 0)).setCell ⟨w.heap.size, 7, none⟩ (.int .i64 0)) := (((((((hB7.setCell (Nat.le_refl _) _).setCell (Nat.le_refl _) _).setCell (Nat.le_refl _) _).setCell (Nat.le_refl _) _).setCell (Nat.le_refl _) _).setCell (Nat.le_refl _) _).setCell (Nat.le_refl _) _).setCell (Nat.le_refl _) _
  clear r0 r1 r2 r3 r4 r5 r6 r7 f0 f1 f2 f3 f4 f5 f6 f7 hm7 hB7
  generalize ((((((((w7.setCell ⟨w.heap.size, 0, none⟩ (.int .u8 0)).setCell ⟨w.heap.size, 1, none⟩ (.int .i64 0)).setCell ⟨w.heap.size, 2, none⟩ (.int .i64 0)).setCell ⟨w.heap.size, 3, none⟩ (.int .i64 0)).setCell ⟨w.heap.size, 4, none⟩ (.int .i64 0)).setCell ⟨w.heap.size, 5, none⟩ (.complex .f64 0 0)).setCell ⟨w.heap.size, 6, none⟩ (.int .i64 0)).setCell ⟨w.heap.size, 7, none⟩ (.int .i64 0)) = W5 at *
  exact bodyPost_ret (v := .tuple #[RV 0 0 0 0 0 0 0 0 0, .int .i64 11]) (by simp [results, Try.results15, go_sem, d0, d1, d2, d3, d4, d5, d6, d7]) rfl ⟨rfl, hB4⟩
end Go.Proofs.Ytepbjjddpfejnaa
