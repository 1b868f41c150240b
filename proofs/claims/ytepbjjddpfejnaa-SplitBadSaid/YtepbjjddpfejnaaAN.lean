/-
  What the document's own Take answers of any bytes in memory: the same as wire's; no other condition.
-/
import Derived.Test.YtepbjjddpfejnaaAM
namespace Go.Proofs.Ytepbjjddpfejnaa
open Go.ChangeShapes Go.WideShapes Go.ChangeAt Go.RowKit
set_option linter.unusedVariables false
set_option linter.unusedSimpArgs false
/-- What the document's own Take answers. -/
abbrev RefTook (s : Value) (r : Value) (e : Int) (w : World) : Prop := Calls Try.prog 15 #[s] w fun x w' => x = .returned (.tuple #[r, .int .i64 e]) ∧ Below w.heap.size w w'
set_option maxRecDepth 100000 in
set_option maxHeartbeats 2000000 in
theorem refTake_empty (a : Option Addr) (cap : Nat) (w : World) : RefTook (.slice a 0 cap) (RV 0 0 0 0 0 0 0 0 0) 50 w := by
  have hm := room_new w
  have hb : Below w.heap.size w (w.alloc (.cells #[.int .u8 0, .int .i64 0, .int .i64 0, .int .i64 0, .int .i64 0, .complex .f64 0 0, .int .i64 0, .int .i64 0] 42)) := (Below.refl _ _).alloc (Nat.le_refl _) _
  go_enter Try.func15, Try.ntmps15
  go_wp2_with fail
  exact bodyPost_ret (v := .tuple #[RV 0 0 0 0 0 0 0 0 0, .int .i64 50]) (by simp [results, Try.results15, go_sem]) rfl ⟨rfl, hb⟩
set_option maxRecDepth 100000 in
set_option maxHeartbeats 2000000 in
theorem refTake_kind (blk off cap len : Nat) (z : Int) (w : World) (hblk : blk < w.heap.size) (hc : w.cell? ⟨blk, off, none⟩ = some (.int .u8 z)) (h0 : 0 < len) (h1 : (z == 1) = false) (h2 : (z == 2) = false) : RefTook (.slice (some ⟨blk, off, none⟩) len cap) (RV 0 0 0 0 0 0 0 0 0) 11 w := by
  have hm := room_new w
  have hb : Below w.heap.size w (w.alloc (.cells #[.int .u8 0, .int .i64 0, .int .i64 0, .int .i64 0, .int .i64 0, .complex .f64 0 0, .int .i64 0, .int .i64 0] 42)) := (Below.refl _ _).alloc (Nat.le_refl _) _
  have hl : ((len : Int) == 0) = false := by simp; omega
  have hl2 : (0 : Int) < len := by omega
  have hc1 := bcell hb hblk hc
  go_enter Try.func15, Try.ntmps15
  go_wp2_with fail
  generalize w.alloc (.cells #[.int .u8 0, .int .i64 0, .int .i64 0, .int .i64 0, .int .i64 0, .complex .f64 0 0, .int .i64 0, .int .i64 0] 42) = w1 at *
  have r0 := hm.at (o := 0) (by omega)
  have r1 := hm.at (o := 1) (by omega)
  have r2 := hm.at (o := 2) (by omega)
  have r3 := hm.at (o := 3) (by omega)
  have r4 := hm.at (o := 4) (by omega)
  have r5 := hm.at (o := 5) (by omega)
  have r6 := hm.at (o := 6) (by omega)
  have r7 := hm.at (o := 7) (by omega)
  have f0 := (hm 0 (by omega)).2
  have f1 := (hm 1 (by omega)).2
  have f2 := (hm 2 (by omega)).2
  have f3 := (hm 3 (by omega)).2
  have f4 := (hm 4 (by omega)).2
  have f5 := (hm 5 (by omega)).2
  have f6 := (hm 6 (by omega)).2
  have f7 := (hm 7 (by omega)).2
  (with_reducible refine (refSize_none z h1 h2 _).mono ?_)
  rintro e w2 ⟨rfl, rfl⟩
  go_wp2
  obtain ⟨d0, d1, d2, d3, d4, d5, d6, d7⟩ := eight_held (W := w1) (B := w.heap.size) (v0 := .int .u8 0) (v1 := .int .i64 0) (v2 := .int .i64 0) (v3 := .int .i64 0) (v4 := .int .i64 0) (v5 := .complex .f64 0 0) (v6 := .int .i64 0) (v7 := .int .i64 0) hm
  have hB4 : Below w.heap.size w ((((((((w1.setCell ⟨w.heap.size, 0, none⟩ (.int .u8 0)).setCell ⟨w.heap.size, 1, none⟩ (.int .i64 0)).setCell ⟨w.heap.size, 2, none⟩ (.int .i64 0)).setCell ⟨w.heap.size, 3, none⟩ (.int .i64 0)).setCell ⟨w.heap.size, 4, none⟩ (.int .i64 0)).setCell ⟨w.heap.size, 5, none⟩ (.complex .f64 0 0)).setCell ⟨w.heap.size, 6, none⟩ (.int .i64 0)).setCell ⟨w.heap.size, 7, none⟩ (.int .i64 0)) := (((((((hb.setCell (Nat.le_refl _) _).setCell (Nat.le_refl _) _).setCell (Nat.le_refl _) _).setCell (Nat.le_refl _) _).setCell (Nat.le_refl _) _).setCell (Nat.le_refl _) _).setCell (Nat.le_refl _) _).setCell (Nat.le_refl _) _
  clear r0 r1 r2 r3 r4 r5 r6 r7 f0 f1 f2 f3 f4 f5 f6 f7 hm hb
  generalize ((((((((w1.setCell ⟨w.heap.size, 0, none⟩ (.int .u8 0)).setCell ⟨w.heap.size, 1, none⟩ (.int .i64 0)).setCell ⟨w.heap.size, 2, none⟩ (.int .i64 0)).setCell ⟨w.heap.size, 3, none⟩ (.int .i64 0)).setCell ⟨w.heap.size, 4, none⟩ (.int .i64 0)).setCell ⟨w.heap.size, 5, none⟩ (.complex .f64 0 0)).setCell ⟨w.heap.size, 6, none⟩ (.int .i64 0)).setCell ⟨w.heap.size, 7, none⟩ (.int .i64 0)) = W5 at *
  exact bodyPost_ret (v := .tuple #[RV 0 0 0 0 0 0 0 0 0, .int .i64 11]) (by simp [results, Try.results15, go_sem, d0, d1, d2, d3, d4, d5, d6, d7]) rfl ⟨rfl, hB4⟩
set_option maxRecDepth 100000 in
set_option maxHeartbeats 2000000 in
theorem refTake_shortE (blk off cap len : Nat) (z : Int) (w : World) (hblk : blk < w.heap.size) (hc : w.cell? ⟨blk, off, none⟩ = some (.int .u8 z)) (h0 : 0 < len) (hz : z = 1) (hs : len < 20) : RefTook (.slice (some ⟨blk, off, none⟩) len cap) (RV 0 0 0 0 0 0 0 0 0) 50 w := by
  have hm := room_new w
  have hb : Below w.heap.size w (w.alloc (.cells #[.int .u8 0, .int .i64 0, .int .i64 0, .int .i64 0, .int .i64 0, .complex .f64 0 0, .int .i64 0, .int .i64 0] 42)) := (Below.refl _ _).alloc (Nat.le_refl _) _
  have hl : ((len : Int) == 0) = false := by simp; omega
  have hl2 : (0 : Int) < len := by omega
  have hc1 := bcell hb hblk hc
  subst hz
  have hlt : (len : Int) < 20 := by omega
  have hlt2 : decide ((len : Int) < 20) = true := decide_eq_true hlt
  go_enter Try.func15, Try.ntmps15
  go_wp2_with fail
  generalize w.alloc (.cells #[.int .u8 0, .int .i64 0, .int .i64 0, .int .i64 0, .int .i64 0, .complex .f64 0 0, .int .i64 0, .int .i64 0] 42) = w1 at *
  have r0 := hm.at (o := 0) (by omega)
  have r1 := hm.at (o := 1) (by omega)
  have r2 := hm.at (o := 2) (by omega)
  have r3 := hm.at (o := 3) (by omega)
  have r4 := hm.at (o := 4) (by omega)
  have r5 := hm.at (o := 5) (by omega)
  have r6 := hm.at (o := 6) (by omega)
  have r7 := hm.at (o := 7) (by omega)
  have f0 := (hm 0 (by omega)).2
  have f1 := (hm 1 (by omega)).2
  have f2 := (hm 2 (by omega)).2
  have f3 := (hm 3 (by omega)).2
  have f4 := (hm 4 (by omega)).2
  have f5 := (hm 5 (by omega)).2
  have f6 := (hm 6 (by omega)).2
  have f7 := (hm 7 (by omega)).2
  (with_reducible refine (refSize_event _).mono ?_)
  rintro e w2 ⟨rfl, rfl⟩
  go_wp2
  obtain ⟨d0, d1, d2, d3, d4, d5, d6, d7⟩ := eight_held (W := w1) (B := w.heap.size) (v0 := .int .u8 0) (v1 := .int .i64 0) (v2 := .int .i64 0) (v3 := .int .i64 0) (v4 := .int .i64 0) (v5 := .complex .f64 0 0) (v6 := .int .i64 0) (v7 := .int .i64 0) hm
  have hB4 : Below w.heap.size w ((((((((w1.setCell ⟨w.heap.size, 0, none⟩ (.int .u8 0)).setCell ⟨w.heap.size, 1, none⟩ (.int .i64 0)).setCell ⟨w.heap.size, 2, none⟩ (.int .i64 0)).setCell ⟨w.heap.size, 3, none⟩ (.int .i64 0)).setCell ⟨w.heap.size, 4, none⟩ (.int .i64 0)).setCell ⟨w.heap.size, 5, none⟩ (.complex .f64 0 0)).setCell ⟨w.heap.size, 6, none⟩ (.int .i64 0)).setCell ⟨w.heap.size, 7, none⟩ (.int .i64 0)) := (((((((hb.setCell (Nat.le_refl _) _).setCell (Nat.le_refl _) _).setCell (Nat.le_refl _) _).setCell (Nat.le_refl _) _).setCell (Nat.le_refl _) _).setCell (Nat.le_refl _) _).setCell (Nat.le_refl _) _).setCell (Nat.le_refl _) _
  clear r0 r1 r2 r3 r4 r5 r6 r7 f0 f1 f2 f3 f4 f5 f6 f7 hm hb
  generalize ((((((((w1.setCell ⟨w.heap.size, 0, none⟩ (.int .u8 0)).setCell ⟨w.heap.size, 1, none⟩ (.int .i64 0)).setCell ⟨w.heap.size, 2, none⟩ (.int .i64 0)).setCell ⟨w.heap.size, 3, none⟩ (.int .i64 0)).setCell ⟨w.heap.size, 4, none⟩ (.int .i64 0)).setCell ⟨w.heap.size, 5, none⟩ (.complex .f64 0 0)).setCell ⟨w.heap.size, 6, none⟩ (.int .i64 0)).setCell ⟨w.heap.size, 7, none⟩ (.int .i64 0)) = W5 at *
  exact bodyPost_ret (v := .tuple #[RV 0 0 0 0 0 0 0 0 0, .int .i64 50]) (by simp [results, Try.results15, go_sem, d0, d1, d2, d3, d4, d5, d6, d7]) rfl ⟨rfl, hB4⟩
set_option maxRecDepth 100000 in
set_option maxHeartbeats 2000000 in
theorem refTake_longE (blk off cap len : Nat) (z : Int) (w : World) (hblk : blk < w.heap.size) (hc : w.cell? ⟨blk, off, none⟩ = some (.int .u8 z)) (h0 : 0 < len) (hz : z = 1) (hs : 20 < len) (hm0 : len ≤ 1000) : RefTook (.slice (some ⟨blk, off, none⟩) len cap) (RV 0 0 0 0 0 0 0 0 0) 11 w := by
  have hm := room_new w
  have hb : Below w.heap.size w (w.alloc (.cells #[.int .u8 0, .int .i64 0, .int .i64 0, .int .i64 0, .int .i64 0, .complex .f64 0 0, .int .i64 0, .int .i64 0] 42)) := (Below.refl _ _).alloc (Nat.le_refl _) _
  have hl : ((len : Int) == 0) = false := by simp; omega
  have hl2 : (0 : Int) < len := by omega
  have hc1 := bcell hb hblk hc
  subst hz
  have hlt2 : decide ((len : Int) < 20) = false := decide_eq_false (by omega)
  have hlt3 : decide ((20 : Int) < len) = true := decide_eq_true (by omega)
  go_enter Try.func15, Try.ntmps15
  go_wp2_with fail
  generalize w.alloc (.cells #[.int .u8 0, .int .i64 0, .int .i64 0, .int .i64 0, .int .i64 0, .complex .f64 0 0, .int .i64 0, .int .i64 0] 42) = w1 at *
  have r0 := hm.at (o := 0) (by omega)
  have r1 := hm.at (o := 1) (by omega)
  have r2 := hm.at (o := 2) (by omega)
  have r3 := hm.at (o := 3) (by omega)
  have r4 := hm.at (o := 4) (by omega)
  have r5 := hm.at (o := 5) (by omega)
  have r6 := hm.at (o := 6) (by omega)
  have r7 := hm.at (o := 7) (by omega)
  have f0 := (hm 0 (by omega)).2
  have f1 := (hm 1 (by omega)).2
  have f2 := (hm 2 (by omega)).2
  have f3 := (hm 3 (by omega)).2
  have f4 := (hm 4 (by omega)).2
  have f5 := (hm 5 (by omega)).2
  have f6 := (hm 6 (by omega)).2
  have f7 := (hm 7 (by omega)).2
  (with_reducible refine (refSize_event _).mono ?_)
  rintro e w2 ⟨rfl, rfl⟩
  go_wp2
  obtain ⟨d0, d1, d2, d3, d4, d5, d6, d7⟩ := eight_held (W := w1) (B := w.heap.size) (v0 := .int .u8 0) (v1 := .int .i64 0) (v2 := .int .i64 0) (v3 := .int .i64 0) (v4 := .int .i64 0) (v5 := .complex .f64 0 0) (v6 := .int .i64 0) (v7 := .int .i64 0) hm
  have hB4 : Below w.heap.size w ((((((((w1.setCell ⟨w.heap.size, 0, none⟩ (.int .u8 0)).setCell ⟨w.heap.size, 1, none⟩ (.int .i64 0)).setCell ⟨w.heap.size, 2, none⟩ (.int .i64 0)).setCell ⟨w.heap.size, 3, none⟩ (.int .i64 0)).setCell ⟨w.heap.size, 4, none⟩ (.int .i64 0)).setCell ⟨w.heap.size, 5, none⟩ (.complex .f64 0 0)).setCell ⟨w.heap.size, 6, none⟩ (.int .i64 0)).setCell ⟨w.heap.size, 7, none⟩ (.int .i64 0)) := (((((((hb.setCell (Nat.le_refl _) _).setCell (Nat.le_refl _) _).setCell (Nat.le_refl _) _).setCell (Nat.le_refl _) _).setCell (Nat.le_refl _) _).setCell (Nat.le_refl _) _).setCell (Nat.le_refl _) _).setCell (Nat.le_refl _) _
  clear r0 r1 r2 r3 r4 r5 r6 r7 f0 f1 f2 f3 f4 f5 f6 f7 hm hb
  generalize ((((((((w1.setCell ⟨w.heap.size, 0, none⟩ (.int .u8 0)).setCell ⟨w.heap.size, 1, none⟩ (.int .i64 0)).setCell ⟨w.heap.size, 2, none⟩ (.int .i64 0)).setCell ⟨w.heap.size, 3, none⟩ (.int .i64 0)).setCell ⟨w.heap.size, 4, none⟩ (.int .i64 0)).setCell ⟨w.heap.size, 5, none⟩ (.complex .f64 0 0)).setCell ⟨w.heap.size, 6, none⟩ (.int .i64 0)).setCell ⟨w.heap.size, 7, none⟩ (.int .i64 0)) = W5 at *
  exact bodyPost_ret (v := .tuple #[RV 0 0 0 0 0 0 0 0 0, .int .i64 11]) (by simp [results, Try.results15, go_sem, d0, d1, d2, d3, d4, d5, d6, d7]) rfl ⟨rfl, hB4⟩
set_option maxRecDepth 100000 in
set_option maxHeartbeats 2000000 in
theorem refTake_shortM (blk off cap len : Nat) (z : Int) (w : World) (hblk : blk < w.heap.size) (hc : w.cell? ⟨blk, off, none⟩ = some (.int .u8 z)) (h0 : 0 < len) (hz : z = 2) (hs : len < 8) : RefTook (.slice (some ⟨blk, off, none⟩) len cap) (RV 0 0 0 0 0 0 0 0 0) 50 w := by
  have hm := room_new w
  have hb : Below w.heap.size w (w.alloc (.cells #[.int .u8 0, .int .i64 0, .int .i64 0, .int .i64 0, .int .i64 0, .complex .f64 0 0, .int .i64 0, .int .i64 0] 42)) := (Below.refl _ _).alloc (Nat.le_refl _) _
  have hl : ((len : Int) == 0) = false := by simp; omega
  have hl2 : (0 : Int) < len := by omega
  have hc1 := bcell hb hblk hc
  subst hz
  have hlt2 : decide ((len : Int) < 8) = true := decide_eq_true (by omega)
  go_enter Try.func15, Try.ntmps15
  go_wp2_with fail
  generalize w.alloc (.cells #[.int .u8 0, .int .i64 0, .int .i64 0, .int .i64 0, .int .i64 0, .complex .f64 0 0, .int .i64 0, .int .i64 0] 42) = w1 at *
  have r0 := hm.at (o := 0) (by omega)
  have r1 := hm.at (o := 1) (by omega)
  have r2 := hm.at (o := 2) (by omega)
  have r3 := hm.at (o := 3) (by omega)
  have r4 := hm.at (o := 4) (by omega)
  have r5 := hm.at (o := 5) (by omega)
  have r6 := hm.at (o := 6) (by omega)
  have r7 := hm.at (o := 7) (by omega)
  have f0 := (hm 0 (by omega)).2
  have f1 := (hm 1 (by omega)).2
  have f2 := (hm 2 (by omega)).2
  have f3 := (hm 3 (by omega)).2
  have f4 := (hm 4 (by omega)).2
  have f5 := (hm 5 (by omega)).2
  have f6 := (hm 6 (by omega)).2
  have f7 := (hm 7 (by omega)).2
  (with_reducible refine (refSize_mark _).mono ?_)
  rintro e w2 ⟨rfl, rfl⟩
  go_wp2
  obtain ⟨d0, d1, d2, d3, d4, d5, d6, d7⟩ := eight_held (W := w1) (B := w.heap.size) (v0 := .int .u8 0) (v1 := .int .i64 0) (v2 := .int .i64 0) (v3 := .int .i64 0) (v4 := .int .i64 0) (v5 := .complex .f64 0 0) (v6 := .int .i64 0) (v7 := .int .i64 0) hm
  have hB4 : Below w.heap.size w ((((((((w1.setCell ⟨w.heap.size, 0, none⟩ (.int .u8 0)).setCell ⟨w.heap.size, 1, none⟩ (.int .i64 0)).setCell ⟨w.heap.size, 2, none⟩ (.int .i64 0)).setCell ⟨w.heap.size, 3, none⟩ (.int .i64 0)).setCell ⟨w.heap.size, 4, none⟩ (.int .i64 0)).setCell ⟨w.heap.size, 5, none⟩ (.complex .f64 0 0)).setCell ⟨w.heap.size, 6, none⟩ (.int .i64 0)).setCell ⟨w.heap.size, 7, none⟩ (.int .i64 0)) := (((((((hb.setCell (Nat.le_refl _) _).setCell (Nat.le_refl _) _).setCell (Nat.le_refl _) _).setCell (Nat.le_refl _) _).setCell (Nat.le_refl _) _).setCell (Nat.le_refl _) _).setCell (Nat.le_refl _) _).setCell (Nat.le_refl _) _
  clear r0 r1 r2 r3 r4 r5 r6 r7 f0 f1 f2 f3 f4 f5 f6 f7 hm hb
  generalize ((((((((w1.setCell ⟨w.heap.size, 0, none⟩ (.int .u8 0)).setCell ⟨w.heap.size, 1, none⟩ (.int .i64 0)).setCell ⟨w.heap.size, 2, none⟩ (.int .i64 0)).setCell ⟨w.heap.size, 3, none⟩ (.int .i64 0)).setCell ⟨w.heap.size, 4, none⟩ (.int .i64 0)).setCell ⟨w.heap.size, 5, none⟩ (.complex .f64 0 0)).setCell ⟨w.heap.size, 6, none⟩ (.int .i64 0)).setCell ⟨w.heap.size, 7, none⟩ (.int .i64 0)) = W5 at *
  exact bodyPost_ret (v := .tuple #[RV 0 0 0 0 0 0 0 0 0, .int .i64 50]) (by simp [results, Try.results15, go_sem, d0, d1, d2, d3, d4, d5, d6, d7]) rfl ⟨rfl, hB4⟩
set_option maxRecDepth 100000 in
set_option maxHeartbeats 2000000 in
theorem refTake_longM (blk off cap len : Nat) (z : Int) (w : World) (hblk : blk < w.heap.size) (hc : w.cell? ⟨blk, off, none⟩ = some (.int .u8 z)) (h0 : 0 < len) (hz : z = 2) (hs : 8 < len) (hm0 : len ≤ 1000) : RefTook (.slice (some ⟨blk, off, none⟩) len cap) (RV 0 0 0 0 0 0 0 0 0) 11 w := by
  have hm := room_new w
  have hb : Below w.heap.size w (w.alloc (.cells #[.int .u8 0, .int .i64 0, .int .i64 0, .int .i64 0, .int .i64 0, .complex .f64 0 0, .int .i64 0, .int .i64 0] 42)) := (Below.refl _ _).alloc (Nat.le_refl _) _
  have hl : ((len : Int) == 0) = false := by simp; omega
  have hl2 : (0 : Int) < len := by omega
  have hc1 := bcell hb hblk hc
  subst hz
  have hlt2 : decide ((len : Int) < 8) = false := decide_eq_false (by omega)
  have hlt3 : decide ((8 : Int) < len) = true := decide_eq_true (by omega)
  go_enter Try.func15, Try.ntmps15
  go_wp2_with fail
  generalize w.alloc (.cells #[.int .u8 0, .int .i64 0, .int .i64 0, .int .i64 0, .int .i64 0, .complex .f64 0 0, .int .i64 0, .int .i64 0] 42) = w1 at *
  have r0 := hm.at (o := 0) (by omega)
  have r1 := hm.at (o := 1) (by omega)
  have r2 := hm.at (o := 2) (by omega)
  have r3 := hm.at (o := 3) (by omega)
  have r4 := hm.at (o := 4) (by omega)
  have r5 := hm.at (o := 5) (by omega)
  have r6 := hm.at (o := 6) (by omega)
  have r7 := hm.at (o := 7) (by omega)
  have f0 := (hm 0 (by omega)).2
  have f1 := (hm 1 (by omega)).2
  have f2 := (hm 2 (by omega)).2
  have f3 := (hm 3 (by omega)).2
  have f4 := (hm 4 (by omega)).2
  have f5 := (hm 5 (by omega)).2
  have f6 := (hm 6 (by omega)).2
  have f7 := (hm 7 (by omega)).2
  (with_reducible refine (refSize_mark _).mono ?_)
  rintro e w2 ⟨rfl, rfl⟩
  go_wp2
  obtain ⟨d0, d1, d2, d3, d4, d5, d6, d7⟩ := eight_held (W := w1) (B := w.heap.size) (v0 := .int .u8 0) (v1 := .int .i64 0) (v2 := .int .i64 0) (v3 := .int .i64 0) (v4 := .int .i64 0) (v5 := .complex .f64 0 0) (v6 := .int .i64 0) (v7 := .int .i64 0) hm
  have hB4 : Below w.heap.size w ((((((((w1.setCell ⟨w.heap.size, 0, none⟩ (.int .u8 0)).setCell ⟨w.heap.size, 1, none⟩ (.int .i64 0)).setCell ⟨w.heap.size, 2, none⟩ (.int .i64 0)).setCell ⟨w.heap.size, 3, none⟩ (.int .i64 0)).setCell ⟨w.heap.size, 4, none⟩ (.int .i64 0)).setCell ⟨w.heap.size, 5, none⟩ (.complex .f64 0 0)).setCell ⟨w.heap.size, 6, none⟩ (.int .i64 0)).setCell ⟨w.heap.size, 7, none⟩ (.int .i64 0)) := (((((((hb.setCell (Nat.le_refl _) _).setCell (Nat.le_refl _) _).setCell (Nat.le_refl _) _).setCell (Nat.le_refl _) _).setCell (Nat.le_refl _) _).setCell (Nat.le_refl _) _).setCell (Nat.le_refl _) _).setCell (Nat.le_refl _) _
  clear r0 r1 r2 r3 r4 r5 r6 r7 f0 f1 f2 f3 f4 f5 f6 f7 hm hb
  generalize ((((((((w1.setCell ⟨w.heap.size, 0, none⟩ (.int .u8 0)).setCell ⟨w.heap.size, 1, none⟩ (.int .i64 0)).setCell ⟨w.heap.size, 2, none⟩ (.int .i64 0)).setCell ⟨w.heap.size, 3, none⟩ (.int .i64 0)).setCell ⟨w.heap.size, 4, none⟩ (.int .i64 0)).setCell ⟨w.heap.size, 5, none⟩ (.complex .f64 0 0)).setCell ⟨w.heap.size, 6, none⟩ (.int .i64 0)).setCell ⟨w.heap.size, 7, none⟩ (.int .i64 0)) = W5 at *
  exact bodyPost_ret (v := .tuple #[RV 0 0 0 0 0 0 0 0 0, .int .i64 11]) (by simp [results, Try.results15, go_sem, d0, d1, d2, d3, d4, d5, d6, d7]) rfl ⟨rfl, hB4⟩
theorem ref_ck1 (zs : List Int) (k : Nat) (h : k < zs.length) : takeN (ck zs k 1) = zs[k]?.getD 0 := by
  unfold ck
  rw [List.drop_eq_getElem_cons h]
  show 0 * 256 + zs[k] = _
  simp [h]
set_option maxRecDepth 100000 in
set_option maxHeartbeats 4000000 in
theorem refTake_mark (blk off c : Nat) (zs : List Int) (w : World) (h : BytesAt blk off zs w) (hl : zs.length = 8) (h0 : zs[0]?.getD 0 = 2) (hR : ∀ w, Calls Try.prog 25 #[(markRc zs).v] w fun e w' => e = .returned (.bool true) ∧ Below w.heap.size w w') : RefTook (.slice (some ⟨blk, off, none⟩) 8 (8 + c)) ((markRc zs).v) 0 w := by
  have hm := room_new w
  have hb : Below w.heap.size w (w.alloc (.cells #[.int .u8 0, .int .i64 0, .int .i64 0, .int .i64 0, .int .i64 0, .complex .f64 0 0, .int .i64 0, .int .i64 0] 42)) := (Below.refl _ _).alloc (Nat.le_refl _) _
  have hZ : ∀ i, i < 8 → w.cell? ⟨blk, off + i, none⟩ = some (.int .u8 (zs[i]?.getD 0)) := fun i hi => h.2.1 i (by omega)
  have hblk := h.1
  have hbyt := h.2.2
  have hz0 : w.cell? ⟨blk, off, none⟩ = some (.int .u8 (zs[0]?.getD 0)) := hZ 0 (by omega)
  rw [h0] at hz0
  have hc0 := bcell hb hblk hz0
  have hc1 := bcell hb hblk (hZ 1 (by omega))
  have e1 : takeN (ck zs 1 1) = zs[1]?.getD 0 := ref_ck1 zs 1 (by omega)
  have b1 := hbyt (zs[1]?.getD 0) (by simp [show 1 < zs.length by omega])
  have HR : Hid (∀ w, Calls Try.prog 25 #[RV 2 0 0 0 0 0 0 (zs[1]?.getD 0) (takeN (ck zs 2 6))] w fun e w' => e = .returned (.bool true) ∧ Below w.heap.size w w') := fun w => by
    have := hR w
    unfold markRc at this
    rwa [e1] at this
  have hbuild : ∀ w, (Instr.build 42 #[(0, .int .u8 2)]).run Try.prog w = .ok (RV 2 0 0 0 0 0 0 0 0) w := fun w => run_build w 42 _ _ (by kernel_rfl)
  have HC : Hid (∀ w', Below w.heap.size w w' → Calls Try.prog 22 #[.slice (some ⟨blk, off + 2, none⟩) 6 (8 + c - 2)] w' fun e w'' => e = .returned (.int .i64 (takeN (ck zs 2 6))) ∧ w' = w'') := fun w' hw =>
    refChunk blk off 2 6 (8 + c - 2) 8 zs w' (fun i hi => bcell hw hblk (hZ i hi)) hl hbyt (by omega) (by omega) (by omega) (by omega)
  show RefTook _ (RV 2 0 0 0 0 0 0 (takeN (ck zs 1 1)) (takeN (ck zs 2 6))) 0 w
  rw [e1]
  clear hR h hZ hbyt e1
  generalize zs[1]?.getD 0 = z1 at *
  obtain ⟨bz0, bz1⟩ := b1
  obtain ⟨t, ht⟩ : ∃ t, takeN (ck zs 2 6) = t := ⟨_, rfl⟩
  rw [ht] at HR HC ⊢
  clear ht h0 hl
  have hlt : w.heap.size < (w.alloc (.cells #[.int .u8 0, .int .i64 0, .int .i64 0, .int .i64 0, .int .i64 0, .complex .f64 0 0, .int .i64 0, .int .i64 0] 42)).heap.size := by simp
  have hbw : blk < (w.alloc (.cells #[.int .u8 0, .int .i64 0, .int .i64 0, .int .i64 0, .int .i64 0, .complex .f64 0 0, .int .i64 0, .int .i64 0] 42)).heap.size := by simp; omega
  have hc1' := bcell ((Below.refl _ (w.alloc (.cells #[.int .u8 0, .int .i64 0, .int .i64 0, .int .i64 0, .int .i64 0, .complex .f64 0 0, .int .i64 0, .int .i64 0] 42))).alloc (Nat.le_refl _) (.cells #[.int .u8 2, .int .i64 0, .int .i64 0, .int .i64 0, .int .i64 0, .complex .f64 0 0, .int .i64 0, .int .i64 0] 42)) hbw hc1
  go_enter Try.func15, Try.ntmps15
  go_wp2_with fail
  generalize w.alloc (.cells #[.int .u8 0, .int .i64 0, .int .i64 0, .int .i64 0, .int .i64 0, .complex .f64 0 0, .int .i64 0, .int .i64 0] 42) = w1 at *
  (with_reducible refine (refSize_mark _).mono ?_)
  rintro e w2 ⟨rfl, rfl⟩
  go_wp2_with fail
  (with_reducible refine (HC.out _ (hb.alloc hb.size _)).mono ?_)
  rintro e w3 ⟨rfl, rfl⟩
  have hr3 := RecAt.new w1 2 0 0 0 0 0 0 z1 t
  have hb3 := hb.alloc hb.size (.cells #[.int .u8 2, .int .i64 0, .int .i64 0, .int .i64 0, .int .i64 0, .complex .f64 0 0, .int .i64 z1, .int .i64 t] 42)
  have hm3 := hm.later hlt ((Below.refl _ w1).alloc (Nat.le_refl _) (.cells #[.int .u8 2, .int .i64 0, .int .i64 0, .int .i64 0, .int .i64 0, .complex .f64 0 0, .int .i64 z1, .int .i64 t] 42))
  have hlt3 : w.heap.size < (w1.alloc (.cells #[.int .u8 2, .int .i64 0, .int .i64 0, .int .i64 0, .int .i64 0, .complex .f64 0 0, .int .i64 z1, .int .i64 t] 42)).heap.size := by simp; omega
  clear hm hb HC hc0 hc1 hc1' hbw hlt
  go_wp2_with fail
  (with_reducible refine (HR.out _).mono ?_)
  rintro e w4 ⟨rfl, hb4⟩
  have hr4 := hr3.later hb4
  have hm4 := hm3.later hlt3 hb4
  have hB4' := hb3.trans (hb4.mono (Nat.le_of_lt hlt3))
  clear hr3 hm3 hb3 hb4 hlt3 HR
  obtain ⟨hl4, k0, k1, k2, k3, k4, k5, k6, k7⟩ := hr4
  have r0 := hm4.at (o := 0) (by omega)
  have r1 := hm4.at (o := 1) (by omega)
  have r2 := hm4.at (o := 2) (by omega)
  have r3 := hm4.at (o := 3) (by omega)
  have r4 := hm4.at (o := 4) (by omega)
  have r5 := hm4.at (o := 5) (by omega)
  have r6 := hm4.at (o := 6) (by omega)
  have r7 := hm4.at (o := 7) (by omega)
  have f0 := (hm4 0 (by omega)).2
  have f1 := (hm4 1 (by omega)).2
  have f2 := (hm4 2 (by omega)).2
  have f3 := (hm4 3 (by omega)).2
  have f4 := (hm4 4 (by omega)).2
  have f5 := (hm4 5 (by omega)).2
  have f6 := (hm4 6 (by omega)).2
  have f7 := (hm4 7 (by omega)).2
  go_wp2_with fail
  obtain ⟨d0, d1, d2, d3, d4, d5, d6, d7⟩ := eight_held (W := w4) (B := w.heap.size) (v0 := .int .u8 2) (v1 := .int .i64 0) (v2 := .int .i64 0) (v3 := .int .i64 0) (v4 := .int .i64 0) (v5 := .complex .f64 0 0) (v6 := .int .i64 z1) (v7 := .int .i64 t) hm4
  have hB4 : Below w.heap.size w ((((((((w4.setCell ⟨w.heap.size, 0, none⟩ (.int .u8 2)).setCell ⟨w.heap.size, 1, none⟩ (.int .i64 0)).setCell ⟨w.heap.size, 2, none⟩ (.int .i64 0)).setCell ⟨w.heap.size, 3, none⟩ (.int .i64 0)).setCell ⟨w.heap.size, 4, none⟩ (.int .i64 0)).setCell ⟨w.heap.size, 5, none⟩ (.complex .f64 0 0)).setCell ⟨w.heap.size, 6, none⟩ (.int .i64 z1)).setCell ⟨w.heap.size, 7, none⟩ (.int .i64 t)) := (((((((hB4'.setCell (Nat.le_refl _) _).setCell (Nat.le_refl _) _).setCell (Nat.le_refl _) _).setCell (Nat.le_refl _) _).setCell (Nat.le_refl _) _).setCell (Nat.le_refl _) _).setCell (Nat.le_refl _) _).setCell (Nat.le_refl _) _
  clear r0 r1 r2 r3 r4 r5 r6 r7 f0 f1 f2 f3 f4 f5 f6 f7 hm4 hB4'
  generalize ((((((((w4.setCell ⟨w.heap.size, 0, none⟩ (.int .u8 2)).setCell ⟨w.heap.size, 1, none⟩ (.int .i64 0)).setCell ⟨w.heap.size, 2, none⟩ (.int .i64 0)).setCell ⟨w.heap.size, 3, none⟩ (.int .i64 0)).setCell ⟨w.heap.size, 4, none⟩ (.int .i64 0)).setCell ⟨w.heap.size, 5, none⟩ (.complex .f64 0 0)).setCell ⟨w.heap.size, 6, none⟩ (.int .i64 z1)).setCell ⟨w.heap.size, 7, none⟩ (.int .i64 t)) = W5 at *
  exact bodyPost_ret (v := .tuple #[RV 2 0 0 0 0 0 0 z1 t, .int .i64 0]) (by simp [results, Try.results15, go_sem, d0, d1, d2, d3, d4, d5, d6, d7]) rfl ⟨rfl, hB4⟩
set_option maxRecDepth 100000 in
set_option maxHeartbeats 4000000 in
theorem refTake_mark_no (blk off c : Nat) (zs : List Int) (w : World) (h : BytesAt blk off zs w) (hl : zs.length = 8) (h0 : zs[0]?.getD 0 = 2) (hR : ∀ w, Calls Try.prog 25 #[(markRc zs).v] w fun e w' => e = .returned (.bool false) ∧ Below w.heap.size w w') : RefTook (.slice (some ⟨blk, off, none⟩) 8 (8 + c)) (RV 0 0 0 0 0 0 0 0 0) 11 w := by
  have hm := room_new w
  have hb : Below w.heap.size w (w.alloc (.cells #[.int .u8 0, .int .i64 0, .int .i64 0, .int .i64 0, .int .i64 0, .complex .f64 0 0, .int .i64 0, .int .i64 0] 42)) := (Below.refl _ _).alloc (Nat.le_refl _) _
  have hZ : ∀ i, i < 8 → w.cell? ⟨blk, off + i, none⟩ = some (.int .u8 (zs[i]?.getD 0)) := fun i hi => h.2.1 i (by omega)
  have hblk := h.1
  have hbyt := h.2.2
  have hz0 : w.cell? ⟨blk, off, none⟩ = some (.int .u8 (zs[0]?.getD 0)) := hZ 0 (by omega)
  rw [h0] at hz0
  have hc0 := bcell hb hblk hz0
  have hc1 := bcell hb hblk (hZ 1 (by omega))
  have e1 : takeN (ck zs 1 1) = zs[1]?.getD 0 := ref_ck1 zs 1 (by omega)
  have b1 := hbyt (zs[1]?.getD 0) (by simp [show 1 < zs.length by omega])
  have HR : Hid (∀ w, Calls Try.prog 25 #[RV 2 0 0 0 0 0 0 (zs[1]?.getD 0) (takeN (ck zs 2 6))] w fun e w' => e = .returned (.bool false) ∧ Below w.heap.size w w') := fun w => by
    have := hR w
    unfold markRc at this
    rwa [e1] at this
  have hbuild : ∀ w, (Instr.build 42 #[(0, .int .u8 2)]).run Try.prog w = .ok (RV 2 0 0 0 0 0 0 0 0) w := fun w => run_build w 42 _ _ (by kernel_rfl)
  have HC : Hid (∀ w', Below w.heap.size w w' → Calls Try.prog 22 #[.slice (some ⟨blk, off + 2, none⟩) 6 (8 + c - 2)] w' fun e w'' => e = .returned (.int .i64 (takeN (ck zs 2 6))) ∧ w' = w'') := fun w' hw =>
    refChunk blk off 2 6 (8 + c - 2) 8 zs w' (fun i hi => bcell hw hblk (hZ i hi)) hl hbyt (by omega) (by omega) (by omega) (by omega)
  skip
  skip
  clear hR h hZ hbyt e1
  generalize zs[1]?.getD 0 = z1 at *
  obtain ⟨bz0, bz1⟩ := b1
  obtain ⟨t, ht⟩ : ∃ t, takeN (ck zs 2 6) = t := ⟨_, rfl⟩
  rw [ht] at HR HC
  clear ht h0 hl
  have hlt : w.heap.size < (w.alloc (.cells #[.int .u8 0, .int .i64 0, .int .i64 0, .int .i64 0, .int .i64 0, .complex .f64 0 0, .int .i64 0, .int .i64 0] 42)).heap.size := by simp
  have hbw : blk < (w.alloc (.cells #[.int .u8 0, .int .i64 0, .int .i64 0, .int .i64 0, .int .i64 0, .complex .f64 0 0, .int .i64 0, .int .i64 0] 42)).heap.size := by simp; omega
  have hc1' := bcell ((Below.refl _ (w.alloc (.cells #[.int .u8 0, .int .i64 0, .int .i64 0, .int .i64 0, .int .i64 0, .complex .f64 0 0, .int .i64 0, .int .i64 0] 42))).alloc (Nat.le_refl _) (.cells #[.int .u8 2, .int .i64 0, .int .i64 0, .int .i64 0, .int .i64 0, .complex .f64 0 0, .int .i64 0, .int .i64 0] 42)) hbw hc1
  go_enter Try.func15, Try.ntmps15
  go_wp2_with fail
  generalize w.alloc (.cells #[.int .u8 0, .int .i64 0, .int .i64 0, .int .i64 0, .int .i64 0, .complex .f64 0 0, .int .i64 0, .int .i64 0] 42) = w1 at *
  (with_reducible refine (refSize_mark _).mono ?_)
  rintro e w2 ⟨rfl, rfl⟩
  go_wp2_with fail
  (with_reducible refine (HC.out _ (hb.alloc hb.size _)).mono ?_)
  rintro e w3 ⟨rfl, rfl⟩
  have hr3 := RecAt.new w1 2 0 0 0 0 0 0 z1 t
  have hb3 := hb.alloc hb.size (.cells #[.int .u8 2, .int .i64 0, .int .i64 0, .int .i64 0, .int .i64 0, .complex .f64 0 0, .int .i64 z1, .int .i64 t] 42)
  have hm3 := hm.later hlt ((Below.refl _ w1).alloc (Nat.le_refl _) (.cells #[.int .u8 2, .int .i64 0, .int .i64 0, .int .i64 0, .int .i64 0, .complex .f64 0 0, .int .i64 z1, .int .i64 t] 42))
  have hlt3 : w.heap.size < (w1.alloc (.cells #[.int .u8 2, .int .i64 0, .int .i64 0, .int .i64 0, .int .i64 0, .complex .f64 0 0, .int .i64 z1, .int .i64 t] 42)).heap.size := by simp; omega
  clear hm hb HC hc0 hc1 hc1' hbw hlt
  go_wp2_with fail
  (with_reducible refine (HR.out _).mono ?_)
  rintro e w4 ⟨rfl, hb4⟩
  have hr4 := hr3.later hb4
  have hm4 := hm3.later hlt3 hb4
  have hB4' := hb3.trans (hb4.mono (Nat.le_of_lt hlt3))
  clear hr3 hm3 hb3 hb4 hlt3 HR
  obtain ⟨hl4, k0, k1, k2, k3, k4, k5, k6, k7⟩ := hr4
  have r0 := hm4.at (o := 0) (by omega)
  have r1 := hm4.at (o := 1) (by omega)
  have r2 := hm4.at (o := 2) (by omega)
  have r3 := hm4.at (o := 3) (by omega)
  have r4 := hm4.at (o := 4) (by omega)
  have r5 := hm4.at (o := 5) (by omega)
  have r6 := hm4.at (o := 6) (by omega)
  have r7 := hm4.at (o := 7) (by omega)
  have f0 := (hm4 0 (by omega)).2
  have f1 := (hm4 1 (by omega)).2
  have f2 := (hm4 2 (by omega)).2
  have f3 := (hm4 3 (by omega)).2
  have f4 := (hm4 4 (by omega)).2
  have f5 := (hm4 5 (by omega)).2
  have f6 := (hm4 6 (by omega)).2
  have f7 := (hm4 7 (by omega)).2
  go_wp2_with fail
  obtain ⟨d0, d1, d2, d3, d4, d5, d6, d7⟩ := eight_held (W := w4) (B := w.heap.size) (v0 := .int .u8 0) (v1 := .int .i64 0) (v2 := .int .i64 0) (v3 := .int .i64 0) (v4 := .int .i64 0) (v5 := .complex .f64 0 0) (v6 := .int .i64 0) (v7 := .int .i64 0) hm4
  have hB4 : Below w.heap.size w ((((((((w4.setCell ⟨w.heap.size, 0, none⟩ (.int .u8 0)).setCell ⟨w.heap.size, 1, none⟩ (.int .i64 0)).setCell ⟨w.heap.size, 2, none⟩ (.int .i64 0)).setCell ⟨w.heap.size, 3, none⟩ (.int .i64 0)).setCell ⟨w.heap.size, 4, none⟩ (.int .i64 0)).setCell ⟨w.heap.size, 5, none⟩ (.complex .f64 0 0)).setCell ⟨w.heap.size, 6, none⟩ (.int .i64 0)).setCell ⟨w.heap.size, 7, none⟩ (.int .i64 0)) := (((((((hB4'.setCell (Nat.le_refl _) _).setCell (Nat.le_refl _) _).setCell (Nat.le_refl _) _).setCell (Nat.le_refl _) _).setCell (Nat.le_refl _) _).setCell (Nat.le_refl _) _).setCell (Nat.le_refl _) _).setCell (Nat.le_refl _) _
  clear r0 r1 r2 r3 r4 r5 r6 r7 f0 f1 f2 f3 f4 f5 f6 f7 hm4 hB4'
  generalize ((((((((w4.setCell ⟨w.heap.size, 0, none⟩ (.int .u8 0)).setCell ⟨w.heap.size, 1, none⟩ (.int .i64 0)).setCell ⟨w.heap.size, 2, none⟩ (.int .i64 0)).setCell ⟨w.heap.size, 3, none⟩ (.int .i64 0)).setCell ⟨w.heap.size, 4, none⟩ (.int .i64 0)).setCell ⟨w.heap.size, 5, none⟩ (.complex .f64 0 0)).setCell ⟨w.heap.size, 6, none⟩ (.int .i64 0)).setCell ⟨w.heap.size, 7, none⟩ (.int .i64 0)) = W5 at *
  exact bodyPost_ret (v := .tuple #[RV 0 0 0 0 0 0 0 0 0, .int .i64 11]) (by simp [results, Try.results15, go_sem, d0, d1, d2, d3, d4, d5, d6, d7]) rfl ⟨rfl, hB4⟩
end Go.Proofs.Ytepbjjddpfejnaa
