/-
  Contract of wire's Take at a slice: what sizeFault, recordOf and record's Right answer decide it; no other condition.
-/
import Derived.Test.YtepbjjddpfejnaaM
namespace Go.Proofs.Ytepbjjddpfejnaa
open Go.ChangeShapes Go.WideShapes Go.ChangeAt Go.RowKit
set_option linter.unusedVariables false
set_option linter.unusedSimpArgs false
theorem room_new (w : World) : Room8 w.heap.size (w.alloc (.cells #[.int .u8 0, .int .i64 0, .int .i64 0, .int .i64 0, .int .i64 0, .complex .f64 0 0, .int .i64 0, .int .i64 0] 42)) := by
  intro i hi
  rcases (show i = 0 ∨ i = 1 ∨ i = 2 ∨ i = 3 ∨ i = 4 ∨ i = 5 ∨ i = 6 ∨ i = 7 by omega) with rfl | rfl | rfl | rfl | rfl | rfl | rfl | rfl <;> simp [go_sem]
theorem room_rec (w : World) (k ts src seq ek : Int) (p q : Nat) (rs rt : Int) : Room8 w.heap.size (w.alloc (.cells #[.int .u8 k, .int .i64 ts, .int .i64 src, .int .i64 seq, .int .i64 ek, .complex .f64 p q, .int .i64 rs, .int .i64 rt] 42)) := by
  intro i hi
  rcases (show i = 0 ∨ i = 1 ∨ i = 2 ∨ i = 3 ∨ i = 4 ∨ i = 5 ∨ i = 6 ∨ i = 7 by omega) with rfl | rfl | rfl | rfl | rfl | rfl | rfl | rfl <;> simp [go_sem]
set_option maxRecDepth 100000 in
set_option maxHeartbeats 2000000 in
/-- Bytes at which sizeFault finds fault. -/
theorem take_fault {w0 : World} (s : Value) (e : Int) (he : (e == 0) = false) (h : ∀ w, Below w0.heap.size w0 w → Calls Try.prog 28 #[s] w fun r w' => r = .returned (.int .i64 e) ∧ Below w.heap.size w w') (w : World) (hw : Below w0.heap.size w0 w) :
    Calls Try.prog 19 #[s] w fun r w' => r = .returned (.tuple #[RV 0 0 0 0 0 0 0 0 0, .int .i64 e]) ∧ Below w.heap.size w w' := by
  have H := Lib.hid (h _ (hw.alloc hw.size (.cells #[.int .u8 0, .int .i64 0, .int .i64 0, .int .i64 0, .int .i64 0, .complex .f64 0 0, .int .i64 0, .int .i64 0] 42)))
  clear h hw
  have he2 : (e != 0) = true := by simpa using he
  have hr := room_new w
  go_enter Try.func19, Try.ntmps19
  go_wp2_with fail
  refine wp_scope_jumps 0 (fun a' w' => Room8 w.heap.size w' ∧ Below w.heap.size w w' ∧ a'.defers = [] ∧ ∃ s0 s1 s3 s4 s6 s7 s8 s9 s10 s11 s12 s13 s14 s15 s16 s17 s18, a'.tmps = #[s0, s1, .pointer (some ⟨w.heap.size, 0, none⟩), s3, s4, .int .i64 e, s6, s7, s8, s9, s10, s11, s12, s13, s14, s15, s16, s17, s18]) (fun _ _ => 0) rfl ?_ ?_
  · go_wp2_with fail
    (with_reducible refine H.out.mono ?_)
    rintro r w1 ⟨rfl, hb1⟩
    go_wp2
    go_step3
    have hl : w.heap.size < w1.heap.size := by have := hb1.size; simp at this; omega
    exact ⟨rfl, (hr.later (by simp) hb1).later hl ((Below.refl _ _).alloc (Nat.le_refl _) _), (((Below.refl _ _).alloc (Nat.le_refl _) _).trans (hb1.mono (by simp))).alloc (by omega) _, rfl, _, _, _, _, _, _, _, _, _, _, _, _, _, _, _, _, _, rfl⟩
  · rintro ⟨t, d⟩ w2 ⟨hr, hb, rfl, s0, s1, s3, s4, s6, s7, s8, s9, s10, s11, s12, s13, s14, s15, s16, s17, s18, rfl⟩
    have r0 := hr.at (o := 0) (by omega)
    have r1 := hr.at (o := 1) (by omega)
    have r2 := hr.at (o := 2) (by omega)
    have r3 := hr.at (o := 3) (by omega)
    have r4 := hr.at (o := 4) (by omega)
    have r5 := hr.at (o := 5) (by omega)
    have r6 := hr.at (o := 6) (by omega)
    have r7 := hr.at (o := 7) (by omega)
    have f0 := (hr 0 (by omega)).2
    have f1 := (hr 1 (by omega)).2
    have f2 := (hr 2 (by omega)).2
    have f3 := (hr 3 (by omega)).2
    have f4 := (hr 4 (by omega)).2
    have f5 := (hr 5 (by omega)).2
    have f6 := (hr 6 (by omega)).2
    have f7 := (hr 7 (by omega)).2
    go_wp2
    rw [jump_ret]
    obtain ⟨d0, d1, d2, d3, d4, d5, d6, d7⟩ := eight_held (W := w2) (B := w.heap.size) (v0 := .int .u8 0) (v1 := .int .i64 0) (v2 := .int .i64 0) (v3 := .int .i64 0) (v4 := .int .i64 0) (v5 := .complex .f64 0 0) (v6 := .int .i64 0) (v7 := .int .i64 0) hr
    have hB4 : Below w.heap.size w (((((((((w2.setCell ⟨w.heap.size, 0, none⟩ (.int .u8 0)).setCell ⟨w.heap.size, 1, none⟩ (.int .i64 0)).setCell ⟨w.heap.size, 2, none⟩ (.int .i64 0)).setCell ⟨w.heap.size, 3, none⟩ (.int .i64 0)).setCell ⟨w.heap.size, 4, none⟩ (.int .i64 0)).setCell ⟨w.heap.size, 5, none⟩ (.complex .f64 0 0)).setCell ⟨w.heap.size, 6, none⟩ (.int .i64 0)).setCell ⟨w.heap.size, 7, none⟩ (.int .i64 0))) := (((((((hb.setCell (Nat.le_refl _) _).setCell (Nat.le_refl _) _).setCell (Nat.le_refl _) _).setCell (Nat.le_refl _) _).setCell (Nat.le_refl _) _).setCell (Nat.le_refl _) _).setCell (Nat.le_refl _) _).setCell (Nat.le_refl _) _
    clear r0 r1 r2 r3 r4 r5 r6 r7 f0 f1 f2 f3 f4 f5 f6 f7 hr hb
    generalize ((((((((w2.setCell ⟨w.heap.size, 0, none⟩ (.int .u8 0)).setCell ⟨w.heap.size, 1, none⟩ (.int .i64 0)).setCell ⟨w.heap.size, 2, none⟩ (.int .i64 0)).setCell ⟨w.heap.size, 3, none⟩ (.int .i64 0)).setCell ⟨w.heap.size, 4, none⟩ (.int .i64 0)).setCell ⟨w.heap.size, 5, none⟩ (.complex .f64 0 0)).setCell ⟨w.heap.size, 6, none⟩ (.int .i64 0)).setCell ⟨w.heap.size, 7, none⟩ (.int .i64 0)) = W5 at *
    exact bodyPost_ret (v := .tuple #[RV 0 0 0 0 0 0 0 0 0, .int .i64 e]) (by simp [results, Try.results19, go_sem, d0, d1, d2, d3, d4, d5, d6, d7]) rfl ⟨rfl, hB4⟩
set_option maxRecDepth 100000 in
set_option maxHeartbeats 4000000 in
/-- Bytes of a record that may not be. -/
theorem take_wrong {w0 : World} (s : Value) (k ts src seq ek : Int) (p q : Nat) (rs rt : Int) (h : ∀ w, Below w0.heap.size w0 w → Calls Try.prog 28 #[s] w fun r w' => r = .returned (.int .i64 0) ∧ Below w.heap.size w w')
    (hr : ∀ w, Below w0.heap.size w0 w → Calls Try.prog 29 #[s] w fun r w' => r = .returned (RV k ts src seq ek p q rs rt) ∧ Below w.heap.size w w')
    (hR : ∀ w, Calls Try.prog 30 #[RV k ts src seq ek p q rs rt] w fun r w' => r = .returned (.bool false) ∧ Below w.heap.size w w') (w : World) (hw : Below w0.heap.size w0 w) :
    Calls Try.prog 19 #[s] w fun r w' => r = .returned (.tuple #[RV 0 0 0 0 0 0 0 0 0, .int .i64 11]) ∧ Below w.heap.size w w' := by
  have hw1 := hw.alloc hw.size (.cells #[.int .u8 0, .int .i64 0, .int .i64 0, .int .i64 0, .int .i64 0, .complex .f64 0 0, .int .i64 0, .int .i64 0] 42)
  have H := Lib.hid (h _ hw1)
  have HR := Lib.hid hr
  have HT := Lib.hid hR
  have HW := Lib.hid hw1
  clear h hr hR hw1
  have hm := room_new w
  go_enter Try.func19, Try.ntmps19
  go_wp2_with fail
  refine wp_scope_jumps 0 (fun a' w' => Room8 w.heap.size w' ∧ Below w.heap.size w w' ∧ a'.defers = [] ∧ ∃ s0 s1 s3 s4 s6 s7 s8 s9 s10 s11 s12 s13 s14 s15 s16 s17 s18, a'.tmps = #[s0, s1, .pointer (some ⟨w.heap.size, 0, none⟩), s3, s4, .int .i64 11, s6, s7, s8, s9, s10, s11, s12, s13, s14, s15, s16, s17, s18]) (fun _ _ => 0) rfl ?_ ?_
  · go_wp2_with fail
    (with_reducible refine H.out.mono ?_)
    rintro r w1 ⟨rfl, hb1⟩
    have hl : w.heap.size < w1.heap.size := by have := hb1.size; simp at this; omega
    have hm1 := (hm.later (by simp) hb1).later hl ((Below.refl _ _).alloc (Nat.le_refl _) (.cells #[.int .u8 0, .int .i64 0, .int .i64 0, .int .i64 0, .int .i64 0, .complex .f64 0 0, .int .i64 0, .int .i64 0] 42))
    have hB1 : Below w.heap.size w (w1.alloc (.cells #[.int .u8 0, .int .i64 0, .int .i64 0, .int .i64 0, .int .i64 0, .complex .f64 0 0, .int .i64 0, .int .i64 0] 42)) := (((Below.refl _ _).alloc (Nat.le_refl _) _).trans (hb1.mono (by simp))).alloc (by omega) _
    have hn1 := room_new w1
    have hW1 := Lib.hid ((HW.out.trans (hb1.mono HW.out.size)).alloc (Nat.le_trans HW.out.size hb1.size) (.cells #[.int .u8 0, .int .i64 0, .int .i64 0, .int .i64 0, .int .i64 0, .complex .f64 0 0, .int .i64 0, .int .i64 0] 42))
    go_wp2_with fail
    obtain ⟨w2, hw2⟩ : ∃ w2, w1.alloc (.cells #[.int .u8 0, .int .i64 0, .int .i64 0, .int .i64 0, .int .i64 0, .complex .f64 0 0, .int .i64 0, .int .i64 0] 42) = w2 := ⟨_, rfl⟩
    have hl2 : w1.heap.size < w2.heap.size := by rw [← hw2]; simp
    rw [hw2] at hm1 hB1 hn1 hW1 ⊢
    clear hw2
    (with_reducible refine (HR.out _ hW1.out).mono ?_)
    rintro r w3 ⟨rfl, hb3⟩
    have hm3 := hm1.later (by omega) hb3
    have hn3 := hn1.later hl2 hb3
    have hB3 := hB1.trans (hb3.mono (by omega))
    have hl3 : w1.heap.size < w3.heap.size := Nat.lt_of_lt_of_le hl2 hb3.size
    clear hm1 hn1 hB1 hb3 hl2 hW1
    have r0 := hn3.at (o := 0) (by omega)
    have r1 := hn3.at (o := 1) (by omega)
    have r2 := hn3.at (o := 2) (by omega)
    have r3 := hn3.at (o := 3) (by omega)
    have r4 := hn3.at (o := 4) (by omega)
    have r5 := hn3.at (o := 5) (by omega)
    have r6 := hn3.at (o := 6) (by omega)
    have r7 := hn3.at (o := 7) (by omega)
    have f0 := (hn3 0 (by omega)).2
    have f1 := (hn3 1 (by omega)).2
    have f2 := (hn3 2 (by omega)).2
    have f3 := (hn3 3 (by omega)).2
    have f4 := (hn3 4 (by omega)).2
    have f5 := (hn3 5 (by omega)).2
    have f6 := (hn3 6 (by omega)).2
    have f7 := (hn3 7 (by omega)).2
    go_wp2_with fail
    obtain ⟨d0, d1, d2, d3, d4, d5, d6, d7⟩ := eight_held (W := w3) (B := w1.heap.size) (v0 := .int .u8 k) (v1 := .int .i64 ts) (v2 := .int .i64 src) (v3 := .int .i64 seq) (v4 := .int .i64 ek) (v5 := .complex .f64 p q) (v6 := .int .i64 rs) (v7 := .int .i64 rt) hn3
    have hm5 : Room8 w.heap.size (((((((((w3.setCell ⟨w1.heap.size, 0, none⟩ (.int .u8 k)).setCell ⟨w1.heap.size, 1, none⟩ (.int .i64 ts)).setCell ⟨w1.heap.size, 2, none⟩ (.int .i64 src)).setCell ⟨w1.heap.size, 3, none⟩ (.int .i64 seq)).setCell ⟨w1.heap.size, 4, none⟩ (.int .i64 ek)).setCell ⟨w1.heap.size, 5, none⟩ (.complex .f64 p q)).setCell ⟨w1.heap.size, 6, none⟩ (.int .i64 rs)).setCell ⟨w1.heap.size, 7, none⟩ (.int .i64 rt))) := (((((((hm3.set _ _).set _ _).set _ _).set _ _).set _ _).set _ _).set _ _).set _ _
    have hs5 : w1.heap.size < (((((((((w3.setCell ⟨w1.heap.size, 0, none⟩ (.int .u8 k)).setCell ⟨w1.heap.size, 1, none⟩ (.int .i64 ts)).setCell ⟨w1.heap.size, 2, none⟩ (.int .i64 src)).setCell ⟨w1.heap.size, 3, none⟩ (.int .i64 seq)).setCell ⟨w1.heap.size, 4, none⟩ (.int .i64 ek)).setCell ⟨w1.heap.size, 5, none⟩ (.complex .f64 p q)).setCell ⟨w1.heap.size, 6, none⟩ (.int .i64 rs)).setCell ⟨w1.heap.size, 7, none⟩ (.int .i64 rt))).heap.size := by simpa using hl3
    have hB5 : Below w.heap.size w (((((((((w3.setCell ⟨w1.heap.size, 0, none⟩ (.int .u8 k)).setCell ⟨w1.heap.size, 1, none⟩ (.int .i64 ts)).setCell ⟨w1.heap.size, 2, none⟩ (.int .i64 src)).setCell ⟨w1.heap.size, 3, none⟩ (.int .i64 seq)).setCell ⟨w1.heap.size, 4, none⟩ (.int .i64 ek)).setCell ⟨w1.heap.size, 5, none⟩ (.complex .f64 p q)).setCell ⟨w1.heap.size, 6, none⟩ (.int .i64 rs)).setCell ⟨w1.heap.size, 7, none⟩ (.int .i64 rt))) := (((((((hB3.setCell (Nat.le_of_lt hl) _).setCell (Nat.le_of_lt hl) _).setCell (Nat.le_of_lt hl) _).setCell (Nat.le_of_lt hl) _).setCell (Nat.le_of_lt hl) _).setCell (Nat.le_of_lt hl) _).setCell (Nat.le_of_lt hl) _).setCell (Nat.le_of_lt hl) _
    clear r0 r1 r2 r3 r4 r5 r6 r7 f0 f1 f2 f3 f4 f5 f6 f7 hm3 hn3 hB3 hl3
    generalize ((((((((w3.setCell ⟨w1.heap.size, 0, none⟩ (.int .u8 k)).setCell ⟨w1.heap.size, 1, none⟩ (.int .i64 ts)).setCell ⟨w1.heap.size, 2, none⟩ (.int .i64 src)).setCell ⟨w1.heap.size, 3, none⟩ (.int .i64 seq)).setCell ⟨w1.heap.size, 4, none⟩ (.int .i64 ek)).setCell ⟨w1.heap.size, 5, none⟩ (.complex .f64 p q)).setCell ⟨w1.heap.size, 6, none⟩ (.int .i64 rs)).setCell ⟨w1.heap.size, 7, none⟩ (.int .i64 rt)) = w5 at *
    (with_reducible refine (HT.out _).mono ?_)
    rintro r w6 ⟨rfl, hb6⟩
    have hm6 := hm5.later (by omega) hb6
    have hB6 := hB5.trans (hb6.mono (by omega))
    clear d0 d1 d2 d3 d4 d5 d6 d7 hm5 hB5 hb6 hs5
    go_wp2
    go_step3
    exact ⟨rfl, hm6, hB6, rfl, _, _, _, _, _, _, _, _, _, _, _, _, _, _, _, _, _, rfl⟩
  · rintro ⟨t, d⟩ w2 ⟨hr, hb, rfl, s0, s1, s3, s4, s6, s7, s8, s9, s10, s11, s12, s13, s14, s15, s16, s17, s18, rfl⟩
    have r0 := hr.at (o := 0) (by omega)
    have r1 := hr.at (o := 1) (by omega)
    have r2 := hr.at (o := 2) (by omega)
    have r3 := hr.at (o := 3) (by omega)
    have r4 := hr.at (o := 4) (by omega)
    have r5 := hr.at (o := 5) (by omega)
    have r6 := hr.at (o := 6) (by omega)
    have r7 := hr.at (o := 7) (by omega)
    have f0 := (hr 0 (by omega)).2
    have f1 := (hr 1 (by omega)).2
    have f2 := (hr 2 (by omega)).2
    have f3 := (hr 3 (by omega)).2
    have f4 := (hr 4 (by omega)).2
    have f5 := (hr 5 (by omega)).2
    have f6 := (hr 6 (by omega)).2
    have f7 := (hr 7 (by omega)).2
    go_wp2
    rw [jump_ret]
    obtain ⟨d0, d1, d2, d3, d4, d5, d6, d7⟩ := eight_held (W := w2) (B := w.heap.size) (v0 := .int .u8 0) (v1 := .int .i64 0) (v2 := .int .i64 0) (v3 := .int .i64 0) (v4 := .int .i64 0) (v5 := .complex .f64 0 0) (v6 := .int .i64 0) (v7 := .int .i64 0) hr
    have hB4 : Below w.heap.size w (((((((((w2.setCell ⟨w.heap.size, 0, none⟩ (.int .u8 0)).setCell ⟨w.heap.size, 1, none⟩ (.int .i64 0)).setCell ⟨w.heap.size, 2, none⟩ (.int .i64 0)).setCell ⟨w.heap.size, 3, none⟩ (.int .i64 0)).setCell ⟨w.heap.size, 4, none⟩ (.int .i64 0)).setCell ⟨w.heap.size, 5, none⟩ (.complex .f64 0 0)).setCell ⟨w.heap.size, 6, none⟩ (.int .i64 0)).setCell ⟨w.heap.size, 7, none⟩ (.int .i64 0))) := (((((((hb.setCell (Nat.le_refl _) _).setCell (Nat.le_refl _) _).setCell (Nat.le_refl _) _).setCell (Nat.le_refl _) _).setCell (Nat.le_refl _) _).setCell (Nat.le_refl _) _).setCell (Nat.le_refl _) _).setCell (Nat.le_refl _) _
    clear r0 r1 r2 r3 r4 r5 r6 r7 f0 f1 f2 f3 f4 f5 f6 f7 hr hb
    generalize ((((((((w2.setCell ⟨w.heap.size, 0, none⟩ (.int .u8 0)).setCell ⟨w.heap.size, 1, none⟩ (.int .i64 0)).setCell ⟨w.heap.size, 2, none⟩ (.int .i64 0)).setCell ⟨w.heap.size, 3, none⟩ (.int .i64 0)).setCell ⟨w.heap.size, 4, none⟩ (.int .i64 0)).setCell ⟨w.heap.size, 5, none⟩ (.complex .f64 0 0)).setCell ⟨w.heap.size, 6, none⟩ (.int .i64 0)).setCell ⟨w.heap.size, 7, none⟩ (.int .i64 0)) = W5 at *
    exact bodyPost_ret (v := .tuple #[RV 0 0 0 0 0 0 0 0 0, .int .i64 11]) (by simp [results, Try.results19, go_sem, d0, d1, d2, d3, d4, d5, d6, d7]) rfl ⟨rfl, hB4⟩
set_option maxRecDepth 100000 in
set_option maxHeartbeats 4000000 in
/-- Bytes of a record that may be. -/
theorem take_right {w0 : World} (s : Value) (k ts src seq ek : Int) (p q : Nat) (rs rt : Int) (h : ∀ w, Below w0.heap.size w0 w → Calls Try.prog 28 #[s] w fun r w' => r = .returned (.int .i64 0) ∧ Below w.heap.size w w')
    (hr : ∀ w, Below w0.heap.size w0 w → Calls Try.prog 29 #[s] w fun r w' => r = .returned (RV k ts src seq ek p q rs rt) ∧ Below w.heap.size w w')
    (hR : ∀ w, Calls Try.prog 30 #[RV k ts src seq ek p q rs rt] w fun r w' => r = .returned (.bool true) ∧ Below w.heap.size w w') (w : World) (hw : Below w0.heap.size w0 w) :
    Calls Try.prog 19 #[s] w fun r w' => r = .returned (.tuple #[RV k ts src seq ek p q rs rt, .int .i64 0]) ∧ Below w.heap.size w w' := by
  have hw1 := hw.alloc hw.size (.cells #[.int .u8 0, .int .i64 0, .int .i64 0, .int .i64 0, .int .i64 0, .complex .f64 0 0, .int .i64 0, .int .i64 0] 42)
  have H := Lib.hid (h _ hw1)
  have HR := Lib.hid hr
  have HT := Lib.hid hR
  have HW := Lib.hid hw1
  clear h hr hR hw1
  have hm := room_new w
  go_enter Try.func19, Try.ntmps19
  go_wp2_with fail
  refine wp_scope_jumps 0 (fun a' w' => False) (fun _ _ => 0) rfl ?_ ?_
  · go_wp2_with fail
    (with_reducible refine H.out.mono ?_)
    rintro r w1 ⟨rfl, hb1⟩
    have hl : w.heap.size < w1.heap.size := by have := hb1.size; simp at this; omega
    have hm1 := (hm.later (by simp) hb1).later hl ((Below.refl _ _).alloc (Nat.le_refl _) (.cells #[.int .u8 0, .int .i64 0, .int .i64 0, .int .i64 0, .int .i64 0, .complex .f64 0 0, .int .i64 0, .int .i64 0] 42))
    have hB1 : Below w.heap.size w (w1.alloc (.cells #[.int .u8 0, .int .i64 0, .int .i64 0, .int .i64 0, .int .i64 0, .complex .f64 0 0, .int .i64 0, .int .i64 0] 42)) := (((Below.refl _ _).alloc (Nat.le_refl _) _).trans (hb1.mono (by simp))).alloc (by omega) _
    have hn1 := room_new w1
    have hW1 := Lib.hid ((HW.out.trans (hb1.mono HW.out.size)).alloc (Nat.le_trans HW.out.size hb1.size) (.cells #[.int .u8 0, .int .i64 0, .int .i64 0, .int .i64 0, .int .i64 0, .complex .f64 0 0, .int .i64 0, .int .i64 0] 42))
    go_wp2_with fail
    obtain ⟨w2, hw2⟩ : ∃ w2, w1.alloc (.cells #[.int .u8 0, .int .i64 0, .int .i64 0, .int .i64 0, .int .i64 0, .complex .f64 0 0, .int .i64 0, .int .i64 0] 42) = w2 := ⟨_, rfl⟩
    have hl2 : w1.heap.size < w2.heap.size := by rw [← hw2]; simp
    rw [hw2] at hm1 hB1 hn1 hW1 ⊢
    clear hw2
    (with_reducible refine (HR.out _ hW1.out).mono ?_)
    rintro r w3 ⟨rfl, hb3⟩
    have hm3 := hm1.later (by omega) hb3
    have hn3 := hn1.later hl2 hb3
    have hB3 := hB1.trans (hb3.mono (by omega))
    have hl3 : w1.heap.size < w3.heap.size := Nat.lt_of_lt_of_le hl2 hb3.size
    clear hm1 hn1 hB1 hb3 hl2 hW1
    have r0 := hn3.at (o := 0) (by omega)
    have r1 := hn3.at (o := 1) (by omega)
    have r2 := hn3.at (o := 2) (by omega)
    have r3 := hn3.at (o := 3) (by omega)
    have r4 := hn3.at (o := 4) (by omega)
    have r5 := hn3.at (o := 5) (by omega)
    have r6 := hn3.at (o := 6) (by omega)
    have r7 := hn3.at (o := 7) (by omega)
    have f0 := (hn3 0 (by omega)).2
    have f1 := (hn3 1 (by omega)).2
    have f2 := (hn3 2 (by omega)).2
    have f3 := (hn3 3 (by omega)).2
    have f4 := (hn3 4 (by omega)).2
    have f5 := (hn3 5 (by omega)).2
    have f6 := (hn3 6 (by omega)).2
    have f7 := (hn3 7 (by omega)).2
    go_wp2_with fail
    obtain ⟨d0, d1, d2, d3, d4, d5, d6, d7⟩ := eight_held (W := w3) (B := w1.heap.size) (v0 := .int .u8 k) (v1 := .int .i64 ts) (v2 := .int .i64 src) (v3 := .int .i64 seq) (v4 := .int .i64 ek) (v5 := .complex .f64 p q) (v6 := .int .i64 rs) (v7 := .int .i64 rt) hn3
    have hm5 : Room8 w.heap.size (((((((((w3.setCell ⟨w1.heap.size, 0, none⟩ (.int .u8 k)).setCell ⟨w1.heap.size, 1, none⟩ (.int .i64 ts)).setCell ⟨w1.heap.size, 2, none⟩ (.int .i64 src)).setCell ⟨w1.heap.size, 3, none⟩ (.int .i64 seq)).setCell ⟨w1.heap.size, 4, none⟩ (.int .i64 ek)).setCell ⟨w1.heap.size, 5, none⟩ (.complex .f64 p q)).setCell ⟨w1.heap.size, 6, none⟩ (.int .i64 rs)).setCell ⟨w1.heap.size, 7, none⟩ (.int .i64 rt))) := (((((((hm3.set _ _).set _ _).set _ _).set _ _).set _ _).set _ _).set _ _).set _ _
    have hs5 : w1.heap.size < (((((((((w3.setCell ⟨w1.heap.size, 0, none⟩ (.int .u8 k)).setCell ⟨w1.heap.size, 1, none⟩ (.int .i64 ts)).setCell ⟨w1.heap.size, 2, none⟩ (.int .i64 src)).setCell ⟨w1.heap.size, 3, none⟩ (.int .i64 seq)).setCell ⟨w1.heap.size, 4, none⟩ (.int .i64 ek)).setCell ⟨w1.heap.size, 5, none⟩ (.complex .f64 p q)).setCell ⟨w1.heap.size, 6, none⟩ (.int .i64 rs)).setCell ⟨w1.heap.size, 7, none⟩ (.int .i64 rt))).heap.size := by simpa using hl3
    have hB5 : Below w.heap.size w (((((((((w3.setCell ⟨w1.heap.size, 0, none⟩ (.int .u8 k)).setCell ⟨w1.heap.size, 1, none⟩ (.int .i64 ts)).setCell ⟨w1.heap.size, 2, none⟩ (.int .i64 src)).setCell ⟨w1.heap.size, 3, none⟩ (.int .i64 seq)).setCell ⟨w1.heap.size, 4, none⟩ (.int .i64 ek)).setCell ⟨w1.heap.size, 5, none⟩ (.complex .f64 p q)).setCell ⟨w1.heap.size, 6, none⟩ (.int .i64 rs)).setCell ⟨w1.heap.size, 7, none⟩ (.int .i64 rt))) := (((((((hB3.setCell (Nat.le_of_lt hl) _).setCell (Nat.le_of_lt hl) _).setCell (Nat.le_of_lt hl) _).setCell (Nat.le_of_lt hl) _).setCell (Nat.le_of_lt hl) _).setCell (Nat.le_of_lt hl) _).setCell (Nat.le_of_lt hl) _).setCell (Nat.le_of_lt hl) _
    clear r0 r1 r2 r3 r4 r5 r6 r7 f0 f1 f2 f3 f4 f5 f6 f7 hm3 hn3 hB3 hl3
    generalize ((((((((w3.setCell ⟨w1.heap.size, 0, none⟩ (.int .u8 k)).setCell ⟨w1.heap.size, 1, none⟩ (.int .i64 ts)).setCell ⟨w1.heap.size, 2, none⟩ (.int .i64 src)).setCell ⟨w1.heap.size, 3, none⟩ (.int .i64 seq)).setCell ⟨w1.heap.size, 4, none⟩ (.int .i64 ek)).setCell ⟨w1.heap.size, 5, none⟩ (.complex .f64 p q)).setCell ⟨w1.heap.size, 6, none⟩ (.int .i64 rs)).setCell ⟨w1.heap.size, 7, none⟩ (.int .i64 rt)) = w5 at *
    (with_reducible refine (HT.out _).mono ?_)
    rintro r w6 ⟨rfl, hb6⟩
    have hm6 := hm5.later (by omega) hb6
    have hB6 := hB5.trans (hb6.mono (by omega))
    have e0 := bcell hb6 hs5 d0
    have e1 := bcell hb6 hs5 d1
    have e2 := bcell hb6 hs5 d2
    have e3 := bcell hb6 hs5 d3
    have e4 := bcell hb6 hs5 d4
    have e5 := bcell hb6 hs5 d5
    have e6 := bcell hb6 hs5 d6
    have e7 := bcell hb6 hs5 d7
    clear d0 d1 d2 d3 d4 d5 d6 d7 hm5 hB5 hb6 hs5
    have r0 := hm6.at (o := 0) (by omega)
    have r1 := hm6.at (o := 1) (by omega)
    have r2 := hm6.at (o := 2) (by omega)
    have r3 := hm6.at (o := 3) (by omega)
    have r4 := hm6.at (o := 4) (by omega)
    have r5 := hm6.at (o := 5) (by omega)
    have r6 := hm6.at (o := 6) (by omega)
    have r7 := hm6.at (o := 7) (by omega)
    have f0 := (hm6 0 (by omega)).2
    have f1 := (hm6 1 (by omega)).2
    have f2 := (hm6 2 (by omega)).2
    have f3 := (hm6 3 (by omega)).2
    have f4 := (hm6 4 (by omega)).2
    have f5 := (hm6 5 (by omega)).2
    have f6 := (hm6 6 (by omega)).2
    have f7 := (hm6 7 (by omega)).2
    go_wp2
    rw [jump_ret]
    obtain ⟨d0, d1, d2, d3, d4, d5, d6, d7⟩ := eight_held (W := w6) (B := w.heap.size) (v0 := .int .u8 k) (v1 := .int .i64 ts) (v2 := .int .i64 src) (v3 := .int .i64 seq) (v4 := .int .i64 ek) (v5 := .complex .f64 p q) (v6 := .int .i64 rs) (v7 := .int .i64 rt) hm6
    have hB7 : Below w.heap.size w (((((((((w6.setCell ⟨w.heap.size, 0, none⟩ (.int .u8 k)).setCell ⟨w.heap.size, 1, none⟩ (.int .i64 ts)).setCell ⟨w.heap.size, 2, none⟩ (.int .i64 src)).setCell ⟨w.heap.size, 3, none⟩ (.int .i64 seq)).setCell ⟨w.heap.size, 4, none⟩ (.int .i64 ek)).setCell ⟨w.heap.size, 5, none⟩ (.complex .f64 p q)).setCell ⟨w.heap.size, 6, none⟩ (.int .i64 rs)).setCell ⟨w.heap.size, 7, none⟩ (.int .i64 rt))) := (((((((hB6.setCell (Nat.le_refl _) _).setCell (Nat.le_refl _) _).setCell (Nat.le_refl _) _).setCell (Nat.le_refl _) _).setCell (Nat.le_refl _) _).setCell (Nat.le_refl _) _).setCell (Nat.le_refl _) _).setCell (Nat.le_refl _) _
    clear r0 r1 r2 r3 r4 r5 r6 r7 f0 f1 f2 f3 f4 f5 f6 f7 hm6 hB6 e0 e1 e2 e3 e4 e5 e6 e7
    generalize ((((((((w6.setCell ⟨w.heap.size, 0, none⟩ (.int .u8 k)).setCell ⟨w.heap.size, 1, none⟩ (.int .i64 ts)).setCell ⟨w.heap.size, 2, none⟩ (.int .i64 src)).setCell ⟨w.heap.size, 3, none⟩ (.int .i64 seq)).setCell ⟨w.heap.size, 4, none⟩ (.int .i64 ek)).setCell ⟨w.heap.size, 5, none⟩ (.complex .f64 p q)).setCell ⟨w.heap.size, 6, none⟩ (.int .i64 rs)).setCell ⟨w.heap.size, 7, none⟩ (.int .i64 rt)) = W7 at *
    exact bodyPost_ret (v := .tuple #[RV k ts src seq ek p q rs rt, .int .i64 0]) (by simp [results, Try.results19, go_sem, d0, d1, d2, d3, d4, d5, d6, d7]) rfl ⟨rfl, hB7⟩
  · intro a' w' h; exact h.elim
end Go.Proofs.Ytepbjjddpfejnaa
