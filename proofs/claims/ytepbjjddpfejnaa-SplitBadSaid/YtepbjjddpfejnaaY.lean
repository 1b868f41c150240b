/-
  Contract of split.Rec at every piece whose bytes lie in memory, by what wire's Take answers; no other condition.
-/
import Derived.Test.YtepbjjddpfejnaaX
namespace Go.Proofs.Ytepbjjddpfejnaa
open Go.ChangeShapes Go.WideShapes Go.ChangeAt Go.RowKit
set_option linter.unusedVariables false
set_option linter.unusedSimpArgs false
/-- A piece, as a value. -/
abbrev PV (at_ : Int) (s : Value) (cut : Bool) : Value := .agg #[.int .i64 at_, s, .bool cut]
theorem room_two (w : World) (v : Value) (at_ : Int) (cut : Bool) : Room8 (w.heap.size + 1) ((w.alloc (.cells #[.int .i64 at_, v, .bool cut] 28)).alloc (.cells #[.int .u8 0, .int .i64 0, .int .i64 0, .int .i64 0, .int .i64 0, .complex .f64 0 0, .int .i64 0, .int .i64 0] 42)) := by
  have := room_new (w.alloc (.cells #[.int .i64 at_, v, .bool cut] 28))
  rwa [World.size_alloc] at this
set_option maxRecDepth 100000 in
set_option maxHeartbeats 2000000 in
theorem rec_bad (at_ : Int) (a : Option Addr) (len cap : Nat) (cut : Bool) (hbad : len = 0 ∨ cut = true) (w : World) :
    Calls Try.prog 13 #[PV at_ (.slice a len cap) cut] w fun r w' => r = .returned (.tuple #[RV 0 0 0 0 0 0 0 0 0, .int .i64 11]) ∧ Below w.heap.size w w' := by
  have hr := room_two w (.slice a len cap) at_ cut
  have hb : Below w.heap.size w ((w.alloc (.cells #[.int .i64 at_, .slice a len cap, .bool cut] 28)).alloc (.cells #[.int .u8 0, .int .i64 0, .int .i64 0, .int .i64 0, .int .i64 0, .complex .f64 0 0, .int .i64 0, .int .i64 0] 42)) := ((Below.refl _ _).alloc (Nat.le_refl _) _).alloc (by simp) _
  go_enter Try.func13, Try.ntmps13
  go_wp2_with fail
  refine wp_scope_jumps 0 (fun a' w' => Room8 (w.heap.size + 1) w' ∧ Below w.heap.size w w' ∧ a'.defers = [] ∧ ∃ s0 s1 s3 s4 s5 s6 s7 s8 s9 s10 s11 s12 s13 s14 s15 s16 s17, a'.tmps = #[s0, s1, .pointer (some ⟨w.heap.size + 1, 0, none⟩), s3, s4, s5, s6, s7, s8, s9, s10, s11, s12, s13, s14, s15, s16, s17]) (fun _ _ => 0) rfl ?_ ?_
  · by_cases h0 : len = 0
    · subst h0
      go_wp2
      go_step3
      exact ⟨rfl, hr, hb, rfl, _, _, _, _, _, _, _, _, _, _, _, _, _, _, _, _, _, rfl⟩
    · obtain rfl : cut = true := hbad.resolve_left h0
      have h1 : ((len : Int) == 0) = false := by simp; omega
      go_wp2
      go_step3
      exact ⟨rfl, hr, hb, rfl, _, _, _, _, _, _, _, _, _, _, _, _, _, _, _, _, _, rfl⟩
  · clear hr hb
    rintro ⟨t, d⟩ w2 ⟨hr, hb, rfl, s0, s1, s3, s4, s5, s6, s7, s8, s9, s10, s11, s12, s13, s14, s15, s16, s17, rfl⟩
    have r0 := hr.at (o := 0) (by omega)
    have r1 := hr.at (o := 1) (by omega)
    have r2 := hr.at (o := 2) (by omega)
    have r3 := hr.at (o := 3) (by omega)
    have r4 := hr.at (o := 4) (by omega)
    have r5 := hr.at (o := 5) (by omega)
    have r6 := hr.at (o := 6) (by omega)
    have r7 := hr.at (o := 7) (by omega)
    have f0 := (hr 0 (by omega)).2
    have f1 := (hr 1 (by omega)).2
    have f2 := (hr 2 (by omega)).2
    have f3 := (hr 3 (by omega)).2
    have f4 := (hr 4 (by omega)).2
    have f5 := (hr 5 (by omega)).2
    have f6 := (hr 6 (by omega)).2
    have f7 := (hr 7 (by omega)).2
    go_wp2
    rw [jump_ret]
    obtain ⟨d0, d1, d2, d3, d4, d5, d6, d7⟩ := eight_held (W := w2) (B := w.heap.size + 1) (v0 := .int .u8 0) (v1 := .int .i64 0) (v2 := .int .i64 0) (v3 := .int .i64 0) (v4 := .int .i64 0) (v5 := .complex .f64 0 0) (v6 := .int .i64 0) (v7 := .int .i64 0) hr
    have hB4 : Below w.heap.size w ((((((((w2.setCell ⟨w.heap.size + 1, 0, none⟩ (.int .u8 0)).setCell ⟨w.heap.size + 1, 1, none⟩ (.int .i64 0)).setCell ⟨w.heap.size + 1, 2, none⟩ (.int .i64 0)).setCell ⟨w.heap.size + 1, 3, none⟩ (.int .i64 0)).setCell ⟨w.heap.size + 1, 4, none⟩ (.int .i64 0)).setCell ⟨w.heap.size + 1, 5, none⟩ (.complex .f64 0 0)).setCell ⟨w.heap.size + 1, 6, none⟩ (.int .i64 0)).setCell ⟨w.heap.size + 1, 7, none⟩ (.int .i64 0)) := (((((((hb.setCell (Nat.le_succ _) _).setCell (Nat.le_succ _) _).setCell (Nat.le_succ _) _).setCell (Nat.le_succ _) _).setCell (Nat.le_succ _) _).setCell (Nat.le_succ _) _).setCell (Nat.le_succ _) _).setCell (Nat.le_succ _) _
    clear r0 r1 r2 r3 r4 r5 r6 r7 f0 f1 f2 f3 f4 f5 f6 f7 hr hb
    generalize ((((((((w2.setCell ⟨w.heap.size + 1, 0, none⟩ (.int .u8 0)).setCell ⟨w.heap.size + 1, 1, none⟩ (.int .i64 0)).setCell ⟨w.heap.size + 1, 2, none⟩ (.int .i64 0)).setCell ⟨w.heap.size + 1, 3, none⟩ (.int .i64 0)).setCell ⟨w.heap.size + 1, 4, none⟩ (.int .i64 0)).setCell ⟨w.heap.size + 1, 5, none⟩ (.complex .f64 0 0)).setCell ⟨w.heap.size + 1, 6, none⟩ (.int .i64 0)).setCell ⟨w.heap.size + 1, 7, none⟩ (.int .i64 0)) = W5 at *
    exact bodyPost_ret (v := .tuple #[RV 0 0 0 0 0 0 0 0 0, .int .i64 11]) (by simp [results, Try.results13, go_sem, d0, d1, d2, d3, d4, d5, d6, d7]) rfl ⟨rfl, hB4⟩
set_option maxRecDepth 100000 in
set_option maxHeartbeats 2000000 in
theorem rec_good (at_ : Int) (a : Option Addr) (len cap : Nat) (h0 : len ≠ 0) (k ts src seq ek : Int) (p q : Nat) (rs rt e : Int) (w : World)
    (h : ∀ w', Below w.heap.size w w' → Calls Try.prog 19 #[.slice a len cap] w' fun r w'' => r = .returned (.tuple #[RV k ts src seq ek p q rs rt, .int .i64 e]) ∧ Below w'.heap.size w' w'') :
    Calls Try.prog 13 #[PV at_ (.slice a len cap) false] w fun r w' => r = .returned (.tuple #[RV k ts src seq ek p q rs rt, .int .i64 e]) ∧ Below w.heap.size w w' := by
  have hr := room_two w (.slice a len cap) at_ false
  have hb : Below w.heap.size w ((w.alloc (.cells #[.int .i64 at_, .slice a len cap, .bool false] 28)).alloc (.cells #[.int .u8 0, .int .i64 0, .int .i64 0, .int .i64 0, .int .i64 0, .complex .f64 0 0, .int .i64 0, .int .i64 0] 42)) := ((Below.refl _ _).alloc (Nat.le_refl _) _).alloc (by simp) _
  have H := Lib.hid (h _ hb)
  have h1 : ((len : Int) == 0) = false := by simp; omega
  clear h
  go_enter Try.func13, Try.ntmps13
  go_wp2_with fail
  refine wp_scope_jumps 0 (fun a' w' => False) (fun _ _ => 0) rfl ?_ ?_
  · go_wp2_with fail
    (with_reducible refine H.out.mono ?_)
    rintro r w3 ⟨rfl, hb3⟩
    have hm := hr.later (by simp) hb3
    have hB := hb.trans (hb3.mono (by simp; omega))
    clear hr hb hb3 H
    have r0 := hm.at (o := 0) (by omega)
    have r1 := hm.at (o := 1) (by omega)
    have r2 := hm.at (o := 2) (by omega)
    have r3 := hm.at (o := 3) (by omega)
    have r4 := hm.at (o := 4) (by omega)
    have r5 := hm.at (o := 5) (by omega)
    have r6 := hm.at (o := 6) (by omega)
    have r7 := hm.at (o := 7) (by omega)
    have f0 := (hm 0 (by omega)).2
    have f1 := (hm 1 (by omega)).2
    have f2 := (hm 2 (by omega)).2
    have f3 := (hm 3 (by omega)).2
    have f4 := (hm 4 (by omega)).2
    have f5 := (hm 5 (by omega)).2
    have f6 := (hm 6 (by omega)).2
    have f7 := (hm 7 (by omega)).2
    go_wp2
    rw [jump_ret]
    obtain ⟨d0, d1, d2, d3, d4, d5, d6, d7⟩ := eight_held (W := w3) (B := w.heap.size + 1) (v0 := .int .u8 k) (v1 := .int .i64 ts) (v2 := .int .i64 src) (v3 := .int .i64 seq) (v4 := .int .i64 ek) (v5 := .complex .f64 p q) (v6 := .int .i64 rs) (v7 := .int .i64 rt) hm
    have hB4 : Below w.heap.size w ((((((((w3.setCell ⟨w.heap.size + 1, 0, none⟩ (.int .u8 k)).setCell ⟨w.heap.size + 1, 1, none⟩ (.int .i64 ts)).setCell ⟨w.heap.size + 1, 2, none⟩ (.int .i64 src)).setCell ⟨w.heap.size + 1, 3, none⟩ (.int .i64 seq)).setCell ⟨w.heap.size + 1, 4, none⟩ (.int .i64 ek)).setCell ⟨w.heap.size + 1, 5, none⟩ (.complex .f64 p q)).setCell ⟨w.heap.size + 1, 6, none⟩ (.int .i64 rs)).setCell ⟨w.heap.size + 1, 7, none⟩ (.int .i64 rt)) := (((((((hB.setCell (Nat.le_succ _) _).setCell (Nat.le_succ _) _).setCell (Nat.le_succ _) _).setCell (Nat.le_succ _) _).setCell (Nat.le_succ _) _).setCell (Nat.le_succ _) _).setCell (Nat.le_succ _) _).setCell (Nat.le_succ _) _
    clear r0 r1 r2 r3 r4 r5 r6 r7 f0 f1 f2 f3 f4 f5 f6 f7 hm hB
    generalize ((((((((w3.setCell ⟨w.heap.size + 1, 0, none⟩ (.int .u8 k)).setCell ⟨w.heap.size + 1, 1, none⟩ (.int .i64 ts)).setCell ⟨w.heap.size + 1, 2, none⟩ (.int .i64 src)).setCell ⟨w.heap.size + 1, 3, none⟩ (.int .i64 seq)).setCell ⟨w.heap.size + 1, 4, none⟩ (.int .i64 ek)).setCell ⟨w.heap.size + 1, 5, none⟩ (.complex .f64 p q)).setCell ⟨w.heap.size + 1, 6, none⟩ (.int .i64 rs)).setCell ⟨w.heap.size + 1, 7, none⟩ (.int .i64 rt)) = W5 at *
    exact bodyPost_ret (v := .tuple #[RV k ts src seq ek p q rs rt, .int .i64 e]) (by simp [results, Try.results13, go_sem, d0, d1, d2, d3, d4, d5, d6, d7]) rfl ⟨rfl, hB4⟩
  · intro a' w' h; exact h.elim
end Go.Proofs.Ytepbjjddpfejnaa
