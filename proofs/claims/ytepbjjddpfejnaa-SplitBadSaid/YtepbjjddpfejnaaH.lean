/-
  Contracts of event.Same and of the document's own Same at two events of nought, of record's rightEvent and rightMark; no condition but the bounds that are named.
-/
import Derived.Test.YtepbjjddpfejnaaG
namespace Go.Proofs.Ytepbjjddpfejnaa
open Go.ChangeShapes Go.WideShapes Go.ChangeAt Go.RowKit
set_option linter.unusedVariables false
set_option linter.unusedSimpArgs false
theorem ord0 : FloatKind.f64.format.order 0 0 = some .eq := by decide +kernel
/-- An event lies at block B. -/
def EvAt (W : World) (B : Nat) (ts src seq ek : Int) (p q : Nat) : Prop := B < W.heap.size ∧ W.cell? ⟨B, 0, none⟩ = some (.int .i64 ts) ∧ W.cell? ⟨B, 1, none⟩ = some (.int .i64 src) ∧ W.cell? ⟨B, 2, none⟩ = some (.int .i64 seq) ∧ W.cell? ⟨B, 3, none⟩ = some (.int .i64 ek) ∧ W.cell? ⟨B, 4, none⟩ = some (.complex .f64 p q)
theorem bcell {W w1 : World} (hb : Below W.heap.size W w1) {b o : Nat} {v : Value} (hl : b < W.heap.size) (h : W.cell? ⟨b, o, none⟩ = some v) : w1.cell? ⟨b, o, none⟩ = some v := (hb.cell (p := ⟨b, o, none⟩) hl).trans h
theorem beyond {W w1 : World} (hb : Below W.heap.size W w1) {b : Nat} (hl : b < W.heap.size) : b < w1.heap.size := Nat.lt_of_lt_of_le hl hb.size
set_option maxRecDepth 100000 in
set_option maxHeartbeats 3200000 in
theorem eSame_zero (w : World) :
    Calls Try.prog 59 #[EV 0 0 0 0 0 0, EV 0 0 0 0 0 0] w fun e w' => e = .returned (.bool true) ∧ Below w.heap.size w w' := by
  have hs := Lib.hid (same_yes ord0 ord0)
  go_enter Try.func59, Try.ntmps59
  go_wp2
  obtain ⟨B, hB⟩ : ∃ B, w.heap.size = B := ⟨_, rfl⟩
  obtain ⟨w0, hw0⟩ : ∃ w0, (w.alloc (.cells #[.int .i64 0, .int .i64 0, .int .i64 0, .int .i64 0, .complex .f64 0 0] 40)).alloc (.cells #[.int .i64 0, .int .i64 0, .int .i64 0, .int .i64 0, .complex .f64 0 0] 40) = w0 := ⟨_, rfl⟩
  rw [hw0]
  have e : EvAt w0 B 0 0 0 0 0 0 ∧ EvAt w0 (B + 1) 0 0 0 0 0 0 ∧ Below B w w0 := by
    subst hw0 hB
    exact ⟨by simp [EvAt, go_sem], by simp [EvAt, go_sem], below_two _ _ _⟩
  rw [hB]
  clear hw0
  obtain ⟨⟨a0, a1, a2, a3, a4, a5⟩, ⟨c0, c1, c2, c3, c4, c5⟩, hbel⟩ := e
  have heq : ∀ w, (binOp .eql 62 (.agg #[.int .i64 0, .int .i64 0, .int .i64 0]) (.agg #[.int .i64 0, .int .i64 0, .int .i64 0])).run Try.prog w = Result.ok (.bool true) w := fun w => by kernel_rfl
  have HB := Lib.hid hB
  have hbd := hbel.drew
  clear hB
  go_region_held3 (fun w' => B + 1 < w'.heap.size ∧ w'.cell? ⟨B, 0, none⟩ = some (.int .i64 0) ∧ w'.cell? ⟨B, 1, none⟩ = some (.int .i64 0) ∧ w'.cell? ⟨B, 2, none⟩ = some (.int .i64 0) ∧ w'.cell? ⟨B, 3, none⟩ = some (.int .i64 0) ∧ w'.cell? ⟨B, 4, none⟩ = some (.complex .f64 0 0) ∧
      w'.cell? ⟨B + 1, 0, none⟩ = some (.int .i64 0) ∧ w'.cell? ⟨B + 1, 1, none⟩ = some (.int .i64 0) ∧ w'.cell? ⟨B + 1, 2, none⟩ = some (.int .i64 0) ∧ w'.cell? ⟨B + 1, 3, none⟩ = some (.int .i64 0) ∧ w'.cell? ⟨B + 1, 4, none⟩ = some (.complex .f64 0 0) ∧ Below B w w')
    (first | go_keep | (go_split_ands; exact ⟨beyond hb ‹_›, bcell hb (by omega) ‹_›, bcell hb (by omega) ‹_›, bcell hb (by omega) ‹_›, bcell hb (by omega) ‹_›, bcell hb (by omega) ‹_›, bcell hb (by omega) ‹_›, bcell hb (by omega) ‹_›, bcell hb (by omega) ‹_›, bcell hb (by omega) ‹_›, bcell hb (by omega) ‹_›, Below.trans ‹_› (hb.mono (by omega))⟩))
    (first | ((with_reducible refine (key_any _ _ _ _ _ _ _).mono ?_); rintro e w1 ⟨rfl, hb⟩) | ((with_reducible refine (hs.out _).mono ?_); rintro e w1 ⟨rfl, rfl⟩))
  go_split_ands
  have hfin : Below w.heap.size w w1 := by rw [HB.out]; assumption
  go_wp2
  go_ret
  exact ⟨rfl, hfin⟩
set_option maxHeartbeats 400000 in
theorem refKey_any (ts src seq ek : Int) (p q : Nat) (w : World) :
    Calls Try.prog 31 #[EV ts src seq ek p q] w fun e w' => e = .returned (.agg #[.int .i64 ts, .int .i64 src, .int .i64 seq]) ∧ Below w.heap.size w w' := by
  go_enter Try.func31, Try.ntmps31
  go_wp2
  refine bodyPost_ret (v := .agg #[.int .i64 ts, .int .i64 src, .int .i64 seq]) (by simp [results, Try.results31, go_sem]) rfl ⟨rfl, ?_⟩
  exact below_two _ _ _
set_option maxRecDepth 100000 in
set_option maxHeartbeats 3200000 in
theorem refSame_zero (w : World) :
    Calls Try.prog 20 #[EV 0 0 0 0 0 0, EV 0 0 0 0 0 0] w fun e w' => e = .returned (.bool true) ∧ Below w.heap.size w w' := by
  have hs := Lib.hid (ref_same_yes ord0 ord0)
  go_enter Try.func20, Try.ntmps20
  go_wp2
  obtain ⟨B, hB⟩ : ∃ B, w.heap.size = B := ⟨_, rfl⟩
  obtain ⟨w0, hw0⟩ : ∃ w0, (w.alloc (.cells #[.int .i64 0, .int .i64 0, .int .i64 0, .int .i64 0, .complex .f64 0 0] 40)).alloc (.cells #[.int .i64 0, .int .i64 0, .int .i64 0, .int .i64 0, .complex .f64 0 0] 40) = w0 := ⟨_, rfl⟩
  rw [hw0]
  have e : EvAt w0 B 0 0 0 0 0 0 ∧ EvAt w0 (B + 1) 0 0 0 0 0 0 ∧ Below B w w0 := by
    subst hw0 hB
    exact ⟨by simp [EvAt, go_sem], by simp [EvAt, go_sem], below_two _ _ _⟩
  rw [hB]
  clear hw0
  obtain ⟨⟨a0, a1, a2, a3, a4, a5⟩, ⟨c0, c1, c2, c3, c4, c5⟩, hbel⟩ := e
  have heq : ∀ w, (binOp .eql 62 (.agg #[.int .i64 0, .int .i64 0, .int .i64 0]) (.agg #[.int .i64 0, .int .i64 0, .int .i64 0])).run Try.prog w = Result.ok (.bool true) w := fun w => by kernel_rfl
  have HB := Lib.hid hB
  have hbd := hbel.drew
  clear hB
  go_region_held3 (fun w' => B + 1 < w'.heap.size ∧ w'.cell? ⟨B, 0, none⟩ = some (.int .i64 0) ∧ w'.cell? ⟨B, 1, none⟩ = some (.int .i64 0) ∧ w'.cell? ⟨B, 2, none⟩ = some (.int .i64 0) ∧ w'.cell? ⟨B, 3, none⟩ = some (.int .i64 0) ∧ w'.cell? ⟨B, 4, none⟩ = some (.complex .f64 0 0) ∧
      w'.cell? ⟨B + 1, 0, none⟩ = some (.int .i64 0) ∧ w'.cell? ⟨B + 1, 1, none⟩ = some (.int .i64 0) ∧ w'.cell? ⟨B + 1, 2, none⟩ = some (.int .i64 0) ∧ w'.cell? ⟨B + 1, 3, none⟩ = some (.int .i64 0) ∧ w'.cell? ⟨B + 1, 4, none⟩ = some (.complex .f64 0 0) ∧ Below B w w')
    (first | go_keep | (go_split_ands; exact ⟨beyond hb ‹_›, bcell hb (by omega) ‹_›, bcell hb (by omega) ‹_›, bcell hb (by omega) ‹_›, bcell hb (by omega) ‹_›, bcell hb (by omega) ‹_›, bcell hb (by omega) ‹_›, bcell hb (by omega) ‹_›, bcell hb (by omega) ‹_›, bcell hb (by omega) ‹_›, bcell hb (by omega) ‹_›, Below.trans ‹_› (hb.mono (by omega))⟩))
    (first | ((with_reducible refine (refKey_any _ _ _ _ _ _ _).mono ?_); rintro e w1 ⟨rfl, hb⟩) | ((with_reducible refine (hs.out _).mono ?_); rintro e w1 ⟨rfl, rfl⟩))
  go_split_ands
  have hfin : Below w.heap.size w w1 := by rw [HB.out]; assumption
  go_wp2
  go_ret
  exact ⟨rfl, hfin⟩
set_option maxRecDepth 100000 in
set_option maxHeartbeats 1000000 in
theorem rightEvent_any (ts src seq ek : Int) (p q : Nat) (b1 b3 b4 b5 : Bool) (h1 : Hid (upB ts 1099511627776 = b1)) (h2 : Hid (upB src 255 = true)) (h3 : Hid (upB seq 1048576 = b3)) (h4 : Hid (upB ek 5 = b4)) (h5 : PtIs p q b5) (w : World) :
    Calls Try.prog 53 #[RV 1 ts src seq ek p q 0 0] w fun e w' => e = .returned (.bool (b1 && b3 && b4 && b5)) ∧ Below w.heap.size w w' := by
  have h0 : Hid (upB 0 3 = true) := rfl
  go_enter Try.func53, Try.ntmps53
  go_wp2
  refine wp_scope_jumps 0 (fun a' w' => False) (fun _ _ => 0) rfl ?_ ?_
  · go_wp2_with fail
    (with_reducible refine (rUpTo_any _ _ _).mono ?_)
    rintro e w1 ⟨rfl, rfl⟩
    rw [h2.out]
    go_wp2_with fail
    (with_reducible refine (eRight_any _ _ _ _ _ _ _ _ _ _ _ h1 h0 h3 h4 h5 _).mono ?_)
    rintro e w1 ⟨rfl, hb⟩
    go_wp2
    rw [jump_ret]
    go_ret
    refine ⟨rfl, Below.trans ?_ (hb.mono (by simp; omega))⟩
    exact below_two _ _ _
  · intro a' w' h; exact h.elim
set_option maxRecDepth 100000 in
set_option maxHeartbeats 1000000 in
theorem rightMark_any (s t : Int) (b : Bool) (h2 : Hid (upB s 255 = true)) (h1 : Hid (upB t 1099511627776 = b)) (w : World) :
    Calls Try.prog 55 #[RV 2 0 0 0 0 0 0 s t] w fun e w' => e = .returned (.bool b) ∧ Below w.heap.size w w' := by
  go_enter Try.func55, Try.ntmps55
  go_wp2
  refine wp_scope_jumps 0 (fun a' w' => False) (fun _ _ => 0) rfl ?_ ?_
  · go_wp2_with fail
    (with_reducible refine (eSame_zero _).mono ?_)
    rintro e w1 ⟨rfl, hb⟩
    have hc6 := bcell hb (b := w.heap.size) (o := 6) (v := .int .i64 s) (by simp) (by simp [go_sem])
    have hc7 := bcell hb (b := w.heap.size) (o := 7) (v := .int .i64 t) (by simp) (by simp [go_sem])
    go_wp2_with fail
    (with_reducible refine (rUpTo_any _ _ _).mono ?_)
    rintro e w2 ⟨rfl, rfl⟩
    rw [h2.out]
    go_wp2_with fail
    (with_reducible refine (rUpTo_any _ _ _).mono ?_)
    rintro e w2 ⟨rfl, rfl⟩
    rw [h1.out]
    go_wp2
    rw [jump_ret]
    go_ret
    exact ⟨rfl, ((Below.refl _ _).alloc (Nat.le_refl _) _).trans (hb.mono (by simp))⟩
  · intro a' w' h; exact h.elim
end Go.Proofs.Ytepbjjddpfejnaa
