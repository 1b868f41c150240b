/-
  Contract of plane.Turn at the point 1+2i and one quarter: -2+1i; no condition.
-/
import Derived.Test.YtjpemhjlgpepgaaB
import Derived.RangeFuncNested
import Derived.RangeFuncBound
import Derived.RangeFuncCalls
import Derived.RangeFuncLeaves
import Derived.Shelf.Abstract
import Derived.Shelf.RegionOpen
import Derived.OwnWalkIn
import Derived.TacticsInMore
import Derived.LoopNIn
import Derived.LoopIn
import Derived.Maps.AppendAt
namespace Go.Proofs.Ytjpemhjlgpepgaa
open Go.ChangeShapes Go.WideShapes Go.ChangeAt Go.RowKit
set_option linter.unusedVariables false
set_option linter.unusedSimpArgs false
attribute [local go_sem] Oper.semAt_some
/-- A complex number is stored as one cell. -/
@[go_sem] theorem run_store_complex {P : Program} {w : World} {a : Addr} {m : Mode} (k : FloatKind) (x y : Nat) : (store a (.complex k x y) m).run P w = stored P w a (.complex k x y) m := run_store P w a _ m rfl

set_option maxHeartbeats 400000 in
theorem units_any (a : Int) (w : World) :
    Calls Try.prog 16 #[.int .i64 a] w fun e w' => e = .returned (.func (.func 19) #[] #[.pointer (some ⟨w.heap.size, 0, none⟩)]) ∧ w' = w.alloc (.cells #[.int .i64 a] 3) := by
  go_enter Try.func16, Try.ntmps16
  go_wp2
  go_ret
  exact ⟨rfl, rfl⟩

set_option maxRecDepth 100000 in
set_option maxHeartbeats 1000000 in
theorem units1_in (n : Nat) (hn : 1 ≤ n) (l B : Nat) (J Jx : List Unit → World → Prop)
    (hY : Hid (∀ pre x W, J pre W → pre.length < 1 → YieldAt Fence.wide (n - 1) Try.prog l #[.complex .f64 0 4607182418800017408] W fun e W' =>
      (e = .returned (.bool true) ∧ J (pre ++ [x]) W' ∧ KeepsWalks W W') ∨ (e = .returned (.bool false) ∧ Jx (pre ++ [x]) W')))
    (W : World) (hB : W.cell? ⟨B, 0, none⟩ = some (.int .i64 1)) (h0 : J [] W) :
    CallsIn Fence.wide n Try.prog 19 #[.func (.yield l) #[] #[], .pointer (some ⟨B, 0, none⟩)] W fun e W' => (∃ v, e = .returned v) ∧
      ((∃ ys, ys = [()] ∧ J ys W') ∨ (∃ pre, True ∧ Jx pre W')) := by
  refine callsIn_of_wp Try.func19 rfl trivial ?_ rfl
  simp only [Try.ntmps19, List.size_toArray, List.length_cons, List.length_nil, Nat.reduceAdd, Nat.reduceSub, Array.replicate_succ, Array.replicate_zero, List.push_toArray, List.append_toArray, List.nil_append, List.cons_append]
  have hb3 : bits .and .i64 1 3 = 1 := by decide +kernel
  gi_wp2
  clear hb3
  gi_loopw [5] (fun t wr => ∃ k : Nat, k ≤ 1 ∧ t = .int .i64 k ∧ J (List.replicate k ()) wr) (fun t _ => 1 - (intOf t).toNat)
  case atStart => exact ⟨0, Nat.zero_le _, rfl, h0⟩
  case round =>
    clear hB h0
    obtain ⟨k, hk, rfl, hJs⟩ := hrel
    by_cases hlt : k < 1
    · obtain rfl : k = 0 := by omega
      obtain ⟨fn, tmps, assign, body, hy, hR⟩ := hY.out [] () wr hJs (by simp)
      gi_wp2
      refine hR.mono ?_
      rintro e W3 (⟨rfl, hJ3, hk3⟩ | ⟨rfl, hJx3⟩)
      · gi_wp2
        go_roundw
        case rel => exact ⟨1, by omega, by go_num, hJ3⟩
        case measure => simp [intOf]
      · gi_wp2
        refine bodyPost_ret (results_none rfl _ _ _) rfl ?_
        exact ⟨⟨_, rfl⟩, .inr ⟨_, trivial, hJx3⟩⟩
    · obtain rfl : k = 1 := by omega
      gi_wp2
      go_end0
      exact ⟨⟨_, rfl⟩, .inl ⟨_, rfl, hJs⟩⟩
theorem units_stops (n : Nat) (hn : 1 ≤ n) (B : Nat) (w : World) (hB : B < w.heap.size) (hc : w.cell? ⟨B, 0, none⟩ = some (.int .i64 1)) :
    SeqStopsK Fence.wide n Try.prog 19 #[.pointer (some ⟨B, 0, none⟩)] (fun x : Unit => #[Value.complex .f64 0 4607182418800017408]) KeepsWalks (fun ys => ys = [()]) (fun _ => True) 1 w := fun l J Jx W hW _ _ hY h0 =>
  units1_in n hn l B J Jx hY W ((hW.cell (p := ⟨B, 0, none⟩) hB).trans hc) h0

/-- The point before and behind the round. -/
def turning (pre : List Unit) : Value := match pre with
  | [] => .complex .f64 4607182418800017408 4611686018427387904
  | _ :: _ => .complex .f64 13835058055282163712 4607182418800017408
theorem turn_mul : cMulBits 4607182418800017408 4611686018427387904 0 4607182418800017408 = some (13835058055282163712, 4607182418800017408) := by decide +kernel
theorem rep1 : Rep 4607182418800017408 1 := ⟨false, 1, 52, by decide +kernel, rfl⟩
theorem rep2 : Rep 4611686018427387904 2 := ⟨false, 2, 51, by decide +kernel, rfl⟩
theorem repm2 : Rep 13835058055282163712 (-2) := ⟨true, 2, 51, by decide +kernel, rfl⟩
theorem in_small {n : Int} (h1 : -100 ≤ n) (h2 : n ≤ 100) : In n := ⟨by omega, by omega⟩
theorem pt12 : Pt 4607182418800017408 4611686018427387904 1 2 := ⟨rep1, rep2, in_small (by omega) (by omega), in_small (by omega) (by omega)⟩
def TIn (w : World) (pre : List Unit) (W : World) : Prop := Boxed W w.heap.size 23 (turning pre) ∧ Below w.heap.size w W
theorem TIn_own (w : World) (B : Nat) (hB : w.heap.size ≤ B) : OwnFrom B (TIn w) := by
  intro s A C row hs hg hr
  exact ⟨boxed_own w.heap.size 23 turning s A C row hs.1 hg (fun r e => (hr r e).2), ownFrom_below (Nat.le_refl _) hB s A C row hs.2 hg hr⟩

set_option maxRecDepth 100000 in
set_option maxHeartbeats 1000000 in
theorem turn_12 (w : World) :
    Calls Try.prog 9 #[.complex .f64 4607182418800017408 4611686018427387904, .int .i64 1] w fun e w' => e = .returned (.complex .f64 (floatOfInt .f64 (-2)) (floatOfInt .f64 1)) ∧ Below w.heap.size w w' := by
  refine (callsIn_wide (n := 3)).1 ?_
  refine callsIn_of_wp_marks Try.func9 rfl trivial ?_ rfl
  rw [wpIn_wide]
  simp only [Try.ntmps9, List.size_toArray, List.length_cons, List.length_nil, Nat.reduceAdd, Nat.reduceSub, Array.replicate_succ, Array.replicate_zero, List.push_toArray, List.append_toArray, List.nil_append, List.cons_append]
  have hR := Lib.hid pt12.right
  have bC := Boxed.new w 23 (.complex .f64 4607182418800017408 4611686018427387904)
  go_wp2
  refine wp_scope_jumps 0 (fun _ _ => False) (fun _ _ => 0) rfl ?_ ?_
  · go_wp2_with (first | ((with_reducible refine (hR.out _).mono ?_); rintro e w' ⟨rfl, rfl⟩) | ((with_reducible refine (units_any _ _).mono ?_); rintro e w' ⟨rfl, rfl⟩))
    have bN := Boxed.new (w.alloc (.cells #[.complex .f64 4607182418800017408 4611686018427387904] 23)) 3 (.int .i64 1)
    rw [World.size_alloc] at bN
    have hB0 : Below w.heap.size w ((w.alloc (.cells #[.complex .f64 4607182418800017408 4611686018427387904] 23)).alloc (.cells #[.int .i64 1] 3)) := ((Below.refl _ w).alloc (Nat.le_refl _) _).alloc (by simp) _
    refine (wpIn_wide (n := 3)).1 ?_
    refine wpIn_rangeFunc_ownF rfl (by omega) (gf := 19) (lb := #[.pointer (some ⟨w.heap.size + 1, 0, none⟩)]) rfl trivial (enters_of Try.func19 (by kernel_rfl) rfl)
      (units_stops 2 (by omega) (w.heap.size + 1) _ (by simp) bN.cell) walksK_t walksK_b (Below.refl _ _) (fun _ => rfl)
      (TIn w) (fun _ _ _ => False) (TIn_own w _ (by simp; omega)) (fun _ _ _ _ _ hs _ _ => hs)
      ⟨bC.alloc _, hB0⟩
      (fun x => { tmps := #[.complex .f64 4607182418800017408 4611686018427387904, .int .i64 1, .pointer (some ⟨w.heap.size, 0, none⟩), undef, .complex .f64 0 0, .complex .f64 0 4607182418800017408, .complex .f64 4607182418800017408 4611686018427387904, .bool true, .bool false, .int .i64 1, .func (.func 19) #[] #[.pointer (some ⟨w.heap.size + 1, 0, none⟩)], .complex .f64 0 4607182418800017408, undef, undef, undef, undef, undef, undef, undef, undef, undef, undef], defers := [] }) ?assign ?body ?done ?stop
    case assign =>
      intro l x W K hK
      gi_wp2
      exact hK
    case body =>
      rintro l pre x W ⟨hv, hB⟩ hlt
      obtain rfl : pre = [] := by cases pre with
        | nil => rfl
        | cons a t => simp at hlt
      have hop := fun t w => run_complex_mul (P := Try.prog) w t _ _ _ _ _ _ turn_mul
      have hc : W.cell? ⟨w.heap.size, 0, none⟩ = some (.complex .f64 4607182418800017408 4611686018427387904) := hv.cell
      have hf := hv.frozen
      gi_wp2_with (simp only [hop])
      exact ⟨KeepsOthers.setCell _ _ _, (KeepsOthers.setCell _ _ _).walks, hv.set _, hB.setCell (p := ⟨w.heap.size, 0, none⟩) (by simp) _⟩
    case done =>
      rintro D ys W hD rfl ⟨hv, hB⟩ hK
      have hc : W.cell? ⟨w.heap.size, 0, none⟩ = some (.complex .f64 13835058055282163712 4607182418800017408) := hv.cell
      have h1 := conv_int _ _ repm2 (by decide)
      have h2 := conv_int _ _ rep1 (by decide)
      go_wp2_with (first | (simp only [h1, h2]; done) | ((with_reducible refine (point_any _ _ _).mono ?_); rintro e w' ⟨rfl, rfl⟩))
      have hDw : w.heap.size ≤ D := by simp at hD; omega
      rw [jump_ret]
      refine ⟨by simp, .inl ⟨_, _, rfl, run_takeDeferred hK, ?_⟩⟩
      exact ⟨_, results_tmp rfl _ _ _, rfl, hB.trans (belowK_b (w := w) (Nat.le_refl _) W D _ (.deferred none) hDw hK rfl rfl)⟩
    case stop =>
      rintro D c pre W _ _ h _
      exact h.elim
  · intro a' w' h; exact h.elim

theorem rep0 : Rep 0 0 := rep_zero_of (s := false) (j := 1074) (by decide +kernel)
theorem rep3 : Rep 4613937818241073152 3 := ⟨false, 3, 51, by decide +kernel, rfl⟩
theorem rep4 : Rep 4616189618054758400 4 := ⟨false, 4, 50, by decide +kernel, rfl⟩
theorem pt34 : Pt 4613937818241073152 4616189618054758400 3 4 := ⟨rep3, rep4, in_small (by omega) (by omega), in_small (by omega) (by omega)⟩
theorem repm7 : Rep 13842939354630062080 (-7) := ⟨true, 7, 50, by decide +kernel, rfl⟩
theorem rep9 : Rep 4621256167635550208 9 := ⟨false, 9, 49, by decide +kernel, rfl⟩
theorem ptm79 : Pt (floatOfInt .f64 (-7)) (floatOfInt .f64 9) (-7) 9 := pt_of (in_small (by omega) (by omega)) (in_small (by omega) (by omega))
theorem make_over (w : World) : Calls Try.prog 5 #[.int .i64 1048577, .int .i64 0] w fun e w' => e = .returned (.tuple #[.complex .f64 0 0, .int .i64 20]) ∧ w = w' :=
  make_no 1048577 0 false true (rightPart_no _ 1048577 (rep_of _ (by decide)) (.inr (by omega))) ((in_small (n := 0) (by omega) (by omega)).part (rep_of _ (by decide))) rfl w
theorem half_right (q : Nat) (b : Bool) (h : PartIs q b) (w : World) : Calls Try.prog 12 #[.complex .f64 4602678819172646912 q] w fun e w' => e = .returned (.bool false) ∧ w = w' :=
  right_any _ q false b rightPart_half h w

set_option maxRecDepth 100000 in
set_option maxHeartbeats 2000000 in
theorem wakes_any (w : World) : Calls Try.prog 4 #[] w fun e w' => e = .returned (.bool true) ∧ Below w.heap.size w w' := by
  have c1 := Lib.hid (make_yes (-7) 9 (in_small (by omega) (by omega)) (in_small (by omega) (by omega)))
  have c2 := Lib.hid make_over
  have c3 := Lib.hid (dot_any pt12 pt34)
  have c4 := Lib.hid (cross_any pt12 pt34)
  have c6 := Lib.hid (norm_any pt34)
  have c7 := Lib.hid (x_any ptm79)
  have c8 := Lib.hid (y_any ptm79)
  have c9 := Lib.hid ptm79.right
  have c10 := Lib.hid (half_right 0 true ((in_small (n := 0) (by omega) (by omega)).part rep0))
  have c11 := Lib.hid (x_not (half_right 4613937818241073152 true ((in_small (n := 3) (by omega) (by omega)).part rep3)))
  have c12 := Lib.hid (same_yes (order_eq ptm79.re repm7 rfl) (order_eq ptm79.im rep9 rfl))
  have c13 := Lib.hid (same_no (q := floatOfInt .f64 9) (s := 0) (samePart_no _ _ .lt (order_lt ptm79.re rep0 (by omega)) rfl (order_eq ptm79.re ptm79.re rfl)))
  have o1 : FloatKind.f64.format.order (floatOfInt .f64 (-2)) 13835058055282163712 = some .eq := order_eq (rep_of _ (by decide)) repm2 rfl
  have o2 : FloatKind.f64.format.order (floatOfInt .f64 1) 4607182418800017408 = some .eq := order_eq (rep_of _ (by decide)) rep1 rfl
  go_enter Try.func4, Try.ntmps4
  go_wp2_with fail
  (with_reducible refine (c1.out _).mono ?_)
  rintro e w' ⟨rfl, rfl⟩
  go_wp2_with fail
  (with_reducible refine (c2.out _).mono ?_)
  rintro e w' ⟨rfl, rfl⟩
  go_wp2_with fail
  (with_reducible refine (c3.out _).mono ?_)
  rintro e w' ⟨rfl, rfl⟩
  go_wp2_with fail
  (with_reducible refine (c4.out _).mono ?_)
  rintro e w' ⟨rfl, rfl⟩
  go_wp2_with fail
  (with_reducible refine (turn_12 _).mono ?_)
  rintro e w1 ⟨rfl, hb⟩
  go_wp2_with fail
  (with_reducible refine (c6.out _).mono ?_)
  rintro e w' ⟨rfl, rfl⟩
  go_wp2_with fail
  (with_reducible refine (c7.out _).mono ?_)
  rintro e w' ⟨rfl, rfl⟩
  go_wp2_with fail
  (with_reducible refine (c8.out _).mono ?_)
  rintro e w' ⟨rfl, rfl⟩
  go_wp2_with fail
  (with_reducible refine (c9.out _).mono ?_)
  rintro e w' ⟨rfl, rfl⟩
  go_wp2_with fail
  (with_reducible refine (c10.out _).mono ?_)
  rintro e w' ⟨rfl, rfl⟩
  go_wp2_with fail
  (with_reducible refine (c11.out _).mono ?_)
  rintro e w' ⟨rfl, rfl⟩
  go_wp2_with fail
  (with_reducible refine (c12.out _).mono ?_)
  rintro e w' ⟨rfl, rfl⟩
  go_wp2_with fail
  (with_reducible refine (c13.out _).mono ?_)
  rintro e w' ⟨rfl, rfl⟩
  go_wp2
  go_ret
  exact ⟨rfl, hb⟩
end Go.Proofs.Ytjpemhjlgpepgaa
