/-
  Contracts of plane's rightPart, Right, point, Make at words that stand for whole numbers below 2^53: what the document says of them; no other condition.
-/
import Derived.Test.YtjpemhjlgpepgaaA
import Derived.Test.YtjpemhjlgpepgaaRows
import Derived.WalkKit
import Derived.ProofKit
import Derived.OpenShut
import Derived.Below
import Derived.IntWalk
import Derived.Lib.Hide
import Derived.WalkLawsBesides
import Derived.WalkMore
import Derived.ScopeJumps
namespace Go.Proofs.Ytjpemhjlgpepgaa
open Go.ChangeShapes Go.WideShapes Go.ChangeAt Go.RowKit
set_option linter.unusedVariables false
set_option linter.unusedSimpArgs false

theorem jump_ret {l : Nat} {J : Act → World → Prop} {Q : Exit → Act → World → Prop} {a : Act} {w : World} : Exit.jump l J Q .ret a w = Q .ret a w := rfl

theorem rep_least : Rep 13920626448202203136 (-1048576) := ⟨true, 1048576, 32, by decide +kernel, rfl⟩
theorem rep_most : Rep 4697254411347427328 1048576 := ⟨false, 1048576, 32, by decide +kernel, rfl⟩

theorem order_eq {x y : Nat} {m n : Int} (hx : Rep x m) (hy : Rep y n) (h : m = n) : FloatKind.f64.format.order x y = some .eq := by
  rw [rep_order hx hy, h]; simp [compare, compareOfLessAndEq]
theorem order_lt {x y : Nat} {m n : Int} (hx : Rep x m) (hy : Rep y n) (h : m < n) : FloatKind.f64.format.order x y = some .lt := by
  rw [rep_order hx hy]; simp [compare, compareOfLessAndEq, h]
theorem order_gt {x y : Nat} {m n : Int} (hx : Rep x m) (hy : Rep y n) (h : n < m) : FloatKind.f64.format.order x y = some .gt := by
  rw [rep_order hx hy]; simp only [compare, compareOfLessAndEq]; rw [if_neg (by omega), if_neg (by omega)]

theorem conv_int (p : Nat) (n : Int) (hr : Rep p n) (h : n.natAbs < 2 ^ 53) (w : World) : (convert 34 3 (.float .f64 p)).run Try.prog w = .ok (.int .i64 n) w :=
  run_convert_float_int w 34 3 .f64 .i64 p n (by rw [Try.underlying34]; rfl) Try.underlying3 (rep_toInt hr h)
theorem conv_float (n : Int) (w : World) : (convert 3 34 (.int .i64 n)).run Try.prog w = .ok (.float .f64 (floatOfInt .f64 n)) w :=
  run_convert_int_float w 3 34 .i64 .f64 n (by rw [Try.underlying3]; rfl) Try.underlying34

set_option maxHeartbeats 400000 in
theorem rightPart_yes (p : Nat) (n : Int) (hr : Rep p n) (h1 : -1048576 ≤ n) (h2 : n ≤ 1048576) (w : World) :
    Calls Try.prog 17 #[.float .f64 p] w fun e w' => e = .returned (.bool true) ∧ w = w' := by
  have hc := conv_int p n hr (by omega)
  have hb := conv_float n
  have o3 : FloatKind.f64.format.order p (floatOfInt .f64 n) = some .eq := order_eq hr (rep_of n (by omega)) rfl
  rcases Int.lt_or_eq_of_le h1 with g1 | g1
  · have o1 : FloatKind.f64.format.order p 13920626448202203136 = some .gt := order_gt hr rep_least g1
    rcases Int.lt_or_eq_of_le h2 with g2 | g2
    · have o2 : FloatKind.f64.format.order p 4697254411347427328 = some .lt := order_lt hr rep_most g2
      clear hr
      go_enter Try.func17, Try.ntmps17
      go_wp2_with (simp only [hc, hb])
      go_ret
      exact ⟨rfl, rfl⟩
    · have o2 : FloatKind.f64.format.order p 4697254411347427328 = some .eq := order_eq hr rep_most g2
      clear hr g2
      go_enter Try.func17, Try.ntmps17
      go_wp2_with (simp only [hc, hb])
      go_ret
      exact ⟨rfl, rfl⟩
  · have o1 : FloatKind.f64.format.order p 13920626448202203136 = some .eq := order_eq hr rep_least g1.symm
    have o2 : FloatKind.f64.format.order p 4697254411347427328 = some .lt := order_lt hr rep_most (by omega)
    clear hr g1
    go_enter Try.func17, Try.ntmps17
    go_wp2_with (simp only [hc, hb])
    go_ret
    exact ⟨rfl, rfl⟩

set_option maxHeartbeats 400000 in
theorem rightPart_no (p : Nat) (n : Int) (hr : Rep p n) (h : n < -1048576 ∨ 1048576 < n) (w : World) :
    Calls Try.prog 17 #[.float .f64 p] w fun e w' => e = .returned (.bool false) ∧ w = w' := by
  rcases h with g1 | g2
  · have o1 : FloatKind.f64.format.order p 13920626448202203136 = some .lt := order_lt hr rep_least g1
    clear hr
    go_enter Try.func17, Try.ntmps17
    go_wp2
    go_ret
    exact ⟨rfl, rfl⟩
  · have o1 : FloatKind.f64.format.order p 13920626448202203136 = some .gt := order_gt hr rep_least (by omega)
    have o2 : FloatKind.f64.format.order p 4697254411347427328 = some .gt := order_gt hr rep_most g2
    clear hr
    go_enter Try.func17, Try.ntmps17
    go_wp2
    go_ret
    exact ⟨rfl, rfl⟩

theorem half_int : floatToIntVal .f64 4602678819172646912 .i64 = some 0 := by decide +kernel
theorem conv_half (w : World) : (convert 34 3 (.float .f64 4602678819172646912)).run Try.prog w = .ok (.int .i64 0) w :=
  run_convert_float_int w 34 3 .f64 .i64 _ 0 (by rw [Try.underlying34]; rfl) Try.underlying3 half_int
set_option maxHeartbeats 400000 in
/-- One half may not be. -/
theorem rightPart_half (w : World) : Calls Try.prog 17 #[.float .f64 4602678819172646912] w fun e w' => e = .returned (.bool false) ∧ w = w' := by
  have o1 : FloatKind.f64.format.order 4602678819172646912 13920626448202203136 = some .gt := by decide +kernel
  have o2 : FloatKind.f64.format.order 4602678819172646912 4697254411347427328 = some .lt := by decide +kernel
  have o3 : FloatKind.f64.format.order 4602678819172646912 (floatOfInt .f64 0) = some .gt := by decide +kernel
  have hc := conv_half
  have hb := conv_float 0
  go_enter Try.func17, Try.ntmps17
  go_wp2_with (simp only [hc, hb])
  go_ret
  exact ⟨rfl, rfl⟩

/-- What rightPart answers of a word. -/
def PartIs (p : Nat) (b : Bool) : Prop := ∀ w, Calls Try.prog 17 #[.float .f64 p] w fun e w' => e = .returned (.bool b) ∧ w = w'

theorem PartIs.at {p : Nat} {b : Bool} (h : PartIs p b) (w : World) : Calls Try.prog 17 #[.float .f64 p] w fun e w' => e = .returned (.bool b) ∧ w = w' := h w

set_option maxHeartbeats 400000 in
theorem right_any (re im : Nat) (b c : Bool) (h1 : PartIs re b) (h2 : PartIs im c) (w : World) :
    Calls Try.prog 12 #[.complex .f64 re im] w fun e w' => e = .returned (.bool (b && c)) ∧ w = w' := by
  cases b
  · go_enter Try.func12, Try.ntmps12
    go_wp2_with fail
    (with_reducible refine (h1.at _).mono ?_)
    rintro e w' ⟨rfl, rfl⟩
    go_wp2
    go_ret
    exact ⟨rfl, rfl⟩
  · go_enter Try.func12, Try.ntmps12
    go_wp2_with fail
    (with_reducible refine (h1.at _).mono ?_)
    rintro e w' ⟨rfl, rfl⟩
    go_wp2_with fail
    (with_reducible refine (h2.at _).mono ?_)
    rintro e w' ⟨rfl, rfl⟩
    go_wp2
    go_ret
    exact ⟨rfl, rfl⟩

set_option maxHeartbeats 400000 in
theorem point_any (x y : Int) (w : World) :
    Calls Try.prog 14 #[.int .i64 x, .int .i64 y] w fun e w' => e = .returned (.complex .f64 (floatOfInt .f64 x) (floatOfInt .f64 y)) ∧ w = w' := by
  have hx := conv_float x
  have hy := conv_float y
  go_enter Try.func14, Try.ntmps14
  go_wp2_with (simp only [hx, hy])
  go_ret
  exact ⟨rfl, rfl⟩

def In (n : Int) : Prop := -1048576 ≤ n ∧ n ≤ 1048576

set_option maxHeartbeats 400000 in
theorem make_yes (x y : Int) (hx : In x) (hy : In y) (w : World) :
    Calls Try.prog 5 #[.int .i64 x, .int .i64 y] w fun e w' => e = .returned (.tuple #[.complex .f64 (floatOfInt .f64 x) (floatOfInt .f64 y), .int .i64 0]) ∧ w = w' := by
  have px : PartIs (floatOfInt .f64 x) true := rightPart_yes _ x (rep_of x (by have := hx.1; have := hx.2; omega)) hx.1 hx.2
  have py : PartIs (floatOfInt .f64 y) true := rightPart_yes _ y (rep_of y (by have := hy.1; have := hy.2; omega)) hy.1 hy.2
  clear hx hy
  go_enter Try.func5, Try.ntmps5
  go_wp2_with fail
  refine wp_scope_jumps 0 (fun a' w' => False) (fun _ _ => 0) rfl ?_ ?_
  · go_wp2_with fail
    (with_reducible refine (point_any x y _).mono ?_)
    rintro e w' ⟨rfl, rfl⟩
    go_wp2_with fail
    (with_reducible refine (right_any _ _ _ _ px py _).mono ?_)
    rintro e w' ⟨rfl, rfl⟩
    go_wp2
    rw [jump_ret]
    go_ret2
    exact ⟨rfl, rfl⟩
  · intro a' w' h; exact h.elim

set_option maxHeartbeats 400000 in
theorem make_no (x y : Int) (bx b : Bool) (px : PartIs (floatOfInt .f64 x) bx) (py : PartIs (floatOfInt .f64 y) b) (hb : (bx && b) = false) (w : World) :
    Calls Try.prog 5 #[.int .i64 x, .int .i64 y] w fun e w' => e = .returned (.tuple #[.complex .f64 0 0, .int .i64 20]) ∧ w = w' := by
  have hR := right_any _ _ _ _ px py
  rw [hb] at hR
  clear hb px py
  go_enter Try.func5, Try.ntmps5
  go_wp2_with fail
  refine wp_scope_jumps 0 (fun a' w' => w = w' ∧ a'.defers = [] ∧ ∃ s0 s1 s2 s3 s4 s5 s6 s7 s8 s9 s10 s11 s12 s13, a'.tmps = #[s0, s1, s2, s3, s4, s5, s6, s7, s8, s9, s10, s11, s12, s13]) (fun _ _ => 0) rfl ?_ ?_
  · go_wp2_with fail
    (with_reducible refine (point_any x y _).mono ?_)
    rintro e w' ⟨rfl, rfl⟩
    go_wp2_with fail
    (with_reducible refine (hR _).mono ?_)
    rintro e w' ⟨rfl, rfl⟩
    go_wp2
    go_step3
    exact ⟨rfl, rfl, rfl, _, _, _, _, _, _, _, _, _, _, _, _, _, _, rfl⟩
  · rintro ⟨t, d⟩ w2 ⟨rfl, rfl, s0, s1, s2, s3, s4, s5, s6, s7, s8, s9, s10, s11, s12, s13, rfl⟩
    go_wp2
    rw [jump_ret]
    go_ret2
    exact ⟨rfl, rfl⟩

theorem mul_bd {a b : Int} (ha : In a) (hb : In b) : (a * b).natAbs ≤ 2 ^ 40 := by
  rw [Int.natAbs_mul]
  have h1 : a.natAbs ≤ 2 ^ 20 := by have := ha.1; have := ha.2; omega
  have h2 : b.natAbs ≤ 2 ^ 20 := by have := hb.1; have := hb.2; omega
  exact Nat.le_trans (Nat.mul_le_mul h1 h2) (by decide)
theorem In.part {p : Nat} {n : Int} (h : In n) (hr : Rep p n) : PartIs p true := rightPart_yes p n hr h.1 h.2
theorem In.abs {n : Int} (h : In n) : n.natAbs < 2 ^ 53 := by have := h.1; have := h.2; omega

/-- Words of a point that may be. -/
structure Pt (p q : Nat) (x y : Int) : Prop where
  re : Rep p x
  im : Rep q y
  inx : In x
  iny : In y
theorem Pt.right {p q : Nat} {x y : Int} (h : Pt p q x y) (w : World) : Calls Try.prog 12 #[.complex .f64 p q] w fun e w' => e = .returned (.bool true) ∧ w = w' :=
  right_any p q true true (h.inx.part h.re) (h.iny.part h.im) w
theorem pt_of {x y : Int} (hx : In x) (hy : In y) : Pt (floatOfInt .f64 x) (floatOfInt .f64 y) x y := ⟨rep_of x hx.abs, rep_of y hy.abs, hx, hy⟩

theorem neg_any {P : Program} (q : Nat) (w : World) : (Op.unary .neg (.float .f64 q)).run P w = .ok (.float .f64 (Op.negFloat .f64 q)) w := rfl
/-- What the product of two points answers: words of Dot and Cross. -/
def IsProduct (x y u v : Int) (w : World) (e : Ending) (w' : World) : Prop :=
  ∃ re im, e = .returned (.complex .f64 re im) ∧ Rep re (x * u + y * v) ∧ Rep im (x * v - y * u) ∧ w = w'

set_option maxHeartbeats 400000 in
theorem product_any {p q r s : Nat} {x y u v : Int} (ha : Pt p q x y) (hb : Pt r s u v) (w : World) :
    Calls Try.prog 15 #[.complex .f64 p q, .complex .f64 r s] w (IsProduct x y u v w) := by
  obtain ⟨re, im, hm, h1, h2⟩ := rep_product ha.re ha.im hb.re hb.im (by have := mul_bd ha.inx hb.inx; omega) (by have := mul_bd ha.iny hb.iny; omega) (by have := mul_bd ha.inx hb.iny; omega) (by have := mul_bd ha.iny hb.inx; omega)
  have hop := fun t w => run_complex_mul (P := Try.prog) w t p (Op.negFloat .f64 q) r s re im hm
  have hng := fun w => neg_any (P := Try.prog) q w
  clear hm
  go_enter Try.func15, Try.ntmps15
  go_wp2_with fail
  refine wp_scope_jumps 0 (fun a' w' => False) (fun _ _ => 0) rfl ?_ ?_
  · go_wp2_with fail
    (with_reducible refine (ha.right _).mono ?_)
    rintro e w' ⟨rfl, rfl⟩
    go_wp2_with fail
    (with_reducible refine (hb.right _).mono ?_)
    rintro e w' ⟨rfl, rfl⟩
    go_wp2_with (simp only [hop, hng])
    rw [jump_ret]
    go_ret
    exact ⟨re, im, rfl, h1, h2, rfl⟩
  · intro a' w' h; exact h.elim

set_option maxHeartbeats 400000 in
theorem dot_any {p q r s : Nat} {x y u v : Int} (ha : Pt p q x y) (hb : Pt r s u v) (w : World) :
    Calls Try.prog 7 #[.complex .f64 p q, .complex .f64 r s] w fun e w' => e = .returned (.int .i64 (x * u + y * v)) ∧ w = w' := by
  have hbd : (x * u + y * v).natAbs < 2 ^ 53 := by have := mul_bd ha.inx hb.inx; have := mul_bd ha.iny hb.iny; omega
  have hP := product_any ha hb
  clear ha hb
  go_enter Try.func7, Try.ntmps7
  go_wp2_with fail
  (with_reducible refine (hP _).mono ?_)
  rintro e w' ⟨re, im, rfl, h1, h2, rfl⟩
  have hc := conv_int re _ h1 hbd
  clear h1 h2 hP hbd
  go_wp2_with (simp only [hc])
  go_ret
  exact ⟨rfl, rfl⟩

set_option maxHeartbeats 400000 in
theorem cross_any {p q r s : Nat} {x y u v : Int} (ha : Pt p q x y) (hb : Pt r s u v) (w : World) :
    Calls Try.prog 8 #[.complex .f64 p q, .complex .f64 r s] w fun e w' => e = .returned (.int .i64 (x * v - y * u)) ∧ w = w' := by
  have hbd : (x * v - y * u).natAbs < 2 ^ 53 := by have := mul_bd ha.inx hb.iny; have := mul_bd ha.iny hb.inx; omega
  have hP := product_any ha hb
  clear ha hb
  go_enter Try.func8, Try.ntmps8
  go_wp2_with fail
  (with_reducible refine (hP _).mono ?_)
  rintro e w' ⟨re, im, rfl, h1, h2, rfl⟩
  have hc := conv_int im _ h2 hbd
  clear h1 h2 hP hbd
  go_wp2_with (simp only [hc])
  go_ret
  exact ⟨rfl, rfl⟩

set_option maxHeartbeats 400000 in
theorem norm_any {p q : Nat} {x y : Int} (ha : Pt p q x y) (w : World) :
    Calls Try.prog 6 #[.complex .f64 p q] w fun e w' => e = .returned (.int .i64 (x * x + y * y)) ∧ w = w' := by
  have hP := dot_any ha ha
  clear ha
  go_enter Try.func6, Try.ntmps6
  go_wp2_with fail
  (with_reducible refine (hP _).mono ?_)
  rintro e w' ⟨rfl, rfl⟩
  go_wp2
  go_ret
  exact ⟨rfl, rfl⟩

set_option maxHeartbeats 400000 in
theorem x_any {p q : Nat} {x y : Int} (ha : Pt p q x y) (w : World) :
    Calls Try.prog 10 #[.complex .f64 p q] w fun e w' => e = .returned (.int .i64 x) ∧ w = w' := by
  have hR := ha.right
  have hc := conv_int p x ha.re ha.inx.abs
  clear ha
  go_enter Try.func10, Try.ntmps10
  go_wp2_with fail
  refine wp_scope_jumps 0 (fun a' w' => False) (fun _ _ => 0) rfl ?_ ?_
  · go_wp2_with fail
    (with_reducible refine (hR _).mono ?_)
    rintro e w' ⟨rfl, rfl⟩
    go_wp2_with (simp only [hc])
    rw [jump_ret]
    go_ret
    exact ⟨rfl, rfl⟩
  · intro a' w' h; exact h.elim

set_option maxHeartbeats 400000 in
theorem y_any {p q : Nat} {x y : Int} (ha : Pt p q x y) (w : World) :
    Calls Try.prog 11 #[.complex .f64 p q] w fun e w' => e = .returned (.int .i64 y) ∧ w = w' := by
  have hR := ha.right
  have hc := conv_int q y ha.im ha.iny.abs
  clear ha
  go_enter Try.func11, Try.ntmps11
  go_wp2_with fail
  refine wp_scope_jumps 0 (fun a' w' => False) (fun _ _ => 0) rfl ?_ ?_
  · go_wp2_with fail
    (with_reducible refine (hR _).mono ?_)
    rintro e w' ⟨rfl, rfl⟩
    go_wp2_with (simp only [hc])
    rw [jump_ret]
    go_ret
    exact ⟨rfl, rfl⟩
  · intro a' w' h; exact h.elim

set_option maxHeartbeats 400000 in
/-- A point that may not be has 0 for its real part. -/
theorem x_not {p q : Nat} (hR : ∀ w, Calls Try.prog 12 #[.complex .f64 p q] w fun e w' => e = .returned (.bool false) ∧ w = w') (w : World) :
    Calls Try.prog 10 #[.complex .f64 p q] w fun e w' => e = .returned (.int .i64 0) ∧ w = w' := by
  go_enter Try.func10, Try.ntmps10
  go_wp2_with fail
  refine wp_scope_jumps 0 (fun a' w' => w = w' ∧ a'.defers = [] ∧ ∃ s0 s1 s2 s3 s4 s5 s6 s7 s8, a'.tmps = #[s0, s1, s2, s3, s4, s5, s6, s7, s8]) (fun _ _ => 0) rfl ?_ ?_
  · go_wp2_with fail
    (with_reducible refine (hR _).mono ?_)
    rintro e w' ⟨rfl, rfl⟩
    go_wp2
    go_step3
    exact ⟨rfl, rfl, rfl, _, _, _, _, _, _, _, _, _, rfl⟩
  · rintro ⟨t, d⟩ w2 ⟨rfl, rfl, s0, s1, s2, s3, s4, s5, s6, s7, s8, rfl⟩
    go_wp2
    rw [jump_ret]
    go_ret
    exact ⟨rfl, rfl⟩

set_option maxHeartbeats 400000 in
theorem samePart_yes (p q : Nat) (h : FloatKind.f64.format.order p q = some .eq) (w : World) :
    Calls Try.prog 18 #[.float .f64 p, .float .f64 q] w fun e w' => e = .returned (.bool true) ∧ w = w' := by
  go_enter Try.func18, Try.ntmps18
  go_wp2
  go_ret
  exact ⟨rfl, rfl⟩
set_option maxHeartbeats 400000 in
theorem samePart_no (p q : Nat) (o : Ordering) (h : FloatKind.f64.format.order p q = some o) (ho : (some o == some Ordering.eq) = false) (hp : FloatKind.f64.format.order p p = some .eq) (w : World) :
    Calls Try.prog 18 #[.float .f64 p, .float .f64 q] w fun e w' => e = .returned (.bool false) ∧ w = w' := by
  cases o
  · go_enter Try.func18, Try.ntmps18
    go_wp2
    go_ret
    exact ⟨rfl, rfl⟩
  · cases ho
  · go_enter Try.func18, Try.ntmps18
    go_wp2
    go_ret
    exact ⟨rfl, rfl⟩
set_option maxHeartbeats 400000 in
theorem same_yes {p q r s : Nat} (h1 : FloatKind.f64.format.order p r = some .eq) (h2 : FloatKind.f64.format.order q s = some .eq) (w : World) :
    Calls Try.prog 13 #[.complex .f64 p q, .complex .f64 r s] w fun e w' => e = .returned (.bool true) ∧ w = w' := by
  have g1 := samePart_yes p r h1
  have g2 := samePart_yes q s h2
  clear h1 h2
  go_enter Try.func13, Try.ntmps13
  go_wp2_with fail
  (with_reducible refine (g1 _).mono ?_)
  rintro e w' ⟨rfl, rfl⟩
  go_wp2_with fail
  (with_reducible refine (g2 _).mono ?_)
  rintro e w' ⟨rfl, rfl⟩
  go_wp2
  go_ret
  exact ⟨rfl, rfl⟩
set_option maxHeartbeats 400000 in
theorem same_no {p q r s : Nat} (g1 : ∀ w, Calls Try.prog 18 #[.float .f64 p, .float .f64 r] w fun e w' => e = .returned (.bool false) ∧ w = w') (w : World) :
    Calls Try.prog 13 #[.complex .f64 p q, .complex .f64 r s] w fun e w' => e = .returned (.bool false) ∧ w = w' := by
  go_enter Try.func13, Try.ntmps13
  go_wp2_with fail
  (with_reducible refine (g1 _).mono ?_)
  rintro e w' ⟨rfl, rfl⟩
  go_wp2
  go_ret
  exact ⟨rfl, rfl⟩
end Go.Proofs.Ytjpemhjlgpepgaa
