/-
  PlaneSquares of stage 2, at every input: the law's call returns true, for any four whole numbers of 64 bits; no condition.
-/
import Derived.Test.YtjpemhjlgpepgaaC
import Derived.ShutString
import Derived.ChangeOld
namespace Go.Proofs.Ytjpemhjlgpepgaa.planeSquares
open Go.ChangeShapes Go.WideShapes Go.ChangeAt Go.RowKit
set_option linter.unusedVariables false
set_option linter.unusedSimpArgs false

theorem own : ownKnob Try.prog.godebug = none := by kernel_rfl
/-- The least, the greatest of four. -/
def mn (a b c d : Int) : Int := min (min (min a b) c) d
def mx (a b c d : Int) : Int := max (max (max a b) c) d
theorem min_if (x y : Int) : (if y < x then y else x) = min x y := by rw [Int.min_def]; split <;> split <;> omega
theorem max_if (x y : Int) : (if y > x then y else x) = max x y := by rw [Int.max_def]; split <;> split <;> omega
theorem run_min4 {P : Program} (w : World) (ts : Array TypeId) (t : TypeId) (a b c d : Int) : (Builtin.min_ ts t #[.int .i64 a, .int .i64 b, .int .i64 c, .int .i64 d]).run P w = .ok (.int .i64 (mn a b c d)) w := by
  simp [Builtin.min_, Builtin.min2, mn, min_if]
theorem run_max4 {P : Program} (w : World) (ts : Array TypeId) (t : TypeId) (a b c d : Int) : (Builtin.max_ ts t #[.int .i64 a, .int .i64 b, .int .i64 c, .int .i64 d]).run P w = .ok (.int .i64 (mx a b c d)) w := by
  simp [Builtin.max_, Builtin.max2, mx, max_if]

set_option maxRecDepth 100000 in
set_option maxHeartbeats 1000000 in
theorem walk_out (x y u v : Int) (w : World) (h : mn x y u v < -32768 ∨ 32768 < mx x y u v) :
    Calls Try.prog 3 #[.int .i64 x, .int .i64 y, .int .i64 u, .int .i64 v] w fun e w' => e = .returned (.bool true) ∧ Below w.heap.size w w' := by
  have hm := fun ts t w => run_min4 (P := Try.prog) w ts t x y u v
  have hM := fun ts t w => run_max4 (P := Try.prog) w ts t x y u v
  generalize mn x y u v = l at *
  generalize mx x y u v = g at *
  by_cases h1 : l < -32768
  · clear h
    go_enter Try.func3, Try.ntmps3
    go_wp2_with (first | (simp only [hm, hM]; done) | ((with_reducible refine (wakes_any _).mono ?_); rintro e w' ⟨rfl, hbl⟩))
    go_ret
    exact ⟨rfl, hbl⟩
  · have h2 : 32768 < g := by omega
    have h3 : -32768 ≤ l := by omega
    clear h h1
    go_enter Try.func3, Try.ntmps3
    go_wp2_with (first | (simp only [hm, hM]; done) | ((with_reducible refine (wakes_any _).mono ?_); rintro e w' ⟨rfl, hbl⟩))
    go_ret
    exact ⟨rfl, hbl⟩

theorem mul_le {a b : Int} (ha : -32768 ≤ a ∧ a ≤ 32768) (hb : -32768 ≤ b ∧ b ≤ 32768) : -1073741824 ≤ a * b ∧ a * b ≤ 1073741824 := by
  have h : (a * b).natAbs ≤ 1073741824 := by
    rw [Int.natAbs_mul]
    exact Nat.le_trans (Nat.mul_le_mul (show a.natAbs ≤ 32768 by omega) (show b.natAbs ≤ 32768 by omega)) (by decide)
  omega
theorem mul_le2 {a b : Int} (ha : -2147483648 ≤ a ∧ a ≤ 2147483648) (hb : -2147483648 ≤ b ∧ b ≤ 2147483648) : -4611686018427387904 ≤ a * b ∧ a * b ≤ 4611686018427387904 := by
  have h : (a * b).natAbs ≤ 4611686018427387904 := by
    rw [Int.natAbs_mul]
    exact Nat.le_trans (Nat.mul_le_mul (show a.natAbs ≤ 2147483648 by omega) (show b.natAbs ≤ 2147483648 by omega)) (by decide)
  omega
theorem squares (x y u v : Int) : (x * u + y * v) * (x * u + y * v) + (x * v - y * u) * (x * v - y * u) = (x * x + y * y) * (u * u + v * v) := by grind

set_option maxRecDepth 100000 in
set_option maxHeartbeats 2000000 in
theorem walk_in (x y u v : Int) (w : World) (h1 : -32768 ≤ mn x y u v) (h2 : mx x y u v ≤ 32768) :
    Calls Try.prog 3 #[.int .i64 x, .int .i64 y, .int .i64 u, .int .i64 v] w fun e w' => e = .returned (.bool true) ∧ Below w.heap.size w w' := by
  have hm := fun ts t w => run_min4 (P := Try.prog) w ts t x y u v
  have hM := fun ts t w => run_max4 (P := Try.prog) w ts t x y u v
  have bx : -32768 ≤ x ∧ x ≤ 32768 := by unfold mn at h1; unfold mx at h2; omega
  have by' : -32768 ≤ y ∧ y ≤ 32768 := by unfold mn at h1; unfold mx at h2; omega
  have bu : -32768 ≤ u ∧ u ≤ 32768 := by unfold mn at h1; unfold mx at h2; omega
  have bv : -32768 ≤ v ∧ v ≤ 32768 := by unfold mn at h1; unfold mx at h2; omega
  generalize mn x y u v = l at *
  generalize mx x y u v = g at *
  have ix : In x := ⟨by omega, by omega⟩
  have iy : In y := ⟨by omega, by omega⟩
  have iu : In u := ⟨by omega, by omega⟩
  have iv : In v := ⟨by omega, by omega⟩
  have pa := pt_of ix iy
  have pb := pt_of iu iv
  have k1 := Lib.hid (make_yes x y ix iy)
  have k2 := Lib.hid (make_yes u v iu iv)
  have k3 := Lib.hid (norm_any pa)
  have k4 := Lib.hid (dot_any pa pa)
  have k5' := cross_any pa pa
  rw [show x * y - y * x = 0 by rw [Int.mul_comm]; omega] at k5'
  have k5 := Lib.hid k5'
  have k6 := Lib.hid (dot_any pa pb)
  have k7 := Lib.hid (cross_any pa pb)
  have k8' := dot_any pb pa
  rw [show u * x + v * y = x * u + y * v by rw [Int.mul_comm u, Int.mul_comm v]] at k8'
  have k8 := Lib.hid k8'
  have k9' := cross_any pb pa
  rw [show u * y - v * x = -(x * v - y * u) by rw [Int.mul_comm u, Int.mul_comm v]; omega] at k9'
  have k9 := Lib.hid k9'
  have k10 := Lib.hid (norm_any pb)
  clear pa pb ix iy iu iv k5' k8' k9'
  have b1 := mul_le bx bx
  have b2 := mul_le by' by'
  have b3 := mul_le bx bu
  have b4 := mul_le by' bv
  have b5 := mul_le bx bv
  have b6 := mul_le by' bu
  have b7 := mul_le bu bu
  have b8 := mul_le bv bv
  have q1 := mul_le2 (a := x * u + y * v) (b := x * u + y * v) (by omega) (by omega)
  have q2 := mul_le2 (a := x * v - y * u) (b := x * v - y * u) (by omega) (by omega)
  have q3 := mul_le2 (a := x * x + y * y) (b := u * u + v * v) (by omega) (by omega)
  have hsq := squares x y u v
  have q4 : -4611686018427387904 ≤ (x * u + y * v) * (x * u + y * v) + (x * v - y * u) * (x * v - y * u) ∧ (x * u + y * v) * (x * u + y * v) + (x * v - y * u) * (x * v - y * u) ≤ 4611686018427387904 := by rw [hsq]; exact q3
  have hs2 : ((x * u + y * v) * (x * u + y * v) + (x * v - y * u) * (x * v - y * u) == (x * x + y * y) * (u * u + v * v)) = true := by rw [hsq]; simp
  have HSQ := Lib.hid hsq
  clear bx by' bu bv hsq
  go_enter Try.func3, Try.ntmps3
  go_wp2_with (simp only [hm, hM]; done)
  (with_reducible refine (k1.out _).mono ?_)
  rintro e w' ⟨rfl, rfl⟩
  go_wp2_with fail
  (with_reducible refine (k2.out _).mono ?_)
  rintro e w' ⟨rfl, rfl⟩
  go_wp2_with fail
  (with_reducible refine (k3.out _).mono ?_)
  rintro e w' ⟨rfl, rfl⟩
  go_wp2_with fail
  (with_reducible refine (k4.out _).mono ?_)
  rintro e w' ⟨rfl, rfl⟩
  go_wp2_with fail
  (with_reducible refine (k3.out _).mono ?_)
  rintro e w' ⟨rfl, rfl⟩
  go_wp2_with fail
  (with_reducible refine (k5.out _).mono ?_)
  rintro e w' ⟨rfl, rfl⟩
  go_wp2_with fail
  (with_reducible refine (k6.out _).mono ?_)
  rintro e w' ⟨rfl, rfl⟩
  go_wp2_with fail
  (with_reducible refine (k7.out _).mono ?_)
  rintro e w' ⟨rfl, rfl⟩
  go_wp2_with fail
  (with_reducible refine (k8.out _).mono ?_)
  rintro e w' ⟨rfl, rfl⟩
  go_wp2_with fail
  (with_reducible refine (k9.out _).mono ?_)
  rintro e w' ⟨rfl, rfl⟩
  go_wp2_with fail
  (with_reducible refine (k3.out _).mono ?_)
  rintro e w' ⟨rfl, rfl⟩
  go_wp2_with fail
  (with_reducible refine (k10.out _).mono ?_)
  rintro e w' ⟨rfl, rfl⟩
  go_wp2_with fail
  (with_reducible refine (wakes_any _).mono ?_)
  rintro e w' ⟨rfl, hbl⟩
  go_wp2
  go_ret
  exact ⟨rfl, hbl⟩

theorem walk (x y u v : Int) (w : World) (w0 : (Lit.int .i64 x).wf = true) (w1 : (Lit.int .i64 y).wf = true) (w2 : (Lit.int .i64 u).wf = true) (w3 : (Lit.int .i64 v).wf = true) :
    Calls Try.prog 3 #[.int .i64 x, .int .i64 y, .int .i64 u, .int .i64 v] w fun e w' => e = .returned (.bool true) ∧ Below w.heap.size w w' := by
  by_cases h : mn x y u v < -32768 ∨ 32768 < mx x y u v
  · exact walk_out x y u v w h
  · exact walk_in x y u v w (by omega) (by omega)

set_option maxRecDepth 100000 in
theorem lifted (os : Os) (started : os.Started) (H : Type) (enc : TypeId × Value → H) :
    ReturnsInHanded {} Try.checked os 3 .any (Rows.planeSquaresSpec.pre6 enc Try.prog Try.f3 Rows.planeSquaresRow.domain false) (Rows.planeSquaresSpec.post enc Try.prog Try.f3 false true false false) := by
  refine returnsInHanded_of_change (C := Try.checked) own started (by kernel_rfl) Try.func3
    (ChangeSpec.witness6 (enc := enc) (C := Try.checked) false ⟨#[], #[.int .i64 0, .int .i64 0, .int .i64 0, .int .i64 0], []⟩ 8 (by kernel_rfl) (by kernel_rfl) (by kernel_rfl) (by kernel_rfl)) ?_
  intro W base args ds gs before hval0 hW hcnd _
  have hval : ∀ (j : Nat) t v, Try.f3.params[j]? = some t → args[j]? = some v → Value.okWide Try.prog W .any base t v := hval0
  have hW' := hW
  obtain ⟨p, q, hA0, hV, rfl, hfz, hnd⟩ := hW
  have hA : DataW.TrodAll enc Try.prog W 0 (fun _ => true) true Try.f3.params.toList args.toList ds p := hA0
  rw [Try.params3] at hA hval
  obtain ⟨v0, vs0, d0, ds0, p0, q0, hargs, rfl, rfl, h0, r0⟩ := trodAll_cons hA
  obtain ⟨v1, vs1, d1, ds1, p1, q1, rfl, rfl, rfl, h1, r1⟩ := trodAll_cons r0
  obtain ⟨v2, vs2, d2, ds2, p2, q2, rfl, rfl, rfl, h2, r2⟩ := trodAll_cons r1
  obtain ⟨v3, vs3, d3, ds3, p3, q3, rfl, rfl, rfl, h3, r3⟩ := trodAll_cons r2
  obtain ⟨rfl, rfl, rfl⟩ := trodAll_nil r3
  obtain rfl : args = #[v0, v1, v2, v3] := by cases args; simp_all
  obtain ⟨rfl, rfl⟩ := trodVars_none hV
  obtain ⟨a0, rfl, rfl, rfl, w0⟩ := open_int Try.underlying3 (hval 0 3 v0 rfl rfl) h0
  obtain ⟨a1, rfl, rfl, rfl, w1⟩ := open_int Try.underlying3 (hval 1 3 v1 rfl rfl) h1
  obtain ⟨a2, rfl, rfl, rfl, w2⟩ := open_int Try.underlying3 (hval 2 3 v2 rfl rfl) h2
  obtain ⟨a3, rfl, rfl, rfl, w3⟩ := open_int Try.underlying3 (hval 3 3 v3 rfl rfl) h3
  clear hA0 hval0
  refine (walk a0 a1 a2 a3 W w0 w1 w2 w3).mono fun e W' ⟨he, bel⟩ => ?_
  subst he
  exact ⟨_, rfl, _, _, _, [], _, [], hW', trodAll_mk1 (shut_bool Try.underlying4 _), (trodAll_cons_mk (shut_int Try.underlying3 w0) (trodAll_cons_mk (shut_int Try.underlying3 w1) (trodAll_cons_mk (shut_int Try.underlying3 w2) (trodAll_cons_mk (shut_int Try.underlying3 w3) trodAll_mk0)))), rfl, bel.frame _, fun h => by cases h⟩

theorem over : Rows.planeSquaresRow.holds Try.pinned (OpenSpec.ofChange Rows.planeSquaresSpec) :=
  OpenClaim.holds_of_wide 3 Try.f3 rfl rfl rfl rfl rfl rfl rfl ⟨rfl, rfl, rfl, rfl, rfl⟩ rfl rfl rfl rfl rfl (by kernel_rfl) Try.func3 (by kernel_rfl)
    (of_decide_eq_true (by kernel_rfl)) (by unfold Func.isWrapper; first | (rw [if_pos (by decide +kernel)]; kernel_rfl) | (rw [if_neg (by decide +kernel)]; exact ⟨rfl, rfl⟩))
    (fun os started H enc _ => lifted os started H enc)

theorem proved : Rows.PlaneSquaresSaid := over
#print axioms proved
end Go.Proofs.Ytjpemhjlgpepgaa.planeSquares
