/-
  NumOver of stage 1, at every input: the law's call returns true, for any two whole numbers of 64 bits; no condition.
-/
import Derived.Test.YtiekaiaekokepaaM
import Derived.ShutString
import Derived.ChangeOld
namespace Go.Proofs.Ytiekaiaekokepaa.numOver
open Go.ChangeShapes Go.WideShapes Go.ChangeAt Go.RowKit
set_option linter.unusedVariables false

theorem own : ownKnob Try.prog.godebug = none := by kernel_rfl
set_option maxRecDepth 100000 in
set_option maxHeartbeats 2000000 in
theorem walk (a b : Int) (w0 : (Lit.int .i64 a).wf = true) (w1 : (Lit.int .i64 b).wf = true) (w : World) :
    Calls Try.prog 5 #[.int .i64 a, .int .i64 b] w fun e w' => e = .returned (.bool true) ∧ Below w.heap.size w w' := by
  have ha := fits_of_wf w0
  have hb := fits_of_wf w1
  have hadd := add_any a b w ha hb
  have hsub := sub_any a b w ha hb
  clear w0 w1
  rw [fits_iff] at ha hb
  obtain ⟨ha1, ha2⟩ := ha
  obtain ⟨hb1, hb2⟩ := hb
  by_cases h0 : 0 ≤ b
  · cases h1 : fits (a + b) <;> cases h2 : fits (a - b)
    all_goals
      first | rw [only_fits h1, code_fits h1] at hadd | rw [only_not h1, code_not h1] at hadd
      first | rw [only_fits h2, code_fits h2] at hsub | rw [only_not h2, code_not h2] at hsub
      have g1 : decide (a ≤ 9223372036854775807 - b) = fits (a + b) := by unfold fits; rw [decide_eq_decide]; omega
      have g2 : decide (-9223372036854775808 + b ≤ a) = fits (a - b) := by unfold fits; rw [decide_eq_decide]; omega
      rw [h1] at g1
      rw [h2] at g2
      clear h1 h2
      have hadd := Lib.hid hadd
      have hsub := Lib.hid hsub
      go_enter Try.func5, Try.ntmps5
      go_wp2_with fail
      (with_reducible refine hadd.out.mono ?_)
      rintro e w' ⟨rfl, rfl⟩
      go_wp2_with fail
      (with_reducible refine hsub.out.mono ?_)
      rintro e w' ⟨rfl, rfl⟩
      go_wp2_with fail
      (with_reducible refine (wakes_any _).mono ?_)
      rintro e w' ⟨rfl, hbl⟩
      go_wp2
      go_ret
      exact ⟨rfl, hbl⟩
  · have h0' : b < 0 := by omega
    cases h1 : fits (a + b) <;> cases h2 : fits (a - b)
    all_goals
      first | rw [only_fits h1, code_fits h1] at hadd | rw [only_not h1, code_not h1] at hadd
      first | rw [only_fits h2, code_fits h2] at hsub | rw [only_not h2, code_not h2] at hsub
      have g1 : decide (-9223372036854775808 - b ≤ a) = fits (a + b) := by unfold fits; rw [decide_eq_decide]; omega
      have g2 : decide (a ≤ 9223372036854775807 + b) = fits (a - b) := by unfold fits; rw [decide_eq_decide]; omega
      rw [h1] at g1
      rw [h2] at g2
      clear h1 h2
      have hadd := Lib.hid hadd
      have hsub := Lib.hid hsub
      go_enter Try.func5, Try.ntmps5
      go_wp2_with fail
      (with_reducible refine hadd.out.mono ?_)
      rintro e w' ⟨rfl, rfl⟩
      go_wp2_with fail
      (with_reducible refine hsub.out.mono ?_)
      rintro e w' ⟨rfl, rfl⟩
      go_wp2_with fail
      (with_reducible refine (wakes_any _).mono ?_)
      rintro e w' ⟨rfl, hbl⟩
      go_wp2
      go_ret
      exact ⟨rfl, hbl⟩

set_option maxRecDepth 100000 in
theorem lifted (os : Os) (started : os.Started) (H : Type) (enc : TypeId × Value → H) :
    ReturnsInHanded {} Try.checked os 5 .any (Rows.numOverSpec.pre6 enc Try.prog Try.f5 Rows.numOverRow.domain false) (Rows.numOverSpec.post enc Try.prog Try.f5 false true false false) := by
  refine returnsInHanded_of_change (C := Try.checked) own started (by kernel_rfl) Try.func5
    (ChangeSpec.witness6 (enc := enc) (C := Try.checked) false ⟨#[], #[.int .i64 0, .int .i64 0], []⟩ 8 (by kernel_rfl) (by kernel_rfl) (by kernel_rfl) (by kernel_rfl)) ?_
  intro W base args ds gs before hval0 hW hcnd _
  have hval : ∀ (j : Nat) t v, Try.f5.params[j]? = some t → args[j]? = some v → Value.okWide Try.prog W .any base t v := hval0
  have hW' := hW
  obtain ⟨p, q, hA0, hV, rfl, hfz, hnd⟩ := hW
  have hA : DataW.TrodAll enc Try.prog W 0 (fun _ => true) true Try.f5.params.toList args.toList ds p := hA0
  rw [Try.params5] at hA hval
  obtain ⟨v0, vs0, d0, ds0, p0, q0, hargs, rfl, rfl, h0, r0⟩ := trodAll_cons hA
  obtain ⟨v1, vs1, d1, ds1, p1, q1, rfl, rfl, rfl, h1, r1⟩ := trodAll_cons r0
  obtain ⟨rfl, rfl, rfl⟩ := trodAll_nil r1
  obtain rfl : args = #[v0, v1] := by cases args; simp_all
  obtain ⟨rfl, rfl⟩ := trodVars_none hV
  obtain ⟨a0, rfl, rfl, rfl, w0⟩ := open_int Try.underlying3 (hval 0 3 v0 rfl rfl) h0
  obtain ⟨a1, rfl, rfl, rfl, w1⟩ := open_int Try.underlying3 (hval 1 3 v1 rfl rfl) h1
  clear hA0 hval0
  refine (walk a0 a1 w0 w1 W).mono fun e W' ⟨he, bel⟩ => ?_
  subst he
  exact ⟨_, rfl, _, _, _, [], _, [], hW', trodAll_mk1 (shut_bool Try.underlying4 _), (trodAll_cons_mk (shut_int Try.underlying3 w0) (trodAll_cons_mk (shut_int Try.underlying3 w1) trodAll_mk0)), rfl, bel.frame _, fun h => by cases h⟩

theorem over : Rows.numOverRow.holds Try.pinned (OpenSpec.ofChange Rows.numOverSpec) :=
  OpenClaim.holds_of_wide 5 Try.f5 rfl rfl rfl rfl rfl rfl rfl ⟨rfl, rfl, rfl, rfl, rfl⟩ rfl rfl rfl rfl rfl (by kernel_rfl) Try.func5 (by kernel_rfl)
    (of_decide_eq_true (by kernel_rfl)) (by unfold Func.isWrapper; first | (rw [if_pos (by decide +kernel)]; kernel_rfl) | (rw [if_neg (by decide +kernel)]; exact ⟨rfl, rfl⟩))
    (fun os started H enc _ => lifted os started H enc)

theorem proved : Rows.NumOverSaid := over
#print axioms proved
end Go.Proofs.Ytiekaiaekokepaa.numOver
