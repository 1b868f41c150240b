/-
  Contracts of num.Add and num.Sub at every two whole numbers of 64 bits: the exact result, or 0 and the error for one that runs over; no condition.
-/
import Derived.Test.YtiekaiaekokepaaRows
import Derived.WalkKit
import Derived.ProofKit
import Derived.OpenShut
import Derived.Below
import Derived.IntWalk
import Derived.Lib.Hide
import Derived.BigQuiet
import Derived.Deep.QuietTactic
namespace Go.Proofs.Ytiekaiaekokepaa
open Go.ChangeShapes Go.WideShapes Go.ChangeAt Go.RowKit
set_option linter.unusedVariables false
/-- n is a whole number of 64 bits. -/
def fits (n : Int) : Bool := decide (-9223372036854775808 ≤ n ∧ n ≤ 9223372036854775807)
def only (n : Int) : Int := if fits n then n else 0
def code (n : Int) : Int := if fits n then 0 else 12
theorem fits_iff (n : Int) : fits n = true ↔ -9223372036854775808 ≤ n ∧ n ≤ 9223372036854775807 := by unfold fits; simp
theorem not_fits (n : Int) : fits n = false ↔ n < -9223372036854775808 ∨ 9223372036854775807 < n := by unfold fits; simp; omega
theorem fits_of_wf {n : Int} (h : (Lit.int .i64 n).wf = true) : fits n = true := by
  rw [fits_iff]; simp [Lit.wf, IntKind.min, IntKind.max, IntKind.signed, IntKind.bits] at h; omega
theorem wf_of_fits {n : Int} (h : fits n = true) : (Lit.int .i64 n).wf = true := by
  rw [fits_iff] at h; simp [Lit.wf, IntKind.min, IntKind.max, IntKind.signed, IntKind.bits]; omega
theorem only_fits {n : Int} (h : fits n = true) : only n = n := by simp [only, h]
theorem code_fits {n : Int} (h : fits n = true) : code n = 0 := by simp [code, h]
theorem only_not {n : Int} (h : fits n = false) : only n = 0 := by simp [only, h]
theorem code_not {n : Int} (h : fits n = false) : code n = 12 := by simp [code, h]
theorem fits_only (n : Int) : fits (only n) = true := by
  cases h : fits n
  · rw [only_not h]; decide
  · rw [only_fits h]; exact h
theorem ret2 {a b c d : Int} (h : a = c) (h' : b = d) : Ending.returned (.tuple #[.int .i64 a, .int .i64 b]) = .returned (.tuple #[.int .i64 c, .int .i64 d]) := by rw [h, h']

theorem wrap_up {n : Int} (h : 9223372036854775807 < n) (h' : n ≤ 18446744073709551615) : wrap64 n = n - 18446744073709551616 := by unfold wrap64; omega
theorem wrap_down {n : Int} (h : n < -9223372036854775808) (h' : -18446744073709551616 ≤ n) : wrap64 n = n + 18446744073709551616 := by unfold wrap64; omega

theorem add_any (a b : Int) (w : World) (ha : fits a = true) (hb : fits b = true) :
    Calls Try.prog 9 #[.int .i64 a, .int .i64 b] w fun e w' => e = .returned (.tuple #[.int .i64 (only (a + b)), .int .i64 (code (a + b))]) ∧ w = w' := by
  rw [fits_iff] at ha hb
  obtain ⟨ha, ha'⟩ := ha
  obtain ⟨hb, hb'⟩ := hb
  cases h : fits (a + b)
  · rw [only_not h, code_not h]
    rw [not_fits] at h
    by_cases hp : 0 < b
    · have hw := wrap_up (n := a + b) (by omega) (by omega)
      have h1 : wrap64 (a + b) ≤ a := by omega
      have h2 : decide (a < wrap64 (a + b)) = false := by simp; omega
      have h3 : decide (0 < b) = true := by simp; omega
      clear hw h
      go_enter Try.func9, Try.ntmps9
      go_wp2
      go_ret2
      exact ⟨rfl, rfl⟩
    · have hw := wrap_down (n := a + b) (by omega) (by omega)
      have h1 : a < wrap64 (a + b) := by omega
      have h2 : decide (a < wrap64 (a + b)) = true := by simp; omega
      have h3 : decide (0 < b) = false := by simp; omega
      clear hw h
      go_enter Try.func9, Try.ntmps9
      go_wp2
      go_ret2
      exact ⟨rfl, rfl⟩
  · rw [only_fits h, code_fits h]
    rw [fits_iff] at h
    obtain ⟨h, h'⟩ := h
    by_cases hp : 0 < b
    · have h2 : decide (a < a + b) = true := by simp; omega
      have h3 : decide (0 < b) = true := by simp; omega
      go_enter Try.func9, Try.ntmps9
      go_wp2
      go_ret2
      exact ⟨rfl, rfl⟩
    · have h2 : decide (a < a + b) = false := by simp; omega
      have h3 : decide (0 < b) = false := by simp; omega
      go_enter Try.func9, Try.ntmps9
      go_wp2
      go_ret2
      exact ⟨rfl, rfl⟩

theorem sub_any (a b : Int) (w : World) (ha : fits a = true) (hb : fits b = true) :
    Calls Try.prog 11 #[.int .i64 a, .int .i64 b] w fun e w' => e = .returned (.tuple #[.int .i64 (only (a - b)), .int .i64 (code (a - b))]) ∧ w = w' := by
  rw [fits_iff] at ha hb
  obtain ⟨ha, ha'⟩ := ha
  obtain ⟨hb, hb'⟩ := hb
  cases h : fits (a - b)
  · rw [only_not h, code_not h]
    rw [not_fits] at h
    by_cases hp : 0 < b
    · have hw := wrap_down (n := a - b) (by omega) (by omega)
      have h1 : a ≤ wrap64 (a - b) := by omega
      have h2 : decide (wrap64 (a - b) < a) = false := by simp; omega
      have h3 : decide (0 < b) = true := by simp; omega
      clear hw h
      go_enter Try.func11, Try.ntmps11
      go_wp2
      go_ret2
      exact ⟨rfl, rfl⟩
    · have hw := wrap_up (n := a - b) (by omega) (by omega)
      have h1 : wrap64 (a - b) < a := by omega
      have h2 : decide (wrap64 (a - b) < a) = true := by simp; omega
      have h3 : decide (0 < b) = false := by simp; omega
      clear hw h
      go_enter Try.func11, Try.ntmps11
      go_wp2
      go_ret2
      exact ⟨rfl, rfl⟩
  · rw [only_fits h, code_fits h]
    rw [fits_iff] at h
    obtain ⟨h, h'⟩ := h
    by_cases hp : 0 < b
    · have h2 : decide (a - b < a) = true := by simp; omega
      have h3 : decide (0 < b) = true := by simp; omega
      go_enter Try.func11, Try.ntmps11
      go_wp2
      go_ret2
      exact ⟨rfl, rfl⟩
    · have h2 : decide (a - b < a) = false := by simp; omega
      have h3 : decide (0 < b) = false := by simp; omega
      go_enter Try.func11, Try.ntmps11
      go_wp2
      go_ret2
      exact ⟨rfl, rfl⟩
end Go.Proofs.Ytiekaiaekokepaa
