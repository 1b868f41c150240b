/-
  Words on whole numbers of 64 bits, for the texts of package num that this seat reaches.
-/
import Derived.Test.YtkedifhlkiffoaaDoorRows
import Derived.WalkKit
import Derived.ProofKit
import Derived.OpenShut
import Derived.Below
import Derived.IntWalk
import Derived.Lib.Hide
import Derived.BigQuiet
import Derived.Deep.QuietTactic
import Derived.WalkMore
import Derived.ScopeJumps
namespace Go.Proofs.YtkedifhlkiffoaaDoor
open Go.ChangeShapes Go.WideShapes Go.ChangeAt Go.RowKit
set_option linter.unusedVariables false
/-- n is a whole number of 64 bits. -/
def fits (n : Int) : Bool := decide (-9223372036854775808 ≤ n ∧ n ≤ 9223372036854775807)
def only (n : Int) : Int := if fits n then n else 0
def code (n : Int) : Int := if fits n then 0 else 12
theorem fits_iff (n : Int) : fits n = true ↔ -9223372036854775808 ≤ n ∧ n ≤ 9223372036854775807 := by unfold fits; simp
theorem not_fits (n : Int) : fits n = false ↔ n < -9223372036854775808 ∨ 9223372036854775807 < n := by unfold fits; simp; omega
theorem fits_of_wf {n : Int} (h : (Lit.int .i64 n).wf = true) : fits n = true := by
  rw [fits_iff]; simp [Lit.wf, IntKind.min, IntKind.max, IntKind.signed, IntKind.bits] at h; omega
theorem wf_of_fits {n : Int} (h : fits n = true) : (Lit.int .i64 n).wf = true := by
  rw [fits_iff] at h; simp [Lit.wf, IntKind.min, IntKind.max, IntKind.signed, IntKind.bits]; omega
theorem only_fits {n : Int} (h : fits n = true) : only n = n := by simp [only, h]
theorem code_fits {n : Int} (h : fits n = true) : code n = 0 := by simp [code, h]
theorem only_not {n : Int} (h : fits n = false) : only n = 0 := by simp [only, h]
theorem code_not {n : Int} (h : fits n = false) : code n = 12 := by simp [code, h]
theorem fits_only (n : Int) : fits (only n) = true := by
  cases h : fits n
  · rw [only_not h]; decide
  · rw [only_fits h]; exact h
theorem ret2 {a b c d : Int} (h : a = c) (h' : b = d) : Ending.returned (.tuple #[.int .i64 a, .int .i64 b]) = .returned (.tuple #[.int .i64 c, .int .i64 d]) := by rw [h, h']

theorem wrap_up {n : Int} (h : 9223372036854775807 < n) (h' : n ≤ 18446744073709551615) : wrap64 n = n - 18446744073709551616 := by unfold wrap64; omega
theorem wrap_down {n : Int} (h : n < -9223372036854775808) (h' : -18446744073709551616 ≤ n) : wrap64 n = n + 18446744073709551616 := by unfold wrap64; omega
theorem jump_ret {l : Nat} {J : Act → World → Prop} {Q : Exit → Act → World → Prop} {a : Act} {w : World} : Exit.jump l J Q .ret a w = Q .ret a w := rfl
theorem Tryd.info5 : (Tryd.prog.info? 5).map (fun i => (i.zero, i.size, i.bytes)) = some (some (.int .u8 0), 1, 1) := by kernel_rfl
end Go.Proofs.YtkedifhlkiffoaaDoor
