/-
  Contracts of plane's and of the document's rightPart, Right, samePart, Same at words that stand for whole numbers below 2^53: what the document says of them; no other condition.
-/
import Derived.Test.YtepbjjddpfejnaaA
import Derived.Test.YtepbjjddpfejnaaRows
import Derived.WalkKit
import Derived.ProofKit
import Derived.OpenShut
import Derived.Below
import Derived.IntWalk
import Derived.Lib.Hide
import Derived.BigQuiet
import Derived.Deep.QuietTactic
import Derived.WalkLawsBesides
import Derived.WalkMore
import Derived.ScopeJumps
namespace Go.Proofs.Ytepbjjddpfejnaa
open Go.ChangeShapes Go.WideShapes Go.ChangeAt Go.RowKit
set_option linter.unusedVariables false
set_option linter.unusedSimpArgs false

theorem jump_ret {l : Nat} {J : Act → World → Prop} {Q : Exit → Act → World → Prop} {a : Act} {w : World} : Exit.jump l J Q .ret a w = Q .ret a w := rfl

theorem rep_least : Rep 13920626448202203136 (-1048576) := ⟨true, 1048576, 32, by decide +kernel, rfl⟩
theorem rep_most : Rep 4697254411347427328 1048576 := ⟨false, 1048576, 32, by decide +kernel, rfl⟩
theorem order_eq {x y : Nat} {m n : Int} (hx : Rep x m) (hy : Rep y n) (h : m = n) : FloatKind.f64.format.order x y = some .eq := by
  rw [rep_order hx hy, h]; simp [compare, compareOfLessAndEq]
theorem order_lt {x y : Nat} {m n : Int} (hx : Rep x m) (hy : Rep y n) (h : m < n) : FloatKind.f64.format.order x y = some .lt := by
  rw [rep_order hx hy]; simp [compare, compareOfLessAndEq, h]
theorem order_gt {x y : Nat} {m n : Int} (hx : Rep x m) (hy : Rep y n) (h : n < m) : FloatKind.f64.format.order x y = some .gt := by
  rw [rep_order hx hy]; simp only [compare, compareOfLessAndEq]; rw [if_neg (by omega), if_neg (by omega)]
theorem conv_int (p : Nat) (n : Int) (hr : Rep p n) (h : n.natAbs < 2 ^ 53) (w : World) : (convert 65 3 (.float .f64 p)).run Try.prog w = .ok (.int .i64 n) w :=
  run_convert_float_int w 65 3 .f64 .i64 p n (by rw [Try.underlying65]; rfl) Try.underlying3 (rep_toInt hr h)
theorem conv_float (n : Int) (w : World) : (convert 3 65 (.int .i64 n)).run Try.prog w = .ok (.float .f64 (floatOfInt .f64 n)) w :=
  run_convert_int_float w 3 65 .i64 .f64 n (by rw [Try.underlying3]; rfl) Try.underlying65
set_option maxHeartbeats 400000 in
theorem rightPart_yes (p : Nat) (n : Int) (hr : Rep p n) (h1 : -1048576 ≤ n) (h2 : n ≤ 1048576) (w : World) :
    Calls Try.prog 64 #[.float .f64 p] w fun e w' => e = .returned (.bool true) ∧ w = w' := by
  have hc := conv_int p n hr (by omega)
  have hb := conv_float n
  have o3 : FloatKind.f64.format.order p (floatOfInt .f64 n) = some .eq := order_eq hr (rep_of n (by omega)) rfl
  rcases Int.lt_or_eq_of_le h1 with g1 | g1
  · have o1 : FloatKind.f64.format.order p 13920626448202203136 = some .gt := order_gt hr rep_least g1
    rcases Int.lt_or_eq_of_le h2 with g2 | g2
    · have o2 : FloatKind.f64.format.order p 4697254411347427328 = some .lt := order_lt hr rep_most g2
      clear hr
      go_enter Try.func64, Try.ntmps64
      go_wp2_with (simp only [hc, hb])
      go_ret
      exact ⟨rfl, rfl⟩
    · have o2 : FloatKind.f64.format.order p 4697254411347427328 = some .eq := order_eq hr rep_most g2
      clear hr g2
      go_enter Try.func64, Try.ntmps64
      go_wp2_with (simp only [hc, hb])
      go_ret
      exact ⟨rfl, rfl⟩
  · have o1 : FloatKind.f64.format.order p 13920626448202203136 = some .eq := order_eq hr rep_least g1.symm
    have o2 : FloatKind.f64.format.order p 4697254411347427328 = some .lt := order_lt hr rep_most (by omega)
    clear hr g1
    go_enter Try.func64, Try.ntmps64
    go_wp2_with (simp only [hc, hb])
    go_ret
    exact ⟨rfl, rfl⟩
set_option maxHeartbeats 400000 in
theorem rightPart_no (p : Nat) (n : Int) (hr : Rep p n) (h : n < -1048576 ∨ 1048576 < n) (w : World) :
    Calls Try.prog 64 #[.float .f64 p] w fun e w' => e = .returned (.bool false) ∧ w = w' := by
  rcases h with g1 | g2
  · have o1 : FloatKind.f64.format.order p 13920626448202203136 = some .lt := order_lt hr rep_least g1
    clear hr
    go_enter Try.func64, Try.ntmps64
    go_wp2
    go_ret
    exact ⟨rfl, rfl⟩
  · have o1 : FloatKind.f64.format.order p 13920626448202203136 = some .gt := order_gt hr rep_least (by omega)
    have o2 : FloatKind.f64.format.order p 4697254411347427328 = some .gt := order_gt hr rep_most g2
    clear hr
    go_enter Try.func64, Try.ntmps64
    go_wp2
    go_ret
    exact ⟨rfl, rfl⟩
/-- What rightPart answers of a word. -/
def PartIs (p : Nat) (b : Bool) : Prop := ∀ w, Calls Try.prog 64 #[.float .f64 p] w fun e w' => e = .returned (.bool b) ∧ w = w'
theorem PartIs.at {p : Nat} {b : Bool} (h : PartIs p b) (w : World) : Calls Try.prog 64 #[.float .f64 p] w fun e w' => e = .returned (.bool b) ∧ w = w' := h w
set_option maxHeartbeats 400000 in
theorem right_any (re im : Nat) (b c : Bool) (h1 : PartIs re b) (h2 : PartIs im c) (w : World) :
    Calls Try.prog 61 #[.complex .f64 re im] w fun e w' => e = .returned (.bool (b && c)) ∧ w = w' := by
  cases b
  · go_enter Try.func61, Try.ntmps61
    go_wp2_with fail
    (with_reducible refine (h1.at _).mono ?_)
    rintro e w' ⟨rfl, rfl⟩
    go_wp2
    go_ret
    exact ⟨rfl, rfl⟩
  · go_enter Try.func61, Try.ntmps61
    go_wp2_with fail
    (with_reducible refine (h1.at _).mono ?_)
    rintro e w' ⟨rfl, rfl⟩
    go_wp2_with fail
    (with_reducible refine (h2.at _).mono ?_)
    rintro e w' ⟨rfl, rfl⟩
    go_wp2
    go_ret
    exact ⟨rfl, rfl⟩
set_option maxHeartbeats 400000 in
theorem samePart_yes (p q : Nat) (h : FloatKind.f64.format.order p q = some .eq) (w : World) :
    Calls Try.prog 65 #[.float .f64 p, .float .f64 q] w fun e w' => e = .returned (.bool true) ∧ w = w' := by
  go_enter Try.func65, Try.ntmps65
  go_wp2
  go_ret
  exact ⟨rfl, rfl⟩
set_option maxHeartbeats 400000 in
theorem samePart_no (p q : Nat) (o : Ordering) (h : FloatKind.f64.format.order p q = some o) (ho : (some o == some Ordering.eq) = false) (hp : FloatKind.f64.format.order p p = some .eq) (w : World) :
    Calls Try.prog 65 #[.float .f64 p, .float .f64 q] w fun e w' => e = .returned (.bool false) ∧ w = w' := by
  cases o
  · go_enter Try.func65, Try.ntmps65
    go_wp2
    go_ret
    exact ⟨rfl, rfl⟩
  · cases ho
  · go_enter Try.func65, Try.ntmps65
    go_wp2
    go_ret
    exact ⟨rfl, rfl⟩
set_option maxHeartbeats 400000 in
theorem same_yes {p q r s : Nat} (h1 : FloatKind.f64.format.order p r = some .eq) (h2 : FloatKind.f64.format.order q s = some .eq) (w : World) :
    Calls Try.prog 63 #[.complex .f64 p q, .complex .f64 r s] w fun e w' => e = .returned (.bool true) ∧ w = w' := by
  have g1 := samePart_yes p r h1
  have g2 := samePart_yes q s h2
  clear h1 h2
  go_enter Try.func63, Try.ntmps63
  go_wp2_with fail
  (with_reducible refine (g1 _).mono ?_)
  rintro e w' ⟨rfl, rfl⟩
  go_wp2_with fail
  (with_reducible refine (g2 _).mono ?_)
  rintro e w' ⟨rfl, rfl⟩
  go_wp2
  go_ret
  exact ⟨rfl, rfl⟩
set_option maxHeartbeats 400000 in
theorem same_no {p q r s : Nat} (g1 : ∀ w, Calls Try.prog 65 #[.float .f64 p, .float .f64 r] w fun e w' => e = .returned (.bool false) ∧ w = w') (w : World) :
    Calls Try.prog 63 #[.complex .f64 p q, .complex .f64 r s] w fun e w' => e = .returned (.bool false) ∧ w = w' := by
  go_enter Try.func63, Try.ntmps63
  go_wp2_with fail
  (with_reducible refine (g1 _).mono ?_)
  rintro e w' ⟨rfl, rfl⟩
  go_wp2
  go_ret
  exact ⟨rfl, rfl⟩
set_option maxHeartbeats 400000 in
theorem ref_rightPart_yes (p : Nat) (n : Int) (hr : Rep p n) (h1 : -1048576 ≤ n) (h2 : n ≤ 1048576) (w : World) :
    Calls Try.prog 49 #[.float .f64 p] w fun e w' => e = .returned (.bool true) ∧ w = w' := by
  have hc := conv_int p n hr (by omega)
  have hb := conv_float n
  have o3 : FloatKind.f64.format.order p (floatOfInt .f64 n) = some .eq := order_eq hr (rep_of n (by omega)) rfl
  rcases Int.lt_or_eq_of_le h1 with g1 | g1
  · have o1 : FloatKind.f64.format.order p 13920626448202203136 = some .gt := order_gt hr rep_least g1
    rcases Int.lt_or_eq_of_le h2 with g2 | g2
    · have o2 : FloatKind.f64.format.order p 4697254411347427328 = some .lt := order_lt hr rep_most g2
      clear hr
      go_enter Try.func49, Try.ntmps49
      go_wp2_with (simp only [hc, hb])
      go_ret
      exact ⟨rfl, rfl⟩
    · have o2 : FloatKind.f64.format.order p 4697254411347427328 = some .eq := order_eq hr rep_most g2
      clear hr g2
      go_enter Try.func49, Try.ntmps49
      go_wp2_with (simp only [hc, hb])
      go_ret
      exact ⟨rfl, rfl⟩
  · have o1 : FloatKind.f64.format.order p 13920626448202203136 = some .eq := order_eq hr rep_least g1.symm
    have o2 : FloatKind.f64.format.order p 4697254411347427328 = some .lt := order_lt hr rep_most (by omega)
    clear hr g1
    go_enter Try.func49, Try.ntmps49
    go_wp2_with (simp only [hc, hb])
    go_ret
    exact ⟨rfl, rfl⟩
set_option maxHeartbeats 400000 in
theorem ref_rightPart_no (p : Nat) (n : Int) (hr : Rep p n) (h : n < -1048576 ∨ 1048576 < n) (w : World) :
    Calls Try.prog 49 #[.float .f64 p] w fun e w' => e = .returned (.bool false) ∧ w = w' := by
  rcases h with g1 | g2
  · have o1 : FloatKind.f64.format.order p 13920626448202203136 = some .lt := order_lt hr rep_least g1
    clear hr
    go_enter Try.func49, Try.ntmps49
    go_wp2
    go_ret
    exact ⟨rfl, rfl⟩
  · have o1 : FloatKind.f64.format.order p 13920626448202203136 = some .gt := order_gt hr rep_least (by omega)
    have o2 : FloatKind.f64.format.order p 4697254411347427328 = some .gt := order_gt hr rep_most g2
    clear hr
    go_enter Try.func49, Try.ntmps49
    go_wp2
    go_ret
    exact ⟨rfl, rfl⟩
/-- What rightPart answers of a word. -/
def RefPartIs (p : Nat) (b : Bool) : Prop := ∀ w, Calls Try.prog 49 #[.float .f64 p] w fun e w' => e = .returned (.bool b) ∧ w = w'
theorem RefPartIs.at {p : Nat} {b : Bool} (h : RefPartIs p b) (w : World) : Calls Try.prog 49 #[.float .f64 p] w fun e w' => e = .returned (.bool b) ∧ w = w' := h w
set_option maxHeartbeats 400000 in
theorem ref_right_any (re im : Nat) (b c : Bool) (h1 : RefPartIs re b) (h2 : RefPartIs im c) (w : World) :
    Calls Try.prog 43 #[.complex .f64 re im] w fun e w' => e = .returned (.bool (b && c)) ∧ w = w' := by
  cases b
  · go_enter Try.func43, Try.ntmps43
    go_wp2_with fail
    (with_reducible refine (h1.at _).mono ?_)
    rintro e w' ⟨rfl, rfl⟩
    go_wp2
    go_ret
    exact ⟨rfl, rfl⟩
  · go_enter Try.func43, Try.ntmps43
    go_wp2_with fail
    (with_reducible refine (h1.at _).mono ?_)
    rintro e w' ⟨rfl, rfl⟩
    go_wp2_with fail
    (with_reducible refine (h2.at _).mono ?_)
    rintro e w' ⟨rfl, rfl⟩
    go_wp2
    go_ret
    exact ⟨rfl, rfl⟩
set_option maxHeartbeats 400000 in
theorem ref_samePart_yes (p q : Nat) (h : FloatKind.f64.format.order p q = some .eq) (w : World) :
    Calls Try.prog 42 #[.float .f64 p, .float .f64 q] w fun e w' => e = .returned (.bool true) ∧ w = w' := by
  go_enter Try.func42, Try.ntmps42
  go_wp2
  go_ret
  exact ⟨rfl, rfl⟩
set_option maxHeartbeats 400000 in
theorem ref_samePart_no (p q : Nat) (o : Ordering) (h : FloatKind.f64.format.order p q = some o) (ho : (some o == some Ordering.eq) = false) (hp : FloatKind.f64.format.order p p = some .eq) (w : World) :
    Calls Try.prog 42 #[.float .f64 p, .float .f64 q] w fun e w' => e = .returned (.bool false) ∧ w = w' := by
  cases o
  · go_enter Try.func42, Try.ntmps42
    go_wp2
    go_ret
    exact ⟨rfl, rfl⟩
  · cases ho
  · go_enter Try.func42, Try.ntmps42
    go_wp2
    go_ret
    exact ⟨rfl, rfl⟩
set_option maxHeartbeats 400000 in
theorem ref_same_yes {p q r s : Nat} (h1 : FloatKind.f64.format.order p r = some .eq) (h2 : FloatKind.f64.format.order q s = some .eq) (w : World) :
    Calls Try.prog 32 #[.complex .f64 p q, .complex .f64 r s] w fun e w' => e = .returned (.bool true) ∧ w = w' := by
  have g1 := ref_samePart_yes p r h1
  have g2 := ref_samePart_yes q s h2
  clear h1 h2
  go_enter Try.func32, Try.ntmps32
  go_wp2_with fail
  (with_reducible refine (g1 _).mono ?_)
  rintro e w' ⟨rfl, rfl⟩
  go_wp2_with fail
  (with_reducible refine (g2 _).mono ?_)
  rintro e w' ⟨rfl, rfl⟩
  go_wp2
  go_ret
  exact ⟨rfl, rfl⟩
set_option maxHeartbeats 400000 in
theorem ref_same_no {p q r s : Nat} (g1 : ∀ w, Calls Try.prog 42 #[.float .f64 p, .float .f64 r] w fun e w' => e = .returned (.bool false) ∧ w = w') (w : World) :
    Calls Try.prog 32 #[.complex .f64 p q, .complex .f64 r s] w fun e w' => e = .returned (.bool false) ∧ w = w' := by
  go_enter Try.func32, Try.ntmps32
  go_wp2_with fail
  (with_reducible refine (g1 _).mono ?_)
  rintro e w' ⟨rfl, rfl⟩
  go_wp2
  go_ret
  exact ⟨rfl, rfl⟩
def In (n : Int) : Prop := -1048576 ≤ n ∧ n ≤ 1048576
end Go.Proofs.Ytepbjjddpfejnaa
