/-
  What may be written, names, lengths and sizes, as Lean functions; contracts of number, upTo, term, howMany, unnamed, within, longer.
-/
import Derived.Test.YtccmnngeibpcmaaGreatRB
import Derived.Laws.ResultCell
namespace Go.Proofs.YtccmnngeibpcmaaGreat.Tree
open Go.ChangeShapes Go.WideShapes Go.ChangeAt Go.RowKit
set_option linter.unusedVariables false
set_option linter.unusedSimpArgs false
attribute [local go_sem] Oper.semAt_some
/-- Is it from 0 to the greatest number? -/
def nbr (n : Int) : Bool := decide (0 ≤ n) && decide (n ≤ 1099511627776)
def rightT (t : Tm) : Bool := decide (t.k < 7 ∧ -1099511627776 ≤ t.n ∧ t.n ≤ 1099511627776 ∧ 0 ≤ t.s ∧ t.s < 26 ∧ 0 ≤ t.r ∧ t.r < 26 ∧ (t.k ≠ 0 ∨ t.s = 0) ∧ (t.k = 5 ∨ t.k = 6 ∨ t.r = 0))
def rightC (c : Cp) : Bool := decide (1 ≤ c.op) && decide (c.op < 7) && rightT c.l && rightT c.r
def rightS (s : Sp) : Bool := nbr s.kind && nbr s.min && nbr s.max && s.cs.all rightC
def rightP (ss : List Sp) (win : Int) : Bool := decide (1 ≤ ss.length) && decide (ss.length ≤ 26) && nbr win && ss.all rightS
def namesT (t : Tm) : List Int := if t.k = 0 then [] else if t.k = 5 ∨ t.k = 6 then [t.s, t.r] else [t.s]
def within (n : Int) : Int := min (max n 0) 1099511627776
def sumF (f : Sp → Int) (ss : List Sp) : Int := (ss.map f).sum
def sizeP (ss : List Sp) : Int := ss.length + sumF (fun s => 3 * (s.cs.length : Int)) ss
def leastP (ss : List Sp) : Int := sumF (fun s => if s.neg then 0 else within s.min) ss
def mostP (ss : List Sp) : Int := sumF (fun s => if s.neg then 0 else within s.max) ss
theorem sumF_zero (f : Sp → Int) (ss : List Sp) : sumF f (ss.take 0) = 0 := by simp [sumF]
theorem sumF_succ (f : Sp → Int) {ss : List Sp} {i : Nat} {s : Sp} (h : ss[i]? = some s) : sumF f (ss.take (i + 1)) = sumF f (ss.take i) + f s := by
  unfold sumF
  rw [List.take_add_one, h]
  simp
theorem sumF_all (f : Sp → Int) {ss : List Sp} {i : Nat} (h : ss.length ≤ i) : sumF f (ss.take i) = sumF f ss := by rw [List.take_of_length_le h]
theorem sumF_bd (f : Sp → Int) (M : Int) (ss : List Sp) (h : ∀ s ∈ ss, 0 ≤ f s ∧ f s ≤ M) : 0 ≤ sumF f ss ∧ sumF f ss ≤ ss.length * M := by
  unfold sumF
  induction ss with
  | nil => simp
  | cons x r ih =>
    obtain ⟨h1, h2⟩ := ih (fun s hs => h s (List.mem_cons_of_mem _ hs))
    obtain ⟨h3, h4⟩ := h x List.mem_cons_self
    simp only [List.map_cons, List.sum_cons, List.length_cons]
    refine ⟨by omega, ?_⟩
    have : ((r.length + 1 : Nat) : Int) * M = r.length * M + M := by push_cast; rw [Int.add_mul, Int.one_mul]
    omega
theorem sumF_take_bd (f : Sp → Int) (M : Int) (hM : 0 ≤ M) (ss : List Sp) (i : Nat) (h : ∀ s ∈ ss, 0 ≤ f s ∧ f s ≤ M) : 0 ≤ sumF f (ss.take i) ∧ sumF f (ss.take i) ≤ i * M := by
  obtain ⟨h1, h2⟩ := sumF_bd f M (ss.take i) (fun s hs => h s (List.mem_of_mem_take hs))
  refine ⟨h1, Int.le_trans h2 ?_⟩
  have : ((ss.take i).length : Int) ≤ i := by have := List.length_take_le i ss; omega
  exact Int.mul_le_mul_of_nonneg_right this hM
def posF : List Sp → Nat → List Int
  | [], _ => []
  | s :: r, i => if s.neg then posF r (i + 1) else (i : Int) :: posF r (i + 1)
def posP (ss : List Sp) : List Int := posF ss 0
theorem within_bd (n : Int) : 0 ≤ within n ∧ within n ≤ 1099511627776 := by unfold within; omega
theorem number_any (n : Int) (b : Bool) (w : World) (hb : Hid (nbr n = b)) : Calls Tryz.prog 65 #[.int .i64 n] w fun e w' => e = .returned (.bool b) ∧ w = w' := by
  have hb := hb.out
  subst hb
  unfold nbr
  by_cases h : 0 ≤ n
  · go_enter Tryz.func65, Tryz.ntmps65
    go_wp2
    go_ret
    exact ⟨by simp [h], rfl⟩
  · go_enter Tryz.func65, Tryz.ntmps65
    go_wp2
    go_ret
    exact ⟨by simp [h]; omega, rfl⟩
theorem upTo_any (n m : Int) (b : Bool) (w : World) (hb : Hid ((decide (0 ≤ n) && decide (n ≤ m)) = b)) : Calls Tryz.prog 71 #[.int .i64 n, .int .i64 m] w fun e w' => e = .returned (.bool b) ∧ w = w' := by
  have hb := hb.out
  subst hb
  by_cases h : 0 ≤ n
  · go_enter Tryz.func71, Tryz.ntmps71
    go_wp2
    go_ret
    exact ⟨by simp [h], rfl⟩
  · go_enter Tryz.func71, Tryz.ntmps71
    go_wp2
    go_ret
    exact ⟨by simp [h]; omega, rfl⟩
theorem howMany_any (k : Int) (w : World) : Calls Tryz.prog 110 #[.int .u8 k] w fun e w' => e = .returned (.int .i64 ((namesT ⟨k, 0, 0, 0⟩).length : Nat)) ∧ w = w' := by
  by_cases h0 : k = 0
  · subst h0
    go_enter Tryz.func110, Tryz.ntmps110
    go_wp2
    go_ret
    exact ⟨rfl, rfl⟩
  · by_cases h5 : k = 5
    · subst h5
      go_enter Tryz.func110, Tryz.ntmps110
      go_wp2
      go_ret
      exact ⟨rfl, rfl⟩
    · by_cases h6 : k = 6
      · subst h6
        go_enter Tryz.func110, Tryz.ntmps110
        go_wp2
        go_ret
        exact ⟨rfl, rfl⟩
      · have hb0 : (k == 0) = false := by simpa using h0
        have hb5 : (k == 5) = false := by simpa using h5
        have hb6 : (k == 6) = false := by simpa using h6
        have hr : Hid (((namesT ⟨k, 0, 0, 0⟩).length : Nat) = 1) := by show _ = _; simp [namesT, h0, h5, h6]
        clear h0 h5 h6
        go_enter Tryz.func110, Tryz.ntmps110
        go_wp2
        go_ret
        exact ⟨by rw [hr.out]; rfl, rfl⟩
theorem longer_any (a n : Int) (w : World) (h0 : 0 ≤ a) (h1 : a ≤ 4611686018427387904) : Calls Tryz.prog 96 #[.int .i64 a, .int .i64 n] w fun e w' => e = .returned (.int .i64 (a + within n)) ∧ w = w' := by
  go_enter Tryz.func96, Tryz.ntmps96
  go_wp2
  all_goals (go_ret; exact ⟨congrArg (fun z => Ending.returned (.int .i64 z)) (by unfold within; first | omega | (split at * <;> omega)), rfl⟩)
theorem rightT_iff (t : Tm) : rightT t = true ↔ (t.k < 7 ∧ -1099511627776 ≤ t.n ∧ t.n ≤ 1099511627776 ∧ 0 ≤ t.s ∧ t.s < 26 ∧ 0 ≤ t.r ∧ t.r < 26 ∧ (t.k ≠ 0 ∨ t.s = 0) ∧ (t.k = 5 ∨ t.k = 6 ∨ t.r = 0)) := by unfold rightT; simp
set_option maxHeartbeats 2000000 in
theorem term_any (t : Tm) (w : World) : Calls Tryz.prog 66 #[tmV t] w fun e w' => e = .returned (.bool (rightT t)) ∧ Below w.heap.size w w' := by
  have H := Lib.hid (rightT_iff t)
  generalize rightT t = B at *
  obtain ⟨k, n, s, r⟩ := t
  dsimp only at *
  go_enter Tryz.func66, Tryz.ntmps66
  go_wp2
  all_goals (go_ret; refine ⟨congrArg (fun z => Ending.returned (.bool z)) ?_, (Below.refl w.heap.size w).alloc (Nat.le_refl _) _⟩)
  all_goals (rw [Bool.eq_iff_iff, H.out]; clear H; simp <;> omega)
end Go.Proofs.YtccmnngeibpcmaaGreat.Tree
