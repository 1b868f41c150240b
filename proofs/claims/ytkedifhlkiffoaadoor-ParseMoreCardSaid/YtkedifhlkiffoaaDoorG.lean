/-
  Contract of the iterator that num.lowDigits hands back: the digits of a whole number, the last one first, at every whole number of 64 bits.
-/
import Derived.Test.YtkedifhlkiffoaaDoorF
import Derived.RangeFuncNested
import Derived.RangeFuncBound
import Derived.RangeFuncCalls
import Derived.RangeFuncLeaves
import Derived.Shelf.Abstract
import Derived.Shelf.RegionOpen
import Derived.OwnWalkIn
import Derived.TacticsInMore
import Derived.LoopNIn
import Derived.LoopIn
import Derived.Maps.AppendAt
namespace Go.Proofs.YtkedifhlkiffoaaDoor
open Go.ChangeShapes Go.WideShapes Go.ChangeAt Go.RowKit
set_option linter.unusedVariables false
attribute [local go_sem] Oper.semAt_some
/-- The digits of m, the last one first. -/
def lowN (m : Nat) : List Int := if 9 < m then (48 + (m : Int) % 10) :: lowN (m / 10) else [48 + (m : Int) % 10]
termination_by m
decreasing_by omega
theorem lowN_len (d m : Nat) (h : m < 10 ^ (d + 1)) : (lowN m).length ≤ d + 1 := by
  induction d generalizing m with
  | zero => rw [lowN, if_neg (by omega)]; simp
  | succ d ih =>
    rw [lowN]
    split
    · have := ih (m / 10) (by rw [Nat.pow_succ] at h; omega)
      simpa using this
    · simp
theorem abs_neg (a : Int) (h : a < 0) (h' : -9223372036854775808 ≤ a) : Value.int IntKind.u64 (IntKind.u64.wrap (-IntKind.u64.wrap a)) = .int .u64 (a.natAbs : Int) := by
  congr 1; simp only [IntKind.wrap_u64]; omega
theorem abs_pos (a : Int) (h : 0 ≤ a) : Value.int IntKind.u64 a = .int .u64 (a.natAbs : Int) := by congr 1; omega
theorem lowN_more (m : Nat) (h : 9 < m) : lowN m = (48 + (m : Int) % 10) :: lowN (m / 10) := by rw [lowN, if_pos h]
theorem lowN_last (m : Nat) (h : ¬ 9 < m) : lowN m = [48 + (m : Int) % 10] := by rw [lowN, if_neg h]
set_option maxRecDepth 100000 in
set_option maxHeartbeats 1000000 in
theorem low1_in (F : Fence) (n : Nat) (h32 : F.fn 114) (hro : F.round = none) (hn : 1 ≤ n) (l B : Nat) (a : Int) (N : Nat) (hN : (lowN a.natAbs).length ≤ N) (hfa : -9223372036854775808 ≤ a) (hfa' : a ≤ 9223372036854775807) (J Jx : List Int → World → Prop)
    (hY : Hid (∀ pre x W, J pre W → pre.length < N → YieldAt F (n - 1) Tryd.prog l #[.int .u8 x] W fun e W' =>
      (e = .returned (.bool true) ∧ J (pre ++ [x]) W' ∧ KeepsWalks W W') ∨ (e = .returned (.bool false) ∧ Jx (pre ++ [x]) W')))
    (W : World) (hB : W.cell? ⟨B, 0, none⟩ = some (.int .i64 a)) (h0 : J [] W) :
    CallsIn F n Tryd.prog 114 #[.func (.yield l) #[] #[], .pointer (some ⟨B, 0, none⟩)] W fun e W' => (∃ v, e = .returned v) ∧
      ((∃ ys, ys = lowN a.natAbs ∧ J ys W') ∨ (∃ pre, True ∧ Jx pre W')) := by
  refine callsIn_of_wp Tryd.func114 rfl h32 ?_ hro
  simp only [Tryd.ntmps114, List.size_toArray, List.length_cons, List.length_nil, Nat.reduceAdd, Nat.reduceSub, Array.replicate_succ, Array.replicate_zero, List.push_toArray, List.append_toArray, List.nil_append, List.cons_append]
  by_cases hneg : a < 0
  all_goals
    gi_wp2
    gi_loopw [3] (fun t wr => ∃ (pre : List Int) (m : Nat), t = .int .u64 m ∧ m < 18446744073709551616 ∧ Hid (lowN a.natAbs = pre ++ lowN m) ∧ J pre wr) (fun t _ => (intOf t).toNat)
    case atStart => exact ⟨[], a.natAbs, by first | exact abs_neg a hneg hfa | exact abs_pos a hneg, by omega, rfl, h0⟩
    case round =>
      clear hneg hB h0
      obtain ⟨pre, m, rfl, hm, hlow, hJs⟩ := hrel
      have hlen : pre.length < N := by
        have h1 : (lowN a.natAbs).length = pre.length + (lowN m).length := by rw [hlow.out, List.length_append]
        have h2 : 0 < (lowN m).length := by rw [lowN]; split <;> simp
        omega
      obtain ⟨fn, tmps, assign, body, hy, hR⟩ := hY.out pre (48 + (m : Int) % 10) wr hJs hlen
      by_cases h9 : 9 < m
      · have h9' : decide ((9 : Int) < m) = true := by simp; omega
        have hnext : Hid (lowN a.natAbs = (pre ++ [48 + (m : Int) % 10]) ++ lowN (m / 10)) := by show _ = _; rw [hlow.out, lowN_more m h9]; simp
        gi_wp2
        refine hR.mono ?_
        rintro e W3 (⟨rfl, hJ3, hk3⟩ | ⟨rfl, hJx3⟩)
        · gi_wp2
          go_roundw
          case rel => exact ⟨pre ++ [48 + (m : Int) % 10], m / 10, by simp, by omega, hnext, hJ3⟩
          case measure => simp [intOf]; omega
        · gi_wp2
          go_end0
          exact ⟨⟨_, rfl⟩, .inr ⟨_, trivial, hJx3⟩⟩
      · have h9' : decide ((9 : Int) < m) = false := by simp; omega
        have hnext : Hid (pre ++ [48 + (m : Int) % 10] = lowN a.natAbs) := by show _ = _; rw [hlow.out, lowN_last m h9]
        gi_wp2
        refine hR.mono ?_
        rintro e W3 (⟨rfl, hJ3, hk3⟩ | ⟨rfl, hJx3⟩)
        · gi_wp2
          go_end0
          exact ⟨⟨_, rfl⟩, .inl ⟨_, hnext.out, hJ3⟩⟩
        · gi_wp2
          go_end0
          exact ⟨⟨_, rfl⟩, .inr ⟨_, trivial, hJx3⟩⟩
end Go.Proofs.YtkedifhlkiffoaaDoor
