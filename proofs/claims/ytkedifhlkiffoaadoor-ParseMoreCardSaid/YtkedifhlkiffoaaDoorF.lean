/-
  Contract of slices.Reverse at every slice of at most 1000 bytes of the call's own.
-/
import Derived.Test.YtkedifhlkiffoaaDoorE
import Derived.RegionTactic
import Derived.BigRegion
namespace Go.Proofs.YtkedifhlkiffoaaDoor
open Go.ChangeShapes Go.WideShapes Go.ChangeAt Go.RowKit
set_option linter.unusedVariables false
def revTo (xs : List Int) (k : Nat) : List Int := (List.range xs.length).map (fun i => if i < k ∨ xs.length - k ≤ i then xs[xs.length - 1 - i]?.getD 0 else xs[i]?.getD 0)
theorem revTo_zero (xs : List Int) : revTo xs 0 = xs := by
  apply List.ext_getElem
  · simp [revTo]
  · intro i h1 h2
    simp [revTo, h2]
    intro h; omega
theorem revTo_end (xs : List Int) (k : Nat) (h : xs.length ≤ 2 * k + 1) : revTo xs k = xs.reverse := by
  apply List.ext_getElem
  · simp [revTo]
  · intro i h1 h2
    simp at h2
    simp only [revTo, List.getElem_map, List.getElem_range, List.getElem_reverse]
    by_cases c : i < k ∨ xs.length - k ≤ i
    · rw [if_pos c]; simp [show xs.length - 1 - i < xs.length by omega]
    · rw [if_neg c]
      have : xs.length - 1 - i = i := by omega
      simp [this, h2]
theorem revTo_len (xs : List Int) (k : Nat) : (revTo xs k).length = xs.length := by simp [revTo]
theorem revTo_at (xs : List Int) (k i : Nat) (h : k ≤ i) (h' : i < xs.length - k) : (revTo xs k)[i]? = some (xs[i]?.getD 0) := by
  have : i < xs.length := by omega
  simp only [revTo, List.getElem?_map, List.getElem?_range this, Option.map_some]
  rw [if_neg (by omega)]
theorem revTo_step (xs : List Int) (k : Nat) (h : 2 * k + 1 < xs.length) :
    ((revTo xs k).set k (xs[xs.length - 1 - k]?.getD 0)).set (xs.length - 1 - k) (xs[k]?.getD 0) = revTo xs (k + 1) := by
  apply List.ext_getElem
  · simp [revTo]
  · intro i h1 h2
    simp [revTo] at h2
    simp only [List.getElem_set, revTo, List.getElem_map, List.getElem_range]
    by_cases e1 : xs.length - 1 - k = i
    · rw [if_pos e1, if_pos (by omega), show xs.length - 1 - i = k by omega]
    · rw [if_neg e1]
      by_cases e2 : k = i
      · rw [if_pos e2, if_pos (by omega), e2]
      · rw [if_neg e2]
        by_cases c : i < k ∨ xs.length - k ≤ i
        · rw [if_pos c, if_pos (by omega)]
        · rw [if_neg c, if_neg (by omega)]
abbrev U (l : List Int) : List Value := l.map (Value.int .u8)
theorem grown_trans {a b c : World} {row : Option Nat} (h : a.grownBy b row) (k : b.grownBy c row) : a.grownBy c row :=
  ⟨k.os.trans h.os, k.tape.trans h.tape, k.output.trans h.output, Nat.le_trans h.size k.size, fun j hj hne => (k.block j (Nat.lt_of_lt_of_le hj h.size) hne).trans (h.block j hj hne)⟩
set_option maxHeartbeats 1000000 in
theorem rev_any (g cap base : Nat) (xs : List Int) (w : World) (hl : xs.length ≤ 1000) (hr : w.ownsRow base 5 1 (.slice (some ⟨g, 0, none⟩) xs.length cap) xs.length (U xs)) :
    Calls Tryd.prog 99 #[.slice (some ⟨g, 0, none⟩) xs.length cap] w fun e w' => e = .returned (.tuple #[]) ∧
      w'.ownsRow base 5 1 (.slice (some ⟨g, 0, none⟩) xs.length cap) xs.length (U xs.reverse) ∧ w.grownBy w' (some g) := by
  have h0 : Hid (w.ownsRow base 5 1 (.slice (some ⟨g, 0, none⟩) xs.length cap) xs.length (U (revTo xs 0)) ∧ w.grownBy w (some g)) := by
    refine ⟨?_, ?_⟩
    · rw [revTo_zero]; exact hr
    · exact ⟨rfl, rfl, rfl, Nat.le_refl _, fun _ _ _ => rfl⟩
  clear hr
  go_enter Tryd.func99, Tryd.ntmps99
  go_wp2
  go_loopw [2, 3] (fun i j wr => ∃ k : Nat, 2 * k ≤ xs.length + 1 ∧ i = .int .i64 k ∧ j = .int .i64 ((xs.length : Int) - 1 - k) ∧
     Hid (wr.ownsRow base 5 1 (.slice (some ⟨g, 0, none⟩) xs.length cap) xs.length (U (revTo xs k)) ∧ w.grownBy wr (some g))) (fun i _ _ => xs.length - (intOf i).toNat)
  case atStart => exact ⟨0, by omega, rfl, by simp, h0⟩
  case round =>
    clear h0
    obtain ⟨k, hk, rfl, rfl, hI⟩ := hrel
    by_cases hlt : 2 * k + 1 < xs.length
    · have hR := Lib.hid hI.out.1
      have hc1 := (hR.out.cellAt k (by omega)).trans (by rw [List.getElem?_map, revTo_at xs k k (by omega) (by omega)])
      have hc2 := (hR.out.cellAt (xs.length - 1 - k) (by omega)).trans (by rw [List.getElem?_map, revTo_at xs k _ (by omega) (by omega)])
      have hf1 := hR.out.frozenAt k
      have hf2 := hR.out.frozenAt (xs.length - 1 - k)
      have b1 : (k : Int) < (xs.length : Int) - 1 - k := by omega
      have b2 : (0 : Int) ≤ (xs.length : Int) - 1 - k := by omega
      have b3 : (xs.length : Int) - 1 - k < xs.length := by omega
      have b4 : ((xs.length : Int) - 1 - k).toNat = xs.length - 1 - k := by omega
      have hst := Lib.hid (revTo_step xs k hlt)
      have hne : k ≠ xs.length - 1 - k := by omega
      generalize xs[k]?.getD 0 = x at *
      generalize xs[xs.length - 1 - k]?.getD 0 = y at *
      go_wp2
      go_region
      go_wp2
      have hr1 := hR.out.stored k (.int .u8 y)
      have hr2 := hr1.1.stored (xs.length - 1 - k) (.int .u8 x)
      refine ⟨⟨k + 1, by omega, by go_num, by congr 1; omega, ?_, ?_⟩, by simp [intOf]; omega⟩
      · have := hr2.1
        rw [← List.map_set, ← List.map_set, hst.out] at this
        exact this
      · have h3 := grown_trans (grown_trans hI.out.2 hr1.2) hr2.2
        exact ⟨h3.os, h3.tape, h3.output, h3.size, h3.block⟩
    · have hR := Lib.hid hI.out.1
      have hG := Lib.hid hI.out.2
      have b1 : (xs.length : Int) - 1 - k ≤ k := by omega
      have hst := Lib.hid (revTo_end xs k (by omega))
      clear hI
      go_wp2
      go_end0
      exact ⟨rfl, by have := hR.out; rw [hst.out] at this; exact this, hG.out⟩
end Go.Proofs.YtkedifhlkiffoaaDoor
