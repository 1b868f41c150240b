/-
  Contract of the iterator that num.digitsOf hands back: what each byte of a text is worth, at every text of at most 3000 bytes.
-/
import Derived.Test.YtkedifhlkiffoaaDoorH
namespace Go.Proofs.YtkedifhlkiffoaaDoor
open Go.ChangeShapes Go.WideShapes Go.ChangeAt Go.RowKit
set_option linter.unusedVariables false
attribute [local go_sem] Oper.semAt_some
abbrev Dg := { x : Int // -1 ≤ x ∧ x ≤ 9 }
/-- What a byte is worth as a digit; -1: it is none. -/
def digV (c : UInt8) : Int := if 48 ≤ c.toNat ∧ c.toNat ≤ 57 then (c.toNat : Int) - 48 else -1
theorem digV_bd (c : UInt8) : -1 ≤ digV c ∧ digV c ≤ 9 := by unfold digV; split <;> omega
def digD (c : UInt8) : Dg := ⟨digV c, digV_bd c⟩
/-- What the box B holds it holds on. -/
def KeepsBox (B : Nat) (W W' : World) : Prop := ∀ v, Boxed W B 9 v → Boxed W' B 9 v
set_option maxHeartbeats 400000 in
theorem dof_any (l : List UInt8) (w : World) :
    Calls Tryd.prog 124 #[S l] w fun e w' => e = .returned (.func (.func 129) #[] #[.pointer (some ⟨w.heap.size, 0, none⟩)]) ∧ w' = w.alloc (.cells #[S l] 9) := by
  go_enter Tryd.func124, Tryd.ntmps124
  go_wp2
  go_ret
  exact ⟨rfl, rfl⟩
/-- The first k digits. -/
def dgs (s : ByteArray) (k : Nat) : List Dg := (s.data.toList.take k).map digD
theorem dgs_succ (s : ByteArray) (k : Nat) (h : k < s.size) : dgs s k ++ [digD s[k]] = dgs s (k + 1) := by
  unfold dgs
  rw [List.take_succ_eq_append_getElem (by simpa using h), List.map_append]
  rfl
theorem dgs_len (s : ByteArray) (k : Nat) (h : k ≤ s.size) : (dgs s k).length = k := by
  have : s.data.size = s.size := rfl
  simp [dgs]; omega
theorem dgs_full (s : ByteArray) : dgs s s.size = s.data.toList.map digD := by
  unfold dgs; rw [List.take_of_length_le (by simp)]
theorem dgs_pre (s : ByteArray) (k : Nat) : dgs s k <+: s.data.toList.map digD := by
  unfold dgs; exact List.IsPrefix.map _ (List.take_prefix _ _)
set_option maxRecDepth 100000 in
set_option maxHeartbeats 1000000 in
theorem dof1_in (n : Nat) (hn : 1 ≤ n) (l B : Nat) (s : ByteArray) (hl : s.size ≤ 3000) (J Jx : List Dg → World → Prop)
    (hY : Hid (∀ pre x W, J pre W → pre.length < 3000 → YieldAt Fence.wide (n - 1) Tryd.prog l #[.int .i64 x.1] W fun e W' =>
      (e = .returned (.bool true) ∧ J (pre ++ [x]) W' ∧ KeepsBox B W W') ∨ (e = .returned (.bool false) ∧ Jx (pre ++ [x]) W')))
    (W : World) (hB : Boxed W B 9 (.string s)) (h0 : J [] W) :
    CallsIn Fence.wide n Tryd.prog 129 #[.func (.yield l) #[] #[], .pointer (some ⟨B, 0, none⟩)] W fun e W' => (∃ v, e = .returned v) ∧
      ((∃ ys, ys = s.data.toList.map digD ∧ J ys W') ∨ (∃ pre, pre <+: s.data.toList.map digD ∧ Jx pre W')) := by
  refine callsIn_of_wp Tryd.func129 rfl trivial ?_ rfl
  simp only [Tryd.ntmps129, List.size_toArray, List.length_cons, List.length_nil, Nat.reduceAdd, Nat.reduceSub, Array.replicate_succ, Array.replicate_zero, List.push_toArray, List.append_toArray, List.nil_append, List.cons_append]
  have hc := hB.cell
  gi_wp2
  clear hc
  gi_loopw [7] (fun t wr => ∃ k : Nat, k ≤ s.size ∧ t = .int .i64 k ∧ Boxed wr B 9 (.string s) ∧ J (dgs s k) wr) (fun t _ => s.size - (intOf t).toNat)
  case atStart => exact ⟨0, Nat.zero_le _, rfl, hB, h0⟩
  case round =>
    clear hB h0
    obtain ⟨k, hk, rfl, hB, hJs⟩ := hrel
    have hc := hB.cell
    by_cases hlt : k < s.size
    · obtain ⟨fn, tmps, assign, body, hy, hR⟩ := hY.out (dgs s k) (digD s[k]) wr hJs (by rw [dgs_len s k hk]; omega)
      have hnext := Lib.hid (dgs_succ s k hlt)
      by_cases hd : 48 ≤ s[k].toNat ∧ s[k].toNat ≤ 57
      · have hdv : (digD s[k]).1 = (s[k].toNat : Int) - 48 := by simp [digD, digV, hd]
        rw [hdv] at hy
        have h48' : (48 : Int) ≤ s[k].toNat := by omega
        have h57' : (s[k].toNat : Int) ≤ 57 := by omega
        have g1 : decide ((48 : Int) ≤ s[k].toNat) = true := by simp; omega
        have g2 : decide ((s[k].toNat : Int) ≤ 57) = true := by simp; omega
        clear hd hdv
        gi_wp2
        refine hR.mono ?_
        rintro e W3 (⟨rfl, hJ3, hk3⟩ | ⟨rfl, hJx3⟩)
        · gi_wp2
          go_roundw
          case rel => exact ⟨k + 1, by omega, by go_num, hk3 _ hB, by rw [← hnext.out]; exact hJ3⟩
          case measure => simp [intOf]; omega
        · gi_wp2
          refine bodyPost_ret (results_none rfl _ _ _) rfl ?_
          exact ⟨⟨_, rfl⟩, .inr ⟨_, by rw [hnext.out]; exact dgs_pre s _, hJx3⟩⟩
      · have hdv : (digD s[k]).1 = -1 := by simp [digD, digV, hd]
        rw [hdv] at hy
        by_cases hd1 : 48 ≤ s[k].toNat
        · have h48' : (48 : Int) ≤ s[k].toNat := by omega
          have g1 : decide ((48 : Int) ≤ s[k].toNat) = true := by simp; omega
          have g2 : decide ((s[k].toNat : Int) ≤ 57) = false := by simp; omega
          clear hd hdv
          gi_wp2
          refine hR.mono ?_
          rintro e W3 (⟨rfl, hJ3, hk3⟩ | ⟨rfl, hJx3⟩)
          · gi_wp2
            go_roundw
            case rel => exact ⟨k + 1, by omega, by go_num, hk3 _ hB, by rw [← hnext.out]; exact hJ3⟩
            case measure => simp [intOf]; omega
          · gi_wp2
            refine bodyPost_ret (results_none rfl _ _ _) rfl ?_
            exact ⟨⟨_, rfl⟩, .inr ⟨_, by rw [hnext.out]; exact dgs_pre s _, hJx3⟩⟩
        · have g1 : decide ((48 : Int) ≤ s[k].toNat) = false := by simp; omega
          clear hd hdv
          gi_wp2
          refine hR.mono ?_
          rintro e W3 (⟨rfl, hJ3, hk3⟩ | ⟨rfl, hJx3⟩)
          · gi_wp2
            go_roundw
            case rel => exact ⟨k + 1, by omega, by go_num, hk3 _ hB, by rw [← hnext.out]; exact hJ3⟩
            case measure => simp [intOf]; omega
          · gi_wp2
            refine bodyPost_ret (results_none rfl _ _ _) rfl ?_
            exact ⟨⟨_, rfl⟩, .inr ⟨_, by rw [hnext.out]; exact dgs_pre s _, hJx3⟩⟩
    · obtain rfl : k = s.size := by omega
      rw [dgs_full] at hJs
      gi_wp2
      go_end0
      exact ⟨⟨_, rfl⟩, .inl ⟨_, rfl, hJs⟩⟩
end Go.Proofs.YtkedifhlkiffoaaDoor
