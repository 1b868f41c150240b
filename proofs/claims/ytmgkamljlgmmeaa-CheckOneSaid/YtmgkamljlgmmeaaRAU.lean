/-
  Contracts of the document's own Names, Positive, with.
-/
import Derived.Test.YtmgkamljlgmmeaaRAS
namespace Go.Proofs.Ytmgkamljlgmmeaa.Tree
open Go.ChangeShapes Go.WideShapes Go.ChangeAt Go.RowKit
set_option linter.unusedVariables false
set_option linter.unusedSimpArgs false
attribute [local go_sem] Oper.semAt_some
theorem row_lit (w W : World) (l : List Int) (hb : w.heap.size ≤ W.heap.size) (hl : l.length ≤ 1000) : (W.alloc (.cells (ints l).toArray 3)).ownsRow w.heap.size 3 1 (.slice (some ⟨W.heap.size, 0, none⟩) l.length l.length) l.length (ints l) := by
  have := World.ownsRow_lit (base := w.heap.size) (e := 3) (size := 1) W (ints l).toArray l.length hb (by unfold maxLen; omega) (by simp [ints])
  simpa using this
set_option maxRecDepth 100000 in
set_option maxHeartbeats 1000000 in
theorem refNames_any (t : Tm) (w : World) :
    Calls Try.prog 19 #[tmV t] w fun e w' => ∃ v, e = .returned v ∧ w'.ownsRow w.heap.size 3 1 v (namesT t).length (ints (namesT t)) ∧ Below w.heap.size w w' := by
  have hb := TmBox.new w t
  obtain ⟨z0, z1, z2, z3⟩ := hb.c
  have hk := kept_new w (.cells #[.int .u8 t.k, .int .i64 t.n, .int .i64 t.s, .int .i64 t.r] 39)
  have hs : w.heap.size ≤ (w.alloc (.cells #[.int .u8 t.k, .int .i64 t.n, .int .i64 t.s, .int .i64 t.r] 39)).heap.size := by simp
  generalize hW : (w.alloc (.cells #[.int .u8 t.k, .int .i64 t.n, .int .i64 t.s, .int .i64 t.r] 39)) = W at *
  have r2 := row_lit w W [t.s, t.r] hs (by simp)
  have r1 := row_lit w W [t.s] hs (by simp)
  have k2 := kept_alloc hk (.cells (ints [t.s, t.r]).toArray 3)
  have k1 := kept_alloc hk (.cells (ints [t.s]).toArray 3)
  replace r1 := Lib.hid r1
  replace r2 := Lib.hid r2
  by_cases h0 : t.k = 0
  · have hn : namesT t = [] := by unfold namesT; rw [if_pos h0]
    have e0 : (t.k == 0) = true := by simp [h0]
    rw [hn]
    clear h0 hn
    go_enter Try.func19, Try.ntmps19
    go_wp2_with fail
    go_ret
    exact ⟨_, rfl, World.ownsRow_nil _ _ _ _, hk⟩
  have e0 : (t.k == 0) = false := by simp [h0]
  by_cases h5 : t.k = 5
  · have hn : namesT t = [t.s, t.r] := by unfold namesT; rw [if_neg h0, if_pos (.inl h5)]
    have e5 : (t.k == 5) = true := by simp [h5]
    rw [hn]
    clear h0 hn h5
    go_enter Try.func19, Try.ntmps19
    go_wp2_with fail
    go_ret
    exact ⟨_, rfl, r2.out, k2⟩
  have e5 : (t.k == 5) = false := by simp [h5]
  by_cases h6 : t.k = 6
  · have hn : namesT t = [t.s, t.r] := by unfold namesT; rw [if_neg h0, if_pos (.inr h6)]
    have e6 : (t.k == 6) = true := by simp [h6]
    rw [hn]
    clear h0 hn h5 h6
    go_enter Try.func19, Try.ntmps19
    go_wp2_with fail
    go_ret
    exact ⟨_, rfl, r2.out, k2⟩
  have hn : namesT t = [t.s] := by unfold namesT; rw [if_neg h0, if_neg (by simp [h5, h6])]
  have e6 : (t.k == 6) = false := by simp [h6]
  rw [hn]
  clear h0 hn h5 h6
  go_enter Try.func19, Try.ntmps19
  go_wp2_with fail
  go_ret
  exact ⟨_, rfl, r1.out, k1⟩
theorem posF_snoc' (ss : List Sp) (s : Sp) (i : Nat) : posF (ss ++ [s]) i = posF ss i ++ (if s.neg then [] else [((i + ss.length : Nat) : Int)]) := by
  induction ss generalizing i with
  | nil => cases h : s.neg <;> simp [posF, h]
  | cons x r ih =>
    simp only [List.cons_append, posF, List.length_cons]
    rw [ih, show i + 1 + r.length = i + (r.length + 1) by omega]
    split <;> simp
theorem pos_take {ss : List Sp} {i : Nat} {s : Sp} (h : ss[i]? = some s) : posP (ss.take (i + 1)) = posP (ss.take i) ++ (if s.neg then [] else [(i : Int)]) := by
  have hl := (List.getElem?_eq_some_iff.1 h).1
  rw [List.take_add_one, h]
  unfold posP
  rw [show (some s).toList = [s] from rfl, posF_snoc', List.length_take, Nat.min_eq_left (by omega), Nat.zero_add]
theorem posF_len' (ss : List Sp) (i : Nat) : (posF ss i).length ≤ ss.length := by
  induction ss generalizing i with
  | nil => simp [posF]
  | cons s r ih =>
    have := ih (i + 1)
    simp only [posF, List.length_cons]
    split <;> simp <;> omega
/-- Behind i steps. -/
def RpIn (w : World) (L : List (Sp × Value)) (i : Nat) (v : Value) (W : World) : Prop :=
  W.ownsRow w.heap.size 3 1 v (posP ((L.map (·.1)).take i)).length (ints (posP ((L.map (·.1)).take i))) ∧ Below w.heap.size w W
end Go.Proofs.Ytmgkamljlgmmeaa.Tree
