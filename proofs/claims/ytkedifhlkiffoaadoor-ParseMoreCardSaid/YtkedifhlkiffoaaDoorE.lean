/-
  Contracts of strings.CutPrefix at the text - and of num.zeroAhead, at every text of at most 3000 bytes.
-/
import Derived.Test.YtkedifhlkiffoaaDoorC
namespace Go.Proofs.YtkedifhlkiffoaaDoor
open Go.ChangeShapes Go.WideShapes Go.ChangeAt Go.RowKit
set_option linter.unusedVariables false
/-- A string of these bytes. -/
abbrev S (l : List UInt8) : Value := .string ⟨l.toArray⟩
theorem ret_bool {a b : Bool} (h : a = b) : Ending.returned (.bool a) = .returned (.bool b) := by rw [h]
theorem head_eq (c : UInt8) (l : List UInt8) (b : Bool) (h : (c == 45) = b) : (((⟨(c :: l).toArray⟩ : ByteArray).extract 0 1).toList == [45]) = b := by
  have : ((⟨(c :: l).toArray⟩ : ByteArray).extract 0 1).toList = [c] := by
    rw [ByteArray.toList_eq]
    simp [ByteArray.data_extract]
  rw [this, ← h]
  simp [List.cons_beq_cons]
theorem ret_sb {s t : ByteArray} {a b : Bool} (h : s = t) (h' : a = b) : Ending.returned (.tuple #[.string s, .bool a]) = .returned (.tuple #[.string t, .bool b]) := by rw [h, h']
theorem tail_eq (l : List UInt8) : (⟨(45 :: l).toArray⟩ : ByteArray).extract 1 (l.length + 1) = ⟨l.toArray⟩ := by
  apply ByteArray.ext
  rw [ByteArray.data_extract]
  apply Array.ext'
  simp
set_option maxHeartbeats 400000 in
theorem has_cons (c : UInt8) (l : List UInt8) (b : Bool) (w : World) (hl : l.length ≤ 3000) (h : Hid ((c == 45) = b)) :
    Calls Tryd.prog 125 #[S (c :: l), S [45]] w fun e w' => e = .returned (.bool b) ∧ w = w' := by
  unfold S
  go_enter Tryd.func125, Tryd.ntmps125
  go_wp2
  go_ret
  exact ⟨ret_bool (head_eq c l b h.out), rfl⟩
set_option maxHeartbeats 400000 in
theorem has_nil (w : World) :
    Calls Tryd.prog 125 #[S [], S [45]] w fun e w' => e = .returned (.bool false) ∧ w = w' := by
  unfold S
  go_enter Tryd.func125, Tryd.ntmps125
  go_wp2
  go_ret
  exact ⟨rfl, rfl⟩
set_option maxHeartbeats 400000 in
theorem cut_yes (l : List UInt8) (w : World) (hl : l.length ≤ 3000) :
    Calls Tryd.prog 128 #[S (45 :: l), S [45]] w fun e w' => e = .returned (.tuple #[S l, .bool true]) ∧ w = w' := by
  unfold S
  have h : Hid (((45 : UInt8) == 45) = true) := rfl
  go_enter Tryd.func128, Tryd.ntmps128
  go_wp2_with ((with_reducible refine (has_cons 45 l true _ hl h).mono ?_); rintro e w' ⟨rfl, rfl⟩)
  go_ret2
  exact ⟨ret_sb (tail_eq l) rfl, rfl⟩
set_option maxHeartbeats 400000 in
theorem cut_no (c : UInt8) (l : List UInt8) (w : World) (hl : l.length ≤ 3000) (h : Hid ((c == 45) = false)) :
    Calls Tryd.prog 128 #[S (c :: l), S [45]] w fun e w' => e = .returned (.tuple #[S (c :: l), .bool false]) ∧ w = w' := by
  unfold S
  go_enter Tryd.func128, Tryd.ntmps128
  go_wp2_with ((with_reducible refine (has_cons c l false _ hl h).mono ?_); rintro e w' ⟨rfl, rfl⟩)
  go_ret2
  exact ⟨rfl, rfl⟩
set_option maxHeartbeats 400000 in
theorem cut_nil (w : World) :
    Calls Tryd.prog 128 #[S [], S [45]] w fun e w' => e = .returned (.tuple #[S [], .bool false]) ∧ w = w' := by
  unfold S
  go_enter Tryd.func128, Tryd.ntmps128
  go_wp2_with ((with_reducible refine (has_nil _).mono ?_); rintro e w' ⟨rfl, rfl⟩)
  go_ret2
  exact ⟨rfl, rfl⟩
/-- What is cut off: the bytes behind a -, and whether there is one. -/
def digs : List UInt8 → List UInt8
  | [] => []
  | c :: l => if c == 45 then l else c :: l
def below : List UInt8 → Bool
  | [] => false
  | c :: _ => c == 45
theorem digs_len (l : List UInt8) : (digs l).length ≤ l.length := by
  cases l with
  | nil => simp [digs]
  | cons c l => simp only [digs]; split <;> simp
theorem cutl_any (l : List UInt8) (w : World) (hl : l.length ≤ 3000) :
    Calls Tryd.prog 128 #[S l, S [45]] w fun e w' => e = .returned (.tuple #[S (digs l), .bool (below l)]) ∧ w = w' := by
  cases l with
  | nil => exact cut_nil w
  | cons c l =>
    simp at hl
    cases h : c == 45
    · have := cut_no c l w (by omega) h
      simpa [digs, below, h] using this
    · obtain rfl : c = 45 := by simpa using h
      exact cut_yes l w (by omega)
set_option maxHeartbeats 400000 in
theorem cut_any (l : List UInt8) (w : World) (hl : l.length ≤ 3000) :
    Calls Tryd.prog 122 #[S l, S [45]] w fun e w' => e = .returned (.tuple #[S (digs l), .bool (below l)]) ∧ w = w' := by
  have h := Lib.hid (cutl_any l w hl)
  unfold S at *
  generalize digs l = d at *
  generalize below l = b at *
  go_enter Tryd.func122, Tryd.ntmps122
  go_wp2_with ((with_reducible refine h.out.mono ?_); rintro e w' ⟨rfl, rfl⟩)
  go_ret2
  exact ⟨rfl, rfl⟩
/-- A 0 stands ahead of other digits, or behind -. -/
def zahead (b : Bool) : List UInt8 → Bool
  | [] => false
  | c :: l => c == 48 && (b || !l.isEmpty)
set_option maxHeartbeats 400000 in
theorem zero_any (c : UInt8) (l : List UInt8) (b : Bool) (w : World) (hl : l.length ≤ 3000) :
    Calls Tryd.prog 123 #[S (c :: l), .bool b] w fun e w' => e = .returned (.bool (zahead b (c :: l))) ∧ w = w' := by
  unfold S
  by_cases hc : c = 48
  · subst hc
    cases l with
    | nil =>
      cases b
      all_goals
        go_enter Tryd.func123, Tryd.ntmps123
        go_wp2
        go_ret
        exact ⟨rfl, rfl⟩
    | cons d l =>
      simp at hl
      have h1 : decide (1 < (l.length : Int) + 1 + 1) = true := by simp; omega
      cases b
      all_goals
        go_enter Tryd.func123, Tryd.ntmps123
        go_wp2
        go_ret
        exact ⟨rfl, rfl⟩
  · have hz : Hid (zahead b (c :: l) = false) := by show _ = _; simp [zahead, hc]
    have hcn : ¬ ((c.toNat : Int) = 48) := fun h => hc (by apply UInt8.toNat_inj.1; simpa using (by omega : c.toNat = 48))
    have hb : ((c.toNat : Int) == 48) = false := by simpa using hcn
    clear hc
    cases l with
    | nil =>
      go_enter Tryd.func123, Tryd.ntmps123
      go_wp2
      go_ret
      exact ⟨ret_bool hz.out.symm, rfl⟩
    | cons d l =>
      go_enter Tryd.func123, Tryd.ntmps123
      go_wp2
      go_ret
      exact ⟨ret_bool hz.out.symm, rfl⟩
end Go.Proofs.YtkedifhlkiffoaaDoor
