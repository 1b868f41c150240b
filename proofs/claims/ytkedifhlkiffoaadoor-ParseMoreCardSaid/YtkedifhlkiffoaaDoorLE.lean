/-
  Contract of lex.sign at every whole number: the sign whose byte it is, or nothing.
-/
import Derived.Test.YtkedifhlkiffoaaDoorLD
namespace Go.Proofs.YtkedifhlkiffoaaDoor
open Go.ChangeShapes Go.WideShapes Go.ChangeAt Go.RowKit
set_option linter.unusedVariables false
set_option linter.unusedSimpArgs false
attribute [local go_sem] Oper.semAt_some
theorem dec0 : Utf8.decode signsS 0 = (33, 1) := by kernel_rfl
theorem dec1 : Utf8.decode signsS 1 = (123, 1) := by kernel_rfl
theorem dec2 : Utf8.decode signsS 2 = (125, 1) := by kernel_rfl
theorem dec3 : Utf8.decode signsS 3 = (91, 1) := by kernel_rfl
theorem dec4 : Utf8.decode signsS 4 = (93, 1) := by kernel_rfl
theorem dec5 : Utf8.decode signsS 5 = (40, 1) := by kernel_rfl
theorem dec6 : Utf8.decode signsS 6 = (41, 1) := by kernel_rfl
theorem dec7 : Utf8.decode signsS 7 = (44, 1) := by kernel_rfl
theorem dec8 : Utf8.decode signsS 8 = (59, 1) := by kernel_rfl
theorem dec9 : Utf8.decode signsS 9 = (38, 1) := by kernel_rfl
theorem dec10 : Utf8.decode signsS 10 = (43, 1) := by kernel_rfl
theorem dec11 : Utf8.decode signsS 11 = (45, 1) := by kernel_rfl
theorem idx_is (p : Nat → Bool) : Lib.idxFunc p true signsS = if p 33 then 0 else if p 123 then 1 else if p 125 then 2 else if p 91 then 3 else if p 93 then 4 else if p 40 then 5 else if p 41 then 6 else if p 44 then 7 else if p 59 then 8 else if p 38 then 9 else if p 43 then 10 else if p 45 then 11 else -1 := by
  have hs : signsS.size = 12 := rfl
  unfold Lib.idxFunc
  rw [hs]
  simp only [Lib.idxFuncFrom, hs, dec0, dec1, dec2, dec3, dec4, dec5, dec6, dec7, dec8, dec9, dec10, dec11, Nat.reduceAdd, Nat.reduceLT, if_true, Nat.lt_irrefl]
  rfl
theorem sign_cases (n : Int) (h : isSign n = true) : n = 33 ∨ n = 123 ∨ n = 125 ∨ n = 91 ∨ n = 93 ∨ n = 40 ∨ n = 41 ∨ n = 44 ∨ n = 59 ∨ n = 38 ∨ n = 43 ∨ n = 45 := by
  unfold isSign signsL at h
  simp at h
  omega
theorem sign_none (n : Int) (h : isSign n = false) : (((33 : Nat) : Int) == n) = false ∧ (((123 : Nat) : Int) == n) = false ∧ (((125 : Nat) : Int) == n) = false ∧ (((91 : Nat) : Int) == n) = false ∧ (((93 : Nat) : Int) == n) = false ∧ (((40 : Nat) : Int) == n) = false ∧ (((41 : Nat) : Int) == n) = false ∧ (((44 : Nat) : Int) == n) = false ∧ (((59 : Nat) : Int) == n) = false ∧ (((38 : Nat) : Int) == n) = false ∧ (((43 : Nat) : Int) == n) = false ∧ (((45 : Nat) : Int) == n) = false := by
  unfold isSign signsL at h
  simp at h
  simp
  omega
set_option maxHeartbeats 1000000 in
theorem sign_any (n : Int) (w : World) : Calls Tryd.prog 107 #[.int .i64 n] w fun e w' => e = .returned (S (signT n)) ∧ Below w.heap.size w w' := by
  have bN := Boxed.new w 3 (.int .i64 n)
  have hB := (Below.refl w.heap.size w).alloc (Nat.le_refl _) (.cells #[.int .i64 n] 3)
  have hx := Lib.hid (indexF_any w.heap.size n signsS (w.alloc (.cells #[.int .i64 n] 3)) bN.cell (by simp))
  have hi := idx_is (fun r => (r : Int) == n)
  unfold S signT
  by_cases hg : isSign n = true
  · rw [if_pos hg]
    rcases sign_cases n hg with rfl | rfl | rfl | rfl | rfl | rfl | rfl | rfl | rfl | rfl | rfl | rfl
    · rw [show Lib.idxFunc (fun r => (r : Int) == 33) true signsS = 0 from hi] at hx
      clear hi
      go_enter Tryd.func107, Tryd.ntmps107
      go_wp2_with ((with_reducible refine hx.out.mono ?_); rintro e w' ⟨rfl, hb⟩)
      go_ret
      exact ⟨rfl, hB.trans (hb.mono (by simp))⟩
    · rw [show Lib.idxFunc (fun r => (r : Int) == 123) true signsS = 1 from hi] at hx
      clear hi
      go_enter Tryd.func107, Tryd.ntmps107
      go_wp2_with ((with_reducible refine hx.out.mono ?_); rintro e w' ⟨rfl, hb⟩)
      go_ret
      exact ⟨rfl, hB.trans (hb.mono (by simp))⟩
    · rw [show Lib.idxFunc (fun r => (r : Int) == 125) true signsS = 2 from hi] at hx
      clear hi
      go_enter Tryd.func107, Tryd.ntmps107
      go_wp2_with ((with_reducible refine hx.out.mono ?_); rintro e w' ⟨rfl, hb⟩)
      go_ret
      exact ⟨rfl, hB.trans (hb.mono (by simp))⟩
    · rw [show Lib.idxFunc (fun r => (r : Int) == 91) true signsS = 3 from hi] at hx
      clear hi
      go_enter Tryd.func107, Tryd.ntmps107
      go_wp2_with ((with_reducible refine hx.out.mono ?_); rintro e w' ⟨rfl, hb⟩)
      go_ret
      exact ⟨rfl, hB.trans (hb.mono (by simp))⟩
    · rw [show Lib.idxFunc (fun r => (r : Int) == 93) true signsS = 4 from hi] at hx
      clear hi
      go_enter Tryd.func107, Tryd.ntmps107
      go_wp2_with ((with_reducible refine hx.out.mono ?_); rintro e w' ⟨rfl, hb⟩)
      go_ret
      exact ⟨rfl, hB.trans (hb.mono (by simp))⟩
    · rw [show Lib.idxFunc (fun r => (r : Int) == 40) true signsS = 5 from hi] at hx
      clear hi
      go_enter Tryd.func107, Tryd.ntmps107
      go_wp2_with ((with_reducible refine hx.out.mono ?_); rintro e w' ⟨rfl, hb⟩)
      go_ret
      exact ⟨rfl, hB.trans (hb.mono (by simp))⟩
    · rw [show Lib.idxFunc (fun r => (r : Int) == 41) true signsS = 6 from hi] at hx
      clear hi
      go_enter Tryd.func107, Tryd.ntmps107
      go_wp2_with ((with_reducible refine hx.out.mono ?_); rintro e w' ⟨rfl, hb⟩)
      go_ret
      exact ⟨rfl, hB.trans (hb.mono (by simp))⟩
    · rw [show Lib.idxFunc (fun r => (r : Int) == 44) true signsS = 7 from hi] at hx
      clear hi
      go_enter Tryd.func107, Tryd.ntmps107
      go_wp2_with ((with_reducible refine hx.out.mono ?_); rintro e w' ⟨rfl, hb⟩)
      go_ret
      exact ⟨rfl, hB.trans (hb.mono (by simp))⟩
    · rw [show Lib.idxFunc (fun r => (r : Int) == 59) true signsS = 8 from hi] at hx
      clear hi
      go_enter Tryd.func107, Tryd.ntmps107
      go_wp2_with ((with_reducible refine hx.out.mono ?_); rintro e w' ⟨rfl, hb⟩)
      go_ret
      exact ⟨rfl, hB.trans (hb.mono (by simp))⟩
    · rw [show Lib.idxFunc (fun r => (r : Int) == 38) true signsS = 9 from hi] at hx
      clear hi
      go_enter Tryd.func107, Tryd.ntmps107
      go_wp2_with ((with_reducible refine hx.out.mono ?_); rintro e w' ⟨rfl, hb⟩)
      go_ret
      exact ⟨rfl, hB.trans (hb.mono (by simp))⟩
    · rw [show Lib.idxFunc (fun r => (r : Int) == 43) true signsS = 10 from hi] at hx
      clear hi
      go_enter Tryd.func107, Tryd.ntmps107
      go_wp2_with ((with_reducible refine hx.out.mono ?_); rintro e w' ⟨rfl, hb⟩)
      go_ret
      exact ⟨rfl, hB.trans (hb.mono (by simp))⟩
    · rw [show Lib.idxFunc (fun r => (r : Int) == 45) true signsS = 11 from hi] at hx
      clear hi
      go_enter Tryd.func107, Tryd.ntmps107
      go_wp2_with ((with_reducible refine hx.out.mono ?_); rintro e w' ⟨rfl, hb⟩)
      go_ret
      exact ⟨rfl, hB.trans (hb.mono (by simp))⟩
  · rw [if_neg hg]
    obtain ⟨h0, h1, h2, h3, h4, h5, h6, h7, h8, h9, h10, h11⟩ := sign_none n (by simpa using hg)
    simp only [h0, h1, h2, h3, h4, h5, h6, h7, h8, h9, h10, h11, Bool.false_eq_true, if_false] at hi
    rw [hi] at hx
    clear hi h0 h1 h2 h3 h4 h5 h6 h7 h8 h9 h10 h11
    go_enter Tryd.func107, Tryd.ntmps107
    go_wp2_with ((with_reducible refine hx.out.mono ?_); rintro e w' ⟨rfl, hb⟩)
    go_ret
    exact ⟨rfl, hB.trans (hb.mono (by simp))⟩
end Go.Proofs.YtkedifhlkiffoaaDoor
