/-
  Contract of lex.Text at every token, where the ways of comparing lie as they are laid.
-/
import Derived.Test.YtkedifhlkiffoaaDoorLF
namespace Go.Proofs.YtkedifhlkiffoaaDoor
open Go.ChangeShapes Go.WideShapes Go.ChangeAt Go.RowKit
set_option linter.unusedVariables false
set_option linter.unusedSimpArgs false
attribute [local go_sem] Oper.semAt_some
abbrev lettersS : ByteArray := ⟨#[97, 98, 99, 100, 101, 102, 103, 104, 105, 106, 107, 108, 109, 110, 111, 112, 113, 114, 115, 116, 117, 118, 119, 120, 121, 122]⟩
theorem letter_is (n : Nat) (h : n < 26) : lettersS.extract n (n + 1) = ⟨#[u8 (97 + (n : Int))]⟩ := by
  apply ByteArray.ext
  have : ∀ n : Fin 26, (lettersS.extract n.val (n.val + 1)).data = #[u8 (97 + (n.val : Int))] := by decide +kernel
  exact this ⟨n, h⟩
theorem k_ne {k : Int} {c : Int} (h : k ≠ c) : (k == c) = false := by simpa using h
set_option maxHeartbeats 1000000 in
theorem lexText_any (t : Tk) (p : Int) (w : World) (ho : OpsAt w) (hf : fits t.n = true) : Calls Tryd.prog 90 #[tokV t p] w fun e w' => e = .returned (S (textT t)) ∧ Below w.heap.size w w' := by
  obtain ⟨k, n⟩ := t
  simp only at hf
  unfold tokV
  have hB0 := (Below.refl w.heap.size w).alloc (Nat.le_refl _) (.cells #[.int .u8 k, .int .i64 n, .int .i64 p] 35)
  have ho1 := ho.later hB0
  have hu1 := fun b hb => Lib.hid (upTo_is n 1099511627776 b hb (w.alloc (.cells #[.int .u8 k, .int .i64 n, .int .i64 p] 35)))
  have hu2 := fun b hb => Lib.hid (upTo_is n 25 b hb (w.alloc (.cells #[.int .u8 k, .int .i64 n, .int .i64 p] 35)))
  have hu4 := fun b hb => Lib.hid (upTo_is n 6 b hb (w.alloc (.cells #[.int .u8 k, .int .i64 n, .int .i64 p] 35)))
  by_cases h1 : k = 1
  · subst h1
    rw [textT1]
    clear hu2 hu4
    by_cases hb : 0 ≤ n ∧ n ≤ 1099511627776
    · rw [if_pos hb]
      have hu := hu1 true (Lib.hid (by simpa using hb))
      have ht := Lib.hid (text_any n (w.alloc (.cells #[.int .u8 1, .int .i64 n, .int .i64 p] 35)) hf)
      rw [str_textB] at ht
      clear hu1
      unfold S
      generalize (⟨(textB n).toArray⟩ : ByteArray) = s at *
      go_enter Tryd.func90, Tryd.ntmps90
      go_wp2_with (first | ((with_reducible refine hu.out.mono ?_); rintro e w' ⟨rfl, rfl⟩) | ((with_reducible refine ht.out.mono ?_); rintro e w' ⟨rfl, hb⟩))
      go_ret
      exact ⟨rfl, hB0.trans (hb.mono (by simp))⟩
    · rw [if_neg hb]
      have hu := hu1 false (Lib.hid (by symm; simpa using hb))
      clear hu1
      unfold S
      go_enter Tryd.func90, Tryd.ntmps90
      go_wp2_with (first | ((with_reducible refine hu.out.mono ?_); rintro e w' ⟨rfl, rfl⟩))
      go_ret
      exact ⟨rfl, hB0⟩
  have e1 := k_ne h1
  by_cases h2 : k = 2
  · subst h2
    rw [textT2]
    clear hu1 hu4
    by_cases hb : 0 ≤ n ∧ n ≤ 25
    · rw [if_pos hb]
      have hu := hu2 true (Lib.hid (by simpa using hb))
      obtain ⟨m, rfl⟩ : ∃ m : Nat, n = m := ⟨n.toNat, by omega⟩
      have hl := Lib.hid (letter_is m (by omega))
      have hm : (m : Int) < 26 := by omega
      have hm1 : (m : Int) ≤ (m : Int) + 1 := by omega
      have hm2 : (m : Int) + 1 ≤ (lettersS.size : Int) := by show _ ≤ ((26 : Nat) : Int); omega
      have hsl : ∀ w : World, _ := fun w => run_slice_string (P := Tryd.prog) w 9 lettersS .i64 .i64 (m : Int) ((m : Int) + 1) Tryd.underlying9 (by omega) hm1 hm2
      have hxx : ((m : Int) + 1).toNat = m + 1 := by omega
      rw [hxx, Int.toNat_natCast, hl.out] at hsl
      clear hu2
      unfold S
      go_enter Tryd.func90, Tryd.ntmps90
      go_wp2_with (first | ((with_reducible refine hu.out.mono ?_); rintro e w' ⟨rfl, rfl⟩))
      go_ret
      exact ⟨rfl, hB0⟩
    · rw [if_neg hb]
      have hu := hu2 false (Lib.hid (by symm; simpa using hb))
      clear hu2
      unfold S
      go_enter Tryd.func90, Tryd.ntmps90
      go_wp2_with (first | ((with_reducible refine hu.out.mono ?_); rintro e w' ⟨rfl, rfl⟩))
      go_ret
      exact ⟨rfl, hB0⟩
  have e2 := k_ne h2
  by_cases h3 : k = 3
  · subst h3
    rw [textT3]
    clear hu1 hu4 hu2
    by_cases hb : n = 0
    · rw [if_pos hb]
      subst hb
      unfold S withinL
      go_enter Tryd.func90, Tryd.ntmps90
      go_wp2
      go_ret
      exact ⟨rfl, hB0⟩
    · rw [if_neg hb]
      have hn := k_ne hb
      unfold S
      go_enter Tryd.func90, Tryd.ntmps90
      go_wp2
      go_ret
      exact ⟨rfl, hB0⟩
  have e3 := k_ne h3
  by_cases h4 : k = 4
  · subst h4
    rw [textT4]
    clear hu1 hu2
    by_cases hb : 0 ≤ n ∧ n ≤ 6
    · rw [if_pos hb]
      have hu := hu4 true (Lib.hid (by simpa using hb))
      obtain ⟨m, rfl⟩ : ∃ m : Nat, n = m := ⟨n.toNat, by omega⟩
      have hm : (m : Int) < 7 := by omega
      have hc : (w.alloc (.cells #[.int .u8 4, .int .i64 (m : Int), .int .i64 p] 35)).cell? ⟨3, m, none⟩ = some (.string ⟨(opT (m : Int)).toArray⟩) := ho1 m (by omega)
      clear hu4
      unfold S
      generalize (⟨(opT (m : Int)).toArray⟩ : ByteArray) = s at *
      go_enter Tryd.func90, Tryd.ntmps90
      go_wp2_with (first | ((with_reducible refine hu.out.mono ?_); rintro e w' ⟨rfl, rfl⟩))
      go_ret
      exact ⟨rfl, hB0⟩
    · rw [if_neg hb]
      have hu := hu4 false (Lib.hid (by symm; simpa using hb))
      clear hu4
      unfold S
      go_enter Tryd.func90, Tryd.ntmps90
      go_wp2_with (first | ((with_reducible refine hu.out.mono ?_); rintro e w' ⟨rfl, rfl⟩))
      go_ret
      exact ⟨rfl, hB0⟩
  have e4 := k_ne h4
  clear hu1 hu2 hu4
  by_cases h5 : k = 5
  · subst h5
    rw [textT5]
    have hs := Lib.hid (sign_any n (w.alloc (.cells #[.int .u8 5, .int .i64 n, .int .i64 p] 35)))
    unfold S at *
    generalize (⟨(signT n).toArray⟩ : ByteArray) = s at *
    go_enter Tryd.func90, Tryd.ntmps90
    go_wp2_with (first | ((with_reducible refine hs.out.mono ?_); rintro e w' ⟨rfl, hb⟩))
    go_ret
    exact ⟨rfl, hB0.trans (hb.mono (by simp))⟩
  have e5 := k_ne h5
  rw [show textT ⟨k, n⟩ = [] by unfold textT; simp [h1, h2, h3, h4, h5]]
  unfold S
  go_enter Tryd.func90, Tryd.ntmps90
  go_wp2
  go_ret
  exact ⟨rfl, hB0⟩
end Go.Proofs.YtkedifhlkiffoaaDoor
