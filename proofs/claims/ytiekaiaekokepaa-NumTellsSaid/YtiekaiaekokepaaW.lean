/-
  Contracts of the document's own answers for layer 1 (straggleref01): Add, Sub, Sum, Take and Put answer as those of package num do.
-/
import Derived.Test.YtiekaiaekokepaaM
namespace Go.Proofs.Ytiekaiaekokepaa
open Go.ChangeShapes Go.WideShapes Go.ChangeAt Go.RowKit
set_option linter.unusedVariables false
theorem most_any (w : World) : Calls Try.prog 24 #[] w fun e w' => e = .returned (.int .i64 9223372036854775807) ∧ w = w' := by
  go_enter Try.func24, Try.ntmps24
  go_wp2
  go_ret
  exact ⟨rfl, rfl⟩
set_option maxHeartbeats 1000000 in
theorem over_any (a b : Int) (w : World) (ha : fits a = true) (hb : fits b = true) :
    Calls Try.prog 23 #[.int .i64 a, .int .i64 b] w fun e w' => e = .returned (.bool (!fits (a + b))) ∧ w = w' := by
  rw [fits_iff] at ha hb
  obtain ⟨ha, ha'⟩ := ha
  obtain ⟨hb, hb'⟩ := hb
  rcases Int.lt_trichotomy b 0 with h | rfl | h
  · have g0 : decide (0 < b) = false := by simp; omega
    have g1 : decide (b < 0) = true := by simp; omega
    have g2 : Hid (decide (a < -9223372036854775808 - b) = !fits (a + b)) := by show _ = _; unfold fits; rw [← decide_not, decide_eq_decide]; omega
    go_enter Try.func23, Try.ntmps23
    go_wp2_with ((with_reducible refine (most_any _).mono ?_); rintro e w' ⟨rfl, rfl⟩)
    go_ret
    exact ⟨ret_bool g2.out, rfl⟩
  · have hf : Hid (fits (a + 0) = true) := by show _ = _; rw [fits_iff]; omega
    go_enter Try.func23, Try.ntmps23
    go_wp2_with ((with_reducible refine (most_any _).mono ?_); rintro e w' ⟨rfl, rfl⟩)
    go_ret
    exact ⟨by rw [hf.out]; rfl, rfl⟩
  · have g0 : decide (0 < b) = true := by simp; omega
    have g1 : decide (b < 0) = false := by simp; omega
    cases hf : fits (a + b)
    · have g2 : decide (9223372036854775807 - b < a) = true := by rw [not_fits] at hf; simp; omega
      clear hf
      go_enter Try.func23, Try.ntmps23
      go_wp2_with ((with_reducible refine (most_any _).mono ?_); rintro e w' ⟨rfl, rfl⟩)
      go_ret
      exact ⟨rfl, rfl⟩
    · have g2 : decide (9223372036854775807 - b < a) = false := by rw [fits_iff] at hf; simp; omega
      clear hf
      go_enter Try.func23, Try.ntmps23
      go_wp2_with ((with_reducible refine (most_any _).mono ?_); rintro e w' ⟨rfl, rfl⟩)
      go_ret
      exact ⟨rfl, rfl⟩
set_option maxHeartbeats 1000000 in
theorem addr_any (a b : Int) (w : World) (ha : fits a = true) (hb : fits b = true) :
    Calls Try.prog 10 #[.int .i64 a, .int .i64 b] w fun e w' => e = .returned (.tuple #[.int .i64 (only (a + b)), .int .i64 (code (a + b))]) ∧ w = w' := by
  have ho := over_any a b w ha hb
  cases hf : fits (a + b)
  · rw [only_not hf, code_not hf]
    rw [hf] at ho
    have ho := Lib.hid ho
    clear hf
    go_enter Try.func10, Try.ntmps10
    go_wp2_with ((with_reducible refine ho.out.mono ?_); rintro e w' ⟨rfl, rfl⟩)
    go_ret2
    exact ⟨rfl, rfl⟩
  · rw [only_fits hf, code_fits hf]
    rw [hf] at ho
    have ho := Lib.hid ho
    rw [fits_iff] at hf
    obtain ⟨h1, h2⟩ := hf
    go_enter Try.func10, Try.ntmps10
    go_wp2_with ((with_reducible refine ho.out.mono ?_); rintro e w' ⟨rfl, rfl⟩)
    go_ret2
    exact ⟨rfl, rfl⟩
set_option maxHeartbeats 1000000 in
theorem subr_any (a b : Int) (w : World) (ha : fits a = true) (hb : fits b = true) :
    Calls Try.prog 12 #[.int .i64 a, .int .i64 b] w fun e w' => e = .returned (.tuple #[.int .i64 (only (a - b)), .int .i64 (code (a - b))]) ∧ w = w' := by
  rw [fits_iff] at ha hb
  obtain ⟨ha, ha'⟩ := ha
  obtain ⟨hb, hb'⟩ := hb
  cases hf : fits (a - b)
  · rw [only_not hf, code_not hf]
    rw [not_fits] at hf
    rcases Int.lt_trichotomy b 0 with h | rfl | h
    · have g0 : decide (0 < b) = false := by simp; omega
      have g1 : decide (b < 0) = true := by simp; omega
      have g2 : decide (9223372036854775807 + b < a) = true := by simp; omega
      clear hf
      go_enter Try.func12, Try.ntmps12
      go_wp2_with ((with_reducible refine (most_any _).mono ?_); rintro e w' ⟨rfl, rfl⟩)
      go_ret2
      exact ⟨rfl, rfl⟩
    · omega
    · have g0 : decide (0 < b) = true := by simp; omega
      have g1 : decide (b < 0) = false := by simp; omega
      have g2 : decide (a < -9223372036854775808 + b) = true := by simp; omega
      clear hf
      go_enter Try.func12, Try.ntmps12
      go_wp2_with ((with_reducible refine (most_any _).mono ?_); rintro e w' ⟨rfl, rfl⟩)
      go_ret2
      exact ⟨rfl, rfl⟩
  · rw [only_fits hf, code_fits hf]
    rw [fits_iff] at hf
    obtain ⟨h1, h2⟩ := hf
    rcases Int.lt_trichotomy b 0 with h | rfl | h
    · have g0 : decide (0 < b) = false := by simp; omega
      have g1 : decide (b < 0) = true := by simp; omega
      have g2 : decide (9223372036854775807 + b < a) = false := by simp; omega
      go_enter Try.func12, Try.ntmps12
      go_wp2_with ((with_reducible refine (most_any _).mono ?_); rintro e w' ⟨rfl, rfl⟩)
      go_ret2
      exact ⟨rfl, rfl⟩
    · go_enter Try.func12, Try.ntmps12
      go_wp2_with ((with_reducible refine (most_any _).mono ?_); rintro e w' ⟨rfl, rfl⟩)
      go_ret2
      exact ⟨ret2 (by omega) rfl, rfl⟩
    · have g0 : decide (0 < b) = true := by simp; omega
      have g1 : decide (b < 0) = false := by simp; omega
      have g2 : decide (a < -9223372036854775808 + b) = false := by simp; omega
      go_enter Try.func12, Try.ntmps12
      go_wp2_with ((with_reducible refine (most_any _).mono ?_); rintro e w' ⟨rfl, rfl⟩)
      go_ret2
      exact ⟨rfl, rfl⟩
set_option maxHeartbeats 1000000 in
theorem sumr_any (a : Option Addr) (cap : Nat) (zs : List Int) (w : World) (hz : IntsAt .i64 w a zs) (hl : zs.length ≤ 140737488351232) (hw : ∀ z ∈ zs, fits z = true) :
    Calls Try.prog 14 #[.slice a zs.length cap] w fun e w' => e = .returned (.tuple #[.int .i64 (sumN zs), .int .i64 (sumE zs)]) ∧ w = w' := by
  go_enter Try.func14, Try.ntmps14
  go_wp2
  go_loop [4, 5] (fun n i => ∃ (k : Nat) (m : Int), k ≤ zs.length ∧ Hid (sumS 0 (zs.take k) = some m) ∧ i = .int .i64 k ∧ n = .int .i64 m) (fun _ i => zs.length - (intOf i).toNat)
  case atStart => exact ⟨0, 0, Nat.zero_le _, rfl, rfl, rfl⟩
  case round =>
    obtain ⟨k, m, hk, hs, rfl, rfl⟩ := hrel
    by_cases hlt : k < zs.length
    · obtain ⟨b, off, rfl, _, hc⟩ : ∃ b off, a = some ⟨b, off, none⟩ ∧ b < w.heap.size ∧ ∀ i, i < zs.length → w.cell? ⟨b, off + i, none⟩ = some (.int .i64 (zs[i]?.getD 0)) := by
        rcases hz with rfl | h
        · simp at hlt
        · exact h
      have hck := hc k hlt
      have hzk : fits (zs[k]?.getD 0) = true := hw _ (by simp [hlt])
      have hfm := sumS_fits _ 0 m (by decide) hs.out
      have hst := Lib.hid (sumS_take zs 0 m k hlt hs.out)
      clear hc
      generalize zs[k]?.getD 0 = z at *
      cases hf : fits (m + z)
      · have hn : Hid (sumS 0 zs = none) := sumS_none zs 0 (k + 1) (by rw [hst.out, hf]; rfl)
        have h12 : Hid (code (m + z) = 12) := code_not hf
        clear hf
        go_wp2_with ((with_reducible refine (addr_any _ _ _ hfm hzk).mono ?_); rintro e w' ⟨rfl, rfl⟩; rw [h12.out])
        go_ret2
        exact ⟨ret2 (by simp [sumN, hn.out]) (by simp [sumE, hn.out]), rfl⟩
      · have h0 : Hid (code (m + z) = 0 ∧ only (m + z) = m + z) := ⟨code_fits hf, only_fits hf⟩
        have hn : Hid (sumS 0 (zs.take (k + 1)) = some (m + z)) := by show _ = _; rw [hst.out, hf]; rfl
        clear hf
        go_wp2_with ((with_reducible refine (addr_any _ _ _ hfm hzk).mono ?_); rintro e w' ⟨rfl, rfl⟩; rw [h0.out.1, h0.out.2])
        go_round
        case rel => exact ⟨k + 1, m + z, by omega, hn, by go_num, rfl⟩
        case measure => simp [intOf]; omega
    · obtain rfl : k = zs.length := by omega
      have hs' := hs.out
      rw [List.take_length] at hs'
      have HS := Lib.hid hs'
      clear hs' hs
      go_wp2
      go_ret2
      exact ⟨ret2 (by simp [sumN, HS.out]) (by simp [sumE, HS.out]), rfl⟩
end Go.Proofs.Ytiekaiaekokepaa
