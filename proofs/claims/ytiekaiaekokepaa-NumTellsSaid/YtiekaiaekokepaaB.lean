/-
  Contract of num.Sum at every slice of whole numbers of 64 bits that lies in memory: the sum part by part, or 0 and the error; condition: at most 140737488351232 numbers.
-/
import Derived.Test.YtiekaiaekokepaaA
import Derived.WalkMore
import Derived.ScopeJumps
namespace Go.Proofs.Ytiekaiaekokepaa
open Go.ChangeShapes Go.WideShapes Go.ChangeAt Go.RowKit
set_option linter.unusedVariables false

theorem jump_ret {l : Nat} {J : Act → World → Prop} {Q : Exit → Act → World → Prop} {a : Act} {w : World} : Exit.jump l J Q .ret a w = Q .ret a w := rfl
/-- The integers zs lie in a row from a on. -/
def IntsAt (k : IntKind) (w : World) (a : Option Addr) (zs : List Int) : Prop :=
  zs = [] ∨ ∃ b off, a = some ⟨b, off, none⟩ ∧ b < w.heap.size ∧ ∀ i, i < zs.length → w.cell? ⟨b, off + i, none⟩ = some (.int k (zs[i]?.getD 0))

/-- The sum from n on: none where it runs over. -/
def sumS : Int → List Int → Option Int
  | n, [] => some n
  | n, x :: r => if fits (n + x) then sumS (n + x) r else none
def sumN (zs : List Int) : Int := (sumS 0 zs).getD 0
def sumE (zs : List Int) : Int := if (sumS 0 zs).isSome then 0 else 12

theorem sumS_take (zs : List Int) : ∀ (n m : Int) (k : Nat), k < zs.length → sumS n (zs.take k) = some m →
    sumS n (zs.take (k + 1)) = if fits (m + zs[k]?.getD 0) then some (m + zs[k]?.getD 0) else none := by
  induction zs with
  | nil => intro n m k h; simp at h
  | cons x r ih =>
    intro n m k hk h
    cases k with
    | zero => simp [sumS] at h ⊢; subst h; rfl
    | succ k =>
      simp only [List.take_succ_cons, sumS] at h ⊢
      split at h
      · rename_i hf; rw [if_pos hf]; simpa using ih _ _ k (by simpa using hk) h
      · cases h
theorem sumS_none (zs : List Int) : ∀ (n : Int) (k : Nat), sumS n (zs.take k) = none → sumS n zs = none := by
  induction zs with
  | nil => intro n k h; simp [sumS] at h
  | cons x r ih =>
    intro n k h
    cases k with
    | zero => simp [sumS] at h
    | succ k =>
      simp only [List.take_succ_cons, sumS] at h ⊢
      split at h
      · rename_i hf; rw [if_pos hf]; exact ih _ k h
      · rename_i hf; rw [if_neg hf]
theorem sumS_fits (zs : List Int) : ∀ (n m : Int), fits n = true → sumS n zs = some m → fits m = true := by
  induction zs with
  | nil => intro n m h e; simp [sumS] at e; rw [← e]; exact h
  | cons x r ih =>
    intro n m h e
    simp only [sumS] at e
    split at e
    · rename_i hf; exact ih _ _ hf e
    · cases e

set_option maxHeartbeats 400000 in
theorem sum_any (a : Option Addr) (cap : Nat) (zs : List Int) (w : World) (hz : IntsAt .i64 w a zs) (hl : zs.length ≤ 140737488351232) (hw : ∀ z ∈ zs, fits z = true) :
    Calls Try.prog 13 #[.slice a zs.length cap] w fun e w' => e = .returned (.tuple #[.int .i64 (sumN zs), .int .i64 (sumE zs)]) ∧ w = w' := by
  go_enter Try.func13, Try.ntmps13
  go_wp2
  refine wp_scope_jumps 0 (fun a' w' => w = w' ∧ sumS 0 zs = none ∧ a'.defers = [] ∧ ∃ s0 s1 s2 s3 s4 s6 s7 s8 s9 s10 s11 s12 s13 s14 s15 s16 s17 s18 s19 s20 s21 s22 s23 s24, a'.tmps = #[s0, s1, s2, s3, s4, .int .i64 12, s6, s7, s8, s9, s10, s11, s12, s13, s14, s15, s16, s17, s18, s19, s20, s21, s22, s23, s24]) (fun _ _ => 0) rfl ?_ ?_
  · go_wp2
    go_loop [4, 5, 10] (fun n e i => ∃ (k : Nat) (m : Int), k ≤ zs.length ∧ Hid (sumS 0 (zs.take k) = some m) ∧ i = .int .i64 k ∧ n = .int .i64 m ∧ e = .int .i64 0) (fun _ _ i => zs.length - (intOf i).toNat)
    case atStart => exact ⟨0, 0, Nat.zero_le _, rfl, rfl, rfl, rfl⟩
    case round =>
      obtain ⟨k, m, hk, hs, rfl, rfl, rfl⟩ := hrel
      by_cases hlt : k < zs.length
      · obtain ⟨b, off, rfl, _, hc⟩ : ∃ b off, a = some ⟨b, off, none⟩ ∧ b < w.heap.size ∧ ∀ i, i < zs.length → w.cell? ⟨b, off + i, none⟩ = some (.int .i64 (zs[i]?.getD 0)) := by
          rcases hz with rfl | h
          · simp at hlt
          · exact h
        have hck := hc k hlt
        have hzk : fits (zs[k]?.getD 0) = true := hw _ (by simp [hlt])
        have hfm := sumS_fits _ 0 m (by decide) hs.out
        have hst := Lib.hid (sumS_take zs 0 m k hlt hs.out)
        clear hc
        generalize zs[k]?.getD 0 = z at *
        cases hf : fits (m + z)
        · have hn : Hid (sumS 0 zs = none) := sumS_none zs 0 (k + 1) (by rw [hst.out, hf]; rfl)
          have h12 : Hid (code (m + z) = 12) := code_not hf
          clear hf
          go_wp2_with ((with_reducible refine (add_any _ _ _ hfm hzk).mono ?_); rintro e w' ⟨rfl, rfl⟩; rw [h12.out])
          go_step3
          exact ⟨rfl, rfl, hn, rfl, _, _, _, _, _, _, _, _, _, _, _, _, _, _, _, _, _, _, _, _, _, _, _, _, rfl⟩
        · have h0 : Hid (code (m + z) = 0 ∧ only (m + z) = m + z) := ⟨code_fits hf, only_fits hf⟩
          have hn : Hid (sumS 0 (zs.take (k + 1)) = some (m + z)) := by show _ = _; rw [hst.out, hf]; rfl
          clear hf
          go_wp2_with ((with_reducible refine (add_any _ _ _ hfm hzk).mono ?_); rintro e w' ⟨rfl, rfl⟩; rw [h0.out.1, h0.out.2])
          go_round
          case rel => exact ⟨k + 1, m + z, by omega, hn, by go_num, rfl, rfl⟩
          case measure => simp [intOf]; omega
      · obtain rfl : k = zs.length := by omega
        have hs' := hs.out
        rw [List.take_length] at hs'
        have HS := Lib.hid hs'
        clear hs' hs
        go_wp2
        rw [jump_ret]
        go_ret2
        exact ⟨ret2 (by simp [sumN, HS.out]) (by simp [sumE, HS.out]), rfl⟩
  · rintro ⟨t, d⟩ w2 ⟨rfl, hn, rfl, s0, s1, s2, s3, s4, s6, s7, s8, s9, s10, s11, s12, s13, s14, s15, s16, s17, s18, s19, s20, s21, s22, s23, s24, rfl⟩
    have HN := Lib.hid hn
    clear hn
    go_wp2
    rw [jump_ret]
    go_ret2
    exact ⟨ret2 (by simp [sumN, HN.out]) (by simp [sumE, HN.out]), rfl⟩
end Go.Proofs.Ytiekaiaekokepaa
