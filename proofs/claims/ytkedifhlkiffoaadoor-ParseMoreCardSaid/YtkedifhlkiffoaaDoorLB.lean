/-
  Contracts of lex.upTo, lex.run at every text of at most 3000 bytes, of strings.HasPrefix, of the function that lex.sign hands to strings.IndexFunc.
-/
import Derived.Test.YtkedifhlkiffoaaDoorLA
import Derived.Test.YtkedifhlkiffoaaDoorAA
namespace Go.Proofs.YtkedifhlkiffoaaDoor
open Go.ChangeShapes Go.WideShapes Go.ChangeAt Go.RowKit
set_option linter.unusedVariables false
set_option linter.unusedSimpArgs false
attribute [local go_sem] Oper.semAt_some
set_option maxHeartbeats 400000 in
theorem upTo_is (n m : Int) (b : Bool) (hb : Hid (b = decide (0 ≤ n ∧ n ≤ m))) (w : World) : Calls Tryd.prog 108 #[.int .i64 n, .int .i64 m] w fun e w' => e = .returned (.bool b) ∧ w = w' := by
  go_enter Tryd.func108, Tryd.ntmps108
  by_cases h : 0 ≤ n
  · have e : Hid (decide (n ≤ m) = b) := by
      show _ = _
      rw [hb.out, decide_eq_decide]; omega
    go_wp2
    go_ret
    exact ⟨ret_bool e.out, rfl⟩
  · have e : Hid (false = b) := by
      show _ = _
      rw [hb.out]; symm; rw [decide_eq_false_iff_not]; omega
    go_wp2
    go_ret
    exact ⟨ret_bool e.out, rfl⟩
def intOf : Value → Int | .int _ q => q | _ => 0
theorem ext_take (l : Bs) (k : Nat) (h : k ≤ l.length) : (⟨l.toArray⟩ : ByteArray).extract 0 k = ⟨(l.take k).toArray⟩ := by
  apply ByteArray.ext
  simp [ByteArray.data_extract]
theorem ext_drop (l : Bs) (k : Nat) : (⟨l.toArray⟩ : ByteArray).extract k l.length = ⟨(l.drop k).toArray⟩ := by
  apply ByteArray.ext
  simp [ByteArray.data_extract]
  rw [List.take_of_length_le (by simp)]
theorem ext_zero (s : ByteArray) : s.extract 0 0 = ByteArray.empty := by
  apply ByteArray.ext
  simp [ByteArray.data_extract]
theorem ext_all (s : ByteArray) : s.extract 0 s.size = s := by
  apply ByteArray.ext
  rw [ByteArray.data_extract]
  exact Array.extract_size
theorem at_list (l : Bs) (k : Nat) (h : k < (⟨l.toArray⟩ : ByteArray).size) : (⟨l.toArray⟩ : ByteArray)[k] = l[k]'h := rfl
/-- Where a run ends. -/
theorem run_at (a b : Int) (l : Bs) (k : Nat) (hk : k ≤ l.length) (h : ∀ j (hj : j < l.length), j < k → inR a b l[j] = true) (he : k = l.length ∨ ∃ hk : k < l.length, inR a b l[k] = false) : runL a b l = l.take k := by
  unfold runL
  induction l generalizing k with
  | nil => simp at hk; subst hk; rfl
  | cons c r ih =>
    cases k with
    | zero =>
      rcases he with h0 | ⟨h0, h1⟩
      · cases h0
      · simp at h1; simp [h1]
    | succ k =>
      have hc : inR a b c = true := h 0 (by simp) (by omega)
      rw [List.takeWhile_cons, if_pos hc, List.take_succ_cons]
      congr 1
      refine ih k (by simpa using hk) (fun j hj hjk => by have := h (j + 1) (by simp; omega) (by omega); simpa using this) ?_
      rcases he with h0 | ⟨h0, h1⟩
      · left; simpa using h0
      · right; refine ⟨by simpa using h0, by simpa using h1⟩
set_option maxRecDepth 100000 in
set_option maxHeartbeats 1000000 in
theorem run_any (a b : Int) (l : Bs) (w : World) (hl : l.length ≤ 3000) : Calls Tryd.prog 88 #[S l, .int .u8 a, .int .u8 b] w fun e w' => e = .returned (S (runL a b l)) ∧ w = w' := by
  unfold S
  have hsz : (⟨l.toArray⟩ : ByteArray).size = l.length := rfl
  have HE : Hid (∀ k (hk : k ≤ l.length), (∀ j (hj : j < (⟨l.toArray⟩ : ByteArray).size), j < k → inR a b (⟨l.toArray⟩ : ByteArray)[j] = true) → (k = (⟨l.toArray⟩ : ByteArray).size ∨ ∃ hk : k < (⟨l.toArray⟩ : ByteArray).size, inR a b (⟨l.toArray⟩ : ByteArray)[k] = false) → (⟨l.toArray⟩ : ByteArray).extract 0 k = ⟨(runL a b l).toArray⟩) := by
    intro k hk h he
    rw [ext_take l k hk, run_at a b l k hk h he]
  generalize runL a b l = res at *
  generalize hs : (⟨l.toArray⟩ : ByteArray) = s at *
  generalize l.length = len at *
  subst hsz
  clear hs
  go_enter Tryd.func88, Tryd.ntmps88
  go_wp2
  have rnd : ∀ (k : Nat) (hk : k < s.size), (inR a b s[k] = true ↔ a ≤ (s[k].toNat : Int) ∧ (s[k].toNat : Int) ≤ b) := fun k hk => inR_iff _ _ _
  refine wp_scope_jumps 0 (fun a' w' => w' = w ∧ ∃ (k : Nat) (u3 u4 u5 u6 u8 u9 u10 u11 u12 u13 u14 u15 u16 u17 u18 u19 u20 u21 u22 u23 u24 u25 u26 u27 u28 u29 u30 : Value), a' = { tmps := #[.string s, .int .u8 a, .int .u8 b, u3, u4, u5, u6, .int .i64 (k : Int), u8, u9, u10, u11, u12, u13, u14, u15, u16, u17, u18, u19, u20, u21, u22, u23, u24, u25, u26, u27, u28, u29, u30], defers := [] } ∧ k ≤ s.size ∧ Hid (∀ j (hj : j < s.size), j < k → inR a b s[j] = true)) (fun a' _ => s.size - (intOf (a'.tmps.getD 7 undef)).toNat) rfl ?_ ?_
  · go_wp2
    go_step3
    by_cases hlt : 0 < s.size
    · have hlti : (0 : Int) < (s.size : Int) := by omega
      have hr := rnd 0 hlt
      by_cases ha : a ≤ (s[0].toNat : Int)
      · by_cases hb : (s[0].toNat : Int) ≤ b
        · have hin : Hid (inR a b s[0] = true) := hr.2 ⟨ha, hb⟩
          clear hr rnd
          go_wp2
          go_step3
          refine ⟨rfl, rfl, 1, _, _, _, _, _, _, _, _, _, _, _, _, _, _, _, _, _, _, _, _, _, _, _, _, _, _, _, rfl, by omega, fun j hj h => by
            obtain rfl : j = 0 := by omega
            exact hin.out⟩
        · have hin : Hid (inR a b s[0] = false) := by show _ = _; rw [← Bool.not_eq_true, hr]; omega
          clear hr rnd
          go_wp2
          simp only [Exit.jump]
          go_ret
          exact ⟨ret_str ((ext_zero s).symm.trans (HE.out 0 (by omega) (fun j hj h => by omega) (.inr ⟨hlt, hin.out⟩))), rfl⟩
      · have hin : Hid (inR a b s[0] = false) := by show _ = _; rw [← Bool.not_eq_true, hr]; omega
        clear hr rnd
        go_wp2
        simp only [Exit.jump]
        go_ret
        exact ⟨ret_str ((ext_zero s).symm.trans (HE.out 0 (by omega) (fun j hj h => by omega) (.inr ⟨hlt, hin.out⟩))), rfl⟩
    · have hlti : ¬ (0 : Int) < (s.size : Int) := by omega
      have hke : 0 = s.size := by omega
      go_wp2
      simp only [Exit.jump]
      go_ret
      exact ⟨ret_str ((ext_zero s).symm.trans (HE.out 0 (by omega) (fun j hj h => by omega) (.inl hke))), rfl⟩
  · rintro a' w' ⟨rfl, k, u3, u4, u5, u6, u8, u9, u10, u11, u12, u13, u14, u15, u16, u17, u18, u19, u20, u21, u22, u23, u24, u25, u26, u27, u28, u29, u30, rfl, hk, hp⟩
    by_cases hlt : k < s.size
    · have hlti : (k : Int) < (s.size : Int) := by omega
      have hr := rnd k hlt
      by_cases ha : a ≤ (s[k].toNat : Int)
      · by_cases hb : (s[k].toNat : Int) ≤ b
        · have hin : Hid (inR a b s[k] = true) := hr.2 ⟨ha, hb⟩
          clear hr rnd
          go_wp2
          go_step3
          refine ⟨rfl, ⟨rfl, k + 1, _, _, _, _, _, _, _, _, _, _, _, _, _, _, _, _, _, _, _, _, _, _, _, _, _, _, _, rfl, by omega, fun j hj h => by
            by_cases e : j = k
            · subst e; exact hin.out
            · exact hp.out j hj (by omega)⟩, by simp [intOf]; omega⟩
        · have hin : Hid (inR a b s[k] = false) := by show _ = _; rw [← Bool.not_eq_true, hr]; omega
          clear hr rnd
          go_wp2
          simp only [Exit.jump]
          go_ret
          exact ⟨ret_str ((HE.out k (by omega) hp.out (.inr ⟨hlt, hin.out⟩))), rfl⟩
      · have hin : Hid (inR a b s[k] = false) := by show _ = _; rw [← Bool.not_eq_true, hr]; omega
        clear hr rnd
        go_wp2
        simp only [Exit.jump]
        go_ret
        exact ⟨ret_str ((HE.out k (by omega) hp.out (.inr ⟨hlt, hin.out⟩))), rfl⟩
    · have hlti : ¬ (k : Int) < (s.size : Int) := by omega
      have hke : k = s.size := by omega
      go_wp2
      simp only [Exit.jump]
      go_ret
      have hE := HE.out k (by omega) hp.out (.inl hke)
      rw [hke, ext_all] at hE
      exact ⟨ret_str hE, rfl⟩
set_option maxHeartbeats 400000 in
theorem sgn_any (n : Int) (B : Nat) (r : Nat) (w : World) (hc : w.cell? ⟨B, 0, none⟩ = some (.int .i64 n)) (hr : r ≤ 1114111) : Calls Tryd.prog 120 #[.int .i32 r, .pointer (some ⟨B, 0, none⟩)] w fun e w' => e = .returned (.bool ((r : Int) == n)) ∧ w = w' := by
  go_enter Tryd.func120, Tryd.ntmps120
  go_wp2
  go_ret
  exact ⟨rfl, rfl⟩
set_option maxHeartbeats 400000 in
theorem has_l (l p : Bs) (w : World) (hl : l.length ≤ 3000) (hp : p.length ≤ 3000) : Calls Tryd.prog 125 #[S l, S p] w fun e w' => e = .returned (.bool (p.isPrefixOf l)) ∧ w = w' := by
  unfold S
  have h1 : (⟨l.toArray⟩ : ByteArray).size = l.length := rfl
  have h2 : (⟨p.toArray⟩ : ByteArray).size = p.length := rfl
  by_cases h : p.length ≤ l.length
  · have e := Lib.hid (ext_take l p.length h)
    go_enter Tryd.func125, Tryd.ntmps125
    go_wp2
    go_ret
    refine ⟨ret_bool ?_, rfl⟩
    rw [ByteArray.toList_eq, e.out]
    rw [Bool.eq_iff_iff, List.isPrefixOf_iff_prefix, List.prefix_iff_eq_take]
    rw [beq_iff_eq]
    exact eq_comm
  · have hn : p.isPrefixOf l = false := by
      rw [Bool.eq_false_iff]; intro hh
      exact h (List.isPrefixOf_iff_prefix.1 hh).length_le
    rw [hn]
    clear hn
    go_enter Tryd.func125, Tryd.ntmps125
    go_wp2
    go_ret
    exact ⟨rfl, rfl⟩
theorem has_any (l p : Bs) (w : World) (hl : l.length ≤ 3000) (hp : p.length ≤ 3000) : Calls Tryd.prog 118 #[S l, S p] w fun e w' => e = .returned (.bool (p.isPrefixOf l)) ∧ w = w' := by
  have h := has_l l p w hl hp
  unfold S at *
  generalize p.isPrefixOf l = b at *
  generalize (⟨l.toArray⟩ : ByteArray) = s at *
  generalize (⟨p.toArray⟩ : ByteArray) = t at *
  have h := Lib.hid h
  go_enter Tryd.func118, Tryd.ntmps118
  go_wp2_with ((with_reducible refine h.out.mono ?_); rintro e w' ⟨rfl, rfl⟩)
  go_ret
  exact ⟨rfl, rfl⟩
end Go.Proofs.YtkedifhlkiffoaaDoor
