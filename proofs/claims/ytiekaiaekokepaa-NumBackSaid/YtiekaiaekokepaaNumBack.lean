/-
  NumBack of stage 1 (the stage's theorem), at every input: the law's call returns true, for any two whole numbers, any text, any number of bytes; no condition.
-/
import Derived.Test.YtiekaiaekokepaaM
import Derived.Test.YtiekaiaekokepaaT
import Derived.ShutString
import Derived.ChangeOld
import Derived.Deep.DeepCutAuto
namespace Go.Proofs.Ytiekaiaekokepaa.numBack
open Go.ChangeShapes Go.WideShapes Go.ChangeAt Go.RowKit
open Go.ChangeMaps (open_string shut_string)
set_option linter.unusedVariables false
theorem own : ownKnob Try.prog.godebug = none := by kernel_rfl
theorem laidOut : laidOutB Try.prog = true := by kernel_rfl
/-- What a sum or a difference n comes to: (s, e). -/
def Came (n s e : Int) : Prop := (fits n = true ∧ s = n ∧ e = 0) ∨ (fits n = false ∧ s = 0 ∧ e = 12)
theorem came (n : Int) : Came n (only n) (code n) := by
  cases h : fits n
  · exact .inr ⟨h, only_not h, code_not h⟩
  · exact .inl ⟨h, only_fits h, code_fits h⟩
theorem read_came (l : List UInt8) : (readE l = 0 ∧ textB (readN l) = l ∧ fits (readN l) = true) ∨ (readE l ≠ 0 ∧ readN l = 0) := by
  by_cases h : readE l = 0
  · refine .inl ⟨h, text_read l h, ?_⟩
    unfold readN; split
    · exact fits_only _
    · decide
  · refine .inr ⟨h, ?_⟩
    unfold readE at h; unfold readN
    split
    · rename_i hf
      rw [if_pos hf] at h
      cases hv : fits (valT l)
      · exact only_not hv
      · exact absurd (code_fits hv) h
    · rfl
theorem take_is {base g k : Nat} {w : World} {zs : List Int} {n : Int} (h : w.ownsRow base 5 1 (.slice (some ⟨g, 0, none⟩) k k) k (U zs)) (hk : zs.length = k) (hk8 : k ≤ 8) (hz : ∀ z ∈ zs, isByte z) (hn : takeN (last7 zs) = n) :
    Calls Try.prog 21 #[.slice (some ⟨g, 0, none⟩) k k] w fun e w' => e = .returned (.int .i64 n) ∧ w = w' := by
  subst hk
  have := take_any (some ⟨g, 0, none⟩) zs.length zs w (ints_of_row h rfl) (by omega) (Nat.le_refl _) hz
  rwa [hn] at this
theorem wrap_pow (k : Nat) (h : k ≤ 7) : wrap64 (2 ^ (8 * k)) = 2 ^ (8 * k) := by
  have h1 : (2 : Nat) ^ (8 * k) ≤ 2 ^ 56 := Nat.pow_le_pow_right (by omega) (by omega)
  have h2 : ((2 ^ (8 * k) : Nat) : Int) ≤ ((2 ^ 56 : Nat) : Int) := by exact_mod_cast h1
  have h3 : ((2 ^ (8 * k) : Nat) : Int) = (2 : Int) ^ (8 * k) := by simp
  rw [h3] at h2
  have h4 : (0 : Int) ≤ 2 ^ (8 * k) := by rw [← h3]; exact Int.natCast_nonneg _
  unfold wrap64
  have : ((2 ^ 56 : Nat) : Int) = 72057594037927936 := by decide
  omega
theorem text_S (a : Int) (w : World) (ha : fits a = true) : Calls Try.prog 17 #[.int .i64 a] w fun e w' => e = .returned (S (textB a)) ∧ Below w.heap.size w w' := text_any a w ha
set_option maxRecDepth 100000 in
set_option maxHeartbeats 4000000 in
theorem back_short (a b bytes : Int) (l : List UInt8) (k : Nat) (w : World) (ha : fits a = true) (hb : fits b = true) (hl : l.length ≤ 100) (hk : k ≤ 8) (hby : Hid (bytes = k ∨ bytes < 0 ∧ k = 0 ∨ 8 < bytes ∧ k = 8)) (hbf : fits bytes = true) :
    Calls Try.prog 4 #[.int .i64 a, .int .i64 b, S l, .int .i64 bytes] w fun e w' => e = .returned (.bool true) ∧ Below w.heap.size w w' := by
  have hadd := Lib.hid (add_any a b w ha hb)
  have hsub := Lib.hid (sub_any a b w ha hb)
  have hs1 := Lib.hid (came (a + b))
  have hs2 := Lib.hid (came (a - b))
  generalize only (a + b) = s1 at *
  generalize code (a + b) = e1 at *
  generalize only (a - b) = s2 at *
  generalize code (a - b) = e2 at *
  have hA := Lib.hid ha
  have hBb := Lib.hid hb
  have hlen : decide ((100 : Int) < l.length) = false := by simp; omega
  clear ha hb
  go_enter Try.func4, Try.ntmps4
  go_wp2_with fail
  (with_reducible refine hadd.out.mono ?_)
  rintro e w' ⟨rfl, rfl⟩
  go_upto_if 33 with fail
  go_cut [] (fun wx => wx = w)
  case first =>
    rcases hs1.out with ⟨h1, rfl, rfl⟩ | ⟨h1, rfl, rfl⟩
    · have hc := Lib.hid (sub_is (a + b) b a 0 h1 hBb.out (by rw [show a + b - b = a by omega]; exact only_fits hA.out) (by rw [show a + b - b = a by omega]; exact code_fits hA.out) w)
      clear h1
      go_wp2_with fail
      (with_reducible refine hc.out.mono ?_)
      rintro e w' ⟨rfl, rfl⟩
      go_wp2_with fail
      go_meet
      rfl
    · clear h1
      go_wp2_with fail
      go_meet
      rfl
  case rest =>
    obtain rfl := hcut
    go_wp2_with fail
    (with_reducible refine hsub.out.mono ?_)
    rintro e w' ⟨rfl, rfl⟩
    go_upto_if 54 with fail
    go_cut [] (fun wx => wx = wc)
    case first =>
      rcases hs2.out with ⟨h1, rfl, rfl⟩ | ⟨h1, rfl, rfl⟩
      · have hc := Lib.hid (add_is (a - b) b a 0 h1 hBb.out (by rw [show a - b + b = a by omega]; exact only_fits hA.out) (by rw [show a - b + b = a by omega]; exact code_fits hA.out) wc)
        clear h1
        go_wp2_with fail
        (with_reducible refine hc.out.mono ?_)
        rintro e w' ⟨rfl, rfl⟩
        go_wp2_with fail
        go_meet
        rfl
      · clear h1
        go_wp2_with fail
        go_meet
        rfl
    case rest =>
      rename_i wd
      obtain rfl := hcut
      obtain ⟨hrt1, hrt2⟩ := read_text a hA.out
      have hrt := Lib.hid (fun w => read_is (textB a) a 0 (by have := textB_len a hA.out; omega) hrt1 hrt2 w)
      have htx := Lib.hid (fun w => text_S a w hA.out)
      clear hrt1 hrt2
      go_wp2_with fail
      (with_reducible refine (htx.out _).mono ?_)
      rintro e v1 ⟨rfl, hb1⟩
      go_wp2_with fail
      (with_reducible refine (hrt.out _).mono ?_)
      rintro e v2 ⟨rfl, hb2⟩
      go_upto_region 14 with fail
      go_cut [104] (fun t wx => t = .bool false ∧ wx = v2)
      case first =>
        rcases hs1.out with ⟨_, rfl, rfl⟩ | ⟨_, rfl, rfl⟩ <;> rcases hs2.out with ⟨_, rfl, rfl⟩ | ⟨_, rfl, rfl⟩
        all_goals
          go_wp2_with fail
          go_meet
          exact ⟨rfl, rfl⟩
      case rest =>
        obtain ⟨rfl, rfl⟩ := hcut
        have hR := Lib.hid (read_any l wc (by omega))
        have hrc := Lib.hid (read_came l)
        generalize readN l = rn at *
        generalize readE l = re at *
        go_wp2_with fail
        (with_reducible refine hR.out.mono ?_)
        rintro e v3 ⟨rfl, hb3⟩
        clear hR
        go_upto_region 17 with fail
        go_cut [125] (fun t wx => t = .bool false ∧ Below v3.heap.size v3 wx)
        case first =>
          rcases hrc.out with ⟨rfl, ht, hf⟩ | ⟨hne, rfl⟩
          · have htl := Lib.hid (text_S rn v3 hf)
            rw [ht] at htl
            clear ht hf
            go_wp2_with fail
            (with_reducible refine htl.out.mono ?_)
            rintro e v4 ⟨rfl, hb4⟩
            go_wp2_with fail
            go_meet
            exact ⟨by simp, hb4⟩
          · have hne1 : (re == 0) = false := by simpa using hne
            have hne2 : (re != 0) = true := by simpa using hne
            go_wp2_with fail
            go_meet
            exact ⟨rfl, Below.refl _ _⟩
        case rest =>
          obtain ⟨rfl, hb4⟩ := hcut
          have hP := Lib.hid (put_any a bytes k wc hA.out hk hby.out)
          go_wp2_with fail
          (with_reducible refine hP.out.mono ?_)
          rintro e v5 ⟨rfl, hr5, hb5⟩
          clear hP
          have hbl : Below _ _ v5 := hb1.trans ((hb2.mono (by have := hb1.size; omega)).trans ((hb3.mono (by have := hb1.size; have := hb2.size; omega)).trans ((hb4.mono (by have := hb1.size; have := hb2.size; have := hb3.size; omega)).trans (hb5.mono (by have := hb1.size; have := hb2.size; have := hb3.size; have := hb4.size; omega)))))
          have HT := Lib.hid (fun (h7 : k ≤ 7) (h0 : 0 ≤ a) (h1 : a < 2 ^ (8 * k)) => take_is hr5 (by simp [putL]) hk (putL_bytes a k) (take_put7 k h7 a h0 h1))
          clear hb1 hb2 hb3 hb4 hb5
          rcases hby.out with rfl | ⟨hn, rfl⟩ | ⟨hn, rfl⟩
          · by_cases h7 : k ≤ 7
            · have h7i : decide ((k : Int) ≤ 7) = true := by simp; omega
              by_cases h0 : 0 ≤ a
              · have h0i : decide ((0 : Int) ≤ a) = true := by simp; omega
                have hpw := wrap_pow k h7
                by_cases h1 : a < 2 ^ (8 * k)
                · have hT := Lib.hid (HT.out h7 h0 h1)
                  have h1i : decide (a < wrap64 (2 ^ (8 * k))) = true := by rw [hpw]; simpa using h1
                  clear hpw h1
                  go_wp2_with fail
                  (with_reducible refine hT.out.mono ?_)
                  rintro e v6 ⟨rfl, rfl⟩
                  clear hT HT
                  go_wp2_with fail
                  (with_reducible refine (wakes_any _).mono ?_)
                  rintro e v7 ⟨rfl, hb7⟩
                  go_wp2_with fail
                  go_ret
                  exact ⟨rfl, hbl.trans (hb7.mono hbl.size)⟩
                · have h1i : decide (a < wrap64 (2 ^ (8 * k))) = false := by rw [hpw]; simpa using h1
                  clear hpw h1
                  go_wp2_with fail
                  (with_reducible refine (wakes_any _).mono ?_)
                  rintro e v7 ⟨rfl, hb7⟩
                  go_wp2_with fail
                  go_ret
                  exact ⟨rfl, hbl.trans (hb7.mono hbl.size)⟩
              · have h0i : decide ((0 : Int) ≤ a) = false := by simp; omega
                go_wp2_with fail
                (with_reducible refine (wakes_any _).mono ?_)
                rintro e v7 ⟨rfl, hb7⟩
                go_wp2_with fail
                go_ret
                exact ⟨rfl, hbl.trans (hb7.mono hbl.size)⟩
            · have h7i : decide ((k : Int) ≤ 7) = false := by simp; omega
              go_wp2_with fail
              (with_reducible refine (wakes_any _).mono ?_)
              rintro e v7 ⟨rfl, hb7⟩
              go_wp2_with fail
              go_ret
              exact ⟨rfl, hbl.trans (hb7.mono hbl.size)⟩
          · have h7i : decide ((0 : Int) ≤ bytes) = false := by simp; omega
            go_wp2_with fail
            (with_reducible refine (wakes_any _).mono ?_)
            rintro e v7 ⟨rfl, hb7⟩
            go_wp2_with fail
            go_ret
            exact ⟨rfl, hbl.trans (hb7.mono hbl.size)⟩
          · have h7i : decide (bytes ≤ 7) = false := by simp; omega
            go_wp2_with fail
            (with_reducible refine (wakes_any _).mono ?_)
            rintro e v7 ⟨rfl, hb7⟩
            go_wp2_with fail
            go_ret
            exact ⟨rfl, hbl.trans (hb7.mono hbl.size)⟩

set_option maxRecDepth 100000 in
set_option maxHeartbeats 4000000 in
theorem back_long (a b bytes : Int) (l : List UInt8) (w : World) (h : 100 < l.length) (hl : l.length ≤ maxLen) :
    Calls Try.prog 4 #[.int .i64 a, .int .i64 b, S l, .int .i64 bytes] w fun e w' => e = .returned (.bool true) ∧ Below w.heap.size w w' := by
  have hlen : decide ((100 : Int) < l.length) = true := by simp; omega
  unfold maxLen at hl
  go_enter Try.func4, Try.ntmps4
  go_wp2_with fail
  (with_reducible refine (wakes_any _).mono ?_)
  rintro e w' ⟨rfl, hbl⟩
  go_wp2
  go_ret
  exact ⟨rfl, hbl⟩
theorem walk (a b : Int) (s : ByteArray) (bytes : Int) (w : World) (w0 : (Lit.int .i64 a).wf = true) (w1 : (Lit.int .i64 b).wf = true) (w2 : s.size ≤ maxLen) (w3 : (Lit.int .i64 bytes).wf = true) :
    Calls Try.prog 4 #[.int .i64 a, .int .i64 b, .string s, .int .i64 bytes] w fun e w' => e = .returned (.bool true) ∧ Below w.heap.size w w' := by
  have hs : (.string s : Value) = S s.data.toList := rfl
  have hsz : s.data.toList.length = s.size := by simp
  rw [hs]
  by_cases hl : s.data.toList.length ≤ 100
  · have hbf := fits_of_wf w3
    rcases Int.lt_or_le bytes 0 with h | h
    · exact back_short a b bytes _ 0 w (fits_of_wf w0) (fits_of_wf w1) hl (by omega) (.inr (.inl ⟨h, rfl⟩)) hbf
    · by_cases h8 : 8 < bytes
      · exact back_short a b bytes _ 8 w (fits_of_wf w0) (fits_of_wf w1) hl (by omega) (.inr (.inr ⟨h8, rfl⟩)) hbf
      · obtain ⟨k, rfl⟩ := Int.eq_ofNat_of_zero_le h
        exact back_short a b k _ k w (fits_of_wf w0) (fits_of_wf w1) hl (by omega) (.inl rfl) hbf
  · exact back_long a b bytes _ w (by omega) (by omega)
set_option maxRecDepth 100000 in
theorem lifted (os : Os) (started : os.Started) (H : Type) (enc : TypeId × Value → H) :
    ReturnsInHanded {} Try.checked os 4 .any (Rows.numBackSpec.pre6 enc Try.prog Try.f4 Rows.numBackRow.domain false) (Rows.numBackSpec.post enc Try.prog Try.f4 false true false false) := by
  refine returnsInHanded_of_change (C := Try.checked) own started (by kernel_rfl) Try.func4
    (ChangeSpec.witness6 (enc := enc) (C := Try.checked) false ⟨#[], #[.int .i64 0, .int .i64 0, .string ⟨#[]⟩, .int .i64 0], []⟩ 8 (by kernel_rfl) (by kernel_rfl) (by kernel_rfl) (by kernel_rfl)) ?_
  intro W base args ds gs before hval0 hW hcnd _
  have hval : ∀ (j : Nat) t v, Try.f4.params[j]? = some t → args[j]? = some v → Value.okWide Try.prog W .any base t v := hval0
  have hW' := hW
  obtain ⟨p, q, hA0, hV, rfl, hfz, hnd⟩ := hW
  have hA : DataW.TrodAll enc Try.prog W 0 (fun _ => true) true Try.f4.params.toList args.toList ds p := hA0
  rw [Try.params4] at hA hval
  obtain ⟨v0, vs0, d0, ds0, p0, q0, hargs, rfl, rfl, h0, r0⟩ := trodAll_cons hA
  obtain ⟨v1, vs1, d1, ds1, p1, q1, rfl, rfl, rfl, h1, r1⟩ := trodAll_cons r0
  obtain ⟨v2, vs2, d2, ds2, p2, q2, rfl, rfl, rfl, h2, r2⟩ := trodAll_cons r1
  obtain ⟨v3, vs3, d3, ds3, p3, q3, rfl, rfl, rfl, h3, r3⟩ := trodAll_cons r2
  obtain ⟨rfl, rfl, rfl⟩ := trodAll_nil r3
  obtain rfl : args = #[v0, v1, v2, v3] := by cases args; simp_all
  obtain ⟨rfl, rfl⟩ := trodVars_none hV
  obtain ⟨a0, rfl, rfl, rfl, w0⟩ := open_int Try.underlying3 (hval 0 3 v0 rfl rfl) h0
  obtain ⟨a1, rfl, rfl, rfl, w1⟩ := open_int Try.underlying3 (hval 1 3 v1 rfl rfl) h1
  obtain ⟨a2, rfl, rfl, rfl, w2⟩ := open_string Try.underlying9 (hval 2 9 v2 rfl rfl) h2
  obtain ⟨a3, rfl, rfl, rfl, w3⟩ := open_int Try.underlying3 (hval 3 3 v3 rfl rfl) h3
  clear hA0 hval0
  refine (walk a0 a1 a2 a3 W w0 w1 w2 w3).mono fun e W' ⟨he, bel⟩ => ?_
  subst he
  exact ⟨_, rfl, _, _, _, [], _, [], hW', trodAll_mk1 (shut_bool Try.underlying4 _), (trodAll_cons_mk (shut_int Try.underlying3 w0) (trodAll_cons_mk (shut_int Try.underlying3 w1) (trodAll_cons_mk (shut_string Try.underlying9 w2) (trodAll_cons_mk (shut_int Try.underlying3 w3) trodAll_mk0)))), rfl, bel.frame _, fun h => by cases h⟩

theorem over : Rows.numBackRow.holds Try.pinned (OpenSpec.ofChange Rows.numBackSpec) :=
  OpenClaim.holds_of_wide 4 Try.f4 rfl rfl rfl rfl rfl rfl rfl ⟨rfl, rfl, rfl, rfl, rfl⟩ rfl rfl rfl rfl rfl (by kernel_rfl) Try.func4 (by kernel_rfl)
    (of_decide_eq_true (by kernel_rfl)) (by unfold Func.isWrapper; first | (rw [if_pos (by decide +kernel)]; kernel_rfl) | (rw [if_neg (by decide +kernel)]; exact ⟨rfl, rfl⟩))
    (fun os started H enc _ => lifted os started H enc)

theorem proved : Rows.NumBackSaid := over
#print axioms proved
end Go.Proofs.Ytiekaiaekokepaa.numBack
