/-
  Contract of the document's own answer straggleref01.Read at every text of at most 3000 bytes: it answers as num.Read does.
-/
import Derived.Test.YtkedifhlkiffoaaDoorZ
import Derived.Deep.DeepCutAuto
namespace Go.Proofs.YtkedifhlkiffoaaDoor
open Go.ChangeShapes Go.WideShapes Go.ChangeAt Go.RowKit
set_option linter.unusedVariables false
theorem most_any (w : World) : Calls Tryd.prog 95 #[] w fun e w' => e = .returned (.int .i64 9223372036854775807) ∧ w = w' := by
  go_enter Tryd.func95, Tryd.ntmps95
  go_wp2
  go_ret
  exact ⟨rfl, rfl⟩
theorem beqn (x : UInt8) (n : Nat) (h : n < 256) : ((x.toNat : Int) == (n : Int)) = (x == UInt8.ofNat n) := by
  rw [Bool.eq_iff_iff]
  simp only [beq_iff_eq]
  constructor
  · intro e
    apply UInt8.toNat_inj.1
    rw [UInt8.toNat_ofNat']; omega
  · intro e
    rw [e, UInt8.toNat_ofNat']; omega
theorem tailx (x : UInt8) (r : List UInt8) : (⟨(x :: r).toArray⟩ : ByteArray).extract 1 (r.length + 1) = ⟨r.toArray⟩ := by
  apply ByteArray.ext
  rw [ByteArray.data_extract]
  apply Array.ext'
  simp
theorem streq {s t : ByteArray} (h : s = t) : Value.string s = .string t := by rw [h]
theorem below_len (l : List UInt8) : decide ((digs l).length < l.length) = below l := by
  cases l with
  | nil => rfl
  | cons x r =>
    by_cases h : x = 45
    · subst h; simp [digs, below]
    · simp [digs, below, h]
theorem stR_over (ys : List Int) : ∀ xs : List Int, (stR xs).2 = true → (stR (xs ++ ys)).2 = true := by
  induction ys with
  | nil => intro xs h; simpa using h
  | cons y r ih =>
    intro xs h
    rw [show xs ++ y :: r = (xs ++ [y]) ++ r by simp]
    apply ih
    rw [stR_snoc, stepR, if_pos (.inl h)]
/-- The digits up to j. -/
def dvs (s : ByteArray) (j : Nat) : List Int := (s.data.toList.take j).map digV
theorem dvs_succ (s : ByteArray) (j : Nat) (h : j < s.size) : dvs s (j + 1) = dvs s j ++ [digV s[j]] := by
  unfold dvs
  rw [List.take_succ_eq_append_getElem (by simpa using h), List.map_append]
  rfl
theorem dvs_full (s : ByteArray) : dvs s s.size = s.data.toList.map digV := by
  unfold dvs; rw [List.take_of_length_le (by simp)]
theorem digV_in (c : UInt8) (h : 0 ≤ digV c) : 48 ≤ c.toNat ∧ c.toNat ≤ 57 ∧ digV c = (c.toNat : Int) - 48 := by
  unfold digV at h ⊢
  split at h
  · rename_i hc; rw [if_pos hc]; exact ⟨hc.1, hc.2, rfl⟩
  · omega
theorem digV_out (c : UInt8) (h : ¬ 0 ≤ digV c) : ¬ (48 ≤ c.toNat ∧ c.toNat ≤ 57) := by
  intro hc; apply h; unfold digV; rw [if_pos hc]; omega
set_option maxRecDepth 100000 in
set_option maxHeartbeats 4000000 in
theorem readr_any (l : List UInt8) (w : World) (hl : l.length ≤ 3000) :
    Calls Tryd.prog 76 #[S l] w fun e w' => e = .returned (.tuple #[.int .i64 (readN l), .int .i64 (readE l)]) ∧ w = w' := by
  go_enter Tryd.func76, Tryd.ntmps76
  go_upto_region 2 with fail
  go_cut [18] (fun t wx => t = .bool (below l) ∧ w = wx)
  case first =>
    cases l with
    | nil =>
      go_wp2_with fail
      go_meet
      exact ⟨rfl, rfl⟩
    | cons x r =>
      go_wp2_with fail
      go_meet
      exact ⟨congrArg Value.bool (beqn x 45 (by decide)), rfl⟩
  case rest =>
    obtain ⟨rfl, rfl⟩ := hcut
    go_upto_if 18 with fail
    go_cut [4] (fun t wx => t = S (digs l) ∧ w = wx)
    case first =>
      cases hb : below l
      · have hd : digs l = l := by
          cases l with
          | nil => rfl
          | cons x r => simp [below] at hb; simp [digs, hb]
        have hd := Lib.hid hd
        go_wp2_with fail
        go_meet
        exact ⟨by rw [hd.out], rfl⟩
      · obtain ⟨r, rfl⟩ : ∃ r, l = 45 :: r := by
          cases l with
          | nil => cases hb
          | cons x r => simp [below] at hb; exact ⟨r, by rw [hb]⟩
        have hl1 : r.length + 1 ≤ 3000 := by simpa using hl
        go_wp2_with fail
        go_meet
        exact ⟨streq (tailx 45 r), rfl⟩
    case rest =>
      obtain ⟨rfl, rfl⟩ := hcut
      have hbl := Lib.hid (below_len l)
      obtain ⟨ds, hds⟩ : ∃ ds, digs l = ds := ⟨_, rfl⟩
      rw [hds] at hbl ⊢
      have hdl : ds.length ≤ 3000 := by rw [← hds]; exact Nat.le_trans (digs_len l) hl
      have HDS := Lib.hid hds
      clear hds
      go_upto_region 4 with fail
      go_cut [5] (fun t wx => t = .bool (below l) ∧ w = wx)
      case first =>
        go_wp2_with fail
        go_meet
        exact ⟨by rw [← hbl.out], rfl⟩
      case rest =>
        obtain ⟨rfl, rfl⟩ := hcut
        have hN : Hid (readN l = if formB l then only (valT l) else 0) := rfl
        have hE : Hid (readE l = if formB l then code (valT l) else 11) := rfl
        have hF : Hid (formB l = (!ds.isEmpty && !zahead (below l) ds && ds.all (fun c => decide (0 ≤ digV c)))) := by show _ = _; rw [formB, HDS.out]
        have hV : Hid (valT l = if below l then valN (ds.map digV) else -valN (ds.map digV)) := by show _ = _; rw [valT, HDS.out]
        clear hbl HDS
        generalize below l = b at *
        generalize formB l = fb at *
        generalize valT l = vt at *
        go_upto_region 5 with fail
        go_cut [41] (fun t wx => t = .bool (ds.isEmpty || zahead b ds) ∧ w = wx)
        case first =>
          cases ds with
          | nil =>
            go_wp2_with fail
            go_meet
            exact ⟨rfl, rfl⟩
          | cons d t =>
            by_cases h48 : d = 48
            · subst h48
              cases t with
              | nil =>
                go_wp2_with fail
                all_goals first
                  | (have hx : ¬ (((48 : UInt8).toNat : Int) = 48) := by assumption
                     exact absurd rfl hx)
                  | (go_meet
                     exact ⟨congrArg Value.bool (by cases b <;> rfl), rfl⟩)
              | cons d2 t2 =>
                have h1 : decide ((1 : Int) < (t2.length : Int) + 1 + 1) = true := by simp; omega
                go_wp2_with fail
                all_goals first
                  | (have hx : ¬ (((48 : UInt8).toNat : Int) = 48) := by assumption
                     exact absurd rfl hx)
                  | (go_meet
                     exact ⟨congrArg Value.bool (by cases b <;> rfl), rfl⟩)
            · have hb : ((d.toNat : Int) == 48) = false := by rw [show ((d.toNat : Int) == 48) = _ from beqn d 48 (by decide)]; simpa using h48
              have hzz : Hid (((d :: t).isEmpty || zahead b (d :: t)) = false) := by show _ = _; simp [zahead, h48]
              clear h48
              go_wp2_with fail
              all_goals first
                | (have hx : (d.toNat : Int) = 48 := by assumption
                   rw [hx] at hb; cases hb)
                | (go_meet
                   exact ⟨congrArg Value.bool hzz.out.symm, rfl⟩)
        case rest =>
          obtain ⟨rfl, rfl⟩ := hcut
          cases hz : (ds.isEmpty || zahead b ds)
          · obtain ⟨s, hs⟩ : ∃ s : ByteArray, s = ⟨ds.toArray⟩ := ⟨_, rfl⟩
            rw [show S ds = .string s by rw [hs]]
            have hsz : s.size ≤ 3000 := by rw [hs]; simpa [ByteArray.size] using hdl
            have hsl : s.data.toList = ds := by rw [hs]
            have hF2 : Hid (fb = s.data.toList.all (fun c => decide (0 ≤ digV c))) := by
              show _ = _
              rw [hF.out, ← Bool.not_or, hz, hsl]; rfl
            have hV2 : Hid (vt = if b then valN (dvs s s.size) else -valN (dvs s s.size)) := by
              show _ = _
              rw [hV.out, dvs_full, hsl]
            clear hs hdl hsl hF hV
            generalize (ds.isEmpty || zahead b ds) = zz at *
            subst hz
            go_wp2_with fail
            go_loop [6] (fun i => ∃ j : Nat, j ≤ s.size ∧ i = .int .i64 j ∧ Hid (∀ c ∈ s.data.toList.take j, 0 ≤ digV c)) (fun i => s.size - (intOf i).toNat)
            case atStart => exact ⟨0, Nat.zero_le _, rfl, by intro c hc; simp at hc⟩
            case round =>
              obtain ⟨j, hj, rfl, hall⟩ := hrel
              by_cases hlt : j < s.size
              · by_cases hd : 0 ≤ digV s[j]
                · have hnx : Hid (∀ c ∈ s.data.toList.take (j + 1), 0 ≤ digV c) := by
                    intro c hc
                    rw [List.take_succ_eq_append_getElem (by simpa using hlt)] at hc
                    rcases List.mem_append.1 hc with hc | hc
                    · exact hall.out c hc
                    · simp at hc; subst hc; exact hd
                  have hd2 := digV_in s[j] hd
                  have g1 : decide ((s[j].toNat : Int) < 48) = false := by simp; omega
                  have g2 : decide ((57 : Int) < s[j].toNat) = false := by simp; omega
                  clear hd hd2
                  go_wp2_with fail
                  exact ⟨⟨j + 1, by omega, by go_num, hnx⟩, by simp [intOf]; omega⟩
                · have hfb : Hid (fb = false) := by
                    show _ = _
                    rw [hF2.out, List.all_eq_false]
                    exact ⟨s[j], by rw [← Array.mem_def]; exact Array.getElem_mem hlt, by simpa using hd⟩
                  rw [hfb.out] at hN hE
                  have hd2 := digV_out s[j] hd
                  clear hd
                  by_cases h48 : (s[j].toNat : Int) < 48
                  · have g1 : decide ((s[j].toNat : Int) < 48) = true := by simpa using h48
                    go_wp2_with fail
                    go_ret2
                    exact ⟨ret2 hN.out.symm hE.out.symm, rfl⟩
                  · have g1 : decide ((s[j].toNat : Int) < 48) = false := by simpa using h48
                    have g2 : decide ((57 : Int) < s[j].toNat) = true := by simp; omega
                    go_wp2_with fail
                    go_ret2
                    exact ⟨ret2 hN.out.symm hE.out.symm, rfl⟩
              · obtain rfl : s.size = j := by omega
                rw [List.take_of_length_le (by simp)] at hall
                have hfb : fb = true := by
                  rw [hF2.out, List.all_eq_true]
                  intro c hc; simpa using hall.out c hc
                rw [hfb, if_pos rfl] at hN hE
                have hdg : Hid (∀ j (h : j < s.size), 0 ≤ digV s[j]) := fun j h => hall.out _ (by rw [← Array.mem_def]; exact Array.getElem_mem h)
                have hrng : Hid (∀ d ∈ dvs s s.size, 0 ≤ d ∧ d ≤ 9) := by
                  intro d hd
                  rw [dvs_full] at hd
                  simp only [List.mem_map] at hd
                  obtain ⟨y, hy, rfl⟩ := hd
                  exact ⟨hall.out y hy, (digV_bd y).2⟩
                have HN := Lib.hid hN
                have HE := Lib.hid hE
                clear hN hE hF2 hfb hall
                go_wp2_with fail
                go_loop [7, 8] (fun n i => ∃ (j : Nat) (m : Int), j ≤ s.size ∧ i = .int .i64 j ∧ n = .int .i64 m ∧ Hid (stR (dvs s j) = (m, false)) ∧ -9223372036854775808 ≤ m ∧ m ≤ 0) (fun _ i => s.size - (intOf i).toNat)
                case atStart => exact ⟨0, 0, Nat.zero_le _, rfl, rfl, rfl, by omega, by omega⟩
                case round =>
                  obtain ⟨j, m, hj, rfl, rfl, hst, hm1, hm2⟩ := hrel
                  by_cases hlt : j < s.size
                  · have hd0 := hdg.out j hlt
                    obtain ⟨h48, h57, hdv⟩ := digV_in s[j] hd0
                    have hnx := Lib.hid (dvs_succ s j hlt)
                    have hle := leastOf_eq (digV s[j]) hd0 (digV_bd s[j]).2
                    have hle2 : leastOf ((s[j].toNat : Int) - 48) = (-9223372036854775808 + ((s[j].toNat : Int) - 48)).tdiv 10 := rfl
                    rw [hdv] at hle hnx
                    by_cases hov : m < leastOf ((s[j].toNat : Int) - 48)
                    · have hover : Hid ((stR (dvs s s.size)).2 = true) := by
                        show _ = _
                        have h1 : (stR (dvs s (j + 1))).2 = true := by rw [hnx.out, stR_snoc, hst.out, stepR, if_pos (.inr hov)]
                        have h2 : dvs s s.size = dvs s (j + 1) ++ (s.data.toList.drop (j + 1)).map digV := by
                          rw [dvs_full, dvs, ← List.map_append, List.take_append_drop]
                        rw [h2]; exact stR_over _ _ h1
                      have hnf : fits vt = false := by
                        have h3 := (stR_val _ hrng.out).1 hover.out
                        rw [hV2.out, not_fits]
                        split <;> omega
                      rw [only_not hnf] at HN
                      rw [code_not hnf] at HE
                      have g1 : decide (m < (-9223372036854775808 + ((s[j].toNat : Int) - 48)).tdiv 10) = true := by rw [← hle2]; simpa using hov
                      have i48 : (48 : Int) ≤ s[j].toNat := by omega
                      have i57 : (s[j].toNat : Int) ≤ 57 := by omega
                      clear hov hle hle2 hdv hd0 h48 h57 hnf
                      go_wp2_with ((with_reducible refine (most_any _).mono ?_); rintro e w' ⟨rfl, rfl⟩)
                      go_ret2
                      exact ⟨ret2 HN.out.symm HE.out.symm, rfl⟩
                    · have hst2 : Hid (stR (dvs s (j + 1)) = (m * 10 - ((s[j].toNat : Int) - 48), false)) := by
                        show _ = _
                        rw [hnx.out, stR_snoc, hst.out, stepR, if_neg (by simp; omega)]
                      have g1 : decide (m < (-9223372036854775808 + ((s[j].toNat : Int) - 48)).tdiv 10) = false := by rw [← hle2]; simpa using hov
                      have g2 : decide (m * 10 < -9223372036854775808 + ((s[j].toNat : Int) - 48)) = false := by simp; omega
                      obtain ⟨q1, q2⟩ : -9223372036854775808 ≤ m * 10 - ((s[j].toNat : Int) - 48) ∧ m * 10 - ((s[j].toNat : Int) - 48) ≤ 0 := by omega
                      have i48 : (48 : Int) ≤ s[j].toNat := by omega
                      have i57 : (s[j].toNat : Int) ≤ 57 := by omega
                      have q3 : -9223372036854775808 ≤ m * 10 := by omega
                      clear hov hle hle2 hdv hd0 h48 h57
                      go_wp2_with ((with_reducible refine (most_any _).mono ?_); rintro e w' ⟨rfl, rfl⟩)
                      exact ⟨⟨j + 1, _, by omega, by go_num, rfl, hst2, q1, q2⟩, by simp [intOf]; omega⟩
                  · obtain rfl : s.size = j := by omega
                    have hval := (stR_val _ hrng.out).2 (by rw [hst.out])
                    rw [hst.out] at hval
                    dsimp only at hval
                    rw [hval] at hV2
                    clear hval hst hrng hdg
                    cases b
                    · by_cases hmm : m = -9223372036854775808
                      · have hnf : fits vt = false := by rw [hV2.out, not_fits]; simp; omega
                        rw [only_not hnf] at HN
                        rw [code_not hnf] at HE
                        have g1 : (m == -9223372036854775808) = true := by simpa using hmm
                        have HM := Lib.hid hmm
                        clear hmm hnf
                        go_wp2_with ((with_reducible refine (most_any _).mono ?_); rintro e w' ⟨rfl, rfl⟩)
                        go_ret2
                        exact ⟨ret2 HN.out.symm HE.out.symm, rfl⟩
                      · have hf : fits vt = true := by rw [hV2.out, fits_iff]; simp; omega
                        rw [only_fits hf, hV2.out] at HN
                        rw [code_fits hf] at HE
                        have g1 : (m == -9223372036854775808) = false := by simpa using hmm
                        have g3 : -9223372036854775808 < m := by omega
                        clear hmm hf
                        go_wp2_with ((with_reducible refine (most_any _).mono ?_); rintro e w' ⟨rfl, rfl⟩)
                        go_ret2
                        exact ⟨ret2 HN.out.symm HE.out.symm, rfl⟩
                    · have hf : fits vt = true := by rw [hV2.out, fits_iff]; simp; omega
                      rw [only_fits hf, hV2.out] at HN
                      rw [code_fits hf] at HE
                      clear hf
                      go_wp2_with ((with_reducible refine (most_any _).mono ?_); rintro e w' ⟨rfl, rfl⟩)
                      go_ret2
                      exact ⟨ret2 HN.out.symm HE.out.symm, rfl⟩
          · have hff : Hid (fb = false) := by
              show _ = _
              rw [hF.out, ← Bool.not_or, hz]; rfl
            rw [hff.out] at hN hE
            go_wp2_with fail
            go_ret2
            exact ⟨ret2 hN.out.symm hE.out.symm, rfl⟩
end Go.Proofs.YtkedifhlkiffoaaDoor
