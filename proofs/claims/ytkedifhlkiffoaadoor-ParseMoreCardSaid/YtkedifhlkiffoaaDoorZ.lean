/-
  Contract of the document's own answer straggleref01.Text at every whole number of 64 bits: it answers as num.Text does.
-/
import Derived.Maps.AppendAt
import Derived.Test.YtkedifhlkiffoaaDoorT
namespace Go.Proofs.YtkedifhlkiffoaaDoor
open Go.ChangeShapes Go.WideShapes Go.ChangeAt Go.RowKit
set_option linter.unusedVariables false
theorem conv_one (x : Int) (w : World) : (convert 42 9 (.slice (some ⟨w.heap.size, 0, none⟩) 1 1)).run Tryd.prog (w.alloc (.cells #[.int .u8 x] 5)) = .ok (.string ⟨#[u8 x]⟩) (w.alloc (.cells #[.int .u8 x] 5)) :=
  run_convert_bytes_arg (w.alloc (.cells #[.int .u8 x] 5)) 42 5 Tryd.underlying42 Tryd.underlying5 w.heap.size 0 1 1 [x] rfl (fun i hi => by
    obtain rfl : i = 0 := by omega
    rw [cell_of_row _ _ _ _ _ _ (World.alloc_heap_new w _)]; rfl) 9 Tryd.underlying9
theorem dgt_small (a : Int) (h0 : 0 ≤ a) (h9 : a < 10) : dgt a.toNat = [u8 (48 + a)] := by
  rw [dgt_last _ (by omega)]; congr 2; omega
theorem dgt_big (a : Int) (h : 10 ≤ a) : dgt a.toNat = dgt (a / 10).toNat ++ [u8 (48 + a % 10)] := by
  rw [dgt_more _ (by omega)]
  congr 2
  · congr 1; omega
  · congr 2; omega
theorem cat2 (l r : List UInt8) : ((⟨l.toArray⟩ : ByteArray) ++ (⟨r.toArray⟩ : ByteArray)) = ⟨(l ++ r).toArray⟩ := by
  apply ByteArray.ext
  rw [ByteArray.data_append]
  simp
theorem ret_str {s t : ByteArray} (h : s = t) : Ending.returned (.string s) = .returned (.string t) := by rw [h]
set_option maxRecDepth 100000 in
set_option maxHeartbeats 1000000 in
theorem textr_small (a : Int) (w : World) (h0 : 0 ≤ a) (h9 : a < 10) :
    Calls Tryd.prog 36 #[.int .i64 a] w fun e w' => e = .returned (S (dgt a.toNat)) ∧ Below w.heap.size w w' := by
  have hd := Lib.hid (dgt_small a h0 h9)
  have hconv := conv_one (48 + a) w
  have g0 : decide (0 ≤ a) = true := by simp; omega
  have g1 : decide (a < 10) = true := by simp; omega
  go_enter Tryd.func36, Tryd.ntmps36
  go_wp2_with fail
  go_ret
  exact ⟨ret_str (by rw [hd.out]), (Below.refl _ _).alloc (Nat.le_refl _) _⟩
set_option maxRecDepth 100000 in
set_option maxHeartbeats 1000000 in
theorem textr_pos (N : Nat) : ∀ (a : Int) (w : World), 0 ≤ a → a ≤ N → a ≤ 9223372036854775807 →
    Calls Tryd.prog 36 #[.int .i64 a] w fun e w' => e = .returned (S (dgt a.toNat)) ∧ Below w.heap.size w w' := by
  induction N with
  | zero => intro a w h0 hN _; exact textr_small a w h0 (by omega)
  | succ N ih =>
    intro a w h0 hN hm
    by_cases h9 : a < 10
    · exact textr_small a w h0 h9
    · have hd := Lib.hid (dgt_big a (by omega))
      have hl := lowN_len 19 (a / 10).toNat (by omega)
      have hl2 : (dgt (a / 10).toNat).length ≤ 20 := by simpa [dgt] using hl
      have h1 := Lib.hid (fun w => ih (a / 10) w (by omega) (by omega) (by omega))
      have h2 := Lib.hid (fun w => textr_small (a % 10) w (by omega) (by omega))
      rw [dgt_small (a % 10) (by omega) (by omega)] at h2
      have g0 : decide (0 ≤ a) = true := by simp; omega
      have g1 : decide (a < 10) = false := by simp; omega
      have g2 : decide (a < 0) = false := by simp; omega
      clear ih hl
      generalize dgt (a / 10).toNat = x at *
      generalize u8 (48 + a % 10) = c at *
      go_enter Tryd.func36, Tryd.ntmps36
      go_wp2_with fail
      (with_reducible refine (h1.out _).mono ?_)
      rintro e v1 ⟨rfl, hb1⟩
      go_wp2_with fail
      (with_reducible refine (h2.out _).mono ?_)
      rintro e v2 ⟨rfl, hb2⟩
      go_wp2_with fail
      go_ret
      exact ⟨ret_str (by rw [hd.out]; exact cat2 _ _), hb1.trans (hb2.mono hb1.size)⟩
theorem tdiv_neg (a : Int) (h : a < 0) : a.tdiv 10 = -(-a / 10) ∧ a.tmod 10 = -(-a % 10) := by
  obtain ⟨m, rfl⟩ : ∃ m : Int, a = -m := ⟨-a, by omega⟩
  rw [Int.neg_tdiv, Int.neg_tmod, Int.tdiv_eq_ediv_of_nonneg (by omega), Int.tmod_eq_emod_of_nonneg (by omega), Int.neg_neg]
  exact ⟨rfl, rfl⟩
set_option maxRecDepth 100000 in
set_option maxHeartbeats 1000000 in
theorem textr_neg (a : Int) (w : World) (h : a < 0) (hm : -9223372036854775808 ≤ a) :
    Calls Tryd.prog 36 #[.int .i64 a] w fun e w' => e = .returned (S (45 :: dgt a.natAbs)) ∧ Below w.heap.size w w' := by
  obtain ⟨t1, t2⟩ := tdiv_neg a h
  have g0 : decide (0 ≤ a) = false := by simp; omega
  have g2 : decide (a < 0) = true := by simp; omega
  have h2 := Lib.hid (fun w => textr_small (-a % 10) w (by omega) (by omega))
  rw [dgt_small (-a % 10) (by omega) (by omega)] at h2
  have ha : a.natAbs = (-a).toNat := by omega
  by_cases h9 : -a < 10
  · have hd := Lib.hid (dgt_small (-a) (by omega) h9)
    have e1 : -a / 10 = 0 := by omega
    have e2 : -a % 10 = -a := by omega
    rw [e1] at t1
    rw [e2] at t2 h2
    rw [ha]
    have hd' : Hid (45 :: dgt (-a).toNat = [45] ++ [u8 (48 + -a)]) := by show _ = _; rw [hd.out]; rfl
    clear e1 e2 ha hd
    generalize u8 (48 + -a) = c at *
    go_enter Tryd.func36, Tryd.ntmps36
    go_wp2_with fail
    (with_reducible refine (h2.out _).mono ?_)
    rintro e v2 ⟨rfl, hb2⟩
    go_wp2_with fail
    go_ret
    exact ⟨ret_str (by rw [hd'.out]; exact cat2 _ _), hb2⟩
  · have hd := Lib.hid (dgt_big (-a) (by omega))
    have h1 := Lib.hid (fun w => textr_pos (-a / 10).toNat (-a / 10) w (by omega) (by omega) (by omega))
    have hl := lowN_len 19 (-a / 10).toNat (by omega)
    have hl2 : (dgt (-a / 10).toNat).length ≤ 20 := by simpa [dgt] using hl
    have hne : (-a / 10 == 0) = false := by simp; omega
    have r0 : 0 < -a / 10 := by omega
    have r1 : -a / 10 ≤ 922337203685477580 := by omega
    have r2 : 0 ≤ -a % 10 := by omega
    have r3 : -a % 10 < 10 := by omega
    rw [ha]
    have hd' : Hid (45 :: dgt (-a).toNat = ([45] ++ dgt (-a / 10).toNat) ++ [u8 (48 + -a % 10)]) := by show _ = _; rw [hd.out]; rfl
    clear ha hd hl
    generalize dgt (-a / 10).toNat = x at *
    generalize u8 (48 + -a % 10) = c at *
    generalize -a / 10 = q at *
    generalize -a % 10 = r at *
    go_enter Tryd.func36, Tryd.ntmps36
    go_wp2_with fail
    (with_reducible refine (h1.out _).mono ?_)
    rintro e v1 ⟨rfl, hb1⟩
    go_wp2_with fail
    (with_reducible refine (h2.out _).mono ?_)
    rintro e v2 ⟨rfl, hb2⟩
    go_wp2_with fail
    go_ret
    exact ⟨ret_str (by rw [hd'.out, ← cat2, ← cat2]), hb1.trans (hb2.mono hb1.size)⟩
theorem textr_any (a : Int) (w : World) (ha : fits a = true) :
    Calls Tryd.prog 36 #[.int .i64 a] w fun e w' => e = .returned (S (textB a)) ∧ Below w.heap.size w w' := by
  rw [fits_iff] at ha
  rw [textB_eq]
  by_cases h : a < 0
  · rw [if_pos h]; exact textr_neg a w h ha.1
  · rw [if_neg h]
    have := textr_pos a.toNat a w (by omega) (by omega) ha.2
    rwa [show a.toNat = a.natAbs by omega] at this
end Go.Proofs.YtkedifhlkiffoaaDoor
