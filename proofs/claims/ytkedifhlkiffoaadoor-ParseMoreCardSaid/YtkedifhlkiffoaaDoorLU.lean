/-
  Contract of the document's own Text at every token: the bytes that tell it, or nothing.
-/
import Derived.Test.YtkedifhlkiffoaaDoorLS
import Derived.RegionTactic
import Derived.BigRegion
import Derived.Deep.RegionWith
namespace Go.Proofs.YtkedifhlkiffoaaDoor
open Go.ChangeShapes Go.WideShapes Go.ChangeAt Go.RowKit
set_option linter.unusedVariables false
set_option linter.unusedSimpArgs false
attribute [local go_sem] Oper.semAt_some
def codesL : List Int := [2, 4, 6, 1, 3, 5]
theorem codes_none (n : Int) (h : ∀ j (hj : j < 6), codesL[j]'hj ≠ n) : (if 0 ≤ n ∧ n ≤ 6 then opT n else []) = [] := by
  have h0 := h 0 (by omega); have h1 := h 1 (by omega); have h2 := h 2 (by omega); have h3 := h 3 (by omega); have h4 := h 4 (by omega); have h5 := h 5 (by omega)
  simp only [codesL, List.getElem_cons_zero, List.getElem_cons_succ] at h0 h1 h2 h3 h4 h5
  split
  · obtain rfl : n = 0 := by omega
    rfl
  · rfl
set_option maxRecDepth 100000 in
set_option maxHeartbeats 4000000 in
theorem refText_op (n p : Int) (w : World) : Calls Tryd.prog 20 #[.agg #[.int .u8 4, .int .i64 n, .int .i64 p]] w fun e w' => e = .returned (S (if 0 ≤ n ∧ n ≤ 6 then opT n else [])) ∧ Below w.heap.size w w' := by
  have hT1 : TokBox w.heap.size 4 n p (w.alloc (.cells #[.int .u8 4, .int .i64 n, .int .i64 p] 35)) := TokBox.new w 4 n p
  have hB1 : Below w.heap.size w (w.alloc (.cells #[.int .u8 4, .int .i64 n, .int .i64 p] 35)) := (Below.refl _ _).alloc (Nat.le_refl _) _
  obtain ⟨V, hV0⟩ : ∃ V, (if 0 ≤ n ∧ n ≤ 6 then opT n else []) = V := ⟨_, rfl⟩
  rw [hV0]
  have hV := Lib.hid hV0
  clear hV0
  go_enter Tryd.func20, Tryd.ntmps20
  go_wp2_with fail
  generalize w.alloc (.cells #[.int .u8 4, .int .i64 n, .int .i64 p] 35) = w1 at *
  go_loopw [3] (fun t wr => ∃ i : Nat, i ≤ 6 ∧ t = .int .i64 i ∧ Hid (∀ j (hj : j < 6), j < i → codesL[j]'hj ≠ n) ∧ Below w1.heap.size w1 wr) (fun t _ => 6 - (intOf t).toNat)
  case atStart => exact ⟨0, by omega, rfl, fun j hj h => by omega, Below.refl _ _⟩
  case round =>
    obtain ⟨i, hi, rfl, hin, hbr⟩ := hrel
    have hT2 := hT1.later hbr
    have hB2 := hB1.trans (hbr.mono hB1.size)
    obtain ⟨z0, z1, z2⟩ := hT2.cells
    by_cases hlt : i < 6
    · have h6 : i = 0 ∨ i = 1 ∨ i = 2 ∨ i = 3 ∨ i = 4 ∨ i = 5 := by omega
      rcases h6 with rfl | rfl | rfl | rfl | rfl | rfl
      · have HI := ix47_0
        have HJ := ix45_0
        have hwr : IntKind.wrap .i64 2 = 2 := by decide
        by_cases hW : n = 2
        · have hW' := Lib.hid hW
          subst hW
          obtain rfl : V = [60, 61] := by rw [← hV.out]; rfl
          clear hin hV hW' hT1 hB1
          go_wp2_with fail
          go_region_with ((with_reducible refine (refCodes_any _).mono ?_); rintro e w2 ⟨rfl, hb2⟩; have y1 := bcell ((Below.refl wr.heap.size wr).drew.trans hb2) z1)
          all_goals
            have hB3 := hB2.trans (((Below.refl wr.heap.size wr).drew.trans hb2).mono hB2.size)
            go_wp2_with fail
            (with_reducible refine (refOps_any w2).mono ?_)
            rintro e w3 ⟨rfl, hb3⟩
            go_wp2_with fail
            go_ret
            exact ⟨rfl, hB3.trans (hb3.mono hB3.size)⟩
        · have hnext : Hid (∀ j (hj : j < 6), j < 0 + 1 → codesL[j]'hj ≠ n) := fun j hj h => by
            by_cases hji : j = 0
            · subst hji; exact fun h => hW h.symm
            · exact hin.out j hj (by omega)
          have hne : (n == 2) = false := by simpa using hW
          clear hin hW hV
          go_wp2_with fail
          go_region_with ((with_reducible refine (refCodes_any _).mono ?_); rintro e w2 ⟨rfl, hb2⟩; have y1 := bcell ((Below.refl wr.heap.size wr).drew.trans hb2) z1)
          all_goals
            have hb3 := hbr.trans (((Below.refl wr.heap.size wr).drew.trans hb2).mono hbr.size)
            go_wp2_with fail
            exact ⟨⟨0 + 1, by omega, by go_num, hnext.out, hb3⟩, by simp [intOf]⟩
      · have HI := ix47_1
        have HJ := ix45_1
        have hwr : IntKind.wrap .i64 4 = 4 := by decide
        by_cases hW : n = 4
        · have hW' := Lib.hid hW
          subst hW
          obtain rfl : V = [33, 61] := by rw [← hV.out]; rfl
          clear hin hV hW' hT1 hB1
          go_wp2_with fail
          go_region_with ((with_reducible refine (refCodes_any _).mono ?_); rintro e w2 ⟨rfl, hb2⟩; have y1 := bcell ((Below.refl wr.heap.size wr).drew.trans hb2) z1)
          all_goals
            have hB3 := hB2.trans (((Below.refl wr.heap.size wr).drew.trans hb2).mono hB2.size)
            go_wp2_with fail
            (with_reducible refine (refOps_any w2).mono ?_)
            rintro e w3 ⟨rfl, hb3⟩
            go_wp2_with fail
            go_ret
            exact ⟨rfl, hB3.trans (hb3.mono hB3.size)⟩
        · have hnext : Hid (∀ j (hj : j < 6), j < 1 + 1 → codesL[j]'hj ≠ n) := fun j hj h => by
            by_cases hji : j = 1
            · subst hji; exact fun h => hW h.symm
            · exact hin.out j hj (by omega)
          have hne : (n == 4) = false := by simpa using hW
          clear hin hW hV
          go_wp2_with fail
          go_region_with ((with_reducible refine (refCodes_any _).mono ?_); rintro e w2 ⟨rfl, hb2⟩; have y1 := bcell ((Below.refl wr.heap.size wr).drew.trans hb2) z1)
          all_goals
            have hb3 := hbr.trans (((Below.refl wr.heap.size wr).drew.trans hb2).mono hbr.size)
            go_wp2_with fail
            exact ⟨⟨1 + 1, by omega, by go_num, hnext.out, hb3⟩, by simp [intOf]⟩
      · have HI := ix47_2
        have HJ := ix45_2
        have hwr : IntKind.wrap .i64 6 = 6 := by decide
        by_cases hW : n = 6
        · have hW' := Lib.hid hW
          subst hW
          obtain rfl : V = [62, 61] := by rw [← hV.out]; rfl
          clear hin hV hW' hT1 hB1
          go_wp2_with fail
          go_region_with ((with_reducible refine (refCodes_any _).mono ?_); rintro e w2 ⟨rfl, hb2⟩; have y1 := bcell ((Below.refl wr.heap.size wr).drew.trans hb2) z1)
          all_goals
            have hB3 := hB2.trans (((Below.refl wr.heap.size wr).drew.trans hb2).mono hB2.size)
            go_wp2_with fail
            (with_reducible refine (refOps_any w2).mono ?_)
            rintro e w3 ⟨rfl, hb3⟩
            go_wp2_with fail
            go_ret
            exact ⟨rfl, hB3.trans (hb3.mono hB3.size)⟩
        · have hnext : Hid (∀ j (hj : j < 6), j < 2 + 1 → codesL[j]'hj ≠ n) := fun j hj h => by
            by_cases hji : j = 2
            · subst hji; exact fun h => hW h.symm
            · exact hin.out j hj (by omega)
          have hne : (n == 6) = false := by simpa using hW
          clear hin hW hV
          go_wp2_with fail
          go_region_with ((with_reducible refine (refCodes_any _).mono ?_); rintro e w2 ⟨rfl, hb2⟩; have y1 := bcell ((Below.refl wr.heap.size wr).drew.trans hb2) z1)
          all_goals
            have hb3 := hbr.trans (((Below.refl wr.heap.size wr).drew.trans hb2).mono hbr.size)
            go_wp2_with fail
            exact ⟨⟨2 + 1, by omega, by go_num, hnext.out, hb3⟩, by simp [intOf]⟩
      · have HI := ix47_3
        have HJ := ix45_3
        have hwr : IntKind.wrap .i64 1 = 1 := by decide
        by_cases hW : n = 1
        · have hW' := Lib.hid hW
          subst hW
          obtain rfl : V = [60] := by rw [← hV.out]; rfl
          clear hin hV hW' hT1 hB1
          go_wp2_with fail
          go_region_with ((with_reducible refine (refCodes_any _).mono ?_); rintro e w2 ⟨rfl, hb2⟩; have y1 := bcell ((Below.refl wr.heap.size wr).drew.trans hb2) z1)
          all_goals
            have hB3 := hB2.trans (((Below.refl wr.heap.size wr).drew.trans hb2).mono hB2.size)
            go_wp2_with fail
            (with_reducible refine (refOps_any w2).mono ?_)
            rintro e w3 ⟨rfl, hb3⟩
            go_wp2_with fail
            go_ret
            exact ⟨rfl, hB3.trans (hb3.mono hB3.size)⟩
        · have hnext : Hid (∀ j (hj : j < 6), j < 3 + 1 → codesL[j]'hj ≠ n) := fun j hj h => by
            by_cases hji : j = 3
            · subst hji; exact fun h => hW h.symm
            · exact hin.out j hj (by omega)
          have hne : (n == 1) = false := by simpa using hW
          clear hin hW hV
          go_wp2_with fail
          go_region_with ((with_reducible refine (refCodes_any _).mono ?_); rintro e w2 ⟨rfl, hb2⟩; have y1 := bcell ((Below.refl wr.heap.size wr).drew.trans hb2) z1)
          all_goals
            have hb3 := hbr.trans (((Below.refl wr.heap.size wr).drew.trans hb2).mono hbr.size)
            go_wp2_with fail
            exact ⟨⟨3 + 1, by omega, by go_num, hnext.out, hb3⟩, by simp [intOf]⟩
      · have HI := ix47_4
        have HJ := ix45_4
        have hwr : IntKind.wrap .i64 3 = 3 := by decide
        by_cases hW : n = 3
        · have hW' := Lib.hid hW
          subst hW
          obtain rfl : V = [61] := by rw [← hV.out]; rfl
          clear hin hV hW' hT1 hB1
          go_wp2_with fail
          go_region_with ((with_reducible refine (refCodes_any _).mono ?_); rintro e w2 ⟨rfl, hb2⟩; have y1 := bcell ((Below.refl wr.heap.size wr).drew.trans hb2) z1)
          all_goals
            have hB3 := hB2.trans (((Below.refl wr.heap.size wr).drew.trans hb2).mono hB2.size)
            go_wp2_with fail
            (with_reducible refine (refOps_any w2).mono ?_)
            rintro e w3 ⟨rfl, hb3⟩
            go_wp2_with fail
            go_ret
            exact ⟨rfl, hB3.trans (hb3.mono hB3.size)⟩
        · have hnext : Hid (∀ j (hj : j < 6), j < 4 + 1 → codesL[j]'hj ≠ n) := fun j hj h => by
            by_cases hji : j = 4
            · subst hji; exact fun h => hW h.symm
            · exact hin.out j hj (by omega)
          have hne : (n == 3) = false := by simpa using hW
          clear hin hW hV
          go_wp2_with fail
          go_region_with ((with_reducible refine (refCodes_any _).mono ?_); rintro e w2 ⟨rfl, hb2⟩; have y1 := bcell ((Below.refl wr.heap.size wr).drew.trans hb2) z1)
          all_goals
            have hb3 := hbr.trans (((Below.refl wr.heap.size wr).drew.trans hb2).mono hbr.size)
            go_wp2_with fail
            exact ⟨⟨4 + 1, by omega, by go_num, hnext.out, hb3⟩, by simp [intOf]⟩
      · have HI := ix47_5
        have HJ := ix45_5
        have hwr : IntKind.wrap .i64 5 = 5 := by decide
        by_cases hW : n = 5
        · have hW' := Lib.hid hW
          subst hW
          obtain rfl : V = [62] := by rw [← hV.out]; rfl
          clear hin hV hW' hT1 hB1
          go_wp2_with fail
          go_region_with ((with_reducible refine (refCodes_any _).mono ?_); rintro e w2 ⟨rfl, hb2⟩; have y1 := bcell ((Below.refl wr.heap.size wr).drew.trans hb2) z1)
          all_goals
            have hB3 := hB2.trans (((Below.refl wr.heap.size wr).drew.trans hb2).mono hB2.size)
            go_wp2_with fail
            (with_reducible refine (refOps_any w2).mono ?_)
            rintro e w3 ⟨rfl, hb3⟩
            go_wp2_with fail
            go_ret
            exact ⟨rfl, hB3.trans (hb3.mono hB3.size)⟩
        · have hnext : Hid (∀ j (hj : j < 6), j < 5 + 1 → codesL[j]'hj ≠ n) := fun j hj h => by
            by_cases hji : j = 5
            · subst hji; exact fun h => hW h.symm
            · exact hin.out j hj (by omega)
          have hne : (n == 5) = false := by simpa using hW
          clear hin hW hV
          go_wp2_with fail
          go_region_with ((with_reducible refine (refCodes_any _).mono ?_); rintro e w2 ⟨rfl, hb2⟩; have y1 := bcell ((Below.refl wr.heap.size wr).drew.trans hb2) z1)
          all_goals
            have hb3 := hbr.trans (((Below.refl wr.heap.size wr).drew.trans hb2).mono hbr.size)
            go_wp2_with fail
            exact ⟨⟨5 + 1, by omega, by go_num, hnext.out, hb3⟩, by simp [intOf]⟩
    · obtain rfl : i = 6 := by omega
      obtain rfl : V = [] := by rw [← hV.out]; exact codes_none n (fun j hj => hin.out j hj hj)
      go_wp2_with fail
      go_ret
      exact ⟨rfl, hB2⟩
theorem isSign_bd {n : Int} (h : isSign n = true) : 0 ≤ n ∧ n < 256 := by
  unfold isSign at h
  obtain ⟨c, _, hc⟩ := List.any_eq_true.1 h
  have := c.toNat_lt
  simp at hc; omega
set_option maxRecDepth 100000 in
set_option maxHeartbeats 4000000 in
theorem refText_any (t : Tk) (p : Int) (w : World) (hf : fits t.n = true) : Calls Tryd.prog 20 #[tokV t p] w fun e w' => e = .returned (S (textT t)) ∧ Below w.heap.size w w' := by
  obtain ⟨k, n⟩ := t
  simp only at hf
  unfold tokV
  have hB0 := (Below.refl w.heap.size w).alloc (Nat.le_refl _) (.cells #[.int .u8 k, .int .i64 n, .int .i64 p] 35)
  have hcell : ∀ k : Int, (w.alloc (.cells #[.int .u8 k, .int .i64 n, .int .i64 p] 35)).heap.size = w.heap.size + 1 := fun k => World.size_alloc _ _
  by_cases h1 : k = 1
  · subst h1
    rw [textT1]
    by_cases hb : 0 ≤ n
    · by_cases hc : n ≤ 1099511627776
      · rw [if_pos ⟨hb, hc⟩]
        have ht := Lib.hid (textr_any n (w.alloc (.cells #[.int .u8 1, .int .i64 n, .int .i64 p] 35)) hf)
        unfold S at *
        generalize (⟨(textB n).toArray⟩ : ByteArray) = s at *
        go_enter Tryd.func20, Tryd.ntmps20
        go_wp2_with fail
        (with_reducible refine ht.out.mono ?_)
        rintro e w' ⟨rfl, hb⟩
        go_wp2
        go_ret
        exact ⟨rfl, hB0.trans (hb.mono hB0.size)⟩
      · rw [if_neg (fun h => hc h.2)]
        unfold S
        go_enter Tryd.func20, Tryd.ntmps20
        go_wp2
        go_ret
        exact ⟨rfl, hB0⟩
    · rw [if_neg (fun h => hb h.1)]
      unfold S
      go_enter Tryd.func20, Tryd.ntmps20
      go_wp2
      go_ret
      exact ⟨rfl, hB0⟩
  have e1 := k_ne h1
  by_cases h2 : k = 2
  · subst h2
    rw [textT2]
    by_cases hb : 0 ≤ n
    · by_cases hc : n < 26
      · rw [if_pos ⟨hb, by omega⟩]
        have hw1 : wrap64 (97 + n) = 97 + n := by unfold wrap64; omega
        have hw2 : IntKind.wrap .u8 (97 + n) = 97 + n := by simp [IntKind.wrap, IntKind.bits, IntKind.signed]; omega
        have hcv := conv_one (97 + n) (w.alloc (.cells #[.int .u8 2, .int .i64 n, .int .i64 p] 35))
        rw [World.size_alloc] at hcv
        have hB3 := hB0.alloc hB0.size (.cells #[.int .u8 (97 + n)] 5)
        unfold S
        rw [show [u8 (97 + n)].toArray = #[u8 (97 + n)] from rfl]
        go_enter Tryd.func20, Tryd.ntmps20
        go_wp2_with fail
        go_ret
        exact ⟨rfl, hB3⟩
      · rw [if_neg (fun h => hc (by omega))]
        unfold S
        go_enter Tryd.func20, Tryd.ntmps20
        go_wp2
        go_ret
        exact ⟨rfl, hB0⟩
    · rw [if_neg (fun h => hb h.1)]
      unfold S
      go_enter Tryd.func20, Tryd.ntmps20
      go_wp2
      go_ret
      exact ⟨rfl, hB0⟩
  have e2 := k_ne h2
  by_cases h3 : k = 3
  · subst h3
    rw [textT3]
    by_cases hb : n = 0
    · rw [if_pos hb]
      subst hb
      unfold S withinL
      go_enter Tryd.func20, Tryd.ntmps20
      go_wp2
      go_ret
      exact ⟨rfl, hB0⟩
    · rw [if_neg hb]
      have hn := k_ne hb
      unfold S
      go_enter Tryd.func20, Tryd.ntmps20
      go_wp2
      go_ret
      exact ⟨rfl, hB0⟩
  have e3 := k_ne h3
  by_cases h4 : k = 4
  · subst h4
    rw [textT4]
    exact refText_op n p w
  have e4 := k_ne h4
  by_cases h5 : k = 5
  · subst h5
    rw [textT5]
    unfold signT
    by_cases hb : 0 ≤ n
    · by_cases hc : n < 256
      · have hw2 : IntKind.wrap .u8 n = n := by simp [IntKind.wrap, IntKind.bits, IntKind.signed]; omega
        cases hs : isSign n
        · have hr := Lib.hid (refSign_any n false (w.alloc (.cells #[.int .u8 5, .int .i64 n, .int .i64 p] 35)) (Lib.hid hs))
          rw [if_neg (by decide)]
          unfold S
          clear hs
          go_enter Tryd.func20, Tryd.ntmps20
          go_wp2_with fail
          (with_reducible refine hr.out.mono ?_)
          rintro e w' ⟨rfl, rfl⟩
          go_wp2_with fail
          go_ret
          exact ⟨rfl, hB0⟩
        · have hr := Lib.hid (refSign_any n true (w.alloc (.cells #[.int .u8 5, .int .i64 n, .int .i64 p] 35)) (Lib.hid hs))
          rw [if_pos rfl]
          have hcv := conv_one n (w.alloc (.cells #[.int .u8 5, .int .i64 n, .int .i64 p] 35))
          rw [World.size_alloc] at hcv
          have hB3 := hB0.alloc hB0.size (.cells #[.int .u8 n] 5)
          unfold S
          rw [show [u8 n].toArray = #[u8 n] from rfl]
          clear hs
          go_enter Tryd.func20, Tryd.ntmps20
          go_wp2_with fail
          (with_reducible refine hr.out.mono ?_)
          rintro e w' ⟨rfl, rfl⟩
          go_wp2_with fail
          go_ret
          exact ⟨rfl, hB3⟩
      · rw [if_neg (fun h => hc (isSign_bd h).2)]
        unfold S
        go_enter Tryd.func20, Tryd.ntmps20
        go_wp2
        go_ret
        exact ⟨rfl, hB0⟩
    · rw [if_neg (fun h => hb (isSign_bd h).1)]
      unfold S
      go_enter Tryd.func20, Tryd.ntmps20
      go_wp2
      go_ret
      exact ⟨rfl, hB0⟩
  have e5 := k_ne h5
  rw [show textT ⟨k, n⟩ = [] by unfold textT; simp [h1, h2, h3, h4, h5]]
  unfold S
  go_enter Tryd.func20, Tryd.ntmps20
  go_wp2
  go_ret
  exact ⟨rfl, hB0⟩
end Go.Proofs.YtkedifhlkiffoaaDoor
