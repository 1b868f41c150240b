/-
  Contracts of lex.first at every text of at most 3000 bytes and of lex.Text at every token.
-/
import Derived.Test.YtkedifhlkiffoaaDoorLF
namespace Go.Proofs.YtkedifhlkiffoaaDoor
open Go.ChangeShapes Go.WideShapes Go.ChangeAt Go.RowKit
set_option linter.unusedVariables false
set_option linter.unusedSimpArgs false
attribute [local go_sem] Oper.semAt_some
theorem list_nil (l : Bs) : (⟨l.toArray⟩ : ByteArray).toList = l := by rw [ByteArray.toList_eq]
set_option maxHeartbeats 400000 in
theorem first_any (l : Bs) (w : World) (hl : l.length ≤ 3000) (ho : OpsAt w) : Calls Tryd.prog 89 #[S l] w fun e w' => e = .returned (tokV (firstT l) 0) ∧ Below w.heap.size w w' := by
  have hB0 := (Below.refl w.heap.size w).alloc (Nat.le_refl _) (.cells #[.int .u8 0, .int .i64 0, .int .i64 0] 35)
  have hT0 := TokBox.new w 0 0 0
  have ho1 := ho.later hB0
  have hz : (⟨l.toArray⟩ : ByteArray).toList = l := list_nil l
  have h1 := Lib.hid (run_any 48 57 l (w.alloc (.cells #[.int .u8 0, .int .i64 0, .int .i64 0] 35)) hl)
  have h2 := Lib.hid (run_any 97 122 l (w.alloc (.cells #[.int .u8 0, .int .i64 0, .int .i64 0] 35)) hl)
  have h3 := Lib.hid (longest_any l (w.alloc (.cells #[.int .u8 0, .int .i64 0, .int .i64 0] 35)) hl ho1)
  have hF : firstT l = firstT l := rfl
  conv at hF => rhs; unfold firstT
  generalize firstT l = res at *
  obtain ⟨c0, c1, c2⟩ := hT0.cells
  have f0 := hT0.frozen 0
  have f1 := hT0.frozen 1
  have f2 := hT0.frozen 2
  by_cases hl0 : l = []
  · subst hl0
    rw [if_pos rfl] at hF
    subst hF
    clear h1 h2 h3
    go_enter Tryd.func89, Tryd.ntmps89
    go_wp2
    refine TokBox.ret (Q := fun e w' => e = .returned (tokV ⟨0, 0⟩ 0) ∧ Below w.heap.size w w') (TokBox.new w _ _ _) rfl rfl rfl ⟨rfl, (Below.refl _ w).alloc (Nat.le_refl _) _⟩
  · rw [if_neg hl0] at hF
    have hne : l.isEmpty = false := by simpa using hl0
    have hm1 := run_len 48 57 l
    have hm2 := run_len 97 122 l
    have hmm := run_mem 97 122 l
    have hn := Lib.hid (number_any (runL 48 57 l) (w.alloc (.cells #[.int .u8 0, .int .i64 0, .int .i64 0] 35)) (by omega))
    generalize runL 48 57 l = d at *
    by_cases hd : d = []
    · subst hd
      rw [if_neg (by simp)] at hF
      clear hn hm1
      generalize runL 97 122 l = a at *
      by_cases ha : a = []
      · subst ha
        rw [if_neg (by simp)] at hF
        clear hmm hm2
        have hgb := longL_bd l
        have hsg := Lib.hid (sign_any ((l[0]?.getD 0).toNat : Int) (w.alloc (.cells #[.int .u8 0, .int .i64 0, .int .i64 0] 35)))
        unfold signT at hsg
        generalize longL l = g at *
        by_cases hg : 0 < g
        · rw [if_pos hg] at hF
          subst hF
          clear hsg
          have hT1 := hT0
          have hB1 := hB0
          unfold S at *
          go_enter Tryd.func89, Tryd.ntmps89
          go_wp2_with (first | ((with_reducible refine h1.out.mono ?_); rintro e w' ⟨rfl, rfl⟩) | ((with_reducible refine h2.out.mono ?_); rintro e w' ⟨rfl, rfl⟩) | ((with_reducible refine h3.out.mono ?_); rintro e w' ⟨rfl, rfl⟩))
          refine TokBox.ret (Q := fun e w' => e = .returned (tokV ⟨4, g⟩ 0) ∧ Below w.heap.size w w') (TokBox.new w _ _ _) rfl rfl rfl ⟨rfl, (Below.refl _ w).alloc (Nat.le_refl _) _⟩
        · rw [if_neg hg] at hF
          have hlt : 0 < l.length := List.length_pos_iff.2 hl0
          obtain ⟨s, hss, hlt, hb0, hse, hse2⟩ : ∃ s : ByteArray, (⟨l.toArray⟩ : ByteArray) = s ∧ ∃ hlt : 0 < s.size, s[0]'hlt = l[0]?.getD 0 ∧ (s.toList == []) = false ∧ s.toList.isEmpty = false :=
            ⟨_, rfl, hlt, by simp [at_list, hlt], by rw [hz]; simpa using hl0, by rw [hz]; exact hne⟩
          unfold S at *
          rw [hss] at h1 h2 h3 ⊢
          clear hss hl ho ho1 hz hl0 hne
          rw [← hb0] at hF hsg
          clear hb0
          have hwr : wrap64 (s[0].toNat : Int) = (s[0].toNat : Int) := by
            have := s[0].toNat_lt
            unfold wrap64; omega
          by_cases hs : isSign (s[0].toNat : Int) = true
          · rw [if_pos hs] at hF hsg
            subst hF
            clear hs
            go_enter Tryd.func89, Tryd.ntmps89
            go_wp2_with (first | ((with_reducible refine h1.out.mono ?_); rintro e w' ⟨rfl, rfl⟩) | ((with_reducible refine h2.out.mono ?_); rintro e w' ⟨rfl, rfl⟩) | ((with_reducible refine h3.out.mono ?_); rintro e w' ⟨rfl, rfl⟩) | ((with_reducible refine hsg.out.mono ?_); rintro e w' ⟨rfl, hb⟩; have hT1 := hT0.later hb; have hB1 := hB0.trans (hb.mono (by simp)); clear c0 c1 c2 f0 f1 f2; obtain ⟨c0, c1, c2⟩ := hT1.cells; have f0 := hT1.frozen 0; have f1 := hT1.frozen 1; have f2 := hT1.frozen 2))
            refine TokBox.ret (Q := fun e w' => e = .returned (tokV ⟨5, (s[0].toNat : Int)⟩ 0) ∧ Below w.heap.size w w') (hT1.set3 (5) ((s[0].toNat : Int)) 0) rfl rfl rfl ⟨rfl, (((hB1.setCell (by simp) _).setCell (by simp) _).setCell (by simp) _)⟩
          · rw [if_neg hs] at hF hsg
            subst hF
            clear hs
            go_enter Tryd.func89, Tryd.ntmps89
            go_wp2_with (first | ((with_reducible refine h1.out.mono ?_); rintro e w' ⟨rfl, rfl⟩) | ((with_reducible refine h2.out.mono ?_); rintro e w' ⟨rfl, rfl⟩) | ((with_reducible refine h3.out.mono ?_); rintro e w' ⟨rfl, rfl⟩) | ((with_reducible refine hsg.out.mono ?_); rintro e w' ⟨rfl, hb⟩; have hT1 := hT0.later hb; have hB1 := hB0.trans (hb.mono (by simp)); clear c0 c1 c2 f0 f1 f2; obtain ⟨c0, c1, c2⟩ := hT1.cells; have f0 := hT1.frozen 0; have f1 := hT1.frozen 1; have f2 := hT1.frozen 2))
            refine TokBox.ret (Q := fun e w' => e = .returned (tokV ⟨6, 0⟩ 0) ∧ Below w.heap.size w w') (hT1.set3 (6) (0) 0) rfl rfl rfl ⟨rfl, (((hB1.setCell (by simp) _).setCell (by simp) _).setCell (by simp) _)⟩
      · rw [if_pos ha] at hF
        subst hF
        have hw := Lib.hid (word_any a (w.alloc (.cells #[.int .u8 0, .int .i64 0, .int .i64 0] 35)) (by omega) ha hmm)
        have haz : a.isEmpty = false := by simpa using ha
        clear hmm h3
        generalize wordT a = x at *
        unfold S at *
        go_enter Tryd.func89, Tryd.ntmps89
        go_wp2_with (first | ((with_reducible refine h1.out.mono ?_); rintro e w' ⟨rfl, rfl⟩) | ((with_reducible refine h2.out.mono ?_); rintro e w' ⟨rfl, rfl⟩) | ((with_reducible refine hw.out.mono ?_); rintro e w' ⟨rfl, hb⟩; have hT1 := hT0.later hb; have hB1 := hB0.trans (hb.mono (by simp)); clear c0 c1 c2 f0 f1 f2; obtain ⟨c0, c1, c2⟩ := hT1.cells; have f0 := hT1.frozen 0; have f1 := hT1.frozen 1; have f2 := hT1.frozen 2))
        refine TokBox.ret (Q := fun e w' => e = .returned (tokV x 0) ∧ Below w.heap.size w w') (hT1.set3 (x.k) (x.n) 0) rfl rfl rfl ⟨rfl, (((hB1.setCell (by simp) _).setCell (by simp) _).setCell (by simp) _)⟩
    · rw [if_pos hd] at hF
      subst hF
      have hdz : d.isEmpty = false := by simpa using hd
      clear hmm h3 h2
      generalize numT d = x at *
      unfold S at *
      go_enter Tryd.func89, Tryd.ntmps89
      go_wp2_with (first | ((with_reducible refine h1.out.mono ?_); rintro e w' ⟨rfl, rfl⟩) | ((with_reducible refine hn.out.mono ?_); rintro e w' ⟨rfl, hb⟩; have hT1 := hT0.later hb; have hB1 := hB0.trans (hb.mono (by simp)); clear c0 c1 c2 f0 f1 f2; obtain ⟨c0, c1, c2⟩ := hT1.cells; have f0 := hT1.frozen 0; have f1 := hT1.frozen 1; have f2 := hT1.frozen 2))
      refine TokBox.ret (Q := fun e w' => e = .returned (tokV x 0) ∧ Below w.heap.size w w') (hT1.set3 (x.k) (x.n) 0) rfl rfl rfl ⟨rfl, (((hB1.setCell (by simp) _).setCell (by simp) _).setCell (by simp) _)⟩
end Go.Proofs.YtkedifhlkiffoaaDoor
