/-
  Contract of lex.longestOp at every text of at most 3000 bytes, where the ways of comparing lie as they are laid.
-/
import Derived.Test.YtkedifhlkiffoaaDoorLB
namespace Go.Proofs.YtkedifhlkiffoaaDoor
open Go.ChangeShapes Go.WideShapes Go.ChangeAt Go.RowKit
set_option linter.unusedVariables false
set_option linter.unusedSimpArgs false
attribute [local go_sem] Oper.semAt_some
/-- The ways of comparing lie as they are laid. -/
def OpsAt (w : World) : Prop := ∀ i, i < 7 → w.cell? ⟨3, i, none⟩ = some (S (opL[i]?.getD []))
theorem OpsAt.later {w w' : World} (h : OpsAt w) (hb : Below w.heap.size w w') : OpsAt w' := fun i hi =>
  (hb.cell (p := ⟨3, i, none⟩) (World.block_lt_of_cell? w _ (h i hi))).trans (h i hi)
def bestO (l : Bs) : Nat → Nat
  | 0 => 0
  | k + 1 => if (opL[k]?.getD []).isPrefixOf l && decide ((opL[bestO l k]?.getD []).length < (opL[k]?.getD []).length) then k else bestO l k
theorem bestO_le (l : Bs) : ∀ k, k ≤ 7 → bestO l k ≤ 6 := by
  intro k
  induction k with
  | zero => intro _; simp [bestO]
  | succ k ih =>
    intro h
    unfold bestO
    split
    · omega
    · exact ih (by omega)
theorem best_long (l : Bs) : ((bestO l 7 : Nat) : Int) = longL l := by
  match l with
  | [] => decide
  | [a] =>
    by_cases h1 : a = 60
    · subst h1; decide
    · by_cases h2 : a = 61
      · subst h2; decide
      · by_cases h3 : a = 62
        · subst h3; decide
        · have g1 : (60 == a) = false := by simpa using Ne.symm h1
          have g2 : (61 == a) = false := by simpa using Ne.symm h2
          have g3 : (62 == a) = false := by simpa using Ne.symm h3
          simp [bestO, longL, opL, List.isPrefixOf, h1, h2, h3, g1, g2, g3]
  | a :: b :: r =>
    by_cases hb : b = 61
    · subst hb
      by_cases h1 : a = 60
      · subst h1; simp [bestO, longL, opL, List.isPrefixOf]
      · by_cases h2 : a = 61
        · subst h2; simp [bestO, longL, opL, List.isPrefixOf]
        · by_cases h3 : a = 62
          · subst h3; simp [bestO, longL, opL, List.isPrefixOf]
          · by_cases h4 : a = 33
            · subst h4; simp [bestO, longL, opL, List.isPrefixOf]
            · have g1 : (60 == a) = false := by simpa using Ne.symm h1
              have g2 : (61 == a) = false := by simpa using Ne.symm h2
              have g3 : (62 == a) = false := by simpa using Ne.symm h3
              have g4 : (33 == a) = false := by simpa using Ne.symm h4
              simp [bestO, longL, opL, List.isPrefixOf, h1, h2, h3, h4, g1, g2, g3, g4]
    · have gb : (61 == b) = false := by simpa using Ne.symm hb
      by_cases h1 : a = 60
      · subst h1; simp [bestO, longL, opL, List.isPrefixOf, hb, gb]
      · by_cases h2 : a = 61
        · subst h2; simp [bestO, longL, opL, List.isPrefixOf, hb, gb]
        · by_cases h3 : a = 62
          · subst h3; simp [bestO, longL, opL, List.isPrefixOf, hb, gb]
          · by_cases h4 : a = 33
            · subst h4; simp [bestO, longL, opL, List.isPrefixOf, hb, gb]
            · have g1 : (60 == a) = false := by simpa using Ne.symm h1
              have g2 : (61 == a) = false := by simpa using Ne.symm h2
              have g3 : (62 == a) = false := by simpa using Ne.symm h3
              have g4 : (33 == a) = false := by simpa using Ne.symm h4
              simp [bestO, longL, opL, List.isPrefixOf, h1, h2, h3, h4, g1, g2, g3, g4, hb, gb]
set_option maxRecDepth 100000 in
set_option maxHeartbeats 2000000 in
theorem longest_any (l : Bs) (w : World) (hl : l.length ≤ 3000) (ho : OpsAt w) : Calls Tryd.prog 106 #[S l] w fun e w' => e = .returned (.int .i64 (longL l)) ∧ w = w' := by
  have HB := Lib.hid (best_long l)
  have HS := Lib.hid (fun k => show bestO l (k + 1) = if (opL[k]?.getD []).isPrefixOf l && decide ((opL[bestO l k]?.getD []).length < (opL[k]?.getD []).length) then k else bestO l k from rfl)
  have HL := Lib.hid (bestO_le l)
  have HP := Lib.hid (fun k (hk : k < 7) => has_any l (opL[k]?.getD []) w hl (by
    match k, hk with
    | 0, _ => decide
    | 1, _ => decide
    | 2, _ => decide
    | 3, _ => decide
    | 4, _ => decide
    | 5, _ => decide
    | 6, _ => decide))
  have HO := Lib.hid ho
  have o0 : w.cell? ⟨3, 0, none⟩ = some (.string ⟨#[]⟩) := ho 0 (by omega)
  have o1 : w.cell? ⟨3, 1, none⟩ = some (.string ⟨#[60]⟩) := ho 1 (by omega)
  have o2 : w.cell? ⟨3, 2, none⟩ = some (.string ⟨#[60, 61]⟩) := ho 2 (by omega)
  have o3 : w.cell? ⟨3, 3, none⟩ = some (.string ⟨#[61]⟩) := ho 3 (by omega)
  have o4 : w.cell? ⟨3, 4, none⟩ = some (.string ⟨#[33, 61]⟩) := ho 4 (by omega)
  have o5 : w.cell? ⟨3, 5, none⟩ = some (.string ⟨#[62]⟩) := ho 5 (by omega)
  have o6 : w.cell? ⟨3, 6, none⟩ = some (.string ⟨#[62, 61]⟩) := ho 6 (by omega)
  clear ho
  unfold S at *
  generalize (⟨l.toArray⟩ : ByteArray) = s at *
  go_enter Tryd.func106, Tryd.ntmps106
  go_wp2
  go_loop [3, 7] (fun v i => ∃ k : Nat, k ≤ 7 ∧ i = .int .i64 k ∧ v = .int .i64 (bestO l k : Nat)) (fun _ i => 7 - (intOf i).toNat)
  case atStart => exact ⟨0, by omega, rfl, rfl⟩
  case round =>
    obtain ⟨k, hk, rfl, rfl⟩ := hrel
    have hm := HL.out k hk
    have hs := Lib.hid (HS.out k)
    obtain ⟨m, hm2⟩ : ∃ m, bestO l k = m := ⟨_, rfl⟩
    rw [hm2] at hm hs ⊢
    have hom := HO.out m (by omega)
    clear o0 o1 o2 o3 o4 o5 o6 hl HL HS HO
    by_cases hk7 : k < 7
    · generalize hom2 : opL[m]?.getD [] = om at *
      have hsz : (⟨om.toArray⟩ : ByteArray).size = om.length := rfl
      have hm7 : (m : Int) < 7 := by omega
      clear hom2 HB hm
      rcases (show k = 0 ∨ k = 1 ∨ k = 2 ∨ k = 3 ∨ k = 4 ∨ k = 5 ∨ k = 6 by omega) with rfl | rfl | rfl | rfl | rfl | rfl | rfl
      · have hp : Hid (Calls Tryd.prog 118 #[.string s, .string ⟨#[]⟩] w fun e w' => e = .returned (.bool (([] : Bs).isPrefixOf l)) ∧ w = w') := HP.out 0 (by omega)
        have hs : Hid (bestO l 1 = if ([] : Bs).isPrefixOf l && decide (om.length < 0) then 0 else m) := hs
        have ix : ∀ w : World, (Instr.index 98 (.agg #[.string ⟨#[]⟩, .string ⟨#[60]⟩, .string ⟨#[60, 61]⟩, .string ⟨#[61]⟩, .string ⟨#[33, 61]⟩, .string ⟨#[62]⟩, .string ⟨#[62, 61]⟩]) (.int .i64 0)).run Tryd.prog w = .ok (.string ⟨#[]⟩) w := fun _ => by kernel_rfl
        clear HP
        cases hb : ([] : Bs).isPrefixOf l <;> rw [hb] at hp hs
        · go_wp2_with ((with_reducible refine hp.out.mono ?_); rintro e w' ⟨rfl, rfl⟩)
          go_round
          case rel => exact ⟨1, by omega, rfl, by rw [hs.out]; simp⟩
          case measure => simp [intOf]
        · by_cases hlt : om.length < 0
          · have hli : ((om.length : Nat) : Int) < 0 := by omega
            go_wp2_with ((with_reducible refine hp.out.mono ?_); rintro e w' ⟨rfl, rfl⟩)
            go_round
            case rel => exact ⟨1, by omega, rfl, by rw [hs.out]; simp [hlt]⟩
            case measure => simp [intOf]
          · have hli : ¬ ((om.length : Nat) : Int) < 0 := by omega
            go_wp2_with ((with_reducible refine hp.out.mono ?_); rintro e w' ⟨rfl, rfl⟩)
            go_round
            case rel => exact ⟨1, by omega, rfl, by rw [hs.out]; simp [hlt]⟩
            case measure => simp [intOf]
      · have hp : Hid (Calls Tryd.prog 118 #[.string s, .string ⟨#[60]⟩] w fun e w' => e = .returned (.bool (([60] : Bs).isPrefixOf l)) ∧ w = w') := HP.out 1 (by omega)
        have hs : Hid (bestO l 2 = if ([60] : Bs).isPrefixOf l && decide (om.length < 1) then 1 else m) := hs
        have ix : ∀ w : World, (Instr.index 98 (.agg #[.string ⟨#[]⟩, .string ⟨#[60]⟩, .string ⟨#[60, 61]⟩, .string ⟨#[61]⟩, .string ⟨#[33, 61]⟩, .string ⟨#[62]⟩, .string ⟨#[62, 61]⟩]) (.int .i64 1)).run Tryd.prog w = .ok (.string ⟨#[60]⟩) w := fun _ => by kernel_rfl
        clear HP
        cases hb : ([60] : Bs).isPrefixOf l <;> rw [hb] at hp hs
        · go_wp2_with ((with_reducible refine hp.out.mono ?_); rintro e w' ⟨rfl, rfl⟩)
          go_round
          case rel => exact ⟨2, by omega, rfl, by rw [hs.out]; simp⟩
          case measure => simp [intOf]
        · by_cases hlt : om.length < 1
          · have hli : ((om.length : Nat) : Int) < 1 := by omega
            go_wp2_with ((with_reducible refine hp.out.mono ?_); rintro e w' ⟨rfl, rfl⟩)
            go_round
            case rel => exact ⟨2, by omega, rfl, by rw [hs.out]; simp [hlt]⟩
            case measure => simp [intOf]
          · have hli : ¬ ((om.length : Nat) : Int) < 1 := by omega
            go_wp2_with ((with_reducible refine hp.out.mono ?_); rintro e w' ⟨rfl, rfl⟩)
            go_round
            case rel => exact ⟨2, by omega, rfl, by rw [hs.out]; simp [hlt]⟩
            case measure => simp [intOf]
      · have hp : Hid (Calls Tryd.prog 118 #[.string s, .string ⟨#[60, 61]⟩] w fun e w' => e = .returned (.bool (([60, 61] : Bs).isPrefixOf l)) ∧ w = w') := HP.out 2 (by omega)
        have hs : Hid (bestO l 3 = if ([60, 61] : Bs).isPrefixOf l && decide (om.length < 2) then 2 else m) := hs
        have ix : ∀ w : World, (Instr.index 98 (.agg #[.string ⟨#[]⟩, .string ⟨#[60]⟩, .string ⟨#[60, 61]⟩, .string ⟨#[61]⟩, .string ⟨#[33, 61]⟩, .string ⟨#[62]⟩, .string ⟨#[62, 61]⟩]) (.int .i64 2)).run Tryd.prog w = .ok (.string ⟨#[60, 61]⟩) w := fun _ => by kernel_rfl
        clear HP
        cases hb : ([60, 61] : Bs).isPrefixOf l <;> rw [hb] at hp hs
        · go_wp2_with ((with_reducible refine hp.out.mono ?_); rintro e w' ⟨rfl, rfl⟩)
          go_round
          case rel => exact ⟨3, by omega, rfl, by rw [hs.out]; simp⟩
          case measure => simp [intOf]
        · by_cases hlt : om.length < 2
          · have hli : ((om.length : Nat) : Int) < 2 := by omega
            go_wp2_with ((with_reducible refine hp.out.mono ?_); rintro e w' ⟨rfl, rfl⟩)
            go_round
            case rel => exact ⟨3, by omega, rfl, by rw [hs.out]; simp [hlt]⟩
            case measure => simp [intOf]
          · have hli : ¬ ((om.length : Nat) : Int) < 2 := by omega
            go_wp2_with ((with_reducible refine hp.out.mono ?_); rintro e w' ⟨rfl, rfl⟩)
            go_round
            case rel => exact ⟨3, by omega, rfl, by rw [hs.out]; simp [hlt]⟩
            case measure => simp [intOf]
      · have hp : Hid (Calls Tryd.prog 118 #[.string s, .string ⟨#[61]⟩] w fun e w' => e = .returned (.bool (([61] : Bs).isPrefixOf l)) ∧ w = w') := HP.out 3 (by omega)
        have hs : Hid (bestO l 4 = if ([61] : Bs).isPrefixOf l && decide (om.length < 1) then 3 else m) := hs
        have ix : ∀ w : World, (Instr.index 98 (.agg #[.string ⟨#[]⟩, .string ⟨#[60]⟩, .string ⟨#[60, 61]⟩, .string ⟨#[61]⟩, .string ⟨#[33, 61]⟩, .string ⟨#[62]⟩, .string ⟨#[62, 61]⟩]) (.int .i64 3)).run Tryd.prog w = .ok (.string ⟨#[61]⟩) w := fun _ => by kernel_rfl
        clear HP
        cases hb : ([61] : Bs).isPrefixOf l <;> rw [hb] at hp hs
        · go_wp2_with ((with_reducible refine hp.out.mono ?_); rintro e w' ⟨rfl, rfl⟩)
          go_round
          case rel => exact ⟨4, by omega, rfl, by rw [hs.out]; simp⟩
          case measure => simp [intOf]
        · by_cases hlt : om.length < 1
          · have hli : ((om.length : Nat) : Int) < 1 := by omega
            go_wp2_with ((with_reducible refine hp.out.mono ?_); rintro e w' ⟨rfl, rfl⟩)
            go_round
            case rel => exact ⟨4, by omega, rfl, by rw [hs.out]; simp [hlt]⟩
            case measure => simp [intOf]
          · have hli : ¬ ((om.length : Nat) : Int) < 1 := by omega
            go_wp2_with ((with_reducible refine hp.out.mono ?_); rintro e w' ⟨rfl, rfl⟩)
            go_round
            case rel => exact ⟨4, by omega, rfl, by rw [hs.out]; simp [hlt]⟩
            case measure => simp [intOf]
      · have hp : Hid (Calls Tryd.prog 118 #[.string s, .string ⟨#[33, 61]⟩] w fun e w' => e = .returned (.bool (([33, 61] : Bs).isPrefixOf l)) ∧ w = w') := HP.out 4 (by omega)
        have hs : Hid (bestO l 5 = if ([33, 61] : Bs).isPrefixOf l && decide (om.length < 2) then 4 else m) := hs
        have ix : ∀ w : World, (Instr.index 98 (.agg #[.string ⟨#[]⟩, .string ⟨#[60]⟩, .string ⟨#[60, 61]⟩, .string ⟨#[61]⟩, .string ⟨#[33, 61]⟩, .string ⟨#[62]⟩, .string ⟨#[62, 61]⟩]) (.int .i64 4)).run Tryd.prog w = .ok (.string ⟨#[33, 61]⟩) w := fun _ => by kernel_rfl
        clear HP
        cases hb : ([33, 61] : Bs).isPrefixOf l <;> rw [hb] at hp hs
        · go_wp2_with ((with_reducible refine hp.out.mono ?_); rintro e w' ⟨rfl, rfl⟩)
          go_round
          case rel => exact ⟨5, by omega, rfl, by rw [hs.out]; simp⟩
          case measure => simp [intOf]
        · by_cases hlt : om.length < 2
          · have hli : ((om.length : Nat) : Int) < 2 := by omega
            go_wp2_with ((with_reducible refine hp.out.mono ?_); rintro e w' ⟨rfl, rfl⟩)
            go_round
            case rel => exact ⟨5, by omega, rfl, by rw [hs.out]; simp [hlt]⟩
            case measure => simp [intOf]
          · have hli : ¬ ((om.length : Nat) : Int) < 2 := by omega
            go_wp2_with ((with_reducible refine hp.out.mono ?_); rintro e w' ⟨rfl, rfl⟩)
            go_round
            case rel => exact ⟨5, by omega, rfl, by rw [hs.out]; simp [hlt]⟩
            case measure => simp [intOf]
      · have hp : Hid (Calls Tryd.prog 118 #[.string s, .string ⟨#[62]⟩] w fun e w' => e = .returned (.bool (([62] : Bs).isPrefixOf l)) ∧ w = w') := HP.out 5 (by omega)
        have hs : Hid (bestO l 6 = if ([62] : Bs).isPrefixOf l && decide (om.length < 1) then 5 else m) := hs
        have ix : ∀ w : World, (Instr.index 98 (.agg #[.string ⟨#[]⟩, .string ⟨#[60]⟩, .string ⟨#[60, 61]⟩, .string ⟨#[61]⟩, .string ⟨#[33, 61]⟩, .string ⟨#[62]⟩, .string ⟨#[62, 61]⟩]) (.int .i64 5)).run Tryd.prog w = .ok (.string ⟨#[62]⟩) w := fun _ => by kernel_rfl
        clear HP
        cases hb : ([62] : Bs).isPrefixOf l <;> rw [hb] at hp hs
        · go_wp2_with ((with_reducible refine hp.out.mono ?_); rintro e w' ⟨rfl, rfl⟩)
          go_round
          case rel => exact ⟨6, by omega, rfl, by rw [hs.out]; simp⟩
          case measure => simp [intOf]
        · by_cases hlt : om.length < 1
          · have hli : ((om.length : Nat) : Int) < 1 := by omega
            go_wp2_with ((with_reducible refine hp.out.mono ?_); rintro e w' ⟨rfl, rfl⟩)
            go_round
            case rel => exact ⟨6, by omega, rfl, by rw [hs.out]; simp [hlt]⟩
            case measure => simp [intOf]
          · have hli : ¬ ((om.length : Nat) : Int) < 1 := by omega
            go_wp2_with ((with_reducible refine hp.out.mono ?_); rintro e w' ⟨rfl, rfl⟩)
            go_round
            case rel => exact ⟨6, by omega, rfl, by rw [hs.out]; simp [hlt]⟩
            case measure => simp [intOf]
      · have hp : Hid (Calls Tryd.prog 118 #[.string s, .string ⟨#[62, 61]⟩] w fun e w' => e = .returned (.bool (([62, 61] : Bs).isPrefixOf l)) ∧ w = w') := HP.out 6 (by omega)
        have hs : Hid (bestO l 7 = if ([62, 61] : Bs).isPrefixOf l && decide (om.length < 2) then 6 else m) := hs
        have ix : ∀ w : World, (Instr.index 98 (.agg #[.string ⟨#[]⟩, .string ⟨#[60]⟩, .string ⟨#[60, 61]⟩, .string ⟨#[61]⟩, .string ⟨#[33, 61]⟩, .string ⟨#[62]⟩, .string ⟨#[62, 61]⟩]) (.int .i64 6)).run Tryd.prog w = .ok (.string ⟨#[62, 61]⟩) w := fun _ => by kernel_rfl
        clear HP
        cases hb : ([62, 61] : Bs).isPrefixOf l <;> rw [hb] at hp hs
        · go_wp2_with ((with_reducible refine hp.out.mono ?_); rintro e w' ⟨rfl, rfl⟩)
          go_round
          case rel => exact ⟨7, by omega, rfl, by rw [hs.out]; simp⟩
          case measure => simp [intOf]
        · by_cases hlt : om.length < 2
          · have hli : ((om.length : Nat) : Int) < 2 := by omega
            go_wp2_with ((with_reducible refine hp.out.mono ?_); rintro e w' ⟨rfl, rfl⟩)
            go_round
            case rel => exact ⟨7, by omega, rfl, by rw [hs.out]; simp [hlt]⟩
            case measure => simp [intOf]
          · have hli : ¬ ((om.length : Nat) : Int) < 2 := by omega
            go_wp2_with ((with_reducible refine hp.out.mono ?_); rintro e w' ⟨rfl, rfl⟩)
            go_round
            case rel => exact ⟨7, by omega, rfl, by rw [hs.out]; simp [hlt]⟩
            case measure => simp [intOf]
    · obtain rfl : k = 7 := by omega
      clear hs hom HP
      go_wp2
      go_ret
      exact ⟨by rw [← HB.out, hm2]; rfl, rfl⟩
end Go.Proofs.YtkedifhlkiffoaaDoor
