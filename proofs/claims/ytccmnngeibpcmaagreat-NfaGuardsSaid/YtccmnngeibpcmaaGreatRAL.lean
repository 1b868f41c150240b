/-
  Contract of the reference's Great at any length.
-/
import Derived.Test.YtccmnngeibpcmaaGreatRAJ
namespace Go.Proofs.YtccmnngeibpcmaaGreat.Tree
open Go.ChangeShapes Go.WideShapes Go.ChangeAt Go.RowKit
set_option linter.unusedVariables false
set_option linter.unusedSimpArgs false
attribute [local go_sem] Oper.semAt_some
set_option maxRecDepth 100000 in
set_option maxHeartbeats 1000000 in
theorem great_M (a : Option Addr) (c : Nat) (L : List (Sp × Value)) (win : Int) (w : World) (hL : L.length ≤ 9223372036854775807) (h : SpsL w (.slice a L.length c) L) :
    Calls Tryz.prog 5 #[ptV (.slice a L.length c) win] w fun e w' => e = .returned (.bool (great (L.map (·.1)))) ∧ Below w.heap.size w w' := by
  have hb := (Below.refl w.heap.size w).alloc (Nat.le_refl _) (.cells #[.slice a L.length c, .int .i64 win] 24)
  have hp := PtBox.new w (.slice a L.length c) win
  replace h := h.later hb
  go_enter Tryz.func5, Tryz.ntmps5
  go_wp2
  generalize w.alloc (.cells #[.slice a L.length c, .int .i64 win] 24) = w0 at *
  obtain ⟨⟨a', c', e, hc⟩, hcs⟩ := h
  obtain ⟨rfl, rfl⟩ : a = a' ∧ c = c' := by cases e; exact ⟨rfl, rfl⟩
  clear e
  have k0 := hp.c0
  obtain ⟨B, hB⟩ : ∃ B, w.heap.size = B := ⟨_, rfl⟩
  rw [hB] at hb k0 ⊢
  have hB' := Lib.hid hB
  clear hB
  obtain ⟨n, hn⟩ : ∃ n, L.length = n := ⟨_, rfl⟩
  rw [hn] at hL k0
  have hn' := Lib.hid hn
  clear hp hn
  replace hc := Lib.hid hc
  replace hcs := Lib.hid hcs
  replace hb := Lib.hid hb
  have hL' := Lib.hid hL
  have hlm : Hid ((L.map (·.1)).length = n) := by show _ = _; rw [List.length_map]; exact hn'.out
  go_loopw [3] (fun t wr => ∃ i : Nat, i ≤ n ∧ i ≤ 41 ∧ t = .int .i64 i ∧ wr = w0 ∧ Hid (∀ j s, j < i → (L.map (·.1))[j]? = some s → s.cs.length ≤ 20)) (fun t _ => n - (intOf t).toNat)
  case atStart => exact ⟨0, Nat.zero_le _, Nat.zero_le _, rfl, rfl, fun j s hj => by omega⟩
  case round =>
    obtain ⟨i, hi, hi41, rfl, rfl, hall⟩ := hrel
    by_cases hlt : i < n ∧ i ≤ 40
    · obtain ⟨hlt, h40⟩ := hlt
      obtain ⟨x, hx⟩ := sps_i (L := L) (i := i) (by rw [hn'.out]; exact hlt)
      obtain ⟨b, o, rfl, z0, z1, z2, z3, z4, z5⟩ := sps_cell hc.out hx
      obtain ⟨⟨s, v⟩, rfl⟩ : ∃ y, x = y := ⟨_, rfl⟩
      obtain ⟨a2, c2, hv, hcc⟩ := hcs.out _ (List.mem_of_getElem? hx)
      dsimp only at z0 z1 z2 z3 z4 z5 hv hcc
      subst hv
      have hsm : Hid ((L.map (·.1))[i]? = some s) := by show _ = _; rw [List.getElem?_map, hx]; rfl
      have hG := Lib.hid (great_yes hsm.out h40)
      have hlti : (i : Int) < n := by omega
      have h40i : (i : Int) ≤ 40 := by omega
      clear hx hcc
      by_cases hg : 20 < s.cs.length
      · have hr := hG.out hg
        have hgi : (20 : Int) < s.cs.length := by omega
        clear hG
        go_wp2_with fail
        go_ret
        exact ⟨congrArg (fun z => Ending.returned (.bool z)) hr.symm, by rw [hB'.out]; exact hb.out⟩
      · have hgi : ¬ (20 : Int) < s.cs.length := by omega
        clear hG
        have hall' : Hid (∀ j s, j < i + 1 → (L.map (·.1))[j]? = some s → s.cs.length ≤ 20) := fun j s' hj hs' => by
          by_cases hji : j = i
          · subst hji; have := hsm.out; rw [this] at hs'; cases hs'; omega
          · exact hall.out j s' (by omega) hs'
        go_wp2_with fail
        exact ⟨⟨i + 1, by omega, by omega, by go_num, trivial, hall'⟩, by simp [intOf]; omega⟩
    · have hr : Hid (great (L.map (·.1)) = decide (40 < (n : Int))) := by
        show _ = _
        rw [great_end (i := i) (by rw [hlm.out]; omega) hall.out, hlm.out]
        congr 1
        exact propext (by omega)
      have hgi : Hid ((i : Int) = n ∨ (40 : Int) < i) := by show _ ∨ _; omega
      clear hall
      by_cases hin : i < n
      · have hi1 : (i : Int) < n := by omega
        have hi2 : ¬ (i : Int) ≤ 40 := by omega
        have hi3 : Hid (decide ((40 : Int) < n) = true) := by show _ = _; simp; omega
        go_wp2_with fail
        go_ret
        exact ⟨congrArg (fun z => Ending.returned (.bool z)) hr.out.symm, by rw [hB'.out]; exact hb.out⟩
      · have hi1 : ¬ (i : Int) < n := by omega
        go_wp2_with fail
        go_ret
        exact ⟨congrArg (fun z => Ending.returned (.bool z)) hr.out.symm, by rw [hB'.out]; exact hb.out⟩
theorem great_W {v : Value} {L : List (Sp × Value)} (win : Int) (w : World) (hL : L.length ≤ maxLen) (h : SpsL w v L) :
    Calls Tryz.prog 5 #[ptV v win] w fun e w' => e = .returned (.bool (great (L.map (·.1)))) ∧ Below w.heap.size w w' := by
  obtain ⟨a, c, rfl⟩ := h.lit rfl
  exact great_M a c L win w (Nat.le_trans hL (by unfold maxLen; omega)) h
end Go.Proofs.YtccmnngeibpcmaaGreat.Tree
