/-
  Contracts of the document's own Size and Long, and of tree's Size, at patterns that are not too great.
-/
import Derived.Test.YtkibnbcdmkogkaaE
namespace Go.Proofs.Ytkibnbcdmkogkaa
open Go.ChangeShapes Go.WideShapes Go.ChangeAt Go.RowKit
set_option linter.unusedVariables false
set_option linter.unusedSimpArgs false
attribute [local go_sem] Oper.semAt_some
/-- Not too great. -/
def Fair (ss : List Sp) : Prop := ss.length ≤ 100 ∧ ∀ s ∈ ss, s.cs.length ≤ 100
theorem fair_mem {L : List (Sp × Value)} {i : Nat} {s : Sp} {v : Value} (h : Fair (L.map (·.1))) (hx : L[i]? = some (s, v)) : s.cs.length ≤ 100 ∧ (L.map (·.1))[i]? = some s := by
  have e : (L.map (·.1))[i]? = some s := by rw [List.getElem?_map, hx]; rfl
  exact ⟨h.2 _ (List.mem_of_getElem? e), e⟩
abbrev sz3 (s : Sp) : Int := 3 * (s.cs.length : Int)
abbrev lo3 (s : Sp) : Int := if s.neg then 0 else within s.min
abbrev hi3 (s : Sp) : Int := if s.neg then 0 else within s.max
theorem sz_bd {ss : List Sp} (h : Fair ss) (i : Nat) (hi : i ≤ 100) : 0 ≤ sumF sz3 (ss.take i) ∧ sumF sz3 (ss.take i) ≤ 100000 := by
  have := sumF_take_bd sz3 300 (by omega) ss i (fun s hs => by have := h.2 s hs; show 0 ≤ 3 * (s.cs.length : Int) ∧ 3 * (s.cs.length : Int) ≤ 300; omega)
  omega
theorem lo_bd (ss : List Sp) (i : Nat) (hi : i ≤ 100) : 0 ≤ sumF lo3 (ss.take i) ∧ sumF lo3 (ss.take i) ≤ 109951162777600 := by
  have := sumF_take_bd lo3 1099511627776 (by omega) ss i (fun s _ => by have := within_bd s.min; show 0 ≤ (if s.neg then 0 else within s.min) ∧ (if s.neg then 0 else within s.min) ≤ 1099511627776; split <;> omega)
  omega
theorem hi_bd (ss : List Sp) (i : Nat) (hi : i ≤ 100) : 0 ≤ sumF hi3 (ss.take i) ∧ sumF hi3 (ss.take i) ≤ 109951162777600 := by
  have := sumF_take_bd hi3 1099511627776 (by omega) ss i (fun s _ => by have := within_bd s.max; show 0 ≤ (if s.neg then 0 else within s.max) ∧ (if s.neg then 0 else within s.max) ≤ 1099511627776; split <;> omega)
  omega
set_option maxRecDepth 100000 in
set_option maxHeartbeats 2000000 in
theorem refSize_L (a : Option Addr) (n c : Nat) (L : List (Sp × Value)) (win : Int) (w : World) (hn : L.length = n) (hF : Fair (L.map (·.1))) (h : SpsL w (.slice a n c) L) :
    Calls Try.prog 22 #[ptV (.slice a n c) win] w fun e w' => e = .returned (.int .i64 (sizeP (L.map (·.1)))) ∧ Below w.heap.size w w' := by
  have hb := (Below.refl w.heap.size w).alloc (Nat.le_refl _) (.cells #[.slice a n c, .int .i64 win] 24)
  have hp : PtIn _ a n c win L _ := ⟨PtBox.new w (.slice a n c) win, hn, h.later hb⟩
  have hn100 : n ≤ 100 := by have := hF.1; rw [List.length_map, hn] at this; exact this
  clear h
  replace hF := Lib.hid hF
  go_enter Try.func22, Try.ntmps22
  have hnR : Hid ((L.map (·.1)).length = n) := by show _ = _; rw [List.length_map]; exact hn
  have k0 := hp.1.c0
  replace hb := Lib.hid hb
  replace hp := Lib.hid hp
  have hn' := Lib.hid hn
  clear hn
  go_wp2
  obtain ⟨B, hB⟩ : ∃ B, w.heap.size = B := ⟨_, rfl⟩
  generalize w.alloc (.cells #[.slice a n c, .int .i64 win] 24) = w0 at *
  rw [hB] at hp k0 ⊢
  clear hB
  go_loopw [3, 4] (fun u t wr => ∃ i : Nat, i ≤ n ∧ t = .int .i64 i ∧ wr = w0 ∧ u = .int .i64 ((n : Int) + sumF sz3 ((L.map (·.1)).take i))) (fun _ t _ => n - (intOf t).toNat)
  case atStart => exact ⟨0, Nat.zero_le _, rfl, rfl, by rw [sumF_zero]; simp⟩
  case round =>
    obtain ⟨i, hi, rfl, rfl, rfl⟩ := hrel
    by_cases hlt : i < n
    · obtain ⟨⟨s, v⟩, hx⟩ := sps_i (L := L) (i := i) (by rw [hn'.out]; exact hlt)
      obtain ⟨b, o, rfl, z0, z1, z2, z3, z4, z5, a2, c2, hv, hcc⟩ := hp.out.step hx
      subst hv
      obtain ⟨hm, hsm⟩ := fair_mem hF.out hx
      have hbd := sz_bd hF.out i (by omega)
      have hsc := Lib.hid (sumF_succ sz3 hsm)
      have hlti : (i : Int) < n := by omega
      generalize sumF sz3 ((L.map (·.1)).take i) = u at *
      clear hx hcc hsm
      obtain ⟨m, hm3⟩ : ∃ m, s.cs.length = m := ⟨_, rfl⟩
      rw [hm3] at z5 hm
      replace hm3 := Lib.hid hm3
      go_wp2_with fail
      refine ⟨⟨i + 1, by omega, by go_num, trivial, ?_⟩, by simp [intOf]; omega⟩
      rw [hsc.out]
      exact congrArg (fun z : Int => Value.int .i64 z) (by show _ = (n : Int) + (u + 3 * (s.cs.length : Int)); rw [hm3.out]; omega)
    · have he := Lib.hid (sumF_all sz3 (ss := L.map (·.1)) (i := i) (by rw [hnR.out]; omega))
      have hlti : ¬ (i : Int) < n := by omega
      go_wp2_with fail
      go_ret
      exact ⟨congrArg (fun z : Int => Ending.returned (.int .i64 z)) (by show _ = ((L.map (·.1)).length : Int) + sumF sz3 (L.map (·.1)); rw [hnR.out, ← he.out]), hb.out⟩
set_option maxRecDepth 100000 in
set_option maxHeartbeats 2000000 in
theorem size_L (a : Option Addr) (n c : Nat) (L : List (Sp × Value)) (win : Int) (w : World) (hn : L.length = n) (hF : Fair (L.map (·.1))) (h : SpsL w (.slice a n c) L) :
    Calls Try.prog 21 #[ptV (.slice a n c) win] w fun e w' => e = .returned (.int .i64 (sizeP (L.map (·.1)))) ∧ Below w.heap.size w w' := by
  have hb := (Below.refl w.heap.size w).alloc (Nat.le_refl _) (.cells #[.slice a n c, .int .i64 win] 24)
  have hp : PtIn _ a n c win L _ := ⟨PtBox.new w (.slice a n c) win, hn, h.later hb⟩
  have hn100 : n ≤ 100 := by have := hF.1; rw [List.length_map, hn] at this; exact this
  clear h
  replace hF := Lib.hid hF
  go_enter Try.func21, Try.ntmps21
  have hnR : Hid ((L.map (·.1)).length = n) := by show _ = _; rw [List.length_map]; exact hn
  have k0 := hp.1.c0
  replace hb := Lib.hid hb
  replace hp := Lib.hid hp
  have hn' := Lib.hid hn
  clear hn
  go_wp2
  obtain ⟨B, hB⟩ : ∃ B, w.heap.size = B := ⟨_, rfl⟩
  generalize w.alloc (.cells #[.slice a n c, .int .i64 win] 24) = w0 at *
  rw [hB] at hp k0 ⊢
  clear hB
  go_loopw [3, 12] (fun u t wr => ∃ i : Nat, i ≤ n ∧ t = .int .i64 i ∧ Hid (Below w0.heap.size w0 wr) ∧ u = .int .i64 ((n : Int) + sumF sz3 ((L.map (·.1)).take i))) (fun _ t _ => n - (intOf t).toNat)
  case atStart => exact ⟨0, Nat.zero_le _, rfl, Below.refl _ _, by rw [sumF_zero]; simp⟩
  case round =>
    obtain ⟨i, hi, rfl, hwr, rfl⟩ := hrel
    have hpr := Lib.hid (hp.out.later hwr.out)
    by_cases hlt : i < n
    · obtain ⟨⟨s, v⟩, hx⟩ := sps_i (L := L) (i := i) (by rw [hn'.out]; exact hlt)
      obtain ⟨b, o, rfl, z0, z1, z2, z3, z4, z5, a2, c2, hv, hcc⟩ := hpr.out.step hx
      subst hv
      obtain ⟨hm, hsm⟩ := fair_mem hF.out hx
      have hbd := sz_bd hF.out i (by omega)
      have hsc := Lib.hid (sumF_succ sz3 hsm)
      have hlti : (i : Int) < n := by omega
      generalize sumF sz3 ((L.map (·.1)).take i) = u at *
      clear hx hcc hsm k0
      obtain ⟨m, hm3⟩ : ∃ m, s.cs.length = m := ⟨_, rfl⟩
      rw [hm3] at z5 hm
      replace hm3 := Lib.hid hm3
      go_wp2_with fail
      refine ⟨⟨i + 1, by omega, by go_num, kept_alloc hwr.out _, ?_⟩, by simp [intOf]; omega⟩
      rw [hsc.out]
      exact congrArg (fun z : Int => Value.int .i64 z) (by show _ = (n : Int) + (u + 3 * (s.cs.length : Int)); rw [hm3.out]; omega)
    · have he := Lib.hid (sumF_all sz3 (ss := L.map (·.1)) (i := i) (by rw [hnR.out]; omega))
      have hlti : ¬ (i : Int) < n := by omega
      go_wp2_with fail
      go_ret
      exact ⟨congrArg (fun z : Int => Ending.returned (.int .i64 z)) (by show _ = ((L.map (·.1)).length : Int) + sumF sz3 (L.map (·.1)); rw [hnR.out, ← he.out]), kept_trans hb.out hwr.out⟩
set_option maxRecDepth 100000 in
set_option maxHeartbeats 2000000 in
theorem refLong_L (a : Option Addr) (n c : Nat) (L : List (Sp × Value)) (win : Int) (w : World) (hn : L.length = n) (hF : Fair (L.map (·.1))) (h : SpsL w (.slice a n c) L) :
    Calls Try.prog 11 #[ptV (.slice a n c) win] w fun e w' => e = .returned (.tuple #[.int .i64 (leastP (L.map (·.1))), .int .i64 (mostP (L.map (·.1)))]) ∧ Below w.heap.size w w' := by
  have hb := (Below.refl w.heap.size w).alloc (Nat.le_refl _) (.cells #[.slice a n c, .int .i64 win] 24)
  have hp : PtIn _ a n c win L _ := ⟨PtBox.new w (.slice a n c) win, hn, h.later hb⟩
  have hn100 : n ≤ 100 := by have := hF.1; rw [List.length_map, hn] at this; exact this
  clear h
  replace hF := Lib.hid hF
  go_enter Try.func11, Try.ntmps11
  have hnR : Hid ((L.map (·.1)).length = n) := by show _ = _; rw [List.length_map]; exact hn
  have k0 := hp.1.c0
  replace hb := Lib.hid hb
  replace hp := Lib.hid hp
  have hn' := Lib.hid hn
  clear hn
  go_wp2
  obtain ⟨B, hB⟩ : ∃ B, w.heap.size = B := ⟨_, rfl⟩
  generalize w.alloc (.cells #[.slice a n c, .int .i64 win] 24) = w0 at *
  rw [hB] at hp k0 ⊢
  clear hB
  go_loopw [4, 5, 6] (fun u v t wr => ∃ i : Nat, i ≤ n ∧ t = .int .i64 i ∧ wr = w0 ∧ u = .int .i64 (sumF lo3 ((L.map (·.1)).take i)) ∧ v = .int .i64 (sumF hi3 ((L.map (·.1)).take i))) (fun _ _ t _ => n - (intOf t).toNat)
  case atStart => exact ⟨0, Nat.zero_le _, rfl, rfl, by rw [sumF_zero], by rw [sumF_zero]⟩
  case round =>
    obtain ⟨i, hi, rfl, rfl, rfl, rfl⟩ := hrel
    by_cases hlt : i < n
    · obtain ⟨⟨s, v⟩, hx⟩ := sps_i (L := L) (i := i) (by rw [hn'.out]; exact hlt)
      obtain ⟨b, o, rfl, z0, z1, z2, z3, z4, z5, -⟩ := hp.out.step hx
      obtain ⟨hm, hsm⟩ := fair_mem hF.out hx
      have hbd := lo_bd (L.map (·.1)) i (by omega)
      have hbd2 := hi_bd (L.map (·.1)) i (by omega)
      have hsc := Lib.hid (sumF_succ lo3 hsm)
      have hsc2 := Lib.hid (sumF_succ hi3 hsm)
      have hlti : (i : Int) < n := by omega
      generalize sumF lo3 ((L.map (·.1)).take i) = u at *
      generalize sumF hi3 ((L.map (·.1)).take i) = v at *
      clear hx hsm
      have H1 := Lib.hid (within_any s.min)
      have H2 := Lib.hid (within_any s.max)
      have hw1 := within_bd s.min
      have hw2 := within_bd s.max
      have hl1 : Hid (lo3 s = if s.neg then 0 else within s.min) := rfl
      have hl2 : Hid (hi3 s = if s.neg then 0 else within s.max) := rfl
      generalize within s.min = x at *
      generalize within s.max = y at *
      cases hneg : s.neg
      · rw [hneg] at z0
        have e1 : Hid (lo3 s = x) := by show _ = _; rw [hl1.out, hneg]; rfl
        have e2 : Hid (hi3 s = y) := by show _ = _; rw [hl2.out, hneg]; rfl
        clear hneg
        go_wp2_with (first | ((with_reducible refine (H1.out _).mono ?_); rintro e w2 ⟨rfl, rfl⟩) | ((with_reducible refine (H2.out _).mono ?_); rintro e w2 ⟨rfl, rfl⟩))
        refine ⟨⟨i + 1, by omega, by go_num, trivial, ?_, ?_⟩, by simp [intOf]; omega⟩
        · rw [hsc.out, e1.out]
        · rw [hsc2.out, e2.out]
      · rw [hneg] at z0
        have e1 : Hid (lo3 s = 0) := by show _ = _; rw [hl1.out, hneg]; rfl
        have e2 : Hid (hi3 s = 0) := by show _ = _; rw [hl2.out, hneg]; rfl
        clear hneg
        go_wp2_with fail
        refine ⟨⟨i + 1, by omega, by go_num, trivial, ?_, ?_⟩, by simp [intOf]; omega⟩
        · rw [hsc.out, e1.out, Int.add_zero]
        · rw [hsc2.out, e2.out, Int.add_zero]
    · have he := Lib.hid (sumF_all lo3 (ss := L.map (·.1)) (i := i) (by rw [hnR.out]; omega))
      have he2 := Lib.hid (sumF_all hi3 (ss := L.map (·.1)) (i := i) (by rw [hnR.out]; omega))
      have hlti : ¬ (i : Int) < n := by omega
      rw [he.out, he2.out]
      go_wp2_with fail
      go_ret2
      exact ⟨rfl, hb.out⟩
end Go.Proofs.Ytkibnbcdmkogkaa
