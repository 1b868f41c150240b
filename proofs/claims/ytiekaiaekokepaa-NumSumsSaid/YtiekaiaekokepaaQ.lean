/-
  The walks of the law NumSums at every slice of 1 to 60 whole numbers in memory and every place where it is parted: the call returns true.
-/
import Derived.Test.YtiekaiaekokepaaM
import Derived.ShutString
import Derived.ChangeOld
namespace Go.Proofs.Ytiekaiaekokepaa
open Go.ChangeShapes Go.WideShapes Go.ChangeAt Go.RowKit
set_option linter.unusedVariables false
theorem Try.info3 : (Try.prog.info? 3).map (fun i => (i.zero, i.size, i.bytes)) = some (some (.int .i64 0), 1, 8) := by kernel_rfl
theorem sum_n (a : Option Addr) (n cap : Nat) (zs : List Int) (w : World) (N E : Int) (hn : n = zs.length) (hz : IntsAt .i64 w a zs) (hl : zs.length ≤ 1000) (hw : ∀ z ∈ zs, fits z = true) (hN : sumN zs = N) (hE : sumE zs = E) :
    Calls Try.prog 13 #[.slice a n cap] w fun e w' => e = .returned (.tuple #[.int .i64 N, .int .i64 E]) ∧ w = w' := by
  subst hn hN hE
  exact sum_any a cap zs w hz (by omega) hw
theorem sumS_append (xs : List Int) : ∀ (n : Int) (ys : List Int), sumS n (xs ++ ys) = (sumS n xs).bind (fun m => sumS m ys) := by
  induction xs with
  | nil => intro n ys; rfl
  | cons x r ih =>
    intro n ys
    simp only [List.cons_append, sumS]
    split
    · exact ih _ ys
    · rfl
theorem sum_none (xs ys : List Int) (h : sumS 0 xs = none) : sumN xs = 0 ∧ sumE xs = 12 ∧ sumN (xs ++ ys) = 0 ∧ sumE (xs ++ ys) = 12 := by
  simp [sumN, sumE, sumS_append, h]
theorem sum_some (xs ys : List Int) (m : Int) (h : sumS 0 xs = some m) : sumN xs = m ∧ sumE xs = 0 ∧ sumN (m :: ys) = sumN (xs ++ ys) ∧ sumE (m :: ys) = sumE (xs ++ ys) ∧ fits m = true := by
  have hf := sumS_fits xs 0 m (by decide) h
  simp [sumN, sumE, sumS_append, h, sumS, hf]
theorem ints_of_row3 {base g n cap : Nat} {zs : List Int} {w : World} (h : w.ownsRow base 3 1 (.slice (some ⟨g, 0, none⟩) n cap) n (zs.map (Value.int .i64))) (hn : zs.length = n) : IntsAt .i64 w (some ⟨g, 0, none⟩) zs := by
  refine .inr ⟨g, 0, rfl, ?_, fun i hi => ?_⟩
  · rcases h.2 with ⟨e, _⟩ | ⟨g', _, cur, e, _, hgb, _⟩
    · cases e
    · cases e; exact (Array.getElem?_eq_some_iff.1 hgb).1
  · have := h.cellAt i (by omega)
    rw [Nat.zero_add, this]
    simp [hi]
theorem add_addr (b o j : Nat) : (⟨b, o, none⟩ : Addr).add j = ⟨b, o + j, none⟩ := by unfold Addr.add; split <;> simp_all
theorem cell_old {w : World} {a : Addr} {u : Value} (o : Obj) (h : w.cell? a = some u) : (w.alloc o).cell? a = some u := by
  by_cases hl : a.block < w.heap.size
  · exact (World.cell?_of_block (Below.heap_alloc w o a.block hl)).trans h
  · have : w.heap[a.block]? = none := by simp; omega
    simp [World.cell?, this] at h
theorem sum_one (zs : List Int) (hw : ∀ z ∈ zs, fits z = true) (h : zs.length = 1) : sumN zs = zs[0]?.getD 0 ∧ sumE zs = 0 := by
  match zs, h with
  | [z], _ => have := hw z (by simp); simp [sumN, sumE, sumS, this]
theorem news_at (b off k : Nat) (zs : List Int) (w : World) (m : Int) (hc : ∀ i, i < zs.length → w.cell? ⟨b, off + i, none⟩ = some (.int .i64 (zs[i]?.getD 0)))
    (ad : Addr) (had : k < zs.length → ad = ⟨b, off + k, none⟩) : ∀ j u, ((zs.drop k).map (Value.int .i64))[j]? = some u → (w.alloc (.cells #[.int .i64 m] 3)).cell? (ad.add j) = some u := by
  intro j u hu
  refine cell_old _ ?_
  rw [List.getElem?_map, Option.map_eq_some_iff] at hu
  obtain ⟨z, hz, rfl⟩ := hu
  obtain ⟨hj, hz⟩ := List.getElem?_eq_some_iff.1 hz
  simp at hj
  rw [had (by omega), add_addr, Nat.add_assoc, hc (k + j) (by omega)]
  simp at hz
  simp [← hz, show k + j < zs.length by omega]
theorem ones_at (zs : List Int) : ∀ u ∈ zs.map (Value.int .i64), u.oneCell' = true := by
  intro u hu; simp only [List.mem_map] at hu; obtain ⟨z, _, rfl⟩ := hu; rfl
set_option maxRecDepth 100000 in
set_option maxHeartbeats 2000000 in
theorem sums_mid (b off cap k : Nat) (at_ : Int) (zs : List Int) (w : World) (hc : ∀ i, i < zs.length → w.cell? ⟨b, off + i, none⟩ = some (.int .i64 (zs[i]?.getD 0))) (hb : b < w.heap.size)
    (hl0 : 0 < zs.length) (hl : zs.length ≤ 60) (hcap : zs.length ≤ cap) (hkz : k ≤ zs.length) (hw : ∀ z ∈ zs, fits z = true) (hkc : ¬ k = cap) (HK : Hid (k = k)) :
    Calls Try.prog 6 #[.slice (some ⟨b, off, none⟩) zs.length cap, .int .i64 k] w fun e w' => e = .returned (.bool true) ∧ Below w.heap.size w w' := by
  obtain ⟨i0, hi, hz0, hz1, hz2⟩ := info_parts Try.info3
  have hi := Lib.hid hi
  have hA : IntsAt .i64 w (some ⟨b, off, none⟩) zs := .inr ⟨b, off, rfl, hb, hc⟩
  have hX : IntsAt .i64 w (some ⟨b, off, none⟩) (zs.take k) := .inr ⟨b, off, rfl, hb, fun i hi => by
    simp at hi; rw [hc i (by omega), List.getElem?_take, if_pos (by omega)]⟩
  have hwx : ∀ z ∈ zs.take k, fits z = true := fun z hz => hw z (List.mem_of_mem_take hz)
  have hwy : ∀ z ∈ zs.drop k, fits z = true := fun z hz => hw z (List.mem_of_mem_drop hz)
  have happ : zs.take k ++ zs.drop k = zs := List.take_append_drop k zs
  have hlx : k = (zs.take k).length := by have := HK.out; simp; omega
  have hl60 : decide ((60 : Int) < zs.length) = false := by simp; omega
  cases hs : sumS 0 (zs.take k) with
  | none =>
    obtain ⟨g1, g2, g3, g4⟩ := sum_none _ (zs.drop k) hs
    rw [happ] at g3 g4
    have hS1 := Lib.hid (sum_n _ _ cap zs w 0 12 rfl hA (by omega) hw g3 g4)
    have hS2 := Lib.hid (sum_n _ _ cap (zs.take k) w 0 12 hlx hX (by simp; omega) hwx g1 g2)
    clear hA hX hwx hwy happ hlx g1 g2 g3 g4 hs hc hw
    go_enter Try.func6, Try.ntmps6
    go_wp2_with fail
    (with_reducible refine hS1.out.mono ?_)
    rintro e w' ⟨rfl, rfl⟩
    go_wp2_with fail
    (with_reducible refine hS2.out.mono ?_)
    rintro e w' ⟨rfl, rfl⟩
    go_wp2_with fail
    (with_reducible refine (wakes_any _).mono ?_)
    rintro e w' ⟨rfl, hbl⟩
    go_wp2
    go_ret
    exact ⟨rfl, hbl⟩
  | some m =>
    obtain ⟨g1, g2, g3, g4, hfm⟩ := sum_some _ (zs.drop k) m hs
    rw [happ] at g3 g4
    have hone : zs.length = 1 → sumN zs = zs[0]?.getD 0 ∧ sumE zs = 0 := sum_one zs hw
    have hc0 := Lib.hid (hc 0 hl0)
    have hS1 := Lib.hid (sum_n _ _ cap zs w _ _ rfl hA (by omega) hw rfl rfl)
    have hS2 := Lib.hid (sum_n _ _ cap (zs.take k) w m 0 hlx hX (by simp; omega) hwx g1 g2)
    have hnc := Lib.hid (news_at b off k zs w m hc ⟨b, off + k, none⟩ (by intro hk; have := HK.out; first | rfl | (exfalso; omega) | (rw [this]; rfl)))
    generalize sumN zs = A at *
    generalize sumE zs = E at *
    have hnl : Hid (((zs.drop k).map (Value.int .i64)).length = (zs.length - k) * 1) := by have := HK.out; show _ = _; simp; try omega
    have hn1 := Lib.hid (ones_at (zs.drop k))
    have hl3 : Hid ((zs.length - k) + 1 = (m :: zs.drop k).length) := by have := HK.out; show _ = _; simp; try omega
    have G3 := Lib.hid g3
    have G4 := Lib.hid g4
    have HW := Lib.hid hwy
    have HONE := Lib.hid hone
    clear hA hX hwx hwy happ hlx g1 g2 g3 g4 hs hw hc hone
    go_enter Try.func6, Try.ntmps6
    go_wp2_with fail
    (with_reducible refine hS1.out.mono ?_)
    rintro e w' ⟨rfl, rfl⟩
    go_wp2_with fail
    (with_reducible refine hS2.out.mono ?_)
    rintro e w' ⟨rfl, rfl⟩
    clear hS1 hS2
    have hlit : (w.alloc (.cells #[.int .i64 m] 3)).ownsRow w.heap.size 3 1 (.slice (some ⟨w.heap.size, 0, none⟩) 1 1) 1 [.int .i64 m] :=
      ⟨rfl, .inr ⟨_, _, _, rfl, Nat.le_refl _, World.alloc_heap_new w _, Nat.le_refl _, by decide, rfl, rfl⟩⟩
    go_wp2_with (at_builtin; refine wpList_append_own _ rfl _ _ 22 rfl w.heap.size 3 i0 (.int .i64 0) 1 8 Try.underlying22 hi.out hz0 hz1 hz2 rfl (by decide) _ _ _ rfl hlit ⟨b, off + k, none⟩ (zs.length - k) (cap - k) ((zs.drop k).map (Value.int .i64)) rfl hnl hnc hn1 (by unfold maxLen; omega) (by omega) (by simp) ?_; intro v' w1 hown' hgrow _)
    rw [Nat.add_comm] at hown'
    obtain ⟨g', cap', rfl⟩ := ownsRow_succ hown'
    have hown2 : w1.ownsRow w.heap.size 3 1 (.slice (some ⟨g', 0, none⟩) ((zs.length - k) + 1) cap') ((zs.length - k) + 1) ((m :: zs.drop k).map (Value.int .i64)) := by simpa using hown'
    have hS3 := Lib.hid (sum_n _ ((zs.length - k) + 1) cap' (m :: zs.drop k) w1 A E hl3 (ints_of_row3 hown2 hl3.out.symm) (by simp; omega) (by intro z hz; simp at hz; rcases hz with rfl | hz; exact hfm; exact HW.out z hz) G3.out G4.out)
    (with_reducible refine hS3.out.mono ?_)
    rintro e w' ⟨rfl, rfl⟩
    have hbl0 : Below w.heap.size w w1 := ((Below.refl w.heap.size w).alloc (Nat.le_refl _) _).grown hgrow (by simp) (fun j e => by cases e; exact Nat.le_refl _)
    have hcl : w1.cell? ⟨b, off, none⟩ = some (.int .i64 (zs[0]?.getD 0)) := (hbl0.cell (p := ⟨b, off, none⟩) hb).trans hc0.out
    clear hown' hown2 hgrow hlit hS3
    have hS4 := Lib.hid (sum_n none 0 0 [] w1 0 0 rfl (.inl rfl) (by simp) (by simp) rfl rfl)
    go_wp2_with fail
    (with_reducible refine hS4.out.mono ?_)
    rintro e w' ⟨rfl, rfl⟩
    by_cases h1 : zs.length = 1
    · obtain ⟨rfl, rfl⟩ := HONE.out h1
      generalize zs[0]?.getD 0 = z at *
      have h1b : ((zs.length : Int) != 1) = false := by simp [h1]
      have h1c : ((zs.length : Int) == 1) = true := by simp [h1]
      have H1 := Lib.hid h1
      clear h1
      go_wp2_with fail
      (with_reducible refine (wakes_any _).mono ?_)
      rintro e w' ⟨rfl, hbl⟩
      go_wp2
      go_ret
      exact ⟨rfl, hbl0.trans (hbl.mono hbl0.size)⟩
    · have h1b : ((zs.length : Int) != 1) = true := by simp; omega
      have h1c : ((zs.length : Int) == 1) = false := by simp; omega
      go_wp2_with fail
      (with_reducible refine (wakes_any _).mono ?_)
      rintro e w' ⟨rfl, hbl⟩
      go_wp2
      go_ret
      exact ⟨rfl, hbl0.trans (hbl.mono hbl0.size)⟩
set_option maxRecDepth 100000 in
set_option maxHeartbeats 2000000 in
theorem sums_full (b off cap k : Nat) (at_ : Int) (zs : List Int) (w : World) (hc : ∀ i, i < zs.length → w.cell? ⟨b, off + i, none⟩ = some (.int .i64 (zs[i]?.getD 0))) (hb : b < w.heap.size)
    (hl0 : 0 < zs.length) (hl : zs.length ≤ 60) (hcap : zs.length ≤ zs.length) (hkz : k ≤ zs.length) (hw : ∀ z ∈ zs, fits z = true)  (HK : Hid (k = zs.length)) :
    Calls Try.prog 6 #[.slice (some ⟨b, off, none⟩) zs.length zs.length, .int .i64 (zs.length : Nat)] w fun e w' => e = .returned (.bool true) ∧ Below w.heap.size w w' := by
  obtain ⟨i0, hi, hz0, hz1, hz2⟩ := info_parts Try.info3
  have hi := Lib.hid hi
  have hA : IntsAt .i64 w (some ⟨b, off, none⟩) zs := .inr ⟨b, off, rfl, hb, hc⟩
  have hX : IntsAt .i64 w (some ⟨b, off, none⟩) (zs.take k) := .inr ⟨b, off, rfl, hb, fun i hi => by
    simp at hi; rw [hc i (by omega), List.getElem?_take, if_pos (by omega)]⟩
  have hwx : ∀ z ∈ zs.take k, fits z = true := fun z hz => hw z (List.mem_of_mem_take hz)
  have hwy : ∀ z ∈ zs.drop k, fits z = true := fun z hz => hw z (List.mem_of_mem_drop hz)
  have happ : zs.take k ++ zs.drop k = zs := List.take_append_drop k zs
  have hlx : zs.length = (zs.take k).length := by have := HK.out; simp; omega
  have hl60 : decide ((60 : Int) < zs.length) = false := by simp; omega
  cases hs : sumS 0 (zs.take k) with
  | none =>
    obtain ⟨g1, g2, g3, g4⟩ := sum_none _ (zs.drop k) hs
    rw [happ] at g3 g4
    have hS1 := Lib.hid (sum_n _ _ zs.length zs w 0 12 rfl hA (by omega) hw g3 g4)
    have hS2 := Lib.hid (sum_n _ _ zs.length (zs.take k) w 0 12 hlx hX (by simp; omega) hwx g1 g2)
    clear hA hX hwx hwy happ hlx g1 g2 g3 g4 hs hc hw
    go_enter Try.func6, Try.ntmps6
    go_wp2_with fail
    (with_reducible refine hS1.out.mono ?_)
    rintro e w' ⟨rfl, rfl⟩
    go_wp2_with fail
    (with_reducible refine hS2.out.mono ?_)
    rintro e w' ⟨rfl, rfl⟩
    go_wp2_with fail
    (with_reducible refine (wakes_any _).mono ?_)
    rintro e w' ⟨rfl, hbl⟩
    go_wp2
    go_ret
    exact ⟨rfl, hbl⟩
  | some m =>
    obtain ⟨g1, g2, g3, g4, hfm⟩ := sum_some _ (zs.drop k) m hs
    rw [happ] at g3 g4
    have hone : zs.length = 1 → sumN zs = zs[0]?.getD 0 ∧ sumE zs = 0 := sum_one zs hw
    have hc0 := Lib.hid (hc 0 hl0)
    have hS1 := Lib.hid (sum_n _ _ zs.length zs w _ _ rfl hA (by omega) hw rfl rfl)
    have hS2 := Lib.hid (sum_n _ _ zs.length (zs.take k) w m 0 hlx hX (by simp; omega) hwx g1 g2)
    have hnc := Lib.hid (news_at b off k zs w m hc ⟨b, off, none⟩ (by intro hk; have := HK.out; first | rfl | (exfalso; omega) | (rw [this]; rfl)))
    generalize sumN zs = A at *
    generalize sumE zs = E at *
    have hnl : Hid (((zs.drop k).map (Value.int .i64)).length = 0 * 1) := by have := HK.out; show _ = _; simp; try omega
    have hn1 := Lib.hid (ones_at (zs.drop k))
    have hl3 : Hid (0 + 1 = (m :: zs.drop k).length) := by have := HK.out; show _ = _; simp; try omega
    have G3 := Lib.hid g3
    have G4 := Lib.hid g4
    have HW := Lib.hid hwy
    have HONE := Lib.hid hone
    clear hA hX hwx hwy happ hlx g1 g2 g3 g4 hs hw hc hone
    go_enter Try.func6, Try.ntmps6
    go_wp2_with fail
    (with_reducible refine hS1.out.mono ?_)
    rintro e w' ⟨rfl, rfl⟩
    go_wp2_with fail
    (with_reducible refine hS2.out.mono ?_)
    rintro e w' ⟨rfl, rfl⟩
    clear hS1 hS2
    have hlit : (w.alloc (.cells #[.int .i64 m] 3)).ownsRow w.heap.size 3 1 (.slice (some ⟨w.heap.size, 0, none⟩) 1 1) 1 [.int .i64 m] :=
      ⟨rfl, .inr ⟨_, _, _, rfl, Nat.le_refl _, World.alloc_heap_new w _, Nat.le_refl _, by decide, rfl, rfl⟩⟩
    go_wp2_with (at_builtin; refine wpList_append_own _ rfl _ _ 22 rfl w.heap.size 3 i0 (.int .i64 0) 1 8 Try.underlying22 hi.out hz0 hz1 hz2 rfl (by decide) _ _ _ rfl hlit ⟨b, off, none⟩ 0 0 ((zs.drop k).map (Value.int .i64)) rfl hnl hnc hn1 (by unfold maxLen; omega) (by omega) (by simp) ?_; intro v' w1 hown' hgrow _)
    rw [Nat.add_comm] at hown'
    obtain ⟨g', cap', rfl⟩ := ownsRow_succ hown'
    have hown2 : w1.ownsRow w.heap.size 3 1 (.slice (some ⟨g', 0, none⟩) (0 + 1) cap') (0 + 1) ((m :: zs.drop k).map (Value.int .i64)) := by simpa using hown'
    have hS3 := Lib.hid (sum_n _ (0 + 1) cap' (m :: zs.drop k) w1 A E hl3 (ints_of_row3 hown2 hl3.out.symm) (by simp; omega) (by intro z hz; simp at hz; rcases hz with rfl | hz; exact hfm; exact HW.out z hz) G3.out G4.out)
    (with_reducible refine hS3.out.mono ?_)
    rintro e w' ⟨rfl, rfl⟩
    have hbl0 : Below w.heap.size w w1 := ((Below.refl w.heap.size w).alloc (Nat.le_refl _) _).grown hgrow (by simp) (fun j e => by cases e; exact Nat.le_refl _)
    have hcl : w1.cell? ⟨b, off, none⟩ = some (.int .i64 (zs[0]?.getD 0)) := (hbl0.cell (p := ⟨b, off, none⟩) hb).trans hc0.out
    clear hown' hown2 hgrow hlit hS3
    have hS4 := Lib.hid (sum_n none 0 0 [] w1 0 0 rfl (.inl rfl) (by simp) (by simp) rfl rfl)
    go_wp2_with fail
    (with_reducible refine hS4.out.mono ?_)
    rintro e w' ⟨rfl, rfl⟩
    by_cases h1 : zs.length = 1
    · obtain ⟨rfl, rfl⟩ := HONE.out h1
      generalize zs[0]?.getD 0 = z at *
      have h1b : ((zs.length : Int) != 1) = false := by simp [h1]
      have h1c : ((zs.length : Int) == 1) = true := by simp [h1]
      have H1 := Lib.hid h1
      clear h1
      go_wp2_with fail
      (with_reducible refine (wakes_any _).mono ?_)
      rintro e w' ⟨rfl, hbl⟩
      go_wp2
      go_ret
      exact ⟨rfl, hbl0.trans (hbl.mono hbl0.size)⟩
    · have h1b : ((zs.length : Int) != 1) = true := by simp; omega
      have h1c : ((zs.length : Int) == 1) = false := by simp; omega
      go_wp2_with fail
      (with_reducible refine (wakes_any _).mono ?_)
      rintro e w' ⟨rfl, hbl⟩
      go_wp2
      go_ret
      exact ⟨rfl, hbl0.trans (hbl.mono hbl0.size)⟩
set_option maxRecDepth 100000 in
set_option maxHeartbeats 2000000 in
theorem sums_below (b off cap k : Nat) (at_ : Int) (zs : List Int) (w : World) (hc : ∀ i, i < zs.length → w.cell? ⟨b, off + i, none⟩ = some (.int .i64 (zs[i]?.getD 0))) (hb : b < w.heap.size)
    (hl0 : 0 < zs.length) (hl : zs.length ≤ 60) (hcap : zs.length ≤ cap) (hkz : k ≤ zs.length) (hw : ∀ z ∈ zs, fits z = true) (hat : at_ < 0) (HK : Hid (k = 0)) :
    Calls Try.prog 6 #[.slice (some ⟨b, off, none⟩) zs.length cap, .int .i64 at_] w fun e w' => e = .returned (.bool true) ∧ Below w.heap.size w w' := by
  obtain ⟨i0, hi, hz0, hz1, hz2⟩ := info_parts Try.info3
  have hi := Lib.hid hi
  have hA : IntsAt .i64 w (some ⟨b, off, none⟩) zs := .inr ⟨b, off, rfl, hb, hc⟩
  have hX : IntsAt .i64 w (some ⟨b, off, none⟩) (zs.take k) := .inr ⟨b, off, rfl, hb, fun i hi => by
    simp at hi; rw [hc i (by omega), List.getElem?_take, if_pos (by omega)]⟩
  have hwx : ∀ z ∈ zs.take k, fits z = true := fun z hz => hw z (List.mem_of_mem_take hz)
  have hwy : ∀ z ∈ zs.drop k, fits z = true := fun z hz => hw z (List.mem_of_mem_drop hz)
  have happ : zs.take k ++ zs.drop k = zs := List.take_append_drop k zs
  have hlx : 0 = (zs.take k).length := by have := HK.out; simp; omega
  have hl60 : decide ((60 : Int) < zs.length) = false := by simp; omega
  cases hs : sumS 0 (zs.take k) with
  | none =>
    obtain ⟨g1, g2, g3, g4⟩ := sum_none _ (zs.drop k) hs
    rw [happ] at g3 g4
    have hS1 := Lib.hid (sum_n _ _ cap zs w 0 12 rfl hA (by omega) hw g3 g4)
    have hS2 := Lib.hid (sum_n _ _ cap (zs.take k) w 0 12 hlx hX (by simp; omega) hwx g1 g2)
    clear hA hX hwx hwy happ hlx g1 g2 g3 g4 hs hc hw
    go_enter Try.func6, Try.ntmps6
    go_wp2_with fail
    (with_reducible refine hS1.out.mono ?_)
    rintro e w' ⟨rfl, rfl⟩
    go_wp2_with fail
    (with_reducible refine hS2.out.mono ?_)
    rintro e w' ⟨rfl, rfl⟩
    go_wp2_with fail
    (with_reducible refine (wakes_any _).mono ?_)
    rintro e w' ⟨rfl, hbl⟩
    go_wp2
    go_ret
    exact ⟨rfl, hbl⟩
  | some m =>
    obtain ⟨g1, g2, g3, g4, hfm⟩ := sum_some _ (zs.drop k) m hs
    rw [happ] at g3 g4
    have hone : zs.length = 1 → sumN zs = zs[0]?.getD 0 ∧ sumE zs = 0 := sum_one zs hw
    have hc0 := Lib.hid (hc 0 hl0)
    have hS1 := Lib.hid (sum_n _ _ cap zs w _ _ rfl hA (by omega) hw rfl rfl)
    have hS2 := Lib.hid (sum_n _ _ cap (zs.take k) w m 0 hlx hX (by simp; omega) hwx g1 g2)
    have hnc := Lib.hid (news_at b off k zs w m hc ⟨b, off, none⟩ (by intro hk; have := HK.out; first | rfl | (exfalso; omega) | (rw [this]; rfl)))
    generalize sumN zs = A at *
    generalize sumE zs = E at *
    have hnl : Hid (((zs.drop k).map (Value.int .i64)).length = zs.length * 1) := by have := HK.out; show _ = _; simp; try omega
    have hn1 := Lib.hid (ones_at (zs.drop k))
    have hl3 : Hid (zs.length + 1 = (m :: zs.drop k).length) := by have := HK.out; show _ = _; simp; try omega
    have G3 := Lib.hid g3
    have G4 := Lib.hid g4
    have HW := Lib.hid hwy
    have HONE := Lib.hid hone
    clear hA hX hwx hwy happ hlx g1 g2 g3 g4 hs hw hc hone
    go_enter Try.func6, Try.ntmps6
    go_wp2_with fail
    (with_reducible refine hS1.out.mono ?_)
    rintro e w' ⟨rfl, rfl⟩
    go_wp2_with fail
    (with_reducible refine hS2.out.mono ?_)
    rintro e w' ⟨rfl, rfl⟩
    clear hS1 hS2
    have hlit : (w.alloc (.cells #[.int .i64 m] 3)).ownsRow w.heap.size 3 1 (.slice (some ⟨w.heap.size, 0, none⟩) 1 1) 1 [.int .i64 m] :=
      ⟨rfl, .inr ⟨_, _, _, rfl, Nat.le_refl _, World.alloc_heap_new w _, Nat.le_refl _, by decide, rfl, rfl⟩⟩
    go_wp2_with (at_builtin; refine wpList_append_own _ rfl _ _ 22 rfl w.heap.size 3 i0 (.int .i64 0) 1 8 Try.underlying22 hi.out hz0 hz1 hz2 rfl (by decide) _ _ _ rfl hlit ⟨b, off, none⟩ zs.length cap ((zs.drop k).map (Value.int .i64)) rfl hnl hnc hn1 (by unfold maxLen; omega) (by omega) (by simp) ?_; intro v' w1 hown' hgrow _)
    rw [Nat.add_comm] at hown'
    obtain ⟨g', cap', rfl⟩ := ownsRow_succ hown'
    have hown2 : w1.ownsRow w.heap.size 3 1 (.slice (some ⟨g', 0, none⟩) (zs.length + 1) cap') (zs.length + 1) ((m :: zs.drop k).map (Value.int .i64)) := by simpa using hown'
    have hS3 := Lib.hid (sum_n _ (zs.length + 1) cap' (m :: zs.drop k) w1 A E hl3 (ints_of_row3 hown2 hl3.out.symm) (by simp; omega) (by intro z hz; simp at hz; rcases hz with rfl | hz; exact hfm; exact HW.out z hz) G3.out G4.out)
    (with_reducible refine hS3.out.mono ?_)
    rintro e w' ⟨rfl, rfl⟩
    have hbl0 : Below w.heap.size w w1 := ((Below.refl w.heap.size w).alloc (Nat.le_refl _) _).grown hgrow (by simp) (fun j e => by cases e; exact Nat.le_refl _)
    have hcl : w1.cell? ⟨b, off, none⟩ = some (.int .i64 (zs[0]?.getD 0)) := (hbl0.cell (p := ⟨b, off, none⟩) hb).trans hc0.out
    clear hown' hown2 hgrow hlit hS3
    have hS4 := Lib.hid (sum_n none 0 0 [] w1 0 0 rfl (.inl rfl) (by simp) (by simp) rfl rfl)
    go_wp2_with fail
    (with_reducible refine hS4.out.mono ?_)
    rintro e w' ⟨rfl, rfl⟩
    by_cases h1 : zs.length = 1
    · obtain ⟨rfl, rfl⟩ := HONE.out h1
      generalize zs[0]?.getD 0 = z at *
      have h1b : ((zs.length : Int) != 1) = false := by simp [h1]
      have h1c : ((zs.length : Int) == 1) = true := by simp [h1]
      have H1 := Lib.hid h1
      clear h1
      go_wp2_with fail
      (with_reducible refine (wakes_any _).mono ?_)
      rintro e w' ⟨rfl, hbl⟩
      go_wp2
      go_ret
      exact ⟨rfl, hbl0.trans (hbl.mono hbl0.size)⟩
    · have h1b : ((zs.length : Int) != 1) = true := by simp; omega
      have h1c : ((zs.length : Int) == 1) = false := by simp; omega
      go_wp2_with fail
      (with_reducible refine (wakes_any _).mono ?_)
      rintro e w' ⟨rfl, hbl⟩
      go_wp2
      go_ret
      exact ⟨rfl, hbl0.trans (hbl.mono hbl0.size)⟩
set_option maxRecDepth 100000 in
set_option maxHeartbeats 2000000 in
theorem sums_over (b off cap k : Nat) (at_ : Int) (zs : List Int) (w : World) (hc : ∀ i, i < zs.length → w.cell? ⟨b, off + i, none⟩ = some (.int .i64 (zs[i]?.getD 0))) (hb : b < w.heap.size)
    (hl0 : 0 < zs.length) (hl : zs.length ≤ 60) (hcap : zs.length ≤ cap) (hkz : k ≤ zs.length) (hw : ∀ z ∈ zs, fits z = true) (hat : zs.length < at_) (hkc : ¬ zs.length = cap) (HK : Hid (k = zs.length)) :
    Calls Try.prog 6 #[.slice (some ⟨b, off, none⟩) zs.length cap, .int .i64 at_] w fun e w' => e = .returned (.bool true) ∧ Below w.heap.size w w' := by
  obtain ⟨i0, hi, hz0, hz1, hz2⟩ := info_parts Try.info3
  have hi := Lib.hid hi
  have hA : IntsAt .i64 w (some ⟨b, off, none⟩) zs := .inr ⟨b, off, rfl, hb, hc⟩
  have hX : IntsAt .i64 w (some ⟨b, off, none⟩) (zs.take k) := .inr ⟨b, off, rfl, hb, fun i hi => by
    simp at hi; rw [hc i (by omega), List.getElem?_take, if_pos (by omega)]⟩
  have hwx : ∀ z ∈ zs.take k, fits z = true := fun z hz => hw z (List.mem_of_mem_take hz)
  have hwy : ∀ z ∈ zs.drop k, fits z = true := fun z hz => hw z (List.mem_of_mem_drop hz)
  have happ : zs.take k ++ zs.drop k = zs := List.take_append_drop k zs
  have hlx : zs.length = (zs.take k).length := by have := HK.out; simp; omega
  have hl60 : decide ((60 : Int) < zs.length) = false := by simp; omega
  cases hs : sumS 0 (zs.take k) with
  | none =>
    obtain ⟨g1, g2, g3, g4⟩ := sum_none _ (zs.drop k) hs
    rw [happ] at g3 g4
    have hS1 := Lib.hid (sum_n _ _ cap zs w 0 12 rfl hA (by omega) hw g3 g4)
    have hS2 := Lib.hid (sum_n _ _ cap (zs.take k) w 0 12 hlx hX (by simp; omega) hwx g1 g2)
    clear hA hX hwx hwy happ hlx g1 g2 g3 g4 hs hc hw
    go_enter Try.func6, Try.ntmps6
    go_wp2_with fail
    (with_reducible refine hS1.out.mono ?_)
    rintro e w' ⟨rfl, rfl⟩
    go_wp2_with fail
    (with_reducible refine hS2.out.mono ?_)
    rintro e w' ⟨rfl, rfl⟩
    go_wp2_with fail
    (with_reducible refine (wakes_any _).mono ?_)
    rintro e w' ⟨rfl, hbl⟩
    go_wp2
    go_ret
    exact ⟨rfl, hbl⟩
  | some m =>
    obtain ⟨g1, g2, g3, g4, hfm⟩ := sum_some _ (zs.drop k) m hs
    rw [happ] at g3 g4
    have hone : zs.length = 1 → sumN zs = zs[0]?.getD 0 ∧ sumE zs = 0 := sum_one zs hw
    have hc0 := Lib.hid (hc 0 hl0)
    have hS1 := Lib.hid (sum_n _ _ cap zs w _ _ rfl hA (by omega) hw rfl rfl)
    have hS2 := Lib.hid (sum_n _ _ cap (zs.take k) w m 0 hlx hX (by simp; omega) hwx g1 g2)
    have hnc := Lib.hid (news_at b off k zs w m hc ⟨b, off + zs.length, none⟩ (by intro hk; have := HK.out; first | rfl | (exfalso; omega) | (rw [this]; rfl)))
    generalize sumN zs = A at *
    generalize sumE zs = E at *
    have hnl : Hid (((zs.drop k).map (Value.int .i64)).length = 0 * 1) := by have := HK.out; show _ = _; simp; try omega
    have hn1 := Lib.hid (ones_at (zs.drop k))
    have hl3 : Hid (0 + 1 = (m :: zs.drop k).length) := by have := HK.out; show _ = _; simp; try omega
    have G3 := Lib.hid g3
    have G4 := Lib.hid g4
    have HW := Lib.hid hwy
    have HONE := Lib.hid hone
    clear hA hX hwx hwy happ hlx g1 g2 g3 g4 hs hw hc hone
    go_enter Try.func6, Try.ntmps6
    go_wp2_with fail
    (with_reducible refine hS1.out.mono ?_)
    rintro e w' ⟨rfl, rfl⟩
    go_wp2_with fail
    (with_reducible refine hS2.out.mono ?_)
    rintro e w' ⟨rfl, rfl⟩
    clear hS1 hS2
    have hlit : (w.alloc (.cells #[.int .i64 m] 3)).ownsRow w.heap.size 3 1 (.slice (some ⟨w.heap.size, 0, none⟩) 1 1) 1 [.int .i64 m] :=
      ⟨rfl, .inr ⟨_, _, _, rfl, Nat.le_refl _, World.alloc_heap_new w _, Nat.le_refl _, by decide, rfl, rfl⟩⟩
    go_wp2_with (at_builtin; refine wpList_append_own _ rfl _ _ 22 rfl w.heap.size 3 i0 (.int .i64 0) 1 8 Try.underlying22 hi.out hz0 hz1 hz2 rfl (by decide) _ _ _ rfl hlit ⟨b, off + zs.length, none⟩ 0 (cap - zs.length) ((zs.drop k).map (Value.int .i64)) rfl hnl hnc hn1 (by unfold maxLen; omega) (by omega) (by simp) ?_; intro v' w1 hown' hgrow _)
    rw [Nat.add_comm] at hown'
    obtain ⟨g', cap', rfl⟩ := ownsRow_succ hown'
    have hown2 : w1.ownsRow w.heap.size 3 1 (.slice (some ⟨g', 0, none⟩) (0 + 1) cap') (0 + 1) ((m :: zs.drop k).map (Value.int .i64)) := by simpa using hown'
    have hS3 := Lib.hid (sum_n _ (0 + 1) cap' (m :: zs.drop k) w1 A E hl3 (ints_of_row3 hown2 hl3.out.symm) (by simp; omega) (by intro z hz; simp at hz; rcases hz with rfl | hz; exact hfm; exact HW.out z hz) G3.out G4.out)
    (with_reducible refine hS3.out.mono ?_)
    rintro e w' ⟨rfl, rfl⟩
    have hbl0 : Below w.heap.size w w1 := ((Below.refl w.heap.size w).alloc (Nat.le_refl _) _).grown hgrow (by simp) (fun j e => by cases e; exact Nat.le_refl _)
    have hcl : w1.cell? ⟨b, off, none⟩ = some (.int .i64 (zs[0]?.getD 0)) := (hbl0.cell (p := ⟨b, off, none⟩) hb).trans hc0.out
    clear hown' hown2 hgrow hlit hS3
    have hS4 := Lib.hid (sum_n none 0 0 [] w1 0 0 rfl (.inl rfl) (by simp) (by simp) rfl rfl)
    go_wp2_with fail
    (with_reducible refine hS4.out.mono ?_)
    rintro e w' ⟨rfl, rfl⟩
    by_cases h1 : zs.length = 1
    · obtain ⟨rfl, rfl⟩ := HONE.out h1
      generalize zs[0]?.getD 0 = z at *
      have h1b : ((zs.length : Int) != 1) = false := by simp [h1]
      have h1c : ((zs.length : Int) == 1) = true := by simp [h1]
      have H1 := Lib.hid h1
      clear h1
      go_wp2_with fail
      (with_reducible refine (wakes_any _).mono ?_)
      rintro e w' ⟨rfl, hbl⟩
      go_wp2
      go_ret
      exact ⟨rfl, hbl0.trans (hbl.mono hbl0.size)⟩
    · have h1b : ((zs.length : Int) != 1) = true := by simp; omega
      have h1c : ((zs.length : Int) == 1) = false := by simp; omega
      go_wp2_with fail
      (with_reducible refine (wakes_any _).mono ?_)
      rintro e w' ⟨rfl, hbl⟩
      go_wp2
      go_ret
      exact ⟨rfl, hbl0.trans (hbl.mono hbl0.size)⟩
set_option maxRecDepth 100000 in
set_option maxHeartbeats 2000000 in
theorem sums_overfull (b off cap k : Nat) (at_ : Int) (zs : List Int) (w : World) (hc : ∀ i, i < zs.length → w.cell? ⟨b, off + i, none⟩ = some (.int .i64 (zs[i]?.getD 0))) (hb : b < w.heap.size)
    (hl0 : 0 < zs.length) (hl : zs.length ≤ 60) (hcap : zs.length ≤ zs.length) (hkz : k ≤ zs.length) (hw : ∀ z ∈ zs, fits z = true) (hat : zs.length < at_) (HK : Hid (k = zs.length)) :
    Calls Try.prog 6 #[.slice (some ⟨b, off, none⟩) zs.length zs.length, .int .i64 at_] w fun e w' => e = .returned (.bool true) ∧ Below w.heap.size w w' := by
  obtain ⟨i0, hi, hz0, hz1, hz2⟩ := info_parts Try.info3
  have hi := Lib.hid hi
  have hA : IntsAt .i64 w (some ⟨b, off, none⟩) zs := .inr ⟨b, off, rfl, hb, hc⟩
  have hX : IntsAt .i64 w (some ⟨b, off, none⟩) (zs.take k) := .inr ⟨b, off, rfl, hb, fun i hi => by
    simp at hi; rw [hc i (by omega), List.getElem?_take, if_pos (by omega)]⟩
  have hwx : ∀ z ∈ zs.take k, fits z = true := fun z hz => hw z (List.mem_of_mem_take hz)
  have hwy : ∀ z ∈ zs.drop k, fits z = true := fun z hz => hw z (List.mem_of_mem_drop hz)
  have happ : zs.take k ++ zs.drop k = zs := List.take_append_drop k zs
  have hlx : zs.length = (zs.take k).length := by have := HK.out; simp; omega
  have hl60 : decide ((60 : Int) < zs.length) = false := by simp; omega
  cases hs : sumS 0 (zs.take k) with
  | none =>
    obtain ⟨g1, g2, g3, g4⟩ := sum_none _ (zs.drop k) hs
    rw [happ] at g3 g4
    have hS1 := Lib.hid (sum_n _ _ zs.length zs w 0 12 rfl hA (by omega) hw g3 g4)
    have hS2 := Lib.hid (sum_n _ _ zs.length (zs.take k) w 0 12 hlx hX (by simp; omega) hwx g1 g2)
    clear hA hX hwx hwy happ hlx g1 g2 g3 g4 hs hc hw
    go_enter Try.func6, Try.ntmps6
    go_wp2_with fail
    (with_reducible refine hS1.out.mono ?_)
    rintro e w' ⟨rfl, rfl⟩
    go_wp2_with fail
    (with_reducible refine hS2.out.mono ?_)
    rintro e w' ⟨rfl, rfl⟩
    go_wp2_with fail
    (with_reducible refine (wakes_any _).mono ?_)
    rintro e w' ⟨rfl, hbl⟩
    go_wp2
    go_ret
    exact ⟨rfl, hbl⟩
  | some m =>
    obtain ⟨g1, g2, g3, g4, hfm⟩ := sum_some _ (zs.drop k) m hs
    rw [happ] at g3 g4
    have hone : zs.length = 1 → sumN zs = zs[0]?.getD 0 ∧ sumE zs = 0 := sum_one zs hw
    have hc0 := Lib.hid (hc 0 hl0)
    have hS1 := Lib.hid (sum_n _ _ zs.length zs w _ _ rfl hA (by omega) hw rfl rfl)
    have hS2 := Lib.hid (sum_n _ _ zs.length (zs.take k) w m 0 hlx hX (by simp; omega) hwx g1 g2)
    have hnc := Lib.hid (news_at b off k zs w m hc ⟨b, off, none⟩ (by intro hk; have := HK.out; first | rfl | (exfalso; omega) | (rw [this]; rfl)))
    generalize sumN zs = A at *
    generalize sumE zs = E at *
    have hnl : Hid (((zs.drop k).map (Value.int .i64)).length = 0 * 1) := by have := HK.out; show _ = _; simp; try omega
    have hn1 := Lib.hid (ones_at (zs.drop k))
    have hl3 : Hid (0 + 1 = (m :: zs.drop k).length) := by have := HK.out; show _ = _; simp; try omega
    have G3 := Lib.hid g3
    have G4 := Lib.hid g4
    have HW := Lib.hid hwy
    have HONE := Lib.hid hone
    clear hA hX hwx hwy happ hlx g1 g2 g3 g4 hs hw hc hone
    go_enter Try.func6, Try.ntmps6
    go_wp2_with fail
    (with_reducible refine hS1.out.mono ?_)
    rintro e w' ⟨rfl, rfl⟩
    go_wp2_with fail
    (with_reducible refine hS2.out.mono ?_)
    rintro e w' ⟨rfl, rfl⟩
    clear hS1 hS2
    have hlit : (w.alloc (.cells #[.int .i64 m] 3)).ownsRow w.heap.size 3 1 (.slice (some ⟨w.heap.size, 0, none⟩) 1 1) 1 [.int .i64 m] :=
      ⟨rfl, .inr ⟨_, _, _, rfl, Nat.le_refl _, World.alloc_heap_new w _, Nat.le_refl _, by decide, rfl, rfl⟩⟩
    go_wp2_with (at_builtin; refine wpList_append_own _ rfl _ _ 22 rfl w.heap.size 3 i0 (.int .i64 0) 1 8 Try.underlying22 hi.out hz0 hz1 hz2 rfl (by decide) _ _ _ rfl hlit ⟨b, off, none⟩ 0 0 ((zs.drop k).map (Value.int .i64)) rfl hnl hnc hn1 (by unfold maxLen; omega) (by omega) (by simp) ?_; intro v' w1 hown' hgrow _)
    rw [Nat.add_comm] at hown'
    obtain ⟨g', cap', rfl⟩ := ownsRow_succ hown'
    have hown2 : w1.ownsRow w.heap.size 3 1 (.slice (some ⟨g', 0, none⟩) (0 + 1) cap') (0 + 1) ((m :: zs.drop k).map (Value.int .i64)) := by simpa using hown'
    have hS3 := Lib.hid (sum_n _ (0 + 1) cap' (m :: zs.drop k) w1 A E hl3 (ints_of_row3 hown2 hl3.out.symm) (by simp; omega) (by intro z hz; simp at hz; rcases hz with rfl | hz; exact hfm; exact HW.out z hz) G3.out G4.out)
    (with_reducible refine hS3.out.mono ?_)
    rintro e w' ⟨rfl, rfl⟩
    have hbl0 : Below w.heap.size w w1 := ((Below.refl w.heap.size w).alloc (Nat.le_refl _) _).grown hgrow (by simp) (fun j e => by cases e; exact Nat.le_refl _)
    have hcl : w1.cell? ⟨b, off, none⟩ = some (.int .i64 (zs[0]?.getD 0)) := (hbl0.cell (p := ⟨b, off, none⟩) hb).trans hc0.out
    clear hown' hown2 hgrow hlit hS3
    have hS4 := Lib.hid (sum_n none 0 0 [] w1 0 0 rfl (.inl rfl) (by simp) (by simp) rfl rfl)
    go_wp2_with fail
    (with_reducible refine hS4.out.mono ?_)
    rintro e w' ⟨rfl, rfl⟩
    by_cases h1 : zs.length = 1
    · obtain ⟨rfl, rfl⟩ := HONE.out h1
      generalize zs[0]?.getD 0 = z at *
      have h1b : ((zs.length : Int) != 1) = false := by simp [h1]
      have h1c : ((zs.length : Int) == 1) = true := by simp [h1]
      have H1 := Lib.hid h1
      clear h1
      go_wp2_with fail
      (with_reducible refine (wakes_any _).mono ?_)
      rintro e w' ⟨rfl, hbl⟩
      go_wp2
      go_ret
      exact ⟨rfl, hbl0.trans (hbl.mono hbl0.size)⟩
    · have h1b : ((zs.length : Int) != 1) = true := by simp; omega
      have h1c : ((zs.length : Int) == 1) = false := by simp; omega
      go_wp2_with fail
      (with_reducible refine (wakes_any _).mono ?_)
      rintro e w' ⟨rfl, hbl⟩
      go_wp2
      go_ret
      exact ⟨rfl, hbl0.trans (hbl.mono hbl0.size)⟩
end Go.Proofs.Ytiekaiaekokepaa
