/-
  Contracts of the document's own Size, Take, part, Make, and of its Right where it says no; conditions: the bounds that are named.
-/
import Derived.Test.YtepbjjddpfejnaaAI
namespace Go.Proofs.Ytepbjjddpfejnaa
open Go.ChangeShapes Go.WideShapes Go.ChangeAt Go.RowKit
set_option linter.unusedVariables false
set_option linter.unusedSimpArgs false
theorem refSize_event (w : World) : Calls Try.prog 21 #[.int .u8 1] w fun e w' => e = .returned (.int .i64 20) ∧ w = w' := by
  go_enter Try.func21, Try.ntmps21
  go_wp2
  go_ret
  exact ⟨rfl, rfl⟩
theorem refSize_mark (w : World) : Calls Try.prog 21 #[.int .u8 2] w fun e w' => e = .returned (.int .i64 8) ∧ w = w' := by
  go_enter Try.func21, Try.ntmps21
  go_wp2
  go_ret
  exact ⟨rfl, rfl⟩
theorem refSize_none (z : Int) (h1 : (z == 1) = false) (h2 : (z == 2) = false) (w : World) : Calls Try.prog 21 #[.int .u8 z] w fun e w' => e = .returned (.int .i64 0) ∧ w = w' := by
  go_enter Try.func21, Try.ntmps21
  go_wp2
  go_ret
  exact ⟨rfl, rfl⟩
set_option maxHeartbeats 1000000 in
theorem refNum (b off : Nat) (cap : Nat) (zs : List Int) (w : World) (hZ : Hid (∀ i, i < zs.length → w.cell? ⟨b, off + i, none⟩ = some (.int .u8 (zs[i]?.getD 0)))) (h7 : zs.length < 7) (h0 : 0 < zs.length) (hc : zs.length ≤ cap) (hW : Hid (∀ z ∈ zs, isByte z)) :
    Calls Try.prog 22 #[.slice (some ⟨b, off, none⟩) zs.length cap] w fun e w' => e = .returned (.int .i64 (takeN zs)) ∧ w = w' := by
  have hcap : ¬ cap = 0 := by omega
  have hneg : ((zs.length : Int) - 7) ≤ 0 := by omega
  go_enter Try.func22, Try.ntmps22
  go_wp2
  go_loop [3, 4] (fun n i => ∃ k : Nat, k ≤ zs.length ∧ i = .int .i64 k ∧ n = .int .i64 (takeN (zs.take k))) (fun _ i => zs.length - (intOf i).toNat)
  case atStart => exact ⟨0, Nat.zero_le _, rfl, rfl⟩
  case round =>
    obtain ⟨k, hk, rfl, rfl⟩ := hrel
    by_cases hlt : k < zs.length
    · have hck := hZ.out k hlt
      have hki : (k : Int) < zs.length := by omega
      have hlk : k < zs.length := by omega
      obtain ⟨hz0, hz1⟩ : isByte (zs[k]?.getD 0) := hW.out _ (by simp [hlk])
      obtain ⟨hb0, hb1⟩ := takeN_bd6 (zs.take k) (fun z hz => hW.out z (List.mem_of_mem_take hz)) (by simp; omega)
      have hst := Lib.hid (takeN_take zs k hlk)
      clear hlk
      generalize takeN (zs.take k) = n at *
      generalize zs[k]?.getD 0 = z at *
      go_wp2
      exact ⟨⟨k + 1, by omega, by go_num, by rw [hst.out, Int.mul_comm 256 n]⟩, by simp [intOf]; omega⟩
    · obtain rfl : k = zs.length := by omega
      rw [List.take_of_length_le (by omega)]
      go_wp2
      go_ret
      exact ⟨rfl, rfl⟩
theorem refMake_yes (x y : Int) (hx : inB x = true) (hy : inB y = true) (w : World) : Calls Try.prog 23 #[.int .i64 x, .int .i64 y] w fun e w' => e = .returned (.tuple #[.complex .f64 (floatOfInt .f64 x) (floatOfInt .f64 y), .int .i64 0]) ∧ w = w' := by
  have bx := inB_spec hx
  have by_ := inB_spec hy
  have hcv : ∀ (n : Int) w, (convert 3 65 (.int .i64 n)).run Try.prog w = .ok (.float .f64 (floatOfInt .f64 n)) w := fun n w => run_convert_int_float w 3 65 .i64 .f64 _ (by rw [Try.underlying3]; rfl) Try.underlying65
  have a1 : decide (x < -1048576) = false := by simp; omega
  have a2 : decide (1048576 < x) = false := by simp; omega
  have a3 : decide (y < -1048576) = false := by simp; omega
  have a4 : decide (1048576 < y) = false := by simp; omega
  go_enter Try.func23, Try.ntmps23
  go_wp2_with (simp only [hcv])
  go_ret2
  exact ⟨rfl, rfl⟩
theorem refMake_no (x y : Int) (h : (inB x && inB y) = false) (w : World) : Calls Try.prog 23 #[.int .i64 x, .int .i64 y] w fun e w' => e = .returned (.tuple #[.complex .f64 0 0, .int .i64 20]) ∧ w = w' := by
  have hx : x < -1048576 ∨ 1048576 < x ∨ y < -1048576 ∨ 1048576 < y := by
    simp only [inB, Bool.and_eq_false_iff, decide_eq_false_iff_not] at h
    omega
  by_cases c1 : x < -1048576
  · have a1 : decide (x < -1048576) = true := by simp; omega
    go_enter Try.func23, Try.ntmps23
    go_wp2
    go_ret2
    exact ⟨rfl, rfl⟩
  have a1 : decide (x < -1048576) = false := by simp; omega
  by_cases c2 : 1048576 < x
  · have a2 : decide (1048576 < x) = true := by simp; omega
    clear c1
    go_enter Try.func23, Try.ntmps23
    go_wp2
    go_ret2
    exact ⟨rfl, rfl⟩
  have a2 : decide (1048576 < x) = false := by simp; omega
  by_cases c3 : y < -1048576
  · have a3 : decide (y < -1048576) = true := by simp; omega
    clear c1 c2
    go_enter Try.func23, Try.ntmps23
    go_wp2
    go_ret2
    exact ⟨rfl, rfl⟩
  have a3 : decide (y < -1048576) = false := by simp; omega
  have a4 : decide (1048576 < y) = true := by simp; omega
  clear c1 c2 c3
  go_enter Try.func23, Try.ntmps23
  go_wp2
  go_ret2
  exact ⟨rfl, rfl⟩
theorem refChunk (blk off s b cap L : Nat) (zs : List Int) (W : World) (hZ : ∀ i, i < L → W.cell? ⟨blk, off + i, none⟩ = some (.int .u8 (zs[i]?.getD 0))) (hlen : zs.length = L) (hW : ∀ z ∈ zs, isByte z) (hs : s + b ≤ L) (hb : b < 7) (h0 : 0 < b) (hcap : b ≤ cap) :
    Calls Try.prog 22 #[.slice (some ⟨blk, off + s, none⟩) b cap] W fun e w' => e = .returned (.int .i64 (takeN (ck zs s b))) ∧ W = w' := by
  have hl : (ck zs s b).length = b := by simp [ck]; omega
  have h := refNum blk (off + s) cap (ck zs s b) W (fun i hi => by
    rw [Nat.add_assoc, hZ (s + i) (by omega)]
    rw [hl] at hi
    simp [ck, hi]) (by omega) (by omega) (by omega) (fun z hz => hW z (List.mem_of_mem_drop (List.mem_of_mem_take hz)))
  rwa [hl] at h
set_option maxHeartbeats 400000 in
theorem refPart (s : Value) (a : Option Addr) (l c : Nat) (hs : s = .slice a l c) (n : Int) (w : World) (h : Calls Try.prog 22 #[s] w fun e w' => e = .returned (.int .i64 n) ∧ w = w') (h0 : 0 ≤ n) (h1 : n < 4294967296) :
    Calls Try.prog 24 #[s] w fun e w' => e = .returned (.int .i64 (part32 n)) ∧ w = w' := by
  subst hs
  have H := Lib.hid h
  clear h
  unfold part32
  by_cases hn : n < 2147483648
  · rw [if_pos hn]
    have hd : decide ((2147483648 : Int) ≤ n) = false := by simp; omega
    go_enter Try.func24, Try.ntmps24
    go_wp2_with fail
    (with_reducible refine H.out.mono ?_)
    rintro e w1 ⟨rfl, rfl⟩
    go_wp2
    go_ret
    exact ⟨rfl, rfl⟩
  · rw [if_neg hn]
    have hd : decide ((2147483648 : Int) ≤ n) = true := by simp; omega
    go_enter Try.func24, Try.ntmps24
    go_wp2_with fail
    (with_reducible refine H.out.mono ?_)
    rintro e w1 ⟨rfl, rfl⟩
    go_wp2
    go_ret
    exact ⟨rfl, rfl⟩
set_option maxRecDepth 100000 in
set_option maxHeartbeats 1000000 in
theorem refEvent_no (ts seq ek : Int) (p q : Nat) (t0 : 0 ≤ ts) (s0 : 0 ≤ seq) (k0 : 0 ≤ ek) (hno : ¬ (ts ≤ 1099511627776 ∧ seq ≤ 1048576 ∧ ek < 6)) (w : World) :
    Calls Try.prog 33 #[EV ts 0 seq ek p q] w fun e w' => e = .returned (.bool false) ∧ Below w.heap.size w w' := by
  have b0 : decide ((0 : Int) ≤ ts) = true := by simpa using t0
  have b1 : decide ((0 : Int) ≤ seq) = true := by simpa using s0
  have b2 : decide ((0 : Int) ≤ ek) = true := by simpa using k0
  by_cases c1 : ts ≤ 1099511627776
  · have d1 : decide (ts ≤ 1099511627776) = true := by simpa using c1
    by_cases c2 : seq ≤ 1048576
    · have d2 : decide (seq ≤ 1048576) = true := by simpa using c2
      have d3 : decide (ek < 6) = false := by simp; omega
      clear hno
      go_enter Try.func33, Try.ntmps33
      go_wp2
      go_ret
      exact ⟨rfl, (Below.refl _ _).alloc (Nat.le_refl _) _⟩
    · have d2 : decide (seq ≤ 1048576) = false := by simp; omega
      clear hno
      go_enter Try.func33, Try.ntmps33
      go_wp2
      go_ret
      exact ⟨rfl, (Below.refl _ _).alloc (Nat.le_refl _) _⟩
  · have d1 : decide (ts ≤ 1099511627776) = false := by simp; omega
    clear hno
    go_enter Try.func33, Try.ntmps33
    go_wp2
    go_ret
    exact ⟨rfl, (Below.refl _ _).alloc (Nat.le_refl _) _⟩
set_option maxRecDepth 100000 in
set_option maxHeartbeats 2000000 in
theorem refRight_event_no (ts src seq ek : Int) (p q : Nat) (t0 : 0 ≤ ts) (r0 : 0 ≤ src) (r1 : src ≤ 255) (s0 : 0 ≤ seq) (k0 : 0 ≤ ek) (hno : ¬ (ts ≤ 1099511627776 ∧ seq ≤ 1048576 ∧ ek < 6)) (w : World) :
    Calls Try.prog 25 #[RV 1 ts src seq ek p q 0 0] w fun e w' => e = .returned (.bool false) ∧ Below w.heap.size w w' := by
  have h := Lib.hid (refEvent_no ts seq ek p q t0 s0 k0 hno)
  clear hno
  go_enter Try.func25, Try.ntmps25
  go_wp2_with fail
  (with_reducible refine (h.out _).mono ?_)
  rintro e w1 ⟨rfl, hb⟩
  go_wp2
  go_ret
  exact ⟨rfl, Below.trans (below_two _ _ _) (hb.mono (by simp; omega))⟩
set_option maxRecDepth 100000 in
set_option maxHeartbeats 2000000 in
theorem refRight_mark_no (s t : Int) (r0 : 0 ≤ s) (r1 : s ≤ 255) (t0 : 0 ≤ t) (t1 : 1099511627776 < t) (w : World) :
    Calls Try.prog 25 #[RV 2 0 0 0 0 0 0 s t] w fun e w' => e = .returned (.bool false) ∧ Below w.heap.size w w' := by
  have d1 : decide (t ≤ 1099511627776) = false := by simp; omega
  have d0 : decide ((0 : Int) ≤ t) = true := by simpa using t0
  go_enter Try.func25, Try.ntmps25
  go_wp2_with fail
  (with_reducible refine (refSame_zero _).mono ?_)
  rintro e w1 ⟨rfl, hb⟩
  have hc6 := bcell hb (b := w.heap.size) (o := 6) (v := .int .i64 s) (by simp) (by simp [go_sem])
  have hc7 := bcell hb (b := w.heap.size) (o := 7) (v := .int .i64 t) (by simp) (by simp [go_sem])
  go_wp2
  go_ret
  exact ⟨rfl, ((Below.refl _ _).alloc (Nat.le_refl _) _).trans (hb.mono (by simp))⟩
end Go.Proofs.Ytepbjjddpfejnaa
