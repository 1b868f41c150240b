/-
  Contracts of the document's own answers for layer 1 (straggleref01): Take and Put answer as those of package num do.
-/
import Derived.Test.YtiekaiaekokepaaW
import Derived.Maps.AppendAt
namespace Go.Proofs.Ytiekaiaekokepaa
open Go.ChangeShapes Go.WideShapes Go.ChangeAt Go.RowKit
set_option linter.unusedVariables false
set_option maxHeartbeats 400000 in
theorem taker_small (b off : Nat) (cap : Nat) (zs : List Int) (w : World) (hZ : Hid (∀ i, i < zs.length → w.cell? ⟨b, off + i, none⟩ = some (.int .u8 (zs[i]?.getD 0)))) (h7 : zs.length < 7) (hc : zs.length ≤ cap) (hW : Hid (∀ z ∈ zs, isByte z)) :
    Calls Try.prog 22 #[.slice (some ⟨b, off, none⟩) zs.length cap] w fun e w' => e = .returned (.int .i64 (takeN zs)) ∧ w = w' := by
  go_enter Try.func22, Try.ntmps22
  go_wp2
  go_loop [3, 4] (fun n i => ∃ k : Nat, k ≤ zs.length ∧ i = .int .i64 k ∧ n = .int .i64 (takeN (zs.take k))) (fun _ i => zs.length - (intOf i).toNat)
  case atStart => exact ⟨0, Nat.zero_le _, rfl, rfl⟩
  case round =>
    obtain ⟨k, hk, rfl, rfl⟩ := hrel
    by_cases hlt : k < zs.length
    · have hck := hZ.out k hlt
      have hki : (k : Int) < zs.length := by omega
      have hlk : k < zs.length := by omega
      obtain ⟨hz0, hz1⟩ : isByte (zs[k]?.getD 0) := hW.out _ (by simp [hlk])
      obtain ⟨hb0, hb1⟩ := takeN_bd6 (zs.take k) (fun z hz => hW.out z (List.mem_of_mem_take hz)) (by simp; omega)
      have hst := Lib.hid (takeN_take zs k hlk)
      clear hlk
      generalize takeN (zs.take k) = n at *
      generalize zs[k]?.getD 0 = z at *
      go_wp2
      exact ⟨⟨k + 1, by omega, by go_num, by rw [hst.out, Int.mul_comm n 256]⟩, by simp [intOf]; omega⟩
    · obtain rfl : k = zs.length := by omega
      rw [List.take_of_length_le (by omega)]
      go_wp2
      go_ret
      exact ⟨rfl, rfl⟩
set_option maxHeartbeats 400000 in
theorem taker_seven (b off : Nat) (cap : Nat) (zs : List Int) (w : World) (hZ : Hid (∀ i, i < 7 → w.cell? ⟨b, off + i, none⟩ = some (.int .u8 (zs[i]?.getD 0)))) (h7 : Hid (zs.length = 7)) (hc : 7 ≤ cap) (hW : Hid (∀ z ∈ zs, isByte z)) :
    Calls Try.prog 22 #[.slice (some ⟨b, off, none⟩) 7 cap] w fun e w' => e = .returned (.int .i64 (takeN zs)) ∧ w = w' := by
  go_enter Try.func22, Try.ntmps22
  go_wp2
  go_loop [3, 4] (fun n i => ∃ k : Nat, k ≤ 7 ∧ i = .int .i64 k ∧ n = .int .i64 (takeN (zs.take k))) (fun _ i => 7 - (intOf i).toNat)
  case atStart => exact ⟨0, Nat.zero_le _, rfl, rfl⟩
  case round =>
    obtain ⟨k, hk, rfl, rfl⟩ := hrel
    by_cases hlt : k < 7
    · have hck := hZ.out k hlt
      have hki : (k : Int) < 7 := by omega
      have hlk : k < zs.length := by have := h7.out; omega
      obtain ⟨hz0, hz1⟩ : isByte (zs[k]?.getD 0) := hW.out _ (by simp [hlk])
      obtain ⟨hb0, hb1⟩ := takeN_bd6 (zs.take k) (fun z hz => hW.out z (List.mem_of_mem_take hz)) (by simp; omega)
      have hst := Lib.hid (takeN_take zs k hlk)
      clear hlk
      generalize takeN (zs.take k) = n at *
      generalize zs[k]?.getD 0 = z at *
      go_wp2
      exact ⟨⟨k + 1, by omega, by go_num, by rw [hst.out, Int.mul_comm n 256]⟩, by simp [intOf]; omega⟩
    · obtain rfl : k = 7 := by omega
      rw [List.take_of_length_le (by have := h7.out; omega)]
      go_wp2
      go_ret
      exact ⟨rfl, rfl⟩
set_option maxHeartbeats 400000 in
theorem taker_more (b off : Nat) (cap s : Nat) (zs : List Int) (w : World) (hs0 : 0 < s) (hs1 : s + 7 ≤ 140737488351232) (hZ : Hid (∀ i, i < 7 → w.cell? ⟨b, off + s + i, none⟩ = some (.int .u8 (zs[i]?.getD 0)))) (h7 : Hid (zs.length = 7)) (hc : s + 7 ≤ cap) (hW : Hid (∀ z ∈ zs, isByte z)) :
    Calls Try.prog 22 #[.slice (some ⟨b, off, none⟩) ((s + 7 : Nat)) cap] w fun e w' => e = .returned (.int .i64 (takeN zs)) ∧ w = w' := by
  go_enter Try.func22, Try.ntmps22
  go_wp2
  go_loop [3, 4] (fun n i => ∃ k : Nat, k ≤ 7 ∧ i = .int .i64 k ∧ n = .int .i64 (takeN (zs.take k))) (fun _ i => 7 - (intOf i).toNat)
  case atStart => exact ⟨0, Nat.zero_le _, rfl, rfl⟩
  case round =>
    obtain ⟨k, hk, rfl, rfl⟩ := hrel
    by_cases hlt : k < 7
    · have hck := hZ.out k hlt
      have hki : (k : Int) < 7 := by omega
      have hlk : k < zs.length := by have := h7.out; omega
      obtain ⟨hz0, hz1⟩ : isByte (zs[k]?.getD 0) := hW.out _ (by simp [hlk])
      obtain ⟨hb0, hb1⟩ := takeN_bd6 (zs.take k) (fun z hz => hW.out z (List.mem_of_mem_take hz)) (by simp; omega)
      have hst := Lib.hid (takeN_take zs k hlk)
      clear hlk
      generalize takeN (zs.take k) = n at *
      generalize zs[k]?.getD 0 = z at *
      go_wp2
      exact ⟨⟨k + 1, by omega, by go_num, by rw [hst.out, Int.mul_comm n 256]⟩, by simp [intOf]; omega⟩
    · obtain rfl : k = 7 := by omega
      rw [List.take_of_length_le (by have := h7.out; omega)]
      go_wp2
      go_ret
      exact ⟨rfl, rfl⟩
set_option maxHeartbeats 400000 in
theorem taker_nil (a : Option Addr) (cap : Nat) (w : World) :
    Calls Try.prog 22 #[.slice a 0 cap] w fun e w' => e = .returned (.int .i64 0) ∧ w = w' := by
  go_enter Try.func22, Try.ntmps22
  go_wp2
  go_loop [3, 4] (fun n i => i = .int .i64 0 ∧ n = .int .i64 0) (fun _ i => 0 - (intOf i).toNat)
  case atStart => exact ⟨rfl, rfl⟩
  case round =>
    obtain ⟨rfl, rfl⟩ := hrel
    go_wp2
    go_ret
    exact ⟨rfl, rfl⟩
theorem taker_any (a : Option Addr) (cap : Nat) (zs : List Int) (w : World) (hz : IntsAt .u8 w a zs) (hl : zs.length ≤ 140737488351232) (hc : zs.length ≤ cap) (hw : ∀ z ∈ zs, isByte z) :
    Calls Try.prog 22 #[.slice a zs.length cap] w fun e w' => e = .returned (.int .i64 (takeN (last7 zs))) ∧ w = w' := by
  rcases hz with rfl | ⟨b, off, rfl, _, hz⟩
  · exact taker_nil a cap w
  · by_cases h7 : zs.length < 7
    · rw [show last7 zs = zs by unfold last7; rw [show zs.length - 7 = 0 by omega]; rfl]
      exact taker_small b off cap zs w hz h7 hc hw
    · have hlen : (last7 zs).length = 7 := by simp [last7]; omega
      have hw' : ∀ z ∈ last7 zs, isByte z := fun z hz => hw z (List.mem_of_mem_drop hz)
      have hz' : ∀ i, i < 7 → w.cell? ⟨b, off + (zs.length - 7) + i, none⟩ = some (.int .u8 ((last7 zs)[i]?.getD 0)) := by
        intro i hi
        rw [Nat.add_assoc, hz (zs.length - 7 + i) (by omega), last7, List.getElem?_drop]
      by_cases h0 : zs.length = 7
      · have hz'' := hz'
        rw [h0] at hz'' ⊢
        simp only [Nat.sub_self, Nat.add_zero] at hz''
        exact taker_seven b off cap _ w hz'' hlen (by omega) hw'
      · have := taker_more b off cap (zs.length - 7) (last7 zs) w (by omega) (by omega) hz' hlen (by omega) hw'
        rwa [show zs.length - 7 + 7 = zs.length by omega] at this
/-- The first j of k bytes of n. -/
def putF (n : Int) (k j : Nat) : List Int := (List.range j).map (byteOf n k)
theorem putF_succ (n : Int) (k j : Nat) : putF n k (j + 1) = putF n k j ++ [byteOf n k j] := by
  unfold putF; rw [List.range_succ]; simp
theorem putF_len (n : Int) (k j : Nat) : (putF n k j).length = j := by simp [putF]
theorem and255 (x : Int) : bits .and .i64 x 255 % 256 = x % 256 := by
  show IntKind.i64.wrap ((BitVec.ofInt 64 x &&& BitVec.ofInt 64 255).toNat : Int) % 256 = _
  rw [BitVec.toNat_and, show (BitVec.ofInt 64 255).toNat = 2 ^ 8 - 1 from rfl, Nat.and_two_pow_sub_one_eq_mod, BitVec.toNat_ofInt, IntKind.wrap_i64]
  omega
theorem own_base {w : World} {base n m : Nat} {v : Value} {xs : List Value} (h : w.ownsRow base 5 1 v n xs) (e : v.ownBlock = some m) : base ≤ m := by
  rcases h.2 with ⟨rfl, _⟩ | ⟨g, cap, cur, rfl, hb, _, _⟩
  · cases e
  · simp [Value.ownBlock] at e; subst e; exact hb
set_option maxRecDepth 100000 in
set_option maxHeartbeats 1000000 in
theorem putr_any (n bytes : Int) (k : Nat) (w : World) (hn : fits n = true) (hk : k ≤ 8) (hb : bytes = k ∨ bytes < 0 ∧ k = 0 ∨ 8 < bytes ∧ k = 8) :
    Calls Try.prog 20 #[.int .i64 n, .int .i64 bytes] w fun e w' => ∃ v, e = .returned v ∧ w'.ownsRow w.heap.size 5 1 v k (U (putL n k)) ∧ Below w.heap.size w w' := by
  obtain ⟨i0, hi, hz0, hz1, hz2⟩ := info_parts Try.info5
  have hi := Lib.hid hi
  rw [fits_iff] at hn
  obtain ⟨hn1, hn2⟩ := hn
  go_enter Try.func20, Try.ntmps20
  rcases hb with rfl | ⟨hb, rfl⟩ | ⟨hb, rfl⟩
  · go_wp2_with fail
    go_loopw [5, 6] (fun v i wr => ∃ j : Nat, j ≤ k ∧ i = .int .i64 ((k : Int) - 1 - j) ∧ wr.ownsRow w.heap.size 5 1 v j (U (putF n k j)) ∧ Below w.heap.size w wr) (fun _ i _ => (intOf i + 1).toNat)
    case atStart => exact ⟨0, Nat.zero_le _, by simp, World.ownsRow_nil _ _ _ _, Below.refl _ _⟩
    case round =>
      obtain ⟨j, hj, rfl, hrow, hB⟩ := hrel
      have hsz := hB.size
      by_cases hlt : j < k
      · have g0 : (0 : Int) ≤ (k : Int) - 1 - j := by omega
        have g1 : (k : Int) - 1 - j ≤ 7 := by omega
        have g2 : ((k : Int) - 1 - j).toNat = k - 1 - j := by omega
        go_wp2_with (at_builtin; refine wpList_append_own _ rfl _ _ 23 rfl w.heap.size 5 i0 (.int .u8 0) 1 1 Try.underlying23 hi.out hz0 hz1 hz2 rfl (by decide) _ _ _ rfl (hrow.alloc _) ⟨wr.heap.size, 0, none⟩ 1 1 [_] rfl rfl (cell_one_new _ _ _) (by simp [Value.oneCell']) (by unfold maxLen; omega) (by omega) (by simp; omega) ?_; intro v' w1 hown' hgrow _)
        refine ⟨⟨j + 1, by omega, by congr 1; omega, ?_, ?_⟩, by simp [intOf]; omega⟩
        · rw [putF_succ]
          have e : bits .and .i64 (n / 2 ^ (8 * (k - 1 - j))) 255 % 256 = byteOf n k j := and255 _
          rw [e] at hown'
          simpa using hown'
        · exact ((hB.alloc hB.size _).grown hgrow (by simp; omega) (fun m e => own_base hrow e))
      · obtain rfl : k = j := by omega
        have g0 : decide ((0 : Int) ≤ (k : Int) - 1 - k) = false := by simp; try omega
        have g1 : ((k : Int) - 1 - k : Int) < 0 := by omega
        go_wp2_with fail
        go_ret
        exact ⟨_, rfl, hrow, hB⟩
  · go_wp2_with fail
    go_loopw [5, 6] (fun v i wr => v = .slice none 0 0 ∧ i = .int .i64 (-1) ∧ w = wr) (fun _ _ _ => 0)
    case atStart => exact ⟨rfl, rfl, rfl⟩
    case round =>
      obtain ⟨rfl, rfl, rfl⟩ := hrel
      go_wp2_with fail
      go_ret
      exact ⟨_, rfl, World.ownsRow_nil _ _ _ _, Below.refl _ _⟩
  · go_wp2_with fail
    go_loopw [5, 6] (fun v i wr => ∃ j : Nat, j ≤ 8 ∧ i = .int .i64 ((7 : Int) - j) ∧ wr.ownsRow w.heap.size 5 1 v j (U (putF n 8 j)) ∧ Below w.heap.size w wr) (fun _ i _ => (intOf i + 1).toNat)
    case atStart => exact ⟨0, Nat.zero_le _, by simp, World.ownsRow_nil _ _ _ _, Below.refl _ _⟩
    case round =>
      obtain ⟨j, hj, rfl, hrow, hB⟩ := hrel
      have hsz := hB.size
      by_cases hlt : j < 8
      · have g0 : (0 : Int) ≤ (7 : Int) - j := by omega
        have g1 : (7 : Int) - j ≤ 7 := by omega
        have g2 : ((7 : Int) - j).toNat = 8 - 1 - j := by omega
        go_wp2_with (at_builtin; refine wpList_append_own _ rfl _ _ 23 rfl w.heap.size 5 i0 (.int .u8 0) 1 1 Try.underlying23 hi.out hz0 hz1 hz2 rfl (by decide) _ _ _ rfl (hrow.alloc _) ⟨wr.heap.size, 0, none⟩ 1 1 [_] rfl rfl (cell_one_new _ _ _) (by simp [Value.oneCell']) (by unfold maxLen; omega) (by omega) (by simp; omega) ?_; intro v' w1 hown' hgrow _)
        refine ⟨⟨j + 1, by omega, by congr 1; omega, ?_, ?_⟩, by simp [intOf]; omega⟩
        · rw [putF_succ]
          have e : bits .and .i64 (n / 2 ^ (8 * (7 - j))) 255 % 256 = byteOf n 8 j := and255 _
          rw [e] at hown'
          simpa using hown'
        · exact ((hB.alloc hB.size _).grown hgrow (by simp; omega) (fun m e => own_base hrow e))
      · obtain rfl : 8 = j := by omega
        have g0 : decide ((0 : Int) ≤ (7 : Int) - 8) = false := by simp; try omega
        have g1 : ((7 : Int) - 8 : Int) < 0 := by omega
        go_wp2_with fail
        go_ret
        exact ⟨_, rfl, hrow, hB⟩
end Go.Proofs.Ytiekaiaekokepaa
