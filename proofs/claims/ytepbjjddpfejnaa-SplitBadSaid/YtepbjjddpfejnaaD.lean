/-
  Contracts of num.Put (every number, every number of bytes) and num.Take (every slice of bytes in memory): the bytes of a number, the number of the last 7 bytes; condition of Take: at most 140737488351232 bytes.
-/
import Derived.Test.YtepbjjddpfejnaaB
namespace Go.Proofs.Ytepbjjddpfejnaa
open Go.ChangeShapes Go.WideShapes Go.ChangeAt Go.RowKit
set_option linter.unusedVariables false
/-- n is a whole number of 64 bits. -/
def fits (n : Int) : Bool := decide (-9223372036854775808 ≤ n ∧ n ≤ 9223372036854775807)
theorem fits_iff (n : Int) : fits n = true ↔ -9223372036854775808 ≤ n ∧ n ≤ 9223372036854775807 := by unfold fits; simp
theorem not_fits (n : Int) : fits n = false ↔ n < -9223372036854775808 ∨ 9223372036854775807 < n := by unfold fits; simp; omega
theorem fits_of_wf {n : Int} (h : (Lit.int .i64 n).wf = true) : fits n = true := by
  rw [fits_iff]; simp [Lit.wf, IntKind.min, IntKind.max, IntKind.signed, IntKind.bits] at h; omega
theorem wf_of_fits {n : Int} (h : fits n = true) : (Lit.int .i64 n).wf = true := by
  rw [fits_iff] at h; simp [Lit.wf, IntKind.min, IntKind.max, IntKind.signed, IntKind.bits]; omega

/-- The integers zs lie in a row from a on. -/
def IntsAt (k : IntKind) (w : World) (a : Option Addr) (zs : List Int) : Prop :=
  zs = [] ∨ ∃ b off, a = some ⟨b, off, none⟩ ∧ b < w.heap.size ∧ ∀ i, i < zs.length → w.cell? ⟨b, off + i, none⟩ = some (.int k (zs[i]?.getD 0))


theorem Try.info5 : (Try.prog.info? 5).map (fun i => (i.zero, i.size, i.bytes)) = some (some (.int .u8 0), 1, 1) := by kernel_rfl
/-- The i-th of k bytes of n, the highest one first. -/
def byteOf (n : Int) (k i : Nat) : Int := n / 2 ^ (8 * (k - 1 - i)) % 256
def putL (n : Int) (k : Nat) : List Int := (List.range k).map (byteOf n k)
/-- As far as j: the rest is 0. -/
def putTo (n : Int) (k j : Nat) : List Int := (List.range k).map (fun i => if i < j then byteOf n k i else 0)
theorem putTo_zero (n : Int) (k : Nat) : (madeCells (Value.int .u8 0).cells (k * 1)).toList = (putTo n k 0).map (Value.int .u8) := by
  unfold madeCells
  simp [putTo, Value.cells]
  intro a _
  have : a % 1 = 0 := by omega
  simp [this]
theorem putTo_full (n : Int) (k : Nat) : putTo n k k = putL n k := by
  unfold putTo putL; apply List.map_congr_left; intro i hi; simp at hi; simp [hi]
theorem putTo_set (n : Int) (k j : Nat) (v : Int) (hv : v = byteOf n k j) : ((putTo n k j).map (Value.int .u8)).set j (.int .u8 v) = (putTo n k (j + 1)).map (Value.int .u8) := by
  subst hv
  apply List.ext_getElem
  · simp [putTo]
  · intro i h1 h2
    simp [putTo] at h1 h2
    simp only [List.getElem_set, putTo, List.getElem_map, List.getElem_range]
    by_cases e : j = i
    · subst e; simp
    · rw [if_neg e]
      by_cases c : i < j
      · simp [c, Nat.lt_succ_of_lt c]
      · rw [if_neg c, if_neg (by omega)]
theorem putTo_at (n : Int) (k j : Nat) (h : j < k) : ((putTo n k j).map (Value.int .u8))[j]? = some (.int .u8 0) := by
  simp [putTo, h]
set_option maxHeartbeats 400000 in
theorem put_any (n bytes : Int) (k : Nat) (w : World) (hn : fits n = true) (hk : k ≤ 8) (hb : bytes = k ∨ bytes < 0 ∧ k = 0 ∨ 8 < bytes ∧ k = 8) :
    Calls Try.prog 45 #[.int .i64 n, .int .i64 bytes] w fun e w' => e = .returned (.slice (some ⟨w.heap.size, 0, none⟩) k k) ∧
      w'.ownsRow w.heap.size 5 1 (.slice (some ⟨w.heap.size, 0, none⟩) k k) k ((putL n k).map (Value.int .u8)) ∧ Below w.heap.size w w' := by
  obtain ⟨i0, hi, hz0, hz1, hz2⟩ := info_parts Try.info5
  have hb8 : i0.bytes * k ≤ 281474976710656 := by rw [hz2]; omega
  have hm : k ≤ maxLen := by unfold maxLen; omega
  have hi := Lib.hid hi
  have hzero := Lib.hid (putTo_zero n k)
  have hsz : 0 < w.heap.size + 1 := by omega
  rw [fits_iff] at hn
  obtain ⟨hn1, hn2⟩ := hn
  go_enter Try.func45, Try.ntmps45
  rcases hb with rfl | ⟨hb, rfl⟩ | ⟨hb, rfl⟩
  all_goals
    go_wp2_with (refine wpList_make_full _ rfl _ _ 22 rfl w.heap.size 5 i0 (.int .u8 0) 1 Try.underlying22 hi.out hz0 hz1 .i64 .i64 _ _ _ rfl rfl rfl rfl hb8 hm (Nat.le_refl _) ?_; intro w1 hown hgrow)
    rw [hzero.out] at hown
    have hbl : Below w.heap.size w w1 := (Below.refl _ _).grown hgrow (Nat.le_refl _) (fun _ h => by cases h)
    clear hi hz0 hz1 hz2 hb8 hgrow hzero
  · go_loopw [14] (fun i wr => ∃ j : Nat, j ≤ k ∧ i = .int .i64 j ∧ wr.ownsRow w.heap.size 5 1 (.slice (some ⟨w.heap.size, 0, none⟩) k k) k ((putTo n k j).map (Value.int .u8)) ∧ Below w.heap.size w wr) (fun i _ => k - (intOf i).toNat)
    case atStart => exact ⟨0, Nat.zero_le _, rfl, hown, hbl⟩
    case round =>
      clear hown hbl
      obtain ⟨j, hj, rfl, hown, hbl⟩ := hrel
      by_cases hlt : j < k
      · have hcell := (hown.cellAt j (by omega)).trans (putTo_at n k j hlt)
        have hfz := hown.frozenAt j
        go_wp2
        exact ⟨⟨j + 1, by omega, by go_num, by rw [← putTo_set n k j _ rfl]; exact (hown.stored j _).1, hbl.setCell (Nat.le_refl _) _⟩, by simp [intOf]; omega⟩
      · obtain rfl : j = k := by omega
        rw [putTo_full] at hown
        go_wp2
        go_ret
        exact ⟨rfl, hown, hbl⟩
  · go_loopw [14] (fun i wr => i = .int .i64 0 ∧ wr.ownsRow w.heap.size 5 1 (.slice (some ⟨w.heap.size, 0, none⟩) 0 0) 0 ((putTo n 0 0).map (Value.int .u8)) ∧ Below w.heap.size w wr) (fun i _ => 0 - (intOf i).toNat)
    case atStart => exact ⟨rfl, hown, hbl⟩
    case round =>
      clear hown hbl
      obtain ⟨rfl, hown, hbl⟩ := hrel
      rw [putTo_full] at hown
      go_wp2
      go_ret
      exact ⟨rfl, hown, hbl⟩
  · go_loopw [14] (fun i wr => ∃ j : Nat, j ≤ 8 ∧ i = .int .i64 j ∧ wr.ownsRow w.heap.size 5 1 (.slice (some ⟨w.heap.size, 0, none⟩) 8 8) 8 ((putTo n 8 j).map (Value.int .u8)) ∧ Below w.heap.size w wr) (fun i _ => 8 - (intOf i).toNat)
    case atStart => exact ⟨0, by omega, rfl, hown, hbl⟩
    case round =>
      clear hown hbl
      obtain ⟨j, hj, rfl, hown, hbl⟩ := hrel
      by_cases hlt : j < 8
      · have hcell := (hown.cellAt j (by omega)).trans (putTo_at n 8 j hlt)
        have hfz := hown.frozenAt j
        have hji : (j : Int) < 8 := by omega
        go_wp2
        exact ⟨⟨j + 1, by omega, by go_num, by rw [← putTo_set n 8 j _ rfl]; exact (hown.stored j _).1, hbl.setCell (Nat.le_refl _) _⟩, by simp [intOf]; omega⟩
      · obtain rfl : j = 8 := by omega
        rw [putTo_full] at hown
        go_wp2
        go_ret
        exact ⟨rfl, hown, hbl⟩

/-- The number that bytes tell, the highest one first. -/
def takeN (zs : List Int) : Int := zs.foldl (fun n z => n * 256 + z) 0
def last7 (zs : List Int) : List Int := zs.drop (zs.length - 7)
def isByte (z : Int) : Prop := 0 ≤ z ∧ z < 256
theorem takeN_snoc (zs : List Int) (z : Int) : takeN (zs ++ [z]) = takeN zs * 256 + z := by simp [takeN]
theorem takeN_from (zs : List Int) : ∀ (n p : Int), (∀ z ∈ zs, isByte z) → 0 ≤ n → n < p → 0 ≤ zs.foldl (fun n z => n * 256 + z) n ∧ zs.foldl (fun n z => n * 256 + z) n < p * 256 ^ zs.length := by
  induction zs with
  | nil => intro n p _ h0 h1; simp; omega
  | cons z r ih =>
    intro n p h h0 h1
    obtain ⟨g0, g1⟩ : isByte z := h z (by simp)
    have := ih (n * 256 + z) (p * 256) (fun z hz => h z (by simp [hz])) (by omega) (by omega)
    simp only [List.foldl_cons, List.length_cons, Int.pow_succ']
    rw [Int.mul_assoc] at this
    exact this
theorem takeN_bd (zs : List Int) (h : ∀ z ∈ zs, isByte z) : 0 ≤ takeN zs ∧ takeN zs < 256 ^ zs.length := by
  have := takeN_from zs 0 1 h (by omega) (by omega)
  rwa [Int.one_mul] at this
theorem takeN_bd6 (zs : List Int) (h : ∀ z ∈ zs, isByte z) (hl : zs.length ≤ 6) : 0 ≤ takeN zs ∧ takeN zs < 281474976710656 := by
  obtain ⟨h0, h1⟩ := takeN_bd zs h
  refine ⟨h0, Int.lt_of_lt_of_le h1 ?_⟩
  have : (256 : Nat) ^ zs.length ≤ 256 ^ 6 := Nat.pow_le_pow_right (by omega) hl
  have h2 : ((256 ^ zs.length : Nat) : Int) ≤ ((256 ^ 6 : Nat) : Int) := by exact_mod_cast this
  simpa using h2
theorem takeN_take (zs : List Int) (k : Nat) (hk : k < zs.length) : takeN (zs.take (k + 1)) = takeN (zs.take k) * 256 + zs[k]?.getD 0 := by
  rw [List.take_succ_eq_append_getElem hk, takeN_snoc]; simp [hk]
theorem or_byte (n z : Int) (h0 : 0 ≤ n) (h1 : n < 281474976710656) (g0 : 0 ≤ z) (g1 : z < 256) : bits .or .i64 (n * 256) z = n * 256 + z :=
  bits_join .i64 63 (by decide) (fun n h₀ h₁ => by rw [IntKind.wrap_i64]; omega) 8 (n * 256) z (by omega) (by omega) (by omega) g0 (by omega) (by omega)
set_option maxHeartbeats 400000 in
theorem take_small (b off : Nat) (cap : Nat) (zs : List Int) (w : World) (hZ : Hid (∀ i, i < zs.length → w.cell? ⟨b, off + i, none⟩ = some (.int .u8 (zs[i]?.getD 0)))) (h7 : zs.length < 7) (hc : zs.length ≤ cap) (hW : Hid (∀ z ∈ zs, isByte z)) :
    Calls Try.prog 37 #[.slice (some ⟨b, off, none⟩) zs.length cap] w fun e w' => e = .returned (.int .i64 (takeN zs)) ∧ w = w' := by
  go_enter Try.func37, Try.ntmps37
  go_wp2
  go_loop [3, 13] (fun n i => ∃ k : Nat, k ≤ zs.length ∧ i = .int .i64 k ∧ n = .int .i64 (takeN (zs.take k))) (fun _ i => zs.length - (intOf i).toNat)
  case atStart => exact ⟨0, Nat.zero_le _, rfl, rfl⟩
  case round =>
    obtain ⟨k, hk, rfl, rfl⟩ := hrel
    by_cases hlt : k < zs.length
    · have hck := hZ.out k hlt
      have hki : (k : Int) < zs.length := by omega
      have hlk : k < zs.length := by omega
      obtain ⟨hz0, hz1⟩ : isByte (zs[k]?.getD 0) := hW.out _ (by simp [hlk])
      obtain ⟨hb0, hb1⟩ := takeN_bd6 (zs.take k) (fun z hz => hW.out z (List.mem_of_mem_take hz)) (by simp; omega)
      have hst := Lib.hid (takeN_take zs k hlk)
      have HL := Lib.hid hlk
      clear hlk
      generalize takeN (zs.take k) = n at *
      generalize zs[k]?.getD 0 = z at *
      have hor := or_byte n z hb0 hb1 hz0 hz1
      go_wp2
      exact ⟨⟨k + 1, by omega, by go_num, by rw [hst.out]⟩, by simp [intOf]; omega⟩
    · obtain rfl : k = zs.length := by omega
      rw [List.take_of_length_le (by omega)]
      go_wp2
      go_ret
      exact ⟨rfl, rfl⟩
set_option maxHeartbeats 400000 in
theorem take_seven (b off : Nat) (cap : Nat) (zs : List Int) (w : World) (hZ : Hid (∀ i, i < 7 → w.cell? ⟨b, off + i, none⟩ = some (.int .u8 (zs[i]?.getD 0)))) (h7 : Hid (zs.length = 7)) (hc : 7 ≤ cap) (hW : Hid (∀ z ∈ zs, isByte z)) :
    Calls Try.prog 37 #[.slice (some ⟨b, off, none⟩) 7 cap] w fun e w' => e = .returned (.int .i64 (takeN zs)) ∧ w = w' := by
  go_enter Try.func37, Try.ntmps37
  go_wp2
  go_loop [3, 13] (fun n i => ∃ k : Nat, k ≤ 7 ∧ i = .int .i64 k ∧ n = .int .i64 (takeN (zs.take k))) (fun _ i => 7 - (intOf i).toNat)
  case atStart => exact ⟨0, Nat.zero_le _, rfl, rfl⟩
  case round =>
    obtain ⟨k, hk, rfl, rfl⟩ := hrel
    by_cases hlt : k < 7
    · have hck := hZ.out k hlt
      have hki : (k : Int) < 7 := by omega
      have hlk : k < zs.length := by have := h7.out; omega
      obtain ⟨hz0, hz1⟩ : isByte (zs[k]?.getD 0) := hW.out _ (by simp [hlk])
      obtain ⟨hb0, hb1⟩ := takeN_bd6 (zs.take k) (fun z hz => hW.out z (List.mem_of_mem_take hz)) (by simp; omega)
      have hst := Lib.hid (takeN_take zs k hlk)
      have HL := Lib.hid hlk
      clear hlk
      generalize takeN (zs.take k) = n at *
      generalize zs[k]?.getD 0 = z at *
      have hor := or_byte n z hb0 hb1 hz0 hz1
      go_wp2
      exact ⟨⟨k + 1, by omega, by go_num, by rw [hst.out]⟩, by simp [intOf]; omega⟩
    · obtain rfl : k = 7 := by omega
      rw [List.take_of_length_le (by have := h7.out; omega)]
      go_wp2
      go_ret
      exact ⟨rfl, rfl⟩
set_option maxHeartbeats 400000 in
theorem take_more (b off : Nat) (cap s : Nat) (zs : List Int) (w : World) (hs0 : 0 < s) (hs1 : s + 7 ≤ 140737488351232) (hZ : Hid (∀ i, i < 7 → w.cell? ⟨b, off + s + i, none⟩ = some (.int .u8 (zs[i]?.getD 0)))) (h7 : Hid (zs.length = 7)) (hc : s + 7 ≤ cap) (hW : Hid (∀ z ∈ zs, isByte z)) :
    Calls Try.prog 37 #[.slice (some ⟨b, off, none⟩) ((s + 7 : Nat)) cap] w fun e w' => e = .returned (.int .i64 (takeN zs)) ∧ w = w' := by
  go_enter Try.func37, Try.ntmps37
  go_wp2
  go_loop [3, 13] (fun n i => ∃ k : Nat, k ≤ 7 ∧ i = .int .i64 k ∧ n = .int .i64 (takeN (zs.take k))) (fun _ i => 7 - (intOf i).toNat)
  case atStart => exact ⟨0, Nat.zero_le _, rfl, rfl⟩
  case round =>
    obtain ⟨k, hk, rfl, rfl⟩ := hrel
    by_cases hlt : k < 7
    · have hck := hZ.out k hlt
      have hki : (k : Int) < 7 := by omega
      have hlk : k < zs.length := by have := h7.out; omega
      obtain ⟨hz0, hz1⟩ : isByte (zs[k]?.getD 0) := hW.out _ (by simp [hlk])
      obtain ⟨hb0, hb1⟩ := takeN_bd6 (zs.take k) (fun z hz => hW.out z (List.mem_of_mem_take hz)) (by simp; omega)
      have hst := Lib.hid (takeN_take zs k hlk)
      have HL := Lib.hid hlk
      clear hlk
      generalize takeN (zs.take k) = n at *
      generalize zs[k]?.getD 0 = z at *
      have hor := or_byte n z hb0 hb1 hz0 hz1
      go_wp2
      exact ⟨⟨k + 1, by omega, by go_num, by rw [hst.out]⟩, by simp [intOf]; omega⟩
    · obtain rfl : k = 7 := by omega
      rw [List.take_of_length_le (by have := h7.out; omega)]
      go_wp2
      go_ret
      exact ⟨rfl, rfl⟩
set_option maxHeartbeats 400000 in
theorem take_nil (a : Option Addr) (cap : Nat) (w : World) :
    Calls Try.prog 37 #[.slice a 0 cap] w fun e w' => e = .returned (.int .i64 0) ∧ w = w' := by
  go_enter Try.func37, Try.ntmps37
  go_wp2
  go_loop [3, 13] (fun n i => i = .int .i64 0 ∧ n = .int .i64 0) (fun _ i => 0 - (intOf i).toNat)
  case atStart => exact ⟨rfl, rfl⟩
  case round =>
    obtain ⟨rfl, rfl⟩ := hrel
    go_wp2
    go_ret
    exact ⟨rfl, rfl⟩
theorem take_any (a : Option Addr) (cap : Nat) (zs : List Int) (w : World) (hz : IntsAt .u8 w a zs) (hl : zs.length ≤ 140737488351232) (hc : zs.length ≤ cap) (hw : ∀ z ∈ zs, isByte z) :
    Calls Try.prog 37 #[.slice a zs.length cap] w fun e w' => e = .returned (.int .i64 (takeN (last7 zs))) ∧ w = w' := by
  rcases hz with rfl | ⟨b, off, rfl, _, hz⟩
  · exact take_nil a cap w
  · by_cases h7 : zs.length < 7
    · rw [show last7 zs = zs by unfold last7; rw [show zs.length - 7 = 0 by omega]; rfl]
      exact take_small b off cap zs w hz h7 hc hw
    · have hlen : (last7 zs).length = 7 := by simp [last7]; omega
      have hw' : ∀ z ∈ last7 zs, isByte z := fun z hz => hw z (List.mem_of_mem_drop hz)
      have hz' : ∀ i, i < 7 → w.cell? ⟨b, off + (zs.length - 7) + i, none⟩ = some (.int .u8 ((last7 zs)[i]?.getD 0)) := by
        intro i hi
        rw [Nat.add_assoc, hz (zs.length - 7 + i) (by omega), last7, List.getElem?_drop]
      by_cases h0 : zs.length = 7
      · have hz'' := hz'
        rw [h0] at hz'' ⊢
        simp only [Nat.sub_self, Nat.add_zero] at hz''
        exact take_seven b off cap _ w hz'' hlen (by omega) hw'
      · have := take_more b off cap (zs.length - 7) (last7 zs) w (by omega) (by omega) hz' hlen (by omega) hw'
        rwa [show zs.length - 7 + 7 = zs.length by omega] at this
end Go.Proofs.Ytepbjjddpfejnaa
