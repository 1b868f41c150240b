/-
  What wire's Take answers at bytes in memory, and what its Put answers of what was taken: the same bytes; no other condition.
-/
import Derived.Test.YtepbjjddpfejnaaP
import Derived.Test.YtepbjjddpfejnaaQ
namespace Go.Proofs.Ytepbjjddpfejnaa
open Go.ChangeShapes Go.WideShapes Go.ChangeAt Go.RowKit
set_option linter.unusedVariables false
set_option linter.unusedSimpArgs false
theorem byteOf_last (n : Int) (k : Nat) : byteOf n (k + 1) k = n % 256 := by
  unfold byteOf
  rw [show k + 1 - 1 - k = 0 by omega]
  simp
theorem byteOf_ahead (n : Int) (k i : Nat) (h : i < k) : byteOf n (k + 1) i = byteOf (n / 256) k i := by
  unfold byteOf
  rw [show 8 * (k + 1 - 1 - i) = 8 + 8 * (k - 1 - i) by omega, Int.pow_add, show (2 : Int) ^ 8 = 256 from rfl, Int.ediv_ediv_of_nonneg (by decide)]
theorem putL_succ (n : Int) (k : Nat) : putL n (k + 1) = putL (n / 256) k ++ [n % 256] := by
  unfold putL
  rw [List.range_succ, List.map_append, List.map_singleton, byteOf_last]
  congr 1
  apply List.map_congr_left
  intro i hi
  exact byteOf_ahead n k i (by simpa using hi)
theorem put_taken (l : List Int) (k : Nat) (hl : l.length = k) (h : ∀ z ∈ l, isByte z) : putL (takeN l) k = l := by
  induction k generalizing l with
  | zero => rw [List.length_eq_zero_iff.1 hl]; rfl
  | succ k ih =>
    obtain ⟨r, z, rfl⟩ : ∃ r z, l = r ++ [z] := ⟨l.dropLast, l.getLast (by intro e; rw [e] at hl; simp at hl), (List.dropLast_concat_getLast _).symm⟩
    have hr : r.length = k := by simpa using hl
    obtain ⟨z0, z1⟩ : isByte z := h z (by simp)
    rw [takeN_snoc, putL_succ, show (takeN r * 256 + z) / 256 = takeN r by omega, show (takeN r * 256 + z) % 256 = z by omega, ih r hr (fun y hy => h y (by simp [hy]))]
theorem put_below (n : Int) : putL (n - 4294967296) 4 = putL n 4 := by
  unfold putL
  apply List.map_congr_left
  intro i hi
  have hi' : i < 4 := by simpa using hi
  rcases (show i = 0 ∨ i = 1 ∨ i = 2 ∨ i = 3 by omega) with rfl | rfl | rfl | rfl <;> simp [byteOf] <;> omega
theorem put_part (n : Int) : putL (part32 n) 4 = putL n 4 := by
  unfold part32
  split
  · rfl
  · exact put_below n
theorem ck_bytes {zs : List Int} (h : ∀ z ∈ zs, isByte z) (s b : Nat) : ∀ z ∈ ck zs s b, isByte z := fun z hz => h z (List.mem_of_mem_drop (List.mem_of_mem_take hz))
theorem ck_put {zs : List Int} (h : ∀ z ∈ zs, isByte z) (s b : Nat) (hl : s + b ≤ zs.length) : putL (takeN (ck zs s b)) b = ck zs s b :=
  put_taken _ b (by simp [ck]; omega) (ck_bytes h s b)
theorem ck_join (zs : List Int) (s b c : Nat) : ck zs s b ++ ck zs (s + b) c = ck zs s (b + c) := by
  unfold ck
  rw [List.take_add, List.drop_drop]
theorem ck_all (zs : List Int) (n : Nat) (h : zs.length = n) : ck zs 0 n = zs := by
  unfold ck; rw [List.drop_zero, List.take_of_length_le (by omega)]
theorem ck_bd {zs : List Int} (h : ∀ z ∈ zs, isByte z) (s b : Nat) (hl : s + b ≤ zs.length) : 0 ≤ takeN (ck zs s b) ∧ takeN (ck zs s b) < 256 ^ b := by
  have := takeN_bd (ck zs s b) (ck_bytes h s b)
  rwa [show (ck zs s b).length = b by simp [ck]; omega] at this
/-- Bytes lie in memory. -/
def BytesAt (blk off : Nat) (zs : List Int) (w : World) : Prop := blk < w.heap.size ∧ (∀ i, i < zs.length → w.cell? ⟨blk, off + i, none⟩ = some (.int .u8 (zs[i]?.getD 0))) ∧ ∀ z ∈ zs, isByte z
theorem BytesAt.later {blk off : Nat} {zs : List Int} {w w' : World} (h : BytesAt blk off zs w) (hb : Below w.heap.size w w') : BytesAt blk off zs w' :=
  ⟨beyond hb h.1, fun i hi => bcell hb h.1 (h.2.1 i hi), h.2.2⟩
theorem BytesAt.first {blk off : Nat} {zs : List Int} {w : World} (h : BytesAt blk off zs w) (h0 : 0 < zs.length) : w.cell? ⟨blk, off, none⟩ = some (.int .u8 (zs[0]?.getD 0)) := h.2.1 0 h0
/-- What Take answers of bytes that are no record's. -/
def NoTake (s : Value) (e : Int) (w : World) : Prop := Calls Try.prog 19 #[s] w fun r w' => r = .returned (.tuple #[RV 0 0 0 0 0 0 0 0 0, .int .i64 e]) ∧ Below w.heap.size w w'
theorem take_empty (a : Option Addr) (cap : Nat) (w : World) : NoTake (.slice a 0 cap) 50 w :=
  take_fault (w0 := w) _ 50 rfl (fun w _ => fault_empty a cap w) w (Below.refl _ _)
theorem take_kind (blk off cap : Nat) (zs : List Int) (w : World) (h : BytesAt blk off zs w) (h0 : 0 < zs.length) (h1 : (zs[0]?.getD 0 == 1) = false) (h2 : (zs[0]?.getD 0 == 2) = false) : NoTake (.slice (some ⟨blk, off, none⟩) zs.length cap) 11 w :=
  take_fault (w0 := w) _ 11 rfl (fun w' hw => fault_kind _ blk off zs.length cap w' (size_none _ h1 h2) (h.later hw).1 ((h.later hw).first h0) h0) w (Below.refl _ _)
theorem take_short (blk off cap : Nat) (zs : List Int) (s : Int) (w : World) (h : BytesAt blk off zs w) (h0 : 0 < zs.length) (hs : SizeIs (zs[0]?.getD 0) s) (hs0 : (s == 0) = false) (hlt : (zs.length : Int) < s) : NoTake (.slice (some ⟨blk, off, none⟩) zs.length cap) 50 w :=
  take_fault (w0 := w) _ 50 rfl (fun w' hw => fault_short _ s blk off zs.length cap w' hs hs0 (h.later hw).1 ((h.later hw).first h0) h0 (by simpa using hlt)) w (Below.refl _ _)
theorem take_long (blk off cap : Nat) (zs : List Int) (s : Int) (w : World) (h : BytesAt blk off zs w) (h0 : 0 < zs.length) (hs : SizeIs (zs[0]?.getD 0) s) (hs0 : (s == 0) = false) (hlt : s < (zs.length : Int)) : NoTake (.slice (some ⟨blk, off, none⟩) zs.length cap) 11 w :=
  take_fault (w0 := w) _ 11 rfl (fun w' hw => fault_long _ s blk off zs.length cap w' hs hs0 (h.later hw).1 ((h.later hw).first h0) h0 (by simp; omega) (by simpa using hlt)) w (Below.refl _ _)
/-- A mark's record by its bytes. -/
abbrev markOf (zs : List Int) : Value := RV 2 0 0 0 0 0 0 (takeN (ck zs 1 1)) (takeN (ck zs 2 6))
theorem one_bd {zs : List Int} (h : ∀ z ∈ zs, isByte z) (s : Nat) (hl : s + 1 ≤ zs.length) : 0 ≤ takeN (ck zs s 1) ∧ takeN (ck zs s 1) ≤ 255 := by
  have := ck_bd h s 1 hl
  omega
theorem upB_yes {n m : Int} (h0 : 0 ≤ n) (h1 : n ≤ m) : upB n m = true := by simp [upB, h0, h1]
theorem upB_spec {n m : Int} (h : upB n m = true) : 0 ≤ n ∧ n ≤ m := by simpa [upB] using h
theorem right_mark (s t : Int) (b : Bool) (h2 : upB s 255 = true) (h1 : upB t 1099511627776 = b) : TellIs (RV 2 0 0 0 0 0 0 s t) b s t :=
  fun w => tell_mark s t b (fun B w hr => teller2_any B s t b h2 h1 w hr) w
theorem take_mark (blk off c : Nat) (zs : List Int) (w : World) (h : BytesAt blk off zs w) (hl : zs.length = 8) (h0 : zs[0]?.getD 0 = 2) :
    (upB (takeN (ck zs 2 6)) 1099511627776 = true → Calls Try.prog 19 #[.slice (some ⟨blk, off, none⟩) 8 (8 + c : Nat)] w fun r w' => r = .returned (.tuple #[markOf zs, .int .i64 0]) ∧ Below w.heap.size w w') ∧
    (upB (takeN (ck zs 2 6)) 1099511627776 = false → NoTake (.slice (some ⟨blk, off, none⟩) 8 (8 + c : Nat)) 11 w) := by
  have hs := one_bd h.2.2 1 (by omega)
  have hr : ∀ b, upB (takeN (ck zs 2 6)) 1099511627776 = b → RightIs (markOf zs) b := fun b hb => right_of _ _ _ _ _ _ _ _ _ b _ _ (right_mark _ _ b (upB_yes hs.1 hs.2) hb)
  have hf : ∀ w', Below w.heap.size w w' → Calls Try.prog 28 #[.slice (some ⟨blk, off, none⟩) 8 (8 + c : Nat)] w' fun r w'' => r = .returned (.int .i64 0) ∧ Below w'.heap.size w' w'' := fun w' hw =>
    fault_none 2 8 blk off 8 (8 + c) w' size_mark rfl (h.later hw).1 (by rw [← h0]; exact (h.later hw).first (by omega)) (by omega) rfl rfl
  have hrec : ∀ w', Below w.heap.size w w' → Calls Try.prog 29 #[.slice (some ⟨blk, off, none⟩) 8 (8 + c : Nat)] w' fun r w'' => r = .returned (markOf zs) ∧ Below w'.heap.size w' w'' := fun w' hw =>
    recordOf_mark blk off c zs w' (h.later hw).1 hl (fun i hi => (h.later hw).2.1 i (by omega)) h.2.2 h0
  exact ⟨fun hb => take_right (w0 := w) _ _ _ _ _ _ _ _ _ _ hf hrec (hr true hb) w (Below.refl _ _), fun hb => take_wrong (w0 := w) _ _ _ _ _ _ _ _ _ _ hf hrec (hr false hb) w (Below.refl _ _)⟩
theorem rep_nought : Rep 0 0 := rep_zero_of (s := false) (j := 1074) (by decide +kernel)
/-- The seven numbers of a mark. -/
def mkX (s t : Int) (i : Nat) : Int := [2, t, s, 0, 0, 0, 0].getD i 0
theorem put_mark (s t : Int) (h2 : upB s 255 = true) (h1 : upB t 1099511627776 = true) (w : World) :
    Calls Try.prog 26 #[RV 2 0 0 0 0 0 0 s t] w (PutDone 8 (putL 2 1 ++ putL s 1 ++ putL t 6) w) := by
  have ht := right_mark s t true h2 h1
  have bs := upB_spec h2
  have bt := upB_spec h1
  exact put_right _ _ _ _ _ _ _ _ _ (right_of _ _ _ _ _ _ _ _ _ true _ _ ht) 8 _ (fun w => bytesOf_mark 0 0 0 0 0 0 s t (mkX s t)
    (fun w => numbers_of 2 0 0 0 0 0 0 s t true s t 0 0 (by omega) (by omega) ht rep_nought rep_nought (by decide) (by decide) w)
    (fun i hi => by
      rw [fits_iff]
      rcases below7 hi with rfl | rfl | rfl | rfl | rfl | rfl | rfl <;> simp [mkX] <;> omega) w) w
theorem mark_bytes (zs : List Int) (h : ∀ z ∈ zs, isByte z) (hl : zs.length = 8) (h0 : zs[0]?.getD 0 = 2) : putL 2 1 ++ putL (takeN (ck zs 1 1)) 1 ++ putL (takeN (ck zs 2 6)) 6 = zs := by
  have e0 := ck_put h 0 1 (by omega)
  rw [ck_first zs (by omega), h0] at e0
  rw [e0, ck_put h 1 1 (by omega), ck_put h 2 6 (by omega), ck_join zs 0 1 1, ck_join zs 0 2 6, ck_all zs 8 hl]
/-- n may be a point's part. -/
def inB (n : Int) : Bool := decide (-1048576 ≤ n) && decide (n ≤ 1048576)
theorem inB_spec {n : Int} (h : inB n = true) : -1048576 ≤ n ∧ n ≤ 1048576 := by simpa [inB] using h
theorem part_is (n : Int) (h : n.natAbs < 2 ^ 53) : PartIs (floatOfInt .f64 n) (inB n) := by
  cases hb : inB n
  · refine rightPart_no _ n (rep_of n h) ?_
    simp only [inB, Bool.and_eq_false_iff, decide_eq_false_iff_not] at hb
    omega
  · have := inB_spec hb
    exact rightPart_yes _ n (rep_of n h) this.1 this.2
theorem point_is (x y : Int) (hx : x.natAbs < 2 ^ 53) (hy : y.natAbs < 2 ^ 53) : PtIs (floatOfInt .f64 x) (floatOfInt .f64 y) (inB x && inB y) :=
  fun w => right_any _ _ _ _ (part_is x hx) (part_is y hy) w
theorem refPart_ok (n : Int) (h : inB n = true) : RefPartIs (floatOfInt .f64 n) true := by
  have := inB_spec h
  exact ref_rightPart_yes _ n (rep_of n (by omega)) this.1 this.2
theorem refPoint_ok (x y : Int) (hx : inB x = true) (hy : inB y = true) : RefPtOk (floatOfInt .f64 x) (floatOfInt .f64 y) :=
  fun w => ref_right_any _ _ _ _ (refPart_ok x hx) (refPart_ok y hy) w
theorem part32_bd (n : Int) (h0 : 0 ≤ n) (h1 : n < 4294967296) : (part32 n).natAbs < 2 ^ 53 := by unfold part32; split <;> omega
/-- An event's record by its bytes. -/
abbrev evtOf (zs : List Int) : Value := RV 1 (evV zs 1) (evV zs 2) (evV zs 3) (evV zs 4) (floatOfInt .f64 (part32 (evV zs 5))) (floatOfInt .f64 (part32 (evV zs 6))) 0 0
/-- Whether it may be. -/
def okB (zs : List Int) : Bool := upB (evV zs 1) 1099511627776 && upB (evV zs 3) 1048576 && upB (evV zs 4) 5 && (inB (part32 (evV zs 5)) && inB (part32 (evV zs 6)))
theorem right_event (ts src seq ek x y : Int) (h2 : upB src 255 = true) (hx : x.natAbs < 2 ^ 53) (hy : y.natAbs < 2 ^ 53) :
    TellIs (RV 1 ts src seq ek (floatOfInt .f64 x) (floatOfInt .f64 y) 0 0) (upB ts 1099511627776 && upB seq 1048576 && upB ek 5 && (inB x && inB y)) src ts :=
  fun w => tell_event ts src seq ek _ _ _ (fun B w hr => teller1_any B ts src seq ek _ _ _ _ _ _ rfl h2 rfl rfl (point_is x y hx hy) w hr) w
theorem take_event (blk off c : Nat) (zs : List Int) (w : World) (h : BytesAt blk off zs w) (hl : zs.length = 20) (h0 : zs[0]?.getD 0 = 1) :
    (okB zs = true → Calls Try.prog 19 #[.slice (some ⟨blk, off, none⟩) 20 (20 + c : Nat)] w fun r w' => r = .returned (.tuple #[evtOf zs, .int .i64 0]) ∧ Below w.heap.size w w') ∧
    (okB zs = false → NoTake (.slice (some ⟨blk, off, none⟩) 20 (20 + c : Nat)) 11 w) := by
  have hs := one_bd h.2.2 7 (by omega)
  have b5 := evV_four zs 12 hl h.2.2
  have b6 := evV_four zs 16 hl h.2.2
  have hr : ∀ b, okB zs = b → RightIs (evtOf zs) b := fun b hb => by
    subst hb
    exact right_of _ _ _ _ _ _ _ _ _ _ _ _ (right_event (evV zs 1) (evV zs 2) (evV zs 3) (evV zs 4) (part32 (evV zs 5)) (part32 (evV zs 6)) (upB_yes hs.1 hs.2) (part32_bd _ b5.1 b5.2) (part32_bd _ b6.1 b6.2))
  have hf : ∀ w', Below w.heap.size w w' → Calls Try.prog 28 #[.slice (some ⟨blk, off, none⟩) 20 (20 + c : Nat)] w' fun r w'' => r = .returned (.int .i64 0) ∧ Below w'.heap.size w' w'' := fun w' hw =>
    fault_none 1 20 blk off 20 (20 + c) w' size_event rfl (h.later hw).1 (by rw [← h0]; exact (h.later hw).first (by omega)) (by omega) rfl rfl
  have hrec : ∀ w', Below w.heap.size w w' → Calls Try.prog 29 #[.slice (some ⟨blk, off, none⟩) 20 (20 + c : Nat)] w' fun r w'' => r = .returned (evtOf zs) ∧ Below w'.heap.size w' w'' := fun w' hw =>
    recordOf_event blk off c zs w' (h.later hw).1 hl (fun i hi => (h.later hw).2.1 i (by omega)) h.2.2 h0
  exact ⟨fun hb => take_right (w0 := w) _ _ _ _ _ _ _ _ _ _ hf hrec (hr true hb) w (Below.refl _ _), fun hb => take_wrong (w0 := w) _ _ _ _ _ _ _ _ _ _ hf hrec (hr false hb) w (Below.refl _ _)⟩
/-- The seven numbers of an event. -/
def evX (ts src seq ek x y : Int) (i : Nat) : Int := [1, ts, src, seq, ek, x, y].getD i 0
theorem put_event (ts src seq ek x y : Int) (h1 : upB ts 1099511627776 = true) (h2 : upB src 255 = true) (h3 : upB seq 1048576 = true) (h4 : upB ek 5 = true) (h5 : inB x = true) (h6 : inB y = true) (w : World) :
    Calls Try.prog 26 #[RV 1 ts src seq ek (floatOfInt .f64 x) (floatOfInt .f64 y) 0 0] w (PutDone 20 (putL 1 1 ++ putL ts 6 ++ putL src 1 ++ putL seq 3 ++ putL ek 1 ++ putL x 4 ++ putL y 4) w) := by
  have i5 := inB_spec h5
  have i6 := inB_spec h6
  have ht := right_event ts src seq ek x y h2 (by omega) (by omega)
  rw [h1, h3, h4, h5, h6] at ht
  have c1 := upB_spec h1
  have c2 := upB_spec h2
  have c3 := upB_spec h3
  have c4 := upB_spec h4
  exact put_right _ _ _ _ _ _ _ _ _ (right_of _ _ _ _ _ _ _ _ _ true _ _ ht) 20 _ (fun w => bytesOf_event ts src seq ek _ _ 0 0 (evX ts src seq ek x y)
    (fun w => numbers_of 1 ts src seq ek _ _ 0 0 true src ts x y (by omega) (by omega) ht (rep_of x (by omega)) (rep_of y (by omega)) (by omega) (by omega) w)
    (fun i hi => by
      rw [fits_iff]
      rcases below7 hi with rfl | rfl | rfl | rfl | rfl | rfl | rfl <;> simp [evX] <;> omega) w) w
theorem event_bytes (zs : List Int) (h : ∀ z ∈ zs, isByte z) (hl : zs.length = 20) (h0 : zs[0]?.getD 0 = 1) :
    putL 1 1 ++ putL (evV zs 1) 6 ++ putL (evV zs 2) 1 ++ putL (evV zs 3) 3 ++ putL (evV zs 4) 1 ++ putL (part32 (evV zs 5)) 4 ++ putL (part32 (evV zs 6)) 4 = zs := by
  have e0 := ck_put h 0 1 (by omega)
  rw [ck_first zs (by omega), h0] at e0
  rw [put_part, put_part, e0]
  show ck zs 0 1 ++ putL (takeN (ck zs 1 6)) 6 ++ putL (takeN (ck zs 7 1)) 1 ++ putL (takeN (ck zs 8 3)) 3 ++ putL (takeN (ck zs 11 1)) 1 ++ putL (takeN (ck zs 12 4)) 4 ++ putL (takeN (ck zs 16 4)) 4 = zs
  rw [ck_put h 1 6 (by omega), ck_put h 7 1 (by omega), ck_put h 8 3 (by omega), ck_put h 11 1 (by omega), ck_put h 12 4 (by omega), ck_put h 16 4 (by omega)]
  rw [ck_join zs 0 1 6, ck_join zs 0 7 1, ck_join zs 0 8 3, ck_join zs 0 11 1, ck_join zs 0 12 4, ck_join zs 0 16 4, ck_all zs 20 hl]
/-- The record of no kind may not be put. -/
theorem put_nothing (w : World) : Calls Try.prog 26 #[RV 0 0 0 0 0 0 0 0 0] w fun e w' => e = .returned (.tuple #[.slice none 0 0, .int .i64 2]) ∧ Below w.heap.size w w' :=
  put_wrong 0 0 0 0 0 0 0 0 0 (right_of _ _ _ _ _ _ _ _ _ false _ _ (fun w => tell_none w)) w
end Go.Proofs.Ytepbjjddpfejnaa
