/-
  Contracts of wire.Size (20, 8, 0) and of wire's sizeFault at every slice of bytes in memory; no condition.
-/
import Derived.Test.YtepbjjddpfejnaaE
namespace Go.Proofs.Ytepbjjddpfejnaa
open Go.ChangeShapes Go.WideShapes Go.ChangeAt Go.RowKit
set_option linter.unusedVariables false
set_option linter.unusedSimpArgs false
attribute [local go_sem] Oper.semAt_some
/-- Between two rounds: the box holds the sum of the places told so far. -/
def SizeIn (S : Nat → Int) (w : World) (k : Nat) (W : World) : Prop := Boxed W w.heap.size 3 (.int .i64 (S k)) ∧ Below w.heap.size w W
theorem SizeIn_own (S : Nat → Int) (w : World) (B : Nat) (hB : w.heap.size ≤ B) : OwnFrom B (SizeIn S w) := by
  intro s A C row hs hg hr
  exact ⟨boxed_own w.heap.size 3 (fun s => .int .i64 (S s)) s A C row hs.1 hg (fun r e => (hr r e).2), ownFrom_below (Nat.le_refl _) hB s A C row hs.2 hg hr⟩
set_option maxRecDepth 100000 in
set_option maxHeartbeats 1000000 in
theorem size_row (kind : Int) (xs : List (Array Value)) (Pl Wd S : Nat → Int) (hx : Hid (∀ k, k < xs.length → xs[k]?.getD #[] = #[.int .i64 (Pl k), .int .i64 (Wd k)]))
    (h0 : Hid (S 0 = 0)) (hS : Hid (∀ k, k < xs.length → S (k + 1) = S k + Wd k ∧ 0 ≤ S k ∧ S k ≤ 100 ∧ 0 ≤ Wd k ∧ Wd k ≤ 100))
    (ht : ∀ (n B : Nat) (w : World), 1 ≤ n → Boxed w B 5 (.int .u8 kind) → TellsRow False Fence.wide n Try.prog 46 #[.pointer (some ⟨B, 0, none⟩)] xs w) (w : World) :
    Calls Try.prog 35 #[.int .u8 kind] w fun e w' => e = .returned (.int .i64 (S xs.length)) ∧ Below w.heap.size w w' := by
  refine (callsIn_wide (n := 9)).1 ?_
  refine callsIn_of_wp_marks Try.func35 rfl trivial ?_ rfl
  rw [wpIn_wide]
  simp only [Try.ntmps35, List.size_toArray, List.length_cons, List.length_nil, Nat.reduceAdd, Nat.reduceSub, Array.replicate_succ, Array.replicate_zero, List.push_toArray, List.append_toArray, List.nil_append, List.cons_append]
  have bC := Boxed.new w 3 (.int .i64 0)
  go_wp2_with ((with_reducible refine (layout_any _ _).mono ?_); rintro e w' ⟨rfl, rfl⟩)
  have bN := Boxed.new (w.alloc (.cells #[.int .i64 0] 3)) 5 (.int .u8 kind)
  rw [World.size_alloc] at bN
  have hB0 : Below w.heap.size w ((w.alloc (.cells #[.int .i64 0] 3)).alloc (.cells #[.int .u8 kind] 5)) := ((Below.refl _ w).alloc (Nat.le_refl _) _).alloc (by simp) _
  refine (wpIn_wide (n := 9)).1 ?_
  refine wpIn_rangeFunc_row rfl (by omega) (gf := 46) (lb := #[.pointer (some ⟨w.heap.size + 1, 0, none⟩)]) rfl trivial (enters_of Try.func46 (by kernel_rfl) rfl)
    (ht 8 (w.heap.size + 1) _ (by omega) bN) (Below.refl _ _) (fun k hk => by rw [hx.out k hk]; rfl)
    (SizeIn S w) (fun _ _ => False) (SizeIn_own S w _ (by simp; omega)) (fun _ _ _ _ hs _ _ => hs) (fun _ _ h => h)
    ⟨by rw [h0.out]; exact bC.alloc _, hB0⟩
    (fun k => { tmps := #[.int .u8 kind, undef, .int .i64 0, .pointer (some ⟨w.heap.size, 0, none⟩), undef, .int .i64 (Wd k), .int .u8 kind, .func (.func 46) #[] #[.pointer (some ⟨w.heap.size + 1, 0, none⟩)], .int .i64 (Pl k), .int .i64 (Wd k), undef, undef, undef, undef], defers := [] }) ?assign ?body ?done ?stop
  case assign =>
    intro l k W K hk hK
    rw [hx.out k hk]
    gi_wp2
    exact hK
  case body =>
    rintro l k W hk ⟨hv, hB⟩
    have hc := hv.cell
    have hf := hv.frozen
    obtain ⟨e1, b1, b2, b3, b4⟩ := hS.out k hk
    have E1 := Lib.hid e1
    clear e1
    gi_wp2
    refine ⟨(KeepsOthers.setCell _ _ _).from _, ?_, hB.setCell (p := ⟨w.heap.size, 0, none⟩) (by simp) _⟩
    rw [E1.out]; exact hv.set _
  case done =>
    rintro D W hD ⟨hv, hB⟩ hK
    have hc := hv.cell
    have hDw : w.heap.size ≤ D := by simp at hD; omega
    clear hx h0 hS
    go_wp2
    refine ⟨by simp, .inl ⟨_, _, rfl, run_takeDeferred hK, ?_⟩⟩
    exact ⟨_, results_tmp rfl _ _ _, rfl, hB.trans (belowK_b (w := w) (Nat.le_refl _) W D _ (.deferred none) hDw hK rfl rfl)⟩
  case stop =>
    rintro D c W _ h _
    exact h.elim
def evP (k : Nat) : Int := [0, 1, 2, 3, 4, 5, 6].getD k 0
def evW (k : Nat) : Int := [1, 6, 1, 3, 1, 4, 4].getD k 0
def evS (k : Nat) : Int := [0, 1, 7, 8, 11, 12, 16, 20].getD k 0
def mkP (k : Nat) : Int := [0, 2, 1].getD k 0
def mkW (k : Nat) : Int := [1, 1, 6].getD k 0
def mkS (k : Nat) : Int := [0, 1, 2, 8].getD k 0
theorem below7 {k : Nat} (h : k < 7) : k = 0 ∨ k = 1 ∨ k = 2 ∨ k = 3 ∨ k = 4 ∨ k = 5 ∨ k = 6 := by omega
theorem below3 {k : Nat} (h : k < 3) : k = 0 ∨ k = 1 ∨ k = 2 := by omega
theorem ev_at (k : Nat) (h : k < eventRow.length) : eventRow[k]?.getD #[] = #[.int .i64 (evP k), .int .i64 (evW k)] := by
  rcases below7 h with rfl | rfl | rfl | rfl | rfl | rfl | rfl <;> rfl
theorem mk_at (k : Nat) (h : k < markRow.length) : markRow[k]?.getD #[] = #[.int .i64 (mkP k), .int .i64 (mkW k)] := by
  rcases below3 h with rfl | rfl | rfl <;> rfl
theorem ev_sum (k : Nat) (h : k < eventRow.length) : evS (k + 1) = evS k + evW k ∧ 0 ≤ evS k ∧ evS k ≤ 100 ∧ 0 ≤ evW k ∧ evW k ≤ 100 := by
  rcases below7 h with rfl | rfl | rfl | rfl | rfl | rfl | rfl <;> decide
theorem mk_sum (k : Nat) (h : k < markRow.length) : mkS (k + 1) = mkS k + mkW k ∧ 0 ≤ mkS k ∧ mkS k ≤ 100 ∧ 0 ≤ mkW k ∧ mkW k ≤ 100 := by
  rcases below3 h with rfl | rfl | rfl <;> decide
theorem size_event (w : World) : Calls Try.prog 35 #[.int .u8 1] w fun e w' => e = .returned (.int .i64 20) ∧ Below w.heap.size w w' :=
  size_row 1 eventRow evP evW evS ev_at rfl ev_sum (fun n B w hn hB => event_tells n B hn w hB) w
theorem size_mark (w : World) : Calls Try.prog 35 #[.int .u8 2] w fun e w' => e = .returned (.int .i64 8) ∧ Below w.heap.size w w' :=
  size_row 2 markRow mkP mkW mkS mk_at rfl mk_sum (fun n B w hn hB => mark_tells n B hn w hB) w
theorem size_none (k : Int) (h1 : (k == 1) = false) (h2 : (k == 2) = false) (w : World) : Calls Try.prog 35 #[.int .u8 k] w fun e w' => e = .returned (.int .i64 0) ∧ Below w.heap.size w w' :=
  size_row k [] mkP mkW (fun _ => 0) (fun k hk => by simp at hk) rfl (fun k hk => by simp at hk) (fun n B w hn hB => none_tells n B hn k h1 h2 w hB) w
/-- What Size answers of a kind. -/
def SizeIs (z s : Int) : Prop := ∀ w, Calls Try.prog 35 #[.int .u8 z] w fun e w' => e = .returned (.int .i64 s) ∧ Below w.heap.size w w'
theorem SizeIs.at {z s : Int} (h : SizeIs z s) (w : World) : Calls Try.prog 35 #[.int .u8 z] w fun e w' => e = .returned (.int .i64 s) ∧ Below w.heap.size w w' := h w
set_option maxHeartbeats 400000 in
theorem fault_empty (a : Option Addr) (cap : Nat) (w : World) :
    Calls Try.prog 28 #[.slice a 0 cap] w fun e w' => e = .returned (.int .i64 50) ∧ Below w.heap.size w w' := by
  go_enter Try.func28, Try.ntmps28
  go_wp2
  go_ret
  exact ⟨rfl, Below.refl _ _⟩
theorem fault_cell {W w1 : World} {b off : Nat} {v : Value} (hb : Below W.heap.size W w1) (hl : b < W.heap.size) (hc : W.cell? ⟨b, off, none⟩ = some v) : b < w1.heap.size ∧ w1.cell? ⟨b, off, none⟩ = some v :=
  ⟨Nat.lt_of_lt_of_le hl hb.size, (hb.cell (p := ⟨b, off, none⟩) hl).trans hc⟩
set_option maxHeartbeats 400000 in
theorem fault_kind (z : Int) (b off len cap : Nat) (w : World) (hs : SizeIs z 0) (hb : b < w.heap.size) (hc : w.cell? ⟨b, off, none⟩ = some (.int .u8 z)) (h0 : 0 < len) :
    Calls Try.prog 28 #[.slice (some ⟨b, off, none⟩) len cap] w fun e w' => e = .returned (.int .i64 11) ∧ Below w.heap.size w w' := by
  have hl : ((len : Int) == 0) = false := by simp; omega
  have hl2 : (0 : Int) < len := by omega
  go_enter Try.func28, Try.ntmps28
  go_wp2_with fail
  (with_reducible refine (hs.at _).mono ?_)
  rintro e w1 ⟨rfl, hb1⟩
  go_wp2
  go_ret
  exact ⟨rfl, hb1⟩
set_option maxHeartbeats 400000 in
theorem fault_short (z s : Int) (b off len cap : Nat) (w : World) (hs : SizeIs z s) (hs0 : (s == 0) = false) (hb : b < w.heap.size) (hc : w.cell? ⟨b, off, none⟩ = some (.int .u8 z)) (h0 : 0 < len) (hlt : decide ((len : Int) < s) = true) :
    Calls Try.prog 28 #[.slice (some ⟨b, off, none⟩) len cap] w fun e w' => e = .returned (.int .i64 50) ∧ Below w.heap.size w w' := by
  have hl : ((len : Int) == 0) = false := by simp; omega
  have hl2 : (0 : Int) < len := by omega
  go_enter Try.func28, Try.ntmps28
  go_wp2_with fail
  (with_reducible refine (hs.at _).mono ?_)
  rintro e w1 ⟨rfl, hb1⟩
  obtain ⟨hB1, hc1⟩ := fault_cell hb1 hb hc
  go_wp2_with fail
  (with_reducible refine (hs.at _).mono ?_)
  rintro e w2 ⟨rfl, hb2⟩
  go_wp2
  go_ret
  exact ⟨rfl, hb1.trans (hb2.mono hb1.size)⟩
set_option maxHeartbeats 400000 in
theorem fault_long (z s : Int) (b off len cap : Nat) (w : World) (hs : SizeIs z s) (hs0 : (s == 0) = false) (hb : b < w.heap.size) (hc : w.cell? ⟨b, off, none⟩ = some (.int .u8 z)) (h0 : 0 < len) (hlt : decide ((len : Int) < s) = false) (hgt : decide (s < (len : Int)) = true) :
    Calls Try.prog 28 #[.slice (some ⟨b, off, none⟩) len cap] w fun e w' => e = .returned (.int .i64 11) ∧ Below w.heap.size w w' := by
  have hl : ((len : Int) == 0) = false := by simp; omega
  have hl2 : (0 : Int) < len := by omega
  go_enter Try.func28, Try.ntmps28
  go_wp2_with fail
  (with_reducible refine (hs.at _).mono ?_)
  rintro e w1 ⟨rfl, hb1⟩
  obtain ⟨hB1, hc1⟩ := fault_cell hb1 hb hc
  go_wp2_with fail
  (with_reducible refine (hs.at _).mono ?_)
  rintro e w2 ⟨rfl, hb2⟩
  obtain ⟨hB2, hc2⟩ := fault_cell hb2 hB1 hc1
  go_wp2_with fail
  (with_reducible refine (hs.at _).mono ?_)
  rintro e w3 ⟨rfl, hb3⟩
  go_wp2
  go_ret
  exact ⟨rfl, hb1.trans ((hb2.mono hb1.size).trans (hb3.mono (Nat.le_trans hb1.size hb2.size)))⟩
set_option maxHeartbeats 400000 in
theorem fault_none (z s : Int) (b off len cap : Nat) (w : World) (hs : SizeIs z s) (hs0 : (s == 0) = false) (hb : b < w.heap.size) (hc : w.cell? ⟨b, off, none⟩ = some (.int .u8 z)) (h0 : 0 < len) (hlt : decide ((len : Int) < s) = false) (hgt : decide (s < (len : Int)) = false) :
    Calls Try.prog 28 #[.slice (some ⟨b, off, none⟩) len cap] w fun e w' => e = .returned (.int .i64 0) ∧ Below w.heap.size w w' := by
  have hl : ((len : Int) == 0) = false := by simp; omega
  have hl2 : (0 : Int) < len := by omega
  go_enter Try.func28, Try.ntmps28
  go_wp2_with fail
  (with_reducible refine (hs.at _).mono ?_)
  rintro e w1 ⟨rfl, hb1⟩
  obtain ⟨hB1, hc1⟩ := fault_cell hb1 hb hc
  go_wp2_with fail
  (with_reducible refine (hs.at _).mono ?_)
  rintro e w2 ⟨rfl, hb2⟩
  obtain ⟨hB2, hc2⟩ := fault_cell hb2 hB1 hc1
  go_wp2_with fail
  (with_reducible refine (hs.at _).mono ?_)
  rintro e w3 ⟨rfl, hb3⟩
  go_wp2
  go_ret
  exact ⟨rfl, hb1.trans ((hb2.mono hb1.size).trans (hb3.mono (Nat.le_trans hb1.size hb2.size)))⟩
end Go.Proofs.Ytepbjjddpfejnaa
