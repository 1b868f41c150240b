/-
  WireOnly of stage 5, at every input: the law's call returns true, for any slice of bytes; no condition.
-/
import Derived.Test.YtgedfdnbgbdaoaaS
import Derived.ShutString
import Derived.ChangeOld
namespace Go.Proofs.Ytgedfdnbgbdaoaa.wireOnly
open Go.ChangeShapes Go.WideShapes Go.ChangeAt Go.RowKit
set_option linter.unusedVariables false
set_option linter.unusedSimpArgs false
theorem own : ownKnob Try.prog.godebug = none := by kernel_rfl
theorem laidOut : laidOutB Try.prog = true := by kernel_rfl
set_option maxRecDepth 100000 in
set_option maxHeartbeats 2000000 in
theorem only_long (a : Option Addr) (len cap : Nat) (w : World) (h : 100 < len) (hl : len ≤ maxLen) :
    Calls Try.prog 3 #[.slice a len cap] w fun e w' => e = .returned (.bool true) ∧ Below w.heap.size w w' := by
  unfold maxLen at hl
  have hd : decide ((100 : Int) < len) = true := by simp; omega
  go_enter Try.func3, Try.ntmps3
  go_wp2_with fail
  (with_reducible refine (wakes_any _).mono ?_)
  rintro e w' ⟨rfl, hb⟩
  go_wp2
  go_ret
  exact ⟨rfl, hb⟩
set_option maxRecDepth 100000 in
set_option maxHeartbeats 4000000 in
/-- Bytes that are taken. -/
theorem only_good (blk off L cap : Nat) (zs : List Int) (k ts src seq ek : Int) (p q : Nat) (rs rt : Int) (w : World) (h : BytesAt blk off zs w) (hl : zs.length = L) (h100 : L ≤ 100)
    (hT : Calls Try.prog 5 #[.slice (some ⟨blk, off, none⟩) L cap] w fun r w' => r = .returned (.tuple #[RV k ts src seq ek p q rs rt, .int .i64 0]) ∧ Below w.heap.size w w')
    (hP : ∀ w, Calls Try.prog 6 #[RV k ts src seq ek p q rs rt] w (PutDone L zs w))
    (hR : ∀ w, Calls Try.prog 7 #[RV k ts src seq ek p q rs rt] w fun e w' => e = .returned (.bool true) ∧ Below w.heap.size w w') :
    Calls Try.prog 3 #[.slice (some ⟨blk, off, none⟩) L cap] w fun e w' => e = .returned (.bool true) ∧ Below w.heap.size w w' := by
  have HT := Lib.hid hT
  have HP := Lib.hid hP
  have HR := Lib.hid hR
  have HL := Lib.hid hl
  clear hT hP hR hl
  have hd : decide ((100 : Int) < L) = false := by simp; omega
  go_enter Try.func3, Try.ntmps3
  go_wp2_with fail
  (with_reducible refine HT.out.mono ?_)
  rintro e w1 ⟨rfl, hb1⟩
  have hB := hb1
  have hA := (h.later hb1).later ((Below.refl _ _).alloc (Nat.le_refl _) (.cells #[.int .u8 k, .int .i64 ts, .int .i64 src, .int .i64 seq, .int .i64 ek, .complex .f64 p q, .int .i64 rs, .int .i64 rt] 28))
  have hr := RecAt.new w1 k ts src seq ek p q rs rt
  have hB2 := hB.alloc hB.size (.cells #[.int .u8 k, .int .i64 ts, .int .i64 src, .int .i64 seq, .int .i64 ek, .complex .f64 p q, .int .i64 rs, .int .i64 rt] 28)
  clear hb1 hB HT h
  go_wp2_with fail
  generalize w1.alloc (.cells #[.int .u8 k, .int .i64 ts, .int .i64 src, .int .i64 seq, .int .i64 ek, .complex .f64 p q, .int .i64 rs, .int .i64 rt] 28) = w2 at *
  (with_reducible refine (HP.out _).mono ?_)
  rintro e w3 ⟨g, rfl, ho, hb3⟩
  have hA3 := hA.later hb3
  have hG3 := bytes_of_row ho HL.out hA.2.2
  have c1 := conv_bytes (cap := L) hG3 HL.out
  have c2 := conv_bytes (cap := cap) hA3 HL.out
  have hr3 := hr.later hb3
  have hB3 := hB2.trans (hb3.mono hB2.size)
  obtain ⟨hl3, d0, d1, d2, d3, d4, d5, d6, d7⟩ := hr3
  clear hA hr hB2 hb3 hA3 hG3 ho HP
  go_wp2_with fail
  (with_reducible refine (HR.out _).mono ?_)
  rintro e w4 ⟨rfl, hb4⟩
  have hB4 := hB3.trans (hb4.mono hB3.size)
  clear hB3 hb4 HR d0 d1 d2 d3 d4 d5 d6 d7 c1 c2
  go_wp2_with fail
  (with_reducible refine (wakes_any _).mono ?_)
  rintro e w5 ⟨rfl, hb5⟩
  have hB5 := hB4.trans (hb5.mono hB4.size)
  go_wp2
  go_ret
  exact ⟨rfl, hB5⟩
set_option maxRecDepth 100000 in
set_option maxHeartbeats 4000000 in
/-- No bytes. -/
theorem only_empty (a : Option Addr) (cap : Nat) (w : World) (hT : NoTake (.slice a 0 cap) 50 w) :
    Calls Try.prog 3 #[.slice a 0 cap] w fun e w' => e = .returned (.bool true) ∧ Below w.heap.size w w' := by
  have HT := Lib.hid hT.calls
  clear hT
  go_enter Try.func3, Try.ntmps3
  go_wp2_with fail
  (with_reducible refine HT.out.mono ?_)
  rintro e w1 ⟨rfl, hb1⟩
  have hB2 := hb1.alloc hb1.size (.cells #[.int .u8 0, .int .i64 0, .int .i64 0, .int .i64 0, .int .i64 0, .complex .f64 0 0, .int .i64 0, .int .i64 0] 28)
  have hr := RecAt.new w1 0 0 0 0 0 0 0 0 0
  clear hb1 HT
  go_wp2_with fail
  generalize w1.alloc (.cells #[.int .u8 0, .int .i64 0, .int .i64 0, .int .i64 0, .int .i64 0, .complex .f64 0 0, .int .i64 0, .int .i64 0] 28) = w2 at *
  (with_reducible refine (refSame_yes 0 0 0 _).mono ?_)
  rintro e w3 ⟨rfl, hb3⟩
  have hB3 := hB2.trans (hb3.mono hB2.size)
  clear hB2 hb3
  go_wp2_with fail
  (with_reducible refine (wakes_any _).mono ?_)
  rintro e w5 ⟨rfl, hb5⟩
  have hB5 := hB3.trans (hb5.mono hB3.size)
  go_wp2
  go_ret
  exact ⟨rfl, hB5⟩
set_option maxRecDepth 100000 in
set_option maxHeartbeats 4000000 in
/-- A first byte of no kind. -/
theorem only_kind (blk off cap L : Nat) (zs : List Int) (z : Int) (w : World) (h : BytesAt blk off zs w) (hL : zs.length = L) (h0 : 0 < L) (h100 : L ≤ 100) (hz : zs[0]?.getD 0 = z) (n1 : (z == 1) = false) (n2 : (z == 2) = false) (hT : NoTake (.slice (some ⟨blk, off, none⟩) L cap) 11 w) :
    Calls Try.prog 3 #[.slice (some ⟨blk, off, none⟩) L cap] w fun e w' => e = .returned (.bool true) ∧ Below w.heap.size w w' := by
  have HT := Lib.hid hT.calls
  clear hT
  have hd : decide ((100 : Int) < L) = false := by simp; omega
  have hl : ((L : Int) == 0) = false := by rw [beq_eq_false_iff_ne]; omega
  have hl2 : (0 : Int) < L := by omega
  have h0' : 0 < zs.length := by omega
  clear hL
  go_enter Try.func3, Try.ntmps3
  go_wp2_with fail
  (with_reducible refine HT.out.mono ?_)
  rintro e w1 ⟨rfl, hb1⟩
  have hB2 := hb1.alloc hb1.size (.cells #[.int .u8 0, .int .i64 0, .int .i64 0, .int .i64 0, .int .i64 0, .complex .f64 0 0, .int .i64 0, .int .i64 0] 28)
  have hA := (h.later hb1).later ((Below.refl _ _).alloc (Nat.le_refl _) (.cells #[.int .u8 0, .int .i64 0, .int .i64 0, .int .i64 0, .int .i64 0, .complex .f64 0 0, .int .i64 0, .int .i64 0] 28))
  have hc := hA.first h0'
  clear hA h
  rw [hz] at hc
  clear hz h0'
  have hr := RecAt.new w1 0 0 0 0 0 0 0 0 0
  clear hb1 HT
  go_wp2_with fail
  generalize w1.alloc (.cells #[.int .u8 0, .int .i64 0, .int .i64 0, .int .i64 0, .int .i64 0, .complex .f64 0 0, .int .i64 0, .int .i64 0] 28) = w2 at *
  (with_reducible refine (refSame_yes 0 0 0 _).mono ?_)
  rintro e w3 ⟨rfl, hb3⟩
  have hB3 := hB2.trans (hb3.mono hB2.size)
  clear hB2 hb3
  go_wp2_with fail
  (with_reducible refine (wakes_any _).mono ?_)
  rintro e w5 ⟨rfl, hb5⟩
  have hB5 := hB3.trans (hb5.mono hB3.size)
  go_wp2
  go_ret
  exact ⟨rfl, hB5⟩
set_option maxRecDepth 100000 in
set_option maxHeartbeats 4000000 in
/-- Too few bytes of an event. -/
theorem only_shortE (blk off cap L : Nat) (zs : List Int) (z : Int) (w : World) (h : BytesAt blk off zs w) (hL : zs.length = L) (h0 : 0 < L) (h100 : L ≤ 100) (hz : zs[0]?.getD 0 = z) (k1 : z = 1) (hs : decide ((L : Int) < 20) = true) (hT : NoTake (.slice (some ⟨blk, off, none⟩) L cap) 50 w) :
    Calls Try.prog 3 #[.slice (some ⟨blk, off, none⟩) L cap] w fun e w' => e = .returned (.bool true) ∧ Below w.heap.size w w' := by
  have HT := Lib.hid hT.calls
  clear hT
  have hd : decide ((100 : Int) < L) = false := by simp; omega
  have hl : ((L : Int) == 0) = false := by rw [beq_eq_false_iff_ne]; omega
  have hl2 : (0 : Int) < L := by omega
  have h0' : 0 < zs.length := by omega
  clear hL
  go_enter Try.func3, Try.ntmps3
  go_wp2_with fail
  (with_reducible refine HT.out.mono ?_)
  rintro e w1 ⟨rfl, hb1⟩
  have hB2 := hb1.alloc hb1.size (.cells #[.int .u8 0, .int .i64 0, .int .i64 0, .int .i64 0, .int .i64 0, .complex .f64 0 0, .int .i64 0, .int .i64 0] 28)
  have hA := (h.later hb1).later ((Below.refl _ _).alloc (Nat.le_refl _) (.cells #[.int .u8 0, .int .i64 0, .int .i64 0, .int .i64 0, .int .i64 0, .complex .f64 0 0, .int .i64 0, .int .i64 0] 28))
  have hc := hA.first h0'
  clear hA h
  rw [hz] at hc
  clear hz h0'
  subst k1
  have hr := RecAt.new w1 0 0 0 0 0 0 0 0 0
  clear hb1 HT
  go_wp2_with fail
  generalize w1.alloc (.cells #[.int .u8 0, .int .i64 0, .int .i64 0, .int .i64 0, .int .i64 0, .complex .f64 0 0, .int .i64 0, .int .i64 0] 28) = w2 at *
  (with_reducible refine (refSame_yes 0 0 0 _).mono ?_)
  rintro e w3 ⟨rfl, hb3⟩
  have hB3 := hB2.trans (hb3.mono hB2.size)
  clear hB2 hb3
  go_wp2_with fail
  (with_reducible refine (wakes_any _).mono ?_)
  rintro e w5 ⟨rfl, hb5⟩
  have hB5 := hB3.trans (hb5.mono hB3.size)
  go_wp2
  go_ret
  exact ⟨rfl, hB5⟩
set_option maxRecDepth 100000 in
set_option maxHeartbeats 4000000 in
/-- Too few bytes of a mark. -/
theorem only_shortM (blk off cap L : Nat) (zs : List Int) (z : Int) (w : World) (h : BytesAt blk off zs w) (hL : zs.length = L) (h0 : 0 < L) (h100 : L ≤ 100) (hz : zs[0]?.getD 0 = z) (k1 : z = 2) (hs : decide ((L : Int) < 8) = true) (hT : NoTake (.slice (some ⟨blk, off, none⟩) L cap) 50 w) :
    Calls Try.prog 3 #[.slice (some ⟨blk, off, none⟩) L cap] w fun e w' => e = .returned (.bool true) ∧ Below w.heap.size w w' := by
  have HT := Lib.hid hT.calls
  clear hT
  have hd : decide ((100 : Int) < L) = false := by simp; omega
  have hl : ((L : Int) == 0) = false := by rw [beq_eq_false_iff_ne]; omega
  have hl2 : (0 : Int) < L := by omega
  have h0' : 0 < zs.length := by omega
  clear hL
  go_enter Try.func3, Try.ntmps3
  go_wp2_with fail
  (with_reducible refine HT.out.mono ?_)
  rintro e w1 ⟨rfl, hb1⟩
  have hB2 := hb1.alloc hb1.size (.cells #[.int .u8 0, .int .i64 0, .int .i64 0, .int .i64 0, .int .i64 0, .complex .f64 0 0, .int .i64 0, .int .i64 0] 28)
  have hA := (h.later hb1).later ((Below.refl _ _).alloc (Nat.le_refl _) (.cells #[.int .u8 0, .int .i64 0, .int .i64 0, .int .i64 0, .int .i64 0, .complex .f64 0 0, .int .i64 0, .int .i64 0] 28))
  have hc := hA.first h0'
  clear hA h
  rw [hz] at hc
  clear hz h0'
  subst k1
  have hr := RecAt.new w1 0 0 0 0 0 0 0 0 0
  clear hb1 HT
  go_wp2_with fail
  generalize w1.alloc (.cells #[.int .u8 0, .int .i64 0, .int .i64 0, .int .i64 0, .int .i64 0, .complex .f64 0 0, .int .i64 0, .int .i64 0] 28) = w2 at *
  (with_reducible refine (refSame_yes 0 0 0 _).mono ?_)
  rintro e w3 ⟨rfl, hb3⟩
  have hB3 := hB2.trans (hb3.mono hB2.size)
  clear hB2 hb3
  go_wp2_with fail
  (with_reducible refine (wakes_any _).mono ?_)
  rintro e w5 ⟨rfl, hb5⟩
  have hB5 := hB3.trans (hb5.mono hB3.size)
  go_wp2
  go_ret
  exact ⟨rfl, hB5⟩
set_option maxRecDepth 100000 in
set_option maxHeartbeats 4000000 in
/-- Bytes of no event that may be, or too many. -/
theorem only_longE (blk off cap L : Nat) (zs : List Int) (z : Int) (w : World) (h : BytesAt blk off zs w) (hL : zs.length = L) (h0 : 0 < L) (h100 : L ≤ 100) (hz : zs[0]?.getD 0 = z) (k1 : z = 1) (hs : decide ((L : Int) < 20) = false) (hT : NoTake (.slice (some ⟨blk, off, none⟩) L cap) 11 w) :
    Calls Try.prog 3 #[.slice (some ⟨blk, off, none⟩) L cap] w fun e w' => e = .returned (.bool true) ∧ Below w.heap.size w w' := by
  have HT := Lib.hid hT.calls
  clear hT
  have hd : decide ((100 : Int) < L) = false := by simp; omega
  have hl : ((L : Int) == 0) = false := by rw [beq_eq_false_iff_ne]; omega
  have hl2 : (0 : Int) < L := by omega
  have h0' : 0 < zs.length := by omega
  clear hL
  go_enter Try.func3, Try.ntmps3
  go_wp2_with fail
  (with_reducible refine HT.out.mono ?_)
  rintro e w1 ⟨rfl, hb1⟩
  have hB2 := hb1.alloc hb1.size (.cells #[.int .u8 0, .int .i64 0, .int .i64 0, .int .i64 0, .int .i64 0, .complex .f64 0 0, .int .i64 0, .int .i64 0] 28)
  have hA := (h.later hb1).later ((Below.refl _ _).alloc (Nat.le_refl _) (.cells #[.int .u8 0, .int .i64 0, .int .i64 0, .int .i64 0, .int .i64 0, .complex .f64 0 0, .int .i64 0, .int .i64 0] 28))
  have hc := hA.first h0'
  clear hA h
  rw [hz] at hc
  clear hz h0'
  subst k1
  have hr := RecAt.new w1 0 0 0 0 0 0 0 0 0
  clear hb1 HT
  go_wp2_with fail
  generalize w1.alloc (.cells #[.int .u8 0, .int .i64 0, .int .i64 0, .int .i64 0, .int .i64 0, .complex .f64 0 0, .int .i64 0, .int .i64 0] 28) = w2 at *
  (with_reducible refine (refSame_yes 0 0 0 _).mono ?_)
  rintro e w3 ⟨rfl, hb3⟩
  have hB3 := hB2.trans (hb3.mono hB2.size)
  clear hB2 hb3
  go_wp2_with fail
  (with_reducible refine (wakes_any _).mono ?_)
  rintro e w5 ⟨rfl, hb5⟩
  have hB5 := hB3.trans (hb5.mono hB3.size)
  go_wp2
  go_ret
  exact ⟨rfl, hB5⟩
set_option maxRecDepth 100000 in
set_option maxHeartbeats 4000000 in
/-- Bytes of no mark that may be, or too many. -/
theorem only_longM (blk off cap L : Nat) (zs : List Int) (z : Int) (w : World) (h : BytesAt blk off zs w) (hL : zs.length = L) (h0 : 0 < L) (h100 : L ≤ 100) (hz : zs[0]?.getD 0 = z) (k1 : z = 2) (hs : decide ((L : Int) < 8) = false) (hT : NoTake (.slice (some ⟨blk, off, none⟩) L cap) 11 w) :
    Calls Try.prog 3 #[.slice (some ⟨blk, off, none⟩) L cap] w fun e w' => e = .returned (.bool true) ∧ Below w.heap.size w w' := by
  have HT := Lib.hid hT.calls
  clear hT
  have hd : decide ((100 : Int) < L) = false := by simp; omega
  have hl : ((L : Int) == 0) = false := by rw [beq_eq_false_iff_ne]; omega
  have hl2 : (0 : Int) < L := by omega
  have h0' : 0 < zs.length := by omega
  clear hL
  go_enter Try.func3, Try.ntmps3
  go_wp2_with fail
  (with_reducible refine HT.out.mono ?_)
  rintro e w1 ⟨rfl, hb1⟩
  have hB2 := hb1.alloc hb1.size (.cells #[.int .u8 0, .int .i64 0, .int .i64 0, .int .i64 0, .int .i64 0, .complex .f64 0 0, .int .i64 0, .int .i64 0] 28)
  have hA := (h.later hb1).later ((Below.refl _ _).alloc (Nat.le_refl _) (.cells #[.int .u8 0, .int .i64 0, .int .i64 0, .int .i64 0, .int .i64 0, .complex .f64 0 0, .int .i64 0, .int .i64 0] 28))
  have hc := hA.first h0'
  clear hA h
  rw [hz] at hc
  clear hz h0'
  subst k1
  have hr := RecAt.new w1 0 0 0 0 0 0 0 0 0
  clear hb1 HT
  go_wp2_with fail
  generalize w1.alloc (.cells #[.int .u8 0, .int .i64 0, .int .i64 0, .int .i64 0, .int .i64 0, .complex .f64 0 0, .int .i64 0, .int .i64 0] 28) = w2 at *
  (with_reducible refine (refSame_yes 0 0 0 _).mono ?_)
  rintro e w3 ⟨rfl, hb3⟩
  have hB3 := hB2.trans (hb3.mono hB2.size)
  clear hB2 hb3
  go_wp2_with fail
  (with_reducible refine (wakes_any _).mono ?_)
  rintro e w5 ⟨rfl, hb5⟩
  have hB5 := hB3.trans (hb5.mono hB3.size)
  go_wp2
  go_ret
  exact ⟨rfl, hB5⟩
/-- What came in as a slice of integers: nil, or a row of cap cells in memory. -/
def IsRow (k : IntKind) (w : World) (a : Option Addr) (len cap : Nat) (zs : List Int) : Prop :=
  (a = none ∧ len = 0 ∧ cap = 0 ∧ zs = []) ∨
  ∃ x, a = some x ∧ len ≤ cap ∧ cap ≤ maxLen ∧ zs.length = cap ∧ (∀ i, i < zs.length → w.cell? (x.add i) = some (.int k (zs.getD i 0))) ∧ ∀ n ∈ zs, (Lit.int k n).wf = true
/-- What came in as a slice of bytes lies in memory, or has no bytes. -/
theorem row_of {w : World} {a : Option Addr} {len cap : Nat} {zs : List Int} (h : IsRow .u8 w a len cap zs) :
    len ≤ cap ∧ len ≤ maxLen ∧ (len = 0 ∨ ∃ blk off xs, a = some ⟨blk, off, none⟩ ∧ xs.length = len ∧ BytesAt blk off xs w) := by
  rcases h with ⟨rfl, rfl, rfl, rfl⟩ | ⟨x, rfl, hl, hm, hz, hcell, hwz⟩
  · exact ⟨Nat.le_refl _, Nat.zero_le _, .inl rfl⟩
  · refine ⟨hl, Nat.le_trans hl hm, ?_⟩
    by_cases h0 : len = 0
    · exact .inl h0
    · obtain ⟨b, off, spot⟩ := x
      have hlen : (zs.take len).length = len := by simp; omega
      have hc := hcell 0 (by omega)
      have hspot : spot = none := by simpa [Addr.add] using World.cell?_spot hc
      subst hspot
      have hcc : ∀ i, i < (zs.take len).length → w.cell? ⟨b, off + i, none⟩ = some (.int .u8 ((zs.take len)[i]?.getD 0)) := by
        intro i hi
        rw [hlen] at hi
        have := hcell i (by omega)
        rw [show (⟨b, off, none⟩ : Addr).add i = ⟨b, off + i, none⟩ by unfold Addr.add; split <;> simp_all] at this
        rw [this, List.getElem?_take, if_pos hi]
        rfl
      refine .inr ⟨b, off, zs.take len, rfl, hlen, ?_, hcc, ?_⟩
      · by_cases hlt : b < w.heap.size
        · exact hlt
        · have : w.heap[b]? = none := by simp; omega
          have hh := hcc 0 (by omega)
          simp [World.cell?, this] at hh
      · intro n hn
        have hw := hwz n (List.mem_of_mem_take hn)
        simp [Lit.wf, IntKind.min, IntKind.max, IntKind.signed, IntKind.bits] at hw
        unfold isByte
        omega
/-- What the law's call returns. -/
abbrev Done (s : Value) (w : World) : Prop := Calls Try.prog 3 #[s] w fun e w' => e = .returned (.bool true) ∧ Below w.heap.size w w'
theorem walk_event (blk off cap : Nat) (zs : List Int) (w : World) (h : BytesAt blk off zs w) (hl : zs.length = 20) (hc : 20 ≤ cap) (h0 : zs[0]?.getD 0 = 1) : Done (.slice (some ⟨blk, off, none⟩) 20 cap) w := by
  obtain ⟨c, rfl⟩ : ∃ c, cap = 20 + c := ⟨cap - 20, by omega⟩
  have ht := take_event blk off c zs w h hl h0
  have hs := one_bd h.2.2 7 (by omega)
  cases hb : okB zs
  · exact only_longE blk off (20 + c) 20 zs 1 w h hl (by omega) (by omega) h0 rfl rfl (ht.2 hb)
  · have hb' := hb
    unfold okB at hb'
    simp only [Bool.and_eq_true] at hb'
    obtain ⟨⟨⟨h1, h3⟩, h4⟩, h5, h6⟩ := hb'
    have c1 := upB_spec h1
    have c3 := upB_spec h3
    have c4 := upB_spec h4
    refine only_good blk off 20 (20 + c) zs 1 (evV zs 1) (evV zs 2) (evV zs 3) (evV zs 4) _ _ 0 0 w h hl (by omega) (ht.1 hb) (fun w => ?_)
      (refRight_event _ _ _ _ _ _ c1.1 c1.2 hs.1 hs.2 c3.1 c3.2 c4.1 (by omega) (refPoint_ok _ _ h5 h6))
    have hp := put_event (evV zs 1) (evV zs 2) (evV zs 3) (evV zs 4) (part32 (evV zs 5)) (part32 (evV zs 6)) h1 (upB_yes hs.1 hs.2) h3 h4 h5 h6 w
    rwa [event_bytes zs h.2.2 hl h0] at hp
theorem walk_mark (blk off cap : Nat) (zs : List Int) (w : World) (h : BytesAt blk off zs w) (hl : zs.length = 8) (hc : 8 ≤ cap) (h0 : zs[0]?.getD 0 = 2) : Done (.slice (some ⟨blk, off, none⟩) 8 cap) w := by
  obtain ⟨c, rfl⟩ : ∃ c, cap = 8 + c := ⟨cap - 8, by omega⟩
  have ht := take_mark blk off c zs w h hl h0
  have hs := one_bd h.2.2 1 (by omega)
  cases hb : upB (takeN (ck zs 2 6)) 1099511627776
  · exact only_longM blk off (8 + c) 8 zs 2 w h hl (by omega) (by omega) h0 rfl rfl (ht.2 hb)
  · have c1 := upB_spec hb
    refine only_good blk off 8 (8 + c) zs 2 0 0 0 0 0 0 (takeN (ck zs 1 1)) (takeN (ck zs 2 6)) w h hl (by omega) (ht.1 hb) (fun w => ?_)
      (refRight_mark _ _ hs.1 hs.2 c1.1 c1.2)
    have hp := put_mark (takeN (ck zs 1 1)) (takeN (ck zs 2 6)) (upB_yes hs.1 hs.2) hb w
    rwa [mark_bytes zs h.2.2 hl h0] at hp
theorem walk (a : Option Addr) (len cap : Nat) (zs : List Int) (w : World) (hrow : IsRow .u8 w a len cap zs) :
    Calls Try.prog 3 #[.slice a len cap] w fun e w' => e = .returned (.bool true) ∧ Below w.heap.size w w' := by
  obtain ⟨hlc, hlm, hx⟩ := row_of hrow
  clear hrow
  by_cases h100 : 100 < len
  · exact only_long a len cap w h100 hlm
  rcases hx with rfl | ⟨blk, off, xs, rfl, hl, h⟩
  · exact only_empty a cap w (take_empty a cap w)
  clear zs
  by_cases hz0 : len = 0
  · subst hz0; exact only_empty _ cap w (take_empty _ cap w)
  have h0 : 0 < xs.length := by omega
  by_cases k1 : xs[0]?.getD 0 = 1
  · have hs : SizeIs (xs[0]?.getD 0) 20 := by rw [k1]; exact size_event
    rcases Nat.lt_trichotomy len 20 with hlt | rfl | hgt
    · exact only_shortE blk off cap len xs 1 w h hl (by omega) (by omega) k1 rfl (by simp; omega) (by rw [← hl]; exact take_short blk off cap xs 20 w h h0 hs rfl (by omega))
    · exact walk_event blk off cap xs w h hl hlc k1
    · exact only_longE blk off cap len xs 1 w h hl (by omega) (by omega) k1 rfl (by simp; omega) (by rw [← hl]; exact take_long blk off cap xs 20 w h h0 hs rfl (by omega))
  by_cases k2 : xs[0]?.getD 0 = 2
  · have hs : SizeIs (xs[0]?.getD 0) 8 := by rw [k2]; exact size_mark
    rcases Nat.lt_trichotomy len 8 with hlt | rfl | hgt
    · exact only_shortM blk off cap len xs 2 w h hl (by omega) (by omega) k2 rfl (by simp; omega) (by rw [← hl]; exact take_short blk off cap xs 8 w h h0 hs rfl (by omega))
    · exact walk_mark blk off cap xs w h hl hlc k2
    · exact only_longM blk off cap len xs 2 w h hl (by omega) (by omega) k2 rfl (by simp; omega) (by rw [← hl]; exact take_long blk off cap xs 8 w h h0 hs rfl (by omega))
  · have n1 : (xs[0]?.getD 0 == 1) = false := beq_eq_false_iff_ne.2 k1
    have n2 : (xs[0]?.getD 0 == 2) = false := beq_eq_false_iff_ne.2 k2
    exact only_kind blk off cap len xs _ w h hl (by omega) (by omega) rfl n1 n2 (by rw [← hl]; exact take_kind blk off cap xs w h h0 n1 n2)
set_option maxRecDepth 100000 in
theorem lifted (os : Os) (started : os.Started) (H : Type) (enc : TypeId × Value → H) :
    ReturnsInHanded {} Try.checked os 3 .any (Rows.wireOnlySpec.pre6 enc Try.prog Try.f3 Rows.wireOnlyRow.domain false) (Rows.wireOnlySpec.post enc Try.prog Try.f3 false true false false) := by
  refine returnsInHanded_of_change (C := Try.checked) own started (by kernel_rfl) Try.func3
    (ChangeSpec.witness6 (enc := enc) (C := Try.checked) false ⟨#[], #[.slice none 0 0], []⟩ 8 (by kernel_rfl) (by kernel_rfl) (by kernel_rfl) (by kernel_rfl)) ?_
  intro W base args ds gs before hval0 hW hcnd _
  have hval : ∀ (j : Nat) t v, Try.f3.params[j]? = some t → args[j]? = some v → Value.okWide Try.prog W .any base t v := hval0
  have hW' := hW
  obtain ⟨p, q, hA0, hV, rfl, hfz, hnd⟩ := hW
  have hA : DataW.TrodAll enc Try.prog W 0 (fun _ => true) true Try.f3.params.toList args.toList ds p := hA0
  rw [Try.params3] at hA hval
  obtain ⟨v0, vs0, d0, ds0, p0, q0, hargs, rfl, rfl, h0, r0⟩ := trodAll_cons hA
  obtain ⟨rfl, rfl, rfl⟩ := trodAll_nil r0
  obtain rfl : args = #[v0] := by cases args; simp_all
  obtain ⟨rfl, rfl⟩ := trodVars_none hV
  obtain ⟨a0, len0, cap0, rfl⟩ := okWide_slice Try.underlying22 (hval 0 22 v0 rfl rfl)
  have k0 := h0
  have lt0 : ∀ x ∈ p0, x.block < W.heap.size := by obtain ⟨m, hm⟩ := k0; exact DataW.trod_lt m _ _ _ hm
  obtain ⟨z0, w0⟩ : ∃ zs, IsRow .u8 W a0 len0 cap0 zs := by
    obtain ⟨fuel, hf⟩ := h0
    rcases open_ints Try.underlying22 Try.underlying5 (by kernel_rfl) hf with ⟨hcs, _⟩ | ⟨x, l, c, zs, hcs, _, hl, hm, hz, _, hcell, hwz⟩
    · simp [Value.cells] at hcs
      obtain ⟨rfl, rfl, rfl⟩ := hcs
      exact ⟨[], .inl ⟨rfl, rfl, rfl, rfl⟩⟩
    · simp [Value.cells] at hcs
      obtain ⟨rfl, rfl, rfl⟩ := hcs
      exact ⟨zs, .inr ⟨_, rfl, hl, hm, by simpa using hz, hcell, hwz⟩⟩
  clear hA0 hval0
  refine (walk a0 len0 cap0 z0 W w0).mono fun e W' ⟨he, bel⟩ => ?_
  subst he
  exact ⟨_, rfl, _, _, _, [], _, [], hW', trodAll_mk1 (shut_bool Try.underlying4 _), (trodAll_cons_mk (Below.trod laidOut (by kernel_rfl) (of_decide_eq_true (by kernel_rfl)) k0 bel lt0) trodAll_mk0), rfl, bel.frame _, fun h => by cases h⟩

theorem over : Rows.wireOnlyRow.holds Try.pinned (OpenSpec.ofChange Rows.wireOnlySpec) :=
  OpenClaim.holds_of_wide 3 Try.f3 rfl rfl rfl rfl rfl rfl rfl ⟨rfl, rfl, rfl, rfl, rfl⟩ rfl rfl rfl rfl rfl (by kernel_rfl) Try.func3 (by kernel_rfl)
    (of_decide_eq_true (by kernel_rfl)) (by unfold Func.isWrapper; first | (rw [if_pos (by decide +kernel)]; kernel_rfl) | (rw [if_neg (by decide +kernel)]; exact ⟨rfl, rfl⟩))
    (fun os started H enc _ => lifted os started H enc)

theorem proved : Rows.WireOnlySaid := over
#print axioms proved
end Go.Proofs.Ytgedfdnbgbdaoaa.wireOnly
