/-
  The reader: its box and what it has left; contracts of may, must, one.
-/
import Derived.Test.YtkedifhlkiffoaaDoorLO
import Derived.WalkLawsBesides
namespace Go.Proofs.YtkedifhlkiffoaaDoor
open Go.ChangeShapes Go.WideShapes Go.ChangeAt Go.RowKit
set_option linter.unusedVariables false
set_option linter.unusedSimpArgs false
attribute [local go_sem] Oper.semAt_some
/-- The reader at R, behind k of the tokens at g. -/
def RdK (R g c : Nat) (ts : List (Tk × Nat)) (k : Nat) (W : World) : Prop :=
  (∃ a, W.heap[R]? = some (.cells #[.slice a (ts.length - k) (c - k)] 61 (0, 0)) ∧ (k < ts.length → a = some ⟨g, k * 3, none⟩)) ∧ (∃ base, TksAt base (.slice (some ⟨g, 0, none⟩) ts.length c) ts W) ∧ R ≠ g ∧ ts.length ≤ c
theorem RdK.kept {R g c k : Nat} {ts : List (Tk × Nat)} {W W' : World} (h : RdK R g c ts k W) (hg : W.grownBy W' none) : RdK R g c ts k W' := by
  obtain ⟨⟨a, h1, h0⟩, ⟨base, h2⟩, h3, h4⟩ := h
  have hb : Below W.heap.size W W' := ⟨hg.os, hg.tape, hg.output, hg.size, fun k hk => hg.block k hk (by simp)⟩
  exact ⟨⟨a, (hb.block _ (Array.getElem?_eq_some_iff.1 h1).1).trans h1, h0⟩, ⟨base, h2.later hb⟩, h3, h4⟩
theorem RdK.cell {R g c k : Nat} {ts : List (Tk × Nat)} {W : World} (h : RdK R g c ts k W) (hk : k < ts.length) : W.cell? ⟨R, 0, none⟩ = some (.slice (some ⟨g, k * 3, none⟩) (ts.length - k) (c - k)) ∧ W.frozen? ⟨R, 0, none⟩ = false := by
  obtain ⟨⟨a, h1, h0⟩, -⟩ := h
  obtain rfl := h0 hk
  exact ⟨by simp [World.cell?, h1], by simp [World.frozen?, h1]⟩
theorem RdK.tok {R g c k : Nat} {ts : List (Tk × Nat)} {W : World} (h : RdK R g c ts k W) {x : Tk × Nat} (hx : ts[k]? = some x) :
    W.cell? ⟨g, k * 3, none⟩ = some (.int .u8 x.1.k) ∧ W.cell? ⟨g, k * 3 + 1, none⟩ = some (.int .i64 x.1.n) ∧ W.cell? ⟨g, k * 3 + 2, none⟩ = some (.int .i64 x.2) := by
  obtain ⟨-, ⟨base, h2⟩, -, -⟩ := h
  exact tks_cell h2 hx
theorem set_grown (W : World) (b o : Nat) (v : Value) : W.grownBy (W.setCell ⟨b, o, none⟩ v) (some b) :=
  ⟨rfl, rfl, rfl, (KeepsWalks.setCell W _ v).size, fun k _ hk => Below.heap_setCell _ _ _ k (fun e => hk (by rw [e]))⟩
theorem RdK.next {R g c k : Nat} {ts : List (Tk × Nat)} {W : World} (h : RdK R g c ts k W) (a : Option Addr) (ha : k + 1 < ts.length → a = some ⟨g, (k + 1) * 3, none⟩) : RdK R g c ts (k + 1) (W.setCell ⟨R, 0, none⟩ (.slice a (ts.length - (k + 1)) (c - (k + 1)))) := by
  obtain ⟨⟨a0, h1, -⟩, ⟨base, h2⟩, h3, h4⟩ := h
  obtain ⟨hlt, hk⟩ := Array.getElem?_eq_some_iff.1 h1
  refine ⟨⟨a, ?_, ha⟩, ⟨base, ?_⟩, h3, h4⟩
  · show (W.heap.modify R _)[R]? = _
    rw [Array.getElem?_eq_getElem (by rw [Array.size_modify]; exact hlt), Array.getElem_modify_self, hk]
    rfl
  · refine World.ownsRow.kept h2 (set_grown W R 0 _) (.inr fun e => ?_)
    simp [Value.ownBlock] at e
    exact h3 e.symm
theorem grown_two {W X Y : World} {R : Nat} (h1 : W.grownBy X none) (h2 : X.grownBy Y (some R)) : W.grownBy Y (some R) :=
  ⟨h2.os.trans h1.os, h2.tape.trans h1.tape, h2.output.trans h1.output, Nat.le_trans h1.size h2.size, fun k hk hne => (h2.block k (Nat.lt_of_lt_of_le hk h1.size) hne).trans (h1.block k hk (by simp))⟩
set_option maxRecDepth 100000 in
set_option maxHeartbeats 1000000 in
theorem may_any (R g c k : Nat) (ts : List (Tk × Nat)) (kd nn : Int) (x : Tk × Nat) (w : World) (hx : ts[k]? = some x) (h : RdK R g c ts k w) :
    Calls Tryd.prog 69 #[.pointer (some ⟨R, 0, none⟩), .int .u8 kd, .int .i64 nn] w fun e w' => ∃ b : Bool, b = decide (x.1.k = kd ∧ x.1.n = nn) ∧ e = .returned (.bool b) ∧ RdK R g c ts (if b then k + 1 else k) w' ∧ w.grownBy w' (some R) := by
  have hk := (List.getElem?_eq_some_iff.1 hx).1
  have hc4 := h.2.2.2
  have hg0 := World.grownBy_alloc w (.cells #[.int .u8 x.1.k, .int .i64 x.1.n, .int .i64 x.2] 35) none
  have hgR := World.grownBy_alloc w (.cells #[.int .u8 x.1.k, .int .i64 x.1.n, .int .i64 x.2] 35) (some R)
  have h' := h.kept hg0
  have hn := h'.next (some ⟨g, (k + 1) * 3, none⟩) (fun _ => rfl)
  have hn0 := fun a (h0 : c - (k + 1) = 0) => h'.next a (fun h => by omega)
  have hgn := fun v => grown_two hg0 (set_grown (w.alloc (.cells #[.int .u8 x.1.k, .int .i64 x.1.n, .int .i64 x.2] 35)) R 0 v)
  obtain ⟨r0, -⟩ := h.cell hk
  obtain ⟨z0, z1, z2⟩ := h.tok hx
  obtain ⟨q0, q1⟩ := h'.cell hk
  obtain ⟨m, hm⟩ : ∃ m, ts.length - k = m + 1 := ⟨ts.length - k - 1, by omega⟩
  obtain ⟨d, hd⟩ : ∃ d, c - k = d + 1 := ⟨c - k - 1, by omega⟩
  rw [hm, hd] at r0 q0
  rw [show ts.length - (k + 1) = m by omega, show c - (k + 1) = d by omega, show (k + 1) * 3 = k * 3 + 3 by omega] at hn
  simp only [show ts.length - (k + 1) = m by omega, show c - (k + 1) = d by omega] at hn0
  have hmd : m ≤ d := by omega
  replace hn := Lib.hid hn
  replace hgn := Lib.hid hgn
  replace hn0 := Lib.hid hn0
  replace h' := Lib.hid h'
  replace hgR := Lib.hid hgR
  clear hm hd hk hc4 hx h hg0
  by_cases e1 : x.1.k = kd
  · by_cases e2 : x.1.n = nn
    · have c1 : (x.1.k != kd) = false := by simp [e1]
      have c2 : (x.1.n != nn) = false := by simp [e2]
      have ht : decide (x.1.k = kd ∧ x.1.n = nn) = true := by simp [e1, e2]
      rw [ht]
      clear e1 e2 ht
      go_enter Tryd.func69, Tryd.ntmps69
      by_cases hd0 : d = 0
      · go_wp2_with fail
        go_ret
        have hz := hn0.out (some ⟨g, k * 3, none⟩) hd0
        rw [hd0] at hz
        exact ⟨true, rfl, rfl, hz, hgn.out _⟩
      · go_wp2_with fail
        go_ret
        exact ⟨true, rfl, rfl, hn.out, hgn.out _⟩
    · have c1 : (x.1.k != kd) = false := by simp [e1]
      have c2 : (x.1.n != nn) = true := by simp [e2]
      have ht : decide (x.1.k = kd ∧ x.1.n = nn) = false := by simp [e2]
      rw [ht]
      clear e1 e2 ht
      go_enter Tryd.func69, Tryd.ntmps69
      go_wp2_with fail
      go_ret
      exact ⟨false, rfl, rfl, h'.out, hgR.out⟩
  · have c1 : (x.1.k != kd) = true := by simp [e1]
    have ht : decide (x.1.k = kd ∧ x.1.n = nn) = false := by simp [e1]
    rw [ht]
    clear e1 ht
    go_enter Tryd.func69, Tryd.ntmps69
    go_wp2_with fail
    go_ret
    exact ⟨false, rfl, rfl, h'.out, hgR.out⟩
/-- A token as the reader panics with it. -/
abbrev tokI (x : Tk × Nat) : Value := .iface 35 (.agg #[.int .u8 x.1.k, .int .i64 x.1.n, .int .i64 x.2])
abbrev noTok (x : Tk × Nat) : Ending := .panicked [{ v := tokI x, recovered := false }]
set_option maxRecDepth 100000 in
set_option maxHeartbeats 1000000 in
theorem must_any (R g c k : Nat) (ts : List (Tk × Nat)) (kd nn : Int) (x : Tk × Nat) (w : World) (hx : ts[k]? = some x) (h : RdK R g c ts k w) :
    Calls Tryd.prog 70 #[.pointer (some ⟨R, 0, none⟩), .int .u8 kd, .int .i64 nn] w fun e w' => ((x.1.k = kd ∧ x.1.n = nn) ∧ e = .returned (.tuple #[]) ∧ RdK R g c ts (k + 1) w' ∧ w.grownBy w' (some R)) ∨ (¬ (x.1.k = kd ∧ x.1.n = nn) ∧ e = noTok x ∧ w.grownBy w' (some R)) := by
  have hM := may_any R g c k ts kd nn x w hx h
  have hk := (List.getElem?_eq_some_iff.1 hx).1
  replace hM := Lib.hid hM
  go_enter Tryd.func70, Tryd.ntmps70
  go_wp2_with fail
  (with_reducible refine hM.out.mono ?_)
  rintro e w2 ⟨b, hb, rfl, hR, hg⟩
  clear hM
  cases b
  · have hno : ¬ (x.1.k = kd ∧ x.1.n = nn) := of_decide_eq_false hb.symm
    have hR' : RdK R g c ts k w2 := hR
    obtain ⟨r0, -⟩ := hR'.cell hk
    obtain ⟨z0, z1, z2⟩ := hR'.tok hx
    obtain ⟨m, hm⟩ : ∃ m, ts.length - k = m + 1 := ⟨ts.length - k - 1, by omega⟩
    rw [hm] at r0
    replace hno := Lib.hid hno
    clear hb hR hR' hm hx h hk
    go_wp2_with fail
    exact ⟨rfl, .inr ⟨hno.out, rfl, hg⟩⟩
  · have hyes : x.1.k = kd ∧ x.1.n = nn := of_decide_eq_true hb.symm
    replace hyes := Lib.hid hyes
    clear hb
    go_wp2_with fail
    exact ⟨rfl, .tuple #[], by kernel_rfl, .inl ⟨hyes.out, rfl, hR, hg⟩⟩
theorem grown_more {W X Y : World} {R : Nat} (h1 : W.grownBy X (some R)) (h2 : X.grownBy Y (some R)) : W.grownBy Y (some R) :=
  ⟨h2.os.trans h1.os, h2.tape.trans h1.tape, h2.output.trans h1.output, Nat.le_trans h1.size h2.size, fun k hk hne => (h2.block k (Nat.lt_of_lt_of_le hk h1.size) hne).trans (h1.block k hk hne)⟩
set_option maxRecDepth 100000 in
set_option maxHeartbeats 1000000 in
theorem one_any (R g c k : Nat) (ts : List (Tk × Nat)) (kd : Int) (x : Tk × Nat) (w : World) (hx : ts[k]? = some x) (h : RdK R g c ts k w) :
    Calls Tryd.prog 71 #[.pointer (some ⟨R, 0, none⟩), .int .u8 kd] w fun e w' => (x.1.k = kd ∧ e = .returned (.int .i64 x.1.n) ∧ RdK R g c ts (k + 1) w' ∧ w.grownBy w' (some R)) ∨ (¬ x.1.k = kd ∧ e = noTok x ∧ w.grownBy w' (some R)) := by
  have hk := (List.getElem?_eq_some_iff.1 hx).1
  have hg0 := World.grownBy_alloc w (.cells #[.int .u8 x.1.k, .int .i64 x.1.n, .int .i64 x.2] 35) none
  have hgR := World.grownBy_alloc w (.cells #[.int .u8 x.1.k, .int .i64 x.1.n, .int .i64 x.2] 35) (some R)
  have h' := h.kept hg0
  have hM := must_any R g c k ts kd x.1.n x _ hx h'
  obtain ⟨r0, -⟩ := h.cell hk
  obtain ⟨z0, z1, z2⟩ := h.tok hx
  have hRl : R < w.heap.size := by obtain ⟨⟨a, h1, -⟩, -⟩ := h; exact (Array.getElem?_eq_some_iff.1 h1).1
  obtain ⟨m, hm⟩ : ∃ m, ts.length - k = m + 1 := ⟨ts.length - k - 1, by omega⟩
  rw [hm] at r0
  have hbox : (w.alloc (.cells #[.int .u8 x.1.k, .int .i64 x.1.n, .int .i64 x.2] 35)).heap[w.heap.size]? = some (.cells #[.int .u8 x.1.k, .int .i64 x.1.n, .int .i64 x.2] 35 (0, 0)) := World.alloc_heap_new w _
  replace hM := Lib.hid hM
  clear h' hm hk hx h
  go_enter Tryd.func71, Tryd.ntmps71
  go_wp2_with fail
  (with_reducible refine hM.out.mono ?_)
  rintro e w2 (⟨⟨h1, -⟩, rfl, hR, hg⟩ | ⟨h1, rfl, hg⟩)
  · have hb2 : w2.heap[w.heap.size]? = some (.cells #[.int .u8 x.1.k, .int .i64 x.1.n, .int .i64 x.2] 35 (0, 0)) := (hg.block _ (by simp) (by simp; omega)).trans hbox
    have y1 : w2.cell? ⟨w.heap.size, 1, none⟩ = some (.int .i64 x.1.n) := by simp [World.cell?, hb2]
    replace h1 := Lib.hid h1
    clear hb2 hbox hM
    go_wp2_with fail
    go_ret
    exact .inl ⟨h1.out, rfl, hR, grown_more hgR hg⟩
  · have hno : ¬ x.1.k = kd := fun e => h1 ⟨e, trivial⟩
    replace hno := Lib.hid hno
    clear h1 hM
    go_wp2_with fail
    exact ⟨rfl, .inr ⟨hno.out, rfl, grown_more hgR hg⟩⟩
end Go.Proofs.YtkedifhlkiffoaaDoor
