/-
  Contract of the document's own Right at patterns of any length.
-/
import Derived.Test.YtccmnngeibpcmaaGreatRD
namespace Go.Proofs.YtccmnngeibpcmaaGreat.Tree
open Go.ChangeShapes Go.WideShapes Go.ChangeAt Go.RowKit
set_option linter.unusedVariables false
set_option linter.unusedSimpArgs false
attribute [local go_sem] Oper.semAt_some
theorem rightC_op {c : Cp} (h : ¬ (1 ≤ c.op ∧ c.op < 7)) : rightC c = false := by
  unfold rightC
  by_cases h1 : 1 ≤ c.op
  · have : ¬ c.op < 7 := fun h2 => h ⟨h1, h2⟩
    simp [this]
  · simp [h1]
theorem rightC_l {c : Cp} (h : rightT c.l = false) : rightC c = false := by unfold rightC; simp [h]
theorem rightC_r {c : Cp} (h : rightT c.r = false) : rightC c = false := by unfold rightC; simp [h]
theorem rightC_yes {c : Cp} (h1 : 1 ≤ c.op) (h2 : c.op < 7) (h3 : rightT c.l = true) (h4 : rightT c.r = true) : rightC c = true := by unfold rightC; simp [h1, h2, h3, h4]
theorem rightS_kind {s : Sp} (h : nbr s.kind = false) : rightS s = false := by unfold rightS; simp [h]
theorem rightS_min {s : Sp} (h : nbr s.min = false) : rightS s = false := by unfold rightS; simp [h]
theorem rightS_max {s : Sp} (h : nbr s.max = false) : rightS s = false := by unfold rightS; simp [h]
theorem rightP_len {ss : List Sp} {win : Int} (h : ss.length < 1 ∨ 26 < ss.length) : rightP ss win = false := by
  unfold rightP
  by_cases h1 : 1 ≤ ss.length
  · have : ¬ ss.length ≤ 26 := by omega
    simp [this]
  · simp [h1]
theorem rightP_win {ss : List Sp} {win : Int} (h : nbr win = false) : rightP ss win = false := by unfold rightP; simp [h]
theorem slice_eq {a a' : Option Addr} {n c c' : Nat} (h : Value.slice a n c = .slice a' n c') : a = a' ∧ c = c' := by cases h; exact ⟨rfl, rfl⟩
/-- What of a pattern in a box is read. -/
def PtIn (B : Nat) (a : Option Addr) (n c : Nat) (win : Int) (L : List (Sp × Value)) (W : World) : Prop := PtBox B (.slice a n c) win W ∧ L.length = n ∧ SpsL W (.slice a n c) L
theorem PtIn.later {B : Nat} {a : Option Addr} {n c : Nat} {win : Int} {L : List (Sp × Value)} {W W' : World} (h : PtIn B a n c win L W) (hb : Below W.heap.size W W') : PtIn B a n c win L W' := ⟨h.1.later hb, h.2.1, h.2.2.later hb⟩
theorem PtIn.step {B : Nat} {a : Option Addr} {n c : Nat} {win : Int} {L : List (Sp × Value)} {W : World} (h : PtIn B a n c win L W) {i : Nat} {s : Sp} {v : Value} (hx : L[i]? = some (s, v)) :
    ∃ b o, a = some ⟨b, o, none⟩ ∧ W.cell? ⟨b, o + i * 6, none⟩ = some (.bool s.neg) ∧ W.cell? ⟨b, o + i * 6 + 1, none⟩ = some (.int .i64 s.kind) ∧ W.cell? ⟨b, o + i * 6 + 2, none⟩ = some (.int .i64 s.min) ∧
      W.cell? ⟨b, o + i * 6 + 3, none⟩ = some (.int .i64 s.max) ∧ W.cell? ⟨b, o + i * 6 + 4, none⟩ = some (.bool s.strict) ∧ W.cell? ⟨b, o + i * 6 + 5, none⟩ = some v ∧ CpsAt W v s.cs := by
  obtain ⟨⟨a', c', e, hc⟩, hcs⟩ := h.2.2
  rw [h.2.1] at e
  obtain ⟨rfl, rfl⟩ := slice_eq e
  obtain ⟨b, o, e, z0, z1, z2, z3, z4, z5⟩ := sps_cell hc hx
  exact ⟨b, o, e, z0, z1, z2, z3, z4, z5, hcs _ (List.mem_of_getElem? hx)⟩
/-- What of a step in a box is read. -/
def SpIn (S : Nat) (s : Sp) (a : Option Addr) (n c : Nat) (W : World) : Prop := SpBox S s (.slice a n c) W ∧ s.cs.length = n ∧ CpsAt W (.slice a n c) s.cs
theorem SpIn.later {S : Nat} {s : Sp} {a : Option Addr} {n c : Nat} {W W' : World} (h : SpIn S s a n c W) (hb : Below W.heap.size W W') : SpIn S s a n c W' := ⟨h.1.later hb, h.2.1, h.2.2.later hb⟩
theorem SpIn.cmp {S : Nat} {s : Sp} {a : Option Addr} {n c : Nat} {W : World} (h : SpIn S s a n c W) {i : Nat} {x : Cp} (hx : s.cs[i]? = some x) :
    ∃ b o, a = some ⟨b, o, none⟩ ∧ W.cell? ⟨b, o + i * 9, none⟩ = some (.int .u8 x.op) ∧ W.cell? ⟨b, o + i * 9 + 1, none⟩ = some (.int .u8 x.l.k) ∧ W.cell? ⟨b, o + i * 9 + 2, none⟩ = some (.int .i64 x.l.n) ∧
      W.cell? ⟨b, o + i * 9 + 3, none⟩ = some (.int .i64 x.l.s) ∧ W.cell? ⟨b, o + i * 9 + 4, none⟩ = some (.int .i64 x.l.r) ∧ W.cell? ⟨b, o + i * 9 + 5, none⟩ = some (.int .u8 x.r.k) ∧
      W.cell? ⟨b, o + i * 9 + 6, none⟩ = some (.int .i64 x.r.n) ∧ W.cell? ⟨b, o + i * 9 + 7, none⟩ = some (.int .i64 x.r.s) ∧ W.cell? ⟨b, o + i * 9 + 8, none⟩ = some (.int .i64 x.r.r) := by
  obtain ⟨a', c', e, hc⟩ := h.2.2
  rw [h.2.1] at e
  obtain ⟨rfl, rfl⟩ := slice_eq e
  exact cps_cell hc hx
/-- A comparison in a box. -/
def CpBox (p : Nat) (x : Cp) (w : World) : Prop := w.heap[p]? = some (.cells #[.int .u8 x.op, .int .u8 x.l.k, .int .i64 x.l.n, .int .i64 x.l.s, .int .i64 x.l.r, .int .u8 x.r.k, .int .i64 x.r.n, .int .i64 x.r.s, .int .i64 x.r.r] 95 (0, 0))
theorem CpBox.lt {p : Nat} {x : Cp} {w : World} (h : CpBox p x w) : p < w.heap.size := (Array.getElem?_eq_some_iff.1 h).1
theorem CpBox.later {p : Nat} {x : Cp} {w w' : World} (h : CpBox p x w) (hb : Below w.heap.size w w') : CpBox p x w' := (hb.block _ h.lt).trans h
theorem CpBox.cells {p : Nat} {x : Cp} {w : World} (h : CpBox p x w) : w.cell? ⟨p, 0, none⟩ = some (.int .u8 x.op) ∧ w.cell? ⟨p, 1, none⟩ = some (.int .u8 x.l.k) ∧ w.cell? ⟨p, 2, none⟩ = some (.int .i64 x.l.n) ∧
      w.cell? ⟨p, 3, none⟩ = some (.int .i64 x.l.s) ∧ w.cell? ⟨p, 4, none⟩ = some (.int .i64 x.l.r) ∧ w.cell? ⟨p, 5, none⟩ = some (.int .u8 x.r.k) ∧
      w.cell? ⟨p, 6, none⟩ = some (.int .i64 x.r.n) ∧ w.cell? ⟨p, 7, none⟩ = some (.int .i64 x.r.s) ∧ w.cell? ⟨p, 8, none⟩ = some (.int .i64 x.r.r) := by
  unfold CpBox at h
  refine ⟨?_, ?_, ?_, ?_, ?_, ?_, ?_, ?_, ?_⟩ <;> simp [World.cell?, h]
theorem kept_trans {w w1 w2 : World} (h1 : Below w.heap.size w w1) (h2 : Below w1.heap.size w1 w2) : Below w.heap.size w w2 := h1.trans (h2.mono h1.size)
theorem kept_alloc {w w1 : World} (h1 : Below w.heap.size w w1) (o : Obj) : Below w.heap.size w (w1.alloc o) := kept_trans h1 ((Below.refl _ w1).alloc (Nat.le_refl _) o)
theorem kept_new (w : World) (o : Obj) : Below w.heap.size w (w.alloc o) := (Below.refl _ w).alloc (Nat.le_refl _) o
theorem CpBox.new (w : World) (x : Cp) : CpBox w.heap.size x (w.alloc (.cells #[.int .u8 x.op, .int .u8 x.l.k, .int .i64 x.l.n, .int .i64 x.l.s, .int .i64 x.l.r, .int .u8 x.r.k, .int .i64 x.r.n, .int .i64 x.r.s, .int .i64 x.r.r] 95)) := World.alloc_heap_new w _
end Go.Proofs.YtccmnngeibpcmaaGreat.Tree
