/-
  Contracts of the two functions that record's tellers lays: what a record of a kind tells; no condition but the bounds that are named.
-/
import Derived.Test.YtepbjjddpfejnaaH
namespace Go.Proofs.Ytepbjjddpfejnaa
open Go.ChangeShapes Go.WideShapes Go.ChangeAt Go.RowKit
set_option linter.unusedVariables false
set_option linter.unusedSimpArgs false
/-- A record lies at block B. -/
structure RecAt (W : World) (B : Nat) (k ts src seq ek : Int) (p q : Nat) (rs rt : Int) : Prop where
  lt : B < W.heap.size
  c0 : W.cell? ⟨B, 0, none⟩ = some (.int .u8 k)
  c1 : W.cell? ⟨B, 1, none⟩ = some (.int .i64 ts)
  c2 : W.cell? ⟨B, 2, none⟩ = some (.int .i64 src)
  c3 : W.cell? ⟨B, 3, none⟩ = some (.int .i64 seq)
  c4 : W.cell? ⟨B, 4, none⟩ = some (.int .i64 ek)
  c5 : W.cell? ⟨B, 5, none⟩ = some (.complex .f64 p q)
  c6 : W.cell? ⟨B, 6, none⟩ = some (.int .i64 rs)
  c7 : W.cell? ⟨B, 7, none⟩ = some (.int .i64 rt)
theorem RecAt.later {W W' : World} {B : Nat} {k ts src seq ek : Int} {p q : Nat} {rs rt : Int} (h : RecAt W B k ts src seq ek p q rs rt) (hb : Below W.heap.size W W') : RecAt W' B k ts src seq ek p q rs rt :=
  ⟨beyond hb h.lt, bcell hb h.lt h.c0, bcell hb h.lt h.c1, bcell hb h.lt h.c2, bcell hb h.lt h.c3, bcell hb h.lt h.c4, bcell hb h.lt h.c5, bcell hb h.lt h.c6, bcell hb h.lt h.c7⟩
theorem RecAt.new (W : World) (k ts src seq ek : Int) (p q : Nat) (rs rt : Int) : RecAt (W.alloc (.cells #[.int .u8 k, .int .i64 ts, .int .i64 src, .int .i64 seq, .int .i64 ek, .complex .f64 p q, .int .i64 rs, .int .i64 rt] 42)) W.heap.size k ts src seq ek p q rs rt := by
  constructor <;> simp [go_sem]
/-- What a cell holds, whatever it is: a name for a cell that is written. -/
def heldAt (b o : Nat) (W : World) : Value := (W.cell? ⟨b, o, none⟩).getD undef
theorem held_of {b o : Nat} {W : World} {v : Value} (h : W.cell? ⟨b, o, none⟩ = some v) : W.cell? ⟨b, o, none⟩ = some (heldAt b o W) := by rw [heldAt, h]; rfl
theorem bheld {W w1 : World} (hb : Below W.heap.size W w1) {b o : Nat} {v : Value} (hl : b < W.heap.size) (h : W.cell? ⟨b, o, none⟩ = some v) : w1.cell? ⟨b, o, none⟩ = some (heldAt b o w1) := held_of (bcell hb hl h)
theorem bfrozen {W w1 : World} (hb : Below W.heap.size W w1) {b o : Nat} (hl : b < W.heap.size) (h : W.frozen? ⟨b, o, none⟩ = false) : w1.frozen? ⟨b, o, none⟩ = false := (hb.frozen (p := ⟨b, o, none⟩) hl).trans h
/-- W' is W but for what the cells of block D hold. -/
structure OnlyAt (D : Nat) (W W' : World) : Prop where
  size : W.heap.size ≤ W'.heap.size
  far : ∀ (b o : Nat) (v : Value), b ≠ D → W.cell? ⟨b, o, none⟩ = some v → W'.cell? ⟨b, o, none⟩ = some v
  frozen : ∀ o, W.frozen? ⟨D, o, none⟩ = false → W'.frozen? ⟨D, o, none⟩ = false
  held : ∀ o, W.cell? ⟨D, o, none⟩ = some (heldAt D o W) → W'.cell? ⟨D, o, none⟩ = some (heldAt D o W')
  bel : ∀ B w0, B ≤ D → Below B w0 W → Below B w0 W'
theorem OnlyAt.refl (D : Nat) (W : World) : OnlyAt D W W := ⟨Nat.le_refl _, fun _ _ _ _ h => h, fun _ h => h, fun _ h => h, fun _ _ _ h => h⟩
theorem OnlyAt.set {D : Nat} {W W' : World} (h : OnlyAt D W W') (o : Nat) (v : Value) : OnlyAt D W (W'.setCell ⟨D, o, none⟩ v) :=
  ⟨by rw [World.size_setCell]; exact h.size,
   fun b o' u hne hc => (World.cell?_setCell_other _ _ _ _ (by intro e; cases e; exact hne rfl)).trans (h.far b o' u hne hc),
   fun o' hf => by rw [World.frozen?_setCell]; exact h.frozen o' hf,
   fun o' hc => by obtain ⟨v', hv⟩ := cell?_setCell_some (p := ⟨D, o, none⟩) (x := v) (h.held o' hc); exact held_of hv,
   fun B w0 hB hb => (h.bel B w0 hB hb).setCell (p := ⟨D, o, none⟩) hB v⟩
theorem set_self {W : World} {a : Addr} {v u : Value} (h : (W.setCell a v).cell? a = some u) : (W.setCell a v).cell? a = some v := by
  cases hc : W.cell? a with
  | some x => exact World.cell?_setCell_same _ _ _ hc
  | none =>
    exfalso
    unfold World.cell? World.setCell at h
    unfold World.cell? at hc
    simp only [Array.getElem?_modify, ↓reduceIte] at h
    cases hb : W.heap[a.block]? with
    | none => simp [hb] at h
    | some o =>
      cases o <;> simp [hb] at h hc
      rename_i c e f
      obtain ⟨h1, h2⟩ := h
      have hlt := hc h1
      rw [h1] at h2
      simp at h2
      rw [Array.getElem?_eq_none (by simpa using hlt)] at h2
      cases h2
theorem set_far {W : World} {a b : Addr} {v u : Value} (hne : a ≠ b) (h : W.cell? b = some u) : (W.setCell a v).cell? b = some u := (World.cell?_setCell_other _ _ _ _ hne).trans h
theorem three_held {W : World} {D : Nat} {v0 v1 v2 x0 x1 x2 : Value} (h0 : (((W.setCell ⟨D, 0, none⟩ v0).setCell ⟨D, 1, none⟩ v1).setCell ⟨D, 2, none⟩ v2).cell? ⟨D, 0, none⟩ = some x0)
    (h1 : (((W.setCell ⟨D, 0, none⟩ v0).setCell ⟨D, 1, none⟩ v1).setCell ⟨D, 2, none⟩ v2).cell? ⟨D, 1, none⟩ = some x1) (h2 : (((W.setCell ⟨D, 0, none⟩ v0).setCell ⟨D, 1, none⟩ v1).setCell ⟨D, 2, none⟩ v2).cell? ⟨D, 2, none⟩ = some x2) :
    (((W.setCell ⟨D, 0, none⟩ v0).setCell ⟨D, 1, none⟩ v1).setCell ⟨D, 2, none⟩ v2).cell? ⟨D, 0, none⟩ = some v0 ∧ (((W.setCell ⟨D, 0, none⟩ v0).setCell ⟨D, 1, none⟩ v1).setCell ⟨D, 2, none⟩ v2).cell? ⟨D, 1, none⟩ = some v1 ∧ (((W.setCell ⟨D, 0, none⟩ v0).setCell ⟨D, 1, none⟩ v1).setCell ⟨D, 2, none⟩ v2).cell? ⟨D, 2, none⟩ = some v2 := by
  refine ⟨?_, ?_, set_self h2⟩
  · rw [World.cell?_setCell_other _ _ _ _ (by simp), World.cell?_setCell_other _ _ _ _ (by simp)] at h0 ⊢
    exact set_self h0
  · rw [World.cell?_setCell_other _ _ _ _ (by simp)] at h1 ⊢
    exact set_self h1
set_option maxRecDepth 100000 in
set_option maxHeartbeats 3200000 in
theorem teller1_any (B : Nat) (ts src seq ek : Int) (p q : Nat) (b1 b3 b4 b5 : Bool) (h1 : Hid (upB ts 1099511627776 = b1)) (h2 : Hid (upB src 255 = true)) (h3 : Hid (upB seq 1048576 = b3)) (h4 : Hid (upB ek 5 = b4)) (h5 : PtIs p q b5) (w : World) (hr : RecAt w B 1 ts src seq ek p q 0 0) :
    Calls Try.prog 52 #[.pointer (some ⟨B, 0, none⟩)] w fun e w' => e = .returned (.agg #[.bool (b1 && b3 && b4 && b5), .int .i64 src, .int .i64 ts]) ∧ Below w.heap.size w w' := by
  have hc := Lib.hid (rightEvent_any ts src seq ek p q b1 b3 b4 b5 h1 h2 h3 h4 h5)
  clear h1 h2 h3 h4 h5
  generalize (b1 && b3 && b4 && b5) = b at *
  obtain ⟨D, hD⟩ : ∃ D, w.heap.size = D := ⟨_, rfl⟩
  obtain ⟨w0, hw0⟩ : ∃ w0, w.alloc (.cells #[.bool false, .int .i64 0, .int .i64 0] 76) = w0 := ⟨_, rfl⟩
  have hbel : Below D w w0 := by rw [← hw0, ← hD]; exact (Below.refl _ _).alloc (Nat.le_refl _) _
  have hr0 := hr.later (by rw [hD]; exact hbel)
  have hR : D < w0.heap.size := by rw [← hw0, ← hD]; simp
  have hBD : B < D := by rw [← hD]; exact hr.lt
  have hR0 : w0.cell? ⟨D, 0, none⟩ = some (heldAt D 0 w0) := by rw [← hw0, ← hD]; exact held_of (v := .bool false) (by simp [go_sem])
  have hR1 : w0.cell? ⟨D, 1, none⟩ = some (heldAt D 1 w0) := by rw [← hw0, ← hD]; exact held_of (v := .int .i64 0) (by simp [go_sem])
  have hR2 : w0.cell? ⟨D, 2, none⟩ = some (heldAt D 2 w0) := by rw [← hw0, ← hD]; exact held_of (v := .int .i64 0) (by simp [go_sem])
  have hF0 : w0.frozen? ⟨D, 0, none⟩ = false := by rw [← hw0, ← hD]; simp [go_sem]
  have hF1 : w0.frozen? ⟨D, 1, none⟩ = false := by rw [← hw0, ← hD]; simp [go_sem]
  have hF2 : w0.frozen? ⟨D, 2, none⟩ = false := by rw [← hw0, ← hD]; simp [go_sem]
  clear hr
  go_enter Try.func52, Try.ntmps52
  go_wp2
  have HD := Lib.hid hD
  clear hD hw0
  obtain ⟨g0, g1, g2, g3, g4, g5, g6, g7, g8⟩ := hr0
  have hbd := hbel.drew
  have hne : B ≠ D := by omega
  have hR0' : w0.drew.cell? ⟨D, 0, none⟩ = some (heldAt D 0 w0.drew) := hR0
  have hR1' : w0.drew.cell? ⟨D, 1, none⟩ = some (heldAt D 1 w0.drew) := hR1
  have hR2' : w0.drew.cell? ⟨D, 2, none⟩ = some (heldAt D 2 w0.drew) := hR2
  go_region_held3 (fun w' => D < w'.heap.size ∧ w'.cell? ⟨B, 0, none⟩ = some (.int .u8 1) ∧ w'.cell? ⟨B, 1, none⟩ = some (.int .i64 ts) ∧ w'.cell? ⟨B, 2, none⟩ = some (.int .i64 src) ∧ w'.cell? ⟨B, 3, none⟩ = some (.int .i64 seq) ∧ w'.cell? ⟨B, 4, none⟩ = some (.int .i64 ek) ∧ w'.cell? ⟨B, 5, none⟩ = some (.complex .f64 p q) ∧ w'.cell? ⟨B, 6, none⟩ = some (.int .i64 0) ∧ w'.cell? ⟨B, 7, none⟩ = some (.int .i64 0) ∧
      w'.cell? ⟨D, 0, none⟩ = some (heldAt D 0 w') ∧ w'.cell? ⟨D, 1, none⟩ = some (heldAt D 1 w') ∧ w'.cell? ⟨D, 2, none⟩ = some (heldAt D 2 w') ∧ w'.frozen? ⟨D, 0, none⟩ = false ∧ w'.frozen? ⟨D, 1, none⟩ = false ∧ w'.frozen? ⟨D, 2, none⟩ = false ∧ Below D w w')
    (first
      | exact ⟨hR, g1, g2, g3, g4, g5, g6, g7, g8, hR0', hR1', hR2', hF0, hF1, hF2, hbd⟩
      | (go_split_ands; exact ⟨beyond hb ‹_›, bcell hb (by omega) ‹_›, bcell hb (by omega) ‹_›, bcell hb (by omega) ‹_›, bcell hb (by omega) ‹_›, bcell hb (by omega) ‹_›, bcell hb (by omega) ‹_›, bcell hb (by omega) ‹_›, bcell hb (by omega) ‹_›, bheld hb (by omega) ‹_›, bheld hb (by omega) ‹_›, bheld hb (by omega) ‹_›, bfrozen hb (by omega) ‹_›, bfrozen hb (by omega) ‹_›, bfrozen hb (by omega) ‹_›, Below.trans ‹_› (hb.mono (by omega))⟩)
      | (go_split_ands; have ho := (((OnlyAt.refl D w1).set 0 (.bool b)).set 1 (.int .i64 src)).set 2 (.int .i64 ts); exact ⟨Nat.lt_of_lt_of_le ‹D < w1.heap.size› ho.size, ho.far _ _ _ hne ‹_›, ho.far _ _ _ hne ‹_›, ho.far _ _ _ hne ‹_›, ho.far _ _ _ hne ‹_›, ho.far _ _ _ hne ‹_›, ho.far _ _ _ hne ‹_›, ho.far _ _ _ hne ‹_›, ho.far _ _ _ hne ‹_›, ho.held _ ‹_›, ho.held _ ‹_›, ho.held _ ‹_›, ho.frozen _ ‹_›, ho.frozen _ ‹_›, ho.frozen _ ‹_›, ho.bel _ _ (Nat.le_refl _) ‹_›⟩))
    (first | ((with_reducible refine (hc.out _).mono ?_); rintro e w1 ⟨rfl, hb⟩))
  go_split_ands
  go_wp2
  obtain ⟨e0, e1, e2⟩ := three_held (W := w1) (D := D) (v0 := .bool b) (v1 := .int .i64 src) (v2 := .int .i64 ts) ‹_› ‹_› ‹_›
  generalize ((w1.setCell ⟨D, 0, none⟩ (.bool b)).setCell ⟨D, 1, none⟩ (.int .i64 src)).setCell ⟨D, 2, none⟩ (.int .i64 ts) = w3 at *
  refine bodyPost_ret (v := .agg #[.bool b, .int .i64 src, .int .i64 ts]) ?_ rfl ⟨rfl, by rw [HD.out]; assumption⟩
  clear hc g1 g2 g3 g4 g5 g6 g7 g8
  simp [results, Try.results52, go_sem, e0, e1, e2]
set_option maxRecDepth 100000 in
set_option maxHeartbeats 3200000 in
theorem teller2_any (B : Nat) (s t : Int) (b : Bool) (h2 : Hid (upB s 255 = true)) (h1 : Hid (upB t 1099511627776 = b)) (w : World) (hr : RecAt w B 2 0 0 0 0 0 0 s t) :
    Calls Try.prog 54 #[.pointer (some ⟨B, 0, none⟩)] w fun e w' => e = .returned (.agg #[.bool b, .int .i64 s, .int .i64 t]) ∧ Below w.heap.size w w' := by
  have hc := Lib.hid (rightMark_any s t b h2 h1)
  clear h1 h2
  obtain ⟨D, hD⟩ : ∃ D, w.heap.size = D := ⟨_, rfl⟩
  obtain ⟨w0, hw0⟩ : ∃ w0, w.alloc (.cells #[.bool false, .int .i64 0, .int .i64 0] 76) = w0 := ⟨_, rfl⟩
  have hbel : Below D w w0 := by rw [← hw0, ← hD]; exact (Below.refl _ _).alloc (Nat.le_refl _) _
  have hr0 := hr.later (by rw [hD]; exact hbel)
  have hR : D < w0.heap.size := by rw [← hw0, ← hD]; simp
  have hBD : B < D := by rw [← hD]; exact hr.lt
  have hR0 : w0.cell? ⟨D, 0, none⟩ = some (heldAt D 0 w0) := by rw [← hw0, ← hD]; exact held_of (v := .bool false) (by simp [go_sem])
  have hR1 : w0.cell? ⟨D, 1, none⟩ = some (heldAt D 1 w0) := by rw [← hw0, ← hD]; exact held_of (v := .int .i64 0) (by simp [go_sem])
  have hR2 : w0.cell? ⟨D, 2, none⟩ = some (heldAt D 2 w0) := by rw [← hw0, ← hD]; exact held_of (v := .int .i64 0) (by simp [go_sem])
  have hF0 : w0.frozen? ⟨D, 0, none⟩ = false := by rw [← hw0, ← hD]; simp [go_sem]
  have hF1 : w0.frozen? ⟨D, 1, none⟩ = false := by rw [← hw0, ← hD]; simp [go_sem]
  have hF2 : w0.frozen? ⟨D, 2, none⟩ = false := by rw [← hw0, ← hD]; simp [go_sem]
  clear hr
  go_enter Try.func54, Try.ntmps54
  go_wp2
  have HD := Lib.hid hD
  clear hD hw0
  obtain ⟨g0, g1, g2, g3, g4, g5, g6, g7, g8⟩ := hr0
  have hbd := hbel.drew
  have hne : B ≠ D := by omega
  have hR0' : w0.drew.cell? ⟨D, 0, none⟩ = some (heldAt D 0 w0.drew) := hR0
  have hR1' : w0.drew.cell? ⟨D, 1, none⟩ = some (heldAt D 1 w0.drew) := hR1
  have hR2' : w0.drew.cell? ⟨D, 2, none⟩ = some (heldAt D 2 w0.drew) := hR2
  go_region_held3 (fun w' => D < w'.heap.size ∧ w'.cell? ⟨B, 0, none⟩ = some (.int .u8 2) ∧ w'.cell? ⟨B, 1, none⟩ = some (.int .i64 0) ∧ w'.cell? ⟨B, 2, none⟩ = some (.int .i64 0) ∧ w'.cell? ⟨B, 3, none⟩ = some (.int .i64 0) ∧ w'.cell? ⟨B, 4, none⟩ = some (.int .i64 0) ∧ w'.cell? ⟨B, 5, none⟩ = some (.complex .f64 0 0) ∧ w'.cell? ⟨B, 6, none⟩ = some (.int .i64 s) ∧ w'.cell? ⟨B, 7, none⟩ = some (.int .i64 t) ∧
      w'.cell? ⟨D, 0, none⟩ = some (heldAt D 0 w') ∧ w'.cell? ⟨D, 1, none⟩ = some (heldAt D 1 w') ∧ w'.cell? ⟨D, 2, none⟩ = some (heldAt D 2 w') ∧ w'.frozen? ⟨D, 0, none⟩ = false ∧ w'.frozen? ⟨D, 1, none⟩ = false ∧ w'.frozen? ⟨D, 2, none⟩ = false ∧ Below D w w')
    (first
      | exact ⟨hR, g1, g2, g3, g4, g5, g6, g7, g8, hR0', hR1', hR2', hF0, hF1, hF2, hbd⟩
      | (go_split_ands; exact ⟨beyond hb ‹_›, bcell hb (by omega) ‹_›, bcell hb (by omega) ‹_›, bcell hb (by omega) ‹_›, bcell hb (by omega) ‹_›, bcell hb (by omega) ‹_›, bcell hb (by omega) ‹_›, bcell hb (by omega) ‹_›, bcell hb (by omega) ‹_›, bheld hb (by omega) ‹_›, bheld hb (by omega) ‹_›, bheld hb (by omega) ‹_›, bfrozen hb (by omega) ‹_›, bfrozen hb (by omega) ‹_›, bfrozen hb (by omega) ‹_›, Below.trans ‹_› (hb.mono (by omega))⟩)
      | (go_split_ands; have ho := (((OnlyAt.refl D w1).set 0 (.bool b)).set 1 (.int .i64 s)).set 2 (.int .i64 t); exact ⟨Nat.lt_of_lt_of_le ‹D < w1.heap.size› ho.size, ho.far _ _ _ hne ‹_›, ho.far _ _ _ hne ‹_›, ho.far _ _ _ hne ‹_›, ho.far _ _ _ hne ‹_›, ho.far _ _ _ hne ‹_›, ho.far _ _ _ hne ‹_›, ho.far _ _ _ hne ‹_›, ho.far _ _ _ hne ‹_›, ho.held _ ‹_›, ho.held _ ‹_›, ho.held _ ‹_›, ho.frozen _ ‹_›, ho.frozen _ ‹_›, ho.frozen _ ‹_›, ho.bel _ _ (Nat.le_refl _) ‹_›⟩))
    (first | ((with_reducible refine (hc.out _).mono ?_); rintro e w1 ⟨rfl, hb⟩))
  go_split_ands
  go_wp2
  obtain ⟨e0, e1, e2⟩ := three_held (W := w1) (D := D) (v0 := .bool b) (v1 := .int .i64 s) (v2 := .int .i64 t) ‹_› ‹_› ‹_›
  generalize ((w1.setCell ⟨D, 0, none⟩ (.bool b)).setCell ⟨D, 1, none⟩ (.int .i64 s)).setCell ⟨D, 2, none⟩ (.int .i64 t) = w3 at *
  refine bodyPost_ret (v := .agg #[.bool b, .int .i64 s, .int .i64 t]) ?_ rfl ⟨rfl, by rw [HD.out]; assumption⟩
  clear hc g1 g2 g3 g4 g5 g6 g7 g8
  simp [results, Try.results54, go_sem, e0, e1, e2]
end Go.Proofs.Ytepbjjddpfejnaa
