/-
  Contract of the reader's cmp.
-/
import Derived.Test.YtkedifhlkiffoaaDoorPG
namespace Go.Proofs.YtkedifhlkiffoaaDoor
open Go.ChangeShapes Go.WideShapes Go.ChangeAt Go.RowKit
set_option linter.unusedVariables false
set_option linter.unusedSimpArgs false
attribute [local go_sem] Oper.semAt_some
/-- A comparison: its way, its terms. -/
def cmpP (ts : List (Tk × Nat)) (k : Nat) : Except Nat ((Int × (Int × Int × Int × Int) × (Int × Int × Int × Int)) × Nat) :=
  match termP ts k with
  | .error j => .error j
  | .ok (l, k) => match oneP ts 4 k with
    | .error j => .error j
    | .ok (o, k) => match termP ts k with
      | .error j => .error j
      | .ok (r, k) => .ok ((o % 256, l, r), k)
abbrev cpV9 (n : Int × (Int × Int × Int × Int) × (Int × Int × Int × Int)) : Value := .agg #[.int .u8 n.1, .int .u8 n.2.1.1, .int .i64 n.2.1.2.1, .int .i64 n.2.1.2.2.1, .int .i64 n.2.1.2.2.2, .int .u8 n.2.2.1, .int .i64 n.2.2.2.1, .int .i64 n.2.2.2.2.1, .int .i64 n.2.2.2.2.2]
/-- A pointer's store elsewhere keeps a box. -/
theorem box_far {X : World} {p b o : Nat} {cs : Array Value} {t : TypeId} {v : Value} (h : X.heap[p]? = some (.cells cs t (0, 0))) (hne : p ≠ b) : (X.setCell ⟨b, o, none⟩ v).heap[p]? = some (.cells cs t (0, 0)) := (Below.heap_setCell X ⟨b, o, none⟩ v p hne).trans h
set_option maxRecDepth 100000 in
set_option maxHeartbeats 2000000 in
theorem cmp_P {R g c k : Nat} {ts : List (Tk × Nat)} (w : World) (hE : EndsT ts) (hk : k < ts.length) (h : RdK R g c ts k w) :
    Calls Tryd.prog 109 #[.pointer (some ⟨R, 0, none⟩)] w (Told R g c ts (fun _ n u => u = cpV9 n) (cmpP ts k) w) := by
  have hgl : g < w.heap.size := by obtain ⟨-, ⟨base, h2⟩, -, -⟩ := h; exact tks_lt h2
  have hRl := h.lt
  have hR0 := h.kept ((World.grownBy_alloc w (.cells #[.int .u8 0, .int .u8 0, .int .i64 0, .int .i64 0, .int .i64 0, .int .u8 0, .int .i64 0, .int .i64 0, .int .i64 0] 48) none).trans (World.grownBy_alloc _ (.cells #[.int .u8 0, .int .u8 0, .int .i64 0, .int .i64 0, .int .i64 0, .int .u8 0, .int .i64 0, .int .i64 0, .int .i64 0] 48) none))
  have hgR : w.grownBy ((w.alloc (.cells #[.int .u8 0, .int .u8 0, .int .i64 0, .int .i64 0, .int .i64 0, .int .u8 0, .int .i64 0, .int .i64 0, .int .i64 0] 48)).alloc (.cells #[.int .u8 0, .int .u8 0, .int .i64 0, .int .i64 0, .int .i64 0, .int .u8 0, .int .i64 0, .int .i64 0, .int .i64 0] 48)) (some R) := (World.grownBy_alloc w (.cells #[.int .u8 0, .int .u8 0, .int .i64 0, .int .i64 0, .int .i64 0, .int .u8 0, .int .i64 0, .int .i64 0, .int .i64 0] 48) (some R)).trans (World.grownBy_alloc _ (.cells #[.int .u8 0, .int .u8 0, .int .i64 0, .int .i64 0, .int .i64 0, .int .u8 0, .int .i64 0, .int .i64 0, .int .i64 0] 48) (some R))
  have bA : ((w.alloc (.cells #[.int .u8 0, .int .u8 0, .int .i64 0, .int .i64 0, .int .i64 0, .int .u8 0, .int .i64 0, .int .i64 0, .int .i64 0] 48)).alloc (.cells #[.int .u8 0, .int .u8 0, .int .i64 0, .int .i64 0, .int .i64 0, .int .u8 0, .int .i64 0, .int .i64 0, .int .i64 0] 48)).heap[w.heap.size]? = some (.cells #[.int .u8 0, .int .u8 0, .int .i64 0, .int .i64 0, .int .i64 0, .int .u8 0, .int .i64 0, .int .i64 0, .int .i64 0] 48 (0, 0)) :=
    ((World.grownBy_alloc _ (.cells #[.int .u8 0, .int .u8 0, .int .i64 0, .int .i64 0, .int .i64 0, .int .u8 0, .int .i64 0, .int .i64 0, .int .i64 0] 48) none).block _ (by simp) (by simp)).trans (World.alloc_heap_new w (.cells #[.int .u8 0, .int .u8 0, .int .i64 0, .int .i64 0, .int .i64 0, .int .u8 0, .int .i64 0, .int .i64 0, .int .i64 0] 48))
  have bB : ((w.alloc (.cells #[.int .u8 0, .int .u8 0, .int .i64 0, .int .i64 0, .int .i64 0, .int .u8 0, .int .i64 0, .int .i64 0, .int .i64 0] 48)).alloc (.cells #[.int .u8 0, .int .u8 0, .int .i64 0, .int .i64 0, .int .i64 0, .int .u8 0, .int .i64 0, .int .i64 0, .int .i64 0] 48)).heap[w.heap.size + 1]? = some (.cells #[.int .u8 0, .int .u8 0, .int .i64 0, .int .i64 0, .int .i64 0, .int .u8 0, .int .i64 0, .int .i64 0, .int .i64 0] 48 (0, 0)) := by
    have := World.alloc_heap_new (w.alloc (.cells #[.int .u8 0, .int .u8 0, .int .i64 0, .int .i64 0, .int .i64 0, .int .u8 0, .int .i64 0, .int .i64 0, .int .i64 0] 48)) (.cells #[.int .u8 0, .int .u8 0, .int .i64 0, .int .i64 0, .int .i64 0, .int .u8 0, .int .i64 0, .int .i64 0, .int .i64 0] 48)
    rwa [World.size_alloc] at this
  obtain ⟨RES, hRES⟩ : ∃ r, cmpP ts k = r := ⟨_, rfl⟩
  rw [hRES]
  replace hRES := Lib.hid hRES
  replace hE := Lib.hid hE
  go_enter Tryd.func109, Tryd.ntmps109
  go_wp2_with fail
  generalize ((w.alloc (.cells #[.int .u8 0, .int .u8 0, .int .i64 0, .int .i64 0, .int .i64 0, .int .u8 0, .int .i64 0, .int .i64 0, .int .i64 0] 48)).alloc (.cells #[.int .u8 0, .int .u8 0, .int .i64 0, .int .i64 0, .int .i64 0, .int .u8 0, .int .i64 0, .int .i64 0, .int .i64 0] 48)) = W0 at *
  obtain ⟨S, hS⟩ : ∃ S, w.heap.size = S := ⟨_, rfl⟩
  rw [hS] at hgl hRl bA bB ⊢
  have s0 : w.heap.size ≤ S := by omega
  have s1 : w.heap.size ≤ S + 1 := by omega
  have n1 : S ≠ R := by omega
  have n2 : S + 1 ≠ R := by omega
  have n3 : S ≠ g := by omega
  have n4 : S + 1 ≠ g := by omega
  have n5 : S ≠ S + 1 := by omega
  replace hS := Lib.hid hS
  clear h
  (with_reducible refine (term_P W0 hE.out hk hR0).mono ?_)
  rintro e w1 ⟨hg1, hT⟩
  cases hr1 : termP ts k with
  | error j' =>
    simp only [hr1] at hT
    obtain ⟨x, hx, rfl⟩ := hT
    replace hx := Lib.hid hx
    replace hr1 := Lib.hid hr1
    obtain rfl : RES = .error j' := by rw [← hRES.out]; unfold cmpP; simp [hr1.out]
    clear hr1
    go_wp2_with fail
    exact ⟨rfl, grown_more hgR hg1, x, hx.out, rfl⟩
  | ok y =>
  obtain ⟨lv, k1⟩ := y
  rw [hr1] at hT
  obtain ⟨⟨u, rfl, rfl⟩, hR1, hk1⟩ := hT
  replace hr1 := Lib.hid hr1
  replace hgR := grown_more hgR hg1
  replace bA := box_kept bA hg1 n1
  replace bB := box_kept bB hg1 n2
  have m1c0 : (w1).cell? ⟨S + 1, 1, none⟩ = some (.int .u8 0) := by simp [World.cell?, bB]
  have m1f0 : (w1).frozen? ⟨S + 1, 1, none⟩ = false := by simp [World.frozen?, bB]
  have m1a0 := box_set bB 1 (.int .u8 lv.1)
  simp only [List.setIfInBounds_toArray, List.set_cons_zero, List.set_cons_succ] at m1a0
  have m1c1 : ((w1).setCell ⟨S + 1, 1, none⟩ (.int .u8 lv.1)).cell? ⟨S + 1, 2, none⟩ = some (.int .i64 0) := by simp [World.cell?, m1a0]
  have m1f1 : ((w1).setCell ⟨S + 1, 1, none⟩ (.int .u8 lv.1)).frozen? ⟨S + 1, 2, none⟩ = false := by simp [World.frozen?, m1a0]
  have m1a1 := box_set m1a0 2 (.int .i64 lv.2.1)
  simp only [List.setIfInBounds_toArray, List.set_cons_zero, List.set_cons_succ] at m1a1
  have m1c2 : (((w1).setCell ⟨S + 1, 1, none⟩ (.int .u8 lv.1)).setCell ⟨S + 1, 2, none⟩ (.int .i64 lv.2.1)).cell? ⟨S + 1, 3, none⟩ = some (.int .i64 0) := by simp [World.cell?, m1a1]
  have m1f2 : (((w1).setCell ⟨S + 1, 1, none⟩ (.int .u8 lv.1)).setCell ⟨S + 1, 2, none⟩ (.int .i64 lv.2.1)).frozen? ⟨S + 1, 3, none⟩ = false := by simp [World.frozen?, m1a1]
  have m1a2 := box_set m1a1 3 (.int .i64 lv.2.2.1)
  simp only [List.setIfInBounds_toArray, List.set_cons_zero, List.set_cons_succ] at m1a2
  have m1c3 : ((((w1).setCell ⟨S + 1, 1, none⟩ (.int .u8 lv.1)).setCell ⟨S + 1, 2, none⟩ (.int .i64 lv.2.1)).setCell ⟨S + 1, 3, none⟩ (.int .i64 lv.2.2.1)).cell? ⟨S + 1, 4, none⟩ = some (.int .i64 0) := by simp [World.cell?, m1a2]
  have m1f3 : ((((w1).setCell ⟨S + 1, 1, none⟩ (.int .u8 lv.1)).setCell ⟨S + 1, 2, none⟩ (.int .i64 lv.2.1)).setCell ⟨S + 1, 3, none⟩ (.int .i64 lv.2.2.1)).frozen? ⟨S + 1, 4, none⟩ = false := by simp [World.frozen?, m1a2]
  have m1a3 := box_set m1a2 4 (.int .i64 lv.2.2.2)
  simp only [List.setIfInBounds_toArray, List.set_cons_zero, List.set_cons_succ] at m1a3
  replace hgR := grown_set (o := 1) (v := .int .u8 lv.1) hgR s1
  replace bA := box_far (o := 1) (v := .int .u8 lv.1) bA n5
  replace hR1 := hR1.far (o := 1) (v := .int .u8 lv.1) n2 n4
  replace hgR := grown_set (o := 2) (v := .int .i64 lv.2.1) hgR s1
  replace bA := box_far (o := 2) (v := .int .i64 lv.2.1) bA n5
  replace hR1 := hR1.far (o := 2) (v := .int .i64 lv.2.1) n2 n4
  replace hgR := grown_set (o := 3) (v := .int .i64 lv.2.2.1) hgR s1
  replace bA := box_far (o := 3) (v := .int .i64 lv.2.2.1) bA n5
  replace hR1 := hR1.far (o := 3) (v := .int .i64 lv.2.2.1) n2 n4
  replace hgR := grown_set (o := 4) (v := .int .i64 lv.2.2.2) hgR s1
  replace bA := box_far (o := 4) (v := .int .i64 lv.2.2.2) bA n5
  replace hR1 := hR1.far (o := 4) (v := .int .i64 lv.2.2.2) n2 n4
  go_wp2_with fail
  replace bB := m1a3
  clear m1a0 m1c0 m1f0 m1a1 m1c1 m1f1 m1a2 m1c2 m1f2 m1a3 m1c3 m1f3 hg1
  obtain ⟨X1, hX1⟩ : ∃ X, ((((w1).setCell ⟨S + 1, 1, none⟩ (.int .u8 lv.1)).setCell ⟨S + 1, 2, none⟩ (.int .i64 lv.2.1)).setCell ⟨S + 1, 3, none⟩ (.int .i64 lv.2.2.1)).setCell ⟨S + 1, 4, none⟩ (.int .i64 lv.2.2.2) = X := ⟨_, rfl⟩
  simp only [hX1] at hgR bA bB hR1 ⊢
  clear hX1
  (with_reducible refine (one_P 4 X1 hE.out hk1 (by decide) hR1).mono ?_)
  rintro e w2 ⟨hg2, hT⟩
  cases hr2 : oneP ts 4 k1 with
  | error j' =>
    simp only [hr2] at hT
    obtain ⟨x, hx, rfl⟩ := hT
    replace hx := Lib.hid hx
    replace hr2 := Lib.hid hr2
    obtain rfl : RES = .error j' := by rw [← hRES.out]; unfold cmpP; simp [hr1.out, hr2.out]
    clear hr2
    go_wp2_with fail
    exact ⟨rfl, grown_more hgR hg2, x, hx.out, rfl⟩
  | ok y =>
  obtain ⟨ov, k2⟩ := y
  rw [hr2] at hT
  obtain ⟨⟨u, rfl, rfl⟩, hR2, hk2⟩ := hT
  replace hr2 := Lib.hid hr2
  replace hgR := grown_more hgR hg2
  replace bA := box_kept bA hg2 n1
  replace bB := box_kept bB hg2 n2
  have m2c0 : (w2).cell? ⟨S + 1, 0, none⟩ = some (.int .u8 0) := by simp [World.cell?, bB]
  have m2f0 : (w2).frozen? ⟨S + 1, 0, none⟩ = false := by simp [World.frozen?, bB]
  have m2a0 := box_set bB 0 (.int .u8 (ov % 256))
  simp only [List.setIfInBounds_toArray, List.set_cons_zero, List.set_cons_succ] at m2a0
  replace hgR := grown_set (o := 0) (v := .int .u8 (ov % 256)) hgR s1
  replace bA := box_far (o := 0) (v := .int .u8 (ov % 256)) bA n5
  replace hR2 := hR2.far (o := 0) (v := .int .u8 (ov % 256)) n2 n4
  go_wp2_with fail
  replace bB := m2a0
  clear m2a0 m2c0 m2f0 hg2
  obtain ⟨X2, hX2⟩ : ∃ X, (w2).setCell ⟨S + 1, 0, none⟩ (.int .u8 (ov % 256)) = X := ⟨_, rfl⟩
  simp only [hX2] at hgR bA bB hR2 ⊢
  clear hX2
  (with_reducible refine (term_P X2 hE.out hk2 hR2).mono ?_)
  rintro e w3 ⟨hg3, hT⟩
  cases hr3 : termP ts k2 with
  | error j' =>
    simp only [hr3] at hT
    obtain ⟨x, hx, rfl⟩ := hT
    replace hx := Lib.hid hx
    replace hr3 := Lib.hid hr3
    obtain rfl : RES = .error j' := by rw [← hRES.out]; unfold cmpP; simp [hr1.out, hr2.out, hr3.out]
    clear hr3
    go_wp2_with fail
    exact ⟨rfl, grown_more hgR hg3, x, hx.out, rfl⟩
  | ok y =>
  obtain ⟨rv, k3⟩ := y
  rw [hr3] at hT
  obtain ⟨⟨u, rfl, rfl⟩, hR3, hk3⟩ := hT
  replace hr3 := Lib.hid hr3
  replace hgR := grown_more hgR hg3
  replace bA := box_kept bA hg3 n1
  replace bB := box_kept bB hg3 n2
  have m3c0 : (w3).cell? ⟨S + 1, 5, none⟩ = some (.int .u8 0) := by simp [World.cell?, bB]
  have m3f0 : (w3).frozen? ⟨S + 1, 5, none⟩ = false := by simp [World.frozen?, bB]
  have m3a0 := box_set bB 5 (.int .u8 rv.1)
  simp only [List.setIfInBounds_toArray, List.set_cons_zero, List.set_cons_succ] at m3a0
  have m3c1 : ((w3).setCell ⟨S + 1, 5, none⟩ (.int .u8 rv.1)).cell? ⟨S + 1, 6, none⟩ = some (.int .i64 0) := by simp [World.cell?, m3a0]
  have m3f1 : ((w3).setCell ⟨S + 1, 5, none⟩ (.int .u8 rv.1)).frozen? ⟨S + 1, 6, none⟩ = false := by simp [World.frozen?, m3a0]
  have m3a1 := box_set m3a0 6 (.int .i64 rv.2.1)
  simp only [List.setIfInBounds_toArray, List.set_cons_zero, List.set_cons_succ] at m3a1
  have m3c2 : (((w3).setCell ⟨S + 1, 5, none⟩ (.int .u8 rv.1)).setCell ⟨S + 1, 6, none⟩ (.int .i64 rv.2.1)).cell? ⟨S + 1, 7, none⟩ = some (.int .i64 0) := by simp [World.cell?, m3a1]
  have m3f2 : (((w3).setCell ⟨S + 1, 5, none⟩ (.int .u8 rv.1)).setCell ⟨S + 1, 6, none⟩ (.int .i64 rv.2.1)).frozen? ⟨S + 1, 7, none⟩ = false := by simp [World.frozen?, m3a1]
  have m3a2 := box_set m3a1 7 (.int .i64 rv.2.2.1)
  simp only [List.setIfInBounds_toArray, List.set_cons_zero, List.set_cons_succ] at m3a2
  have m3c3 : ((((w3).setCell ⟨S + 1, 5, none⟩ (.int .u8 rv.1)).setCell ⟨S + 1, 6, none⟩ (.int .i64 rv.2.1)).setCell ⟨S + 1, 7, none⟩ (.int .i64 rv.2.2.1)).cell? ⟨S + 1, 8, none⟩ = some (.int .i64 0) := by simp [World.cell?, m3a2]
  have m3f3 : ((((w3).setCell ⟨S + 1, 5, none⟩ (.int .u8 rv.1)).setCell ⟨S + 1, 6, none⟩ (.int .i64 rv.2.1)).setCell ⟨S + 1, 7, none⟩ (.int .i64 rv.2.2.1)).frozen? ⟨S + 1, 8, none⟩ = false := by simp [World.frozen?, m3a2]
  have m3a3 := box_set m3a2 8 (.int .i64 rv.2.2.2)
  simp only [List.setIfInBounds_toArray, List.set_cons_zero, List.set_cons_succ] at m3a3
  replace hgR := grown_set (o := 5) (v := .int .u8 rv.1) hgR s1
  replace bA := box_far (o := 5) (v := .int .u8 rv.1) bA n5
  replace hR3 := hR3.far (o := 5) (v := .int .u8 rv.1) n2 n4
  replace hgR := grown_set (o := 6) (v := .int .i64 rv.2.1) hgR s1
  replace bA := box_far (o := 6) (v := .int .i64 rv.2.1) bA n5
  replace hR3 := hR3.far (o := 6) (v := .int .i64 rv.2.1) n2 n4
  replace hgR := grown_set (o := 7) (v := .int .i64 rv.2.2.1) hgR s1
  replace bA := box_far (o := 7) (v := .int .i64 rv.2.2.1) bA n5
  replace hR3 := hR3.far (o := 7) (v := .int .i64 rv.2.2.1) n2 n4
  replace hgR := grown_set (o := 8) (v := .int .i64 rv.2.2.2) hgR s1
  replace bA := box_far (o := 8) (v := .int .i64 rv.2.2.2) bA n5
  replace hR3 := hR3.far (o := 8) (v := .int .i64 rv.2.2.2) n2 n4
  replace bB := m3a3
  clear hg3
  have HX : ∃ X, ((((w3).setCell ⟨S + 1, 5, none⟩ (.int .u8 rv.1)).setCell ⟨S + 1, 6, none⟩ (.int .i64 rv.2.1)).setCell ⟨S + 1, 7, none⟩ (.int .i64 rv.2.2.1)).setCell ⟨S + 1, 8, none⟩ (.int .i64 rv.2.2.2) = X := ⟨_, rfl⟩
  obtain rfl : RES = .ok ((ov % 256, lv, rv), k3) := by rw [← hRES.out]; unfold cmpP; simp [hr1.out, hr2.out, hr3.out]
  clear HX
  have y0 : (((((w3).setCell ⟨S + 1, 5, none⟩ (.int .u8 rv.1)).setCell ⟨S + 1, 6, none⟩ (.int .i64 rv.2.1)).setCell ⟨S + 1, 7, none⟩ (.int .i64 rv.2.2.1)).setCell ⟨S + 1, 8, none⟩ (.int .i64 rv.2.2.2)).cell? ⟨S + 1, 0, none⟩ = some (.int .u8 (ov % 256)) := by simp [World.cell?, bB]
  have y1 : (((((w3).setCell ⟨S + 1, 5, none⟩ (.int .u8 rv.1)).setCell ⟨S + 1, 6, none⟩ (.int .i64 rv.2.1)).setCell ⟨S + 1, 7, none⟩ (.int .i64 rv.2.2.1)).setCell ⟨S + 1, 8, none⟩ (.int .i64 rv.2.2.2)).cell? ⟨S + 1, 1, none⟩ = some (.int .u8 lv.1) := by simp [World.cell?, bB]
  have y2 : (((((w3).setCell ⟨S + 1, 5, none⟩ (.int .u8 rv.1)).setCell ⟨S + 1, 6, none⟩ (.int .i64 rv.2.1)).setCell ⟨S + 1, 7, none⟩ (.int .i64 rv.2.2.1)).setCell ⟨S + 1, 8, none⟩ (.int .i64 rv.2.2.2)).cell? ⟨S + 1, 2, none⟩ = some (.int .i64 lv.2.1) := by simp [World.cell?, bB]
  have y3 : (((((w3).setCell ⟨S + 1, 5, none⟩ (.int .u8 rv.1)).setCell ⟨S + 1, 6, none⟩ (.int .i64 rv.2.1)).setCell ⟨S + 1, 7, none⟩ (.int .i64 rv.2.2.1)).setCell ⟨S + 1, 8, none⟩ (.int .i64 rv.2.2.2)).cell? ⟨S + 1, 3, none⟩ = some (.int .i64 lv.2.2.1) := by simp [World.cell?, bB]
  have y4 : (((((w3).setCell ⟨S + 1, 5, none⟩ (.int .u8 rv.1)).setCell ⟨S + 1, 6, none⟩ (.int .i64 rv.2.1)).setCell ⟨S + 1, 7, none⟩ (.int .i64 rv.2.2.1)).setCell ⟨S + 1, 8, none⟩ (.int .i64 rv.2.2.2)).cell? ⟨S + 1, 4, none⟩ = some (.int .i64 lv.2.2.2) := by simp [World.cell?, bB]
  have y5 : (((((w3).setCell ⟨S + 1, 5, none⟩ (.int .u8 rv.1)).setCell ⟨S + 1, 6, none⟩ (.int .i64 rv.2.1)).setCell ⟨S + 1, 7, none⟩ (.int .i64 rv.2.2.1)).setCell ⟨S + 1, 8, none⟩ (.int .i64 rv.2.2.2)).cell? ⟨S + 1, 5, none⟩ = some (.int .u8 rv.1) := by simp [World.cell?, bB]
  have y6 : (((((w3).setCell ⟨S + 1, 5, none⟩ (.int .u8 rv.1)).setCell ⟨S + 1, 6, none⟩ (.int .i64 rv.2.1)).setCell ⟨S + 1, 7, none⟩ (.int .i64 rv.2.2.1)).setCell ⟨S + 1, 8, none⟩ (.int .i64 rv.2.2.2)).cell? ⟨S + 1, 6, none⟩ = some (.int .i64 rv.2.1) := by simp [World.cell?, bB]
  have y7 : (((((w3).setCell ⟨S + 1, 5, none⟩ (.int .u8 rv.1)).setCell ⟨S + 1, 6, none⟩ (.int .i64 rv.2.1)).setCell ⟨S + 1, 7, none⟩ (.int .i64 rv.2.2.1)).setCell ⟨S + 1, 8, none⟩ (.int .i64 rv.2.2.2)).cell? ⟨S + 1, 7, none⟩ = some (.int .i64 rv.2.2.1) := by simp [World.cell?, bB]
  have y8 : (((((w3).setCell ⟨S + 1, 5, none⟩ (.int .u8 rv.1)).setCell ⟨S + 1, 6, none⟩ (.int .i64 rv.2.1)).setCell ⟨S + 1, 7, none⟩ (.int .i64 rv.2.2.1)).setCell ⟨S + 1, 8, none⟩ (.int .i64 rv.2.2.2)).cell? ⟨S + 1, 8, none⟩ = some (.int .i64 rv.2.2.2) := by simp [World.cell?, bB]
  have rc0 : (((((w3).setCell ⟨S + 1, 5, none⟩ (.int .u8 rv.1)).setCell ⟨S + 1, 6, none⟩ (.int .i64 rv.2.1)).setCell ⟨S + 1, 7, none⟩ (.int .i64 rv.2.2.1)).setCell ⟨S + 1, 8, none⟩ (.int .i64 rv.2.2.2)).cell? ⟨S, 0, none⟩ = some (.int .u8 0) := by simp [World.cell?, bA]
  have rf0 : (((((w3).setCell ⟨S + 1, 5, none⟩ (.int .u8 rv.1)).setCell ⟨S + 1, 6, none⟩ (.int .i64 rv.2.1)).setCell ⟨S + 1, 7, none⟩ (.int .i64 rv.2.2.1)).setCell ⟨S + 1, 8, none⟩ (.int .i64 rv.2.2.2)).frozen? ⟨S, 0, none⟩ = false := by simp [World.frozen?, bA]
  have ra0 := box_set bA 0 (.int .u8 (ov % 256))
  simp only [List.setIfInBounds_toArray, List.set_cons_zero, List.set_cons_succ] at ra0
  have rc1 : ((((((w3).setCell ⟨S + 1, 5, none⟩ (.int .u8 rv.1)).setCell ⟨S + 1, 6, none⟩ (.int .i64 rv.2.1)).setCell ⟨S + 1, 7, none⟩ (.int .i64 rv.2.2.1)).setCell ⟨S + 1, 8, none⟩ (.int .i64 rv.2.2.2)).setCell ⟨S, 0, none⟩ (.int .u8 (ov % 256))).cell? ⟨S, 1, none⟩ = some (.int .u8 0) := by simp [World.cell?, ra0]
  have rf1 : ((((((w3).setCell ⟨S + 1, 5, none⟩ (.int .u8 rv.1)).setCell ⟨S + 1, 6, none⟩ (.int .i64 rv.2.1)).setCell ⟨S + 1, 7, none⟩ (.int .i64 rv.2.2.1)).setCell ⟨S + 1, 8, none⟩ (.int .i64 rv.2.2.2)).setCell ⟨S, 0, none⟩ (.int .u8 (ov % 256))).frozen? ⟨S, 1, none⟩ = false := by simp [World.frozen?, ra0]
  have ra1 := box_set ra0 1 (.int .u8 lv.1)
  simp only [List.setIfInBounds_toArray, List.set_cons_zero, List.set_cons_succ] at ra1
  have rc2 : (((((((w3).setCell ⟨S + 1, 5, none⟩ (.int .u8 rv.1)).setCell ⟨S + 1, 6, none⟩ (.int .i64 rv.2.1)).setCell ⟨S + 1, 7, none⟩ (.int .i64 rv.2.2.1)).setCell ⟨S + 1, 8, none⟩ (.int .i64 rv.2.2.2)).setCell ⟨S, 0, none⟩ (.int .u8 (ov % 256))).setCell ⟨S, 1, none⟩ (.int .u8 lv.1)).cell? ⟨S, 2, none⟩ = some (.int .i64 0) := by simp [World.cell?, ra1]
  have rf2 : (((((((w3).setCell ⟨S + 1, 5, none⟩ (.int .u8 rv.1)).setCell ⟨S + 1, 6, none⟩ (.int .i64 rv.2.1)).setCell ⟨S + 1, 7, none⟩ (.int .i64 rv.2.2.1)).setCell ⟨S + 1, 8, none⟩ (.int .i64 rv.2.2.2)).setCell ⟨S, 0, none⟩ (.int .u8 (ov % 256))).setCell ⟨S, 1, none⟩ (.int .u8 lv.1)).frozen? ⟨S, 2, none⟩ = false := by simp [World.frozen?, ra1]
  have ra2 := box_set ra1 2 (.int .i64 lv.2.1)
  simp only [List.setIfInBounds_toArray, List.set_cons_zero, List.set_cons_succ] at ra2
  have rc3 : ((((((((w3).setCell ⟨S + 1, 5, none⟩ (.int .u8 rv.1)).setCell ⟨S + 1, 6, none⟩ (.int .i64 rv.2.1)).setCell ⟨S + 1, 7, none⟩ (.int .i64 rv.2.2.1)).setCell ⟨S + 1, 8, none⟩ (.int .i64 rv.2.2.2)).setCell ⟨S, 0, none⟩ (.int .u8 (ov % 256))).setCell ⟨S, 1, none⟩ (.int .u8 lv.1)).setCell ⟨S, 2, none⟩ (.int .i64 lv.2.1)).cell? ⟨S, 3, none⟩ = some (.int .i64 0) := by simp [World.cell?, ra2]
  have rf3 : ((((((((w3).setCell ⟨S + 1, 5, none⟩ (.int .u8 rv.1)).setCell ⟨S + 1, 6, none⟩ (.int .i64 rv.2.1)).setCell ⟨S + 1, 7, none⟩ (.int .i64 rv.2.2.1)).setCell ⟨S + 1, 8, none⟩ (.int .i64 rv.2.2.2)).setCell ⟨S, 0, none⟩ (.int .u8 (ov % 256))).setCell ⟨S, 1, none⟩ (.int .u8 lv.1)).setCell ⟨S, 2, none⟩ (.int .i64 lv.2.1)).frozen? ⟨S, 3, none⟩ = false := by simp [World.frozen?, ra2]
  have ra3 := box_set ra2 3 (.int .i64 lv.2.2.1)
  simp only [List.setIfInBounds_toArray, List.set_cons_zero, List.set_cons_succ] at ra3
  have rc4 : (((((((((w3).setCell ⟨S + 1, 5, none⟩ (.int .u8 rv.1)).setCell ⟨S + 1, 6, none⟩ (.int .i64 rv.2.1)).setCell ⟨S + 1, 7, none⟩ (.int .i64 rv.2.2.1)).setCell ⟨S + 1, 8, none⟩ (.int .i64 rv.2.2.2)).setCell ⟨S, 0, none⟩ (.int .u8 (ov % 256))).setCell ⟨S, 1, none⟩ (.int .u8 lv.1)).setCell ⟨S, 2, none⟩ (.int .i64 lv.2.1)).setCell ⟨S, 3, none⟩ (.int .i64 lv.2.2.1)).cell? ⟨S, 4, none⟩ = some (.int .i64 0) := by simp [World.cell?, ra3]
  have rf4 : (((((((((w3).setCell ⟨S + 1, 5, none⟩ (.int .u8 rv.1)).setCell ⟨S + 1, 6, none⟩ (.int .i64 rv.2.1)).setCell ⟨S + 1, 7, none⟩ (.int .i64 rv.2.2.1)).setCell ⟨S + 1, 8, none⟩ (.int .i64 rv.2.2.2)).setCell ⟨S, 0, none⟩ (.int .u8 (ov % 256))).setCell ⟨S, 1, none⟩ (.int .u8 lv.1)).setCell ⟨S, 2, none⟩ (.int .i64 lv.2.1)).setCell ⟨S, 3, none⟩ (.int .i64 lv.2.2.1)).frozen? ⟨S, 4, none⟩ = false := by simp [World.frozen?, ra3]
  have ra4 := box_set ra3 4 (.int .i64 lv.2.2.2)
  simp only [List.setIfInBounds_toArray, List.set_cons_zero, List.set_cons_succ] at ra4
  have rc5 : ((((((((((w3).setCell ⟨S + 1, 5, none⟩ (.int .u8 rv.1)).setCell ⟨S + 1, 6, none⟩ (.int .i64 rv.2.1)).setCell ⟨S + 1, 7, none⟩ (.int .i64 rv.2.2.1)).setCell ⟨S + 1, 8, none⟩ (.int .i64 rv.2.2.2)).setCell ⟨S, 0, none⟩ (.int .u8 (ov % 256))).setCell ⟨S, 1, none⟩ (.int .u8 lv.1)).setCell ⟨S, 2, none⟩ (.int .i64 lv.2.1)).setCell ⟨S, 3, none⟩ (.int .i64 lv.2.2.1)).setCell ⟨S, 4, none⟩ (.int .i64 lv.2.2.2)).cell? ⟨S, 5, none⟩ = some (.int .u8 0) := by simp [World.cell?, ra4]
  have rf5 : ((((((((((w3).setCell ⟨S + 1, 5, none⟩ (.int .u8 rv.1)).setCell ⟨S + 1, 6, none⟩ (.int .i64 rv.2.1)).setCell ⟨S + 1, 7, none⟩ (.int .i64 rv.2.2.1)).setCell ⟨S + 1, 8, none⟩ (.int .i64 rv.2.2.2)).setCell ⟨S, 0, none⟩ (.int .u8 (ov % 256))).setCell ⟨S, 1, none⟩ (.int .u8 lv.1)).setCell ⟨S, 2, none⟩ (.int .i64 lv.2.1)).setCell ⟨S, 3, none⟩ (.int .i64 lv.2.2.1)).setCell ⟨S, 4, none⟩ (.int .i64 lv.2.2.2)).frozen? ⟨S, 5, none⟩ = false := by simp [World.frozen?, ra4]
  have ra5 := box_set ra4 5 (.int .u8 rv.1)
  simp only [List.setIfInBounds_toArray, List.set_cons_zero, List.set_cons_succ] at ra5
  have rc6 : (((((((((((w3).setCell ⟨S + 1, 5, none⟩ (.int .u8 rv.1)).setCell ⟨S + 1, 6, none⟩ (.int .i64 rv.2.1)).setCell ⟨S + 1, 7, none⟩ (.int .i64 rv.2.2.1)).setCell ⟨S + 1, 8, none⟩ (.int .i64 rv.2.2.2)).setCell ⟨S, 0, none⟩ (.int .u8 (ov % 256))).setCell ⟨S, 1, none⟩ (.int .u8 lv.1)).setCell ⟨S, 2, none⟩ (.int .i64 lv.2.1)).setCell ⟨S, 3, none⟩ (.int .i64 lv.2.2.1)).setCell ⟨S, 4, none⟩ (.int .i64 lv.2.2.2)).setCell ⟨S, 5, none⟩ (.int .u8 rv.1)).cell? ⟨S, 6, none⟩ = some (.int .i64 0) := by simp [World.cell?, ra5]
  have rf6 : (((((((((((w3).setCell ⟨S + 1, 5, none⟩ (.int .u8 rv.1)).setCell ⟨S + 1, 6, none⟩ (.int .i64 rv.2.1)).setCell ⟨S + 1, 7, none⟩ (.int .i64 rv.2.2.1)).setCell ⟨S + 1, 8, none⟩ (.int .i64 rv.2.2.2)).setCell ⟨S, 0, none⟩ (.int .u8 (ov % 256))).setCell ⟨S, 1, none⟩ (.int .u8 lv.1)).setCell ⟨S, 2, none⟩ (.int .i64 lv.2.1)).setCell ⟨S, 3, none⟩ (.int .i64 lv.2.2.1)).setCell ⟨S, 4, none⟩ (.int .i64 lv.2.2.2)).setCell ⟨S, 5, none⟩ (.int .u8 rv.1)).frozen? ⟨S, 6, none⟩ = false := by simp [World.frozen?, ra5]
  have ra6 := box_set ra5 6 (.int .i64 rv.2.1)
  simp only [List.setIfInBounds_toArray, List.set_cons_zero, List.set_cons_succ] at ra6
  have rc7 : ((((((((((((w3).setCell ⟨S + 1, 5, none⟩ (.int .u8 rv.1)).setCell ⟨S + 1, 6, none⟩ (.int .i64 rv.2.1)).setCell ⟨S + 1, 7, none⟩ (.int .i64 rv.2.2.1)).setCell ⟨S + 1, 8, none⟩ (.int .i64 rv.2.2.2)).setCell ⟨S, 0, none⟩ (.int .u8 (ov % 256))).setCell ⟨S, 1, none⟩ (.int .u8 lv.1)).setCell ⟨S, 2, none⟩ (.int .i64 lv.2.1)).setCell ⟨S, 3, none⟩ (.int .i64 lv.2.2.1)).setCell ⟨S, 4, none⟩ (.int .i64 lv.2.2.2)).setCell ⟨S, 5, none⟩ (.int .u8 rv.1)).setCell ⟨S, 6, none⟩ (.int .i64 rv.2.1)).cell? ⟨S, 7, none⟩ = some (.int .i64 0) := by simp [World.cell?, ra6]
  have rf7 : ((((((((((((w3).setCell ⟨S + 1, 5, none⟩ (.int .u8 rv.1)).setCell ⟨S + 1, 6, none⟩ (.int .i64 rv.2.1)).setCell ⟨S + 1, 7, none⟩ (.int .i64 rv.2.2.1)).setCell ⟨S + 1, 8, none⟩ (.int .i64 rv.2.2.2)).setCell ⟨S, 0, none⟩ (.int .u8 (ov % 256))).setCell ⟨S, 1, none⟩ (.int .u8 lv.1)).setCell ⟨S, 2, none⟩ (.int .i64 lv.2.1)).setCell ⟨S, 3, none⟩ (.int .i64 lv.2.2.1)).setCell ⟨S, 4, none⟩ (.int .i64 lv.2.2.2)).setCell ⟨S, 5, none⟩ (.int .u8 rv.1)).setCell ⟨S, 6, none⟩ (.int .i64 rv.2.1)).frozen? ⟨S, 7, none⟩ = false := by simp [World.frozen?, ra6]
  have ra7 := box_set ra6 7 (.int .i64 rv.2.2.1)
  simp only [List.setIfInBounds_toArray, List.set_cons_zero, List.set_cons_succ] at ra7
  have rc8 : (((((((((((((w3).setCell ⟨S + 1, 5, none⟩ (.int .u8 rv.1)).setCell ⟨S + 1, 6, none⟩ (.int .i64 rv.2.1)).setCell ⟨S + 1, 7, none⟩ (.int .i64 rv.2.2.1)).setCell ⟨S + 1, 8, none⟩ (.int .i64 rv.2.2.2)).setCell ⟨S, 0, none⟩ (.int .u8 (ov % 256))).setCell ⟨S, 1, none⟩ (.int .u8 lv.1)).setCell ⟨S, 2, none⟩ (.int .i64 lv.2.1)).setCell ⟨S, 3, none⟩ (.int .i64 lv.2.2.1)).setCell ⟨S, 4, none⟩ (.int .i64 lv.2.2.2)).setCell ⟨S, 5, none⟩ (.int .u8 rv.1)).setCell ⟨S, 6, none⟩ (.int .i64 rv.2.1)).setCell ⟨S, 7, none⟩ (.int .i64 rv.2.2.1)).cell? ⟨S, 8, none⟩ = some (.int .i64 0) := by simp [World.cell?, ra7]
  have rf8 : (((((((((((((w3).setCell ⟨S + 1, 5, none⟩ (.int .u8 rv.1)).setCell ⟨S + 1, 6, none⟩ (.int .i64 rv.2.1)).setCell ⟨S + 1, 7, none⟩ (.int .i64 rv.2.2.1)).setCell ⟨S + 1, 8, none⟩ (.int .i64 rv.2.2.2)).setCell ⟨S, 0, none⟩ (.int .u8 (ov % 256))).setCell ⟨S, 1, none⟩ (.int .u8 lv.1)).setCell ⟨S, 2, none⟩ (.int .i64 lv.2.1)).setCell ⟨S, 3, none⟩ (.int .i64 lv.2.2.1)).setCell ⟨S, 4, none⟩ (.int .i64 lv.2.2.2)).setCell ⟨S, 5, none⟩ (.int .u8 rv.1)).setCell ⟨S, 6, none⟩ (.int .i64 rv.2.1)).setCell ⟨S, 7, none⟩ (.int .i64 rv.2.2.1)).frozen? ⟨S, 8, none⟩ = false := by simp [World.frozen?, ra7]
  have ra8 := box_set ra7 8 (.int .i64 rv.2.2.2)
  simp only [List.setIfInBounds_toArray, List.set_cons_zero, List.set_cons_succ] at ra8
  replace hR3 := hR3
  replace hgR := grown_set (o := 0) (v := .int .u8 (ov % 256)) hgR s0
  replace hR3 := hR3.far (o := 0) (v := .int .u8 (ov % 256)) n1 n3
  replace hgR := grown_set (o := 1) (v := .int .u8 lv.1) hgR s0
  replace hR3 := hR3.far (o := 1) (v := .int .u8 lv.1) n1 n3
  replace hgR := grown_set (o := 2) (v := .int .i64 lv.2.1) hgR s0
  replace hR3 := hR3.far (o := 2) (v := .int .i64 lv.2.1) n1 n3
  replace hgR := grown_set (o := 3) (v := .int .i64 lv.2.2.1) hgR s0
  replace hR3 := hR3.far (o := 3) (v := .int .i64 lv.2.2.1) n1 n3
  replace hgR := grown_set (o := 4) (v := .int .i64 lv.2.2.2) hgR s0
  replace hR3 := hR3.far (o := 4) (v := .int .i64 lv.2.2.2) n1 n3
  replace hgR := grown_set (o := 5) (v := .int .u8 rv.1) hgR s0
  replace hR3 := hR3.far (o := 5) (v := .int .u8 rv.1) n1 n3
  replace hgR := grown_set (o := 6) (v := .int .i64 rv.2.1) hgR s0
  replace hR3 := hR3.far (o := 6) (v := .int .i64 rv.2.1) n1 n3
  replace hgR := grown_set (o := 7) (v := .int .i64 rv.2.2.1) hgR s0
  replace hR3 := hR3.far (o := 7) (v := .int .i64 rv.2.2.1) n1 n3
  replace hgR := grown_set (o := 8) (v := .int .i64 rv.2.2.2) hgR s0
  replace hR3 := hR3.far (o := 8) (v := .int .i64 rv.2.2.2) n1 n3
  replace hgR := Lib.hid hgR
  replace hR3 := Lib.hid hR3
  replace ra8 := Lib.hid ra8
  clear bA bB ra0 ra1 ra2 ra3 ra4 ra5 ra6 ra7 m3a0 m3a1 m3a2 m3a3 hRES hr1 hr2 hr3
  go_wp2_with fail
  exact bodyPost_ret (v := .agg #[.int .u8 (ov % 256), .int .u8 lv.1, .int .i64 lv.2.1, .int .i64 lv.2.2.1, .int .i64 lv.2.2.2, .int .u8 rv.1, .int .i64 rv.2.1, .int .i64 rv.2.2.1, .int .i64 rv.2.2.2]) (results_cell_row rfl _ _ S 48 _ (0, 0) _ rfl ra8.out Tryd.underlying48 rfl (by kernel_rfl)) rfl ⟨hgR.out, ⟨_, rfl, rfl⟩, hR3.out, hk3⟩
end Go.Proofs.YtkedifhlkiffoaaDoor
