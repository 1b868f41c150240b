/-
  Contract of the reader's step.
-/
import Derived.Test.YtkedifhlkiffoaaDoorPI
namespace Go.Proofs.YtkedifhlkiffoaaDoor
open Go.ChangeShapes Go.WideShapes Go.ChangeAt Go.RowKit
open Tree (Tm Cp Sp)
set_option linter.unusedVariables false
set_option linter.unusedSimpArgs false
attribute [local go_sem] Oper.semAt_some
/-- What stands in curly brackets. -/
def spanP (ts : List (Tk × Nat)) (k : Nat) : Except Nat ((Int × Int) × Nat) :=
  match oneP ts 1 k with
  | .error j => .error j
  | .ok (a, k) => match mustP ts 5 44 k with
    | .error j => .error j
    | .ok (_, k) => match oneP ts 1 k with
      | .error j => .error j
      | .ok (b, k) => match mustP ts 5 125 k with
        | .error j => .error j
        | .ok (_, k) => .ok ((a, b), k)
def mayK (ts : List (Tk × Nat)) (n : Int) (k : Nat) : Nat := if mayP ts 5 n k then k + 1 else k
def timesP (ts : List (Tk × Nat)) (k : Nat) : Except Nat ((Int × Int) × Nat) := if mayP ts 5 123 k then spanP ts (k + 1) else .ok ((1, 1), k)
def listP (ts : List (Tk × Nat)) (k : Nat) : Except Nat (List Cp × Nat) := if mayP ts 5 91 k then cmpsP ts (k + 1) else .ok ([], k)
def stepP (ts : List (Tk × Nat)) (i : Int) (strict : Bool) (k : Nat) : Except Nat (Sp × Nat) :=
  match oneP ts 1 (mayK ts 33 k) with
  | .error j => .error j
  | .ok (kd, k2) => match mustP ts 2 i k2 with
    | .error j => .error j
    | .ok (_, k3) => match timesP ts k3 with
      | .error j => .error j
      | .ok (mm, k4) => match listP ts k4 with
        | .error j => .error j
        | .ok (cs, k5) => .ok (⟨mayP ts 5 33 k, kd, mm.1, mm.2, strict, cs⟩, k5)
theorem OwnC.mono {w : World} {b b' : Nat} {v : Value} {cs : List Cp} (h : OwnC w b v cs) (hb : b' ≤ b) : OwnC w b' v cs := by
  refine ⟨h.1, ?_⟩
  rcases h.2 with hn | ⟨g, cap, cur, e1, e2, r⟩
  · exact .inl hn
  · exact .inr ⟨g, cap, cur, e1, Nat.le_trans hb e2, r⟩
theorem OwnC.kept {w w' : World} {b : Nat} {v : Value} {cs : List Cp} {R : Nat} (h : OwnC w b v cs) (hg : w.grownBy w' (some R)) (hR : R < b) : OwnC w' b v cs :=
  World.ownsRow.kept h hg (by
    rcases hv : v.ownBlock with _ | q
    · exact .inl rfl
    · have := (h.lt q hv).1
      exact .inr (fun e => by cases e; omega))
theorem OwnC.shape {w : World} {b : Nat} {v : Value} {cs : List Cp} (h : OwnC w b v cs) : ∃ a c, v = .slice a cs.length c := by
  rcases h.2 with ⟨rfl, hn⟩ | ⟨g, cap, cur, e1, r⟩
  · exact ⟨none, 0, by rw [hn]⟩
  · exact ⟨_, _, e1⟩
set_option maxRecDepth 100000 in
set_option maxHeartbeats 4000000 in
theorem step_P {R g c k : Nat} {ts : List (Tk × Nat)} (i : Int) (strict : Bool) (w : World) (hE : EndsT ts) (hn : ts.length ≤ 4000) (hk : k < ts.length) (h : RdK R g c ts k w) :
    Calls Tryd.prog 68 #[.pointer (some ⟨R, 0, none⟩), .int .i64 i, .bool strict] w (Told R g c ts (fun w' (s : Sp) u => ∃ v, u = Tree.spV s v ∧ OwnC w' w.heap.size v s.cs) (stepP ts i strict k) w) := by
  have hgl : g < w.heap.size := by obtain ⟨-, ⟨base, h2⟩, -, -⟩ := h; exact tks_lt h2
  have hRl := h.lt
  have hR0 := h.kept ((World.grownBy_alloc w (.cells #[.bool false, .int .i64 0, .int .i64 0, .int .i64 0, .bool false, .slice none 0 0] 39) none).trans (World.grownBy_alloc _ (.cells #[.bool false, .int .i64 0, .int .i64 1, .int .i64 1, .bool strict, .slice none 0 0] 39) none))
  have hgR : w.grownBy ((w.alloc (.cells #[.bool false, .int .i64 0, .int .i64 0, .int .i64 0, .bool false, .slice none 0 0] 39)).alloc (.cells #[.bool false, .int .i64 0, .int .i64 1, .int .i64 1, .bool strict, .slice none 0 0] 39)) (some R) := (World.grownBy_alloc w (.cells #[.bool false, .int .i64 0, .int .i64 0, .int .i64 0, .bool false, .slice none 0 0] 39) (some R)).trans (World.grownBy_alloc _ (.cells #[.bool false, .int .i64 0, .int .i64 1, .int .i64 1, .bool strict, .slice none 0 0] 39) (some R))
  have bA : ((w.alloc (.cells #[.bool false, .int .i64 0, .int .i64 0, .int .i64 0, .bool false, .slice none 0 0] 39)).alloc (.cells #[.bool false, .int .i64 0, .int .i64 1, .int .i64 1, .bool strict, .slice none 0 0] 39)).heap[w.heap.size]? = some (.cells #[.bool false, .int .i64 0, .int .i64 0, .int .i64 0, .bool false, .slice none 0 0] 39 (0, 0)) :=
    ((World.grownBy_alloc _ (.cells #[.bool false, .int .i64 0, .int .i64 1, .int .i64 1, .bool strict, .slice none 0 0] 39) none).block _ (by simp) (by simp)).trans (World.alloc_heap_new w (.cells #[.bool false, .int .i64 0, .int .i64 0, .int .i64 0, .bool false, .slice none 0 0] 39))
  have bB : ((w.alloc (.cells #[.bool false, .int .i64 0, .int .i64 0, .int .i64 0, .bool false, .slice none 0 0] 39)).alloc (.cells #[.bool false, .int .i64 0, .int .i64 1, .int .i64 1, .bool strict, .slice none 0 0] 39)).heap[w.heap.size + 1]? = some (.cells #[.bool false, .int .i64 0, .int .i64 1, .int .i64 1, .bool strict, .slice none 0 0] 39 (0, 0)) := by
    have := World.alloc_heap_new (w.alloc (.cells #[.bool false, .int .i64 0, .int .i64 0, .int .i64 0, .bool false, .slice none 0 0] 39)) (.cells #[.bool false, .int .i64 0, .int .i64 1, .int .i64 1, .bool strict, .slice none 0 0] 39)
    rwa [World.size_alloc] at this
  obtain ⟨RES, hRES⟩ : ∃ r, stepP ts i strict k = r := ⟨_, rfl⟩
  rw [hRES]
  replace hRES := Lib.hid hRES
  replace hE := Lib.hid hE
  go_enter Tryd.func68, Tryd.ntmps68
  go_wp2_with fail
  have hZ2 : ((w.alloc (.cells #[.bool false, .int .i64 0, .int .i64 0, .int .i64 0, .bool false, .slice none 0 0] 39)).alloc (.cells #[.bool false, .int .i64 0, .int .i64 1, .int .i64 1, .bool strict, .slice none 0 0] 39)).heap.size = w.heap.size + 2 := by simp
  generalize ((w.alloc (.cells #[.bool false, .int .i64 0, .int .i64 0, .int .i64 0, .bool false, .slice none 0 0] 39)).alloc (.cells #[.bool false, .int .i64 0, .int .i64 1, .int .i64 1, .bool strict, .slice none 0 0] 39)) = W0 at *
  obtain ⟨S, hS⟩ : ∃ S, w.heap.size = S := ⟨_, rfl⟩
  rw [hS] at hgl hRl bA bB hZ2 ⊢
  have s0 : w.heap.size ≤ S := by omega
  have s1 : w.heap.size ≤ S + 1 := by omega
  have n1 : S ≠ R := by omega
  have n2 : S + 1 ≠ R := by omega
  have n3 : S ≠ g := by omega
  have n4 : S + 1 ≠ g := by omega
  have n5 : S ≠ S + 1 := by omega
  replace hS := Lib.hid hS
  clear h
  have hsz : S + 2 ≤ W0.heap.size := by omega
  clear hZ2
  (with_reducible refine (may_P 5 33 W0 hE.out hk (by decide) hR0).mono ?_)
  rintro e w1 ⟨rfl, hR1, hg1, hk1⟩
  rw [show (if mayP ts 5 33 k then k + 1 else k) = mayK ts 33 k from rfl] at hR1 hk1
  replace hgR := grown_more hgR hg1
  replace bA := box_kept bA hg1 n1
  replace bB := box_kept bB hg1 n2
  replace hsz := Nat.le_trans hsz hg1.size
  have m1c0 : (w1).cell? ⟨S + 1, 0, none⟩ = some (.bool false) := by simp [World.cell?, bB]
  have m1f0 : (w1).frozen? ⟨S + 1, 0, none⟩ = false := by simp [World.frozen?, bB]
  have m1a0 := box_set bB 0 (.bool (mayP ts 5 33 k))
  simp only [List.setIfInBounds_toArray, List.set_cons_zero, List.set_cons_succ] at m1a0
  replace hgR := grown_set (o := 0) (v := .bool (mayP ts 5 33 k)) hgR s1
  replace bA := box_far (o := 0) (v := .bool (mayP ts 5 33 k)) bA n5
  replace hR1 := hR1.far (o := 0) (v := .bool (mayP ts 5 33 k)) n2 n4
  replace hsz := Nat.le_trans hsz (set_grown w1 (S + 1) 0 (.bool (mayP ts 5 33 k))).size
  go_wp2_with fail
  replace bB := m1a0
  clear m1a0 m1c0 m1f0 hg1
  obtain ⟨X1, hX1⟩ : ∃ X, (w1).setCell ⟨S + 1, 0, none⟩ (.bool (mayP ts 5 33 k)) = X := ⟨_, rfl⟩
  simp only [hX1] at hgR bA bB hR1 hsz ⊢
  clear hX1
  (with_reducible refine (one_P 1 X1 hE.out hk1 (by decide) hR1).mono ?_)
  rintro e w2 ⟨hg2, hT⟩
  cases hr2 : oneP ts 1 (mayK ts 33 k) with
  | error j' =>
    simp only [hr2] at hT
    obtain ⟨x, hx, rfl⟩ := hT
    replace hx := Lib.hid hx
    obtain rfl : RES = .error j' := by rw [← hRES.out]; unfold stepP; simp [timesP, spanP, listP, hr2]
    clear hr2
    go_wp2_with fail
    exact ⟨rfl, grown_more hgR hg2, x, hx.out, rfl⟩
  | ok y =>
  obtain ⟨kd, k2⟩ := y
  rw [hr2] at hT
  obtain ⟨⟨u, rfl, rfl⟩, hR2, hk2⟩ := hT
  replace hr2 := Lib.hid hr2
  replace hgR := grown_more hgR hg2
  replace bA := box_kept bA hg2 n1
  replace bB := box_kept bB hg2 n2
  replace hsz := Nat.le_trans hsz hg2.size
  have m2c0 : (w2).cell? ⟨S + 1, 1, none⟩ = some (.int .i64 0) := by simp [World.cell?, bB]
  have m2f0 : (w2).frozen? ⟨S + 1, 1, none⟩ = false := by simp [World.frozen?, bB]
  have m2a0 := box_set bB 1 (.int .i64 kd)
  simp only [List.setIfInBounds_toArray, List.set_cons_zero, List.set_cons_succ] at m2a0
  replace hgR := grown_set (o := 1) (v := .int .i64 kd) hgR s1
  replace bA := box_far (o := 1) (v := .int .i64 kd) bA n5
  replace hR2 := hR2.far (o := 1) (v := .int .i64 kd) n2 n4
  replace hsz := Nat.le_trans hsz (set_grown w2 (S + 1) 1 (.int .i64 kd)).size
  go_wp2_with fail
  replace bB := m2a0
  clear m2a0 m2c0 m2f0 hg2
  obtain ⟨X2, hX2⟩ : ∃ X, (w2).setCell ⟨S + 1, 1, none⟩ (.int .i64 kd) = X := ⟨_, rfl⟩
  simp only [hX2] at hgR bA bB hR2 hsz ⊢
  clear hX2
  (with_reducible refine (must_P 2 i X2 hE.out hk2 (by decide) hR2).mono ?_)
  rintro e w3 ⟨hg3, hT⟩
  cases hr3 : mustP ts 2 i k2 with
  | error j' =>
    simp only [hr3] at hT
    obtain ⟨x, hx, rfl⟩ := hT
    replace hx := Lib.hid hx
    obtain rfl : RES = .error j' := by rw [← hRES.out]; unfold stepP; simp [timesP, spanP, listP, hr2.out, hr3]
    clear hr3
    go_wp2_with fail
    exact ⟨rfl, grown_more hgR hg3, x, hx.out, rfl⟩
  | ok y =>
  obtain ⟨un, k3⟩ := y
  rw [hr3] at hT
  obtain ⟨⟨u, rfl, rfl⟩, hR3, hk3⟩ := hT
  replace hr3 := Lib.hid hr3
  replace hgR := grown_more hgR hg3
  replace bA := box_kept bA hg3 n1
  replace bB := box_kept bB hg3 n2
  replace hsz := Nat.le_trans hsz hg3.size
  clear hg3
  go_wp2_with fail
  have M4 := Lib.hid (may_P 5 123 w3 hE.out hk3 (by decide) hR3)
  obtain ⟨b4, hb4⟩ : ∃ b, mayP ts 5 123 k3 = b := ⟨_, rfl⟩
  rw [hb4] at M4
  replace hb4 := Lib.hid hb4
  (with_reducible refine M4.out.mono ?_)
  rintro e w4 ⟨rfl, hR4, hg4, hk4⟩
  clear M4
  replace hgR := grown_more hgR hg4
  replace bA := box_kept bA hg4 n1
  replace bB := box_kept bB hg4 n2
  replace hsz := Nat.le_trans hsz hg4.size
  cases b4
  · replace hR4 : RdK R g c ts k3 w4 := hR4
    clear hg4 hk4
    go_wp2_with fail
    have M5 := Lib.hid (may_P 5 91 w4 hE.out hk3 (by decide) hR4)
    obtain ⟨b5, hb5⟩ : ∃ b, mayP ts 5 91 k3 = b := ⟨_, rfl⟩
    rw [hb5] at M5
    replace hb5 := Lib.hid hb5
    (with_reducible refine M5.out.mono ?_)
    rintro e w5 ⟨rfl, hR5, hg5, hk5⟩
    clear M5
    replace hgR := grown_more hgR hg5
    replace bA := box_kept bA hg5 n1
    replace bB := box_kept bB hg5 n2
    replace hsz := Nat.le_trans hsz hg5.size
    cases b5
    · replace hR5 : RdK R g c ts k3 w5 := hR5
      clear hg5 hk5
      obtain rfl : RES = .ok (⟨mayP ts 5 33 k, kd, 1, 1, strict, []⟩, k3) := by rw [← hRES.out]; unfold stepP; simp [timesP, spanP, listP, hr2.out, hr3.out, hb4.out, hb5.out]
      have y0 : w5.cell? ⟨S + 1, 0, none⟩ = some (.bool (mayP ts 5 33 k)) := by simp [World.cell?, bB]
      have y1 : w5.cell? ⟨S + 1, 1, none⟩ = some (.int .i64 kd) := by simp [World.cell?, bB]
      have y2 : w5.cell? ⟨S + 1, 2, none⟩ = some (.int .i64 1) := by simp [World.cell?, bB]
      have y3 : w5.cell? ⟨S + 1, 3, none⟩ = some (.int .i64 1) := by simp [World.cell?, bB]
      have y4 : w5.cell? ⟨S + 1, 4, none⟩ = some (.bool strict) := by simp [World.cell?, bB]
      have y5 : w5.cell? ⟨S + 1, 5, none⟩ = some (.slice none 0 0) := by simp [World.cell?, bB]
      have rc0 : (w5).cell? ⟨S, 0, none⟩ = some (.bool false) := by simp [World.cell?, bA]
      have rf0 : (w5).frozen? ⟨S, 0, none⟩ = false := by simp [World.frozen?, bA]
      have ra0 := box_set bA 0 (.bool (mayP ts 5 33 k))
      simp only [List.setIfInBounds_toArray, List.set_cons_zero, List.set_cons_succ] at ra0
      have rc1 : ((w5).setCell ⟨S, 0, none⟩ (.bool (mayP ts 5 33 k))).cell? ⟨S, 1, none⟩ = some (.int .i64 0) := by simp [World.cell?, ra0]
      have rf1 : ((w5).setCell ⟨S, 0, none⟩ (.bool (mayP ts 5 33 k))).frozen? ⟨S, 1, none⟩ = false := by simp [World.frozen?, ra0]
      have ra1 := box_set ra0 1 (.int .i64 kd)
      simp only [List.setIfInBounds_toArray, List.set_cons_zero, List.set_cons_succ] at ra1
      have rc2 : (((w5).setCell ⟨S, 0, none⟩ (.bool (mayP ts 5 33 k))).setCell ⟨S, 1, none⟩ (.int .i64 kd)).cell? ⟨S, 2, none⟩ = some (.int .i64 0) := by simp [World.cell?, ra1]
      have rf2 : (((w5).setCell ⟨S, 0, none⟩ (.bool (mayP ts 5 33 k))).setCell ⟨S, 1, none⟩ (.int .i64 kd)).frozen? ⟨S, 2, none⟩ = false := by simp [World.frozen?, ra1]
      have ra2 := box_set ra1 2 (.int .i64 1)
      simp only [List.setIfInBounds_toArray, List.set_cons_zero, List.set_cons_succ] at ra2
      have rc3 : ((((w5).setCell ⟨S, 0, none⟩ (.bool (mayP ts 5 33 k))).setCell ⟨S, 1, none⟩ (.int .i64 kd)).setCell ⟨S, 2, none⟩ (.int .i64 1)).cell? ⟨S, 3, none⟩ = some (.int .i64 0) := by simp [World.cell?, ra2]
      have rf3 : ((((w5).setCell ⟨S, 0, none⟩ (.bool (mayP ts 5 33 k))).setCell ⟨S, 1, none⟩ (.int .i64 kd)).setCell ⟨S, 2, none⟩ (.int .i64 1)).frozen? ⟨S, 3, none⟩ = false := by simp [World.frozen?, ra2]
      have ra3 := box_set ra2 3 (.int .i64 1)
      simp only [List.setIfInBounds_toArray, List.set_cons_zero, List.set_cons_succ] at ra3
      have rc4 : (((((w5).setCell ⟨S, 0, none⟩ (.bool (mayP ts 5 33 k))).setCell ⟨S, 1, none⟩ (.int .i64 kd)).setCell ⟨S, 2, none⟩ (.int .i64 1)).setCell ⟨S, 3, none⟩ (.int .i64 1)).cell? ⟨S, 4, none⟩ = some (.bool false) := by simp [World.cell?, ra3]
      have rf4 : (((((w5).setCell ⟨S, 0, none⟩ (.bool (mayP ts 5 33 k))).setCell ⟨S, 1, none⟩ (.int .i64 kd)).setCell ⟨S, 2, none⟩ (.int .i64 1)).setCell ⟨S, 3, none⟩ (.int .i64 1)).frozen? ⟨S, 4, none⟩ = false := by simp [World.frozen?, ra3]
      have ra4 := box_set ra3 4 (.bool strict)
      simp only [List.setIfInBounds_toArray, List.set_cons_zero, List.set_cons_succ] at ra4
      have rc5 : ((((((w5).setCell ⟨S, 0, none⟩ (.bool (mayP ts 5 33 k))).setCell ⟨S, 1, none⟩ (.int .i64 kd)).setCell ⟨S, 2, none⟩ (.int .i64 1)).setCell ⟨S, 3, none⟩ (.int .i64 1)).setCell ⟨S, 4, none⟩ (.bool strict)).cell? ⟨S, 5, none⟩ = some (.slice none 0 0) := by simp [World.cell?, ra4]
      have rf5 : ((((((w5).setCell ⟨S, 0, none⟩ (.bool (mayP ts 5 33 k))).setCell ⟨S, 1, none⟩ (.int .i64 kd)).setCell ⟨S, 2, none⟩ (.int .i64 1)).setCell ⟨S, 3, none⟩ (.int .i64 1)).setCell ⟨S, 4, none⟩ (.bool strict)).frozen? ⟨S, 5, none⟩ = false := by simp [World.frozen?, ra4]
      have ra5 := box_set ra4 5 (.slice none 0 0)
      simp only [List.setIfInBounds_toArray, List.set_cons_zero, List.set_cons_succ] at ra5
      replace hR5 := hR5
      replace hgR := grown_set (o := 0) (v := .bool (mayP ts 5 33 k)) hgR s0
      replace hR5 := hR5.far (o := 0) (v := .bool (mayP ts 5 33 k)) n1 n3
      replace hgR := grown_set (o := 1) (v := .int .i64 kd) hgR s0
      replace hR5 := hR5.far (o := 1) (v := .int .i64 kd) n1 n3
      replace hgR := grown_set (o := 2) (v := .int .i64 1) hgR s0
      replace hR5 := hR5.far (o := 2) (v := .int .i64 1) n1 n3
      replace hgR := grown_set (o := 3) (v := .int .i64 1) hgR s0
      replace hR5 := hR5.far (o := 3) (v := .int .i64 1) n1 n3
      replace hgR := grown_set (o := 4) (v := .bool strict) hgR s0
      replace hR5 := hR5.far (o := 4) (v := .bool strict) n1 n3
      replace hgR := grown_set (o := 5) (v := .slice none 0 0) hgR s0
      replace hR5 := hR5.far (o := 5) (v := .slice none 0 0) n1 n3
      replace hgR := Lib.hid hgR
      replace hR5 := Lib.hid hR5
      replace ra5 := Lib.hid ra5
      clear bA bB ra0 ra1 ra2 ra3 ra4 hRES
      go_wp2_with fail
      exact bodyPost_ret (v := .agg #[.bool (mayP ts 5 33 k), .int .i64 kd, .int .i64 1, .int .i64 1, .bool strict, .slice none 0 0]) (results_cell_row rfl _ _ S 39 _ (0, 0) _ rfl ra5.out Tryd.underlying39 rfl (by kernel_rfl)) rfl ⟨hgR.out, ⟨_, rfl, _, rfl, World.ownsRow_nil _ _ _ _⟩, hR5.out, hk3⟩
    · replace hR5 : RdK R g c ts (k3 + 1) w5 := hR5
      replace hk5 : k3 + 1 < ts.length := hk5
      clear hg5
      go_wp2_with fail
      (with_reducible refine (cmps_P w5 hE.out hn hk5 hR5).mono ?_)
      rintro e w6 ⟨hg6, hT⟩
      cases hr6 : cmpsP ts (k3 + 1) with
      | error j' =>
        simp only [hr6] at hT
        obtain ⟨x, hx, rfl⟩ := hT
        replace hx := Lib.hid hx
        obtain rfl : RES = .error j' := by rw [← hRES.out]; unfold stepP; simp [timesP, spanP, listP, hr2.out, hr3.out, hb4.out, hb5.out, hr6]
        clear hr6
        go_wp2_with fail
        exact ⟨rfl, grown_more hgR hg6, x, hx.out, rfl⟩
      | ok y =>
      obtain ⟨cs, k6⟩ := y
      rw [hr6] at hT
      obtain ⟨⟨v, rfl, hO⟩, hR6, hk6⟩ := hT
      obtain ⟨va, vc, rfl⟩ := hO.shape
      replace hO := OwnC.mono hO hsz
      replace hr6 := Lib.hid hr6
      replace hgR := grown_more hgR hg6
      replace bA := box_kept bA hg6 n1
      replace bB := box_kept bB hg6 n2
      replace hsz := Nat.le_trans hsz hg6.size
      have m6c0 : (w6).cell? ⟨S + 1, 5, none⟩ = some (.slice none 0 0) := by simp [World.cell?, bB]
      have m6f0 : (w6).frozen? ⟨S + 1, 5, none⟩ = false := by simp [World.frozen?, bB]
      have m6a0 := box_set bB 5 (.slice va cs.length vc)
      simp only [List.setIfInBounds_toArray, List.set_cons_zero, List.set_cons_succ] at m6a0
      replace hgR := grown_set (o := 5) (v := .slice va cs.length vc) hgR s1
      replace bA := box_far (o := 5) (v := .slice va cs.length vc) bA n5
      replace hR6 := hR6.far (o := 5) (v := .slice va cs.length vc) n2 n4
      replace hO := hO.kept (set_grown w6 (S + 1) 5 (.slice va cs.length vc)) (by omega)
      replace bB := m6a0
      clear hg6
      obtain rfl : RES = .ok (⟨mayP ts 5 33 k, kd, 1, 1, strict, cs⟩, k6) := by rw [← hRES.out]; unfold stepP; simp [timesP, spanP, listP, hr2.out, hr3.out, hb4.out, hb5.out, hr6.out]
      have y0 : ((w6).setCell ⟨S + 1, 5, none⟩ (.slice va cs.length vc)).cell? ⟨S + 1, 0, none⟩ = some (.bool (mayP ts 5 33 k)) := by simp [World.cell?, bB]
      have y1 : ((w6).setCell ⟨S + 1, 5, none⟩ (.slice va cs.length vc)).cell? ⟨S + 1, 1, none⟩ = some (.int .i64 kd) := by simp [World.cell?, bB]
      have y2 : ((w6).setCell ⟨S + 1, 5, none⟩ (.slice va cs.length vc)).cell? ⟨S + 1, 2, none⟩ = some (.int .i64 1) := by simp [World.cell?, bB]
      have y3 : ((w6).setCell ⟨S + 1, 5, none⟩ (.slice va cs.length vc)).cell? ⟨S + 1, 3, none⟩ = some (.int .i64 1) := by simp [World.cell?, bB]
      have y4 : ((w6).setCell ⟨S + 1, 5, none⟩ (.slice va cs.length vc)).cell? ⟨S + 1, 4, none⟩ = some (.bool strict) := by simp [World.cell?, bB]
      have y5 : ((w6).setCell ⟨S + 1, 5, none⟩ (.slice va cs.length vc)).cell? ⟨S + 1, 5, none⟩ = some (.slice va cs.length vc) := by simp [World.cell?, bB]
      have rc0 : (((w6).setCell ⟨S + 1, 5, none⟩ (.slice va cs.length vc))).cell? ⟨S, 0, none⟩ = some (.bool false) := by simp [World.cell?, bA]
      have rf0 : (((w6).setCell ⟨S + 1, 5, none⟩ (.slice va cs.length vc))).frozen? ⟨S, 0, none⟩ = false := by simp [World.frozen?, bA]
      have ra0 := box_set bA 0 (.bool (mayP ts 5 33 k))
      simp only [List.setIfInBounds_toArray, List.set_cons_zero, List.set_cons_succ] at ra0
      have rc1 : ((((w6).setCell ⟨S + 1, 5, none⟩ (.slice va cs.length vc))).setCell ⟨S, 0, none⟩ (.bool (mayP ts 5 33 k))).cell? ⟨S, 1, none⟩ = some (.int .i64 0) := by simp [World.cell?, ra0]
      have rf1 : ((((w6).setCell ⟨S + 1, 5, none⟩ (.slice va cs.length vc))).setCell ⟨S, 0, none⟩ (.bool (mayP ts 5 33 k))).frozen? ⟨S, 1, none⟩ = false := by simp [World.frozen?, ra0]
      have ra1 := box_set ra0 1 (.int .i64 kd)
      simp only [List.setIfInBounds_toArray, List.set_cons_zero, List.set_cons_succ] at ra1
      have rc2 : (((((w6).setCell ⟨S + 1, 5, none⟩ (.slice va cs.length vc))).setCell ⟨S, 0, none⟩ (.bool (mayP ts 5 33 k))).setCell ⟨S, 1, none⟩ (.int .i64 kd)).cell? ⟨S, 2, none⟩ = some (.int .i64 0) := by simp [World.cell?, ra1]
      have rf2 : (((((w6).setCell ⟨S + 1, 5, none⟩ (.slice va cs.length vc))).setCell ⟨S, 0, none⟩ (.bool (mayP ts 5 33 k))).setCell ⟨S, 1, none⟩ (.int .i64 kd)).frozen? ⟨S, 2, none⟩ = false := by simp [World.frozen?, ra1]
      have ra2 := box_set ra1 2 (.int .i64 1)
      simp only [List.setIfInBounds_toArray, List.set_cons_zero, List.set_cons_succ] at ra2
      have rc3 : ((((((w6).setCell ⟨S + 1, 5, none⟩ (.slice va cs.length vc))).setCell ⟨S, 0, none⟩ (.bool (mayP ts 5 33 k))).setCell ⟨S, 1, none⟩ (.int .i64 kd)).setCell ⟨S, 2, none⟩ (.int .i64 1)).cell? ⟨S, 3, none⟩ = some (.int .i64 0) := by simp [World.cell?, ra2]
      have rf3 : ((((((w6).setCell ⟨S + 1, 5, none⟩ (.slice va cs.length vc))).setCell ⟨S, 0, none⟩ (.bool (mayP ts 5 33 k))).setCell ⟨S, 1, none⟩ (.int .i64 kd)).setCell ⟨S, 2, none⟩ (.int .i64 1)).frozen? ⟨S, 3, none⟩ = false := by simp [World.frozen?, ra2]
      have ra3 := box_set ra2 3 (.int .i64 1)
      simp only [List.setIfInBounds_toArray, List.set_cons_zero, List.set_cons_succ] at ra3
      have rc4 : (((((((w6).setCell ⟨S + 1, 5, none⟩ (.slice va cs.length vc))).setCell ⟨S, 0, none⟩ (.bool (mayP ts 5 33 k))).setCell ⟨S, 1, none⟩ (.int .i64 kd)).setCell ⟨S, 2, none⟩ (.int .i64 1)).setCell ⟨S, 3, none⟩ (.int .i64 1)).cell? ⟨S, 4, none⟩ = some (.bool false) := by simp [World.cell?, ra3]
      have rf4 : (((((((w6).setCell ⟨S + 1, 5, none⟩ (.slice va cs.length vc))).setCell ⟨S, 0, none⟩ (.bool (mayP ts 5 33 k))).setCell ⟨S, 1, none⟩ (.int .i64 kd)).setCell ⟨S, 2, none⟩ (.int .i64 1)).setCell ⟨S, 3, none⟩ (.int .i64 1)).frozen? ⟨S, 4, none⟩ = false := by simp [World.frozen?, ra3]
      have ra4 := box_set ra3 4 (.bool strict)
      simp only [List.setIfInBounds_toArray, List.set_cons_zero, List.set_cons_succ] at ra4
      have rc5 : ((((((((w6).setCell ⟨S + 1, 5, none⟩ (.slice va cs.length vc))).setCell ⟨S, 0, none⟩ (.bool (mayP ts 5 33 k))).setCell ⟨S, 1, none⟩ (.int .i64 kd)).setCell ⟨S, 2, none⟩ (.int .i64 1)).setCell ⟨S, 3, none⟩ (.int .i64 1)).setCell ⟨S, 4, none⟩ (.bool strict)).cell? ⟨S, 5, none⟩ = some (.slice none 0 0) := by simp [World.cell?, ra4]
      have rf5 : ((((((((w6).setCell ⟨S + 1, 5, none⟩ (.slice va cs.length vc))).setCell ⟨S, 0, none⟩ (.bool (mayP ts 5 33 k))).setCell ⟨S, 1, none⟩ (.int .i64 kd)).setCell ⟨S, 2, none⟩ (.int .i64 1)).setCell ⟨S, 3, none⟩ (.int .i64 1)).setCell ⟨S, 4, none⟩ (.bool strict)).frozen? ⟨S, 5, none⟩ = false := by simp [World.frozen?, ra4]
      have ra5 := box_set ra4 5 (.slice va cs.length vc)
      simp only [List.setIfInBounds_toArray, List.set_cons_zero, List.set_cons_succ] at ra5
      replace hR6 := hR6
      replace hgR := grown_set (o := 0) (v := .bool (mayP ts 5 33 k)) hgR s0
      replace hR6 := hR6.far (o := 0) (v := .bool (mayP ts 5 33 k)) n1 n3
      replace hgR := grown_set (o := 1) (v := .int .i64 kd) hgR s0
      replace hR6 := hR6.far (o := 1) (v := .int .i64 kd) n1 n3
      replace hgR := grown_set (o := 2) (v := .int .i64 1) hgR s0
      replace hR6 := hR6.far (o := 2) (v := .int .i64 1) n1 n3
      replace hgR := grown_set (o := 3) (v := .int .i64 1) hgR s0
      replace hR6 := hR6.far (o := 3) (v := .int .i64 1) n1 n3
      replace hgR := grown_set (o := 4) (v := .bool strict) hgR s0
      replace hR6 := hR6.far (o := 4) (v := .bool strict) n1 n3
      replace hgR := grown_set (o := 5) (v := .slice va cs.length vc) hgR s0
      replace hR6 := hR6.far (o := 5) (v := .slice va cs.length vc) n1 n3
      replace hO := hO.kept (set_grown (((w6).setCell ⟨S + 1, 5, none⟩ (.slice va cs.length vc))) S 0 (.bool (mayP ts 5 33 k))) (by omega)
      replace hO := hO.kept (set_grown ((((w6).setCell ⟨S + 1, 5, none⟩ (.slice va cs.length vc))).setCell ⟨S, 0, none⟩ (.bool (mayP ts 5 33 k))) S 1 (.int .i64 kd)) (by omega)
      replace hO := hO.kept (set_grown (((((w6).setCell ⟨S + 1, 5, none⟩ (.slice va cs.length vc))).setCell ⟨S, 0, none⟩ (.bool (mayP ts 5 33 k))).setCell ⟨S, 1, none⟩ (.int .i64 kd)) S 2 (.int .i64 1)) (by omega)
      replace hO := hO.kept (set_grown ((((((w6).setCell ⟨S + 1, 5, none⟩ (.slice va cs.length vc))).setCell ⟨S, 0, none⟩ (.bool (mayP ts 5 33 k))).setCell ⟨S, 1, none⟩ (.int .i64 kd)).setCell ⟨S, 2, none⟩ (.int .i64 1)) S 3 (.int .i64 1)) (by omega)
      replace hO := hO.kept (set_grown (((((((w6).setCell ⟨S + 1, 5, none⟩ (.slice va cs.length vc))).setCell ⟨S, 0, none⟩ (.bool (mayP ts 5 33 k))).setCell ⟨S, 1, none⟩ (.int .i64 kd)).setCell ⟨S, 2, none⟩ (.int .i64 1)).setCell ⟨S, 3, none⟩ (.int .i64 1)) S 4 (.bool strict)) (by omega)
      replace hO := hO.kept (set_grown ((((((((w6).setCell ⟨S + 1, 5, none⟩ (.slice va cs.length vc))).setCell ⟨S, 0, none⟩ (.bool (mayP ts 5 33 k))).setCell ⟨S, 1, none⟩ (.int .i64 kd)).setCell ⟨S, 2, none⟩ (.int .i64 1)).setCell ⟨S, 3, none⟩ (.int .i64 1)).setCell ⟨S, 4, none⟩ (.bool strict)) S 5 (.slice va cs.length vc)) (by omega)
      replace hO := Lib.hid hO
      replace hgR := Lib.hid hgR
      replace hR6 := Lib.hid hR6
      replace ra5 := Lib.hid ra5
      clear bA bB ra0 ra1 ra2 ra3 ra4 hRES m6a0
      go_wp2_with fail
      exact bodyPost_ret (v := .agg #[.bool (mayP ts 5 33 k), .int .i64 kd, .int .i64 1, .int .i64 1, .bool strict, .slice va cs.length vc]) (results_cell_row rfl _ _ S 39 _ (0, 0) _ rfl ra5.out Tryd.underlying39 rfl (by kernel_rfl)) rfl ⟨hgR.out, ⟨_, rfl, _, rfl, hO.out.mono (by omega)⟩, hR6.out, hk6⟩
  · replace hR4 : RdK R g c ts (k3 + 1) w4 := hR4
    replace hk4 : k3 + 1 < ts.length := hk4
    clear hg4
    go_wp2_with fail
    (with_reducible refine (one_P 1 w4 hE.out hk4 (by decide) hR4).mono ?_)
    rintro e w5 ⟨hg5, hT⟩
    cases hr5 : oneP ts 1 (k3 + 1) with
    | error j' =>
      simp only [hr5] at hT
      obtain ⟨x, hx, rfl⟩ := hT
      replace hx := Lib.hid hx
      obtain rfl : RES = .error j' := by rw [← hRES.out]; unfold stepP; simp [timesP, spanP, listP, hr2.out, hr3.out, hb4.out, hr5]
      clear hr5
      go_wp2_with fail
      exact ⟨rfl, grown_more hgR hg5, x, hx.out, rfl⟩
    | ok y =>
    obtain ⟨mn, k5⟩ := y
    rw [hr5] at hT
    obtain ⟨⟨u, rfl, rfl⟩, hR5, hk5⟩ := hT
    replace hr5 := Lib.hid hr5
    replace hgR := grown_more hgR hg5
    replace bA := box_kept bA hg5 n1
    replace bB := box_kept bB hg5 n2
    replace hsz := Nat.le_trans hsz hg5.size
    have m5c0 : (w5).cell? ⟨S + 1, 2, none⟩ = some (.int .i64 1) := by simp [World.cell?, bB]
    have m5f0 : (w5).frozen? ⟨S + 1, 2, none⟩ = false := by simp [World.frozen?, bB]
    have m5a0 := box_set bB 2 (.int .i64 mn)
    simp only [List.setIfInBounds_toArray, List.set_cons_zero, List.set_cons_succ] at m5a0
    replace hgR := grown_set (o := 2) (v := .int .i64 mn) hgR s1
    replace bA := box_far (o := 2) (v := .int .i64 mn) bA n5
    replace hR5 := hR5.far (o := 2) (v := .int .i64 mn) n2 n4
    replace hsz := Nat.le_trans hsz (set_grown w5 (S + 1) 2 (.int .i64 mn)).size
    go_wp2_with fail
    replace bB := m5a0
    clear m5a0 m5c0 m5f0 hg5
    obtain ⟨X5, hX5⟩ : ∃ X, (w5).setCell ⟨S + 1, 2, none⟩ (.int .i64 mn) = X := ⟨_, rfl⟩
    simp only [hX5] at hgR bA bB hR5 hsz ⊢
    clear hX5
    (with_reducible refine (must_P 5 44 X5 hE.out hk5 (by decide) hR5).mono ?_)
    rintro e w6 ⟨hg6, hT⟩
    cases hr6 : mustP ts 5 44 k5 with
    | error j' =>
      simp only [hr6] at hT
      obtain ⟨x, hx, rfl⟩ := hT
      replace hx := Lib.hid hx
      obtain rfl : RES = .error j' := by rw [← hRES.out]; unfold stepP; simp [timesP, spanP, listP, hr2.out, hr3.out, hb4.out, hr5.out, hr6]
      clear hr6
      go_wp2_with fail
      exact ⟨rfl, grown_more hgR hg6, x, hx.out, rfl⟩
    | ok y =>
    obtain ⟨un6, k6⟩ := y
    rw [hr6] at hT
    obtain ⟨⟨u, rfl, rfl⟩, hR6, hk6⟩ := hT
    replace hr6 := Lib.hid hr6
    replace hgR := grown_more hgR hg6
    replace bA := box_kept bA hg6 n1
    replace bB := box_kept bB hg6 n2
    replace hsz := Nat.le_trans hsz hg6.size
    clear hg6
    go_wp2_with fail
    (with_reducible refine (one_P 1 w6 hE.out hk6 (by decide) hR6).mono ?_)
    rintro e w7 ⟨hg7, hT⟩
    cases hr7 : oneP ts 1 k6 with
    | error j' =>
      simp only [hr7] at hT
      obtain ⟨x, hx, rfl⟩ := hT
      replace hx := Lib.hid hx
      obtain rfl : RES = .error j' := by rw [← hRES.out]; unfold stepP; simp [timesP, spanP, listP, hr2.out, hr3.out, hb4.out, hr5.out, hr6.out, hr7]
      clear hr7
      go_wp2_with fail
      exact ⟨rfl, grown_more hgR hg7, x, hx.out, rfl⟩
    | ok y =>
    obtain ⟨mx, k7⟩ := y
    rw [hr7] at hT
    obtain ⟨⟨u, rfl, rfl⟩, hR7, hk7⟩ := hT
    replace hr7 := Lib.hid hr7
    replace hgR := grown_more hgR hg7
    replace bA := box_kept bA hg7 n1
    replace bB := box_kept bB hg7 n2
    replace hsz := Nat.le_trans hsz hg7.size
    have m7c0 : (w7).cell? ⟨S + 1, 3, none⟩ = some (.int .i64 1) := by simp [World.cell?, bB]
    have m7f0 : (w7).frozen? ⟨S + 1, 3, none⟩ = false := by simp [World.frozen?, bB]
    have m7a0 := box_set bB 3 (.int .i64 mx)
    simp only [List.setIfInBounds_toArray, List.set_cons_zero, List.set_cons_succ] at m7a0
    replace hgR := grown_set (o := 3) (v := .int .i64 mx) hgR s1
    replace bA := box_far (o := 3) (v := .int .i64 mx) bA n5
    replace hR7 := hR7.far (o := 3) (v := .int .i64 mx) n2 n4
    replace hsz := Nat.le_trans hsz (set_grown w7 (S + 1) 3 (.int .i64 mx)).size
    go_wp2_with fail
    replace bB := m7a0
    clear m7a0 m7c0 m7f0 hg7
    obtain ⟨X7, hX7⟩ : ∃ X, (w7).setCell ⟨S + 1, 3, none⟩ (.int .i64 mx) = X := ⟨_, rfl⟩
    simp only [hX7] at hgR bA bB hR7 hsz ⊢
    clear hX7
    (with_reducible refine (must_P 5 125 X7 hE.out hk7 (by decide) hR7).mono ?_)
    rintro e w8 ⟨hg8, hT⟩
    cases hr8 : mustP ts 5 125 k7 with
    | error j' =>
      simp only [hr8] at hT
      obtain ⟨x, hx, rfl⟩ := hT
      replace hx := Lib.hid hx
      obtain rfl : RES = .error j' := by rw [← hRES.out]; unfold stepP; simp [timesP, spanP, listP, hr2.out, hr3.out, hb4.out, hr5.out, hr6.out, hr7.out, hr8]
      clear hr8
      go_wp2_with fail
      exact ⟨rfl, grown_more hgR hg8, x, hx.out, rfl⟩
    | ok y =>
    obtain ⟨un8, k8⟩ := y
    rw [hr8] at hT
    obtain ⟨⟨u, rfl, rfl⟩, hR8, hk8⟩ := hT
    replace hr8 := Lib.hid hr8
    replace hgR := grown_more hgR hg8
    replace bA := box_kept bA hg8 n1
    replace bB := box_kept bB hg8 n2
    replace hsz := Nat.le_trans hsz hg8.size
    clear hg8
    go_wp2_with fail
    have M9 := Lib.hid (may_P 5 91 w8 hE.out hk8 (by decide) hR8)
    obtain ⟨b9, hb9⟩ : ∃ b, mayP ts 5 91 k8 = b := ⟨_, rfl⟩
    rw [hb9] at M9
    replace hb9 := Lib.hid hb9
    (with_reducible refine M9.out.mono ?_)
    rintro e w9 ⟨rfl, hR9, hg9, hk9⟩
    clear M9
    replace hgR := grown_more hgR hg9
    replace bA := box_kept bA hg9 n1
    replace bB := box_kept bB hg9 n2
    replace hsz := Nat.le_trans hsz hg9.size
    cases b9
    · replace hR9 : RdK R g c ts k8 w9 := hR9
      clear hg9 hk9
      obtain rfl : RES = .ok (⟨mayP ts 5 33 k, kd, mn, mx, strict, []⟩, k8) := by rw [← hRES.out]; unfold stepP; simp [timesP, spanP, listP, hr2.out, hr3.out, hb4.out, hr5.out, hr6.out, hr7.out, hr8.out, hb9.out]
      have y0 : w9.cell? ⟨S + 1, 0, none⟩ = some (.bool (mayP ts 5 33 k)) := by simp [World.cell?, bB]
      have y1 : w9.cell? ⟨S + 1, 1, none⟩ = some (.int .i64 kd) := by simp [World.cell?, bB]
      have y2 : w9.cell? ⟨S + 1, 2, none⟩ = some (.int .i64 mn) := by simp [World.cell?, bB]
      have y3 : w9.cell? ⟨S + 1, 3, none⟩ = some (.int .i64 mx) := by simp [World.cell?, bB]
      have y4 : w9.cell? ⟨S + 1, 4, none⟩ = some (.bool strict) := by simp [World.cell?, bB]
      have y5 : w9.cell? ⟨S + 1, 5, none⟩ = some (.slice none 0 0) := by simp [World.cell?, bB]
      have rc0 : (w9).cell? ⟨S, 0, none⟩ = some (.bool false) := by simp [World.cell?, bA]
      have rf0 : (w9).frozen? ⟨S, 0, none⟩ = false := by simp [World.frozen?, bA]
      have ra0 := box_set bA 0 (.bool (mayP ts 5 33 k))
      simp only [List.setIfInBounds_toArray, List.set_cons_zero, List.set_cons_succ] at ra0
      have rc1 : ((w9).setCell ⟨S, 0, none⟩ (.bool (mayP ts 5 33 k))).cell? ⟨S, 1, none⟩ = some (.int .i64 0) := by simp [World.cell?, ra0]
      have rf1 : ((w9).setCell ⟨S, 0, none⟩ (.bool (mayP ts 5 33 k))).frozen? ⟨S, 1, none⟩ = false := by simp [World.frozen?, ra0]
      have ra1 := box_set ra0 1 (.int .i64 kd)
      simp only [List.setIfInBounds_toArray, List.set_cons_zero, List.set_cons_succ] at ra1
      have rc2 : (((w9).setCell ⟨S, 0, none⟩ (.bool (mayP ts 5 33 k))).setCell ⟨S, 1, none⟩ (.int .i64 kd)).cell? ⟨S, 2, none⟩ = some (.int .i64 0) := by simp [World.cell?, ra1]
      have rf2 : (((w9).setCell ⟨S, 0, none⟩ (.bool (mayP ts 5 33 k))).setCell ⟨S, 1, none⟩ (.int .i64 kd)).frozen? ⟨S, 2, none⟩ = false := by simp [World.frozen?, ra1]
      have ra2 := box_set ra1 2 (.int .i64 mn)
      simp only [List.setIfInBounds_toArray, List.set_cons_zero, List.set_cons_succ] at ra2
      have rc3 : ((((w9).setCell ⟨S, 0, none⟩ (.bool (mayP ts 5 33 k))).setCell ⟨S, 1, none⟩ (.int .i64 kd)).setCell ⟨S, 2, none⟩ (.int .i64 mn)).cell? ⟨S, 3, none⟩ = some (.int .i64 0) := by simp [World.cell?, ra2]
      have rf3 : ((((w9).setCell ⟨S, 0, none⟩ (.bool (mayP ts 5 33 k))).setCell ⟨S, 1, none⟩ (.int .i64 kd)).setCell ⟨S, 2, none⟩ (.int .i64 mn)).frozen? ⟨S, 3, none⟩ = false := by simp [World.frozen?, ra2]
      have ra3 := box_set ra2 3 (.int .i64 mx)
      simp only [List.setIfInBounds_toArray, List.set_cons_zero, List.set_cons_succ] at ra3
      have rc4 : (((((w9).setCell ⟨S, 0, none⟩ (.bool (mayP ts 5 33 k))).setCell ⟨S, 1, none⟩ (.int .i64 kd)).setCell ⟨S, 2, none⟩ (.int .i64 mn)).setCell ⟨S, 3, none⟩ (.int .i64 mx)).cell? ⟨S, 4, none⟩ = some (.bool false) := by simp [World.cell?, ra3]
      have rf4 : (((((w9).setCell ⟨S, 0, none⟩ (.bool (mayP ts 5 33 k))).setCell ⟨S, 1, none⟩ (.int .i64 kd)).setCell ⟨S, 2, none⟩ (.int .i64 mn)).setCell ⟨S, 3, none⟩ (.int .i64 mx)).frozen? ⟨S, 4, none⟩ = false := by simp [World.frozen?, ra3]
      have ra4 := box_set ra3 4 (.bool strict)
      simp only [List.setIfInBounds_toArray, List.set_cons_zero, List.set_cons_succ] at ra4
      have rc5 : ((((((w9).setCell ⟨S, 0, none⟩ (.bool (mayP ts 5 33 k))).setCell ⟨S, 1, none⟩ (.int .i64 kd)).setCell ⟨S, 2, none⟩ (.int .i64 mn)).setCell ⟨S, 3, none⟩ (.int .i64 mx)).setCell ⟨S, 4, none⟩ (.bool strict)).cell? ⟨S, 5, none⟩ = some (.slice none 0 0) := by simp [World.cell?, ra4]
      have rf5 : ((((((w9).setCell ⟨S, 0, none⟩ (.bool (mayP ts 5 33 k))).setCell ⟨S, 1, none⟩ (.int .i64 kd)).setCell ⟨S, 2, none⟩ (.int .i64 mn)).setCell ⟨S, 3, none⟩ (.int .i64 mx)).setCell ⟨S, 4, none⟩ (.bool strict)).frozen? ⟨S, 5, none⟩ = false := by simp [World.frozen?, ra4]
      have ra5 := box_set ra4 5 (.slice none 0 0)
      simp only [List.setIfInBounds_toArray, List.set_cons_zero, List.set_cons_succ] at ra5
      replace hR9 := hR9
      replace hgR := grown_set (o := 0) (v := .bool (mayP ts 5 33 k)) hgR s0
      replace hR9 := hR9.far (o := 0) (v := .bool (mayP ts 5 33 k)) n1 n3
      replace hgR := grown_set (o := 1) (v := .int .i64 kd) hgR s0
      replace hR9 := hR9.far (o := 1) (v := .int .i64 kd) n1 n3
      replace hgR := grown_set (o := 2) (v := .int .i64 mn) hgR s0
      replace hR9 := hR9.far (o := 2) (v := .int .i64 mn) n1 n3
      replace hgR := grown_set (o := 3) (v := .int .i64 mx) hgR s0
      replace hR9 := hR9.far (o := 3) (v := .int .i64 mx) n1 n3
      replace hgR := grown_set (o := 4) (v := .bool strict) hgR s0
      replace hR9 := hR9.far (o := 4) (v := .bool strict) n1 n3
      replace hgR := grown_set (o := 5) (v := .slice none 0 0) hgR s0
      replace hR9 := hR9.far (o := 5) (v := .slice none 0 0) n1 n3
      replace hgR := Lib.hid hgR
      replace hR9 := Lib.hid hR9
      replace ra5 := Lib.hid ra5
      clear bA bB ra0 ra1 ra2 ra3 ra4 hRES
      go_wp2_with fail
      exact bodyPost_ret (v := .agg #[.bool (mayP ts 5 33 k), .int .i64 kd, .int .i64 mn, .int .i64 mx, .bool strict, .slice none 0 0]) (results_cell_row rfl _ _ S 39 _ (0, 0) _ rfl ra5.out Tryd.underlying39 rfl (by kernel_rfl)) rfl ⟨hgR.out, ⟨_, rfl, _, rfl, World.ownsRow_nil _ _ _ _⟩, hR9.out, hk8⟩
    · replace hR9 : RdK R g c ts (k8 + 1) w9 := hR9
      replace hk9 : k8 + 1 < ts.length := hk9
      clear hg9
      go_wp2_with fail
      (with_reducible refine (cmps_P w9 hE.out hn hk9 hR9).mono ?_)
      rintro e w10 ⟨hg10, hT⟩
      cases hr10 : cmpsP ts (k8 + 1) with
      | error j' =>
        simp only [hr10] at hT
        obtain ⟨x, hx, rfl⟩ := hT
        replace hx := Lib.hid hx
        obtain rfl : RES = .error j' := by rw [← hRES.out]; unfold stepP; simp [timesP, spanP, listP, hr2.out, hr3.out, hb4.out, hr5.out, hr6.out, hr7.out, hr8.out, hb9.out, hr10]
        clear hr10
        go_wp2_with fail
        exact ⟨rfl, grown_more hgR hg10, x, hx.out, rfl⟩
      | ok y =>
      obtain ⟨cs, k10⟩ := y
      rw [hr10] at hT
      obtain ⟨⟨v, rfl, hO⟩, hR10, hk10⟩ := hT
      obtain ⟨va, vc, rfl⟩ := hO.shape
      replace hO := OwnC.mono hO hsz
      replace hr10 := Lib.hid hr10
      replace hgR := grown_more hgR hg10
      replace bA := box_kept bA hg10 n1
      replace bB := box_kept bB hg10 n2
      replace hsz := Nat.le_trans hsz hg10.size
      have m10c0 : (w10).cell? ⟨S + 1, 5, none⟩ = some (.slice none 0 0) := by simp [World.cell?, bB]
      have m10f0 : (w10).frozen? ⟨S + 1, 5, none⟩ = false := by simp [World.frozen?, bB]
      have m10a0 := box_set bB 5 (.slice va cs.length vc)
      simp only [List.setIfInBounds_toArray, List.set_cons_zero, List.set_cons_succ] at m10a0
      replace hgR := grown_set (o := 5) (v := .slice va cs.length vc) hgR s1
      replace bA := box_far (o := 5) (v := .slice va cs.length vc) bA n5
      replace hR10 := hR10.far (o := 5) (v := .slice va cs.length vc) n2 n4
      replace hO := hO.kept (set_grown w10 (S + 1) 5 (.slice va cs.length vc)) (by omega)
      replace bB := m10a0
      clear hg10
      obtain rfl : RES = .ok (⟨mayP ts 5 33 k, kd, mn, mx, strict, cs⟩, k10) := by rw [← hRES.out]; unfold stepP; simp [timesP, spanP, listP, hr2.out, hr3.out, hb4.out, hr5.out, hr6.out, hr7.out, hr8.out, hb9.out, hr10.out]
      have y0 : ((w10).setCell ⟨S + 1, 5, none⟩ (.slice va cs.length vc)).cell? ⟨S + 1, 0, none⟩ = some (.bool (mayP ts 5 33 k)) := by simp [World.cell?, bB]
      have y1 : ((w10).setCell ⟨S + 1, 5, none⟩ (.slice va cs.length vc)).cell? ⟨S + 1, 1, none⟩ = some (.int .i64 kd) := by simp [World.cell?, bB]
      have y2 : ((w10).setCell ⟨S + 1, 5, none⟩ (.slice va cs.length vc)).cell? ⟨S + 1, 2, none⟩ = some (.int .i64 mn) := by simp [World.cell?, bB]
      have y3 : ((w10).setCell ⟨S + 1, 5, none⟩ (.slice va cs.length vc)).cell? ⟨S + 1, 3, none⟩ = some (.int .i64 mx) := by simp [World.cell?, bB]
      have y4 : ((w10).setCell ⟨S + 1, 5, none⟩ (.slice va cs.length vc)).cell? ⟨S + 1, 4, none⟩ = some (.bool strict) := by simp [World.cell?, bB]
      have y5 : ((w10).setCell ⟨S + 1, 5, none⟩ (.slice va cs.length vc)).cell? ⟨S + 1, 5, none⟩ = some (.slice va cs.length vc) := by simp [World.cell?, bB]
      have rc0 : (((w10).setCell ⟨S + 1, 5, none⟩ (.slice va cs.length vc))).cell? ⟨S, 0, none⟩ = some (.bool false) := by simp [World.cell?, bA]
      have rf0 : (((w10).setCell ⟨S + 1, 5, none⟩ (.slice va cs.length vc))).frozen? ⟨S, 0, none⟩ = false := by simp [World.frozen?, bA]
      have ra0 := box_set bA 0 (.bool (mayP ts 5 33 k))
      simp only [List.setIfInBounds_toArray, List.set_cons_zero, List.set_cons_succ] at ra0
      have rc1 : ((((w10).setCell ⟨S + 1, 5, none⟩ (.slice va cs.length vc))).setCell ⟨S, 0, none⟩ (.bool (mayP ts 5 33 k))).cell? ⟨S, 1, none⟩ = some (.int .i64 0) := by simp [World.cell?, ra0]
      have rf1 : ((((w10).setCell ⟨S + 1, 5, none⟩ (.slice va cs.length vc))).setCell ⟨S, 0, none⟩ (.bool (mayP ts 5 33 k))).frozen? ⟨S, 1, none⟩ = false := by simp [World.frozen?, ra0]
      have ra1 := box_set ra0 1 (.int .i64 kd)
      simp only [List.setIfInBounds_toArray, List.set_cons_zero, List.set_cons_succ] at ra1
      have rc2 : (((((w10).setCell ⟨S + 1, 5, none⟩ (.slice va cs.length vc))).setCell ⟨S, 0, none⟩ (.bool (mayP ts 5 33 k))).setCell ⟨S, 1, none⟩ (.int .i64 kd)).cell? ⟨S, 2, none⟩ = some (.int .i64 0) := by simp [World.cell?, ra1]
      have rf2 : (((((w10).setCell ⟨S + 1, 5, none⟩ (.slice va cs.length vc))).setCell ⟨S, 0, none⟩ (.bool (mayP ts 5 33 k))).setCell ⟨S, 1, none⟩ (.int .i64 kd)).frozen? ⟨S, 2, none⟩ = false := by simp [World.frozen?, ra1]
      have ra2 := box_set ra1 2 (.int .i64 mn)
      simp only [List.setIfInBounds_toArray, List.set_cons_zero, List.set_cons_succ] at ra2
      have rc3 : ((((((w10).setCell ⟨S + 1, 5, none⟩ (.slice va cs.length vc))).setCell ⟨S, 0, none⟩ (.bool (mayP ts 5 33 k))).setCell ⟨S, 1, none⟩ (.int .i64 kd)).setCell ⟨S, 2, none⟩ (.int .i64 mn)).cell? ⟨S, 3, none⟩ = some (.int .i64 0) := by simp [World.cell?, ra2]
      have rf3 : ((((((w10).setCell ⟨S + 1, 5, none⟩ (.slice va cs.length vc))).setCell ⟨S, 0, none⟩ (.bool (mayP ts 5 33 k))).setCell ⟨S, 1, none⟩ (.int .i64 kd)).setCell ⟨S, 2, none⟩ (.int .i64 mn)).frozen? ⟨S, 3, none⟩ = false := by simp [World.frozen?, ra2]
      have ra3 := box_set ra2 3 (.int .i64 mx)
      simp only [List.setIfInBounds_toArray, List.set_cons_zero, List.set_cons_succ] at ra3
      have rc4 : (((((((w10).setCell ⟨S + 1, 5, none⟩ (.slice va cs.length vc))).setCell ⟨S, 0, none⟩ (.bool (mayP ts 5 33 k))).setCell ⟨S, 1, none⟩ (.int .i64 kd)).setCell ⟨S, 2, none⟩ (.int .i64 mn)).setCell ⟨S, 3, none⟩ (.int .i64 mx)).cell? ⟨S, 4, none⟩ = some (.bool false) := by simp [World.cell?, ra3]
      have rf4 : (((((((w10).setCell ⟨S + 1, 5, none⟩ (.slice va cs.length vc))).setCell ⟨S, 0, none⟩ (.bool (mayP ts 5 33 k))).setCell ⟨S, 1, none⟩ (.int .i64 kd)).setCell ⟨S, 2, none⟩ (.int .i64 mn)).setCell ⟨S, 3, none⟩ (.int .i64 mx)).frozen? ⟨S, 4, none⟩ = false := by simp [World.frozen?, ra3]
      have ra4 := box_set ra3 4 (.bool strict)
      simp only [List.setIfInBounds_toArray, List.set_cons_zero, List.set_cons_succ] at ra4
      have rc5 : ((((((((w10).setCell ⟨S + 1, 5, none⟩ (.slice va cs.length vc))).setCell ⟨S, 0, none⟩ (.bool (mayP ts 5 33 k))).setCell ⟨S, 1, none⟩ (.int .i64 kd)).setCell ⟨S, 2, none⟩ (.int .i64 mn)).setCell ⟨S, 3, none⟩ (.int .i64 mx)).setCell ⟨S, 4, none⟩ (.bool strict)).cell? ⟨S, 5, none⟩ = some (.slice none 0 0) := by simp [World.cell?, ra4]
      have rf5 : ((((((((w10).setCell ⟨S + 1, 5, none⟩ (.slice va cs.length vc))).setCell ⟨S, 0, none⟩ (.bool (mayP ts 5 33 k))).setCell ⟨S, 1, none⟩ (.int .i64 kd)).setCell ⟨S, 2, none⟩ (.int .i64 mn)).setCell ⟨S, 3, none⟩ (.int .i64 mx)).setCell ⟨S, 4, none⟩ (.bool strict)).frozen? ⟨S, 5, none⟩ = false := by simp [World.frozen?, ra4]
      have ra5 := box_set ra4 5 (.slice va cs.length vc)
      simp only [List.setIfInBounds_toArray, List.set_cons_zero, List.set_cons_succ] at ra5
      replace hR10 := hR10
      replace hgR := grown_set (o := 0) (v := .bool (mayP ts 5 33 k)) hgR s0
      replace hR10 := hR10.far (o := 0) (v := .bool (mayP ts 5 33 k)) n1 n3
      replace hgR := grown_set (o := 1) (v := .int .i64 kd) hgR s0
      replace hR10 := hR10.far (o := 1) (v := .int .i64 kd) n1 n3
      replace hgR := grown_set (o := 2) (v := .int .i64 mn) hgR s0
      replace hR10 := hR10.far (o := 2) (v := .int .i64 mn) n1 n3
      replace hgR := grown_set (o := 3) (v := .int .i64 mx) hgR s0
      replace hR10 := hR10.far (o := 3) (v := .int .i64 mx) n1 n3
      replace hgR := grown_set (o := 4) (v := .bool strict) hgR s0
      replace hR10 := hR10.far (o := 4) (v := .bool strict) n1 n3
      replace hgR := grown_set (o := 5) (v := .slice va cs.length vc) hgR s0
      replace hR10 := hR10.far (o := 5) (v := .slice va cs.length vc) n1 n3
      replace hO := hO.kept (set_grown (((w10).setCell ⟨S + 1, 5, none⟩ (.slice va cs.length vc))) S 0 (.bool (mayP ts 5 33 k))) (by omega)
      replace hO := hO.kept (set_grown ((((w10).setCell ⟨S + 1, 5, none⟩ (.slice va cs.length vc))).setCell ⟨S, 0, none⟩ (.bool (mayP ts 5 33 k))) S 1 (.int .i64 kd)) (by omega)
      replace hO := hO.kept (set_grown (((((w10).setCell ⟨S + 1, 5, none⟩ (.slice va cs.length vc))).setCell ⟨S, 0, none⟩ (.bool (mayP ts 5 33 k))).setCell ⟨S, 1, none⟩ (.int .i64 kd)) S 2 (.int .i64 mn)) (by omega)
      replace hO := hO.kept (set_grown ((((((w10).setCell ⟨S + 1, 5, none⟩ (.slice va cs.length vc))).setCell ⟨S, 0, none⟩ (.bool (mayP ts 5 33 k))).setCell ⟨S, 1, none⟩ (.int .i64 kd)).setCell ⟨S, 2, none⟩ (.int .i64 mn)) S 3 (.int .i64 mx)) (by omega)
      replace hO := hO.kept (set_grown (((((((w10).setCell ⟨S + 1, 5, none⟩ (.slice va cs.length vc))).setCell ⟨S, 0, none⟩ (.bool (mayP ts 5 33 k))).setCell ⟨S, 1, none⟩ (.int .i64 kd)).setCell ⟨S, 2, none⟩ (.int .i64 mn)).setCell ⟨S, 3, none⟩ (.int .i64 mx)) S 4 (.bool strict)) (by omega)
      replace hO := hO.kept (set_grown ((((((((w10).setCell ⟨S + 1, 5, none⟩ (.slice va cs.length vc))).setCell ⟨S, 0, none⟩ (.bool (mayP ts 5 33 k))).setCell ⟨S, 1, none⟩ (.int .i64 kd)).setCell ⟨S, 2, none⟩ (.int .i64 mn)).setCell ⟨S, 3, none⟩ (.int .i64 mx)).setCell ⟨S, 4, none⟩ (.bool strict)) S 5 (.slice va cs.length vc)) (by omega)
      replace hO := Lib.hid hO
      replace hgR := Lib.hid hgR
      replace hR10 := Lib.hid hR10
      replace ra5 := Lib.hid ra5
      clear bA bB ra0 ra1 ra2 ra3 ra4 hRES m10a0
      go_wp2_with fail
      exact bodyPost_ret (v := .agg #[.bool (mayP ts 5 33 k), .int .i64 kd, .int .i64 mn, .int .i64 mx, .bool strict, .slice va cs.length vc]) (results_cell_row rfl _ _ S 39 _ (0, 0) _ rfl ra5.out Tryd.underlying39 rfl (by kernel_rfl)) rfl ⟨hgR.out, ⟨_, rfl, _, rfl, hO.out.mono (by omega)⟩, hR10.out, hk10⟩
end Go.Proofs.YtkedifhlkiffoaaDoor
