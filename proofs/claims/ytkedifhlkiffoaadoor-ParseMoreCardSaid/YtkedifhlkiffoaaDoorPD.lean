/-
  Contracts of what takes the rest of a term, by its letter: the closures of rests.
-/
import Derived.Test.YtkedifhlkiffoaaDoorPC
namespace Go.Proofs.YtkedifhlkiffoaaDoor
open Go.ChangeShapes Go.WideShapes Go.ChangeAt Go.RowKit
set_option linter.unusedVariables false
set_option linter.unusedSimpArgs false
attribute [local go_sem] Oper.semAt_some
/-- The reader's pointer in a box. -/
def RpBox (B R : Nat) (W : World) : Prop := W.heap[B]? = some (.cells #[.pointer (some ⟨R, 0, none⟩)] 102 (0, 0))
theorem RpBox.cell {B R : Nat} {W : World} (h : RpBox B R W) : W.cell? ⟨B, 0, none⟩ = some (.pointer (some ⟨R, 0, none⟩)) := by unfold RpBox at h; simp [World.cell?, h]
set_option maxRecDepth 100000 in
set_option maxHeartbeats 1000000 in
theorem rest79_P {R g c k B : Nat} {ts : List (Tk × Nat)} (w : World) (hE : EndsT ts) (hk : k < ts.length) (h : RdK R g c ts k w) (hb : RpBox B R w) :
    Calls Tryd.prog 131 #[.pointer (some ⟨B, 0, none⟩)] w (Told R g c ts (fun _ (n : Int × Int) u => u = .agg #[.int .u8 1, .int .i64 n.1, .int .i64 n.2, .int .i64 0]) (ofOneP ts k) w) := by
  have hgl : g < w.heap.size := by obtain ⟨-, ⟨base, h2⟩, -, -⟩ := h; exact tks_lt h2
  have hRl := h.lt
  have hg0 := World.grownBy_alloc w (.cells #[.int .u8 0, .int .i64 0, .int .i64 0, .int .i64 0] 46) none
  have hgR := World.grownBy_alloc w (.cells #[.int .u8 0, .int .i64 0, .int .i64 0, .int .i64 0] 46) (some R)
  have hR0 := h.kept hg0
  have hA := World.alloc_heap_new w (.cells #[.int .u8 0, .int .i64 0, .int .i64 0, .int .i64 0] 46)
  have hB0 : RpBox B R (w.alloc (.cells #[.int .u8 0, .int .i64 0, .int .i64 0, .int .i64 0] 46)) := (hg0.block _ (Array.getElem?_eq_some_iff.1 hb).1 (by simp)).trans hb
  have b0 := hB0.cell
  obtain ⟨RES, hRES⟩ : ∃ r, ofOneP ts k = r := ⟨_, rfl⟩
  have hM := Lib.hid (ofOne_P 1 (w.alloc (.cells #[.int .u8 0, .int .i64 0, .int .i64 0, .int .i64 0] 46)) hE hk hR0)
  rw [hRES] at hM ⊢
  clear hRES
  go_enter Tryd.func131, Tryd.ntmps131
  go_wp2_with fail
  (with_reducible refine hM.out.mono ?_)
  rintro e w1 ⟨hg1, hT⟩
  obtain ⟨S, hS⟩ : ∃ S, w.heap.size = S := ⟨_, rfl⟩
  rw [hS] at hgl hRl hA ⊢
  have n1 : S ≠ R := by omega
  have n3 : S ≠ g := by omega
  have s0 : w.heap.size ≤ S := by omega
  replace hgR := grown_more hgR hg1
  replace hA := box_kept hA hg1 n1
  replace hS := Lib.hid hS
  clear hM b0 hB0 hb
  cases RES with
  | error j' =>
    obtain ⟨x, hx, rfl⟩ := hT
    replace hx := Lib.hid hx
    go_wp2_with fail
    exact ⟨rfl, hgR, x, hx.out, rfl⟩
  | ok y =>
  obtain ⟨⟨nv, sv⟩, k1⟩ := y
  obtain ⟨⟨u, rfl, rfl⟩, hR1, hk1⟩ := hT
  have a0 := hA
  have c0 : (w1).cell? ⟨S, 0, none⟩ = some (.int .u8 0) := by simp [World.cell?, a0]
  have f0 : (w1).frozen? ⟨S, 0, none⟩ = false := by simp [World.frozen?, a0]
  have a1 := box_set a0 0 (.int .u8 1)
  simp only [List.setIfInBounds_toArray, List.set_cons_zero, List.set_cons_succ] at a1
  have c1 : ((w1).setCell ⟨S, 0, none⟩ (.int .u8 1)).cell? ⟨S, 1, none⟩ = some (.int .i64 0) := by simp [World.cell?, a1]
  have f1 : ((w1).setCell ⟨S, 0, none⟩ (.int .u8 1)).frozen? ⟨S, 1, none⟩ = false := by simp [World.frozen?, a1]
  have a2 := box_set a1 1 (.int .i64 nv)
  simp only [List.setIfInBounds_toArray, List.set_cons_zero, List.set_cons_succ] at a2
  have c2 : (((w1).setCell ⟨S, 0, none⟩ (.int .u8 1)).setCell ⟨S, 1, none⟩ (.int .i64 nv)).cell? ⟨S, 2, none⟩ = some (.int .i64 0) := by simp [World.cell?, a2]
  have f2 : (((w1).setCell ⟨S, 0, none⟩ (.int .u8 1)).setCell ⟨S, 1, none⟩ (.int .i64 nv)).frozen? ⟨S, 2, none⟩ = false := by simp [World.frozen?, a2]
  have a3 := box_set a2 2 (.int .i64 sv)
  simp only [List.setIfInBounds_toArray, List.set_cons_zero, List.set_cons_succ] at a3
  have c3 : ((((w1).setCell ⟨S, 0, none⟩ (.int .u8 1)).setCell ⟨S, 1, none⟩ (.int .i64 nv)).setCell ⟨S, 2, none⟩ (.int .i64 sv)).cell? ⟨S, 3, none⟩ = some (.int .i64 0) := by simp [World.cell?, a3]
  have f3 : ((((w1).setCell ⟨S, 0, none⟩ (.int .u8 1)).setCell ⟨S, 1, none⟩ (.int .i64 nv)).setCell ⟨S, 2, none⟩ (.int .i64 sv)).frozen? ⟨S, 3, none⟩ = false := by simp [World.frozen?, a3]
  have a4 := box_set a3 3 (.int .i64 0)
  simp only [List.setIfInBounds_toArray, List.set_cons_zero, List.set_cons_succ] at a4
  have hgZ := grown_set (o := 3) (v := .int .i64 0) (grown_set (o := 2) (v := .int .i64 sv) (grown_set (o := 1) (v := .int .i64 nv) (grown_set (o := 0) (v := .int .u8 1) hgR s0) s0) s0) s0
  have hRZ := (((hR1.far (o := 0) (v := .int .u8 1) n1 n3).far (o := 1) (v := .int .i64 nv) n1 n3).far (o := 2) (v := .int .i64 sv) n1 n3).far (o := 3) (v := .int .i64 0) n1 n3
  replace hgZ := Lib.hid hgZ
  replace hRZ := Lib.hid hRZ
  clear hA hgR hR1 a0 a1 a2 a3
  go_wp2_with fail
  exact bodyPost_ret (v := .agg #[.int .u8 1, .int .i64 nv, .int .i64 sv, .int .i64 0]) (results_cell_row rfl _ _ S 46 _ (0, 0) _ rfl a4 Tryd.underlying46 rfl (by kernel_rfl)) rfl ⟨hgZ.out, ⟨_, rfl, rfl⟩, hRZ.out, hk1⟩
set_option maxRecDepth 100000 in
set_option maxHeartbeats 1000000 in
theorem rest81_P {R g c k B : Nat} {ts : List (Tk × Nat)} (w : World) (hE : EndsT ts) (hk : k < ts.length) (h : RdK R g c ts k w) (hb : RpBox B R w) :
    Calls Tryd.prog 133 #[.pointer (some ⟨B, 0, none⟩)] w (Told R g c ts (fun _ (n : Int × Int) u => u = .agg #[.int .u8 2, .int .i64 n.1, .int .i64 n.2, .int .i64 0]) (ofOneP ts k) w) := by
  have hgl : g < w.heap.size := by obtain ⟨-, ⟨base, h2⟩, -, -⟩ := h; exact tks_lt h2
  have hRl := h.lt
  have hg0 := World.grownBy_alloc w (.cells #[.int .u8 0, .int .i64 0, .int .i64 0, .int .i64 0] 46) none
  have hgR := World.grownBy_alloc w (.cells #[.int .u8 0, .int .i64 0, .int .i64 0, .int .i64 0] 46) (some R)
  have hR0 := h.kept hg0
  have hA := World.alloc_heap_new w (.cells #[.int .u8 0, .int .i64 0, .int .i64 0, .int .i64 0] 46)
  have hB0 : RpBox B R (w.alloc (.cells #[.int .u8 0, .int .i64 0, .int .i64 0, .int .i64 0] 46)) := (hg0.block _ (Array.getElem?_eq_some_iff.1 hb).1 (by simp)).trans hb
  have b0 := hB0.cell
  obtain ⟨RES, hRES⟩ : ∃ r, ofOneP ts k = r := ⟨_, rfl⟩
  have hM := Lib.hid (ofOne_P 2 (w.alloc (.cells #[.int .u8 0, .int .i64 0, .int .i64 0, .int .i64 0] 46)) hE hk hR0)
  rw [hRES] at hM ⊢
  clear hRES
  go_enter Tryd.func133, Tryd.ntmps133
  go_wp2_with fail
  (with_reducible refine hM.out.mono ?_)
  rintro e w1 ⟨hg1, hT⟩
  obtain ⟨S, hS⟩ : ∃ S, w.heap.size = S := ⟨_, rfl⟩
  rw [hS] at hgl hRl hA ⊢
  have n1 : S ≠ R := by omega
  have n3 : S ≠ g := by omega
  have s0 : w.heap.size ≤ S := by omega
  replace hgR := grown_more hgR hg1
  replace hA := box_kept hA hg1 n1
  replace hS := Lib.hid hS
  clear hM b0 hB0 hb
  cases RES with
  | error j' =>
    obtain ⟨x, hx, rfl⟩ := hT
    replace hx := Lib.hid hx
    go_wp2_with fail
    exact ⟨rfl, hgR, x, hx.out, rfl⟩
  | ok y =>
  obtain ⟨⟨nv, sv⟩, k1⟩ := y
  obtain ⟨⟨u, rfl, rfl⟩, hR1, hk1⟩ := hT
  have a0 := hA
  have c0 : (w1).cell? ⟨S, 0, none⟩ = some (.int .u8 0) := by simp [World.cell?, a0]
  have f0 : (w1).frozen? ⟨S, 0, none⟩ = false := by simp [World.frozen?, a0]
  have a1 := box_set a0 0 (.int .u8 2)
  simp only [List.setIfInBounds_toArray, List.set_cons_zero, List.set_cons_succ] at a1
  have c1 : ((w1).setCell ⟨S, 0, none⟩ (.int .u8 2)).cell? ⟨S, 1, none⟩ = some (.int .i64 0) := by simp [World.cell?, a1]
  have f1 : ((w1).setCell ⟨S, 0, none⟩ (.int .u8 2)).frozen? ⟨S, 1, none⟩ = false := by simp [World.frozen?, a1]
  have a2 := box_set a1 1 (.int .i64 nv)
  simp only [List.setIfInBounds_toArray, List.set_cons_zero, List.set_cons_succ] at a2
  have c2 : (((w1).setCell ⟨S, 0, none⟩ (.int .u8 2)).setCell ⟨S, 1, none⟩ (.int .i64 nv)).cell? ⟨S, 2, none⟩ = some (.int .i64 0) := by simp [World.cell?, a2]
  have f2 : (((w1).setCell ⟨S, 0, none⟩ (.int .u8 2)).setCell ⟨S, 1, none⟩ (.int .i64 nv)).frozen? ⟨S, 2, none⟩ = false := by simp [World.frozen?, a2]
  have a3 := box_set a2 2 (.int .i64 sv)
  simp only [List.setIfInBounds_toArray, List.set_cons_zero, List.set_cons_succ] at a3
  have c3 : ((((w1).setCell ⟨S, 0, none⟩ (.int .u8 2)).setCell ⟨S, 1, none⟩ (.int .i64 nv)).setCell ⟨S, 2, none⟩ (.int .i64 sv)).cell? ⟨S, 3, none⟩ = some (.int .i64 0) := by simp [World.cell?, a3]
  have f3 : ((((w1).setCell ⟨S, 0, none⟩ (.int .u8 2)).setCell ⟨S, 1, none⟩ (.int .i64 nv)).setCell ⟨S, 2, none⟩ (.int .i64 sv)).frozen? ⟨S, 3, none⟩ = false := by simp [World.frozen?, a3]
  have a4 := box_set a3 3 (.int .i64 0)
  simp only [List.setIfInBounds_toArray, List.set_cons_zero, List.set_cons_succ] at a4
  have hgZ := grown_set (o := 3) (v := .int .i64 0) (grown_set (o := 2) (v := .int .i64 sv) (grown_set (o := 1) (v := .int .i64 nv) (grown_set (o := 0) (v := .int .u8 2) hgR s0) s0) s0) s0
  have hRZ := (((hR1.far (o := 0) (v := .int .u8 2) n1 n3).far (o := 1) (v := .int .i64 nv) n1 n3).far (o := 2) (v := .int .i64 sv) n1 n3).far (o := 3) (v := .int .i64 0) n1 n3
  replace hgZ := Lib.hid hgZ
  replace hRZ := Lib.hid hRZ
  clear hA hgR hR1 a0 a1 a2 a3
  go_wp2_with fail
  exact bodyPost_ret (v := .agg #[.int .u8 2, .int .i64 nv, .int .i64 sv, .int .i64 0]) (results_cell_row rfl _ _ S 46 _ (0, 0) _ rfl a4 Tryd.underlying46 rfl (by kernel_rfl)) rfl ⟨hgZ.out, ⟨_, rfl, rfl⟩, hRZ.out, hk1⟩
set_option maxRecDepth 100000 in
set_option maxHeartbeats 1000000 in
theorem rest82_P {R g c k B : Nat} {ts : List (Tk × Nat)} (w : World) (hE : EndsT ts) (hk : k < ts.length) (h : RdK R g c ts k w) (hb : RpBox B R w) :
    Calls Tryd.prog 134 #[.pointer (some ⟨B, 0, none⟩)] w (Told R g c ts (fun _ (n : Int × Int) u => u = .agg #[.int .u8 3, .int .i64 n.1, .int .i64 n.2, .int .i64 0]) (ofOneP ts k) w) := by
  have hgl : g < w.heap.size := by obtain ⟨-, ⟨base, h2⟩, -, -⟩ := h; exact tks_lt h2
  have hRl := h.lt
  have hg0 := World.grownBy_alloc w (.cells #[.int .u8 0, .int .i64 0, .int .i64 0, .int .i64 0] 46) none
  have hgR := World.grownBy_alloc w (.cells #[.int .u8 0, .int .i64 0, .int .i64 0, .int .i64 0] 46) (some R)
  have hR0 := h.kept hg0
  have hA := World.alloc_heap_new w (.cells #[.int .u8 0, .int .i64 0, .int .i64 0, .int .i64 0] 46)
  have hB0 : RpBox B R (w.alloc (.cells #[.int .u8 0, .int .i64 0, .int .i64 0, .int .i64 0] 46)) := (hg0.block _ (Array.getElem?_eq_some_iff.1 hb).1 (by simp)).trans hb
  have b0 := hB0.cell
  obtain ⟨RES, hRES⟩ : ∃ r, ofOneP ts k = r := ⟨_, rfl⟩
  have hM := Lib.hid (ofOne_P 3 (w.alloc (.cells #[.int .u8 0, .int .i64 0, .int .i64 0, .int .i64 0] 46)) hE hk hR0)
  rw [hRES] at hM ⊢
  clear hRES
  go_enter Tryd.func134, Tryd.ntmps134
  go_wp2_with fail
  (with_reducible refine hM.out.mono ?_)
  rintro e w1 ⟨hg1, hT⟩
  obtain ⟨S, hS⟩ : ∃ S, w.heap.size = S := ⟨_, rfl⟩
  rw [hS] at hgl hRl hA ⊢
  have n1 : S ≠ R := by omega
  have n3 : S ≠ g := by omega
  have s0 : w.heap.size ≤ S := by omega
  replace hgR := grown_more hgR hg1
  replace hA := box_kept hA hg1 n1
  replace hS := Lib.hid hS
  clear hM b0 hB0 hb
  cases RES with
  | error j' =>
    obtain ⟨x, hx, rfl⟩ := hT
    replace hx := Lib.hid hx
    go_wp2_with fail
    exact ⟨rfl, hgR, x, hx.out, rfl⟩
  | ok y =>
  obtain ⟨⟨nv, sv⟩, k1⟩ := y
  obtain ⟨⟨u, rfl, rfl⟩, hR1, hk1⟩ := hT
  have a0 := hA
  have c0 : (w1).cell? ⟨S, 0, none⟩ = some (.int .u8 0) := by simp [World.cell?, a0]
  have f0 : (w1).frozen? ⟨S, 0, none⟩ = false := by simp [World.frozen?, a0]
  have a1 := box_set a0 0 (.int .u8 3)
  simp only [List.setIfInBounds_toArray, List.set_cons_zero, List.set_cons_succ] at a1
  have c1 : ((w1).setCell ⟨S, 0, none⟩ (.int .u8 3)).cell? ⟨S, 1, none⟩ = some (.int .i64 0) := by simp [World.cell?, a1]
  have f1 : ((w1).setCell ⟨S, 0, none⟩ (.int .u8 3)).frozen? ⟨S, 1, none⟩ = false := by simp [World.frozen?, a1]
  have a2 := box_set a1 1 (.int .i64 nv)
  simp only [List.setIfInBounds_toArray, List.set_cons_zero, List.set_cons_succ] at a2
  have c2 : (((w1).setCell ⟨S, 0, none⟩ (.int .u8 3)).setCell ⟨S, 1, none⟩ (.int .i64 nv)).cell? ⟨S, 2, none⟩ = some (.int .i64 0) := by simp [World.cell?, a2]
  have f2 : (((w1).setCell ⟨S, 0, none⟩ (.int .u8 3)).setCell ⟨S, 1, none⟩ (.int .i64 nv)).frozen? ⟨S, 2, none⟩ = false := by simp [World.frozen?, a2]
  have a3 := box_set a2 2 (.int .i64 sv)
  simp only [List.setIfInBounds_toArray, List.set_cons_zero, List.set_cons_succ] at a3
  have c3 : ((((w1).setCell ⟨S, 0, none⟩ (.int .u8 3)).setCell ⟨S, 1, none⟩ (.int .i64 nv)).setCell ⟨S, 2, none⟩ (.int .i64 sv)).cell? ⟨S, 3, none⟩ = some (.int .i64 0) := by simp [World.cell?, a3]
  have f3 : ((((w1).setCell ⟨S, 0, none⟩ (.int .u8 3)).setCell ⟨S, 1, none⟩ (.int .i64 nv)).setCell ⟨S, 2, none⟩ (.int .i64 sv)).frozen? ⟨S, 3, none⟩ = false := by simp [World.frozen?, a3]
  have a4 := box_set a3 3 (.int .i64 0)
  simp only [List.setIfInBounds_toArray, List.set_cons_zero, List.set_cons_succ] at a4
  have hgZ := grown_set (o := 3) (v := .int .i64 0) (grown_set (o := 2) (v := .int .i64 sv) (grown_set (o := 1) (v := .int .i64 nv) (grown_set (o := 0) (v := .int .u8 3) hgR s0) s0) s0) s0
  have hRZ := (((hR1.far (o := 0) (v := .int .u8 3) n1 n3).far (o := 1) (v := .int .i64 nv) n1 n3).far (o := 2) (v := .int .i64 sv) n1 n3).far (o := 3) (v := .int .i64 0) n1 n3
  replace hgZ := Lib.hid hgZ
  replace hRZ := Lib.hid hRZ
  clear hA hgR hR1 a0 a1 a2 a3
  go_wp2_with fail
  exact bodyPost_ret (v := .agg #[.int .u8 3, .int .i64 nv, .int .i64 sv, .int .i64 0]) (results_cell_row rfl _ _ S 46 _ (0, 0) _ rfl a4 Tryd.underlying46 rfl (by kernel_rfl)) rfl ⟨hgZ.out, ⟨_, rfl, rfl⟩, hRZ.out, hk1⟩
set_option maxRecDepth 100000 in
set_option maxHeartbeats 1000000 in
theorem rest83_P {R g c k B : Nat} {ts : List (Tk × Nat)} (w : World) (hE : EndsT ts) (hk : k < ts.length) (h : RdK R g c ts k w) (hb : RpBox B R w) :
    Calls Tryd.prog 135 #[.pointer (some ⟨B, 0, none⟩)] w (Told R g c ts (fun _ (n : Int × Int) u => u = .agg #[.int .u8 4, .int .i64 n.1, .int .i64 n.2, .int .i64 0]) (ofOneP ts k) w) := by
  have hgl : g < w.heap.size := by obtain ⟨-, ⟨base, h2⟩, -, -⟩ := h; exact tks_lt h2
  have hRl := h.lt
  have hg0 := World.grownBy_alloc w (.cells #[.int .u8 0, .int .i64 0, .int .i64 0, .int .i64 0] 46) none
  have hgR := World.grownBy_alloc w (.cells #[.int .u8 0, .int .i64 0, .int .i64 0, .int .i64 0] 46) (some R)
  have hR0 := h.kept hg0
  have hA := World.alloc_heap_new w (.cells #[.int .u8 0, .int .i64 0, .int .i64 0, .int .i64 0] 46)
  have hB0 : RpBox B R (w.alloc (.cells #[.int .u8 0, .int .i64 0, .int .i64 0, .int .i64 0] 46)) := (hg0.block _ (Array.getElem?_eq_some_iff.1 hb).1 (by simp)).trans hb
  have b0 := hB0.cell
  obtain ⟨RES, hRES⟩ : ∃ r, ofOneP ts k = r := ⟨_, rfl⟩
  have hM := Lib.hid (ofOne_P 4 (w.alloc (.cells #[.int .u8 0, .int .i64 0, .int .i64 0, .int .i64 0] 46)) hE hk hR0)
  rw [hRES] at hM ⊢
  clear hRES
  go_enter Tryd.func135, Tryd.ntmps135
  go_wp2_with fail
  (with_reducible refine hM.out.mono ?_)
  rintro e w1 ⟨hg1, hT⟩
  obtain ⟨S, hS⟩ : ∃ S, w.heap.size = S := ⟨_, rfl⟩
  rw [hS] at hgl hRl hA ⊢
  have n1 : S ≠ R := by omega
  have n3 : S ≠ g := by omega
  have s0 : w.heap.size ≤ S := by omega
  replace hgR := grown_more hgR hg1
  replace hA := box_kept hA hg1 n1
  replace hS := Lib.hid hS
  clear hM b0 hB0 hb
  cases RES with
  | error j' =>
    obtain ⟨x, hx, rfl⟩ := hT
    replace hx := Lib.hid hx
    go_wp2_with fail
    exact ⟨rfl, hgR, x, hx.out, rfl⟩
  | ok y =>
  obtain ⟨⟨nv, sv⟩, k1⟩ := y
  obtain ⟨⟨u, rfl, rfl⟩, hR1, hk1⟩ := hT
  have a0 := hA
  have c0 : (w1).cell? ⟨S, 0, none⟩ = some (.int .u8 0) := by simp [World.cell?, a0]
  have f0 : (w1).frozen? ⟨S, 0, none⟩ = false := by simp [World.frozen?, a0]
  have a1 := box_set a0 0 (.int .u8 4)
  simp only [List.setIfInBounds_toArray, List.set_cons_zero, List.set_cons_succ] at a1
  have c1 : ((w1).setCell ⟨S, 0, none⟩ (.int .u8 4)).cell? ⟨S, 1, none⟩ = some (.int .i64 0) := by simp [World.cell?, a1]
  have f1 : ((w1).setCell ⟨S, 0, none⟩ (.int .u8 4)).frozen? ⟨S, 1, none⟩ = false := by simp [World.frozen?, a1]
  have a2 := box_set a1 1 (.int .i64 nv)
  simp only [List.setIfInBounds_toArray, List.set_cons_zero, List.set_cons_succ] at a2
  have c2 : (((w1).setCell ⟨S, 0, none⟩ (.int .u8 4)).setCell ⟨S, 1, none⟩ (.int .i64 nv)).cell? ⟨S, 2, none⟩ = some (.int .i64 0) := by simp [World.cell?, a2]
  have f2 : (((w1).setCell ⟨S, 0, none⟩ (.int .u8 4)).setCell ⟨S, 1, none⟩ (.int .i64 nv)).frozen? ⟨S, 2, none⟩ = false := by simp [World.frozen?, a2]
  have a3 := box_set a2 2 (.int .i64 sv)
  simp only [List.setIfInBounds_toArray, List.set_cons_zero, List.set_cons_succ] at a3
  have c3 : ((((w1).setCell ⟨S, 0, none⟩ (.int .u8 4)).setCell ⟨S, 1, none⟩ (.int .i64 nv)).setCell ⟨S, 2, none⟩ (.int .i64 sv)).cell? ⟨S, 3, none⟩ = some (.int .i64 0) := by simp [World.cell?, a3]
  have f3 : ((((w1).setCell ⟨S, 0, none⟩ (.int .u8 4)).setCell ⟨S, 1, none⟩ (.int .i64 nv)).setCell ⟨S, 2, none⟩ (.int .i64 sv)).frozen? ⟨S, 3, none⟩ = false := by simp [World.frozen?, a3]
  have a4 := box_set a3 3 (.int .i64 0)
  simp only [List.setIfInBounds_toArray, List.set_cons_zero, List.set_cons_succ] at a4
  have hgZ := grown_set (o := 3) (v := .int .i64 0) (grown_set (o := 2) (v := .int .i64 sv) (grown_set (o := 1) (v := .int .i64 nv) (grown_set (o := 0) (v := .int .u8 4) hgR s0) s0) s0) s0
  have hRZ := (((hR1.far (o := 0) (v := .int .u8 4) n1 n3).far (o := 1) (v := .int .i64 nv) n1 n3).far (o := 2) (v := .int .i64 sv) n1 n3).far (o := 3) (v := .int .i64 0) n1 n3
  replace hgZ := Lib.hid hgZ
  replace hRZ := Lib.hid hRZ
  clear hA hgR hR1 a0 a1 a2 a3
  go_wp2_with fail
  exact bodyPost_ret (v := .agg #[.int .u8 4, .int .i64 nv, .int .i64 sv, .int .i64 0]) (results_cell_row rfl _ _ S 46 _ (0, 0) _ rfl a4 Tryd.underlying46 rfl (by kernel_rfl)) rfl ⟨hgZ.out, ⟨_, rfl, rfl⟩, hRZ.out, hk1⟩
set_option maxRecDepth 100000 in
set_option maxHeartbeats 1000000 in
theorem rest84_P {R g c k B : Nat} {ts : List (Tk × Nat)} (w : World) (hE : EndsT ts) (hk : k < ts.length) (h : RdK R g c ts k w) (hb : RpBox B R w) :
    Calls Tryd.prog 136 #[.pointer (some ⟨B, 0, none⟩)] w (Told R g c ts (fun _ (n : Int × Int × Int) u => u = .agg #[.int .u8 5, .int .i64 n.1, .int .i64 n.2.1, .int .i64 n.2.2]) (ofTwoP ts k) w) := by
  have hgl : g < w.heap.size := by obtain ⟨-, ⟨base, h2⟩, -, -⟩ := h; exact tks_lt h2
  have hRl := h.lt
  have hg0 := World.grownBy_alloc w (.cells #[.int .u8 0, .int .i64 0, .int .i64 0, .int .i64 0] 46) none
  have hgR := World.grownBy_alloc w (.cells #[.int .u8 0, .int .i64 0, .int .i64 0, .int .i64 0] 46) (some R)
  have hR0 := h.kept hg0
  have hA := World.alloc_heap_new w (.cells #[.int .u8 0, .int .i64 0, .int .i64 0, .int .i64 0] 46)
  have hB0 : RpBox B R (w.alloc (.cells #[.int .u8 0, .int .i64 0, .int .i64 0, .int .i64 0] 46)) := (hg0.block _ (Array.getElem?_eq_some_iff.1 hb).1 (by simp)).trans hb
  have b0 := hB0.cell
  obtain ⟨RES, hRES⟩ : ∃ r, ofTwoP ts k = r := ⟨_, rfl⟩
  have hM := Lib.hid (ofTwo_P 5 (w.alloc (.cells #[.int .u8 0, .int .i64 0, .int .i64 0, .int .i64 0] 46)) hE hk hR0)
  rw [hRES] at hM ⊢
  clear hRES
  go_enter Tryd.func136, Tryd.ntmps136
  go_wp2_with fail
  (with_reducible refine hM.out.mono ?_)
  rintro e w1 ⟨hg1, hT⟩
  obtain ⟨S, hS⟩ : ∃ S, w.heap.size = S := ⟨_, rfl⟩
  rw [hS] at hgl hRl hA ⊢
  have n1 : S ≠ R := by omega
  have n3 : S ≠ g := by omega
  have s0 : w.heap.size ≤ S := by omega
  replace hgR := grown_more hgR hg1
  replace hA := box_kept hA hg1 n1
  replace hS := Lib.hid hS
  clear hM b0 hB0 hb
  cases RES with
  | error j' =>
    obtain ⟨x, hx, rfl⟩ := hT
    replace hx := Lib.hid hx
    go_wp2_with fail
    exact ⟨rfl, hgR, x, hx.out, rfl⟩
  | ok y =>
  obtain ⟨⟨nv, sv, rv⟩, k1⟩ := y
  obtain ⟨⟨u, rfl, rfl⟩, hR1, hk1⟩ := hT
  have a0 := hA
  have c0 : (w1).cell? ⟨S, 0, none⟩ = some (.int .u8 0) := by simp [World.cell?, a0]
  have f0 : (w1).frozen? ⟨S, 0, none⟩ = false := by simp [World.frozen?, a0]
  have a1 := box_set a0 0 (.int .u8 5)
  simp only [List.setIfInBounds_toArray, List.set_cons_zero, List.set_cons_succ] at a1
  have c1 : ((w1).setCell ⟨S, 0, none⟩ (.int .u8 5)).cell? ⟨S, 1, none⟩ = some (.int .i64 0) := by simp [World.cell?, a1]
  have f1 : ((w1).setCell ⟨S, 0, none⟩ (.int .u8 5)).frozen? ⟨S, 1, none⟩ = false := by simp [World.frozen?, a1]
  have a2 := box_set a1 1 (.int .i64 nv)
  simp only [List.setIfInBounds_toArray, List.set_cons_zero, List.set_cons_succ] at a2
  have c2 : (((w1).setCell ⟨S, 0, none⟩ (.int .u8 5)).setCell ⟨S, 1, none⟩ (.int .i64 nv)).cell? ⟨S, 2, none⟩ = some (.int .i64 0) := by simp [World.cell?, a2]
  have f2 : (((w1).setCell ⟨S, 0, none⟩ (.int .u8 5)).setCell ⟨S, 1, none⟩ (.int .i64 nv)).frozen? ⟨S, 2, none⟩ = false := by simp [World.frozen?, a2]
  have a3 := box_set a2 2 (.int .i64 sv)
  simp only [List.setIfInBounds_toArray, List.set_cons_zero, List.set_cons_succ] at a3
  have c3 : ((((w1).setCell ⟨S, 0, none⟩ (.int .u8 5)).setCell ⟨S, 1, none⟩ (.int .i64 nv)).setCell ⟨S, 2, none⟩ (.int .i64 sv)).cell? ⟨S, 3, none⟩ = some (.int .i64 0) := by simp [World.cell?, a3]
  have f3 : ((((w1).setCell ⟨S, 0, none⟩ (.int .u8 5)).setCell ⟨S, 1, none⟩ (.int .i64 nv)).setCell ⟨S, 2, none⟩ (.int .i64 sv)).frozen? ⟨S, 3, none⟩ = false := by simp [World.frozen?, a3]
  have a4 := box_set a3 3 (.int .i64 rv)
  simp only [List.setIfInBounds_toArray, List.set_cons_zero, List.set_cons_succ] at a4
  have hgZ := grown_set (o := 3) (v := .int .i64 rv) (grown_set (o := 2) (v := .int .i64 sv) (grown_set (o := 1) (v := .int .i64 nv) (grown_set (o := 0) (v := .int .u8 5) hgR s0) s0) s0) s0
  have hRZ := (((hR1.far (o := 0) (v := .int .u8 5) n1 n3).far (o := 1) (v := .int .i64 nv) n1 n3).far (o := 2) (v := .int .i64 sv) n1 n3).far (o := 3) (v := .int .i64 rv) n1 n3
  replace hgZ := Lib.hid hgZ
  replace hRZ := Lib.hid hRZ
  clear hA hgR hR1 a0 a1 a2 a3
  go_wp2_with fail
  exact bodyPost_ret (v := .agg #[.int .u8 5, .int .i64 nv, .int .i64 sv, .int .i64 rv]) (results_cell_row rfl _ _ S 46 _ (0, 0) _ rfl a4 Tryd.underlying46 rfl (by kernel_rfl)) rfl ⟨hgZ.out, ⟨_, rfl, rfl⟩, hRZ.out, hk1⟩
set_option maxRecDepth 100000 in
set_option maxHeartbeats 1000000 in
theorem rest86_P {R g c k B : Nat} {ts : List (Tk × Nat)} (w : World) (hE : EndsT ts) (hk : k < ts.length) (h : RdK R g c ts k w) (hb : RpBox B R w) :
    Calls Tryd.prog 138 #[.pointer (some ⟨B, 0, none⟩)] w (Told R g c ts (fun _ (n : Int × Int × Int) u => u = .agg #[.int .u8 6, .int .i64 n.1, .int .i64 n.2.1, .int .i64 n.2.2]) (ofTwoP ts k) w) := by
  have hgl : g < w.heap.size := by obtain ⟨-, ⟨base, h2⟩, -, -⟩ := h; exact tks_lt h2
  have hRl := h.lt
  have hg0 := World.grownBy_alloc w (.cells #[.int .u8 0, .int .i64 0, .int .i64 0, .int .i64 0] 46) none
  have hgR := World.grownBy_alloc w (.cells #[.int .u8 0, .int .i64 0, .int .i64 0, .int .i64 0] 46) (some R)
  have hR0 := h.kept hg0
  have hA := World.alloc_heap_new w (.cells #[.int .u8 0, .int .i64 0, .int .i64 0, .int .i64 0] 46)
  have hB0 : RpBox B R (w.alloc (.cells #[.int .u8 0, .int .i64 0, .int .i64 0, .int .i64 0] 46)) := (hg0.block _ (Array.getElem?_eq_some_iff.1 hb).1 (by simp)).trans hb
  have b0 := hB0.cell
  obtain ⟨RES, hRES⟩ : ∃ r, ofTwoP ts k = r := ⟨_, rfl⟩
  have hM := Lib.hid (ofTwo_P 6 (w.alloc (.cells #[.int .u8 0, .int .i64 0, .int .i64 0, .int .i64 0] 46)) hE hk hR0)
  rw [hRES] at hM ⊢
  clear hRES
  go_enter Tryd.func138, Tryd.ntmps138
  go_wp2_with fail
  (with_reducible refine hM.out.mono ?_)
  rintro e w1 ⟨hg1, hT⟩
  obtain ⟨S, hS⟩ : ∃ S, w.heap.size = S := ⟨_, rfl⟩
  rw [hS] at hgl hRl hA ⊢
  have n1 : S ≠ R := by omega
  have n3 : S ≠ g := by omega
  have s0 : w.heap.size ≤ S := by omega
  replace hgR := grown_more hgR hg1
  replace hA := box_kept hA hg1 n1
  replace hS := Lib.hid hS
  clear hM b0 hB0 hb
  cases RES with
  | error j' =>
    obtain ⟨x, hx, rfl⟩ := hT
    replace hx := Lib.hid hx
    go_wp2_with fail
    exact ⟨rfl, hgR, x, hx.out, rfl⟩
  | ok y =>
  obtain ⟨⟨nv, sv, rv⟩, k1⟩ := y
  obtain ⟨⟨u, rfl, rfl⟩, hR1, hk1⟩ := hT
  have a0 := hA
  have c0 : (w1).cell? ⟨S, 0, none⟩ = some (.int .u8 0) := by simp [World.cell?, a0]
  have f0 : (w1).frozen? ⟨S, 0, none⟩ = false := by simp [World.frozen?, a0]
  have a1 := box_set a0 0 (.int .u8 6)
  simp only [List.setIfInBounds_toArray, List.set_cons_zero, List.set_cons_succ] at a1
  have c1 : ((w1).setCell ⟨S, 0, none⟩ (.int .u8 6)).cell? ⟨S, 1, none⟩ = some (.int .i64 0) := by simp [World.cell?, a1]
  have f1 : ((w1).setCell ⟨S, 0, none⟩ (.int .u8 6)).frozen? ⟨S, 1, none⟩ = false := by simp [World.frozen?, a1]
  have a2 := box_set a1 1 (.int .i64 nv)
  simp only [List.setIfInBounds_toArray, List.set_cons_zero, List.set_cons_succ] at a2
  have c2 : (((w1).setCell ⟨S, 0, none⟩ (.int .u8 6)).setCell ⟨S, 1, none⟩ (.int .i64 nv)).cell? ⟨S, 2, none⟩ = some (.int .i64 0) := by simp [World.cell?, a2]
  have f2 : (((w1).setCell ⟨S, 0, none⟩ (.int .u8 6)).setCell ⟨S, 1, none⟩ (.int .i64 nv)).frozen? ⟨S, 2, none⟩ = false := by simp [World.frozen?, a2]
  have a3 := box_set a2 2 (.int .i64 sv)
  simp only [List.setIfInBounds_toArray, List.set_cons_zero, List.set_cons_succ] at a3
  have c3 : ((((w1).setCell ⟨S, 0, none⟩ (.int .u8 6)).setCell ⟨S, 1, none⟩ (.int .i64 nv)).setCell ⟨S, 2, none⟩ (.int .i64 sv)).cell? ⟨S, 3, none⟩ = some (.int .i64 0) := by simp [World.cell?, a3]
  have f3 : ((((w1).setCell ⟨S, 0, none⟩ (.int .u8 6)).setCell ⟨S, 1, none⟩ (.int .i64 nv)).setCell ⟨S, 2, none⟩ (.int .i64 sv)).frozen? ⟨S, 3, none⟩ = false := by simp [World.frozen?, a3]
  have a4 := box_set a3 3 (.int .i64 rv)
  simp only [List.setIfInBounds_toArray, List.set_cons_zero, List.set_cons_succ] at a4
  have hgZ := grown_set (o := 3) (v := .int .i64 rv) (grown_set (o := 2) (v := .int .i64 sv) (grown_set (o := 1) (v := .int .i64 nv) (grown_set (o := 0) (v := .int .u8 6) hgR s0) s0) s0) s0
  have hRZ := (((hR1.far (o := 0) (v := .int .u8 6) n1 n3).far (o := 1) (v := .int .i64 nv) n1 n3).far (o := 2) (v := .int .i64 sv) n1 n3).far (o := 3) (v := .int .i64 rv) n1 n3
  replace hgZ := Lib.hid hgZ
  replace hRZ := Lib.hid hRZ
  clear hA hgR hR1 a0 a1 a2 a3
  go_wp2_with fail
  exact bodyPost_ret (v := .agg #[.int .u8 6, .int .i64 nv, .int .i64 sv, .int .i64 rv]) (results_cell_row rfl _ _ S 46 _ (0, 0) _ rfl a4 Tryd.underlying46 rfl (by kernel_rfl)) rfl ⟨hgZ.out, ⟨_, rfl, rfl⟩, hRZ.out, hk1⟩
end Go.Proofs.YtkedifhlkiffoaaDoor
