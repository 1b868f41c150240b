/-
  Contracts of the reader's ofOne, ofTwo.
-/
import Derived.Test.YtkedifhlkiffoaaDoorPB
namespace Go.Proofs.YtkedifhlkiffoaaDoor
open Go.ChangeShapes Go.WideShapes Go.ChangeAt Go.RowKit
set_option linter.unusedVariables false
set_option linter.unusedSimpArgs false
attribute [local go_sem] Oper.semAt_some
theorem grown_set {W X : World} {R b o : Nat} {v : Value} (h : W.grownBy X (some R)) (hb : W.heap.size ≤ b) : W.grownBy (X.setCell ⟨b, o, none⟩ v) (some R) :=
  ⟨h.os, h.tape, h.output, Nat.le_trans h.size (KeepsWalks.setCell X _ v).size, fun k hk hne => (Below.heap_setCell _ _ _ k (by show k ≠ b; omega)).trans (h.block k hk hne)⟩
theorem box_kept {X Y : World} {R p : Nat} {cs : Array Value} {t : TypeId} (h : X.heap[p]? = some (.cells cs t (0, 0))) (hg : X.grownBy Y (some R)) (hne : p ≠ R) : Y.heap[p]? = some (.cells cs t (0, 0)) :=
  (hg.block p (Array.getElem?_eq_some_iff.1 h).1 (fun e => hne (Option.some.inj e))).trans h
theorem box_set {X : World} {p : Nat} {cs : Array Value} {t : TypeId} (h : X.heap[p]? = some (.cells cs t (0, 0))) (j : Nat) (v : Value) : (X.setCell ⟨p, j, none⟩ v).heap[p]? = some (.cells (cs.setIfInBounds j v) t (0, 0)) := by
  obtain ⟨hlt, hk⟩ := Array.getElem?_eq_some_iff.1 h
  show (X.heap.modify p _)[p]? = _
  rw [Array.getElem?_eq_getElem (by rw [Array.size_modify]; exact hlt), Array.getElem_modify_self, hk]
  rfl
theorem RdK.lt {R g c k : Nat} {ts : List (Tk × Nat)} {W : World} (h : RdK R g c ts k W) : R < W.heap.size := by
  obtain ⟨⟨a, h1, -⟩, -⟩ := h; exact (Array.getElem?_eq_some_iff.1 h1).1
theorem RdK.far {R g c k b o : Nat} {ts : List (Tk × Nat)} {W : World} {v : Value} (h : RdK R g c ts k W) (h1 : b ≠ R) (h2 : b ≠ g) : RdK R g c ts k (W.setCell ⟨b, o, none⟩ v) := by
  obtain ⟨⟨a, q1, q0⟩, ⟨base, q2⟩, h3, h4⟩ := h
  refine ⟨⟨a, (Below.heap_setCell _ _ _ R (fun e => h1 e.symm)).trans q1, q0⟩, ⟨base, ?_⟩, h3, h4⟩
  exact World.ownsRow.kept q2 (set_grown W b o v) (.inr fun e => h2 (by simpa [Value.ownBlock] using e.symm))
def ofOneP (ts : List (Tk × Nat)) (k : Nat) : Except Nat ((Int × Int) × Nat) :=
  match mustP ts 5 40 k with
  | .error j => .error j
  | .ok (_, k) =>
    match oneP ts 2 k with
    | .error j => .error j
    | .ok (sv, k) =>
      match mustP ts 5 41 k with
      | .error j => .error j
      | .ok (_, k) =>
        match moreP ts k with
        | .error j => .error j
        | .ok (nv, k) =>
          .ok ((nv, sv), k)
set_option maxRecDepth 100000 in
set_option maxHeartbeats 1000000 in
theorem ofOne_P {R g c k : Nat} {ts : List (Tk × Nat)} (kd : Int) (w : World) (hE : EndsT ts) (hk : k < ts.length) (h : RdK R g c ts k w) :
    Calls Tryd.prog 132 #[.pointer (some ⟨R, 0, none⟩), .int .u8 kd] w (Told R g c ts (fun _ (n : (Int × Int)) u => u = .agg #[.int .u8 kd, .int .i64 n.1, .int .i64 n.2, .int .i64 0]) (ofOneP ts k) w) := by
  have hgl : g < w.heap.size := by obtain ⟨-, ⟨base, h2⟩, -, -⟩ := h; exact tks_lt h2
  have hRl := h.lt
  have hg0 : w.grownBy ((w.alloc (.cells #[.int .u8 0, .int .i64 0, .int .i64 0, .int .i64 0] 46)).alloc (.cells #[.int .u8 kd, .int .i64 0, .int .i64 0, .int .i64 0] 46)) none := (World.grownBy_alloc w _ none).trans (World.grownBy_alloc _ _ none)
  have hgR : w.grownBy ((w.alloc (.cells #[.int .u8 0, .int .i64 0, .int .i64 0, .int .i64 0] 46)).alloc (.cells #[.int .u8 kd, .int .i64 0, .int .i64 0, .int .i64 0] 46)) (some R) := (World.grownBy_alloc w _ (some R)).trans (World.grownBy_alloc _ _ (some R))
  have hR0 := h.kept hg0
  have hA : ((w.alloc (.cells #[.int .u8 0, .int .i64 0, .int .i64 0, .int .i64 0] 46)).alloc (.cells #[.int .u8 kd, .int .i64 0, .int .i64 0, .int .i64 0] 46)).heap[w.heap.size]? = some (.cells #[.int .u8 0, .int .i64 0, .int .i64 0, .int .i64 0] 46 (0, 0)) :=
    ((World.grownBy_alloc _ _ none).block _ (by simp) (by simp)).trans (World.alloc_heap_new w _)
  have hB : ((w.alloc (.cells #[.int .u8 0, .int .i64 0, .int .i64 0, .int .i64 0] 46)).alloc (.cells #[.int .u8 kd, .int .i64 0, .int .i64 0, .int .i64 0] 46)).heap[w.heap.size + 1]? = some (.cells #[.int .u8 kd, .int .i64 0, .int .i64 0, .int .i64 0] 46 (0, 0)) := by
    have := World.alloc_heap_new (w.alloc (.cells #[.int .u8 0, .int .i64 0, .int .i64 0, .int .i64 0] 46)) (.cells #[.int .u8 kd, .int .i64 0, .int .i64 0, .int .i64 0] 46)
    rwa [World.size_alloc] at this
  obtain ⟨RES, hRES⟩ : ∃ r, ofOneP ts k = r := ⟨_, rfl⟩
  rw [hRES]
  replace hRES := Lib.hid hRES
  go_enter Tryd.func132, Tryd.ntmps132
  go_wp2_with fail
  generalize (w.alloc (.cells #[.int .u8 0, .int .i64 0, .int .i64 0, .int .i64 0] 46)).alloc (.cells #[.int .u8 kd, .int .i64 0, .int .i64 0, .int .i64 0] 46) = W0 at *
  obtain ⟨S, hS⟩ : ∃ S, w.heap.size = S := ⟨_, rfl⟩
  rw [hS] at hgl hRl hA hB ⊢
  have n1 : S ≠ R := by omega
  have n2 : S + 1 ≠ R := by omega
  have n3 : S ≠ g := by omega
  have n4 : S + 1 ≠ g := by omega
  have s1 : w.heap.size ≤ S + 1 := by omega
  have s0 : w.heap.size ≤ S := by omega
  replace hE := Lib.hid hE
  replace hS := Lib.hid hS
  clear hg0 h
  (with_reducible refine (must_P 5 40 W0 hE.out hk (by decide) hR0).mono ?_)
  rintro e w1 ⟨hg1, hT⟩
  cases hr1 : mustP ts 5 40 k with
  | error j' =>
    simp only [hr1] at hT
    obtain ⟨x, hx, rfl⟩ := hT
    replace hx := Lib.hid hx
    replace hr1 := Lib.hid hr1
    obtain rfl : RES = .error j' := by rw [← hRES.out]; unfold ofOneP; simp only [hr1.out]
    clear hr1
    go_wp2_with fail
    exact ⟨rfl, grown_more hgR hg1, x, hx.out, rfl⟩
  | ok y =>
  obtain ⟨uu1, k1⟩ := y
  rw [hr1] at hT
  obtain ⟨⟨u, rfl, rfl⟩, hR1, hk1⟩ := hT
  replace hr1 := Lib.hid hr1
  replace hgR := grown_more hgR hg1
  replace hA := box_kept hA hg1 n1
  replace hB := box_kept hB hg1 n2
  clear hR0 hg1
  go_wp2_with fail
  (with_reducible refine (one_P 2 w1 hE.out hk1 (by decide) hR1).mono ?_)
  rintro e w2 ⟨hg2, hT⟩
  cases hr2 : oneP ts 2 k1 with
  | error j' =>
    simp only [hr2] at hT
    obtain ⟨x, hx, rfl⟩ := hT
    replace hx := Lib.hid hx
    replace hr2 := Lib.hid hr2
    obtain rfl : RES = .error j' := by rw [← hRES.out]; unfold ofOneP; simp only [hr1.out]; simp only [hr2.out]
    clear hr2
    go_wp2_with fail
    exact ⟨rfl, grown_more hgR hg2, x, hx.out, rfl⟩
  | ok y =>
  obtain ⟨sv, k2⟩ := y
  rw [hr2] at hT
  obtain ⟨⟨u, rfl, rfl⟩, hR2, hk2⟩ := hT
  replace hr2 := Lib.hid hr2
  replace hgR := grown_set (o := 2) (v := .int .i64 sv) (grown_more hgR hg2) s1
  replace hA := box_kept hA hg2 n1
  replace hB := box_kept hB hg2 n2
  have q1 : w2.cell? ⟨S + 1, 2, none⟩ = some (.int .i64 0) := by simp [World.cell?, hB]
  have q2 : w2.frozen? ⟨S + 1, 2, none⟩ = false := by simp [World.frozen?, hB]
  replace hA := (Below.heap_setCell w2 ⟨S + 1, 2, none⟩ (.int .i64 sv) S (by show S ≠ S + 1; omega)).trans hA
  replace hB := box_set hB 2 (.int .i64 sv)
  replace hR2 := hR2.far (o := 2) (v := .int .i64 sv) n2 n4
  clear hR1 hg2
  go_wp2_with fail
  clear q1 q2
  generalize w2.setCell ⟨S + 1, 2, none⟩ (.int .i64 sv) = w2 at *
  (with_reducible refine (must_P 5 41 w2 hE.out hk2 (by decide) hR2).mono ?_)
  rintro e w3 ⟨hg3, hT⟩
  cases hr3 : mustP ts 5 41 k2 with
  | error j' =>
    simp only [hr3] at hT
    obtain ⟨x, hx, rfl⟩ := hT
    replace hx := Lib.hid hx
    replace hr3 := Lib.hid hr3
    obtain rfl : RES = .error j' := by rw [← hRES.out]; unfold ofOneP; simp only [hr1.out]; simp only [hr2.out]; simp only [hr3.out]
    clear hr3
    go_wp2_with fail
    exact ⟨rfl, grown_more hgR hg3, x, hx.out, rfl⟩
  | ok y =>
  obtain ⟨uu3, k3⟩ := y
  rw [hr3] at hT
  obtain ⟨⟨u, rfl, rfl⟩, hR3, hk3⟩ := hT
  replace hr3 := Lib.hid hr3
  replace hgR := grown_more hgR hg3
  replace hA := box_kept hA hg3 n1
  replace hB := box_kept hB hg3 n2
  clear hR2 hg3
  go_wp2_with fail
  (with_reducible refine (more_P w3 hE.out hk3 hR3).mono ?_)
  rintro e w4 ⟨hg4, hT⟩
  cases hr4 : moreP ts k3 with
  | error j' =>
    simp only [hr4] at hT
    obtain ⟨x, hx, rfl⟩ := hT
    replace hx := Lib.hid hx
    replace hr4 := Lib.hid hr4
    obtain rfl : RES = .error j' := by rw [← hRES.out]; unfold ofOneP; simp only [hr1.out]; simp only [hr2.out]; simp only [hr3.out]; simp only [hr4.out]
    clear hr4
    go_wp2_with fail
    exact ⟨rfl, grown_more hgR hg4, x, hx.out, rfl⟩
  | ok y =>
  obtain ⟨nv, k4⟩ := y
  rw [hr4] at hT
  obtain ⟨⟨u, rfl, rfl⟩, hR4, hk4⟩ := hT
  replace hr4 := Lib.hid hr4
  replace hgR := grown_set (o := 1) (v := .int .i64 nv) (grown_more hgR hg4) s1
  replace hA := box_kept hA hg4 n1
  replace hB := box_kept hB hg4 n2
  have q1 : w4.cell? ⟨S + 1, 1, none⟩ = some (.int .i64 0) := by simp [World.cell?, hB]
  have q2 : w4.frozen? ⟨S + 1, 1, none⟩ = false := by simp [World.frozen?, hB]
  replace hA := (Below.heap_setCell w4 ⟨S + 1, 1, none⟩ (.int .i64 nv) S (by show S ≠ S + 1; omega)).trans hA
  replace hB := box_set hB 1 (.int .i64 nv)
  replace hR4 := hR4.far (o := 1) (v := .int .i64 nv) n2 n4
  clear hR3 hg4
  obtain rfl : RES = .ok ((nv, sv), k4) := by rw [← hRES.out]; unfold ofOneP; simp only [hr1.out]; simp only [hr2.out]; simp only [hr3.out]; simp only [hr4.out]
  obtain ⟨G, hG⟩ : ∃ G, (w4.setCell ⟨S + 1, 1, none⟩ (.int .i64 nv)) = G := ⟨_, rfl⟩
  rw [hG] at hA hB hgR hR4
  simp only [List.setIfInBounds_toArray, List.set_cons_zero, List.set_cons_succ] at hB
  have y0 : G.cell? ⟨S + 1, 0, none⟩ = some (.int .u8 kd) := by simp [World.cell?, hB]
  have y1 : G.cell? ⟨S + 1, 1, none⟩ = some (.int .i64 nv) := by simp [World.cell?, hB]
  have y2 : G.cell? ⟨S + 1, 2, none⟩ = some (.int .i64 sv) := by simp [World.cell?, hB]
  have y3 : G.cell? ⟨S + 1, 3, none⟩ = some (.int .i64 0) := by simp [World.cell?, hB]
  have a0 := hA
  have c0 : (G).cell? ⟨S, 0, none⟩ = some (.int .u8 0) := by simp [World.cell?, a0]
  have f0 : (G).frozen? ⟨S, 0, none⟩ = false := by simp [World.frozen?, a0]
  have a1 := box_set a0 0 (.int .u8 kd)
  simp only [List.setIfInBounds_toArray, List.set_cons_zero, List.set_cons_succ] at a1
  have c1 : (G.setCell ⟨S, 0, none⟩ (.int .u8 kd)).cell? ⟨S, 1, none⟩ = some (.int .i64 0) := by simp [World.cell?, a1]
  have f1 : (G.setCell ⟨S, 0, none⟩ (.int .u8 kd)).frozen? ⟨S, 1, none⟩ = false := by simp [World.frozen?, a1]
  have a2 := box_set a1 1 (.int .i64 nv)
  simp only [List.setIfInBounds_toArray, List.set_cons_zero, List.set_cons_succ] at a2
  have c2 : ((G.setCell ⟨S, 0, none⟩ (.int .u8 kd)).setCell ⟨S, 1, none⟩ (.int .i64 nv)).cell? ⟨S, 2, none⟩ = some (.int .i64 0) := by simp [World.cell?, a2]
  have f2 : ((G.setCell ⟨S, 0, none⟩ (.int .u8 kd)).setCell ⟨S, 1, none⟩ (.int .i64 nv)).frozen? ⟨S, 2, none⟩ = false := by simp [World.frozen?, a2]
  have a3 := box_set a2 2 (.int .i64 sv)
  simp only [List.setIfInBounds_toArray, List.set_cons_zero, List.set_cons_succ] at a3
  have c3 : (((G.setCell ⟨S, 0, none⟩ (.int .u8 kd)).setCell ⟨S, 1, none⟩ (.int .i64 nv)).setCell ⟨S, 2, none⟩ (.int .i64 sv)).cell? ⟨S, 3, none⟩ = some (.int .i64 0) := by simp [World.cell?, a3]
  have f3 : (((G.setCell ⟨S, 0, none⟩ (.int .u8 kd)).setCell ⟨S, 1, none⟩ (.int .i64 nv)).setCell ⟨S, 2, none⟩ (.int .i64 sv)).frozen? ⟨S, 3, none⟩ = false := by simp [World.frozen?, a3]
  have a4 := box_set a3 3 (.int .i64 0)
  simp only [List.setIfInBounds_toArray, List.set_cons_zero, List.set_cons_succ] at a4
  have hgZ := grown_set (o := 3) (v := .int .i64 0) (grown_set (o := 2) (v := .int .i64 sv) (grown_set (o := 1) (v := .int .i64 nv) (grown_set (o := 0) (v := .int .u8 kd) hgR s0) s0) s0) s0
  have hRZ := (((hR4.far (o := 0) (v := .int .u8 kd) n1 n3).far (o := 1) (v := .int .i64 nv) n1 n3).far (o := 2) (v := .int .i64 sv) n1 n3).far (o := 3) (v := .int .i64 0) n1 n3
  replace hgZ := Lib.hid hgZ
  replace hRZ := Lib.hid hRZ
  clear hA hB hgR hR4 a0 a1 a2 a3 hRES
  go_wp2_with fail
  exact bodyPost_ret (v := .agg #[.int .u8 kd, .int .i64 nv, .int .i64 sv, .int .i64 0]) (results_cell_row rfl _ _ S 46 _ (0, 0) _ rfl a4 Tryd.underlying46 rfl (by kernel_rfl)) rfl ⟨hgZ.out, ⟨_, rfl, rfl⟩, hRZ.out, hk4⟩
def ofTwoP (ts : List (Tk × Nat)) (k : Nat) : Except Nat ((Int × Int × Int) × Nat) :=
  match mustP ts 5 40 k with
  | .error j => .error j
  | .ok (_, k) =>
    match oneP ts 2 k with
    | .error j => .error j
    | .ok (sv, k) =>
      match mustP ts 5 44 k with
      | .error j => .error j
      | .ok (_, k) =>
        match oneP ts 2 k with
        | .error j => .error j
        | .ok (rv, k) =>
          match mustP ts 5 41 k with
          | .error j => .error j
          | .ok (_, k) =>
            match moreP ts k with
            | .error j => .error j
            | .ok (nv, k) =>
              .ok ((nv, sv, rv), k)
set_option maxRecDepth 100000 in
set_option maxHeartbeats 1000000 in
theorem ofTwo_P {R g c k : Nat} {ts : List (Tk × Nat)} (kd : Int) (w : World) (hE : EndsT ts) (hk : k < ts.length) (h : RdK R g c ts k w) :
    Calls Tryd.prog 137 #[.pointer (some ⟨R, 0, none⟩), .int .u8 kd] w (Told R g c ts (fun _ (n : (Int × Int × Int)) u => u = .agg #[.int .u8 kd, .int .i64 n.1, .int .i64 n.2.1, .int .i64 n.2.2]) (ofTwoP ts k) w) := by
  have hgl : g < w.heap.size := by obtain ⟨-, ⟨base, h2⟩, -, -⟩ := h; exact tks_lt h2
  have hRl := h.lt
  have hg0 : w.grownBy ((w.alloc (.cells #[.int .u8 0, .int .i64 0, .int .i64 0, .int .i64 0] 46)).alloc (.cells #[.int .u8 kd, .int .i64 0, .int .i64 0, .int .i64 0] 46)) none := (World.grownBy_alloc w _ none).trans (World.grownBy_alloc _ _ none)
  have hgR : w.grownBy ((w.alloc (.cells #[.int .u8 0, .int .i64 0, .int .i64 0, .int .i64 0] 46)).alloc (.cells #[.int .u8 kd, .int .i64 0, .int .i64 0, .int .i64 0] 46)) (some R) := (World.grownBy_alloc w _ (some R)).trans (World.grownBy_alloc _ _ (some R))
  have hR0 := h.kept hg0
  have hA : ((w.alloc (.cells #[.int .u8 0, .int .i64 0, .int .i64 0, .int .i64 0] 46)).alloc (.cells #[.int .u8 kd, .int .i64 0, .int .i64 0, .int .i64 0] 46)).heap[w.heap.size]? = some (.cells #[.int .u8 0, .int .i64 0, .int .i64 0, .int .i64 0] 46 (0, 0)) :=
    ((World.grownBy_alloc _ _ none).block _ (by simp) (by simp)).trans (World.alloc_heap_new w _)
  have hB : ((w.alloc (.cells #[.int .u8 0, .int .i64 0, .int .i64 0, .int .i64 0] 46)).alloc (.cells #[.int .u8 kd, .int .i64 0, .int .i64 0, .int .i64 0] 46)).heap[w.heap.size + 1]? = some (.cells #[.int .u8 kd, .int .i64 0, .int .i64 0, .int .i64 0] 46 (0, 0)) := by
    have := World.alloc_heap_new (w.alloc (.cells #[.int .u8 0, .int .i64 0, .int .i64 0, .int .i64 0] 46)) (.cells #[.int .u8 kd, .int .i64 0, .int .i64 0, .int .i64 0] 46)
    rwa [World.size_alloc] at this
  obtain ⟨RES, hRES⟩ : ∃ r, ofTwoP ts k = r := ⟨_, rfl⟩
  rw [hRES]
  replace hRES := Lib.hid hRES
  go_enter Tryd.func137, Tryd.ntmps137
  go_wp2_with fail
  generalize (w.alloc (.cells #[.int .u8 0, .int .i64 0, .int .i64 0, .int .i64 0] 46)).alloc (.cells #[.int .u8 kd, .int .i64 0, .int .i64 0, .int .i64 0] 46) = W0 at *
  obtain ⟨S, hS⟩ : ∃ S, w.heap.size = S := ⟨_, rfl⟩
  rw [hS] at hgl hRl hA hB ⊢
  have n1 : S ≠ R := by omega
  have n2 : S + 1 ≠ R := by omega
  have n3 : S ≠ g := by omega
  have n4 : S + 1 ≠ g := by omega
  have s1 : w.heap.size ≤ S + 1 := by omega
  have s0 : w.heap.size ≤ S := by omega
  replace hE := Lib.hid hE
  replace hS := Lib.hid hS
  clear hg0 h
  (with_reducible refine (must_P 5 40 W0 hE.out hk (by decide) hR0).mono ?_)
  rintro e w1 ⟨hg1, hT⟩
  cases hr1 : mustP ts 5 40 k with
  | error j' =>
    simp only [hr1] at hT
    obtain ⟨x, hx, rfl⟩ := hT
    replace hx := Lib.hid hx
    replace hr1 := Lib.hid hr1
    obtain rfl : RES = .error j' := by rw [← hRES.out]; unfold ofTwoP; simp only [hr1.out]
    clear hr1
    go_wp2_with fail
    exact ⟨rfl, grown_more hgR hg1, x, hx.out, rfl⟩
  | ok y =>
  obtain ⟨uu1, k1⟩ := y
  rw [hr1] at hT
  obtain ⟨⟨u, rfl, rfl⟩, hR1, hk1⟩ := hT
  replace hr1 := Lib.hid hr1
  replace hgR := grown_more hgR hg1
  replace hA := box_kept hA hg1 n1
  replace hB := box_kept hB hg1 n2
  clear hR0 hg1
  go_wp2_with fail
  (with_reducible refine (one_P 2 w1 hE.out hk1 (by decide) hR1).mono ?_)
  rintro e w2 ⟨hg2, hT⟩
  cases hr2 : oneP ts 2 k1 with
  | error j' =>
    simp only [hr2] at hT
    obtain ⟨x, hx, rfl⟩ := hT
    replace hx := Lib.hid hx
    replace hr2 := Lib.hid hr2
    obtain rfl : RES = .error j' := by rw [← hRES.out]; unfold ofTwoP; simp only [hr1.out]; simp only [hr2.out]
    clear hr2
    go_wp2_with fail
    exact ⟨rfl, grown_more hgR hg2, x, hx.out, rfl⟩
  | ok y =>
  obtain ⟨sv, k2⟩ := y
  rw [hr2] at hT
  obtain ⟨⟨u, rfl, rfl⟩, hR2, hk2⟩ := hT
  replace hr2 := Lib.hid hr2
  replace hgR := grown_set (o := 2) (v := .int .i64 sv) (grown_more hgR hg2) s1
  replace hA := box_kept hA hg2 n1
  replace hB := box_kept hB hg2 n2
  have q1 : w2.cell? ⟨S + 1, 2, none⟩ = some (.int .i64 0) := by simp [World.cell?, hB]
  have q2 : w2.frozen? ⟨S + 1, 2, none⟩ = false := by simp [World.frozen?, hB]
  replace hA := (Below.heap_setCell w2 ⟨S + 1, 2, none⟩ (.int .i64 sv) S (by show S ≠ S + 1; omega)).trans hA
  replace hB := box_set hB 2 (.int .i64 sv)
  replace hR2 := hR2.far (o := 2) (v := .int .i64 sv) n2 n4
  clear hR1 hg2
  go_wp2_with fail
  clear q1 q2
  generalize w2.setCell ⟨S + 1, 2, none⟩ (.int .i64 sv) = w2 at *
  (with_reducible refine (must_P 5 44 w2 hE.out hk2 (by decide) hR2).mono ?_)
  rintro e w3 ⟨hg3, hT⟩
  cases hr3 : mustP ts 5 44 k2 with
  | error j' =>
    simp only [hr3] at hT
    obtain ⟨x, hx, rfl⟩ := hT
    replace hx := Lib.hid hx
    replace hr3 := Lib.hid hr3
    obtain rfl : RES = .error j' := by rw [← hRES.out]; unfold ofTwoP; simp only [hr1.out]; simp only [hr2.out]; simp only [hr3.out]
    clear hr3
    go_wp2_with fail
    exact ⟨rfl, grown_more hgR hg3, x, hx.out, rfl⟩
  | ok y =>
  obtain ⟨uu3, k3⟩ := y
  rw [hr3] at hT
  obtain ⟨⟨u, rfl, rfl⟩, hR3, hk3⟩ := hT
  replace hr3 := Lib.hid hr3
  replace hgR := grown_more hgR hg3
  replace hA := box_kept hA hg3 n1
  replace hB := box_kept hB hg3 n2
  clear hR2 hg3
  go_wp2_with fail
  (with_reducible refine (one_P 2 w3 hE.out hk3 (by decide) hR3).mono ?_)
  rintro e w4 ⟨hg4, hT⟩
  cases hr4 : oneP ts 2 k3 with
  | error j' =>
    simp only [hr4] at hT
    obtain ⟨x, hx, rfl⟩ := hT
    replace hx := Lib.hid hx
    replace hr4 := Lib.hid hr4
    obtain rfl : RES = .error j' := by rw [← hRES.out]; unfold ofTwoP; simp only [hr1.out]; simp only [hr2.out]; simp only [hr3.out]; simp only [hr4.out]
    clear hr4
    go_wp2_with fail
    exact ⟨rfl, grown_more hgR hg4, x, hx.out, rfl⟩
  | ok y =>
  obtain ⟨rv, k4⟩ := y
  rw [hr4] at hT
  obtain ⟨⟨u, rfl, rfl⟩, hR4, hk4⟩ := hT
  replace hr4 := Lib.hid hr4
  replace hgR := grown_set (o := 3) (v := .int .i64 rv) (grown_more hgR hg4) s1
  replace hA := box_kept hA hg4 n1
  replace hB := box_kept hB hg4 n2
  have q1 : w4.cell? ⟨S + 1, 3, none⟩ = some (.int .i64 0) := by simp [World.cell?, hB]
  have q2 : w4.frozen? ⟨S + 1, 3, none⟩ = false := by simp [World.frozen?, hB]
  replace hA := (Below.heap_setCell w4 ⟨S + 1, 3, none⟩ (.int .i64 rv) S (by show S ≠ S + 1; omega)).trans hA
  replace hB := box_set hB 3 (.int .i64 rv)
  replace hR4 := hR4.far (o := 3) (v := .int .i64 rv) n2 n4
  clear hR3 hg4
  go_wp2_with fail
  clear q1 q2
  generalize w4.setCell ⟨S + 1, 3, none⟩ (.int .i64 rv) = w4 at *
  (with_reducible refine (must_P 5 41 w4 hE.out hk4 (by decide) hR4).mono ?_)
  rintro e w5 ⟨hg5, hT⟩
  cases hr5 : mustP ts 5 41 k4 with
  | error j' =>
    simp only [hr5] at hT
    obtain ⟨x, hx, rfl⟩ := hT
    replace hx := Lib.hid hx
    replace hr5 := Lib.hid hr5
    obtain rfl : RES = .error j' := by rw [← hRES.out]; unfold ofTwoP; simp only [hr1.out]; simp only [hr2.out]; simp only [hr3.out]; simp only [hr4.out]; simp only [hr5.out]
    clear hr5
    go_wp2_with fail
    exact ⟨rfl, grown_more hgR hg5, x, hx.out, rfl⟩
  | ok y =>
  obtain ⟨uu5, k5⟩ := y
  rw [hr5] at hT
  obtain ⟨⟨u, rfl, rfl⟩, hR5, hk5⟩ := hT
  replace hr5 := Lib.hid hr5
  replace hgR := grown_more hgR hg5
  replace hA := box_kept hA hg5 n1
  replace hB := box_kept hB hg5 n2
  clear hR4 hg5
  go_wp2_with fail
  (with_reducible refine (more_P w5 hE.out hk5 hR5).mono ?_)
  rintro e w6 ⟨hg6, hT⟩
  cases hr6 : moreP ts k5 with
  | error j' =>
    simp only [hr6] at hT
    obtain ⟨x, hx, rfl⟩ := hT
    replace hx := Lib.hid hx
    replace hr6 := Lib.hid hr6
    obtain rfl : RES = .error j' := by rw [← hRES.out]; unfold ofTwoP; simp only [hr1.out]; simp only [hr2.out]; simp only [hr3.out]; simp only [hr4.out]; simp only [hr5.out]; simp only [hr6.out]
    clear hr6
    go_wp2_with fail
    exact ⟨rfl, grown_more hgR hg6, x, hx.out, rfl⟩
  | ok y =>
  obtain ⟨nv, k6⟩ := y
  rw [hr6] at hT
  obtain ⟨⟨u, rfl, rfl⟩, hR6, hk6⟩ := hT
  replace hr6 := Lib.hid hr6
  replace hgR := grown_set (o := 1) (v := .int .i64 nv) (grown_more hgR hg6) s1
  replace hA := box_kept hA hg6 n1
  replace hB := box_kept hB hg6 n2
  have q1 : w6.cell? ⟨S + 1, 1, none⟩ = some (.int .i64 0) := by simp [World.cell?, hB]
  have q2 : w6.frozen? ⟨S + 1, 1, none⟩ = false := by simp [World.frozen?, hB]
  replace hA := (Below.heap_setCell w6 ⟨S + 1, 1, none⟩ (.int .i64 nv) S (by show S ≠ S + 1; omega)).trans hA
  replace hB := box_set hB 1 (.int .i64 nv)
  replace hR6 := hR6.far (o := 1) (v := .int .i64 nv) n2 n4
  clear hR5 hg6
  obtain rfl : RES = .ok ((nv, sv, rv), k6) := by rw [← hRES.out]; unfold ofTwoP; simp only [hr1.out]; simp only [hr2.out]; simp only [hr3.out]; simp only [hr4.out]; simp only [hr5.out]; simp only [hr6.out]
  obtain ⟨G, hG⟩ : ∃ G, (w6.setCell ⟨S + 1, 1, none⟩ (.int .i64 nv)) = G := ⟨_, rfl⟩
  rw [hG] at hA hB hgR hR6
  simp only [List.setIfInBounds_toArray, List.set_cons_zero, List.set_cons_succ] at hB
  have y0 : G.cell? ⟨S + 1, 0, none⟩ = some (.int .u8 kd) := by simp [World.cell?, hB]
  have y1 : G.cell? ⟨S + 1, 1, none⟩ = some (.int .i64 nv) := by simp [World.cell?, hB]
  have y2 : G.cell? ⟨S + 1, 2, none⟩ = some (.int .i64 sv) := by simp [World.cell?, hB]
  have y3 : G.cell? ⟨S + 1, 3, none⟩ = some (.int .i64 rv) := by simp [World.cell?, hB]
  have a0 := hA
  have c0 : (G).cell? ⟨S, 0, none⟩ = some (.int .u8 0) := by simp [World.cell?, a0]
  have f0 : (G).frozen? ⟨S, 0, none⟩ = false := by simp [World.frozen?, a0]
  have a1 := box_set a0 0 (.int .u8 kd)
  simp only [List.setIfInBounds_toArray, List.set_cons_zero, List.set_cons_succ] at a1
  have c1 : (G.setCell ⟨S, 0, none⟩ (.int .u8 kd)).cell? ⟨S, 1, none⟩ = some (.int .i64 0) := by simp [World.cell?, a1]
  have f1 : (G.setCell ⟨S, 0, none⟩ (.int .u8 kd)).frozen? ⟨S, 1, none⟩ = false := by simp [World.frozen?, a1]
  have a2 := box_set a1 1 (.int .i64 nv)
  simp only [List.setIfInBounds_toArray, List.set_cons_zero, List.set_cons_succ] at a2
  have c2 : ((G.setCell ⟨S, 0, none⟩ (.int .u8 kd)).setCell ⟨S, 1, none⟩ (.int .i64 nv)).cell? ⟨S, 2, none⟩ = some (.int .i64 0) := by simp [World.cell?, a2]
  have f2 : ((G.setCell ⟨S, 0, none⟩ (.int .u8 kd)).setCell ⟨S, 1, none⟩ (.int .i64 nv)).frozen? ⟨S, 2, none⟩ = false := by simp [World.frozen?, a2]
  have a3 := box_set a2 2 (.int .i64 sv)
  simp only [List.setIfInBounds_toArray, List.set_cons_zero, List.set_cons_succ] at a3
  have c3 : (((G.setCell ⟨S, 0, none⟩ (.int .u8 kd)).setCell ⟨S, 1, none⟩ (.int .i64 nv)).setCell ⟨S, 2, none⟩ (.int .i64 sv)).cell? ⟨S, 3, none⟩ = some (.int .i64 0) := by simp [World.cell?, a3]
  have f3 : (((G.setCell ⟨S, 0, none⟩ (.int .u8 kd)).setCell ⟨S, 1, none⟩ (.int .i64 nv)).setCell ⟨S, 2, none⟩ (.int .i64 sv)).frozen? ⟨S, 3, none⟩ = false := by simp [World.frozen?, a3]
  have a4 := box_set a3 3 (.int .i64 rv)
  simp only [List.setIfInBounds_toArray, List.set_cons_zero, List.set_cons_succ] at a4
  have hgZ := grown_set (o := 3) (v := .int .i64 rv) (grown_set (o := 2) (v := .int .i64 sv) (grown_set (o := 1) (v := .int .i64 nv) (grown_set (o := 0) (v := .int .u8 kd) hgR s0) s0) s0) s0
  have hRZ := (((hR6.far (o := 0) (v := .int .u8 kd) n1 n3).far (o := 1) (v := .int .i64 nv) n1 n3).far (o := 2) (v := .int .i64 sv) n1 n3).far (o := 3) (v := .int .i64 rv) n1 n3
  replace hgZ := Lib.hid hgZ
  replace hRZ := Lib.hid hRZ
  clear hA hB hgR hR6 a0 a1 a2 a3 hRES
  go_wp2_with fail
  exact bodyPost_ret (v := .agg #[.int .u8 kd, .int .i64 nv, .int .i64 sv, .int .i64 rv]) (results_cell_row rfl _ _ S 46 _ (0, 0) _ rfl a4 Tryd.underlying46 rfl (by kernel_rfl)) rfl ⟨hgZ.out, ⟨_, rfl, rfl⟩, hRZ.out, hk6⟩
end Go.Proofs.YtkedifhlkiffoaaDoor
